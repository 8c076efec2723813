import Derived.Test.YtlbgdgobhiokpaaDoorPart14

/- The document's Check, Next. -/
namespace Go.Proofs.YtlbgdgobhiokpaaDoor
open Go.RowKit
set_option linter.unusedVariables false

/-- Numbers that a memory holds. -/
def NatN (l : List Nd) : Prop := ∀ x ∈ l, 0 ≤ x.2.1 ∧ x.2.1 ≤ 18446744073709551615
theorem NatN.at {l : List Nd} (h : NatN l) {k : Nat} (hk : k < l.length) : 0 ≤ (l.getD k nil0).2.1 ∧ (l.getD k nil0).2.1 ≤ 18446744073709551615 :=
  h _ (by rw [List.getD_eq_getElem?_getD, List.getElem?_eq_getElem hk]; exact List.getElem_mem hk)
set_option maxRecDepth 100000 in
set_option maxHeartbeats 4000000 in
theorem checkD_any (a : Option Addr) (len cap : Nat) (l : List Nd) (w : World) (hl : l.length = len) (hs : len ≤ 1000000) (hr : Hid (NRow w a l)) (hn : Hid (NatN l)) :
    Calls Tryd.prog 42 #[.slice a len cap] w fun e w' => e = .returned (pairv (chk 1 0 l)) ∧ Below w.heap.size w w' := by
  go_enter Tryd.func42, Tryd.ntmps42
  go_wp2_with fail
  go_loopw [4, 5] (fun m i wr => ∃ (M : Int) (k : Nat), k ≤ len ∧ i = .int .i64 k ∧ m = .int .i64 M ∧ 0 ≤ M ∧ M ≤ 1 + 1048576 * (k : Int) ∧ Hid (chk M k (l.drop k) = chk 1 0 l) ∧ Hid (Below w.heap.size w wr)) (fun _ i _ => len - (intOf i).toNat)
  case atStart => exact ⟨1, 0, Nat.zero_le _, rfl, rfl, by omega, by omega, rfl, Below.refl _ _⟩
  case round =>
    obtain ⟨M, k, hk, rfl, rfl, hM0, hM1, HC, HB⟩ := hrel
    by_cases hlt : k < len
    · obtain ⟨b, off, rfl, hb, hc⟩ := hr.out.open (by omega)
      obtain ⟨c0, c1, c2⟩ := hc k (by omega)
      have hlt' : (k : Int) < len := by omega
      have d0 := (HB.out.cell (p := ⟨b, off + k * 3, none⟩) hb).trans c0
      have d1 := (HB.out.cell (p := ⟨b, off + k * 3 + 1, none⟩) hb).trans c1
      have d2 := (HB.out.cell (p := ⟨b, off + k * 3 + 2, none⟩) hb).trans c2
      have HC1 : Hid (chk M k (l.getD k nil0 :: l.drop (k + 1)) = chk 1 0 l) := by
        have := HC.out
        rw [drop_at l k (by omega)] at this
        exact this
      have hnk := hn.out.at (k := k) (by omega)
      clear hc c0 c1 c2 HC
      generalize l.getD k nil0 = x at *
      obtain ⟨xk, xn, xc⟩ := x
      simp only at hnk
      by_cases hM : M = 0
      · subst hM
        have HE : Hid (chk 1 0 l = (40, (k : Int))) := by
          have := HC1.out
          rw [chk, if_pos (.inl rfl)] at this
          exact this.symm
        go_wp2
        go_ret2
        exact ⟨ret_pair HE.out, HB.out⟩
      · have hbM : (M == 0) = false := by simpa using hM
        go_wp2_with fail
        refine (rightD_any (xk, xn, xc) _ hnk).mono ?_; rintro e w1 ⟨rfl, hB1⟩
        have HB1 : Hid (Below w.heap.size w w1) := HB.out.trans (hB1.mono HB.out.size)
        have f2 : w1.cell? ⟨b, off + k * 3 + 2, none⟩ = some (.int .i64 xc) := (HB1.out.cell (p := ⟨b, off + k * 3 + 2, none⟩) hb).trans ((HB.out.cell (p := ⟨b, off + k * 3 + 2, none⟩) hb).symm.trans d2)
        clear hB1 d0 d1 d2
        by_cases hx : right (xk, xn, xc) = true
        · have HC2 : Hid (chk (M + (xc - 1)) (k + 1) (l.drop (k + 1)) = chk 1 0 l) := by
            have := HC1.out
            rw [chk, if_neg (by simp [hM, hx])] at this
            exact this
          have hxc := right_kids hx
          simp only at hxc
          clear HC1 HB hr
          rw [hx]
          go_wp2
          go_roundw
          case rel => exact ⟨M + (xc - 1), k + 1, by omega, by go_num, by go_num, by omega, by omega, by simpa using HC2, HB1⟩
          case measure => simp [intOf]; omega
        · have hx' : right (xk, xn, xc) = false := by simpa using hx
          have HE : Hid (chk 1 0 l = (40, (k : Int))) := by
            have := HC1.out
            rw [chk, if_pos (.inr hx')] at this
            exact this.symm
          rw [hx']
          go_wp2
          go_ret2
          exact ⟨ret_pair HE.out, HB1.out⟩
    · obtain rfl : k = len := by omega
      have HC1 := HC.out
      rw [List.drop_eq_nil_of_le (by omega), chk] at HC1
      have hnl : ¬ ((k : Int) < (k : Int)) := by omega
      by_cases hM : 0 < M
      · rw [if_pos hM] at HC1
        have HC2 : Hid (chk 1 0 l = (40, (k : Int))) := HC1.symm
        clear HC1
        go_wp2
        go_ret2
        exact ⟨ret_pair HC2.out, HB.out⟩
      · rw [if_neg hM] at HC1
        have HC2 : Hid (chk 1 0 l = (0, 0)) := HC1.symm
        clear HC1
        go_wp2
        go_ret2
        exact ⟨ret_pair HC2.out, HB.out⟩
set_option maxRecDepth 100000 in
set_option maxHeartbeats 4000000 in
theorem behindD_any (a : Option Addr) (len cap p : Nat) (l : List Nd) (w : World) (hl : l.length = len) (hs : len ≤ 1000000) (hp : p ≤ len) (hr : Hid (NRow w a l)) (he : Hid (Enough 1 (l.drop p))) :
    Calls Tryd.prog 43 #[.slice a len cap, .int .i64 p] w fun e w' => e = .returned (.int .i64 ((p + bh 1 (l.drop p) : Nat) : Int)) ∧ w = w' := by
  go_enter Tryd.func43, Tryd.ntmps43
  go_wp2_with fail
  go_loopw [1, 5] (fun i m wr => ∃ (q u : Nat), q ≤ len ∧ p ≤ q ∧ i = .int .i64 q ∧ m = .int .i64 u ∧ u ≤ 1048576 * (q + 1) ∧ Hid (Enough u (l.drop q)) ∧ Hid (q + bh u (l.drop q) = p + bh 1 (l.drop p)) ∧ w = wr) (fun i _ _ => len - (intOf i).toNat)
  case atStart => exact ⟨p, 1, hp, Nat.le_refl _, rfl, rfl, by omega, he, rfl, rfl⟩
  case round =>
    clear he
    obtain ⟨q, u, hq, hpq, rfl, rfl, hu, HE, HQ, rfl⟩ := hrel
    cases u with
    | zero =>
      go_wp2
      go_ret
      refine ⟨?_, rfl⟩
      have := HQ.out
      rw [bh_zero, Nat.add_zero] at this
      exact ret_int (congrArg Nat.cast this)
    | succ u =>
      have hlt : q < len := by
        rcases Nat.lt_or_ge q len with h | h
        · exact h
        · have := HE.out
          rw [List.drop_eq_nil_of_le (by omega)] at this
          exact this.elim
      obtain ⟨b, off, rfl, hb, hc⟩ := hr.out.open (by omega)
      obtain ⟨-, -, c2⟩ := hc q (by omega)
      have HE1 := HE.out
      have HQ1 := HQ.out
      rw [drop_at l q (by omega)] at HE1 HQ1
      obtain ⟨x0, x1, HE2⟩ := HE1
      rw [bh] at HQ1
      generalize (l.getD q nil0).2.2 = xc at *
      obtain ⟨xc, rfl⟩ := Int.eq_ofNat_of_zero_le x0
      simp only [Int.toNat_natCast] at *
      have HE3 : Hid (Enough (u + xc) (l.drop (q + 1))) := HE2
      have HQ3 : Hid (q + 1 + bh (u + xc) (l.drop (q + 1)) = p + bh 1 (l.drop p)) := by show _ = _; omega
      clear HE2 HQ1 hc HE HQ
      go_wp2
      go_roundw
      case rel => exact ⟨q + 1, u + xc, by omega, by omega, by go_num, by go_num, by omega, HE3, HQ3, trivial⟩
      case measure => simp [intOf]; omega
set_option maxRecDepth 100000 in
set_option maxHeartbeats 4000000 in
theorem nextD_any (a : Option Addr) (len cap : Nat) (p : Int) (l : List Nd) (w : World) (hl : l.length = len) (hs : len ≤ 1000000) (hr : Hid (NRow w a l)) (hn : Hid (NatN l)) :
    Calls Tryd.prog 22 #[.slice a len cap, .int .i64 p] w fun e w' => e = .returned (pairv (nextR l p)) ∧ Below w.heap.size w w' := by
  go_enter Tryd.func22, Tryd.ntmps22
  go_wp2_with fail
  refine (checkD_any a len cap l w hl hs hr hn).mono ?_; rintro e w1 ⟨rfl, hB1⟩
  unfold pairv
  rcases chk_err l 1 0 with hc | hc
  · obtain ⟨hen, _, _⟩ := chk_enough l 1 0 hc
    by_cases h1 : p < 0
    · have hpl : place l p = 3 := by rw [place, if_pos hc, if_pos (.inl h1)]
      have HE : Hid (nextR l p = (0, 3)) := by show _ = _; rw [nextR, hpl, if_neg (by omega)]
      clear hpl
      rw [hc]
      go_wp2
      go_ret2
      exact ⟨ret_pair HE.out, hB1⟩
    · by_cases h2 : (len : Int) ≤ p
      · have hpl : place l p = 3 := by rw [place, if_pos hc, if_pos (.inr (by omega))]
        have HE : Hid (nextR l p = (0, 3)) := by show _ = _; rw [nextR, hpl, if_neg (by omega)]
        clear hpl
        rw [hc]
        go_wp2
        go_ret2
        exact ⟨ret_pair HE.out, hB1⟩
      · obtain ⟨q, rfl⟩ := Int.eq_ofNat_of_zero_le (show 0 ≤ p by omega)
        have HE : Hid (nextR l (q : Int) = (((q + bh 1 (l.drop q) : Nat) : Int), 0)) := by
          show _ = _
          have hpl : place l (q : Int) = 0 := by rw [place, if_pos hc, if_neg (by omega)]
          rw [nextR, if_pos hpl, Int.toNat_natCast]
          simp
        have hen2 : Hid (Enough 1 (l.drop q)) := chk_at l 1 0 q hc (by omega)
        have hr1 : Hid (NRow w1 a l) := hr.out.later hB1
        rw [hc]
        go_wp2_with fail
        refine (behindD_any a len cap q l w1 hl hs (by omega) hr1 hen2).mono ?_; rintro e w2 ⟨rfl, rfl⟩
        go_wp2
        go_ret2
        exact ⟨ret_pair HE.out, hB1⟩
  · have HE : Hid (nextR l p = (0, 40)) := by
      show _ = _
      have hpl : place l p = 40 := by rw [place, if_neg (by rw [hc]; omega)]
      rw [nextR, hpl, if_neg (by omega)]
    rw [hc]
    go_wp2
    go_ret2
    exact ⟨ret_pair HE.out, hB1⟩
end Go.Proofs.YtlbgdgobhiokpaaDoor

/- Parents and kids' numbers, laid out; plain, and where numbers lie in memory. -/
namespace Go.Proofs.YtlbgdgobhiokpaaDoor
open Go.RowKit
set_option linter.unusedVariables false

/-- Whose kid, and which: laid for the nodes ahead of i, and i's first k kids. -/
structure PKs (M : List Nd) (Pl Kl : List Int) (i k : Nat) : Prop where
  pl : Pl.length = M.length
  kl : Kl.length = M.length
  is : ∀ j p q, IsKid M j p q → (p < i ∨ (p = i ∧ q < k)) → Pl.getD j 0 = p ∧ Kl.getD j 0 = q
section
variable {M : List Nd} {Pl Kl : List Int} {i k : Nat}
theorem PKs.begin (M : List Nd) (n : Nat) (hn : M.length = n) : PKs M (List.replicate n 0) (List.replicate n 0) 0 0 := ⟨by simp [hn], by simp [hn], fun j p q _ h => by omega⟩
theorem getD_setI (l : List Int) (a b : Nat) (x : Int) (ha : a < l.length) : (l.set a x).getD b 0 = if b = a then x else l.getD b 0 := by
  simp only [List.getD_eq_getElem?_getD]
  by_cases e : b = a
  · subst e; rw [List.getElem?_set_self ha, if_pos rfl]; rfl
  · rw [List.getElem?_set_ne (by omega), if_neg e]
theorem PKs.step (h : PKs M Pl Kl i k) (hM : (chk 1 0 M).1 = 0) (hi : i < M.length) (hk : k < kN (M.getD i nil0)) : PKs M (Pl.set (kp M i k) i) (Kl.set (kp M i k) k) i (k + 1) := by
  have hin := kp_in hM hi hk
  refine ⟨by simp [h.pl], by simp [h.kl], fun j p q hK hc => ?_⟩
  rw [getD_setI _ _ _ _ (by rw [h.pl]; exact hin), getD_setI _ _ _ _ (by rw [h.kl]; exact hin)]
  by_cases e : j = kp M i k
  · rw [if_pos e, if_pos e]
    subst e
    obtain ⟨rfl, rfl⟩ := isKid_one hM hK ⟨hi, hk, rfl⟩
    exact ⟨rfl, rfl⟩
  · rw [if_neg e, if_neg e]
    refine h.is j p q hK ?_
    rcases hc with hc | ⟨rfl, hc⟩
    · exact .inl hc
    · rcases Nat.lt_or_ge q k with h1 | h1
      · exact .inr ⟨rfl, h1⟩
      · obtain rfl : q = k := by omega
        exact absurd hK.2.2.symm e
theorem PKs.next (h : PKs M Pl Kl i (kN (M.getD i nil0))) : PKs M Pl Kl (i + 1) 0 := ⟨h.pl, h.kl, fun j p q hK hc => by
  refine h.is j p q hK ?_
  rcases hc with hc | ⟨rfl, hc⟩
  · rcases Nat.lt_or_ge p i with h1 | h1
    · exact .inl h1
    · obtain rfl : p = i := by omega
      exact .inr ⟨rfl, hK.2.1⟩
  · omega⟩
theorem PKs.all (h : PKs M Pl Kl M.length 0) {j p q : Nat} (hK : IsKid M j p q) : Pl.getD j 0 = p ∧ Kl.getD j 0 = q := h.is j p q hK (.inl hK.1)
/-- The kids of i, up to some node. -/
def nkL (Pl : List Int) (i j : Nat) : List Nat := (List.range j).filter fun x => decide (i < x) && decide (Pl.getD x 0 = (i : Int))
theorem nkL_begin (Pl : List Int) (i : Nat) : nkL Pl i (i + 1) = [] := by
  unfold nkL
  rw [List.filter_eq_nil_iff]
  intro x hx
  have := List.mem_range.1 hx
  simp
  omega
theorem nkL_hit (Pl : List Int) (i j : Nat) (h1 : i < j) (h2 : Pl.getD j 0 = (i : Int)) : nkL Pl i (j + 1) = nkL Pl i j ++ [j] := by
  unfold nkL
  rw [List.range_succ, List.filter_append]
  congr 1
  simp [h1, ← h2, List.getD_eq_getElem?_getD]
theorem nkL_not (Pl : List Int) (i j : Nat) (h2 : Pl.getD j 0 ≠ (i : Int)) : nkL Pl i (j + 1) = nkL Pl i j := by
  unfold nkL
  rw [List.range_succ, List.filter_append]
  have : List.filter (fun x => decide (i < x) && decide (Pl.getD x 0 = (i : Int))) [j] = [] := by
    rw [List.filter_eq_nil_iff]
    intro x hx
    obtain rfl := List.mem_singleton.1 hx
    simp only [h2, decide_false, Bool.and_false]
    simp
  rw [this, List.append_nil]
theorem nkL_nodup (Pl : List Int) (i j : Nat) : (nkL Pl i j).Nodup := List.nodup_range.filter _
theorem nkL_mem (h : PKs M Pl Kl M.length 0) (hM : (chk 1 0 M).1 = 0) (i j : Nat) : j ∈ nkL Pl i M.length ↔ ∃ q, IsKid M j i q := by
  unfold nkL
  rw [List.mem_filter, List.mem_range]
  simp only [Bool.and_eq_true, decide_eq_true_eq]
  constructor
  · rintro ⟨h1, h2, h3⟩
    obtain ⟨p, q, hK⟩ := isKid_ex hM (by omega) h1
    have := (h.all hK).1
    obtain rfl : p = i := by omega
    exact ⟨q, hK⟩
  · rintro ⟨q, hK⟩
    exact ⟨hK.in hM, hK.lt, (h.all hK).1⟩
end
def natL (O : List Nat) : List Int := List.map (fun p : Nat => (p : Int)) O
theorem natL_len (O : List Nat) : (natL O).length = O.length := by simp [natL]
theorem natL_append (O P : List Nat) : natL (O ++ P) = natL O ++ natL P := by simp [natL]
theorem natL_at (O : List Nat) (k : Nat) : (natL O).getD k 0 = (O.getD k 0 : Nat) := by
  simp only [natL, List.getD_eq_getElem?_getD, List.getElem?_map]
  cases O[k]? <;> rfl
theorem natL_take (O : List Nat) (k : Nat) : natL (O.take k) = (natL O).take k := by simp [natL, List.map_take]
theorem natL_drop (O : List Nat) (k : Nat) : natL (O.drop k) = (natL O).drop k := by simp [natL, List.map_drop]
/-- x[k:], of a slice with room behind. -/
theorem cut_l' (g L c k : Nat) (t : Int) (ht : t = k) (hk : k ≤ L) (hL : L ≤ c) : ∃ x' : Nat, (k < L → x' = k) ∧ ∀ w', (Instr.slice 43 (.slice (some ⟨g, 0, none⟩) L c) (some (.int .i64 t)) none none).run Tryd.prog w' = .ok (.slice (some ⟨g, x', none⟩) (L - k) (c - k)) w' := by
  subst ht
  refine ⟨if c = k then 0 else k, fun h => if_neg (by omega), fun w' => ?_⟩
  rw [run_slice_l (P := Tryd.prog) w' 43 _ L c elem43 .i64 k (by omega) (by omega), sizeOf43]
  by_cases h : c = k
  · simp [sliced, Result.andThen, h]
  · simp [sliced, Result.andThen, h, add_none]
theorem cut_h' (g L c k : Nat) (t : Int) (ht : t = k) (hk : k ≤ c) (w' : World) : (Instr.slice 43 (.slice (some ⟨g, 0, none⟩) L c) none (some (.int .i64 t)) none).run Tryd.prog w' = .ok (.slice (some ⟨g, 0, none⟩) k c) w' := by
  subst ht
  rw [run_slice_h (P := Tryd.prog) w' 43 _ L c elem43 .i64 k (by omega) (by omega), sizeOf43]
  simp [sliced, Result.andThen, Addr.add]
/-- Number k is struck out of a row of numbers: a new row. -/
theorem run_strike {B k : Nat} {w : World} {vo : Value} {O : List Nat} (h : w.ownsRow B 3 1 vo O.length (cellsL .i64 (natL O))) (hk : k < O.length) (hl : O.length ≤ 1000000) :
    ∃ g c, vo = .slice (some ⟨g, 0, none⟩) O.length c ∧ O.length ≤ c ∧ c ≤ maxLen ∧ w.cell? ⟨g, k, none⟩ = some (.int .i64 ((O.getD k 0 : Nat) : Int)) ∧ ∃ x' v1 w1 v2 w2, (∀ w', (Instr.slice 43 (.slice (some ⟨g, 0, none⟩) O.length c) (some (.int .i64 ((k : Int) + 1))) none none).run Tryd.prog w' = .ok (.slice (some ⟨g, x', none⟩) (O.length - (k + 1)) (c - (k + 1))) w') ∧
      (Builtin.append_ #[43, 43] 43 #[.slice none 0 0, .slice (some ⟨g, 0, none⟩) k c]).run Tryd.prog w = .ok v1 w1 ∧ (Builtin.append_ #[43, 43] 43 #[v1, .slice (some ⟨g, x', none⟩) (O.length - (k + 1)) (c - (k + 1))]).run Tryd.prog w1 = .ok v2 w2 ∧
      w2.ownsRow w.heap.size 3 1 v2 (O.take k ++ O.drop (k + 1)).length (cellsL .i64 (natL (O.take k ++ O.drop (k + 1)))) ∧ Below w.heap.size w w2 := by
  obtain ⟨g, c, ys, rfl, hb, h1, h2, h3, h4, hK⟩ := own_blk h (by omega)
  have hat : ∀ i, i < O.length → w.cell? ⟨g, i, none⟩ = some (.int .i64 ((natL O).getD i 0)) := fun i hi => by
    have h5 : ys[i]? = (ys.take O.length)[i]? := by rw [List.getElem?_take, if_pos hi]
    rw [hK.cell, h5, h4, cellsL_at _ _ _ (by rw [natL_len]; exact hi)]
  obtain ⟨x', hx', hs⟩ := cut_l' g O.length c (k + 1) ((k : Int) + 1) (by omega) (by omega) h1
  have hrow1 : Row .i64 w (some ⟨g, 0, none⟩) (natL (O.take k)) := Row.mk fun i hi => by
    rw [natL_len, List.length_take] at hi
    rw [Nat.zero_add, hat i (by omega), natL_take]
    simp only [List.getD_eq_getElem?_getD, List.getElem?_take, if_pos (show i < k by omega)]
  obtain ⟨v1, w1, r1, o1, g1⟩ := run_copy E43 w 43 w.heap.size (some ⟨g, 0, none⟩) k c (natL (O.take k)) (by rw [natL_len, List.length_take]; omega) hrow1 (fun e => by cases e) (by unfold maxLen; omega) (by omega) (Nat.le_refl _)
  have hB1 : Below w.heap.size w w1 := ((Upd.refl (fun _ => False) w).grown g1 (fun k hk => by cases hk)).below _ (Nat.le_refl _) (fun k hk => hk.elim)
  have hrow2 : Row .i64 w1 (some ⟨g, x', none⟩) (natL (O.drop (k + 1))) := Row.mk fun i hi => by
    rw [natL_len, List.length_drop] at hi
    rw [hx' (by omega), hB1.cell (p := ⟨g, k + 1 + i, none⟩) hK.lt, hat (k + 1 + i) (by omega), natL_drop]
    simp only [List.getD_eq_getElem?_getD, List.getElem?_drop]
  obtain ⟨v2, w2, r2, o2, g2⟩ := run_app E43 w1 43 w.heap.size v1 k (natL (O.take k)) o1 (some ⟨g, x', none⟩) (O.length - (k + 1)) (c - (k + 1)) (natL (O.drop (k + 1))) (by rw [natL_len, List.length_drop]) hrow2 (fun e => by cases e) (by unfold maxLen; omega) (by omega) hB1.size
  have hB2 : Below w.heap.size w w2 := (((Upd.of_below hB1 : Upd (fun _ => False) w w1)).grown g2 (fun q hq => .inr (o1.lt q hq).1)).below _ (Nat.le_refl _) (fun k hk => hk.elim)
  refine ⟨g, c, rfl, h1, h2, by rw [hat k hk, natL_at], x', v1, w1, v2, w2, hs, r1, r2, ?_, hB2⟩
  rw [natL_append, List.length_append, List.length_take, List.length_drop, Nat.min_eq_left (by omega)]
  exact o2
end Go.Proofs.YtlbgdgobhiokpaaDoor

/- ValueOrder: what lies in memory. -/
namespace Go.Proofs.YtlbgdgobhiokpaaDoor
open Go.RowKit
set_option linter.unusedVariables false

/-- Two rows of numbers, apart. -/
structure PMem (w0 wr : World) (gp gq : Nat) (Pl Kl : List Int) : Prop where
  p : Blk wr gp 3 (cellsL .i64 Pl)
  q : Blk wr gq 3 (cellsL .i64 Kl)
  ne : gp ≠ gq
  hp : w0.heap.size ≤ gp
  hq : w0.heap.size ≤ gq
  bel : Below w0.heap.size w0 wr
theorem PMem.begin (w0 : World) (n : Nat) : PMem w0 ((w0.alloc (.cells (madeCells #[.int .i64 0] n) 3)).alloc (.cells (madeCells #[.int .i64 0] n) 3)) w0.heap.size (w0.heap.size + 1) (List.replicate n 0) (List.replicate n 0) := by
  have e : cellsL .i64 (List.replicate n 0) = (madeCells #[.int .i64 0] n).toList := by rw [toList_madeCells_one, cellsL, List.map_replicate]
  have hsz : (w0.alloc (.cells (madeCells #[.int .i64 0] n) 3)).heap.size = w0.heap.size + 1 := by simp
  refine ⟨?_, ?_, by omega, Nat.le_refl _, by omega, ?_⟩
  · rw [e]; exact (Blk.newA w0 _ 3).alloc _
  · rw [e, ← hsz]; exact Blk.newA _ _ 3
  · exact ((Below.refl _ _).alloc (Nat.le_refl _) _).alloc (by rw [hsz]; omega) _
section
variable {w0 wr w' : World} {gp gq : Nat} {Pl Kl : List Int}
theorem PMem.later (h : PMem w0 wr gp gq Pl Kl) (hB : Below wr.heap.size wr w') : PMem w0 w' gp gq Pl Kl := ⟨h.p.later hB, h.q.later hB, h.ne, h.hp, h.hq, h.bel.trans (hB.mono h.bel.size)⟩
theorem PMem.setp (h : PMem w0 wr gp gq Pl Kl) (i : Nat) (x : Int) : PMem w0 (wr.setCell ⟨gp, i, none⟩ (.int .i64 x)) gp gq (Pl.set i x) Kl := by
  refine ⟨?_, h.q.other _ _ h.ne.symm, h.ne, h.hp, h.hq, h.bel.trans (((Upd.refl (fun k => k = gp) wr).set _ _ (.inl rfl)).below _ h.bel.size fun k e => by rw [e]; exact h.hp)⟩
  rw [← cellsL_set]; exact h.p.set i _
theorem PMem.setq (h : PMem w0 wr gp gq Pl Kl) (i : Nat) (x : Int) : PMem w0 (wr.setCell ⟨gq, i, none⟩ (.int .i64 x)) gp gq Pl (Kl.set i x) := by
  refine ⟨h.p.other _ _ h.ne, ?_, h.ne, h.hp, h.hq, h.bel.trans (((Upd.refl (fun k => k = gq) wr).set _ _ (.inl rfl)).below _ h.bel.size fun k e => by rw [e]; exact h.hq)⟩
  rw [← cellsL_set]; exact h.q.set i _
theorem PMem.pc (h : PMem w0 wr gp gq Pl Kl) {j : Nat} (hj : j < Pl.length) : wr.cell? ⟨gp, j, none⟩ = some (.int .i64 (Pl.getD j 0)) := by rw [h.p.cell, cellsL_at _ _ _ hj]
theorem PMem.qc (h : PMem w0 wr gp gq Pl Kl) {j : Nat} (hj : j < Kl.length) : wr.cell? ⟨gq, j, none⟩ = some (.int .i64 (Kl.getD j 0)) := by rw [h.q.cell, cellsL_at _ _ _ hj]
end
/-- An arena, the list of what is open, the numbers that were given. -/
structure OMem (B B2 b gnum : Nat) (wA wr : World) (vo vn vs vm : Value) (O : List Nat) (N : List Nd) (S G : Stk) (Nl : List Int) : Prop where
  an : An B wr b vn vs vm N S G
  op : wr.ownsRow B2 3 1 vo O.length (cellsL .i64 (natL O))
  num : Blk wr gnum 3 (cellsL .i64 Nl)
  g1 : B ≤ gnum
  g2 : gnum < B2
  g3 : B2 ≤ wr.heap.size
  g4 : wA.heap.size = B
  bel : Below B wA wr
section
variable {B B2 b gnum : Nat} {wA wr w' : World} {vo vn vs vm vo' vn' vs' vm' : Value} {O O' : List Nat} {N N' : List Nd} {S G S' G' : Stk} {Nl : List Int}
theorem OMem.begin {wA w1 : World} {n : Nat} (hA : An wA.heap.size w1 wA.heap.size (.slice none 0 0) (.slice none 0 0) (.map none) [] [] []) (hB : Below wA.heap.size wA w1) :
    OMem wA.heap.size (w1.alloc (.cells (madeCells #[.int .i64 0] n) 3)).heap.size wA.heap.size w1.heap.size wA ((w1.alloc (.cells (madeCells #[.int .i64 0] n) 3)).alloc (.cells #[.int .i64 0] 3)) (.slice (some ⟨(w1.alloc (.cells (madeCells #[.int .i64 0] n) 3)).heap.size, 0, none⟩) 1 1) (.slice none 0 0) (.slice none 0 0) (.map none) [0] [] [] [] (List.replicate n 0) := by
  have e : cellsL .i64 (List.replicate n 0) = (madeCells #[.int .i64 0] n).toList := by rw [toList_madeCells_one, cellsL, List.map_replicate]
  have hsz : (w1.alloc (.cells (madeCells #[.int .i64 0] n) 3)).heap.size = w1.heap.size + 1 := by simp
  have h1 : Below w1.heap.size w1 (w1.alloc (.cells (madeCells #[.int .i64 0] n) 3)) := (Below.refl _ _).alloc (Nat.le_refl _) _
  have h2 : Below w1.heap.size w1 ((w1.alloc (.cells (madeCells #[.int .i64 0] n) 3)).alloc (.cells #[.int .i64 0] 3)) := h1.alloc (by rw [hsz]; omega) _
  refine ⟨hA.later h2, ?_, ?_, hB.size, by omega, by simp, rfl, hB.trans (h2.mono hB.size)⟩
  · exact (Blk.newA _ #[.int .i64 0] 3).owns _ 1 1 (Nat.le_refl _) rfl (Nat.le_refl _) (by unfold maxLen; omega)
  · rw [e]; exact (Blk.newA w1 _ 3).alloc _
theorem OMem.base (h : OMem B B2 b gnum wA wr vo vn vs vm O N S G Nl) : B ≤ wr.heap.size := by have := h.bel.size; have := h.g4; omega
theorem OMem.offn (h : OMem B B2 b gnum wA wr vo vn vs vm O N S G Nl) : ¬ Ft b vn vs vm gnum := h.an.off_t h.num (by decide) (by decide) (by decide)
theorem OMem.offo (h : OMem B B2 b gnum wA wr vo vn vs vm O N S G Nl) {k : Nat} (hk : vo.ownBlock = some k) : ¬ Ft b vn vs vm k := by
  obtain ⟨ys, hy⟩ := ownS_type h.op hk
  exact h.an.off_t hy (by decide) (by decide) (by decide)
theorem OMem.strike (h : OMem B B2 b gnum wA wr vo vn vs vm O N S G Nl) (hB : Below wr.heap.size wr w') (ho : w'.ownsRow wr.heap.size 3 1 vo' O'.length (cellsL .i64 (natL O'))) : OMem B B2 b gnum wA w' vo' vn vs vm O' N S G Nl :=
  ⟨h.an.later hB, own_mono ho h.g3, h.num.later hB, h.g1, h.g2, Nat.le_trans h.g3 hB.size, h.g4, h.bel.trans (hB.mono h.base)⟩
theorem OMem.later (h : OMem B B2 b gnum wA wr vo vn vs vm O N S G Nl) (hB : Below wr.heap.size wr w') : OMem B B2 b gnum wA w' vo vn vs vm O N S G Nl :=
  ⟨h.an.later hB, ownS_upd h.op (Upd.of_below (S := fun _ => False) hB) (fun _ _ h => h), h.num.later hB, h.g1, h.g2, Nat.le_trans h.g3 hB.size, h.g4, h.bel.trans (hB.mono h.base)⟩
theorem OMem.added (h : OMem B B2 b gnum wA wr vo vn vs vm O N S G Nl) (hA : An B w' b vn' vs' vm' N' S' G') (hM : Mv b vn vs vm wr vn' vs' vm' w') : OMem B B2 b gnum wA w' vo vn' vs' vm' O N' S' G' Nl :=
  ⟨hA, ownS_upd h.op hM.upd (fun k hk => h.offo hk), h.num.upd hM.upd h.offn, h.g1, h.g2, Nat.le_trans h.g3 hM.upd.size, h.g4, h.bel.trans (hM.upd.below B h.base fun k hk => (h.an.feet hk).1)⟩
theorem OMem.put (h : OMem B B2 b gnum wA wr vo vn vs vm O N S G Nl) (i : Nat) (x : Int) : OMem B B2 b gnum wA (wr.setCell ⟨gnum, i, none⟩ (.int .i64 x)) vo vn vs vm O N S G (Nl.set i x) := by
  have hu : Upd (fun k => k = gnum) wr (wr.setCell ⟨gnum, i, none⟩ (.int .i64 x)) := (Upd.refl _ _).set _ _ (.inl rfl)
  have h1 := h.g1; have h2 := h.g2
  refine ⟨h.an.upd hu (fun k hk e => h.offn (e ▸ hk)), ownS_upd h.op hu (fun k hk e => by have := (h.op.lt k hk).1; omega), ?_, h1, h2, by rw [World.size_setCell]; exact h.g3, h.g4, h.bel.trans (hu.below B h.base fun k e => by omega)⟩
  rw [← cellsL_set]; exact h.num.set i _
theorem OMem.pushed (h : OMem B B2 b gnum wA wr vo vn vs vm O N S G Nl) (ho : w'.ownsRow B2 3 1 vo' O'.length (cellsL .i64 (natL O'))) (hu : Upd (fun k => vo.ownBlock = some k) wr w') : OMem B B2 b gnum wA w' vo' vn vs vm O' N S G Nl := by
  have h1 := h.g1; have h2 := h.g2
  exact ⟨h.an.upd hu (fun k hk e => h.offo e hk), ho, h.num.upd hu (fun e => by have := (h.op.lt _ e).1; omega), h1, h2, Nat.le_trans h.g3 hu.size, h.g4, h.bel.trans (hu.below B h.base fun k e => by have := (h.op.lt k e).1; omega)⟩
theorem OMem.nc (h : OMem B B2 b gnum wA wr vo vn vs vm O N S G Nl) {j : Nat} (hj : j < Nl.length) : wr.cell? ⟨gnum, j, none⟩ = some (.int .i64 (Nl.getD j 0)) := by rw [h.num.cell, cellsL_at _ _ _ hj]
end
theorem Ords.olen {M N : List Nd} {ord O : List Nat} {S G : Stk} (h : Ords M ord O N S G) : O.length ≤ M.length := by
  have := sub_len h.on (r := List.range M.length) (fun x hx => List.mem_range.2 ((h.om x).1 hx).1)
  simpa using this
theorem nkL_len (Pl : List Int) (i j : Nat) : (nkL Pl i j).length ≤ j := by
  unfold nkL
  have := List.length_filter_le (fun x => decide (i < x) && decide (Pl.getD x 0 = (i : Int))) (List.range j)
  simpa using this
/-- The numbers that were given, by the nodes. -/
def Nums (M : List Nd) (ord : List Nat) (Nl : List Int) : Prop := Nl.length = M.length ∧ ∀ y, y < ord.length → Nl.getD (ord.getD y 0) 0 = (y : Int)
theorem Nums.begin (M : List Nd) (n : Nat) (hn : M.length = n) : Nums M [] (List.replicate n 0) := ⟨by simp [hn], fun y hy => by simp at hy⟩
theorem Nums.add {M : List Nd} {ord : List Nat} {Nl : List Int} {i : Nat} (h : Nums M ord Nl) (hi : i < M.length) (hn : i ∉ ord) : Nums M (ord ++ [i]) (Nl.set i (ord.length : Int)) := by
  refine ⟨by simp [h.1], fun y hy => ?_⟩
  rw [getD_setI _ _ _ _ (by rw [h.1]; exact hi), getD_snocN]
  have hy' : y < ord.length + 1 := by simpa using hy
  by_cases e : y = ord.length
  · rw [if_pos e, if_pos rfl, e]
  · rw [if_neg e, if_neg (fun e2 => hn (mem_at.2 ⟨y, by omega, e2⟩))]
    exact h.2 y (by omega)
end Go.Proofs.YtlbgdgobhiokpaaDoor
