import Derived.Test.YtjamfbpdepahnaaGreatPart30
namespace Go.Proofs.YtjamfbpdepahnaaGreat
open Go.RowKit
set_option linter.unusedVariables false
set_option linter.unusedSimpArgs false
set_option maxRecDepth 100000 in
set_option maxHeartbeats 4000000 in
theorem isq1_any (b cc ce gs gq bp : Nat) (ac ae : Option Addr) (enc : Bool) (C : List In) (E : List Int) (S : List St) (Q : List Bool) (vb : Value) (k : Nat) (w : World) (hk : k < C.length) (hp : Hid (Blk w bp 105 [.pointer (some ⟨b, 0, none⟩)])) (h : Hid (PtS w b cc ce gs gq ac ae enc C E S Q vb)) :
    Calls Tryz.prog 81 #[.int .i64 (k : Int), .pointer (some ⟨bp, 0, none⟩)] w fun e w' => e = .returned (.bool (qAt Q k)) ∧ w = w' := by
  obtain ⟨bc, oc, hac⟩ := h.out.adr hk
  subst hac
  obtain ⟨c0, c1, c2, c3, c4, c5⟩ := h.out.cells
  have p0 := h.out.qtAt hk
  have hkc : (k : Int) < (C.length : Int) := by omega
  have g0 := hp.out.cell 0
  simp at g0
  go_enter Tryz.func81, Tryz.ntmps81
  go_wp2_with fail
  go_ret
  exact ⟨rfl, rfl⟩
def AnIs (r : Int) (Q : List Bool) (l : List Int) : Prop := decide (0 ≤ r) = l.any (fun y => qAt Q y.toNat)
set_option maxRecDepth 100000 in
set_option maxHeartbeats 4000000 in
theorem indexQ_any (b cc ce gs gq bp : Nat) (ac ae : Option Addr) (enc : Bool) (C : List In) (E : List Int) (S : List St) (Q : List Bool) (vb : Value) (a : Option Addr) (n c : Nat) (l : List Int) (w : World) (hln : l.length = n) (hl : l.length ≤ 1048576) (hin : Hid (∀ y ∈ l, 0 ≤ y ∧ y < (C.length : Int))) (hr : Hid (Row .i64 w a l)) (hp : Hid (Blk w bp 105 [.pointer (some ⟨b, 0, none⟩)])) (h : Hid (PtS w b cc ce gs gq ac ae enc C E S Q vb)) :
    Calls Tryz.prog 95 #[.slice a n c, .func (.func 81) #[] #[.pointer (some ⟨bp, 0, none⟩)]] w fun e w' => (∃ r : Int, e = .returned (.int .i64 r) ∧ Hid (AnIs r Q l)) ∧ w = w' := by
  subst hln
  go_enter Tryz.func95, Tryz.ntmps95
  go_wp2_with fail
  go_loopw [8] (fun x8 wr => ∃ j : Nat, j ≤ l.length ∧ x8 = .int .i64 (j : Int) ∧ Hid (∀ (i : Nat) (q : Int), i < j → l[i]? = some q → qAt Q q.toNat = false) ∧ w = wr) (fun x8 _ => l.length - (intOf x8).toNat)
  case atStart => exact ⟨0, Nat.zero_le _, rfl, hide_ (fun i q hi => by omega), rfl⟩
  case round =>
    obtain ⟨j, hj, rfl, HA, rfl⟩ := hrel
    by_cases hlt : j < l.length
    · have hlt' : (j : Int) < l.length := by omega
      obtain ⟨b0, off, rfl, hb, hc⟩ := hr.out.open (by omega)
      have hcx := hc j hlt
      obtain ⟨y, hx⟩ : ∃ y, l.getD j 0 = y := ⟨_, rfl⟩
      rw [hx] at hcx
      have HX : Hid (l[j]? = some y) := hide_ (by rw [List.getElem?_eq_getElem hlt, ← hx]; simp [List.getD, hlt])
      clear hc hx
      obtain ⟨hy0, hy1⟩ := hin.out y (List.mem_of_getElem? HX.out)
      obtain ⟨m, rfl⟩ := Int.eq_ofNat_of_zero_le hy0
      obtain ⟨d, hd⟩ : ∃ d, qAt Q m = d := ⟨_, rfl⟩
      have HCon := hide_ (isq1_any b cc ce gs gq bp _ ae enc C E S Q vb m w (by omega) hp h)
      rw [hd] at HCon
      have Hd := hide_ hd
      clear hd hy0 hy1
      cases d
      · have HA2 : Hid (∀ (i : Nat) (q : Int), i < j + 1 → l[i]? = some q → qAt Q q.toNat = false) := hide_ (fun i p hi hp => by
          rcases Nat.lt_or_ge i j with h | h
          · exact HA.out i p h hp
          · obtain rfl : i = j := by omega
            rw [HX.out] at hp
            injection hp with hp
            subst hp
            rw [Int.toNat_natCast]
            exact Hd.out)
        go_wp2_with (go_at_call 81; refine HCon.out.mono ?_; rintro e w' ⟨rfl, rfl⟩)
        go_roundw
        case rel => exact ⟨j + 1, by omega, by go_num, HA2, trivial⟩
        case measure => simp [intOf]; omega
      · have HL : Hid (AnIs (j : Int) Q l) := hide_ (by
          unfold AnIs
          rw [decide_eq_true (by omega)]
          exact (List.any_eq_true.2 ⟨_, List.mem_of_getElem? HX.out, by rw [Int.toNat_natCast]; exact Hd.out⟩).symm)
        go_wp2_with (go_at_call 81; refine HCon.out.mono ?_; rintro e w' ⟨rfl, rfl⟩)
        go_ret
        exact ⟨⟨j, rfl, HL⟩, rfl⟩
    · obtain rfl : j = l.length := by omega
      have HL : Hid (AnIs (-1) Q l) := hide_ (by
        unfold AnIs
        rw [decide_eq_false (by omega)]
        symm
        rw [List.any_eq_false]
        intro q hq
        obtain ⟨i, hi, rfl⟩ := List.mem_iff_getElem.1 hq
        have := HA.out i _ hi (List.getElem?_eq_getElem hi)
        simpa using this)
      go_wp2_with fail
      go_ret
      exact ⟨⟨-1, rfl, HL⟩, rfl⟩
set_option maxRecDepth 100000 in
set_option maxHeartbeats 4000000 in
theorem containsQ_any (b cc ce gs gq bp : Nat) (ac ae : Option Addr) (enc : Bool) (C : List In) (E : List Int) (S : List St) (Q : List Bool) (vb : Value) (a : Option Addr) (n c : Nat) (l : List Int) (w : World) (hln : l.length = n) (hl : l.length ≤ 1048576) (hin : Hid (∀ y ∈ l, 0 ≤ y ∧ y < (C.length : Int))) (hr : Hid (Row .i64 w a l)) (hp : Hid (Blk w bp 105 [.pointer (some ⟨b, 0, none⟩)])) (h : Hid (PtS w b cc ce gs gq ac ae enc C E S Q vb)) :
    Calls Tryz.prog 80 #[.slice a n c, .func (.func 81) #[] #[.pointer (some ⟨bp, 0, none⟩)]] w fun e w' => e = .returned (.bool (l.any (fun y => qAt Q y.toNat))) ∧ w = w' := by
  have HC := hide_ (indexQ_any b cc ce gs gq bp _ ae enc C E S Q vb a n c l w hln hl hin hr hp h)
  obtain ⟨d, hd⟩ : ∃ d, l.any (fun y => qAt Q y.toNat) = d := ⟨_, rfl⟩
  rw [hd]
  have Hd := hide_ hd
  clear hd
  go_enter Tryz.func80, Tryz.ntmps80
  go_wp2_with fail
  refine HC.out.mono ?_
  rintro e w' ⟨⟨r, rfl, HR⟩, rfl⟩
  go_wp2_with fail
  go_ret
  exact ⟨by rw [← Hd.out, ← (show decide (0 ≤ r) = _ from HR.out)]; rfl, rfl⟩
def Inn (C : List In) (k : Nat) : Prop := ∀ y ∈ waysP C k, 0 ≤ y ∧ y < (C.length : Int)
theorem ways_len {enc : Bool} {C : List In} (hC : CdOk enc C) {k : Nat} (hk : k < C.length) : (waysP C k).length ≤ 64 := by
  unfold waysP
  have := hC.arm k hk
  repeat' split
  all_goals simp
  all_goals omega
theorem bare_in {enc : Bool} {C : List In} {E : List Int} (hC : CeOk enc C E) {k : Nat} (hk : k < C.length) (h : Inn C k) (S : List St) (Q : List Bool) : ∀ y ∈ bareP C E S Q k, 0 ≤ y ∧ y < (C.length : Int) := by
  intro y hy
  unfold bareP at hy
  split at hy
  · cases hy
  split at hy
  · cases hy
  split at hy
  · rename_i ho
    refine h y ?_
    rw [List.mem_singleton] at hy
    unfold waysP
    rw [if_neg (by omega), if_neg (by omega), if_neg (by omega), if_pos (by omega), hy]
    simp
  split at hy
  · cases hy
  split at hy
  · cases hy
  · exact h y hy
theorem bare_len {enc : Bool} {C : List In} {E : List Int} (hC : CdOk enc C) {k : Nat} (hk : k < C.length) (S : List St) (Q : List Bool) : (bareP C E S Q k).length ≤ 64 := by
  have := ways_len hC hk
  unfold bareP
  repeat' split
  all_goals simp
  all_goals omega
theorem IOwn.rowV {w : World} {l : List Int} {B : Nat} {v : Value} (h : IOwn w B v l) : ∃ a c, v = .slice a l.length c ∧ Row .i64 w a l := by
  obtain ⟨a, c, e, h1, -, -⟩ := h.row
  exact ⟨a, c, e, h1⟩
set_option maxRecDepth 100000 in
set_option maxHeartbeats 8000000 in
theorem isQuiet_any (b cc ce gs gq : Nat) (ac ae : Option Addr) (enc : Bool) (C : List In) (E : List Int) (S : List St) (Q : List Bool) (vb : Value) (k : Nat) (w : World) (hk : k < C.length) (hcc : C.length ≤ cc) (hcl : cc ≤ 9223372036854775807) (hC : Hid (CeOk enc C E)) (hI : Hid (Inn C k)) (h : Hid (PtS w b cc ce gs gq ac ae enc C E S Q vb)) :
    Calls Tryz.prog 56 #[.pointer (some ⟨b, 0, none⟩), .int .i64 (k : Int)] w fun e w' => e = .returned (.bool (isqP C E S Q k)) ∧ Below w.heap.size w w' := by
  obtain ⟨bc, oc, hac⟩ := h.out.adr hk
  subst hac
  obtain ⟨x, hx⟩ : ∃ x, C[k]? = some x := ⟨_, List.getElem?_eq_getElem hk⟩
  have hxA : inA C k = x := inA_at hx
  obtain ⟨w1, hw1⟩ : ∃ wx, w.alloc (.cells #[.pointer (some ⟨b, 0, none⟩)] 105) = wx := ⟨_, rfl⟩
  have hB1 : Below w.heap.size w w1 := by rw [← hw1]; exact below1 _ _
  have KP : Blk w1 w.heap.size 105 [.pointer (some ⟨b, 0, none⟩)] := by rw [← hw1]; exact Blk.newA w _ _
  obtain ⟨w2, hw2⟩ : ∃ wx, w1.alloc (.cells #[.int .i64 x.op, .int .i64 x.a, .int .i64 x.b, .int .i64 x.c] 37) = wx := ⟨_, rfl⟩
  have hB2 : Below w1.heap.size w1 w2 := by rw [← hw2]; exact below1 _ _
  have KX : Blk w2 w1.heap.size 37 (inc x) := by rw [← hw2]; exact Blk.newA w1 _ _
  have L1 := h.out.later hB1
  have L2 := L1.later hB2
  have KP2 := KP.later hB2
  obtain ⟨-, c1, -, -, -, -⟩ := L1.cells
  obtain ⟨j0, j1, j2, j3⟩ := L1.code.at hx
  have p1 := KP.cell 0
  have p2 := KP2.cell 0
  simp at p1 p2
  have hkc : (k : Int) < (C.length : Int) := by omega
  have HB2 := hide_ (below_to hB1 hB2)
  have HBa := hide_ (bare_any b cc ce gs gq _ ae enc C E S Q vb k w2 hk hcc hcl hC (hide_ L2))
  have HWy := hide_ (fun w3 (hB : Below w2.heap.size w2 w3) => pways_any b cc ce gs gq _ ae enc C E S Q vb k w3 hk hcc hcl (hide_ hC.out.cd) (hide_ (L2.later hB)))
  have HQ := hide_ (fun (a : Option Addr) (n c : Nat) (l : List Int) (w3 : World) (hB : Below w2.heap.size w2 w3) (hln : l.length = n) (hl : l.length ≤ 1048576) (hin : ∀ y ∈ l, 0 ≤ y ∧ y < (C.length : Int)) (hr : Row .i64 w3 a l) => containsQ_any b cc ce gs gq w.heap.size _ ae enc C E S Q vb a n c l w3 hln hl (hide_ hin) (hide_ hr) (hide_ (KP2.later hB)) (hide_ (L2.later hB)))
  have HK2 := hide_ KX
  have HP2 := hide_ KP2
  obtain ⟨d, hd⟩ : ∃ d, isqP C E S Q k = d := ⟨_, rfl⟩
  rw [hd]
  unfold isqP at hd
  rw [hxA] at hd
  have Hd := hide_ hd
  clear hd hB1 KP hB2 KX L1 L2 KP2 hx hxA h
  go_enter Tryz.func56, Tryz.ntmps56
  go_upto_region 1 with fail
  try rw [hw1]
  clear hw1
  go_upto_region 2 with fail
  try rw [hw2]
  clear hw2 c1 j0 j1 j2 j3 p1
  go_wp2_with fail
  refine HBa.out.mono ?_
  rintro e w3 ⟨v, rfl, HO, HB3⟩
  obtain ⟨i0, i1, i2, i3⟩ := (HK2.out.later HB3.out).ci
  have q2 := (HP2.out.later HB3.out).cell 0
  simp at q2
  clear HBa p2
  by_cases h17 : x.op = 17
  · have f17 : (x.op == 17) = true := by simpa using h17
    have f20 : (x.op == 20) = false := by simp [h17]
    have HE : Hid ((waysP C k).any (fun y => qAt Q y.toNat) = d) := hide_ (by rw [← Hd.out, if_pos h17, f20]; simp)
    clear h17
    go_wp2_with fail
    refine (HWy.out w3 HB3.out).mono ?_
    rintro e w4 ⟨v4, rfl, HO4, HB4⟩
    obtain ⟨a4, c4, hv4, hr4⟩ := HO4.out.rowV
    subst hv4
    obtain ⟨k0, k1, k2, k3⟩ := (HK2.out.later (below_to HB3.out HB4.out)).ci
    have r2 := (HP2.out.later (below_to HB3.out HB4.out)).cell 0
    simp at r2
    have HB24 := hide_ (below_to HB3.out HB4.out)
    have HCq := hide_ (HQ.out a4 (waysP C k).length c4 (waysP C k) w4 HB24.out rfl (by have := ways_len hC.out.cd hk; omega) hI.out hr4)
    rw [HE.out] at HCq
    clear hr4 i0 i1 i2 i3 q2
    go_wp2_with fail
    refine HCq.out.mono ?_
    rintro e w5 ⟨rfl, rfl⟩
    go_wp2_with fail
    go_ret
    exact ⟨rfl, below_to HB2.out HB24.out⟩
  · have f17 : (x.op == 17) = false := by simpa using h17
    obtain ⟨a4, c4, hv4, hr4⟩ := HO.out.rowV
    subst hv4
    by_cases h20 : x.op = 20
    · have f20 : (x.op == 20) = true := by simpa using h20
      have HE : Hid (true = d) := hide_ (by rw [← Hd.out, f20]; simp)
      clear h17 h20
      go_wp2_with fail
      go_ret
      exact ⟨by rw [← HE.out]; rfl, below_to HB2.out HB3.out⟩
    · have f20 : (x.op == 20) = false := by simpa using h20
      have HE : Hid ((bareP C E S Q k).any (fun y => qAt Q y.toNat) = d) := hide_ (by rw [← Hd.out, if_neg h17, f20]; simp)
      have HCq := hide_ (HQ.out a4 (bareP C E S Q k).length c4 (bareP C E S Q k) w3 HB3.out rfl (by have := bare_len (E := E) hC.out.cd hk S Q; omega) (bare_in hC.out hk hI.out S Q) hr4)
      rw [HE.out] at HCq
      clear h17 h20 hr4
      go_wp2_with fail
      refine HCq.out.mono ?_
      rintro e w5 ⟨rfl, rfl⟩
      go_wp2_with fail
      go_ret
      exact ⟨rfl, below_to HB2.out HB3.out⟩
theorem IOwn.app {w : World} {B : Nat} {v : Value} {l : List Int} (h : IOwn w B v l) {a : Option Addr} {cap : Nat} {r : List Int} (hrow : Row .i64 w a r) (hnil : a = none → cap = 0) (hl : l.length + r.length ≤ 1000000000) (hB : B ≤ w.heap.size) :
    ∃ v' w', (Builtin.append_ #[23, 23] 23 #[v, .slice a r.length cap]).run Tryz.prog w = .ok v' w' ∧ IOwn w' B v' (l ++ r) ∧ Upd (fun k => v.ownBlock = some k) w w' ∧ (∀ g, v'.ownBlock = some g → v.ownBlock = some g ∨ w.heap.size ≤ g) := by
  rcases hrow with ⟨rfl, rfl⟩ | ⟨x, rfl, hc⟩
  · obtain rfl := hnil rfl
    obtain ⟨i0, hi, hz0, hz1, hz2⟩ := info_parts elI.info
    refine ⟨v, w, ?_, by rw [List.append_nil]; exact h, Upd.refl _ _, fun g e => .inl e⟩
    have h1 := h
    unfold IOwn at h1
    rcases h1.2 with ⟨rfl, h0⟩ | ⟨g, c, cur, rfl, _, _, hnc, _⟩
    · simp [Builtin.append_, run_underlying elI.sl, sizeOf, typeInfo, hi, Builtin.lenOf, Builtin.firstCells]
    · simp [Builtin.append_, run_underlying elI.sl, sizeOf, typeInfo, hi, Builtin.lenOf, Builtin.firstCells, hnc, storeCells]
  · obtain ⟨i0, hi, hz0, hz1, hz2⟩ := info_parts elI.info
    obtain ⟨v', w', h1, h2, h3, _, h5⟩ := run_append_own_at (P := Tryz.prog) w B 23 23 3 i0 (.int .i64 0) 1 8 elI.sl hi hz0 hz1 hz2 rfl (by decide) v l.length (cellsL .i64 l) h x r.length cap (cellsL .i64 r)
      (by rw [cellsL_length, Nat.mul_one]) (fun j u hj => by obtain ⟨hq, rfl⟩ := cellsL_get .i64 r j u hj; exact hc j hq) (cellsL_one .i64 r) (by unfold maxLen; omega) (by omega) hB
    rw [← cellsL_append] at h2
    refine ⟨v', w', h1, ?_, (Upd.refl _ w).grown h3 (fun k hk => .inl hk), fun g e => ?_⟩
    · unfold IOwn
      rw [List.length_append]
      exact h2
    · rcases h5 with h5 | h5
      · exact .inl (by rw [← h5]; exact e)
      · rw [h5] at e
        injection e with e
        exact .inr (by omega)
def spF (ed : Nat → List Int) : Nat → List Int → List Bool → List Int → List Int × List Bool
  | 0, _, s, f => (f, s)
  | n + 1, wk, s, f => if wk = [] then (f, s) else
    if qAt s (hAt wk (wk.length - 1)).toNat then spF ed n (wk.take (wk.length - 1)) s f
    else spF ed n (wk.take (wk.length - 1) ++ ed (hAt wk (wk.length - 1)).toNat) (s.set (hAt wk (wk.length - 1)).toNat true) (f ++ [hAt wk (wk.length - 1)])
def tot (ed : Nat → List Int) (s : List Bool) : Nat → Nat
  | 0 => 0
  | n + 1 => tot ed s n + if qAt s n then 0 else (ed n).length
theorem qAt_set (s : List Bool) (k : Nat) (hk : k < s.length) (j : Nat) : qAt (s.set k true) j = if j = k then true else qAt s j := by
  unfold qAt
  by_cases h : j = k
  · subst h; simp [List.getD, hk]
  · have : k ≠ j := fun e => h e.symm
    simp [List.getD, List.getElem?_set, this, h]
theorem tot_le (ed : Nat → List Int) (s : List Bool) (k : Nat) (hk : k < s.length) : ∀ n, tot ed (s.set k true) n ≤ tot ed s n
  | 0 => Nat.le_refl _
  | n + 1 => by
    have ih := tot_le ed s k hk n
    unfold tot
    rw [qAt_set s k hk n]
    split
    · split <;> simp_all <;> omega
    · omega
theorem tot_set (ed : Nat → List Int) (s : List Bool) (k : Nat) (hk : k < s.length) (h0 : qAt s k = false) : ∀ n, k < n → tot ed (s.set k true) n + (ed k).length ≤ tot ed s n
  | 0, h => by omega
  | n + 1, h => by
    unfold tot
    rw [qAt_set s k hk n]
    by_cases e : n = k
    · subst e
      have := tot_le ed s n hk n
      rw [h0]
      simp
      omega
    · have ih := tot_set ed s k hk h0 n (by omega)
      rw [if_neg e]
      omega
def Stn (n : Nat) (wk : List Int) : Prop := ∀ y ∈ wk, 0 ≤ y ∧ y < (n : Int)
theorem hAt_mem {l : List Int} {i : Nat} (h : i < l.length) : hAt l i ∈ l := by
  unfold hAt
  simp [List.getD, h]
theorem sp_pop {n : Nat} {wk : List Int} (h : Stn n wk) (h0 : wk ≠ []) : 0 ≤ hAt wk (wk.length - 1) ∧ hAt wk (wk.length - 1) < (n : Int) ∧ Stn n (wk.take (wk.length - 1)) := by
  have hl : 0 < wk.length := List.length_pos_iff.2 h0
  have h1 := h _ (hAt_mem (l := wk) (i := wk.length - 1) (by omega))
  exact ⟨h1.1, h1.2, fun y hy => h y (List.mem_of_mem_take hy)⟩
theorem spF_fuel {ed : Nat → List Int} {n : Nat} (he : ∀ k, k < n → Stn n (ed k)) : ∀ (f g : Nat) {wk : List Int} {s : List Bool} {fd : List Int}, Stn n wk → s.length = n → wk.length + tot ed s n < f → wk.length + tot ed s n < g → spF ed f wk s fd = spF ed g wk s fd
  | 0, g, wk, s, fd, _, _, h, _ => by omega
  | f + 1, 0, wk, s, fd, _, _, _, h => by omega
  | f + 1, g + 1, wk, s, fd, hw, hs, h1, h2 => by
    unfold spF
    by_cases h0 : wk = []
    · rw [if_pos h0, if_pos h0]
    rw [if_neg h0, if_neg h0]
    have hl : 0 < wk.length := List.length_pos_iff.2 h0
    obtain ⟨a1, a2, a3⟩ := sp_pop hw h0
    have ht : (wk.take (wk.length - 1)).length = wk.length - 1 := by simp
    split
    · exact spF_fuel he f g a3 hs (by omega) (by omega)
    · rename_i hq
      have hk : (hAt wk (wk.length - 1)).toNat < n := by omega
      have hq : qAt s (hAt wk (wk.length - 1)).toNat = false := by simpa using hq
      have h3 := tot_set ed s _ (by omega) hq n hk
      refine spF_fuel he f g ?_ (by simp [hs]) (by rw [List.length_append]; omega) (by rw [List.length_append]; omega)
      intro y hy
      rcases List.mem_append.1 hy with hy | hy
      · exact a3 y hy
      · exact he _ hk y hy
theorem spF_step {ed : Nat → List Int} {n : Nat} (he : ∀ k, k < n → Stn n (ed k)) {G m k : Nat} {wk : List Int} {s : List Bool} {fd : List Int} (hw : Stn n wk) (hs : s.length = n) (h1 : wk.length + tot ed s n < G) (hm : wk.length = m + 1) (hk : hAt wk m = (k : Int)) :
    spF ed G wk s fd = if qAt s k then spF ed G (wk.take m) s fd else spF ed G (wk.take m ++ ed k) (s.set k true) (fd ++ [(k : Int)]) := by
  obtain ⟨G', rfl⟩ : ∃ G', G = G' + 1 := ⟨G - 1, by omega⟩
  have h0 : wk ≠ [] := fun e => by rw [e] at hm; simp at hm
  obtain ⟨a1, a2, a3⟩ := sp_pop hw h0
  have e1 : wk.length - 1 = m := by omega
  rw [e1, hk] at a1 a2
  rw [e1] at a3
  rw [spF, if_neg h0, e1, hk, Int.toNat_natCast]
  have ht : (wk.take m).length = m := by simp; omega
  have hkn : k < n := by omega
  split
  · exact spF_fuel he G' (G' + 1) a3 hs (by omega) (by omega)
  · rename_i hq
    have hq : qAt s k = false := by simpa using hq
    have h3 := tot_set ed s k (by omega) hq n hkn
    refine spF_fuel he G' (G' + 1) ?_ (by simp [hs]) (by rw [List.length_append]; omega) (by rw [List.length_append]; omega)
    intro y hy
    rcases List.mem_append.1 hy with hy | hy
    · exact a3 y hy
    · exact he k hkn y hy
theorem IOwn.cutV {w : World} {B g n m cap : Nat} {l : List Int} (hn : l.length = n) (h : IOwn w B (.slice (some ⟨g, 0, none⟩) n cap) l) (hm : m ≤ n) : IOwn w B (.slice (some ⟨g, 0, none⟩) m cap) (l.take m) := by
  subst hn
  have h2 := own_cutI (m := m) h hm
  have e : (l.take m).length = m := by rw [List.length_take]; omega
  unfold IOwn
  rw [e]
  have e2 : cellsL .i64 (l.take m) = (cellsL .i64 l).take (m * 1) := by
    rw [Nat.mul_one]
    unfold cellsL
    rw [List.map_take]
  rw [e2]
  exact h2
def SpTo (w : World) (gn n : Nat) (R : List Int × List Bool) (e : Ending) (w' : World) : Prop := ∃ v, e = .returned v ∧ IOwn w' w.heap.size v R.1 ∧ Blk w' gn 4 (R.2.map Value.bool) ∧ R.2.length = n ∧ Upd (fun q => q = gn) w w'
theorem bset {w : World} {g k : Nat} {s : List Bool} (h : Blk w g 4 (s.map Value.bool)) : Blk (w.setCell ⟨g, k, none⟩ (.bool true)) g 4 ((s.set k true).map Value.bool) := by
  have := h.set k (.bool true)
  rw [List.map_set]
  exact this
theorem bAt {w : World} {g k : Nat} {s : List Bool} (h : Blk w g 4 (s.map Value.bool)) (hk : k < s.length) : w.cell? ⟨g, k, none⟩ = some (.bool (qAt s k)) := by
  rw [h.cell k]
  simp [qAt, List.getD, hk]
set_option maxRecDepth 100000 in
set_option maxHeartbeats 8000000 in
theorem spread_gen (cm : Nat → Prop) (F : Nat) (rv : Value) (ed : Nat → List Int) (n from_ gn : Nat) (s : List Bool) (w : World) (hn : n ≤ 1048576) (hf : from_ < n) (hcf : cm from_) (hcm : Hid (∀ k, k < n → cm k → ∀ y ∈ ed k, cm y.toNat)) (hs : s.length = n) (he : Hid (∀ k, k < n → Stn n (ed k))) (ht : Hid (tot ed s n + 2 ≤ 900000000)) (hK : Hid (Blk w gn 4 (s.map Value.bool)))
    (hE : Hid (∀ (k : Nat) (w' : World), k < n → cm k → Upd (fun q => q = gn) w w' → Calls Tryz.prog F #[rv, .int .i64 (k : Int)] w' fun e w'' => ∃ a c, e = .returned (.slice a (ed k).length c) ∧ Hid (a = none → c = 0) ∧ Hid (Row .i64 w'' a (ed k)) ∧ Hid (Below w'.heap.size w' w''))) (hEn : ∀ args w', (callFunc F args).run Tryz.prog w' = .ok (.enter F args) w') :
    Calls Tryz.prog 41 #[.int .i64 (from_ : Int), .func (.func F) #[rv] #[], .slice (some ⟨gn, 0, none⟩) n n] w fun e w' => SpTo w gn n (spF ed (tot ed s n + 2) [(from_ : Int)] s []) e w' := by
  obtain ⟨R, hR⟩ : ∃ R, spF ed (tot ed s n + 2) [(from_ : Int)] s [] = R := ⟨_, rfl⟩
  rw [hR]
  obtain ⟨G, hG⟩ : ∃ G, tot ed s n + 2 = G := ⟨_, rfl⟩
  rw [hG] at hR ht
  have HR := hide_ hR
  have HG := hide_ hG
  have Hs := hide_ hs
  have Hcf : Hid (∀ y ∈ [(from_ : Int)], cm y.toNat) := hide_ (fun y hy => by rw [List.mem_singleton] at hy; rw [hy, Int.toNat_natCast]; exact hcf)
  clear hR hG hs
  go_enter Tryz.func41, Tryz.ntmps41
  go_wp2_with fail
  obtain ⟨w1, hw1⟩ : ∃ wx, w.alloc (.cells #[.int .i64 (from_ : Int)] 3) = wx := ⟨_, rfl⟩
  have HB1 : Hid (Below w.heap.size w w1) := hide_ (by rw [← hw1]; exact below1 _ _)
  have HO1 : Hid (IOwn w1 w.heap.size (.slice (some ⟨w.heap.size, 0, none⟩) 1 1) [(from_ : Int)]) := hide_ (by rw [← hw1]; exact newI w #[.int .i64 (from_ : Int)] [(from_ : Int)] rfl (by simp))
  try rw [hw1]
  clear hw1
  go_loopg [7, 8] (1 + tot ed s n) (fun gk x7 x8 wr => ∃ (fd wk : List Int) (t : List Bool) (vf vw : Value), vf = x7 ∧ vw = x8 ∧ Hid (wk.length + tot ed t n = gk) ∧ Hid (fd.length + gk < G) ∧ Hid (spF ed G wk t fd = R) ∧ Hid (Stn n wk) ∧ Hid (∀ y ∈ wk, cm y.toNat) ∧ Hid (t.length = n) ∧ Hid (Blk wr gn 4 (t.map Value.bool)) ∧ Hid (IOwn wr w.heap.size vf fd) ∧ Hid (IOwn wr w.heap.size vw wk) ∧ Hid (∀ q, vf.ownBlock = some q → vw.ownBlock ≠ some q) ∧ Hid (Upd (fun q => q = gn) w wr))
  case atStart =>
    refine ⟨[], [(from_ : Int)], s, _, _, rfl, rfl, hide_ rfl, hide_ ?_, HR, hide_ ?_, Hcf, Hs, hide_ (hK.out.later HB1.out), hide_ (IOwn.nil _ _), HO1, hide_ (fun q e => by cases e), hide_ (Upd.of_below HB1.out)⟩
    · have := HG.out; simp; omega
    · intro y hy; rw [List.mem_singleton] at hy; omega
  case round =>
    clear HR HO1 HB1 hK Hcf
    obtain ⟨fd, wk, t, vf, vw, rfl, rfl, Hgk, HGb, HRj, HSt, Hcj, Htl, HKj, HFj, HWj, HSp, HUj⟩ := hrel
    generalize wr = wq at *
    by_cases h0 : wk = []
    · subst h0
      obtain ⟨a, c, hv⟩ := HWj.out.slice
      have hv : vw = .slice a 0 c := hv
      subst hv
      have HX : Hid (SpTo w gn n R (.returned vf) wq) := hide_ (by
        have h1 := HRj.out
        obtain ⟨G', hG'⟩ : ∃ G', G = G' + 1 := ⟨G - 1, by have := HGb.out; omega⟩
        rw [hG', spF, if_pos rfl] at h1
        rw [← h1]
        exact ⟨vf, rfl, HFj.out, HKj.out, Htl.out, HUj.out⟩)
      go_wp2_with fail
      go_ret
      exact HX.out
    · have hl0 : 0 < wk.length := List.length_pos_iff.2 h0
      obtain ⟨g, c, hv, hcv, hgB, hgL⟩ := HWj.out.open hl0
      obtain ⟨m, hm⟩ : ∃ m, wk.length = m + 1 := ⟨wk.length - 1, by omega⟩
      rw [hm] at hv hcv
      subst hv
      obtain ⟨a1, a2, a3⟩ := sp_pop HSt.out h0
      rw [show wk.length - 1 = m by omega] at a1 a2 a3
      obtain ⟨k, hk⟩ := Int.eq_ofNat_of_zero_le a1
      have hkn : k < n := by omega
      have Hck : Hid (cm k) := hide_ (by
        have h1 := Hcj.out _ (hAt_mem (l := wk) (i := m) (by omega))
        rw [hk, Int.toNat_natCast] at h1
        exact h1)
      have Hct : Hid (∀ y ∈ wk.take m, cm y.toNat) := hide_ (fun y hy => Hcj.out y (List.mem_of_mem_take hy))
      obtain ⟨cy, -⟩ := HWj.out.cellH (i := m) (by omega)
      rw [hk] at cy
      have cs := bAt HKj.out (k := k) (by rw [Htl.out]; exact hkn)
      have hst := spF_step (fd := fd) (G := G) he.out HSt.out Htl.out (by have := Hgk.out; have := HGb.out; omega) hm hk
      rw [HRj.out] at hst
      have Hst := hide_ hst
      have hmb : m < 1000000000 := by have := Hgk.out; have := HGb.out; have := ht.out; omega
      have hw1 : IntKind.i64.wrap ((m : Int) + 1 - 1) = (m : Int) := by rw [i64w _ (by omega)]; omega
      have Hcut := hide_ (HWj.out.cutV (m := m) hm (by omega))
      have Ha3 := hide_ a3
      have Hm := hide_ hm
      have hcv' : (m : Int) + 1 ≤ (c : Int) := by omega
      have hkn' : (k : Int) < (n : Int) := by omega
      have htk : (wk.take m).length = m := by rw [List.length_take]; omega
      have Htk := hide_ htk
      obtain ⟨d, hd⟩ : ∃ d, qAt t k = d := ⟨_, rfl⟩
      rw [hd] at cs
      have Hd := hide_ hd
      clear hst a1 a2 a3 hk hm hl0 h0 hd htk HRj
      cases d
      · have zf := HKj.out.frozen k
        have HR5 : Hid (spF ed G (wk.take m ++ ed k) (t.set k true) (fd ++ [(k : Int)]) = R) := hide_ (by
          have h1 := Hst.out
          rw [Hd.out, if_neg (by simp)] at h1
          exact h1.symm)
        obtain ⟨w2, hw2⟩ : ∃ wx, wq.setCell ⟨gn, k, none⟩ (.bool true) = wx := ⟨_, rfl⟩
        have hU2 : Upd (fun q => q = gn) wq w2 := by rw [← hw2]; exact (Upd.refl _ wq).set _ _ (.inl rfl)
        have hK2 : Blk w2 gn 4 ((t.set k true).map Value.bool) := by rw [← hw2]; exact bset HKj.out
        have hF2 := HFj.out.upd hU2 (fun q e e2 => HFj.out.neB HKj.out (by decide) (e2 ▸ e))
        have hC2 := Hcut.out.upd hU2 (fun q e e2 => Hcut.out.neB HKj.out (by decide) (e2 ▸ e))
        have hz2 : w.heap.size ≤ w2.heap.size := Nat.le_trans HUj.out.size hU2.size
        have h3 := tot_set ed t k (by rw [Htl.out]; exact hkn) Hd.out n hkn
        have hfl : fd.length ≤ 17592186044415 := by have := HGb.out; have := ht.out; omega
        have hel : (wk.take m).length + (ed k).length ≤ 1000000000 := by have := HGb.out; have := ht.out; have := Hgk.out; have := Htk.out; have := Hm.out; omega
        obtain ⟨gf, cf, w3, hr3, hF3, hU3, hg3⟩ := hF2.push (k : Int) hfl hz2
        have hK3 : Blk w3 gn 4 ((t.set k true).map Value.bool) := hK2.upd hU3 (fun e => hF2.neB hK2 (by decide) e)
        have hC3 := hC2.upd hU3 (fun q e e2 => HSp.out q e2 e)
        have hUw3 : Upd (fun q => q = gn) w w3 := (HUj.out.to hU2).trans hU3 (fun q hq e => absurd hq (Nat.not_lt.2 (hF2.lies e).1))
        have HSp3 : Hid (gf ≠ g) := hide_ (fun e => by
          rcases hg3 with h | h
          · exact HSp.out gf h (by rw [e]; rfl)
          · have := (hC2.lies (k := g) rfl).2; omega)
        have HEd := hide_ (hE.out k w3 hkn Hck.out hUw3)
        have Hc5 : Hid (∀ y ∈ wk.take m ++ ed k, cm y.toNat) := hide_ (fun y hy => by
          rcases List.mem_append.1 hy with hy | hy
          · exact Hct.out y hy
          · exact hcm.out k hkn Hck.out y hy)
        have HRun := hide_ hr3
        have HK3 := hide_ hK3
        have HC3 := hide_ hC3
        have HF3 := hide_ hF3
        have HU3 := hide_ hUw3
        have Hel := hide_ hel
        have HM5 : Hid ((wk.take m ++ ed k).length + tot ed (t.set k true) n < gk) := hide_ (by
          have h1 := Hgk.out
          have h2 := Hm.out
          have h4 := Htk.out
          rw [List.length_append]
          omega)
        have HS5 : Hid (Stn n (wk.take m ++ ed k)) := hide_ (fun y hy => by
          rcases List.mem_append.1 hy with hy | hy
          · exact Ha3.out y hy
          · exact he.out k hkn y hy)
        clear hU2 hK2 hF2 hC2 h3 hfl hel hr3 hK3 hC3 hF3 hUw3 hg3 hU3 hz2 HFj HWj HKj Hcut HUj Hst HSp Ha3
        go_wp2_with (first | (at_builtin; refine wpList_append_run rfl (.tmp 34) (.tmp 36) 23 23 rfl rfl rfl HRun.out ?_; clear HRun) | fail)
        refine HEd.out.mono ?_
        rintro e w4 ⟨a4, c4, rfl, Hn4, Hr4, HB4⟩
        obtain ⟨v5, w5, hr5, hW5, hU5, hg5⟩ := (HC3.out.later HB4.out).app Hr4.out Hn4.out Hel.out (Nat.le_trans HU3.out.size HB4.out.size)
        have HRun := hide_ hr5
        have hF4 := HF3.out.later HB4.out
        have HF5 : Hid (IOwn w5 w.heap.size (.slice (some ⟨gf, 0, none⟩) (fd.length + 1) cf) (fd ++ [(k : Int)])) := hide_ (hF4.upd hU5 (fun q e e2 => by
          injection e with e
          injection e2 with e2
          exact HSp3.out (e.trans e2.symm)))
        have HK5 : Hid (Blk w5 gn 4 ((t.set k true).map Value.bool)) := hide_ ((HK3.out.later HB4.out).upd hU5 (fun e => (HC3.out.later HB4.out).neB (HK3.out.later HB4.out) (by decide) e))
        have HU5 : Hid (Upd (fun q => q = gn) w w5) := hide_ ((HU3.out.then HB4.out).trans hU5 (fun q hq e => absurd hq (Nat.not_lt.2 ((HC3.out.later HB4.out).lies e).1)))
        have HSp5 : Hid (∀ q, (Value.slice (some ⟨gf, 0, none⟩) (fd.length + 1) cf).ownBlock = some q → v5.ownBlock ≠ some q) := hide_ (fun q e e2 => by
          injection e with e
          subst e
          rcases hg5 gf e2 with h | h
          · injection h with h
            exact HSp3.out h.symm
          · have := (hF4.lies (k := gf) rfl).2; omega)
        have HW5 := hide_ hW5
        clear hr5 hW5 hU5 hg5 hF4 HC3 HF3 HK3 HU3 HEd
        go_wp2_with (first | (at_builtin; refine wpList_append_run rfl (.tmp 38) (.tmp 41) 23 23 rfl rfl rfl HRun.out ?_; clear HRun) | fail)
        go_roundg ((wk.take m ++ ed k).length + tot ed (t.set k true) n)
        case measure => exact HM5.out
        case rel => exact ⟨fd ++ [(k : Int)], wk.take m ++ ed k, t.set k true, _, v5, rfl, rfl, hide_ rfl, hide_ (by have h1 := HM5.out; have h2 := HGb.out; rw [List.length_append, List.length_singleton]; omega), HR5, HS5, Hc5, hide_ (by rw [List.length_set]; exact Htl.out), HK5, HF5, HW5, HSp5, HU5⟩
      · have HR5 : Hid (spF ed G (wk.take m) t fd = R) := hide_ (by
          have h1 := Hst.out
          rw [Hd.out, if_pos rfl] at h1
          exact h1.symm)
        have HM5 : Hid ((wk.take m).length + tot ed t n < gk) := hide_ (by
          have h1 := Hgk.out
          have h2 := Hm.out
          have h3 := Htk.out
          omega)
        clear Hst
        go_wp2_with fail
        go_roundg ((wk.take m).length + tot ed t n)
        case measure => exact HM5.out
        case rel => exact ⟨fd, wk.take m, t, vf, _, rfl, rfl, hide_ rfl, hide_ (by have h1 := HM5.out; have h2 := HGb.out; omega), HR5, Ha3, Hct, Htl, HKj, HFj, Hcut, hide_ (fun q e => HSp.out q e), HUj⟩
theorem spread_any (F : Nat) (rv : Value) (ed : Nat → List Int) (n from_ gn : Nat) (s : List Bool) (w : World) (hn : n ≤ 1048576) (hf : from_ < n) (hs : s.length = n) (he : Hid (∀ k, k < n → Stn n (ed k))) (ht : Hid (tot ed s n + 2 ≤ 900000000)) (hK : Hid (Blk w gn 4 (s.map Value.bool)))
    (hE : Hid (∀ (k : Nat) (w' : World), k < n → Upd (fun q => q = gn) w w' → Calls Tryz.prog F #[rv, .int .i64 (k : Int)] w' fun e w'' => ∃ a c, e = .returned (.slice a (ed k).length c) ∧ Hid (a = none → c = 0) ∧ Hid (Row .i64 w'' a (ed k)) ∧ Hid (Below w'.heap.size w' w''))) (hEn : ∀ args w', (callFunc F args).run Tryz.prog w' = .ok (.enter F args) w') :
    Calls Tryz.prog 41 #[.int .i64 (from_ : Int), .func (.func F) #[rv] #[], .slice (some ⟨gn, 0, none⟩) n n] w fun e w' => SpTo w gn n (spF ed (tot ed s n + 2) [(from_ : Int)] s []) e w' :=
  spread_gen (fun _ => True) F rv ed n from_ gn s w hn hf trivial (hide_ (fun _ _ _ _ _ => trivial)) hs he ht hK (hide_ (fun k w' hk _ hU => hE.out k w' hk hU)) hEn
def uA (U : List (List Int)) (k : Nat) : List Int := U.getD k []
def addE (k : Nat) : List Int → List (List Int) → List (List Int)
  | [], U => U
  | y :: ys, U => addE k ys (U.set y.toNat (uA U y.toNat ++ [(k : Int)]))
def revF (ed : Nat → List Int) (S : List St) : Nat → Nat → List (List Int) → List (List Int)
  | 0, _, U => U
  | f + 1, j, U => revF ed S f (j + 1) (if cameP S j then addE j (ed j) U else U)
structure BkR (w : World) (B gb : Nat) (vs : List Value) (U : List (List Int)) : Prop where
  blk : Blk w gb 23 vs
  len : vs.length = U.length
  own : ∀ (i : Nat) (v : Value), vs[i]? = some v → IOwn w B v (uA U i)
  sep : ∀ (i j : Nat) (v u : Value) (q : Nat), vs[i]? = some v → vs[j]? = some u → i ≠ j → v.ownBlock = some q → u.ownBlock ≠ some q
section
variable {w w' : World} {B gb : Nat} {vs : List Value} {U : List (List Int)}
theorem BkR.upd {S : Nat → Prop} (h : BkR w B gb vs U) (hu : Upd S w w') (h1 : ¬ S gb) (h2 : ∀ (i : Nat) (v : Value) (q : Nat), vs[i]? = some v → v.ownBlock = some q → ¬ S q) : BkR w' B gb vs U :=
  ⟨h.blk.upd hu h1, h.len, fun i v hv => (h.own i v hv).upd hu (fun q e => h2 i v q hv e), h.sep⟩
theorem BkR.later (h : BkR w B gb vs U) (hB : Below w.heap.size w w') : BkR w' B gb vs U := h.upd (Upd.of_below (S := fun _ => False) hB) (fun h => h) (fun _ _ _ _ _ h => h)
theorem BkR.ne (h : BkR w B gb vs U) {i : Nat} {v : Value} (hv : vs[i]? = some v) : ¬ v.ownBlock = some gb := (h.own i v hv).neB h.blk (by decide)
theorem BkR.push (h : BkR w B gb vs U) {i : Nat} {v : Value} (hv : vs[i]? = some v) (x : Int) (hl : (uA U i).length ≤ 17592186044415) (hB : B ≤ w.heap.size) :
    ∃ g L cap w', (Builtin.append_ #[23, 23] 23 #[v, .slice (some ⟨w.heap.size, 0, none⟩) 1 1]).run Tryz.prog (w.alloc (.cells #[.int .i64 x] 3)) = .ok (.slice (some ⟨g, 0, none⟩) L cap) w' ∧ w'.frozen? ⟨gb, i, none⟩ = false ∧ w'.cell? ⟨gb, i, none⟩ = some v ∧
      BkR (w'.setCell ⟨gb, i, none⟩ (.slice (some ⟨g, 0, none⟩) L cap)) B gb (vs.set i (.slice (some ⟨g, 0, none⟩) L cap)) (U.set i (uA U i ++ [x])) ∧ Upd (fun q => v.ownBlock = some q ∨ q = gb) w (w'.setCell ⟨gb, i, none⟩ (.slice (some ⟨g, 0, none⟩) L cap)) ∧ (∀ q, (Value.slice (some ⟨g, 0, none⟩) L cap).ownBlock = some q → v.ownBlock = some q ∨ w.heap.size ≤ q) := by
  obtain ⟨g, cap, w', h1, h2, h3, h4⟩ := (h.own i v hv).push x hl hB
  have hi : i < vs.length := (List.getElem?_eq_some_iff.1 hv).1
  have hb1 : Blk w' gb 23 vs := h.blk.upd h3 (fun e => h.ne hv e)
  have hU : Upd (fun q => q = gb) w' (w'.setCell ⟨gb, i, none⟩ (.slice (some ⟨g, 0, none⟩) ((uA U i).length + 1) cap)) := (Upd.refl _ w').set _ _ (.inl rfl)
  have hg : ∀ q, (Value.slice (some ⟨g, 0, none⟩) ((uA U i).length + 1) cap).ownBlock = some q → v.ownBlock = some q ∨ w.heap.size ≤ q := fun q e => by
    injection e with e
    subst e
    exact h4
  have hgb : g ≠ gb := fun e => by
    have := h2.neB hb1 (by decide)
    exact this (by rw [e]; rfl)
  refine ⟨g, _, cap, w', h1, hb1.frozen i, by rw [hb1.cell i]; exact hv, ⟨hb1.set i _, by simp [h.len], fun j u hu => ?_, fun j k u t q hu ht hjk e e2 => ?_⟩, (h3.mono (fun q _ e => .inl e)).trans hU (fun q _ e => .inr e), hg⟩
  · by_cases hj : j = i
    · subst hj
      rw [List.getElem?_set_self (by omega)] at hu
      injection hu with hu
      subst hu
      have e1 : uA (U.set j (uA U j ++ [x])) j = uA U j ++ [x] := by
        unfold uA
        simp [List.getD, show j < U.length by rw [← h.len]; exact hi]
      rw [e1]
      exact h2.upd hU (fun q e e2 => by injection e with e; subst e; exact hgb e2)
    · rw [List.getElem?_set_ne (by omega)] at hu
      have e1 : uA (U.set i (uA U i ++ [x])) j = uA U j := by
        unfold uA
        simp [List.getD, List.getElem?_set, show i ≠ j by omega]
      rw [e1]
      have h5 := (h.own j u hu).upd h3 (fun q e e2 => h.sep j i u v q hu hv hj e e2)
      exact h5.upd hU (fun q e e2 => h.ne hu (e2 ▸ e))
  · by_cases hj : j = i
    · subst hj
      rw [List.getElem?_set_self (by omega)] at hu
      injection hu with hu
      subst hu
      rw [List.getElem?_set_ne hjk] at ht
      rcases hg q e with h6 | h6
      · exact h.sep j k v t q hv ht hjk h6 e2
      · have := ((h.own k t ht).lies e2).2
        omega
    · rw [List.getElem?_set_ne (by omega)] at hu
      by_cases hk : k = i
      · subst hk
        rw [List.getElem?_set_self (by omega)] at ht
        injection ht with ht
        subst ht
        rcases hg q e2 with h6 | h6
        · exact h.sep j k u v q hu hv hjk e h6
        · have := ((h.own j u hu).lies e).2
          omega
      · rw [List.getElem?_set_ne (by omega)] at ht
        exact h.sep j k u t q hu ht hjk e e2
end
theorem infoB : (Tryz.prog.info? 23).map (fun i => (i.zero, i.size, i.bytes)) = some (some (.slice none 0 0), 1, 24) := by kernel_rfl
theorem makeB (n : Nat) (hn : n ≤ 1000000000) (w : World) : (Instr.makeSlice 73 (.int .i64 (n : Int)) (.int .i64 (n : Int))).run Tryz.prog w = .ok (.slice (some ⟨w.heap.size, 0, none⟩) n n) (w.alloc (.cells (madeCells #[.slice none 0 0] n) 23)) := by
  obtain ⟨i0, hi, hz0, hz1, hz2⟩ := info_parts infoB
  have hb : (i0.bytes : Int) * (n : Int) ≤ 281474976710656 := by rw [hz2]; omega
  have hr := run_make (P := Tryz.prog) w 73 23 i0 (.slice none 0 0) Tryz.underlying73 hi hz0 .i64 .i64 n n (by omega) (Int.le_refl _) hb (by omega)
  rw [Int.toNat_natCast, hz1, Nat.mul_one] at hr
  exact hr
theorem madeB0 (n : Nat) : (madeCells #[.slice none 0 0] n).toList = List.replicate n (.slice none 0 0) := by
  apply List.ext_getElem?
  intro i
  by_cases h : i < n <;> simp [madeCells, Nat.mod_one, h]
theorem BkR.new (w : World) (n : Nat) : BkR (w.alloc (.cells (madeCells #[.slice none 0 0] n) 23)) w.heap.size w.heap.size (List.replicate n (.slice none 0 0)) (List.replicate n []) := by
  have hv : ∀ (i : Nat) (v : Value), (List.replicate n (Value.slice none 0 0))[i]? = some v → v = .slice none 0 0 := fun i v h => List.eq_of_mem_replicate (List.mem_of_getElem? h)
  refine ⟨by rw [← madeB0]; exact Blk.newA w _ _, by simp, fun i v h => ?_, fun i j v u q h _ _ e => ?_⟩
  · rw [hv i v h]
    have : uA (List.replicate n []) i = [] := by
      unfold uA
      by_cases hi : i < n <;> simp [List.getD, hi]
    rw [this]
    exact IOwn.nil _ _
  · rw [hv i v h] at e; cases e
theorem uA_len {U : List (List Int)} {M : Nat} (h : ∀ i, (uA U i).length ≤ M) (k : Nat) (x : Int) : ∀ i, (uA (U.set k (uA U k ++ [x])) i).length ≤ M + 1 := fun i => by
  by_cases hi : k = i
  · subst hi
    by_cases hk : k < U.length
    · have e1 : uA (U.set k (uA U k ++ [x])) k = uA U k ++ [x] := by unfold uA; simp [List.getD, hk]
      rw [e1, List.length_append, List.length_singleton]
      have := h k
      omega
    · rw [List.set_eq_of_length_le (by omega)]
      have := h k
      omega
  · have e1 : uA (U.set k (uA U k ++ [x])) i = uA U i := by unfold uA; simp [List.getD, List.getElem?_set, hi]
    rw [e1]
    have := h i
    omega
end Go.Proofs.YtjamfbpdepahnaaGreat
