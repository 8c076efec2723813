import Derived.Test.YtlbgdgobhiokpaaDoorPart10

/- kids. -/
namespace Go.Proofs.YtlbgdgobhiokpaaDoor
open Go.RowKit
set_option linter.unusedVariables false

def SpotsIn (N : List Nd) (S : Stk) : Prop := (∀ i, 1 ≤ i → i < N.length → ∃ p k : Nat, S.getD i (0, 0) = ((p : Int), (k : Int)) ∧ p < N.length ∧ k < kN (N.getD p nil0)) ∧ ∀ i j, 1 ≤ i → i < N.length → 1 ≤ j → j < N.length → S.getD i (0, 0) = S.getD j (0, 0) → i = j
/-- The room holds each node at its place, up to some node. -/
def Roomed (N : List Nd) (S : Stk) (i : Nat) (R : List Int) : Prop := ∀ j, 1 ≤ j → j < i → ∀ p k : Nat, S.getD j (0, 0) = ((p : Int), (k : Int)) → R.getD (offN N p + k) 0 = j
theorem Roomed.step {N : List Nd} {S : Stk} {i T p k : Nat} {R : List Int} (h : Roomed N S i R) (hs : SpotsIn N S) (hT : offN N N.length = T) (hR : R.length = T) (h1 : 1 ≤ i) (hi : i < N.length) (hp : p < N.length) (hk : k < kN (N.getD p nil0)) (he : S.getD i (0, 0) = ((p : Int), (k : Int))) :
    Roomed N S (i + 1) (R.set (offN N p + k) i) := by
  intro j hj1 hj p' k' he'
  have hin := offN_in N hT hp hk
  by_cases e : j = i
  · subst e
    rw [he] at he'
    obtain ⟨e1, e2⟩ := Prod.mk.inj he'
    obtain rfl : p = p' := by omega
    obtain rfl : k = k' := by omega
    rw [List.getD_eq_getElem?_getD, List.getElem?_set_self (by omega)]
    rfl
  · obtain ⟨p2, k2, h2, hp2, hk2⟩ := hs.1 j hj1 (by omega)
    rw [h2] at he'
    obtain ⟨e1, e2⟩ := Prod.mk.inj he'
    obtain rfl : p2 = p' := by omega
    obtain rfl : k2 = k' := by omega
    rw [List.getD_eq_getElem?_getD, List.getElem?_set_ne, ← List.getD_eq_getElem?_getD]
    · exact h j hj1 (by omega) p2 k2 h2
    · intro e3
      obtain ⟨rfl, rfl⟩ := offN_inj N hp hk hp2 hk2 e3
      exact e (hs.2 j i hj1 (by omega) h1 hi (by rw [h2, he]))
theorem An.spot {B b : Nat} {w : World} {vn vs vm : Value} {N : List Nd} {S G : Stk} (h : An B w b vn vs vm N S G) {o : Nat} (ho : o < S.length) :
    ∃ gs cs, vs = .slice (some ⟨gs, 0, none⟩) S.length cs ∧ S.length ≤ cs ∧ cs ≤ maxLen ∧ gs < w.heap.size ∧ w.cell? ⟨gs, o * 2, none⟩ = some (.int .i64 (S.getD o (0, 0)).1) ∧ w.cell? ⟨gs, o * 2 + 1, none⟩ = some (.int .i64 (S.getD o (0, 0)).2) := by
  obtain ⟨g, cap, ys, e, hb, hn, hm, hl, ht, hK⟩ := ownS_blk h.spo (by omega)
  have hat : ∀ i, i < S.length * 2 → ys[i]? = (cellsS S)[i]? := fun i hi => by rw [← ht, List.getElem?_take, if_pos hi]
  obtain ⟨c0, c1⟩ := cellsS_at S o ho
  exact ⟨g, cap, e, hn, hm, hK.lt, by rw [hK.cell, hat _ (by omega), c0], by rw [hK.cell, hat _ (by omega), c1]⟩
set_option maxRecDepth 100000 in
set_option maxHeartbeats 8000000 in
theorem kids_any (B b T : Nat) (vn vs vm : Value) (N : List Nd) (S G : Stk) (w : World) (hA : Hid (An B w b vn vs vm N S G)) (hN : N.length ≤ 1000000) (hT : N.length = T + 1) (hoff : Hid (offN N N.length = T)) (hks : Hid (∀ j, j < N.length → 0 ≤ (N.getD j nil0).2.2)) (hS : Hid (S.length = N.length)) (hsp : Hid (SpotsIn N S)) :
    Calls Tryd.prog 48 #[.pointer (some ⟨b, 0, none⟩)] w fun e w' => ∃ (gk gr : Nat) (R : List Int), e = .returned (.slice (some ⟨gk, 0, none⟩) N.length N.length) ∧ w.heap.size ≤ gk ∧ w.heap.size ≤ gr ∧ Hid (Kd w' gk gr N N.length R) ∧ Hid (R.length = T) ∧ Hid (Roomed N S N.length R) ∧ Hid (Below w.heap.size w w') := by
  obtain ⟨an, cn, rfl, hcn⟩ := hA.out.vn_is
  have HLen : Hid (N.length = T + 1) := hT
  obtain ⟨nL, hnL⟩ : ∃ nL, N.length = nL := ⟨_, rfl⟩
  have HNL : Hid (N.length = nL) := hnL
  rw [hnL] at hA hN hT ⊢
  subst hT
  clear hnL
  have c0 := hA.out.c0
  have hmk1 := run_make_row' (P := Tryd.prog) 43 3 (.int .i64 0) 8 Tryd.underlying43 (by kernel_rfl) rfl .i64 .i64 T (by omega) (by omega)
  have hmk2 := run_make_row' (P := Tryd.prog) 68 43 (.slice none 0 0) 24 Tryd.underlying68 (by kernel_rfl) rfl .i64 .i64 (T + 1) (by omega) (by omega)
  simp only [Int.natCast_add, Int.natCast_one] at hmk2
  obtain ⟨w1, hw1⟩ : ∃ w1, w1 = w.alloc (.cells (madeCells #[.int .i64 0] T) 3) := ⟨_, rfl⟩
  obtain ⟨w2, hw2⟩ : ∃ w2, w2 = w1.alloc (.cells (madeCells #[.slice none 0 0] (T + 1)) 43) := ⟨_, rfl⟩
  have HB1 : Hid (Below w.heap.size w w1) := by rw [hw1]; exact (Below.refl _ _).alloc (Nat.le_refl _) _
  have hsz1 : w1.heap.size = w.heap.size + 1 := by rw [hw1]; simp
  have HB2 : Hid (Below w.heap.size w w2) := by rw [hw2]; exact HB1.out.alloc (by omega) _
  have HKd : Hid (Kd w2 w1.heap.size w.heap.size N 0 (List.replicate T 0)) := by
    refine kd_new HNL.out ?_ ?_
    · rw [hw2]
      have h := Blk.newA w1 (madeCells #[.slice none 0 0] (T + 1)) 43
      rwa [toList_madeCells_one] at h
    · have h := Blk.newA w (madeCells #[.int .i64 0] T) 3
      rw [toList_madeCells_one, ← hw1] at h
      rw [hw2]
      refine Blk.alloc ?_ _
      rw [cellsL, List.map_replicate]
      exact h
  have HS1 : Hid (w1.heap.size = w.heap.size + 1) := hsz1
  clear hsz1
  have c0a : w1.cell? ⟨b, 0, none⟩ = some (.slice an (T + 1) cn) := (hA.out.later HB1.out).c0
  have c0b : w2.cell? ⟨b, 0, none⟩ = some (.slice an (T + 1) cn) := (hA.out.later HB2.out).c0
  go_enter Tryd.func48, Tryd.ntmps48
  go_upto_region 2 with fail
  rw [← hw1]
  clear c0 hw1 hmk1
  go_upto_region 3 with fail
  rw [← hw2]
  clear c0a hw2 hmk2
  go_wp2_with fail
  obtain ⟨gk, hgk⟩ : ∃ gk, w1.heap.size = gk := ⟨_, rfl⟩
  obtain ⟨gr, hgr⟩ : ∃ gr, w.heap.size = gr := ⟨_, rfl⟩
  have HGK : Hid (gk = gr + 1 ∧ w.heap.size = gr) := by
    have := HS1.out
    exact ⟨by omega, hgr⟩
  rw [hgk] at HKd ⊢
  rw [hgr] at HKd HB2 ⊢
  clear hgk HB1 HS1 hgr
  go_loopw [3, 27] (fun x3 xi wr => ∃ (i x Rm : Nat), i ≤ T + 1 ∧ xi = .int .i64 i ∧ x3 = .slice (some ⟨gr, x, none⟩) Rm Rm ∧ Hid (Rm + offN N i = T ∧ (0 < Rm → x = offN N i)) ∧ Hid (Kd wr gk gr N i (List.replicate T 0)) ∧ Hid (Below gr w wr)) (fun _ xi _ => T + 1 - (intOf xi).toNat)
  case atStart => exact ⟨0, 0, T, by omega, rfl, rfl, ⟨by rw [offN_zero]; omega, fun _ => rfl⟩, HKd, HB2⟩
  case round =>
    clear c0b HKd HB2
    obtain ⟨i, x, Rm, hi, rfl, rfl, HRm, HKd, HB⟩ := hrel
    have HAr : Hid (An B wr b (.slice an (T + 1) cn) vs vm N S G) := hA.out.later (by rw [HGK.out.2]; exact HB.out)
    have c0 := HAr.out.c0; have c1 := HAr.out.c1
    by_cases hend : i = T + 1
    · subst hend
      have hnl : ¬ ((T : Int) + 1 < (T : Int) + 1) := by omega
      have hnl2 : ¬ (((T + 1 : Nat) : Int) < (T : Int) + 1) := by omega
      obtain ⟨sa, cs, hvs, hcs⟩ : ∃ a c, vs = .slice a (T + 1) c ∧ c ≤ 9223372036854775807 := by
        rcases HAr.out.spo.2 with ⟨e, h0⟩ | ⟨g, cap, cur, e, _, _, _, hm, _⟩
        · have := hS.out; have := HNL.out; omega
        · rw [hS.out, HNL.out] at e
          unfold maxLen at hm; exact ⟨_, _, e, hm⟩
      subst hvs
      go_wp2_with fail
      go_loopw [49] (fun xi wr => ∃ (i : Nat) (R : List Int), i ≤ T + 1 ∧ xi = .int .i64 i ∧ Hid (R.length = T) ∧ Hid (Roomed N S i R) ∧ Hid (Kd wr gk gr N N.length R) ∧ Hid (Below gr w wr)) (fun xi _ => T + 1 - (intOf xi).toNat)
      case atStart => exact ⟨0, List.replicate T 0, by omega, rfl, List.length_replicate, fun j h1 h2 => absurd h2 (by omega), by rw [HNL.out]; exact HKd.out, HB⟩
      case round =>
        clear c0 c1 HAr HKd HB hnl hnl2 HRm
        obtain ⟨i, R, hi, rfl, HRl, HRo, HKd, HB⟩ := hrel
        have HAr : Hid (An B wr b (.slice an (T + 1) cn) (.slice sa (T + 1) cs) vm N S G) := hA.out.later (by rw [HGK.out.2]; exact HB.out)
        by_cases hend : i = T + 1
        · subst hend
          have hnl : ¬ ((T : Int) + 1 < (T : Int) + 1) := by omega
          have hnl2 : ¬ (((T + 1 : Nat) : Int) < (T : Int) + 1) := by omega
          go_wp2
          go_ret
          exact ⟨gk, rfl, by have := HGK.out; omega, gr, by have := HGK.out; omega, R, by rw [← HNL.out]; exact HKd.out, HRl, HRo, by rw [HGK.out.2]; exact HB.out⟩
        · have hil : i < N.length := by have := HNL.out; omega
          have hil' : (i : Int) < ((T + 1 : Nat) : Int) := by omega
          have hil2 : (i : Int) < (T : Int) + 1 := by omega
          obtain ⟨gs, cs', hvs, hs1, hs2, hgs, n0, n1⟩ := HAr.out.spot (o := i) (by rw [hS.out]; exact hil)
          rw [hS.out, HNL.out] at hvs hs1
          have e1 : sa = some ⟨gs, 0, none⟩ ∧ cs = cs' := by simpa using hvs
          obtain ⟨rfl, rfl⟩ := e1
          clear hvs
          obtain ⟨⟨sp, sk⟩, hx⟩ : ∃ x, S.getD i (0, 0) = x := ⟨_, rfl⟩
          rw [hx] at n0 n1
          simp only at n0 n1
          obtain ⟨wA, hwA⟩ : ∃ wA, wA = wr.alloc (.cells #[.int .i64 sp, .int .i64 sk] 103) := ⟨_, rfl⟩
          have HBA : Hid (Below wr.heap.size wr wA) := by rw [hwA]; exact (Below.refl _ _).alloc (Nat.le_refl _) _
          have HKA : Hid (Kd wA gk gr N N.length R) := HKd.out.later HBA.out
          have HB3 : Hid (Below gr w wA) := by
            have h := HB.out.trans (HBA.out.mono (by have := HB.out.size; have := HGK.out.2; omega))
            exact h
          have a0 : wA.cell? ⟨wr.heap.size, 0, none⟩ = some (.int .i64 sp) := by rw [hwA]; exact (Blk.newA wr _ 103).cell 0
          have a1 : wA.cell? ⟨wr.heap.size, 1, none⟩ = some (.int .i64 sk) := by rw [hwA]; exact (Blk.newA wr _ 103).cell 1
          go_upto_region 11 with fail
          rw [← hwA]
          clear hwA n0 n1 HAr HBA HKd HB hgs
          by_cases h0 : i = 0
          · subst h0
            have h00 : ¬ ((0 : Int) < 0) := by omega
            go_wp2
            go_roundw
            case rel => exact ⟨1, R, by omega, by go_num, HRl, fun j h1 h2 => absurd h2 (by omega), HKA, HB3⟩
            case measure => simp [intOf]
          · have h0i : (0 : Int) < i := by omega
            obtain ⟨p, k, he, hp, hk⟩ := hsp.out.1 i (by omega) hil
            have hxx := hx
            rw [he] at hx
            obtain ⟨e1, e2⟩ := Prod.mk.inj hx
            subst e1 e2
            have HRo2 : Hid _ := HRo.out.step hsp.out hoff.out HRl.out (by omega) hil hp hk he
            obtain ⟨x, c, a5, hxo, hc1, hc2⟩ := HKA.out.at hp
            have hin := offN_in N hoff.out hp hk
            obtain rfl := hxo (by omega)
            obtain ⟨a6, a7⟩ := HKA.out.room (j := offN N p + k) (by rw [HRl.out]; exact hin)
            have HKp : Hid (∀ q, Kd ((wA.drewN q).setCell ⟨gr, offN N p + k, none⟩ (.int .i64 (i : Int))) gk gr N N.length (R.set (offN N p + k) (i : Int))) := fun q => by
              have h1 : Kd (wA.drewN q) gk gr N N.length R := HKA.out.later ⟨rfl, rfl, rfl, Nat.le_refl _, fun _ _ => rfl⟩
              exact h1.put _ _
            have HRl2 : Hid ((R.set (offN N p + k) (i : Int)).length = T) := by show _ = _; rw [List.length_set]; exact HRl.out
            generalize offN N p = of at *
            generalize R.getD (of + k) 0 = old at *
            generalize kN (N.getD p nil0) = kp at *
            have hpl : (p : Int) < (T : Int) + 1 := by have := HNL.out; omega
            have hkl : (k : Int) < (kp : Int) := by omega
            clear HKA HRo HRl he hxx
            go_wp2_with fail
            go_region
            go_wp2
            go_roundw
            case rel => exact ⟨i + 1, _, by omega, by go_num, HRl2, HRo2, HKp.out 1, HB3.out.drew.setCell (Nat.le_refl _) _⟩
            case measure => simp [intOf]; omega
    · have hil : i < N.length := by have := HNL.out; omega
      have hil' : (i : Int) < ((T + 1 : Nat) : Int) := by omega
      have hil2 : (i : Int) < (T : Int) + 1 := by omega
      obtain ⟨gn, cn', hvn, -, hn1, hn2, hgn, n0, n1, n2, -, -⟩ := HAr.out.node hil
      rw [HNL.out] at hvn hn1
      have e1 : an = some ⟨gn, 0, none⟩ ∧ cn = cn' := by simpa using hvn
      obtain ⟨rfl, rfl⟩ := e1
      obtain ⟨⟨xk, xn, xc⟩, hx⟩ : ∃ x, N.getD i nil0 = x := ⟨_, rfl⟩
      rw [hx] at n0 n1 n2
      simp only at n0 n1 n2
      clear hvn
      have h0c : 0 ≤ xc := by have := hks.out i hil; rw [hx] at this; exact this
      obtain ⟨kk, rfl⟩ := Int.eq_ofNat_of_zero_le h0c
      have hkk : kN (N.getD i nil0) = kk := by rw [hx]; simp [kN]
      have hsucc := offN_succ N i hil
      rw [hkk] at hsucc
      have hle2 := offN_le N (show i + 1 ≤ N.length by omega) (Nat.le_refl _)
      rw [hoff.out, hsucc] at hle2
      have hkR : kk ≤ Rm := by have := HRm.out.1; omega
      obtain ⟨x', hx', hs2⟩ := cut_l gr x Rm kk (kk : Int) rfl hkR
      have hs1 := cut_h (some ⟨gr, x, none⟩) Rm kk (kk : Int) rfl hkR
      obtain ⟨wA, hwA⟩ : ∃ wA, wA = wr.alloc (.cells #[.int .i64 xk, .int .u64 xn, .int .i64 (kk : Int)] 37) := ⟨_, rfl⟩
      have HBA : Hid (Below wr.heap.size wr wA) := by rw [hwA]; exact (Below.refl _ _).alloc (Nat.le_refl _) _
      have a2 : wA.cell? ⟨wr.heap.size, 2, none⟩ = some (.int .i64 (kk : Int)) := by rw [hwA]; exact (Blk.newA wr _ 37).cell 2
      have HKA : Hid (Kd wA gk gr N i (List.replicate T 0)) := HKd.out.later HBA.out
      have a2s : ∀ v, (wA.setCell ⟨gk, i, none⟩ v).cell? ⟨wr.heap.size, 2, none⟩ = some (.int .i64 (kk : Int)) := fun v => by
        have h1 : Blk wA wr.heap.size 37 [.int .i64 xk, .int .u64 xn, .int .i64 (kk : Int)] := by rw [hwA]; exact Blk.newA wr _ 37
        obtain ⟨K, h2, _⟩ := HKA.out.kb
        exact (h1.other ⟨gk, i, none⟩ v (blk_ne h1 h2 (by decide))).cell 2
      obtain ⟨⟨u, a3⟩, a4⟩ := HKA.out.cell hil
      have HK2 : Hid (∀ q, Kd ((wA.drewN q).setCell ⟨gk, i, none⟩ (.slice (some ⟨gr, x, none⟩) kk Rm)) gk gr N (i + 1) (List.replicate T 0)) := fun q => by
        have h1 : Kd (wA.drewN q) gk gr N i (List.replicate T 0) := HKA.out.later ⟨rfl, rfl, rfl, Nat.le_refl _, fun _ _ => rfl⟩
        have h2 := h1.lay hil (x := x) (c := Rm) (fun h => HRm.out.2 (by rw [hkk] at h; omega)) (by rw [hkk]; exact hkR) (by have := HRm.out.1; have := HNL.out; omega)
        rw [hkk] at h2
        exact h2
      have HB3 : Hid (Below gr w wA) := by
        have h := HB.out.trans (HBA.out.mono (by have := HB.out.size; have := HGK.out.2; omega))
        exact h
      have HRn : Hid (Rm - kk + offN N (i + 1) = T ∧ (0 < Rm - kk → x' = offN N (i + 1))) := ⟨by have := HRm.out.1; omega, fun h => by rw [hx' (by omega), hsucc, HRm.out.2 (by omega)]⟩
      have hgb : gr ≤ gk := by have := HGK.out.1; omega
      go_upto_region 6 with fail
      rw [← hwA]
      clear hwA c0 c1 n0 n1 n2 hx HKd HB HRm hsucc hle2 hx' hkk HBA HKA
      go_wp2_with fail
      go_region
      go_wp2
      go_roundw
      case rel => exact ⟨i + 1, x', Rm - kk, by omega, by go_num, rfl, HRn, HK2.out 1, HB3.out.drew.setCell hgb _⟩
      case measure => simp [intOf]; omega
end Go.Proofs.YtlbgdgobhiokpaaDoor

/- An arena's value, plain: each node, then its kids' values; with a stack. -/
namespace Go.Proofs.YtlbgdgobhiokpaaDoor
open Go.RowKit
set_option linter.unusedVariables false

def pre (N : List Nd) (ch : Nat → Nat → Nat) : Nat → Nat → List Nd
  | 0, _ => []
  | f + 1, p => N.getD p nil0 :: (List.range (kN (N.getD p nil0))).flatMap fun k => pre N ch f (ch p k)
/-- ch tells each node's kids. -/
def Kids (N : List Nd) (S : Stk) (ch : Nat → Nat → Nat) : Prop := ∀ p, p < N.length → ∀ k, k < kN (N.getD p nil0) → p < ch p k ∧ ch p k < N.length ∧ S.getD (ch p k) (0, 0) = ((p : Int), (k : Int))
section
variable {N L D : List Nd} {S : Stk} {ch : Nat → Nat → Nat} {st : List Nat}
theorem pre_fuel (h : Kids N S ch) : ∀ (f g p : Nat), p < N.length → N.length ≤ p + f → N.length ≤ p + g → pre N ch f p = pre N ch g p
  | 0, g, p, hp, hf, hg => by omega
  | f + 1, 0, p, hp, hf, hg => by omega
  | f + 1, g + 1, p, hp, hf, hg => by
    rw [pre, pre]
    congr 1
    rw [List.flatMap_def, List.flatMap_def]
    congr 1
    apply List.map_congr_left
    intro k hk
    have hk' := List.mem_range.1 hk
    obtain ⟨h1, h2, _⟩ := h p hp k hk'
    exact pre_fuel h f g (ch p k) h2 (by omega) (by omega)
/-- The value of the node p. -/
def vOf (N : List Nd) (ch : Nat → Nat → Nat) (p : Nat) : List Nd := pre N ch N.length p
theorem vOf_step (h : Kids N S ch) {p : Nat} (hp : p < N.length) : vOf N ch p = N.getD p nil0 :: (List.range (kN (N.getD p nil0))).flatMap fun k => vOf N ch (ch p k) := by
  obtain ⟨n, hn⟩ : ∃ n, N.length = n + 1 := ⟨N.length - 1, by omega⟩
  unfold vOf
  rw [hn, pre]
  congr 1
  rw [List.flatMap_def, List.flatMap_def]
  congr 1
  apply List.map_congr_left
  intro k hk
  obtain ⟨h1, h2, _⟩ := h p hp k (List.mem_range.1 hk)
  exact pre_fuel h n (n + 1) (ch p k) h2 (by omega) (by omega)
theorem vOf_pos (h : Kids N S ch) {p : Nat} (hp : p < N.length) : 0 < (vOf N ch p).length := by rw [vOf_step h hp]; simp
/-- D is told, st is to be told (the first one first). -/
structure Dfs (N : List Nd) (ch : Nat → Nat → Nat) (L D : List Nd) (st : List Nat) : Prop where
  tot : D ++ st.flatMap (vOf N ch) = L
  ins : ∀ p ∈ st, p < N.length
theorem Dfs.len (h : Dfs N ch L D st) (hK : Kids N S ch) : D.length + st.length ≤ L.length := by
  have h2 : ∀ st : List Nat, (∀ p ∈ st, p < N.length) → st.length ≤ (st.flatMap (vOf N ch)).length := by
    intro st
    induction st with
    | nil => intro _; simp
    | cons p st ih =>
      intro h
      have h1 := vOf_pos hK (h p (by simp))
      have h2 := ih fun q hq => h q (by simp [hq])
      simp only [List.flatMap_cons, List.length_append, List.length_cons]
      omega
  have h3 := h2 st h.ins
  rw [← h.tot, List.length_append]
  omega
theorem Dfs.step {p : Nat} {st : List Nat} (h : Dfs N ch L D (p :: st)) (hK : Kids N S ch) : Dfs N ch L (D ++ [N.getD p nil0]) ((List.range (kN (N.getD p nil0))).map (ch p) ++ st) := by
  have hp := h.ins p (by simp)
  refine ⟨?_, fun q hq => ?_⟩
  · rw [← h.tot, List.flatMap_cons, vOf_step hK hp, List.flatMap_append, List.flatMap_map]
    simp
  · rcases List.mem_append.1 hq with hq | hq
    · obtain ⟨k, hk, rfl⟩ := List.mem_map.1 hq
      exact (hK p hp k (List.mem_range.1 hk)).2.1
    · exact h.ins q (by simp [hq])
end
/-- A stack of numbers as it lies in memory: the first one last. -/
def stL (st : List Nat) : List Int := List.map (fun p : Nat => (p : Int)) st.reverse
theorem stL_len (st : List Nat) : (stL st).length = st.length := by simp [stL]
theorem stL_cons (p : Nat) (st : List Nat) : stL (p :: st) = stL st ++ [(p : Int)] := by simp [stL]
theorem stL_top (p : Nat) (st : List Nat) : (stL (p :: st)).getD st.length 0 = p := by
  rw [stL_cons, List.getD_eq_getElem?_getD, List.getElem?_append_right (by rw [stL_len]; exact Nat.le_refl _), stL_len, Nat.sub_self]
  rfl
/-- The kids from number j on, ahead of a stack. -/
def heap' (ch : Nat → Nat → Nat) (p c j : Nat) (st : List Nat) : List Nat := ((List.range c).drop j).map (ch p) ++ st
theorem heap'_end (ch : Nat → Nat → Nat) (p c : Nat) (st : List Nat) : heap' ch p c c st = st := by
  unfold heap'
  rw [List.drop_eq_nil_of_le (by simp)]
  rfl
theorem heap'_step (ch : Nat → Nat → Nat) (p c j : Nat) (st : List Nat) (hj : j < c) : heap' ch p c j st = ch p j :: heap' ch p c (j + 1) st := by
  unfold heap'
  rw [List.drop_eq_getElem_cons (by simpa using hj)]
  simp
theorem heap'_len (ch : Nat → Nat → Nat) (p c j : Nat) (st : List Nat) : (heap' ch p c j st).length = c - j + st.length := by simp [heap']
theorem heap'_zero (ch : Nat → Nat → Nat) (p c : Nat) (st : List Nat) : heap' ch p c 0 st = (List.range c).map (ch p) ++ st := rfl
/-- The front of a row of numbers of the call's own. -/
theorem own_front {B n cap g : Nat} {w : World} {l r : List Int} (h : w.ownsRow B 3 1 (.slice (some ⟨g, 0, none⟩) n cap) n (cellsL .i64 (l ++ r))) (hn : 0 < n) (hl : l.length + r.length = n) : w.ownsRow B 3 1 (.slice (some ⟨g, 0, none⟩) l.length cap) l.length (cellsL .i64 l) := by
  obtain ⟨g', cap', ys, e, hb, h1, h2, h3, h4, hK⟩ := own_blk h hn
  have e1 : g = g' ∧ cap = cap' := by simpa using e
  obtain ⟨rfl, rfl⟩ := e1
  have h5 := hK.owns B l.length cap hb h3 (by omega) h2
  have h6 : ys.take l.length = cellsL .i64 l := by
    have e : ys.take l.length = (ys.take n).take l.length := by rw [List.take_take, Nat.min_eq_left (by omega)]
    rw [e, h4, cellsL_append]
    exact List.take_left' (cellsL_length _ _)
  rw [h6] at h5
  exact h5
theorem own_mono {B B' e c n : Nat} {w : World} {v : Value} {xs : List Value} (h : w.ownsRow B e c v n xs) (hB : B' ≤ B) : w.ownsRow B' e c v n xs := by
  refine ⟨h.1, ?_⟩
  rcases h.2 with h | ⟨g, cap, cur, h1, h2, h3⟩
  · exact .inl h
  · exact .inr ⟨g, cap, cur, h1, Nat.le_trans hB h2, h3⟩
theorem make22 (n : Nat) (hn : n ≤ 1000000) (w : World) : ∃ ys : Array Value, ys.size = n * 3 ∧ ∀ w', (Instr.makeSlice 22 (.int .i64 0) (.int .i64 (n : Int))).run Tryd.prog w' = .ok (.slice (some ⟨w'.heap.size, 0, none⟩) 0 n) (w'.alloc (.cells ys 37)) := by
  obtain ⟨i, hi, hz⟩ : ∃ i, Tryd.prog.info? 37 = some i ∧ (i.zero, i.size, i.bytes) = (some (.agg #[.int .i64 0, .int .u64 0, .int .i64 0]), 3, 24) := Option.map_eq_some_iff.1 (show (Tryd.prog.info? 37).map (fun i => (i.zero, i.size, i.bytes)) = some (some (.agg #[.int .i64 0, .int .u64 0, .int .i64 0]), 3, 24) by kernel_rfl)
  simp only [Prod.mk.injEq] at hz
  obtain ⟨h1, h2, h3⟩ := hz
  refine ⟨madeCells (Value.agg #[.int .i64 0, .int .u64 0, .int .i64 0]).cells (n * 3), by simp [size_madeCells], fun w' => ?_⟩
  have h := run_make (P := Tryd.prog) w' 22 37 i _ Tryd.underlying22 hi h1 .i64 .i64 0 n (by omega) (by omega) (by rw [h3]; omega) (by omega)
  simpa [h2] using h
end Go.Proofs.YtlbgdgobhiokpaaDoor

/- An arena, plain: what holds of its nodes, spots and gaps, from the first Add on. -/
namespace Go.Proofs.YtlbgdgobhiokpaaDoor
open Go.RowKit
set_option linter.unusedVariables false

structure Inv (N : List Nd) (S G : Stk) : Prop where
  len : S.length = N.length
  spt : ∀ i, 1 ≤ i → i < N.length → ∃ p k : Nat, S.getD i (0, 0) = ((p : Int), (k : Int)) ∧ p < i
  inj : ∀ i j, 1 ≤ i → i < N.length → 1 ≤ j → j < N.length → S.getD i (0, 0) = S.getD j (0, 0) → i = j
  pos : ∀ p, p < N.length → 0 ≤ (N.getD p nil0).2.2
  full : ∀ p, p < N.length → ∀ k : Nat, (k : Int) < (N.getD p nil0).2.2 → ∃ i, 1 ≤ i ∧ i < N.length ∧ S.getD i (0, 0) = ((p : Int), (k : Int))
  miss : ∀ p, p < N.length → ∀ i, 1 ≤ i → i < N.length → S.getD i (0, 0) ≠ ((p : Int), (N.getD p nil0).2.2)
  gap : ∀ e, e ∈ G ↔ ∃ i, 1 ≤ i ∧ i < N.length ∧ S.getD i (0, 0) = e ∧ ∃ p : Nat, e.1 = p ∧ (N.getD p nil0).2.2 < e.2
  nod : G.Nodup
  gl : G.length ≤ N.length
  sum : N.length ≠ 0 → offN N N.length + G.length + 1 = N.length
theorem Inv.empty : Inv [] [] [] := by
  refine ⟨rfl, ?_, ?_, ?_, ?_, ?_, ?_, List.nodup_nil, Nat.le_refl _, ?_⟩
  · intro i _ h; simp at h
  · intro i _ _ h; simp at h
  · intro p h; simp at h
  · intro p h; simp at h
  · intro p h; simp at h
  · intro e; simp
  · intro h; simp at h
/-- A spot is taken just if the arena refuses it. -/
theorem Inv.taken {N : List Nd} {S G : Stk} (h : Inv N S G) {p k : Nat} (hp : p < N.length) : (((p : Int), (k : Int)) ∈ G ∨ (k : Int) < (N.getD p nil0).2.2) ↔ ∃ i, 1 ≤ i ∧ i < N.length ∧ S.getD i (0, 0) = ((p : Int), (k : Int)) := by
  constructor
  · rintro (h1 | h1)
    · obtain ⟨i, h2, h3, h4, _⟩ := (h.gap _).1 h1
      exact ⟨i, h2, h3, h4⟩
    · exact h.full p hp k h1
  · rintro ⟨i, h1, h2, h3⟩
    have h4 := h.miss p hp i h1 h2
    rw [h3] at h4
    have h5 : (k : Int) ≠ (N.getD p nil0).2.2 := fun e => h4 (by rw [← e])
    by_cases h6 : (k : Int) < (N.getD p nil0).2.2
    · exact .inr h6
    · exact .inl ((h.gap _).2 ⟨i, h1, h2, h3, p, rfl, by show _ < (k : Int); omega⟩)
/-- A parent's gap, as it is closed up to c. -/
structure Fil (N : List Nd) (S : Stk) (o : Nat) (c : Int) (G : Stk) : Prop where
  full : ∀ k : Nat, (k : Int) < c → ∃ i, 1 ≤ i ∧ i < N.length ∧ S.getD i (0, 0) = ((o : Int), (k : Int))
  gap : ∀ e, e ∈ G ↔ ∃ i, 1 ≤ i ∧ i < N.length ∧ S.getD i (0, 0) = e ∧ ∃ p : Nat, e.1 = p ∧ (if p = o then c else (N.getD p nil0).2.2 + 1) ≤ e.2
  nod : G.Nodup
  pos : 0 ≤ c
theorem Fil.step {N : List Nd} {S G : Stk} {o : Nat} {c : Int} (h : Fil N S o c G) (hc : G.contains ((o : Int), c) = true) : Fil N S o (c + 1) (G.erase ((o : Int), c)) := by
  have hm : ((o : Int), c) ∈ G := by simpa using hc
  obtain ⟨i, h1, h2, h3, _⟩ := (h.gap _).1 hm
  have hp := h.pos
  refine ⟨fun k hk => ?_, fun e => ?_, h.nod.erase _, by omega⟩
  · by_cases e : (k : Int) < c
    · exact h.full k e
    · obtain rfl : c = (k : Int) := by omega
      exact ⟨i, h1, h2, h3⟩
  · rw [h.nod.mem_erase_iff, h.gap]
    constructor
    · rintro ⟨hne, i, k1, k2, k3, p, k4, k5⟩
      refine ⟨i, k1, k2, k3, p, k4, ?_⟩
      by_cases hpo : p = o
      · subst hpo
        rw [if_pos rfl] at k5 ⊢
        have : e.2 ≠ c := fun e2 => hne (by rw [← k4, ← e2])
        omega
      · rw [if_neg hpo] at k5 ⊢
        exact k5
    · rintro ⟨i, k1, k2, k3, p, k4, k5⟩
      refine ⟨?_, i, k1, k2, k3, p, k4, ?_⟩
      · rintro rfl
        have : p = o := by have k6 : (o : Int) = p := k4; omega
        rw [if_pos this] at k5
        have k7 : c + 1 ≤ c := k5
        omega
      · by_cases hpo : p = o
        · rw [if_pos hpo] at k5 ⊢
          omega
        · rw [if_neg hpo] at k5 ⊢
          exact k5
theorem Fil.end : ∀ {f : Nat} {N : List Nd} {S G : Stk} {o : Nat} {c : Int}, G.length = f → Fil N S o c G → Fil N S o (fillG f o c G).1 (fillG f o c G).2 ∧ (fillG f o c G).2.contains ((o : Int), (fillG f o c G).1) = false ∧ (fillG f o c G).1 + (fillG f o c G).2.length = c + G.length ∧ c ≤ (fillG f o c G).1
  | 0, N, S, G, o, c, hl, h => by
    obtain rfl := List.length_eq_zero_iff.1 hl
    exact ⟨h, rfl, rfl, Int.le_refl _⟩
  | f + 1, N, S, G, o, c, hl, h => by
    rw [fillG]
    by_cases hc : G.contains ((o : Int), c) = true
    · rw [if_pos hc]
      have he := erase_len hc
      obtain ⟨h1, h2, h3, h4⟩ := Fil.end (f := f) (by omega) (h.step hc)
      exact ⟨h1, h2, by omega, by omega⟩
    · rw [if_neg hc]
      exact ⟨h, by simpa using hc, rfl, Int.le_refl _⟩
theorem sum_set : ∀ (N : List Nd) (o : Nat) (x : Nd), o < N.length → ((N.set o x).map kN).sum + kN (N.getD o nil0) = (N.map kN).sum + kN x
  | [], o, x, h => by simp at h
  | y :: N, 0, x, h => by simp; omega
  | y :: N, o + 1, x, h => by
    have := sum_set N o x (by simpa using h)
    simp only [List.set_cons_succ, List.map_cons, List.sum_cons, List.getD_cons_succ]
    omega
theorem offN_all (N : List Nd) : offN N N.length = (N.map kN).sum := by rw [offN, List.take_length]
theorem setK_other (N : List Nd) (o p : Nat) (c : Int) (h : p ≠ o) : (setK N o c).getD p nil0 = N.getD p nil0 := by
  unfold setK
  rw [List.getD_eq_getElem?_getD, List.getElem?_set_ne (by omega), ← List.getD_eq_getElem?_getD]
theorem getD_snocS (S : Stk) (e : Int × Int) (i : Nat) : (S ++ [e]).getD i (0, 0) = if i = S.length then e else S.getD i (0, 0) := by
  simp only [List.getD_eq_getElem?_getD]
  by_cases h : i = S.length
  · subst h; simp
  · rw [if_neg h]
    by_cases h2 : i < S.length
    · rw [List.getElem?_append_left h2]
    · rw [List.getElem?_append_right (by omega), List.getElem?_eq_none (by simp; omega), List.getElem?_eq_none (by omega)]
theorem Inv.add {N : List Nd} {S G : Stk} (h : Inv N S G) {p k : Int} (kind n : Int) (hr : refuseG N G p k = 0) : Inv (addN1 N G p k kind n) (S ++ [(p, k)]) (addG1 N G p k) := by
  by_cases h0 : N.length = 0
  · obtain rfl := List.length_eq_zero_iff.1 h0
    obtain rfl : S = [] := List.length_eq_zero_iff.1 (by rw [h.len]; rfl)
    obtain rfl : G = [] := List.length_eq_zero_iff.1 (by have := h.gl; simp at this; simpa using this)
    have e1 : addN1 [] [] p k kind n = [(kind, n, 0)] := rfl
    have e2 : addG1 [] [] p k = [] := rfl
    rw [e1, e2]
    refine ⟨rfl, ?_, ?_, ?_, ?_, ?_, ?_, List.nodup_nil, by simp, fun _ => by simp [offN, kN]⟩
    · intro i h1 h2; simp at h2; omega
    · intro i j h1 h2; simp at h2; omega
    · intro q hq
      obtain rfl : q = 0 := by simpa using hq
      exact Int.le_refl _
    · intro q hq
      obtain rfl : q = 0 := by simpa using hq
      intro k hk
      have : (k : Int) < 0 := hk
      omega
    · intro q hq i h1 h2; simp at h2; omega
    · intro e
      constructor
      · intro h; simp at h
      · rintro ⟨i, h1, h2, _⟩
        simp at h2; omega
  · obtain ⟨r1, r2, r3, r4, r5, r6⟩ := refuseG_zero hr h0
    obtain ⟨o, rfl⟩ := Int.eq_ofNat_of_zero_le r1
    obtain ⟨q, rfl⟩ := Int.eq_ofNat_of_zero_le r3
    rw [Int.toNat_natCast] at r4 r6
    have ho : o < N.length := by omega
    have hnew : ¬ ∃ i, 1 ≤ i ∧ i < N.length ∧ S.getD i (0, 0) = ((o : Int), (q : Int)) := fun hx => by
      rcases (h.taken ho).2 hx with h1 | h1
      · have : G.contains ((o : Int), (q : Int)) = true := by simpa using h1
        rw [this] at r5; cases r5
      · omega
    have hS : ∀ i, (S ++ [((o : Int), (q : Int))]).getD i (0, 0) = if i = N.length then ((o : Int), (q : Int)) else S.getD i (0, 0) := fun i => by rw [getD_snocS, h.len]
    have hSo : ∀ i, i < N.length → (S ++ [((o : Int), (q : Int))]).getD i (0, 0) = S.getD i (0, 0) := fun i hi => by rw [hS, if_neg (by omega)]
    have hSn : (S ++ [((o : Int), (q : Int))]).getD N.length (0, 0) = ((o : Int), (q : Int)) := by rw [hS, if_pos rfl]
    have hN1 : ∀ i, i < N.length → (N ++ [(kind, n, 0)]).getD i nil0 = N.getD i nil0 := fun i hi => by rw [getD_snoc, if_neg (by omega)]
    have hNn : (N ++ [(kind, n, 0)]).getD N.length nil0 = (kind, n, 0) := by rw [getD_snoc, if_pos rfl]
    have hspt : ∀ i, 1 ≤ i → i < N.length + 1 → ∃ p k : Nat, (S ++ [((o : Int), (q : Int))]).getD i (0, 0) = ((p : Int), (k : Int)) ∧ p < i := fun i h1 h2 => by
      by_cases e : i = N.length
      · subst e
        exact ⟨o, q, hSn, ho⟩
      · rw [hSo i (by omega)]
        exact h.spt i h1 (by omega)
    have hinj : ∀ i j, 1 ≤ i → i < N.length + 1 → 1 ≤ j → j < N.length + 1 → (S ++ [((o : Int), (q : Int))]).getD i (0, 0) = (S ++ [((o : Int), (q : Int))]).getD j (0, 0) → i = j := fun i j h1 h2 h3 h4 he => by
      by_cases e : i = N.length
      · by_cases e2 : j = N.length
        · omega
        · rw [e, hSn, hSo j (by omega)] at he
          exact absurd ⟨j, h3, by omega, he.symm⟩ hnew
      · by_cases e2 : j = N.length
        · rw [e2, hSn, hSo i (by omega)] at he
          exact absurd ⟨i, h1, by omega, he⟩ hnew
        · rw [hSo i (by omega), hSo j (by omega)] at he
          exact h.inj i j h1 (by omega) h3 (by omega) he
    have hfull : ∀ p, p < N.length → ∀ k : Nat, (k : Int) < (N.getD p nil0).2.2 → ∃ i, 1 ≤ i ∧ i < N.length + 1 ∧ (S ++ [((o : Int), (q : Int))]).getD i (0, 0) = ((p : Int), (k : Int)) := fun p hp k hk => by
      obtain ⟨i, h1, h2, h3⟩ := h.full p hp k hk
      exact ⟨i, h1, by omega, by rw [hSo i h2, h3]⟩
    have hpar : ∀ (i : Nat) (pp : Nat) (c : Int), 1 ≤ i → i < N.length → S.getD i (0, 0) = ((pp : Int), c) → pp < i := fun i pp c h1 h2 h3 => by
      obtain ⟨p', k', h4, h5⟩ := h.spt i h1 h2
      rw [h3] at h4
      have := (Prod.mk.inj h4).1
      omega
    have hsum : offN (N ++ [(kind, n, 0)]) (N ++ [(kind, n, 0)]).length = offN N N.length := by rw [offN_all, offN_all]; simp [kN]
    have hs0 := h.sum h0
    by_cases hg : (N.getD o nil0).2.2 < (q : Int)
    · have e1 : addN1 N G (o : Int) (q : Int) kind n = N ++ [(kind, n, 0)] := by rw [addN1, if_neg h0, Int.toNat_natCast, if_pos hg]
      have e2 : addG1 N G (o : Int) (q : Int) = G ++ [((o : Int), (q : Int))] := by rw [addG1, if_neg h0, Int.toNat_natCast, if_pos hg]
      rw [e1, e2]
      have hl : (N ++ [(kind, n, 0)]).length = N.length + 1 := by simp
      rw [← hl] at hspt hinj
      refine ⟨by simp [h.len], hspt, hinj, fun p hp => ?_, fun p hp k hk => ?_, fun p hp i h1 h2 => ?_, fun e => ?_, ?_, ?_, fun _ => ?_⟩
      · rw [getD_snoc]
        split
        · exact Int.le_refl _
        · exact h.pos p (by omega)
      · rw [getD_snoc] at hk
        split at hk
        · have : (k : Int) < 0 := hk
          omega
        · rw [hl]
          exact hfull p (by omega) k hk
      · rw [getD_snoc]
        rw [hl] at h2 hp
        split
        · rename_i ep
          subst ep
          intro he
          by_cases e : i = N.length
          · rw [e, hSn] at he
            have := (Prod.mk.inj he).1
            omega
          · rw [hSo i (by omega)] at he
            have := hpar i N.length _ h1 (by omega) he
            omega
        · by_cases e : i = N.length
          · rw [e, hSn]
            intro he
            have h3 := (Prod.mk.inj he).1
            obtain rfl : o = p := by omega
            have := (Prod.mk.inj he).2
            omega
          · rw [hSo i (by omega)]
            exact h.miss p (by omega) i h1 (by omega)
      · rw [List.mem_append, List.mem_singleton, h.gap, hl]
        constructor
        · rintro (⟨i, h1, h2, h3, p, h4, h5⟩ | rfl)
          · refine ⟨i, h1, by omega, by rw [hSo i h2, h3], p, h4, ?_⟩
            have hp' : p < i := hpar i p e.2 h1 h2 (by rw [h3, ← h4])
            rw [hN1 p (by omega)]
            exact h5
          · exact ⟨N.length, by omega, by omega, hSn, o, rfl, by rw [hN1 o ho]; exact hg⟩
        · rintro ⟨i, h1, h2, h3, p, h4, h5⟩
          by_cases e' : i = N.length
          · rw [e', hSn] at h3
            exact .inr h3.symm
          · rw [hSo i (by omega)] at h3
            have hp' : p < i := hpar i p e.2 h1 (by omega) (by rw [h3, ← h4])
            rw [hN1 p (by omega)] at h5
            exact .inl ⟨i, h1, by omega, h3, p, h4, h5⟩
      · rw [List.nodup_append]
        refine ⟨h.nod, by simp, fun a ha b hb => ?_⟩
        simp at hb
        subst hb
        rintro rfl
        have : G.contains ((o : Int), (q : Int)) = true := by simpa using ha
        rw [this] at r5; cases r5
      · have := h.gl
        simp
        omega
      · rw [hsum]
        simp only [List.length_append, List.length_cons, List.length_nil]
        omega
    · have hqe : (N.getD o nil0).2.2 = (q : Int) := by omega
      have e1 : addN1 N G (o : Int) (q : Int) kind n = setK (N ++ [(kind, n, 0)]) o (fillG G.length o ((q : Int) + 1) G).1 := by rw [addN1, if_neg h0, Int.toNat_natCast, if_neg hg]
      have e2 : addG1 N G (o : Int) (q : Int) = (fillG G.length o ((q : Int) + 1) G).2 := by rw [addG1, if_neg h0, Int.toNat_natCast, if_neg hg]
      rw [e1, e2]
      have hl : (N ++ [(kind, n, 0)]).length = N.length + 1 := by simp
      have hF : Fil (N ++ [(kind, n, 0)]) (S ++ [((o : Int), (q : Int))]) o ((q : Int) + 1) G := by
        refine ⟨fun k hk => ?_, fun e => ?_, h.nod, by omega⟩
        · rw [hl]
          by_cases e : (k : Int) < (q : Int)
          · exact hfull o ho k (by rw [hqe]; exact e)
          · obtain rfl : k = q := by omega
            exact ⟨N.length, by omega, by omega, hSn⟩
        · rw [h.gap, hl]
          constructor
          · rintro ⟨i, h1, h2, h3, p, h4, h5⟩
            have hp' : p < i := hpar i p e.2 h1 h2 (by rw [h3, ← h4])
            refine ⟨i, h1, by omega, by rw [hSo i h2, h3], p, h4, ?_⟩
            split
            · rename_i ep
              subst ep
              rw [hqe] at h5
              omega
            · rw [hN1 p (by omega)]
              omega
          · rintro ⟨i, h1, h2, h3, p, h4, h5⟩
            by_cases e' : i = N.length
            · rw [e', hSn] at h3
              rw [← h3] at h4 h5
              have h4' : (o : Int) = p := h4
              rw [if_pos (by omega)] at h5
              have h5' : (q : Int) + 1 ≤ q := h5
              omega
            · rw [hSo i (by omega)] at h3
              have hp' : p < i := hpar i p e.2 h1 (by omega) (by rw [h3, ← h4])
              refine ⟨i, h1, by omega, h3, p, h4, ?_⟩
              split at h5
              · rename_i ep
                subst ep
                rw [hqe]
                omega
              · rw [hN1 p (by omega)] at h5
                omega
      obtain ⟨hE, hno, hlen, hge⟩ := Fil.end rfl hF
      generalize (fillG G.length o ((q : Int) + 1) G).1 = c at *
      generalize (fillG G.length o ((q : Int) + 1) G).2 = G' at *
      have ho1 : o < (N ++ [(kind, n, 0)]).length := by rw [hl]; omega
      have hat : (setK (N ++ [(kind, n, 0)]) o c).getD o nil0 = ((N.getD o nil0).1, (N.getD o nil0).2.1, c) := by rw [setK_at _ _ _ ho1, hN1 o ho]
      have hnm : ((o : Int), c) ∉ G' := by simpa using hno
      have hmo : ∀ i, 1 ≤ i → i < N.length + 1 → (S ++ [((o : Int), (q : Int))]).getD i (0, 0) ≠ ((o : Int), c) := fun i h1 h2 he => hnm ((hE.gap _).2 ⟨i, h1, by rw [hl]; exact h2, he, o, rfl, by rw [if_pos rfl]; exact Int.le_refl _⟩)
      have hsl : (setK (N ++ [(kind, n, 0)]) o c).length = N.length + 1 := by rw [setK_len, hl]
      rw [← hsl] at hspt hinj
      refine ⟨by rw [hsl]; simp [h.len], hspt, hinj, fun p hp => ?_, fun p hp k hk => ?_, fun p hp i h1 h2 => ?_, fun e => ?_, hE.nod, ?_, fun _ => ?_⟩
      · by_cases ep : p = o
        · subst ep
          rw [hat]
          show 0 ≤ c
          omega
        · rw [setK_other _ _ _ _ ep, getD_snoc]
          split
          · exact Int.le_refl _
          · rw [hsl] at hp
            exact h.pos p (by omega)
      · by_cases ep : p = o
        · subst ep
          rw [hat] at hk
          rw [hsl, ← hl]
          exact hE.full k hk
        · rw [setK_other _ _ _ _ ep, getD_snoc] at hk
          rw [hsl] at hp ⊢
          split at hk
          · have : (k : Int) < 0 := hk
            omega
          · exact hfull p (by omega) k hk
      · rw [hsl] at h2 hp
        by_cases ep : p = o
        · subst ep
          rw [hat]
          exact hmo i h1 h2
        · rw [setK_other _ _ _ _ ep, getD_snoc]
          split
          · rename_i ep2
            subst ep2
            intro he
            by_cases e : i = N.length
            · rw [e, hSn] at he
              have := (Prod.mk.inj he).1
              omega
            · rw [hSo i (by omega)] at he
              have := hpar i N.length _ h1 (by omega) he
              omega
          · by_cases e : i = N.length
            · rw [e, hSn]
              intro he
              have h3 := (Prod.mk.inj he).1
              omega
            · rw [hSo i (by omega)]
              exact h.miss p (by omega) i h1 (by omega)
      · rw [hE.gap, hsl, hl]
        constructor
        · rintro ⟨i, h1, h2, h3, p, h4, h5⟩
          refine ⟨i, h1, h2, h3, p, h4, ?_⟩
          by_cases ep : p = o
          · subst ep
            rw [if_pos rfl] at h5
            rw [hat]
            have h6 := hmo i h1 h2
            rw [h3] at h6
            have : e.2 ≠ c := fun e2 => h6 (by rw [← h4, ← e2])
            show c < e.2
            omega
          · rw [if_neg ep] at h5
            rw [setK_other _ _ _ _ ep]
            omega
        · rintro ⟨i, h1, h2, h3, p, h4, h5⟩
          refine ⟨i, h1, h2, h3, p, h4, ?_⟩
          by_cases ep : p = o
          · subst ep
            rw [hat] at h5
            rw [if_pos rfl]
            have : c < e.2 := h5
            omega
          · rw [setK_other _ _ _ _ ep] at h5
            rw [if_neg ep]
            omega
      · rw [hsl]
        have := h.gl
        omega
      · rw [offN_all, hsl, setK]
        have h7 := sum_set (N ++ [(kind, n, 0)]) o (((N ++ [(kind, n, 0)]).getD o nil0).1, ((N ++ [(kind, n, 0)]).getD o nil0).2.1, c) ho1
        rw [← offN_all (N ++ [(kind, n, 0)]), hsum, hN1 o ho] at h7
        have h8 : kN (N.getD o nil0) = q := by rw [kN, hqe, Int.toNat_natCast]
        have h9 : kN ((N.getD o nil0).1, (N.getD o nil0).2.1, c) = c.toNat := rfl
        rw [h8, h9] at h7
        rw [hN1 o ho]
        omega
end Go.Proofs.YtlbgdgobhiokpaaDoor

/- A loop, round by round. -/
namespace Go.Proofs.YtlbgdgobhiokpaaDoor
open Go.RowKit
set_option linter.unusedVariables false

def unr (P : Program) (c : Code) (Q : Exit → Act → World → Prop) : Nat → Act → World → Prop
  | 0 => fun _ _ => False
  | n + 1 => fun a w => c.wp P (Exit.then (unr P c Q n) Q) a w
theorem wp_unroll {P : Program} {c : Code} {Q : Exit → Act → World → Prop} {a : Act} {w : World} (n : Nat) (h : unr P c Q n a w) : (Code.loop c).wp P Q a w := by
  classical
  have least : ∀ (a : Act) (w : World), (∃ n, unr P c Q n a w) → ∃ n, unr P c Q n a w ∧ ∀ m, unr P c Q m a w → n ≤ m := by
    intro a w hn
    obtain ⟨n, hn⟩ := hn
    induction n using Nat.strongRecOn with
    | ind n ih =>
      by_cases h1 : ∃ m, m < n ∧ unr P c Q m a w
      · obtain ⟨m, hm, hu⟩ := h1
        exact ih m hm hu
      · exact ⟨n, hn, fun m hm => by
          rcases Nat.lt_or_ge m n with h2 | h2
          · exact absurd ⟨m, h2, hm⟩ h1
          · exact h2⟩
  let ms : Act → World → Nat := fun a w => if h : ∃ n, unr P c Q n a w then Classical.choose (least a w h) else 0
  refine wp_loop (fun a w => ∃ n, unr P c Q n a w) ms ⟨n, h⟩ fun a' w' ha => ?_
  have hms : ms a' w' = Classical.choose (least a' w' ha) := dif_pos ha
  obtain ⟨hu, hl⟩ := Classical.choose_spec (least a' w' ha)
  rw [hms]
  generalize Classical.choose (least a' w' ha) = k at *
  cases k with
  | zero => exact hu.elim
  | succ k =>
    refine Code.wp_mono (fun e a2 w2 q => ?_) hu
    cases e <;> first | exact q | skip
    all_goals
      have hx : ∃ n, unr P c Q n a2 w2 := ⟨k, q⟩
      refine ⟨hx, ?_⟩
      show ms a2 w2 < k + 1
      have hm2 : ms a2 w2 = Classical.choose (least a2 w2 hx) := dif_pos hx
      rw [hm2]
      exact Nat.lt_succ_of_le ((Classical.choose_spec (least a2 w2 hx)).2 k q)
end Go.Proofs.YtlbgdgobhiokpaaDoor
