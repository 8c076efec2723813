/- Equal, sameInts, num, fault. -/
import Derived.Test.YtlbgdgobhiokpaaDoorV
namespace Go.Proofs.YtlbgdgobhiokpaaDoor
open Go.RowKit
set_option linter.unusedVariables false

theorem num_any (k : Int) (w : World) : Calls Tryd.prog 13 #[.int .i64 k] w fun e w' => e = .returned (.int .i64 k) ∧ w = w' := by
  go_enter Tryd.func13, Tryd.ntmps13
  go_wp2
  go_ret
  exact ⟨rfl, rfl⟩
theorem getD_eq (l m : List Nd) (h : l.length = m.length) (hk : ∀ i, i < l.length → l.getD i nil0 = m.getD i nil0) : l = m := by
  refine List.ext_getElem h fun i h1 h2 => ?_
  have := hk i h1
  rw [List.getD, List.getD, List.getElem?_eq_getElem h1, List.getElem?_eq_getElem h2] at this
  exact this
theorem nd_ne (x y : Nd) (h : x ≠ y) : (x.1 == y.1 && x.2.1 == y.2.1 && x.2.2 == y.2.2) = false := by
  obtain ⟨a, b, c⟩ := x
  obtain ⟨d, e, f⟩ := y
  simp only [ne_eq, Prod.mk.injEq, not_and] at h
  by_cases h1 : a = d
  · by_cases h2 : b = e
    · simp [h1, h2, h h1 h2]
    · simp [h2]
  · simp [h1]
set_option maxRecDepth 100000 in
set_option maxHeartbeats 8000000 in
theorem refEqual_any (a1 a2 : Option Addr) (n1 n2 k1 k2 : Nat) (l m : List Nd) (w : World) (h1 : l.length = n1) (h2 : m.length = n2) (hs : n1 ≤ 1000000) (hs2 : n2 ≤ 1000000) (r1 : Hid (NRow w a1 l)) (r2 : Hid (NRow w a2 m)) :
    Calls Tryd.prog 16 #[.slice a1 n1 k1, .slice a2 n2 k2] w fun e w' => e = .returned (.bool (decide (l = m))) ∧ Below w.heap.size w w' := by
  go_enter Tryd.func16, Tryd.ntmps16
  by_cases hn : n1 = n2
  · subst hn
    go_wp2_with fail
    go_loopw [5] (fun i wr => ∃ k : Nat, k ≤ n1 ∧ i = .int .i64 k ∧ Hid (∀ j, j < k → l.getD j nil0 = m.getD j nil0) ∧ Hid (Below w.heap.size w wr)) (fun i _ => n1 - (intOf i).toNat)
    case atStart => exact ⟨0, Nat.zero_le _, rfl, fun j hj => by omega, Below.refl _ _⟩
    case round =>
      obtain ⟨k, hk, rfl, HE, HB⟩ := hrel
      by_cases hlt : k < n1
      · have hlt' : (k : Int) < n1 := by omega
        obtain ⟨b1, o1, rfl, hb1, hc1⟩ := r1.out.open (by omega)
        obtain ⟨b2, o2, rfl, hb2, hc2⟩ := r2.out.open (by omega)
        obtain ⟨x0, x1, x2⟩ := hc1 k (by omega)
        obtain ⟨y0, y1, y2⟩ := hc2 k (by omega)
        have d0 := (HB.out.cell (p := ⟨b1, o1 + k * 3, none⟩) hb1).trans x0
        have d1 := (HB.out.cell (p := ⟨b1, o1 + k * 3 + 1, none⟩) hb1).trans x1
        have d2 := (HB.out.cell (p := ⟨b1, o1 + k * 3 + 2, none⟩) hb1).trans x2
        have f0 := (HB.out.cell (p := ⟨b2, o2 + k * 3, none⟩) hb2).trans y0
        have f1 := (HB.out.cell (p := ⟨b2, o2 + k * 3 + 1, none⟩) hb2).trans y1
        have f2 := (HB.out.cell (p := ⟨b2, o2 + k * 3 + 2, none⟩) hb2).trans y2
        have HEk : Hid (l.getD k nil0 = m.getD k nil0 → ∀ j, j < k + 1 → l.getD j nil0 = m.getD j nil0) := fun h j hj => by
          rcases Nat.lt_or_ge j k with h3 | h3
          · exact HE.out j h3
          · obtain rfl : j = k := by omega
            exact h
        have HNE : Hid (l.getD k nil0 ≠ m.getD k nil0 → decide (l = m) = false) := fun h => decide_eq_false fun e => h (by rw [e])
        clear hc1 hc2 x0 x1 x2 y0 y1 y2 HE
        generalize l.getD k nil0 = x at *
        generalize m.getD k nil0 = y at *
        obtain ⟨xk, xn, xc⟩ := x
        obtain ⟨yk, yn, yc⟩ := y
        simp only at d0 d1 d2 f0 f1 f2
        by_cases hxy : ((xk, xn, xc) : Nd) = (yk, yn, yc)
        · have HE2 : Hid _ := HEk.out hxy
          have e0 : xk = yk ∧ xn = yn ∧ xc = yc := by simpa using hxy
          obtain ⟨rfl, rfl, rfl⟩ := e0
          go_wp2_with fail
          go_quiet (fail)
          go_wp2
          go_roundw
          case rel => exact ⟨k + 1, by omega, by go_num, HE2, ⟨HB.out.os, HB.out.tape, HB.out.output, HB.out.size, HB.out.block⟩⟩
          case measure => simp [intOf]; omega
        · have HF : Hid (decide (l = m) = false) := HNE.out hxy
          have hcases : (xk == yk) = false ∨ (xk = yk ∧ (xn == yn) = false) ∨ (xk = yk ∧ xn = yn ∧ (xc == yc) = false) := by
            by_cases e1 : xk = yk
            · by_cases e2 : xn = yn
              · refine .inr (.inr ⟨e1, e2, ?_⟩)
                have : ¬ xc = yc := fun e3 => hxy (by rw [e1, e2, e3])
                simpa using this
              · exact .inr (.inl ⟨e1, by simpa using e2⟩)
            · exact .inl (by simpa using e1)
          clear hxy HNE HEk
          rcases hcases with hb | ⟨rfl, hb⟩ | ⟨rfl, rfl, hb⟩
          all_goals
            go_wp2_with fail
            go_quiet (fail)
            go_wp2
            go_ret
            exact ⟨by rw [HF.out]; rfl, ⟨HB.out.os, HB.out.tape, HB.out.output, HB.out.size, HB.out.block⟩⟩
      · obtain rfl : k = n1 := by omega
        have HF : Hid (decide (l = m) = true) := decide_eq_true (getD_eq l m (by omega) (fun i hi => HE.out i (by omega)))
        go_wp2
        go_ret
        exact ⟨by rw [HF.out]; rfl, HB.out⟩
  · have HF : Hid (decide (l = m) = false) := decide_eq_false fun e => hn (by rw [← h1, ← h2, e])
    have hb : ((n1 : Int) == (n2 : Int)) = false := by simp; omega
    go_wp2
    go_ret
    exact ⟨by rw [HF.out]; rfl, Below.refl _ _⟩
end Go.Proofs.YtlbgdgobhiokpaaDoor
