/- The document's Check of a schema: right. -/
import Derived.Test.YtlfjcihhcphjkaaDoorZra
namespace Go.Proofs.YtlfjcihhcphjkaaDoor
open Go.RowKit
set_option linter.unusedVariables false

set_option maxRecDepth 100000 in
set_option maxHeartbeats 8000000 in
theorem right4_any (n el : Int) (ps : List Pt) (va : Option Addr) (vc : Nat) (i : Nat) (w : World) (hil : i ≤ 9223372036854775806) (hr : Hid (PRow w va ps)) :
    Calls Tryd.prog 40 #[.agg #[.int .i64 4, .int .i64 n, .int .i64 el, .slice va ps.length vc], .int .i64 (i : Int)] w fun e w' => e = .returned (.bool (tyOk ⟨4, n, el, ps⟩ i)) ∧ Below w.heap.size w w' := by
  have hB := below1 w (.cells #[.int .i64 4, .int .i64 n, .int .i64 el, .slice va ps.length vc] 64)
  have kx := Blk.newA w #[.int .i64 4, .int .i64 n, .int .i64 el, .slice va ps.length vc] 64
  obtain ⟨w0, hw0⟩ : ∃ wx, wx = w.alloc (.cells #[.int .i64 4, .int .i64 n, .int .i64 el, .slice va ps.length vc] 64) := ⟨_, rfl⟩
  rw [← hw0] at hB kx
  have HB := hide_ hB
  have HR := hide_ (hr.out.later hB)
  have i0 := kx.cell 0; have i1 := kx.cell 1; have i2 := kx.cell 2; have i3 := kx.cell 3
  simp at i0 i1 i2 i3
  have hwi : wrap64 ((i : Int) - 1) = (i : Int) - 1 := w64 _ (by omega)
  have HL : Hid (((ps.length : Int) == 0) = decide (ps.length = 0)) := hide_ (by
    by_cases h : ps.length = 0
    · simp [h]
    · have h2 : ((ps.length : Int) == 0) = false := by
        have h : ¬ (ps.length : Int) = 0 := by omega
        simpa using h
      rw [h2, decide_eq_false h])
  clear hB kx hr
  go_enter Tryd.func40, Tryd.ntmps40
  go_upto_region 1 with fail
  rw [← hw0]
  clear hw0
  obtain ⟨bn, hbn⟩ : ∃ x, inR n 1 1048576 = x := ⟨_, rfl⟩
  obtain ⟨be, hbe⟩ : ∃ x, inB el i = x := ⟨_, rfl⟩
  have HN : Hid (∀ w, Calls Tryd.prog 43 #[.int .i64 n, .int .i64 1, .int .i64 1048576] w fun e w' => e = .returned (.bool bn) ∧ w = w') := hide_ (fun w => by have h := inR_any n 1 1048576 w; rwa [hbn] at h)
  have HE : Hid (∀ w, Calls Tryd.prog 43 #[.int .i64 el, .int .i64 0, .int .i64 ((i : Int) - 1)] w fun e w' => e = .returned (.bool be) ∧ w = w') := hide_ (fun w => by have h := inR_any el 0 ((i : Int) - 1) w; rwa [inR_at, hbe] at h)
  have HBE := hide_ hbe
  have HBN : Hid ((decide (1 ≤ n) && decide (n ≤ 1048576)) = bn) := hide_ hbn
  clear hbn hbe
  have HT : Hid (tyOk ⟨4, n, el, ps⟩ i = (bn && be && decide (ps.length = 0))) := hide_ (by rw [← HBN.out, ← HBE.out]; simp [tyOk, nOk, elemOk, hasE, partsOk, Bool.decide_and])
  go_wp2_with fail
  refine (HN.out _).mono ?_; rintro e w' ⟨rfl, rfl⟩
  cases bn with
  | false =>
    go_wp2
    go_ret
    exact ⟨by rw [HT.out]; rfl, HB.out⟩
  | true =>
  go_wp2_with fail
  refine (HE.out _).mono ?_; rintro e w' ⟨rfl, rfl⟩
  cases be with
  | false =>
    go_wp2
    go_ret
    exact ⟨by rw [HT.out]; rfl, HB.out⟩
  | true =>
    go_wp2
    go_ret
    exact ⟨by rw [HT.out, ← HL.out]; rfl, HB.out⟩
set_option maxRecDepth 100000 in
set_option maxHeartbeats 8000000 in
theorem right5_any (n el : Int) (ps : List Pt) (va : Option Addr) (vc : Nat) (i : Nat) (w : World) (hil : i ≤ 9223372036854775806) (hr : Hid (PRow w va ps)) :
    Calls Tryd.prog 40 #[.agg #[.int .i64 5, .int .i64 n, .int .i64 el, .slice va ps.length vc], .int .i64 (i : Int)] w fun e w' => e = .returned (.bool (tyOk ⟨5, n, el, ps⟩ i)) ∧ Below w.heap.size w w' := by
  have hB := below1 w (.cells #[.int .i64 5, .int .i64 n, .int .i64 el, .slice va ps.length vc] 64)
  have kx := Blk.newA w #[.int .i64 5, .int .i64 n, .int .i64 el, .slice va ps.length vc] 64
  obtain ⟨w0, hw0⟩ : ∃ wx, wx = w.alloc (.cells #[.int .i64 5, .int .i64 n, .int .i64 el, .slice va ps.length vc] 64) := ⟨_, rfl⟩
  rw [← hw0] at hB kx
  have HB := hide_ hB
  have HR := hide_ (hr.out.later hB)
  have i0 := kx.cell 0; have i1 := kx.cell 1; have i2 := kx.cell 2; have i3 := kx.cell 3
  simp at i0 i1 i2 i3
  have hwi : wrap64 ((i : Int) - 1) = (i : Int) - 1 := w64 _ (by omega)
  have HL : Hid (((ps.length : Int) == 0) = decide (ps.length = 0)) := hide_ (by
    by_cases h : ps.length = 0
    · simp [h]
    · have h2 : ((ps.length : Int) == 0) = false := by
        have h : ¬ (ps.length : Int) = 0 := by omega
        simpa using h
      rw [h2, decide_eq_false h])
  clear hB kx hr
  go_enter Tryd.func40, Tryd.ntmps40
  go_upto_region 1 with fail
  rw [← hw0]
  clear hw0
  obtain ⟨bn, hbn⟩ : ∃ x, inR n 1 1048576 = x := ⟨_, rfl⟩
  obtain ⟨be, hbe⟩ : ∃ x, inB el i = x := ⟨_, rfl⟩
  have HN : Hid (∀ w, Calls Tryd.prog 43 #[.int .i64 n, .int .i64 1, .int .i64 1048576] w fun e w' => e = .returned (.bool bn) ∧ w = w') := hide_ (fun w => by have h := inR_any n 1 1048576 w; rwa [hbn] at h)
  have HE : Hid (∀ w, Calls Tryd.prog 43 #[.int .i64 el, .int .i64 0, .int .i64 ((i : Int) - 1)] w fun e w' => e = .returned (.bool be) ∧ w = w') := hide_ (fun w => by have h := inR_any el 0 ((i : Int) - 1) w; rwa [inR_at, hbe] at h)
  have HBE := hide_ hbe
  have HBN : Hid ((decide (1 ≤ n) && decide (n ≤ 1048576)) = bn) := hide_ hbn
  clear hbn hbe
  have HT : Hid (tyOk ⟨5, n, el, ps⟩ i = (bn && be && decide (ps.length = 0))) := hide_ (by rw [← HBN.out, ← HBE.out]; simp [tyOk, nOk, elemOk, hasE, partsOk, Bool.decide_and])
  go_wp2_with fail
  refine (HN.out _).mono ?_; rintro e w' ⟨rfl, rfl⟩
  cases bn with
  | false =>
    go_wp2
    go_ret
    exact ⟨by rw [HT.out]; rfl, HB.out⟩
  | true =>
  go_wp2_with fail
  refine (HE.out _).mono ?_; rintro e w' ⟨rfl, rfl⟩
  cases be with
  | false =>
    go_wp2
    go_ret
    exact ⟨by rw [HT.out]; rfl, HB.out⟩
  | true =>
    go_wp2
    go_ret
    exact ⟨by rw [HT.out, ← HL.out]; rfl, HB.out⟩
set_option maxRecDepth 100000 in
set_option maxHeartbeats 8000000 in
theorem right6_any (n el : Int) (ps : List Pt) (va : Option Addr) (vc : Nat) (i : Nat) (w : World) (hil : i ≤ 9223372036854775806) (hr : Hid (PRow w va ps)) :
    Calls Tryd.prog 40 #[.agg #[.int .i64 6, .int .i64 n, .int .i64 el, .slice va ps.length vc], .int .i64 (i : Int)] w fun e w' => e = .returned (.bool (tyOk ⟨6, n, el, ps⟩ i)) ∧ Below w.heap.size w w' := by
  have hB := below1 w (.cells #[.int .i64 6, .int .i64 n, .int .i64 el, .slice va ps.length vc] 64)
  have kx := Blk.newA w #[.int .i64 6, .int .i64 n, .int .i64 el, .slice va ps.length vc] 64
  obtain ⟨w0, hw0⟩ : ∃ wx, wx = w.alloc (.cells #[.int .i64 6, .int .i64 n, .int .i64 el, .slice va ps.length vc] 64) := ⟨_, rfl⟩
  rw [← hw0] at hB kx
  have HB := hide_ hB
  have HR := hide_ (hr.out.later hB)
  have i0 := kx.cell 0; have i1 := kx.cell 1; have i2 := kx.cell 2; have i3 := kx.cell 3
  simp at i0 i1 i2 i3
  have hwi : wrap64 ((i : Int) - 1) = (i : Int) - 1 := w64 _ (by omega)
  have HL : Hid (((ps.length : Int) == 0) = decide (ps.length = 0)) := hide_ (by
    by_cases h : ps.length = 0
    · simp [h]
    · have h2 : ((ps.length : Int) == 0) = false := by
        have h : ¬ (ps.length : Int) = 0 := by omega
        simpa using h
      rw [h2, decide_eq_false h])
  clear hB kx hr
  go_enter Tryd.func40, Tryd.ntmps40
  go_upto_region 1 with fail
  rw [← hw0]
  clear hw0
  obtain ⟨bn, hbn⟩ : ∃ x, inR n 1 1048576 = x := ⟨_, rfl⟩
  obtain ⟨be, hbe⟩ : ∃ x, inB el i = x := ⟨_, rfl⟩
  have HN : Hid (∀ w, Calls Tryd.prog 43 #[.int .i64 n, .int .i64 1, .int .i64 1048576] w fun e w' => e = .returned (.bool bn) ∧ w = w') := hide_ (fun w => by have h := inR_any n 1 1048576 w; rwa [hbn] at h)
  have HE : Hid (∀ w, Calls Tryd.prog 43 #[.int .i64 el, .int .i64 0, .int .i64 ((i : Int) - 1)] w fun e w' => e = .returned (.bool be) ∧ w = w') := hide_ (fun w => by have h := inR_any el 0 ((i : Int) - 1) w; rwa [inR_at, hbe] at h)
  have HBE := hide_ hbe
  have HBN : Hid ((decide (1 ≤ n) && decide (n ≤ 1048576)) = bn) := hide_ hbn
  clear hbn hbe
  have HT : Hid (tyOk ⟨6, n, el, ps⟩ i = (decide (n = 0) && be && decide (ps.length = 0))) := hide_ (by rw [← HBE.out]; simp [tyOk, nOk, elemOk, hasE, partsOk])
  by_cases hn : n = 0
  · subst hn
    go_wp2_with fail
    refine (HE.out _).mono ?_; rintro e w' ⟨rfl, rfl⟩
    cases be with
    | false =>
      go_wp2
      go_ret
      exact ⟨by rw [HT.out]; rfl, HB.out⟩
    | true =>
      go_wp2
      go_ret
      exact ⟨by rw [HT.out, ← HL.out]; rfl, HB.out⟩
  · have hn' : (n == 0) = false := by simpa using hn
    rw [decide_eq_false hn] at HT
    go_wp2
    go_ret
    exact ⟨by rw [HT.out]; rfl, HB.out⟩
end Go.Proofs.YtlfjcihhcphjkaaDoor
