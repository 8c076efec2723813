/- The document's Check of a schema: right. -/
import Derived.Test.YtlfjcihhcphjkaaDoorZra
namespace Go.Proofs.YtlfjcihhcphjkaaDoor
open Go.RowKit
set_option linter.unusedVariables false

set_option maxRecDepth 100000 in
set_option maxHeartbeats 8000000 in
theorem right1_any (n el : Int) (ps : List Pt) (va : Option Addr) (vc : Nat) (i : Nat) (w : World) (hil : i ≤ 9223372036854775806) (hr : Hid (PRow w va ps)) :
    Calls Tryd.prog 40 #[.agg #[.int .i64 1, .int .i64 n, .int .i64 el, .slice va ps.length vc], .int .i64 (i : Int)] w fun e w' => e = .returned (.bool (tyOk ⟨1, n, el, ps⟩ i)) ∧ Below w.heap.size w w' := by
  have hB := below1 w (.cells #[.int .i64 1, .int .i64 n, .int .i64 el, .slice va ps.length vc] 64)
  have kx := Blk.newA w #[.int .i64 1, .int .i64 n, .int .i64 el, .slice va ps.length vc] 64
  obtain ⟨w0, hw0⟩ : ∃ wx, wx = w.alloc (.cells #[.int .i64 1, .int .i64 n, .int .i64 el, .slice va ps.length vc] 64) := ⟨_, rfl⟩
  rw [← hw0] at hB kx
  have HB := hide_ hB
  have HR := hide_ (hr.out.later hB)
  have i0 := kx.cell 0; have i1 := kx.cell 1; have i2 := kx.cell 2; have i3 := kx.cell 3
  simp at i0 i1 i2 i3
  have hwi : wrap64 ((i : Int) - 1) = (i : Int) - 1 := w64 _ (by omega)
  have HL : Hid (((ps.length : Int) == 0) = decide (ps.length = 0)) := hide_ (by
    by_cases h : ps.length = 0
    · simp [h]
    · have h2 : ((ps.length : Int) == 0) = false := by
        have h : ¬ (ps.length : Int) = 0 := by omega
        simpa using h
      rw [h2, decide_eq_false h])
  clear hB kx hr
  go_enter Tryd.func40, Tryd.ntmps40
  go_upto_region 1 with fail
  rw [← hw0]
  clear hw0
  by_cases n1 : n = 1
  · subst n1
    by_cases he : el = 0
    · subst he
      have HV : Hid (tyOk ⟨1, 1, 0, ps⟩ i = decide (ps.length = 0)) := hide_ (by simp [tyOk, nOk, elemOk, hasE, partsOk])
      go_wp2
      go_ret
      exact ⟨by rw [HV.out, ← HL.out]; rfl, HB.out⟩
    · have he' : (el == 0) = false := by simpa using he
      have HV : Hid (tyOk ⟨1, 1, el, ps⟩ i = false) := hide_ (by simp [tyOk, nOk, elemOk, hasE, partsOk, he])
      go_wp2
      go_ret
      exact ⟨by rw [HV.out]; rfl, HB.out⟩
  have d1 : (n == 1) = false := by simpa using n1
  by_cases n2 : n = 2
  · subst n2
    by_cases he : el = 0
    · subst he
      have HV : Hid (tyOk ⟨1, 2, 0, ps⟩ i = decide (ps.length = 0)) := hide_ (by simp [tyOk, nOk, elemOk, hasE, partsOk])
      go_wp2
      go_ret
      exact ⟨by rw [HV.out, ← HL.out]; rfl, HB.out⟩
    · have he' : (el == 0) = false := by simpa using he
      have HV : Hid (tyOk ⟨1, 2, el, ps⟩ i = false) := hide_ (by simp [tyOk, nOk, elemOk, hasE, partsOk, he])
      go_wp2
      go_ret
      exact ⟨by rw [HV.out]; rfl, HB.out⟩
  have d2 : (n == 2) = false := by simpa using n2
  by_cases n4 : n = 4
  · subst n4
    by_cases he : el = 0
    · subst he
      have HV : Hid (tyOk ⟨1, 4, 0, ps⟩ i = decide (ps.length = 0)) := hide_ (by simp [tyOk, nOk, elemOk, hasE, partsOk])
      go_wp2
      go_ret
      exact ⟨by rw [HV.out, ← HL.out]; rfl, HB.out⟩
    · have he' : (el == 0) = false := by simpa using he
      have HV : Hid (tyOk ⟨1, 4, el, ps⟩ i = false) := hide_ (by simp [tyOk, nOk, elemOk, hasE, partsOk, he])
      go_wp2
      go_ret
      exact ⟨by rw [HV.out]; rfl, HB.out⟩
  have d4 : (n == 4) = false := by simpa using n4
  by_cases n8 : n = 8
  · subst n8
    by_cases he : el = 0
    · subst he
      have HV : Hid (tyOk ⟨1, 8, 0, ps⟩ i = decide (ps.length = 0)) := hide_ (by simp [tyOk, nOk, elemOk, hasE, partsOk])
      go_wp2
      go_ret
      exact ⟨by rw [HV.out, ← HL.out]; rfl, HB.out⟩
    · have he' : (el == 0) = false := by simpa using he
      have HV : Hid (tyOk ⟨1, 8, el, ps⟩ i = false) := hide_ (by simp [tyOk, nOk, elemOk, hasE, partsOk, he])
      go_wp2
      go_ret
      exact ⟨by rw [HV.out]; rfl, HB.out⟩
  have d8 : (n == 8) = false := by simpa using n8
  have HV : Hid (tyOk ⟨1, n, el, ps⟩ i = false) := hide_ (by simp [tyOk, nOk, elemOk, hasE, partsOk, n1, n2, n4, n8])
  go_wp2
  go_ret
  exact ⟨by rw [HV.out]; rfl, HB.out⟩
end Go.Proofs.YtlfjcihhcphjkaaDoor
