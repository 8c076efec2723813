/- The document's Check of a schema: right. -/
import Derived.Test.YtlfjcihhcphjkaaDoorZra
import Derived.Test.YtlfjcihhcphjkaaDoorZra7
namespace Go.Proofs.YtlfjcihhcphjkaaDoor
open Go.RowKit
set_option linter.unusedVariables false

set_option maxRecDepth 100000 in
set_option maxHeartbeats 8000000 in
theorem right7_any (n el : Int) (ps : List Pt) (va : Option Addr) (vc : Nat) (i : Nat) (w : World) (hil : i ≤ 9223372036854775806) (hr : Hid (PRow w va ps)) :
    Calls Tryd.prog 40 #[.agg #[.int .i64 7, .int .i64 n, .int .i64 el, .slice va ps.length vc], .int .i64 (i : Int)] w fun e w' => e = .returned (.bool (tyOk ⟨7, n, el, ps⟩ i)) ∧ Below w.heap.size w w' := by
  have hB := below1 w (.cells #[.int .i64 7, .int .i64 n, .int .i64 el, .slice va ps.length vc] 64)
  have kx := Blk.newA w #[.int .i64 7, .int .i64 n, .int .i64 el, .slice va ps.length vc] 64
  obtain ⟨w0, hw0⟩ : ∃ wx, wx = w.alloc (.cells #[.int .i64 7, .int .i64 n, .int .i64 el, .slice va ps.length vc] 64) := ⟨_, rfl⟩
  rw [← hw0] at hB kx
  have HB := hide_ hB
  have HR := hide_ (hr.out.later hB)
  have i0 := kx.cell 0; have i1 := kx.cell 1; have i2 := kx.cell 2; have i3 := kx.cell 3
  simp at i0 i1 i2 i3
  have hwi : wrap64 ((i : Int) - 1) = (i : Int) - 1 := w64 _ (by omega)
  have HL : Hid (((ps.length : Int) == 0) = decide (ps.length = 0)) := hide_ (by
    by_cases h : ps.length = 0
    · simp [h]
    · have h2 : ((ps.length : Int) == 0) = false := by
        have h : ¬ (ps.length : Int) = 0 := by omega
        simpa using h
      rw [h2, decide_eq_false h])
  clear hB kx hr
  go_enter Tryd.func40, Tryd.ntmps40
  go_upto_region 1 with fail
  rw [← hw0]
  clear hw0
  have HT : Hid (tyOk ⟨7, n, el, ps⟩ i = (decide (n = 0) && decide (el = 0) && allP armOk ps i)) := hide_ (by simp [tyOk, nOk, elemOk, hasE, partsOk])
  by_cases hn : n = 0
  · subst hn
    by_cases he : el = 0
    · subst he
      have HC := hide_ (partsR7_any 0 0 ps va vc i w0 hil HR)
      go_wp2_with fail
      refine HC.out.mono ?_; rintro e w' ⟨rfl, hB1⟩
      have HB1 := hide_ hB1
      clear hB1
      go_wp2
      go_ret
      exact ⟨by rw [HT.out]; simp, below_to HB.out HB1.out⟩
    · have he' : (el == 0) = false := by simpa using he
      rw [decide_eq_false he] at HT
      go_wp2
      go_ret
      exact ⟨by rw [HT.out]; simp, HB.out⟩
  · have hn' : (n == 0) = false := by simpa using hn
    rw [decide_eq_false hn] at HT
    go_wp2
    go_ret
    exact ⟨by rw [HT.out]; simp, HB.out⟩
set_option maxRecDepth 100000 in
set_option maxHeartbeats 8000000 in
theorem right8_any (n el : Int) (ps : List Pt) (va : Option Addr) (vc : Nat) (i : Nat) (w : World) (hil : i ≤ 9223372036854775806) (hr : Hid (PRow w va ps)) :
    Calls Tryd.prog 40 #[.agg #[.int .i64 8, .int .i64 n, .int .i64 el, .slice va ps.length vc], .int .i64 (i : Int)] w fun e w' => e = .returned (.bool (tyOk ⟨8, n, el, ps⟩ i)) ∧ Below w.heap.size w w' := by
  have hB := below1 w (.cells #[.int .i64 8, .int .i64 n, .int .i64 el, .slice va ps.length vc] 64)
  have kx := Blk.newA w #[.int .i64 8, .int .i64 n, .int .i64 el, .slice va ps.length vc] 64
  obtain ⟨w0, hw0⟩ : ∃ wx, wx = w.alloc (.cells #[.int .i64 8, .int .i64 n, .int .i64 el, .slice va ps.length vc] 64) := ⟨_, rfl⟩
  rw [← hw0] at hB kx
  have HB := hide_ hB
  have HR := hide_ (hr.out.later hB)
  have i0 := kx.cell 0; have i1 := kx.cell 1; have i2 := kx.cell 2; have i3 := kx.cell 3
  simp at i0 i1 i2 i3
  have hwi : wrap64 ((i : Int) - 1) = (i : Int) - 1 := w64 _ (by omega)
  have HL : Hid (((ps.length : Int) == 0) = decide (ps.length = 0)) := hide_ (by
    by_cases h : ps.length = 0
    · simp [h]
    · have h2 : ((ps.length : Int) == 0) = false := by
        have h : ¬ (ps.length : Int) = 0 := by omega
        simpa using h
      rw [h2, decide_eq_false h])
  clear hB kx hr
  go_enter Tryd.func40, Tryd.ntmps40
  go_upto_region 1 with fail
  rw [← hw0]
  clear hw0
  have HT : Hid (tyOk ⟨8, n, el, ps⟩ i = (decide (n = 0) && decide (el = 0) && allP fieldOk ps i)) := hide_ (by simp [tyOk, nOk, elemOk, hasE, partsOk])
  by_cases hn : n = 0
  · subst hn
    by_cases he : el = 0
    · subst he
      have HC := hide_ (partsR8_any 0 0 ps va vc i w0 hil HR)
      go_wp2_with fail
      refine HC.out.mono ?_; rintro e w' ⟨rfl, hB1⟩
      have HB1 := hide_ hB1
      clear hB1
      go_wp2
      go_ret
      exact ⟨by rw [HT.out]; simp, below_to HB.out HB1.out⟩
    · have he' : (el == 0) = false := by simpa using he
      rw [decide_eq_false he] at HT
      go_wp2
      go_ret
      exact ⟨by rw [HT.out]; simp, HB.out⟩
  · have hn' : (n == 0) = false := by simpa using hn
    rw [decide_eq_false hn] at HT
    go_wp2
    go_ret
    exact ⟨by rw [HT.out]; simp, HB.out⟩
set_option maxRecDepth 100000 in
set_option maxHeartbeats 8000000 in
theorem rightO_any (t : Ty) (hk : ¬ (t.k = 1 ∨ t.k = 2 ∨ t.k = 3 ∨ t.k = 4 ∨ t.k = 5 ∨ t.k = 6 ∨ t.k = 7 ∨ t.k = 8)) (va : Option Addr) (vc : Nat) (i : Nat) (w : World) (hil : i ≤ 9223372036854775806) (hr : Hid (PRow w va t.ps)) :
    Calls Tryd.prog 40 #[.agg #[.int .i64 t.k, .int .i64 t.n, .int .i64 t.e, .slice va t.ps.length vc], .int .i64 (i : Int)] w fun e w' => e = .returned (.bool (tyOk t i)) ∧ Below w.heap.size w w' := by
  obtain ⟨k, n, el, ps⟩ := t
  simp only at hr hk ⊢
  have hB := below1 w (.cells #[.int .i64 k, .int .i64 n, .int .i64 el, .slice va ps.length vc] 64)
  have kx := Blk.newA w #[.int .i64 k, .int .i64 n, .int .i64 el, .slice va ps.length vc] 64
  obtain ⟨w0, hw0⟩ : ∃ wx, wx = w.alloc (.cells #[.int .i64 k, .int .i64 n, .int .i64 el, .slice va ps.length vc] 64) := ⟨_, rfl⟩
  rw [← hw0] at hB kx
  have HB := hide_ hB
  have HR := hide_ (hr.out.later hB)
  have i0 := kx.cell 0; have i1 := kx.cell 1; have i2 := kx.cell 2; have i3 := kx.cell 3
  simp at i0 i1 i2 i3
  have hwi : wrap64 ((i : Int) - 1) = (i : Int) - 1 := w64 _ (by omega)
  have HL : Hid (((ps.length : Int) == 0) = decide (ps.length = 0)) := hide_ (by
    by_cases h : ps.length = 0
    · simp [h]
    · have h2 : ((ps.length : Int) == 0) = false := by
        have h : ¬ (ps.length : Int) = 0 := by omega
        simpa using h
      rw [h2, decide_eq_false h])
  clear hB kx hr
  go_enter Tryd.func40, Tryd.ntmps40
  go_upto_region 1 with fail
  rw [← hw0]
  clear hw0
  have c1 : (k == 1) = false := by simp; omega
  have c2 : (k == 2) = false := by simp; omega
  have c3 : (k == 3) = false := by simp; omega
  have c4 : (k == 4) = false := by simp; omega
  have c5 : (k == 5) = false := by simp; omega
  have c6 : (k == 6) = false := by simp; omega
  have c7 : (k == 7) = false := by simp; omega
  have c8 : (k == 8) = false := by simp; omega
  have hno : nOk k n = false := by
    unfold nOk
    exact decide_eq_false (by omega)
  have HV : Hid (tyOk ⟨k, n, el, ps⟩ i = false) := hide_ (by
    show (nOk k n && _ && _) = false
    rw [hno]
    rfl)
  clear hno
  clear hk
  go_wp2
  go_ret
  exact ⟨by rw [HV.out]; rfl, HB.out⟩
end Go.Proofs.YtlfjcihhcphjkaaDoor
