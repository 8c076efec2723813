/- Nodes of values; arms. -/
import Derived.Test.YtlfjcihhcphjkaaDoorZc
namespace Go.Proofs.YtlfjcihhcphjkaaDoor
open Go.RowKit
set_option linter.unusedVariables false

/-! ### Nodes of values -/
structure Nv where
  k : Int
  n : Int
  kids : Int
def nv0 : Nv := ⟨0, 0, 0⟩
def nvc (x : Nv) : List Value := [.int .i64 x.k, .int .u64 x.n, .int .i64 x.kids]
theorem nvc_len (x : Nv) : (nvc x).length = 3 := rfl
abbrev VRow (w : World) (a : Option Addr) (l : List Nv) : Prop := GRow 3 nvc w a l
def NvOk (x : Nv) : Prop := 0 ≤ x.n ∧ x.n < 18446744073709551616
def armI (ps : List Pt) (n : Int) : Option Nat := ps.findIdx? (fun p => decide (p.tag = n))
def armZ (ps : List Pt) (n : Int) : Int := match armI ps n with | some i => (i : Int) | none => -1
theorem armI_at {ps : List Pt} {n : Int} {j : Nat} {p : Pt} (h : ps[j]? = some p) (hn : p.tag = n) (hb : ∀ (i : Nat) (q : Pt), i < j → ps[i]? = some q → ¬ q.tag = n) : armI ps n = some j := by
  have hj := (List.getElem?_eq_some_iff.1 h).1
  unfold armI
  rw [List.findIdx?_eq_some_iff_getElem]
  refine ⟨hj, ?_, fun i hi => ?_⟩
  · rw [(List.getElem?_eq_some_iff.1 h).2]; exact decide_eq_true hn
  · have := hb i _ hi (List.getElem?_eq_getElem (by omega))
    simpa using this
theorem armI_none {ps : List Pt} {n : Int} (hb : ∀ (i : Nat) (q : Pt), ps[i]? = some q → ¬ q.tag = n) : armI ps n = none := by
  unfold armI
  rw [List.findIdx?_eq_none_iff]
  intro x hx
  obtain ⟨j, hj⟩ := List.getElem?_of_mem hx
  exact decide_eq_false (hb j x hj)
theorem armI_some {ps : List Pt} {n : Int} {j : Nat} (h : armI ps n = some j) : ∃ p, ps[j]? = some p ∧ p.tag = n := by
  unfold armI at h
  rw [List.findIdx?_eq_some_iff_getElem] at h
  obtain ⟨hj, h1, -⟩ := h
  exact ⟨_, List.getElem?_eq_getElem hj, of_decide_eq_true h1⟩
theorem tyOk_kind {t : Ty} {i : Int} (h : tyOk t i = true) : t.k = 1 ∨ t.k = 2 ∨ t.k = 3 ∨ t.k = 4 ∨ t.k = 5 ∨ t.k = 6 ∨ t.k = 7 ∨ t.k = 8 := by
  have h1 := (tyOk_parts h).1
  simp only [nOk] at h1
  have h2 := of_decide_eq_true h1
  omega
theorem tyOk_tags {n el : Int} {ps : List Pt} {i : Int} (h : tyOk ⟨7, n, el, ps⟩ i = true) : ∀ p ∈ ps, 0 ≤ p.tag ∧ p.tag ≤ 255 := by
  have h1 := (tyOk_parts h).2.2
  simp only [partsOk] at h1
  intro p hp
  obtain ⟨j, hj⟩ := List.getElem?_of_mem hp
  have h2 := (allP_at (by simpa using h1) hj).1
  simp only [armOk] at h2
  exact (of_decide_eq_true h2).2
end Go.Proofs.YtlfjcihhcphjkaaDoor
