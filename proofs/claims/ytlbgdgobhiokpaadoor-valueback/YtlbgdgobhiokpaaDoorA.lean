/- Nodes and lists of nodes, plain; nodes in memory. -/
import Derived.Test.YtlbgdgobhiokpaaDoorPtrs
import Derived.Test.YtlbgdgobhiokpaaDoorRows
namespace Go.Proofs.YtlbgdgobhiokpaaDoor
open Go.RowKit
set_option linter.unusedVariables false

/-- A node: kind, number, how many kids. -/
abbrev Nd := Int × Int × Int
def nil0 : Nd := (0, 0, 0)
def mostN (k : Int) : Int := if k = 1 then 18446744073709551615 else if k = 2 then 1 else if k = 6 then 255 else 0
def leastK (k : Int) : Int := if k = 4 then 1 else if k = 6 then 1 else 0
def mostK (k : Int) : Int := if k = 3 then 1048576 else if k = 4 then 64 else if k = 5 then 1 else if k = 6 then 1 else 0
def isK (k : Int) : Bool := decide (1 ≤ k ∧ k ≤ 6)
def right (x : Nd) : Bool := decide ((1 ≤ x.1 ∧ x.1 ≤ 6) ∧ x.2.1 ≤ mostN x.1 ∧ leastK x.1 ≤ x.2.2 ∧ x.2.2 ≤ mostK x.1)
theorem right_iff (x : Nd) : right x = true ↔ (1 ≤ x.1 ∧ x.1 ≤ 6) ∧ x.2.1 ≤ mostN x.1 ∧ leastK x.1 ≤ x.2.2 ∧ x.2.2 ≤ mostK x.1 := by simp [right]
theorem right_kids {x : Nd} (h : right x = true) : 0 ≤ x.2.2 ∧ x.2.2 ≤ 1048576 := by
  have h := (right_iff x).1 h
  unfold leastK mostK at h
  split at h <;> (try split at h) <;> (try split at h) <;> (try split at h) <;> omega
/-- Check: so many values are still missing, so many nodes are ahead. -/
def chk (m a : Int) : List Nd → Int × Int
  | [] => if 0 < m then (40, a) else (0, 0)
  | x :: l => if m = 0 ∨ right x = false then (40, a) else chk (m + (x.2.2 - 1)) (a + 1) l
/-- How many nodes so many values have. -/
def bh : Nat → List Nd → Nat
  | 0, _ => 0
  | _ + 1, [] => 0
  | m + 1, x :: l => bh (m + x.2.2.toNat) l + 1

def ndc (x : Nd) : List Value := [.int .i64 x.1, .int .u64 x.2.1, .int .i64 x.2.2]
def ndv (x : Nd) : Value := .agg #[.int .i64 x.1, .int .u64 x.2.1, .int .i64 x.2.2]
/-- It is nil and empty, or its cells hold these nodes. -/
def NRow (w : World) (a : Option Addr) (l : List Nd) : Prop :=
  (a = none ∧ l = []) ∨ ∃ b off, a = some ⟨b, off, none⟩ ∧ b < w.heap.size ∧ ∀ i, i < l.length →
    w.cell? ⟨b, off + i * 3, none⟩ = some (.int .i64 (l.getD i nil0).1) ∧ w.cell? ⟨b, off + i * 3 + 1, none⟩ = some (.int .u64 (l.getD i nil0).2.1) ∧ w.cell? ⟨b, off + i * 3 + 2, none⟩ = some (.int .i64 (l.getD i nil0).2.2)
section
variable {w w' : World} {a : Option Addr} {l : List Nd}
theorem NRow.open (h : NRow w a l) (hl : 0 < l.length) : ∃ b off, a = some ⟨b, off, none⟩ ∧ b < w.heap.size ∧ ∀ i, i < l.length →
    w.cell? ⟨b, off + i * 3, none⟩ = some (.int .i64 (l.getD i nil0).1) ∧ w.cell? ⟨b, off + i * 3 + 1, none⟩ = some (.int .u64 (l.getD i nil0).2.1) ∧ w.cell? ⟨b, off + i * 3 + 2, none⟩ = some (.int .i64 (l.getD i nil0).2.2) := by
  rcases h with ⟨_, rfl⟩ | h
  · simp at hl
  · exact h
theorem NRow.below {B : Nat} (h : NRow w a l) (hB : Below B w w') (hb : ∀ x, a = some x → x.block < B) : NRow w' a l := by
  rcases h with h | ⟨b, off, rfl, hlt, hc⟩
  · exact .inl h
  · have hb1 : b < B := hb _ rfl
    refine .inr ⟨b, off, rfl, Nat.lt_of_lt_of_le hlt hB.size, fun i hi => ?_⟩
    obtain ⟨c0, c1, c2⟩ := hc i hi
    exact ⟨(hB.cell (p := ⟨b, _, none⟩) hb1).trans c0, (hB.cell (p := ⟨b, _, none⟩) hb1).trans c1, (hB.cell (p := ⟨b, _, none⟩) hb1).trans c2⟩
theorem NRow.later (h : NRow w a l) (hB : Below w.heap.size w w') : NRow w' a l := by
  refine h.below hB fun x hx => ?_
  rcases h with ⟨rfl, _⟩ | ⟨b, off, rfl, hlt, _⟩
  · cases hx
  · cases hx; exact hlt
theorem NRow.take (h : NRow w a l) (m : Nat) : NRow w a (l.take m) := by
  rcases h with ⟨rfl, rfl⟩ | ⟨b, off, rfl, hlt, hc⟩
  · exact .inl ⟨rfl, by simp⟩
  · refine .inr ⟨b, off, rfl, hlt, fun i hi => ?_⟩
    have h1 : i < l.length ∧ i < m := by simp at hi; omega
    have h2 : (l.take m).getD i nil0 = l.getD i nil0 := by simp [List.getD, h1.2]
    rw [h2]
    exact hc i h1.1
theorem NRow.upd {S : Nat → Prop} (h : NRow w a l) (hu : Upd S w w') (hg : ∀ x, a = some x → ¬ S x.block) : NRow w' a l := by
  rcases h with h | ⟨b, off, rfl, hlt, hc⟩
  · exact .inl h
  · refine .inr ⟨b, off, rfl, Nat.lt_of_lt_of_le hlt hu.size, fun i hi => ?_⟩
    have he : ∀ o, w'.cell? ⟨b, o, none⟩ = w.cell? ⟨b, o, none⟩ := fun o => World.cell?_of_block (w := w) (hu.block b hlt (hg _ rfl))
    rw [he, he, he]
    exact hc i hi
end
end Go.Proofs.YtlbgdgobhiokpaaDoor
