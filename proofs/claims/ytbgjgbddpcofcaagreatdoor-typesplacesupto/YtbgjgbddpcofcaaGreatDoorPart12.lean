import Derived.Test.YtbgjgbddpcofcaaGreatDoorPart04
import Derived.Test.YtbgjgbddpcofcaaGreatDoorRows
import Derived.Lib.Mul64

/- Sizes that saturate: le.Plus and le.Times (stage 1's texts A and C). -/
namespace Go.Proofs.YtbgjgbddpcofcaaGreatDoor
open Go.RowKit
set_option linter.unusedVariables false

/-- What a number counts as. -/
def sz (n : Int) : Int := if n < 0 then 0 else if n ≤ 4611686018427387904 then n else 4611686018427387904
theorem sz_bd (n : Int) : 0 ≤ sz n ∧ sz n ≤ 4611686018427387904 := by unfold sz; omega

/-- The bare sum of what numbers count as. -/
def tot : List Int → Int
  | [] => 0
  | n :: r => sz n + tot r
theorem tot_nonneg (l : List Int) : 0 ≤ tot l := by
  induction l with
  | nil => simp [tot]
  | cons n r ih => have := sz_bd n; simp only [tot]; omega
theorem tot_append (l r : List Int) : tot (l ++ r) = tot l + tot r := by
  induction l with
  | nil => simp [tot]
  | cons n l ih => simp only [List.cons_append, tot, ih]; omega
theorem tot_take_succ (l : List Int) (k : Nat) (h : k < l.length) : tot (l.take (k + 1)) = tot (l.take k) + sz (l.getD k 0) := by
  rw [List.take_succ_eq_append_getElem h, tot_append]
  simp [tot, List.getD, h]
theorem tot_take_le (l : List Int) (k : Nat) : tot (l.take k) ≤ tot l := by
  have h : tot (l.take k ++ l.drop k) = tot l := by rw [List.take_append_drop]
  rw [tot_append] at h
  have := tot_nonneg (l.drop k)
  omega
/-- At most Huge. -/
def capH (n : Int) : Int := if n ≤ 4611686018427387904 then n else 4611686018427387904

/-- A row of ints in memory. -/
def RowI (w : World) (a : Option Addr) (l : List Int) : Prop :=
  l = [] ∨ ∃ b off, a = some ⟨b, off, none⟩ ∧ ∀ i, i < l.length → w.cell? ⟨b, off + i, none⟩ = some (.int .i64 (l.getD i 0))

end Go.Proofs.YtbgjgbddpcofcaaGreatDoor
