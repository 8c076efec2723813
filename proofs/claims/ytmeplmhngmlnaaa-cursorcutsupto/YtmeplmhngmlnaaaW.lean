/- What the bound of an '..Upto' statement says of a slice of integers. -/
import Derived.Test.YtmeplmhngmlnaaaRows
import Derived.Test.YtmeplmhngmlnaaaRead
namespace Go.Proofs.Ytmeplmhngmlnaaa
open Go.ChangeShapes Go.WideShapes Go.ChangeAt Go.RowKit
set_option linter.unusedVariables false

theorem bulk_lits {H : Type} (k : IntKind) (zs : List Int) : zs.length ≤ Rows.uptoBulkAll (lits (H := H) k zs) := by
  induction zs with
  | nil => exact Nat.zero_le _
  | cons z zs ih =>
    have e : Rows.uptoBulkAll (lits (H := H) k (z :: zs)) = 1 + Rows.uptoBulkAll (lits (H := H) k zs) := by
      simp [lits, Rows.uptoBulkAll, Rows.uptoBulk]
    rw [e, List.length_cons]
    omega
theorem bulk_mem {H : Type} {d : DataW H} : ∀ {l : List (DataW H)}, d ∈ l → Rows.uptoBulk d ≤ Rows.uptoBulkAll l
  | x :: r, h => by
    simp only [Rows.uptoBulkAll]
    rcases List.mem_cons.1 h with e | e
    · subst e; omega
    · have := bulk_mem e; omega
/-- A slice of integers that was read, and that it is no longer than its bulk. -/
theorem row_bulk {H : Type} {enc : TypeId × Value → H} {P : Program} {w : World} {base : Nat} {held : Bool} {t e : TypeId} {k : IntKind} (ht : P.underlying t = some (.slice e)) (he : P.underlying e = some (.int k)) (hc : P.cellsOf e = 1) {fuel : Nat} {v : Value} {y : DataW H × List MemPlace}
    (h : DataW.trod enc P w base (fun _ => true) held fuel t [v] = some y) :
    ∃ a n cap l, v = .slice a n cap ∧ n ≤ cap ∧ cap ≤ maxLen ∧ l.length = n ∧ Row k w a l ∧ (a = none → cap = 0) ∧ (∀ x ∈ l, (Lit.int k x).wf = true) ∧ n ≤ Rows.uptoBulk y.1 := by
  rcases open_ints ht he hc h with ⟨hcs, _⟩ | ⟨x, l, c, zs, hcs, _, hl, hm, hz, hy, hcell, hwz⟩
  · simp at hcs
    subst hcs
    exact ⟨none, 0, 0, [], rfl, Nat.le_refl _, Nat.zero_le _, rfl, .inl ⟨rfl, rfl⟩, fun _ => rfl, (fun x hx => by cases hx), Nat.zero_le _⟩
  · simp at hcs
    subst hcs
    have hz' : zs.length = c := by simpa using hz
    refine ⟨some x, l, c, zs.take l, rfl, hl, hm, by simp; omega, .inr ⟨x, rfl, fun i hi => ?_⟩, (fun h => by cases h), (fun x hx => hwz x (List.mem_of_mem_take hx)), ?_⟩
    · have h1 : i < l := by simp at hi; omega
      rw [hcell i (by omega)]
      simp [List.getD, h1]
    · subst hy
      have h1 := bulk_lits (H := H) k (zs.take l)
      have h2 : (zs.take l).length = l := by rw [List.length_take]; omega
      simp only [Rows.uptoBulk]
      omega
end Go.Proofs.Ytmeplmhngmlnaaa
