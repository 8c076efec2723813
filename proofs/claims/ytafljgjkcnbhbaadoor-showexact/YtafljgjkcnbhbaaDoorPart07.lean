import Derived.Test.YtafljgjkcnbhbaaDoorPart03
import Derived.ProofKit
import Derived.OpenShut
import Derived.ShutString
import Derived.ChangeOld
import Derived.Deep.Slices

/-
  What the reading of an argument says of memory, over any program. For a new seat: copy as <Name>Read.lean; put the Name for 'Seat', also in the import.
-/
namespace Go.Proofs.YtafljgjkcnbhbaaDoor
open Go.ChangeShapes Go.WideShapes Go.ChangeAt Go.RowKit
set_option linter.unusedVariables false

variable {H : Type} {enc : TypeId × Value → H} {P : Program} {w : World} {base : Nat} {held : Bool}

/-- A slice of integers that was read, its spare room too. -/
theorem row_read {t e : TypeId} {k : IntKind} (ht : P.underlying t = some (.slice e)) (he : P.underlying e = some (.int k)) (hc : P.cellsOf e = 1) {fuel : Nat} {v : Value} {y : DataW H × List MemPlace}
    (h : DataW.trod enc P w base (fun _ => true) held fuel t [v] = some y) :
    ∃ a n cap l, v = .slice a n cap ∧ n ≤ cap ∧ cap ≤ maxLen ∧ l.length = n ∧ Row k w a l ∧ (a = none → cap = 0) ∧ ∀ x ∈ l, (Lit.int k x).wf = true := by
  rcases open_ints ht he hc h with ⟨hcs, _⟩ | ⟨x, l, c, zs, hcs, _, hl, hm, hz, _, hcell, hwz⟩
  · simp at hcs
    subst hcs
    exact ⟨none, 0, 0, [], rfl, Nat.le_refl _, Nat.zero_le _, rfl, .inl ⟨rfl, rfl⟩, fun _ => rfl, fun x hx => by cases hx⟩
  · simp at hcs
    subst hcs
    have hz' : zs.length = c := by simpa using hz
    refine ⟨some x, l, c, zs.take l, rfl, hl, hm, by simp; omega, .inr ⟨x, rfl, fun i hi => ?_⟩, (fun h => by cases h), fun x hx => hwz x (List.mem_of_mem_take hx)⟩
    have h1 : i < l := by simp at hi; omega
    rw [hcell i (by omega)]
    simp [List.getD, h1]
/-- The same, with what it weighs. -/
theorem row_weigh {t e : TypeId} {k : IntKind} (ht : P.underlying t = some (.slice e)) (he : P.underlying e = some (.int k)) (hc : P.cellsOf e = 1) {fuel : Nat} {v : Value} {y : DataW H × List MemPlace}
    (h : DataW.trod enc P w base (fun _ => true) held fuel t [v] = some y) :
    ∃ a n cap l, v = .slice a n cap ∧ n ≤ cap ∧ cap ≤ maxLen ∧ l.length = n ∧ Row k w a l ∧ (a = none → cap = 0) ∧ (∀ x ∈ l, (Lit.int k x).wf = true) ∧ (cap = 0 ∨ cap * P.bytesOf e ∈ y.1.weights P t) := by
  rcases open_ints ht he hc h with ⟨hcs, _⟩ | ⟨x, l, c, zs, hcs, _, hl, hm, hz, hy, hcell, hwz⟩
  · simp at hcs
    subst hcs
    exact ⟨none, 0, 0, [], rfl, Nat.le_refl _, Nat.zero_le _, rfl, .inl ⟨rfl, rfl⟩, fun _ => rfl, (fun x hx => by cases hx), .inl rfl⟩
  · simp at hcs
    subst hcs
    have hz' : zs.length = c := by simpa using hz
    refine ⟨some x, l, c, zs.take l, rfl, hl, hm, by simp; omega, .inr ⟨x, rfl, fun i hi => ?_⟩, (fun h => by cases h), (fun x hx => hwz x (List.mem_of_mem_take hx)), .inr ?_⟩
    · have h1 : i < l := by simp at hi; omega
      rw [hcell i (by omega)]
      simp [List.getD, h1]
    · subst hy
      simp only [DataW.weights, ht, lits, List.length_map, List.length_take, List.length_drop]
      rw [hz', show min l c + (c - l) = c from by omega]
      exact List.mem_cons_self
/-- A struct's cells, field by field: field number i of a struct whose fields are of one cell each. -/
theorem field_read {t : TypeId} {fs : Array Field} (ht : P.underlying t = some (.struct fs)) {fuel : Nat} {cs : List Value} {y : DataW H × List MemPlace} (h : DataW.trod enc P w base (fun _ => true) held fuel t cs = some y) :
    cs.length = P.cellsOf t ∧ ∃ m, ∀ (i : Nat) (f : Field) (c : Value), fs[i]? = some f → P.cellsOf f.type = 1 → cs[f.offset]? = some c → ∃ z, DataW.trod enc P w base (fun _ => true) held m f.type [c] = some z := by
  obtain ⟨xs, m, _, _, hl, hlen, hf⟩ := DataW.trod_struct ht h
  refine ⟨hl, m, fun i f c hfi hc1 hco => ?_⟩
  have hi : i < xs.length := by
    rw [hlen]
    exact (Array.getElem?_eq_some_iff.1 hfi).1
  have h1 := hf i f hfi
  rw [hc1, List.getElem?_eq_getElem hi] at h1
  obtain ⟨hol, hoc⟩ := List.getElem?_eq_some_iff.1 hco
  have e : (cs.drop f.offset).take 1 = [c] := by
    rw [List.drop_eq_getElem_cons hol, hoc]
    rfl
  rw [e] at h1
  exact ⟨_, h1⟩
/-- A slice of structs of n cells each: each element's cells, and that they were read. -/
theorem structs_read {t e : TypeId} (ht : P.underlying t = some (.slice e)) (hpos : 0 < P.cellsOf e) {fuel : Nat} {a0 : Option Addr} {len cap : Nat} {y : DataW H × List MemPlace} (h : DataW.trod enc P w base (fun _ => true) held fuel t [.slice a0 len cap] = some y) :
    len = 0 ∨ ∃ b off n, a0 = some ⟨b, off, none⟩ ∧ b < w.heap.size ∧ len ≤ cap ∧ cap ≤ maxLen ∧ ∀ i, i < len → ∃ cs z, cs.length = P.cellsOf e ∧ (∀ j, j < P.cellsOf e → w.cell? ⟨b, off + i * P.cellsOf e + j, none⟩ = cs[j]?) ∧ DataW.trod enc P w base (fun _ => true) held n e cs = some z := by
  rcases Go.Deep.open_slice ht h with ⟨hcs, _⟩ | ⟨x, l, c, m, n, D, Pl, hcs, _, hl, hm, hmm, _, hel⟩
  · left
    simp at hcs
    exact hcs.2.1
  · simp at hcs
    obtain ⟨rfl, rfl, rfl⟩ := hcs
    by_cases h0 : len = 0
    · exact .inl h0
    right
    have hmc : m = cap := by simpa using hmm
    obtain ⟨b, off, spot⟩ := x
    obtain ⟨cs0, hc0, _⟩ := hel 0 (by omega)
    have q0 := (World.cells?_some hc0).2.2 0 hpos
    have hlen0 := (World.cells?_some hc0).2.1
    have hz : ((⟨b, off, spot⟩ : Addr).add (0 * P.cellsOf e)).add 0 = ⟨b, off, spot⟩ := by simp [Addr.add]
    rw [hz] at q0
    have q1 : w.cell? ⟨b, off, spot⟩ = some (cs0[0]'(by omega)) := by rw [q0]; exact List.getElem?_eq_getElem _
    have hspot : spot = none := by simpa using World.cell?_spot q1
    subst hspot
    refine ⟨b, off, n, rfl, World.block_lt_of_cell? w _ q1, hl, hm, fun i hi => ?_⟩
    obtain ⟨cs, hcs, ht'⟩ := hel i (by omega)
    refine ⟨cs, _, (World.cells?_some hcs).2.1, fun j hj => ?_, ht'⟩
    have hcell := (World.cells?_some hcs).2.2 j hj
    rw [add_none, add_none] at hcell
    exact hcell
end Go.Proofs.YtafljgjkcnbhbaaDoor
