import Derived.Test.YtafljgjkcnbhbaaDoorPart07
import Derived.SizedLaws

/-
  What the reading of an argument says of memory, with what each slice in it weighs. For a new seat: copy as <Name>Weigh.lean; put the Name for 'Seat', also in the import.
-/
namespace Go.Proofs.YtafljgjkcnbhbaaDoor
open Go.ChangeShapes Go.WideShapes Go.ChangeAt Go.RowKit
set_option linter.unusedVariables false

variable {H : Type} {enc : TypeId × Value → H} {P : Program} {w : World} {base : Nat} {held : Bool}

theorem weights_all {e : TypeId} : ∀ {ds : List (DataW H)} {d : DataW H}, d ∈ ds → ∀ n ∈ d.weights P e, n ∈ DataW.weightsAll P e ds
  | [], d, h, _, _ => by cases h
  | x :: r, d, h, n, hn => by
    simp only [DataW.weightsAll, List.mem_append]
    rcases List.mem_cons.1 h with rfl | h
    · exact .inl hn
    · exact .inr (weights_all h n hn)
/-- A struct's cells, field by field. -/
theorem field_weigh {t : TypeId} {fs : Array Field} (ht : P.underlying t = some (.struct fs)) {fuel : Nat} {cs : List Value} {y : DataW H × List MemPlace} (h : DataW.trod enc P w base (fun _ => true) held fuel t cs = some y) :
    cs.length = P.cellsOf t ∧ ∃ m, ∀ (i : Nat) (f : Field) (c : Value), fs[i]? = some f → P.cellsOf f.type = 1 → cs[f.offset]? = some c → ∃ z, DataW.trod enc P w base (fun _ => true) held m f.type [c] = some z ∧ ∀ n ∈ z.1.weights P f.type, n ∈ y.1.weights P t := by
  obtain ⟨xs, m, _, hy, hl, hlen, hf⟩ := DataW.trod_struct ht h
  refine ⟨hl, m, fun i f c hfi hc1 hco => ?_⟩
  have hi : i < xs.length := by
    rw [hlen]
    exact (Array.getElem?_eq_some_iff.1 hfi).1
  have h1 := hf i f hfi
  rw [hc1, List.getElem?_eq_getElem hi] at h1
  obtain ⟨hol, hoc⟩ := List.getElem?_eq_some_iff.1 hco
  have e : (cs.drop f.offset).take 1 = [c] := by
    rw [List.drop_eq_getElem_cons hol, hoc]
    rfl
  rw [e] at h1
  refine ⟨_, h1, fun n hn => ?_⟩
  subst hy
  simp only [DataW.weights, ht]
  refine DataW.weights_mem_each (j := i) (t := f.type) (d := (xs[i]).1) ?_ ?_ n hn
  · rw [List.getElem?_map, Array.getElem?_toList, hfi]; rfl
  · rw [List.getElem?_map, List.getElem?_eq_getElem hi]; rfl
/-- A slice of structs. -/
theorem structs_weigh {t e : TypeId} (ht : P.underlying t = some (.slice e)) (hpos : 0 < P.cellsOf e) {fuel : Nat} {a0 : Option Addr} {len cap : Nat} {y : DataW H × List MemPlace} (h : DataW.trod enc P w base (fun _ => true) held fuel t [.slice a0 len cap] = some y) :
    len = 0 ∨ ∃ b off n, a0 = some ⟨b, off, none⟩ ∧ b < w.heap.size ∧ len ≤ cap ∧ cap ≤ maxLen ∧ ∀ i, i < len → ∃ cs z, cs.length = P.cellsOf e ∧ (∀ j, j < P.cellsOf e → w.cell? ⟨b, off + i * P.cellsOf e + j, none⟩ = cs[j]?) ∧ DataW.trod enc P w base (fun _ => true) held n e cs = some z ∧ ∀ n ∈ z.1.weights P e, n ∈ y.1.weights P t := by
  rcases Go.Deep.open_slice ht h with ⟨hcs, _⟩ | ⟨x, l, c, m, n, D, Pl, hcs, _, hl, hm, hmm, hy, hel⟩
  · left
    simp at hcs
    exact hcs.2.1
  · simp at hcs
    obtain ⟨rfl, rfl, rfl⟩ := hcs
    by_cases h0 : len = 0
    · exact .inl h0
    right
    have hmc : m = cap := by simpa using hmm
    obtain ⟨b, off, spot⟩ := x
    obtain ⟨cs0, hc0, _⟩ := hel 0 (by omega)
    have q0 := (World.cells?_some hc0).2.2 0 hpos
    have hlen0 := (World.cells?_some hc0).2.1
    have hz : ((⟨b, off, spot⟩ : Addr).add (0 * P.cellsOf e)).add 0 = ⟨b, off, spot⟩ := by simp [Addr.add]
    rw [hz] at q0
    have q1 : w.cell? ⟨b, off, spot⟩ = some (cs0[0]'(by omega)) := by rw [q0]; exact List.getElem?_eq_getElem _
    have hspot : spot = none := by simpa using World.cell?_spot q1
    subst hspot
    refine ⟨b, off, n, rfl, World.block_lt_of_cell? w _ q1, hl, hm, fun i hi => ?_⟩
    obtain ⟨cs, hcs, ht'⟩ := hel i (by omega)
    refine ⟨cs, _, (World.cells?_some hcs).2.1, fun j hj => ?_, ht', fun k hk => ?_⟩
    · have hcell := (World.cells?_some hcs).2.2 j hj
      rw [add_none, add_none] at hcell
      exact hcell
    · subst hy
      simp only [DataW.weights, ht, List.mem_cons, List.mem_append]
      exact .inr (.inl (weights_all (d := D i) (List.mem_map.2 ⟨i, List.mem_range.2 hi, rfl⟩) k hk))
end Go.Proofs.YtafljgjkcnbhbaaDoor
