/- What follows from an answer, plain. -/
import Derived.Test.YtjeafblkmipdmaaYn
import Derived.Test.YtjeafblkmipdmaaYp
namespace Go.Proofs.Ytjeafblkmipdmaa
open Go.RowKit
set_option linter.unusedVariables false

theorem lkN_ok {D : List Df} : ∀ (N : List Nd) (P : List Int) (met : List Pt), P.length = N.length → (lkN D N P met).1 = 0 → ∀ x ∈ N, x.k = 9 → ∃ j, numN D x.name = some j
  | [], P, met, _, _, x, hx, _ => by cases hx
  | y :: N, [], met, h, _, _, _, _ => by simp at h
  | y :: N, p :: P, met, hl, h, x, hx, h9 => by
    rw [lkN] at h
    by_cases h1 : hasP met (p, y.label, y.tag) = true
    · rw [if_pos h1] at h; simp at h
    rw [if_neg h1] at h
    by_cases h2 : y.k = 9 ∧ numN D y.name = none
    · rw [if_pos h2] at h; simp at h
    rw [if_neg h2] at h
    rcases List.mem_cons.1 hx with rfl | hx
    · cases e : numN D x.name with
      | none => exact absurd ⟨h9, e⟩ h2
      | some j => exact ⟨j, rfl⟩
    · exact lkN_ok N P _ (by simpa using hl) h x hx h9
theorem lkD_ok {D0 : List Df} : ∀ (D : List Df) (i : Nat), (lkD D0 D i).1 = 0 → ∀ (j : Nat) (d : Df), D[j]? = some d → numN D0 d.name = some (i + j) ∧ (lkT D0 d.ty).1 = 0
  | [], i, _, j, d, hd => by simp at hd
  | e :: D, i, h, j, d, hd => by
    rw [lkD] at h
    by_cases h1 : numN D0 e.name = some i
    · rw [if_pos h1] at h
      by_cases h2 : (lkT D0 e.ty).1 = 0
      · rw [if_pos h2] at h
        cases j with
        | zero => simp at hd; subst hd; exact ⟨h1, h2⟩
        | succ j =>
          have := lkD_ok D (i + 1) h j d (by simpa using hd)
          rw [show i + (j + 1) = i + 1 + j by omega]
          exact this
      · rw [if_neg h2] at h; exact absurd h h2
    · rw [if_neg h1] at h; simp at h
theorem known {D : List Df} (h : (lkD D D 0).1 = 0) {j : Nat} {d : Df} (hd : D[j]? = some d) {x : Nd} (hx : x ∈ d.ty) (h9 : x.k = 9) : ∃ u, numN D x.name = some u :=
  lkN_ok d.ty (parP d.ty) [] (parP_len _) (lkD_ok D 0 h j d hd).2 x hx h9
/-- An answer without an error. -/
structure Good (D : List Df) (o : List Nat) (ds : List Int) : Prop where
  ck : (ckP D).2.2 = 0
  lk : (lkD D D 0).1 = 0
  acy : Acy (usD D)
  ord : Ordr (usD D) o
  len : o.length = D.length
  dep : DepR D ds
  deep : ∀ j, ds.getD j 0 ≤ 64
theorem LookTo.zero {D : List Df} {A : Int} {o : List Nat} {ds : List Int} (h : LookTo D 0 A o ds) : Good D o ds ∧ A = 0 := by
  unfold LookTo at h
  by_cases h1 : (ckP D).2.2 = 0
  · rw [if_pos h1] at h
    by_cases h2 : (lkD D D 0).1 = 0
    · rw [if_pos h2] at h
      rcases h with ⟨_, _, _, _, _, h, _⟩ | ⟨hA, p, qs, e1, e2, e3, ⟨_, _, _, _, _, h, _⟩ | ⟨h3, _, h4, rfl, rfl⟩⟩
      · omega
      · omega
      · exact ⟨⟨h1, h2, hA, e1, e2, e3, h3⟩, h4⟩
    · rw [if_neg h2] at h; exact absurd h.1.symm h2
  · rw [if_neg h1] at h; have := h.1; omega
theorem LookTo.err {D : List Df} {E A : Int} {o : List Nat} {ds : List Int} (h : LookTo D E A o ds) (hE : E ≠ 0) : o = [] ∧ ds = [] := by
  unfold LookTo at h
  by_cases h1 : (ckP D).2.2 = 0
  · rw [if_pos h1] at h
    by_cases h2 : (lkD D D 0).1 = 0
    · rw [if_pos h2] at h
      rcases h with ⟨_, _, _, _, _, _, _, h3, h4⟩ | ⟨hA, p, qs, e1, e2, e3, ⟨_, _, _, _, _, _, _, h3, h4⟩ | ⟨h3, h, _⟩⟩
      · exact ⟨h3, h4⟩
      · exact ⟨h3, h4⟩
      · exact absurd h hE
    · rw [if_neg h2] at h; exact h.2.2
  · rw [if_neg h1] at h; exact h.2.2
theorem Good.look {D : List Df} {o : List Nat} {ds : List Int} (h : Good D o ds) : LookTo D 0 0 o ds := lookTo_ok h.ck h.lk h.acy h.ord h.len h.dep h.deep
/-- What uses only what is ahead of it stands so already. -/
theorem stands_id {U : List (List Nat)} {o : List Nat} (hO : Ordr U o) (hl : o.length = U.length) (h : ∀ m, m < U.length → ∀ u ∈ us U m, u < m) : ∀ i, i < U.length → o[i]? = some i := by
  intro i
  induction i using Nat.strongRecOn with
  | ind i ih =>
    intro hi
    have ho : o[i]? = some (o[i]'(by omega)) := List.getElem?_eq_getElem _
    obtain ⟨h1, h2, h3⟩ := hO i _ ho
    have htk : ∀ j, j ∈ o.take i ↔ j < i := by
      intro j
      constructor
      · intro hj
        obtain ⟨k, hk, e⟩ := List.getElem_of_mem hj
        rw [List.length_take] at hk
        rw [List.getElem_take] at e
        have := ih k (by omega) (by omega)
        rw [List.getElem?_eq_getElem (by omega)] at this
        simp only [Option.some.injEq] at this
        omega
      · intro hj
        refine List.mem_iff_getElem?.2 ⟨j, ?_⟩
        rw [List.getElem?_take, if_pos hj]
        exact ih j hj (by omega)
    have hr : Rdy U (o.take i) i := ⟨fun hh => by have := (htk i).1 hh; omega, fun u hu => (htk u).2 (h i hi u hu)⟩
    have h4 : ¬ (o[i]'(by omega)) < i := fun hh => h2.1 ((htk _).2 hh)
    have h5 : ¬ i < (o[i]'(by omega)) := fun hh => h3 i hh hr
    rw [ho]
    congr 1
    omega
theorem Good.depth {D : List Df} {o : List Nat} {ds : List Int} (h : Good D o ds) (hok : ∀ d ∈ D, DfOk1 d) {i : Nat} (hi : i < D.length) : 1 ≤ ds.getD i 0 := by
  rw [h.dep.2 i _ (List.getElem?_eq_getElem hi)]
  have := hok _ (List.getElem_mem hi)
  exact hgt_one this.2.2.1 this.2.2.2.1
theorem Good.use {D : List Df} {o : List Nat} {ds : List Int} (h : Good D o ds) (hok : ∀ d ∈ D, DfOk1 d) {i : Nat} {d : Df} (hd : D[i]? = some d) {x : Nd} (hx : x ∈ d.ty) (h9 : x.k = 9) : ds.getD (numZ D x.name) 0 ≤ ds.getD i 0 := by
  rw [h.dep.2 i d hd]
  have := hok d (List.mem_of_getElem? hd)
  exact hgt_name (f := depF D ds) this.2.2.1 this.2.2.2.1 hx h9
end Go.Proofs.Ytjeafblkmipdmaa
