/- NamesRing, plain: a use gets the name of another definition. -/
import Derived.Test.YteopgffgimkgmaaYv
namespace Go.Proofs.Yteopgffgimkgmaa
open Go.RowKit
set_option linter.unusedVariables false

theorem numN_map (D : List Df) (s : ByteArray) : numN D s = (D.map (·.name)).findIdx? (fun y => decide (y = s)) := by
  unfold numN
  rw [List.findIdx?_map]
  rfl
theorem numN_same {D D' : List Df} (h : D'.map (·.name) = D.map (·.name)) : numN D' = numN D := by
  funext s
  rw [numN_map, numN_map, h]
theorem ct_set {x x' : Nd} (hk : x'.k = x.k) (hd : x'.kids = x.kids) (hE : ∀ of dp, ndE x of dp = 0 → ndE x' of dp = 0) : ∀ (N : List Nd) (n i : Nat) (L : List (Int × Int)), N[n]? = some x → (ct N i L).2 = 0 → (ct (N.set n x') i L).2 = 0
  | [], n, i, L, h, _ => by simp at h
  | y :: N, 0, i, L, h, hc => by
    simp at h
    subst h
    rw [List.set_cons_zero]
    unfold ct at hc ⊢
    by_cases h0 : ctE L y = 0
    · rw [if_pos h0] at hc
      have h1 : ctE L x' = 0 := by
        unfold ctE at h0 ⊢
        cases e : L.getLast? with
        | none => rw [e] at h0; exact h0
        | some p => rw [e] at h0; exact hE _ _ h0
      have h2 : ctS L x' = ctS L y := by unfold ctS; rw [hk, hd]
      rw [if_pos h1, h2]
      exact hc
    · rw [if_neg h0] at hc; exact absurd hc h0
  | y :: N, n + 1, i, L, h, hc => by
    rw [List.set_cons_succ]
    unfold ct at hc ⊢
    by_cases h0 : ctE L y = 0
    · rw [if_pos h0] at hc ⊢
      exact ct_set hk hd hE N n (i + 1) _ (by simpa using h) hc
    · rw [if_neg h0] at hc; exact absurd hc h0
theorem par_set {x x' : Nd} (hd : x'.kids = x.kids) : ∀ (N : List Nd) (n i : Nat) (st : List Int), N[n]? = some x → par (N.set n x') i st = par N i st
  | [], n, i, st, h => by simp at h
  | y :: N, 0, i, st, h => by
    simp at h
    subst h
    rw [List.set_cons_zero, par, par, hd]
  | y :: N, n + 1, i, st, h => by
    rw [List.set_cons_succ, par, par, par_set hd N n _ _ (by simpa using h)]
theorem lkN_set {D : List Df} {x x' : Nd} (hl : x'.label = x.label) (ht : x'.tag = x.tag) (hn : numN D x'.name ≠ none) : ∀ (N : List Nd) (P : List Int) (met : List Pt) (n : Nat), N[n]? = some x → (lkN D N P met).1 = 0 → (lkN D (N.set n x') P met).1 = 0
  | [], P, met, n, h, _ => by simp at h
  | y :: N, [], met, n, h, hc => by cases n <;> rfl
  | y :: N, p :: P, met, 0, h, hc => by
    simp at h
    subst h
    rw [List.set_cons_zero]
    rw [lkN] at hc ⊢
    rw [hl, ht]
    by_cases h1 : hasP met (p, y.label, y.tag) = true
    · rw [if_pos h1] at hc; simp at hc
    rw [if_neg h1] at hc ⊢
    by_cases h2 : y.k = 9 ∧ numN D y.name = none
    · rw [if_pos h2] at hc; simp at hc
    rw [if_neg h2] at hc
    rw [if_neg (fun h => hn h.2)]
    exact hc
  | y :: N, p :: P, met, n + 1, h, hc => by
    rw [List.set_cons_succ]
    rw [lkN] at hc ⊢
    by_cases h1 : hasP met (p, y.label, y.tag) = true
    · rw [if_pos h1] at hc; simp at hc
    rw [if_neg h1] at hc ⊢
    by_cases h2 : y.k = 9 ∧ numN D y.name = none
    · rw [if_pos h2] at hc; simp at hc
    rw [if_neg h2] at hc ⊢
    exact lkN_set hl ht hn N P _ n (by simpa using h) hc
/-- One use of definition i, at its node n, gets the name s. -/
def reuse (D : List Df) (i n : Nat) (d : Df) (x : Nd) (s : ByteArray) : List Df := D.set i { d with ty := d.ty.set n { x with name := s } }
section
variable {D : List Df} {i n t : Nat} {d e : Df} {x : Nd}
theorem reuse_names (hd : D[i]? = some d) (s : ByteArray) : (reuse D i n d x s).map (·.name) = D.map (·.name) := by
  unfold reuse
  rw [List.map_set]
  refine List.ext_getElem? fun j => ?_
  rw [List.getElem?_set]
  split
  · rename_i h
    subst h
    rw [List.getElem?_map, hd]
    simp [(List.getElem?_eq_some_iff.1 hd).1]
  · rfl
theorem reuse_at (hd : D[i]? = some d) (s : ByteArray) : (reuse D i n d x s)[i]? = some { d with ty := d.ty.set n { x with name := s } } := by
  unfold reuse
  rw [List.getElem?_set_self (List.getElem?_eq_some_iff.1 hd).1]
theorem reuse_ne (s : ByteArray) {j : Nat} (hj : i ≠ j) : (reuse D i n d x s)[j]? = D[j]? := by
  unfold reuse
  rw [List.getElem?_set_ne hj]
theorem ndE_name {s : ByteArray} {of : Int} {dp : Nat} (h9 : x.k = 9) (hs : nameOk s true = true) (h : ndE x of dp = 0) : ndE { x with name := s } of dp = 0 := by
  unfold ndE nodeE at h ⊢
  have e9 : decide (x.k = 9) = true := decide_eq_true h9
  simp only [e9] at h ⊢
  rw [hs]
  by_cases h1 : 16 < dp
  · rw [if_pos h1] at h; cases h
  rw [if_neg h1] at h ⊢
  by_cases h2 : (x.k = 8 ∨ x.k = 7) ∧ 64 < x.kids
  · rw [if_pos h2] at h; cases h
  rw [if_neg h2] at h ⊢
  by_cases h3 : kindOk x.k x.n x.kids = false ∨ nameOk x.name true = false ∨ nameOk x.label (decide (of = 8)) = false
  · rw [if_pos h3] at h; cases h
  rw [if_neg h3] at h
  rw [if_neg (fun hh => by
    rcases hh with hh | hh | hh
    · exact h3 (.inl hh)
    · cases hh
    · exact h3 (.inr (.inr hh)))]
  exact h
/-- To one that leads here, or to itself: a ring; to another: none, or it is too deep. -/
theorem reuse_look {o : List Nat} {ds : List Int} (G : Good D o ds) (hd : D[i]? = some d) (hx : d.ty[n]? = some x) (h9 : x.k = 9) (he : D[t]? = some e) (hs : nameOk e.name true = true) {E A : Int} {o' : List Nat} {ds' : List Int} (k : LookTo (reuse D i n d x e.name) E A o' ds') :
    ((t = i ∨ Lead (usD D) t i) → E = 82) ∧ (¬ (t = i ∨ Lead (usD D) t i) → E = 0 ∨ E = 83) := by
  have hN := numN_same (reuse_names (n := n) (x := x) hd e.name)
  have hnt : numN D e.name = some t := by have := (lkD_ok D 0 G.lk t e he).1; rwa [Nat.zero_add] at this
  have hck : (ckP (reuse D i n d x e.name)).2.2 = 0 := by
    have h0 := ckP_iff.1 G.ck
    refine ckP_iff.2 ⟨by unfold reuse; rw [List.length_set]; exact h0.1, fun y hy => ?_⟩
    obtain ⟨j, hj⟩ := List.mem_iff_getElem?.1 hy
    by_cases hij : i = j
    · subst hij
      rw [reuse_at hd] at hj
      injection hj with hj
      subst hj
      have h1 := h0.2 d (List.mem_of_getElem? hd)
      exact ⟨h1.1, ct_set (x := x) (x' := { x with name := e.name }) rfl rfl (fun of dp h => ndE_name h9 hs h) _ _ _ _ hx h1.2⟩
    · rw [reuse_ne _ hij] at hj
      exact h0.2 y (List.mem_of_getElem? hj)
  have hlk : (lkD (reuse D i n d x e.name) (reuse D i n d x e.name) 0).1 = 0 := by
    refine lkD_mk _ 0 (fun j y hj => ?_)
    have hc : ∀ N P met, lkN (reuse D i n d x e.name) N P met = lkN D N P met := fun N P met => lkN_congr (fun s => by rw [hN]) N P met
    rw [hN]
    unfold lkT
    rw [hc]
    by_cases hij : i = j
    · subst hij
      rw [reuse_at hd] at hj
      injection hj with hj
      subst hj
      obtain ⟨h1, h2⟩ := lkD_ok D 0 G.lk i d hd
      refine ⟨h1, ?_⟩
      have hp : parP (d.ty.set n { x with name := e.name }) = parP d.ty := par_set (x := x) (x' := { x with name := e.name }) rfl _ _ _ _ hx
      show (lkN D (d.ty.set n { x with name := e.name }) (parP (d.ty.set n { x with name := e.name })) []).1 = 0
      rw [hp]
      exact lkN_set (x := x) (x' := { x with name := e.name }) rfl rfl (by show numN D e.name ≠ none; rw [hnt]; simp) _ _ _ _ hx h2
    · rw [reuse_ne _ hij] at hj
      exact lkD_ok D 0 G.lk j y hj
  have hT : ∀ N, usT (reuse D i n d x e.name) N = usT D N := fun N => by
    have : usAdd (reuse D i n d x e.name) = usAdd D := by funext acc y; unfold usAdd numZ; rw [hN]
    unfold usT
    rw [this]
  have hs1 : ∀ j, j ≠ i → us (usD (reuse D i n d x e.name)) j = us (usD D) j := fun j hj => by
    cases h : D[j]? with
    | some y => rw [us_usD h, us_usD (by rw [reuse_ne _ (fun e => hj e.symm)]; exact h), hT]
    | none =>
      have h1 : (reuse D i n d x e.name)[j]? = none := by rw [reuse_ne _ (fun e => hj e.symm)]; exact h
      unfold us usD
      simp [List.getD, h, h1]
  have hat := us_usD (reuse_at (n := n) (x := x) hd e.name)
  have hnl : n < d.ty.length := (List.getElem?_eq_some_iff.1 hx).1
  have ht : t ∈ us (usD (reuse D i n d x e.name)) i := by
    rw [hat, hT]
    refine mem_usT.2 ⟨{ x with name := e.name }, ?_, h9, ?_⟩
    · exact List.mem_of_getElem? (List.getElem?_set_self hnl)
    · unfold numZ; show t = (numN D e.name).getD 0; rw [hnt]; rfl
  have hsub : ∀ u ∈ us (usD (reuse D i n d x e.name)) i, u = t ∨ u ∈ us (usD D) i := fun u hu => by
    rw [hat, hT] at hu
    obtain ⟨y, hy, hy9, rfl⟩ := mem_usT.1 hu
    rcases List.mem_or_eq_of_mem_set hy with hy | hy
    · right
      rw [us_usD hd]
      exact mem_usT.2 ⟨y, hy, hy9, rfl⟩
    · left
      subst hy
      unfold numZ
      show (numN D e.name).getD 0 = t
      rw [hnt]; rfl
  unfold LookTo at k
  rw [if_pos hck, if_pos hlk] at k
  refine ⟨fun h => ?_, fun h => ?_⟩
  · have hr := turn_ring hs1 ht h
    rcases k with ⟨_, _, _, _, _, hE, _⟩ | ⟨hA, _⟩
    · exact hE
    · exact absurd hr (hA i)
  · have hA := turn_none hs1 hsub h G.acy
    rcases k with ⟨j, _, _, hL, _⟩ | ⟨_, p, qs, _, _, _, ⟨_, _, _, _, _, hE, _⟩ | ⟨_, hE, _⟩⟩
    · exact absurd hL (hA j)
    · exact .inr hE
    · exact .inl hE
end
end Go.Proofs.Yteopgffgimkgmaa
