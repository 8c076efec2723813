/- Sources whose definitions stand in another order, plain; a use turned to another definition: rings. -/
import Derived.Test.YtjeafblkmipdmaaYq
namespace Go.Proofs.Ytjeafblkmipdmaa
open Go.RowKit
set_option linter.unusedVariables false

theorem ckL_of : ∀ (D : List Df) (i : Nat), (∀ d ∈ D, isName d.name = true ∧ (ct d.ty 0 [(0, 1)]).2 = 0) → (ckL D i).2.2 = 0
  | [], i, _ => rfl
  | d :: D, i, h => by
    have h1 := h d (.head _)
    unfold ckL
    rw [if_neg (by rw [h1.1]; simp), if_pos h1.2]
    exact ckL_of D (i + 1) (fun e he => h e (.tail _ he))
theorem ckP_iff {D : List Df} : (ckP D).2.2 = 0 ↔ D.length ≤ 256 ∧ ∀ d ∈ D, isName d.name = true ∧ (ct d.ty 0 [(0, 1)]).2 = 0 := by
  constructor
  · intro h
    unfold ckP at h
    by_cases hl : 256 < D.length
    · rw [if_pos hl] at h; cases h
    · rw [if_neg hl] at h
      exact ⟨by omega, fun d hd => ⟨(ck_all D 0 h d hd).1, by rw [(ck_all D 0 h d hd).2]⟩⟩
  · rintro ⟨h1, h2⟩
    unfold ckP
    rw [if_neg (by omega)]
    exact ckL_of D 0 h2
theorem lkD_mk {D0 : List Df} : ∀ (D : List Df) (i : Nat), (∀ (j : Nat) (d : Df), D[j]? = some d → numN D0 d.name = some (i + j) ∧ (lkT D0 d.ty).1 = 0) → (lkD D0 D i).1 = 0
  | [], i, _ => rfl
  | d :: D, i, h => by
    have h1 : numN D0 d.name = some i ∧ (lkT D0 d.ty).1 = 0 := h 0 d rfl
    rw [lkD, if_pos h1.1, if_pos h1.2]
    exact lkD_mk D (i + 1) (fun j e he => by
      have := h (j + 1) e (by simpa using he)
      rw [show i + 1 + j = i + (j + 1) by omega]
      exact this)
theorem lkN_congr {D D' : List Df} (h : ∀ s, numN D s = none ↔ numN D' s = none) : ∀ (N : List Nd) (P : List Int) (met : List Pt), lkN D N P met = lkN D' N P met
  | [], P, met => by cases P <;> rfl
  | x :: N, [], met => rfl
  | x :: N, p :: P, met => by
    rw [lkN, lkN, lkN_congr h N P]
    simp only [h]
theorem numN_mem {D : List Df} {d : Df} (hd : d ∈ D) : ∃ j, numN D d.name = some j := by
  cases e : numN D d.name with
  | some j => exact ⟨j, rfl⟩
  | none =>
    unfold numN at e
    rw [List.findIdx?_eq_none_iff] at e
    have := e d hd
    simp at this
/-- D' has D's definitions in another order: f i is the one that stands at i; g turns it back. -/
structure Shuf (D D' : List Df) (f g : Nat → Nat) : Prop where
  len : D'.length = D.length
  fl : ∀ i, i < D.length → f i < D.length ∧ g (f i) = i
  gl : ∀ i, i < D.length → g i < D.length ∧ f (g i) = i
  eq : ∀ i, i < D.length → D'[i]? = D[f i]?
section
variable {D D' : List Df} {f g : Nat → Nat}
theorem Shuf.symm (h : Shuf D D' f g) : Shuf D' D g f :=
  ⟨h.len.symm, fun i hi => by rw [h.len] at hi ⊢; exact h.gl i hi, fun i hi => by rw [h.len] at hi ⊢; exact h.fl i hi, fun i hi => by
    rw [h.len] at hi
    rw [h.eq _ (h.gl i hi).1, (h.gl i hi).2]⟩
theorem Shuf.at' (h : Shuf D D' f g) {i : Nat} {d : Df} (hd : D'[i]? = some d) : i < D.length ∧ D[f i]? = some d := by
  have hi : i < D.length := by rw [← h.len]; exact (List.getElem?_eq_some_iff.1 hd).1
  exact ⟨hi, by rw [← h.eq i hi]; exact hd⟩
theorem Shuf.mem (h : Shuf D D' f g) {d : Df} (hd : d ∈ D') : d ∈ D := by
  obtain ⟨i, hi⟩ := List.mem_iff_getElem?.1 hd
  exact List.mem_of_getElem? (h.at' hi).2
theorem Shuf.ck (h : Shuf D D' f g) (k : (ckP D).2.2 = 0) : (ckP D').2.2 = 0 := by
  rw [ckP_iff] at k ⊢
  exact ⟨by rw [h.len]; exact k.1, fun d hd => k.2 d (h.mem hd)⟩
theorem Shuf.num (h : Shuf D D' f g) (k : (lkD D D 0).1 = 0) {s : ByteArray} {i : Nat} (hi : numN D s = some i) : numN D' s = some (g i) := by
  obtain ⟨d, hd, rfl⟩ := numN_some hi
  have hl := (List.getElem?_eq_some_iff.1 hd).1
  have hm : d ∈ D' := h.symm.mem (List.mem_of_getElem? hd)
  obtain ⟨j, hj⟩ := numN_mem hm
  obtain ⟨e, he, hn⟩ := numN_some hj
  obtain ⟨hjl, he2⟩ := h.at' he
  have h1 := (lkD_ok D 0 k _ e he2).1
  rw [hn, hi] at h1
  simp at h1
  rw [hj, h1, (h.fl j hjl).2]
theorem Shuf.none (h : Shuf D D' f g) (k : (lkD D D 0).1 = 0) (s : ByteArray) : numN D s = none ↔ numN D' s = none := by
  constructor
  · intro hn
    cases e : numN D' s with
    | none => rfl
    | some j =>
      obtain ⟨d, hd, rfl⟩ := numN_some e
      obtain ⟨q, hq⟩ := numN_mem (h.mem (List.mem_of_getElem? hd))
      rw [hn] at hq; cases hq
  · intro hn
    cases e : numN D s with
    | none => rfl
    | some j => rw [h.num k e] at hn; cases hn
theorem Shuf.lk (h : Shuf D D' f g) (k : (lkD D D 0).1 = 0) : (lkD D' D' 0).1 = 0 := by
  refine lkD_mk D' 0 (fun j d hd => ?_)
  obtain ⟨hj, hd2⟩ := h.at' hd
  obtain ⟨h1, h2⟩ := lkD_ok D 0 k _ d hd2
  rw [Nat.zero_add] at h1
  refine ⟨by rw [h.num k h1, (h.fl j hj).2, Nat.zero_add], ?_⟩
  unfold lkT at h2 ⊢
  rw [← lkN_congr (h.none k)]
  exact h2
theorem Shuf.us (h : Shuf D D' f g) (k : (lkD D D 0).1 = 0) {i u : Nat} (hu : u ∈ us (usD D') i) : f u ∈ us (usD D) (f i) := by
  obtain ⟨d, hd, hu⟩ := us_usD' hu
  obtain ⟨x, hx, h9, rfl⟩ := mem_usT.1 hu
  obtain ⟨hi, hd2⟩ := h.at' hd
  obtain ⟨v, hv⟩ := known k hd2 hx h9
  rw [us_usD hd2]
  refine mem_usT.2 ⟨x, hx, h9, ?_⟩
  unfold numZ
  rw [hv, h.num k hv]
  exact (h.gl v (numN_lt hv)).2
theorem Shuf.lead (h : Shuf D D' f g) (k : (lkD D D 0).1 = 0) {a b : Nat} (hl : Lead (usD D') a b) : Lead (usD D) (f a) (f b) := by
  obtain ⟨n, hn⟩ := hl
  induction n generalizing a with
  | zero => exact Lead.one (h.us k hn)
  | succ n ih =>
    obtain ⟨c, h1, h2⟩ := hn
    exact (ih h2).step (h.us k h1)
theorem map_at (n : Nat) (q : Nat → Int) (i : Nat) (hi : i < n) : ((List.range n).map q).getD i 0 = q i := by simp [List.getD, hi]
theorem Shuf.dep (h : Shuf D D' f g) (k : (lkD D D 0).1 = 0) {ds : List Int} (hd : DepR D ds) : DepR D' ((List.range D.length).map (fun i => ds.getD (f i) 0)) := by
  refine ⟨by simp [h.len], fun i d hi => ?_⟩
  obtain ⟨hil, hd2⟩ := h.at' hi
  rw [map_at _ _ _ hil, hd.2 _ d hd2]
  refine hgt_congr (fun x hx h9 => ?_)
  obtain ⟨v, hv⟩ := known k hd2 hx h9
  have hv' := h.num k hv
  unfold depF numZ
  rw [hv, hv']
  have hgl := h.gl v (numN_lt hv)
  rw [Option.getD_some, Option.getD_some, map_at _ _ _ hgl.1, hgl.2]
/-- No fault here, none there; the depths are the same. -/
theorem Shuf.good (h : Shuf D D' f g) {o : List Nat} {ds : List Int} (G : Good D o ds) {E A : Int} {o' : List Nat} {ds' : List Int} (k : LookTo D' E A o' ds') : E = 0 ∧ ds'.length = D.length ∧ ∀ i, i < D.length → ds'.getD i 0 = ds.getD (f i) 0 := by
  unfold LookTo at k
  rw [if_pos (h.ck G.ck), if_pos (h.lk G.lk)] at k
  rcases k with ⟨i, _, _, hL, _⟩ | ⟨hA, p, qs, e1, e2, e3, k⟩
  · exact absurd (h.lead G.lk hL) (G.acy _)
  · have hq := DepR.det e1 e2 e3 (h.dep G.lk G.dep)
    rcases k with ⟨i, d, hd, h64, _⟩ | ⟨_, hE, _, _, rfl⟩
    · obtain ⟨hi, _⟩ := h.at' hd
      rw [hq, map_at _ _ _ hi] at h64
      have := G.deep (f i)
      omega
    · exact ⟨hE, by rw [hq]; simp, fun i hi => by rw [hq, map_at _ _ _ hi]⟩
end

/-! ### A use turned to another definition -/
section
variable {U U' : List (List Nat)} {d t : Nat}
theorem turn_ring (hs : ∀ i, i ≠ d → us U' i = us U i) (ht : t ∈ us U' d) (h : t = d ∨ Lead U t d) : Lead U' d d := by
  have key : ∀ n a, Ld U n a d → a ≠ d → Lead U' a d := by
    intro n
    induction n with
    | zero => intro a ha hne; exact Lead.one (by rw [hs a hne]; exact ha)
    | succ n ih =>
      intro a ha hne
      obtain ⟨c, h1, h2⟩ := ha
      have h1' : c ∈ us U' a := by rw [hs a hne]; exact h1
      by_cases hc : c = d
      · subst hc; exact Lead.one h1'
      · exact (ih c h2 hc).step h1'
  by_cases e : t = d
  · subst e; exact Lead.one ht
  · rcases h with h | ⟨n, hn⟩
    · exact absurd h e
    · exact (key n t hn e).step ht
theorem turn_none (hs : ∀ i, i ≠ d → us U' i = us U i) (hd : ∀ u ∈ us U' d, u = t ∨ u ∈ us U d) (h : ¬ (t = d ∨ Lead U t d)) (hA : Acy U) : Acy U' := by
  have hS : ∀ x, (x = t ∨ Lead U t x) → x ≠ d := fun x hx e => by
    subst e
    exact h (hx.imp (fun e => e.symm) id)
  have hc : ∀ x u, (x = t ∨ Lead U t x) → u ∈ us U x → (u = t ∨ Lead U t u) := fun x u hx hu => by
    rcases hx with rfl | hx
    · exact .inr (Lead.one hu)
    · exact .inr (hx.trans (Lead.one hu))
  have h1 : ∀ n a b, Ld U' n a b → (a = t ∨ Lead U t a) → Ld U n a b ∧ (b = t ∨ Lead U t b) := by
    intro n
    induction n with
    | zero =>
      intro a b hab ha
      have hab' : b ∈ us U' a := hab
      rw [hs a (hS a ha)] at hab'
      exact ⟨hab', hc a b ha hab'⟩
    | succ n ih =>
      intro a b hab ha
      obtain ⟨c, h3, h4⟩ := hab
      rw [hs a (hS a ha)] at h3
      obtain ⟨h5, h6⟩ := ih c b h4 (hc a c ha h3)
      exact ⟨⟨c, h3, h5⟩, h6⟩
  have he : ∀ a u, u ∈ us U' a → u ≠ t → u ∈ us U a := fun a u hu hne => by
    by_cases e : a = d
    · subst e; exact (hd u hu).resolve_left hne
    · rw [← hs a e]; exact hu
  have h2 : ∀ n a b, Ld U' n a b → ¬ (b = t ∨ Lead U t b) → Ld U n a b := by
    intro n
    induction n with
    | zero => intro a b hab hb; exact he a b hab (fun e => hb (.inl e))
    | succ n ih =>
      intro a b hab hb
      obtain ⟨c, h3, h4⟩ := hab
      have hcn : ¬ (c = t ∨ Lead U t c) := fun k => hb (h1 n c b h4 k).2
      exact ⟨c, he a c h3 (fun e => hcn (.inl e)), ih c b h4 hb⟩
  intro i ⟨n, hn⟩
  by_cases hi : i = t ∨ Lead U t i
  · exact hA i ⟨n, (h1 n i i hn hi).1⟩
  · exact hA i ⟨n, h2 n i i hn hi⟩
end
end Go.Proofs.Ytjeafblkmipdmaa
