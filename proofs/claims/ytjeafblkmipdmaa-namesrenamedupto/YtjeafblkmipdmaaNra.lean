/- Names: a source with other names, one to one; plain. -/
import Derived.Test.YtjeafblkmipdmaaYq
import Derived.Test.YtjeafblkmipdmaaYv
namespace Go.Proofs.Ytjeafblkmipdmaa
open Go.RowKit
set_option linter.unusedVariables false

def rnX (f g : ByteArray → ByteArray) (x : Nd) : Nd := { x with name := f x.name, label := g x.label }
def rnD (f g : ByteArray → ByteArray) (d : Df) : Df := ⟨f d.name, d.a, d.ty.map (rnX f g)⟩
/-- Other names, one to one. -/
structure Rnm (D : List Df) (f g : ByteArray → ByteArray) (PN PL : ByteArray → Prop) : Prop where
  inj : ∀ s t, PN s → PN t → f s = f t → s = t
  injL : ∀ s t, PL s → PL t → g s = g t → s = t
  dn : ∀ d ∈ D, PN d.name
  un : ∀ d ∈ D, ∀ x ∈ d.ty, x.k = 9 → PN x.name
  lb : ∀ d ∈ D, ∀ x ∈ d.ty, PL x.label
  nm : ∀ s, PN s → isName (f s) = true
  f0 : ∀ s : ByteArray, s.size = 0 → (f s).size = 0
  g0 : ∀ s : ByteArray, s.size = 0 → (g s).size = 0
  gn : ∀ s, PL s → isName s = true → isName (g s) = true
section
variable {f g : ByteArray → ByteArray} {PN PL : ByteArray → Prop}
theorem numN_r (inj : ∀ s t, PN s → PN t → f s = f t → s = t) : ∀ (D : List Df), (∀ d ∈ D, PN d.name) → ∀ s, PN s → numN (D.map (rnD f g)) (f s) = numN D s
  | [], _, s, _ => rfl
  | d :: D, hD, s, hs => by
    have ih := numN_r inj D (fun e he => hD e (by simp [he])) s hs
    unfold numN at ih ⊢
    rw [List.map_cons, List.findIdx?_cons, List.findIdx?_cons]
    have e0 : (rnD f g d).name = f d.name := rfl
    by_cases e : d.name = s
    · simp [e0, e]
    · have e2 : f d.name ≠ f s := fun h => e (inj _ _ (hD d (by simp)) hs h)
      simp [e0, e, e2, ih]
theorem par_r : ∀ (N : List Nd) (i : Nat) (st : List Int), par (N.map (rnX f g)) i st = par N i st
  | [], i, st => rfl
  | x :: N, i, st => by
    rw [List.map_cons, par, par, par_r N]
    rfl
theorem parP_r (N : List Nd) : parP (N.map (rnX f g)) = parP N := par_r N 0 _
def rnP (g : ByteArray → ByteArray) (q : Pt) : Pt := (q.1, g q.2.1, q.2.2)
theorem hasP_r (injL : ∀ s t, PL s → PL t → g s = g t → s = t) : ∀ (met : List Pt), (∀ q ∈ met, PL q.2.1) → ∀ (q : Pt), PL q.2.1 → hasP (met.map (rnP g)) (rnP g q) = hasP met q
  | [], _, q, _ => rfl
  | r :: met, hm, q, hq => by
    have ih := hasP_r injL met (fun e he => hm e (by simp [he])) q hq
    unfold hasP at ih ⊢
    rw [List.map_cons, List.any_cons, List.any_cons, ih]
    congr 1
    have : (rnP g r = rnP g q) ↔ r = q := by
      constructor
      · intro h
        obtain ⟨r1, r2, r3⟩ := r
        obtain ⟨q1, q2, q3⟩ := q
        simp only [rnP, Prod.mk.injEq] at h
        obtain ⟨h1, h2, h3⟩ := h
        have := injL _ _ (hm (r1, r2, r3) (by simp)) hq h2
        simp only at this
        rw [h1, this, h3]
      · intro h; rw [h]
    simp only [this]
theorem lkN_r {D D' : List Df} (injL : ∀ s t, PL s → PL t → g s = g t → s = t) (h : ∀ s, PN s → numN D' (f s) = numN D s) : ∀ (N : List Nd) (P : List Int) (met : List Pt), (∀ x ∈ N, PL x.label ∧ (x.k = 9 → PN x.name)) → (∀ q ∈ met, PL q.2.1) → lkN D' (N.map (rnX f g)) P (met.map (rnP g)) = lkN D N P met
  | [], P, met, _, _ => by cases P <;> rfl
  | x :: N, [], met, _, _ => rfl
  | x :: N, p :: P, met, hN, hm => by
    rw [List.map_cons, lkN, lkN]
    have hx := hN x (by simp)
    have e1 : hasP (met.map (rnP g)) (p, (rnX f g x).label, (rnX f g x).tag) = hasP met (p, x.label, x.tag) := hasP_r injL met hm (p, x.label, x.tag) hx.1
    have e2 : (rnX f g x).k = x.k := rfl
    have e3 : (rnX f g x).a = x.a := rfl
    have e4 : ((rnX f g x).k = 9 ∧ numN D' (rnX f g x).name = none) ↔ (x.k = 9 ∧ numN D x.name = none) := by
      rw [e2]
      refine and_congr_right (fun h9 => ?_)
      have : (rnX f g x).name = f x.name := rfl
      rw [this, h _ (hx.2 h9)]
    have e5 : (met.map (rnP g)) ++ [(p, (rnX f g x).label, (rnX f g x).tag)] = (met ++ [(p, x.label, x.tag)]).map (rnP g) := by rw [List.map_append]; rfl
    have ih := lkN_r injL h N P (met ++ [(p, x.label, x.tag)]) (fun y hy => hN y (by simp [hy])) (fun q hq => by
      rcases List.mem_append.1 hq with hq | hq
      · exact hm q hq
      · simp at hq; rw [hq]; exact hx.1)
    rw [e1, e3, e5, ih]
    simp only [e4]
theorem lkT_r {D D' : List Df} (injL : ∀ s t, PL s → PL t → g s = g t → s = t) (h : ∀ s, PN s → numN D' (f s) = numN D s) (N : List Nd) (hN : ∀ x ∈ N, PL x.label ∧ (x.k = 9 → PN x.name)) : lkT D' (N.map (rnX f g)) = lkT D N := by
  unfold lkT
  rw [parP_r]
  exact lkN_r injL h N _ [] hN (fun q hq => by cases hq)
theorem lkD_r {D0 D0' : List Df} (injL : ∀ s t, PL s → PL t → g s = g t → s = t) (h : ∀ s, PN s → numN D0' (f s) = numN D0 s) : ∀ (D : List Df) (i : Nat), (∀ d ∈ D, PN d.name ∧ ∀ x ∈ d.ty, PL x.label ∧ (x.k = 9 → PN x.name)) → lkD D0' (D.map (rnD f g)) i = lkD D0 D i
  | [], i, _ => rfl
  | d :: D, i, hD => by
    rw [List.map_cons, lkD, lkD]
    have e1 : (rnD f g d).name = f d.name := rfl
    have e2 : (rnD f g d).ty = d.ty.map (rnX f g) := rfl
    have e3 : (rnD f g d).a = d.a := rfl
    have hd := hD d (by simp)
    rw [e1, e2, e3, h _ hd.1, lkT_r injL h d.ty hd.2, lkD_r injL h D (i + 1) (fun e he => hD e (by simp [he]))]
theorem usT_r {D D' : List Df} (h : ∀ s, PN s → numN D' (f s) = numN D s) (N : List Nd) (hN : ∀ x ∈ N, x.k = 9 → PN x.name) : usT D' (N.map (rnX f g)) = usT D N := by
  unfold usT
  suffices H : ∀ (N : List Nd) (acc : List Nat), (∀ x ∈ N, x.k = 9 → PN x.name) → (N.map (rnX f g)).foldl (usAdd D') acc = N.foldl (usAdd D) acc from H N [] hN
  intro N
  induction N with
  | nil => intro acc _; rfl
  | cons x N ih =>
    intro acc hx
    rw [List.map_cons, List.foldl_cons, List.foldl_cons]
    have e : usAdd D' acc (rnX f g x) = usAdd D acc x := by
      unfold usAdd
      have e2 : (rnX f g x).k = x.k := rfl
      rw [e2]
      by_cases h9 : x.k = 9
      · have e3 : numZ D' (rnX f g x).name = numZ D x.name := by
          unfold numZ
          have : (rnX f g x).name = f x.name := rfl
          rw [this, h _ (hx x (by simp) h9)]
        rw [if_pos h9, if_pos h9, e3]
      · rw [if_neg h9, if_neg h9]
    rw [e]
    exact ih _ (fun y hy => hx y (by simp [hy]))
theorem hgL_r {u v : ByteArray → Int} (N : List Nd) (h : ∀ x ∈ N, x.k = 9 → u (f x.name) = v x.name) (P : List Int) : ∀ (i : Nat) (ds : List Int), i ≤ N.length → hgL u (N.map (rnX f g)) P i ds = hgL v N P i ds
  | 0, ds, _ => rfl
  | i + 1, ds, hi => by
    rw [hgL, hgL]
    have hx : N[i]? = some (N[i]'(by omega)) := List.getElem?_eq_getElem _
    have e : (N.map (rnX f g)).getD i nd0 = rnX f g (N[i]'(by omega)) := by simp [List.getD, hx]
    have e1 : N.getD i nd0 = N[i]'(by omega) := by simp [List.getD, hx]
    have e2 : hgS u (rnX f g (N[i]'(by omega))) (P.getD i 0) i ds = hgS v (N[i]'(by omega)) (P.getD i 0) i ds := by
      unfold hgS
      have e3 : (rnX f g (N[i]'(by omega))).k = (N[i]'(by omega)).k := rfl
      have e4 : (rnX f g (N[i]'(by omega))).name = f (N[i]'(by omega)).name := rfl
      rw [e3, e4]
      by_cases h9 : (N[i]'(by omega)).k = 9
      · rw [h _ (List.getElem_mem _) h9]
      · simp only [if_neg h9]
    rw [e, e1, e2]
    exact hgL_r N h P i _ (by omega)
theorem hgt_r {u v : ByteArray → Int} (N : List Nd) (h : ∀ x ∈ N, x.k = 9 → u (f x.name) = v x.name) : hgt u (N.map (rnX f g)) = hgt v N := by
  unfold hgt
  rw [parP_r, List.length_map, hgL_r N h _ _ _ (Nat.le_refl _)]
theorem ndE_r {x : Nd} {of : Int} {dp : Nat} (h : ndE x of dp = 0) (f0 : ∀ s : ByteArray, s.size = 0 → (f s).size = 0) (g0 : ∀ s : ByteArray, s.size = 0 → (g s).size = 0) (hn : x.k = 9 → isName (f x.name) = true) (hg : isName x.label = true → isName (g x.label) = true) : ndE (rnX f g x) of dp = 0 := by
  unfold ndE nodeE at h ⊢
  show (if 16 < dp then _ else if (x.k = 8 ∨ x.k = 7) ∧ 64 < x.kids then _ else if kindOk x.k x.n x.kids = false ∨ nameOk (f x.name) (decide (x.k = 9)) = false ∨ nameOk (g x.label) (decide (of = 8)) = false then _ else if x.tag ≠ 0 ∧ (of ≠ 7 ∨ numB x.tag = false) then _ else _) = _
  by_cases h1 : 16 < dp
  · rw [if_pos h1] at h; omega
  rw [if_neg h1] at h ⊢
  by_cases h2 : (x.k = 8 ∨ x.k = 7) ∧ 64 < x.kids
  · rw [if_pos h2] at h; omega
  rw [if_neg h2] at h ⊢
  by_cases h3 : kindOk x.k x.n x.kids = false ∨ nameOk x.name (decide (x.k = 9)) = false ∨ nameOk x.label (decide (of = 8)) = false
  · rw [if_pos h3] at h; omega
  rw [if_neg h3] at h
  have k1 : nameOk (f x.name) (decide (x.k = 9)) = true := by
    have h4 : nameOk x.name (decide (x.k = 9)) = true := by
      cases e : nameOk x.name (decide (x.k = 9)) with
      | false => exact absurd (.inr (.inl e)) h3
      | true => rfl
    unfold nameOk at h4 ⊢
    by_cases h9 : x.k = 9
    · rw [decide_eq_true h9]; exact hn h9
    · rw [decide_eq_false h9] at h4 ⊢
      exact decide_eq_true (f0 _ (of_decide_eq_true h4))
  have k2 : nameOk (g x.label) (decide (of = 8)) = true := by
    have h4 : nameOk x.label (decide (of = 8)) = true := by
      cases e : nameOk x.label (decide (of = 8)) with
      | false => exact absurd (.inr (.inr e)) h3
      | true => rfl
    unfold nameOk at h4 ⊢
    by_cases h9 : of = 8
    · rw [decide_eq_true h9] at h4 ⊢; exact hg h4
    · rw [decide_eq_false h9] at h4 ⊢
      exact decide_eq_true (g0 _ (of_decide_eq_true h4))
  rw [if_neg (fun hh => by
    rcases hh with hh | hh | hh
    · exact h3 (.inl hh)
    · rw [k1] at hh; cases hh
    · rw [k2] at hh; cases hh)]
  exact h
theorem ct_r (f0 : ∀ s : ByteArray, s.size = 0 → (f s).size = 0) (g0 : ∀ s : ByteArray, s.size = 0 → (g s).size = 0) : ∀ (N : List Nd) (i : Nat) (L : List (Int × Int)), (∀ x ∈ N, (x.k = 9 → isName (f x.name) = true) ∧ (isName x.label = true → isName (g x.label) = true)) → (ct N i L).2 = 0 → (ct (N.map (rnX f g)) i L).2 = 0
  | [], i, L, _, h => h
  | x :: N, i, L, hN, h => by
    rw [List.map_cons]
    unfold ct at h ⊢
    by_cases h0 : ctE L x = 0
    · rw [if_pos h0] at h
      have h1 : ctE L (rnX f g x) = 0 := by
        unfold ctE at h0 ⊢
        cases hL : L.getLast? with
        | none => rw [hL] at h0; exact h0
        | some p => rw [hL] at h0; exact ndE_r h0 f0 g0 (hN x (by simp)).1 (hN x (by simp)).2
      have h2 : ctS L (rnX f g x) = ctS L x := rfl
      rw [if_pos h1, h2]
      exact ct_r f0 g0 N (i + 1) _ (fun y hy => hN y (by simp [hy])) h
    · rw [if_neg h0] at h
      exact absurd h h0
end
/-- With other names, one to one, all answers are the same. -/
theorem Rnm.look {D : List Df} {f g : ByteArray → ByteArray} {PN PL : ByteArray → Prop} (R : Rnm D f g PN PL) {E A : Int} {o : List Nat} {ds : List Int} (h : LookTo D E A o ds) (hck : (ckP D).2.2 = 0) : LookTo (D.map (rnD f g)) E A o ds := by
  have hnum : ∀ s, PN s → numN (D.map (rnD f g)) (f s) = numN D s := fun s hs => numN_r R.inj D R.dn s hs
  have hDx : ∀ d ∈ D, PN d.name ∧ ∀ x ∈ d.ty, PL x.label ∧ (x.k = 9 → PN x.name) := fun d hd => ⟨R.dn d hd, fun x hx => ⟨R.lb d hd x hx, R.un d hd x hx⟩⟩
  have hck' : (ckP (D.map (rnD f g))).2.2 = 0 := by
    rw [ckP_iff] at hck ⊢
    refine ⟨by rw [List.length_map]; exact hck.1, fun d' hd' => ?_⟩
    obtain ⟨d, hd, rfl⟩ := List.mem_map.1 hd'
    refine ⟨R.nm _ (R.dn d hd), ct_r R.f0 R.g0 d.ty 0 _ (fun x hx => ⟨fun h9 => R.nm _ (R.un d hd x hx h9), fun hl => R.gn _ (R.lb d hd x hx) hl⟩) (hck.2 d hd).2⟩
  have hlk : lkD (D.map (rnD f g)) (D.map (rnD f g)) 0 = lkD D D 0 := lkD_r R.injL hnum D 0 hDx
  have hus : usD (D.map (rnD f g)) = usD D := by
    unfold usD
    rw [List.map_map]
    refine List.map_congr_left (fun d hd => ?_)
    exact usT_r hnum d.ty (R.un d hd)
  have hdep : ∀ qs, DepR D qs → DepR (D.map (rnD f g)) qs := fun qs hq => by
    refine ⟨by rw [List.length_map]; exact hq.1, fun i d' hd' => ?_⟩
    rw [List.getElem?_map, Option.map_eq_some_iff] at hd'
    obtain ⟨d, hd, rfl⟩ := hd'
    rw [hq.2 i d hd]
    have hm := List.mem_of_getElem? hd
    exact (hgt_r d.ty (fun x hx h9 => by unfold depF numZ; rw [hnum _ (R.un d hm x hx h9)])).symm
  have hat : ∀ {i : Nat} {d : Df}, D[i]? = some d → (D.map (rnD f g))[i]? = some (rnD f g d) := fun hd => by rw [List.getElem?_map, hd]; rfl
  unfold LookTo at h ⊢
  rw [if_pos hck] at h
  rw [if_pos hck', hlk, hus, List.length_map]
  by_cases h2 : (lkD D D 0).1 = 0
  · rw [if_pos h2] at h ⊢
    rcases h with ⟨i, d, hd, k1, k2, k3, k4, k5⟩ | ⟨hA, p, qs, e1, e2, e3, ⟨i, d, hd, k1, k2, k3, k4, k5⟩ | k⟩
    · exact .inl ⟨i, _, hat hd, k1, k2, k3, k4, k5⟩
    · exact .inr ⟨hA, p, qs, e1, e2, hdep _ e3, .inl ⟨i, _, hat hd, k1, k2, k3, k4, k5⟩⟩
    · exact .inr ⟨hA, p, qs, e1, e2, hdep _ e3, .inr k⟩
  · rw [if_neg h2] at h ⊢
    exact h
end Go.Proofs.Ytjeafblkmipdmaa
