import Derived.Test.YtlbgdgobhiokpaaDoorPart13

/- A value's nodes, added in some order: plain. -/
namespace Go.Proofs.YtlbgdgobhiokpaaDoor
open Go.RowKit
set_option linter.unusedVariables false

theorem nodup_at {l : List Nat} (h : l.Nodup) {x y : Nat} (hx : x < l.length) (hy : y < l.length) (e : l.getD x 0 = l.getD y 0) : x = y := by
  rw [List.getD_eq_getElem?_getD, List.getD_eq_getElem?_getD, List.getElem?_eq_getElem hx, List.getElem?_eq_getElem hy] at e
  simp only [Option.getD_some] at e
  have h' := List.pairwise_iff_getElem.1 h
  rcases Nat.lt_trichotomy x y with hlt | heq | hgt
  · exact absurd e (h' x y hx hy hlt)
  · exact heq
  · exact absurd e.symm (h' y x hy hx hgt)
theorem mem_at {l : List Nat} {i : Nat} : i ∈ l ↔ ∃ x, x < l.length ∧ l.getD x 0 = i := by
  constructor
  · intro h
    obtain ⟨x, hx, e⟩ := List.mem_iff_getElem.1 h
    exact ⟨x, hx, by rw [List.getD_eq_getElem?_getD, List.getElem?_eq_getElem hx]; exact e⟩
  · rintro ⟨x, hx, e⟩
    rw [List.getD_eq_getElem?_getD, List.getElem?_eq_getElem hx] at e
    exact e ▸ List.getElem_mem hx
theorem sub_len : ∀ {l r : List Nat}, l.Nodup → (∀ x ∈ l, x ∈ r) → l.length ≤ r.length
  | [], r, _, _ => Nat.zero_le _
  | a :: l, r, hn, hs => by
    have h1 : a ∈ r := hs a (by simp)
    rw [List.nodup_cons] at hn
    have h2 : l.length ≤ (r.erase a).length := sub_len hn.2 fun x hx => (List.mem_erase_of_ne (fun e : x = a => hn.1 (e ▸ hx))).2 (hs x (by simp [hx]))
    rw [List.length_erase_of_mem h1] at h2
    have := List.length_pos_of_mem h1
    simp only [List.length_cons]
    omega
theorem getD_snocN (l : List Nat) (e i : Nat) : (l ++ [e]).getD i 0 = if i = l.length then e else l.getD i 0 := by
  simp only [List.getD_eq_getElem?_getD]
  by_cases h : i = l.length
  · subst h; simp
  · rw [if_neg h]
    by_cases h2 : i < l.length
    · rw [List.getElem?_append_left h2]
    · rw [List.getElem?_append_right (by omega), List.getElem?_eq_none (by simp; omega), List.getElem?_eq_none (by omega)]
structure Ords (M : List Nd) (ord O : List Nat) (N : List Nd) (S G : Stk) : Prop where
  inv : Inv N S G
  nl : N.length = ord.length
  nod : ord.Nodup
  lt : ∀ i ∈ ord, i < M.length
  z : 0 < ord.length → ord.getD 0 0 = 0
  nd : ∀ x, x < ord.length → (N.getD x nil0).1 = (M.getD (ord.getD x 0) nil0).1 ∧ (N.getD x nil0).2.1 = (M.getD (ord.getD x 0) nil0).2.1
  sp : ∀ x, 1 ≤ x → x < ord.length → ∃ p k y, IsKid M (ord.getD x 0) p k ∧ y < ord.length ∧ ord.getD y 0 = p ∧ S.getD x (0, 0) = ((y : Int), (k : Int))
  on : O.Nodup
  om : ∀ i, i ∈ O ↔ i < M.length ∧ i ∉ ord ∧ (i = 0 ∨ ∃ p k, p ∈ ord ∧ IsKid M i p k)
theorem Ords.begin {M : List Nd} (hM : (chk 1 0 M).1 = 0) : Ords M [] [0] [] [] [] := by
  refine ⟨Inv.empty, rfl, List.nodup_nil, by simp, by simp, by simp, by simp, by simp, fun i => ?_⟩
  simp only [List.mem_singleton, List.not_mem_nil, not_false_eq_true, true_and, false_and, exists_false, or_false]
  constructor
  · rintro rfl; exact ⟨ok_pos hM, rfl⟩
  · exact fun h => h.2
section
variable {M N : List Nd} {ord O : List Nat} {S G : Stk}
theorem Ords.len (h : Ords M ord O N S G) : ord.length ≤ M.length := by
  have := sub_len h.nod (r := List.range M.length) (fun x hx => List.mem_range.2 (h.lt x hx))
  simpa using this
/-- Some node can be added. -/
theorem Ords.some (h : Ords M ord O N S G) (hM : (chk 1 0 M).1 = 0) (hl : ord.length < M.length) : 0 < O.length := by
  have hx : ∃ i, i < M.length ∧ i ∉ ord := by
    apply Classical.byContradiction
    intro hno
    have h1 : ∀ x ∈ List.range M.length, x ∈ ord := fun x hx => Classical.byContradiction fun hn => hno ⟨x, List.mem_range.1 hx, hn⟩
    have := sub_len List.nodup_range h1
    simp at this
    omega
  have least : ∀ n i, i ≤ n → i < M.length → i ∉ ord → ∃ j, j ∈ O := by
    intro n
    induction n with
    | zero =>
      intro i hi h1 h2
      exact ⟨i, (h.om i).2 ⟨h1, h2, .inl (by omega)⟩⟩
    | succ n ih =>
      intro i hi h1 h2
      by_cases h0 : i = 0
      · exact ⟨i, (h.om i).2 ⟨h1, h2, .inl h0⟩⟩
      · obtain ⟨p, k, hk⟩ := isKid_ex hM (by omega) h1
        by_cases hp : p ∈ ord
        · exact ⟨i, (h.om i).2 ⟨h1, h2, .inr ⟨p, k, hp, hk⟩⟩⟩
        · exact ih p (by have := hk.lt; omega) hk.1 hp
  obtain ⟨i, h1, h2⟩ := hx
  obtain ⟨j, hj⟩ := least i i (Nat.le_refl _) h1 h2
  exact List.length_pos_of_mem hj
theorem addN1_len (N : List Nd) (G : Stk) (p k kind n : Int) : (addN1 N G p k kind n).length = N.length + 1 := by
  unfold addN1
  split
  · rename_i h; simp [h]
  · split
    · simp
    · rw [setK_len]; simp
theorem addN1_nd (N : List Nd) (G : Stk) (p k kind n : Int) (x : Nat) (hx : x < N.length + 1) : ((addN1 N G p k kind n).getD x nil0).1 = (if x = N.length then kind else (N.getD x nil0).1) ∧ ((addN1 N G p k kind n).getD x nil0).2.1 = (if x = N.length then n else (N.getD x nil0).2.1) := by
  have hsn : ((N ++ [(kind, n, 0)]).getD x nil0).1 = (if x = N.length then kind else (N.getD x nil0).1) ∧ ((N ++ [(kind, n, 0)]).getD x nil0).2.1 = (if x = N.length then n else (N.getD x nil0).2.1) := by
    rw [getD_snoc]
    split <;> exact ⟨rfl, rfl⟩
  unfold addN1
  split
  · rename_i h
    obtain rfl := List.length_eq_zero_iff.1 h
    exact hsn
  · split
    · exact hsn
    · by_cases e : x = p.toNat
      · subst e
        rw [setK_at _ _ _ (by simpa using hx)]
        exact hsn
      · rw [setK_other _ _ _ _ e]
        exact hsn
theorem Ords.add (h : Ords M ord O N S G) (hM : (chk 1 0 M).1 = 0) {kk i : Nat} (hk : kk < O.length) (hi : O.getD kk 0 = i) {P k : Int} {nk : List Nat} (hz : i = 0 → P = -1) (hpk : 0 < i → ∃ p q y, IsKid M i p q ∧ y < ord.length ∧ ord.getD y 0 = p ∧ P = y ∧ k = q)
    (hn1 : nk.Nodup) (hn2 : ∀ j, j ∈ nk ↔ ∃ q, IsKid M j i q) :
    addGE N G P k (M.getD i nil0).1 (M.getD i nil0).2.1 = 0 ∧ Ords M (ord ++ [i]) ((O.take kk ++ O.drop (kk + 1)) ++ nk) (addN1 N G P k (M.getD i nil0).1 (M.getD i nil0).2.1) (S ++ [(P, k)]) (addG1 N G P k) := by
  have hiO : i ∈ O := mem_at.2 ⟨kk, hk, hi⟩
  obtain ⟨hiM, hio, hcase⟩ := (h.om i).1 hiO
  have hright := (chk_enough M 1 0 hM).2.2 (M.getD i nil0) (by rw [List.getD_eq_getElem?_getD, List.getElem?_eq_getElem hiM]; exact List.getElem_mem hiM)
  obtain ⟨hr1, hr2, _, _⟩ := (right_iff _).1 hright
  have h0 : i = 0 ↔ ord.length = 0 := by
    constructor
    · rintro rfl
      rcases Nat.eq_zero_or_pos ord.length with e | e
      · exact e
      · exact absurd (mem_at.2 ⟨0, e, h.z e⟩) hio
    · intro e
      rcases hcase with e' | ⟨p, q, hp, _⟩
      · exact e'
      · obtain rfl := List.length_eq_zero_iff.1 e
        simp at hp
  have href : refuseG N G P k = 0 := by
    by_cases e : i = 0
    · rw [refuseG, if_pos (by rw [h.nl]; exact h0.1 e), if_pos (hz e)]
    · obtain ⟨p, q, y, hK, hy, hyp, rfl, rfl⟩ := hpk (by omega)
      have hyN : y < N.length := by rw [h.nl]; exact hy
      have hkind : (N.getD y nil0).1 = (M.getD p nil0).1 := by rw [(h.nd y hy).1, hyp]
      have hright2 := (chk_enough M 1 0 hM).2.2 (M.getD p nil0) (by rw [List.getD_eq_getElem?_getD, List.getElem?_eq_getElem hK.1]; exact List.getElem_mem hK.1)
      have hmk := ((right_iff _).1 hright2).2.2.2
      have hkc := kN_cast hM hK.1
      have hq := hK.2.1
      have hno : ¬ (((y : Int), (q : Int)) ∈ G ∨ (q : Int) < (N.getD y nil0).2.2) := fun hx => by
        obtain ⟨x, h1, h2, h3⟩ := (h.inv.taken hyN).1 hx
        obtain ⟨p2, k2, y2, h4, h5, h6, h7⟩ := h.sp x h1 (by rw [← h.nl]; exact h2)
        rw [h3] at h7
        obtain rfl : y = y2 := by have := (Prod.mk.inj h7).1; omega
        obtain rfl : q = k2 := by have := (Prod.mk.inj h7).2; omega
        rw [hyp] at h6
        subst h6
        have h8 : ord.getD x 0 = i := by rw [← h4.2.2, hK.2.2]
        exact hio (mem_at.2 ⟨x, by rw [← h.nl]; exact h2, h8⟩)
      rw [refuseG, if_neg (by omega), if_neg (by omega), Int.toNat_natCast, hkind, if_neg (by omega), if_neg]
      intro hx
      exact hno (hx.imp (fun h' => by simpa using h') id)
  refine ⟨by rw [addGE, if_pos ⟨by simpa [isK] using hr1, hr2⟩]; exact href, ?_⟩
  have hgo : ∀ x, x < ord.length → (ord ++ [i]).getD x 0 = ord.getD x 0 := fun x hx => by rw [getD_snocN, if_neg (by omega)]
  have hgn : (ord ++ [i]).getD ord.length 0 = i := by rw [getD_snocN, if_pos rfl]
  have hOe : O = O.take kk ++ i :: O.drop (kk + 1) := by
    conv => lhs; rw [← List.take_append_drop kk O]
    congr 1
    rw [List.drop_eq_getElem_cons hk]
    congr 1
    rw [List.getD_eq_getElem?_getD, List.getElem?_eq_getElem hk] at hi
    exact hi
  have hOn := h.on
  rw [hOe] at hOn
  have hOn2 : (O.take kk ++ O.drop (kk + 1)).Nodup ∧ i ∉ O.take kk ++ O.drop (kk + 1) := by
    rw [List.nodup_append] at hOn
    obtain ⟨n1, n2, n3⟩ := hOn
    rw [List.nodup_cons] at n2
    refine ⟨List.nodup_append.2 ⟨n1, n2.2, fun a ha b hb => n3 a ha b (List.mem_cons_of_mem _ hb)⟩, fun hx => ?_⟩
    rcases List.mem_append.1 hx with h' | h'
    · exact n3 i h' i (by simp) rfl
    · exact n2.1 h'
  have hOm : ∀ j, j ∈ O.take kk ++ O.drop (kk + 1) ↔ j ∈ O ∧ j ≠ i := fun j => by
    constructor
    · intro hj
      refine ⟨?_, fun e => hOn2.2 (e ▸ hj)⟩
      rw [hOe]
      rcases List.mem_append.1 hj with h' | h'
      · exact List.mem_append.2 (.inl h')
      · exact List.mem_append.2 (.inr (List.mem_cons_of_mem _ h'))
    · rintro ⟨hj, hne⟩
      rw [hOe] at hj
      rcases List.mem_append.1 hj with h' | h'
      · exact List.mem_append.2 (.inl h')
      · rcases List.mem_cons.1 h' with h2 | h2
        · exact absurd h2 hne
        · exact List.mem_append.2 (.inr h2)
  have hSx : ∀ x, x < N.length → (S ++ [(P, k)]).getD x (0, 0) = S.getD x (0, 0) := fun x hx => by rw [getD_snocS, if_neg (by rw [h.inv.len]; omega)]
  have hSn : (S ++ [(P, k)]).getD N.length (0, 0) = (P, k) := by rw [getD_snocS, if_pos h.inv.len.symm]
  refine ⟨h.inv.add _ _ href, by rw [addN1_len, h.nl]; simp, ?_, ?_, ?_, ?_, ?_, ?_, ?_⟩
  · rw [List.nodup_append]
    refine ⟨h.nod, by simp, fun a ha b hb => ?_⟩
    simp at hb
    subst hb
    rintro rfl
    exact hio ha
  · intro j hj
    rcases List.mem_append.1 hj with h' | h'
    · exact h.lt j h'
    · obtain rfl := List.mem_singleton.1 h'
      exact hiM
  · intro _
    by_cases e : ord.length = 0
    · have hi0 := h0.2 e
      obtain rfl := List.length_eq_zero_iff.1 e
      exact hi0
    · rw [hgo 0 (by omega)]
      exact h.z (by omega)
  · intro x hx
    have hx' : x < ord.length + 1 := by simpa using hx
    obtain ⟨a1, a2⟩ := addN1_nd N G P k (M.getD i nil0).1 (M.getD i nil0).2.1 x (by rw [h.nl]; exact hx')
    rw [a1, a2, h.nl]
    by_cases e : x = ord.length
    · rw [if_pos e, if_pos e, e, hgn]
      exact ⟨rfl, rfl⟩
    · rw [if_neg e, if_neg e, hgo x (by omega)]
      exact h.nd x (by omega)
  · intro x h1 hx
    have hx' : x < ord.length + 1 := by simpa using hx
    by_cases e : x = ord.length
    · have hi0 : 0 < i := by
        rcases Nat.eq_zero_or_pos i with e0 | e0
        · have := h0.1 e0; omega
        · exact e0
      obtain ⟨p, q, y, hK, hy, hyp, e1, e2⟩ := hpk hi0
      refine ⟨p, q, y, ?_, by simp; omega, by rw [hgo y hy]; exact hyp, ?_⟩
      · rw [e, hgn]; exact hK
      · rw [e, ← h.nl, hSn, e1, e2]
    · obtain ⟨p, q, y, h2, h3, h4, h5⟩ := h.sp x h1 (by omega)
      refine ⟨p, q, y, ?_, by simp; omega, by rw [hgo y h3]; exact h4, ?_⟩
      · rw [hgo x (by omega)]; exact h2
      · rw [hSx x (by rw [h.nl]; omega)]; exact h5
  · rw [List.nodup_append]
    refine ⟨hOn2.1, hn1, fun a ha b hb => ?_⟩
    rintro rfl
    obtain ⟨h1, h2⟩ := (hOm a).1 ha
    obtain ⟨q, h3⟩ := (hn2 a).1 hb
    rcases ((h.om a).1 h1).2.2 with e | ⟨p, q', h4, h5⟩
    · have := h3.lt
      omega
    · obtain ⟨rfl, _⟩ := isKid_one hM h3 h5
      exact hio h4
  · intro j
    rw [List.mem_append, hOm, hn2, h.om]
    constructor
    · rintro (⟨⟨h1, h2, h3⟩, h4⟩ | ⟨q, h1⟩)
      · refine ⟨h1, fun hx => ?_, h3.imp id fun ⟨p, q, h5, h6⟩ => ⟨p, q, List.mem_append.2 (.inl h5), h6⟩⟩
        rcases List.mem_append.1 hx with h' | h'
        · exact h2 h'
        · exact h4 (List.mem_singleton.1 h')
      · refine ⟨h1.in hM, fun hx => ?_, .inr ⟨i, q, by simp, h1⟩⟩
        rcases List.mem_append.1 hx with h' | h'
        · -- a kid of i that was added ahead of i
          obtain ⟨x, hx1, hx2⟩ := mem_at.1 h'
          rcases Nat.eq_zero_or_pos x with e | e
          · rw [e, h.z (by omega)] at hx2
            have := h1.lt
            omega
          · obtain ⟨p2, k2, y2, h4, h5, h6, _⟩ := h.sp x e hx1
            rw [hx2] at h4
            obtain ⟨rfl, _⟩ := isKid_one hM h4 h1
            exact hio (mem_at.2 ⟨y2, h5, h6⟩)
        · have := h1.lt
          have := List.mem_singleton.1 h'
          omega
    · rintro ⟨h1, h2, h3⟩
      have h4 : j ≠ i := fun e => h2 (by rw [e]; simp)
      have h5 : j ∉ ord := fun hx => h2 (List.mem_append.2 (.inl hx))
      rcases h3 with e | ⟨p, q, h6, h7⟩
      · exact .inl ⟨⟨h1, h5, .inl e⟩, h4⟩
      · rcases List.mem_append.1 h6 with h8 | h8
        · exact .inl ⟨⟨h1, h5, .inr ⟨p, q, h8, h7⟩⟩, h4⟩
        · obtain rfl := List.mem_singleton.1 h8
          exact .inr ⟨q, h7⟩
theorem Ords.fin (h : Ords M ord O N S G) (hM : (chk 1 0 M).1 = 0) (hl : ord.length = M.length) :
    G = [] ∧ wholeB N G = true ∧ N.length = M.length ∧ vOf N (chS N S) 0 = M := by
  have hall : ∀ i, i < M.length → i ∈ ord := by
    intro i hi
    apply Classical.byContradiction
    intro hn
    have h1 : (i :: ord).Nodup := List.nodup_cons.2 ⟨hn, h.nod⟩
    have h2 := sub_len h1 (r := List.range M.length) (fun x hx => by
      rcases List.mem_cons.1 hx with e | e
      · rw [e]; exact List.mem_range.2 hi
      · exact List.mem_range.2 (h.lt x e))
    simp at h2
    omega
  have hkids : ∀ x, x < ord.length → (N.getD x nil0).2.2 = (M.getD (ord.getD x 0) nil0).2.2 := by
    intro x hx
    have hxM : ord.getD x 0 < M.length := h.lt _ (mem_at.2 ⟨x, hx, rfl⟩)
    have hxN : x < N.length := by rw [h.nl]; exact hx
    have hc := kN_cast hM hxM
    have hp := h.inv.pos x hxN
    rcases Int.lt_trichotomy (N.getD x nil0).2.2 (M.getD (ord.getD x 0) nil0).2.2 with hlt | heq | hgt
    · obtain ⟨c, hcc⟩ := Int.eq_ofNat_of_zero_le hp
      have hK : IsKid M (kp M (ord.getD x 0) c) (ord.getD x 0) c := ⟨hxM, by omega, rfl⟩
      obtain ⟨y, hy, hye⟩ := mem_at.1 (hall _ (hK.in hM))
      rcases Nat.eq_zero_or_pos y with e | e
      · rw [e, h.z (by omega)] at hye
        have := hK.lt
        omega
      · obtain ⟨p2, k2, y2, h4, h5, h6, h7⟩ := h.sp y e hy
        rw [hye] at h4
        obtain ⟨rfl, rfl⟩ := isKid_one hM h4 hK
        obtain rfl := nodup_at h.nod h5 hx h6
        exact absurd (by rw [h7, hcc]) (h.inv.miss y2 hxN y e (by rw [h.nl]; exact hy))
    · exact heq
    · obtain ⟨c, hcc⟩ := Int.eq_ofNat_of_zero_le (kids_pos hM hxM)
      obtain ⟨y, h1, h2, h3⟩ := h.inv.full x hxN c (by omega)
      obtain ⟨p2, k2, y2, h4, h5, h6, h7⟩ := h.sp y h1 (by rw [← h.nl]; exact h2)
      rw [h3] at h7
      obtain rfl : x = y2 := by have := (Prod.mk.inj h7).1; omega
      obtain rfl : c = k2 := by have := (Prod.mk.inj h7).2; omega
      subst h6
      have := h4.2.1
      omega
  have hnode : ∀ x, x < ord.length → N.getD x nil0 = M.getD (ord.getD x 0) nil0 := fun x hx => by
    obtain ⟨a1, a2⟩ := h.nd x hx
    have a3 := hkids x hx
    exact Prod.ext a1 (Prod.ext a2 a3)
  have hG : G = [] := by
    cases hg : G with
    | nil => rfl
    | cons e G' =>
      obtain ⟨i, h1, h2, h3, p, h4, h5⟩ := (h.inv.gap e).1 (by rw [hg]; simp)
      obtain ⟨p2, k2, y2, k4, k5, k6, k7⟩ := h.sp i h1 (by rw [← h.nl]; exact h2)
      rw [h3] at k7
      rw [k7] at h4 h5
      obtain rfl : y2 = p := by have h4' : (y2 : Int) = p := h4; omega
      have h5' : (N.getD y2 nil0).2.2 < (k2 : Int) := h5
      rw [hkids y2 k5, k6] at h5'
      have := kN_cast hM k4.1
      have := k4.2.1
      omega
  have hR : N.all right = true := all_of fun j hj => by
    rw [hnode j (by rw [← h.nl]; exact hj)]
    have hjM := h.lt _ (mem_at.2 ⟨j, by rw [← h.nl]; exact hj, rfl⟩)
    exact (chk_enough M 1 0 hM).2.2 _ (by rw [List.getD_eq_getElem?_getD, List.getElem?_eq_getElem hjM]; exact List.getElem_mem hjM)
  have hM0 := ok_pos hM
  have hNl : N.length = M.length := by rw [h.nl, hl]
  refine ⟨hG, by rw [wholeB, hR, hG]; simp; omega, hNl, ?_⟩
  have hK := h.inv.kids
  have hv : ∀ f x, x < ord.length → ord.length ≤ x + f → vOf N (chS N S) x = sub M (ord.getD x 0) := by
    intro f
    induction f with
    | zero => intro x h1 h2; omega
    | succ f ih =>
      intro x hx hf
      have hxN : x < N.length := by rw [h.nl]; exact hx
      have hxM : ord.getD x 0 < M.length := h.lt _ (mem_at.2 ⟨x, hx, rfl⟩)
      rw [vOf_step hK hxN, sub_step hM hxM, hnode x hx]
      congr 1
      rw [List.flatMap_def, List.flatMap_def]
      congr 1
      apply List.map_congr_left
      intro k hk
      have hk' := List.mem_range.1 hk
      obtain ⟨h1, h2, h3⟩ := hK x hxN k (by rw [hnode x hx]; exact hk')
      have h2' : chS N S x k < ord.length := by rw [← h.nl]; exact h2
      rw [ih _ h2' (by omega)]
      obtain ⟨p2, k2, y2, k4, k5, k6, k7⟩ := h.sp _ (by omega) h2'
      rw [h3] at k7
      obtain rfl : x = y2 := by have := (Prod.mk.inj k7).1; omega
      obtain rfl : k = k2 := by have := (Prod.mk.inj k7).2; omega
      subst k6
      rw [k4.2.2]
  rw [hv ord.length 0 (by omega) (by omega), h.z (by omega), sub_root hM]
end
end Go.Proofs.YtlbgdgobhiokpaaDoor

/- The document's arena, plain: its nodes as they came; kids, what is reached, what is told. -/
namespace Go.Proofs.YtlbgdgobhiokpaaDoor
open Go.RowKit
set_option linter.unusedVariables false

/-- Kind, number, parent, which kid. -/
abbrev Md := Int × Int × Int × Int
def md0 : Md := (0, 0, 0, 0)
def mpar (R : List Md) (i : Nat) : Int := (R.getD i md0).2.2.1
def mkid (R : List Md) (i : Nat) : Int := (R.getD i md0).2.2.2
/-- The first from i on, of so many, that is that kid; -1: none is. -/
def kidG (R : List Md) (p k : Int) : Nat → Nat → Int
  | 0, _ => -1
  | f + 1, i => if mpar R i = p ∧ mkid R i = k then (i : Int) else kidG R p k f (i + 1)
def kidD (R : List Md) (p k : Int) : Int := kidG R p k (R.length - 1) 1
def cntG (R : List Md) (p : Int) : Nat → Nat → Nat
  | 0, _ => 0
  | f + 1, i => (if mpar R i = p then 1 else 0) + cntG R p f (i + 1)
def cntD (R : List Md) (p : Int) : Nat := cntG R p (R.length - 1) 1
theorem kidG_is (R : List Md) (p k : Int) : ∀ (f i : Nat), (kidG R p k f i = -1 ∧ ∀ j, i ≤ j → j < i + f → ¬ (mpar R j = p ∧ mkid R j = k)) ∨ ∃ j : Nat, kidG R p k f i = (j : Int) ∧ i ≤ j ∧ j < i + f ∧ mpar R j = p ∧ mkid R j = k
  | 0, i => .inl ⟨rfl, fun j h1 h2 => by omega⟩
  | f + 1, i => by
    unfold kidG
    by_cases h : mpar R i = p ∧ mkid R i = k
    · rw [if_pos h]
      exact .inr ⟨i, rfl, Nat.le_refl _, by omega, h.1, h.2⟩
    · rw [if_neg h]
      rcases kidG_is R p k f (i + 1) with ⟨h1, h2⟩ | ⟨j, h1, h2, h3, h4⟩
      · refine .inl ⟨h1, fun j h3 h4 => ?_⟩
        by_cases e : j = i
        · subst e; exact h
        · exact h2 j (by omega) (by omega)
      · exact .inr ⟨j, h1, by omega, by omega, h4⟩
theorem kidD_is (R : List Md) (p k : Int) : (kidD R p k = -1 ∧ ∀ j, 1 ≤ j → j < R.length → ¬ (mpar R j = p ∧ mkid R j = k)) ∨ ∃ j : Nat, kidD R p k = (j : Int) ∧ 1 ≤ j ∧ j < R.length ∧ mpar R j = p ∧ mkid R j = k := by
  rcases kidG_is R p k (R.length - 1) 1 with ⟨h1, h2⟩ | ⟨j, h1, h2, h3, h4⟩
  · exact .inl ⟨h1, fun j h3 h4 => h2 j h3 (by omega)⟩
  · exact .inr ⟨j, h1, h2, by omega, h4⟩
theorem cntG_le (R : List Md) (p : Int) : ∀ (f i : Nat), cntG R p f i ≤ f
  | 0, i => Nat.le_refl _
  | f + 1, i => by
    have := cntG_le R p f (i + 1)
    unfold cntG
    split <;> omega
theorem cntD_le (R : List Md) (p : Int) : cntD R p ≤ R.length := by
  have := cntG_le R p (R.length - 1) 1
  unfold cntD
  omega
/-- Each node but the first is a kid of one ahead; no two are the same kid. -/
structure Rok (R : List Md) : Prop where
  par : ∀ i, 1 ≤ i → i < R.length → 0 ≤ mpar R i ∧ mpar R i < i
  inj : ∀ i j, 1 ≤ i → i < R.length → 1 ≤ j → j < R.length → mpar R i = mpar R j → mkid R i = mkid R j → i = j
/-- The nodes that are reached. -/
def ids (R : List Md) : Nat → Nat → List Nat
  | 0, _ => []
  | f + 1, p => p :: (List.range (cntD R p)).flatMap fun (k : Nat) => if 0 ≤ kidD R p k then ids R f (kidD R p k).toNat else []
def up (R : List Md) : Nat → Nat → Nat
  | 0, i => i
  | n + 1, i => if up R n i = 0 then 0 else (mpar R (up R n i)).toNat
theorem up_le {R : List Md} (h : Rok R) : ∀ (n i : Nat), i < R.length → up R n i ≤ i
  | 0, i, _ => Nat.le_refl _
  | n + 1, i, hi => by
    have h1 := up_le h n i hi
    unfold up
    by_cases e : up R n i = 0
    · rw [if_pos e]; omega
    · rw [if_neg e]
      have h2 := h.par (up R n i) (by omega) (by omega)
      omega
theorem up_add (R : List Md) (n : Nat) : ∀ (m i : Nat), up R (n + m) i = up R m (up R n i)
  | 0, i => rfl
  | m + 1, i => by
    rw [← Nat.add_assoc]
    show (if up R (n + m) i = 0 then 0 else (mpar R (up R (n + m) i)).toNat) = _
    rw [up_add R n m i]
    rfl
def Desc (R : List Md) (p i : Nat) : Prop := i < R.length ∧ ∃ n, up R n i = p
theorem kid_nat {R : List Md} (h : Rok R) {p k : Nat} {j : Nat} (hj : kidD R p k = (j : Int)) : 1 ≤ j ∧ j < R.length ∧ mpar R j = p ∧ mkid R j = k ∧ p < j := by
  rcases kidD_is R p k with ⟨h1, _⟩ | ⟨j', h1, h2, h3, h4, h5⟩
  · omega
  · obtain rfl : j = j' := by omega
    have := h.par j h2 h3
    exact ⟨h2, h3, h4, h5, by omega⟩
theorem ids_desc {R : List Md} (h : Rok R) : ∀ (f p i : Nat), p < R.length → i ∈ ids R f p → Desc R p i
  | 0, p, i, _, hi => by simp [ids] at hi
  | f + 1, p, i, hp, hi => by
    rw [ids, List.mem_cons] at hi
    rcases hi with rfl | hi
    · exact ⟨hp, 0, rfl⟩
    · obtain ⟨k, hk, hi⟩ := List.mem_flatMap.1 hi
      split at hi
      · rename_i h0
        obtain ⟨j, hj⟩ := Int.eq_ofNat_of_zero_le h0
        obtain ⟨a1, a2, a3, a4, a5⟩ := kid_nat h hj
        rw [hj, Int.toNat_natCast] at hi
        obtain ⟨b1, n, b2⟩ := ids_desc h f j i a2 hi
        refine ⟨b1, n + 1, ?_⟩
        unfold up
        rw [b2, if_neg (by omega), a3]
        simp
      · simp at hi
theorem Desc.le {R : List Md} (h : Rok R) {p i : Nat} (hd : Desc R p i) : p ≤ i := by
  obtain ⟨h1, n, h2⟩ := hd
  have := up_le h n i h1
  omega
theorem desc_apart {R : List Md} (h : Rok R) {p q q' i : Nat} (h1 : mpar R q = (p : Int)) (h2 : mpar R q' = (p : Int)) (l1 : p < q) (l2 : p < q') (hq : q < R.length) (hq' : q' < R.length) (hne : q ≠ q') (d1 : Desc R q i) (d2 : Desc R q' i) : False := by
  have key : ∀ (q q' n m : Nat), mpar R q = (p : Int) → p < q → p < q' → q < R.length → q ≠ q' → up R n i = q → up R m i = q' → n ≤ m → False := by
    intro q q' n m e1 l1 l2 hq hne u1 u2 hnm
    obtain ⟨d, rfl⟩ : ∃ d, m = n + d := ⟨m - n, by omega⟩
    rw [up_add, u1] at u2
    cases d with
    | zero => exact hne u2
    | succ d =>
      have h3 : up R (1 + d) q = q' := by rw [Nat.add_comm]; exact u2
      rw [up_add] at h3
      have h4 : up R 1 q = p := by
        show (if q = 0 then 0 else (mpar R q).toNat) = p
        rw [if_neg (by omega), e1]; simp
      rw [h4] at h3
      have := up_le h d p (by omega)
      omega
  obtain ⟨_, n, u1⟩ := d1
  obtain ⟨_, m, u2⟩ := d2
  rcases Nat.le_total n m with h' | h'
  · exact key q q' n m h1 l1 l2 hq hne u1 u2 h'
  · exact key q' q m n h2 l2 l1 hq' (fun e => hne e.symm) u2 u1 h'
theorem ids_nodup {R : List Md} (h : Rok R) : ∀ (f p : Nat), p < R.length → (ids R f p).Nodup
  | 0, p, _ => List.nodup_nil
  | f + 1, p, hp => by
    rw [ids, List.nodup_cons]
    constructor
    · intro hm
      obtain ⟨k, hk, hi⟩ := List.mem_flatMap.1 hm
      split at hi
      · rename_i h0
        obtain ⟨j, hj⟩ := Int.eq_ofNat_of_zero_le h0
        obtain ⟨a1, a2, a3, a4, a5⟩ := kid_nat h hj
        rw [hj, Int.toNat_natCast] at hi
        have := (ids_desc h f j p a2 hi).le h
        omega
      · simp at hi
    · unfold List.Nodup
      rw [List.pairwise_flatMap]
      constructor
      · intro k _
        split
        · rename_i h0
          obtain ⟨j, hj⟩ := Int.eq_ofNat_of_zero_le h0
          obtain ⟨a1, a2, a3, a4, a5⟩ := kid_nat h hj
          rw [hj, Int.toNat_natCast]
          exact ids_nodup h f j a2
        · exact List.Pairwise.nil
      · refine List.nodup_range.imp ?_
        intro k k' hne x hx y hy e
        subst e
        split at hx
        · rename_i h0
          split at hy
          · rename_i h0'
            obtain ⟨j, hj⟩ := Int.eq_ofNat_of_zero_le h0
            obtain ⟨j', hj'⟩ := Int.eq_ofNat_of_zero_le h0'
            obtain ⟨a1, a2, a3, a4, a5⟩ := kid_nat h hj
            obtain ⟨b1, b2, b3, b4, b5⟩ := kid_nat h hj'
            rw [hj, Int.toNat_natCast] at hx
            rw [hj', Int.toNat_natCast] at hy
            exact desc_apart h a3 b3 a5 b5 a2 b2 (fun e => by subst e; rw [a4] at b4; omega) (ids_desc h f j x a2 hx) (ids_desc h f j' x b2 hy)
          · simp at hy
        · simp at hx
theorem ids_len {R : List Md} (h : Rok R) (f p : Nat) (hp : p < R.length) : (ids R f p).length ≤ R.length := by
  have := sub_len (ids_nodup h f p hp) (r := List.range R.length) (fun x hx => List.mem_range.2 (ids_desc h f p x hp hx).1)
  simpa using this
/-- A node, with as many kids as were made. -/
def ndD (R : List Md) (p : Nat) : Nd := ((R.getD p md0).1, (R.getD p md0).2.1, (cntD R p : Int))
/-- What is told of kids: those from k on, so many. -/
def toldK (T : Nat → Option (List Nd)) (R : List Md) (p : Nat) : Nat → Nat → Option (List Nd)
  | 0, _ => some []
  | j + 1, k => if 0 ≤ kidD R p k then (match T (kidD R p k).toNat with | none => none | some l => (toldK T R p j (k + 1)).map (l ++ ·)) else none
def toldD (R : List Md) : Nat → Nat → Option (List Nd)
  | 0, _ => none
  | f + 1, p => if right (ndD R p) = true then (toldK (toldD R f) R p (cntD R p) 0).map (ndD R p :: ·) else none
/-- How many kids' nodes are reached, from k on. -/
def idsK (R : List Md) (f p : Nat) : Nat → Nat → Nat
  | 0, _ => 0
  | j + 1, k => (if 0 ≤ kidD R p k then (ids R f (kidD R p k).toNat).length else 0) + idsK R f p j (k + 1)
theorem idsK_is (R : List Md) (f p : Nat) : ∀ (j k : Nat), idsK R f p j k = (((List.range j).map fun i => (if 0 ≤ kidD R p (k + i : Nat) then ids R f (kidD R p (k + i : Nat)).toNat else []).length)).sum
  | 0, k => rfl
  | j + 1, k => by
    rw [idsK, idsK_is R f p j (k + 1), List.range_succ_eq_map, List.map_cons, List.sum_cons, List.map_map]
    congr 1
    · rw [Nat.add_zero]
      split <;> rfl
    · congr 1
      apply List.map_congr_left
      intro i _
      simp only [Function.comp_apply]
      rw [show k + 1 + i = k + Nat.succ i by omega]
theorem ids_step (R : List Md) (f p : Nat) : (ids R (f + 1) p).length = 1 + idsK R f p (cntD R p) 0 := by
  rw [ids, List.length_cons, List.length_flatMap, idsK_is]
  simp only [Nat.zero_add]
  omega
end Go.Proofs.YtlbgdgobhiokpaaDoor

/- The document's arena against the program's, plain. -/
namespace Go.Proofs.YtlbgdgobhiokpaaDoor
open Go.RowKit
set_option linter.unusedVariables false

structure Rel (N : List Nd) (S : Stk) (R : List Md) : Prop where
  len : R.length = N.length
  nd : ∀ i, i < N.length → (R.getD i md0).1 = (N.getD i nil0).1 ∧ (R.getD i md0).2.1 = (N.getD i nil0).2.1
  sp : ∀ i, 1 ≤ i → i < N.length → S.getD i (0, 0) = (mpar R i, mkid R i)
theorem Rel.empty : Rel [] [] [] := ⟨rfl, fun i h => by simp at h, fun i _ h => by simp at h⟩
theorem Rel.ok {N : List Nd} {S G : Stk} {R : List Md} (h : Rel N S R) (hi : Inv N S G) : Rok R := by
  refine ⟨fun i h1 h2 => ?_, fun i j h1 h2 h3 h4 e1 e2 => ?_⟩
  · rw [h.len] at h2
    obtain ⟨p, k, h3, h4⟩ := hi.spt i h1 h2
    rw [h.sp i h1 h2] at h3
    have := (Prod.mk.inj h3).1
    omega
  · rw [h.len] at h2 h4
    exact hi.inj i j h1 h2 h3 h4 (by rw [h.sp i h1 h2, h.sp j h3 h4, e1, e2])
theorem getD_snocM (R : List Md) (x : Md) (i : Nat) : (R ++ [x]).getD i md0 = if i = R.length then x else R.getD i md0 := by
  simp only [List.getD_eq_getElem?_getD]
  by_cases h : i = R.length
  · subst h; simp
  · rw [if_neg h]
    by_cases h2 : i < R.length
    · rw [List.getElem?_append_left h2]
    · rw [List.getElem?_append_right (by omega), List.getElem?_eq_none (by simp; omega), List.getElem?_eq_none (by omega)]
theorem Rel.add {N : List Nd} {S G : Stk} {R : List Md} (h : Rel N S R) (hi : Inv N S G) (p k kind n : Int) {x : Md} (hx : x.1 = kind ∧ x.2.1 = n ∧ (N.length ≠ 0 → x.2.2 = (p, k))) : Rel (addN1 N G p k kind n) (S ++ [(p, k)]) (R ++ [x]) := by
  refine ⟨by rw [addN1_len, List.length_append, h.len]; rfl, fun i hl => ?_, fun i h1 hl => ?_⟩
  · rw [addN1_len] at hl
    obtain ⟨a1, a2⟩ := addN1_nd N G p k kind n i hl
    rw [a1, a2, getD_snocM, h.len]
    by_cases e : i = N.length
    · rw [if_pos e, if_pos e, if_pos e]
      exact ⟨hx.1, hx.2.1⟩
    · rw [if_neg e, if_neg e, if_neg e]
      exact h.nd i (by omega)
  · rw [addN1_len] at hl
    rw [getD_snocS, hi.len]
    unfold mpar mkid
    rw [getD_snocM, h.len]
    by_cases e : i = N.length
    · rw [if_pos e, if_pos e, hx.2.2 (by omega)]
    · rw [if_neg e, if_neg e]
      exact h.sp i h1 (by omega)
/-! ### How many kids -/
def gcnt (G : Stk) (p : Int) : Nat := G.countP fun e => decide (e.1 = p)
theorem gcnt_erase : ∀ (G : Stk) (a : Int × Int) (p : Int), G.contains a = true → gcnt (G.erase a) p + (if a.1 = p then 1 else 0) = gcnt G p
  | [], a, p, h => by simp at h
  | e :: G, a, p, h => by
    unfold gcnt
    by_cases he : e = a
    · subst he
      rw [List.erase_cons_head, List.countP_cons]
      simp
    · have h1 : G.contains a = true := by
        rw [List.contains_cons] at h
        simp at h ⊢
        rcases h with h | h
        · exact absurd h.symm he
        · exact h
      rw [List.erase_cons_tail (by simpa using he), List.countP_cons, List.countP_cons]
      have := gcnt_erase G a p h1
      unfold gcnt at this
      omega
theorem gcnt_snoc (G : Stk) (a : Int × Int) (p : Int) : gcnt (G ++ [a]) p = gcnt G p + (if a.1 = p then 1 else 0) := by
  unfold gcnt
  rw [List.countP_append, List.countP_cons]
  simp
theorem fill_cnt (o : Int) : ∀ (f : Nat) (c : Int) (G : Stk), (fillG f o c G).1 + gcnt (fillG f o c G).2 o = c + gcnt G o ∧ ∀ p, p ≠ o → gcnt (fillG f o c G).2 p = gcnt G p
  | 0, c, G => ⟨rfl, fun _ _ => rfl⟩
  | f + 1, c, G => by
    unfold fillG
    by_cases h : G.contains (o, c) = true
    · rw [if_pos h]
      obtain ⟨h1, h2⟩ := fill_cnt o f (c + 1) (G.erase (o, c))
      have h3 := gcnt_erase G (o, c) o h
      rw [if_pos rfl] at h3
      refine ⟨by omega, fun p hp => ?_⟩
      have h4 := gcnt_erase G (o, c) p h
      rw [if_neg (fun e => hp e.symm)] at h4
      rw [h2 p hp]
      omega
    · rw [if_neg h]
      exact ⟨rfl, fun _ _ => rfl⟩
theorem cntG_succ (R : List Md) (p : Int) : ∀ (f i : Nat), cntG R p (f + 1) i = cntG R p f i + (if mpar R (i + f) = p then 1 else 0)
  | 0, i => by simp [cntG]
  | f + 1, i => by
    rw [cntG, cntG_succ R p f (i + 1), cntG, show i + 1 + f = i + (f + 1) by omega]
    omega
theorem cntG_congr (R R' : List Md) (p : Int) : ∀ (f i : Nat), (∀ j, i ≤ j → j < i + f → mpar R j = mpar R' j) → cntG R p f i = cntG R' p f i
  | 0, i, _ => rfl
  | f + 1, i, h => by
    rw [cntG, cntG, h i (Nat.le_refl _) (by omega), cntG_congr R R' p f (i + 1) (fun j h1 h2 => h j (by omega) (by omega))]
theorem cntG_zero (R : List Md) (p : Int) : ∀ (f i : Nat), (∀ j, i ≤ j → j < i + f → mpar R j ≠ p) → cntG R p f i = 0
  | 0, i, _ => rfl
  | f + 1, i, h => by
    rw [cntG, if_neg (h i (Nat.le_refl _) (by omega)), cntG_zero R p f (i + 1) (fun j h1 h2 => h j (by omega) (by omega))]
theorem cntD_snoc (R : List Md) (x : Md) (p : Int) : cntD (R ++ [x]) p = cntD R p + (if R.length ≠ 0 ∧ x.2.2.1 = p then 1 else 0) := by
  unfold cntD
  have hc : cntG (R ++ [x]) p (R.length - 1) 1 = cntG R p (R.length - 1) 1 := cntG_congr _ _ _ _ _ fun j h1 h2 => by
    unfold mpar
    rw [getD_snocM, if_neg (by omega)]
  rw [List.length_append, List.length_cons, List.length_nil, ← hc]
  by_cases h0 : R.length = 0
  · rw [if_neg (by simp [h0]), h0]
    rfl
  · obtain ⟨m, hm⟩ : ∃ m, R.length = m + 1 := ⟨R.length - 1, by omega⟩
    have e : mpar (R ++ [x]) (1 + m) = x.2.2.1 := by
      unfold mpar
      rw [getD_snocM, if_pos (by omega)]
    rw [hm, show m + 1 + (0 + 1) - 1 = m + 1 by omega, show m + 1 - 1 = m by omega, cntG_succ, e]
    congr 1
    by_cases h1 : x.2.2.1 = p
    · rw [if_pos h1, if_pos ⟨by omega, h1⟩]
    · rw [if_neg h1, if_neg (fun h => h1 h.2)]
theorem cntD_far {R : List Md} (h : Rok R) {p : Nat} (hp : R.length ≤ p) : cntD R p = 0 := cntG_zero _ _ _ _ fun j h1 h2 => by
  have := h.par j h1 (by omega)
  omega
def Cnt (N : List Nd) (G : Stk) (R : List Md) : Prop := ∀ p, p < N.length → (cntD R (p : Int) : Int) = (N.getD p nil0).2.2 + gcnt G p
theorem Cnt.empty : Cnt [] [] [] := fun p h => by simp at h
theorem gcnt_far {N : List Nd} {S G : Stk} (hi : Inv N S G) {p : Nat} (hp : N.length ≤ p) : gcnt G p = 0 := by
  unfold gcnt
  rw [List.countP_eq_zero]
  intro e he
  obtain ⟨i, h1, h2, h3, _⟩ := (hi.gap e).1 he
  obtain ⟨p', k', h4, h5⟩ := hi.spt i h1 h2
  rw [h3] at h4
  have : e.1 = (p' : Int) := by rw [h4]
  simp
  omega
theorem Cnt.add {N : List Nd} {S G : Stk} {R : List Md} (h : Cnt N G R) (hi : Inv N S G) (hr : Rel N S R) {p k : Int} (kind n : Int) {x : Md} (hx : x.1 = kind ∧ x.2.1 = n ∧ (N.length ≠ 0 → x.2.2 = (p, k))) (href : refuseG N G p k = 0) : Cnt (addN1 N G p k kind n) (addG1 N G p k) (R ++ [x]) := by
  intro q hq
  rw [addN1_len] at hq
  rw [cntD_snoc, hr.len]
  by_cases h0 : N.length = 0
  · obtain rfl : q = 0 := by omega
    obtain rfl := List.length_eq_zero_iff.1 h0
    obtain rfl : G = [] := List.length_eq_zero_iff.1 (by have := hi.gl; simp at this; simpa using this)
    obtain rfl : R = [] := List.length_eq_zero_iff.1 hr.len
    rfl
  · obtain ⟨r1, r2, r3, r4, r5, r6⟩ := refuseG_zero href h0
    obtain ⟨o, rfl⟩ := Int.eq_ofNat_of_zero_le r1
    rw [Int.toNat_natCast] at r4 r6
    have ho : o < N.length := by omega
    have hx2 := hx.2.2 h0
    have hold : ∀ q : Nat, q < N.length + 1 → (cntD R (q : Int) : Int) = ((N ++ [(kind, n, 0)]).getD q nil0).2.2 + gcnt G q := fun q hq => by
      rw [getD_snoc]
      by_cases e : q = N.length
      · rw [if_pos e, cntD_far (hr.ok hi) (by rw [hr.len]; omega), gcnt_far hi (by omega)]
        rfl
      · rw [if_neg e]
        exact h q (by omega)
    have hif : (if N.length ≠ 0 ∧ x.2.2.1 = (q : Int) then 1 else 0 : Nat) = if (o : Int) = (q : Int) then 1 else 0 := by
      rw [hx2]
      by_cases e : (o : Int) = (q : Int)
      · rw [if_pos ⟨h0, e⟩, if_pos e]
      · rw [if_neg (fun h => e h.2), if_neg e]
    rw [hif]
    have hq1 := hold q hq
    by_cases hg : (N.getD o nil0).2.2 < k
    · have e1 : addN1 N G (o : Int) k kind n = N ++ [(kind, n, 0)] := by rw [addN1, if_neg h0, Int.toNat_natCast, if_pos hg]
      have e2 : addG1 N G (o : Int) k = G ++ [((o : Int), k)] := by rw [addG1, if_neg h0, Int.toNat_natCast, if_pos hg]
      rw [e1, e2, gcnt_snoc]
      push_cast
      rw [hq1]
      omega
    · have e1 : addN1 N G (o : Int) k kind n = setK (N ++ [(kind, n, 0)]) o (fillG G.length o (k + 1) G).1 := by rw [addN1, if_neg h0, Int.toNat_natCast, if_neg hg]
      have e2 : addG1 N G (o : Int) k = (fillG G.length o (k + 1) G).2 := by rw [addG1, if_neg h0, Int.toNat_natCast, if_neg hg]
      rw [e1, e2]
      obtain ⟨f1, f2⟩ := fill_cnt (o : Int) G.length (k + 1) G
      by_cases e : q = o
      · subst e
        rw [setK_at _ _ _ (by simp; omega), if_pos rfl]
        push_cast
        rw [hq1, getD_snoc, if_neg (by omega)]
        omega
      · rw [setK_other _ _ _ _ e, if_neg (by omega), f2 q (by omega)]
        push_cast
        rw [hq1]
        omega
end Go.Proofs.YtlbgdgobhiokpaaDoor
