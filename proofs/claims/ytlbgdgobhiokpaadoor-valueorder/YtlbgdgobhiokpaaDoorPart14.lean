import Derived.Test.YtlbgdgobhiokpaaDoorPart13
import Derived.Test.YtlbgdgobhiokpaaDoorPart11
import Derived.Test.YtlbgdgobhiokpaaDoorPart02

/- A value's nodes, added in some order: plain. -/
namespace Go.Proofs.YtlbgdgobhiokpaaDoor
open Go.RowKit
set_option linter.unusedVariables false

theorem nodup_at {l : List Nat} (h : l.Nodup) {x y : Nat} (hx : x < l.length) (hy : y < l.length) (e : l.getD x 0 = l.getD y 0) : x = y := by
  rw [List.getD_eq_getElem?_getD, List.getD_eq_getElem?_getD, List.getElem?_eq_getElem hx, List.getElem?_eq_getElem hy] at e
  simp only [Option.getD_some] at e
  have h' := List.pairwise_iff_getElem.1 h
  rcases Nat.lt_trichotomy x y with hlt | heq | hgt
  · exact absurd e (h' x y hx hy hlt)
  · exact heq
  · exact absurd e.symm (h' y x hy hx hgt)
theorem mem_at {l : List Nat} {i : Nat} : i ∈ l ↔ ∃ x, x < l.length ∧ l.getD x 0 = i := by
  constructor
  · intro h
    obtain ⟨x, hx, e⟩ := List.mem_iff_getElem.1 h
    exact ⟨x, hx, by rw [List.getD_eq_getElem?_getD, List.getElem?_eq_getElem hx]; exact e⟩
  · rintro ⟨x, hx, e⟩
    rw [List.getD_eq_getElem?_getD, List.getElem?_eq_getElem hx] at e
    exact e ▸ List.getElem_mem hx
theorem sub_len : ∀ {l r : List Nat}, l.Nodup → (∀ x ∈ l, x ∈ r) → l.length ≤ r.length
  | [], r, _, _ => Nat.zero_le _
  | a :: l, r, hn, hs => by
    have h1 : a ∈ r := hs a (by simp)
    rw [List.nodup_cons] at hn
    have h2 : l.length ≤ (r.erase a).length := sub_len hn.2 fun x hx => (List.mem_erase_of_ne (fun e : x = a => hn.1 (e ▸ hx))).2 (hs x (by simp [hx]))
    rw [List.length_erase_of_mem h1] at h2
    have := List.length_pos_of_mem h1
    simp only [List.length_cons]
    omega
theorem getD_snocN (l : List Nat) (e i : Nat) : (l ++ [e]).getD i 0 = if i = l.length then e else l.getD i 0 := by
  simp only [List.getD_eq_getElem?_getD]
  by_cases h : i = l.length
  · subst h; simp
  · rw [if_neg h]
    by_cases h2 : i < l.length
    · rw [List.getElem?_append_left h2]
    · rw [List.getElem?_append_right (by omega), List.getElem?_eq_none (by simp; omega), List.getElem?_eq_none (by omega)]
structure Ords (M : List Nd) (ord O : List Nat) (N : List Nd) (S G : Stk) : Prop where
  inv : Inv N S G
  nl : N.length = ord.length
  nod : ord.Nodup
  lt : ∀ i ∈ ord, i < M.length
  z : 0 < ord.length → ord.getD 0 0 = 0
  nd : ∀ x, x < ord.length → (N.getD x nil0).1 = (M.getD (ord.getD x 0) nil0).1 ∧ (N.getD x nil0).2.1 = (M.getD (ord.getD x 0) nil0).2.1
  sp : ∀ x, 1 ≤ x → x < ord.length → ∃ p k y, IsKid M (ord.getD x 0) p k ∧ y < ord.length ∧ ord.getD y 0 = p ∧ S.getD x (0, 0) = ((y : Int), (k : Int))
  on : O.Nodup
  om : ∀ i, i ∈ O ↔ i < M.length ∧ i ∉ ord ∧ (i = 0 ∨ ∃ p k, p ∈ ord ∧ IsKid M i p k)
theorem Ords.begin {M : List Nd} (hM : (chk 1 0 M).1 = 0) : Ords M [] [0] [] [] [] := by
  refine ⟨Inv.empty, rfl, List.nodup_nil, by simp, by simp, by simp, by simp, by simp, fun i => ?_⟩
  simp only [List.mem_singleton, List.not_mem_nil, not_false_eq_true, true_and, false_and, exists_false, or_false]
  constructor
  · rintro rfl; exact ⟨ok_pos hM, rfl⟩
  · exact fun h => h.2
section
variable {M N : List Nd} {ord O : List Nat} {S G : Stk}
theorem Ords.len (h : Ords M ord O N S G) : ord.length ≤ M.length := by
  have := sub_len h.nod (r := List.range M.length) (fun x hx => List.mem_range.2 (h.lt x hx))
  simpa using this
/-- Some node can be added. -/
theorem Ords.some (h : Ords M ord O N S G) (hM : (chk 1 0 M).1 = 0) (hl : ord.length < M.length) : 0 < O.length := by
  have hx : ∃ i, i < M.length ∧ i ∉ ord := by
    apply Classical.byContradiction
    intro hno
    have h1 : ∀ x ∈ List.range M.length, x ∈ ord := fun x hx => Classical.byContradiction fun hn => hno ⟨x, List.mem_range.1 hx, hn⟩
    have := sub_len List.nodup_range h1
    simp at this
    omega
  have least : ∀ n i, i ≤ n → i < M.length → i ∉ ord → ∃ j, j ∈ O := by
    intro n
    induction n with
    | zero =>
      intro i hi h1 h2
      exact ⟨i, (h.om i).2 ⟨h1, h2, .inl (by omega)⟩⟩
    | succ n ih =>
      intro i hi h1 h2
      by_cases h0 : i = 0
      · exact ⟨i, (h.om i).2 ⟨h1, h2, .inl h0⟩⟩
      · obtain ⟨p, k, hk⟩ := isKid_ex hM (by omega) h1
        by_cases hp : p ∈ ord
        · exact ⟨i, (h.om i).2 ⟨h1, h2, .inr ⟨p, k, hp, hk⟩⟩⟩
        · exact ih p (by have := hk.lt; omega) hk.1 hp
  obtain ⟨i, h1, h2⟩ := hx
  obtain ⟨j, hj⟩ := least i i (Nat.le_refl _) h1 h2
  exact List.length_pos_of_mem hj
theorem addN1_len (N : List Nd) (G : Stk) (p k kind n : Int) : (addN1 N G p k kind n).length = N.length + 1 := by
  unfold addN1
  split
  · rename_i h; simp [h]
  · split
    · simp
    · rw [setK_len]; simp
theorem addN1_nd (N : List Nd) (G : Stk) (p k kind n : Int) (x : Nat) (hx : x < N.length + 1) : ((addN1 N G p k kind n).getD x nil0).1 = (if x = N.length then kind else (N.getD x nil0).1) ∧ ((addN1 N G p k kind n).getD x nil0).2.1 = (if x = N.length then n else (N.getD x nil0).2.1) := by
  have hsn : ((N ++ [(kind, n, 0)]).getD x nil0).1 = (if x = N.length then kind else (N.getD x nil0).1) ∧ ((N ++ [(kind, n, 0)]).getD x nil0).2.1 = (if x = N.length then n else (N.getD x nil0).2.1) := by
    rw [getD_snoc]
    split <;> exact ⟨rfl, rfl⟩
  unfold addN1
  split
  · rename_i h
    obtain rfl := List.length_eq_zero_iff.1 h
    exact hsn
  · split
    · exact hsn
    · by_cases e : x = p.toNat
      · subst e
        rw [setK_at _ _ _ (by simpa using hx)]
        exact hsn
      · rw [setK_other _ _ _ _ e]
        exact hsn
theorem Ords.add (h : Ords M ord O N S G) (hM : (chk 1 0 M).1 = 0) {kk i : Nat} (hk : kk < O.length) (hi : O.getD kk 0 = i) {P k : Int} {nk : List Nat} (hz : i = 0 → P = -1) (hpk : 0 < i → ∃ p q y, IsKid M i p q ∧ y < ord.length ∧ ord.getD y 0 = p ∧ P = y ∧ k = q)
    (hn1 : nk.Nodup) (hn2 : ∀ j, j ∈ nk ↔ ∃ q, IsKid M j i q) :
    addGE N G P k (M.getD i nil0).1 (M.getD i nil0).2.1 = 0 ∧ Ords M (ord ++ [i]) ((O.take kk ++ O.drop (kk + 1)) ++ nk) (addN1 N G P k (M.getD i nil0).1 (M.getD i nil0).2.1) (S ++ [(P, k)]) (addG1 N G P k) := by
  have hiO : i ∈ O := mem_at.2 ⟨kk, hk, hi⟩
  obtain ⟨hiM, hio, hcase⟩ := (h.om i).1 hiO
  have hright := (chk_enough M 1 0 hM).2.2 (M.getD i nil0) (by rw [List.getD_eq_getElem?_getD, List.getElem?_eq_getElem hiM]; exact List.getElem_mem hiM)
  obtain ⟨hr1, hr2, _, _⟩ := (right_iff _).1 hright
  have h0 : i = 0 ↔ ord.length = 0 := by
    constructor
    · rintro rfl
      rcases Nat.eq_zero_or_pos ord.length with e | e
      · exact e
      · exact absurd (mem_at.2 ⟨0, e, h.z e⟩) hio
    · intro e
      rcases hcase with e' | ⟨p, q, hp, _⟩
      · exact e'
      · obtain rfl := List.length_eq_zero_iff.1 e
        simp at hp
  have href : refuseG N G P k = 0 := by
    by_cases e : i = 0
    · rw [refuseG, if_pos (by rw [h.nl]; exact h0.1 e), if_pos (hz e)]
    · obtain ⟨p, q, y, hK, hy, hyp, rfl, rfl⟩ := hpk (by omega)
      have hyN : y < N.length := by rw [h.nl]; exact hy
      have hkind : (N.getD y nil0).1 = (M.getD p nil0).1 := by rw [(h.nd y hy).1, hyp]
      have hright2 := (chk_enough M 1 0 hM).2.2 (M.getD p nil0) (by rw [List.getD_eq_getElem?_getD, List.getElem?_eq_getElem hK.1]; exact List.getElem_mem hK.1)
      have hmk := ((right_iff _).1 hright2).2.2.2
      have hkc := kN_cast hM hK.1
      have hq := hK.2.1
      have hno : ¬ (((y : Int), (q : Int)) ∈ G ∨ (q : Int) < (N.getD y nil0).2.2) := fun hx => by
        obtain ⟨x, h1, h2, h3⟩ := (h.inv.taken hyN).1 hx
        obtain ⟨p2, k2, y2, h4, h5, h6, h7⟩ := h.sp x h1 (by rw [← h.nl]; exact h2)
        rw [h3] at h7
        obtain rfl : y = y2 := by have := (Prod.mk.inj h7).1; omega
        obtain rfl : q = k2 := by have := (Prod.mk.inj h7).2; omega
        rw [hyp] at h6
        subst h6
        have h8 : ord.getD x 0 = i := by rw [← h4.2.2, hK.2.2]
        exact hio (mem_at.2 ⟨x, by rw [← h.nl]; exact h2, h8⟩)
      rw [refuseG, if_neg (by omega), if_neg (by omega), Int.toNat_natCast, hkind, if_neg (by omega), if_neg]
      intro hx
      exact hno (hx.imp (fun h' => by simpa using h') id)
  refine ⟨by rw [addGE, if_pos ⟨by simpa [isK] using hr1, hr2⟩]; exact href, ?_⟩
  have hgo : ∀ x, x < ord.length → (ord ++ [i]).getD x 0 = ord.getD x 0 := fun x hx => by rw [getD_snocN, if_neg (by omega)]
  have hgn : (ord ++ [i]).getD ord.length 0 = i := by rw [getD_snocN, if_pos rfl]
  have hOe : O = O.take kk ++ i :: O.drop (kk + 1) := by
    conv => lhs; rw [← List.take_append_drop kk O]
    congr 1
    rw [List.drop_eq_getElem_cons hk]
    congr 1
    rw [List.getD_eq_getElem?_getD, List.getElem?_eq_getElem hk] at hi
    exact hi
  have hOn := h.on
  rw [hOe] at hOn
  have hOn2 : (O.take kk ++ O.drop (kk + 1)).Nodup ∧ i ∉ O.take kk ++ O.drop (kk + 1) := by
    rw [List.nodup_append] at hOn
    obtain ⟨n1, n2, n3⟩ := hOn
    rw [List.nodup_cons] at n2
    refine ⟨List.nodup_append.2 ⟨n1, n2.2, fun a ha b hb => n3 a ha b (List.mem_cons_of_mem _ hb)⟩, fun hx => ?_⟩
    rcases List.mem_append.1 hx with h' | h'
    · exact n3 i h' i (by simp) rfl
    · exact n2.1 h'
  have hOm : ∀ j, j ∈ O.take kk ++ O.drop (kk + 1) ↔ j ∈ O ∧ j ≠ i := fun j => by
    constructor
    · intro hj
      refine ⟨?_, fun e => hOn2.2 (e ▸ hj)⟩
      rw [hOe]
      rcases List.mem_append.1 hj with h' | h'
      · exact List.mem_append.2 (.inl h')
      · exact List.mem_append.2 (.inr (List.mem_cons_of_mem _ h'))
    · rintro ⟨hj, hne⟩
      rw [hOe] at hj
      rcases List.mem_append.1 hj with h' | h'
      · exact List.mem_append.2 (.inl h')
      · rcases List.mem_cons.1 h' with h2 | h2
        · exact absurd h2 hne
        · exact List.mem_append.2 (.inr h2)
  have hSx : ∀ x, x < N.length → (S ++ [(P, k)]).getD x (0, 0) = S.getD x (0, 0) := fun x hx => by rw [getD_snocS, if_neg (by rw [h.inv.len]; omega)]
  have hSn : (S ++ [(P, k)]).getD N.length (0, 0) = (P, k) := by rw [getD_snocS, if_pos h.inv.len.symm]
  refine ⟨h.inv.add _ _ href, by rw [addN1_len, h.nl]; simp, ?_, ?_, ?_, ?_, ?_, ?_, ?_⟩
  · rw [List.nodup_append]
    refine ⟨h.nod, by simp, fun a ha b hb => ?_⟩
    simp at hb
    subst hb
    rintro rfl
    exact hio ha
  · intro j hj
    rcases List.mem_append.1 hj with h' | h'
    · exact h.lt j h'
    · obtain rfl := List.mem_singleton.1 h'
      exact hiM
  · intro _
    by_cases e : ord.length = 0
    · have hi0 := h0.2 e
      obtain rfl := List.length_eq_zero_iff.1 e
      exact hi0
    · rw [hgo 0 (by omega)]
      exact h.z (by omega)
  · intro x hx
    have hx' : x < ord.length + 1 := by simpa using hx
    obtain ⟨a1, a2⟩ := addN1_nd N G P k (M.getD i nil0).1 (M.getD i nil0).2.1 x (by rw [h.nl]; exact hx')
    rw [a1, a2, h.nl]
    by_cases e : x = ord.length
    · rw [if_pos e, if_pos e, e, hgn]
      exact ⟨rfl, rfl⟩
    · rw [if_neg e, if_neg e, hgo x (by omega)]
      exact h.nd x (by omega)
  · intro x h1 hx
    have hx' : x < ord.length + 1 := by simpa using hx
    by_cases e : x = ord.length
    · have hi0 : 0 < i := by
        rcases Nat.eq_zero_or_pos i with e0 | e0
        · have := h0.1 e0; omega
        · exact e0
      obtain ⟨p, q, y, hK, hy, hyp, e1, e2⟩ := hpk hi0
      refine ⟨p, q, y, ?_, by simp; omega, by rw [hgo y hy]; exact hyp, ?_⟩
      · rw [e, hgn]; exact hK
      · rw [e, ← h.nl, hSn, e1, e2]
    · obtain ⟨p, q, y, h2, h3, h4, h5⟩ := h.sp x h1 (by omega)
      refine ⟨p, q, y, ?_, by simp; omega, by rw [hgo y h3]; exact h4, ?_⟩
      · rw [hgo x (by omega)]; exact h2
      · rw [hSx x (by rw [h.nl]; omega)]; exact h5
  · rw [List.nodup_append]
    refine ⟨hOn2.1, hn1, fun a ha b hb => ?_⟩
    rintro rfl
    obtain ⟨h1, h2⟩ := (hOm a).1 ha
    obtain ⟨q, h3⟩ := (hn2 a).1 hb
    rcases ((h.om a).1 h1).2.2 with e | ⟨p, q', h4, h5⟩
    · have := h3.lt
      omega
    · obtain ⟨rfl, _⟩ := isKid_one hM h3 h5
      exact hio h4
  · intro j
    rw [List.mem_append, hOm, hn2, h.om]
    constructor
    · rintro (⟨⟨h1, h2, h3⟩, h4⟩ | ⟨q, h1⟩)
      · refine ⟨h1, fun hx => ?_, h3.imp id fun ⟨p, q, h5, h6⟩ => ⟨p, q, List.mem_append.2 (.inl h5), h6⟩⟩
        rcases List.mem_append.1 hx with h' | h'
        · exact h2 h'
        · exact h4 (List.mem_singleton.1 h')
      · refine ⟨h1.in hM, fun hx => ?_, .inr ⟨i, q, by simp, h1⟩⟩
        rcases List.mem_append.1 hx with h' | h'
        · -- a kid of i that was added ahead of i
          obtain ⟨x, hx1, hx2⟩ := mem_at.1 h'
          rcases Nat.eq_zero_or_pos x with e | e
          · rw [e, h.z (by omega)] at hx2
            have := h1.lt
            omega
          · obtain ⟨p2, k2, y2, h4, h5, h6, _⟩ := h.sp x e hx1
            rw [hx2] at h4
            obtain ⟨rfl, _⟩ := isKid_one hM h4 h1
            exact hio (mem_at.2 ⟨y2, h5, h6⟩)
        · have := h1.lt
          have := List.mem_singleton.1 h'
          omega
    · rintro ⟨h1, h2, h3⟩
      have h4 : j ≠ i := fun e => h2 (by rw [e]; simp)
      have h5 : j ∉ ord := fun hx => h2 (List.mem_append.2 (.inl hx))
      rcases h3 with e | ⟨p, q, h6, h7⟩
      · exact .inl ⟨⟨h1, h5, .inl e⟩, h4⟩
      · rcases List.mem_append.1 h6 with h8 | h8
        · exact .inl ⟨⟨h1, h5, .inr ⟨p, q, h8, h7⟩⟩, h4⟩
        · obtain rfl := List.mem_singleton.1 h8
          exact .inr ⟨q, h7⟩
theorem Ords.fin (h : Ords M ord O N S G) (hM : (chk 1 0 M).1 = 0) (hl : ord.length = M.length) :
    G = [] ∧ wholeB N G = true ∧ N.length = M.length ∧ vOf N (chS N S) 0 = M := by
  have hall : ∀ i, i < M.length → i ∈ ord := by
    intro i hi
    apply Classical.byContradiction
    intro hn
    have h1 : (i :: ord).Nodup := List.nodup_cons.2 ⟨hn, h.nod⟩
    have h2 := sub_len h1 (r := List.range M.length) (fun x hx => by
      rcases List.mem_cons.1 hx with e | e
      · rw [e]; exact List.mem_range.2 hi
      · exact List.mem_range.2 (h.lt x e))
    simp at h2
    omega
  have hkids : ∀ x, x < ord.length → (N.getD x nil0).2.2 = (M.getD (ord.getD x 0) nil0).2.2 := by
    intro x hx
    have hxM : ord.getD x 0 < M.length := h.lt _ (mem_at.2 ⟨x, hx, rfl⟩)
    have hxN : x < N.length := by rw [h.nl]; exact hx
    have hc := kN_cast hM hxM
    have hp := h.inv.pos x hxN
    rcases Int.lt_trichotomy (N.getD x nil0).2.2 (M.getD (ord.getD x 0) nil0).2.2 with hlt | heq | hgt
    · obtain ⟨c, hcc⟩ := Int.eq_ofNat_of_zero_le hp
      have hK : IsKid M (kp M (ord.getD x 0) c) (ord.getD x 0) c := ⟨hxM, by omega, rfl⟩
      obtain ⟨y, hy, hye⟩ := mem_at.1 (hall _ (hK.in hM))
      rcases Nat.eq_zero_or_pos y with e | e
      · rw [e, h.z (by omega)] at hye
        have := hK.lt
        omega
      · obtain ⟨p2, k2, y2, h4, h5, h6, h7⟩ := h.sp y e hy
        rw [hye] at h4
        obtain ⟨rfl, rfl⟩ := isKid_one hM h4 hK
        obtain rfl := nodup_at h.nod h5 hx h6
        exact absurd (by rw [h7, hcc]) (h.inv.miss y2 hxN y e (by rw [h.nl]; exact hy))
    · exact heq
    · obtain ⟨c, hcc⟩ := Int.eq_ofNat_of_zero_le (kids_pos hM hxM)
      obtain ⟨y, h1, h2, h3⟩ := h.inv.full x hxN c (by omega)
      obtain ⟨p2, k2, y2, h4, h5, h6, h7⟩ := h.sp y h1 (by rw [← h.nl]; exact h2)
      rw [h3] at h7
      obtain rfl : x = y2 := by have := (Prod.mk.inj h7).1; omega
      obtain rfl : c = k2 := by have := (Prod.mk.inj h7).2; omega
      subst h6
      have := h4.2.1
      omega
  have hnode : ∀ x, x < ord.length → N.getD x nil0 = M.getD (ord.getD x 0) nil0 := fun x hx => by
    obtain ⟨a1, a2⟩ := h.nd x hx
    have a3 := hkids x hx
    exact Prod.ext a1 (Prod.ext a2 a3)
  have hG : G = [] := by
    cases hg : G with
    | nil => rfl
    | cons e G' =>
      obtain ⟨i, h1, h2, h3, p, h4, h5⟩ := (h.inv.gap e).1 (by rw [hg]; simp)
      obtain ⟨p2, k2, y2, k4, k5, k6, k7⟩ := h.sp i h1 (by rw [← h.nl]; exact h2)
      rw [h3] at k7
      rw [k7] at h4 h5
      obtain rfl : y2 = p := by have h4' : (y2 : Int) = p := h4; omega
      have h5' : (N.getD y2 nil0).2.2 < (k2 : Int) := h5
      rw [hkids y2 k5, k6] at h5'
      have := kN_cast hM k4.1
      have := k4.2.1
      omega
  have hR : N.all right = true := all_of fun j hj => by
    rw [hnode j (by rw [← h.nl]; exact hj)]
    have hjM := h.lt _ (mem_at.2 ⟨j, by rw [← h.nl]; exact hj, rfl⟩)
    exact (chk_enough M 1 0 hM).2.2 _ (by rw [List.getD_eq_getElem?_getD, List.getElem?_eq_getElem hjM]; exact List.getElem_mem hjM)
  have hM0 := ok_pos hM
  have hNl : N.length = M.length := by rw [h.nl, hl]
  refine ⟨hG, by rw [wholeB, hR, hG]; simp; omega, hNl, ?_⟩
  have hK := h.inv.kids
  have hv : ∀ f x, x < ord.length → ord.length ≤ x + f → vOf N (chS N S) x = sub M (ord.getD x 0) := by
    intro f
    induction f with
    | zero => intro x h1 h2; omega
    | succ f ih =>
      intro x hx hf
      have hxN : x < N.length := by rw [h.nl]; exact hx
      have hxM : ord.getD x 0 < M.length := h.lt _ (mem_at.2 ⟨x, hx, rfl⟩)
      rw [vOf_step hK hxN, sub_step hM hxM, hnode x hx]
      congr 1
      rw [List.flatMap_def, List.flatMap_def]
      congr 1
      apply List.map_congr_left
      intro k hk
      have hk' := List.mem_range.1 hk
      obtain ⟨h1, h2, h3⟩ := hK x hxN k (by rw [hnode x hx]; exact hk')
      have h2' : chS N S x k < ord.length := by rw [← h.nl]; exact h2
      rw [ih _ h2' (by omega)]
      obtain ⟨p2, k2, y2, k4, k5, k6, k7⟩ := h.sp _ (by omega) h2'
      rw [h3] at k7
      obtain rfl : x = y2 := by have := (Prod.mk.inj k7).1; omega
      obtain rfl : k = k2 := by have := (Prod.mk.inj k7).2; omega
      subst k6
      rw [k4.2.2]
  rw [hv ord.length 0 (by omega) (by omega), h.z (by omega), sub_root hM]
end
end Go.Proofs.YtlbgdgobhiokpaaDoor

/- Value: an arena's value. -/
namespace Go.Proofs.YtlbgdgobhiokpaaDoor
open Go.RowKit
set_option linter.unusedVariables false

theorem own_top {B p : Nat} {st : List Nat} {w : World} {v : Value} (h : w.ownsRow B 3 1 v (p :: st).length (cellsL .i64 (stL (p :: st)))) :
    ∃ g cap, v = .slice (some ⟨g, 0, none⟩) (st.length + 1) cap ∧ st.length + 1 ≤ cap ∧ cap ≤ maxLen ∧ w.cell? ⟨g, st.length, none⟩ = some (.int .i64 (p : Int)) ∧ w.ownsRow B 3 1 (.slice (some ⟨g, 0, none⟩) st.length cap) st.length (cellsL .i64 (stL st)) := by
  obtain ⟨g, cap, ys, e, hb, h1, h2, h3, h4, hK⟩ := own_blk h (by simp)
  rw [List.length_cons] at e h1 h4
  refine ⟨g, cap, e, h1, h2, ?_, ?_⟩
  · have h5 : ys[st.length]? = (ys.take (st.length + 1))[st.length]? := by rw [List.getElem?_take, if_pos (by omega)]
    rw [hK.cell, h5, h4, cellsL_at _ _ _ (by rw [stL_len]; simp), stL_top]
  · rw [e, List.length_cons, stL_cons] at h
    have h6 := own_front h (by omega) (by rw [stL_len]; simp)
    rw [stL_len] at h6
    exact h6
set_option maxRecDepth 100000 in
set_option maxHeartbeats 8000000 in
theorem valueA_err (B b : Nat) (vn vs vm : Value) (N : List Nd) (S G : Stk) (w : World) (hA : Hid (An B w b vn vs vm N S G)) (hN : N.length ≤ 1000000) (hw : wholeB N G = false) :
    Calls Tryd.prog 25 #[.pointer (some ⟨b, 0, none⟩)] w fun e w' => e = .returned (.tuple #[.slice none 0 0, .int .i64 40]) ∧ Below w.heap.size w w' := by
  go_enter Tryd.func25, Tryd.ntmps25
  go_wp2_with fail
  refine (whole_any B b vn vs vm N S G w hA hN).mono ?_; rintro e w1 ⟨rfl, hB1⟩
  rw [hw]
  go_wp2
  go_ret2
  exact ⟨rfl, hB1⟩
set_option maxRecDepth 100000 in
set_option maxHeartbeats 8000000 in
theorem valueA_ok (B b T : Nat) (vn vs vm : Value) (N L : List Nd) (S G : Stk) (ch : Nat → Nat → Nat) (w : World) (hA : Hid (An B w b vn vs vm N S G)) (hN : N.length ≤ 1000000) (hT : N.length = T + 1) (hw : Hid (wholeB N G = true)) (hoff : Hid (offN N N.length = T)) (hks : Hid (∀ j, j < N.length → 0 ≤ (N.getD j nil0).2.2)) (hS : Hid (S.length = N.length)) (hsp : Hid (SpotsIn N S)) (hK : Hid (Kids N S ch)) (hL : Hid (vOf N ch 0 = L)) (hLl : L.length ≤ 1000000) :
    Calls Tryd.prog 25 #[.pointer (some ⟨b, 0, none⟩)] w fun e w' => ∃ v, e = .returned (.tuple #[v, .int .i64 0]) ∧ Hid (w'.ownsRow w.heap.size 37 3 v L.length (cellsN L)) ∧ Hid (Below w.heap.size w w') := by
  obtain ⟨ys, hys, hmk⟩ := make22 N.length hN w
  have HT : Hid (N.length = T + 1) := hT
  clear hT
  go_enter Tryd.func25, Tryd.ntmps25
  go_wp2_with fail
  refine (whole_any B b vn vs vm N S G w hA hN).mono ?_; rintro e w1 ⟨rfl, hB1⟩
  rw [hw.out]
  have HA1 : Hid (An B w1 b vn vs vm N S G) := hA.out.later hB1
  go_wp2_with fail
  refine (kids_any B b T vn vs vm N S G w1 HA1 hN HT.out hoff hks hS hsp).mono ?_; rintro e wk ⟨gk, gr, R, rfl, hgk, hgr, HKd, HRl, HRo, HBk⟩
  have HAk : Hid (An B wk b vn vs vm N S G) := HA1.out.later HBk.out
  have HBw : Hid (Below w.heap.size w wk) := hB1.trans (HBk.out.mono hB1.size)
  obtain ⟨an, cn, rfl, hcn⟩ := HAk.out.vn_is
  have c0 := HAk.out.c0
  obtain ⟨wm, hwm⟩ : ∃ wm, wm = wk.alloc (.cells ys 37) := ⟨_, rfl⟩
  have HBm : Hid (Below wk.heap.size wk wm) := by rw [hwm]; exact (Below.refl _ _).alloc (Nat.le_refl _) _
  have hcap : Hid (N.length ≤ maxLen) := by show _ ≤ _; unfold maxLen; omega
  have HVm : Hid (wm.ownsRow wk.heap.size 37 3 (.slice (some ⟨wk.heap.size, 0, none⟩) 0 N.length) 0 (cellsN [])) := by
    have h := ownS_of_blk (n := 0) (c := 3) (cap := N.length) (Blk.newA wk ys 37) (Nat.le_refl _) (by simpa using hys) (Nat.zero_le _) hcap.out
    rw [← hwm] at h
    rw [Nat.zero_mul, List.take_zero] at h
    exact h
  obtain ⟨wo, hwo⟩ : ∃ wo, wo = wm.alloc (.cells #[.int .i64 0] 3) := ⟨_, rfl⟩
  have HBo : Hid (Below wk.heap.size wk wo) := by rw [hwo]; exact HBm.out.alloc HBm.out.size _
  have HVo : Hid (wo.ownsRow wk.heap.size 37 3 (.slice (some ⟨wk.heap.size, 0, none⟩) 0 N.length) 0 (cellsN [])) := by rw [hwo]; exact HVm.out.alloc _
  have HOo : Hid (wo.ownsRow wk.heap.size 3 1 (.slice (some ⟨wm.heap.size, 0, none⟩) 1 1) 1 (cellsL .i64 (stL [0]))) := by
    have h := (Blk.newA wm #[.int .i64 0] 3).owns wk.heap.size 1 1 HBm.out.size rfl (Nat.le_refl _) (by unfold maxLen; omega)
    rw [← hwo] at h
    exact h
  clear hB1 HA1 HBk hgk
  go_upto_region 5 with fail
  rw [← hwm]
  clear hwm hmk c0 HBm
  go_upto_region 6 with fail
  rw [← hwo]
  clear hwo
  have HD0 : Hid (Dfs N ch L [] [0]) := ⟨by simp [hL.out], fun p hp => by have := HT.out; simp at hp; omega⟩
  go_loopw [5, 6] (fun x5 x6 wr => ∃ (vv vo : Value) (D : List Nd) (st : List Nat), vv = x5 ∧ vo = x6 ∧ Hid (Dfs N ch L D st) ∧ Hid (wr.ownsRow wk.heap.size 37 3 vv D.length (cellsN D)) ∧ Hid (wr.ownsRow wk.heap.size 3 1 vo st.length (cellsL .i64 (stL st))) ∧ Hid (Below wk.heap.size wk wr)) (fun x5 _ _ => match x5 with | .slice _ n _ => L.length - n | _ => 0)
  case atStart => exact ⟨_, _, [], [0], rfl, rfl, HD0, HVo, HOo, HBo⟩
  case round =>
    clear HVm HVo HOo HBo HD0
    obtain ⟨vv, vo, D, st, rfl, rfl, HD, HV, HO, HB⟩ := hrel
    have hlen := HD.out.len hK.out
    obtain ⟨va, vc, rfl⟩ : ∃ a c, vv = .slice a D.length c := by
      rcases HV.out.2 with ⟨e, h0⟩ | ⟨g, cap, cur, e, _⟩
      · exact ⟨none, 0, by rw [e, h0]⟩
      · exact ⟨_, _, e⟩
    cases st with
    | nil =>
      have hDL : D = L := by have := HD.out.tot; simpa using this
      subst hDL
      have hvo0 : ∃ a c, vo = .slice a 0 c := by
        rcases HO.out.2 with ⟨e, _⟩ | ⟨g, cap, cur, e, _⟩ <;> exact ⟨_, _, e⟩
      obtain ⟨ao, co, rfl⟩ := hvo0
      go_wp2
      go_ret2
      exact ⟨_, rfl, own_mono HV.out HBw.out.size, HBw.out.trans (HB.out.mono HBw.out.size)⟩
    | cons p st =>
      have hp := HD.out.ins p (by simp)
      have hp' : (p : Int) < N.length := by omega
      obtain ⟨go, co, rfl, ho1, ho2, o1, o2⟩ := own_top HO.out
      have HO2 : Hid _ := o2
      have HAr : Hid (An B wr b (.slice an N.length cn) vs vm N S G) := HAk.out.later HB.out
      obtain ⟨gn, cn', hvn, -, hn1, hn2, hgn, n0, n1, n2, -, -⟩ := HAr.out.node hp
      have e1 : an = some ⟨gn, 0, none⟩ ∧ cn = cn' := by simpa using hvn
      obtain ⟨rfl, rfl⟩ := e1
      clear hvn
      obtain ⟨⟨xk, xn, xc⟩, hx⟩ : ∃ x, N.getD p nil0 = x := ⟨_, rfl⟩
      have h0c : 0 ≤ xc := by have := hks.out p hp; rw [hx] at this; exact this
      obtain ⟨c, rfl⟩ := Int.eq_ofNat_of_zero_le h0c
      have hkN : Hid (kN (N.getD p nil0) = c) := by show _ = _; rw [hx]; simp [kN]
      have HD2 : Hid (Dfs N ch L (D ++ [(xk, xn, (c : Int))]) ((List.range c).map (ch p) ++ st)) := by
        have h := HD.out.step hK.out
        rw [hkN.out, hx] at h
        exact h
      have hlen2 := HD2.out.len hK.out
      simp only [List.length_append, List.length_cons, List.length_nil, List.length_map, List.length_range] at hlen2 hlen
      rw [hx] at n0 n1 n2
      simp only at n0 n1 n2
      have c0 := HAr.out.c0
      have hgr' : gr < wk.heap.size := HKd.out.rb.lt
      obtain ⟨g9, cap9, w9, r9, ow9, u9, -⟩ := run_pushS (P := Tryd.prog) (t := 22) (e := 37) (z := .agg #[.int .i64 0, .int .u64 0, .int .i64 0]) (bytes := 24) Tryd.underlying22 (by kernel_rfl) rfl (by decide) wr 22 HV.out [.int .i64 xk, .int .u64 xn, .int .i64 (c : Int)] rfl (by intro u hu; simp at hu; rcases hu with rfl | rfl | rfl <;> rfl) (by unfold maxLen; omega) (by omega) HB.out.size
      have R9 : Hid _ := r9
      have HV9 : Hid (w9.ownsRow wk.heap.size 37 3 (.slice (some ⟨g9, 0, none⟩) (D.length + 1) cap9) (D ++ [(xk, xn, (c : Int))]).length (cellsN (D ++ [(xk, xn, (c : Int))]))) := by
        rw [List.length_append, cellsN_append]
        exact ow9
      have HB9 : Hid (Below wk.heap.size wk w9) := HB.out.trans (u9.below _ HB.out.size fun k hk => (HV.out.lt k hk).1)
      have HO9 : Hid (w9.ownsRow wk.heap.size 3 1 (.slice (some ⟨go, 0, none⟩) st.length co) st.length (cellsL .i64 (stL st))) := ownS_upd HO2.out u9 fun k hk hk2 => by
        obtain ⟨ys1, hy⟩ := ownS_type HV.out hk2
        obtain ⟨zs1, hz⟩ := ownS_type HO2.out hk
        exact absurd (blk_type hy hz) (by decide)
      have HA9 : Hid (An B w9 b (.slice (some ⟨gn, 0, none⟩) N.length cn) vs vm N S G) := HAk.out.later HB9.out
      clear r9 ow9 u9 o2
      unfold maxLen at ho2 hn2
      have d0 := HA9.out.c0
      obtain ⟨gn', cn', hvn, -, -, -, -, -, -, d2, -, -⟩ := HA9.out.node hp
      have e1 : gn = gn' ∧ cn = cn' := by simpa using hvn
      obtain ⟨rfl, rfl⟩ := e1
      rw [hx] at d2
      simp only at d2
      clear hvn hx
      go_wp2_with (at_builtin; have _t := R9; refine wpList_append_run rfl (.tmp 35) (.tmp 43) 22 22 rfl rfl rfl R9.out ?_; clear R9)
      go_loopw [6, 8] (fun x6 x8 wr => ∃ (vo : Value) (j : Nat) (y : Int), vo = x6 ∧ x8 = .int .i64 y ∧ y + 1 = j ∧ j ≤ c ∧ Hid (wr.ownsRow wk.heap.size 3 1 vo (heap' ch p c j st).length (cellsL .i64 (stL (heap' ch p c j st)))) ∧ Hid (wr.ownsRow wk.heap.size 37 3 (.slice (some ⟨g9, 0, none⟩) (D.length + 1) cap9) (D ++ [(xk, xn, (c : Int))]).length (cellsN (D ++ [(xk, xn, (c : Int))]))) ∧ Hid (Below wk.heap.size wk wr)) (fun _ x8 _ => (intOf x8 + 1).toNat)
      case atStart => exact ⟨_, c, (c : Int) - 1, rfl, by go_num, by omega, Nat.le_refl _, by rw [heap'_end]; exact HO9.out, HV9, HB9⟩
      case round =>
        clear n0 n1 n2 c0 d0 d2 o1 HV HO HB HO2 HV9 HB9 HO9 HA9 HAr hgn
        obtain ⟨vo, j, y, rfl, rfl, hy, hj, HO, HV, HB⟩ := hrel
        cases j with
        | zero =>
          obtain rfl : y = -1 := by omega
          have hneg : ¬ ((0 : Int) ≤ -1) := by omega
          go_wp2
          go_roundw
          case rel =>
            refine ⟨_, _, D ++ [(xk, xn, (c : Int))], heap' ch p c 0 st, rfl, rfl, ?_, HV, HO, HB⟩
            rw [heap'_zero]
            exact HD2
          case measure => simp; omega
        | succ j =>
          obtain rfl : y = (j : Int) := by omega
          have hjc : j < kN (N.getD p nil0) := by rw [hkN.out]; omega
          have HKr : Hid (Kd wr gk gr N N.length R) := HKd.out.later HB.out
          obtain ⟨x, cc, a5, hxo, hc1, hc2⟩ := HKr.out.at hp
          obtain rfl := hxo (by omega)
          rw [hkN.out] at a5 hc1
          have hin := offN_in N hoff.out hp hjc
          obtain ⟨a6, -⟩ := HKr.out.room (j := offN N p + j) (by rw [HRl.out]; exact hin)
          obtain ⟨hch1, hch2, hch3⟩ := hK.out p hp j hjc
          rw [HRo.out (ch p j) (by omega) hch2 p j hch3] at a6
          have hhl := heap'_len ch p c (j + 1) st
          obtain ⟨g7, cap7, w7, r7, ow7, u7, -⟩ := run_push E43 wr 43 wk.heap.size vo _ _ HO.out (ch p j : Int) (by rw [hhl]; unfold maxLen; omega) (by rw [hhl]; omega) HB.out.size
          have R7 : Hid _ := r7
          have HO7 : Hid (w7.ownsRow wk.heap.size 3 1 (.slice (some ⟨g7, 0, none⟩) ((heap' ch p c (j + 1) st).length + 1) cap7) (heap' ch p c j st).length (cellsL .i64 (stL (heap' ch p c j st)))) := by
            rw [heap'_step ch p c j st (by omega), stL_cons, List.length_cons]
            exact ow7
          have HB7 : Hid (Below wk.heap.size wk w7) := HB.out.trans (u7.below _ HB.out.size fun k hk => (HO.out.lt k hk).1)
          have HV7 : Hid _ := ownS_upd HV.out u7 fun k hk hk2 => by
            obtain ⟨ys1, hy⟩ := ownS_type HO.out hk2
            obtain ⟨zs1, hz⟩ := ownS_type HV.out hk
            exact absurd (blk_type hy hz) (by decide)
          have hj0 : (0 : Int) ≤ (j : Int) := by omega
          have hjc' : (j : Int) < (c : Int) := by omega
          clear r7 ow7 u7 hch1 hch2 hch3 hin HKr hjc hhl HO HV HB hy
          generalize offN N p = of at *
          generalize (heap' ch p c (j + 1) st).length = hl at *
          generalize ch p j = cpj at *
          go_wp2_with (at_builtin; have _t := R7; refine wpList_append_run rfl (.tmp 58) (.tmp 66) 43 43 rfl rfl rfl R7.out ?_; clear R7)
          go_roundw
          case rel => exact ⟨_, j, (j : Int) - 1, rfl, by go_num, by omega, by omega, HO7, HV7, HB7⟩
          case measure => simp [intOf]
end Go.Proofs.YtlbgdgobhiokpaaDoor

/- The document's Number, Right, Check, Next. -/
namespace Go.Proofs.YtlbgdgobhiokpaaDoor
open Go.RowKit
set_option linter.unusedVariables false
set_option linter.unusedSimpArgs false

def numB (k n : Int) : Bool := decide ((1 ≤ k ∧ k ≤ 6) ∧ n ≤ mostN k)
theorem kind_cases (k : Int) : k = 1 ∨ k = 2 ∨ k = 3 ∨ k = 4 ∨ k = 5 ∨ k = 6 ∨ (k ≠ 1 ∧ k ≠ 2 ∧ k ≠ 3 ∧ k ≠ 4 ∧ k ≠ 5 ∧ k ≠ 6) := by omega
set_option maxRecDepth 100000 in
set_option maxHeartbeats 4000000 in
theorem numberD_any (k n : Int) (w : World) (h0 : 0 ≤ n ∧ n ≤ 18446744073709551615) : Calls Tryd.prog 49 #[.int .i64 k, .int .u64 n] w fun e w' => e = .returned (.bool (numB k n)) ∧ w = w' := by
  go_enter Tryd.func49, Tryd.ntmps49
  rcases kind_cases k with rfl | rfl | rfl | rfl | rfl | rfl | ⟨k1, k2, k3, k4, k5, k6⟩
  · have hn : numB 1 n = true := by simp [numB, mostN]; omega
    rw [hn]
    go_wp2
    go_ret
    exact ⟨rfl, rfl⟩
  · by_cases h : n ≤ 1
    · have hn : numB 2 n = true := by simp [numB, mostN]; omega
      rw [hn]
      go_wp2
      go_ret
      exact ⟨by first | rfl | (simp [h]), rfl⟩
    · have hn : numB 2 n = false := by simp [numB, mostN]; omega
      rw [hn]
      go_wp2
      go_ret
      exact ⟨by first | rfl | (simp [h]), rfl⟩
  · by_cases h : n = 0
    · subst h
      go_wp2
      go_ret
      exact ⟨rfl, rfl⟩
    · have hn : numB 3 n = false := by simp [numB, mostN]; omega
      have hb : (n == 0) = false := by simpa using h
      rw [hn]
      go_wp2
      go_ret
      exact ⟨rfl, rfl⟩
  · by_cases h : n = 0
    · subst h
      go_wp2
      go_ret
      exact ⟨rfl, rfl⟩
    · have hn : numB 4 n = false := by simp [numB, mostN]; omega
      have hb : (n == 0) = false := by simpa using h
      rw [hn]
      go_wp2
      go_ret
      exact ⟨rfl, rfl⟩
  · by_cases h : n = 0
    · subst h
      go_wp2
      go_ret
      exact ⟨rfl, rfl⟩
    · have hn : numB 5 n = false := by simp [numB, mostN]; omega
      have hb : (n == 0) = false := by simpa using h
      rw [hn]
      go_wp2
      go_ret
      exact ⟨rfl, rfl⟩
  · by_cases h : n ≤ 255
    · have hn : numB 6 n = true := by simp [numB, mostN]; omega
      rw [hn]
      go_wp2
      go_ret
      exact ⟨by first | rfl | (simp [h]), rfl⟩
    · have hn : numB 6 n = false := by simp [numB, mostN]; omega
      rw [hn]
      go_wp2
      go_ret
      exact ⟨by first | rfl | (simp [h]), rfl⟩
  · have hn : numB k n = false := by simp [numB]; intros; omega
    rw [hn]
    have b1 : (k == 1) = false := by simpa using k1
    have b2 : (k == 2) = false := by simpa using k2
    have b3 : (k == 3) = false := by simpa using k3
    have b4 : (k == 4) = false := by simpa using k4
    have b5 : (k == 5) = false := by simpa using k5
    have b6 : (k == 6) = false := by simpa using k6
    by_cases h : n = 0
    · subst h
      go_wp2
      go_ret
      exact ⟨rfl, rfl⟩
    · have hb : (n == 0) = false := by simpa using h
      go_wp2
      go_ret
      exact ⟨rfl, rfl⟩
set_option maxRecDepth 100000 in
set_option maxHeartbeats 4000000 in
theorem rightD_any (x : Nd) (w : World) (h0 : 0 ≤ x.2.1 ∧ x.2.1 ≤ 18446744073709551615) : Calls Tryd.prog 65 #[ndv x] w fun e w' => e = .returned (.bool (right x)) ∧ Below w.heap.size w w' := by
  obtain ⟨k, n, c⟩ := x
  simp only at h0
  unfold ndv
  obtain ⟨wA, hwA⟩ : ∃ wA, wA = w.alloc (.cells #[.int .i64 k, .int .u64 n, .int .i64 c] 37) := ⟨_, rfl⟩
  have HB : Hid (Below w.heap.size w wA) := by rw [hwA]; exact (Below.refl _ _).alloc (Nat.le_refl _) _
  have K := Blk.newA w #[.int .i64 k, .int .u64 n, .int .i64 c] 37
  rw [← hwA] at K
  have c0 : wA.cell? ⟨w.heap.size, 0, none⟩ = some (.int .i64 k) := K.cell 0
  have c1 : wA.cell? ⟨w.heap.size, 1, none⟩ = some (.int .u64 n) := K.cell 1
  have c2 : wA.cell? ⟨w.heap.size, 2, none⟩ = some (.int .i64 c) := K.cell 2
  go_enter Tryd.func65, Tryd.ntmps65
  go_upto_region 1 with fail
  rw [← hwA]
  clear hwA K
  go_wp2_with fail
  refine (numberD_any k n wA h0).mono ?_; rintro e w1 ⟨rfl, rfl⟩
  cases hnb : numB k n
  · have hr : right (k, n, c) = false := by simp [numB] at hnb; simp [right]; intros; omega
    go_wp2
    go_ret
    exact ⟨by rw [hr]; rfl, HB.out⟩
  · have hnb' : (1 ≤ k ∧ k ≤ 6) ∧ n ≤ mostN k := by simpa [numB] using hnb
    clear hnb
    rcases kind_cases k with rfl | rfl | rfl | rfl | rfl | rfl | ⟨k1, k2, k3, k4, k5, k6⟩
    · by_cases h : c = 0
      · subst h
        have hr : right (1, n, 0) = true := (right_iff _).2 ⟨hnb'.1, hnb'.2, by simp [leastK], by simp [mostK]⟩
        go_wp2
        go_ret
        exact ⟨by rw [hr]; rfl, HB.out⟩
      · have hr : right (1, n, c) = false := by simp [right, leastK, mostK]; intros; omega
        have hb : (c == 0) = false := by simpa using h
        go_wp2
        go_ret
        exact ⟨by rw [hr]; rfl, HB.out⟩
    · by_cases h : c = 0
      · subst h
        have hr : right (2, n, 0) = true := (right_iff _).2 ⟨hnb'.1, hnb'.2, by simp [leastK], by simp [mostK]⟩
        go_wp2
        go_ret
        exact ⟨by rw [hr]; rfl, HB.out⟩
      · have hr : right (2, n, c) = false := by simp [right, leastK, mostK]; intros; omega
        have hb : (c == 0) = false := by simpa using h
        go_wp2
        go_ret
        exact ⟨by rw [hr]; rfl, HB.out⟩
    · by_cases h : 0 ≤ c
      · by_cases h2 : c ≤ 1048576
        · have hr : right (3, n, c) = true := (right_iff _).2 ⟨hnb'.1, hnb'.2, by simpa [leastK] using h, by simpa [mostK] using h2⟩
          go_wp2
          go_ret
          exact ⟨by first | (rw [hr]; rfl) | (rw [hr]; simp [h2]; done) | rfl | (simp [h2]; done), HB.out⟩
        · have hr : right (3, n, c) = false := by simp [right, leastK, mostK]; intros; omega
          go_wp2
          go_ret
          exact ⟨by first | (rw [hr]; rfl) | (rw [hr]; simp [h2]; done) | rfl | (simp [h2]; done), HB.out⟩
      · have hr : right (3, n, c) = false := by simp [right, leastK, mostK]; intros; omega
        go_wp2
        go_ret
        exact ⟨by first | (rw [hr]; rfl) | (rw [hr]; simp [h]; done) | rfl | (simp [h]; done), HB.out⟩
    · by_cases h : 1 ≤ c
      · by_cases h2 : c ≤ 64
        · have hr : right (4, n, c) = true := (right_iff _).2 ⟨hnb'.1, hnb'.2, by simpa [leastK] using h, by simpa [mostK] using h2⟩
          go_wp2
          go_ret
          exact ⟨by first | (rw [hr]; rfl) | (rw [hr]; simp [h2]; done) | rfl | (simp [h2]; done), HB.out⟩
        · have hr : right (4, n, c) = false := by simp [right, leastK, mostK]; intros; omega
          go_wp2
          go_ret
          exact ⟨by first | (rw [hr]; rfl) | (rw [hr]; simp [h2]; done) | rfl | (simp [h2]; done), HB.out⟩
      · have hr : right (4, n, c) = false := by simp [right, leastK, mostK]; intros; omega
        go_wp2
        go_ret
        exact ⟨by first | (rw [hr]; rfl) | (rw [hr]; simp [h]; done) | rfl | (simp [h]; done), HB.out⟩
    · by_cases h : c = 0
      · subst h
        have hr : right (5, n, 0) = true := (right_iff _).2 ⟨hnb'.1, hnb'.2, by simp [leastK], by simp [mostK]⟩
        go_wp2
        go_ret
        exact ⟨by rw [hr]; rfl, HB.out⟩
      · have hb : (c == 0) = false := by simpa using h
        by_cases h2 : c = 1
        · subst h2
          have hr : right (5, n, 1) = true := (right_iff _).2 ⟨hnb'.1, hnb'.2, by simp [leastK], by simp [mostK]⟩
          go_wp2
          go_ret
          exact ⟨by rw [hr]; rfl, HB.out⟩
        · have hb2 : (c == 1) = false := by simpa using h2
          have hr : right (5, n, c) = false := by simp [right, leastK, mostK]; intros; omega
          go_wp2
          go_ret
          exact ⟨by rw [hr]; rfl, HB.out⟩
    · by_cases h : c = 1
      · subst h
        have hr : right (6, n, 1) = true := (right_iff _).2 ⟨hnb'.1, hnb'.2, by simp [leastK], by simp [mostK]⟩
        go_wp2
        go_ret
        exact ⟨by rw [hr]; rfl, HB.out⟩
      · have hr : right (6, n, c) = false := by simp [right, leastK, mostK]; intros; omega
        have hb : (c == 1) = false := by simpa using h
        go_wp2
        go_ret
        exact ⟨by rw [hr]; rfl, HB.out⟩
    · omega
end Go.Proofs.YtlbgdgobhiokpaaDoor
