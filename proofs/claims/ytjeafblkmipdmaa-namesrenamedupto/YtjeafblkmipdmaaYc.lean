/- Names, plain: parents, depths, and that there is one answer. -/
import Derived.Test.YtjeafblkmipdmaaYb
namespace Go.Proofs.Ytjeafblkmipdmaa
open Go.RowKit
set_option linter.unusedVariables false

theorem getD_set_eq (l : List Int) (i : Nat) (v : Int) (h : i < l.length) : (l.set i v).getD i 0 = v := by simp [List.getD, h]
theorem getD_set_ne (l : List Int) (i j : Nat) (v : Int) (h : i ≠ j) : (l.set i v).getD j 0 = l.getD j 0 := by simp [List.getD, List.getElem?_set_ne h]
/-! ### Parents -/
theorem par_spec : ∀ (N : List Nd) (i : Nat) (st : List Int), ctN N st.length → ∀ j, j < N.length → (par N i st).getD j 0 ∈ st ∨ ∃ k, k < j ∧ (par N i st).getD j 0 = ((i + k : Nat) : Int) ∧ 0 < (N.getD k nd0).kids
  | [], i, st, _, j, hj => by simp at hj
  | x :: N, i, [], h, j, hj => by have := h.1; simp at this
  | x :: N, i, s :: st, h, j, hj => by
    rw [par]
    cases j with
    | zero => left; simp
    | succ j =>
      have h2 : ctN N (List.replicate x.kids.toNat (i : Int) ++ st).length := by
        have := h.2.2
        rw [List.length_append, List.length_replicate, Nat.add_comm]
        simpa using this
      have ih := par_spec N (i + 1) (List.replicate x.kids.toNat (i : Int) ++ st) h2 j (by simpa using hj)
      have e : (List.headD (s :: st) 0 :: par N (i + 1) (List.replicate x.kids.toNat (i : Int) ++ List.tail (s :: st))).getD (j + 1) 0 = (par N (i + 1) (List.replicate x.kids.toNat (i : Int) ++ st)).getD j 0 := by simp [List.getD]
      rw [e]
      rcases ih with h3 | ⟨k, hk, e1, e2⟩
      · rcases List.mem_append.1 h3 with h3 | h3
        · obtain ⟨h4, h5⟩ := List.mem_replicate.1 h3
          right
          refine ⟨0, by omega, by rw [h5]; simp, ?_⟩
          simp [List.getD]
          omega
        · left; exact .tail _ h3
      · right
        refine ⟨k + 1, by omega, by rw [e1]; congr 1; omega, ?_⟩
        simpa [List.getD] using e2
/-- What the parents of a tree's nodes are like. -/
structure ParOk (N : List Nd) (P : List Int) : Prop where
  len : P.length = N.length
  first : 0 < N.length → P.getD 0 0 = -1
  later : ∀ i, 0 < i → i < N.length → 0 ≤ P.getD i 0 ∧ P.getD i 0 < i ∧ 0 < (N.getD (P.getD i 0).toNat nd0).kids
theorem parP_ok {N : List Nd} (h : ctN N 1) : ParOk N (parP N) := by
  refine ⟨parP_len N, fun h0 => ?_, fun i h0 hi => ?_⟩
  · cases N with
    | nil => simp at h0
    | cons x N => rfl
  · cases N with
    | nil => simp at hi
    | cons x N =>
      obtain ⟨j, rfl⟩ : ∃ j, i = j + 1 := ⟨i - 1, by omega⟩
      have h2 : ctN N (List.replicate x.kids.toNat (0 : Int)).length := by
        have := h.2.2
        rw [List.length_replicate]
        simpa using this
      have e : (parP (x :: N)).getD (j + 1) 0 = (par N 1 (List.replicate x.kids.toNat (0 : Int))).getD j 0 := by
        unfold parP
        rw [par]
        simp [List.getD]
      rw [e]
      rcases par_spec N 1 _ h2 j (by simpa using hi) with h3 | ⟨k, hk, e1, e2⟩
      · obtain ⟨h4, h5⟩ := List.mem_replicate.1 h3
        rw [h5]
        refine ⟨by omega, by omega, ?_⟩
        simp [List.getD]
        omega
      · rw [e1]
        refine ⟨by omega, by omega, ?_⟩
        have : (((1 + k : Nat) : Int)).toNat = k + 1 := by omega
        rw [this]
        simpa [List.getD] using e2
theorem Forest.kinds : ∀ (fu d : Nat) (k : Int) (n : Nat) (N : List Nd), Forest fu d k n N → ∀ x ∈ N, ∃ of dp, ndE x of dp = 0
  | 0, d, k, n, N, h, x, hx => by obtain ⟨_, rfl⟩ := h; cases hx
  | fu + 1, d, k, 0, N, h, x, hx => by have h : N = [] := h; subst h; cases hx
  | fu + 1, d, k, n + 1, N, h, x, hx => by
    obtain ⟨y, A, B, rfl, h1, h2, h3⟩ := h
    rcases List.mem_cons.1 hx with rfl | hx
    · exact ⟨_, _, h1⟩
    · rcases List.mem_append.1 hx with hx | hx
      · exact Forest.kinds fu _ _ _ A h2 x hx
      · exact Forest.kinds fu _ _ _ B h3 x hx
theorem ndE_nine {x : Nd} {of : Int} {dp : Nat} (h : ndE x of dp = 0) (h9 : x.k = 9) : x.kids = 0 := by
  unfold ndE nodeE at h
  by_cases h1 : 16 < dp
  · rw [if_pos h1] at h; omega
  rw [if_neg h1] at h
  by_cases h2 : (x.k = 8 ∨ x.k = 7) ∧ 64 < x.kids
  · rw [if_pos h2] at h; omega
  rw [if_neg h2] at h
  cases h3 : kindOk x.k x.n x.kids with
  | false => rw [if_pos (.inl h3)] at h; omega
  | true =>
    unfold kindOk at h3
    rw [if_neg (by omega), if_pos (by omega)] at h3
    have := of_decide_eq_true h3
    omega
/-- No name has kids. -/
def NineOk (N : List Nd) : Prop := ∀ x ∈ N, x.k = 9 → x.kids = 0
theorem NineOk.at {N : List Nd} (h : NineOk N) {i : Nat} (hk : 0 < (N.getD i nd0).kids) : (N.getD i nd0).k ≠ 9 := by
  intro h9
  rcases Nat.lt_or_ge i N.length with hi | hi
  · have e : N.getD i nd0 = N[i]'hi := by simp [List.getD, hi]
    rw [e] at hk h9
    have := h _ (List.getElem_mem hi) h9
    omega
  · have e : N.getD i nd0 = nd0 := by simp [List.getD, hi]
    rw [e] at h9
    simp [nd0] at h9
/-! ### Depths -/
section
variable {f : ByteArray → Int} {N : List Nd} {P : List Int}
def hgV (f : ByteArray → Int) (x : Nd) (i : Nat) (ds : List Int) : Int := max (if x.k = 9 then f x.name else ds.getD i 0) 1
theorem hgS_len (x : Nd) (p : Int) (i : Nat) (ds : List Int) : (hgS f x p i ds).length = ds.length := by
  unfold hgS
  dsimp only
  by_cases h : 0 ≤ p
  · rw [if_pos h]; simp
  · rw [if_neg h]; simp
theorem hgL_len : ∀ (i : Nat) (ds : List Int), (hgL f N P i ds).length = ds.length
  | 0, ds => rfl
  | i + 1, ds => by rw [hgL, hgL_len, hgS_len]
theorem hgS_at (x : Nd) (p : Int) (i : Nat) (ds : List Int) (hi : i < ds.length) (hp : p < i) : (hgS f x p i ds).getD i 0 = hgV f x i ds := by
  unfold hgS hgV
  by_cases h : 0 ≤ p
  · rw [if_pos h, getD_set_ne _ _ _ _ (by omega), getD_set_eq _ _ _ hi]
  · rw [if_neg h, getD_set_eq _ _ _ hi]
theorem hgS_par (x : Nd) (p : Int) (i : Nat) (ds : List Int) (hi : i < ds.length) (hp : p < i) (h0 : 0 ≤ p) : (hgS f x p i ds).getD p.toNat 0 = max (ds.getD p.toNat 0) (hgV f x i ds + 1) := by
  unfold hgS hgV
  rw [if_pos h0, getD_set_eq _ _ _ (by simp; omega), getD_set_ne _ _ _ _ (by omega)]
theorem hgS_other (x : Nd) (p : Int) (i q : Nat) (ds : List Int) (hq : q ≠ i) (hp : (q : Int) ≠ p) : (hgS f x p i ds).getD q 0 = ds.getD q 0 := by
  unfold hgS
  by_cases h : 0 ≤ p
  · rw [if_pos h, getD_set_ne _ _ _ _ (by omega), getD_set_ne _ _ _ _ (by omega)]
  · rw [if_neg h, getD_set_ne _ _ _ _ (by omega)]
theorem hg_ge (hP : ParOk N P) (h9 : NineOk N) : ∀ (i : Nat) (ds : List Int), i ≤ N.length → ds.length = N.length → ∀ q, q < i → ((N.getD q nd0).k ≠ 9 ∨ ds.getD q 0 ≤ 0) → ds.getD q 0 ≤ (hgL f N P i ds).getD 0 0 ∧ 1 ≤ (hgL f N P i ds).getD 0 0
  | 0, ds, _, _, q, hq, _ => by omega
  | i + 1, ds, hi, hl, q, hq, hc => by
    rw [hgL]
    have hpi : P.getD i 0 < i := by
      rcases Nat.eq_zero_or_pos i with rfl | h0
      · rw [hP.first (by omega)]; omega
      · exact (hP.later i h0 (by omega)).2.1
    have hv : hgV f (N.getD i nd0) i ds ≥ 1 := by unfold hgV; omega
    rcases Nat.eq_zero_or_pos i with rfl | h0
    · obtain rfl : q = 0 := by omega
      rw [hgL, hgS_at _ _ _ _ (by omega) hpi]
      refine ⟨?_, hv⟩
      rcases hc with hc | hc
      · unfold hgV; rw [if_neg hc]; omega
      · omega
    · obtain ⟨p0, _, pk⟩ := hP.later i h0 (by omega)
      have hn := h9.at pk
      by_cases hqi : q = i
      · subst hqi
        have := hg_ge hP h9 q (hgS f (N.getD q nd0) (P.getD q 0) q ds) (by omega) (by rw [hgS_len]; exact hl) (P.getD q 0).toNat (by omega) (.inl hn)
        rw [hgS_par _ _ _ _ (by omega) hpi p0] at this
        have hq2 : ds.getD q 0 ≤ hgV f (N.getD q nd0) q ds ∨ ds.getD q 0 ≤ 0 := by
          rcases hc with hc | hc
          · left; unfold hgV; rw [if_neg hc]; omega
          · right; exact hc
        omega
      · by_cases hqp : (q : Int) = P.getD i 0
        · have hq' : (P.getD i 0).toNat = q := by omega
          have := hg_ge hP h9 i (hgS f (N.getD i nd0) (P.getD i 0) i ds) (by omega) (by rw [hgS_len]; exact hl) q (by omega) (.inl (by rw [← hq']; exact hn))
          have e := hgS_par (f := f) (N.getD i nd0) (P.getD i 0) i ds (by omega) hpi p0
          rw [hq'] at e
          rw [e] at this
          omega
        · have e := hgS_other (f := f) (N.getD i nd0) (P.getD i 0) i q ds hqi hqp
          have := hg_ge hP h9 i (hgS f (N.getD i nd0) (P.getD i 0) i ds) (by omega) (by rw [hgS_len]; exact hl) q (by omega) (by rw [e]; exact hc)
          rw [e] at this
          exact this
theorem hg_name (hP : ParOk N P) (h9 : NineOk N) (j : Nat) (hj9 : (N.getD j nd0).k = 9) : ∀ (i : Nat) (ds : List Int), i ≤ N.length → ds.length = N.length → j < i → f (N.getD j nd0).name ≤ (hgL f N P i ds).getD 0 0
  | 0, ds, _, _, h => by omega
  | i + 1, ds, hi, hl, hj => by
    rw [hgL]
    have hpi : P.getD i 0 < i := by
      rcases Nat.eq_zero_or_pos i with rfl | h0
      · rw [hP.first (by omega)]; omega
      · exact (hP.later i h0 (by omega)).2.1
    by_cases hji : j = i
    · subst hji
      have hv : f (N.getD j nd0).name ≤ hgV f (N.getD j nd0) j ds := by unfold hgV; rw [if_pos hj9]; omega
      rcases Nat.eq_zero_or_pos j with rfl | h0
      · rw [hgL, hgS_at _ _ _ _ (by omega) hpi]; exact hv
      · obtain ⟨p0, _, pk⟩ := hP.later j h0 (by omega)
        have := hg_ge (f := f) hP h9 j (hgS f (N.getD j nd0) (P.getD j 0) j ds) (by omega) (by rw [hgS_len]; exact hl) (P.getD j 0).toNat (by omega) (.inl (h9.at pk))
        rw [hgS_par _ _ _ _ (by omega) hpi p0] at this
        omega
    · exact hg_name hP h9 j hj9 i _ (by omega) (by rw [hgS_len]; exact hl) (by omega)
theorem hgS_congr {g : ByteArray → Int} (x : Nd) (h : x.k = 9 → f x.name = g x.name) (p : Int) (i : Nat) (ds : List Int) : hgS f x p i ds = hgS g x p i ds := by
  unfold hgS
  by_cases h9 : x.k = 9
  · rw [if_pos h9, if_pos h9, h h9]
  · rw [if_neg h9, if_neg h9]
theorem hgL_congr {g : ByteArray → Int} (h : ∀ x ∈ N, x.k = 9 → f x.name = g x.name) : ∀ (i : Nat) (ds : List Int), i ≤ N.length → hgL f N P i ds = hgL g N P i ds
  | 0, ds, _ => rfl
  | i + 1, ds, hi => by
    rw [hgL, hgL, hgS_congr (g := g) _ (fun h9 => ?_), hgL_congr h i _ (by omega)]
    have e : N.getD i nd0 = N[i]'(by omega) := by simp [List.getD, show i < N.length by omega]
    rw [e] at h9 ⊢
    exact h _ (List.getElem_mem _) h9
end
theorem hgt_congr {f g : ByteArray → Int} {N : List Nd} (h : ∀ x ∈ N, x.k = 9 → f x.name = g x.name) : hgt f N = hgt g N := by
  unfold hgt
  rw [hgL_congr h _ _ (Nat.le_refl _)]
theorem hgt_one {f : ByteArray → Int} {N : List Nd} (hc : ctN N 1) (h9 : NineOk N) : 1 ≤ hgt f N := by
  have h0 := ctN_le N 1 hc
  have := hg_ge (f := f) (parP_ok hc) h9 N.length (List.replicate N.length 0) (Nat.le_refl _) (by simp) 0 (by omega) (.inr (by rw [List.getD_eq_getElem?_getD, List.getElem?_replicate]; split <;> simp))
  exact this.2
theorem hgt_name {f : ByteArray → Int} {N : List Nd} (hc : ctN N 1) (h9 : NineOk N) {x : Nd} (hx : x ∈ N) (hk : x.k = 9) : f x.name ≤ hgt f N := by
  obtain ⟨j, hj, rfl⟩ := List.getElem_of_mem hx
  have e : N.getD j nd0 = N[j]'hj := by simp [List.getD, hj]
  have := hg_name (f := f) (parP_ok hc) h9 j (by rw [e]; exact hk) N.length (List.replicate N.length 0) (Nat.le_refl _) (by simp) hj
  rw [e] at this
  exact this
/-! ### Uses -/
theorem us_fold (D : List Df) : ∀ (N : List Nd) (acc : List Nat) (u : Nat), u ∈ N.foldl (usAdd D) acc ↔ u ∈ acc ∨ ∃ x ∈ N, x.k = 9 ∧ u = numZ D x.name
  | [], acc, u => by simp
  | x :: N, acc, u => by
    rw [List.foldl_cons, us_fold D N]
    have h : u ∈ usAdd D acc x ↔ u ∈ acc ∨ (x.k = 9 ∧ u = numZ D x.name) := by
      unfold usAdd
      by_cases h9 : x.k = 9
      · rw [if_pos h9]
        by_cases hm : numZ D x.name ∈ acc
        · rw [if_pos hm]
          exact ⟨.inl, fun h => h.elim id (fun h => by rw [h.2]; exact hm)⟩
        · rw [if_neg hm]
          simp [h9]
      · rw [if_neg h9]
        simp [h9]
    rw [h]
    simp only [List.mem_cons, or_assoc]
    constructor
    · rintro (h | h | ⟨y, h1, h2⟩)
      · exact .inl h
      · exact .inr ⟨x, .inl rfl, h⟩
      · exact .inr ⟨y, .inr h1, h2⟩
    · rintro (h | ⟨y, rfl | h1, h2⟩)
      · exact .inl h
      · exact .inr (.inl h2)
      · exact .inr (.inr ⟨y, h1, h2⟩)
theorem mem_usT {D : List Df} {N : List Nd} {u : Nat} : u ∈ usT D N ↔ ∃ x ∈ N, x.k = 9 ∧ u = numZ D x.name := by
  unfold usT
  rw [us_fold]
  simp
theorem us_usD {D : List Df} {i : Nat} {d : Df} (h : D[i]? = some d) : us (usD D) i = usT D d.ty := by
  unfold us usD
  rw [List.getD_eq_getElem?_getD, List.getElem?_map, h]
  rfl
theorem us_usD' {D : List Df} {i u : Nat} (h : u ∈ us (usD D) i) : ∃ d, D[i]? = some d ∧ u ∈ usT D d.ty := by
  have hi := us_lt h
  rw [usD_len] at hi
  refine ⟨_, List.getElem?_eq_getElem hi, ?_⟩
  rwa [us_usD (List.getElem?_eq_getElem hi)] at h
theorem numZ_lt {D : List Df} (s : ByteArray) (h : 0 < D.length) : numZ D s < D.length := by
  unfold numZ
  cases e : numN D s with
  | none => exact h
  | some i => exact numN_lt e
theorem usD_rng (D : List Df) : Rng (usD D) := by
  intro a u hu
  obtain ⟨d, hd, hu⟩ := us_usD' hu
  obtain ⟨x, _, _, rfl⟩ := mem_usT.1 hu
  rw [usD_len]
  exact numZ_lt _ (by have := (List.getElem?_eq_some_iff.1 hd).1; omega)
/-! ### There is one answer -/
theorem DepR.det {D : List Df} {p : List Nat} {q1 q2 : List Int} (hp : Ordr (usD D) p) (hl : p.length = D.length) (h1 : DepR D q1) (h2 : DepR D q2) : q1 = q2 := by
  have key : ∀ i n : Nat, p[i]? = some n → q1.getD n 0 = q2.getD n 0 := by
    intro i
    induction i using Nat.strongRecOn with
    | ind i ih =>
      intro n hn
      have hlt := (hp i n hn).1
      rw [usD_len] at hlt
      have hd : D[n]? = some (D[n]'hlt) := List.getElem?_eq_getElem hlt
      rw [h1.2 n _ hd, h2.2 n _ hd]
      refine hgt_congr fun x hx h9 => ?_
      have hu : numZ D x.name ∈ us (usD D) n := by rw [us_usD hd]; exact mem_usT.2 ⟨x, hx, h9, rfl⟩
      obtain ⟨j, hj, e⟩ := hp.at_mem hn hu
      exact ih j hj _ e
  apply List.ext_getElem?
  intro n
  rcases Nat.lt_or_ge n D.length with hn | hn
  · have hm := hp.all (by rw [hl, usD_len]) (n := n) (by rw [usD_len]; exact hn)
    obtain ⟨i, hi, e⟩ := List.getElem_of_mem hm
    have := key i n (by rw [← e]; exact List.getElem?_eq_getElem hi)
    have e1 : q1[n]? = some (q1[n]'(by rw [h1.1]; exact hn)) := List.getElem?_eq_getElem _
    have e2 : q2[n]? = some (q2[n]'(by rw [h2.1]; exact hn)) := List.getElem?_eq_getElem _
    rw [List.getD_eq_getElem?_getD, List.getD_eq_getElem?_getD, e1, e2] at this
    rw [e1, e2]
    exact congrArg some this
  · rw [List.getElem?_eq_none (by rw [h1.1]; exact hn), List.getElem?_eq_none (by rw [h2.1]; exact hn)]
theorem LookTo.det {D : List Df} {E E' A A' : Int} {o o' : List Nat} {ds ds' : List Int} (h : LookTo D E A o ds) (k : LookTo D E' A' o' ds') : E = E' ∧ A = A' ∧ o = o' ∧ ds = ds' := by
  unfold LookTo at h k
  by_cases h1 : (ckP D).2.2 = 0
  · rw [if_pos h1] at h k
    by_cases h2 : (lkD D D 0).1 = 0
    · rw [if_pos h2] at h k
      rcases h with ⟨i, d, e1, e2, e3, rfl, rfl, rfl, rfl⟩ | ⟨hA, p, qs, e1, e2, e3, h⟩
      · rcases k with ⟨j, d', k1, k2, k3, rfl, rfl, rfl, rfl⟩ | ⟨hA, _⟩
        · have : i = j := by
            rcases Nat.lt_trichotomy i j with h | h | h
            · exact absurd e2 (k3 i h)
            · exact h
            · exact absurd k2 (e3 j h)
          subst this
          rw [e1] at k1
          injection k1 with k1
          subst k1
          exact ⟨rfl, rfl, rfl, rfl⟩
        · exact absurd e2 (hA i)
      · rcases k with ⟨j, d', k1, k2, _⟩ | ⟨_, p', qs', k1, k2, k3, k⟩
        · exact absurd k2 (hA j)
        · obtain rfl := e1.det k1 (by omega)
          obtain rfl := DepR.det e1 e2 e3 k3
          rcases h with ⟨i, d, a1, a2, a3, rfl, rfl, rfl, rfl⟩ | ⟨a1, rfl, rfl, rfl, rfl⟩
          · rcases k with ⟨j, d', b1, b2, b3, rfl, rfl, rfl, rfl⟩ | ⟨b1, _⟩
            · have : i = j := by
                rcases Nat.lt_trichotomy i j with h | h | h
                · have := b3 i h; omega
                · exact h
                · have := a3 j h; omega
              subst this
              rw [a1] at b1
              injection b1 with b1
              subst b1
              exact ⟨rfl, rfl, rfl, rfl⟩
            · have := b1 i; omega
          · rcases k with ⟨j, d', b1, b2, _⟩ | ⟨b1, rfl, rfl, rfl, rfl⟩
            · have := a1 j; omega
            · exact ⟨rfl, rfl, rfl, rfl⟩
    · rw [if_neg h2] at h k
      obtain ⟨rfl, rfl, rfl, rfl⟩ := h
      obtain ⟨rfl, rfl, rfl, rfl⟩ := k
      exact ⟨rfl, rfl, rfl, rfl⟩
  · rw [if_neg h1] at h k
    obtain ⟨rfl, rfl, rfl, rfl⟩ := h
    obtain ⟨rfl, rfl, rfl, rfl⟩ := k
    exact ⟨rfl, rfl, rfl, rfl⟩
end Go.Proofs.Ytjeafblkmipdmaa
