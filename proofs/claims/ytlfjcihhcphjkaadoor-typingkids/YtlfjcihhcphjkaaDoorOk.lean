/- typing.Types, plain: the walk round by round. -/
import Derived.Test.YtlfjcihhcphjkaaDoorOa
namespace Go.Proofs.YtlfjcihhcphjkaaDoor
open Go.RowKit
set_option linter.unusedVariables false

theorem chkV_step {M a : Int} {x : Nv} {l : List Nv} (h : (chkV M a (x :: l)).1 = 0) : M ≠ 0 ∧ rightV x = true ∧ (chkV (M + (x.kids - 1)) (a + 1) l).1 = 0 := by
  rw [chkV] at h
  split at h
  · cases h
  · rename_i hn
    exact ⟨fun e => hn (.inl e), by cases hx : rightV x with | true => rfl | false => exact absurd (.inr hx) hn, h⟩
theorem chkV_le : ∀ (l : List Nv) (M a : Int), 0 ≤ M → (chkV M a l).1 = 0 → M ≤ l.length
  | [], M, a, h0, h => by
    rw [chkV] at h
    split at h
    · cases h
    · simp; omega
  | x :: l, M, a, h0, h => by
    obtain ⟨h1, h2, h3⟩ := chkV_step h
    have hk := rightV_kids h2
    have := chkV_le l _ _ (by omega) h3
    simp
    omega
theorem chkV_ok : ∀ (l : List Nv) (M a : Int), (chkV M a l).1 = 0 → chkV M a l = (0, 0)
  | [], M, a, h => by
    rw [chkV] at h ⊢
    split at h
    · cases h
    · rename_i hn; rw [if_neg hn]
  | x :: l, M, a, h => by
    obtain ⟨h1, h2, h3⟩ := chkV_step h
    rw [chkV, if_neg (by simp [h1, h2])]
    exact chkV_ok l _ _ h3
theorem wkT_ok (T : List Ty) : ∀ (v : List Nv) (st : List Int) (i : Nat), (wkT T st v i).2.1 = 0 → (wkT T st v i).2.2 = 0
  | [], [], i, h => rfl
  | [], s :: st, i, h => rfl
  | x :: v, [], i, h => rfl
  | x :: v, s :: st, i, h => by
    rw [wkT] at h ⊢
    split at h
    · rename_i hn; exact absurd h hn
    · rename_i hn
      rw [if_neg hn]
      dsimp only at h ⊢
      split at h
      · rename_i hm; exact absurd h hm
      · rename_i hm; rw [if_neg hm]
/-- What has been found, ahead of what is still found. -/
def apT (nums : List Int) (r : List Int × Int × Int) : List Int × Int × Int := if r.2.1 ≠ 0 then r else (nums ++ r.1, 0, 0)
theorem misP_kind {t : Ty} {x : Nv} (h : misP t x = 0) : x.k = nkind t.k := by
  unfold misP at h
  split at h
  · cases h
  · rename_i hn; exact Decidable.of_not_not hn
theorem kid0 {x : Nv} (h : rightV x = true) (hk : x.k = 1 ∨ x.k = 2) : x.kids = 0 := by
  have := (rightV_iff x).1 h
  unfold leastK mostK at this
  rcases hk with e | e <;> rw [e] at this <;> simp at this <;> omega
theorem kid1 {x : Nv} (h : rightV x = true) (hk : x.k = 6) : x.kids = 1 := by
  have := (rightV_iff x).1 h
  unfold leastK mostK at this
  rw [hk] at this
  simp at this
  omega
theorem misP_arm {t : Ty} {x : Nv} (h : misP t x = 0) (hk : t.k = 7) : ∃ m p, armI t.ps x.n = some m ∧ t.ps[m]? = some p ∧ p.tag = x.n := by
  unfold misP at h
  split at h
  · cases h
  · simp [hk] at h
    obtain ⟨m, hm⟩ := Option.isSome_iff_exists.1 (Option.isSome_iff_ne_none.2 h)
    obtain ⟨p, hp, hpt⟩ := armI_some hm
    exact ⟨m, p, hm, hp, hpt⟩
theorem misP_struct {t : Ty} {x : Nv} (h : misP t x = 0) (hk : t.k = 8) : x.kids = t.ps.length := by
  unfold misP at h
  split at h
  · cases h
  · simp [hk] at h
    omega
theorem kidsT_len {t : Ty} {x : Nv} {i : Int} (hok : tyOk t i = true) (hf : misP t x = 0) (hr : rightV x = true) : ((kidsT t x).length : Int) = x.kids := by
  have hk := misP_kind hf
  unfold kidsT
  by_cases h7 : t.k = 7
  · rw [if_pos h7]
    rw [h7] at hk
    simp [kid1 hr hk]
  rw [if_neg h7]
  by_cases h8 : t.k = 8
  · rw [if_pos h8, misP_struct hf h8]
    simp
  rw [if_neg h8]
  have := rightV_kids hr
  simp
  omega
theorem kidsT_in {t : Ty} {x : Nv} {i : Int} (hok : tyOk t i = true) (hf : misP t x = 0) (hr : rightV x = true) : ∀ s ∈ kidsT t x, 0 ≤ s ∧ s < i := by
  have hk := misP_kind hf
  intro s hs
  unfold kidsT at hs
  by_cases h7 : t.k = 7
  · rw [if_pos h7] at hs
    obtain ⟨m, p, hm, hp, -⟩ := misP_arm hf h7
    simp [hm, List.getD, hp] at hs
    rw [hs]
    exact tyOk_part hok hp
  rw [if_neg h7] at hs
  by_cases h8 : t.k = 8
  · rw [if_pos h8] at hs
    obtain ⟨p, hp, rfl⟩ := List.mem_map.1 hs
    obtain ⟨m, hm⟩ := List.getElem?_of_mem hp
    exact tyOk_part hok hm
  rw [if_neg h8] at hs
  obtain ⟨h0, rfl⟩ := List.mem_replicate.1 hs
  have hE : hasE t.k = true := by
    have h := tyOk_kind hok
    unfold hasE
    refine decide_eq_true ?_
    rcases h with h | h | h | h | h | h | h | h
    · rw [h] at hk; have := kid0 hr (.inl hk); omega
    · rw [h] at hk; have := kid0 hr (.inr hk); omega
    · rw [h] at hk; have := kid0 hr (.inl hk); omega
    · omega
    · omega
    · omega
    · exact absurd h h7
    · exact absurd h h8
  exact tyOk_elem hok hE
/-- The walk has come to node number i. -/
structure WkI (T : List Ty) (t : Int) (V : List Nv) (i : Nat) (st nums : List Int) : Prop where
  inT : ∀ s ∈ st, 0 ≤ s ∧ s < T.length
  chk : (chkV (st.length : Int) (i : Int) (V.drop i)).1 = 0
  ans : wkT T [t] V 0 = apT nums (wkT T st (V.drop i) i)
  len : nums.length = i
theorem WkI.start {T : List Ty} {t : Int} {V : List Nv} (h0 : 0 ≤ t) (h1 : t < T.length) (hc : (chkV 1 0 V).1 = 0) : WkI T t V 0 [t] [] := by
  refine ⟨fun s hs => by simp at hs; omega, by simpa using hc, ?_, rfl⟩
  unfold apT
  by_cases h : (wkT T [t] V 0).2.1 = 0
  · have h2 := wkT_ok T V [t] 0 h
    simp only [List.drop_zero]
    rw [if_neg (by simp [h])]
    simp only [List.nil_append]
    generalize wkT T [t] V 0 = r at *
    obtain ⟨r1, r2, r3⟩ := r
    simp only at h h2
    subst h h2
    rfl
  · simp only [List.drop_zero]
    rw [if_pos h]
theorem WkI.small {T : List Ty} {t : Int} {V : List Nv} {i : Nat} {st nums : List Int} (h : WkI T t V i st nums) : st.length ≤ V.length := by
  have := chkV_le _ _ _ (by omega) h.chk
  simp at this
  omega
theorem WkI.next {T : List Ty} {R : List Rt} {t : Int} {V : List Nv} {i : Nat} {st nums : List Int} {x : Nv} (h : WkI T t V i st nums) (hS : OkS T R) (hx : V[i]? = some x) :
    ∃ s r, st = s :: r ∧ 0 ≤ s ∧ s < T.length ∧ rightV x = true ∧ (misP (T.getD s.toNat ty0) x ≠ 0 → wkT T [t] V 0 = ([], misP (T.getD s.toNat ty0) x, (i : Int))) ∧
      (misP (T.getD s.toNat ty0) x = 0 → WkI T t V (i + 1) (kidsT (T.getD s.toNat ty0) x ++ r) (nums ++ [s])) := by
  have hi := (List.getElem?_eq_some_iff.1 hx).1
  have hd : V.drop i = x :: V.drop (i + 1) := by rw [List.drop_eq_getElem_cons hi, (List.getElem?_eq_some_iff.1 hx).2]
  have hc := h.chk
  rw [hd] at hc
  obtain ⟨h1, h2, h3⟩ := chkV_step hc
  cases st with
  | nil => exact absurd rfl h1
  | cons s r =>
    obtain ⟨hs0, hs1⟩ := h.inT s (by simp)
    have hans := h.ans
    rw [hd, wkT] at hans
    have hok := hS.ty s.toNat (by omega)
    rw [show ((s.toNat : Nat) : Int) = s by omega] at hok
    refine ⟨s, r, rfl, hs0, hs1, h2, fun hm => ?_, fun hm => ?_⟩
    · rw [if_pos hm] at hans
      rw [hans]
      unfold apT
      rw [if_pos hm]
    · have hl := kidsT_len hok hm h2
      refine ⟨fun s' hs' => ?_, ?_, ?_, by simp [h.len]⟩
      · rcases List.mem_append.1 hs' with hs' | hs'
        · have := kidsT_in hok hm h2 s' hs'; omega
        · exact h.inT s' (by simp [hs'])
      · have e : (((kidsT (T.getD s.toNat ty0) x ++ r).length : Nat) : Int) = (((s :: r).length : Nat) : Int) + (x.kids - 1) := by
          rw [List.length_append, List.length_cons]
          omega
        rw [e]
        exact h3
      · rw [if_neg (by simpa using hm)] at hans
        rw [hans]
        generalize wkT T (kidsT (T.getD s.toNat ty0) x ++ r) (V.drop (i + 1)) (i + 1) = q
        unfold apT
        by_cases hz : q.2.1 = 0
        · simp only [hz, ne_eq, not_true_eq_false, if_false]
          simp
        · simp only [hz, ne_eq, not_false_eq_true, if_true]
theorem WkI.done {T : List Ty} {t : Int} {V : List Nv} {st nums : List Int} (h : WkI T t V V.length st nums) : st = [] ∧ wkT T [t] V 0 = (nums, 0, 0) := by
  have hc := h.chk
  have ha := h.ans
  rw [List.drop_length] at hc ha
  have h0 : (st.length : Int) ≤ ([] : List Nv).length := chkV_le _ _ _ (by omega) hc
  have h1 : (([] : List Nv).length : Int) = 0 := rfl
  have hst : st = [] := List.eq_nil_of_length_eq_zero (by omega)
  subst hst
  refine ⟨rfl, ?_⟩
  rw [ha]
  simp [apT, wkT]

theorem pickA_in (p : List Int) (i : Nat) : 0 ≤ pickA p i ∧ pickA p i < 18446744073709551616 := by
  unfold pickA
  split
  · exact ⟨Int.emod_nonneg _ (by decide), Int.emod_lt_of_pos _ (by decide)⟩
  · decide
theorem nOk_of {t : Ty} {i : Int} (h : tyOk t i = true) : (t.k = 1 ∧ (t.n = 1 ∨ t.n = 2 ∨ t.n = 4 ∨ t.n = 8)) ∨ ((t.k = 4 ∨ t.k = 5) ∧ 1 ≤ t.n ∧ t.n ≤ 1048576) ∨ ((t.k = 2 ∨ t.k = 3 ∨ t.k = 6 ∨ t.k = 7 ∨ t.k = 8) ∧ t.n = 0) := by
  have h1 := (tyOk_parts h).1
  unfold nOk at h1
  exact of_decide_eq_true h1
theorem tyOk_some' {t : Ty} {i : Int} (h : tyOk t i = true) (hk : t.k = 7 ∨ t.k = 8) : 0 < t.ps.length := by
  have h3 := (tyOk_parts h).2.2
  have key : ∀ r, allP r t.ps i = true → 0 < t.ps.length := fun r hr => by
    unfold allP at hr
    rw [Bool.and_eq_true, decide_eq_true_eq] at hr
    omega
  unfold partsOk at h3
  split at h3
  · exact key _ h3
  · rw [if_pos (by omega)] at h3
    exact key _ h3
theorem armI_isSome {ps : List Pt} {m : Nat} {p : Pt} (h : ps[m]? = some p) : (armI ps p.tag).isSome = true := by
  unfold armI
  rw [List.findIdx?_isSome]
  rw [List.any_eq_true]
  exact ⟨p, List.mem_of_getElem? h, by simp⟩
/-- What a pick leads to is a right node, and fits. -/
theorem pick_fits {t : Ty} {i p : Int} (hok : tyOk t i = true) (hp : 0 ≤ p ∧ p < 18446744073709551616) : misP t (pickP t p) = 0 ∧ rightV (pickP t p) = true ∧ NvOk (pickP t p) := by
  have hk := tyOk_kind hok
  have hn := nOk_of hok
  have hl := tyOk_len hok
  rcases hk with h | h | h | h | h | h | h | h
  · have e : pickP t p = ⟨1, p % 2 ^ (8 * t.n).toNat, 0⟩ := by simp [pickP, h]
    rw [e]
    have hb : 0 ≤ p % 2 ^ (8 * t.n).toNat ∧ p % 2 ^ (8 * t.n).toNat < 2 ^ (8 * t.n).toNat ∧ (2 : Int) ^ (8 * t.n).toNat ≤ 18446744073709551616 := by
      have hn2 : t.n = 1 ∨ t.n = 2 ∨ t.n = 4 ∨ t.n = 8 := by omega
      rcases hn2 with e | e | e | e <;> rw [e] <;> simp <;> omega
    refine ⟨?_, ?_, ⟨hb.1, by show p % _ < _; omega⟩⟩
    · simp only [misP, h, gr]
      simp [nkind, nkT]
      omega
    · rw [rightV_iff]
      simp [mostN, leastK, mostK]
      omega
  · have e : pickP t p = ⟨2, p % 2, 0⟩ := by simp [pickP, h]
    rw [e]
    refine ⟨by simp [misP, h, nkind, nkT], ?_, ⟨by show 0 ≤ p % 2; omega, by show p % 2 < _; omega⟩⟩
    rw [rightV_iff]
    simp [mostN, leastK, mostK]
    omega
  · have e : pickP t p = ⟨1, p, 0⟩ := by simp [pickP, h]
    rw [e]
    refine ⟨by simp [misP, h, nkind, nkT], ?_, hp⟩
    rw [rightV_iff]
    simp [mostN, leastK, mostK]
    omega
  · have e : pickP t p = ⟨3, 0, t.n⟩ := by simp [pickP, h]
    rw [e]
    refine ⟨by simp [misP, h, nkind, nkT], ?_, ⟨by show (0 : Int) ≤ 0; decide, by show (0 : Int) < 18446744073709551616; decide⟩⟩
    rw [rightV_iff]
    simp [mostN, leastK, mostK]
    omega
  · have e : pickP t p = ⟨3, 0, p % (t.n + 1)⟩ := by simp [pickP, h]
    have h1 : 0 ≤ p % (t.n + 1) := Int.emod_nonneg _ (by omega)
    have h2 : p % (t.n + 1) < t.n + 1 := Int.emod_lt_of_pos _ (by omega)
    rw [e]
    refine ⟨?_, ?_, ⟨by show (0 : Int) ≤ 0; decide, by show (0 : Int) < 18446744073709551616; decide⟩⟩
    · simp [misP, h, nkind, nkT]; omega
    · rw [rightV_iff]
      simp [mostN, leastK, mostK]
      omega
  · have e : pickP t p = ⟨5, 0, p % 2⟩ := by simp [pickP, h]
    rw [e]
    refine ⟨by simp [misP, h, nkind, nkT], ?_, ⟨by show (0 : Int) ≤ 0; decide, by show (0 : Int) < 18446744073709551616; decide⟩⟩
    rw [rightV_iff]
    simp [mostN, leastK, mostK]
    omega
  · have e : pickP t p = ⟨6, (t.ps.getD (p % t.ps.length).toNat pt0).tag, 1⟩ := by simp [pickP, h]
    have h0 := tyOk_some' hok (.inl h)
    have h1 : 0 ≤ p % (t.ps.length : Int) := Int.emod_nonneg _ (by omega)
    have h2 : p % (t.ps.length : Int) < t.ps.length := Int.emod_lt_of_pos _ (by omega)
    obtain ⟨m, hm⟩ := Int.eq_ofNat_of_zero_le h1
    have hml : m < t.ps.length := by omega
    have hx : t.ps[m]? = some (t.ps[m]'hml) := List.getElem?_eq_getElem hml
    have hxe : t.ps.getD m pt0 = t.ps[m]'hml := by simp [List.getD, hml]
    have htg : 0 ≤ (t.ps[m]'hml).tag ∧ (t.ps[m]'hml).tag ≤ 255 := by
      obtain ⟨k, n, el, ps⟩ := t
      simp only at h
      subst h
      exact tyOk_tags hok _ (List.getElem_mem hml)
    have har := armI_isSome hx
    rw [hm, Int.toNat_natCast, hxe] at e
    rw [e]
    refine ⟨?_, ?_, ⟨by show 0 ≤ (t.ps[m]'hml).tag; omega, by show (t.ps[m]'hml).tag < _; omega⟩⟩
    · simp only [misP, h]
      simp [nkind, nkT]
      exact Option.isSome_iff_ne_none.1 har
    · rw [rightV_iff]
      simp [mostN, leastK, mostK]
      omega
  · have e : pickP t p = ⟨4, 0, t.ps.length⟩ := by simp [pickP, h]
    have h0 := tyOk_some' hok (.inr h)
    rw [e]
    refine ⟨by simp [misP, h, nkind, nkT], ?_, ⟨by show (0 : Int) ≤ 0; decide, by show (0 : Int) < 18446744073709551616; decide⟩⟩
    rw [rightV_iff]
    simp [mostN, leastK, mostK]
    omega
/-- The making has come so far. -/
structure MkI (T : List Ty) (t : Int) (p : List Int) (st : List Int) (V : List Nv) : Prop where
  inT : ∀ s ∈ st, 0 ≤ s ∧ s < T.length
  ans : mkT T p 1048578 [t] [] = mkT T p (1048578 - V.length) st V
  len : V.length + st.length ≤ 1048576
  ok : ∀ x ∈ V, NvOk x
theorem MkI.start {T : List Ty} {t : Int} {p : List Int} (h0 : 0 ≤ t) (h1 : t < T.length) : MkI T t p [t] [] :=
  ⟨fun s hs => by simp at hs; omega, rfl, by simp, fun x hx => by cases hx⟩
theorem MkI.done {T : List Ty} {t : Int} {p : List Int} {V : List Nv} (h : MkI T t p [] V) : mkT T p 1048578 [t] [] = some V := by
  have hl := h.len
  simp at hl
  rw [h.ans, show 1048578 - V.length = (1048577 - V.length) + 1 by omega, mkT]
theorem MkI.next {T : List Ty} {R : List Rt} {t : Int} {p : List Int} {s : Int} {st : List Int} {V : List Nv} (h : MkI T t p (s :: st) V) (hS : OkS T R) :
    0 ≤ s ∧ s < T.length ∧ misP (T.getD s.toNat ty0) (pickP (T.getD s.toNat ty0) (pickA p V.length)) = 0 ∧ rightV (pickP (T.getD s.toNat ty0) (pickA p V.length)) = true ∧
    ((V.length : Int) + (st.length + 1) + (pickP (T.getD s.toNat ty0) (pickA p V.length)).kids > 1048576 → mkT T p 1048578 [t] [] = none) ∧
    (¬ (V.length : Int) + (st.length + 1) + (pickP (T.getD s.toNat ty0) (pickA p V.length)).kids > 1048576 → MkI T t p (kidsT (T.getD s.toNat ty0) (pickP (T.getD s.toNat ty0) (pickA p V.length)) ++ st) (V ++ [pickP (T.getD s.toNat ty0) (pickA p V.length)])) := by
  obtain ⟨hs0, hs1⟩ := h.inT s (by simp)
  have hok := hS.ty s.toNat (by omega)
  rw [show ((s.toNat : Nat) : Int) = s by omega] at hok
  obtain ⟨hf, hr, hv⟩ := pick_fits hok (pickA_in p V.length)
  have hl := h.len
  simp only [List.length_cons] at hl
  have hans := h.ans
  obtain ⟨A, hA⟩ : ∃ A, mkT T p 1048578 [t] [] = A := ⟨_, rfl⟩
  rw [hA] at hans
  rw [show 1048578 - V.length = (1048577 - V.length) + 1 by omega, mkT] at hans
  refine ⟨hs0, hs1, hf, hr, fun hg => ?_, fun hg => ?_⟩
  · rw [if_pos hg] at hans
    rw [hA]
    exact hans
  · rw [if_neg hg] at hans
    have hlen := kidsT_len hok hf hr
    refine ⟨fun s' hs' => ?_, ?_, ?_, fun x hx => ?_⟩
    · rcases List.mem_append.1 hs' with hs' | hs'
      · have := kidsT_in hok hf hr s' hs'; omega
      · exact h.inT s' (by simp [hs'])
    · rw [hA, hans, List.length_append, List.length_singleton, show 1048578 - (V.length + 1) = 1048577 - V.length by omega]
    · rw [List.length_append, List.length_append, List.length_singleton]
      omega
    · rcases List.mem_append.1 hx with hx | hx
      · exact h.ok x hx
      · simp at hx
        rw [hx]
        exact hv

/-- A fault lies at a place that the walk has come to. -/
theorem wkT_at (T : List Ty) : ∀ (v : List Nv) (st : List Int) (i : Nat), (wkT T st v i).2.1 ≠ 0 → (i : Int) ≤ (wkT T st v i).2.2 ∧ (wkT T st v i).2.2 < i + v.length
  | [], [], i, h => absurd rfl h
  | [], s :: st, i, h => absurd rfl h
  | x :: v, [], i, h => absurd rfl h
  | x :: v, s :: st, i, h => by
    rw [wkT] at h ⊢
    by_cases hm : misP (T.getD s.toNat ty0) x ≠ 0
    · rw [if_pos hm]
      simp
      omega
    · rw [if_neg hm] at h ⊢
      have hr : (wkT T (kidsT (T.getD s.toNat ty0) x ++ st) v (i + 1)).2.1 ≠ 0 := by
        intro e
        dsimp only at h
        rw [e] at h
        simp at h
      dsimp only
      rw [if_pos hr]
      have := wkT_at T v (kidsT (T.getD s.toNat ty0) x ++ st) (i + 1) hr
      have e : ((x :: v).length : Int) = v.length + 1 := by simp
      rw [e]
      omega
/-- The walk reads no node behind its fault. -/
theorem wkT_front (T : List Ty) : ∀ (v v' : List Nv) (st : List Int) (i f : Nat), v'.length = v.length → (wkT T st v i).2.1 ≠ 0 → (wkT T st v i).2.2 = (f : Int) → (∀ j, j + i ≤ f → v'[j]? = v[j]?) → wkT T st v' i = wkT T st v i
  | [], v', [], i, f, hl, h, _, _ => absurd rfl h
  | [], v', s :: st, i, f, hl, h, _, _ => absurd rfl h
  | x :: v, v', [], i, f, hl, h, _, _ => absurd rfl h
  | x :: v, [], s :: st, i, f, hl, h, _, _ => by cases hl
  | x :: v, x' :: v', s :: st, i, f, hl, h, hf, hs => by
    have hl' : v'.length = v.length := by simpa using hl
    rw [wkT] at h hf ⊢
    rw [wkT]
    by_cases hm : misP (T.getD s.toNat ty0) x ≠ 0
    · rw [if_pos hm] at hf h
      have hif : (i : Int) = f := hf
      have hx : x' = x := by
        have := hs 0 (by omega)
        simpa using this
      rw [hx, if_pos hm, if_pos hm]
    · rw [if_neg hm] at hf h ⊢
      have hr : (wkT T (kidsT (T.getD s.toNat ty0) x ++ st) v (i + 1)).2.1 ≠ 0 := by
        intro e
        dsimp only at h
        rw [e] at h
        simp at h
      have hge : (i : Int) < f := by
        dsimp only at hf
        rw [if_pos hr] at hf
        have := wkT_at T v (kidsT (T.getD s.toNat ty0) x ++ st) (i + 1) hr
        omega
      have hx : x' = x := by
        have := hs 0 (by omega)
        simpa using this
      rw [hx, if_neg hm]
      dsimp only at hf ⊢
      rw [if_pos hr] at hf
      have ih := wkT_front T v v' (kidsT (T.getD s.toNat ty0) x ++ st) (i + 1) f hl' hr hf (fun j hj => by
        have := hs (j + 1) (by omega)
        simpa using this)
      rw [ih]
/-- A node of another number that is right as well leaves value.Check's word. -/
theorem chkV_same : ∀ (v v' : List Nv) (m a : Int), v'.length = v.length → (∀ (j : Nat) (x x' : Nv), v[j]? = some x → v'[j]? = some x' → rightV x' = rightV x ∧ x'.kids = x.kids) → chkV m a v' = chkV m a v
  | [], [], m, a, _, _ => rfl
  | [], x' :: v', m, a, hl, _ => by cases hl
  | x :: v, [], m, a, hl, _ => by cases hl
  | x :: v, x' :: v', m, a, hl, h => by
    obtain ⟨h1, h2⟩ := h 0 x x' rfl rfl
    rw [chkV, chkV, h1, h2]
    split
    · rfl
    · exact chkV_same v v' _ _ (by simpa using hl) (fun j y y' hy hy' => h (j + 1) y y' (by simpa using hy) (by simpa using hy'))
/-- All of a list that value.Check takes are right. -/
theorem chkV_right : ∀ (v : List Nv) (m a : Int), (chkV m a v).1 = 0 → ∀ x ∈ v, rightV x = true
  | [], m, a, _, x, hx => by cases hx
  | y :: v, m, a, h, x, hx => by
    obtain ⟨h1, h2, h3⟩ := chkV_step h
    rcases List.mem_cons.1 hx with rfl | hx
    · exact h2
    · exact chkV_right v _ _ h3 x hx
/-- What TypingFirst puts in a node's place. -/
def turnN (x : Nv) (m : Int) : Nv :=
  if x.k = 1 then ⟨x.k, IntKind.u64.wrap (x.n + IntKind.u64.wrap m), x.kids⟩ else if x.k = 2 then ⟨x.k, IntKind.u64.wrap (1 - x.n), x.kids⟩ else if x.k = 6 then ⟨x.k, (IntKind.u64.wrap (x.n + 1)) % 256, x.kids⟩ else x
theorem turnN_right {x : Nv} (m : Int) (h : rightV x = true) (hx : NvOk x) : rightV (turnN x m) = true ∧ (turnN x m).kids = x.kids ∧ NvOk (turnN x m) := by
  obtain ⟨k, n, c⟩ := x
  have hr := (rightV_iff _).1 h
  obtain ⟨h0, h1⟩ := hx
  simp only at hr h0 h1
  unfold turnN
  by_cases h1k : k = 1
  · subst h1k
    simp only [if_true]
    refine ⟨?_, by first | rfl | trivial, ?_⟩
    · rw [rightV_iff]
      simp only [IntKind.wrap_u64] 
      refine ⟨hr.1, ?_, hr.2.2⟩
      simp [mostN]
      omega
    · exact ⟨by simp only [IntKind.wrap_u64]; omega, by simp only [IntKind.wrap_u64]; omega⟩
  by_cases h2k : k = 2
  · subst h2k
    simp only [h1k, if_false, if_true]
    have hn : n ≤ 1 := by simpa [mostN] using hr.2.1
    refine ⟨?_, by first | rfl | trivial, ?_⟩
    · rw [rightV_iff]
      refine ⟨hr.1, ?_, hr.2.2⟩
      simp only [IntKind.wrap_u64]
      simp [mostN]
      omega
    · exact ⟨by simp only [IntKind.wrap_u64]; omega, by simp only [IntKind.wrap_u64]; omega⟩
  by_cases h6k : k = 6
  · subst h6k
    simp only [h1k, h2k, if_false, if_true]
    refine ⟨?_, by first | rfl | trivial, ?_⟩
    · rw [rightV_iff]
      refine ⟨hr.1, ?_, hr.2.2⟩
      simp only [IntKind.wrap_u64]
      simp [mostN]
      omega
    · exact ⟨by simp only [IntKind.wrap_u64]; omega, by simp only [IntKind.wrap_u64]; omega⟩
  · simp only [h1k, h2k, h6k, if_false]
    exact ⟨h, by first | rfl | trivial, h0, h1⟩
/-- Where such a fault lies. -/
theorem first_at {T : List Ty} {R : List Rt} {t : Int} {V : List Nv} (hS : OkS T R) (h0 : 0 ≤ t) (h1 : t < T.length) (he : (tyV T R t V).2.1 ≠ 0) (he40 : (tyV T R t V).2.1 ≠ 40) : ∃ f : Nat, (tyV T R t V).2.2 = (f : Int) ∧ f < V.length := by
  have hc0 : (chk T R).1 = 0 := by rw [hS.chk]
  have hcV : (chkV 1 0 V).1 = 0 := by
    have key : ∀ (l : List Nv) (m a : Int), (chkV m a l).1 = 0 ∨ (chkV m a l).1 = 40 := by
      intro l
      induction l with
      | nil => intro m a; rw [chkV]; split <;> simp
      | cons y l ih => intro m a; rw [chkV]; split; · simp
                       · exact ih _ _
    rcases key V 1 0 with h | h
    · exact h
    · exfalso
      apply he40
      unfold tyV
      rw [if_neg (by simp [hc0]), if_neg (by omega), if_pos (by rw [h]; decide)]
      exact h
  have e1 : tyV T R t V = wkT T [t] V 0 := by
    unfold tyV
    rw [if_neg (by simp [hc0]), if_neg (by omega), if_neg (by simp [hcV])]
  rw [e1] at he ⊢
  have h := wkT_at T V [t] 0 he
  obtain ⟨f, hf⟩ := Int.eq_ofNat_of_zero_le (show 0 ≤ (wkT T [t] V 0).2.2 by omega)
  exact ⟨f, hf, by omega⟩
/-- The fault of a value that value.Check takes stays, however a node behind it is turned. -/
theorem first_stays {T : List Ty} {R : List Rt} {t : Int} {V : List Nv} {x : Nv} {j f : Nat} (hS : OkS T R) (h0 : 0 ≤ t) (h1 : t < T.length) (hV : ∀ x ∈ V, NvOk x) (he : (tyV T R t V).2.1 ≠ 0) (he40 : (tyV T R t V).2.1 ≠ 40) (hf : (tyV T R t V).2.2 = (f : Int)) (hx : V[j]? = some x) (hj : f < j) (m : Int) : tyV T R t (V.set j (turnN x m)) = tyV T R t V ∧ ∀ y ∈ V.set j (turnN x m), NvOk y := by
  have hc0 : (chk T R).1 = 0 := by rw [hS.chk]
  have hjl := (List.getElem?_eq_some_iff.1 hx).1
  have hcV : (chkV 1 0 V).1 = 0 := by
    have key : ∀ (l : List Nv) (m a : Int), (chkV m a l).1 = 0 ∨ (chkV m a l).1 = 40 := by
      intro l
      induction l with
      | nil => intro m a; rw [chkV]; split <;> simp
      | cons y l ih => intro m a; rw [chkV]; split; · simp
                       · exact ih _ _
    rcases key V 1 0 with h | h
    · exact h
    · exfalso
      apply he40
      unfold tyV
      rw [if_neg (by simp [hc0]), if_neg (by omega), if_pos (by rw [h]; decide)]
      exact h
  have hxr := chkV_right V 1 0 hcV x (List.mem_of_getElem? hx)
  obtain ⟨t1, t2, t3⟩ := turnN_right m hxr (hV x (List.mem_of_getElem? hx))
  have hsame : chkV 1 0 (V.set j (turnN x m)) = chkV 1 0 V := chkV_same V _ 1 0 (by simp) (fun i y y' hy hy' => by
    by_cases hij : j = i
    · subst hij
      rw [List.getElem?_set_self hjl] at hy'
      rw [hx] at hy
      injection hy with hy
      injection hy' with hy'
      subst hy hy'
      exact ⟨by rw [t1, hxr], t2⟩
    · rw [List.getElem?_set_ne hij, hy] at hy'
      injection hy' with hy'
      subst hy'
      exact ⟨rfl, rfl⟩)
  have e1 : ∀ W, (chkV 1 0 W).1 = 0 → tyV T R t W = wkT T [t] W 0 := fun W hW => by
    unfold tyV
    rw [if_neg (by simp [hc0]), if_neg (by omega), if_neg (by simp [hW])]
  refine ⟨?_, fun y hy => ?_⟩
  · rw [e1 _ (by rw [hsame]; exact hcV), e1 V hcV]
    rw [e1 V hcV] at he hf
    exact wkT_front T V _ [t] 0 f (by simp) he hf (fun i hi => List.getElem?_set_ne (by omega))
  · rcases List.mem_or_eq_of_mem_set hy with h | h
    · exact hV y h
    · rw [h]; exact t3
end Go.Proofs.YtlfjcihhcphjkaaDoor
