/- Plain: what Some makes is of the type, and the picks that stand in it lead to it again. -/
import Derived.Test.YtegejchamojfgaaDoorOk
namespace Go.Proofs.YtegejchamojfgaaDoor
set_option linter.unusedVariables false

/-- What is made so far, as the walk and value.Check see it. -/
structure PkI (T : List Ty) (t : Int) (p : List Int) (st : List Int) (V : List Nv) (nums : List Int) : Prop where
  wk : ∀ rest, wkT T [t] (V ++ rest) 0 = apT nums (wkT T st rest V.length)
  ck : ∀ rest, chkV 1 0 (V ++ rest) = chkV (st.length : Int) (V.length : Int) rest
  len : nums.length = V.length
  pk : ∀ (i : Nat) (s : Int), nums[i]? = some s → V[i]? = some (pickP (T.getD s.toNat ty0) (pickA p i))
  hd : nums.head? = some t ∨ (nums = [] ∧ st = [t])
theorem apT_nil {r : List Int × Int × Int} (h : r.2.1 = 0 → r.2.2 = 0) : apT [] r = r := by
  unfold apT
  split
  · rfl
  · rename_i h1
    have h1 : r.2.1 = 0 := by simpa using h1
    obtain ⟨a, b, c⟩ := r
    simp only at h h1
    subst h1
    rw [h rfl]
    simp
theorem PkI.start {T : List Ty} {t : Int} {p : List Int} : PkI T t p [t] [] [] := by
  refine ⟨fun rest => ?_, fun rest => by simp, rfl, fun i s h => by simp at h, .inr ⟨rfl, rfl⟩⟩
  rw [List.nil_append]
  exact (apT_nil (fun h => wkT_ok T rest [t] 0 h)).symm
theorem PkI.step {T : List Ty} {R : List Rt} {t : Int} {p : List Int} {s : Int} {st : List Int} {V : List Nv} {nums : List Int} (h : PkI T t p (s :: st) V nums) (hS : OkS T R) (hs0 : 0 ≤ s) (hs1 : s < T.length)
    (hf : misP (T.getD s.toNat ty0) (pickP (T.getD s.toNat ty0) (pickA p V.length)) = 0) (hr : rightV (pickP (T.getD s.toNat ty0) (pickA p V.length)) = true) :
    PkI T t p (kidsT (T.getD s.toNat ty0) (pickP (T.getD s.toNat ty0) (pickA p V.length)) ++ st) (V ++ [pickP (T.getD s.toNat ty0) (pickA p V.length)]) (nums ++ [s]) := by
  have hok := hS.ty s.toNat (by omega)
  rw [show ((s.toNat : Nat) : Int) = s by omega] at hok
  have hl := kidsT_len hok hf hr
  obtain ⟨x, hx⟩ : ∃ x, pickP (T.getD s.toNat ty0) (pickA p V.length) = x := ⟨_, rfl⟩
  rw [hx] at hf hr hl ⊢
  refine ⟨fun rest => ?_, fun rest => ?_, by simp [h.len], fun i s' hi => ?_, ?_⟩
  · have h1 := h.wk (x :: rest)
    rw [List.append_assoc, List.singleton_append, h1, wkT, if_neg (by simpa using hf), List.length_append, List.length_singleton]
    generalize wkT T (kidsT (T.getD s.toNat ty0) x ++ st) rest (V.length + 1) = q
    unfold apT
    by_cases hz : q.2.1 = 0
    · simp only [hz, ne_eq, not_true_eq_false, if_false]
      simp
    · simp only [hz, ne_eq, not_false_eq_true, if_true]
  · have h1 := h.ck (x :: rest)
    rw [List.append_assoc, List.singleton_append, h1, chkV, if_neg (by simp [hr]; omega)]
    congr 1
    · rw [List.length_append, List.length_cons]
      push_cast
      omega
    · rw [List.length_append, List.length_singleton]
      push_cast
      rfl
  · rcases Nat.lt_or_ge i nums.length with hlt | hge
    · rw [List.getElem?_append_left hlt] at hi
      rw [List.getElem?_append_left (by rw [← h.len]; exact hlt)]
      exact h.pk i s' hi
    · rw [List.getElem?_append_right hge] at hi
      have hi0 : i - nums.length = 0 := by
        have := (List.getElem?_eq_some_iff.1 hi).1
        simp at this
        omega
      rw [hi0] at hi
      simp at hi
      subst hi
      obtain rfl : i = V.length := by have := h.len; omega
      rw [List.getElem?_append_right (Nat.le_refl _), Nat.sub_self, hx]
      rfl
  · rcases h.hd with h1 | ⟨h1, h2⟩
    · left
      rw [List.head?_append, h1]
      rfl
    · injection h2 with h2 _
      left
      rw [h1, h2]
      rfl
theorem mk_all {T : List Ty} {R : List Rt} {t : Int} {p : List Int} (hS : OkS T R) : ∀ (f : Nat) (st : List Int) (V W : List Nv) (nums : List Int), MkI T t p st V → PkI T t p st V nums → mkT T p f st V = some W →
    ∃ nums2, PkI T t p [] W nums2 ∧ (∃ r, nums2 = nums ++ r) ∧ (∃ r, W = V ++ r) ∧ ∀ q, (∀ (i : Nat) (s : Int) (x : Nv), V.length ≤ i → nums2[i]? = some s → W[i]? = some x → pickP (T.getD s.toNat ty0) (pickA q i) = x) → mkT T q f st V = some W
  | 0, _, _, _, _, _, _, h => by simp [mkT] at h
  | f + 1, [], V, W, nums, hM, hP, h => by
    simp [mkT] at h
    subst h
    exact ⟨nums, hP, ⟨[], by simp⟩, ⟨[], by simp⟩, fun q _ => by simp [mkT]⟩
  | f + 1, s :: st, V, W, nums, hM, hP, h => by
    obtain ⟨hs0, hs1, hf, hr, -, hgo⟩ := hM.next hS
    rw [mkT] at h
    by_cases hg : (V.length : Int) + (st.length + 1) + (pickP (T.getD s.toNat ty0) (pickA p V.length)).kids > 1048576
    · rw [if_pos hg] at h
      cases h
    · rw [if_neg hg] at h
      obtain ⟨nums2, h1, ⟨r1, hr1⟩, ⟨r2, hr2⟩, h4⟩ := mk_all hS f _ _ W _ (hgo hg) (hP.step hS hs0 hs1 hf hr) h
      refine ⟨nums2, h1, ⟨s :: r1, by rw [hr1]; simp⟩, ⟨pickP (T.getD s.toNat ty0) (pickA p V.length) :: r2, by rw [hr2]; simp⟩, fun q hq => ?_⟩
      have hx : pickP (T.getD s.toNat ty0) (pickA q V.length) = pickP (T.getD s.toNat ty0) (pickA p V.length) := hq V.length s _ (Nat.le_refl _) (by rw [hr1, List.append_assoc, List.getElem?_append_right (by rw [hP.len]; exact Nat.le_refl _), hP.len]; simp) (by rw [hr2, List.append_assoc, List.getElem?_append_right (Nat.le_refl _)]; simp)
      rw [mkT, hx, if_neg hg]
      exact h4 q (fun i s' x hi => hq i s' x (by simp at hi; omega))
/-- The pick that stands in a node. -/
def pickOf (t : Ty) (x : Nv) : Int :=
  if t.k = 1 ∨ t.k = 2 ∨ t.k = 3 then IntKind.i64.wrap x.n else
  if t.k = 5 ∨ t.k = 6 then x.kids else
  if t.k = 7 then (((armI t.ps x.n).getD 0 : Nat) : Int) else 0
theorem pickOf_back {t : Ty} {i q : Int} (hok : tyOk t i = true) (hq : 0 ≤ q ∧ q < 18446744073709551616) : pickP t (pickOf t (pickP t q) % 18446744073709551616) = pickP t q := by
  obtain ⟨hm, hr, hv⟩ := pick_fits hok hq
  have hk := tyOk_kind hok
  have hn := nOk_of hok
  have hkd := rightV_kids hr
  obtain ⟨x, hx⟩ : ∃ x, pickP t q = x := ⟨_, rfl⟩
  have hw : IntKind.i64.wrap x.n % 18446744073709551616 = x.n := by
    have h1 := hv.1; have h2 := hv.2
    rw [hx] at h1 h2
    rw [IntKind.wrap_i64]
    omega
  rw [hx] at hkd ⊢
  rcases hk with h | h | h | h | h | h | h | h
  · have e : pickOf t x = IntKind.i64.wrap x.n := by simp [pickOf, h]
    rw [e, hw, ← hx]
    simp only [pickP, h]
    simp
  · have e : pickOf t x = IntKind.i64.wrap x.n := by simp [pickOf, h]
    rw [e, hw, ← hx]
    simp only [pickP, h]
    simp
  · have e : pickOf t x = IntKind.i64.wrap x.n := by simp [pickOf, h]
    rw [e, hw, ← hx]
    simp only [pickP, h]
    simp
  · rw [← hx]
    simp [pickP, h]
  · have e : pickOf t x = x.kids := by simp [pickOf, h]
    have e2 : x.kids = q % (t.n + 1) := by rw [← hx]; simp [pickP, h]
    have h0 : 0 ≤ q % (t.n + 1) := Int.emod_nonneg _ (by omega)
    have h1 : q % (t.n + 1) < t.n + 1 := Int.emod_lt_of_pos _ (by omega)
    rw [e, ← hx]
    simp only [pickP, h]
    simp
    rw [Int.emod_eq_of_lt (b := 18446744073709551616) h0 (by omega), Int.emod_eq_of_lt h0 h1]
  · have e : pickOf t x = x.kids := by simp [pickOf, h]
    have e2 : x.kids = q % 2 := by rw [← hx]; simp [pickP, h]
    rw [e, ← hx]
    simp only [pickP, h]
    simp
  · have e1 : x = ⟨6, (t.ps.getD (q % t.ps.length).toNat pt0).tag, 1⟩ := by rw [← hx]; simp [pickP, h]
    have hpos := tyOk_some' hok (.inl h)
    have hlt : (q % t.ps.length).toNat < t.ps.length := by
      have h0 : 0 ≤ q % (t.ps.length : Int) := Int.emod_nonneg _ (by omega)
      have h1 : q % (t.ps.length : Int) < t.ps.length := Int.emod_lt_of_pos _ (by omega)
      omega
    rw [hx] at hm
    obtain ⟨m, p, ha, hp, htag⟩ := misP_arm hm h
    have hml := (List.getElem?_eq_some_iff.1 hp).1
    have hpl := tyOk_len hok
    have e : pickOf t x = (m : Int) := by simp [pickOf, h, ha]
    have e3 : (m : Int) % 18446744073709551616 = m := Int.emod_eq_of_lt (by omega) (by omega)
    have e4 : (m : Int) % (t.ps.length : Int) = m := Int.emod_eq_of_lt (by omega) (by omega)
    rw [e, e3]
    have e5 : pickP t (m : Int) = ⟨6, p.tag, 1⟩ := by
      simp only [pickP, h]
      simp [e4, List.getD, hp]
    rw [e5, htag, e1]
  · rw [← hx]
    simp [pickP, h]
/-- What Some makes. -/
theorem some_back {T : List Ty} {R : List Rt} {t : Int} {p : List Int} {V : List Nv} (hS : OkS T R) (h0 : 0 ≤ t) (h1 : t < T.length) (hm : mkT T p 1048578 [t] [] = some V) :
    ∃ nums, wkT T [t] V 0 = (nums, 0, 0) ∧ chkV 1 0 V = (0, 0) ∧ nums.length = V.length ∧ (V ≠ [] → nums.head? = some t) ∧ (∀ s ∈ nums, 0 ≤ s ∧ s < T.length) ∧
      ∀ q : List Int, q.length = V.length → (∀ (i : Nat) (s : Int) (x : Nv), nums[i]? = some s → V[i]? = some x → q[i]? = some (pickOf (T.getD s.toNat ty0) x)) → mkT T q 1048578 [t] [] = some V := by
  obtain ⟨nums, hP, -, -, h4⟩ := mk_all hS 1048578 [t] [] V [] (MkI.start h0 h1) PkI.start hm
  have hw := hP.wk []
  have hc := hP.ck []
  rw [List.append_nil] at hw hc
  have e : wkT T [] [] V.length = ([], 0, 0) := by unfold wkT; rfl
  rw [e] at hw
  have hw' : wkT T [t] V 0 = (nums, 0, 0) := by rw [hw]; unfold apT; simp
  have hc' : chkV 1 0 V = (0, 0) := by rw [hc]; simp [chkV]
  have hin : ∀ s ∈ nums, 0 ≤ s ∧ s < T.length := by
    have key : ∀ (k : Nat), k ≤ V.length → ∃ st ns, WkI T t V k st ns ∧ ∀ s ∈ ns, 0 ≤ s ∧ s < T.length := fun k => by
      induction k with
      | zero => exact fun _ => ⟨[t], [], WkI.start h0 h1 (by rw [hc']), fun s hs => by cases hs⟩
      | succ k ih =>
        intro hk
        obtain ⟨st, ns, hwk, hns⟩ := ih (by omega)
        obtain ⟨s, r, rfl, a0, a1, -, hbad, hgood⟩ := hwk.next hS (List.getElem?_eq_getElem (by omega : k < V.length))
        by_cases hm0 : misP (T.getD s.toNat ty0) (V[k]'(by omega)) = 0
        · refine ⟨_, _, hgood hm0, fun s' hs' => ?_⟩
          rcases List.mem_append.1 hs' with hs' | hs'
          · exact hns s' hs'
          · simp at hs'; subst hs'; exact ⟨a0, a1⟩
        · have := hbad hm0
          rw [hw'] at this
          simp at this
          exact absurd this.2.1.symm hm0
    obtain ⟨st, ns, hwk, hns⟩ := key V.length (Nat.le_refl _)
    have hd := (hwk.done).2
    rw [hw'] at hd
    have : nums = ns := (Prod.mk.inj hd).1
    rw [this]
    exact hns
  refine ⟨nums, hw', hc', hP.len, fun hne => ?_, hin, fun q hql hq => h4 q (fun i s x _ hs hx => ?_)⟩
  · rcases hP.hd with h | ⟨h, -⟩
    · exact h
    · have := hP.len
      rw [h] at this
      exact absurd (List.eq_nil_of_length_eq_zero this.symm) hne
  · have hi := hq i s x hs hx
    have hpk := hP.pk i s hs
    rw [hx] at hpk
    injection hpk with hpk
    have hsT := hin s (List.mem_of_getElem? hs)
    have hok := hS.ty s.toNat (by omega)
    rw [show ((s.toNat : Nat) : Int) = s by omega] at hok
    have hlt := (List.getElem?_eq_some_iff.1 hi).1
    have e2 : pickA q i = pickOf (T.getD s.toNat ty0) x % 18446744073709551616 := by
      unfold pickA
      rw [if_pos hlt]
      simp [List.getD, hi]
    rw [e2, hpk]
    exact pickOf_back hok (pickA_in p i)
end Go.Proofs.YtegejchamojfgaaDoor
