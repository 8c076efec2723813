/- A round that goes on, plain: what it reads, what it leaves; back from the end: a text that is read is the text of what was read. -/
import Derived.Test.YtlbgdgobhiokpaaDoorZn
namespace Go.Proofs.YtlbgdgobhiokpaaDoor
open Go.RowKit
set_option linter.unusedVariables false
set_option linter.unusedSimpArgs false

structure Iv (N : List Nd) (O : List Nat) (en : Bool) : Prop where
  lt : ∀ o ∈ O, o < N.length
  nd : O.Nodup
  kin : ∀ o ∈ O, 3 ≤ kk N o ∧ kk N o ≤ 6
  out : ∀ o ∈ O.tail, 1 ≤ kd N o
  e1 : en = true → ∀ o, O.head? = some o → 1 ≤ kd N o ∧ kk N o ≠ 5
  e0 : en = false → ∀ o, O.head? = some o → kd N o < mostK (kk N o)
  le : ∀ o ∈ O, 0 ≤ kd N o ∧ kd N o ≤ mostK (kk N o)
  all : ∀ j, j < N.length → (1 ≤ kk N j ∧ kk N j ≤ 6) ∧ 0 ≤ nn N j ∧ nn N j ≤ mostN (kk N j)
  done : ∀ j, j < N.length → j ∉ O → leastK (kk N j) ≤ kd N j ∧ kd N j ≤ mostK (kk N j)
  nil : O = [] → en = false → N = []
theorem Iv.begin : Iv [] [] false := ⟨by simp, by simp, by simp, by simp, by simp, by simp, by simp, by simp, by simp, fun _ _ => rfl⟩

/-- What a round does that goes on. -/
structure Leaf (t : List Int) (st st' : PS) (k n : Int) : Prop where
  en : st.en = false
  kin : k = 1 ∨ k = 2 ∨ k = 5
  n0 : 0 ≤ n ∧ n ≤ mostN k
  tx : t.drop st.p = beginT (k, n, 0) ++ t.drop st'.p
  is : st' = ⟨st'.p, addN st.N st.O k n, popO (addN st.N st.O k n) st.O, true⟩
structure Open (t : List Int) (st st' : PS) (k n : Int) : Prop where
  en : st.en = false
  kin : 3 ≤ k ∧ k ≤ 6
  n0 : 0 ≤ n ∧ n ≤ mostN k
  tx : t.drop st.p = beginT (k, n, 1) ++ t.drop st'.p
  is : st' = ⟨st'.p, addN st.N st.O k n, st.N.length :: st.O, false⟩
structure Comma (t : List Int) (st st' : PS) (o : Nat) (O : List Nat) : Prop where
  en : st.en = true
  top : st.O = o :: O
  lt : kd st.N o < mostK (kk st.N o)
  tx : t.drop st.p = [44, 32] ++ t.drop st'.p
  is : st' = ⟨st'.p, st.N, st.O, false⟩
structure Close (t : List Int) (st st' : PS) (o : Nat) (O : List Nat) (c : Int) : Prop where
  top : st.O = o :: O
  may : st.en = true ∨ (kd st.N o = 0 ∧ leastK (kk st.N o) = 0)
  ends : endT (kk st.N o) = [c]
  tx : t.drop st.p = [c] ++ t.drop st'.p
  is : st' = ⟨st'.p, st.N, popO st.N O, true⟩
def Act (t : List Int) (st st' : PS) : Prop := (∃ k n, Leaf t st st' k n) ∨ (∃ k n, Open t st st' k n) ∨ (∃ o O, Comma t st st' o O) ∨ ∃ o O c, Close t st st' o O c

theorem leaf_act {t : List Int} {c : Int} {st : PS} (hc : t[st.p]? = some c) (he : st.en = false) (h : (leafM t c st).2 = true) : Act t st (leafM t c st).1 := by
  unfold leafM at h ⊢
  split at h
  · rename_i hok
    rw [if_pos hok]
    unfold leafW at hok ⊢
    unfold leafK
    by_cases h1 : c = 110
    · simp only [if_pos h1] at hok ⊢
      obtain ⟨a1, a2⟩ := takeW_ok t _ _ hok
      exact .inl ⟨5, 0, he, by simp, by simp [mostN], by simp only [a2]; rw [a1]; simp [beginT], rfl⟩
    · simp only [if_neg h1] at hok ⊢
      by_cases h2 : c = 102
      · simp only [if_pos h2] at hok ⊢
        obtain ⟨a1, a2⟩ := takeW_ok t _ _ hok
        exact .inl ⟨2, 0, he, by simp, by simp [mostN], by simp only [a2]; rw [a1]; simp [beginT], rfl⟩
      · simp only [if_neg h2] at hok ⊢
        by_cases h3 : c = 116
        · simp only [if_pos h3] at hok ⊢
          obtain ⟨a1, a2⟩ := takeW_ok t _ _ hok
          exact .inl ⟨2, 1, he, by simp, by simp [mostN], by simp only [a2]; rw [a1]; simp [beginT], rfl⟩
        · simp only [if_neg h3] at hok ⊢
          obtain ⟨b1, b2, b3⟩ := numL_back0 (most := 18446744073709551615) (by omega) (by omega) (t.drop st.p) (by simpa using hok)
          refine .inl ⟨1, _, he, by simp, ⟨b2, by simp [mostN]; exact b3⟩, ?_, rfl⟩
          simp only [beginT, if_pos]
          rw [← b1, ← List.drop_drop, List.take_append_drop]
  · cases h
theorem begin_act {t : List Int} {c : Int} {st : PS} (hc : t[st.p]? = some c) (he : st.en = false) (h : (beginM t c st).2 = true) : Act t st (beginM t c st).1 := by
  have hd := drop_of hc
  unfold beginM at h ⊢
  by_cases h1 : c = 91
  · simp only [if_pos h1]
    refine .inr (.inl ⟨3, 0, he, by omega, by simp [mostN], ?_, by simp [he]⟩)
    rw [hd, h1]; simp [beginT]
  · simp only [if_neg h1] at h ⊢
    by_cases h2 : c = 123
    · simp only [if_pos h2]
      refine .inr (.inl ⟨4, 0, he, by omega, by simp [mostN], ?_, by simp [he]⟩)
      rw [hd, h2]; simp [beginT]
    · simp only [if_neg h2] at h ⊢
      by_cases h3 : c = 60
      · simp only [if_pos h3] at h ⊢
        by_cases h4 : 0 < (numL 255 (t.drop (st.p + 1)) true 0).2
        · simp only [if_pos h4] at h ⊢
          by_cases h5 : (takeW t (st.p + 1 + (numL 255 (t.drop (st.p + 1)) true 0).2) [58]).2 = true
          · simp only [if_pos h5]
            obtain ⟨b1, b2, b3⟩ := numL_back0 (most := 255) (by omega) (by omega) _ h4
            obtain ⟨a1, a2⟩ := takeW_ok t _ _ h5
            refine .inr (.inl ⟨6, _, he, by omega, ⟨b2, by simp [mostN]; exact b3⟩, ?_, by simp [he]⟩)
            simp only [a2]
            rw [hd, h3]
            simp only [beginT]
            rw [← b1]
            have e1 := (List.take_append_drop (numL 255 (t.drop (st.p + 1)) true 0).2 (t.drop (st.p + 1))).symm
            rw [List.drop_drop, a1] at e1
            conv => lhs; rw [e1]
            simp
          · rw [if_neg h5] at h; cases h
        · rw [if_neg h4] at h; cases h
      · simp only [if_neg h3] at h ⊢
        by_cases h4 : c = 115
        · simp only [if_pos h4] at h ⊢
          by_cases h5 : (takeW t st.p [115, 111, 109, 101, 32]).2 = true
          · simp only [if_pos h5]
            obtain ⟨a1, a2⟩ := takeW_ok t _ _ h5
            refine .inr (.inl ⟨5, 0, he, by omega, by simp [mostN], ?_, by simp [he]⟩)
            simp only [a2]
            rw [a1]; simp [beginT]
          · rw [if_neg h5] at h; cases h
        · simp only [if_neg h4] at h ⊢
          exact leaf_act hc he h
theorem rnd_act {t : List Int} {c : Int} {st : PS} (hc : t[st.p]? = some c) (h : (rndM t c st).2 = true) : Act t st (rndM t c st).1 := by
  have hd := drop_of hc
  unfold rndM at h ⊢
  by_cases h1 : c = 93 ∨ c = 125 ∨ c = 62
  · simp only [if_pos h1] at h ⊢
    by_cases h2 : mayC st.N st.O st.en c = true
    · simp only [if_pos h2]
      cases hO : st.O with
      | nil => rw [hO] at h2; simp [mayC] at h2
      | cons o O =>
        rw [hO] at h2
        simp only [mayC, Bool.and_eq_true, Bool.or_eq_true, decide_eq_true_eq] at h2
        refine .inr (.inr (.inr ⟨o, O, c, hO, h2.1, h2.2, ?_, rfl⟩))
        rw [hd]; rfl
    · rw [if_neg h2] at h; cases h
  · simp only [if_neg h1] at h ⊢
    by_cases h2 : c = 44
    · simp only [if_pos h2] at h ⊢
      by_cases h3 : mayGo st.N st.O st.en = true
      · simp only [if_pos h3] at h ⊢
        by_cases h4 : (takeW t st.p [44, 32]).2 = true
        · simp only [if_pos h4]
          cases hO : st.O with
          | nil => rw [hO] at h3; simp [mayGo] at h3
          | cons o O =>
            rw [hO] at h3
            simp only [mayGo, Bool.and_eq_true, decide_eq_true_eq] at h3
            obtain ⟨a1, a2⟩ := takeW_ok t _ _ h4
            refine .inr (.inr (.inl ⟨o, O, h3.1, hO, h3.2, ?_, by simp [hO]⟩))
            simp only [a2]
            rw [a1]
        · rw [if_neg h4] at h; cases h
      · rw [if_neg h3] at h; cases h
    · simp only [if_neg h2] at h ⊢
      by_cases h3 : st.en = true
      · rw [if_pos h3] at h; cases h
      · simp only [if_neg h3] at h ⊢
        exact begin_act hc (by simpa using h3) h

theorem Iv.ones {N : List Nd} {O : List Nat} {en : Bool} (h : Iv N O en) (he : en = false) (k n : Int) : ∀ o ∈ O, 1 ≤ kd (addN N O k n) o ∧ kd (addN N O k n) o ≤ mostK (kk N o) := by
  intro o ho
  have h1 := (kd_add k n h.lt (h.lt o ho)).1
  have h2 := h.le o ho
  cases O with
  | nil => cases ho
  | cons q O =>
    by_cases hq : q = o
    · subst hq
      rw [if_pos (by simp)] at h1
      have h3 := h.e0 he q rfl
      omega
    · rw [if_neg (by simp [hq])] at h1
      have h3 := h.out o (by simpa [Ne.symm hq] using ho)
      omega
theorem Act.iv {t : List Int} {st st' : PS} (h : Act t st st') (hi : Iv st.N st.O st.en) : Iv st'.N st'.O st'.en := by
  obtain ⟨p, N, O, en⟩ := st
  replace hi : Iv N O en := hi
  rcases h with ⟨k, n, h⟩ | ⟨k, n, h⟩ | ⟨o, O', h⟩ | ⟨o, O', c, h⟩
  · have he : en = false := h.en
    have ones := hi.ones he k n
    have ka := fun j hj => kd_add (N := N) (O := O) k n (j := j) hi.lt hj
    obtain ⟨z1, z2, z3⟩ := nd_add (N := N) (O := O) k n hi.lt
    rw [h.is]
    simp only
    have hsub : ∀ o ∈ popO (addN N O k n) O, o ∈ O := fun o ho => (popO_suffix _ _).mem ho
    refine ⟨fun o ho => ?_, hi.nd.sublist (popO_suffix _ _).sublist, fun o ho => ?_, fun o ho => (ones o (hsub o (List.mem_of_mem_tail ho))).1, fun _ o ho => ⟨(ones o (hsub o (List.mem_of_mem_head? ho))).1, popO_head _ _ _ ho⟩, (fun h => by cases h), fun o ho => ?_, fun j hj => ?_, fun j (hj : j < _) (hn : j ∉ _) => ?_, (fun _ h => by cases h)⟩
    · rw [addN_len]; have : o < N.length := hi.lt o (hsub o ho); omega
    · rw [(ka o (hi.lt o (hsub o ho))).2.1]; exact hi.kin o (hsub o ho)
    · have h1 := ones o (hsub o ho)
      rw [(ka o (hi.lt o (hsub o ho))).2.1]
      exact ⟨by omega, h1.2⟩
    · rw [addN_len] at hj
      by_cases hj2 : j < N.length
      · rw [(ka j hj2).2.1, (ka j hj2).2.2]; exact hi.all j hj2
      · obtain rfl : j = N.length := by omega
        rw [z2, z3]
        have := h.kin
        exact ⟨by omega, h.n0⟩
    · rw [addN_len] at hj
      by_cases hj2 : j < N.length
      · by_cases hj3 : j ∈ O
        · have h5 : kk (addN N O k n) j = 5 := (popO_mem _ _ _ hj3).resolve_left hn
          have h6 := ones j hj3
          rw [← (ka j hj2).2.1, h5] at h6
          rw [h5]
          simp only [leastK]
          exact ⟨by simp; omega, h6.2⟩
        · have h1 := (ka j hj2).1
          rw [if_neg (fun (e : O.head? = some j) => hj3 (List.mem_of_mem_head? e)), Int.add_zero] at h1
          rw [h1, (ka j hj2).2.1]
          exact hi.done j hj2 hj3
      · obtain rfl : j = N.length := by omega
        rw [z1, z2]
        rcases h.kin with rfl | rfl | rfl <;> simp [leastK, mostK]
  · have he : en = false := h.en
    have ones := hi.ones he k n
    have ka := fun j hj => kd_add (N := N) (O := O) k n (j := j) hi.lt hj
    obtain ⟨z1, z2, z3⟩ := nd_add (N := N) (O := O) k n hi.lt
    have hk := h.kin
    have hm : 1 ≤ mostK k := by unfold mostK; split <;> (try split) <;> (try split) <;> (try split) <;> omega
    rw [h.is]
    simp only
    refine ⟨fun o ho => ?_, List.nodup_cons.2 ⟨fun hx => Nat.lt_irrefl _ (hi.lt _ hx), hi.nd⟩, fun o ho => ?_, fun o ho => (ones o ho).1, (fun h => by cases h), fun _ o ho => ?_, fun o ho => ?_, fun j hj => ?_, fun j (hj : j < _) (hn : j ∉ _) => ?_, (fun h => by cases h)⟩
    · rw [addN_len]
      rcases List.mem_cons.1 ho with rfl | ho
      · omega
      · have : o < N.length := hi.lt o ho; omega
    · rcases List.mem_cons.1 ho with rfl | ho
      · rw [z2]; exact hk
      · rw [(ka o (hi.lt o ho)).2.1]; exact hi.kin o ho
    · simp at ho
      subst ho
      rw [z1, z2]; omega
    · rcases List.mem_cons.1 ho with rfl | ho
      · rw [z1, z2]; omega
      · rw [(ka o (hi.lt o ho)).2.1]; have := ones o ho; omega
    · rw [addN_len] at hj
      by_cases hj2 : j < N.length
      · rw [(ka j hj2).2.1, (ka j hj2).2.2]; exact hi.all j hj2
      · obtain rfl : j = N.length := by omega
        rw [z2, z3]
        exact ⟨by omega, h.n0⟩
    · rw [addN_len] at hj
      have hne : j ≠ N.length := fun e => hn (by simp [e])
      have hj2 : j < N.length := by omega
      have hj3 : j ∉ O := fun e => hn (by simp [e])
      have h1 := (ka j hj2).1
      rw [if_neg (fun (e : O.head? = some j) => hj3 (List.mem_of_mem_head? e)), Int.add_zero] at h1
      rw [h1, (ka j hj2).2.1]
      exact hi.done j hj2 hj3
  · have hO : O = o :: O' := h.top
    rw [h.is]
    simp only
    refine ⟨hi.lt, hi.nd, hi.kin, hi.out, (fun h => by cases h), fun _ q hq => ?_, hi.le, hi.all, hi.done, (fun e => by rw [hO] at e; cases e)⟩
    rw [hO] at hq
    simp at hq
    subst hq
    exact h.lt
  · have hO : O = o :: O' := h.top
    subst hO
    rw [h.is]
    simp only
    have hsub : ∀ q ∈ popO N O', q ∈ O' := fun q hq => (popO_suffix _ _).mem hq
    refine ⟨fun q hq => hi.lt q (by simp [hsub q hq]), (List.nodup_cons.1 hi.nd).2.sublist (popO_suffix _ _).sublist, fun q hq => hi.kin q (by simp [hsub q hq]), fun q hq => hi.out q (hsub q (List.mem_of_mem_tail hq)), fun _ q hq => ⟨hi.out q (hsub q (List.mem_of_mem_head? hq)), popO_head _ _ _ hq⟩, (fun h => by cases h), fun q hq => hi.le q (by simp [hsub q hq]), hi.all, fun j (hj : j < _) (hn : j ∉ _) => ?_, (fun _ h => by cases h)⟩
    by_cases hj : j = o
    · subst hj
      have h1 := hi.le j (by simp)
      refine ⟨?_, h1.2⟩
      rcases h.may with he | he
      · have h2 := hi.e1 he j rfl
        have : leastK (kk N j) ≤ 1 := by unfold leastK; split <;> (try split) <;> omega
        omega
      · have h2 : leastK (kk N j) = 0 := he.2
        omega
    · by_cases hj3 : j ∈ O'
      · have h5 : kk N j = 5 := (popO_mem _ _ _ hj3).resolve_left hn
        have h6 := hi.le j (by simp [hj3])
        rw [h5] at h6 ⊢
        simp only [leastK]
        exact ⟨by simp; omega, h6.2⟩
      · exact hi.done j (by assumption) (by simp [hj, hj3])

/-- What was read is part of M. -/
structure Ag (M N : List Nd) (O : List Nat) (en : Bool) : Prop where
  len : N.length ≤ M.length
  same : ∀ j, j < N.length → kk N j = kk M j ∧ nn N j = nn M j ∧ kd N j ≤ kd M j
  eq : ∀ j, j < N.length → j ∉ O → kd N j = kd M j
  go : en = false → ∀ o, O.head? = some o → kd N o < kd M o ∨ (kd N o = 0 ∧ kd M o = 0 ∧ kk M o = 3)
theorem nd_is {M : List Nd} {i : Nat} {k n c : Int} (h1 : kk M i = k) (h2 : nn M i = n) (h3 : kd M i = c) : M.getD i nil0 = (k, n, c) := by
  unfold kk at h1; unfold nn at h2; unfold kd at h3
  rw [← h1, ← h2, ← h3]
theorem Cn_leaf {M N : List Nd} {O : List Nat} (k n : Int) (hO : ∀ x ∈ O, x < N.length) (hn : O.Nodup) (hd : ∀ o ∈ O, o ∉ popO (addN N O k n) O → kd (addN N O k n) o = kd M o) : Cn M (addN N O k n) (popO (addN N O k n) O) true = Cn M N O false - 1 := by
  unfold Cn
  rw [sm_pop hn hd, sm_add k n hO hn]
  cases O with
  | nil => simp [sm]
  | cons o O => simp
theorem Cn_open {M N : List Nd} {O : List Nat} (k n : Int) (hO : ∀ x ∈ O, x < N.length) (hn : O.Nodup) : Cn M (addN N O k n) (N.length :: O) false = Cn M N O false + (kd M N.length - 1) := by
  unfold Cn
  rw [sm, sm_add k n hO hn, (nd_add k n hO).1]
  cases O with
  | nil => simp [sm]; omega
  | cons o O => simp; omega
theorem Cn_pos {M N : List Nd} {O : List Nat} (hle : ∀ o ∈ O, kd N o ≤ kd M o) (hf : ∀ o, O.head? = some o → kd N o < kd M o) : Cn M N O false ≠ 0 := by
  unfold Cn
  cases O with
  | nil => simp [sm]
  | cons o O =>
    have h1 := hf o rfl
    have h2 := sm_nonneg (M := M) (N := N) (O := O) fun q hq => hle q (by simp [hq])
    simp only [sm]
    simp
    omega
theorem Cn_close {M N : List Nd} {o : Nat} {O : List Nat} {en : Bool} (hn : (o :: O).Nodup) (h0 : kd N o = kd M o) (hd : ∀ o ∈ O, o ∉ popO N O → kd N o = kd M o) : Cn M N (popO N O) true = Cn M N (o :: O) en := by
  unfold Cn
  rw [sm_pop (List.nodup_cons.1 hn).2 hd, sm, h0]
  simp
theorem Act.back {t : List Int} {st st' : PS} {M : List Nd} (h : Act t st st') (hi : Iv st.N st.O st.en) (ha : Ag M st'.N st'.O st'.en) (hM : ∀ j, j < M.length → right (M.getD j nil0) = true)
    (hF : t.drop st'.p = Fm M st'.N st'.O st'.en) (hC : Ck (Cn M st'.N st'.O st'.en) (M.drop st'.N.length)) : Ag M st.N st.O st.en ∧ t.drop st.p = Fm M st.N st.O st.en ∧ Ck (Cn M st.N st.O st.en) (M.drop st.N.length) := by
  obtain ⟨p, N, O, en⟩ := st
  replace hi : Iv N O en := hi
  rcases h with ⟨k, n, h⟩ | ⟨k, n, h⟩ | ⟨o, O', h⟩ | ⟨o, O', c, h⟩
  · have he : en = false := h.en
    subst he
    obtain ⟨p', N', O', en'⟩ := st'
    replace ha : Ag M N' O' en' := ha
    replace hF : t.drop p' = Fm M N' O' en' := hF
    replace hC : Ck (Cn M N' O' en') (M.drop N'.length) := hC
    have his := h.is
    simp only [PS.mk.injEq, true_and] at his
    obtain ⟨rfl, rfl, rfl⟩ := his
    have ka := fun j hj => kd_add (N := N) (O := O) k n (j := j) hi.lt hj
    obtain ⟨z1, z2, z3⟩ := nd_add (N := N) (O := O) k n hi.lt
    have hlen : N.length < M.length := by have := ha.len; simp only [addN_len] at this; omega
    have hsub : ∀ o ∈ popO (addN N O k n) O, o ∈ O := fun o ho => (popO_suffix _ _).mem ho
    have hno : N.length ∉ popO (addN N O k n) O := fun hx => Nat.lt_irrefl _ (hi.lt _ (hsub _ hx))
    have x1 := ha.same N.length (by simp only [addN_len]; omega)
    have x2 := ha.eq N.length (by simp only [addN_len]; omega) hno
    try simp only at x1 x2
    have hx : M.getD N.length nil0 = (k, n, 0) := nd_is (by rw [← x1.1]; exact z2) (by rw [← x1.2.1]; exact z3) (by rw [← x2]; exact z1)
    have sm1 : ∀ j, j < N.length → kk N j = kk M j ∧ nn N j = nn M j ∧ kd N j ≤ kd M j := fun j hj => by
      have h1 := ha.same j (by simp only [addN_len]; omega)
      have h2 := ka j hj
      try simp only at h1
      rw [h2.1, h2.2.1, h2.2.2] at h1
      refine ⟨h1.1, h1.2.1, ?_⟩
      have h3 := h1.2.2
      split at h3 <;> omega
    have hgo : ∀ o, O.head? = some o → kd N o < kd M o := fun o ho => by
      have hlt := hi.lt o (List.mem_of_mem_head? ho)
      have h1 := (ha.same o (by simp only [addN_len]; omega)).2.2
      try simp only at h1
      rw [(ka o hlt).1, if_pos ho] at h1
      omega
    have hpd : ∀ o ∈ O, o ∉ popO (addN N O k n) O → kd (addN N O k n) o = kd M o := fun o ho hx => ha.eq o (by have := hi.lt o ho; simp only [addN_len]; omega) hx
    refine ⟨⟨Nat.le_of_lt hlen, sm1, fun j (hj : j < N.length) (hn : j ∉ _) => ?_, fun _ o ho => .inl (hgo o ho)⟩, ?_, ?_⟩
    · have h1 := ha.eq j (by simp only [addN_len]; omega) (fun hx => hn (hsub j hx))
      try simp only at h1
      rw [(ka j hj).1, if_neg (fun (e : O.head? = some j) => hn (List.mem_of_mem_head? e)), Int.add_zero] at h1
      exact h1
    · have h1 := h.tx
      try simp only at h1 hF ⊢
      rw [h1, hF, ← Fm_pop hi.nd (fun o ho => (ha.same o (by have := hi.lt o ho; simp only [addN_len]; omega)).1) hpd, Fm_begin k n hlen hi.lt hi.nd hgo, hx, Fm_close (by rw [x2])]
      have h5 : endT (kk M N.length) = [] := by rw [← x1.1, z2]; rcases h.kin with rfl | rfl | rfl <;> rfl
      rw [h5, List.nil_append]
    · try simp only at hC ⊢
      rw [Cn_leaf k n hi.lt hi.nd hpd, addN_len] at hC
      rw [drop_nd hlen, Ck_cons]
      refine ⟨Cn_pos (fun o ho => (sm1 o (hi.lt o ho)).2.2) hgo, hM _ hlen, ?_⟩
      rw [hx]
      exact hC
  · have he : en = false := h.en
    subst he
    obtain ⟨p', N', O', en'⟩ := st'
    replace ha : Ag M N' O' en' := ha
    replace hF : t.drop p' = Fm M N' O' en' := hF
    replace hC : Ck (Cn M N' O' en') (M.drop N'.length) := hC
    have his := h.is
    simp only [PS.mk.injEq, true_and] at his
    obtain ⟨rfl, rfl, rfl⟩ := his
    have ka := fun j hj => kd_add (N := N) (O := O) k n (j := j) hi.lt hj
    obtain ⟨z1, z2, z3⟩ := nd_add (N := N) (O := O) k n hi.lt
    have hlen : N.length < M.length := by have := ha.len; simp only [addN_len] at this; omega
    have x1 := ha.same N.length (by simp only [addN_len]; omega)
    try simp only at x1
    have hx : M.getD N.length nil0 = (k, n, kd M N.length) := nd_is (by rw [← x1.1]; exact z2) (by rw [← x1.2.1]; exact z3) rfl
    have sm1 : ∀ j, j < N.length → kk N j = kk M j ∧ nn N j = nn M j ∧ kd N j ≤ kd M j := fun j hj => by
      have h1 := ha.same j (by simp only [addN_len]; omega)
      have h2 := ka j hj
      try simp only at h1
      rw [h2.1, h2.2.1, h2.2.2] at h1
      refine ⟨h1.1, h1.2.1, ?_⟩
      have h3 := h1.2.2
      split at h3 <;> omega
    have hgo : ∀ o, O.head? = some o → kd N o < kd M o := fun o ho => by
      have hlt := hi.lt o (List.mem_of_mem_head? ho)
      have h1 := (ha.same o (by simp only [addN_len]; omega)).2.2
      try simp only at h1
      rw [(ka o hlt).1, if_pos ho] at h1
      omega
    have hg := ha.go rfl N.length rfl
    try simp only at hg
    rw [z1, ← x1.1, z2] at hg
    have hb : beginT (k, n, 1) = beginT (k, n, kd M N.length) := by
      unfold beginT
      simp only
      have hk := h.kin
      by_cases h5 : k = 5
      · subst h5
        have : kd M N.length ≠ 0 := by omega
        simp [this]
      · split; rfl; split; rfl; split; rfl; split; rfl; split; rfl; omega
    refine ⟨⟨Nat.le_of_lt hlen, sm1, fun j (hj : j < N.length) (hn : j ∉ _) => ?_, fun _ o ho => .inl (hgo o ho)⟩, ?_, ?_⟩
    · have h1 := ha.eq j (by simp only [addN_len]; omega) (fun hx => by
        rcases List.mem_cons.1 hx with rfl | hx
        · omega
        · exact hn hx)
      try simp only at h1
      rw [(ka j hj).1, if_neg (fun (e : O.head? = some j) => hn (List.mem_of_mem_head? e)), Int.add_zero] at h1
      exact h1
    · have h1 := h.tx
      try simp only at h1 hF ⊢
      rw [h1, hF, Fm_begin k n hlen hi.lt hi.nd hgo, hx, hb]
    · try simp only at hC ⊢
      rw [Cn_open k n hi.lt hi.nd, addN_len] at hC
      rw [drop_nd hlen, Ck_cons]
      exact ⟨Cn_pos (fun o ho => (sm1 o (hi.lt o ho)).2.2) hgo, hM _ hlen, by rw [hx]; exact hC⟩
  · obtain ⟨p', N', O2, en'⟩ := st'
    replace ha : Ag M N' O2 en' := ha
    replace hF : t.drop p' = Fm M N' O2 en' := hF
    replace hC : Ck (Cn M N' O2 en') (M.drop N'.length) := hC
    have his := h.is.symm
    simp only [PS.mk.injEq, true_and] at his
    obtain ⟨rfl, rfl, rfl⟩ := his
    have hO : O = o :: O' := h.top
    subst hO
    have he : en = true := h.en
    subst he
    have h1 := (hi.e1 rfl o rfl).1
    have h2 : kd N o < kd M o := (ha.go rfl o rfl).resolve_right (fun hx => by omega)
    refine ⟨⟨ha.len, ha.same, ha.eq, (fun h => by cases h)⟩, ?_, ?_⟩
    · have h3 := h.tx
      try simp only at h3 hF ⊢
      rw [h3, hF, Fm_comma h2]
    · simpa [Cn] using hC
  · obtain ⟨p', N', O2, en'⟩ := st'
    replace ha : Ag M N' O2 en' := ha
    replace hF : t.drop p' = Fm M N' O2 en' := hF
    replace hC : Ck (Cn M N' O2 en') (M.drop N'.length) := hC
    have his := h.is.symm
    simp only [PS.mk.injEq, true_and] at his
    obtain ⟨rfl, rfl, rfl⟩ := his
    have hO : O = o :: O' := h.top
    subst hO
    have hsub : ∀ q ∈ popO N O', q ∈ O' := fun q hq => (popO_suffix _ _).mem hq
    have hno : o ∉ O' := (List.nodup_cons.1 hi.nd).1
    have hol := hi.lt o (by simp)
    have h0 : kd N o = kd M o := ha.eq o hol fun hx => hno (hsub o hx)
    have hpd : ∀ q ∈ O', q ∉ popO N O' → kd N q = kd M q := fun q hq hx => ha.eq q (hi.lt q (by simp [hq])) hx
    refine ⟨⟨ha.len, ha.same, fun j hj hn => ha.eq j hj fun hx => hn (by simp [hsub j hx]), fun e q hq => ?_⟩, ?_, ?_⟩
    · simp at hq
      subst hq
      rcases h.may with h1 | h1
      · exact absurd (e.symm.trans h1) (by simp)
      · have h2 := h1.1
        have h3 := h1.2
        have h4 := h.ends
        have h5 := hi.kin o (by simp)
        try simp only at h2 h3 h4 h5
        refine .inr ⟨h2, by omega, ?_⟩
        rw [← (ha.same o hol).1]
        skip
        unfold leastK at h3
        unfold endT at h4
        have h6 : kk N o = 3 ∨ kk N o = 4 ∨ kk N o = 5 ∨ kk N o = 6 := by omega
        rcases h6 with h6 | h6 | h6 | h6
        · exact h6
        · rw [h6] at h3; simp at h3
        · rw [h6] at h4; simp at h4
        · rw [h6] at h3; simp at h3
    · have h3 := h.tx
      try simp only at h3 hF ⊢
      have h4 := h.ends
      try simp only at h4
      rw [h3, hF, Fm_close h0, ← (ha.same o hol).1, h4, Fm_pop (List.nodup_cons.1 hi.nd).2 (fun q hq => (ha.same q (hi.lt q (by simp [hq]))).1) hpd]
    · try simp only at hC ⊢
      rw [Cn_close (en := en) hi.nd h0 hpd] at hC
      exact hC
end Go.Proofs.YtlbgdgobhiokpaaDoor
