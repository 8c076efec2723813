import Derived.Test.YtlbgdgobhiokpaaDoorPart09

/- A round that goes on, plain: what it reads, what it leaves; back from the end: a text that is read is the text of what was read. -/
namespace Go.Proofs.YtlbgdgobhiokpaaDoor
open Go.RowKit
set_option linter.unusedVariables false
set_option linter.unusedSimpArgs false

structure Iv (N : List Nd) (O : List Nat) (en : Bool) : Prop where
  lt : ∀ o ∈ O, o < N.length
  nd : O.Nodup
  kin : ∀ o ∈ O, 3 ≤ kk N o ∧ kk N o ≤ 6
  out : ∀ o ∈ O.tail, 1 ≤ kd N o
  e1 : en = true → ∀ o, O.head? = some o → 1 ≤ kd N o ∧ kk N o ≠ 5
  e0 : en = false → ∀ o, O.head? = some o → kd N o < mostK (kk N o)
  le : ∀ o ∈ O, 0 ≤ kd N o ∧ kd N o ≤ mostK (kk N o)
  all : ∀ j, j < N.length → (1 ≤ kk N j ∧ kk N j ≤ 6) ∧ 0 ≤ nn N j ∧ nn N j ≤ mostN (kk N j)
  done : ∀ j, j < N.length → j ∉ O → leastK (kk N j) ≤ kd N j ∧ kd N j ≤ mostK (kk N j)
  nil : O = [] → en = false → N = []
theorem Iv.begin : Iv [] [] false := ⟨by simp, by simp, by simp, by simp, by simp, by simp, by simp, by simp, by simp, fun _ _ => rfl⟩

/-- What a round does that goes on. -/
structure Leaf (t : List Int) (st st' : PS) (k n : Int) : Prop where
  en : st.en = false
  kin : k = 1 ∨ k = 2 ∨ k = 5
  n0 : 0 ≤ n ∧ n ≤ mostN k
  tx : t.drop st.p = beginT (k, n, 0) ++ t.drop st'.p
  is : st' = ⟨st'.p, addN st.N st.O k n, popO (addN st.N st.O k n) st.O, true⟩
structure Open (t : List Int) (st st' : PS) (k n : Int) : Prop where
  en : st.en = false
  kin : 3 ≤ k ∧ k ≤ 6
  n0 : 0 ≤ n ∧ n ≤ mostN k
  tx : t.drop st.p = beginT (k, n, 1) ++ t.drop st'.p
  is : st' = ⟨st'.p, addN st.N st.O k n, st.N.length :: st.O, false⟩
structure Comma (t : List Int) (st st' : PS) (o : Nat) (O : List Nat) : Prop where
  en : st.en = true
  top : st.O = o :: O
  lt : kd st.N o < mostK (kk st.N o)
  tx : t.drop st.p = [44, 32] ++ t.drop st'.p
  is : st' = ⟨st'.p, st.N, st.O, false⟩
structure Close (t : List Int) (st st' : PS) (o : Nat) (O : List Nat) (c : Int) : Prop where
  top : st.O = o :: O
  may : st.en = true ∨ (kd st.N o = 0 ∧ leastK (kk st.N o) = 0)
  ends : endT (kk st.N o) = [c]
  tx : t.drop st.p = [c] ++ t.drop st'.p
  is : st' = ⟨st'.p, st.N, popO st.N O, true⟩
def Act (t : List Int) (st st' : PS) : Prop := (∃ k n, Leaf t st st' k n) ∨ (∃ k n, Open t st st' k n) ∨ (∃ o O, Comma t st st' o O) ∨ ∃ o O c, Close t st st' o O c

theorem leaf_act {t : List Int} {c : Int} {st : PS} (hc : t[st.p]? = some c) (he : st.en = false) (h : (leafM t c st).2 = true) : Act t st (leafM t c st).1 := by
  unfold leafM at h ⊢
  split at h
  · rename_i hok
    rw [if_pos hok]
    unfold leafW at hok ⊢
    unfold leafK
    by_cases h1 : c = 110
    · simp only [if_pos h1] at hok ⊢
      obtain ⟨a1, a2⟩ := takeW_ok t _ _ hok
      exact .inl ⟨5, 0, he, by simp, by simp [mostN], by simp only [a2]; rw [a1]; simp [beginT], rfl⟩
    · simp only [if_neg h1] at hok ⊢
      by_cases h2 : c = 102
      · simp only [if_pos h2] at hok ⊢
        obtain ⟨a1, a2⟩ := takeW_ok t _ _ hok
        exact .inl ⟨2, 0, he, by simp, by simp [mostN], by simp only [a2]; rw [a1]; simp [beginT], rfl⟩
      · simp only [if_neg h2] at hok ⊢
        by_cases h3 : c = 116
        · simp only [if_pos h3] at hok ⊢
          obtain ⟨a1, a2⟩ := takeW_ok t _ _ hok
          exact .inl ⟨2, 1, he, by simp, by simp [mostN], by simp only [a2]; rw [a1]; simp [beginT], rfl⟩
        · simp only [if_neg h3] at hok ⊢
          obtain ⟨b1, b2, b3⟩ := numL_back0 (most := 18446744073709551615) (by omega) (by omega) (t.drop st.p) (by simpa using hok)
          refine .inl ⟨1, _, he, by simp, ⟨b2, by simp [mostN]; exact b3⟩, ?_, rfl⟩
          simp only [beginT, if_pos]
          rw [← b1, ← List.drop_drop, List.take_append_drop]
  · cases h
theorem begin_act {t : List Int} {c : Int} {st : PS} (hc : t[st.p]? = some c) (he : st.en = false) (h : (beginM t c st).2 = true) : Act t st (beginM t c st).1 := by
  have hd := drop_of hc
  unfold beginM at h ⊢
  by_cases h1 : c = 91
  · simp only [if_pos h1]
    refine .inr (.inl ⟨3, 0, he, by omega, by simp [mostN], ?_, by simp [he]⟩)
    rw [hd, h1]; simp [beginT]
  · simp only [if_neg h1] at h ⊢
    by_cases h2 : c = 123
    · simp only [if_pos h2]
      refine .inr (.inl ⟨4, 0, he, by omega, by simp [mostN], ?_, by simp [he]⟩)
      rw [hd, h2]; simp [beginT]
    · simp only [if_neg h2] at h ⊢
      by_cases h3 : c = 60
      · simp only [if_pos h3] at h ⊢
        by_cases h4 : 0 < (numL 255 (t.drop (st.p + 1)) true 0).2
        · simp only [if_pos h4] at h ⊢
          by_cases h5 : (takeW t (st.p + 1 + (numL 255 (t.drop (st.p + 1)) true 0).2) [58]).2 = true
          · simp only [if_pos h5]
            obtain ⟨b1, b2, b3⟩ := numL_back0 (most := 255) (by omega) (by omega) _ h4
            obtain ⟨a1, a2⟩ := takeW_ok t _ _ h5
            refine .inr (.inl ⟨6, _, he, by omega, ⟨b2, by simp [mostN]; exact b3⟩, ?_, by simp [he]⟩)
            simp only [a2]
            rw [hd, h3]
            simp only [beginT]
            rw [← b1]
            have e1 := (List.take_append_drop (numL 255 (t.drop (st.p + 1)) true 0).2 (t.drop (st.p + 1))).symm
            rw [List.drop_drop, a1] at e1
            conv => lhs; rw [e1]
            simp
          · rw [if_neg h5] at h; cases h
        · rw [if_neg h4] at h; cases h
      · simp only [if_neg h3] at h ⊢
        by_cases h4 : c = 115
        · simp only [if_pos h4] at h ⊢
          by_cases h5 : (takeW t st.p [115, 111, 109, 101, 32]).2 = true
          · simp only [if_pos h5]
            obtain ⟨a1, a2⟩ := takeW_ok t _ _ h5
            refine .inr (.inl ⟨5, 0, he, by omega, by simp [mostN], ?_, by simp [he]⟩)
            simp only [a2]
            rw [a1]; simp [beginT]
          · rw [if_neg h5] at h; cases h
        · simp only [if_neg h4] at h ⊢
          exact leaf_act hc he h
theorem rnd_act {t : List Int} {c : Int} {st : PS} (hc : t[st.p]? = some c) (h : (rndM t c st).2 = true) : Act t st (rndM t c st).1 := by
  have hd := drop_of hc
  unfold rndM at h ⊢
  by_cases h1 : c = 93 ∨ c = 125 ∨ c = 62
  · simp only [if_pos h1] at h ⊢
    by_cases h2 : mayC st.N st.O st.en c = true
    · simp only [if_pos h2]
      cases hO : st.O with
      | nil => rw [hO] at h2; simp [mayC] at h2
      | cons o O =>
        rw [hO] at h2
        simp only [mayC, Bool.and_eq_true, Bool.or_eq_true, decide_eq_true_eq] at h2
        refine .inr (.inr (.inr ⟨o, O, c, hO, h2.1, h2.2, ?_, rfl⟩))
        rw [hd]; rfl
    · rw [if_neg h2] at h; cases h
  · simp only [if_neg h1] at h ⊢
    by_cases h2 : c = 44
    · simp only [if_pos h2] at h ⊢
      by_cases h3 : mayGo st.N st.O st.en = true
      · simp only [if_pos h3] at h ⊢
        by_cases h4 : (takeW t st.p [44, 32]).2 = true
        · simp only [if_pos h4]
          cases hO : st.O with
          | nil => rw [hO] at h3; simp [mayGo] at h3
          | cons o O =>
            rw [hO] at h3
            simp only [mayGo, Bool.and_eq_true, decide_eq_true_eq] at h3
            obtain ⟨a1, a2⟩ := takeW_ok t _ _ h4
            refine .inr (.inr (.inl ⟨o, O, h3.1, hO, h3.2, ?_, by simp [hO]⟩))
            simp only [a2]
            rw [a1]
        · rw [if_neg h4] at h; cases h
      · rw [if_neg h3] at h; cases h
    · simp only [if_neg h2] at h ⊢
      by_cases h3 : st.en = true
      · rw [if_pos h3] at h; cases h
      · simp only [if_neg h3] at h ⊢
        exact begin_act hc (by simpa using h3) h

theorem Iv.ones {N : List Nd} {O : List Nat} {en : Bool} (h : Iv N O en) (he : en = false) (k n : Int) : ∀ o ∈ O, 1 ≤ kd (addN N O k n) o ∧ kd (addN N O k n) o ≤ mostK (kk N o) := by
  intro o ho
  have h1 := (kd_add k n h.lt (h.lt o ho)).1
  have h2 := h.le o ho
  cases O with
  | nil => cases ho
  | cons q O =>
    by_cases hq : q = o
    · subst hq
      rw [if_pos (by simp)] at h1
      have h3 := h.e0 he q rfl
      omega
    · rw [if_neg (by simp [hq])] at h1
      have h3 := h.out o (by simpa [Ne.symm hq] using ho)
      omega
theorem Act.iv {t : List Int} {st st' : PS} (h : Act t st st') (hi : Iv st.N st.O st.en) : Iv st'.N st'.O st'.en := by
  obtain ⟨p, N, O, en⟩ := st
  replace hi : Iv N O en := hi
  rcases h with ⟨k, n, h⟩ | ⟨k, n, h⟩ | ⟨o, O', h⟩ | ⟨o, O', c, h⟩
  · have he : en = false := h.en
    have ones := hi.ones he k n
    have ka := fun j hj => kd_add (N := N) (O := O) k n (j := j) hi.lt hj
    obtain ⟨z1, z2, z3⟩ := nd_add (N := N) (O := O) k n hi.lt
    rw [h.is]
    simp only
    have hsub : ∀ o ∈ popO (addN N O k n) O, o ∈ O := fun o ho => (popO_suffix _ _).mem ho
    refine ⟨fun o ho => ?_, hi.nd.sublist (popO_suffix _ _).sublist, fun o ho => ?_, fun o ho => (ones o (hsub o (List.mem_of_mem_tail ho))).1, fun _ o ho => ⟨(ones o (hsub o (List.mem_of_mem_head? ho))).1, popO_head _ _ _ ho⟩, (fun h => by cases h), fun o ho => ?_, fun j hj => ?_, fun j (hj : j < _) (hn : j ∉ _) => ?_, (fun _ h => by cases h)⟩
    · rw [addN_len]; have : o < N.length := hi.lt o (hsub o ho); omega
    · rw [(ka o (hi.lt o (hsub o ho))).2.1]; exact hi.kin o (hsub o ho)
    · have h1 := ones o (hsub o ho)
      rw [(ka o (hi.lt o (hsub o ho))).2.1]
      exact ⟨by omega, h1.2⟩
    · rw [addN_len] at hj
      by_cases hj2 : j < N.length
      · rw [(ka j hj2).2.1, (ka j hj2).2.2]; exact hi.all j hj2
      · obtain rfl : j = N.length := by omega
        rw [z2, z3]
        have := h.kin
        exact ⟨by omega, h.n0⟩
    · rw [addN_len] at hj
      by_cases hj2 : j < N.length
      · by_cases hj3 : j ∈ O
        · have h5 : kk (addN N O k n) j = 5 := (popO_mem _ _ _ hj3).resolve_left hn
          have h6 := ones j hj3
          rw [← (ka j hj2).2.1, h5] at h6
          rw [h5]
          simp only [leastK]
          exact ⟨by simp; omega, h6.2⟩
        · have h1 := (ka j hj2).1
          rw [if_neg (fun (e : O.head? = some j) => hj3 (List.mem_of_mem_head? e)), Int.add_zero] at h1
          rw [h1, (ka j hj2).2.1]
          exact hi.done j hj2 hj3
      · obtain rfl : j = N.length := by omega
        rw [z1, z2]
        rcases h.kin with rfl | rfl | rfl <;> simp [leastK, mostK]
  · have he : en = false := h.en
    have ones := hi.ones he k n
    have ka := fun j hj => kd_add (N := N) (O := O) k n (j := j) hi.lt hj
    obtain ⟨z1, z2, z3⟩ := nd_add (N := N) (O := O) k n hi.lt
    have hk := h.kin
    have hm : 1 ≤ mostK k := by unfold mostK; split <;> (try split) <;> (try split) <;> (try split) <;> omega
    rw [h.is]
    simp only
    refine ⟨fun o ho => ?_, List.nodup_cons.2 ⟨fun hx => Nat.lt_irrefl _ (hi.lt _ hx), hi.nd⟩, fun o ho => ?_, fun o ho => (ones o ho).1, (fun h => by cases h), fun _ o ho => ?_, fun o ho => ?_, fun j hj => ?_, fun j (hj : j < _) (hn : j ∉ _) => ?_, (fun h => by cases h)⟩
    · rw [addN_len]
      rcases List.mem_cons.1 ho with rfl | ho
      · omega
      · have : o < N.length := hi.lt o ho; omega
    · rcases List.mem_cons.1 ho with rfl | ho
      · rw [z2]; exact hk
      · rw [(ka o (hi.lt o ho)).2.1]; exact hi.kin o ho
    · simp at ho
      subst ho
      rw [z1, z2]; omega
    · rcases List.mem_cons.1 ho with rfl | ho
      · rw [z1, z2]; omega
      · rw [(ka o (hi.lt o ho)).2.1]; have := ones o ho; omega
    · rw [addN_len] at hj
      by_cases hj2 : j < N.length
      · rw [(ka j hj2).2.1, (ka j hj2).2.2]; exact hi.all j hj2
      · obtain rfl : j = N.length := by omega
        rw [z2, z3]
        exact ⟨by omega, h.n0⟩
    · rw [addN_len] at hj
      have hne : j ≠ N.length := fun e => hn (by simp [e])
      have hj2 : j < N.length := by omega
      have hj3 : j ∉ O := fun e => hn (by simp [e])
      have h1 := (ka j hj2).1
      rw [if_neg (fun (e : O.head? = some j) => hj3 (List.mem_of_mem_head? e)), Int.add_zero] at h1
      rw [h1, (ka j hj2).2.1]
      exact hi.done j hj2 hj3
  · have hO : O = o :: O' := h.top
    rw [h.is]
    simp only
    refine ⟨hi.lt, hi.nd, hi.kin, hi.out, (fun h => by cases h), fun _ q hq => ?_, hi.le, hi.all, hi.done, (fun e => by rw [hO] at e; cases e)⟩
    rw [hO] at hq
    simp at hq
    subst hq
    exact h.lt
  · have hO : O = o :: O' := h.top
    subst hO
    rw [h.is]
    simp only
    have hsub : ∀ q ∈ popO N O', q ∈ O' := fun q hq => (popO_suffix _ _).mem hq
    refine ⟨fun q hq => hi.lt q (by simp [hsub q hq]), (List.nodup_cons.1 hi.nd).2.sublist (popO_suffix _ _).sublist, fun q hq => hi.kin q (by simp [hsub q hq]), fun q hq => hi.out q (hsub q (List.mem_of_mem_tail hq)), fun _ q hq => ⟨hi.out q (hsub q (List.mem_of_mem_head? hq)), popO_head _ _ _ hq⟩, (fun h => by cases h), fun q hq => hi.le q (by simp [hsub q hq]), hi.all, fun j (hj : j < _) (hn : j ∉ _) => ?_, (fun _ h => by cases h)⟩
    by_cases hj : j = o
    · subst hj
      have h1 := hi.le j (by simp)
      refine ⟨?_, h1.2⟩
      rcases h.may with he | he
      · have h2 := hi.e1 he j rfl
        have : leastK (kk N j) ≤ 1 := by unfold leastK; split <;> (try split) <;> omega
        omega
      · have h2 : leastK (kk N j) = 0 := he.2
        omega
    · by_cases hj3 : j ∈ O'
      · have h5 : kk N j = 5 := (popO_mem _ _ _ hj3).resolve_left hn
        have h6 := hi.le j (by simp [hj3])
        rw [h5] at h6 ⊢
        simp only [leastK]
        exact ⟨by simp; omega, h6.2⟩
      · exact hi.done j (by assumption) (by simp [hj, hj3])

/-- What was read is part of M. -/
structure Ag (M N : List Nd) (O : List Nat) (en : Bool) : Prop where
  len : N.length ≤ M.length
  same : ∀ j, j < N.length → kk N j = kk M j ∧ nn N j = nn M j ∧ kd N j ≤ kd M j
  eq : ∀ j, j < N.length → j ∉ O → kd N j = kd M j
  go : en = false → ∀ o, O.head? = some o → kd N o < kd M o ∨ (kd N o = 0 ∧ kd M o = 0 ∧ kk M o = 3)
theorem nd_is {M : List Nd} {i : Nat} {k n c : Int} (h1 : kk M i = k) (h2 : nn M i = n) (h3 : kd M i = c) : M.getD i nil0 = (k, n, c) := by
  unfold kk at h1; unfold nn at h2; unfold kd at h3
  rw [← h1, ← h2, ← h3]
theorem Cn_leaf {M N : List Nd} {O : List Nat} (k n : Int) (hO : ∀ x ∈ O, x < N.length) (hn : O.Nodup) (hd : ∀ o ∈ O, o ∉ popO (addN N O k n) O → kd (addN N O k n) o = kd M o) : Cn M (addN N O k n) (popO (addN N O k n) O) true = Cn M N O false - 1 := by
  unfold Cn
  rw [sm_pop hn hd, sm_add k n hO hn]
  cases O with
  | nil => simp [sm]
  | cons o O => simp
theorem Cn_open {M N : List Nd} {O : List Nat} (k n : Int) (hO : ∀ x ∈ O, x < N.length) (hn : O.Nodup) : Cn M (addN N O k n) (N.length :: O) false = Cn M N O false + (kd M N.length - 1) := by
  unfold Cn
  rw [sm, sm_add k n hO hn, (nd_add k n hO).1]
  cases O with
  | nil => simp [sm]; omega
  | cons o O => simp; omega
theorem Cn_pos {M N : List Nd} {O : List Nat} (hle : ∀ o ∈ O, kd N o ≤ kd M o) (hf : ∀ o, O.head? = some o → kd N o < kd M o) : Cn M N O false ≠ 0 := by
  unfold Cn
  cases O with
  | nil => simp [sm]
  | cons o O =>
    have h1 := hf o rfl
    have h2 := sm_nonneg (M := M) (N := N) (O := O) fun q hq => hle q (by simp [hq])
    simp only [sm]
    simp
    omega
theorem Cn_close {M N : List Nd} {o : Nat} {O : List Nat} {en : Bool} (hn : (o :: O).Nodup) (h0 : kd N o = kd M o) (hd : ∀ o ∈ O, o ∉ popO N O → kd N o = kd M o) : Cn M N (popO N O) true = Cn M N (o :: O) en := by
  unfold Cn
  rw [sm_pop (List.nodup_cons.1 hn).2 hd, sm, h0]
  simp
theorem Act.back {t : List Int} {st st' : PS} {M : List Nd} (h : Act t st st') (hi : Iv st.N st.O st.en) (ha : Ag M st'.N st'.O st'.en) (hM : ∀ j, j < M.length → right (M.getD j nil0) = true)
    (hF : t.drop st'.p = Fm M st'.N st'.O st'.en) (hC : Ck (Cn M st'.N st'.O st'.en) (M.drop st'.N.length)) : Ag M st.N st.O st.en ∧ t.drop st.p = Fm M st.N st.O st.en ∧ Ck (Cn M st.N st.O st.en) (M.drop st.N.length) := by
  obtain ⟨p, N, O, en⟩ := st
  replace hi : Iv N O en := hi
  rcases h with ⟨k, n, h⟩ | ⟨k, n, h⟩ | ⟨o, O', h⟩ | ⟨o, O', c, h⟩
  · have he : en = false := h.en
    subst he
    obtain ⟨p', N', O', en'⟩ := st'
    replace ha : Ag M N' O' en' := ha
    replace hF : t.drop p' = Fm M N' O' en' := hF
    replace hC : Ck (Cn M N' O' en') (M.drop N'.length) := hC
    have his := h.is
    simp only [PS.mk.injEq, true_and] at his
    obtain ⟨rfl, rfl, rfl⟩ := his
    have ka := fun j hj => kd_add (N := N) (O := O) k n (j := j) hi.lt hj
    obtain ⟨z1, z2, z3⟩ := nd_add (N := N) (O := O) k n hi.lt
    have hlen : N.length < M.length := by have := ha.len; simp only [addN_len] at this; omega
    have hsub : ∀ o ∈ popO (addN N O k n) O, o ∈ O := fun o ho => (popO_suffix _ _).mem ho
    have hno : N.length ∉ popO (addN N O k n) O := fun hx => Nat.lt_irrefl _ (hi.lt _ (hsub _ hx))
    have x1 := ha.same N.length (by simp only [addN_len]; omega)
    have x2 := ha.eq N.length (by simp only [addN_len]; omega) hno
    try simp only at x1 x2
    have hx : M.getD N.length nil0 = (k, n, 0) := nd_is (by rw [← x1.1]; exact z2) (by rw [← x1.2.1]; exact z3) (by rw [← x2]; exact z1)
    have sm1 : ∀ j, j < N.length → kk N j = kk M j ∧ nn N j = nn M j ∧ kd N j ≤ kd M j := fun j hj => by
      have h1 := ha.same j (by simp only [addN_len]; omega)
      have h2 := ka j hj
      try simp only at h1
      rw [h2.1, h2.2.1, h2.2.2] at h1
      refine ⟨h1.1, h1.2.1, ?_⟩
      have h3 := h1.2.2
      split at h3 <;> omega
    have hgo : ∀ o, O.head? = some o → kd N o < kd M o := fun o ho => by
      have hlt := hi.lt o (List.mem_of_mem_head? ho)
      have h1 := (ha.same o (by simp only [addN_len]; omega)).2.2
      try simp only at h1
      rw [(ka o hlt).1, if_pos ho] at h1
      omega
    have hpd : ∀ o ∈ O, o ∉ popO (addN N O k n) O → kd (addN N O k n) o = kd M o := fun o ho hx => ha.eq o (by have := hi.lt o ho; simp only [addN_len]; omega) hx
    refine ⟨⟨Nat.le_of_lt hlen, sm1, fun j (hj : j < N.length) (hn : j ∉ _) => ?_, fun _ o ho => .inl (hgo o ho)⟩, ?_, ?_⟩
    · have h1 := ha.eq j (by simp only [addN_len]; omega) (fun hx => hn (hsub j hx))
      try simp only at h1
      rw [(ka j hj).1, if_neg (fun (e : O.head? = some j) => hn (List.mem_of_mem_head? e)), Int.add_zero] at h1
      exact h1
    · have h1 := h.tx
      try simp only at h1 hF ⊢
      rw [h1, hF, ← Fm_pop hi.nd (fun o ho => (ha.same o (by have := hi.lt o ho; simp only [addN_len]; omega)).1) hpd, Fm_begin k n hlen hi.lt hi.nd hgo, hx, Fm_close (by rw [x2])]
      have h5 : endT (kk M N.length) = [] := by rw [← x1.1, z2]; rcases h.kin with rfl | rfl | rfl <;> rfl
      rw [h5, List.nil_append]
    · try simp only at hC ⊢
      rw [Cn_leaf k n hi.lt hi.nd hpd, addN_len] at hC
      rw [drop_nd hlen, Ck_cons]
      refine ⟨Cn_pos (fun o ho => (sm1 o (hi.lt o ho)).2.2) hgo, hM _ hlen, ?_⟩
      rw [hx]
      exact hC
  · have he : en = false := h.en
    subst he
    obtain ⟨p', N', O', en'⟩ := st'
    replace ha : Ag M N' O' en' := ha
    replace hF : t.drop p' = Fm M N' O' en' := hF
    replace hC : Ck (Cn M N' O' en') (M.drop N'.length) := hC
    have his := h.is
    simp only [PS.mk.injEq, true_and] at his
    obtain ⟨rfl, rfl, rfl⟩ := his
    have ka := fun j hj => kd_add (N := N) (O := O) k n (j := j) hi.lt hj
    obtain ⟨z1, z2, z3⟩ := nd_add (N := N) (O := O) k n hi.lt
    have hlen : N.length < M.length := by have := ha.len; simp only [addN_len] at this; omega
    have x1 := ha.same N.length (by simp only [addN_len]; omega)
    try simp only at x1
    have hx : M.getD N.length nil0 = (k, n, kd M N.length) := nd_is (by rw [← x1.1]; exact z2) (by rw [← x1.2.1]; exact z3) rfl
    have sm1 : ∀ j, j < N.length → kk N j = kk M j ∧ nn N j = nn M j ∧ kd N j ≤ kd M j := fun j hj => by
      have h1 := ha.same j (by simp only [addN_len]; omega)
      have h2 := ka j hj
      try simp only at h1
      rw [h2.1, h2.2.1, h2.2.2] at h1
      refine ⟨h1.1, h1.2.1, ?_⟩
      have h3 := h1.2.2
      split at h3 <;> omega
    have hgo : ∀ o, O.head? = some o → kd N o < kd M o := fun o ho => by
      have hlt := hi.lt o (List.mem_of_mem_head? ho)
      have h1 := (ha.same o (by simp only [addN_len]; omega)).2.2
      try simp only at h1
      rw [(ka o hlt).1, if_pos ho] at h1
      omega
    have hg := ha.go rfl N.length rfl
    try simp only at hg
    rw [z1, ← x1.1, z2] at hg
    have hb : beginT (k, n, 1) = beginT (k, n, kd M N.length) := by
      unfold beginT
      simp only
      have hk := h.kin
      by_cases h5 : k = 5
      · subst h5
        have : kd M N.length ≠ 0 := by omega
        simp [this]
      · split; rfl; split; rfl; split; rfl; split; rfl; split; rfl; omega
    refine ⟨⟨Nat.le_of_lt hlen, sm1, fun j (hj : j < N.length) (hn : j ∉ _) => ?_, fun _ o ho => .inl (hgo o ho)⟩, ?_, ?_⟩
    · have h1 := ha.eq j (by simp only [addN_len]; omega) (fun hx => by
        rcases List.mem_cons.1 hx with rfl | hx
        · omega
        · exact hn hx)
      try simp only at h1
      rw [(ka j hj).1, if_neg (fun (e : O.head? = some j) => hn (List.mem_of_mem_head? e)), Int.add_zero] at h1
      exact h1
    · have h1 := h.tx
      try simp only at h1 hF ⊢
      rw [h1, hF, Fm_begin k n hlen hi.lt hi.nd hgo, hx, hb]
    · try simp only at hC ⊢
      rw [Cn_open k n hi.lt hi.nd, addN_len] at hC
      rw [drop_nd hlen, Ck_cons]
      exact ⟨Cn_pos (fun o ho => (sm1 o (hi.lt o ho)).2.2) hgo, hM _ hlen, by rw [hx]; exact hC⟩
  · obtain ⟨p', N', O2, en'⟩ := st'
    replace ha : Ag M N' O2 en' := ha
    replace hF : t.drop p' = Fm M N' O2 en' := hF
    replace hC : Ck (Cn M N' O2 en') (M.drop N'.length) := hC
    have his := h.is.symm
    simp only [PS.mk.injEq, true_and] at his
    obtain ⟨rfl, rfl, rfl⟩ := his
    have hO : O = o :: O' := h.top
    subst hO
    have he : en = true := h.en
    subst he
    have h1 := (hi.e1 rfl o rfl).1
    have h2 : kd N o < kd M o := (ha.go rfl o rfl).resolve_right (fun hx => by omega)
    refine ⟨⟨ha.len, ha.same, ha.eq, (fun h => by cases h)⟩, ?_, ?_⟩
    · have h3 := h.tx
      try simp only at h3 hF ⊢
      rw [h3, hF, Fm_comma h2]
    · simpa [Cn] using hC
  · obtain ⟨p', N', O2, en'⟩ := st'
    replace ha : Ag M N' O2 en' := ha
    replace hF : t.drop p' = Fm M N' O2 en' := hF
    replace hC : Ck (Cn M N' O2 en') (M.drop N'.length) := hC
    have his := h.is.symm
    simp only [PS.mk.injEq, true_and] at his
    obtain ⟨rfl, rfl, rfl⟩ := his
    have hO : O = o :: O' := h.top
    subst hO
    have hsub : ∀ q ∈ popO N O', q ∈ O' := fun q hq => (popO_suffix _ _).mem hq
    have hno : o ∉ O' := (List.nodup_cons.1 hi.nd).1
    have hol := hi.lt o (by simp)
    have h0 : kd N o = kd M o := ha.eq o hol fun hx => hno (hsub o hx)
    have hpd : ∀ q ∈ O', q ∉ popO N O' → kd N q = kd M q := fun q hq hx => ha.eq q (hi.lt q (by simp [hq])) hx
    refine ⟨⟨ha.len, ha.same, fun j hj hn => ha.eq j hj fun hx => hn (by simp [hsub j hx]), fun e q hq => ?_⟩, ?_, ?_⟩
    · simp at hq
      subst hq
      rcases h.may with h1 | h1
      · exact absurd (e.symm.trans h1) (by simp)
      · have h2 := h1.1
        have h3 := h1.2
        have h4 := h.ends
        have h5 := hi.kin o (by simp)
        try simp only at h2 h3 h4 h5
        refine .inr ⟨h2, by omega, ?_⟩
        rw [← (ha.same o hol).1]
        skip
        unfold leastK at h3
        unfold endT at h4
        have h6 : kk N o = 3 ∨ kk N o = 4 ∨ kk N o = 5 ∨ kk N o = 6 := by omega
        rcases h6 with h6 | h6 | h6 | h6
        · exact h6
        · rw [h6] at h3; simp at h3
        · rw [h6] at h4; simp at h4
        · rw [h6] at h3; simp at h3
    · have h3 := h.tx
      try simp only at h3 hF ⊢
      have h4 := h.ends
      try simp only at h4
      rw [h3, hF, Fm_close h0, ← (ha.same o hol).1, h4, Fm_pop (List.nodup_cons.1 hi.nd).2 (fun q hq => (ha.same q (hi.lt q (by simp [hq]))).1) hpd]
    · try simp only at hC ⊢
      rw [Cn_close (en := en) hi.nd h0 hpd] at hC
      exact hC
end Go.Proofs.YtlbgdgobhiokpaaDoor

/- There and back, plain. -/
namespace Go.Proofs.YtlbgdgobhiokpaaDoor
open Go.RowKit
set_option linter.unusedVariables false
set_option linter.unusedSimpArgs false

theorem beginM_fail {t : List Int} {c : Int} {st : PS} (he : st.en = false) (h : (beginM t c st).2 = false) : (beginM t c st).1.en = false := by
  unfold beginM leafM at h ⊢
  split at h
  · cases h
  · split at h
    · cases h
    · split at h
      · split at h
        · split at h
          · cases h
          · simp_all
        · simp_all
      · split at h
        · split at h
          · cases h
          · simp_all
        · split at h
          · cases h
          · simp_all
theorem rnd_fail {t : List Int} {c : Int} {st : PS} (hc : t[st.p]? = some c) (h : (rndM t c st).2 = false) : okM t (rndM t c st).1 = false := by
  have hp := at_lt hc
  have hst : okM t st = false := by
    unfold okM
    have : ¬ st.p = t.length := by omega
    simp [this]
  unfold rndM at h ⊢
  split
  · rename_i h1
    rw [if_pos h1] at h
    split
    · rename_i h2
      rw [if_pos h2] at h; cases h
    · exact hst
  · rename_i h1
    rw [if_neg h1] at h
    split
    · rename_i h2
      rw [if_pos h2] at h
      split
      · rename_i h3
        rw [if_pos h3] at h
        split
        · rename_i h4
          rw [if_pos h4] at h; cases h
        · cases hO : st.O with
          | nil => rw [hO] at h3; simp [mayGo] at h3
          | cons o O => simp [okM]
      · exact hst
    · rename_i h2
      rw [if_neg h2] at h
      split
      · exact hst
      · rename_i h3
        rw [if_neg h3] at h
        have := beginM_fail (by simpa using h3) h
        simp [okM, this]
theorem okM_is {t : List Int} {st : PS} (h : okM t st = true) : st.p = t.length ∧ st.en = true ∧ st.O = [] := by
  simp only [okM, Bool.and_eq_true, decide_eq_true_eq] at h
  exact ⟨h.1.1, h.1.2, h.2⟩

/-! ### A text that is read is the text of what was read -/
theorem read_back (t : List Int) : ∀ (f : Nat) (st : PS), PSok t.length st → Iv st.N st.O st.en → t.length - st.p ≤ f → okM t (readM f t st) = true →
    (∀ j, j < (readM f t st).N.length → right ((readM f t st).N.getD j nil0) = true ∧ 0 ≤ nn (readM f t st).N j) ∧ Ag (readM f t st).N st.N st.O st.en ∧ t.drop st.p = Fm (readM f t st).N st.N st.O st.en ∧ Ck (Cn (readM f t st).N st.N st.O st.en) ((readM f t st).N.drop st.N.length) := by
  have base : ∀ st : PS, Iv st.N st.O st.en → okM t st = true → (∀ j, j < st.N.length → right (st.N.getD j nil0) = true ∧ 0 ≤ nn st.N j) ∧ Ag st.N st.N st.O st.en ∧ t.drop st.p = Fm st.N st.N st.O st.en ∧ Ck (Cn st.N st.N st.O st.en) (st.N.drop st.N.length) := by
    rintro ⟨p, N, O, en⟩ hi hok
    obtain ⟨h1, h2, h3⟩ := okM_is hok
    simp only at h1 h2 h3
    subst h1 h2 h3
    refine ⟨fun j hj => ?_, ⟨Nat.le_refl _, fun j _ => ⟨rfl, rfl, Int.le_refl _⟩, fun j _ _ => rfl, fun h => by cases h⟩, ?_, ?_⟩
    · have a1 := hi.all j hj
      have a2 := hi.done j hj (by simp)
      exact ⟨(right_iff _).2 ⟨a1.1, a1.2.2, a2.1, a2.2⟩, a1.2.1⟩
    · simp [Fm, printM]
    · simp only [List.drop_length]
      rw [Ck_nil]
      simp [Cn, sm]
  intro f
  induction f with
  | zero => intro st hk hi hf hok; rw [readM] at hok ⊢; exact base st hi hok
  | succ f ih =>
    intro st hk hi hf hok
    rw [readM] at hok ⊢
    cases hc : t[st.p]? with
    | none => rw [hc] at hok; exact base st hi hok
    | some c =>
      rw [hc] at hok
      simp only at hok ⊢
      have hlt := at_lt hc
      obtain ⟨h1, h2, h3⟩ := rndM_ok (c := c) hk hlt
      by_cases hr : (rndM t c st).2 = true
      · rw [if_pos hr] at hok ⊢
        have ha := rnd_act hc hr
        have hp := h3 hr
        obtain ⟨i1, i2, i3, i4⟩ := ih _ h1 (ha.iv hi) (by omega) hok
        exact ⟨i1, ha.back hi i2 (fun j hj => (i1 j hj).1) i3 i4⟩
      · rw [if_neg hr] at hok
        rw [rnd_fail hc (by simpa using hr)] at hok
        cases hok
theorem print_parse (t : List Int) (h : okM t (readT t st00) = true) : (∀ x ∈ parseN t, 0 ≤ x.2.1) ∧ chk 1 0 (parseN t) = (0, 0) ∧ printM (parseN t) [] = t := by
  obtain ⟨h1, h2, h3, h4⟩ := read_back t (t.length - 0) st00 (PSok.begin _) Iv.begin (Nat.le_refl _) h
  have e : parseN t = (readT t st00).N := by rw [parseN, if_pos h]
  have e2 : readM (t.length - 0) t st00 = readT t st00 := rfl
  rw [e2] at h1 h2 h3 h4
  rw [e]
  refine ⟨fun x hx => ?_, chk_zero _ _ _ ?_, ?_⟩
  · obtain ⟨i, hi, rfl⟩ := List.getElem_of_mem hx
    have := (h1 i hi).2
    rw [nn, List.getD, List.getElem?_eq_getElem hi] at this
    exact this
  · have h5 : Ck (Cn (readT t st00).N [] [] false) (readT t st00).N := by simpa [st00] using h4
    have h6 : Cn (readT t st00).N [] [] false = 1 := by simp [Cn, sm]
    rw [h6] at h5
    exact h5
  · have h5 : t.drop 0 = Fm (readT t st00).N [] [] false := h3
    simpa [Fm] using h5.symm

/-! ### A value's text is read -/
structure HV (M : List Nd) : Prop where
  rt : ∀ j, j < M.length → right (M.getD j nil0) = true
  nn : ∀ j, j < M.length → 0 ≤ nn M j
theorem HV.b {M : List Nd} (h : HV M) {j : Nat} (hj : j < M.length) : (1 ≤ kk M j ∧ kk M j ≤ 6) ∧ (0 ≤ Go.Proofs.YtlbgdgobhiokpaaDoor.nn M j ∧ Go.Proofs.YtlbgdgobhiokpaaDoor.nn M j ≤ mostN (kk M j)) ∧ leastK (kk M j) ≤ kd M j ∧ kd M j ≤ mostK (kk M j) := by
  have h1 := (right_iff _).1 (h.rt j hj)
  exact ⟨h1.1, ⟨h.nn j hj, h1.2.1⟩, h1.2.2⟩
/-- The state's relation to M, and to the text. -/
structure Fw (t : List Int) (M : List Nd) (st : PS) : Prop where
  iv : Iv st.N st.O st.en
  ag : Ag M st.N st.O st.en
  tx : t.drop st.p = Fm M st.N st.O st.en
  ck : Ck (Cn M st.N st.O st.en) (M.drop st.N.length)
theorem Cn_pos2 {M N : List Nd} {O : List Nat} (hle : ∀ o ∈ O, kd N o ≤ kd M o) (hf : ∀ o, O.head? = some o → kd N o < kd M o) : 0 < Cn M N O false := by
  unfold Cn
  cases O with
  | nil => simp [sm]
  | cons o O =>
    have h1 := hf o rfl
    have h2 := sm_nonneg (M := M) (N := N) (O := O) fun q hq => hle q (by simp [hq])
    simp only [sm]
    simp
    omega
theorem ag_pop {M N : List Nd} {O : List Nat} (hM : HV M) (hl : N.length ≤ M.length) (hlt : ∀ o ∈ O, o < N.length) (h1 : ∀ o ∈ O, 1 ≤ kd N o) (hs : ∀ j, j < N.length → kk N j = kk M j ∧ kd N j ≤ kd M j) : ∀ o ∈ O, o ∉ popO N O → kd N o = kd M o := by
  intro o ho hx
  have h5 : kk N o = 5 := (popO_mem _ _ _ ho).resolve_left hx
  have a1 := h1 o ho
  have a2 := hs o (hlt o ho)
  have a3 := (hM.b (Nat.lt_of_lt_of_le (hlt o ho) hl)).2.2.2
  rw [← a2.1, h5] at a3
  have : mostK 5 = 1 := rfl
  omega
theorem Fm_head {M N : List Nd} {O : List Nat} (hk : ∀ o, O.head? = some o → (3 ≤ kk M o ∧ kk M o ≤ 6) ∧ kk M o ≠ 5 ∧ kd N o ≤ kd M o) (hC : Ck (Cn M N O true) (M.drop N.length)) : ∀ c, (Fm M N O true).head? = some c → ¬ (48 ≤ c ∧ c ≤ 57) := by
  intro c hc
  cases O with
  | nil =>
    have e : Cn M N [] true = 0 := by simp [Cn, sm]
    rw [e] at hC
    cases hd : M.drop N.length with
    | nil => rw [Fm, hd] at hc; simp [printM] at hc
    | cons x l => rw [hd, Ck_cons] at hC; exact absurd rfl hC.1
  | cons o O =>
    obtain ⟨h1, h2, h3⟩ := hk o rfl
    by_cases h4 : kd N o < kd M o
    · rw [Fm_comma h4] at hc
      simp at hc
      omega
    · rw [Fm_close (by omega)] at hc
      have h5 : kk M o = 3 ∨ kk M o = 4 ∨ kk M o = 6 := by omega
      rcases h5 with h5 | h5 | h5 <;> (rw [h5] at hc; simp [endT] at hc; omega)
theorem fw_close {t : List Int} {M : List Nd} {p : Nat} {N : List Nd} {o : Nat} {O : List Nat} {en : Bool} (hM : HV M) (h : Fw t M ⟨p, N, o :: O, en⟩) (h0 : kd N o = kd M o) (hk : kk M o = 3 ∨ kk M o = 4 ∨ kk M o = 6) (hm : en = true ∨ (kd N o = 0 ∧ leastK (kk N o) = 0)) :
    ∃ c, t[p]? = some c ∧ (rndM t c ⟨p, N, o :: O, en⟩).2 = true ∧ Fw t M (rndM t c ⟨p, N, o :: O, en⟩).1 := by
  obtain ⟨iv, ag, tx, ck⟩ := h
  replace iv : Iv N (o :: O) en := iv
  replace ag : Ag M N (o :: O) en := ag
  replace tx : t.drop p = Fm M N (o :: O) en := tx
  replace ck : Ck (Cn M N (o :: O) en) (M.drop N.length) := ck
  have hol := iv.lt o (by simp)
  have hkk := (ag.same o hol).1
  obtain ⟨c, hc, hc2⟩ : ∃ c, endT (kk M o) = [c] ∧ (c = 93 ∨ c = 125 ∨ c = 62) := by
    rcases hk with h | h | h <;> rw [h]
    · exact ⟨93, rfl, by simp⟩
    · exact ⟨125, rfl, by simp⟩
    · exact ⟨62, rfl, by simp⟩
  have tx1 := tx
  rw [Fm_close h0, hc] at tx1
  obtain ⟨t1, t2⟩ := of_drop tx1
  have hmay : mayC N (o :: O) en c = true := by
    simp only [mayC, Bool.and_eq_true, Bool.or_eq_true, decide_eq_true_eq]
    exact ⟨hm, by show endT (kk N o) = [c]; rw [hkk, hc]⟩
  have hr : rndM t c ⟨p, N, o :: O, en⟩ = (⟨p + 1, N, popO N O, true⟩, true) := by
    unfold rndM; rw [if_pos hc2]; simp only; rw [if_pos hmay]; rfl
  refine ⟨c, t1, by rw [hr], ?_⟩
  have iv2 := (rnd_act (st := ⟨p, N, o :: O, en⟩) t1 (by rw [hr])).iv iv
  rw [hr] at iv2 ⊢
  have hn := List.nodup_cons.1 iv.nd
  have hpd := ag_pop (O := O) hM ag.len (fun q hq => iv.lt q (by simp [hq])) (fun q hq => iv.out q hq) (fun j hj => ⟨(ag.same j hj).1, (ag.same j hj).2.2⟩)
  refine ⟨iv2, ⟨ag.len, ag.same, fun j hj hx => ?_, fun h => by cases h⟩, ?_, ?_⟩
  · by_cases hj1 : j = o
    · rw [hj1]; exact h0
    · by_cases hj2 : j ∈ O
      · exact hpd j hj2 hx
      · exact ag.eq j hj (by simp [hj1, hj2])
  · show t.drop (p + 1) = Fm M N (popO N O) true
    rw [t2, ← Fm_pop hn.2 (fun q hq => (ag.same q (iv.lt q (by simp [hq]))).1) hpd]
    rfl
  · show Ck (Cn M N (popO N O) true) (M.drop N.length)
    rw [Cn_close (en := en) iv.nd h0 hpd]
    exact ck
section
variable {t : List Int} {M N : List Nd} {p p' : Nat} {O : List Nat} {c : Int}
/-- A node is begun: what is known of M's next node, and what is left behind its beginning. -/
theorem fw_next (hM : HV M) (h : Fw t M ⟨p, N, O, false⟩) (hf : ∀ o, O.head? = some o → kd N o < kd M o) :
    N.length < M.length ∧ t.drop p = beginT (M.getD N.length nil0) ++ Fm M (addN N O (kk M N.length) (nn M N.length)) (N.length :: O) false ∧ (∀ j, j < (addN N O (kk M N.length) (nn M N.length)).length → kk (addN N O (kk M N.length) (nn M N.length)) j = kk M j ∧ nn (addN N O (kk M N.length) (nn M N.length)) j = nn M j ∧ kd (addN N O (kk M N.length) (nn M N.length)) j ≤ kd M j) ∧
    (∀ j, j < N.length → j ∉ O → kd (addN N O (kk M N.length) (nn M N.length)) j = kd M j) ∧ Ck (Cn M N O false + (kd M N.length - 1)) (M.drop (N.length + 1)) := by
  obtain ⟨iv, ag, tx, ck⟩ := h
  replace iv : Iv N O false := iv
  replace ag : Ag M N O false := ag
  replace tx : t.drop p = Fm M N O false := tx
  replace ck : Ck (Cn M N O false) (M.drop N.length) := ck
  have hlen : N.length < M.length := by
    rcases Nat.lt_or_ge N.length M.length with h | h
    · exact h
    · rw [List.drop_eq_nil_of_le h, Ck_nil] at ck
      have := Cn_pos2 (fun o ho => (ag.same o (iv.lt o ho)).2.2) hf
      omega
  have ka := fun j hj => kd_add (N := N) (O := O) (kk M N.length) (nn M N.length) (j := j) iv.lt hj
  obtain ⟨z1, z2, z3⟩ := nd_add (N := N) (O := O) (kk M N.length) (nn M N.length) iv.lt
  refine ⟨hlen, by rw [tx, Fm_begin (kk M N.length) (nn M N.length) hlen iv.lt iv.nd hf], fun j hj => ?_, fun j hj hx => ?_, ?_⟩
  · rw [addN_len] at hj
    by_cases hj2 : j < N.length
    · have h1 := ag.same j hj2
      rw [(ka j hj2).1, (ka j hj2).2.1, (ka j hj2).2.2]
      refine ⟨h1.1, h1.2.1, ?_⟩
      split
      · rename_i hh
        have := hf j hh
        omega
      · omega
    · obtain rfl : j = N.length := by omega
      rw [z1, z2, z3]
      refine ⟨rfl, rfl, ?_⟩
      have h1 := (hM.b hlen).2.2.1
      have : 0 ≤ leastK (kk M N.length) := by unfold leastK; split <;> (try split) <;> omega
      omega
  · rw [(ka j hj).1, if_neg (fun (e : O.head? = some j) => hx (List.mem_of_mem_head? e)), Int.add_zero]
    exact ag.eq j hj hx
  · rw [drop_nd hlen, Ck_cons] at ck
    exact ck.2.2
theorem fw_leaf (hM : HV M) (h : Fw t M ⟨p, N, O, false⟩) (hf : ∀ o, O.head? = some o → kd N o < kd M o) (hk : kk M N.length = 1 ∨ kk M N.length = 2 ∨ kk M N.length = 5) (h0 : kd M N.length = 0)
    (hc : t[p]? = some c) (hr : rndM t c ⟨p, N, O, false⟩ = (⟨p + (beginT (M.getD N.length nil0)).length, addN N O (kk M N.length) (nn M N.length), popO (addN N O (kk M N.length) (nn M N.length)) O, true⟩, true)) :
    ∃ c, t[p]? = some c ∧ (rndM t c ⟨p, N, O, false⟩).2 = true ∧ Fw t M (rndM t c ⟨p, N, O, false⟩).1 := by
  obtain ⟨hlen, tx, sm1, eq1, ck1⟩ := fw_next hM h hf
  obtain ⟨iv, ag, -, ck⟩ := h
  replace iv : Iv N O false := iv
  replace ag : Ag M N O false := ag
  refine ⟨c, hc, by rw [hr], ?_⟩
  have iv2 := (rnd_act (st := ⟨p, N, O, false⟩) hc (by rw [hr])).iv iv
  rw [hr] at iv2 ⊢
  have hpd := ag_pop (N := addN N O (kk M N.length) (nn M N.length)) (O := O) hM (by rw [addN_len]; exact hlen) (fun q hq => by rw [addN_len]; have := iv.lt q hq; omega) (fun q hq => (iv.ones rfl _ _ q hq).1) (fun j hj => ⟨(sm1 j hj).1, (sm1 j hj).2.2⟩)
  have tx2 : t.drop p = beginT (M.getD N.length nil0) ++ Fm M (addN N O (kk M N.length) (nn M N.length)) (popO (addN N O (kk M N.length) (nn M N.length)) O) true := by
    rw [tx, Fm_close (by rw [h0]; exact (nd_add _ _ iv.lt).1), ← Fm_pop iv.nd (fun q hq => (sm1 q (by rw [addN_len]; have := iv.lt q hq; omega)).1) hpd]
    have : endT (kk M N.length) = [] := by rcases hk with e | e | e <;> rw [e] <;> rfl
    rw [this, List.nil_append]
  refine ⟨iv2, ⟨by show (addN N O _ _).length ≤ _; rw [addN_len]; exact hlen, sm1, fun j hj hx => ?_, fun h => by cases h⟩, drop_append tx2, ?_⟩
  · replace hj : j < (addN N O (kk M N.length) (nn M N.length)).length := hj
    rw [addN_len] at hj
    by_cases hj2 : j = N.length
    · subst hj2
      show kd (addN N O _ _) _ = _
      rw [(nd_add _ _ iv.lt).1, h0]
    · by_cases hj3 : j ∈ O
      · exact hpd j hj3 hx
      · exact eq1 j (by omega) hj3
  · show Ck (Cn M (addN N O _ _) (popO (addN N O _ _) O) true) (M.drop (addN N O _ _).length)
    rw [Cn_leaf _ _ iv.lt iv.nd hpd, addN_len]
    rw [h0] at ck1
    exact ck1
theorem fw_rest (hM : HV M) (h : Fw t M ⟨p, N, O, false⟩) (hf : ∀ o, O.head? = some o → kd N o < kd M o) (hk : kk M N.length = 1) (h0 : kd M N.length = 0) :
    ∃ r, t.drop p = beginT (M.getD N.length nil0) ++ r ∧ ∀ c, r.head? = some c → ¬ (48 ≤ c ∧ c ≤ 57) := by
  obtain ⟨hlen, tx, sm1, eq1, ck1⟩ := fw_next hM h hf
  obtain ⟨iv, ag, -, ck⟩ := h
  replace iv : Iv N O false := iv
  replace ag : Ag M N O false := ag
  have hpd := ag_pop (N := addN N O (kk M N.length) (nn M N.length)) (O := O) hM (by rw [addN_len]; exact hlen) (fun q hq => by rw [addN_len]; have := iv.lt q hq; omega) (fun q hq => (iv.ones rfl _ _ q hq).1) (fun j hj => ⟨(sm1 j hj).1, (sm1 j hj).2.2⟩)
  refine ⟨_, ?_, Fm_head (M := M) (N := addN N O (kk M N.length) (nn M N.length)) (O := popO (addN N O (kk M N.length) (nn M N.length)) O) (fun o ho => ?_) ?_⟩
  · rw [tx, Fm_close (by rw [h0]; exact (nd_add _ _ iv.lt).1), ← Fm_pop iv.nd (fun q hq => (sm1 q (by rw [addN_len]; have := iv.lt q hq; omega)).1) hpd, hk]
    rfl
  · have h1 : o ∈ O := (popO_suffix _ _).mem (List.mem_of_mem_head? ho)
    have h2 := iv.lt o h1
    have h3 := popO_head _ _ _ ho
    have h4 := sm1 o (by rw [addN_len]; omega)
    have h5 := iv.kin o h1
    rw [h4.1] at h3
    rw [(ag.same o h2).1] at h5
    exact ⟨h5, h3, h4.2.2⟩
  · rw [Cn_leaf _ _ iv.lt iv.nd hpd, addN_len]
    rw [h0] at ck1
    exact ck1
theorem fw_open (hM : HV M) (h : Fw t M ⟨p, N, O, false⟩) (hf : ∀ o, O.head? = some o → kd N o < kd M o) (h0 : kk M N.length = 3 ∨ 0 < kd M N.length)
    (hc : t[p]? = some c) (hr : rndM t c ⟨p, N, O, false⟩ = (⟨p + (beginT (M.getD N.length nil0)).length, addN N O (kk M N.length) (nn M N.length), N.length :: O, false⟩, true)) :
    ∃ c, t[p]? = some c ∧ (rndM t c ⟨p, N, O, false⟩).2 = true ∧ Fw t M (rndM t c ⟨p, N, O, false⟩).1 := by
  obtain ⟨hlen, tx, sm1, eq1, ck1⟩ := fw_next hM h hf
  obtain ⟨iv, ag, -, ck⟩ := h
  replace iv : Iv N O false := iv
  refine ⟨c, hc, by rw [hr], ?_⟩
  have iv2 := (rnd_act (st := ⟨p, N, O, false⟩) hc (by rw [hr])).iv iv
  rw [hr] at iv2 ⊢
  refine ⟨iv2, ⟨by show (addN N O _ _).length ≤ _; rw [addN_len]; exact hlen, sm1, fun j hj hx => ?_, fun _ o ho => ?_⟩, drop_append tx, ?_⟩
  · replace hj : j < (addN N O (kk M N.length) (nn M N.length)).length := hj
    rw [addN_len] at hj
    replace hx : j ∉ N.length :: O := hx
    have hj2 : j ≠ N.length := fun e => hx (by simp [e])
    exact eq1 j (by omega) (fun e => hx (by simp [e]))
  · simp at ho
    subst ho
    show kd (addN N O _ _) _ < _ ∨ kd (addN N O _ _) _ = 0 ∧ _
    rw [(nd_add _ _ iv.lt).1]
    have h1 := (hM.b hlen).2.2.1
    have : 0 ≤ leastK (kk M N.length) := by unfold leastK; split <;> (try split) <;> omega
    omega
  · show Ck (Cn M (addN N O _ _) (N.length :: O) false) (M.drop (addN N O _ _).length)
    rw [Cn_open _ _ iv.lt iv.nd, addN_len]
    exact ck1
theorem rnd_begin {st : PS} (h1 : ¬ (c = 93 ∨ c = 125 ∨ c = 62)) (h2 : c ≠ 44) (he : st.en = false) : rndM t c st = beginM t c st := by
  unfold rndM
  rw [if_neg h1, if_neg h2, if_neg (by simp [he])]
theorem fw_begin (hM : HV M) (h : Fw t M ⟨p, N, O, false⟩) (hf : ∀ o, O.head? = some o → kd N o < kd M o) : ∃ c, t[p]? = some c ∧ (rndM t c ⟨p, N, O, false⟩).2 = true ∧ Fw t M (rndM t c ⟨p, N, O, false⟩).1 := by
  obtain ⟨hlen, tx, -, -, -⟩ := fw_next hM h hf
  obtain ⟨b1, b2, b3⟩ := hM.b hlen
  have hx : M.getD N.length nil0 = (kk M N.length, nn M N.length, kd M N.length) := nd_is rfl rfl rfl
  have hk : kk M N.length = 1 ∨ kk M N.length = 2 ∨ kk M N.length = 3 ∨ kk M N.length = 4 ∨ kk M N.length = 5 ∨ kk M N.length = 6 := by omega
  rcases hk with hk | hk | hk | hk | hk | hk
  · rw [hk] at b2 b3
    have h0 : kd M N.length = 0 := by have : mostK 1 = 0 := rfl; have : leastK 1 = 0 := rfl; omega
    have hn : nn M N.length ≤ 18446744073709551615 := b2.2
    obtain ⟨r, tr, hr⟩ := fw_rest hM h hf hk h0
    have eb : beginT (M.getD N.length nil0) = digs (nn M N.length) := by rw [hx, hk]; simp [beginT]
    obtain ⟨c, r2, e1, e2⟩ := digs_head (nn M N.length) hn
    have hc : t[p]? = some c := (of_drop (r := r2 ++ r) (by rw [tr, eb, e1]; rfl)).1
    refine fw_leaf hM h hf (.inl hk) h0 hc ?_
    have en := numL_digs (most := 18446744073709551615) b2.1 hn (by omega) hr
    rw [rnd_begin (by omega) (by omega) rfl]
    unfold beginM
    rw [if_neg (by omega), if_neg (by omega), if_neg (by omega), if_neg (by omega)]
    unfold leafM leafW leafK
    simp only
    rw [if_neg (show ¬ c = 110 by omega), if_neg (show ¬ c = 102 by omega), if_neg (show ¬ c = 116 by omega), if_neg (show ¬ c = 110 by omega), if_neg (show ¬ c = 102 by omega), if_neg (show ¬ c = 116 by omega)]
    simp only
    rw [tr, eb, en, hk]
    have : 0 < (digs (nn M N.length)).length := by rw [e1]; simp
    simp [this]
  · rw [hk] at b2 b3
    have h0 : kd M N.length = 0 := by have : mostK 2 = 0 := rfl; have : leastK 2 = 0 := rfl; omega
    have hn : nn M N.length = 0 ∨ nn M N.length = 1 := by have : mostN 2 = 1 := rfl; omega
    rcases hn with hn | hn
    · have eb : beginT (M.getD N.length nil0) = [102, 97, 108, 115, 101] := by rw [hx, hk, hn]; simp [beginT]
      rw [eb] at tx
      refine fw_leaf hM h hf (.inr (.inl hk)) h0 (of_drop tx).1 ?_
      rw [rnd_begin (by omega) (by omega) rfl, eb]
      unfold beginM leafM leafW leafK
      simp [takeW_of t _ _ p tx, eb, hk, hn]
    · have eb : beginT (M.getD N.length nil0) = [116, 114, 117, 101] := by rw [hx, hk, hn]; simp [beginT]
      rw [eb] at tx
      refine fw_leaf hM h hf (.inr (.inl hk)) h0 (of_drop tx).1 ?_
      rw [rnd_begin (by omega) (by omega) rfl, eb]
      unfold beginM leafM leafW leafK
      simp [takeW_of t _ _ p tx, eb, hk, hn]
  · rw [hk] at b2 b3
    have hn : nn M N.length = 0 := by have : mostN 3 = 0 := rfl; omega
    have eb : beginT (M.getD N.length nil0) = [91] := by rw [hx, hk, hn]; simp [beginT]
    rw [eb] at tx
    refine fw_open hM h hf (.inl hk) (of_drop tx).1 ?_
    rw [rnd_begin (by omega) (by omega) rfl, eb]
    unfold beginM
    simp [eb, hk, hn]
  · rw [hk] at b2 b3
    have hn : nn M N.length = 0 := by have : mostN 4 = 0 := rfl; omega
    have h0 : 0 < kd M N.length := by have : leastK 4 = 1 := rfl; omega
    have eb : beginT (M.getD N.length nil0) = [123] := by rw [hx, hk, hn]; simp [beginT]
    rw [eb] at tx
    refine fw_open hM h hf (.inr h0) (of_drop tx).1 ?_
    rw [rnd_begin (by omega) (by omega) rfl, eb]
    unfold beginM
    simp [eb, hk, hn]
  · rw [hk] at b2 b3
    have hn : nn M N.length = 0 := by have : mostN 5 = 0 := rfl; omega
    by_cases h0 : kd M N.length = 0
    · have eb : beginT (M.getD N.length nil0) = [110, 111, 110, 101] := by rw [hx, hk, hn, h0]; simp [beginT]
      rw [eb] at tx
      refine fw_leaf hM h hf (.inr (.inr hk)) h0 (of_drop tx).1 ?_
      rw [rnd_begin (by omega) (by omega) rfl, eb]
      unfold beginM leafM leafW leafK
      simp [takeW_of t _ _ p tx, eb, hk, hn]
    · have eb : beginT (M.getD N.length nil0) = [115, 111, 109, 101, 32] := by rw [hx, hk, hn]; simp [beginT, h0]
      rw [eb] at tx
      refine fw_open hM h hf (.inr (by have : leastK 5 = 0 := rfl; omega)) (of_drop tx).1 ?_
      rw [rnd_begin (by omega) (by omega) rfl, eb]
      unfold beginM
      simp [takeW_of t _ _ p tx, eb, hk, hn]
  · rw [hk] at b2 b3
    have hn : nn M N.length ≤ 255 := b2.2
    have h0 : 0 < kd M N.length := by have : leastK 6 = 1 := rfl; omega
    have eb : beginT (M.getD N.length nil0) = 60 :: (digs (nn M N.length) ++ [58]) := by rw [hx, hk]; simp [beginT]
    rw [eb, List.cons_append, List.append_assoc] at tx
    obtain ⟨hc, t1⟩ := of_drop tx
    refine fw_open hM h hf (.inr h0) hc ?_
    have en := numL_digs (most := 255) (r := [58] ++ Fm M (addN N O (kk M N.length) (nn M N.length)) (N.length :: O) false) b2.1 hn (by omega) (fun c hc => by simp at hc; omega)
    rw [← t1] at en
    have t2 := drop_append t1
    have e2 := takeW_of t _ _ _ t2
    obtain ⟨c, r2, e1, -⟩ := digs_head (nn M N.length) (by omega)
    have : 0 < (digs (nn M N.length)).length := by rw [e1]; simp
    rw [rnd_begin (by omega) (by omega) rfl, eb]
    unfold beginM
    simp [en, e2, this, eb, hk]
    omega
theorem fw_step {st : PS} (hM : HV M) (h : Fw t M st) : (st.en = true ∧ st.O = [] ∧ st.N.length = M.length ∧ t.drop st.p = []) ∨ ∃ c, t[st.p]? = some c ∧ (rndM t c st).2 = true ∧ Fw t M (rndM t c st).1 := by
  obtain ⟨p, N, O, en⟩ := st
  cases en with
  | true =>
    cases O with
    | nil =>
      left
      have ck : Ck (Cn M N [] true) (M.drop N.length) := h.ck
      have tx : t.drop p = printM (M.drop N.length) [] := h.tx
      have len : N.length ≤ M.length := h.ag.len
      have e : Cn M N [] true = 0 := by simp [Cn, sm]
      rw [e] at ck
      cases hd : M.drop N.length with
      | nil =>
        rw [hd] at tx
        have := List.drop_eq_nil_iff.1 hd
        exact ⟨rfl, rfl, by show N.length = M.length; omega, by rw [tx]; rfl⟩
      | cons x l => rw [hd, Ck_cons] at ck; exact absurd rfl ck.1
    | cons o O =>
      right
      have iv : Iv N (o :: O) true := h.iv
      have ag : Ag M N (o :: O) true := h.ag
      have tx : t.drop p = Fm M N (o :: O) true := h.tx
      have hol := iv.lt o (by simp)
      have hkk := (ag.same o hol).1
      have hle := (ag.same o hol).2.2
      have hin := iv.kin o (by simp)
      have hne := (iv.e1 rfl o rfl).2
      by_cases hlt : kd N o < kd M o
      · rw [Fm_comma hlt] at tx
        have hmo := (hM.b (Nat.lt_of_lt_of_le hol ag.len)).2.2.2
        have hgo : mayGo N (o :: O) true = true := by
          simp only [mayGo, Bool.true_and, decide_eq_true_eq]
          show kd N o < mostK (kk N o)
          rw [hkk]; omega
        have hr : rndM t 44 ⟨p, N, o :: O, true⟩ = (⟨p + 2, N, o :: O, false⟩, true) := by
          unfold rndM
          simp [hgo, takeW_of t _ _ p tx]
        refine ⟨44, (of_drop tx).1, by rw [hr], ?_⟩
        have iv2 := (rnd_act (st := ⟨p, N, o :: O, true⟩) (of_drop tx).1 (by rw [hr])).iv iv
        rw [hr] at iv2 ⊢
        refine ⟨iv2, ⟨ag.len, ag.same, ag.eq, fun _ q hq => ?_⟩, drop_append tx, ?_⟩
        · simp at hq; subst hq; exact .inl hlt
        · have ck : Ck (Cn M N (o :: O) true) (M.drop N.length) := h.ck
          simpa [Cn] using ck
      · exact fw_close hM h (by omega) (by omega) (.inl rfl)
  | false =>
    right
    have iv : Iv N O false := h.iv
    have ag : Ag M N O false := h.ag
    by_cases hf : ∀ o, O.head? = some o → kd N o < kd M o
    · exact fw_begin hM h hf
    · cases O with
      | nil => exact absurd (fun o ho => by cases ho) hf
      | cons o O =>
        have hlt : ¬ kd N o < kd M o := fun e => hf fun q hq => by simp at hq; subst hq; exact e
        obtain ⟨g1, g2, g3⟩ := (ag.go rfl o rfl).resolve_left hlt
        have hkk := (ag.same o (iv.lt o (by simp))).1
        exact fw_close hM h (by omega) (.inl g3) (.inr ⟨g1, by rw [hkk, g3]; rfl⟩)
theorem read_fwd (hM : HV M) : ∀ (f : Nat) (st : PS), PSok t.length st → Fw t M st → t.length - st.p ≤ f → okM t (readM f t st) = true ∧ (readM f t st).N = M := by
  have base : ∀ st : PS, st.p ≤ t.length → Fw t M st → (st.en = true ∧ st.O = [] ∧ st.N.length = M.length ∧ t.drop st.p = []) → okM t st = true ∧ st.N = M := by
    rintro ⟨p, N, O, en⟩ hp h ⟨h1, h2, h3, h4⟩
    simp only at h1 h2 h3 h4 hp
    subst h1 h2
    have h5 := List.drop_eq_nil_iff.1 h4
    have ag : Ag M N [] true := h.ag
    refine ⟨by simp [okM]; omega, List.ext_getElem h3 fun i i1 i2 => ?_⟩
    have a1 := ag.same i i1
    have a2 := ag.eq i i1 (by simp)
    have e := nd_is (M := N) (i := i) a1.1 a1.2.1 a2
    rw [← nd_is (M := M) (i := i) rfl rfl rfl, List.getD, List.getD, List.getElem?_eq_getElem i1, List.getElem?_eq_getElem i2] at e
    exact e
  intro f
  induction f with
  | zero =>
    intro st hk h hf
    rw [readM]
    rcases fw_step hM h with hb | ⟨c, hc, -⟩
    · exact base st hk.pl h hb
    · have := at_lt hc; omega
  | succ f ih =>
    intro st hk h hf
    rw [readM]
    rcases fw_step hM h with hb | ⟨c, hc, hr, hw⟩
    · have h5 := List.drop_eq_nil_iff.1 hb.2.2.2
      rw [List.getElem?_eq_none h5]
      exact base st hk.pl h hb
    · rw [hc]
      simp only
      rw [if_pos hr]
      obtain ⟨h1, h2, h3⟩ := rndM_ok (c := c) hk (at_lt hc)
      have := h3 hr
      exact ih _ h1 hw (by omega)
end
theorem parse_print (M : List Nd) (hc : (chk 1 0 M).1 = 0) (hn : ∀ x ∈ M, 0 ≤ x.2.1) : okM (printM M []) (readT (printM M []) st00) = true ∧ parseN (printM M []) = M ∧ parseF (printM M []) = (0, 0) := by
  have hM : HV M := by
    refine ⟨fun j hj => ?_, fun j hj => ?_⟩
    · rw [List.getD, List.getElem?_eq_getElem hj]
      exact (chk_enough M 1 0 hc).2.2 _ (List.getElem_mem hj)
    · rw [nn, List.getD, List.getElem?_eq_getElem hj]
      exact hn _ (List.getElem_mem hj)
  obtain ⟨h1, h2⟩ := read_fwd (t := printM M []) hM ((printM M []).length - 0) st00 (PSok.begin _) ⟨Iv.begin, ⟨Nat.zero_le _, fun j hj => absurd hj (Nat.not_lt_zero _), fun j hj => absurd hj (Nat.not_lt_zero _), fun _ o ho => by cases ho⟩, by show (printM M []).drop 0 = Fm M [] [] false; simp [Fm], by show Ck (Cn M [] [] false) (M.drop 0); simpa [Cn, sm, Ck] using hc⟩ (Nat.le_refl _)
  have e2 : readM ((printM M []).length - 0) (printM M []) st00 = readT (printM M []) st00 := rfl
  rw [e2] at h1 h2
  exact ⟨h1, by rw [parseN, if_pos h1, h2], by rw [parseF, if_pos h1]⟩
end Go.Proofs.YtlbgdgobhiokpaaDoor
