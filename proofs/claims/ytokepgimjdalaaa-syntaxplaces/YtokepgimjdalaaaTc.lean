/- A text that ends too early: one token more. -/
import Derived.Test.YtokepgimjdalaaaTb
namespace Go.Proofs.Ytokepgimjdalaaa
set_option linter.unusedVariables false

section
variable {qs : List Q}
theorem run_nil : ∀ (n : Nat) (t : St), t.s = [] → runM qs n t = .ok t
  | 0, t, h => rfl
  | n + 1, t, h => by
    have hs : stepM qs t = .ok t := by unfold stepM; rw [h]
    rw [runM, hs, bnd_ok]
    exact run_nil n t h
theorem run_err : ∀ (n : Nat) (t : St) (e : Nat × Nat), runM qs n t = .error e → ∃ m u, runM qs m t = .ok u ∧ stepM qs u = .error e
  | 0, t, e, h => by cases h
  | n + 1, t, e, h => by
    rw [runM] at h
    cases hs : stepM qs t with
    | error x =>
      rw [hs] at h
      injection h with h
      subst h
      exact ⟨0, t, rfl, hs⟩
    | ok u =>
      rw [hs, bnd_ok] at h
      obtain ⟨m, v, h1, h2⟩ := run_err n u e h
      exact ⟨m + 1, v, by rw [runM, hs, bnd_ok, h1], h2⟩
theorem ends_det {t : St} {e : Nat × Nat} {r : PR St} (h : Ends qs t (.error e)) (k : Ends qs t r) (hr : ∀ u, r = .ok u → u.s = []) : r = .error e := by
  obtain ⟨n, hn⟩ := h
  obtain ⟨m, hm⟩ := k
  have h1 := runM_add (qs := qs) n m t
  have h2 := runM_add (qs := qs) m n t
  rw [hn, bnd_err] at h1
  rw [hm, Nat.add_comm, h1] at h2
  cases r with
  | error x => exact h2.symm
  | ok u =>
    rw [bnd_ok, run_nil n u (hr u rfl)] at h2
    cases h2
theorem src_of {e : Nat × Nat} (h : Ends qs ⟨[0], 0, [], 0⟩ (.error e)) : srcP qs 257 [] 0 = .error e := by
  obtain ⟨t, ht, hE⟩ := src_m (qs := qs) 257 [] 0 rfl (Nat.zero_le _)
  have := ends_det h hE (fun u hu => by
    cases hs : srcP qs 257 [] 0 with
    | error x => rw [hs] at hu; cases hu
    | ok D => rw [hs] at hu; injection hu with hu; rw [← hu]; exact ht)
  cases hs : srcP qs 257 [] 0 with
  | error x => rw [hs] at this; injection this with this; rw [this]
  | ok D => rw [hs] at this; cases this
theorem src_err {e : Nat × Nat} (h : srcP qs 257 [] 0 = .error e) : Ends qs ⟨[0], 0, [], 0⟩ (.error e) := by
  obtain ⟨t, ht, hE⟩ := src_m (qs := qs) 257 [] 0 rfl (Nat.zero_le _)
  rw [h] at hE
  exact hE
theorem q_lt {i : Nat} (h : i ≤ qs.length) : i < qs.length ∨ qAt qs i = q0 := by
  rcases Nat.lt_or_ge i qs.length with h1 | h1
  · exact .inl h1
  · exact .inr (by unfold qAt; simp [List.getD, h1])
theorem run_inv : ∀ (n : Nat) (t u : St), InvM qs.length t → runM qs n t = .ok u → InvM qs.length u ∧ t.i ≤ u.i
  | 0, t, u, h, hr => by injection hr with hr; subst hr; exact ⟨h, Nat.le_refl _⟩
  | n + 1, t, u, h, hr => by
    rw [runM] at hr
    have hk := stepQ_inv h (q_lt h.2.2.2)
    rw [← stepM_eq] at hk
    cases hs : stepM qs t with
    | error x => rw [hs] at hr; cases hr
    | ok v =>
      rw [hs] at hk hr
      rw [bnd_ok] at hr
      have ih := run_inv n v u hk.1 hr
      exact ⟨ih.1, Nat.le_trans hk.2 ih.2⟩
theorem inv0 : InvM qs.length ⟨[0], 0, [], 0⟩ := ⟨by simp [okS, costS, costI, n8], rfl, by simp, Nat.zero_le _⟩
theorem qAt_app (q : Q) {i : Nat} (h : i < qs.length) : qAt (qs ++ [q]) i = qAt qs i := by unfold qAt; simp [List.getD, List.getElem?_append_left h]
theorem qAt_last (q : Q) : qAt (qs ++ [q]) qs.length = q := by unfold qAt; simp [List.getD]
/-- With no token at hand nothing but a closing or the whole's end goes on. -/
theorem step_end {L : Nat} {t u : St} {w : Nat} {S : List Nat} (hI : InvM L t) (hs : t.s = w :: S) (hi : t.i = L) (h : stepQ q0 L t = .ok u) : w = 8 ∧ u = ⟨S, t.i, t.o.tail, t.d⟩ ∨ w = 0 ∧ u.s = [] := by
  obtain ⟨S0, i, o, d⟩ := t
  simp only at hs hi
  subst hs
  obtain ⟨k1, k2, k3, k4, k45, k5, k6⟩ := hI.1
  rcases k6 with rfl | rfl | hV
  · right
    refine ⟨rfl, ?_⟩
    have h2 : stepQ q0 L ⟨0 :: S, i, o, d⟩ = (if i < L then (if isT ⟨#[116, 121, 112, 101]⟩ q0 then (if 256 ≤ d then .error (5, i) else .ok ⟨1 :: 71 :: 3 :: 69 :: 0 :: S, i + 1, o, d + 1⟩) else .error (60, i)) else .ok ⟨S, i, o, d⟩) := rfl
    rw [h2, if_neg (by omega)] at h
    injection h with h
    rw [← h]
    exact k5 rfl
  · left
    injection h with h
    exact ⟨rfl, h.symm⟩
  · exfalso
    simp only [vItems, List.mem_cons, List.mem_nil_iff, or_false] at hV
    rcases hV with rfl | rfl | rfl | rfl | rfl | rfl | rfl | rfl | rfl | rfl | rfl | rfl | rfl | rfl <;> exact absurd h (by intro h; cases h)
/-- It ends too early; so many tokens are wanting. -/
def Early (qs : List Q) (c : Nat) : Prop := ∃ m u, runM qs m ⟨[0], 0, [], 0⟩ = .ok u ∧ stepM qs u = .error (60, qs.length) ∧ costS u.s = c
theorem Early.of (h : srcP qs 257 [] 0 = .error (60, qs.length)) : ∃ c, c ≤ 89 ∧ Early qs c := by
  obtain ⟨n, hn⟩ := src_err h
  obtain ⟨m, u, h1, h2⟩ := run_err n _ _ hn
  have hI := (run_inv m _ u inv0 h1).1
  refine ⟨costS u.s, ?_, m, u, h1, h2, rfl⟩
  have h3 := hI.2.2.1
  have h4 := hI.2.1
  cases hs : u.s with
  | nil => simp [costS]
  | cons w S =>
    have h5 := hI.1
    rw [hs] at h5 h4
    have := h5.2.1
    omega
theorem Early.state {c : Nat} (h : Early qs c) : ∃ m w S o d, runM qs m ⟨[0], 0, [], 0⟩ = .ok ⟨w :: S, qs.length, o, d⟩ ∧ w ∈ vItems ∧ costI w + costS S = c ∧ InvM qs.length ⟨w :: S, qs.length, o, d⟩ := by
  obtain ⟨m, u, h1, h2, h3⟩ := h
  have hI := (run_inv m _ u inv0 h1).1
  have hk := stepQ_inv hI (q_lt hI.2.2.2)
  rw [← stepM_eq, h2] at hk
  obtain ⟨S0, i, o, d⟩ := u
  have hi : qs.length = i := hk.1
  subst hi
  cases S0 with
  | nil => cases h2
  | cons w S =>
    refine ⟨m, w, S, o, d, h1, ?_, h3, hI⟩
    rcases hI.1.2.2.2.2.2.2 with rfl | rfl | hV
    · have h4 : stepM qs ⟨0 :: S, qs.length, o, d⟩ = (if qs.length < qs.length then (if isT ⟨#[116, 121, 112, 101]⟩ (qAt qs qs.length) then (if 256 ≤ d then .error (5, qs.length) else .ok ⟨1 :: 71 :: 3 :: 69 :: 0 :: S, qs.length + 1, o, d + 1⟩) else .error (60, qs.length)) else .ok ⟨S, qs.length, o, d⟩) := rfl
      rw [h4, if_neg (Nat.lt_irrefl _)] at h2
      cases h2
    · cases h2
    · exact hV
/-- What was run is run so with a token more. -/
theorem runM_app (q : Q) : ∀ (n : Nat) (t u : St), InvM qs.length t → runM qs n t = .ok u → u.s ≠ [] → runM (qs ++ [q]) n t = .ok u
  | 0, t, u, h, hr, hn => hr
  | n + 1, t, u, h, hr, hn => by
    rw [runM] at hr ⊢
    have hk := stepQ_inv h (q_lt h.2.2.2)
    rw [← stepM_eq] at hk
    cases hs : stepM qs t with
    | error x => rw [hs] at hr; cases hr
    | ok v =>
      rw [hs] at hk hr
      rw [bnd_ok] at hr
      have hs2 : stepM (qs ++ [q]) t = .ok v := by
        cases ht : t.s with
        | nil =>
          have e1 : stepM qs t = .ok t := by unfold stepM; rw [ht]
          rw [e1] at hs
          injection hs with hs
          subst hs
          rw [run_nil n t ht] at hr
          injection hr with hr
          subst hr
          exact absurd ht hn
        | cons w S =>
          rcases Nat.lt_or_ge t.i qs.length with hl | hl
          · rw [stepM_eq] at hs ⊢
            rw [qAt_app q hl]
            have hlen : ∀ (p : Q), stepQ p (qs ++ [q]).length t = stepQ p qs.length t := fun p => by
              unfold stepQ
              rw [ht]
              simp only [List.length_append, List.length_cons, List.length_nil]
              rw [if_pos (show t.i < qs.length + (0 + 1) by omega), if_pos hl]
            rw [hlen]
            exact hs
          · have hi : t.i = qs.length := by have := h.2.2.2; omega
            have hq : qAt qs t.i = q0 := (q_lt h.2.2.2).resolve_left (by omega)
            rw [stepM_eq, hq] at hs
            rcases step_end h ht hi hs with ⟨rfl, rfl⟩ | ⟨rfl, hv⟩
            · unfold stepM; rw [ht]; rfl
            · rw [run_nil n v hv] at hr
              injection hr with hr
              subst hr
              exact absurd hv hn
      rw [hs2, bnd_ok]
      exact runM_app q n v u hk.1 hr hn
end
/-- The tokens that may be put. -/
def toks : List Q := [⟨3, ⟨#[59]⟩, 0⟩, ⟨3, ⟨#[125]⟩, 0⟩, ⟨3, ⟨#[62]⟩, 0⟩, ⟨1, ⟨#[117, 56]⟩, 0⟩, ⟨1, ⟨#[122, 122]⟩, 0⟩, ⟨2, ⟨#[]⟩, 1⟩, ⟨3, ⟨#[61]⟩, 0⟩, ⟨3, ⟨#[58]⟩, 0⟩, ⟨3, ⟨#[44]⟩, 0⟩, ⟨3, ⟨#[60]⟩, 0⟩, ⟨3, ⟨#[123]⟩, 0⟩]
/-- Which of them is put. -/
def accM (w : Nat) : Nat := if w = 6 then 1 else if w = 7 then 1 else if w = 72 then 2 else if w = 3 then 3 else if w = 1 then 4 else if w = 4 then 4 else if w = 2 then 5 else if w = 5 then 5 else if w = 71 then 6 else if w = 68 then 7 else if w = 54 then 8 else if w = 70 then 9 else if w = 133 then 10 else 0
theorem bad_tok {w : Nat} (hw : w ∈ vItems) (j : Nat) (hj : j < accM w) (L i : Nat) (S o : List Nat) (d : Nat) : stepQ (toks.getD j q0) L ⟨w :: S, i, o, d⟩ = .error (60, i) := by
  simp only [vItems, List.mem_cons, List.mem_nil_iff, or_false] at hw
  rcases hw with rfl | rfl | rfl | rfl | rfl | rfl | rfl | rfl | rfl | rfl | rfl | rfl | rfl | rfl
  · have hj2 : j = 0 ∨ j = 1 ∨ j = 2 ∨ j = 3 := by have : accM 1 = 4 := rfl; omega
    rcases hj2 with rfl | rfl | rfl | rfl <;> rfl
  · have hj2 : j = 0 ∨ j = 1 ∨ j = 2 ∨ j = 3 ∨ j = 4 := by have : accM 2 = 5 := rfl; omega
    rcases hj2 with rfl | rfl | rfl | rfl | rfl <;> rfl
  · have hj2 : j = 0 ∨ j = 1 ∨ j = 2 := by have : accM 3 = 3 := rfl; omega
    rcases hj2 with rfl | rfl | rfl <;> rfl
  · have hj2 : j = 0 ∨ j = 1 ∨ j = 2 ∨ j = 3 := by have : accM 4 = 4 := rfl; omega
    rcases hj2 with rfl | rfl | rfl | rfl <;> rfl
  · have hj2 : j = 0 ∨ j = 1 ∨ j = 2 ∨ j = 3 ∨ j = 4 := by have : accM 5 = 5 := rfl; omega
    rcases hj2 with rfl | rfl | rfl | rfl | rfl <;> rfl
  · obtain rfl : j = 0 := by have : accM 6 = 1 := rfl; omega
    rfl
  · obtain rfl : j = 0 := by have : accM 7 = 1 := rfl; omega
    rfl
  · have hj2 : j = 0 ∨ j = 1 ∨ j = 2 ∨ j = 3 ∨ j = 4 ∨ j = 5 ∨ j = 6 ∨ j = 7 := by have : accM 54 = 8 := rfl; omega
    rcases hj2 with rfl | rfl | rfl | rfl | rfl | rfl | rfl | rfl <;> rfl
  · have hj2 : j = 0 ∨ j = 1 ∨ j = 2 ∨ j = 3 ∨ j = 4 ∨ j = 5 ∨ j = 6 := by have : accM 68 = 7 := rfl; omega
    rcases hj2 with rfl | rfl | rfl | rfl | rfl | rfl | rfl <;> rfl
  · exact absurd (show j < 0 from hj) (Nat.not_lt_zero j)
  · have hj2 : j = 0 ∨ j = 1 ∨ j = 2 ∨ j = 3 ∨ j = 4 ∨ j = 5 ∨ j = 6 ∨ j = 7 ∨ j = 8 := by have : accM 70 = 9 := rfl; omega
    rcases hj2 with rfl | rfl | rfl | rfl | rfl | rfl | rfl | rfl | rfl <;> rfl
  · have hj2 : j = 0 ∨ j = 1 ∨ j = 2 ∨ j = 3 ∨ j = 4 ∨ j = 5 := by have : accM 71 = 6 := rfl; omega
    rcases hj2 with rfl | rfl | rfl | rfl | rfl | rfl <;> rfl
  · have hj2 : j = 0 ∨ j = 1 := by have : accM 72 = 2 := rfl; omega
    rcases hj2 with rfl | rfl <;> rfl
  · have hj2 : j = 0 ∨ j = 1 ∨ j = 2 ∨ j = 3 ∨ j = 4 ∨ j = 5 ∨ j = 6 ∨ j = 7 ∨ j = 8 ∨ j = 9 := by have : accM 133 = 10 := rfl; omega
    rcases hj2 with rfl | rfl | rfl | rfl | rfl | rfl | rfl | rfl | rfl | rfl <;> rfl
theorem good_tok {w : Nat} (hw : w ∈ vItems) (L i : Nat) (S o : List Nat) (d : Nat) : (∃ c, stepQ (toks.getD (accM w) q0) L ⟨w :: S, i, o, d⟩ = .error (c, i) ∧ (c = 5 ∨ c = 61)) ∨ ∃ v, stepQ (toks.getD (accM w) q0) L ⟨w :: S, i, o, d⟩ = .ok v ∧ v.i = i + 1 ∧ costS v.s + 1 = costI w + costS S := by
  simp only [vItems, List.mem_cons, List.mem_nil_iff, or_false] at hw
  rcases hw with rfl | rfl | rfl | rfl | rfl | rfl | rfl | rfl | rfl | rfl | rfl | rfl | rfl | rfl
  · exact .inr ⟨⟨S, i + 1, o, d⟩, rfl, rfl, by simp [costI]; omega⟩
  · exact .inr ⟨⟨S, i + 1, o, d⟩, rfl, rfl, by simp [costI]; omega⟩
  · have h : stepQ (toks.getD (accM 3) q0) L ⟨3 :: S, i, o, d⟩ = (if 16 < o.length then .error (61, i) else .ok ⟨S, i + 1, o, d⟩) := rfl
    by_cases ho : 16 < o.length
    · rw [if_pos ho] at h; exact .inl ⟨61, h, .inr rfl⟩
    · rw [if_neg ho] at h; exact .inr ⟨_, h, rfl, by simp [costI]; omega⟩
  · have h : stepQ (toks.getD (accM 4) q0) L ⟨4 :: S, i, o, d⟩ = (if 64 ≤ o.headD 0 then .error (5, i) else .ok ⟨68 :: 3 :: S, i + 1, (o.headD 0 + 1) :: o.tail, d⟩) := rfl
    by_cases ho : 64 ≤ o.headD 0
    · rw [if_pos ho] at h; exact .inl ⟨5, h, .inl rfl⟩
    · rw [if_neg ho] at h; exact .inr ⟨_, h, rfl, by simp [costS, costI]; omega⟩
  · have h : stepQ (toks.getD (accM 5) q0) L ⟨5 :: S, i, o, d⟩ = (if 64 ≤ o.headD 0 then .error (5, i) else .ok ⟨68 :: 3 :: S, i + 1, (o.headD 0 + 1) :: o.tail, d⟩) := rfl
    by_cases ho : 64 ≤ o.headD 0
    · rw [if_pos ho] at h; exact .inl ⟨5, h, .inl rfl⟩
    · rw [if_neg ho] at h; exact .inr ⟨_, h, rfl, by simp [costS, costI]; omega⟩
  · exact .inr ⟨⟨S, i + 1, o, d⟩, rfl, rfl, by simp [costI]; omega⟩
  · exact .inr ⟨⟨S, i + 1, o, d⟩, rfl, rfl, by simp [costI]; omega⟩
  · exact .inr ⟨⟨S, i + 1, o, d⟩, rfl, rfl, by simp [costI]; omega⟩
  · exact .inr ⟨⟨S, i + 1, o, d⟩, rfl, rfl, by simp [costI]; omega⟩
  · exact .inr ⟨⟨S, i + 1, o, d⟩, rfl, rfl, by simp [costI]; omega⟩
  · exact .inr ⟨⟨S, i + 1, o, d⟩, rfl, rfl, by simp [costI]; omega⟩
  · exact .inr ⟨⟨S, i + 1, o, d⟩, rfl, rfl, by simp [costI]; omega⟩
  · exact .inr ⟨⟨S, i + 1, o, d⟩, rfl, rfl, by simp [costI]; omega⟩
  · exact .inr ⟨⟨S, i + 1, o, d⟩, rfl, rfl, by simp [costI]; omega⟩
theorem acc_lt {w : Nat} (hw : w ∈ vItems) : accM w < 11 := by
  simp only [vItems, List.mem_cons, List.mem_nil_iff, or_false] at hw
  rcases hw with rfl | rfl | rfl | rfl | rfl | rfl | rfl | rfl | rfl | rfl | rfl | rfl | rfl | rfl <;> decide
section
variable {qs : List Q}
theorem run_tail : ∀ (k : Nat) (v u : St), InvM qs.length v → v.i = qs.length → runM qs k v = .ok u → u.s ≠ [] → costS u.s = costS v.s
  | 0, v, u, h, hi, hr, hn => by injection hr with hr; subst hr; rfl
  | k + 1, v, u, h, hi, hr, hn => by
    rw [runM] at hr
    have hk := stepQ_inv h (q_lt h.2.2.2)
    rw [← stepM_eq] at hk
    cases hs : stepM qs v with
    | error x => rw [hs] at hr; cases hr
    | ok x =>
      rw [hs] at hk hr
      rw [bnd_ok] at hr
      cases ht : v.s with
      | nil =>
        have e1 : stepM qs v = .ok v := by unfold stepM; rw [ht]
        rw [e1] at hs
        injection hs with hs
        subst hs
        rw [run_nil k v ht] at hr
        injection hr with hr
        subst hr
        exact absurd ht hn
      | cons w S =>
        have hq : qAt qs v.i = q0 := (q_lt h.2.2.2).resolve_left (by omega)
        rw [stepM_eq, hq] at hs
        rcases step_end h ht hi hs with ⟨rfl, rfl⟩ | ⟨rfl, hv⟩
        · have := run_tail k _ u hk.1 hi hr hn
          rw [this]
          simp [costS, costI]
        · rw [run_nil k x hv] at hr
          injection hr with hr
          subst hr
          exact absurd hv hn
theorem ends_tail {t v : St} {e : Nat × Nat} (h : Ends qs t (.ok v)) (k : Ends qs t (.error e)) : Ends qs v (.error e) := by
  obtain ⟨m, hm⟩ := h
  obtain ⟨n, hn⟩ := k
  rcases Nat.lt_or_ge n m with h1 | h1
  · obtain ⟨x, rfl⟩ : ∃ x, m = n + x := ⟨m - n, by omega⟩
    rw [runM_add, hn, bnd_err] at hm
    cases hm
  · obtain ⟨x, rfl⟩ : ∃ x, n = m + x := ⟨n - m, by omega⟩
    rw [runM_add, hm, bnd_ok] at hn
    exact ⟨x, hn⟩
/-- One token more: which is put, and what comes of it. -/
theorem go_on {c : Nat} (h : Early qs c) : ∃ a, a < 11 ∧ (∀ j, j < a → srcP (qs ++ [toks.getD j q0]) 257 [] 0 = .error (60, qs.length)) ∧
    ((∃ D, srcP (qs ++ [toks.getD a q0]) 257 [] 0 = .ok D) ∨ (∃ e, srcP (qs ++ [toks.getD a q0]) 257 [] 0 = .error e ∧ (e.1 = 5 ∨ e.1 = 61)) ∨ (srcP (qs ++ [toks.getD a q0]) 257 [] 0 = .error (60, qs.length + 1) ∧ ∃ c', c' < c ∧ Early (qs ++ [toks.getD a q0]) c')) := by
  obtain ⟨m, w, S, o, d, h1, hw, hc, hI⟩ := h.state
  have hrun : ∀ q, runM (qs ++ [q]) m ⟨[0], 0, [], 0⟩ = .ok ⟨w :: S, qs.length, o, d⟩ := fun q => runM_app q m _ _ inv0 h1 (by simp)
  have hstep : ∀ q, stepM (qs ++ [q]) ⟨w :: S, qs.length, o, d⟩ = stepQ q (qs ++ [q]).length ⟨w :: S, qs.length, o, d⟩ := fun q => by rw [stepM_eq, qAt_last]
  refine ⟨accM w, acc_lt hw, fun j hj => ?_, ?_⟩
  · exact src_of (Ends.trans ⟨m, hrun _⟩ (.stop (by rw [hstep, bad_tok hw j hj])))
  · rcases good_tok hw (qs ++ [toks.getD (accM w) q0]).length qs.length S o d with ⟨x, hx, hx2⟩ | ⟨v, hv, hvi, hvc⟩
    · right; left
      exact ⟨(x, qs.length), src_of (Ends.trans ⟨m, hrun _⟩ (.stop (by rw [hstep, hx]))), hx2⟩
    · cases hr : srcP (qs ++ [toks.getD (accM w) q0]) 257 [] 0 with
      | ok D => exact .inl ⟨D, rfl⟩
      | error e =>
        right
        have hE := src_err hr
        have hv0 : Ends (qs ++ [toks.getD (accM w) q0]) ⟨[0], 0, [], 0⟩ (.ok v) := Ends.trans ⟨m, hrun _⟩ (.step (by rw [hstep, hv]) (.refl _))
        obtain ⟨n, hn⟩ := ends_tail hv0 hE
        obtain ⟨k, u, hk, hu⟩ := run_err n v e hn
        obtain ⟨n0, hn0⟩ := hv0
        have hIv := (run_inv n0 _ v inv0 hn0).1
        have hIu := run_inv k v u hIv hk
        have hlen : (qs ++ [toks.getD (accM w) q0]).length = qs.length + 1 := by simp
        have hui : u.i = qs.length + 1 := by
          have h3 := hIu.1.2.2.2
          have h4 := hIu.2
          rw [hlen] at h3
          omega
        have hku := stepQ_inv hIu.1 (q_lt hIu.1.2.2.2)
        rw [← stepM_eq, hu] at hku
        obtain ⟨e1, e2⟩ := e
        obtain ⟨he2, he1⟩ := hku
        simp only at he2 he1
        rw [hui] at he2
        subst he2
        rcases he1 with rfl | rfl | rfl
        · exact .inl ⟨_, rfl, .inl rfl⟩
        · right
          refine ⟨rfl, costS u.s, ?_, n0 + k, u, by rw [runM_add, hn0, bnd_ok, hk], by rw [hlen]; exact hu, rfl⟩
          have hne : u.s ≠ [] := fun hz => by
            have : stepM (qs ++ [toks.getD (accM w) q0]) u = .ok u := by unfold stepM; rw [hz]
            rw [this] at hu
            cases hu
          have := run_tail k v u hIv (by rw [hvi, hlen]) hk hne
          omega
        · exact .inl ⟨_, rfl, .inr rfl⟩
end
end Go.Proofs.Ytokepgimjdalaaa
