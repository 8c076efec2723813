/- Uses of definitions as a graph: who leads to whom, rings, orders. Plain: it names nothing of the program. -/
import Init
namespace Go.Proofs.Ytjeafblkmipdmaa
set_option linter.unusedVariables false

def us (U : List (List Nat)) (a : Nat) : List Nat := U.getD a []
/-- a leads to b in n + 1 steps. -/
def Ld (U : List (List Nat)) : Nat → Nat → Nat → Prop
  | 0, a, b => b ∈ us U a
  | n + 1, a, b => ∃ c, c ∈ us U a ∧ Ld U n c b
def Lead (U : List (List Nat)) (a b : Nat) : Prop := ∃ n, Ld U n a b
theorem Lead.one {U : List (List Nat)} {a b : Nat} (h : b ∈ us U a) : Lead U a b := ⟨0, h⟩
theorem Lead.step {U : List (List Nat)} {a b c : Nat} (h : c ∈ us U a) (k : Lead U c b) : Lead U a b := k.elim fun n hn => ⟨n + 1, c, h, hn⟩
theorem Lead.trans {U : List (List Nat)} {a b c : Nat} (h : Lead U a b) (k : Lead U b c) : Lead U a c := by
  obtain ⟨n, hn⟩ := h
  induction n generalizing a with
  | zero => exact k.step hn
  | succ n ih =>
    obtain ⟨d, h1, h2⟩ := hn
    exact (ih h2).step h1
theorem Lead.first {U : List (List Nat)} {a b : Nat} (h : Lead U a b) : ∃ c, c ∈ us U a ∧ (c = b ∨ Lead U c b) := by
  obtain ⟨n, hn⟩ := h
  cases n with
  | zero => exact ⟨b, hn, .inl rfl⟩
  | succ n => obtain ⟨c, h1, h2⟩ := hn; exact ⟨c, h1, .inr ⟨n, h2⟩⟩
/-- A set that is closed, and from which nothing uses f, does not lead to f. -/
theorem no_lead {U : List (List Nat)} {f : Nat} (S : Nat → Prop) (h : ∀ k, S k → ∀ u ∈ us U k, u ≠ f ∧ S u) : ∀ a, S a → ¬ Lead U a f := by
  intro a ha ⟨n, hn⟩
  induction n generalizing a with
  | zero => exact (h a ha f hn).1 rfl
  | succ n ih => obtain ⟨c, h1, h2⟩ := hn; exact ih c (h a ha c h1).2 h2
def Rng (U : List (List Nat)) : Prop := ∀ a, ∀ u ∈ us U a, u < U.length
def Acy (U : List (List Nat)) : Prop := ∀ i, ¬ Lead U i i
theorem us_lt {U : List (List Nat)} {a u : Nat} (h : u ∈ us U a) : a < U.length := by
  unfold us at h
  rcases Nat.lt_or_ge a U.length with h1 | h1
  · exact h1
  · rw [List.getD_eq_getElem?_getD, List.getElem?_eq_none h1] at h; cases h
theorem Lead.lt {U : List (List Nat)} {a b : Nat} (h : Lead U a b) : a < U.length := by
  obtain ⟨c, h1, _⟩ := h.first
  exact us_lt h1

theorem countP_lt {α : Type} (p q : α → Bool) : ∀ (l : List α), (∀ x ∈ l, p x = true → q x = true) → (∃ x ∈ l, q x = true ∧ p x = false) → l.countP p < l.countP q
  | [], _, ⟨x, h, _⟩ => by cases h
  | y :: l, hpq, ⟨x, hx, hq, hp⟩ => by
    have hle : l.countP p ≤ l.countP q := List.countP_mono_left (fun x hx => hpq x (.tail _ hx))
    rcases List.mem_cons.1 hx with rfl | hx
    · rw [List.countP_cons, List.countP_cons, hp, hq]; simp; omega
    · have ih := countP_lt p q l (fun x hx => hpq x (.tail _ hx)) ⟨x, hx, hq, hp⟩
      rw [List.countP_cons, List.countP_cons]
      have h1 := hpq y (.head _)
      cases e1 : p y <;> cases e2 : q y
      · simp; exact ih
      · simp; omega
      · rw [e1, e2] at h1; cases h1 rfl
      · simp; exact ih
/-- Where no ring is, what is used has a lesser rank. -/
theorem rank {U : List (List Nat)} (hR : Rng U) (hA : Acy U) : ∃ r : Nat → Nat, ∀ a c, c ∈ us U a → r c < r a := by
  classical
  exact ⟨fun a => (List.range U.length).countP (fun x => decide (Lead U a x)), fun a c h =>
    countP_lt _ _ _ (fun x _ hx => decide_eq_true ((of_decide_eq_true hx).step h)) ⟨c, List.mem_range.2 (hR a c h), decide_eq_true (Lead.one h), decide_eq_false (hA c)⟩⟩
/-- May n be told next? -/
def Rdy (U : List (List Nat)) (S : List Nat) (n : Nat) : Prop := n ∉ S ∧ ∀ u ∈ us U n, u ∈ S
theorem ready {U : List (List Nat)} (hR : Rng U) (hA : Acy U) (S : List Nat) (m : Nat) (hm : m < U.length) (hS : m ∉ S) : ∃ n, n < U.length ∧ Rdy U S n := by
  obtain ⟨r, hr⟩ := rank hR hA
  have key : ∀ (k m : Nat), r m ≤ k → m < U.length → m ∉ S → ∃ n, n < U.length ∧ Rdy U S n := by
    intro k
    induction k with
    | zero =>
      intro m hk hm hS
      refine ⟨m, hm, hS, fun u hu => ?_⟩
      have := hr _ _ hu
      omega
    | succ k ih =>
      intro m hk hm hS
      classical
      by_cases h : ∀ u ∈ us U m, u ∈ S
      · exact ⟨m, hm, hS, h⟩
      · simp only [Classical.not_forall] at h
        obtain ⟨u, hu, hn⟩ := h
        exact ih u (by have := hr _ _ hu; omega) (hR m u hu) hn
  exact key _ m (Nat.le_refl _) hm hS
/-- Each the least that is not told and uses only those that are. -/
def Ordr (U : List (List Nat)) (o : List Nat) : Prop := ∀ (i n : Nat), o[i]? = some n → n < U.length ∧ Rdy U (o.take i) n ∧ ∀ m, m < n → ¬ Rdy U (o.take i) m
theorem Ordr.nil (U : List (List Nat)) : Ordr U [] := fun i n h => by simp at h
theorem Ordr.snoc {U : List (List Nat)} {o : List Nat} (h : Ordr U o) {n : Nat} (hn : n < U.length) (hr : Rdy U o n) (hl : ∀ m, m < n → ¬ Rdy U o m) : Ordr U (o ++ [n]) := by
  intro i m hm
  rcases Nat.lt_or_ge i o.length with hi | hi
  · rw [List.getElem?_append_left hi] at hm
    rw [List.take_append_of_le_length (by omega)]
    exact h i m hm
  · have h0 : i = o.length := by
      have := (List.getElem?_eq_some_iff.1 hm).1
      simp at this; omega
    subst h0
    simp at hm
    subst hm
    rw [List.take_left]
    exact ⟨hn, hr, hl⟩
theorem Ordr.at_mem {U : List (List Nat)} {o : List Nat} (h : Ordr U o) {i n : Nat} (hi : o[i]? = some n) {u : Nat} (hu : u ∈ us U n) : ∃ j, j < i ∧ o[j]? = some u := by
  have := (h i n hi).2.1.2 u hu
  obtain ⟨j, hj, e⟩ := List.getElem_of_mem this
  rw [List.length_take] at hj
  refine ⟨j, by omega, ?_⟩
  rw [List.getElem_take] at e
  rw [← e]
  exact List.getElem?_eq_getElem _
theorem Ordr.inj {U : List (List Nat)} {o : List Nat} (h : Ordr U o) {i j n : Nat} (hi : o[i]? = some n) (hj : o[j]? = some n) : i = j := by
  have key : ∀ i j n : Nat, o[i]? = some n → o[j]? = some n → ¬ i < j := by
    intro i j n hi hj hlt
    refine (h j n hj).2.1.1 ?_
    have hl := (List.getElem?_eq_some_iff.1 hj).1
    refine List.mem_iff_getElem?.2 ⟨i, ?_⟩
    rw [List.getElem?_take, if_pos hlt]
    exact hi
  have := key i j n hi hj
  have := key j i n hj hi
  omega
theorem Ordr.nodup {U : List (List Nat)} {o : List Nat} (h : Ordr U o) : o.Nodup := by
  rw [List.nodup_iff_pairwise_ne, List.pairwise_iff_getElem]
  intro i j hi hj hlt e
  have := h.inj (List.getElem?_eq_getElem hi) (by rw [e]; exact List.getElem?_eq_getElem hj)
  omega
theorem nodup_len : ∀ (n : Nat) (l : List Nat), l.Nodup → (∀ x ∈ l, x < n) → l.length ≤ n
  | 0, l, _, h => by
    cases l with
    | nil => simp
    | cons x l => exact absurd (h x (.head _)) (by omega)
  | n + 1, l, hd, h => by
    by_cases hn : n ∈ l
    · have h1 := nodup_len n (l.erase n) (hd.erase n) (fun x hx => by
        have h2 := h x (List.mem_of_mem_erase hx)
        have h3 : x ≠ n := fun e => by subst e; exact (List.Nodup.mem_erase_iff hd).1 hx |>.1 rfl
        omega)
      rw [List.length_erase_of_mem hn] at h1
      omega
    · have h1 := nodup_len n l hd (fun x hx => by
        have h2 := h x hx
        have h3 : x ≠ n := fun e => hn (e ▸ hx)
        omega)
      omega
theorem Ordr.lt {U : List (List Nat)} {o : List Nat} (h : Ordr U o) {n : Nat} (hn : n ∈ o) : n < U.length := by
  obtain ⟨i, hi, e⟩ := List.getElem_of_mem hn
  exact (h i n (by rw [← e]; exact List.getElem?_eq_getElem hi)).1
theorem Ordr.all {U : List (List Nat)} {o : List Nat} (h : Ordr U o) (hl : o.length = U.length) {n : Nat} (hn : n < U.length) : n ∈ o := by
  by_cases hm : n ∈ o
  · exact hm
  · have := nodup_len U.length (n :: o) (List.nodup_cons.2 ⟨hm, h.nodup⟩) (fun x hx => by
      rcases List.mem_cons.1 hx with rfl | hx
      · exact hn
      · exact h.lt hx)
    simp at this
    omega
theorem Ordr.left {U : List (List Nat)} {o : List Nat} (h : Ordr U o) (hl : o.length < U.length) : ∃ n, n < U.length ∧ n ∉ o := by
  classical
  by_cases hx : ∀ n, n < U.length → n ∈ o
  · exfalso
    have h1 : (List.range U.length).length ≤ o.length := by
      have key : ∀ (l r : List Nat), l.Nodup → (∀ x ∈ l, x ∈ r) → l.length ≤ r.length := by
        intro l
        induction l with
        | nil => intro r _ _; simp
        | cons x l ih =>
          intro r hd hs
          have hx := hs x (.head _)
          have h2 := ih (r.erase x) (List.nodup_cons.1 hd).2 (fun y hy => by
            refine (List.mem_erase_of_ne (fun e => ?_)).2 (hs y (.tail _ hy))
            subst e
            exact (List.nodup_cons.1 hd).1 hy)
          rw [List.length_erase_of_mem hx] at h2
          have : 0 < r.length := List.length_pos_of_mem hx
          simp
          omega
      exact key _ _ List.nodup_range (fun x hx' => hx x (List.mem_range.1 hx'))
    simp at h1
    omega
  · simp only [Classical.not_forall] at hx
    obtain ⟨n, h1, h2⟩ := hx
    exact ⟨n, h1, h2⟩
theorem Ordr.det {U : List (List Nat)} {o p : List Nat} (h : Ordr U o) (k : Ordr U p) (hl : o.length = p.length) : o = p := by
  have key : ∀ n, n ≤ o.length → o.take n = p.take n := by
    intro n
    induction n with
    | zero => intro _; rfl
    | succ n ih =>
      intro hn
      have e := ih (by omega)
      have ho : o[n]? = some (o[n]'(by omega)) := List.getElem?_eq_getElem _
      have hp : p[n]? = some (p[n]'(by omega)) := List.getElem?_eq_getElem _
      obtain ⟨_, a2, a3⟩ := h n _ ho
      obtain ⟨_, b2, b3⟩ := k n _ hp
      rw [e] at a2 a3
      have : o[n]'(by omega) = p[n]'(by omega) := by
        rcases Nat.lt_trichotomy (o[n]'(by omega)) (p[n]'(by omega)) with h1 | h1 | h1
        · exact absurd a2 (b3 _ h1)
        · exact h1
        · exact absurd b2 (a3 _ h1)
      rw [List.take_succ_eq_append_getElem (by omega), List.take_succ_eq_append_getElem (by omega), e, this]
  have := key o.length (Nat.le_refl _)
  rw [List.take_length, hl, List.take_length] at this
  exact this
/-- Where no ring is, one of those that are left is ready. -/
theorem Ordr.next {U : List (List Nat)} {o : List Nat} (h : Ordr U o) (hR : Rng U) (hA : Acy U) (hl : o.length < U.length) : ∃ n, n < U.length ∧ Rdy U o n := by
  obtain ⟨m, h1, h2⟩ := h.left hl
  exact ready hR hA o m h1 h2
/-- The least number of a kind. -/
theorem least {p : Nat → Prop} : ∀ (n : Nat), p n → ∃ m, m ≤ n ∧ p m ∧ ∀ k, k < m → ¬ p k := by
  classical
  intro n
  induction n using Nat.strongRecOn with
  | ind n ih =>
    intro hn
    by_cases h : ∃ k, k < n ∧ p k
    · obtain ⟨k, h1, h2⟩ := h
      obtain ⟨m, h3, h4, h5⟩ := ih k h1 h2
      exact ⟨m, by omega, h4, h5⟩
    · exact ⟨n, Nat.le_refl _, hn, fun k hk hp => h ⟨k, hk, hp⟩⟩
end Go.Proofs.Ytjeafblkmipdmaa
