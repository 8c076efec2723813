/- Two texts one behind the other, plain: the parser over tokens that lie otherwise. -/
import Derived.Test.YtokepgimjdalaaaUb
namespace Go.Proofs.Ytokepgimjdalaaa
set_option linter.unusedVariables false

/-- A node, its token's number moved. -/
def shN (n : Nat) (x : Nd) : Nd := { x with a := x.a + n }
def shD (n : Nat) (d : Df) : Df := ⟨d.name, d.a + n, d.ty.map (shN n)⟩
theorem shN_zero : shN 0 = id := by funext x; cases x; simp [shN]
theorem shD_zero : shD 0 = id := by funext x; cases x; simp [shD, shN_zero]
/-- The same answer, moved; an error where it is asked. -/
def Rl {α β : Type} (L n : Nat) (b : Prop) (φ : α → β) (r : PR α) (r' : PR β) : Prop :=
  match r with
  | .ok a => r' = .ok (φ a)
  | .error e => (b ∨ e.2 < L) → e.1 ≠ 0 → r' = .error (e.1, e.2 + n)
section
variable {L n : Nat} {b : Prop}
theorem Rl.bnd {α β γ δ : Type} {φ : α → β} {ψ : γ → δ} {r : PR α} {r' : PR β} {f : α → PR γ} {f' : β → PR δ} (h : Rl L n b φ r r') (k : ∀ a, r = .ok a → Rl L n b ψ (f a) (f' (φ a))) : Rl L n b ψ (bnd r f) (bnd r' f') := by
  cases r with
  | ok a =>
    have h' : r' = .ok (φ a) := h
    subst h'
    exact k a rfl
  | error e =>
    intro h1 h2
    have h' : r' = .error (e.1, e.2 + n) := h h1 h2
    subst h'
    rfl
theorem Rl.ok {α β : Type} {φ : α → β} {a : α} {c : β} (h : c = φ a) : Rl L n b φ (.ok a) (.ok c) := by show (Except.ok c : PR β) = _; rw [h]
end
section
variable {qs qt : List Q} {n : Nat} {b : Prop}
/-- The tokens of one list are found in the other, n behind. -/
def Fnd (qs qt : List Q) (n : Nat) (b : Prop) : Prop := ∀ i, (i < qs.length ∨ b) → qAt qt (i + n) = qAt qs i
theorem out_q {i : Nat} (h : ¬ (i < qs.length ∨ b)) : qAt qs i = q0 := by
  have : ¬ i < qs.length := fun h1 => h (.inl h1)
  unfold qAt; simp [List.getD, Nat.not_lt.1 this]
theorem out_e {i : Nat} (h : ¬ (i < qs.length ∨ b)) {α β : Type} {φ : α → β} {c : Nat} {r' : PR β} : Rl qs.length n b φ (.error (c, i)) r' := fun h1 _ => absurd (h1.symm) h
theorem rl_tak (hF : Fnd qs qt n b) (may : Q → Bool) (h0 : may q0 = false) (i : Nat) : Rl qs.length n b (· + n) (tak qs may i) (tak qt may (i + n)) := by
  by_cases hi : i < qs.length ∨ b
  · unfold tak
    rw [hF i hi]
    cases may (qAt qs i) with
    | true => exact Rl.ok (by omega)
    | false => exact fun _ _ => rfl
  · have hq := out_q hi
    unfold tak
    rw [hq, h0]
    exact out_e hi
theorem rl_txt (hF : Fnd qs qt n b) (s : ByteArray) (h0 : isT s q0 = false) (i : Nat) : Rl qs.length n b (· + n) (txt qs s i) (txt qt s (i + n)) := rl_tak hF _ h0 i
def φN (n : Nat) (r : List Nd × Nat) : List Nd × Nat := (r.1.map (shN n), r.2 + n)
/-- A part read so. -/
def SubR (qs : List Q) (n : Nat) (b : Prop) (sub sub' : Nd → Nat → PR (List Nd × Nat)) : Prop := ∀ x i, Rl qs.length n b (φN n) (sub x i) (sub' (shN n x) (i + n))
variable {sub sub' : Nd → Nat → PR (List Nd × Nat)}
theorem cast_a (i : Nat) : ((i + n : Nat) : Int) = (i : Int) + (n : Int) := by omega
theorem sh_a (i : Nat) : shN n { nd0 with a := (i : Int) } = { nd0 with a := ((i + n : Nat) : Int) } := by unfold shN; rw [cast_a]
theorem rl_items (hF : Fnd qs qt n b) (hS : SubR qs n b sub sub') (i : Nat) : Rl qs.length n b (fun r => (r.1.map (shN n), r.2.1, r.2.2 + n)) (itemsP qs sub i) (itemsP qt sub' (i + n)) := by
  unfold itemsP
  refine (rl_txt hF _ (by decide) i).bnd fun i1 _ => ?_
  refine Rl.bnd (φ := φN n) (by have := hS { nd0 with a := (i1 : Int) } i1; rw [sh_a] at this; exact this) fun r _ => ?_
  refine (rl_txt hF _ (by decide) r.2).bnd fun i3 h3 => ?_
  refine (rl_tak hF _ (by decide) i3).bnd fun i4 h4 => ?_
  have hi3 := tak_lt (by decide) h4
  refine (rl_txt hF _ (by decide) i4).bnd fun i5 _ => ?_
  exact Rl.ok (by rw [hF i3 (.inl hi3)]; rfl)
theorem rl_option (hF : Fnd qs qt n b) (hS : SubR qs n b sub sub') (i : Nat) : Rl qs.length n b (φN n) (optionP qs sub i) (optionP qt sub' (i + n)) := by
  unfold optionP
  refine (rl_txt hF _ (by decide) i).bnd fun i1 _ => ?_
  refine Rl.bnd (φ := φN n) (by have := hS { nd0 with a := (i1 : Int) } i1; rw [sh_a] at this; exact this) fun r _ => ?_
  refine (rl_txt hF _ (by decide) r.2).bnd fun i3 h3 => ?_
  exact Rl.ok rfl
def φP (n : Nat) (r : List Nd × Nat × Nat) : List Nd × Nat × Nat := (r.1.map (shN n), r.2.1, r.2.2 + n)
theorem rl_more (hF : Fnd qs qt n b) {one one' : Nat → Nat → PR (List Nd × Nat)} (h1 : ∀ c i, Rl qs.length n b (φN n) (one c i) (one' c (i + n))) : ∀ (f c : Nat) (N : List Nd) (i : Nat), Rl qs.length n b (φP n) (moreP qs one f c N i) (moreP qt one' f c (N.map (shN n)) (i + n))
  | 0, c, N, i => fun _ h => absurd rfl h
  | f + 1, c, N, i => by
    unfold moreP
    by_cases hi : i < qs.length ∨ b
    · rw [hF i hi]
      cases isT ⟨#[44]⟩ (qAt qs i) with
      | true =>
        rw [if_pos rfl, if_pos rfl]
        have h2 := h1 c (i + 1)
        rw [show i + 1 + n = i + n + 1 by omega] at h2
        refine h2.bnd fun r _ => ?_
        have h3 := rl_more hF h1 f (c + 1) (N ++ r.1) r.2
        rw [List.map_append] at h3
        exact h3
      | false =>
        rw [if_neg (by decide), if_neg (by decide)]
        exact (rl_txt hF _ (by decide) i).bnd fun j _ => Rl.ok rfl
    · have hq := out_q hi
      rw [hq, if_neg (by decide)]
      unfold txt tak
      rw [hq]
      exact out_e hi
theorem rl_parts (hF : Fnd qs qt n b) {one one' : Nat → Nat → PR (List Nd × Nat)} (h1 : ∀ c i, Rl qs.length n b (φN n) (one c i) (one' c (i + n))) (i : Nat) : Rl qs.length n b (φP n) (partsP qs one i) (partsP qt one' (i + n)) := by
  unfold partsP
  refine (rl_txt hF _ (by decide) i).bnd fun i1 _ => ?_
  refine (h1 0 i1).bnd fun r _ => ?_
  exact rl_more hF h1 64 1 r.1 r.2
theorem rl_part (hF : Fnd qs qt n b) (hS : SubR qs n b sub sub') (x : Nd) (k : Nat) (hx : x.a = (k : Int)) (room : Bool) (i : Nat) : Rl qs.length n b (φN n) (partP qs sub x room i) (partP qt sub' (shN n x) room (i + n)) := by
  unfold partP
  cases room with
  | true =>
    rw [if_pos rfl, if_pos rfl]
    exact (rl_txt hF _ (by decide) i).bnd fun i1 _ => hS x i1
  | false =>
    rw [if_neg (by decide), if_neg (by decide)]
    intro _ _
    show Except.error (5, (x.a + (n : Int)).toNat) = Except.error (5, x.a.toNat + n)
    rw [hx, ← cast_a, Int.toNat_natCast, Int.toNat_natCast]
theorem rl_arm (hF : Fnd qs qt n b) (hS : SubR qs n b sub sub') (c i : Nat) : Rl qs.length n b (φN n) (armP qs sub c i) (armP qt sub' c (i + n)) := by
  unfold armP
  refine (rl_tak hF _ (by decide) i).bnd fun i1 h1 => ?_
  have hi := tak_lt (by decide) h1
  rw [hF i (.inl hi)]
  have h2 := rl_part hF hS { nd0 with tag := (qAt qs i).n, a := (i : Int) } i rfl (decide (c < 64)) i1
  have e : shN n { nd0 with tag := (qAt qs i).n, a := (i : Int) } = { nd0 with tag := (qAt qs i).n, a := ((i + n : Nat) : Int) } := by unfold shN; rw [cast_a]
  rw [e] at h2
  exact h2
theorem rl_field (hF : Fnd qs qt n b) (hS : SubR qs n b sub sub') (c i : Nat) : Rl qs.length n b (φN n) (fieldP qs sub c i) (fieldP qt sub' c (i + n)) := by
  unfold fieldP
  refine (rl_tak hF _ (by decide) i).bnd fun i1 h1 => ?_
  have hi := tak_lt (by decide) h1
  rw [hF i (.inl hi)]
  have h2 := rl_part hF hS { nd0 with label := (qAt qs i).t, a := (i : Int) } i rfl (decide (c < 64)) i1
  have e : shN n { nd0 with label := (qAt qs i).t, a := (i : Int) } = { nd0 with label := (qAt qs i).t, a := ((i + n : Nat) : Int) } := by unfold shN; rw [cast_a]
  rw [e] at h2
  exact h2
theorem rl_body (hF : Fnd qs qt n b) (hS : SubR qs n b sub sub') (x : Nd) (i : Nat) (hi : i < qs.length ∨ b) : Rl qs.length n b (φN n) (bodyP qs sub x i) (bodyP qt sub' (shN n x) (i + n)) := by
  unfold bodyP
  have hk : (shN n x).k = x.k := rfl
  rw [hk]
  have hs : i + 1 + n = i + n + 1 := by omega
  by_cases h9 : x.k = 9
  · rw [if_pos h9, if_pos h9]
    exact Rl.ok (by rw [hF i hi]; unfold φN; rw [← hs]; rfl)
  rw [if_neg h9, if_neg h9]
  by_cases h45 : x.k = 4 ∨ x.k = 5
  · rw [if_pos h45, if_pos h45]
    have h := rl_items hF hS (i + 1)
    rw [hs] at h
    exact h.bnd fun r _ => Rl.ok rfl
  rw [if_neg h45, if_neg h45]
  by_cases h6 : x.k = 6
  · rw [if_pos h6, if_pos h6]
    have h := rl_option hF hS (i + 1)
    rw [hs] at h
    exact h.bnd fun r _ => Rl.ok rfl
  rw [if_neg h6, if_neg h6]
  by_cases h7 : x.k = 7
  · rw [if_pos h7, if_pos h7]
    have h := rl_parts hF (rl_arm hF hS) (i + 1)
    rw [hs] at h
    exact h.bnd fun r _ => Rl.ok rfl
  rw [if_neg h7, if_neg h7]
  by_cases h8 : x.k = 8
  · rw [if_pos h8, if_pos h8]
    have h := rl_parts hF (rl_field hF hS) (i + 1)
    rw [hs] at h
    exact h.bnd fun r _ => Rl.ok rfl
  rw [if_neg h8, if_neg h8]
  exact Rl.ok (by unfold φN; rw [← hs]; rfl)
theorem rl_node (hF : Fnd qs qt n b) : ∀ f, SubR qs n b (nodeP qs f) (nodeP qt f) := by
  intro f
  induction f with
  | zero =>
    intro x i
    unfold nodeP
    by_cases hi : i < qs.length ∨ b
    · rw [hF i hi]
      split
      · exact fun _ _ => rfl
      · exact fun _ _ => rfl
    · rw [out_q hi]
      exact out_e hi
  | succ f ih =>
    intro x i
    unfold nodeP
    by_cases hi : i < qs.length ∨ b
    · rw [hF i hi]
      split
      · exact fun _ _ => rfl
      · exact rl_body hF ih { x with k := (beg (qAt qs i).t).1, n := (beg (qAt qs i).t).2 } i hi
    · rw [out_q hi]
      exact out_e hi
theorem rl_def (hF : Fnd qs qt n b) (i : Nat) : Rl qs.length n b (fun r => (shD n r.1, r.2 + n)) (defP qs i) (defP qt (i + n)) := by
  unfold defP
  refine (rl_tak hF _ (by decide) i).bnd fun i1 h1 => ?_
  have hi := tak_lt (by decide) h1
  refine (rl_txt hF _ (by decide) i1).bnd fun i2 _ => ?_
  refine Rl.bnd (φ := φN n) (by have := rl_node hF 17 { nd0 with a := (i2 : Int) } i2; rw [sh_a] at this; exact this) fun r _ => ?_
  refine (rl_txt hF _ (by decide) r.2).bnd fun i4 _ => ?_
  exact Rl.ok (by rw [hF i (.inl hi)]; unfold shD φN; rw [cast_a])
end
theorem def_end {qs : List Q} {i j : Nat} {d : Df} (h : defP qs i = .ok (d, j)) : i < j ∧ j ≤ qs.length := by
  unfold defP at h
  obtain ⟨i1, h1, h⟩ := bnd_is h
  obtain ⟨i2, h2, h⟩ := bnd_is h
  obtain ⟨r, h3, h⟩ := bnd_is h
  obtain ⟨i4, h4, h⟩ := bnd_is h
  injection h with h
  injection h with _ h
  subst h
  have a1 := (tak_ok h1).1
  have a2 := (tak_ok h2).1
  have a4 := (tak_ok h4).1
  have a5 := tak_lt (by decide) h4
  have a3 := node_len 17 _ _ r.1 r.2 h3
  omega
/-! ### The first of two -/
section
variable (qa qb : List Q)
theorem fnd_front : Fnd qa (qa ++ qb) 0 False := fun i hi => by
  have h := hi.resolve_right id
  unfold qAt
  simp [List.getD, List.getElem?_append_left h]
theorem fnd_back : Fnd qb (qa ++ qb) qa.length True := fun i _ => by
  unfold qAt
  rw [List.getD_eq_getElem?_getD, List.getD_eq_getElem?_getD, List.getElem?_append_right (by omega), Nat.add_sub_cancel]
variable {qa qb}
theorem rl_nil {α : Type} {L : Nat} {φ : α → α} (hφ : ∀ a, φ a = a) {r r' : PR α} (h : Rl L 0 False φ r r') : (∀ a, r = .ok a → r' = .ok a) ∧ (∀ e, r = .error e → e.2 < L → e.1 ≠ 0 → r' = .error e) := by
  refine ⟨fun a ha => ?_, fun e he h1 h2 => ?_⟩
  · subst ha; have h' : r' = .ok (φ a) := h; rw [h', hφ]
  · subst he; exact h (.inr h1) h2
theorem front_def (i : Nat) : (∀ a, defP qa i = .ok a → defP (qa ++ qb) i = .ok a) ∧ (∀ e, defP qa i = .error e → e.2 < qa.length → e.1 ≠ 0 → defP (qa ++ qb) i = .error e) :=
  rl_nil (φ := fun r => (shD 0 r.1, r.2 + 0)) (fun a => by rw [shD_zero]; rfl) (rl_def (fnd_front qa qb) i)
theorem front_tak (may : Q → Bool) (h0 : may q0 = false) (i : Nat) : (∀ a, tak qa may i = .ok a → tak (qa ++ qb) may i = .ok a) ∧ (∀ e, tak qa may i = .error e → e.2 < qa.length → e.1 ≠ 0 → tak (qa ++ qb) may i = .error e) :=
  rl_nil (φ := (· + 0)) (fun a => rfl) (rl_tak (fnd_front qa qb) may h0 i)
theorem src_front : ∀ (f : Nat) (D : List Df) (i : Nat), i ≤ qa.length →
    (∀ D', srcP qa f D i = .ok D' → D.length ≤ D'.length ∧ D'.length < f + D.length ∧ srcP (qa ++ qb) f D i = srcP (qa ++ qb) (f + D.length - D'.length) D' qa.length) ∧
    (∀ e, srcP qa f D i = .error e → e.2 < qa.length → e.1 ≠ 0 → srcP (qa ++ qb) f D i = .error e)
  | 0, D, i, hi => ⟨fun D' h => (by cases h), fun e h _ h2 => by injection h with h; subst h; exact absurd rfl h2⟩
  | f + 1, D, i, hi => by
    by_cases hl : i < qa.length
    · have hl2 : i < (qa ++ qb).length := by rw [List.length_append]; omega
      have hT := front_tak (qa := qa) (qb := qb) (isT ⟨#[116, 121, 112, 101]⟩) (by decide) i
      refine ⟨fun D' h => ?_, fun e h h1 h2 => ?_⟩
      · unfold srcP at h
        rw [if_pos hl] at h
        obtain ⟨i1, a1, h⟩ := bnd_is h
        by_cases hf : f = 0
        · rw [if_pos hf] at h; cases h
        rw [if_neg hf] at h
        obtain ⟨r, a2, h⟩ := bnd_is h
        have he := def_end (d := r.1) (j := r.2) a2
        have ih := (src_front f (D ++ [r.1]) r.2 he.2).1 D' h
        rw [List.length_append, List.length_singleton] at ih
        refine ⟨by omega, by omega, ?_⟩
        rw [show f + 1 + D.length - D'.length = f + (D.length + 1) - D'.length by omega, ← ih.2.2]
        rw [srcP, if_pos hl2]
        have b1 : txt (qa ++ qb) ⟨#[116, 121, 112, 101]⟩ i = .ok i1 := hT.1 i1 a1
        rw [b1, bnd_ok, if_neg hf, (front_def i1).1 r a2, bnd_ok]
      · unfold srcP at h
        rw [if_pos hl] at h
        rw [srcP, if_pos hl2]
        cases a1 : txt qa ⟨#[116, 121, 112, 101]⟩ i with
        | error e1 =>
          rw [a1] at h
          injection h with h
          subst h
          have b1 : txt (qa ++ qb) ⟨#[116, 121, 112, 101]⟩ i = .error e1 := hT.2 e1 a1 h1 h2
          rw [b1]
          rfl
        | ok i1 =>
          have b1 : txt (qa ++ qb) ⟨#[116, 121, 112, 101]⟩ i = .ok i1 := hT.1 i1 a1
          rw [a1, bnd_ok] at h
          rw [b1, bnd_ok]
          by_cases hf : f = 0
          · rw [if_pos hf] at h ⊢; exact h
          rw [if_neg hf] at h ⊢
          cases a2 : defP qa i1 with
          | error e1 =>
            rw [a2] at h
            injection h with h
            subst h
            rw [(front_def i1).2 e1 a2 h1 h2]
            rfl
          | ok r =>
            rw [a2, bnd_ok] at h
            rw [(front_def i1).1 r a2, bnd_ok]
            exact (src_front f (D ++ [r.1]) r.2 (def_end (d := r.1) (j := r.2) a2).2).2 e h h1 h2
    · have hi' : i = qa.length := by omega
      refine ⟨fun D' h => ?_, fun e h h1 h2 => ?_⟩
      · rw [srcP, if_neg hl] at h
        injection h with h
        subst h
        refine ⟨Nat.le_refl _, by omega, ?_⟩
        rw [Nat.add_sub_cancel, hi']
      · rw [srcP, if_neg hl] at h
        cases h
/-! ### The second -/
theorem src_back : ∀ (f : Nat) (D : List Df) (i : Nat),
    (∀ D', srcP qb f D i = .ok D' → ∃ X, D' = D ++ X ∧ ∀ (g : Nat) (E : List Df), 0 < g → (X.length < g → srcP (qa ++ qb) g E (i + qa.length) = .ok (E ++ X.map (shD qa.length))) ∧ (g ≤ X.length → ∃ k, srcP (qa ++ qb) g E (i + qa.length) = .error (5, k))) ∧
    (∀ e, srcP qb f D i = .error e → e.1 ≠ 0 → ∀ (g : Nat) (E : List Df), 0 < g → g ≤ f → srcP (qa ++ qb) g E (i + qa.length) = .error (e.1, e.2 + qa.length) ∨ ∃ k, srcP (qa ++ qb) g E (i + qa.length) = .error (5, k))
  | 0, D, i => ⟨fun D' h => (by cases h), fun e h h2 => by injection h with h; subst h; exact absurd rfl h2⟩
  | f + 1, D, i => by
    have hB := fnd_back qa qb
    by_cases hl : i < qb.length
    · have hl2 : i + qa.length < (qa ++ qb).length := by rw [List.length_append]; omega
      have hT := rl_txt hB ⟨#[116, 121, 112, 101]⟩ (by decide) i
      cases a1 : txt qb ⟨#[116, 121, 112, 101]⟩ i with
      | error e1 =>
        rw [a1] at hT
        refine ⟨fun D' h => ?_, fun e h h2 g E hg hgf => ?_⟩
        · rw [srcP, if_pos hl, a1] at h; cases h
        · rw [srcP, if_pos hl, a1] at h
          injection h with h
          subst h
          left
          cases g with
          | zero => omega
          | succ g =>
            have hT' : txt (qa ++ qb) ⟨#[116, 121, 112, 101]⟩ (i + qa.length) = .error (e1.1, e1.2 + qa.length) := hT (.inl trivial) h2
            rw [srcP, if_pos hl2, hT']
            rfl
      | ok i1 =>
        rw [a1] at hT
        have hT' : txt (qa ++ qb) ⟨#[116, 121, 112, 101]⟩ (i + qa.length) = .ok (i1 + qa.length) := hT
        have hD := rl_def hB i1
        by_cases hf : f = 0
        · refine ⟨fun D' h => ?_, fun e h h2 g E hg hgf => ?_⟩
          · rw [srcP, if_pos hl, a1, bnd_ok, if_pos hf] at h; cases h
          · right
            have hg1 : g = 1 := by omega
            subst hg1
            exact ⟨i + qa.length, by rw [srcP, if_pos hl2, hT', bnd_ok, if_pos rfl]⟩
        cases a2 : defP qb i1 with
        | error e1 =>
          rw [a2] at hD
          refine ⟨fun D' h => ?_, fun e h h2 g E hg hgf => ?_⟩
          · rw [srcP, if_pos hl, a1, bnd_ok, if_neg hf, a2] at h; cases h
          · rw [srcP, if_pos hl, a1, bnd_ok, if_neg hf, a2] at h
            injection h with h
            subst h
            cases g with
            | zero => omega
            | succ g =>
              by_cases hg0 : g = 0
              · right
                exact ⟨i + qa.length, by rw [srcP, if_pos hl2, hT', bnd_ok, if_pos hg0]⟩
              · left
                have hD' : defP (qa ++ qb) (i1 + qa.length) = .error (e1.1, e1.2 + qa.length) := hD (.inl trivial) h2
                rw [srcP, if_pos hl2, hT', bnd_ok, if_neg hg0, hD']
                rfl
        | ok r =>
          rw [a2] at hD
          have hD' : defP (qa ++ qb) (i1 + qa.length) = .ok (shD qa.length r.1, r.2 + qa.length) := hD
          have ih := src_back f (D ++ [r.1]) r.2
          refine ⟨fun D' h => ?_, fun e h h2 g E hg hgf => ?_⟩
          · rw [srcP, if_pos hl, a1, bnd_ok, if_neg hf, a2, bnd_ok] at h
            obtain ⟨X, hX, hG⟩ := ih.1 D' h
            refine ⟨r.1 :: X, by rw [hX]; simp, fun g E hg => ?_⟩
            cases g with
            | zero => omega
            | succ g =>
              by_cases hg0 : g = 0
              · refine ⟨fun h1 => by simp at h1; omega, fun _ => ⟨i + qa.length, by rw [srcP, if_pos hl2, hT', bnd_ok, if_pos hg0]⟩⟩
              · have e1 : srcP (qa ++ qb) (g + 1) E (i + qa.length) = srcP (qa ++ qb) g (E ++ [shD qa.length r.1]) (r.2 + qa.length) := by
                  rw [srcP, if_pos hl2, hT', bnd_ok, if_neg hg0, hD', bnd_ok]
                rw [e1]
                have hG' := hG g (E ++ [shD qa.length r.1]) (by omega)
                refine ⟨fun h1 => ?_, fun h1 => hG'.2 (by simp at h1; omega)⟩
                rw [hG'.1 (by simp at h1; omega)]
                simp
          · rw [srcP, if_pos hl, a1, bnd_ok, if_neg hf, a2, bnd_ok] at h
            cases g with
            | zero => omega
            | succ g =>
              by_cases hg0 : g = 0
              · right
                exact ⟨i + qa.length, by rw [srcP, if_pos hl2, hT', bnd_ok, if_pos hg0]⟩
              · have e1 : srcP (qa ++ qb) (g + 1) E (i + qa.length) = srcP (qa ++ qb) g (E ++ [shD qa.length r.1]) (r.2 + qa.length) := by
                  rw [srcP, if_pos hl2, hT', bnd_ok, if_neg hg0, hD', bnd_ok]
                rw [e1]
                exact ih.2 e h h2 g _ (by omega) (by omega)
    · have hl2 : ¬ i + qa.length < (qa ++ qb).length := by rw [List.length_append]; omega
      refine ⟨fun D' h => ?_, fun e h h2 g E hg hgf => ?_⟩
      · rw [srcP, if_neg hl] at h
        injection h with h
        subst h
        refine ⟨[], by simp, fun g E hg => ?_⟩
        cases g with
        | zero => omega
        | succ g => exact ⟨fun _ => by rw [srcP, if_neg hl2]; simp, fun h1 => by simp at h1⟩
      · rw [srcP, if_neg hl] at h
        cases h
end
end Go.Proofs.Ytokepgimjdalaaa
