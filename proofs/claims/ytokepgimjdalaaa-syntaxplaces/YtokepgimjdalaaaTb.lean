/- A text that ends too early goes on, plain. -/
import Derived.Test.YtokepgimjdalaaaTa
namespace Go.Proofs.Ytokepgimjdalaaa
set_option linter.unusedVariables false

/-- A step, the token in hand. -/
def stepQ (q : Q) (L : Nat) (t : St) : PR St :=
  match t.s with
  | [] => .ok t
  | w :: S =>
    if w = 8 then .ok ⟨S, t.i, t.o.tail, t.d⟩
    else if w = 0 then
      (if t.i < L then (if isT ⟨#[116, 121, 112, 101]⟩ q then (if 256 ≤ t.d then .error (5, t.i) else .ok ⟨1 :: 71 :: 3 :: 69 :: 0 :: S, t.i + 1, t.o, t.d + 1⟩) else .error (60, t.i)) else .ok ⟨S, t.i, t.o, t.d⟩)
    else if w = 1 then (if isNm q then .ok ⟨S, t.i + 1, t.o, t.d⟩ else .error (60, t.i))
    else if w = 2 then (if isNum q then .ok ⟨S, t.i + 1, t.o, t.d⟩ else .error (60, t.i))
    else if w = 3 then
      (if (beg q.t).1 = 0 then .error (60, t.i) else if 16 < t.o.length then .error (61, t.i)
       else .ok ⟨insideM (beg q.t).1 ++ S, t.i + 1, if insideM (beg q.t).1 = [] then t.o else 0 :: t.o, t.d⟩)
    else if w = 4 then (if isNm q then (if 64 ≤ t.o.headD 0 then .error (5, t.i) else .ok ⟨68 :: 3 :: S, t.i + 1, (t.o.headD 0 + 1) :: t.o.tail, t.d⟩) else .error (60, t.i))
    else if w = 5 then (if isNum q then (if 64 ≤ t.o.headD 0 then .error (5, t.i) else .ok ⟨68 :: 3 :: S, t.i + 1, (t.o.headD 0 + 1) :: t.o.tail, t.d⟩) else .error (60, t.i))
    else if w = 6 then (if isT ⟨#[44]⟩ q then .ok ⟨4 :: 6 :: S, t.i + 1, t.o, t.d⟩ else if isT ⟨#[125]⟩ q then .ok ⟨S, t.i + 1, t.o, t.d⟩ else .error (60, t.i))
    else if w = 7 then (if isT ⟨#[44]⟩ q then .ok ⟨5 :: 7 :: S, t.i + 1, t.o, t.d⟩ else if isT ⟨#[125]⟩ q then .ok ⟨S, t.i + 1, t.o, t.d⟩ else .error (60, t.i))
    else (if isT ⟨#[UInt8.ofNat (w - 10)]⟩ q then .ok ⟨S, t.i + 1, t.o, t.d⟩ else .error (60, t.i))
theorem stepM_eq (qs : List Q) (t : St) : stepM qs t = stepQ (qAt qs t.i) qs.length t := rfl
def costI (w : Nat) : Nat := if w = 0 ∨ w = 8 then 0 else if w = 4 ∨ w = 5 then 3 else 1
def costS : List Nat → Nat
  | [] => 0
  | w :: S => costI w + costS S
def n8 : List Nat → Nat
  | [] => 0
  | w :: S => (if w = 8 then 1 else 0) + n8 S
def vItems : List Nat := [1, 2, 3, 4, 5, 6, 7, 54, 68, 69, 70, 71, 72, 133]
def okS : List Nat → Prop
  | [] => True
  | w :: S => okS S ∧ costS (w :: S) ≤ 4 + 5 * n8 (w :: S) ∧ (w = 8 → costS S ≤ 3 + 5 * n8 S) ∧ (w = 6 ∨ w = 7 → ∃ S2, S = 8 :: S2) ∧ (w = 4 ∨ w = 5 → ∃ x S2, S = x :: 8 :: S2) ∧ (w = 0 → S = []) ∧ (w = 0 ∨ w = 8 ∨ w ∈ vItems)
def InvM (L : Nat) (t : St) : Prop := okS t.s ∧ n8 t.s = t.o.length ∧ t.o.length ≤ 17 ∧ t.i ≤ L
/-- It errs in none but these ways; else it goes on, in order. -/
theorem stepQ_inv {q : Q} {L : Nat} {t : St} (h : InvM L t) (hq : t.i < L ∨ q = q0) :
    match stepQ q L t with
    | .ok u => InvM L u ∧ t.i ≤ u.i
    | .error e => e.2 = t.i ∧ (e.1 = 5 ∨ e.1 = 60 ∨ e.1 = 61) := by
  obtain ⟨S0, i, o, d⟩ := t
  obtain ⟨h1, h2, h3, h4⟩ := h
  simp only at h1 h2 h3 h4 hq
  cases S0 with
  | nil => exact ⟨⟨h1, h2, h3, h4⟩, Nat.le_refl _⟩
  | cons w S =>
    obtain ⟨k1, k2, k3, k4, k45, k5, k6⟩ := h1
    have hpop : ∀ u : St, w ≠ 8 → u = ⟨S, i + 1, o, d⟩ → i < L → InvM L u ∧ i ≤ u.i := fun u hw hu hl => by
      subst hu
      refine ⟨⟨k1, ?_, h3, by show i + 1 ≤ L; omega⟩, by simp⟩
      simp only [n8, if_neg hw] at h2
      simpa using h2
    have hlt : ∀ f : Q → Bool, f q0 = false → f q = true → i < L := fun f h0 hf => by
      rcases hq with hq | hq
      · exact hq
      · rw [hq, h0] at hf; cases hf
    rcases k6 with rfl | rfl | hV
    · show match (if i < L then _ else _ : PR St) with | .ok u => _ | .error e => _
      by_cases hi : i < L
      · rw [if_pos hi]
        cases isT ⟨#[116, 121, 112, 101]⟩ q with
        | false => exact ⟨rfl, .inr (.inl rfl)⟩
        | true =>
          rw [if_pos rfl]
          by_cases hd : 256 ≤ d
          · rw [if_pos hd]; exact ⟨rfl, .inl rfl⟩
          · rw [if_neg hd]
            have hS := k5 rfl
            subst hS
            simp [n8] at h2
            refine ⟨⟨by simp [okS, costS, costI, n8, vItems], by simp [n8]; omega, h3, by show i + 1 ≤ L; omega⟩, by simp⟩
      · rw [if_neg hi]
        have hS := k5 rfl
        subst hS
        simp [n8] at h2
        exact ⟨⟨trivial, by simp [n8]; omega, h3, h4⟩, Nat.le_refl _⟩
    · show InvM L ⟨S, i, o.tail, d⟩ ∧ i ≤ i
      simp only [n8, if_pos] at h2
      refine ⟨⟨k1, ?_, ?_, h4⟩, Nat.le_refl _⟩
      · cases o with
        | nil => simp at h2
        | cons a o => simp at h2 ⊢; omega
      · simp only [List.length_tail]; omega
    · simp only [vItems, List.mem_cons, List.mem_nil_iff, or_false] at hV
      rcases hV with rfl | rfl | rfl | rfl | rfl | rfl | rfl | rfl | rfl | rfl | rfl | rfl | rfl | rfl
      · show match (if isNm q then _ else _ : PR St) with | .ok u => _ | .error e => _
        cases hb : isNm q with
        | false => exact ⟨rfl, .inr (.inl rfl)⟩
        | true => exact hpop _ (by decide) rfl (hlt isNm (by decide) hb)
      · show match (if isNum q then _ else _ : PR St) with | .ok u => _ | .error e => _
        cases hb : isNum q with
        | false => exact ⟨rfl, .inr (.inl rfl)⟩
        | true => exact hpop _ (by decide) rfl (hlt isNum (by decide) hb)
      · show match (if (beg q.t).1 = 0 then _ else _ : PR St) with | .ok u => _ | .error e => _
        by_cases hk : (beg q.t).1 = 0
        · rw [if_pos hk]; exact ⟨rfl, .inr (.inl rfl)⟩
        · rw [if_neg hk]
          by_cases ho : 16 < o.length
          · rw [if_pos ho]; exact ⟨rfl, .inr (.inr rfl)⟩
          · rw [if_neg ho]
            have hl : i < L := by
              rcases hq with hq | hq
              · exact hq
              · exact absurd (by rw [hq]; decide) hk
            simp only [costS, costI, n8] at k2 h2
            refine ⟨?_, by simp⟩
            generalize (beg q.t).1 = k at *
            have hc : costS S ≤ 3 + 5 * n8 S := by simp at k2; omega
            have h2' : n8 S = o.length := by simpa using h2
            unfold insideM
            by_cases h45 : k = 4 ∨ k = 5
            · simp only [if_pos h45]
              refine ⟨?_, ?_, by simp; omega, by simp; omega⟩
              · simp [okS, costS, costI, n8, vItems]
                repeat' apply And.intro
                all_goals first | exact k1 | omega
              · simp [n8]; omega
            simp only [if_neg h45]
            by_cases h6 : k = 6
            · simp only [if_pos h6]
              refine ⟨?_, ?_, by simp; omega, by simp; omega⟩
              · simp [okS, costS, costI, n8, vItems]
                repeat' apply And.intro
                all_goals first | exact k1 | omega
              · simp [n8]; omega
            simp only [if_neg h6]
            by_cases h7 : k = 7
            · simp only [if_pos h7]
              refine ⟨?_, ?_, by simp; omega, by simp; omega⟩
              · simp [okS, costS, costI, n8, vItems]
                repeat' apply And.intro
                all_goals first | exact k1 | omega
              · simp [n8]; omega
            simp only [if_neg h7]
            by_cases h8 : k = 8
            · simp only [if_pos h8]
              refine ⟨?_, ?_, by simp; omega, by simp; omega⟩
              · simp [okS, costS, costI, n8, vItems]
                repeat' apply And.intro
                all_goals first | exact k1 | omega
              · simp [n8]; omega
            simp only [if_neg h8]
            exact ⟨k1, by simpa using h2', h3, by simp; omega⟩
      · show match (if isNm q then _ else _ : PR St) with | .ok u => _ | .error e => _
        cases hb : isNm q with
        | false => exact ⟨rfl, .inr (.inl rfl)⟩
        | true =>
          rw [if_pos rfl]
          have hl := hlt isNm (by decide) hb
          by_cases hd : 64 ≤ o.headD 0
          · rw [if_pos hd]; exact ⟨rfl, .inl rfl⟩
          · rw [if_neg hd]
            simp only [costS, costI, n8] at k2 h2
            have hS1 : 1 ≤ n8 S := by obtain ⟨x4, S4, rfl⟩ := k45 (by simp); simp [n8]; omega
            simp at k2 h2
            refine ⟨⟨?_, ?_, ?_, by show i + 1 ≤ L; omega⟩, by simp⟩
            · simp [okS, costS, costI, n8, vItems]
              repeat' apply And.intro
              all_goals first | exact k1 | omega
            · cases o with
              | nil => exfalso; simp at h2; omega
              | cons a o => simp [n8] at h2 ⊢; omega
            · cases o with
              | nil => simp
              | cons a o => simp at h3 ⊢; omega
      · show match (if isNum q then _ else _ : PR St) with | .ok u => _ | .error e => _
        cases hb : isNum q with
        | false => exact ⟨rfl, .inr (.inl rfl)⟩
        | true =>
          rw [if_pos rfl]
          have hl := hlt isNum (by decide) hb
          by_cases hd : 64 ≤ o.headD 0
          · rw [if_pos hd]; exact ⟨rfl, .inl rfl⟩
          · rw [if_neg hd]
            simp only [costS, costI, n8] at k2 h2
            have hS1 : 1 ≤ n8 S := by obtain ⟨x4, S4, rfl⟩ := k45 (by simp); simp [n8]; omega
            simp at k2 h2
            refine ⟨⟨?_, ?_, ?_, by show i + 1 ≤ L; omega⟩, by simp⟩
            · simp [okS, costS, costI, n8, vItems]
              repeat' apply And.intro
              all_goals first | exact k1 | omega
            · cases o with
              | nil => exfalso; simp at h2; omega
              | cons a o => simp [n8] at h2 ⊢; omega
            · cases o with
              | nil => simp
              | cons a o => simp at h3 ⊢; omega
      · show match (if isT ⟨#[44]⟩ q then _ else _ : PR St) with | .ok u => _ | .error e => _
        cases hb : isT ⟨#[44]⟩ q with
        | true =>
          rw [if_pos rfl]
          have hl := hlt (isT ⟨#[44]⟩) (by decide) hb
          obtain ⟨S2, rfl⟩ := k4 (.inl rfl)
          have kk := k1.2.2.1 rfl
          simp only [costS, costI, n8] at k2 h2
          simp at k2 h2
          refine ⟨⟨?_, ?_, h3, by show i + 1 ≤ L; omega⟩, by simp⟩
          · simp only [okS] at k1 ⊢
            simp [costS, costI, n8, vItems] at k1 ⊢
            repeat' apply And.intro
            all_goals first | exact k1 | omega | exact k1.1 | exact k1.2.1
          · simp [n8]; omega
        | false =>
          rw [if_neg (by decide)]
          cases hb2 : isT ⟨#[125]⟩ q with
          | false => exact ⟨rfl, .inr (.inl rfl)⟩
          | true => exact hpop _ (by decide) rfl (hlt (isT ⟨#[125]⟩) (by decide) hb2)
      · show match (if isT ⟨#[44]⟩ q then _ else _ : PR St) with | .ok u => _ | .error e => _
        cases hb : isT ⟨#[44]⟩ q with
        | true =>
          rw [if_pos rfl]
          have hl := hlt (isT ⟨#[44]⟩) (by decide) hb
          obtain ⟨S2, rfl⟩ := k4 (.inr rfl)
          have kk := k1.2.2.1 rfl
          simp only [costS, costI, n8] at k2 h2
          simp at k2 h2
          refine ⟨⟨?_, ?_, h3, by show i + 1 ≤ L; omega⟩, by simp⟩
          · simp only [okS] at k1 ⊢
            simp [costS, costI, n8, vItems] at k1 ⊢
            repeat' apply And.intro
            all_goals first | exact k1 | omega | exact k1.1 | exact k1.2.1
          · simp [n8]; omega
        | false =>
          rw [if_neg (by decide)]
          cases hb2 : isT ⟨#[125]⟩ q with
          | false => exact ⟨rfl, .inr (.inl rfl)⟩
          | true => exact hpop _ (by decide) rfl (hlt (isT ⟨#[125]⟩) (by decide) hb2)
      · show match (if isT ⟨#[44]⟩ q then _ else _ : PR St) with | .ok u => _ | .error e => _
        cases hb : isT ⟨#[44]⟩ q with
        | false => exact ⟨rfl, .inr (.inl rfl)⟩
        | true => exact hpop _ (by decide) rfl (hlt (isT ⟨#[44]⟩) (by decide) hb)
      · show match (if isT ⟨#[58]⟩ q then _ else _ : PR St) with | .ok u => _ | .error e => _
        cases hb : isT ⟨#[58]⟩ q with
        | false => exact ⟨rfl, .inr (.inl rfl)⟩
        | true => exact hpop _ (by decide) rfl (hlt (isT ⟨#[58]⟩) (by decide) hb)
      · show match (if isT ⟨#[59]⟩ q then _ else _ : PR St) with | .ok u => _ | .error e => _
        cases hb : isT ⟨#[59]⟩ q with
        | false => exact ⟨rfl, .inr (.inl rfl)⟩
        | true => exact hpop _ (by decide) rfl (hlt (isT ⟨#[59]⟩) (by decide) hb)
      · show match (if isT ⟨#[60]⟩ q then _ else _ : PR St) with | .ok u => _ | .error e => _
        cases hb : isT ⟨#[60]⟩ q with
        | false => exact ⟨rfl, .inr (.inl rfl)⟩
        | true => exact hpop _ (by decide) rfl (hlt (isT ⟨#[60]⟩) (by decide) hb)
      · show match (if isT ⟨#[61]⟩ q then _ else _ : PR St) with | .ok u => _ | .error e => _
        cases hb : isT ⟨#[61]⟩ q with
        | false => exact ⟨rfl, .inr (.inl rfl)⟩
        | true => exact hpop _ (by decide) rfl (hlt (isT ⟨#[61]⟩) (by decide) hb)
      · show match (if isT ⟨#[62]⟩ q then _ else _ : PR St) with | .ok u => _ | .error e => _
        cases hb : isT ⟨#[62]⟩ q with
        | false => exact ⟨rfl, .inr (.inl rfl)⟩
        | true => exact hpop _ (by decide) rfl (hlt (isT ⟨#[62]⟩) (by decide) hb)
      · show match (if isT ⟨#[123]⟩ q then _ else _ : PR St) with | .ok u => _ | .error e => _
        cases hb : isT ⟨#[123]⟩ q with
        | false => exact ⟨rfl, .inr (.inl rfl)⟩
        | true => exact hpop _ (by decide) rfl (hlt (isT ⟨#[123]⟩) (by decide) hb)
end Go.Proofs.Ytokepgimjdalaaa
