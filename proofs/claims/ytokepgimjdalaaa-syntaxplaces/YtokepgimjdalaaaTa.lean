/- The grammar by a stack of what must still come; it answers as the parser does. -/
import Derived.Test.YtokepgimjdalaaaSa
namespace Go.Proofs.Ytokepgimjdalaaa
set_option linter.unusedVariables false

/-- What must come, the next one first; the next token's number; how many parts each open type has; how many definitions. -/
structure St where
  s : List Nat
  i : Nat
  o : List Nat
  d : Nat
def insideM (k : Int) : List Nat :=
  if k = 4 ∨ k = 5 then [70, 3, 54, 2, 72, 8] else if k = 6 then [70, 3, 72, 8] else if k = 7 then [133, 5, 7, 8] else if k = 8 then [133, 4, 6, 8] else []
section
variable (qs : List Q)
def stepM (t : St) : PR St :=
  match t.s with
  | [] => .ok t
  | w :: S =>
    if w = 8 then .ok ⟨S, t.i, t.o.tail, t.d⟩
    else if w = 0 then
      (if t.i < qs.length then (if isT ⟨#[116, 121, 112, 101]⟩ (qAt qs t.i) then (if 256 ≤ t.d then .error (5, t.i) else .ok ⟨1 :: 71 :: 3 :: 69 :: 0 :: S, t.i + 1, t.o, t.d + 1⟩) else .error (60, t.i)) else .ok ⟨S, t.i, t.o, t.d⟩)
    else if w = 1 then (if isNm (qAt qs t.i) then .ok ⟨S, t.i + 1, t.o, t.d⟩ else .error (60, t.i))
    else if w = 2 then (if isNum (qAt qs t.i) then .ok ⟨S, t.i + 1, t.o, t.d⟩ else .error (60, t.i))
    else if w = 3 then
      (if (beg (qAt qs t.i).t).1 = 0 then .error (60, t.i) else if 16 < t.o.length then .error (61, t.i)
       else .ok ⟨insideM (beg (qAt qs t.i).t).1 ++ S, t.i + 1, if insideM (beg (qAt qs t.i).t).1 = [] then t.o else 0 :: t.o, t.d⟩)
    else if w = 4 then (if isNm (qAt qs t.i) then (if 64 ≤ t.o.headD 0 then .error (5, t.i) else .ok ⟨68 :: 3 :: S, t.i + 1, (t.o.headD 0 + 1) :: t.o.tail, t.d⟩) else .error (60, t.i))
    else if w = 5 then (if isNum (qAt qs t.i) then (if 64 ≤ t.o.headD 0 then .error (5, t.i) else .ok ⟨68 :: 3 :: S, t.i + 1, (t.o.headD 0 + 1) :: t.o.tail, t.d⟩) else .error (60, t.i))
    else if w = 6 then (if isT ⟨#[44]⟩ (qAt qs t.i) then .ok ⟨4 :: 6 :: S, t.i + 1, t.o, t.d⟩ else if isT ⟨#[125]⟩ (qAt qs t.i) then .ok ⟨S, t.i + 1, t.o, t.d⟩ else .error (60, t.i))
    else if w = 7 then (if isT ⟨#[44]⟩ (qAt qs t.i) then .ok ⟨5 :: 7 :: S, t.i + 1, t.o, t.d⟩ else if isT ⟨#[125]⟩ (qAt qs t.i) then .ok ⟨S, t.i + 1, t.o, t.d⟩ else .error (60, t.i))
    else (if isT ⟨#[UInt8.ofNat (w - 10)]⟩ (qAt qs t.i) then .ok ⟨S, t.i + 1, t.o, t.d⟩ else .error (60, t.i))
def runM : Nat → St → PR St
  | 0, t => .ok t
  | n + 1, t => bnd (stepM qs t) (runM n)
def Ends (t : St) (r : PR St) : Prop := ∃ n, runM qs n t = r
end
section
variable {qs : List Q}
theorem runM_add : ∀ (n m : Nat) (t : St), runM qs (n + m) t = bnd (runM qs n t) (runM qs m)
  | 0, m, t => by rw [Nat.zero_add]; rfl
  | n + 1, m, t => by
    rw [Nat.add_right_comm, runM, runM]
    cases h : stepM qs t with
    | ok u => rw [bnd_ok, bnd_ok]; exact runM_add n m u
    | error e => rfl
theorem Ends.refl (t : St) : Ends qs t (.ok t) := ⟨0, rfl⟩
theorem Ends.trans {t u : St} {r : PR St} (h : Ends qs t (.ok u)) (k : Ends qs u r) : Ends qs t r := by
  obtain ⟨n, hn⟩ := h
  obtain ⟨m, hm⟩ := k
  exact ⟨n + m, by rw [runM_add, hn, bnd_ok, hm]⟩
theorem Ends.step {t u : St} {r : PR St} (h : stepM qs t = .ok u) (k : Ends qs u r) : Ends qs t r := by
  obtain ⟨m, hm⟩ := k
  exact ⟨m + 1, by rw [runM, h, bnd_ok, hm]⟩
theorem Ends.stop {t : St} {e : Nat × Nat} (h : stepM qs t = .error e) : Ends qs t (.error e) := ⟨1, by rw [runM, h]; rfl⟩
/-- What comes of a part's answer. -/
def resM {α : Type} (r : PR α) (f : α → St) : PR St := bnd r (fun a => .ok (f a))
theorem ends_bnd {α β : Type} {t : St} {r : PR α} {g : α → PR β} {f : α → St} {k : β → St} (h : Ends qs t (resM r f)) (h2 : ∀ a, r = .ok a → Ends qs (f a) (resM (g a) k)) : Ends qs t (resM (bnd r g) k) := by
  cases r with
  | ok a => exact h.trans (h2 a rfl)
  | error e => exact h
theorem ends_txt (w b : Nat) (hw : 10 < w) (hb : b = w - 10) (S : List Nat) (i : Nat) (o : List Nat) (d : Nat) : Ends qs ⟨w :: S, i, o, d⟩ (resM (txt qs ⟨#[UInt8.ofNat b]⟩ i) (fun j => ⟨S, j, o, d⟩)) := by
  have hs : stepM qs ⟨w :: S, i, o, d⟩ = (if isT ⟨#[UInt8.ofNat (w - 10)]⟩ (qAt qs i) then .ok ⟨S, i + 1, o, d⟩ else .error (60, i)) := by
    simp only [stepM]
    rw [if_neg (by omega), if_neg (by omega), if_neg (by omega), if_neg (by omega), if_neg (by omega), if_neg (by omega), if_neg (by omega), if_neg (by omega), if_neg (by omega)]
  subst hb
  unfold txt tak
  cases h : isT ⟨#[UInt8.ofNat (w - 10)]⟩ (qAt qs i) with
  | true => rw [h] at hs; exact .step hs (.refl _)
  | false => rw [h] at hs; exact .stop hs
theorem ends_num (S : List Nat) (i : Nat) (o : List Nat) (d : Nat) : Ends qs ⟨2 :: S, i, o, d⟩ (resM (tak qs isNum i) (fun j => ⟨S, j, o, d⟩)) := by
  have hs : stepM qs ⟨2 :: S, i, o, d⟩ = (if isNum (qAt qs i) then .ok ⟨S, i + 1, o, d⟩ else .error (60, i)) := rfl
  unfold tak
  cases h : isNum (qAt qs i) with
  | true => rw [h] at hs; exact .step hs (.refl _)
  | false => rw [h] at hs; exact .stop hs
theorem ends_nm (S : List Nat) (i : Nat) (o : List Nat) (d : Nat) : Ends qs ⟨1 :: S, i, o, d⟩ (resM (tak qs isNm i) (fun j => ⟨S, j, o, d⟩)) := by
  have hs : stepM qs ⟨1 :: S, i, o, d⟩ = (if isNm (qAt qs i) then .ok ⟨S, i + 1, o, d⟩ else .error (60, i)) := rfl
  unfold tak
  cases h : isNm (qAt qs i) with
  | true => rw [h] at hs; exact .step hs (.refl _)
  | false => rw [h] at hs; exact .stop hs
/-- A type is read as the parser reads it. -/
def NodeM (qs : List Q) (f : Nat) : Prop := ∀ (x : Nd) (S : List Nat) (i : Nat) (o : List Nat) (d : Nat), o.length + f = 17 → Ends qs ⟨3 :: S, i, o, d⟩ (resM (nodeP qs f x i) (fun r => ⟨S, r.2, o, d⟩))
theorem ends_part {f : Nat} (hN : NodeM qs f) (x : Nd) (S : List Nat) (i : Nat) (o : List Nat) (d : Nat) (ho : o.length + f = 17) : Ends qs ⟨68 :: 3 :: S, i, o, d⟩ (resM (partP qs (nodeP qs f) x true i) (fun r => ⟨S, r.2, o, d⟩)) := by
  unfold partP
  rw [if_pos rfl]
  exact ends_bnd (ends_txt 68 58 (by omega) rfl _ i o d) (fun j _ => hN x S j o d ho)
theorem ends_arm {f : Nat} (hN : NodeM qs f) (S : List Nat) (c i : Nat) (o : List Nat) (d : Nat) (ho : o.length + 1 + f = 17) : Ends qs ⟨5 :: S, i, c :: o, d⟩ (resM (armP qs (nodeP qs f) c i) (fun r => ⟨S, r.2, (c + 1) :: o, d⟩)) := by
  have hs : stepM qs ⟨5 :: S, i, c :: o, d⟩ = (if isNum (qAt qs i) then (if 64 ≤ c then .error (5, i) else .ok ⟨68 :: 3 :: S, i + 1, (c + 1) :: o, d⟩) else .error (60, i)) := rfl
  unfold armP tak
  cases h : isNum (qAt qs i) with
  | false => rw [h] at hs; exact .stop hs
  | true =>
    rw [h, if_pos rfl] at hs
    rw [if_pos rfl, bnd_ok]
    by_cases hc : 64 ≤ c
    · rw [if_pos hc] at hs
      unfold partP
      rw [decide_eq_false (by omega), if_neg (by decide)]
      exact .stop hs
    · rw [if_neg hc] at hs
      rw [decide_eq_true (by omega)]
      exact .step hs (ends_part hN _ S _ _ d (by simp; omega))
theorem ends_field {f : Nat} (hN : NodeM qs f) (S : List Nat) (c i : Nat) (o : List Nat) (d : Nat) (ho : o.length + 1 + f = 17) : Ends qs ⟨4 :: S, i, c :: o, d⟩ (resM (fieldP qs (nodeP qs f) c i) (fun r => ⟨S, r.2, (c + 1) :: o, d⟩)) := by
  have hs : stepM qs ⟨4 :: S, i, c :: o, d⟩ = (if isNm (qAt qs i) then (if 64 ≤ c then .error (5, i) else .ok ⟨68 :: 3 :: S, i + 1, (c + 1) :: o, d⟩) else .error (60, i)) := rfl
  unfold fieldP tak
  cases h : isNm (qAt qs i) with
  | false => rw [h] at hs; exact .stop hs
  | true =>
    rw [h, if_pos rfl] at hs
    rw [if_pos rfl, bnd_ok]
    by_cases hc : 64 ≤ c
    · rw [if_pos hc] at hs
      unfold partP
      rw [decide_eq_false (by omega), if_neg (by decide)]
      exact .stop hs
    · rw [if_neg hc] at hs
      rw [decide_eq_true (by omega)]
      exact .step hs (ends_part hN _ S _ _ d (by simp; omega))
theorem one_lt {sub : Nd → Nat → PR (List Nd × Nat)} {c i : Nat} {y : List Nd × Nat} (h : armP qs sub c i = .ok y ∨ fieldP qs sub c i = .ok y) : c < 64 := by
  have key : ∀ (x : Nd) (j : Nat) (y : List Nd × Nat), partP qs sub x (decide (c < 64)) j = .ok y → c < 64 := fun x j y h => by
    unfold partP at h
    by_cases hc : c < 64
    · exact hc
    · rw [decide_eq_false hc, if_neg (by decide)] at h
      cases h
  rcases h with h | h
  · unfold armP at h
    obtain ⟨a, _, h2⟩ := bnd_is h
    exact key _ _ _ h2
  · unfold fieldP at h
    obtain ⟨a, _, h2⟩ := bnd_is h
    exact key _ _ _ h2
theorem ends_more (one : Nat → Nat → PR (List Nd × Nat)) (a b : Nat) (hab : a = 5 ∧ b = 7 ∨ a = 4 ∧ b = 6) (o : List Nat) (d : Nat) (h1 : ∀ S c i, Ends qs ⟨a :: S, i, c :: o, d⟩ (resM (one c i) (fun r => ⟨S, r.2, (c + 1) :: o, d⟩))) (h2 : ∀ c i y, one c i = .ok y → c < 64) (S : List Nat) :
    ∀ (f c : Nat) (N : List Nd) (i : Nat), f + c = 65 → c ≤ 64 → Ends qs ⟨b :: S, i, c :: o, d⟩ (resM (moreP qs one f c N i) (fun r => ⟨S, r.2.2, r.2.1 :: o, d⟩)) := by
  intro f
  induction f with
  | zero => intro c N i hf hc; omega
  | succ f ih =>
    intro c N i hf hc
    have hs : stepM qs ⟨b :: S, i, c :: o, d⟩ = (if isT ⟨#[44]⟩ (qAt qs i) then .ok ⟨a :: b :: S, i + 1, c :: o, d⟩ else if isT ⟨#[125]⟩ (qAt qs i) then .ok ⟨S, i + 1, c :: o, d⟩ else .error (60, i)) := by
      rcases hab with ⟨rfl, rfl⟩ | ⟨rfl, rfl⟩ <;> rfl
    unfold moreP
    cases h : isT ⟨#[44]⟩ (qAt qs i) with
    | true =>
      rw [h, if_pos rfl] at hs
      rw [if_pos rfl]
      refine .step hs (ends_bnd (h1 (b :: S) c (i + 1)) (fun y hy => ?_))
      have := h2 c (i + 1) y hy
      exact ih (c + 1) _ _ (by omega) (by omega)
    | false =>
      rw [h, if_neg (by decide)] at hs
      rw [if_neg (by decide)]
      unfold txt tak
      cases h3 : isT ⟨#[125]⟩ (qAt qs i) with
      | true => rw [h3] at hs; exact .step hs (.refl _)
      | false => rw [h3] at hs; exact .stop hs
theorem ends_parts (one : Nat → Nat → PR (List Nd × Nat)) (a b : Nat) (hab : a = 5 ∧ b = 7 ∨ a = 4 ∧ b = 6) (o : List Nat) (d : Nat) (h1 : ∀ S c i, Ends qs ⟨a :: S, i, c :: o, d⟩ (resM (one c i) (fun r => ⟨S, r.2, (c + 1) :: o, d⟩))) (h2 : ∀ c i y, one c i = .ok y → c < 64) (S : List Nat) (i : Nat) :
    Ends qs ⟨133 :: a :: b :: S, i, 0 :: o, d⟩ (resM (partsP qs one i) (fun r => ⟨S, r.2.2, r.2.1 :: o, d⟩)) := by
  unfold partsP
  refine ends_bnd (ends_txt 133 123 (by omega) rfl _ i _ d) (fun j _ => ends_bnd (h1 (b :: S) 0 j) (fun y _ => ?_))
  exact ends_more one a b hab o d h1 h2 S 64 1 y.1 y.2 (by omega) (by omega)
theorem ends_shut {α : Type} {t : St} {r : PR α} {f : α → St} {k : α → St} (h : Ends qs t (resM r f)) (hs : ∀ a, stepM qs (f a) = .ok (k a)) : Ends qs t (resM r k) := by
  cases r with
  | ok a => exact h.trans (.step (hs a) (.refl _))
  | error e => exact h
theorem node_m : ∀ f, NodeM qs f := by
  intro f
  induction f with
  | zero =>
    intro x S i o d ho
    have hs : stepM qs ⟨3 :: S, i, o, d⟩ = (if (beg (qAt qs i).t).1 = 0 then .error (60, i) else if 16 < o.length then .error (61, i) else .ok ⟨insideM (beg (qAt qs i).t).1 ++ S, i + 1, if insideM (beg (qAt qs i).t).1 = [] then o else 0 :: o, d⟩) := rfl
    unfold nodeP
    by_cases hk : (beg (qAt qs i).t).1 = 0
    · rw [if_pos hk] at hs ⊢; exact .stop hs
    · rw [if_neg hk] at hs ⊢
      rw [if_pos (by omega)] at hs
      exact .stop hs
  | succ f ih =>
    intro x S i o d ho
    have hs : stepM qs ⟨3 :: S, i, o, d⟩ = (if (beg (qAt qs i).t).1 = 0 then .error (60, i) else if 16 < o.length then .error (61, i) else .ok ⟨insideM (beg (qAt qs i).t).1 ++ S, i + 1, if insideM (beg (qAt qs i).t).1 = [] then o else 0 :: o, d⟩) := rfl
    unfold nodeP
    by_cases hk : (beg (qAt qs i).t).1 = 0
    · rw [if_pos hk] at hs ⊢; exact .stop hs
    rw [if_neg hk] at hs ⊢
    rw [if_neg (by omega)] at hs
    generalize (beg (qAt qs i).t).1 = k at *
    generalize (beg (qAt qs i).t).2 = n at *
    unfold bodyP
    have hI : ∀ S i d, Ends qs ⟨3 :: S, i, 0 :: o, d⟩ (resM (nodeP qs f { nd0 with a := i } i) (fun r => ⟨S, r.2, 0 :: o, d⟩)) := fun S i d => ih _ S i _ d (by simp; omega)
    by_cases h9 : k = 9
    · subst h9
      exact .step hs (.refl _)
    rw [if_neg h9]
    by_cases h45 : k = 4 ∨ k = 5
    · rw [if_pos h45]
      have hin : insideM k = [70, 3, 54, 2, 72, 8] := by unfold insideM; rw [if_pos h45]
      rw [hin, if_neg (by simp)] at hs
      refine .step hs ?_
      refine ends_bnd (f := fun r => (⟨8 :: S, r.2.2, 0 :: o, d⟩ : St)) ?_ (fun y _ => .step rfl (.refl _))
      unfold itemsP
      refine ends_bnd (ends_txt 70 60 (by omega) rfl _ _ _ d) (fun i1 _ => ends_bnd (hI _ i1 d) (fun y _ => ends_bnd (ends_txt 54 44 (by omega) rfl _ _ _ d) (fun i3 _ => ends_bnd (ends_num _ i3 _ d) (fun i4 _ => ends_bnd (ends_txt 72 62 (by omega) rfl _ i4 _ d) (fun i5 _ => .refl _)))))
    rw [if_neg h45]
    by_cases h6 : k = 6
    · rw [if_pos h6]
      have hin : insideM k = [70, 3, 72, 8] := by unfold insideM; rw [if_neg h45, if_pos h6]
      rw [hin, if_neg (by simp)] at hs
      refine .step hs ?_
      refine ends_bnd (f := fun r => (⟨8 :: S, r.2, 0 :: o, d⟩ : St)) ?_ (fun y _ => .step rfl (.refl _))
      unfold optionP
      exact ends_bnd (ends_txt 70 60 (by omega) rfl _ _ _ d) (fun i1 _ => ends_bnd (hI _ i1 d) (fun y _ => ends_bnd (ends_txt 72 62 (by omega) rfl _ _ _ d) (fun i3 _ => .refl _)))
    rw [if_neg h6]
    by_cases h7 : k = 7
    · rw [if_pos h7]
      have hin : insideM k = [133, 5, 7, 8] := by unfold insideM; rw [if_neg h45, if_neg h6, if_pos h7]
      rw [hin, if_neg (by simp)] at hs
      refine .step hs ?_
      exact ends_bnd (ends_parts (armP qs (nodeP qs f)) 5 7 (.inl ⟨rfl, rfl⟩) o d (fun S c i => ends_arm ih S c i o d (by omega)) (fun c i y h => one_lt (.inl h)) (8 :: S) (i + 1)) (fun y _ => .step rfl (.refl _))
    rw [if_neg h7]
    by_cases h8 : k = 8
    · rw [if_pos h8]
      have hin : insideM k = [133, 4, 6, 8] := by unfold insideM; rw [if_neg h45, if_neg h6, if_neg h7, if_pos h8]
      rw [hin, if_neg (by simp)] at hs
      refine .step hs ?_
      exact ends_bnd (ends_parts (fieldP qs (nodeP qs f)) 4 6 (.inr ⟨rfl, rfl⟩) o d (fun S c i => ends_field ih S c i o d (by omega)) (fun c i y h => one_lt (.inr h)) (8 :: S) (i + 1)) (fun y _ => .step rfl (.refl _))
    rw [if_neg h8]
    have hin : insideM k = [] := by unfold insideM; rw [if_neg h45, if_neg h6, if_neg h7, if_neg h8]
    rw [hin, if_pos rfl] at hs
    exact .step hs (.refl _)
/-- The whole: the machine fails just as the parser does. -/
theorem src_m : ∀ (f : Nat) (D : List Df) (i : Nat), f + D.length = 257 → D.length ≤ 256 → ∃ t, t.s = [] ∧ Ends qs ⟨[0], i, [], D.length⟩ (resM (srcP qs f D i) (fun _ => t)) := by
  intro f
  induction f with
  | zero => intro D i h1 h2; omega
  | succ f ih =>
    intro D i h1 h2
    have hs : stepM qs ⟨[0], i, [], D.length⟩ = (if i < qs.length then (if isT ⟨#[116, 121, 112, 101]⟩ (qAt qs i) then (if 256 ≤ D.length then .error (5, i) else .ok ⟨[1, 71, 3, 69, 0], i + 1, [], D.length + 1⟩) else .error (60, i)) else .ok ⟨[], i, [], D.length⟩) := rfl
    unfold srcP
    by_cases hi : i < qs.length
    · rw [if_pos hi] at hs ⊢
      unfold txt tak
      cases ht : isT ⟨#[116, 121, 112, 101]⟩ (qAt qs i) with
      | false =>
        rw [ht] at hs
        exact ⟨⟨[], 0, [], 0⟩, rfl, .stop hs⟩
      | true =>
        rw [ht, if_pos rfl] at hs
        rw [if_pos rfl, bnd_ok]
        by_cases hf : f = 0
        · rw [if_pos (by omega)] at hs
          rw [if_pos hf]
          exact ⟨⟨[], 0, [], 0⟩, rfl, .stop hs⟩
        · rw [if_neg (by omega)] at hs
          rw [if_neg hf]
          have hD : Ends qs ⟨[1, 71, 3, 69, 0], i + 1, [], D.length + 1⟩ (resM (defP qs (i + 1)) (fun r => ⟨[0], r.2, [], D.length + 1⟩)) := by
            unfold defP
            exact ends_bnd (ends_nm _ _ _ _) (fun i1 _ => ends_bnd (ends_txt 71 61 (by omega) rfl _ _ _ _) (fun i2 _ => ends_bnd (node_m 17 _ _ _ _ _ rfl) (fun y _ => ends_bnd (ends_txt 69 59 (by omega) rfl _ _ _ _) (fun i4 _ => .refl _))))
          cases hd : defP qs (i + 1) with
          | error e =>
            rw [hd] at hD
            exact ⟨⟨[], 0, [], 0⟩, rfl, .step hs hD⟩
          | ok y =>
            rw [hd] at hD
            obtain ⟨t, ht, hE⟩ := ih (D ++ [y.1]) y.2 (by simp; omega) (by simp; omega)
            refine ⟨t, ht, .step hs (Ends.trans hD ?_)⟩
            rw [List.length_append] at hE
            exact hE
    · rw [if_neg hi] at hs ⊢
      exact ⟨_, rfl, .step hs (.refl _)⟩
end
end Go.Proofs.Ytokepgimjdalaaa
