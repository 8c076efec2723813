import Derived.Test.YtokepgimjdalaaaSa
import Derived.Test.YtokepgimjdalaaaSp
import Derived.Test.YtokepgimjdalaaaUb
import Derived.Test.YtokepgimjdalaaaUd

/- The grammar by a stack of what must still come; it answers as the parser does. -/
namespace Go.Proofs.Ytokepgimjdalaaa
set_option linter.unusedVariables false

/-- What must come, the next one first; the next token's number; how many parts each open type has; how many definitions. -/
structure St where
  s : List Nat
  i : Nat
  o : List Nat
  d : Nat
def insideM (k : Int) : List Nat :=
  if k = 4 ∨ k = 5 then [70, 3, 54, 2, 72, 8] else if k = 6 then [70, 3, 72, 8] else if k = 7 then [133, 5, 7, 8] else if k = 8 then [133, 4, 6, 8] else []
section
variable (qs : List Q)
def stepM (t : St) : PR St :=
  match t.s with
  | [] => .ok t
  | w :: S =>
    if w = 8 then .ok ⟨S, t.i, t.o.tail, t.d⟩
    else if w = 0 then
      (if t.i < qs.length then (if isT ⟨#[116, 121, 112, 101]⟩ (qAt qs t.i) then (if 256 ≤ t.d then .error (5, t.i) else .ok ⟨1 :: 71 :: 3 :: 69 :: 0 :: S, t.i + 1, t.o, t.d + 1⟩) else .error (60, t.i)) else .ok ⟨S, t.i, t.o, t.d⟩)
    else if w = 1 then (if isNm (qAt qs t.i) then .ok ⟨S, t.i + 1, t.o, t.d⟩ else .error (60, t.i))
    else if w = 2 then (if isNum (qAt qs t.i) then .ok ⟨S, t.i + 1, t.o, t.d⟩ else .error (60, t.i))
    else if w = 3 then
      (if (beg (qAt qs t.i).t).1 = 0 then .error (60, t.i) else if 16 < t.o.length then .error (61, t.i)
       else .ok ⟨insideM (beg (qAt qs t.i).t).1 ++ S, t.i + 1, if insideM (beg (qAt qs t.i).t).1 = [] then t.o else 0 :: t.o, t.d⟩)
    else if w = 4 then (if isNm (qAt qs t.i) then (if 64 ≤ t.o.headD 0 then .error (5, t.i) else .ok ⟨68 :: 3 :: S, t.i + 1, (t.o.headD 0 + 1) :: t.o.tail, t.d⟩) else .error (60, t.i))
    else if w = 5 then (if isNum (qAt qs t.i) then (if 64 ≤ t.o.headD 0 then .error (5, t.i) else .ok ⟨68 :: 3 :: S, t.i + 1, (t.o.headD 0 + 1) :: t.o.tail, t.d⟩) else .error (60, t.i))
    else if w = 6 then (if isT ⟨#[44]⟩ (qAt qs t.i) then .ok ⟨4 :: 6 :: S, t.i + 1, t.o, t.d⟩ else if isT ⟨#[125]⟩ (qAt qs t.i) then .ok ⟨S, t.i + 1, t.o, t.d⟩ else .error (60, t.i))
    else if w = 7 then (if isT ⟨#[44]⟩ (qAt qs t.i) then .ok ⟨5 :: 7 :: S, t.i + 1, t.o, t.d⟩ else if isT ⟨#[125]⟩ (qAt qs t.i) then .ok ⟨S, t.i + 1, t.o, t.d⟩ else .error (60, t.i))
    else (if isT ⟨#[UInt8.ofNat (w - 10)]⟩ (qAt qs t.i) then .ok ⟨S, t.i + 1, t.o, t.d⟩ else .error (60, t.i))
def runM : Nat → St → PR St
  | 0, t => .ok t
  | n + 1, t => bnd (stepM qs t) (runM n)
def Ends (t : St) (r : PR St) : Prop := ∃ n, runM qs n t = r
end
section
variable {qs : List Q}
theorem runM_add : ∀ (n m : Nat) (t : St), runM qs (n + m) t = bnd (runM qs n t) (runM qs m)
  | 0, m, t => by rw [Nat.zero_add]; rfl
  | n + 1, m, t => by
    rw [Nat.add_right_comm, runM, runM]
    cases h : stepM qs t with
    | ok u => rw [bnd_ok, bnd_ok]; exact runM_add n m u
    | error e => rfl
theorem Ends.refl (t : St) : Ends qs t (.ok t) := ⟨0, rfl⟩
theorem Ends.trans {t u : St} {r : PR St} (h : Ends qs t (.ok u)) (k : Ends qs u r) : Ends qs t r := by
  obtain ⟨n, hn⟩ := h
  obtain ⟨m, hm⟩ := k
  exact ⟨n + m, by rw [runM_add, hn, bnd_ok, hm]⟩
theorem Ends.step {t u : St} {r : PR St} (h : stepM qs t = .ok u) (k : Ends qs u r) : Ends qs t r := by
  obtain ⟨m, hm⟩ := k
  exact ⟨m + 1, by rw [runM, h, bnd_ok, hm]⟩
theorem Ends.stop {t : St} {e : Nat × Nat} (h : stepM qs t = .error e) : Ends qs t (.error e) := ⟨1, by rw [runM, h]; rfl⟩
/-- What comes of a part's answer. -/
def resM {α : Type} (r : PR α) (f : α → St) : PR St := bnd r (fun a => .ok (f a))
theorem ends_bnd {α β : Type} {t : St} {r : PR α} {g : α → PR β} {f : α → St} {k : β → St} (h : Ends qs t (resM r f)) (h2 : ∀ a, r = .ok a → Ends qs (f a) (resM (g a) k)) : Ends qs t (resM (bnd r g) k) := by
  cases r with
  | ok a => exact h.trans (h2 a rfl)
  | error e => exact h
theorem ends_txt (w b : Nat) (hw : 10 < w) (hb : b = w - 10) (S : List Nat) (i : Nat) (o : List Nat) (d : Nat) : Ends qs ⟨w :: S, i, o, d⟩ (resM (txt qs ⟨#[UInt8.ofNat b]⟩ i) (fun j => ⟨S, j, o, d⟩)) := by
  have hs : stepM qs ⟨w :: S, i, o, d⟩ = (if isT ⟨#[UInt8.ofNat (w - 10)]⟩ (qAt qs i) then .ok ⟨S, i + 1, o, d⟩ else .error (60, i)) := by
    simp only [stepM]
    rw [if_neg (by omega), if_neg (by omega), if_neg (by omega), if_neg (by omega), if_neg (by omega), if_neg (by omega), if_neg (by omega), if_neg (by omega), if_neg (by omega)]
  subst hb
  unfold txt tak
  cases h : isT ⟨#[UInt8.ofNat (w - 10)]⟩ (qAt qs i) with
  | true => rw [h] at hs; exact .step hs (.refl _)
  | false => rw [h] at hs; exact .stop hs
theorem ends_num (S : List Nat) (i : Nat) (o : List Nat) (d : Nat) : Ends qs ⟨2 :: S, i, o, d⟩ (resM (tak qs isNum i) (fun j => ⟨S, j, o, d⟩)) := by
  have hs : stepM qs ⟨2 :: S, i, o, d⟩ = (if isNum (qAt qs i) then .ok ⟨S, i + 1, o, d⟩ else .error (60, i)) := rfl
  unfold tak
  cases h : isNum (qAt qs i) with
  | true => rw [h] at hs; exact .step hs (.refl _)
  | false => rw [h] at hs; exact .stop hs
theorem ends_nm (S : List Nat) (i : Nat) (o : List Nat) (d : Nat) : Ends qs ⟨1 :: S, i, o, d⟩ (resM (tak qs isNm i) (fun j => ⟨S, j, o, d⟩)) := by
  have hs : stepM qs ⟨1 :: S, i, o, d⟩ = (if isNm (qAt qs i) then .ok ⟨S, i + 1, o, d⟩ else .error (60, i)) := rfl
  unfold tak
  cases h : isNm (qAt qs i) with
  | true => rw [h] at hs; exact .step hs (.refl _)
  | false => rw [h] at hs; exact .stop hs
/-- A type is read as the parser reads it. -/
def NodeM (qs : List Q) (f : Nat) : Prop := ∀ (x : Nd) (S : List Nat) (i : Nat) (o : List Nat) (d : Nat), o.length + f = 17 → Ends qs ⟨3 :: S, i, o, d⟩ (resM (nodeP qs f x i) (fun r => ⟨S, r.2, o, d⟩))
theorem ends_part {f : Nat} (hN : NodeM qs f) (x : Nd) (S : List Nat) (i : Nat) (o : List Nat) (d : Nat) (ho : o.length + f = 17) : Ends qs ⟨68 :: 3 :: S, i, o, d⟩ (resM (partP qs (nodeP qs f) x true i) (fun r => ⟨S, r.2, o, d⟩)) := by
  unfold partP
  rw [if_pos rfl]
  exact ends_bnd (ends_txt 68 58 (by omega) rfl _ i o d) (fun j _ => hN x S j o d ho)
theorem ends_arm {f : Nat} (hN : NodeM qs f) (S : List Nat) (c i : Nat) (o : List Nat) (d : Nat) (ho : o.length + 1 + f = 17) : Ends qs ⟨5 :: S, i, c :: o, d⟩ (resM (armP qs (nodeP qs f) c i) (fun r => ⟨S, r.2, (c + 1) :: o, d⟩)) := by
  have hs : stepM qs ⟨5 :: S, i, c :: o, d⟩ = (if isNum (qAt qs i) then (if 64 ≤ c then .error (5, i) else .ok ⟨68 :: 3 :: S, i + 1, (c + 1) :: o, d⟩) else .error (60, i)) := rfl
  unfold armP tak
  cases h : isNum (qAt qs i) with
  | false => rw [h] at hs; exact .stop hs
  | true =>
    rw [h, if_pos rfl] at hs
    rw [if_pos rfl, bnd_ok]
    by_cases hc : 64 ≤ c
    · rw [if_pos hc] at hs
      unfold partP
      rw [decide_eq_false (by omega), if_neg (by decide)]
      exact .stop hs
    · rw [if_neg hc] at hs
      rw [decide_eq_true (by omega)]
      exact .step hs (ends_part hN _ S _ _ d (by simp; omega))
theorem ends_field {f : Nat} (hN : NodeM qs f) (S : List Nat) (c i : Nat) (o : List Nat) (d : Nat) (ho : o.length + 1 + f = 17) : Ends qs ⟨4 :: S, i, c :: o, d⟩ (resM (fieldP qs (nodeP qs f) c i) (fun r => ⟨S, r.2, (c + 1) :: o, d⟩)) := by
  have hs : stepM qs ⟨4 :: S, i, c :: o, d⟩ = (if isNm (qAt qs i) then (if 64 ≤ c then .error (5, i) else .ok ⟨68 :: 3 :: S, i + 1, (c + 1) :: o, d⟩) else .error (60, i)) := rfl
  unfold fieldP tak
  cases h : isNm (qAt qs i) with
  | false => rw [h] at hs; exact .stop hs
  | true =>
    rw [h, if_pos rfl] at hs
    rw [if_pos rfl, bnd_ok]
    by_cases hc : 64 ≤ c
    · rw [if_pos hc] at hs
      unfold partP
      rw [decide_eq_false (by omega), if_neg (by decide)]
      exact .stop hs
    · rw [if_neg hc] at hs
      rw [decide_eq_true (by omega)]
      exact .step hs (ends_part hN _ S _ _ d (by simp; omega))
theorem one_lt {sub : Nd → Nat → PR (List Nd × Nat)} {c i : Nat} {y : List Nd × Nat} (h : armP qs sub c i = .ok y ∨ fieldP qs sub c i = .ok y) : c < 64 := by
  have key : ∀ (x : Nd) (j : Nat) (y : List Nd × Nat), partP qs sub x (decide (c < 64)) j = .ok y → c < 64 := fun x j y h => by
    unfold partP at h
    by_cases hc : c < 64
    · exact hc
    · rw [decide_eq_false hc, if_neg (by decide)] at h
      cases h
  rcases h with h | h
  · unfold armP at h
    obtain ⟨a, _, h2⟩ := bnd_is h
    exact key _ _ _ h2
  · unfold fieldP at h
    obtain ⟨a, _, h2⟩ := bnd_is h
    exact key _ _ _ h2
theorem ends_more (one : Nat → Nat → PR (List Nd × Nat)) (a b : Nat) (hab : a = 5 ∧ b = 7 ∨ a = 4 ∧ b = 6) (o : List Nat) (d : Nat) (h1 : ∀ S c i, Ends qs ⟨a :: S, i, c :: o, d⟩ (resM (one c i) (fun r => ⟨S, r.2, (c + 1) :: o, d⟩))) (h2 : ∀ c i y, one c i = .ok y → c < 64) (S : List Nat) :
    ∀ (f c : Nat) (N : List Nd) (i : Nat), f + c = 65 → c ≤ 64 → Ends qs ⟨b :: S, i, c :: o, d⟩ (resM (moreP qs one f c N i) (fun r => ⟨S, r.2.2, r.2.1 :: o, d⟩)) := by
  intro f
  induction f with
  | zero => intro c N i hf hc; omega
  | succ f ih =>
    intro c N i hf hc
    have hs : stepM qs ⟨b :: S, i, c :: o, d⟩ = (if isT ⟨#[44]⟩ (qAt qs i) then .ok ⟨a :: b :: S, i + 1, c :: o, d⟩ else if isT ⟨#[125]⟩ (qAt qs i) then .ok ⟨S, i + 1, c :: o, d⟩ else .error (60, i)) := by
      rcases hab with ⟨rfl, rfl⟩ | ⟨rfl, rfl⟩ <;> rfl
    unfold moreP
    cases h : isT ⟨#[44]⟩ (qAt qs i) with
    | true =>
      rw [h, if_pos rfl] at hs
      rw [if_pos rfl]
      refine .step hs (ends_bnd (h1 (b :: S) c (i + 1)) (fun y hy => ?_))
      have := h2 c (i + 1) y hy
      exact ih (c + 1) _ _ (by omega) (by omega)
    | false =>
      rw [h, if_neg (by decide)] at hs
      rw [if_neg (by decide)]
      unfold txt tak
      cases h3 : isT ⟨#[125]⟩ (qAt qs i) with
      | true => rw [h3] at hs; exact .step hs (.refl _)
      | false => rw [h3] at hs; exact .stop hs
theorem ends_parts (one : Nat → Nat → PR (List Nd × Nat)) (a b : Nat) (hab : a = 5 ∧ b = 7 ∨ a = 4 ∧ b = 6) (o : List Nat) (d : Nat) (h1 : ∀ S c i, Ends qs ⟨a :: S, i, c :: o, d⟩ (resM (one c i) (fun r => ⟨S, r.2, (c + 1) :: o, d⟩))) (h2 : ∀ c i y, one c i = .ok y → c < 64) (S : List Nat) (i : Nat) :
    Ends qs ⟨133 :: a :: b :: S, i, 0 :: o, d⟩ (resM (partsP qs one i) (fun r => ⟨S, r.2.2, r.2.1 :: o, d⟩)) := by
  unfold partsP
  refine ends_bnd (ends_txt 133 123 (by omega) rfl _ i _ d) (fun j _ => ends_bnd (h1 (b :: S) 0 j) (fun y _ => ?_))
  exact ends_more one a b hab o d h1 h2 S 64 1 y.1 y.2 (by omega) (by omega)
theorem ends_shut {α : Type} {t : St} {r : PR α} {f : α → St} {k : α → St} (h : Ends qs t (resM r f)) (hs : ∀ a, stepM qs (f a) = .ok (k a)) : Ends qs t (resM r k) := by
  cases r with
  | ok a => exact h.trans (.step (hs a) (.refl _))
  | error e => exact h
theorem node_m : ∀ f, NodeM qs f := by
  intro f
  induction f with
  | zero =>
    intro x S i o d ho
    have hs : stepM qs ⟨3 :: S, i, o, d⟩ = (if (beg (qAt qs i).t).1 = 0 then .error (60, i) else if 16 < o.length then .error (61, i) else .ok ⟨insideM (beg (qAt qs i).t).1 ++ S, i + 1, if insideM (beg (qAt qs i).t).1 = [] then o else 0 :: o, d⟩) := rfl
    unfold nodeP
    by_cases hk : (beg (qAt qs i).t).1 = 0
    · rw [if_pos hk] at hs ⊢; exact .stop hs
    · rw [if_neg hk] at hs ⊢
      rw [if_pos (by omega)] at hs
      exact .stop hs
  | succ f ih =>
    intro x S i o d ho
    have hs : stepM qs ⟨3 :: S, i, o, d⟩ = (if (beg (qAt qs i).t).1 = 0 then .error (60, i) else if 16 < o.length then .error (61, i) else .ok ⟨insideM (beg (qAt qs i).t).1 ++ S, i + 1, if insideM (beg (qAt qs i).t).1 = [] then o else 0 :: o, d⟩) := rfl
    unfold nodeP
    by_cases hk : (beg (qAt qs i).t).1 = 0
    · rw [if_pos hk] at hs ⊢; exact .stop hs
    rw [if_neg hk] at hs ⊢
    rw [if_neg (by omega)] at hs
    generalize (beg (qAt qs i).t).1 = k at *
    generalize (beg (qAt qs i).t).2 = n at *
    unfold bodyP
    have hI : ∀ S i d, Ends qs ⟨3 :: S, i, 0 :: o, d⟩ (resM (nodeP qs f { nd0 with a := i } i) (fun r => ⟨S, r.2, 0 :: o, d⟩)) := fun S i d => ih _ S i _ d (by simp; omega)
    by_cases h9 : k = 9
    · subst h9
      exact .step hs (.refl _)
    rw [if_neg h9]
    by_cases h45 : k = 4 ∨ k = 5
    · rw [if_pos h45]
      have hin : insideM k = [70, 3, 54, 2, 72, 8] := by unfold insideM; rw [if_pos h45]
      rw [hin, if_neg (by simp)] at hs
      refine .step hs ?_
      refine ends_bnd (f := fun r => (⟨8 :: S, r.2.2, 0 :: o, d⟩ : St)) ?_ (fun y _ => .step rfl (.refl _))
      unfold itemsP
      refine ends_bnd (ends_txt 70 60 (by omega) rfl _ _ _ d) (fun i1 _ => ends_bnd (hI _ i1 d) (fun y _ => ends_bnd (ends_txt 54 44 (by omega) rfl _ _ _ d) (fun i3 _ => ends_bnd (ends_num _ i3 _ d) (fun i4 _ => ends_bnd (ends_txt 72 62 (by omega) rfl _ i4 _ d) (fun i5 _ => .refl _)))))
    rw [if_neg h45]
    by_cases h6 : k = 6
    · rw [if_pos h6]
      have hin : insideM k = [70, 3, 72, 8] := by unfold insideM; rw [if_neg h45, if_pos h6]
      rw [hin, if_neg (by simp)] at hs
      refine .step hs ?_
      refine ends_bnd (f := fun r => (⟨8 :: S, r.2, 0 :: o, d⟩ : St)) ?_ (fun y _ => .step rfl (.refl _))
      unfold optionP
      exact ends_bnd (ends_txt 70 60 (by omega) rfl _ _ _ d) (fun i1 _ => ends_bnd (hI _ i1 d) (fun y _ => ends_bnd (ends_txt 72 62 (by omega) rfl _ _ _ d) (fun i3 _ => .refl _)))
    rw [if_neg h6]
    by_cases h7 : k = 7
    · rw [if_pos h7]
      have hin : insideM k = [133, 5, 7, 8] := by unfold insideM; rw [if_neg h45, if_neg h6, if_pos h7]
      rw [hin, if_neg (by simp)] at hs
      refine .step hs ?_
      exact ends_bnd (ends_parts (armP qs (nodeP qs f)) 5 7 (.inl ⟨rfl, rfl⟩) o d (fun S c i => ends_arm ih S c i o d (by omega)) (fun c i y h => one_lt (.inl h)) (8 :: S) (i + 1)) (fun y _ => .step rfl (.refl _))
    rw [if_neg h7]
    by_cases h8 : k = 8
    · rw [if_pos h8]
      have hin : insideM k = [133, 4, 6, 8] := by unfold insideM; rw [if_neg h45, if_neg h6, if_neg h7, if_pos h8]
      rw [hin, if_neg (by simp)] at hs
      refine .step hs ?_
      exact ends_bnd (ends_parts (fieldP qs (nodeP qs f)) 4 6 (.inr ⟨rfl, rfl⟩) o d (fun S c i => ends_field ih S c i o d (by omega)) (fun c i y h => one_lt (.inr h)) (8 :: S) (i + 1)) (fun y _ => .step rfl (.refl _))
    rw [if_neg h8]
    have hin : insideM k = [] := by unfold insideM; rw [if_neg h45, if_neg h6, if_neg h7, if_neg h8]
    rw [hin, if_pos rfl] at hs
    exact .step hs (.refl _)
/-- The whole: the machine fails just as the parser does. -/
theorem src_m : ∀ (f : Nat) (D : List Df) (i : Nat), f + D.length = 257 → D.length ≤ 256 → ∃ t, t.s = [] ∧ Ends qs ⟨[0], i, [], D.length⟩ (resM (srcP qs f D i) (fun _ => t)) := by
  intro f
  induction f with
  | zero => intro D i h1 h2; omega
  | succ f ih =>
    intro D i h1 h2
    have hs : stepM qs ⟨[0], i, [], D.length⟩ = (if i < qs.length then (if isT ⟨#[116, 121, 112, 101]⟩ (qAt qs i) then (if 256 ≤ D.length then .error (5, i) else .ok ⟨[1, 71, 3, 69, 0], i + 1, [], D.length + 1⟩) else .error (60, i)) else .ok ⟨[], i, [], D.length⟩) := rfl
    unfold srcP
    by_cases hi : i < qs.length
    · rw [if_pos hi] at hs ⊢
      unfold txt tak
      cases ht : isT ⟨#[116, 121, 112, 101]⟩ (qAt qs i) with
      | false =>
        rw [ht] at hs
        exact ⟨⟨[], 0, [], 0⟩, rfl, .stop hs⟩
      | true =>
        rw [ht, if_pos rfl] at hs
        rw [if_pos rfl, bnd_ok]
        by_cases hf : f = 0
        · rw [if_pos (by omega)] at hs
          rw [if_pos hf]
          exact ⟨⟨[], 0, [], 0⟩, rfl, .stop hs⟩
        · rw [if_neg (by omega)] at hs
          rw [if_neg hf]
          have hD : Ends qs ⟨[1, 71, 3, 69, 0], i + 1, [], D.length + 1⟩ (resM (defP qs (i + 1)) (fun r => ⟨[0], r.2, [], D.length + 1⟩)) := by
            unfold defP
            exact ends_bnd (ends_nm _ _ _ _) (fun i1 _ => ends_bnd (ends_txt 71 61 (by omega) rfl _ _ _ _) (fun i2 _ => ends_bnd (node_m 17 _ _ _ _ _ rfl) (fun y _ => ends_bnd (ends_txt 69 59 (by omega) rfl _ _ _ _) (fun i4 _ => .refl _))))
          cases hd : defP qs (i + 1) with
          | error e =>
            rw [hd] at hD
            exact ⟨⟨[], 0, [], 0⟩, rfl, .step hs hD⟩
          | ok y =>
            rw [hd] at hD
            obtain ⟨t, ht, hE⟩ := ih (D ++ [y.1]) y.2 (by simp; omega) (by simp; omega)
            refine ⟨t, ht, .step hs (Ends.trans hD ?_)⟩
            rw [List.length_append] at hE
            exact hE
    · rw [if_neg hi] at hs ⊢
      exact ⟨_, rfl, .step hs (.refl _)⟩
end
end Go.Proofs.Ytokepgimjdalaaa

/- A text that ends too early goes on, plain. -/
namespace Go.Proofs.Ytokepgimjdalaaa
set_option linter.unusedVariables false

/-- A step, the token in hand. -/
def stepQ (q : Q) (L : Nat) (t : St) : PR St :=
  match t.s with
  | [] => .ok t
  | w :: S =>
    if w = 8 then .ok ⟨S, t.i, t.o.tail, t.d⟩
    else if w = 0 then
      (if t.i < L then (if isT ⟨#[116, 121, 112, 101]⟩ q then (if 256 ≤ t.d then .error (5, t.i) else .ok ⟨1 :: 71 :: 3 :: 69 :: 0 :: S, t.i + 1, t.o, t.d + 1⟩) else .error (60, t.i)) else .ok ⟨S, t.i, t.o, t.d⟩)
    else if w = 1 then (if isNm q then .ok ⟨S, t.i + 1, t.o, t.d⟩ else .error (60, t.i))
    else if w = 2 then (if isNum q then .ok ⟨S, t.i + 1, t.o, t.d⟩ else .error (60, t.i))
    else if w = 3 then
      (if (beg q.t).1 = 0 then .error (60, t.i) else if 16 < t.o.length then .error (61, t.i)
       else .ok ⟨insideM (beg q.t).1 ++ S, t.i + 1, if insideM (beg q.t).1 = [] then t.o else 0 :: t.o, t.d⟩)
    else if w = 4 then (if isNm q then (if 64 ≤ t.o.headD 0 then .error (5, t.i) else .ok ⟨68 :: 3 :: S, t.i + 1, (t.o.headD 0 + 1) :: t.o.tail, t.d⟩) else .error (60, t.i))
    else if w = 5 then (if isNum q then (if 64 ≤ t.o.headD 0 then .error (5, t.i) else .ok ⟨68 :: 3 :: S, t.i + 1, (t.o.headD 0 + 1) :: t.o.tail, t.d⟩) else .error (60, t.i))
    else if w = 6 then (if isT ⟨#[44]⟩ q then .ok ⟨4 :: 6 :: S, t.i + 1, t.o, t.d⟩ else if isT ⟨#[125]⟩ q then .ok ⟨S, t.i + 1, t.o, t.d⟩ else .error (60, t.i))
    else if w = 7 then (if isT ⟨#[44]⟩ q then .ok ⟨5 :: 7 :: S, t.i + 1, t.o, t.d⟩ else if isT ⟨#[125]⟩ q then .ok ⟨S, t.i + 1, t.o, t.d⟩ else .error (60, t.i))
    else (if isT ⟨#[UInt8.ofNat (w - 10)]⟩ q then .ok ⟨S, t.i + 1, t.o, t.d⟩ else .error (60, t.i))
theorem stepM_eq (qs : List Q) (t : St) : stepM qs t = stepQ (qAt qs t.i) qs.length t := rfl
def costI (w : Nat) : Nat := if w = 0 ∨ w = 8 then 0 else if w = 4 ∨ w = 5 then 3 else 1
def costS : List Nat → Nat
  | [] => 0
  | w :: S => costI w + costS S
def n8 : List Nat → Nat
  | [] => 0
  | w :: S => (if w = 8 then 1 else 0) + n8 S
def vItems : List Nat := [1, 2, 3, 4, 5, 6, 7, 54, 68, 69, 70, 71, 72, 133]
def okS : List Nat → Prop
  | [] => True
  | w :: S => okS S ∧ costS (w :: S) ≤ 4 + 5 * n8 (w :: S) ∧ (w = 8 → costS S ≤ 3 + 5 * n8 S) ∧ (w = 6 ∨ w = 7 → ∃ S2, S = 8 :: S2) ∧ (w = 4 ∨ w = 5 → ∃ x S2, S = x :: 8 :: S2) ∧ (w = 0 → S = []) ∧ (w = 0 ∨ w = 8 ∨ w ∈ vItems)
def InvM (L : Nat) (t : St) : Prop := okS t.s ∧ n8 t.s = t.o.length ∧ t.o.length ≤ 17 ∧ t.i ≤ L
/-- It errs in none but these ways; else it goes on, in order. -/
theorem stepQ_inv {q : Q} {L : Nat} {t : St} (h : InvM L t) (hq : t.i < L ∨ q = q0) :
    match stepQ q L t with
    | .ok u => InvM L u ∧ t.i ≤ u.i
    | .error e => e.2 = t.i ∧ (e.1 = 5 ∨ e.1 = 60 ∨ e.1 = 61) := by
  obtain ⟨S0, i, o, d⟩ := t
  obtain ⟨h1, h2, h3, h4⟩ := h
  simp only at h1 h2 h3 h4 hq
  cases S0 with
  | nil => exact ⟨⟨h1, h2, h3, h4⟩, Nat.le_refl _⟩
  | cons w S =>
    obtain ⟨k1, k2, k3, k4, k45, k5, k6⟩ := h1
    have hpop : ∀ u : St, w ≠ 8 → u = ⟨S, i + 1, o, d⟩ → i < L → InvM L u ∧ i ≤ u.i := fun u hw hu hl => by
      subst hu
      refine ⟨⟨k1, ?_, h3, by show i + 1 ≤ L; omega⟩, by simp⟩
      simp only [n8, if_neg hw] at h2
      simpa using h2
    have hlt : ∀ f : Q → Bool, f q0 = false → f q = true → i < L := fun f h0 hf => by
      rcases hq with hq | hq
      · exact hq
      · rw [hq, h0] at hf; cases hf
    rcases k6 with rfl | rfl | hV
    · show match (if i < L then _ else _ : PR St) with | .ok u => _ | .error e => _
      by_cases hi : i < L
      · rw [if_pos hi]
        cases isT ⟨#[116, 121, 112, 101]⟩ q with
        | false => exact ⟨rfl, .inr (.inl rfl)⟩
        | true =>
          rw [if_pos rfl]
          by_cases hd : 256 ≤ d
          · rw [if_pos hd]; exact ⟨rfl, .inl rfl⟩
          · rw [if_neg hd]
            have hS := k5 rfl
            subst hS
            simp [n8] at h2
            refine ⟨⟨by simp [okS, costS, costI, n8, vItems], by simp [n8]; omega, h3, by show i + 1 ≤ L; omega⟩, by simp⟩
      · rw [if_neg hi]
        have hS := k5 rfl
        subst hS
        simp [n8] at h2
        exact ⟨⟨trivial, by simp [n8]; omega, h3, h4⟩, Nat.le_refl _⟩
    · show InvM L ⟨S, i, o.tail, d⟩ ∧ i ≤ i
      simp only [n8, if_pos] at h2
      refine ⟨⟨k1, ?_, ?_, h4⟩, Nat.le_refl _⟩
      · cases o with
        | nil => simp at h2
        | cons a o => simp at h2 ⊢; omega
      · simp only [List.length_tail]; omega
    · simp only [vItems, List.mem_cons, List.mem_nil_iff, or_false] at hV
      rcases hV with rfl | rfl | rfl | rfl | rfl | rfl | rfl | rfl | rfl | rfl | rfl | rfl | rfl | rfl
      · show match (if isNm q then _ else _ : PR St) with | .ok u => _ | .error e => _
        cases hb : isNm q with
        | false => exact ⟨rfl, .inr (.inl rfl)⟩
        | true => exact hpop _ (by decide) rfl (hlt isNm (by decide) hb)
      · show match (if isNum q then _ else _ : PR St) with | .ok u => _ | .error e => _
        cases hb : isNum q with
        | false => exact ⟨rfl, .inr (.inl rfl)⟩
        | true => exact hpop _ (by decide) rfl (hlt isNum (by decide) hb)
      · show match (if (beg q.t).1 = 0 then _ else _ : PR St) with | .ok u => _ | .error e => _
        by_cases hk : (beg q.t).1 = 0
        · rw [if_pos hk]; exact ⟨rfl, .inr (.inl rfl)⟩
        · rw [if_neg hk]
          by_cases ho : 16 < o.length
          · rw [if_pos ho]; exact ⟨rfl, .inr (.inr rfl)⟩
          · rw [if_neg ho]
            have hl : i < L := by
              rcases hq with hq | hq
              · exact hq
              · exact absurd (by rw [hq]; decide) hk
            simp only [costS, costI, n8] at k2 h2
            refine ⟨?_, by simp⟩
            generalize (beg q.t).1 = k at *
            have hc : costS S ≤ 3 + 5 * n8 S := by simp at k2; omega
            have h2' : n8 S = o.length := by simpa using h2
            unfold insideM
            by_cases h45 : k = 4 ∨ k = 5
            · simp only [if_pos h45]
              refine ⟨?_, ?_, by simp; omega, by simp; omega⟩
              · simp [okS, costS, costI, n8, vItems]
                repeat' apply And.intro
                all_goals first | exact k1 | omega
              · simp [n8]; omega
            simp only [if_neg h45]
            by_cases h6 : k = 6
            · simp only [if_pos h6]
              refine ⟨?_, ?_, by simp; omega, by simp; omega⟩
              · simp [okS, costS, costI, n8, vItems]
                repeat' apply And.intro
                all_goals first | exact k1 | omega
              · simp [n8]; omega
            simp only [if_neg h6]
            by_cases h7 : k = 7
            · simp only [if_pos h7]
              refine ⟨?_, ?_, by simp; omega, by simp; omega⟩
              · simp [okS, costS, costI, n8, vItems]
                repeat' apply And.intro
                all_goals first | exact k1 | omega
              · simp [n8]; omega
            simp only [if_neg h7]
            by_cases h8 : k = 8
            · simp only [if_pos h8]
              refine ⟨?_, ?_, by simp; omega, by simp; omega⟩
              · simp [okS, costS, costI, n8, vItems]
                repeat' apply And.intro
                all_goals first | exact k1 | omega
              · simp [n8]; omega
            simp only [if_neg h8]
            exact ⟨k1, by simpa using h2', h3, by simp; omega⟩
      · show match (if isNm q then _ else _ : PR St) with | .ok u => _ | .error e => _
        cases hb : isNm q with
        | false => exact ⟨rfl, .inr (.inl rfl)⟩
        | true =>
          rw [if_pos rfl]
          have hl := hlt isNm (by decide) hb
          by_cases hd : 64 ≤ o.headD 0
          · rw [if_pos hd]; exact ⟨rfl, .inl rfl⟩
          · rw [if_neg hd]
            simp only [costS, costI, n8] at k2 h2
            have hS1 : 1 ≤ n8 S := by obtain ⟨x4, S4, rfl⟩ := k45 (by simp); simp [n8]; omega
            simp at k2 h2
            refine ⟨⟨?_, ?_, ?_, by show i + 1 ≤ L; omega⟩, by simp⟩
            · simp [okS, costS, costI, n8, vItems]
              repeat' apply And.intro
              all_goals first | exact k1 | omega
            · cases o with
              | nil => exfalso; simp at h2; omega
              | cons a o => simp [n8] at h2 ⊢; omega
            · cases o with
              | nil => simp
              | cons a o => simp at h3 ⊢; omega
      · show match (if isNum q then _ else _ : PR St) with | .ok u => _ | .error e => _
        cases hb : isNum q with
        | false => exact ⟨rfl, .inr (.inl rfl)⟩
        | true =>
          rw [if_pos rfl]
          have hl := hlt isNum (by decide) hb
          by_cases hd : 64 ≤ o.headD 0
          · rw [if_pos hd]; exact ⟨rfl, .inl rfl⟩
          · rw [if_neg hd]
            simp only [costS, costI, n8] at k2 h2
            have hS1 : 1 ≤ n8 S := by obtain ⟨x4, S4, rfl⟩ := k45 (by simp); simp [n8]; omega
            simp at k2 h2
            refine ⟨⟨?_, ?_, ?_, by show i + 1 ≤ L; omega⟩, by simp⟩
            · simp [okS, costS, costI, n8, vItems]
              repeat' apply And.intro
              all_goals first | exact k1 | omega
            · cases o with
              | nil => exfalso; simp at h2; omega
              | cons a o => simp [n8] at h2 ⊢; omega
            · cases o with
              | nil => simp
              | cons a o => simp at h3 ⊢; omega
      · show match (if isT ⟨#[44]⟩ q then _ else _ : PR St) with | .ok u => _ | .error e => _
        cases hb : isT ⟨#[44]⟩ q with
        | true =>
          rw [if_pos rfl]
          have hl := hlt (isT ⟨#[44]⟩) (by decide) hb
          obtain ⟨S2, rfl⟩ := k4 (.inl rfl)
          have kk := k1.2.2.1 rfl
          simp only [costS, costI, n8] at k2 h2
          simp at k2 h2
          refine ⟨⟨?_, ?_, h3, by show i + 1 ≤ L; omega⟩, by simp⟩
          · simp only [okS] at k1 ⊢
            simp [costS, costI, n8, vItems] at k1 ⊢
            repeat' apply And.intro
            all_goals first | exact k1 | omega | exact k1.1 | exact k1.2.1
          · simp [n8]; omega
        | false =>
          rw [if_neg (by decide)]
          cases hb2 : isT ⟨#[125]⟩ q with
          | false => exact ⟨rfl, .inr (.inl rfl)⟩
          | true => exact hpop _ (by decide) rfl (hlt (isT ⟨#[125]⟩) (by decide) hb2)
      · show match (if isT ⟨#[44]⟩ q then _ else _ : PR St) with | .ok u => _ | .error e => _
        cases hb : isT ⟨#[44]⟩ q with
        | true =>
          rw [if_pos rfl]
          have hl := hlt (isT ⟨#[44]⟩) (by decide) hb
          obtain ⟨S2, rfl⟩ := k4 (.inr rfl)
          have kk := k1.2.2.1 rfl
          simp only [costS, costI, n8] at k2 h2
          simp at k2 h2
          refine ⟨⟨?_, ?_, h3, by show i + 1 ≤ L; omega⟩, by simp⟩
          · simp only [okS] at k1 ⊢
            simp [costS, costI, n8, vItems] at k1 ⊢
            repeat' apply And.intro
            all_goals first | exact k1 | omega | exact k1.1 | exact k1.2.1
          · simp [n8]; omega
        | false =>
          rw [if_neg (by decide)]
          cases hb2 : isT ⟨#[125]⟩ q with
          | false => exact ⟨rfl, .inr (.inl rfl)⟩
          | true => exact hpop _ (by decide) rfl (hlt (isT ⟨#[125]⟩) (by decide) hb2)
      · show match (if isT ⟨#[44]⟩ q then _ else _ : PR St) with | .ok u => _ | .error e => _
        cases hb : isT ⟨#[44]⟩ q with
        | false => exact ⟨rfl, .inr (.inl rfl)⟩
        | true => exact hpop _ (by decide) rfl (hlt (isT ⟨#[44]⟩) (by decide) hb)
      · show match (if isT ⟨#[58]⟩ q then _ else _ : PR St) with | .ok u => _ | .error e => _
        cases hb : isT ⟨#[58]⟩ q with
        | false => exact ⟨rfl, .inr (.inl rfl)⟩
        | true => exact hpop _ (by decide) rfl (hlt (isT ⟨#[58]⟩) (by decide) hb)
      · show match (if isT ⟨#[59]⟩ q then _ else _ : PR St) with | .ok u => _ | .error e => _
        cases hb : isT ⟨#[59]⟩ q with
        | false => exact ⟨rfl, .inr (.inl rfl)⟩
        | true => exact hpop _ (by decide) rfl (hlt (isT ⟨#[59]⟩) (by decide) hb)
      · show match (if isT ⟨#[60]⟩ q then _ else _ : PR St) with | .ok u => _ | .error e => _
        cases hb : isT ⟨#[60]⟩ q with
        | false => exact ⟨rfl, .inr (.inl rfl)⟩
        | true => exact hpop _ (by decide) rfl (hlt (isT ⟨#[60]⟩) (by decide) hb)
      · show match (if isT ⟨#[61]⟩ q then _ else _ : PR St) with | .ok u => _ | .error e => _
        cases hb : isT ⟨#[61]⟩ q with
        | false => exact ⟨rfl, .inr (.inl rfl)⟩
        | true => exact hpop _ (by decide) rfl (hlt (isT ⟨#[61]⟩) (by decide) hb)
      · show match (if isT ⟨#[62]⟩ q then _ else _ : PR St) with | .ok u => _ | .error e => _
        cases hb : isT ⟨#[62]⟩ q with
        | false => exact ⟨rfl, .inr (.inl rfl)⟩
        | true => exact hpop _ (by decide) rfl (hlt (isT ⟨#[62]⟩) (by decide) hb)
      · show match (if isT ⟨#[123]⟩ q then _ else _ : PR St) with | .ok u => _ | .error e => _
        cases hb : isT ⟨#[123]⟩ q with
        | false => exact ⟨rfl, .inr (.inl rfl)⟩
        | true => exact hpop _ (by decide) rfl (hlt (isT ⟨#[123]⟩) (by decide) hb)
end Go.Proofs.Ytokepgimjdalaaa

/- A text that ends too early: one token more. -/
namespace Go.Proofs.Ytokepgimjdalaaa
set_option linter.unusedVariables false

section
variable {qs : List Q}
theorem run_nil : ∀ (n : Nat) (t : St), t.s = [] → runM qs n t = .ok t
  | 0, t, h => rfl
  | n + 1, t, h => by
    have hs : stepM qs t = .ok t := by unfold stepM; rw [h]
    rw [runM, hs, bnd_ok]
    exact run_nil n t h
theorem run_err : ∀ (n : Nat) (t : St) (e : Nat × Nat), runM qs n t = .error e → ∃ m u, runM qs m t = .ok u ∧ stepM qs u = .error e
  | 0, t, e, h => by cases h
  | n + 1, t, e, h => by
    rw [runM] at h
    cases hs : stepM qs t with
    | error x =>
      rw [hs] at h
      injection h with h
      subst h
      exact ⟨0, t, rfl, hs⟩
    | ok u =>
      rw [hs, bnd_ok] at h
      obtain ⟨m, v, h1, h2⟩ := run_err n u e h
      exact ⟨m + 1, v, by rw [runM, hs, bnd_ok, h1], h2⟩
theorem ends_det {t : St} {e : Nat × Nat} {r : PR St} (h : Ends qs t (.error e)) (k : Ends qs t r) (hr : ∀ u, r = .ok u → u.s = []) : r = .error e := by
  obtain ⟨n, hn⟩ := h
  obtain ⟨m, hm⟩ := k
  have h1 := runM_add (qs := qs) n m t
  have h2 := runM_add (qs := qs) m n t
  rw [hn, bnd_err] at h1
  rw [hm, Nat.add_comm, h1] at h2
  cases r with
  | error x => exact h2.symm
  | ok u =>
    rw [bnd_ok, run_nil n u (hr u rfl)] at h2
    cases h2
theorem src_of {e : Nat × Nat} (h : Ends qs ⟨[0], 0, [], 0⟩ (.error e)) : srcP qs 257 [] 0 = .error e := by
  obtain ⟨t, ht, hE⟩ := src_m (qs := qs) 257 [] 0 rfl (Nat.zero_le _)
  have := ends_det h hE (fun u hu => by
    cases hs : srcP qs 257 [] 0 with
    | error x => rw [hs] at hu; cases hu
    | ok D => rw [hs] at hu; injection hu with hu; rw [← hu]; exact ht)
  cases hs : srcP qs 257 [] 0 with
  | error x => rw [hs] at this; injection this with this; rw [this]
  | ok D => rw [hs] at this; cases this
theorem src_err {e : Nat × Nat} (h : srcP qs 257 [] 0 = .error e) : Ends qs ⟨[0], 0, [], 0⟩ (.error e) := by
  obtain ⟨t, ht, hE⟩ := src_m (qs := qs) 257 [] 0 rfl (Nat.zero_le _)
  rw [h] at hE
  exact hE
theorem q_lt {i : Nat} (h : i ≤ qs.length) : i < qs.length ∨ qAt qs i = q0 := by
  rcases Nat.lt_or_ge i qs.length with h1 | h1
  · exact .inl h1
  · exact .inr (by unfold qAt; simp [List.getD, h1])
theorem run_inv : ∀ (n : Nat) (t u : St), InvM qs.length t → runM qs n t = .ok u → InvM qs.length u ∧ t.i ≤ u.i
  | 0, t, u, h, hr => by injection hr with hr; subst hr; exact ⟨h, Nat.le_refl _⟩
  | n + 1, t, u, h, hr => by
    rw [runM] at hr
    have hk := stepQ_inv h (q_lt h.2.2.2)
    rw [← stepM_eq] at hk
    cases hs : stepM qs t with
    | error x => rw [hs] at hr; cases hr
    | ok v =>
      rw [hs] at hk hr
      rw [bnd_ok] at hr
      have ih := run_inv n v u hk.1 hr
      exact ⟨ih.1, Nat.le_trans hk.2 ih.2⟩
theorem inv0 : InvM qs.length ⟨[0], 0, [], 0⟩ := ⟨by simp [okS, costS, costI, n8], rfl, by simp, Nat.zero_le _⟩
theorem qAt_app (q : Q) {i : Nat} (h : i < qs.length) : qAt (qs ++ [q]) i = qAt qs i := by unfold qAt; simp [List.getD, List.getElem?_append_left h]
theorem qAt_last (q : Q) : qAt (qs ++ [q]) qs.length = q := by unfold qAt; simp [List.getD]
/-- With no token at hand nothing but a closing or the whole's end goes on. -/
theorem step_end {L : Nat} {t u : St} {w : Nat} {S : List Nat} (hI : InvM L t) (hs : t.s = w :: S) (hi : t.i = L) (h : stepQ q0 L t = .ok u) : w = 8 ∧ u = ⟨S, t.i, t.o.tail, t.d⟩ ∨ w = 0 ∧ u.s = [] := by
  obtain ⟨S0, i, o, d⟩ := t
  simp only at hs hi
  subst hs
  obtain ⟨k1, k2, k3, k4, k45, k5, k6⟩ := hI.1
  rcases k6 with rfl | rfl | hV
  · right
    refine ⟨rfl, ?_⟩
    have h2 : stepQ q0 L ⟨0 :: S, i, o, d⟩ = (if i < L then (if isT ⟨#[116, 121, 112, 101]⟩ q0 then (if 256 ≤ d then .error (5, i) else .ok ⟨1 :: 71 :: 3 :: 69 :: 0 :: S, i + 1, o, d + 1⟩) else .error (60, i)) else .ok ⟨S, i, o, d⟩) := rfl
    rw [h2, if_neg (by omega)] at h
    injection h with h
    rw [← h]
    exact k5 rfl
  · left
    injection h with h
    exact ⟨rfl, h.symm⟩
  · exfalso
    simp only [vItems, List.mem_cons, List.mem_nil_iff, or_false] at hV
    rcases hV with rfl | rfl | rfl | rfl | rfl | rfl | rfl | rfl | rfl | rfl | rfl | rfl | rfl | rfl <;> exact absurd h (by intro h; cases h)
/-- It ends too early; so many tokens are wanting. -/
def Early (qs : List Q) (c : Nat) : Prop := ∃ m u, runM qs m ⟨[0], 0, [], 0⟩ = .ok u ∧ stepM qs u = .error (60, qs.length) ∧ costS u.s = c
theorem Early.of (h : srcP qs 257 [] 0 = .error (60, qs.length)) : ∃ c, c ≤ 89 ∧ Early qs c := by
  obtain ⟨n, hn⟩ := src_err h
  obtain ⟨m, u, h1, h2⟩ := run_err n _ _ hn
  have hI := (run_inv m _ u inv0 h1).1
  refine ⟨costS u.s, ?_, m, u, h1, h2, rfl⟩
  have h3 := hI.2.2.1
  have h4 := hI.2.1
  cases hs : u.s with
  | nil => simp [costS]
  | cons w S =>
    have h5 := hI.1
    rw [hs] at h5 h4
    have := h5.2.1
    omega
theorem Early.state {c : Nat} (h : Early qs c) : ∃ m w S o d, runM qs m ⟨[0], 0, [], 0⟩ = .ok ⟨w :: S, qs.length, o, d⟩ ∧ w ∈ vItems ∧ costI w + costS S = c ∧ InvM qs.length ⟨w :: S, qs.length, o, d⟩ := by
  obtain ⟨m, u, h1, h2, h3⟩ := h
  have hI := (run_inv m _ u inv0 h1).1
  have hk := stepQ_inv hI (q_lt hI.2.2.2)
  rw [← stepM_eq, h2] at hk
  obtain ⟨S0, i, o, d⟩ := u
  have hi : qs.length = i := hk.1
  subst hi
  cases S0 with
  | nil => cases h2
  | cons w S =>
    refine ⟨m, w, S, o, d, h1, ?_, h3, hI⟩
    rcases hI.1.2.2.2.2.2.2 with rfl | rfl | hV
    · have h4 : stepM qs ⟨0 :: S, qs.length, o, d⟩ = (if qs.length < qs.length then (if isT ⟨#[116, 121, 112, 101]⟩ (qAt qs qs.length) then (if 256 ≤ d then .error (5, qs.length) else .ok ⟨1 :: 71 :: 3 :: 69 :: 0 :: S, qs.length + 1, o, d + 1⟩) else .error (60, qs.length)) else .ok ⟨S, qs.length, o, d⟩) := rfl
      rw [h4, if_neg (Nat.lt_irrefl _)] at h2
      cases h2
    · cases h2
    · exact hV
/-- What was run is run so with a token more. -/
theorem runM_app (q : Q) : ∀ (n : Nat) (t u : St), InvM qs.length t → runM qs n t = .ok u → u.s ≠ [] → runM (qs ++ [q]) n t = .ok u
  | 0, t, u, h, hr, hn => hr
  | n + 1, t, u, h, hr, hn => by
    rw [runM] at hr ⊢
    have hk := stepQ_inv h (q_lt h.2.2.2)
    rw [← stepM_eq] at hk
    cases hs : stepM qs t with
    | error x => rw [hs] at hr; cases hr
    | ok v =>
      rw [hs] at hk hr
      rw [bnd_ok] at hr
      have hs2 : stepM (qs ++ [q]) t = .ok v := by
        cases ht : t.s with
        | nil =>
          have e1 : stepM qs t = .ok t := by unfold stepM; rw [ht]
          rw [e1] at hs
          injection hs with hs
          subst hs
          rw [run_nil n t ht] at hr
          injection hr with hr
          subst hr
          exact absurd ht hn
        | cons w S =>
          rcases Nat.lt_or_ge t.i qs.length with hl | hl
          · rw [stepM_eq] at hs ⊢
            rw [qAt_app q hl]
            have hlen : ∀ (p : Q), stepQ p (qs ++ [q]).length t = stepQ p qs.length t := fun p => by
              unfold stepQ
              rw [ht]
              simp only [List.length_append, List.length_cons, List.length_nil]
              rw [if_pos (show t.i < qs.length + (0 + 1) by omega), if_pos hl]
            rw [hlen]
            exact hs
          · have hi : t.i = qs.length := by have := h.2.2.2; omega
            have hq : qAt qs t.i = q0 := (q_lt h.2.2.2).resolve_left (by omega)
            rw [stepM_eq, hq] at hs
            rcases step_end h ht hi hs with ⟨rfl, rfl⟩ | ⟨rfl, hv⟩
            · unfold stepM; rw [ht]; rfl
            · rw [run_nil n v hv] at hr
              injection hr with hr
              subst hr
              exact absurd hv hn
      rw [hs2, bnd_ok]
      exact runM_app q n v u hk.1 hr hn
end
/-- The tokens that may be put. -/
def toks : List Q := [⟨3, ⟨#[59]⟩, 0⟩, ⟨3, ⟨#[125]⟩, 0⟩, ⟨3, ⟨#[62]⟩, 0⟩, ⟨1, ⟨#[117, 56]⟩, 0⟩, ⟨1, ⟨#[122, 122]⟩, 0⟩, ⟨2, ⟨#[]⟩, 1⟩, ⟨3, ⟨#[61]⟩, 0⟩, ⟨3, ⟨#[58]⟩, 0⟩, ⟨3, ⟨#[44]⟩, 0⟩, ⟨3, ⟨#[60]⟩, 0⟩, ⟨3, ⟨#[123]⟩, 0⟩]
/-- Which of them is put. -/
def accM (w : Nat) : Nat := if w = 6 then 1 else if w = 7 then 1 else if w = 72 then 2 else if w = 3 then 3 else if w = 1 then 4 else if w = 4 then 4 else if w = 2 then 5 else if w = 5 then 5 else if w = 71 then 6 else if w = 68 then 7 else if w = 54 then 8 else if w = 70 then 9 else if w = 133 then 10 else 0
theorem bad_tok {w : Nat} (hw : w ∈ vItems) (j : Nat) (hj : j < accM w) (L i : Nat) (S o : List Nat) (d : Nat) : stepQ (toks.getD j q0) L ⟨w :: S, i, o, d⟩ = .error (60, i) := by
  simp only [vItems, List.mem_cons, List.mem_nil_iff, or_false] at hw
  rcases hw with rfl | rfl | rfl | rfl | rfl | rfl | rfl | rfl | rfl | rfl | rfl | rfl | rfl | rfl
  · have hj2 : j = 0 ∨ j = 1 ∨ j = 2 ∨ j = 3 := by have : accM 1 = 4 := rfl; omega
    rcases hj2 with rfl | rfl | rfl | rfl <;> rfl
  · have hj2 : j = 0 ∨ j = 1 ∨ j = 2 ∨ j = 3 ∨ j = 4 := by have : accM 2 = 5 := rfl; omega
    rcases hj2 with rfl | rfl | rfl | rfl | rfl <;> rfl
  · have hj2 : j = 0 ∨ j = 1 ∨ j = 2 := by have : accM 3 = 3 := rfl; omega
    rcases hj2 with rfl | rfl | rfl <;> rfl
  · have hj2 : j = 0 ∨ j = 1 ∨ j = 2 ∨ j = 3 := by have : accM 4 = 4 := rfl; omega
    rcases hj2 with rfl | rfl | rfl | rfl <;> rfl
  · have hj2 : j = 0 ∨ j = 1 ∨ j = 2 ∨ j = 3 ∨ j = 4 := by have : accM 5 = 5 := rfl; omega
    rcases hj2 with rfl | rfl | rfl | rfl | rfl <;> rfl
  · obtain rfl : j = 0 := by have : accM 6 = 1 := rfl; omega
    rfl
  · obtain rfl : j = 0 := by have : accM 7 = 1 := rfl; omega
    rfl
  · have hj2 : j = 0 ∨ j = 1 ∨ j = 2 ∨ j = 3 ∨ j = 4 ∨ j = 5 ∨ j = 6 ∨ j = 7 := by have : accM 54 = 8 := rfl; omega
    rcases hj2 with rfl | rfl | rfl | rfl | rfl | rfl | rfl | rfl <;> rfl
  · have hj2 : j = 0 ∨ j = 1 ∨ j = 2 ∨ j = 3 ∨ j = 4 ∨ j = 5 ∨ j = 6 := by have : accM 68 = 7 := rfl; omega
    rcases hj2 with rfl | rfl | rfl | rfl | rfl | rfl | rfl <;> rfl
  · exact absurd (show j < 0 from hj) (Nat.not_lt_zero j)
  · have hj2 : j = 0 ∨ j = 1 ∨ j = 2 ∨ j = 3 ∨ j = 4 ∨ j = 5 ∨ j = 6 ∨ j = 7 ∨ j = 8 := by have : accM 70 = 9 := rfl; omega
    rcases hj2 with rfl | rfl | rfl | rfl | rfl | rfl | rfl | rfl | rfl <;> rfl
  · have hj2 : j = 0 ∨ j = 1 ∨ j = 2 ∨ j = 3 ∨ j = 4 ∨ j = 5 := by have : accM 71 = 6 := rfl; omega
    rcases hj2 with rfl | rfl | rfl | rfl | rfl | rfl <;> rfl
  · have hj2 : j = 0 ∨ j = 1 := by have : accM 72 = 2 := rfl; omega
    rcases hj2 with rfl | rfl <;> rfl
  · have hj2 : j = 0 ∨ j = 1 ∨ j = 2 ∨ j = 3 ∨ j = 4 ∨ j = 5 ∨ j = 6 ∨ j = 7 ∨ j = 8 ∨ j = 9 := by have : accM 133 = 10 := rfl; omega
    rcases hj2 with rfl | rfl | rfl | rfl | rfl | rfl | rfl | rfl | rfl | rfl <;> rfl
theorem good_tok {w : Nat} (hw : w ∈ vItems) (L i : Nat) (S o : List Nat) (d : Nat) : (∃ c, stepQ (toks.getD (accM w) q0) L ⟨w :: S, i, o, d⟩ = .error (c, i) ∧ (c = 5 ∨ c = 61)) ∨ ∃ v, stepQ (toks.getD (accM w) q0) L ⟨w :: S, i, o, d⟩ = .ok v ∧ v.i = i + 1 ∧ costS v.s + 1 = costI w + costS S := by
  simp only [vItems, List.mem_cons, List.mem_nil_iff, or_false] at hw
  rcases hw with rfl | rfl | rfl | rfl | rfl | rfl | rfl | rfl | rfl | rfl | rfl | rfl | rfl | rfl
  · exact .inr ⟨⟨S, i + 1, o, d⟩, rfl, rfl, by simp [costI]; omega⟩
  · exact .inr ⟨⟨S, i + 1, o, d⟩, rfl, rfl, by simp [costI]; omega⟩
  · have h : stepQ (toks.getD (accM 3) q0) L ⟨3 :: S, i, o, d⟩ = (if 16 < o.length then .error (61, i) else .ok ⟨S, i + 1, o, d⟩) := rfl
    by_cases ho : 16 < o.length
    · rw [if_pos ho] at h; exact .inl ⟨61, h, .inr rfl⟩
    · rw [if_neg ho] at h; exact .inr ⟨_, h, rfl, by simp [costI]; omega⟩
  · have h : stepQ (toks.getD (accM 4) q0) L ⟨4 :: S, i, o, d⟩ = (if 64 ≤ o.headD 0 then .error (5, i) else .ok ⟨68 :: 3 :: S, i + 1, (o.headD 0 + 1) :: o.tail, d⟩) := rfl
    by_cases ho : 64 ≤ o.headD 0
    · rw [if_pos ho] at h; exact .inl ⟨5, h, .inl rfl⟩
    · rw [if_neg ho] at h; exact .inr ⟨_, h, rfl, by simp [costS, costI]; omega⟩
  · have h : stepQ (toks.getD (accM 5) q0) L ⟨5 :: S, i, o, d⟩ = (if 64 ≤ o.headD 0 then .error (5, i) else .ok ⟨68 :: 3 :: S, i + 1, (o.headD 0 + 1) :: o.tail, d⟩) := rfl
    by_cases ho : 64 ≤ o.headD 0
    · rw [if_pos ho] at h; exact .inl ⟨5, h, .inl rfl⟩
    · rw [if_neg ho] at h; exact .inr ⟨_, h, rfl, by simp [costS, costI]; omega⟩
  · exact .inr ⟨⟨S, i + 1, o, d⟩, rfl, rfl, by simp [costI]; omega⟩
  · exact .inr ⟨⟨S, i + 1, o, d⟩, rfl, rfl, by simp [costI]; omega⟩
  · exact .inr ⟨⟨S, i + 1, o, d⟩, rfl, rfl, by simp [costI]; omega⟩
  · exact .inr ⟨⟨S, i + 1, o, d⟩, rfl, rfl, by simp [costI]; omega⟩
  · exact .inr ⟨⟨S, i + 1, o, d⟩, rfl, rfl, by simp [costI]; omega⟩
  · exact .inr ⟨⟨S, i + 1, o, d⟩, rfl, rfl, by simp [costI]; omega⟩
  · exact .inr ⟨⟨S, i + 1, o, d⟩, rfl, rfl, by simp [costI]; omega⟩
  · exact .inr ⟨⟨S, i + 1, o, d⟩, rfl, rfl, by simp [costI]; omega⟩
  · exact .inr ⟨⟨S, i + 1, o, d⟩, rfl, rfl, by simp [costI]; omega⟩
theorem acc_lt {w : Nat} (hw : w ∈ vItems) : accM w < 11 := by
  simp only [vItems, List.mem_cons, List.mem_nil_iff, or_false] at hw
  rcases hw with rfl | rfl | rfl | rfl | rfl | rfl | rfl | rfl | rfl | rfl | rfl | rfl | rfl | rfl <;> decide
section
variable {qs : List Q}
theorem run_tail : ∀ (k : Nat) (v u : St), InvM qs.length v → v.i = qs.length → runM qs k v = .ok u → u.s ≠ [] → costS u.s = costS v.s
  | 0, v, u, h, hi, hr, hn => by injection hr with hr; subst hr; rfl
  | k + 1, v, u, h, hi, hr, hn => by
    rw [runM] at hr
    have hk := stepQ_inv h (q_lt h.2.2.2)
    rw [← stepM_eq] at hk
    cases hs : stepM qs v with
    | error x => rw [hs] at hr; cases hr
    | ok x =>
      rw [hs] at hk hr
      rw [bnd_ok] at hr
      cases ht : v.s with
      | nil =>
        have e1 : stepM qs v = .ok v := by unfold stepM; rw [ht]
        rw [e1] at hs
        injection hs with hs
        subst hs
        rw [run_nil k v ht] at hr
        injection hr with hr
        subst hr
        exact absurd ht hn
      | cons w S =>
        have hq : qAt qs v.i = q0 := (q_lt h.2.2.2).resolve_left (by omega)
        rw [stepM_eq, hq] at hs
        rcases step_end h ht hi hs with ⟨rfl, rfl⟩ | ⟨rfl, hv⟩
        · have := run_tail k _ u hk.1 hi hr hn
          rw [this]
          simp [costS, costI]
        · rw [run_nil k x hv] at hr
          injection hr with hr
          subst hr
          exact absurd hv hn
theorem ends_tail {t v : St} {e : Nat × Nat} (h : Ends qs t (.ok v)) (k : Ends qs t (.error e)) : Ends qs v (.error e) := by
  obtain ⟨m, hm⟩ := h
  obtain ⟨n, hn⟩ := k
  rcases Nat.lt_or_ge n m with h1 | h1
  · obtain ⟨x, rfl⟩ : ∃ x, m = n + x := ⟨m - n, by omega⟩
    rw [runM_add, hn, bnd_err] at hm
    cases hm
  · obtain ⟨x, rfl⟩ : ∃ x, n = m + x := ⟨n - m, by omega⟩
    rw [runM_add, hm, bnd_ok] at hn
    exact ⟨x, hn⟩
/-- One token more: which is put, and what comes of it. -/
theorem go_on {c : Nat} (h : Early qs c) : ∃ a, a < 11 ∧ (∀ j, j < a → srcP (qs ++ [toks.getD j q0]) 257 [] 0 = .error (60, qs.length)) ∧
    ((∃ D, srcP (qs ++ [toks.getD a q0]) 257 [] 0 = .ok D) ∨ (∃ e, srcP (qs ++ [toks.getD a q0]) 257 [] 0 = .error e ∧ (e.1 = 5 ∨ e.1 = 61)) ∨ (srcP (qs ++ [toks.getD a q0]) 257 [] 0 = .error (60, qs.length + 1) ∧ ∃ c', c' < c ∧ Early (qs ++ [toks.getD a q0]) c')) := by
  obtain ⟨m, w, S, o, d, h1, hw, hc, hI⟩ := h.state
  have hrun : ∀ q, runM (qs ++ [q]) m ⟨[0], 0, [], 0⟩ = .ok ⟨w :: S, qs.length, o, d⟩ := fun q => runM_app q m _ _ inv0 h1 (by simp)
  have hstep : ∀ q, stepM (qs ++ [q]) ⟨w :: S, qs.length, o, d⟩ = stepQ q (qs ++ [q]).length ⟨w :: S, qs.length, o, d⟩ := fun q => by rw [stepM_eq, qAt_last]
  refine ⟨accM w, acc_lt hw, fun j hj => ?_, ?_⟩
  · exact src_of (Ends.trans ⟨m, hrun _⟩ (.stop (by rw [hstep, bad_tok hw j hj])))
  · rcases good_tok hw (qs ++ [toks.getD (accM w) q0]).length qs.length S o d with ⟨x, hx, hx2⟩ | ⟨v, hv, hvi, hvc⟩
    · right; left
      exact ⟨(x, qs.length), src_of (Ends.trans ⟨m, hrun _⟩ (.stop (by rw [hstep, hx]))), hx2⟩
    · cases hr : srcP (qs ++ [toks.getD (accM w) q0]) 257 [] 0 with
      | ok D => exact .inl ⟨D, rfl⟩
      | error e =>
        right
        have hE := src_err hr
        have hv0 : Ends (qs ++ [toks.getD (accM w) q0]) ⟨[0], 0, [], 0⟩ (.ok v) := Ends.trans ⟨m, hrun _⟩ (.step (by rw [hstep, hv]) (.refl _))
        obtain ⟨n, hn⟩ := ends_tail hv0 hE
        obtain ⟨k, u, hk, hu⟩ := run_err n v e hn
        obtain ⟨n0, hn0⟩ := hv0
        have hIv := (run_inv n0 _ v inv0 hn0).1
        have hIu := run_inv k v u hIv hk
        have hlen : (qs ++ [toks.getD (accM w) q0]).length = qs.length + 1 := by simp
        have hui : u.i = qs.length + 1 := by
          have h3 := hIu.1.2.2.2
          have h4 := hIu.2
          rw [hlen] at h3
          omega
        have hku := stepQ_inv hIu.1 (q_lt hIu.1.2.2.2)
        rw [← stepM_eq, hu] at hku
        obtain ⟨e1, e2⟩ := e
        obtain ⟨he2, he1⟩ := hku
        simp only at he2 he1
        rw [hui] at he2
        subst he2
        rcases he1 with rfl | rfl | rfl
        · exact .inl ⟨_, rfl, .inl rfl⟩
        · right
          refine ⟨rfl, costS u.s, ?_, n0 + k, u, by rw [runM_add, hn0, bnd_ok, hk], by rw [hlen]; exact hu, rfl⟩
          have hne : u.s ≠ [] := fun hz => by
            have : stepM (qs ++ [toks.getD (accM w) q0]) u = .ok u := by unfold stepM; rw [hz]
            rw [this] at hu
            cases hu
          have := run_tail k v u hIv (by rw [hvi, hlen]) hk hne
          omega
        · exact .inl ⟨_, rfl, .inr rfl⟩
end
end Go.Proofs.Ytokepgimjdalaaa

/- A text that ends too early goes on: texts. -/
namespace Go.Proofs.Ytokepgimjdalaaa
set_option linter.unusedVariables false

theorem app_apps (t : Tk) (ts : List Tk) (R : Cu) : app t (apps ts R) = apps (t :: ts) R := by
  unfold app apps
  by_cases h0 : R.2.1 = 0
  · simp [h0]
  · simp [h0]
theorem cut_nl (l : List UInt8) (p : Nat) : (cut l p).2.1 = 0 → ∀ X, cut (l ++ 10 :: X) p = apps (cut l p).1 (cut X (p + l.length + 1)) := by
  have h10 : (10 : UInt8).toNat = 10 := rfl
  refine cut_ind (fun l p => (cut l p).2.1 = 0 → ∀ X, cut (l ++ 10 :: X) p = apps (cut l p).1 (cut X (p + l.length + 1))) ?_ ?_ ?_ ?_ ?_ ?_ l p
  · intro p _ X
    rw [List.nil_append, cut_blank X p (blank_10 h10), cut_nil, apps_nil]
    rfl
  · intro c r p hb ih h X
    rw [cut_blank r p hb] at h ⊢
    rw [List.cons_append, cut_blank _ p hb, ih h X, List.length_cons]
    congr 2; omega
  · intro c r p hs h2 h X
    rw [cut_end p hs h2, apps_nil, List.cons_append, cut_rem p hs h2 h10, List.length_cons]
    congr 1; omega
  · intro c r d s p hs h2 h3 ih h X
    rw [cut_rem p hs h2 h3] at h ⊢
    have e : c :: (r ++ d :: s) ++ 10 :: X = c :: (r ++ d :: (s ++ 10 :: X)) := by simp
    rw [e, cut_rem p hs h2 h3, ih h X]
    congr 2; simp; omega
  · intro c r p hb hs he h
    rw [cut_bad r p hb hs he] at h
    exact absurd h he
  · intro w s p hw ho ih h X
    rw [cut_word hw ho p] at h ⊢
    obtain ⟨h1, h2⟩ := app_ok h
    have ho2 : Off w (s ++ 10 :: X) := ho.app (by decide) X
    rw [List.append_assoc, cut_word hw ho2 p, ih h1 X, h2]
    have e : p + w.length + s.length + 1 = p + (w ++ s).length + 1 := by simp; omega
    rw [e]
    exact app_apps _ _ _
theorem cut_a (l : List UInt8) (p : Nat) : ∀ t ∈ (cut l p).1, t.a < p + l.length := by
  refine cut_ind (fun l p => ∀ t ∈ (cut l p).1, t.a < p + l.length) ?_ ?_ ?_ ?_ ?_ ?_ l p
  · intro p; simp [cut_nil]
  · intro c r p hb ih; rw [cut_blank r p hb]; intro t ht; have := ih t ht; simp; omega
  · intro c r p hs h2; rw [cut_end p hs h2]; simp
  · intro c r d s p hs h2 h3 ih; rw [cut_rem p hs h2 h3]; intro t ht; have := ih t ht; simp; omega
  · intro c r p hb hs he; rw [cut_bad r p hb hs he]; simp
  · intro w s p hw ho ih
    rw [cut_word hw ho p]
    have hp := hw.pos
    unfold app
    split
    · intro t ht
      simp only [List.mem_cons] at ht
      rcases ht with rfl | ht
      · rw [(tkW_is hw p).2.2.2.1]; simp; omega
      · have := ih t ht; simp; omega
    · intro t ht
      have := ih t ht; simp; omega
def mores : List (List UInt8) := [[59], [125], [62], [117, 56], [122, 122], [49], [61], [58], [44], [60], [123]]
theorem mores_tw (j : Nat) (hj : j < 11) : Tw (mores.getD j []) ∧ (∀ p, core (tkW (mores.getD j []) p) = toks.getD j q0) ∧ (mores.getD j []).length ≤ 2 := by
  have h : j = 0 ∨ j = 1 ∨ j = 2 ∨ j = 3 ∨ j = 4 ∨ j = 5 ∨ j = 6 ∨ j = 7 ∨ j = 8 ∨ j = 9 ∨ j = 10 := by omega
  rcases h with rfl | rfl | rfl | rfl | rfl | rfl | rfl | rfl | rfl | rfl | rfl
  all_goals exact ⟨⟨_, _, rfl, by decide, by decide, by decide⟩, fun p => rfl, by decide⟩
/-- The text with a line's end and a token more. -/
def nx (s : ByteArray) (j : Nat) : ByteArray := ⟨(s.data.toList ++ 10 :: mores.getD j []).toArray⟩
theorem nx_size (s : ByteArray) (j : Nat) : (nx s j).size = s.size + 1 + (mores.getD j []).length := by
  rw [Lib.size_eq, Lib.size_eq, nx]; simp; omega
theorem nx_cut {s : ByteArray} {j : Nat} (hj : j < 11) (hs : s.size ≤ 60000) (h : (cutT s).2.1 = 0) : cutT (nx s j) = ((cutT s).1 ++ [tkW (mores.getD j []) (s.size + 1)], 0, 0) := by
  obtain ⟨h1, h2, h3⟩ := mores_tw j hj
  have hn := nx_size s j
  unfold cutT at h ⊢
  rw [if_neg (by omega)] at h ⊢
  rw [if_neg (by omega)]
  have e : (nx s j).data.toList = s.data.toList ++ 10 :: mores.getD j [] := by simp [nx]
  rw [e, cut_nl _ 0 h, cut_alone h1]
  have e2 : 0 + s.data.toList.length + 1 = s.size + 1 := by rw [Lib.size_eq]; omega
  rw [e2]
  simp [apps]
def TE (s : ByteArray) (c : Nat) : Prop := (cutT s).2.1 = 0 ∧ Early ((cutT s).1.map core) c
theorem src_le {qs : List Q} {e : Nat × Nat} (h : srcP qs 257 [] 0 = .error e) : e.2 ≤ qs.length ∧ (e.1 = 5 ∨ e.1 = 60 ∨ e.1 = 61) := by
  obtain ⟨n, hn⟩ := src_err h
  obtain ⟨m, u, h1, h2⟩ := run_err n _ _ hn
  have hI := (run_inv m _ u inv0 h1).1
  have hk := stepQ_inv hI (q_lt hI.2.2.2)
  rw [← stepM_eq, h2] at hk
  exact ⟨by rw [hk.1]; exact hI.2.2.2, hk.2⟩
theorem plc_lt {s : ByteArray} (h : (cutT s).2.1 = 0) {k : Nat} (hk : k < (cutT s).1.length) : plc (cutT s).1 s.size k < s.size := by
  unfold plc tkAt
  rw [if_pos hk]
  have hm : (cutT s).1.getD k tk0 ∈ (cutT s).1 := by rw [List.getD_eq_getElem?_getD, List.getElem?_eq_getElem hk]; exact List.getElem_mem hk
  unfold cutT at h hm ⊢
  split at h
  · simp at h
  · rename_i hs
    rw [if_neg hs] at hm ⊢
    have := cut_a _ _ _ hm
    rw [← Lib.size_eq] at this
    omega
theorem te_of {s : ByteArray} (h : (prsT s).2 = (60, s.size)) : ∃ c, c ≤ 89 ∧ TE s c := by
  have hc : (cutT s).2.1 = 0 := by
    by_cases h0 : (cutT s).2.1 = 0
    · exact h0
    · rw [prs_bad h0] at h
      have h1 : (cutT s).2.1 = 60 := congrArg Prod.fst h
      unfold cutT at h1
      split at h1
      · simp at h1
      · have := (cut_form s.data.toList 0).1 (by rw [h1]; decide)
        omega
  cases hr : srcP ((cutT s).1.map core) 257 [] 0 with
  | ok D => rw [prs_ok hc hr] at h; cases h
  | error e =>
    rw [prs_err hc hr] at h
    obtain ⟨e1, e2⟩ := e
    have h1 : e1 = 60 := congrArg Prod.fst h
    have h2 : plc (cutT s).1 s.size e2 = s.size := congrArg Prod.snd h
    have h3 := (src_le hr).1
    rw [List.length_map] at h3
    have h4 : e2 = (cutT s).1.length := by
      rcases Nat.lt_or_ge e2 (cutT s).1.length with hl | hl
      · have := plc_lt hc hl; omega
      · have h5 : e2 ≤ (cutT s).1.length := h3
        omega
    subst h1 h4
    obtain ⟨c, hc1, hc2⟩ := Early.of (qs := (cutT s).1.map core) (by rw [hr, List.length_map])
    exact ⟨c, hc1, hc, hc2⟩
/-- One token more, in texts. -/
theorem te_on {s : ByteArray} {c : Nat} (h : TE s c) (hs : s.size ≤ 60000) : ∃ a, a < 11 ∧ (∀ j, j < a → (prsT (nx s j)).2 = (60, s.size + 1)) ∧
    ((prsT (nx s a)).2.1 = 0 ∨ (prsT (nx s a)).2.1 = 61 ∨ (prsT (nx s a)).2.1 = 5 ∨ ((prsT (nx s a)).2 = (60, (nx s a).size) ∧ ∃ c', c' < c ∧ TE (nx s a) c')) := by
  obtain ⟨a, ha, h1, h2⟩ := go_on h.2
  have hx : ∀ j, j < 11 → ((cutT (nx s j)).1.map core = (cutT s).1.map core ++ [toks.getD j q0] ∧ (cutT (nx s j)).2.1 = 0) := fun j hj => by
    rw [nx_cut hj hs h.1]
    exact ⟨by rw [List.map_append, List.map_cons, List.map_nil, (mores_tw j hj).2.1], rfl⟩
  refine ⟨a, ha, fun j hj => ?_, ?_⟩
  · have hj11 : j < 11 := by omega
    have e := h1 j hj
    rw [← (hx j hj11).1] at e
    rw [prs_err (hx j hj11).2 e]
    have : plc (cutT (nx s j)).1 (nx s j).size ((cutT s).1.map core).length = s.size + 1 := by
      rw [nx_cut hj11 hs h.1, List.length_map]
      unfold plc tkAt
      rw [if_pos (by simp)]
      have hk := (tkW_is (mores_tw j hj11).1 (s.size + 1)).2.2.2.1
      simpa [List.getD] using hk
    rw [this]
  · rw [← (hx a ha).1] at h2
    rcases h2 with ⟨D, hD⟩ | ⟨e, he, he2⟩ | ⟨he, c', hc1, hc2⟩
    · left; rw [prs_ok (hx a ha).2 hD]
    · rcases he2 with he2 | he2
      · right; right; left; rw [prs_err (hx a ha).2 he]; exact he2
      · right; left; rw [prs_err (hx a ha).2 he]; exact he2
    · right; right; right
      refine ⟨?_, c', hc1, (hx a ha).2, hc2⟩
      rw [prs_err (hx a ha).2 he]
      have : plc (cutT (nx s a)).1 (nx s a).size (((cutT s).1.map core).length + 1) = (nx s a).size := by
        rw [nx_cut ha hs h.1, List.length_map]
        unfold plc tkAt
        rw [if_neg (by simp)]
      rw [this]
end Go.Proofs.Ytokepgimjdalaaa

/- Other blanks between the tokens, plain. -/
namespace Go.Proofs.Ytokepgimjdalaaa
set_option linter.unusedVariables false

theorem cut_ge (l : List UInt8) (p : Nat) : ∀ t ∈ (cut l p).1, p ≤ t.a := by
  refine cut_ind (fun l p => ∀ t ∈ (cut l p).1, p ≤ t.a) ?_ ?_ ?_ ?_ ?_ ?_ l p
  · intro p; simp [cut_nil]
  · intro c r p hb ih; rw [cut_blank r p hb]; intro t ht; have := ih t ht; omega
  · intro c r p hs h2; rw [cut_end p hs h2]; simp
  · intro c r d s p hs h2 h3 ih; rw [cut_rem p hs h2 h3]; intro t ht; have := ih t ht; omega
  · intro c r p hb hs he; rw [cut_bad r p hb hs he]; simp
  · intro w s p hw ho ih
    rw [cut_word hw ho p]
    unfold app
    split
    · intro t ht
      simp only [List.mem_cons] at ht
      rcases ht with rfl | ht
      · rw [(tkW_is hw p).2.2.2.1]; exact Nat.le_refl _
      · have := ih t ht; omega
    · intro t ht
      have := ih t ht; omega
/-- Places rise. -/
theorem cut_rise (l : List UInt8) (p : Nat) : (cut l p).1.Pairwise (fun a b => a.a < b.a) := by
  refine cut_ind (fun l p => (cut l p).1.Pairwise (fun a b => a.a < b.a)) ?_ ?_ ?_ ?_ ?_ ?_ l p
  · intro p; simp [cut_nil]
  · intro c r p hb ih; rw [cut_blank r p hb]; exact ih
  · intro c r p hs h2; rw [cut_end p hs h2]; simp
  · intro c r d s p hs h2 h3 ih; rw [cut_rem p hs h2 h3]; exact ih
  · intro c r p hb hs he; rw [cut_bad r p hb hs he]; simp
  · intro w s p hw ho ih
    rw [cut_word hw ho p]
    unfold app
    split
    · refine List.pairwise_cons.2 ⟨fun t ht => ?_, ih⟩
      have h1 := cut_ge s (p + w.length) t ht
      have h2 := hw.pos
      rw [(tkW_is hw p).2.2.2.1]
      omega
    · exact ih
theorem cutT_rise (s : ByteArray) : (cutT s).1.Pairwise (fun a b => a.a < b.a) := by
  unfold cutT
  split
  · exact List.Pairwise.nil
  · exact cut_rise _ _
/-- The token at fault is found by its place. -/
theorem plc_find {s : ByteArray} (h : (cutT s).2.1 = 0) {k : Nat} (hk : k ≤ (cutT s).1.length) : (∀ i, i < k → ((cutT s).1.getD i tk0).a < plc (cutT s).1 s.size k) ∧ (k < (cutT s).1.length → ((cutT s).1.getD k tk0).a = plc (cutT s).1 s.size k) := by
  constructor
  · intro i hi
    have hi2 : i < (cutT s).1.length := by omega
    rcases Nat.lt_or_ge k (cutT s).1.length with h1 | h1
    · unfold plc tkAt
      rw [if_pos h1]
      have hp := List.pairwise_iff_getElem.1 (cutT_rise s) i k hi2 h1 hi
      simpa [List.getD, hi2, h1] using hp
    · have e : plc (cutT s).1 s.size k = s.size := by unfold plc tkAt; rw [if_neg (by omega)]
      have h2 := plc_lt h hi2
      unfold plc tkAt at h2
      rw [if_pos hi2] at h2
      rw [e]
      exact h2
  · intro h1
    unfold plc tkAt
    rw [if_pos h1]
theorem zdf_dfp (ts : List Tk) (L : Nat) (d : Df) : zDf (dfP ts L d) = zDf d := by
  unfold zDf dfP
  simp only [List.map_map]
  congr 1
/-- Two texts of the same tokens. -/
theorem prs_same {s x : ByteArray} (hs : (cutT s).2.1 = 0) (hx : (cutT x).2.1 = 0) (hc : (cutT x).1.map core = (cutT s).1.map core) :
    (prsT s).2.1 = (prsT x).2.1 ∧ (prsT s).1.map zDf = (prsT x).1.map zDf ∧ ((prsT s).2.1 ≠ 0 → ∃ k, k ≤ (cutT s).1.length ∧ (prsT s).2.2 = plc (cutT s).1 s.size k ∧ (prsT x).2.2 = plc (cutT x).1 x.size k) := by
  cases hr : srcP ((cutT s).1.map core) 257 [] 0 with
  | ok D =>
    have hr2 : srcP ((cutT x).1.map core) 257 [] 0 = .ok D := by rw [hc]; exact hr
    rw [prs_ok hs hr, prs_ok hx hr2]
    refine ⟨rfl, ?_, fun h => absurd rfl h⟩
    simp only [List.map_map]
    congr 1
    funext d
    simp only [Function.comp]
    rw [zdf_dfp, zdf_dfp]
  | error e =>
    have hr2 : srcP ((cutT x).1.map core) 257 [] 0 = .error e := by rw [hc]; exact hr
    have h3 := (src_le hr).1
    rw [List.length_map] at h3
    rw [prs_err hs hr, prs_err hx hr2]
    exact ⟨rfl, rfl, fun _ => ⟨e.2, h3, rfl, rfl⟩⟩
theorem Bd.end {b F : List UInt8} {ts : List Tk} (h : Bd b ts) (hF : gp false F false = true) : cut (b ++ F) 0 = (ts, 0, 0) := by
  rw [h F]
  have := cut_gap (G := F) [] b.length hF
  rw [List.append_nil] at this
  rw [this, cut_nil]
  simp [apps]
/-- One more token, blanks ahead of it, something else behind. -/
def Bk (b : List UInt8) (ts : List Tk) : Prop := ∀ F X, IsFill F → cut (b ++ F ++ X) 0 = apps ts (cut X (b ++ F).length)
theorem Bk.nil : Bk [] [] := fun F X hF => by rw [List.nil_append, cut_gap X 0 hF.1, apps_nil]; simp
theorem Bk.step {b F w : List UInt8} {ts : List Tk} (h : Bk b ts) (hF : IsFill F) (hw : Tw w) : Bk (b ++ F ++ w) (ts ++ [tkW w (b ++ F).length]) := fun F2 X hF2 => by
  rw [List.append_assoc, List.append_assoc]
  rw [h F (w ++ (F2 ++ X)) hF, cut_word hw (hF2.off w X), apps_app, cut_gap X _ hF2.1]
  congr 2
  simp; omega
theorem Bk.whole {b F : List UInt8} {ts : List Tk} (h : Bk b ts) (hF : IsFill F) : cut (b ++ F) 0 = (ts, 0, 0) := by
  have := h F [] hF
  rw [List.append_nil, cut_nil] at this
  rw [this]
  simp [apps]
end Go.Proofs.Ytokepgimjdalaaa
