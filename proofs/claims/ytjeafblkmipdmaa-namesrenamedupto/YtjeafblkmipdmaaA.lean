/- Texts cut into tokens, plain: nothing of the program is named. -/
import Derived.Test.YtjeafblkmipdmaaBase
namespace Go.Proofs.Ytjeafblkmipdmaa
set_option linter.unusedVariables false

def letter (c : UInt8) : Bool := decide (97 ≤ c.toNat ∧ c.toNat ≤ 122)
def digit (c : UInt8) : Bool := decide (48 ≤ c.toNat ∧ c.toNat ≤ 57)
def blank (c : UInt8) : Bool := decide (c.toNat = 32 ∨ c.toNat = 9 ∨ c.toNat = 10)
def mark (c : UInt8) : Bool := decide (c.toNat = 61 ∨ c.toNat = 59 ∨ c.toNat = 60 ∨ c.toNat = 62 ∨ c.toNat = 44 ∨ c.toNat = 58 ∨ c.toNat = 123 ∨ c.toNat = 125)
def goes (c : UInt8) : Bool := letter c || digit c || decide (c.toNat = 95)
def sharp (c : UInt8) : Bool := decide (c.toNat = 35)
/-- It does not end a line. -/
def inl (c : UInt8) : Bool := decide (c.toNat ≠ 10)

/-- A token: kind, text, number, the first place, the place behind. -/
structure Tk where
  k : Int
  t : ByteArray
  n : Int
  a : Nat
  e : Nat

def num (w : List UInt8) : Nat := w.foldl (fun n d => n * 10 + (d.toNat - 48)) 0
def numOk (w : List UInt8) : Bool := decide (¬ (1 < w.length ∧ ∃ c, w.head? = some c ∧ c.toNat = 48) ∧ num w ≤ 2147483647)
/-- May this byte go on in the token that begins with that one? -/
def follows (c x : UInt8) : Bool := if letter c then goes x else if digit c then digit x else false
/-- How long the token is that begins here; 0: none does. -/
def wl : List UInt8 → Nat
  | [] => 0
  | c :: r => if letter c || digit c || mark c then 1 + (r.takeWhile (follows c)).length else 0
/-- What is wrong with a token that is written so. -/
def erW : List UInt8 → Nat
  | [] => 50
  | c :: r => if letter c then (if r.length < 32 then 0 else 52) else if digit c then (if numOk (c :: r) then 0 else 51) else 0
def tkW (w : List UInt8) (p : Nat) : Tk :=
  match w with
  | [] => ⟨0, ⟨#[]⟩, 0, 0, 0⟩
  | c :: r => if letter c then ⟨1, ⟨w.toArray⟩, 0, p, p + w.length⟩ else if digit c then ⟨2, ⟨#[]⟩, num w, p, p + w.length⟩ else ⟨3, ⟨w.toArray⟩, 0, p, p + w.length⟩
abbrev Cu := List Tk × Nat × Nat
def app (t : Tk) (R : Cu) : Cu := if R.2.1 = 0 then (t :: R.1, 0, 0) else R
def apps (ts : List Tk) (R : Cu) : Cu := if R.2.1 = 0 then (ts ++ R.1, 0, 0) else R
def cutF : Nat → List UInt8 → Nat → Cu
  | 0, _, _ => ([], 0, 0)
  | _ + 1, [], _ => ([], 0, 0)
  | f + 1, c :: r, p =>
    if blank c then cutF f r (p + 1)
    else if sharp c then cutF f (r.dropWhile inl) (p + 1 + (r.takeWhile inl).length)
    else if erW ((c :: r).take (wl (c :: r))) = 0 then app (tkW ((c :: r).take (wl (c :: r))) p) (cutF f ((c :: r).drop (wl (c :: r))) (p + wl (c :: r)))
    else ([], erW ((c :: r).take (wl (c :: r))), p)
def cut (l : List UInt8) (p : Nat) : Cu := cutF l.length l p

theorem drop_le (l : List UInt8) (q : UInt8 → Bool) : (l.dropWhile q).length ≤ l.length := (List.dropWhile_sublist q).length_le
theorem er_wl {c : UInt8} {r : List UInt8} (h : erW ((c :: r).take (wl (c :: r))) = 0) : 0 < wl (c :: r) := by
  rcases Nat.eq_zero_or_pos (wl (c :: r)) with h0 | h0
  · rw [h0] at h; simp [erW] at h
  · exact h0
theorem cutF_fuel : ∀ (f g : Nat) (l : List UInt8) (p : Nat), l.length ≤ f → l.length ≤ g → cutF f l p = cutF g l p := by
  intro f
  induction f with
  | zero =>
    intro g l p h1 h2
    have : l = [] := List.eq_nil_of_length_eq_zero (by omega)
    subst this
    cases g <;> rfl
  | succ f ih =>
    intro g l p h1 h2
    cases l with
    | nil => cases g <;> rfl
    | cons c r =>
      cases g with
      | zero => simp at h2
      | succ g =>
        simp only [List.length_cons] at h1 h2
        unfold cutF
        have hd := drop_le r inl
        rw [ih g r (p + 1) (by omega) (by omega), ih g (r.dropWhile inl) (p + 1 + (r.takeWhile inl).length) (by omega) (by omega)]
        by_cases he : erW ((c :: r).take (wl (c :: r))) = 0
        · have h3 := er_wl he
          rw [ih g ((c :: r).drop (wl (c :: r))) (p + wl (c :: r)) (by simp; omega) (by simp; omega)]
        · simp only [if_neg he]
theorem cut_nil (p : Nat) : cut [] p = ([], 0, 0) := rfl
theorem cut_blank {c : UInt8} (r : List UInt8) (p : Nat) (h : blank c = true) : cut (c :: r) p = cut r (p + 1) := by
  unfold cut
  rw [List.length_cons, cutF, if_pos h]
theorem blank_35 {c : UInt8} (h : sharp c = true) : blank c = false := by
  simp [sharp, blank] at *
  omega
theorem cut_sharp {c : UInt8} (r : List UInt8) (p : Nat) (h : sharp c = true) : cut (c :: r) p = cut (r.dropWhile inl) (p + 1 + (r.takeWhile inl).length) := by
  unfold cut
  rw [List.length_cons, cutF, if_neg (by rw [blank_35 h]; simp), if_pos h]
  exact cutF_fuel _ _ _ _ (drop_le r inl) (Nat.le_refl _)
theorem cut_bad {c : UInt8} (r : List UInt8) (p : Nat) (h1 : blank c = false) (h2 : sharp c = false) (h3 : erW ((c :: r).take (wl (c :: r))) ≠ 0) : cut (c :: r) p = ([], erW ((c :: r).take (wl (c :: r))), p) := by
  unfold cut
  rw [List.length_cons, cutF, if_neg (by rw [h1]; simp), if_neg (by rw [h2]; simp), if_neg h3]
theorem cut_tok {c : UInt8} (r : List UInt8) (p : Nat) (h1 : blank c = false) (h2 : sharp c = false) (h3 : erW ((c :: r).take (wl (c :: r))) = 0) :
    cut (c :: r) p = app (tkW ((c :: r).take (wl (c :: r))) p) (cut ((c :: r).drop (wl (c :: r))) (p + wl (c :: r))) := by
  have h0 := er_wl h3
  unfold cut
  rw [List.length_cons, cutF, if_neg (by rw [h1]; simp), if_neg (by rw [h2]; simp), if_pos h3]
  rw [cutF_fuel r.length ((c :: r).drop (wl (c :: r))).length _ _ (by simp; omega) (Nat.le_refl _)]

/-! ### Words and what stands behind them -/
/-- A whole token is written so. -/
def Tw (w : List UInt8) : Prop := ∃ c r, w = c :: r ∧ (letter c || digit c || mark c) = true ∧ (∀ x ∈ r, follows c x = true) ∧ erW w = 0
/-- What stands behind it does not belong to it. -/
def Off (w s : List UInt8) : Prop := ∀ c r x y, w = c :: r → s = x :: y → follows c x = false
theorem takeWhile_app {q : UInt8 → Bool} : ∀ {r s : List UInt8}, (∀ x ∈ r, q x = true) → (∀ x y, s = x :: y → q x = false) → (r ++ s).takeWhile q = r
  | [], s, _, h => by
    cases s with
    | nil => rfl
    | cons x y => simp [h x y rfl]
  | a :: r, s, h1, h => by
    have ha := h1 a (by simp)
    have := takeWhile_app (r := r) (s := s) (fun x hx => h1 x (by simp [hx])) h
    simp [ha, this]
theorem dropWhile_app {q : UInt8 → Bool} : ∀ {r s : List UInt8}, (∀ x ∈ r, q x = true) → (∀ x y, s = x :: y → q x = false) → (r ++ s).dropWhile q = s
  | [], s, _, h => by
    cases s with
    | nil => rfl
    | cons x y => simp [h x y rfl]
  | a :: r, s, h1, h => by
    have ha := h1 a (by simp)
    have := dropWhile_app (r := r) (s := s) (fun x hx => h1 x (by simp [hx])) h
    simp [ha, this]
theorem split_while (q : UInt8 → Bool) : ∀ l : List UInt8, ∃ r s, l = r ++ s ∧ (∀ x ∈ r, q x = true) ∧ (∀ x y, s = x :: y → q x = false)
  | [] => ⟨[], [], rfl, by simp, by simp⟩
  | a :: l => by
    obtain ⟨r, s, h1, h2, h3⟩ := split_while q l
    cases ha : q a with
    | true => exact ⟨a :: r, s, by rw [h1]; rfl, fun x hx => by simp at hx; rcases hx with rfl | hx; exact ha; exact h2 x hx, h3⟩
    | false => exact ⟨[], a :: l, rfl, by simp, fun x y h => by injection h with h _; subst h; exact ha⟩
theorem Tw.wl {w s : List UInt8} (h : Tw w) (k : Off w s) : wl (w ++ s) = w.length := by
  obtain ⟨c, r, rfl, h1, h2, _⟩ := h
  rw [List.cons_append, Ytjeafblkmipdmaa.wl, if_pos h1, takeWhile_app h2 (fun x y hs => k c r x y rfl hs)]
  simp; omega
theorem first_not {c : UInt8} (h : (letter c || digit c || mark c) = true) : blank c = false ∧ sharp c = false := by
  simp [letter, digit, mark, blank, sharp] at *
  omega
theorem cut_word {w s : List UInt8} (h : Tw w) (k : Off w s) (p : Nat) : cut (w ++ s) p = app (tkW w p) (cut s (p + w.length)) := by
  have hw := h.wl k
  obtain ⟨c, r, rfl, h1, h2, h3⟩ := h
  obtain ⟨hb, hs⟩ := first_not h1
  have ht : (c :: r ++ s).take (wl (c :: r ++ s)) = c :: r := by rw [hw]; simp
  have hd : (c :: r ++ s).drop (wl (c :: r ++ s)) = s := by rw [hw]; simp
  rw [List.cons_append] at ht hd hw ⊢
  rw [cut_tok (r ++ s) p hb hs (by rw [ht]; exact h3), ht, hd, hw]
/-- Any text is nothing, a blank, a remark, a fault, or a token, and what stands behind it. -/
theorem cut_ind (P : List UInt8 → Nat → Prop) (hnil : ∀ p, P [] p) (hblank : ∀ c r p, blank c = true → P r (p + 1) → P (c :: r) p)
    (hend : ∀ c r p, sharp c = true → (∀ x ∈ r, inl x = true) → P (c :: r) p)
    (hrem : ∀ c r d s p, sharp c = true → (∀ x ∈ r, inl x = true) → d.toNat = 10 → P s (p + 1 + r.length + 1) → P (c :: (r ++ d :: s)) p)
    (hbad : ∀ c r p, blank c = false → sharp c = false → erW ((c :: r).take (wl (c :: r))) ≠ 0 → P (c :: r) p)
    (htok : ∀ w s p, Tw w → Off w s → P s (p + w.length) → P (w ++ s) p) : ∀ (l : List UInt8) (p : Nat), P l p := by
  have key : ∀ (n : Nat) (l : List UInt8) (p : Nat), l.length ≤ n → P l p := by
    intro n
    induction n with
    | zero =>
      intro l p h
      have : l = [] := List.eq_nil_of_length_eq_zero (by omega)
      subst this
      exact hnil p
    | succ n ih =>
      intro l p h
      cases l with
      | nil => exact hnil p
      | cons c r =>
        simp only [List.length_cons] at h
        cases hb : blank c with
        | true => exact hblank c r p hb (ih r _ (by omega))
        | false =>
          cases hs : sharp c with
          | true =>
            obtain ⟨r1, s1, rfl, h2, h3⟩ := split_while inl r
            cases s1 with
            | nil => rw [List.append_nil]; exact hend c r1 p hs h2
            | cons d s =>
              have h4 := h3 d s rfl
              simp only [List.length_append, List.length_cons] at h
              exact hrem c r1 d s p hs h2 (by simpa [inl] using h4) (ih s _ (by omega))
          | false =>
            by_cases he : erW ((c :: r).take (wl (c :: r))) = 0
            · have h0 := er_wl he
              have hf : (letter c || digit c || mark c) = true := by
                cases hf : (letter c || digit c || mark c) with
                | true => rfl
                | false => rw [wl, hf] at h0; simp at h0
              obtain ⟨r1, s1, rfl, h2, h3⟩ := split_while (follows c) r
              have hw : wl (c :: (r1 ++ s1)) = 1 + r1.length := by rw [wl, if_pos hf, takeWhile_app h2 h3]
              have ht : (c :: (r1 ++ s1)).take (wl (c :: (r1 ++ s1))) = c :: r1 := by
                rw [hw, Nat.add_comm]; simp
              have hT : Tw (c :: r1) := ⟨c, r1, rfl, hf, h2, by rw [← ht]; exact he⟩
              have hO : Off (c :: r1) s1 := fun c' r' x y e1 e2 => by injection e1 with e1 _; subst e1; exact h3 x y e2
              simp only [List.length_append] at h
              exact htok (c :: r1) s1 p hT hO (ih s1 _ (by omega))
            · exact hbad c r p hb hs he
  exact fun l p => key l.length l p (Nat.le_refl _)
theorem cut_end {c : UInt8} {r : List UInt8} (p : Nat) (h : sharp c = true) (h2 : ∀ x ∈ r, inl x = true) : cut (c :: r) p = ([], 0, 0) := by
  rw [cut_sharp r p h]
  have := dropWhile_app (r := r) (s := []) h2 (by simp)
  rw [List.append_nil] at this
  rw [this]
  rfl
theorem inl_10 {d : UInt8} (h : d.toNat = 10) : inl d = false := by simp [inl, h]
theorem blank_10 {d : UInt8} (h : d.toNat = 10) : blank d = true := by simp [blank, h]
theorem cut_rem {c d : UInt8} {r s : List UInt8} (p : Nat) (h : sharp c = true) (h2 : ∀ x ∈ r, inl x = true) (h3 : d.toNat = 10) : cut (c :: (r ++ d :: s)) p = cut s (p + 1 + r.length + 1) := by
  have hx : ∀ x y, d :: s = x :: y → inl x = false := fun x y e => by injection e with e _; subst e; exact inl_10 h3
  rw [cut_sharp _ p h, dropWhile_app h2 hx, takeWhile_app h2 hx, cut_blank s _ (blank_10 h3)]
/-- With a fault no tokens; without one no place; a fault's place is no place ahead. -/
theorem cut_form (l : List UInt8) (p : Nat) : ((cut l p).2.1 ≠ 0 → (cut l p).1 = [] ∧ p ≤ (cut l p).2.2 ∧ (cut l p).2.2 < p + l.length ∧ (cut l p).2.1 ≤ 52 ∧ 50 ≤ (cut l p).2.1) ∧ ((cut l p).2.1 = 0 → (cut l p).2.2 = 0) := by
  revert p
  refine fun p => cut_ind (fun l p => ((cut l p).2.1 ≠ 0 → (cut l p).1 = [] ∧ p ≤ (cut l p).2.2 ∧ (cut l p).2.2 < p + l.length ∧ (cut l p).2.1 ≤ 52 ∧ 50 ≤ (cut l p).2.1) ∧ ((cut l p).2.1 = 0 → (cut l p).2.2 = 0)) ?_ ?_ ?_ ?_ ?_ ?_ l p
  · intro p; simp [cut_nil]
  · intro c r p hb ih
    rw [cut_blank r p hb]
    exact ⟨fun h => ⟨(ih.1 h).1, by have := (ih.1 h).2.1; omega, by have := (ih.1 h).2.2.1; simp; omega, (ih.1 h).2.2.2⟩, ih.2⟩
  · intro c r p hs h2; rw [cut_end p hs h2]; simp
  · intro c r d s p hs h2 h3 ih
    rw [cut_rem p hs h2 h3]
    exact ⟨fun h => ⟨(ih.1 h).1, by have := (ih.1 h).2.1; omega, by have := (ih.1 h).2.2.1; simp; omega, (ih.1 h).2.2.2⟩, ih.2⟩
  · intro c r p hb hs he
    rw [cut_bad r p hb hs he]
    refine ⟨fun _ => ⟨rfl, Nat.le_refl _, by simp, ?_⟩, fun h => absurd h he⟩
    have : ∀ w : List UInt8, erW w ≠ 0 → erW w ≤ 52 ∧ 50 ≤ erW w := by
      intro w hw
      cases w with
      | nil => simp [erW]
      | cons a b =>
        have h52 : erW (a :: b) = 0 ∨ erW (a :: b) = 52 ∨ erW (a :: b) = 51 := by
          have e : erW (a :: b) = if letter a then (if b.length < 32 then 0 else 52) else if digit a then (if numOk (a :: b) then 0 else 51) else 0 := rfl
          rw [e]
          cases letter a <;> cases digit a <;> cases numOk (a :: b) <;> by_cases hl : b.length < 32 <;> simp [hl]
        omega
    exact this _ he
  · intro w s p hw ho ih
    rw [cut_word hw ho p]
    unfold app
    by_cases h : (cut s (p + w.length)).2.1 = 0
    · rw [if_pos h]; simp
    · rw [if_neg h]
      exact ⟨fun h => ⟨(ih.1 h).1, by have := (ih.1 h).2.1; omega, by have := (ih.1 h).2.2.1; simp; omega, (ih.1 h).2.2.2⟩, ih.2⟩
end Go.Proofs.Ytjeafblkmipdmaa
