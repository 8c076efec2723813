import Derived.Test.YtjamfbpdepahnaaGreatPart02
import Derived.Lib.BitFns
namespace Go.Proofs.YtjamfbpdepahnaaGreat
open Go.RowKit
set_option linter.unusedVariables false
set_option linter.unusedSimpArgs false
def val : List Int → Int
  | [] => 0
  | c :: l => c % 128 + 128 * val l
theorem getD_mem (l : List Int) (k : Nat) (h : k < l.length) : l.getD k 0 ∈ l := by
  simp [List.getD, h]
def Bys (l : List Int) : Prop := ∀ x ∈ l, 0 ≤ x ∧ x ≤ 255
theorem Bys.at {l : List Int} (h : Bys l) (k : Nat) : 0 ≤ l.getD k 0 ∧ l.getD k 0 ≤ 255 := by
  by_cases hk : k < l.length
  · exact h _ (getD_mem l k hk)
  · simp [List.getD, hk]
theorem Bys.take {l : List Int} (h : Bys l) (k : Nat) : Bys (l.take k) := fun x hx => h x (List.mem_of_mem_take hx)
theorem Bys.drop {l : List Int} (h : Bys l) (k : Nat) : Bys (l.drop k) := fun x hx => h x (List.mem_of_mem_drop hx)
theorem Bys.append {l r : List Int} (h : Bys l) (g : Bys r) : Bys (l ++ r) := fun x hx => (List.mem_append.1 hx).elim (h x) (g x)
def flt (k : Nat) (c : Int) : Bool := (decide (0 < k) && (c == 0)) || (k == 9 && decide (1 < c))
theorem flt_iff (k : Nat) (c : Int) : flt k c = true ↔ (0 < k ∧ c = 0) ∨ (k = 9 ∧ 1 < c) := by simp [flt]
def Good (l : List Int) (k : Nat) : Prop := k ≤ 9 ∧ k ≤ l.length ∧ ∀ j, j < k → 128 ≤ l.getD j 0
def GetR (l : List Int) (n : Int) (u : Nat) (e : Int) : Prop :=
  (Good l l.length ∧ n = 0 ∧ u = l.length ∧ e = 20) ∨
  (∃ k, k < l.length ∧ Good l k ∧ flt k (l.getD k 0) = true ∧ n = 0 ∧ u = k ∧ e = 21) ∨
  (∃ k, k < l.length ∧ Good l k ∧ flt k (l.getD k 0) = false ∧ l.getD k 0 < 128 ∧ n = val (l.take (k + 1)) ∧ u = k + 1 ∧ e = 0)
theorem Good.zero (l : List Int) : Good l 0 := ⟨by omega, by omega, fun j hj => by omega⟩
theorem Good.le {l : List Int} {k i : Nat} (h : Good l k) (hi : i ≤ k) : Good l i := ⟨by have := h.1; omega, by have := h.2.1; omega, fun j hj => h.2.2 j (by omega)⟩
theorem GetR.det {l : List Int} {n m e f : Int} {u v : Nat} (h : GetR l n u e) (g : GetR l m v f) : n = m ∧ u = v ∧ e = f := by
  have key : ∀ k k' : Nat, k < l.length → Good l k → (flt k (l.getD k 0) = true ∨ l.getD k 0 < 128) → Good l k' → k' ≤ k := by
    intro k k' hk hg hx hg'
    rcases Nat.lt_or_ge k k' with h1 | h1
    · have := hg'.2.2 k h1
      have h9 := hg'.1
      rcases hx with hx | hx
      · rw [flt_iff] at hx; omega
      · omega
    · exact h1
  rcases h with ⟨a1, rfl, rfl, rfl⟩ | ⟨k, a1, a2, a3, rfl, rfl, rfl⟩ | ⟨k, a1, a2, a3, a4, rfl, rfl, rfl⟩ <;> rcases g with ⟨b1, rfl, rfl, rfl⟩ | ⟨k', b1, b2, b3, rfl, rfl, rfl⟩ | ⟨k', b1, b2, b3, b4, rfl, rfl, rfl⟩
  · exact ⟨rfl, rfl, rfl⟩
  · have := key _ _ b1 b2 (.inl b3) a1; omega
  · have := key k' _ b1 b2 (.inr b4) a1; omega
  · have := key _ _ a1 a2 (.inl a3) b1; omega
  · have h1 := key _ _ a1 a2 (.inl a3) b2
    have h2 := key _ _ b1 b2 (.inl b3) a2
    obtain rfl : u = v := by omega
    exact ⟨rfl, rfl, rfl⟩
  · have h1 := key _ _ a1 a2 (.inl a3) b2
    have h2 := key _ _ b1 b2 (.inr b4) a2
    obtain rfl : u = k' := by omega
    rw [a3] at b3; cases b3
  · have := key _ _ a1 a2 (.inr a4) b1; omega
  · have h1 := key _ _ a1 a2 (.inr a4) b2
    have h2 := key _ _ b1 b2 (.inl b3) a2
    obtain rfl : k = v := by omega
    rw [a3] at b3; cases b3
  · have h1 := key _ _ a1 a2 (.inr a4) b2
    have h2 := key _ _ b1 b2 (.inr b4) a2
    obtain rfl : k = k' := by omega
    exact ⟨rfl, rfl, rfl⟩
def Sz (n s : Nat) : Prop := 1 ≤ s ∧ n < 128 ^ s ∧ (s = 1 ∨ 128 ^ (s - 1) ≤ n)
theorem Sz.le {n m s t : Nat} (h : Sz n s) (g : Sz m t) (hnm : n ≤ m) : s ≤ t := by
  obtain ⟨h1, h2, h3⟩ := h
  obtain ⟨g1, g2, g3⟩ := g
  rcases Nat.lt_or_ge t s with hlt | hge
  · rcases h3 with rfl | h3
    · omega
    · have : 128 ^ t ≤ 128 ^ (s - 1) := Nat.pow_le_pow_right (by omega) (by omega)
      omega
  · exact hge
theorem Sz.det {n s t : Nat} (h : Sz n s) (g : Sz n t) : s = t := Nat.le_antisymm (h.le g (Nat.le_refl _)) (g.le h (Nat.le_refl _))
def szN (n : Nat) : Nat := max 1 ((Lib.bitLen n + 6) / 7)
def formF : Nat → Nat → List Int
  | 0, n => [(n : Int)]
  | k + 1, n => if n < 128 then [(n : Int)] else ((n % 128 + 128 : Nat) : Int) :: formF k (n / 128)
def form (n : Nat) : List Int := formF n n
structure In where
  op : Int
  a : Int
  b : Int
  c : Int
def in0 : In := ⟨0, 0, 0, 0⟩
theorem In.ext' {x y : In} (h0 : x.op = y.op) (h1 : x.a = y.a) (h2 : x.b = y.b) (h3 : x.c = y.c) : x = y := by cases x; cases y; simp_all
def kin (op : Int) : Int × Int × Int :=
  if op = 1 then (1, 3, 0) else if op = 2 then (2, 4, 3) else if op = 3 ∨ op = 4 then (1, 0, 0) else if op = 8 then (8, 0, 0) else if op = 9 then (9, 15, 0) else if op = 10 then (5, 0, 0)
  else if op = 11 ∨ op = 13 ∨ op = 14 then (6, 15, 0) else if op = 7 ∨ op = 12 ∨ op = 15 ∨ op = 19 then (0, 15, 0) else if op = 16 then (1, 0, 16) else if op = 17 then (1, 10, 16) else if op = 18 then (10, 0, 0)
  else if op = 33 then (12, 3, 0) else if op = 34 then (11, 4, 3) else if op = 35 ∨ op = 43 then (12, 0, 0) else if op = 37 ∨ op = 38 then (6, 0, 0) else if op = 39 then (7, 0, 0) else if op = 40 ∨ op = 47 then (0, 15, 0)
  else if op = 41 then (8, 0, 0) else if op = 42 then (13, 0, 0) else if op = 44 then (11, 0, 16) else if op = 45 then (14, 0, 16) else if op = 46 then (0, 0, 16) else (0, 0, 0)
def bnd (nc ne k : Int) : Int × Int :=
  if k = 1 ∨ k = 10 then (-1, 63) else if k = 2 then (0, 63) else if k = 3 then (1, 8) else if k = 4 then (2, 64) else if k = 5 then (4, 16777216) else if k = 6 then (1, 1048576) else if k = 7 then (1, 64) else if k = 8 then (1, 64)
  else if k = 9 then (0, 255) else if k = 11 then (0, 16777215) else if k = 12 then (-1, 16777215) else if k = 13 then (-1, 16777216) else if k = 14 then (1, 16777216) else if k = 15 then (0, nc - 1) else if k = 16 then (0, ne - 1) else (0, 0)
def alw (nc ne k n : Int) : Bool :=
  decide ((bnd nc ne k).1 ≤ n ∧ n ≤ (bnd nc ne k).2) && (if k = 3 then n == 1 || n == 2 || n == 4 || n == 8 else if k = 13 then n != 0 else true)
def isOf (op : Int) (enc : Bool) : Bool := op == 9 || op == 19 || op == 20 || (if enc then decide (33 ≤ op ∧ op ≤ 47) else decide (1 ≤ op ∧ op ≤ 20))
def armOk (C : List In) (i : Nat) : Bool := match C[i]? with
  | some x => x.op == 9 && !(C.take i).any (fun y => y.a == x.a)
  | none => false
def arms (C : List In) (m : Int) : Bool := decide (m ≤ C.length) && (List.range m.toNat).all (armOk C)
def agr (x : In) (R : List In) : Bool :=
  if x.op = 2 then decide (x.a + x.b ≤ 64) else if x.op = 34 then decide (x.a + x.b * x.c ≤ 16777216) else if x.op = 17 then (x.a == -1) == (x.b == -1) else if x.op = 8 ∨ x.op = 41 then arms R x.a else true
def frmX (enc : Bool) (nc ne : Int) (x : In) : Bool := isOf x.op enc && (alw nc ne (kin x.op).1 x.a && (alw nc ne (kin x.op).2.1 x.b && alw nc ne (kin x.op).2.2 x.c))
def frm (enc : Bool) (C : List In) (ne : Nat) (i : Nat) : Bool := match C[i]? with
  | none => false
  | some x => frmX enc C.length ne x && agr x (C.drop (i + 1))
def fst0 (p : Nat → Bool) : Nat → Option Nat
  | 0 => none
  | n + 1 => match fst0 p n with
    | some i => some i
    | none => if p n then none else some n
theorem fst0_none {p : Nat → Bool} : ∀ {n : Nat}, fst0 p n = none ↔ ∀ i, i < n → p i = true
  | 0 => ⟨fun _ i hi => by omega, fun _ => rfl⟩
  | n + 1 => by
    have ih := fst0_none (p := p) (n := n)
    unfold fst0
    cases h : fst0 p n with
    | some i =>
      simp only
      refine ⟨fun h => (by cases h), fun h2 => ?_⟩
      rw [ih.2 (fun i hi => h2 i (by omega))] at h
      cases h
    | none =>
      simp only
      have h1 := ih.1 h
      by_cases hn : p n = true
      · rw [if_pos hn]
        refine ⟨fun _ i hi => ?_, fun _ => rfl⟩
        by_cases hi2 : i < n
        · exact h1 i hi2
        · rw [show i = n by omega]; exact hn
      · rw [if_neg hn]
        exact ⟨fun h => (by cases h), fun h2 => absurd (h2 n (by omega)) hn⟩
theorem fst0_some {p : Nat → Bool} {n i : Nat} (hi : i < n) (h0 : p i = false) (h1 : ∀ j, j < i → p j = true) : fst0 p n = some i := by
  induction n with
  | zero => omega
  | succ n ih =>
    unfold fst0
    by_cases h : i < n
    · rw [ih h]
    · have e : i = n := by omega
      subst e
      rw [fst0_none.2 h1]
      simp [h0]
theorem fst0_is {p : Nat → Bool} {n i : Nat} (h : fst0 p n = some i) : i < n ∧ p i = false := by
  induction n with
  | zero => cases h
  | succ n ih =>
    unfold fst0 at h
    cases h2 : fst0 p n with
    | some j =>
      rw [h2] at h
      injection h with h
      subst h
      have := ih h2
      exact ⟨by omega, this.2⟩
    | none =>
      rw [h2] at h
      simp only at h
      by_cases hn : p n = true
      · rw [if_pos hn] at h; cases h
      · rw [if_neg hn] at h
        injection h with h
        subst h
        exact ⟨by omega, by simpa using hn⟩
def entOk (nc : Int) (E : List Int) (i : Nat) : Bool := alw nc 0 15 (E.getD i 0)
def chk (enc : Bool) (C : List In) (E : List Int) : Int × Int :=
  if 1048576 < C.length ∨ 1048576 < E.length then (4, 0) else
  match fst0 (frm enc C E.length) C.length with
  | some i => (140, i)
  | none => match fst0 (entOk C.length E) E.length with
    | some i => (3, i)
    | none => (0, 0)
theorem alw15 (nc ne ne' n : Int) : alw nc ne 15 n = alw nc ne' 15 n := rfl
structure Chk (enc : Bool) (C : List In) (E : List Int) : Prop where
  nc : C.length ≤ 1048576
  ne : E.length ≤ 1048576
  code : ∀ i, i < C.length → frm enc C E.length i = true
  ent : ∀ i, i < E.length → 0 ≤ E.getD i 0 ∧ E.getD i 0 < C.length
theorem ent_iff (nc : Int) (E : List Int) (i : Nat) : entOk nc E i = true ↔ 0 ≤ E.getD i 0 ∧ E.getD i 0 < nc := by
  unfold entOk alw bnd
  simp
  omega
theorem chk_ok {enc : Bool} {C : List In} {E : List Int} : chk enc C E = (0, 0) ↔ Chk enc C E := by
  unfold chk
  by_cases h : 1048576 < C.length ∨ 1048576 < E.length
  · rw [if_pos h]
    refine ⟨fun h => (by cases h), fun k => ?_⟩
    have := k.nc; have := k.ne; omega
  · rw [if_neg h]
    cases h1 : fst0 (frm enc C E.length) C.length with
    | some i =>
      simp only
      refine ⟨fun h => (by injection h with h _; cases h), fun k => ?_⟩
      obtain ⟨h2, h3⟩ := fst0_is h1
      rw [k.code i h2] at h3
      cases h3
    | none =>
      simp only
      cases h2 : fst0 (entOk C.length E) E.length with
      | some i =>
        simp only
        refine ⟨fun h => (by injection h with h _; cases h), fun k => ?_⟩
        obtain ⟨h3, h4⟩ := fst0_is h2
        have := (ent_iff C.length E i).2 (k.ent i h3)
        rw [this] at h4
        cases h4
      | none =>
        exact ⟨fun _ => ⟨by omega, by omega, fst0_none.1 h1, fun i hi => (ent_iff _ _ _).1 (fst0_none.1 h2 i hi)⟩, fun _ => rfl⟩
def inEq (x y : In) : Bool := x.op == y.op && (x.a == y.a && (x.b == y.b && x.c == y.c))
structure St where
  pl : Int
  ki : Nat
  tb : Int
  pa : Int
  fr : Int
  le : Int
  su : Bool
def st0 : St := ⟨0, 0, 0, 0, 0, 0, false⟩
def stc (s : St) : List Value := [.int .i64 s.pl, .int .u64 (s.ki : Int), .int .i64 s.tb, .int .i64 s.pa, .int .i64 s.fr, .int .i64 s.le, .bool s.su]
def stv (s : St) : Value := .agg #[.int .i64 s.pl, .int .u64 (s.ki : Int), .int .i64 s.tb, .int .i64 s.pa, .int .i64 s.fr, .int .i64 s.le, .bool s.su]
theorem stc_len (s : St) : (stc s).length = 7 := rfl
theorem St.ext' {x y : St} (h0 : x.pl = y.pl) (h1 : x.ki = y.ki) (h2 : x.tb = y.tb) (h3 : x.pa = y.pa) (h4 : x.fr = y.fr) (h5 : x.le = y.le) (h6 : x.su = y.su) : x = y := by cases x; cases y; simp_all
def fillP (s : St) (kid : Int) : St × Bool :=
  if s.pl = 2 then (if kid = -1 then (⟨5, s.ki, s.tb, s.pa, 0, s.le, s.su⟩, true) else (⟨2, s.ki, s.tb, s.pa, 0, s.le, s.su⟩, false)) else
  if s.pl = 4 then (if 0 < kid then (⟨4, s.ki, s.tb, s.pa, 0, s.le, s.su⟩, false) else (⟨5, s.ki, s.tb, s.pa, 0, s.le, s.su⟩, true)) else
  if s.pl = 1 then (⟨1, s.ki, s.tb, s.pa, 0, s.le, s.su⟩, decide (kid = -1) && (decide (s.fr = 1) || decide (s.fr = 2))) else
  if s.pl = 3 then (if kid = -1 ∨ s.ki.testBit kid.toNat = true then (⟨3, s.ki, s.tb, s.pa, 0, s.le, s.su⟩, false) else (⟨3, s.ki ||| 2 ^ kid.toNat, s.tb, s.pa, 0, s.le, s.su⟩, true)) else
  (⟨s.pl, s.ki, s.tb, s.pa, 0, s.le, s.su⟩, false)
def fillR (s : St) (kid : Int) : Nat → St × Bool
  | 0 => (s, true)
  | n + 1 => if (fillP s kid).2 then fillR (fillP s kid).1 (kid + 1) n else ((fillP s kid).1, false)
def hasP (s : St) (first : Int) : Bool := if s.pl = 3 then decide (s.pa = 0) && decide (s.tb < 64) else decide (s.pl = 1) && (decide (s.fr = 3) || (decide (s.fr = 1) && decide (first ≤ 4194304)))
def wholeP (s : St) : Bool := if s.pl = 5 ∨ s.pl = 1 then true else if s.pl = 3 then decide (s.ki ≠ 0) && decide (s.ki &&& (s.ki + 1) % 18446744073709551616 = 0) else false
def tabP (s : St) (x : In) (way : Int) : Int := if x.op = 11 ∧ way = 1 then s.tb else if x.op = 10 ∧ s.pl = 3 then s.tb + 1 else -1
def freeP (x : In) (way : Int) : Int := if (x.op = 13 ∧ way = 0) ∨ (x.op = 14 ∧ way = 1) then 2 else if x.op = 12 ∧ way = 1 then 3 else if x.op = 15 ∧ way = 1 then 4 else 0
def dSt (s : St) (x : In) (r : Int) : Bool :=
  if x.op = 17 then (if x.a = -1 then decide (s.pl = 1) && (decide (s.fr = 4) && decide (x.c < r)) else
    if s.pl ≠ 3 ∨ x.b ≠ s.pa ∨ s.tb ≤ x.b then false else if r ≤ x.c then false else (fillP s x.a).2) else
  if x.op = 16 then (if r ≤ x.c then false else (fillP s x.a).2) else
  if x.op = 1 ∨ x.op = 3 ∨ x.op = 4 then (fillP s x.a).2 else
  if x.op = 2 then (fillR s x.a x.b.toNat).2 else
  if x.op = 5 ∨ x.op = 6 ∨ x.op = 7 ∨ x.op = 8 then decide (s.pl = 2) else
  if x.op = 10 then hasP s x.a else
  if x.op = 11 then decide (s.pl = 1) && decide (s.tb = 0) else
  if x.op = 13 ∨ x.op = 14 then decide (s.pl = 1) else
  if x.op = 18 then (if 0 ≤ x.a then decide (s.pl = 3) && decide (x.a < s.pa) else decide (s.pl = 1) && decide (s.tb = -1)) else
  if x.op = 12 ∨ x.op = 15 then decide (s.pl = 1) && decide (s.tb = -1) else
  if x.op = 20 then wholeP s else
  decide (x.op = 19)
def dHd (s : St) (x : In) (way : Int) : St :=
  if x.op = 19 then s else
  if x.op = 17 then (if x.a = -1 then ⟨s.pl, s.ki, s.tb, s.pa, 0, s.le, s.su⟩ else (fillP ⟨s.pl, s.ki, s.tb, s.pa + 1, s.fr, s.le, s.su⟩ x.a).1) else
  if x.op = 1 ∨ x.op = 3 ∨ x.op = 4 ∨ x.op = 16 then (fillP s x.a).1 else
  if x.op = 2 then (fillR s x.a x.b.toNat).1 else
  if x.op = 5 then ⟨1, 0, s.tb, s.pa, 1, s.le, s.su⟩ else
  if x.op = 6 then ⟨3, 0, s.tb, s.pa, 0, s.le, s.su⟩ else
  if x.op = 7 ∨ x.op = 8 then ⟨if x.op = 7 ∧ way = 1 then 5 else 4, 0, s.tb, s.pa, 0, s.le, s.su⟩ else
  if x.op = 10 ∨ x.op = 11 then ⟨s.pl, s.ki, tabP s x way, s.pa, 0, s.le, s.su⟩ else
  ⟨s.pl, s.ki, s.tb, s.pa, freeP x way, s.le, s.su⟩
def leftP (n : Int) : St := ⟨7, 0, 0, 0, 0, n, false⟩
def seqP (b : Bool) : St := ⟨1, 0, 0, 0, 0, 0, b⟩
def takeP (s : St) (many : Int) : St × Bool :=
  if s.pl = 6 ∧ many = 1 then (leftP 0, true) else if s.pl = 7 then (⟨7, s.ki, s.tb, s.pa, s.fr, s.le - many, s.su⟩, decide (0 ≤ s.le - many)) else (s, false)
def stEq (s t : St) : Bool := s.pl == t.pl && ((s.ki : Int) == (t.ki : Int) && (s.tb == t.tb && (s.pa == t.pa && (s.fr == t.fr && (s.le == t.le && s.su == t.su)))))
theorem stEq_iff (s t : St) : stEq s t = true ↔ s = t := by
  cases s; cases t
  simp [stEq]
  intros
  omega
def turnP (s : St) : St × Bool := (⟨s.pl, s.ki, s.tb, s.pa, s.fr, s.le, false⟩, stEq s (seqP true))
def takenP (s : St) (x : In) : St × Bool :=
  if x.op = 34 then takeP s x.b else
  if x.op = 33 ∨ x.op = 35 then (if x.a = -1 then turnP s else takeP s 1) else
  if x.op = 45 then turnP s else
  if x.op = 46 ∧ s.pl = 1 then turnP s else takeP s 1
def eSt (s : St) (x : In) (r : Int) : Bool :=
  if x.op = 44 ∨ x.op = 45 ∨ x.op = 46 then (if r ≤ x.c then false else (takenP s x).2) else
  if x.op = 33 ∨ x.op = 34 ∨ x.op = 35 ∨ x.op = 36 then (takenP s x).2 else
  if x.op = 37 ∨ x.op = 38 ∨ x.op = 39 ∨ x.op = 40 ∨ x.op = 41 then decide (s.pl = 6) else
  if x.op = 42 then decide (s.pl = 1) || (decide (s.pl = 7) && decide (x.a ≠ -1)) else
  if x.op = 43 then (if x.a = -1 then stEq s (seqP true) else decide (s.pl = 7)) else
  if x.op = 47 then decide (s.pl = 1) else
  if x.op = 20 then stEq s (leftP 0) else
  decide (x.op = 19)
def eHd (s : St) (x : In) (way : Int) : St :=
  if x.op = 44 ∨ x.op = 45 ∨ x.op = 46 ∨ x.op = 33 ∨ x.op = 34 ∨ x.op = 35 ∨ x.op = 36 then (takenP s x).1 else
  if x.op = 37 ∨ x.op = 38 then seqP (decide (x.op = 37)) else
  if x.op = 39 then leftP x.a else
  if x.op = 40 then (if way = 1 then leftP 0 else leftP 1) else
  if x.op = 41 then leftP 1 else
  if x.op = 47 then (if way = 1 then seqP true else leftP 0) else s
def mSt (enc : Bool) (s : St) (x : In) (r : Int) : Bool := if enc then eSt s x r else dSt s x r
def mHd (enc : Bool) (s : St) (x : In) (way : Int) : St := if enc then eHd s x way else dHd s x way
def mBg (enc : Bool) : St := if enc then ⟨6, 0, 0, 0, 0, 0, false⟩ else ⟨2, 0, 0, 0, 0, 0, false⟩
def inA (C : List In) (k : Nat) : In := C.getD k ⟨0, 0, 0, 0⟩
theorem inA_at {C : List In} {k : Nat} {x : In} (h : C[k]? = some x) : inA C k = x := by simp [inA, List.getD, h]
def waysP (C : List In) (at_ : Nat) : List Int :=
  if (inA C at_).op = 19 then [(inA C at_).b] else
  if (inA C at_).op = 20 then [] else
  if (inA C at_).op = 8 ∨ (inA C at_).op = 41 then (List.range (inA C at_).a.toNat).map (fun k => (inA C (at_ + 1 + k)).b) else
  if (inA C at_).op = 7 ∨ (inA C at_).op = 11 ∨ (inA C at_).op = 12 ∨ (inA C at_).op = 13 ∨ (inA C at_).op = 14 ∨ (inA C at_).op = 15 ∨ (inA C at_).op = 40 ∨ (inA C at_).op = 47 then [(at_ : Int) + 1, (inA C at_).b] else
  [(at_ : Int) + 1]
def stA (S : List St) (k : Nat) : St := S.getD k st0
theorem stA_at {S : List St} {k : Nat} {s : St} (h : S[k]? = some s) : stA S k = s := by simp [stA, List.getD, h]
def bare0 (S : List St) : Nat := S.countP (fun s => decide (s.pl = 0))
def sameH (enc : Bool) (C : List In) (k : Nat) (s t : St) : Bool := (List.range (waysP C k).length).all (fun way => stEq (mHd enc s (inA C k) (way : Int)) (mHd enc t (inA C k) (way : Int)))
def handP (enc : Bool) (C : List In) (r : Int) (S : List St) (P : List Int) (k : Nat) (s : St) : Bool × List St × List Int :=
  if stEq (stA S k) s then (true, S, P) else
  if (stA S k).pl = 0 then (true, S.set k s, pushH P (k : Int)) else
  (mSt enc s (inA C k) r && sameH enc C k (stA S k) s, S, P)
def handsP (enc : Bool) (C : List In) (r : Int) (s : St) (x : In) : List Int → Nat → List St → List Int → Int × List St × List Int
  | [], _, S, P => (1048576, S, P)
  | n :: ws, way, S, P =>
    if (handP enc C r S P n.toNat (mHd enc s x (way : Int))).1 then
      handsP enc C r s x ws (way + 1) (handP enc C r S P n.toNat (mHd enc s x (way : Int))).2.1 (handP enc C r S P n.toNat (mHd enc s x (way : Int))).2.2
    else (n, S, P)
def lookP (enc : Bool) (C : List In) (r : Int) (S : List St) (P : List Int) (k : Nat) : Int × List St × List Int :=
  if mSt enc (stA S k) (inA C k) r = false ∨ (C.length : Int) ∈ waysP C k then ((k : Int), S, P) else handsP enc C r (stA S k) (inA C k) (waysP C k) 0 S P
def goP (enc : Bool) (C : List In) (r : Int) : Nat → List St → List Int → Int × List St × List Int
  | 0, S, P => (1048576, S, P)
  | f + 1, S, P => if P = [] then (1048576, S, P) else
    if (lookP enc C r S (popH P).2 (popH P).1.toNat).1 = 1048576 then goP enc C r f (lookP enc C r S (popH P).2 (popH P).1.toNat).2.1 (lookP enc C r S (popH P).2 (popH P).1.toNat).2.2
    else lookP enc C r S (popH P).2 (popH P).1.toNat
def thruP (enc : Bool) (C : List In) (r : Int) (S : List St) (P : List Int) (e : Nat) : Int × List St × List Int :=
  if (handP enc C r S P e (mBg enc)).1 then goP enc C r (2 * C.length + 2) (handP enc C r S P e (mBg enc)).2.1 (handP enc C r S P e (mBg enc)).2.2 else ((e : Int), S, P)
def firstP (enc : Bool) (C : List In) : List Int → Nat → List St → Int × List St
  | [], _, S => (1048576, S)
  | e :: es, r, S => if (thruP enc C (r : Int) S [] e.toNat).1 = 1048576 then firstP enc C es (r + 1) (thruP enc C (r : Int) S [] e.toNat).2.1 else ((thruP enc C (r : Int) S [] e.toNat).1, [])
theorem fillP_pl {s : St} (h : s.pl ≠ 0) (kid : Int) : (fillP s kid).1.pl ≠ 0 := by
  unfold fillP
  by_cases h2 : s.pl = 2
  · rw [if_pos h2]; split <;> (intro e; simp at e)
  rw [if_neg h2]
  by_cases h4 : s.pl = 4
  · rw [if_pos h4]; split <;> (intro e; simp at e)
  rw [if_neg h4]
  by_cases h1 : s.pl = 1
  · rw [if_pos h1]; intro e; simp at e
  rw [if_neg h1]
  by_cases h3 : s.pl = 3
  · rw [if_pos h3]; split <;> (intro e; simp at e)
  rw [if_neg h3]
  exact h
theorem fillR_pl : ∀ (n : Nat) {s : St} (h : s.pl ≠ 0) (kid : Int), (fillR s kid n).1.pl ≠ 0
  | 0, s, h, kid => h
  | n + 1, s, h, kid => by
    unfold fillR
    split
    · exact fillR_pl n (fillP_pl h kid) (kid + 1)
    · exact fillP_pl h kid
theorem takeP_pl {s : St} (h : s.pl ≠ 0) (m : Int) : (takeP s m).1.pl ≠ 0 := by
  unfold takeP
  split
  · intro e; simp [leftP] at e
  · split
    · intro e; simp at e
    · exact h
theorem takenP_pl {s : St} (h : s.pl ≠ 0) (x : In) : (takenP s x).1.pl ≠ 0 := by
  have ht : (turnP s).1.pl ≠ 0 := h
  unfold takenP
  split
  · exact takeP_pl h _
  · split
    · split
      · exact ht
      · exact takeP_pl h _
    · split
      · exact ht
      · split
        · exact ht
        · exact takeP_pl h _
theorem mHd_pl (enc : Bool) {s : St} (h : s.pl ≠ 0) (x : In) (way : Int) : (mHd enc s x way).pl ≠ 0 := by
  unfold mHd
  cases enc with
  | true =>
    rw [if_pos rfl]
    unfold eHd
    repeat' split
    all_goals first | exact takenP_pl h x | exact h | (intro e; simp [leftP, seqP] at e)
  | false =>
    rw [if_neg (by decide)]
    unfold dHd
    have h' : ∀ (p : Int), (⟨s.pl, s.ki, s.tb, p, s.fr, s.le, s.su⟩ : St).pl ≠ 0 := fun _ => h
    split
    · exact h
    split
    · split
      · exact h
      · exact fillP_pl (h' _) _
    split
    · exact fillP_pl h _
    split
    · exact fillR_pl _ h _
    split
    · intro e; simp at e
    split
    · intro e; simp at e
    split
    · split <;> (intro e; simp at e)
    split <;> exact h
theorem mBg_pl (enc : Bool) : (mBg enc).pl ≠ 0 := by cases enc <;> decide
structure Pnd (n : Nat) (S : List St) (P : List Int) : Prop where
  len : S.length = n
  hp : Hp P P.length
  inn : ∀ x ∈ P, 0 ≤ x ∧ x < (n : Int) ∧ (stA S x.toNat).pl ≠ 0
def msr (S : List St) (P : List Int) : Nat := 2 * bare0 S + P.length
theorem push_mem {P : List Int} (h : Hp P P.length) (y x : Int) : x ∈ pushH P y ↔ x = y ∨ x ∈ P := by
  obtain ⟨-, -, h3⟩ := pushH_ok h y
  have h4 := h3 x
  unfold Cnt at h4
  rw [← List.count_pos_iff, ← List.count_pos_iff, h4]
  by_cases e : y = x
  · rw [if_pos e]
    exact ⟨fun _ => .inl e.symm, fun _ => by omega⟩
  · rw [if_neg e]
    exact ⟨fun h => .inr (by omega), fun h => by rcases h with h | h; exact absurd h.symm e; omega⟩
theorem pop_mem {P : List Int} (h : Hp P P.length) (h0 : 0 < P.length) : (popH P).1 ∈ P ∧ ∀ x ∈ (popH P).2, x ∈ P := by
  obtain ⟨h1, -, -, -, h5⟩ := popH_ok h h0
  unfold Cnt at h5
  refine ⟨?_, fun x hx => ?_⟩
  · rw [← List.count_pos_iff, h5, if_pos rfl]
    omega
  · rw [← List.count_pos_iff, h5 x]
    have := List.count_pos_iff.2 hx
    omega
theorem bare_set {S : List St} {k : Nat} (hk : k < S.length) (h0 : (stA S k).pl = 0) {s : St} (hs : s.pl ≠ 0) : bare0 (S.set k s) + 1 = bare0 S := by
  induction S generalizing k with
  | nil => simp at hk
  | cons a S ih =>
    cases k with
    | zero =>
      have ha : a.pl = 0 := by simpa [stA] using h0
      simp [bare0, ha, hs]
    | succ k =>
      have h1 := ih (k := k) (by simpa using hk) (by simpa [stA] using h0)
      unfold bare0 at h1 ⊢
      rw [List.set_cons_succ, List.countP_cons, List.countP_cons]
      omega
theorem stA_set {S : List St} {k : Nat} (hk : k < S.length) (s : St) (j : Nat) : stA (S.set k s) j = if j = k then s else stA S j := by
  by_cases e : j = k
  · subst e
    rw [if_pos rfl]
    exact stA_at (List.getElem?_set_self hk)
  · rw [if_neg e]
    unfold stA
    rw [List.getD_eq_getElem?_getD, List.getElem?_set_ne (fun h => e h.symm), ← List.getD_eq_getElem?_getD]
theorem handP_ok {enc : Bool} {C : List In} {r : Int} {n : Nat} {S : List St} {P : List Int} (h : Pnd n S P) {k : Nat} (hk : k < n) {s : St} (hs : s.pl ≠ 0) : Pnd n (handP enc C r S P k s).2.1 (handP enc C r S P k s).2.2 ∧ msr (handP enc C r S P k s).2.1 (handP enc C r S P k s).2.2 ≤ msr S P ∧ ((handP enc C r S P k s).1 = false → (handP enc C r S P k s).2 = (S, P)) ∧ (∀ j, (stA S j).pl ≠ 0 → stA (handP enc C r S P k s).2.1 j = stA S j) := by
  have hkl : k < S.length := by rw [h.len]; exact hk
  unfold handP
  by_cases h1 : stEq (stA S k) s = true
  · rw [if_pos h1]
    exact ⟨h, Nat.le_refl _, (fun h => by cases h), fun _ _ => rfl⟩
  rw [if_neg h1]
  by_cases h2 : (stA S k).pl = 0
  · rw [if_pos h2]
    obtain ⟨p1, p2, p3⟩ := pushH_ok h.hp (k : Int)
    refine ⟨⟨by rw [List.length_set]; exact h.len, by rw [p2]; exact p1, fun x hx => ?_⟩, ?_, (fun h => by cases h), fun j hj => ?_⟩
    · rcases (push_mem h.hp (k : Int) x).1 hx with rfl | hx
      · refine ⟨by omega, by omega, ?_⟩
        rw [stA_set hkl, Int.toNat_natCast, if_pos rfl]
        exact hs
      · obtain ⟨q1, q2, q3⟩ := h.inn x hx
        refine ⟨q1, q2, ?_⟩
        rw [stA_set hkl]
        split
        · exact hs
        · exact q3
    · have := bare_set hkl h2 hs
      show 2 * bare0 (S.set k s) + (pushH P (k : Int)).length ≤ 2 * bare0 S + P.length
      rw [p2]
      omega
    · show stA (S.set k s) j = stA S j
      rw [stA_set hkl]
      split
      · rename_i e
        subst e
        exact absurd h2 hj
      · rfl
  · rw [if_neg h2]
    exact ⟨h, Nat.le_refl _, fun _ => rfl, fun _ _ => rfl⟩
theorem handsP_ok {enc : Bool} {C : List In} {r : Int} {n : Nat} {s : St} (hs : s.pl ≠ 0) (x : In) : ∀ (ws : List Int) (way : Nat) {S : List St} {P : List Int}, Pnd n S P → (∀ y ∈ ws, 0 ≤ y ∧ y < (n : Int)) → Pnd n (handsP enc C r s x ws way S P).2.1 (handsP enc C r s x ws way S P).2.2 ∧ msr (handsP enc C r s x ws way S P).2.1 (handsP enc C r s x ws way S P).2.2 ≤ msr S P
  | [], way, S, P, h, _ => ⟨h, Nat.le_refl _⟩
  | y :: ws, way, S, P, h, hw => by
    have hy := hw y (List.mem_cons_self ..)
    obtain ⟨a1, a2, -, -⟩ := handP_ok (enc := enc) (C := C) (r := r) h (k := y.toNat) (by omega) (mHd_pl enc hs x (way : Int))
    unfold handsP
    split
    · obtain ⟨b1, b2⟩ := handsP_ok hs x ws (way + 1) a1 (fun z hz => hw z (List.mem_cons_of_mem _ hz))
      exact ⟨b1, Nat.le_trans b2 a2⟩
    · exact ⟨h, Nat.le_refl _⟩
def WIn (C : List In) : Prop := ∀ k, k < C.length → ∀ y ∈ waysP C k, 0 ≤ y ∧ y ≤ (C.length : Int)
theorem lookP_ok {enc : Bool} {C : List In} {r : Int} {S : List St} {P : List Int} (hW : WIn C) (h : Pnd C.length S P) {k : Nat} (hk : k < C.length) (hs : (stA S k).pl ≠ 0) : Pnd C.length (lookP enc C r S P k).2.1 (lookP enc C r S P k).2.2 ∧ msr (lookP enc C r S P k).2.1 (lookP enc C r S P k).2.2 ≤ msr S P := by
  unfold lookP
  split
  · exact ⟨h, Nat.le_refl _⟩
  · rename_i hn
    refine handsP_ok hs _ _ _ h (fun y hy => ?_)
    have h1 := hW k hk y hy
    have h2 : y ≠ (C.length : Int) := fun e => hn (.inr (by rw [← e]; exact hy))
    omega
theorem pop_ok {n : Nat} {S : List St} {P : List Int} (h : Pnd n S P) (h0 : P ≠ []) : Pnd n S (popH P).2 ∧ msr S (popH P).2 + 1 = msr S P ∧ 0 ≤ (popH P).1 ∧ (popH P).1 < (n : Int) ∧ (stA S (popH P).1.toNat).pl ≠ 0 := by
  have hl : 0 < P.length := List.length_pos_iff.2 h0
  obtain ⟨-, -, p3, p4, -⟩ := popH_ok h.hp hl
  obtain ⟨m1, m2⟩ := pop_mem h.hp hl
  obtain ⟨q1, q2, q3⟩ := h.inn _ m1
  refine ⟨⟨h.len, by rw [p4]; exact p3, fun x hx => h.inn x (m2 x hx)⟩, ?_, q1, q2, q3⟩
  unfold msr
  rw [p4]
  omega
theorem goP_fuel {enc : Bool} {C : List In} {r : Int} (hW : WIn C) : ∀ (f g : Nat) {S : List St} {P : List Int}, Pnd C.length S P → msr S P < f → msr S P < g → goP enc C r f S P = goP enc C r g S P
  | 0, _, S, P, _, h1, _ => by omega
  | _ + 1, 0, S, P, _, _, h2 => by omega
  | f + 1, g + 1, S, P, h, h1, h2 => by
    unfold goP
    by_cases h0 : P = []
    · rw [if_pos h0, if_pos h0]
    rw [if_neg h0, if_neg h0]
    obtain ⟨a1, a2, a3, a4, a5⟩ := pop_ok h h0
    obtain ⟨b1, b2⟩ := lookP_ok (enc := enc) (r := r) hW a1 (k := (popH P).1.toNat) (by omega) a5
    split
    · exact goP_fuel hW f g b1 (by omega) (by omega)
    · rfl
theorem goP_step {enc : Bool} {C : List In} {r : Int} (hW : WIn C) {f : Nat} {S : List St} {P : List Int} (h : Pnd C.length S P) (hf : msr S P < f) (h0 : P ≠ []) : goP enc C r f S P = if (lookP enc C r S (popH P).2 (popH P).1.toNat).1 = 1048576 then goP enc C r f (lookP enc C r S (popH P).2 (popH P).1.toNat).2.1 (lookP enc C r S (popH P).2 (popH P).1.toNat).2.2 else lookP enc C r S (popH P).2 (popH P).1.toNat := by
  obtain ⟨a1, a2, a3, a4, a5⟩ := pop_ok h h0
  obtain ⟨b1, b2⟩ := lookP_ok (enc := enc) (r := r) hW a1 (k := (popH P).1.toNat) (by omega) a5
  obtain ⟨f', rfl⟩ : ∃ f', f = f' + 1 := ⟨f - 1, by omega⟩
  have e : goP enc C r (f' + 1) S P = if (lookP enc C r S (popH P).2 (popH P).1.toNat).1 = 1048576 then goP enc C r f' (lookP enc C r S (popH P).2 (popH P).1.toNat).2.1 (lookP enc C r S (popH P).2 (popH P).1.toNat).2.2 else lookP enc C r S (popH P).2 (popH P).1.toNat := by
    show (if P = [] then _ else _) = _
    rw [if_neg h0]
  rw [e]
  split
  · exact goP_fuel hW f' (f' + 1) b1 (by omega) (by omega)
  · rfl
theorem goP_nil {enc : Bool} {C : List In} {r : Int} {f : Nat} {S : List St} : goP enc C r f S [] = (1048576, S, []) := by
  cases f with
  | zero => rfl
  | succ f => simp [goP]
end Go.Proofs.YtjamfbpdepahnaaGreat
