/- Code, plain: instructions, their forms; what Check answers. -/
import Derived.Test.YteadmiikenpjeaaDoorCva
namespace Go.Proofs.YteadmiikenpjeaaDoor
open Go.RowKit
set_option linter.unusedVariables false

structure In where
  op : Int
  a : Int
  b : Int
  c : Int
def in0 : In := ⟨0, 0, 0, 0⟩
theorem In.ext' {x y : In} (h0 : x.op = y.op) (h1 : x.a = y.a) (h2 : x.b = y.b) (h3 : x.c = y.c) : x = y := by cases x; cases y; simp_all
/-- The kinds of an instruction's operands. -/
def kin (op : Int) : Int × Int × Int :=
  if op = 1 then (1, 3, 0) else if op = 2 then (2, 4, 3) else if op = 3 ∨ op = 4 then (1, 0, 0) else if op = 8 then (8, 0, 0) else if op = 9 then (9, 15, 0) else if op = 10 then (5, 0, 0)
  else if op = 11 ∨ op = 13 ∨ op = 14 then (6, 15, 0) else if op = 7 ∨ op = 12 ∨ op = 15 ∨ op = 19 then (0, 15, 0) else if op = 16 then (1, 0, 16) else if op = 17 then (1, 10, 16) else if op = 18 then (10, 0, 0)
  else if op = 33 then (12, 3, 0) else if op = 34 then (11, 4, 3) else if op = 35 ∨ op = 43 then (12, 0, 0) else if op = 37 ∨ op = 38 then (6, 0, 0) else if op = 39 then (7, 0, 0) else if op = 40 ∨ op = 47 then (0, 15, 0)
  else if op = 41 then (8, 0, 0) else if op = 42 then (13, 0, 0) else if op = 44 then (11, 0, 16) else if op = 45 then (14, 0, 16) else if op = 46 then (0, 0, 16) else (0, 0, 0)
def bnd (nc ne k : Int) : Int × Int :=
  if k = 1 ∨ k = 10 then (-1, 63) else if k = 2 then (0, 63) else if k = 3 then (1, 8) else if k = 4 then (2, 64) else if k = 5 then (4, 16777216) else if k = 6 then (1, 1048576) else if k = 7 then (1, 64) else if k = 8 then (1, 64)
  else if k = 9 then (0, 255) else if k = 11 then (0, 16777215) else if k = 12 then (-1, 16777215) else if k = 13 then (-1, 16777216) else if k = 14 then (1, 16777216) else if k = 15 then (0, nc - 1) else if k = 16 then (0, ne - 1) else (0, 0)
/-- May an operand of that kind be the number? -/
def alw (nc ne k n : Int) : Bool :=
  decide ((bnd nc ne k).1 ≤ n ∧ n ≤ (bnd nc ne k).2) && (if k = 3 then n == 1 || n == 2 || n == 4 || n == 8 else if k = 13 then n != 0 else true)
def isOf (op : Int) (enc : Bool) : Bool := op == 9 || op == 19 || op == 20 || (if enc then decide (33 ≤ op ∧ op ≤ 47) else decide (1 ≤ op ∧ op ≤ 20))
/-- Is that an arm, of a tag that none ahead has? -/
def armOk (C : List In) (i : Nat) : Bool := match C[i]? with
  | some x => x.op == 9 && !(C.take i).any (fun y => y.a == x.a)
  | none => false
def arms (C : List In) (m : Int) : Bool := decide (m ≤ C.length) && (List.range m.toNat).all (armOk C)
/-- The operands with each other, and with what stands behind. -/
def agr (x : In) (R : List In) : Bool :=
  if x.op = 2 then decide (x.a + x.b ≤ 64) else if x.op = 34 then decide (x.a + x.b * x.c ≤ 16777216) else if x.op = 17 then (x.a == -1) == (x.b == -1) else if x.op = 8 ∨ x.op = 41 then arms R x.a else true
def frmX (enc : Bool) (nc ne : Int) (x : In) : Bool := isOf x.op enc && (alw nc ne (kin x.op).1 x.a && (alw nc ne (kin x.op).2.1 x.b && alw nc ne (kin x.op).2.2 x.c))
def frm (enc : Bool) (C : List In) (ne : Nat) (i : Nat) : Bool := match C[i]? with
  | none => false
  | some x => frmX enc C.length ne x && agr x (C.drop (i + 1))
/-- The least below n for which it doesn't hold. -/
def fst0 (p : Nat → Bool) : Nat → Option Nat
  | 0 => none
  | n + 1 => match fst0 p n with
    | some i => some i
    | none => if p n then none else some n
theorem fst0_none {p : Nat → Bool} : ∀ {n : Nat}, fst0 p n = none ↔ ∀ i, i < n → p i = true
  | 0 => ⟨fun _ i hi => by omega, fun _ => rfl⟩
  | n + 1 => by
    have ih := fst0_none (p := p) (n := n)
    unfold fst0
    cases h : fst0 p n with
    | some i =>
      simp only
      refine ⟨fun h => (by cases h), fun h2 => ?_⟩
      rw [ih.2 (fun i hi => h2 i (by omega))] at h
      cases h
    | none =>
      simp only
      have h1 := ih.1 h
      by_cases hn : p n = true
      · rw [if_pos hn]
        refine ⟨fun _ i hi => ?_, fun _ => rfl⟩
        by_cases hi2 : i < n
        · exact h1 i hi2
        · rw [show i = n by omega]; exact hn
      · rw [if_neg hn]
        exact ⟨fun h => (by cases h), fun h2 => absurd (h2 n (by omega)) hn⟩
theorem fst0_some {p : Nat → Bool} {n i : Nat} (hi : i < n) (h0 : p i = false) (h1 : ∀ j, j < i → p j = true) : fst0 p n = some i := by
  induction n with
  | zero => omega
  | succ n ih =>
    unfold fst0
    by_cases h : i < n
    · rw [ih h]
    · have e : i = n := by omega
      subst e
      rw [fst0_none.2 h1]
      simp [h0]
theorem fst0_is {p : Nat → Bool} {n i : Nat} (h : fst0 p n = some i) : i < n ∧ p i = false := by
  induction n with
  | zero => cases h
  | succ n ih =>
    unfold fst0 at h
    cases h2 : fst0 p n with
    | some j =>
      rw [h2] at h
      injection h with h
      subst h
      have := ih h2
      exact ⟨by omega, this.2⟩
    | none =>
      rw [h2] at h
      simp only at h
      by_cases hn : p n = true
      · rw [if_pos hn] at h; cases h
      · rw [if_neg hn] at h
        injection h with h
        subst h
        exact ⟨by omega, by simpa using hn⟩
/-- Does the Entry lie in the code? -/
def entOk (nc : Int) (E : List Int) (i : Nat) : Bool := alw nc 0 15 (E.getD i 0)
/-- What Check answers. -/
def chk (enc : Bool) (C : List In) (E : List Int) : Int × Int :=
  if 1048576 < C.length ∨ 1048576 < E.length then (4, 0) else
  match fst0 (frm enc C E.length) C.length with
  | some i => (140, i)
  | none => match fst0 (entOk C.length E) E.length with
    | some i => (3, i)
    | none => (0, 0)
theorem alw15 (nc ne ne' n : Int) : alw nc ne 15 n = alw nc ne' 15 n := rfl
structure Chk (enc : Bool) (C : List In) (E : List Int) : Prop where
  nc : C.length ≤ 1048576
  ne : E.length ≤ 1048576
  code : ∀ i, i < C.length → frm enc C E.length i = true
  ent : ∀ i, i < E.length → 0 ≤ E.getD i 0 ∧ E.getD i 0 < C.length
theorem ent_iff (nc : Int) (E : List Int) (i : Nat) : entOk nc E i = true ↔ 0 ≤ E.getD i 0 ∧ E.getD i 0 < nc := by
  unfold entOk alw bnd
  simp
  omega
theorem chk_ok {enc : Bool} {C : List In} {E : List Int} : chk enc C E = (0, 0) ↔ Chk enc C E := by
  unfold chk
  by_cases h : 1048576 < C.length ∨ 1048576 < E.length
  · rw [if_pos h]
    refine ⟨fun h => (by cases h), fun k => ?_⟩
    have := k.nc; have := k.ne; omega
  · rw [if_neg h]
    cases h1 : fst0 (frm enc C E.length) C.length with
    | some i =>
      simp only
      refine ⟨fun h => (by injection h with h _; cases h), fun k => ?_⟩
      obtain ⟨h2, h3⟩ := fst0_is h1
      rw [k.code i h2] at h3
      cases h3
    | none =>
      simp only
      cases h2 : fst0 (entOk C.length E) E.length with
      | some i =>
        simp only
        refine ⟨fun h => (by injection h with h _; cases h), fun k => ?_⟩
        obtain ⟨h3, h4⟩ := fst0_is h2
        have := (ent_iff C.length E i).2 (k.ent i h3)
        rw [this] at h4
        cases h4
      | none =>
        exact ⟨fun _ => ⟨by omega, by omega, fst0_none.1 h1, fun i hi => (ent_iff _ _ _).1 (fst0_none.1 h2 i hi)⟩, fun _ => rfl⟩
/-- Two instructions are the same. -/
def inEq (x y : In) : Bool := x.op == y.op && (x.a == y.a && (x.b == y.b && x.c == y.c))
theorem inEq_iff (x y : In) : inEq x y = true ↔ x = y := by
  unfold inEq
  cases x; cases y
  simp
end Go.Proofs.YteadmiikenpjeaaDoor
