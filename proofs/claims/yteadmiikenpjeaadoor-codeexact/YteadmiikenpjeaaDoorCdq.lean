/- Code, plain: what Decode reads. -/
import Derived.Test.YteadmiikenpjeaaDoorCdp
namespace Go.Proofs.YteadmiikenpjeaaDoor
open Go.RowKit
set_option linter.unusedVariables false

/-- What Get finds at place k of a number. -/
def getA : Nat → List Int → Int × Nat × Int
  | k, [] => (0, 0, 20)
  | k, c :: l => if flt k c then (0, 0, 21) else if c < 128 then (c % 128, 1, 0) else
    let r := getA (k + 1) l
    if r.2.2 = 0 then (c % 128 + 128 * r.1, r.2.1 + 1, 0) else (0, r.2.1 + 1, r.2.2)
def getF (l : List Int) : Int × Nat × Int := getA 0 l
theorem getA_spec : ∀ (l : List Int) (k : Nat), k ≤ 9 →
    ((k + l.length ≤ 9 ∧ (∀ j, j < l.length → 128 ≤ l.getD j 0) ∧ getA k l = (0, l.length, 20)) ∨
    (∃ j, j < l.length ∧ k + j ≤ 9 ∧ (∀ i, i < j → 128 ≤ l.getD i 0) ∧ flt (k + j) (l.getD j 0) = true ∧ getA k l = (0, j, 21)) ∨
    (∃ j, j < l.length ∧ k + j ≤ 9 ∧ (∀ i, i < j → 128 ≤ l.getD i 0) ∧ flt (k + j) (l.getD j 0) = false ∧ l.getD j 0 < 128 ∧ getA k l = (val (l.take (j + 1)), j + 1, 0)))
  | [], k, hk => .inl ⟨by simpa using hk, fun j hj => by simp at hj, rfl⟩
  | c :: l, k, hk => by
    by_cases hf : flt k c = true
    · refine .inr (.inl ⟨0, by simp, by omega, fun i hi => by omega, by simpa using hf, ?_⟩)
      rw [getA, if_pos hf]
    · have hf0 : flt k c = false := by simpa using hf
      by_cases h128 : c < 128
      · refine .inr (.inr ⟨0, by simp, by omega, fun i hi => by omega, by simpa using hf0, by simpa using h128, ?_⟩)
        rw [getA, if_neg hf, if_pos h128]
        simp [val]
      · have hk9 : k ≠ 9 := fun e => by subst e; rw [flt_no] at hf0; omega
        have ih := getA_spec l (k + 1) (by omega)
        rw [getA, if_neg hf, if_neg h128]
        rcases ih with ⟨a, b, e⟩ | ⟨j, a, b, d, f, e⟩ | ⟨j, a, b, d, f, g, e⟩
        · left
          rw [e]
          refine ⟨by simp; omega, fun j hj => ?_, by simp⟩
          cases j with
          | zero => simp; omega
          | succ j => simpa using b j (by simpa using hj)
        · right; left
          rw [e]
          refine ⟨j + 1, by simp; omega, by omega, fun i hi => ?_, by rw [show k + (j + 1) = k + 1 + j by omega]; simpa using f, by simp⟩
          cases i with
          | zero => simp; omega
          | succ i => simpa using d i (by omega)
        · right; right
          rw [e]
          refine ⟨j + 1, by simp; omega, by omega, fun i hi => ?_, by rw [show k + (j + 1) = k + 1 + j by omega]; simpa using f, by simpa using g, by simp [val]⟩
          cases i with
          | zero => simp; omega
          | succ i => simpa using d i (by omega)
theorem getF_R (l : List Int) : GetR l (getF l).1 (getF l).2.1 (getF l).2.2 := by
  rcases getA_spec l 0 (by omega) with ⟨a, b, e⟩ | ⟨j, a, b, d, f, e⟩ | ⟨j, a, b, d, f, g, e⟩
  · unfold getF; rw [e]; exact .inl ⟨⟨by omega, by omega, b⟩, rfl, rfl, rfl⟩
  · unfold getF; rw [e]; rw [Nat.zero_add] at f; exact .inr (.inl ⟨j, a, ⟨by omega, by omega, d⟩, f, rfl, rfl, rfl⟩)
  · unfold getF; rw [e]; rw [Nat.zero_add] at f; exact .inr (.inr ⟨j, a, ⟨by omega, by omega, d⟩, f, g, rfl, rfl, rfl⟩)
theorem GetR.getF {l : List Int} {n e : Int} {u : Nat} (h : GetR l n u e) : getF l = (n, u, e) := by
  obtain ⟨h1, h2, h3⟩ := (getF_R l).det h
  exact Prod.ext h1 (Prod.ext h2 h3)
/-- A reader: where it stands, its fault. -/
structure Rs where
  at_ : Nat
  e : Int
  p : Int
def rfs (s : Rs) (er p : Int) : Rs := if s.e = 0 then ⟨s.at_, er, p⟩ else s
/-- The number that comes next, if it may be. -/
def rdV (l : List Int) (s : Rs) (er : Int) (may : Int → Bool) : Int × Rs :=
  if s.e = 0 then
    if (getF (l.drop s.at_)).2.2 = 0 then
      if may (getF (l.drop s.at_)).1 = true then ((getF (l.drop s.at_)).1, ⟨s.at_ + (getF (l.drop s.at_)).2.1, 0, s.p⟩)
      else (0, ⟨s.at_ + (getF (l.drop s.at_)).2.1, er, s.at_⟩)
    else (0, ⟨s.at_ + (getF (l.drop s.at_)).2.1, (getF (l.drop s.at_)).2.2, (s.at_ + (getF (l.drop s.at_)).2.1 : Nat)⟩)
  else (0, s)
def mayC (n : Int) : Bool := decide (n ≤ 1048576)
def mayN (n : Int) : Bool := decide (n ≤ 2147483648)
def mayI (enc : Bool) (n : Int) : Bool := decide (n ≤ 47) && isOf n enc
/-- A byte that must be from the least to the greatest. -/
def rdO (l : List Int) (s : Rs) (lo hi : Int) : Int × Rs :=
  if s.e = 0 then
    if s.at_ = l.length then (lo, ⟨s.at_, 20, s.at_⟩)
    else (l.getD s.at_ 0, if l.getD s.at_ 0 < lo ∨ hi < l.getD s.at_ 0 then ⟨s.at_ + 1, 150, s.at_⟩ else ⟨s.at_ + 1, 0, s.p⟩)
  else (lo, s)
def rdN (l : List Int) (s : Rs) : Int × Rs := rdV l s 3 mayN
def rd1 (l : List Int) (k : Int) (s : Rs) : Int × Rs := if k = 0 then (0, s) else ((rdN l s).1 - 1, (rdN l s).2)
def rdI (l : List Int) (enc : Bool) (s : Rs) : In × Rs :=
  let o := rdV l s 140 (mayI enc)
  let a := rd1 l (kin o.1).1 o.2
  let b := rd1 l (kin o.1).2.1 a.2
  let c := rd1 l (kin o.1).2.2 b.2
  (⟨o.1, a.1, b.1, c.1⟩, c.2)
/-- So many of them: where each began, what they are. -/
def rdM {α : Type} (f : Rs → α × Rs) : Nat → Rs → List Int × List α × Rs
  | 0, s => ([], [], s)
  | n + 1, s => if s.e = 0 then ((s.at_ : Int) :: (rdM f n (f s).2).1, (f s).1 :: (rdM f n (f s).2).2.1, (rdM f n (f s).2).2.2) else ([], [], s)
theorem rdM_stop {α : Type} (f : Rs → α × Rs) (n : Nat) (s : Rs) (h : s.e ≠ 0) : rdM f n s = ([], [], s) := by
  cases n with
  | zero => rfl
  | succ n => rw [rdM, if_neg h]
/-- What is read of a program: where each began, and what. -/
structure Pg where
  enc : Bool
  ea : List Int
  E : List Int
  ca : List Int
  C : List In
  s : Rs
def pgm (l : List Int) : Pg :=
  let o1 := rdO l ⟨0, 0, 0⟩ 109 109
  let o2 := rdO l o1.2 0 1
  let n := rdV l o2.2 4 mayC
  let es := rdM (rdN l) n.1.toNat n.2
  let m := rdV l es.2.2 4 mayC
  let cs := rdM (rdI l (o2.1 == 1)) m.1.toNat m.2
  ⟨o2.1 == 1, es.1, es.2.1, cs.1, cs.2.1, if cs.2.2.at_ < l.length then rfs cs.2.2 124 cs.2.2.at_ else cs.2.2⟩
/-- What Decode answers. -/
def decF (l : List Int) : Int × Int :=
  if (pgm l).s.e ≠ 0 then ((pgm l).s.e, (pgm l).s.p) else
  if (chk (pgm l).enc (pgm l).C (pgm l).E).1 = 0 then (0, 0) else
  if (chk (pgm l).enc (pgm l).C (pgm l).E).1 = 140 then (140, (pgm l).ca.getD (chk (pgm l).enc (pgm l).C (pgm l).E).2.toNat 0) else ((chk (pgm l).enc (pgm l).C (pgm l).E).1, (pgm l).ea.getD (chk (pgm l).enc (pgm l).C (pgm l).E).2.toNat 0)
def decE (l : List Int) : Bool := if (decF l).1 = 0 then (pgm l).enc else false
def decC (l : List Int) : List In := if (decF l).1 = 0 then (pgm l).C else []
def decN (l : List Int) : List Int := if (decF l).1 = 0 then (pgm l).E else []
theorem getF_le (l : List Int) : (getF l).2.1 ≤ l.length ∧ (getF l).2.1 ≤ 10 := by
  rcases getA_spec l 0 (by omega) with ⟨a, b, e⟩ | ⟨j, a, b, d, f, e⟩ | ⟨j, a, b, d, f, g, e⟩
  all_goals
    unfold getF; rw [e]; simp only; omega
theorem rdV_at (l : List Int) (s : Rs) (er : Int) (may : Int → Bool) (h : s.at_ ≤ l.length) : (rdV l s er may).2.at_ ≤ l.length := by
  have h1 := (getF_le (l.drop s.at_)).1
  rw [List.length_drop] at h1
  unfold rdV
  repeat' split
  all_goals
    simp only
    omega
end Go.Proofs.YteadmiikenpjeaaDoor
