import Derived.Test.YtfgdkhmoikkgjaaPart23
import Derived.Test.YtfgdkhmoikkgjaaPart19

/- Types of a source, plain: what Build makes. -/
namespace Go.Proofs.Ytfgdkhmoikkgjaa
open Go.RowKit
set_option linter.unusedVariables false

/-- The type that a node makes, its kids being made. -/
def mdT (x : Nd) (ps : List Ptz) : Ty := ⟨x.k, x.n, if x.k = 4 ∨ x.k = 5 ∨ x.k = 6 then (ps.headD pt0).ty else 0, if x.k = 7 ∨ x.k = 8 then ps else []⟩
/-- The types of n trees, one behind the other: a part for each, what is left of the nodes, all types so far. -/
def bF (kn : ByteArray → Option Nat) : Nat → Nat → List Nd → List Ty → List Ptz × List Nd × List Ty
  | 0, _, N, T => ([], N, T)
  | _ + 1, 0, N, T => ([], N, T)
  | _ + 1, _ + 1, [], T => ([], [], T)
  | fu + 1, n + 1, x :: N, T =>
    let a := bF kn fu x.kids.toNat N T
    let b := bF kn fu n a.2.1 (if x.k = 9 then a.2.2 else a.2.2 ++ [mdT x a.1])
    (⟨x.label, x.tag, if x.k = 9 then (((kn x.name).getD 0 : Nat) : Int) else (a.2.2.length : Int)⟩ :: b.1, b.2)
theorem bF_zero (kn : ByteArray → Option Nat) (fu : Nat) (N : List Nd) (T : List Ty) : bF kn fu 0 N T = ([], N, T) := by cases fu <;> rfl
theorem bF_cons (kn : ByteArray → Option Nat) (fu n : Nat) (x : Nd) (N : List Nd) (T : List Ty) :
    bF kn (fu + 1) (n + 1) (x :: N) T = ((bF kn (fu + 1) 1 (x :: N) T).1 ++ (bF kn fu n (bF kn (fu + 1) 1 (x :: N) T).2.1 (bF kn (fu + 1) 1 (x :: N) T).2.2).1, (bF kn fu n (bF kn (fu + 1) 1 (x :: N) T).2.1 (bF kn (fu + 1) 1 (x :: N) T).2.2).2) := by
  simp only [bF, bF_zero, List.singleton_append]
theorem bF_rest (kn : ByteArray → Option Nat) : ∀ (fu d : Nat) (k : Int) (n : Nat) (N : List Nd), Forest fu d k n N → ∀ (M : List Nd) (T : List Ty), (bF kn fu n (N ++ M) T).2.1 = M
  | 0, d, k, n, N, h, M, T => by
    obtain ⟨rfl, rfl⟩ := h
    rfl
  | fu + 1, d, k, 0, N, h, M, T => by
    have h : N = [] := h
    subst h
    rfl
  | fu + 1, d, k, n + 1, N, h, M, T => by
    obtain ⟨x, A, B, rfl, h1, h2, h3⟩ := h
    have e1 := bF_rest kn fu (d + 1) x.k x.kids.toNat A h2 (B ++ M) T
    have e : x :: (A ++ B) ++ M = x :: (A ++ (B ++ M)) := by simp
    rw [e]
    simp only [bF, e1]
    exact bF_rest kn fu d k n B h3 M _
theorem bF_len (kn : ByteArray → Option Nat) : ∀ (fu d : Nat) (k : Int) (n : Nat) (N : List Nd), Forest fu d k n N → ∀ (M : List Nd) (T : List Ty), T.length ≤ (bF kn fu n (N ++ M) T).2.2.length ∧ (bF kn fu n (N ++ M) T).2.2.length ≤ T.length + N.length ∧ (bF kn fu n (N ++ M) T).1.length = n
  | 0, d, k, n, N, h, M, T => by
    obtain ⟨rfl, rfl⟩ := h
    exact ⟨Nat.le_refl _, Nat.le_refl _, rfl⟩
  | fu + 1, d, k, 0, N, h, M, T => by
    have h : N = [] := h
    subst h
    exact ⟨Nat.le_refl _, Nat.le_refl _, rfl⟩
  | fu + 1, d, k, n + 1, N, h, M, T => by
    obtain ⟨x, A, B, rfl, h1, h2, h3⟩ := h
    have e1 := bF_rest kn fu (d + 1) x.k x.kids.toNat A h2 (B ++ M) T
    obtain ⟨l1, l2, -⟩ := bF_len kn fu (d + 1) x.k x.kids.toNat A h2 (B ++ M) T
    have e : x :: (A ++ B) ++ M = x :: (A ++ (B ++ M)) := by simp
    rw [e]
    simp only [bF, e1]
    obtain ⟨m1, m2, m3⟩ := bF_len kn fu d k n B h3 M (if x.k = 9 then (bF kn fu x.kids.toNat (A ++ (B ++ M)) T).2.2 else (bF kn fu x.kids.toNat (A ++ (B ++ M)) T).2.2 ++ [mdT x (bF kn fu x.kids.toNat (A ++ (B ++ M)) T).1])
    simp only [List.length_cons, List.length_append] at m1 m2 m3 ⊢
    by_cases h9 : x.k = 9
    · simp only [h9, if_true] at m1 m2 m3 ⊢
      exact ⟨by omega, by omega, by omega⟩
    · simp only [h9, if_false, List.length_append, List.length_singleton] at m1 m2 m3 ⊢
      exact ⟨by omega, by omega, by omega⟩
/-- The first number or tag out of its bounds. -/
def lbN : List Nd → Int × Int
  | [] => (0, 0)
  | x :: N => if ((x.k = 4 ∨ x.k = 5) ∧ ¬ (1 ≤ x.n ∧ x.n ≤ 1048576)) ∨ 255 < x.tag then (90, x.a) else lbN N
def lbD : List Df → Int × Int
  | [] => (0, 0)
  | d :: D => if (lbN d.ty).1 = 0 then lbD D else lbN d.ty
theorem lbN_zero : ∀ N : List Nd, (lbN N).1 = 0 → lbN N = (0, 0)
  | [], _ => rfl
  | x :: N, h => by
    unfold lbN at h ⊢
    split at h
    · cases h
    · rename_i h0
      rw [if_neg h0]
      exact lbN_zero N h
theorem lbD_zero : ∀ D : List Df, (lbD D).1 = 0 → lbD D = (0, 0)
  | [], _ => rfl
  | d :: D, h => by
    unfold lbD at h ⊢
    split at h
    · rename_i h0
      rw [if_pos h0]
      exact lbD_zero D h
    · rename_i h0
      exact absurd h h0
/-- One definition more is made. -/
def bD (kn : ByteArray → Option Nat) (T : List Ty) (d : Df) : (ByteArray → Option Nat) × List Ty :=
  let r := bF kn d.ty.length 1 d.ty T
  (fun t => if t = d.name then some ((r.1.headD pt0).ty.toNat) else kn t, r.2.2)
def bO (D : List Df) : List Nat → (ByteArray → Option Nat) → List Ty → (ByteArray → Option Nat) × List Ty
  | [], kn, T => (kn, T)
  | i :: o, kn, T => let r := bD kn T (D.getD i ⟨⟨#[]⟩, 0, []⟩); bO D o r.1 r.2
theorem bO_snoc (D : List Df) (i : Nat) : ∀ (o : List Nat) (kn : ByteArray → Option Nat) (T : List Ty), bO D (o ++ [i]) kn T = bD (bO D o kn T).1 (bO D o kn T).2 (D.getD i ⟨⟨#[]⟩, 0, []⟩)
  | [], kn, T => rfl
  | j :: o, kn, T => by
    rw [List.cons_append, bO, bO]
    exact bO_snoc D i o _ _
def rtsP (D : List Df) (kn : ByteArray → Option Nat) : List Rt := D.map (fun d => ⟨d.name, (((kn d.name).getD 0 : Nat) : Int)⟩)
/-- What Build answers. -/
def BlTo (D : List Df) (T : List Ty) (R : List Rt) (E A : Int) : Prop :=
  if (ckP D).2.2 = 0 then
    ∃ E1 A1 o ds, LookTo D E1 A1 o ds ∧
      (if E1 = 0 ∧ A1 = 0 then
        (if (lbD D).1 = 0 then T = (bO D o (fun _ => none) []).2 ∧ R = rtsP D (bO D o (fun _ => none) []).1 ∧ E = 0 ∧ A = 0
        else T = [] ∧ R = [] ∧ E = (lbD D).1 ∧ A = (lbD D).2)
      else T = [] ∧ R = [] ∧ E = E1 ∧ A = A1)
  else T = [] ∧ R = [] ∧ E = (ckP D).2.2 ∧ A = 0
end Go.Proofs.Ytfgdkhmoikkgjaa
