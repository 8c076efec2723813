/- Raise, plain: the routines of a schema's types. -/
import Derived.Test.YtncndgfaalojpaaRwa
import Derived.Test.YtncndgfaalojpaaEe
namespace Go.Proofs.Ytncndgfaalojpaa
open Go.RowKit
set_option linter.unusedVariables false

def tyA (T : List Ty) (n : Int) : Ty := T.getD n.toNat ty0
theorem tyA_at {T : List Ty} {n : Nat} {t : Ty} (h : T[n]? = some t) : tyA T (n : Int) = t := by simp [tyA, List.getD, h]
def ptA (ps : List Pt) (j : Nat) : Pt := ps.getD j pt0
theorem ptA_at {ps : List Pt} {j : Nat} {p : Pt} (h : ps[j]? = some p) : ptA ps j = p := by simp [ptA, List.getD, h]
def slA (l : List Sl) (j : Nat) : Sl := l.getD j sl0
theorem slA_at {l : List Sl} {j : Nat} {s : Sl} (h : l[j]? = some s) : slA l j = s := by simp [slA, List.getD, h]
/-- What writes a leaf of a type at a place, or else that. -/
def lfP (t : Ty) (pl : Int) (x : In) : In := if t.k = 1 then ⟨33, pl, t.n, 0⟩ else if t.k = 2 then ⟨35, pl, 0, 0⟩ else x
def isLf (t : Ty) : Bool := decide (t.k = 1 ∨ t.k = 2)
theorem lfP_no {t : Ty} (h : isLf t = false) (pl : Int) (x : In) : lfP t pl x = x := by
  unfold isLf at h
  have := of_decide_eq_false h
  unfold lfP
  rw [if_neg (by omega), if_neg (by omega)]
theorem lfP_any {t : Ty} (h : isLf t = true) (pl : Int) (x y : In) : lfP t pl x = lfP t pl y := by
  unfold isLf at h
  have := of_decide_eq_true h
  unfold lfP
  by_cases h1 : t.k = 1
  · rw [if_pos h1, if_pos h1]
  · rw [if_neg h1, if_neg h1, if_pos (by omega), if_pos (by omega)]
/-- Fixed items behind the head at b. -/
def zrF (T : List Ty) (t : Ty) (sz b : Int) : List In :=
  if t.k = 5 then [⟨19, 0, b + 3, 0⟩, lfP (tyA T t.e) (-1) ⟨45, sz, 0, t.e⟩, ⟨47, 0, b + 2, 0⟩] else [lfP (tyA T t.e) (-1) ⟨45, sz, 0, t.e⟩, ⟨47, 0, b + 1, 0⟩]
def zrV (t : Ty) (b : Int) : List In :=
  if t.k = 5 then [⟨42, -1, 0, 0⟩, ⟨19, 0, b + 5, 0⟩, ⟨43, -1, 0, 0⟩, ⟨46, 0, 0, t.e⟩, ⟨47, 0, b + 3, 0⟩] else [⟨42, -1, 0, 0⟩, ⟨43, -1, 0, 0⟩, ⟨46, 0, 0, t.e⟩, ⟨47, 0, b + 2, 0⟩]
def zrI (T : List Ty) (X : List Ex) (t : Ty) (b : Int) : List In := if (exAt X t.e).f then zrF T t (exAt X t.e).l b else zrV t b
/-- The heads of the first arms, and the arms. -/
def zaH (ps : List Pt) (b : Int) (m : Nat) : List In := (List.range m).map (fun j => ⟨9, (ptA ps j).tag, b + 1 + ps.length + 2 * (j : Int), 0⟩)
def zaB (ps : List Pt) (m : Nat) : List In := (List.range m).flatMap (fun j => (if 0 < j then [⟨20, 0, 0, 0⟩] else []) ++ [⟨46, 0, 0, (ptA ps j).ty⟩])
def zaP (ps : List Pt) (b : Int) : List In := ⟨41, ps.length, 0, 0⟩ :: (zaH ps b ps.length ++ zaB ps ps.length)
theorem zaH_succ (ps : List Pt) (b : Int) (m : Nat) : zaH ps b (m + 1) = zaH ps b m ++ [⟨9, (ptA ps m).tag, b + 1 + ps.length + 2 * (m : Int), 0⟩] := by simp [zaH, List.range_succ]
theorem zaH_len (ps : List Pt) (b : Int) (m : Nat) : (zaH ps b m).length = m := by simp [zaH]
theorem zaB_succ (ps : List Pt) (m : Nat) : zaB ps (m + 1) = zaB ps m ++ ((if 0 < m then [⟨20, 0, 0, 0⟩] else []) ++ [⟨46, 0, 0, (ptA ps m).ty⟩]) := by simp [zaB, List.range_succ]
theorem zaB_len (ps : List Pt) (m : Nat) : (zaB ps m).length = 2 * m - 1 := by
  induction m with
  | zero => rfl
  | succ m ih =>
    rw [zaB_succ, List.length_append, ih]
    by_cases h : 0 < m
    · rw [if_pos h]; simp; omega
    · rw [if_neg h]; obtain rfl : m = 0 := by omega
      rfl
/-- The fields of a struct. -/
def zfV (l : List Sl) : Bool := l.any (·.v)
def zfO (T : List Ty) (p : Pt) (s : Sl) : List In := if s.v then [⟨43, s.at_, 0, 0⟩, ⟨46, 0, 0, p.ty⟩] else [lfP (tyA T p.ty) s.at_ ⟨44, s.at_, 0, p.ty⟩]
def zfB (T : List Ty) (ps : List Pt) (l : List Sl) (m : Nat) : List In := (List.range m).flatMap (fun j => zfO T (ptA ps j) (slA l j))
theorem zfB_succ (T : List Ty) (ps : List Pt) (l : List Sl) (m : Nat) : zfB T ps l (m + 1) = zfB T ps l m ++ zfO T (ptA ps m) (slA l m) := by simp [zfB, List.range_succ]
theorem zfO_len (T : List Ty) (p : Pt) (s : Sl) : 1 ≤ (zfO T p s).length ∧ (zfO T p s).length ≤ 2 := by unfold zfO; split <;> simp
theorem zfB_len (T : List Ty) (ps : List Pt) (l : List Sl) (m : Nat) : m ≤ (zfB T ps l m).length ∧ (zfB T ps l m).length ≤ 2 * m := by
  induction m with
  | zero => exact ⟨Nat.le_refl _, Nat.le_refl _⟩
  | succ m ih =>
    have := zfO_len T (ptA ps m) (slA l m)
    rw [zfB_succ, List.length_append]
    omega
def zfP (T : List Ty) (ps : List Pt) (y : Ly) : List In := ⟨39, ps.length, 0, 0⟩ :: ((if zfV y.sl then [⟨42, y.sz, 0, 0⟩] else []) ++ zfB T ps y.sl ps.length)
/-- A type's routine at b, but for its ret. -/
def zbP (T : List Ty) (X : List Ex) (t : Ty) (b : Int) : List In :=
  if t.k = 1 then [⟨33, 0, t.n, 0⟩] else
  if t.k = 2 then [⟨35, 0, 0, 0⟩] else
  if t.k = 3 then [⟨36, 0, 0, 0⟩] else
  if t.k = 4 then ⟨37, t.n, 0, 0⟩ :: zrI T X t b else
  if t.k = 5 then ⟨38, t.n, 0, 0⟩ :: zrI T X t b else
  if t.k = 6 then [⟨40, 0, b + 2, 0⟩, ⟨46, 0, 0, t.e⟩] else
  if t.k = 7 then zaP t.ps b else
  if t.k = 8 then zfP T t.ps (layP X t) else []
def zrP (T : List Ty) (X : List Ex) (t : Ty) (b : Int) : List In := zbP T X t b ++ [⟨20, 0, 0, 0⟩]
/-- The code of the first types. -/
def zC (T : List Ty) (X : List Ex) : Nat → List In
  | 0 => []
  | n + 1 => zC T X n ++ zrP T X (tyA T (n : Int)) ((zC T X n).length : Int)
def zE (T : List Ty) (X : List Ex) (n : Nat) : List Int := (List.range n).map (fun j => ((zC T X j).length : Int))
theorem zE_succ (T : List Ty) (X : List Ex) (i : Nat) : zE T X (i + 1) = zE T X i ++ [((zC T X i).length : Int)] := by simp [zE, List.range_succ]
theorem zE_len (T : List Ty) (X : List Ex) (i : Nat) : (zE T X i).length = i := by simp [zE]
theorem zC_mono (T : List Ty) (X : List Ex) (i : Nat) : ∀ j, (zC T X i).length ≤ (zC T X (i + j)).length
  | 0 => Nat.le_refl _
  | j + 1 => by
    have := zC_mono T X i j
    show _ ≤ (zC T X (i + j) ++ _).length
    rw [List.length_append]
    omega
theorem zC_front (T : List Ty) (X : List Ex) (i : Nat) : ∀ j, (zC T X i) <+: (zC T X (i + j))
  | 0 => List.prefix_refl _
  | j + 1 => by
    have := zC_front T X i j
    show _ <+: zC T X (i + j) ++ _
    exact this.trans (List.prefix_append _ _)
theorem zC_lt (T : List Ty) (X : List Ex) (n : Nat) : (zC T X n).length < (zC T X (n + 1)).length := by
  show _ < (zC T X n ++ _).length
  rw [List.length_append]
  unfold zrP
  rw [List.length_append]
  simp
theorem zC_last (T : List Ty) (X : List Ex) (n : Nat) : (zC T X (n + 1))[(zC T X (n + 1)).length - 1]? = some ⟨20, 0, 0, 0⟩ := by
  have e : zC T X (n + 1) = (zC T X n ++ zbP T X (tyA T (n : Int)) ((zC T X n).length : Int)) ++ [⟨20, 0, 0, 0⟩] := by
    show zC T X n ++ zrP T X _ _ = _
    unfold zrP
    rw [List.append_assoc]
  rw [e, List.length_append, List.length_singleton, Nat.add_sub_cancel, List.getElem?_append_right (Nat.le_refl _), Nat.sub_self]
  rfl
theorem zC_len2 (T : List Ty) (X : List Ex) (n : Nat) : n ≤ (zC T X n).length := by
  induction n with
  | zero => exact Nat.zero_le _
  | succ n ih => have := zC_lt T X n; omega
def bigX (X : List Ex) : Bool := X.any (fun x => decide (16777216 < x.m))
/-- The error that Encoder answers. -/
def zA (T : List Ty) (R : List Rt) : Int := if (chk T R).1 ≠ 0 then 92 else if bigX (extL T) then 91 else if 1048576 < (zC T (extL T) T.length).length then 4 else 0
def zX (T : List Ty) (R : List Rt) : List In := if zA T R = 0 then zC T (extL T) T.length else []
def zY (T : List Ty) (R : List Rt) : List Int := if zA T R = 0 then zE T (extL T) T.length else []
end Go.Proofs.Ytncndgfaalojpaa
