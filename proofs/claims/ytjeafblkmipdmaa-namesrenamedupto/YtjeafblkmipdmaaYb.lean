/- Names, plain: numbers of names, parents, doubles, uses, depths; what look answers. -/
import Derived.Test.YtjeafblkmipdmaaYa
import Derived.Test.YtjeafblkmipdmaaBa
namespace Go.Proofs.Ytjeafblkmipdmaa
open Go.RowKit
set_option linter.unusedVariables false

/-- The first definition that has a name. -/
def numN (D : List Df) (s : ByteArray) : Option Nat := D.findIdx? (fun d => decide (d.name = s))
theorem numN_snoc (D : List Df) (d : Df) (s : ByteArray) : numN (D ++ [d]) s = if (numN D s).isSome then numN D s else if d.name = s then some D.length else none := by
  unfold numN
  rw [List.findIdx?_append]
  cases h : List.findIdx? (fun d => decide (d.name = s)) D with
  | some i => simp
  | none =>
    by_cases e : d.name = s
    · simp [e, List.findIdx?_cons]
    · simp [e, List.findIdx?_cons]
theorem numN_some {D : List Df} {s : ByteArray} {i : Nat} (h : numN D s = some i) : ∃ d, D[i]? = some d ∧ d.name = s := by
  unfold numN at h
  rw [List.findIdx?_eq_some_iff_getElem] at h
  obtain ⟨h1, h2, _⟩ := h
  exact ⟨_, List.getElem?_eq_getElem h1, of_decide_eq_true h2⟩
theorem numN_lt {D : List Df} {s : ByteArray} {i : Nat} (h : numN D s = some i) : i < D.length := by
  obtain ⟨d, h1, _⟩ := numN_some h
  exact (List.getElem?_eq_some_iff.1 h1).1
/-- Of each node the one that it is a kid of; st: one for each kid that is still to come, the next first. -/
def par : List Nd → Nat → List Int → List Int
  | [], _, _ => []
  | x :: N, i, st => st.headD 0 :: par N (i + 1) (List.replicate x.kids.toNat (i : Int) ++ st.tail)
def parP (N : List Nd) : List Int := par N 0 [-1]
theorem par_len : ∀ (N : List Nd) (i : Nat) (st : List Int), (par N i st).length = N.length
  | [], _, _ => rfl
  | x :: N, i, st => by rw [par, List.length_cons, List.length_cons, par_len]
theorem parP_len (N : List Nd) : (parP N).length = N.length := par_len _ _ _
/-- Just so many are to come. -/
def ctN : List Nd → Nat → Prop
  | [], n => n = 0
  | x :: N, n => 0 < n ∧ 0 ≤ x.kids ∧ ctN N (n - 1 + x.kids.toNat)
theorem ctN_le : ∀ (N : List Nd) (n : Nat), ctN N n → n ≤ N.length
  | [], n, h => by simp [ctN] at h; omega
  | x :: N, n, h => by
    have := ctN_le N _ h.2.2
    simp; omega
theorem Forest.ctN : ∀ (fu d : Nat) (k : Int) (n : Nat) (N : List Nd), Forest fu d k n N → ∀ (M : List Nd) (m : Nat), Go.Proofs.Ytjeafblkmipdmaa.ctN M m → Go.Proofs.Ytjeafblkmipdmaa.ctN (N ++ M) (n + m)
  | 0, d, k, n, N, h, M, m, hm => by
    obtain ⟨rfl, rfl⟩ := h
    simpa using hm
  | fu + 1, d, k, 0, N, h, M, m, hm => by
    have h : N = [] := h
    subst h
    simpa using hm
  | fu + 1, d, k, n + 1, N, h, M, m, hm => by
    obtain ⟨x, A, B, rfl, h1, h2, h3⟩ := h
    have hk := (ndE_kids h1).2.1
    have e : x :: (A ++ B) ++ M = x :: (A ++ (B ++ M)) := by simp
    rw [e]
    refine ⟨by omega, hk, ?_⟩
    have := Forest.ctN fu (d + 1) x.k x.kids.toNat A h2 (B ++ M) (n + m) (Forest.ctN fu d k n B h3 M m hm)
    rw [show n + 1 + m - 1 + x.kids.toNat = x.kids.toNat + (n + m) by omega]
    exact this
theorem tree_ctN {N : List Nd} (h : Forest N.length 0 0 1 N) : ctN N 1 := by
  have := Forest.ctN _ _ _ _ _ h [] 0 rfl
  simpa using this
/-- A node's place among its parent's kids. -/
abbrev Pt := Int × ByteArray × Int
def hasP (met : List Pt) (q : Pt) : Bool := met.any (fun r => decide (r = q))
theorem hasP_snoc (met : List Pt) (q r : Pt) : hasP (met ++ [q]) r = (hasP met r || decide (q = r)) := by simp [hasP]
def lkN (D : List Df) : List Nd → List Int → List Pt → Int × Int
  | x :: N, p :: P, met => if hasP met (p, x.label, x.tag) = true then (80, x.a) else if x.k = 9 ∧ numN D x.name = none then (81, x.a) else lkN D N P (met ++ [(p, x.label, x.tag)])
  | _, _, _ => (0, 0)
def lkT (D : List Df) (N : List Nd) : Int × Int := lkN D N (parP N) []
def lkD (D0 : List Df) : List Df → Nat → Int × Int
  | [], _ => (0, 0)
  | d :: D, i => if numN D0 d.name = some i then (if (lkT D0 d.ty).1 = 0 then lkD D0 D (i + 1) else lkT D0 d.ty) else (80, d.a)
def numZ (D : List Df) (s : ByteArray) : Nat := (numN D s).getD 0
def usAdd (D : List Df) (acc : List Nat) (x : Nd) : List Nat := if x.k = 9 then (if numZ D x.name ∈ acc then acc else acc ++ [numZ D x.name]) else acc
def usT (D : List Df) (N : List Nd) : List Nat := N.foldl (usAdd D) []
def usD (D : List Df) : List (List Nat) := D.map (fun d => usT D d.ty)
theorem usD_len (D : List Df) : (usD D).length = D.length := by simp [usD]
/-- The depths of a list's nodes, from the last on: node i is done. -/
def hgS (f : ByteArray → Int) (x : Nd) (p : Int) (i : Nat) (ds : List Int) : List Int :=
  let v := max (if x.k = 9 then f x.name else ds.getD i 0) 1
  if 0 ≤ p then (ds.set i v).set p.toNat (max ((ds.set i v).getD p.toNat 0) (v + 1)) else ds.set i v
def hgL (f : ByteArray → Int) (N : List Nd) (P : List Int) : Nat → List Int → List Int
  | 0, ds => ds
  | i + 1, ds => hgL f N P i (hgS f (N.getD i nd0) (P.getD i 0) i ds)
def hgt (f : ByteArray → Int) (N : List Nd) : Int := (hgL f N (parP N) N.length (List.replicate N.length 0)).getD 0 0
def depF (D : List Df) (ds : List Int) (s : ByteArray) : Int := ds.getD (numZ D s) 0
/-- These are the definitions' depths. -/
def DepR (D : List Df) (ds : List Int) : Prop := ds.length = D.length ∧ ∀ (i : Nat) (d : Df), D[i]? = some d → ds.getD i 0 = hgt (depF D ds) d.ty
/-- What look answers: the error, its place, the order and the depths. -/
def LookTo (D : List Df) (E A : Int) (o : List Nat) (ds : List Int) : Prop :=
  if (ckP D).2.2 = 0 then
    (if (lkD D D 0).1 = 0 then
      ((∃ i d, D[i]? = some d ∧ Lead (usD D) i i ∧ (∀ j, j < i → ¬ Lead (usD D) j j) ∧ E = 82 ∧ A = d.a ∧ o = [] ∧ ds = []) ∨
       (Acy (usD D) ∧ ∃ p qs, Ordr (usD D) p ∧ p.length = D.length ∧ DepR D qs ∧
         ((∃ i d, D[i]? = some d ∧ 64 < qs.getD i 0 ∧ (∀ j, j < i → qs.getD j 0 ≤ 64) ∧ E = 83 ∧ A = d.a ∧ o = [] ∧ ds = []) ∨
          ((∀ j, qs.getD j 0 ≤ 64) ∧ E = 0 ∧ A = 0 ∧ o = p ∧ ds = qs))))
    else E = (lkD D D 0).1 ∧ A = (lkD D D 0).2 ∧ o = [] ∧ ds = [])
  else E = 62 ∧ A = 0 ∧ o = [] ∧ ds = []
end Go.Proofs.Ytjeafblkmipdmaa
