/- typing, plain: which nodes fit, the kids' types, the walk through a value; the table of kinds. -/
import Derived.Test.YtlfjcihhcphjkaaDoorZnv
namespace Go.Proofs.YtlfjcihhcphjkaaDoor
open Go.RowKit
set_option linter.unusedVariables false

def nkT : List Int := [0, 1, 2, 1, 3, 3, 5, 6, 4]
/-- The kind of a type's nodes. -/
def nkind (k : Int) : Int := nkT.getD k.toNat 0
/-- The table of kinds lies in block 0. -/
structure Tab (w : World) : Prop where
  lt : 0 < w.heap.size
  is : ∀ i, i < 9 → w.cell? ⟨0, i, none⟩ = some (.int .i64 (nkT.getD i 0))
theorem Tab.later {w w' : World} (h : Tab w) (hB : Below w.heap.size w w') : Tab w' :=
  ⟨Nat.lt_of_lt_of_le h.lt hB.size, fun i hi => (hB.cell (p := ⟨0, i, none⟩) h.lt).trans (h.is i hi)⟩
theorem Tab.upd {w w' : World} {S : Nat → Prop} (h : Tab w) (hu : Upd S w w') (hs : ¬ S 0) : Tab w' :=
  ⟨Nat.lt_of_lt_of_le h.lt hu.size, fun i hi => by rw [World.cell?_of_block (w := w) (hu.block 0 h.lt hs)]; exact h.is i hi⟩
/-- The greatest number of so many bytes. -/
def gr (n : Int) : Int := 2 ^ (8 * n).toNat - 1
/-- Why a node does not fit. -/
def misP (t : Ty) (x : Nv) : Int :=
  if x.k ≠ nkind t.k then 110 else
  if t.k = 1 then (if gr t.n < x.n then 111 else 0) else
  if t.k = 4 then (if x.kids < t.n ∨ t.n < x.kids then 112 else 0) else
  if t.k = 5 then (if x.kids < 0 ∨ t.n < x.kids then 112 else 0) else
  if t.k = 8 then (if x.kids < t.ps.length ∨ t.ps.length < x.kids then 112 else 0) else
  if t.k = 7 then (if (armI t.ps x.n).isSome then 0 else 113) else 0
/-- The types of the kids, in order. -/
def kidsT (t : Ty) (x : Nv) : List Int :=
  if t.k = 7 then [(t.ps.getD ((armI t.ps x.n).getD 0) pt0).ty] else
  if t.k = 8 then t.ps.map (·.ty) else List.replicate x.kids.toNat t.e
/-- The walk: the types that are still to come (the next one first), the nodes, the place: the types, the error, its place. -/
def wkT (T : List Ty) : List Int → List Nv → Nat → List Int × Int × Int
  | t :: st, x :: v, i =>
    if misP (T.getD t.toNat ty0) x ≠ 0 then ([], misP (T.getD t.toNat ty0) x, (i : Int)) else
    let r := wkT T (kidsT (T.getD t.toNat ty0) x ++ st) v (i + 1)
    if r.2.1 ≠ 0 then r else (t :: r.1, 0, 0)
  | _, _, _ => ([], 0, 0)
/-! ### value.Check -/
def mostN (k : Int) : Int := if k = 1 then 18446744073709551615 else if k = 2 then 1 else if k = 6 then 255 else 0
def leastK (k : Int) : Int := if k = 4 then 1 else if k = 6 then 1 else 0
def mostK (k : Int) : Int := if k = 3 then 1048576 else if k = 4 then 64 else if k = 5 then 1 else if k = 6 then 1 else 0
def isK (k : Int) : Bool := decide (1 ≤ k ∧ k ≤ 6)
def rightV (x : Nv) : Bool := decide ((1 ≤ x.k ∧ x.k ≤ 6) ∧ x.n ≤ mostN x.k ∧ leastK x.k ≤ x.kids ∧ x.kids ≤ mostK x.k)
theorem rightV_iff (x : Nv) : rightV x = true ↔ (1 ≤ x.k ∧ x.k ≤ 6) ∧ x.n ≤ mostN x.k ∧ leastK x.k ≤ x.kids ∧ x.kids ≤ mostK x.k := by simp [rightV]
theorem rightV_kids {x : Nv} (h : rightV x = true) : 0 ≤ x.kids ∧ x.kids ≤ 1048576 := by
  have h := (rightV_iff x).1 h
  unfold leastK mostK at h
  split at h <;> (try split at h) <;> (try split at h) <;> (try split at h) <;> omega
/-- value.Check: so many values are still missing, so many nodes are ahead. -/
def chkV (m a : Int) : List Nv → Int × Int
  | [] => if 0 < m then (40, a) else (0, 0)
  | x :: l => if m = 0 ∨ rightV x = false then (40, a) else chkV (m + (x.kids - 1)) (a + 1) l
/-- What Types answers. -/
def tyV (T : List Ty) (R : List Rt) (t : Int) (v : List Nv) : List Int × Int × Int :=
  if (chk T R).1 ≠ 0 then ([], chk T R) else
  if t < 0 ∨ (T.length : Int) ≤ t then ([], 3, 0) else
  if (chkV 1 0 v).1 ≠ 0 then ([], chkV 1 0 v) else wkT T [t] v 0
/-! ### Some -/
def pickP (t : Ty) (p : Int) : Nv :=
  if t.k = 1 then ⟨1, p % 2 ^ (8 * t.n).toNat, 0⟩ else
  if t.k = 2 then ⟨2, p % 2, 0⟩ else
  if t.k = 3 then ⟨1, p, 0⟩ else
  if t.k = 4 then ⟨3, 0, t.n⟩ else
  if t.k = 5 then ⟨3, 0, p % (t.n + 1)⟩ else
  if t.k = 6 then ⟨5, 0, p % 2⟩ else
  if t.k = 7 then ⟨6, (t.ps.getD (p % t.ps.length).toNat pt0).tag, 1⟩ else ⟨4, 0, t.ps.length⟩
def pickA (p : List Int) (i : Nat) : Int := if i < p.length then p.getD i 0 % 18446744073709551616 else 0
/-- The making of a value: what is still to come, what is made; none: too many nodes. -/
def mkT (T : List Ty) (p : List Int) : Nat → List Int → List Nv → Option (List Nv)
  | 0, _, _ => none
  | _ + 1, [], v => some v
  | f + 1, t :: st, v =>
    let x := pickP (T.getD t.toNat ty0) (pickA p v.length)
    if (v.length : Int) + (st.length + 1) + x.kids > 1048576 then none else mkT T p f (kidsT (T.getD t.toNat ty0) x ++ st) (v ++ [x])
def someT (T : List Ty) (R : List Rt) (t : Int) (p : List Int) : List Nv × Int :=
  if (chk T R).1 ≠ 0 then ([], (chk T R).1) else
  if t < 0 ∨ (T.length : Int) ≤ t then ([], 3) else
  match mkT T p 1048578 [t] [] with
  | some v => (v, 0)
  | none => ([], 5)
end Go.Proofs.YtlfjcihhcphjkaaDoor
