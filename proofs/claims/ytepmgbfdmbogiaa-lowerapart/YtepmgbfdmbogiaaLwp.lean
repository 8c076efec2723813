/- Lower, plain: the routines of a schema's types. -/
import Derived.Test.YtepmgbfdmbogiaaLwb
import Derived.Test.YtepmgbfdmbogiaaEe
namespace Go.Proofs.Ytepmgbfdmbogiaa
open Go.RowKit
set_option linter.unusedVariables false

def tyA (T : List Ty) (n : Int) : Ty := T.getD n.toNat ty0
theorem tyA_at {T : List Ty} {n : Nat} {t : Ty} (h : T[n]? = some t) : tyA T (n : Int) = t := by simp [tyA, List.getD, h]
/-- How a kid of a type is read. -/
def rdP (T : List Ty) (kid n : Int) : In :=
  if (tyA T n).k = 1 then ⟨1, kid, (tyA T n).n, 0⟩ else if (tyA T n).k = 2 then ⟨3, kid, 0, 0⟩ else if (tyA T n).k = 3 then ⟨4, kid, 0, 0⟩ else ⟨16, kid, 0, n⟩
def itF (T : List Ty) (t : Ty) (b : Int) : List In :=
  if t.k = 5 then [⟨13, t.n, b + 4, 0⟩, rdP T (-1) t.e, ⟨19, 0, b + 1, 0⟩] else [rdP T (-1) t.e, ⟨14, t.n, b + 1, 0⟩]
def itV (t : Ty) (sz b : Int) : List In :=
  if t.k = 5 then [⟨11, t.n, b + 9, 0⟩, ⟨19, 0, b + 4, 0⟩, ⟨10, 4, 0, 0⟩, ⟨12, 0, b + 3, 0⟩, ⟨19, 0, b + 8, 0⟩, ⟨17, -1, -1, t.e⟩, ⟨18, -1, 0, 0⟩, ⟨15, 0, b + 6, 0⟩]
  else [⟨10, sz, 0, 0⟩, ⟨12, 0, b + 1, 0⟩, ⟨19, 0, b + 6, 0⟩, ⟨17, -1, -1, t.e⟩, ⟨18, -1, 0, 0⟩, ⟨15, 0, b + 4, 0⟩]
def ptA (ps : List Pt) (j : Nat) : Pt := ps.getD j pt0
theorem ptA_at {ps : List Pt} {j : Nat} {p : Pt} (h : ps[j]? = some p) : ptA ps j = p := by simp [ptA, List.getD, h]
/-- The heads of the arms, those below k with their targets. -/
def hdP (ps : List Pt) (b : Int) (k m : Nat) : List In := (List.range m).map (fun j => ⟨9, (ptA ps j).tag, if j < k then b + 1 + ps.length + 2 * (j : Int) else 0, 0⟩)
/-- The arms, the jumps of all but the last with that target. -/
def bdP (T : List Ty) (ps : List Pt) (r : Int) (m : Nat) : List In := (List.range m).flatMap (fun j => rdP T 0 (ptA ps j).ty :: if j + 1 < ps.length then [⟨19, 0, r, 0⟩] else [])
def armP (T : List Ty) (ps : List Pt) (b : Int) : List In := ⟨8, ps.length, 0, 0⟩ :: (hdP ps b ps.length ps.length ++ bdP T ps (b + 3 * ps.length) ps.length)
/-- The fixed part of a struct. -/
def fxP (T : List Ty) (X : List Ex) (ps : List Pt) (sz : Int) (m : Nat) : List In := (List.range m).map (fun j => if (exAt X (ptA ps j).ty).f then rdP T (j : Int) (ptA ps j).ty else ⟨10, sz, 0, 0⟩)
/-- How many of the first fields are variable. -/
def vrN (X : List Ex) (ps : List Pt) : Nat → Nat
  | 0 => 0
  | m + 1 => vrN X ps m + if (exAt X (ptA ps m).ty).f then 0 else 1
/-- The variable fields of a struct. -/
def vrP (X : List Ex) (ps : List Pt) (m : Nat) : List In := (List.range m).flatMap (fun j => if (exAt X (ptA ps j).ty).f then [] else [⟨17, (j : Int), vrN X ps j, (ptA ps j).ty⟩, ⟨18, vrN X ps j, 0, 0⟩])
def fldP (T : List Ty) (X : List Ex) (ps : List Pt) (sz : Int) : List In := ⟨6, 0, 0, 0⟩ :: (fxP T X ps sz ps.length ++ vrP X ps ps.length)
/-- A type's routine at b, but for its ret. -/
def bodP (T : List Ty) (X : List Ex) (t : Ty) (n b : Int) : List In :=
  if t.k = 6 then [⟨7, 0, b + 2, 0⟩, rdP T 0 t.e] else
  if t.k = 1 ∨ t.k = 2 ∨ t.k = 3 then [rdP T (-1) n] else
  if t.k = 4 ∨ t.k = 5 then ⟨5, 0, 0, 0⟩ :: (if (exAt X t.e).f then itF T t b else itV t (layP X t).sz b) else
  if t.k = 7 then armP T t.ps b else
  if t.k = 8 then fldP T X t.ps (layP X t).sz else []
def rtnP (T : List Ty) (X : List Ex) (t : Ty) (n b : Int) : List In := bodP T X t n b ++ [⟨20, 0, 0, 0⟩]
/-- The code of the first types. -/
def lowC (T : List Ty) (X : List Ex) : Nat → List In
  | 0 => []
  | n + 1 => lowC T X n ++ rtnP T X (tyA T (n : Int)) (n : Int) ((lowC T X n).length : Int)
def lowE (T : List Ty) (X : List Ex) (n : Nat) : List Int := (List.range n).map (fun j => ((lowC T X j).length : Int))
/-! ### Targets filled in -/
theorem patI_mid (n : Int) (P : List In) (x : In) (Q : List In) (k : Int) (hk : k = P.length) : patI n (P ++ x :: Q) k = P ++ ⟨x.op, x.a, n, x.c⟩ :: Q := by
  subst hk
  unfold patI
  simp
theorem patL_nil (n : Int) (C : List In) : patL n [] C = C := rfl
theorem patL_one (n k : Int) (C : List In) : patL n [k] C = patI n C k := rfl
theorem hdP_len (ps : List Pt) (b : Int) (k m : Nat) : (hdP ps b k m).length = m := by simp [hdP]
theorem hdP_succ (ps : List Pt) (b : Int) (m : Nat) : hdP ps b 0 (m + 1) = hdP ps b 0 m ++ [⟨9, (ptA ps m).tag, 0, 0⟩] := by simp [hdP, List.range_succ]
theorem hdP_at {ps : List Pt} {b : Int} {k m j : Nat} (h : j < m) : (hdP ps b k m)[j]? = some ⟨9, (ptA ps j).tag, if j < k then b + 1 + ps.length + 2 * (j : Int) else 0, 0⟩ := by simp [hdP, h]
theorem hdP_pat (ps : List Pt) (b : Int) (k m : Nat) (h : k < m) : (hdP ps b k m).set k ⟨9, (ptA ps k).tag, b + 1 + ps.length + 2 * (k : Int), 0⟩ = hdP ps b (k + 1) m := by
  apply List.ext_getElem?
  intro j
  by_cases hj : j < m
  · rw [hdP_at hj]
    by_cases e : j = k
    · subst e
      rw [List.getElem?_set_self (by rw [hdP_len]; exact hj), if_pos (by omega)]
    · rw [List.getElem?_set_ne (fun h => e h.symm), hdP_at hj]
      by_cases h1 : j < k
      · rw [if_pos h1, if_pos (by omega)]
      · rw [if_neg h1, if_neg (by omega)]
  · rw [List.getElem?_eq_none (by rw [List.length_set, hdP_len]; omega), List.getElem?_eq_none (by rw [hdP_len]; omega)]
theorem bdP_succ (T : List Ty) (ps : List Pt) (r : Int) (m : Nat) : bdP T ps r (m + 1) = bdP T ps r m ++ (rdP T 0 (ptA ps m).ty :: if m + 1 < ps.length then [⟨19, 0, r, 0⟩] else []) := by simp [bdP, List.range_succ]
theorem bdP_len (T : List Ty) (ps : List Pt) (r : Int) (m : Nat) (h : m < ps.length) : (bdP T ps r m).length = 2 * m := by
  induction m with
  | zero => rfl
  | succ m ih => rw [bdP_succ, List.length_append, ih (by omega), if_pos (by omega)]; simp; omega
theorem bdP_all (T : List Ty) (ps : List Pt) (r : Int) (h : 0 < ps.length) : (bdP T ps r ps.length).length = 2 * ps.length - 1 := by
  obtain ⟨m, hm⟩ : ∃ m, ps.length = m + 1 := ⟨ps.length - 1, by omega⟩
  rw [hm, bdP_succ, List.length_append, bdP_len T ps r m (by omega), if_neg (by omega)]
  simp
  omega
theorem fxP_succ (T : List Ty) (X : List Ex) (ps : List Pt) (sz : Int) (m : Nat) : fxP T X ps sz (m + 1) = fxP T X ps sz m ++ [if (exAt X (ptA ps m).ty).f then rdP T (m : Int) (ptA ps m).ty else ⟨10, sz, 0, 0⟩] := by simp [fxP, List.range_succ]
theorem fxP_len (T : List Ty) (X : List Ex) (ps : List Pt) (sz : Int) (m : Nat) : (fxP T X ps sz m).length = m := by simp [fxP]
theorem vrP_succ (X : List Ex) (ps : List Pt) (m : Nat) : vrP X ps (m + 1) = vrP X ps m ++ (if (exAt X (ptA ps m).ty).f then [] else [⟨17, (m : Int), vrN X ps m, (ptA ps m).ty⟩, ⟨18, vrN X ps m, 0, 0⟩]) := by simp [vrP, List.range_succ]
theorem vrN_le (X : List Ex) (ps : List Pt) (m : Nat) : vrN X ps m ≤ m := by
  induction m with
  | zero => exact Nat.le_refl _
  | succ m ih => show vrN X ps m + _ ≤ _; split <;> omega
theorem vrP_len (X : List Ex) (ps : List Pt) (m : Nat) : (vrP X ps m).length = 2 * vrN X ps m := by
  induction m with
  | zero => rfl
  | succ m ih =>
    rw [vrP_succ, List.length_append, ih]
    show _ = 2 * (vrN X ps m + _)
    split <;> simp <;> omega
/-- The jumps of the arms wait for the end. -/
def jmW (b : Int) (ps : List Pt) (m : Nat) : List Int := (List.range (min m (ps.length - 1))).map (fun (j : Nat) => b + 1 + ps.length + 2 * (j : Int) + 1)
theorem jmW_len (b : Int) (ps : List Pt) (m : Nat) : (jmW b ps m).length ≤ m := by simp [jmW]; omega
theorem jmW_succ (b : Int) (ps : List Pt) (m : Nat) (h : m + 1 < ps.length) : jmW b ps (m + 1) = jmW b ps m ++ [b + 1 + ps.length + 2 * (m : Int) + 1] := by
  unfold jmW
  rw [show min (m + 1) (ps.length - 1) = m + 1 by omega, show min m (ps.length - 1) = m by omega]
  simp [List.range_succ]
theorem jmW_last (b : Int) (ps : List Pt) (m : Nat) (h : ¬ m + 1 < ps.length) : jmW b ps (m + 1) = jmW b ps m := by
  unfold jmW
  rw [show min (m + 1) (ps.length - 1) = min m (ps.length - 1) by omega]
theorem patI_app (n : Int) (C D : List In) (k : Int) (h0 : 0 ≤ k) (hk : k < C.length) : patI n (C ++ D) k = patI n C k ++ D := by
  obtain ⟨j, rfl⟩ := Int.eq_ofNat_of_zero_le h0
  have hj : j < C.length := by omega
  unfold patI
  rw [Int.toNat_natCast, List.getElem?_append_left hj, List.getElem?_eq_getElem hj]
  simp only
  rw [List.set_append_left _ _ hj]
theorem patL_app (n : Int) (W : List Int) (C D : List In) (h : ∀ k ∈ W, 0 ≤ k ∧ k < C.length) : patL n W (C ++ D) = patL n W C ++ D := by
  induction W generalizing C with
  | nil => rfl
  | cons k W ih =>
    show patL n W (patI n (C ++ D) k) = patL n W (patI n C k) ++ D
    have hk := h k (List.mem_cons_self ..)
    rw [patI_app n C D k hk.1 hk.2]
    exact ih (patI n C k) (fun j hj => by rw [patI_len]; exact h j (List.mem_cons_of_mem _ hj))
theorem jmW_in (b : Int) (ps : List Pt) (m : Nat) : ∀ k ∈ jmW b ps m, b + 1 + ps.length + 1 ≤ k ∧ k < b + 1 + ps.length + 2 * (m : Int) := fun k hk => by
  unfold jmW at hk
  rw [List.mem_map] at hk
  obtain ⟨j, hj, rfl⟩ := hk
  rw [List.mem_range] at hj
  omega
/-- The arms with their jumps filled in. -/
theorem bdP_pat (T : List Ty) (ps : List Pt) (r b : Int) (H : List In) (hb : 0 ≤ b) (hH : (H.length : Int) = b + 1 + ps.length) : ∀ m, m ≤ ps.length → patL r (jmW b ps m) (H ++ bdP T ps 0 m) = H ++ bdP T ps r m
  | 0, _ => by simp [jmW, patL, bdP]
  | m + 1, hm => by
    have ih := bdP_pat T ps r b H hb hH m (by omega)
    have hl := bdP_len T ps 0 m (by omega)
    have hin : ∀ k ∈ jmW b ps m, 0 ≤ k ∧ k < ((H ++ bdP T ps 0 m).length : Int) := fun k hk => by
      have := jmW_in b ps m k hk
      rw [List.length_append, hl]
      omega
    by_cases h1 : m + 1 < ps.length
    · rw [jmW_succ b ps m h1, patL_snoc, bdP_succ, bdP_succ, if_pos h1, if_pos h1, ← List.append_assoc, ← List.append_assoc, patL_app _ _ _ _ hin, ih]
      have := patI_mid r ((H ++ bdP T ps r m) ++ [rdP T 0 (ptA ps m).ty]) ⟨19, 0, 0, 0⟩ [] (b + 1 + ps.length + 2 * (m : Int) + 1) (by rw [List.length_append, List.length_append, bdP_len T ps r m (by omega)]; simp; omega)
      simpa using this
    · rw [jmW_last b ps m h1, bdP_succ, bdP_succ, if_neg h1, if_neg h1, ← List.append_assoc, ← List.append_assoc, patL_app _ _ _ _ hin, ih]
end Go.Proofs.Ytepmgbfdmbogiaa
