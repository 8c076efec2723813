/- size.Of. -/
import Derived.Test.YtncndgfaalojpaaZn4
import Derived.Test.YtncndgfaalojpaaZn5
import Derived.Test.YtncndgfaalojpaaZn6
import Derived.Test.YtncndgfaalojpaaZn8
import Derived.Test.YtncndgfaalojpaaZi
namespace Go.Proofs.Ytncndgfaalojpaa
open Go.RowKit
set_option linter.unusedVariables false

theorem extentOf_any (k n el : Int) (ps : List Pt) (va : Option Addr) (vc : Nat) (X : List Ex) (ax : Option Addr) (cx : Nat) (w : World) (hXl : X.length ≤ 10000000000000) (hbd : Hid (∀ x ∈ X, 0 ≤ x.d ∧ x.d ≤ 1000000)) (hok : Hid (tyOk ⟨k, n, el, ps⟩ X.length = true)) (hP : Hid (PRow w va ps)) (hX : Hid (XRow w ax X)) :
    Calls Try.prog 21 #[.agg #[.int .i64 k, .int .i64 n, .int .i64 el, .slice va ps.length vc], .slice ax X.length cx] w fun e w' => e = .returned (exv (ext1 X ⟨k, n, el, ps⟩)) ∧ Below w.heap.size w w' := by
  have h := (tyOk_parts hok.out).1
  simp only [nOk] at h
  have h2 := of_decide_eq_true h
  have hk : k = 1 ∨ k = 2 ∨ k = 3 ∨ k = 4 ∨ k = 5 ∨ k = 6 ∨ k = 7 ∨ k = 8 := by omega
  clear h h2
  rcases hk with rfl | rfl | rfl | rfl | rfl | rfl | rfl | rfl
  · exact ext1_any n el ps va vc X ax cx w hXl hbd hok hP hX
  · exact ext2_any n el ps va vc X ax cx w hXl hbd hok hP hX
  · exact ext3_any n el ps va vc X ax cx w hXl hbd hok hP hX
  · exact ext4_any n el ps va vc X ax cx w hXl hbd hok hP hX
  · exact ext5_any n el ps va vc X ax cx w hXl hbd hok hP hX
  · exact ext6_any n el ps va vc X ax cx w hXl hbd hok hP hX
  · exact ext7_any n el ps va vc X ax cx w hXl hbd hok hP hX
  · exact ext8_any n el ps va vc X ax cx w hXl hbd hok hP hX
/-! ### The extents of a schema's types -/
def extL (T : List Ty) : List Ex := T.foldl (fun l t => l ++ [ext1 l t]) []
theorem extL_snoc (T : List Ty) (t : Ty) : extL (T ++ [t]) = extL T ++ [ext1 (extL T) t] := by simp [extL]
theorem extL_len (T : List Ty) : (extL T).length = T.length := by
  refine snoc_ind (P := fun T => (extL T).length = T.length) rfl (fun T t ih => ?_) T
  rw [extL_snoc]
  simp [ih]
theorem extL_app (A B : List Ty) : ∃ Z, extL (A ++ B) = extL A ++ Z := by
  refine snoc_ind (P := fun B => ∃ Z, extL (A ++ B) = extL A ++ Z) ⟨[], by simp⟩ (fun B t ih => ?_) B
  obtain ⟨Z, hZ⟩ := ih
  exact ⟨Z ++ [ext1 (extL (A ++ B)) t], by rw [← List.append_assoc, extL_snoc, ← List.append_assoc, ← hZ]⟩
theorem extL_take (T : List Ty) (m : Nat) (hm : m ≤ T.length) : extL (T.take m) = (extL T).take m := by
  obtain ⟨Z, hZ⟩ := extL_app (T.take m) (T.drop m)
  rw [List.take_append_drop] at hZ
  have hl : (extL (T.take m)).length = m := by rw [extL_len]; simp; omega
  rw [hZ]
  generalize extL (T.take m) = Y at *
  subst hl
  simp
theorem ext1_d (X : List Ex) (t : Ty) : (ext1 X t).d = 1 + deepX (kidL X t.k t.e t.ps) := by
  unfold ext1
  repeat' split
  all_goals rfl
theorem map_getD (X : List Ex) (i : Nat) : (X.map (·.d)).getD i 0 = (X.getD i ex0).d := by
  simp only [List.getD, List.getElem?_map]
  cases X[i]? <;> rfl
theorem exAt_nn {X : List Ex} (h : ∀ x ∈ X, 0 ≤ x.d) (i : Int) : 0 ≤ (exAt X i).d := by
  unfold exAt
  rcases Nat.lt_or_ge i.toNat X.length with hi | hi
  · rw [show X.getD i.toNat ex0 = X[i.toNat]'hi by simp [List.getD, hi]]
    exact h _ (List.getElem_mem hi)
  · rw [show X.getD i.toNat ex0 = ex0 by simp [List.getD, List.getElem?_eq_none hi]]
    simp [ex0]
theorem foldl_kid (X : List Ex) : ∀ (ps : List Pt) (d : Int), (ps.map (fun p => exAt X p.ty)).foldl (fun d x => max d x.d) d = kidD (X.map (·.d)) ps d
  | [], d => rfl
  | p :: ps, d => by
    have := foldl_kid X ps (max d (exAt X p.ty).d)
    simp only [List.map_cons, List.foldl_cons, kidD] at this ⊢
    rw [this, map_getD]
    rfl
theorem deepX_kid {X : List Ex} (h : ∀ x ∈ X, 0 ≤ x.d) (k el : Int) (ps : List Pt) : deepX (kidL X k el ps) + 1 = dep1 (X.map (·.d)) ⟨k, 0, el, ps⟩ := by
  unfold deepX kidL dep1
  simp only
  rw [List.foldl_append]
  split
  · have h0 : 0 ≤ (exAt X el).d := exAt_nn h el
    rw [foldl_kid, map_getD]
    simp only [List.foldl_cons, List.foldl_nil]
    rw [Int.max_eq_right h0]
    rfl
  · rw [foldl_kid]
    rfl
theorem kidD_ge (l : List Int) : ∀ (ps : List Pt) (d : Int), d ≤ kidD l ps d
  | [], d => Int.le_refl d
  | p :: ps, d => by
    have := kidD_ge l ps (max d (l.getD p.ty.toNat 0))
    simp only [kidD, List.foldl_cons] at this ⊢
    omega
theorem extL_dep (T : List Ty) : (extL T).map (·.d) = depL T ∧ ∀ x ∈ extL T, 0 ≤ x.d := by
  refine snoc_ind (P := fun T => (extL T).map (·.d) = depL T ∧ ∀ x ∈ extL T, 0 ≤ x.d) ⟨rfl, fun x hx => by simp [extL] at hx⟩ (fun T t ih => ?_) T
  have hd : (ext1 (extL T) t).d = dep1 (depL T) t := by
    rw [ext1_d, ← ih.1]
    have := deepX_kid ih.2 t.k t.e t.ps
    rw [show dep1 ((extL T).map (·.d)) t = dep1 ((extL T).map (·.d)) ⟨t.k, 0, t.e, t.ps⟩ from rfl, ← this]
    omega
  rw [extL_snoc, depL_snoc]
  refine ⟨by rw [List.map_append, ih.1]; simp [hd], fun x hx => ?_⟩
  rcases List.mem_append.1 hx with hx | hx
  · exact ih.2 x hx
  · simp at hx
    subst hx
    rw [ext1_d]
    have : 0 ≤ deepX (kidL (extL T) t.k t.e t.ps) := by
      have h1 := deepX_kid ih.2 t.k t.e t.ps
      have h2 := kidD_ge ((extL T).map (·.d)) t.ps (if hasE t.k then ((extL T).map (·.d)).getD t.e.toNat 0 else 0)
      have h3 : 0 ≤ (if hasE t.k then ((extL T).map (·.d)).getD t.e.toNat 0 else 0) := by
        split
        · rw [map_getD]
          have := (exAt_nn ih.2 t.e)
          exact this
        · omega
      unfold dep1 at h1
      simp only at h1
      omega
    omega
theorem extL_bd {T : List Ty} {R : List Rt} (h : OkS T R) (i : Nat) (hi : i ≤ T.length) : ∀ x ∈ extL (T.take i), 0 ≤ x.d ∧ x.d ≤ 1000000 := by
  obtain ⟨e, nn⟩ := extL_dep (T.take i)
  intro x hx
  refine ⟨nn x hx, ?_⟩
  obtain ⟨j, hj, rfl⟩ := List.getElem_of_mem hx
  have hj' : j < i := by rw [extL_len] at hj; simp at hj; omega
  have h1 := h.dep j (by omega)
  rw [← depL_take T (m := i) hj' hi, ← e, map_getD] at h1
  rw [show (extL (T.take i)).getD j ex0 = (extL (T.take i))[j] by simp [List.getD, hj]] at h1
  omega
/-- What Of answers. -/
def OfTo (T : List Ty) (R : List Rt) (w : World) (e : Ending) (w' : World) : Prop :=
  ((chk T R).1 ≠ 0 ∧ e = .returned (.tuple #[.slice none 0 0, .int .i64 (chk T R).1]) ∧ Below w.heap.size w w') ∨
  (OkS T R ∧ ∃ v, e = .returned (.tuple #[v, .int .i64 0]) ∧ XOwn w' w.heap.size v (extL T) ∧ Below w.heap.size w w')
end Go.Proofs.Ytncndgfaalojpaa
