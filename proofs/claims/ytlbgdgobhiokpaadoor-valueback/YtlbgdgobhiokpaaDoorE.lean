/- Path, plain: the open nodes, the innermost first: which kid the walk is in, how many come behind it. -/
import Derived.Test.YtlbgdgobhiokpaaDoorD
namespace Go.Proofs.YtlbgdgobhiokpaaDoor
open Go.RowKit
set_option linter.unusedVariables false

abbrev Stk := List (Int × Int)
def nextUp : Stk → Stk
  | [] => []
  | (k, f) :: T => if f = 0 then nextUp T else (k + 1, f - 1) :: T
def wstep (S : Stk) (x : Nd) : Stk := if 0 < x.2.2 then (0, x.2.2 - 1) :: S else nextUp S
def way : List Nd → Stk → Stk
  | [], S => S
  | x :: l, S => way l (wstep S x)
def sumL : Stk → Int
  | [] => 0
  | (_, f) :: T => f + sumL T
theorem way_snoc : ∀ (l : List Nd) (x : Nd) (S : Stk), way (l ++ [x]) S = wstep (way l S) x
  | [], x, S => rfl
  | y :: l, x, S => way_snoc l x _
theorem nextUp_spec : ∀ (S : Stk), (∀ e ∈ S, 0 ≤ e.2) → 0 < sumL S → ∃ Z k f T, S = Z ++ (k, f) :: T ∧ (∀ e ∈ Z, e.2 = 0) ∧ 0 < f ∧ nextUp S = (k + 1, f - 1) :: T ∧ sumL (nextUp S) = sumL S - 1
  | [], _, h => by simp [sumL] at h
  | (k, f) :: T, hS, h => by
    have h0 : 0 ≤ f := hS (k, f) (by simp)
    by_cases hf : f = 0
    · subst hf
      obtain ⟨Z, k', f', T', h1, h2, h3, h4, h5⟩ := nextUp_spec T (fun e he => hS e (by simp [he])) (by simpa [sumL] using h)
      refine ⟨(k, 0) :: Z, k', f', T', by simp [h1], by simpa using h2, h3, by simpa [nextUp] using h4, by simpa [nextUp, sumL] using h5⟩
    · refine ⟨[], k, f, T, rfl, by simp, by omega, by simp [nextUp, hf], by simp [nextUp, hf, sumL]; omega⟩
/-- The walk's state at a place of a list that Check takes. -/
structure WOK (l : List Nd) (k : Nat) (S : Stk) : Prop where
  pos : ∀ e ∈ S, 0 ≤ e.2
  ok : (chk (1 + sumL S) k (l.drop k)).1 = 0
  len : S.length ≤ k
  bd : ∀ e ∈ S, 0 ≤ e.1 ∧ e.1 + e.2 < 1048576
theorem WOK.begin {l : List Nd} (h : (chk 1 0 l).1 = 0) : WOK l 0 [] := ⟨by simp, by simpa [sumL] using h, Nat.le_refl _, by simp⟩
theorem sumL_pos : ∀ (S : Stk), (∀ e ∈ S, 0 ≤ e.2) → 0 ≤ sumL S
  | [], _ => by simp [sumL]
  | (k, f) :: T, h => by
    have := sumL_pos T (fun e he => h e (by simp [he]))
    have h0 : 0 ≤ f := h (k, f) (by simp)
    simp only [sumL]
    omega
theorem nextUp_len : ∀ (S : Stk), (nextUp S).length ≤ S.length
  | [] => Nat.le_refl _
  | (k, f) :: T => by
    unfold nextUp
    split
    · exact Nat.le_trans (nextUp_len T) (by simp)
    · simp
theorem WOK.step {l : List Nd} {k : Nat} {S : Stk} (h : WOK l k S) (hk : k + 1 < l.length) :
    WOK l (k + 1) (wstep S (l.getD k nil0)) ∧ 0 ≤ (l.getD k nil0).2.2 ∧ (l.getD k nil0).2.2 ≤ 1048576 ∧ ((l.getD k nil0).2.2 = 0 → ∃ Z j f T, S = Z ++ (j, f) :: T ∧ (∀ e ∈ Z, e.2 = 0) ∧ 0 < f ∧ wstep S (l.getD k nil0) = (j + 1, f - 1) :: T) := by
  have h1 := h.ok
  rw [drop_at l k (by omega), chk] at h1
  generalize l.getD k nil0 = x at *
  split at h1
  · simp at h1
  · rename_i hn
    rw [not_or] at hn
    have hx : right x = true := by simpa using hn.2
    have hc := right_kids hx
    refine ⟨?_, hc.1, hc.2, ?_⟩
    · by_cases h0 : 0 < x.2.2
      · refine ⟨?_, ?_, by simp [wstep, h0]; exact h.len, ?_⟩
        · simp only [wstep, if_pos h0, List.mem_cons]
          rintro e (rfl | he)
          · simp; omega
          · exact h.pos e he
        · rw [wstep, if_pos h0, sumL, show (1 : Int) + (x.2.2 - 1 + sumL S) = 1 + sumL S + (x.2.2 - 1) by omega]
          exact_mod_cast h1
        · simp only [wstep, if_pos h0, List.mem_cons]
          rintro e (rfl | he)
          · simp; omega
          · exact h.bd e he
      · have hx0 : x.2.2 = 0 := by omega
        rw [hx0, show (1 : Int) + sumL S + (0 - 1) = sumL S by omega] at h1
        have hpos : 0 < sumL S := by
          have := sumL_pos S h.pos
          rcases Int.lt_or_eq_of_le this with hh | hh
          · exact hh
          · rw [← hh, drop_at l (k + 1) hk, chk, if_pos (.inl rfl)] at h1
            simp at h1
        obtain ⟨Z, j, f, T, e1, e2, e3, e4, e5⟩ := nextUp_spec S h.pos hpos
        refine ⟨?_, ?_, ?_, ?_⟩
        · rw [wstep, if_neg h0, e4]
          intro e he
          rcases List.mem_cons.1 he with rfl | he
          · simp; omega
          · exact h.pos e (by rw [e1]; simp [he])
        · rw [wstep, if_neg h0, e5, show (1 : Int) + (sumL S - 1) = sumL S by omega]
          exact_mod_cast h1
        · rw [wstep, if_neg h0]
          exact Nat.le_trans (nextUp_len S) (Nat.le_trans h.len (by omega))
        · rw [wstep, if_neg h0, e4]
          intro e he
          rcases List.mem_cons.1 he with rfl | he
          · have := h.bd (j, f) (by rw [e1]; simp)
            simp at this ⊢; omega
          · exact h.bd e (by rw [e1]; simp [he])
    · intro hx0
      rw [hx0, show (1 : Int) + sumL S + (0 - 1) = sumL S by omega] at h1
      have hpos : 0 < sumL S := by
        have := sumL_pos S h.pos
        rcases Int.lt_or_eq_of_le this with hh | hh
        · exact hh
        · rw [← hh, drop_at l (k + 1) hk, chk, if_pos (.inl rfl)] at h1
          simp at h1
      obtain ⟨Z, j, f, T, e1, e2, e3, e4, e5⟩ := nextUp_spec S h.pos hpos
      exact ⟨Z, j, f, T, e1, e2, e3, by rw [wstep, if_neg (by omega)]; exact e4⟩
def pathL (S : Stk) : List Int := (S.map Prod.fst).reverse
def leftL (S : Stk) : List Int := (S.map Prod.snd).reverse
def pathR (l : List Nd) (p : Int) : List Int := if place l p = 0 then pathL (way (l.take p.toNat) []) else []
end Go.Proofs.YtlbgdgobhiokpaaDoor
