/- What Check takes is a tree; plain. -/
import Derived.Test.YtjeafblkmipdmaaWf
namespace Go.Proofs.Ytjeafblkmipdmaa
open Go.RowKit
set_option linter.unusedVariables false

/-- n trees, one behind the other, kids of a node of kind k, d deep; fu: fuel. -/
def Forest : Nat → Nat → Int → Nat → List Nd → Prop
  | 0, _, _, n, N => n = 0 ∧ N = []
  | _ + 1, _, _, 0, N => N = []
  | fu + 1, d, k, n + 1, N => ∃ x A B, N = x :: (A ++ B) ∧ ndE x k d = 0 ∧ Forest fu (d + 1) x.k x.kids.toNat A ∧ Forest fu d k n B
theorem Forest.none (fu d : Nat) (k : Int) : Forest fu d k 0 [] := by
  cases fu with
  | zero => exact ⟨rfl, rfl⟩
  | succ f => exact rfl
theorem ct_cons {x : Nd} {N : List Nd} {i : Nat} {L : List (Int × Int)} (h : ct (x :: N) i L = (0, 0)) : ctE L x = 0 ∧ ct N (i + 1) (ctS L x) = (0, 0) := by
  unfold ct at h
  by_cases h0 : ctE L x = 0
  · rw [if_pos h0] at h; exact ⟨h0, h⟩
  · rw [if_neg h0] at h
    injection h with _ h
    exact absurd h h0
theorem forest_of : ∀ (m : Nat) (N : List Nd), N.length ≤ m → ∀ (i : Nat) (M : List (Int × Int)) (p : Int × Int), 0 < p.2 → ct N i (M ++ [p]) = (0, 0) →
    ∃ A B, N = A ++ B ∧ Forest m M.length p.1 p.2.toNat A ∧ ct B (i + A.length) (wo M) = (0, 0) := by
  intro m
  induction m with
  | zero =>
    intro N hN i M p hp h
    obtain rfl : N = [] := List.eq_nil_of_length_eq_zero (by omega)
    unfold ct at h
    rw [if_neg (by simp)] at h
    injection h with _ h
    cases h
  | succ m ih =>
    intro N hN i M p hp h
    cases N with
    | nil =>
      unfold ct at h
      rw [if_neg (by simp)] at h
      injection h with _ h
      cases h
    | cons x N =>
      obtain ⟨h0, h1⟩ := ct_cons h
      have hE : ctE (M ++ [p]) x = ndE x p.1 M.length := by unfold ctE; simp
      have hS : ctS (M ++ [p]) x = wo (M ++ [(p.1, p.2 - 1)] ++ [(x.k, x.kids)]) := by unfold ctS; simp
      rw [hE] at h0
      rw [hS] at h1
      have hk := ndE_kids h0
      simp only [List.length_cons] at hN
      have key : ∃ A1 B1, N = A1 ++ B1 ∧ Forest m (M.length + 1) x.k x.kids.toNat A1 ∧ ct B1 (i + 1 + A1.length) (wo (M ++ [(p.1, p.2 - 1)])) = (0, 0) := by
        by_cases hk0 : x.kids = 0
        · rw [wo_zero _ _ hk0] at h1
          exact ⟨[], N, rfl, by rw [hk0]; exact Forest.none _ _ _, h1⟩
        · rw [wo_more _ _ hk0] at h1
          obtain ⟨A, B, e1, e2, e3⟩ := ih N (by omega) (i + 1) (M ++ [(p.1, p.2 - 1)]) (x.k, x.kids) (by show 0 < x.kids; omega) h1
          rw [List.length_append] at e2
          exact ⟨A, B, e1, e2, e3⟩
      obtain ⟨A1, B1, rfl, e2, e3⟩ := key
      have hn : p.2.toNat = (p.2 - 1).toNat + 1 := by omega
      by_cases hp1 : p.2 - 1 = 0
      · rw [wo_zero _ _ hp1] at e3
        refine ⟨x :: A1, B1, rfl, ?_, by rw [List.length_cons]; rw [show i + (A1.length + 1) = i + 1 + A1.length by omega]; exact e3⟩
        rw [hn, hp1]
        exact ⟨x, A1, [], by simp, h0, e2, Forest.none _ _ _⟩
      · rw [wo_more _ _ hp1] at e3
        simp only [List.length_append] at hN
        obtain ⟨A2, B2, rfl, e5, e6⟩ := ih B1 (by omega) (i + 1 + A1.length) M (p.1, p.2 - 1) (by show 0 < p.2 - 1; omega) e3
        refine ⟨x :: (A1 ++ A2), B2, by simp, ?_, ?_⟩
        · rw [hn]
          exact ⟨x, A1, A2, rfl, h0, e2, e5⟩
        · rw [List.length_cons, List.length_append, show i + (A1.length + A2.length + 1) = i + 1 + A1.length + A2.length by omega]
          exact e6
theorem tree_of {N : List Nd} (h : ct N 0 [(0, 1)] = (0, 0)) : Forest N.length 0 0 1 N := by
  obtain ⟨A, B, rfl, h2, h3⟩ := forest_of N.length N (Nat.le_refl _) 0 [] (0, 1) (by decide) h
  cases B with
  | nil => rw [List.append_nil] at h2 ⊢; exact h2
  | cons x B =>
    obtain ⟨h4, _⟩ := ct_cons h3
    have : ctE (wo []) x = 62 := rfl
    rw [this] at h4
    cases h4
/-- A source that Check takes. -/
theorem ck_all : ∀ (D : List Df) (i : Nat), (ckL D i).2.2 = 0 → ∀ d ∈ D, isName d.name = true ∧ ct d.ty 0 [(0, 1)] = (0, 0)
  | [], i, h, d, hd => by cases hd
  | e :: D, i, h, d, hd => by
    unfold ckL at h
    by_cases hn : isName e.name = false
    · rw [if_pos hn] at h; cases h
    rw [if_neg hn] at h
    by_cases ht : (ct e.ty 0 [(0, 1)]).2 = 0
    · rw [if_pos ht] at h
      rcases List.mem_cons.1 hd with rfl | hd
      · refine ⟨by simpa using hn, ?_⟩
        have key : ∀ (N : List Nd) (i : Nat) (L : List (Int × Int)), (ct N i L).2 = 0 → ct N i L = (0, 0) := by
          intro N
          induction N with
          | nil =>
            intro i L h
            unfold ct at h ⊢
            by_cases hL : L = []
            · rw [if_pos hL]
            · rw [if_neg hL] at h; cases h
          | cons x N ih =>
            intro i L h
            unfold ct at h ⊢
            by_cases h0 : ctE L x = 0
            · rw [if_pos h0] at h ⊢; exact ih _ _ h
            · rw [if_neg h0] at h; exact absurd h h0
        exact key _ _ _ ht
      · exact ck_all D (i + 1) h d hd
    · rw [if_neg ht] at h; exact absurd h ht
theorem ckP_all {D : List Df} (h : (ckP D).2.2 = 0) : D.length ≤ 256 ∧ ∀ d ∈ D, isName d.name = true ∧ Forest d.ty.length 0 0 1 d.ty := by
  unfold ckP at h
  by_cases hl : 256 < D.length
  · rw [if_pos hl] at h; cases h
  · rw [if_neg hl] at h
    exact ⟨by omega, fun d hd => ⟨(ck_all D 0 h d hd).1, tree_of (ck_all D 0 h d hd).2⟩⟩
end Go.Proofs.Ytjeafblkmipdmaa
