/- Check: a type expression. -/
import Derived.Test.YtjeafblkmipdmaaWb
import Derived.Test.YtjeafblkmipdmaaWc
namespace Go.Proofs.Ytjeafblkmipdmaa
open Go.RowKit
set_option linter.unusedVariables false

def ndE (x : Nd) (of : Int) (dp : Nat) : Int := nodeE x.k x.n x.name x.label x.tag x.kids of dp
/-- The first node at fault: node and error; the stack's innermost last. -/
def ctS (L : List (Int × Int)) (x : Nd) : List (Int × Int) :=
  match L.getLast? with
  | none => []
  | some p => wo (L.dropLast ++ [(p.1, p.2 - 1), (x.k, x.kids)])
def ctE (L : List (Int × Int)) (x : Nd) : Int :=
  match L.getLast? with
  | none => 62
  | some p => ndE x p.1 (L.length - 1)
def ct : List Nd → Nat → List (Int × Int) → Int × Int
  | [], i, L => if L = [] then (0, 0) else ((i : Int), 62)
  | x :: xs, i, L => if ctE L x = 0 then ct xs (i + 1) (ctS L x) else ((i : Int), ctE L x)
theorem ndE_kids {x : Nd} {of : Int} {dp : Nat} (h : ndE x of dp = 0) : dp ≤ 16 ∧ 0 ≤ x.kids ∧ x.kids ≤ 64 := by
  unfold ndE nodeE at h
  by_cases h1 : 16 < dp
  · rw [if_pos h1] at h; omega
  rw [if_neg h1] at h
  by_cases h2 : (x.k = 8 ∨ x.k = 7) ∧ 64 < x.kids
  · rw [if_pos h2] at h; omega
  rw [if_neg h2] at h
  cases h3 : kindOk x.k x.n x.kids with
  | false => rw [if_pos (.inl h3)] at h; omega
  | true =>
    refine ⟨by omega, ?_⟩
    unfold kindOk at h3
    by_cases e1 : x.k = 1
    · rw [if_pos e1] at h3; have := of_decide_eq_true h3; omega
    rw [if_neg e1] at h3
    by_cases e2 : x.k = 2 ∨ x.k = 3 ∨ x.k = 9
    · rw [if_pos e2] at h3; have := of_decide_eq_true h3; omega
    rw [if_neg e2] at h3
    by_cases e3 : x.k = 4 ∨ x.k = 5
    · rw [if_pos e3] at h3
      rw [Bool.and_eq_true] at h3
      have := of_decide_eq_true h3.2; omega
    rw [if_neg e3] at h3
    by_cases e4 : x.k = 6
    · rw [if_pos e4] at h3; have := of_decide_eq_true h3; omega
    rw [if_neg e4] at h3
    by_cases e5 : x.k = 7 ∨ x.k = 8
    · rw [if_pos e5] at h3
      have := of_decide_eq_true h3
      omega
    · rw [if_neg e5] at h3; cases h3
/-- Stacks that may be: none to come below 0, none without kids to come at the end. -/
def StOk (L : List (Int × Int)) : Prop := L.length ≤ 18 ∧ (∀ p ∈ L, 0 ≤ p.2 ∧ p.2 ≤ 64) ∧ (∀ M p, L = M ++ [p] → 0 < p.2)
theorem woR_sub : ∀ (L : List (Int × Int)), (∀ p ∈ woR L, p ∈ L) ∧ (woR L).length ≤ L.length ∧ (∀ p M, woR L = p :: M → p.2 ≠ 0)
  | [] => ⟨fun p h => h, Nat.le_refl _, fun p M h => by cases h⟩
  | q :: L => by
    obtain ⟨h1, h2, h3⟩ := woR_sub L
    unfold woR
    by_cases h : q.2 = 0
    · rw [if_pos h]
      exact ⟨fun p hp => .tail _ (h1 p hp), by simp; omega, h3⟩
    · rw [if_neg h]
      refine ⟨fun p hp => hp, Nat.le_refl _, fun p M e => ?_⟩
      injection e with e1 _
      subst e1
      exact h
theorem wo_ok {L : List (Int × Int)} (hl : L.length ≤ 18) (h : ∀ p ∈ L, 0 ≤ p.2 ∧ p.2 ≤ 64) : StOk (wo L) := by
  obtain ⟨h1, h2, h3⟩ := woR_sub L.reverse
  refine ⟨by unfold wo; rw [List.length_reverse]; rw [List.length_reverse] at h2; omega, fun p hp => h p ?_, fun M p e => ?_⟩
  · unfold wo at hp
    rw [List.mem_reverse] at hp
    have := h1 p hp
    rwa [List.mem_reverse] at this
  · have e' : woR L.reverse = p :: M.reverse := by
      have := congrArg List.reverse e
      unfold wo at this
      simpa using this
    have hp : p ∈ L := by
      have := h1 p (by rw [e']; exact .head _)
      rwa [List.mem_reverse] at this
    have := h p hp
    have := h3 p _ e'
    omega
theorem stOk_one : StOk [((0 : Int), (1 : Int))] := by
  refine ⟨by decide, fun p hp => ?_, fun M p e => ?_⟩
  · simp at hp; subst hp; decide
  · have := congrArg List.reverse e
    simp at this
    rw [← this.1]; decide
theorem Stk.dec {w : World} {g cap : Nat} {L : List (Int × Int)} {p : Int × Int} {ys : List Value} (h : Stk w g cap (L ++ [p]) ys) (q : Int) :
    Stk (w.setCell ⟨g, L.length * 2 + 1, none⟩ (.int .i64 q)) g cap (L ++ [(p.1, q)]) (ys.set (L.length * 2 + 1) (.int .i64 q)) := by
  obtain ⟨h1, h2, h3, h4, h5⟩ := h
  refine ⟨h1.set _ _, by simpa using h2, by simpa using h3, h4, ?_⟩
  have e : (L ++ [(p.1, q)]).length = (L ++ [p]).length := by simp
  rw [e, List.take_set, h5, cellsP_app, cellsP_app, List.set_append_right _ _ (by rw [cellsP_len]; omega), cellsP_len]
  have e2 : L.length * 2 + 1 - L.length * 2 = 1 := by omega
  rw [e2]
  rfl
theorem bldP (a b : Int) (w : World) : (Instr.build 76 #[(0, .int .i64 a), (1, .int .i64 b)]).run Try.prog w = .ok (.agg #[.int .i64 a, .int .i64 b]) w := by kernel_rfl
theorem bldP1 (b : Int) (w : World) : (Instr.build 76 #[(1, .int .i64 b)]).run Try.prog w = .ok (.agg #[.int .i64 0, .int .i64 b]) w := by kernel_rfl
end Go.Proofs.Ytjeafblkmipdmaa
