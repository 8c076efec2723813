/- A loop, round by round. -/
import Derived.Test.YtlbgdgobhiokpaaDoorZc
namespace Go.Proofs.YtlbgdgobhiokpaaDoor
open Go.RowKit
set_option linter.unusedVariables false

def unr (P : Program) (c : Code) (Q : Exit → Act → World → Prop) : Nat → Act → World → Prop
  | 0 => fun _ _ => False
  | n + 1 => fun a w => c.wp P (Exit.then (unr P c Q n) Q) a w
theorem wp_unroll {P : Program} {c : Code} {Q : Exit → Act → World → Prop} {a : Act} {w : World} (n : Nat) (h : unr P c Q n a w) : (Code.loop c).wp P Q a w := by
  classical
  have least : ∀ (a : Act) (w : World), (∃ n, unr P c Q n a w) → ∃ n, unr P c Q n a w ∧ ∀ m, unr P c Q m a w → n ≤ m := by
    intro a w hn
    obtain ⟨n, hn⟩ := hn
    induction n using Nat.strongRecOn with
    | ind n ih =>
      by_cases h1 : ∃ m, m < n ∧ unr P c Q m a w
      · obtain ⟨m, hm, hu⟩ := h1
        exact ih m hm hu
      · exact ⟨n, hn, fun m hm => by
          rcases Nat.lt_or_ge m n with h2 | h2
          · exact absurd ⟨m, h2, hm⟩ h1
          · exact h2⟩
  let ms : Act → World → Nat := fun a w => if h : ∃ n, unr P c Q n a w then Classical.choose (least a w h) else 0
  refine wp_loop (fun a w => ∃ n, unr P c Q n a w) ms ⟨n, h⟩ fun a' w' ha => ?_
  have hms : ms a' w' = Classical.choose (least a' w' ha) := dif_pos ha
  obtain ⟨hu, hl⟩ := Classical.choose_spec (least a' w' ha)
  rw [hms]
  generalize Classical.choose (least a' w' ha) = k at *
  cases k with
  | zero => exact hu.elim
  | succ k =>
    refine Code.wp_mono (fun e a2 w2 q => ?_) hu
    cases e <;> first | exact q | skip
    all_goals
      have hx : ∃ n, unr P c Q n a2 w2 := ⟨k, q⟩
      refine ⟨hx, ?_⟩
      show ms a2 w2 < k + 1
      have hm2 : ms a2 w2 = Classical.choose (least a2 w2 hx) := dif_pos hx
      rw [hm2]
      exact Nat.lt_succ_of_le ((Classical.choose_spec (least a2 w2 hx)).2 k q)
end Go.Proofs.YtlbgdgobhiokpaaDoor
