/- How many nodes and definitions a source has. -/
import Derived.Test.YtjeafblkmipdmaaLt
namespace Go.Proofs.Ytjeafblkmipdmaa
set_option linter.unusedVariables false

def sumN : List Df → Nat
  | [] => 0
  | d :: D => d.ty.length + 1 + sumN D
theorem sumN_len : ∀ (D : List Df), D.length ≤ sumN D
  | [] => Nat.le_refl _
  | d :: D => by
    have := sumN_len D
    simp only [sumN, List.length_cons]
    omega
theorem sumN_mem : ∀ {D : List Df} {d : Df}, d ∈ D → d.ty.length ≤ sumN D
  | [], d, h => by cases h
  | e :: D, d, h => by
    simp only [sumN]
    rcases List.mem_cons.1 h with rfl | h
    · omega
    · have := sumN_mem h
      omega
end Go.Proofs.Ytjeafblkmipdmaa
