/- What the reading of a list of lists of bytes says of memory. -/
import Derived.Test.YtmeplmhngmlnaaaG
import Derived.Test.YtmeplmhngmlnaaaRead
namespace Go.Proofs.Ytmeplmhngmlnaaa
open Go.ChangeShapes Go.WideShapes Go.ChangeAt Go.RowKit
set_option linter.unusedVariables false

theorem cells30 : Try.prog.cellsOf 30 = 1 := by kernel_rfl
theorem cells5 : Try.prog.cellsOf 5 = 1 := by kernel_rfl
theorem cells3 : Try.prog.cellsOf 3 = 1 := by kernel_rfl
theorem parts_open {H : Type} {enc : TypeId × Value → H} {w : World} {base : Nat} {held : Bool} {fuel : Nat} {a0 : Option Addr} {len cap : Nat} {y : DataW H × List MemPlace} (h : DataW.trod enc Try.prog w base (fun _ => true) held fuel 22 [.slice a0 len cap] = some y) :
    PartsAt w a0 len ∧ len ≤ maxLen := by
  rcases structs_read Try.underlying22 (by rw [cells30]; omega) h with rfl | ⟨b, off, n, rfl, hb, hlc, hcm, hel⟩
  · exact ⟨fun i hi => by omega, Nat.zero_le _⟩
  · refine ⟨fun i hi => ?_, Nat.le_trans hlc hcm⟩
    obtain ⟨cs, z, hl, hcell, ht⟩ := hel i hi
    rw [cells30] at hl hcell
    obtain ⟨c0, rfl⟩ : ∃ c0, cs = [c0] := List.length_eq_one_iff.1 hl
    obtain ⟨a, m, c, l, rfl, h1, h2, h3, h4, h5, _⟩ := row_read Try.underlying30 Try.underlying5 cells5 ht
    have hc0 := hcell 0 (by omega)
    rw [Nat.mul_one, Nat.add_zero] at hc0
    exact ⟨b, off, a, m, c, l, rfl, hb, hc0, h1, h2, h3, h4, h5⟩
end Go.Proofs.Ytmeplmhngmlnaaa
