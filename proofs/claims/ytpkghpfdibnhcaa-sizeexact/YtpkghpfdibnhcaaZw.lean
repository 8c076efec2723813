/- awake's schema and value, plain. -/
import Derived.Test.YtpkghpfdibnhcaaZv
namespace Go.Proofs.Ytpkghpfdibnhcaa
open Go.RowKit
set_option linter.unusedVariables false

def awP : List Pt := [⟨⟨#[97]⟩, 0, 0⟩, ⟨⟨#[98]⟩, 0, 2⟩, ⟨⟨#[99]⟩, 0, 4⟩]
def awT : List Ty := [⟨1, 1, 0, []⟩, ⟨3, 0, 0, []⟩, ⟨5, 9, 1, []⟩, ⟨1, 2, 0, []⟩, ⟨6, 0, 3, []⟩, ⟨8, 0, 0, awP⟩]
def awV : List Nv := [⟨4, 0, 3⟩, ⟨1, 7, 0⟩, ⟨3, 0, 2⟩, ⟨1, 5, 0⟩, ⟨1, 300, 0⟩, ⟨5, 0, 0⟩]
theorem aw_chk : chk awT [] = (0, 0) := by kernel_rfl
theorem aw_ext : extL awT = [⟨true, 1, 1, 1⟩, ⟨false, 1, 10, 1⟩, ⟨false, 0, 126, 2⟩, ⟨true, 2, 2, 1⟩, ⟨false, 1, 3, 2⟩, ⟨false, 10, 138, 3⟩] := by kernel_rfl
theorem aw_len5 : lenP awT [] 5 awV = (0, [21, 1, 11, 1, 2, 1]) := by kernel_rfl
theorem aw_len4 : lenP awT [] 4 awV = (40, []) := by kernel_rfl
theorem aw_len6 : lenP awT [] 6 awV = (3, []) := by kernel_rfl
end Go.Proofs.Ytpkghpfdibnhcaa
