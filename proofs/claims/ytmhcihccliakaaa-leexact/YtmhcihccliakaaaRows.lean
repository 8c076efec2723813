/-
  No cell of these rows narrows 'for every input' (looked for: loops, veiled, ifaces, maps, wideKeys, modest, calm, conditions, laid).
  DERIVED. THE GIVEN ROWS OF THIS SEAT. 3 by the template 'for every input the law returns true; each argument reads behind the call as it read before'; 0 by the template 'total and deterministic' (their statements: YtmhcihccliakaaaTotals.lean).
  GIVEN WITH THE SEED: the statements are not yours to turn. If you find one false, say at which input.
  Laid BY PROGRAM, IN A SANDBOX (cutbox-rows.mjs): the forced cells as the released guide's own fill.sh prints them over the translation bfc653be6fe29f5f… (all of the seat's roots in one cut). By AI agents, Wed Nov 11 2026. No macro, syntax, notation, axiom, sorry.
-/
import Derived.Test.YtmhcihccliakaaaChecked
import GoSem.Claim
import GoSem.ClaimJoined
import GoSem.ClaimMapViews
import Derived.JoinedTies
import Derived.KernelRfl
namespace Go.Proofs.Ytmhcihccliakaaa
/- THE CELL 'sum', in the pinned program and in every row, IS THE sha256 OF THE DUMP (.gsa) THAT YtmhcihccliakaaaProg.lean LOADS. Nothing in Lean hashes anything: it is a label: what it is worth is what the hold of that sum in a sandbox is worth. -/
noncomputable def Try.pinned : Pinned := { name := "ytmhcihccliakaaa", sum := "bfc653be6fe29f5f71bd111ab54c3ef3fea636c502cd622c19a3b2cf23936b86", checked := Try.checked }
namespace Rows
def none {H : Type} : Left H := { results := [], args := [] }

/-- 'mortiselaw01.LeBack': WHATEVER THE INPUT: true; the input reads as it did. -/
def leBackSpec : ChangeSpec := { name := "leBack", fn := fun _ => fun
  | [d1, d2, d3, d4, d5] => { results := [.lit (.bool true)], args := [d1, d2, d3, d4, d5] }
  | _ => none }
def leBackRow : OpenClaim := { program := "ytmhcihccliakaaa", sum := "bfc653be6fe29f5f71bd111ab54c3ef3fea636c502cd622c19a3b2cf23936b86", func := "mortise/mortiselaw01.LeBack", spec := "leBack", apart := false }
def LeBackSaid : Prop := leBackRow.holds Try.pinned (OpenSpec.ofChange leBackSpec)

/-- ITS FALSE NEIGHBOUR: 'it returns false'. Refute it at one input. -/
def leBackWrong : ChangeSpec := { name := "leBack", fn := fun _ => fun
  | [d1, d2, d3, d4, d5] => { results := [.lit (.bool false)], args := [d1, d2, d3, d4, d5] }
  | _ => none }
def LeBackWrongFalsely : Prop := leBackRow.holds Try.pinned (OpenSpec.ofChange leBackWrong)

/-- 'mortiselaw01.LeSizes': WHATEVER THE INPUT: true; the input reads as it did. -/
def leSizesSpec : ChangeSpec := { name := "leSizes", fn := fun _ => fun
  | [d1, d2, d3, d4, d5] => { results := [.lit (.bool true)], args := [d1, d2, d3, d4, d5] }
  | _ => none }
def leSizesRow : OpenClaim := { program := "ytmhcihccliakaaa", sum := "bfc653be6fe29f5f71bd111ab54c3ef3fea636c502cd622c19a3b2cf23936b86", func := "mortise/mortiselaw01.LeSizes", spec := "leSizes", apart := false }
def LeSizesSaid : Prop := leSizesRow.holds Try.pinned (OpenSpec.ofChange leSizesSpec)

/-- ITS FALSE NEIGHBOUR: 'it returns false'. Refute it at one input. -/
def leSizesWrong : ChangeSpec := { name := "leSizes", fn := fun _ => fun
  | [d1, d2, d3, d4, d5] => { results := [.lit (.bool false)], args := [d1, d2, d3, d4, d5] }
  | _ => none }
def LeSizesWrongFalsely : Prop := leSizesRow.holds Try.pinned (OpenSpec.ofChange leSizesWrong)

/-- 'mortiselaw01.LeExact': WHATEVER THE INPUT: true; the input reads as it did. -/
def leExactSpec : ChangeSpec := { name := "leExact", fn := fun _ => fun
  | [d] => { results := [.lit (.bool true)], args := [d] }
  | _ => none }
def leExactRow : OpenClaim := { program := "ytmhcihccliakaaa", sum := "bfc653be6fe29f5f71bd111ab54c3ef3fea636c502cd622c19a3b2cf23936b86", func := "mortise/mortiselaw01.LeExact", spec := "leExact", apart := false }
def LeExactSaid : Prop := leExactRow.holds Try.pinned (OpenSpec.ofChange leExactSpec)

/-- ITS FALSE NEIGHBOUR: 'it returns false'. Refute it at one input. -/
def leExactWrong : ChangeSpec := { name := "leExact", fn := fun _ => fun
  | [d] => { results := [.lit (.bool false)], args := [d] }
  | _ => none }
def LeExactWrongFalsely : Prop := leExactRow.holds Try.pinned (OpenSpec.ofChange leExactWrong)

/- THE SECOND FORM. 'bulk': how many values and letters a reading holds, each counted each time it is reached (what is shared counts as often as it is met; a slice's spare places count too). A statement '..UptoSaid' is the law's where the arguments, and the package variables that the reading takes, are together of bulk at most 1048576: NARROWER than '..Said'. Prove '..Said' where nothing that the law and all that it calls make is longer than what came in: it says more and counts as full. Else prove '..UptoSaid'. A law counts once. -/
mutual
def uptoBulk {H : Type} : DataW H → Nat
  | .lit (.string bytes) => bytes.length + 1
  | .lit _ => 1
  | .nil => 1
  | .ptr d => uptoBulk d + 1
  | .slice elems spare => uptoBulkAll elems + uptoBulkAll spare + 1
  | .agg parts => uptoBulkAll parts + 1
  | .iface _ d => uptoBulk d + 1
  | .map entries => uptoBulkEntries entries + 1
  | .held _ => 1
def uptoBulkAll {H : Type} : List (DataW H) → Nat
  | [] => 0
  | d :: r => uptoBulk d + uptoBulkAll r
def uptoBulkEntries {H : Type} : List (Lit × DataW H) → Nat
  | [] => 0
  | x :: r => uptoBulkEntry x + uptoBulkEntries r
def uptoBulkEntry {H : Type} : Lit × DataW H → Nat
  | (.string bytes, d) => bytes.length + uptoBulk d + 1
  | (_, d) => uptoBulk d + 1
 end
def uptoSmall : (H : Type) → List (DataW H) → Bool := fun _ ds => decide (uptoBulkAll ds ≤ 1048576)
def OpenSpec.upto (s : _root_.Go.ChangeSpec) : _root_.Go.OpenSpec := { _root_.Go.OpenSpec.ofChange s with cond := some uptoSmall }

/-- 'mortiselaw01.LeBack', WHERE WHAT IT READS IS OF BULK AT MOST 1048576: true; the input reads as it did. -/
def leBackUptoRow : OpenClaim := { program := "ytmhcihccliakaaa", sum := "bfc653be6fe29f5f71bd111ab54c3ef3fea636c502cd622c19a3b2cf23936b86", func := "mortise/mortiselaw01.LeBack", spec := "leBack", apart := false, narrowed := true }
def LeBackUptoSaid : Prop := leBackUptoRow.holds Try.pinned (OpenSpec.upto leBackSpec)

/-- 'mortiselaw01.LeSizes', WHERE WHAT IT READS IS OF BULK AT MOST 1048576: true; the input reads as it did. -/
def leSizesUptoRow : OpenClaim := { program := "ytmhcihccliakaaa", sum := "bfc653be6fe29f5f71bd111ab54c3ef3fea636c502cd622c19a3b2cf23936b86", func := "mortise/mortiselaw01.LeSizes", spec := "leSizes", apart := false, narrowed := true }
def LeSizesUptoSaid : Prop := leSizesUptoRow.holds Try.pinned (OpenSpec.upto leSizesSpec)

/-- 'mortiselaw01.LeExact', WHERE WHAT IT READS IS OF BULK AT MOST 1048576: true; the input reads as it did. -/
def leExactUptoRow : OpenClaim := { program := "ytmhcihccliakaaa", sum := "bfc653be6fe29f5f71bd111ab54c3ef3fea636c502cd622c19a3b2cf23936b86", func := "mortise/mortiselaw01.LeExact", spec := "leExact", apart := false, narrowed := true }
def LeExactUptoSaid : Prop := leExactUptoRow.holds Try.pinned (OpenSpec.upto leExactSpec)

end Rows
end Go.Proofs.Ytmhcihccliakaaa
