/-
  No cell of these rows narrows 'for every input' (looked for: loops, veiled, ifaces, maps, wideKeys, modest, calm, conditions, laid).
  DERIVED. THE GIVEN ROWS OF THIS SEAT. 4 by the template 'for every input the law returns true; each argument reads behind the call as it read before'; 0 by the template 'total and deterministic' (their statements: YtiojpohmgjdgfaaGreatTotals.lean).
  GIVEN WITH THE SEED: the statements are not yours to turn. If you find one false, say at which input.
  Laid BY PROGRAM, IN A SANDBOX (cutbox-rows.mjs): the forced cells as the released guide's own fill.sh prints them over the translation 419c9359545a6f7f… (all of the seat's roots in one cut). By AI agents, Wed Nov 11 2026. No macro, syntax, notation, axiom, sorry.
-/
import Derived.Test.YtiojpohmgjdgfaaGreatChecked
import GoSem.Claim
import GoSem.ClaimJoined
import GoSem.ClaimMapViews
import Derived.JoinedTies
import Derived.KernelRfl
namespace Go.Proofs.YtiojpohmgjdgfaaGreat
/- THE CELL 'sum', in the pinned program and in every row, IS THE sha256 OF THE DUMP (.gsa) THAT YtiojpohmgjdgfaaGreatProg.lean LOADS. Nothing in Lean hashes anything: it is a label: what it is worth is what the hold of that sum in a sandbox is worth. -/
noncomputable def Tryz.pinned : Pinned := { name := "ytiojpohmgjdgfaagreat", sum := "419c9359545a6f7f5045a443cd6cd5e1d5f6bcbd33f1790367a2732f5c769238", checked := Tryz.checked }
namespace Rows
def none {H : Type} : Left H := { results := [], args := [] }

/-- 'mortiselaw18.FlowClosed': WHATEVER THE INPUT: true; the input reads as it did. -/
def flowClosedSpec : ChangeSpec := { name := "flowClosed", fn := fun _ => fun
  | [d] => { results := [.lit (.bool true)], args := [d] }
  | _ => none }
def flowClosedRow : OpenClaim := { program := "ytiojpohmgjdgfaagreat", sum := "419c9359545a6f7f5045a443cd6cd5e1d5f6bcbd33f1790367a2732f5c769238", func := "mortise/mortiselaw18.FlowClosed", spec := "flowClosed", unfollowed := true, recurses := true, apart := false }
def FlowClosedSaid : Prop := flowClosedRow.holds Tryz.pinned (OpenSpec.ofChange flowClosedSpec)

/-- ITS FALSE NEIGHBOUR: 'it returns false'. Refute it at one input. -/
def flowClosedWrong : ChangeSpec := { name := "flowClosed", fn := fun _ => fun
  | [d] => { results := [.lit (.bool false)], args := [d] }
  | _ => none }
def FlowClosedWrongFalsely : Prop := flowClosedRow.holds Tryz.pinned (OpenSpec.ofChange flowClosedWrong)

/-- 'mortiselaw19.FuseOwn': WHATEVER THE INPUT: true; the input reads as it did. -/
def fuseOwnSpec : ChangeSpec := { name := "fuseOwn", fn := fun _ => fun
  | [d1, d2] => { results := [.lit (.bool true)], args := [d1, d2] }
  | _ => none }
def fuseOwnRow : OpenClaim := { program := "ytiojpohmgjdgfaagreat", sum := "419c9359545a6f7f5045a443cd6cd5e1d5f6bcbd33f1790367a2732f5c769238", func := "mortise/mortiselaw19.FuseOwn", spec := "fuseOwn", unfollowed := true, recurses := true, apart := false }
def FuseOwnSaid : Prop := fuseOwnRow.holds Tryz.pinned (OpenSpec.ofChange fuseOwnSpec)

/-- ITS FALSE NEIGHBOUR: 'it returns false'. Refute it at one input. -/
def fuseOwnWrong : ChangeSpec := { name := "fuseOwn", fn := fun _ => fun
  | [d1, d2] => { results := [.lit (.bool false)], args := [d1, d2] }
  | _ => none }
def FuseOwnWrongFalsely : Prop := fuseOwnRow.holds Tryz.pinned (OpenSpec.ofChange fuseOwnWrong)

/-- 'mortiselaw21.CostMonotone': WHATEVER THE INPUT: true; the input reads as it did. -/
def costMonotoneSpec : ChangeSpec := { name := "costMonotone", fn := fun _ => fun
  | [d] => { results := [.lit (.bool true)], args := [d] }
  | _ => none }
def costMonotoneRow : OpenClaim := { program := "ytiojpohmgjdgfaagreat", sum := "419c9359545a6f7f5045a443cd6cd5e1d5f6bcbd33f1790367a2732f5c769238", func := "mortise/mortiselaw21.CostMonotone", spec := "costMonotone", unfollowed := true, recurses := true, apart := false }
def CostMonotoneSaid : Prop := costMonotoneRow.holds Tryz.pinned (OpenSpec.ofChange costMonotoneSpec)

/-- ITS FALSE NEIGHBOUR: 'it returns false'. Refute it at one input. -/
def costMonotoneWrong : ChangeSpec := { name := "costMonotone", fn := fun _ => fun
  | [d] => { results := [.lit (.bool false)], args := [d] }
  | _ => none }
def CostMonotoneWrongFalsely : Prop := costMonotoneRow.holds Tryz.pinned (OpenSpec.ofChange costMonotoneWrong)

/-- 'mortiselaw21.CostApart': WHATEVER THE INPUT: true; the input reads as it did. -/
def costApartSpec : ChangeSpec := { name := "costApart", fn := fun _ => fun
  | [d] => { results := [.lit (.bool true)], args := [d] }
  | _ => none }
def costApartRow : OpenClaim := { program := "ytiojpohmgjdgfaagreat", sum := "419c9359545a6f7f5045a443cd6cd5e1d5f6bcbd33f1790367a2732f5c769238", func := "mortise/mortiselaw21.CostApart", spec := "costApart", unfollowed := true, recurses := true, apart := false }
def CostApartSaid : Prop := costApartRow.holds Tryz.pinned (OpenSpec.ofChange costApartSpec)

/-- ITS FALSE NEIGHBOUR: 'it returns false'. Refute it at one input. -/
def costApartWrong : ChangeSpec := { name := "costApart", fn := fun _ => fun
  | [d] => { results := [.lit (.bool false)], args := [d] }
  | _ => none }
def CostApartWrongFalsely : Prop := costApartRow.holds Tryz.pinned (OpenSpec.ofChange costApartWrong)

/- THE SECOND FORM. 'bulk': how many values and letters a reading holds, each counted each time it is reached (what is shared counts as often as it is met; a slice's spare places count too). A statement '..UptoSaid' is the law's where the arguments, and the package variables that the reading takes, are together of bulk at most 1048576: NARROWER than '..Said'. Prove '..Said' where nothing that the law and all that it calls make is longer than what came in: it says more and counts as full. Else prove '..UptoSaid'. A law counts once. -/
mutual
def uptoBulk {H : Type} : DataW H → Nat
  | .lit (.string bytes) => bytes.length + 1
  | .lit _ => 1
  | .nil => 1
  | .ptr d => uptoBulk d + 1
  | .slice elems spare => uptoBulkAll elems + uptoBulkAll spare + 1
  | .agg parts => uptoBulkAll parts + 1
  | .iface _ d => uptoBulk d + 1
  | .map entries => uptoBulkEntries entries + 1
  | .held _ => 1
def uptoBulkAll {H : Type} : List (DataW H) → Nat
  | [] => 0
  | d :: r => uptoBulk d + uptoBulkAll r
def uptoBulkEntries {H : Type} : List (Lit × DataW H) → Nat
  | [] => 0
  | x :: r => uptoBulkEntry x + uptoBulkEntries r
def uptoBulkEntry {H : Type} : Lit × DataW H → Nat
  | (.string bytes, d) => bytes.length + uptoBulk d + 1
  | (_, d) => uptoBulk d + 1
 end
def uptoSmall : (H : Type) → List (DataW H) → Bool := fun _ ds => decide (uptoBulkAll ds ≤ 1048576)
def OpenSpec.upto (s : _root_.Go.ChangeSpec) : _root_.Go.OpenSpec := { _root_.Go.OpenSpec.ofChange s with cond := some uptoSmall }

/-- 'mortiselaw18.FlowClosed', WHERE WHAT IT READS IS OF BULK AT MOST 1048576: true; the input reads as it did. -/
def flowClosedUptoRow : OpenClaim := { program := "ytiojpohmgjdgfaagreat", sum := "419c9359545a6f7f5045a443cd6cd5e1d5f6bcbd33f1790367a2732f5c769238", func := "mortise/mortiselaw18.FlowClosed", spec := "flowClosed", unfollowed := true, recurses := true, apart := false, narrowed := true }
def FlowClosedUptoSaid : Prop := flowClosedUptoRow.holds Tryz.pinned (OpenSpec.upto flowClosedSpec)

/-- 'mortiselaw19.FuseOwn', WHERE WHAT IT READS IS OF BULK AT MOST 1048576: true; the input reads as it did. -/
def fuseOwnUptoRow : OpenClaim := { program := "ytiojpohmgjdgfaagreat", sum := "419c9359545a6f7f5045a443cd6cd5e1d5f6bcbd33f1790367a2732f5c769238", func := "mortise/mortiselaw19.FuseOwn", spec := "fuseOwn", unfollowed := true, recurses := true, apart := false, narrowed := true }
def FuseOwnUptoSaid : Prop := fuseOwnUptoRow.holds Tryz.pinned (OpenSpec.upto fuseOwnSpec)

/-- 'mortiselaw21.CostMonotone', WHERE WHAT IT READS IS OF BULK AT MOST 1048576: true; the input reads as it did. -/
def costMonotoneUptoRow : OpenClaim := { program := "ytiojpohmgjdgfaagreat", sum := "419c9359545a6f7f5045a443cd6cd5e1d5f6bcbd33f1790367a2732f5c769238", func := "mortise/mortiselaw21.CostMonotone", spec := "costMonotone", unfollowed := true, recurses := true, apart := false, narrowed := true }
def CostMonotoneUptoSaid : Prop := costMonotoneUptoRow.holds Tryz.pinned (OpenSpec.upto costMonotoneSpec)

/-- 'mortiselaw21.CostApart', WHERE WHAT IT READS IS OF BULK AT MOST 1048576: true; the input reads as it did. -/
def costApartUptoRow : OpenClaim := { program := "ytiojpohmgjdgfaagreat", sum := "419c9359545a6f7f5045a443cd6cd5e1d5f6bcbd33f1790367a2732f5c769238", func := "mortise/mortiselaw21.CostApart", spec := "costApart", unfollowed := true, recurses := true, apart := false, narrowed := true }
def CostApartUptoSaid : Prop := costApartUptoRow.holds Tryz.pinned (OpenSpec.upto costApartSpec)

end Rows
end Go.Proofs.YtiojpohmgjdgfaaGreat
