/-
  No cell of these rows narrows 'for every input' (looked for: loops, veiled, ifaces, maps, wideKeys, modest, calm, conditions, laid).
  DERIVED. THE GIVEN ROWS OF THIS SEAT. 5 by the template 'for every input the law returns true; each argument reads behind the call as it read before'; 0 by the template 'total and deterministic' (their statements: YtnmffeeieclmfaaTotals.lean).
  GIVEN WITH THE SEED: the statements are not yours to turn. If you find one false, say at which input.
  Laid BY PROGRAM, IN A SANDBOX (cutbox-rows.mjs): the forced cells as the released guide's own fill.sh prints them over the translation c63347a524dcebb1… (all of the seat's roots in one cut). By AI agents, Wed Nov 11 2026. No macro, syntax, notation, axiom, sorry.
-/
import Derived.Test.YtnmffeeieclmfaaChecked
import GoSem.Claim
import GoSem.ClaimJoined
import GoSem.ClaimMapViews
import Derived.JoinedTies
import Derived.KernelRfl
namespace Go.Proofs.Ytnmffeeieclmfaa
/- THE CELL 'sum', in the pinned program and in every row, IS THE sha256 OF THE DUMP (.gsa) THAT YtnmffeeieclmfaaProg.lean LOADS. Nothing in Lean hashes anything: it is a label: what it is worth is what the hold of that sum in a sandbox is worth. -/
noncomputable def Try.pinned : Pinned := { name := "ytnmffeeieclmfaa", sum := "c63347a524dcebb1c2a1aeb4ba23b790fc00f7d85a571919f6a8b665247f9441", checked := Try.checked }
namespace Rows
def none {H : Type} : Left H := { results := [], args := [] }

/-- 'mortiselaw15.SoundFewer': WHATEVER THE INPUT: true; the input reads as it did. -/
def soundFewerSpec : ChangeSpec := { name := "soundFewer", fn := fun _ => fun
  | [d1, d2] => { results := [.lit (.bool true)], args := [d1, d2] }
  | _ => none }
def soundFewerRow : OpenClaim := { program := "ytnmffeeieclmfaa", sum := "c63347a524dcebb1c2a1aeb4ba23b790fc00f7d85a571919f6a8b665247f9441", func := "mortise/mortiselaw15.SoundFewer", spec := "soundFewer", unfollowed := true, recurses := true, apart := false }
def SoundFewerSaid : Prop := soundFewerRow.holds Try.pinned (OpenSpec.ofChange soundFewerSpec)

/-- ITS FALSE NEIGHBOUR: 'it returns false'. Refute it at one input. -/
def soundFewerWrong : ChangeSpec := { name := "soundFewer", fn := fun _ => fun
  | [d1, d2] => { results := [.lit (.bool false)], args := [d1, d2] }
  | _ => none }
def SoundFewerWrongFalsely : Prop := soundFewerRow.holds Try.pinned (OpenSpec.ofChange soundFewerWrong)

/-- 'mortiselaw15.SoundOwn': WHATEVER THE INPUT: true; the input reads as it did. -/
def soundOwnSpec : ChangeSpec := { name := "soundOwn", fn := fun _ => fun
  | [d1, d2] => { results := [.lit (.bool true)], args := [d1, d2] }
  | _ => none }
def soundOwnRow : OpenClaim := { program := "ytnmffeeieclmfaa", sum := "c63347a524dcebb1c2a1aeb4ba23b790fc00f7d85a571919f6a8b665247f9441", func := "mortise/mortiselaw15.SoundOwn", spec := "soundOwn", unfollowed := true, recurses := true, apart := false }
def SoundOwnSaid : Prop := soundOwnRow.holds Try.pinned (OpenSpec.ofChange soundOwnSpec)

/-- ITS FALSE NEIGHBOUR: 'it returns false'. Refute it at one input. -/
def soundOwnWrong : ChangeSpec := { name := "soundOwn", fn := fun _ => fun
  | [d1, d2] => { results := [.lit (.bool false)], args := [d1, d2] }
  | _ => none }
def SoundOwnWrongFalsely : Prop := soundOwnRow.holds Try.pinned (OpenSpec.ofChange soundOwnWrong)

/-- 'mortiselaw15.SoundDead': WHATEVER THE INPUT: true; the input reads as it did. -/
def soundDeadSpec : ChangeSpec := { name := "soundDead", fn := fun _ => fun
  | [d1, d2] => { results := [.lit (.bool true)], args := [d1, d2] }
  | _ => none }
def soundDeadRow : OpenClaim := { program := "ytnmffeeieclmfaa", sum := "c63347a524dcebb1c2a1aeb4ba23b790fc00f7d85a571919f6a8b665247f9441", func := "mortise/mortiselaw15.SoundDead", spec := "soundDead", unfollowed := true, recurses := true, apart := false }
def SoundDeadSaid : Prop := soundDeadRow.holds Try.pinned (OpenSpec.ofChange soundDeadSpec)

/-- ITS FALSE NEIGHBOUR: 'it returns false'. Refute it at one input. -/
def soundDeadWrong : ChangeSpec := { name := "soundDead", fn := fun _ => fun
  | [d1, d2] => { results := [.lit (.bool false)], args := [d1, d2] }
  | _ => none }
def SoundDeadWrongFalsely : Prop := soundDeadRow.holds Try.pinned (OpenSpec.ofChange soundDeadWrong)

/-- 'mortiselaw15.SoundEnds': WHATEVER THE INPUT: true; the input reads as it did. -/
def soundEndsSpec : ChangeSpec := { name := "soundEnds", fn := fun _ => fun
  | [d] => { results := [.lit (.bool true)], args := [d] }
  | _ => none }
def soundEndsRow : OpenClaim := { program := "ytnmffeeieclmfaa", sum := "c63347a524dcebb1c2a1aeb4ba23b790fc00f7d85a571919f6a8b665247f9441", func := "mortise/mortiselaw15.SoundEnds", spec := "soundEnds", unfollowed := true, recurses := true, apart := false }
def SoundEndsSaid : Prop := soundEndsRow.holds Try.pinned (OpenSpec.ofChange soundEndsSpec)

/-- ITS FALSE NEIGHBOUR: 'it returns false'. Refute it at one input. -/
def soundEndsWrong : ChangeSpec := { name := "soundEnds", fn := fun _ => fun
  | [d] => { results := [.lit (.bool false)], args := [d] }
  | _ => none }
def SoundEndsWrongFalsely : Prop := soundEndsRow.holds Try.pinned (OpenSpec.ofChange soundEndsWrong)

/-- 'mortiselaw15.SoundJumps': WHATEVER THE INPUT: true; the input reads as it did. -/
def soundJumpsSpec : ChangeSpec := { name := "soundJumps", fn := fun _ => fun
  | [d1, d2] => { results := [.lit (.bool true)], args := [d1, d2] }
  | _ => none }
def soundJumpsRow : OpenClaim := { program := "ytnmffeeieclmfaa", sum := "c63347a524dcebb1c2a1aeb4ba23b790fc00f7d85a571919f6a8b665247f9441", func := "mortise/mortiselaw15.SoundJumps", spec := "soundJumps", unfollowed := true, recurses := true, apart := false }
def SoundJumpsSaid : Prop := soundJumpsRow.holds Try.pinned (OpenSpec.ofChange soundJumpsSpec)

/-- ITS FALSE NEIGHBOUR: 'it returns false'. Refute it at one input. -/
def soundJumpsWrong : ChangeSpec := { name := "soundJumps", fn := fun _ => fun
  | [d1, d2] => { results := [.lit (.bool false)], args := [d1, d2] }
  | _ => none }
def SoundJumpsWrongFalsely : Prop := soundJumpsRow.holds Try.pinned (OpenSpec.ofChange soundJumpsWrong)

/- THE SECOND FORM. 'bulk': how many values and letters a reading holds, each counted each time it is reached (what is shared counts as often as it is met; a slice's spare places count too). A statement '..UptoSaid' is the law's where the arguments, and the package variables that the reading takes, are together of bulk at most 1048576: NARROWER than '..Said'. Prove '..Said' where nothing that the law and all that it calls make is longer than what came in: it says more and counts as full. Else prove '..UptoSaid'. A law counts once. -/
mutual
def uptoBulk {H : Type} : DataW H → Nat
  | .lit (.string bytes) => bytes.length + 1
  | .lit _ => 1
  | .nil => 1
  | .ptr d => uptoBulk d + 1
  | .slice elems spare => uptoBulkAll elems + uptoBulkAll spare + 1
  | .agg parts => uptoBulkAll parts + 1
  | .iface _ d => uptoBulk d + 1
  | .map entries => uptoBulkEntries entries + 1
  | .held _ => 1
def uptoBulkAll {H : Type} : List (DataW H) → Nat
  | [] => 0
  | d :: r => uptoBulk d + uptoBulkAll r
def uptoBulkEntries {H : Type} : List (Lit × DataW H) → Nat
  | [] => 0
  | x :: r => uptoBulkEntry x + uptoBulkEntries r
def uptoBulkEntry {H : Type} : Lit × DataW H → Nat
  | (.string bytes, d) => bytes.length + uptoBulk d + 1
  | (_, d) => uptoBulk d + 1
 end
def uptoSmall : (H : Type) → List (DataW H) → Bool := fun _ ds => decide (uptoBulkAll ds ≤ 1048576)
def OpenSpec.upto (s : _root_.Go.ChangeSpec) : _root_.Go.OpenSpec := { _root_.Go.OpenSpec.ofChange s with cond := some uptoSmall }

/-- 'mortiselaw15.SoundFewer', WHERE WHAT IT READS IS OF BULK AT MOST 1048576: true; the input reads as it did. -/
def soundFewerUptoRow : OpenClaim := { program := "ytnmffeeieclmfaa", sum := "c63347a524dcebb1c2a1aeb4ba23b790fc00f7d85a571919f6a8b665247f9441", func := "mortise/mortiselaw15.SoundFewer", spec := "soundFewer", unfollowed := true, recurses := true, apart := false, narrowed := true }
def SoundFewerUptoSaid : Prop := soundFewerUptoRow.holds Try.pinned (OpenSpec.upto soundFewerSpec)

/-- 'mortiselaw15.SoundOwn', WHERE WHAT IT READS IS OF BULK AT MOST 1048576: true; the input reads as it did. -/
def soundOwnUptoRow : OpenClaim := { program := "ytnmffeeieclmfaa", sum := "c63347a524dcebb1c2a1aeb4ba23b790fc00f7d85a571919f6a8b665247f9441", func := "mortise/mortiselaw15.SoundOwn", spec := "soundOwn", unfollowed := true, recurses := true, apart := false, narrowed := true }
def SoundOwnUptoSaid : Prop := soundOwnUptoRow.holds Try.pinned (OpenSpec.upto soundOwnSpec)

/-- 'mortiselaw15.SoundDead', WHERE WHAT IT READS IS OF BULK AT MOST 1048576: true; the input reads as it did. -/
def soundDeadUptoRow : OpenClaim := { program := "ytnmffeeieclmfaa", sum := "c63347a524dcebb1c2a1aeb4ba23b790fc00f7d85a571919f6a8b665247f9441", func := "mortise/mortiselaw15.SoundDead", spec := "soundDead", unfollowed := true, recurses := true, apart := false, narrowed := true }
def SoundDeadUptoSaid : Prop := soundDeadUptoRow.holds Try.pinned (OpenSpec.upto soundDeadSpec)

/-- 'mortiselaw15.SoundEnds', WHERE WHAT IT READS IS OF BULK AT MOST 1048576: true; the input reads as it did. -/
def soundEndsUptoRow : OpenClaim := { program := "ytnmffeeieclmfaa", sum := "c63347a524dcebb1c2a1aeb4ba23b790fc00f7d85a571919f6a8b665247f9441", func := "mortise/mortiselaw15.SoundEnds", spec := "soundEnds", unfollowed := true, recurses := true, apart := false, narrowed := true }
def SoundEndsUptoSaid : Prop := soundEndsUptoRow.holds Try.pinned (OpenSpec.upto soundEndsSpec)

/-- 'mortiselaw15.SoundJumps', WHERE WHAT IT READS IS OF BULK AT MOST 1048576: true; the input reads as it did. -/
def soundJumpsUptoRow : OpenClaim := { program := "ytnmffeeieclmfaa", sum := "c63347a524dcebb1c2a1aeb4ba23b790fc00f7d85a571919f6a8b665247f9441", func := "mortise/mortiselaw15.SoundJumps", spec := "soundJumps", unfollowed := true, recurses := true, apart := false, narrowed := true }
def SoundJumpsUptoSaid : Prop := soundJumpsUptoRow.holds Try.pinned (OpenSpec.upto soundJumpsSpec)

end Rows
end Go.Proofs.Ytnmffeeieclmfaa
