/- The document's Check of a schema: right. -/
import Derived.Test.YtnpkpmbpapekbaaZrb1
import Derived.Test.YtnpkpmbpapekbaaZrb2
import Derived.Test.YtnpkpmbpapekbaaZrb3
import Derived.Test.YtnpkpmbpapekbaaZrb4
namespace Go.Proofs.Ytnpkpmbpapekbaa
open Go.RowKit
set_option linter.unusedVariables false

theorem right_any (t : Ty) (va : Option Addr) (vc : Nat) (i : Nat) (w : World) (hil : i ≤ 9223372036854775806) (hr : Hid (PRow w va t.ps)) :
    Calls Try.prog 47 #[.agg #[.int .i64 t.k, .int .i64 t.n, .int .i64 t.e, .slice va t.ps.length vc], .int .i64 (i : Int)] w fun e w' => e = .returned (.bool (tyOk t i)) ∧ Below w.heap.size w w' := by
  by_cases hk : t.k = 1 ∨ t.k = 2 ∨ t.k = 3 ∨ t.k = 4 ∨ t.k = 5 ∨ t.k = 6 ∨ t.k = 7 ∨ t.k = 8
  · obtain ⟨k, n, el, ps⟩ := t
    simp only at hk hr ⊢
    rcases hk with rfl | rfl | rfl | rfl | rfl | rfl | rfl | rfl
    · exact right1_any n el ps va vc i w hil hr
    · exact right2_any n el ps va vc i w hil hr
    · exact right3_any n el ps va vc i w hil hr
    · exact right4_any n el ps va vc i w hil hr
    · exact right5_any n el ps va vc i w hil hr
    · exact right6_any n el ps va vc i w hil hr
    · exact right7_any n el ps va vc i w hil hr
    · exact right8_any n el ps va vc i w hil hr
  · exact rightO_any t hk va vc i w hil hr
end Go.Proofs.Ytnpkpmbpapekbaa
