/- The document's extents: part, leaf; one, by kinds: no parts, a vector, a list, an option. -/
import Derived.Test.YtnpkpmbpapekbaaZrp
import Derived.Test.YtnpkpmbpapekbaaZba
import Derived.Deep.RegionHeldLaw
namespace Go.Proofs.Ytnpkpmbpapekbaa
open Go.RowKit
set_option linter.unusedVariables false

set_option maxRecDepth 100000 in
set_option maxHeartbeats 4000000 in
theorem part_any (x : Ex) (w : World) : Calls Try.prog 65 #[.agg #[.bool x.f, .int .i64 x.l, .int .i64 x.m, .int .i64 x.d]] w fun e w' => e = .returned (.tuple #[.int .i64 (offX x).l, .int .i64 (offX x).m]) ∧ Below w.heap.size w w' := by
  obtain ⟨xf, xl, xm, xd⟩ := x
  obtain ⟨w0, hw0⟩ : ∃ wx, wx = w.alloc (.cells #[.bool xf, .int .i64 xl, .int .i64 xm, .int .i64 xd] 53) := ⟨_, rfl⟩
  have k0 : Blk w0 w.heap.size 53 [.bool xf, .int .i64 xl, .int .i64 xm, .int .i64 xd] := by rw [hw0]; exact Blk.newA w _ _
  have b0 : Below w.heap.size w w0 := by rw [hw0]; exact below1 _ _
  have K0 := hide_ k0
  have HB0 := hide_ b0
  have i0 := k0.cell 0; have i1 := k0.cell 1; have i2 := k0.cell 2
  simp at i0 i1 i2
  clear k0 b0
  cases xf with
  | true =>
    simp only [offX, if_true]
    go_enter Try.func65, Try.ntmps65
    go_upto_region 1 with fail
    rw [← hw0]
    clear hw0
    go_wp2_with fail
    go_region
    all_goals
      have HBd := hide_ (HB0.out.drew)
      go_wp2
      go_ret2
      exact ⟨rfl, HBd.out⟩
  | false =>
    have e1 : offX ⟨false, xl, xm, xd⟩ = ⟨false, plus2 4 xl, plus2 4 xm, xd⟩ := rfl
    rw [e1]
    simp only
    have HC1 : Hid (∀ w', Calls Try.prog 67 #[.int .i64 4, .int .i64 xl] w' fun e w'' => e = .returned (.int .i64 (plus2 4 xl)) ∧ Below w'.heap.size w' w'') := hide_ (fun w' => rplus_any 4 xl w')
    have HC2 : Hid (∀ w', Calls Try.prog 67 #[.int .i64 4, .int .i64 xm] w' fun e w'' => e = .returned (.int .i64 (plus2 4 xm)) ∧ Below w'.heap.size w' w'') := hide_ (fun w' => rplus_any 4 xm w')
    generalize plus2 4 xl = p1 at *
    generalize plus2 4 xm = p2 at *
    have HSS : Hid (∀ w', Below w0.heap.size w0 w' → Below w0.heap.size w0 w' ∧ w'.cell? ⟨w.heap.size, 1, none⟩ = some (.int .i64 xl) ∧ w'.cell? ⟨w.heap.size, 2, none⟩ = some (.int .i64 xm)) := hide_ (fun w' hB => ⟨hB, (K0.out.later hB).cell 1, (K0.out.later hB).cell 2⟩)
    clear e1
    go_enter Try.func65, Try.ntmps65
    go_upto_region 1 with fail
    rw [← hw0]
    clear hw0
    go_wp2_with fail
    go_region_held_law (fun w' => Below w0.heap.size w0 w' ∧ w'.cell? ⟨w.heap.size, 1, none⟩ = some (.int .i64 xl) ∧ w'.cell? ⟨w.heap.size, 2, none⟩ = some (.int .i64 xm)) (first | assumption | exact HSS.out _ ((Below.refl _ _).drew) | exact HSS.out _ (Below.refl _ _))
      (first
        | (go_at_call_of 67 (Value.int .i64 xl); refine (HC1.out _).mono ?_; rintro e w2 ⟨rfl, hB2⟩; (have G2 := HSS.out w2 (below_to (by first | assumption | exact And.left (by assumption)) hB2)); (clear hB2))
        | (go_at_call 67; refine (HC1.out _).mono ?_; rintro e w2 ⟨rfl, hB2⟩; (have G2 := HSS.out w2 (below_to (by first | assumption | exact And.left (by assumption)) hB2)); (clear hB2))
        | (go_at_call 67; refine (HC2.out _).mono ?_; rintro e w3 ⟨rfl, hB3⟩; (have G3 := HSS.out w3 (below_to (by first | assumption | exact And.left (by assumption)) hB3)); (clear hB3)))
    all_goals
      go_wp2
      go_ret2
      exact ⟨rfl, below_to HB0.out (by first | exact G3.1 | exact G2.1)⟩
end Go.Proofs.Ytnpkpmbpapekbaa
