import Derived.Test.YtimopjkeclppmaaGreatPart29
import Derived.Test.YtimopjkeclppmaaGreatPart24
import Derived.Test.YtimopjkeclppmaaGreatRows
import Derived.Test.YtimopjkeclppmaaGreatChecked
import Derived.Test.YtimopjkeclppmaaGreatPart09
import Derived.Test.YtimopjkeclppmaaGreatPart11
import Derived.SizedLaws
import Derived.WalkKit
import Derived.ProofKit
import Derived.Below
import Derived.OpenShut
import Derived.ShutString
/- FlowWays, out of its walk. The frame round the walk is that of the tool proof-skeleton. -/
namespace Go.Proofs.YtimopjkeclppmaaGreat.flowWays
open Go.ChangeShapes Go.WideShapes Go.ChangeAt Go.RowKit
open Go.ChangeMaps (open_string shut_string)
set_option linter.unusedVariables false

theorem own : ownKnob Tryz.prog.godebug = none := by kernel_rfl
theorem laidOut : laidOutB Tryz.prog = true := by kernel_rfl
theorem cellsI : Tryz.prog.cellsOf 3 = 1 := by kernel_rfl

set_option maxRecDepth 100000 in
theorem lifted (os : Os) (started : os.Started) (H : Type) (enc : TypeId × Value → H) :
    ReturnsInHanded {} Tryz.checked os 4 .any (Rows.flowWaysSpec.pre6 enc Tryz.prog Tryz.f4 Rows.flowWaysRow.domain false) (Rows.flowWaysSpec.post enc Tryz.prog Tryz.f4 false true false false) := by
  refine returnsInHanded_of_change_sized (C := Tryz.checked) own started (by kernel_rfl) Tryz.func4
    (ChangeSpec.witness6 (enc := enc) (C := Tryz.checked) false ⟨#[], #[.agg #[.bool false, .slice none 0 0, .slice none 0 0], .int .i64 0, .slice none 0 0], []⟩ 8 (by kernel_rfl) (by kernel_rfl) (by kernel_rfl) (by kernel_rfl)) ?_
  intro W base args ds gs before hval0 hW hcnd hsz0 _
  have hval : ∀ (j : Nat) t v, Tryz.f4.params[j]? = some t → args[j]? = some v → Value.okWide Tryz.prog W .any base t v := hval0
  have hsz : (DataW.weightsEach Tryz.prog (Tryz.f4.params.toList ++ Rows.flowWaysSpec.plain.varTypes Tryz.prog) (ds ++ gs)).all (· ≤ reachBytes) = true := hsz0
  have hW' := hW
  obtain ⟨p, q, hA0, hV, rfl, hfz, hnd⟩ := hW
  have hA : DataW.TrodAll enc Tryz.prog W 0 (fun _ => true) true Tryz.f4.params.toList args.toList ds p := hA0
  rw [Tryz.params4] at hA hval hsz
  obtain ⟨v0, vs0, d0, ds0, p0, q0, hargs, rfl, rfl, h0, r0⟩ := trodAll_cons hA
  obtain ⟨v1, vs1, d1, ds1, p1, q1, rfl, rfl, rfl, h1, r1⟩ := trodAll_cons r0
  obtain ⟨v2, vs2, d2, ds2, p2, q2, rfl, rfl, rfl, h2, r2⟩ := trodAll_cons r1
  obtain ⟨rfl, rfl, rfl⟩ := trodAll_nil r2
  obtain rfl : args = #[v0, v1, v2] := by cases args; simp_all
  obtain ⟨rfl, rfl⟩ := trodVars_none hV
  obtain ⟨cs0, rfl, _⟩ := okWide_struct Tryz.underlying25 (hval 0 25 v0 rfl rfl)
  have k0 := h0
  have lt0 : ∀ x ∈ p0, x.block < W.heap.size := by obtain ⟨m, hm⟩ := k0; exact DataW.trod_lt m _ _ _ hm
  obtain ⟨n1, rfl, rfl, rfl, w1⟩ := open_int Tryz.underlying3 (hval 1 3 v1 rfl rfl) h1
  have hN1 := bounds_i64 w1
  obtain ⟨a2, len2, cap2, rfl⟩ := okWide_slice Tryz.underlying23 (hval 2 23 v2 rfl rfl)
  have k2 := h2
  have lt2 : ∀ x ∈ p2, x.block < W.heap.size := by obtain ⟨m, hm⟩ := k2; exact DataW.trod_lt m _ _ _ hm
  have walk : Calls Tryz.prog 4 #[.agg cs0, .int .i64 n1, .slice a2 len2 cap2] W fun e w' => e = .returned (.bool true) ∧ Below W.heap.size W w' := by
    obtain ⟨fuel0, hf0⟩ := h0
    obtain ⟨en0, ac0, cc0, C0, ae0, ce0, E0, hcs0, hcC0, hnC0, hC0, hlC0, hmC0, hcE0, hnE0, hE0, hlE0⟩ := prog_open hf0 (fun n hn => by
      have hm := List.all_eq_true.1 hsz _ (DataW.weights_mem_each (j := 0) rfl rfl _ hn)
      have hm2 : n ≤ reachBytes := of_decide_eq_true hm
      rw [show reachBytes = 140737488351232 from rfl] at hm2
      exact hm2)
    have e0 : cs0 = #[.bool en0, .slice ac0 C0.length cc0, .slice ae0 E0.length ce0] := by
      have : cs0.toList = [.bool en0, .slice ac0 C0.length cc0, .slice ae0 E0.length ce0] := hcs0
      exact Array.toList_inj.1 this
    subst e0
    obtain ⟨fuel2, hf2⟩ := h2
    have hwt2 : ∀ n ∈ d2.weights Tryz.prog 23, n ≤ 140737488351232 := (fun n hn => by
      have hm := List.all_eq_true.1 hsz _ (DataW.weights_mem_each (j := 2) rfl rfl _ hn)
      have hm2 : n ≤ reachBytes := of_decide_eq_true hm
      rw [show reachBytes = 140737488351232 from rfl] at hm2
      exact hm2)
    obtain ⟨b2, m2, c2, l2, e2, hnc2, hcm2, hl2, hrow2, hnil2, -, hw2⟩ := row_weigh Tryz.underlying23 Tryz.underlying3 cellsI hf2
    injection e2 with e21 e22 e23
    subst e21 e22 e23
    have hbd2 : cap2 ≤ 17592186043904 := by
      rcases hw2 with h | h
      · omega
      · have := hwt2 _ h
        rw [show Tryz.prog.bytesOf 3 = 8 by kernel_rfl] at this
        omega
    subst hl2
    exact fways_any en0 ac0 ae0 a2 cc0 ce0 cap2 C0 E0 l2 n1 W hnC0 (by omega) (hide_ ⟨hcC0, hmC0, by omega, hcE0, by omega, hC0, hE0⟩) (hide_ hrow2)
  clear hA0 hval0
  refine walk.mono fun e W' ⟨he, bel⟩ => ?_
  subst he
  exact ⟨_, rfl, _, _, _, [], _, [], hW', trodAll_mk1 (shut_bool Tryz.underlying4 _), (trodAll_cons_mk (Below.trod laidOut (by kernel_rfl) (of_decide_eq_true (by kernel_rfl)) k0 bel lt0) (trodAll_cons_mk (shut_int Tryz.underlying3 w1) (trodAll_cons_mk (Below.trod laidOut (by kernel_rfl) (of_decide_eq_true (by kernel_rfl)) k2 bel lt2) trodAll_mk0))), rfl, bel.frame _, fun h => by cases h⟩

theorem over : Rows.flowWaysRow.holds Tryz.pinned (OpenSpec.ofChange Rows.flowWaysSpec) :=
  OpenClaim.holds_of_wide 4 Tryz.f4 rfl rfl rfl rfl rfl rfl rfl ⟨rfl, rfl, rfl, rfl, rfl⟩ rfl rfl rfl rfl rfl (by kernel_rfl) Tryz.func4 (by kernel_rfl)
    (of_decide_eq_true (by kernel_rfl)) (by unfold Func.isWrapper; first | (rw [if_pos (by decide +kernel)]; kernel_rfl) | (rw [if_neg (by decide +kernel)]; exact ⟨rfl, rfl⟩))
    (fun os started H enc _ => lifted os started H enc)

theorem proved : Rows.FlowWaysSaid := over
end Go.Proofs.YtimopjkeclppmaaGreat.flowWays
namespace Go.Proofs.YtimopjkeclppmaaGreat
theorem flowWays_holds : Rows.FlowWaysSaid := flowWays.proved
#print axioms flowWays_holds
end Go.Proofs.YtimopjkeclppmaaGreat
