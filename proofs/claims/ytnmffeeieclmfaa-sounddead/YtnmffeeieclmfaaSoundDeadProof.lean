import Derived.Test.YtnmffeeieclmfaaPart29
import Derived.Test.YtnmffeeieclmfaaPart26
import Derived.Test.YtnmffeeieclmfaaRows
import Derived.Test.YtnmffeeieclmfaaChecked
import Derived.Test.YtnmffeeieclmfaaPart08
import Derived.Test.YtnmffeeieclmfaaPart10
import Derived.SizedLaws
import Derived.WalkKit
import Derived.ProofKit
import Derived.Below
import Derived.OpenShut
import Derived.ShutString
/- SoundDead, out of its walk. The frame round the walk is that of the tool proof-skeleton. -/
namespace Go.Proofs.Ytnmffeeieclmfaa.soundDead
open Go.ChangeShapes Go.WideShapes Go.ChangeAt Go.RowKit
open Go.ChangeMaps (open_string shut_string)
set_option linter.unusedVariables false

theorem own : ownKnob Try.prog.godebug = none := by kernel_rfl
theorem laidOut : laidOutB Try.prog = true := by kernel_rfl
theorem cellsI : Try.prog.cellsOf 3 = 1 := by kernel_rfl

set_option maxRecDepth 100000 in
theorem lifted (os : Os) (started : os.Started) (H : Type) (enc : TypeId × Value → H) :
    ReturnsInHanded {} Try.checked os 5 .any (Rows.soundDeadSpec.pre6 enc Try.prog Try.f5 Rows.soundDeadRow.domain false) (Rows.soundDeadSpec.post enc Try.prog Try.f5 false true false false) := by
  refine returnsInHanded_of_change_sized (C := Try.checked) own started (by kernel_rfl) Try.func5
    (ChangeSpec.witness6 (enc := enc) (C := Try.checked) false ⟨#[], #[.agg #[.bool false, .slice none 0 0, .slice none 0 0], .agg #[.bool false, .slice none 0 0, .slice none 0 0]], []⟩ 8 (by kernel_rfl) (by kernel_rfl) (by kernel_rfl) (by kernel_rfl)) ?_
  intro W base args ds gs before hval0 hW hcnd hsz0 _
  have hval : ∀ (j : Nat) t v, Try.f5.params[j]? = some t → args[j]? = some v → Value.okWide Try.prog W .any base t v := hval0
  have hsz : (DataW.weightsEach Try.prog (Try.f5.params.toList ++ Rows.soundDeadSpec.plain.varTypes Try.prog) (ds ++ gs)).all (· ≤ reachBytes) = true := hsz0
  have hW' := hW
  obtain ⟨p, q, hA0, hV, rfl, hfz, hnd⟩ := hW
  have hA : DataW.TrodAll enc Try.prog W 0 (fun _ => true) true Try.f5.params.toList args.toList ds p := hA0
  rw [Try.params5] at hA hval hsz
  obtain ⟨v0, vs0, d0, ds0, p0, q0, hargs, rfl, rfl, h0, r0⟩ := trodAll_cons hA
  obtain ⟨v1, vs1, d1, ds1, p1, q1, rfl, rfl, rfl, h1, r1⟩ := trodAll_cons r0
  obtain ⟨rfl, rfl, rfl⟩ := trodAll_nil r1
  obtain rfl : args = #[v0, v1] := by cases args; simp_all
  obtain ⟨rfl, rfl⟩ := trodVars_none hV
  obtain ⟨cs0, rfl, _⟩ := okWide_struct Try.underlying25 (hval 0 25 v0 rfl rfl)
  have k0 := h0
  have lt0 : ∀ x ∈ p0, x.block < W.heap.size := by obtain ⟨m, hm⟩ := k0; exact DataW.trod_lt m _ _ _ hm
  obtain ⟨cs1, rfl, _⟩ := okWide_struct Try.underlying25 (hval 1 25 v1 rfl rfl)
  have k1 := h1
  have lt1 : ∀ x ∈ p1, x.block < W.heap.size := by obtain ⟨m, hm⟩ := k1; exact DataW.trod_lt m _ _ _ hm
  have walk : Calls Try.prog 5 #[.agg cs0, .agg cs1] W fun e w' => e = .returned (.bool true) ∧ Below W.heap.size W w' := by
    obtain ⟨fuel0, hf0⟩ := h0
    obtain ⟨en0, ac0, cc0, C0, ae0, ce0, E0, hcs0, hcC0, hnC0, hC0, hlC0, hmC0, hcE0, hnE0, hE0, hlE0⟩ := prog_open hf0 (fun n hn => by
      have hm := List.all_eq_true.1 hsz _ (DataW.weights_mem_each (j := 0) rfl rfl _ hn)
      have hm2 : n ≤ reachBytes := of_decide_eq_true hm
      rw [show reachBytes = 140737488351232 from rfl] at hm2
      exact hm2)
    have e0 : cs0 = #[.bool en0, .slice ac0 C0.length cc0, .slice ae0 E0.length ce0] := by
      have : cs0.toList = [.bool en0, .slice ac0 C0.length cc0, .slice ae0 E0.length ce0] := hcs0
      exact Array.toList_inj.1 this
    subst e0
    obtain ⟨fuel1, hf1⟩ := h1
    obtain ⟨en1, ac1, cc1, C1, ae1, ce1, E1, hcs1, hcC1, hnC1, hC1, hlC1, hmC1, hcE1, hnE1, hE1, hlE1⟩ := prog_open hf1 (fun n hn => by
      have hm := List.all_eq_true.1 hsz _ (DataW.weights_mem_each (j := 1) rfl rfl _ hn)
      have hm2 : n ≤ reachBytes := of_decide_eq_true hm
      rw [show reachBytes = 140737488351232 from rfl] at hm2
      exact hm2)
    have e1 : cs1 = #[.bool en1, .slice ac1 C1.length cc1, .slice ae1 E1.length ce1] := by
      have : cs1.toList = [.bool en1, .slice ac1 C1.length cc1, .slice ae1 E1.length ce1] := hcs1
      exact Array.toList_inj.1 this
    subst e1
    exact sdead_any en0 en1 ac0 ae0 ac1 ae1 cc0 ce0 cc1 ce1 C0 C1 E0 E1 W (by omega) (by omega) (by omega) hnC0 hnE0 hnC1 (hide_ hC0) (hide_ hE0) (hide_ hC1)
  clear hA0 hval0
  refine walk.mono fun e W' ⟨he, bel⟩ => ?_
  subst he
  exact ⟨_, rfl, _, _, _, [], _, [], hW', trodAll_mk1 (shut_bool Try.underlying4 _), (trodAll_cons_mk (Below.trod laidOut (by kernel_rfl) (of_decide_eq_true (by kernel_rfl)) k0 bel lt0) (trodAll_cons_mk (Below.trod laidOut (by kernel_rfl) (of_decide_eq_true (by kernel_rfl)) k1 bel lt1) trodAll_mk0)), rfl, bel.frame _, fun h => by cases h⟩

theorem over : Rows.soundDeadRow.holds Try.pinned (OpenSpec.ofChange Rows.soundDeadSpec) :=
  OpenClaim.holds_of_wide 5 Try.f5 rfl rfl rfl rfl rfl rfl rfl ⟨rfl, rfl, rfl, rfl, rfl⟩ rfl rfl rfl rfl rfl (by kernel_rfl) Try.func5 (by kernel_rfl)
    (of_decide_eq_true (by kernel_rfl)) (by unfold Func.isWrapper; first | (rw [if_pos (by decide +kernel)]; kernel_rfl) | (rw [if_neg (by decide +kernel)]; exact ⟨rfl, rfl⟩))
    (fun os started H enc _ => lifted os started H enc)

theorem proved : Rows.SoundDeadSaid := over
end Go.Proofs.Ytnmffeeieclmfaa.soundDead
namespace Go.Proofs.Ytnmffeeieclmfaa
theorem soundDead_holds : Rows.SoundDeadSaid := soundDead.proved
#print axioms soundDead_holds
end Go.Proofs.Ytnmffeeieclmfaa
