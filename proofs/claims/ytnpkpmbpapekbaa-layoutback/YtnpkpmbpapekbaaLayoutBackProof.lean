/- LayoutBack, out of its walk. The frame round the walk is that of the tool proof-skeleton. -/
import Derived.Test.YtnpkpmbpapekbaaEi
import Derived.Test.YtnpkpmbpapekbaaRead
import Derived.Test.YtnpkpmbpapekbaaWeigh
import Derived.SizedLaws
import Derived.WalkKit
import Derived.ProofKit
import Derived.Below
import Derived.OpenShut
import Derived.ShutString
namespace Go.Proofs.Ytnpkpmbpapekbaa.layoutBack
open Go.ChangeShapes Go.WideShapes Go.ChangeAt Go.RowKit
set_option linter.unusedVariables false

theorem own : ownKnob Try.prog.godebug = none := by kernel_rfl
theorem laidOut : laidOutB Try.prog = true := by kernel_rfl
theorem cellsI : Try.prog.cellsOf 3 = 1 := by kernel_rfl

set_option maxRecDepth 100000 in
theorem lifted (os : Os) (started : os.Started) (H : Type) (enc : TypeId × Value → H) :
    ReturnsInHanded {} Try.checked os 3 .any (Rows.layoutBackSpec.pre6 enc Try.prog Try.f3 Rows.layoutBackRow.domain false) (Rows.layoutBackSpec.post enc Try.prog Try.f3 false true false false) := by
  refine returnsInHanded_of_change_sized (C := Try.checked) own started (by kernel_rfl) Try.func3
    (ChangeSpec.witness6 (enc := enc) (C := Try.checked) false ⟨#[], #[.int .i64 0, .slice none 0 0, .slice none 0 0, .int .i64 0], []⟩ 8 (by kernel_rfl) (by kernel_rfl) (by kernel_rfl) (by kernel_rfl)) ?_
  intro W base args ds gs before hval0 hW hcnd hsz0 _
  have hval : ∀ (j : Nat) t v, Try.f3.params[j]? = some t → args[j]? = some v → Value.okWide Try.prog W .any base t v := hval0
  have hsz : (DataW.weightsEach Try.prog (Try.f3.params.toList ++ Rows.layoutBackSpec.plain.varTypes Try.prog) (ds ++ gs)).all (· ≤ reachBytes) = true := hsz0
  have hW' := hW
  obtain ⟨p, q, hA0, hV, rfl, hfz, hnd⟩ := hW
  have hA : DataW.TrodAll enc Try.prog W 0 (fun _ => true) true Try.f3.params.toList args.toList ds p := hA0
  rw [Try.params3] at hA hval hsz
  obtain ⟨v0, vs0, d0, ds0, p0, q0, hargs, rfl, rfl, h0, r0⟩ := trodAll_cons hA
  obtain ⟨v1, vs1, d1, ds1, p1, q1, rfl, rfl, rfl, h1, r1⟩ := trodAll_cons r0
  obtain ⟨v2, vs2, d2, ds2, p2, q2, rfl, rfl, rfl, h2, r2⟩ := trodAll_cons r1
  obtain ⟨v3, vs3, d3, ds3, p3, q3, rfl, rfl, rfl, h3, r3⟩ := trodAll_cons r2
  obtain ⟨rfl, rfl, rfl⟩ := trodAll_nil r3
  obtain rfl : args = #[v0, v1, v2, v3] := by cases args; simp_all
  obtain ⟨rfl, rfl⟩ := trodVars_none hV
  obtain ⟨n0, rfl, rfl, rfl, w0⟩ := open_int Try.underlying3 (hval 0 3 v0 rfl rfl) h0
  have hN0 := bounds_i64 w0
  obtain ⟨a1, len1, cap1, rfl⟩ := okWide_slice Try.underlying22 (hval 1 22 v1 rfl rfl)
  have k1 := h1
  have lt1 : ∀ x ∈ p1, x.block < W.heap.size := by obtain ⟨m, hm⟩ := k1; exact DataW.trod_lt m _ _ _ hm
  obtain ⟨a2, len2, cap2, rfl⟩ := okWide_slice Try.underlying22 (hval 2 22 v2 rfl rfl)
  have k2 := h2
  have lt2 : ∀ x ∈ p2, x.block < W.heap.size := by obtain ⟨m, hm⟩ := k2; exact DataW.trod_lt m _ _ _ hm
  obtain ⟨n3, rfl, rfl, rfl, w3⟩ := open_int Try.underlying3 (hval 3 3 v3 rfl rfl) h3
  have hN3 := bounds_i64 w3
  have walk : Calls Try.prog 3 #[.int .i64 n0, .slice a1 len1 cap1, .slice a2 len2 cap2, .int .i64 n3] W fun e w' => e = .returned (.bool true) ∧ Below W.heap.size W w' := by
    obtain ⟨fuel1, hf1⟩ := h1
    have hwt1 : ∀ n ∈ d1.weights Try.prog 22, n ≤ 140737488351232 := (fun n hn => by
      have hm := List.all_eq_true.1 hsz _ (DataW.weights_mem_each (j := 1) rfl rfl _ hn)
      have hm2 : n ≤ reachBytes := of_decide_eq_true hm
      rw [show reachBytes = 140737488351232 from rfl] at hm2
      exact hm2)
    obtain ⟨b1, m1, c1, l1, e1, hnc1, hcm1, hl1, hrow1, hnil1, -, hw1⟩ := row_weigh Try.underlying22 Try.underlying3 cellsI hf1
    injection e1 with e11 e12 e13
    subst e11 e12 e13
    have hbd1 : cap1 ≤ 17592186043904 := by
      rcases hw1 with h | h
      · omega
      · have := hwt1 _ h
        rw [show Try.prog.bytesOf 3 = 8 by kernel_rfl] at this
        omega
    subst hl1
    obtain ⟨fuel2, hf2⟩ := h2
    have hwt2 : ∀ n ∈ d2.weights Try.prog 22, n ≤ 140737488351232 := (fun n hn => by
      have hm := List.all_eq_true.1 hsz _ (DataW.weights_mem_each (j := 2) rfl rfl _ hn)
      have hm2 : n ≤ reachBytes := of_decide_eq_true hm
      rw [show reachBytes = 140737488351232 from rfl] at hm2
      exact hm2)
    obtain ⟨b2, m2, c2, l2, e2, hnc2, hcm2, hl2, hrow2, hnil2, -, hw2⟩ := row_weigh Try.underlying22 Try.underlying3 cellsI hf2
    injection e2 with e21 e22 e23
    subst e21 e22 e23
    have hbd2 : cap2 ≤ 17592186043904 := by
      rcases hw2 with h | h
      · omega
      · have := hwt2 _ h
        rw [show Try.prog.bytesOf 3 = 8 by kernel_rfl] at this
        omega
    subst hl2
    exact back_any n0 n3 a1 a2 cap1 cap2 l1 l2 W hN0 hN3.2 (by omega) (by omega) (hide_ hrow1) (hide_ hrow2)
  clear hA0 hval0
  refine walk.mono fun e W' ⟨he, bel⟩ => ?_
  subst he
  exact ⟨_, rfl, _, _, _, [], _, [], hW', trodAll_mk1 (shut_bool Try.underlying4 _), (trodAll_cons_mk (shut_int Try.underlying3 w0) (trodAll_cons_mk (Below.trod laidOut (by kernel_rfl) (of_decide_eq_true (by kernel_rfl)) k1 bel lt1) (trodAll_cons_mk (Below.trod laidOut (by kernel_rfl) (of_decide_eq_true (by kernel_rfl)) k2 bel lt2) (trodAll_cons_mk (shut_int Try.underlying3 w3) trodAll_mk0)))), rfl, bel.frame _, fun h => by cases h⟩

theorem over : Rows.layoutBackRow.holds Try.pinned (OpenSpec.ofChange Rows.layoutBackSpec) :=
  OpenClaim.holds_of_wide 3 Try.f3 rfl rfl rfl rfl rfl rfl rfl ⟨rfl, rfl, rfl, rfl, rfl⟩ rfl rfl rfl rfl rfl (by kernel_rfl) Try.func3 (by kernel_rfl)
    (of_decide_eq_true (by kernel_rfl)) (by unfold Func.isWrapper; first | (rw [if_pos (by decide +kernel)]; kernel_rfl) | (rw [if_neg (by decide +kernel)]; exact ⟨rfl, rfl⟩))
    (fun os started H enc _ => lifted os started H enc)

theorem proved : Rows.LayoutBackSaid := over
end Go.Proofs.Ytnpkpmbpapekbaa.layoutBack
namespace Go.Proofs.Ytnpkpmbpapekbaa
theorem layoutBack_holds : Rows.LayoutBackSaid := layoutBack.proved
#print axioms layoutBack_holds
end Go.Proofs.Ytnpkpmbpapekbaa
