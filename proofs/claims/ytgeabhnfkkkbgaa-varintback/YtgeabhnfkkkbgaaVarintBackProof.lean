/- VarintBack, out of its walk. The frame round the walk is that of the tool proof-skeleton. -/
import Derived.Test.YtgeabhnfkkkbgaaJ
import Derived.Test.YtgeabhnfkkkbgaaRead
import Derived.SizedLaws
import Derived.WalkKit
import Derived.Below
namespace Go.Proofs.Ytgeabhnfkkkbgaa.varintBack
open Go.ChangeShapes Go.WideShapes Go.ChangeAt Go.RowKit
set_option linter.unusedVariables false

theorem own : ownKnob Try.prog.godebug = none := by kernel_rfl
theorem laidOut : laidOutB Try.prog = true := by kernel_rfl
theorem bytes5 : Try.prog.bytesOf 5 = 1 := by kernel_rfl

set_option maxRecDepth 100000 in
theorem lifted (os : Os) (started : os.Started) (H : Type) (enc : TypeId × Value → H) :
    ReturnsInHanded {} Try.checked os 3 .any (Rows.varintBackSpec.pre6 enc Try.prog Try.f3 Rows.varintBackRow.domain false) (Rows.varintBackSpec.post enc Try.prog Try.f3 false true false false) := by
  refine returnsInHanded_of_change_sized (C := Try.checked) own started (by kernel_rfl) Try.func3
    (ChangeSpec.witness6 (enc := enc) (C := Try.checked) false ⟨#[], #[.int .u64 0, .slice none 0 0], []⟩ 8 (by kernel_rfl) (by kernel_rfl) (by kernel_rfl) (by kernel_rfl)) ?_
  intro W base args ds gs before hval0 hW hcnd hsz0 _
  have hval : ∀ (j : Nat) t v, Try.f3.params[j]? = some t → args[j]? = some v → Value.okWide Try.prog W .any base t v := hval0
  have hsz : (DataW.weightsEach Try.prog (Try.f3.params.toList ++ Rows.varintBackSpec.plain.varTypes Try.prog) (ds ++ gs)).all (· ≤ reachBytes) = true := hsz0
  have hW' := hW
  obtain ⟨p, q, hA0, hV, rfl, hfz, hnd⟩ := hW
  have hA : DataW.TrodAll enc Try.prog W 0 (fun _ => true) true Try.f3.params.toList args.toList ds p := hA0
  rw [Try.params3] at hA hval hsz
  obtain ⟨v0, vs0, d0, ds0, p0, q0, hargs, rfl, rfl, h0, r0⟩ := trodAll_cons hA
  obtain ⟨v1, vs1, d1, ds1, p1, q1, rfl, rfl, rfl, h1, r1⟩ := trodAll_cons r0
  obtain ⟨rfl, rfl, rfl⟩ := trodAll_nil r1
  obtain rfl : args = #[v0, v1] := by cases args; simp_all
  obtain ⟨rfl, rfl⟩ := trodVars_none hV
  obtain ⟨a0, rfl, rfl, rfl, w0⟩ := open_int Try.underlying22 (hval 0 22 v0 rfl rfl) h0
  obtain ⟨a1, len1, cap1, rfl⟩ := okWide_slice Try.underlying23 (hval 1 23 v1 rfl rfl)
  have k1 := h1
  have lt1 : ∀ x ∈ p1, x.block < W.heap.size := by obtain ⟨m, hm⟩ := k1; exact DataW.trod_lt m _ _ _ hm
  obtain ⟨fuel, hf⟩ := h1
  obtain ⟨a, n, cap, l, hv, hnc, hcm, hl, hrow, hnil, hwf, hwt⟩ := row_weigh Try.underlying23 Try.underlying5 (by kernel_rfl) hf
  injection hv with e1 e2 e3
  subst e1 e2 e3
  have hreach : cap1 ≤ 140737488351232 := by
    rcases hwt with rfl | hwt
    · omega
    · have hm := List.all_eq_true.1 hsz _ (DataW.weights_mem_each (j := 1) rfl rfl _ hwt)
      rw [bytes5] at hm
      have hm2 : cap1 * 1 ≤ reachBytes := of_decide_eq_true hm
      rw [show reachBytes = 140737488351232 from rfl] at hm2
      omega
  obtain ⟨N, rfl⟩ := Int.eq_ofNat_of_zero_le (bounds_u64 w0).1
  have hN := (bounds_u64 w0).2
  clear hA0 hval0
  refine (back_any N a1 len1 cap1 l W (by omega) hl hnc hreach hrow hnil (fun x hx => bounds_u8 (hwf x hx))).mono fun e W' ⟨he, bel⟩ => ?_
  subst he
  exact ⟨_, rfl, _, _, _, [], _, [], hW', trodAll_mk1 (shut_bool Try.underlying4 _), (trodAll_cons_mk (shut_int Try.underlying22 w0) (trodAll_cons_mk (Below.trod laidOut (by kernel_rfl) (of_decide_eq_true (by kernel_rfl)) k1 bel lt1) trodAll_mk0)), rfl, bel.frame _, fun h => by cases h⟩

theorem over : Rows.varintBackRow.holds Try.pinned (OpenSpec.ofChange Rows.varintBackSpec) :=
  OpenClaim.holds_of_wide 3 Try.f3 rfl rfl rfl rfl rfl rfl rfl ⟨rfl, rfl, rfl, rfl, rfl⟩ rfl rfl rfl rfl rfl (by kernel_rfl) Try.func3 (by kernel_rfl)
    (of_decide_eq_true (by kernel_rfl)) (by unfold Func.isWrapper; first | (rw [if_pos (by decide +kernel)]; kernel_rfl) | (rw [if_neg (by decide +kernel)]; exact ⟨rfl, rfl⟩))
    (fun os started H enc _ => lifted os started H enc)

theorem proved : Rows.VarintBackSaid := over
end Go.Proofs.Ytgeabhnfkkkbgaa.varintBack
namespace Go.Proofs.Ytgeabhnfkkkbgaa
theorem varintBack_holds : Rows.VarintBackSaid := varintBack.proved
#print axioms varintBack_holds
end Go.Proofs.Ytgeabhnfkkkbgaa
