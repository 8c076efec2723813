/- TokensApart, out of its walk. The frame round the walk is that of the tool proof-skeleton. -/
import Derived.Test.YtoodafhljgdghaaY
import Derived.Test.YtoodafhljgdghaaRead
import Derived.SliceStrings
import Derived.WalkKit
import Derived.ProofKit
import Derived.Below
import Derived.OpenShut
import Derived.ShutString
namespace Go.Proofs.Ytoodafhljgdghaa.tokensApart
open Go.ChangeShapes Go.WideShapes Go.ChangeAt Go.RowKit
open Go.ChangeMaps (open_string shut_string)
set_option linter.unusedVariables false

theorem own : ownKnob Try.prog.godebug = none := by kernel_rfl
theorem laidOut : laidOutB Try.prog = true := by kernel_rfl
theorem cellsS : Try.prog.cellsOf 9 = 1 := by kernel_rfl
theorem strs_read {H : Type} {enc : TypeId × Value → H} {w : World} {base : Nat} {held : Bool} {fuel : Nat} {v : Value} {y : DataW H × List MemPlace} (h : DataW.trod enc Try.prog w base (fun _ => true) held fuel 31 [v] = some y) :
    ∃ a n cap ss, v = .slice a n cap ∧ ss.length = n ∧ n ≤ maxLen ∧ SRow w a ss := by
  rcases open_strings Try.underlying31 Try.underlying9 cellsS h with ⟨hcs, _⟩ | ⟨x, l, c, ss, hcs, _, hl, hm, hlen, _, hcell, _⟩
  · simp at hcs
    subst hcs
    exact ⟨none, 0, 0, [], rfl, rfl, Nat.zero_le _, .inl ⟨rfl, rfl⟩⟩
  · simp at hcs
    subst hcs
    have hlen' : ss.length = c := by simpa using hlen
    refine ⟨some x, l, c, ss.take l, rfl, by simp; omega, Nat.le_trans hl hm, .inr ⟨x, rfl, fun j hj => ?_⟩⟩
    have h1 : j < l := by simp at hj; omega
    rw [hcell j (by omega)]
    have e1 : j < ss.length := by omega
    have e2 : ss.getD j ByteArray.empty = ss[j] := by simp [List.getD, e1]
    have e3 : (ss.take l).getD j ⟨#[]⟩ = ss[j] := by simp [List.getD, h1, e1]
    rw [e2, e3]
set_option maxRecDepth 100000 in
theorem lifted (os : Os) (started : os.Started) (H : Type) (enc : TypeId × Value → H) :
    ReturnsInHanded {} Try.checked os 4 .any (Rows.tokensApartSpec.pre6 enc Try.prog Try.f4 Rows.tokensApartRow.domain false) (Rows.tokensApartSpec.post enc Try.prog Try.f4 false true false false) := by
  refine returnsInHanded_of_change (C := Try.checked) own started (by kernel_rfl) Try.func4
    (ChangeSpec.witness6 (enc := enc) (C := Try.checked) false ⟨#[], #[.slice none 0 0], []⟩ 8 (by kernel_rfl) (by kernel_rfl) (by kernel_rfl) (by kernel_rfl)) ?_
  intro W base args ds gs before hval0 hW hcnd _
  have hval : ∀ (j : Nat) t v, Try.f4.params[j]? = some t → args[j]? = some v → Value.okWide Try.prog W .any base t v := hval0
  have hW' := hW
  obtain ⟨p, q, hA0, hV, rfl, hfz, hnd⟩ := hW
  have hA : DataW.TrodAll enc Try.prog W 0 (fun _ => true) true Try.f4.params.toList args.toList ds p := hA0
  rw [Try.params4] at hA hval
  obtain ⟨v0, vs0, d0, ds0, p0, q0, hargs, rfl, rfl, h0, r0⟩ := trodAll_cons hA
  obtain ⟨rfl, rfl, rfl⟩ := trodAll_nil r0
  obtain rfl : args = #[v0] := by cases args; simp_all
  obtain ⟨rfl, rfl⟩ := trodVars_none hV
  obtain ⟨a0, len0, cap0, rfl⟩ := okWide_slice Try.underlying31 (hval 0 31 v0 rfl rfl)
  have k0 := h0
  have lt0 : ∀ x ∈ p0, x.block < W.heap.size := by obtain ⟨m, hm⟩ := k0; exact DataW.trod_lt m _ _ _ hm
  obtain ⟨fuel0, hf0⟩ := h0
  obtain ⟨b0, n0, c0, ss, e0, hss, hsm, hsrow⟩ := strs_read hf0
  injection e0 with e01 e02 e03
  subst e01 e02 e03
  clear hA0 hval0
  refine (apart_any a0 len0 cap0 ss W hss hsm hsrow).mono fun e W' ⟨he, bel⟩ => ?_
  subst he
  exact ⟨_, rfl, _, _, _, [], _, [], hW', trodAll_mk1 (shut_bool Try.underlying4 _), (trodAll_cons_mk (Below.trod laidOut (by kernel_rfl) (of_decide_eq_true (by kernel_rfl)) k0 bel lt0) trodAll_mk0), rfl, bel.frame _, fun h => by cases h⟩

theorem over : Rows.tokensApartRow.holds Try.pinned (OpenSpec.ofChange Rows.tokensApartSpec) :=
  OpenClaim.holds_of_wide 4 Try.f4 rfl rfl rfl rfl rfl rfl rfl ⟨rfl, rfl, rfl, rfl, rfl⟩ rfl rfl rfl rfl rfl (by kernel_rfl) Try.func4 (by kernel_rfl)
    (of_decide_eq_true (by kernel_rfl)) (by unfold Func.isWrapper; first | (rw [if_pos (by decide +kernel)]; kernel_rfl) | (rw [if_neg (by decide +kernel)]; exact ⟨rfl, rfl⟩))
    (fun os started H enc _ => lifted os started H enc)

theorem proved : Rows.TokensApartSaid :=
  over
end Go.Proofs.Ytoodafhljgdghaa.tokensApart
namespace Go.Proofs.Ytoodafhljgdghaa
theorem tokensApart_holds : Rows.TokensApartSaid := tokensApart.proved
#print axioms tokensApart_holds
end Go.Proofs.Ytoodafhljgdghaa
