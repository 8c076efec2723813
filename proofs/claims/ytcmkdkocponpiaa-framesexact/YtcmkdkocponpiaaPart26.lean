import Derived.Test.YtcmkdkocponpiaaPart18
import Derived.Test.YtcmkdkocponpiaaPart25

/- What the reading of a script says of memory. -/
namespace Go.Proofs.Ytcmkdkocponpiaa
open Go.ChangeShapes Go.WideShapes Go.ChangeAt Go.RowKit
set_option linter.unusedVariables false

variable {H : Type} {enc : TypeId × Value → H} {w : World} {base : Nat} {held : Bool}
theorem field_readN {P : Program} {t : TypeId} {fs : Array Field} (ht : P.underlying t = some (.struct fs)) {fuel : Nat} {cs : List Value} {y : DataW H × List MemPlace} (h : DataW.trod enc P w base (fun _ => true) held fuel t cs = some y) :
    cs.length = P.cellsOf t ∧ ∃ m, ∀ (i : Nat) (f : Field) (u : TypeId) (off n : Nat), fs[i]? = some f → f.type = u → f.offset = off → P.cellsOf u = n → ∃ z, DataW.trod enc P w base (fun _ => true) held m u ((cs.drop off).take n) = some z := by
  obtain ⟨xs, m, _, _, hl, hlen, hf⟩ := DataW.trod_struct ht h
  refine ⟨hl, m, fun i f u off n hfi hu ho hn => ?_⟩
  have hi : i < xs.length := by
    rw [hlen]
    exact (Array.getElem?_eq_some_iff.1 hfi).1
  have h1 := hf i f hfi
  rw [List.getElem?_eq_getElem hi] at h1
  subst hu ho hn
  exact ⟨_, h1⟩
theorem len11 {cs : List Value} (h : cs.length = 11) : ∃ c0 c1 c2 c3 c4 c5 c6 c7 c8 c9 c10, cs = [c0, c1, c2, c3, c4, c5, c6, c7, c8, c9, c10] := by
  match cs, h with
  | [c0, c1, c2, c3, c4, c5, c6, c7, c8, c9, c10], _ => exact ⟨c0, c1, c2, c3, c4, c5, c6, c7, c8, c9, c10, rfl⟩
theorem cellsOp : Try.prog.cellsOf 63 = 11 := by kernel_rfl
theorem cellsBool : Try.prog.cellsOf 4 = 1 := by kernel_rfl
theorem cellsBs : Try.prog.cellsOf 23 = 1 := by kernel_rfl
theorem cellsUb : Try.prog.cellsOf 5 = 1 := by kernel_rfl
theorem op_open {fuel : Nat} {cs : List Value} {y : DataW H × List MemPlace} (h : DataW.trod enc Try.prog w base (fun _ => true) held fuel 63 cs = some y) :
    ∃ o : OpV, cs = opc o ∧ OpOk w o := by
  obtain ⟨hl, m, hf⟩ := field_readN Try.underlying63 h
  rw [cellsOp] at hl
  obtain ⟨c0, c1, c2, c3, c4, c5, c6, c7, c8, c9, c10, rfl⟩ := len11 hl
  obtain ⟨y0, t0⟩ := hf 0 _ 3 0 1 rfl rfl rfl cellsIf
  obtain ⟨y1, t1⟩ := hf 1 _ 4 1 1 rfl rfl rfl cellsBool
  obtain ⟨y2, t2⟩ := hf 2 _ 39 2 7 rfl rfl rfl cellsFr
  obtain ⟨y3, t3⟩ := hf 3 _ 3 9 1 rfl rfl rfl cellsIf
  obtain ⟨y4, t4⟩ := hf 4 _ 23 10 1 rfl rfl rfl cellsBs
  have t0 : DataW.trod enc Try.prog w base (fun _ => true) held m 3 [c0] = some y0 := t0
  have t1 : DataW.trod enc Try.prog w base (fun _ => true) held m 4 [c1] = some y1 := t1
  have t2 : DataW.trod enc Try.prog w base (fun _ => true) held m 39 [c2, c3, c4, c5, c6, c7, c8] = some y2 := t2
  have t3 : DataW.trod enc Try.prog w base (fun _ => true) held m 3 [c9] = some y3 := t3
  have t4 : DataW.trod enc Try.prog w base (fun _ => true) held m 23 [c10] = some y4 := t4
  obtain ⟨n0, k0, _, _⟩ := DataW.trod_int Try.underlying3 t0
  obtain ⟨wh, k1, _⟩ := DataW.trod_bool Try.underlying4 t1
  obtain ⟨f, af, cf, k2, h1, h2, h3⟩ := frame_open t2
  obtain ⟨n3, k3, _, _⟩ := DataW.trod_int Try.underlying3 t3
  obtain ⟨ab, n, cb, b, k4, g1, g2, g3, g4, g5, g6⟩ := row_read Try.underlying23 Try.underlying5 cellsUb t4
  simp [frc] at k0 k1 k2 k3
  obtain ⟨e2, e3, e4, e5, e6, e7, e8⟩ := k2
  subst k0 k1 e2 e3 e4 e5 e6 e7 e8 k3 k4 g3
  exact ⟨⟨n0, wh, f, af, cf, n3, ab, b, cb⟩, rfl, ⟨h1, h2, h3, g4, g5, fun x hx => bounds_u8 (g6 x hx), g1⟩⟩
theorem ops_open {fuel : Nat} {c : Value} {y : DataW H × List MemPlace} (h : DataW.trod enc Try.prog w base (fun _ => true) held fuel 50 [c] = some y) :
    ∃ a cap L, c = .slice a L.length cap ∧ L.length ≤ cap ∧ ORow w a L ∧ cap ≤ 9223372036854775807 := by
  obtain ⟨a, n, cap, rfl, hc, hz, _, hmx⟩ := slice_formF Try.underlying50 h
  unfold maxLen at hmx
  rcases structs_read Try.underlying50 (by rw [cellsOp]; omega) h with h0 | ⟨b, off, m, rfl, hbl, hlc, hcm, hel⟩
  · subst h0
    exact ⟨a, cap, [], rfl, hc, ⟨.inl rfl, fun p hp => by cases hp⟩, by omega⟩
  · rw [cellsOp] at hel
    obtain ⟨N, hN, hQ⟩ := list_ofF n (fun i (x : OpV) => (∀ j, j < 11 → w.cell? ⟨b, off + i * 11 + j, none⟩ = (opc x)[j]?) ∧ OpOk w x) (fun i hi => by
      obtain ⟨cs, z, _, hcell, ht⟩ := hel i hi
      obtain ⟨o, rfl, ho⟩ := op_open ht
      exact ⟨o, hcell, ho⟩)
    subst hN
    refine ⟨some ⟨b, off, none⟩, cap, N, rfl, hc, ⟨.inr ⟨b, off, rfl, hbl, fun i x hx => (hQ i x hx).1⟩, fun p hp => ?_⟩, by omega⟩
    obtain ⟨i, hi⟩ := List.getElem?_of_mem hp
    exact (hQ i p hi).2
end Go.Proofs.Ytcmkdkocponpiaa
