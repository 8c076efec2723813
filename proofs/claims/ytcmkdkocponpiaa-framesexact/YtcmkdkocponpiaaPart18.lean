import Derived.Test.YtcmkdkocponpiaaPart10
import Derived.Test.YtcmkdkocponpiaaPart15

/- What the reading of frames says of memory. -/
namespace Go.Proofs.Ytcmkdkocponpiaa
open Go.ChangeShapes Go.WideShapes Go.ChangeAt Go.RowKit
set_option linter.unusedVariables false

variable {H : Type} {enc : TypeId × Value → H} {w : World} {base : Nat} {held : Bool}
theorem len7F {cs : List Value} (h : cs.length = 7) : ∃ c0 c1 c2 c3 c4 c5 c6, cs = [c0, c1, c2, c3, c4, c5, c6] := by
  match cs, h with
  | [c0, c1, c2, c3, c4, c5, c6], _ => exact ⟨c0, c1, c2, c3, c4, c5, c6, rfl⟩
theorem cellsFr : Try.prog.cellsOf 39 = 7 := by kernel_rfl
theorem cellsIf : Try.prog.cellsOf 3 = 1 := by kernel_rfl
theorem bytesFr : Try.prog.bytesOf 39 = 72 := by kernel_rfl
theorem slice_formF {P : Program} {t e : TypeId} (ht : P.underlying t = some (.slice e)) {fuel : Nat} {c : Value} {y : DataW H × List MemPlace} (h : DataW.trod enc P w base (fun _ => true) held fuel t [c] = some y) : ∃ a n cap, c = .slice a n cap ∧ n ≤ cap ∧ (a = none → cap = 0) ∧ n ≤ maxLen ∧ cap ≤ maxLen := by
  rcases Go.Deep.open_slice ht h with ⟨hcs, _⟩ | ⟨x, l, c', m, n, D, Pl, hcs, _, hl, hm, _⟩
  · simp at hcs
    exact ⟨none, 0, 0, hcs, Nat.le_refl _, fun _ => rfl, Nat.zero_le _, Nat.zero_le _⟩
  · simp at hcs
    exact ⟨some x, l, c', hcs, hl, (fun h => by cases h), Nat.le_trans hl hm, hm⟩
theorem list_ofF {α : Type} (n : Nat) (Q : Nat → α → Prop) (h : ∀ i, i < n → ∃ x, Q i x) : ∃ l : List α, l.length = n ∧ ∀ i x, l[i]? = some x → Q i x := by
  induction n with
  | zero => exact ⟨[], rfl, fun i x h => by simp at h⟩
  | succ n ih =>
    obtain ⟨l, h1, h2⟩ := ih (fun i hi => h i (by omega))
    obtain ⟨x, hx⟩ := h n (by omega)
    refine ⟨l ++ [x], by simp [h1], fun i y hy => ?_⟩
    rcases Nat.lt_or_ge i l.length with hi | hi
    · rw [List.getElem?_append_left hi] at hy; exact h2 i y hy
    · rw [List.getElem?_append_right hi] at hy
      have h0 : i - l.length = 0 := by have := (List.getElem?_eq_some_iff.1 hy).1; simpa using this
      rw [h0] at hy
      simp at hy
      subst hy
      obtain rfl : i = n := by omega
      exact hx
theorem frame_open {fuel : Nat} {cs : List Value} {y : DataW H × List MemPlace} (h : DataW.trod enc Try.prog w base (fun _ => true) held fuel 39 cs = some y) :
    ∃ (f : Fr) (a : Option Addr) (c : Nat), cs = frc (f, .slice a f.T.length c) ∧ FrA w f a c ∧ f.T.length ≤ c ∧ c ≤ 9223372036854775807 := by
  obtain ⟨hl, m, hf⟩ := field_read Try.underlying39 h
  rw [cellsFr] at hl
  obtain ⟨c0, c1, c2, c3, c4, c5, c6, rfl⟩ := len7F hl
  obtain ⟨y0, t0⟩ := hf 0 _ c0 rfl (by kernel_rfl) rfl
  obtain ⟨y1, t1⟩ := hf 1 _ c1 rfl (by kernel_rfl) rfl
  obtain ⟨y2, t2⟩ := hf 2 _ c2 rfl (by kernel_rfl) rfl
  obtain ⟨y3, t3⟩ := hf 3 _ c3 rfl (by kernel_rfl) rfl
  obtain ⟨y4, t4⟩ := hf 4 _ c4 rfl (by kernel_rfl) rfl
  obtain ⟨y5, t5⟩ := hf 5 _ c5 rfl (by kernel_rfl) rfl
  obtain ⟨y6, t6⟩ := hf 6 _ c6 rfl (by kernel_rfl) rfl
  obtain ⟨a0, k0, _, _⟩ := DataW.trod_int Try.underlying3 t0
  obtain ⟨a1, k1, _, _⟩ := DataW.trod_int Try.underlying3 t1
  obtain ⟨a2, k2, _, _⟩ := DataW.trod_int Try.underlying3 t2
  obtain ⟨a3, k3, _, _⟩ := DataW.trod_int Try.underlying3 t3
  obtain ⟨a4, k4, _, _⟩ := DataW.trod_int Try.underlying3 t4
  obtain ⟨a5, k5, _, _⟩ := DataW.trod_int Try.underlying3 t5
  obtain ⟨ae, n, ce, E, rfl, f1, f2, f3, f4, f5, -⟩ := row_read Try.underlying37 Try.underlying3 cellsIf t6
  simp at k0 k1 k2 k3 k4 k5
  subst k0 k1 k2 k3 k4 k5 f3
  unfold maxLen at f2
  exact ⟨⟨a0, a1, a2, a3, a4, a5, E⟩, ae, ce, rfl, ⟨f4, f5, by unfold maxLen; dsimp only; omega⟩, f1, by omega⟩
theorem frames_open {fuel : Nat} {c : Value} {y : DataW H × List MemPlace} (h : DataW.trod enc Try.prog w base (fun _ => true) held fuel 22 [c] = some y) :
    ∃ a cap L, c = .slice a L.length cap ∧ L.length ≤ cap ∧ (a = none → cap = 0) ∧ LRow w a L ∧ cap ≤ 9223372036854775807 := by
  obtain ⟨a, n, cap, rfl, hc, hz, _, hmx⟩ := slice_formF Try.underlying22 h
  unfold maxLen at hmx
  rcases structs_read Try.underlying22 (by rw [cellsFr]; omega) h with h0 | ⟨b, off, m, rfl, hbl, hlc, hcm, hel⟩
  · subst h0
    exact ⟨a, cap, [], rfl, hc, hz, ⟨.inl rfl, fun p hp => by cases hp⟩, by omega⟩
  · rw [cellsFr] at hel
    obtain ⟨N, hN, hQ⟩ := list_ofF n (fun i (x : Fr × Value) => (∀ j, j < 7 → w.cell? ⟨b, off + i * 7 + j, none⟩ = (frc x)[j]?) ∧ ∃ ap cp, x.2 = .slice ap x.1.T.length cp ∧ FrA w x.1 ap cp ∧ x.1.T.length ≤ cp ∧ cp ≤ 9223372036854775807) (fun i hi => by
      obtain ⟨cs, z, _, hcell, ht⟩ := hel i hi
      obtain ⟨f, ap, cp, rfl, h1, h2, h3⟩ := frame_open ht
      exact ⟨(f, .slice ap f.T.length cp), hcell, ap, cp, rfl, h1, h2, h3⟩)
    subst hN
    refine ⟨some ⟨b, off, none⟩, cap, N, rfl, hc, hz, ⟨.inr ⟨b, off, rfl, hbl, fun i x hx => (hQ i x hx).1⟩, fun p hp => ?_⟩, by omega⟩
    obtain ⟨i, hi⟩ := List.getElem?_of_mem hp
    exact (hQ i p hi).2
end Go.Proofs.Ytcmkdkocponpiaa
