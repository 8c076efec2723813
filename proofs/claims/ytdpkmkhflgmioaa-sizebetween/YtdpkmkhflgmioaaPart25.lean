import Derived.Test.YtdpkmkhflgmioaaPart08
import Derived.Test.YtdpkmkhflgmioaaPart11

/- What the reading of a schema says of memory. -/
namespace Go.Proofs.Ytdpkmkhflgmioaa
open Go.ChangeShapes Go.WideShapes Go.ChangeAt Go.RowKit
set_option linter.unusedVariables false

variable {H : Type} {enc : TypeId × Value → H} {w : World} {base : Nat} {held : Bool}
theorem len2R {cs : List Value} (h : cs.length = 2) : ∃ c0 c1, cs = [c0, c1] := by
  match cs, h with
  | [c0, c1], _ => exact ⟨c0, c1, rfl⟩
theorem len3R {cs : List Value} (h : cs.length = 3) : ∃ c0 c1 c2, cs = [c0, c1, c2] := by
  match cs, h with
  | [c0, c1, c2], _ => exact ⟨c0, c1, c2, rfl⟩
theorem len4R {cs : List Value} (h : cs.length = 4) : ∃ c0 c1 c2 c3, cs = [c0, c1, c2, c3] := by
  match cs, h with
  | [c0, c1, c2, c3], _ => exact ⟨c0, c1, c2, c3, rfl⟩
theorem cellsPt : Try.prog.cellsOf 64 = 3 := by kernel_rfl
theorem cellsTy : Try.prog.cellsOf 62 = 4 := by kernel_rfl
theorem cellsRt : Try.prog.cellsOf 70 = 2 := by kernel_rfl
theorem cellsSc : Try.prog.cellsOf 25 = 2 := by kernel_rfl
theorem bytesPt : Try.prog.bytesOf 64 = 32 := by kernel_rfl
theorem bytesTy : Try.prog.bytesOf 62 = 48 := by kernel_rfl
theorem bytesRt : Try.prog.bytesOf 70 = 24 := by kernel_rfl
theorem slice_weightR {P : Program} {t e : TypeId} (ht : P.underlying t = some (.slice e)) {fuel : Nat} {a0 : Option Addr} {len cap : Nat} {y : DataW H × List MemPlace} (h : DataW.trod enc P w base (fun _ => true) held fuel t [.slice a0 len cap] = some y) : len = 0 ∨ ∃ k, len ≤ k ∧ k * P.bytesOf e ∈ y.1.weights P t := by
  rcases Go.Deep.open_slice ht h with ⟨hcs, _⟩ | ⟨x, l, c, m, n, D, Pl, hcs, _, hl, hm, hmm, hy, hel⟩
  · left
    simp at hcs
    exact hcs.2.1
  · simp at hcs
    obtain ⟨rfl, rfl, rfl⟩ := hcs
    right
    subst hy
    simp only [DataW.weights, ht]
    refine ⟨_, ?_, List.mem_cons_self⟩
    simp
theorem slice_formR {P : Program} {t e : TypeId} (ht : P.underlying t = some (.slice e)) {fuel : Nat} {c : Value} {y : DataW H × List MemPlace} (h : DataW.trod enc P w base (fun _ => true) held fuel t [c] = some y) : ∃ a n cap, c = .slice a n cap ∧ n ≤ cap ∧ (a = none → cap = 0) ∧ n ≤ maxLen := by
  rcases Go.Deep.open_slice ht h with ⟨hcs, _⟩ | ⟨x, l, c', m, n, D, Pl, hcs, _, hl, hm, _⟩
  · simp at hcs
    exact ⟨none, 0, 0, hcs, Nat.le_refl _, fun _ => rfl, Nat.zero_le _⟩
  · simp at hcs
    exact ⟨some x, l, c', hcs, hl, (fun h => by cases h), Nat.le_trans hl hm⟩
theorem list_ofR {α : Type} (n : Nat) (Q : Nat → α → Prop) (h : ∀ i, i < n → ∃ x, Q i x) : ∃ l : List α, l.length = n ∧ ∀ i x, l[i]? = some x → Q i x := by
  induction n with
  | zero => exact ⟨[], rfl, fun i x h => by simp at h⟩
  | succ n ih =>
    obtain ⟨l, h1, h2⟩ := ih (fun i hi => h i (by omega))
    obtain ⟨x, hx⟩ := h n (by omega)
    refine ⟨l ++ [x], by simp [h1], fun i y hy => ?_⟩
    rcases Nat.lt_or_ge i l.length with hi | hi
    · rw [List.getElem?_append_left hi] at hy; exact h2 i y hy
    · rw [List.getElem?_append_right hi] at hy
      have h0 : i - l.length = 0 := by have := (List.getElem?_eq_some_iff.1 hy).1; simpa using this
      rw [h0] at hy
      simp at hy
      subst hy
      obtain rfl : i = n := by omega
      exact hx
theorem part_open {fuel : Nat} {cs : List Value} {y : DataW H × List MemPlace} (h : DataW.trod enc Try.prog w base (fun _ => true) held fuel 64 cs = some y) : ∃ x : Pt, cs = ptc x := by
  obtain ⟨hl, m, hf⟩ := field_read Try.underlying64 h
  rw [cellsPt] at hl
  obtain ⟨c0, c1, c2, rfl⟩ := len3R hl
  obtain ⟨y0, t0⟩ := hf 0 _ c0 rfl (by kernel_rfl) rfl
  obtain ⟨y1, t1⟩ := hf 1 _ c1 rfl (by kernel_rfl) rfl
  obtain ⟨y2, t2⟩ := hf 2 _ c2 rfl (by kernel_rfl) rfl
  obtain ⟨a0, k0, _, _⟩ := DataW.trod_string Try.underlying9 t0
  obtain ⟨a1, k1, _, _⟩ := DataW.trod_int Try.underlying3 t1
  obtain ⟨a2, k2, _, _⟩ := DataW.trod_int Try.underlying3 t2
  simp at k0 k1 k2
  subst k0 k1 k2
  exact ⟨⟨a0, a1, a2⟩, rfl⟩
theorem root_open {fuel : Nat} {cs : List Value} {y : DataW H × List MemPlace} (h : DataW.trod enc Try.prog w base (fun _ => true) held fuel 70 cs = some y) : ∃ x : Rt, cs = rtc x := by
  obtain ⟨hl, m, hf⟩ := field_read Try.underlying70 h
  rw [cellsRt] at hl
  obtain ⟨c0, c1, rfl⟩ := len2R hl
  obtain ⟨y0, t0⟩ := hf 0 _ c0 rfl (by kernel_rfl) rfl
  obtain ⟨y1, t1⟩ := hf 1 _ c1 rfl (by kernel_rfl) rfl
  obtain ⟨a0, k0, _, _⟩ := DataW.trod_string Try.underlying9 t0
  obtain ⟨a1, k1, _, _⟩ := DataW.trod_int Try.underlying3 t1
  simp at k0 k1
  subst k0 k1
  exact ⟨⟨a0, a1⟩, rfl⟩
theorem parts_open {fuel : Nat} {c : Value} {y : DataW H × List MemPlace} (h : DataW.trod enc Try.prog w base (fun _ => true) held fuel 60 [c] = some y) (hw : ∀ k ∈ y.1.weights Try.prog 60, k ≤ 140737488351232) :
    ∃ a cap l, c = .slice a l.length cap ∧ l.length ≤ cap ∧ (a = none → cap = 0) ∧ PRow w a l ∧ l.length ≤ 4398046510976 := by
  obtain ⟨a, n, cap, rfl, hc, hz, _⟩ := slice_formR Try.underlying60 h
  have hb : n ≤ 4398046510976 := by
    rcases slice_weightR Try.underlying60 h with h0 | ⟨k, h1, h2⟩
    · omega
    · have := hw _ h2
      rw [bytesPt] at this
      omega
  rcases structs_read Try.underlying60 (by rw [cellsPt]; omega) h with h0 | ⟨b, off, m, rfl, hbl, hlc, hcm, hel⟩
  · subst h0
    exact ⟨a, cap, [], rfl, hc, hz, .inl rfl, by simp⟩
  · rw [cellsPt] at hel
    obtain ⟨N, hN, hQ⟩ := list_ofR n (fun i (x : Pt) => ∀ j, j < 3 → w.cell? ⟨b, off + i * 3 + j, none⟩ = (ptc x)[j]?) (fun i hi => by
      obtain ⟨cs, z, _, hcell, ht⟩ := hel i hi
      obtain ⟨x, rfl⟩ := part_open ht
      exact ⟨x, hcell⟩)
    subst hN
    exact ⟨some ⟨b, off, none⟩, cap, N, rfl, hc, hz, .inr ⟨b, off, rfl, hbl, fun i x hx => hQ i x hx⟩, hb⟩
theorem roots_open {fuel : Nat} {c : Value} {y : DataW H × List MemPlace} (h : DataW.trod enc Try.prog w base (fun _ => true) held fuel 23 [c] = some y) (hw : ∀ k ∈ y.1.weights Try.prog 23, k ≤ 140737488351232) :
    ∃ a cap l, c = .slice a l.length cap ∧ l.length ≤ cap ∧ (a = none → cap = 0) ∧ RRow w a l ∧ l.length ≤ 5864062014634 := by
  obtain ⟨a, n, cap, rfl, hc, hz, _⟩ := slice_formR Try.underlying23 h
  have hb : n ≤ 5864062014634 := by
    rcases slice_weightR Try.underlying23 h with h0 | ⟨k, h1, h2⟩
    · omega
    · have := hw _ h2
      rw [bytesRt] at this
      omega
  rcases structs_read Try.underlying23 (by rw [cellsRt]; omega) h with h0 | ⟨b, off, m, rfl, hbl, hlc, hcm, hel⟩
  · subst h0
    exact ⟨a, cap, [], rfl, hc, hz, .inl rfl, by simp⟩
  · rw [cellsRt] at hel
    obtain ⟨N, hN, hQ⟩ := list_ofR n (fun i (x : Rt) => ∀ j, j < 2 → w.cell? ⟨b, off + i * 2 + j, none⟩ = (rtc x)[j]?) (fun i hi => by
      obtain ⟨cs, z, _, hcell, ht⟩ := hel i hi
      obtain ⟨x, rfl⟩ := root_open ht
      exact ⟨x, hcell⟩)
    subst hN
    exact ⟨some ⟨b, off, none⟩, cap, N, rfl, hc, hz, .inr ⟨b, off, rfl, hbl, fun i x hx => hQ i x hx⟩, hb⟩
/-- What may be copied. -/
def WtT (T : List Ty) : Prop := T.length ≤ 2932031007401 ∧ ∀ t ∈ T, t.ps.length ≤ 4398046510976
theorem WtT.lens {T : List Ty} (h : WtT T) : LensT T := ⟨by have := h.1; omega, fun t ht => by have := h.2 t ht; omega⟩
theorem type_open {fuel : Nat} {cs : List Value} {y : DataW H × List MemPlace} (h : DataW.trod enc Try.prog w base (fun _ => true) held fuel 62 cs = some y) (hw : ∀ k ∈ y.1.weights Try.prog 62, k ≤ 140737488351232) :
    ∃ (t : Ty) (va : Option Addr) (vc : Nat), cs = tyc t (.slice va t.ps.length vc) ∧ t.ps.length ≤ vc ∧ (va = none → vc = 0) ∧ PRow w va t.ps ∧ t.ps.length ≤ 4398046510976 := by
  obtain ⟨hl, m, hf⟩ := field_weigh Try.underlying62 h
  rw [cellsTy] at hl
  obtain ⟨c0, c1, c2, c3, rfl⟩ := len4R hl
  obtain ⟨y0, t0, _⟩ := hf 0 _ c0 rfl (by kernel_rfl) rfl
  obtain ⟨y1, t1, _⟩ := hf 1 _ c1 rfl (by kernel_rfl) rfl
  obtain ⟨y2, t2, _⟩ := hf 2 _ c2 rfl (by kernel_rfl) rfl
  obtain ⟨y3, t3, u3⟩ := hf 3 _ c3 rfl (by kernel_rfl) rfl
  obtain ⟨a0, k0, _, _⟩ := DataW.trod_int Try.underlying3 t0
  obtain ⟨a1, k1, _, _⟩ := DataW.trod_int Try.underlying3 t1
  obtain ⟨a2, k2, _, _⟩ := DataW.trod_int Try.underlying3 t2
  obtain ⟨va, vc, N, rfl, e1, e2, e3, e4⟩ := parts_open t3 (fun k hk => hw k (u3 k hk))
  simp at k0 k1 k2
  subst k0 k1 k2
  exact ⟨⟨a0, a1, a2, N⟩, va, vc, rfl, e1, e2, e3, e4⟩
theorem types_open {fuel : Nat} {c : Value} {y : DataW H × List MemPlace} (h : DataW.trod enc Try.prog w base (fun _ => true) held fuel 22 [c] = some y) (hw : ∀ k ∈ y.1.weights Try.prog 22, k ≤ 140737488351232) :
    ∃ a cap T, c = .slice a T.length cap ∧ T.length ≤ cap ∧ (a = none → cap = 0) ∧ TRow w a T ∧ WtT T := by
  obtain ⟨a, n, cap, rfl, hc, hz, _⟩ := slice_formR Try.underlying22 h
  have hb : n ≤ 2932031007401 := by
    rcases slice_weightR Try.underlying22 h with h0 | ⟨k, h1, h2⟩
    · omega
    · have := hw _ h2
      rw [bytesTy] at this
      omega
  rcases structs_weigh Try.underlying22 (by rw [cellsTy]; omega) h with h0 | ⟨b, off, m, rfl, hbl, hlc, hcm, hel⟩
  · subst h0
    exact ⟨a, cap, [], rfl, hc, hz, .inl rfl, by simp, fun d hd => by cases hd⟩
  · rw [cellsTy] at hel
    obtain ⟨D, hD, hQ⟩ := list_ofR n (fun i (d : Ty) => d.ps.length ≤ 4398046510976 ∧ ∃ va vc, (∀ j, j < 4 → w.cell? ⟨b, off + i * 4 + j, none⟩ = (tyc d (.slice va d.ps.length vc))[j]?) ∧ d.ps.length ≤ vc ∧ (va = none → vc = 0) ∧ PRow w va d.ps) (fun i hi => by
      obtain ⟨cs, z, _, hcell, ht, hzz⟩ := hel i hi
      obtain ⟨d, va, vc, rfl, e1, e2, e3, e4⟩ := type_open ht (fun k hk => hw k (hzz k hk))
      exact ⟨d, e4, va, vc, hcell, e1, e2, e3⟩)
    subst hD
    refine ⟨some ⟨b, off, none⟩, cap, D, rfl, hc, hz, .inr ⟨b, off, rfl, hbl, fun i d hd => (hQ i d hd).2⟩, hb, fun d hd => ?_⟩
    obtain ⟨i, hi, rfl⟩ := List.getElem_of_mem hd
    exact (hQ i _ (List.getElem?_eq_getElem hi)).1
theorem schema_open {fuel : Nat} {cs : List Value} {y : DataW H × List MemPlace} (h : DataW.trod enc Try.prog w base (fun _ => true) held fuel 25 cs = some y) (hw : ∀ k ∈ y.1.weights Try.prog 25, k ≤ 140737488351232) :
    ∃ a cap T ar cr R, cs = [.slice a T.length cap, .slice ar R.length cr] ∧ T.length ≤ cap ∧ (a = none → cap = 0) ∧ TRow w a T ∧ WtT T ∧ R.length ≤ cr ∧ (ar = none → cr = 0) ∧ RRow w ar R ∧ R.length ≤ 5864062014634 := by
  obtain ⟨hl, m, hf⟩ := field_weigh Try.underlying25 h
  rw [cellsSc] at hl
  obtain ⟨c0, c1, rfl⟩ := len2R hl
  obtain ⟨y0, t0, u0⟩ := hf 0 _ c0 rfl (by kernel_rfl) rfl
  obtain ⟨y1, t1, u1⟩ := hf 1 _ c1 rfl (by kernel_rfl) rfl
  obtain ⟨a, cap, T, rfl, e1, e2, e3, e4⟩ := types_open t0 (fun k hk => hw k (u0 k hk))
  obtain ⟨ar, cr, R, rfl, f1, f2, f3, f4⟩ := roots_open t1 (fun k hk => hw k (u1 k hk))
  exact ⟨a, cap, T, ar, cr, R, rfl, e1, e2, e3, e4, f1, f2, f3, f4⟩
end Go.Proofs.Ytdpkmkhflgmioaa
