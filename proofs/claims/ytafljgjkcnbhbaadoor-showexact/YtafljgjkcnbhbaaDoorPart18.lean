import Derived.Test.YtafljgjkcnbhbaaDoorPart08
import Derived.Test.YtafljgjkcnbhbaaDoorPart15

/- What the reading of a source says of memory. -/
namespace Go.Proofs.YtafljgjkcnbhbaaDoor
open Go.ChangeShapes Go.WideShapes Go.ChangeAt Go.RowKit
set_option linter.unusedVariables false

variable {H : Type} {enc : TypeId × Value → H} {w : World} {base : Nat} {held : Bool}
theorem len7 {cs : List Value} (h : cs.length = 7) : ∃ c0 c1 c2 c3 c4 c5 c6, cs = [c0, c1, c2, c3, c4, c5, c6] := by
  match cs, h with
  | [c0, c1, c2, c3, c4, c5, c6], _ => exact ⟨c0, c1, c2, c3, c4, c5, c6, rfl⟩
theorem lenD {cs : List Value} (h : cs.length = 3) : ∃ c0 c1 c2, cs = [c0, c1, c2] := by
  match cs, h with
  | [c0, c1, c2], _ => exact ⟨c0, c1, c2, rfl⟩
theorem lenS {cs : List Value} (h : cs.length = 1) : ∃ c0, cs = [c0] := by
  match cs, h with
  | [c0], _ => exact ⟨c0, rfl⟩
theorem cellsEx : Tryd.prog.cellsOf 38 = 7 := by kernel_rfl
theorem cellsDf : Tryd.prog.cellsOf 41 = 3 := by kernel_rfl
theorem cellsSo : Tryd.prog.cellsOf 24 = 1 := by kernel_rfl
theorem bytesEx : Tryd.prog.bytesOf 38 = 72 := by kernel_rfl
theorem bytesDf : Tryd.prog.bytesOf 41 = 48 := by kernel_rfl
theorem expr_open {fuel : Nat} {cs : List Value} {y : DataW H × List MemPlace} (h : DataW.trod enc Tryd.prog w base (fun _ => true) held fuel 38 cs = some y) : ∃ x : Nd, cs = ndc x := by
  obtain ⟨hl, m, hf⟩ := field_read Tryd.underlying38 h
  rw [cellsEx] at hl
  obtain ⟨c0, c1, c2, c3, c4, c5, c6, rfl⟩ := len7 hl
  obtain ⟨y0, t0⟩ := hf 0 _ c0 rfl (by kernel_rfl) rfl
  obtain ⟨y1, t1⟩ := hf 1 _ c1 rfl (by kernel_rfl) rfl
  obtain ⟨y2, t2⟩ := hf 2 _ c2 rfl (by kernel_rfl) rfl
  obtain ⟨y3, t3⟩ := hf 3 _ c3 rfl (by kernel_rfl) rfl
  obtain ⟨y4, t4⟩ := hf 4 _ c4 rfl (by kernel_rfl) rfl
  obtain ⟨y5, t5⟩ := hf 5 _ c5 rfl (by kernel_rfl) rfl
  obtain ⟨y6, t6⟩ := hf 6 _ c6 rfl (by kernel_rfl) rfl
  obtain ⟨a0, k0, _, _⟩ := DataW.trod_int Tryd.underlying3 t0
  obtain ⟨a1, k1, _, _⟩ := DataW.trod_int Tryd.underlying3 t1
  obtain ⟨a2, k2, _, _⟩ := DataW.trod_string Tryd.underlying9 t2
  obtain ⟨a3, k3, _, _⟩ := DataW.trod_string Tryd.underlying9 t3
  obtain ⟨a4, k4, _, _⟩ := DataW.trod_int Tryd.underlying3 t4
  obtain ⟨a5, k5, _, _⟩ := DataW.trod_int Tryd.underlying3 t5
  obtain ⟨a6, k6, _, _⟩ := DataW.trod_int Tryd.underlying3 t6
  simp at k0 k1 k2 k3 k4 k5 k6
  subst k0 k1 k2 k3 k4 k5 k6
  exact ⟨⟨a0, a1, a2, a3, a4, a5, a6⟩, rfl⟩
theorem slice_weight {P : Program} {t e : TypeId} (ht : P.underlying t = some (.slice e)) {fuel : Nat} {a0 : Option Addr} {len cap : Nat} {y : DataW H × List MemPlace} (h : DataW.trod enc P w base (fun _ => true) held fuel t [.slice a0 len cap] = some y) : len = 0 ∨ ∃ k, len ≤ k ∧ k * P.bytesOf e ∈ y.1.weights P t := by
  rcases Go.Deep.open_slice ht h with ⟨hcs, _⟩ | ⟨x, l, c, m, n, D, Pl, hcs, _, hl, hm, hmm, hy, hel⟩
  · left
    simp at hcs
    exact hcs.2.1
  · simp at hcs
    obtain ⟨rfl, rfl, rfl⟩ := hcs
    right
    subst hy
    simp only [DataW.weights, ht]
    refine ⟨_, ?_, List.mem_cons_self⟩
    simp
theorem slice_form {P : Program} {t e : TypeId} (ht : P.underlying t = some (.slice e)) {fuel : Nat} {c : Value} {y : DataW H × List MemPlace} (h : DataW.trod enc P w base (fun _ => true) held fuel t [c] = some y) : ∃ a n cap, c = .slice a n cap ∧ n ≤ cap ∧ (a = none → cap = 0) ∧ n ≤ maxLen := by
  rcases Go.Deep.open_slice ht h with ⟨hcs, _⟩ | ⟨x, l, c', m, n, D, Pl, hcs, _, hl, hm, _⟩
  · simp at hcs
    exact ⟨none, 0, 0, hcs, Nat.le_refl _, fun _ => rfl, Nat.zero_le _⟩
  · simp at hcs
    exact ⟨some x, l, c', hcs, hl, (fun h => by cases h), Nat.le_trans hl hm⟩
theorem list_of {α : Type} (n : Nat) (Q : Nat → α → Prop) (h : ∀ i, i < n → ∃ x, Q i x) : ∃ l : List α, l.length = n ∧ ∀ i x, l[i]? = some x → Q i x := by
  induction n with
  | zero => exact ⟨[], rfl, fun i x h => by simp at h⟩
  | succ n ih =>
    obtain ⟨l, h1, h2⟩ := ih (fun i hi => h i (by omega))
    obtain ⟨x, hx⟩ := h n (by omega)
    refine ⟨l ++ [x], by simp [h1], fun i y hy => ?_⟩
    rcases Nat.lt_or_ge i l.length with hi | hi
    · rw [List.getElem?_append_left hi] at hy; exact h2 i y hy
    · rw [List.getElem?_append_right hi] at hy
      have h0 : i - l.length = 0 := by have := (List.getElem?_eq_some_iff.1 hy).1; simpa using this
      rw [h0] at hy
      simp at hy
      subst hy
      obtain rfl : i = n := by omega
      exact hx
theorem exprs_open {fuel : Nat} {c : Value} {y : DataW H × List MemPlace} (h : DataW.trod enc Tryd.prog w base (fun _ => true) held fuel 39 [c] = some y) (hw : ∀ k ∈ y.1.weights Tryd.prog 39, k ≤ 140737488351232) :
    ∃ a cap N, c = .slice a N.length cap ∧ N.length ≤ cap ∧ (a = none → cap = 0) ∧ NRow w a N ∧ N.length ≤ 1954687338267 := by
  obtain ⟨a, n, cap, rfl, hc, hz, _⟩ := slice_form Tryd.underlying39 h
  have hb : n ≤ 1954687338267 := by
    rcases slice_weight Tryd.underlying39 h with h0 | ⟨k, h1, h2⟩
    · omega
    · have := hw _ h2
      rw [bytesEx] at this
      omega
  rcases structs_read Tryd.underlying39 (by rw [cellsEx]; omega) h with h0 | ⟨b, off, m, rfl, hbl, hlc, hcm, hel⟩
  · subst h0
    exact ⟨a, cap, [], rfl, hc, hz, .inl rfl, by simp⟩
  · rw [cellsEx] at hel
    obtain ⟨N, hN, hQ⟩ := list_of n (fun i (x : Nd) => ∀ j, j < 7 → w.cell? ⟨b, off + i * 7 + j, none⟩ = (ndc x)[j]?) (fun i hi => by
      obtain ⟨cs, z, _, hcell, ht⟩ := hel i hi
      obtain ⟨x, rfl⟩ := expr_open ht
      exact ⟨x, hcell⟩)
    subst hN
    exact ⟨some ⟨b, off, none⟩, cap, N, rfl, hc, hz, .inr ⟨b, off, rfl, hbl, fun i x hx => hQ i x hx⟩, hb⟩
theorem def_open {fuel : Nat} {cs : List Value} {y : DataW H × List MemPlace} (h : DataW.trod enc Tryd.prog w base (fun _ => true) held fuel 41 cs = some y) (hw : ∀ k ∈ y.1.weights Tryd.prog 41, k ≤ 140737488351232) :
    ∃ (d : Df) (va : Option Addr) (vc : Nat), cs = dfc d (.slice va d.ty.length vc) ∧ d.ty.length ≤ vc ∧ (va = none → vc = 0) ∧ NRow w va d.ty ∧ d.ty.length ≤ 1954687338267 := by
  obtain ⟨hl, m, hf⟩ := field_weigh Tryd.underlying41 h
  rw [cellsDf] at hl
  obtain ⟨c0, c1, c2, rfl⟩ := lenD hl
  obtain ⟨y0, t0, _⟩ := hf 0 _ c0 rfl (by kernel_rfl) rfl
  obtain ⟨y1, t1, _⟩ := hf 1 _ c1 rfl (by kernel_rfl) rfl
  obtain ⟨y2, t2, u2⟩ := hf 2 _ c2 rfl (by kernel_rfl) rfl
  obtain ⟨a0, k0, _, _⟩ := DataW.trod_string Tryd.underlying9 t0
  obtain ⟨a1, k1, _, _⟩ := DataW.trod_int Tryd.underlying3 t1
  obtain ⟨va, vc, N, rfl, e1, e2, e3, e4⟩ := exprs_open t2 (fun k hk => hw k (u2 k hk))
  simp at k0 k1
  subst k0 k1
  exact ⟨⟨a0, a1, N⟩, va, vc, rfl, e1, e2, e3, e4⟩
theorem defs_open {fuel : Nat} {c : Value} {y : DataW H × List MemPlace} (h : DataW.trod enc Tryd.prog w base (fun _ => true) held fuel 22 [c] = some y) (hw : ∀ k ∈ y.1.weights Tryd.prog 22, k ≤ 140737488351232) :
    ∃ a cap D, c = .slice a D.length cap ∧ D.length ≤ cap ∧ DRow w a D ∧ Wt D := by
  obtain ⟨a, n, cap, rfl, hc, hz, _⟩ := slice_form Tryd.underlying22 h
  have hb : n ≤ 2932031007401 := by
    rcases slice_weight Tryd.underlying22 h with h0 | ⟨k, h1, h2⟩
    · omega
    · have := hw _ h2
      rw [bytesDf] at this
      omega
  rcases structs_weigh Tryd.underlying22 (by rw [cellsDf]; omega) h with h0 | ⟨b, off, m, rfl, hbl, hlc, hcm, hel⟩
  · subst h0
    exact ⟨a, cap, [], rfl, hc, .inl rfl, by simp, fun d hd => by cases hd⟩
  · rw [cellsDf] at hel
    obtain ⟨D, hD, hQ⟩ := list_of n (fun i (d : Df) => d.ty.length ≤ 1954687338267 ∧ ∃ va vc, (∀ j, j < 3 → w.cell? ⟨b, off + i * 3 + j, none⟩ = (dfc d (.slice va d.ty.length vc))[j]?) ∧ d.ty.length ≤ vc ∧ (va = none → vc = 0) ∧ NRow w va d.ty) (fun i hi => by
      obtain ⟨cs, z, _, hcell, ht, hz⟩ := hel i hi
      obtain ⟨d, va, vc, rfl, e1, e2, e3, e4⟩ := def_open ht (fun k hk => hw k (hz k hk))
      exact ⟨d, e4, va, vc, hcell, e1, e2, e3⟩)
    subst hD
    refine ⟨some ⟨b, off, none⟩, cap, D, rfl, hc, .inr ⟨b, off, rfl, hbl, fun i d hd => (hQ i d hd).2⟩, hb, fun d hd => ?_⟩
    obtain ⟨i, hi, rfl⟩ := List.getElem_of_mem hd
    exact (hQ i _ (List.getElem?_eq_getElem hi)).1
theorem source_open {fuel : Nat} {cs : List Value} {y : DataW H × List MemPlace} (h : DataW.trod enc Tryd.prog w base (fun _ => true) held fuel 24 cs = some y) (hw : ∀ k ∈ y.1.weights Tryd.prog 24, k ≤ 140737488351232) :
    ∃ a cap D, cs = [.slice a D.length cap] ∧ D.length ≤ cap ∧ DRow w a D ∧ Wt D := by
  obtain ⟨hl, m, hf⟩ := field_weigh Tryd.underlying24 h
  rw [cellsSo] at hl
  obtain ⟨c0, rfl⟩ := lenS hl
  obtain ⟨y0, t0, u0⟩ := hf 0 _ c0 rfl (by kernel_rfl) rfl
  obtain ⟨a, cap, D, rfl, e1, e2, e3⟩ := defs_open t0 (fun k hk => hw k (u0 k hk))
  exact ⟨a, cap, D, rfl, e1, e2, e3⟩
theorem Wt.lens {D : List Df} (h : Wt D) : Lens D := ⟨by have := h.1; omega, fun d hd => by have := h.2 d hd; omega⟩
end Go.Proofs.YtafljgjkcnbhbaaDoor
