import Derived.Test.YtjamfbpdepahnaaGreatPart11
import Derived.Test.YtjamfbpdepahnaaGreatPart13
namespace Go.Proofs.YtjamfbpdepahnaaGreat
open Go.ChangeShapes Go.WideShapes Go.ChangeAt Go.RowKit
set_option linter.unusedVariables false
set_option linter.unusedSimpArgs false
variable {H : Type} {enc : TypeId × Value → H} {w : World} {base : Nat} {held : Bool}
theorem len3P {cs : List Value} (h : cs.length = 3) : ∃ c0 c1 c2, cs = [c0, c1, c2] := by
  match cs, h with
  | [c0, c1, c2], _ => exact ⟨c0, c1, c2, rfl⟩
theorem len4P {cs : List Value} (h : cs.length = 4) : ∃ c0 c1 c2 c3, cs = [c0, c1, c2, c3] := by
  match cs, h with
  | [c0, c1, c2, c3], _ => exact ⟨c0, c1, c2, c3, rfl⟩
theorem cellsIn : Tryz.prog.cellsOf 37 = 4 := by kernel_rfl
theorem cellsPg : Tryz.prog.cellsOf 25 = 3 := by kernel_rfl
theorem cellsIt : Tryz.prog.cellsOf 3 = 1 := by kernel_rfl
theorem bytesIn : Tryz.prog.bytesOf 37 = 32 := by kernel_rfl
theorem bytesIt : Tryz.prog.bytesOf 3 = 8 := by kernel_rfl
theorem slice_weightP {P : Program} {t e : TypeId} (ht : P.underlying t = some (.slice e)) {fuel : Nat} {a0 : Option Addr} {len cap : Nat} {y : DataW H × List MemPlace} (h : DataW.trod enc P w base (fun _ => true) held fuel t [.slice a0 len cap] = some y) : len = 0 ∨ ∃ k, len ≤ k ∧ k * P.bytesOf e ∈ y.1.weights P t := by
  rcases Go.Deep.open_slice ht h with ⟨hcs, _⟩ | ⟨x, l, c, m, n, D, Pl, hcs, _, hl, hm, hmm, hy, hel⟩
  · left
    simp at hcs
    exact hcs.2.1
  · simp at hcs
    obtain ⟨rfl, rfl, rfl⟩ := hcs
    right
    subst hy
    simp only [DataW.weights, ht]
    refine ⟨_, ?_, List.mem_cons_self⟩
    simp
theorem slice_formP {P : Program} {t e : TypeId} (ht : P.underlying t = some (.slice e)) {fuel : Nat} {c : Value} {y : DataW H × List MemPlace} (h : DataW.trod enc P w base (fun _ => true) held fuel t [c] = some y) : ∃ a n cap, c = .slice a n cap ∧ n ≤ cap ∧ (a = none → cap = 0) ∧ n ≤ maxLen ∧ cap ≤ maxLen := by
  rcases Go.Deep.open_slice ht h with ⟨hcs, _⟩ | ⟨x, l, c', m, n, D, Pl, hcs, _, hl, hm, _⟩
  · simp at hcs
    exact ⟨none, 0, 0, hcs, Nat.le_refl _, fun _ => rfl, Nat.zero_le _, Nat.zero_le _⟩
  · simp at hcs
    exact ⟨some x, l, c', hcs, hl, (fun h => by cases h), Nat.le_trans hl hm, hm⟩
theorem list_ofP {α : Type} (n : Nat) (Q : Nat → α → Prop) (h : ∀ i, i < n → ∃ x, Q i x) : ∃ l : List α, l.length = n ∧ ∀ i x, l[i]? = some x → Q i x := by
  induction n with
  | zero => exact ⟨[], rfl, fun i x h => by simp at h⟩
  | succ n ih =>
    obtain ⟨l, h1, h2⟩ := ih (fun i hi => h i (by omega))
    obtain ⟨x, hx⟩ := h n (by omega)
    refine ⟨l ++ [x], by simp [h1], fun i y hy => ?_⟩
    rcases Nat.lt_or_ge i l.length with hi | hi
    · rw [List.getElem?_append_left hi] at hy; exact h2 i y hy
    · rw [List.getElem?_append_right hi] at hy
      have h0 : i - l.length = 0 := by have := (List.getElem?_eq_some_iff.1 hy).1; simpa using this
      rw [h0] at hy
      simp at hy
      subst hy
      obtain rfl : i = n := by omega
      exact hx
theorem instr_open {fuel : Nat} {cs : List Value} {y : DataW H × List MemPlace} (h : DataW.trod enc Tryz.prog w base (fun _ => true) held fuel 37 cs = some y) : ∃ x : In, cs = inc x := by
  obtain ⟨hl, m, hf⟩ := field_read Tryz.underlying37 h
  rw [cellsIn] at hl
  obtain ⟨c0, c1, c2, c3, rfl⟩ := len4P hl
  obtain ⟨y0, t0⟩ := hf 0 _ c0 rfl (by kernel_rfl) rfl
  obtain ⟨y1, t1⟩ := hf 1 _ c1 rfl (by kernel_rfl) rfl
  obtain ⟨y2, t2⟩ := hf 2 _ c2 rfl (by kernel_rfl) rfl
  obtain ⟨y3, t3⟩ := hf 3 _ c3 rfl (by kernel_rfl) rfl
  obtain ⟨a0, k0, _, _⟩ := DataW.trod_int Tryz.underlying3 t0
  obtain ⟨a1, k1, _, _⟩ := DataW.trod_int Tryz.underlying3 t1
  obtain ⟨a2, k2, _, _⟩ := DataW.trod_int Tryz.underlying3 t2
  obtain ⟨a3, k3, _, _⟩ := DataW.trod_int Tryz.underlying3 t3
  simp at k0 k1 k2 k3
  subst k0 k1 k2 k3
  exact ⟨⟨a0, a1, a2, a3⟩, rfl⟩
theorem instrs_open {fuel : Nat} {c : Value} {y : DataW H × List MemPlace} (h : DataW.trod enc Tryz.prog w base (fun _ => true) held fuel 22 [c] = some y) (hw : ∀ k ∈ y.1.weights Tryz.prog 22, k ≤ 140737488351232) :
    ∃ a cap l, c = .slice a l.length cap ∧ l.length ≤ cap ∧ (a = none → cap = 0) ∧ IRow w a l ∧ l.length ≤ 4398046510976 ∧ cap ≤ 9223372036854775807 := by
  obtain ⟨a, n, cap, rfl, hc, hz, _, hmx⟩ := slice_formP Tryz.underlying22 h
  unfold maxLen at hmx
  have hb : n ≤ 4398046510976 := by
    rcases slice_weightP Tryz.underlying22 h with h0 | ⟨k, h1, h2⟩
    · omega
    · have := hw _ h2
      rw [bytesIn] at this
      omega
  rcases structs_read Tryz.underlying22 (by rw [cellsIn]; omega) h with h0 | ⟨b, off, m, rfl, hbl, hlc, hcm, hel⟩
  · subst h0
    exact ⟨a, cap, [], rfl, hc, hz, .inl rfl, by simp, by omega⟩
  · rw [cellsIn] at hel
    obtain ⟨N, hN, hQ⟩ := list_ofP n (fun i (x : In) => ∀ j, j < 4 → w.cell? ⟨b, off + i * 4 + j, none⟩ = (inc x)[j]?) (fun i hi => by
      obtain ⟨cs, z, _, hcell, ht⟩ := hel i hi
      obtain ⟨x, rfl⟩ := instr_open ht
      exact ⟨x, hcell⟩)
    subst hN
    exact ⟨some ⟨b, off, none⟩, cap, N, rfl, hc, hz, .inr ⟨b, off, rfl, hbl, fun i x hx => hQ i x hx⟩, hb, by omega⟩
theorem prog_open {fuel : Nat} {cs : List Value} {y : DataW H × List MemPlace} (h : DataW.trod enc Tryz.prog w base (fun _ => true) held fuel 25 cs = some y) (hw : ∀ k ∈ y.1.weights Tryz.prog 25, k ≤ 140737488351232) :
    ∃ en ac cc C ae ce E, cs = [.bool en, .slice ac C.length cc, .slice ae E.length ce] ∧ C.length ≤ cc ∧ (ac = none → cc = 0) ∧ IRow w ac C ∧ C.length ≤ 4398046510976 ∧ cc ≤ 9223372036854775807 ∧ E.length ≤ ce ∧ (ae = none → ce = 0) ∧ Row .i64 w ae E ∧ E.length ≤ 17592186043904 := by
  obtain ⟨hl, m, hf⟩ := field_weigh Tryz.underlying25 h
  rw [cellsPg] at hl
  obtain ⟨c0, c1, c2, rfl⟩ := len3P hl
  obtain ⟨y0, t0, u0⟩ := hf 0 _ c0 rfl (by kernel_rfl) rfl
  obtain ⟨y1, t1, u1⟩ := hf 1 _ c1 rfl (by kernel_rfl) rfl
  obtain ⟨y2, t2, u2⟩ := hf 2 _ c2 rfl (by kernel_rfl) rfl
  obtain ⟨en, k0, _⟩ := DataW.trod_bool Tryz.underlying4 t0
  obtain ⟨ac, cc, C, rfl, e1, e2, e3, e4, e5⟩ := instrs_open t1 (fun k hk => hw k (u1 k hk))
  obtain ⟨ae, n, ce, E, rfl, f1, f2, f3, f4, f5, -, f6⟩ := row_weigh Tryz.underlying23 Tryz.underlying3 cellsIt t2
  simp at k0
  subst k0 f3
  refine ⟨en, ac, cc, C, ae, ce, E, rfl, e1, e2, e3, e4, e5, f1, f5, f4, ?_⟩
  rcases f6 with h | h
  · omega
  · have := hw _ (u2 _ h)
    rw [bytesIt] at this
    omega
end Go.Proofs.YtjamfbpdepahnaaGreat
