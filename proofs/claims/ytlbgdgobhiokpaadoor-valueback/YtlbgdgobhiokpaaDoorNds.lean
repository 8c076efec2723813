/- What the reading of a slice of nodes says of memory. -/
import Derived.Test.YtlbgdgobhiokpaaDoorZk
import Derived.Test.YtlbgdgobhiokpaaDoorRead
namespace Go.Proofs.YtlbgdgobhiokpaaDoor
open Go.ChangeShapes Go.WideShapes Go.ChangeAt Go.RowKit
set_option linter.unusedVariables false

variable {H : Type} {enc : TypeId × Value → H} {w : World} {base : Nat} {held : Bool}
theorem len3 {cs : List Value} (h : cs.length = 3) : ∃ c0 c1 c2, cs = [c0, c1, c2] := by
  match cs, h with
  | [c0, c1, c2], _ => exact ⟨c0, c1, c2, rfl⟩
theorem cells37' : Tryd.prog.cellsOf 37 = 3 := by kernel_rfl
theorem node_open {fuel : Nat} {cs : List Value} {y : DataW H × List MemPlace} (h : DataW.trod enc Tryd.prog w base (fun _ => true) held fuel 37 cs = some y) :
    ∃ x : Nd, cs = [.int .i64 x.1, .int .u64 x.2.1, .int .i64 x.2.2] ∧ Fits x := by
  obtain ⟨hl, m, hf⟩ := field_read Tryd.underlying37 h
  rw [cells37'] at hl
  obtain ⟨c0, c1, c2, rfl⟩ := len3 hl
  obtain ⟨y0, t0⟩ := hf 0 _ c0 rfl (by kernel_rfl) rfl
  obtain ⟨y1, t1⟩ := hf 1 _ c1 rfl (by kernel_rfl) rfl
  obtain ⟨y2, t2⟩ := hf 2 _ c2 rfl (by kernel_rfl) rfl
  obtain ⟨k, k0, _, wk⟩ := DataW.trod_int Tryd.underlying3 t0
  obtain ⟨n, k1, _, wn⟩ := DataW.trod_int Tryd.underlying35 t1
  obtain ⟨c, k2, _, wc⟩ := DataW.trod_int Tryd.underlying3 t2
  simp at k0 k1 k2
  subst k0 k1 k2
  have b0 := bounds_i64 wk
  have b1 := bounds_u64 wn
  have b2 := bounds_i64 wc
  exact ⟨(k, n, c), rfl, b0, b1, b2⟩
theorem nodes_open {fuel : Nat} {a0 : Option Addr} {len cap : Nat} {y : DataW H × List MemPlace} (h : DataW.trod enc Tryd.prog w base (fun _ => true) held fuel 22 [.slice a0 len cap] = some y) :
    ∃ raw : List Nd, raw.length = len ∧ len ≤ maxLen ∧ NRaw w a0 raw ∧ ∀ x ∈ raw, Fits x := by
  rcases structs_read Tryd.underlying22 (by rw [cells37']; omega) h with h0 | ⟨b, off, n, rfl, hb, hlc, hcm, hel⟩
  · subst h0
    exact ⟨[], rfl, Nat.zero_le _, .inl rfl, fun x hx => by cases hx⟩
  · rw [cells37'] at hel
    have key : ∀ m, m ≤ len → ∃ raw : List Nd, raw.length = m ∧ (∀ i, i < m → w.cell? ⟨b, off + i * 3, none⟩ = some (.int .i64 (raw.getD i nil0).1) ∧ w.cell? ⟨b, off + i * 3 + 1, none⟩ = some (.int .u64 (raw.getD i nil0).2.1) ∧ w.cell? ⟨b, off + i * 3 + 2, none⟩ = some (.int .i64 (raw.getD i nil0).2.2)) ∧ ∀ x ∈ raw, Fits x := by
      intro m
      induction m with
      | zero => exact fun _ => ⟨[], rfl, fun i hi => by omega, fun x hx => by cases hx⟩
      | succ m ih =>
        intro hm
        obtain ⟨raw, h1, h2, h3⟩ := ih (by omega)
        obtain ⟨cs, z, _, hcell, ht⟩ := hel m (by omega)
        obtain ⟨x, rfl, hx⟩ := node_open ht
        refine ⟨raw ++ [x], by simp [h1], fun i hi => ?_, fun y hy => ?_⟩
        · by_cases hi2 : i < m
          · have e1 : (raw ++ [x]).getD i nil0 = raw.getD i nil0 := by simp [List.getD, List.getElem?_append_left (show i < raw.length by omega)]
            rw [e1]
            exact h2 i hi2
          · obtain rfl : i = m := by omega
            have e1 : (raw ++ [x]).getD i nil0 = x := by subst h1; simp [List.getD]
            rw [e1]
            exact ⟨hcell 0 (by omega), hcell 1 (by omega), hcell 2 (by omega)⟩
        · rcases List.mem_append.1 hy with hy | hy
          · exact h3 y hy
          · simp at hy; subst hy; exact hx
    obtain ⟨raw, h1, h2, h3⟩ := key len (Nat.le_refl _)
    exact ⟨raw, h1, Nat.le_trans hlc hcm, .inr (.inr ⟨b, off, rfl, hb, fun i hi => h2 i (by omega)⟩), h3⟩
end Go.Proofs.YtlbgdgobhiokpaaDoor
