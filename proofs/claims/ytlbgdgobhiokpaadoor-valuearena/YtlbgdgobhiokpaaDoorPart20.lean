import Derived.Test.YtlbgdgobhiokpaaDoorPart13
import Derived.Test.YtlbgdgobhiokpaaDoorPart19
import Derived.Test.YtlbgdgobhiokpaaDoorRows
import Derived.Test.YtlbgdgobhiokpaaDoorPart03
import Derived.WalkKit
import Derived.ProofKit
import Derived.OpenShut
import Derived.Deep.DeepHandedRow
import Derived.Lib.LaidTab
import Derived.Stop.LaidErr

/- What the reading of a slice of nodes says of memory. -/
namespace Go.Proofs.YtlbgdgobhiokpaaDoor
open Go.ChangeShapes Go.WideShapes Go.ChangeAt Go.RowKit
set_option linter.unusedVariables false

variable {H : Type} {enc : TypeId × Value → H} {w : World} {base : Nat} {held : Bool}
theorem len3 {cs : List Value} (h : cs.length = 3) : ∃ c0 c1 c2, cs = [c0, c1, c2] := by
  match cs, h with
  | [c0, c1, c2], _ => exact ⟨c0, c1, c2, rfl⟩
theorem cells37' : Tryd.prog.cellsOf 37 = 3 := by kernel_rfl
theorem node_open {fuel : Nat} {cs : List Value} {y : DataW H × List MemPlace} (h : DataW.trod enc Tryd.prog w base (fun _ => true) held fuel 37 cs = some y) :
    ∃ x : Nd, cs = [.int .i64 x.1, .int .u64 x.2.1, .int .i64 x.2.2] ∧ Fits x := by
  obtain ⟨hl, m, hf⟩ := field_read Tryd.underlying37 h
  rw [cells37'] at hl
  obtain ⟨c0, c1, c2, rfl⟩ := len3 hl
  obtain ⟨y0, t0⟩ := hf 0 _ c0 rfl (by kernel_rfl) rfl
  obtain ⟨y1, t1⟩ := hf 1 _ c1 rfl (by kernel_rfl) rfl
  obtain ⟨y2, t2⟩ := hf 2 _ c2 rfl (by kernel_rfl) rfl
  obtain ⟨k, k0, _, wk⟩ := DataW.trod_int Tryd.underlying3 t0
  obtain ⟨n, k1, _, wn⟩ := DataW.trod_int Tryd.underlying35 t1
  obtain ⟨c, k2, _, wc⟩ := DataW.trod_int Tryd.underlying3 t2
  simp at k0 k1 k2
  subst k0 k1 k2
  have b0 := bounds_i64 wk
  have b1 := bounds_u64 wn
  have b2 := bounds_i64 wc
  exact ⟨(k, n, c), rfl, b0, b1, b2⟩
theorem nodes_open {fuel : Nat} {a0 : Option Addr} {len cap : Nat} {y : DataW H × List MemPlace} (h : DataW.trod enc Tryd.prog w base (fun _ => true) held fuel 22 [.slice a0 len cap] = some y) :
    ∃ raw : List Nd, raw.length = len ∧ len ≤ maxLen ∧ NRaw w a0 raw ∧ ∀ x ∈ raw, Fits x := by
  rcases structs_read Tryd.underlying22 (by rw [cells37']; omega) h with h0 | ⟨b, off, n, rfl, hb, hlc, hcm, hel⟩
  · subst h0
    exact ⟨[], rfl, Nat.zero_le _, .inl rfl, fun x hx => by cases hx⟩
  · rw [cells37'] at hel
    have key : ∀ m, m ≤ len → ∃ raw : List Nd, raw.length = m ∧ (∀ i, i < m → w.cell? ⟨b, off + i * 3, none⟩ = some (.int .i64 (raw.getD i nil0).1) ∧ w.cell? ⟨b, off + i * 3 + 1, none⟩ = some (.int .u64 (raw.getD i nil0).2.1) ∧ w.cell? ⟨b, off + i * 3 + 2, none⟩ = some (.int .i64 (raw.getD i nil0).2.2)) ∧ ∀ x ∈ raw, Fits x := by
      intro m
      induction m with
      | zero => exact fun _ => ⟨[], rfl, fun i hi => by omega, fun x hx => by cases hx⟩
      | succ m ih =>
        intro hm
        obtain ⟨raw, h1, h2, h3⟩ := ih (by omega)
        obtain ⟨cs, z, _, hcell, ht⟩ := hel m (by omega)
        obtain ⟨x, rfl, hx⟩ := node_open ht
        refine ⟨raw ++ [x], by simp [h1], fun i hi => ?_, fun y hy => ?_⟩
        · by_cases hi2 : i < m
          · have e1 : (raw ++ [x]).getD i nil0 = raw.getD i nil0 := by simp [List.getD, List.getElem?_append_left (show i < raw.length by omega)]
            rw [e1]
            exact h2 i hi2
          · obtain rfl : i = m := by omega
            have e1 : (raw ++ [x]).getD i nil0 = x := by subst h1; simp [List.getD]
            rw [e1]
            exact ⟨hcell 0 (by omega), hcell 1 (by omega), hcell 2 (by omega)⟩
        · rcases List.mem_append.1 hy with hy | hy
          · exact h3 y hy
          · simp at hy; subst hy; exact hx
    obtain ⟨raw, h1, h2, h3⟩ := key len (Nat.le_refl _)
    exact ⟨raw, h1, Nat.le_trans hlc hcm, .inr (.inr ⟨b, off, rfl, hb, fun i hi => h2 i (by omega)⟩), h3⟩
end Go.Proofs.YtlbgdgobhiokpaaDoor

/- What the reading of a script for arenas says of memory. -/
namespace Go.Proofs.YtlbgdgobhiokpaaDoor
open Go.ChangeShapes Go.WideShapes Go.ChangeAt Go.RowKit
set_option linter.unusedVariables false

variable {H : Type} {enc : TypeId × Value → H} {w : World} {base : Nat} {held : Bool}
theorem len6 {cs : List Value} (h : cs.length = 6) : ∃ c0 c1 c2 c3 c4 c5, cs = [c0, c1, c2, c3, c4, c5] := by
  match cs, h with
  | [c0, c1, c2, c3, c4, c5], _ => exact ⟨c0, c1, c2, c3, c4, c5, rfl⟩
theorem cells72' : Tryd.prog.cellsOf 72 = 6 := by kernel_rfl
theorem step_open {fuel : Nat} {cs : List Value} {y : DataW H × List MemPlace} (h : DataW.trod enc Tryd.prog w base (fun _ => true) held fuel 72 cs = some y) : ∃ x : Stp, cs = stpC x ∧ FitsS x := by
  obtain ⟨hl, m, hf⟩ := field_read Tryd.underlying72 h
  rw [cells72'] at hl
  obtain ⟨c0, c1, c2, c3, c4, c5, rfl⟩ := len6 hl
  obtain ⟨y0, t0⟩ := hf 0 _ c0 rfl (by kernel_rfl) rfl
  obtain ⟨y1, t1⟩ := hf 1 _ c1 rfl (by kernel_rfl) rfl
  obtain ⟨y2, t2⟩ := hf 2 _ c2 rfl (by kernel_rfl) rfl
  obtain ⟨y3, t3⟩ := hf 3 _ c3 rfl (by kernel_rfl) rfl
  obtain ⟨y4, t4⟩ := hf 4 _ c4 rfl (by kernel_rfl) rfl
  obtain ⟨y5, t5⟩ := hf 5 _ c5 rfl (by kernel_rfl) rfl
  obtain ⟨wh, k0, _⟩ := DataW.trod_bool Tryd.underlying4 t0
  obtain ⟨lk, k1, _⟩ := DataW.trod_bool Tryd.underlying4 t1
  obtain ⟨p, k2, _, w2⟩ := DataW.trod_int Tryd.underlying3 t2
  obtain ⟨q, k3, _, w3⟩ := DataW.trod_int Tryd.underlying3 t3
  obtain ⟨kd, k4, _, w4⟩ := DataW.trod_int Tryd.underlying3 t4
  obtain ⟨n, k5, _, w5⟩ := DataW.trod_int Tryd.underlying35 t5
  simp at k0 k1 k2 k3 k4 k5
  subst k0 k1 k2 k3 k4 k5
  have b5 := bounds_u64 w5
  exact ⟨(wh, lk, p, q, kd, n), rfl, bounds_i64 w2, bounds_i64 w3, bounds_i64 w4, b5.1, b5.2⟩
theorem steps_open {fuel : Nat} {a0 : Option Addr} {len cap : Nat} {y : DataW H × List MemPlace} (h : DataW.trod enc Tryd.prog w base (fun _ => true) held fuel 59 [.slice a0 len cap] = some y) :
    ∃ raw : List Stp, raw.length = len ∧ len ≤ maxLen ∧ SRaw w a0 raw ∧ ∀ x ∈ raw, FitsS x := by
  rcases structs_read Tryd.underlying59 (by rw [cells72']; omega) h with h0 | ⟨b, off, n, rfl, hb, hlc, hcm, hel⟩
  · subst h0
    exact ⟨[], rfl, Nat.zero_le _, .inl rfl, fun x hx => by cases hx⟩
  · rw [cells72'] at hel
    have key : ∀ m, m ≤ len → ∃ raw : List Stp, raw.length = m ∧ (∀ i, i < m → ∀ j, j < 6 → w.cell? ⟨b, off + i * 6 + j, none⟩ = (stpC (raw.getD i stp0))[j]?) ∧ ∀ x ∈ raw, FitsS x := by
      intro m
      induction m with
      | zero => exact fun _ => ⟨[], rfl, fun i hi => by omega, fun x hx => by cases hx⟩
      | succ m ih =>
        intro hm
        obtain ⟨raw, h1, h2, h3⟩ := ih (by omega)
        obtain ⟨cs, z, _, hcell, ht⟩ := hel m (by omega)
        obtain ⟨x, rfl, hx⟩ := step_open ht
        refine ⟨raw ++ [x], by simp [h1], fun i hi j hj => ?_, fun y hy => ?_⟩
        · by_cases hi2 : i < m
          · have e1 : (raw ++ [x]).getD i stp0 = raw.getD i stp0 := by simp [List.getD, List.getElem?_append_left (show i < raw.length by omega)]
            rw [e1]
            exact h2 i hi2 j hj
          · obtain rfl : i = m := by omega
            have e1 : (raw ++ [x]).getD i stp0 = x := by subst h1; simp [List.getD]
            rw [e1]
            exact hcell j hj
        · rcases List.mem_append.1 hy with hy | hy
          · exact h3 y hy
          · simp at hy; subst hy; exact hx
    obtain ⟨raw, h1, h2, h3⟩ := key len (Nat.le_refl _)
    exact ⟨raw, h1, Nat.le_trans hlc hcm, .inr ⟨b, off, rfl, hb, fun i hi => h2 i (by omega)⟩, h3⟩
end Go.Proofs.YtlbgdgobhiokpaaDoor

/- What the rows' lists of laid variables give, and a world in which they hold. -/
namespace Go.Proofs.YtlbgdgobhiokpaaDoor
open Go.RowKit
set_option linter.unusedVariables false

theorem own : ownKnob Tryd.prog.godebug = none := by kernel_rfl
theorem laidOut : laidOutB Tryd.prog = true := by kernel_rfl
theorem gPow : Tryd.prog.globalNamed "internal/strconv.uint64pow10" = some 0 := by kernel_rfl
theorem gPowT : (Tryd.prog.globals[0]?).map (·.type) = some 154 := by kernel_rfl
theorem cells154 : Tryd.prog.cellsOf 154 = 20 := by kernel_rfl
theorem laid_pow : (Rows.laid_internal_strconv_uint64pow10 : DataW Unit) = Lib.tabData .u64 Lib.pow10Tab := by kernel_rfl
theorem tab_of {W : World} (h : laidMetH Tryd.prog Rows.valueWayRow.laid W) (hs : 1 ≤ W.heap.size) : Tab W.heap.size W := by
  have h1 : laidMet Tryd.prog Rows.valueWayRow.laid W := h
  have h2 : laidMet Tryd.prog [("internal/strconv.uint64pow10", Rows.laid_internal_strconv_uint64pow10)] W := laidMet.tail (laidMet.tail h1)
  rw [laid_pow] at h2
  refine ⟨Lib.tabIs_of_head (e := 35) gPow gPowT (by kernel_rfl) (by kernel_rfl) (by kernel_rfl) cells154 h2, fun g hg => ?_⟩
  obtain rfl := Option.some.inj (gPow.symm.trans hg)
  omega
theorem tab_size {W : World} (h : laidMetH Tryd.prog Rows.valueWayRow.laid W) : 1 ≤ W.heap.size := by
  have h1 : laidMet Tryd.prog Rows.valueWayRow.laid W := h
  have h2 : laidMet Tryd.prog [("internal/strconv.uint64pow10", Rows.laid_internal_strconv_uint64pow10)] W := laidMet.tail (laidMet.tail h1)
  rw [laid_pow] at h2
  have h3 := Lib.tabIs_of_head (e := 35) gPow gPowT (by kernel_rfl) (by kernel_rfl) (by kernel_rfl) cells154 h2
  have h4 := World.block_lt_of_cell? W _ (h3.cell gPow 0 (by decide))
  exact h4
/-- The settled world w, the three tables (blocks 0, 1, 2) holding what their initialisers lay. -/
def laidIn (w : World) : World :=
  { w with heap := ((w.heap.modify 0 fun
      | .cells _ t frozen => .cells (Lib.pow10Tab.map fun z => Value.int .u64 z).toArray t frozen
      | o => o).modify 1 fun
      | .cells _ t frozen => .cells #[.int .u8 0, .int .u8 1, .int .u8 28, .int .u8 2, .int .u8 29, .int .u8 14, .int .u8 24, .int .u8 3, .int .u8 30, .int .u8 22, .int .u8 20, .int .u8 15, .int .u8 25, .int .u8 17, .int .u8 4, .int .u8 8, .int .u8 31, .int .u8 27, .int .u8 13, .int .u8 23, .int .u8 21, .int .u8 19, .int .u8 16, .int .u8 7, .int .u8 26, .int .u8 12, .int .u8 18, .int .u8 6, .int .u8 11, .int .u8 5, .int .u8 10, .int .u8 9] t frozen
      | o => o).modify 2 fun
      | .cells _ t frozen => .cells #[.int .u8 0, .int .u8 1, .int .u8 56, .int .u8 2, .int .u8 57, .int .u8 49, .int .u8 28, .int .u8 3, .int .u8 61, .int .u8 58, .int .u8 42, .int .u8 50, .int .u8 38, .int .u8 29, .int .u8 17, .int .u8 4, .int .u8 62, .int .u8 47, .int .u8 59, .int .u8 36, .int .u8 45, .int .u8 43, .int .u8 51, .int .u8 22, .int .u8 53, .int .u8 39, .int .u8 33, .int .u8 30, .int .u8 24, .int .u8 18, .int .u8 12, .int .u8 5, .int .u8 63, .int .u8 55, .int .u8 48, .int .u8 27, .int .u8 60, .int .u8 41, .int .u8 37, .int .u8 16, .int .u8 46, .int .u8 35, .int .u8 44, .int .u8 21, .int .u8 52, .int .u8 32, .int .u8 23, .int .u8 11, .int .u8 54, .int .u8 26, .int .u8 40, .int .u8 15, .int .u8 34, .int .u8 20, .int .u8 31, .int .u8 10, .int .u8 25, .int .u8 14, .int .u8 19, .int .u8 9, .int .u8 13, .int .u8 8, .int .u8 7, .int .u8 6] t frozen
      | o => o }
end Go.Proofs.YtlbgdgobhiokpaaDoor
