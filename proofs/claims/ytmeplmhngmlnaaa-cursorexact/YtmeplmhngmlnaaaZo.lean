/- What the reading of a script says of memory. -/
import Derived.Test.YtmeplmhngmlnaaaF
import Derived.Test.YtmeplmhngmlnaaaRead
namespace Go.Proofs.Ytmeplmhngmlnaaa
open Go.ChangeShapes Go.WideShapes Go.ChangeAt Go.RowKit
set_option linter.unusedVariables false

/-- A call's fields. -/
structure OpF (w : World) (N : Int) (V : Nat) (a : Option Addr) (n cap : Nat) (l : List Int) : Prop where
  nc : n ≤ cap
  cm : cap ≤ maxLen
  N64 : N ≤ 9223372036854775807
  V64 : V < 18446744073709551616
  ll : l.length = n
  row : Row .u8 w a l
  nil : a = none → cap = 0
/-- Call number i of a script. -/
def OpR (w : World) (b off i : Nat) : Prop := ∃ (kind : Int) (wh : Bool) (N wd : Int) (V : Nat) (a : Option Addr) (n cap : Nat) (l : List Int),
  (w.cell? ⟨b, off + i * 6, none⟩ = some (.int .i64 kind) ∧ w.cell? ⟨b, off + i * 6 + 1, none⟩ = some (.bool wh) ∧ w.cell? ⟨b, off + i * 6 + 2, none⟩ = some (.int .i64 N) ∧ w.cell? ⟨b, off + i * 6 + 3, none⟩ = some (.int .i64 wd) ∧ w.cell? ⟨b, off + i * 6 + 4, none⟩ = some (.int .u64 V) ∧ w.cell? ⟨b, off + i * 6 + 5, none⟩ = some (.slice a n cap)) ∧ OpF w N V a n cap l

variable {H : Type} {enc : TypeId × Value → H} {w : World} {base : Nat} {held : Bool}
theorem len6 {cs : List Value} (h : cs.length = 6) : ∃ c0 c1 c2 c3 c4 c5, cs = [c0, c1, c2, c3, c4, c5] := by
  match cs, h with
  | [c0, c1, c2, c3, c4, c5], _ => exact ⟨c0, c1, c2, c3, c4, c5, rfl⟩
theorem cells53 : Try.prog.cellsOf 53 = 6 := by kernel_rfl
theorem cells3 : Try.prog.cellsOf 3 = 1 := by kernel_rfl
theorem cells4 : Try.prog.cellsOf 4 = 1 := by kernel_rfl
theorem cells23 : Try.prog.cellsOf 23 = 1 := by kernel_rfl
theorem cells30 : Try.prog.cellsOf 30 = 1 := by kernel_rfl
theorem cells5 : Try.prog.cellsOf 5 = 1 := by kernel_rfl

theorem op_open {fuel : Nat} {cs : List Value} {y : DataW H × List MemPlace} (h : DataW.trod enc Try.prog w base (fun _ => true) held fuel 53 cs = some y) :
    ∃ (kind : Int) (wh : Bool) (N wd : Int) (V : Nat) (a : Option Addr) (n cap : Nat) (l : List Int),
      cs = [.int .i64 kind, .bool wh, .int .i64 N, .int .i64 wd, .int .u64 V, .slice a n cap] ∧ OpF w N V a n cap l := by
  obtain ⟨hl, m, hf⟩ := field_read Try.underlying53 h
  rw [cells53] at hl
  obtain ⟨c0, c1, c2, c3, c4, c5, rfl⟩ := len6 hl
  obtain ⟨y0, t0⟩ := hf 0 _ c0 rfl cells3 rfl
  obtain ⟨y1, t1⟩ := hf 1 _ c1 rfl cells4 rfl
  obtain ⟨y2, t2⟩ := hf 2 _ c2 rfl cells3 rfl
  obtain ⟨y3, t3⟩ := hf 3 _ c3 rfl cells3 rfl
  obtain ⟨y4, t4⟩ := hf 4 _ c4 rfl cells23 rfl
  obtain ⟨y5, t5⟩ := hf 5 _ c5 rfl cells30 rfl
  obtain ⟨kind, k0, _, _⟩ := DataW.trod_int Try.underlying3 t0
  obtain ⟨wh, k1, _⟩ := DataW.trod_bool Try.underlying4 t1
  obtain ⟨N, k2, _, wN⟩ := DataW.trod_int Try.underlying3 t2
  obtain ⟨wd, k3, _, _⟩ := DataW.trod_int Try.underlying3 t3
  obtain ⟨V0, k4, _, wV⟩ := DataW.trod_int Try.underlying23 t4
  obtain ⟨a, n, cap, l, k5, hnc, hcm, hll, hrow, hnil, hwf⟩ := row_read Try.underlying30 Try.underlying5 cells5 t5
  have hN := bounds_i64 wN
  have hV := bounds_u64 wV
  obtain ⟨V, rfl⟩ := Int.eq_ofNat_of_zero_le hV.1
  simp at k0 k1 k2 k3 k4
  subst k0 k1 k2 k3 k4 k5
  exact ⟨kind, wh, N, wd, V, a, n, cap, l, rfl, ⟨hnc, hcm, hN.2, by have := hV.2; omega, hll, hrow, hnil⟩⟩
theorem ops_open {fuel : Nat} {a0 : Option Addr} {len cap : Nat} {y : DataW H × List MemPlace} (h : DataW.trod enc Try.prog w base (fun _ => true) held fuel 48 [.slice a0 len cap] = some y) :
    len ≤ maxLen ∧ ∀ i, i < len → ∃ b off, a0 = some ⟨b, off, none⟩ ∧ b < w.heap.size ∧ OpR w b off i := by
  rcases structs_read Try.underlying48 (by rw [cells53]; omega) h with rfl | ⟨b, off, n, rfl, hb, hlc, hcm, hel⟩
  · exact ⟨Nat.zero_le _, fun i hi => by omega⟩
  · refine ⟨Nat.le_trans hlc hcm, fun i hi => ⟨b, off, rfl, hb, ?_⟩⟩
    obtain ⟨cs, z, _, hcell, ht⟩ := hel i hi
    obtain ⟨kind, wh, N, wd, V, a, nn, cp, l, rfl, hF⟩ := op_open ht
    rw [cells53] at hcell
    refine ⟨kind, wh, N, wd, V, a, nn, cp, l, ⟨?_, ?_, ?_, ?_, ?_, ?_⟩, hF⟩
    · exact hcell 0 (by omega)
    · exact hcell 1 (by omega)
    · exact hcell 2 (by omega)
    · exact hcell 3 (by omega)
    · exact hcell 4 (by omega)
    · exact hcell 5 (by omega)
end Go.Proofs.Ytmeplmhngmlnaaa
