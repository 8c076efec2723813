/- What the reading of a script says of memory. -/
import Derived.Test.YtgeabhnfkkkbgaaS
import Derived.Test.YtgeabhnfkkkbgaaWeigh
namespace Go.Proofs.Ytgeabhnfkkkbgaa
open Go.ChangeShapes Go.WideShapes Go.ChangeAt Go.RowKit
set_option linter.unusedVariables false

variable {H : Type} {enc : TypeId × Value → H} {w : World} {base : Nat} {held : Bool}

theorem len5 {cs : List Value} (h : cs.length = 5) : ∃ c0 c1 c2 c3 c4, cs = [c0, c1, c2, c3, c4] := by
  match cs, h with
  | [c0, c1, c2, c3, c4], _ => exact ⟨c0, c1, c2, c3, c4, rfl⟩
theorem cells52 : Try.prog.cellsOf 52 = 5 := by kernel_rfl
theorem cells3 : Try.prog.cellsOf 3 = 1 := by kernel_rfl
theorem cells4 : Try.prog.cellsOf 4 = 1 := by kernel_rfl
theorem cells22 : Try.prog.cellsOf 22 = 1 := by kernel_rfl
theorem cells23 : Try.prog.cellsOf 23 = 1 := by kernel_rfl
theorem cells5 : Try.prog.cellsOf 5 = 1 := by kernel_rfl
theorem bytesOf5 : Try.prog.bytesOf 5 = 1 := by kernel_rfl

theorem op_open {fuel : Nat} {cs : List Value} {y : DataW H × List MemPlace} (h : DataW.trod enc Try.prog w base (fun _ => true) held fuel 52 cs = some y) (hw : ∀ n ∈ y.1.weights Try.prog 52, n ≤ 140737488351232) :
    ∃ (kind : Int) (two : Bool) (N : Nat) (a : Option Addr) (n cap : Nat) (C : Int) (l : List Int),
      cs = [.int .i64 kind, .bool two, .int .u64 N, .slice a n cap, .int .u8 C] ∧ OpF w N a n cap C l := by
  obtain ⟨hl, m, hf⟩ := field_weigh Try.underlying52 h
  rw [cells52] at hl
  obtain ⟨c0, c1, c2, c3, c4, rfl⟩ := len5 hl
  obtain ⟨y0, t0, _⟩ := hf 0 _ c0 rfl cells3 rfl
  obtain ⟨y1, t1, _⟩ := hf 1 _ c1 rfl cells4 rfl
  obtain ⟨y2, t2, _⟩ := hf 2 _ c2 rfl cells22 rfl
  obtain ⟨y3, t3, w3⟩ := hf 3 _ c3 rfl cells23 rfl
  obtain ⟨y4, t4, _⟩ := hf 4 _ c4 rfl cells5 rfl
  obtain ⟨kind, k0, _, _⟩ := DataW.trod_int Try.underlying3 t0
  obtain ⟨two, k1, _⟩ := DataW.trod_bool Try.underlying4 t1
  obtain ⟨N0, k2, _, wN⟩ := DataW.trod_int Try.underlying22 t2
  obtain ⟨a, n, cap, l, k3, hnc, hcm, hll, hrow, hnil, hwf, hwt⟩ := row_weigh Try.underlying23 Try.underlying5 cells5 t3
  obtain ⟨C, k4, _, wC⟩ := DataW.trod_int Try.underlying5 t4
  have hN := bounds_u64 wN
  have hC := bounds_u8 wC
  obtain ⟨N, rfl⟩ := Int.eq_ofNat_of_zero_le hN.1
  simp at k0 k1 k2 k4
  subst k0 k1 k2 k3 k4
  have hreach : cap ≤ 140737488351232 := by
    rcases hwt with rfl | hwt
    · omega
    · have := hw _ (w3 _ hwt)
      rw [bytesOf5] at this
      omega
  exact ⟨kind, two, N, a, n, cap, C, l, rfl, ⟨hnc, hreach, by omega, hll, hrow, hnil, fun x hx => bounds_u8 (hwf x hx), hC.1, hC.2⟩⟩
theorem ops_open {fuel : Nat} {a0 : Option Addr} {len cap : Nat} {y : DataW H × List MemPlace} (h : DataW.trod enc Try.prog w base (fun _ => true) held fuel 45 [.slice a0 len cap] = some y) (hw : ∀ n ∈ y.1.weights Try.prog 45, n ≤ 140737488351232) :
    len ≤ maxLen ∧ ∀ i, i < len → ∃ b off, a0 = some ⟨b, off, none⟩ ∧ b < w.heap.size ∧ OpR w b off i := by
  rcases structs_weigh Try.underlying45 (by rw [cells52]; omega) h with rfl | ⟨b, off, n, rfl, hb, hlc, hcm, hel⟩
  · exact ⟨Nat.zero_le _, fun i hi => by omega⟩
  · refine ⟨Nat.le_trans hlc hcm, fun i hi => ⟨b, off, rfl, hb, ?_⟩⟩
    obtain ⟨cs, z, _, hcell, ht, hz⟩ := hel i hi
    obtain ⟨kind, two, N, a, nn, cp, C, l, rfl, hF⟩ := op_open ht (fun k hk => hw k (hz k hk))
    rw [cells52] at hcell
    refine ⟨kind, two, N, a, nn, cp, C, l, ⟨?_, ?_, ?_, ?_, ?_⟩, hF⟩
    · exact hcell 0 (by omega)
    · exact hcell 1 (by omega)
    · exact hcell 2 (by omega)
    · exact hcell 3 (by omega)
    · exact hcell 4 (by omega)
end Go.Proofs.Ytgeabhnfkkkbgaa
