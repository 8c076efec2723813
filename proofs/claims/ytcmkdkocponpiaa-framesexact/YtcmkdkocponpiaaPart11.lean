import Derived.Test.YtcmkdkocponpiaaRows
import Derived.Test.YtcmkdkocponpiaaPart04

/- Contracts of Len64 and Size. -/
namespace Go.Proofs.Ytcmkdkocponpiaa
open Go.RowKit
set_option linter.unusedVariables false

/-- The table's byte, and what the sum with it is. -/
theorem tab_sum (x y K : Int) (k : Nat) (hK : K = (k : Int)) (hk : k ≤ 56) (h0 : 0 ≤ y) (h1 : y ≤ 255) (h : y.toNat < Lib.len8tab.size) (hx : x.toNat < 18446744073709551616) (hy : y.toNat = x.toNat / 2 ^ k) (hb : 2 ^ k ≤ x.toNat) :
    wrap64 (K + wrap64 ((Lib.len8tab[y.toNat]'h).toNat : Int)) = (Lib.bitLen x.toNat : Int) := by
  have e1 := Lib.len8_of y h0 h1
  unfold Lib.len8 at e1
  rw [getElem?_pos Lib.len8tab y.toNat h] at e1
  simp only [Option.getD_some] at e1
  have e2 := Lib.bitLen_le8' y h0 h1
  have e3 := Lib.bitLen_shift k x.toNat hb hx
  rw [← hy] at e3
  rw [e1, e3, wrap64, wrap64]
  generalize Lib.bitLen y.toNat = q at *
  clear e3 hb hy h e1
  omega
theorem tab_one (x : Int) (h0 : 0 ≤ x) (h1 : x ≤ 255) (h : x.toNat < Lib.len8tab.size) : wrap64 (wrap64 ((Lib.len8tab[x.toNat]'h).toNat : Int)) = (Lib.bitLen x.toNat : Int) := by
  have e1 := Lib.len8_of x h0 h1
  unfold Lib.len8 at e1
  rw [getElem?_pos Lib.len8tab x.toNat h] at e1
  simp only [Option.getD_some] at e1
  have e2 := Lib.bitLen_le8' x h0 h1
  rw [e1, wrap64, wrap64]
  omega
theorem tab256 : (Lib.len8tab.size : Int) = 256 := by rw [Lib.len8tab_size]; rfl
set_option maxHeartbeats 4000000 in
set_option maxRecDepth 100000 in
theorem len64_any (x : Int) (w : World) (h0 : 0 ≤ x) (h1 : x < 18446744073709551616) :
    Calls Try.prog 69 #[.int .u64 x] w fun e w' => e = .returned (.int .i64 (Lib.bitLen x.toNat)) ∧ w = w' := by
  go_enter Try.func69, Try.ntmps69
  go_wp2
  all_goals first
    | (go_ret; refine ⟨ret_int ?_, rfl⟩)
    | (exfalso; have hs := tab256; omega)
  all_goals first
    | (refine tab_one x h0 ?_ _; omega)
    | (refine tab_sum x _ 8 8 rfl (by decide) ?_ ?_ _ (by omega) ?_ ?_ <;> omega)
    | (refine tab_sum x _ 16 16 rfl (by decide) ?_ ?_ _ (by omega) ?_ ?_ <;> omega)
    | (refine tab_sum x _ 24 24 rfl (by decide) ?_ ?_ _ (by omega) ?_ ?_ <;> omega)
    | (refine tab_sum x _ 32 32 rfl (by decide) ?_ ?_ _ (by omega) ?_ ?_ <;> omega)
    | (refine tab_sum x _ 40 40 rfl (by decide) ?_ ?_ _ (by omega) ?_ ?_ <;> omega)
    | (refine tab_sum x _ 48 48 rfl (by decide) ?_ ?_ _ (by omega) ?_ ?_ <;> omega)
    | (refine tab_sum x _ 56 56 rfl (by decide) ?_ ?_ _ (by omega) ?_ ?_ <;> omega)
theorem bitLen_64 (n : Nat) (h : n < 18446744073709551616) : Lib.bitLen n ≤ 64 := Lib.bitLen_le n 64 (by decide) h
theorem size_any (n : Nat) (w : World) (h : n < 18446744073709551616) :
    Calls Try.prog 47 #[.int .u64 n] w fun e w' => e = .returned (.int .i64 (szN n)) ∧ w = w' := by
  have hl := bitLen_64 n h
  go_enter Try.func47, Try.ntmps47
  go_wp2_with (go_at_call 69; refine (len64_any n _ (by omega) (by omega)).mono ?_; rintro e w' ⟨rfl, rfl⟩; rw [Int.toNat_natCast])
  all_goals
    go_ret
    refine ⟨ret_int ?_, rfl⟩
    unfold szN
    generalize Lib.bitLen n = q at *
    omega
end Go.Proofs.Ytcmkdkocponpiaa
