import Derived.Test.YtcmkdkocponpiaaRows
import Derived.Test.YtcmkdkocponpiaaPart04
import Derived.Laws.BitsAllLaws
import Derived.Lib.EndianBits

/- Contracts of showsFault, group, isLast, num. -/
namespace Go.Proofs.Ytcmkdkocponpiaa
open Go.RowKit
set_option linter.unusedVariables false

theorem ret_bb {a b : Bool} (h : a = b) : Ending.returned (.bool a) = .returned (.bool b) := by rw [h]
theorem last_any (c : Int) (w : World) :
    Calls Try.prog 79 #[.int .u8 c] w fun e w' => e = .returned (.bool (decide (c < 128))) ∧ w = w' := by
  go_enter Try.func79, Try.ntmps79
  go_wp2
  all_goals
    go_ret
    exact ⟨rfl, rfl⟩
theorem fault_any (k : Nat) (c : Int) (w : World) (r : Bool) (hr : flt k c = r) :
    Calls Try.prog 77 #[.int .i64 k, .int .u8 c] w fun e w' => e = .returned (.bool r) ∧ w = w' := by
  subst hr
  by_cases h1 : 0 < k
  · have h1' : (0 : Int) < k := by omega
    by_cases h2 : c = 0
    · have e : flt k c = true := (flt_iff k c).2 (.inl ⟨h1, h2⟩)
      rw [e]
      subst h2
      go_enter Try.func77, Try.ntmps77
      go_wp2
      go_ret
      exact ⟨rfl, rfl⟩
    · by_cases h3 : k = 9
      · subst h3
        have e : flt 9 c = decide (1 < c) := by simp [flt, h2]
        rw [e]
        go_enter Try.func77, Try.ntmps77
        go_wp2
        go_ret
        exact ⟨ret_bb (by simp [h2]), rfl⟩
      · have h3' : ¬ (k : Int) = 9 := by omega
        have e : flt k c = false := (flt_no k c).2 ⟨by omega, by omega⟩
        rw [e]
        go_enter Try.func77, Try.ntmps77
        go_wp2
        go_ret
        exact ⟨ret_bb (by simp [h2]), rfl⟩
  · obtain rfl : k = 0 := by omega
    have e : flt 0 c = false := (flt_no 0 c).2 ⟨by omega, by omega⟩
    rw [e]
    go_enter Try.func77, Try.ntmps77
    go_wp2
    go_ret
    exact ⟨rfl, rfl⟩
theorem mask7 (c : Int) (h0 : 0 ≤ c) (h1 : c ≤ 255) : bits .andNot .u8 c 128 = c % 128 := by
  rw [u8_andNot c 128 h0 (by omega) (by omega) (by omega)]
  have e : c.toNat &&& (255 - (128 : Int).toNat) = c.toNat % 2 ^ 7 := Nat.and_two_pow_sub_one_eq_mod c.toNat 7
  rw [e]
  omega
theorem pow128i (k : Nat) : (2 : Int) ^ (7 * k) = 128 ^ k := by rw [Int.pow_mul]; rfl
theorem grp_lt (k : Nat) (c : Int) (hk : k ≤ 9) (hs : k = 9 → c % 128 ≤ 1) : c % 128 * 128 ^ k < 18446744073709551616 := by
  by_cases h9 : k = 9
  · subst h9
    have h5 : (128 : Int) ^ 9 = 9223372036854775808 := by decide
    have := hs rfl
    rw [h5]; omega
  · have h4 : (128 : Int) ^ k ≤ 128 ^ 8 := by
      have : (128 : Nat) ^ k ≤ 128 ^ 8 := Nat.pow_le_pow_right (by omega) (by omega)
      exact_mod_cast this
    have h5 : (128 : Int) ^ 8 = 72057594037927936 := by decide
    have h6 : (0 : Int) ≤ 128 ^ k := Int.pow_nonneg (by omega)
    have h7 : c % 128 * 128 ^ k ≤ 127 * 128 ^ k := Int.mul_le_mul_of_nonneg_right (by omega) h6
    omega
theorem group_any (k : Nat) (c : Int) (w : World) (hk : k ≤ 9) (h0 : 0 ≤ c) (h1 : c ≤ 255) (hs : k = 9 → c % 128 ≤ 1) :
    Calls Try.prog 78 #[.int .i64 k, .int .u8 c] w fun e w' => e = .returned (.int .u64 (c % 128 * 128 ^ k)) ∧ w = w' := by
  have hm := mask7 c h0 h1
  have hlt := grp_lt k c hk hs
  have hge : 0 ≤ c % 128 * 128 ^ k := Int.mul_nonneg (by omega) (Int.pow_nonneg (by omega))
  have hp := pow128i k
  go_enter Try.func78, Try.ntmps78
  go_wp2
  go_ret
  refine ⟨ret_int ?_, rfl⟩
  rw [hp, IntKind.wrap_u64]
  omega
theorem or_add (k : Nat) (v c : Int) (hk : k ≤ 9) (hv0 : 0 ≤ v) (hv : v < 128 ^ k) (hs : k = 9 → c % 128 ≤ 1) : bits .or .u64 v (c % 128 * 128 ^ k) = v + c % 128 * 128 ^ k := by
  have hlt := grp_lt k c hk hs
  have h4 : (128 : Int) ^ k ≤ 128 ^ 9 := by
    have : (128 : Nat) ^ k ≤ 128 ^ 9 := Nat.pow_le_pow_right (by omega) (by omega)
    exact_mod_cast this
  have h5 : (128 : Int) ^ 9 = 9223372036854775808 := by decide
  refine bits_join_low .u64 64 (by decide) wraps_u64 (7 * k) v _ hv0 (by rw [pow128i]; exact hv) (by omega) (Int.mul_nonneg (by omega) (Int.pow_nonneg (by omega))) ?_ (by omega)
  rw [pow128i, Int.mul_emod_left]
end Go.Proofs.Ytcmkdkocponpiaa
