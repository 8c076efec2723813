import Derived.Test.YtdpkmkhflgmioaaPart02
import Derived.Test.YtdpkmkhflgmioaaRows
import Derived.Lib.Mul64

/- Sizes that saturate: le.Plus and le.Times (stage 1's texts A and C). -/
namespace Go.Proofs.Ytdpkmkhflgmioaa
open Go.RowKit
set_option linter.unusedVariables false

/-- What a number counts as. -/
def sz (n : Int) : Int := if n < 0 then 0 else if n ≤ 4611686018427387904 then n else 4611686018427387904
theorem sz_bd (n : Int) : 0 ≤ sz n ∧ sz n ≤ 4611686018427387904 := by unfold sz; omega

theorem asSize_any (n : Int) (w : World) :
    Calls Try.prog 70 #[.int .i64 n] w fun e w' => e = .returned (.int .i64 (sz n)) ∧ w = w' := by
  go_enter Try.func70, Try.ntmps70
  go_wp2
  all_goals
    go_ret
    exact ⟨ret_int (by unfold sz; split at * <;> omega), rfl⟩

/-- The bare sum of what numbers count as. -/
def tot : List Int → Int
  | [] => 0
  | n :: r => sz n + tot r
theorem tot_nonneg (l : List Int) : 0 ≤ tot l := by
  induction l with
  | nil => simp [tot]
  | cons n r ih => have := sz_bd n; simp only [tot]; omega
theorem tot_append (l r : List Int) : tot (l ++ r) = tot l + tot r := by
  induction l with
  | nil => simp [tot]
  | cons n l ih => simp only [List.cons_append, tot, ih]; omega
theorem tot_take_succ (l : List Int) (k : Nat) (h : k < l.length) : tot (l.take (k + 1)) = tot (l.take k) + sz (l.getD k 0) := by
  rw [List.take_succ_eq_append_getElem h, tot_append]
  simp [tot, List.getD, h]
theorem tot_take_le (l : List Int) (k : Nat) : tot (l.take k) ≤ tot l := by
  have h : tot (l.take k ++ l.drop k) = tot l := by rw [List.take_append_drop]
  rw [tot_append] at h
  have := tot_nonneg (l.drop k)
  omega
/-- At most Huge. -/
def capH (n : Int) : Int := if n ≤ 4611686018427387904 then n else 4611686018427387904

/-- A row of ints in memory. -/
def RowI (w : World) (a : Option Addr) (l : List Int) : Prop :=
  l = [] ∨ ∃ b off, a = some ⟨b, off, none⟩ ∧ ∀ i, i < l.length → w.cell? ⟨b, off + i, none⟩ = some (.int .i64 (l.getD i 0))

set_option maxHeartbeats 400000 in
theorem plus_any (a : Option Addr) (len cap : Nat) (l : List Int) (w : World) (hl : len ≤ maxLen) (hlen : l.length = len) (hrow : RowI w a l) :
    Calls Try.prog 46 #[.slice a len cap] w fun e w' => e = .returned (.int .i64 (capH (tot l))) ∧ w = w' := by
  unfold maxLen at hl
  rcases hrow with rfl | ⟨b, off, rfl, hc⟩
  · obtain rfl : len = 0 := by simpa using hlen.symm
    go_enter Try.func46, Try.ntmps46
    go_wp2
    go_loop [3, 9] (fun s i => i = .int .i64 0 ∧ s = .int .i64 0) (fun _ i => 1 - (intOf i).toNat)
    case atStart => exact ⟨rfl, rfl⟩
    case round =>
      obtain ⟨rfl, rfl⟩ := hrel
      go_wp2
      go_ret
      exact ⟨rfl, rfl⟩
  · have HL : Hid (l.length = len) := hlen
    clear hlen
    go_enter Try.func46, Try.ntmps46
    go_wp2
    go_loop [3, 9] (fun s i => ∃ k : Nat, k ≤ len ∧ i = .int .i64 k ∧ s = .int .i64 (tot (l.take k)) ∧ tot (l.take k) ≤ 4611686018427387904) (fun _ i => len - (intOf i).toNat)
    case atStart => exact ⟨0, Nat.zero_le _, rfl, rfl, by simp [tot]⟩
    case round =>
      obtain ⟨k, hk, rfl, rfl, hle⟩ := hrel
      have hge := tot_nonneg (l.take k)
      by_cases hlt : k < len
      · have hu := hc k (by have := HL.out; omega)
        have HT : Hid (tot (l.take (k + 1)) = tot (l.take k) + sz (l.getD k 0)) := tot_take_succ l k (by have := HL.out; omega)
        have HM := tot_take_le l (k + 1)
        have hsz := sz_bd (l.getD k 0)
        clear hc
        generalize tot (l.take k) = t at *
        generalize l.getD k 0 = n at *
        have hlt' : (k : Int) < len := by omega
        go_wp2_with (go_at_call 70; refine (asSize_any _ _).mono ?_; rintro e w' ⟨rfl, rfl⟩)
        · go_ret
          exact ⟨ret_int (by have := HT.out; unfold capH; split <;> omega), rfl⟩
        · go_round
          case rel => exact ⟨k + 1, by omega, by go_num, by rw [HT.out], by rw [HT.out]; omega⟩
          case measure => simp [intOf]; omega
      · clear hc
        go_wp2
        go_ret
        exact ⟨ret_int (by have := HL.out; rw [List.take_of_length_le (by omega)] at hle ⊢; unfold capH; rw [if_pos hle]), rfl⟩

/-! Mul64: the school method on halves: no step wraps. -/
theorem and32 (a : Nat) (h : a < 18446744073709551616) : bits .and .u64 (a : Int) 4294967295 = ((a % 4294967296 : Nat) : Int) := by
  have e := bits_and_u64_nat a 4294967295 h (by omega)
  rw [show a &&& 4294967295 = a % 4294967296 from Nat.and_two_pow_sub_one_eq_mod a 32] at e
  exact e
theorem wr64 (a : Nat) (h : a < 18446744073709551616) : IntKind.u64.wrap (a : Int) = (a : Int) := by rw [IntKind.wrap_u64]; omega
theorem lo64 (x y : Nat) : IntKind.u64.wrap ((x : Int) * y) = ((x * y % 18446744073709551616 : Nat) : Int) := by
  rw [← Int.natCast_mul, IntKind.wrap_u64]; omega
theorem hi64 (x y : Nat) (hx : x < 18446744073709551616) (hy : y < 18446744073709551616) :
    IntKind.u64.wrap (IntKind.u64.wrap (IntKind.u64.wrap ((x : Int) / 4294967296 * ((y : Int) / 4294967296)) +
        IntKind.u64.wrap (IntKind.u64.wrap ((x : Int) / 4294967296 * bits .and .u64 (y : Int) 4294967295) +
          IntKind.u64.wrap (bits .and .u64 (x : Int) 4294967295 * bits .and .u64 (y : Int) 4294967295) / 4294967296) / 4294967296) +
      IntKind.u64.wrap (bits .and .u64 (IntKind.u64.wrap (IntKind.u64.wrap ((x : Int) / 4294967296 * bits .and .u64 (y : Int) 4294967295) +
          IntKind.u64.wrap (bits .and .u64 (x : Int) 4294967295 * bits .and .u64 (y : Int) 4294967295) / 4294967296)) 4294967295 +
        IntKind.u64.wrap (bits .and .u64 (x : Int) 4294967295 * ((y : Int) / 4294967296))) / 4294967296)
      = ((x * y / 18446744073709551616 : Nat) : Int) := by
  obtain ⟨bd, bt, bw, hhi⟩ := Lib.mul64_hi x y hx hy
  have ba := Lib.half_mul_le (a := x / 4294967296) (b := y / 4294967296) (by omega) (by omega)
  have bb := Lib.half_mul_le (a := x / 4294967296) (b := y % 4294967296) (by omega) (by omega)
  have bc := Lib.half_mul_le (a := x % 4294967296) (b := y / 4294967296) (by omega) (by omega)
  rw [← hhi, and32 x hx, and32 y hy, show (x : Int) / 4294967296 = ((x / 4294967296 : Nat) : Int) from by omega, show (y : Int) / 4294967296 = ((y / 4294967296 : Nat) : Int) from by omega]
  rw [← Int.natCast_mul, ← Int.natCast_mul, ← Int.natCast_mul, ← Int.natCast_mul]
  clear hhi
  generalize x / 4294967296 * (y / 4294967296) = a at *
  generalize x / 4294967296 * (y % 4294967296) = b at *
  generalize x % 4294967296 * (y / 4294967296) = c at *
  generalize x % 4294967296 * (y % 4294967296) = d at *
  rw [wr64 d bd, wr64 b (by omega), wr64 c (by omega), wr64 a (by omega)]
  rw [show (b : Int) + (d : Int) / 4294967296 = ((b + d / 4294967296 : Nat) : Int) from by omega]
  rw [wr64 _ bt, and32 _ bt]
  rw [show (((b + d / 4294967296) % 4294967296 : Nat) : Int) + (c : Int) = (((b + d / 4294967296) % 4294967296 + c : Nat) : Int) from by omega, wr64 _ bw]
  rw [IntKind.wrap_u64, IntKind.wrap_u64]
  omega


set_option maxHeartbeats 1000000 in
theorem mul64_any (x y : Nat) (w : World) (hx : x < 18446744073709551616) (hy : y < 18446744073709551616) :
    Calls Try.prog 69 #[.int .u64 x, .int .u64 y] w fun e w' => e = .returned (.tuple #[.int .u64 ((x * y / 18446744073709551616 : Nat) : Int), .int .u64 ((x * y % 18446744073709551616 : Nat) : Int)]) ∧ w = w' := by
  go_enter Try.func69, Try.ntmps69
  go_wp2
  rw [hi64 x y hx hy, lo64 x y]
  go_ret2
  exact ⟨rfl, rfl⟩

theorem mul64_small (x y P : Nat) (w : World) (hx : x < 18446744073709551616) (hy : y < 18446744073709551616) (h : x * y = P) (hP : P < 18446744073709551616) :
    Calls Try.prog 69 #[.int .u64 x, .int .u64 y] w fun e w' => e = .returned (.tuple #[.int .u64 0, .int .u64 P]) ∧ w = w' := by
  refine (mul64_any x y w hx hy).mono ?_
  rintro e w' ⟨rfl, rfl⟩
  exact ⟨ret_two (by omega) (by omega), rfl⟩
theorem mul64_big (x y P : Nat) (w : World) (hx : x < 18446744073709551616) (hy : y < 18446744073709551616) (h : x * y = P) (hP : 18446744073709551616 ≤ P) :
    Calls Try.prog 69 #[.int .u64 x, .int .u64 y] w fun e w' => (∃ u v : Nat, 0 < u ∧ e = .returned (.tuple #[.int .u64 u, .int .u64 v])) ∧ w = w' := by
  refine (mul64_any x y w hx hy).mono ?_
  rintro e w' ⟨rfl, rfl⟩
  exact ⟨⟨_, _, by omega, rfl⟩, rfl⟩
theorem asSize_nat (n : Int) (x : Nat) (w : World) (h : Hid (sz n = (x : Int))) :
    Calls Try.prog 70 #[.int .i64 n] w fun e w' => e = .returned (.int .i64 x) ∧ w = w' := by
  rw [← h.out]
  exact asSize_any n w

set_option maxHeartbeats 400000 in
theorem times_any (a b : Int) (w : World) :
    Calls Try.prog 44 #[.int .i64 a, .int .i64 b] w fun e w' => e = .returned (.int .i64 (capH (sz a * sz b))) ∧ w = w' := by
  have ha := sz_bd a
  have hb := sz_bd b
  obtain ⟨x, hx⟩ := Int.eq_ofNat_of_zero_le ha.1
  obtain ⟨y, hy⟩ := Int.eq_ofNat_of_zero_le hb.1
  have hx1 : x ≤ 4611686018427387904 := by omega
  have hy1 : y ≤ 4611686018427387904 := by omega
  have HX : Hid (sz a = (x : Int)) := hx
  have HY : Hid (sz b = (y : Int)) := hy
  obtain ⟨P, hP⟩ : ∃ P, x * y = P := ⟨_, rfl⟩
  have e : sz a * sz b = (P : Int) := by rw [hx, hy, ← Int.natCast_mul, hP]
  have HP : Hid (x * y = P) := hP
  rw [e]
  clear hx hy hP e ha hb
  by_cases h1 : P ≤ 4611686018427387904
  · have HE : Hid (capH P = (P : Int)) := by show capH P = (P : Int); unfold capH; rw [if_pos (by omega)]
    go_enter Try.func44, Try.ntmps44
    go_wp2_with fail
    refine (asSize_nat _ _ _ HX).mono ?_; rintro e w' ⟨rfl, rfl⟩
    go_wp2_with fail
    refine (asSize_nat _ _ _ HY).mono ?_; rintro e w' ⟨rfl, rfl⟩
    go_wp2_with fail
    refine (mul64_small x y P _ (by omega) (by omega) HP.out (by omega)).mono ?_; rintro e w' ⟨rfl, rfl⟩
    go_wp2
    go_ret
    exact ⟨ret_int HE.out.symm, rfl⟩
  · have HE : Hid (capH P = 4611686018427387904) := by show capH P = _; unfold capH; rw [if_neg (by omega)]
    by_cases h2 : P < 18446744073709551616
    · have h3 : 4611686018427387904 < (P : Int) := by omega
      go_enter Try.func44, Try.ntmps44
      go_wp2_with fail
      refine (asSize_nat _ _ _ HX).mono ?_; rintro e w' ⟨rfl, rfl⟩
      go_wp2_with fail
      refine (asSize_nat _ _ _ HY).mono ?_; rintro e w' ⟨rfl, rfl⟩
      go_wp2_with fail
      refine (mul64_small x y P _ (by omega) (by omega) HP.out (by omega)).mono ?_; rintro e w' ⟨rfl, rfl⟩
      go_wp2
      go_ret
      exact ⟨ret_int HE.out.symm, rfl⟩
    · go_enter Try.func44, Try.ntmps44
      go_wp2_with fail
      refine (asSize_nat _ _ _ HX).mono ?_; rintro e w' ⟨rfl, rfl⟩
      go_wp2_with fail
      refine (asSize_nat _ _ _ HY).mono ?_; rintro e w' ⟨rfl, rfl⟩
      go_wp2_with fail
      refine (mul64_big x y P _ (by omega) (by omega) HP.out (by omega)).mono ?_; rintro e w' ⟨⟨u, v, hu, rfl⟩, rfl⟩
      have hne : ((u : Int) != 0) = true := by rw [bne_iff_ne]; omega
      go_wp2
      go_ret
      exact ⟨ret_int HE.out.symm, rfl⟩
end Go.Proofs.Ytdpkmkhflgmioaa
