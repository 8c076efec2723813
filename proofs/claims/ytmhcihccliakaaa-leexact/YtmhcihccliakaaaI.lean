/- Contracts of the document's own functions (mortiseref01). -/
import Derived.Test.YtmhcihccliakaaaG
namespace Go.Proofs.Ytmhcihccliakaaa
open Go.RowKit
set_option linter.unusedVariables false

theorem rsize_any (n : Int) (w : World) :
    Calls Try.prog 28 #[.int .i64 n] w fun e w' => e = .returned (.int .i64 (sz n)) ∧ w = w' := by
  go_enter Try.func28, Try.ntmps28
  go_wp2
  all_goals
    go_ret
    exact ⟨ret_int (by unfold sz; split at * <;> (repeat' split) <;> omega), rfl⟩

theorem rfits_no (n width : Int) (w : World) (h : width < 1 ∨ 8 < width) :
    Calls Try.prog 19 #[.int .u64 n, .int .i64 width] w fun e w' => e = .returned (.bool false) ∧ w = w' := by
  by_cases h1 : width < 1
  · go_enter Try.func19, Try.ntmps19
    go_wp2
    go_ret
    exact ⟨rfl, rfl⟩
  · have h2 : 8 < width := by omega
    clear h
    go_enter Try.func19, Try.ntmps19
    go_wp2
    go_ret
    exact ⟨rfl, rfl⟩
theorem div_step (N k : Nat) : ((N / 2 ^ (8 * k) : Nat) : Int) / 256 = ((N / 2 ^ (8 * (k + 1)) : Nat) : Int) := by
  rw [show 8 * (k + 1) = 8 * k + 8 from by omega, Nat.pow_add, ← Nat.div_div_eq_div_mul]
  omega
theorem div_wrap (N k : Nat) (hN : N < 18446744073709551616) : IntKind.u64.wrap (((N / 2 ^ (8 * k) : Nat) : Int) / 256) = ((N / 2 ^ (8 * (k + 1)) : Nat) : Int) := by
  rw [div_step]
  have := Nat.div_le_self N (2 ^ (8 * (k + 1)))
  generalize N / 2 ^ (8 * (k + 1)) = u at *
  rw [IntKind.wrap_u64]; omega
theorem fitB_nat (N wd : Nat) : fitB (N : Int) (wd : Int) = (((N / 2 ^ (8 * wd) : Nat) : Int) == 0) := by
  unfold fitB
  rw [show (8 * (wd : Int)).toNat = 8 * wd from by omega, Int.natCast_ediv, Int.natCast_pow]
  rfl
set_option maxHeartbeats 400000 in
theorem rfits_in (N wd : Nat) (w : World) (hN : N < 18446744073709551616) (h1 : 1 ≤ wd) (h2 : wd ≤ 8) :
    Calls Try.prog 19 #[.int .u64 N, .int .i64 wd] w fun e w' => e = .returned (.bool (fitB N wd)) ∧ w = w' := by
  have g1 : ¬ (wd : Int) < 1 := by omega
  have g2 : ¬ 8 < (wd : Int) := by omega
  rw [fitB_nat]
  go_enter Try.func19, Try.ntmps19
  go_wp2
  go_loop [0, 5] (fun v i => ∃ k : Nat, k ≤ wd ∧ i = .int .i64 k ∧ v = .int .u64 ((N / 2 ^ (8 * k) : Nat) : Int)) (fun _ i => wd - (intOf i).toNat)
  case atStart => exact ⟨0, Nat.zero_le _, rfl, by simp⟩
  case round =>
    obtain ⟨k, hk, rfl, rfl⟩ := hrel
    by_cases hlt : k < wd
    · have HS : Hid (IntKind.u64.wrap (((N / 2 ^ (8 * k) : Nat) : Int) / 256) = ((N / 2 ^ (8 * (k + 1)) : Nat) : Int)) := div_wrap N k hN
      generalize N / 2 ^ (8 * k) = u at *
      go_wp2
      go_round
      case rel => exact ⟨k + 1, by omega, by go_num, by rw [← HS.out]⟩
      case measure => simp [intOf]; omega
    · go_wp2
      obtain rfl : k = wd := by omega
      go_ret
      exact ⟨rfl, rfl⟩

theorem rplace_no (n pos width : Int) (w : World) (hn : 0 ≤ n) (hn2 : n ≤ 1000000) (h1 : 1 ≤ width) (h2 : width ≤ 8) (h : pos < 0 ∨ n - width < pos) :
    Calls Try.prog 26 #[.int .i64 n, .int .i64 pos, .int .i64 width] w fun e w' => e = .returned (.bool false) ∧ w = w' := by
  by_cases h3 : pos < 0
  · have h3' : ¬ 0 ≤ pos := by omega
    clear h
    go_enter Try.func26, Try.ntmps26
    go_wp2
    go_ret
    exact ⟨rfl, rfl⟩
  · have h3' : 0 ≤ pos := by omega
    by_cases h4 : pos ≤ n
    · have h5 : ¬ width ≤ n - pos := by omega
      clear h
      go_enter Try.func26, Try.ntmps26
      go_wp2
      go_ret
      exact ⟨rfl, rfl⟩
    · clear h
      go_enter Try.func26, Try.ntmps26
      go_wp2
      go_ret
      exact ⟨rfl, rfl⟩
theorem rplace_ok (n pos width : Int) (w : World) (hn : 0 ≤ n) (hn2 : n ≤ 1000000) (h1 : 1 ≤ width) (h2 : width ≤ 8) (h3 : 0 ≤ pos) (h4 : pos ≤ n - width) :
    Calls Try.prog 26 #[.int .i64 n, .int .i64 pos, .int .i64 width] w fun e w' => e = .returned (.bool true) ∧ w = w' := by
  have h5 : pos ≤ n := by omega
  have h6 : width ≤ n - pos := by omega
  go_enter Try.func26, Try.ntmps26
  go_wp2
  go_ret
  exact ⟨rfl, rfl⟩

theorem rput_w (a : Option Addr) (len cap : Nat) (pos width n : Int) (w : World) (h : width < 1 ∨ 8 < width) :
    Calls Try.prog 21 #[.slice a len cap, .int .i64 pos, .int .i64 width, .int .u64 n] w fun e w' => e = .returned (.int .i64 10) ∧ w = w' := by
  by_cases h1 : width < 1
  · go_enter Try.func21, Try.ntmps21
    go_wp2
    go_ret
    exact ⟨rfl, rfl⟩
  · have h2 : 8 < width := by omega
    clear h
    go_enter Try.func21, Try.ntmps21
    go_wp2
    go_ret
    exact ⟨rfl, rfl⟩
theorem rput_no (a : Option Addr) (len cap : Nat) (pos width n : Int) (w : World) (h1 : 1 ≤ width) (h2 : width ≤ 8) (hl : len ≤ 1000000) (h : pos < 0 ∨ (len : Int) - width < pos) :
    Calls Try.prog 21 #[.slice a len cap, .int .i64 pos, .int .i64 width, .int .u64 n] w fun e w' => e = .returned (.int .i64 3) ∧ w = w' := by
  have g1 : ¬ width < 1 := by omega
  have g2 : ¬ 8 < width := by omega
  go_enter Try.func21, Try.ntmps21
  go_wp2_with (go_at_call 26; refine (rplace_no _ _ _ _ (by omega) (by omega) h1 h2 h).mono ?_; rintro e w' ⟨rfl, rfl⟩)
  go_ret
  exact ⟨rfl, rfl⟩
theorem rput_unfit (a : Option Addr) (len cap p wd N : Nat) (w : World) (hN : N < 18446744073709551616) (h1 : 1 ≤ wd) (h2 : wd ≤ 8) (hl : len ≤ 1000000) (h : p + wd ≤ len) (hf : fitB N wd = false) :
    Calls Try.prog 21 #[.slice a len cap, .int .i64 p, .int .i64 wd, .int .u64 N] w fun e w' => e = .returned (.int .i64 10) ∧ w = w' := by
  have g1 : ¬ (wd : Int) < 1 := by omega
  have g2 : ¬ 8 < (wd : Int) := by omega
  go_enter Try.func21, Try.ntmps21
  go_wp2_with (first | (go_at_call 26; refine (rplace_ok _ _ _ _ (by omega) (by omega) (by omega) (by omega) (by omega) (by omega)).mono ?_; rintro e w' ⟨rfl, rfl⟩) | (go_at_call 19; refine (rfits_in N wd _ hN h1 h2).mono ?_; rintro e w' ⟨rfl, rfl⟩))
  go_ret
  exact ⟨rfl, rfl⟩
theorem byte_step (N k : Nat) : ((N / 2 ^ (8 * k) : Nat) : Int) % 256 = byt N k := by
  rw [byt_nat]; unfold bytN; omega
set_option maxHeartbeats 400000 in
theorem rput_ok (b off len cap p wd N : Nat) (w : World) (hN : N < 18446744073709551616) (h1 : 1 ≤ wd) (h2 : wd ≤ 8) (hl : len ≤ 1000000) (h : p + wd ≤ len) (hf : fitB N wd = true)
    (hc : ∀ i, i < len → ∃ u, w.cell? ⟨b, off + i, none⟩ = some u) (hz : ∀ i, i < len → w.frozen? ⟨b, off + i, none⟩ = false) :
    Calls Try.prog 21 #[.slice (some ⟨b, off, none⟩) len cap, .int .i64 p, .int .i64 wd, .int .u64 N] w fun e w' => e = .returned (.int .i64 0) ∧ w' = putW w b (off + p) N wd := by
  have g1 : ¬ (wd : Int) < 1 := by omega
  have g2 : ¬ 8 < (wd : Int) := by omega
  go_enter Try.func21, Try.ntmps21
  go_wp2_with (first | (go_at_call 26; refine (rplace_ok _ _ _ _ (by omega) (by omega) (by omega) (by omega) (by omega) (by omega)).mono ?_; rintro e w' ⟨rfl, rfl⟩) | (go_at_call 19; refine (rfits_in N wd _ hN h1 h2).mono ?_; rintro e w' ⟨rfl, rfl⟩))
  go_loopw [3, 9] (fun v i wr => ∃ k : Nat, k ≤ wd ∧ i = .int .i64 k ∧ v = .int .u64 ((N / 2 ^ (8 * k) : Nat) : Int) ∧ wr = putW w b (off + p) N k) (fun _ i _ => wd - (intOf i).toNat)
  case atStart => exact ⟨0, Nat.zero_le _, rfl, by simp, rfl⟩
  case round =>
    obtain ⟨k, hk, rfl, rfl, rfl⟩ := hrel
    by_cases hlt : k < wd
    · obtain ⟨u, hu⟩ := hc (p + k) (by omega)
      have hu' : (putW w b (off + p) N k).cell? ⟨b, off + (p + k), none⟩ = some u := by
        rw [← Nat.add_assoc, putW_ge _ _ _ _ _ _ (Nat.le_refl _), Nat.add_assoc]; exact hu
      have hz' : (putW w b (off + p) N k).frozen? ⟨b, off + (p + k), none⟩ = false := by rw [putW_frozen]; exact hz _ (by omega)
      clear hc hz hu
      have HS : Hid (IntKind.u64.wrap (((N / 2 ^ (8 * k) : Nat) : Int) / 256) = ((N / 2 ^ (8 * (k + 1)) : Nat) : Int)) := div_wrap N k hN
      have HT : Hid (((N / 2 ^ (8 * k) : Nat) : Int) % 256 = byt N k) := byte_step N k
      generalize N / 2 ^ (8 * k) = v at *
      have hlt' : (k : Int) < wd := by omega
      have hidx : (p : Int) + k < len := by omega
      go_wp2
      go_roundw
      case rel => exact ⟨k + 1, by omega, by go_num, by rw [← HS.out], by rw [putW, Nat.add_assoc, ← HT.out]⟩
      case measure => simp [intOf]; omega
    · go_wp2
      obtain rfl : k = wd := by omega
      go_ret
      exact ⟨rfl, rfl⟩

theorem rget_w (a : Option Addr) (len cap : Nat) (pos width : Int) (w : World) (h : width < 1 ∨ 8 < width) :
    Calls Try.prog 23 #[.slice a len cap, .int .i64 pos, .int .i64 width] w fun e w' => e = .returned (.tuple #[.int .u64 0, .int .i64 10]) ∧ w = w' := by
  by_cases h1 : width < 1
  · go_enter Try.func23, Try.ntmps23
    go_wp2
    go_ret2
    exact ⟨rfl, rfl⟩
  · have h2 : 8 < width := by omega
    clear h
    go_enter Try.func23, Try.ntmps23
    go_wp2
    go_ret2
    exact ⟨rfl, rfl⟩
theorem rget_no (a : Option Addr) (len cap : Nat) (pos width : Int) (w : World) (h1 : 1 ≤ width) (h2 : width ≤ 8) (hl : len ≤ 1000000) (h : pos < 0 ∨ (len : Int) - width < pos) :
    Calls Try.prog 23 #[.slice a len cap, .int .i64 pos, .int .i64 width] w fun e w' => e = .returned (.tuple #[.int .u64 0, .int .i64 3]) ∧ w = w' := by
  have g1 : ¬ width < 1 := by omega
  have g2 : ¬ 8 < width := by omega
  go_enter Try.func23, Try.ntmps23
  go_wp2_with (go_at_call 26; refine (rplace_no _ _ _ _ (by omega) (by omega) h1 h2 h).mono ?_; rintro e w' ⟨rfl, rfl⟩)
  go_ret2
  exact ⟨rfl, rfl⟩
theorem getv_cons (f : Nat → Nat) (p k : Nat) : getv f p (k + 1) = getv f (p + 1) k * 256 + f p := by
  induction k with
  | zero => simp [getv]
  | succ k ih =>
    rw [getv, ih, getv, show p + 1 + k = p + (k + 1) from by omega, show 8 * (k + 1) = 8 * k + 8 from by omega, Nat.pow_add, Nat.add_mul, Nat.mul_assoc, show (2 : Nat) ^ 8 = 256 from rfl]
    omega
theorem get_step (f : Nat → Nat) (p wd j : Nat) (hj : j < wd) (h8 : wd ≤ 8) (hf : ∀ i, i < p + wd → f i < 256) :
    IntKind.u64.wrap (IntKind.u64.wrap (((getv f (p + (j + 1)) (wd - (j + 1)) : Nat) : Int) * 256) + ((f (p + j) : Nat) : Int)) = ((getv f (p + j) (wd - j) : Nat) : Int) := by
  have h1 := getv_lt f (p + j) (wd - j) (fun i hi => hf i (by omega))
  have h2 : 2 ^ (8 * (wd - j)) ≤ 2 ^ 64 := Nat.pow_le_pow_right (by omega) (by omega)
  have h3 := getv_cons f (p + j) (wd - (j + 1))
  rw [show wd - (j + 1) + 1 = wd - j from by omega, show p + j + 1 = p + (j + 1) from by omega] at h3
  rw [h3] at h1 ⊢
  generalize getv f (p + (j + 1)) (wd - (j + 1)) = u at *
  generalize f (p + j) = v at *
  rw [IntKind.wrap_u64, IntKind.wrap_u64]
  omega
set_option maxHeartbeats 400000 in
theorem rget_ok (b off len cap p wd : Nat) (f : Nat → Nat) (w : World) (h1 : 1 ≤ wd) (h2 : wd ≤ 8) (hl : len ≤ 1000000) (h : p + wd ≤ len)
    (hc : ∀ i, i < len → w.cell? ⟨b, off + i, none⟩ = some (.int .u8 ((f i : Nat) : Int))) (hb : ∀ i, i < len → f i < 256) :
    Calls Try.prog 23 #[.slice (some ⟨b, off, none⟩) len cap, .int .i64 p, .int .i64 wd] w fun e w' => e = .returned (.tuple #[.int .u64 (getv f p wd), .int .i64 0]) ∧ w = w' := by
  have g1 : ¬ (wd : Int) < 1 := by omega
  have g2 : ¬ 8 < (wd : Int) := by omega
  go_enter Try.func23, Try.ntmps23
  go_wp2_with (go_at_call 26; refine (rplace_ok _ _ _ _ (by omega) (by omega) (by omega) (by omega) (by omega) (by omega)).mono ?_; rintro e w' ⟨rfl, rfl⟩)
  go_loop [8, 9] (fun v i => ∃ j : Nat, j ≤ wd ∧ i = .int .i64 ((j : Int) - 1) ∧ v = .int .u64 (getv f (p + j) (wd - j))) (fun _ i => (intOf i + 1).toNat)
  case atStart => exact ⟨wd, Nat.le_refl _, rfl, by rw [Nat.sub_self]; rfl⟩
  case round =>
    obtain ⟨j, hj, rfl, rfl⟩ := hrel
    cases j with
    | zero =>
      go_wp2
      go_ret2
      exact ⟨rfl, rfl⟩
    | succ j =>
      rw [show (((j + 1 : Nat) : Int) - 1) = (j : Int) from by omega]
      have hu := hc (p + j) (by omega)
      have HS : Hid (IntKind.u64.wrap (IntKind.u64.wrap (((getv f (p + (j + 1)) (wd - (j + 1)) : Nat) : Int) * 256) + ((f (p + j) : Nat) : Int)) = ((getv f (p + j) (wd - j) : Nat) : Int)) := get_step f p wd j (by omega) h2 (fun i hi => hb i (by omega))
      have hv := hb (p + j) (by omega)
      clear hc hb
      generalize getv f (p + (j + 1)) (wd - (j + 1)) = v at *
      generalize f (p + j) = x at *
      have hidx : (p : Int) + j < len := by omega
      go_wp2
      go_round
      case rel => exact ⟨j, by omega, rfl, by rw [← HS.out]⟩
      case measure => simp [intOf]

set_option maxHeartbeats 400000 in
theorem rtimes_any (a b : Int) (w : World) :
    Calls Try.prog 25 #[.int .i64 a, .int .i64 b] w fun e w' => e = .returned (.int .i64 (capH (sz a * sz b))) ∧ w = w' := by
  have ha := sz_bd a
  have hb := sz_bd b
  generalize hX : sz a = X at *
  generalize hY : sz b = Y at *
  have c1 : ∀ w0, Calls Try.prog 28 #[.int .i64 a] w0 fun e w' => e = .returned (.int .i64 X) ∧ w0 = w' := by rw [← hX]; exact rsize_any a
  have c2 : ∀ w0, Calls Try.prog 28 #[.int .i64 b] w0 fun e w' => e = .returned (.int .i64 Y) ∧ w0 = w' := by rw [← hY]; exact rsize_any b
  have C1 : Hid (∀ w0, Calls Try.prog 28 #[.int .i64 a] w0 fun e w' => e = .returned (.int .i64 X) ∧ w0 = w') := c1
  have C2 : Hid (∀ w0, Calls Try.prog 28 #[.int .i64 b] w0 fun e w' => e = .returned (.int .i64 Y) ∧ w0 = w') := c2
  clear hX hY c1 c2
  by_cases hx0 : X = 0
  · subst hx0
    go_enter Try.func25, Try.ntmps25
    go_wp2_with fail
    refine (C1.out _).mono ?_; rintro e w' ⟨rfl, rfl⟩
    go_wp2_with fail
    refine (C2.out _).mono ?_; rintro e w' ⟨rfl, rfl⟩
    go_wp2
    go_ret
    exact ⟨ret_int (by rw [Int.zero_mul]; rfl), rfl⟩
  · have hxb : (X == 0) = false := by simp [hx0]
    by_cases hy0 : Y = 0
    · subst hy0
      go_enter Try.func25, Try.ntmps25
      go_wp2_with fail
      refine (C1.out _).mono ?_; rintro e w' ⟨rfl, rfl⟩
      go_wp2_with fail
      refine (C2.out _).mono ?_; rintro e w' ⟨rfl, rfl⟩
      go_wp2
      go_ret
      exact ⟨ret_int (by rw [Int.mul_zero]; rfl), rfl⟩
    · have hyb : (Y == 0) = false := by simp [hy0]
      have hq : X * Y ≤ 4611686018427387904 ↔ X ≤ 4611686018427387904 / Y := by
        rw [Int.le_ediv_iff_mul_le (by omega)]
      have hnn : 0 ≤ X * Y := Int.mul_nonneg ha.1 hb.1
      by_cases hle : X * Y ≤ 4611686018427387904
      · have h3 : ¬ 4611686018427387904 / Y < X := by have := hq.1 hle; omega
        clear hq hx0
        go_enter Try.func25, Try.ntmps25
        go_wp2_with fail
        refine (C1.out _).mono ?_; rintro e w' ⟨rfl, rfl⟩
        go_wp2_with fail
        refine (C2.out _).mono ?_; rintro e w' ⟨rfl, rfl⟩
        go_wp2
        go_ret
        exact ⟨ret_int (by unfold capH; rw [if_pos (by omega)]), rfl⟩
      · have h3 : 4611686018427387904 / Y < X := by
          rcases Int.lt_or_le (4611686018427387904 / Y) X with h | h
          · exact h
          · exact absurd (hq.2 h) hle
        clear hq hx0
        go_enter Try.func25, Try.ntmps25
        go_wp2_with fail
        refine (C1.out _).mono ?_; rintro e w' ⟨rfl, rfl⟩
        go_wp2_with fail
        refine (C2.out _).mono ?_; rintro e w' ⟨rfl, rfl⟩
        go_wp2
        go_ret
        exact ⟨ret_int (by unfold capH; rw [if_neg (by omega)]), rfl⟩

set_option maxHeartbeats 400000 in
theorem rplus_any (a : Option Addr) (len cap : Nat) (l : List Int) (w : World) (hl : len ≤ maxLen) (hlen : l.length = len) (hrow : RowI w a l) :
    Calls Try.prog 27 #[.slice a len cap] w fun e w' => e = .returned (.int .i64 (capH (tot l))) ∧ w = w' := by
  unfold maxLen at hl
  rcases hrow with rfl | ⟨b, off, rfl, hc⟩
  · obtain rfl : len = 0 := by simpa using hlen.symm
    go_enter Try.func27, Try.ntmps27
    go_wp2
    go_loop [3, 4] (fun s i => i = .int .i64 0 ∧ s = .int .i64 0) (fun _ i => 1 - (intOf i).toNat)
    case atStart => exact ⟨rfl, rfl⟩
    case round =>
      obtain ⟨rfl, rfl⟩ := hrel
      go_wp2
      go_ret
      exact ⟨rfl, rfl⟩
  · have HL : Hid (l.length = len) := hlen
    clear hlen
    go_enter Try.func27, Try.ntmps27
    go_wp2
    go_loop [3, 4] (fun s i => ∃ k : Nat, k ≤ len ∧ i = .int .i64 k ∧ s = .int .i64 (tot (l.take k)) ∧ tot (l.take k) ≤ 4611686018427387904) (fun _ i => len - (intOf i).toNat)
    case atStart => exact ⟨0, Nat.zero_le _, rfl, rfl, by simp [tot]⟩
    case round =>
      obtain ⟨k, hk, rfl, rfl, hle⟩ := hrel
      have hge := tot_nonneg (l.take k)
      by_cases hlt : k < len
      · have hu := hc k (by have := HL.out; omega)
        have HT : Hid (tot (l.take (k + 1)) = tot (l.take k) + sz (l.getD k 0)) := tot_take_succ l k (by have := HL.out; omega)
        have HM := tot_take_le l (k + 1)
        have hsz := sz_bd (l.getD k 0)
        clear hc
        generalize tot (l.take k) = t at *
        generalize l.getD k 0 = n at *
        have hlt' : (k : Int) < len := by omega
        go_wp2_with (go_at_call 28; refine (rsize_any _ _).mono ?_; rintro e w' ⟨rfl, rfl⟩)
        · go_ret
          exact ⟨ret_int (by have := HT.out; unfold capH; split <;> omega), rfl⟩
        · go_round
          case rel => exact ⟨k + 1, by omega, by go_num, by rw [HT.out], by rw [HT.out]; omega⟩
          case measure => simp [intOf]; omega
      · clear hc
        go_wp2
        go_ret
        exact ⟨ret_int (by have := HL.out; rw [List.take_of_length_le (by omega)] at hle ⊢; unfold capH; rw [if_pos hle]), rfl⟩
end Go.Proofs.Ytmhcihccliakaaa
