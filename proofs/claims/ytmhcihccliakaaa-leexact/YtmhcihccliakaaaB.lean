/- Contracts of le.Put and le.Get. -/
import Derived.Test.YtmhcihccliakaaaA
namespace Go.Proofs.Ytmhcihccliakaaa
open Go.RowKit
set_option linter.unusedVariables false

/-- The byte at place k of a number. -/
def byt (n : Int) (k : Nat) : Int := n / 2 ^ (8 * k) % 256

/-- The world behind k stores of a number's bytes. -/
def putW (w : World) (b o : Nat) (n : Int) : Nat → World
  | 0 => w
  | k + 1 => (putW w b o n k).setCell ⟨b, o + k, none⟩ (.int .u8 (byt n k))

theorem putW_frozen (w : World) (b o : Nat) (n : Int) (k : Nat) (a : Addr) : (putW w b o n k).frozen? a = w.frozen? a := by
  induction k with
  | zero => rfl
  | succ k ih => simp [putW, ih]
theorem putW_ge (w : World) (b o : Nat) (n : Int) (k j : Nat) (h : k ≤ j) : (putW w b o n k).cell? ⟨b, o + j, none⟩ = w.cell? ⟨b, o + j, none⟩ := by
  induction k with
  | zero => rfl
  | succ k ih =>
    have hne : (⟨b, o + k, none⟩ : Addr) ≠ ⟨b, o + j, none⟩ := by intro e; injection e; omega
    rw [putW, World.cell?_setCell_other (h := hne), ih (by omega)]

theorem put_no (a : Option Addr) (len cap : Nat) (pos width n : Int) (w : World) (h1 : 1 ≤ width) (h2 : width ≤ 8) (hl : len ≤ maxLen) (h : pos < 0 ∨ (len : Int) - width < pos) :
    Calls Try.prog 8 #[.slice a len cap, .int .i64 pos, .int .i64 width, .int .u64 n] w fun e w' => e = .returned (.int .i64 3) ∧ w = w' := by
  go_enter Try.func8, Try.ntmps8
  go_wp2_with (go_at_call 15; refine (place_no _ _ _ _ _ _ h1 h2 hl h).mono ?_; rintro e w' ⟨rfl, rfl⟩)
  go_ret
  exact ⟨rfl, rfl⟩
theorem put_w (a : Option Addr) (len cap : Nat) (pos width n : Int) (w : World) (h : width < 1 ∨ 8 < width) :
    Calls Try.prog 8 #[.slice a len cap, .int .i64 pos, .int .i64 width, .int .u64 n] w fun e w' => e = .returned (.int .i64 10) ∧ w = w' := by
  go_enter Try.func8, Try.ntmps8
  go_wp2_with (go_at_call 15; refine (place_w _ _ _ _ _ _ h).mono ?_; rintro e w' ⟨rfl, rfl⟩)
  go_ret
  exact ⟨rfl, rfl⟩
theorem put_unfit (a : Option Addr) (len cap : Nat) (pos width n : Int) (w : World) (h1 : 1 ≤ width) (h2 : width ≤ 8) (hl : len ≤ maxLen) (h0 : 0 ≤ pos) (h : pos ≤ (len : Int) - width) (hf : fitB n width = false) :
    Calls Try.prog 8 #[.slice a len cap, .int .i64 pos, .int .i64 width, .int .u64 n] w fun e w' => e = .returned (.int .i64 10) ∧ w = w' := by
  go_enter Try.func8, Try.ntmps8
  go_wp2_with (first | (go_at_call 15; refine (place_ok _ _ _ _ _ _ h1 h2 hl h0 h).mono ?_; rintro e w' ⟨rfl, rfl⟩) | (go_at_call 9; refine (fits_in _ _ _ h1 h2).mono ?_; rintro e w' ⟨rfl, rfl⟩))
  go_ret
  exact ⟨rfl, rfl⟩
set_option maxHeartbeats 400000 in
theorem put_ok (b off len cap p wd : Nat) (n : Int) (w : World) (h1 : 1 ≤ wd) (h2 : wd ≤ 8) (hl : len ≤ maxLen) (h : p + wd ≤ len) (hf : fitB n wd = true)
    (hc : ∀ i, i < len → ∃ u, w.cell? ⟨b, off + i, none⟩ = some u) (hz : ∀ i, i < len → w.frozen? ⟨b, off + i, none⟩ = false) :
    Calls Try.prog 8 #[.slice (some ⟨b, off, none⟩) len cap, .int .i64 p, .int .i64 wd, .int .u64 n] w fun e w' => e = .returned (.int .i64 0) ∧ w' = putW w b (off + p) n wd := by
  have g1 : (1 : Int) ≤ wd := by omega
  have g2 : (wd : Int) ≤ 8 := by omega
  have g3 : (0 : Int) ≤ p := by omega
  have g4 : (p : Int) ≤ (len : Int) - wd := by omega
  have hl' := hl
  unfold maxLen at hl'
  go_enter Try.func8, Try.ntmps8
  go_wp2_with (first | (go_at_call 15; refine (place_ok _ _ _ _ _ _ g1 g2 hl g3 g4).mono ?_; rintro e w' ⟨rfl, rfl⟩) | (go_at_call 9; refine (fits_in _ _ _ g1 g2).mono ?_; rintro e w' ⟨rfl, rfl⟩))
  go_loopw [23] (fun i wr => ∃ k : Nat, k ≤ wd ∧ i = .int .i64 k ∧ wr = putW w b (off + p) n k) (fun i _ => wd - (intOf i).toNat)
  case atStart => exact ⟨0, Nat.zero_le _, rfl, rfl⟩
  case round =>
    obtain ⟨k, hk, rfl, rfl⟩ := hrel
    by_cases hlt : k < wd
    · obtain ⟨u, hu⟩ := hc (p + k) (by omega)
      have hu' : (putW w b (off + p) n k).cell? ⟨b, off + (p + k), none⟩ = some u := by
        rw [← Nat.add_assoc, putW_ge _ _ _ _ _ _ (Nat.le_refl _), Nat.add_assoc]; exact hu
      have hz' : (putW w b (off + p) n k).frozen? ⟨b, off + (p + k), none⟩ = false := by rw [putW_frozen]; exact hz _ (by omega)
      clear hc hz hu
      have hlt' : (k : Int) < wd := by omega
      have hidx : (p : Int) + k < len := by omega
      go_wp2
      go_roundw
      case rel => exact ⟨k + 1, by omega, by go_num, by rw [putW, Nat.add_assoc]; rfl⟩
      case measure => simp [intOf]; omega
    · go_wp2
      obtain rfl : k = wd := by omega
      go_ret
      exact ⟨rfl, rfl⟩

/-- The number out of k bytes from place p on. -/
def getv (f : Nat → Nat) (p : Nat) : Nat → Nat
  | 0 => 0
  | k + 1 => getv f p k + f (p + k) * 2 ^ (8 * k)
theorem getv_lt (f : Nat → Nat) (p k : Nat) (hf : ∀ i, i < p + k → f i < 256) : getv f p k < 2 ^ (8 * k) := by
  induction k with
  | zero => simp [getv]
  | succ k ih =>
    have h1 := ih (fun i hi => hf i (by omega))
    have h2 := hf (p + k) (by omega)
    have e : 2 ^ (8 * (k + 1)) = 2 ^ (8 * k) * 256 := by rw [show 8 * (k + 1) = 8 * k + 8 from by omega, Nat.pow_add]
    have h3 : f (p + k) * 2 ^ (8 * k) ≤ 255 * 2 ^ (8 * k) := Nat.mul_le_mul_right _ (by omega)
    rw [getv, e]
    omega

theorem pow_le56 (k : Nat) (hk : k ≤ 7) : 2 ^ (8 * k) ≤ 72057594037927936 := Nat.pow_le_pow_right (n := 2) (j := 56) (by omega) (by omega)
theorem or_step (g v k : Nat) (hk : k ≤ 7) (hg : g < 2 ^ (8 * k)) (hv : v < 256) :
    bits .or .u64 (g : Int) (IntKind.u64.wrap ((v : Int) * 2 ^ (8 * k))) = ((g + v * 2 ^ (8 * k) : Nat) : Int) := by
  have hp := pow_le56 k hk
  have h3 : v * 2 ^ (8 * k) ≤ 255 * 2 ^ (8 * k) := Nat.mul_le_mul_right _ (by omega)
  have e : (v : Int) * 2 ^ (8 * k) = ((v * 2 ^ (8 * k) : Nat) : Int) := by rw [Int.natCast_mul, Int.natCast_pow]; rfl
  have e2 : IntKind.u64.wrap ((v * 2 ^ (8 * k) : Nat) : Int) = ((v * 2 ^ (8 * k) : Nat) : Int) := by rw [IntKind.wrap_u64]; omega
  rw [e, e2, bits_or_u64_nat _ _ (by omega) (by omega), Nat.or_comm, ← Nat.shiftLeft_eq, ← Nat.shiftLeft_add_eq_or_of_lt hg, Nat.shiftLeft_eq, Nat.add_comm]

theorem get_no (a : Option Addr) (len cap : Nat) (pos width : Int) (w : World) (h1 : 1 ≤ width) (h2 : width ≤ 8) (hl : len ≤ maxLen) (h : pos < 0 ∨ (len : Int) - width < pos) :
    Calls Try.prog 11 #[.slice a len cap, .int .i64 pos, .int .i64 width] w fun e w' => e = .returned (.tuple #[.int .u64 0, .int .i64 3]) ∧ w = w' := by
  go_enter Try.func11, Try.ntmps11
  go_wp2_with (go_at_call 15; refine (place_no _ _ _ _ _ _ h1 h2 hl h).mono ?_; rintro e w' ⟨rfl, rfl⟩)
  go_ret2
  exact ⟨rfl, rfl⟩
theorem get_w (a : Option Addr) (len cap : Nat) (pos width : Int) (w : World) (h : width < 1 ∨ 8 < width) :
    Calls Try.prog 11 #[.slice a len cap, .int .i64 pos, .int .i64 width] w fun e w' => e = .returned (.tuple #[.int .u64 0, .int .i64 10]) ∧ w = w' := by
  go_enter Try.func11, Try.ntmps11
  go_wp2_with (go_at_call 15; refine (place_w _ _ _ _ _ _ h).mono ?_; rintro e w' ⟨rfl, rfl⟩)
  go_ret2
  exact ⟨rfl, rfl⟩
set_option maxHeartbeats 400000 in
theorem get_ok (b off len cap p wd : Nat) (f : Nat → Nat) (w : World) (h1 : 1 ≤ wd) (h2 : wd ≤ 8) (hl : len ≤ maxLen) (h : p + wd ≤ len)
    (hc : ∀ i, i < len → w.cell? ⟨b, off + i, none⟩ = some (.int .u8 (f i))) (hb : ∀ i, i < len → f i < 256) :
    Calls Try.prog 11 #[.slice (some ⟨b, off, none⟩) len cap, .int .i64 p, .int .i64 wd] w fun e w' => e = .returned (.tuple #[.int .u64 (getv f p wd), .int .i64 0]) ∧ w = w' := by
  have g1 : (1 : Int) ≤ wd := by omega
  have g2 : (wd : Int) ≤ 8 := by omega
  have g3 : (0 : Int) ≤ p := by omega
  have g4 : (p : Int) ≤ (len : Int) - wd := by omega
  have hl' := hl
  unfold maxLen at hl'
  go_enter Try.func11, Try.ntmps11
  go_wp2_with (go_at_call 15; refine (place_ok _ _ _ _ _ _ g1 g2 hl g3 g4).mono ?_; rintro e w' ⟨rfl, rfl⟩)
  go_loop [9, 19] (fun v i => ∃ k : Nat, k ≤ wd ∧ i = .int .i64 k ∧ v = .int .u64 (getv f p k)) (fun _ i => wd - (intOf i).toNat)
  case atStart => exact ⟨0, Nat.zero_le _, rfl, rfl⟩
  case round =>
    obtain ⟨k, hk, rfl, rfl⟩ := hrel
    by_cases hlt : k < wd
    · have hu := hc (p + k) (by omega)
      have hv := hb (p + k) (by omega)
      have hg := getv_lt f p k (fun i hi => hb i (by omega))
      clear hc hb
      have hlt' : (k : Int) < wd := by omega
      have hidx : (p : Int) + k < len := by omega
      go_wp2
      rw [or_step _ _ _ (by omega) hg hv]
      go_round
      case rel => exact ⟨k + 1, by omega, by go_num, by rfl⟩
      case measure => simp [intOf]; omega
    · go_wp2
      obtain rfl : k = wd := by omega
      go_ret2
      exact ⟨rfl, rfl⟩
end Go.Proofs.Ytmhcihccliakaaa
