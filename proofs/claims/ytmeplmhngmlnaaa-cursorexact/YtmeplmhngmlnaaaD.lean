/- Outputs: le.Put as it lies in this dump. -/
import Derived.Test.YtmeplmhngmlnaaaC
namespace Go.Proofs.Ytmeplmhngmlnaaa
open Go.RowKit
set_option linter.unusedVariables false

theorem isW_yes (x : Int) (w : World) (h1 : 1 ≤ x) (h2 : x ≤ 8) :
    Calls Try.prog 52 #[.int .i64 x] w fun e w' => e = .returned (.bool true) ∧ w = w' := by
  go_enter Try.func52, Try.ntmps52
  go_wp2
  go_ret
  exact ⟨rfl, rfl⟩

theorem isW_no (x : Int) (w : World) (h : x < 1 ∨ 8 < x) :
    Calls Try.prog 52 #[.int .i64 x] w fun e w' => e = .returned (.bool false) ∧ w = w' := by
  by_cases h1 : 1 ≤ x
  · have h2 : ¬ x ≤ 8 := by omega
    go_enter Try.func52, Try.ntmps52
    go_wp2
    go_ret
    exact ⟨rfl, rfl⟩
  · go_enter Try.func52, Try.ntmps52
    go_wp2
    go_ret
    exact ⟨rfl, rfl⟩

/-! Fits -/
theorem fits_no (n width : Int) (w : World) (h : width < 1 ∨ 8 < width) :
    Calls Try.prog 47 #[.int .u64 n, .int .i64 width] w fun e w' => e = .returned (.bool false) ∧ w = w' := by
  go_enter Try.func47, Try.ntmps47
  go_wp2_with (go_at_call 52; refine (isW_no _ _ h).mono ?_; rintro e w' ⟨rfl, rfl⟩)
  go_ret
  exact ⟨rfl, rfl⟩
def fitB (n width : Int) : Bool := n / 2 ^ (8 * width).toNat == 0
theorem fits_in (n width : Int) (w : World) (h1 : 1 ≤ width) (h2 : width ≤ 8) :
    Calls Try.prog 47 #[.int .u64 n, .int .i64 width] w fun e w' => e = .returned (.bool (fitB n width)) ∧ w = w' := by
  go_enter Try.func47, Try.ntmps47
  go_wp2_with (go_at_call 52; refine (isW_yes _ _ h1 h2).mono ?_; rintro e w' ⟨rfl, rfl⟩)
  go_ret
  exact ⟨rfl, rfl⟩

theorem place_w (a : Option Addr) (len cap : Nat) (pos width : Int) (w : World) (h : width < 1 ∨ 8 < width) :
    Calls Try.prog 46 #[.slice a len cap, .int .i64 pos, .int .i64 width] w fun e w' => e = .returned (.int .i64 10) ∧ w = w' := by
  go_enter Try.func46, Try.ntmps46
  go_wp2_with (go_at_call 52; refine (isW_no _ _ h).mono ?_; rintro e w' ⟨rfl, rfl⟩)
  go_ret
  exact ⟨rfl, rfl⟩
theorem place_no (a : Option Addr) (len cap : Nat) (pos width : Int) (w : World) (h1 : 1 ≤ width) (h2 : width ≤ 8) (hl : len ≤ maxLen) (h : pos < 0 ∨ (len : Int) - width < pos) :
    Calls Try.prog 46 #[.slice a len cap, .int .i64 pos, .int .i64 width] w fun e w' => e = .returned (.int .i64 3) ∧ w = w' := by
  unfold maxLen at hl
  by_cases hp : pos < 0
  · go_enter Try.func46, Try.ntmps46
    go_wp2_with (go_at_call 52; refine (isW_yes _ _ h1 h2).mono ?_; rintro e w' ⟨rfl, rfl⟩)
    go_ret
    exact ⟨rfl, rfl⟩
  · have hq : (len : Int) - width < pos := by omega
    clear h
    go_enter Try.func46, Try.ntmps46
    go_wp2_with (go_at_call 52; refine (isW_yes _ _ h1 h2).mono ?_; rintro e w' ⟨rfl, rfl⟩)
    go_ret
    exact ⟨rfl, rfl⟩
theorem place_ok (a : Option Addr) (len cap : Nat) (pos width : Int) (w : World) (h1 : 1 ≤ width) (h2 : width ≤ 8) (hl : len ≤ maxLen) (h0 : 0 ≤ pos) (h : pos ≤ (len : Int) - width) :
    Calls Try.prog 46 #[.slice a len cap, .int .i64 pos, .int .i64 width] w fun e w' => e = .returned (.int .i64 0) ∧ w = w' := by
  unfold maxLen at hl
  go_enter Try.func46, Try.ntmps46
  go_wp2_with (go_at_call 52; refine (isW_yes _ _ h1 h2).mono ?_; rintro e w' ⟨rfl, rfl⟩)
  go_ret
  exact ⟨rfl, rfl⟩
/-- The byte at place k of a number. -/
def byt (n : Int) (k : Nat) : Int := n / 2 ^ (8 * k) % 256

/-- The world behind k stores of a number's bytes. -/
def putW (w : World) (b o : Nat) (n : Int) : Nat → World
  | 0 => w
  | k + 1 => (putW w b o n k).setCell ⟨b, o + k, none⟩ (.int .u8 (byt n k))

theorem putW_frozen (w : World) (b o : Nat) (n : Int) (k : Nat) (a : Addr) : (putW w b o n k).frozen? a = w.frozen? a := by
  induction k with
  | zero => rfl
  | succ k ih => simp [putW, ih]
theorem putW_ge (w : World) (b o : Nat) (n : Int) (k j : Nat) (h : k ≤ j) : (putW w b o n k).cell? ⟨b, o + j, none⟩ = w.cell? ⟨b, o + j, none⟩ := by
  induction k with
  | zero => rfl
  | succ k ih =>
    have hne : (⟨b, o + k, none⟩ : Addr) ≠ ⟨b, o + j, none⟩ := by intro e; injection e; omega
    rw [putW, World.cell?_setCell_other (h := hne), ih (by omega)]

theorem put_no (a : Option Addr) (len cap : Nat) (pos width n : Int) (w : World) (h1 : 1 ≤ width) (h2 : width ≤ 8) (hl : len ≤ maxLen) (h : pos < 0 ∨ (len : Int) - width < pos) :
    Calls Try.prog 28 #[.slice a len cap, .int .i64 pos, .int .i64 width, .int .u64 n] w fun e w' => e = .returned (.int .i64 3) ∧ w = w' := by
  go_enter Try.func28, Try.ntmps28
  go_wp2_with (go_at_call 46; refine (place_no _ _ _ _ _ _ h1 h2 hl h).mono ?_; rintro e w' ⟨rfl, rfl⟩)
  go_ret
  exact ⟨rfl, rfl⟩
theorem put_w (a : Option Addr) (len cap : Nat) (pos width n : Int) (w : World) (h : width < 1 ∨ 8 < width) :
    Calls Try.prog 28 #[.slice a len cap, .int .i64 pos, .int .i64 width, .int .u64 n] w fun e w' => e = .returned (.int .i64 10) ∧ w = w' := by
  go_enter Try.func28, Try.ntmps28
  go_wp2_with (go_at_call 46; refine (place_w _ _ _ _ _ _ h).mono ?_; rintro e w' ⟨rfl, rfl⟩)
  go_ret
  exact ⟨rfl, rfl⟩
theorem put_unfit (a : Option Addr) (len cap : Nat) (pos width n : Int) (w : World) (h1 : 1 ≤ width) (h2 : width ≤ 8) (hl : len ≤ maxLen) (h0 : 0 ≤ pos) (h : pos ≤ (len : Int) - width) (hf : fitB n width = false) :
    Calls Try.prog 28 #[.slice a len cap, .int .i64 pos, .int .i64 width, .int .u64 n] w fun e w' => e = .returned (.int .i64 10) ∧ w = w' := by
  go_enter Try.func28, Try.ntmps28
  go_wp2_with (first | (go_at_call 46; refine (place_ok _ _ _ _ _ _ h1 h2 hl h0 h).mono ?_; rintro e w' ⟨rfl, rfl⟩) | (go_at_call 47; refine (fits_in _ _ _ h1 h2).mono ?_; rintro e w' ⟨rfl, rfl⟩))
  go_ret
  exact ⟨rfl, rfl⟩
set_option maxHeartbeats 400000 in
theorem put_ok (b off len cap p wd : Nat) (n : Int) (w : World) (h1 : 1 ≤ wd) (h2 : wd ≤ 8) (hl : len ≤ maxLen) (h : p + wd ≤ len) (hf : fitB n wd = true)
    (hc : ∀ i, i < len → ∃ u, w.cell? ⟨b, off + i, none⟩ = some u) (hz : ∀ i, i < len → w.frozen? ⟨b, off + i, none⟩ = false) :
    Calls Try.prog 28 #[.slice (some ⟨b, off, none⟩) len cap, .int .i64 p, .int .i64 wd, .int .u64 n] w fun e w' => e = .returned (.int .i64 0) ∧ w' = putW w b (off + p) n wd := by
  have g1 : (1 : Int) ≤ wd := by omega
  have g2 : (wd : Int) ≤ 8 := by omega
  have g3 : (0 : Int) ≤ p := by omega
  have g4 : (p : Int) ≤ (len : Int) - wd := by omega
  have hl' := hl
  unfold maxLen at hl'
  go_enter Try.func28, Try.ntmps28
  go_wp2_with (first | (go_at_call 46; refine (place_ok _ _ _ _ _ _ g1 g2 hl g3 g4).mono ?_; rintro e w' ⟨rfl, rfl⟩) | (go_at_call 47; refine (fits_in _ _ _ g1 g2).mono ?_; rintro e w' ⟨rfl, rfl⟩))
  go_loopw [23] (fun i wr => ∃ k : Nat, k ≤ wd ∧ i = .int .i64 k ∧ wr = putW w b (off + p) n k) (fun i _ => wd - (intOf i).toNat)
  case atStart => exact ⟨0, Nat.zero_le _, rfl, rfl⟩
  case round =>
    obtain ⟨k, hk, rfl, rfl⟩ := hrel
    by_cases hlt : k < wd
    · obtain ⟨u, hu⟩ := hc (p + k) (by omega)
      have hu' : (putW w b (off + p) n k).cell? ⟨b, off + (p + k), none⟩ = some u := by
        rw [← Nat.add_assoc, putW_ge _ _ _ _ _ _ (Nat.le_refl _), Nat.add_assoc]; exact hu
      have hz' : (putW w b (off + p) n k).frozen? ⟨b, off + (p + k), none⟩ = false := by rw [putW_frozen]; exact hz _ (by omega)
      clear hc hz hu
      have hlt' : (k : Int) < wd := by omega
      have hidx : (p : Int) + k < len := by omega
      go_wp2
      go_roundw
      case rel => exact ⟨k + 1, by omega, by go_num, by rw [putW, Nat.add_assoc]; rfl⟩
      case measure => simp [intOf]; omega
    · go_wp2
      obtain rfl : k = wd := by omega
      go_ret
      exact ⟨rfl, rfl⟩

end Go.Proofs.Ytmeplmhngmlnaaa
