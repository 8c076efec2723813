/- plays: the walk. -/
import Derived.Test.YtmhcihccliakaaaL
namespace Go.Proofs.Ytmhcihccliakaaa
open Go.RowKit
set_option linter.unusedVariables false

/-- One call, in its box. -/
def box (kind : Int) (a : Option Addr) (n cap : Nat) (pos wid : Int) (N : Nat) (a2 : Option Addr) (n2 cap2 : Nat) : Obj :=
  .cells #[.int .i64 kind, .slice a n cap, .int .i64 pos, .int .i64 wid, .int .u64 N, .slice a2 n2 cap2] 40

set_option maxRecDepth 100000 in
set_option maxHeartbeats 2000000 in
theorem plays_1 (kind : Int) (a : Option Addr) (len cap : Nat) (pos wid : Int) (N : Nat) (a2 : Option Addr) (len2 cap2 : Nat) (w : World)
    (hlc : len ≤ cap) (hcm : cap ≤ maxLen) (hN : N < 18446744073709551616) (hkind : kind = 1) :
    Calls Try.prog 14 #[.agg #[.int .i64 kind, .slice a len cap, .int .i64 pos, .int .i64 wid, .int .u64 N, .slice a2 len2 cap2]] w fun e w' => e = .returned (.bool true) ∧ Below w.heap.size w w' := by
  subst hkind
  unfold maxLen at hcm
  go_enter Try.func14, Try.ntmps14
  go_upto_if 14 with fail
  go_cut [13] (fun s wc => ∃ n, n ≤ 2000 ∧ n ≤ len ∧ wc = w.alloc (box 1 a n cap pos wid N a2 len2 cap2))
  case first =>
    by_cases h : 2000 < (len : Int)
    · have h2 : (2000 : Int) ≤ cap := by omega
      go_wp2
      go_meet
      case rel => exact ⟨2000, by omega, by omega, by unfold box; simp⟩
    · go_wp2
      go_meet
      case rel => exact ⟨len, by omega, by omega, rfl⟩
  case rest =>
    obtain ⟨n, hn1, hn2, rfl⟩ := hcut
    unfold box
    go_wp2_with fail
    by_cases hw : 1 ≤ wid ∧ wid ≤ 8
    · obtain ⟨hw1, hw2⟩ := hw
      obtain ⟨wd, rfl⟩ := Int.eq_ofNat_of_zero_le (show 0 ≤ wid by omega)
      go_region_held3 (fun w' => w'.cell? ⟨w.heap.size, 4, none⟩ = some (.int .u64 N) ∧ w'.cell? ⟨w.heap.size, 3, none⟩ = some (.int .i64 wd)) (first | assumption | (constructor <;> simp [go_sem]))
        (first
          | (go_at_call 9; refine (fits_in _ _ _ hw1 hw2).mono ?_; rintro e w' ⟨rfl, rfl⟩)
          | (go_at_call 19; refine (rfits_in N wd _ hN (by omega) (by omega)).mono ?_; rintro e w' ⟨rfl, rfl⟩))
      go_wp2
      go_ret
      exact ⟨rfl, (Below.alloc (Below.refl _ _) (Nat.le_refl _) _).drew⟩
    · have hw' : wid < 1 ∨ 8 < wid := by omega
      clear hw
      go_region_held3 (fun w' => w'.cell? ⟨w.heap.size, 4, none⟩ = some (.int .u64 N) ∧ w'.cell? ⟨w.heap.size, 3, none⟩ = some (.int .i64 wid)) (first | assumption | (constructor <;> simp [go_sem]))
        (first
          | (go_at_call 9; refine (fits_no _ _ _ hw').mono ?_; rintro e w' ⟨rfl, rfl⟩)
          | (go_at_call 19; refine (rfits_no _ _ _ hw').mono ?_; rintro e w' ⟨rfl, rfl⟩))
      go_wp2
      go_ret
      exact ⟨rfl, (Below.alloc (Below.refl _ _) (Nat.le_refl _) _).drew⟩
set_option maxRecDepth 100000 in
set_option maxHeartbeats 2000000 in
theorem plays_5 (kind : Int) (a : Option Addr) (len cap : Nat) (pos wid : Int) (N : Nat) (a2 : Option Addr) (len2 cap2 : Nat) (w : World)
    (hlc : len ≤ cap) (hcm : cap ≤ maxLen) (hN : N < 18446744073709551616) (hkind : kind = 5) :
    Calls Try.prog 14 #[.agg #[.int .i64 kind, .slice a len cap, .int .i64 pos, .int .i64 wid, .int .u64 N, .slice a2 len2 cap2]] w fun e w' => e = .returned (.bool true) ∧ Below w.heap.size w w' := by
  subst hkind
  unfold maxLen at hcm
  go_enter Try.func14, Try.ntmps14
  go_upto_if 14 with fail
  go_cut [13] (fun s wc => ∃ n, n ≤ 2000 ∧ n ≤ len ∧ wc = w.alloc (box 5 a n cap pos wid N a2 len2 cap2))
  case first =>
    by_cases h : 2000 < (len : Int)
    · have h2 : (2000 : Int) ≤ cap := by omega
      go_wp2
      go_meet
      case rel => exact ⟨2000, by omega, by omega, by unfold box; simp⟩
    · go_wp2
      go_meet
      case rel => exact ⟨len, by omega, by omega, rfl⟩
  case rest =>
    obtain ⟨n, hn1, hn2, rfl⟩ := hcut
    unfold box
    go_wp2_with fail
    go_region_held3 (fun w' => w'.cell? ⟨w.heap.size, 2, none⟩ = some (.int .i64 pos) ∧ w'.cell? ⟨w.heap.size, 3, none⟩ = some (.int .i64 wid)) (first | assumption | (constructor <;> simp [go_sem]))
      (first
        | (go_at_call 13; refine (times_any _ _ _).mono ?_; rintro e w' ⟨rfl, rfl⟩)
        | (go_at_call 25; refine (rtimes_any _ _ _).mono ?_; rintro e w' ⟨rfl, rfl⟩))
    go_wp2
    go_ret
    exact ⟨rfl, (Below.alloc (Below.refl _ _) (Nat.le_refl _) _).drew⟩
set_option maxRecDepth 100000 in
set_option maxHeartbeats 2000000 in
theorem plays_0 (kind : Int) (a : Option Addr) (len cap : Nat) (pos wid : Int) (N : Nat) (a2 : Option Addr) (len2 cap2 : Nat) (w : World)
    (hlc : len ≤ cap) (hcm : cap ≤ maxLen) (hN : N < 18446744073709551616) (h1 : (kind == 1) = false) (h2 : (kind == 2) = false) (h3 : (kind == 3) = false) (h4 : (kind == 4) = false) (h5 : (kind == 5) = false) :
    Calls Try.prog 14 #[.agg #[.int .i64 kind, .slice a len cap, .int .i64 pos, .int .i64 wid, .int .u64 N, .slice a2 len2 cap2]] w fun e w' => e = .returned (.bool true) ∧ Below w.heap.size w w' := by
  unfold maxLen at hcm
  go_enter Try.func14, Try.ntmps14
  go_upto_if 14 with fail
  go_cut [13] (fun s wc => ∃ n, n ≤ 2000 ∧ n ≤ len ∧ wc = w.alloc (box kind a n cap pos wid N a2 len2 cap2))
  case first =>
    by_cases h : 2000 < (len : Int)
    · have h2 : (2000 : Int) ≤ cap := by omega
      go_wp2
      go_meet
      case rel => exact ⟨2000, by omega, by omega, by unfold box; simp⟩
    · go_wp2
      go_meet
      case rel => exact ⟨len, by omega, by omega, rfl⟩
  case rest =>
    obtain ⟨n, hn1, hn2, rfl⟩ := hcut
    unfold box
    go_wp2
    go_ret
    exact ⟨rfl, Below.alloc (Below.refl _ _) (Nat.le_refl _) _⟩
end Go.Proofs.Ytmhcihccliakaaa
