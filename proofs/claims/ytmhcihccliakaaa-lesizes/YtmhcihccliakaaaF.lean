/- LeSizes: the walk over an empty list. -/
import Derived.Test.YtmhcihccliakaaaE
namespace Go.Proofs.Ytmhcihccliakaaa
open Go.RowKit
set_option linter.unusedVariables false

set_option maxRecDepth 100000 in
set_option maxHeartbeats 2000000 in
theorem sizes_none (a : Option Addr) (cap : Nat) (p x y z : Int) (w : World) (hcm : cap ≤ maxLen) :
    Calls Try.prog 4 #[.slice a 0 cap, .int .i64 p, .int .i64 x, .int .i64 y, .int .i64 z] w fun e w' => e = .returned (.bool true) ∧ Below w.heap.size w w' := by
  unfold maxLen at hcm
  have h0m : 0 ≤ maxLen := Nat.zero_le _
  have h1m : 1 ≤ maxLen := by unfold maxLen; omega
  have h2m : 2 ≤ maxLen := by unfold maxLen; omega
  have H0 : Hid (capH (tot []) = 0) := by show _ = _; decide
  have H00 : Hid (capH (tot [0, 0]) = 0) := by show _ = _; decide
  go_enter Try.func4, Try.ntmps4
  go_wp2_with fail
  refine (awake_any w).mono ?_; rintro e w1 ⟨rfl, hB1⟩
  go_wp2_with fail
  refine (rest_any _ _ _ _ (by omega) (by omega) (by omega)).mono ?_; rintro e w' ⟨⟨r, hr0, hr1, rfl⟩, rfl⟩
  obtain rfl : r = 0 := by omega
  go_wp2_with fail
  refine (plus_S _ 0 _ [] 0 _ h0m rfl H0 (.inl rfl)).mono ?_; rintro e w' ⟨rfl, rfl⟩
  go_wp2_with fail
  go_loop [13, 14] (fun v i => v = .slice none 0 0 ∧ i = .int .i64 (-1)) (fun _ i => (intOf i + 1).toNat)
  case atStart => exact ⟨rfl, rfl⟩
  case round =>
    obtain ⟨rfl, rfl⟩ := hrel
    go_wp2_with fail
    go_cut [69] (fun s wc => s = .bool false ∧ Below w.heap.size w wc)
    case first =>
      have hB0 := Below.refl w1.heap.size w1
      go_region_held3 (fun w' => Below w1.heap.size w1 w') (first | assumption | exact hB0.drew | exact Below.alloc (by assumption) (by simp) _)
        (first
          | (go_at_call_of 12 (Value.slice none 0 0); refine (plus_S _ 0 _ [] 0 _ h0m rfl H0 (.inl rfl)).mono ?_; rintro e w' ⟨rfl, rfl⟩)
          | (go_at_call_of 12 (Value.slice a 0 cap); refine (plus_S _ 0 _ [] 0 _ h0m rfl H0 (.inl rfl)).mono ?_; rintro e w' ⟨rfl, rfl⟩)
          | (go_at_call_of 12 (Value.slice (some ⟨w1.heap.size, 0, none⟩) 2 2); refine (plus_S _ 2 _ [0, 0] 0 _ h2m rfl H00 (row_two (by simp [go_sem]) (by simp [go_sem]))).mono ?_; rintro e w' ⟨rfl, rfl⟩))
      go_wp2_with fail
      go_meet
      case rel => exact ⟨rfl, hB1.trans ((by assumption : Below w1.heap.size w1 _).mono hB1.size)⟩
    case rest =>
      obtain ⟨rfl, hBc⟩ := hcut
      go_wp2_with fail
      go_loopw [15] (fun i wr => i = .int .i64 0 ∧ Below w.heap.size w wr) (fun i _ => 1 - (intOf i).toNat)
      case atStart => exact ⟨rfl, hBc⟩
      case round =>
        obtain ⟨rfl, hBr⟩ := hrel
        obtain ⟨P, HP⟩ : ∃ P, Hid (capH (sz x * sz y) = P) := ⟨_, rfl⟩
        obtain ⟨Q1, HQ1⟩ : ∃ Q, Hid (capH (sz P * sz z) = Q) := ⟨_, rfl⟩
        obtain ⟨R, HR⟩ : ∃ R, Hid (capH (sz y * sz z) = R) := ⟨_, rfl⟩
        obtain ⟨U, HU⟩ : ∃ U, Hid (capH (tot [y, z]) = U) := ⟨_, rfl⟩
        obtain ⟨V, HV⟩ : ∃ V, Hid (capH (sz x * sz U) = V) := ⟨_, rfl⟩
        obtain ⟨G, HG⟩ : ∃ G, Hid (capH (sz x * sz z) = G) := ⟨_, rfl⟩
        obtain ⟨X1, HX1⟩ : ∃ X1, Hid (capH (tot [x]) = X1) := ⟨_, rfl⟩
        have m1 : Hid (capH (sz y * sz x) = P) := tm_comm HP.out
        have m2 : Hid (capH (sz x * sz R) = Q1) := tm_assoc HP.out HR.out HQ1.out
        have m3 : Hid (capH (tot [P, G]) = V) := tm_dist HP.out HG.out HU.out HV.out
        have m4 : Hid (capH (sz x * sz 1) = X1) := tm_one HX1.out
        have m5 : Hid (capH (sz x * sz 0) = 0) := tm_zero x
        have m6 := tm_bd HP.out
        have p0 : decide (P < 0) = false := by simp; omega
        have p1 : decide (4611686018427387904 < P) = false := by simp; omega
        by_cases hy : y < 1
        · have hy' : decide (y < 1) = true := by simpa using hy
          clear hy
          go_wp2_with fail
          refine (times_S _ _ P _ HP).mono ?_; rintro e w' ⟨rfl, rfl⟩
          go_wp2_with fail
          refine (times_S _ _ P _ m1).mono ?_; rintro e w' ⟨rfl, rfl⟩
          go_wp2_with fail
          refine (times_S _ _ Q1 _ HQ1).mono ?_; rintro e w' ⟨rfl, rfl⟩
          go_wp2_with fail
          refine (times_S _ _ R _ HR).mono ?_; rintro e w' ⟨rfl, rfl⟩
          go_wp2_with fail
          refine (times_S _ _ Q1 _ m2).mono ?_; rintro e w' ⟨rfl, rfl⟩
          go_wp2_with fail
          refine (plus_S _ 2 _ [y, z] U _ h2m rfl HU (row_two (by simp [go_sem]) (by simp [go_sem]))).mono ?_; rintro e w' ⟨rfl, rfl⟩
          go_wp2_with fail
          refine (times_S _ _ V _ HV).mono ?_; rintro e w' ⟨rfl, rfl⟩
          go_wp2_with fail
          refine (times_S _ _ G _ HG).mono ?_; rintro e w' ⟨rfl, rfl⟩
          go_wp2_with fail
          refine (plus_S _ 2 _ [P, G] V _ h2m rfl m3 (row_two (by simp [go_sem]) (by simp [go_sem]))).mono ?_; rintro e w' ⟨rfl, rfl⟩
          go_wp2_with fail
          refine (times_S _ _ X1 _ m4).mono ?_; rintro e w' ⟨rfl, rfl⟩
          go_wp2_with fail
          refine (plus_S _ 1 _ [x] X1 _ h1m rfl HX1 (row_one (by simp [go_sem]))).mono ?_; rintro e w' ⟨rfl, rfl⟩
          go_wp2_with fail
          refine (times_S _ _ 0 _ m5).mono ?_; rintro e w' ⟨rfl, rfl⟩
          go_wp2
          go_ret
          exact ⟨rfl, ((hBr.alloc hBr.size _).alloc (by have := hBr.size; simp; omega) _).alloc (by have := hBr.size; simp; omega) _⟩
        · have hy' : decide (y < 1) = false := by simpa using hy
          have hle : X1 ≤ P := tm_ge HP.out HX1.out (by omega)
          clear hy
          go_wp2_with fail
          refine (times_S _ _ P _ HP).mono ?_; rintro e w' ⟨rfl, rfl⟩
          go_wp2_with fail
          refine (times_S _ _ P _ m1).mono ?_; rintro e w' ⟨rfl, rfl⟩
          go_wp2_with fail
          refine (times_S _ _ Q1 _ HQ1).mono ?_; rintro e w' ⟨rfl, rfl⟩
          go_wp2_with fail
          refine (times_S _ _ R _ HR).mono ?_; rintro e w' ⟨rfl, rfl⟩
          go_wp2_with fail
          refine (times_S _ _ Q1 _ m2).mono ?_; rintro e w' ⟨rfl, rfl⟩
          go_wp2_with fail
          refine (plus_S _ 2 _ [y, z] U _ h2m rfl HU (row_two (by simp [go_sem]) (by simp [go_sem]))).mono ?_; rintro e w' ⟨rfl, rfl⟩
          go_wp2_with fail
          refine (times_S _ _ V _ HV).mono ?_; rintro e w' ⟨rfl, rfl⟩
          go_wp2_with fail
          refine (times_S _ _ G _ HG).mono ?_; rintro e w' ⟨rfl, rfl⟩
          go_wp2_with fail
          refine (plus_S _ 2 _ [P, G] V _ h2m rfl m3 (row_two (by simp [go_sem]) (by simp [go_sem]))).mono ?_; rintro e w' ⟨rfl, rfl⟩
          go_wp2_with fail
          refine (times_S _ _ X1 _ m4).mono ?_; rintro e w' ⟨rfl, rfl⟩
          go_wp2_with fail
          refine (plus_S _ 1 _ [x] X1 _ h1m rfl HX1 (row_one (by simp [go_sem]))).mono ?_; rintro e w' ⟨rfl, rfl⟩
          go_wp2_with fail
          refine (times_S _ _ 0 _ m5).mono ?_; rintro e w' ⟨rfl, rfl⟩
          go_wp2_with fail
          refine (plus_S _ 1 _ [x] X1 _ h1m rfl HX1 (row_one (by simp [go_sem]))).mono ?_; rintro e w' ⟨rfl, rfl⟩
          go_wp2
          go_ret
          exact ⟨rfl, (((hBr.alloc hBr.size _).alloc (by have := hBr.size; simp; omega) _).alloc (by have := hBr.size; simp; omega) _).alloc (by have := hBr.size; simp; omega) _⟩
end Go.Proofs.Ytmhcihccliakaaa
