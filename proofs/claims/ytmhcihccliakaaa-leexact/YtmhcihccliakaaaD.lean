/- awake: the answers that the document fixes. -/
import Derived.Test.YtmhcihccliakaaaB
import Derived.Test.YtmhcihccliakaaaC
import Derived.Laws.BytesArg
namespace Go.Proofs.Ytmhcihccliakaaa
open Go.RowKit
set_option linter.unusedVariables false

theorem cell_new3 (w : World) (x y z : Value) (t : TypeId) (i : Nat) (h : i < 3) :
    (w.alloc (.cells #[x, y, z] t)).cell? ⟨w.heap.size, 0 + i, none⟩ = some (([x, y, z] : List Value)[i]?.getD Go.undef) := by
  match i, h with
  | 0, _ => simp [go_sem]
  | 1, _ => simp [go_sem]
  | 2, _ => simp [go_sem]
theorem frozen_new3 (w : World) (x y z : Value) (t : TypeId) (i : Nat) (h : i < 3) :
    (w.alloc (.cells #[x, y, z] t)).frozen? ⟨w.heap.size, 0 + i, none⟩ = false := by
  match i, h with
  | 0, _ => simp [go_sem]
  | 1, _ => simp [go_sem]
  | 2, _ => simp [go_sem]

theorem put_258 (w : World) :
    Calls Try.prog 8 #[.slice (some ⟨w.heap.size, 0, none⟩) 3 3, .int .i64 1, .int .i64 2, .int .u64 258] (w.alloc (.cells #[.int .u8 1, .int .u8 2, .int .u8 3] 5)) fun e w' => e = .returned (.int .i64 0) ∧ w' = w.alloc (.cells #[.int .u8 1, .int .u8 2, .int .u8 1] 5) := by
  refine (put_ok w.heap.size 0 3 3 1 2 258 _ (by omega) (by omega) (by unfold maxLen; omega) (by omega) (by decide) (fun i hi => ⟨_, cell_new3 _ _ _ _ _ i hi⟩) (fun i hi => frozen_new3 _ _ _ _ _ i hi)).mono ?_
  rintro e w' ⟨rfl, rfl⟩
  refine ⟨rfl, ?_⟩
  simp [putW, World.setCell_alloc_at, byt]

def fn121 (i : Nat) : Nat := if i = 1 then 2 else 1
theorem get_513 (w : World) :
    Calls Try.prog 11 #[.slice (some ⟨w.heap.size, 0, none⟩) 3 3, .int .i64 0, .int .i64 2] (w.alloc (.cells #[.int .u8 1, .int .u8 2, .int .u8 1] 5)) fun e w' => e = .returned (.tuple #[.int .u64 513, .int .i64 0]) ∧ w.alloc (.cells #[.int .u8 1, .int .u8 2, .int .u8 1] 5) = w' := by
  refine (get_ok w.heap.size 0 3 3 0 2 fn121 _ (by omega) (by omega) (by unfold maxLen; omega) (by omega) (fun i hi => ?_) (fun i hi => by unfold fn121; split <;> omega)).mono ?_
  · rw [cell_new3 _ _ _ _ _ i hi]
    match i, hi with
    | 0, _ => rfl
    | 1, _ => rfl
    | 2, _ => rfl
  · rintro e w' ⟨rfl, rfl⟩
    exact ⟨rfl, rfl⟩

theorem conv_121 (w : World) : (convert 22 9 (.slice (some ⟨w.heap.size, 0, none⟩) 3 3)).run Try.prog (w.alloc (.cells #[.int .u8 1, .int .u8 2, .int .u8 1] 5)) = .ok (.string ⟨#[1, 2, 1]⟩) (w.alloc (.cells #[.int .u8 1, .int .u8 2, .int .u8 1] 5)) := by
  rw [run_convert_bytes_arg (P := Try.prog) _ 22 5 Try.underlying22 Try.underlying5 w.heap.size 0 3 3 [1, 2, 1] rfl ?_ 9 Try.underlying9]
  · rfl
  · intro i hi
    rw [cell_new3 _ _ _ _ _ i hi]
    match i, hi with
    | 0, _ => rfl
    | 1, _ => rfl
    | 2, _ => rfl

theorem fits_255 (w : World) : Calls Try.prog 9 #[.int .u64 255, .int .i64 1] w fun e w' => e = .returned (.bool true) ∧ w = w' := by
  have e : fitB 255 1 = true := by decide
  rw [← e]; exact fits_in 255 1 w (by omega) (by omega)
theorem fits_256 (w : World) : Calls Try.prog 9 #[.int .u64 256, .int .i64 1] w fun e w' => e = .returned (.bool false) ∧ w = w' := by
  have e : fitB 256 1 = false := by decide
  rw [← e]; exact fits_in 256 1 w (by omega) (by omega)
theorem plus_345 (w : World) (t : TypeId) (n : Nat) (hn : n = w.heap.size) : Calls Try.prog 12 #[.slice (some ⟨n, 0, none⟩) 3 3] (w.alloc (.cells #[.int .i64 3, .int .i64 (-5), .int .i64 4] t)) fun e w' => e = .returned (.int .i64 7) ∧ (w.alloc (.cells #[.int .i64 3, .int .i64 (-5), .int .i64 4] t)) = w' := by
  subst hn
  have e : capH (tot [3, -5, 4]) = 7 := by decide
  rw [← e]
  refine plus_any _ 3 3 [3, -5, 4] _ (by unfold maxLen; omega) rfl (.inr ⟨w.heap.size, 0, rfl, fun i hi => ?_⟩)
  have hi' : i < 3 := hi
  rw [cell_new3 _ _ _ _ _ i hi']
  match i, hi' with
  | 0, _ => rfl
  | 1, _ => rfl
  | 2, _ => rfl
theorem times_34 (w : World) : Calls Try.prog 13 #[.int .i64 3, .int .i64 4] w fun e w' => e = .returned (.int .i64 12) ∧ w = w' := by
  have e : capH (sz 3 * sz 4) = 12 := by decide
  rw [← e]; exact times_any 3 4 w
theorem times_31 (w : World) : Calls Try.prog 13 #[.int .i64 2147483648, .int .i64 2147483648] w fun e w' => e = .returned (.int .i64 4611686018427387904) ∧ w = w' := by
  have e : capH (sz 2147483648 * sz 2147483648) = 4611686018427387904 := by decide
  rw [← e]; exact times_any _ _ w

set_option maxHeartbeats 1000000 in
theorem awake_any (w : World) :
    Calls Try.prog 6 #[] w fun e w' => e = .returned (.bool true) ∧ Below w.heap.size w w' := by
  have hcv := conv_121 w
  go_enter Try.func6, Try.ntmps6
  go_wp2_with fail
  refine (put_258 w).mono ?_; rintro e w' ⟨rfl, rfl⟩
  go_wp2_with fail
  refine (get_513 w).mono ?_; rintro e w' ⟨rfl, rfl⟩
  go_wp2_with fail
  refine (num_any _ _).mono ?_; rintro e w' ⟨rfl, rfl⟩
  go_wp2_with fail
  refine (num_any _ _).mono ?_; rintro e w' ⟨rfl, rfl⟩
  go_wp2_with fail
  refine (put_no _ _ _ _ _ _ _ (by omega) (by omega) (by unfold maxLen; omega) (by omega)).mono ?_; rintro e w' ⟨rfl, rfl⟩
  go_wp2_with fail
  refine (num_any _ _).mono ?_; rintro e w' ⟨rfl, rfl⟩
  go_wp2_with fail
  refine (fits_255 _).mono ?_; rintro e w' ⟨rfl, rfl⟩
  go_wp2_with fail
  refine (fits_256 _).mono ?_; rintro e w' ⟨rfl, rfl⟩
  go_wp2_with fail
  refine (plus_345 _ _ _ (by simp)).mono ?_; rintro e w' ⟨rfl, rfl⟩
  go_wp2_with fail
  refine (times_34 _).mono ?_; rintro e w' ⟨rfl, rfl⟩
  go_wp2_with fail
  refine (times_31 _).mono ?_; rintro e w' ⟨rfl, rfl⟩
  go_wp2
  go_ret
  exact ⟨rfl, ((Below.refl _ _).alloc (Nat.le_refl _) _).alloc (by simp) _⟩
end Go.Proofs.Ytmhcihccliakaaa
