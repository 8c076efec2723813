/- plays: the kinds 1, 3, 6 and others. -/
import Derived.Test.YtgeabhnfkkkbgaaO
namespace Go.Proofs.Ytgeabhnfkkkbgaa
open Go.RowKit
set_option linter.unusedVariables false

def box (kind : Int) (two : Bool) (N : Nat) (a : Option Addr) (len cap : Nat) (C : Int) : Obj := .cells #[.int .i64 kind, .bool two, .int .u64 N, .slice a len cap, .int .u8 C] 52
/-- What one call leaves. -/
def Plays (B bo bp br : Nat) (v : Value) (w w' : World) : Prop :=
  ∃ bp' br' v' st', Hid (BothSt B w' bo bp' br' v' st') ∧ Upd (FB bo bp br v) w w' ∧ ∀ k, FB bo bp' br' v' k → FB bo bp br v k ∨ w.heap.size ≤ k
theorem plays_same {B bo bp br : Nat} {v : Value} {st : St} {w w' : World} (h : BothSt B w bo bp br v st) (hB : Below w.heap.size w w') : Plays B bo bp br v w w' :=
  ⟨bp, br, v, st, h.later hB, Upd.of_below hB, fun k hk => .inl hk⟩

set_option maxHeartbeats 1000000 in
set_option maxRecDepth 100000 in
theorem plays_0 (kind : Int) (two : Bool) (N : Nat) (a : Option Addr) (len cap : Nat) (C : Int) (B bo bp br : Nat) (v : Value) (st : St) (w : World) (h : Hid (BothSt B w bo bp br v st))
    (k1 : ¬ kind = 1) (k2 : ¬ kind = 2) (k3 : ¬ kind = 3) (k4 : ¬ kind = 4) (k5 : ¬ kind = 5) (k6 : ¬ kind = 6) :
    Calls Try.prog 20 #[.pointer (some ⟨bo, 0, none⟩), .agg #[.int .i64 kind, .bool two, .int .u64 N, .slice a len cap, .int .u8 C]] w fun e w' => e = .returned (.bool true) ∧ Hid (Plays B bo bp br v w w') := by
  have d1 : (kind == 1) = false := by simpa using k1
  have d2 : (kind == 2) = false := by simpa using k2
  have d3 : (kind == 3) = false := by simpa using k3
  have d4 : (kind == 4) = false := by simpa using k4
  have d5 : (kind == 5) = false := by simpa using k5
  have d6 : (kind == 6) = false := by simpa using k6
  go_enter Try.func20, Try.ntmps20
  go_wp2
  go_ret
  exact ⟨rfl, plays_same h.out ((Below.refl _ _).alloc (Nat.le_refl _) _)⟩
set_option maxHeartbeats 1000000 in
set_option maxRecDepth 100000 in
theorem plays_6 (two : Bool) (N : Nat) (a : Option Addr) (len cap : Nat) (C : Int) (B bo bp br : Nat) (v : Value) (st : St) (w : World) (h : Hid (BothSt B w bo bp br v st)) :
    Calls Try.prog 20 #[.pointer (some ⟨bo, 0, none⟩), .agg #[.int .i64 6, .bool two, .int .u64 N, .slice a len cap, .int .u8 C]] w fun e w' => e = .returned (.bool true) ∧ Hid (Plays B bo bp br v w w') := by
  go_enter Try.func20, Try.ntmps20
  go_wp2_with fail
  obtain ⟨wB, hwB⟩ : ∃ wB, wB = w.alloc (box 6 two N a len cap C) := ⟨_, rfl⟩
  have hBB : Below w.heap.size w wB := by rw [hwB]; exact (Below.refl _ _).alloc (Nat.le_refl _) _
  unfold box at hwB
  rw [← hwB]
  clear hwB
  refine (tells_any B bo bp br v st _ (h.out.later hBB)).mono ?_; rintro e w2 ⟨rfl, hB2⟩
  go_wp2
  go_ret
  exact ⟨rfl, plays_same h.out (below_to hBB hB2)⟩
set_option maxHeartbeats 4000000 in
set_option maxRecDepth 100000 in
theorem plays_1 (two : Bool) (N : Nat) (a : Option Addr) (len cap : Nat) (C : Int) (B bo bp br : Nat) (v : Value) (st : St) (w : World) (h : Hid (BothSt B w bo bp br v st)) (hN : N < 18446744073709551616) :
    Calls Try.prog 20 #[.pointer (some ⟨bo, 0, none⟩), .agg #[.int .i64 1, .bool two, .int .u64 N, .slice a len cap, .int .u8 C]] w fun e w' => e = .returned (.bool true) ∧ Hid (Plays B bo bp br v w w') := by
  obtain ⟨s, hs⟩ : ∃ s, szN N = s := ⟨_, rfl⟩
  have Hs : Hid (szN N = s) := hs
  have HF : Hid ((form N).length = s) := by show _ = _; rw [form_len N hN, hs]
  clear hs
  go_enter Try.func20, Try.ntmps20
  go_wp2_with fail
  obtain ⟨wB, hwB⟩ : ∃ wB, wB = w.alloc (box 1 two N a len cap C) := ⟨_, rfl⟩
  have hBB : Below w.heap.size w wB := by rw [hwB]; exact (Below.refl _ _).alloc (Nat.le_refl _) _
  have hc2 : wB.cell? ⟨w.heap.size, 2, none⟩ = some (.int .u64 N) := by rw [hwB]; unfold box; simp [go_sem]
  have hbl : w.heap.size < wB.heap.size := World.block_lt_of_cell? wB _ hc2
  have C2 : Hid (∀ w', Below wB.heap.size wB w' → w'.cell? ⟨w.heap.size, 2, none⟩ = some (.int .u64 N)) := fun w' hB => by
    rw [hB.cell (p := ⟨w.heap.size, 2, none⟩) hbl]; exact hc2
  unfold box at hwB
  rw [← hwB]
  clear hwB
  have hB0 := Below.refl wB.heap.size wB
  go_region_held3 (fun w' => w'.cell? ⟨w.heap.size, 2, none⟩ = some (.int .u64 N) ∧ Below wB.heap.size wB w') (first | assumption | (refine ⟨C2.out _ ?_, ?_⟩ <;> first | assumption | exact hB0.drew))
    (first
      | (go_at_call 9; refine (put_at N s _ hN Hs.out).mono ?_; rintro e w5 ⟨g5, rfl, hg5, HK5, hB5⟩; have hB45 := below_to (And.right (by assumption : _ ∧ Below wB.heap.size wB _)) hB5)
      | (go_at_call 26; refine (rput_any N _ hN).mono ?_; rintro e w6 ⟨g6, c6, rfl, HK6, hB6⟩; rw [HF.out]; have hB46 := below_to (And.right (by assumption : _ ∧ Below wB.heap.size wB _)) hB6)
      | (go_at_call 13; refine (same_yes _ s _ _ s _ (form N) _ HF.out HF.out HK5.out.row (HK6.out.later hB5)).mono ?_; rintro e w' ⟨rfl, rfl⟩)
      | (go_at_call 13; refine (same_yes _ s _ _ s _ (form N) _ HF.out HF.out (HK5.out.later hB6).row HK6.out).mono ?_; rintro e w' ⟨rfl, rfl⟩)
      | (go_at_call 10; refine (size_at N s _ hN Hs.out).mono ?_; rintro e w' ⟨rfl, rfl⟩)
      | (go_at_call 27; refine (rsize_any N _ hN).mono ?_; rintro e w7 ⟨rfl, hB7⟩; rw [Hs.out]; have hB47 := below_to (And.right (by assumption : _ ∧ Below wB.heap.size wB _)) hB7))
  all_goals
    go_wp2
    go_ret
    exact ⟨rfl, plays_same h.out (below_to hBB (by assumption))⟩
end Go.Proofs.Ytgeabhnfkkkbgaa
