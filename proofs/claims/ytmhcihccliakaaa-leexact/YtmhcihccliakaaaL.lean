/- sums: the walk. -/
import Derived.Test.YtmhcihccliakaaaK
namespace Go.Proofs.Ytmhcihccliakaaa
open Go.RowKit
set_option linter.unusedVariables false

set_option maxRecDepth 100000 in
set_option maxHeartbeats 2000000 in
theorem sums_some (a : Option Addr) (n cap : Nat) (l : List Int) (w : World) (hl : Hid (l.length = n)) (hrow : Hid (RowX w a l)) (hnil : Hid (a = none → cap = 0)) (hn : n ≤ 2000) (hn0 : 0 < n) :
    Calls Try.prog 24 #[.slice a n cap] w fun e w' => e = .returned (.bool true) ∧ Below w.heap.size w w' := by
  obtain ⟨v1, w2, g, c1, w3, v3, w4, r1, r2, r3, k1, k2, o3, k3, k4, hB4, hB3, k5, k6, k7⟩ := sum_start w a n cap l hl.out hrow.out hnil.out hn
  obtain ⟨h, c2, rfl, q1, q2, q3, q4, q5, q6⟩ := own_cellsI o3 hn0
  have HS : Hid (SumSt w g h n l w4) := ⟨hl.out, by have := hB4.size; omega, q2, by omega, k3, by have := hB3.size; omega, k5, k6, fun i hi => q5 i _ (cellsI_at l i (by have := hl.out; omega)), k7, q6, hB3.trans (hB4.mono hB3.size)⟩
  have R1 := hide_ r1
  have R2 := hide_ r2
  have R3 := hide_ r3
  clear r1 r2 r3 o3 k5 k6 k7 q5 q6 hB4 hB3 q1 q2 k3 k4
  have hnm : n ≤ maxLen := by unfold maxLen; omega
  unfold maxLen at k2 q4
  have hnc : (n : Int) ≤ c1 := by omega
  have hnc1 : (n : Int) + 1 ≤ c1 := by omega
  have hnp : (0 : Int) < n := by omega
  go_enter Try.func24, Try.ntmps24
  go_wp2_with (first | (at_builtin; have _t := R1; refine wpList_append_run rfl (.const (.slice none 0 0)) (.tmp 7) 33 33 rfl rfl rfl R1.out ?_; clear R1) | (at_builtin; have _t := R2; refine wpList_append_run rfl (.tmp 8) (.tmp 9) 33 33 rfl rfl rfl R2.out ?_; clear R2) | (at_builtin; refine wpList_append_run rfl (.const (.slice none 0 0)) (.tmp 14) 33 33 rfl rfl rfl R3.out ?_; clear R3))
  go_loopw [5] (fun t wr => ∃ (k : Nat) (m : List Int), k ≤ 2 ∧ t = .int .i64 k ∧ Hid (SumSt w g h n m wr)) (fun t _ => 2 - (intOf t).toNat)
  case atStart => exact ⟨0, l, by omega, rfl, HS⟩
  case round =>
    obtain ⟨k, m, hk, rfl, HM⟩ := hrel
    clear HS
    obtain ⟨wo, hwo⟩ : ∃ wo : World, wo = wr := ⟨_, rfl⟩
    subst hwo
    by_cases hlt : k < 2
    · have hlt' : (k : Int) < 2 := by omega
      obtain ⟨S, hS⟩ : ∃ S, Hid (capH (tot m) = S) := ⟨_, rfl⟩
      have hmk := HM.out.mark
      go_wp2_with fail
      refine (plus_SL _ _ _ m S _ hnm (hide_ HM.out.len) hS HM.out.rowO).mono ?_; rintro e w' ⟨rfl, rfl⟩
      go_wp2_with fail
      refine (rplus_SL _ _ _ m S _ hnm (hide_ HM.out.len) hS HM.out.rowN).mono ?_; rintro e w' ⟨rfl, rfl⟩
      go_wp2_with fail
      clear hmk hS
      go_loopw [6] (fun i wr => ∃ j : Nat, j ≤ n ∧ i = .int .i64 j ∧ Hid (SumSt w g h n m wr)) (fun i _ => n - (intOf i).toNat)
      case atStart => exact ⟨0, Nat.zero_le _, rfl, HM⟩
      case round =>
        obtain ⟨j, hj, rfl, HJ⟩ := hrel
        clear HM
        by_cases hjn : j < n
        · have hj' : (j : Int) < n := by omega
          obtain ⟨q, hq⟩ : ∃ q, Hid (m.getD j 0 = q) := ⟨_, rfl⟩
          have c1' : wr.cell? ⟨g, j, none⟩ = some (.int .i64 q) := by have h0 := HJ.out.own j hjn; rw [Nat.zero_add, hq.out] at h0; exact h0
          have c2' : wr.cell? ⟨h, j, none⟩ = some (.int .i64 q) := by have h0 := HJ.out.now j hjn; rw [Nat.zero_add, hq.out] at h0; exact h0
          have H1 := hide_ c1'
          have H2 := hide_ c2'
          go_wp2_with fail
          go_region_held3 (fun w' => w'.cell? ⟨g, j, none⟩ = some (.int .i64 q) ∧ w'.cell? ⟨h, j, none⟩ = some (.int .i64 q)) (first | assumption | exact ⟨H1.out, H2.out⟩) (first | fail)
          go_wp2
          go_roundw
          case rel => exact ⟨j + 1, by omega, by go_num, HJ.out.drew⟩
          case measure => simp [intOf]; omega
        · obtain ⟨q, hq⟩ : ∃ q, Hid (m.getD 0 0 = q) := ⟨_, rfl⟩
          have hne := HJ.out.ne
          have hne2 : ¬ h = g := fun e => hne e.symm
          have c1' : wr.cell? ⟨g, 0, none⟩ = some (.int .i64 q) := by have h0 := HJ.out.own 0 hn0; rw [Nat.zero_add, hq.out] at h0; exact h0
          have c2' : wr.cell? ⟨h, 0, none⟩ = some (.int .i64 q) := by have h0 := HJ.out.now 0 hn0; rw [Nat.zero_add, hq.out] at h0; exact h0
          have f1' := HJ.out.fg 0
          have f2' := HJ.out.fh 0
          go_wp2
          go_roundw
          case rel => exact ⟨k + 1, m.set 0 (bits BinOp.xor IntKind.i64 q 5), by omega, by go_num, HJ.out.flip hn0 _⟩
          case measure => simp [intOf]; omega
    · go_wp2
      go_ret
      exact ⟨rfl, HM.out.below⟩

set_option maxRecDepth 100000 in
set_option maxHeartbeats 2000000 in
theorem sums_none (a : Option Addr) (cap : Nat) (w : World) (hrow : Hid (RowX w a [])) (hnil : Hid (a = none → cap = 0)) :
    Calls Try.prog 24 #[.slice a 0 cap] w fun e w' => e = .returned (.bool true) ∧ Below w.heap.size w w' := by
  obtain ⟨v1, w2, g, c1, w3, v3, w4, r1, r2, r3, k1, k2, o3, k3, k4, hB4, hB3, k5, k6, k7⟩ := sum_start w a 0 cap [] rfl hrow.out hnil.out (by omega)
  obtain ⟨b', c', rfl⟩ : ∃ b' c', v3 = .slice b' 0 c' := by
    rcases o3.2 with ⟨rfl, _⟩ | ⟨h, c, _, rfl, _⟩
    · exact ⟨_, _, rfl⟩
    · exact ⟨_, _, rfl⟩
  have hBf : Below w.heap.size w w4 := hB3.trans (hB4.mono hB3.size)
  have R1 := hide_ r1
  have R2 := hide_ r2
  have R3 := hide_ r3
  clear r1 r2 r3 o3 k5 k7 hB4 hB3 k3 k4
  unfold maxLen at k2
  have hnc : (0 : Int) ≤ c1 := by omega
  have hnc1 : (1 : Int) ≤ c1 := by omega
  have H0 : Hid (capH (tot []) = 0) := by show _ = _; decide
  have h0m : 0 ≤ maxLen := Nat.zero_le _
  go_enter Try.func24, Try.ntmps24
  go_wp2_with (first | (at_builtin; have _t := R1; refine wpList_append_run rfl (.const (.slice none 0 0)) (.tmp 7) 33 33 rfl rfl rfl R1.out ?_; clear R1) | (at_builtin; have _t := R2; refine wpList_append_run rfl (.tmp 8) (.tmp 9) 33 33 rfl rfl rfl R2.out ?_; clear R2) | (at_builtin; refine wpList_append_run rfl (.const (.slice none 0 0)) (.tmp 14) 33 33 rfl rfl rfl R3.out ?_; clear R3))
  go_loop [5] (fun t => ∃ (k : Nat), k ≤ 2 ∧ t = .int .i64 k) (fun t => 2 - (intOf t).toNat)
  case atStart => exact ⟨0, by omega, rfl⟩
  case round =>
    obtain ⟨k, hk, rfl⟩ := hrel
    by_cases hlt : k < 2
    · have hlt' : (k : Int) < 2 := by omega
      go_wp2_with fail
      refine (plus_SL _ 0 _ [] 0 _ h0m rfl H0 (.inl rfl)).mono ?_; rintro e w' ⟨rfl, rfl⟩
      go_wp2_with fail
      refine (rplus_SL _ 0 _ [] 0 _ h0m rfl H0 (.inl rfl)).mono ?_; rintro e w' ⟨rfl, rfl⟩
      go_wp2_with fail
      go_loop [6] (fun i => i = .int .i64 0) (fun i => 1 - (intOf i).toNat)
      case atStart => exact rfl
      case round =>
        obtain rfl := hrel
        go_wp2
        go_round
        case rel => exact ⟨k + 1, by omega, by go_num⟩
        case measure => simp [intOf]; omega
    · go_wp2
      go_ret
      exact ⟨rfl, hBf⟩
end Go.Proofs.Ytmhcihccliakaaa
