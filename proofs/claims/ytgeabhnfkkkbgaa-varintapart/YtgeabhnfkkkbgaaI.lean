/- VarintOrder's walk. -/
import Derived.Test.YtgeabhnfkkkbgaaH
namespace Go.Proofs.Ytgeabhnfkkkbgaa
open Go.RowKit
set_option linter.unusedVariables false

theorem size_at (n s : Nat) (w : World) (h : n < 18446744073709551616) (hs : szN n = s) :
    Calls Try.prog 10 #[.int .u64 n] w fun e w' => e = .returned (.int .i64 s) ∧ w = w' := hs ▸ size_any n w h
theorem put_at (n s : Nat) (w : World) (hn : n < 18446744073709551616) (hs : szN n = s) :
    Calls Try.prog 9 #[.int .u64 n] w fun e w' => ∃ g, e = .returned (.slice (some ⟨g, 0, none⟩) s s) ∧ w.heap.size ≤ g ∧ Hid (Blk w' g 5 (cellsL .u8 (form n))) ∧ Below w.heap.size w w' := by
  rw [← hs, ← form_len n hn]
  exact put_any n w hn
theorem shr_zero (a s : Nat) (h : Sz a s) : (a : Int) / 2 ^ (7 * s) = 0 := by
  have h2 := h.2.1
  rw [pow128] at h2
  have : a / 2 ^ (7 * s) = 0 := Nat.div_eq_of_lt h2
  exact_mod_cast this
theorem shr_some (a s : Nat) (h : Sz a s) (h1 : s ≠ 1) : ¬ (a : Int) / 2 ^ (7 * (s - 1)) = 0 := by
  have h2 := h.2.2.resolve_left h1
  rw [pow128] at h2
  have : 1 ≤ a / 2 ^ (7 * (s - 1)) := (Nat.le_div_iff_mul_le (Nat.pow_pos (by omega))).2 (by omega)
  intro e
  have e2 : ((a / 2 ^ (7 * (s - 1)) : Nat) : Int) = 0 := by exact_mod_cast e
  omega
set_option maxHeartbeats 1000000 in
set_option maxRecDepth 100000 in
theorem order_any (a b : Nat) (w : World) (ha : a < 18446744073709551616) (hb : b < 18446744073709551616) :
    Calls Try.prog 5 #[.int .u64 a, .int .u64 b] w fun e w' => e = .returned (.bool true) ∧ Below w.heap.size w w' := by
  have za := szN_ok a ha
  have zb := szN_ok b hb
  have ta := za.ten ha
  have tb := zb.ten hb
  have oa := za.1
  have ob := zb.1
  have h0 := shr_zero a _ za
  have h1 := shr_some a _ za
  have HL : a ≤ b → szN a ≤ szN b := za.le zb
  have HG : b ≤ a → szN b ≤ szN a := zb.le za
  obtain ⟨s, hs⟩ : ∃ s, szN a = s := ⟨_, rfl⟩
  obtain ⟨t, ht⟩ : ∃ t, szN b = t := ⟨_, rfl⟩
  have Hs : Hid (szN a = s) := hs
  have Ht : Hid (szN b = t) := ht
  rw [hs] at ta oa h0 h1 HL HG
  rw [ht] at tb ob HL HG
  clear hs ht za zb
  by_cases hab : (b : Int) < a
  · have HG := HG (by omega)
    clear HL
    have hts : ¬ (t : Int) > s := by omega
    go_enter Try.func5, Try.ntmps5
    go_wp2_with fail
    refine (awake_any _).mono ?_; rintro e w1 ⟨rfl, hB1⟩
    go_wp2_with fail
    refine (size_at b t _ hb Ht.out).mono ?_; rintro e w' ⟨rfl, rfl⟩
    go_wp2_with fail
    refine (size_at a s _ ha Hs.out).mono ?_; rintro e w' ⟨rfl, rfl⟩
    go_wp2_with fail
    refine (put_at b t _ hb Ht.out).mono ?_; rintro e w2 ⟨g, rfl, -, -, hB2⟩
    go_wp2_with fail
    refine (size_at a s _ ha Hs.out).mono ?_; rintro e w' ⟨rfl, rfl⟩
    have hB := below_to hB1 hB2
    clear hB1 hB2
    by_cases hs1 : s = 1
    · subst hs1
      go_wp2
      go_ret
      exact ⟨rfl, hB⟩
    · have h1 := h1 hs1
      by_cases hs10 : (s : Int) < 10
      · go_wp2
        go_ret
        exact ⟨ret_bool (by simp [h1]), hB⟩
      · go_wp2
        go_ret
        exact ⟨ret_bool (by simp [h1]), hB⟩
  · have HL := HL (by omega)
    clear HG
    have hts : ¬ (s : Int) > t := by omega
    by_cases heq : (a : Int) < b
    · skip
      go_enter Try.func5, Try.ntmps5
      go_wp2_with fail
      refine (awake_any _).mono ?_; rintro e w1 ⟨rfl, hB1⟩
      go_wp2_with fail
      refine (size_at a s _ ha Hs.out).mono ?_; rintro e w' ⟨rfl, rfl⟩
      go_wp2_with fail
      refine (size_at b t _ hb Ht.out).mono ?_; rintro e w' ⟨rfl, rfl⟩
      go_wp2_with fail
      refine (put_at a s _ ha Hs.out).mono ?_; rintro e w2 ⟨g, rfl, -, -, hB2⟩
      go_wp2_with fail
      refine (size_at a s _ ha Hs.out).mono ?_; rintro e w' ⟨rfl, rfl⟩
      have hB := below_to hB1 hB2
      clear hB1 hB2
      by_cases hs1 : s = 1
      · subst hs1
        go_wp2
        go_ret
        exact ⟨rfl, hB⟩
      · have h1 := h1 hs1
        by_cases hs10 : (s : Int) < 10
        · go_wp2
          go_ret
          exact ⟨ret_bool (by simp [h1]), hB⟩
        · go_wp2
          go_ret
          exact ⟨ret_bool (by simp [h1]), hB⟩
    · obtain rfl : a = b := by omega
      go_enter Try.func5, Try.ntmps5
      go_wp2_with fail
      refine (awake_any _).mono ?_; rintro e w1 ⟨rfl, hB1⟩
      go_wp2_with fail
      refine (size_at a s _ ha Hs.out).mono ?_; rintro e w' ⟨rfl, rfl⟩
      go_wp2_with fail
      refine (size_at a t _ ha Ht.out).mono ?_; rintro e w' ⟨rfl, rfl⟩
      go_wp2_with fail
      refine (put_at a s _ ha Hs.out).mono ?_; rintro e w2 ⟨g, rfl, -, -, hB2⟩
      go_wp2_with fail
      refine (size_at a s _ ha Hs.out).mono ?_; rintro e w' ⟨rfl, rfl⟩
      have hB := below_to hB1 hB2
      clear hB1 hB2
      by_cases hs1 : s = 1
      · subst hs1
        go_wp2
        go_ret
        exact ⟨rfl, hB⟩
      · have h1 := h1 hs1
        by_cases hs10 : (s : Int) < 10
        · go_wp2
          go_ret
          exact ⟨ret_bool (by simp [h1]), hB⟩
        · go_wp2
          go_ret
          exact ⟨ret_bool (by simp [h1]), hB⟩
end Go.Proofs.Ytgeabhnfkkkbgaa
