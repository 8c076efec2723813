/- TokensFront. -/
import Derived.Test.YtoodafhljgdghaaQ
namespace Go.Proofs.Ytoodafhljgdghaa
open Go.RowKit
set_option linter.unusedVariables false

theorem front_plain {s : ByteArray} {ts0 : List Tk} {E A : Nat} (t : ByteArray) (h : cutT s = (ts0, E, A)) : (E = 0 → A = 0) ∧ (E = 4 → A = 0) ∧ (E ≠ 0 → E ≠ 4 → A < s.size ∧ s.size ≤ 65536 ∧ ∃ ts, cutT (s.extract 0 A) = (ts, 0, 0) ∧
    ∀ (x : ByteArray), x.data.toList = s.data.toList.take A ++ 32 :: t.data.toList → ∀ us E2 A2, cutT x = (us, E2, A2) → (E2 ≠ 0 → (E2 = 4 ∧ 65536 < x.size) ∨ A < A2) ∧ (E2 = 0 → ∃ r, us = ts ++ r)) := by
  unfold cutT at h
  by_cases hs : 65536 < s.size
  · rw [if_pos hs] at h
    obtain ⟨rfl, rfl, rfl⟩ : [] = ts0 ∧ 4 = E ∧ 0 = A := by simpa using h
    exact ⟨fun _ => rfl, fun _ => rfl, fun _ h => absurd rfl h⟩
  · rw [if_neg hs] at h
    have hf := cut_form s.data.toList 0
    have hp := fronts s.data.toList 0
    rw [h] at hf hp
    refine ⟨hf.2, fun h4 => ?_, fun h0 h4 => ?_⟩
    · subst h4
      have := (hf.1 (by simp)).2.2.2
      simp only at this
      omega
    · have hA := (hf.1 h0).2.2.1
      simp only [Nat.zero_add] at hA
      rw [← Lib.size_eq] at hA
      obtain ⟨ts, k1, k2⟩ := hp h0
      simp only [Nat.sub_zero] at k1 k2
      have e1 : (s.extract 0 A).data.toList = s.data.toList.take A := by rw [Lib.extract_data]; simp
      have e2 : (s.extract 0 A).size = A := by rw [Lib.size_eq, e1, List.length_take, ← Lib.size_eq]; omega
      refine ⟨hA, by omega, ts, by rw [cutT, if_neg (by omega), e1]; exact k1, fun x hx us E2 A2 h2 => ?_⟩
      unfold cutT at h2
      by_cases hx2 : 65536 < x.size
      · rw [if_pos hx2] at h2
        obtain ⟨rfl, rfl, rfl⟩ : [] = us ∧ 4 = E2 ∧ 0 = A2 := by simpa using h2
        exact ⟨fun _ => .inl ⟨rfl, hx2⟩, fun h => by cases h⟩
      · rw [if_neg hx2, hx] at h2
        have k3 := k2 32 t.data.toList rfl
        rw [h2] at k3
        exact ⟨fun h => .inr (k3.1 h), k3.2⟩
set_option maxRecDepth 100000 in
set_option maxHeartbeats 8000000 in
theorem front_any (s t : ByteArray) (w : World) (ht0 : t.size ≤ 140737488351232) : Calls Try.prog 3 #[.string s, .string t] w fun e w' => e = .returned (.bool true) ∧ Below w.heap.size w w' := by
  obtain ⟨⟨ts0, E, A⟩, hR⟩ : ∃ R, cutT s = R := ⟨_, rfl⟩
  have HR := hide_ hR
  obtain ⟨p1, p2, p3⟩ := front_plain t hR
  clear hR
  go_enter Try.func3, Try.ntmps3
  go_wp2_with fail
  refine (first_any w).mono ?_; rintro e w1 ⟨rfl, hB1⟩
  have HB1 := hide_ hB1
  clear hB1
  go_wp2_with fail
  refine (cut_is HR.out w1).mono ?_; rintro e w2 ⟨a, cap, rfl, -, -, -, HB2⟩
  have HB2 := hide_ (HB1.out.trans (HB2.out.mono HB1.out.size))
  have HK2 := hide_ (Blk.newA w2 #[.int .i64 E, .int .i64 A] 26)
  have HB3 := hide_ (HB2.out.alloc HB2.out.size (.cells #[.int .i64 E, .int .i64 A] 26))
  clear HB1 HB2 HR
  by_cases h0 : E = 0
  · obtain rfl := p1 h0
    subst h0
    clear p1 p2 p3
    go_wp2
    go_ret
    exact ⟨rfl, HB3.out⟩
  by_cases h4 : E = 4
  · obtain rfl := p2 h4
    subst h4
    clear p1 p2 p3
    go_wp2
    go_ret
    exact ⟨rfl, HB3.out⟩
  obtain ⟨hA, hs, ts, hC, hL⟩ := p3 h0 h4
  have h0b : ((E : Int) == 0) = false := by simp; exact h0
  have h4b : ((E : Int) == 4) = false := by simp; omega
  have hA' : (A : Int) < s.size := by omega
  have hA0 : ¬ (A : Int) < 0 := by omega
  have hsum : ¬ (9223372036854775807 < min A s.size + 1 + t.size) := by omega
  have HC := hide_ hC
  have HL := hide_ hL
  clear p1 p2 p3 hC hL
  go_upto_region 8 with fail
  generalize hw3 : w2.alloc (.cells #[.int .i64 E, .int .i64 A] 26) = w3 at *
  clear hw3
  have e0 := HK2.out.cell 0; have e1 := HK2.out.cell 1
  simp at e0 e1
  go_wp2_with fail
  refine (cut_is HC.out w3).mono ?_; rintro e w4 ⟨a4, c4, rfl, hc4, HT4, -, HB4⟩
  have HK4 := hide_ (HK2.out.later HB4.out)
  have HB5 := hide_ (HB3.out.trans (HB4.out.mono HB3.out.size))
  have HK5 := hide_ (HK4.out.alloc (.cells #[.int .i64 0, .int .i64 0] 26))
  have HB6 := hide_ (HB5.out.alloc HB5.out.size (.cells #[.int .i64 0, .int .i64 0] 26))
  have HT6 := hide_ (HT4.out.later ((Below.refl _ w4).alloc (Nat.le_refl _) (.cells #[.int .i64 0, .int .i64 0] 26)))
  clear HK2 HB3 HB4 HK4 HB5 HT4 e0 e1
  go_upto_region 11 with fail
  generalize hw5 : w4.alloc (.cells #[.int .i64 0, .int .i64 0] 26) = w5 at *
  clear hw5
  have e0 := HK5.out.cell 0; have e1 := HK5.out.cell 1
  simp at e0 e1
  go_upto_region 12 with fail
  obtain ⟨x, hx⟩ : ∃ x, s.extract 0 A ++ ⟨#[32]⟩ ++ t = x := ⟨_, rfl⟩
  have hxl : x.data.toList = s.data.toList.take A ++ 32 :: t.data.toList := by
    rw [← hx]
    simp [ByteArray.data_append]
  rw [hx]
  clear hx
  obtain ⟨⟨us, E2, A2⟩, hR2⟩ : ∃ R, cutT x = R := ⟨_, rfl⟩
  obtain ⟨q1, q2⟩ := HL.out x hxl us E2 A2 hR2
  have hfew := cut_few x
  rw [hR2] at hfew
  have hfew : us.length ≤ 65536 := hfew
  have HR2 := hide_ hR2
  clear hR2 HL hxl
  go_wp2_with fail
  refine (cut_is HR2.out w5).mono ?_; rintro e w6 ⟨a6, c6, rfl, hc6, HTu, -, HB7⟩
  have HK6 := hide_ (HK5.out.later HB7.out)
  have HB8 := hide_ (HB6.out.trans (HB7.out.mono HB6.out.size))
  have HT8 := hide_ (HT6.out.later HB7.out)
  have HK9 := hide_ (HK6.out.alloc (.cells #[.int .i64 E2, .int .i64 A2] 26))
  have HK10 := hide_ (Blk.newA w6 #[.int .i64 E2, .int .i64 A2] 26)
  have HB9 := hide_ (HB8.out.alloc HB8.out.size (.cells #[.int .i64 E2, .int .i64 A2] 26))
  have HT9 := hide_ (HT8.out.later ((Below.refl _ w6).alloc (Nat.le_refl _) (.cells #[.int .i64 E2, .int .i64 A2] 26)))
  have HT10 := hide_ (HTu.out.later ((Below.refl _ w6).alloc (Nat.le_refl _) (.cells #[.int .i64 E2, .int .i64 A2] 26)))
  clear HK5 HB6 HT6 HB7 HK6 HB8 HT8 HTu HC HR2 e0 e1
  go_upto_region 13 with fail
  generalize hw7 : w6.alloc (.cells #[.int .i64 E2, .int .i64 A2] 26) = w7 at *
  clear hw7
  have e0 := HK9.out.cell 0; have e1 := HK9.out.cell 1
  have g0 := HK10.out.cell 0; have g1 := HK10.out.cell 1
  simp at e0 e1 g0 g1
  by_cases hE2 : E2 = 0
  · obtain ⟨r, rfl⟩ := q2 hE2
    subst hE2
    have HS := hide_ (same_any a6 a4 ts.length c6 c4 ts w7 rfl (by simp at hfew; omega) (by have := HT10.out.take ts.length; rw [List.take_left'] at this; exact this; rfl) HT9)
    have hle : ((ts.length : Nat) : Int) ≤ ((ts ++ r).length : Nat) := by simp; omega
    have hcp : ((ts ++ r).length : Int) ≤ c6 := by omega
    have hcp2 : (ts.length : Int) ≤ c6 := by omega
    obtain ⟨N, hN⟩ : ∃ N, (ts ++ r).length = N := ⟨_, rfl⟩
    rw [hN] at hle hcp
    rw [hN]
    clear q1 q2 HT9 HT10 hN
    go_wp2_with fail
    refine HS.out.mono ?_; rintro e w8 ⟨rfl, hB8⟩
    go_wp2
    go_ret
    exact ⟨rfl, HB9.out.trans (hB8.mono HB9.out.size)⟩
  · have hE2b : ((E2 : Int) == 0) = false := by simp; exact hE2
    rcases q1 hE2 with ⟨h5, h6⟩ | h5
    · subst h5
      have h6' : (65536 : Int) < x.size := by omega
      clear q1 q2 HT9 HT10
      go_wp2
      go_ret
      exact ⟨rfl, HB9.out⟩
    · have h5' : (A : Int) < A2 := by omega
      clear q1 q2 HT9 HT10
      by_cases h7 : E2 = 4
      · subst h7
        by_cases h8 : (65536 : Int) < x.size
        all_goals
          go_wp2
          go_ret
          exact ⟨by first | rfl | simp [h5'] | simp, HB9.out⟩
      · have h7b : ((E2 : Int) == 4) = false := by simp; omega
        go_wp2
        go_ret
        exact ⟨by first | rfl | simp [h5'] | simp, HB9.out⟩
end Go.Proofs.Ytoodafhljgdghaa
