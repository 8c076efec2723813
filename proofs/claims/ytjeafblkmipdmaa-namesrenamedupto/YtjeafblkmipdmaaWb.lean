/- Check: a node. -/
import Derived.Test.YtjeafblkmipdmaaWa
namespace Go.Proofs.Ytjeafblkmipdmaa
open Go.RowKit
set_option linter.unusedVariables false

def nodeE (k n : Int) (nm lb : ByteArray) (tg kd of : Int) (dp : Nat) : Int :=
  if 16 < dp then 61 else if (k = 8 ∨ k = 7) ∧ 64 < kd then 5
  else if kindOk k n kd = false ∨ nameOk nm (decide (k = 9)) = false ∨ nameOk lb (decide (of = 8)) = false then 62
  else if tg ≠ 0 ∧ (of ≠ 7 ∨ numB tg = false) then 62 else 0
set_option maxRecDepth 100000 in
set_option maxHeartbeats 4000000 in
theorem cnode_any (k n : Int) (nm lb : ByteArray) (tg kd at_ of : Int) (dp : Nat) (w : World) : Calls Try.prog 34 #[.agg #[.int .i64 k, .int .i64 n, .string nm, .string lb, .int .i64 tg, .int .i64 kd, .int .i64 at_], .int .i64 of, .int .i64 (dp : Int)] w fun e w' => e = .returned (.int .i64 (nodeE k n nm lb tg kd of dp)) ∧ Below w.heap.size w w' := by
  have HB : Hid (∀ o, Below w.heap.size w (w.alloc o)) := fun o => (Below.refl _ _).alloc (Nat.le_refl _) _
  obtain ⟨E, hE⟩ : ∃ E, nodeE k n nm lb tg kd of dp = E := ⟨_, rfl⟩
  have HE := hide_ hE
  rw [hE]
  clear hE
  by_cases hd : 16 < dp
  · have hd' : (16 : Int) < dp := by omega
    have HV : Hid (E = 61) := hide_ (by rw [← HE.out]; unfold nodeE; rw [if_pos hd])
    clear HE
    go_enter Try.func34, Try.ntmps34
    go_wp2
    go_ret
    exact ⟨by rw [HV.out]; rfl, HB.out _⟩
  have hd' : ¬ (16 : Int) < dp := by omega
  by_cases hm : (k = 8 ∨ k = 7) ∧ 64 < kd
  · have HV : Hid (E = 5) := hide_ (by rw [← HE.out]; unfold nodeE; rw [if_neg hd, if_pos hm])
    clear HE
    obtain ⟨hk, hkd⟩ := hm
    rcases hk with rfl | rfl <;> (
      go_enter Try.func34, Try.ntmps34
      go_wp2
      go_ret
      exact ⟨by rw [HV.out]; rfl, HB.out _⟩)
  have HKb := hide_ (Blk.newA w #[.int .i64 k, .int .i64 n, .string nm, .string lb, .int .i64 tg, .int .i64 kd, .int .i64 at_] 38)
  obtain ⟨b1, hb1⟩ : ∃ b, kindOk k n kd = b := ⟨_, rfl⟩
  obtain ⟨b2, hb2⟩ : ∃ b, nameOk nm (decide (k = 9)) = b := ⟨_, rfl⟩
  obtain ⟨b3, hb3⟩ : ∃ b, nameOk lb (decide (of = 8)) = b := ⟨_, rfl⟩
  obtain ⟨b4, hb4⟩ : ∃ b, numB tg = b := ⟨_, rfl⟩
  have hk4 : (k = 8 ∧ kd ≤ 64) ∨ (k = 7 ∧ kd ≤ 64) ∨ k = 9 ∨ (k ≠ 8 ∧ k ≠ 7 ∧ k ≠ 9 ∧ (k == 9) = false) := by
    by_cases e9 : k = 9
    · exact .inr (.inr (.inl e9))
    · have e9' : (k == 9) = false := by simpa using e9
      have : (k = 8 ∧ kd ≤ 64) ∨ (k = 7 ∧ kd ≤ 64) ∨ (k ≠ 8 ∧ k ≠ 7) := by omega
      rcases this with h | h | h
      · exact .inl h
      · exact .inr (.inl h)
      · exact .inr (.inr (.inr ⟨h.1, h.2, e9, e9'⟩))
  have HE1 : Hid (E = if b1 = false ∨ b2 = false ∨ b3 = false then 62 else if tg ≠ 0 ∧ (of ≠ 7 ∨ b4 = false) then 62 else 0) := hide_ (by rw [← HE.out]; unfold nodeE; rw [if_neg hd, if_neg hm, hb1, hb2, hb3, hb4])
  clear HE hm hd
  have HC : Hid (∀ w', Below (w.heap.size + 1) (w.alloc (.cells #[.int .i64 k, .int .i64 n, .string nm, .string lb, .int .i64 tg, .int .i64 kd, .int .i64 at_] 38)) w' → w'.cell? ⟨w.heap.size, 0, none⟩ = some (.int .i64 k) ∧ w'.cell? ⟨w.heap.size, 2, none⟩ = some (.string nm) ∧ w'.cell? ⟨w.heap.size, 3, none⟩ = some (.string lb) ∧ w'.cell? ⟨w.heap.size, 4, none⟩ = some (.int .i64 tg) ∧ Below w.heap.size w w') := fun w' hB => by
    have hB' : Below (w.alloc (.cells #[.int .i64 k, .int .i64 n, .string nm, .string lb, .int .i64 tg, .int .i64 kd, .int .i64 at_] 38)).heap.size (w.alloc (.cells #[.int .i64 k, .int .i64 n, .string nm, .string lb, .int .i64 tg, .int .i64 kd, .int .i64 at_] 38)) w' := by simpa using hB
    have h := HKb.out.later hB'
    exact ⟨h.cell 0, h.cell 2, h.cell 3, h.cell 4, below_to (HB.out _) hB'⟩
  cases b1 with
  | false =>
    have HV : Hid (E = 62) := hide_ (by rw [HE1.out]; simp)
    clear HE1 hb2 hb3 hb4
    rcases hk4 with ⟨rfl, h64⟩ | ⟨rfl, h64⟩ | rfl | ⟨h8, h7, h9, h9'⟩ <;> (
      go_enter Try.func34, Try.ntmps34
      go_wp2_with (go_at_call 40; refine (rkind_any _ _ _ _ _ _ _ _).mono ?_; rintro e w2 ⟨rfl, hB2⟩; (obtain ⟨-, -, -, -, hBz⟩ := HC.out w2 (by simpa using hB2)); rw [hb1])
      go_ret
      exact ⟨by rw [HV.out]; rfl, hBz⟩)
  | true =>
    cases b2 with
    | false =>
      have HV : Hid (E = 62) := hide_ (by rw [HE1.out]; simp)
      clear HE1 hb3 hb4
      rcases hk4 with ⟨rfl, h64⟩ | ⟨rfl, h64⟩ | rfl | ⟨h8, h7, h9, h9'⟩ <;> first | simp only [h9, decide_false] at hb2 | simp at hb2
      all_goals
        go_enter Try.func34, Try.ntmps34
        go_wp2_with (first | (go_at_call 40; refine (rkind_any _ _ _ _ _ _ _ _).mono ?_; rintro e w2 ⟨rfl, hB2⟩; (obtain ⟨c0, c2, c3, c4, hBz⟩ := HC.out w2 (by simpa using hB2)); rw [hb1]) | (go_at_call 41; refine (rname_any _ _ _).mono ?_; rintro e w3 ⟨rfl, rfl⟩; rw [hb2]))
        go_ret
        exact ⟨by rw [HV.out]; rfl, hBz⟩
    | true =>
      have hk5 : (k = 8 ∧ kd ≤ 64 ∧ nameOk nm false = true) ∨ (k = 7 ∧ kd ≤ 64 ∧ nameOk nm false = true) ∨ (k = 9 ∧ nameOk nm true = true) ∨ (k ≠ 8 ∧ k ≠ 7 ∧ k ≠ 9 ∧ (k == 9) = false ∧ nameOk nm false = true) := by
        rcases hk4 with ⟨rfl, h⟩ | ⟨rfl, h⟩ | rfl | ⟨h8, h7, h9, h9'⟩
        · exact .inl ⟨rfl, h, hb2⟩
        · exact .inr (.inl ⟨rfl, h, hb2⟩)
        · exact .inr (.inr (.inl ⟨rfl, hb2⟩))
        · simp only [h9, decide_false] at hb2
          exact .inr (.inr (.inr ⟨h8, h7, h9, h9', hb2⟩))
      clear hk4 hb2
      cases b3 with
      | false =>
        have HV : Hid (E = 62) := hide_ (by rw [HE1.out]; simp)
        clear HE1 hb4
        have ho : (of = 8 ∧ nameOk lb true = false) ∨ (of ≠ 8 ∧ (of == 8) = false ∧ nameOk lb false = false) := by
          by_cases h : of = 8
          · subst h; exact .inl ⟨rfl, hb3⟩
          · simp only [h, decide_false] at hb3
            exact .inr ⟨h, by simpa using h, hb3⟩
        clear hb3
        rcases ho with ⟨rfl, hb3⟩ | ⟨ho, ho', hb3⟩ <;> rcases hk5 with ⟨rfl, h64, hb2⟩ | ⟨rfl, h64, hb2⟩ | ⟨rfl, hb2⟩ | ⟨h8, h7, h9, h9', hb2⟩
        all_goals
          go_enter Try.func34, Try.ntmps34
          go_wp2_with (first | (go_at_call 40; refine (rkind_any _ _ _ _ _ _ _ _).mono ?_; rintro e w2 ⟨rfl, hB2⟩; (obtain ⟨c0, c2, c3, c4, hBz⟩ := HC.out w2 (by simpa using hB2)); rw [hb1]) | (go_at_call_of 41 (Value.string nm); refine (rname_any nm _ _).mono ?_; rintro e w3 ⟨rfl, rfl⟩; rw [hb2]) | (go_at_call 41; refine (rname_any lb _ _).mono ?_; rintro e w3 ⟨rfl, rfl⟩; rw [hb3]) | (go_at_call 42; refine (isnum_any _ _).mono ?_; rintro e w3 ⟨rfl, rfl⟩; rw [hb4]))
          go_ret
          exact ⟨by rw [HV.out]; rfl, hBz⟩
      | true =>
        have ho : (of = 8 ∧ nameOk lb true = true) ∨ (of = 7 ∧ (of == 8) = false ∧ nameOk lb false = true) ∨ (of ≠ 8 ∧ of ≠ 7 ∧ (of == 8) = false ∧ nameOk lb false = true) := by
          by_cases h : of = 8
          · subst h; exact .inl ⟨rfl, hb3⟩
          · simp only [h, decide_false] at hb3
            by_cases h7 : of = 7
            · exact .inr (.inl ⟨h7, by simpa using h, hb3⟩)
            · exact .inr (.inr ⟨h, h7, by simpa using h, hb3⟩)
        clear hb3
        by_cases ht : tg = 0
        · have HV : Hid (E = 0) := hide_ (by rw [HE1.out, ht]; simp)
          clear HE1
          subst ht
          rcases ho with ⟨rfl, hb3⟩ | ⟨rfl, ho', hb3⟩ | ⟨ho, ho7, ho', hb3⟩ <;> rcases hk5 with ⟨rfl, h64, hb2⟩ | ⟨rfl, h64, hb2⟩ | ⟨rfl, hb2⟩ | ⟨h8, h7, h9, h9', hb2⟩
          all_goals
            go_enter Try.func34, Try.ntmps34
            go_wp2_with (first | (go_at_call 40; refine (rkind_any _ _ _ _ _ _ _ _).mono ?_; rintro e w2 ⟨rfl, hB2⟩; (obtain ⟨c0, c2, c3, c4, hBz⟩ := HC.out w2 (by simpa using hB2)); rw [hb1]) | (go_at_call_of 41 (Value.string nm); refine (rname_any nm _ _).mono ?_; rintro e w3 ⟨rfl, rfl⟩; rw [hb2]) | (go_at_call 41; refine (rname_any lb _ _).mono ?_; rintro e w3 ⟨rfl, rfl⟩; rw [hb3]) | (go_at_call 42; refine (isnum_any _ _).mono ?_; rintro e w3 ⟨rfl, rfl⟩; rw [hb4]))
            go_ret
            exact ⟨by rw [HV.out]; rfl, hBz⟩
        · rcases ho with ⟨rfl, hb3⟩ | ⟨rfl, ho', hb3⟩ | ⟨ho, ho7, ho', hb3⟩
          · have HV : Hid (E = 62) := hide_ (by rw [HE1.out]; simp [ht])
            clear HE1
            rcases hk5 with ⟨rfl, h64, hb2⟩ | ⟨rfl, h64, hb2⟩ | ⟨rfl, hb2⟩ | ⟨h8, h7, h9, h9', hb2⟩
            all_goals
              go_enter Try.func34, Try.ntmps34
              go_wp2_with (first | (go_at_call 40; refine (rkind_any _ _ _ _ _ _ _ _).mono ?_; rintro e w2 ⟨rfl, hB2⟩; (obtain ⟨c0, c2, c3, c4, hBz⟩ := HC.out w2 (by simpa using hB2)); rw [hb1]) | (go_at_call_of 41 (Value.string nm); refine (rname_any nm _ _).mono ?_; rintro e w3 ⟨rfl, rfl⟩; rw [hb2]) | (go_at_call 41; refine (rname_any lb _ _).mono ?_; rintro e w3 ⟨rfl, rfl⟩; rw [hb3]) | (go_at_call 42; refine (isnum_any _ _).mono ?_; rintro e w3 ⟨rfl, rfl⟩; rw [hb4]))
              go_ret
              exact ⟨by rw [HV.out]; rfl, hBz⟩
          · cases b4 with
            | false =>
              have HV : Hid (E = 62) := hide_ (by rw [HE1.out]; simp [ht])
              clear HE1
              rcases hk5 with ⟨rfl, h64, hb2⟩ | ⟨rfl, h64, hb2⟩ | ⟨rfl, hb2⟩ | ⟨h8, h7, h9, h9', hb2⟩
              all_goals
                go_enter Try.func34, Try.ntmps34
                go_wp2_with (first | (go_at_call 40; refine (rkind_any _ _ _ _ _ _ _ _).mono ?_; rintro e w2 ⟨rfl, hB2⟩; (obtain ⟨c0, c2, c3, c4, hBz⟩ := HC.out w2 (by simpa using hB2)); rw [hb1]) | (go_at_call_of 41 (Value.string nm); refine (rname_any nm _ _).mono ?_; rintro e w3 ⟨rfl, rfl⟩; rw [hb2]) | (go_at_call 41; refine (rname_any lb _ _).mono ?_; rintro e w3 ⟨rfl, rfl⟩; rw [hb3]) | (go_at_call 42; refine (isnum_any _ _).mono ?_; rintro e w3 ⟨rfl, rfl⟩; rw [hb4]))
                go_ret
                exact ⟨by rw [HV.out]; rfl, hBz⟩
            | true =>
              have HV : Hid (E = 0) := hide_ (by rw [HE1.out]; simp)
              clear HE1
              rcases hk5 with ⟨rfl, h64, hb2⟩ | ⟨rfl, h64, hb2⟩ | ⟨rfl, hb2⟩ | ⟨h8, h7, h9, h9', hb2⟩
              all_goals
                go_enter Try.func34, Try.ntmps34
                go_wp2_with (first | (go_at_call 40; refine (rkind_any _ _ _ _ _ _ _ _).mono ?_; rintro e w2 ⟨rfl, hB2⟩; (obtain ⟨c0, c2, c3, c4, hBz⟩ := HC.out w2 (by simpa using hB2)); rw [hb1]) | (go_at_call_of 41 (Value.string nm); refine (rname_any nm _ _).mono ?_; rintro e w3 ⟨rfl, rfl⟩; rw [hb2]) | (go_at_call 41; refine (rname_any lb _ _).mono ?_; rintro e w3 ⟨rfl, rfl⟩; rw [hb3]) | (go_at_call 42; refine (isnum_any _ _).mono ?_; rintro e w3 ⟨rfl, rfl⟩; rw [hb4]))
                go_ret
                exact ⟨by rw [HV.out]; rfl, hBz⟩
          · have HV : Hid (E = 62) := hide_ (by rw [HE1.out]; simp [ht, ho7])
            clear HE1
            rcases hk5 with ⟨rfl, h64, hb2⟩ | ⟨rfl, h64, hb2⟩ | ⟨rfl, hb2⟩ | ⟨h8, h7, h9, h9', hb2⟩
            all_goals
              go_enter Try.func34, Try.ntmps34
              go_wp2_with (first | (go_at_call 40; refine (rkind_any _ _ _ _ _ _ _ _).mono ?_; rintro e w2 ⟨rfl, hB2⟩; (obtain ⟨c0, c2, c3, c4, hBz⟩ := HC.out w2 (by simpa using hB2)); rw [hb1]) | (go_at_call_of 41 (Value.string nm); refine (rname_any nm _ _).mono ?_; rintro e w3 ⟨rfl, rfl⟩; rw [hb2]) | (go_at_call 41; refine (rname_any lb _ _).mono ?_; rintro e w3 ⟨rfl, rfl⟩; rw [hb3]) | (go_at_call 42; refine (isnum_any _ _).mono ?_; rintro e w3 ⟨rfl, rfl⟩; rw [hb4]))
              go_ret
              exact ⟨by rw [HV.out]; rfl, hBz⟩
end Go.Proofs.Ytjeafblkmipdmaa
