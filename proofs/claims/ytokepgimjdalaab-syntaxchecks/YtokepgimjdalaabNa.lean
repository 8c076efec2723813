/- The document's Check: a node by itself. -/
import Derived.Test.YtokepgimjdalaabWb
namespace Go.Proofs.Ytokepgimjdalaab
open Go.RowKit
set_option linter.unusedVariables false

theorem empty_of {s : ByteArray} (h : s.size = 0) : s = ⟨#[]⟩ := by
  apply ByteArray.ext
  exact Array.eq_empty_of_size_eq_zero h
def rightB (k n : Int) (nm : ByteArray) (kd : Int) : Bool := kindOk k n kd && nameOk nm (decide (k = 9))
set_option maxRecDepth 100000 in
set_option maxHeartbeats 4000000 in
theorem right_any (k n : Int) (nm lb : ByteArray) (tg kd at_ : Int) (w : World) : Calls Try.prog 29 #[.agg #[.int .i64 k, .int .i64 n, .string nm, .string lb, .int .i64 tg, .int .i64 kd, .int .i64 at_]] w fun e w' => e = .returned (.bool (rightB k n nm kd)) ∧ Below w.heap.size w w' := by
  have HB : Hid (∀ o, Below w.heap.size w (w.alloc o)) := hide_ (fun o => (Below.refl _ _).alloc (Nat.le_refl _) _)
  obtain ⟨K, hK⟩ : ∃ K, rightB k n nm kd = K := ⟨_, rfl⟩
  have HK := hide_ hK
  rw [hK]
  clear hK
  by_cases h9 : k = 9
  · subst h9
    have HK' : Hid (K = (decide (n = 0 ∧ kd = 0) && isName nm)) := hide_ HK.out.symm
    obtain ⟨b, hb⟩ : ∃ b, isName nm = b := ⟨_, rfl⟩
    rw [hb] at HK'
    rcases Nat.eq_zero_or_pos nm.size with h0 | h0
    · obtain rfl := empty_of h0
      have hb0 : b = false := by rw [← hb]; decide
      subst hb0
      go_enter Try.func29, Try.ntmps29
      go_wp2_with (go_at_call 14; refine (nameD_any _ _).mono ?_; rintro e w' ⟨rfl, rfl⟩; rw [hb])
      go_ret
      exact ⟨by rw [HK'.out]; simp, HB.out _⟩
    · obtain ⟨n0, n1⟩ := name_ne h0
      cases b <;> by_cases k0 : kd = 0 <;> by_cases m0 : n = 0 <;> (
        go_enter Try.func29, Try.ntmps29
        go_wp2_with (go_at_call 14; refine (nameD_any _ _).mono ?_; rintro e w' ⟨rfl, rfl⟩; rw [hb])
        go_ret
        exact ⟨by rw [HK'.out]; first | (simp [*]; done) | (simp [*]; rfl), HB.out _⟩)
  rcases Nat.eq_zero_or_pos nm.size with h0 | h0
  case inr =>
    obtain ⟨n0, n1⟩ := name_ne h0
    have HK' : Hid (K = false) := hide_ (by rw [← HK.out]; unfold rightB; rw [decide_eq_false h9]; simp only [nameOk, cond_false]; rw [decide_eq_false (by omega), Bool.and_false])
    clear HK
    by_cases h1 : k = 1
    · subst h1
      go_enter Try.func29, Try.ntmps29
      go_wp2
      go_ret
      exact ⟨by rw [HK'.out]; rfl, HB.out _⟩
    by_cases h2 : k = 2
    · subst h2
      go_enter Try.func29, Try.ntmps29
      go_wp2
      go_ret
      exact ⟨by rw [HK'.out]; rfl, HB.out _⟩
    by_cases h3 : k = 3
    · subst h3
      go_enter Try.func29, Try.ntmps29
      go_wp2
      go_ret
      exact ⟨by rw [HK'.out]; rfl, HB.out _⟩
    by_cases h4 : k = 4
    · subst h4
      go_enter Try.func29, Try.ntmps29
      go_wp2
      go_ret
      exact ⟨by rw [HK'.out]; rfl, HB.out _⟩
    by_cases h5 : k = 5
    · subst h5
      go_enter Try.func29, Try.ntmps29
      go_wp2
      go_ret
      exact ⟨by rw [HK'.out]; rfl, HB.out _⟩
    by_cases h6 : k = 6
    · subst h6
      go_enter Try.func29, Try.ntmps29
      go_wp2
      go_ret
      exact ⟨by rw [HK'.out]; rfl, HB.out _⟩
    by_cases h7 : k = 7
    · subst h7
      go_enter Try.func29, Try.ntmps29
      go_wp2
      go_ret
      exact ⟨by rw [HK'.out]; rfl, HB.out _⟩
    by_cases h8 : k = 8
    · subst h8
      go_enter Try.func29, Try.ntmps29
      go_wp2
      go_ret
      exact ⟨by rw [HK'.out]; rfl, HB.out _⟩
    go_enter Try.func29, Try.ntmps29
    go_wp2
    go_ret
    exact ⟨by rw [HK'.out]; rfl, HB.out _⟩
  obtain rfl := empty_of h0
  have HK2 : Hid (K = kindOk k n kd) := hide_ (by rw [← HK.out]; unfold rightB; rw [decide_eq_false h9]; simp only [nameOk, cond_false]; rw [decide_eq_true h0, Bool.and_true])
  clear HK h0
  by_cases h1 : k = 1
  · subst h1
    have HK' : Hid (K = decide ((n = 1 ∨ n = 2 ∨ n = 4 ∨ n = 8) ∧ kd = 0)) := hide_ HK2.out
    by_cases k0 : kd = 0 <;> by_cases n1 : n = 1 <;> by_cases n2 : n = 2 <;> by_cases n4 : n = 4 <;> by_cases n8 : n = 8 <;> first | omega | (
      go_enter Try.func29, Try.ntmps29
      go_wp2
      go_ret
      exact ⟨by rw [HK'.out]; first | (simp [*]; done) | (simp [*]; rfl), HB.out _⟩)
  by_cases h2 : k = 2 ∨ k = 3 ∨ k = 9
  · have HK' : Hid (K = decide (n = 0 ∧ kd = 0)) := hide_ (by rw [HK2.out]; unfold kindOk; rw [if_neg h1, if_pos h2])
    have h2' : k = 2 ∨ k = 3 := by omega
    rcases h2' with rfl | rfl <;> by_cases k0 : kd = 0 <;> by_cases n1 : n = 0 <;> (
      go_enter Try.func29, Try.ntmps29
      go_wp2
      go_ret
      exact ⟨by rw [HK'.out]; first | (simp [*]; done) | (simp [*]; rfl), HB.out _⟩)
  by_cases h3 : k = 4 ∨ k = 5
  · have HK' : Hid (K = ((decide (0 ≤ n) && decide (n ≤ 2147483647)) && decide (kd = 1))) := hide_ (by rw [HK2.out]; unfold kindOk; rw [if_neg h1, if_neg h2, if_pos h3, numB, Bool.decide_and])
    rcases h3 with rfl | rfl <;> by_cases k0 : kd = 1 <;> rcases Bool.eq_false_or_eq_true (decide (0 ≤ n)) with m0 | m0 <;> rcases Bool.eq_false_or_eq_true (decide (n ≤ 2147483647)) with m1 | m1 <;> (
      go_enter Try.func29, Try.ntmps29
      go_wp2
      go_ret
      exact ⟨by rw [HK'.out, m0, m1]; first | (simp [k0]; done) | (simp [k0]; rfl), HB.out _⟩)
  by_cases h4 : k = 6
  · have HK' : Hid (K = decide (n = 0 ∧ kd = 1)) := hide_ (by rw [HK2.out]; unfold kindOk; rw [if_neg h1, if_neg h2, if_neg h3, if_pos h4])
    subst h4
    by_cases k0 : kd = 1 <;> by_cases n1 : n = 0 <;> (
      go_enter Try.func29, Try.ntmps29
      go_wp2
      go_ret
      exact ⟨by rw [HK'.out]; first | (simp [*]; done) | (simp [*]; rfl), HB.out _⟩)
  by_cases h5 : k = 7 ∨ k = 8
  · have HK' : Hid (K = decide (n = 0 ∧ 1 ≤ kd)) := hide_ (by rw [HK2.out]; unfold kindOk; rw [if_neg h1, if_neg h2, if_neg h3, if_neg h4, if_pos h5]; congr 1)
    rcases h5 with rfl | rfl <;> by_cases k0 : 1 ≤ kd <;> by_cases n1 : n = 0 <;> (
      go_enter Try.func29, Try.ntmps29
      go_wp2
      go_ret
      exact ⟨by rw [HK'.out]; first | (simp [*]; done) | (simp [*]; rfl), HB.out _⟩)
  have HK' : Hid (K = false) := hide_ (by rw [HK2.out]; unfold kindOk; rw [if_neg h1, if_neg h2, if_neg h3, if_neg h4, if_neg h5])
  have j2 : ¬ k = 2 := fun h => h2 (.inl h)
  have j3 : ¬ k = 3 := fun h => h2 (.inr (.inl h))
  have j4 : ¬ k = 4 := fun h => h3 (.inl h)
  have j5 : ¬ k = 5 := fun h => h3 (.inr h)
  have j7 : ¬ k = 7 := fun h => h5 (.inl h)
  have j8 : ¬ k = 8 := fun h => h5 (.inr h)
  clear h2 h3 h5
  go_enter Try.func29, Try.ntmps29
  go_wp2
  go_ret
  exact ⟨by rw [HK'.out]; rfl, HB.out _⟩
def tagB (tg of : Int) : Bool := if of = 7 then numB tg else decide (tg = 0)
def placedB (lb : ByteArray) (tg of : Int) : Bool := nameOk lb (decide (of = 8)) && tagB tg of
set_option maxRecDepth 100000 in
set_option maxHeartbeats 4000000 in
theorem placed_any (k n : Int) (nm lb : ByteArray) (tg kd at_ of : Int) (w : World) : Calls Try.prog 30 #[.agg #[.int .i64 k, .int .i64 n, .string nm, .string lb, .int .i64 tg, .int .i64 kd, .int .i64 at_], .int .i64 of] w fun e w' => e = .returned (.bool (placedB lb tg of)) ∧ Below w.heap.size w w' := by
  have HB : Hid (∀ o, Below w.heap.size w (w.alloc o)) := hide_ (fun o => (Below.refl _ _).alloc (Nat.le_refl _) _)
  obtain ⟨K, hK⟩ : ∃ K, placedB lb tg of = K := ⟨_, rfl⟩
  have HK := hide_ hK
  rw [hK]
  clear hK
  obtain ⟨b, hb⟩ : ∃ b, isName lb = b := ⟨_, rfl⟩
  have HL : Hid (∃ z : Bool, decide (lb.size = 0) = z ∧ ((lb = ⟨#[]⟩ ∧ z = true) ∨ ((lb.toList == []) = false ∧ lb.toList.isEmpty = false ∧ z = false))) := hide_ (by
    rcases Nat.eq_zero_or_pos lb.size with h0 | h0
    · exact ⟨true, decide_eq_true h0, .inl ⟨empty_of h0, rfl⟩⟩
    · obtain ⟨n0, n1⟩ := name_ne h0
      exact ⟨false, decide_eq_false (by omega), .inr ⟨n0, n1, rfl⟩⟩)
  obtain ⟨z, hz, hzz⟩ := HL.out
  clear HL
  have HK' : Hid (K = ((bif decide (of = 8) then b else z) && (if of = 7 then decide (0 ≤ tg ∧ tg ≤ 2147483647) else decide (tg = 0)))) := hide_ (by rw [← HK.out]; unfold placedB nameOk tagB numB; rw [hb, hz])
  clear HK hz
  cases b <;> rcases hzz with ⟨rfl, rfl⟩ | ⟨n0, n1, rfl⟩ <;> by_cases h8 : of = 8 <;> by_cases h7 : of = 7 <;> by_cases t0 : tg = 0 <;> by_cases t1 : 0 ≤ tg <;> by_cases t2 : tg ≤ 2147483647 <;> first | omega | (
    go_enter Try.func30, Try.ntmps30
    go_wp2_with (go_at_call 14; refine (nameD_any _ _).mono ?_; rintro e w' ⟨rfl, rfl⟩; rw [hb])
    all_goals go_ret
    all_goals exact ⟨by rw [HK'.out]; first | (simp [*]; done) | (simp [*]; rfl), HB.out _⟩)
theorem err_same (k n : Int) (nm lb : ByteArray) (tg kd of : Int) (dp : Nat) (h1 : ¬ 16 < dp) (h2 : ¬ ((k = 8 ∨ k = 7) ∧ 64 < kd)) : nodeE k n nm lb tg kd of dp = if rightB k n nm kd && placedB lb tg of then 0 else 62 := by
  unfold nodeE rightB placedB tagB
  rw [if_neg h1, if_neg h2]
  cases kindOk k n kd with
  | false => simp
  | true =>
    cases nameOk nm (decide (k = 9)) with
    | false => simp
    | true =>
      cases nameOk lb (decide (of = 8)) with
      | false => simp
      | true =>
        by_cases h7 : of = 7
        · by_cases t0 : tg = 0
          · subst t0; simp [h7]; decide
          · cases numB tg <;> simp [h7, t0]
        · by_cases t0 : tg = 0 <;> simp [h7, t0]
end Go.Proofs.Ytokepgimjdalaab
