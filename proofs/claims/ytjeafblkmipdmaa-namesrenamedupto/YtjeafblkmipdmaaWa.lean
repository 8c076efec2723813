/- Check: a node by itself. -/
import Derived.Test.YtjeafblkmipdmaaLt
namespace Go.Proofs.Ytjeafblkmipdmaa
open Go.RowKit
set_option linter.unusedVariables false

def numB (n : Int) : Bool := decide (0 ≤ n ∧ n ≤ 2147483647)
theorem isnum_any (n : Int) (w : World) : Calls Try.prog 42 #[.int .i64 n] w fun e w' => e = .returned (.bool (numB n)) ∧ w = w' := by
  by_cases h0 : 0 ≤ n
  · by_cases h1 : n ≤ 2147483647
    · have HN : Hid (numB n = true) := decide_eq_true ⟨h0, h1⟩
      go_enter Try.func42, Try.ntmps42
      go_wp2
      go_ret
      exact ⟨by rw [HN.out]; rfl, rfl⟩
    · have HN : Hid (numB n = false) := decide_eq_false (fun h => h1 h.2)
      go_enter Try.func42, Try.ntmps42
      go_wp2
      go_ret
      exact ⟨by rw [HN.out]; rfl, rfl⟩
  · have HN : Hid (numB n = false) := decide_eq_false (fun h => h0 h.1)
    go_enter Try.func42, Try.ntmps42
    go_wp2
    go_ret
    exact ⟨by rw [HN.out]; rfl, rfl⟩
def nameOk (s : ByteArray) (b : Bool) : Bool := bif b then isName s else decide (s.size = 0)
theorem rname_any (s : ByteArray) (b : Bool) (w : World) : Calls Try.prog 41 #[.string s, .bool b] w fun e w' => e = .returned (.bool (nameOk s b)) ∧ w = w' := by
  cases b with
  | true =>
    have HN : Hid (nameOk s true = isName s) := rfl
    go_enter Try.func41, Try.ntmps41
    go_wp2_with (go_at_call 23; refine (name_any _ _).mono ?_; rintro e w' ⟨rfl, rfl⟩)
    go_ret
    exact ⟨by rw [HN.out]; rfl, rfl⟩
  | false =>
    by_cases h0 : s.size = 0
    · have HN : Hid (nameOk s false = true) := decide_eq_true h0
      have hs : s = ⟨#[]⟩ := by
        apply ByteArray.ext
        exact Array.eq_empty_of_size_eq_zero h0
      clear h0
      subst hs
      go_enter Try.func41, Try.ntmps41
      go_wp2
      go_ret
      exact ⟨by rw [HN.out]; rfl, rfl⟩
    · have HN : Hid (nameOk s false = false) := decide_eq_false h0
      obtain ⟨n0, n1⟩ := name_ne (s := s) (by omega)
      go_enter Try.func41, Try.ntmps41
      go_wp2
      go_ret
      exact ⟨by rw [HN.out]; rfl, rfl⟩
def kindOk (k n kids : Int) : Bool :=
  if k = 1 then decide ((n = 1 ∨ n = 2 ∨ n = 4 ∨ n = 8) ∧ kids = 0)
  else if k = 2 ∨ k = 3 ∨ k = 9 then decide (n = 0 ∧ kids = 0)
  else if k = 4 ∨ k = 5 then numB n && decide (kids = 1)
  else if k = 6 then decide (n = 0 ∧ kids = 1)
  else if k = 7 ∨ k = 8 then decide (n = 0 ∧ 0 < kids)
  else false

set_option maxRecDepth 100000 in
set_option maxHeartbeats 4000000 in
theorem rkind_any (k n : Int) (nm lb : ByteArray) (tg kd at_ : Int) (w : World) : Calls Try.prog 40 #[.agg #[.int .i64 k, .int .i64 n, .string nm, .string lb, .int .i64 tg, .int .i64 kd, .int .i64 at_]] w fun e w' => e = .returned (.bool (kindOk k n kd)) ∧ Below w.heap.size w w' := by
  have HB : ∀ o, Below w.heap.size w (w.alloc o) := fun o => (Below.refl _ _).alloc (Nat.le_refl _) _
  obtain ⟨K, hK⟩ : ∃ K, kindOk k n kd = K := ⟨_, rfl⟩
  have HK := hide_ hK
  rw [hK]
  clear hK
  by_cases h1 : k = 1
  · subst h1
    have HK' : Hid (K = decide ((n = 1 ∨ n = 2 ∨ n = 4 ∨ n = 8) ∧ kd = 0)) := HK.out.symm
    by_cases k0 : kd = 0 <;> by_cases n1 : n = 1 <;> by_cases n2 : n = 2 <;> by_cases n4 : n = 4 <;> by_cases n8 : n = 8 <;> first | omega | (
      go_enter Try.func40, Try.ntmps40
      go_wp2
      go_ret
      exact ⟨by rw [HK'.out]; first | (simp [*]; done) | (simp [*]; rfl), HB _⟩)
  by_cases h2 : k = 2 ∨ k = 3 ∨ k = 9
  · have HK' : Hid (K = decide (n = 0 ∧ kd = 0)) := hide_ (by rw [← HK.out]; unfold kindOk; rw [if_neg h1, if_pos h2])
    rcases h2 with rfl | rfl | rfl <;> by_cases k0 : kd = 0 <;> by_cases n1 : n = 0 <;> (
      go_enter Try.func40, Try.ntmps40
      go_wp2
      go_ret
      exact ⟨by rw [HK'.out]; first | (simp [*]; done) | (simp [*]; rfl), HB _⟩)
  by_cases h3 : k = 4 ∨ k = 5
  · have HK' : Hid (K = (numB n && decide (kd = 1))) := hide_ (by rw [← HK.out]; unfold kindOk; rw [if_neg h1, if_neg h2, if_pos h3])
    obtain ⟨b, hb⟩ : ∃ b, numB n = b := ⟨_, rfl⟩
    rcases h3 with rfl | rfl <;> by_cases k0 : kd = 1 <;> cases b <;> (
      go_enter Try.func40, Try.ntmps40
      go_wp2_with (go_at_call 42; refine (isnum_any _ _).mono ?_; rintro e w' ⟨rfl, rfl⟩; rw [hb])
      go_ret
      exact ⟨by rw [HK'.out]; first | (simp [*]; done) | (simp [*]; rfl), HB _⟩)
  by_cases h4 : k = 6
  · have HK' : Hid (K = decide (n = 0 ∧ kd = 1)) := hide_ (by rw [← HK.out]; unfold kindOk; rw [if_neg h1, if_neg h2, if_neg h3, if_pos h4])
    subst h4
    by_cases k0 : kd = 1 <;> by_cases n1 : n = 0 <;> (
      go_enter Try.func40, Try.ntmps40
      go_wp2
      go_ret
      exact ⟨by rw [HK'.out]; first | (simp [*]; done) | (simp [*]; rfl), HB _⟩)
  by_cases h5 : k = 7 ∨ k = 8
  · have HK' : Hid (K = decide (n = 0 ∧ 0 < kd)) := hide_ (by rw [← HK.out]; unfold kindOk; rw [if_neg h1, if_neg h2, if_neg h3, if_neg h4, if_pos h5])
    rcases h5 with rfl | rfl <;> by_cases k0 : 0 < kd <;> by_cases n1 : n = 0 <;> (
      go_enter Try.func40, Try.ntmps40
      go_wp2
      go_ret
      exact ⟨by rw [HK'.out]; first | (simp [*]; done) | (simp [*]; rfl), HB _⟩)
  have HK' : Hid (K = false) := hide_ (by rw [← HK.out]; unfold kindOk; rw [if_neg h1, if_neg h2, if_neg h3, if_neg h4, if_neg h5])
  have j2 : ¬ k = 2 := fun h => h2 (.inl h)
  have j3 : ¬ k = 3 := fun h => h2 (.inr (.inl h))
  have j9 : ¬ k = 9 := fun h => h2 (.inr (.inr h))
  have j4 : ¬ k = 4 := fun h => h3 (.inl h)
  have j5 : ¬ k = 5 := fun h => h3 (.inr h)
  have j7 : ¬ k = 7 := fun h => h5 (.inl h)
  have j8 : ¬ k = 8 := fun h => h5 (.inr h)
  clear h2 h3 h5
  go_enter Try.func40, Try.ntmps40
  go_wp2
  go_ret
  exact ⟨by rw [HK'.out]; rfl, HB _⟩
end Go.Proofs.Ytjeafblkmipdmaa
