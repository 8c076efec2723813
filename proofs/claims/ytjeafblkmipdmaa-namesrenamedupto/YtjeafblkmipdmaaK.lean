/- Name, by the program and by the document. -/
import Derived.Test.YtjeafblkmipdmaaC
namespace Go.Proofs.Ytjeafblkmipdmaa
open Go.RowKit
set_option linter.unusedVariables false

def isName (s : ByteArray) : Bool := decide (0 < s.size ∧ s.size ≤ 32 ∧ (∀ h : 0 < s.size, letter (s[0]'h) = true) ∧ (∀ i (h : i < s.size), goes (s[i]'h) = true) ∧ isWord s = false)
theorem name_ne {s : ByteArray} (h0 : 0 < s.size) : (s.toList == []) = false ∧ s.toList.isEmpty = false := by
  have h1 : s.toList ≠ [] := fun e => by
    rw [Lib.toList_data] at e
    rw [Lib.size_eq, e] at h0
    simp at h0
  refine ⟨by simpa using h1, ?_⟩
  cases hs : s.toList with
  | nil => exact absurd hs h1
  | cons a l => rfl
set_option maxRecDepth 100000 in
set_option maxHeartbeats 4000000 in
theorem name_any (s : ByteArray) (w : World) : Calls Try.prog 23 #[.string s] w fun e w' => e = .returned (.bool (isName s)) ∧ w = w' := by
  by_cases h0 : s.size = 0
  · have hs : s = ⟨#[]⟩ := by
      apply ByteArray.ext
      exact Array.eq_empty_of_size_eq_zero h0
    subst hs
    go_enter Try.func23, Try.ntmps23
    go_wp2
    go_ret
    exact ⟨rfl, rfl⟩
  obtain ⟨n0, n1⟩ := name_ne (s := s) (by omega)
  by_cases h1 : 32 < s.size
  · have h1' : (32 : Int) < s.size := by omega
    have HN : Hid (isName s = false) := decide_eq_false (fun h => by omega)
    go_enter Try.func23, Try.ntmps23
    go_wp2
    go_ret
    exact ⟨by rw [HN.out]; rfl, rfl⟩
  have h1' : (s.size : Int) ≤ 32 := by omega
  have h0' : 0 < s.size := by omega
  have h0i : (0 : Int) < s.size := by omega
  obtain ⟨c, hc⟩ : ∃ c, s[0]'h0' = c := ⟨_, rfl⟩
  cases hl : letter c with
  | false =>
    have HN : Hid (isName s = false) := decide_eq_false (fun h => by have := h.2.2.1 h0'; rw [hc, hl] at this; cases this)
    go_enter Try.func23, Try.ntmps23
    go_wp2_with (go_at_call 31; refine (letter_any c _).mono ?_; rintro e w' ⟨rfl, rfl⟩; rw [hl])
    go_ret
    exact ⟨by rw [HN.out]; rfl, rfl⟩
  | true =>
    cases hw : isWord s with
    | true =>
      go_enter Try.func23, Try.ntmps23
      go_wp2_with (first | (go_at_call 31; refine (letter_any c _).mono ?_; rintro e w' ⟨rfl, rfl⟩; rw [hl]) | (go_at_call 33; refine (word_any s _).mono ?_; rintro e w' ⟨rfl, rfl⟩; rw [hw]))
      go_loopw [19] (fun i wr => ∃ k : Nat, k ≤ s.size ∧ i = .int .i64 k ∧ Hid (∀ j (h : j < s.size), j < k → goes (s[j]'h) = true) ∧ w = wr) (fun i _ => s.size - (intOf i).toNat)
      case atStart => exact ⟨0, Nat.zero_le _, rfl, fun j h hj => by omega, rfl⟩
      case round =>
        obtain ⟨k, hk, rfl, HA, rfl⟩ := hrel
        by_cases hlt : k < s.size
        · have hlt' : (k : Int) < s.size := by omega
          obtain ⟨x, hx⟩ : ∃ x, s[k]'hlt = x := ⟨_, rfl⟩
          cases hg : goes x with
          | false =>
            have HN : Hid (isName s = false) := decide_eq_false (fun h => by have := h.2.2.2.1 k hlt; rw [hx, hg] at this; cases this)
            go_wp2_with (go_at_call 32; refine (goes_any x _).mono ?_; rintro e w' ⟨rfl, rfl⟩; rw [hg])
            go_ret
            exact ⟨by rw [HN.out]; rfl, rfl⟩
          | true =>
            have HA2 : Hid (∀ j (h : j < s.size), j < k + 1 → goes (s[j]'h) = true) := fun j h h2 => by
              rcases Nat.lt_or_ge j k with h3 | h3
              · exact HA.out j h h3
              · obtain rfl : j = k := by omega
                rw [hx, hg]
            go_wp2_with (go_at_call 32; refine (goes_any x _).mono ?_; rintro e w' ⟨rfl, rfl⟩; rw [hg])
            go_roundw
            case rel => exact ⟨k + 1, by omega, by go_num, HA2, by trivial⟩
            case measure => simp [intOf]; omega
        · obtain rfl : k = s.size := by omega
          have HN : Hid (isName s = !(isWord s)) := by
            show _ = _
            rw [hw]
            exact decide_eq_false (fun h => by have := h.2.2.2.2; rw [hw] at this; cases this)
          go_wp2_with (go_at_call 33; refine (word_any s _).mono ?_; rintro e w' ⟨rfl, rfl⟩; rw [hw])
          go_ret
          exact ⟨by rw [HN.out, hw]; rfl, rfl⟩
    | false =>
      go_enter Try.func23, Try.ntmps23
      go_wp2_with (first | (go_at_call 31; refine (letter_any c _).mono ?_; rintro e w' ⟨rfl, rfl⟩; rw [hl]) | (go_at_call 33; refine (word_any s _).mono ?_; rintro e w' ⟨rfl, rfl⟩; rw [hw]))
      go_loopw [19] (fun i wr => ∃ k : Nat, k ≤ s.size ∧ i = .int .i64 k ∧ Hid (∀ j (h : j < s.size), j < k → goes (s[j]'h) = true) ∧ w = wr) (fun i _ => s.size - (intOf i).toNat)
      case atStart => exact ⟨0, Nat.zero_le _, rfl, fun j h hj => by omega, rfl⟩
      case round =>
        obtain ⟨k, hk, rfl, HA, rfl⟩ := hrel
        by_cases hlt : k < s.size
        · have hlt' : (k : Int) < s.size := by omega
          obtain ⟨x, hx⟩ : ∃ x, s[k]'hlt = x := ⟨_, rfl⟩
          cases hg : goes x with
          | false =>
            have HN : Hid (isName s = false) := decide_eq_false (fun h => by have := h.2.2.2.1 k hlt; rw [hx, hg] at this; cases this)
            go_wp2_with (go_at_call 32; refine (goes_any x _).mono ?_; rintro e w' ⟨rfl, rfl⟩; rw [hg])
            go_ret
            exact ⟨by rw [HN.out]; rfl, rfl⟩
          | true =>
            have HA2 : Hid (∀ j (h : j < s.size), j < k + 1 → goes (s[j]'h) = true) := fun j h h2 => by
              rcases Nat.lt_or_ge j k with h3 | h3
              · exact HA.out j h h3
              · obtain rfl : j = k := by omega
                rw [hx, hg]
            go_wp2_with (go_at_call 32; refine (goes_any x _).mono ?_; rintro e w' ⟨rfl, rfl⟩; rw [hg])
            go_roundw
            case rel => exact ⟨k + 1, by omega, by go_num, HA2, by trivial⟩
            case measure => simp [intOf]; omega
        · obtain rfl : k = s.size := by omega
          have HN : Hid (isName s = !(isWord s)) := by
            show _ = _
            rw [hw]
            exact decide_eq_true ⟨h0', by omega, fun _ => by rw [hc, hl], fun i h => HA.out i h h, hw⟩
          go_wp2_with (go_at_call 33; refine (word_any s _).mono ?_; rintro e w' ⟨rfl, rfl⟩; rw [hw])
          go_ret
          exact ⟨by rw [HN.out, hw]; rfl, rfl⟩
end Go.Proofs.Ytjeafblkmipdmaa
