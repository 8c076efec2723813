import Derived.Test.YtdpkmkhflgmioaaPart02
import Derived.Test.YtdpkmkhflgmioaaRows
import Derived.Lib.Strings

/- Bytes and words: the small functions. -/
namespace Go.Proofs.Ytdpkmkhflgmioaa
open Go.RowKit
set_option linter.unusedVariables false

set_option maxRecDepth 100000 in
set_option maxHeartbeats 4000000 in
theorem letter_any (c : UInt8) (w : World) : Calls Try.prog 85 #[.int .u8 (c.toNat : Int)] w fun e w' => e = .returned (.bool (letter c)) ∧ w = w' := by
  obtain ⟨x, hx⟩ : ∃ x : Int, (c.toNat : Int) = x := ⟨_, rfl⟩
  have hl : letter c = (decide (97 ≤ x) && decide (x ≤ 122)) := by rw [← hx]; unfold letter; rw [← Bool.decide_and]; exact decide_eq_decide.2 (by omega)
  rw [hx, hl]
  go_enter Try.func85, Try.ntmps85
  by_cases h1 : 97 ≤ x
  · by_cases h2 : x ≤ 122
    · go_wp2
      go_ret
      exact ⟨by simp [h1, h2], rfl⟩
    · go_wp2
      go_ret
      exact ⟨by simp [h2], rfl⟩
  · go_wp2
    go_ret
    exact ⟨by simp; omega, rfl⟩

set_option maxRecDepth 100000 in
set_option maxHeartbeats 4000000 in
theorem digit_any (c : UInt8) (w : World) : Calls Try.prog 95 #[.int .u8 (c.toNat : Int)] w fun e w' => e = .returned (.bool (digit c)) ∧ w = w' := by
  obtain ⟨x, hx⟩ : ∃ x : Int, (c.toNat : Int) = x := ⟨_, rfl⟩
  have hl : digit c = (decide (48 ≤ x) && decide (x ≤ 57)) := by rw [← hx]; unfold digit; rw [← Bool.decide_and]; exact decide_eq_decide.2 (by omega)
  rw [hx, hl]
  go_enter Try.func95, Try.ntmps95
  by_cases h1 : 48 ≤ x
  · by_cases h2 : x ≤ 57
    · go_wp2
      go_ret
      exact ⟨by simp [h1, h2], rfl⟩
    · go_wp2
      go_ret
      exact ⟨by simp [h2], rfl⟩
  · go_wp2
    go_ret
    exact ⟨by simp; omega, rfl⟩

set_option maxRecDepth 100000 in
set_option maxHeartbeats 4000000 in
theorem letterD_any (c : UInt8) (w : World) : Calls Try.prog 49 #[.int .u8 (c.toNat : Int)] w fun e w' => e = .returned (.bool (letter c)) ∧ w = w' := by
  obtain ⟨x, hx⟩ : ∃ x : Int, (c.toNat : Int) = x := ⟨_, rfl⟩
  have hl : letter c = (decide (97 ≤ x) && decide (x ≤ 122)) := by rw [← hx]; unfold letter; rw [← Bool.decide_and]; exact decide_eq_decide.2 (by omega)
  rw [hx, hl]
  go_enter Try.func49, Try.ntmps49
  by_cases h1 : 97 ≤ x
  · by_cases h2 : x ≤ 122
    · go_wp2
      go_ret
      exact ⟨by simp [h1, h2], rfl⟩
    · go_wp2
      go_ret
      exact ⟨by simp [h2], rfl⟩
  · go_wp2
    go_ret
    exact ⟨by simp; omega, rfl⟩

set_option maxRecDepth 100000 in
set_option maxHeartbeats 4000000 in
theorem digitD_any (c : UInt8) (w : World) : Calls Try.prog 71 #[.int .u8 (c.toNat : Int)] w fun e w' => e = .returned (.bool (digit c)) ∧ w = w' := by
  obtain ⟨x, hx⟩ : ∃ x : Int, (c.toNat : Int) = x := ⟨_, rfl⟩
  have hl : digit c = (decide (48 ≤ x) && decide (x ≤ 57)) := by rw [← hx]; unfold digit; rw [← Bool.decide_and]; exact decide_eq_decide.2 (by omega)
  rw [hx, hl]
  go_enter Try.func71, Try.ntmps71
  by_cases h1 : 48 ≤ x
  · by_cases h2 : x ≤ 57
    · go_wp2
      go_ret
      exact ⟨by simp [h1, h2], rfl⟩
    · go_wp2
      go_ret
      exact ⟨by simp [h2], rfl⟩
  · go_wp2
    go_ret
    exact ⟨by simp; omega, rfl⟩

theorem str_ne (s : ByteArray) (l : List UInt8) (h : ¬ s = ⟨l.toArray⟩) : (s.toList == l) = false := by
  have : s.toList ≠ l := fun e => h (by rw [Lib.toList_data] at e; apply ByteArray.ext; rw [← e])
  simpa using this

set_option maxRecDepth 100000 in
set_option maxHeartbeats 4000000 in
theorem goes_any (c : UInt8) (w : World) : Calls Try.prog 86 #[.int .u8 (c.toNat : Int)] w fun e w' => e = .returned (.bool (goes c)) ∧ w = w' := by
  have hg : goes c = (letter c || digit c || decide ((c.toNat : Int) = 95)) := by unfold goes; congr 1; exact decide_eq_decide.2 (by omega)
  rw [hg]
  go_enter Try.func86, Try.ntmps86
  go_wp2_with fail
  refine (letter_any c _).mono ?_; rintro e w' ⟨rfl, rfl⟩
  cases hl : letter c
  · go_wp2_with fail
    refine (digit_any c _).mono ?_; rintro e w' ⟨rfl, rfl⟩
    cases hd : digit c
    · by_cases h5 : (c.toNat : Int) = 95
      · have h5b : ((c.toNat : Int) == 95) = true := by simp [h5]
        go_wp2
        go_ret
        exact ⟨by simp [h5], rfl⟩
      · have h5b : ((c.toNat : Int) == 95) = false := by simpa using h5
        go_wp2
        go_ret
        exact ⟨by simp [hl, hd, h5], rfl⟩
    · go_wp2
      go_ret
      exact ⟨by simp [hd], rfl⟩
  · go_wp2
    go_ret
    exact ⟨by simp [hl], rfl⟩

set_option maxRecDepth 100000 in
set_option maxHeartbeats 4000000 in
theorem goesD_any (c : UInt8) (w : World) : Calls Try.prog 51 #[.int .u8 (c.toNat : Int)] w fun e w' => e = .returned (.bool (goes c)) ∧ w = w' := by
  have hg : goes c = (letter c || digit c || decide ((c.toNat : Int) = 95)) := by unfold goes; congr 1; exact decide_eq_decide.2 (by omega)
  rw [hg]
  go_enter Try.func51, Try.ntmps51
  go_wp2_with fail
  refine (letterD_any c _).mono ?_; rintro e w' ⟨rfl, rfl⟩
  cases hl : letter c
  · go_wp2_with fail
    refine (digitD_any c _).mono ?_; rintro e w' ⟨rfl, rfl⟩
    cases hd : digit c
    · by_cases h5 : (c.toNat : Int) = 95
      · have h5b : ((c.toNat : Int) == 95) = true := by simp [h5]
        go_wp2
        go_ret
        exact ⟨by simp [h5], rfl⟩
      · have h5b : ((c.toNat : Int) == 95) = false := by simpa using h5
        go_wp2
        go_ret
        exact ⟨by simp [hl, hd, h5], rfl⟩
    · go_wp2
      go_ret
      exact ⟨by simp [hd], rfl⟩
  · go_wp2
    go_ret
    exact ⟨by simp [hl], rfl⟩

def isWord (s : ByteArray) : Bool := decide (s = ⟨#[116, 121, 112, 101]⟩ ∨ s = ⟨#[117, 56]⟩ ∨ s = ⟨#[117, 49, 54]⟩ ∨ s = ⟨#[117, 51, 50]⟩ ∨ s = ⟨#[117, 54, 52]⟩ ∨ s = ⟨#[98, 111, 111, 108]⟩ ∨ s = ⟨#[118, 97, 114, 105, 110, 116]⟩ ∨ s = ⟨#[118, 101, 99, 116, 111, 114]⟩ ∨ s = ⟨#[108, 105, 115, 116]⟩ ∨ s = ⟨#[111, 112, 116, 105, 111, 110]⟩ ∨ s = ⟨#[117, 110, 105, 111, 110]⟩ ∨ s = ⟨#[115, 116, 114, 117, 99, 116]⟩)

set_option maxRecDepth 100000 in
set_option maxHeartbeats 4000000 in
theorem word_any (s : ByteArray) (w : World) : Calls Try.prog 87 #[.string s] w fun e w' => e = .returned (.bool (isWord s)) ∧ w = w' := by
  unfold isWord
  go_enter Try.func87, Try.ntmps87
  by_cases h0 : s = ⟨#[116, 121, 112, 101]⟩
  · subst h0; go_wp2; go_ret; exact ⟨by simp, rfl⟩
  have k0 := str_ne s _ h0
  by_cases h1 : s = ⟨#[117, 56]⟩
  · subst h1; go_wp2; go_ret; exact ⟨by simp, rfl⟩
  have k1 := str_ne s _ h1
  by_cases h2 : s = ⟨#[117, 49, 54]⟩
  · subst h2; go_wp2; go_ret; exact ⟨by simp, rfl⟩
  have k2 := str_ne s _ h2
  by_cases h3 : s = ⟨#[117, 51, 50]⟩
  · subst h3; go_wp2; go_ret; exact ⟨by simp, rfl⟩
  have k3 := str_ne s _ h3
  by_cases h4 : s = ⟨#[117, 54, 52]⟩
  · subst h4; go_wp2; go_ret; exact ⟨by simp, rfl⟩
  have k4 := str_ne s _ h4
  by_cases h5 : s = ⟨#[98, 111, 111, 108]⟩
  · subst h5; go_wp2; go_ret; exact ⟨by simp, rfl⟩
  have k5 := str_ne s _ h5
  by_cases h6 : s = ⟨#[118, 97, 114, 105, 110, 116]⟩
  · subst h6; go_wp2; go_ret; exact ⟨by simp, rfl⟩
  have k6 := str_ne s _ h6
  by_cases h7 : s = ⟨#[118, 101, 99, 116, 111, 114]⟩
  · subst h7; go_wp2; go_ret; exact ⟨by simp, rfl⟩
  have k7 := str_ne s _ h7
  by_cases h8 : s = ⟨#[108, 105, 115, 116]⟩
  · subst h8; go_wp2; go_ret; exact ⟨by simp, rfl⟩
  have k8 := str_ne s _ h8
  by_cases h9 : s = ⟨#[111, 112, 116, 105, 111, 110]⟩
  · subst h9; go_wp2; go_ret; exact ⟨by simp, rfl⟩
  have k9 := str_ne s _ h9
  by_cases h10 : s = ⟨#[117, 110, 105, 111, 110]⟩
  · subst h10; go_wp2; go_ret; exact ⟨by simp, rfl⟩
  have k10 := str_ne s _ h10
  by_cases h11 : s = ⟨#[115, 116, 114, 117, 99, 116]⟩
  · subst h11; go_wp2; go_ret; exact ⟨by simp, rfl⟩
  have k11 := str_ne s _ h11
  go_wp2
  go_ret
  exact ⟨by simp [h0, h1, h2, h3, h4, h5, h6, h7, h8, h9, h10, h11], rfl⟩

set_option maxRecDepth 100000 in
set_option maxHeartbeats 4000000 in
theorem wordD_any (s : ByteArray) (w : World) : Calls Try.prog 50 #[.string s] w fun e w' => e = .returned (.bool (isWord s)) ∧ w = w' := by
  unfold isWord
  go_enter Try.func50, Try.ntmps50
  by_cases h0 : s = ⟨#[116, 121, 112, 101]⟩
  · subst h0; go_wp2; go_ret; exact ⟨by simp, rfl⟩
  have k0 := str_ne s _ h0
  by_cases h1 : s = ⟨#[117, 56]⟩
  · subst h1; go_wp2; go_ret; exact ⟨by simp, rfl⟩
  have k1 := str_ne s _ h1
  by_cases h2 : s = ⟨#[117, 49, 54]⟩
  · subst h2; go_wp2; go_ret; exact ⟨by simp, rfl⟩
  have k2 := str_ne s _ h2
  by_cases h3 : s = ⟨#[117, 51, 50]⟩
  · subst h3; go_wp2; go_ret; exact ⟨by simp, rfl⟩
  have k3 := str_ne s _ h3
  by_cases h4 : s = ⟨#[117, 54, 52]⟩
  · subst h4; go_wp2; go_ret; exact ⟨by simp, rfl⟩
  have k4 := str_ne s _ h4
  by_cases h5 : s = ⟨#[98, 111, 111, 108]⟩
  · subst h5; go_wp2; go_ret; exact ⟨by simp, rfl⟩
  have k5 := str_ne s _ h5
  by_cases h6 : s = ⟨#[118, 97, 114, 105, 110, 116]⟩
  · subst h6; go_wp2; go_ret; exact ⟨by simp, rfl⟩
  have k6 := str_ne s _ h6
  by_cases h7 : s = ⟨#[118, 101, 99, 116, 111, 114]⟩
  · subst h7; go_wp2; go_ret; exact ⟨by simp, rfl⟩
  have k7 := str_ne s _ h7
  by_cases h8 : s = ⟨#[108, 105, 115, 116]⟩
  · subst h8; go_wp2; go_ret; exact ⟨by simp, rfl⟩
  have k8 := str_ne s _ h8
  by_cases h9 : s = ⟨#[111, 112, 116, 105, 111, 110]⟩
  · subst h9; go_wp2; go_ret; exact ⟨by simp, rfl⟩
  have k9 := str_ne s _ h9
  by_cases h10 : s = ⟨#[117, 110, 105, 111, 110]⟩
  · subst h10; go_wp2; go_ret; exact ⟨by simp, rfl⟩
  have k10 := str_ne s _ h10
  by_cases h11 : s = ⟨#[115, 116, 114, 117, 99, 116]⟩
  · subst h11; go_wp2; go_ret; exact ⟨by simp, rfl⟩
  have k11 := str_ne s _ h11
  go_wp2
  go_ret
  exact ⟨by simp [h0, h1, h2, h3, h4, h5, h6, h7, h8, h9, h10, h11], rfl⟩

end Go.Proofs.Ytdpkmkhflgmioaa

/- Name, by the program and by the document. -/
namespace Go.Proofs.Ytdpkmkhflgmioaa
open Go.RowKit
set_option linter.unusedVariables false

def isName (s : ByteArray) : Bool := decide (0 < s.size ∧ s.size ≤ 32 ∧ (∀ h : 0 < s.size, letter (s[0]'h) = true) ∧ (∀ i (h : i < s.size), goes (s[i]'h) = true) ∧ isWord s = false)
theorem name_ne {s : ByteArray} (h0 : 0 < s.size) : (s.toList == []) = false ∧ s.toList.isEmpty = false := by
  have h1 : s.toList ≠ [] := fun e => by
    rw [Lib.toList_data] at e
    rw [Lib.size_eq, e] at h0
    simp at h0
  refine ⟨by simpa using h1, ?_⟩
  cases hs : s.toList with
  | nil => exact absurd hs h1
  | cons a l => rfl
set_option maxRecDepth 100000 in
set_option maxHeartbeats 4000000 in
theorem name_any (s : ByteArray) (w : World) : Calls Try.prog 66 #[.string s] w fun e w' => e = .returned (.bool (isName s)) ∧ w = w' := by
  by_cases h0 : s.size = 0
  · have hs : s = ⟨#[]⟩ := by
      apply ByteArray.ext
      exact Array.eq_empty_of_size_eq_zero h0
    subst hs
    go_enter Try.func66, Try.ntmps66
    go_wp2
    go_ret
    exact ⟨rfl, rfl⟩
  obtain ⟨n0, n1⟩ := name_ne (s := s) (by omega)
  by_cases h1 : 32 < s.size
  · have h1' : (32 : Int) < s.size := by omega
    have HN : Hid (isName s = false) := decide_eq_false (fun h => by omega)
    go_enter Try.func66, Try.ntmps66
    go_wp2
    go_ret
    exact ⟨by rw [HN.out]; rfl, rfl⟩
  have h1' : (s.size : Int) ≤ 32 := by omega
  have h0' : 0 < s.size := by omega
  have h0i : (0 : Int) < s.size := by omega
  obtain ⟨c, hc⟩ : ∃ c, s[0]'h0' = c := ⟨_, rfl⟩
  cases hl : letter c with
  | false =>
    have HN : Hid (isName s = false) := decide_eq_false (fun h => by have := h.2.2.1 h0'; rw [hc, hl] at this; cases this)
    go_enter Try.func66, Try.ntmps66
    go_wp2_with (go_at_call 85; refine (letter_any c _).mono ?_; rintro e w' ⟨rfl, rfl⟩; rw [hl])
    go_ret
    exact ⟨by rw [HN.out]; rfl, rfl⟩
  | true =>
    cases hw : isWord s with
    | true =>
      go_enter Try.func66, Try.ntmps66
      go_wp2_with (first | (go_at_call 85; refine (letter_any c _).mono ?_; rintro e w' ⟨rfl, rfl⟩; rw [hl]) | (go_at_call 87; refine (word_any s _).mono ?_; rintro e w' ⟨rfl, rfl⟩; rw [hw]))
      go_loopw [19] (fun i wr => ∃ k : Nat, k ≤ s.size ∧ i = .int .i64 k ∧ Hid (∀ j (h : j < s.size), j < k → goes (s[j]'h) = true) ∧ w = wr) (fun i _ => s.size - (intOf i).toNat)
      case atStart => exact ⟨0, Nat.zero_le _, rfl, fun j h hj => by omega, rfl⟩
      case round =>
        obtain ⟨k, hk, rfl, HA, rfl⟩ := hrel
        by_cases hlt : k < s.size
        · have hlt' : (k : Int) < s.size := by omega
          obtain ⟨x, hx⟩ : ∃ x, s[k]'hlt = x := ⟨_, rfl⟩
          cases hg : goes x with
          | false =>
            have HN : Hid (isName s = false) := decide_eq_false (fun h => by have := h.2.2.2.1 k hlt; rw [hx, hg] at this; cases this)
            go_wp2_with (go_at_call 86; refine (goes_any x _).mono ?_; rintro e w' ⟨rfl, rfl⟩; rw [hg])
            go_ret
            exact ⟨by rw [HN.out]; rfl, rfl⟩
          | true =>
            have HA2 : Hid (∀ j (h : j < s.size), j < k + 1 → goes (s[j]'h) = true) := fun j h h2 => by
              rcases Nat.lt_or_ge j k with h3 | h3
              · exact HA.out j h h3
              · obtain rfl : j = k := by omega
                rw [hx, hg]
            go_wp2_with (go_at_call 86; refine (goes_any x _).mono ?_; rintro e w' ⟨rfl, rfl⟩; rw [hg])
            go_roundw
            case rel => exact ⟨k + 1, by omega, by go_num, HA2, by trivial⟩
            case measure => simp [intOf]; omega
        · obtain rfl : k = s.size := by omega
          have HN : Hid (isName s = !(isWord s)) := by
            show _ = _
            rw [hw]
            exact decide_eq_false (fun h => by have := h.2.2.2.2; rw [hw] at this; cases this)
          go_wp2_with (go_at_call 87; refine (word_any s _).mono ?_; rintro e w' ⟨rfl, rfl⟩; rw [hw])
          go_ret
          exact ⟨by rw [HN.out, hw]; rfl, rfl⟩
    | false =>
      go_enter Try.func66, Try.ntmps66
      go_wp2_with (first | (go_at_call 85; refine (letter_any c _).mono ?_; rintro e w' ⟨rfl, rfl⟩; rw [hl]) | (go_at_call 87; refine (word_any s _).mono ?_; rintro e w' ⟨rfl, rfl⟩; rw [hw]))
      go_loopw [19] (fun i wr => ∃ k : Nat, k ≤ s.size ∧ i = .int .i64 k ∧ Hid (∀ j (h : j < s.size), j < k → goes (s[j]'h) = true) ∧ w = wr) (fun i _ => s.size - (intOf i).toNat)
      case atStart => exact ⟨0, Nat.zero_le _, rfl, fun j h hj => by omega, rfl⟩
      case round =>
        obtain ⟨k, hk, rfl, HA, rfl⟩ := hrel
        by_cases hlt : k < s.size
        · have hlt' : (k : Int) < s.size := by omega
          obtain ⟨x, hx⟩ : ∃ x, s[k]'hlt = x := ⟨_, rfl⟩
          cases hg : goes x with
          | false =>
            have HN : Hid (isName s = false) := decide_eq_false (fun h => by have := h.2.2.2.1 k hlt; rw [hx, hg] at this; cases this)
            go_wp2_with (go_at_call 86; refine (goes_any x _).mono ?_; rintro e w' ⟨rfl, rfl⟩; rw [hg])
            go_ret
            exact ⟨by rw [HN.out]; rfl, rfl⟩
          | true =>
            have HA2 : Hid (∀ j (h : j < s.size), j < k + 1 → goes (s[j]'h) = true) := fun j h h2 => by
              rcases Nat.lt_or_ge j k with h3 | h3
              · exact HA.out j h h3
              · obtain rfl : j = k := by omega
                rw [hx, hg]
            go_wp2_with (go_at_call 86; refine (goes_any x _).mono ?_; rintro e w' ⟨rfl, rfl⟩; rw [hg])
            go_roundw
            case rel => exact ⟨k + 1, by omega, by go_num, HA2, by trivial⟩
            case measure => simp [intOf]; omega
        · obtain rfl : k = s.size := by omega
          have HN : Hid (isName s = !(isWord s)) := by
            show _ = _
            rw [hw]
            exact decide_eq_true ⟨h0', by omega, fun _ => by rw [hc, hl], fun i h => HA.out i h h, hw⟩
          go_wp2_with (go_at_call 87; refine (word_any s _).mono ?_; rintro e w' ⟨rfl, rfl⟩; rw [hw])
          go_ret
          exact ⟨by rw [HN.out, hw]; rfl, rfl⟩
set_option maxRecDepth 100000 in
set_option maxHeartbeats 4000000 in
theorem nameD_any (s : ByteArray) (w : World) : Calls Try.prog 26 #[.string s] w fun e w' => e = .returned (.bool (isName s)) ∧ w = w' := by
  by_cases h0 : s.size = 0
  · have hs : s = ⟨#[]⟩ := by
      apply ByteArray.ext
      exact Array.eq_empty_of_size_eq_zero h0
    subst hs
    go_enter Try.func26, Try.ntmps26
    go_wp2
    go_ret
    exact ⟨rfl, rfl⟩
  obtain ⟨n0, n1⟩ := name_ne (s := s) (by omega)
  by_cases h1 : 32 < s.size
  · have h1' : (32 : Int) < s.size := by omega
    have HN : Hid (isName s = false) := decide_eq_false (fun h => by omega)
    go_enter Try.func26, Try.ntmps26
    go_wp2
    go_ret
    exact ⟨by rw [HN.out]; rfl, rfl⟩
  have h1' : (s.size : Int) ≤ 32 := by omega
  have h0' : 0 < s.size := by omega
  have h0i : (0 : Int) < s.size := by omega
  obtain ⟨c, hc⟩ : ∃ c, s[0]'h0' = c := ⟨_, rfl⟩
  cases hl : letter c with
  | false =>
    have HN : Hid (isName s = false) := decide_eq_false (fun h => by have := h.2.2.1 h0'; rw [hc, hl] at this; cases this)
    go_enter Try.func26, Try.ntmps26
    go_wp2_with (go_at_call 49; refine (letterD_any c _).mono ?_; rintro e w' ⟨rfl, rfl⟩; rw [hl])
    go_ret
    exact ⟨by rw [HN.out]; rfl, rfl⟩
  | true =>
    cases hw : isWord s with
    | true =>
      have HN : Hid (isName s = false) := decide_eq_false (fun h => by have := h.2.2.2.2; rw [hw] at this; cases this)
      go_enter Try.func26, Try.ntmps26
      go_wp2_with (first | (go_at_call 49; refine (letterD_any c _).mono ?_; rintro e w' ⟨rfl, rfl⟩; rw [hl]) | (go_at_call 50; refine (wordD_any s _).mono ?_; rintro e w' ⟨rfl, rfl⟩; rw [hw]))
      go_ret
      exact ⟨by rw [HN.out]; rfl, rfl⟩
    | false =>
      go_enter Try.func26, Try.ntmps26
      go_wp2_with (first | (go_at_call 49; refine (letterD_any c _).mono ?_; rintro e w' ⟨rfl, rfl⟩; rw [hl]) | (go_at_call 50; refine (wordD_any s _).mono ?_; rintro e w' ⟨rfl, rfl⟩; rw [hw]))
      go_loopw [3] (fun i wr => ∃ k : Nat, k ≤ s.size ∧ i = .int .i64 k ∧ Hid (∀ j (h : j < s.size), j < k → goes (s[j]'h) = true) ∧ w = wr) (fun i _ => s.size - (intOf i).toNat)
      case atStart => exact ⟨0, Nat.zero_le _, rfl, fun j h hj => by omega, rfl⟩
      case round =>
        obtain ⟨k, hk, rfl, HA, rfl⟩ := hrel
        by_cases hlt : k < s.size
        · have hlt' : (k : Int) < s.size := by omega
          obtain ⟨x, hx⟩ : ∃ x, s[k]'hlt = x := ⟨_, rfl⟩
          cases hg : goes x with
          | false =>
            have HN : Hid (isName s = false) := decide_eq_false (fun h => by have := h.2.2.2.1 k hlt; rw [hx, hg] at this; cases this)
            go_wp2_with (go_at_call 51; refine (goesD_any x _).mono ?_; rintro e w' ⟨rfl, rfl⟩; rw [hg])
            go_ret
            exact ⟨by rw [HN.out]; rfl, rfl⟩
          | true =>
            have HA2 : Hid (∀ j (h : j < s.size), j < k + 1 → goes (s[j]'h) = true) := fun j h h2 => by
              rcases Nat.lt_or_ge j k with h3 | h3
              · exact HA.out j h h3
              · obtain rfl : j = k := by omega
                rw [hx, hg]
            go_wp2_with (go_at_call 51; refine (goesD_any x _).mono ?_; rintro e w' ⟨rfl, rfl⟩; rw [hg])
            go_roundw
            case rel => exact ⟨k + 1, by omega, by go_num, HA2, by trivial⟩
            case measure => simp [intOf]; omega
        · obtain rfl : k = s.size := by omega
          have HN : Hid (isName s = !(isWord s)) := by
            show _ = _
            rw [hw]
            exact decide_eq_true ⟨h0', by omega, fun _ => by rw [hc, hl], fun i h => HA.out i h h, hw⟩
          go_wp2_with (go_at_call 50; refine (wordD_any s _).mono ?_; rintro e w' ⟨rfl, rfl⟩; rw [hw])
          go_ret
          exact ⟨by rw [HN.out, hw]; rfl, rfl⟩
end Go.Proofs.Ytdpkmkhflgmioaa
