import Derived.Test.YtafljgjkcnbhbaaDoorPart03
import Derived.Test.YtafljgjkcnbhbaaDoorRows
import Derived.Lib.Strings

/- Bytes and words: the small functions. -/
namespace Go.Proofs.YtafljgjkcnbhbaaDoor
open Go.RowKit
set_option linter.unusedVariables false

set_option maxRecDepth 100000 in
set_option maxHeartbeats 4000000 in
theorem letter_any (c : UInt8) (w : World) : Calls Tryd.prog 38 #[.int .u8 (c.toNat : Int)] w fun e w' => e = .returned (.bool (letter c)) ∧ w = w' := by
  obtain ⟨x, hx⟩ : ∃ x : Int, (c.toNat : Int) = x := ⟨_, rfl⟩
  have hl : letter c = (decide (97 ≤ x) && decide (x ≤ 122)) := by rw [← hx]; unfold letter; rw [← Bool.decide_and]; exact decide_eq_decide.2 (by omega)
  rw [hx, hl]
  go_enter Tryd.func38, Tryd.ntmps38
  by_cases h1 : 97 ≤ x
  · by_cases h2 : x ≤ 122
    · go_wp2
      go_ret
      exact ⟨by simp [h1, h2], rfl⟩
    · go_wp2
      go_ret
      exact ⟨by simp [h2], rfl⟩
  · go_wp2
    go_ret
    exact ⟨by simp; omega, rfl⟩

set_option maxRecDepth 100000 in
set_option maxHeartbeats 4000000 in
theorem digit_any (c : UInt8) (w : World) : Calls Tryd.prog 51 #[.int .u8 (c.toNat : Int)] w fun e w' => e = .returned (.bool (digit c)) ∧ w = w' := by
  obtain ⟨x, hx⟩ : ∃ x : Int, (c.toNat : Int) = x := ⟨_, rfl⟩
  have hl : digit c = (decide (48 ≤ x) && decide (x ≤ 57)) := by rw [← hx]; unfold digit; rw [← Bool.decide_and]; exact decide_eq_decide.2 (by omega)
  rw [hx, hl]
  go_enter Tryd.func51, Tryd.ntmps51
  by_cases h1 : 48 ≤ x
  · by_cases h2 : x ≤ 57
    · go_wp2
      go_ret
      exact ⟨by simp [h1, h2], rfl⟩
    · go_wp2
      go_ret
      exact ⟨by simp [h2], rfl⟩
  · go_wp2
    go_ret
    exact ⟨by simp; omega, rfl⟩

set_option maxRecDepth 100000 in
set_option maxHeartbeats 4000000 in
theorem letterD_any (c : UInt8) (w : World) : Calls Tryd.prog 45 #[.int .u8 (c.toNat : Int)] w fun e w' => e = .returned (.bool (letter c)) ∧ w = w' := by
  obtain ⟨x, hx⟩ : ∃ x : Int, (c.toNat : Int) = x := ⟨_, rfl⟩
  have hl : letter c = (decide (97 ≤ x) && decide (x ≤ 122)) := by rw [← hx]; unfold letter; rw [← Bool.decide_and]; exact decide_eq_decide.2 (by omega)
  rw [hx, hl]
  go_enter Tryd.func45, Tryd.ntmps45
  by_cases h1 : 97 ≤ x
  · by_cases h2 : x ≤ 122
    · go_wp2
      go_ret
      exact ⟨by simp [h1, h2], rfl⟩
    · go_wp2
      go_ret
      exact ⟨by simp [h2], rfl⟩
  · go_wp2
    go_ret
    exact ⟨by simp; omega, rfl⟩

set_option maxRecDepth 100000 in
set_option maxHeartbeats 4000000 in
theorem digitD_any (c : UInt8) (w : World) : Calls Tryd.prog 62 #[.int .u8 (c.toNat : Int)] w fun e w' => e = .returned (.bool (digit c)) ∧ w = w' := by
  obtain ⟨x, hx⟩ : ∃ x : Int, (c.toNat : Int) = x := ⟨_, rfl⟩
  have hl : digit c = (decide (48 ≤ x) && decide (x ≤ 57)) := by rw [← hx]; unfold digit; rw [← Bool.decide_and]; exact decide_eq_decide.2 (by omega)
  rw [hx, hl]
  go_enter Tryd.func62, Tryd.ntmps62
  by_cases h1 : 48 ≤ x
  · by_cases h2 : x ≤ 57
    · go_wp2
      go_ret
      exact ⟨by simp [h1, h2], rfl⟩
    · go_wp2
      go_ret
      exact ⟨by simp [h2], rfl⟩
  · go_wp2
    go_ret
    exact ⟨by simp; omega, rfl⟩

set_option maxRecDepth 100000 in
set_option maxHeartbeats 4000000 in
theorem mark_any (c : UInt8) (w : World) : Calls Tryd.prog 53 #[.int .u8 (c.toNat : Int)] w fun e w' => e = .returned (.bool (mark c)) ∧ w = w' := by
  obtain ⟨x, hx⟩ : ∃ x : Int, (c.toNat : Int) = x := ⟨_, rfl⟩
  have hl : mark c = decide (x = 61 ∨ x = 59 ∨ x = 60 ∨ x = 62 ∨ x = 44 ∨ x = 58 ∨ x = 123 ∨ x = 125) := by rw [← hx]; unfold mark; exact decide_eq_decide.2 (by omega)
  rw [hx, hl]
  clear hl hx
  go_enter Tryd.func53, Tryd.ntmps53
  by_cases h0 : x = 61
  · subst h0; go_wp2; go_ret; exact ⟨by simp, rfl⟩
  by_cases h1 : x = 59
  · subst h1; go_wp2; go_ret; exact ⟨by simp, rfl⟩
  by_cases h2 : x = 60
  · subst h2; go_wp2; go_ret; exact ⟨by simp, rfl⟩
  by_cases h3 : x = 62
  · subst h3; go_wp2; go_ret; exact ⟨by simp, rfl⟩
  by_cases h4 : x = 44
  · subst h4; go_wp2; go_ret; exact ⟨by simp, rfl⟩
  by_cases h5 : x = 58
  · subst h5; go_wp2; go_ret; exact ⟨by simp, rfl⟩
  by_cases h6 : x = 123
  · subst h6; go_wp2; go_ret; exact ⟨by simp, rfl⟩
  by_cases h7 : x = 125
  · subst h7; go_wp2; go_ret; exact ⟨by simp, rfl⟩
  go_wp2
  go_ret
  exact ⟨by simp [h0, h1, h2, h3, h4, h5, h6, h7], rfl⟩

theorem str_ne (s : ByteArray) (l : List UInt8) (h : ¬ s = ⟨l.toArray⟩) : (s.toList == l) = false := by
  have : s.toList ≠ l := fun e => h (by rw [Lib.toList_data] at e; apply ByteArray.ext; rw [← e])
  simpa using this

set_option maxRecDepth 100000 in
set_option maxHeartbeats 4000000 in
theorem goes_any (c : UInt8) (w : World) : Calls Tryd.prog 39 #[.int .u8 (c.toNat : Int)] w fun e w' => e = .returned (.bool (goes c)) ∧ w = w' := by
  have hg : goes c = (letter c || digit c || decide ((c.toNat : Int) = 95)) := by unfold goes; congr 1; exact decide_eq_decide.2 (by omega)
  rw [hg]
  go_enter Tryd.func39, Tryd.ntmps39
  go_wp2_with fail
  refine (letter_any c _).mono ?_; rintro e w' ⟨rfl, rfl⟩
  cases hl : letter c
  · go_wp2_with fail
    refine (digit_any c _).mono ?_; rintro e w' ⟨rfl, rfl⟩
    cases hd : digit c
    · by_cases h5 : (c.toNat : Int) = 95
      · have h5b : ((c.toNat : Int) == 95) = true := by simp [h5]
        go_wp2
        go_ret
        exact ⟨by simp [h5], rfl⟩
      · have h5b : ((c.toNat : Int) == 95) = false := by simpa using h5
        go_wp2
        go_ret
        exact ⟨by simp [hl, hd, h5], rfl⟩
    · go_wp2
      go_ret
      exact ⟨by simp [hd], rfl⟩
  · go_wp2
    go_ret
    exact ⟨by simp [hl], rfl⟩

set_option maxRecDepth 100000 in
set_option maxHeartbeats 4000000 in
theorem goesD_any (c : UInt8) (w : World) : Calls Tryd.prog 47 #[.int .u8 (c.toNat : Int)] w fun e w' => e = .returned (.bool (goes c)) ∧ w = w' := by
  have hg : goes c = (letter c || digit c || decide ((c.toNat : Int) = 95)) := by unfold goes; congr 1; exact decide_eq_decide.2 (by omega)
  rw [hg]
  go_enter Tryd.func47, Tryd.ntmps47
  go_wp2_with fail
  refine (letterD_any c _).mono ?_; rintro e w' ⟨rfl, rfl⟩
  cases hl : letter c
  · go_wp2_with fail
    refine (digitD_any c _).mono ?_; rintro e w' ⟨rfl, rfl⟩
    cases hd : digit c
    · by_cases h5 : (c.toNat : Int) = 95
      · have h5b : ((c.toNat : Int) == 95) = true := by simp [h5]
        go_wp2
        go_ret
        exact ⟨by simp [h5], rfl⟩
      · have h5b : ((c.toNat : Int) == 95) = false := by simpa using h5
        go_wp2
        go_ret
        exact ⟨by simp [hl, hd, h5], rfl⟩
    · go_wp2
      go_ret
      exact ⟨by simp [hd], rfl⟩
  · go_wp2
    go_ret
    exact ⟨by simp [hl], rfl⟩

def isWord (s : ByteArray) : Bool := decide (s = ⟨#[116, 121, 112, 101]⟩ ∨ s = ⟨#[117, 56]⟩ ∨ s = ⟨#[117, 49, 54]⟩ ∨ s = ⟨#[117, 51, 50]⟩ ∨ s = ⟨#[117, 54, 52]⟩ ∨ s = ⟨#[98, 111, 111, 108]⟩ ∨ s = ⟨#[118, 97, 114, 105, 110, 116]⟩ ∨ s = ⟨#[118, 101, 99, 116, 111, 114]⟩ ∨ s = ⟨#[108, 105, 115, 116]⟩ ∨ s = ⟨#[111, 112, 116, 105, 111, 110]⟩ ∨ s = ⟨#[117, 110, 105, 111, 110]⟩ ∨ s = ⟨#[115, 116, 114, 117, 99, 116]⟩)

set_option maxRecDepth 100000 in
set_option maxHeartbeats 4000000 in
theorem word_any (s : ByteArray) (w : World) : Calls Tryd.prog 40 #[.string s] w fun e w' => e = .returned (.bool (isWord s)) ∧ w = w' := by
  unfold isWord
  go_enter Tryd.func40, Tryd.ntmps40
  by_cases h0 : s = ⟨#[116, 121, 112, 101]⟩
  · subst h0; go_wp2; go_ret; exact ⟨by simp, rfl⟩
  have k0 := str_ne s _ h0
  by_cases h1 : s = ⟨#[117, 56]⟩
  · subst h1; go_wp2; go_ret; exact ⟨by simp, rfl⟩
  have k1 := str_ne s _ h1
  by_cases h2 : s = ⟨#[117, 49, 54]⟩
  · subst h2; go_wp2; go_ret; exact ⟨by simp, rfl⟩
  have k2 := str_ne s _ h2
  by_cases h3 : s = ⟨#[117, 51, 50]⟩
  · subst h3; go_wp2; go_ret; exact ⟨by simp, rfl⟩
  have k3 := str_ne s _ h3
  by_cases h4 : s = ⟨#[117, 54, 52]⟩
  · subst h4; go_wp2; go_ret; exact ⟨by simp, rfl⟩
  have k4 := str_ne s _ h4
  by_cases h5 : s = ⟨#[98, 111, 111, 108]⟩
  · subst h5; go_wp2; go_ret; exact ⟨by simp, rfl⟩
  have k5 := str_ne s _ h5
  by_cases h6 : s = ⟨#[118, 97, 114, 105, 110, 116]⟩
  · subst h6; go_wp2; go_ret; exact ⟨by simp, rfl⟩
  have k6 := str_ne s _ h6
  by_cases h7 : s = ⟨#[118, 101, 99, 116, 111, 114]⟩
  · subst h7; go_wp2; go_ret; exact ⟨by simp, rfl⟩
  have k7 := str_ne s _ h7
  by_cases h8 : s = ⟨#[108, 105, 115, 116]⟩
  · subst h8; go_wp2; go_ret; exact ⟨by simp, rfl⟩
  have k8 := str_ne s _ h8
  by_cases h9 : s = ⟨#[111, 112, 116, 105, 111, 110]⟩
  · subst h9; go_wp2; go_ret; exact ⟨by simp, rfl⟩
  have k9 := str_ne s _ h9
  by_cases h10 : s = ⟨#[117, 110, 105, 111, 110]⟩
  · subst h10; go_wp2; go_ret; exact ⟨by simp, rfl⟩
  have k10 := str_ne s _ h10
  by_cases h11 : s = ⟨#[115, 116, 114, 117, 99, 116]⟩
  · subst h11; go_wp2; go_ret; exact ⟨by simp, rfl⟩
  have k11 := str_ne s _ h11
  go_wp2
  go_ret
  exact ⟨by simp [h0, h1, h2, h3, h4, h5, h6, h7, h8, h9, h10, h11], rfl⟩

set_option maxRecDepth 100000 in
set_option maxHeartbeats 4000000 in
theorem wordD_any (s : ByteArray) (w : World) : Calls Tryd.prog 46 #[.string s] w fun e w' => e = .returned (.bool (isWord s)) ∧ w = w' := by
  unfold isWord
  go_enter Tryd.func46, Tryd.ntmps46
  by_cases h0 : s = ⟨#[116, 121, 112, 101]⟩
  · subst h0; go_wp2; go_ret; exact ⟨by simp, rfl⟩
  have k0 := str_ne s _ h0
  by_cases h1 : s = ⟨#[117, 56]⟩
  · subst h1; go_wp2; go_ret; exact ⟨by simp, rfl⟩
  have k1 := str_ne s _ h1
  by_cases h2 : s = ⟨#[117, 49, 54]⟩
  · subst h2; go_wp2; go_ret; exact ⟨by simp, rfl⟩
  have k2 := str_ne s _ h2
  by_cases h3 : s = ⟨#[117, 51, 50]⟩
  · subst h3; go_wp2; go_ret; exact ⟨by simp, rfl⟩
  have k3 := str_ne s _ h3
  by_cases h4 : s = ⟨#[117, 54, 52]⟩
  · subst h4; go_wp2; go_ret; exact ⟨by simp, rfl⟩
  have k4 := str_ne s _ h4
  by_cases h5 : s = ⟨#[98, 111, 111, 108]⟩
  · subst h5; go_wp2; go_ret; exact ⟨by simp, rfl⟩
  have k5 := str_ne s _ h5
  by_cases h6 : s = ⟨#[118, 97, 114, 105, 110, 116]⟩
  · subst h6; go_wp2; go_ret; exact ⟨by simp, rfl⟩
  have k6 := str_ne s _ h6
  by_cases h7 : s = ⟨#[118, 101, 99, 116, 111, 114]⟩
  · subst h7; go_wp2; go_ret; exact ⟨by simp, rfl⟩
  have k7 := str_ne s _ h7
  by_cases h8 : s = ⟨#[108, 105, 115, 116]⟩
  · subst h8; go_wp2; go_ret; exact ⟨by simp, rfl⟩
  have k8 := str_ne s _ h8
  by_cases h9 : s = ⟨#[111, 112, 116, 105, 111, 110]⟩
  · subst h9; go_wp2; go_ret; exact ⟨by simp, rfl⟩
  have k9 := str_ne s _ h9
  by_cases h10 : s = ⟨#[117, 110, 105, 111, 110]⟩
  · subst h10; go_wp2; go_ret; exact ⟨by simp, rfl⟩
  have k10 := str_ne s _ h10
  by_cases h11 : s = ⟨#[115, 116, 114, 117, 99, 116]⟩
  · subst h11; go_wp2; go_ret; exact ⟨by simp, rfl⟩
  have k11 := str_ne s _ h11
  go_wp2
  go_ret
  exact ⟨by simp [h0, h1, h2, h3, h4, h5, h6, h7, h8, h9, h10, h11], rfl⟩

end Go.Proofs.YtafljgjkcnbhbaaDoor
