/- Code: the document's in and fits. -/
import Derived.Test.YteadmiikenpjeaaDoorCeo
namespace Go.Proofs.YteadmiikenpjeaaDoor
open Go.RowKit
set_option linter.unusedVariables false

/-- The kind that a letter stands for. -/
def ltK (c : Int) : Int :=
  if c = 107 then 1 else if c = 112 then 10 else if c = 75 then 2 else if c = 119 then 3 else if c = 109 then 4 else if c = 102 then 5 else if c = 110 then 6 else if c = 115 then 7 else if c = 97 then 8 else if c = 103 then 9
  else if c = 108 then 11 else if c = 76 then 12 else if c = 114 then 13 else if c = 122 then 14 else if c = 116 then 15 else if c = 121 then 16 else 0
theorem in_any (x lo hi : Int) (w : World) : Calls Tryd.prog 43 #[.int .i64 x, .int .i64 lo, .int .i64 hi] w fun e w' => e = .returned (.bool (decide (lo ≤ x) && decide (x ≤ hi))) ∧ w = w' := by
  by_cases h : lo ≤ x
  · go_enter Tryd.func43, Tryd.ntmps43
    go_wp2
    go_ret
    exact ⟨by simp [h], rfl⟩
  · go_enter Tryd.func43, Tryd.ntmps43
    go_wp2
    go_ret
    exact ⟨by rw [decide_eq_false (by omega : ¬ lo ≤ x)]; rfl, rfl⟩
theorem alw_in {nc ne k x lo hi : Int} (h : bnd nc ne k = (lo, hi)) (h3 : k ≠ 3) (h13 : k ≠ 13) : alw nc ne k x = (decide (lo ≤ x) && decide (x ≤ hi)) := by
  unfold alw
  rw [h, if_neg h3, if_neg h13, Bool.and_true]
  simp
set_option maxRecDepth 100000 in
set_option maxHeartbeats 8000000 in
theorem fits_in (enc : Bool) (ac ae : Option Addr) (nc cc ne ce : Nat) (c x : Int) (w : World) (hnc : nc ≤ 140737488355328) (hne : ne ≤ 140737488355328) (hc : c = 107 ∨ c = 112 ∨ c = 75 ∨ c = 109 ∨ c = 102 ∨ c = 110 ∨ c = 115 ∨ c = 97 ∨ c = 103 ∨ c = 108 ∨ c = 76 ∨ c = 122 ∨ c = 116 ∨ c = 121) :
    Calls Tryd.prog 64 #[.agg #[.bool enc, .slice ac nc cc, .slice ae ne ce], .int .u8 c, .int .i64 x] w fun e w' => e = .returned (.bool (alw nc ne (ltK c) x)) ∧ Below w.heap.size w w' := by
  have HI := hide_ (fun (lo hi : Int) w' => in_any x lo hi w')
  have hw1 : wrap64 ((nc : Int) - 1) = (nc : Int) - 1 := w64 _ (by omega)
  have hw2 : wrap64 ((ne : Int) - 1) = (ne : Int) - 1 := w64 _ (by omega)
  rcases hc with rfl | rfl | rfl | rfl | rfl | rfl | rfl | rfl | rfl | rfl | rfl | rfl | rfl | rfl
  all_goals
    rw [alw_in rfl (by decide) (by decide)]
    go_enter Tryd.func64, Tryd.ntmps64
    go_wp2_with (go_at_call 43; refine (HI.out _ _ _).mono ?_; rintro e w' ⟨rfl, rfl⟩)
    go_ret
    exact ⟨rfl, below1 _ _⟩
set_option maxRecDepth 100000 in
set_option maxHeartbeats 8000000 in
theorem fits_w (enc : Bool) (ac ae : Option Addr) (nc cc ne ce : Nat) (x : Int) (w : World) :
    Calls Tryd.prog 64 #[.agg #[.bool enc, .slice ac nc cc, .slice ae ne ce], .int .u8 119, .int .i64 x] w fun e w' => e = .returned (.bool (alw nc ne 3 x)) ∧ Below w.heap.size w w' := by
  have e : alw nc ne 3 x = (x == 1 || x == 2 || x == 4 || x == 8) := by
    unfold alw
    rw [if_pos rfl]
    have hb : bnd nc ne 3 = (1, 8) := rfl
    rw [hb]
    by_cases h : x = 1 ∨ x = 2 ∨ x = 4 ∨ x = 8
    · rw [decide_eq_true (by simp only; omega), Bool.true_and]
    · have : (x == 1 || x == 2 || x == 4 || x == 8) = false := by simp; omega
      rw [this, Bool.and_false]
  rw [e]
  clear e
  by_cases h1 : x = 1
  · subst h1
    go_enter Tryd.func64, Tryd.ntmps64
    go_wp2
    go_ret
    exact ⟨rfl, below1 _ _⟩
  have b1 : (x == 1) = false := by simpa using h1
  by_cases h2 : x = 2
  · subst h2
    go_enter Tryd.func64, Tryd.ntmps64
    go_wp2
    go_ret
    exact ⟨rfl, below1 _ _⟩
  have b2 : (x == 2) = false := by simpa using h2
  by_cases h4 : x = 4
  · subst h4
    go_enter Tryd.func64, Tryd.ntmps64
    go_wp2
    go_ret
    exact ⟨rfl, below1 _ _⟩
  have b4 : (x == 4) = false := by simpa using h4
  rw [b1, b2, b4]
  go_enter Tryd.func64, Tryd.ntmps64
  go_wp2
  go_ret
  exact ⟨by simp, below1 _ _⟩
set_option maxRecDepth 100000 in
set_option maxHeartbeats 8000000 in
theorem fits_r (enc : Bool) (ac ae : Option Addr) (nc cc ne ce : Nat) (x : Int) (w : World) :
    Calls Tryd.prog 64 #[.agg #[.bool enc, .slice ac nc cc, .slice ae ne ce], .int .u8 114, .int .i64 x] w fun e w' => e = .returned (.bool (alw nc ne 13 x)) ∧ Below w.heap.size w w' := by
  have e : alw nc ne 13 x = (x == -1 || (decide (1 ≤ x) && decide (x ≤ 16777216))) := by
    unfold alw
    rw [if_neg (by decide), if_pos rfl]
    have hb : bnd nc ne 13 = (-1, 16777216) := rfl
    rw [hb]
    simp only
    by_cases h : x = -1
    · subst h; rfl
    · have b : (x == -1) = false := by simpa using h
      rw [b, Bool.false_or]
      by_cases h2 : 1 ≤ x ∧ x ≤ 16777216
      · rw [decide_eq_true (by omega), decide_eq_true h2.1, decide_eq_true h2.2]
        have : (x != 0) = true := by simp; omega
        rw [this]
      · have h3 : (decide (1 ≤ x) && decide (x ≤ 16777216)) = false := by simp; omega
        rw [h3]
        by_cases h0 : x = 0
        · subst h0; rfl
        · rw [decide_eq_false (by omega), Bool.false_and]
  rw [e]
  clear e
  have HI := hide_ (in_any x 1 16777216)
  by_cases h1 : x = -1
  · subst h1
    go_enter Tryd.func64, Tryd.ntmps64
    go_wp2
    go_ret
    exact ⟨rfl, below1 _ _⟩
  have b1 : (x == -1) = false := by simpa using h1
  rw [b1, Bool.false_or]
  generalize (decide (1 ≤ x) && decide (x ≤ 16777216)) = r at *
  go_enter Tryd.func64, Tryd.ntmps64
  go_wp2_with (go_at_call 43; refine (HI.out _).mono ?_; rintro e w' ⟨rfl, rfl⟩)
  go_ret
  exact ⟨rfl, below1 _ _⟩
set_option maxRecDepth 100000 in
set_option maxHeartbeats 8000000 in
theorem fits_no (enc : Bool) (ac ae : Option Addr) (nc cc ne ce : Nat) (x : Int) (w : World) :
    Calls Tryd.prog 64 #[.agg #[.bool enc, .slice ac nc cc, .slice ae ne ce], .int .u8 32, .int .i64 x] w fun e w' => e = .returned (.bool (alw nc ne 0 x)) ∧ Below w.heap.size w w' := by
  have e : alw nc ne 0 x = (x == 0) := by
    unfold alw
    rw [if_neg (by decide), if_neg (by decide), Bool.and_true]
    have hb : bnd nc ne 0 = (0, 0) := rfl
    rw [hb]
    by_cases h : x = 0
    · subst h; rfl
    · have : (x == 0) = false := by simpa using h
      rw [this, decide_eq_false (by simp only; omega)]
  rw [e]
  clear e
  go_enter Tryd.func64, Tryd.ntmps64
  go_wp2
  go_ret
  exact ⟨rfl, below1 _ _⟩
end Go.Proofs.YteadmiikenpjeaaDoor
