/- Contracts of the small functions of package le, and of rest and num. -/
import Derived.Test.YtmhcihccliakaaaRows
import Derived.WalkKit
import Derived.WalkLawsBesides
import Derived.WalkSpells
import Derived.Outline
import Derived.BigQuiet
import Derived.Deep.QuietTactic
import Derived.Deep.RegionWith
namespace Go.Proofs.Ytmhcihccliakaaa
open Go.RowKit
set_option linter.unusedVariables false

theorem w64 (n : Int) (h : -9223372036854775808 ≤ n ∧ n ≤ 9223372036854775807) : wrap64 n = n := by unfold wrap64; omega
theorem ret_int {k : IntKind} {a b : Int} (h : a = b) : Ending.returned (.int k a) = .returned (.int k b) := by rw [h]

theorem isW_yes (x : Int) (w : World) (h1 : 1 ≤ x) (h2 : x ≤ 8) :
    Calls Try.prog 16 #[.int .i64 x] w fun e w' => e = .returned (.bool true) ∧ w = w' := by
  go_enter Try.func16, Try.ntmps16
  go_wp2
  go_ret
  exact ⟨rfl, rfl⟩

theorem isW_no (x : Int) (w : World) (h : x < 1 ∨ 8 < x) :
    Calls Try.prog 16 #[.int .i64 x] w fun e w' => e = .returned (.bool false) ∧ w = w' := by
  by_cases h1 : 1 ≤ x
  · have h2 : ¬ x ≤ 8 := by omega
    go_enter Try.func16, Try.ntmps16
    go_wp2
    go_ret
    exact ⟨rfl, rfl⟩
  · go_enter Try.func16, Try.ntmps16
    go_wp2
    go_ret
    exact ⟨rfl, rfl⟩

/-- What a number counts as. -/
def sz (n : Int) : Int := if n < 0 then 0 else if n ≤ 4611686018427387904 then n else 4611686018427387904
theorem sz_bd (n : Int) : 0 ≤ sz n ∧ sz n ≤ 4611686018427387904 := by unfold sz; omega

theorem asSize_any (n : Int) (w : World) :
    Calls Try.prog 17 #[.int .i64 n] w fun e w' => e = .returned (.int .i64 (sz n)) ∧ w = w' := by
  go_enter Try.func17, Try.ntmps17
  go_wp2
  all_goals
    go_ret
    exact ⟨ret_int (by unfold sz; split at * <;> omega), rfl⟩

theorem num_any (n : Int) (w : World) :
    Calls Try.prog 10 #[.int .i64 n] w fun e w' => e = .returned (.int .i64 n) ∧ w = w' := by
  go_enter Try.func10, Try.ntmps10
  go_wp2
  go_ret
  exact ⟨rfl, rfl⟩

theorem rest_bd (n lo hi : Int) (h0 : 0 ≤ lo) (h1 : lo ≤ hi) (h2 : hi ≤ 1000000) :
    lo ≤ wrap64 (lo + (wrap64 (n.tmod (hi - lo + 1) + (hi - lo + 1))).tmod (hi - lo + 1)) ∧ wrap64 (lo + (wrap64 (n.tmod (hi - lo + 1) + (hi - lo + 1))).tmod (hi - lo + 1)) ≤ hi := by
  have a1 : n.tmod (hi - lo + 1) < hi - lo + 1 := Int.tmod_lt_of_pos n (by omega)
  have a2 : -(hi - lo + 1) < n.tmod (hi - lo + 1) := Int.lt_tmod_of_pos n (by omega)
  have e1 : wrap64 (n.tmod (hi - lo + 1) + (hi - lo + 1)) = n.tmod (hi - lo + 1) + (hi - lo + 1) := by
    rw [w64 _ (by omega)]
  rw [e1]
  have ht : 0 ≤ n.tmod (hi - lo + 1) + (hi - lo + 1) := by omega
  clear e1
  generalize n.tmod (hi - lo + 1) + (hi - lo + 1) = t at *
  have b1 : t.tmod (hi - lo + 1) < hi - lo + 1 := Int.tmod_lt_of_pos t (by omega)
  have b2 : 0 ≤ t.tmod (hi - lo + 1) := Int.tmod_nonneg _ (by omega)
  rw [w64 _ (by omega)]
  omega

theorem rest_any (n lo hi : Int) (w : World) (h0 : 0 ≤ lo) (h1 : lo ≤ hi) (h2 : hi ≤ 1000000) :
    Calls Try.prog 7 #[.int .i64 n, .int .i64 lo, .int .i64 hi] w fun e w' => (∃ r : Int, lo ≤ r ∧ r ≤ hi ∧ e = .returned (.int .i64 r)) ∧ w = w' := by
  have hb := rest_bd n lo hi h0 h1 h2
  go_enter Try.func7, Try.ntmps7
  go_wp2
  go_ret
  exact ⟨⟨_, hb.1, hb.2, rfl⟩, rfl⟩

/-! Fits -/
theorem fits_no (n width : Int) (w : World) (h : width < 1 ∨ 8 < width) :
    Calls Try.prog 9 #[.int .u64 n, .int .i64 width] w fun e w' => e = .returned (.bool false) ∧ w = w' := by
  go_enter Try.func9, Try.ntmps9
  go_wp2_with (go_at_call 16; refine (isW_no _ _ h).mono ?_; rintro e w' ⟨rfl, rfl⟩)
  go_ret
  exact ⟨rfl, rfl⟩
def fitB (n width : Int) : Bool := n / 2 ^ (8 * width).toNat == 0
theorem fits_in (n width : Int) (w : World) (h1 : 1 ≤ width) (h2 : width ≤ 8) :
    Calls Try.prog 9 #[.int .u64 n, .int .i64 width] w fun e w' => e = .returned (.bool (fitB n width)) ∧ w = w' := by
  go_enter Try.func9, Try.ntmps9
  go_wp2_with (go_at_call 16; refine (isW_yes _ _ h1 h2).mono ?_; rintro e w' ⟨rfl, rfl⟩)
  go_ret
  exact ⟨rfl, rfl⟩

theorem place_w (a : Option Addr) (len cap : Nat) (pos width : Int) (w : World) (h : width < 1 ∨ 8 < width) :
    Calls Try.prog 15 #[.slice a len cap, .int .i64 pos, .int .i64 width] w fun e w' => e = .returned (.int .i64 10) ∧ w = w' := by
  go_enter Try.func15, Try.ntmps15
  go_wp2_with (go_at_call 16; refine (isW_no _ _ h).mono ?_; rintro e w' ⟨rfl, rfl⟩)
  go_ret
  exact ⟨rfl, rfl⟩
theorem place_no (a : Option Addr) (len cap : Nat) (pos width : Int) (w : World) (h1 : 1 ≤ width) (h2 : width ≤ 8) (hl : len ≤ maxLen) (h : pos < 0 ∨ (len : Int) - width < pos) :
    Calls Try.prog 15 #[.slice a len cap, .int .i64 pos, .int .i64 width] w fun e w' => e = .returned (.int .i64 3) ∧ w = w' := by
  unfold maxLen at hl
  by_cases hp : pos < 0
  · go_enter Try.func15, Try.ntmps15
    go_wp2_with (go_at_call 16; refine (isW_yes _ _ h1 h2).mono ?_; rintro e w' ⟨rfl, rfl⟩)
    go_ret
    exact ⟨rfl, rfl⟩
  · have hq : (len : Int) - width < pos := by omega
    clear h
    go_enter Try.func15, Try.ntmps15
    go_wp2_with (go_at_call 16; refine (isW_yes _ _ h1 h2).mono ?_; rintro e w' ⟨rfl, rfl⟩)
    go_ret
    exact ⟨rfl, rfl⟩
theorem place_ok (a : Option Addr) (len cap : Nat) (pos width : Int) (w : World) (h1 : 1 ≤ width) (h2 : width ≤ 8) (hl : len ≤ maxLen) (h0 : 0 ≤ pos) (h : pos ≤ (len : Int) - width) :
    Calls Try.prog 15 #[.slice a len cap, .int .i64 pos, .int .i64 width] w fun e w' => e = .returned (.int .i64 0) ∧ w = w' := by
  unfold maxLen at hl
  go_enter Try.func15, Try.ntmps15
  go_wp2_with (go_at_call 16; refine (isW_yes _ _ h1 h2).mono ?_; rintro e w' ⟨rfl, rfl⟩)
  go_ret
  exact ⟨rfl, rfl⟩
end Go.Proofs.Ytmhcihccliakaaa
