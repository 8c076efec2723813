/- Code: brought, made (how statements make a program). -/
import Derived.Test.YteadmiikenpjeaaDoorCma
namespace Go.Proofs.YteadmiikenpjeaaDoor
open Go.RowKit
set_option linter.unusedVariables false

theorem tmod_in (n m : Int) (hm : 0 < m) : -m < n.tmod m ∧ n.tmod m < m := by
  rcases Int.le_total 0 n with h | h
  · rw [Int.tmod_eq_emod_of_nonneg h]
    have h1 := Int.emod_nonneg n (show m ≠ 0 by omega)
    have h2 := Int.emod_lt_of_pos n hm
    omega
  · have e : n = -(-n) := by omega
    rw [e, Int.neg_tmod, Int.tmod_eq_emod_of_nonneg (by omega)]
    have h1 := Int.emod_nonneg (-n) (show m ≠ 0 by omega)
    have h2 := Int.emod_lt_of_pos (-n) hm
    omega
def BrTo (lo hi : Int) (w : World) (e : Ending) (w' : World) : Prop := ∃ r : Int, lo ≤ r ∧ r ≤ hi ∧ e = .returned (.int .i64 r) ∧ w = w'
set_option maxRecDepth 100000 in
set_option maxHeartbeats 4000000 in
theorem brought_any (x lo hi : Int) (w : World) (h1 : -1 ≤ lo) (h2 : lo ≤ hi) (h3 : hi ≤ 140737488355328) : Calls Tryd.prog 19 #[.int .i64 x, .int .i64 lo, .int .i64 hi] w (BrTo lo hi w) := by
  have hlh : ¬ hi < lo := by omega
  by_cases hin : lo ≤ x ∧ x ≤ hi
  · have HI := hide_ (in_any x lo hi)
    rw [decide_eq_true hin.1, decide_eq_true hin.2] at HI
    have hmx : ¬ x < lo := by omega
    go_enter Tryd.func19, Tryd.ntmps19
    go_wp2_with (go_at_call 43; refine (HI.out _).mono ?_; rintro e w' ⟨rfl, rfl⟩)
    go_ret
    exact ⟨x, hin.1, hin.2, by rw [show max x lo = x by omega]; rfl, rfl⟩
  · have hb : (decide (lo ≤ x) && decide (x ≤ hi)) = false := by simp; omega
    have HI := hide_ (in_any x lo hi)
    rw [hb] at HI
    obtain ⟨n, hn⟩ : ∃ n, n = hi - lo + 1 := ⟨_, rfl⟩
    have hn0 : 0 < n := by omega
    have hw1 : hi - lo + 1 = n := hn.symm
    have hz : (n == 0) = false := by simp; omega
    obtain ⟨q1, q2⟩ := tmod_in x n hn0
    generalize hq : x.tmod n = q at *
    have HQ := hide_ hq
    have HN := hide_ hn
    clear hb hin hn
    by_cases hq0 : q < 0
    · go_enter Tryd.func19, Tryd.ntmps19
      go_wp2_with (go_at_call 43; refine (HI.out _).mono ?_; rintro e w' ⟨rfl, rfl⟩)
      go_ret
      exact ⟨lo + (q + n), by omega, by have := HN.out; omega, by go_num, rfl⟩
    · go_enter Tryd.func19, Tryd.ntmps19
      go_wp2_with (go_at_call 43; refine (HI.out _).mono ?_; rintro e w' ⟨rfl, rfl⟩)
      go_ret
      exact ⟨lo + q, by omega, by have := HN.out; omega, by go_num, rfl⟩
def MdTo (nc ne k : Int) (w : World) (e : Ending) (w' : World) : Prop := ∃ r : Int, Mdo nc ne k r ∧ e = .returned (.int .i64 r) ∧ Below w.heap.size w w'
theorem mdo_in {nc ne k lo hi lo' hi' r : Int} (h : bnd nc ne k = (lo, hi)) (h3 : k ≠ 3) (h8 : k ≠ 8) (h13 : k ≠ 13) (a : lo' ≤ r) (b : r ≤ hi') (c : lo ≤ lo') (d : hi' ≤ hi) (e2 : k = 2 → hi' ≤ 61) (e4 : k ≠ 4) (e11 : k = 11 → hi' ≤ 300) : Mdo nc ne k r :=
  ⟨fun h => absurd h h8, fun _ => by rw [alw_in h h3 h13]; simp; omega, fun h => by have := e2 h; omega, fun h => absurd h e4, fun h => by have := e11 h; omega⟩
set_option maxRecDepth 100000 in
set_option maxHeartbeats 8000000 in
theorem made_in (enc : Bool) (ac ae : Option Addr) (nc cc ne ce : Nat) (c x lo hi : Int) (w : World) (hnc : nc ≤ 140737488355328) (hnc1 : 1 ≤ nc) (hne1 : 1 ≤ ne) (hne : ne ≤ 140737488355328)
    (hc : (c = 107 ∧ lo = -1 ∧ hi = 63) ∨ (c = 112 ∧ lo = -1 ∧ hi = 63) ∨ (c = 75 ∧ lo = 0 ∧ hi = 61) ∨ (c = 102 ∧ lo = 4 ∧ hi = 400) ∨ (c = 110 ∧ lo = 1 ∧ hi = 1048576) ∨ (c = 115 ∧ lo = 1 ∧ hi = 64) ∨ (c = 103 ∧ lo = 0 ∧ hi = 255) ∨ (c = 108 ∧ lo = 0 ∧ hi = 300) ∨ (c = 76 ∧ lo = -1 ∧ hi = 16777215) ∨ (c = 122 ∧ lo = 1 ∧ hi = 16777216) ∨ (c = 116 ∧ lo = 0 ∧ hi = nc - 1) ∨ (c = 121 ∧ lo = 0 ∧ hi = ne - 1)) :
    Calls Tryd.prog 21 #[.agg #[.bool enc, .slice ac nc cc, .slice ae ne ce], .int .u8 c, .int .i64 x] w (MdTo nc ne (ltK c) w) := by
  have hw1 : wrap64 ((nc : Int) - 1) = (nc : Int) - 1 := w64 _ (by omega)
  have hw2 : wrap64 ((ne : Int) - 1) = (ne : Int) - 1 := w64 _ (by omega)
  have HI := hide_ (fun w' => brought_any x lo hi w' (by omega) (by omega) (by omega))
  have HM : Hid (∀ r, lo ≤ r → r ≤ hi → Mdo nc ne (ltK c) r) := by
    rcases hc with ⟨rfl, rfl, rfl⟩ | ⟨rfl, rfl, rfl⟩ | ⟨rfl, rfl, rfl⟩ | ⟨rfl, rfl, rfl⟩ | ⟨rfl, rfl, rfl⟩ | ⟨rfl, rfl, rfl⟩ | ⟨rfl, rfl, rfl⟩ | ⟨rfl, rfl, rfl⟩ | ⟨rfl, rfl, rfl⟩ | ⟨rfl, rfl, rfl⟩ | ⟨rfl, rfl, rfl⟩ | ⟨rfl, rfl, rfl⟩
    all_goals exact hide_ (fun r a b => mdo_in rfl (by decide) (by decide) (by decide) a b (by decide) (by omega) (by first | decide | exact fun h => absurd h (by decide)) (by decide) (by first | decide | exact fun h => absurd h (by decide)))
  rcases hc with ⟨rfl, rfl, rfl⟩ | ⟨rfl, rfl, rfl⟩ | ⟨rfl, rfl, rfl⟩ | ⟨rfl, rfl, rfl⟩ | ⟨rfl, rfl, rfl⟩ | ⟨rfl, rfl, rfl⟩ | ⟨rfl, rfl, rfl⟩ | ⟨rfl, rfl, rfl⟩ | ⟨rfl, rfl, rfl⟩ | ⟨rfl, rfl, rfl⟩ | ⟨rfl, rfl, rfl⟩ | ⟨rfl, rfl, rfl⟩
  all_goals
    go_enter Tryd.func21, Tryd.ntmps21
    go_wp2_with (go_at_call 19; refine (HI.out _).mono ?_; rintro e w' ⟨r, ra, rb, rfl, rfl⟩)
    go_ret
    exact ⟨r, HM.out r ra rb, rfl, below1 _ _⟩
theorem shl1 (r : Int) (h0 : 0 ≤ r) (h3 : r ≤ 3) : r = 0 ∨ r = 1 ∨ r = 2 ∨ r = 3 := by omega
theorem mdo_w (nc ne r : Int) (h : r = 1 ∨ r = 2 ∨ r = 4 ∨ r = 8) : Mdo nc ne 3 r := by
  refine ⟨fun h => (by cases h), fun _ => ?_, fun h => (by cases h), fun h => (by cases h), fun h => (by cases h)⟩
  rcases h with rfl | rfl | rfl | rfl <;> rfl
set_option maxRecDepth 100000 in
set_option maxHeartbeats 8000000 in
theorem made_w (enc : Bool) (ac ae : Option Addr) (nc cc ne ce : Nat) (x : Int) (w : World) : Calls Tryd.prog 21 #[.agg #[.bool enc, .slice ac nc cc, .slice ae ne ce], .int .u8 119, .int .i64 x] w (MdTo nc ne 3 w) := by
  have HI := hide_ (fun w' => brought_any x 0 3 w' (by omega) (by omega) (by omega))
  go_enter Tryd.func21, Tryd.ntmps21
  go_wp2_with (go_at_call 19; refine (HI.out _).mono ?_; rintro e w' ⟨r, ra, rb, rfl, rfl⟩; rcases shl1 r ra rb with rfl | rfl | rfl | rfl)
  all_goals
    go_ret
    exact ⟨_, mdo_w nc ne _ (by decide), rfl, below1 _ _⟩
set_option maxRecDepth 100000 in
set_option maxHeartbeats 8000000 in
theorem made_m (enc : Bool) (ac ae : Option Addr) (nc cc ne ce : Nat) (x : Int) (w : World) : Calls Tryd.prog 21 #[.agg #[.bool enc, .slice ac nc cc, .slice ae ne ce], .int .u8 109, .int .i64 x] w (MdTo nc ne 4 w) := by
  go_enter Tryd.func21, Tryd.ntmps21
  go_wp2
  go_ret
  exact ⟨2, ⟨fun h => (by cases h), fun _ => rfl, fun h => (by cases h), fun h => rfl, fun h => (by cases h)⟩, rfl, below1 _ _⟩
set_option maxRecDepth 100000 in
set_option maxHeartbeats 8000000 in
theorem made_no (enc : Bool) (ac ae : Option Addr) (nc cc ne ce : Nat) (c x : Int) (hc : c = 97 ∨ c = 32) (w : World) : Calls Tryd.prog 21 #[.agg #[.bool enc, .slice ac nc cc, .slice ae ne ce], .int .u8 c, .int .i64 x] w (MdTo nc ne (ltK c) w) := by
  rcases hc with rfl | rfl
  · go_enter Tryd.func21, Tryd.ntmps21
    go_wp2
    go_ret
    exact ⟨0, ⟨fun h => rfl, fun h => absurd rfl h, fun h => (by cases h), fun h => (by cases h), fun h => (by cases h)⟩, rfl, below1 _ _⟩
  · go_enter Tryd.func21, Tryd.ntmps21
    go_wp2
    go_ret
    exact ⟨0, ⟨fun h => rfl, fun _ => rfl, fun h => (by cases h), fun h => (by cases h), fun h => (by cases h)⟩, rfl, below1 _ _⟩
theorem mdo_r (nc ne r : Int) (h : 1 ≤ r ∧ r ≤ 300) : Mdo nc ne 13 r := by
  refine ⟨fun h => (by cases h), fun _ => ?_, fun h => (by cases h), fun h => (by cases h), fun h => (by cases h)⟩
  unfold alw
  rw [if_neg (by decide), if_pos rfl]
  have hb : bnd nc ne 13 = (-1, 16777216) := rfl
  rw [hb, decide_eq_true (by simp only; omega)]
  simp
  omega
set_option maxRecDepth 100000 in
set_option maxHeartbeats 8000000 in
theorem made_r (enc : Bool) (ac ae : Option Addr) (nc cc ne ce : Nat) (x : Int) (w : World) : Calls Tryd.prog 21 #[.agg #[.bool enc, .slice ac nc cc, .slice ae ne ce], .int .u8 114, .int .i64 x] w (MdTo nc ne 13 w) := by
  have HI := hide_ (fun w' => brought_any x 0 300 w' (by omega) (by omega) (by omega))
  have HM := hide_ (fun r h => mdo_r nc ne r h)
  go_enter Tryd.func21, Tryd.ntmps21
  go_wp2_with (go_at_call 19; refine (HI.out _).mono ?_; rintro e w' ⟨r, ra, rb, rfl, rfl⟩)
  go_ret
  exact ⟨max r 1, HM.out _ (by omega), rfl, below1 _ _⟩
/-- made, of any letter of the table. -/
theorem mde_any (enc : Bool) (ac ae : Option Addr) (nc cc ne ce : Nat) (c : UInt8) (x : Int) (w : World) (hnc : nc ≤ 140737488355328) (hnc1 : 1 ≤ nc) (hne1 : 1 ≤ ne) (hne : ne ≤ 140737488355328) (hc : lts.contains c = true) :
    Calls Tryd.prog 21 #[.agg #[.bool enc, .slice ac nc cc, .slice ae ne ce], .int .u8 (c.toNat : Int), .int .i64 x] w (MdTo nc ne (ltK (c.toNat : Int)) w) := by
  have hm : c ∈ lts := by simpa using hc
  unfold lts at hm
  simp only [List.mem_cons, List.not_mem_nil, or_false] at hm
  rcases hm with rfl | rfl | rfl | rfl | rfl | rfl | rfl | rfl | rfl | rfl | rfl | rfl | rfl | rfl | rfl | rfl | rfl
  case inl => exact made_no enc ac ae nc cc ne ce 32 x (by decide) w
  all_goals first
    | exact made_w enc ac ae nc cc ne ce x w
    | exact made_m enc ac ae nc cc ne ce x w
    | exact made_r enc ac ae nc cc ne ce x w
    | exact made_no enc ac ae nc cc ne ce 97 x (by decide) w
    | exact made_in enc ac ae nc cc ne ce 107 x (-1) 63 w hnc hnc1 hne1 hne (by simp)
    | exact made_in enc ac ae nc cc ne ce 112 x (-1) 63 w hnc hnc1 hne1 hne (by simp)
    | exact made_in enc ac ae nc cc ne ce 75 x 0 61 w hnc hnc1 hne1 hne (by simp)
    | exact made_in enc ac ae nc cc ne ce 102 x 4 400 w hnc hnc1 hne1 hne (by simp)
    | exact made_in enc ac ae nc cc ne ce 110 x 1 1048576 w hnc hnc1 hne1 hne (by simp)
    | exact made_in enc ac ae nc cc ne ce 115 x 1 64 w hnc hnc1 hne1 hne (by simp)
    | exact made_in enc ac ae nc cc ne ce 103 x 0 255 w hnc hnc1 hne1 hne (by simp)
    | exact made_in enc ac ae nc cc ne ce 108 x 0 300 w hnc hnc1 hne1 hne (by simp)
    | exact made_in enc ac ae nc cc ne ce 76 x (-1) 16777215 w hnc hnc1 hne1 hne (by simp)
    | exact made_in enc ac ae nc cc ne ce 122 x 1 16777216 w hnc hnc1 hne1 hne (by simp)
    | exact made_in enc ac ae nc cc ne ce 116 x 0 (nc - 1) w hnc hnc1 hne1 hne (by simp)
    | exact made_in enc ac ae nc cc ne ce 121 x 0 (ne - 1) w hnc hnc1 hne1 hne (by simp)
end Go.Proofs.YteadmiikenpjeaaDoor
