/- behind, checkPlace, Next, Kid. -/
import Derived.Test.YtlbgdgobhiokpaaDoorC
namespace Go.Proofs.YtlbgdgobhiokpaaDoor
open Go.RowKit
set_option linter.unusedVariables false

theorem drop_at (l : List Nd) (k : Nat) (h : k < l.length) : l.drop k = l.getD k nil0 :: l.drop (k + 1) := by
  rw [List.drop_eq_getElem_cons h]; simp [List.getD, List.getElem?_eq_getElem h]
set_option maxRecDepth 100000 in
set_option maxHeartbeats 4000000 in
theorem behind_any (a : Option Addr) (len cap p v : Nat) (l : List Nd) (w : World) (hl : l.length = len) (hs : len ≤ 1000000) (hp : p ≤ len) (hv : v ≤ 1048576) (hr : Hid (NRow w a l)) (he : Hid (Enough v (l.drop p))) :
    Calls Tryd.prog 41 #[.slice a len cap, .int .i64 p, .int .i64 v] w fun e w' => e = .returned (.int .i64 ((p + bh v (l.drop p) : Nat) : Int)) ∧ w = w' := by
  go_enter Tryd.func41, Tryd.ntmps41
  go_wp2_with fail
  go_loopw [1, 2] (fun i m wr => ∃ (q u : Nat), q ≤ len ∧ p ≤ q ∧ i = .int .i64 q ∧ m = .int .i64 u ∧ u ≤ 1048576 * (q + 1) ∧ Hid (Enough u (l.drop q)) ∧ Hid (q + bh u (l.drop q) = p + bh v (l.drop p)) ∧ w = wr) (fun i _ _ => len - (intOf i).toNat)
  case atStart => exact ⟨p, v, hp, Nat.le_refl _, rfl, rfl, by omega, he, rfl, rfl⟩
  case round =>
    clear he
    obtain ⟨q, u, hq, hpq, rfl, rfl, hu, HE, HQ, rfl⟩ := hrel
    cases u with
    | zero =>
      go_wp2
      go_ret
      refine ⟨?_, rfl⟩
      have := HQ.out
      rw [bh_zero, Nat.add_zero] at this
      exact ret_int (congrArg Nat.cast this)
    | succ u =>
      have hlt : q < len := by
        rcases Nat.lt_or_ge q len with h | h
        · exact h
        · have := HE.out
          rw [List.drop_eq_nil_of_le (by omega)] at this
          exact this.elim
      obtain ⟨b, off, rfl, hb, hc⟩ := hr.out.open (by omega)
      obtain ⟨-, -, c2⟩ := hc q (by omega)
      have HE1 := HE.out
      have HQ1 := HQ.out
      rw [drop_at l q (by omega)] at HE1 HQ1
      obtain ⟨x0, x1, HE2⟩ := HE1
      rw [bh] at HQ1
      generalize (l.getD q nil0).2.2 = xc at *
      obtain ⟨xc, rfl⟩ := Int.eq_ofNat_of_zero_le x0
      simp only [Int.toNat_natCast] at *
      have HE3 : Hid (Enough (u + xc) (l.drop (q + 1))) := HE2
      have HQ3 : Hid (q + 1 + bh (u + xc) (l.drop (q + 1)) = p + bh v (l.drop p)) := by show _ = _; omega
      clear HE2 HQ1 hc HE HQ
      go_wp2
      go_roundw
      case rel => exact ⟨q + 1, u + xc, by omega, by omega, by go_num, by go_num, by omega, HE3, HQ3, trivial⟩
      case measure => simp [intOf]; omega
/-- Check's error, or that of the place. -/
def place (l : List Nd) (p : Int) : Int := if (chk 1 0 l).1 = 0 then (if p < 0 ∨ (l.length : Int) ≤ p then 3 else 0) else 40
set_option maxRecDepth 100000 in
set_option maxHeartbeats 4000000 in
theorem place_any (a : Option Addr) (len cap : Nat) (p : Int) (l : List Nd) (w : World) (hl : l.length = len) (hs : len ≤ 1000000) (hr : Hid (NRow w a l)) :
    Calls Tryd.prog 40 #[.slice a len cap, .int .i64 p] w fun e w' => e = .returned (.int .i64 (place l p)) ∧ Below w.heap.size w w' := by
  go_enter Tryd.func40, Tryd.ntmps40
  go_wp2_with fail
  refine (check_any a len cap l w hl hs hr).mono ?_; rintro e w1 ⟨rfl, hB1⟩
  have hB : Below w.heap.size w (w1.alloc (.cells #[.int .i64 (chk 1 0 l).1, .int .i64 (chk 1 0 l).2] 29)) := hB1.alloc (hB1.size) _
  have HP : Hid (place l p = if (chk 1 0 l).1 = 0 then (if p < 0 ∨ (len : Int) ≤ p then 3 else 0) else 40) := by subst hl; rfl
  unfold fltv
  rcases chk_err l 1 0 with h | h
  · rw [h] at HP hB ⊢
    simp only [if_true] at HP
    by_cases h1 : p < 0
    · rw [if_pos (.inl h1)] at HP
      go_wp2
      go_ret
      exact ⟨ret_int HP.out.symm, hB⟩
    · by_cases h2 : (len : Int) ≤ p
      · rw [if_pos (.inr h2)] at HP
        go_wp2
        go_ret
        exact ⟨ret_int HP.out.symm, hB⟩
      · rw [if_neg (by omega)] at HP
        go_wp2
        go_ret
        exact ⟨ret_int HP.out.symm, hB⟩
  · rw [h] at HP hB ⊢
    rw [if_neg (by omega)] at HP
    go_wp2
    go_ret
    exact ⟨ret_int HP.out.symm, hB⟩
theorem place_ok {l : List Nd} {p : Int} (h : place l p = 0) : (chk 1 0 l).1 = 0 ∧ 0 ≤ p ∧ p < l.length := by
  unfold place at h
  split at h
  · split at h
    · omega
    · exact ⟨by assumption, by omega, by omega⟩
  · omega
def nextR (l : List Nd) (p : Int) : Int × Int := if place l p = 0 then (p + bh 1 (l.drop p.toNat), 0) else (0, place l p)
def pairv (x : Int × Int) : Value := .tuple #[.int .i64 x.1, .int .i64 x.2]
theorem ret_pair {a b : Int} {x : Int × Int} (h : x = (a, b)) : Ending.returned (.tuple #[.int .i64 a, .int .i64 b]) = .returned (pairv x) := by subst h; rfl
set_option maxRecDepth 100000 in
set_option maxHeartbeats 4000000 in
theorem next_any (a : Option Addr) (len cap : Nat) (p : Int) (l : List Nd) (w : World) (hl : l.length = len) (hs : len ≤ 1000000) (hr : Hid (NRow w a l)) :
    Calls Tryd.prog 21 #[.slice a len cap, .int .i64 p] w fun e w' => e = .returned (pairv (nextR l p)) ∧ Below w.heap.size w w' := by
  go_enter Tryd.func21, Tryd.ntmps21
  go_wp2_with fail
  refine (place_any a len cap p l w hl hs hr).mono ?_; rintro e w1 ⟨rfl, hB1⟩
  by_cases h : place l p = 0
  · obtain ⟨h0, h1, h2⟩ := place_ok h
    obtain ⟨q, rfl⟩ := Int.eq_ofNat_of_zero_le h1
    rw [h]
    go_wp2_with fail
    refine (behind_any a len cap q 1 l w1 hl hs (by omega) (by omega) (hr.out.later hB1) (chk_at l 1 0 q h0 (by omega))).mono ?_; rintro e w2 ⟨rfl, rfl⟩
    go_wp2
    go_ret2
    exact ⟨ret_pair (by rw [nextR, if_pos h]; simp), hB1⟩
  · go_wp2
    go_ret2
    exact ⟨ret_pair (by rw [nextR, if_neg h]), hB1⟩
def kidR (l : List Nd) (p k : Int) : Int × Int := if place l p = 0 then (if k < 0 ∨ (l.getD p.toNat nil0).2.2 ≤ k then (0, 3) else (p + 1 + bh k.toNat (l.drop (p.toNat + 1)), 0)) else (0, place l p)
set_option maxRecDepth 100000 in
set_option maxHeartbeats 4000000 in
theorem kid_any (a : Option Addr) (len cap : Nat) (p k : Int) (l : List Nd) (w : World) (hl : l.length = len) (hs : len ≤ 1000000) (hr : Hid (NRow w a l)) :
    Calls Tryd.prog 20 #[.slice a len cap, .int .i64 p, .int .i64 k] w fun e w' => e = .returned (pairv (kidR l p k)) ∧ Below w.heap.size w w' := by
  go_enter Tryd.func20, Tryd.ntmps20
  go_wp2_with fail
  refine (place_any a len cap p l w hl hs hr).mono ?_; rintro e w1 ⟨rfl, hB1⟩
  by_cases h : place l p = 0
  · obtain ⟨h0, h1, h2⟩ := place_ok h
    obtain ⟨q, rfl⟩ := Int.eq_ofNat_of_zero_le h1
    have hr1 : Hid (NRow w1 a l) := hr.out.later hB1
    have HE : Hid (Enough 1 (l.drop q)) := chk_at l 1 0 q h0 (by omega)
    rw [h]
    have HP : Hid (kidR l (q : Int) k = if k < 0 ∨ (l.getD q nil0).2.2 ≤ k then (0, 3) else ((q : Int) + 1 + bh k.toNat (l.drop (q + 1)), 0)) := by show _ = _; rw [kidR, if_pos h]; rfl
    obtain ⟨b, off, rfl, hb, hc⟩ := hr1.out.open (by omega)
    obtain ⟨-, -, c2⟩ := hc q (by omega)
    have HE1 := HE.out
    rw [drop_at l q (by omega)] at HE1
    obtain ⟨x0, x1, HE2⟩ := HE1
    clear hc HE
    generalize (l.getD q nil0).2.2 = xc at *
    have hq : (q : Int) < len := by omega
    by_cases h3 : k < 0
    · rw [if_pos (.inl h3)] at HP
      go_wp2
      go_ret2
      exact ⟨ret_pair HP.out, hB1⟩
    · by_cases h4 : xc ≤ k
      · rw [if_pos (.inr h4)] at HP
        go_wp2
        go_ret2
        exact ⟨ret_pair HP.out, hB1⟩
      · rw [if_neg (by omega)] at HP
        obtain ⟨j, rfl⟩ := Int.eq_ofNat_of_zero_le (show 0 ≤ k by omega)
        have HE3 : Hid (Enough j (l.drop (q + 1))) := HE2.mono (by omega)
        clear HE2
        go_wp2_with fail
        refine (behind_any _ len cap (q + 1) j l w1 hl hs (by omega) (by omega) hr1 HE3).mono ?_; rintro e w2 ⟨rfl, rfl⟩
        go_wp2
        go_ret2
        exact ⟨ret_pair (HP.out.trans (by simp; try omega)), hB1⟩
  · go_wp2
    go_ret2
    exact ⟨ret_pair (by rw [kidR, if_neg h]), hB1⟩
end Go.Proofs.YtlbgdgobhiokpaaDoor
