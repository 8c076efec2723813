/- The document's sums and products of sizes; part, leaf. -/
import Derived.Test.YtnpkpmbpapekbaaZn
import Derived.BigQuiet
namespace Go.Proofs.Ytnpkpmbpapekbaa
open Go.RowKit
set_option linter.unusedVariables false

set_option maxRecDepth 100000 in
theorem rsize_any (n : Int) (w : World) : Calls Try.prog 76 #[.int .i64 n] w fun e w' => e = .returned (.int .i64 (sz n)) ∧ w = w' := by
  obtain ⟨s, hs⟩ : ∃ s, sz n = s := ⟨_, rfl⟩
  have HS := hide_ hs
  clear hs
  go_enter Try.func76, Try.ntmps76
  go_wp2
  all_goals
    go_ret
    exact ⟨ret_int (by have := HS.out; unfold sz at *; repeat' split; all_goals omega), rfl⟩
theorem div_gt {a b : Int} (ha : 0 ≤ a) (hb : 0 < b) : (4611686018427387904 : Int) / b < a ↔ 4611686018427387904 < a * b := Int.ediv_lt_iff_lt_mul hb
theorem rowI_open {w : World} {a : Option Addr} {l : List Int} (h : RowI w a l) (hl : 0 < l.length) : ∃ b off, a = some ⟨b, off, none⟩ ∧ ∀ i, i < l.length → w.cell? ⟨b, off + i, none⟩ = some (.int .i64 (l.getD i 0)) := by
  rcases h with rfl | h
  · simp at hl
  · exact h
set_option maxRecDepth 100000 in
set_option maxHeartbeats 4000000 in
theorem rTimes_any (a b : Int) (w : World) : Calls Try.prog 73 #[.int .i64 a, .int .i64 b] w fun e w' => e = .returned (.int .i64 (times2 a b)) ∧ w = w' := by
  have HT : Hid (times2 a b = capH (sz a * sz b)) := hide_ rfl
  obtain ⟨v, hv⟩ : ∃ v, times2 a b = v := ⟨_, rfl⟩
  rw [hv] at HT ⊢
  have ha := sz_bd a
  have hb := sz_bd b
  have HA := hide_ (rsize_any a w)
  have HBc := hide_ (rsize_any b w)
  clear hv
  generalize sz a = x at *
  generalize sz b = y at *
  go_enter Try.func73, Try.ntmps73
  go_wp2_with fail
  refine HA.out.mono ?_; rintro e w' ⟨rfl, rfl⟩
  go_wp2_with fail
  refine HBc.out.mono ?_; rintro e w' ⟨rfl, rfl⟩
  clear HA HBc
  by_cases hx : x = 0
  · have hx1 : (x == 0) = true := by simp [hx]
    have HV : Hid (v = 0) := hide_ (by rw [HT.out, hx]; simp [capH])
    go_wp2
    go_ret
    exact ⟨ret_int HV.out.symm, rfl⟩
  · have hx1 : (x == 0) = false := by simpa using hx
    by_cases hy : y = 0
    · have hy1 : (y == 0) = true := by simp [hy]
      have HV : Hid (v = 0) := hide_ (by rw [HT.out, hy]; simp [capH])
      go_wp2
      go_ret
      exact ⟨ret_int HV.out.symm, rfl⟩
    · have hy1 : (y == 0) = false := by simpa using hy
      have hdv := div_gt (a := x) (b := y) (by omega) (by omega)
      by_cases hg : 4611686018427387904 / y < x
      · have HV : Hid (v = 4611686018427387904) := hide_ (by rw [HT.out]; unfold capH; rw [if_neg (by have := hdv.1 hg; omega)])
        clear hdv
        go_wp2
        go_ret
        exact ⟨ret_int HV.out.symm, rfl⟩
      · have hle : x * y ≤ 4611686018427387904 := by
          by_cases h : x * y ≤ 4611686018427387904
          · exact h
          · exact absurd (hdv.2 (by omega)) hg
        have h0 : 0 ≤ x * y := Int.mul_nonneg ha.1 hb.1
        have HV : Hid (v = x * y) := hide_ (by rw [HT.out]; unfold capH; rw [if_pos hle])
        have hw1 : wrap64 (x * y) = x * y := w64 _ (by omega)
        clear hdv
        go_wp2
        go_ret
        exact ⟨ret_int HV.out.symm, rfl⟩
set_option maxRecDepth 100000 in
set_option maxHeartbeats 4000000 in
theorem rPlus_any (a : Option Addr) (cap : Nat) (l : List Int) (w : World) (hl : l.length ≤ 9223372036854775806) (hr : Hid (RowI w a l)) :
    Calls Try.prog 74 #[.slice a l.length cap] w fun e w' => e = .returned (.int .i64 (capH (tot l))) ∧ w = w' := by
  obtain ⟨v, hv⟩ : ∃ v, capH (tot l) = v := ⟨_, rfl⟩
  have HV := hide_ hv
  rw [hv]
  clear hv
  go_enter Try.func74, Try.ntmps74
  go_wp2_with fail
  go_loopw [3, 4] (fun x3 x4 wr => ∃ (i : Nat) (s : Int), i ≤ l.length ∧ x4 = .int .i64 (i : Int) ∧ x3 = .int .i64 s ∧ 0 ≤ s ∧ s ≤ 4611686018427387904 ∧ Hid (tot (l.take i) = s) ∧ w = wr) (fun _ x4 _ => l.length - (intOf x4).toNat)
  case atStart => exact ⟨0, 0, Nat.zero_le _, rfl, rfl, by omega, by omega, hide_ rfl, rfl⟩
  case round =>
    obtain ⟨i, s, hi, rfl, rfl, hs0, hs1, HS, rfl⟩ := hrel
    by_cases hlt : i < l.length
    · have hlt' : (i : Int) < l.length := by omega
      have HT := hide_ (tot_take_succ l i hlt)
      have HTl := hide_ (tot_take_le l (i + 1))
      obtain ⟨b, off, rfl, hc⟩ := rowI_open hr.out (by omega)
      have c0 := hc i hlt
      rw [HS.out] at HT
      obtain ⟨z, hz⟩ : ∃ z, l.getD i 0 = z := ⟨_, rfl⟩
      rw [hz] at c0 HT
      have hzb := sz_bd z
      have HSz := hide_ (rsize_any z w)
      clear hz hc
      generalize sz z = y at *
      have hw1 : wrap64 (4611686018427387904 - s) = 4611686018427387904 - s := w64 _ (by omega)
      by_cases hg : 4611686018427387904 - s < y
      · have HF : Hid (v = 4611686018427387904) := hide_ (by
          have h1 := HT.out; have h2 := HTl.out; have h3 := HV.out
          rw [← h3]
          unfold capH
          rw [if_neg (by omega)])
        go_wp2_with (go_at_call 76; refine HSz.out.mono ?_; rintro e w' ⟨rfl, rfl⟩)
        go_ret
        exact ⟨ret_int HF.out.symm, rfl⟩
      · have hw2 : wrap64 (s + y) = s + y := w64 _ (by omega)
        go_wp2_with (go_at_call 76; refine HSz.out.mono ?_; rintro e w' ⟨rfl, rfl⟩)
        go_roundw
        case rel => exact ⟨i + 1, _, by omega, by go_num, rfl, by omega, by omega, HT, trivial⟩
        case measure => simp [intOf]; omega
    · have HF : Hid (v = s) := hide_ (by
        have h3 := HV.out; have h4 := HS.out
        rw [List.take_of_length_le (by omega)] at h4
        rw [← h3, h4]
        unfold capH
        rw [if_pos (by omega)])
      go_wp2
      go_ret
      exact ⟨ret_int HF.out.symm, rfl⟩
set_option maxRecDepth 100000 in
theorem rtimes_any (a b : Int) (w : World) : Calls Try.prog 66 #[.int .i64 a, .int .i64 b] w fun e w' => e = .returned (.int .i64 (times2 a b)) ∧ w = w' := by
  have HC := hide_ (rTimes_any a b w)
  generalize times2 a b = v at *
  go_enter Try.func66, Try.ntmps66
  go_wp2_with fail
  refine HC.out.mono ?_; rintro e w' ⟨rfl, rfl⟩
  go_wp2
  go_ret
  exact ⟨rfl, rfl⟩
set_option maxRecDepth 100000 in
theorem rplus_any (a b : Int) (w : World) : Calls Try.prog 67 #[.int .i64 a, .int .i64 b] w fun e w' => e = .returned (.int .i64 (plus2 a b)) ∧ Below w.heap.size w w' := by
  obtain ⟨w1, hw1⟩ : ∃ wx, wx = w.alloc (.cells #[.int .i64 a, .int .i64 b] 3) := ⟨_, rfl⟩
  have k1 : Blk w1 w.heap.size 3 [.int .i64 a, .int .i64 b] := by rw [hw1]; exact Blk.newA w _ _
  have b1 : Below w.heap.size w w1 := by rw [hw1]; exact below1 _ _
  have HC := hide_ (rPlus_any (some ⟨w.heap.size, 0, none⟩) 2 [a, b] w1 (by simp) (hide_ (.inr ⟨w.heap.size, 0, rfl, fun i hi => by
    rw [Nat.zero_add, k1.cell]
    match i, hi with
    | 0, _ => rfl
    | 1, _ => rfl⟩)))
  obtain ⟨v, hv⟩ : ∃ v, plus2 a b = v := ⟨_, rfl⟩
  have HV := hide_ hv
  rw [show capH (tot [a, b]) = v from hv] at HC
  rw [hv]
  have HB := hide_ b1
  clear hv k1 b1
  go_enter Try.func67, Try.ntmps67
  go_wp2_with fail
  rw [← hw1]
  refine HC.out.mono ?_; rintro e w' ⟨rfl, rfl⟩
  clear hw1
  go_wp2
  go_ret
  exact ⟨rfl, HB.out⟩
end Go.Proofs.Ytnpkpmbpapekbaa
