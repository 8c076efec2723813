import Derived.Test.YtncndgfaalojpaaZn
import Derived.BigQuiet
import Derived.Test.YtncndgfaalojpaaZba
import Derived.Deep.RegionHeldLaw
import Derived.Test.YtncndgfaalojpaaRgf
import Derived.Test.YtncndgfaalojpaaZi
import Derived.Test.YtncndgfaalojpaaZg
/- The document's sums and products of sizes; part, leaf. -/
namespace Go.Proofs.Ytncndgfaalojpaa
open Go.RowKit
set_option linter.unusedVariables false

set_option maxRecDepth 100000 in
theorem rsize_any (n : Int) (w : World) : Calls Try.prog 85 #[.int .i64 n] w fun e w' => e = .returned (.int .i64 (sz n)) ∧ w = w' := by
  obtain ⟨s, hs⟩ : ∃ s, sz n = s := ⟨_, rfl⟩
  have HS := hide_ hs
  clear hs
  go_enter Try.func85, Try.ntmps85
  go_wp2
  all_goals
    go_ret
    exact ⟨ret_int (by have := HS.out; unfold sz at *; repeat' split; all_goals omega), rfl⟩
theorem div_gt {a b : Int} (ha : 0 ≤ a) (hb : 0 < b) : (4611686018427387904 : Int) / b < a ↔ 4611686018427387904 < a * b := Int.ediv_lt_iff_lt_mul hb
theorem rowI_open {w : World} {a : Option Addr} {l : List Int} (h : RowI w a l) (hl : 0 < l.length) : ∃ b off, a = some ⟨b, off, none⟩ ∧ ∀ i, i < l.length → w.cell? ⟨b, off + i, none⟩ = some (.int .i64 (l.getD i 0)) := by
  rcases h with rfl | h
  · simp at hl
  · exact h
set_option maxRecDepth 100000 in
set_option maxHeartbeats 4000000 in
theorem rTimes_any (a b : Int) (w : World) : Calls Try.prog 76 #[.int .i64 a, .int .i64 b] w fun e w' => e = .returned (.int .i64 (times2 a b)) ∧ w = w' := by
  have HT : Hid (times2 a b = capH (sz a * sz b)) := hide_ rfl
  obtain ⟨v, hv⟩ : ∃ v, times2 a b = v := ⟨_, rfl⟩
  rw [hv] at HT ⊢
  have ha := sz_bd a
  have hb := sz_bd b
  have HA := hide_ (rsize_any a w)
  have HBc := hide_ (rsize_any b w)
  clear hv
  generalize sz a = x at *
  generalize sz b = y at *
  go_enter Try.func76, Try.ntmps76
  go_wp2_with fail
  refine HA.out.mono ?_; rintro e w' ⟨rfl, rfl⟩
  go_wp2_with fail
  refine HBc.out.mono ?_; rintro e w' ⟨rfl, rfl⟩
  clear HA HBc
  by_cases hx : x = 0
  · have hx1 : (x == 0) = true := by simp [hx]
    have HV : Hid (v = 0) := hide_ (by rw [HT.out, hx]; simp [capH])
    go_wp2
    go_ret
    exact ⟨ret_int HV.out.symm, rfl⟩
  · have hx1 : (x == 0) = false := by simpa using hx
    by_cases hy : y = 0
    · have hy1 : (y == 0) = true := by simp [hy]
      have HV : Hid (v = 0) := hide_ (by rw [HT.out, hy]; simp [capH])
      go_wp2
      go_ret
      exact ⟨ret_int HV.out.symm, rfl⟩
    · have hy1 : (y == 0) = false := by simpa using hy
      have hdv := div_gt (a := x) (b := y) (by omega) (by omega)
      by_cases hg : 4611686018427387904 / y < x
      · have HV : Hid (v = 4611686018427387904) := hide_ (by rw [HT.out]; unfold capH; rw [if_neg (by have := hdv.1 hg; omega)])
        clear hdv
        go_wp2
        go_ret
        exact ⟨ret_int HV.out.symm, rfl⟩
      · have hle : x * y ≤ 4611686018427387904 := by
          by_cases h : x * y ≤ 4611686018427387904
          · exact h
          · exact absurd (hdv.2 (by omega)) hg
        have h0 : 0 ≤ x * y := Int.mul_nonneg ha.1 hb.1
        have HV : Hid (v = x * y) := hide_ (by rw [HT.out]; unfold capH; rw [if_pos hle])
        have hw1 : wrap64 (x * y) = x * y := w64 _ (by omega)
        clear hdv
        go_wp2
        go_ret
        exact ⟨ret_int HV.out.symm, rfl⟩
set_option maxRecDepth 100000 in
set_option maxHeartbeats 4000000 in
theorem rPlus_any (a : Option Addr) (cap : Nat) (l : List Int) (w : World) (hl : l.length ≤ 9223372036854775806) (hr : Hid (RowI w a l)) :
    Calls Try.prog 77 #[.slice a l.length cap] w fun e w' => e = .returned (.int .i64 (capH (tot l))) ∧ w = w' := by
  obtain ⟨v, hv⟩ : ∃ v, capH (tot l) = v := ⟨_, rfl⟩
  have HV := hide_ hv
  rw [hv]
  clear hv
  go_enter Try.func77, Try.ntmps77
  go_wp2_with fail
  go_loopw [3, 4] (fun x3 x4 wr => ∃ (i : Nat) (s : Int), i ≤ l.length ∧ x4 = .int .i64 (i : Int) ∧ x3 = .int .i64 s ∧ 0 ≤ s ∧ s ≤ 4611686018427387904 ∧ Hid (tot (l.take i) = s) ∧ w = wr) (fun _ x4 _ => l.length - (intOf x4).toNat)
  case atStart => exact ⟨0, 0, Nat.zero_le _, rfl, rfl, by omega, by omega, hide_ rfl, rfl⟩
  case round =>
    obtain ⟨i, s, hi, rfl, rfl, hs0, hs1, HS, rfl⟩ := hrel
    by_cases hlt : i < l.length
    · have hlt' : (i : Int) < l.length := by omega
      have HT := hide_ (tot_take_succ l i hlt)
      have HTl := hide_ (tot_take_le l (i + 1))
      obtain ⟨b, off, rfl, hc⟩ := rowI_open hr.out (by omega)
      have c0 := hc i hlt
      rw [HS.out] at HT
      obtain ⟨z, hz⟩ : ∃ z, l.getD i 0 = z := ⟨_, rfl⟩
      rw [hz] at c0 HT
      have hzb := sz_bd z
      have HSz := hide_ (rsize_any z w)
      clear hz hc
      generalize sz z = y at *
      have hw1 : wrap64 (4611686018427387904 - s) = 4611686018427387904 - s := w64 _ (by omega)
      by_cases hg : 4611686018427387904 - s < y
      · have HF : Hid (v = 4611686018427387904) := hide_ (by
          have h1 := HT.out; have h2 := HTl.out; have h3 := HV.out
          rw [← h3]
          unfold capH
          rw [if_neg (by omega)])
        go_wp2_with (go_at_call 85; refine HSz.out.mono ?_; rintro e w' ⟨rfl, rfl⟩)
        go_ret
        exact ⟨ret_int HF.out.symm, rfl⟩
      · have hw2 : wrap64 (s + y) = s + y := w64 _ (by omega)
        go_wp2_with (go_at_call 85; refine HSz.out.mono ?_; rintro e w' ⟨rfl, rfl⟩)
        go_roundw
        case rel => exact ⟨i + 1, _, by omega, by go_num, rfl, by omega, by omega, HT, trivial⟩
        case measure => simp [intOf]; omega
    · have HF : Hid (v = s) := hide_ (by
        have h3 := HV.out; have h4 := HS.out
        rw [List.take_of_length_le (by omega)] at h4
        rw [← h3, h4]
        unfold capH
        rw [if_pos (by omega)])
      go_wp2
      go_ret
      exact ⟨ret_int HF.out.symm, rfl⟩
set_option maxRecDepth 100000 in
theorem rtimes_any (a b : Int) (w : World) : Calls Try.prog 61 #[.int .i64 a, .int .i64 b] w fun e w' => e = .returned (.int .i64 (times2 a b)) ∧ w = w' := by
  have HC := hide_ (rTimes_any a b w)
  generalize times2 a b = v at *
  go_enter Try.func61, Try.ntmps61
  go_wp2_with fail
  refine HC.out.mono ?_; rintro e w' ⟨rfl, rfl⟩
  go_wp2
  go_ret
  exact ⟨rfl, rfl⟩
set_option maxRecDepth 100000 in
theorem rplus_any (a b : Int) (w : World) : Calls Try.prog 62 #[.int .i64 a, .int .i64 b] w fun e w' => e = .returned (.int .i64 (plus2 a b)) ∧ Below w.heap.size w w' := by
  obtain ⟨w1, hw1⟩ : ∃ wx, wx = w.alloc (.cells #[.int .i64 a, .int .i64 b] 3) := ⟨_, rfl⟩
  have k1 : Blk w1 w.heap.size 3 [.int .i64 a, .int .i64 b] := by rw [hw1]; exact Blk.newA w _ _
  have b1 : Below w.heap.size w w1 := by rw [hw1]; exact below1 _ _
  have HC := hide_ (rPlus_any (some ⟨w.heap.size, 0, none⟩) 2 [a, b] w1 (by simp) (hide_ (.inr ⟨w.heap.size, 0, rfl, fun i hi => by
    rw [Nat.zero_add, k1.cell]
    match i, hi with
    | 0, _ => rfl
    | 1, _ => rfl⟩)))
  obtain ⟨v, hv⟩ : ∃ v, plus2 a b = v := ⟨_, rfl⟩
  have HV := hide_ hv
  rw [show capH (tot [a, b]) = v from hv] at HC
  rw [hv]
  have HB := hide_ b1
  clear hv k1 b1
  go_enter Try.func62, Try.ntmps62
  go_wp2_with fail
  rw [← hw1]
  refine HC.out.mono ?_; rintro e w' ⟨rfl, rfl⟩
  clear hw1
  go_wp2
  go_ret
  exact ⟨rfl, HB.out⟩
end Go.Proofs.Ytncndgfaalojpaa
/- The document's extents: part, leaf; one, by kinds: no parts, a vector, a list, an option. -/
namespace Go.Proofs.Ytncndgfaalojpaa
open Go.RowKit
set_option linter.unusedVariables false

set_option maxRecDepth 100000 in
set_option maxHeartbeats 4000000 in
theorem part_any (x : Ex) (w : World) : Calls Try.prog 60 #[.agg #[.bool x.f, .int .i64 x.l, .int .i64 x.m, .int .i64 x.d]] w fun e w' => e = .returned (.tuple #[.int .i64 (offX x).l, .int .i64 (offX x).m]) ∧ Below w.heap.size w w' := by
  obtain ⟨xf, xl, xm, xd⟩ := x
  obtain ⟨w0, hw0⟩ : ∃ wx, wx = w.alloc (.cells #[.bool xf, .int .i64 xl, .int .i64 xm, .int .i64 xd] 63) := ⟨_, rfl⟩
  have k0 : Blk w0 w.heap.size 63 [.bool xf, .int .i64 xl, .int .i64 xm, .int .i64 xd] := by rw [hw0]; exact Blk.newA w _ _
  have b0 : Below w.heap.size w w0 := by rw [hw0]; exact below1 _ _
  have K0 := hide_ k0
  have HB0 := hide_ b0
  have i0 := k0.cell 0; have i1 := k0.cell 1; have i2 := k0.cell 2
  simp at i0 i1 i2
  clear k0 b0
  cases xf with
  | true =>
    simp only [offX, if_true]
    go_enter Try.func60, Try.ntmps60
    go_upto_region 1 with fail
    rw [← hw0]
    clear hw0
    go_wp2_with fail
    go_region
    all_goals
      have HBd := hide_ (HB0.out.drew)
      go_wp2
      go_ret2
      exact ⟨rfl, HBd.out⟩
  | false =>
    have e1 : offX ⟨false, xl, xm, xd⟩ = ⟨false, plus2 4 xl, plus2 4 xm, xd⟩ := rfl
    rw [e1]
    simp only
    have HC1 : Hid (∀ w', Calls Try.prog 62 #[.int .i64 4, .int .i64 xl] w' fun e w'' => e = .returned (.int .i64 (plus2 4 xl)) ∧ Below w'.heap.size w' w'') := hide_ (fun w' => rplus_any 4 xl w')
    have HC2 : Hid (∀ w', Calls Try.prog 62 #[.int .i64 4, .int .i64 xm] w' fun e w'' => e = .returned (.int .i64 (plus2 4 xm)) ∧ Below w'.heap.size w' w'') := hide_ (fun w' => rplus_any 4 xm w')
    generalize plus2 4 xl = p1 at *
    generalize plus2 4 xm = p2 at *
    have HSS : Hid (∀ w', Below w0.heap.size w0 w' → Below w0.heap.size w0 w' ∧ w'.cell? ⟨w.heap.size, 1, none⟩ = some (.int .i64 xl) ∧ w'.cell? ⟨w.heap.size, 2, none⟩ = some (.int .i64 xm)) := hide_ (fun w' hB => ⟨hB, (K0.out.later hB).cell 1, (K0.out.later hB).cell 2⟩)
    clear e1
    go_enter Try.func60, Try.ntmps60
    go_upto_region 1 with fail
    rw [← hw0]
    clear hw0
    go_wp2_with fail
    go_region_held_law (fun w' => Below w0.heap.size w0 w' ∧ w'.cell? ⟨w.heap.size, 1, none⟩ = some (.int .i64 xl) ∧ w'.cell? ⟨w.heap.size, 2, none⟩ = some (.int .i64 xm)) (first | assumption | exact HSS.out _ ((Below.refl _ _).drew) | exact HSS.out _ (Below.refl _ _))
      (first
        | (go_at_call_of 62 (Value.int .i64 xl); refine (HC1.out _).mono ?_; rintro e w2 ⟨rfl, hB2⟩; (have G2 := HSS.out w2 (below_to (by first | assumption | exact And.left (by assumption)) hB2)); (clear hB2))
        | (go_at_call 62; refine (HC1.out _).mono ?_; rintro e w2 ⟨rfl, hB2⟩; (have G2 := HSS.out w2 (below_to (by first | assumption | exact And.left (by assumption)) hB2)); (clear hB2))
        | (go_at_call 62; refine (HC2.out _).mono ?_; rintro e w3 ⟨rfl, hB3⟩; (have G3 := HSS.out w3 (below_to (by first | assumption | exact And.left (by assumption)) hB3)); (clear hB3)))
    all_goals
      go_wp2
      go_ret2
      exact ⟨rfl, below_to HB0.out (by first | exact G3.1 | exact G2.1)⟩
end Go.Proofs.Ytncndgfaalojpaa
/- The document's extents: leaf; one, by kinds: no parts, a vector, a list, an option. -/
namespace Go.Proofs.Ytncndgfaalojpaa
open Go.RowKit
set_option linter.unusedVariables false

def leafX (k n : Int) : Ex := if k = 1 then ⟨true, n, n, 1⟩ else if k = 2 then ⟨true, 1, 1, 1⟩ else ⟨false, 1, 10, 1⟩
set_option maxRecDepth 100000 in
set_option maxHeartbeats 4000000 in
theorem leaf1_any (n el : Int) (ps : List Pt) (va : Option Addr) (vc : Nat) (w : World) : Calls Try.prog 63 #[.agg #[.int .i64 1, .int .i64 n, .int .i64 el, .slice va ps.length vc]] w fun e w' => e = .returned (exv ⟨true, n, n, 1⟩) ∧ Below w.heap.size w w' := by
  have hB := below2 w (.cells #[.int .i64 1, .int .i64 n, .int .i64 el, .slice va ps.length vc] 43) (.cells #[.bool false, .int .i64 0, .int .i64 0, .int .i64 0] 63)
  obtain ⟨k1, k2⟩ := blk2 w #[.int .i64 1, .int .i64 n, .int .i64 el, .slice va ps.length vc] #[.bool false, .int .i64 0, .int .i64 0, .int .i64 0] 43 63
  obtain ⟨w0, hw0⟩ : ∃ wx, wx = (w.alloc (.cells #[.int .i64 1, .int .i64 n, .int .i64 el, .slice va ps.length vc] 43)).alloc (.cells #[.bool false, .int .i64 0, .int .i64 0, .int .i64 0] 63) := ⟨_, rfl⟩
  rw [← hw0] at hB k1 k2
  have K1 := hide_ k1
  have K2 := hide_ k2
  have HB := hide_ hB
  have i0 := k1.cell 0; have i1 := k1.cell 1; have i2 := k1.cell 2; have i3 := k1.cell 3
  have j0 := k2.cell 0; have j1 := k2.cell 1; have j2 := k2.cell 2; have j3 := k2.cell 3
  have jf := fun i => k2.frozen i
  simp at i0 i1 i2 i3 j0 j1 j2 j3
  have HK := hide_ (wr4 k2 (.bool true) (.int .i64 n) (.int .i64 n) (.int .i64 1))
  have HBf := hide_ (below_wr4 hB (w.heap.size + 1) (by omega) (.bool true) (.int .i64 n) (.int .i64 n) (.int .i64 1))
  clear hB k1 k2
  go_enter Try.func63, Try.ntmps63
  go_upto_region 1 with fail
  rw [← hw0]
  clear hw0
  go_wp2
  exact retX (x := ⟨true, n, n, 1⟩) rfl rfl HK.out ⟨rfl, HBf.out⟩
set_option maxRecDepth 100000 in
set_option maxHeartbeats 4000000 in
theorem leaf2_any (n el : Int) (ps : List Pt) (va : Option Addr) (vc : Nat) (w : World) : Calls Try.prog 63 #[.agg #[.int .i64 2, .int .i64 n, .int .i64 el, .slice va ps.length vc]] w fun e w' => e = .returned (exv ⟨true, 1, 1, 1⟩) ∧ Below w.heap.size w w' := by
  have hB := below2 w (.cells #[.int .i64 2, .int .i64 n, .int .i64 el, .slice va ps.length vc] 43) (.cells #[.bool false, .int .i64 0, .int .i64 0, .int .i64 0] 63)
  obtain ⟨k1, k2⟩ := blk2 w #[.int .i64 2, .int .i64 n, .int .i64 el, .slice va ps.length vc] #[.bool false, .int .i64 0, .int .i64 0, .int .i64 0] 43 63
  obtain ⟨w0, hw0⟩ : ∃ wx, wx = (w.alloc (.cells #[.int .i64 2, .int .i64 n, .int .i64 el, .slice va ps.length vc] 43)).alloc (.cells #[.bool false, .int .i64 0, .int .i64 0, .int .i64 0] 63) := ⟨_, rfl⟩
  rw [← hw0] at hB k1 k2
  have K1 := hide_ k1
  have K2 := hide_ k2
  have HB := hide_ hB
  have i0 := k1.cell 0; have i1 := k1.cell 1; have i2 := k1.cell 2; have i3 := k1.cell 3
  have j0 := k2.cell 0; have j1 := k2.cell 1; have j2 := k2.cell 2; have j3 := k2.cell 3
  have jf := fun i => k2.frozen i
  simp at i0 i1 i2 i3 j0 j1 j2 j3
  have HK := hide_ (wr4 k2 (.bool true) (.int .i64 1) (.int .i64 1) (.int .i64 1))
  have HBf := hide_ (below_wr4 hB (w.heap.size + 1) (by omega) (.bool true) (.int .i64 1) (.int .i64 1) (.int .i64 1))
  clear hB k1 k2
  go_enter Try.func63, Try.ntmps63
  go_upto_region 1 with fail
  rw [← hw0]
  clear hw0
  go_wp2
  exact retX (x := ⟨true, 1, 1, 1⟩) rfl rfl HK.out ⟨rfl, HBf.out⟩
set_option maxRecDepth 100000 in
set_option maxHeartbeats 4000000 in
theorem leaf3_any (n el : Int) (ps : List Pt) (va : Option Addr) (vc : Nat) (w : World) : Calls Try.prog 63 #[.agg #[.int .i64 3, .int .i64 n, .int .i64 el, .slice va ps.length vc]] w fun e w' => e = .returned (exv ⟨false, 1, 10, 1⟩) ∧ Below w.heap.size w w' := by
  have hB := below2 w (.cells #[.int .i64 3, .int .i64 n, .int .i64 el, .slice va ps.length vc] 43) (.cells #[.bool false, .int .i64 0, .int .i64 0, .int .i64 0] 63)
  obtain ⟨k1, k2⟩ := blk2 w #[.int .i64 3, .int .i64 n, .int .i64 el, .slice va ps.length vc] #[.bool false, .int .i64 0, .int .i64 0, .int .i64 0] 43 63
  obtain ⟨w0, hw0⟩ : ∃ wx, wx = (w.alloc (.cells #[.int .i64 3, .int .i64 n, .int .i64 el, .slice va ps.length vc] 43)).alloc (.cells #[.bool false, .int .i64 0, .int .i64 0, .int .i64 0] 63) := ⟨_, rfl⟩
  rw [← hw0] at hB k1 k2
  have K1 := hide_ k1
  have K2 := hide_ k2
  have HB := hide_ hB
  have i0 := k1.cell 0; have i1 := k1.cell 1; have i2 := k1.cell 2; have i3 := k1.cell 3
  have j0 := k2.cell 0; have j1 := k2.cell 1; have j2 := k2.cell 2; have j3 := k2.cell 3
  have jf := fun i => k2.frozen i
  simp at i0 i1 i2 i3 j0 j1 j2 j3
  have HK := hide_ (wr4 k2 (.bool false) (.int .i64 1) (.int .i64 10) (.int .i64 1))
  have HBf := hide_ (below_wr4 hB (w.heap.size + 1) (by omega) (.bool false) (.int .i64 1) (.int .i64 10) (.int .i64 1))
  clear hB k1 k2
  go_enter Try.func63, Try.ntmps63
  go_upto_region 1 with fail
  rw [← hw0]
  clear hw0
  go_wp2
  exact retX (x := ⟨false, 1, 10, 1⟩) rfl rfl HK.out ⟨rfl, HBf.out⟩
set_option maxRecDepth 100000 in
set_option maxHeartbeats 4000000 in
theorem one1_any (n el : Int) (ps : List Pt) (va : Option Addr) (vc : Nat) (vX : Value) (w : World) : Calls Try.prog 33 #[.agg #[.int .i64 1, .int .i64 n, .int .i64 el, .slice va ps.length vc], vX] w fun e w' => e = .returned (exv ⟨true, n, n, 1⟩) ∧ Below w.heap.size w w' := by
  have hB := below2 w (.cells #[.int .i64 1, .int .i64 n, .int .i64 el, .slice va ps.length vc] 43) (.cells #[.bool false, .int .i64 0, .int .i64 0, .int .i64 0] 63)
  obtain ⟨k1, k2⟩ := blk2 w #[.int .i64 1, .int .i64 n, .int .i64 el, .slice va ps.length vc] #[.bool false, .int .i64 0, .int .i64 0, .int .i64 0] 43 63
  obtain ⟨w0, hw0⟩ : ∃ wx, wx = (w.alloc (.cells #[.int .i64 1, .int .i64 n, .int .i64 el, .slice va ps.length vc] 43)).alloc (.cells #[.bool false, .int .i64 0, .int .i64 0, .int .i64 0] 63) := ⟨_, rfl⟩
  rw [← hw0] at hB k1 k2
  have K1 := hide_ k1
  have K2 := hide_ k2
  have HB := hide_ hB
  have i0 := k1.cell 0; have i1 := k1.cell 1; have i2 := k1.cell 2; have i3 := k1.cell 3
  have j0 := k2.cell 0; have j1 := k2.cell 1; have j2 := k2.cell 2; have j3 := k2.cell 3
  have jf := fun i => k2.frozen i
  simp at i0 i1 i2 i3 j0 j1 j2 j3
  have HL := hide_ (leaf1_any n el ps va vc w0)
  clear hB k1 k2
  go_enter Try.func33, Try.ntmps33
  go_upto_region 1 with fail
  rw [← hw0]
  clear hw0
  go_wp2_with fail
  refine HL.out.mono ?_; rintro e w1 ⟨rfl, hB1⟩
  have k3 := K2.out.later hB1
  have HK := hide_ (wr4 k3 (.bool true) (.int .i64 n) (.int .i64 n) (.int .i64 1))
  have HBf := hide_ (below_wr4 (below_to HB.out hB1) (w.heap.size + 1) (by omega) (.bool true) (.int .i64 n) (.int .i64 n) (.int .i64 1))
  clear j0 j1 j2 j3 jf i0 i1 i2 i3
  have j0 := k3.cell 0; have j1 := k3.cell 1; have j2 := k3.cell 2; have j3 := k3.cell 3
  have jf := fun i => k3.frozen i
  simp at j0 j1 j2 j3
  clear k3 hB1 HL
  simp only [exv]
  go_wp2
  exact retX (x := ⟨true, n, n, 1⟩) rfl rfl HK.out ⟨rfl, HBf.out⟩
set_option maxRecDepth 100000 in
set_option maxHeartbeats 4000000 in
theorem one2_any (n el : Int) (ps : List Pt) (va : Option Addr) (vc : Nat) (vX : Value) (w : World) : Calls Try.prog 33 #[.agg #[.int .i64 2, .int .i64 n, .int .i64 el, .slice va ps.length vc], vX] w fun e w' => e = .returned (exv ⟨true, 1, 1, 1⟩) ∧ Below w.heap.size w w' := by
  have hB := below2 w (.cells #[.int .i64 2, .int .i64 n, .int .i64 el, .slice va ps.length vc] 43) (.cells #[.bool false, .int .i64 0, .int .i64 0, .int .i64 0] 63)
  obtain ⟨k1, k2⟩ := blk2 w #[.int .i64 2, .int .i64 n, .int .i64 el, .slice va ps.length vc] #[.bool false, .int .i64 0, .int .i64 0, .int .i64 0] 43 63
  obtain ⟨w0, hw0⟩ : ∃ wx, wx = (w.alloc (.cells #[.int .i64 2, .int .i64 n, .int .i64 el, .slice va ps.length vc] 43)).alloc (.cells #[.bool false, .int .i64 0, .int .i64 0, .int .i64 0] 63) := ⟨_, rfl⟩
  rw [← hw0] at hB k1 k2
  have K1 := hide_ k1
  have K2 := hide_ k2
  have HB := hide_ hB
  have i0 := k1.cell 0; have i1 := k1.cell 1; have i2 := k1.cell 2; have i3 := k1.cell 3
  have j0 := k2.cell 0; have j1 := k2.cell 1; have j2 := k2.cell 2; have j3 := k2.cell 3
  have jf := fun i => k2.frozen i
  simp at i0 i1 i2 i3 j0 j1 j2 j3
  have HL := hide_ (leaf2_any n el ps va vc w0)
  clear hB k1 k2
  go_enter Try.func33, Try.ntmps33
  go_upto_region 1 with fail
  rw [← hw0]
  clear hw0
  go_wp2_with fail
  refine HL.out.mono ?_; rintro e w1 ⟨rfl, hB1⟩
  have k3 := K2.out.later hB1
  have HK := hide_ (wr4 k3 (.bool true) (.int .i64 1) (.int .i64 1) (.int .i64 1))
  have HBf := hide_ (below_wr4 (below_to HB.out hB1) (w.heap.size + 1) (by omega) (.bool true) (.int .i64 1) (.int .i64 1) (.int .i64 1))
  clear j0 j1 j2 j3 jf i0 i1 i2 i3
  have j0 := k3.cell 0; have j1 := k3.cell 1; have j2 := k3.cell 2; have j3 := k3.cell 3
  have jf := fun i => k3.frozen i
  simp at j0 j1 j2 j3
  clear k3 hB1 HL
  simp only [exv]
  go_wp2
  exact retX (x := ⟨true, 1, 1, 1⟩) rfl rfl HK.out ⟨rfl, HBf.out⟩
set_option maxRecDepth 100000 in
set_option maxHeartbeats 4000000 in
theorem one3_any (n el : Int) (ps : List Pt) (va : Option Addr) (vc : Nat) (vX : Value) (w : World) : Calls Try.prog 33 #[.agg #[.int .i64 3, .int .i64 n, .int .i64 el, .slice va ps.length vc], vX] w fun e w' => e = .returned (exv ⟨false, 1, 10, 1⟩) ∧ Below w.heap.size w w' := by
  have hB := below2 w (.cells #[.int .i64 3, .int .i64 n, .int .i64 el, .slice va ps.length vc] 43) (.cells #[.bool false, .int .i64 0, .int .i64 0, .int .i64 0] 63)
  obtain ⟨k1, k2⟩ := blk2 w #[.int .i64 3, .int .i64 n, .int .i64 el, .slice va ps.length vc] #[.bool false, .int .i64 0, .int .i64 0, .int .i64 0] 43 63
  obtain ⟨w0, hw0⟩ : ∃ wx, wx = (w.alloc (.cells #[.int .i64 3, .int .i64 n, .int .i64 el, .slice va ps.length vc] 43)).alloc (.cells #[.bool false, .int .i64 0, .int .i64 0, .int .i64 0] 63) := ⟨_, rfl⟩
  rw [← hw0] at hB k1 k2
  have K1 := hide_ k1
  have K2 := hide_ k2
  have HB := hide_ hB
  have i0 := k1.cell 0; have i1 := k1.cell 1; have i2 := k1.cell 2; have i3 := k1.cell 3
  have j0 := k2.cell 0; have j1 := k2.cell 1; have j2 := k2.cell 2; have j3 := k2.cell 3
  have jf := fun i => k2.frozen i
  simp at i0 i1 i2 i3 j0 j1 j2 j3
  have HL := hide_ (leaf3_any n el ps va vc w0)
  clear hB k1 k2
  go_enter Try.func33, Try.ntmps33
  go_upto_region 1 with fail
  rw [← hw0]
  clear hw0
  go_wp2_with fail
  refine HL.out.mono ?_; rintro e w1 ⟨rfl, hB1⟩
  have k3 := K2.out.later hB1
  have HK := hide_ (wr4 k3 (.bool false) (.int .i64 1) (.int .i64 10) (.int .i64 1))
  have HBf := hide_ (below_wr4 (below_to HB.out hB1) (w.heap.size + 1) (by omega) (.bool false) (.int .i64 1) (.int .i64 10) (.int .i64 1))
  clear j0 j1 j2 j3 jf i0 i1 i2 i3
  have j0 := k3.cell 0; have j1 := k3.cell 1; have j2 := k3.cell 2; have j3 := k3.cell 3
  have jf := fun i => k3.frozen i
  simp at j0 j1 j2 j3
  clear k3 hB1 HL
  simp only [exv]
  go_wp2
  exact retX (x := ⟨false, 1, 10, 1⟩) rfl rfl HK.out ⟨rfl, HBf.out⟩
set_option maxRecDepth 100000 in
set_option maxHeartbeats 8000000 in
theorem one4_any (n el : Int) (ps : List Pt) (va : Option Addr) (vc : Nat) (X : List Ex) (ax : Option Addr) (cx : Nat) (w : World) (hXl : X.length ≤ 10000000000000) (hbd : Hid (∀ x ∈ X, 0 ≤ x.d ∧ x.d ≤ 1000000)) (hel : 0 ≤ el ∧ el < X.length) (hX : Hid (XRow w ax X)) : Calls Try.prog 33 #[.agg #[.int .i64 4, .int .i64 n, .int .i64 el, .slice va ps.length vc], .slice ax X.length cx] w fun e w' => e = .returned (exv ⟨(exAt X el).f, times2 n (offX (exAt X el)).l, times2 n (offX (exAt X el)).m, 1 + (exAt X el).d⟩) ∧ Below w.heap.size w w' := by
  have hB := below2 w (.cells #[.int .i64 4, .int .i64 n, .int .i64 el, .slice va ps.length vc] 43) (.cells #[.bool false, .int .i64 0, .int .i64 0, .int .i64 0] 63)
  obtain ⟨k1, k2⟩ := blk2 w #[.int .i64 4, .int .i64 n, .int .i64 el, .slice va ps.length vc] #[.bool false, .int .i64 0, .int .i64 0, .int .i64 0] 43 63
  obtain ⟨w0, hw0⟩ : ∃ wx, wx = (w.alloc (.cells #[.int .i64 4, .int .i64 n, .int .i64 el, .slice va ps.length vc] 43)).alloc (.cells #[.bool false, .int .i64 0, .int .i64 0, .int .i64 0] 63) := ⟨_, rfl⟩
  rw [← hw0] at hB k1 k2
  have K1 := hide_ k1
  have K2 := hide_ k2
  have HB := hide_ hB
  have i0 := k1.cell 0; have i1 := k1.cell 1; have i2 := k1.cell 2; have i3 := k1.cell 3
  have j0 := k2.cell 0; have j1 := k2.cell 1; have j2 := k2.cell 2; have j3 := k2.cell 3
  have jf := fun i => k2.frozen i
  simp at i0 i1 i2 i3 j0 j1 j2 j3
  obtain ⟨m, rfl⟩ := Int.eq_ofNat_of_zero_le hel.1
  have hmx : m < X.length := by omega
  have hmx' : (m : Int) < X.length := hel.2
  obtain ⟨bx, ox, rfl, hbx, hcx⟩ := hX.out.open (by omega)
  have hxe := exAt_at hmx
  obtain ⟨hd0, hd1⟩ := hbd.out _ (List.mem_of_getElem? hxe)
  have hcy := hcx m _ hxe
  have HPt : Hid (∀ w', Calls Try.prog 60 #[.agg #[.bool (exAt X m).f, .int .i64 (exAt X m).l, .int .i64 (exAt X m).m, .int .i64 (exAt X m).d]] w' fun e w'' => e = .returned (.tuple #[.int .i64 (offX (exAt X m)).l, .int .i64 (offX (exAt X m)).m]) ∧ Below w'.heap.size w' w'') := hide_ (fun w' => part_any _ w')
  generalize (offX (exAt X m)).l = pl at *
  generalize (offX (exAt X m)).m = pm at *
  generalize exAt X m = xx at *
  obtain ⟨xf, xl, xm, xd⟩ := xx
  have HXc : Hid (∀ j, j < 4 → ∀ w', Below w0.heap.size w0 w' → w'.cell? ⟨bx, ox + m * 4 + j, none⟩ = (exc ⟨xf, xl, xm, xd⟩)[j]?) := hide_ (fun j hj w' hB' => ((below_to HB.out hB').cell (p := ⟨bx, ox + m * 4 + j, none⟩) hbx).trans (hcy j hj))
  have x0 := HXc.out 0 (by decide) w0 (Below.refl _ _); have x1 := HXc.out 1 (by decide) w0 (Below.refl _ _); have x2 := HXc.out 2 (by decide) w0 (Below.refl _ _); have x3 := HXc.out 3 (by decide) w0 (Below.refl _ _)
  simp [exc] at x0 x1 x2 x3
  simp only at hd0 hd1 HPt
  have hw1 : wrap64 (1 + xd) = 1 + xd := w64 _ (by omega)
  have hw2 : IntKind.i64.wrap (1 + xd) = 1 + xd := by rw [IntKind.wrap_i64]; omega
  have HCt : Hid (∀ (a b : Int) (w' : World), Calls Try.prog 61 #[.int .i64 a, .int .i64 b] w' fun e w'' => e = .returned (.int .i64 (times2 a b)) ∧ w' = w'') := hide_ (fun a b w' => rtimes_any a b w')
  have HCp : Hid (∀ (a b : Int) (w' : World), Calls Try.prog 62 #[.int .i64 a, .int .i64 b] w' fun e w'' => e = .returned (.int .i64 (plus2 a b)) ∧ Below w'.heap.size w' w'') := hide_ (fun a b w' => rplus_any a b w')
  clear hB k1 k2 hcx hxe hcy hX hbd
  go_enter Try.func33, Try.ntmps33
  go_upto_region 1 with fail
  rw [← hw0]
  clear hw0
  go_wp2_with (go_at_call 60; refine (HPt.out _).mono ?_; rintro e w1 ⟨rfl, hB1⟩)
  have HB1 := hide_ hB1
  have k3 := K2.out.later hB1
  have k4 := K1.out.later hB1
  have K3 := hide_ k3
  have K4 := hide_ k4
  clear i0 i1 i2 i3 j0 j1 j2 j3 jf x0 x1 x2 x3
  have j0 := k3.cell 0; have j1 := k3.cell 1; have j2 := k3.cell 2; have j3 := k3.cell 3
  have jf := fun i => k3.frozen i
  simp at j0 j1 j2 j3
  clear k3 k4 hB1 HPt
  have HBw := hide_ (below_to HB.out HB1.out)
  have HSS : Hid (∀ w', Below (w.heap.size + 1) w1 w' → Below (w.heap.size + 1) w1 w' ∧ w'.cell? ⟨w.heap.size, 1, none⟩ = some (.int .i64 n) ∧ w'.cell? ⟨w.heap.size, 2, none⟩ = some (.int .i64 m) ∧ w'.cell? ⟨bx, ox + m * 4, none⟩ = some (.bool xf) ∧ w'.cell? ⟨bx, ox + m * 4 + 2, none⟩ = some (.int .i64 xm) ∧ w'.cell? ⟨bx, ox + m * 4 + 3, none⟩ = some (.int .i64 xd)) := hide_ (fun w' hB' => ⟨hB', (K4.out.below hB' (by omega)).cell 1, (K4.out.below hB' (by omega)).cell 2, (hB'.cell (p := ⟨bx, ox + m * 4 + 0, none⟩) (by show bx < _; omega)).trans (HXc.out 0 (by decide) w1 HB1.out), (hB'.cell (p := ⟨bx, ox + m * 4 + 2, none⟩) (by show bx < _; omega)).trans (HXc.out 2 (by decide) w1 HB1.out), (hB'.cell (p := ⟨bx, ox + m * 4 + 3, none⟩) (by show bx < _; omega)).trans (HXc.out 3 (by decide) w1 HB1.out)⟩)
  go_region_held_law (fun w' => Below (w.heap.size + 1) w1 w' ∧ w'.cell? ⟨w.heap.size, 1, none⟩ = some (.int .i64 n) ∧ w'.cell? ⟨w.heap.size, 2, none⟩ = some (.int .i64 m) ∧ w'.cell? ⟨bx, ox + m * 4, none⟩ = some (.bool xf) ∧ w'.cell? ⟨bx, ox + m * 4 + 2, none⟩ = some (.int .i64 xm) ∧ w'.cell? ⟨bx, ox + m * 4 + 3, none⟩ = some (.int .i64 xd)) (first | assumption | exact HSS.out _ ((Below.refl _ _).drew) | exact HSS.out _ (Below.refl _ _) | exact HSS.out _ (below_wr4 ((Below.refl _ _).drew) _ (by omega) _ _ _ _) | exact HSS.out _ (below_wr4 (And.left (by assumption)) _ (by omega) _ _ _ _))
    ((go_at_call 61; refine (HCt.out _ _ _).mono ?_; rintro e w' ⟨rfl, rfl⟩))
  have HK := hide_ ((wr4 K3.out (.bool xf) (.int .i64 (times2 n pl)) (.int .i64 (times2 n pm)) (.int .i64 (1 + xd))).drew)
  have HBf := hide_ ((below_wr4 HBw.out (w.heap.size + 1) (by omega) (.bool xf) (.int .i64 (times2 n pl)) (.int .i64 (times2 n pm)) (.int .i64 (1 + xd))).drew)
  go_wp2
  exact retX (x := ⟨xf, times2 n pl, times2 n pm, 1 + xd⟩) rfl rfl HK.out ⟨rfl, HBf.out⟩
set_option maxRecDepth 100000 in
set_option maxHeartbeats 8000000 in
theorem one5_any (n el : Int) (ps : List Pt) (va : Option Addr) (vc : Nat) (X : List Ex) (ax : Option Addr) (cx : Nat) (w : World) (hXl : X.length ≤ 10000000000000) (hbd : Hid (∀ x ∈ X, 0 ≤ x.d ∧ x.d ≤ 1000000)) (hel : 0 ≤ el ∧ el < X.length) (hX : Hid (XRow w ax X)) : Calls Try.prog 33 #[.agg #[.int .i64 5, .int .i64 n, .int .i64 el, .slice va ps.length vc], .slice ax X.length cx] w fun e w' => e = .returned (exv ⟨false, 0, times2 n (offX (exAt X el)).m, 1 + (exAt X el).d⟩) ∧ Below w.heap.size w w' := by
  have hB := below2 w (.cells #[.int .i64 5, .int .i64 n, .int .i64 el, .slice va ps.length vc] 43) (.cells #[.bool false, .int .i64 0, .int .i64 0, .int .i64 0] 63)
  obtain ⟨k1, k2⟩ := blk2 w #[.int .i64 5, .int .i64 n, .int .i64 el, .slice va ps.length vc] #[.bool false, .int .i64 0, .int .i64 0, .int .i64 0] 43 63
  obtain ⟨w0, hw0⟩ : ∃ wx, wx = (w.alloc (.cells #[.int .i64 5, .int .i64 n, .int .i64 el, .slice va ps.length vc] 43)).alloc (.cells #[.bool false, .int .i64 0, .int .i64 0, .int .i64 0] 63) := ⟨_, rfl⟩
  rw [← hw0] at hB k1 k2
  have K1 := hide_ k1
  have K2 := hide_ k2
  have HB := hide_ hB
  have i0 := k1.cell 0; have i1 := k1.cell 1; have i2 := k1.cell 2; have i3 := k1.cell 3
  have j0 := k2.cell 0; have j1 := k2.cell 1; have j2 := k2.cell 2; have j3 := k2.cell 3
  have jf := fun i => k2.frozen i
  simp at i0 i1 i2 i3 j0 j1 j2 j3
  obtain ⟨m, rfl⟩ := Int.eq_ofNat_of_zero_le hel.1
  have hmx : m < X.length := by omega
  have hmx' : (m : Int) < X.length := hel.2
  obtain ⟨bx, ox, rfl, hbx, hcx⟩ := hX.out.open (by omega)
  have hxe := exAt_at hmx
  obtain ⟨hd0, hd1⟩ := hbd.out _ (List.mem_of_getElem? hxe)
  have hcy := hcx m _ hxe
  have HPt : Hid (∀ w', Calls Try.prog 60 #[.agg #[.bool (exAt X m).f, .int .i64 (exAt X m).l, .int .i64 (exAt X m).m, .int .i64 (exAt X m).d]] w' fun e w'' => e = .returned (.tuple #[.int .i64 (offX (exAt X m)).l, .int .i64 (offX (exAt X m)).m]) ∧ Below w'.heap.size w' w'') := hide_ (fun w' => part_any _ w')
  generalize (offX (exAt X m)).l = pl at *
  generalize (offX (exAt X m)).m = pm at *
  generalize exAt X m = xx at *
  obtain ⟨xf, xl, xm, xd⟩ := xx
  have HXc : Hid (∀ j, j < 4 → ∀ w', Below w0.heap.size w0 w' → w'.cell? ⟨bx, ox + m * 4 + j, none⟩ = (exc ⟨xf, xl, xm, xd⟩)[j]?) := hide_ (fun j hj w' hB' => ((below_to HB.out hB').cell (p := ⟨bx, ox + m * 4 + j, none⟩) hbx).trans (hcy j hj))
  have x0 := HXc.out 0 (by decide) w0 (Below.refl _ _); have x1 := HXc.out 1 (by decide) w0 (Below.refl _ _); have x2 := HXc.out 2 (by decide) w0 (Below.refl _ _); have x3 := HXc.out 3 (by decide) w0 (Below.refl _ _)
  simp [exc] at x0 x1 x2 x3
  simp only at hd0 hd1 HPt
  have hw1 : wrap64 (1 + xd) = 1 + xd := w64 _ (by omega)
  have hw2 : IntKind.i64.wrap (1 + xd) = 1 + xd := by rw [IntKind.wrap_i64]; omega
  have HCt : Hid (∀ (a b : Int) (w' : World), Calls Try.prog 61 #[.int .i64 a, .int .i64 b] w' fun e w'' => e = .returned (.int .i64 (times2 a b)) ∧ w' = w'') := hide_ (fun a b w' => rtimes_any a b w')
  have HCp : Hid (∀ (a b : Int) (w' : World), Calls Try.prog 62 #[.int .i64 a, .int .i64 b] w' fun e w'' => e = .returned (.int .i64 (plus2 a b)) ∧ Below w'.heap.size w' w'') := hide_ (fun a b w' => rplus_any a b w')
  clear hB k1 k2 hcx hxe hcy hX hbd
  go_enter Try.func33, Try.ntmps33
  go_upto_region 1 with fail
  rw [← hw0]
  clear hw0
  go_wp2_with (go_at_call 60; refine (HPt.out _).mono ?_; rintro e w1 ⟨rfl, hB1⟩)
  have HB1 := hide_ hB1
  have k3 := K2.out.later hB1
  have k4 := K1.out.later hB1
  have K3 := hide_ k3
  have K4 := hide_ k4
  clear i0 i1 i2 i3 j0 j1 j2 j3 jf x0 x1 x2 x3
  have j0 := k3.cell 0; have j1 := k3.cell 1; have j2 := k3.cell 2; have j3 := k3.cell 3
  have jf := fun i => k3.frozen i
  simp at j0 j1 j2 j3
  clear k3 k4 hB1 HPt
  have HBw := hide_ (below_to HB.out HB1.out)
  have HSS : Hid (∀ w', Below (w.heap.size + 1) w1 w' → Below (w.heap.size + 1) w1 w' ∧ w'.cell? ⟨w.heap.size, 1, none⟩ = some (.int .i64 n) ∧ w'.cell? ⟨w.heap.size, 2, none⟩ = some (.int .i64 m) ∧ w'.cell? ⟨bx, ox + m * 4, none⟩ = some (.bool xf) ∧ w'.cell? ⟨bx, ox + m * 4 + 2, none⟩ = some (.int .i64 xm) ∧ w'.cell? ⟨bx, ox + m * 4 + 3, none⟩ = some (.int .i64 xd)) := hide_ (fun w' hB' => ⟨hB', (K4.out.below hB' (by omega)).cell 1, (K4.out.below hB' (by omega)).cell 2, (hB'.cell (p := ⟨bx, ox + m * 4 + 0, none⟩) (by show bx < _; omega)).trans (HXc.out 0 (by decide) w1 HB1.out), (hB'.cell (p := ⟨bx, ox + m * 4 + 2, none⟩) (by show bx < _; omega)).trans (HXc.out 2 (by decide) w1 HB1.out), (hB'.cell (p := ⟨bx, ox + m * 4 + 3, none⟩) (by show bx < _; omega)).trans (HXc.out 3 (by decide) w1 HB1.out)⟩)
  go_region_held_law (fun w' => Below (w.heap.size + 1) w1 w' ∧ w'.cell? ⟨w.heap.size, 1, none⟩ = some (.int .i64 n) ∧ w'.cell? ⟨w.heap.size, 2, none⟩ = some (.int .i64 m) ∧ w'.cell? ⟨bx, ox + m * 4, none⟩ = some (.bool xf) ∧ w'.cell? ⟨bx, ox + m * 4 + 2, none⟩ = some (.int .i64 xm) ∧ w'.cell? ⟨bx, ox + m * 4 + 3, none⟩ = some (.int .i64 xd)) (first | assumption | exact HSS.out _ ((Below.refl _ _).drew) | exact HSS.out _ (Below.refl _ _) | exact HSS.out _ (below_wr4 ((Below.refl _ _).drew) _ (by omega) _ _ _ _) | exact HSS.out _ (below_wr4 (And.left (by assumption)) _ (by omega) _ _ _ _))
    ((go_at_call 61; refine (HCt.out _ _ _).mono ?_; rintro e w' ⟨rfl, rfl⟩))
  have HK := hide_ ((wr4 K3.out (.bool false) (.int .i64 0) (.int .i64 (times2 n pm)) (.int .i64 (1 + xd))).drew)
  have HBf := hide_ ((below_wr4 HBw.out (w.heap.size + 1) (by omega) (.bool false) (.int .i64 0) (.int .i64 (times2 n pm)) (.int .i64 (1 + xd))).drew)
  go_wp2
  exact retX (x := ⟨false, 0, times2 n pm, 1 + xd⟩) rfl rfl HK.out ⟨rfl, HBf.out⟩
set_option maxRecDepth 100000 in
set_option maxHeartbeats 8000000 in
theorem one6_any (n el : Int) (ps : List Pt) (va : Option Addr) (vc : Nat) (X : List Ex) (ax : Option Addr) (cx : Nat) (w : World) (hXl : X.length ≤ 10000000000000) (hbd : Hid (∀ x ∈ X, 0 ≤ x.d ∧ x.d ≤ 1000000)) (hel : 0 ≤ el ∧ el < X.length) (hX : Hid (XRow w ax X)) : Calls Try.prog 33 #[.agg #[.int .i64 6, .int .i64 n, .int .i64 el, .slice va ps.length vc], .slice ax X.length cx] w fun e w' => e = .returned (exv ⟨false, 1, plus2 1 (exAt X el).m, 1 + (exAt X el).d⟩) ∧ Below w.heap.size w w' := by
  have hB := below2 w (.cells #[.int .i64 6, .int .i64 n, .int .i64 el, .slice va ps.length vc] 43) (.cells #[.bool false, .int .i64 0, .int .i64 0, .int .i64 0] 63)
  obtain ⟨k1, k2⟩ := blk2 w #[.int .i64 6, .int .i64 n, .int .i64 el, .slice va ps.length vc] #[.bool false, .int .i64 0, .int .i64 0, .int .i64 0] 43 63
  obtain ⟨w0, hw0⟩ : ∃ wx, wx = (w.alloc (.cells #[.int .i64 6, .int .i64 n, .int .i64 el, .slice va ps.length vc] 43)).alloc (.cells #[.bool false, .int .i64 0, .int .i64 0, .int .i64 0] 63) := ⟨_, rfl⟩
  rw [← hw0] at hB k1 k2
  have K1 := hide_ k1
  have K2 := hide_ k2
  have HB := hide_ hB
  have i0 := k1.cell 0; have i1 := k1.cell 1; have i2 := k1.cell 2; have i3 := k1.cell 3
  have j0 := k2.cell 0; have j1 := k2.cell 1; have j2 := k2.cell 2; have j3 := k2.cell 3
  have jf := fun i => k2.frozen i
  simp at i0 i1 i2 i3 j0 j1 j2 j3
  obtain ⟨m, rfl⟩ := Int.eq_ofNat_of_zero_le hel.1
  have hmx : m < X.length := by omega
  have hmx' : (m : Int) < X.length := hel.2
  obtain ⟨bx, ox, rfl, hbx, hcx⟩ := hX.out.open (by omega)
  have hxe := exAt_at hmx
  obtain ⟨hd0, hd1⟩ := hbd.out _ (List.mem_of_getElem? hxe)
  have hcy := hcx m _ hxe
  have HPt : Hid (∀ w', Calls Try.prog 60 #[.agg #[.bool (exAt X m).f, .int .i64 (exAt X m).l, .int .i64 (exAt X m).m, .int .i64 (exAt X m).d]] w' fun e w'' => e = .returned (.tuple #[.int .i64 (offX (exAt X m)).l, .int .i64 (offX (exAt X m)).m]) ∧ Below w'.heap.size w' w'') := hide_ (fun w' => part_any _ w')
  generalize (offX (exAt X m)).l = pl at *
  generalize (offX (exAt X m)).m = pm at *
  generalize exAt X m = xx at *
  obtain ⟨xf, xl, xm, xd⟩ := xx
  have HXc : Hid (∀ j, j < 4 → ∀ w', Below w0.heap.size w0 w' → w'.cell? ⟨bx, ox + m * 4 + j, none⟩ = (exc ⟨xf, xl, xm, xd⟩)[j]?) := hide_ (fun j hj w' hB' => ((below_to HB.out hB').cell (p := ⟨bx, ox + m * 4 + j, none⟩) hbx).trans (hcy j hj))
  have x0 := HXc.out 0 (by decide) w0 (Below.refl _ _); have x1 := HXc.out 1 (by decide) w0 (Below.refl _ _); have x2 := HXc.out 2 (by decide) w0 (Below.refl _ _); have x3 := HXc.out 3 (by decide) w0 (Below.refl _ _)
  simp [exc] at x0 x1 x2 x3
  simp only at hd0 hd1 HPt
  have hw1 : wrap64 (1 + xd) = 1 + xd := w64 _ (by omega)
  have hw2 : IntKind.i64.wrap (1 + xd) = 1 + xd := by rw [IntKind.wrap_i64]; omega
  have HCt : Hid (∀ (a b : Int) (w' : World), Calls Try.prog 61 #[.int .i64 a, .int .i64 b] w' fun e w'' => e = .returned (.int .i64 (times2 a b)) ∧ w' = w'') := hide_ (fun a b w' => rtimes_any a b w')
  have HCp : Hid (∀ (a b : Int) (w' : World), Calls Try.prog 62 #[.int .i64 a, .int .i64 b] w' fun e w'' => e = .returned (.int .i64 (plus2 a b)) ∧ Below w'.heap.size w' w'') := hide_ (fun a b w' => rplus_any a b w')
  clear hB k1 k2 hcx hxe hcy hX hbd
  go_enter Try.func33, Try.ntmps33
  go_upto_region 1 with fail
  rw [← hw0]
  clear hw0
  have HSS : Hid (∀ w', Below (w.heap.size + 1) w0 w' → Below (w.heap.size + 1) w0 w' ∧ w'.cell? ⟨w.heap.size, 1, none⟩ = some (.int .i64 n) ∧ w'.cell? ⟨w.heap.size, 2, none⟩ = some (.int .i64 m) ∧ w'.cell? ⟨bx, ox + m * 4, none⟩ = some (.bool xf) ∧ w'.cell? ⟨bx, ox + m * 4 + 2, none⟩ = some (.int .i64 xm) ∧ w'.cell? ⟨bx, ox + m * 4 + 3, none⟩ = some (.int .i64 xd)) := hide_ (fun w' hB' => ⟨hB', (K1.out.below hB' (by omega)).cell 1, (K1.out.below hB' (by omega)).cell 2, (hB'.cell (p := ⟨bx, ox + m * 4 + 0, none⟩) (by show bx < _; omega)).trans (HXc.out 0 (by decide) w0 (Below.refl _ _)), (hB'.cell (p := ⟨bx, ox + m * 4 + 2, none⟩) (by show bx < _; omega)).trans (HXc.out 2 (by decide) w0 (Below.refl _ _)), (hB'.cell (p := ⟨bx, ox + m * 4 + 3, none⟩) (by show bx < _; omega)).trans (HXc.out 3 (by decide) w0 (Below.refl _ _))⟩)
  have hz0 : w.heap.size + 1 < w0.heap.size := K2.out.lt
  go_wp2_with fail
  go_region_held_law (fun w' => Below (w.heap.size + 1) w0 w' ∧ w'.cell? ⟨w.heap.size, 1, none⟩ = some (.int .i64 n) ∧ w'.cell? ⟨w.heap.size, 2, none⟩ = some (.int .i64 m) ∧ w'.cell? ⟨bx, ox + m * 4, none⟩ = some (.bool xf) ∧ w'.cell? ⟨bx, ox + m * 4 + 2, none⟩ = some (.int .i64 xm) ∧ w'.cell? ⟨bx, ox + m * 4 + 3, none⟩ = some (.int .i64 xd)) (first | assumption | exact HSS.out _ ((Below.refl _ _).drew) | exact HSS.out _ (Below.refl _ _) | exact HSS.out _ (below_wr4 (And.left (by assumption)) _ (by omega) _ _ _ _))
    ((go_at_call 62; refine (HCp.out _ _ _).mono ?_; rintro e w2 ⟨rfl, hB2⟩; (have hB3 := below_to ((Below.refl w0.heap.size w0).drew) hB2); (have G2 := HSS.out w2 (hB3.mono (by omega))); (have k3 := K2.out.later hB3); (have HB2 := hide_ hB3); (have K3 := hide_ k3); (have l0 := k3.cell 0); (have l1 := k3.cell 1); (have l2 := k3.cell 2); (have l3 := k3.cell 3); (have lf := fun i => k3.frozen i); (simp at l0 l1 l2 l3); (clear hB2 hB3 k3)))
  have HBw := hide_ (below_to HB.out HB2.out)
  have HK := hide_ (wr4 K3.out (.bool false) (.int .i64 1) (.int .i64 (plus2 1 xm)) (.int .i64 (1 + xd)))
  have HBf := hide_ (below_wr4 HBw.out (w.heap.size + 1) (by omega) (.bool false) (.int .i64 1) (.int .i64 (plus2 1 xm)) (.int .i64 (1 + xd)))
  go_wp2
  exact retX (x := ⟨false, 1, plus2 1 xm, 1 + xd⟩) rfl rfl HK.out ⟨rfl, HBf.out⟩
end Go.Proofs.Ytncndgfaalojpaa
/- The document's extents: one of a union, a struct. -/
namespace Go.Proofs.Ytncndgfaalojpaa
open Go.RowKit
set_option linter.unusedVariables false

def kidX (X : List Ex) (ps : List Pt) : List Ex := ps.map (fun p => exAt X p.ty)
theorem kidX_at {X : List Ex} {ps : List Pt} {m : Nat} {p : Pt} (h : ps[m]? = some p) : (kidX X ps)[m]? = some (exAt X p.ty) := by
  unfold kidX
  rw [List.getElem?_map, h]
  rfl
theorem ch_one {X : List Ex} {x : Ex} (h : XOk x) (hx : X[0]? = some x) : chX (X.take 1) = (x.l, x.m) ∧ deepX (X.take 1) = x.d := by
  have e1 := chX_succ hx
  have e2 := deepX_succ hx
  have := h.l0; have := h.lm; have := h.mh; have := h.d0
  rw [Nat.zero_add] at e1 e2
  rw [e1, e2]
  simp only [List.take_zero, chX, deepX, List.foldl_nil]
  refine ⟨Prod.ext (by simp only; omega) (by simp only; omega), by omega⟩
set_option maxRecDepth 100000 in
set_option maxHeartbeats 8000000 in
theorem one7_any (n el : Int) (ps : List Pt) (va : Option Addr) (vc : Nat) (X : List Ex) (ax : Option Addr) (cx : Nat) (w : World) (hXl : X.length ≤ 10000000000000) (hbd : Hid (∀ x ∈ X, XOk x ∧ x.d ≤ 1000000)) (hps : 0 < ps.length) (hpl : ps.length ≤ 64) (hpt : Hid (∀ (j : Nat) (p : Pt), ps[j]? = some p → 0 ≤ p.ty ∧ p.ty < X.length)) (hP : Hid (PRow w va ps)) (hX : Hid (XRow w ax X)) : Calls Try.prog 33 #[.agg #[.int .i64 7, .int .i64 n, .int .i64 el, .slice va ps.length vc], .slice ax X.length cx] w fun e w' => e = .returned (exv ⟨false, plus2 1 (chX (kidX X ps)).1, plus2 1 (chX (kidX X ps)).2, 1 + deepX (kidX X ps)⟩) ∧ Below w.heap.size w w' := by
  have hB := below2 w (.cells #[.int .i64 7, .int .i64 n, .int .i64 el, .slice va ps.length vc] 43) (.cells #[.bool false, .int .i64 0, .int .i64 0, .int .i64 0] 63)
  obtain ⟨k1, k2⟩ := blk2 w #[.int .i64 7, .int .i64 n, .int .i64 el, .slice va ps.length vc] #[.bool false, .int .i64 0, .int .i64 0, .int .i64 0] 43 63
  obtain ⟨w0, hw0⟩ : ∃ wx, wx = (w.alloc (.cells #[.int .i64 7, .int .i64 n, .int .i64 el, .slice va ps.length vc] 43)).alloc (.cells #[.bool false, .int .i64 0, .int .i64 0, .int .i64 0] 63) := ⟨_, rfl⟩
  rw [← hw0] at hB k1 k2
  have K1 := hide_ k1
  have K2 := hide_ k2
  have HB := hide_ hB
  have i0 := k1.cell 0; have i1 := k1.cell 1; have i2 := k1.cell 2; have i3 := k1.cell 3
  have j0 := k2.cell 0; have j1 := k2.cell 1; have j2 := k2.cell 2; have j3 := k2.cell 3
  have jf := fun i => k2.frozen i
  simp at i0 i1 i2 i3 j0 j1 j2 j3
  have HGet : Hid (∀ (j : Nat), j < ps.length → ∀ w', Below w0.heap.size w0 w' → ∃ (bp op : Nat) (bx ox m : Nat), va = some ⟨bp, op, none⟩ ∧ ax = some ⟨bx, ox, none⟩ ∧ (kidX X ps)[j]? = some (exAt X m) ∧ (m : Int) < X.length ∧ w'.cell? ⟨bp, op + j * 3 + 2, none⟩ = some (.int .i64 (m : Int)) ∧ (∀ i, i < 4 → w'.cell? ⟨bx, ox + m * 4 + i, none⟩ = (exc (exAt X m))[i]?) ∧ XOk (exAt X m) ∧ (exAt X m).d ≤ 1000000) := hide_ (fun j hj w' hB' => by
    obtain ⟨bp, op, e1, hbp, hcp⟩ := hP.out.open (by omega)
    have hq : ps[j]? = some (ps[j]'hj) := List.getElem?_eq_getElem hj
    obtain ⟨h0, h1⟩ := hpt.out j _ hq
    obtain ⟨m, hm⟩ := Int.eq_ofNat_of_zero_le h0
    obtain ⟨bx, ox, e2, hbx, hcx⟩ := hX.out.open (by omega)
    have hxe := exAt_at (X := X) (i := m) (by omega)
    have hB2 := below_to HB.out hB'
    refine ⟨bp, op, bx, ox, m, e1, e2, by rw [kidX_at hq, hm], by omega, ?_, fun i hi => (hB2.cell (p := ⟨bx, ox + m * 4 + i, none⟩) hbx).trans (hcx m _ hxe i hi), (hbd.out _ (List.mem_of_getElem? hxe)).1, (hbd.out _ (List.mem_of_getElem? hxe)).2⟩
    have h2 := hcp j _ hq 2 (by decide)
    rw [show (ptc (ps[j]'hj))[2]? = some (.int .i64 (ps[j]'hj).ty) from rfl, hm] at h2
    exact (hB2.cell (p := ⟨bp, op + j * 3 + 2, none⟩) hbp).trans h2)
  have HKl : Hid ((kidX X ps).length = ps.length) := hide_ (by simp [kidX])
  have HCp : Hid (∀ (a b : Int) (w' : World), Calls Try.prog 62 #[.int .i64 a, .int .i64 b] w' fun e w'' => e = .returned (.int .i64 (plus2 a b)) ∧ Below w'.heap.size w' w'') := hide_ (fun a b w' => rplus_any a b w')
  clear hB k1 k2 hP hX hbd hpt
  generalize kidX X ps = Y at *
  obtain ⟨bp, op, bx, ox, m, rfl, rfl, hy0, hmx, hc2, hcx, hxo, hxd⟩ := HGet.out 0 hps w0 (Below.refl _ _)
  have x0 := hcx 0 (by decide); have x1 := hcx 1 (by decide); have x2 := hcx 2 (by decide); have x3 := hcx 3 (by decide)
  have H1 := hide_ (ch_one hxo hy0)
  have hxn : 0 ≤ (exAt X m).d := hxo.d0
  generalize exAt X m = xx at *
  obtain ⟨xf, xl, xm, xd⟩ := xx
  simp [exc] at x0 x1 x2 x3 hc2 hxd hxn
  have hpl0 : (0 : Int) < (ps.length : Int) := by omega
  obtain ⟨w1, hw1⟩ : ∃ wx, wx = w0.alloc (.cells #[.bool xf, .int .i64 xl, .int .i64 xm, .int .i64 xd] 63) := ⟨_, rfl⟩
  have b1 : Below w0.heap.size w0 w1 := by rw [hw1]; exact below1 _ _
  have kx : Blk w1 w0.heap.size 63 [.bool xf, .int .i64 xl, .int .i64 xm, .int .i64 xd] := by rw [hw1]; exact Blk.newA w0 _ _
  have KX := hide_ kx
  have HBx := hide_ b1
  obtain ⟨g9, hg9⟩ : ∃ g, w0.heap.size = g := ⟨_, rfl⟩
  have HG9 := hide_ hg9
  clear b1 kx hcx hxo hy0
  go_enter Try.func33, Try.ntmps33
  go_upto_region 1 with fail
  rw [← hw0]
  clear hw0
  go_upto_region 12 with fail
  rw [← hw1]
  try rw [hg9]
  rw [hg9] at KX
  clear hw1 hg9 i0 i1 i2 i3 j0 j1 j2 j3 jf x0 x1 x2 x3 hc2
  go_wp2_with fail
  go_loopw [10] (fun x10 wr => ∃ (i : Nat) (f : Bool) (L M D : Int), 1 ≤ i ∧ i ≤ ps.length ∧ x10 = .int .i64 (i : Int) ∧ Hid ((L, M) = chX (Y.take i)) ∧ Hid (D = deepX (Y.take i)) ∧ 0 ≤ D ∧ D ≤ 1000000 ∧ Hid (Blk wr g9 63 [.bool f, .int .i64 L, .int .i64 M, .int .i64 D]) ∧ Hid (Below w0.heap.size w0 wr)) (fun x10 _ => ps.length - (intOf x10).toNat)
  case atStart => exact ⟨1, xf, xl, xm, xd, by omega, by omega, rfl, hide_ H1.out.1.symm, hide_ H1.out.2.symm, hxn, hxd, KX, HBx⟩
  case round =>
    obtain ⟨i, f, L, M, D, hi1, hi, rfl, HC, HD, hD0, hD1, K9, HB1⟩ := hrel
    generalize wr = wq at *
    clear KX HBx H1 hmx
    have i3 := (K1.out.later HB1.out).cell 3
    have q1 := K9.out.cell 1; have q2 := K9.out.cell 2; have q3 := K9.out.cell 3
    simp at i3 q1 q2 q3
    by_cases hlt : i < ps.length
    · have hlt' : (i : Int) < ps.length := by omega
      obtain ⟨bp', op', bx', ox', m', e1, e2, hy, hmx, hc2, hcx, hxo, hxd'⟩ := HGet.out i hlt wq HB1.out
      injection e1 with e1
      injection e1 with e1 e1' _
      injection e2 with e2
      injection e2 with e2 e2' _
      subst e1 e1' e2 e2'
      have x0 := hcx 0 (by decide); have x1 := hcx 1 (by decide); have x2 := hcx 2 (by decide); have x3 := hcx 3 (by decide)
      have HCs := hide_ (chX_succ hy)
      have HDs := hide_ (deepX_succ hy)
      rw [← HC.out] at HCs
      rw [← HD.out] at HDs
      have hxn' : 0 ≤ (exAt X m').d := hxo.d0
      generalize exAt X m' = yy at *
      obtain ⟨yf, yl, ym, yd⟩ := yy
      simp [exc] at x0 x1 x2 x3 hc2
      simp only at HCs HDs hxd' hxn'
      obtain ⟨wa, hwa⟩ : ∃ wx, wx = wq.alloc (.cells #[.bool yf, .int .i64 yl, .int .i64 ym, .int .i64 yd] 63) := ⟨_, rfl⟩
      have ba : Below wq.heap.size wq wa := by rw [hwa]; exact below1 _ _
      have ka : Blk wa wq.heap.size 63 [.bool yf, .int .i64 yl, .int .i64 ym, .int .i64 yd] := by rw [hwa]; exact Blk.newA wq _ _
      have k9 := K9.out.later ba
      have HW9 : Hid (∀ a b c, Blk ((((wa.setCell ⟨g9, 0, none⟩ (.bool false)).setCell ⟨g9, 1, none⟩ (.int .i64 a)).setCell ⟨g9, 2, none⟩ (.int .i64 b)).setCell ⟨g9, 3, none⟩ (.int .i64 c)) g9 63 [.bool false, .int .i64 a, .int .i64 b, .int .i64 c]) := hide_ (fun a b c => wr4 k9 _ _ _ _)
      have HWB : Hid (∀ a b c, Below w0.heap.size w0 ((((wa.setCell ⟨g9, 0, none⟩ (.bool false)).setCell ⟨g9, 1, none⟩ (.int .i64 a)).setCell ⟨g9, 2, none⟩ (.int .i64 b)).setCell ⟨g9, 3, none⟩ (.int .i64 c))) := hide_ (fun a b c => below_wr4 (below_to HB1.out ba) g9 (by have := HG9.out; omega) _ _ _ _)
      have p0 := ka.cell 0; have p1 := ka.cell 1; have p2 := ka.cell 2; have p3 := ka.cell 3
      have s0 := k9.cell 0; have s1 := k9.cell 1; have s2 := k9.cell 2; have s3 := k9.cell 3
      have sf := fun i => k9.frozen i
      simp at p0 p1 p2 p3 s0 s1 s2 s3
      clear ba ka k9 hcx hy hxo
      go_upto_region 16 with fail
      rw [← hwa]
      clear hwa x0 x1 x2 x3 hc2 q1 q2 q3 i3
      go_wp2_with fail
      all_goals
        go_roundw
        case rel => exact ⟨i + 1, false, _, _, _, by omega, by omega, by go_num, hide_ (by rw [HCs.out]; refine Prod.ext ?_ ?_ <;> (simp only; omega)), hide_ (by rw [HDs.out]; omega), by omega, by omega, hide_ (HW9.out _ _ _), hide_ (HWB.out _ _ _)⟩
        case measure => simp [intOf]; omega
    · have hlt' : ¬ (i : Int) < ps.length := by omega
      have HV : Hid ((⟨false, plus2 1 (chX Y).1, plus2 1 (chX Y).2, 1 + deepX Y⟩ : Ex) = ⟨false, plus2 1 L, plus2 1 M, 1 + D⟩) := hide_ (by
        have h1 := HC.out; have h2 := HD.out
        rw [List.take_of_length_le (by have := HKl.out; omega)] at h1 h2
        rw [← h1, ← h2])
      have HSS : Hid (∀ w', Below wq.heap.size wq w' → Below wq.heap.size wq w' ∧ w'.cell? ⟨g9, 1, none⟩ = some (.int .i64 L) ∧ w'.cell? ⟨g9, 2, none⟩ = some (.int .i64 M) ∧ w'.cell? ⟨g9, 3, none⟩ = some (.int .i64 D)) := hide_ (fun w' hB' => ⟨hB', (K9.out.later hB').cell 1, (K9.out.later hB').cell 2, (K9.out.later hB').cell 3⟩)
      have hw2 : IntKind.i64.wrap (1 + D) = 1 + D := by rw [IntKind.wrap_i64]; omega
      go_upto_region 17 with fail
      refine wp_region_last 10 (fun w' => Below wq.heap.size wq w' ∧ w'.cell? ⟨g9, 1, none⟩ = some (.int .i64 L) ∧ w'.cell? ⟨g9, 2, none⟩ = some (.int .i64 M) ∧ w'.cell? ⟨g9, 3, none⟩ = some (.int .i64 D)) (by kernel_rfl) (HSS.out _ ((Below.refl wq.heap.size wq).drew)) (fun hHeld => ?_)
      refine wpAnyF_take [10] (by kernel_rfl) (i := 0) (v := ?vu1) rfl (by kernel_rfl) (by kernel_rfl) (by kernel_rfl) (fun _ _ _ h => h) (Or.inl ⟨by rfl, ?hyu1⟩) hHeld ?restu1
      case hyu1 => intro w' hSw; (try dsimp only at hSw); go_simp; try with_reducible rfl
      simp only [Act.put]
      refine wpAnyF_take [10] (by kernel_rfl) (i := 1) (v := ?vu2) rfl (by kernel_rfl) (by kernel_rfl) (by kernel_rfl) (fun _ _ _ h => h) (Or.inl ⟨by rfl, ?hyu2⟩) hHeld ?restu2
      case hyu2 => intro w' hSw; (try dsimp only at hSw); go_simp; try with_reducible rfl
      simp only [Act.put]
      refine wpAnyF_take [10] (by kernel_rfl) (i := 3) (v := ?vu3) rfl (by kernel_rfl) (by kernel_rfl) (by kernel_rfl) (fun _ _ _ h => h) (Or.inl ⟨by rfl, ?hyu3⟩) hHeld ?restu3
      case hyu3 => intro w' hSw; (try dsimp only at hSw); go_simp; try with_reducible rfl
      simp only [Act.put]
      refine wpAnyF_take [10] (by kernel_rfl) (i := 4) (v := ?vu4) rfl (by kernel_rfl) (by kernel_rfl) (by kernel_rfl) (fun _ _ _ h => h) (Or.inl ⟨by rfl, ?hyu4⟩) hHeld ?restu4
      case hyu4 => intro w' hSw; (try dsimp only at hSw); go_simp; try with_reducible rfl
      simp only [Act.put]
      refine wpAnyF_take [10] (by kernel_rfl) (i := 6) (v := ?vu5) rfl (by kernel_rfl) (by kernel_rfl) (by kernel_rfl) (fun _ _ _ h => h) (Or.inl ⟨by rfl, ?hyu5⟩) hHeld ?restu5
      case hyu5 => intro w' hSw; (try dsimp only at hSw); go_simp; try with_reducible rfl
      simp only [Act.put]
      refine wpAnyF_take [10] (by kernel_rfl) (i := 7) (v := ?vu6) rfl (by kernel_rfl) (by kernel_rfl) (by kernel_rfl) (fun _ _ _ h => h) (Or.inl ⟨by rfl, ?hyu6⟩) hHeld ?restu6
      case hyu6 => intro w' hSw; (try dsimp only at hSw); go_simp; try with_reducible rfl
      simp only [Act.put]
      refine wpAnyF_take [10] (by kernel_rfl) (i := 8) (v := ?vu7) rfl (by kernel_rfl) (by kernel_rfl) (by kernel_rfl) (fun _ _ _ h => h) (Or.inl ⟨by rfl, ?hyu7⟩) hHeld ?restu7
      case hyu7 => intro w' hSw; (try dsimp only at hSw); go_simp; try with_reducible rfl
      simp only [Act.put]
      refine wpAnyF_ready (rs := [2]) (by kernel_rfl) (by simp) ?_
      refine AllReadyF.cons rfl (fun K hK => ?_) AllReadyF.nil
      go_simp
      refine (HCp.out _ _ _).mono ?_
      rintro e w2 ⟨rfl, hB2⟩
      dsimp only
      have HB2 := hide_ (below_to ((Below.refl wq.heap.size wq).drew) hB2)
      clear hB2
      refine hK.out _ _ (HSS.out _ HB2.out) (fun hHeld => ?_)
      clear hK K
      refine wpAnyF_ready (rs := [5]) (by kernel_rfl) (by simp) ?_
      refine AllReadyF.cons rfl (fun K hK => ?_) AllReadyF.nil
      go_simp
      refine (HCp.out _ _ _).mono ?_
      rintro e w3 ⟨rfl, hB3⟩
      dsimp only
      have HB3 := hide_ (below_to HB2.out hB3)
      clear hB3
      refine hK.out _ _ (HSS.out _ HB3.out) (fun hHeld => ?_)
      clear hK K
      refine wpAnyF_take [10] (by kernel_rfl) (i := 9) (v := ?vu8) rfl (by kernel_rfl) (by kernel_rfl) (by kernel_rfl) (fun _ _ _ h => h) (Or.inl ⟨by rfl, ?hyu8⟩) hHeld ?restu8
      case hyu8 => intro w' hSw; (try dsimp only at hSw); go_simp; try with_reducible rfl
      simp only [Act.put]
      refine wpAnyF_ready (rs := [10]) (by kernel_rfl) (by simp) ?_
      refine AllReadyF.last rfl (fun K hK => ?_)
      have k3 := (K2.out.later (below_to HB1.out HB3.out))
      have HK := hide_ (wr4 k3 (.bool false) (.int .i64 (plus2 1 L)) (.int .i64 (plus2 1 M)) (.int .i64 (1 + D)))
      have HBf := hide_ (below_wr4 (below_to HB.out (below_to HB1.out HB3.out)) (w.heap.size + 1) (by omega) (.bool false) (.int .i64 (plus2 1 L)) (.int .i64 (plus2 1 M)) (.int .i64 (1 + D)))
      have l0 := k3.cell 0; have l1 := k3.cell 1; have l2 := k3.cell 2; have l3 := k3.cell 3
      have lf := fun i => k3.frozen i
      simp at l0 l1 l2 l3
      clear k3
      go_simp
      refine hK.out _ _ ?_
      clear hK K
      refine wpAnyF_done (by kernel_rfl) ?_ _
      go_wp2
      exact retX (x := ⟨false, plus2 1 L, plus2 1 M, 1 + D⟩) rfl rfl HK.out ⟨by rw [HV.out], HBf.out⟩
end Go.Proofs.Ytncndgfaalojpaa
/- The document's extents: one of a struct. -/
namespace Go.Proofs.Ytncndgfaalojpaa
open Go.RowKit
set_option linter.unusedVariables false

set_option maxRecDepth 100000 in
set_option maxHeartbeats 8000000 in
theorem one8_any (n el : Int) (ps : List Pt) (va : Option Addr) (vc : Nat) (X : List Ex) (ax : Option Addr) (cx : Nat) (w : World) (hXl : X.length ≤ 10000000000000) (hbd : Hid (∀ x ∈ X, XOk x ∧ x.d ≤ 1000000)) (hps : 0 < ps.length) (hpl : ps.length ≤ 64) (hpt : Hid (∀ (j : Nat) (p : Pt), ps[j]? = some p → 0 ≤ p.ty ∧ p.ty < X.length)) (hP : Hid (PRow w va ps)) (hX : Hid (XRow w ax X)) : Calls Try.prog 33 #[.agg #[.int .i64 8, .int .i64 n, .int .i64 el, .slice va ps.length vc], .slice ax X.length cx] w fun e w' => e = .returned (exv ⟨(rowX (kidX X ps)).1, (rowX (kidX X ps)).2.1, (rowX (kidX X ps)).2.2, 1 + deepX (kidX X ps)⟩) ∧ Below w.heap.size w w' := by
  have hB := below2 w (.cells #[.int .i64 8, .int .i64 n, .int .i64 el, .slice va ps.length vc] 43) (.cells #[.bool false, .int .i64 0, .int .i64 0, .int .i64 0] 63)
  obtain ⟨k1, k2⟩ := blk2 w #[.int .i64 8, .int .i64 n, .int .i64 el, .slice va ps.length vc] #[.bool false, .int .i64 0, .int .i64 0, .int .i64 0] 43 63
  obtain ⟨w0, hw0⟩ : ∃ wx, wx = (w.alloc (.cells #[.int .i64 8, .int .i64 n, .int .i64 el, .slice va ps.length vc] 43)).alloc (.cells #[.bool false, .int .i64 0, .int .i64 0, .int .i64 0] 63) := ⟨_, rfl⟩
  rw [← hw0] at hB k1 k2
  have K1 := hide_ k1
  have K2 := hide_ k2
  have HB := hide_ hB
  have i0 := k1.cell 0; have i1 := k1.cell 1; have i2 := k1.cell 2; have i3 := k1.cell 3
  have j0 := k2.cell 0; have j1 := k2.cell 1; have j2 := k2.cell 2; have j3 := k2.cell 3
  have jf := fun i => k2.frozen i
  simp at i0 i1 i2 i3 j0 j1 j2 j3
  have HGet : Hid (∀ (j : Nat), j < ps.length → ∀ w', Below w0.heap.size w0 w' → ∃ (bp op : Nat) (bx ox m : Nat), va = some ⟨bp, op, none⟩ ∧ ax = some ⟨bx, ox, none⟩ ∧ (kidX X ps)[j]? = some (exAt X m) ∧ (m : Int) < X.length ∧ w'.cell? ⟨bp, op + j * 3 + 2, none⟩ = some (.int .i64 (m : Int)) ∧ (∀ i, i < 4 → w'.cell? ⟨bx, ox + m * 4 + i, none⟩ = (exc (exAt X m))[i]?) ∧ XOk (exAt X m) ∧ (exAt X m).d ≤ 1000000) := hide_ (fun j hj w' hB' => by
    obtain ⟨bp, op, e1, hbp, hcp⟩ := hP.out.open (by omega)
    have hq : ps[j]? = some (ps[j]'hj) := List.getElem?_eq_getElem hj
    obtain ⟨h0, h1⟩ := hpt.out j _ hq
    obtain ⟨m, hm⟩ := Int.eq_ofNat_of_zero_le h0
    obtain ⟨bx, ox, e2, hbx, hcx⟩ := hX.out.open (by omega)
    have hxe := exAt_at (X := X) (i := m) (by omega)
    have hB2 := below_to HB.out hB'
    refine ⟨bp, op, bx, ox, m, e1, e2, by rw [kidX_at hq, hm], by omega, ?_, fun i hi => (hB2.cell (p := ⟨bx, ox + m * 4 + i, none⟩) hbx).trans (hcx m _ hxe i hi), (hbd.out _ (List.mem_of_getElem? hxe)).1, (hbd.out _ (List.mem_of_getElem? hxe)).2⟩
    have h2 := hcp j _ hq 2 (by decide)
    rw [show (ptc (ps[j]'hj))[2]? = some (.int .i64 (ps[j]'hj).ty) from rfl, hm] at h2
    exact (hB2.cell (p := ⟨bp, op + j * 3 + 2, none⟩) hbp).trans h2)
  have HKl : Hid ((kidX X ps).length = ps.length) := hide_ (by simp [kidX])
  have HCp : Hid (∀ (a b : Int) (w' : World), Calls Try.prog 62 #[.int .i64 a, .int .i64 b] w' fun e w'' => e = .returned (.int .i64 (plus2 a b)) ∧ Below w'.heap.size w' w'') := hide_ (fun a b w' => rplus_any a b w')
  clear hB k1 k2 hP hX hbd hpt
  generalize kidX X ps = Y at *
  obtain ⟨w1, hw1⟩ : ∃ wx, wx = w0.alloc (.cells #[.bool true, .int .i64 0, .int .i64 0, .int .i64 0] 63) := ⟨_, rfl⟩
  have b1 : Below w0.heap.size w0 w1 := by rw [hw1]; exact below1 _ _
  have kx : Blk w1 w0.heap.size 63 [.bool true, .int .i64 0, .int .i64 0, .int .i64 0] := by rw [hw1]; exact Blk.newA w0 _ _
  have KX := hide_ kx
  have HBx := hide_ b1
  obtain ⟨g12, hg12⟩ : ∃ g, w0.heap.size = g := ⟨_, rfl⟩
  have HG12 := hide_ hg12
  clear b1 kx
  go_enter Try.func33, Try.ntmps33
  go_upto_region 1 with fail
  rw [← hw0]
  clear hw0
  go_upto_region 20 with fail
  rw [← hw1]
  try rw [hg12]
  rw [hg12] at KX
  clear hw1 hg12 i0 i1 i2 i3 j0 j1 j2 j3 jf
  go_wp2_with fail
  go_loopw [13] (fun x13 wr => ∃ (i : Nat) (f : Bool) (L M D : Int), i ≤ ps.length ∧ x13 = .int .i64 (i : Int) ∧ Hid ((f, L, M) = rowX (Y.take i)) ∧ Hid (D = deepX (Y.take i)) ∧ 0 ≤ D ∧ D ≤ 1000000 ∧ Hid (Blk wr g12 63 [.bool f, .int .i64 L, .int .i64 M, .int .i64 D]) ∧ Hid (Below w0.heap.size w0 wr)) (fun x13 _ => ps.length - (intOf x13).toNat)
  case atStart => exact ⟨0, true, 0, 0, 0, by omega, rfl, hide_ rfl, hide_ rfl, by omega, by omega, KX, HBx⟩
  case round =>
    obtain ⟨i, f, L, M, D, hi, rfl, HC, HD, hD0, hD1, K9, HB1⟩ := hrel
    generalize wr = wq at *
    clear KX HBx
    have i3 := (K1.out.later HB1.out).cell 3
    simp at i3
    by_cases hlt : i < ps.length
    · have hlt' : (i : Int) < ps.length := by omega
      obtain ⟨bp, op, bx, ox, m', rfl, rfl, hy, hmx, hc2, hcx, hxo, hxd'⟩ := HGet.out i hlt wq HB1.out
      have x0 := hcx 0 (by decide); have x1 := hcx 1 (by decide); have x2 := hcx 2 (by decide); have x3 := hcx 3 (by decide)
      have HRs0 := hide_ (rowX_succ hy)
      have HDs0 := hide_ (deepX_succ hy)
      rw [← HC.out, off_f] at HRs0
      rw [← HD.out] at HDs0
      have hxn' : 0 ≤ (exAt X m').d := hxo.d0
      have HPt : Hid (∀ w', Calls Try.prog 60 #[.agg #[.bool (exAt X m').f, .int .i64 (exAt X m').l, .int .i64 (exAt X m').m, .int .i64 (exAt X m').d]] w' fun e w'' => e = .returned (.tuple #[.int .i64 (offX (exAt X m')).l, .int .i64 (offX (exAt X m')).m]) ∧ Below w'.heap.size w' w'') := hide_ (fun w' => part_any _ w')
      generalize (offX (exAt X m')).l = pl at *
      generalize (offX (exAt X m')).m = pm at *
      generalize exAt X m' = yy at *
      obtain ⟨yf, yl, ym, yd⟩ := yy
      simp [exc] at x0 x1 x2 x3 hc2
      simp only at HRs0 HDs0 hxd' hxn' HPt
      obtain ⟨dn, hdn⟩ : ∃ dn, (if D < yd then yd else D) = dn := ⟨_, rfl⟩
      have hdm : dn = max D yd := by rw [← hdn]; split <;> omega
      have hdn0 : 0 ≤ dn ∧ dn ≤ 1000000 := by omega
      have HDs : Hid (dn = deepX (Y.take (i + 1))) := hide_ (by rw [HDs0.out, ← hdm])
      clear hdm
      obtain ⟨wa, hwa⟩ : ∃ wx, wx = wq.alloc (.cells #[.bool yf, .int .i64 yl, .int .i64 ym, .int .i64 yd] 63) := ⟨_, rfl⟩
      have ba : Below wq.heap.size wq wa := by rw [hwa]; exact below1 _ _
      have ka : Blk wa wq.heap.size 63 [.bool yf, .int .i64 yl, .int .i64 ym, .int .i64 yd] := by rw [hwa]; exact Blk.newA wq _ _
      have p0 := ka.cell 0; have p1 := ka.cell 1; have p2 := ka.cell 2; have p3 := ka.cell 3
      simp at p0 p1 p2 p3
      have HKA := hide_ ka
      have HBA := hide_ ba
      clear ba ka hcx hy hxo HDs0
      go_upto_region 24 with fail
      rw [← hwa]
      clear hwa x0 x1 x2 x3 hc2 i3
      go_wp2_with (go_at_call 60; refine (HPt.out _).mono ?_; rintro e w2 ⟨rfl, hB2⟩)
      have HB2 := hide_ (below_to HB1.out (below_to HBA.out hB2))
      have K12 := hide_ (K9.out.later (below_to HBA.out hB2))
      have KA := hide_ (HKA.out.later hB2)
      clear hB2 p0 p1 p2 p3 HPt HKA HBA
      cases f with
      | true =>
        have HRs : Hid ((yf, plus2 L pl, plus2 M pm) = rowX (Y.take (i + 1))) := hide_ (by rw [HRs0.out]; simp)
        have HSS : Hid (∀ w', Below w2.heap.size w2 w' → (fun w' => Below w2.heap.size w2 w' ∧ w'.cell? ⟨g12, 0, none⟩ = some (.bool true) ∧ w'.cell? ⟨g12, 1, none⟩ = some (.int .i64 L) ∧ w'.cell? ⟨g12, 2, none⟩ = some (.int .i64 M) ∧ w'.cell? ⟨g12, 3, none⟩ = some (.int .i64 D) ∧ w'.cell? ⟨wq.heap.size, 0, none⟩ = some (.bool yf) ∧ w'.cell? ⟨wq.heap.size, 3, none⟩ = some (.int .i64 yd)) w') := hide_ (fun w' hB' => ⟨hB', (K12.out.later hB').cell 0, (K12.out.later hB').cell 1, (K12.out.later hB').cell 2, (K12.out.later hB').cell 3, (KA.out.later hB').cell 0, (KA.out.later hB').cell 3⟩)
        clear HRs0
        go_wp2_with fail
        refine wp_region_last 20 (fun w' => Below w2.heap.size w2 w' ∧ w'.cell? ⟨g12, 0, none⟩ = some (.bool true) ∧ w'.cell? ⟨g12, 1, none⟩ = some (.int .i64 L) ∧ w'.cell? ⟨g12, 2, none⟩ = some (.int .i64 M) ∧ w'.cell? ⟨g12, 3, none⟩ = some (.int .i64 D) ∧ w'.cell? ⟨wq.heap.size, 0, none⟩ = some (.bool yf) ∧ w'.cell? ⟨wq.heap.size, 3, none⟩ = some (.int .i64 yd)) (by kernel_rfl) (HSS.out _ ((Below.refl w2.heap.size w2).drew)) (fun hHeld => ?_)
        refine wpAnyF_take [20] (by kernel_rfl) (i := 0) (v := ?vt1) rfl (by kernel_rfl) (by kernel_rfl) (by kernel_rfl) (fun _ _ _ h => h) (Or.inl ⟨by rfl, ?hyt1⟩) hHeld ?restt1
        case hyt1 => intro w' hSw; (try dsimp only at hSw); go_simp; try with_reducible rfl
        simp only [Act.put]
        refine wpAnyF_take [20] (by kernel_rfl) (i := 1) (v := ?vt2) rfl (by kernel_rfl) (by kernel_rfl) (by kernel_rfl) (fun _ _ _ h => h) (Or.inl ⟨by rfl, ?hyt2⟩) hHeld ?restt2
        case hyt2 => intro w' hSw; (try dsimp only at hSw); go_simp; try with_reducible rfl
        simp only [Act.put]
        refine wpAnyF_take [20] (by kernel_rfl) (i := 2) (v := ?vt3) rfl (by kernel_rfl) (by kernel_rfl) (by kernel_rfl) (fun _ _ _ h => h) (Or.inl ⟨by rfl, ?hyt3⟩) hHeld ?restt3
        case hyt3 => intro w' hSw; (try dsimp only at hSw); go_simp; try with_reducible rfl
        simp only [Act.put]
        refine wpAnyF_take [20] (by kernel_rfl) (i := 3) (v := ?vt4) rfl (by kernel_rfl) (by kernel_rfl) (by kernel_rfl) (fun _ _ _ h => h) (Or.inl ⟨by rfl, ?hyt4⟩) hHeld ?restt4
        case hyt4 => intro w' hSw; (try dsimp only at hSw); go_simp; try with_reducible rfl
        simp only [Act.put]
        refine wpAnyF_take [20] (by kernel_rfl) (i := 4) (v := ?vt5) rfl (by kernel_rfl) (by kernel_rfl) (by kernel_rfl) (fun _ _ _ h => h) (Or.inl ⟨by rfl, ?hyt5⟩) hHeld ?restt5
        case hyt5 => intro w' hSw; (try dsimp only at hSw); go_simp; try with_reducible rfl
        simp only [Act.put]
        refine wpAnyF_take [20] (by kernel_rfl) (i := 5) (v := ?vt6) rfl (by kernel_rfl) (by kernel_rfl) (by kernel_rfl) (fun _ _ _ h => h) (Or.inl ⟨by rfl, ?hyt6⟩) hHeld ?restt6
        case hyt6 => intro w' hSw; (try dsimp only at hSw); go_simp; try with_reducible rfl
        simp only [Act.put]
        refine wpAnyF_take [20] (by kernel_rfl) (i := 6) (v := ?vt7) rfl (by kernel_rfl) (by kernel_rfl) (by kernel_rfl) (fun _ _ _ h => h) (Or.inl ⟨by rfl, ?hyt7⟩) hHeld ?restt7
        case hyt7 => intro w' hSw; (try dsimp only at hSw); go_simp; try with_reducible rfl
        simp only [Act.put]
        refine wpAnyF_take [20] (by kernel_rfl) (i := 7) (v := ?vt8) rfl (by kernel_rfl) (by kernel_rfl) (by kernel_rfl) (fun _ _ _ h => h) (Or.inl ⟨by rfl, ?hyt8⟩) hHeld ?restt8
        case hyt8 => intro w' hSw; (try dsimp only at hSw); go_simp; try with_reducible rfl
        simp only [Act.put]
        refine wpAnyF_take [20] (by kernel_rfl) (i := 8) (v := ?vt9) rfl (by kernel_rfl) (by kernel_rfl) (by kernel_rfl) (fun _ _ _ h => h) (Or.inl ⟨by rfl, ?hyt9⟩) hHeld ?restt9
        case hyt9 => intro w' hSw; (try dsimp only at hSw); go_simp; try with_reducible rfl
        simp only [Act.put]
        refine wpAnyF_take [20] (by kernel_rfl) (i := 10) (v := ?vt10) rfl (by kernel_rfl) (by kernel_rfl) (by kernel_rfl) (fun _ _ _ h => h) (Or.inl ⟨by rfl, ?hyt10⟩) hHeld ?restt10
        case hyt10 => intro w' hSw; (try dsimp only at hSw); go_simp; try with_reducible rfl
        simp only [Act.put]
        refine wpAnyF_take [20] (by kernel_rfl) (i := 11) (v := ?vt11) rfl (by kernel_rfl) (by kernel_rfl) (by kernel_rfl) (fun _ _ _ h => h) (Or.inl ⟨by rfl, ?hyt11⟩) hHeld ?restt11
        case hyt11 => intro w' hSw; (try dsimp only at hSw); go_simp; try with_reducible rfl
        simp only [Act.put]
        refine wpAnyF_take [20] (by kernel_rfl) (i := 12) (v := ?vt12) rfl (by kernel_rfl) (by kernel_rfl) (by kernel_rfl) (fun _ _ _ h => h) (Or.inl ⟨by rfl, ?hyt12⟩) hHeld ?restt12
        case hyt12 => intro w' hSw; (try dsimp only at hSw); go_simp; try with_reducible rfl
        simp only [Act.put]
        refine wpAnyF_take [20] (by kernel_rfl) (i := 14) (v := ?vt13) rfl (by kernel_rfl) (by kernel_rfl) (by kernel_rfl) (fun _ _ _ h => h) (Or.inl ⟨by rfl, ?hyt13⟩) hHeld ?restt13
        case hyt13 => intro w' hSw; (try dsimp only at hSw); go_simp; try with_reducible rfl
        simp only [Act.put]
        refine wpAnyF_take [20] (by kernel_rfl) (i := 15) (v := ?vt14) rfl (by kernel_rfl) (by kernel_rfl) (by kernel_rfl) (fun _ _ _ h => h) (Or.inl ⟨by rfl, ?hyt14⟩) hHeld ?restt14
        case hyt14 => intro w' hSw; (try dsimp only at hSw); go_simp; try with_reducible rfl
        simp only [Act.put]
        refine wpAnyF_take [20] (by kernel_rfl) (i := 16) (v := ?vt15) rfl (by kernel_rfl) (by kernel_rfl) (by kernel_rfl) (fun _ _ _ h => h) (Or.inl ⟨by rfl, ?hyt15⟩) hHeld ?restt15
        case hyt15 => intro w' hSw; (try dsimp only at hSw); go_simp; try with_reducible rfl
        simp only [Act.put]
        refine wpAnyF_take [20] (by kernel_rfl) (i := 17) (v := ?vt16) rfl (by kernel_rfl) (by kernel_rfl) (by kernel_rfl) (fun _ _ _ h => h) (Or.inl ⟨by rfl, ?hyt16⟩) hHeld ?restt16
        case hyt16 => intro w' hSw; (try dsimp only at hSw); go_simp; try with_reducible rfl
        simp only [Act.put]
        refine wpAnyF_take [20] (by kernel_rfl) (i := 18) (v := ?vt17) rfl (by kernel_rfl) (by kernel_rfl) (by kernel_rfl) (fun _ _ _ h => h) (Or.inl ⟨by rfl, ?hyt17⟩) hHeld ?restt17
        case hyt17 => intro w' hSw; (try dsimp only at hSw); go_simp; try with_reducible rfl
        simp only [Act.put]
        refine wpAnyF_ready (rs := [9]) (by kernel_rfl) (by simp) ?_
        refine AllReadyF.cons rfl (fun K hK => ?_) AllReadyF.nil
        go_simp
        refine (HCp.out _ _ _).mono ?_
        rintro e w3 ⟨rfl, hB3⟩
        dsimp only
        have HB3 := hide_ (below_to ((Below.refl w2.heap.size w2).drew) hB3)
        clear hB3
        refine hK.out _ _ (HSS.out _ HB3.out) (fun hHeld => ?_)
        clear hK K
        refine wpAnyF_ready (rs := [13]) (by kernel_rfl) (by simp) ?_
        refine AllReadyF.cons rfl (fun K hK => ?_) AllReadyF.nil
        go_simp
        refine (HCp.out _ _ _).mono ?_
        rintro e w4 ⟨rfl, hB4⟩
        dsimp only
        have HB4 := hide_ (below_to HB3.out hB4)
        clear hB4
        refine hK.out _ _ (HSS.out _ HB4.out) (fun hHeld => ?_)
        clear hK K
        refine wpAnyF_take [20] (by kernel_rfl) (i := 19) (v := ?vt18) rfl (by kernel_rfl) (by kernel_rfl) (by kernel_rfl) (fun _ _ _ h => h) (Or.inl ⟨by rfl, ?hyt18⟩) hHeld ?restt18
        case hyt18 => intro w' hSw; (try dsimp only at hSw); go_simp; try with_reducible rfl
        simp only [Act.put]
        refine wpAnyF_ready (rs := [20]) (by kernel_rfl) (by simp) ?_
        refine AllReadyF.last rfl (fun K hK => ?_)
        have k3 := (K12.out.later HB4.out)
        have HK := hide_ (wr4 k3 (.bool yf) (.int .i64 (plus2 L pl)) (.int .i64 (plus2 M pm)) (.int .i64 dn))
        have HBf := hide_ (below_wr4 (below_to HB2.out HB4.out) g12 (by have := HG12.out; omega) (.bool yf) (.int .i64 (plus2 L pl)) (.int .i64 (plus2 M pm)) (.int .i64 dn))
        have l0 := k3.cell 0; have l1 := k3.cell 1; have l2 := k3.cell 2; have l3 := k3.cell 3
        have lf := fun i => k3.frozen i
        simp at l0 l1 l2 l3
        clear k3
        go_simp
        refine hK.out _ _ ?_
        clear hK K
        refine wpAnyF_done (by kernel_rfl) ?_ _
        go_wp2_with fail
        go_roundw
        case rel => exact ⟨i + 1, _, _, _, _, by omega, by go_num, HRs, HDs, by omega, by omega, HK, HBf⟩
        case measure => simp [intOf]; omega
      | false =>
        have HRs : Hid ((false, plus2 L pl, plus2 M pm) = rowX (Y.take (i + 1))) := hide_ (by rw [HRs0.out]; simp)
        have HSS : Hid (∀ w', Below w2.heap.size w2 w' → (fun w' => Below w2.heap.size w2 w' ∧ w'.cell? ⟨g12, 0, none⟩ = some (.bool false) ∧ w'.cell? ⟨g12, 1, none⟩ = some (.int .i64 L) ∧ w'.cell? ⟨g12, 2, none⟩ = some (.int .i64 M) ∧ w'.cell? ⟨g12, 3, none⟩ = some (.int .i64 D) ∧ w'.cell? ⟨wq.heap.size, 0, none⟩ = some (.bool yf) ∧ w'.cell? ⟨wq.heap.size, 3, none⟩ = some (.int .i64 yd)) w') := hide_ (fun w' hB' => ⟨hB', (K12.out.later hB').cell 0, (K12.out.later hB').cell 1, (K12.out.later hB').cell 2, (K12.out.later hB').cell 3, (KA.out.later hB').cell 0, (KA.out.later hB').cell 3⟩)
        clear HRs0
        go_wp2_with fail
        refine wp_region_last 20 (fun w' => Below w2.heap.size w2 w' ∧ w'.cell? ⟨g12, 0, none⟩ = some (.bool false) ∧ w'.cell? ⟨g12, 1, none⟩ = some (.int .i64 L) ∧ w'.cell? ⟨g12, 2, none⟩ = some (.int .i64 M) ∧ w'.cell? ⟨g12, 3, none⟩ = some (.int .i64 D) ∧ w'.cell? ⟨wq.heap.size, 0, none⟩ = some (.bool yf) ∧ w'.cell? ⟨wq.heap.size, 3, none⟩ = some (.int .i64 yd)) (by kernel_rfl) (HSS.out _ ((Below.refl w2.heap.size w2).drew)) (fun hHeld => ?_)
        refine wpAnyF_take [20] (by kernel_rfl) (i := 0) (v := ?ve1) rfl (by kernel_rfl) (by kernel_rfl) (by kernel_rfl) (fun _ _ _ h => h) (Or.inl ⟨by rfl, ?hye1⟩) hHeld ?reste1
        case hye1 => intro w' hSw; (try dsimp only at hSw); go_simp; try with_reducible rfl
        simp only [Act.put]
        refine wpAnyF_take [20] (by kernel_rfl) (i := 1) (v := ?ve2) rfl (by kernel_rfl) (by kernel_rfl) (by kernel_rfl) (fun _ _ _ h => h) (Or.inl ⟨by rfl, ?hye2⟩) hHeld ?reste2
        case hye2 => intro w' hSw; (try dsimp only at hSw); go_simp; try with_reducible rfl
        simp only [Act.put]
        refine wpAnyF_take [20] (by kernel_rfl) (i := 2) (v := ?ve3) rfl (by kernel_rfl) (by kernel_rfl) (by kernel_rfl) (fun _ _ _ h => h) (Or.inl ⟨by rfl, ?hye3⟩) hHeld ?reste3
        case hye3 => intro w' hSw; (try dsimp only at hSw); go_simp; try with_reducible rfl
        simp only [Act.put]
        refine wpAnyF_take [20] (by kernel_rfl) (i := 3) (v := undef) rfl (by kernel_rfl) (by kernel_rfl) (by kernel_rfl) (fun _ _ _ h => h) (Or.inr ⟨by rfl, rfl⟩) hHeld ?_
        simp only [Act.put]
        refine wpAnyF_take [20] (by kernel_rfl) (i := 4) (v := undef) rfl (by kernel_rfl) (by kernel_rfl) (by kernel_rfl) (fun _ _ _ h => h) (Or.inr ⟨by rfl, rfl⟩) hHeld ?_
        simp only [Act.put]
        refine wpAnyF_take [20] (by kernel_rfl) (i := 5) (v := ?ve4) rfl (by kernel_rfl) (by kernel_rfl) (by kernel_rfl) (fun _ _ _ h => h) (Or.inl ⟨by rfl, ?hye4⟩) hHeld ?reste4
        case hye4 => intro w' hSw; (try dsimp only at hSw); go_simp; try with_reducible rfl
        simp only [Act.put]
        refine wpAnyF_take [20] (by kernel_rfl) (i := 6) (v := ?ve5) rfl (by kernel_rfl) (by kernel_rfl) (by kernel_rfl) (fun _ _ _ h => h) (Or.inl ⟨by rfl, ?hye5⟩) hHeld ?reste5
        case hye5 => intro w' hSw; (try dsimp only at hSw); go_simp; try with_reducible rfl
        simp only [Act.put]
        refine wpAnyF_take [20] (by kernel_rfl) (i := 7) (v := ?ve6) rfl (by kernel_rfl) (by kernel_rfl) (by kernel_rfl) (fun _ _ _ h => h) (Or.inl ⟨by rfl, ?hye6⟩) hHeld ?reste6
        case hye6 => intro w' hSw; (try dsimp only at hSw); go_simp; try with_reducible rfl
        simp only [Act.put]
        refine wpAnyF_take [20] (by kernel_rfl) (i := 8) (v := ?ve7) rfl (by kernel_rfl) (by kernel_rfl) (by kernel_rfl) (fun _ _ _ h => h) (Or.inl ⟨by rfl, ?hye7⟩) hHeld ?reste7
        case hye7 => intro w' hSw; (try dsimp only at hSw); go_simp; try with_reducible rfl
        simp only [Act.put]
        refine wpAnyF_take [20] (by kernel_rfl) (i := 10) (v := ?ve8) rfl (by kernel_rfl) (by kernel_rfl) (by kernel_rfl) (fun _ _ _ h => h) (Or.inl ⟨by rfl, ?hye8⟩) hHeld ?reste8
        case hye8 => intro w' hSw; (try dsimp only at hSw); go_simp; try with_reducible rfl
        simp only [Act.put]
        refine wpAnyF_take [20] (by kernel_rfl) (i := 11) (v := ?ve9) rfl (by kernel_rfl) (by kernel_rfl) (by kernel_rfl) (fun _ _ _ h => h) (Or.inl ⟨by rfl, ?hye9⟩) hHeld ?reste9
        case hye9 => intro w' hSw; (try dsimp only at hSw); go_simp; try with_reducible rfl
        simp only [Act.put]
        refine wpAnyF_take [20] (by kernel_rfl) (i := 12) (v := ?ve10) rfl (by kernel_rfl) (by kernel_rfl) (by kernel_rfl) (fun _ _ _ h => h) (Or.inl ⟨by rfl, ?hye10⟩) hHeld ?reste10
        case hye10 => intro w' hSw; (try dsimp only at hSw); go_simp; try with_reducible rfl
        simp only [Act.put]
        refine wpAnyF_take [20] (by kernel_rfl) (i := 14) (v := ?ve11) rfl (by kernel_rfl) (by kernel_rfl) (by kernel_rfl) (fun _ _ _ h => h) (Or.inl ⟨by rfl, ?hye11⟩) hHeld ?reste11
        case hye11 => intro w' hSw; (try dsimp only at hSw); go_simp; try with_reducible rfl
        simp only [Act.put]
        refine wpAnyF_take [20] (by kernel_rfl) (i := 15) (v := ?ve12) rfl (by kernel_rfl) (by kernel_rfl) (by kernel_rfl) (fun _ _ _ h => h) (Or.inl ⟨by rfl, ?hye12⟩) hHeld ?reste12
        case hye12 => intro w' hSw; (try dsimp only at hSw); go_simp; try with_reducible rfl
        simp only [Act.put]
        refine wpAnyF_take [20] (by kernel_rfl) (i := 16) (v := ?ve13) rfl (by kernel_rfl) (by kernel_rfl) (by kernel_rfl) (fun _ _ _ h => h) (Or.inl ⟨by rfl, ?hye13⟩) hHeld ?reste13
        case hye13 => intro w' hSw; (try dsimp only at hSw); go_simp; try with_reducible rfl
        simp only [Act.put]
        refine wpAnyF_take [20] (by kernel_rfl) (i := 17) (v := ?ve14) rfl (by kernel_rfl) (by kernel_rfl) (by kernel_rfl) (fun _ _ _ h => h) (Or.inl ⟨by rfl, ?hye14⟩) hHeld ?reste14
        case hye14 => intro w' hSw; (try dsimp only at hSw); go_simp; try with_reducible rfl
        simp only [Act.put]
        refine wpAnyF_take [20] (by kernel_rfl) (i := 18) (v := ?ve15) rfl (by kernel_rfl) (by kernel_rfl) (by kernel_rfl) (fun _ _ _ h => h) (Or.inl ⟨by rfl, ?hye15⟩) hHeld ?reste15
        case hye15 => intro w' hSw; (try dsimp only at hSw); go_simp; try with_reducible rfl
        simp only [Act.put]
        refine wpAnyF_ready (rs := [9]) (by kernel_rfl) (by simp) ?_
        refine AllReadyF.cons rfl (fun K hK => ?_) AllReadyF.nil
        go_simp
        refine (HCp.out _ _ _).mono ?_
        rintro e w3 ⟨rfl, hB3⟩
        dsimp only
        have HB3 := hide_ (below_to ((Below.refl w2.heap.size w2).drew) hB3)
        clear hB3
        refine hK.out _ _ (HSS.out _ HB3.out) (fun hHeld => ?_)
        clear hK K
        refine wpAnyF_ready (rs := [13]) (by kernel_rfl) (by simp) ?_
        refine AllReadyF.cons rfl (fun K hK => ?_) AllReadyF.nil
        go_simp
        refine (HCp.out _ _ _).mono ?_
        rintro e w4 ⟨rfl, hB4⟩
        dsimp only
        have HB4 := hide_ (below_to HB3.out hB4)
        clear hB4
        refine hK.out _ _ (HSS.out _ HB4.out) (fun hHeld => ?_)
        clear hK K
        refine wpAnyF_take [20] (by kernel_rfl) (i := 19) (v := ?ve16) rfl (by kernel_rfl) (by kernel_rfl) (by kernel_rfl) (fun _ _ _ h => h) (Or.inl ⟨by rfl, ?hye16⟩) hHeld ?reste16
        case hye16 => intro w' hSw; (try dsimp only at hSw); go_simp; try with_reducible rfl
        simp only [Act.put]
        refine wpAnyF_ready (rs := [20]) (by kernel_rfl) (by simp) ?_
        refine AllReadyF.last rfl (fun K hK => ?_)
        have k3 := (K12.out.later HB4.out)
        have HK := hide_ (wr4 k3 (.bool false) (.int .i64 (plus2 L pl)) (.int .i64 (plus2 M pm)) (.int .i64 dn))
        have HBf := hide_ (below_wr4 (below_to HB2.out HB4.out) g12 (by have := HG12.out; omega) (.bool false) (.int .i64 (plus2 L pl)) (.int .i64 (plus2 M pm)) (.int .i64 dn))
        have l0 := k3.cell 0; have l1 := k3.cell 1; have l2 := k3.cell 2; have l3 := k3.cell 3
        have lf := fun i => k3.frozen i
        simp at l0 l1 l2 l3
        clear k3
        go_simp
        refine hK.out _ _ ?_
        clear hK K
        refine wpAnyF_done (by kernel_rfl) ?_ _
        go_wp2_with fail
        go_roundw
        case rel => exact ⟨i + 1, _, _, _, _, by omega, by go_num, HRs, HDs, by omega, by omega, HK, HBf⟩
        case measure => simp [intOf]; omega
    · have hlt' : ¬ (i : Int) < ps.length := by omega
      have HV : Hid ((⟨(rowX Y).1, (rowX Y).2.1, (rowX Y).2.2, 1 + deepX Y⟩ : Ex) = ⟨f, L, M, D + 1⟩) := hide_ (by
        have h1 := HC.out; have h2 := HD.out
        rw [List.take_of_length_le (by have := HKl.out; omega)] at h1 h2
        rw [← h1, ← h2]
        simp only
        rw [Int.add_comm])
      have hw1 : wrap64 (D + 1) = D + 1 := w64 _ (by omega)
      have k9 := K9.out.set 3 (.int .i64 (D + 1))
      simp only [List.set_cons_succ, List.set_cons_zero] at k9
      have hg12 := HG12.out
      have hlt1 := K2.out.lt
      have hne : w.heap.size + 1 ≠ g12 := by omega
      have k2 := (K2.out.later HB1.out).other ⟨g12, 3, none⟩ (.int .i64 (D + 1)) hne
      obtain ⟨wz, hwz⟩ : ∃ wx, wx = wq.setCell ⟨g12, 3, none⟩ (.int .i64 (D + 1)) := ⟨_, rfl⟩
      have HBz : Hid (Below w0.heap.size w0 wz) := hide_ (by rw [hwz]; exact below_set HB1.out _ _ _ (by omega))
      rw [← hwz] at k9 k2
      have HK := hide_ (wr4 k2 (.bool f) (.int .i64 L) (.int .i64 M) (.int .i64 (D + 1)))
      have HBf := hide_ (below_wr4 (below_to HB.out HBz.out) (w.heap.size + 1) (by omega) (.bool f) (.int .i64 L) (.int .i64 M) (.int .i64 (D + 1)))
      have q3 := K9.out.cell 3
      have qf := K9.out.frozen 3
      have l0 := k9.cell 0; have l1 := k9.cell 1; have l2 := k9.cell 2; have l3 := k9.cell 3
      have n0 := k2.cell 0; have n1 := k2.cell 1; have n2 := k2.cell 2; have n3 := k2.cell 3
      have nf := fun i => k2.frozen i
      simp at q3 l0 l1 l2 l3 n0 n1 n2 n3
      clear k9 k2 hg12 hlt1 hne
      go_upto_region 27 with fail
      rw [← hwz]
      clear hwz
      go_wp2
      exact retX (x := ⟨f, L, M, D + 1⟩) rfl rfl HK.out ⟨by rw [HV.out], HBf.out⟩
end Go.Proofs.Ytncndgfaalojpaa
/- The document's Check of a schema (mortiseref09): in, parts. -/
namespace Go.Proofs.Ytncndgfaalojpaa
open Go.RowKit
set_option linter.unusedVariables false

def inR (n lo hi : Int) : Bool := decide (lo ≤ n) && decide (n ≤ hi)
set_option maxRecDepth 100000 in
set_option maxHeartbeats 4000000 in
theorem inR_any (n lo hi : Int) (w : World) : Calls Try.prog 32 #[.int .i64 n, .int .i64 lo, .int .i64 hi] w fun e w' => e = .returned (.bool (inR n lo hi)) ∧ w = w' := by
  unfold inR
  go_enter Try.func32, Try.ntmps32
  by_cases h0 : lo ≤ n
  · by_cases h1 : n ≤ hi
    · go_wp2; go_ret; exact ⟨by simp [h0, h1], rfl⟩
    · go_wp2; go_ret; exact ⟨by simp; omega, rfl⟩
  · go_wp2; go_ret; exact ⟨by simp; omega, rfl⟩
theorem inR_at (n : Int) (i : Int) : inR n 0 (i - 1) = inB n i := by
  unfold inR inB
  rw [← Bool.decide_and]
  exact decide_eq_decide.2 (by omega)
theorem thereP_take {ps : List Pt} {j m : Nat} {q p : Pt} (hq : ps[j]? = some q) (hj : j < m) (h : likeP q p = true) : thereP (ps.take m) p = true := by
  unfold thereP
  rw [List.any_eq_true]
  refine ⟨q, ?_, h⟩
  refine List.mem_of_getElem? (i := j) ?_
  rw [List.getElem?_take, if_pos hj]
  exact hq
theorem thereP_none {ps : List Pt} {m : Nat} {p : Pt} (h : ∀ (j : Nat) (q : Pt), j < m → ps[j]? = some q → likeP q p = false) : thereP (ps.take m) p = false := by
  unfold thereP
  rw [List.any_eq_false]
  intro q hq
  obtain ⟨j, hj⟩ := List.getElem?_of_mem hq
  rw [List.getElem?_take] at hj
  split at hj
  · rename_i hjm
    rw [h j q hjm hj]
    decide
  · cases hj
theorem armOk_eq (p : Pt) : armOk p = (decide (p.label = ⟨#[]⟩) && (decide (0 ≤ p.tag) && decide (p.tag ≤ 255))) := by
  unfold armOk
  simp [Bool.decide_and]
set_option maxRecDepth 100000 in
set_option maxHeartbeats 8000000 in
theorem partsR8_any (n el : Int) (ps : List Pt) (va : Option Addr) (vc : Nat) (i : Nat) (w : World) (hil : i ≤ 9223372036854775806) (hr : Hid (PRow w va ps)) :
    Calls Try.prog 56 #[.agg #[.int .i64 8, .int .i64 n, .int .i64 el, .slice va ps.length vc], .int .i64 (i : Int)] w fun e w' => e = .returned (.bool (allP fieldOk ps i)) ∧ Below w.heap.size w w' := by
  have hB := below1 w (.cells #[.int .i64 8, .int .i64 n, .int .i64 el, .slice va ps.length vc] 43)
  have kx := Blk.newA w #[.int .i64 8, .int .i64 n, .int .i64 el, .slice va ps.length vc] 43
  obtain ⟨w0, hw0⟩ : ∃ wx, wx = w.alloc (.cells #[.int .i64 8, .int .i64 n, .int .i64 el, .slice va ps.length vc] 43) := ⟨_, rfl⟩
  rw [← hw0] at hB kx
  have HB0 := hide_ hB
  have KX := hide_ kx
  have HR0 := hide_ (hr.out.later hB)
  have hwi : wrap64 ((i : Int) - 1) = (i : Int) - 1 := w64 _ (by omega)
  have i0 := kx.cell 0; have i3 := kx.cell 3
  simp at i0 i3
  clear hB kx hr
  have HIl : Hid (∀ w, Calls Try.prog 32 #[.int .i64 (ps.length : Int), .int .i64 1, .int .i64 64] w fun e w' => e = .returned (.bool (decide (0 < ps.length ∧ ps.length ≤ 64))) ∧ w = w') := hide_ (fun w => by
    have h := inR_any (ps.length : Int) 1 64 w
    rw [show inR (ps.length : Int) 1 64 = decide (0 < ps.length ∧ ps.length ≤ 64) by unfold inR; rw [← Bool.decide_and]; exact decide_eq_decide.2 (by omega)] at h
    exact h)
  go_enter Try.func56, Try.ntmps56
  go_upto_region 1 with fail
  rw [← hw0]
  clear hw0
  by_cases hl : 0 < ps.length ∧ ps.length ≤ 64
  · rw [decide_eq_true hl] at HIl
    go_wp2_with (go_at_call 32; refine (HIl.out _).mono ?_; rintro e w' ⟨rfl, rfl⟩)
    go_loopw [6] (fun x6 wr => ∃ m : Nat, m ≤ ps.length ∧ x6 = .int .i64 (m : Int) ∧ Hid (∀ j, j < m → okP fieldOk ps i j = true) ∧ Hid (Below w0.heap.size w0 wr)) (fun x6 _ => ps.length - (intOf x6).toNat)
    case atStart => exact ⟨0, Nat.zero_le _, rfl, hide_ (fun j hj => by omega), hide_ (Below.refl _ _)⟩
    case round =>
      obtain ⟨m, hm, rfl, HA, HB⟩ := hrel
      generalize wr = wq at *
      clear i0 i3
      have KXq := hide_ (KX.out.later HB.out)
      have i0 := KXq.out.cell 0; have i3 := KXq.out.cell 3
      simp at i0 i3
      by_cases hlt : m < ps.length
      · have hlt' : (m : Int) < ps.length := by omega
        have HRq := hide_ (HR0.out.later HB.out)
        obtain ⟨b, off, rfl, hb, hc⟩ := HRq.out.open (by omega)
        have hx : ps[m]? = some (ps[m]'hlt) := List.getElem?_eq_getElem hlt
        have hcx := hc m _ hx
        have HX := hide_ hx
        generalize ps[m]'hlt = p at *
        have j0 := hcx 0 (by decide); have j1 := hcx 1 (by decide); have j2 := hcx 2 (by decide)
        simp [ptc] at j0 j1 j2
        have HOK := hide_ (okP_at (r := fieldOk) (m := (i : Int)) HX.out)
        have kp := Blk.newA wq #[.string p.label, .int .i64 p.tag, .int .i64 p.ty] 58
        have hBx := below1 wq (.cells #[.string p.label, .int .i64 p.tag, .int .i64 p.ty] 58)
        obtain ⟨wx, hwx⟩ : ∃ wx, wx = wq.alloc (.cells #[.string p.label, .int .i64 p.tag, .int .i64 p.ty] 58) := ⟨_, rfl⟩
        rw [← hwx] at kp hBx
        have HBx := hide_ (below_to HB.out hBx)
        have HBf := hide_ (below_to HB0.out HBx.out)
        have KP := hide_ kp
        have KXx := hide_ (KXq.out.later hBx)
        have HRx := hide_ (HRq.out.later hBx)
        clear kp hBx hc hx hcx hb HRq
        go_upto_region 10 with fail
        rw [← hwx]
        clear hwx i0 i3 j0 j1 j2
        have i0 := KXx.out.cell 0; have i3 := KXx.out.cell 3
        have j0 := KP.out.cell 0; have j1 := KP.out.cell 1; have j2 := KP.out.cell 2
        simp at i0 i3 j0 j1 j2
        obtain ⟨b3, hb3⟩ : ∃ x, inB p.ty i = x := ⟨_, rfl⟩
        obtain ⟨b1, hb1⟩ : ∃ x, fieldOk p = x := ⟨_, rfl⟩
        rw [hb3, hb1] at HOK
        have HI3 : Hid (∀ w, Calls Try.prog 32 #[.int .i64 p.ty, .int .i64 0, .int .i64 ((i : Int) - 1)] w fun e w' => e = .returned (.bool b3) ∧ w = w') := hide_ (fun w => by
          have h := inR_any p.ty 0 ((i : Int) - 1) w
          rwa [inR_at, hb3] at h)
        have HB1 := hide_ hb1
        clear hb1 hb3
        cases b3 with
        | false =>
          have HV : Hid (allP fieldOk ps i = false) := hide_ (allP_not hlt (by rw [HOK.out]; simp))
          go_wp2_with (go_at_call 32; refine (HI3.out _).mono ?_; rintro e w' ⟨rfl, rfl⟩)
          go_ret
          exact ⟨by rw [HV.out]; rfl, HBf.out⟩
        | true =>
        go_upto_region 12 with (go_at_call 32; refine (HI3.out _).mono ?_; rintro e w' ⟨rfl, rfl⟩)
        clear HI3
        obtain ⟨nm, hnm⟩ : ∃ x, isName p.label = x := ⟨_, rfl⟩
        have HNm : Hid (∀ w, Calls Try.prog 31 #[.string p.label] w fun e w' => e = .returned (.bool nm) ∧ w = w') := hide_ (fun w => by have h := nameD_any p.label w; rwa [hnm] at h)
        have HNM := hide_ hnm
        clear hnm
        cases nm with
        | false =>
          have HV : Hid (allP fieldOk ps i = false) := hide_ (allP_not hlt (by rw [HOK.out, ← HB1.out]; simp [fieldOk, HNM.out]))
          go_wp2_with (go_at_call 31; refine (HNm.out _).mono ?_; rintro e w' ⟨rfl, rfl⟩)
          go_ret
          exact ⟨by rw [HV.out]; rfl, HBf.out⟩
        | true =>
        by_cases htg : p.tag = 0
        · have hb0 : (p.tag != 0) = false := by simp [htg]
          obtain rfl : true = b1 := by rw [← HB1.out]; simp [fieldOk, HNM.out, htg]
          go_wp2_with (go_at_call 31; refine (HNm.out _).mono ?_; rintro e w' ⟨rfl, rfl⟩)
          clear i0 j2
          go_loopw [8] (fun x8 wr => ∃ j : Nat, j ≤ m ∧ x8 = .int .i64 (j : Int) ∧ Hid (∀ (q : Nat) (z : Pt), q < j → ps[q]? = some z → likeP z p = false) ∧ Hid (Below wx.heap.size wx wr)) (fun x8 _ => m - (intOf x8).toNat)
          case atStart => exact ⟨0, Nat.zero_le _, rfl, hide_ (fun q z hq => by omega), hide_ (Below.refl _ _)⟩
          case round =>
            obtain ⟨j, hj, rfl, HJ, HBj⟩ := hrel
            generalize wr = wp at *
            clear i3 j0 j1
            have i3 := (KXx.out.later HBj.out).cell 3
            have kq := KP.out.later HBj.out
            have j0 := kq.cell 0; have j1 := kq.cell 1
            simp at i3 j0 j1
            clear kq
            by_cases hjm : j < m
            · have hjm' : (j : Int) < m := by omega
              have hjl : j < ps.length := by omega
              have hjl' : (j : Int) < ps.length := by omega
              obtain ⟨b', off', hax, -, hc⟩ := (HRx.out.later HBj.out).open (by omega)
              injection hax with hax
              injection hax with e1 e2 _
              subst e1 e2
              have hx : ps[j]? = some (ps[j]'hjl) := List.getElem?_eq_getElem hjl
              have hcx := hc j _ hx
              have HXj := hide_ hx
              generalize ps[j]'hjl = z at *
              have z0 := hcx 0 (by decide); have z1 := hcx 1 (by decide)
              simp [ptc] at z0 z1
              clear hc hx hcx
              have HJn : Hid (likeP z p = false → ∀ (q : Nat) (y : Pt), q < j + 1 → ps[q]? = some y → likeP y p = false) := hide_ (fun hl q y hq hy => by
                rcases Nat.lt_or_ge q j with h | h
                · exact HJ.out q y h hy
                · obtain rfl : q = j := by omega
                  rw [HXj.out] at hy
                  injection hy with hy
                  subst hy
                  exact hl)
              by_cases he : z.label = p.label
              · have hs : (z.label.toList == p.label.toList) = true := by rw [he]; simp
                by_cases ht : z.tag = p.tag
                · have hb : (z.tag == p.tag) = true := by simp [ht]
                  have HV : Hid (allP fieldOk ps i = false) := hide_ (allP_not hlt (by rw [HOK.out, thereP_take HXj.out hjm (by simp [likeP, he, ht])]; simp))
                  clear he ht
                  go_wp2_with fail
                  go_quiet (fail)
                  have HBq := hide_ (below_to HBf.out (below_drewN HBj.out nq))
                  go_wp2
                  go_ret
                  exact ⟨by rw [HV.out]; rfl, HBq.out⟩
                · have hb : (z.tag == p.tag) = false := by simpa using ht
                  have HJ2 := hide_ (HJn.out (by simp [likeP, ht]))
                  clear he ht
                  go_wp2_with fail
                  go_quiet (fail)
                  have HBq := hide_ (below_drewN HBj.out nq)
                  go_wp2_with fail
                  go_roundw
                  case rel => exact ⟨j + 1, by omega, by go_num, HJ2, HBq⟩
                  case measure => simp [intOf]; omega
              · have hs : (z.label.toList == p.label.toList) = false := by rw [str_eq]; exact decide_eq_false he
                have HJ2 := hide_ (HJn.out (by simp [likeP, he]))
                clear he
                go_wp2_with fail
                go_quiet (fail)
                have HBq := hide_ (below_drewN HBj.out nq)
                go_wp2_with fail
                go_roundw
                case rel => exact ⟨j + 1, by omega, by go_num, HJ2, HBq⟩
                case measure => simp [intOf]; omega
            · obtain rfl : j = m := by omega
              have HA2 : Hid (∀ q, q < j + 1 → okP fieldOk ps i q = true) := hide_ (fun q hq => by
                rcases Nat.lt_or_ge q j with h | h
                · exact HA.out q h
                · obtain rfl : q = j := by omega
                  rw [HOK.out, thereP_none HJ.out]; rfl)
              have HBn := hide_ (below_to HBx.out HBj.out)
              go_wp2_with fail
              go_roundw
              case rel => exact ⟨j + 1, by omega, by go_num, HA2, HBn⟩
              case measure => simp [intOf]; omega
        · have hb0 : (p.tag != 0) = true := by simpa using htg
          have HV : Hid (allP fieldOk ps i = false) := hide_ (allP_not hlt (by rw [HOK.out, ← HB1.out]; simp [fieldOk, htg]))
          go_wp2_with (go_at_call 31; refine (HNm.out _).mono ?_; rintro e w' ⟨rfl, rfl⟩)
          go_ret
          exact ⟨by rw [HV.out]; rfl, HBf.out⟩
      · obtain rfl : m = ps.length := by omega
        have HV : Hid (allP fieldOk ps i = true) := hide_ (allP_of hl.1 hl.2 HA.out)
        go_wp2
        go_ret
        exact ⟨by rw [HV.out]; rfl, below_to HB0.out HB.out⟩
  · have HV : Hid (allP fieldOk ps i = false) := hide_ (allP_len hl)
    rw [decide_eq_false hl] at HIl
    go_wp2_with (go_at_call 32; refine (HIl.out _).mono ?_; rintro e w' ⟨rfl, rfl⟩)
    go_ret
    exact ⟨by rw [HV.out]; rfl, HB0.out⟩
end Go.Proofs.Ytncndgfaalojpaa
/- The document's Check of a schema: right. -/
namespace Go.Proofs.Ytncndgfaalojpaa
open Go.RowKit
set_option linter.unusedVariables false

set_option maxRecDepth 100000 in
set_option maxHeartbeats 8000000 in
theorem right1_any (n el : Int) (ps : List Pt) (va : Option Addr) (vc : Nat) (i : Nat) (w : World) (hil : i ≤ 9223372036854775806) (hr : Hid (PRow w va ps)) :
    Calls Try.prog 29 #[.agg #[.int .i64 1, .int .i64 n, .int .i64 el, .slice va ps.length vc], .int .i64 (i : Int)] w fun e w' => e = .returned (.bool (tyOk ⟨1, n, el, ps⟩ i)) ∧ Below w.heap.size w w' := by
  have hB := below1 w (.cells #[.int .i64 1, .int .i64 n, .int .i64 el, .slice va ps.length vc] 43)
  have kx := Blk.newA w #[.int .i64 1, .int .i64 n, .int .i64 el, .slice va ps.length vc] 43
  obtain ⟨w0, hw0⟩ : ∃ wx, wx = w.alloc (.cells #[.int .i64 1, .int .i64 n, .int .i64 el, .slice va ps.length vc] 43) := ⟨_, rfl⟩
  rw [← hw0] at hB kx
  have HB := hide_ hB
  have HR := hide_ (hr.out.later hB)
  have i0 := kx.cell 0; have i1 := kx.cell 1; have i2 := kx.cell 2; have i3 := kx.cell 3
  simp at i0 i1 i2 i3
  have hwi : wrap64 ((i : Int) - 1) = (i : Int) - 1 := w64 _ (by omega)
  have HL : Hid (((ps.length : Int) == 0) = decide (ps.length = 0)) := hide_ (by
    by_cases h : ps.length = 0
    · simp [h]
    · have h2 : ((ps.length : Int) == 0) = false := by
        have h : ¬ (ps.length : Int) = 0 := by omega
        simpa using h
      rw [h2, decide_eq_false h])
  clear hB kx hr
  go_enter Try.func29, Try.ntmps29
  go_upto_region 1 with fail
  rw [← hw0]
  clear hw0
  by_cases n1 : n = 1
  · subst n1
    by_cases he : el = 0
    · subst he
      have HV : Hid (tyOk ⟨1, 1, 0, ps⟩ i = decide (ps.length = 0)) := hide_ (by simp [tyOk, nOk, elemOk, hasE, partsOk])
      go_wp2
      go_ret
      exact ⟨by rw [HV.out, ← HL.out]; rfl, HB.out⟩
    · have he' : (el == 0) = false := by simpa using he
      have HV : Hid (tyOk ⟨1, 1, el, ps⟩ i = false) := hide_ (by simp [tyOk, nOk, elemOk, hasE, partsOk, he])
      go_wp2
      go_ret
      exact ⟨by rw [HV.out]; rfl, HB.out⟩
  have d1 : (n == 1) = false := by simpa using n1
  by_cases n2 : n = 2
  · subst n2
    by_cases he : el = 0
    · subst he
      have HV : Hid (tyOk ⟨1, 2, 0, ps⟩ i = decide (ps.length = 0)) := hide_ (by simp [tyOk, nOk, elemOk, hasE, partsOk])
      go_wp2
      go_ret
      exact ⟨by rw [HV.out, ← HL.out]; rfl, HB.out⟩
    · have he' : (el == 0) = false := by simpa using he
      have HV : Hid (tyOk ⟨1, 2, el, ps⟩ i = false) := hide_ (by simp [tyOk, nOk, elemOk, hasE, partsOk, he])
      go_wp2
      go_ret
      exact ⟨by rw [HV.out]; rfl, HB.out⟩
  have d2 : (n == 2) = false := by simpa using n2
  by_cases n4 : n = 4
  · subst n4
    by_cases he : el = 0
    · subst he
      have HV : Hid (tyOk ⟨1, 4, 0, ps⟩ i = decide (ps.length = 0)) := hide_ (by simp [tyOk, nOk, elemOk, hasE, partsOk])
      go_wp2
      go_ret
      exact ⟨by rw [HV.out, ← HL.out]; rfl, HB.out⟩
    · have he' : (el == 0) = false := by simpa using he
      have HV : Hid (tyOk ⟨1, 4, el, ps⟩ i = false) := hide_ (by simp [tyOk, nOk, elemOk, hasE, partsOk, he])
      go_wp2
      go_ret
      exact ⟨by rw [HV.out]; rfl, HB.out⟩
  have d4 : (n == 4) = false := by simpa using n4
  by_cases n8 : n = 8
  · subst n8
    by_cases he : el = 0
    · subst he
      have HV : Hid (tyOk ⟨1, 8, 0, ps⟩ i = decide (ps.length = 0)) := hide_ (by simp [tyOk, nOk, elemOk, hasE, partsOk])
      go_wp2
      go_ret
      exact ⟨by rw [HV.out, ← HL.out]; rfl, HB.out⟩
    · have he' : (el == 0) = false := by simpa using he
      have HV : Hid (tyOk ⟨1, 8, el, ps⟩ i = false) := hide_ (by simp [tyOk, nOk, elemOk, hasE, partsOk, he])
      go_wp2
      go_ret
      exact ⟨by rw [HV.out]; rfl, HB.out⟩
  have d8 : (n == 8) = false := by simpa using n8
  have HV : Hid (tyOk ⟨1, n, el, ps⟩ i = false) := hide_ (by simp [tyOk, nOk, elemOk, hasE, partsOk, n1, n2, n4, n8])
  go_wp2
  go_ret
  exact ⟨by rw [HV.out]; rfl, HB.out⟩
end Go.Proofs.Ytncndgfaalojpaa
/- The document's Check of a schema: right. -/
namespace Go.Proofs.Ytncndgfaalojpaa
open Go.RowKit
set_option linter.unusedVariables false

set_option maxRecDepth 100000 in
set_option maxHeartbeats 8000000 in
theorem right2_any (n el : Int) (ps : List Pt) (va : Option Addr) (vc : Nat) (i : Nat) (w : World) (hil : i ≤ 9223372036854775806) (hr : Hid (PRow w va ps)) :
    Calls Try.prog 29 #[.agg #[.int .i64 2, .int .i64 n, .int .i64 el, .slice va ps.length vc], .int .i64 (i : Int)] w fun e w' => e = .returned (.bool (tyOk ⟨2, n, el, ps⟩ i)) ∧ Below w.heap.size w w' := by
  have hB := below1 w (.cells #[.int .i64 2, .int .i64 n, .int .i64 el, .slice va ps.length vc] 43)
  have kx := Blk.newA w #[.int .i64 2, .int .i64 n, .int .i64 el, .slice va ps.length vc] 43
  obtain ⟨w0, hw0⟩ : ∃ wx, wx = w.alloc (.cells #[.int .i64 2, .int .i64 n, .int .i64 el, .slice va ps.length vc] 43) := ⟨_, rfl⟩
  rw [← hw0] at hB kx
  have HB := hide_ hB
  have HR := hide_ (hr.out.later hB)
  have i0 := kx.cell 0; have i1 := kx.cell 1; have i2 := kx.cell 2; have i3 := kx.cell 3
  simp at i0 i1 i2 i3
  have hwi : wrap64 ((i : Int) - 1) = (i : Int) - 1 := w64 _ (by omega)
  have HL : Hid (((ps.length : Int) == 0) = decide (ps.length = 0)) := hide_ (by
    by_cases h : ps.length = 0
    · simp [h]
    · have h2 : ((ps.length : Int) == 0) = false := by
        have h : ¬ (ps.length : Int) = 0 := by omega
        simpa using h
      rw [h2, decide_eq_false h])
  clear hB kx hr
  go_enter Try.func29, Try.ntmps29
  go_upto_region 1 with fail
  rw [← hw0]
  clear hw0
  by_cases hn : n = 0
  · subst hn
    by_cases he : el = 0
    · subst he
      have HV : Hid (tyOk ⟨2, 0, 0, ps⟩ i = decide (ps.length = 0)) := hide_ (by simp [tyOk, nOk, elemOk, hasE, partsOk])
      go_wp2
      go_ret
      exact ⟨by rw [HV.out, ← HL.out]; rfl, HB.out⟩
    · have he' : (el == 0) = false := by simpa using he
      have HV : Hid (tyOk ⟨2, 0, el, ps⟩ i = false) := hide_ (by simp [tyOk, nOk, elemOk, hasE, partsOk, he])
      go_wp2
      go_ret
      exact ⟨by rw [HV.out]; rfl, HB.out⟩
  · have hn' : (n == 0) = false := by simpa using hn
    have HV : Hid (tyOk ⟨2, n, el, ps⟩ i = false) := hide_ (by simp [tyOk, nOk, elemOk, hasE, partsOk, hn])
    go_wp2
    go_ret
    exact ⟨by rw [HV.out]; rfl, HB.out⟩
set_option maxRecDepth 100000 in
set_option maxHeartbeats 8000000 in
theorem right3_any (n el : Int) (ps : List Pt) (va : Option Addr) (vc : Nat) (i : Nat) (w : World) (hil : i ≤ 9223372036854775806) (hr : Hid (PRow w va ps)) :
    Calls Try.prog 29 #[.agg #[.int .i64 3, .int .i64 n, .int .i64 el, .slice va ps.length vc], .int .i64 (i : Int)] w fun e w' => e = .returned (.bool (tyOk ⟨3, n, el, ps⟩ i)) ∧ Below w.heap.size w w' := by
  have hB := below1 w (.cells #[.int .i64 3, .int .i64 n, .int .i64 el, .slice va ps.length vc] 43)
  have kx := Blk.newA w #[.int .i64 3, .int .i64 n, .int .i64 el, .slice va ps.length vc] 43
  obtain ⟨w0, hw0⟩ : ∃ wx, wx = w.alloc (.cells #[.int .i64 3, .int .i64 n, .int .i64 el, .slice va ps.length vc] 43) := ⟨_, rfl⟩
  rw [← hw0] at hB kx
  have HB := hide_ hB
  have HR := hide_ (hr.out.later hB)
  have i0 := kx.cell 0; have i1 := kx.cell 1; have i2 := kx.cell 2; have i3 := kx.cell 3
  simp at i0 i1 i2 i3
  have hwi : wrap64 ((i : Int) - 1) = (i : Int) - 1 := w64 _ (by omega)
  have HL : Hid (((ps.length : Int) == 0) = decide (ps.length = 0)) := hide_ (by
    by_cases h : ps.length = 0
    · simp [h]
    · have h2 : ((ps.length : Int) == 0) = false := by
        have h : ¬ (ps.length : Int) = 0 := by omega
        simpa using h
      rw [h2, decide_eq_false h])
  clear hB kx hr
  go_enter Try.func29, Try.ntmps29
  go_upto_region 1 with fail
  rw [← hw0]
  clear hw0
  by_cases hn : n = 0
  · subst hn
    by_cases he : el = 0
    · subst he
      have HV : Hid (tyOk ⟨3, 0, 0, ps⟩ i = decide (ps.length = 0)) := hide_ (by simp [tyOk, nOk, elemOk, hasE, partsOk])
      go_wp2
      go_ret
      exact ⟨by rw [HV.out, ← HL.out]; rfl, HB.out⟩
    · have he' : (el == 0) = false := by simpa using he
      have HV : Hid (tyOk ⟨3, 0, el, ps⟩ i = false) := hide_ (by simp [tyOk, nOk, elemOk, hasE, partsOk, he])
      go_wp2
      go_ret
      exact ⟨by rw [HV.out]; rfl, HB.out⟩
  · have hn' : (n == 0) = false := by simpa using hn
    have HV : Hid (tyOk ⟨3, n, el, ps⟩ i = false) := hide_ (by simp [tyOk, nOk, elemOk, hasE, partsOk, hn])
    go_wp2
    go_ret
    exact ⟨by rw [HV.out]; rfl, HB.out⟩
end Go.Proofs.Ytncndgfaalojpaa
/- The document's Check of a schema: right. -/
namespace Go.Proofs.Ytncndgfaalojpaa
open Go.RowKit
set_option linter.unusedVariables false

set_option maxRecDepth 100000 in
set_option maxHeartbeats 8000000 in
theorem right4_any (n el : Int) (ps : List Pt) (va : Option Addr) (vc : Nat) (i : Nat) (w : World) (hil : i ≤ 9223372036854775806) (hr : Hid (PRow w va ps)) :
    Calls Try.prog 29 #[.agg #[.int .i64 4, .int .i64 n, .int .i64 el, .slice va ps.length vc], .int .i64 (i : Int)] w fun e w' => e = .returned (.bool (tyOk ⟨4, n, el, ps⟩ i)) ∧ Below w.heap.size w w' := by
  have hB := below1 w (.cells #[.int .i64 4, .int .i64 n, .int .i64 el, .slice va ps.length vc] 43)
  have kx := Blk.newA w #[.int .i64 4, .int .i64 n, .int .i64 el, .slice va ps.length vc] 43
  obtain ⟨w0, hw0⟩ : ∃ wx, wx = w.alloc (.cells #[.int .i64 4, .int .i64 n, .int .i64 el, .slice va ps.length vc] 43) := ⟨_, rfl⟩
  rw [← hw0] at hB kx
  have HB := hide_ hB
  have HR := hide_ (hr.out.later hB)
  have i0 := kx.cell 0; have i1 := kx.cell 1; have i2 := kx.cell 2; have i3 := kx.cell 3
  simp at i0 i1 i2 i3
  have hwi : wrap64 ((i : Int) - 1) = (i : Int) - 1 := w64 _ (by omega)
  have HL : Hid (((ps.length : Int) == 0) = decide (ps.length = 0)) := hide_ (by
    by_cases h : ps.length = 0
    · simp [h]
    · have h2 : ((ps.length : Int) == 0) = false := by
        have h : ¬ (ps.length : Int) = 0 := by omega
        simpa using h
      rw [h2, decide_eq_false h])
  clear hB kx hr
  go_enter Try.func29, Try.ntmps29
  go_upto_region 1 with fail
  rw [← hw0]
  clear hw0
  obtain ⟨bn, hbn⟩ : ∃ x, inR n 1 1048576 = x := ⟨_, rfl⟩
  obtain ⟨be, hbe⟩ : ∃ x, inB el i = x := ⟨_, rfl⟩
  have HN : Hid (∀ w, Calls Try.prog 32 #[.int .i64 n, .int .i64 1, .int .i64 1048576] w fun e w' => e = .returned (.bool bn) ∧ w = w') := hide_ (fun w => by have h := inR_any n 1 1048576 w; rwa [hbn] at h)
  have HE : Hid (∀ w, Calls Try.prog 32 #[.int .i64 el, .int .i64 0, .int .i64 ((i : Int) - 1)] w fun e w' => e = .returned (.bool be) ∧ w = w') := hide_ (fun w => by have h := inR_any el 0 ((i : Int) - 1) w; rwa [inR_at, hbe] at h)
  have HBE := hide_ hbe
  have HBN : Hid ((decide (1 ≤ n) && decide (n ≤ 1048576)) = bn) := hide_ hbn
  clear hbn hbe
  have HT : Hid (tyOk ⟨4, n, el, ps⟩ i = (bn && be && decide (ps.length = 0))) := hide_ (by rw [← HBN.out, ← HBE.out]; simp [tyOk, nOk, elemOk, hasE, partsOk, Bool.decide_and])
  go_wp2_with fail
  refine (HN.out _).mono ?_; rintro e w' ⟨rfl, rfl⟩
  cases bn with
  | false =>
    go_wp2
    go_ret
    exact ⟨by rw [HT.out]; rfl, HB.out⟩
  | true =>
  go_wp2_with fail
  refine (HE.out _).mono ?_; rintro e w' ⟨rfl, rfl⟩
  cases be with
  | false =>
    go_wp2
    go_ret
    exact ⟨by rw [HT.out]; rfl, HB.out⟩
  | true =>
    go_wp2
    go_ret
    exact ⟨by rw [HT.out, ← HL.out]; rfl, HB.out⟩
set_option maxRecDepth 100000 in
set_option maxHeartbeats 8000000 in
theorem right5_any (n el : Int) (ps : List Pt) (va : Option Addr) (vc : Nat) (i : Nat) (w : World) (hil : i ≤ 9223372036854775806) (hr : Hid (PRow w va ps)) :
    Calls Try.prog 29 #[.agg #[.int .i64 5, .int .i64 n, .int .i64 el, .slice va ps.length vc], .int .i64 (i : Int)] w fun e w' => e = .returned (.bool (tyOk ⟨5, n, el, ps⟩ i)) ∧ Below w.heap.size w w' := by
  have hB := below1 w (.cells #[.int .i64 5, .int .i64 n, .int .i64 el, .slice va ps.length vc] 43)
  have kx := Blk.newA w #[.int .i64 5, .int .i64 n, .int .i64 el, .slice va ps.length vc] 43
  obtain ⟨w0, hw0⟩ : ∃ wx, wx = w.alloc (.cells #[.int .i64 5, .int .i64 n, .int .i64 el, .slice va ps.length vc] 43) := ⟨_, rfl⟩
  rw [← hw0] at hB kx
  have HB := hide_ hB
  have HR := hide_ (hr.out.later hB)
  have i0 := kx.cell 0; have i1 := kx.cell 1; have i2 := kx.cell 2; have i3 := kx.cell 3
  simp at i0 i1 i2 i3
  have hwi : wrap64 ((i : Int) - 1) = (i : Int) - 1 := w64 _ (by omega)
  have HL : Hid (((ps.length : Int) == 0) = decide (ps.length = 0)) := hide_ (by
    by_cases h : ps.length = 0
    · simp [h]
    · have h2 : ((ps.length : Int) == 0) = false := by
        have h : ¬ (ps.length : Int) = 0 := by omega
        simpa using h
      rw [h2, decide_eq_false h])
  clear hB kx hr
  go_enter Try.func29, Try.ntmps29
  go_upto_region 1 with fail
  rw [← hw0]
  clear hw0
  obtain ⟨bn, hbn⟩ : ∃ x, inR n 1 1048576 = x := ⟨_, rfl⟩
  obtain ⟨be, hbe⟩ : ∃ x, inB el i = x := ⟨_, rfl⟩
  have HN : Hid (∀ w, Calls Try.prog 32 #[.int .i64 n, .int .i64 1, .int .i64 1048576] w fun e w' => e = .returned (.bool bn) ∧ w = w') := hide_ (fun w => by have h := inR_any n 1 1048576 w; rwa [hbn] at h)
  have HE : Hid (∀ w, Calls Try.prog 32 #[.int .i64 el, .int .i64 0, .int .i64 ((i : Int) - 1)] w fun e w' => e = .returned (.bool be) ∧ w = w') := hide_ (fun w => by have h := inR_any el 0 ((i : Int) - 1) w; rwa [inR_at, hbe] at h)
  have HBE := hide_ hbe
  have HBN : Hid ((decide (1 ≤ n) && decide (n ≤ 1048576)) = bn) := hide_ hbn
  clear hbn hbe
  have HT : Hid (tyOk ⟨5, n, el, ps⟩ i = (bn && be && decide (ps.length = 0))) := hide_ (by rw [← HBN.out, ← HBE.out]; simp [tyOk, nOk, elemOk, hasE, partsOk, Bool.decide_and])
  go_wp2_with fail
  refine (HN.out _).mono ?_; rintro e w' ⟨rfl, rfl⟩
  cases bn with
  | false =>
    go_wp2
    go_ret
    exact ⟨by rw [HT.out]; rfl, HB.out⟩
  | true =>
  go_wp2_with fail
  refine (HE.out _).mono ?_; rintro e w' ⟨rfl, rfl⟩
  cases be with
  | false =>
    go_wp2
    go_ret
    exact ⟨by rw [HT.out]; rfl, HB.out⟩
  | true =>
    go_wp2
    go_ret
    exact ⟨by rw [HT.out, ← HL.out]; rfl, HB.out⟩
set_option maxRecDepth 100000 in
set_option maxHeartbeats 8000000 in
theorem right6_any (n el : Int) (ps : List Pt) (va : Option Addr) (vc : Nat) (i : Nat) (w : World) (hil : i ≤ 9223372036854775806) (hr : Hid (PRow w va ps)) :
    Calls Try.prog 29 #[.agg #[.int .i64 6, .int .i64 n, .int .i64 el, .slice va ps.length vc], .int .i64 (i : Int)] w fun e w' => e = .returned (.bool (tyOk ⟨6, n, el, ps⟩ i)) ∧ Below w.heap.size w w' := by
  have hB := below1 w (.cells #[.int .i64 6, .int .i64 n, .int .i64 el, .slice va ps.length vc] 43)
  have kx := Blk.newA w #[.int .i64 6, .int .i64 n, .int .i64 el, .slice va ps.length vc] 43
  obtain ⟨w0, hw0⟩ : ∃ wx, wx = w.alloc (.cells #[.int .i64 6, .int .i64 n, .int .i64 el, .slice va ps.length vc] 43) := ⟨_, rfl⟩
  rw [← hw0] at hB kx
  have HB := hide_ hB
  have HR := hide_ (hr.out.later hB)
  have i0 := kx.cell 0; have i1 := kx.cell 1; have i2 := kx.cell 2; have i3 := kx.cell 3
  simp at i0 i1 i2 i3
  have hwi : wrap64 ((i : Int) - 1) = (i : Int) - 1 := w64 _ (by omega)
  have HL : Hid (((ps.length : Int) == 0) = decide (ps.length = 0)) := hide_ (by
    by_cases h : ps.length = 0
    · simp [h]
    · have h2 : ((ps.length : Int) == 0) = false := by
        have h : ¬ (ps.length : Int) = 0 := by omega
        simpa using h
      rw [h2, decide_eq_false h])
  clear hB kx hr
  go_enter Try.func29, Try.ntmps29
  go_upto_region 1 with fail
  rw [← hw0]
  clear hw0
  obtain ⟨bn, hbn⟩ : ∃ x, inR n 1 1048576 = x := ⟨_, rfl⟩
  obtain ⟨be, hbe⟩ : ∃ x, inB el i = x := ⟨_, rfl⟩
  have HN : Hid (∀ w, Calls Try.prog 32 #[.int .i64 n, .int .i64 1, .int .i64 1048576] w fun e w' => e = .returned (.bool bn) ∧ w = w') := hide_ (fun w => by have h := inR_any n 1 1048576 w; rwa [hbn] at h)
  have HE : Hid (∀ w, Calls Try.prog 32 #[.int .i64 el, .int .i64 0, .int .i64 ((i : Int) - 1)] w fun e w' => e = .returned (.bool be) ∧ w = w') := hide_ (fun w => by have h := inR_any el 0 ((i : Int) - 1) w; rwa [inR_at, hbe] at h)
  have HBE := hide_ hbe
  have HBN : Hid ((decide (1 ≤ n) && decide (n ≤ 1048576)) = bn) := hide_ hbn
  clear hbn hbe
  have HT : Hid (tyOk ⟨6, n, el, ps⟩ i = (decide (n = 0) && be && decide (ps.length = 0))) := hide_ (by rw [← HBE.out]; simp [tyOk, nOk, elemOk, hasE, partsOk])
  by_cases hn : n = 0
  · subst hn
    go_wp2_with fail
    refine (HE.out _).mono ?_; rintro e w' ⟨rfl, rfl⟩
    cases be with
    | false =>
      go_wp2
      go_ret
      exact ⟨by rw [HT.out]; rfl, HB.out⟩
    | true =>
      go_wp2
      go_ret
      exact ⟨by rw [HT.out, ← HL.out]; rfl, HB.out⟩
  · have hn' : (n == 0) = false := by simpa using hn
    rw [decide_eq_false hn] at HT
    go_wp2
    go_ret
    exact ⟨by rw [HT.out]; rfl, HB.out⟩
end Go.Proofs.Ytncndgfaalojpaa
/- The document's Check of a schema (mortiseref09): parts of a union. -/
namespace Go.Proofs.Ytncndgfaalojpaa
open Go.RowKit
set_option linter.unusedVariables false

set_option maxRecDepth 100000 in
set_option maxHeartbeats 8000000 in
theorem partsR7_any (n el : Int) (ps : List Pt) (va : Option Addr) (vc : Nat) (i : Nat) (w : World) (hil : i ≤ 9223372036854775806) (hr : Hid (PRow w va ps)) :
    Calls Try.prog 56 #[.agg #[.int .i64 7, .int .i64 n, .int .i64 el, .slice va ps.length vc], .int .i64 (i : Int)] w fun e w' => e = .returned (.bool (allP armOk ps i)) ∧ Below w.heap.size w w' := by
  have hB := below1 w (.cells #[.int .i64 7, .int .i64 n, .int .i64 el, .slice va ps.length vc] 43)
  have kx := Blk.newA w #[.int .i64 7, .int .i64 n, .int .i64 el, .slice va ps.length vc] 43
  obtain ⟨w0, hw0⟩ : ∃ wx, wx = w.alloc (.cells #[.int .i64 7, .int .i64 n, .int .i64 el, .slice va ps.length vc] 43) := ⟨_, rfl⟩
  rw [← hw0] at hB kx
  have HB0 := hide_ hB
  have KX := hide_ kx
  have HR0 := hide_ (hr.out.later hB)
  have hwi : wrap64 ((i : Int) - 1) = (i : Int) - 1 := w64 _ (by omega)
  have i0 := kx.cell 0; have i3 := kx.cell 3
  simp at i0 i3
  clear hB kx hr
  have HIl : Hid (∀ w, Calls Try.prog 32 #[.int .i64 (ps.length : Int), .int .i64 1, .int .i64 64] w fun e w' => e = .returned (.bool (decide (0 < ps.length ∧ ps.length ≤ 64))) ∧ w = w') := hide_ (fun w => by
    have h := inR_any (ps.length : Int) 1 64 w
    rw [show inR (ps.length : Int) 1 64 = decide (0 < ps.length ∧ ps.length ≤ 64) by unfold inR; rw [← Bool.decide_and]; exact decide_eq_decide.2 (by omega)] at h
    exact h)
  go_enter Try.func56, Try.ntmps56
  go_upto_region 1 with fail
  rw [← hw0]
  clear hw0
  by_cases hl : 0 < ps.length ∧ ps.length ≤ 64
  · rw [decide_eq_true hl] at HIl
    go_wp2_with (go_at_call 32; refine (HIl.out _).mono ?_; rintro e w' ⟨rfl, rfl⟩)
    go_loopw [6] (fun x6 wr => ∃ m : Nat, m ≤ ps.length ∧ x6 = .int .i64 (m : Int) ∧ Hid (∀ j, j < m → okP armOk ps i j = true) ∧ Hid (Below w0.heap.size w0 wr)) (fun x6 _ => ps.length - (intOf x6).toNat)
    case atStart => exact ⟨0, Nat.zero_le _, rfl, hide_ (fun j hj => by omega), hide_ (Below.refl _ _)⟩
    case round =>
      obtain ⟨m, hm, rfl, HA, HB⟩ := hrel
      generalize wr = wq at *
      clear i0 i3
      have KXq := hide_ (KX.out.later HB.out)
      have i0 := KXq.out.cell 0; have i3 := KXq.out.cell 3
      simp at i0 i3
      by_cases hlt : m < ps.length
      · have hlt' : (m : Int) < ps.length := by omega
        have HRq := hide_ (HR0.out.later HB.out)
        obtain ⟨b, off, rfl, hb, hc⟩ := HRq.out.open (by omega)
        have hx : ps[m]? = some (ps[m]'hlt) := List.getElem?_eq_getElem hlt
        have hcx := hc m _ hx
        have HX := hide_ hx
        generalize ps[m]'hlt = p at *
        have j0 := hcx 0 (by decide); have j1 := hcx 1 (by decide); have j2 := hcx 2 (by decide)
        simp [ptc] at j0 j1 j2
        have HOK := hide_ (okP_at (r := armOk) (m := (i : Int)) HX.out)
        have kp := Blk.newA wq #[.string p.label, .int .i64 p.tag, .int .i64 p.ty] 58
        have hBx := below1 wq (.cells #[.string p.label, .int .i64 p.tag, .int .i64 p.ty] 58)
        obtain ⟨wx, hwx⟩ : ∃ wx, wx = wq.alloc (.cells #[.string p.label, .int .i64 p.tag, .int .i64 p.ty] 58) := ⟨_, rfl⟩
        rw [← hwx] at kp hBx
        have HBx := hide_ (below_to HB.out hBx)
        have HBf := hide_ (below_to HB0.out HBx.out)
        have KP := hide_ kp
        have KXx := hide_ (KXq.out.later hBx)
        have HRx := hide_ (HRq.out.later hBx)
        clear kp hBx hc hx hcx hb HRq
        go_upto_region 10 with fail
        rw [← hwx]
        clear hwx i0 i3 j0 j1 j2
        have i0 := KXx.out.cell 0; have i3 := KXx.out.cell 3
        have j0 := KP.out.cell 0; have j1 := KP.out.cell 1; have j2 := KP.out.cell 2
        simp at i0 i3 j0 j1 j2
        obtain ⟨b3, hb3⟩ : ∃ x, inB p.ty i = x := ⟨_, rfl⟩
        obtain ⟨b1, hb1⟩ : ∃ x, armOk p = x := ⟨_, rfl⟩
        rw [hb3, hb1] at HOK
        have HI3 : Hid (∀ w, Calls Try.prog 32 #[.int .i64 p.ty, .int .i64 0, .int .i64 ((i : Int) - 1)] w fun e w' => e = .returned (.bool b3) ∧ w = w') := hide_ (fun w => by
          have h := inR_any p.ty 0 ((i : Int) - 1) w
          rwa [inR_at, hb3] at h)
        have HB1 := hide_ hb1
        clear hb1 hb3
        cases b3 with
        | false =>
          have HV : Hid (allP armOk ps i = false) := hide_ (allP_not hlt (by rw [HOK.out]; simp))
          go_wp2_with (go_at_call 32; refine (HI3.out _).mono ?_; rintro e w' ⟨rfl, rfl⟩)
          go_ret
          exact ⟨by rw [HV.out]; rfl, HBf.out⟩
        | true =>
        go_upto_region 12 with (go_at_call 32; refine (HI3.out _).mono ?_; rintro e w' ⟨rfl, rfl⟩)
        clear HI3
        obtain ⟨tg, htg⟩ : ∃ x, inR p.tag 0 255 = x := ⟨_, rfl⟩
        have HI5 : Hid (∀ w, Calls Try.prog 32 #[.int .i64 p.tag, .int .i64 0, .int .i64 255] w fun e w' => e = .returned (.bool tg) ∧ w = w') := hide_ (fun w => by have h := inR_any p.tag 0 255 w; rwa [htg] at h)
        have HTG : Hid ((decide (0 ≤ p.tag) && decide (p.tag ≤ 255)) = tg) := hide_ htg
        clear htg
        by_cases hlb : p.label = ⟨#[]⟩
        · have hlb0 : (p.label.toList == []) = true := by rw [hlb]; simp
          have hlb1 : p.label.toList.isEmpty = true := by rw [hlb]; simp
          cases tg with
          | false =>
            have HV : Hid (allP armOk ps i = false) := hide_ (allP_not hlt (by rw [HOK.out, ← HB1.out, armOk_eq, HTG.out]; simp))
            go_wp2_with (go_at_call 32; refine (HI5.out _).mono ?_; rintro e w' ⟨rfl, rfl⟩)
            go_ret
            exact ⟨by rw [HV.out]; rfl, HBf.out⟩
          | true =>
          obtain rfl : true = b1 := by rw [← HB1.out, armOk_eq, HTG.out]; simp [hlb]
          go_wp2_with (go_at_call 32; refine (HI5.out _).mono ?_; rintro e w' ⟨rfl, rfl⟩)
          clear i0 j2 hlb hlb0 hlb1
          go_loopw [8] (fun x8 wr => ∃ j : Nat, j ≤ m ∧ x8 = .int .i64 (j : Int) ∧ Hid (∀ (q : Nat) (z : Pt), q < j → ps[q]? = some z → likeP z p = false) ∧ Hid (Below wx.heap.size wx wr)) (fun x8 _ => m - (intOf x8).toNat)
          case atStart => exact ⟨0, Nat.zero_le _, rfl, hide_ (fun q z hq => by omega), hide_ (Below.refl _ _)⟩
          case round =>
            obtain ⟨j, hj, rfl, HJ, HBj⟩ := hrel
            generalize wr = wp at *
            clear i3 j0 j1
            have i3 := (KXx.out.later HBj.out).cell 3
            have kq := KP.out.later HBj.out
            have j0 := kq.cell 0; have j1 := kq.cell 1
            simp at i3 j0 j1
            clear kq
            by_cases hjm : j < m
            · have hjm' : (j : Int) < m := by omega
              have hjl : j < ps.length := by omega
              have hjl' : (j : Int) < ps.length := by omega
              obtain ⟨b', off', hax, -, hc⟩ := (HRx.out.later HBj.out).open (by omega)
              injection hax with hax
              injection hax with e1 e2 _
              subst e1 e2
              have hx : ps[j]? = some (ps[j]'hjl) := List.getElem?_eq_getElem hjl
              have hcx := hc j _ hx
              have HXj := hide_ hx
              generalize ps[j]'hjl = z at *
              have z0 := hcx 0 (by decide); have z1 := hcx 1 (by decide)
              simp [ptc] at z0 z1
              clear hc hx hcx
              have HJn : Hid (likeP z p = false → ∀ (q : Nat) (y : Pt), q < j + 1 → ps[q]? = some y → likeP y p = false) := hide_ (fun hl q y hq hy => by
                rcases Nat.lt_or_ge q j with h | h
                · exact HJ.out q y h hy
                · obtain rfl : q = j := by omega
                  rw [HXj.out] at hy
                  injection hy with hy
                  subst hy
                  exact hl)
              by_cases he : z.label = p.label
              · have hs : (z.label.toList == p.label.toList) = true := by rw [he]; simp
                by_cases ht : z.tag = p.tag
                · have hb : (z.tag == p.tag) = true := by simp [ht]
                  have HV : Hid (allP armOk ps i = false) := hide_ (allP_not hlt (by rw [HOK.out, thereP_take HXj.out hjm (by simp [likeP, he, ht])]; simp))
                  clear he ht
                  go_wp2_with fail
                  go_quiet (fail)
                  have HBq := hide_ (below_to HBf.out (below_drewN HBj.out nq))
                  go_wp2
                  go_ret
                  exact ⟨by rw [HV.out]; rfl, HBq.out⟩
                · have hb : (z.tag == p.tag) = false := by simpa using ht
                  have HJ2 := hide_ (HJn.out (by simp [likeP, ht]))
                  clear he ht
                  go_wp2_with fail
                  go_quiet (fail)
                  have HBq := hide_ (below_drewN HBj.out nq)
                  go_wp2_with fail
                  go_roundw
                  case rel => exact ⟨j + 1, by omega, by go_num, HJ2, HBq⟩
                  case measure => simp [intOf]; omega
              · have hs : (z.label.toList == p.label.toList) = false := by rw [str_eq]; exact decide_eq_false he
                have HJ2 := hide_ (HJn.out (by simp [likeP, he]))
                clear he
                go_wp2_with fail
                go_quiet (fail)
                have HBq := hide_ (below_drewN HBj.out nq)
                go_wp2_with fail
                go_roundw
                case rel => exact ⟨j + 1, by omega, by go_num, HJ2, HBq⟩
                case measure => simp [intOf]; omega
            · obtain rfl : j = m := by omega
              have HA2 : Hid (∀ q, q < j + 1 → okP armOk ps i q = true) := hide_ (fun q hq => by
                rcases Nat.lt_or_ge q j with h | h
                · exact HA.out q h
                · obtain rfl : q = j := by omega
                  rw [HOK.out, thereP_none HJ.out]; rfl)
              have HBn := hide_ (below_to HBx.out HBj.out)
              go_wp2_with fail
              go_roundw
              case rel => exact ⟨j + 1, by omega, by go_num, HA2, HBn⟩
              case measure => simp [intOf]; omega
        · have hlb0 := str_ne p.label [] hlb
          have hlb1 : p.label.toList.isEmpty = false := by
            cases h : p.label.toList with
            | nil => rw [h] at hlb0; simp at hlb0
            | cons a l => rfl
          have HV : Hid (allP armOk ps i = false) := hide_ (allP_not hlt (by rw [HOK.out, ← HB1.out, armOk_eq]; simp [hlb]))
          go_wp2
          go_ret
          exact ⟨by rw [HV.out]; rfl, HBf.out⟩
      · obtain rfl : m = ps.length := by omega
        have HV : Hid (allP armOk ps i = true) := hide_ (allP_of hl.1 hl.2 HA.out)
        go_wp2
        go_ret
        exact ⟨by rw [HV.out]; rfl, below_to HB0.out HB.out⟩
  · have HV : Hid (allP armOk ps i = false) := hide_ (allP_len hl)
    rw [decide_eq_false hl] at HIl
    go_wp2_with (go_at_call 32; refine (HIl.out _).mono ?_; rintro e w' ⟨rfl, rfl⟩)
    go_ret
    exact ⟨by rw [HV.out]; rfl, HB0.out⟩
end Go.Proofs.Ytncndgfaalojpaa
/- The document's Check of a schema: right. -/
namespace Go.Proofs.Ytncndgfaalojpaa
open Go.RowKit
set_option linter.unusedVariables false

set_option maxRecDepth 100000 in
set_option maxHeartbeats 8000000 in
theorem right7_any (n el : Int) (ps : List Pt) (va : Option Addr) (vc : Nat) (i : Nat) (w : World) (hil : i ≤ 9223372036854775806) (hr : Hid (PRow w va ps)) :
    Calls Try.prog 29 #[.agg #[.int .i64 7, .int .i64 n, .int .i64 el, .slice va ps.length vc], .int .i64 (i : Int)] w fun e w' => e = .returned (.bool (tyOk ⟨7, n, el, ps⟩ i)) ∧ Below w.heap.size w w' := by
  have hB := below1 w (.cells #[.int .i64 7, .int .i64 n, .int .i64 el, .slice va ps.length vc] 43)
  have kx := Blk.newA w #[.int .i64 7, .int .i64 n, .int .i64 el, .slice va ps.length vc] 43
  obtain ⟨w0, hw0⟩ : ∃ wx, wx = w.alloc (.cells #[.int .i64 7, .int .i64 n, .int .i64 el, .slice va ps.length vc] 43) := ⟨_, rfl⟩
  rw [← hw0] at hB kx
  have HB := hide_ hB
  have HR := hide_ (hr.out.later hB)
  have i0 := kx.cell 0; have i1 := kx.cell 1; have i2 := kx.cell 2; have i3 := kx.cell 3
  simp at i0 i1 i2 i3
  have hwi : wrap64 ((i : Int) - 1) = (i : Int) - 1 := w64 _ (by omega)
  have HL : Hid (((ps.length : Int) == 0) = decide (ps.length = 0)) := hide_ (by
    by_cases h : ps.length = 0
    · simp [h]
    · have h2 : ((ps.length : Int) == 0) = false := by
        have h : ¬ (ps.length : Int) = 0 := by omega
        simpa using h
      rw [h2, decide_eq_false h])
  clear hB kx hr
  go_enter Try.func29, Try.ntmps29
  go_upto_region 1 with fail
  rw [← hw0]
  clear hw0
  have HT : Hid (tyOk ⟨7, n, el, ps⟩ i = (decide (n = 0) && decide (el = 0) && allP armOk ps i)) := hide_ (by simp [tyOk, nOk, elemOk, hasE, partsOk])
  by_cases hn : n = 0
  · subst hn
    by_cases he : el = 0
    · subst he
      have HC := hide_ (partsR7_any 0 0 ps va vc i w0 hil HR)
      go_wp2_with fail
      refine HC.out.mono ?_; rintro e w' ⟨rfl, hB1⟩
      have HB1 := hide_ hB1
      clear hB1
      go_wp2
      go_ret
      exact ⟨by rw [HT.out]; simp, below_to HB.out HB1.out⟩
    · have he' : (el == 0) = false := by simpa using he
      rw [decide_eq_false he] at HT
      go_wp2
      go_ret
      exact ⟨by rw [HT.out]; simp, HB.out⟩
  · have hn' : (n == 0) = false := by simpa using hn
    rw [decide_eq_false hn] at HT
    go_wp2
    go_ret
    exact ⟨by rw [HT.out]; simp, HB.out⟩
set_option maxRecDepth 100000 in
set_option maxHeartbeats 8000000 in
theorem right8_any (n el : Int) (ps : List Pt) (va : Option Addr) (vc : Nat) (i : Nat) (w : World) (hil : i ≤ 9223372036854775806) (hr : Hid (PRow w va ps)) :
    Calls Try.prog 29 #[.agg #[.int .i64 8, .int .i64 n, .int .i64 el, .slice va ps.length vc], .int .i64 (i : Int)] w fun e w' => e = .returned (.bool (tyOk ⟨8, n, el, ps⟩ i)) ∧ Below w.heap.size w w' := by
  have hB := below1 w (.cells #[.int .i64 8, .int .i64 n, .int .i64 el, .slice va ps.length vc] 43)
  have kx := Blk.newA w #[.int .i64 8, .int .i64 n, .int .i64 el, .slice va ps.length vc] 43
  obtain ⟨w0, hw0⟩ : ∃ wx, wx = w.alloc (.cells #[.int .i64 8, .int .i64 n, .int .i64 el, .slice va ps.length vc] 43) := ⟨_, rfl⟩
  rw [← hw0] at hB kx
  have HB := hide_ hB
  have HR := hide_ (hr.out.later hB)
  have i0 := kx.cell 0; have i1 := kx.cell 1; have i2 := kx.cell 2; have i3 := kx.cell 3
  simp at i0 i1 i2 i3
  have hwi : wrap64 ((i : Int) - 1) = (i : Int) - 1 := w64 _ (by omega)
  have HL : Hid (((ps.length : Int) == 0) = decide (ps.length = 0)) := hide_ (by
    by_cases h : ps.length = 0
    · simp [h]
    · have h2 : ((ps.length : Int) == 0) = false := by
        have h : ¬ (ps.length : Int) = 0 := by omega
        simpa using h
      rw [h2, decide_eq_false h])
  clear hB kx hr
  go_enter Try.func29, Try.ntmps29
  go_upto_region 1 with fail
  rw [← hw0]
  clear hw0
  have HT : Hid (tyOk ⟨8, n, el, ps⟩ i = (decide (n = 0) && decide (el = 0) && allP fieldOk ps i)) := hide_ (by simp [tyOk, nOk, elemOk, hasE, partsOk])
  by_cases hn : n = 0
  · subst hn
    by_cases he : el = 0
    · subst he
      have HC := hide_ (partsR8_any 0 0 ps va vc i w0 hil HR)
      go_wp2_with fail
      refine HC.out.mono ?_; rintro e w' ⟨rfl, hB1⟩
      have HB1 := hide_ hB1
      clear hB1
      go_wp2
      go_ret
      exact ⟨by rw [HT.out]; simp, below_to HB.out HB1.out⟩
    · have he' : (el == 0) = false := by simpa using he
      rw [decide_eq_false he] at HT
      go_wp2
      go_ret
      exact ⟨by rw [HT.out]; simp, HB.out⟩
  · have hn' : (n == 0) = false := by simpa using hn
    rw [decide_eq_false hn] at HT
    go_wp2
    go_ret
    exact ⟨by rw [HT.out]; simp, HB.out⟩
set_option maxRecDepth 100000 in
set_option maxHeartbeats 8000000 in
theorem rightO_any (t : Ty) (hk : ¬ (t.k = 1 ∨ t.k = 2 ∨ t.k = 3 ∨ t.k = 4 ∨ t.k = 5 ∨ t.k = 6 ∨ t.k = 7 ∨ t.k = 8)) (va : Option Addr) (vc : Nat) (i : Nat) (w : World) (hil : i ≤ 9223372036854775806) (hr : Hid (PRow w va t.ps)) :
    Calls Try.prog 29 #[.agg #[.int .i64 t.k, .int .i64 t.n, .int .i64 t.e, .slice va t.ps.length vc], .int .i64 (i : Int)] w fun e w' => e = .returned (.bool (tyOk t i)) ∧ Below w.heap.size w w' := by
  obtain ⟨k, n, el, ps⟩ := t
  simp only at hr hk ⊢
  have hB := below1 w (.cells #[.int .i64 k, .int .i64 n, .int .i64 el, .slice va ps.length vc] 43)
  have kx := Blk.newA w #[.int .i64 k, .int .i64 n, .int .i64 el, .slice va ps.length vc] 43
  obtain ⟨w0, hw0⟩ : ∃ wx, wx = w.alloc (.cells #[.int .i64 k, .int .i64 n, .int .i64 el, .slice va ps.length vc] 43) := ⟨_, rfl⟩
  rw [← hw0] at hB kx
  have HB := hide_ hB
  have HR := hide_ (hr.out.later hB)
  have i0 := kx.cell 0; have i1 := kx.cell 1; have i2 := kx.cell 2; have i3 := kx.cell 3
  simp at i0 i1 i2 i3
  have hwi : wrap64 ((i : Int) - 1) = (i : Int) - 1 := w64 _ (by omega)
  have HL : Hid (((ps.length : Int) == 0) = decide (ps.length = 0)) := hide_ (by
    by_cases h : ps.length = 0
    · simp [h]
    · have h2 : ((ps.length : Int) == 0) = false := by
        have h : ¬ (ps.length : Int) = 0 := by omega
        simpa using h
      rw [h2, decide_eq_false h])
  clear hB kx hr
  go_enter Try.func29, Try.ntmps29
  go_upto_region 1 with fail
  rw [← hw0]
  clear hw0
  have c1 : (k == 1) = false := by simp; omega
  have c2 : (k == 2) = false := by simp; omega
  have c3 : (k == 3) = false := by simp; omega
  have c4 : (k == 4) = false := by simp; omega
  have c5 : (k == 5) = false := by simp; omega
  have c6 : (k == 6) = false := by simp; omega
  have c7 : (k == 7) = false := by simp; omega
  have c8 : (k == 8) = false := by simp; omega
  have hno : nOk k n = false := by
    unfold nOk
    exact decide_eq_false (by omega)
  have HV : Hid (tyOk ⟨k, n, el, ps⟩ i = false) := hide_ (by
    show (nOk k n && _ && _) = false
    rw [hno]
    rfl)
  clear hno
  clear hk
  go_wp2
  go_ret
  exact ⟨by rw [HV.out]; rfl, HB.out⟩
end Go.Proofs.Ytncndgfaalojpaa
/- The document's Check of a schema: right. -/
namespace Go.Proofs.Ytncndgfaalojpaa
open Go.RowKit
set_option linter.unusedVariables false

theorem right_any (t : Ty) (va : Option Addr) (vc : Nat) (i : Nat) (w : World) (hil : i ≤ 9223372036854775806) (hr : Hid (PRow w va t.ps)) :
    Calls Try.prog 29 #[.agg #[.int .i64 t.k, .int .i64 t.n, .int .i64 t.e, .slice va t.ps.length vc], .int .i64 (i : Int)] w fun e w' => e = .returned (.bool (tyOk t i)) ∧ Below w.heap.size w w' := by
  by_cases hk : t.k = 1 ∨ t.k = 2 ∨ t.k = 3 ∨ t.k = 4 ∨ t.k = 5 ∨ t.k = 6 ∨ t.k = 7 ∨ t.k = 8
  · obtain ⟨k, n, el, ps⟩ := t
    simp only at hk hr ⊢
    rcases hk with rfl | rfl | rfl | rfl | rfl | rfl | rfl | rfl
    · exact right1_any n el ps va vc i w hil hr
    · exact right2_any n el ps va vc i w hil hr
    · exact right3_any n el ps va vc i w hil hr
    · exact right4_any n el ps va vc i w hil hr
    · exact right5_any n el ps va vc i w hil hr
    · exact right6_any n el ps va vc i w hil hr
    · exact right7_any n el ps va vc i w hil hr
    · exact right8_any n el ps va vc i w hil hr
  · exact rightO_any t hk va vc i w hil hr
end Go.Proofs.Ytncndgfaalojpaa
/- The document's Depths. -/
namespace Go.Proofs.Ytncndgfaalojpaa
open Go.RowKit
set_option linter.unusedVariables false

theorem EInt9 : Elem Try.prog 28 3 .i64 8 := ⟨Try.underlying28, Try.underlying3, by kernel_rfl⟩
theorem getD_bdG {l : List Int} {b : Int} (hb : 0 ≤ b) (h : ∀ x ∈ l, 0 ≤ x ∧ x ≤ b) (n : Nat) : 0 ≤ l.getD n 0 ∧ l.getD n 0 ≤ b := by
  rcases Nat.lt_or_ge n l.length with hn | hn
  · rw [show l.getD n 0 = l[n]'hn by simp [List.getD, hn]]
    exact h _ (List.getElem_mem hn)
  · rw [show l.getD n 0 = 0 by simp [List.getD, List.getElem?_eq_none hn]]; omega
theorem kidD_bdG {l : List Int} {b : Int} (hb : 0 ≤ b) (h : ∀ x ∈ l, 0 ≤ x ∧ x ≤ b) : ∀ (ps : List Pt) (d : Int), 0 ≤ d ∧ d ≤ b → 0 ≤ kidD l ps d ∧ kidD l ps d ≤ b
  | [], d, hd => hd
  | p :: ps, d, hd => by
    have h1 := getD_bdG hb h p.ty.toNat
    have := kidD_bdG hb h ps (max d (l.getD p.ty.toNat 0)) (by omega)
    simpa [kidD] using this
theorem depL_bd (T : List Ty) : ∀ x ∈ depL T, 0 ≤ x ∧ x ≤ (T.length : Int) := by
  refine snoc_ind (P := fun T => ∀ x ∈ depL T, 0 ≤ x ∧ x ≤ (T.length : Int)) (fun x hx => by simp [depL] at hx) (fun T t ih x hx => ?_) T
  rw [depL_snoc] at hx
  rw [List.length_append, List.length_singleton]
  rcases List.mem_append.1 hx with hx | hx
  · have := ih x hx; omega
  · simp at hx
    subst hx
    have h0 : 0 ≤ (if hasE t.k then (depL T).getD t.e.toNat 0 else 0) ∧ (if hasE t.k then (depL T).getD t.e.toNat 0 else 0) ≤ (T.length : Int) := by
      split
      · exact getD_bdG (by omega) ih _
      · omega
    have := kidD_bdG (by omega) ih t.ps _ h0
    unfold dep1
    omega
set_option maxRecDepth 100000 in
set_option maxHeartbeats 8000000 in
theorem depths_any (a : Option Addr) (c : Nat) (vr : Value) (T : List Ty) (w : World) (hn : T.length ≤ 4000000000000) (hL : Hid (LensT T)) (hT : Hid (TRow w a T)) (hok : Hid (∀ j, j < T.length → tyOk (T.getD j ty0) j = true)) :
    Calls Try.prog 30 #[.agg #[.slice a T.length c, vr]] w fun e w' => ∃ v, e = .returned v ∧ Hid (w'.ownsRow w.heap.size 3 1 v (depL T).length (cellsL .i64 (depL T))) ∧ Hid (Below w.heap.size w w') := by
  have hB := below1 w (.cells #[.slice a T.length c, vr] 25)
  have kx := Blk.newA w #[.slice a T.length c, vr] 25
  obtain ⟨w0, hw0⟩ : ∃ wx, wx = w.alloc (.cells #[.slice a T.length c, vr] 25) := ⟨_, rfl⟩
  rw [← hw0] at hB kx
  have HB0 := hide_ hB
  have KX := hide_ kx
  have hz0 : w.heap.size < w0.heap.size := kx.lt
  clear hB kx
  go_enter Try.func30, Try.ntmps30
  go_upto_region 1 with fail
  rw [← hw0]
  clear hw0
  go_wp2_with fail
  go_loopw [3, 4] (fun x3 x4 wr => ∃ (v : Value) (i : Nat), v = x3 ∧ i ≤ T.length ∧ x4 = .int .i64 (i : Int) ∧ Hid (wr.ownsRow w0.heap.size 3 1 v (depL (T.take i)).length (cellsL .i64 (depL (T.take i)))) ∧ Hid (Below w0.heap.size w0 wr)) (fun _ x4 _ => T.length - (intOf x4).toNat)
  case atStart => exact ⟨_, 0, rfl, Nat.zero_le _, rfl, hide_ (World.ownsRow_nil _ _ _ _), hide_ (Below.refl _ _)⟩
  case round =>
    obtain ⟨v, i, rfl, hi, rfl, HO, HB⟩ := hrel
    generalize wr = wq at *
    have i0 := (KX.out.later HB.out).cell 0
    simp at i0
    by_cases hlt : i < T.length
    · have hlt' : (i : Int) < T.length := by omega
      obtain ⟨b, o, rfl, hb, hc⟩ := (hT.out.later (below_to HB0.out HB.out)).open (by omega)
      have hx : T[i]? = some (T[i]'hlt) := List.getElem?_eq_getElem hlt
      obtain ⟨va, vc, hcx, hvc, -, hP⟩ := hc i _ hx
      have hok1 := hok.out i hlt
      rw [show T.getD i ty0 = T[i]'hlt by simp [List.getD, hlt]] at hok1
      have hpl := hL.out.at hx
      have HT : Hid (depL (T.take (i + 1)) = depL (T.take i) ++ [dep1 (depL (T.take i)) (T[i]'hlt)]) := hide_ (by rw [List.take_succ_eq_append_getElem hlt, depL_snoc])
      have hlen : (depL (T.take i)).length = i := by rw [depL_len]; simp; omega
      have hbd : ∀ x ∈ depL (T.take i), 0 ≤ x ∧ x ≤ (i : Int) := fun x hx => by
        have := depL_bd (T.take i) x hx
        rw [List.length_take] at this
        omega
      generalize T[i]'hlt = t at *
      obtain ⟨k, n, el, ps⟩ := t
      simp only at hvc hP hpl hok1 HT
      have HOK := hide_ hok1
      have t0 := hcx 0 (by decide); have t1 := hcx 1 (by decide); have t2 := hcx 2 (by decide); have t3 := hcx 3 (by decide)
      simp [tyc] at t0 t1 t2 t3
      have kt := Blk.newA wq #[.int .i64 k, .int .i64 n, .int .i64 el, .slice va ps.length vc] 43
      have hBx := below1 wq (.cells #[.int .i64 k, .int .i64 n, .int .i64 el, .slice va ps.length vc] 43)
      obtain ⟨wx, hwx⟩ : ∃ wx, wx = wq.alloc (.cells #[.int .i64 k, .int .i64 n, .int .i64 el, .slice va ps.length vc] 43) := ⟨_, rfl⟩
      rw [← hwx] at kt hBx
      have HBx := hide_ (below_to HB.out hBx)
      have HOx := hide_ (ownS_upd HO.out (Upd.of_below (S := fun _ => False) hBx) (fun _ _ h => h))
      have HP := hide_ (hP.later hBx)
      generalize depL (T.take i) = pre at *
      have HPB := hide_ hbd
      have HPL := hide_ hlen
      obtain ⟨av, cv, hvv, hrow, -⟩ := own_open HOx.out rfl
      subst hvv
      have HRow := hide_ hrow
      have j0 := kt.cell 0; have j2 := kt.cell 2; have j3 := kt.cell 3
      simp at j0 j2 j3
      clear kt hBx hP hc hx hcx hok1 hb HO hbd hlen hrow
      go_upto_region 6 with fail
      rw [← hwx]
      clear hwx t0 t1 t2 t3 i0
      obtain ⟨d0, hd0⟩ : ∃ d0, (if hasE k then pre.getD el.toNat 0 else 0) = d0 := ⟨_, rfl⟩
      have HD0 := hide_ hd0
      have hd0b : 0 ≤ d0 ∧ d0 ≤ (i : Int) := by
        rw [← hd0]
        split
        · exact getD_bdG (by omega) HPB.out _
        · omega
      clear hd0
      obtain ⟨be, hbe⟩ : ∃ be, hasE k = be := ⟨_, rfl⟩
      have HE := hide_ hbe
      clear hbe
      go_upto_region 7 with fail
      go_cut [32] from 19 to 32 (fun x32 wc => x32 = .bool be ∧ wx = wc)
      case first =>
        have hE := HE.out
        unfold hasE at hE
        by_cases k4 : k = 4
        · subst k4
          obtain rfl : true = be := by rw [← hE]; rfl
          go_wp2
          go_meet
          case rel => exact ⟨rfl, rfl⟩
        have c4 : (k == 4) = false := by simpa using k4
        by_cases k5 : k = 5
        · subst k5
          obtain rfl : true = be := by rw [← hE]; rfl
          go_wp2
          go_meet
          case rel => exact ⟨rfl, rfl⟩
        have c5 : (k == 5) = false := by simpa using k5
        by_cases k6 : k = 6
        · subst k6
          obtain rfl : true = be := by rw [← hE]; rfl
          go_wp2
          go_meet
          case rel => exact ⟨rfl, rfl⟩
        have c6 : (k == 6) = false := by simpa using k6
        obtain rfl : false = be := by rw [← hE]; exact (decide_eq_false (by omega)).symm
        clear hE
        go_wp2
        go_meet
        case rel => exact ⟨rfl, rfl⟩
      case rest =>
      obtain ⟨rfl, rfl⟩ := hcut
      go_upto_if 32 with fail
      go_cut [6] from 32 to 37 (fun x6 wc => x6 = .int .i64 d0 ∧ wx = wc)
      case first =>
        cases be with
        | true =>
          have hel := tyOk_elem HOK.out HE.out
          simp only at hel
          obtain ⟨ej, rfl⟩ := Int.eq_ofNat_of_zero_le hel.1
          have hejl : ej < pre.length := by rw [HPL.out]; omega
          have hejl' : (ej : Int) < pre.length := by omega
          obtain ⟨bv, ov, rfl, -, hcv⟩ := HRow.out.open (by omega)
          have hd : pre.getD ej 0 = d0 := by rw [← HD0.out, if_pos HE.out]; simp
          have c1 := hcv ej hejl
          rw [hd] at c1
          clear hcv hd hel
          go_wp2
          go_meet
          case rel => exact ⟨rfl, rfl⟩
        | false =>
          have hd : d0 = 0 := by rw [← HD0.out, HE.out]; rfl
          subst hd
          go_wp2
          go_meet
          case rel => exact ⟨rfl, rfl⟩
      case rest =>
      obtain ⟨rfl, rfl⟩ := hcut
      clear j0 j2
      go_wp2_with fail
      go_loop [6, 7] (fun x6 x7 => ∃ (m : Nat) (d : Int), m ≤ ps.length ∧ x7 = .int .i64 (m : Int) ∧ x6 = .int .i64 d ∧ Hid (kidD pre (ps.take m) d0 = d)) (fun _ x7 => ps.length - (intOf x7).toNat)
      case atStart => exact ⟨0, d0, Nat.zero_le _, rfl, rfl, hide_ rfl⟩
      case round =>
        obtain ⟨m, d, hm, rfl, rfl, HK⟩ := hrel
        have hkb := kidD_bdG (by omega) HPB.out (ps.take m) d0 hd0b
        rw [HK.out] at hkb
        by_cases hlm : m < ps.length
        · have hlm' : (m : Int) < ps.length := by omega
          obtain ⟨b2, o2, rfl, -, hc2⟩ := HP.out.open (by omega)
          have hx2 : ps[m]? = some (ps[m]'hlm) := List.getElem?_eq_getElem hlm
          have hcx2 := hc2 m _ hx2
          have hpr := tyOk_part (t := ⟨k, n, el, ps⟩) HOK.out hx2
          have HS := hide_ (kidD_succ (l := pre) (d := d0) hx2)
          generalize ps[m]'hlm = p at *
          obtain ⟨lb, tg, ty⟩ := p
          simp only at hpr HS
          obtain ⟨ej, rfl⟩ := Int.eq_ofNat_of_zero_le hpr.1
          have hejl : ej < pre.length := by rw [HPL.out]; omega
          have hejl' : (ej : Int) < pre.length := by omega
          obtain ⟨bv, ov, rfl, -, hcv⟩ := HRow.out.open (by omega)
          have c1 := hcv ej hejl
          have y2 := hcx2 2 (by decide)
          simp [ptc] at y2
          rw [HK.out, Int.toNat_natCast] at HS
          generalize pre.getD ej 0 = de at *
          clear hc2 hx2 hcx2 hpr hcv hejl
          go_wp2_with fail
          all_goals
            go_round
            case rel => exact ⟨m + 1, _, by omega, by go_num, rfl, hide_ (by rw [HS.out]; omega)⟩
            case measure => simp [intOf]; omega
        · obtain rfl : m = ps.length := by omega
          have HV : Hid (dep1 pre ⟨k, n, el, ps⟩ = d + 1) := hide_ (by
            have h := HK.out
            rw [List.take_length] at h
            unfold dep1
            simp only
            rw [HD0.out, h])
          have hwr : wrap64 (d + 1) = d + 1 := w64 _ (by omega)
          obtain ⟨g, cap, w5, hrun, hO5, hU5, -⟩ := run_push EInt9 wx 28 w0.heap.size (.slice av pre.length cv) pre.length pre HOx.out (d + 1) (by unfold maxLen; rw [HPL.out]; omega) (by rw [HPL.out]; omega) HBx.out.size
          have HB5 := hide_ (HBx.out.trans (hU5.below w0.heap.size HBx.out.size (fun k hk => (HOx.out.lt k hk).1)))
          have HO5 : Hid (w5.ownsRow w0.heap.size 3 1 (.slice (some ⟨g, 0, none⟩) (pre.length + 1) cap) (depL (T.take (i + 1))).length (cellsL .i64 (depL (T.take (i + 1))))) := hide_ (by
            rw [HT.out, HV.out, List.length_append, List.length_singleton]
            exact hO5)
          have HRun := hide_ hrun
          clear hrun hO5 hU5 HT HV HPL
          go_wp2_with (first | (at_builtin; refine wpList_append_run rfl (.tmp 56) (.tmp 59) 28 28 rfl rfl rfl HRun.out ?_; clear HRun))
          go_roundw
          case rel => exact ⟨_, i + 1, rfl, by omega, by go_num, HO5, HB5⟩
          case measure => simp [intOf]; omega
    · obtain rfl : i = T.length := by omega
      have HV : Hid (wq.ownsRow w.heap.size 3 1 v (depL T).length (cellsL .i64 (depL T))) := hide_ (by have h := HO.out; rw [List.take_length] at h; exact own_base h (by omega))
      have HBe := hide_ (below_to HB0.out HB.out)
      go_wp2
      go_ret
      exact ⟨_, rfl, HV, HBe⟩
end Go.Proofs.Ytncndgfaalojpaa
/- The document's Check of a schema. -/
namespace Go.Proofs.Ytncndgfaalojpaa
open Go.RowKit
set_option linter.unusedVariables false

def sameN (R : List Rt) (nm : ByteArray) (j : Nat) : Bool := (R.take j).any (fun q => decide (q.name = nm))
theorem sameN_succ {R : List Rt} {nm : ByteArray} {j : Nat} {q : Rt} (h : R[j]? = some q) : sameN R nm (j + 1) = (sameN R nm j || decide (q.name = nm)) := by
  have hj := (List.getElem?_eq_some_iff.1 h).1
  unfold sameN
  rw [List.take_succ_eq_append_getElem hj, (List.getElem?_eq_some_iff.1 h).2]
  simp
theorem rootOk_doc {n : Nat} {R : List Rt} {i : Nat} {r : Rt} (h : R[i]? = some r) : rootOk n R i = (decide (i < 256) && isName r.name && inB r.ty n && !sameN R r.name i) := by
  have e : R.getD i rt0 = r := by simp [List.getD, h]
  have hi := (List.getElem?_eq_some_iff.1 h).1
  unfold rootOk
  rw [e]
  congr 1
  cases hs : sameN R r.name i with
  | true =>
    unfold sameN at hs
    rw [List.any_eq_true] at hs
    obtain ⟨q, hq, hqn⟩ := hs
    obtain ⟨j, hj⟩ := List.getElem?_of_mem hq
    rw [List.getElem?_take] at hj
    split at hj
    · rename_i hji
      rw [decide_eq_false]
      · rfl
      · intro hf
        unfold findR at hf
        have hlt : R.findIdx (fun q => decide (q.name = r.name)) ≤ j := by
          have hjl := (List.getElem?_eq_some_iff.1 hj).1
          refine Nat.le_of_not_lt (fun h' => ?_)
          have := List.not_of_lt_findIdx h'
          rw [(List.getElem?_eq_some_iff.1 hj).2, hqn] at this
          cases this
        omega
    · cases hj
  | false =>
    unfold sameN at hs
    rw [List.any_eq_false] at hs
    rw [findR_at h rfl (fun j q hj hq => ?_)]
    · simp
    · have := hs q (List.mem_of_getElem? (i := j) (by rw [List.getElem?_take, if_pos hj]; exact hq))
      simpa using this
set_option maxRecDepth 100000 in
set_option maxHeartbeats 8000000 in
theorem checkR_any (a : Option Addr) (c : Nat) (T : List Ty) (ar : Option Addr) (cr : Nat) (R : List Rt) (w : World) (hn : T.length ≤ 3000000000000) (hm : R.length ≤ 10000000000000) (hL : Hid (LensT T)) (hT : Hid (TRow w a T)) (hR : Hid (RRow w ar R)) :
    Calls Try.prog 16 #[.agg #[.slice a T.length c, .slice ar R.length cr]] w fun e w' => e = .returned (.agg #[.int .i64 (chk T R).1, .int .i64 (chk T R).2]) ∧ Below w.heap.size w w' := by
  have hB := below2 w (.cells #[.slice a T.length c, .slice ar R.length cr] 25) (.cells #[.int .i64 0, .int .i64 0] 60)
  obtain ⟨k1, k2⟩ := blk2 w #[.slice a T.length c, .slice ar R.length cr] #[.int .i64 0, .int .i64 0] 25 60
  obtain ⟨w0, hw0⟩ : ∃ wx, wx = (w.alloc (.cells #[.slice a T.length c, .slice ar R.length cr] 25)).alloc (.cells #[.int .i64 0, .int .i64 0] 60) := ⟨_, rfl⟩
  rw [← hw0] at hB k1 k2
  have HB0 := hide_ hB
  have K1 := hide_ k1
  have K2 := hide_ k2
  have hs1 : w.heap.size < w0.heap.size := k1.lt
  have hs2 : w.heap.size + 1 < w0.heap.size := k2.lt
  obtain ⟨vE, hE⟩ : ∃ vE, (chk T R).1 = vE := ⟨_, rfl⟩
  obtain ⟨vA, hA⟩ : ∃ vA, (chk T R).2 = vA := ⟨_, rfl⟩
  rw [hE, hA]
  have HC : Hid (chk T R = (vE, vA)) := hide_ (by rw [← hE, ← hA])
  clear hB k1 k2 hE hA
  go_enter Try.func16, Try.ntmps16
  go_upto_region 1 with fail
  rw [← hw0]
  clear hw0
  go_wp2_with fail
  go_loopw [3] (fun x3 wr => ∃ i : Nat, i ≤ T.length ∧ x3 = .int .i64 (i : Int) ∧ Hid (∀ j, j < i → tyOk (T.getD j ty0) j = true) ∧ Hid (Below w0.heap.size w0 wr)) (fun x3 _ => T.length - (intOf x3).toNat)
  case atStart => exact ⟨0, Nat.zero_le _, rfl, hide_ (fun j hj => by omega), hide_ (Below.refl _ _)⟩
  case round =>
    obtain ⟨i, hi, rfl, HA, HB⟩ := hrel
    generalize wr = wq at *
    have KSq := hide_ (K1.out.later HB.out)
    have i0 := KSq.out.cell 0; have i1 := KSq.out.cell 1
    simp at i0 i1
    by_cases hlt : i < T.length
    · have hlt' : (i : Int) < T.length := by omega
      obtain ⟨b, o, rfl, hb, hc⟩ := (hT.out.later (below_to HB0.out HB.out)).open (by omega)
      have hx : T[i]? = some (T[i]'hlt) := List.getElem?_eq_getElem hlt
      obtain ⟨va, vc, hcx, hvc, -, hP⟩ := hc i _ hx
      have hgd : T.getD i ty0 = T[i]'hlt := by simp [List.getD, hlt]
      have HGD := hide_ hgd
      generalize T[i]'hlt = t at *
      have t0 := hcx 0 (by decide); have t1 := hcx 1 (by decide); have t2 := hcx 2 (by decide); have t3 := hcx 3 (by decide)
      simp [tyc] at t0 t1 t2 t3
      have HCon := hide_ (right_any t va vc i wq (by omega) (hide_ hP))
      obtain ⟨ok, hok⟩ : ∃ ok, tyOk t (i : Int) = ok := ⟨_, rfl⟩
      rw [hok] at HCon
      have HOK := hide_ hok
      clear hc hx hcx hP hok hgd hb
      go_wp2_with fail
      refine HCon.out.mono ?_; rintro e w1 ⟨rfl, hB1⟩
      have HB1 := hide_ (below_to HB.out hB1)
      clear hB1 t0 t1 t2 t3 i0 i1
      cases ok with
      | true =>
        have HA2 : Hid (∀ j, j < i + 1 → tyOk (T.getD j ty0) j = true) := hide_ (fun j hj => by
          rcases Nat.lt_or_ge j i with h | h
          · exact HA.out j h
          · obtain rfl : j = i := by omega
            rw [HGD.out]; exact HOK.out)
        go_wp2_with fail
        go_roundw
        case rel => exact ⟨i + 1, by omega, by go_num, HA2, HB1⟩
        case measure => simp [intOf]; omega
      | false =>
        have HV : Hid (vE = 92 ∧ vA = (i : Int)) := hide_ (by
          have h := chk_ty (R := R) hlt (by rw [HGD.out]; exact HOK.out) HA.out
          rw [HC.out] at h
          injection h with h1 h2
          exact ⟨h1, h2⟩)
        have KF := hide_ (K2.out.later HB1.out)
        have l0 := KF.out.cell 0; have l1 := KF.out.cell 1
        simp at l0 l1
        have f0 := fun i => KF.out.frozen i
        have HK := hide_ (wr2 KF.out (.int .i64 92) (.int .i64 (i : Int)))
        have HBf := hide_ (below_wr2 (below_to HB0.out HB1.out) (w.heap.size + 1) (by omega) (.int .i64 92) (.int .i64 (i : Int)))
        go_wp2
        refine retF (x := 92) (y := (i : Int)) rfl rfl HK.out ⟨by rw [HV.out.1, HV.out.2], HBf.out⟩
    · obtain rfl : i = T.length := by omega
      have HCD : Hid (chkD T R = (vE, vA)) := hide_ (by rw [← chk_deep (R := R) HA.out]; exact HC.out)
      have HDp := hide_ (depths_any a c (.slice ar R.length cr) T wq (by omega) hL (hide_ (hT.out.later (below_to HB0.out HB.out))) HA)
      go_wp2_with fail
      refine HDp.out.mono ?_; rintro e w1 ⟨vd, rfl, HO1, hB1⟩
      have HB1 := hide_ (below_to HB.out hB1.out)
      obtain ⟨ad, cd, hvd, hrow, -⟩ := own_open HO1.out rfl
      subst hvd
      rw [depL_len]
      have HRow := hide_ hrow
      have HDL := hide_ (depL_len T)
      clear hB1 i0 i1 HDp hrow HO1
      go_wp2_with fail
      go_loop [5] (fun x5 => ∃ i : Nat, i ≤ T.length ∧ x5 = .int .i64 (i : Int) ∧ Hid (∀ j, j < i → (depL T).getD j 0 ≤ 64)) (fun x5 => T.length - (intOf x5).toNat)
      case atStart => exact ⟨0, Nat.zero_le _, rfl, hide_ (fun j hj => by omega)⟩
      case round =>
        obtain ⟨i, hi, rfl, HD⟩ := hrel
        by_cases hlt : i < T.length
        · have hlt' : (i : Int) < T.length := by omega
          obtain ⟨bd, od, rfl, -, hcd⟩ := HRow.out.open (by rw [HDL.out]; omega)
          have c1 := hcd i (by rw [HDL.out]; omega)
          obtain ⟨d, hd⟩ : ∃ d, (depL T).getD i 0 = d := ⟨_, rfl⟩
          rw [hd] at c1
          have HDi := hide_ hd
          clear hcd hd
          by_cases hgt : 64 < d
          · have HV : Hid (vE = 83 ∧ vA = (i : Int)) := hide_ (by
              have h := chkD_at (R := R) hlt (by rw [HDi.out]; exact hgt) HD.out
              rw [HCD.out] at h
              injection h with h1 h2
              exact ⟨h1, h2⟩)
            have KF := hide_ (K2.out.later HB1.out)
            have l0 := KF.out.cell 0; have l1 := KF.out.cell 1
            simp at l0 l1
            have f0 := fun i => KF.out.frozen i
            have HK := hide_ (wr2 KF.out (.int .i64 83) (.int .i64 (i : Int)))
            have HBf := hide_ (below_wr2 (below_to HB0.out HB1.out) (w.heap.size + 1) (by omega) (.int .i64 83) (.int .i64 (i : Int)))
            go_wp2
            refine retF (x := 83) (y := (i : Int)) rfl rfl HK.out ⟨by rw [HV.out.1, HV.out.2], HBf.out⟩
          · have HD2 : Hid (∀ j, j < i + 1 → (depL T).getD j 0 ≤ 64) := hide_ (fun j hj => by
              rcases Nat.lt_or_ge j i with h | h
              · exact HD.out j h
              · obtain rfl : j = i := by omega
                rw [HDi.out]; omega)
            go_wp2_with fail
            go_round
            case rel => exact ⟨i + 1, by omega, by go_num, HD2⟩
            case measure => simp [intOf]; omega
        · obtain rfl : i = T.length := by omega
          have HCR : Hid (chkR T.length R = (vE, vA)) := hide_ (by rw [← chkD_none (R := R) HD.out]; exact HCD.out)
          clear HRow HD
          go_wp2_with fail
          go_loopw [6] (fun x6 wr => ∃ i : Nat, i ≤ R.length ∧ x6 = .int .i64 (i : Int) ∧ Hid (∀ j, j < i → rootOk T.length R j = true) ∧ Hid (Below w0.heap.size w0 wr)) (fun x6 _ => R.length - (intOf x6).toNat)
          case atStart => exact ⟨0, Nat.zero_le _, rfl, hide_ (fun j hj => by omega), HB1⟩
          case round =>
            obtain ⟨i, hi, rfl, HAr, HBr⟩ := hrel
            generalize wr = wq at *
            have KSq := hide_ (K1.out.later HBr.out)
            have i0 := KSq.out.cell 0; have i1 := KSq.out.cell 1
            simp at i0 i1
            by_cases hlt : i < R.length
            · have hlt' : (i : Int) < R.length := by omega
              obtain ⟨b, o, rfl, hb, hc⟩ := (hR.out.later (below_to HB0.out HBr.out)).open (by omega)
              have hx : R[i]? = some (R[i]'hlt) := List.getElem?_eq_getElem hlt
              have hcx := hc i _ hx
              have HX := hide_ hx
              generalize R[i]'hlt = r at *
              have r0 := hcx 0 (by decide); have r1 := hcx 1 (by decide)
              simp [rtc] at r0 r1
              have HDoc := hide_ (rootOk_doc (n := T.length) HX.out)
              obtain ⟨nm, hnm⟩ : ∃ x, isName r.name = x := ⟨_, rfl⟩
              obtain ⟨bn, hbn⟩ : ∃ x, inB r.ty T.length = x := ⟨_, rfl⟩
              rw [hnm, hbn] at HDoc
              have HNm : Hid (∀ w, Calls Try.prog 31 #[.string r.name] w fun e w' => e = .returned (.bool nm) ∧ w = w') := hide_ (fun w => by have h := nameD_any r.name w; rwa [hnm] at h)
              have HIn : Hid (∀ w, Calls Try.prog 32 #[.int .i64 r.ty, .int .i64 0, .int .i64 ((T.length : Int) - 1)] w fun e w' => e = .returned (.bool bn) ∧ w = w') := hide_ (fun w => by have h := inR_any r.ty 0 ((T.length : Int) - 1) w; rwa [inR_at, hbn] at h)
              have hwt : wrap64 ((T.length : Int) - 1) = (T.length : Int) - 1 := w64 _ (by omega)
              obtain ⟨b0, hb0⟩ : ∃ x, (decide (i < 256) && nm && bn) = x := ⟨_, rfl⟩
              rw [hb0] at HDoc
              have HB00 := hide_ hb0
              have HRq := hide_ (hR.out.later (below_to HB0.out HBr.out))
              clear hc hx hcx hnm hbn hb0 hb
              go_upto_region 15 with fail
              go_cut [7] from 47 to 71 (fun x7 wc => x7 = .bool b0 ∧ ∃ w1, w1 = wc ∧ Hid (Below wq.heap.size wq w1))
              case first =>
                by_cases h256 : i < 256
                · have h256' : (i : Int) < 256 := by omega
                  have hB := HB00.out
                  rw [decide_eq_true h256] at hB
                  cases nm with
                  | false =>
                    obtain rfl : false = b0 := by rw [← hB]; rfl
                    clear hB
                    go_wp2_with fail
                    go_quiet (first | (go_at_call 31; exact Calls.quiet_of_same ((HNm.out _).mono fun _ _ h => ⟨h.1, h.2.symm⟩)))
                    go_wp2
                    go_meet
                    case rel => exact ⟨rfl, _, rfl, hide_ (below_drewN (Below.refl _ wq) nq)⟩
                  | true =>
                    obtain rfl : bn = b0 := by rw [← hB]; rfl
                    clear hB
                    go_wp2_with fail
                    go_quiet (first | (go_at_call 31; exact Calls.quiet_of_same ((HNm.out _).mono fun _ _ h => ⟨h.1, h.2.symm⟩)) | (go_at_call 32; exact Calls.quiet_of_same ((HIn.out _).mono fun _ _ h => ⟨h.1, h.2.symm⟩)))
                    go_wp2
                    go_meet
                    case rel => exact ⟨rfl, _, rfl, hide_ (below_drewN (Below.refl _ wq) nq)⟩
                · have h256' : decide ((i : Int) < 256) = false := decide_eq_false (by omega)
                  obtain rfl : false = b0 := by rw [← HB00.out, decide_eq_false h256]; rfl
                  go_wp2_with fail
                  go_quiet (fail)
                  go_wp2
                  go_meet
                  case rel => exact ⟨rfl, _, rfl, hide_ (below_drewN (Below.refl _ wq) nq)⟩
              case rest =>
              obtain ⟨rfl, w1, rfl, HBc⟩ := hcut
              clear i0 i1 r0 r1 HNm HIn HB00
              go_wp2_with fail
              go_loopw [7, 8] (fun x7 x8 wr => ∃ (j : Nat) (ok : Bool), j ≤ i ∧ x8 = .int .i64 (j : Int) ∧ x7 = .bool ok ∧ Hid ((b0 && !sameN R r.name j) = ok) ∧ Hid (Below wq.heap.size wq wr)) (fun _ x8 _ => i - (intOf x8).toNat)
              case atStart => exact ⟨0, b0, Nat.zero_le _, rfl, rfl, hide_ (by simp [sameN]), HBc⟩
              case round =>
                obtain ⟨j, ok, hj, rfl, rfl, HOk, HBj⟩ := hrel
                generalize wr = wp at *
                clear HBc
                have KSp := hide_ (KSq.out.later HBj.out)
                have i0 := KSp.out.cell 0; have i1 := KSp.out.cell 1
                simp at i0 i1
                have HBw := hide_ (below_to HBr.out HBj.out)
                by_cases hji : j < i
                · have hji' : (j : Int) < i := by omega
                  have hjl : j < R.length := by omega
                  have hjl' : (j : Int) < R.length := by omega
                  obtain ⟨b', o', hax, -, hc⟩ := (HRq.out.later HBj.out).open (by omega)
                  injection hax with hax
                  injection hax with e1 e2 _
                  subst e1 e2
                  have hx : R[j]? = some (R[j]'hjl) := List.getElem?_eq_getElem hjl
                  have q0 := hc j _ hx 0 (by decide)
                  have p0 := hc i _ HX.out 0 (by decide)
                  have HS := hide_ (sameN_succ (nm := r.name) hx)
                  generalize R[j]'hjl = q at *
                  simp [rtc] at q0 p0
                  clear hc hx
                  cases ok with
                  | false =>
                    have HO2 : Hid ((b0 && !sameN R r.name (j + 1)) = false) := hide_ (by
                      have h := HOk.out
                      rw [HS.out]
                      cases b0
                      · rfl
                      · simp at h ⊢; simp [h])
                    go_wp2_with fail
                    go_quiet (fail)
                    have HBq := hide_ (below_drewN HBj.out nq)
                    go_wp2_with fail
                    go_roundw
                    case rel => exact ⟨j + 1, false, by omega, by go_num, rfl, HO2, HBq⟩
                    case measure => simp [intOf]; omega
                  | true =>
                    by_cases he : q.name = r.name
                    · have hs : (q.name.toList == r.name.toList) = true := by rw [he]; simp
                      have hs2 : (q.name.toList != r.name.toList) = false := by rw [he]; simp
                      have HO2 : Hid ((b0 && !sameN R r.name (j + 1)) = false) := hide_ (by rw [HS.out, decide_eq_true he]; simp)
                      clear he
                      go_wp2_with fail
                      go_quiet (fail)
                      have HBq := hide_ (below_drewN HBj.out nq)
                      go_wp2_with fail
                      go_roundw
                      case rel => exact ⟨j + 1, false, by omega, by go_num, rfl, HO2, HBq⟩
                      case measure => simp [intOf]; omega
                    · have hs : (q.name.toList == r.name.toList) = false := by rw [str_eq]; exact decide_eq_false he
                      have hs2 : (q.name.toList != r.name.toList) = true := by simp [bne, hs]
                      have HO2 : Hid ((b0 && !sameN R r.name (j + 1)) = true) := hide_ (by rw [HS.out, decide_eq_false he, Bool.or_false]; exact HOk.out)
                      clear he
                      go_wp2_with fail
                      go_quiet (fail)
                      have HBq := hide_ (below_drewN HBj.out nq)
                      go_wp2_with fail
                      go_roundw
                      case rel => exact ⟨j + 1, true, by omega, by go_num, rfl, HO2, HBq⟩
                      case measure => simp [intOf]; omega
                · obtain rfl : j = i := by omega
                  have HRo : Hid (rootOk T.length R j = ok) := hide_ (by rw [HDoc.out]; exact HOk.out)
                  cases ok with
                  | true =>
                    have HA2 : Hid (∀ q, q < j + 1 → rootOk T.length R q = true) := hide_ (fun q hq => by
                      rcases Nat.lt_or_ge q j with h | h
                      · exact HAr.out q h
                      · obtain rfl : q = j := by omega
                        exact HRo.out)
                    go_wp2_with fail
                    go_roundw
                    case rel => exact ⟨j + 1, by omega, by go_num, HA2, HBw⟩
                    case measure => simp [intOf]; omega
                  | false =>
                    have HV : Hid (vE = 92 ∧ vA = (T.length : Int) + j) := hide_ (by
                      have h := chkR_at hlt HRo.out HAr.out
                      rw [HCR.out] at h
                      injection h with h1 h2
                      exact ⟨h1, h2⟩)
                    have KF := hide_ (K2.out.later HBw.out)
                    have l0 := KF.out.cell 0; have l1 := KF.out.cell 1
                    simp at l0 l1
                    have f0 := fun i => KF.out.frozen i
                    have hwr : wrap64 ((T.length : Int) + j) = (T.length : Int) + j := w64 _ (by omega)
                    have HK := hide_ (wr2 KF.out (.int .i64 92) (.int .i64 ((T.length : Int) + j)))
                    have HBf := hide_ (below_wr2 (below_to HB0.out HBw.out) (w.heap.size + 1) (by omega) (.int .i64 92) (.int .i64 ((T.length : Int) + j)))
                    go_wp2
                    refine retF (x := 92) (y := (T.length : Int) + j) rfl rfl HK.out ⟨by rw [HV.out.1, HV.out.2], HBf.out⟩
            · obtain rfl : i = R.length := by omega
              have HV : Hid (vE = 0 ∧ vA = 0) := hide_ (by
                have h := chkR_none HAr.out
                rw [HCR.out] at h
                injection h with h1 h2
                exact ⟨h1, h2⟩)
              have KF := hide_ (K2.out.later HBr.out)
              have l0 := KF.out.cell 0; have l1 := KF.out.cell 1
              simp at l0 l1
              have f0 := fun i => KF.out.frozen i
              have HK := hide_ (wr2 KF.out (.int .i64 0) (.int .i64 0))
              have HBf := hide_ (below_wr2 (below_to HB0.out HBr.out) (w.heap.size + 1) (by omega) (.int .i64 0) (.int .i64 0))
              go_wp2
              refine retF (x := 0) (y := 0) rfl rfl HK.out ⟨by rw [HV.out.1, HV.out.2], HBf.out⟩
end Go.Proofs.Ytncndgfaalojpaa
