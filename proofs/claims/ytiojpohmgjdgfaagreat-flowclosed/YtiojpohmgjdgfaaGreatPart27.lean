import Derived.Test.YtiojpohmgjdgfaaGreatPart26
import Derived.Test.YtiojpohmgjdgfaaGreatPart02
import Derived.Sort.OwnSortedInts
import Derived.Lib.OwnBridge
import Derived.Deep.LoopGhost
import Derived.BigQuiet

/- flow: hasTarget, followers, successors. -/
namespace Go.Proofs.YtiojpohmgjdgfaaGreat
open Go.RowKit
set_option linter.unusedVariables false
set_option linter.unusedSimpArgs false

set_option maxRecDepth 100000 in
set_option maxHeartbeats 16000000 in
theorem hasT_any (op : Int) (w : World) : Calls Tryz.prog 52 #[.int .i64 op] w fun e w' => e = .returned (.bool (htP op)) ∧ w = w' := by
  obtain ⟨d, hd⟩ : ∃ d, htP op = d := ⟨_, rfl⟩
  rw [hd]
  unfold htP at hd
  have Hd := hide_ hd
  clear hd
  cases d
  · have h := of_decide_eq_false Hd.out
    have f1 : (op == 7) = false := by simp; omega
    have f2 : (op == 9) = false := by simp; omega
    have f3 : (op == 11) = false := by simp; omega
    have f4 : (op == 12) = false := by simp; omega
    have f5 : (op == 13) = false := by simp; omega
    have f6 : (op == 14) = false := by simp; omega
    have f7 : (op == 15) = false := by simp; omega
    have f8 : (op == 19) = false := by simp; omega
    have f9 : (op == 40) = false := by simp; omega
    have f10 : (op == 47) = false := by simp; omega
    clear h
    go_enter Tryz.func52, Tryz.ntmps52
    go_wp2
    go_ret
    exact ⟨rfl, rfl⟩
  · have h := of_decide_eq_true Hd.out
    have H := hide_ h
    clear h Hd
    go_enter Tryz.func52, Tryz.ntmps52
    rcases H.out with rfl | rfl | rfl | rfl | rfl | rfl | rfl | rfl | rfl | rfl <;> (clear H; go_wp2; go_ret; exact ⟨rfl, rfl⟩)
set_option maxRecDepth 100000 in
set_option maxHeartbeats 16000000 in
theorem fol_any (x : In) (w : World) : Calls Tryz.prog 53 #[.agg #[.int .i64 x.op, .int .i64 x.a, .int .i64 x.b, .int .i64 x.c]] w fun e w' => e = .returned (.int .i64 (folP x)) ∧ Below w.heap.size w w' := by
  obtain ⟨r, hr⟩ : ∃ r, folP x = r := ⟨_, rfl⟩
  rw [hr]
  unfold folP at hr
  have HR := hide_ hr
  clear hr
  obtain ⟨w1, hw1⟩ : ∃ wx, w.alloc (.cells #[.int .i64 x.op, .int .i64 x.a, .int .i64 x.b, .int .i64 x.c] 43) = wx := ⟨_, rfl⟩
  have HB1 : Hid (Below w.heap.size w w1) := hide_ (by rw [← hw1]; exact below1 _ _)
  have KX : Blk w1 w.heap.size 43 (inc x) := by rw [← hw1]; exact Blk.newA w _ _
  obtain ⟨i0, i1, i2, i3⟩ := KX.ci
  clear KX
  by_cases h20 : x.op = 20 ∨ x.op = 19 ∨ x.op = 9
  · have e1 : r = 0 := by have h := HR.out; rw [if_pos h20] at h; exact h.symm
    subst e1
    have H := hide_ h20
    clear h20 HR
    go_enter Tryz.func53, Tryz.ntmps53
    go_upto_region 1 with fail
    try rw [hw1]
    clear hw1
    rcases H.out with h | h | h <;> (rw [h] at i0; clear H h; go_wp2; go_ret; exact ⟨rfl, HB1.out⟩)
  have f1 : (x.op == 20) = false := by simp; omega
  have f2 : (x.op == 19) = false := by simp; omega
  have f3 : (x.op == 9) = false := by simp; omega
  by_cases h8 : x.op = 8 ∨ x.op = 41
  · have e1 : r = x.a := by have h := HR.out; rw [if_neg h20, if_pos h8] at h; exact h.symm
    subst e1
    have H := hide_ h8
    clear h20 h8 HR f1 f2 f3
    go_enter Tryz.func53, Tryz.ntmps53
    go_upto_region 1 with fail
    try rw [hw1]
    clear hw1
    rcases H.out with h | h <;> (rw [h] at i0; clear H h; go_wp2; go_ret; exact ⟨rfl, HB1.out⟩)
  · have f4 : (x.op == 8) = false := by simp; omega
    have f5 : (x.op == 41) = false := by simp; omega
    have e1 : r = 1 := by have h := HR.out; rw [if_neg h20, if_neg h8] at h; exact h.symm
    subst e1
    clear h20 h8 HR
    go_enter Tryz.func53, Tryz.ntmps53
    go_upto_region 1 with fail
    try rw [hw1]
    clear hw1
    go_wp2
    go_ret
    exact ⟨rfl, HB1.out⟩
/-! ### Sort and Compact of a list of the call's own -/
theorem IOwn.sorted {w : World} {B g n cap : Nat} {l : List Int} (h : IOwn w B (.slice (some ⟨g, 0, none⟩) n cap) l) (hn : l.length = n) (h0 : 0 < n) (hl : n < 4611686018427387904) :
    Calls Tryz.prog 54 #[.slice (some ⟨g, 0, none⟩) n cap] w fun e w' => e = .returned (.tuple #[]) ∧ Hid (IOwn w' B (.slice (some ⟨g, 0, none⟩) n cap) (l.mergeSort fun x y => decide (x ≤ y))) ∧ Hid (Upd (fun q => q = g) w w') := by
  subst hn
  have hh := h
  unfold IOwn at hh
  rcases hh.2 with ⟨h1, _⟩ | ⟨g', cap', cur, hv, hbase, hb, h1, h2, h3, h4⟩
  · cases h1
  cases hv
  have hl2 : (l.mergeSort fun x y => decide (x ≤ y)).length = l.length := List.length_mergeSort l
  have hH : Go.Sort.Holds (Value.int .i64) w g 0 l.toArray := holds_of_blockI hb (by simpa [cellsL] using h4)
  refine (Tryz.slices_Sort_int g 0 cap l w hH (by exact (Array.getElem?_eq_some_iff.1 hb).1) hl).mono ?_
  rintro e w' ⟨rfl, nn, os, rfl⟩
  have hs := ownsRow_sortedI (n := nn) (os := os) (ts := l.mergeSort fun x y => decide (x ≤ y)) hl2 hbase hb h1 h2 h3
  refine ⟨rfl, hide_ ?_, hide_ ?_⟩
  · unfold IOwn
    rw [hl2]
    exact hs
  · exact (Upd.refl _ w).grown (grownBy_sortedI _) (fun k e => .inl (by injection e with e; exact e.symm))
theorem IOwn.compacted {w : World} {B g n cap : Nat} {l : List Int} (h : IOwn w B (.slice (some ⟨g, 0, none⟩) n cap) l) (hn : l.length = n) (h0 : 0 < n) (hl : n < 4611686018427387904) :
    Calls Tryz.prog 55 #[.slice (some ⟨g, 0, none⟩) n cap] w fun e w' => e = .returned (.slice (some ⟨g, 0, none⟩) (Go.Lib.compact l).length cap) ∧ Hid (IOwn w' B (.slice (some ⟨g, 0, none⟩) (Go.Lib.compact l).length cap) (Go.Lib.compact l)) ∧ Hid (Upd (fun q => q = g) w w') := by
  subst hn
  have hh := h
  unfold IOwn at hh
  rcases hh.2 with ⟨h1, _⟩ | ⟨g', cap', cur, hv, hbase, hb, h1, h2, h3, h4⟩
  · cases h1
  cases hv
  have hH : Go.Sort.Holds (Value.int .i64) w g 0 l.toArray := holds_of_blockI hb (by simpa [cellsL] using h4)
  refine (Tryz.slices_Compact_int g 0 cap l w hH (by omega) h1).mono ?_
  rintro e w' ⟨rfl, q, rfl⟩
  have hle := Go.Lib.compact_length_le l
  have hc := Go.Lib.ownsRow_putRow (enc := Value.int .i64) (q := q) (k := (Go.Lib.compact l).length) (ys := Go.Lib.compact l ++ List.replicate (l.length - (Go.Lib.compact l).length) 0) (zs := l) hh (by simp; omega) hle
  rw [List.take_left] at hc
  refine ⟨rfl, hide_ hc, hide_ ⟨rfl, rfl, rfl, ?_, fun k hk hn => ?_⟩⟩
  · simp [Go.Sort.putRow, Go.Sort.mapBlock, Go.Sort.ahead]
  · simp [Go.Sort.putRow, Go.Sort.mapBlock, Go.Sort.ahead, Array.getElem?_modify, show g ≠ k from fun e => hn e.symm]
set_option maxRecDepth 100000 in
set_option maxHeartbeats 16000000 in
theorem suc_any (enc : Bool) (ac : Option Addr) (cc : Nat) (C : List In) (E : List Int) (k : Nat) (w : World) (hk : k < C.length) (hK : Hid (Chk enc C E)) (hC : Hid (IRow w ac C)) :
    Calls Tryz.prog 32 #[.slice ac C.length cc, .int .i64 (k : Int)] w fun e w' => ∃ v, e = .returned v ∧ Hid (IOwn w' w.heap.size v (sucP C k)) ∧ Hid (Below w.heap.size w w') := by
  obtain ⟨bc, oc, hac, -⟩ := hC.out.open (by omega)
  subst hac
  obtain ⟨x, hx⟩ : ∃ x, C[k]? = some x := ⟨_, List.getElem?_eq_getElem hk⟩
  have hxA : inA C k = x := inA_at hx
  have hfo := chk_fol hK.out hk
  rw [hxA] at hfo
  obtain ⟨m, hm⟩ := Int.eq_ofNat_of_zero_le hfo.1
  obtain ⟨n, hn⟩ : ∃ n, C.length = n := ⟨_, rfl⟩
  have hnb : n ≤ 1048576 := by rw [← hn]; exact hK.out.nc
  have HS : Hid (∀ l : List Int, l = (if htP x.op = true then [x.b] else []) ++ flP n k m → Go.Lib.compact (l.mergeSort fun x y => decide (x ≤ y)) = sucP C k) := hide_ (fun l hl => by
    rw [← suc_is C k]
    unfold rawP
    rw [hxA, hm, hn, Int.toNat_natCast, hl])
  obtain ⟨L0, hL0⟩ : ∃ L0, (if htP x.op = true then [x.b] else []) = L0 := ⟨_, rfl⟩
  rw [hL0] at HS
  have hL1 : L0.length ≤ 1 := by rw [← hL0]; split <;> simp
  obtain ⟨w1, hw1⟩ : ∃ wx, w.alloc (.cells #[.int .i64 x.op, .int .i64 x.a, .int .i64 x.b, .int .i64 x.c] 43) = wx := ⟨_, rfl⟩
  have HB1 : Hid (Below w.heap.size w w1) := hide_ (by rw [← hw1]; exact below1 _ _)
  have HX1 : Hid (Blk w1 w.heap.size 43 (inc x)) := hide_ (by rw [← hw1]; exact Blk.newA w _ _)
  obtain ⟨i0, i1, i2, i3⟩ := HX1.out.ci
  obtain ⟨j0, j1, j2, j3⟩ := hC.out.at hx
  have HF : Hid (∀ w3 : World, Calls Tryz.prog 53 #[.agg #[.int .i64 x.op, .int .i64 x.a, .int .i64 x.b, .int .i64 x.c]] w3 fun e w' => e = .returned (.int .i64 (m : Int)) ∧ Hid (Below w3.heap.size w3 w')) := hide_ (fun w3 => (fol_any x w3).mono (by
    rintro e w' ⟨rfl, h⟩
    exact ⟨by rw [hm], hide_ h⟩))
  obtain ⟨d, hd⟩ : ∃ d, htP x.op = d := ⟨_, rfl⟩
  have HT := hide_ (hasT_any x.op w1)
  rw [hd] at HT hL0
  have HL0 := hide_ hL0
  have HL1 := hide_ hL1
  rw [hn] at hk
  have hkn : (k : Int) < (n : Int) := by omega
  have hm64 : m ≤ 64 := by omega
  rw [hn]
  clear hx hxA hfo hm hn hd hL0 hL1 hC hK
  go_enter Tryz.func32, Tryz.ntmps32
  go_upto_region 3 with fail
  try rw [hw1]
  clear hw1 j0 j1 j2 j3
  go_wp2_with fail
  refine HT.out.mono ?_
  rintro e w2 ⟨rfl, rfl⟩
  go_upto_if 14 with fail
  go_cut [5] from 14 to 19 (fun x5 wc => ∃ (v5 : Value) (w4 : World), v5 = x5 ∧ w4 = wc ∧ Hid (IOwn w4 w.heap.size v5 L0) ∧ Hid (Below w1.heap.size w1 w4))
  case first =>
    cases d
    · have e1 : L0 = [] := by rw [← HL0.out]; rfl
      go_wp2_with fail
      go_meet
      case rel => exact ⟨_, _, rfl, rfl, hide_ (by rw [e1]; exact IOwn.nil _ _), hide_ (Below.refl _ _)⟩
    · have e1 : L0 = [x.b] := by rw [← HL0.out]; rfl
      obtain ⟨g, c, w3, hr3, hO3, hU3, -⟩ := (IOwn.nil w1 w.heap.size).push x.b (by simp) HB1.out.size
      have HRun := hide_ hr3
      have HO3 := hide_ hO3
      have HB3 := hide_ (hU3.below w1.heap.size (Nat.le_refl _) (fun q e => by cases e))
      have He := hide_ e1
      clear hr3 hO3 hU3 e1
      go_wp2_with (first | (at_builtin; refine wpList_append_run rfl (.tmp 15) (.tmp 18) 23 23 rfl rfl rfl HRun.out ?_; clear HRun) | fail)
      go_meet
      case rel => exact ⟨_, _, rfl, rfl, hide_ (by rw [He.out]; exact HO3.out), HB3⟩
  case rest =>
  obtain ⟨v5, w4, rfl, rfl, HO4, HB4⟩ := hcut
  have HX4 := hide_ (HX1.out.later HB4.out)
  have HBw := hide_ (below_to HB1.out HB4.out)
  clear HX1 HB1 HB4 HT HL0 i0 i1 i2 i3
  go_wp2_with fail
  go_loopw [5, 7] (fun x5 x7 wr => ∃ (j : Nat) (v : Value), v = x5 ∧ j ≤ m ∧ x7 = .int .i64 ((k : Int) + 1 + (j : Int)) ∧ Hid (IOwn wr w.heap.size v (L0 ++ flP n k j)) ∧ Hid (Blk wr w.heap.size 43 (inc x)) ∧ Hid (Below w.heap.size w wr)) (fun _ x7 _ => k + 1 + m - (intOf x7).toNat)
  case atStart => exact ⟨0, _, rfl, by omega, by go_num, hide_ (by rw [flP, List.append_nil]; exact HO4.out), HX4, HBw⟩
  case round =>
    clear HO4 HX4 HBw
    obtain ⟨j, v, rfl, hj, rfl, HOj, HXj, HBj⟩ := hrel
    generalize wr = wq at *
    obtain ⟨i0, i1, i2, i3⟩ := HXj.out.ci
    have HFj := hide_ (HF.out wq)
    go_wp2_with fail
    refine HFj.out.mono ?_
    rintro e w5 ⟨rfl, HB5⟩
    have HO5 := hide_ (HOj.out.later HB5.out)
    have HX5 := hide_ (HXj.out.later HB5.out)
    have HBw := hide_ (below_to HBj.out HB5.out)
    have HLl : Hid ((L0 ++ flP n k j).length ≤ 100) := hide_ (by
      have h1 := fl_len (n := n) (k := k) j
      have h2 := HL1.out
      rw [List.length_append]
      omega)
    clear HOj HXj HBj HB5 HFj i0 i1 i2 i3
    have hw1 : IntKind.i64.wrap ((k : Int) + (m : Int)) = (k : Int) + (m : Int) := i64w _ (by omega)
    by_cases hlt : j < m
    · have hle : (k : Int) + 1 + (j : Int) ≤ (k : Int) + (m : Int) := by omega
      have hw2 : IntKind.i64.wrap ((k : Int) + 1 + (j : Int) + 1) = (k : Int) + 1 + ((j + 1 : Nat) : Int) := by rw [i64w _ (by omega)]; omega
      by_cases hin : k + j + 1 < n
      · have hin' : (k : Int) + 1 + (j : Int) < (n : Int) := by omega
        obtain ⟨g, c, w6, hr6, hO6, hU6, -⟩ := HO5.out.push ((k : Int) + 1 + (j : Int)) (by have := HLl.out; omega) HBw.out.size
        have HRun := hide_ hr6
        have HO6 : Hid (IOwn w6 w.heap.size (.slice (some ⟨g, 0, none⟩) ((L0 ++ flP n k j).length + 1) c) (L0 ++ flP n k (j + 1))) := hide_ (by
          rw [flP, if_pos hin, ← List.append_assoc, show ((k + j + 1 : Nat) : Int) = (k : Int) + 1 + (j : Int) by omega]
          exact hO6)
        have HX6 := hide_ (HX5.out.upd hU6 (fun e => HO5.out.neB HX5.out (by decide) e))
        have HB6 := hide_ (below_to2 HBw.out hU6 (fun q e => (HO5.out.lies e).1))
        clear hr6 hO6 hU6 HO5 HX5 HBw hin
        go_wp2_with (first | (at_builtin; refine wpList_append_run rfl (.tmp 34) (.tmp 36) 23 23 rfl rfl rfl HRun.out ?_; clear HRun) | fail)
        go_roundw
        case rel => exact ⟨j + 1, _, rfl, by omega, by go_num, hide_ (by have h1 := HO6.out; rw [List.length_append] at h1; exact h1), HX6, HB6⟩
        case measure => simp [intOf]; omega
      · have hin' : ¬ (k : Int) + 1 + (j : Int) < (n : Int) := by omega
        have HO6 : Hid (IOwn w5 w.heap.size v (L0 ++ flP n k (j + 1))) := hide_ (by
          rw [flP, if_neg hin, List.append_nil]
          exact HO5.out)
        clear HO5 hin
        go_wp2_with fail
        go_roundw
        case rel => exact ⟨j + 1, _, rfl, by omega, by go_num, HO6, HX5, HBw⟩
        case measure => simp [intOf]; omega
    · have hle : ¬ (k : Int) + 1 + (j : Int) ≤ (k : Int) + (m : Int) := by omega
      have ej : j = m := by omega
      have HSj := hide_ (HS.out (L0 ++ flP n k j) (by rw [ej]))
      obtain ⟨l, hl⟩ : ∃ l, L0 ++ flP n k j = l := ⟨_, rfl⟩
      rw [hl] at HSj HO5 HLl
      clear hl ej HS HX5
      by_cases h0 : l = []
      · subst h0
        obtain ⟨a, c, hv⟩ := HO5.out.slice
        have hv : v = .slice a 0 c := hv
        subst hv
        have HZ : Hid (IOwn w5 w.heap.size (.slice a 0 c) (sucP C k)) := hide_ (by
          rw [← HSj.out]
          have e : Go.Lib.compact (([] : List Int).mergeSort fun x y => decide (x ≤ y)) = [] := by simp [Go.Lib.compact, Go.Lib.compactUpTo]
          rw [e]
          exact HO5.out)
        clear HO5 HSj
        go_wp2_with fail
        refine (Tryz.slices_Sort_int_none a c w5).mono ?_
        rintro e w6 ⟨rfl, rfl⟩
        go_wp2_with fail
        refine (Tryz.slices_Compact_int_empty a c w6).mono ?_
        rintro e w7 ⟨rfl, rfl⟩
        go_wp2_with fail
        go_ret
        exact ⟨_, rfl, HZ, HBw⟩
      · have hl0 : 0 < l.length := List.length_pos_iff.2 h0
        obtain ⟨g, c, hv, hcv, hgB, hgL⟩ := HO5.out.open hl0
        subst hv
        have hlb : l.length < 4611686018427387904 := by have := HLl.out; omega
        have HSo := hide_ (HO5.out.sorted rfl hl0 hlb)
        have Hg := hide_ hgB
        have Hlb := hide_ hlb
        have Hl0 := hide_ hl0
        clear hcv hgL hgB hlb h0 HLl hl0
        obtain ⟨q, hq⟩ : ∃ q, l.length = q := ⟨_, rfl⟩
        have Hq := hide_ hq
        rw [hq] at HSo
        rw [hq]
        clear hq
        go_wp2_with fail
        refine HSo.out.mono ?_
        rintro e w6 ⟨rfl, HO6, HU6⟩
        have HCo := hide_ (HO6.out.compacted (by rw [List.length_mergeSort]; exact Hq.out) (by rw [← Hq.out]; exact Hl0.out) (by rw [← Hq.out]; exact Hlb.out))
        rw [HSj.out] at HCo
        have HB6 := hide_ (below_to2 HBw.out HU6.out (fun q e => by rw [e]; exact Hg.out))
        clear HSo HO5 HU6 HBw HO6
        go_wp2_with fail
        refine HCo.out.mono ?_
        rintro e w7 ⟨rfl, HO7, HU7⟩
        have HB7 := hide_ (below_to2 HB6.out HU7.out (fun q e => by rw [e]; exact Hg.out))
        go_wp2_with fail
        go_ret
        exact ⟨_, rfl, HO7, HB7⟩
end Go.Proofs.YtiojpohmgjdgfaaGreat

/- flow: Clone; reached. -/
namespace Go.Proofs.YtiojpohmgjdgfaaGreat
open Go.RowKit
set_option linter.unusedVariables false
set_option linter.unusedSimpArgs false

theorem IOwn.wider {w : World} {B B' : Nat} {v : Value} {l : List Int} (h : IOwn w B v l) (hB : B' ≤ B) : IOwn w B' v l := by
  unfold IOwn at h ⊢
  refine ⟨h.1, ?_⟩
  rcases h.2 with h1 | ⟨g, cap, cur, hv, hbase, h2⟩
  · exact .inl h1
  · exact .inr ⟨g, cap, cur, hv, Nat.le_trans hB hbase, h2⟩
theorem clone_any (ae : Option Addr) (ce : Nat) (E : List Int) (w : World) (hl : E.length ≤ 1048576) (h : Row .i64 w ae E) :
    Calls Tryz.prog 48 #[.slice ae E.length ce] w fun e w' => ∃ v, e = .returned v ∧ Hid (IOwn w' w.heap.size v E) ∧ Hid (Below w.heap.size w w') := by
  by_cases h0 : E = []
  · subst h0
    cases ae with
    | none =>
      refine (Tryz.slices_Clone_int_nil 0 ce w).mono ?_
      rintro e w' ⟨rfl, rfl⟩
      exact ⟨_, rfl, hide_ (IOwn.nil _ _), hide_ (Below.refl _ _)⟩
    | some x =>
      refine (Tryz.slices_Clone_int_zero x ce w).mono ?_
      rintro e w' ⟨v, rfl, h1, -, h2⟩
      exact ⟨v, rfl, hide_ h1, hide_ h2⟩
  · obtain ⟨b, off, rfl, -, hc⟩ := h.open (List.length_pos_iff.2 h0)
    refine (Tryz.slices_Clone_int b off E.length ce E w (Nat.le_refl _) (by omega) hc).mono ?_
    rintro e w' ⟨v, rfl, h1, -, h2⟩
    rw [List.take_length] at h1
    exact ⟨v, rfl, hide_ h1, hide_ h2⟩
/-- What reached answers. -/
def ReTo (w : World) (n : Nat) (C : List In) (E : List Int) (e : Ending) (w' : World) : Prop := ∃ (R : List Bool) (g : Nat), e = .returned (.slice (some ⟨g, 0, none⟩) n n) ∧ ReOk C E R ∧ Blk w' g 4 (R.map Value.bool) ∧ w.heap.size ≤ g ∧ Below w.heap.size w w'
set_option maxRecDepth 100000 in
set_option maxHeartbeats 16000000 in
theorem reached_any (enc : Bool) (ac ae : Option Addr) (cc ce : Nat) (C : List In) (E : List Int) (w : World) (hK : Hid (Chk enc C E)) (hC : Hid (IRow w ac C)) (hE : Hid (Row .i64 w ae E)) :
    Calls Tryz.prog 29 #[.agg #[.bool enc, .slice ac C.length cc, .slice ae E.length ce]] w fun e w' => ReTo w C.length C E e w' := by
  obtain ⟨n, hn⟩ : ∃ n, C.length = n := ⟨_, rfl⟩
  have hnb : n ≤ 1048576 := by rw [← hn]; exact hK.out.nc
  have heb : E.length ≤ 1048576 := hK.out.ne
  obtain ⟨w1, hw1⟩ : ∃ wx, w.alloc (.cells #[.bool enc, .slice ac C.length cc, .slice ae E.length ce] 25) = wx := ⟨_, rfl⟩
  have HB1 : Hid (Below w.heap.size w w1) := hide_ (by rw [← hw1]; exact below1 _ _)
  have HP1 : Hid (Blk w1 w.heap.size 25 [.bool enc, .slice ac C.length cc, .slice ae E.length ce]) := hide_ (by rw [← hw1]; exact Blk.newA w _ _)
  obtain ⟨gf, hgf⟩ : ∃ gf, w1.heap.size = gf := ⟨_, rfl⟩
  obtain ⟨w2, hmk, hK2, hB2⟩ : ∃ w2, (Instr.makeSlice 28 (.int .i64 (n : Int)) (.int .i64 (n : Int))).run Tryz.prog w1 = .ok (.slice (some ⟨w1.heap.size, 0, none⟩) n n) w2 ∧ Blk w2 w1.heap.size 4 ((List.replicate n false).map Value.bool) ∧ Below w1.heap.size w1 w2 := ⟨_, makeBo n (by omega) w1, newBo w1 n, below1 _ _⟩
  rw [hgf] at hmk hK2
  have HP2 := hide_ (HP1.out.later hB2)
  have HB2 := hide_ (below_to HB1.out hB2)
  have HC2 := hide_ (hC.out.later HB2.out)
  have HE2 := hide_ (hE.out.later HB2.out)
  have HK2 := hide_ hK2
  have Hgf : Hid (w.heap.size ≤ gf) := hide_ (by rw [← hgf]; exact HB1.out.size)
  have p0 := HP1.out.cell 0; have p1 := HP1.out.cell 1; have p2 := HP1.out.cell 2
  have q1 := HP2.out.cell 1; have q2 := HP2.out.cell 2
  simp at p0 p1 p2 q1 q2
  have HCl := hide_ (clone_any ae ce E w2 heb HE2.out)
  have HSu : Hid (∀ (k : Nat) (w3 : World), k < n → Below w.heap.size w w3 → Calls Tryz.prog 32 #[.slice ac n cc, .int .i64 (k : Int)] w3 fun e w' => ∃ v, e = .returned v ∧ Hid (IOwn w' w3.heap.size v (sucP C k)) ∧ Hid (Below w3.heap.size w3 w')) := hide_ (fun k w3 hk hB => by
    have := suc_any enc ac cc C E k w3 (by omega) hK (hide_ (hC.out.later hB))
    rw [hn] at this
    exact this)
  have Hn := hide_ hn
  rw [hn] at p1 q1 HP1 HP2 hw1
  rw [hn]
  have HI0 : Hid (ReI C E (List.replicate n false) E) := hide_ (by rw [← hn]; exact ReI.new hK.out)
  clear hn hB2 hK2 hgf hC hE HB1 HP1
  go_enter Tryz.func29, Tryz.ntmps29
  go_upto_region 1 with fail
  try rw [hw1]
  clear hw1
  go_step3
  go_wp2_with fail
  refine HCl.out.mono ?_
  rintro e w3 ⟨vE, rfl, HO3, HB3⟩
  have HP3 := hide_ (HP2.out.later HB3.out)
  have HK3 := hide_ (HK2.out.later HB3.out)
  have HBw := hide_ (below_to HB2.out HB3.out)
  have HO3w : Hid (IOwn w3 w.heap.size vE E) := hide_ (HO3.out.wider HB2.out.size)
  clear p0 p1 p2 q1 q2 hmk HCl HC2 HE2 HP2 HK2 HB2 HB3 HO3
  go_wp2_with fail
  go_step3
  go_wp2_with fail
  go_loopg [4, 5] (n * 100 + E.length) (fun gk x4 x5 wr => ∃ (F : List Bool) (W : List Int) (vw : Value), vw = x5 ∧ x4 = .int .i64 (nf F n : Int) ∧ Hid (nf F n * 100 + W.length = gk) ∧ Hid (gk ≤ n * 100 + E.length) ∧ Hid (ReI C E F W) ∧ Hid (Blk wr gf 4 (F.map Value.bool)) ∧ Hid (IOwn wr w.heap.size vw W) ∧ Hid (Blk wr w.heap.size 25 [.bool enc, .slice ac n cc, .slice ae E.length ce]) ∧ Hid (Below w.heap.size w wr))
  case atStart => exact ⟨List.replicate n false, E, _, rfl, by rw [nf_new], hide_ (by rw [nf_new]), hide_ (Nat.le_refl _), HI0, HK3, HO3w, HP3, HBw⟩
  case round =>
    clear HI0 HK3 HO3w HP3 HBw
    obtain ⟨F, W, vw, rfl, rfl, Hgk, Hgb, HIj, HKj, HOj, HPj, HBj⟩ := hrel
    generalize wr = wq at *
    by_cases h0 : W = []
    · subst h0
      obtain ⟨a, c, hv⟩ := HOj.out.slice
      have hv : vw = .slice a 0 c := hv
      subst hv
      have HX : Hid (ReTo w n C E (.returned (.slice (some ⟨gf, 0, none⟩) n n)) wq) := hide_ ⟨F, gf, rfl, HIj.out.fin hK.out, HKj.out, Hgf.out, HBj.out⟩
      go_wp2_with fail
      try rw [Exit.noGoto_ret]
      go_ret
      exact HX.out
    · have hl0 : 0 < W.length := List.length_pos_iff.2 h0
      obtain ⟨g, c, hv, hcv, hgB, hgL⟩ := HOj.out.open hl0
      obtain ⟨m, hm⟩ : ∃ m, W.length = m + 1 := ⟨W.length - 1, by omega⟩
      rw [hm] at hv hcv
      subst hv
      have ht := take_last hm
      obtain ⟨a1, a2, a3⟩ := sp_pop HIj.out.stn h0
      rw [show W.length - 1 = m by omega] at a1 a2
      obtain ⟨k, hk⟩ := Int.eq_ofNat_of_zero_le a1
      have HIk : Hid (ReI C E F (W.take m ++ [(k : Int)])) := hide_ (by rw [← hk, ← ht]; exact HIj.out)
      obtain ⟨cy, -⟩ := HOj.out.cellH (i := m) (by omega)
      rw [hk] at cy
      have hmb : m < 1000000000 := by have := Hgk.out; have := Hgb.out; omega
      have hw1 : IntKind.i64.wrap ((m : Int) + 1 - 1) = (m : Int) := by rw [i64w _ (by omega)]; omega
      have Hcut := hide_ (HOj.out.cutV (m := m) hm (by omega))
      have htk : (W.take m).length = m := by rw [List.length_take]; omega
      have Htk := hide_ htk
      have hcv' : (m : Int) + 1 ≤ (c : Int) := by omega
      have Hm : Hid (nf F n * 100 + m < gk) := hide_ (by have := Hgk.out; omega)
      obtain ⟨N0, hN0⟩ : ∃ N0, nf F n * 100 + m = N0 := ⟨_, rfl⟩
      rw [hN0] at Hm
      have HN0 := hide_ hN0
      clear ht a1 a2 a3 hk hm hl0 h0 htk HOj HIj hN0
      go_wp2_with fail
      go_loopg [4, 5, 6] (nf F n) (fun gi y4 y5 y6 wr => ∃ (F2 : List Bool) (W2 : List Int) (v2 : Value) (a : Nat), v2 = y5 ∧ y4 = .int .i64 (nf F2 n : Int) ∧ y6 = .int .i64 (a : Int) ∧ Hid (nf F2 n = gi) ∧ Hid (nf F2 n * 100 + W2.length ≤ N0) ∧ Hid (ReI C E F2 (W2 ++ [(a : Int)])) ∧ Hid (Blk wr gf 4 (F2.map Value.bool)) ∧ Hid (IOwn wr w.heap.size v2 W2) ∧ Hid (Blk wr w.heap.size 25 [.bool enc, .slice ac n cc, .slice ae E.length ce]) ∧ Hid (Below w.heap.size w wr))
      case atStart => exact ⟨F, W.take m, _, k, rfl, rfl, rfl, hide_ rfl, hide_ (by rw [Htk.out, HN0.out]; exact Nat.le_refl _), HIk, HKj, Hcut, HPj, HBj⟩
      case round =>
        clear HIk HKj Hcut HPj HBj cy HN0 Htk
        obtain ⟨F2, W2, v2, a, rfl, rfl, rfl, Hgi, HN2, HI2, HK2, HO2, HP2, HB2⟩ := hrel
        generalize wr = wp at *
        have han : a < n := by
          have h1 := HI2.out.stn a (List.mem_append_right _ (List.mem_singleton.2 rfl))
          have h2 := Hn.out
          omega
        have hF2 : F2.length = n := by rw [HI2.out.len]; exact Hn.out
        have HF2 := hide_ hF2
        have cs := bAt HK2.out (k := a) (by rw [hF2]; exact han)
        have hanI : (a : Int) < (n : Int) := by omega
        have hW2b : W2.length ≤ 110000000 := by have := HN2.out; have := Hm.out; have := Hgb.out; omega
        obtain ⟨d, hd⟩ : ∃ d, qAt F2 a = d := ⟨_, rfl⟩
        rw [hd] at cs
        have Hd := hide_ hd
        clear hd hF2
        cases d
        · have zf := HK2.out.frozen a
          obtain ⟨w5, hw5⟩ : ∃ wx, wp.setCell ⟨gf, a, none⟩ (.bool true) = wx := ⟨_, rfl⟩
          have hU5 : Upd (fun q => q = gf) wp w5 := by rw [← hw5]; exact (Upd.refl _ wp).set _ _ (.inl rfl)
          have HK5 : Hid (Blk w5 gf 4 ((F2.set a true).map Value.bool)) := hide_ (by rw [← hw5]; exact bset HK2.out)
          have HO5 := hide_ (HO2.out.upd hU5 (fun q e e2 => HO2.out.neB HK2.out (by decide) (e2 ▸ e)))
          have HP5 := hide_ (HP2.out.upd hU5 (fun e => by
            have h1 := HP2.out
            rw [e] at h1
            exact absurd (blk_type h1 HK2.out) (by decide)))
          have HB5 := hide_ (below_to2 HB2.out hU5 (fun q e => by rw [e]; exact Hgf.out))
          have hnf := nf_set F2 a (by rw [HF2.out]; exact han) Hd.out n han
          have q1 := HP5.out.cell 1
          simp at q1
          have hwl : IntKind.i64.wrap ((nf F2 n : Int) - 1) = (nf (F2.set a true) n : Int) := by
            have h1 := nf_le F2 n
            rw [i64w _ (by omega)]
            omega
          obtain ⟨l2, hl2⟩ : ∃ l2, nf (F2.set a true) n = l2 := ⟨_, rfl⟩
          rw [hl2] at hwl hnf
          have Hl2 := hide_ hl2
          have Hnf := hide_ hnf
          clear hl2 hnf hU5
          by_cases hz : l2 = 0
          · have fz : ((l2 : Int) == 0) = true := by simp [hz]
            have HX : Hid (ReTo w n C E (.returned (.slice (some ⟨gf, 0, none⟩) n n)) w5) := hide_ ⟨F2.set a true, gf, rfl, ReI.full (by rw [List.length_set]; exact HI2.out.len) (fun j hj hq => (HI2.out.find (W' := W2 ++ sucP C a) hK.out (fun y => List.mem_append)).snd j hj hq) (by rw [Hn.out, Hl2.out]; exact hz), HK5.out, Hgf.out, HB5.out⟩
            clear hz
            go_wp2_with fail
            try rw [Exit.noGoto_ret]
            go_ret
            exact HX.out
          · have fz : ((l2 : Int) == 0) = false := by simp [hz]
            have HSa := hide_ (HSu.out a w5 han HB5.out)
            have HsL : Hid ((sucP C a).length ≤ 65) := hide_ (suc_le hK.out (by rw [Hn.out]; exact han))
            have Hstn : Hid (Stn n (sucP C a)) := hide_ (by have := suc_stn hK.out (k := a) (by rw [Hn.out]; exact han); rwa [Hn.out] at this)
            clear hz
            go_wp2_with fail
            refine HSa.out.mono ?_
            rintro e w6 ⟨vs, rfl, HS6, HB6⟩
            have HK6 := hide_ (HK5.out.later HB6.out)
            have HO6 := hide_ (HO5.out.later HB6.out)
            have HP6 := hide_ (HP5.out.later HB6.out)
            have HBw6 := hide_ (below_to HB5.out HB6.out)
            by_cases hs0 : sucP C a = []
            · obtain ⟨aa, ca, hv⟩ := HS6.out.slice
              rw [hs0] at hv
              have hv : vs = .slice aa 0 ca := hv
              subst hv
              have HI6 : Hid (ReI C E (F2.set a true) W2) := hide_ (HI2.out.find hK.out (fun y => by rw [hs0]; simp))
              clear hs0 HS6
              go_wp2_with fail
              go_roundg (l2 * 100 + W2.length)
              case measure => have h1 := Hnf.out; have h2 := HN2.out; have h3 := Hm.out; omega
              case rel => exact ⟨F2.set a true, W2, v2, rfl, by rw [Hl2.out], hide_ (by rw [Hl2.out]), hide_ (by have h1 := Hnf.out; have h2 := HN2.out; have h3 := Hm.out; have h4 := Hgb.out; omega), HI6, HK6, HO6, HP6, HBw6⟩
            · obtain ⟨y, ys, hy⟩ : ∃ y ys, sucP C a = y :: ys := by
                cases h : sucP C a with
                | nil => exact absurd h hs0
                | cons y ys => exact ⟨y, ys, rfl⟩
              rw [hy] at HS6 HsL Hstn
              have HI6 : Hid (ReI C E (F2.set a true) ((W2 ++ ys) ++ [y])) := hide_ (HI2.out.find hK.out (fun z => by
                rw [hy]
                simp only [List.mem_append, List.mem_cons, List.not_mem_nil, or_false]
                constructor
                · rintro ((h | h) | h)
                  · exact .inl h
                  · exact .inr (.inr h)
                  · exact .inr (.inl h)
                · rintro (h | h | h)
                  · exact .inl (.inl h)
                  · exact .inr h
                  · exact .inl (.inr h)))
              obtain ⟨y1, y2⟩ := Hstn.out y (List.mem_cons_self ..)
              obtain ⟨b, hb⟩ := Int.eq_ofNat_of_zero_le y1
              subst hb
              obtain ⟨gs, cs6, hv, hcs, hgs, hgl⟩ := HS6.out.open (by simp)
              subst hv
              obtain ⟨c0', -⟩ := HS6.out.cellH (i := 0) (by simp)
              have c0 : w6.cell? ⟨gs, 0, none⟩ = some (.int .i64 (b : Int)) := c0'
              clear c0'
              have hlen : (((b : Int) :: ys).length) = ys.length + 1 := rfl
              rw [hlen] at hcs HS6 ⊢
              have hrow : Row .i64 w6 (if cs6 = 1 then some ⟨gs, 0, none⟩ else some ⟨gs, 1, none⟩) ys := by
                by_cases h1 : cs6 = 1
                · rw [if_pos h1]
                  have h2 : ys.length = 0 := by omega
                  exact .inr ⟨_, rfl, fun j hj => by omega⟩
                · rw [if_neg h1]
                  refine .inr ⟨⟨gs, 1, none⟩, rfl, fun j hj => ?_⟩
                  obtain ⟨c1, -⟩ := HS6.out.cellH (i := j + 1) (by simpa using hj)
                  have e : hAt ((b : Int) :: ys) (j + 1) = ys.getD j 0 := rfl
                  rw [e] at c1
                  rw [Addr.add_lit, show 1 + j = j + 1 by omega, c1]
              have hyl : ys.length ≤ 64 := by have := HsL.out; simp at this; omega
              obtain ⟨v7, w7, hr7, hO7, hU7, -⟩ := HO6.out.app (cap := cs6 - 1) hrow (fun e => by split at e <;> cases e) (by omega) HBw6.out.size
              have HRun := hide_ hr7
              have HO7 := hide_ hO7
              have HK7 := hide_ (HK6.out.upd hU7 (fun e => HO6.out.neB HK6.out (by decide) e))
              have HP7 := hide_ (HP6.out.upd hU7 (fun e => HO6.out.neB HP6.out (by decide) e))
              have HB7 := hide_ (below_to2 HBw6.out hU7 (fun q e => (HO6.out.lies e).1))
              have fyI : (((ys.length : Int) + 1) == 0) = false := by simp; omega
              have hcs' : (ys.length : Int) + 1 ≤ (cs6 : Int) := by omega
              have Hyl := hide_ hyl
              clear hr7 hO7 hU7 hrow hgs hgl HS6 HsL Hstn hy hs0 hlen hyl
              go_wp2_with (first | (at_builtin; refine wpList_append_run rfl (.tmp 53) (.tmp 55) 23 23 rfl rfl rfl HRun.out ?_; clear HRun) | fail)
              all_goals (
                go_roundg l2
                case measure => have h1 := Hnf.out; have h2 := Hgi.out; omega
                case rel => exact ⟨F2.set a true, W2 ++ ys, v7, b, rfl, by rw [Hl2.out], rfl, Hl2, hide_ (by have h1 := Hnf.out; have h2 := HN2.out; have h4 := Hyl.out; rw [Hl2.out, List.length_append]; omega), HI6, HK7, HO7, HP7, HB7⟩)
        · have HI5 : Hid (ReI C E F2 W2) := hide_ (HI2.out.skip Hd.out)
          go_wp2_with fail
          go_roundg (nf F2 n * 100 + W2.length)
          case measure => have h2 := HN2.out; have h3 := Hm.out; omega
          case rel => exact ⟨F2, W2, v2, rfl, rfl, hide_ rfl, hide_ (by have h2 := HN2.out; have h3 := Hm.out; have h4 := Hgb.out; omega), HI5, HK2, HO2, HP2, HB2⟩
end Go.Proofs.YtiojpohmgjdgfaaGreat

/- flow: settle, endsOf. -/
namespace Go.Proofs.YtiojpohmgjdgfaaGreat
open Go.RowKit
set_option linter.unusedVariables false
set_option linter.unusedSimpArgs false

/-- The jumps that are open, one behind the other. -/
def wkJ (C : List In) (a m : Nat) : List Int := (List.range m).map fun i => (itJ C i a : Int)
theorem wkJ_len (C : List In) (a m : Nat) : (wkJ C a m).length = m := by simp [wkJ]
theorem wkJ_succ (C : List In) (a m : Nat) : wkJ C a (m + 1) = wkJ C a m ++ [(itJ C m a : Int)] := by simp [wkJ, List.range_succ]
theorem wkJ_at (C : List In) (a m : Nat) : hAt (wkJ C a (m + 1)) m = (itJ C m a : Int) := by
  rw [wkJ_succ]
  simp [hAt, List.getD, wkJ_len]
theorem wkJ_take (C : List In) (a m : Nat) : (wkJ C a (m + 1)).take m = wkJ C a m := by
  rw [wkJ_succ, List.take_left' (wkJ_len C a m)]
/-- What settle leaves. -/
def StTo (w : World) (B g n : Nat) (C : List In) (L : List Int) (a : Nat) (e : Ending) (w' : World) : Prop := e = .returned (.tuple #[]) ∧ ∃ L', SeTo C L a L' ∧ IOwn w' B (.slice (some ⟨g, 0, none⟩) n n) L' ∧ Upd (fun q => q = g) w w'
set_option maxRecDepth 100000 in
set_option maxHeartbeats 16000000 in
theorem settle_any (enc : Bool) (ac : Option Addr) (cc B g n : Nat) (C : List In) (E L : List Int) (a : Nat) (w : World) (hn : C.length = n) (ha : a < n) (hK : Hid (Chk enc C E)) (hE : Hid (EnI C L)) (hC : Hid (IRow w ac C)) (hg : Hid (∀ x, ac = some x → x.block ≠ g)) (hL : Hid (IOwn w B (.slice (some ⟨g, 0, none⟩) n n) L)) :
    Calls Tryz.prog 76 #[.slice ac n cc, .slice (some ⟨g, 0, none⟩) n n, .int .i64 (a : Int)] w fun e w' => StTo w B g n C L a e w' := by
  obtain ⟨bc, oc, hac, -⟩ := hC.out.open (by omega)
  subst hac
  have hgb : bc ≠ g := hg.out _ rfl
  have hJ := chk_jin hK.out
  have HJ := hide_ hJ
  have Hn := hide_ hn
  have hnb : n ≤ 1048576 := by rw [← hn]; exact hK.out.nc
  have hgl := hL.out.lies (k := g) rfl
  have Hgl := hide_ hgl.2
  have HgB := hide_ hgl.1
  have HC2 : Hid (∀ w', Upd (fun q => q = g) w w' → IRow w' (some ⟨bc, oc, none⟩) C) := hide_ (fun w' hU => hC.out.upd hU (fun x e => by injection e with e; rw [← e]; exact hgb))
  have Hgb := hide_ hgb
  have HL0 : Hid (L.length = n) := hide_ (by rw [hE.out.len]; exact hn)
  have HS0 : Hid (Se1 C L a 0 L) := hide_ (Se1.new hE.out.len (by omega))
  have Ha := hide_ ha
  clear hn hJ hC hg hgl hgb ha
  go_enter Tryz.func76, Tryz.ntmps76
  go_wp2_with fail
  go_loopg [2, 6] n (fun gk x2 x6 wr => ∃ (m : Nat) (Lc : List Int) (v : Value), v = x6 ∧ x2 = .int .i64 (itJ C m a : Int) ∧ Hid (n - m = gk) ∧ Hid (Se1 C L a m Lc) ∧ Hid (IOwn wr B (.slice (some ⟨g, 0, none⟩) n n) Lc) ∧ Hid (IOwn wr w.heap.size v (wkJ C a m)) ∧ Hid (Upd (fun q => q = g) w wr))
  case atStart => exact ⟨0, L, _, rfl, rfl, hide_ rfl, HS0, hL, hide_ (IOwn.nil _ _), hide_ (Upd.refl _ _)⟩
  case round =>
    clear HS0 hL
    obtain ⟨m, Lc, v, rfl, rfl, Hgk, HSj, HLj, HWj, HUj⟩ := hrel
    generalize wr = wq at *
    have hmb : m ≤ n := by rw [← Hn.out]; exact HSj.out.short HJ.out
    obtain ⟨t, ht⟩ : ∃ t, itJ C m a = t := ⟨_, rfl⟩
    have htn : t < n := by rw [← ht, ← Hn.out]; exact HSj.out.at_
    have Ht := hide_ ht
    rw [ht]
    have hLl : Lc.length = n := by rw [HSj.out.len]; exact Hn.out
    obtain ⟨ct, cf⟩ := HLj.out.cellH (i := t) (by rw [hLl]; exact htn)
    have htI : (t : Int) < (n : Int) := by omega
    obtain ⟨en, hen⟩ : ∃ en, hAt Lc t = en := ⟨_, rfl⟩
    rw [hen] at ct
    have Hen := hide_ hen
    clear hen ht
    by_cases hu : en = -1
    · subst hu
      obtain ⟨hj, hS2⟩ := HSj.out.step HJ.out hE.out (by rw [Ht.out]; exact Hen.out)
      rw [Ht.out] at hj hS2
      obtain ⟨x, hx⟩ : ∃ x, C[t]? = some x := ⟨_, List.getElem?_eq_getElem (by rw [Hn.out]; exact htn)⟩
      have hxA : inA C t = x := inA_at hx
      have hop : x.op = 19 := by
        unfold jmp at hj
        rw [hxA] at hj
        exact of_decide_eq_true hj
      have htg := chk_tgt hK.out (k := t) (by rw [Hn.out]; exact htn) (by rw [hxA, hop]; rfl)
      rw [hxA] at htg
      obtain ⟨y, hy⟩ := Int.eq_ofNat_of_zero_le htg.1
      have hnx : itJ C (m + 1) a = y := by
        rw [itJ_succ, Ht.out]
        unfold nxJ
        rw [hxA, hy, Int.toNat_natCast]
      obtain ⟨w2, hw2⟩ : ∃ wx, wq.setCell ⟨g, t, none⟩ (.int .i64 (-2)) = wx := ⟨_, rfl⟩
      have hU2 : Upd (fun q => q = g) wq w2 := by rw [← hw2]; exact (Upd.refl _ wq).set _ _ (.inl rfl)
      have hL2 : IOwn w2 B (.slice (some ⟨g, 0, none⟩) n n) (Lc.set t (-2)) := by rw [← hw2]; exact HLj.out.set (by rw [hLl]; exact htn) _
      have hW2 := HWj.out.upd hU2 (fun q e e2 => by have := (HWj.out.lies e).1; have := Hgl.out; omega)
      have hUw2 := HUj.out.to hU2
      obtain ⟨gw, cw, w3, hr3, hW3, hU3, -⟩ := hW2.push (t : Int) (by rw [wkJ_len]; omega) hUw2.size
      have hlow : ∀ q, v.ownBlock = some q → w.heap.size ≤ q := fun q e => (HWj.out.lies e).1
      have HL3 := hide_ (hL2.upd hU3 (fun q e e2 => by
        injection e with e
        have e : g = q := e
        have := hlow q e2
        have := Hgl.out
        omega))
      have HU3 : Hid (Upd (fun q => q = g) w w3) := hide_ (hUw2.trans hU3 (fun q hq e => absurd hq (Nat.not_lt.2 (hlow q e))))
      have HRun := hide_ hr3
      rw [wkJ_len] at hW3 hr3
      have hW3' : IOwn w3 w.heap.size (.slice (some ⟨gw, 0, none⟩) (m + 1) cw) (wkJ C a (m + 1)) := by rw [wkJ_succ, Ht.out]; exact hW3
      have HW3 := hide_ hW3'
      have HRun := hide_ hr3
      obtain ⟨i0, i1, i2, i3⟩ := (HC2.out w3 HU3.out).at hx
      rw [hy] at i2
      have HS2 := hide_ hS2
      have Hnx := hide_ hnx
      have hS3 := hS2.short HJ.out
      rw [Hn.out] at hS3
      clear hx hxA hop hj htg hy hnx hU2 hL2 hW2 hUw2 hr3 hW3 hU3 hlow hW3' hS2 HSj HLj HWj HUj
      go_wp2_with (first | (at_builtin; refine wpList_append_run rfl (.tmp 18) (.tmp 20) 23 23 rfl rfl rfl HRun.out ?_; clear HRun) | fail)
      go_roundg (n - (m + 1))
      case measure => have h1 := Hgk.out; omega
      case rel => exact ⟨m + 1, Lc.set t (-2), _, rfl, by rw [Hnx.out], hide_ rfl, HS2, HL3, HW3, HU3⟩
    · have fu : (en == -1) = false := by simpa using hu
      have HC3 := hide_ (HC2.out wq HUj.out)
      obtain ⟨rd, hrd⟩ : ∃ rd, (decide (en = -2) || jmp C en.toNat) = rd := ⟨_, rfl⟩
      have HV : Hid (∀ j : Nat, seV C en j = if rd = true then (j : Int) else en) := hide_ (fun j => by
        unfold seV
        rw [← hrd]
        simp)
      have HT0 : Hid (Se2 C L a m m en Lc) := hide_ (Se2.new0 HSj.out en)
      have HFin : Hid (∀ L', Se2 C L a m 0 en L' → SeTo C L a L') := hide_ (fun L' h2 => h2.fin HJ.out (by rw [Hn.out]; exact Ha.out) hE.out HSj.out (by rw [Ht.out]; exact Hen.out) hu)
      have HIn : Hid (∀ j, j < m → itJ C j a < n) := hide_ (fun j hj => by rw [← Hn.out]; exact it_in HJ.out (by rw [Hn.out]; exact Ha.out) (fun i hi => HSj.out.jm i (by omega)))
      have HEn : Hid (en = -2 ∨ (0 ≤ en ∧ en < (n : Int))) := hide_ (by
        by_cases hr : ∃ i, i < m ∧ itJ C i a = t
        · obtain ⟨i, hi, he⟩ := hr
          left
          rw [← Hen.out, ← he]
          exact HSj.out.opn i hi
        · have h1 := HSj.out.old t (by rw [Hn.out]; exact htn) (fun i hi e => hr ⟨i, hi, e⟩)
          rw [Hen.out] at h1
          rcases hE.out.at_in HJ.out (k := t) (by rw [Hn.out]; exact htn) with h2 | h2
          · exact absurd (h1.trans h2) hu
          · right
            rw [h1, ← Hn.out]
            exact h2)
      have Hrd := hide_ hrd
      clear hu hrd HSj
      go_upto_region 6 with fail
      go_cut [8] from 31 to 40 (fun x8 wc => x8 = .bool rd ∧ wq = wc)
      case first =>
        by_cases h2 : en = -2
        · subst h2
          have e1 : rd = true := by rw [← Hrd.out]; rfl
          subst e1
          go_wp2_with fail
          go_meet
          case rel => exact ⟨rfl, rfl⟩
        · obtain ⟨e, he⟩ : ∃ e : Nat, en = (e : Int) := by
            rcases HEn.out with h | h
            · exact absurd h h2
            · exact Int.eq_ofNat_of_zero_le h.1
          subst he
          have hen : e < n := by
            rcases HEn.out with h | h
            · exact absurd h h2
            · omega
          have henI : (e : Int) < (n : Int) := by omega
          obtain ⟨x, hx⟩ : ∃ x, C[e]? = some x := ⟨_, List.getElem?_eq_getElem (by rw [Hn.out]; exact hen)⟩
          have hxA : inA C e = x := inA_at hx
          obtain ⟨i0, i1, i2, i3⟩ := HC3.out.at hx
          have f2 : ((e : Int) == -2) = false := by simp
          have e1 : (x.op == 19) = rd := by
            rw [← Hrd.out, Int.toNat_natCast]
            unfold jmp
            rw [hxA]
            simp only [decide_eq_false h2, Bool.false_or]
            rw [Bool.eq_iff_iff]
            simp
          have He1 := hide_ e1
          clear hx hxA h2 e1
          go_wp2_with fail
          go_meet
          case rel => exact ⟨by rw [He1.out], rfl⟩
      case rest =>
      obtain ⟨rfl, rfl⟩ := hcut
      clear ct cf Hrd HEn
      go_wp2_with fail
      go_loopg [6] m (fun gi y6 wr => ∃ (m2 : Nat) (L2 : List Int) (v2 : Value), v2 = y6 ∧ Hid (m2 = gi) ∧ m2 ≤ m ∧ Hid (Se2 C L a m m2 en L2) ∧ Hid (IOwn wr B (.slice (some ⟨g, 0, none⟩) n n) L2) ∧ Hid (IOwn wr w.heap.size v2 (wkJ C a m2)) ∧ Hid (Upd (fun q => q = g) w wr))
      case atStart => exact ⟨m, Lc, _, rfl, hide_ rfl, Nat.le_refl _, HT0, HLj, HWj, HUj⟩
      case round =>
        clear HT0 HLj HWj HUj HC3
        obtain ⟨m2, L2, v2, rfl, Hgi, hm2, HSi, HLi, HWi, HUi⟩ := hrel
        generalize wr = wp at *
        have hLl2 : L2.length = n := by rw [HSi.out.len]; exact Hn.out
        cases m2 with
        | zero =>
          obtain ⟨a0, c0, hv⟩ := HWi.out.slice
          have hv : v2 = .slice a0 0 c0 := hv
          subst hv
          have HX : Hid (StTo w B g n C L a (.returned (.tuple #[])) wp) := hide_ ⟨rfl, L2, HFin.out L2 HSi.out, HLi.out, HUi.out⟩
          go_wp2_with fail
          refine bodyPost_ret (results_none rfl _ _ _) rfl ?_
          exact HX.out
        | succ m2 =>
          obtain ⟨gw, cw, hv, hcv, -, -⟩ := HWi.out.open (by rw [wkJ_len]; omega)
          rw [wkJ_len] at hv hcv
          subst hv
          obtain ⟨cy, -⟩ := HWi.out.cellH (i := m2) (by rw [wkJ_len]; omega)
          rw [wkJ_at] at cy
          obtain ⟨k, hk⟩ : ∃ k, itJ C m2 a = k := ⟨_, rfl⟩
          have hkn : k < n := by rw [← hk]; exact HIn.out m2 (by omega)
          rw [hk] at cy
          have hkI : (k : Int) < (n : Int) := by omega
          have hw1 : IntKind.i64.wrap ((m2 : Int) + 1 - 1) = (m2 : Int) := by rw [i64w _ (by omega)]; omega
          have hcv' : (m2 : Int) + 1 ≤ (cw : Int) := by omega
          have hcut := HWi.out.cutV (m := m2) (wkJ_len C a (m2 + 1)) (by omega)
          rw [wkJ_take] at hcut
          have hne : gw ≠ g := fun e => by have := (HWi.out.lies (k := gw) rfl).1; have := Hgl.out; omega
          obtain ⟨zc, zf⟩ := HLi.out.cellH (i := k) (by rw [hLl2]; exact hkn)
          have hst := HSi.out.step (by omega) (by rw [Hn.out, hk]; exact hkn)
          rw [hk, HV.out k] at hst
          have Hst := hide_ hst
          obtain ⟨w5, hw5⟩ : ∃ wx, wp.setCell ⟨g, k, none⟩ (.int .i64 en) = wx := ⟨_, rfl⟩
          have hU5 : Upd (fun q => q = g) wp w5 := by rw [← hw5]; exact (Upd.refl _ wp).set _ _ (.inl rfl)
          have hL5 : IOwn w5 B (.slice (some ⟨g, 0, none⟩) n n) (L2.set k en) := by rw [← hw5]; exact HLi.out.set (by rw [hLl2]; exact hkn) _
          have HL5 := hide_ hL5
          have HU5 := hide_ (HUi.out.to hU5)
          have HW5 := hide_ (hcut.upd hU5 (fun q e e2 => by injection e with e; exact hne (e.trans e2)))
          obtain ⟨zc5, zf5⟩ := hL5.cellH (i := k) (by rw [List.length_set, hLl2]; exact hkn)
          have HLl := hide_ hLl2
          have Hne := hide_ hne
          clear hcut hne hst hL5 hU5 HLi HWi HUi hLl2 hk
          cases rd
          · have HSn : Hid (Se2 C L a m m2 en (L2.set k en)) := hide_ (by have h1 := Hst.out; rw [if_neg (by simp)] at h1; exact h1)
            clear Hst zf5 zc5
            go_wp2_with fail
            go_roundg m2
            case measure => have h1 := Hgi.out; omega
            case rel => exact ⟨m2, L2.set k en, _, rfl, hide_ rfl, by omega, HSn, HL5, HW5, HU5⟩
          · have HSn : Hid (Se2 C L a m m2 en (L2.set k (k : Int))) := hide_ (by have h1 := Hst.out; rw [if_pos rfl] at h1; exact h1)
            obtain ⟨w6, hw6⟩ : ∃ wx, w5.setCell ⟨g, k, none⟩ (.int .i64 (k : Int)) = wx := ⟨_, rfl⟩
            have hU6 : Upd (fun q => q = g) w5 w6 := by rw [← hw6]; exact (Upd.refl _ w5).set _ _ (.inl rfl)
            have HL6 : Hid (IOwn w6 B (.slice (some ⟨g, 0, none⟩) n n) (L2.set k (k : Int))) := hide_ (by
              have h1 := HL5.out.set (i := k) (by rw [List.length_set, HLl.out]; exact hkn) (k : Int)
              rw [List.set_set, hw6] at h1
              exact h1)
            have HU6 := hide_ (HU5.out.to hU6)
            have HW6 := hide_ (HW5.out.upd hU6 (fun q e e2 => by injection e with e; exact Hne.out (e.trans e2)))
            clear Hst hU6 HL5 HU5 HW5
            go_wp2_with fail
            try rw [hw6]
            go_roundg m2
            case measure => have h1 := Hgi.out; omega
            case rel => exact ⟨m2, L2.set k (k : Int), _, rfl, hide_ rfl, by omega, HSn, HL6, HW6, HU6⟩
end Go.Proofs.YtiojpohmgjdgfaaGreat

/- flow: endsOf. -/
namespace Go.Proofs.YtiojpohmgjdgfaaGreat
open Go.RowKit
set_option linter.unusedVariables false
set_option linter.unusedSimpArgs false

/-- All ends. -/
def enL (C : List In) : List Int := (List.range C.length).map fun k => (endP C k : Int)
theorem enL_len (C : List In) : (enL C).length = C.length := by simp [enL]
theorem enL_at {C : List In} {k : Nat} (hk : k < C.length) : hAt (enL C) k = (endP C k : Int) := by simp [enL, hAt, List.getD, hk]
theorem enL_of {C : List In} {L : List Int} (hl : L.length = C.length) (h : ∀ k, k < C.length → hAt L k = (endP C k : Int)) : L = enL C := by
  apply List.ext_getElem
  · rw [hl, enL_len]
  · intro i h1 h2
    have e1 : hAt L i = L[i] := by simp [hAt, List.getD, h1]
    have e2 : hAt (enL C) i = (enL C)[i] := by simp [hAt, List.getD, h2]
    rw [← e1, ← e2, h i (by omega), enL_at (by omega)]
/-- The first j are laid. -/
structure En0 (C : List In) (j : Nat) (L : List Int) : Prop where
  len : L.length = C.length
  is : ∀ k, k < j → hAt L k = if jmp C k = true then -1 else (k : Int)
theorem En0.ok {C : List In} {L : List Int} (h : En0 C C.length L) : EnI C L := by
  refine ⟨h.len, fun k hk => ?_⟩
  have h1 := h.is k hk
  by_cases hj : jmp C k = true
  · rw [if_pos hj] at h1; exact .inr ⟨h1, hj⟩
  · rw [if_neg hj] at h1
    exact .inl (by rw [h1, end_not (by simpa using hj)])
theorem En0.step {C : List In} {j : Nat} {L : List Int} (h : En0 C j L) (hj : j < C.length) : En0 C (j + 1) (L.set j (if jmp C j = true then -1 else (j : Int))) := by
  refine ⟨by simp [h.len], fun k hk => ?_⟩
  rw [hAt_set _ _ (by rw [h.len]; exact hj)]
  by_cases e : k = j
  · rw [if_pos e, e]
  · rw [if_neg e]; exact h.is k (by omega)
/-- What endsOf answers. -/
def EsTo (w : World) (n : Nat) (C : List In) (e : Ending) (w' : World) : Prop := e = .returned (.slice (some ⟨w.heap.size, 0, none⟩) n n) ∧ IOwn w' w.heap.size (.slice (some ⟨w.heap.size, 0, none⟩) n n) (enL C) ∧ Below w.heap.size w w'
set_option maxRecDepth 100000 in
set_option maxHeartbeats 16000000 in
theorem endsOf_any (enc : Bool) (ac : Option Addr) (cc n : Nat) (C : List In) (E : List Int) (w : World) (hn : C.length = n) (hK : Hid (Chk enc C E)) (hC : Hid (IRow w ac C)) :
    Calls Tryz.prog 45 #[.slice ac n cc] w fun e w' => EsTo w n C e w' := by
  have hnb : n ≤ 1048576 := by rw [← hn]; exact hK.out.nc
  obtain ⟨g, hg⟩ : ∃ g, w.heap.size = g := ⟨_, rfl⟩
  obtain ⟨w1, hmk, ho1, hB1⟩ : ∃ w1, (Instr.makeSlice 23 (.int .i64 (n : Int)) (.int .i64 (n : Int))).run Tryz.prog w = .ok (.slice (some ⟨w.heap.size, 0, none⟩) n n) w1 ∧ IOwn w1 w.heap.size (.slice (some ⟨w.heap.size, 0, none⟩) n n) (List.replicate n 0) ∧ Below w.heap.size w w1 := ⟨_, makeZ n (by omega) w, ownZ w n (by omega), below1 _ _⟩
  have HX : Hid (∀ w', IOwn w' g (.slice (some ⟨g, 0, none⟩) n n) (enL C) → Below g w w' → EsTo w n C (.returned (.slice (some ⟨g, 0, none⟩) n n)) w') := hide_ (fun w' h1 h2 => by
    unfold EsTo
    rw [hg]
    exact ⟨rfl, h1, h2⟩)
  rw [hg] at hmk ho1 hB1
  have HO1 := hide_ ho1
  have HB1 := hide_ hB1
  have Hn := hide_ hn
  have Hg := hide_ hg
  have HE0 : Hid (En0 C 0 (List.replicate n 0)) := hide_ ⟨by simp [hn], fun k hk => by omega⟩
  have HC2 : Hid (∀ w', Below g w w' → IRow w' ac C) := hide_ (fun w' hB => hC.out.later (by rw [hg]; exact hB))
  have HAd : Hid (0 < n → ∃ bc oc, ac = some ⟨bc, oc, none⟩ ∧ bc ≠ g) := hide_ (fun h0 => by
    obtain ⟨bc, oc, h1, h2, -⟩ := hC.out.open (by omega)
    exact ⟨bc, oc, h1, by omega⟩)
  clear ho1 hB1 hn hg hC
  go_enter Tryz.func45, Tryz.ntmps45
  go_wp2_with fail
  clear hmk
  go_loopw [12] (fun x12 wr => ∃ (j : Nat) (L : List Int), j ≤ n ∧ x12 = .int .i64 (j : Int) ∧ Hid (En0 C j L) ∧ Hid (IOwn wr g (.slice (some ⟨g, 0, none⟩) n n) L) ∧ Hid (Below g w wr)) (fun x12 _ => n - (intOf x12).toNat)
  case atStart => exact ⟨0, _, by omega, rfl, HE0, HO1, HB1⟩
  case round =>
    clear HE0 HO1 HB1
    obtain ⟨j, L, hj, rfl, HEj, HOj, HBj⟩ := hrel
    generalize wr = wq at *
    by_cases hlt : j < n
    · have hlt' : (j : Int) < (n : Int) := by omega
      obtain ⟨bc, oc, hac, hbc⟩ := HAd.out (by omega)
      subst hac
      have hjC : j < C.length := by rw [Hn.out]; exact hlt
      obtain ⟨x, hx⟩ : ∃ x, C[j]? = some x := ⟨_, List.getElem?_eq_getElem hjC⟩
      have hxA : inA C j = x := inA_at hx
      obtain ⟨i0, i1, i2, i3⟩ := (HC2.out wq HBj.out).at hx
      obtain ⟨w2, hw2⟩ : ∃ wx, wq.alloc (.cells #[.int .i64 x.op, .int .i64 x.a, .int .i64 x.b, .int .i64 x.c] 43) = wx := ⟨_, rfl⟩
      have hB2 : Below wq.heap.size wq w2 := by rw [← hw2]; exact below1 _ _
      have hX2 : Blk w2 wq.heap.size 43 (inc x) := by rw [← hw2]; exact Blk.newA wq _ _
      have hO2 := HOj.out.later hB2
      have hLl : L.length = n := by rw [HEj.out.len]; exact Hn.out
      obtain ⟨zc, zf⟩ := hO2.cellH (i := j) (by rw [hLl]; exact hlt)
      obtain ⟨w3, hw3⟩ : ∃ wx, w2.setCell ⟨g, j, none⟩ (.int .i64 (j : Int)) = wx := ⟨_, rfl⟩
      have hU3 : Upd (fun q => q = g) w2 w3 := by rw [← hw3]; exact (Upd.refl _ w2).set _ _ (.inl rfl)
      have hO3 : IOwn w3 g (.slice (some ⟨g, 0, none⟩) n n) (L.set j (j : Int)) := by rw [← hw3]; exact hO2.set (by rw [hLl]; exact hlt) _
      have hgq : g < wq.heap.size := (HOj.out.lies (k := g) rfl).2
      obtain ⟨k0, k1, k2, k3⟩ := (hX2.upd hU3 (fun e => by omega)).ci
      have hBg : Below g w w3 := (HBj.out.trans (hB2.mono (by omega))).trans (hU3.below g (Nat.le_trans (by omega) hB2.size) (fun q e => by rw [e]; exact Nat.le_refl _))
      have HB3 := hide_ hBg
      have HO3 := hide_ hO3
      obtain ⟨yc, yf⟩ := hO3.cellH (i := j) (by rw [List.length_set, hLl]; exact hlt)
      have hst := HEj.out.step hjC
      have HLl := hide_ hLl
      by_cases ho : x.op = 19
      · have f0 : (x.op == 19) = true := by simpa using ho
        have HS : Hid (En0 C (j + 1) (L.set j (-1))) := hide_ (by
          rw [if_pos (by unfold jmp; rw [hxA]; exact decide_eq_true ho)] at hst
          exact hst)
        obtain ⟨w4, hw4⟩ : ∃ wx, w3.setCell ⟨g, j, none⟩ (.int .i64 (-1)) = wx := ⟨_, rfl⟩
        have hU4 : Upd (fun q => q = g) w3 w4 := by rw [← hw4]; exact (Upd.refl _ w3).set _ _ (.inl rfl)
        have HO4 : Hid (IOwn w4 g (.slice (some ⟨g, 0, none⟩) n n) (L.set j (-1))) := hide_ (by
          have h1 := HO3.out.set (i := j) (by rw [List.length_set, HLl.out]; exact hlt) (-1)
          rw [List.set_set, hw4] at h1
          exact h1)
        have HB4 : Hid (Below g w w4) := hide_ (HB3.out.trans (hU4.below g (by have := HB3.out.size; have := (HO3.out.lies (k := g) rfl).2; omega) (fun q e => by rw [e]; exact Nat.le_refl _)))
        clear hst hxA hx hU4 hU3 hO3 hO2 hX2 hB2 hBg HO3 HB3 HEj HOj HBj ho hgq hbc
        go_upto_region 5 with fail
        try rw [hw2]
        go_upto_region 6 with fail
        try rw [hw3]
        go_wp2_with fail
        try rw [hw4]
        go_roundw
        case rel => exact ⟨j + 1, L.set j (-1), by omega, by go_num, HS, HO4, HB4⟩
        case measure => simp [intOf]; omega
      · have f0 : (x.op == 19) = false := by simpa using ho
        have HS : Hid (En0 C (j + 1) (L.set j (j : Int))) := hide_ (by
          rw [if_neg (by unfold jmp; rw [hxA]; simpa using ho)] at hst
          exact hst)
        clear hst hxA hx hU3 hO3 hO2 hX2 hB2 hBg HEj HOj HBj ho hgq hbc
        go_upto_region 5 with fail
        try rw [hw2]
        go_upto_region 6 with fail
        try rw [hw3]
        go_wp2_with fail
        go_roundw
        case rel => exact ⟨j + 1, L.set j (j : Int), by omega, by go_num, HS, HO3, HB3⟩
        case measure => simp [intOf]; omega
    · have ej : j = n := by omega
      subst ej
      have HE1 : Hid (EnI C L) := hide_ (En0.ok (by rw [Hn.out]; exact HEj.out))
      clear HEj hlt
      go_wp2_with fail
      go_loopw [30] (fun x30 wr => ∃ (i : Nat) (M : List Int), i ≤ j ∧ x30 = .int .i64 (i : Int) ∧ Hid (EnI C M) ∧ Hid (∀ k, k < i → hAt M k = (endP C k : Int)) ∧ Hid (IOwn wr g (.slice (some ⟨g, 0, none⟩) j j) M) ∧ Hid (Below g w wr)) (fun x30 _ => j - (intOf x30).toNat)
      case atStart => exact ⟨0, L, by omega, rfl, HE1, hide_ (fun k hk => by omega), HOj, HBj⟩
      case round =>
        clear HE1 HOj HBj
        obtain ⟨i, M, hi, rfl, HEi, HKi, HOi, HBi⟩ := hrel
        generalize wr = wp at *
        by_cases hlt : i < j
        · have hlt' : (i : Int) < (j : Int) := by omega
          obtain ⟨bc, oc, hac, hbc⟩ := HAd.out (by omega)
          have HSe := hide_ (settle_any enc ac cc g g j C E M i wp Hn.out hlt hK HEi (hide_ (HC2.out wp HBi.out)) (hide_ (fun x e => by rw [hac] at e; injection e with e; rw [← e]; exact hbc)) HOi)
          clear hac hbc
          go_wp2_with fail
          refine HSe.out.mono ?_
          rintro e w4 hT
          obtain ⟨rfl, M', hM', hO4, hU4⟩ := hT
          have HE4 := hide_ hM'.ok
          have HK4 : Hid (∀ k, k < i + 1 → hAt M' k = (endP C k : Int)) := hide_ (fun k hk => by
            by_cases e : k = i
            · subst e; exact hM'.at_
            · exact hM'.keep k (by rw [Hn.out]; omega) (HKi.out k (by omega)))
          have HO4 := hide_ hO4
          have HB4 : Hid (Below g w w4) := hide_ (HBi.out.trans (hU4.below g (by have := (HOi.out.lies (k := g) rfl).2; omega) (fun q e => by rw [e]; exact Nat.le_refl _)))
          clear hM' hO4 hU4 HSe HEi HKi HOi HBi
          go_wp2_with fail
          go_roundw
          case rel => exact ⟨i + 1, M', by omega, by go_num, HE4, HK4, HO4, HB4⟩
          case measure => simp [intOf]; omega
        · have ei : i = j := by omega
          subst ei
          have e1 : M = enL C := enL_of HEi.out.len (fun k hk => HKi.out k (by rw [← Hn.out]; exact hk))
          have HY := hide_ (HX.out wp (by rw [← e1]; exact HOi.out) HBi.out)
          clear e1
          go_wp2_with fail
          go_ret
          exact HY.out
end Go.Proofs.YtiojpohmgjdgfaaGreat

/- flow: Targets, Reach. -/
namespace Go.Proofs.YtiojpohmgjdgfaaGreat
open Go.RowKit
set_option linter.unusedVariables false
set_option linter.unusedSimpArgs false

theorem vf_zero {enc : Bool} {C : List In} {E : List Int} (h : (vfP enc C E).1 = 0) : Chk enc C E ∧ vfP enc C E = (0, 0) := by
  unfold vfP at h ⊢
  by_cases h1 : (chk enc C E).1 ≠ 0
  · rw [if_pos h1] at h; exact absurd h h1
  · have h0 : (chk enc C E).1 = 0 := by
      cases Decidable.em ((chk enc C E).1 = 0) with
      | inl h => exact h
      | inr h => exact absurd h h1
    rw [if_neg h1] at h ⊢
    refine ⟨chk_ok.1 (chk_zero h0), ?_⟩
    split at h
    · cases h
    · rename_i h2
      rw [if_neg h2]
      split at h
      · cases h
      · rename_i h3
        rw [if_neg h3]
/-- A program in memory, as it is handed in. -/
structure PgI (w : World) (ac ae : Option Addr) (cc ce : Nat) (C : List In) (E : List Int) : Prop where
  hcc : C.length ≤ cc
  hcl : cc ≤ 9223372036854775807
  hCl : C.length ≤ 140737488355328
  hce : E.length ≤ ce
  hel : E.length ≤ 140737488355328
  hr : IRow w ac C
  he : Row .i64 w ae E
theorem PgI.later {w w' : World} {ac ae : Option Addr} {cc ce : Nat} {C : List In} {E : List Int} (h : PgI w ac ae cc ce C E) (hB : Below w.heap.size w w') : PgI w' ac ae cc ce C E :=
  ⟨h.hcc, h.hcl, h.hCl, h.hce, h.hel, h.hr.later hB, h.he.later hB⟩
theorem PgI.verify {w : World} {ac ae : Option Addr} {cc ce : Nat} {C : List In} {E : List Int} (h : PgI w ac ae cc ce C E) (enc : Bool) :
    Calls Tryz.prog 11 #[.agg #[.bool enc, .slice ac C.length cc, .slice ae E.length ce]] w fun e w' => e = .returned (.agg #[.int .i64 (vfP enc C E).1, .int .i64 (vfP enc C E).2]) ∧ Hid (Below w.heap.size w w') :=
  (verify_any enc ac ae cc ce C E w h.hcc h.hcl h.hCl h.hce h.hel (hide_ h.hr) (hide_ h.he)).mono (by rintro e w' ⟨h1, h2⟩; exact ⟨h1, hide_ h2⟩)
/-- What Targets answers. -/
def TgTo (w : World) (enc : Bool) (C : List In) (E : List Int) (at_ : Int) (e : Ending) (w' : World) : Prop :=
  Below w.heap.size w w' ∧ (((vfP enc C E).1 ≠ 0 ∧ e = .returned (.tuple #[.slice none 0 0, .int .i64 (vfP enc C E).1])) ∨ ((vfP enc C E).1 = 0 ∧ ¬ (0 ≤ at_ ∧ at_ < (C.length : Int)) ∧ e = .returned (.tuple #[.slice none 0 0, .int .i64 3])) ∨
    ((vfP enc C E).1 = 0 ∧ (0 ≤ at_ ∧ at_ < (C.length : Int)) ∧ ∃ v, e = .returned (.tuple #[v, .int .i64 0]) ∧ IOwn w' w.heap.size v (sucP C at_.toNat)))
set_option maxRecDepth 100000 in
set_option maxHeartbeats 16000000 in
theorem targets_any (enc : Bool) (ac ae : Option Addr) (cc ce : Nat) (C : List In) (E : List Int) (at_ : Int) (w : World) (h : Hid (PgI w ac ae cc ce C E)) :
    Calls Tryz.prog 12 #[.agg #[.bool enc, .slice ac C.length cc, .slice ae E.length ce], .int .i64 at_] w fun e w' => TgTo w enc C E at_ e w' := by
  obtain ⟨w1, hw1⟩ : ∃ wx, w.alloc (.cells #[.bool enc, .slice ac C.length cc, .slice ae E.length ce] 25) = wx := ⟨_, rfl⟩
  have HB1 : Hid (Below w.heap.size w w1) := hide_ (by rw [← hw1]; exact below1 _ _)
  have HP1 : Hid (Blk w1 w.heap.size 25 [.bool enc, .slice ac C.length cc, .slice ae E.length ce]) := hide_ (by rw [← hw1]; exact Blk.newA w _ _)
  have p0 := HP1.out.cell 0; have p1 := HP1.out.cell 1; have p2 := HP1.out.cell 2
  simp at p0 p1 p2
  have HV := hide_ ((h.out.later HB1.out).verify enc)
  obtain ⟨K, hK⟩ : ∃ K, vfP enc C E = K := ⟨_, rfl⟩
  rw [hK] at HV
  have HKv := hide_ hK
  clear hK
  go_enter Tryz.func12, Tryz.ntmps12
  go_upto_region 1 with fail
  try rw [hw1]
  clear hw1
  go_wp2_with fail
  refine HV.out.mono ?_
  rintro e w2 ⟨rfl, HB2⟩
  obtain ⟨w3, hw3⟩ : ∃ wx, w2.alloc (.cells #[.int .i64 K.1, .int .i64 K.2] 31) = wx := ⟨_, rfl⟩
  have hB3 : Below w2.heap.size w2 w3 := by rw [← hw3]; exact below1 _ _
  have HK3 : Hid (Blk w3 w2.heap.size 31 [.int .i64 K.1, .int .i64 K.2]) := hide_ (by rw [← hw3]; exact Blk.newA _ _ _)
  have HBw := hide_ (below_to (below_to HB1.out HB2.out) hB3)
  have HP3 := hide_ ((HP1.out.later HB2.out).later hB3)
  have k0 := HK3.out.cell 0
  have r1 := HP3.out.cell 1
  simp at k0 r1
  clear hB3 p0 p1 p2 HP1 HB2 HB1 HV HK3 HP3
  go_upto_region 2 with fail
  try rw [hw3]
  clear hw3
  by_cases hz : K.1 = 0
  · obtain ⟨hC, -⟩ := vf_zero (by rw [HKv.out]; exact hz)
    have HC := hide_ hC
    have fz : (K.1 == 0) = true := by simpa using hz
    have Hz := hide_ hz
    clear hz hC
    by_cases hin : 0 ≤ at_ ∧ at_ < (C.length : Int)
    · obtain ⟨k, hk⟩ := Int.eq_ofNat_of_zero_le hin.1
      subst hk
      have hkn : k < C.length := by omega
      have f1 : decide ((k : Int) < 0) = false := decide_eq_false (by omega)
      have f2 : ¬ ((C.length : Int) ≤ (k : Int)) := by omega
      have HS := hide_ (suc_any enc ac cc C E k w3 hkn HC (hide_ (h.out.later HBw.out).hr))
      clear hin
      go_wp2_with fail
      refine HS.out.mono ?_
      rintro e w4 ⟨v, rfl, HO4, HB4⟩
      have HX : Hid (TgTo w enc C E (k : Int) (.returned (.tuple #[v, .int .i64 0])) w4) := hide_ ⟨below_to HBw.out HB4.out, .inr (.inr ⟨by rw [HKv.out]; exact Hz.out, ⟨by omega, by omega⟩, v, rfl, by rw [Int.toNat_natCast]; exact HO4.out.wider HBw.out.size⟩)⟩
      go_wp2_with fail
      go_ret2
      exact HX.out
    · have HX : Hid (TgTo w enc C E at_ (.returned (.tuple #[.slice none 0 0, .int .i64 3])) w3) := hide_ ⟨HBw.out, .inr (.inl ⟨by rw [HKv.out]; exact Hz.out, hin, rfl⟩)⟩
      by_cases h0 : at_ < 0
      · have f1 : decide (at_ < 0) = true := by simpa using h0
        clear hin h0
        go_wp2_with fail
        go_ret2
        exact HX.out
      · have f1 : decide (at_ < 0) = false := by simpa using h0
        have f2 : (C.length : Int) ≤ at_ := by omega
        clear hin h0
        go_wp2_with fail
        go_ret2
        exact HX.out
  · have fz : (K.1 == 0) = false := by simpa using hz
    have HX : Hid (∀ q, TgTo w enc C E at_ (.returned (.tuple #[.slice none 0 0, .int .i64 K.1])) (w3.drewN q)) := hide_ (fun q => ⟨below_drewN HBw.out q, .inl ⟨by rw [HKv.out]; exact hz, by rw [HKv.out]⟩⟩)
    clear hz
    go_wp2_with fail
    go_quiet (fail)
    go_wp2_with fail
    go_ret2
    exact HX.out _
/-- What Reach answers. -/
def RcTo (w : World) (enc : Bool) (C : List In) (E : List Int) (e : Ending) (w' : World) : Prop :=
  Below w.heap.size w w' ∧ (((vfP enc C E).1 ≠ 0 ∧ e = .returned (.tuple #[.slice none 0 0, .agg #[.int .i64 (vfP enc C E).1, .int .i64 (vfP enc C E).2]])) ∨
    (vfP enc C E = (0, 0) ∧ Chk enc C E ∧ ∃ (R : List Bool) (g : Nat), ReOk C E R ∧ e = .returned (.tuple #[.slice (some ⟨g, 0, none⟩) C.length C.length, .agg #[.int .i64 0, .int .i64 0]]) ∧ Blk w' g 4 (R.map Value.bool) ∧ w.heap.size ≤ g))
set_option maxRecDepth 100000 in
set_option maxHeartbeats 16000000 in
theorem reach_any (enc : Bool) (ac ae : Option Addr) (cc ce : Nat) (C : List In) (E : List Int) (w : World) (h : Hid (PgI w ac ae cc ce C E)) :
    Calls Tryz.prog 9 #[.agg #[.bool enc, .slice ac C.length cc, .slice ae E.length ce]] w fun e w' => RcTo w enc C E e w' := by
  obtain ⟨w1, hw1⟩ : ∃ wx, (w.alloc (.cells #[.bool enc, .slice ac C.length cc, .slice ae E.length ce] 25)).alloc (.cells #[.int .i64 0, .int .i64 0] 31) = wx := ⟨_, rfl⟩
  have HB1 : Hid (Below w.heap.size w w1) := hide_ (by rw [← hw1]; exact below2 _ _ _)
  obtain ⟨kp, kf⟩ := blk2 w #[.bool enc, .slice ac C.length cc, .slice ae E.length ce] #[.int .i64 0, .int .i64 0] 25 31
  rw [hw1] at kp kf
  have p0 := kp.cell 0; have p1 := kp.cell 1; have p2 := kp.cell 2
  simp at p0 p1 p2
  have HP1 := hide_ kp
  have HF1 := hide_ kf
  have hgf : w.heap.size ≤ w.heap.size + 1 := by omega
  have HV := hide_ ((h.out.later HB1.out).verify enc)
  obtain ⟨K, hK⟩ : ∃ K, vfP enc C E = K := ⟨_, rfl⟩
  rw [hK] at HV
  have HKv := hide_ hK
  clear hK kp kf
  go_enter Tryz.func9, Tryz.ntmps9
  go_upto_region 1 with fail
  try rw [hw1]
  clear hw1
  go_wp2_with fail
  refine HV.out.mono ?_
  rintro e w2 ⟨rfl, HB2⟩
  obtain ⟨w3, hw3⟩ : ∃ wx, w2.alloc (.cells #[.int .i64 K.1, .int .i64 K.2] 31) = wx := ⟨_, rfl⟩
  have hB3 : Below w2.heap.size w2 w3 := by rw [← hw3]; exact below1 _ _
  have HK3 : Hid (Blk w3 w2.heap.size 31 [.int .i64 K.1, .int .i64 K.2]) := hide_ (by rw [← hw3]; exact Blk.newA _ _ _)
  have HBw := hide_ (below_to (below_to HB1.out HB2.out) hB3)
  have HP3 := hide_ ((HP1.out.later HB2.out).later hB3)
  have HF3 := hide_ ((HF1.out.later HB2.out).later hB3)
  have k0 := HK3.out.cell 0; have k1 := HK3.out.cell 1
  have r0 := HP3.out.cell 0; have r1 := HP3.out.cell 1; have r2 := HP3.out.cell 2
  have z0 := HF3.out.cell 0; have z1 := HF3.out.cell 1
  have zf := fun i => HF3.out.frozen i
  simp at k0 k1 r0 r1 r2 z0 z1
  clear hB3 p0 p1 p2 HP1 HF1 HB2 HB1 HV
  go_upto_region 2 with fail
  try rw [hw3]
  clear hw3
  by_cases hz : K.1 = 0
  · obtain ⟨hC, hv⟩ := vf_zero (by rw [HKv.out]; exact hz)
    have HC := hide_ hC
    have Hv := hide_ hv
    have fz : (K.1 == 0) = true := by simpa using hz
    clear hz hC hv
    have HR := hide_ (reached_any enc ac ae cc ce C E w3 HC (hide_ (h.out.later HBw.out).hr) (hide_ (h.out.later HBw.out).he))
    clear k0 k1
    have k0 := HK3.out.cell 0
    simp at k0
    go_wp2_with fail
    refine HR.out.mono ?_
    rintro e w4 hT
    obtain ⟨R, g, rfl, hR, hK4, hg, hB4⟩ := hT
    have HF4 := hide_ (HF3.out.later hB4)
    have y0 := HF4.out.cell 0; have y1 := HF4.out.cell 1
    have yf := fun i => HF4.out.frozen i
    simp at y0 y1
    have HX : Hid (RcTo w enc C E (.returned (.tuple #[.slice (some ⟨g, 0, none⟩) C.length C.length, .agg #[.int .i64 0, .int .i64 0]])) ((w4.setCell ⟨w.heap.size + 1, 0, none⟩ (.int .i64 0)).setCell ⟨w.heap.size + 1, 1, none⟩ (.int .i64 0))) := hide_ ⟨below_set (below_set (below_to HBw.out hB4) _ _ _ hgf) _ _ _ hgf, .inr ⟨Hv.out, HC.out, R, g, hR, rfl, by
      have hne : g ≠ w.heap.size + 1 := fun e => by
        have h1 := HF3.out.lt
        omega
      exact (hK4.other _ _ hne).other _ _ hne, Nat.le_trans HBw.out.size hg⟩⟩
    clear hR hK4 hg hB4 HR k0 r0 r1 r2 z0 z1 zf HF3
    go_wp2_with fail
    refine retVS rfl rfl rfl (wr2f HF4.out _ _) ?_
    exact HX.out
  · have fz : (K.1 == 0) = false := by simpa using hz
    have HX : Hid (∀ w4, Below w.heap.size w w4 → RcTo w enc C E (.returned (.tuple #[.slice none 0 0, .agg #[.int .i64 K.1, .int .i64 K.2]])) w4) := hide_ (fun w4 hB => ⟨hB, .inl ⟨by rw [HKv.out]; exact hz, by rw [HKv.out]⟩⟩)
    clear hz
    go_wp2_with fail
    go_region
    all_goals (
      go_wp2_with fail
      refine retVS rfl rfl rfl (wr2f (HF3.out.drew) _ _) ?_
      exact HX.out _ (below_set (below_set HBw.out.drew _ _ _ hgf) _ _ _ hgf))
end Go.Proofs.YtiojpohmgjdgfaaGreat

/- flow: beginnings, Blocks. -/
namespace Go.Proofs.YtiojpohmgjdgfaaGreat
open Go.RowKit
set_option linter.unusedVariables false
set_option linter.unusedSimpArgs false

/-- Just those of which it holds are true. -/
structure GI (n : Nat) (P : Nat → Prop) (G : List Bool) : Prop where
  len : G.length = n
  is : ∀ k, k < n → (qAt G k = true ↔ P k)
theorem GI.set {n : Nat} {P : Nat → Prop} {G : List Bool} (h : GI n P G) {a : Nat} (ha : a < n) : GI n (fun k => P k ∨ k = a) (G.set a true) := by
  refine ⟨by simp [h.len], fun k hk => ?_⟩
  rw [qAt_set G a (by rw [h.len]; exact ha) k]
  by_cases e : k = a
  · simp [e]
  · rw [if_neg e, h.is k hk]; simp [e]
theorem GI.congr {n : Nat} {P Q : Nat → Prop} {G : List Bool} (h : GI n P G) (hq : ∀ k, k < n → (P k ↔ Q k)) : GI n Q G := ⟨h.len, fun k hk => (h.is k hk).trans (hq k hk)⟩
theorem hAt_ex {l : List Int} {y : Int} : y ∈ l ↔ ∃ q, q < l.length ∧ hAt l q = y := by
  constructor
  · intro h
    obtain ⟨i, hi, rfl⟩ := List.mem_iff_getElem.1 h
    exact ⟨i, hi, by simp [hAt, List.getD, hi]⟩
  · rintro ⟨q, h1, rfl⟩
    exact hAt_mem h1
def PE (E : List Int) (j k : Nat) : Prop := ∃ i, i < j ∧ hAt E i = (k : Int)
def cnB (C : List In) (i k : Nat) : Prop := k ≠ i + 1 ∨ 1 < (sucP C i).length
def PR (C : List In) (E : List Int) (R : List Bool) (j k : Nat) : Prop := PE E E.length k ∨ ∃ i, i < j ∧ qAt R i = true ∧ (k : Int) ∈ sucP C i ∧ cnB C i k
def PS (C : List In) (E : List Int) (R : List Bool) (j t k : Nat) : Prop := PR C E R j k ∨ ∃ q, q < t ∧ hAt (sucP C j) q = (k : Int) ∧ cnB C j k
theorem pe_step {E : List Int} {j y k : Nat} (hy : hAt E j = (y : Int)) : (PE E j k ∨ k = y) ↔ PE E (j + 1) k := by
  constructor
  · rintro (⟨i, h1, h2⟩ | rfl)
    · exact ⟨i, by omega, h2⟩
    · exact ⟨j, by omega, hy⟩
  · rintro ⟨i, h1, h2⟩
    by_cases e : i = j
    · subst e; right; omega
    · exact .inl ⟨i, by omega, h2⟩
theorem ps_step {C : List In} {E : List Int} {R : List Bool} {j t y k : Nat} (hy : hAt (sucP C j) t = (y : Int)) (hc : cnB C j y) : (PS C E R j t k ∨ k = y) ↔ PS C E R j (t + 1) k := by
  constructor
  · rintro ((h | ⟨q, h1, h2, h3⟩) | rfl)
    · exact .inl h
    · exact .inr ⟨q, by omega, h2, h3⟩
    · exact .inr ⟨t, by omega, hy, hc⟩
  · rintro (h | ⟨q, h1, h2, h3⟩)
    · exact .inl (.inl h)
    · by_cases e : q = t
      · subst e; right; omega
      · exact .inl (.inr ⟨q, by omega, h2, h3⟩)
theorem ps_skip {C : List In} {E : List Int} {R : List Bool} {j t y k : Nat} (hy : hAt (sucP C j) t = (y : Int)) (hc : ¬ cnB C j y) : PS C E R j t k ↔ PS C E R j (t + 1) k := by
  constructor
  · rintro (h | ⟨q, h1, h2, h3⟩)
    · exact .inl h
    · exact .inr ⟨q, by omega, h2, h3⟩
  · rintro (h | ⟨q, h1, h2, h3⟩)
    · exact .inl h
    · by_cases e : q = t
      · subst e
        have : y = k := by omega
        subst this
        exact absurd h3 hc
      · exact .inr ⟨q, by omega, h2, h3⟩
theorem ps_zero {C : List In} {E : List Int} {R : List Bool} {j k : Nat} : PR C E R j k ↔ PS C E R j 0 k := ⟨.inl, fun h => h.elim id (fun ⟨q, h1, _⟩ => by omega)⟩
theorem pr_step {C : List In} {E : List Int} {R : List Bool} {j k : Nat} (hr : qAt R j = true) : PS C E R j (sucP C j).length k ↔ PR C E R (j + 1) k := by
  constructor
  · rintro ((h | ⟨i, h1, h2⟩) | ⟨q, h1, h2, h3⟩)
    · exact .inl h
    · exact .inr ⟨i, by omega, h2⟩
    · exact .inr ⟨j, by omega, hr, hAt_ex.2 ⟨q, h1, h2⟩, h3⟩
  · rintro (h | ⟨i, h1, h2, h3, h4⟩)
    · exact .inl (.inl h)
    · by_cases e : i = j
      · subst e
        obtain ⟨q, q1, q2⟩ := hAt_ex.1 h3
        exact .inr ⟨q, q1, q2, h4⟩
      · exact .inl (.inr ⟨i, by omega, h2, h3, h4⟩)
theorem pr_skip {C : List In} {E : List Int} {R : List Bool} {j k : Nat} (hr : qAt R j = false) : PR C E R j k ↔ PR C E R (j + 1) k := by
  constructor
  · rintro (h | ⟨i, h1, h2⟩)
    · exact .inl h
    · exact .inr ⟨i, by omega, h2⟩
  · rintro (h | ⟨i, h1, h2, h3⟩)
    · exact .inl h
    · by_cases e : i = j
      · subst e; rw [hr] at h2; cases h2
      · exact .inr ⟨i, by omega, h2, h3⟩
theorem GI.bg {C : List In} {E : List Int} {R G : List Bool} (h : GI C.length (PR C E R C.length) G) : BgOk C E R G := by
  refine ⟨h.len, fun k hk => (h.is k hk).trans ?_⟩
  unfold PR PE cnB
  rw [← hAt_ex]
/-- What beginnings answers. -/
def BnTo (w : World) (n : Nat) (C : List In) (E : List Int) (e : Ending) (w' : World) : Prop := ∃ (R G : List Bool) (g : Nat), e = .returned (.slice (some ⟨g, 0, none⟩) n n) ∧ ReOk C E R ∧ BgOk C E R G ∧ Blk w' g 4 (G.map Value.bool) ∧ Below w.heap.size w w'
set_option maxRecDepth 100000 in
set_option maxHeartbeats 16000000 in
theorem begin_any (enc : Bool) (ac ae : Option Addr) (cc ce n : Nat) (C : List In) (E : List Int) (w : World) (hn : C.length = n) (hK : Hid (Chk enc C E)) (hC : Hid (IRow w ac C)) (hE : Hid (Row .i64 w ae E)) :
    Calls Tryz.prog 30 #[.agg #[.bool enc, .slice ac n cc, .slice ae E.length ce]] w fun e w' => BnTo w n C E e w' := by
  have hnb : n ≤ 1048576 := by rw [← hn]; exact hK.out.nc
  have heb : E.length ≤ 1048576 := hK.out.ne
  obtain ⟨w1, hw1⟩ : ∃ wx, w.alloc (.cells #[.bool enc, .slice ac n cc, .slice ae E.length ce] 25) = wx := ⟨_, rfl⟩
  have HB1 : Hid (Below w.heap.size w w1) := hide_ (by rw [← hw1]; exact below1 _ _)
  have HP1 : Hid (Blk w1 w.heap.size 25 [.bool enc, .slice ac n cc, .slice ae E.length ce]) := hide_ (by rw [← hw1]; exact Blk.newA w _ _)
  obtain ⟨gb, hgb⟩ : ∃ gb, w1.heap.size = gb := ⟨_, rfl⟩
  obtain ⟨w2, hmk, hK2, hB2⟩ : ∃ w2, (Instr.makeSlice 28 (.int .i64 (n : Int)) (.int .i64 (n : Int))).run Tryz.prog w1 = .ok (.slice (some ⟨w1.heap.size, 0, none⟩) n n) w2 ∧ Blk w2 w1.heap.size 4 ((List.replicate n false).map Value.bool) ∧ Below w1.heap.size w1 w2 := ⟨_, makeBo n (by omega) w1, newBo w1 n, below1 _ _⟩
  rw [hgb] at hmk hK2
  have HP2 := hide_ (HP1.out.later hB2)
  have HB2 := hide_ (below_to HB1.out hB2)
  have HK2 := hide_ hK2
  have Hgb : Hid (w.heap.size < gb) := hide_ (by rw [← hgb]; exact HP1.out.lt)
  have p0 := HP1.out.cell 0; have p1 := HP1.out.cell 1; have p2 := HP1.out.cell 2
  have q1 := HP2.out.cell 1; have q2 := HP2.out.cell 2
  simp at p0 p1 p2 q1 q2
  have HSu : Hid (∀ (k : Nat) (w3 : World), k < n → Below w.heap.size w w3 → Calls Tryz.prog 32 #[.slice ac n cc, .int .i64 (k : Int)] w3 fun e w' => ∃ v, e = .returned v ∧ Hid (IOwn w' w3.heap.size v (sucP C k)) ∧ Hid (Below w3.heap.size w3 w')) := hide_ (fun k w3 hk hB => by
    have := suc_any enc ac cc C E k w3 (by omega) hK (hide_ (hC.out.later hB))
    rw [hn] at this
    exact this)
  have HRe : Hid (∀ w3 : World, Below w.heap.size w w3 → Calls Tryz.prog 29 #[.agg #[.bool enc, .slice ac n cc, .slice ae E.length ce]] w3 fun e w' => ReTo w3 n C E e w') := hide_ (fun w3 hB => by
    have := reached_any enc ac ae cc ce C E w3 hK (hide_ (hC.out.later hB)) (hide_ (hE.out.later hB))
    rw [hn] at this
    exact this)
  have HEr : Hid (∀ w3 : World, Below w.heap.size w w3 → Row .i64 w3 ae E) := hide_ (fun w3 hB => hE.out.later hB)
  have Hn := hide_ hn
  have HG0 : Hid (GI n (PE E 0) (List.replicate n false)) := hide_ ⟨by simp, fun k hk => by rw [qAt_new]; exact ⟨fun h => (by cases h), fun ⟨i, hi, _⟩ => (by omega)⟩⟩
  clear hn hB2 hK2 hgb hC hE HB1 HP1
  go_enter Tryz.func30, Tryz.ntmps30
  go_upto_region 1 with fail
  try rw [hw1]
  clear hw1
  go_wp2_with fail
  clear p0 p1 p2 q1 q2 hmk
  go_loopw [18] (fun x18 wr => ∃ (j : Nat) (G : List Bool), j ≤ E.length ∧ x18 = .int .i64 (j : Int) ∧ Hid (GI n (PE E j) G) ∧ Hid (Blk wr gb 4 (G.map Value.bool)) ∧ Hid (Blk wr w.heap.size 25 [.bool enc, .slice ac n cc, .slice ae E.length ce]) ∧ Hid (Below w.heap.size w wr)) (fun x18 _ => E.length - (intOf x18).toNat)
  case atStart => exact ⟨0, _, by omega, rfl, HG0, HK2, HP2, HB2⟩
  case round =>
    clear HG0 HK2 HP2 HB2
    obtain ⟨j, G, hj, rfl, HGj, HKj, HPj, HBj⟩ := hrel
    generalize wr = wq at *
    by_cases hlt : j < E.length
    · have hlt' : (j : Int) < (E.length : Int) := by omega
      have hent := hK.out.ent j hlt
      obtain ⟨y, hy⟩ := Int.eq_ofNat_of_zero_le hent.1
      have hyn : y < n := by rw [← Hn.out]; omega
      have hynI : (y : Int) < (n : Int) := by omega
      obtain ⟨be, oe, hae, -, hce⟩ := (HEr.out wq HBj.out).open (by omega)
      subst hae
      have cy := hce j hlt
      rw [hy] at cy
      have zc := bAt HKj.out (k := y) (by rw [HGj.out.len]; exact hyn)
      have zf := HKj.out.frozen y
      obtain ⟨w3, hw3⟩ : ∃ wx, wq.setCell ⟨gb, y, none⟩ (.bool true) = wx := ⟨_, rfl⟩
      have hU3 : Upd (fun q => q = gb) wq w3 := by rw [← hw3]; exact (Upd.refl _ wq).set _ _ (.inl rfl)
      have HK3 : Hid (Blk w3 gb 4 ((G.set y true).map Value.bool)) := hide_ (by rw [← hw3]; exact bset HKj.out)
      have HP3 := hide_ (HPj.out.upd hU3 (fun e => by have := Hgb.out; omega))
      have HB3 := hide_ (below_to2 HBj.out hU3 (fun q e => by have := Hgb.out; omega))
      have HG3 : Hid (GI n (PE E (j + 1)) (G.set y true)) := hide_ ((HGj.out.set hyn).congr (fun k _ => pe_step (by unfold hAt; exact hy)))
      clear hent hy hce hU3 HGj HKj HPj HBj hyn
      go_wp2_with fail
      try rw [hw3]
      go_roundw
      case rel => exact ⟨j + 1, G.set y true, by omega, by go_num, HG3, HK3, HP3, HB3⟩
      case measure => simp [intOf]; omega
    · have ej : j = E.length := by omega
      subst ej
      have HRj := hide_ (HRe.out wq HBj.out)
      have q0 := HPj.out.cell 0; have q1 := HPj.out.cell 1; have q2 := HPj.out.cell 2
      simp at q0 q1 q2
      clear hlt
      go_wp2_with fail
      refine HRj.out.mono ?_
      rintro e w4 hT
      obtain ⟨R, gr, rfl, hR, hK4, hgr, hB4⟩ := hT
      have HR := hide_ hR
      have HKr4 := hide_ hK4
      have HKg4 := hide_ (HKj.out.later hB4)
      have HP4 := hide_ (HPj.out.later hB4)
      have HB4 := hide_ (below_to HBj.out hB4)
      have Hne : Hid (gr ≠ gb) := hide_ (fun e => by have := HKj.out.lt; omega)
      have HG4 : Hid (GI n (PR C E R 0) G) := hide_ (HGj.out.congr (fun k _ => ⟨.inl, fun h => h.elim id (fun ⟨i, hi, _⟩ => by omega)⟩))
      clear hR hK4 hgr hB4 HRj q0 q1 q2 HKj HPj HBj HGj HRe
      go_wp2_with fail
      go_loopw [29] (fun x29 wr => ∃ (i : Nat) (G : List Bool), i ≤ n ∧ x29 = .int .i64 (i : Int) ∧ Hid (GI n (PR C E R i) G) ∧ Hid (Blk wr gb 4 (G.map Value.bool)) ∧ Hid (Blk wr gr 4 (R.map Value.bool)) ∧ Hid (Blk wr w.heap.size 25 [.bool enc, .slice ac n cc, .slice ae E.length ce]) ∧ Hid (Below w.heap.size w wr)) (fun x29 _ => n - (intOf x29).toNat)
      case atStart => exact ⟨0, G, by omega, rfl, HG4, HKg4, HKr4, HP4, HB4⟩
      case round =>
        clear HG4 HKg4 HKr4 HP4 HB4
        obtain ⟨i, G, hi, rfl, HGi, HKi, HRi, HPi, HBi⟩ := hrel
        generalize wr = wp at *
        by_cases hlt : i < n
        · have hlt' : (i : Int) < (n : Int) := by omega
          have cr := bAt HRi.out (k := i) (by rw [HR.out.len, Hn.out]; exact hlt)
          obtain ⟨d, hd⟩ : ∃ d, qAt R i = d := ⟨_, rfl⟩
          rw [hd] at cr
          have Hd := hide_ hd
          clear hd
          cases d
          · have HG5 : Hid (GI n (PR C E R (i + 1)) G) := hide_ (HGi.out.congr (fun k _ => pr_skip Hd.out))
            go_wp2_with fail
            go_roundw
            case rel => exact ⟨i + 1, G, by omega, by go_num, HG5, HKi, HRi, HPi, HBi⟩
            case measure => simp [intOf]; omega
          · have HSi := hide_ (HSu.out i wp hlt HBi.out)
            have q1 := HPi.out.cell 1
            simp at q1
            go_wp2_with fail
            refine HSi.out.mono ?_
            rintro e w5 ⟨v, rfl, HO5, HB5⟩
            obtain ⟨av, cv, hv, hrow, -, -⟩ := HO5.out.row
            subst hv
            have HS5 := hide_ hrow
            obtain ⟨nl, hnl⟩ : ∃ nl, (sucP C i).length = nl := ⟨_, rfl⟩
            have Hnl := hide_ hnl
            have hnlb : nl ≤ 65 := by rw [← hnl]; exact suc_le hK.out (by rw [Hn.out]; exact hlt)
            rw [hnl]
            have HSt : Hid (∀ q, q < nl → ∃ y : Nat, hAt (sucP C i) q = (y : Int) ∧ y < n) := hide_ (fun q hq => by
              have h1 := suc_stn hK.out (k := i) (by rw [Hn.out]; exact hlt) _ (hAt_mem (l := sucP C i) (i := q) (by omega))
              obtain ⟨y, hy⟩ := Int.eq_ofNat_of_zero_le h1.1
              exact ⟨y, hy, by rw [← Hn.out]; omega⟩)
            have HKg5 := hide_ (HKi.out.later HB5.out)
            have HKr5 := hide_ (HRi.out.later HB5.out)
            have HP5 := hide_ (HPi.out.later HB5.out)
            have HBw5 := hide_ (below_to HBi.out HB5.out)
            have Hvn : Hid (∀ x, av = some x → 0 < nl → x.block ≠ gb) := hide_ (fun x e h0 => by
              have h1 := HO5.out.open (by rw [hnl]; exact h0)
              obtain ⟨g', c', e1, -, h2, -⟩ := h1
              injection e1 with e1
              rw [e] at e1
              injection e1 with e1
              have h3 := HKi.out.lt
              rw [e1]
              show g' ≠ gb
              omega)
            have HG5 : Hid (GI n (PS C E R i 0) G) := hide_ (HGi.out.congr (fun k _ => ps_zero))
            clear hnl hrow HO5 HSi q1 HGi HKi HRi HPi HBi cr HB5
            go_wp2_with fail
            go_loopw [42] (fun x42 wr => ∃ (t : Nat) (G : List Bool), t ≤ nl ∧ x42 = .int .i64 (t : Int) ∧ Hid (GI n (PS C E R i t) G) ∧ Hid (Blk wr gb 4 (G.map Value.bool)) ∧ Hid (Blk wr gr 4 (R.map Value.bool)) ∧ Hid (Blk wr w.heap.size 25 [.bool enc, .slice ac n cc, .slice ae E.length ce]) ∧ Hid (Row .i64 wr av (sucP C i)) ∧ Hid (Below w.heap.size w wr)) (fun x42 _ => nl - (intOf x42).toNat)
            case atStart => exact ⟨0, G, by omega, rfl, HG5, HKg5, HKr5, HP5, HS5, HBw5⟩
            case round =>
              clear HG5 HKg5 HKr5 HP5 HS5 HBw5
              obtain ⟨t, G, ht, rfl, HGt, HKt, HRt, HPt, HSt2, HBt⟩ := hrel
              generalize wr = wz at *
              by_cases hlt2 : t < nl
              · have hlt2' : (t : Int) < (nl : Int) := by omega
                obtain ⟨y, hy, hyn⟩ := HSt.out t hlt2
                have hynI : (y : Int) < (n : Int) := by omega
                obtain ⟨bv, ov, hav, -, hcv⟩ := HSt2.out.open (by rw [Hnl.out]; omega)
                subst hav
                have cy : wz.cell? ⟨bv, ov + t, none⟩ = some (.int .i64 (y : Int)) := by
                  have h1 := hcv t (by rw [Hnl.out]; exact hlt2)
                  have h2 : (sucP C i).getD t 0 = (y : Int) := hy
                  rw [h2] at h1
                  exact h1
                have hwi : IntKind.i64.wrap ((i : Int) + 1) = (i : Int) + 1 := i64w _ (by omega)
                have zc := bAt HKt.out (k := y) (by rw [HGt.out.len]; exact hyn)
                have zf := HKt.out.frozen y
                obtain ⟨w6, hw6⟩ : ∃ wx, wz.setCell ⟨gb, y, none⟩ (.bool true) = wx := ⟨_, rfl⟩
                have hU6 : Upd (fun q => q = gb) wz w6 := by rw [← hw6]; exact (Upd.refl _ wz).set _ _ (.inl rfl)
                have HK6 : Hid (Blk w6 gb 4 ((G.set y true).map Value.bool)) := hide_ (by rw [← hw6]; exact bset HKt.out)
                have HR6 := hide_ (HRt.out.upd hU6 (fun e => Hne.out e))
                have HP6 := hide_ (HPt.out.upd hU6 (fun e => by have := Hgb.out; omega))
                have HS6 := hide_ (HSt2.out.upd hU6 (fun x e => Hvn.out x e (by omega)))
                have HB6 := hide_ (below_to2 HBt.out hU6 (fun q e => by have := Hgb.out; omega))
                have Hy := hide_ hy
                have Hcn : Hid (cnB C i y ↔ (y ≠ i + 1 ∨ 1 < nl)) := hide_ (by unfold cnB; rw [Hnl.out])
                clear hy hcv hU6
                by_cases h1 : y = i + 1
                · have f1 : ((y : Int) != (i : Int) + 1) = false := by simp; omega
                  by_cases h2 : 1 < nl
                  · have f2 : (1 : Int) < (nl : Int) := by omega
                    have f3 : decide ((1 : Int) < (nl : Int)) = true := decide_eq_true f2
                    have HG6 : Hid (GI n (PS C E R i (t + 1)) (G.set y true)) := hide_ ((HGt.out.set hyn).congr (fun k _ => ps_step Hy.out (Hcn.out.2 (.inr h2))))
                    clear h1 h2 HGt HKt HRt HPt HSt2 HBt
                    go_wp2_with fail
                    try rw [hw6]
                    go_roundw
                    case rel => exact ⟨t + 1, G.set y true, by omega, by go_num, HG6, HK6, HR6, HP6, HS6, HB6⟩
                    case measure => simp [intOf]; omega
                  · have f2 : ¬ (1 : Int) < (nl : Int) := by omega
                    have f3 : decide ((1 : Int) < (nl : Int)) = false := decide_eq_false f2
                    have HG6 : Hid (GI n (PS C E R i (t + 1)) G) := hide_ (HGt.out.congr (fun k _ => ps_skip Hy.out (fun h => (Hcn.out.1 h).elim (fun h => h h1) h2)))
                    clear h1 h2 HGt HK6 HR6 HP6 HS6 HB6 hw6
                    go_wp2_with fail
                    go_roundw
                    case rel => exact ⟨t + 1, G, by omega, by go_num, HG6, HKt, HRt, HPt, HSt2, HBt⟩
                    case measure => simp [intOf]; omega
                · have f1 : ((y : Int) != (i : Int) + 1) = true := by simp; omega
                  have HG6 : Hid (GI n (PS C E R i (t + 1)) (G.set y true)) := hide_ ((HGt.out.set hyn).congr (fun k _ => ps_step Hy.out (Hcn.out.2 (.inl h1))))
                  clear h1 HGt HKt HRt HPt HSt2 HBt
                  go_wp2_with fail
                  try rw [hw6]
                  go_roundw
                  case rel => exact ⟨t + 1, G.set y true, by omega, by go_num, HG6, HK6, HR6, HP6, HS6, HB6⟩
                  case measure => simp [intOf]; omega
              · have et : t = nl := by omega
                have HG6 : Hid (GI n (PR C E R (i + 1)) G) := hide_ (HGt.out.congr (fun k _ => by rw [et, ← Hnl.out]; exact pr_step Hd.out))
                clear et
                go_wp2_with fail
                go_roundw
                case rel => exact ⟨i + 1, G, by omega, by go_num, HG6, HKt, HRt, HPt, HBt⟩
                case measure => simp [intOf]; omega
        · have ei : i = n := by omega
          subst ei
          have HX : Hid (BnTo w i C E (.returned (.slice (some ⟨gb, 0, none⟩) i i)) wp) := hide_ ⟨R, G, gb, rfl, HR.out, GI.bg (by rw [Hn.out]; exact HGi.out), HKi.out, HBi.out⟩
          go_wp2_with fail
          go_ret
          exact HX.out
end Go.Proofs.YtiojpohmgjdgfaaGreat
