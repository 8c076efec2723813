import Derived.Test.YtjamfbpdepahnaaGreatPart44
import Derived.Test.YtjamfbpdepahnaaGreatPart03
import Derived.Sort.OwnSortedInts
import Derived.Lib.OwnBridge
import Derived.Deep.LoopGhost
namespace Go.Proofs.YtjamfbpdepahnaaGreat
open Go.RowKit
set_option linter.unusedVariables false
set_option linter.unusedSimpArgs false
set_option maxRecDepth 100000 in
set_option maxHeartbeats 16000000 in
theorem hasT_any (op : Int) (w : World) : Calls Tryz.prog 24 #[.int .i64 op] w fun e w' => e = .returned (.bool (htP op)) ∧ w = w' := by
  obtain ⟨d, hd⟩ : ∃ d, htP op = d := ⟨_, rfl⟩
  rw [hd]
  unfold htP at hd
  have Hd := hide_ hd
  clear hd
  cases d
  · have h := of_decide_eq_false Hd.out
    have f1 : (op == 7) = false := by simp; omega
    have f2 : (op == 9) = false := by simp; omega
    have f3 : (op == 11) = false := by simp; omega
    have f4 : (op == 12) = false := by simp; omega
    have f5 : (op == 13) = false := by simp; omega
    have f6 : (op == 14) = false := by simp; omega
    have f7 : (op == 15) = false := by simp; omega
    have f8 : (op == 19) = false := by simp; omega
    have f9 : (op == 40) = false := by simp; omega
    have f10 : (op == 47) = false := by simp; omega
    clear h
    go_enter Tryz.func24, Tryz.ntmps24
    go_wp2
    go_ret
    exact ⟨rfl, rfl⟩
  · have h := of_decide_eq_true Hd.out
    have H := hide_ h
    clear h Hd
    go_enter Tryz.func24, Tryz.ntmps24
    rcases H.out with rfl | rfl | rfl | rfl | rfl | rfl | rfl | rfl | rfl | rfl <;> (clear H; go_wp2; go_ret; exact ⟨rfl, rfl⟩)
set_option maxRecDepth 100000 in
set_option maxHeartbeats 16000000 in
theorem fol_any (x : In) (w : World) : Calls Tryz.prog 28 #[.agg #[.int .i64 x.op, .int .i64 x.a, .int .i64 x.b, .int .i64 x.c]] w fun e w' => e = .returned (.int .i64 (folP x)) ∧ Below w.heap.size w w' := by
  obtain ⟨r, hr⟩ : ∃ r, folP x = r := ⟨_, rfl⟩
  rw [hr]
  unfold folP at hr
  have HR := hide_ hr
  clear hr
  obtain ⟨w1, hw1⟩ : ∃ wx, w.alloc (.cells #[.int .i64 x.op, .int .i64 x.a, .int .i64 x.b, .int .i64 x.c] 37) = wx := ⟨_, rfl⟩
  have HB1 : Hid (Below w.heap.size w w1) := hide_ (by rw [← hw1]; exact below1 _ _)
  have KX : Blk w1 w.heap.size 37 (inc x) := by rw [← hw1]; exact Blk.newA w _ _
  obtain ⟨i0, i1, i2, i3⟩ := KX.ci
  clear KX
  by_cases h20 : x.op = 20 ∨ x.op = 19 ∨ x.op = 9
  · have e1 : r = 0 := by have h := HR.out; rw [if_pos h20] at h; exact h.symm
    subst e1
    have H := hide_ h20
    clear h20 HR
    go_enter Tryz.func28, Tryz.ntmps28
    go_upto_region 1 with fail
    try rw [hw1]
    clear hw1
    rcases H.out with h | h | h <;> (rw [h] at i0; clear H h; go_wp2; go_ret; exact ⟨rfl, HB1.out⟩)
  have f1 : (x.op == 20) = false := by simp; omega
  have f2 : (x.op == 19) = false := by simp; omega
  have f3 : (x.op == 9) = false := by simp; omega
  by_cases h8 : x.op = 8 ∨ x.op = 41
  · have e1 : r = x.a := by have h := HR.out; rw [if_neg h20, if_pos h8] at h; exact h.symm
    subst e1
    have H := hide_ h8
    clear h20 h8 HR f1 f2 f3
    go_enter Tryz.func28, Tryz.ntmps28
    go_upto_region 1 with fail
    try rw [hw1]
    clear hw1
    rcases H.out with h | h <;> (rw [h] at i0; clear H h; go_wp2; go_ret; exact ⟨rfl, HB1.out⟩)
  · have f4 : (x.op == 8) = false := by simp; omega
    have f5 : (x.op == 41) = false := by simp; omega
    have e1 : r = 1 := by have h := HR.out; rw [if_neg h20, if_neg h8] at h; exact h.symm
    subst e1
    clear h20 h8 HR
    go_enter Tryz.func28, Tryz.ntmps28
    go_upto_region 1 with fail
    try rw [hw1]
    clear hw1
    go_wp2
    go_ret
    exact ⟨rfl, HB1.out⟩
theorem IOwn.sorted {w : World} {B g n cap : Nat} {l : List Int} (h : IOwn w B (.slice (some ⟨g, 0, none⟩) n cap) l) (hn : l.length = n) (h0 : 0 < n) (hl : n < 4611686018427387904) :
    Calls Tryz.prog 29 #[.slice (some ⟨g, 0, none⟩) n cap] w fun e w' => e = .returned (.tuple #[]) ∧ Hid (IOwn w' B (.slice (some ⟨g, 0, none⟩) n cap) (l.mergeSort fun x y => decide (x ≤ y))) ∧ Hid (Upd (fun q => q = g) w w') := by
  subst hn
  have hh := h
  unfold IOwn at hh
  rcases hh.2 with ⟨h1, _⟩ | ⟨g', cap', cur, hv, hbase, hb, h1, h2, h3, h4⟩
  · cases h1
  cases hv
  have hl2 : (l.mergeSort fun x y => decide (x ≤ y)).length = l.length := List.length_mergeSort l
  have hH : Go.Sort.Holds (Value.int .i64) w g 0 l.toArray := holds_of_blockI hb (by simpa [cellsL] using h4)
  refine (Tryz.slices_Sort_int g 0 cap l w hH (by exact (Array.getElem?_eq_some_iff.1 hb).1) hl).mono ?_
  rintro e w' ⟨rfl, nn, os, rfl⟩
  have hs := ownsRow_sortedI (n := nn) (os := os) (ts := l.mergeSort fun x y => decide (x ≤ y)) hl2 hbase hb h1 h2 h3
  refine ⟨rfl, hide_ ?_, hide_ ?_⟩
  · unfold IOwn
    rw [hl2]
    exact hs
  · exact (Upd.refl _ w).grown (grownBy_sortedI _) (fun k e => .inl (by injection e with e; exact e.symm))
theorem IOwn.compacted {w : World} {B g n cap : Nat} {l : List Int} (h : IOwn w B (.slice (some ⟨g, 0, none⟩) n cap) l) (hn : l.length = n) (h0 : 0 < n) (hl : n < 4611686018427387904) :
    Calls Tryz.prog 30 #[.slice (some ⟨g, 0, none⟩) n cap] w fun e w' => e = .returned (.slice (some ⟨g, 0, none⟩) (Go.Lib.compact l).length cap) ∧ Hid (IOwn w' B (.slice (some ⟨g, 0, none⟩) (Go.Lib.compact l).length cap) (Go.Lib.compact l)) ∧ Hid (Upd (fun q => q = g) w w') := by
  subst hn
  have hh := h
  unfold IOwn at hh
  rcases hh.2 with ⟨h1, _⟩ | ⟨g', cap', cur, hv, hbase, hb, h1, h2, h3, h4⟩
  · cases h1
  cases hv
  have hH : Go.Sort.Holds (Value.int .i64) w g 0 l.toArray := holds_of_blockI hb (by simpa [cellsL] using h4)
  refine (Tryz.slices_Compact_int g 0 cap l w hH (by omega) h1).mono ?_
  rintro e w' ⟨rfl, q, rfl⟩
  have hle := Go.Lib.compact_length_le l
  have hc := Go.Lib.ownsRow_putRow (enc := Value.int .i64) (q := q) (k := (Go.Lib.compact l).length) (ys := Go.Lib.compact l ++ List.replicate (l.length - (Go.Lib.compact l).length) 0) (zs := l) hh (by simp; omega) hle
  rw [List.take_left] at hc
  refine ⟨rfl, hide_ hc, hide_ ⟨rfl, rfl, rfl, ?_, fun k hk hn => ?_⟩⟩
  · simp [Go.Sort.putRow, Go.Sort.mapBlock, Go.Sort.ahead]
  · simp [Go.Sort.putRow, Go.Sort.mapBlock, Go.Sort.ahead, Array.getElem?_modify, show g ≠ k from fun e => hn e.symm]
set_option maxRecDepth 100000 in
set_option maxHeartbeats 16000000 in
theorem suc_any (enc : Bool) (ac : Option Addr) (cc : Nat) (C : List In) (E : List Int) (k : Nat) (w : World) (hk : k < C.length) (hK : Hid (Chk enc C E)) (hC : Hid (IRow w ac C)) :
    Calls Tryz.prog 20 #[.slice ac C.length cc, .int .i64 (k : Int)] w fun e w' => ∃ v, e = .returned v ∧ Hid (IOwn w' w.heap.size v (sucP C k)) ∧ Hid (Below w.heap.size w w') := by
  obtain ⟨bc, oc, hac, -⟩ := hC.out.open (by omega)
  subst hac
  obtain ⟨x, hx⟩ : ∃ x, C[k]? = some x := ⟨_, List.getElem?_eq_getElem hk⟩
  have hxA : inA C k = x := inA_at hx
  have hfo := chk_fol hK.out hk
  rw [hxA] at hfo
  obtain ⟨m, hm⟩ := Int.eq_ofNat_of_zero_le hfo.1
  obtain ⟨n, hn⟩ : ∃ n, C.length = n := ⟨_, rfl⟩
  have hnb : n ≤ 1048576 := by rw [← hn]; exact hK.out.nc
  have HS : Hid (∀ l : List Int, l = (if htP x.op = true then [x.b] else []) ++ flP n k m → Go.Lib.compact (l.mergeSort fun x y => decide (x ≤ y)) = sucP C k) := hide_ (fun l hl => by
    rw [← suc_is C k]
    unfold rawP
    rw [hxA, hm, hn, Int.toNat_natCast, hl])
  obtain ⟨L0, hL0⟩ : ∃ L0, (if htP x.op = true then [x.b] else []) = L0 := ⟨_, rfl⟩
  rw [hL0] at HS
  have hL1 : L0.length ≤ 1 := by rw [← hL0]; split <;> simp
  obtain ⟨w1, hw1⟩ : ∃ wx, w.alloc (.cells #[.int .i64 x.op, .int .i64 x.a, .int .i64 x.b, .int .i64 x.c] 37) = wx := ⟨_, rfl⟩
  have HB1 : Hid (Below w.heap.size w w1) := hide_ (by rw [← hw1]; exact below1 _ _)
  have HX1 : Hid (Blk w1 w.heap.size 37 (inc x)) := hide_ (by rw [← hw1]; exact Blk.newA w _ _)
  obtain ⟨i0, i1, i2, i3⟩ := HX1.out.ci
  obtain ⟨j0, j1, j2, j3⟩ := hC.out.at hx
  have HF : Hid (∀ w3 : World, Calls Tryz.prog 28 #[.agg #[.int .i64 x.op, .int .i64 x.a, .int .i64 x.b, .int .i64 x.c]] w3 fun e w' => e = .returned (.int .i64 (m : Int)) ∧ Hid (Below w3.heap.size w3 w')) := hide_ (fun w3 => (fol_any x w3).mono (by
    rintro e w' ⟨rfl, h⟩
    exact ⟨by rw [hm], hide_ h⟩))
  obtain ⟨d, hd⟩ : ∃ d, htP x.op = d := ⟨_, rfl⟩
  have HT := hide_ (hasT_any x.op w1)
  rw [hd] at HT hL0
  have HL0 := hide_ hL0
  have HL1 := hide_ hL1
  rw [hn] at hk
  have hkn : (k : Int) < (n : Int) := by omega
  have hm64 : m ≤ 64 := by omega
  rw [hn]
  clear hx hxA hfo hm hn hd hL0 hL1 hC hK
  go_enter Tryz.func20, Tryz.ntmps20
  go_upto_region 3 with fail
  try rw [hw1]
  clear hw1 j0 j1 j2 j3
  go_wp2_with fail
  refine HT.out.mono ?_
  rintro e w2 ⟨rfl, rfl⟩
  go_upto_if 14 with fail
  go_cut [5] from 14 to 19 (fun x5 wc => ∃ (v5 : Value) (w4 : World), v5 = x5 ∧ w4 = wc ∧ Hid (IOwn w4 w.heap.size v5 L0) ∧ Hid (Below w1.heap.size w1 w4))
  case first =>
    cases d
    · have e1 : L0 = [] := by rw [← HL0.out]; rfl
      go_wp2_with fail
      go_meet
      case rel => exact ⟨_, _, rfl, rfl, hide_ (by rw [e1]; exact IOwn.nil _ _), hide_ (Below.refl _ _)⟩
    · have e1 : L0 = [x.b] := by rw [← HL0.out]; rfl
      obtain ⟨g, c, w3, hr3, hO3, hU3, -⟩ := (IOwn.nil w1 w.heap.size).push x.b (by simp) HB1.out.size
      have HRun := hide_ hr3
      have HO3 := hide_ hO3
      have HB3 := hide_ (hU3.below w1.heap.size (Nat.le_refl _) (fun q e => by cases e))
      have He := hide_ e1
      clear hr3 hO3 hU3 e1
      go_wp2_with (first | (at_builtin; refine wpList_append_run rfl (.tmp 15) (.tmp 18) 23 23 rfl rfl rfl HRun.out ?_; clear HRun) | fail)
      go_meet
      case rel => exact ⟨_, _, rfl, rfl, hide_ (by rw [He.out]; exact HO3.out), HB3⟩
  case rest =>
  obtain ⟨v5, w4, rfl, rfl, HO4, HB4⟩ := hcut
  have HX4 := hide_ (HX1.out.later HB4.out)
  have HBw := hide_ (below_to HB1.out HB4.out)
  clear HX1 HB1 HB4 HT HL0 i0 i1 i2 i3
  go_wp2_with fail
  go_loopw [5, 7] (fun x5 x7 wr => ∃ (j : Nat) (v : Value), v = x5 ∧ j ≤ m ∧ x7 = .int .i64 ((k : Int) + 1 + (j : Int)) ∧ Hid (IOwn wr w.heap.size v (L0 ++ flP n k j)) ∧ Hid (Blk wr w.heap.size 37 (inc x)) ∧ Hid (Below w.heap.size w wr)) (fun _ x7 _ => k + 1 + m - (intOf x7).toNat)
  case atStart => exact ⟨0, _, rfl, by omega, by go_num, hide_ (by rw [flP, List.append_nil]; exact HO4.out), HX4, HBw⟩
  case round =>
    clear HO4 HX4 HBw
    obtain ⟨j, v, rfl, hj, rfl, HOj, HXj, HBj⟩ := hrel
    generalize wr = wq at *
    obtain ⟨i0, i1, i2, i3⟩ := HXj.out.ci
    have HFj := hide_ (HF.out wq)
    go_wp2_with fail
    refine HFj.out.mono ?_
    rintro e w5 ⟨rfl, HB5⟩
    have HO5 := hide_ (HOj.out.later HB5.out)
    have HX5 := hide_ (HXj.out.later HB5.out)
    have HBw := hide_ (below_to HBj.out HB5.out)
    have HLl : Hid ((L0 ++ flP n k j).length ≤ 100) := hide_ (by
      have h1 := fl_len (n := n) (k := k) j
      have h2 := HL1.out
      rw [List.length_append]
      omega)
    clear HOj HXj HBj HB5 HFj i0 i1 i2 i3
    have hw1 : IntKind.i64.wrap ((k : Int) + (m : Int)) = (k : Int) + (m : Int) := i64w _ (by omega)
    by_cases hlt : j < m
    · have hle : (k : Int) + 1 + (j : Int) ≤ (k : Int) + (m : Int) := by omega
      have hw2 : IntKind.i64.wrap ((k : Int) + 1 + (j : Int) + 1) = (k : Int) + 1 + ((j + 1 : Nat) : Int) := by rw [i64w _ (by omega)]; omega
      by_cases hin : k + j + 1 < n
      · have hin' : (k : Int) + 1 + (j : Int) < (n : Int) := by omega
        obtain ⟨g, c, w6, hr6, hO6, hU6, -⟩ := HO5.out.push ((k : Int) + 1 + (j : Int)) (by have := HLl.out; omega) HBw.out.size
        have HRun := hide_ hr6
        have HO6 : Hid (IOwn w6 w.heap.size (.slice (some ⟨g, 0, none⟩) ((L0 ++ flP n k j).length + 1) c) (L0 ++ flP n k (j + 1))) := hide_ (by
          rw [flP, if_pos hin, ← List.append_assoc, show ((k + j + 1 : Nat) : Int) = (k : Int) + 1 + (j : Int) by omega]
          exact hO6)
        have HX6 := hide_ (HX5.out.upd hU6 (fun e => HO5.out.neB HX5.out (by decide) e))
        have HB6 := hide_ (below_to2 HBw.out hU6 (fun q e => (HO5.out.lies e).1))
        clear hr6 hO6 hU6 HO5 HX5 HBw hin
        go_wp2_with (first | (at_builtin; refine wpList_append_run rfl (.tmp 34) (.tmp 36) 23 23 rfl rfl rfl HRun.out ?_; clear HRun) | fail)
        go_roundw
        case rel => exact ⟨j + 1, _, rfl, by omega, by go_num, hide_ (by have h1 := HO6.out; rw [List.length_append] at h1; exact h1), HX6, HB6⟩
        case measure => simp [intOf]; omega
      · have hin' : ¬ (k : Int) + 1 + (j : Int) < (n : Int) := by omega
        have HO6 : Hid (IOwn w5 w.heap.size v (L0 ++ flP n k (j + 1))) := hide_ (by
          rw [flP, if_neg hin, List.append_nil]
          exact HO5.out)
        clear HO5 hin
        go_wp2_with fail
        go_roundw
        case rel => exact ⟨j + 1, _, rfl, by omega, by go_num, HO6, HX5, HBw⟩
        case measure => simp [intOf]; omega
    · have hle : ¬ (k : Int) + 1 + (j : Int) ≤ (k : Int) + (m : Int) := by omega
      have ej : j = m := by omega
      have HSj := hide_ (HS.out (L0 ++ flP n k j) (by rw [ej]))
      obtain ⟨l, hl⟩ : ∃ l, L0 ++ flP n k j = l := ⟨_, rfl⟩
      rw [hl] at HSj HO5 HLl
      clear hl ej HS HX5
      by_cases h0 : l = []
      · subst h0
        obtain ⟨a, c, hv⟩ := HO5.out.slice
        have hv : v = .slice a 0 c := hv
        subst hv
        have HZ : Hid (IOwn w5 w.heap.size (.slice a 0 c) (sucP C k)) := hide_ (by
          rw [← HSj.out]
          have e : Go.Lib.compact (([] : List Int).mergeSort fun x y => decide (x ≤ y)) = [] := by simp [Go.Lib.compact, Go.Lib.compactUpTo]
          rw [e]
          exact HO5.out)
        clear HO5 HSj
        go_wp2_with fail
        refine (Tryz.slices_Sort_int_none a c w5).mono ?_
        rintro e w6 ⟨rfl, rfl⟩
        go_wp2_with fail
        refine (Tryz.slices_Compact_int_empty a c w6).mono ?_
        rintro e w7 ⟨rfl, rfl⟩
        go_wp2_with fail
        go_ret
        exact ⟨_, rfl, HZ, HBw⟩
      · have hl0 : 0 < l.length := List.length_pos_iff.2 h0
        obtain ⟨g, c, hv, hcv, hgB, hgL⟩ := HO5.out.open hl0
        subst hv
        have hlb : l.length < 4611686018427387904 := by have := HLl.out; omega
        have HSo := hide_ (HO5.out.sorted rfl hl0 hlb)
        have Hg := hide_ hgB
        have Hlb := hide_ hlb
        have Hl0 := hide_ hl0
        clear hcv hgL hgB hlb h0 HLl hl0
        obtain ⟨q, hq⟩ : ∃ q, l.length = q := ⟨_, rfl⟩
        have Hq := hide_ hq
        rw [hq] at HSo
        rw [hq]
        clear hq
        go_wp2_with fail
        refine HSo.out.mono ?_
        rintro e w6 ⟨rfl, HO6, HU6⟩
        have HCo := hide_ (HO6.out.compacted (by rw [List.length_mergeSort]; exact Hq.out) (by rw [← Hq.out]; exact Hl0.out) (by rw [← Hq.out]; exact Hlb.out))
        rw [HSj.out] at HCo
        have HB6 := hide_ (below_to2 HBw.out HU6.out (fun q e => by rw [e]; exact Hg.out))
        clear HSo HO5 HU6 HBw HO6
        go_wp2_with fail
        refine HCo.out.mono ?_
        rintro e w7 ⟨rfl, HO7, HU7⟩
        have HB7 := hide_ (below_to2 HB6.out HU7.out (fun q e => by rw [e]; exact Hg.out))
        go_wp2_with fail
        go_ret
        exact ⟨_, rfl, HO7, HB7⟩
theorem IOwn.wider {w : World} {B B' : Nat} {v : Value} {l : List Int} (h : IOwn w B v l) (hB : B' ≤ B) : IOwn w B' v l := by
  unfold IOwn at h ⊢
  refine ⟨h.1, ?_⟩
  rcases h.2 with h1 | ⟨g, cap, cur, hv, hbase, h2⟩
  · exact .inl h1
  · exact .inr ⟨g, cap, cur, hv, Nat.le_trans hB hbase, h2⟩
theorem clone_any (ae : Option Addr) (ce : Nat) (E : List Int) (w : World) (hl : E.length ≤ 1048576) (h : Row .i64 w ae E) :
    Calls Tryz.prog 31 #[.slice ae E.length ce] w fun e w' => ∃ v, e = .returned v ∧ Hid (IOwn w' w.heap.size v E) ∧ Hid (Below w.heap.size w w') := by
  by_cases h0 : E = []
  · subst h0
    cases ae with
    | none =>
      refine (Tryz.slices_Clone_int_nil 0 ce w).mono ?_
      rintro e w' ⟨rfl, rfl⟩
      exact ⟨_, rfl, hide_ (IOwn.nil _ _), hide_ (Below.refl _ _)⟩
    | some x =>
      refine (Tryz.slices_Clone_int_zero x ce w).mono ?_
      rintro e w' ⟨v, rfl, h1, -, h2⟩
      exact ⟨v, rfl, hide_ h1, hide_ h2⟩
  · obtain ⟨b, off, rfl, -, hc⟩ := h.open (List.length_pos_iff.2 h0)
    refine (Tryz.slices_Clone_int b off E.length ce E w (Nat.le_refl _) (by omega) hc).mono ?_
    rintro e w' ⟨v, rfl, h1, -, h2⟩
    rw [List.take_length] at h1
    exact ⟨v, rfl, hide_ h1, hide_ h2⟩
def ReTo (w : World) (n : Nat) (C : List In) (E : List Int) (e : Ending) (w' : World) : Prop := ∃ (R : List Bool) (g : Nat), e = .returned (.slice (some ⟨g, 0, none⟩) n n) ∧ ReOk C E R ∧ Blk w' g 4 (R.map Value.bool) ∧ w.heap.size ≤ g ∧ Below w.heap.size w w'
set_option maxRecDepth 100000 in
set_option maxHeartbeats 16000000 in
theorem reached_any (enc : Bool) (ac ae : Option Addr) (cc ce : Nat) (C : List In) (E : List Int) (w : World) (hK : Hid (Chk enc C E)) (hC : Hid (IRow w ac C)) (hE : Hid (Row .i64 w ae E)) :
    Calls Tryz.prog 21 #[.agg #[.bool enc, .slice ac C.length cc, .slice ae E.length ce]] w fun e w' => ReTo w C.length C E e w' := by
  obtain ⟨n, hn⟩ : ∃ n, C.length = n := ⟨_, rfl⟩
  have hnb : n ≤ 1048576 := by rw [← hn]; exact hK.out.nc
  have heb : E.length ≤ 1048576 := hK.out.ne
  obtain ⟨w1, hw1⟩ : ∃ wx, w.alloc (.cells #[.bool enc, .slice ac C.length cc, .slice ae E.length ce] 25) = wx := ⟨_, rfl⟩
  have HB1 : Hid (Below w.heap.size w w1) := hide_ (by rw [← hw1]; exact below1 _ _)
  have HP1 : Hid (Blk w1 w.heap.size 25 [.bool enc, .slice ac C.length cc, .slice ae E.length ce]) := hide_ (by rw [← hw1]; exact Blk.newA w _ _)
  obtain ⟨gf, hgf⟩ : ∃ gf, w1.heap.size = gf := ⟨_, rfl⟩
  obtain ⟨w2, hmk, hK2, hB2⟩ : ∃ w2, (Instr.makeSlice 43 (.int .i64 (n : Int)) (.int .i64 (n : Int))).run Tryz.prog w1 = .ok (.slice (some ⟨w1.heap.size, 0, none⟩) n n) w2 ∧ Blk w2 w1.heap.size 4 ((List.replicate n false).map Value.bool) ∧ Below w1.heap.size w1 w2 := ⟨_, makeBo n (by omega) w1, newBo w1 n, below1 _ _⟩
  rw [hgf] at hmk hK2
  have HP2 := hide_ (HP1.out.later hB2)
  have HB2 := hide_ (below_to HB1.out hB2)
  have HC2 := hide_ (hC.out.later HB2.out)
  have HE2 := hide_ (hE.out.later HB2.out)
  have HK2 := hide_ hK2
  have Hgf : Hid (w.heap.size ≤ gf) := hide_ (by rw [← hgf]; exact HB1.out.size)
  have p0 := HP1.out.cell 0; have p1 := HP1.out.cell 1; have p2 := HP1.out.cell 2
  have q1 := HP2.out.cell 1; have q2 := HP2.out.cell 2
  simp at p0 p1 p2 q1 q2
  have HCl := hide_ (clone_any ae ce E w2 heb HE2.out)
  have HSu : Hid (∀ (k : Nat) (w3 : World), k < n → Below w.heap.size w w3 → Calls Tryz.prog 20 #[.slice ac n cc, .int .i64 (k : Int)] w3 fun e w' => ∃ v, e = .returned v ∧ Hid (IOwn w' w3.heap.size v (sucP C k)) ∧ Hid (Below w3.heap.size w3 w')) := hide_ (fun k w3 hk hB => by
    have := suc_any enc ac cc C E k w3 (by omega) hK (hide_ (hC.out.later hB))
    rw [hn] at this
    exact this)
  have Hn := hide_ hn
  rw [hn] at p1 q1 HP1 HP2 hw1
  rw [hn]
  have HI0 : Hid (ReI C E (List.replicate n false) E) := hide_ (by rw [← hn]; exact ReI.new hK.out)
  clear hn hB2 hK2 hgf hC hE HB1 HP1
  go_enter Tryz.func21, Tryz.ntmps21
  go_upto_region 1 with fail
  try rw [hw1]
  clear hw1
  go_step3
  go_wp2_with fail
  refine HCl.out.mono ?_
  rintro e w3 ⟨vE, rfl, HO3, HB3⟩
  have HP3 := hide_ (HP2.out.later HB3.out)
  have HK3 := hide_ (HK2.out.later HB3.out)
  have HBw := hide_ (below_to HB2.out HB3.out)
  have HO3w : Hid (IOwn w3 w.heap.size vE E) := hide_ (HO3.out.wider HB2.out.size)
  clear p0 p1 p2 q1 q2 hmk HCl HC2 HE2 HP2 HK2 HB2 HB3 HO3
  go_wp2_with fail
  go_step3
  go_wp2_with fail
  go_loopg [4, 5] (n * 100 + E.length) (fun gk x4 x5 wr => ∃ (F : List Bool) (W : List Int) (vw : Value), vw = x5 ∧ x4 = .int .i64 (nf F n : Int) ∧ Hid (nf F n * 100 + W.length = gk) ∧ Hid (gk ≤ n * 100 + E.length) ∧ Hid (ReI C E F W) ∧ Hid (Blk wr gf 4 (F.map Value.bool)) ∧ Hid (IOwn wr w.heap.size vw W) ∧ Hid (Blk wr w.heap.size 25 [.bool enc, .slice ac n cc, .slice ae E.length ce]) ∧ Hid (Below w.heap.size w wr))
  case atStart => exact ⟨List.replicate n false, E, _, rfl, by rw [nf_new], hide_ (by rw [nf_new]), hide_ (Nat.le_refl _), HI0, HK3, HO3w, HP3, HBw⟩
  case round =>
    clear HI0 HK3 HO3w HP3 HBw
    obtain ⟨F, W, vw, rfl, rfl, Hgk, Hgb, HIj, HKj, HOj, HPj, HBj⟩ := hrel
    generalize wr = wq at *
    by_cases h0 : W = []
    · subst h0
      obtain ⟨a, c, hv⟩ := HOj.out.slice
      have hv : vw = .slice a 0 c := hv
      subst hv
      have HX : Hid (ReTo w n C E (.returned (.slice (some ⟨gf, 0, none⟩) n n)) wq) := hide_ ⟨F, gf, rfl, HIj.out.fin hK.out, HKj.out, Hgf.out, HBj.out⟩
      go_wp2_with fail
      try rw [Exit.noGoto_ret]
      go_ret
      exact HX.out
    · have hl0 : 0 < W.length := List.length_pos_iff.2 h0
      obtain ⟨g, c, hv, hcv, hgB, hgL⟩ := HOj.out.open hl0
      obtain ⟨m, hm⟩ : ∃ m, W.length = m + 1 := ⟨W.length - 1, by omega⟩
      rw [hm] at hv hcv
      subst hv
      have ht := take_last hm
      obtain ⟨a1, a2, a3⟩ := sp_pop HIj.out.stn h0
      rw [show W.length - 1 = m by omega] at a1 a2
      obtain ⟨k, hk⟩ := Int.eq_ofNat_of_zero_le a1
      have HIk : Hid (ReI C E F (W.take m ++ [(k : Int)])) := hide_ (by rw [← hk, ← ht]; exact HIj.out)
      obtain ⟨cy, -⟩ := HOj.out.cellH (i := m) (by omega)
      rw [hk] at cy
      have hmb : m < 1000000000 := by have := Hgk.out; have := Hgb.out; omega
      have hw1 : IntKind.i64.wrap ((m : Int) + 1 - 1) = (m : Int) := by rw [i64w _ (by omega)]; omega
      have Hcut := hide_ (HOj.out.cutV (m := m) hm (by omega))
      have htk : (W.take m).length = m := by rw [List.length_take]; omega
      have Htk := hide_ htk
      have hcv' : (m : Int) + 1 ≤ (c : Int) := by omega
      have Hm : Hid (nf F n * 100 + m < gk) := hide_ (by have := Hgk.out; omega)
      obtain ⟨N0, hN0⟩ : ∃ N0, nf F n * 100 + m = N0 := ⟨_, rfl⟩
      rw [hN0] at Hm
      have HN0 := hide_ hN0
      clear ht a1 a2 a3 hk hm hl0 h0 htk HOj HIj hN0
      go_wp2_with fail
      go_loopg [4, 5, 6] (nf F n) (fun gi y4 y5 y6 wr => ∃ (F2 : List Bool) (W2 : List Int) (v2 : Value) (a : Nat), v2 = y5 ∧ y4 = .int .i64 (nf F2 n : Int) ∧ y6 = .int .i64 (a : Int) ∧ Hid (nf F2 n = gi) ∧ Hid (nf F2 n * 100 + W2.length ≤ N0) ∧ Hid (ReI C E F2 (W2 ++ [(a : Int)])) ∧ Hid (Blk wr gf 4 (F2.map Value.bool)) ∧ Hid (IOwn wr w.heap.size v2 W2) ∧ Hid (Blk wr w.heap.size 25 [.bool enc, .slice ac n cc, .slice ae E.length ce]) ∧ Hid (Below w.heap.size w wr))
      case atStart => exact ⟨F, W.take m, _, k, rfl, rfl, rfl, hide_ rfl, hide_ (by rw [Htk.out, HN0.out]; exact Nat.le_refl _), HIk, HKj, Hcut, HPj, HBj⟩
      case round =>
        clear HIk HKj Hcut HPj HBj cy HN0 Htk
        obtain ⟨F2, W2, v2, a, rfl, rfl, rfl, Hgi, HN2, HI2, HK2, HO2, HP2, HB2⟩ := hrel
        generalize wr = wp at *
        have han : a < n := by
          have h1 := HI2.out.stn a (List.mem_append_right _ (List.mem_singleton.2 rfl))
          have h2 := Hn.out
          omega
        have hF2 : F2.length = n := by rw [HI2.out.len]; exact Hn.out
        have HF2 := hide_ hF2
        have cs := bAt HK2.out (k := a) (by rw [hF2]; exact han)
        have hanI : (a : Int) < (n : Int) := by omega
        have hW2b : W2.length ≤ 110000000 := by have := HN2.out; have := Hm.out; have := Hgb.out; omega
        obtain ⟨d, hd⟩ : ∃ d, qAt F2 a = d := ⟨_, rfl⟩
        rw [hd] at cs
        have Hd := hide_ hd
        clear hd hF2
        cases d
        · have zf := HK2.out.frozen a
          obtain ⟨w5, hw5⟩ : ∃ wx, wp.setCell ⟨gf, a, none⟩ (.bool true) = wx := ⟨_, rfl⟩
          have hU5 : Upd (fun q => q = gf) wp w5 := by rw [← hw5]; exact (Upd.refl _ wp).set _ _ (.inl rfl)
          have HK5 : Hid (Blk w5 gf 4 ((F2.set a true).map Value.bool)) := hide_ (by rw [← hw5]; exact bset HK2.out)
          have HO5 := hide_ (HO2.out.upd hU5 (fun q e e2 => HO2.out.neB HK2.out (by decide) (e2 ▸ e)))
          have HP5 := hide_ (HP2.out.upd hU5 (fun e => by
            have h1 := HP2.out
            rw [e] at h1
            exact absurd (blk_type h1 HK2.out) (by decide)))
          have HB5 := hide_ (below_to2 HB2.out hU5 (fun q e => by rw [e]; exact Hgf.out))
          have hnf := nf_set F2 a (by rw [HF2.out]; exact han) Hd.out n han
          have q1 := HP5.out.cell 1
          simp at q1
          have hwl : IntKind.i64.wrap ((nf F2 n : Int) - 1) = (nf (F2.set a true) n : Int) := by
            have h1 := nf_le F2 n
            rw [i64w _ (by omega)]
            omega
          obtain ⟨l2, hl2⟩ : ∃ l2, nf (F2.set a true) n = l2 := ⟨_, rfl⟩
          rw [hl2] at hwl hnf
          have Hl2 := hide_ hl2
          have Hnf := hide_ hnf
          clear hl2 hnf hU5
          by_cases hz : l2 = 0
          · have fz : ((l2 : Int) == 0) = true := by simp [hz]
            have HX : Hid (ReTo w n C E (.returned (.slice (some ⟨gf, 0, none⟩) n n)) w5) := hide_ ⟨F2.set a true, gf, rfl, ReI.full (by rw [List.length_set]; exact HI2.out.len) (fun j hj hq => (HI2.out.find (W' := W2 ++ sucP C a) hK.out (fun y => List.mem_append)).snd j hj hq) (by rw [Hn.out, Hl2.out]; exact hz), HK5.out, Hgf.out, HB5.out⟩
            clear hz
            go_wp2_with fail
            try rw [Exit.noGoto_ret]
            go_ret
            exact HX.out
          · have fz : ((l2 : Int) == 0) = false := by simp [hz]
            have HSa := hide_ (HSu.out a w5 han HB5.out)
            have HsL : Hid ((sucP C a).length ≤ 65) := hide_ (suc_le hK.out (by rw [Hn.out]; exact han))
            have Hstn : Hid (Stn n (sucP C a)) := hide_ (by have := suc_stn hK.out (k := a) (by rw [Hn.out]; exact han); rwa [Hn.out] at this)
            clear hz
            go_wp2_with fail
            refine HSa.out.mono ?_
            rintro e w6 ⟨vs, rfl, HS6, HB6⟩
            have HK6 := hide_ (HK5.out.later HB6.out)
            have HO6 := hide_ (HO5.out.later HB6.out)
            have HP6 := hide_ (HP5.out.later HB6.out)
            have HBw6 := hide_ (below_to HB5.out HB6.out)
            by_cases hs0 : sucP C a = []
            · obtain ⟨aa, ca, hv⟩ := HS6.out.slice
              rw [hs0] at hv
              have hv : vs = .slice aa 0 ca := hv
              subst hv
              have HI6 : Hid (ReI C E (F2.set a true) W2) := hide_ (HI2.out.find hK.out (fun y => by rw [hs0]; simp))
              clear hs0 HS6
              go_wp2_with fail
              go_roundg (l2 * 100 + W2.length)
              case measure => have h1 := Hnf.out; have h2 := HN2.out; have h3 := Hm.out; omega
              case rel => exact ⟨F2.set a true, W2, v2, rfl, by rw [Hl2.out], hide_ (by rw [Hl2.out]), hide_ (by have h1 := Hnf.out; have h2 := HN2.out; have h3 := Hm.out; have h4 := Hgb.out; omega), HI6, HK6, HO6, HP6, HBw6⟩
            · obtain ⟨y, ys, hy⟩ : ∃ y ys, sucP C a = y :: ys := by
                cases h : sucP C a with
                | nil => exact absurd h hs0
                | cons y ys => exact ⟨y, ys, rfl⟩
              rw [hy] at HS6 HsL Hstn
              have HI6 : Hid (ReI C E (F2.set a true) ((W2 ++ ys) ++ [y])) := hide_ (HI2.out.find hK.out (fun z => by
                rw [hy]
                simp only [List.mem_append, List.mem_cons, List.not_mem_nil, or_false]
                constructor
                · rintro ((h | h) | h)
                  · exact .inl h
                  · exact .inr (.inr h)
                  · exact .inr (.inl h)
                · rintro (h | h | h)
                  · exact .inl (.inl h)
                  · exact .inr h
                  · exact .inl (.inr h)))
              obtain ⟨y1, y2⟩ := Hstn.out y (List.mem_cons_self ..)
              obtain ⟨b, hb⟩ := Int.eq_ofNat_of_zero_le y1
              subst hb
              obtain ⟨gs, cs6, hv, hcs, hgs, hgl⟩ := HS6.out.open (by simp)
              subst hv
              obtain ⟨c0', -⟩ := HS6.out.cellH (i := 0) (by simp)
              have c0 : w6.cell? ⟨gs, 0, none⟩ = some (.int .i64 (b : Int)) := c0'
              clear c0'
              have hlen : (((b : Int) :: ys).length) = ys.length + 1 := rfl
              rw [hlen] at hcs HS6 ⊢
              have hrow : Row .i64 w6 (if cs6 = 1 then some ⟨gs, 0, none⟩ else some ⟨gs, 1, none⟩) ys := by
                by_cases h1 : cs6 = 1
                · rw [if_pos h1]
                  have h2 : ys.length = 0 := by omega
                  exact .inr ⟨_, rfl, fun j hj => by omega⟩
                · rw [if_neg h1]
                  refine .inr ⟨⟨gs, 1, none⟩, rfl, fun j hj => ?_⟩
                  obtain ⟨c1, -⟩ := HS6.out.cellH (i := j + 1) (by simpa using hj)
                  have e : hAt ((b : Int) :: ys) (j + 1) = ys.getD j 0 := rfl
                  rw [e] at c1
                  rw [Addr.add_lit, show 1 + j = j + 1 by omega, c1]
              have hyl : ys.length ≤ 64 := by have := HsL.out; simp at this; omega
              obtain ⟨v7, w7, hr7, hO7, hU7, -⟩ := HO6.out.app (cap := cs6 - 1) hrow (fun e => by split at e <;> cases e) (by omega) HBw6.out.size
              have HRun := hide_ hr7
              have HO7 := hide_ hO7
              have HK7 := hide_ (HK6.out.upd hU7 (fun e => HO6.out.neB HK6.out (by decide) e))
              have HP7 := hide_ (HP6.out.upd hU7 (fun e => HO6.out.neB HP6.out (by decide) e))
              have HB7 := hide_ (below_to2 HBw6.out hU7 (fun q e => (HO6.out.lies e).1))
              have fyI : (((ys.length : Int) + 1) == 0) = false := by simp; omega
              have hcs' : (ys.length : Int) + 1 ≤ (cs6 : Int) := by omega
              have Hyl := hide_ hyl
              clear hr7 hO7 hU7 hrow hgs hgl HS6 HsL Hstn hy hs0 hlen hyl
              go_wp2_with (first | (at_builtin; refine wpList_append_run rfl (.tmp 53) (.tmp 55) 23 23 rfl rfl rfl HRun.out ?_; clear HRun) | fail)
              all_goals (
                go_roundg l2
                case measure => have h1 := Hnf.out; have h2 := Hgi.out; omega
                case rel => exact ⟨F2.set a true, W2 ++ ys, v7, b, rfl, by rw [Hl2.out], rfl, Hl2, hide_ (by have h1 := Hnf.out; have h2 := HN2.out; have h4 := Hyl.out; rw [Hl2.out, List.length_append]; omega), HI6, HK7, HO7, HP7, HB7⟩)
        · have HI5 : Hid (ReI C E F2 W2) := hide_ (HI2.out.skip Hd.out)
          go_wp2_with fail
          go_roundg (nf F2 n * 100 + W2.length)
          case measure => have h2 := HN2.out; have h3 := Hm.out; omega
          case rel => exact ⟨F2, W2, v2, rfl, rfl, hide_ rfl, hide_ (by have h2 := HN2.out; have h3 := Hm.out; have h4 := Hgb.out; omega), HI5, HK2, HO2, HP2, HB2⟩
end Go.Proofs.YtjamfbpdepahnaaGreat
