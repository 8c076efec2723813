/- The document's extents: leaf; one, by kinds: no parts, a vector, a list, an option. -/
import Derived.Test.YtnpkpmbpapekbaaZro
namespace Go.Proofs.Ytnpkpmbpapekbaa
open Go.RowKit
set_option linter.unusedVariables false

def leafX (k n : Int) : Ex := if k = 1 then ⟨true, n, n, 1⟩ else if k = 2 then ⟨true, 1, 1, 1⟩ else ⟨false, 1, 10, 1⟩
set_option maxRecDepth 100000 in
set_option maxHeartbeats 4000000 in
theorem leaf1_any (n el : Int) (ps : List Pt) (va : Option Addr) (vc : Nat) (w : World) : Calls Try.prog 68 #[.agg #[.int .i64 1, .int .i64 n, .int .i64 el, .slice va ps.length vc]] w fun e w' => e = .returned (exv ⟨true, n, n, 1⟩) ∧ Below w.heap.size w w' := by
  have hB := below2 w (.cells #[.int .i64 1, .int .i64 n, .int .i64 el, .slice va ps.length vc] 46) (.cells #[.bool false, .int .i64 0, .int .i64 0, .int .i64 0] 53)
  obtain ⟨k1, k2⟩ := blk2 w #[.int .i64 1, .int .i64 n, .int .i64 el, .slice va ps.length vc] #[.bool false, .int .i64 0, .int .i64 0, .int .i64 0] 46 53
  obtain ⟨w0, hw0⟩ : ∃ wx, wx = (w.alloc (.cells #[.int .i64 1, .int .i64 n, .int .i64 el, .slice va ps.length vc] 46)).alloc (.cells #[.bool false, .int .i64 0, .int .i64 0, .int .i64 0] 53) := ⟨_, rfl⟩
  rw [← hw0] at hB k1 k2
  have K1 := hide_ k1
  have K2 := hide_ k2
  have HB := hide_ hB
  have i0 := k1.cell 0; have i1 := k1.cell 1; have i2 := k1.cell 2; have i3 := k1.cell 3
  have j0 := k2.cell 0; have j1 := k2.cell 1; have j2 := k2.cell 2; have j3 := k2.cell 3
  have jf := fun i => k2.frozen i
  simp at i0 i1 i2 i3 j0 j1 j2 j3
  have HK := hide_ (wr4 k2 (.bool true) (.int .i64 n) (.int .i64 n) (.int .i64 1))
  have HBf := hide_ (below_wr4 hB (w.heap.size + 1) (by omega) (.bool true) (.int .i64 n) (.int .i64 n) (.int .i64 1))
  clear hB k1 k2
  go_enter Try.func68, Try.ntmps68
  go_upto_region 1 with fail
  rw [← hw0]
  clear hw0
  go_wp2
  exact retX (x := ⟨true, n, n, 1⟩) rfl rfl HK.out ⟨rfl, HBf.out⟩
set_option maxRecDepth 100000 in
set_option maxHeartbeats 4000000 in
theorem leaf2_any (n el : Int) (ps : List Pt) (va : Option Addr) (vc : Nat) (w : World) : Calls Try.prog 68 #[.agg #[.int .i64 2, .int .i64 n, .int .i64 el, .slice va ps.length vc]] w fun e w' => e = .returned (exv ⟨true, 1, 1, 1⟩) ∧ Below w.heap.size w w' := by
  have hB := below2 w (.cells #[.int .i64 2, .int .i64 n, .int .i64 el, .slice va ps.length vc] 46) (.cells #[.bool false, .int .i64 0, .int .i64 0, .int .i64 0] 53)
  obtain ⟨k1, k2⟩ := blk2 w #[.int .i64 2, .int .i64 n, .int .i64 el, .slice va ps.length vc] #[.bool false, .int .i64 0, .int .i64 0, .int .i64 0] 46 53
  obtain ⟨w0, hw0⟩ : ∃ wx, wx = (w.alloc (.cells #[.int .i64 2, .int .i64 n, .int .i64 el, .slice va ps.length vc] 46)).alloc (.cells #[.bool false, .int .i64 0, .int .i64 0, .int .i64 0] 53) := ⟨_, rfl⟩
  rw [← hw0] at hB k1 k2
  have K1 := hide_ k1
  have K2 := hide_ k2
  have HB := hide_ hB
  have i0 := k1.cell 0; have i1 := k1.cell 1; have i2 := k1.cell 2; have i3 := k1.cell 3
  have j0 := k2.cell 0; have j1 := k2.cell 1; have j2 := k2.cell 2; have j3 := k2.cell 3
  have jf := fun i => k2.frozen i
  simp at i0 i1 i2 i3 j0 j1 j2 j3
  have HK := hide_ (wr4 k2 (.bool true) (.int .i64 1) (.int .i64 1) (.int .i64 1))
  have HBf := hide_ (below_wr4 hB (w.heap.size + 1) (by omega) (.bool true) (.int .i64 1) (.int .i64 1) (.int .i64 1))
  clear hB k1 k2
  go_enter Try.func68, Try.ntmps68
  go_upto_region 1 with fail
  rw [← hw0]
  clear hw0
  go_wp2
  exact retX (x := ⟨true, 1, 1, 1⟩) rfl rfl HK.out ⟨rfl, HBf.out⟩
set_option maxRecDepth 100000 in
set_option maxHeartbeats 4000000 in
theorem leaf3_any (n el : Int) (ps : List Pt) (va : Option Addr) (vc : Nat) (w : World) : Calls Try.prog 68 #[.agg #[.int .i64 3, .int .i64 n, .int .i64 el, .slice va ps.length vc]] w fun e w' => e = .returned (exv ⟨false, 1, 10, 1⟩) ∧ Below w.heap.size w w' := by
  have hB := below2 w (.cells #[.int .i64 3, .int .i64 n, .int .i64 el, .slice va ps.length vc] 46) (.cells #[.bool false, .int .i64 0, .int .i64 0, .int .i64 0] 53)
  obtain ⟨k1, k2⟩ := blk2 w #[.int .i64 3, .int .i64 n, .int .i64 el, .slice va ps.length vc] #[.bool false, .int .i64 0, .int .i64 0, .int .i64 0] 46 53
  obtain ⟨w0, hw0⟩ : ∃ wx, wx = (w.alloc (.cells #[.int .i64 3, .int .i64 n, .int .i64 el, .slice va ps.length vc] 46)).alloc (.cells #[.bool false, .int .i64 0, .int .i64 0, .int .i64 0] 53) := ⟨_, rfl⟩
  rw [← hw0] at hB k1 k2
  have K1 := hide_ k1
  have K2 := hide_ k2
  have HB := hide_ hB
  have i0 := k1.cell 0; have i1 := k1.cell 1; have i2 := k1.cell 2; have i3 := k1.cell 3
  have j0 := k2.cell 0; have j1 := k2.cell 1; have j2 := k2.cell 2; have j3 := k2.cell 3
  have jf := fun i => k2.frozen i
  simp at i0 i1 i2 i3 j0 j1 j2 j3
  have HK := hide_ (wr4 k2 (.bool false) (.int .i64 1) (.int .i64 10) (.int .i64 1))
  have HBf := hide_ (below_wr4 hB (w.heap.size + 1) (by omega) (.bool false) (.int .i64 1) (.int .i64 10) (.int .i64 1))
  clear hB k1 k2
  go_enter Try.func68, Try.ntmps68
  go_upto_region 1 with fail
  rw [← hw0]
  clear hw0
  go_wp2
  exact retX (x := ⟨false, 1, 10, 1⟩) rfl rfl HK.out ⟨rfl, HBf.out⟩
set_option maxRecDepth 100000 in
set_option maxHeartbeats 4000000 in
theorem one1_any (n el : Int) (ps : List Pt) (va : Option Addr) (vc : Nat) (vX : Value) (w : World) : Calls Try.prog 51 #[.agg #[.int .i64 1, .int .i64 n, .int .i64 el, .slice va ps.length vc], vX] w fun e w' => e = .returned (exv ⟨true, n, n, 1⟩) ∧ Below w.heap.size w w' := by
  have hB := below2 w (.cells #[.int .i64 1, .int .i64 n, .int .i64 el, .slice va ps.length vc] 46) (.cells #[.bool false, .int .i64 0, .int .i64 0, .int .i64 0] 53)
  obtain ⟨k1, k2⟩ := blk2 w #[.int .i64 1, .int .i64 n, .int .i64 el, .slice va ps.length vc] #[.bool false, .int .i64 0, .int .i64 0, .int .i64 0] 46 53
  obtain ⟨w0, hw0⟩ : ∃ wx, wx = (w.alloc (.cells #[.int .i64 1, .int .i64 n, .int .i64 el, .slice va ps.length vc] 46)).alloc (.cells #[.bool false, .int .i64 0, .int .i64 0, .int .i64 0] 53) := ⟨_, rfl⟩
  rw [← hw0] at hB k1 k2
  have K1 := hide_ k1
  have K2 := hide_ k2
  have HB := hide_ hB
  have i0 := k1.cell 0; have i1 := k1.cell 1; have i2 := k1.cell 2; have i3 := k1.cell 3
  have j0 := k2.cell 0; have j1 := k2.cell 1; have j2 := k2.cell 2; have j3 := k2.cell 3
  have jf := fun i => k2.frozen i
  simp at i0 i1 i2 i3 j0 j1 j2 j3
  have HL := hide_ (leaf1_any n el ps va vc w0)
  clear hB k1 k2
  go_enter Try.func51, Try.ntmps51
  go_upto_region 1 with fail
  rw [← hw0]
  clear hw0
  go_wp2_with fail
  refine HL.out.mono ?_; rintro e w1 ⟨rfl, hB1⟩
  have k3 := K2.out.later hB1
  have HK := hide_ (wr4 k3 (.bool true) (.int .i64 n) (.int .i64 n) (.int .i64 1))
  have HBf := hide_ (below_wr4 (below_to HB.out hB1) (w.heap.size + 1) (by omega) (.bool true) (.int .i64 n) (.int .i64 n) (.int .i64 1))
  clear j0 j1 j2 j3 jf i0 i1 i2 i3
  have j0 := k3.cell 0; have j1 := k3.cell 1; have j2 := k3.cell 2; have j3 := k3.cell 3
  have jf := fun i => k3.frozen i
  simp at j0 j1 j2 j3
  clear k3 hB1 HL
  simp only [exv]
  go_wp2
  exact retX (x := ⟨true, n, n, 1⟩) rfl rfl HK.out ⟨rfl, HBf.out⟩
set_option maxRecDepth 100000 in
set_option maxHeartbeats 4000000 in
theorem one2_any (n el : Int) (ps : List Pt) (va : Option Addr) (vc : Nat) (vX : Value) (w : World) : Calls Try.prog 51 #[.agg #[.int .i64 2, .int .i64 n, .int .i64 el, .slice va ps.length vc], vX] w fun e w' => e = .returned (exv ⟨true, 1, 1, 1⟩) ∧ Below w.heap.size w w' := by
  have hB := below2 w (.cells #[.int .i64 2, .int .i64 n, .int .i64 el, .slice va ps.length vc] 46) (.cells #[.bool false, .int .i64 0, .int .i64 0, .int .i64 0] 53)
  obtain ⟨k1, k2⟩ := blk2 w #[.int .i64 2, .int .i64 n, .int .i64 el, .slice va ps.length vc] #[.bool false, .int .i64 0, .int .i64 0, .int .i64 0] 46 53
  obtain ⟨w0, hw0⟩ : ∃ wx, wx = (w.alloc (.cells #[.int .i64 2, .int .i64 n, .int .i64 el, .slice va ps.length vc] 46)).alloc (.cells #[.bool false, .int .i64 0, .int .i64 0, .int .i64 0] 53) := ⟨_, rfl⟩
  rw [← hw0] at hB k1 k2
  have K1 := hide_ k1
  have K2 := hide_ k2
  have HB := hide_ hB
  have i0 := k1.cell 0; have i1 := k1.cell 1; have i2 := k1.cell 2; have i3 := k1.cell 3
  have j0 := k2.cell 0; have j1 := k2.cell 1; have j2 := k2.cell 2; have j3 := k2.cell 3
  have jf := fun i => k2.frozen i
  simp at i0 i1 i2 i3 j0 j1 j2 j3
  have HL := hide_ (leaf2_any n el ps va vc w0)
  clear hB k1 k2
  go_enter Try.func51, Try.ntmps51
  go_upto_region 1 with fail
  rw [← hw0]
  clear hw0
  go_wp2_with fail
  refine HL.out.mono ?_; rintro e w1 ⟨rfl, hB1⟩
  have k3 := K2.out.later hB1
  have HK := hide_ (wr4 k3 (.bool true) (.int .i64 1) (.int .i64 1) (.int .i64 1))
  have HBf := hide_ (below_wr4 (below_to HB.out hB1) (w.heap.size + 1) (by omega) (.bool true) (.int .i64 1) (.int .i64 1) (.int .i64 1))
  clear j0 j1 j2 j3 jf i0 i1 i2 i3
  have j0 := k3.cell 0; have j1 := k3.cell 1; have j2 := k3.cell 2; have j3 := k3.cell 3
  have jf := fun i => k3.frozen i
  simp at j0 j1 j2 j3
  clear k3 hB1 HL
  simp only [exv]
  go_wp2
  exact retX (x := ⟨true, 1, 1, 1⟩) rfl rfl HK.out ⟨rfl, HBf.out⟩
set_option maxRecDepth 100000 in
set_option maxHeartbeats 4000000 in
theorem one3_any (n el : Int) (ps : List Pt) (va : Option Addr) (vc : Nat) (vX : Value) (w : World) : Calls Try.prog 51 #[.agg #[.int .i64 3, .int .i64 n, .int .i64 el, .slice va ps.length vc], vX] w fun e w' => e = .returned (exv ⟨false, 1, 10, 1⟩) ∧ Below w.heap.size w w' := by
  have hB := below2 w (.cells #[.int .i64 3, .int .i64 n, .int .i64 el, .slice va ps.length vc] 46) (.cells #[.bool false, .int .i64 0, .int .i64 0, .int .i64 0] 53)
  obtain ⟨k1, k2⟩ := blk2 w #[.int .i64 3, .int .i64 n, .int .i64 el, .slice va ps.length vc] #[.bool false, .int .i64 0, .int .i64 0, .int .i64 0] 46 53
  obtain ⟨w0, hw0⟩ : ∃ wx, wx = (w.alloc (.cells #[.int .i64 3, .int .i64 n, .int .i64 el, .slice va ps.length vc] 46)).alloc (.cells #[.bool false, .int .i64 0, .int .i64 0, .int .i64 0] 53) := ⟨_, rfl⟩
  rw [← hw0] at hB k1 k2
  have K1 := hide_ k1
  have K2 := hide_ k2
  have HB := hide_ hB
  have i0 := k1.cell 0; have i1 := k1.cell 1; have i2 := k1.cell 2; have i3 := k1.cell 3
  have j0 := k2.cell 0; have j1 := k2.cell 1; have j2 := k2.cell 2; have j3 := k2.cell 3
  have jf := fun i => k2.frozen i
  simp at i0 i1 i2 i3 j0 j1 j2 j3
  have HL := hide_ (leaf3_any n el ps va vc w0)
  clear hB k1 k2
  go_enter Try.func51, Try.ntmps51
  go_upto_region 1 with fail
  rw [← hw0]
  clear hw0
  go_wp2_with fail
  refine HL.out.mono ?_; rintro e w1 ⟨rfl, hB1⟩
  have k3 := K2.out.later hB1
  have HK := hide_ (wr4 k3 (.bool false) (.int .i64 1) (.int .i64 10) (.int .i64 1))
  have HBf := hide_ (below_wr4 (below_to HB.out hB1) (w.heap.size + 1) (by omega) (.bool false) (.int .i64 1) (.int .i64 10) (.int .i64 1))
  clear j0 j1 j2 j3 jf i0 i1 i2 i3
  have j0 := k3.cell 0; have j1 := k3.cell 1; have j2 := k3.cell 2; have j3 := k3.cell 3
  have jf := fun i => k3.frozen i
  simp at j0 j1 j2 j3
  clear k3 hB1 HL
  simp only [exv]
  go_wp2
  exact retX (x := ⟨false, 1, 10, 1⟩) rfl rfl HK.out ⟨rfl, HBf.out⟩
set_option maxRecDepth 100000 in
set_option maxHeartbeats 8000000 in
theorem one4_any (n el : Int) (ps : List Pt) (va : Option Addr) (vc : Nat) (X : List Ex) (ax : Option Addr) (cx : Nat) (w : World) (hXl : X.length ≤ 10000000000000) (hbd : Hid (∀ x ∈ X, 0 ≤ x.d ∧ x.d ≤ 1000000)) (hel : 0 ≤ el ∧ el < X.length) (hX : Hid (XRow w ax X)) : Calls Try.prog 51 #[.agg #[.int .i64 4, .int .i64 n, .int .i64 el, .slice va ps.length vc], .slice ax X.length cx] w fun e w' => e = .returned (exv ⟨(exAt X el).f, times2 n (offX (exAt X el)).l, times2 n (offX (exAt X el)).m, 1 + (exAt X el).d⟩) ∧ Below w.heap.size w w' := by
  have hB := below2 w (.cells #[.int .i64 4, .int .i64 n, .int .i64 el, .slice va ps.length vc] 46) (.cells #[.bool false, .int .i64 0, .int .i64 0, .int .i64 0] 53)
  obtain ⟨k1, k2⟩ := blk2 w #[.int .i64 4, .int .i64 n, .int .i64 el, .slice va ps.length vc] #[.bool false, .int .i64 0, .int .i64 0, .int .i64 0] 46 53
  obtain ⟨w0, hw0⟩ : ∃ wx, wx = (w.alloc (.cells #[.int .i64 4, .int .i64 n, .int .i64 el, .slice va ps.length vc] 46)).alloc (.cells #[.bool false, .int .i64 0, .int .i64 0, .int .i64 0] 53) := ⟨_, rfl⟩
  rw [← hw0] at hB k1 k2
  have K1 := hide_ k1
  have K2 := hide_ k2
  have HB := hide_ hB
  have i0 := k1.cell 0; have i1 := k1.cell 1; have i2 := k1.cell 2; have i3 := k1.cell 3
  have j0 := k2.cell 0; have j1 := k2.cell 1; have j2 := k2.cell 2; have j3 := k2.cell 3
  have jf := fun i => k2.frozen i
  simp at i0 i1 i2 i3 j0 j1 j2 j3
  obtain ⟨m, rfl⟩ := Int.eq_ofNat_of_zero_le hel.1
  have hmx : m < X.length := by omega
  have hmx' : (m : Int) < X.length := hel.2
  obtain ⟨bx, ox, rfl, hbx, hcx⟩ := hX.out.open (by omega)
  have hxe := exAt_at hmx
  obtain ⟨hd0, hd1⟩ := hbd.out _ (List.mem_of_getElem? hxe)
  have hcy := hcx m _ hxe
  have HPt : Hid (∀ w', Calls Try.prog 65 #[.agg #[.bool (exAt X m).f, .int .i64 (exAt X m).l, .int .i64 (exAt X m).m, .int .i64 (exAt X m).d]] w' fun e w'' => e = .returned (.tuple #[.int .i64 (offX (exAt X m)).l, .int .i64 (offX (exAt X m)).m]) ∧ Below w'.heap.size w' w'') := hide_ (fun w' => part_any _ w')
  generalize (offX (exAt X m)).l = pl at *
  generalize (offX (exAt X m)).m = pm at *
  generalize exAt X m = xx at *
  obtain ⟨xf, xl, xm, xd⟩ := xx
  have HXc : Hid (∀ j, j < 4 → ∀ w', Below w0.heap.size w0 w' → w'.cell? ⟨bx, ox + m * 4 + j, none⟩ = (exc ⟨xf, xl, xm, xd⟩)[j]?) := hide_ (fun j hj w' hB' => ((below_to HB.out hB').cell (p := ⟨bx, ox + m * 4 + j, none⟩) hbx).trans (hcy j hj))
  have x0 := HXc.out 0 (by decide) w0 (Below.refl _ _); have x1 := HXc.out 1 (by decide) w0 (Below.refl _ _); have x2 := HXc.out 2 (by decide) w0 (Below.refl _ _); have x3 := HXc.out 3 (by decide) w0 (Below.refl _ _)
  simp [exc] at x0 x1 x2 x3
  simp only at hd0 hd1 HPt
  have hw1 : wrap64 (1 + xd) = 1 + xd := w64 _ (by omega)
  have hw2 : IntKind.i64.wrap (1 + xd) = 1 + xd := by rw [IntKind.wrap_i64]; omega
  have HCt : Hid (∀ (a b : Int) (w' : World), Calls Try.prog 66 #[.int .i64 a, .int .i64 b] w' fun e w'' => e = .returned (.int .i64 (times2 a b)) ∧ w' = w'') := hide_ (fun a b w' => rtimes_any a b w')
  have HCp : Hid (∀ (a b : Int) (w' : World), Calls Try.prog 67 #[.int .i64 a, .int .i64 b] w' fun e w'' => e = .returned (.int .i64 (plus2 a b)) ∧ Below w'.heap.size w' w'') := hide_ (fun a b w' => rplus_any a b w')
  clear hB k1 k2 hcx hxe hcy hX hbd
  go_enter Try.func51, Try.ntmps51
  go_upto_region 1 with fail
  rw [← hw0]
  clear hw0
  go_wp2_with (go_at_call 65; refine (HPt.out _).mono ?_; rintro e w1 ⟨rfl, hB1⟩)
  have HB1 := hide_ hB1
  have k3 := K2.out.later hB1
  have k4 := K1.out.later hB1
  have K3 := hide_ k3
  have K4 := hide_ k4
  clear i0 i1 i2 i3 j0 j1 j2 j3 jf x0 x1 x2 x3
  have j0 := k3.cell 0; have j1 := k3.cell 1; have j2 := k3.cell 2; have j3 := k3.cell 3
  have jf := fun i => k3.frozen i
  simp at j0 j1 j2 j3
  clear k3 k4 hB1 HPt
  have HBw := hide_ (below_to HB.out HB1.out)
  have HSS : Hid (∀ w', Below (w.heap.size + 1) w1 w' → Below (w.heap.size + 1) w1 w' ∧ w'.cell? ⟨w.heap.size, 1, none⟩ = some (.int .i64 n) ∧ w'.cell? ⟨w.heap.size, 2, none⟩ = some (.int .i64 m) ∧ w'.cell? ⟨bx, ox + m * 4, none⟩ = some (.bool xf) ∧ w'.cell? ⟨bx, ox + m * 4 + 2, none⟩ = some (.int .i64 xm) ∧ w'.cell? ⟨bx, ox + m * 4 + 3, none⟩ = some (.int .i64 xd)) := hide_ (fun w' hB' => ⟨hB', (K4.out.below hB' (by omega)).cell 1, (K4.out.below hB' (by omega)).cell 2, (hB'.cell (p := ⟨bx, ox + m * 4 + 0, none⟩) (by show bx < _; omega)).trans (HXc.out 0 (by decide) w1 HB1.out), (hB'.cell (p := ⟨bx, ox + m * 4 + 2, none⟩) (by show bx < _; omega)).trans (HXc.out 2 (by decide) w1 HB1.out), (hB'.cell (p := ⟨bx, ox + m * 4 + 3, none⟩) (by show bx < _; omega)).trans (HXc.out 3 (by decide) w1 HB1.out)⟩)
  go_region_held_law (fun w' => Below (w.heap.size + 1) w1 w' ∧ w'.cell? ⟨w.heap.size, 1, none⟩ = some (.int .i64 n) ∧ w'.cell? ⟨w.heap.size, 2, none⟩ = some (.int .i64 m) ∧ w'.cell? ⟨bx, ox + m * 4, none⟩ = some (.bool xf) ∧ w'.cell? ⟨bx, ox + m * 4 + 2, none⟩ = some (.int .i64 xm) ∧ w'.cell? ⟨bx, ox + m * 4 + 3, none⟩ = some (.int .i64 xd)) (first | assumption | exact HSS.out _ ((Below.refl _ _).drew) | exact HSS.out _ (Below.refl _ _) | exact HSS.out _ (below_wr4 ((Below.refl _ _).drew) _ (by omega) _ _ _ _) | exact HSS.out _ (below_wr4 (And.left (by assumption)) _ (by omega) _ _ _ _))
    ((go_at_call 66; refine (HCt.out _ _ _).mono ?_; rintro e w' ⟨rfl, rfl⟩))
  have HK := hide_ ((wr4 K3.out (.bool xf) (.int .i64 (times2 n pl)) (.int .i64 (times2 n pm)) (.int .i64 (1 + xd))).drew)
  have HBf := hide_ ((below_wr4 HBw.out (w.heap.size + 1) (by omega) (.bool xf) (.int .i64 (times2 n pl)) (.int .i64 (times2 n pm)) (.int .i64 (1 + xd))).drew)
  go_wp2
  exact retX (x := ⟨xf, times2 n pl, times2 n pm, 1 + xd⟩) rfl rfl HK.out ⟨rfl, HBf.out⟩
set_option maxRecDepth 100000 in
set_option maxHeartbeats 8000000 in
theorem one5_any (n el : Int) (ps : List Pt) (va : Option Addr) (vc : Nat) (X : List Ex) (ax : Option Addr) (cx : Nat) (w : World) (hXl : X.length ≤ 10000000000000) (hbd : Hid (∀ x ∈ X, 0 ≤ x.d ∧ x.d ≤ 1000000)) (hel : 0 ≤ el ∧ el < X.length) (hX : Hid (XRow w ax X)) : Calls Try.prog 51 #[.agg #[.int .i64 5, .int .i64 n, .int .i64 el, .slice va ps.length vc], .slice ax X.length cx] w fun e w' => e = .returned (exv ⟨false, 0, times2 n (offX (exAt X el)).m, 1 + (exAt X el).d⟩) ∧ Below w.heap.size w w' := by
  have hB := below2 w (.cells #[.int .i64 5, .int .i64 n, .int .i64 el, .slice va ps.length vc] 46) (.cells #[.bool false, .int .i64 0, .int .i64 0, .int .i64 0] 53)
  obtain ⟨k1, k2⟩ := blk2 w #[.int .i64 5, .int .i64 n, .int .i64 el, .slice va ps.length vc] #[.bool false, .int .i64 0, .int .i64 0, .int .i64 0] 46 53
  obtain ⟨w0, hw0⟩ : ∃ wx, wx = (w.alloc (.cells #[.int .i64 5, .int .i64 n, .int .i64 el, .slice va ps.length vc] 46)).alloc (.cells #[.bool false, .int .i64 0, .int .i64 0, .int .i64 0] 53) := ⟨_, rfl⟩
  rw [← hw0] at hB k1 k2
  have K1 := hide_ k1
  have K2 := hide_ k2
  have HB := hide_ hB
  have i0 := k1.cell 0; have i1 := k1.cell 1; have i2 := k1.cell 2; have i3 := k1.cell 3
  have j0 := k2.cell 0; have j1 := k2.cell 1; have j2 := k2.cell 2; have j3 := k2.cell 3
  have jf := fun i => k2.frozen i
  simp at i0 i1 i2 i3 j0 j1 j2 j3
  obtain ⟨m, rfl⟩ := Int.eq_ofNat_of_zero_le hel.1
  have hmx : m < X.length := by omega
  have hmx' : (m : Int) < X.length := hel.2
  obtain ⟨bx, ox, rfl, hbx, hcx⟩ := hX.out.open (by omega)
  have hxe := exAt_at hmx
  obtain ⟨hd0, hd1⟩ := hbd.out _ (List.mem_of_getElem? hxe)
  have hcy := hcx m _ hxe
  have HPt : Hid (∀ w', Calls Try.prog 65 #[.agg #[.bool (exAt X m).f, .int .i64 (exAt X m).l, .int .i64 (exAt X m).m, .int .i64 (exAt X m).d]] w' fun e w'' => e = .returned (.tuple #[.int .i64 (offX (exAt X m)).l, .int .i64 (offX (exAt X m)).m]) ∧ Below w'.heap.size w' w'') := hide_ (fun w' => part_any _ w')
  generalize (offX (exAt X m)).l = pl at *
  generalize (offX (exAt X m)).m = pm at *
  generalize exAt X m = xx at *
  obtain ⟨xf, xl, xm, xd⟩ := xx
  have HXc : Hid (∀ j, j < 4 → ∀ w', Below w0.heap.size w0 w' → w'.cell? ⟨bx, ox + m * 4 + j, none⟩ = (exc ⟨xf, xl, xm, xd⟩)[j]?) := hide_ (fun j hj w' hB' => ((below_to HB.out hB').cell (p := ⟨bx, ox + m * 4 + j, none⟩) hbx).trans (hcy j hj))
  have x0 := HXc.out 0 (by decide) w0 (Below.refl _ _); have x1 := HXc.out 1 (by decide) w0 (Below.refl _ _); have x2 := HXc.out 2 (by decide) w0 (Below.refl _ _); have x3 := HXc.out 3 (by decide) w0 (Below.refl _ _)
  simp [exc] at x0 x1 x2 x3
  simp only at hd0 hd1 HPt
  have hw1 : wrap64 (1 + xd) = 1 + xd := w64 _ (by omega)
  have hw2 : IntKind.i64.wrap (1 + xd) = 1 + xd := by rw [IntKind.wrap_i64]; omega
  have HCt : Hid (∀ (a b : Int) (w' : World), Calls Try.prog 66 #[.int .i64 a, .int .i64 b] w' fun e w'' => e = .returned (.int .i64 (times2 a b)) ∧ w' = w'') := hide_ (fun a b w' => rtimes_any a b w')
  have HCp : Hid (∀ (a b : Int) (w' : World), Calls Try.prog 67 #[.int .i64 a, .int .i64 b] w' fun e w'' => e = .returned (.int .i64 (plus2 a b)) ∧ Below w'.heap.size w' w'') := hide_ (fun a b w' => rplus_any a b w')
  clear hB k1 k2 hcx hxe hcy hX hbd
  go_enter Try.func51, Try.ntmps51
  go_upto_region 1 with fail
  rw [← hw0]
  clear hw0
  go_wp2_with (go_at_call 65; refine (HPt.out _).mono ?_; rintro e w1 ⟨rfl, hB1⟩)
  have HB1 := hide_ hB1
  have k3 := K2.out.later hB1
  have k4 := K1.out.later hB1
  have K3 := hide_ k3
  have K4 := hide_ k4
  clear i0 i1 i2 i3 j0 j1 j2 j3 jf x0 x1 x2 x3
  have j0 := k3.cell 0; have j1 := k3.cell 1; have j2 := k3.cell 2; have j3 := k3.cell 3
  have jf := fun i => k3.frozen i
  simp at j0 j1 j2 j3
  clear k3 k4 hB1 HPt
  have HBw := hide_ (below_to HB.out HB1.out)
  have HSS : Hid (∀ w', Below (w.heap.size + 1) w1 w' → Below (w.heap.size + 1) w1 w' ∧ w'.cell? ⟨w.heap.size, 1, none⟩ = some (.int .i64 n) ∧ w'.cell? ⟨w.heap.size, 2, none⟩ = some (.int .i64 m) ∧ w'.cell? ⟨bx, ox + m * 4, none⟩ = some (.bool xf) ∧ w'.cell? ⟨bx, ox + m * 4 + 2, none⟩ = some (.int .i64 xm) ∧ w'.cell? ⟨bx, ox + m * 4 + 3, none⟩ = some (.int .i64 xd)) := hide_ (fun w' hB' => ⟨hB', (K4.out.below hB' (by omega)).cell 1, (K4.out.below hB' (by omega)).cell 2, (hB'.cell (p := ⟨bx, ox + m * 4 + 0, none⟩) (by show bx < _; omega)).trans (HXc.out 0 (by decide) w1 HB1.out), (hB'.cell (p := ⟨bx, ox + m * 4 + 2, none⟩) (by show bx < _; omega)).trans (HXc.out 2 (by decide) w1 HB1.out), (hB'.cell (p := ⟨bx, ox + m * 4 + 3, none⟩) (by show bx < _; omega)).trans (HXc.out 3 (by decide) w1 HB1.out)⟩)
  go_region_held_law (fun w' => Below (w.heap.size + 1) w1 w' ∧ w'.cell? ⟨w.heap.size, 1, none⟩ = some (.int .i64 n) ∧ w'.cell? ⟨w.heap.size, 2, none⟩ = some (.int .i64 m) ∧ w'.cell? ⟨bx, ox + m * 4, none⟩ = some (.bool xf) ∧ w'.cell? ⟨bx, ox + m * 4 + 2, none⟩ = some (.int .i64 xm) ∧ w'.cell? ⟨bx, ox + m * 4 + 3, none⟩ = some (.int .i64 xd)) (first | assumption | exact HSS.out _ ((Below.refl _ _).drew) | exact HSS.out _ (Below.refl _ _) | exact HSS.out _ (below_wr4 ((Below.refl _ _).drew) _ (by omega) _ _ _ _) | exact HSS.out _ (below_wr4 (And.left (by assumption)) _ (by omega) _ _ _ _))
    ((go_at_call 66; refine (HCt.out _ _ _).mono ?_; rintro e w' ⟨rfl, rfl⟩))
  have HK := hide_ ((wr4 K3.out (.bool false) (.int .i64 0) (.int .i64 (times2 n pm)) (.int .i64 (1 + xd))).drew)
  have HBf := hide_ ((below_wr4 HBw.out (w.heap.size + 1) (by omega) (.bool false) (.int .i64 0) (.int .i64 (times2 n pm)) (.int .i64 (1 + xd))).drew)
  go_wp2
  exact retX (x := ⟨false, 0, times2 n pm, 1 + xd⟩) rfl rfl HK.out ⟨rfl, HBf.out⟩
set_option maxRecDepth 100000 in
set_option maxHeartbeats 8000000 in
theorem one6_any (n el : Int) (ps : List Pt) (va : Option Addr) (vc : Nat) (X : List Ex) (ax : Option Addr) (cx : Nat) (w : World) (hXl : X.length ≤ 10000000000000) (hbd : Hid (∀ x ∈ X, 0 ≤ x.d ∧ x.d ≤ 1000000)) (hel : 0 ≤ el ∧ el < X.length) (hX : Hid (XRow w ax X)) : Calls Try.prog 51 #[.agg #[.int .i64 6, .int .i64 n, .int .i64 el, .slice va ps.length vc], .slice ax X.length cx] w fun e w' => e = .returned (exv ⟨false, 1, plus2 1 (exAt X el).m, 1 + (exAt X el).d⟩) ∧ Below w.heap.size w w' := by
  have hB := below2 w (.cells #[.int .i64 6, .int .i64 n, .int .i64 el, .slice va ps.length vc] 46) (.cells #[.bool false, .int .i64 0, .int .i64 0, .int .i64 0] 53)
  obtain ⟨k1, k2⟩ := blk2 w #[.int .i64 6, .int .i64 n, .int .i64 el, .slice va ps.length vc] #[.bool false, .int .i64 0, .int .i64 0, .int .i64 0] 46 53
  obtain ⟨w0, hw0⟩ : ∃ wx, wx = (w.alloc (.cells #[.int .i64 6, .int .i64 n, .int .i64 el, .slice va ps.length vc] 46)).alloc (.cells #[.bool false, .int .i64 0, .int .i64 0, .int .i64 0] 53) := ⟨_, rfl⟩
  rw [← hw0] at hB k1 k2
  have K1 := hide_ k1
  have K2 := hide_ k2
  have HB := hide_ hB
  have i0 := k1.cell 0; have i1 := k1.cell 1; have i2 := k1.cell 2; have i3 := k1.cell 3
  have j0 := k2.cell 0; have j1 := k2.cell 1; have j2 := k2.cell 2; have j3 := k2.cell 3
  have jf := fun i => k2.frozen i
  simp at i0 i1 i2 i3 j0 j1 j2 j3
  obtain ⟨m, rfl⟩ := Int.eq_ofNat_of_zero_le hel.1
  have hmx : m < X.length := by omega
  have hmx' : (m : Int) < X.length := hel.2
  obtain ⟨bx, ox, rfl, hbx, hcx⟩ := hX.out.open (by omega)
  have hxe := exAt_at hmx
  obtain ⟨hd0, hd1⟩ := hbd.out _ (List.mem_of_getElem? hxe)
  have hcy := hcx m _ hxe
  have HPt : Hid (∀ w', Calls Try.prog 65 #[.agg #[.bool (exAt X m).f, .int .i64 (exAt X m).l, .int .i64 (exAt X m).m, .int .i64 (exAt X m).d]] w' fun e w'' => e = .returned (.tuple #[.int .i64 (offX (exAt X m)).l, .int .i64 (offX (exAt X m)).m]) ∧ Below w'.heap.size w' w'') := hide_ (fun w' => part_any _ w')
  generalize (offX (exAt X m)).l = pl at *
  generalize (offX (exAt X m)).m = pm at *
  generalize exAt X m = xx at *
  obtain ⟨xf, xl, xm, xd⟩ := xx
  have HXc : Hid (∀ j, j < 4 → ∀ w', Below w0.heap.size w0 w' → w'.cell? ⟨bx, ox + m * 4 + j, none⟩ = (exc ⟨xf, xl, xm, xd⟩)[j]?) := hide_ (fun j hj w' hB' => ((below_to HB.out hB').cell (p := ⟨bx, ox + m * 4 + j, none⟩) hbx).trans (hcy j hj))
  have x0 := HXc.out 0 (by decide) w0 (Below.refl _ _); have x1 := HXc.out 1 (by decide) w0 (Below.refl _ _); have x2 := HXc.out 2 (by decide) w0 (Below.refl _ _); have x3 := HXc.out 3 (by decide) w0 (Below.refl _ _)
  simp [exc] at x0 x1 x2 x3
  simp only at hd0 hd1 HPt
  have hw1 : wrap64 (1 + xd) = 1 + xd := w64 _ (by omega)
  have hw2 : IntKind.i64.wrap (1 + xd) = 1 + xd := by rw [IntKind.wrap_i64]; omega
  have HCt : Hid (∀ (a b : Int) (w' : World), Calls Try.prog 66 #[.int .i64 a, .int .i64 b] w' fun e w'' => e = .returned (.int .i64 (times2 a b)) ∧ w' = w'') := hide_ (fun a b w' => rtimes_any a b w')
  have HCp : Hid (∀ (a b : Int) (w' : World), Calls Try.prog 67 #[.int .i64 a, .int .i64 b] w' fun e w'' => e = .returned (.int .i64 (plus2 a b)) ∧ Below w'.heap.size w' w'') := hide_ (fun a b w' => rplus_any a b w')
  clear hB k1 k2 hcx hxe hcy hX hbd
  go_enter Try.func51, Try.ntmps51
  go_upto_region 1 with fail
  rw [← hw0]
  clear hw0
  have HSS : Hid (∀ w', Below (w.heap.size + 1) w0 w' → Below (w.heap.size + 1) w0 w' ∧ w'.cell? ⟨w.heap.size, 1, none⟩ = some (.int .i64 n) ∧ w'.cell? ⟨w.heap.size, 2, none⟩ = some (.int .i64 m) ∧ w'.cell? ⟨bx, ox + m * 4, none⟩ = some (.bool xf) ∧ w'.cell? ⟨bx, ox + m * 4 + 2, none⟩ = some (.int .i64 xm) ∧ w'.cell? ⟨bx, ox + m * 4 + 3, none⟩ = some (.int .i64 xd)) := hide_ (fun w' hB' => ⟨hB', (K1.out.below hB' (by omega)).cell 1, (K1.out.below hB' (by omega)).cell 2, (hB'.cell (p := ⟨bx, ox + m * 4 + 0, none⟩) (by show bx < _; omega)).trans (HXc.out 0 (by decide) w0 (Below.refl _ _)), (hB'.cell (p := ⟨bx, ox + m * 4 + 2, none⟩) (by show bx < _; omega)).trans (HXc.out 2 (by decide) w0 (Below.refl _ _)), (hB'.cell (p := ⟨bx, ox + m * 4 + 3, none⟩) (by show bx < _; omega)).trans (HXc.out 3 (by decide) w0 (Below.refl _ _))⟩)
  have hz0 : w.heap.size + 1 < w0.heap.size := K2.out.lt
  go_wp2_with fail
  go_region_held_law (fun w' => Below (w.heap.size + 1) w0 w' ∧ w'.cell? ⟨w.heap.size, 1, none⟩ = some (.int .i64 n) ∧ w'.cell? ⟨w.heap.size, 2, none⟩ = some (.int .i64 m) ∧ w'.cell? ⟨bx, ox + m * 4, none⟩ = some (.bool xf) ∧ w'.cell? ⟨bx, ox + m * 4 + 2, none⟩ = some (.int .i64 xm) ∧ w'.cell? ⟨bx, ox + m * 4 + 3, none⟩ = some (.int .i64 xd)) (first | assumption | exact HSS.out _ ((Below.refl _ _).drew) | exact HSS.out _ (Below.refl _ _) | exact HSS.out _ (below_wr4 (And.left (by assumption)) _ (by omega) _ _ _ _))
    ((go_at_call 67; refine (HCp.out _ _ _).mono ?_; rintro e w2 ⟨rfl, hB2⟩; (have hB3 := below_to ((Below.refl w0.heap.size w0).drew) hB2); (have G2 := HSS.out w2 (hB3.mono (by omega))); (have k3 := K2.out.later hB3); (have HB2 := hide_ hB3); (have K3 := hide_ k3); (have l0 := k3.cell 0); (have l1 := k3.cell 1); (have l2 := k3.cell 2); (have l3 := k3.cell 3); (have lf := fun i => k3.frozen i); (simp at l0 l1 l2 l3); (clear hB2 hB3 k3)))
  have HBw := hide_ (below_to HB.out HB2.out)
  have HK := hide_ (wr4 K3.out (.bool false) (.int .i64 1) (.int .i64 (plus2 1 xm)) (.int .i64 (1 + xd)))
  have HBf := hide_ (below_wr4 HBw.out (w.heap.size + 1) (by omega) (.bool false) (.int .i64 1) (.int .i64 (plus2 1 xm)) (.int .i64 (1 + xd)))
  go_wp2
  exact retX (x := ⟨false, 1, plus2 1 xm, 1 + xd⟩) rfl rfl HK.out ⟨rfl, HBf.out⟩
end Go.Proofs.Ytnpkpmbpapekbaa
