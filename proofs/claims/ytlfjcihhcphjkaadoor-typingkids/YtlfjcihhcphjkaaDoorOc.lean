/- typing.itemsOf, misfit. -/
import Derived.Test.YtlfjcihhcphjkaaDoorOb
import Derived.BigQuiet
import Derived.Deep.RegionHeldLaw
namespace Go.Proofs.YtlfjcihhcphjkaaDoor
open Go.RowKit
set_option linter.unusedVariables false

def itm (t : Ty) : Int × Int := if t.k = 8 then ((t.ps.length : Int), (t.ps.length : Int)) else if t.k = 4 then (t.n, t.n) else (0, t.n)
set_option maxRecDepth 100000 in
set_option maxHeartbeats 4000000 in
theorem items_any (k n el : Int) (ps : List Pt) (va : Option Addr) (vc : Nat) (w : World) :
    Calls Tryd.prog 50 #[.agg #[.int .i64 k, .int .i64 n, .int .i64 el, .slice va ps.length vc]] w fun e w' => e = .returned (.tuple #[.int .i64 (itm ⟨k, n, el, ps⟩).1, .int .i64 (itm ⟨k, n, el, ps⟩).2]) ∧ Below w.heap.size w w' := by
  have hB := below1 w (.cells #[.int .i64 k, .int .i64 n, .int .i64 el, .slice va ps.length vc] 64)
  have kx := Blk.newA w #[.int .i64 k, .int .i64 n, .int .i64 el, .slice va ps.length vc] 64
  obtain ⟨wx, hwx⟩ : ∃ wx, wx = w.alloc (.cells #[.int .i64 k, .int .i64 n, .int .i64 el, .slice va ps.length vc] 64) := ⟨_, rfl⟩
  rw [← hwx] at hB kx
  have HB := hide_ hB
  have i0 := kx.cell 0; have i1 := kx.cell 1; have i3 := kx.cell 3
  simp at i0 i1 i3
  clear hB kx
  go_enter Tryd.func50, Tryd.ntmps50
  go_upto_region 1 with fail
  rw [← hwx]
  clear hwx
  by_cases h8 : k = 8
  · subst h8
    have HV : Hid (itm ⟨8, n, el, ps⟩ = ((ps.length : Int), (ps.length : Int))) := hide_ (by simp [itm])
    go_wp2_with fail
    go_quiet (fail)
    go_wp2
    go_ret2
    exact ⟨by rw [HV.out]; rfl, below_drewN HB.out _⟩
  have c8 : (k == 8) = false := by simpa using h8
  by_cases h4 : k = 4
  · subst h4
    have HV : Hid (itm ⟨4, n, el, ps⟩ = (n, n)) := hide_ (by simp [itm])
    go_wp2_with fail
    go_quiet (fail)
    go_wp2
    go_ret2
    exact ⟨by rw [HV.out]; rfl, below_drewN HB.out _⟩
  have c4 : (k == 4) = false := by simpa using h4
  have HV : Hid (itm ⟨k, n, el, ps⟩ = (0, n)) := hide_ (by simp [itm, h8, h4])
  go_wp2_with fail
  go_quiet (fail)
  go_wp2
  go_ret2
  exact ⟨by rw [HV.out]; rfl, below_drewN HB.out _⟩
set_option maxRecDepth 100000 in
set_option maxHeartbeats 4000000 in
theorem misfit2_any (x : Nv) (n el : Int) (ps : List Pt) (va : Option Addr) (vc : Nat) (w : World) (ht : Hid (Tab w)) :
    Calls Tryd.prog 36 #[.agg #[.int .i64 2, .int .i64 n, .int .i64 el, .slice va ps.length vc], .agg #[.int .i64 x.k, .int .u64 x.n, .int .i64 x.kids]] w fun e w' => e = .returned (.int .i64 (misP ⟨2, n, el, ps⟩ x)) ∧ Below w.heap.size w w' := by
  obtain ⟨xk, xn, xd⟩ := x
  simp only
  have hB := below2 w (.cells #[.int .i64 2, .int .i64 n, .int .i64 el, .slice va ps.length vc] 64) (.cells #[.int .i64 xk, .int .u64 xn, .int .i64 xd] 49)
  obtain ⟨k1, k2⟩ := blk2 w #[.int .i64 2, .int .i64 n, .int .i64 el, .slice va ps.length vc] #[.int .i64 xk, .int .u64 xn, .int .i64 xd] 64 49
  obtain ⟨w0, hw0⟩ : ∃ wx, wx = (w.alloc (.cells #[.int .i64 2, .int .i64 n, .int .i64 el, .slice va ps.length vc] 64)).alloc (.cells #[.int .i64 xk, .int .u64 xn, .int .i64 xd] 49) := ⟨_, rfl⟩
  rw [← hw0] at hB k1 k2
  have HB := hide_ hB
  have tk := (ht.out.later hB).is 2 (by decide)
  simp [nkT] at tk
  have i0 := k1.cell 0; have i1 := k1.cell 1; have i2 := k1.cell 2; have i3 := k1.cell 3
  have j0 := k2.cell 0; have j1 := k2.cell 1; have j2 := k2.cell 2
  simp at i0 i1 i2 i3 j0 j1 j2
  clear hB k1 k2
  go_enter Tryd.func36, Tryd.ntmps36
  go_upto_region 1 with fail
  rw [← hw0]
  clear hw0
  by_cases h0 : xk = 2
  · subst h0
    have HV : Hid (misP ⟨2, n, el, ps⟩ ⟨2, xn, xd⟩ = 0) := hide_ (by simp [misP, nkind, nkT])
    go_wp2_with fail
    go_quiet (fail)
    go_wp2
    go_ret
    exact ⟨by rw [HV.out]; rfl, below_drewN HB.out _⟩
  · have c0 : (xk == 2) = false := by simpa using h0
    have HV : Hid (misP ⟨2, n, el, ps⟩ ⟨xk, xn, xd⟩ = 110) := hide_ (by simp [misP, nkind, nkT, h0])
    go_wp2_with fail
    go_quiet (fail)
    go_wp2
    go_ret
    exact ⟨by rw [HV.out]; rfl, below_drewN HB.out _⟩
set_option maxRecDepth 100000 in
set_option maxHeartbeats 4000000 in
theorem misfit3_any (x : Nv) (n el : Int) (ps : List Pt) (va : Option Addr) (vc : Nat) (w : World) (ht : Hid (Tab w)) :
    Calls Tryd.prog 36 #[.agg #[.int .i64 3, .int .i64 n, .int .i64 el, .slice va ps.length vc], .agg #[.int .i64 x.k, .int .u64 x.n, .int .i64 x.kids]] w fun e w' => e = .returned (.int .i64 (misP ⟨3, n, el, ps⟩ x)) ∧ Below w.heap.size w w' := by
  obtain ⟨xk, xn, xd⟩ := x
  simp only
  have hB := below2 w (.cells #[.int .i64 3, .int .i64 n, .int .i64 el, .slice va ps.length vc] 64) (.cells #[.int .i64 xk, .int .u64 xn, .int .i64 xd] 49)
  obtain ⟨k1, k2⟩ := blk2 w #[.int .i64 3, .int .i64 n, .int .i64 el, .slice va ps.length vc] #[.int .i64 xk, .int .u64 xn, .int .i64 xd] 64 49
  obtain ⟨w0, hw0⟩ : ∃ wx, wx = (w.alloc (.cells #[.int .i64 3, .int .i64 n, .int .i64 el, .slice va ps.length vc] 64)).alloc (.cells #[.int .i64 xk, .int .u64 xn, .int .i64 xd] 49) := ⟨_, rfl⟩
  rw [← hw0] at hB k1 k2
  have HB := hide_ hB
  have tk := (ht.out.later hB).is 3 (by decide)
  simp [nkT] at tk
  have i0 := k1.cell 0; have i1 := k1.cell 1; have i2 := k1.cell 2; have i3 := k1.cell 3
  have j0 := k2.cell 0; have j1 := k2.cell 1; have j2 := k2.cell 2
  simp at i0 i1 i2 i3 j0 j1 j2
  clear hB k1 k2
  go_enter Tryd.func36, Tryd.ntmps36
  go_upto_region 1 with fail
  rw [← hw0]
  clear hw0
  by_cases h0 : xk = 1
  · subst h0
    have HV : Hid (misP ⟨3, n, el, ps⟩ ⟨1, xn, xd⟩ = 0) := hide_ (by simp [misP, nkind, nkT])
    go_wp2_with fail
    go_quiet (fail)
    go_wp2
    go_ret
    exact ⟨by rw [HV.out]; rfl, below_drewN HB.out _⟩
  · have c0 : (xk == 1) = false := by simpa using h0
    have HV : Hid (misP ⟨3, n, el, ps⟩ ⟨xk, xn, xd⟩ = 110) := hide_ (by simp [misP, nkind, nkT, h0])
    go_wp2_with fail
    go_quiet (fail)
    go_wp2
    go_ret
    exact ⟨by rw [HV.out]; rfl, below_drewN HB.out _⟩
set_option maxRecDepth 100000 in
set_option maxHeartbeats 4000000 in
theorem misfit6_any (x : Nv) (n el : Int) (ps : List Pt) (va : Option Addr) (vc : Nat) (w : World) (ht : Hid (Tab w)) :
    Calls Tryd.prog 36 #[.agg #[.int .i64 6, .int .i64 n, .int .i64 el, .slice va ps.length vc], .agg #[.int .i64 x.k, .int .u64 x.n, .int .i64 x.kids]] w fun e w' => e = .returned (.int .i64 (misP ⟨6, n, el, ps⟩ x)) ∧ Below w.heap.size w w' := by
  obtain ⟨xk, xn, xd⟩ := x
  simp only
  have hB := below2 w (.cells #[.int .i64 6, .int .i64 n, .int .i64 el, .slice va ps.length vc] 64) (.cells #[.int .i64 xk, .int .u64 xn, .int .i64 xd] 49)
  obtain ⟨k1, k2⟩ := blk2 w #[.int .i64 6, .int .i64 n, .int .i64 el, .slice va ps.length vc] #[.int .i64 xk, .int .u64 xn, .int .i64 xd] 64 49
  obtain ⟨w0, hw0⟩ : ∃ wx, wx = (w.alloc (.cells #[.int .i64 6, .int .i64 n, .int .i64 el, .slice va ps.length vc] 64)).alloc (.cells #[.int .i64 xk, .int .u64 xn, .int .i64 xd] 49) := ⟨_, rfl⟩
  rw [← hw0] at hB k1 k2
  have HB := hide_ hB
  have tk := (ht.out.later hB).is 6 (by decide)
  simp [nkT] at tk
  have i0 := k1.cell 0; have i1 := k1.cell 1; have i2 := k1.cell 2; have i3 := k1.cell 3
  have j0 := k2.cell 0; have j1 := k2.cell 1; have j2 := k2.cell 2
  simp at i0 i1 i2 i3 j0 j1 j2
  clear hB k1 k2
  go_enter Tryd.func36, Tryd.ntmps36
  go_upto_region 1 with fail
  rw [← hw0]
  clear hw0
  by_cases h0 : xk = 5
  · subst h0
    have HV : Hid (misP ⟨6, n, el, ps⟩ ⟨5, xn, xd⟩ = 0) := hide_ (by simp [misP, nkind, nkT])
    go_wp2_with fail
    go_quiet (fail)
    go_wp2
    go_ret
    exact ⟨by rw [HV.out]; rfl, below_drewN HB.out _⟩
  · have c0 : (xk == 5) = false := by simpa using h0
    have HV : Hid (misP ⟨6, n, el, ps⟩ ⟨xk, xn, xd⟩ = 110) := hide_ (by simp [misP, nkind, nkT, h0])
    go_wp2_with fail
    go_quiet (fail)
    go_wp2
    go_ret
    exact ⟨by rw [HV.out]; rfl, below_drewN HB.out _⟩
set_option maxRecDepth 100000 in
set_option maxHeartbeats 4000000 in
theorem misfit4_any (x : Nv) (n el : Int) (ps : List Pt) (va : Option Addr) (vc : Nat) (w : World) (ht : Hid (Tab w)) :
    Calls Tryd.prog 36 #[.agg #[.int .i64 4, .int .i64 n, .int .i64 el, .slice va ps.length vc], .agg #[.int .i64 x.k, .int .u64 x.n, .int .i64 x.kids]] w fun e w' => e = .returned (.int .i64 (misP ⟨4, n, el, ps⟩ x)) ∧ Below w.heap.size w w' := by
  obtain ⟨xk, xn, xd⟩ := x
  simp only
  have hB := below2 w (.cells #[.int .i64 4, .int .i64 n, .int .i64 el, .slice va ps.length vc] 64) (.cells #[.int .i64 xk, .int .u64 xn, .int .i64 xd] 49)
  obtain ⟨k1, k2⟩ := blk2 w #[.int .i64 4, .int .i64 n, .int .i64 el, .slice va ps.length vc] #[.int .i64 xk, .int .u64 xn, .int .i64 xd] 64 49
  obtain ⟨w0, hw0⟩ : ∃ wx, wx = (w.alloc (.cells #[.int .i64 4, .int .i64 n, .int .i64 el, .slice va ps.length vc] 64)).alloc (.cells #[.int .i64 xk, .int .u64 xn, .int .i64 xd] 49) := ⟨_, rfl⟩
  rw [← hw0] at hB k1 k2
  have HB := hide_ hB
  have tk := (ht.out.later hB).is 4 (by decide)
  simp [nkT] at tk
  have i0 := k1.cell 0; have i1 := k1.cell 1; have i2 := k1.cell 2; have i3 := k1.cell 3
  have j0 := k2.cell 0; have j1 := k2.cell 1; have j2 := k2.cell 2
  simp at i0 i1 i2 i3 j0 j1 j2
  have k2x := k2
  clear hB k1 k2
  go_enter Tryd.func36, Tryd.ntmps36
  go_upto_region 1 with fail
  rw [← hw0]
  clear hw0
  by_cases h0 : xk = 3
  · subst h0
    go_wp2_with fail
    go_quiet (fail)
    have HCon := hide_ (items_any 4 n el ps va vc (w0.drewN nq))
    rw [show itm ⟨4, n, el, ps⟩ = (n, n) by simp [itm]] at HCon
    have K2 := hide_ k2x
    by_cases h1 : xd < n
    · have HV : Hid (misP ⟨4, n, el, ps⟩ ⟨3, xn, xd⟩ = 112) := hide_ (by simp [misP, nkind, nkT]; omega)
      go_wp2_with (go_at_call 50; refine HCon.out.mono ?_; rintro e w' ⟨rfl, hB1⟩; (have HB1 := hide_ (below_to (below_drewN HB.out _) hB1)); (have j2b := (K2.out.later (below_to (below_drewN (Below.refl _ _) _) hB1)).cell 2); simp at j2b; clear hB1)
      go_ret
      exact ⟨by rw [HV.out]; rfl, HB1.out⟩
    · by_cases h2 : n < xd
      · have HV : Hid (misP ⟨4, n, el, ps⟩ ⟨3, xn, xd⟩ = 112) := hide_ (by simp [misP, nkind, nkT]; omega)
        go_wp2_with (go_at_call 50; refine HCon.out.mono ?_; rintro e w' ⟨rfl, hB1⟩; (have HB1 := hide_ (below_to (below_drewN HB.out _) hB1)); (have j2b := (K2.out.later (below_to (below_drewN (Below.refl _ _) _) hB1)).cell 2); simp at j2b; clear hB1)
        go_ret
        exact ⟨by rw [HV.out]; rfl, HB1.out⟩
      · have HV : Hid (misP ⟨4, n, el, ps⟩ ⟨3, xn, xd⟩ = 0) := hide_ (by simp [misP, nkind, nkT]; omega)
        go_wp2_with (go_at_call 50; refine HCon.out.mono ?_; rintro e w' ⟨rfl, hB1⟩; (have HB1 := hide_ (below_to (below_drewN HB.out _) hB1)); (have j2b := (K2.out.later (below_to (below_drewN (Below.refl _ _) _) hB1)).cell 2); simp at j2b; clear hB1)
        go_ret
        exact ⟨by rw [HV.out]; rfl, HB1.out⟩
  · have c0 : (xk == 3) = false := by simpa using h0
    have HV : Hid (misP ⟨4, n, el, ps⟩ ⟨xk, xn, xd⟩ = 110) := hide_ (by simp [misP, nkind, nkT, h0])
    go_wp2_with fail
    go_quiet (fail)
    go_wp2
    go_ret
    exact ⟨by rw [HV.out]; rfl, below_drewN HB.out _⟩
set_option maxRecDepth 100000 in
set_option maxHeartbeats 4000000 in
theorem misfit5_any (x : Nv) (n el : Int) (ps : List Pt) (va : Option Addr) (vc : Nat) (w : World) (ht : Hid (Tab w)) :
    Calls Tryd.prog 36 #[.agg #[.int .i64 5, .int .i64 n, .int .i64 el, .slice va ps.length vc], .agg #[.int .i64 x.k, .int .u64 x.n, .int .i64 x.kids]] w fun e w' => e = .returned (.int .i64 (misP ⟨5, n, el, ps⟩ x)) ∧ Below w.heap.size w w' := by
  obtain ⟨xk, xn, xd⟩ := x
  simp only
  have hB := below2 w (.cells #[.int .i64 5, .int .i64 n, .int .i64 el, .slice va ps.length vc] 64) (.cells #[.int .i64 xk, .int .u64 xn, .int .i64 xd] 49)
  obtain ⟨k1, k2⟩ := blk2 w #[.int .i64 5, .int .i64 n, .int .i64 el, .slice va ps.length vc] #[.int .i64 xk, .int .u64 xn, .int .i64 xd] 64 49
  obtain ⟨w0, hw0⟩ : ∃ wx, wx = (w.alloc (.cells #[.int .i64 5, .int .i64 n, .int .i64 el, .slice va ps.length vc] 64)).alloc (.cells #[.int .i64 xk, .int .u64 xn, .int .i64 xd] 49) := ⟨_, rfl⟩
  rw [← hw0] at hB k1 k2
  have HB := hide_ hB
  have tk := (ht.out.later hB).is 5 (by decide)
  simp [nkT] at tk
  have i0 := k1.cell 0; have i1 := k1.cell 1; have i2 := k1.cell 2; have i3 := k1.cell 3
  have j0 := k2.cell 0; have j1 := k2.cell 1; have j2 := k2.cell 2
  simp at i0 i1 i2 i3 j0 j1 j2
  have k2x := k2
  clear hB k1 k2
  go_enter Tryd.func36, Tryd.ntmps36
  go_upto_region 1 with fail
  rw [← hw0]
  clear hw0
  by_cases h0 : xk = 3
  · subst h0
    go_wp2_with fail
    go_quiet (fail)
    have HCon := hide_ (items_any 5 n el ps va vc (w0.drewN nq))
    rw [show itm ⟨5, n, el, ps⟩ = (0, n) by simp [itm]] at HCon
    have K2 := hide_ k2x
    by_cases h1 : xd < 0
    · have HV : Hid (misP ⟨5, n, el, ps⟩ ⟨3, xn, xd⟩ = 112) := hide_ (by simp [misP, nkind, nkT]; omega)
      go_wp2_with (go_at_call 50; refine HCon.out.mono ?_; rintro e w' ⟨rfl, hB1⟩; (have HB1 := hide_ (below_to (below_drewN HB.out _) hB1)); (have j2b := (K2.out.later (below_to (below_drewN (Below.refl _ _) _) hB1)).cell 2); simp at j2b; clear hB1)
      go_ret
      exact ⟨by rw [HV.out]; rfl, HB1.out⟩
    · by_cases h2 : n < xd
      · have HV : Hid (misP ⟨5, n, el, ps⟩ ⟨3, xn, xd⟩ = 112) := hide_ (by simp [misP, nkind, nkT]; omega)
        go_wp2_with (go_at_call 50; refine HCon.out.mono ?_; rintro e w' ⟨rfl, hB1⟩; (have HB1 := hide_ (below_to (below_drewN HB.out _) hB1)); (have j2b := (K2.out.later (below_to (below_drewN (Below.refl _ _) _) hB1)).cell 2); simp at j2b; clear hB1)
        go_ret
        exact ⟨by rw [HV.out]; rfl, HB1.out⟩
      · have HV : Hid (misP ⟨5, n, el, ps⟩ ⟨3, xn, xd⟩ = 0) := hide_ (by simp [misP, nkind, nkT]; omega)
        go_wp2_with (go_at_call 50; refine HCon.out.mono ?_; rintro e w' ⟨rfl, hB1⟩; (have HB1 := hide_ (below_to (below_drewN HB.out _) hB1)); (have j2b := (K2.out.later (below_to (below_drewN (Below.refl _ _) _) hB1)).cell 2); simp at j2b; clear hB1)
        go_ret
        exact ⟨by rw [HV.out]; rfl, HB1.out⟩
  · have c0 : (xk == 3) = false := by simpa using h0
    have HV : Hid (misP ⟨5, n, el, ps⟩ ⟨xk, xn, xd⟩ = 110) := hide_ (by simp [misP, nkind, nkT, h0])
    go_wp2_with fail
    go_quiet (fail)
    go_wp2
    go_ret
    exact ⟨by rw [HV.out]; rfl, below_drewN HB.out _⟩
set_option maxRecDepth 100000 in
set_option maxHeartbeats 4000000 in
theorem misfit8_any (x : Nv) (n el : Int) (ps : List Pt) (va : Option Addr) (vc : Nat) (w : World) (ht : Hid (Tab w)) :
    Calls Tryd.prog 36 #[.agg #[.int .i64 8, .int .i64 n, .int .i64 el, .slice va ps.length vc], .agg #[.int .i64 x.k, .int .u64 x.n, .int .i64 x.kids]] w fun e w' => e = .returned (.int .i64 (misP ⟨8, n, el, ps⟩ x)) ∧ Below w.heap.size w w' := by
  obtain ⟨xk, xn, xd⟩ := x
  simp only
  have hB := below2 w (.cells #[.int .i64 8, .int .i64 n, .int .i64 el, .slice va ps.length vc] 64) (.cells #[.int .i64 xk, .int .u64 xn, .int .i64 xd] 49)
  obtain ⟨k1, k2⟩ := blk2 w #[.int .i64 8, .int .i64 n, .int .i64 el, .slice va ps.length vc] #[.int .i64 xk, .int .u64 xn, .int .i64 xd] 64 49
  obtain ⟨w0, hw0⟩ : ∃ wx, wx = (w.alloc (.cells #[.int .i64 8, .int .i64 n, .int .i64 el, .slice va ps.length vc] 64)).alloc (.cells #[.int .i64 xk, .int .u64 xn, .int .i64 xd] 49) := ⟨_, rfl⟩
  rw [← hw0] at hB k1 k2
  have HB := hide_ hB
  have tk := (ht.out.later hB).is 8 (by decide)
  simp [nkT] at tk
  have i0 := k1.cell 0; have i1 := k1.cell 1; have i2 := k1.cell 2; have i3 := k1.cell 3
  have j0 := k2.cell 0; have j1 := k2.cell 1; have j2 := k2.cell 2
  simp at i0 i1 i2 i3 j0 j1 j2
  have k2x := k2
  clear hB k1 k2
  go_enter Tryd.func36, Tryd.ntmps36
  go_upto_region 1 with fail
  rw [← hw0]
  clear hw0
  by_cases h0 : xk = 4
  · subst h0
    go_wp2_with fail
    go_quiet (fail)
    have HCon := hide_ (items_any 8 n el ps va vc (w0.drewN nq))
    rw [show itm ⟨8, n, el, ps⟩ = ((ps.length : Int), (ps.length : Int)) by simp [itm]] at HCon
    have K2 := hide_ k2x
    by_cases h1 : xd < (ps.length : Int)
    · have HV : Hid (misP ⟨8, n, el, ps⟩ ⟨4, xn, xd⟩ = 112) := hide_ (by simp [misP, nkind, nkT]; omega)
      go_wp2_with (go_at_call 50; refine HCon.out.mono ?_; rintro e w' ⟨rfl, hB1⟩; (have HB1 := hide_ (below_to (below_drewN HB.out _) hB1)); (have j2b := (K2.out.later (below_to (below_drewN (Below.refl _ _) _) hB1)).cell 2); simp at j2b; clear hB1)
      go_ret
      exact ⟨by rw [HV.out]; rfl, HB1.out⟩
    · by_cases h2 : (ps.length : Int) < xd
      · have HV : Hid (misP ⟨8, n, el, ps⟩ ⟨4, xn, xd⟩ = 112) := hide_ (by simp [misP, nkind, nkT]; omega)
        go_wp2_with (go_at_call 50; refine HCon.out.mono ?_; rintro e w' ⟨rfl, hB1⟩; (have HB1 := hide_ (below_to (below_drewN HB.out _) hB1)); (have j2b := (K2.out.later (below_to (below_drewN (Below.refl _ _) _) hB1)).cell 2); simp at j2b; clear hB1)
        go_ret
        exact ⟨by rw [HV.out]; rfl, HB1.out⟩
      · have HV : Hid (misP ⟨8, n, el, ps⟩ ⟨4, xn, xd⟩ = 0) := hide_ (by simp [misP, nkind, nkT]; omega)
        go_wp2_with (go_at_call 50; refine HCon.out.mono ?_; rintro e w' ⟨rfl, hB1⟩; (have HB1 := hide_ (below_to (below_drewN HB.out _) hB1)); (have j2b := (K2.out.later (below_to (below_drewN (Below.refl _ _) _) hB1)).cell 2); simp at j2b; clear hB1)
        go_ret
        exact ⟨by rw [HV.out]; rfl, HB1.out⟩
  · have c0 : (xk == 4) = false := by simpa using h0
    have HV : Hid (misP ⟨8, n, el, ps⟩ ⟨xk, xn, xd⟩ = 110) := hide_ (by simp [misP, nkind, nkT, h0])
    go_wp2_with fail
    go_quiet (fail)
    go_wp2
    go_ret
    exact ⟨by rw [HV.out]; rfl, below_drewN HB.out _⟩
set_option maxRecDepth 100000 in
set_option maxHeartbeats 4000000 in
theorem misfit7_any (x : Nv) (n el : Int) (ps : List Pt) (va : Option Addr) (vc : Nat) (w : World) (hl : ps.length ≤ 9223372036854775806) (htg : Hid (∀ p ∈ ps, 0 ≤ p.tag ∧ p.tag ≤ 255)) (hr : Hid (PRow w va ps)) (ht : Hid (Tab w)) :
    Calls Tryd.prog 36 #[.agg #[.int .i64 7, .int .i64 n, .int .i64 el, .slice va ps.length vc], .agg #[.int .i64 x.k, .int .u64 x.n, .int .i64 x.kids]] w fun e w' => e = .returned (.int .i64 (misP ⟨7, n, el, ps⟩ x)) ∧ Below w.heap.size w w' := by
  obtain ⟨xk, xn, xd⟩ := x
  simp only
  have hB := below2 w (.cells #[.int .i64 7, .int .i64 n, .int .i64 el, .slice va ps.length vc] 64) (.cells #[.int .i64 xk, .int .u64 xn, .int .i64 xd] 49)
  obtain ⟨k1, k2⟩ := blk2 w #[.int .i64 7, .int .i64 n, .int .i64 el, .slice va ps.length vc] #[.int .i64 xk, .int .u64 xn, .int .i64 xd] 64 49
  obtain ⟨w0, hw0⟩ : ∃ wx, wx = (w.alloc (.cells #[.int .i64 7, .int .i64 n, .int .i64 el, .slice va ps.length vc] 64)).alloc (.cells #[.int .i64 xk, .int .u64 xn, .int .i64 xd] 49) := ⟨_, rfl⟩
  rw [← hw0] at hB k1 k2
  have HB := hide_ hB
  have tk := (ht.out.later hB).is 7 (by decide)
  simp [nkT] at tk
  have i0 := k1.cell 0; have i1 := k1.cell 1; have i2 := k1.cell 2; have i3 := k1.cell 3
  have j0 := k2.cell 0; have j1 := k2.cell 1; have j2 := k2.cell 2
  simp at i0 i1 i2 i3 j0 j1 j2
  have HR0 := hide_ (hr.out.later hB)
  clear hB k1 k2
  go_enter Tryd.func36, Tryd.ntmps36
  go_upto_region 1 with fail
  rw [← hw0]
  clear hw0
  by_cases h0 : xk = 6
  · subst h0
    go_wp2_with fail
    go_quiet (fail)
    have HCon := hide_ (armT_any 7 n el ps va vc xn (w0.drewN nq) hl htg (hide_ (HR0.out.later (below_drewN (Below.refl _ _) nq))))
    cases hm : armI ps xn with
    | some m =>
      have HV : Hid (misP ⟨7, n, el, ps⟩ ⟨6, xn, xd⟩ = 0) := hide_ (by simp [misP, nkind, nkT, hm])
      have hz : armZ ps xn = (m : Int) := by unfold armZ; rw [hm]
      rw [hz] at HCon
      clear hm hz
      go_wp2_with (go_at_call 46; refine HCon.out.mono ?_; rintro e w' ⟨rfl, hB1⟩; (have HB1 := hide_ (below_to (below_drewN HB.out _) hB1)); clear hB1)
      go_ret
      exact ⟨by rw [HV.out]; rfl, HB1.out⟩
    | none =>
      have HV : Hid (misP ⟨7, n, el, ps⟩ ⟨6, xn, xd⟩ = 113) := hide_ (by simp [misP, nkind, nkT, hm])
      have hz : armZ ps xn = -1 := by unfold armZ; rw [hm]
      rw [hz] at HCon
      clear hm hz
      go_wp2_with (go_at_call 46; refine HCon.out.mono ?_; rintro e w' ⟨rfl, hB1⟩; (have HB1 := hide_ (below_to (below_drewN HB.out _) hB1)); clear hB1)
      go_ret
      exact ⟨by rw [HV.out]; rfl, HB1.out⟩
  · have c0 : (xk == 6) = false := by simpa using h0
    have HV : Hid (misP ⟨7, n, el, ps⟩ ⟨xk, xn, xd⟩ = 110) := hide_ (by simp [misP, nkind, nkT, h0])
    go_wp2_with fail
    go_quiet (fail)
    go_wp2
    go_ret
    exact ⟨by rw [HV.out]; rfl, below_drewN HB.out _⟩
set_option maxRecDepth 100000 in
set_option maxHeartbeats 4000000 in
theorem misfit1_any (x : Nv) (n el : Int) (ps : List Pt) (va : Option Addr) (vc : Nat) (w : World) (hn : n = 1 ∨ n = 2 ∨ n = 4 ∨ n = 8) (ht : Hid (Tab w)) :
    Calls Tryd.prog 36 #[.agg #[.int .i64 1, .int .i64 n, .int .i64 el, .slice va ps.length vc], .agg #[.int .i64 x.k, .int .u64 x.n, .int .i64 x.kids]] w fun e w' => e = .returned (.int .i64 (misP ⟨1, n, el, ps⟩ x)) ∧ Below w.heap.size w w' := by
  obtain ⟨xk, xn, xd⟩ := x
  simp only
  have hB := below2 w (.cells #[.int .i64 1, .int .i64 n, .int .i64 el, .slice va ps.length vc] 64) (.cells #[.int .i64 xk, .int .u64 xn, .int .i64 xd] 49)
  obtain ⟨k1, k2⟩ := blk2 w #[.int .i64 1, .int .i64 n, .int .i64 el, .slice va ps.length vc] #[.int .i64 xk, .int .u64 xn, .int .i64 xd] 64 49
  obtain ⟨w0, hw0⟩ : ∃ wx, wx = (w.alloc (.cells #[.int .i64 1, .int .i64 n, .int .i64 el, .slice va ps.length vc] 64)).alloc (.cells #[.int .i64 xk, .int .u64 xn, .int .i64 xd] 49) := ⟨_, rfl⟩
  rw [← hw0] at hB k1 k2
  have HB := hide_ hB
  have tk := (ht.out.later hB).is 1 (by decide)
  simp [nkT] at tk
  have i0 := k1.cell 0; have i1 := k1.cell 1; have i2 := k1.cell 2; have i3 := k1.cell 3
  have j0 := k2.cell 0; have j1 := k2.cell 1; have j2 := k2.cell 2
  simp at i0 i1 i2 i3 j0 j1 j2
  have K1 := hide_ k1
  have K2 := hide_ k2
  clear hB k1 k2
  go_enter Tryd.func36, Tryd.ntmps36
  go_upto_region 1 with fail
  rw [← hw0]
  clear hw0
  by_cases h0 : xk = 1
  · subst h0
    go_wp2_with fail
    go_quiet (fail)
    have HCon : Hid (∀ w', Calls Tryd.prog 45 #[.agg #[.int .i64 1, .int .i64 n, .int .i64 el, .slice va ps.length vc]] w' fun e w'' => e = .returned (.int .u64 (gr n)) ∧ Below w'.heap.size w' w'') := hide_ (fun w' => greatest_any 1 n el _ w' hn)
    have HSS : Hid (∀ w', Below w0.heap.size w0 w' → Below w0.heap.size w0 w' ∧ w'.cell? ⟨w.heap.size, 0, none⟩ = some (.int .i64 1) ∧ w'.cell? ⟨w.heap.size, 1, none⟩ = some (.int .i64 n) ∧ w'.cell? ⟨w.heap.size, 2, none⟩ = some (.int .i64 el) ∧ w'.cell? ⟨w.heap.size, 3, none⟩ = some (.slice va ps.length vc) ∧ w'.cell? ⟨w.heap.size + 1, 1, none⟩ = some (.int .u64 xn)) := hide_ (fun w' hB => ⟨hB, (K1.out.later hB).cell 0, (K1.out.later hB).cell 1, (K1.out.later hB).cell 2, (K1.out.later hB).cell 3, (K2.out.later hB).cell 1⟩)
    have HG : Hid (misP ⟨1, n, el, ps⟩ ⟨1, xn, xd⟩ = if gr n < xn then 111 else 0) := hide_ (by simp [misP, nkind, nkT])
    generalize gr n = G at *
    go_wp2_with fail
    go_region_held_law (fun w' => Below w0.heap.size w0 w' ∧ w'.cell? ⟨w.heap.size, 0, none⟩ = some (.int .i64 1) ∧ w'.cell? ⟨w.heap.size, 1, none⟩ = some (.int .i64 n) ∧ w'.cell? ⟨w.heap.size, 2, none⟩ = some (.int .i64 el) ∧ w'.cell? ⟨w.heap.size, 3, none⟩ = some (.slice va ps.length vc) ∧ w'.cell? ⟨w.heap.size + 1, 1, none⟩ = some (.int .u64 xn)) (first | assumption | exact HSS.out _ (Below.drew (below_drewN (Below.refl _ _) _)) | exact HSS.out _ (below_drewN (Below.refl _ _) _) | exact HSS.out _ ((Below.refl _ _).drew) | exact HSS.out _ (Below.refl _ _))
      ((go_at_call 45; refine (HCon.out _).mono ?_; rintro e w2 ⟨rfl, hB2⟩; (have G2 := HSS.out w2 (below_to (by first | assumption | exact And.left (by assumption)) hB2)); (clear hB2)))
    have HBf := hide_ (below_to HB.out G2.1)
    clear G2 HSS HCon
    by_cases hg : G < xn
    · have HV : Hid (misP ⟨1, n, el, ps⟩ ⟨1, xn, xd⟩ = 111) := hide_ (by rw [HG.out, if_pos hg])
      clear HG
      go_wp2
      go_ret
      exact ⟨by rw [HV.out]; rfl, HBf.out⟩
    · have HV : Hid (misP ⟨1, n, el, ps⟩ ⟨1, xn, xd⟩ = 0) := hide_ (by rw [HG.out, if_neg hg])
      clear HG
      go_wp2
      go_ret
      exact ⟨by rw [HV.out]; rfl, HBf.out⟩
  · have c0 : (xk == 1) = false := by simpa using h0
    have HV : Hid (misP ⟨1, n, el, ps⟩ ⟨xk, xn, xd⟩ = 110) := hide_ (by simp [misP, nkind, nkT, h0])
    go_wp2_with fail
    go_quiet (fail)
    go_wp2
    go_ret
    exact ⟨by rw [HV.out]; rfl, below_drewN HB.out _⟩
theorem misfit_any (x : Nv) (k n el : Int) (ps : List Pt) (va : Option Addr) (vc : Nat) (i : Int) (w : World) (hok : Hid (tyOk ⟨k, n, el, ps⟩ i = true)) (hr : Hid (PRow w va ps)) (ht : Hid (Tab w)) :
    Calls Tryd.prog 36 #[.agg #[.int .i64 k, .int .i64 n, .int .i64 el, .slice va ps.length vc], .agg #[.int .i64 x.k, .int .u64 x.n, .int .i64 x.kids]] w fun e w' => e = .returned (.int .i64 (misP ⟨k, n, el, ps⟩ x)) ∧ Below w.heap.size w w' := by
  have hk := tyOk_kind hok.out
  have hps := tyOk_len hok.out
  simp only at hk hps
  rcases hk with rfl | rfl | rfl | rfl | rfl | rfl | rfl | rfl
  · have h1 := (tyOk_parts hok.out).1
    simp only [nOk] at h1
    have h2 := of_decide_eq_true h1
    exact misfit1_any x n el ps va vc w (by omega) ht
  · exact misfit2_any x n el ps va vc w ht
  · exact misfit3_any x n el ps va vc w ht
  · exact misfit4_any x n el ps va vc w ht
  · exact misfit5_any x n el ps va vc w ht
  · exact misfit6_any x n el ps va vc w ht
  · exact misfit7_any x n el ps va vc w (by omega) (hide_ (tyOk_tags hok.out)) hr ht
  · exact misfit8_any x n el ps va vc w ht
end Go.Proofs.YtlfjcihhcphjkaaDoor
