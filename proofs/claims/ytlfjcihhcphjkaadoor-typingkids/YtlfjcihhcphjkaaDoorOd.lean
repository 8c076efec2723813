/- typing.pickAt, picked. -/
import Derived.Test.YtlfjcihhcphjkaaDoorOb
import Derived.Test.YtlfjcihhcphjkaaDoorOe
import Derived.BigQuiet
namespace Go.Proofs.YtlfjcihhcphjkaaDoor
open Go.RowKit
set_option linter.unusedVariables false

theorem wrapU (x : Int) : IntKind.u64.wrap x = x % 18446744073709551616 := by rw [IntKind.wrap_u64]
set_option maxRecDepth 100000 in
set_option maxHeartbeats 4000000 in
theorem pickAt_any (a : Option Addr) (n cap : Nat) (p : List Int) (i : Nat) (w : World) (hn : Hid (p.length = n)) (hr : Hid (Row .i64 w a p)) :
    Calls Tryd.prog 31 #[.slice a n cap, .int .i64 (i : Int)] w fun e w' => e = .returned (.int .u64 (pickA p i)) ∧ w = w' := by
  by_cases hlt : i < n
  · have hi : ¬ (n : Int) ≤ (i : Int) := by omega
    have hi2 : (i : Int) < n := by omega
    have HV : Hid (pickA p i = IntKind.u64.wrap (p.getD i 0)) := hide_ (by unfold pickA; rw [if_pos (by rw [hn.out]; exact hlt), wrapU])
    obtain ⟨b, off, rfl, hb, hx⟩ := hr.out.open (by rw [hn.out]; omega)
    have hc := hx i (by rw [hn.out]; exact hlt)
    generalize p.getD i 0 = y at *
    clear hx
    go_enter Tryd.func31, Tryd.ntmps31
    go_wp2
    go_ret
    exact ⟨by rw [HV.out]; rfl, rfl⟩
  · have hi : (n : Int) ≤ (i : Int) := by omega
    have HV : Hid (pickA p i = 0) := hide_ (by unfold pickA; rw [if_neg (by rw [hn.out]; exact hlt)])
    go_enter Tryd.func31, Tryd.ntmps31
    go_wp2
    go_ret
    exact ⟨by rw [HV.out]; rfl, rfl⟩

theorem tyOk_some {t : Ty} {i : Int} (h : tyOk t i = true) (hk : t.k = 7 ∨ t.k = 8) : 0 < t.ps.length := by
  have h3 := (tyOk_parts h).2.2
  have key : ∀ r, allP r t.ps i = true → 0 < t.ps.length := fun r hr => by
    unfold allP at hr
    rw [Bool.and_eq_true, decide_eq_true_eq] at hr
    omega
  unfold partsOk at h3
  split at h3
  · exact key _ h3
  · rw [if_pos (by omega)] at h3
    exact key _ h3
theorem retN {fn : Func} {p : Tmp} (h : fn.results = #[.cell p 49]) {R : Ending → World → Prop} {tmps : Array Value} {g : Nat} {w : World} {x y z : Value} (hp : tmps.getD p undef = .pointer (some ⟨g, 0, none⟩)) (hK : Blk w g 49 [x, y, z]) (hR : R (.returned (.agg #[x, y, z])) w) :
    bodyPost Tryd.prog fn R Exit.ret ⟨tmps, []⟩ w :=
  bodyPost_ret (results_cell_row h _ _ _ _ #[x, y, z] _ _ hp (show w.heap[g]? = some (.cells #[x, y, z] 49 (0, 0)) from hK) Tryd.underlying49 rfl (by show _ = some 3; kernel_rfl)) rfl hR
theorem wr3 {w : World} {g : Nat} {t : TypeId} {x0 x1 x2 : Value} (h : Blk w g t [x0, x1, x2]) (y0 y1 y2 : Value) :
    Blk (((w.setCell ⟨g, 0, none⟩ y0).setCell ⟨g, 1, none⟩ y1).setCell ⟨g, 2, none⟩ y2) g t [y0, y1, y2] := by
  have h1 := ((h.set 0 y0).set 1 y1).set 2 y2
  simpa using h1
theorem below_wr3 {B : Nat} {w w' : World} (h : Below B w w') (b : Nat) (hb : B ≤ b) (y0 y1 y2 : Value) : Below B w (((w'.setCell ⟨b, 0, none⟩ y0).setCell ⟨b, 1, none⟩ y1).setCell ⟨b, 2, none⟩ y2) :=
  below_set (below_set (below_set h b 0 y0 hb) b 1 y1 hb) b 2 y2 hb

set_option maxRecDepth 100000 in
set_option maxHeartbeats 4000000 in
theorem picked3_any (p n el : Int) (ps : List Pt) (va : Option Addr) (vc : Nat) (w : World) (hp : 0 ≤ p ∧ p < 18446744073709551616) (ht : Hid (Tab w)) :
    Calls Tryd.prog 30 #[.agg #[.int .i64 3, .int .i64 n, .int .i64 el, .slice va ps.length vc], .int .u64 p] w fun e w' => e = .returned (nvv (pickP ⟨3, n, el, ps⟩ p)) ∧ Below w.heap.size w w' := by
  obtain ⟨w1, hw1⟩ : ∃ wx, wx = w.alloc (.cells #[.int .i64 3, .int .i64 n, .int .i64 el, .slice va ps.length vc] 64) := ⟨_, rfl⟩
  have b1 : Below w.heap.size w w1 := by rw [hw1]; exact below1 _ _
  have k1 : Blk w1 w.heap.size 64 [.int .i64 3, .int .i64 n, .int .i64 el, .slice va ps.length vc] := by rw [hw1]; exact Blk.newA w _ _
  have s1 : w1.heap.size = w.heap.size + 1 := by rw [hw1]; simp
  obtain ⟨w2, hw2⟩ : ∃ wx, wx = w1.alloc (.cells #[.int .i64 0, .int .u64 0, .int .i64 0] 49) := ⟨_, rfl⟩
  have b2 : Below w1.heap.size w1 w2 := by rw [hw2]; exact below1 _ _
  have k2 : Blk w2 w1.heap.size 49 [.int .i64 0, .int .u64 0, .int .i64 0] := by rw [hw2]; exact Blk.newA w1 _ _
  have s2 : w2.heap.size = w.heap.size + 2 := by rw [hw2]; simp [s1]
  obtain ⟨w3, hw3⟩ : ∃ wx, wx = w2.alloc (.cells #[.int .i64 1, .int .u64 0, .int .i64 0] 49) := ⟨_, rfl⟩
  have b3 : Below w2.heap.size w2 w3 := by rw [hw3]; exact below1 _ _
  have k3 : Blk w3 w2.heap.size 49 [.int .i64 1, .int .u64 0, .int .i64 0] := by rw [hw3]; exact Blk.newA w2 _ _
  rw [s1] at k2
  rw [s2] at k3
  have HS2 := hide_ s2
  clear s1 s2
  have HB := hide_ (below_to (below_to b1 b2) b3)
  have K1 := hide_ ((k1.later b2).later b3)
  have K2 := hide_ (k2.later b3)
  have K3 := hide_ k3
  have tk := (ht.out.later (below_to b1 b2)).is 3 (by decide)
  simp [nkT] at tk
  have a0 := (k1.later b2).cell 0
  simp at a0
  have i0 := K1.out.cell 0; have i1 := K1.out.cell 1; have i2 := K1.out.cell 2; have i3 := K1.out.cell 3
  have j0 := K2.out.cell 0; have j1 := K2.out.cell 1; have j2 := K2.out.cell 2
  have q0 := K3.out.cell 0; have q1 := K3.out.cell 1; have q2 := K3.out.cell 2
  simp at i0 i1 i2 i3 j0 j1 j2 q0 q1 q2
  have f2 := fun i => K2.out.frozen i
  have f3 := fun i => K3.out.frozen i
  clear b1 b2 b3 k1 k2 k3
  go_enter Tryd.func30, Tryd.ntmps30
  go_upto_region 1 with fail
  rw [← hw1, ← hw2]
  clear hw1 hw2
  go_upto_region 2 with fail
  rw [← hw3, HS2.out]
  clear hw3 a0 tk
  have HV : Hid (pickP ⟨3, n, el, ps⟩ p = ⟨1, (p), 0⟩) := hide_ (by simp [pickP])
  have HK : Hid (Blk ((((w3.setCell ⟨w.heap.size + 2, 1, none⟩ (.int .u64 (p))).setCell ⟨w.heap.size + 1, 0, none⟩ (.int .i64 1)).setCell ⟨w.heap.size + 1, 1, none⟩ (.int .u64 (p))).setCell ⟨w.heap.size + 1, 2, none⟩ (.int .i64 0)) (w.heap.size + 1) 49 [.int .i64 1, .int .u64 (p), .int .i64 0]) := hide_ (wr3 (K2.out.other _ _ (by show w.heap.size + 1 ≠ w.heap.size + 2; omega)) _ _ _)
  have HBf : Hid (Below w.heap.size w ((((w3.setCell ⟨w.heap.size + 2, 1, none⟩ (.int .u64 (p))).setCell ⟨w.heap.size + 1, 0, none⟩ (.int .i64 1)).setCell ⟨w.heap.size + 1, 1, none⟩ (.int .u64 (p))).setCell ⟨w.heap.size + 1, 2, none⟩ (.int .i64 0))) := hide_ (below_wr3 (below_set HB.out _ _ _ (by omega)) _ (by omega) _ _ _)
  go_wp2
  refine retN rfl rfl HK.out ⟨by rw [HV.out]; rfl, HBf.out⟩
set_option maxRecDepth 100000 in
set_option maxHeartbeats 4000000 in
theorem picked4_any (p n el : Int) (ps : List Pt) (va : Option Addr) (vc : Nat) (w : World) (hp : 0 ≤ p ∧ p < 18446744073709551616) (ht : Hid (Tab w)) :
    Calls Tryd.prog 30 #[.agg #[.int .i64 4, .int .i64 n, .int .i64 el, .slice va ps.length vc], .int .u64 p] w fun e w' => e = .returned (nvv (pickP ⟨4, n, el, ps⟩ p)) ∧ Below w.heap.size w w' := by
  obtain ⟨w1, hw1⟩ : ∃ wx, wx = w.alloc (.cells #[.int .i64 4, .int .i64 n, .int .i64 el, .slice va ps.length vc] 64) := ⟨_, rfl⟩
  have b1 : Below w.heap.size w w1 := by rw [hw1]; exact below1 _ _
  have k1 : Blk w1 w.heap.size 64 [.int .i64 4, .int .i64 n, .int .i64 el, .slice va ps.length vc] := by rw [hw1]; exact Blk.newA w _ _
  have s1 : w1.heap.size = w.heap.size + 1 := by rw [hw1]; simp
  obtain ⟨w2, hw2⟩ : ∃ wx, wx = w1.alloc (.cells #[.int .i64 0, .int .u64 0, .int .i64 0] 49) := ⟨_, rfl⟩
  have b2 : Below w1.heap.size w1 w2 := by rw [hw2]; exact below1 _ _
  have k2 : Blk w2 w1.heap.size 49 [.int .i64 0, .int .u64 0, .int .i64 0] := by rw [hw2]; exact Blk.newA w1 _ _
  have s2 : w2.heap.size = w.heap.size + 2 := by rw [hw2]; simp [s1]
  obtain ⟨w3, hw3⟩ : ∃ wx, wx = w2.alloc (.cells #[.int .i64 3, .int .u64 0, .int .i64 0] 49) := ⟨_, rfl⟩
  have b3 : Below w2.heap.size w2 w3 := by rw [hw3]; exact below1 _ _
  have k3 : Blk w3 w2.heap.size 49 [.int .i64 3, .int .u64 0, .int .i64 0] := by rw [hw3]; exact Blk.newA w2 _ _
  rw [s1] at k2
  rw [s2] at k3
  have HS2 := hide_ s2
  clear s1 s2
  have HB := hide_ (below_to (below_to b1 b2) b3)
  have K1 := hide_ ((k1.later b2).later b3)
  have K2 := hide_ (k2.later b3)
  have K3 := hide_ k3
  have tk := (ht.out.later (below_to b1 b2)).is 4 (by decide)
  simp [nkT] at tk
  have a0 := (k1.later b2).cell 0
  simp at a0
  have i0 := K1.out.cell 0; have i1 := K1.out.cell 1; have i2 := K1.out.cell 2; have i3 := K1.out.cell 3
  have j0 := K2.out.cell 0; have j1 := K2.out.cell 1; have j2 := K2.out.cell 2
  have q0 := K3.out.cell 0; have q1 := K3.out.cell 1; have q2 := K3.out.cell 2
  simp at i0 i1 i2 i3 j0 j1 j2 q0 q1 q2
  have f2 := fun i => K2.out.frozen i
  have f3 := fun i => K3.out.frozen i
  clear b1 b2 b3 k1 k2 k3
  go_enter Tryd.func30, Tryd.ntmps30
  go_upto_region 1 with fail
  rw [← hw1, ← hw2]
  clear hw1 hw2
  go_upto_region 2 with fail
  rw [← hw3, HS2.out]
  clear hw3 a0 tk
  have HV : Hid (pickP ⟨4, n, el, ps⟩ p = ⟨3, 0, (n)⟩) := hide_ (by simp [pickP])
  have HK : Hid (Blk ((((w3.setCell ⟨w.heap.size + 2, 2, none⟩ (.int .i64 (n))).setCell ⟨w.heap.size + 1, 0, none⟩ (.int .i64 3)).setCell ⟨w.heap.size + 1, 1, none⟩ (.int .u64 0)).setCell ⟨w.heap.size + 1, 2, none⟩ (.int .i64 (n))) (w.heap.size + 1) 49 [.int .i64 3, .int .u64 0, .int .i64 (n)]) := hide_ (wr3 (K2.out.other _ _ (by show w.heap.size + 1 ≠ w.heap.size + 2; omega)) _ _ _)
  have HBf : Hid (Below w.heap.size w ((((w3.setCell ⟨w.heap.size + 2, 2, none⟩ (.int .i64 (n))).setCell ⟨w.heap.size + 1, 0, none⟩ (.int .i64 3)).setCell ⟨w.heap.size + 1, 1, none⟩ (.int .u64 0)).setCell ⟨w.heap.size + 1, 2, none⟩ (.int .i64 (n)))) := hide_ (below_wr3 (below_set HB.out _ _ _ (by omega)) _ (by omega) _ _ _)
  go_wp2
  refine retN rfl rfl HK.out ⟨by rw [HV.out]; rfl, HBf.out⟩
set_option maxRecDepth 100000 in
set_option maxHeartbeats 4000000 in
theorem picked8_any (p n el : Int) (ps : List Pt) (va : Option Addr) (vc : Nat) (w : World) (hp : 0 ≤ p ∧ p < 18446744073709551616) (ht : Hid (Tab w)) :
    Calls Tryd.prog 30 #[.agg #[.int .i64 8, .int .i64 n, .int .i64 el, .slice va ps.length vc], .int .u64 p] w fun e w' => e = .returned (nvv (pickP ⟨8, n, el, ps⟩ p)) ∧ Below w.heap.size w w' := by
  obtain ⟨w1, hw1⟩ : ∃ wx, wx = w.alloc (.cells #[.int .i64 8, .int .i64 n, .int .i64 el, .slice va ps.length vc] 64) := ⟨_, rfl⟩
  have b1 : Below w.heap.size w w1 := by rw [hw1]; exact below1 _ _
  have k1 : Blk w1 w.heap.size 64 [.int .i64 8, .int .i64 n, .int .i64 el, .slice va ps.length vc] := by rw [hw1]; exact Blk.newA w _ _
  have s1 : w1.heap.size = w.heap.size + 1 := by rw [hw1]; simp
  obtain ⟨w2, hw2⟩ : ∃ wx, wx = w1.alloc (.cells #[.int .i64 0, .int .u64 0, .int .i64 0] 49) := ⟨_, rfl⟩
  have b2 : Below w1.heap.size w1 w2 := by rw [hw2]; exact below1 _ _
  have k2 : Blk w2 w1.heap.size 49 [.int .i64 0, .int .u64 0, .int .i64 0] := by rw [hw2]; exact Blk.newA w1 _ _
  have s2 : w2.heap.size = w.heap.size + 2 := by rw [hw2]; simp [s1]
  obtain ⟨w3, hw3⟩ : ∃ wx, wx = w2.alloc (.cells #[.int .i64 4, .int .u64 0, .int .i64 0] 49) := ⟨_, rfl⟩
  have b3 : Below w2.heap.size w2 w3 := by rw [hw3]; exact below1 _ _
  have k3 : Blk w3 w2.heap.size 49 [.int .i64 4, .int .u64 0, .int .i64 0] := by rw [hw3]; exact Blk.newA w2 _ _
  rw [s1] at k2
  rw [s2] at k3
  have HS2 := hide_ s2
  clear s1 s2
  have HB := hide_ (below_to (below_to b1 b2) b3)
  have K1 := hide_ ((k1.later b2).later b3)
  have K2 := hide_ (k2.later b3)
  have K3 := hide_ k3
  have tk := (ht.out.later (below_to b1 b2)).is 8 (by decide)
  simp [nkT] at tk
  have a0 := (k1.later b2).cell 0
  simp at a0
  have i0 := K1.out.cell 0; have i1 := K1.out.cell 1; have i2 := K1.out.cell 2; have i3 := K1.out.cell 3
  have j0 := K2.out.cell 0; have j1 := K2.out.cell 1; have j2 := K2.out.cell 2
  have q0 := K3.out.cell 0; have q1 := K3.out.cell 1; have q2 := K3.out.cell 2
  simp at i0 i1 i2 i3 j0 j1 j2 q0 q1 q2
  have f2 := fun i => K2.out.frozen i
  have f3 := fun i => K3.out.frozen i
  clear b1 b2 b3 k1 k2 k3
  go_enter Tryd.func30, Tryd.ntmps30
  go_upto_region 1 with fail
  rw [← hw1, ← hw2]
  clear hw1 hw2
  go_upto_region 2 with fail
  rw [← hw3, HS2.out]
  clear hw3 a0 tk
  have HV : Hid (pickP ⟨8, n, el, ps⟩ p = ⟨4, 0, ((ps.length : Int))⟩) := hide_ (by simp [pickP])
  have HK : Hid (Blk ((((w3.setCell ⟨w.heap.size + 2, 2, none⟩ (.int .i64 ((ps.length : Int)))).setCell ⟨w.heap.size + 1, 0, none⟩ (.int .i64 4)).setCell ⟨w.heap.size + 1, 1, none⟩ (.int .u64 0)).setCell ⟨w.heap.size + 1, 2, none⟩ (.int .i64 ((ps.length : Int)))) (w.heap.size + 1) 49 [.int .i64 4, .int .u64 0, .int .i64 ((ps.length : Int))]) := hide_ (wr3 (K2.out.other _ _ (by show w.heap.size + 1 ≠ w.heap.size + 2; omega)) _ _ _)
  have HBf : Hid (Below w.heap.size w ((((w3.setCell ⟨w.heap.size + 2, 2, none⟩ (.int .i64 ((ps.length : Int)))).setCell ⟨w.heap.size + 1, 0, none⟩ (.int .i64 4)).setCell ⟨w.heap.size + 1, 1, none⟩ (.int .u64 0)).setCell ⟨w.heap.size + 1, 2, none⟩ (.int .i64 ((ps.length : Int))))) := hide_ (below_wr3 (below_set HB.out _ _ _ (by omega)) _ (by omega) _ _ _)
  go_wp2
  refine retN rfl rfl HK.out ⟨by rw [HV.out]; rfl, HBf.out⟩
set_option maxRecDepth 100000 in
set_option maxHeartbeats 4000000 in
theorem picked2_any (p n el : Int) (ps : List Pt) (va : Option Addr) (vc : Nat) (w : World) (hp : 0 ≤ p ∧ p < 18446744073709551616) (ht : Hid (Tab w)) :
    Calls Tryd.prog 30 #[.agg #[.int .i64 2, .int .i64 n, .int .i64 el, .slice va ps.length vc], .int .u64 p] w fun e w' => e = .returned (nvv (pickP ⟨2, n, el, ps⟩ p)) ∧ Below w.heap.size w w' := by
  obtain ⟨w1, hw1⟩ : ∃ wx, wx = w.alloc (.cells #[.int .i64 2, .int .i64 n, .int .i64 el, .slice va ps.length vc] 64) := ⟨_, rfl⟩
  have b1 : Below w.heap.size w w1 := by rw [hw1]; exact below1 _ _
  have k1 : Blk w1 w.heap.size 64 [.int .i64 2, .int .i64 n, .int .i64 el, .slice va ps.length vc] := by rw [hw1]; exact Blk.newA w _ _
  have s1 : w1.heap.size = w.heap.size + 1 := by rw [hw1]; simp
  obtain ⟨w2, hw2⟩ : ∃ wx, wx = w1.alloc (.cells #[.int .i64 0, .int .u64 0, .int .i64 0] 49) := ⟨_, rfl⟩
  have b2 : Below w1.heap.size w1 w2 := by rw [hw2]; exact below1 _ _
  have k2 : Blk w2 w1.heap.size 49 [.int .i64 0, .int .u64 0, .int .i64 0] := by rw [hw2]; exact Blk.newA w1 _ _
  have s2 : w2.heap.size = w.heap.size + 2 := by rw [hw2]; simp [s1]
  obtain ⟨w3, hw3⟩ : ∃ wx, wx = w2.alloc (.cells #[.int .i64 2, .int .u64 0, .int .i64 0] 49) := ⟨_, rfl⟩
  have b3 : Below w2.heap.size w2 w3 := by rw [hw3]; exact below1 _ _
  have k3 : Blk w3 w2.heap.size 49 [.int .i64 2, .int .u64 0, .int .i64 0] := by rw [hw3]; exact Blk.newA w2 _ _
  rw [s1] at k2
  rw [s2] at k3
  have HS2 := hide_ s2
  clear s1 s2
  have HB := hide_ (below_to (below_to b1 b2) b3)
  have K1 := hide_ ((k1.later b2).later b3)
  have K2 := hide_ (k2.later b3)
  have K3 := hide_ k3
  have tk := (ht.out.later (below_to b1 b2)).is 2 (by decide)
  simp [nkT] at tk
  have a0 := (k1.later b2).cell 0
  simp at a0
  have i0 := K1.out.cell 0; have i1 := K1.out.cell 1; have i2 := K1.out.cell 2; have i3 := K1.out.cell 3
  have j0 := K2.out.cell 0; have j1 := K2.out.cell 1; have j2 := K2.out.cell 2
  have q0 := K3.out.cell 0; have q1 := K3.out.cell 1; have q2 := K3.out.cell 2
  simp at i0 i1 i2 i3 j0 j1 j2 q0 q1 q2
  have f2 := fun i => K2.out.frozen i
  have f3 := fun i => K3.out.frozen i
  clear b1 b2 b3 k1 k2 k3
  go_enter Tryd.func30, Tryd.ntmps30
  go_upto_region 1 with fail
  rw [← hw1, ← hw2]
  clear hw1 hw2
  go_upto_region 2 with fail
  rw [← hw3, HS2.out]
  clear hw3 a0 tk
  have hm : Int.tmod p 2 = p % 2 := Int.tmod_eq_emod_of_nonneg hp.1
  have HV : Hid (pickP ⟨2, n, el, ps⟩ p = ⟨2, (p % 2), 0⟩) := hide_ (by simp [pickP])
  have HK : Hid (Blk ((((w3.setCell ⟨w.heap.size + 2, 1, none⟩ (.int .u64 (p % 2))).setCell ⟨w.heap.size + 1, 0, none⟩ (.int .i64 2)).setCell ⟨w.heap.size + 1, 1, none⟩ (.int .u64 (p % 2))).setCell ⟨w.heap.size + 1, 2, none⟩ (.int .i64 0)) (w.heap.size + 1) 49 [.int .i64 2, .int .u64 (p % 2), .int .i64 0]) := hide_ (wr3 (K2.out.other _ _ (by show w.heap.size + 1 ≠ w.heap.size + 2; omega)) _ _ _)
  have HBf : Hid (Below w.heap.size w ((((w3.setCell ⟨w.heap.size + 2, 1, none⟩ (.int .u64 (p % 2))).setCell ⟨w.heap.size + 1, 0, none⟩ (.int .i64 2)).setCell ⟨w.heap.size + 1, 1, none⟩ (.int .u64 (p % 2))).setCell ⟨w.heap.size + 1, 2, none⟩ (.int .i64 0))) := hide_ (below_wr3 (below_set HB.out _ _ _ (by omega)) _ (by omega) _ _ _)
  go_wp2
  refine retN rfl rfl HK.out ⟨by rw [HV.out]; rfl, HBf.out⟩
set_option maxRecDepth 100000 in
set_option maxHeartbeats 4000000 in
theorem picked6_any (p n el : Int) (ps : List Pt) (va : Option Addr) (vc : Nat) (w : World) (hp : 0 ≤ p ∧ p < 18446744073709551616) (ht : Hid (Tab w)) :
    Calls Tryd.prog 30 #[.agg #[.int .i64 6, .int .i64 n, .int .i64 el, .slice va ps.length vc], .int .u64 p] w fun e w' => e = .returned (nvv (pickP ⟨6, n, el, ps⟩ p)) ∧ Below w.heap.size w w' := by
  obtain ⟨w1, hw1⟩ : ∃ wx, wx = w.alloc (.cells #[.int .i64 6, .int .i64 n, .int .i64 el, .slice va ps.length vc] 64) := ⟨_, rfl⟩
  have b1 : Below w.heap.size w w1 := by rw [hw1]; exact below1 _ _
  have k1 : Blk w1 w.heap.size 64 [.int .i64 6, .int .i64 n, .int .i64 el, .slice va ps.length vc] := by rw [hw1]; exact Blk.newA w _ _
  have s1 : w1.heap.size = w.heap.size + 1 := by rw [hw1]; simp
  obtain ⟨w2, hw2⟩ : ∃ wx, wx = w1.alloc (.cells #[.int .i64 0, .int .u64 0, .int .i64 0] 49) := ⟨_, rfl⟩
  have b2 : Below w1.heap.size w1 w2 := by rw [hw2]; exact below1 _ _
  have k2 : Blk w2 w1.heap.size 49 [.int .i64 0, .int .u64 0, .int .i64 0] := by rw [hw2]; exact Blk.newA w1 _ _
  have s2 : w2.heap.size = w.heap.size + 2 := by rw [hw2]; simp [s1]
  obtain ⟨w3, hw3⟩ : ∃ wx, wx = w2.alloc (.cells #[.int .i64 5, .int .u64 0, .int .i64 0] 49) := ⟨_, rfl⟩
  have b3 : Below w2.heap.size w2 w3 := by rw [hw3]; exact below1 _ _
  have k3 : Blk w3 w2.heap.size 49 [.int .i64 5, .int .u64 0, .int .i64 0] := by rw [hw3]; exact Blk.newA w2 _ _
  rw [s1] at k2
  rw [s2] at k3
  have HS2 := hide_ s2
  clear s1 s2
  have HB := hide_ (below_to (below_to b1 b2) b3)
  have K1 := hide_ ((k1.later b2).later b3)
  have K2 := hide_ (k2.later b3)
  have K3 := hide_ k3
  have tk := (ht.out.later (below_to b1 b2)).is 6 (by decide)
  simp [nkT] at tk
  have a0 := (k1.later b2).cell 0
  simp at a0
  have i0 := K1.out.cell 0; have i1 := K1.out.cell 1; have i2 := K1.out.cell 2; have i3 := K1.out.cell 3
  have j0 := K2.out.cell 0; have j1 := K2.out.cell 1; have j2 := K2.out.cell 2
  have q0 := K3.out.cell 0; have q1 := K3.out.cell 1; have q2 := K3.out.cell 2
  simp at i0 i1 i2 i3 j0 j1 j2 q0 q1 q2
  have f2 := fun i => K2.out.frozen i
  have f3 := fun i => K3.out.frozen i
  clear b1 b2 b3 k1 k2 k3
  go_enter Tryd.func30, Tryd.ntmps30
  go_upto_region 1 with fail
  rw [← hw1, ← hw2]
  clear hw1 hw2
  go_upto_region 2 with fail
  rw [← hw3, HS2.out]
  clear hw3 a0 tk
  have hm : Int.tmod p 2 = p % 2 := Int.tmod_eq_emod_of_nonneg hp.1
  have hm2 : wrap64 (p % 2) = p % 2 := by rw [wrap64]; omega
  have HV : Hid (pickP ⟨6, n, el, ps⟩ p = ⟨5, 0, (p % 2)⟩) := hide_ (by simp [pickP])
  have HK : Hid (Blk ((((w3.setCell ⟨w.heap.size + 2, 2, none⟩ (.int .i64 (p % 2))).setCell ⟨w.heap.size + 1, 0, none⟩ (.int .i64 5)).setCell ⟨w.heap.size + 1, 1, none⟩ (.int .u64 0)).setCell ⟨w.heap.size + 1, 2, none⟩ (.int .i64 (p % 2))) (w.heap.size + 1) 49 [.int .i64 5, .int .u64 0, .int .i64 (p % 2)]) := hide_ (wr3 (K2.out.other _ _ (by show w.heap.size + 1 ≠ w.heap.size + 2; omega)) _ _ _)
  have HBf : Hid (Below w.heap.size w ((((w3.setCell ⟨w.heap.size + 2, 2, none⟩ (.int .i64 (p % 2))).setCell ⟨w.heap.size + 1, 0, none⟩ (.int .i64 5)).setCell ⟨w.heap.size + 1, 1, none⟩ (.int .u64 0)).setCell ⟨w.heap.size + 1, 2, none⟩ (.int .i64 (p % 2)))) := hide_ (below_wr3 (below_set HB.out _ _ _ (by omega)) _ (by omega) _ _ _)
  go_wp2
  refine retN rfl rfl HK.out ⟨by rw [HV.out]; rfl, HBf.out⟩
set_option maxRecDepth 100000 in
set_option maxHeartbeats 4000000 in
theorem picked5_any (p n el : Int) (ps : List Pt) (va : Option Addr) (vc : Nat) (w : World) (hp : 0 ≤ p ∧ p < 18446744073709551616) (hn : 1 ≤ n ∧ n ≤ 1048576) (ht : Hid (Tab w)) :
    Calls Tryd.prog 30 #[.agg #[.int .i64 5, .int .i64 n, .int .i64 el, .slice va ps.length vc], .int .u64 p] w fun e w' => e = .returned (nvv (pickP ⟨5, n, el, ps⟩ p)) ∧ Below w.heap.size w w' := by
  obtain ⟨w1, hw1⟩ : ∃ wx, wx = w.alloc (.cells #[.int .i64 5, .int .i64 n, .int .i64 el, .slice va ps.length vc] 64) := ⟨_, rfl⟩
  have b1 : Below w.heap.size w w1 := by rw [hw1]; exact below1 _ _
  have k1 : Blk w1 w.heap.size 64 [.int .i64 5, .int .i64 n, .int .i64 el, .slice va ps.length vc] := by rw [hw1]; exact Blk.newA w _ _
  have s1 : w1.heap.size = w.heap.size + 1 := by rw [hw1]; simp
  obtain ⟨w2, hw2⟩ : ∃ wx, wx = w1.alloc (.cells #[.int .i64 0, .int .u64 0, .int .i64 0] 49) := ⟨_, rfl⟩
  have b2 : Below w1.heap.size w1 w2 := by rw [hw2]; exact below1 _ _
  have k2 : Blk w2 w1.heap.size 49 [.int .i64 0, .int .u64 0, .int .i64 0] := by rw [hw2]; exact Blk.newA w1 _ _
  have s2 : w2.heap.size = w.heap.size + 2 := by rw [hw2]; simp [s1]
  obtain ⟨w3, hw3⟩ : ∃ wx, wx = w2.alloc (.cells #[.int .i64 3, .int .u64 0, .int .i64 0] 49) := ⟨_, rfl⟩
  have b3 : Below w2.heap.size w2 w3 := by rw [hw3]; exact below1 _ _
  have k3 : Blk w3 w2.heap.size 49 [.int .i64 3, .int .u64 0, .int .i64 0] := by rw [hw3]; exact Blk.newA w2 _ _
  rw [s1] at k2
  rw [s2] at k3
  have HS2 := hide_ s2
  clear s1 s2
  have HB := hide_ (below_to (below_to b1 b2) b3)
  have K1 := hide_ ((k1.later b2).later b3)
  have K2 := hide_ (k2.later b3)
  have K3 := hide_ k3
  have tk := (ht.out.later (below_to b1 b2)).is 5 (by decide)
  simp [nkT] at tk
  have a0 := (k1.later b2).cell 0
  simp at a0
  have i0 := K1.out.cell 0; have i1 := K1.out.cell 1; have i2 := K1.out.cell 2; have i3 := K1.out.cell 3
  have j0 := K2.out.cell 0; have j1 := K2.out.cell 1; have j2 := K2.out.cell 2
  have q0 := K3.out.cell 0; have q1 := K3.out.cell 1; have q2 := K3.out.cell 2
  simp at i0 i1 i2 i3 j0 j1 j2 q0 q1 q2
  have f2 := fun i => K2.out.frozen i
  have f3 := fun i => K3.out.frozen i
  clear b1 b2 b3 k1 k2 k3
  go_enter Tryd.func30, Tryd.ntmps30
  go_upto_region 1 with fail
  rw [← hw1, ← hw2]
  clear hw1 hw2
  go_upto_region 2 with fail
  rw [← hw3, HS2.out]
  clear hw3 a0 tk
  have hm : Int.tmod p (n + 1) = p % (n + 1) := Int.tmod_eq_emod_of_nonneg hp.1
  have hz : (n + 1 == 0) = false := by simp; omega
  have hlt1 : 0 ≤ p % (n + 1) := Int.emod_nonneg _ (by omega)
  have hlt2 : p % (n + 1) < n + 1 := Int.emod_lt_of_pos _ (by omega)
  have hu : IntKind.u64.wrap (n + 1) = n + 1 := by rw [IntKind.wrap_u64]; omega
  have hm2 : wrap64 (p % (n + 1)) = p % (n + 1) := by rw [wrap64]; omega
  have HV : Hid (pickP ⟨5, n, el, ps⟩ p = ⟨3, 0, (p % (n + 1))⟩) := hide_ (by simp [pickP])
  have HK : Hid (Blk ((((w3.setCell ⟨w.heap.size + 2, 2, none⟩ (.int .i64 (p % (n + 1)))).setCell ⟨w.heap.size + 1, 0, none⟩ (.int .i64 3)).setCell ⟨w.heap.size + 1, 1, none⟩ (.int .u64 0)).setCell ⟨w.heap.size + 1, 2, none⟩ (.int .i64 (p % (n + 1)))) (w.heap.size + 1) 49 [.int .i64 3, .int .u64 0, .int .i64 (p % (n + 1))]) := hide_ (wr3 (K2.out.other _ _ (by show w.heap.size + 1 ≠ w.heap.size + 2; omega)) _ _ _)
  have HBf : Hid (Below w.heap.size w ((((w3.setCell ⟨w.heap.size + 2, 2, none⟩ (.int .i64 (p % (n + 1)))).setCell ⟨w.heap.size + 1, 0, none⟩ (.int .i64 3)).setCell ⟨w.heap.size + 1, 1, none⟩ (.int .u64 0)).setCell ⟨w.heap.size + 1, 2, none⟩ (.int .i64 (p % (n + 1))))) := hide_ (below_wr3 (below_set HB.out _ _ _ (by omega)) _ (by omega) _ _ _)
  go_wp2
  refine retN rfl rfl HK.out ⟨by rw [HV.out]; rfl, HBf.out⟩
theorem and_mask (a k m M : Nat) (ha : a < 18446744073709551616) (hM : M < 18446744073709551616) (hm : m = 2 ^ k) (h : M = m - 1) : bits .and .u64 (a : Int) (M : Int) = (a : Int) % (m : Int) := by
  have e := bits_and_u64_nat a M ha hM
  subst hm
  subst h
  rw [Nat.and_two_pow_sub_one_eq_mod a k] at e
  rw [e]
  simp
theorem and_gr (p n : Int) (hp : 0 ≤ p ∧ p < 18446744073709551616) (hn : n = 1 ∨ n = 2 ∨ n = 4 ∨ n = 8) : bits .and .u64 p (gr n) = p % 2 ^ (8 * n).toNat := by
  obtain ⟨a, rfl⟩ := Int.eq_ofNat_of_zero_le hp.1
  rcases hn with rfl | rfl | rfl | rfl
  · exact and_mask a 8 256 255 (by omega) (by omega) (by decide) (by decide)
  · exact and_mask a 16 65536 65535 (by omega) (by omega) (by decide) (by decide)
  · exact and_mask a 32 4294967296 4294967295 (by omega) (by omega) (by decide) (by decide)
  · exact and_mask a 64 18446744073709551616 18446744073709551615 (by omega) (by omega) (by decide) (by decide)

set_option maxRecDepth 100000 in
set_option maxHeartbeats 4000000 in
theorem picked1_any (p n el : Int) (ps : List Pt) (va : Option Addr) (vc : Nat) (w : World) (hp : 0 ≤ p ∧ p < 18446744073709551616) (hn : n = 1 ∨ n = 2 ∨ n = 4 ∨ n = 8) (ht : Hid (Tab w)) :
    Calls Tryd.prog 30 #[.agg #[.int .i64 1, .int .i64 n, .int .i64 el, .slice va ps.length vc], .int .u64 p] w fun e w' => e = .returned (nvv (pickP ⟨1, n, el, ps⟩ p)) ∧ Below w.heap.size w w' := by
  obtain ⟨w1, hw1⟩ : ∃ wx, wx = w.alloc (.cells #[.int .i64 1, .int .i64 n, .int .i64 el, .slice va ps.length vc] 64) := ⟨_, rfl⟩
  have b1 : Below w.heap.size w w1 := by rw [hw1]; exact below1 _ _
  have k1 : Blk w1 w.heap.size 64 [.int .i64 1, .int .i64 n, .int .i64 el, .slice va ps.length vc] := by rw [hw1]; exact Blk.newA w _ _
  have s1 : w1.heap.size = w.heap.size + 1 := by rw [hw1]; simp
  obtain ⟨w2, hw2⟩ : ∃ wx, wx = w1.alloc (.cells #[.int .i64 0, .int .u64 0, .int .i64 0] 49) := ⟨_, rfl⟩
  have b2 : Below w1.heap.size w1 w2 := by rw [hw2]; exact below1 _ _
  have k2 : Blk w2 w1.heap.size 49 [.int .i64 0, .int .u64 0, .int .i64 0] := by rw [hw2]; exact Blk.newA w1 _ _
  have s2 : w2.heap.size = w.heap.size + 2 := by rw [hw2]; simp [s1]
  obtain ⟨w3, hw3⟩ : ∃ wx, wx = w2.alloc (.cells #[.int .i64 1, .int .u64 0, .int .i64 0] 49) := ⟨_, rfl⟩
  have b3 : Below w2.heap.size w2 w3 := by rw [hw3]; exact below1 _ _
  have k3 : Blk w3 w2.heap.size 49 [.int .i64 1, .int .u64 0, .int .i64 0] := by rw [hw3]; exact Blk.newA w2 _ _
  rw [s1] at k2
  rw [s2] at k3
  have HS2 := hide_ s2
  clear s1 s2
  have HB := hide_ (below_to (below_to b1 b2) b3)
  have K1 := hide_ ((k1.later b2).later b3)
  have K2 := hide_ (k2.later b3)
  have K3 := hide_ k3
  have tk := (ht.out.later (below_to b1 b2)).is 1 (by decide)
  simp [nkT] at tk
  have a0 := (k1.later b2).cell 0
  simp at a0
  have i0 := K1.out.cell 0; have i1 := K1.out.cell 1; have i2 := K1.out.cell 2; have i3 := K1.out.cell 3
  have j0 := K2.out.cell 0; have j1 := K2.out.cell 1; have j2 := K2.out.cell 2
  have q0 := K3.out.cell 0; have q1 := K3.out.cell 1; have q2 := K3.out.cell 2
  simp at i0 i1 i2 i3 j0 j1 j2 q0 q1 q2
  have f2 := fun i => K2.out.frozen i
  have f3 := fun i => K3.out.frozen i
  clear b1 b2 b3 k1 k2 k3
  go_enter Tryd.func30, Tryd.ntmps30
  go_upto_region 1 with fail
  rw [← hw1, ← hw2]
  clear hw1 hw2
  go_upto_region 2 with fail
  rw [← hw3, HS2.out]
  clear hw3 a0 tk
  have HV : Hid (pickP ⟨1, n, el, ps⟩ p = ⟨1, bits .and .u64 p (gr n), 0⟩) := hide_ (by rw [and_gr p n hp hn]; simp [pickP])
  have HCon : Hid (Calls Tryd.prog 45 #[.agg #[.int .i64 1, .int .i64 n, .int .i64 el, .slice va ps.length vc]] w3 fun e w' => e = .returned (.int .u64 (gr n)) ∧ Below w3.heap.size w3 w') := hide_ (greatest_any 1 n el _ w3 hn)
  generalize gr n = G at *
  generalize hbt : bits .and .u64 p G = q at *
  go_wp2_with fail
  refine HCon.out.mono ?_
  rintro e w4 ⟨rfl, hB4⟩
  have HB4 := hide_ (below_to HB.out hB4)
  have K24 := hide_ (K2.out.later hB4)
  have K34 := hide_ (K3.out.later hB4)
  clear hB4 HCon q0 q1 q2 i0 i1 i2 i3 j0 j1 j2 f2 f3
  have j0 := K24.out.cell 0; have j1 := K24.out.cell 1; have j2 := K24.out.cell 2
  have q0 := K34.out.cell 0; have q1 := K34.out.cell 1; have q2 := K34.out.cell 2
  simp at j0 j1 j2 q0 q1 q2
  have f2 := fun i => K24.out.frozen i
  have f3 := fun i => K34.out.frozen i
  have HK : Hid (Blk ((((w4.setCell ⟨w.heap.size + 2, 1, none⟩ (.int .u64 q)).setCell ⟨w.heap.size + 1, 0, none⟩ (.int .i64 1)).setCell ⟨w.heap.size + 1, 1, none⟩ (.int .u64 q)).setCell ⟨w.heap.size + 1, 2, none⟩ (.int .i64 0)) (w.heap.size + 1) 49 [.int .i64 1, .int .u64 q, .int .i64 0]) := hide_ (wr3 (K24.out.other _ _ (by show w.heap.size + 1 ≠ w.heap.size + 2; omega)) _ _ _)
  have HBf : Hid (Below w.heap.size w ((((w4.setCell ⟨w.heap.size + 2, 1, none⟩ (.int .u64 q)).setCell ⟨w.heap.size + 1, 0, none⟩ (.int .i64 1)).setCell ⟨w.heap.size + 1, 1, none⟩ (.int .u64 q)).setCell ⟨w.heap.size + 1, 2, none⟩ (.int .i64 0))) := hide_ (below_wr3 (below_set HB4.out _ _ _ (by omega)) _ (by omega) _ _ _)
  go_wp2
  refine retN rfl rfl HK.out ⟨by rw [HV.out]; rfl, HBf.out⟩
set_option maxRecDepth 100000 in
set_option maxHeartbeats 4000000 in
theorem picked7_any (p n el : Int) (ps : List Pt) (va : Option Addr) (vc : Nat) (w : World) (hp : 0 ≤ p ∧ p < 18446744073709551616) (hl : 0 < ps.length ∧ ps.length ≤ 64) (htg : Hid (∀ q ∈ ps, 0 ≤ q.tag ∧ q.tag ≤ 255)) (hr : Hid (PRow w va ps)) (ht : Hid (Tab w)) :
    Calls Tryd.prog 30 #[.agg #[.int .i64 7, .int .i64 n, .int .i64 el, .slice va ps.length vc], .int .u64 p] w fun e w' => e = .returned (nvv (pickP ⟨7, n, el, ps⟩ p)) ∧ Below w.heap.size w w' := by
  obtain ⟨w1, hw1⟩ : ∃ wx, wx = w.alloc (.cells #[.int .i64 7, .int .i64 n, .int .i64 el, .slice va ps.length vc] 64) := ⟨_, rfl⟩
  have b1 : Below w.heap.size w w1 := by rw [hw1]; exact below1 _ _
  have k1 : Blk w1 w.heap.size 64 [.int .i64 7, .int .i64 n, .int .i64 el, .slice va ps.length vc] := by rw [hw1]; exact Blk.newA w _ _
  have s1 : w1.heap.size = w.heap.size + 1 := by rw [hw1]; simp
  obtain ⟨w2, hw2⟩ : ∃ wx, wx = w1.alloc (.cells #[.int .i64 0, .int .u64 0, .int .i64 0] 49) := ⟨_, rfl⟩
  have b2 : Below w1.heap.size w1 w2 := by rw [hw2]; exact below1 _ _
  have k2 : Blk w2 w1.heap.size 49 [.int .i64 0, .int .u64 0, .int .i64 0] := by rw [hw2]; exact Blk.newA w1 _ _
  have s2 : w2.heap.size = w.heap.size + 2 := by rw [hw2]; simp [s1]
  obtain ⟨w3, hw3⟩ : ∃ wx, wx = w2.alloc (.cells #[.int .i64 6, .int .u64 0, .int .i64 0] 49) := ⟨_, rfl⟩
  have b3 : Below w2.heap.size w2 w3 := by rw [hw3]; exact below1 _ _
  have k3 : Blk w3 w2.heap.size 49 [.int .i64 6, .int .u64 0, .int .i64 0] := by rw [hw3]; exact Blk.newA w2 _ _
  rw [s1] at k2
  rw [s2] at k3
  have HS2 := hide_ s2
  clear s1 s2
  have HB := hide_ (below_to (below_to b1 b2) b3)
  have K1 := hide_ ((k1.later b2).later b3)
  have K2 := hide_ (k2.later b3)
  have K3 := hide_ k3
  have tk := (ht.out.later (below_to b1 b2)).is 7 (by decide)
  simp [nkT] at tk
  have a0 := (k1.later b2).cell 0
  simp at a0
  have i0 := K1.out.cell 0; have i1 := K1.out.cell 1; have i2 := K1.out.cell 2; have i3 := K1.out.cell 3
  have j0 := K2.out.cell 0; have j1 := K2.out.cell 1; have j2 := K2.out.cell 2
  have q0 := K3.out.cell 0; have q1 := K3.out.cell 1; have q2 := K3.out.cell 2
  simp at i0 i1 i2 i3 j0 j1 j2 q0 q1 q2
  have f2 := fun i => K2.out.frozen i
  have f3 := fun i => K3.out.frozen i
  have HR := hide_ (hr.out.later HB.out)
  clear b1 b2 b3 k1 k2 k3
  go_enter Tryd.func30, Tryd.ntmps30
  go_upto_region 1 with fail
  rw [← hw1, ← hw2]
  clear hw1 hw2
  go_upto_region 2 with fail
  rw [← hw3, HS2.out]
  clear hw3 a0 tk
  obtain ⟨b, off, rfl, hb, hc⟩ := HR.out.open (by omega)
  have hL : (0 : Int) < ps.length := by omega
  have hlt1 : 0 ≤ p % (ps.length : Int) := Int.emod_nonneg _ (by omega)
  have hlt2 : p % (ps.length : Int) < ps.length := Int.emod_lt_of_pos _ (by omega)
  have hm : Int.tmod p (ps.length : Int) = p % (ps.length : Int) := Int.tmod_eq_emod_of_nonneg hp.1
  have HV : Hid (pickP ⟨7, n, el, ps⟩ p = ⟨6, (ps.getD (p % (ps.length : Int)).toNat pt0).tag, 1⟩) := hide_ (by simp [pickP])
  obtain ⟨m, hmm⟩ := Int.eq_ofNat_of_zero_le hlt1
  have hml : m < ps.length := by omega
  have hx : ps[m]? = some (ps[m]'hml) := List.getElem?_eq_getElem hml
  have hxe : ps.getD m pt0 = ps[m]'hml := by simp [List.getD, hml]
  have c1 := hc m _ hx 1 (by decide)
  simp only [ptc, List.getElem?_cons_succ, List.getElem?_cons_zero] at c1
  have htm := htg.out _ (List.getElem_mem hml)
  rw [hmm, Int.toNat_natCast, hxe] at HV
  rw [hmm] at hm
  generalize (ps[m]'hml).tag = tg at *
  have hu : IntKind.u64.wrap (ps.length : Int) = (ps.length : Int) := by rw [IntKind.wrap_u64]; omega
  have hut : IntKind.u64.wrap tg = tg := by rw [IntKind.wrap_u64]; omega
  have hz : ((ps.length : Int) == 0) = false := by simp; intro h; rw [h] at hl; simp at hl
  have hml' : (m : Int) < ps.length := by omega
  have HW : Hid (∀ w4, (w4 = (w3.setCell ⟨w.heap.size + 2, 1, none⟩ (.int .u64 tg)).setCell ⟨w.heap.size + 2, 2, none⟩ (.int .i64 1) ∨ w4 = (w3.setCell ⟨w.heap.size + 2, 2, none⟩ (.int .i64 1)).setCell ⟨w.heap.size + 2, 1, none⟩ (.int .u64 tg)) → Blk w4 (w.heap.size + 1) 49 [.int .i64 0, .int .u64 0, .int .i64 0] ∧ Blk w4 (w.heap.size + 2) 49 [.int .i64 6, .int .u64 tg, .int .i64 1] ∧ Below w.heap.size w w4) := hide_ (fun w4 h => by
    rcases h with rfl | rfl
    · refine ⟨(K2.out.other _ _ (by show w.heap.size + 1 ≠ w.heap.size + 2; omega)).other _ _ (by show w.heap.size + 1 ≠ w.heap.size + 2; omega), ?_, below_set (below_set HB.out _ _ _ (by omega)) _ _ _ (by omega)⟩
      have h := (K3.out.set 1 (.int .u64 tg)).set 2 (.int .i64 1)
      simpa using h
    · refine ⟨(K2.out.other _ _ (by show w.heap.size + 1 ≠ w.heap.size + 2; omega)).other _ _ (by show w.heap.size + 1 ≠ w.heap.size + 2; omega), ?_, below_set (below_set HB.out _ _ _ (by omega)) _ _ _ (by omega)⟩
      have h := (K3.out.set 2 (.int .i64 1)).set 1 (.int .u64 tg)
      simpa using h)
  clear hc hx hxe hmm hlt1 hlt2
  go_wp2_with fail
  go_region
  obtain ⟨k24, k34, hB4⟩ := HW.out _ (.inl rfl)
  obtain ⟨w4, hw4⟩ : ∃ w4, w4 = ((w3.setCell ⟨w.heap.size + 2, 1, none⟩ (.int .u64 tg)).setCell ⟨w.heap.size + 2, 2, none⟩ (.int .i64 1)).drew := ⟨_, rfl⟩
  have K24 : Hid (Blk w4 (w.heap.size + 1) 49 [.int .i64 0, .int .u64 0, .int .i64 0]) := hide_ (by rw [hw4]; exact k24)
  have K34 : Hid (Blk w4 (w.heap.size + 2) 49 [.int .i64 6, .int .u64 tg, .int .i64 1]) := hide_ (by rw [hw4]; exact k34)
  have HB4 : Hid (Below w.heap.size w w4) := hide_ (by rw [hw4]; exact hB4.drew)
  rw [← hw4]
  clear k24 k34 hB4 hw4 HW q0 q1 q2 i0 i1 i2 i3 j0 j1 j2 f2 f3 c1
  have j0 := K24.out.cell 0; have j1 := K24.out.cell 1; have j2 := K24.out.cell 2
  have q0 := K34.out.cell 0; have q1 := K34.out.cell 1; have q2 := K34.out.cell 2
  simp at j0 j1 j2 q0 q1 q2
  have f2 := fun i => K24.out.frozen i
  have f3 := fun i => K34.out.frozen i
  have HK := hide_ (wr3 K24.out (.int .i64 6) (.int .u64 tg) (.int .i64 1))
  have HBf := hide_ (below_wr3 HB4.out (w.heap.size + 1) (by omega) (.int .i64 6) (.int .u64 tg) (.int .i64 1))
  go_wp2
  refine retN rfl rfl HK.out ⟨by rw [HV.out]; rfl, HBf.out⟩
theorem picked_any (p k n el : Int) (ps : List Pt) (va : Option Addr) (vc : Nat) (i : Int) (w : World) (hp : 0 ≤ p ∧ p < 18446744073709551616) (hok : Hid (tyOk ⟨k, n, el, ps⟩ i = true)) (hr : Hid (PRow w va ps)) (ht : Hid (Tab w)) :
    Calls Tryd.prog 30 #[.agg #[.int .i64 k, .int .i64 n, .int .i64 el, .slice va ps.length vc], .int .u64 p] w fun e w' => e = .returned (nvv (pickP ⟨k, n, el, ps⟩ p)) ∧ Below w.heap.size w w' := by
  have hk := tyOk_kind hok.out
  have hps := tyOk_len hok.out
  have h1 := (tyOk_parts hok.out).1
  simp only [nOk] at h1
  have h2 := of_decide_eq_true h1
  have h7 := tyOk_some hok.out
  simp only at hk hps h7
  rcases hk with rfl | rfl | rfl | rfl | rfl | rfl | rfl | rfl
  · exact picked1_any p n el ps va vc w hp (by omega) ht
  · exact picked2_any p n el ps va vc w hp ht
  · exact picked3_any p n el ps va vc w hp ht
  · exact picked4_any p n el ps va vc w hp ht
  · exact picked5_any p n el ps va vc w hp (by omega) ht
  · exact picked6_any p n el ps va vc w hp ht
  · exact picked7_any p n el ps va vc w hp ⟨h7 (by simp), by omega⟩ (hide_ (tyOk_tags hok.out)) hr ht
  · exact picked8_any p n el ps va vc w hp ht
end Go.Proofs.YtlfjcihhcphjkaaDoor
