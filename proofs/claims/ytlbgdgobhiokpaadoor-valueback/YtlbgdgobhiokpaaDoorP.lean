/- add, end, enter. -/
import Derived.Test.YtlbgdgobhiokpaaDoorO
import Derived.BigRegion
namespace Go.Proofs.YtlbgdgobhiokpaaDoor
open Go.RowKit
set_option linter.unusedVariables false

set_option maxRecDepth 100000 in
set_option maxHeartbeats 8000000 in
theorem add_any (B b p : Nat) (k n : Int) (s : ByteArray) (vn vo : Value) (N : List Nd) (O : List Nat) (en : Bool) (w : World) (hR : Hid (Rdr B w b s p vn vo N O en)) (hO : ∀ o ∈ O, o < N.length) (hN : N.length ≤ 2000000) (hOl : O.length ≤ 2000000) (hc : ∀ o, 0 ≤ (N.getD o nil0).2.2 ∧ (N.getD o nil0).2.2 ≤ 2000000) :
    Calls Tryd.prog 82 #[.pointer (some ⟨b, 0, none⟩), .int .i64 k, .int .u64 n] w fun e w' => e = .returned (.tuple #[]) ∧ ∃ vn', Hid (Rdr B w' b s p vn' vo (addN N O k n) O en) ∧ Hid (KeptR B w w') := by
  have c2 := hR.out.c2; have c3 := hR.out.c3
  cases O with
  | nil =>
    obtain ⟨a, c, rfl⟩ := hR.out.vo_nil
    obtain ⟨g', cap', w', r1, k2, z2, hR', hK'⟩ := hR.out.push k n hN
    have R1 : Hid _ := r1
    have HR : Hid _ := hR'
    have HK : Hid _ := hK'
    clear r1 hR' hK'
    go_enter Tryd.func82, Tryd.ntmps82
    go_wp2_with (at_builtin; have _t := R1; refine wpList_append_run rfl (.tmp 38) (.tmp 42) 22 22 rfl rfl rfl R1.out ?_; clear R1)
    go_end0
    exact ⟨rfl, _, HR, HK⟩
  | cons o O =>
    obtain ⟨go, co, rfl, bo, ho1, ho2, k0, hgo, -⟩ := hR.out.top
    have hoN : o < N.length := hO o (by simp)
    obtain ⟨gn, cn, hvn, bn, hn1, hn2, hgn, n0, n1, n2, zn, -⟩ := hR.out.node hoN
    obtain ⟨hI, hKI⟩ := hR.out.inc hoN hvn
    have hlen : (incK N o).length = N.length := by simp [incK]
    obtain ⟨g', cap', w', r1, k2, z2, hR', hK'⟩ := Rdr.push (w := (w.setCell ⟨gn, o * 3 + 2, none⟩ (.int .i64 ((N.getD o nil0).2.2 + 1))).drew) hI.drew k n (by omega)
    have hcI3 := hI.c3
    have hcIo : (w.setCell ⟨gn, o * 3 + 2, none⟩ (.int .i64 ((N.getD o nil0).2.2 + 1))).cell? ⟨go, O.length, none⟩ = some (.int .i64 (o : Int)) := by
      obtain ⟨go', co', e1, -, -, -, k1, -⟩ := hI.top
      have e2 : go = go' ∧ co = co' := by simpa using e1
      obtain ⟨rfl, rfl⟩ := e2
      exact k1
    have cI : (w.setCell ⟨gn, o * 3 + 2, none⟩ (.int .i64 ((N.getD o nil0).2.2 + 1))).cell? ⟨b, 2, none⟩ = some vn := hI.c2
    subst hvn
    unfold maxLen at ho2 hn2
    have hsz : (w.setCell ⟨gn, o * 3 + 2, none⟩ (.int .i64 ((N.getD o nil0).2.2 + 1))).drew.heap.size = w.heap.size := World.size_setCell _ _ _
    rw [hsz, hlen] at r1
    have R1 : Hid ((Builtin.append_ #[22, 22] 22 #[.slice (some ⟨gn, 0, none⟩) N.length cn, .slice (some ⟨w.heap.size, 0, none⟩) 1 1]).run Tryd.prog ((w.setCell ⟨gn, o * 3 + 2, none⟩ (.int .i64 ((N.getD o nil0).2.2 + 1))).alloc (.cells #[.int .i64 k, .int .u64 n, .int .i64 0] 37)).drew = .ok (.slice (some ⟨g', 0, none⟩) (N.length + 1) cap') w') := r1
    rw [hlen] at hR' hK'
    have HR : Hid (Rdr B _ b s p _ _ (addN N (o :: O) k n) (o :: O) en) := hR'
    have HK : Hid (KeptR B w _) := hKI.drew.trans hK'
    have hcc := hc o
    generalize (N.getD o nil0).1 = xk at *
    generalize (N.getD o nil0).2.1 = xn at *
    generalize (N.getD o nil0).2.2 = xc at *
    clear r1 hR' hK' hI hKI hO hc hlen hsz
    have hoN' : (o : Int) < N.length := by omega
    have hOl2 : O.length ≤ 2000000 := by simp at hOl; omega
    have hw1 : IntKind.i64.wrap (O.length : Int) = O.length := i64w _ (by omega)
    have hw2 : IntKind.i64.wrap ((O.length : Int) + 1 - 1) = O.length := by rw [i64w _ (by omega)]; omega
    have hw3 : (O.length : Int) < O.length + 1 := by omega
    have hw4 : IntKind.i64.wrap (xc + 1) = xc + 1 := i64w _ (by omega)
    go_enter Tryd.func82, Tryd.ntmps82
    go_wp2_with fail
    go_region
    clear n0 n1 n2 zn k0 c2 c3 hw1 hw2 hw3 hw4 hcI3 hcIo
    go_wp2_with (at_builtin; have _t := R1; refine wpList_append_run rfl (.tmp 38) (.tmp 42) 22 22 rfl rfl rfl R1.out ?_; clear R1)
    go_end0
    exact ⟨rfl, _, HR, HK⟩
end Go.Proofs.YtlbgdgobhiokpaaDoor
