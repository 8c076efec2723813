/- adopt: a kid that comes in order. -/
import Derived.Test.YtlbgdgobhiokpaaDoorZa
import Derived.BigRegion
namespace Go.Proofs.YtlbgdgobhiokpaaDoor
open Go.RowKit
set_option linter.unusedVariables false

theorem Ar.drewN {B b : Nat} {w : World} {vn vs : Value} {N : List Nd} {S : Stk} (h : Ar B w b vn vs N S) (q : Nat) : Ar B (w.drewN q) b vn vs N S := ⟨h.blk, h.hb, h.nod, h.spo⟩
theorem KeptA.drewN {B : Nat} {w w1 : World} (h : KeptA B w w1) (n : Nat) : KeptA B w (w1.drewN n) := ⟨⟨h.bel.os, h.bel.tape, h.bel.output, h.bel.size, h.bel.block⟩, h.oth⟩
set_option maxRecDepth 100000 in
set_option maxHeartbeats 8000000 in
theorem adopt_any (B b o : Nat) (vn vs : Value) (N : List Nd) (S : Stk) (w : World) (hA : Hid (Ar B w b vn vs N S)) (hN : N.length ≤ 1000000) (ho : o < N.length) (hk : 0 ≤ (N.getD o nil0).2.2 ∧ (N.getD o nil0).2.2 ≤ 2000000) :
    Calls Tryd.prog 46 #[.pointer (some ⟨b, 0, none⟩), spotv (o : Int) (N.getD o nil0).2.2] w fun e w' => e = .returned (.tuple #[]) ∧ Hid (Ar B w' b vn vs (incK N o) S) ∧ Hid (KeptA B w w') := by
  unfold spotv
  obtain ⟨xc, hxc⟩ : ∃ xc, (N.getD o nil0).2.2 = xc := ⟨_, rfl⟩
  rw [hxc] at hk ⊢
  obtain ⟨wB, hwB⟩ : ∃ wB, wB = w.alloc (.cells #[.int .i64 (o : Int), .int .i64 xc] 103) := ⟨_, rfl⟩
  have HBB : Hid (Below w.heap.size w wB) := by rw [hwB]; exact (Below.refl _ _).alloc (Nat.le_refl _) _
  have KB : Hid (Blk wB w.heap.size 103 [.int .i64 (o : Int), .int .i64 xc]) := by rw [hwB]; exact Blk.newA w _ 103
  have HA : Hid (Ar B wB b vn vs N S) := hA.out.later HBB.out
  have HK : Hid (KeptA B w wB) := KeptA.of_below hA.out.base HBB.out
  have c0 := HA.out.c0; have c2 := HA.out.c2
  have s0 : wB.cell? ⟨w.heap.size, 0, none⟩ = some (.int .i64 (o : Int)) := KB.out.cell 0
  have s1 : wB.cell? ⟨w.heap.size, 1, none⟩ = some (.int .i64 xc) := KB.out.cell 1
  obtain ⟨gn, cn, hvn, bn, hn1, hn2, hgn, n0, n1, n2, zn, hKn⟩ := HA.out.node ho
  rw [hxc] at n2
  have HI : Hid (∀ q, Ar B ((wB.drewN q).setCell ⟨gn, o * 3 + 2, none⟩ (.int .i64 (xc + 1))) b vn vs (incK N o) S ∧ KeptA B (wB.drewN q) ((wB.drewN q).setCell ⟨gn, o * 3 + 2, none⟩ (.int .i64 (xc + 1))) ∧ Blk ((wB.drewN q).setCell ⟨gn, o * 3 + 2, none⟩ (.int .i64 (xc + 1))) w.heap.size 103 [.int .i64 (o : Int), .int .i64 xc] ∧ ((wB.drewN q).setCell ⟨gn, o * 3 + 2, none⟩ (.int .i64 (xc + 1))).cell? ⟨gn, o * 3 + 2, none⟩ = some (.int .i64 (xc + 1))) := fun q => by
    obtain ⟨h1, h2⟩ := (HA.out.drewN q).inc ho hvn
    rw [hxc] at h1 h2
    refine ⟨h1, h2, KB.out.other _ _ fun e => ?_, World.cell?_setCell_same _ _ _ (show (wB.drewN q).cell? _ = _ from n2)⟩
    obtain ⟨ys, hy⟩ := hKn
    have e2 : w.heap.size = gn := e
    rw [← e2] at hy
    exact absurd (blk_type KB.out hy) (by decide)
  subst hvn
  unfold maxLen at hn2
  have ho' : (o : Int) < N.length := by omega
  clear hKn n0 n1 bn
  go_enter Tryd.func46, Tryd.ntmps46
  go_upto_region 1 with fail
  rw [← hwB]
  clear hwB hA HBB
  go_wp2_with fail
  go_quiet (fail)
  go_wp2_with fail
  go_quiet (fail)
  go_wp2_with fail
  go_loopw [] (fun wr => Hid (Ar B wr b (.slice (some ⟨gn, 0, none⟩) N.length cn) vs (incK N o) S) ∧ Hid (KeptA B w wr) ∧ Hid (Blk wr w.heap.size 103 [.int .i64 (o : Int), .int .i64 xc]) ∧ Hid (wr.cell? ⟨gn, o * 3 + 2, none⟩ = some (.int .i64 (xc + 1)))) (fun _ => 0)
  case atStart => exact ⟨(HI.out _).1, (HK.out.drewN _).trans (HI.out _).2.1, (HI.out _).2.2.1, (HI.out _).2.2.2⟩
  case round =>
    clear c0 c2 s0 s1 n2 zn HA HK KB HI hgn
    obtain ⟨HA, HK, KB, HN⟩ := hrel
    have c2 := HA.out.c2
    have s0 : wr.cell? ⟨w.heap.size, 0, none⟩ = some (.int .i64 (o : Int)) := KB.out.cell 0
    have n2 := HN.out
    have hsl := KB.out.lt
    have hgn := World.block_lt_of_cell? wr _ n2
    have hbl := HA.out.blk.lt
    have HS : Hid (∀ ob, (wr.alloc ob).cell? ⟨w.heap.size, 0, none⟩ = some (.int .i64 (o : Int)) ∧ (wr.alloc ob).cell? ⟨gn, o * 3 + 2, none⟩ = some (.int .i64 (xc + 1))) := fun ob => ⟨(cell_alloc wr ob _ _ hsl).trans s0, (cell_alloc wr ob _ _ hgn).trans n2⟩
    go_wp2_with fail
    go_region_held_law (fun w' => w'.cell? ⟨w.heap.size, 0, none⟩ = some (.int .i64 (o : Int)) ∧ w'.cell? ⟨gn, o * 3 + 2, none⟩ = some (.int .i64 (xc + 1))) (first | assumption | exact ⟨s0, n2⟩ | exact HS.out _) (fail)
    obtain ⟨wz, hwz⟩ : ∃ wz, wz = (wr.alloc (.cells #[.int .i64 (o : Int), .int .i64 (xc + 1)] 103)).drew := ⟨_, rfl⟩
    have hBz : Below wr.heap.size wr wz := by rw [hwz]; exact ((Below.refl _ _).alloc (Nat.le_refl _) _).drew
    have HAz : Hid (Ar B wz b (.slice (some ⟨gn, 0, none⟩) N.length cn) vs (incK N o) S) := HA.out.later hBz
    have HKz : Hid (KeptA B w wz) := HK.out.trans (KeptA.of_below HA.out.base hBz)
    have t0 : wz.cell? ⟨wr.heap.size, 0, none⟩ = some (.int .i64 (o : Int)) := by rw [hwz]; exact (Blk.newA wr _ 103).cell 0
    have t1 : wz.cell? ⟨wr.heap.size, 1, none⟩ = some (.int .i64 (xc + 1)) := by rw [hwz]; exact (Blk.newA wr _ 103).cell 1
    have htl : wr.heap.size < wz.heap.size := World.block_lt_of_cell? wz _ t0
    have z4 := HAz.out.c2
    rw [← hwz]
    clear hwz HS s0 n2 c2 HA HK KB HN hBz
    have hlook := look103 (o : Int) (xc + 1)
    have HS2 : Hid (∀ ob, (wz.alloc ob).cell? ⟨b, 2, none⟩ = some (.map none) ∧ (wz.alloc ob).cell? ⟨wr.heap.size, 0, none⟩ = some (.int .i64 (o : Int)) ∧ (wz.alloc ob).cell? ⟨wr.heap.size, 1, none⟩ = some (.int .i64 (xc + 1))) := fun ob => ⟨(HAz.out.blk.alloc ob).cell 2, (cell_alloc wz ob _ _ htl).trans t0, (cell_alloc wz ob _ _ htl).trans t1⟩
    go_wp2_with fail
    go_region_held_law (fun w' => w'.cell? ⟨b, 2, none⟩ = some (.map none) ∧ w'.cell? ⟨wr.heap.size, 0, none⟩ = some (.int .i64 (o : Int)) ∧ w'.cell? ⟨wr.heap.size, 1, none⟩ = some (.int .i64 (xc + 1))) (first | assumption | exact ⟨z4, t0, t1⟩ | exact HS2.out _) (fail)
    all_goals
      go_wp2
      have hB3 : Below wz.heap.size wz (wz.alloc (.cells #[] 125)).drew := ((Below.refl _ _).alloc (Nat.le_refl _) _).drew
      exact bodyPost_ret (results_none rfl _ _ _) rfl ⟨rfl, HAz.out.later hB3, HKz.out.trans (KeptA.of_below HAz.out.base hB3)⟩
end Go.Proofs.YtlbgdgobhiokpaaDoor
