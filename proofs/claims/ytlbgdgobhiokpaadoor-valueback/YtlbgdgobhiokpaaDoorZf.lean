/- The kids' table of one small arena. -/
import Derived.Test.YtlbgdgobhiokpaaDoorZe
import Derived.BigRegion
namespace Go.Proofs.YtlbgdgobhiokpaaDoor
open Go.RowKit
set_option linter.unusedVariables false

set_option maxRecDepth 100000 in
set_option maxHeartbeats 8000000 in
theorem kids2 (b gn cn gs cs : Nat) (w : World) (hA : Hid (A2 w b gn cn gs cs)) : Calls Tryd.prog 48 #[.pointer (some ⟨b, 0, none⟩)] w fun e w' => e = .returned (.slice (some ⟨w.heap.size + 1, 0, none⟩) 2 2) ∧
    (∃ v, Hid (Blk w' (w.heap.size + 1) 43 [.slice (some ⟨w.heap.size, 0, none⟩) 1 1, v])) ∧ Hid (Blk w' w.heap.size 3 [.int .i64 1]) ∧ Below w.heap.size w w' := by
  have c0 := hA.out.c0; have c1 := hA.out.c1; have n0 := hA.out.n0; have n1 := hA.out.n1; have n2 := hA.out.n2
  have hcn := hA.out.hcn; have hcs := hA.out.hcs
  have hmk1 := mk43; have hmk2 := mk68
  have c0a : ∀ o1, (w.alloc o1).cell? ⟨b, 0, none⟩ = some (.slice (some ⟨gn, 0, none⟩) 2 cn) := fun o1 => (cell_alloc w o1 _ _ hA.out.hb).trans c0
  have c0b : ∀ o1 o2, ((w.alloc o1).alloc o2).cell? ⟨b, 0, none⟩ = some (.slice (some ⟨gn, 0, none⟩) 2 cn) := fun o1 o2 => (cell_alloc _ o2 _ _ (by have := hA.out.hb; simp; omega)).trans (c0a o1)
  obtain ⟨wk, hwk⟩ : ∃ wk, wk = (w.alloc (.cells #[.int .i64 0] 3)).alloc (.cells #[.slice none 0 0, .slice none 0 0] 43) := ⟨_, rfl⟩
  have KR : Hid (Blk wk w.heap.size 3 [.int .i64 0]) := by rw [hwk]; exact (Blk.newA w _ 3).alloc _
  have KT : Hid (Blk wk (w.heap.size + 1) 43 [.slice none 0 0, .slice none 0 0]) := by
    rw [hwk]
    have := Blk.newA (w.alloc (.cells #[.int .i64 0] 3)) #[.slice none 0 0, .slice none 0 0] 43
    show Blk _ _ _ _
    simpa using this
  have HBk : Hid (Below w.heap.size w wk) := by rw [hwk]; exact ((Below.refl _ _).alloc (Nat.le_refl _) _).alloc (by simp) _
  have hAk : Hid (A2 wk b gn cn gs cs) := hA.out.later HBk.out
  go_enter Tryd.func48, Tryd.ntmps48
  go_upto_region 3 with fail
  rw [← hwk]
  have hA0 : Hid (A2 w b gn cn gs cs) := hA
  clear hwk c0 c1 n0 n1 n2 c0a c0b hmk1 hmk2 hA
  have c0 := hAk.out.c0; have n0 := hAk.out.n0; have n1 := hAk.out.n1; have n2 := hAk.out.n2
  go_wp2_with fail
  refine wp_unroll 3 ?_
  unfold unr
  obtain ⟨w1, hw1⟩ : ∃ w1, w1 = wk.alloc (.cells #[.int .i64 3, .int .u64 0, .int .i64 1] 37) := ⟨_, rfl⟩
  have hB1 : Below wk.heap.size wk w1 := by rw [hw1]; exact (Below.refl _ _).alloc (Nat.le_refl _) _
  have KR1 : Hid (Blk w1 w.heap.size 3 [.int .i64 0]) := KR.out.later hB1
  have KT1 : Hid (Blk w1 (w.heap.size + 1) 43 [.slice none 0 0, .slice none 0 0]) := KT.out.later hB1
  have HBw1 : Hid (Below w.heap.size w w1) := HBk.out.trans (hB1.mono HBk.out.size)
  have hA1 : Hid (A2 w1 b gn cn gs cs) := hAk.out.later hB1
  have x2 : w1.cell? ⟨wk.heap.size, 2, none⟩ = some (.int .i64 1) := by rw [hw1]; exact (Blk.newA wk _ 37).cell 2
  have t0 : w1.cell? ⟨w.heap.size + 1, 0, none⟩ = some (.slice none 0 0) := KT1.out.cell 0
  have z0 := KT1.out.frozen 0
  go_upto_region 6 with fail
  rw [← hw1]
  clear hw1 hB1 KR KT HBk hAk c0 n0 n1 n2
  go_region
  obtain ⟨w2, hw2⟩ : ∃ w2, w2 = (w1.setCell ⟨w.heap.size + 1, 0, none⟩ (.slice (some ⟨w.heap.size, 0, none⟩) 1 1)).drew := ⟨_, rfl⟩
  have KR2 : Hid (Blk w2 w.heap.size 3 [.int .i64 0]) := by rw [hw2]; exact (KR1.out.other _ _ (by simp)).drew
  have KT2 : Hid (Blk w2 (w.heap.size + 1) 43 [.slice (some ⟨w.heap.size, 0, none⟩) 1 1, .slice none 0 0]) := by rw [hw2]; exact (KT1.out.set 0 _).drew
  have HBw2 : Hid (Below w.heap.size w w2) := by rw [hw2]; exact (HBw1.out.setCell (by simp) _).drew
  have hA2 : Hid (A2 w2 b gn cn gs cs) := hA0.out.later HBw2.out
  rw [← hw2]
  clear hw2 KR1 KT1 HBw1 hA1 x2 t0 z0
  have n3 := hA2.out.n3; have n4 := hA2.out.n4; have n5 := hA2.out.n5
  go_wp2_with fail
  unfold unr
  obtain ⟨w3, hw3⟩ : ∃ w3, w3 = w2.alloc (.cells #[.int .i64 1, .int .u64 9, .int .i64 0] 37) := ⟨_, rfl⟩
  have hB3 : Below w2.heap.size w2 w3 := by rw [hw3]; exact (Below.refl _ _).alloc (Nat.le_refl _) _
  have KR3 : Hid (Blk w3 w.heap.size 3 [.int .i64 0]) := KR2.out.later hB3
  have KT3 : Hid (Blk w3 (w.heap.size + 1) 43 [.slice (some ⟨w.heap.size, 0, none⟩) 1 1, .slice none 0 0]) := KT2.out.later hB3
  have HBw3 : Hid (Below w.heap.size w w3) := HBw2.out.trans (hB3.mono HBw2.out.size)
  have x2 : w3.cell? ⟨w2.heap.size, 2, none⟩ = some (.int .i64 0) := by rw [hw3]; exact (Blk.newA w2 _ 37).cell 2
  have t1 : w3.cell? ⟨w.heap.size + 1, 1, none⟩ = some (.slice none 0 0) := KT3.out.cell 1
  have z1 := KT3.out.frozen 1
  go_upto_region 6 with fail
  rw [← hw3]
  clear hw3 hB3 KR2 KT2 HBw2 hA2 n3 n4 n5
  go_region
  obtain ⟨w4, hw4⟩ : ∃ w4, w4 = (w3.setCell ⟨w.heap.size + 1, 1, none⟩ (.slice (some ⟨w.heap.size, 0, none⟩) 0 0)).drew := ⟨_, rfl⟩
  have KR4 : Hid (Blk w4 w.heap.size 3 [.int .i64 0]) := by rw [hw4]; exact (KR3.out.other _ _ (by simp)).drew
  have KT4 : Hid (Blk w4 (w.heap.size + 1) 43 [.slice (some ⟨w.heap.size, 0, none⟩) 1 1, .slice (some ⟨w.heap.size, 0, none⟩) 0 0]) := by rw [hw4]; exact (KT3.out.set 1 _).drew
  have HBw4 : Hid (Below w.heap.size w w4) := by rw [hw4]; exact (HBw3.out.setCell (by simp) _).drew
  have hA4 : Hid (A2 w4 b gn cn gs cs) := hA0.out.later HBw4.out
  rw [← hw4]
  clear hw4 KR3 KT3 HBw3 x2 t1 z1
  have c1 := hA4.out.c1; have s0 := hA4.out.s0; have s1 := hA4.out.s1
  go_wp2_with fail
  unfold unr
  go_wp2_with fail
  refine wp_unroll 3 ?_
  unfold unr
  go_wp2_with fail
  unfold unr
  obtain ⟨w5, hw5⟩ : ∃ w5, w5 = w4.alloc (.cells #[.int .i64 (-1), .int .i64 0] 103) := ⟨_, rfl⟩
  have hB5 : Below w4.heap.size w4 w5 := by rw [hw5]; exact (Below.refl _ _).alloc (Nat.le_refl _) _
  have KR5 : Hid (Blk w5 w.heap.size 3 [.int .i64 0]) := KR4.out.later hB5
  have KT5 : Hid (Blk w5 (w.heap.size + 1) 43 [.slice (some ⟨w.heap.size, 0, none⟩) 1 1, .slice (some ⟨w.heap.size, 0, none⟩) 0 0]) := KT4.out.later hB5
  have HBw5 : Hid (Below w.heap.size w w5) := HBw4.out.trans (hB5.mono HBw4.out.size)
  have hA5 : Hid (A2 w5 b gn cn gs cs) := hA0.out.later HBw5.out
  rw [← hw5]
  clear hw5 hB5 KR4 KT4 HBw4 hA4 c1 s0 s1
  have s2 := hA5.out.s2; have s3 := hA5.out.s3
  obtain ⟨w6, hw6⟩ : ∃ w6, w6 = w5.alloc (.cells #[.int .i64 0, .int .i64 0] 103) := ⟨_, rfl⟩
  have hB6 : Below w5.heap.size w5 w6 := by rw [hw6]; exact (Below.refl _ _).alloc (Nat.le_refl _) _
  have KR6 : Hid (Blk w6 w.heap.size 3 [.int .i64 0]) := KR5.out.later hB6
  have KT6 : Hid (Blk w6 (w.heap.size + 1) 43 [.slice (some ⟨w.heap.size, 0, none⟩) 1 1, .slice (some ⟨w.heap.size, 0, none⟩) 0 0]) := KT5.out.later hB6
  have HBw6 : Hid (Below w.heap.size w w6) := HBw5.out.trans (hB6.mono HBw5.out.size)
  have y0 : w6.cell? ⟨w5.heap.size, 0, none⟩ = some (.int .i64 0) := by rw [hw6]; exact (Blk.newA w5 _ 103).cell 0
  have y1 : w6.cell? ⟨w5.heap.size, 1, none⟩ = some (.int .i64 0) := by rw [hw6]; exact (Blk.newA w5 _ 103).cell 1
  have t0 : w6.cell? ⟨w.heap.size + 1, 0, none⟩ = some (.slice (some ⟨w.heap.size, 0, none⟩) 1 1) := KT6.out.cell 0
  have r0 : w6.cell? ⟨w.heap.size, 0, none⟩ = some (.int .i64 0) := KR6.out.cell 0
  have z0 := KR6.out.frozen 0
  go_upto_region 12 with fail
  rw [← hw6]
  clear hw6 hB6 KR5 KT5 HBw5 hA5 s2 s3
  go_region
  obtain ⟨w7, hw7⟩ : ∃ w7, w7 = (w6.setCell ⟨w.heap.size, 0, none⟩ (.int .i64 1)).drew := ⟨_, rfl⟩
  have KR7 : Hid (Blk w7 w.heap.size 3 [.int .i64 1]) := by rw [hw7]; exact (KR6.out.set 0 _).drew
  have KT7 : Hid (Blk w7 (w.heap.size + 1) 43 [.slice (some ⟨w.heap.size, 0, none⟩) 1 1, .slice (some ⟨w.heap.size, 0, none⟩) 0 0]) := by rw [hw7]; exact (KT6.out.other _ _ (by simp)).drew
  have HBw7 : Hid (Below w.heap.size w w7) := by rw [hw7]; exact (HBw6.out.setCell (by simp) _).drew
  rw [← hw7]
  clear hw7 KR6 KT6 HBw6 y0 y1 t0 r0 z0
  go_wp2_with fail
  unfold unr
  go_wp2
  go_ret
  exact ⟨rfl, ⟨_, KT7⟩, KR7, HBw7.out⟩
end Go.Proofs.YtlbgdgobhiokpaaDoor
