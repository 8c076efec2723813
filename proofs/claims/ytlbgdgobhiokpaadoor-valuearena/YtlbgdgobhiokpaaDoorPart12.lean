import Derived.Test.YtlbgdgobhiokpaaDoorPart11
import Derived.BigRegion

/- The value of one small arena. -/
namespace Go.Proofs.YtlbgdgobhiokpaaDoor
open Go.RowKit
set_option linter.unusedVariables false

theorem mk43 (w : World) : (Instr.makeSlice 43 (.int .i64 1) (.int .i64 1)).run Tryd.prog w = .ok (.slice (some ⟨w.heap.size, 0, none⟩) 1 1) (w.alloc (.cells #[.int .i64 0] 3)) := by kernel_rfl
theorem mk68 (w : World) : (Instr.makeSlice 68 (.int .i64 2) (.int .i64 2)).run Tryd.prog w = .ok (.slice (some ⟨w.heap.size, 0, none⟩) 2 2) (w.alloc (.cells #[.slice none 0 0, .slice none 0 0] 43)) := by kernel_rfl
theorem mk22 (w : World) : (Instr.makeSlice 22 (.int .i64 0) (.int .i64 2)).run Tryd.prog w = .ok (.slice (some ⟨w.heap.size, 0, none⟩) 0 2) (w.alloc (.cells #[.int .i64 0, .int .u64 0, .int .i64 0, .int .i64 0, .int .u64 0, .int .i64 0] 37)) := by kernel_rfl
def N2 : List Nd := [(3, 0, 1), (1, 9, 0)]
def S2 : Stk := [(-1, 0), (0, 0)]
/-- What lies in memory, cell by cell. -/
structure A2 (w : World) (b gn cn gs cs : Nat) : Prop where
  c0 : w.cell? ⟨b, 0, none⟩ = some (.slice (some ⟨gn, 0, none⟩) 2 cn)
  c1 : w.cell? ⟨b, 1, none⟩ = some (.slice (some ⟨gs, 0, none⟩) 2 cs)
  c2 : w.cell? ⟨b, 2, none⟩ = some (.map none)
  n0 : w.cell? ⟨gn, 0, none⟩ = some (.int .i64 3)
  n1 : w.cell? ⟨gn, 1, none⟩ = some (.int .u64 0)
  n2 : w.cell? ⟨gn, 2, none⟩ = some (.int .i64 1)
  n3 : w.cell? ⟨gn, 3, none⟩ = some (.int .i64 1)
  n4 : w.cell? ⟨gn, 4, none⟩ = some (.int .u64 9)
  n5 : w.cell? ⟨gn, 5, none⟩ = some (.int .i64 0)
  s2 : w.cell? ⟨gs, 2, none⟩ = some (.int .i64 0)
  s3 : w.cell? ⟨gs, 3, none⟩ = some (.int .i64 0)
  s0 : w.cell? ⟨gs, 0, none⟩ = some (.int .i64 (-1))
  s1 : w.cell? ⟨gs, 1, none⟩ = some (.int .i64 0)
  hb : b < w.heap.size
  hn : gn < w.heap.size
  hs : gs < w.heap.size
  hcn : cn ≤ 9223372036854775807
  hcs : cs ≤ 9223372036854775807
theorem A2.later {w w' : World} {b gn cn gs cs : Nat} (h : A2 w b gn cn gs cs) (hB : Below w.heap.size w w') : A2 w' b gn cn gs cs := by
  have e : ∀ g i, g < w.heap.size → w'.cell? ⟨g, i, none⟩ = w.cell? ⟨g, i, none⟩ := fun g i hg => hB.cell (p := ⟨g, i, none⟩) hg
  exact ⟨(e _ _ h.hb).trans h.c0, (e _ _ h.hb).trans h.c1, (e _ _ h.hb).trans h.c2, (e _ _ h.hn).trans h.n0, (e _ _ h.hn).trans h.n1, (e _ _ h.hn).trans h.n2, (e _ _ h.hn).trans h.n3, (e _ _ h.hn).trans h.n4, (e _ _ h.hn).trans h.n5,
    (e _ _ h.hs).trans h.s2, (e _ _ h.hs).trans h.s3, (e _ _ h.hs).trans h.s0, (e _ _ h.hs).trans h.s1, Nat.lt_of_lt_of_le h.hb hB.size, Nat.lt_of_lt_of_le h.hn hB.size, Nat.lt_of_lt_of_le h.hs hB.size, h.hcn, h.hcs⟩
theorem A2.of {B b : Nat} {w : World} {vn vs : Value} (h : Ar B w b vn vs N2 S2) : ∃ gn cn gs cs, vn = .slice (some ⟨gn, 0, none⟩) 2 cn ∧ vs = .slice (some ⟨gs, 0, none⟩) 2 cs ∧ A2 w b gn cn gs cs := by
  obtain ⟨gn, cn, ys, rfl, -, -, hm, -, ht, hK⟩ := ownS_blk h.nod (by decide)
  obtain ⟨gs, cs, zs, rfl, -, -, hm2, -, ht2, hK2⟩ := ownS_blk h.spo (by decide)
  have hat : ∀ i, i < 6 → ys[i]? = (cellsN N2)[i]? := fun i hi => by rw [← ht, List.getElem?_take, if_pos (show i < N2.length * 3 from hi)]
  have hat2 : ∀ i, i < 4 → zs[i]? = (cellsS S2)[i]? := fun i hi => by rw [← ht2, List.getElem?_take, if_pos (show i < S2.length * 2 from hi)]
  unfold maxLen at hm hm2
  refine ⟨gn, cn, gs, cs, rfl, rfl, h.c0, h.c1, h.c2, ?_, ?_, ?_, ?_, ?_, ?_, ?_, ?_, ?_, ?_, h.blk.lt, hK.lt, hK2.lt, hm, hm2⟩
  · rw [hK.cell, hat _ (by decide)]; rfl
  · rw [hK.cell, hat _ (by decide)]; rfl
  · rw [hK.cell, hat _ (by decide)]; rfl
  · rw [hK.cell, hat _ (by decide)]; rfl
  · rw [hK.cell, hat _ (by decide)]; rfl
  · rw [hK.cell, hat _ (by decide)]; rfl
  · rw [hK2.cell, hat2 _ (by decide)]; rfl
  · rw [hK2.cell, hat2 _ (by decide)]; rfl
  · rw [hK2.cell, hat2 _ (by decide)]; rfl
  · rw [hK2.cell, hat2 _ (by decide)]; rfl
set_option maxRecDepth 100000 in
set_option maxHeartbeats 8000000 in
theorem whole2 (b gn cn gs cs : Nat) (w : World) (hA : Hid (A2 w b gn cn gs cs)) : Calls Tryd.prog 47 #[.pointer (some ⟨b, 0, none⟩)] w fun e w' => e = .returned (.bool true) ∧ Below w.heap.size w w' := by
  have c0 := hA.out.c0; have c2 := hA.out.c2; have n0 := hA.out.n0; have n1 := hA.out.n1; have n2 := hA.out.n2
  have hcn := hA.out.hcn
  go_enter Tryd.func47, Tryd.ntmps47
  go_wp2_with fail
  refine wp_unroll 3 ?_
  unfold unr
  go_wp2_with fail
  refine (right_any (3, 0, 1) _).mono ?_; rintro e w1 ⟨rfl, hB1⟩
  have hBw : Below w.heap.size w w1 := ((Below.refl w.heap.size w).alloc (Nat.le_refl _) _).trans (hB1.mono (by simp))
  have hA1 : Hid (A2 w1 b gn cn gs cs) := hA.out.later hBw
  clear c0 c2 n0 n1 n2 hB1
  have c0 := hA1.out.c0; have c2 := hA1.out.c2; have n3 := hA1.out.n3; have n4 := hA1.out.n4; have n5 := hA1.out.n5
  have hr1 : right (3, 0, 1) = true := by decide
  rw [hr1]
  go_wp2_with fail
  unfold unr
  go_wp2_with fail
  refine (right_any (1, 9, 0) _).mono ?_; rintro e w2 ⟨rfl, hB2⟩
  have hBw2 : Below w.heap.size w w2 := (hBw.alloc hBw.size _).trans (hB2.mono (by have := hBw.size; simp; omega))
  have hA2 : Hid (A2 w2 b gn cn gs cs) := hA.out.later hBw2
  clear c0 c2 n3 n4 n5 hB2
  have c0 := hA2.out.c0; have c2 := hA2.out.c2
  have hr2 : right (1, 9, 0) = true := by decide
  rw [hr2]
  go_wp2_with fail
  unfold unr
  go_wp2
  go_ret
  exact ⟨rfl, hBw2⟩
end Go.Proofs.YtlbgdgobhiokpaaDoor

/- The kids' table of one small arena. -/
namespace Go.Proofs.YtlbgdgobhiokpaaDoor
open Go.RowKit
set_option linter.unusedVariables false

set_option maxRecDepth 100000 in
set_option maxHeartbeats 8000000 in
theorem kids2 (b gn cn gs cs : Nat) (w : World) (hA : Hid (A2 w b gn cn gs cs)) : Calls Tryd.prog 48 #[.pointer (some ⟨b, 0, none⟩)] w fun e w' => e = .returned (.slice (some ⟨w.heap.size + 1, 0, none⟩) 2 2) ∧
    (∃ v, Hid (Blk w' (w.heap.size + 1) 43 [.slice (some ⟨w.heap.size, 0, none⟩) 1 1, v])) ∧ Hid (Blk w' w.heap.size 3 [.int .i64 1]) ∧ Below w.heap.size w w' := by
  have c0 := hA.out.c0; have c1 := hA.out.c1; have n0 := hA.out.n0; have n1 := hA.out.n1; have n2 := hA.out.n2
  have hcn := hA.out.hcn; have hcs := hA.out.hcs
  have hmk1 := mk43; have hmk2 := mk68
  have c0a : ∀ o1, (w.alloc o1).cell? ⟨b, 0, none⟩ = some (.slice (some ⟨gn, 0, none⟩) 2 cn) := fun o1 => (cell_alloc w o1 _ _ hA.out.hb).trans c0
  have c0b : ∀ o1 o2, ((w.alloc o1).alloc o2).cell? ⟨b, 0, none⟩ = some (.slice (some ⟨gn, 0, none⟩) 2 cn) := fun o1 o2 => (cell_alloc _ o2 _ _ (by have := hA.out.hb; simp; omega)).trans (c0a o1)
  obtain ⟨wk, hwk⟩ : ∃ wk, wk = (w.alloc (.cells #[.int .i64 0] 3)).alloc (.cells #[.slice none 0 0, .slice none 0 0] 43) := ⟨_, rfl⟩
  have KR : Hid (Blk wk w.heap.size 3 [.int .i64 0]) := by rw [hwk]; exact (Blk.newA w _ 3).alloc _
  have KT : Hid (Blk wk (w.heap.size + 1) 43 [.slice none 0 0, .slice none 0 0]) := by
    rw [hwk]
    have := Blk.newA (w.alloc (.cells #[.int .i64 0] 3)) #[.slice none 0 0, .slice none 0 0] 43
    show Blk _ _ _ _
    simpa using this
  have HBk : Hid (Below w.heap.size w wk) := by rw [hwk]; exact ((Below.refl _ _).alloc (Nat.le_refl _) _).alloc (by simp) _
  have hAk : Hid (A2 wk b gn cn gs cs) := hA.out.later HBk.out
  go_enter Tryd.func48, Tryd.ntmps48
  go_upto_region 3 with fail
  rw [← hwk]
  have hA0 : Hid (A2 w b gn cn gs cs) := hA
  clear hwk c0 c1 n0 n1 n2 c0a c0b hmk1 hmk2 hA
  have c0 := hAk.out.c0; have n0 := hAk.out.n0; have n1 := hAk.out.n1; have n2 := hAk.out.n2
  go_wp2_with fail
  refine wp_unroll 3 ?_
  unfold unr
  obtain ⟨w1, hw1⟩ : ∃ w1, w1 = wk.alloc (.cells #[.int .i64 3, .int .u64 0, .int .i64 1] 37) := ⟨_, rfl⟩
  have hB1 : Below wk.heap.size wk w1 := by rw [hw1]; exact (Below.refl _ _).alloc (Nat.le_refl _) _
  have KR1 : Hid (Blk w1 w.heap.size 3 [.int .i64 0]) := KR.out.later hB1
  have KT1 : Hid (Blk w1 (w.heap.size + 1) 43 [.slice none 0 0, .slice none 0 0]) := KT.out.later hB1
  have HBw1 : Hid (Below w.heap.size w w1) := HBk.out.trans (hB1.mono HBk.out.size)
  have hA1 : Hid (A2 w1 b gn cn gs cs) := hAk.out.later hB1
  have x2 : w1.cell? ⟨wk.heap.size, 2, none⟩ = some (.int .i64 1) := by rw [hw1]; exact (Blk.newA wk _ 37).cell 2
  have t0 : w1.cell? ⟨w.heap.size + 1, 0, none⟩ = some (.slice none 0 0) := KT1.out.cell 0
  have z0 := KT1.out.frozen 0
  go_upto_region 6 with fail
  rw [← hw1]
  clear hw1 hB1 KR KT HBk hAk c0 n0 n1 n2
  go_region
  obtain ⟨w2, hw2⟩ : ∃ w2, w2 = (w1.setCell ⟨w.heap.size + 1, 0, none⟩ (.slice (some ⟨w.heap.size, 0, none⟩) 1 1)).drew := ⟨_, rfl⟩
  have KR2 : Hid (Blk w2 w.heap.size 3 [.int .i64 0]) := by rw [hw2]; exact (KR1.out.other _ _ (by simp)).drew
  have KT2 : Hid (Blk w2 (w.heap.size + 1) 43 [.slice (some ⟨w.heap.size, 0, none⟩) 1 1, .slice none 0 0]) := by rw [hw2]; exact (KT1.out.set 0 _).drew
  have HBw2 : Hid (Below w.heap.size w w2) := by rw [hw2]; exact (HBw1.out.setCell (by simp) _).drew
  have hA2 : Hid (A2 w2 b gn cn gs cs) := hA0.out.later HBw2.out
  rw [← hw2]
  clear hw2 KR1 KT1 HBw1 hA1 x2 t0 z0
  have n3 := hA2.out.n3; have n4 := hA2.out.n4; have n5 := hA2.out.n5
  go_wp2_with fail
  unfold unr
  obtain ⟨w3, hw3⟩ : ∃ w3, w3 = w2.alloc (.cells #[.int .i64 1, .int .u64 9, .int .i64 0] 37) := ⟨_, rfl⟩
  have hB3 : Below w2.heap.size w2 w3 := by rw [hw3]; exact (Below.refl _ _).alloc (Nat.le_refl _) _
  have KR3 : Hid (Blk w3 w.heap.size 3 [.int .i64 0]) := KR2.out.later hB3
  have KT3 : Hid (Blk w3 (w.heap.size + 1) 43 [.slice (some ⟨w.heap.size, 0, none⟩) 1 1, .slice none 0 0]) := KT2.out.later hB3
  have HBw3 : Hid (Below w.heap.size w w3) := HBw2.out.trans (hB3.mono HBw2.out.size)
  have x2 : w3.cell? ⟨w2.heap.size, 2, none⟩ = some (.int .i64 0) := by rw [hw3]; exact (Blk.newA w2 _ 37).cell 2
  have t1 : w3.cell? ⟨w.heap.size + 1, 1, none⟩ = some (.slice none 0 0) := KT3.out.cell 1
  have z1 := KT3.out.frozen 1
  go_upto_region 6 with fail
  rw [← hw3]
  clear hw3 hB3 KR2 KT2 HBw2 hA2 n3 n4 n5
  go_region
  obtain ⟨w4, hw4⟩ : ∃ w4, w4 = (w3.setCell ⟨w.heap.size + 1, 1, none⟩ (.slice (some ⟨w.heap.size, 0, none⟩) 0 0)).drew := ⟨_, rfl⟩
  have KR4 : Hid (Blk w4 w.heap.size 3 [.int .i64 0]) := by rw [hw4]; exact (KR3.out.other _ _ (by simp)).drew
  have KT4 : Hid (Blk w4 (w.heap.size + 1) 43 [.slice (some ⟨w.heap.size, 0, none⟩) 1 1, .slice (some ⟨w.heap.size, 0, none⟩) 0 0]) := by rw [hw4]; exact (KT3.out.set 1 _).drew
  have HBw4 : Hid (Below w.heap.size w w4) := by rw [hw4]; exact (HBw3.out.setCell (by simp) _).drew
  have hA4 : Hid (A2 w4 b gn cn gs cs) := hA0.out.later HBw4.out
  rw [← hw4]
  clear hw4 KR3 KT3 HBw3 x2 t1 z1
  have c1 := hA4.out.c1; have s0 := hA4.out.s0; have s1 := hA4.out.s1
  go_wp2_with fail
  unfold unr
  go_wp2_with fail
  refine wp_unroll 3 ?_
  unfold unr
  go_wp2_with fail
  unfold unr
  obtain ⟨w5, hw5⟩ : ∃ w5, w5 = w4.alloc (.cells #[.int .i64 (-1), .int .i64 0] 103) := ⟨_, rfl⟩
  have hB5 : Below w4.heap.size w4 w5 := by rw [hw5]; exact (Below.refl _ _).alloc (Nat.le_refl _) _
  have KR5 : Hid (Blk w5 w.heap.size 3 [.int .i64 0]) := KR4.out.later hB5
  have KT5 : Hid (Blk w5 (w.heap.size + 1) 43 [.slice (some ⟨w.heap.size, 0, none⟩) 1 1, .slice (some ⟨w.heap.size, 0, none⟩) 0 0]) := KT4.out.later hB5
  have HBw5 : Hid (Below w.heap.size w w5) := HBw4.out.trans (hB5.mono HBw4.out.size)
  have hA5 : Hid (A2 w5 b gn cn gs cs) := hA0.out.later HBw5.out
  rw [← hw5]
  clear hw5 hB5 KR4 KT4 HBw4 hA4 c1 s0 s1
  have s2 := hA5.out.s2; have s3 := hA5.out.s3
  obtain ⟨w6, hw6⟩ : ∃ w6, w6 = w5.alloc (.cells #[.int .i64 0, .int .i64 0] 103) := ⟨_, rfl⟩
  have hB6 : Below w5.heap.size w5 w6 := by rw [hw6]; exact (Below.refl _ _).alloc (Nat.le_refl _) _
  have KR6 : Hid (Blk w6 w.heap.size 3 [.int .i64 0]) := KR5.out.later hB6
  have KT6 : Hid (Blk w6 (w.heap.size + 1) 43 [.slice (some ⟨w.heap.size, 0, none⟩) 1 1, .slice (some ⟨w.heap.size, 0, none⟩) 0 0]) := KT5.out.later hB6
  have HBw6 : Hid (Below w.heap.size w w6) := HBw5.out.trans (hB6.mono HBw5.out.size)
  have y0 : w6.cell? ⟨w5.heap.size, 0, none⟩ = some (.int .i64 0) := by rw [hw6]; exact (Blk.newA w5 _ 103).cell 0
  have y1 : w6.cell? ⟨w5.heap.size, 1, none⟩ = some (.int .i64 0) := by rw [hw6]; exact (Blk.newA w5 _ 103).cell 1
  have t0 : w6.cell? ⟨w.heap.size + 1, 0, none⟩ = some (.slice (some ⟨w.heap.size, 0, none⟩) 1 1) := KT6.out.cell 0
  have r0 : w6.cell? ⟨w.heap.size, 0, none⟩ = some (.int .i64 0) := KR6.out.cell 0
  have z0 := KR6.out.frozen 0
  go_upto_region 12 with fail
  rw [← hw6]
  clear hw6 hB6 KR5 KT5 HBw5 hA5 s2 s3
  go_region
  obtain ⟨w7, hw7⟩ : ∃ w7, w7 = (w6.setCell ⟨w.heap.size, 0, none⟩ (.int .i64 1)).drew := ⟨_, rfl⟩
  have KR7 : Hid (Blk w7 w.heap.size 3 [.int .i64 1]) := by rw [hw7]; exact (KR6.out.set 0 _).drew
  have KT7 : Hid (Blk w7 (w.heap.size + 1) 43 [.slice (some ⟨w.heap.size, 0, none⟩) 1 1, .slice (some ⟨w.heap.size, 0, none⟩) 0 0]) := by rw [hw7]; exact (KT6.out.other _ _ (by simp)).drew
  have HBw7 : Hid (Below w.heap.size w w7) := by rw [hw7]; exact (HBw6.out.setCell (by simp) _).drew
  rw [← hw7]
  clear hw7 KR6 KT6 HBw6 y0 y1 t0 r0 z0
  go_wp2_with fail
  unfold unr
  go_wp2
  go_ret
  exact ⟨rfl, ⟨_, KT7⟩, KR7, HBw7.out⟩
end Go.Proofs.YtlbgdgobhiokpaaDoor

/- The value of one small arena. -/
namespace Go.Proofs.YtlbgdgobhiokpaaDoor
open Go.RowKit
set_option linter.unusedVariables false

/-- A list of nodes and a list of numbers of the call's own grow. -/
theorem push_nd {B : Nat} {w : World} {v : Value} {N : List Nd} (h : w.ownsRow B 37 3 v N.length (cellsN N)) (x : Nd) (hN : N.length ≤ 2000000) (hB : B ≤ w.heap.size) :
    ∃ g cap w', (Builtin.append_ #[22, 22] 22 #[v, .slice (some ⟨w.heap.size, 0, none⟩) 1 1]).run Tryd.prog (w.alloc (.cells #[.int .i64 x.1, .int .u64 x.2.1, .int .i64 x.2.2] 37)) = .ok (.slice (some ⟨g, 0, none⟩) (N.length + 1) cap) w' ∧ w'.ownsRow B 37 3 (.slice (some ⟨g, 0, none⟩) (N.length + 1) cap) (N ++ [x]).length (cellsN (N ++ [x])) ∧ Below B w w' ∧ (∀ q t xs, t ≠ 37 → Blk w q t xs → Blk w' q t xs) ∧ ∀ e c u n xs, e ≠ 37 → w.ownsRow B e c u n xs → w'.ownsRow B e c u n xs := by
  obtain ⟨g, cap, w', r1, o1, u1, l1⟩ := run_pushS (P := Tryd.prog) (t := 22) (e := 37) (z := .agg #[.int .i64 0, .int .u64 0, .int .i64 0]) (bytes := 24) Tryd.underlying22 (by kernel_rfl) rfl (by decide) w 22 h (ndc x) rfl (by intro u hu; simp [ndc] at hu; rcases hu with rfl | rfl | rfl <;> rfl) (by unfold maxLen; omega) (by omega) hB
  refine ⟨g, cap, w', r1, by rw [List.length_append, cellsN_append, show cellsN [x] = ndc x by simp [cellsN]]; exact o1, u1.below B hB (fun k hk => (h.lt k hk).1), fun q t xs ht hb => hb.upd u1 fun hk => ?_, fun e c u n xs he ho => ownS_upd ho u1 fun q hq hk => ?_⟩
  · obtain ⟨ys, hy⟩ := ownS_type h hk
    exact ht (blk_type hb hy)
  · obtain ⟨ys, hy⟩ := ownS_type h hk
    obtain ⟨zs, hz⟩ := ownS_type ho hq
    exact he (blk_type hz hy)
theorem push_int {B : Nat} {w : World} {v : Value} {l : List Int} (h : w.ownsRow B 3 1 v l.length (cellsL .i64 l)) (x : Int) (hN : l.length ≤ 2000000) (hB : B ≤ w.heap.size) :
    ∃ g cap w', (Builtin.append_ #[43, 43] 43 #[v, .slice (some ⟨w.heap.size, 0, none⟩) 1 1]).run Tryd.prog (w.alloc (.cells #[.int .i64 x] 3)) = .ok (.slice (some ⟨g, 0, none⟩) (l.length + 1) cap) w' ∧ w'.ownsRow B 3 1 (.slice (some ⟨g, 0, none⟩) (l.length + 1) cap) (l ++ [x]).length (cellsL .i64 (l ++ [x])) ∧ Below B w w' ∧ ∀ e c u n xs, e ≠ 3 → w.ownsRow B e c u n xs → w'.ownsRow B e c u n xs := by
  obtain ⟨g, cap, w', r1, o1, u1, l1⟩ := run_push E43 w 43 B v l.length l h x (by unfold maxLen; omega) (by omega) hB
  refine ⟨g, cap, w', r1, by rw [List.length_append]; exact o1, u1.below B hB (fun k hk => (h.lt k hk).1), fun e c u n xs he ho => ownS_upd ho u1 fun q hq hk => ?_⟩
  obtain ⟨ys, hy⟩ := ownS_type h hk
  obtain ⟨zs, hz⟩ := ownS_type ho hq
  exact he (blk_type hz hy)
set_option maxRecDepth 100000 in
set_option maxHeartbeats 8000000 in
theorem value2 (b gn cn gs cs : Nat) (w : World) (hA : Hid (A2 w b gn cn gs cs)) : Calls Tryd.prog 25 #[.pointer (some ⟨b, 0, none⟩)] w fun e w' => ∃ v, e = .returned (.tuple #[v, .int .i64 0]) ∧ Hid (w'.ownsRow w.heap.size 37 3 v 2 (cellsN N2)) ∧ Below w.heap.size w w' := by
  have hcn := hA.out.hcn
  go_enter Tryd.func25, Tryd.ntmps25
  go_wp2_with fail
  refine (whole2 b gn cn gs cs w hA).mono ?_; rintro e w1 ⟨rfl, hB1⟩
  have hA1 : Hid (A2 w1 b gn cn gs cs) := hA.out.later hB1
  go_wp2_with fail
  refine (kids2 b gn cn gs cs w1 hA1).mono ?_; rintro e w2 ⟨rfl, ⟨v1, KT⟩, KR, hB2⟩
  have HBw2 : Hid (Below w.heap.size w w2) := hB1.trans (hB2.mono hB1.size)
  have hA2 : Hid (A2 w2 b gn cn gs cs) := hA.out.later HBw2.out
  obtain ⟨w3, hw3⟩ : ∃ w3, w3 = (w2.alloc (.cells #[.int .i64 0, .int .u64 0, .int .i64 0, .int .i64 0, .int .u64 0, .int .i64 0] 37)).alloc (.cells #[.int .i64 0] 3) := ⟨_, rfl⟩
  have HB3 : Hid (Below w2.heap.size w2 w3) := by rw [hw3]; exact ((Below.refl _ _).alloc (Nat.le_refl _) _).alloc (by simp) _
  have OV3 : Hid (w3.ownsRow w2.heap.size 37 3 (.slice (some ⟨w2.heap.size, 0, none⟩) 0 2) 0 (cellsN [])) := by
    rw [hw3]
    have hk := (Blk.newA w2 #[.int .i64 0, .int .u64 0, .int .i64 0, .int .i64 0, .int .u64 0, .int .i64 0] 37).alloc (.cells #[.int .i64 0] 3)
    exact ownS_of_blk (n := 0) (c := 3) (cap := 2) hk (Nat.le_refl _) rfl (by decide) (by decide)
  have KO3 : Blk w3 (w2.heap.size + 1) 3 [.int .i64 0] := by
    rw [hw3]
    have hk := Blk.newA (w2.alloc (.cells #[.int .i64 0, .int .u64 0, .int .i64 0, .int .i64 0, .int .u64 0, .int .i64 0] 37)) #[.int .i64 0] 3
    simpa using hk
  have OO3 : Hid (w3.ownsRow w2.heap.size 3 1 (.slice (some ⟨w2.heap.size + 1, 0, none⟩) 0 1) 0 (cellsL .i64 [])) := ownS_of_blk (n := 0) (c := 1) (cap := 1) KO3 (by omega) rfl (by decide) (by decide)
  have o0 : w3.cell? ⟨w2.heap.size + 1, 0, none⟩ = some (.int .i64 0) := KO3.cell 0
  have hA3 : Hid (A2 w3 b gn cn gs cs) := hA2.out.later HB3.out
  have hmk := mk22
  have c0 := hA2.out.c0
  go_wp2_with fail
  rw [← hw3]
  clear hw3 hmk c0 hA2 hB2
  refine wp_unroll 3 ?_
  unfold unr
  -- the first node
  obtain ⟨gv, cv, w4, r4, o4, b4, k4, e4⟩ := push_nd (N := []) OV3.out (3, 0, 1) (by decide) HB3.out.size
  have R4 : Hid ((Builtin.append_ #[22, 22] 22 #[.slice (some ⟨w2.heap.size, 0, none⟩) 0 2, .slice (some ⟨w3.heap.size, 0, none⟩) 1 1]).run Tryd.prog (w3.alloc (.cells #[.int .i64 3, .int .u64 0, .int .i64 1] 37)) = .ok (.slice (some ⟨gv, 0, none⟩) 1 cv) w4) := r4
  have OV4 : Hid (w4.ownsRow w2.heap.size 37 3 (.slice (some ⟨gv, 0, none⟩) 1 cv) 1 (cellsN [(3, 0, 1)])) := o4
  have OO4 : Hid (w4.ownsRow w2.heap.size 3 1 (.slice (some ⟨w2.heap.size + 1, 0, none⟩) 0 1) 0 (cellsL .i64 [])) := e4 _ _ _ _ _ (by decide) OO3.out
  have HB4 : Hid (Below w2.heap.size w2 w4) := HB3.out.trans b4
  have hA4 : Hid (A2 w4 b gn cn gs cs) := hA.out.later (HBw2.out.trans (HB4.out.mono HBw2.out.size))
  clear r4 o4 b4 k4 e4
  have c0 := hA3.out.c0; have n0 := hA3.out.n0; have n1 := hA3.out.n1; have n2 := hA3.out.n2
  have d0 := hA4.out.c0; have m2 := hA4.out.n2
  have t0 : w4.cell? ⟨w1.heap.size + 1, 0, none⟩ = some (.slice (some ⟨w1.heap.size, 0, none⟩) 1 1) := (KT.out.below HB4.out KT.out.lt).cell 0
  have r0 : w4.cell? ⟨w1.heap.size, 0, none⟩ = some (.int .i64 1) := (KR.out.below HB4.out KR.out.lt).cell 0
  go_wp2_with (at_builtin; have _t := R4; refine wpList_append_run rfl (.tmp 35) (.tmp 43) 22 22 rfl rfl rfl R4.out ?_; clear R4)
  refine wp_unroll 2 ?_
  unfold unr
  -- its kid
  obtain ⟨go, co, w5, r5, o5, b5, e5⟩ := push_int (l := []) OO4.out 1 (by decide) HB4.out.size
  have R5 : Hid ((Builtin.append_ #[43, 43] 43 #[.slice (some ⟨w2.heap.size + 1, 0, none⟩) 0 1, .slice (some ⟨w4.heap.size, 0, none⟩) 1 1]).run Tryd.prog (w4.alloc (.cells #[.int .i64 1] 3)) = .ok (.slice (some ⟨go, 0, none⟩) 1 co) w5) := r5
  have OO5 : Hid (w5.ownsRow w2.heap.size 3 1 (.slice (some ⟨go, 0, none⟩) 1 co) 1 (cellsL .i64 [1])) := o5
  have OV5 : Hid (w5.ownsRow w2.heap.size 37 3 (.slice (some ⟨gv, 0, none⟩) 1 cv) 1 (cellsN [(3, 0, 1)])) := e5 _ _ _ _ _ (by decide) OV4.out
  have HB5 : Hid (Below w2.heap.size w2 w5) := HB4.out.trans b5
  have hA5 : Hid (A2 w5 b gn cn gs cs) := hA.out.later (HBw2.out.trans (HB5.out.mono HBw2.out.size))
  clear r5 o5 b5 e5
  go_wp2_with (at_builtin; have _t := R5; refine wpList_append_run rfl (.tmp 58) (.tmp 66) 43 43 rfl rfl rfl R5.out ?_; clear R5)
  clear c0 n0 n1 n2 d0 m2 t0 r0 o0 OV3 OO3 OV4 OO4 KO3 hA3 hA4 HB3 HB4
  unfold unr
  go_wp2_with fail
  unfold unr
  -- the second node
  obtain ⟨gv6, cv6, w6, r6, o6, b6, k6, e6⟩ := push_nd (N := [(3, 0, 1)]) OV5.out (1, 9, 0) (by decide) HB5.out.size
  have R6 : Hid ((Builtin.append_ #[22, 22] 22 #[.slice (some ⟨gv, 0, none⟩) 1 cv, .slice (some ⟨w5.heap.size, 0, none⟩) 1 1]).run Tryd.prog (w5.alloc (.cells #[.int .i64 1, .int .u64 9, .int .i64 0] 37)) = .ok (.slice (some ⟨gv6, 0, none⟩) 2 cv6) w6) := r6
  have OV6 : Hid (w6.ownsRow w2.heap.size 37 3 (.slice (some ⟨gv6, 0, none⟩) 2 cv6) 2 (cellsN [(3, 0, 1), (1, 9, 0)])) := o6
  have HB6 : Hid (Below w2.heap.size w2 w6) := HB5.out.trans b6
  have hA6 : Hid (A2 w6 b gn cn gs cs) := hA.out.later (HBw2.out.trans (HB6.out.mono HBw2.out.size))
  clear r6 o6 b6 k6 e6
  have o1 : w5.cell? ⟨go, 0, none⟩ = some (.int .i64 1) := by
    obtain ⟨g, cap, ys, e, -, -, -, -, ht, hK⟩ := own_blk OO5.out (by decide)
    have e1 : go = g ∧ co = cap := by simpa using e
    obtain ⟨rfl, rfl⟩ := e1
    rw [hK.cell]
    have : (ys.take 1)[0]? = some (.int .i64 1) := by rw [ht]; rfl
    rwa [List.getElem?_take, if_pos (by decide)] at this
  have hco : 1 ≤ co ∧ co ≤ 9223372036854775807 := by
    obtain ⟨g, cap, ys, e, -, h1, h2, -⟩ := own_blk OO5.out (by decide)
    have e1 : go = g ∧ co = cap := by simpa using e
    obtain ⟨rfl, rfl⟩ := e1
    unfold maxLen at h2
    exact ⟨h1, h2⟩
  obtain ⟨hco1, hco2⟩ := hco
  have c0 := hA5.out.c0; have n3 := hA5.out.n3; have n4 := hA5.out.n4; have n5 := hA5.out.n5
  have d0 := hA6.out.c0; have m5 := hA6.out.n5
  go_wp2_with (at_builtin; have _t := R6; refine wpList_append_run rfl (.tmp 35) (.tmp 43) 22 22 rfl rfl rfl R6.out ?_; clear R6)
  refine wp_unroll 1 ?_
  unfold unr
  go_wp2_with fail
  unfold unr
  go_wp2
  go_ret2
  exact ⟨_, rfl, own_base OV6.out HBw2.out.size, HBw2.out.trans (HB6.out.mono HBw2.out.size)⟩
end Go.Proofs.YtlbgdgobhiokpaaDoor

/- awake: plain. -/
namespace Go.Proofs.YtlbgdgobhiokpaaDoor
open Go.RowKit
set_option linter.unusedVariables false

def V8 : List Nd := [(3, 0, 3), (4, 0, 2), (1, 1, 0), (5, 0, 0), (6, 5, 1), (2, 1, 0), (5, 0, 1), (1, 3, 0)]
def T8 : ByteArray := ⟨#[91, 123, 49, 44, 32, 110, 111, 110, 101, 125, 44, 32, 60, 53, 58, 116, 114, 117, 101, 62, 44, 32, 115, 111, 109, 101, 32, 51, 93]⟩
def T5 : ByteArray := ⟨#[91, 49, 44, 32, 93]⟩
theorem p8N : parseN (tx T8) = V8 := by kernel_rfl
theorem p8F : parseF (tx T8) = (0, 0) := by kernel_rfl
theorem p5F : parseF (tx T5) = (41, 4) := by kernel_rfl
theorem p5N : parseN (tx T5) = [] := by kernel_rfl
theorem v8c : chk 1 0 V8 = (0, 0) := by kernel_rfl
theorem v8p : printS V8 = T8 := by kernel_rfl
theorem v8n : nextR V8 1 = (4, 0) := by kernel_rfl
theorem v8k : kidR V8 0 2 = (6, 0) := by kernel_rfl
theorem v8w : pathR V8 3 = [0, 1] := by kernel_rfl
theorem v8q : place V8 3 = 0 := by kernel_rfl
theorem own_nrow {B : Nat} {w : World} {v : Value} {N : List Nd} (h : w.ownsRow B 37 3 v N.length (cellsN N)) : ∃ a c, v = .slice a N.length c ∧ NRow w a N ∧ N.length ≤ c ∧ c ≤ 9223372036854775807 ∧ (a = none → c = 0) := by
  rcases h.2 with ⟨rfl, h0⟩ | ⟨g, cap, cur, rfl, hb, hg, hn, hm, hs, ht⟩
  · exact ⟨none, 0, by rw [h0], .inl ⟨rfl, List.length_eq_zero_iff.1 h0⟩, by omega, by omega, fun _ => rfl⟩
  · have hK : Blk w g 37 cur.toList := by unfold Blk; rw [Array.toArray_toList]; exact hg
    have hat : ∀ i, i < N.length * 3 → cur.toList[i]? = (cellsN N)[i]? := fun i hi => by rw [← ht, List.getElem?_take, if_pos hi]
    unfold maxLen at hm
    refine ⟨_, _, rfl, .inr ⟨g, 0, rfl, hK.lt, fun i hi => ?_⟩, hn, hm, fun h => by cases h⟩
    obtain ⟨c0, c1, c2⟩ := cellsN_at N i hi
    rw [Nat.zero_add]
    exact ⟨by rw [hK.cell, hat _ (by omega), c0], by rw [hK.cell, hat _ (by omega), c1], by rw [hK.cell, hat _ (by omega), c2]⟩
end Go.Proofs.YtlbgdgobhiokpaaDoor

/- awake. -/
namespace Go.Proofs.YtlbgdgobhiokpaaDoor
open Go.RowKit
set_option linter.unusedVariables false

theorem parse8 (w : World) : Calls Tryd.prog 12 #[.string T8] w fun e w' => ∃ a c, e = .returned (.tuple #[.slice a 8 c, .agg #[.int .i64 0, .int .i64 0]]) ∧ Hid (NRow w' a V8) ∧ 8 ≤ c ∧ c ≤ 9223372036854775807 ∧ Below w.heap.size w w' := by
  refine (parse_any T8 w (by decide)).mono ?_
  rintro e w' ⟨v, rfl, ho, hB⟩
  rw [p8N] at ho
  obtain ⟨a, c, rfl, hr, h1, h2, -⟩ := own_nrow ho.out
  exact ⟨a, c, by rw [p8F]; rfl, hr, h1, h2, hB⟩
theorem parse5 (w : World) : Calls Tryd.prog 12 #[.string T5] w fun e w' => ∃ v, e = .returned (.tuple #[v, .agg #[.int .i64 41, .int .i64 4]]) ∧ Below w.heap.size w w' := by
  refine (parse_any T5 w (by decide)).mono ?_
  rintro e w' ⟨v, rfl, ho, hB⟩
  exact ⟨v, by rw [p5F]; rfl, hB⟩
theorem print8 (a : Option Addr) (c : Nat) (w : World) (h : Hid (NRow w a V8)) (ht : Hid (Tab w.heap.size w)) : Calls Tryd.prog 11 #[.slice a 8 c] w fun e w' => e = .returned (.tuple #[.string ⟨#[91, 123, 49, 44, 32, 110, 111, 110, 101, 125, 44, 32, 60, 53, 58, 116, 114, 117, 101, 62, 44, 32, 115, 111, 109, 101, 32, 51, 93]⟩, .int .i64 0]) ∧ Below w.heap.size w w' := by
  refine (print_any a 8 c V8 w rfl (by decide) h (show ∀ x ∈ V8, (0 : Int) ≤ x.2.1 from by decide) ht).mono ?_
  rintro e w' ⟨rfl, hB⟩
  exact ⟨by rw [v8p, v8c]; rfl, hB⟩
theorem check8 (a : Option Addr) (c : Nat) (w : World) (h : Hid (NRow w a V8)) : Calls Tryd.prog 17 #[.slice a 8 c] w fun e w' => e = .returned (.agg #[.int .i64 0, .int .i64 0]) ∧ Below w.heap.size w w' := by
  refine (check_any a 8 c V8 w rfl (by decide) h).mono ?_
  rintro e w' ⟨rfl, hB⟩
  exact ⟨by rw [v8c]; rfl, hB⟩
theorem next8 (a : Option Addr) (c : Nat) (w : World) (h : Hid (NRow w a V8)) : Calls Tryd.prog 21 #[.slice a 8 c, .int .i64 1] w fun e w' => e = .returned (.tuple #[.int .i64 4, .int .i64 0]) ∧ Below w.heap.size w w' := by
  refine (next_any a 8 c 1 V8 w rfl (by decide) h).mono ?_
  rintro e w' ⟨rfl, hB⟩
  exact ⟨by rw [v8n]; rfl, hB⟩
theorem kid8 (a : Option Addr) (c : Nat) (w : World) (h : Hid (NRow w a V8)) : Calls Tryd.prog 20 #[.slice a 8 c, .int .i64 0, .int .i64 2] w fun e w' => e = .returned (.tuple #[.int .i64 6, .int .i64 0]) ∧ Below w.heap.size w w' := by
  refine (kid_any a 8 c 0 2 V8 w rfl (by decide) h).mono ?_
  rintro e w' ⟨rfl, hB⟩
  exact ⟨by rw [v8k]; rfl, hB⟩
theorem path8 (a : Option Addr) (c : Nat) (w : World) (h : Hid (NRow w a V8)) (h1 : 8 ≤ c) (h2 : c ≤ 9223372036854775807) : Calls Tryd.prog 19 #[.slice a 8 c, .int .i64 3] w fun e w' => ∃ a2 c2, e = .returned (.tuple #[.slice a2 2 c2, .int .i64 0]) ∧ Hid (Row .i64 w' a2 [0, 1]) ∧ Below w.heap.size w w' := by
  refine (path_any a 8 c 3 V8 w rfl h1 (by decide) h2 h).mono ?_
  rintro e w' ⟨v, rfl, ho, hB⟩
  rw [v8w] at ho
  obtain ⟨a2, c2, rfl, hr, -⟩ := own_open (l := [0, 1]) ho.out rfl
  exact ⟨a2, c2, by rw [v8q]; rfl, hr, hB⟩
theorem fault_yes (x y : Int) (w : World) : Calls Tryd.prog 14 #[.agg #[.int .i64 x, .int .i64 y], .int .i64 x, .int .i64 y] w fun e w' => e = .returned (.bool true) ∧ Below w.heap.size w w' := by
  refine (fault_any x y x y w).mono ?_
  rintro e w' ⟨rfl, hB⟩
  exact ⟨by simp, hB⟩
theorem same2 (a1 a2 : Option Addr) (k1 k2 : Nat) (w : World) (r1 : Hid (Row .i64 w a1 [0, 1])) (r2 : Hid (Row .i64 w a2 [0, 1])) : Calls Tryd.prog 33 #[.slice a1 2 k1, .slice a2 2 k2] w fun e w' => e = .returned (.bool true) ∧ Below w.heap.size w w' := by
  refine (sameInts_any a1 a2 2 2 k1 k2 [0, 1] [0, 1] w rfl rfl (by decide) (by decide) r1 r2).mono ?_
  rintro e w' ⟨rfl, hB⟩
  exact ⟨by simp, hB⟩
theorem equal8 (a1 a2 : Option Addr) (k1 k2 : Nat) (w : World) (r1 : Hid (NRow w a1 V8)) (r2 : Hid (NRow w a2 V8)) : Calls Tryd.prog 15 #[.slice a1 8 k1, .slice a2 8 k2] w fun e w' => e = .returned (.bool true) ∧ Below w.heap.size w w' := by
  refine (equal_any a1 a2 8 8 k1 k2 V8 V8 w rfl rfl (by decide) (by decide) r1 r2).mono ?_
  rintro e w' ⟨rfl, hB⟩
  exact ⟨by simp, hB⟩
theorem equal0 (a1 : Option Addr) (k1 : Nat) (w : World) (r1 : Hid (NRow w a1 V8)) : Calls Tryd.prog 15 #[.slice a1 8 k1, .slice none 0 0] w fun e w' => e = .returned (.bool false) ∧ Below w.heap.size w w' := by
  refine (equal_any a1 none 8 0 k1 0 V8 [] w rfl rfl (by decide) (by decide) r1 (.inl ⟨rfl, rfl⟩)).mono ?_
  rintro e w' ⟨rfl, hB⟩
  exact ⟨by simp [V8], hB⟩
theorem add1 (B b : Nat) (w : World) (h : Hid (Ar B w b (.slice none 0 0) (.slice none 0 0) [] [])) : Calls Tryd.prog 24 #[.pointer (some ⟨b, 0, none⟩), .int .i64 (-1), .int .i64 0, .int .i64 3, .int .u64 0] w fun e w' => e = .returned (.tuple #[.int .i64 0, .int .i64 0]) ∧ ∃ vn vs, Hid (Ar B w' b vn vs [(3, 0, 0)] [(-1, 0)]) ∧ Hid (KeptA B w w') := by
  refine (addA_ok B b (-1) 0 3 0 _ _ [] [] w h (by decide) (by decide) (by decide) (by simp)).mono ?_
  rintro e w' ⟨rfl, vn, vs, h1, h2⟩
  exact ⟨rfl, vn, vs, h1, h2⟩
theorem add2 (B b : Nat) (vn vs : Value) (w : World) (h : Hid (Ar B w b vn vs [(3, 0, 0)] [(-1, 0)])) : Calls Tryd.prog 24 #[.pointer (some ⟨b, 0, none⟩), .int .i64 0, .int .i64 0, .int .i64 1, .int .u64 9] w fun e w' => e = .returned (.tuple #[.int .i64 1, .int .i64 0]) ∧ ∃ vn vs, Hid (Ar B w' b vn vs N2 S2) ∧ Hid (KeptA B w w') := by
  refine (addA_ok B b 0 0 1 9 _ _ [(3, 0, 0)] [(-1, 0)] w h (by decide) (by decide) (by decide) (by decide)).mono ?_
  rintro e w' ⟨rfl, vn, vs, h1, h2⟩
  exact ⟨rfl, vn, vs, h1, h2⟩
theorem add3 (B b : Nat) (vn vs : Value) (w : World) (h : Hid (Ar B w b vn vs N2 S2)) : Calls Tryd.prog 24 #[.pointer (some ⟨b, 0, none⟩), .int .i64 1, .int .i64 0, .int .i64 1, .int .u64 9] w fun e w' => e = .returned (.tuple #[.int .i64 0, .int .i64 40]) ∧ Below w.heap.size w w' := by
  refine (addA_err B b 1 0 1 9 _ _ N2 S2 w h (by decide) (by decide)).mono ?_
  rintro e w' ⟨rfl, h1⟩
  exact ⟨rfl, h1⟩
theorem eq2 (a1 a2 : Option Addr) (k1 k2 : Nat) (w : World) (r1 : Hid (NRow w a1 N2)) (r2 : Hid (NRow w a2 N2)) : Calls Tryd.prog 16 #[.slice a1 2 k1, .slice a2 2 k2] w fun e w' => e = .returned (.bool true) ∧ Below w.heap.size w w' := by
  refine (refEqual_any a1 a2 2 2 k1 k2 N2 N2 w rfl rfl (by decide) (by decide) r1 r2).mono ?_
  rintro e w' ⟨rfl, hB⟩
  exact ⟨by simp, hB⟩
theorem KeptA.here {B : Nat} {w w' : World} (h : KeptA B w w') : Below B w w' := h.bel
set_option maxRecDepth 100000 in
set_option maxHeartbeats 16000000 in
theorem awake_any (w : World) (ht : Hid (Tab w.heap.size w)) : Calls Tryd.prog 9 #[] w fun e w' => e = .returned (.bool true) ∧ Below w.heap.size w w' := by
  go_enter Tryd.func9, Tryd.ntmps9
  go_wp2_with fail
  refine (parse8 w).mono ?_; rintro e w1 ⟨a, c, rfl, HV1, hc1, hc2, hB1⟩
  obtain ⟨w2, hw2⟩ : ∃ w2, w2 = w1.alloc (.cells #[.int .i64 0, .int .i64 0] 29) := ⟨_, rfl⟩
  have hB2 : Below w1.heap.size w1 w2 := by rw [hw2]; exact (Below.refl _ _).alloc (Nat.le_refl _) _
  have KF2 : Hid (Blk w2 w1.heap.size 29 [.int .i64 0, .int .i64 0]) := by rw [hw2]; exact Blk.newA w1 _ 29
  have HB2 : Hid (Below w.heap.size w w2) := hB1.trans (hB2.mono hB1.size)
  have HV2 : Hid (NRow w2 a V8) := HV1.out.later hB2
  go_upto_region 2 with fail
  rw [← hw2]
  clear hw2 hB2 HV1 hB1
  have HT2 : Hid (Tab w2.heap.size w2) := (ht.out.below HB2.out).mono HB2.out.size
  go_wp2_with fail
  refine (print8 a c w2 HV2 HT2).mono ?_; rintro e w3 ⟨rfl, hB3⟩
  have KF3 : Hid (Blk w3 w1.heap.size 29 [.int .i64 0, .int .i64 0]) := KF2.out.later hB3
  have HV3 : Hid (NRow w3 a V8) := HV2.out.later hB3
  have HB3 : Hid (Below w.heap.size w w3) := HB2.out.trans (hB3.mono HB2.out.size)
  clear KF2 HV2 HB2 HT2 hB3
  have f0 : w3.cell? ⟨w1.heap.size, 0, none⟩ = some (.int .i64 0) := KF3.out.cell 0
  have f1 : w3.cell? ⟨w1.heap.size, 1, none⟩ = some (.int .i64 0) := KF3.out.cell 1
  go_wp2_with fail
  refine (fault_yes 0 0 w3).mono ?_; rintro e w4 ⟨rfl, hB4⟩
  have HV4 : Hid (NRow w4 a V8) := HV3.out.later hB4
  have HB4 : Hid (Below w.heap.size w w4) := HB3.out.trans (hB4.mono HB3.out.size)
  clear KF3 HV3 HB3 hB4 f0 f1
  go_wp2_with (first | (go_at_call 13; refine (num_any _ _).mono ?_; rintro e w' ⟨rfl, rfl⟩) | (go_at_call 17; fail))
  refine (check8 a c w4 HV4).mono ?_; rintro e w5 ⟨rfl, hB5⟩
  have HV5 : Hid (NRow w5 a V8) := HV4.out.later hB5
  have HB5 : Hid (Below w.heap.size w w5) := HB4.out.trans (hB5.mono HB4.out.size)
  clear HV4 HB4 hB5
  go_wp2_with fail
  refine (fault_yes 0 0 w5).mono ?_; rintro e w6 ⟨rfl, hB6⟩
  have HV6 : Hid (NRow w6 a V8) := HV5.out.later hB6
  have HB6 : Hid (Below w.heap.size w w6) := HB5.out.trans (hB6.mono HB5.out.size)
  clear HV5 HB5 hB6
  go_wp2_with fail
  refine (next8 a c w6 HV6).mono ?_; rintro e w7 ⟨rfl, hB7⟩
  have HV7 : Hid (NRow w7 a V8) := HV6.out.later hB7
  have HB7 : Hid (Below w.heap.size w w7) := HB6.out.trans (hB7.mono HB6.out.size)
  clear HV6 HB6 hB7
  go_wp2_with fail
  refine (kid8 a c w7 HV7).mono ?_; rintro e w8 ⟨rfl, hB8⟩
  have HV8 : Hid (NRow w8 a V8) := HV7.out.later hB8
  have HB8 : Hid (Below w.heap.size w w8) := HB7.out.trans (hB8.mono HB7.out.size)
  clear HV7 HB7 hB8
  go_wp2_with fail
  refine (path8 a c w8 HV8 hc1 hc2).mono ?_; rintro e w9 ⟨a2, c2, rfl, HR9, hB9⟩
  have HV9 : Hid (NRow w9 a V8) := HV8.out.later hB9
  have HB9 : Hid (Below w.heap.size w w9) := HB8.out.trans (hB9.mono HB8.out.size)
  clear HV8 HB8 hB9
  go_wp2_with fail
  refine (parse5 w9).mono ?_; rintro e w10 ⟨v10, rfl, hB10⟩
  obtain ⟨w11, hw11⟩ : ∃ w11, w11 = w10.alloc (.cells #[.int .i64 41, .int .i64 4] 29) := ⟨_, rfl⟩
  have hB11 : Below w10.heap.size w10 w11 := by rw [hw11]; exact (Below.refl _ _).alloc (Nat.le_refl _) _
  have hB11' : Below w9.heap.size w9 w11 := hB10.trans (hB11.mono hB10.size)
  have KG : Hid (Blk w11 w10.heap.size 29 [.int .i64 41, .int .i64 4]) := by rw [hw11]; exact Blk.newA w10 _ 29
  have HV11 : Hid (NRow w11 a V8) := HV9.out.later hB11'
  have HR11 : Hid (Row .i64 w11 a2 [0, 1]) := HR9.out.later hB11'
  have HB11 : Hid (Below w.heap.size w w11) := HB9.out.trans (hB11'.mono HB9.out.size)
  go_upto_region 9 with fail
  rw [← hw11]
  clear hw11 hB11 hB11' hB10 HV9 HR9 HB9
  obtain ⟨w12, hw12⟩ : ∃ w12, w12 = w11.alloc (.cells #[.int .i64 0, .int .i64 1] 3) := ⟨_, rfl⟩
  have hB12 : Below w11.heap.size w11 w12 := by rw [hw12]; exact (Below.refl _ _).alloc (Nat.le_refl _) _
  have KG12 : Hid (Blk w12 w10.heap.size 29 [.int .i64 41, .int .i64 4]) := KG.out.later hB12
  have HV12 : Hid (NRow w12 a V8) := HV11.out.later hB12
  have HR12 : Hid (Row .i64 w12 a2 [0, 1]) := HR11.out.later hB12
  have HL12 : Hid (Row .i64 w12 (some ⟨w11.heap.size, 0, none⟩) [0, 1]) := by
    have hk : Blk w12 w11.heap.size 3 [.int .i64 0, .int .i64 1] := by rw [hw12]; exact Blk.newA w11 _ 3
    exact Row.two (hk.cell 0) (hk.cell 1)
  have HB12 : Hid (Below w.heap.size w w12) := HB11.out.trans (hB12.mono HB11.out.size)
  go_wp2_with (first | (go_at_call 13; refine (num_any _ _).mono ?_; rintro e w' ⟨rfl, rfl⟩) | (go_at_call 33; fail))
  rw [← hw12]
  clear hw12 hB12 KG HV11 HR11 HB11
  refine (same2 a2 _ c2 _ w12 HR12 HL12).mono ?_; rintro e w13 ⟨rfl, hB13⟩
  have KG13 : Hid (Blk w13 w10.heap.size 29 [.int .i64 41, .int .i64 4]) := KG12.out.later hB13
  have HV13 : Hid (NRow w13 a V8) := HV12.out.later hB13
  have HB13 : Hid (Below w.heap.size w w13) := HB12.out.trans (hB13.mono HB12.out.size)
  clear KG12 HV12 HR12 HL12 HB12 hB13
  have g0 : w13.cell? ⟨w10.heap.size, 0, none⟩ = some (.int .i64 41) := KG13.out.cell 0
  have g1 : w13.cell? ⟨w10.heap.size, 1, none⟩ = some (.int .i64 4) := KG13.out.cell 1
  go_wp2_with fail
  refine (fault_yes 41 4 w13).mono ?_; rintro e w14 ⟨rfl, hB14⟩
  have HV14 : Hid (NRow w14 a V8) := HV13.out.later hB14
  have HB14 : Hid (Below w.heap.size w w14) := HB13.out.trans (hB14.mono HB13.out.size)
  clear KG13 HV13 HB13 hB14 g0 g1
  go_wp2_with fail
  refine (equal8 a a c c w14 HV14 HV14).mono ?_; rintro e w15 ⟨rfl, hB15⟩
  have HV15 : Hid (NRow w15 a V8) := HV14.out.later hB15
  have HB15 : Hid (Below w.heap.size w w15) := HB14.out.trans (hB15.mono HB14.out.size)
  clear HV14 HB14 hB15
  go_wp2_with fail
  refine (equal0 a c w15 HV15).mono ?_; rintro e w16 ⟨rfl, hB16⟩
  have HB16 : Hid (Below w.heap.size w w16) := HB15.out.trans (hB16.mono HB15.out.size)
  clear HV15 HB15 hB16
  go_wp2_with fail
  refine (new_any w16).mono ?_; rintro e w17 ⟨rfl, HA17, hB17⟩
  have HB17 : Hid (Below w.heap.size w w17) := HB16.out.trans (hB17.mono HB16.out.size)
  clear hB17
  go_wp2_with fail
  refine (add1 w16.heap.size w16.heap.size w17 HA17).mono ?_; rintro e w18 ⟨rfl, vn18, vs18, HA18, HK18⟩
  have HB18 : Hid (Below w.heap.size w w18) := HB17.out.trans (HK18.out.bel.mono HB16.out.size)
  clear HA17 HB17 HK18
  go_wp2_with fail
  refine (add2 w16.heap.size w16.heap.size vn18 vs18 w18 HA18).mono ?_; rintro e w19 ⟨rfl, vn19, vs19, HA19, HK19⟩
  have HB19 : Hid (Below w.heap.size w w19) := HB18.out.trans (HK19.out.bel.mono HB16.out.size)
  clear HA18 HB18 HK19
  obtain ⟨gn, cn, gs, cs, hvn, hvs, hA2⟩ := A2.of HA19.out
  go_wp2_with fail
  refine (value2 w16.heap.size gn cn gs cs w19 hA2).mono ?_; rintro e w20 ⟨v20, rfl, HO20, hB20⟩
  have HA20 : Hid (Ar w16.heap.size w20 w16.heap.size vn19 vs19 N2 S2) := HA19.out.later hB20
  have HB20 : Hid (Below w.heap.size w w20) := HB19.out.trans (hB20.mono HB19.out.size)
  obtain ⟨a20, c20, rfl, HN20, -, -, -⟩ := own_nrow (N := N2) HO20.out
  have HW20 : Hid (NRow w20 a20 N2) := HN20
  clear HA19 HB19 hB20 hA2 HO20 HN20
  go_wp2_with fail
  refine (add3 w16.heap.size w16.heap.size vn19 vs19 w20 HA20).mono ?_; rintro e w21 ⟨rfl, hB21⟩
  have HA21 : Hid (Ar w16.heap.size w21 w16.heap.size vn19 vs19 N2 S2) := HA20.out.later hB21
  have HW21 : Hid (NRow w21 a20 N2) := HW20.out.later hB21
  have HB21 : Hid (Below w.heap.size w w21) := HB20.out.trans (hB21.mono HB20.out.size)
  clear HA20 HW20 HB20 hB21
  obtain ⟨w22, hw22⟩ : ∃ w22, w22 = w21.alloc (.cells #[.int .i64 3, .int .u64 0, .int .i64 1, .int .i64 1, .int .u64 9, .int .i64 0] 37) := ⟨_, rfl⟩
  have hB22 : Below w21.heap.size w21 w22 := by rw [hw22]; exact (Below.refl _ _).alloc (Nat.le_refl _) _
  have HW22 : Hid (NRow w22 a20 N2) := HW21.out.later hB22
  have HL22 : Hid (NRow w22 (some ⟨w21.heap.size, 0, none⟩) N2) := by
    have hk : Blk w22 w21.heap.size 37 [.int .i64 3, .int .u64 0, .int .i64 1, .int .i64 1, .int .u64 9, .int .i64 0] := by rw [hw22]; exact Blk.newA w21 _ 37
    refine .inr ⟨_, _, rfl, hk.lt, fun i hi => ?_⟩
    match i, hi with
    | 0, _ => exact ⟨hk.cell 0, hk.cell 1, hk.cell 2⟩
    | 1, _ => exact ⟨hk.cell 3, hk.cell 4, hk.cell 5⟩
  have HB22 : Hid (Below w.heap.size w w22) := HB21.out.trans (hB22.mono HB21.out.size)
  go_wp2_with (first | (go_at_call 13; refine (num_any _ _).mono ?_; rintro e w' ⟨rfl, rfl⟩) | (go_at_call 26; refine (count_any _ _ _ _ _ _ _ HA21).mono ?_; rintro e w' ⟨rfl, rfl⟩) | (go_at_call 16; fail))
  rw [← hw22]
  clear hw22 hB22 HW21 HB21 HA21
  refine (eq2 a20 _ _ _ w22 HW22 HL22).mono ?_; rintro e w23 ⟨rfl, hB23⟩
  have HB23 : Hid (Below w.heap.size w w23) := HB22.out.trans (hB23.mono HB22.out.size)
  clear HW22 HL22 HB22 hB23
  go_wp2
  go_ret
  exact ⟨rfl, HB23.out⟩
end Go.Proofs.YtlbgdgobhiokpaaDoor

/- rest; Made: plain. -/
namespace Go.Proofs.YtlbgdgobhiokpaaDoor
open Go.RowKit
set_option linter.unusedVariables false

set_option maxRecDepth 100000 in
set_option maxHeartbeats 4000000 in
theorem rest_any (n lo hi : Int) (w : World) (h0 : 0 ≤ lo) (h1 : lo ≤ hi) (h2 : hi ≤ 100000) (hn : -9223372036854775808 ≤ n ∧ n ≤ 9223372036854775807) :
    Calls Tryd.prog 18 #[.int .i64 n, .int .i64 lo, .int .i64 hi] w fun e w' => ∃ r, e = .returned (.int .i64 r) ∧ lo ≤ r ∧ r ≤ hi ∧ w = w' := by
  obtain ⟨m, hm⟩ : ∃ m, hi - lo + 1 = m := ⟨_, rfl⟩
  have hm1 : 1 ≤ m := by omega
  have hm2 : m ≤ 100001 := by omega
  have e1 : -m < n.tmod m ∧ n.tmod m < m := ⟨by have := Int.lt_tmod_of_pos n (show 0 < m by omega); omega, Int.tmod_lt_of_pos n (by omega)⟩
  obtain ⟨t, ht⟩ : ∃ t, n.tmod m = t := ⟨_, rfl⟩
  rw [ht] at e1
  have e2 : 0 ≤ (t + m).tmod m ∧ (t + m).tmod m < m := ⟨Int.tmod_nonneg _ (by omega), Int.tmod_lt_of_pos _ (by omega)⟩
  obtain ⟨u, hu⟩ : ∃ u, (t + m).tmod m = u := ⟨_, rfl⟩
  rw [hu] at e2
  have hm0 : ¬ m = 0 := by omega
  have hme : ¬ m = -1 := by omega
  go_enter Tryd.func18, Tryd.ntmps18
  go_wp2
  go_ret
  exact ⟨lo + u, rfl, by omega, by omega, rfl⟩
/-- So many values are still missing behind these nodes. -/
def Pre (L : List Nd) (m : Int) : Prop := ∀ R, chk 1 0 (L ++ R) = chk m L.length R
theorem Pre.nil : Pre [] 1 := fun R => by simp
theorem Pre.step {L : List Nd} {m : Int} (h : Pre L m) {x : Nd} (hm : 0 < m) (hx : right x = true) : Pre (L ++ [x]) (m - 1 + x.2.2) := fun R => by
  rw [List.append_assoc, h ([x] ++ R), List.singleton_append, chk, if_neg (by simp [hx]; omega), List.length_append]
  congr 1
  · omega
structure MadeOk (M : List Nd) : Prop where
  ok : (chk 1 0 M).1 = 0
  len : M.length ≤ 450
  pos : ∀ x ∈ M, 0 ≤ x.2.1
theorem Pre.done {L : List Nd} (h : Pre L 0) : (chk 1 0 L).1 = 0 := by
  have := h []
  rw [List.append_nil] at this
  rw [this]
  rfl
theorem push_nd' {B : Nat} {w : World} {v : Value} {N : List Nd} (h : w.ownsRow B 37 3 v N.length (cellsN N)) (x : Nd) (hN : N.length ≤ 2000000) (hB : B ≤ w.heap.size) :
    ∃ g cap w', (Builtin.append_ #[22, 22] 22 #[v, .slice (some ⟨w.heap.size, 0, none⟩) 1 1]).run Tryd.prog (w.alloc (.cells #[.int .i64 x.1, .int .u64 x.2.1, .int .i64 x.2.2] 37)) = .ok (.slice (some ⟨g, 0, none⟩) (N.length + 1) cap) w' ∧ w'.ownsRow B 37 3 (.slice (some ⟨g, 0, none⟩) (N.length + 1) cap) (N ++ [x]).length (cellsN (N ++ [x])) ∧ Below B w w' ∧ Upd (fun k => v.ownBlock = some k) w w' := by
  obtain ⟨g, cap, w', r1, o1, u1, l1⟩ := run_pushS (P := Tryd.prog) (t := 22) (e := 37) (z := .agg #[.int .i64 0, .int .u64 0, .int .i64 0]) (bytes := 24) Tryd.underlying22 (by kernel_rfl) rfl (by decide) w 22 h (ndc x) rfl (by intro u hu; simp [ndc] at hu; rcases hu with rfl | rfl | rfl <;> rfl) (by unfold maxLen; omega) (by omega) hB
  exact ⟨g, cap, w', r1, by rw [List.length_append, cellsN_append, show cellsN [x] = ndc x by simp [cellsN]]; exact o1, u1.below B hB (fun k hk => (h.lt k hk).1), u1⟩
end Go.Proofs.YtlbgdgobhiokpaaDoor
