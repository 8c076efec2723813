/- The value of one small arena. -/
import Derived.Test.YtlbgdgobhiokpaaDoorZd
namespace Go.Proofs.YtlbgdgobhiokpaaDoor
open Go.RowKit
set_option linter.unusedVariables false

theorem mk43 (w : World) : (Instr.makeSlice 43 (.int .i64 1) (.int .i64 1)).run Tryd.prog w = .ok (.slice (some ⟨w.heap.size, 0, none⟩) 1 1) (w.alloc (.cells #[.int .i64 0] 3)) := by kernel_rfl
theorem mk68 (w : World) : (Instr.makeSlice 68 (.int .i64 2) (.int .i64 2)).run Tryd.prog w = .ok (.slice (some ⟨w.heap.size, 0, none⟩) 2 2) (w.alloc (.cells #[.slice none 0 0, .slice none 0 0] 43)) := by kernel_rfl
theorem mk22 (w : World) : (Instr.makeSlice 22 (.int .i64 0) (.int .i64 2)).run Tryd.prog w = .ok (.slice (some ⟨w.heap.size, 0, none⟩) 0 2) (w.alloc (.cells #[.int .i64 0, .int .u64 0, .int .i64 0, .int .i64 0, .int .u64 0, .int .i64 0] 37)) := by kernel_rfl
def N2 : List Nd := [(3, 0, 1), (1, 9, 0)]
def S2 : Stk := [(-1, 0), (0, 0)]
/-- What lies in memory, cell by cell. -/
structure A2 (w : World) (b gn cn gs cs : Nat) : Prop where
  c0 : w.cell? ⟨b, 0, none⟩ = some (.slice (some ⟨gn, 0, none⟩) 2 cn)
  c1 : w.cell? ⟨b, 1, none⟩ = some (.slice (some ⟨gs, 0, none⟩) 2 cs)
  c2 : w.cell? ⟨b, 2, none⟩ = some (.map none)
  n0 : w.cell? ⟨gn, 0, none⟩ = some (.int .i64 3)
  n1 : w.cell? ⟨gn, 1, none⟩ = some (.int .u64 0)
  n2 : w.cell? ⟨gn, 2, none⟩ = some (.int .i64 1)
  n3 : w.cell? ⟨gn, 3, none⟩ = some (.int .i64 1)
  n4 : w.cell? ⟨gn, 4, none⟩ = some (.int .u64 9)
  n5 : w.cell? ⟨gn, 5, none⟩ = some (.int .i64 0)
  s2 : w.cell? ⟨gs, 2, none⟩ = some (.int .i64 0)
  s3 : w.cell? ⟨gs, 3, none⟩ = some (.int .i64 0)
  s0 : w.cell? ⟨gs, 0, none⟩ = some (.int .i64 (-1))
  s1 : w.cell? ⟨gs, 1, none⟩ = some (.int .i64 0)
  hb : b < w.heap.size
  hn : gn < w.heap.size
  hs : gs < w.heap.size
  hcn : cn ≤ 9223372036854775807
  hcs : cs ≤ 9223372036854775807
theorem A2.later {w w' : World} {b gn cn gs cs : Nat} (h : A2 w b gn cn gs cs) (hB : Below w.heap.size w w') : A2 w' b gn cn gs cs := by
  have e : ∀ g i, g < w.heap.size → w'.cell? ⟨g, i, none⟩ = w.cell? ⟨g, i, none⟩ := fun g i hg => hB.cell (p := ⟨g, i, none⟩) hg
  exact ⟨(e _ _ h.hb).trans h.c0, (e _ _ h.hb).trans h.c1, (e _ _ h.hb).trans h.c2, (e _ _ h.hn).trans h.n0, (e _ _ h.hn).trans h.n1, (e _ _ h.hn).trans h.n2, (e _ _ h.hn).trans h.n3, (e _ _ h.hn).trans h.n4, (e _ _ h.hn).trans h.n5,
    (e _ _ h.hs).trans h.s2, (e _ _ h.hs).trans h.s3, (e _ _ h.hs).trans h.s0, (e _ _ h.hs).trans h.s1, Nat.lt_of_lt_of_le h.hb hB.size, Nat.lt_of_lt_of_le h.hn hB.size, Nat.lt_of_lt_of_le h.hs hB.size, h.hcn, h.hcs⟩
theorem A2.of {B b : Nat} {w : World} {vn vs : Value} (h : Ar B w b vn vs N2 S2) : ∃ gn cn gs cs, vn = .slice (some ⟨gn, 0, none⟩) 2 cn ∧ vs = .slice (some ⟨gs, 0, none⟩) 2 cs ∧ A2 w b gn cn gs cs := by
  obtain ⟨gn, cn, ys, rfl, -, -, hm, -, ht, hK⟩ := ownS_blk h.nod (by decide)
  obtain ⟨gs, cs, zs, rfl, -, -, hm2, -, ht2, hK2⟩ := ownS_blk h.spo (by decide)
  have hat : ∀ i, i < 6 → ys[i]? = (cellsN N2)[i]? := fun i hi => by rw [← ht, List.getElem?_take, if_pos (show i < N2.length * 3 from hi)]
  have hat2 : ∀ i, i < 4 → zs[i]? = (cellsS S2)[i]? := fun i hi => by rw [← ht2, List.getElem?_take, if_pos (show i < S2.length * 2 from hi)]
  unfold maxLen at hm hm2
  refine ⟨gn, cn, gs, cs, rfl, rfl, h.c0, h.c1, h.c2, ?_, ?_, ?_, ?_, ?_, ?_, ?_, ?_, ?_, ?_, h.blk.lt, hK.lt, hK2.lt, hm, hm2⟩
  · rw [hK.cell, hat _ (by decide)]; rfl
  · rw [hK.cell, hat _ (by decide)]; rfl
  · rw [hK.cell, hat _ (by decide)]; rfl
  · rw [hK.cell, hat _ (by decide)]; rfl
  · rw [hK.cell, hat _ (by decide)]; rfl
  · rw [hK.cell, hat _ (by decide)]; rfl
  · rw [hK2.cell, hat2 _ (by decide)]; rfl
  · rw [hK2.cell, hat2 _ (by decide)]; rfl
  · rw [hK2.cell, hat2 _ (by decide)]; rfl
  · rw [hK2.cell, hat2 _ (by decide)]; rfl
set_option maxRecDepth 100000 in
set_option maxHeartbeats 8000000 in
theorem whole2 (b gn cn gs cs : Nat) (w : World) (hA : Hid (A2 w b gn cn gs cs)) : Calls Tryd.prog 47 #[.pointer (some ⟨b, 0, none⟩)] w fun e w' => e = .returned (.bool true) ∧ Below w.heap.size w w' := by
  have c0 := hA.out.c0; have c2 := hA.out.c2; have n0 := hA.out.n0; have n1 := hA.out.n1; have n2 := hA.out.n2
  have hcn := hA.out.hcn
  go_enter Tryd.func47, Tryd.ntmps47
  go_wp2_with fail
  refine wp_unroll 3 ?_
  unfold unr
  go_wp2_with fail
  refine (right_any (3, 0, 1) _).mono ?_; rintro e w1 ⟨rfl, hB1⟩
  have hBw : Below w.heap.size w w1 := ((Below.refl w.heap.size w).alloc (Nat.le_refl _) _).trans (hB1.mono (by simp))
  have hA1 : Hid (A2 w1 b gn cn gs cs) := hA.out.later hBw
  clear c0 c2 n0 n1 n2 hB1
  have c0 := hA1.out.c0; have c2 := hA1.out.c2; have n3 := hA1.out.n3; have n4 := hA1.out.n4; have n5 := hA1.out.n5
  have hr1 : right (3, 0, 1) = true := by decide
  rw [hr1]
  go_wp2_with fail
  unfold unr
  go_wp2_with fail
  refine (right_any (1, 9, 0) _).mono ?_; rintro e w2 ⟨rfl, hB2⟩
  have hBw2 : Below w.heap.size w w2 := (hBw.alloc hBw.size _).trans (hB2.mono (by have := hBw.size; simp; omega))
  have hA2 : Hid (A2 w2 b gn cn gs cs) := hA.out.later hBw2
  clear c0 c2 n3 n4 n5 hB2
  have c0 := hA2.out.c0; have c2 := hA2.out.c2
  have hr2 : right (1, 9, 0) = true := by decide
  rw [hr2]
  go_wp2_with fail
  unfold unr
  go_wp2
  go_ret
  exact ⟨rfl, hBw2⟩
end Go.Proofs.YtlbgdgobhiokpaaDoor
