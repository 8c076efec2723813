/- The value of one small arena. -/
import Derived.Test.YtlbgdgobhiokpaaDoorZf
namespace Go.Proofs.YtlbgdgobhiokpaaDoor
open Go.RowKit
set_option linter.unusedVariables false

/-- A list of nodes and a list of numbers of the call's own grow. -/
theorem push_nd {B : Nat} {w : World} {v : Value} {N : List Nd} (h : w.ownsRow B 37 3 v N.length (cellsN N)) (x : Nd) (hN : N.length ≤ 2000000) (hB : B ≤ w.heap.size) :
    ∃ g cap w', (Builtin.append_ #[22, 22] 22 #[v, .slice (some ⟨w.heap.size, 0, none⟩) 1 1]).run Tryd.prog (w.alloc (.cells #[.int .i64 x.1, .int .u64 x.2.1, .int .i64 x.2.2] 37)) = .ok (.slice (some ⟨g, 0, none⟩) (N.length + 1) cap) w' ∧ w'.ownsRow B 37 3 (.slice (some ⟨g, 0, none⟩) (N.length + 1) cap) (N ++ [x]).length (cellsN (N ++ [x])) ∧ Below B w w' ∧ (∀ q t xs, t ≠ 37 → Blk w q t xs → Blk w' q t xs) ∧ ∀ e c u n xs, e ≠ 37 → w.ownsRow B e c u n xs → w'.ownsRow B e c u n xs := by
  obtain ⟨g, cap, w', r1, o1, u1, l1⟩ := run_pushS (P := Tryd.prog) (t := 22) (e := 37) (z := .agg #[.int .i64 0, .int .u64 0, .int .i64 0]) (bytes := 24) Tryd.underlying22 (by kernel_rfl) rfl (by decide) w 22 h (ndc x) rfl (by intro u hu; simp [ndc] at hu; rcases hu with rfl | rfl | rfl <;> rfl) (by unfold maxLen; omega) (by omega) hB
  refine ⟨g, cap, w', r1, by rw [List.length_append, cellsN_append, show cellsN [x] = ndc x by simp [cellsN]]; exact o1, u1.below B hB (fun k hk => (h.lt k hk).1), fun q t xs ht hb => hb.upd u1 fun hk => ?_, fun e c u n xs he ho => ownS_upd ho u1 fun q hq hk => ?_⟩
  · obtain ⟨ys, hy⟩ := ownS_type h hk
    exact ht (blk_type hb hy)
  · obtain ⟨ys, hy⟩ := ownS_type h hk
    obtain ⟨zs, hz⟩ := ownS_type ho hq
    exact he (blk_type hz hy)
theorem push_int {B : Nat} {w : World} {v : Value} {l : List Int} (h : w.ownsRow B 3 1 v l.length (cellsL .i64 l)) (x : Int) (hN : l.length ≤ 2000000) (hB : B ≤ w.heap.size) :
    ∃ g cap w', (Builtin.append_ #[43, 43] 43 #[v, .slice (some ⟨w.heap.size, 0, none⟩) 1 1]).run Tryd.prog (w.alloc (.cells #[.int .i64 x] 3)) = .ok (.slice (some ⟨g, 0, none⟩) (l.length + 1) cap) w' ∧ w'.ownsRow B 3 1 (.slice (some ⟨g, 0, none⟩) (l.length + 1) cap) (l ++ [x]).length (cellsL .i64 (l ++ [x])) ∧ Below B w w' ∧ ∀ e c u n xs, e ≠ 3 → w.ownsRow B e c u n xs → w'.ownsRow B e c u n xs := by
  obtain ⟨g, cap, w', r1, o1, u1, l1⟩ := run_push E43 w 43 B v l.length l h x (by unfold maxLen; omega) (by omega) hB
  refine ⟨g, cap, w', r1, by rw [List.length_append]; exact o1, u1.below B hB (fun k hk => (h.lt k hk).1), fun e c u n xs he ho => ownS_upd ho u1 fun q hq hk => ?_⟩
  obtain ⟨ys, hy⟩ := ownS_type h hk
  obtain ⟨zs, hz⟩ := ownS_type ho hq
  exact he (blk_type hz hy)
set_option maxRecDepth 100000 in
set_option maxHeartbeats 8000000 in
theorem value2 (b gn cn gs cs : Nat) (w : World) (hA : Hid (A2 w b gn cn gs cs)) : Calls Tryd.prog 25 #[.pointer (some ⟨b, 0, none⟩)] w fun e w' => ∃ v, e = .returned (.tuple #[v, .int .i64 0]) ∧ Hid (w'.ownsRow w.heap.size 37 3 v 2 (cellsN N2)) ∧ Below w.heap.size w w' := by
  have hcn := hA.out.hcn
  go_enter Tryd.func25, Tryd.ntmps25
  go_wp2_with fail
  refine (whole2 b gn cn gs cs w hA).mono ?_; rintro e w1 ⟨rfl, hB1⟩
  have hA1 : Hid (A2 w1 b gn cn gs cs) := hA.out.later hB1
  go_wp2_with fail
  refine (kids2 b gn cn gs cs w1 hA1).mono ?_; rintro e w2 ⟨rfl, ⟨v1, KT⟩, KR, hB2⟩
  have HBw2 : Hid (Below w.heap.size w w2) := hB1.trans (hB2.mono hB1.size)
  have hA2 : Hid (A2 w2 b gn cn gs cs) := hA.out.later HBw2.out
  obtain ⟨w3, hw3⟩ : ∃ w3, w3 = (w2.alloc (.cells #[.int .i64 0, .int .u64 0, .int .i64 0, .int .i64 0, .int .u64 0, .int .i64 0] 37)).alloc (.cells #[.int .i64 0] 3) := ⟨_, rfl⟩
  have HB3 : Hid (Below w2.heap.size w2 w3) := by rw [hw3]; exact ((Below.refl _ _).alloc (Nat.le_refl _) _).alloc (by simp) _
  have OV3 : Hid (w3.ownsRow w2.heap.size 37 3 (.slice (some ⟨w2.heap.size, 0, none⟩) 0 2) 0 (cellsN [])) := by
    rw [hw3]
    have hk := (Blk.newA w2 #[.int .i64 0, .int .u64 0, .int .i64 0, .int .i64 0, .int .u64 0, .int .i64 0] 37).alloc (.cells #[.int .i64 0] 3)
    exact ownS_of_blk (n := 0) (c := 3) (cap := 2) hk (Nat.le_refl _) rfl (by decide) (by decide)
  have KO3 : Blk w3 (w2.heap.size + 1) 3 [.int .i64 0] := by
    rw [hw3]
    have hk := Blk.newA (w2.alloc (.cells #[.int .i64 0, .int .u64 0, .int .i64 0, .int .i64 0, .int .u64 0, .int .i64 0] 37)) #[.int .i64 0] 3
    simpa using hk
  have OO3 : Hid (w3.ownsRow w2.heap.size 3 1 (.slice (some ⟨w2.heap.size + 1, 0, none⟩) 0 1) 0 (cellsL .i64 [])) := ownS_of_blk (n := 0) (c := 1) (cap := 1) KO3 (by omega) rfl (by decide) (by decide)
  have o0 : w3.cell? ⟨w2.heap.size + 1, 0, none⟩ = some (.int .i64 0) := KO3.cell 0
  have hA3 : Hid (A2 w3 b gn cn gs cs) := hA2.out.later HB3.out
  have hmk := mk22
  have c0 := hA2.out.c0
  go_wp2_with fail
  rw [← hw3]
  clear hw3 hmk c0 hA2 hB2
  refine wp_unroll 3 ?_
  unfold unr
  -- the first node
  obtain ⟨gv, cv, w4, r4, o4, b4, k4, e4⟩ := push_nd (N := []) OV3.out (3, 0, 1) (by decide) HB3.out.size
  have R4 : Hid ((Builtin.append_ #[22, 22] 22 #[.slice (some ⟨w2.heap.size, 0, none⟩) 0 2, .slice (some ⟨w3.heap.size, 0, none⟩) 1 1]).run Tryd.prog (w3.alloc (.cells #[.int .i64 3, .int .u64 0, .int .i64 1] 37)) = .ok (.slice (some ⟨gv, 0, none⟩) 1 cv) w4) := r4
  have OV4 : Hid (w4.ownsRow w2.heap.size 37 3 (.slice (some ⟨gv, 0, none⟩) 1 cv) 1 (cellsN [(3, 0, 1)])) := o4
  have OO4 : Hid (w4.ownsRow w2.heap.size 3 1 (.slice (some ⟨w2.heap.size + 1, 0, none⟩) 0 1) 0 (cellsL .i64 [])) := e4 _ _ _ _ _ (by decide) OO3.out
  have HB4 : Hid (Below w2.heap.size w2 w4) := HB3.out.trans b4
  have hA4 : Hid (A2 w4 b gn cn gs cs) := hA.out.later (HBw2.out.trans (HB4.out.mono HBw2.out.size))
  clear r4 o4 b4 k4 e4
  have c0 := hA3.out.c0; have n0 := hA3.out.n0; have n1 := hA3.out.n1; have n2 := hA3.out.n2
  have d0 := hA4.out.c0; have m2 := hA4.out.n2
  have t0 : w4.cell? ⟨w1.heap.size + 1, 0, none⟩ = some (.slice (some ⟨w1.heap.size, 0, none⟩) 1 1) := (KT.out.below HB4.out KT.out.lt).cell 0
  have r0 : w4.cell? ⟨w1.heap.size, 0, none⟩ = some (.int .i64 1) := (KR.out.below HB4.out KR.out.lt).cell 0
  go_wp2_with (at_builtin; have _t := R4; refine wpList_append_run rfl (.tmp 35) (.tmp 43) 22 22 rfl rfl rfl R4.out ?_; clear R4)
  refine wp_unroll 2 ?_
  unfold unr
  -- its kid
  obtain ⟨go, co, w5, r5, o5, b5, e5⟩ := push_int (l := []) OO4.out 1 (by decide) HB4.out.size
  have R5 : Hid ((Builtin.append_ #[43, 43] 43 #[.slice (some ⟨w2.heap.size + 1, 0, none⟩) 0 1, .slice (some ⟨w4.heap.size, 0, none⟩) 1 1]).run Tryd.prog (w4.alloc (.cells #[.int .i64 1] 3)) = .ok (.slice (some ⟨go, 0, none⟩) 1 co) w5) := r5
  have OO5 : Hid (w5.ownsRow w2.heap.size 3 1 (.slice (some ⟨go, 0, none⟩) 1 co) 1 (cellsL .i64 [1])) := o5
  have OV5 : Hid (w5.ownsRow w2.heap.size 37 3 (.slice (some ⟨gv, 0, none⟩) 1 cv) 1 (cellsN [(3, 0, 1)])) := e5 _ _ _ _ _ (by decide) OV4.out
  have HB5 : Hid (Below w2.heap.size w2 w5) := HB4.out.trans b5
  have hA5 : Hid (A2 w5 b gn cn gs cs) := hA.out.later (HBw2.out.trans (HB5.out.mono HBw2.out.size))
  clear r5 o5 b5 e5
  go_wp2_with (at_builtin; have _t := R5; refine wpList_append_run rfl (.tmp 58) (.tmp 66) 43 43 rfl rfl rfl R5.out ?_; clear R5)
  clear c0 n0 n1 n2 d0 m2 t0 r0 o0 OV3 OO3 OV4 OO4 KO3 hA3 hA4 HB3 HB4
  unfold unr
  go_wp2_with fail
  unfold unr
  -- the second node
  obtain ⟨gv6, cv6, w6, r6, o6, b6, k6, e6⟩ := push_nd (N := [(3, 0, 1)]) OV5.out (1, 9, 0) (by decide) HB5.out.size
  have R6 : Hid ((Builtin.append_ #[22, 22] 22 #[.slice (some ⟨gv, 0, none⟩) 1 cv, .slice (some ⟨w5.heap.size, 0, none⟩) 1 1]).run Tryd.prog (w5.alloc (.cells #[.int .i64 1, .int .u64 9, .int .i64 0] 37)) = .ok (.slice (some ⟨gv6, 0, none⟩) 2 cv6) w6) := r6
  have OV6 : Hid (w6.ownsRow w2.heap.size 37 3 (.slice (some ⟨gv6, 0, none⟩) 2 cv6) 2 (cellsN [(3, 0, 1), (1, 9, 0)])) := o6
  have HB6 : Hid (Below w2.heap.size w2 w6) := HB5.out.trans b6
  have hA6 : Hid (A2 w6 b gn cn gs cs) := hA.out.later (HBw2.out.trans (HB6.out.mono HBw2.out.size))
  clear r6 o6 b6 k6 e6
  have o1 : w5.cell? ⟨go, 0, none⟩ = some (.int .i64 1) := by
    obtain ⟨g, cap, ys, e, -, -, -, -, ht, hK⟩ := own_blk OO5.out (by decide)
    have e1 : go = g ∧ co = cap := by simpa using e
    obtain ⟨rfl, rfl⟩ := e1
    rw [hK.cell]
    have : (ys.take 1)[0]? = some (.int .i64 1) := by rw [ht]; rfl
    rwa [List.getElem?_take, if_pos (by decide)] at this
  have hco : 1 ≤ co ∧ co ≤ 9223372036854775807 := by
    obtain ⟨g, cap, ys, e, -, h1, h2, -⟩ := own_blk OO5.out (by decide)
    have e1 : go = g ∧ co = cap := by simpa using e
    obtain ⟨rfl, rfl⟩ := e1
    unfold maxLen at h2
    exact ⟨h1, h2⟩
  obtain ⟨hco1, hco2⟩ := hco
  have c0 := hA5.out.c0; have n3 := hA5.out.n3; have n4 := hA5.out.n4; have n5 := hA5.out.n5
  have d0 := hA6.out.c0; have m5 := hA6.out.n5
  go_wp2_with (at_builtin; have _t := R6; refine wpList_append_run rfl (.tmp 35) (.tmp 43) 22 22 rfl rfl rfl R6.out ?_; clear R6)
  refine wp_unroll 1 ?_
  unfold unr
  go_wp2_with fail
  unfold unr
  go_wp2
  go_ret2
  exact ⟨_, rfl, own_base OV6.out HBw2.out.size, HBw2.out.trans (HB6.out.mono HBw2.out.size)⟩
end Go.Proofs.YtlbgdgobhiokpaaDoor
