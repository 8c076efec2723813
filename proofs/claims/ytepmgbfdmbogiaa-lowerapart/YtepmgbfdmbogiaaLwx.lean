/- mortiselaw16: box, awake. -/
import Derived.Test.YtepmgbfdmbogiaaLca
import Derived.Test.YtepmgbfdmbogiaaLwh
import Derived.Test.YtepmgbfdmbogiaaLwq
namespace Go.Proofs.Ytepmgbfdmbogiaa
open Go.RowKit
set_option linter.unusedVariables false

theorem num_any (n : Int) (w : World) : Calls Try.prog 9 #[.int .i64 n] w fun e w' => e = .returned (.int .i64 n) ∧ w = w' := by
  go_enter Try.func9, Try.ntmps9
  go_wp2_with fail
  go_ret
  exact ⟨rfl, rfl⟩
def bxT : List Ty := [⟨1, 1, 0, []⟩, ⟨1, 2, 0, []⟩, ⟨5, 9, 1, []⟩, ⟨1, 1, 0, []⟩, ⟨8, 0, 0, [⟨⟨#[97]⟩, 0, 0⟩, ⟨⟨#[98]⟩, 0, 2⟩, ⟨⟨#[99]⟩, 0, 3⟩]⟩]
def bxR : List Rt := [⟨⟨#[98, 111, 120]⟩, 4⟩]
def bxC : List In := [⟨1, -1, 1, 0⟩, ⟨20, 0, 0, 0⟩, ⟨1, -1, 2, 0⟩, ⟨20, 0, 0, 0⟩, ⟨5, 0, 0, 0⟩, ⟨13, 9, 8, 0⟩, ⟨1, -1, 2, 0⟩, ⟨19, 0, 5, 0⟩, ⟨20, 0, 0, 0⟩, ⟨1, -1, 1, 0⟩, ⟨20, 0, 0, 0⟩, ⟨6, 0, 0, 0⟩, ⟨1, 0, 1, 0⟩, ⟨10, 6, 0, 0⟩, ⟨1, 2, 1, 0⟩, ⟨17, 1, 0, 2⟩, ⟨18, 0, 0, 0⟩, ⟨20, 0, 0, 0⟩]
theorem bx_a : lowA bxT bxR = 0 := by decide +kernel
theorem bx_y : lowY bxT bxR = [0, 2, 4, 9, 11] := by decide +kernel
theorem bx_x : eqL inEq (lowX bxT bxR) bxC = true := by decide +kernel
theorem op_a : lowA [⟨6, 0, 0, []⟩] [] = 92 := by decide +kernel
theorem no_a : lowA [] [] = 0 := by decide +kernel
set_option maxRecDepth 100000 in
set_option maxHeartbeats 4000000 in
theorem box_any (w : World) : Calls Try.prog 15 #[] w fun e w' => ∃ aT cT aR cR, e = .returned (.agg #[.slice aT 5 cT, .slice aR 1 cR]) ∧ Hid (TRow w' aT bxT) ∧ Hid (RRow w' aR bxR) ∧ Below w.heap.size w w' := by
  obtain ⟨w1, hw1⟩ : ∃ wx, wx = w.alloc (.cells #[.slice none 0 0, .slice none 0 0] 25) := ⟨_, rfl⟩
  have b1 : Below w.heap.size w w1 := by rw [hw1]; exact below1 _ _
  have k1 : Blk w1 w.heap.size 25 [.slice none 0 0, .slice none 0 0] := by rw [hw1]; exact Blk.newA w _ _
  obtain ⟨w2, hw2⟩ : ∃ wx, wx = w1.alloc (.cells #[.int .i64 1, .int .i64 1, .int .i64 0, .slice none 0 0, .int .i64 1, .int .i64 2, .int .i64 0, .slice none 0 0, .int .i64 5, .int .i64 9, .int .i64 1, .slice none 0 0, .int .i64 1, .int .i64 1, .int .i64 0, .slice none 0 0] 54) := ⟨_, rfl⟩
  have b2 : Below w1.heap.size w1 w2 := by rw [hw2]; exact below1 _ _
  have k2 : Blk w2 w1.heap.size 54 [.int .i64 1, .int .i64 1, .int .i64 0, .slice none 0 0, .int .i64 1, .int .i64 2, .int .i64 0, .slice none 0 0, .int .i64 5, .int .i64 9, .int .i64 1, .slice none 0 0, .int .i64 1, .int .i64 1, .int .i64 0, .slice none 0 0] := by rw [hw2]; exact Blk.newA w1 _ _
  obtain ⟨w3, hw3⟩ : ∃ wx, wx = w2.alloc (.cells #[.string ⟨#[97]⟩, .int .i64 0, .int .i64 0, .string ⟨#[98]⟩, .int .i64 0, .int .i64 2, .string ⟨#[99]⟩, .int .i64 0, .int .i64 3] 56) := ⟨_, rfl⟩
  have b3 : Below w2.heap.size w2 w3 := by rw [hw3]; exact below1 _ _
  have k3 : Blk w3 w2.heap.size 56 (cellsG ptc [⟨⟨#[97]⟩, 0, 0⟩, ⟨⟨#[98]⟩, 0, 2⟩, ⟨⟨#[99]⟩, 0, 3⟩]) := by rw [hw3]; exact Blk.newA w2 _ _
  have hnil : ∀ (w' : World) (B : Nat), PtIn w' B [] (.slice none 0 0) := fun w' B => ⟨none, 0, rfl, Nat.le_refl _, fun _ => rfl, .inl rfl, .inl rfl⟩
  have own2 : TOwn w2 w.heap.size (.slice (some ⟨w1.heap.size, 0, none⟩) 4 4) [(⟨1, 1, 0, []⟩, .slice none 0 0), (⟨1, 2, 0, []⟩, .slice none 0 0), (⟨5, 9, 1, []⟩, .slice none 0 0), (⟨1, 1, 0, []⟩, .slice none 0 0)] := by
    refine ⟨ownS_of_blk (c := 4) (n := 4) (cap := 4) k2 b1.size rfl (Nat.le_refl _) (by unfold maxLen; omega), fun p hp => ?_⟩
    simp only [List.mem_cons, List.not_mem_nil, or_false] at hp
    rcases hp with rfl | rfl | rfl | rfl <;> exact hnil _ _
  obtain ⟨g, cap, w4, hrun, hO4, hU4, -⟩ := (own2.later b3).push2 ⟨8, 0, 0, [⟨⟨#[97]⟩, 0, 0⟩, ⟨⟨#[98]⟩, 0, 2⟩, ⟨⟨#[99]⟩, 0, 3⟩]⟩ (.slice (some ⟨w2.heap.size, 0, none⟩) 3 3) rfl ⟨_, 3, rfl, Nat.le_refl _, (fun h => by cases h), blk_grow ptc_len k3, .inr (fun x hx => by injection hx with hx; subst hx; exact .inr ⟨_, k3⟩)⟩ (by simp) (Nat.le_trans b1.size (Nat.le_trans b2.size b3.size))
  have hz3 : w3.heap.size = w2.heap.size + 1 := by rw [hw3]; simp
  rw [hz3, hw3] at hrun
  have HR := hide_ hrun
  have hown : ∀ k, (Value.slice (some ⟨w1.heap.size, 0, none⟩) 4 4).ownBlock = some k → k = w1.heap.size := fun k e => (own_is e).symm
  have k4 : Blk w4 w.heap.size 25 [.slice none 0 0, .slice none 0 0] := ((k1.later b2).later b3).upd hU4 (fun e => by have := hown _ e; have := k1.lt; omega)
  have B4 : Below w.heap.size w w4 := (below_to (below_to b1 b2) b3).trans (hU4.below _ (Nat.le_trans b1.size (Nat.le_trans b2.size b3.size)) (fun k e => by have := hown k e; have := b1.size; omega))
  obtain ⟨w5, hw5⟩ : ∃ wx, wx = w4.alloc (.cells #[.string ⟨#[98, 111, 120]⟩, .int .i64 4] 58) := ⟨_, rfl⟩
  have b5 : Below w4.heap.size w4 w5 := by rw [hw5]; exact below1 _ _
  have k5 : Blk w5 w4.heap.size 58 (cellsG rtc bxR) := by rw [hw5]; exact Blk.newA w4 _ _
  have k6 := k4.later b5
  have HTf : Hid (TRow ((w5.setCell ⟨w.heap.size, 0, none⟩ (.slice (some ⟨g, 0, none⟩) 5 cap)).setCell ⟨w.heap.size, 1, none⟩ (.slice (some ⟨w4.heap.size, 0, none⟩) 1 1)) (some ⟨g, 0, none⟩) bxT) := hide_ (town_row (((hO4.later b5).other k6 (Nat.le_refl _) (by decide) (by decide) 0 _).other (k6.set 0 _) (Nat.le_refl _) (by decide) (by decide) 1 _) rfl)
  have HRf : Hid (RRow ((w5.setCell ⟨w.heap.size, 0, none⟩ (.slice (some ⟨g, 0, none⟩) 5 cap)).setCell ⟨w.heap.size, 1, none⟩ (.slice (some ⟨w4.heap.size, 0, none⟩) 1 1)) (some ⟨w4.heap.size, 0, none⟩) bxR) := hide_ (blk_grow rtc_len ((k5.other _ _ (by show w4.heap.size ≠ w.heap.size; have := k4.lt; omega)).other _ _ (by show w4.heap.size ≠ w.heap.size; have := k4.lt; omega)))
  have HKf : Hid (Blk ((w5.setCell ⟨w.heap.size, 0, none⟩ (.slice (some ⟨g, 0, none⟩) 5 cap)).setCell ⟨w.heap.size, 1, none⟩ (.slice (some ⟨w4.heap.size, 0, none⟩) 1 1)) w.heap.size 25 [.slice (some ⟨g, 0, none⟩) 5 cap, .slice (some ⟨w4.heap.size, 0, none⟩) 1 1]) := hide_ (by have := (k6.set 0 (.slice (some ⟨g, 0, none⟩) 5 cap)).set 1 (.slice (some ⟨w4.heap.size, 0, none⟩) 1 1); simpa using this)
  have HBf := hide_ (below_set (below_set (below_to B4 b5) w.heap.size 0 (.slice (some ⟨g, 0, none⟩) 5 cap) (Nat.le_refl _)) w.heap.size 1 (.slice (some ⟨w4.heap.size, 0, none⟩) 1 1) (Nat.le_refl _))
  have s0 := k6.cell 0; have s1 := k6.cell 1
  have sz := fun i => k6.frozen i
  simp at s0 s1
  subst hw5
  clear b1 b2 b3 k1 k2 k3 own2 hrun hz3 hO4 hU4 hown k4 B4 b5 k5 k6 hnil
  go_enter Try.func15, Try.ntmps15
  go_upto_region 1 with fail
  rw [← hw1]
  clear hw1
  go_upto_region 2 with fail
  rw [← hw2]
  clear hw2
  go_upto_region 3 with (at_builtin; refine wpList_append_run rfl (.tmp 7) (.tmp 13) 22 22 rfl rfl rfl HR.out ?_)
  clear HR hw3
  go_wp2_with fail
  refine bodyPost_ret (results_cell_row rfl _ _ w.heap.size 25 #[.slice (some ⟨g, 0, none⟩) 5 cap, .slice (some ⟨w4.heap.size, 0, none⟩) 1 1] _ _ rfl HKf.out Try.underlying25 rfl (by show _ = some 2; kernel_rfl)) rfl ?_
  exact ⟨_, _, _, _, rfl, HTf, HRf, HBf.out⟩
theorem bx_lens : LensT bxT := ⟨by decide, fun t ht => by
  simp only [bxT, List.mem_cons, List.not_mem_nil, or_false] at ht
  rcases ht with rfl | rfl | rfl | rfl | rfl <;> simp⟩
theorem op_lens : LensT [⟨6, 0, 0, []⟩] := ⟨by decide, fun t ht => by
  simp only [List.mem_cons, List.not_mem_nil, or_false] at ht
  subst ht
  simp⟩
theorem no_lens : LensT [] := ⟨by decide, fun t ht => (by cases ht)⟩
set_option maxRecDepth 100000 in
set_option maxHeartbeats 4000000 in
theorem awake_any (w : World) : Calls Try.prog 6 #[] w fun e w' => e = .returned (.bool true) ∧ Below w.heap.size w w' := by
  have HBx := hide_ (box_any w)
  go_enter Try.func6, Try.ntmps6
  go_wp2_with fail
  refine HBx.out.mono ?_
  rintro e w1 ⟨aT, cT, aR, cR, rfl, HT1, HR1, hB1⟩
  have HB1 := hide_ hB1
  have hd := decoder_any aT cT bxT aR cR bxR w1 (by decide) (by decide) (hide_ bx_lens) HT1 HR1
  rw [show bxT.length = 5 from rfl, show bxR.length = 1 from rfl] at hd
  have HD := hide_ hd
  clear hd hB1 HBx
  go_wp2_with fail
  refine HD.out.mono ?_
  rintro e w2 ⟨vC, vE, rfl, HC2, HE2, hB2⟩
  obtain ⟨ac, cc, rfl, -, -, -⟩ := HC2.out.row
  obtain ⟨ae, ce, rfl, -, -, -⟩ := HE2.out.row
  rw [bx_a]
  obtain ⟨w3, hw3⟩ : ∃ wx, wx = w2.alloc (.cells #[.bool false, .slice ac (lowX bxT bxR).length cc, .slice ae (lowY bxT bxR).length ce] 31) := ⟨_, rfl⟩
  have hB3 : Below w2.heap.size w2 w3 := by rw [hw3]; exact below1 _ _
  have KP : Hid (Blk w3 w2.heap.size 31 [.bool false, .slice ac (lowX bxT bxR).length cc, .slice ae (lowY bxT bxR).length ce]) := hide_ (by rw [hw3]; exact Blk.newA w2 _ _)
  have HC3 := hide_ (HC2.out.later hB3)
  have HE3 := hide_ (HE2.out.later hB3)
  have HB3 := hide_ (below_to HB1.out (below_to hB2 hB3))
  clear HD hB2 hB3 HC2 HE2 HB1 HT1 HR1
  go_upto_region 2 with fail
  rw [← hw3]
  clear hw3
  obtain ⟨w4, hw4⟩ : ∃ wx, wx = w3.alloc (.cells #[.int .i64 6, .int .i64 0, .int .i64 0, .slice none 0 0] 54) := ⟨_, rfl⟩
  have hB4 : Below w3.heap.size w3 w4 := by rw [hw4]; exact below1 _ _
  have k4 : Blk w4 w3.heap.size 54 [.int .i64 6, .int .i64 0, .int .i64 0, .slice none 0 0] := by rw [hw4]; exact Blk.newA w3 _ _
  have hT4 : TRow w4 (some ⟨w3.heap.size, 0, none⟩) [⟨6, 0, 0, []⟩] := by
    refine .inr ⟨_, 0, rfl, k4.lt, fun i t ht => ?_⟩
    have hi := (List.getElem?_eq_some_iff.1 ht).1
    obtain rfl : i = 0 := by simp at hi; omega
    simp at ht
    subst ht
    refine ⟨none, 0, fun j hj => ?_, Nat.le_refl _, fun _ => rfl, .inl rfl⟩
    rw [k4.cell, Nat.zero_add]
    simp [tyc]
  have hd := decoder_any (some ⟨w3.heap.size, 0, none⟩) 1 [⟨6, 0, 0, []⟩] none 0 [] w4 (by decide) (by decide) (hide_ op_lens) (hide_ hT4) (hide_ (.inl rfl))
  simp only [List.length_cons, List.length_nil, Nat.zero_add] at hd
  have HD := hide_ hd
  have HB4 := hide_ hB4
  clear hd k4 hT4 hB4
  go_wp2_with fail
  rw [← hw4]
  refine HD.out.mono ?_
  rintro e w5 ⟨vC5, vE5, rfl, HC5, HE5, hB5⟩
  obtain ⟨ac5, cc5, rfl, -, -, -⟩ := HC5.out.row
  obtain ⟨ae5, ce5, rfl, -, -, -⟩ := HE5.out.row
  rw [op_a]
  have HB5 := hide_ (below_to HB4.out hB5)
  clear hw4 HD HB4 hB5 HC5 HE5
  generalize (lowX [⟨6, 0, 0, []⟩] []).length = l5 at *
  generalize (lowY [⟨6, 0, 0, []⟩] []).length = m5 at *
  obtain ⟨w6, hw6⟩ : ∃ wx, wx = w5.alloc (.cells #[.bool false, .slice ac5 l5 cc5, .slice ae5 m5 ce5] 31) := ⟨_, rfl⟩
  have HB6 := hide_ (below_to HB5.out (show Below w5.heap.size w5 w6 by rw [hw6]; exact below1 _ _))
  clear HB5
  go_upto_region 3 with fail
  rw [← hw6]
  clear hw6
  have hd := decoder_any none 0 [] none 0 [] w6 (by decide) (by decide) (hide_ no_lens) (hide_ (.inl rfl)) (hide_ (.inl rfl))
  simp only [List.length_nil] at hd
  have HD := hide_ hd
  clear hd
  go_wp2_with fail
  refine HD.out.mono ?_
  rintro e w7 ⟨vC7, vE7, rfl, HC7, HE7, hB7⟩
  obtain ⟨ac7, cc7, rfl, -, -, -⟩ := HC7.out.row
  obtain ⟨ae7, ce7, rfl, -, -, -⟩ := HE7.out.row
  rw [no_a, show (lowX [] []).length = 0 from rfl]
  generalize (lowY [] []).length = m7 at *
  obtain ⟨w8, hw8⟩ : ∃ wx, wx = w7.alloc (.cells #[.bool false, .slice ac7 0 cc7, .slice ae7 m7 ce7] 31) := ⟨_, rfl⟩
  have hB8 : Below w7.heap.size w7 w8 := by rw [hw8]; exact below1 _ _
  have K8 : Hid (Blk w8 w7.heap.size 31 [.bool false, .slice ac7 0 cc7, .slice ae7 m7 ce7]) := hide_ (by rw [hw8]; exact Blk.newA w7 _ _)
  have HB8 := hide_ (below_to HB6.out (below_to hB7 hB8))
  clear HD HC7 HE7 hB7 hB8 HB6
  go_upto_region 4 with fail
  rw [← hw8]
  clear hw8
  obtain ⟨w9, hw9⟩ : ∃ wx, wx = w8.alloc (.cells (cellsG inc bxC).toArray 40) := ⟨_, rfl⟩
  have hB9 : Below w8.heap.size w8 w9 := by rw [hw9]; exact below1 _ _
  have k9 : Blk w9 w8.heap.size 40 (cellsG inc bxC) := by rw [hw9]; exact Blk.newA w8 _ _
  obtain ⟨wA, hwA⟩ : ∃ wx, wx = w9.alloc (.cells #[.int .i64 0, .int .i64 2, .int .i64 4, .int .i64 9, .int .i64 11] 3) := ⟨_, rfl⟩
  have hBA : Below w9.heap.size w9 wA := by rw [hwA]; exact below1 _ _
  have kA : Blk wA w9.heap.size 3 (cellsL .i64 [0, 2, 4, 9, 11]) := by rw [hwA]; exact Blk.newA w9 _ _
  have hB0 : Below w3.heap.size w3 wA := below_to HB8.out (below_to hB9 hBA)
  have hxe : lowX bxT bxR = bxC := (eqL_iff inEq_iff).1 bx_x
  have hq := requal_any false false ac (some ⟨w8.heap.size, 0, none⟩) ae (some ⟨w9.heap.size, 0, none⟩) cc 18 ce 5 (lowX bxT bxR) bxC (lowY bxT bxR) [0, 2, 4, 9, 11] wA (by rw [hxe]; decide) (by decide) (by rw [bx_y]; decide) (by decide) (hide_ (HC3.out.later hB0).rowS) (hide_ ((blk_grow inc_len k9).later hBA)) (hide_ (HE3.out.later hB0).rowS) (hide_ kA.row)
  rw [eqP_iff.2 ⟨rfl, bx_y, hxe⟩, show bxC.length = 18 from rfl] at hq
  simp only [List.length_cons, List.length_nil, Nat.zero_add] at hq
  have HQ := hide_ hq
  have p9 := K8.out.later hB9
  have p1 := p9.cell 1
  have kpA := KP.out.later hB0
  have q0 := kpA.cell 0; have q1 := kpA.cell 1; have q2 := kpA.cell 2
  simp at p1 q0 q1 q2
  have kp9 := KP.out.later (below_to HB8.out hB9)
  have r0 := kp9.cell 0; have r1 := kp9.cell 1; have r2 := kp9.cell 2
  simp at r0 r1 r2
  have HBf := hide_ (below_to HB3.out hB0)
  have HNu := hide_ (fun n w' => num_any n w')
  clear hq hxe k9 kA hB9 hBA hB0 p9 kpA HC3 HE3 kp9
  go_upto_region 5 with fail
  simp only [cellsG, bxC, inc, List.flatMap_cons, List.flatMap_nil, List.cons_append, List.nil_append] at hw9
  rw [← hw9]
  clear hw9
  go_wp2_with (first
    | (go_at_call 9; refine (HNu.out _ _).mono ?_; rintro e w' ⟨rfl, rfl⟩)
    | (go_at_call 11; rw [← hwA]; refine HQ.out.mono ?_; rintro e wf ⟨rfl, hBf⟩))
  go_ret
  exact ⟨rfl, below_to HBf.out hBf⟩
end Go.Proofs.Ytepmgbfdmbogiaa
