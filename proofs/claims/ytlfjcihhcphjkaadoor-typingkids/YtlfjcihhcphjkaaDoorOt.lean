/- awake. -/
import Derived.Test.YtlfjcihhcphjkaaDoorOs
namespace Go.Proofs.YtlfjcihhcphjkaaDoor
open Go.RowKit
set_option linter.unusedVariables false

theorem fldF2 (a b : Value) (w : World) : (Instr.field 42 (.agg #[a, b]) 0).run Tryd.prog w = .ok a w := by kernel_rfl
set_option maxRecDepth 100000 in
set_option maxHeartbeats 8000000 in
theorem awake_any (w : World) (ht : Hid (Tab w)) : Calls Tryd.prog 6 #[] w fun e w' => e = .returned (.bool true) ∧ Below w.heap.size w w' := by
  have hff := fldF2 (.int .i64 3) (.int .i64 0)
  go_enter Tryd.func6, Tryd.ntmps6
  go_wp2_with fail
  refine (example_any w).mono ?_
  rintro e w1 ⟨b, rfl, HT1, HB1⟩
  obtain ⟨w2, hw2⟩ : ∃ wx, wx = w1.alloc (.cells #[.slice (some ⟨b, 0, none⟩) 7 7, .slice none 0 0] 25) := ⟨_, rfl⟩
  have b2 : Below w1.heap.size w1 w2 := by rw [hw2]; exact below1 _ _
  have k2 : Blk w2 w1.heap.size 25 [.slice (some ⟨b, 0, none⟩) 7 7, .slice none 0 0] := by rw [hw2]; exact Blk.newA w1 _ _
  obtain ⟨w3, hw3⟩ : ∃ wx, wx = w2.alloc (.cells #[.int .i64 9, .int .i64 300, .int .i64 5, .int .i64 8, .int .i64 (-1), .int .i64 1, .int .i64 65537] 3) := ⟨_, rfl⟩
  have b3 : Below w2.heap.size w2 w3 := by rw [hw3]; exact below1 _ _
  have k3 : Blk w3 w2.heap.size 3 (cellsL .i64 exPk) := by rw [hw3]; exact Blk.newA w2 _ _
  have HC3 := hide_ (below_to b2 b3)
  have HB3 := hide_ (below_to (below_to HB1.out b2) b3)
  have HT3 := hide_ ((HT1.out.later b2).later b3)
  have K3 := hide_ (k2.later b3)
  have HR3 : Hid (Row .i64 w3 (some ⟨w2.heap.size, 0, none⟩) exPk) := hide_ k3.row
  have hsm := some_any (some ⟨b, 0, none⟩) 7 exT none 0 [] 6 (some ⟨w2.heap.size, 0, none⟩) 7 7 exPk w3 (by decide) (by decide) (hide_ ex_lens) HT3 (hide_ (.inl rfl)) (hide_ rfl) HR3 (hide_ (ht.out.later HB3.out))
  rw [ex_some] at hsm
  have HSm := hide_ hsm
  have i0 := k2.cell 0; have i1 := k2.cell 1
  simp at i0 i1
  clear hsm b2 k2 b3 k3
  go_upto_region 2 with fail
  rw [← hw2]
  clear hw2
  go_wp2_with fail
  rw [← hw3]
  clear hw3
  refine HSm.out.mono ?_
  rintro e w4 ⟨v4, rfl, HN4, HB4⟩
  obtain ⟨a4, c4, hv4, hr4⟩ := HN4.out.row
  have hv4' : v4 = .slice a4 7 c4 := hv4
  subst hv4'
  have K4 := hide_ (K3.out.later HB4.out)
  have HT4 := hide_ (HT3.out.later HB4.out)
  have HBa := hide_ (below_to HB3.out HB4.out)
  have HC4 := hide_ (below_to HC3.out HB4.out)
  obtain ⟨w5, hw5⟩ : ∃ wx, wx = w4.alloc (.cells #[.int .i64 4, .int .u64 0, .int .i64 3, .int .i64 1, .int .u64 44, .int .i64 0, .int .i64 3, .int .u64 0, .int .i64 2, .int .i64 1, .int .u64 8, .int .i64 0, .int .i64 1, .int .u64 18446744073709551615, .int .i64 0, .int .i64 6, .int .u64 5, .int .i64 1, .int .i64 1, .int .u64 1, .int .i64 0] 49) := ⟨_, rfl⟩
  have b5 : Below w4.heap.size w4 w5 := by rw [hw5]; exact below1 _ _
  have k5 : Blk w5 w4.heap.size 49 (cellsG nvc exV) := by rw [hw5]; exact Blk.newA w4 _ _
  have K5 := hide_ k5
  have KS5 := hide_ (K4.out.later b5)
  have HB5 := hide_ (below_to HBa.out b5)
  have HC5 := hide_ (below_to HC4.out b5)
  have HT5 := hide_ (HT4.out.later b5)
  have HR5 := hide_ (hr4.later b5)
  have HTall : Hid (∀ w', Below w5.heap.size w5 w' → Hid (TRow w' (some ⟨b, 0, none⟩) exT)) := hide_ (fun w' hB => hide_ (HT5.out.later hB))
  have HChk : Hid (∀ (t : Int) (V : List Nv) (x y : Int), V.length = 7 → (tyV exT [] t V).2.1 = x → (tyV exT [] t V).2.2 = y → ∀ w', Below w.heap.size w w' ∧ Hid (TRow w' (some ⟨b, 0, none⟩) exT) → VRow w' (some ⟨w4.heap.size, 0, none⟩) V → Calls Tryd.prog 16 #[.agg #[.slice (some ⟨b, 0, none⟩) 7 7, .slice none 0 0], .int .i64 t, .slice (some ⟨w4.heap.size, 0, none⟩) 7 7] w' fun e w'' => e = .returned (.agg #[.int .i64 x, .int .i64 y]) ∧ Below w'.heap.size w' w'') := hide_ (fun t V x y hV h1 h2 w' hB hr => by
    have h := tcheck_any (some ⟨b, 0, none⟩) 7 exT none 0 [] t (some ⟨w4.heap.size, 0, none⟩) 7 V w' (by decide) (by decide) (by omega) (hide_ ex_lens) hB.2 (hide_ (.inl rfl)) (hide_ hr) (hide_ (ht.out.later hB.1))
    rw [h1, h2, hV] at h
    exact h)
  clear b5 k5 hr4 i0 i1
  go_upto_region 4 with fail
  rw [← hw5]
  clear hw5
  go_wp2_with (go_at_call 22; refine (num_any _ _).mono ?_; rintro e w' ⟨rfl, rfl⟩)
  refine (equal_yes a4 (some ⟨w4.heap.size, 0, none⟩) c4 7 7 exV w5 (hide_ rfl) (by decide) HR5 (hide_ (blk_grow nvc_len K5.out))).mono ?_
  rintro e w6 ⟨rfl, hB6⟩
  have HB6 := hide_ (below_to HB5.out hB6)
  have HC6 := hide_ (below_to HC5.out hB6)
  have KS6 := hide_ (KS5.out.later hB6)
  have K6 := hide_ (K5.out.later hB6)
  have HT6 := HTall.out w6 hB6
  have i0 := KS6.out.cell 0; have i1 := KS6.out.cell 1
  simp at i0 i1
  clear hB6
  go_wp2_with fail
  refine (HChk.out 6 exV 0 0 rfl (by rw [ex_types]) (by rw [ex_types]) w6 ⟨HB6.out, HT6⟩ (blk_grow nvc_len K6.out)).mono ?_
  rintro e w7 ⟨rfl, hB7⟩
  have HB7 := hide_ (below_to HB6.out hB7)
  have HC7 := hide_ (below_to HC6.out hB7)
  have KS7 := hide_ (KS6.out.later hB7)
  have K7 := hide_ (K6.out.later hB7)
  have HT7 := hide_ (HT6.out.later hB7)
  have hty := types_any (some ⟨b, 0, none⟩) 7 exT none 0 [] 6 (some ⟨w4.heap.size, 0, none⟩) 7 exV w7 (by decide) (by decide) (by decide) (hide_ ex_lens) HT7 (hide_ (.inl rfl)) (hide_ (blk_grow nvc_len K7.out)) (hide_ (ht.out.later HB7.out))
  rw [ex_types] at hty
  have HTy := hide_ hty
  clear hB7 i0 i1 hty
  have i0 := KS7.out.cell 0; have i1 := KS7.out.cell 1
  simp at i0 i1
  go_wp2_with fail
  refine HTy.out.mono ?_
  rintro e w8 ⟨v8, rfl, HI8, HB8⟩
  obtain ⟨a8, c8, hv8, hr8, -⟩ := own_open HI8.out rfl
  have hv8' : v8 = .slice a8 7 c8 := hv8
  subst hv8'
  clear i0 i1
  obtain ⟨w9, hw9⟩ : ∃ wx, wx = w8.alloc (.cells #[.int .i64 0, .int .i64 0] 42) := ⟨_, rfl⟩
  have b9 : Below w8.heap.size w8 w9 := by rw [hw9]; exact below1 _ _
  have k9 : Blk w9 w8.heap.size 42 [.int .i64 0, .int .i64 0] := by rw [hw9]; exact Blk.newA w8 _ _
  have HB9 := hide_ (below_to (below_to HB7.out HB8.out) b9)
  have HC9 := hide_ (below_to (below_to HC7.out HB8.out) b9)
  have KS9 := hide_ ((KS7.out.later HB8.out).later b9)
  have K9 := hide_ ((K7.out.later HB8.out).later b9)
  have HT9 := hide_ ((HT7.out.later HB8.out).later b9)
  have KF9 := hide_ k9
  have HI9 := hide_ (HI8.out.later b9)
  have hw4l : w.heap.size ≤ w4.heap.size := HBa.out.size
  have v4c : w9.cell? ⟨w4.heap.size, 4, none⟩ = some (.int .u64 44) := by
    have h := K9.out.cell 4
    exact h
  have v4f := K9.out.frozen 4
  obtain ⟨w10, hw10⟩ : ∃ wx, wx = w9.setCell ⟨w4.heap.size, 4, none⟩ (.int .u64 256) := ⟨_, rfl⟩
  have u10 : Upd (fun k => k = w4.heap.size) w9 w10 := by rw [hw10]; exact (Upd.refl _ w9).set _ _ (.inl rfl)
  have K10 : Hid (Blk w10 w4.heap.size 49 (cellsG nvc exW)) := hide_ (by rw [hw10]; exact K9.out.set 4 (.int .u64 256))
  have HB10 : Hid (Below w.heap.size w w10) := hide_ (by rw [hw10]; exact below_set HB9.out _ _ _ hw4l)
  have ne10 : ∀ g t ys, Blk w9 g t ys → t ≠ 49 → ¬ g = w4.heap.size := fun g t ys hg ht e => by subst e; exact ht (blk_type hg K9.out)
  have KS10 := hide_ (KS9.out.upd u10 (ne10 _ _ _ KS9.out (by decide)))
  have KF10 := hide_ (KF9.out.upd u10 (ne10 _ _ _ KF9.out (by decide)))
  have HI10 := hide_ (HI9.out.upd u10 (fun k hk e => by obtain ⟨zs, hz⟩ := ownS_type HI9.out hk; exact ne10 _ _ _ hz (by decide) e))
  have HT10 : Hid (TRow w10 (some ⟨b, 0, none⟩) exT) := hide_ (HT1.out.later (by rw [hw10]; exact below_set HC9.out _ _ _ HC4.out.size))
  obtain ⟨w11, hw11⟩ : ∃ wx, wx = w10.alloc (.cells #[.int .i64 6, .int .i64 0, .int .i64 2, .int .i64 1, .int .i64 1, .int .i64 5, .int .i64 4] 3) := ⟨_, rfl⟩
  have b11 : Below w10.heap.size w10 w11 := by rw [hw11]; exact below1 _ _
  have k11 : Blk w11 w10.heap.size 3 (cellsL .i64 [6, 0, 2, 1, 1, 5, 4]) := by rw [hw11]; exact Blk.newA w10 _ _
  have HR11 : Hid (Row .i64 w11 (some ⟨w10.heap.size, 0, none⟩) [6, 0, 2, 1, 1, 5, 4]) := hide_ k11.row
  obtain ⟨a8', c8', e8', hr11, -⟩ := own_open (HI10.out.later b11) rfl
  injection e8' with e8a _ e8c
  subst e8a e8c
  have HQ11 := hide_ hr11
  have HB11 := hide_ (below_to HB10.out b11)
  have HT11 := hide_ (HT10.out.later b11)
  have KS11 := hide_ (KS10.out.later b11)
  have K11 := hide_ (K10.out.later b11)
  have p0 := KF10.out.cell 0; have p1 := KF10.out.cell 1
  simp at p0 p1
  clear b9 k9 b11 k11 hr11 hr8 u10 ne10
  go_upto_region 7 with fail
  rw [← hw9]
  clear hw9
  go_upto_region 8 with fail
  rw [← hw10]
  clear hw10 v4c v4f
  go_wp2_with fail
  rw [← hw11]
  clear hw11 p0 p1
  refine (sameInts_yes _ (some ⟨w10.heap.size, 0, none⟩) _ 7 7 [6, 0, 2, 1, 1, 5, 4] w11 (hide_ rfl) (by decide) HQ11 HR11).mono ?_
  rintro e w12 ⟨rfl, hB12⟩
  have HB12 := hide_ (below_to HB11.out hB12)
  have KS12 := hide_ (KS11.out.later hB12)
  have K12 := hide_ (K11.out.later hB12)
  have HT12 := hide_ (HT11.out.later hB12)
  clear hB12
  have i0 := KS12.out.cell 0; have i1 := KS12.out.cell 1
  simp at i0 i1
  go_wp2_with fail
  refine (HChk.out 6 exW 111 1 rfl (by rw [ex_bad]) (by rw [ex_bad]) w12 ⟨HB12.out, HT12⟩ (blk_grow nvc_len K12.out)).mono ?_
  rintro e w13 ⟨rfl, hB13⟩
  have HB13 := hide_ (below_to HB12.out hB13)
  have KS13 := hide_ (KS12.out.later hB13)
  have K13 := hide_ (K12.out.later hB13)
  have HT13 := hide_ (HT12.out.later hB13)
  clear hB13 i0 i1
  have i0 := KS13.out.cell 0; have i1 := KS13.out.cell 1
  simp at i0 i1
  go_wp2_with fail
  refine (HChk.out 7 exW 3 0 rfl (by rw [ex_place]) (by rw [ex_place]) w13 ⟨HB13.out, HT13⟩ (blk_grow nvc_len K13.out)).mono ?_
  rintro e w14 ⟨rfl, hB14⟩
  have HB14 := hide_ (below_to HB13.out hB14)
  clear hB14 i0 i1
  go_wp2_with (go_at_call 22; refine (num_any _ _).mono ?_; rintro e w' ⟨rfl, rfl⟩)
  go_ret
  exact ⟨rfl, HB14.out⟩
end Go.Proofs.YtlfjcihhcphjkaaDoor
