import Derived.Test.YtlbgdgobhiokpaaDoorPart12
import Derived.Test.YtlbgdgobhiokpaaDoorPart09

/- awake. -/
namespace Go.Proofs.YtlbgdgobhiokpaaDoor
open Go.RowKit
set_option linter.unusedVariables false

theorem parse8 (w : World) : Calls Tryd.prog 12 #[.string T8] w fun e w' => ∃ a c, e = .returned (.tuple #[.slice a 8 c, .agg #[.int .i64 0, .int .i64 0]]) ∧ Hid (NRow w' a V8) ∧ 8 ≤ c ∧ c ≤ 9223372036854775807 ∧ Below w.heap.size w w' := by
  refine (parse_any T8 w (by decide)).mono ?_
  rintro e w' ⟨v, rfl, ho, hB⟩
  rw [p8N] at ho
  obtain ⟨a, c, rfl, hr, h1, h2, -⟩ := own_nrow ho.out
  exact ⟨a, c, by rw [p8F]; rfl, hr, h1, h2, hB⟩
theorem parse5 (w : World) : Calls Tryd.prog 12 #[.string T5] w fun e w' => ∃ v, e = .returned (.tuple #[v, .agg #[.int .i64 41, .int .i64 4]]) ∧ Below w.heap.size w w' := by
  refine (parse_any T5 w (by decide)).mono ?_
  rintro e w' ⟨v, rfl, ho, hB⟩
  exact ⟨v, by rw [p5F]; rfl, hB⟩
theorem print8 (a : Option Addr) (c : Nat) (w : World) (h : Hid (NRow w a V8)) (ht : Hid (Tab w.heap.size w)) : Calls Tryd.prog 11 #[.slice a 8 c] w fun e w' => e = .returned (.tuple #[.string ⟨#[91, 123, 49, 44, 32, 110, 111, 110, 101, 125, 44, 32, 60, 53, 58, 116, 114, 117, 101, 62, 44, 32, 115, 111, 109, 101, 32, 51, 93]⟩, .int .i64 0]) ∧ Below w.heap.size w w' := by
  refine (print_any a 8 c V8 w rfl (by decide) h (show ∀ x ∈ V8, (0 : Int) ≤ x.2.1 from by decide) ht).mono ?_
  rintro e w' ⟨rfl, hB⟩
  exact ⟨by rw [v8p, v8c]; rfl, hB⟩
theorem check8 (a : Option Addr) (c : Nat) (w : World) (h : Hid (NRow w a V8)) : Calls Tryd.prog 17 #[.slice a 8 c] w fun e w' => e = .returned (.agg #[.int .i64 0, .int .i64 0]) ∧ Below w.heap.size w w' := by
  refine (check_any a 8 c V8 w rfl (by decide) h).mono ?_
  rintro e w' ⟨rfl, hB⟩
  exact ⟨by rw [v8c]; rfl, hB⟩
theorem next8 (a : Option Addr) (c : Nat) (w : World) (h : Hid (NRow w a V8)) : Calls Tryd.prog 21 #[.slice a 8 c, .int .i64 1] w fun e w' => e = .returned (.tuple #[.int .i64 4, .int .i64 0]) ∧ Below w.heap.size w w' := by
  refine (next_any a 8 c 1 V8 w rfl (by decide) h).mono ?_
  rintro e w' ⟨rfl, hB⟩
  exact ⟨by rw [v8n]; rfl, hB⟩
theorem kid8 (a : Option Addr) (c : Nat) (w : World) (h : Hid (NRow w a V8)) : Calls Tryd.prog 20 #[.slice a 8 c, .int .i64 0, .int .i64 2] w fun e w' => e = .returned (.tuple #[.int .i64 6, .int .i64 0]) ∧ Below w.heap.size w w' := by
  refine (kid_any a 8 c 0 2 V8 w rfl (by decide) h).mono ?_
  rintro e w' ⟨rfl, hB⟩
  exact ⟨by rw [v8k]; rfl, hB⟩
theorem path8 (a : Option Addr) (c : Nat) (w : World) (h : Hid (NRow w a V8)) (h1 : 8 ≤ c) (h2 : c ≤ 9223372036854775807) : Calls Tryd.prog 19 #[.slice a 8 c, .int .i64 3] w fun e w' => ∃ a2 c2, e = .returned (.tuple #[.slice a2 2 c2, .int .i64 0]) ∧ Hid (Row .i64 w' a2 [0, 1]) ∧ Below w.heap.size w w' := by
  refine (path_any a 8 c 3 V8 w rfl h1 (by decide) h2 h).mono ?_
  rintro e w' ⟨v, rfl, ho, hB⟩
  rw [v8w] at ho
  obtain ⟨a2, c2, rfl, hr, -⟩ := own_open (l := [0, 1]) ho.out rfl
  exact ⟨a2, c2, by rw [v8q]; rfl, hr, hB⟩
theorem fault_yes (x y : Int) (w : World) : Calls Tryd.prog 14 #[.agg #[.int .i64 x, .int .i64 y], .int .i64 x, .int .i64 y] w fun e w' => e = .returned (.bool true) ∧ Below w.heap.size w w' := by
  refine (fault_any x y x y w).mono ?_
  rintro e w' ⟨rfl, hB⟩
  exact ⟨by simp, hB⟩
theorem same2 (a1 a2 : Option Addr) (k1 k2 : Nat) (w : World) (r1 : Hid (Row .i64 w a1 [0, 1])) (r2 : Hid (Row .i64 w a2 [0, 1])) : Calls Tryd.prog 33 #[.slice a1 2 k1, .slice a2 2 k2] w fun e w' => e = .returned (.bool true) ∧ Below w.heap.size w w' := by
  refine (sameInts_any a1 a2 2 2 k1 k2 [0, 1] [0, 1] w rfl rfl (by decide) (by decide) r1 r2).mono ?_
  rintro e w' ⟨rfl, hB⟩
  exact ⟨by simp, hB⟩
theorem equal8 (a1 a2 : Option Addr) (k1 k2 : Nat) (w : World) (r1 : Hid (NRow w a1 V8)) (r2 : Hid (NRow w a2 V8)) : Calls Tryd.prog 15 #[.slice a1 8 k1, .slice a2 8 k2] w fun e w' => e = .returned (.bool true) ∧ Below w.heap.size w w' := by
  refine (equal_any a1 a2 8 8 k1 k2 V8 V8 w rfl rfl (by decide) (by decide) r1 r2).mono ?_
  rintro e w' ⟨rfl, hB⟩
  exact ⟨by simp, hB⟩
theorem equal0 (a1 : Option Addr) (k1 : Nat) (w : World) (r1 : Hid (NRow w a1 V8)) : Calls Tryd.prog 15 #[.slice a1 8 k1, .slice none 0 0] w fun e w' => e = .returned (.bool false) ∧ Below w.heap.size w w' := by
  refine (equal_any a1 none 8 0 k1 0 V8 [] w rfl rfl (by decide) (by decide) r1 (.inl rfl)).mono ?_
  rintro e w' ⟨rfl, hB⟩
  exact ⟨by simp [V8], hB⟩
theorem add1 (B b : Nat) (w : World) (h : Hid (Ar B w b (.slice none 0 0) (.slice none 0 0) [] [])) : Calls Tryd.prog 24 #[.pointer (some ⟨b, 0, none⟩), .int .i64 (-1), .int .i64 0, .int .i64 3, .int .u64 0] w fun e w' => e = .returned (.tuple #[.int .i64 0, .int .i64 0]) ∧ ∃ vn vs, Hid (Ar B w' b vn vs [(3, 0, 0)] [(-1, 0)]) ∧ Hid (KeptA B w w') := by
  refine (addA_ok B b (-1) 0 3 0 _ _ [] [] w h (by decide) (by decide) (by decide) (by simp)).mono ?_
  rintro e w' ⟨rfl, vn, vs, h1, h2⟩
  exact ⟨rfl, vn, vs, h1, h2⟩
theorem add2 (B b : Nat) (vn vs : Value) (w : World) (h : Hid (Ar B w b vn vs [(3, 0, 0)] [(-1, 0)])) : Calls Tryd.prog 24 #[.pointer (some ⟨b, 0, none⟩), .int .i64 0, .int .i64 0, .int .i64 1, .int .u64 9] w fun e w' => e = .returned (.tuple #[.int .i64 1, .int .i64 0]) ∧ ∃ vn vs, Hid (Ar B w' b vn vs N2 S2) ∧ Hid (KeptA B w w') := by
  refine (addA_ok B b 0 0 1 9 _ _ [(3, 0, 0)] [(-1, 0)] w h (by decide) (by decide) (by decide) (by decide)).mono ?_
  rintro e w' ⟨rfl, vn, vs, h1, h2⟩
  exact ⟨rfl, vn, vs, h1, h2⟩
theorem add3 (B b : Nat) (vn vs : Value) (w : World) (h : Hid (Ar B w b vn vs N2 S2)) : Calls Tryd.prog 24 #[.pointer (some ⟨b, 0, none⟩), .int .i64 1, .int .i64 0, .int .i64 1, .int .u64 9] w fun e w' => e = .returned (.tuple #[.int .i64 0, .int .i64 40]) ∧ Below w.heap.size w w' := by
  refine (addA_err B b 1 0 1 9 _ _ N2 S2 w h (by decide) (by decide)).mono ?_
  rintro e w' ⟨rfl, h1⟩
  exact ⟨rfl, h1⟩
theorem eq2 (a1 a2 : Option Addr) (k1 k2 : Nat) (w : World) (r1 : Hid (NRow w a1 N2)) (r2 : Hid (NRow w a2 N2)) : Calls Tryd.prog 16 #[.slice a1 2 k1, .slice a2 2 k2] w fun e w' => e = .returned (.bool true) ∧ Below w.heap.size w w' := by
  refine (refEqual_any a1 a2 2 2 k1 k2 N2 N2 w rfl rfl (by decide) (by decide) r1 r2).mono ?_
  rintro e w' ⟨rfl, hB⟩
  exact ⟨by simp, hB⟩
theorem KeptA.here {B : Nat} {w w' : World} (h : KeptA B w w') : Below B w w' := h.bel
set_option maxRecDepth 100000 in
set_option maxHeartbeats 16000000 in
theorem awake_any (w : World) (ht : Hid (Tab w.heap.size w)) : Calls Tryd.prog 9 #[] w fun e w' => e = .returned (.bool true) ∧ Below w.heap.size w w' := by
  go_enter Tryd.func9, Tryd.ntmps9
  go_wp2_with fail
  refine (parse8 w).mono ?_; rintro e w1 ⟨a, c, rfl, HV1, hc1, hc2, hB1⟩
  obtain ⟨w2, hw2⟩ : ∃ w2, w2 = w1.alloc (.cells #[.int .i64 0, .int .i64 0] 29) := ⟨_, rfl⟩
  have hB2 : Below w1.heap.size w1 w2 := by rw [hw2]; exact (Below.refl _ _).alloc (Nat.le_refl _) _
  have KF2 : Hid (Blk w2 w1.heap.size 29 [.int .i64 0, .int .i64 0]) := by rw [hw2]; exact Blk.newA w1 _ 29
  have HB2 : Hid (Below w.heap.size w w2) := hB1.trans (hB2.mono hB1.size)
  have HV2 : Hid (NRow w2 a V8) := HV1.out.later hB2
  go_upto_region 2 with fail
  rw [← hw2]
  clear hw2 hB2 HV1 hB1
  have HT2 : Hid (Tab w2.heap.size w2) := (ht.out.below HB2.out).mono HB2.out.size
  go_wp2_with fail
  refine (print8 a c w2 HV2 HT2).mono ?_; rintro e w3 ⟨rfl, hB3⟩
  have KF3 : Hid (Blk w3 w1.heap.size 29 [.int .i64 0, .int .i64 0]) := KF2.out.later hB3
  have HV3 : Hid (NRow w3 a V8) := HV2.out.later hB3
  have HB3 : Hid (Below w.heap.size w w3) := HB2.out.trans (hB3.mono HB2.out.size)
  clear KF2 HV2 HB2 HT2 hB3
  have f0 : w3.cell? ⟨w1.heap.size, 0, none⟩ = some (.int .i64 0) := KF3.out.cell 0
  have f1 : w3.cell? ⟨w1.heap.size, 1, none⟩ = some (.int .i64 0) := KF3.out.cell 1
  go_wp2_with fail
  refine (fault_yes 0 0 w3).mono ?_; rintro e w4 ⟨rfl, hB4⟩
  have HV4 : Hid (NRow w4 a V8) := HV3.out.later hB4
  have HB4 : Hid (Below w.heap.size w w4) := HB3.out.trans (hB4.mono HB3.out.size)
  clear KF3 HV3 HB3 hB4 f0 f1
  go_wp2_with (first | (go_at_call 13; refine (num_any _ _).mono ?_; rintro e w' ⟨rfl, rfl⟩) | (go_at_call 17; fail))
  refine (check8 a c w4 HV4).mono ?_; rintro e w5 ⟨rfl, hB5⟩
  have HV5 : Hid (NRow w5 a V8) := HV4.out.later hB5
  have HB5 : Hid (Below w.heap.size w w5) := HB4.out.trans (hB5.mono HB4.out.size)
  clear HV4 HB4 hB5
  go_wp2_with fail
  refine (fault_yes 0 0 w5).mono ?_; rintro e w6 ⟨rfl, hB6⟩
  have HV6 : Hid (NRow w6 a V8) := HV5.out.later hB6
  have HB6 : Hid (Below w.heap.size w w6) := HB5.out.trans (hB6.mono HB5.out.size)
  clear HV5 HB5 hB6
  go_wp2_with fail
  refine (next8 a c w6 HV6).mono ?_; rintro e w7 ⟨rfl, hB7⟩
  have HV7 : Hid (NRow w7 a V8) := HV6.out.later hB7
  have HB7 : Hid (Below w.heap.size w w7) := HB6.out.trans (hB7.mono HB6.out.size)
  clear HV6 HB6 hB7
  go_wp2_with fail
  refine (kid8 a c w7 HV7).mono ?_; rintro e w8 ⟨rfl, hB8⟩
  have HV8 : Hid (NRow w8 a V8) := HV7.out.later hB8
  have HB8 : Hid (Below w.heap.size w w8) := HB7.out.trans (hB8.mono HB7.out.size)
  clear HV7 HB7 hB8
  go_wp2_with fail
  refine (path8 a c w8 HV8 hc1 hc2).mono ?_; rintro e w9 ⟨a2, c2, rfl, HR9, hB9⟩
  have HV9 : Hid (NRow w9 a V8) := HV8.out.later hB9
  have HB9 : Hid (Below w.heap.size w w9) := HB8.out.trans (hB9.mono HB8.out.size)
  clear HV8 HB8 hB9
  go_wp2_with fail
  refine (parse5 w9).mono ?_; rintro e w10 ⟨v10, rfl, hB10⟩
  obtain ⟨w11, hw11⟩ : ∃ w11, w11 = w10.alloc (.cells #[.int .i64 41, .int .i64 4] 29) := ⟨_, rfl⟩
  have hB11 : Below w10.heap.size w10 w11 := by rw [hw11]; exact (Below.refl _ _).alloc (Nat.le_refl _) _
  have hB11' : Below w9.heap.size w9 w11 := hB10.trans (hB11.mono hB10.size)
  have KG : Hid (Blk w11 w10.heap.size 29 [.int .i64 41, .int .i64 4]) := by rw [hw11]; exact Blk.newA w10 _ 29
  have HV11 : Hid (NRow w11 a V8) := HV9.out.later hB11'
  have HR11 : Hid (Row .i64 w11 a2 [0, 1]) := HR9.out.later hB11'
  have HB11 : Hid (Below w.heap.size w w11) := HB9.out.trans (hB11'.mono HB9.out.size)
  go_upto_region 9 with fail
  rw [← hw11]
  clear hw11 hB11 hB11' hB10 HV9 HR9 HB9
  obtain ⟨w12, hw12⟩ : ∃ w12, w12 = w11.alloc (.cells #[.int .i64 0, .int .i64 1] 3) := ⟨_, rfl⟩
  have hB12 : Below w11.heap.size w11 w12 := by rw [hw12]; exact (Below.refl _ _).alloc (Nat.le_refl _) _
  have KG12 : Hid (Blk w12 w10.heap.size 29 [.int .i64 41, .int .i64 4]) := KG.out.later hB12
  have HV12 : Hid (NRow w12 a V8) := HV11.out.later hB12
  have HR12 : Hid (Row .i64 w12 a2 [0, 1]) := HR11.out.later hB12
  have HL12 : Hid (Row .i64 w12 (some ⟨w11.heap.size, 0, none⟩) [0, 1]) := by
    have hk : Blk w12 w11.heap.size 3 [.int .i64 0, .int .i64 1] := by rw [hw12]; exact Blk.newA w11 _ 3
    exact Row.two (hk.cell 0) (hk.cell 1)
  have HB12 : Hid (Below w.heap.size w w12) := HB11.out.trans (hB12.mono HB11.out.size)
  go_wp2_with (first | (go_at_call 13; refine (num_any _ _).mono ?_; rintro e w' ⟨rfl, rfl⟩) | (go_at_call 33; fail))
  rw [← hw12]
  clear hw12 hB12 KG HV11 HR11 HB11
  refine (same2 a2 _ c2 _ w12 HR12 HL12).mono ?_; rintro e w13 ⟨rfl, hB13⟩
  have KG13 : Hid (Blk w13 w10.heap.size 29 [.int .i64 41, .int .i64 4]) := KG12.out.later hB13
  have HV13 : Hid (NRow w13 a V8) := HV12.out.later hB13
  have HB13 : Hid (Below w.heap.size w w13) := HB12.out.trans (hB13.mono HB12.out.size)
  clear KG12 HV12 HR12 HL12 HB12 hB13
  have g0 : w13.cell? ⟨w10.heap.size, 0, none⟩ = some (.int .i64 41) := KG13.out.cell 0
  have g1 : w13.cell? ⟨w10.heap.size, 1, none⟩ = some (.int .i64 4) := KG13.out.cell 1
  go_wp2_with fail
  refine (fault_yes 41 4 w13).mono ?_; rintro e w14 ⟨rfl, hB14⟩
  have HV14 : Hid (NRow w14 a V8) := HV13.out.later hB14
  have HB14 : Hid (Below w.heap.size w w14) := HB13.out.trans (hB14.mono HB13.out.size)
  clear KG13 HV13 HB13 hB14 g0 g1
  go_wp2_with fail
  refine (equal8 a a c c w14 HV14 HV14).mono ?_; rintro e w15 ⟨rfl, hB15⟩
  have HV15 : Hid (NRow w15 a V8) := HV14.out.later hB15
  have HB15 : Hid (Below w.heap.size w w15) := HB14.out.trans (hB15.mono HB14.out.size)
  clear HV14 HB14 hB15
  go_wp2_with fail
  refine (equal0 a c w15 HV15).mono ?_; rintro e w16 ⟨rfl, hB16⟩
  have HB16 : Hid (Below w.heap.size w w16) := HB15.out.trans (hB16.mono HB15.out.size)
  clear HV15 HB15 hB16
  go_wp2_with fail
  refine (new_any w16).mono ?_; rintro e w17 ⟨rfl, HA17, hB17⟩
  have HB17 : Hid (Below w.heap.size w w17) := HB16.out.trans (hB17.mono HB16.out.size)
  clear hB17
  go_wp2_with fail
  refine (add1 w16.heap.size w16.heap.size w17 HA17).mono ?_; rintro e w18 ⟨rfl, vn18, vs18, HA18, HK18⟩
  have HB18 : Hid (Below w.heap.size w w18) := HB17.out.trans (HK18.out.bel.mono HB16.out.size)
  clear HA17 HB17 HK18
  go_wp2_with fail
  refine (add2 w16.heap.size w16.heap.size vn18 vs18 w18 HA18).mono ?_; rintro e w19 ⟨rfl, vn19, vs19, HA19, HK19⟩
  have HB19 : Hid (Below w.heap.size w w19) := HB18.out.trans (HK19.out.bel.mono HB16.out.size)
  clear HA18 HB18 HK19
  obtain ⟨gn, cn, gs, cs, hvn, hvs, hA2⟩ := A2.of HA19.out
  go_wp2_with fail
  refine (value2 w16.heap.size gn cn gs cs w19 hA2).mono ?_; rintro e w20 ⟨v20, rfl, HO20, hB20⟩
  have HA20 : Hid (Ar w16.heap.size w20 w16.heap.size vn19 vs19 N2 S2) := HA19.out.later hB20
  have HB20 : Hid (Below w.heap.size w w20) := HB19.out.trans (hB20.mono HB19.out.size)
  obtain ⟨a20, c20, rfl, HN20, -, -, -⟩ := own_nrow (N := N2) HO20.out
  have HW20 : Hid (NRow w20 a20 N2) := HN20
  clear HA19 HB19 hB20 hA2 HO20 HN20
  go_wp2_with fail
  refine (add3 w16.heap.size w16.heap.size vn19 vs19 w20 HA20).mono ?_; rintro e w21 ⟨rfl, hB21⟩
  have HA21 : Hid (Ar w16.heap.size w21 w16.heap.size vn19 vs19 N2 S2) := HA20.out.later hB21
  have HW21 : Hid (NRow w21 a20 N2) := HW20.out.later hB21
  have HB21 : Hid (Below w.heap.size w w21) := HB20.out.trans (hB21.mono HB20.out.size)
  clear HA20 HW20 HB20 hB21
  obtain ⟨w22, hw22⟩ : ∃ w22, w22 = w21.alloc (.cells #[.int .i64 3, .int .u64 0, .int .i64 1, .int .i64 1, .int .u64 9, .int .i64 0] 37) := ⟨_, rfl⟩
  have hB22 : Below w21.heap.size w21 w22 := by rw [hw22]; exact (Below.refl _ _).alloc (Nat.le_refl _) _
  have HW22 : Hid (NRow w22 a20 N2) := HW21.out.later hB22
  have HL22 : Hid (NRow w22 (some ⟨w21.heap.size, 0, none⟩) N2) := by
    have hk : Blk w22 w21.heap.size 37 [.int .i64 3, .int .u64 0, .int .i64 1, .int .i64 1, .int .u64 9, .int .i64 0] := by rw [hw22]; exact Blk.newA w21 _ 37
    refine .inr ⟨_, _, rfl, hk.lt, fun i hi => ?_⟩
    match i, hi with
    | 0, _ => exact ⟨hk.cell 0, hk.cell 1, hk.cell 2⟩
    | 1, _ => exact ⟨hk.cell 3, hk.cell 4, hk.cell 5⟩
  have HB22 : Hid (Below w.heap.size w w22) := HB21.out.trans (hB22.mono HB21.out.size)
  go_wp2_with (first | (go_at_call 13; refine (num_any _ _).mono ?_; rintro e w' ⟨rfl, rfl⟩) | (go_at_call 26; refine (count_any _ _ _ _ _ _ _ HA21).mono ?_; rintro e w' ⟨rfl, rfl⟩) | (go_at_call 16; fail))
  rw [← hw22]
  clear hw22 hB22 HW21 HB21 HA21
  refine (eq2 a20 _ _ _ w22 HW22 HL22).mono ?_; rintro e w23 ⟨rfl, hB23⟩
  have HB23 : Hid (Below w.heap.size w w23) := HB22.out.trans (hB23.mono HB22.out.size)
  clear HW22 HL22 HB22 hB23
  go_wp2
  go_ret
  exact ⟨rfl, HB23.out⟩
end Go.Proofs.YtlbgdgobhiokpaaDoor

/- rest; Made: plain. -/
namespace Go.Proofs.YtlbgdgobhiokpaaDoor
open Go.RowKit
set_option linter.unusedVariables false

set_option maxRecDepth 100000 in
set_option maxHeartbeats 4000000 in
theorem rest_any (n lo hi : Int) (w : World) (h0 : 0 ≤ lo) (h1 : lo ≤ hi) (h2 : hi ≤ 100000) (hn : -9223372036854775808 ≤ n ∧ n ≤ 9223372036854775807) :
    Calls Tryd.prog 18 #[.int .i64 n, .int .i64 lo, .int .i64 hi] w fun e w' => ∃ r, e = .returned (.int .i64 r) ∧ lo ≤ r ∧ r ≤ hi ∧ w = w' := by
  obtain ⟨m, hm⟩ : ∃ m, hi - lo + 1 = m := ⟨_, rfl⟩
  have hm1 : 1 ≤ m := by omega
  have hm2 : m ≤ 100001 := by omega
  have e1 : -m < n.tmod m ∧ n.tmod m < m := ⟨by have := Int.lt_tmod_of_pos n (show 0 < m by omega); omega, Int.tmod_lt_of_pos n (by omega)⟩
  obtain ⟨t, ht⟩ : ∃ t, n.tmod m = t := ⟨_, rfl⟩
  rw [ht] at e1
  have e2 : 0 ≤ (t + m).tmod m ∧ (t + m).tmod m < m := ⟨Int.tmod_nonneg _ (by omega), Int.tmod_lt_of_pos _ (by omega)⟩
  obtain ⟨u, hu⟩ : ∃ u, (t + m).tmod m = u := ⟨_, rfl⟩
  rw [hu] at e2
  have hm0 : ¬ m = 0 := by omega
  have hme : ¬ m = -1 := by omega
  go_enter Tryd.func18, Tryd.ntmps18
  go_wp2
  go_ret
  exact ⟨lo + u, rfl, by omega, by omega, rfl⟩
/-- So many values are still missing behind these nodes. -/
def Pre (L : List Nd) (m : Int) : Prop := ∀ R, chk 1 0 (L ++ R) = chk m L.length R
theorem Pre.nil : Pre [] 1 := fun R => by simp
theorem Pre.step {L : List Nd} {m : Int} (h : Pre L m) {x : Nd} (hm : 0 < m) (hx : right x = true) : Pre (L ++ [x]) (m - 1 + x.2.2) := fun R => by
  rw [List.append_assoc, h ([x] ++ R), List.singleton_append, chk, if_neg (by simp [hx]; omega), List.length_append]
  congr 1
  · omega
structure MadeOk (M : List Nd) : Prop where
  ok : (chk 1 0 M).1 = 0
  len : M.length ≤ 450
  pos : ∀ x ∈ M, 0 ≤ x.2.1
theorem Pre.done {L : List Nd} (h : Pre L 0) : (chk 1 0 L).1 = 0 := by
  have := h []
  rw [List.append_nil] at this
  rw [this]
  rfl
theorem push_nd' {B : Nat} {w : World} {v : Value} {N : List Nd} (h : w.ownsRow B 37 3 v N.length (cellsN N)) (x : Nd) (hN : N.length ≤ 2000000) (hB : B ≤ w.heap.size) :
    ∃ g cap w', (Builtin.append_ #[22, 22] 22 #[v, .slice (some ⟨w.heap.size, 0, none⟩) 1 1]).run Tryd.prog (w.alloc (.cells #[.int .i64 x.1, .int .u64 x.2.1, .int .i64 x.2.2] 37)) = .ok (.slice (some ⟨g, 0, none⟩) (N.length + 1) cap) w' ∧ w'.ownsRow B 37 3 (.slice (some ⟨g, 0, none⟩) (N.length + 1) cap) (N ++ [x]).length (cellsN (N ++ [x])) ∧ Below B w w' ∧ Upd (fun k => v.ownBlock = some k) w w' := by
  obtain ⟨g, cap, w', r1, o1, u1, l1⟩ := run_pushS (P := Tryd.prog) (t := 22) (e := 37) (z := .agg #[.int .i64 0, .int .u64 0, .int .i64 0]) (bytes := 24) Tryd.underlying22 (by kernel_rfl) rfl (by decide) w 22 h (ndc x) rfl (by intro u hu; simp [ndc] at hu; rcases hu with rfl | rfl | rfl <;> rfl) (by unfold maxLen; omega) (by omega) hB
  exact ⟨g, cap, w', r1, by rw [List.length_append, cellsN_append, show cellsN [x] = ndc x by simp [cellsN]]; exact o1, u1.below B hB (fun k hk => (h.lt k hk).1), u1⟩
end Go.Proofs.YtlbgdgobhiokpaaDoor

/- Made. -/
namespace Go.Proofs.YtlbgdgobhiokpaaDoor
open Go.RowKit
set_option linter.unusedVariables false

/-- What came in fits its types. -/
def Fits (x : Nd) : Prop := (-9223372036854775808 ≤ x.1 ∧ x.1 ≤ 9223372036854775807) ∧ (0 ≤ x.2.1 ∧ x.2.1 ≤ 18446744073709551615) ∧ (-9223372036854775808 ≤ x.2.2 ∧ x.2.2 ≤ 9223372036854775807)
theorem made_push {B i cv : Nat} {w wr : World} {av : Option Addr} {L : List Nd} (HO : wr.ownsRow B 37 3 (.slice av i cv) L.length (cellsN L)) (hBw : Below B w wr) (hB : B ≤ wr.heap.size) (k n c : Int) (hL : L.length = i) (hi : i ≤ 450) :
    ∃ g cap w', (Builtin.append_ #[22, 22] 22 #[.slice av i cv, .slice (some ⟨wr.heap.size + 1, 0, none⟩) 1 1]).run Tryd.prog ((wr.alloc (.cells #[.int .i64 k, .int .u64 n, .int .i64 c] 37)).alloc (.cells #[.int .i64 k, .int .u64 n, .int .i64 c] 37)) = .ok (.slice (some ⟨g, 0, none⟩) (i + 1) cap) w' ∧
      w'.ownsRow B 37 3 (.slice (some ⟨g, 0, none⟩) (i + 1) cap) (L ++ [(k, n, c)]).length (cellsN (L ++ [(k, n, c)])) ∧ w'.cell? ⟨wr.heap.size, 2, none⟩ = some (.int .i64 c) ∧ Below B w w' := by
  subst hL
  have hlt : ∀ q, Value.ownBlock (.slice av L.length cv) = some q → q < wr.heap.size := fun q hq => (HO.lt q hq).2
  obtain ⟨g, cap, w', r1, o1, b1, u1⟩ := push_nd' (w := wr.alloc (.cells #[.int .i64 k, .int .u64 n, .int .i64 c] 37)) (HO.alloc _) (k, n, c) (by omega) (by simp; omega)
  have hsz : (wr.alloc (.cells #[.int .i64 k, .int .u64 n, .int .i64 c] 37)).heap.size = wr.heap.size + 1 := by simp
  rw [hsz] at r1
  refine ⟨g, cap, w', r1, o1, ?_, (hBw.alloc hB _).trans b1⟩
  have hk : Blk w' wr.heap.size 37 [.int .i64 k, .int .u64 n, .int .i64 c] := (Blk.newA wr _ 37).upd u1 fun hq => by have := hlt _ hq; omega
  exact hk.cell 2
/-- A slice of nodes that came in: nothing is asked of an empty one. -/
def NRaw (w : World) (a : Option Addr) (l : List Nd) : Prop := l = [] ∨ NRow w a l
theorem NRaw.open {w : World} {a : Option Addr} {l : List Nd} (h : NRaw w a l) (hl : 0 < l.length) : ∃ b off, a = some ⟨b, off, none⟩ ∧ b < w.heap.size ∧ ∀ i, i < l.length →
    w.cell? ⟨b, off + i * 3, none⟩ = some (.int .i64 (l.getD i nil0).1) ∧ w.cell? ⟨b, off + i * 3 + 1, none⟩ = some (.int .u64 (l.getD i nil0).2.1) ∧ w.cell? ⟨b, off + i * 3 + 2, none⟩ = some (.int .i64 (l.getD i nil0).2.2) := by
  rcases h with rfl | h
  · simp at hl
  · exact h.open hl
theorem NRaw.later {w w' : World} {a : Option Addr} {l : List Nd} (h : NRaw w a l) (hB : Below w.heap.size w w') : NRaw w' a l := h.imp id fun h => h.later hB
set_option maxRecDepth 100000 in
set_option maxHeartbeats 16000000 in
theorem made_any (a : Option Addr) (len cap : Nat) (raw : List Nd) (w : World) (hl : raw.length = len) (hm : len ≤ 9223372036854775807) (hr : Hid (NRaw w a raw)) (hf : Hid (∀ x ∈ raw, Fits x)) :
    Calls Tryd.prog 10 #[.slice a len cap] w fun e w' => ∃ v M, e = .returned v ∧ Hid (w'.ownsRow w.heap.size 37 3 v M.length (cellsN M)) ∧ Hid (MadeOk M) ∧ Below w.heap.size w w' := by
  go_enter Tryd.func10, Tryd.ntmps10
  go_wp2_with fail
  go_loopw [3, 4, 5] (fun xv xw xi wr => ∃ (v : Value) (L : List Nd) (m : Int) (i : Nat), v = xv ∧ xw = .int .i64 m ∧ xi = .int .i64 i ∧ 0 ≤ m ∧ (i < 150 → m ≤ 300) ∧ (i : Int) + m ≤ 450 ∧ Hid (L.length = i) ∧ Hid (wr.ownsRow w.heap.size 37 3 v L.length (cellsN L)) ∧ Hid (Pre L m) ∧ Hid (∀ x ∈ L, 0 ≤ x.2.1) ∧ Hid (Below w.heap.size w wr)) (fun _ _ xi _ => 450 - (intOf xi).toNat)
  case atStart => exact ⟨_, [], 1, 0, rfl, rfl, rfl, by omega, by omega, by omega, rfl, World.ownsRow_nil _ _ _ _, Pre.nil, by intro x hx; simp at hx, Below.refl _ _⟩
  case round =>
    obtain ⟨v, L, m, i, rfl, rfl, rfl, hm0, hm1, hm2, HLi, HO, HP, HQ, HB⟩ := hrel
    by_cases hmz : m = 0
    · subst hmz
      go_wp2
      go_ret
      exact ⟨v, L, rfl, HO, ⟨HP.out.done, by have := HLi.out; omega, HQ.out⟩, HB.out⟩
    · have hmp : 0 < m := by omega
      have hsz : w.heap.size ≤ wr.heap.size := HB.out.size
      have hvl : ∃ av cv, v = .slice av i cv := by
        have := HLi.out
        subst this
        rcases HO.out.2 with ⟨e, h0⟩ | ⟨g, cp, cur, e, _⟩
        · exact ⟨none, 0, by rw [e, h0]⟩
        · exact ⟨_, _, e⟩
      obtain ⟨av, cv, rfl⟩ := hvl
      have HOB : Hid (∀ q, Value.ownBlock (.slice av i cv) = some q → q < wr.heap.size) := fun q hq => (HO.out.lt q hq).2
      by_cases hin : i < len ∧ i < 150
      · obtain ⟨hi1, hi2⟩ := hin
        have hi1' : (i : Int) < len := by omega
        have hi2' : (i : Int) < 150 := by omega
        obtain ⟨b, off, rfl, hb, hc⟩ := hr.out.open (by omega)
        obtain ⟨c0, c1, c2⟩ := hc i (by omega)
        have hmem : raw.getD i nil0 ∈ raw := by rw [List.getD, List.getElem?_eq_getElem (show i < raw.length by omega)]; exact List.getElem_mem _
        have hfx := hf.out _ hmem
        have d0 := (HB.out.cell (p := ⟨b, off + i * 3, none⟩) hb).trans c0
        have d1 := (HB.out.cell (p := ⟨b, off + i * 3 + 1, none⟩) hb).trans c1
        have d2 := (HB.out.cell (p := ⟨b, off + i * 3 + 2, none⟩) hb).trans c2
        clear hc c0 c1 c2 hmem
        generalize raw.getD i nil0 = x at *
        obtain ⟨xk, xn, xc⟩ := x
        obtain ⟨f1, f2, f3⟩ := hfx
        simp only at d0 d1 d2 f1 f2 f3
        have d0a : ∀ ob, (wr.alloc ob).cell? ⟨b, off + i * 3, none⟩ = some (.int .i64 xk) := fun ob => (cell_alloc wr ob _ _ (World.block_lt_of_cell? wr _ d0)).trans d0
        have d1a : ∀ ob, (wr.alloc ob).cell? ⟨b, off + i * 3 + 1, none⟩ = some (.int .u64 xn) := fun ob => (cell_alloc wr ob _ _ (World.block_lt_of_cell? wr _ d1)).trans d1
        have d2a : ∀ ob, (wr.alloc ob).cell? ⟨b, off + i * 3 + 2, none⟩ = some (.int .i64 xc) := fun ob => (cell_alloc wr ob _ _ (World.block_lt_of_cell? wr _ d2)).trans d2
        go_wp2_with fail
        refine (rest_any xk 1 6 _ (by decide) (by decide) (by decide) f1).mono ?_; rintro e w1 ⟨K, rfl, hK1, hK2, rfl⟩
        clear d0a d1a d2a d0 d1 d2
        go_upto_region 13 with fail
        obtain ⟨lf, hlf⟩ : ∃ lf, max 0 (300 - (i : Int) - m) = lf := ⟨_, rfl⟩
        have hlf2 : 0 ≤ lf ∧ (lf = 0 ∨ lf = 300 - i - m) := by rw [← hlf, Int.max_def]; split <;> omega
        rw [hlf]
        clear hlf
        have hmi := hm1 hi2
        have hKs : K = 1 ∨ K = 2 ∨ K = 3 ∨ K = 4 ∨ K = 5 ∨ K = 6 := by omega
        rcases hKs with rfl | rfl | rfl | rfl | rfl | rfl
        · go_upto_region 31 with fail
          have hR : right (1, xn, 0) = true := (right_iff _).2 (by simp [mostN, leastK, mostK]; try omega)
          obtain ⟨g, cap', w', r1, o1, k1, b1⟩ := made_push HO.out HB.out hsz 1 xn 0 HLi.out (by omega)
          have R1 : Hid _ := r1
          have O1 : Hid _ := o1
          have HB1 : Hid (Below w.heap.size w w') := b1
          have HP1 : Hid (Pre (L ++ [(1, xn, 0)]) (m - 1 + 0)) := HP.out.step hmp hR
          have HQ1 : Hid (∀ x ∈ L ++ [((1, xn, 0) : Nd)], 0 ≤ x.2.1) := fun x hx => by
            rcases List.mem_append.1 hx with h | h
            · exact HQ.out x h
            · simp at h; subst h; show (0 : Int) ≤ xn; omega
          clear r1 o1 b1 HO HB HP HQ HOB hR
          go_wp2_with (at_builtin; have _t := R1; refine wpList_append_run rfl (.tmp 88) (.tmp 90) 22 22 rfl rfl rfl R1.out ?_; clear R1)
          go_roundw
          case rel => exact ⟨_, _, m - 1 + 0, i + 1, rfl, by go_num, by go_num, by omega, by omega, by omega, by show _ = _; rw [List.length_append, HLi.out]; rfl, O1, HP1, HQ1, HB1⟩
          case measure => simp [intOf]; omega
        · obtain ⟨n1, hn1⟩ : ∃ n1, xn.tmod 2 = n1 := ⟨_, rfl⟩
          have hn2 : 0 ≤ n1 ∧ n1 ≤ 1 := by rw [← hn1]; exact ⟨Int.tmod_nonneg _ f2.1, by have := Int.tmod_lt_of_pos xn (show (0 : Int) < 2 by decide); omega⟩
          go_upto_region 31 with fail
          clear hn1
          have hR : right (2, n1, 0) = true := (right_iff _).2 (by simp [mostN, leastK, mostK]; try omega)
          obtain ⟨g, cap', w', r1, o1, k1, b1⟩ := made_push HO.out HB.out hsz 2 n1 0 HLi.out (by omega)
          have R1 : Hid _ := r1
          have O1 : Hid _ := o1
          have HB1 : Hid (Below w.heap.size w w') := b1
          have HP1 : Hid (Pre (L ++ [(2, n1, 0)]) (m - 1 + 0)) := HP.out.step hmp hR
          have HQ1 : Hid (∀ x ∈ L ++ [((2, n1, 0) : Nd)], 0 ≤ x.2.1) := fun x hx => by
            rcases List.mem_append.1 hx with h | h
            · exact HQ.out x h
            · simp at h; subst h; show (0 : Int) ≤ n1; omega
          clear r1 o1 b1 HO HB HP HQ HOB hR
          go_wp2_with (at_builtin; have _t := R1; refine wpList_append_run rfl (.tmp 88) (.tmp 90) 22 22 rfl rfl rfl R1.out ?_; clear R1)
          go_roundw
          case rel => exact ⟨_, _, m - 1 + 0, i + 1, rfl, by go_num, by go_num, by omega, by omega, by omega, by show _ = _; rw [List.length_append, HLi.out]; rfl, O1, HP1, HQ1, HB1⟩
          case measure => simp [intOf]; omega
        · obtain ⟨mn, hmn⟩ : ∃ mn, min lf 9 = mn := ⟨_, rfl⟩
          have hmn2 : 0 ≤ mn ∧ mn ≤ 9 ∧ mn ≤ lf := by rw [← hmn, Int.min_def]; split <;> omega
          go_wp2_with (go_at_call 18; fail)
          refine (rest_any xc 0 mn _ (by decide) hmn2.1 (by omega) f3).mono ?_; rintro e w1 ⟨r, rfl, hr1, hr2, rfl⟩
          clear hmn
          go_upto_region 31 with fail
          have hR : right (3, 0, r) = true := (right_iff _).2 (by simp [mostN, leastK, mostK]; try omega)
          obtain ⟨g, cap', w', r1, o1, k1, b1⟩ := made_push HO.out HB.out hsz 3 0 r HLi.out (by omega)
          have R1 : Hid _ := r1
          have O1 : Hid _ := o1
          have HB1 : Hid (Below w.heap.size w w') := b1
          have HP1 : Hid (Pre (L ++ [(3, 0, r)]) (m - 1 + r)) := HP.out.step hmp hR
          have HQ1 : Hid (∀ x ∈ L ++ [((3, 0, r) : Nd)], 0 ≤ x.2.1) := fun x hx => by
            rcases List.mem_append.1 hx with h | h
            · exact HQ.out x h
            · simp at h; subst h; show (0 : Int) ≤ 0; omega
          clear r1 o1 b1 HO HB HP HQ HOB hR
          go_wp2_with (at_builtin; have _t := R1; refine wpList_append_run rfl (.tmp 88) (.tmp 90) 22 22 rfl rfl rfl R1.out ?_; clear R1)
          go_roundw
          case rel => exact ⟨_, _, m - 1 + r, i + 1, rfl, by go_num, by go_num, by omega, by omega, by omega, by show _ = _; rw [List.length_append, HLi.out]; rfl, O1, HP1, HQ1, HB1⟩
          case measure => simp [intOf]; omega
        · obtain ⟨mn, hmn⟩ : ∃ mn, min lf 6 = mn := ⟨_, rfl⟩
          have hmn2 : 0 ≤ mn ∧ mn ≤ 6 ∧ mn ≤ lf := by rw [← hmn, Int.min_def]; split <;> omega
          obtain ⟨mx, hmx⟩ : ∃ mx, max 1 mn = mx := ⟨_, rfl⟩
          have hmx2 : 1 ≤ mx ∧ mx ≤ 6 ∧ (mx = 1 ∨ mx ≤ lf) := by rw [← hmx, Int.max_def]; split <;> omega
          go_wp2_with (go_at_call 18; fail)
          refine (rest_any xc 1 mx _ (by decide) hmx2.1 (by omega) f3).mono ?_; rintro e w1 ⟨r, rfl, hr1, hr2, rfl⟩
          clear hmn hmx
          go_upto_region 31 with fail
          have hR : right (4, 0, r) = true := (right_iff _).2 (by simp [mostN, leastK, mostK]; try omega)
          obtain ⟨g, cap', w', r1, o1, k1, b1⟩ := made_push HO.out HB.out hsz 4 0 r HLi.out (by omega)
          have R1 : Hid _ := r1
          have O1 : Hid _ := o1
          have HB1 : Hid (Below w.heap.size w w') := b1
          have HP1 : Hid (Pre (L ++ [(4, 0, r)]) (m - 1 + r)) := HP.out.step hmp hR
          have HQ1 : Hid (∀ x ∈ L ++ [((4, 0, r) : Nd)], 0 ≤ x.2.1) := fun x hx => by
            rcases List.mem_append.1 hx with h | h
            · exact HQ.out x h
            · simp at h; subst h; show (0 : Int) ≤ 0; omega
          clear r1 o1 b1 HO HB HP HQ HOB hR
          go_wp2_with (at_builtin; have _t := R1; refine wpList_append_run rfl (.tmp 88) (.tmp 90) 22 22 rfl rfl rfl R1.out ?_; clear R1)
          go_roundw
          case rel => exact ⟨_, _, m - 1 + r, i + 1, rfl, by go_num, by go_num, by omega, by omega, by omega, by show _ = _; rw [List.length_append, HLi.out]; rfl, O1, HP1, HQ1, HB1⟩
          case measure => simp [intOf]; omega
        · go_wp2_with (go_at_call 18; fail)
          refine (rest_any xc 0 1 _ (by decide) (by decide) (by decide) f3).mono ?_; rintro e w1 ⟨r, rfl, hr1, hr2, rfl⟩
          go_upto_region 31 with fail
          have hR : right (5, 0, r) = true := (right_iff _).2 (by simp [mostN, leastK, mostK]; try omega)
          obtain ⟨g, cap', w', r1, o1, k1, b1⟩ := made_push HO.out HB.out hsz 5 0 r HLi.out (by omega)
          have R1 : Hid _ := r1
          have O1 : Hid _ := o1
          have HB1 : Hid (Below w.heap.size w w') := b1
          have HP1 : Hid (Pre (L ++ [(5, 0, r)]) (m - 1 + r)) := HP.out.step hmp hR
          have HQ1 : Hid (∀ x ∈ L ++ [((5, 0, r) : Nd)], 0 ≤ x.2.1) := fun x hx => by
            rcases List.mem_append.1 hx with h | h
            · exact HQ.out x h
            · simp at h; subst h; show (0 : Int) ≤ 0; omega
          clear r1 o1 b1 HO HB HP HQ HOB hR
          go_wp2_with (at_builtin; have _t := R1; refine wpList_append_run rfl (.tmp 88) (.tmp 90) 22 22 rfl rfl rfl R1.out ?_; clear R1)
          go_roundw
          case rel => exact ⟨_, _, m - 1 + r, i + 1, rfl, by go_num, by go_num, by omega, by omega, by omega, by show _ = _; rw [List.length_append, HLi.out]; rfl, O1, HP1, HQ1, HB1⟩
          case measure => simp [intOf]; omega
        · obtain ⟨n1, hn1⟩ : ∃ n1, xn.tmod 256 = n1 := ⟨_, rfl⟩
          have hn2 : 0 ≤ n1 ∧ n1 ≤ 255 := by rw [← hn1]; exact ⟨Int.tmod_nonneg _ f2.1, by have := Int.tmod_lt_of_pos xn (show (0 : Int) < 256 by decide); omega⟩
          go_upto_region 31 with fail
          clear hn1
          have hR : right (6, n1, 1) = true := (right_iff _).2 (by simp [mostN, leastK, mostK]; try omega)
          obtain ⟨g, cap', w', r1, o1, k1, b1⟩ := made_push HO.out HB.out hsz 6 n1 1 HLi.out (by omega)
          have R1 : Hid _ := r1
          have O1 : Hid _ := o1
          have HB1 : Hid (Below w.heap.size w w') := b1
          have HP1 : Hid (Pre (L ++ [(6, n1, 1)]) (m - 1 + 1)) := HP.out.step hmp hR
          have HQ1 : Hid (∀ x ∈ L ++ [((6, n1, 1) : Nd)], 0 ≤ x.2.1) := fun x hx => by
            rcases List.mem_append.1 hx with h | h
            · exact HQ.out x h
            · simp at h; subst h; show (0 : Int) ≤ n1; omega
          clear r1 o1 b1 HO HB HP HQ HOB hR
          go_wp2_with (at_builtin; have _t := R1; refine wpList_append_run rfl (.tmp 88) (.tmp 90) 22 22 rfl rfl rfl R1.out ?_; clear R1)
          go_roundw
          case rel => exact ⟨_, _, m - 1 + 1, i + 1, rfl, by go_num, by go_num, by omega, by omega, by omega, by show _ = _; rw [List.length_append, HLi.out]; rfl, O1, HP1, HQ1, HB1⟩
          case measure => simp [intOf]; omega
      · have hout : (¬ (i : Int) < len) ∨ ((i : Int) < len ∧ ¬ (i : Int) < 150) := by omega
        clear hin
        rcases hout with h1 | ⟨h1, h2⟩
        · go_wp2_with (go_at_call 18; fail)
          refine (rest_any 0 1 6 _ (by decide) (by decide) (by decide) (by decide)).mono ?_; rintro e w1 ⟨K, rfl, hK1, hK2, rfl⟩
          go_upto_region 31 with fail
          have hR : right (1, 0, 0) = true := (right_iff _).2 (by simp [mostN, leastK, mostK]; try omega)
          obtain ⟨g, cap', w', r1, o1, k1, b1⟩ := made_push HO.out HB.out hsz 1 0 0 HLi.out (by omega)
          have R1 : Hid _ := r1
          have O1 : Hid _ := o1
          have HB1 : Hid (Below w.heap.size w w') := b1
          have HP1 : Hid (Pre (L ++ [(1, 0, 0)]) (m - 1 + 0)) := HP.out.step hmp hR
          have HQ1 : Hid (∀ x ∈ L ++ [((1, 0, 0) : Nd)], 0 ≤ x.2.1) := fun x hx => by
            rcases List.mem_append.1 hx with h | h
            · exact HQ.out x h
            · simp at h; subst h; show (0 : Int) ≤ 0; omega
          clear r1 o1 b1 HO HB HP HQ HOB hR
          go_wp2_with (at_builtin; have _t := R1; refine wpList_append_run rfl (.tmp 88) (.tmp 90) 22 22 rfl rfl rfl R1.out ?_; clear R1)
          go_roundw
          case rel => exact ⟨_, _, m - 1 + 0, i + 1, rfl, by go_num, by go_num, by omega, by omega, by omega, by show _ = _; rw [List.length_append, HLi.out]; rfl, O1, HP1, HQ1, HB1⟩
          case measure => simp [intOf]; omega
        · go_wp2_with (go_at_call 18; fail)
          refine (rest_any 0 1 6 _ (by decide) (by decide) (by decide) (by decide)).mono ?_; rintro e w1 ⟨K, rfl, hK1, hK2, rfl⟩
          go_upto_region 31 with fail
          have hR : right (1, 0, 0) = true := (right_iff _).2 (by simp [mostN, leastK, mostK]; try omega)
          obtain ⟨g, cap', w', r1, o1, k1, b1⟩ := made_push HO.out HB.out hsz 1 0 0 HLi.out (by omega)
          have R1 : Hid _ := r1
          have O1 : Hid _ := o1
          have HB1 : Hid (Below w.heap.size w w') := b1
          have HP1 : Hid (Pre (L ++ [(1, 0, 0)]) (m - 1 + 0)) := HP.out.step hmp hR
          have HQ1 : Hid (∀ x ∈ L ++ [((1, 0, 0) : Nd)], 0 ≤ x.2.1) := fun x hx => by
            rcases List.mem_append.1 hx with h | h
            · exact HQ.out x h
            · simp at h; subst h; show (0 : Int) ≤ 0; omega
          clear r1 o1 b1 HO HB HP HQ HOB hR
          go_wp2_with (at_builtin; have _t := R1; refine wpList_append_run rfl (.tmp 88) (.tmp 90) 22 22 rfl rfl rfl R1.out ?_; clear R1)
          go_roundw
          case rel => exact ⟨_, _, m - 1 + 0, i + 1, rfl, by go_num, by go_num, by omega, by omega, by omega, by show _ = _; rw [List.length_append, HLi.out]; rfl, O1, HP1, HQ1, HB1⟩
          case measure => simp [intOf]; omega
end Go.Proofs.YtlbgdgobhiokpaaDoor

/- The way: plain. -/
namespace Go.Proofs.YtlbgdgobhiokpaaDoor
open Go.RowKit
set_option linter.unusedVariables false

/-- The node that the kids of a way lead to, from the root on. -/
def lead (M : List Nd) : Stk → Nat
  | [] => 0
  | (j, _) :: T => lead M T + 1 + bh j.toNat (M.drop (lead M T + 1))
/-- Each one's kids: those ahead, the one that it is in, those behind. -/
def Ways (M : List Nd) : Stk → Prop
  | [] => True
  | (j, f) :: T => 0 ≤ j ∧ 0 ≤ f ∧ (M.getD (lead M T) nil0).2.2 = j + f + 1 ∧ Ways M T
/-- Where the value at a place ends. -/
def endOf (M : List Nd) (p : Nat) : Nat := p + bh 1 (M.drop p)
theorem endOf_node (M : List Nd) (p : Nat) (hp : p < M.length) (c : Nat) (hc : (M.getD p nil0).2.2 = c) : endOf M p = p + 1 + bh c (M.drop (p + 1)) := by
  unfold endOf
  rw [drop_at M p hp, bh, hc]
  simp
  omega
theorem endOf_kid (M : List Nd) (p j : Nat) : p + 1 + bh (j + 1) (M.drop (p + 1)) = endOf M (p + 1 + bh j (M.drop (p + 1))) := by
  unfold endOf
  rw [bh_add, List.drop_drop]
  omega
theorem lead_lt (M : List Nd) (j f : Int) (T : Stk) : lead M T < lead M ((j, f) :: T) := by simp only [lead]; omega
theorem lead_le (M : List Nd) : ∀ (Z T : Stk), lead M T ≤ lead M (Z ++ T)
  | [], T => Nat.le_refl _
  | (j, f) :: Z, T => Nat.le_trans (lead_le M Z T) (Nat.le_of_lt (lead_lt M j f (Z ++ T)))
theorem Ways.tail {M : List Nd} : ∀ {Z T : Stk}, Ways M (Z ++ T) → Ways M T
  | [], _, h => h
  | (j, f) :: Z, T, h => Ways.tail (Z := Z) h.2.2.2
/-- What ends with the innermost one. -/
theorem ways_end (M : List Nd) (e : Nat) : ∀ (Z T : Stk) (j f : Int), Ways M (Z ++ (j, f) :: T) → (∀ x ∈ Z, x.2 = 0) → lead M (Z ++ (j, f) :: T) < M.length → endOf M (lead M (Z ++ (j, f) :: T)) = e → endOf M (lead M ((j, f) :: T)) = e
  | [], T, j, f, _, _, _, h => h
  | (k, g) :: Z, T, j, f, hw, hz, hl, h => by
    have hg : g = 0 := hz (k, g) (by simp)
    subst hg
    obtain ⟨h0, h1, h2, h3⟩ : 0 ≤ k ∧ (0 : Int) ≤ 0 ∧ (M.getD (lead M (Z ++ (j, f) :: T)) nil0).2.2 = k + 0 + 1 ∧ Ways M (Z ++ (j, f) :: T) := hw
    have hlt := lead_lt M k 0 (Z ++ (j, f) :: T)
    refine ways_end M e Z T j f h3 (fun x hx => hz x (by simp [hx])) (Nat.lt_trans hlt hl) ?_
    have hP : lead M (Z ++ (j, f) :: T) < M.length := Nat.lt_trans hlt hl
    obtain ⟨kn, rfl⟩ := Int.eq_ofNat_of_zero_le h0
    rw [endOf_node M _ hP (kn + 1) (by rw [h2]; push_cast; omega), endOf_kid]
    simpa [lead] using h
theorem way_inv (M : List Nd) (hM : (chk 1 0 M).1 = 0) : ∀ (q : Nat), q < M.length → WOK M q (way (M.take q) []) ∧ Ways M (way (M.take q) []) ∧ lead M (way (M.take q) []) = q
  | 0, _ => ⟨WOK.begin hM, trivial, rfl⟩
  | q + 1, hq => by
    obtain ⟨h1, h2, h3⟩ := way_inv M hM q (by omega)
    obtain ⟨s1, s2, s3, s4⟩ := h1.step hq
    have hs : way (M.take (q + 1)) [] = wstep (way (M.take q) []) (M.getD q nil0) := by rw [take_snoc M q (by omega), way_snoc]
    rw [hs]
    refine ⟨s1, ?_⟩
    generalize hS : way (M.take q) [] = S at *
    by_cases hc : 0 < (M.getD q nil0).2.2
    · rw [wstep, if_pos hc]
      refine ⟨⟨by omega, by omega, by rw [h3]; omega, h2⟩, ?_⟩
      simp only [lead, h3]
      rw [show (0 : Int).toNat = 0 from rfl, bh_zero]
    · have hc0 : (M.getD q nil0).2.2 = 0 := by omega
      obtain ⟨Z, j, f, T, rfl, hz, hf, hw⟩ := s4 hc0
      rw [hw]
      have hend : endOf M (lead M (Z ++ (j, f) :: T)) = q + 1 := by
        rw [h3, endOf_node M q (by omega) 0 hc0, bh_zero]
      have he := ways_end M (q + 1) Z T j f h2 hz (by rw [h3]; omega) hend
      obtain ⟨h0, h1', h2', h3'⟩ := h2.tail
      obtain ⟨jn, rfl⟩ := Int.eq_ofNat_of_zero_le h0
      refine ⟨⟨by omega, by omega, by rw [h2']; omega, h3'⟩, ?_⟩
      have e1 : lead M (((jn : Int) + 1, f - 1) :: T) = lead M T + 1 + bh (jn + 1) (M.drop (lead M T + 1)) := by
        simp only [lead]
        rw [show ((jn : Int) + 1).toNat = jn + 1 by omega]
      rw [e1, endOf_kid]
      simpa [lead] using he
theorem place_zero {M : List Nd} (hM : (chk 1 0 M).1 = 0) {p : Nat} (hp : p < M.length) : place M (p : Int) = 0 := by
  rw [place, if_pos hM, if_neg (by omega)]
theorem next_is {M : List Nd} (hM : (chk 1 0 M).1 = 0) {p : Nat} (hp : p < M.length) : nextR M (p : Int) = ((endOf M p : Int), 0) := by
  rw [nextR, if_pos (place_zero hM hp), Int.toNat_natCast, endOf]
  simp
theorem kid_is {M : List Nd} (hM : (chk 1 0 M).1 = 0) {p k : Nat} (hp : p < M.length) (hk : (k : Int) < (M.getD p nil0).2.2) : kidR M (p : Int) (k : Int) = (((p + 1 + bh k (M.drop (p + 1)) : Nat) : Int), 0) := by
  rw [kidR, if_pos (place_zero hM hp), Int.toNat_natCast, if_neg (by omega), Int.toNat_natCast]
  simp
theorem kid_none {M : List Nd} (hM : (chk 1 0 M).1 = 0) {p : Nat} (hp : p < M.length) : kidR M (p : Int) (M.getD p nil0).2.2 = (0, 3) := by
  rw [kidR, if_pos (place_zero hM hp), Int.toNat_natCast, if_pos (.inr (Int.le_refl _))]
/-- A node's kids begin within the list. -/
theorem kid_lt {M : List Nd} (hM : (chk 1 0 M).1 = 0) {p k : Nat} (hp : p < M.length) (hk : (k : Int) < (M.getD p nil0).2.2) : p + 1 + bh k (M.drop (p + 1)) < M.length := by
  have h1 := chk_at M 1 0 p hM hp
  rw [drop_at M p hp] at h1
  obtain ⟨h0, -, h2⟩ := h1
  have h3 : Enough (k + 1) (M.drop (p + 1)) := h2.mono (by omega)
  have h4 := h3.drop
  rw [List.drop_drop] at h4
  rcases Nat.lt_or_ge (p + 1 + bh k (M.drop (p + 1))) M.length with h | h
  · exact h
  · rw [List.drop_eq_nil_of_le h] at h4
    exact h4.elim
theorem chk_take : ∀ (l : List Nd) (m : Nat) (a : Int) (k : Nat), (chk m a l).1 = 0 → k < l.length → chk m a (l.take k) = (40, a + k)
  | [], _, _, k, _, hk => by simp at hk
  | x :: l, m, a, 0, h, _ => by
    unfold chk at h
    split at h
    · simp at h
    · rename_i hn
      rw [not_or] at hn
      rw [List.take_zero, chk, if_pos (by omega)]
      simp
  | x :: l, m, a, k + 1, h, hk => by
    rw [List.take_succ_cons]
    unfold chk at h ⊢
    split at h
    · simp at h
    · rename_i hn
      rw [if_neg hn]
      rw [not_or] at hn
      have hc := right_kids (x := x) (by simpa using hn.2)
      obtain ⟨m', rfl⟩ : ∃ m', m = m' + 1 := ⟨m - 1, by omega⟩
      rw [show ((m' + 1 : Nat) : Int) + (x.2.2 - 1) = ((m' + x.2.2.toNat : Nat) : Int) by omega] at h ⊢
      rw [chk_take l _ _ k h (by simpa using hk)]
      congr 1
      push_cast
      omega
end Go.Proofs.YtlbgdgobhiokpaaDoor

/- A list of nodes as a tree, plain: where kids begin, whose kid a node is, a node's value. -/
namespace Go.Proofs.YtlbgdgobhiokpaaDoor
open Go.RowKit
set_option linter.unusedVariables false

def kp (M : List Nd) (p k : Nat) : Nat := p + 1 + bh k (M.drop (p + 1))
section
variable {M : List Nd}
theorem kp_zero (p : Nat) : kp M p 0 = p + 1 := by rw [kp, bh_zero]
theorem kp_succ (p k : Nat) : kp M p (k + 1) = endOf M (kp M p k) := endOf_kid M p k
theorem kids_pos (hM : (chk 1 0 M).1 = 0) {p : Nat} (hp : p < M.length) : 0 ≤ (M.getD p nil0).2.2 := by
  have h := (chk_enough M 1 0 hM).2.2 (M.getD p nil0) (by rw [List.getD_eq_getElem?_getD, List.getElem?_eq_getElem hp]; exact List.getElem_mem hp)
  exact (right_kids h).1
theorem kN_cast (hM : (chk 1 0 M).1 = 0) {p : Nat} (hp : p < M.length) : (kN (M.getD p nil0) : Int) = (M.getD p nil0).2.2 := by
  have := kids_pos hM hp
  rw [kN]
  omega
theorem kp_in (hM : (chk 1 0 M).1 = 0) {p k : Nat} (hp : p < M.length) (hk : k < kN (M.getD p nil0)) : kp M p k < M.length := kid_lt hM hp (by have := kN_cast hM hp; omega)
theorem kp_gt (p k : Nat) : p < kp M p k := by rw [kp]; omega
theorem endOf_gt {q : Nat} (hq : q < M.length) : q < endOf M q := by
  rw [endOf, drop_at M q hq, bh]
  omega
theorem endOf_is (hM : (chk 1 0 M).1 = 0) {p : Nat} (hp : p < M.length) : endOf M p = kp M p (kN (M.getD p nil0)) := endOf_node M p hp _ (kN_cast hM hp).symm
theorem kp_mono (hM : (chk 1 0 M).1 = 0) {p : Nat} (hp : p < M.length) : ∀ {k d : Nat}, k + d + 1 ≤ kN (M.getD p nil0) → kp M p k < kp M p (k + d + 1)
  | k, 0, h => by
    rw [Nat.add_zero, kp_succ]
    exact endOf_gt (kp_in hM hp (by omega))
  | k, d + 1, h => by
    have h1 := kp_mono (k := k) (d := d) hM hp (by omega)
    have h2 := endOf_gt (kp_in hM hp (k := k + d + 1) (by omega))
    rw [← kp_succ] at h2
    exact Nat.lt_trans h1 h2
theorem kp_lt (hM : (chk 1 0 M).1 = 0) {p k k' : Nat} (hp : p < M.length) (h : k < k') (hk : k' ≤ kN (M.getD p nil0)) : kp M p k < kp M p k' := by
  have := kp_mono hM hp (k := k) (d := k' - k - 1) (by omega)
  rwa [show k + (k' - k - 1) + 1 = k' by omega] at this
theorem bh_cut : ∀ (d m : Nat) (l : List Nd), d < bh m l → ∃ m', 1 ≤ m' ∧ bh m l = d + bh m' (l.drop d)
  | 0, m, l, h => by
    cases m with
    | zero => rw [bh_zero] at h; omega
    | succ m => exact ⟨m + 1, by omega, by simp⟩
  | d + 1, 0, l, h => by rw [bh_zero] at h; omega
  | d + 1, m + 1, [], h => by simp [bh] at h
  | d + 1, m + 1, x :: l, h => by
    rw [bh] at h ⊢
    obtain ⟨m', h1, h2⟩ := bh_cut d (m + x.2.2.toNat) l (by omega)
    exact ⟨m', h1, by rw [h2, List.drop_succ_cons]; omega⟩
theorem nest {q p : Nat} (h1 : q ≤ p) (h2 : p < endOf M q) : endOf M p ≤ endOf M q := by
  rw [endOf] at h2
  obtain ⟨m', h3, h4⟩ := bh_cut (p - q) 1 (M.drop q) (by omega)
  rw [List.drop_drop, show q + (p - q) = p by omega] at h4
  have h5 := bh_add (M.drop p) 1 (m' - 1)
  rw [show 1 + (m' - 1) = m' by omega] at h5
  rw [endOf, endOf, h4, h5]
  omega
theorem kp_find {q j : Nat} (h1 : q < j) : ∀ (c : Nat), j < kp M q c → ∃ k, k < c ∧ kp M q k ≤ j ∧ j < kp M q (k + 1)
  | 0, h => by rw [kp_zero] at h; omega
  | c + 1, h => by
    rcases Nat.lt_or_ge j (kp M q c) with h2 | h2
    · obtain ⟨k, h3, h4⟩ := kp_find h1 c h2
      exact ⟨k, by omega, h4⟩
    · exact ⟨c, by omega, h2, h⟩
/-- j is node p's kid number k. -/
def IsKid (M : List Nd) (j p k : Nat) : Prop := p < M.length ∧ k < kN (M.getD p nil0) ∧ kp M p k = j
theorem kid_of (hM : (chk 1 0 M).1 = 0) : ∀ (f q j : Nat), q < j → j < endOf M q → q < M.length → j ≤ q + f → ∃ p k, IsKid M j p k
  | 0, q, j, h1, _, _, h2 => by omega
  | f + 1, q, j, h1, h2, hq, h3 => by
    rw [endOf_is hM hq] at h2
    obtain ⟨k, h4, h5, h6⟩ := kp_find h1 _ h2
    by_cases e : kp M q k = j
    · exact ⟨q, k, hq, h4, e⟩
    · rw [kp_succ] at h6
      exact kid_of hM f (kp M q k) j (by omega) h6 (kp_in hM hq h4) (by have := kp_gt (M := M) q k; omega)
theorem endOf_root (hM : (chk 1 0 M).1 = 0) : endOf M 0 = M.length := by
  have := (chk_enough M 1 0 hM).2.1
  rw [endOf, List.drop_zero, this]
  omega
theorem ok_pos (hM : (chk 1 0 M).1 = 0) : 0 < M.length := by
  cases M with
  | nil => simp [chk] at hM
  | cons x l => simp
theorem isKid_ex (hM : (chk 1 0 M).1 = 0) {j : Nat} (h0 : 0 < j) (hj : j < M.length) : ∃ p k, IsKid M j p k :=
  kid_of hM j 0 j h0 (by rw [endOf_root hM]; exact hj) (ok_pos hM) (by omega)
theorem isKid_no (hM : (chk 1 0 M).1 = 0) {j p k p' k' : Nat} (h : IsKid M j p k) (h' : IsKid M j p' k') : ¬ p < p' := fun hlt => by
  obtain ⟨h1, h2, h3⟩ := h
  obtain ⟨g1, g2, g3⟩ := h'
  have h4 : p' < j := by rw [← g3]; exact kp_gt _ _
  obtain ⟨k2, h5, h6, h7⟩ := kp_find hlt k (by rw [h3]; exact h4)
  rw [kp_succ] at h7
  have h8 := nest h6 h7
  rw [← kp_succ, endOf_is hM g1] at h8
  have h9 : kp M p' k' < kp M p' (kN (M.getD p' nil0)) := kp_lt hM g1 g2 (Nat.le_refl _)
  have h10 : kp M p (k2 + 1) ≤ kp M p k := by
    by_cases e : k2 + 1 = k
    · rw [e]; exact Nat.le_refl _
    · exact Nat.le_of_lt (kp_lt hM h1 (by omega) (by omega))
  omega
theorem isKid_one (hM : (chk 1 0 M).1 = 0) {j p k p' k' : Nat} (h : IsKid M j p k) (h' : IsKid M j p' k') : p = p' ∧ k = k' := by
  have h1 := isKid_no hM h h'
  have h2 := isKid_no hM h' h
  obtain rfl : p = p' := by omega
  refine ⟨rfl, ?_⟩
  obtain ⟨a1, a2, a3⟩ := h
  obtain ⟨b1, b2, b3⟩ := h'
  rcases Nat.lt_trichotomy k k' with e | e | e
  · have := kp_lt hM a1 e (by omega); omega
  · exact e
  · have := kp_lt hM a1 e (by omega); omega
theorem IsKid.lt {j p k : Nat} (h : IsKid M j p k) : p < j := by rw [← h.2.2]; exact kp_gt _ _
theorem IsKid.in (hM : (chk 1 0 M).1 = 0) {j p k : Nat} (h : IsKid M j p k) : j < M.length := by rw [← h.2.2]; exact kp_in hM h.1 h.2.1
/-- The value at a place. -/
def sub (M : List Nd) (p : Nat) : List Nd := (M.drop p).take (bh 1 (M.drop p))
theorem take_kids (l : List Nd) : ∀ c, l.take (bh c l) = (List.range c).flatMap fun k => (l.drop (bh k l)).take (bh 1 (l.drop (bh k l)))
  | 0 => by simp [bh_zero]
  | c + 1 => by
    rw [bh_add l c 1, List.take_add, take_kids l c, List.range_succ, List.flatMap_append]
    simp
theorem sub_step (hM : (chk 1 0 M).1 = 0) {p : Nat} (hp : p < M.length) : sub M p = M.getD p nil0 :: (List.range (kN (M.getD p nil0))).flatMap fun k => sub M (kp M p k) := by
  unfold sub
  rw [drop_at M p hp, bh, List.take_succ_cons, Nat.zero_add]
  congr 1
  have h := take_kids (M.drop (p + 1)) (kN (M.getD p nil0))
  rw [show (M.getD p nil0).2.2.toNat = kN (M.getD p nil0) from rfl, h]
  rw [List.flatMap_def, List.flatMap_def]
  congr 1
  apply List.map_congr_left
  intro k hk
  rw [List.drop_drop, kp]
theorem sub_root (hM : (chk 1 0 M).1 = 0) : sub M 0 = M := by
  have := (chk_enough M 1 0 hM).2.1
  rw [sub, List.drop_zero, this, List.take_length]
end
/-- Who has this spot. -/
def chS (N : List Nd) (S : Stk) (p k : Nat) : Nat := ((List.range N.length).find? fun i => decide (1 ≤ i) && (S.getD i (0, 0) == ((p : Int), (k : Int)))).getD 0
theorem chS_is {N : List Nd} {S G : Stk} (h : Inv N S G) {p k i : Nat} (h1 : 1 ≤ i) (h2 : i < N.length) (h3 : S.getD i (0, 0) = ((p : Int), (k : Int))) : chS N S p k = i := by
  unfold chS
  cases hf : (List.range N.length).find? fun i => decide (1 ≤ i) && (S.getD i (0, 0) == ((p : Int), (k : Int))) with
  | none =>
    have := List.find?_eq_none.1 hf i (List.mem_range.2 h2)
    simp only [h1, h3, decide_true, beq_self_eq_true, Bool.and_self, not_true_eq_false] at this
  | some j =>
    have hj := List.find?_some hf
    have hm := List.mem_range.1 (List.mem_of_find?_eq_some hf)
    simp only [Bool.and_eq_true, decide_eq_true_eq, beq_iff_eq] at hj
    exact h.inj j i hj.1 hm h1 h2 (by rw [hj.2, h3])
theorem Inv.kids {N : List Nd} {S G : Stk} (h : Inv N S G) : Kids N S (chS N S) := fun p hp k hk => by
  have h0 := h.pos p hp
  obtain ⟨i, h1, h2, h3⟩ := h.full p hp k (by rw [kN] at hk; omega)
  rw [chS_is h h1 h2 h3]
  obtain ⟨p', k', h4, h5⟩ := h.spt i h1 h2
  rw [h3] at h4
  have := (Prod.mk.inj h4).1
  exact ⟨by omega, h2, h3⟩
theorem Inv.spots {N : List Nd} {S : Stk} (h : Inv N S []) : SpotsIn N S := by
  refine ⟨fun i h1 h2 => ?_, h.inj⟩
  obtain ⟨p, k, h3, h4⟩ := h.spt i h1 h2
  refine ⟨p, k, h3, by omega, ?_⟩
  rcases (h.taken (p := p) (k := k) (by omega)).2 ⟨i, h1, h2, h3⟩ with h5 | h5
  · simp at h5
  · rw [kN]; omega
end Go.Proofs.YtlbgdgobhiokpaaDoor

/- A value's text by recursion is its printed text: plain. -/
namespace Go.Proofs.YtlbgdgobhiokpaaDoor
open Go.RowKit
set_option linter.unusedVariables false

def sepT (i : Nat) : List Int := if 0 < i then [44, 32] else []
/-- The texts of a node's kids, from number i on, so many, with what parts them. -/
def kidsT (T : Nat → List Int) (M : List Nd) (p : Nat) : Nat → Nat → List Int
  | 0, _ => []
  | j + 1, i => sepT i ++ T (kp M p i) ++ kidsT T M p j (i + 1)
def txF (M : List Nd) : Nat → Nat → List Int
  | 0, _ => []
  | f + 1, p => beginT (M.getD p nil0) ++ kidsT (txF M f) M p (kN (M.getD p nil0)) 0 ++ endT (M.getD p nil0).1
/-- What comes behind a value's text. -/
def aft : Stk → List Nd → List Int
  | [], r => printM r []
  | (g, k) :: T, r => (if 0 < g - 1 then [44, 32] else []) ++ cl (g - 1) k T r
theorem cl_zero (k : Int) (K : Stk) (r : List Nd) : cl 0 k K r = endT k ++ aft K r := by
  cases K with
  | nil => simp [cl, closeM, aft]
  | cons e T => obtain ⟨g, k2⟩ := e; simp [cl, closeM, aft]
theorem kids_print {M : List Nd} {T : Nat → List Int} {p : Nat} {k : Int} {K : Stk} (hM : (chk 1 0 M).1 = 0) (hp : p < M.length) (c : Nat) (hc : c = kN (M.getD p nil0)) (hT : ∀ i, i < c → ∀ K', printM (M.drop (kp M p i)) K' = T (kp M p i) ++ aft K' (M.drop (kp M p (i + 1)))) :
    ∀ (j i : Nat), i + (j + 1) = c → sepT i ++ printM (M.drop (kp M p i)) (((c : Int) - i, k) :: K) = kidsT T M p (j + 1) i ++ endT k ++ aft K (M.drop (kp M p c))
  | 0, i, h => by
    rw [hT i (by omega), kidsT, kidsT, aft, if_neg (by omega), show ((c : Int) - i - 1) = 0 by omega, cl_zero, show i + 1 = c by omega]
    simp [List.append_assoc]
  | j + 1, i, h => by
    have ih := kids_print (k := k) (K := K) hM hp c hc hT j (i + 1) (by omega)
    rw [hT i (by omega), kidsT, aft, if_pos (by omega), cl_pos (by omega), show ((c : Int) - i - 1) = (c : Int) - (i + 1 : Nat) by omega]
    have e : sepT (i + 1) = [44, 32] := by unfold sepT; rw [if_pos (by omega)]
    rw [e] at ih
    rw [ih]
    simp [List.append_assoc]
theorem tx_print {M : List Nd} (hM : (chk 1 0 M).1 = 0) : ∀ (f p : Nat) (K : Stk), p < M.length → M.length ≤ p + f → printM (M.drop p) K = txF M f p ++ aft K (M.drop (endOf M p))
  | 0, p, K, hp, hf => by omega
  | f + 1, p, K, hp, hf => by
    have hk := kN_cast hM hp
    rw [drop_nd hp, printM_cons, txF, endOf_is hM hp]
    obtain ⟨c, hc⟩ : ∃ c, kN (M.getD p nil0) = c := ⟨_, rfl⟩
    rw [hc] at hk ⊢
    rw [← hk]
    cases c with
    | zero =>
      rw [kidsT, kp_zero]
      have : ((0 : Nat) : Int) = 0 := rfl
      rw [this, cl_zero]
      simp [List.append_assoc]
    | succ j =>
      rw [cl_pos (by omega)]
      have h := kids_print (k := (M.getD p nil0).1) (K := K) (T := txF M f) hM hp (j + 1) hc.symm (fun i hi K' => by
        have hin := kp_in hM hp (k := i) (by omega)
        have hgt := kp_gt (M := M) p i
        rw [tx_print hM f (kp M p i) K' hin (by omega), kp_succ]) j 0 (by omega)
      rw [kp_zero] at h
      have e : sepT 0 = [] := rfl
      rw [e, List.nil_append] at h
      have e2 : (((j + 1 : Nat) : Int) - (0 : Nat)) = ((j + 1 : Nat) : Int) := by omega
      rw [e2] at h
      rw [h]
      simp [List.append_assoc]
theorem tx_whole {M : List Nd} (hM : (chk 1 0 M).1 = 0) : txF M M.length 0 = printM M [] := by
  have hp := ok_pos hM
  have h := tx_print hM M.length 0 [] hp (by omega)
  rw [List.drop_zero] at h
  have he : endOf M 0 = M.length := by
    rw [endOf, List.drop_zero, (chk_enough M 1 0 hM).2.1, Nat.zero_add]
  rw [he, List.drop_length] at h
  simp [aft, printM] at h
  exact h.symm
end Go.Proofs.YtlbgdgobhiokpaaDoor
