/- awake. -/
import Derived.Test.YtlbgdgobhiokpaaDoorZh
namespace Go.Proofs.YtlbgdgobhiokpaaDoor
open Go.RowKit
set_option linter.unusedVariables false

theorem parse8 (w : World) : Calls Tryd.prog 12 #[.string T8] w fun e w' => ∃ a c, e = .returned (.tuple #[.slice a 8 c, .agg #[.int .i64 0, .int .i64 0]]) ∧ Hid (NRow w' a V8) ∧ 8 ≤ c ∧ c ≤ 9223372036854775807 ∧ Below w.heap.size w w' := by
  refine (parse_any T8 w (by decide)).mono ?_
  rintro e w' ⟨v, rfl, ho, hB⟩
  rw [p8N] at ho
  obtain ⟨a, c, rfl, hr, h1, h2, -⟩ := own_nrow ho.out
  exact ⟨a, c, by rw [p8F]; rfl, hr, h1, h2, hB⟩
theorem parse5 (w : World) : Calls Tryd.prog 12 #[.string T5] w fun e w' => ∃ v, e = .returned (.tuple #[v, .agg #[.int .i64 41, .int .i64 4]]) ∧ Below w.heap.size w w' := by
  refine (parse_any T5 w (by decide)).mono ?_
  rintro e w' ⟨v, rfl, ho, hB⟩
  exact ⟨v, by rw [p5F]; rfl, hB⟩
theorem print8 (a : Option Addr) (c : Nat) (w : World) (h : Hid (NRow w a V8)) (ht : Hid (Tab w.heap.size w)) : Calls Tryd.prog 11 #[.slice a 8 c] w fun e w' => e = .returned (.tuple #[.string ⟨#[91, 123, 49, 44, 32, 110, 111, 110, 101, 125, 44, 32, 60, 53, 58, 116, 114, 117, 101, 62, 44, 32, 115, 111, 109, 101, 32, 51, 93]⟩, .int .i64 0]) ∧ Below w.heap.size w w' := by
  refine (print_any a 8 c V8 w rfl (by decide) h (show ∀ x ∈ V8, (0 : Int) ≤ x.2.1 from by decide) ht).mono ?_
  rintro e w' ⟨rfl, hB⟩
  exact ⟨by rw [v8p, v8c]; rfl, hB⟩
theorem check8 (a : Option Addr) (c : Nat) (w : World) (h : Hid (NRow w a V8)) : Calls Tryd.prog 17 #[.slice a 8 c] w fun e w' => e = .returned (.agg #[.int .i64 0, .int .i64 0]) ∧ Below w.heap.size w w' := by
  refine (check_any a 8 c V8 w rfl (by decide) h).mono ?_
  rintro e w' ⟨rfl, hB⟩
  exact ⟨by rw [v8c]; rfl, hB⟩
theorem next8 (a : Option Addr) (c : Nat) (w : World) (h : Hid (NRow w a V8)) : Calls Tryd.prog 21 #[.slice a 8 c, .int .i64 1] w fun e w' => e = .returned (.tuple #[.int .i64 4, .int .i64 0]) ∧ Below w.heap.size w w' := by
  refine (next_any a 8 c 1 V8 w rfl (by decide) h).mono ?_
  rintro e w' ⟨rfl, hB⟩
  exact ⟨by rw [v8n]; rfl, hB⟩
theorem kid8 (a : Option Addr) (c : Nat) (w : World) (h : Hid (NRow w a V8)) : Calls Tryd.prog 20 #[.slice a 8 c, .int .i64 0, .int .i64 2] w fun e w' => e = .returned (.tuple #[.int .i64 6, .int .i64 0]) ∧ Below w.heap.size w w' := by
  refine (kid_any a 8 c 0 2 V8 w rfl (by decide) h).mono ?_
  rintro e w' ⟨rfl, hB⟩
  exact ⟨by rw [v8k]; rfl, hB⟩
theorem path8 (a : Option Addr) (c : Nat) (w : World) (h : Hid (NRow w a V8)) (h1 : 8 ≤ c) (h2 : c ≤ 9223372036854775807) : Calls Tryd.prog 19 #[.slice a 8 c, .int .i64 3] w fun e w' => ∃ a2 c2, e = .returned (.tuple #[.slice a2 2 c2, .int .i64 0]) ∧ Hid (Row .i64 w' a2 [0, 1]) ∧ Below w.heap.size w w' := by
  refine (path_any a 8 c 3 V8 w rfl h1 (by decide) h2 h).mono ?_
  rintro e w' ⟨v, rfl, ho, hB⟩
  rw [v8w] at ho
  obtain ⟨a2, c2, rfl, hr, -⟩ := own_open (l := [0, 1]) ho.out rfl
  exact ⟨a2, c2, by rw [v8q]; rfl, hr, hB⟩
theorem fault_yes (x y : Int) (w : World) : Calls Tryd.prog 14 #[.agg #[.int .i64 x, .int .i64 y], .int .i64 x, .int .i64 y] w fun e w' => e = .returned (.bool true) ∧ Below w.heap.size w w' := by
  refine (fault_any x y x y w).mono ?_
  rintro e w' ⟨rfl, hB⟩
  exact ⟨by simp, hB⟩
theorem same2 (a1 a2 : Option Addr) (k1 k2 : Nat) (w : World) (r1 : Hid (Row .i64 w a1 [0, 1])) (r2 : Hid (Row .i64 w a2 [0, 1])) : Calls Tryd.prog 33 #[.slice a1 2 k1, .slice a2 2 k2] w fun e w' => e = .returned (.bool true) ∧ Below w.heap.size w w' := by
  refine (sameInts_any a1 a2 2 2 k1 k2 [0, 1] [0, 1] w rfl rfl (by decide) (by decide) r1 r2).mono ?_
  rintro e w' ⟨rfl, hB⟩
  exact ⟨by simp, hB⟩
theorem equal8 (a1 a2 : Option Addr) (k1 k2 : Nat) (w : World) (r1 : Hid (NRow w a1 V8)) (r2 : Hid (NRow w a2 V8)) : Calls Tryd.prog 15 #[.slice a1 8 k1, .slice a2 8 k2] w fun e w' => e = .returned (.bool true) ∧ Below w.heap.size w w' := by
  refine (equal_any a1 a2 8 8 k1 k2 V8 V8 w rfl rfl (by decide) (by decide) r1 r2).mono ?_
  rintro e w' ⟨rfl, hB⟩
  exact ⟨by simp, hB⟩
theorem equal0 (a1 : Option Addr) (k1 : Nat) (w : World) (r1 : Hid (NRow w a1 V8)) : Calls Tryd.prog 15 #[.slice a1 8 k1, .slice none 0 0] w fun e w' => e = .returned (.bool false) ∧ Below w.heap.size w w' := by
  refine (equal_any a1 none 8 0 k1 0 V8 [] w rfl rfl (by decide) (by decide) r1 (.inl ⟨rfl, rfl⟩)).mono ?_
  rintro e w' ⟨rfl, hB⟩
  exact ⟨by simp [V8], hB⟩
theorem add1 (B b : Nat) (w : World) (h : Hid (Ar B w b (.slice none 0 0) (.slice none 0 0) [] [])) : Calls Tryd.prog 24 #[.pointer (some ⟨b, 0, none⟩), .int .i64 (-1), .int .i64 0, .int .i64 3, .int .u64 0] w fun e w' => e = .returned (.tuple #[.int .i64 0, .int .i64 0]) ∧ ∃ vn vs, Hid (Ar B w' b vn vs [(3, 0, 0)] [(-1, 0)]) ∧ Hid (KeptA B w w') := by
  refine (addA_ok B b (-1) 0 3 0 _ _ [] [] w h (by decide) (by decide) (by decide) (by simp)).mono ?_
  rintro e w' ⟨rfl, vn, vs, h1, h2⟩
  exact ⟨rfl, vn, vs, h1, h2⟩
theorem add2 (B b : Nat) (vn vs : Value) (w : World) (h : Hid (Ar B w b vn vs [(3, 0, 0)] [(-1, 0)])) : Calls Tryd.prog 24 #[.pointer (some ⟨b, 0, none⟩), .int .i64 0, .int .i64 0, .int .i64 1, .int .u64 9] w fun e w' => e = .returned (.tuple #[.int .i64 1, .int .i64 0]) ∧ ∃ vn vs, Hid (Ar B w' b vn vs N2 S2) ∧ Hid (KeptA B w w') := by
  refine (addA_ok B b 0 0 1 9 _ _ [(3, 0, 0)] [(-1, 0)] w h (by decide) (by decide) (by decide) (by decide)).mono ?_
  rintro e w' ⟨rfl, vn, vs, h1, h2⟩
  exact ⟨rfl, vn, vs, h1, h2⟩
theorem add3 (B b : Nat) (vn vs : Value) (w : World) (h : Hid (Ar B w b vn vs N2 S2)) : Calls Tryd.prog 24 #[.pointer (some ⟨b, 0, none⟩), .int .i64 1, .int .i64 0, .int .i64 1, .int .u64 9] w fun e w' => e = .returned (.tuple #[.int .i64 0, .int .i64 40]) ∧ Below w.heap.size w w' := by
  refine (addA_err B b 1 0 1 9 _ _ N2 S2 w h (by decide) (by decide)).mono ?_
  rintro e w' ⟨rfl, h1⟩
  exact ⟨rfl, h1⟩
theorem eq2 (a1 a2 : Option Addr) (k1 k2 : Nat) (w : World) (r1 : Hid (NRow w a1 N2)) (r2 : Hid (NRow w a2 N2)) : Calls Tryd.prog 16 #[.slice a1 2 k1, .slice a2 2 k2] w fun e w' => e = .returned (.bool true) ∧ Below w.heap.size w w' := by
  refine (refEqual_any a1 a2 2 2 k1 k2 N2 N2 w rfl rfl (by decide) (by decide) r1 r2).mono ?_
  rintro e w' ⟨rfl, hB⟩
  exact ⟨by simp, hB⟩
theorem KeptA.here {B : Nat} {w w' : World} (h : KeptA B w w') : Below B w w' := h.bel
set_option maxRecDepth 100000 in
set_option maxHeartbeats 16000000 in
theorem awake_any (w : World) (ht : Hid (Tab w.heap.size w)) : Calls Tryd.prog 9 #[] w fun e w' => e = .returned (.bool true) ∧ Below w.heap.size w w' := by
  go_enter Tryd.func9, Tryd.ntmps9
  go_wp2_with fail
  refine (parse8 w).mono ?_; rintro e w1 ⟨a, c, rfl, HV1, hc1, hc2, hB1⟩
  obtain ⟨w2, hw2⟩ : ∃ w2, w2 = w1.alloc (.cells #[.int .i64 0, .int .i64 0] 29) := ⟨_, rfl⟩
  have hB2 : Below w1.heap.size w1 w2 := by rw [hw2]; exact (Below.refl _ _).alloc (Nat.le_refl _) _
  have KF2 : Hid (Blk w2 w1.heap.size 29 [.int .i64 0, .int .i64 0]) := by rw [hw2]; exact Blk.newA w1 _ 29
  have HB2 : Hid (Below w.heap.size w w2) := hB1.trans (hB2.mono hB1.size)
  have HV2 : Hid (NRow w2 a V8) := HV1.out.later hB2
  go_upto_region 2 with fail
  rw [← hw2]
  clear hw2 hB2 HV1 hB1
  have HT2 : Hid (Tab w2.heap.size w2) := (ht.out.below HB2.out).mono HB2.out.size
  go_wp2_with fail
  refine (print8 a c w2 HV2 HT2).mono ?_; rintro e w3 ⟨rfl, hB3⟩
  have KF3 : Hid (Blk w3 w1.heap.size 29 [.int .i64 0, .int .i64 0]) := KF2.out.later hB3
  have HV3 : Hid (NRow w3 a V8) := HV2.out.later hB3
  have HB3 : Hid (Below w.heap.size w w3) := HB2.out.trans (hB3.mono HB2.out.size)
  clear KF2 HV2 HB2 HT2 hB3
  have f0 : w3.cell? ⟨w1.heap.size, 0, none⟩ = some (.int .i64 0) := KF3.out.cell 0
  have f1 : w3.cell? ⟨w1.heap.size, 1, none⟩ = some (.int .i64 0) := KF3.out.cell 1
  go_wp2_with fail
  refine (fault_yes 0 0 w3).mono ?_; rintro e w4 ⟨rfl, hB4⟩
  have HV4 : Hid (NRow w4 a V8) := HV3.out.later hB4
  have HB4 : Hid (Below w.heap.size w w4) := HB3.out.trans (hB4.mono HB3.out.size)
  clear KF3 HV3 HB3 hB4 f0 f1
  go_wp2_with (first | (go_at_call 13; refine (num_any _ _).mono ?_; rintro e w' ⟨rfl, rfl⟩) | (go_at_call 17; fail))
  refine (check8 a c w4 HV4).mono ?_; rintro e w5 ⟨rfl, hB5⟩
  have HV5 : Hid (NRow w5 a V8) := HV4.out.later hB5
  have HB5 : Hid (Below w.heap.size w w5) := HB4.out.trans (hB5.mono HB4.out.size)
  clear HV4 HB4 hB5
  go_wp2_with fail
  refine (fault_yes 0 0 w5).mono ?_; rintro e w6 ⟨rfl, hB6⟩
  have HV6 : Hid (NRow w6 a V8) := HV5.out.later hB6
  have HB6 : Hid (Below w.heap.size w w6) := HB5.out.trans (hB6.mono HB5.out.size)
  clear HV5 HB5 hB6
  go_wp2_with fail
  refine (next8 a c w6 HV6).mono ?_; rintro e w7 ⟨rfl, hB7⟩
  have HV7 : Hid (NRow w7 a V8) := HV6.out.later hB7
  have HB7 : Hid (Below w.heap.size w w7) := HB6.out.trans (hB7.mono HB6.out.size)
  clear HV6 HB6 hB7
  go_wp2_with fail
  refine (kid8 a c w7 HV7).mono ?_; rintro e w8 ⟨rfl, hB8⟩
  have HV8 : Hid (NRow w8 a V8) := HV7.out.later hB8
  have HB8 : Hid (Below w.heap.size w w8) := HB7.out.trans (hB8.mono HB7.out.size)
  clear HV7 HB7 hB8
  go_wp2_with fail
  refine (path8 a c w8 HV8 hc1 hc2).mono ?_; rintro e w9 ⟨a2, c2, rfl, HR9, hB9⟩
  have HV9 : Hid (NRow w9 a V8) := HV8.out.later hB9
  have HB9 : Hid (Below w.heap.size w w9) := HB8.out.trans (hB9.mono HB8.out.size)
  clear HV8 HB8 hB9
  go_wp2_with fail
  refine (parse5 w9).mono ?_; rintro e w10 ⟨v10, rfl, hB10⟩
  obtain ⟨w11, hw11⟩ : ∃ w11, w11 = w10.alloc (.cells #[.int .i64 41, .int .i64 4] 29) := ⟨_, rfl⟩
  have hB11 : Below w10.heap.size w10 w11 := by rw [hw11]; exact (Below.refl _ _).alloc (Nat.le_refl _) _
  have hB11' : Below w9.heap.size w9 w11 := hB10.trans (hB11.mono hB10.size)
  have KG : Hid (Blk w11 w10.heap.size 29 [.int .i64 41, .int .i64 4]) := by rw [hw11]; exact Blk.newA w10 _ 29
  have HV11 : Hid (NRow w11 a V8) := HV9.out.later hB11'
  have HR11 : Hid (Row .i64 w11 a2 [0, 1]) := HR9.out.later hB11'
  have HB11 : Hid (Below w.heap.size w w11) := HB9.out.trans (hB11'.mono HB9.out.size)
  go_upto_region 9 with fail
  rw [← hw11]
  clear hw11 hB11 hB11' hB10 HV9 HR9 HB9
  obtain ⟨w12, hw12⟩ : ∃ w12, w12 = w11.alloc (.cells #[.int .i64 0, .int .i64 1] 3) := ⟨_, rfl⟩
  have hB12 : Below w11.heap.size w11 w12 := by rw [hw12]; exact (Below.refl _ _).alloc (Nat.le_refl _) _
  have KG12 : Hid (Blk w12 w10.heap.size 29 [.int .i64 41, .int .i64 4]) := KG.out.later hB12
  have HV12 : Hid (NRow w12 a V8) := HV11.out.later hB12
  have HR12 : Hid (Row .i64 w12 a2 [0, 1]) := HR11.out.later hB12
  have HL12 : Hid (Row .i64 w12 (some ⟨w11.heap.size, 0, none⟩) [0, 1]) := by
    have hk : Blk w12 w11.heap.size 3 [.int .i64 0, .int .i64 1] := by rw [hw12]; exact Blk.newA w11 _ 3
    exact Row.two (hk.cell 0) (hk.cell 1)
  have HB12 : Hid (Below w.heap.size w w12) := HB11.out.trans (hB12.mono HB11.out.size)
  go_wp2_with (first | (go_at_call 13; refine (num_any _ _).mono ?_; rintro e w' ⟨rfl, rfl⟩) | (go_at_call 33; fail))
  rw [← hw12]
  clear hw12 hB12 KG HV11 HR11 HB11
  refine (same2 a2 _ c2 _ w12 HR12 HL12).mono ?_; rintro e w13 ⟨rfl, hB13⟩
  have KG13 : Hid (Blk w13 w10.heap.size 29 [.int .i64 41, .int .i64 4]) := KG12.out.later hB13
  have HV13 : Hid (NRow w13 a V8) := HV12.out.later hB13
  have HB13 : Hid (Below w.heap.size w w13) := HB12.out.trans (hB13.mono HB12.out.size)
  clear KG12 HV12 HR12 HL12 HB12 hB13
  have g0 : w13.cell? ⟨w10.heap.size, 0, none⟩ = some (.int .i64 41) := KG13.out.cell 0
  have g1 : w13.cell? ⟨w10.heap.size, 1, none⟩ = some (.int .i64 4) := KG13.out.cell 1
  go_wp2_with fail
  refine (fault_yes 41 4 w13).mono ?_; rintro e w14 ⟨rfl, hB14⟩
  have HV14 : Hid (NRow w14 a V8) := HV13.out.later hB14
  have HB14 : Hid (Below w.heap.size w w14) := HB13.out.trans (hB14.mono HB13.out.size)
  clear KG13 HV13 HB13 hB14 g0 g1
  go_wp2_with fail
  refine (equal8 a a c c w14 HV14 HV14).mono ?_; rintro e w15 ⟨rfl, hB15⟩
  have HV15 : Hid (NRow w15 a V8) := HV14.out.later hB15
  have HB15 : Hid (Below w.heap.size w w15) := HB14.out.trans (hB15.mono HB14.out.size)
  clear HV14 HB14 hB15
  go_wp2_with fail
  refine (equal0 a c w15 HV15).mono ?_; rintro e w16 ⟨rfl, hB16⟩
  have HB16 : Hid (Below w.heap.size w w16) := HB15.out.trans (hB16.mono HB15.out.size)
  clear HV15 HB15 hB16
  go_wp2_with fail
  refine (new_any w16).mono ?_; rintro e w17 ⟨rfl, HA17, hB17⟩
  have HB17 : Hid (Below w.heap.size w w17) := HB16.out.trans (hB17.mono HB16.out.size)
  clear hB17
  go_wp2_with fail
  refine (add1 w16.heap.size w16.heap.size w17 HA17).mono ?_; rintro e w18 ⟨rfl, vn18, vs18, HA18, HK18⟩
  have HB18 : Hid (Below w.heap.size w w18) := HB17.out.trans (HK18.out.bel.mono HB16.out.size)
  clear HA17 HB17 HK18
  go_wp2_with fail
  refine (add2 w16.heap.size w16.heap.size vn18 vs18 w18 HA18).mono ?_; rintro e w19 ⟨rfl, vn19, vs19, HA19, HK19⟩
  have HB19 : Hid (Below w.heap.size w w19) := HB18.out.trans (HK19.out.bel.mono HB16.out.size)
  clear HA18 HB18 HK19
  obtain ⟨gn, cn, gs, cs, hvn, hvs, hA2⟩ := A2.of HA19.out
  go_wp2_with fail
  refine (value2 w16.heap.size gn cn gs cs w19 hA2).mono ?_; rintro e w20 ⟨v20, rfl, HO20, hB20⟩
  have HA20 : Hid (Ar w16.heap.size w20 w16.heap.size vn19 vs19 N2 S2) := HA19.out.later hB20
  have HB20 : Hid (Below w.heap.size w w20) := HB19.out.trans (hB20.mono HB19.out.size)
  obtain ⟨a20, c20, rfl, HN20, -, -, -⟩ := own_nrow (N := N2) HO20.out
  have HW20 : Hid (NRow w20 a20 N2) := HN20
  clear HA19 HB19 hB20 hA2 HO20 HN20
  go_wp2_with fail
  refine (add3 w16.heap.size w16.heap.size vn19 vs19 w20 HA20).mono ?_; rintro e w21 ⟨rfl, hB21⟩
  have HA21 : Hid (Ar w16.heap.size w21 w16.heap.size vn19 vs19 N2 S2) := HA20.out.later hB21
  have HW21 : Hid (NRow w21 a20 N2) := HW20.out.later hB21
  have HB21 : Hid (Below w.heap.size w w21) := HB20.out.trans (hB21.mono HB20.out.size)
  clear HA20 HW20 HB20 hB21
  obtain ⟨w22, hw22⟩ : ∃ w22, w22 = w21.alloc (.cells #[.int .i64 3, .int .u64 0, .int .i64 1, .int .i64 1, .int .u64 9, .int .i64 0] 37) := ⟨_, rfl⟩
  have hB22 : Below w21.heap.size w21 w22 := by rw [hw22]; exact (Below.refl _ _).alloc (Nat.le_refl _) _
  have HW22 : Hid (NRow w22 a20 N2) := HW21.out.later hB22
  have HL22 : Hid (NRow w22 (some ⟨w21.heap.size, 0, none⟩) N2) := by
    have hk : Blk w22 w21.heap.size 37 [.int .i64 3, .int .u64 0, .int .i64 1, .int .i64 1, .int .u64 9, .int .i64 0] := by rw [hw22]; exact Blk.newA w21 _ 37
    refine .inr ⟨_, _, rfl, hk.lt, fun i hi => ?_⟩
    match i, hi with
    | 0, _ => exact ⟨hk.cell 0, hk.cell 1, hk.cell 2⟩
    | 1, _ => exact ⟨hk.cell 3, hk.cell 4, hk.cell 5⟩
  have HB22 : Hid (Below w.heap.size w w22) := HB21.out.trans (hB22.mono HB21.out.size)
  go_wp2_with (first | (go_at_call 13; refine (num_any _ _).mono ?_; rintro e w' ⟨rfl, rfl⟩) | (go_at_call 26; refine (count_any _ _ _ _ _ _ _ HA21).mono ?_; rintro e w' ⟨rfl, rfl⟩) | (go_at_call 16; fail))
  rw [← hw22]
  clear hw22 hB22 HW21 HB21 HA21
  refine (eq2 a20 _ _ _ w22 HW22 HL22).mono ?_; rintro e w23 ⟨rfl, hB23⟩
  have HB23 : Hid (Below w.heap.size w w23) := HB22.out.trans (hB23.mono HB22.out.size)
  clear HW22 HL22 HB22 hB23
  go_wp2
  go_ret
  exact ⟨rfl, HB23.out⟩
end Go.Proofs.YtlbgdgobhiokpaaDoor
