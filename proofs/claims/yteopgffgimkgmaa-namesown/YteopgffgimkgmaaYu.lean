/- NamesOwn: the walk. -/
import Derived.Test.YteopgffgimkgmaaYt
import Derived.Deep.RegionLaw
namespace Go.Proofs.Yteopgffgimkgmaa
open Go.RowKit
set_option linter.unusedVariables false

theorem i64w' (n : Int) (h : -9223372036854775808 ≤ n ∧ n ≤ 9223372036854775807) : IntKind.i64.wrap n = n := by rw [IntKind.wrap_i64]; omega
set_option maxRecDepth 100000 in
set_option maxHeartbeats 16000000 in
theorem own_any (a b : Option Addr) (ca cb : Nat) (D1 D2 : List Df) (w : World) (hW1 : Hid (Wt D1)) (r1 : Hid (DRow w a D1)) (hW2 : Hid (Wt D2)) (r2 : Hid (DRow w b D2)) :
    Calls Try.prog 5 #[.agg #[.slice a D1.length ca], .agg #[.slice b D2.length cb]] w fun e w' => e = .returned (.bool true) ∧ Below w.heap.size w w' := by
  obtain ⟨w0, hw0⟩ : ∃ w0, (w.alloc (.cells #[.slice a D1.length ca] 24)).alloc (.cells #[.slice b D2.length cb] 24) = w0 := ⟨_, rfl⟩
  have HB0 : Hid (Below w.heap.size w w0) := by rw [← hw0]; exact ((Below.refl _ _).alloc (Nat.le_refl _) _).alloc (by simp) _
  have K0 : Hid (Blk w0 w.heap.size 24 [.slice a D1.length ca]) := by rw [← hw0]; exact (Blk.newA w #[.slice a D1.length ca] 24).alloc _
  have L0 : Hid (Blk w0 (w.heap.size + 1) 24 [.slice b D2.length cb]) := hide_ (by
    have h := Blk.newA (w.alloc (.cells #[.slice a D1.length ca] 24)) #[.slice b D2.length cb] 24
    rw [hw0] at h
    simpa using h)
  go_enter Try.func5, Try.ntmps5
  go_upto_region 3 with (go_at_call 9; refine (nFirst_any _).mono ?_; rintro e w1 ⟨rfl, hB1⟩)
  have HB1 := hide_ (below_to HB0.out hB1)
  have K1 := hide_ (K0.out.later hB1)
  have L1 := hide_ (L0.out.later hB1)
  clear hw0 hB1 HB0 K0 L0
  have HG0 : Hid (∃ (F H : Nat → Value) (L : Nat → List Int), Gs w.heap.size w1 (.slice none 0 0) (.slice none 0 0) 0 0 0 0 F H L) := ⟨fun _ => .slice none 0 0, fun _ => .slice none 0 0, fun _ => [], Gs.nil w1 HB1.out.size⟩
  go_wp2_with fail
  go_loopw [5, 6, 7] (fun x5 x6 x7 wr => ∃ (vG vW : Value) (k : Nat), vG = x5 ∧ vW = x6 ∧ x7 = .int .i64 k ∧ k ≤ 4 ∧ Hid (∃ (F H : Nat → Value) (L : Nat → List Int), Gs w.heap.size wr vG vW (2 * k) (2 * k) (2 * k) (2 * k) F H L) ∧ Hid (Below w.heap.size w wr) ∧ Hid (Blk wr w.heap.size 24 [.slice a D1.length ca]) ∧ Hid (Blk wr (w.heap.size + 1) 24 [.slice b D2.length cb])) (fun _ _ k _ => 4 - (intOf k).toNat)
  case atStart => exact ⟨_, _, 0, rfl, rfl, rfl, Nat.zero_le _, HG0, HB1, K1, L1⟩
  case round =>
    clear HB1 HG0 K1 L1
    obtain ⟨vG, vW, k, rfl, rfl, rfl, hk, HG, HB, HK, HL⟩ := hrel
    generalize wr = wq at *
    by_cases hk4 : k < 4
    · have hk4' : (k : Int) < 4 := by omega
      have c0 := HK.out.cell 0
      have c1 := HL.out.cell 0
      simp at c0 c1
      by_cases hk1 : 1 < k
      · have hk1' : (1 : Int) < k := by omega
        obtain ⟨E, A, o, ds, hLk⟩ := lookTo_ex D2
        have HLk := hide_ hLk
        clear hLk
        obtain ⟨w2, hw2⟩ : ∃ w2, wq.alloc (.cells #[.slice a D1.length ca] 24) = w2 := ⟨_, rfl⟩
        have hB2 : Below wq.heap.size wq w2 := by rw [← hw2]; exact (Below.refl _ _).alloc (Nat.le_refl _) _
        have M2 : Hid (Blk w2 wq.heap.size 24 [.slice a D1.length ca]) := by rw [← hw2]; exact Blk.newA wq #[.slice a D1.length ca] 24
        have e1 := (HL.out.later hB2).cell 0
        have e2 := M2.out.cell 0
        have e3 := M2.out.frozen 0
        simp at e1 e2
        obtain ⟨ws, hws⟩ : ∃ ws, w2.setCell ⟨wq.heap.size, 0, none⟩ (.slice b D2.length cb) = ws := ⟨_, rfl⟩
        have HBs : Hid (Below wq.heap.size wq ws) := by rw [← hws]; exact hB2.trans (((Upd.refl (fun k => k = wq.heap.size) w2).set ⟨wq.heap.size, 0, none⟩ (.slice b D2.length cb) (.inl rfl)).below wq.heap.size hB2.size (fun k hk => by omega))
        have Ms : Hid (Blk ws wq.heap.size 24 [.slice b D2.length cb]) := by rw [← hws]; exact M2.out.set 0 _
        go_upto_region 10 with fail
        clear hws e1 e2 e3
        clear hw2 hB2 M2 c0 c1
        have e1 := Ms.out.cell 0
        simp at e1
        have HBt := hide_ (below_to HB.out HBs.out)
        have Hrs := hide_ (r2.out.later HBt.out)
        have HCo := hide_ (nOrder_any HLk.out b cb ws hW2 Hrs)
        go_upto_region 11 with (go_at_call 10; refine HCo.out.mono ?_; rintro e w4 ⟨xo, no, po, rfl, HO4, HB4⟩)
        clear e1 HCo
        obtain ⟨w5, hw5⟩ : ∃ w5, w4.alloc (.cells #[.int .i64 E, .int .i64 A] 29) = w5 := ⟨_, rfl⟩
        have HB5 : Hid (Below w4.heap.size w4 w5) := by rw [← hw5]; exact (Below.refl _ _).alloc (Nat.le_refl _) _
        rw [hw5]
        have Ms5 := hide_ ((Ms.out.later HB4.out).later HB5.out)
        have Hs5 := hide_ ((Hrs.out.later HB4.out).later HB5.out)
        have HBt5 := hide_ (below_to (below_to HBt.out HB4.out) HB5.out)
        have e1 := Ms5.out.cell 0
        simp at e1
        have HCd := hide_ (nDepth_any HLk.out b cb w5 hW2 Hs5)
        clear hw5
        go_upto_region 12 with (go_at_call 11; refine HCd.out.mono ?_; rintro e w6 ⟨xd, nd, pd, rfl, HD6, HB6⟩)
        clear e1 HCd
        obtain ⟨w7, hw7⟩ : ∃ w7, w6.alloc (.cells #[.int .i64 E, .int .i64 A] 29) = w7 := ⟨_, rfl⟩
        have HB7 : Hid (Below w6.heap.size w6 w7) := by rw [← hw7]; exact (Below.refl _ _).alloc (Nat.le_refl _) _
        rw [hw7]
        have HBt7 := hide_ (below_to (below_to HBt5.out HB6.out) HB7.out)
        obtain rfl := nil_of HO4.out
        obtain rfl := nil_of HD6.out
        obtain ⟨fo, fd⟩ := look_few HLk.out hW2.out
        obtain ⟨F, H, L, G0⟩ := HG.out
        obtain ⟨N, hNe⟩ : ∃ N, 2 * k = N := ⟨_, rfl⟩
        rw [hNe] at G0
        have hN1 : N ≤ 8 := by omega
        have hO4 := HO4.out
        rw [← natI_len o] at hO4
        have G1 := (G0.later HBs.out).moreG HB4.out (Nat.le_refl _) (Nat.le_refl _) hO4 (by rw [natI_len]; omega)
        have G2 := (G1.later HB5.out).moreG HB6.out (by omega) (by omega) HD6.out (by omega)
        have G3 := G2.later HB7.out
        have HK7 := hide_ ((((((HK.out.later HBs.out).later HB4.out).later HB5.out).later HB6.out).later HB7.out))
        have HL7 := hide_ ((((((HL.out.later HBs.out).later HB4.out).later HB5.out).later HB6.out).later HB7.out))
        clear hw7 G0 G1 G2 HG hO4 HO4 HD6 HB4 HB5 HB6 HB7 HBs Ms Ms5 Hs5 Hrs HBt HBt5 HB HK HL
        rw [natI_len] at G3
        obtain ⟨X, hX⟩ : ∃ X : Nat → Value, ext (ext F N (.slice xo o.length po)) (N + 1) (.slice xd ds.length pd) = X := ⟨_, rfl⟩
        obtain ⟨L2, hL2⟩ : ∃ L2 : Nat → List Int, ext (ext L N (natI o)) (N + 1) ds = L2 := ⟨_, rfl⟩
        rw [hX, hL2] at G3
        have hX1 : X N = .slice xo o.length po := by rw [← hX, ext_ne _ _ _ _ (by omega), ext_at]
        have hX2 : X (N + 1) = .slice xd ds.length pd := by rw [← hX, ext_at]
        have hL21 : L2 N = natI o := by rw [← hL2, ext_ne _ _ _ _ (by omega), ext_at]
        have hL22 : L2 (N + 1) = ds := by rw [← hL2, ext_at]
        clear hX hL2
        obtain ⟨gG, cG, w8, r8, G8, B8, K8⟩ := G3.pushG (by omega) (by omega)
        rw [hX1, hX2] at r8
        have R6 := hide_ r8
        have HB8 := hide_ (HBt7.out.trans B8)
        have HK8 := hide_ (K8 _ _ _ (by decide) HK7.out)
        have HL8 := hide_ (K8 _ _ _ (by decide) HL7.out)
        have o1 := G8.oG N (by omega)
        rw [hX1, hL21] at o1
        obtain ⟨a9, c9, w9, r9, o9, B9⟩ := run_copyI w8 _ _ (natI o) o1 (by rw [natI_len]; omega)
        rw [natI_len] at r9 
        have R7 := hide_ r9
        have G9 := G8.moreW B9 (Nat.le_refl _) (x := .slice a9 (natI o).length c9) (by rw [hL21]; exact o9)
        have o2 := G9.oG (N + 1) (by omega)
        rw [hX2, hL22] at o2
        obtain ⟨a10, c10, w10, r10, o10, B10⟩ := run_copyI w9 _ _ ds o2 (by omega)
        have R8 := hide_ r10
        have G10 := G9.moreW B10 (by omega) (x := .slice a10 ds.length c10) (by rw [hL22]; exact o10)
        obtain ⟨gW, cW, w11, r11, G11, B11, K11⟩ := G10.pushW (by omega) (by omega)
        rw [ext_ne _ _ _ _ (by omega), ext_at, ext_at, natI_len] at r11
        have R9 := hide_ r11
        have HB11 := hide_ (((HB8.out.trans (B9.mono HB8.out.size)).trans (B10.mono (Nat.le_trans HB8.out.size B9.size))).trans B11)
        have HK11 := hide_ (K11 _ _ _ (by decide) ((HK8.out.later B9).later B10))
        have HL11 := hide_ (K11 _ _ _ (by decide) ((HL8.out.later B9).later B10))
        have HG11 := hide_ (show ∃ (F H : Nat → Value) (L : Nat → List Int), Gs w.heap.size w11 (.slice (some ⟨gG, 0, none⟩) (N + 2) cG) (.slice (some ⟨gW, 0, none⟩) (N + 2) cW) (2 * (k + 1)) (2 * (k + 1)) (2 * (k + 1)) (2 * (k + 1)) F H L from ⟨_, _, _, by rw [show 2 * (k + 1) = N + 2 by omega]; exact G11⟩)
        clear r8 G8 B8 K8 r9 o9 B9 G9 r10 o10 B10 G10 r11 G11 B11 K11 o1 o2 hX1 hX2 hL21 hL22 G3 HB8 HK8 HL8 HK7 HL7 HBt7
        go_wp2_with (first
          | (at_builtin; have _t := R6; refine wpList_append_run rfl (.tmp 42) (.tmp 45) 43 43 rfl rfl rfl R6.out ?_; clear R6)
          | (at_builtin; have _t := R7; refine wpList_append_run rfl (.tmp 48) (.tmp 49) 26 26 rfl rfl rfl R7.out ?_; clear R7)
          | (at_builtin; have _t := R8; refine wpList_append_run rfl (.tmp 51) (.tmp 52) 26 26 rfl rfl rfl R8.out ?_; clear R8)
          | (at_builtin; have _t := R9; refine wpList_append_run rfl (.tmp 47) (.tmp 54) 43 43 rfl rfl rfl R9.out ?_; clear R9))
        go_roundw
        case rel => exact ⟨_, _, k + 1, rfl, rfl, by go_num, by omega, HG11, HB11, HK11, HL11⟩
        case measure => simp [intOf]; omega
      · have hk1' : ¬ (1 : Int) < k := by omega
        obtain ⟨E, A, o, ds, hLk⟩ := lookTo_ex D1
        have HLk := hide_ hLk
        clear hLk
        obtain ⟨w2, hw2⟩ : ∃ w2, wq.alloc (.cells #[.slice a D1.length ca] 24) = w2 := ⟨_, rfl⟩
        have hB2 : Below wq.heap.size wq w2 := by rw [← hw2]; exact (Below.refl _ _).alloc (Nat.le_refl _) _
        have M2 : Hid (Blk w2 wq.heap.size 24 [.slice a D1.length ca]) := by rw [← hw2]; exact Blk.newA wq #[.slice a D1.length ca] 24
        obtain ⟨ws, hws⟩ : ∃ ws, w2 = ws := ⟨_, rfl⟩
        have HBs : Hid (Below wq.heap.size wq ws) := by rw [← hws]; exact hB2
        have Ms : Hid (Blk ws wq.heap.size 24 [.slice a D1.length ca]) := by rw [← hws]; exact M2.out
        rw [hws] at hw2
        clear hws
        go_upto_region 10 with fail
        clear hw2 hB2 M2 c0 c1
        have e1 := Ms.out.cell 0
        simp at e1
        have HBt := hide_ (below_to HB.out HBs.out)
        have Hrs := hide_ (r1.out.later HBt.out)
        have HCo := hide_ (nOrder_any HLk.out a ca ws hW1 Hrs)
        go_upto_region 11 with (go_at_call 10; refine HCo.out.mono ?_; rintro e w4 ⟨xo, no, po, rfl, HO4, HB4⟩)
        clear e1 HCo
        obtain ⟨w5, hw5⟩ : ∃ w5, w4.alloc (.cells #[.int .i64 E, .int .i64 A] 29) = w5 := ⟨_, rfl⟩
        have HB5 : Hid (Below w4.heap.size w4 w5) := by rw [← hw5]; exact (Below.refl _ _).alloc (Nat.le_refl _) _
        rw [hw5]
        have Ms5 := hide_ ((Ms.out.later HB4.out).later HB5.out)
        have Hs5 := hide_ ((Hrs.out.later HB4.out).later HB5.out)
        have HBt5 := hide_ (below_to (below_to HBt.out HB4.out) HB5.out)
        have e1 := Ms5.out.cell 0
        simp at e1
        have HCd := hide_ (nDepth_any HLk.out a ca w5 hW1 Hs5)
        clear hw5
        go_upto_region 12 with (go_at_call 11; refine HCd.out.mono ?_; rintro e w6 ⟨xd, nd, pd, rfl, HD6, HB6⟩)
        clear e1 HCd
        obtain ⟨w7, hw7⟩ : ∃ w7, w6.alloc (.cells #[.int .i64 E, .int .i64 A] 29) = w7 := ⟨_, rfl⟩
        have HB7 : Hid (Below w6.heap.size w6 w7) := by rw [← hw7]; exact (Below.refl _ _).alloc (Nat.le_refl _) _
        rw [hw7]
        have HBt7 := hide_ (below_to (below_to HBt5.out HB6.out) HB7.out)
        obtain rfl := nil_of HO4.out
        obtain rfl := nil_of HD6.out
        obtain ⟨fo, fd⟩ := look_few HLk.out hW1.out
        obtain ⟨F, H, L, G0⟩ := HG.out
        obtain ⟨N, hNe⟩ : ∃ N, 2 * k = N := ⟨_, rfl⟩
        rw [hNe] at G0
        have hN1 : N ≤ 8 := by omega
        have hO4 := HO4.out
        rw [← natI_len o] at hO4
        have G1 := (G0.later HBs.out).moreG HB4.out (Nat.le_refl _) (Nat.le_refl _) hO4 (by rw [natI_len]; omega)
        have G2 := (G1.later HB5.out).moreG HB6.out (by omega) (by omega) HD6.out (by omega)
        have G3 := G2.later HB7.out
        have HK7 := hide_ ((((((HK.out.later HBs.out).later HB4.out).later HB5.out).later HB6.out).later HB7.out))
        have HL7 := hide_ ((((((HL.out.later HBs.out).later HB4.out).later HB5.out).later HB6.out).later HB7.out))
        clear hw7 G0 G1 G2 HG hO4 HO4 HD6 HB4 HB5 HB6 HB7 HBs Ms Ms5 Hs5 Hrs HBt HBt5 HB HK HL
        rw [natI_len] at G3
        obtain ⟨X, hX⟩ : ∃ X : Nat → Value, ext (ext F N (.slice xo o.length po)) (N + 1) (.slice xd ds.length pd) = X := ⟨_, rfl⟩
        obtain ⟨L2, hL2⟩ : ∃ L2 : Nat → List Int, ext (ext L N (natI o)) (N + 1) ds = L2 := ⟨_, rfl⟩
        rw [hX, hL2] at G3
        have hX1 : X N = .slice xo o.length po := by rw [← hX, ext_ne _ _ _ _ (by omega), ext_at]
        have hX2 : X (N + 1) = .slice xd ds.length pd := by rw [← hX, ext_at]
        have hL21 : L2 N = natI o := by rw [← hL2, ext_ne _ _ _ _ (by omega), ext_at]
        have hL22 : L2 (N + 1) = ds := by rw [← hL2, ext_at]
        clear hX hL2
        obtain ⟨gG, cG, w8, r8, G8, B8, K8⟩ := G3.pushG (by omega) (by omega)
        rw [hX1, hX2] at r8
        have R6 := hide_ r8
        have HB8 := hide_ (HBt7.out.trans B8)
        have HK8 := hide_ (K8 _ _ _ (by decide) HK7.out)
        have HL8 := hide_ (K8 _ _ _ (by decide) HL7.out)
        have o1 := G8.oG N (by omega)
        rw [hX1, hL21] at o1
        obtain ⟨a9, c9, w9, r9, o9, B9⟩ := run_copyI w8 _ _ (natI o) o1 (by rw [natI_len]; omega)
        rw [natI_len] at r9 
        have R7 := hide_ r9
        have G9 := G8.moreW B9 (Nat.le_refl _) (x := .slice a9 (natI o).length c9) (by rw [hL21]; exact o9)
        have o2 := G9.oG (N + 1) (by omega)
        rw [hX2, hL22] at o2
        obtain ⟨a10, c10, w10, r10, o10, B10⟩ := run_copyI w9 _ _ ds o2 (by omega)
        have R8 := hide_ r10
        have G10 := G9.moreW B10 (by omega) (x := .slice a10 ds.length c10) (by rw [hL22]; exact o10)
        obtain ⟨gW, cW, w11, r11, G11, B11, K11⟩ := G10.pushW (by omega) (by omega)
        rw [ext_ne _ _ _ _ (by omega), ext_at, ext_at, natI_len] at r11
        have R9 := hide_ r11
        have HB11 := hide_ (((HB8.out.trans (B9.mono HB8.out.size)).trans (B10.mono (Nat.le_trans HB8.out.size B9.size))).trans B11)
        have HK11 := hide_ (K11 _ _ _ (by decide) ((HK8.out.later B9).later B10))
        have HL11 := hide_ (K11 _ _ _ (by decide) ((HL8.out.later B9).later B10))
        have HG11 := hide_ (show ∃ (F H : Nat → Value) (L : Nat → List Int), Gs w.heap.size w11 (.slice (some ⟨gG, 0, none⟩) (N + 2) cG) (.slice (some ⟨gW, 0, none⟩) (N + 2) cW) (2 * (k + 1)) (2 * (k + 1)) (2 * (k + 1)) (2 * (k + 1)) F H L from ⟨_, _, _, by rw [show 2 * (k + 1) = N + 2 by omega]; exact G11⟩)
        clear r8 G8 B8 K8 r9 o9 B9 G9 r10 o10 B10 G10 r11 G11 B11 K11 o1 o2 hX1 hX2 hL21 hL22 G3 HB8 HK8 HL8 HK7 HL7 HBt7
        go_wp2_with (first
          | (at_builtin; have _t := R6; refine wpList_append_run rfl (.tmp 42) (.tmp 45) 43 43 rfl rfl rfl R6.out ?_; clear R6)
          | (at_builtin; have _t := R7; refine wpList_append_run rfl (.tmp 48) (.tmp 49) 26 26 rfl rfl rfl R7.out ?_; clear R7)
          | (at_builtin; have _t := R8; refine wpList_append_run rfl (.tmp 51) (.tmp 52) 26 26 rfl rfl rfl R8.out ?_; clear R8)
          | (at_builtin; have _t := R9; refine wpList_append_run rfl (.tmp 47) (.tmp 54) 43 43 rfl rfl rfl R9.out ?_; clear R9))
        go_roundw
        case rel => exact ⟨_, _, k + 1, rfl, rfl, by go_num, by omega, HG11, HB11, HK11, HL11⟩
        case measure => simp [intOf]; omega
    · have hk4' : ¬ (k : Int) < 4 := by omega
      clear HK HL
      obtain ⟨F, H, L, G⟩ := HG.out
      obtain ⟨N, hN⟩ : ∃ N, 2 * k = N := ⟨_, rfl⟩
      rw [hN] at G
      obtain ⟨aG, cG, rfl⟩ := G.rG.form
      obtain ⟨aW, cW, rfl⟩ := G.rW.form
      have HG2 := hide_ G
      clear G HG
      have fin := HB
      clear HB
      have hN' : N ≤ 80 := by omega
      clear hN
      go_upto_region 15 with fail
      clear hk4 hk4' hk
      go_wp2_with fail
      go_loopw [15] (fun x wr => ∃ k : Nat, x = .int .i64 k ∧ k ≤ N ∧ Hid (Below wq.heap.size wq wr)) (fun x _ => N - (intOf x).toNat)
      case atStart => exact ⟨0, rfl, Nat.zero_le _, Below.refl _ _⟩
      case round =>
        obtain ⟨k, rfl, hk, HB⟩ := hrel
        generalize wr = wa at *
        by_cases hkN : k < N
        · have hkN' : (k : Int) < N := by omega
          have Ga := HG2.out.later HB.out
          obtain ⟨qG, cG', eG, hqG, hnG, hmG, hcG⟩ := Ga.rG.open (by omega)
          obtain ⟨qW, cW', eW, hqW, hnW, hmW, hcW⟩ := Ga.rW.open (by omega)
          injection eG with eG1 _ eG3
          injection eW with eW1 _ eW3
          subst eG1 eW1 eG3 eW3
          obtain ⟨af, cf, hFk, hTf, -⟩ := own_open (Ga.oG k hkN) rfl
          obtain ⟨ah, ch, hHk, hTh, -⟩ := own_open (Ga.oW k hkN) rfl
          have d1 := hcG k hkN
          have d2 := hcW k hkN
          rw [hFk] at d1
          rw [hHk] at d2
          have hfw := Ga.few k hkN
          have HS : Hid (∀ w', Below wa.heap.size wa w' → Calls Try.prog 14 #[.slice af (L k).length cf, .slice ah (L k).length ch] w' fun e w'' => e = .returned (.bool true) ∧ Below w'.heap.size w' w'') := hide_ (fun w' hB => by
            have h := ints_any af ah cf ch (L k) (L k) w' (by omega) (by omega) (hide_ (hTf.later hB)) (hide_ (hTh.later hB))
            simpa using h)
          have bG := World.block_lt_of_cell? wa _ d1
          have bW := World.block_lt_of_cell? wa _ d2
          have HSS : Hid (∀ w', Below wa.heap.size wa w' → Below wa.heap.size wa w' ∧ w'.cell? ⟨qG, k, none⟩ = some (.slice af (L k).length cf) ∧ w'.cell? ⟨qW, k, none⟩ = some (.slice ah (L k).length ch)) := fun w' hB => ⟨hB, (hB.cell (p := ⟨qG, k, none⟩) bG).trans d1, (hB.cell (p := ⟨qW, k, none⟩) bW).trans d2⟩
          clear Ga hcG hcW hFk hHk hTf hTh bG bW
          go_wp2_with fail
          go_region_held_law (fun w' => Below wa.heap.size wa w' ∧ w'.cell? ⟨qG, k, none⟩ = some (.slice af (L k).length cf) ∧ w'.cell? ⟨qW, k, none⟩ = some (.slice ah (L k).length ch)) (first | assumption | exact HSS.out _ ((Below.refl _ _).drew))
            (first
              | (go_at_call 14; refine (HS.out _ (by first | assumption | exact And.left (by assumption))).mono ?_; rintro e wz ⟨rfl, hBz⟩; have Gz := HSS.out wz (below_to (by first | assumption | exact And.left (by assumption)) hBz); clear hBz))
          obtain ⟨Bz, -, -⟩ := Gz
          have HBz := hide_ (below_to HB.out Bz)
          clear Bz HS HSS d1 d2
          go_wp2
          go_roundw
          case rel => exact ⟨k + 1, by go_num, by omega, HBz⟩
          case measure => simp [intOf]; omega
        · obtain rfl : k = N := by omega
          have HM : Hid (∃ C, (∀ j, (C j).length = (L j).length) ∧ Gm w.heap.size wa (.slice aG k cG) k F C) := ⟨L, fun _ => rfl, (HG2.out.later HB.out).gm⟩
          have HBa := hide_ (fin.out.trans (HB.out.mono fin.out.size))
          clear HG2 fin HB
          generalize k = N at *
          obtain ⟨nn, hnn⟩ : ∃ nn : Nat → Nat, (fun j => (L j).length) = nn := ⟨_, rfl⟩
          have HM2 : Hid (∃ C, (∀ j, (C j).length = nn j) ∧ (∀ j, j < 0 → C j = mks j (nn j)) ∧ Gm w.heap.size wa (.slice aG N cG) N F C) := by
            obtain ⟨C, c1, c2⟩ := HM.out
            exact ⟨C, fun j => by rw [c1, ← hnn], fun j hj => by omega, c2⟩
          clear HM hnn
          go_wp2_with fail
          go_loopw [16] (fun x wr => ∃ k : Nat, x = .int .i64 k ∧ k ≤ N ∧ Hid (∃ C, (∀ j, (C j).length = nn j) ∧ (∀ j, j < k → C j = mks j (nn j)) ∧ Gm w.heap.size wr (.slice aG N cG) N F C) ∧ Hid (Below w.heap.size w wr)) (fun x _ => N - (intOf x).toNat)
          case atStart => exact ⟨0, rfl, Nat.zero_le _, HM2, HBa⟩
          case round =>
            clear HM2 HBa
            obtain ⟨k, rfl, hk, HM, HB⟩ := hrel
            generalize wr = wa at *
            by_cases hkN : k < N
            · have hkN' : (k : Int) < N := by omega
              have HM3 : Hid (∃ C, (∀ j, (C j).length = nn j) ∧ (∀ j, j < k → C j = mks j (nn j)) ∧ (C k).take 0 = mks k 0 ∧ Gm w.heap.size wa (.slice aG N cG) N F C) := by
                obtain ⟨C, c1, c2, c3⟩ := HM.out
                exact ⟨C, c1, c2, by simp [mks], c3⟩
              clear HM
              go_wp2_with fail
              go_loopw [17] (fun x wr => ∃ j : Nat, x = .int .i64 j ∧ j ≤ nn k ∧ Hid (∃ C, (∀ j, (C j).length = nn j) ∧ (∀ j, j < k → C j = mks j (nn j)) ∧ (C k).take j = mks k j ∧ Gm w.heap.size wr (.slice aG N cG) N F C) ∧ Hid (Below w.heap.size w wr)) (fun x _ => nn k - (intOf x).toNat)
              case atStart => exact ⟨0, rfl, Nat.zero_le _, HM3, HB⟩
              case round =>
                clear HM3 HB
                obtain ⟨j, rfl, hj, HM, HB⟩ := hrel
                generalize wr = wb at *
                obtain ⟨C, c1, c2, c3, G⟩ := HM.out
                obtain ⟨qG, cG', eG, hqG, hnG, hmG, hcG⟩ := G.rG.open (by omega)
                injection eG with eG1 _ eG3
                subst eG1 eG3
                have d1 := hcG k hkN
                have hok := G.o k hkN
                have hfw := G.few k hkN
                rw [c1] at hok hfw
                by_cases hjn : j < nn k
                · have hjn' : (j : Int) < nn k := by omega
                  obtain ⟨gk, ck, yk, hFk, hbk, hnk, hmk, hlk, htk, hKk⟩ := ownS_blk hok (by omega)
                  rw [hFk] at d1
                  have G2 := G.mark (k := j) hkN hFk (by rw [c1]; exact hjn) (-1 - (k : Int))
                  have HM4 : Hid (∃ C, (∀ j, (C j).length = nn j) ∧ (∀ j, j < k → C j = mks j (nn j)) ∧ (C k).take (j + 1) = mks k (j + 1) ∧ Gm w.heap.size (wb.setCell ⟨gk, j, none⟩ (.int .i64 (-1 - (k : Int)))) (.slice (some ⟨qG, 0, none⟩) N cG) N F C) := by
                    refine ⟨_, fun q => ?_, fun q hq => ?_, ?_, G2⟩
                    · by_cases hqk : q = k
                      · subst hqk; rw [ext_at, List.length_set, c1]
                      · rw [ext_ne _ _ _ _ hqk, c1]
                    · rw [ext_ne _ _ _ _ (by omega), c2 q hq]
                    · have hlen : j < (C k).length := by rw [c1]; exact hjn
                      rw [ext_at, mks_succ, ← c3, List.take_add_one, List.take_set, List.set_eq_of_length_le (by simp; omega)]
                      simp [hlen]
                  have HB4 : Hid (Below w.heap.size w (wb.setCell ⟨gk, j, none⟩ (.int .i64 (-1 - (k : Int))))) := HB.out.trans (((Upd.refl (fun q => q = gk) wb).set ⟨gk, j, none⟩ (.int .i64 (-1 - (k : Int))) (.inl rfl)).below _ G.hB (fun q hq => by rw [hq]; exact hbk))
                  have f0 : wb.frozen? ⟨gk, j, none⟩ = false := hKk.frozen _
                  obtain ⟨u0, m0⟩ : ∃ u, wb.cell? ⟨gk, j, none⟩ = some u := by
                    rw [hKk.cell]
                    have : j < yk.length := by rw [hlk]; omega
                    exact ⟨_, List.getElem?_eq_getElem this⟩
                  have hck : (nn k : Int) ≤ ck := by omega
                  have hneg : IntKind.i64.wrap (-1 - (k : Int)) = -1 - k := i64w' _ (by omega)
                  clear G2 G hok hbk htk hKk hcG c1 c2 c3 hFk HM HB
                  go_wp2
                  go_roundw
                  case rel => exact ⟨j + 1, by go_num, by omega, HM4, HB4⟩
                  case measure => simp [intOf]; omega
                · obtain rfl : j = nn k := by omega
                  obtain ⟨af, cf, hFk⟩ := own_form hok
                  rw [hFk] at d1
                  have HM5 : Hid (∃ C, (∀ j, (C j).length = nn j) ∧ (∀ j, j < k + 1 → C j = mks j (nn j)) ∧ Gm w.heap.size wb (.slice (some ⟨qG, 0, none⟩) N cG) N F C) := by
                    refine ⟨C, c1, fun q hq => ?_, G⟩
                    by_cases hqk : q = k
                    · subst hqk
                      rw [← c3, List.take_of_length_le (by rw [c1]; exact Nat.le_refl _)]
                    · exact c2 q (by omega)
                  clear G hok hcG c1 c2 c3 hFk HM
                  go_wp2
                  go_roundw
                  case rel => exact ⟨k + 1, by go_num, by omega, HM5, HB⟩
                  case measure => simp [intOf]; omega
            · obtain rfl : k = N := by omega
              have HX : Hid (∃ M, Gx w.heap.size wa (.slice aG k cG) (.slice none 0 0) k 0 F M nn) := by
                obtain ⟨C, c1, c2, G⟩ := HM.out
                exact ⟨F, Gx.begin (G.congr (fun j hj => c2 j hj))⟩
              clear HM
              generalize k = N at *
              go_wp2_with fail
              go_loopw [18, 19] (fun x18 x19 wr => ∃ (vM : Value) (k : Nat), vM = x18 ∧ x19 = .int .i64 k ∧ k ≤ N ∧ Hid (∃ M, Gx w.heap.size wr (.slice aG N cG) vM N k F M nn) ∧ Hid (Below w.heap.size w wr)) (fun _ x _ => N - (intOf x).toNat)
              case atStart => exact ⟨_, 0, rfl, rfl, Nat.zero_le _, HX, HB⟩
              case round =>
                clear HX HB
                obtain ⟨vM, k, rfl, rfl, hk, HX, HB⟩ := hrel
                generalize wr = wb at *
                obtain ⟨M, G⟩ := HX.out
                by_cases hkN : k < N
                · have hkN' : (k : Int) < N := by omega
                  obtain ⟨qG, cG', eG, hqG, hnG, hmG, hcG⟩ := G.g.rG.open (by omega)
                  injection eG with eG1 _ eG3
                  subst eG1 eG3
                  have d1 := hcG k hkN
                  have hok := G.g.o k hkN
                  have hfw := G.g.few k hkN
                  simp only [mks_len] at hok hfw
                  obtain ⟨af, cf, hFk⟩ := own_form hok
                  obtain ⟨g1, c1, w1, r1, g2, c2, w2, r2, G2, B2⟩ := G.step hkN (by omega)
                  rw [hFk] at r1 d1
                  have R1 := hide_ r1
                  have R2 := hide_ r2
                  have HX2 : Hid (∃ M, Gx w.heap.size w2 (.slice (some ⟨qG, 0, none⟩) N cG) (.slice (some ⟨g2, 0, none⟩) (k + 1) c2) N (k + 1) F M nn) := ⟨_, G2⟩
                  have HB2 := hide_ (HB.out.trans B2)
                  have hneg : IntKind.i64.wrap (-1 - (k : Int)) = -1 - k := i64w' _ (by omega)
                  clear r1 r2 G2 B2 G hok hcG HX HB hFk
                  go_wp2_with (first
                    | (at_builtin; have _t := R1; refine wpList_append_run rfl (.tmp 105) (.tmp 108) 26 26 rfl rfl rfl R1.out ?_; clear R1)
                    | (at_builtin; have _t := R2; refine wpList_append_run rfl (.tmp 101) (.tmp 110) 43 43 rfl rfl rfl R2.out ?_; clear R2))
                  go_roundw
                  case rel => exact ⟨_, k + 1, rfl, by go_num, by omega, HX2, HB2⟩
                  case measure => simp [intOf]; omega
                · obtain rfl : k = N := by omega
                  obtain ⟨aM, cM, rfl⟩ := G.rM.form
                  have HX3 := hide_ G
                  clear HX G
                  generalize k = N at *
                  go_wp2_with fail
                  go_loop [20] (fun x => ∃ k : Nat, x = .int .i64 k ∧ k ≤ N) (fun x => N - (intOf x).toNat)
                  case atStart => exact ⟨0, rfl, Nat.zero_le _⟩
                  case round =>
                    obtain ⟨k, rfl, hk⟩ := hrel
                    by_cases hkN : k < N
                    · have hkN' : (k : Int) < N := by omega
                      go_wp2_with fail
                      go_loop [21] (fun x => ∃ j : Nat, x = .int .i64 j ∧ j ≤ nn k + 1) (fun x => nn k + 1 - (intOf x).toNat)
                      case atStart => exact ⟨0, rfl, Nat.zero_le _⟩
                      case round =>
                        obtain ⟨j, rfl, hj⟩ := hrel
                        have G := HX3.out
                        obtain ⟨qG, cG', eG, -, -, -, hcG⟩ := G.g.rG.open (by omega)
                        obtain ⟨qM, cM', eM, -, -, -, hcM⟩ := G.rM.open (by omega)
                        injection eG with eG1 _ eG3
                        injection eM with eM1 _ eM3
                        subst eG1 eM1 eG3 eM3
                        have d1 := hcG k hkN
                        have d2 := hcM k hkN
                        have ho := G.g.o k hkN
                        have hfw := G.g.few k hkN
                        have hom := G.oM k hkN
                        simp only [mks_len] at ho hfw
                        obtain ⟨af, cf, hFk⟩ := own_form ho
                        obtain ⟨am, cm, hMk, -, -, -, -, hgm⟩ := own_open hom (mks_len _ _)
                        obtain ⟨gm, rfl, -, -, hcm, -⟩ := hgm (by omega)
                        rw [hFk] at d1
                        rw [hMk] at d2
                        by_cases hjn : j < nn k + 1
                        · have hjn' : (j : Int) < ((nn k + 1 : Nat) : Int) := by omega
                          have t0 := hcm j hjn
                          rw [mks_at _ _ _ hjn] at t0
                          have hneg : IntKind.i64.wrap (-1 - (k : Int)) = -1 - k := i64w' _ (by omega)
                          have hnn : ((-1 - (k : Int)) != (-1 - (k : Int))) = false := by simp
                          by_cases hjl : j < nn k
                          · have hjl' : (j : Int) < nn k := by omega
                            have hjd : decide ((j : Int) < (nn k : Int)) = true := decide_eq_true hjl'
                            obtain ⟨af2, cf2, hFk2, -, -, -, -, hgf⟩ := own_open ho (mks_len _ _)
                            obtain ⟨gf, rfl, -, -, hcf, -⟩ := hgf (by omega)
                            rw [hFk] at hFk2
                            injection hFk2 with hf1 _ hf3
                            subst hf1 hf3
                            have v0 := hcf j hjl
                            rw [mks_at _ _ _ hjl] at v0
                            clear ho hom hMk hFk G hcG hcM hcf hcm hgf hgm
                            go_wp2_with fail
                            go_round
                            case rel => exact ⟨j + 1, by go_num, by omega⟩
                            case measure => simp [intOf]; omega
                          · have hjl' : ¬ (j : Int) < nn k := by omega
                            have hjd : decide ((j : Int) < (nn k : Int)) = false := decide_eq_false hjl'
                            clear ho hom hMk hFk G hcG hcM hcm hgm
                            go_wp2_with fail
                            go_round
                            case rel => exact ⟨j + 1, by go_num, by omega⟩
                            case measure => simp [intOf]; omega
                        · obtain rfl : j = nn k + 1 := by omega
                          clear ho hom hMk hFk G hcG hcM hcm hgm
                          go_wp2_with fail
                          go_round
                          case rel => exact ⟨k + 1, by go_num, by omega⟩
                          case measure => simp [intOf]; omega
                    · obtain rfl : k = N := by omega
                      go_wp2
                      go_ret
                      exact ⟨rfl, HB.out⟩
end Go.Proofs.Yteopgffgimkgmaa
