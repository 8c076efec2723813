/- types.Check: rightParts of a union. -/
import Derived.Test.YtncndgfaalojpaaZe
namespace Go.Proofs.Ytncndgfaalojpaa
open Go.RowKit
set_option linter.unusedVariables false

set_option maxRecDepth 100000 in
set_option maxHeartbeats 8000000 in
theorem parts7_any (n el : Int) (ps : List Pt) (va : Option Addr) (vc : Nat) (m : Int) (w : World) (hvc : ps.length ≤ vc) (hr : Hid (PRow w va ps)) :
    Calls Try.prog 67 #[.agg #[.int .i64 7, .int .i64 n, .int .i64 el, .slice va ps.length vc], .int .i64 m] w fun e w' => e = .returned (.bool (allP armOk ps m)) ∧ Below w.heap.size w w' := by
  have hB := below1 w (.cells #[.int .i64 7, .int .i64 n, .int .i64 el, .slice va ps.length vc] 43)
  have kx := Blk.newA w #[.int .i64 7, .int .i64 n, .int .i64 el, .slice va ps.length vc] 43
  obtain ⟨w0, hw0⟩ : ∃ wx, wx = w.alloc (.cells #[.int .i64 7, .int .i64 n, .int .i64 el, .slice va ps.length vc] 43) := ⟨_, rfl⟩
  rw [← hw0] at hB kx
  have HB0 := hide_ hB
  have KX := hide_ kx
  have hz0 : w.heap.size < w0.heap.size := kx.lt
  have HR0 := hide_ (hr.out.later hB)
  have i0 := kx.cell 0; have i3 := kx.cell 3
  simp at i0 i3
  clear hB kx hr
  go_enter Try.func67, Try.ntmps67
  go_upto_region 1 with fail
  rw [← hw0]
  clear hw0
  by_cases hl0 : ps.length = 0
  · have HV : Hid (allP armOk ps m = false) := hide_ (allP_len (by omega))
    have hl0' : ((ps.length : Int) == 0) = true := by simp [hl0]
    go_wp2
    go_ret
    exact ⟨by rw [HV.out]; rfl, HB0.out⟩
  have hl0' : ((ps.length : Int) == 0) = false := by
    have h : ¬ (ps.length : Int) = 0 := by omega
    simpa using h
  by_cases hl1 : 64 < ps.length
  · have HV : Hid (allP armOk ps m = false) := hide_ (allP_len (by omega))
    have hl1' : (64 : Int) < ps.length := by omega
    go_wp2
    go_ret
    exact ⟨by rw [HV.out]; rfl, HB0.out⟩
  have hl1' : (ps.length : Int) ≤ 64 := by omega
  go_wp2_with fail
  go_loopw [33] (fun x33 wr => ∃ j : Nat, j ≤ ps.length ∧ x33 = .int .i64 (j : Int) ∧ Hid (∀ i, i < j → okP armOk ps m i = true) ∧ Hid (Below w0.heap.size w0 wr)) (fun x33 _ => ps.length - (intOf x33).toNat)
  case atStart => exact ⟨0, Nat.zero_le _, rfl, hide_ (fun i hi => by omega), hide_ (Below.refl _ _)⟩
  case round =>
    obtain ⟨j, hj, rfl, HA, HB⟩ := hrel
    generalize wr = wq at *
    clear i0 i3
    by_cases hlt : j < ps.length
    · have hlt' : (j : Int) < ps.length := by omega
      have hjc : (j : Int) ≤ vc := by omega
      have hRq := HR0.out.later HB.out
      obtain ⟨b, off, rfl, hb, hc⟩ := hRq.open (by omega)
      have hx : ps[j]? = some (ps[j]'hlt) := List.getElem?_eq_getElem hlt
      have hcx := hc j _ hx
      have HX := hide_ hx
      generalize ps[j]'hlt = p at *
      have i0 := hcx 0 (by decide); have i1 := hcx 1 (by decide); have i2 := hcx 2 (by decide)
      simp [ptc] at i0 i1 i2
      clear hc hx hcx
      have HOK := hide_ (okP_at (r := armOk) (m := m) HX.out)
      have kp := Blk.newA wq #[.string p.label, .int .i64 p.tag, .int .i64 p.ty] 58
      have hBx := below1 wq (.cells #[.string p.label, .int .i64 p.tag, .int .i64 p.ty] 58)
      obtain ⟨wx, hwx⟩ : ∃ wx, wx = wq.alloc (.cells #[.string p.label, .int .i64 p.tag, .int .i64 p.ty] 58) := ⟨_, rfl⟩
      rw [← hwx] at kp hBx
      have HBx := hide_ (below_to HB.out hBx)
      have KP := hide_ kp
      have HRx := hide_ ((hRq.later hBx).take j)
      have KXx := hide_ (KX.out.later HBx.out)
      clear kp hBx hRq hb
      go_upto_region 12 with fail
      rw [← hwx]
      clear hwx i0 i1 i2
      have HSS : Hid (∀ w', Below wx.heap.size wx w' → Below wx.heap.size wx w' ∧ w'.cell? ⟨wq.heap.size, 0, none⟩ = some (.string p.label) ∧ w'.cell? ⟨wq.heap.size, 1, none⟩ = some (.int .i64 p.tag) ∧ w'.cell? ⟨wq.heap.size, 2, none⟩ = some (.int .i64 p.ty) ∧ w'.cell? ⟨w.heap.size, 3, none⟩ = some (.slice (some ⟨b, off, none⟩) ps.length vc)) := fun w' hB => by
        have h := KP.out.later hB
        exact ⟨hB, h.cell 0, h.cell 1, h.cell 2, (KXx.out.later hB).cell 3⟩
      obtain ⟨b1, hb1⟩ : ∃ x, armOk p = x := ⟨_, rfl⟩
      obtain ⟨b2, hb2⟩ : ∃ x, thereP (ps.take j) p = x := ⟨_, rfl⟩
      obtain ⟨b3, hb3⟩ : ∃ x, inB p.ty m = x := ⟨_, rfl⟩
      rw [hb1, hb2, hb3] at HOK
      have HC1 : Hid (∀ w', Calls Try.prog 80 #[.agg #[.string p.label, .int .i64 p.tag, .int .i64 p.ty]] w' fun e w'' => e = .returned (.bool b1) ∧ Below w'.heap.size w' w'') := hide_ (fun w' => by have h := isArm_any p w'; rwa [hb1] at h)
      have HC2 : Hid (∀ w', Below wx.heap.size wx w' → Calls Try.prog 81 #[.slice (some ⟨b, off, none⟩) j vc, .agg #[.string p.label, .int .i64 p.tag, .int .i64 p.ty]] w' fun e w'' => e = .returned (.bool b2) ∧ Below w'.heap.size w' w'') := hide_ (fun w' hB => by
        have h := isThere_any p (some ⟨b, off, none⟩) vc (ps.take j) j w' (hide_ (by simp; omega)) (by omega) (hide_ (HRx.out.later hB))
        rwa [hb2] at h)
      have HC3 : Hid (∀ w', Calls Try.prog 70 #[.int .i64 p.ty, .int .i64 m] w' fun e w'' => e = .returned (.bool b3) ∧ w' = w'') := hide_ (fun w' => by have h := isBelow_any p.ty m w'; rwa [hb3] at h)
      clear hb1 hb2 hb3
      cases b1 with
      | false =>
        have HV : Hid (allP armOk ps m = false) := hide_ (allP_not hlt (by rw [HOK.out]; rfl))
        have y0 := KP.out.cell 0; have y1 := KP.out.cell 1; have y2 := KP.out.cell 2; have y3 := KXx.out.cell 3
        simp at y0 y1 y2 y3
        go_wp2_with fail
        first
        | (go_region_with (go_at_call 80; refine (HC1.out _).mono ?_; rintro e w2 ⟨rfl, hB2⟩; (have G2 := hide_ (below_to ((Below.refl _ _).drew) hB2)); (clear hB2)))
        | fail
        all_goals
          have HBf := hide_ (below_to HB0.out (below_to HBx.out G2.out))
          clear G2
          go_wp2
          go_ret
          exact ⟨by rw [HV.out]; rfl, HBf.out⟩
      | true =>
      cases b2 with
      | true =>
        have HV : Hid (allP armOk ps m = false) := hide_ (allP_not hlt (by rw [HOK.out]; rfl))
        have y0 := KP.out.cell 0; have y1 := KP.out.cell 1; have y2 := KP.out.cell 2; have y3 := KXx.out.cell 3
        simp at y0 y1 y2 y3
        go_wp2_with fail
        first
        | (go_region_with (first
            | (go_at_call 80; refine (HC1.out _).mono ?_; rintro e w2 ⟨rfl, hB2⟩; (obtain ⟨g2, z0, z1, z2, z3⟩ := HSS.out w2 (below_to ((Below.refl _ _).drew) hB2)); (have G2 := hide_ g2); (clear hB2 g2))
            | (go_at_call 81; refine (HC2.out _ G2.out).mono ?_; rintro e w3 ⟨rfl, hB3⟩; (have G3 := hide_ (below_to G2.out hB3)); (clear hB3))))
        | fail
        all_goals
          have HBf := hide_ (below_to HB0.out (below_to HBx.out G3.out))
          clear G2 G3
          go_wp2
          go_ret
          exact ⟨by rw [HV.out]; rfl, HBf.out⟩
      | false =>
      cases b3 with
      | false =>
        have HV : Hid (allP armOk ps m = false) := hide_ (allP_not hlt (by rw [HOK.out]; rfl))
        go_wp2_with fail
        go_region_held_law (fun w' => Below wx.heap.size wx w' ∧ w'.cell? ⟨wq.heap.size, 0, none⟩ = some (.string p.label) ∧ w'.cell? ⟨wq.heap.size, 1, none⟩ = some (.int .i64 p.tag) ∧ w'.cell? ⟨wq.heap.size, 2, none⟩ = some (.int .i64 p.ty) ∧ w'.cell? ⟨w.heap.size, 3, none⟩ = some (.slice (some ⟨b, off, none⟩) ps.length vc)) (first | assumption | exact HSS.out _ ((Below.refl _ _).drew) | exact HSS.out _ (Below.refl _ _))
          (first
            | (go_at_call 80; refine (HC1.out _).mono ?_; rintro e w2 ⟨rfl, hB2⟩; (have G2 := HSS.out w2 (below_to (by first | assumption | exact And.left (by assumption)) hB2)); (clear hB2))
            | (go_at_call 81; refine (HC2.out _ (by first | assumption | exact And.left (by assumption))).mono ?_; rintro e w3 ⟨rfl, hB3⟩; (have G3 := HSS.out w3 (below_to (by first | assumption | exact And.left (by assumption)) hB3)); (clear hB3))
            | (go_at_call 70; refine (HC3.out _).mono ?_; rintro e w4 ⟨rfl, rfl⟩))
        have HBf := hide_ (below_to HB0.out (below_to HBx.out G3.1))
        clear G2 G3 HSS HC1 HC2 HC3
        go_wp2
        go_ret
        exact ⟨by rw [HV.out]; rfl, HBf.out⟩
      | true =>
        have HA2 : Hid (∀ i, i < j + 1 → okP armOk ps m i = true) := hide_ (fun i hi => by
          rcases Nat.lt_or_ge i j with h | h
          · exact HA.out i h
          · obtain rfl : i = j := by omega
            rw [HOK.out]; rfl)
        go_wp2_with fail
        go_region_held_law (fun w' => Below wx.heap.size wx w' ∧ w'.cell? ⟨wq.heap.size, 0, none⟩ = some (.string p.label) ∧ w'.cell? ⟨wq.heap.size, 1, none⟩ = some (.int .i64 p.tag) ∧ w'.cell? ⟨wq.heap.size, 2, none⟩ = some (.int .i64 p.ty) ∧ w'.cell? ⟨w.heap.size, 3, none⟩ = some (.slice (some ⟨b, off, none⟩) ps.length vc)) (first | assumption | exact HSS.out _ ((Below.refl _ _).drew) | exact HSS.out _ (Below.refl _ _))
          (first
            | (go_at_call 80; refine (HC1.out _).mono ?_; rintro e w2 ⟨rfl, hB2⟩; (have G2 := HSS.out w2 (below_to (by first | assumption | exact And.left (by assumption)) hB2)); (clear hB2))
            | (go_at_call 81; refine (HC2.out _ (by first | assumption | exact And.left (by assumption))).mono ?_; rintro e w3 ⟨rfl, hB3⟩; (have G3 := HSS.out w3 (below_to (by first | assumption | exact And.left (by assumption)) hB3)); (clear hB3))
            | (go_at_call 70; refine (HC3.out _).mono ?_; rintro e w4 ⟨rfl, rfl⟩))
        have HBf := hide_ (below_to HBx.out G3.1)
        clear G2 G3 HSS HC1 HC2 HC3
        go_wp2_with fail
        go_roundw
        case rel => exact ⟨j + 1, by omega, by go_num, HA2, HBf⟩
        case measure => simp [intOf]; omega
    · obtain rfl : j = ps.length := by omega
      have HV : Hid (allP armOk ps m = true) := hide_ (allP_of (by omega) (by omega) HA.out)
      go_wp2
      go_ret
      exact ⟨by rw [HV.out]; rfl, below_to HB0.out HB.out⟩
end Go.Proofs.Ytncndgfaalojpaa
