/- Lower: fields. -/
import Derived.Test.YtepmgbfdmbogiaaLwe
namespace Go.Proofs.Ytepmgbfdmbogiaa
open Go.RowKit
set_option linter.unusedVariables false

set_option maxRecDepth 100000 in
set_option maxHeartbeats 4000000 in
theorem fields_any (B gb : Nat) (aT : Option Addr) (cT : Nat) (vL : Value) (T : List Ty) (X : List Ex) (C : List In) (E : List Int) (m : Mk) (ps : List Pt) (va sa : Option Addr) (vc sc : Nat) (sz : Int) (sl : List Sl) (w : World) (hl : C.length ≤ 800000000) (hpl : ps.length ≤ 1000000) (hsl : sl.length = ps.length) (HS : Hid (∀ (i : Nat) (p : Pt), ps[i]? = some p → ∃ s : Sl, sl[i]? = some s ∧ s.v = !(exAt X p.ty).f)) (HPt : Hid (∀ (i : Nat) (p : Pt), ps[i]? = some p → ∃ (n : Nat) (t : Ty), p.ty = (n : Int) ∧ T[n]? = some t)) (hm0 : m.kn = false) (hm1 : m.W = []) (HT : Hid (Tb B w aT T)) (HP : Hid (∀ w', Below B w w' → PRow w' va ps)) (HR : Hid (∀ w', Below B w w' → GRow 3 slc w' sa sl)) (h : Hid (Mb w B gb (.slice aT T.length cT) vL C E [m])) :
    Calls Try.prog 34 #[.pointer (some ⟨gb, 0, none⟩), .slice va ps.length vc, .agg #[.int .i64 sz, .slice sa sl.length sc]] w fun e w' => e = .returned (.tuple #[]) ∧ Hid (BodyTo B gb (.slice aT T.length cT) vL C E m (fldP T X ps sz) w') ∧ Hid (Kp B w w') := by
  obtain ⟨w1, hw1⟩ : ∃ wx, wx = w.alloc (.cells #[.int .i64 sz, .slice sa sl.length sc] 79) := ⟨_, rfl⟩
  have hB1 : Below w.heap.size w w1 := by rw [hw1]; exact below1 _ _
  have kl : Blk w1 w.heap.size 79 [.int .i64 sz, .slice sa sl.length sc] := by rw [hw1]; exact Blk.newA w _ _
  have hbase := h.out.base
  have H1 := hide_ (h.out.later hB1)
  have HK1 : Hid (Kp B w w1) := hide_ (Kp.later hB1)
  have HKl := hide_ kl
  have HLy := hide_ (lay_any B gb _ vL C E [m] ⟨6, 0, 0, 0⟩ w1 (by omega) H1)
  have HSl := hide_ hsl
  clear kl hB1 h hsl
  go_enter Try.func34, Try.ntmps34
  go_upto_region 1 with fail
  rw [← hw1]
  clear hw1
  go_upto_region 2 with (go_at_call 36; refine HLy.out.mono ?_; rintro e w2 ⟨rfl, HM2, HK2⟩)
  clear HLy
  go_wp2_with fail
  go_loopw [16] (fun x16 wr => ∃ (i : Nat), i ≤ ps.length ∧ x16 = .int .i64 (i : Int) ∧ Hid (Mb wr B gb (.slice aT T.length cT) vL (C ++ (⟨6, 0, 0, 0⟩ :: fxP T X ps sz i)) E [m]) ∧ Hid (Kp B w1 wr)) (fun x16 _ => ps.length - (intOf x16).toNat)
  case atStart => exact ⟨0, Nat.zero_le _, rfl, HM2, HK2⟩
  case round =>
    obtain ⟨i, hi, rfl, HMq, HKq⟩ := hrel
    generalize wr = wq at *
    clear HM2 HK2
    have HKw := hide_ (HK1.out.trans HKq.out)
    by_cases hlt : i < ps.length
    · have hlt' : (i : Int) < ps.length := by omega
      have hx : ps[i]? = some (ps[i]'hlt) := List.getElem?_eq_getElem hlt
      obtain ⟨s, hs, hsv⟩ := HS.out i _ hx
      obtain ⟨n, t2, hn1, hn2⟩ := HPt.out i _ hx
      have hpa := ptA_at hx
      have HFx := hide_ (fxP_succ T X ps sz i)
      rw [hpa] at HFx
      obtain ⟨bP, oP, rfl, hbP, hcP⟩ := (HP.out wq (HKw.out.below hbase)).open (by omega)
      obtain ⟨bS, oS, rfl, hbS, hcS⟩ := (HR.out wq (HKw.out.below hbase)).open (by rw [HSl.out]; omega)
      have i0 := hcP i _ hx 0 (by decide); have i1 := hcP i _ hx 1 (by decide); have i2 := hcP i _ hx 2 (by decide)
      have s1 := hcS i s hs 1 (by decide)
      generalize ps[i]'hlt = p at *
      simp [ptc] at i0 i1 i2
      simp [slc] at s1
      rw [hsv] at s1
      rw [hn1] at i2 HFx
      have hsi : (i : Int) < (sl.length : Int) := by rw [HSl.out]; omega
      obtain ⟨wx, hwx⟩ : ∃ wx, wx = wq.alloc (.cells #[.string p.label, .int .i64 p.tag, .int .i64 (n : Int)] 56) := ⟨_, rfl⟩
      have hBx : Below wq.heap.size wq wx := by rw [hwx]; exact below1 _ _
      have kp : Blk wx wq.heap.size 56 [.string p.label, .int .i64 p.tag, .int .i64 (n : Int)] := by rw [hwx]; exact Blk.newA wq _ _
      have HMx := hide_ (HMq.out.later hBx)
      have kq := HKq.out.blk HKl.out (by unfold own4; decide)
      have kx := kq.later hBx
      have l0 := kx.cell 0; have l1 := kx.cell 1
      simp at l0 l1
      have s2 : wx.cell? ⟨bS, oS + i * 3 + 1, none⟩ = some (.bool (!(exAt X p.ty).f)) := (hBx.cell (p := ⟨bS, oS + i * 3 + 1, none⟩) hbS).trans s1
      rw [hn1] at s2
      have HKx := hide_ (HKq.out.then hBx)
      have hlx : (C ++ (⟨6, 0, 0, 0⟩ :: fxP T X ps sz i)).length ≤ 900000000 := by simp [fxP_len]; omega
      have HTx := hide_ (HT.out.kp hbase (HKw.out.then hBx))
      have p2 := kp.cell 2
      simp at p2
      clear hcP hcS hx hs hsv hpa kp kq kx hBx HMq HKq s1 hn1
      go_upto_region 5 with fail
      rw [← hwx]
      clear hwx i0 i1 i2
      cases hf : (exAt X (n : Int)).f with
      | true =>
        rw [hf] at s2 HFx
        simp only [Bool.not_true] at s2
        simp only [if_true] at HFx
        have HL := hide_ (read_any B gb aT cT T vL _ E _ (i : Int) n t2 wx (by omega) hn2 HTx HMx)
        go_wp2_with (go_at_call 31; refine HL.out.mono ?_; rintro e w4 ⟨rfl, HM4, HK4⟩)
        go_roundw
        case rel => exact ⟨i + 1, by omega, by go_num, hide_ (by rw [HFx.out]; have := HM4.out; simpa using this), hide_ (HKx.out.trans HK4.out)⟩
        case measure => simp [intOf]; omega
      | false =>
        rw [hf] at s2 HFx
        simp only [Bool.not_false] at s2
        simp only [if_neg Bool.false_ne_true] at HFx
        have HL := hide_ (lay_any B gb _ vL _ E _ ⟨10, sz, 0, 0⟩ wx (by omega) HMx)
        go_wp2_with (go_at_call 36; refine HL.out.mono ?_; rintro e w4 ⟨rfl, HM4, HK4⟩)
        go_roundw
        case rel => exact ⟨i + 1, by omega, by go_num, hide_ (by rw [HFx.out]; have := HM4.out; simpa using this), hide_ (HKx.out.trans HK4.out)⟩
        case measure => simp [intOf]; omega
    · obtain rfl : i = ps.length := by omega
      clear hlt
      go_wp2_with fail
      go_loopw [8, 40] (fun x8 x40 wr => ∃ (i : Nat), i ≤ ps.length ∧ x40 = .int .i64 (i : Int) ∧ x8 = .int .i64 (vrN X ps i : Int) ∧ Hid (Mb wr B gb (.slice aT T.length cT) vL (C ++ (⟨6, 0, 0, 0⟩ :: (fxP T X ps sz ps.length ++ vrP X ps i))) E [m]) ∧ Hid (Kp B w1 wr)) (fun _ x40 _ => ps.length - (intOf x40).toNat)
      case atStart => exact ⟨0, Nat.zero_le _, rfl, rfl, hide_ (by have := HMq.out; simpa [vrP] using this), HKq⟩
      case round =>
        obtain ⟨i, hi, rfl, rfl, HMr, HKr⟩ := hrel
        generalize wr = wz at *
        clear HMq HKw
        have HKw := hide_ (HK1.out.trans HKr.out)
        by_cases hlt : i < ps.length
        · have hlt' : (i : Int) < ps.length := by omega
          have hx : ps[i]? = some (ps[i]'hlt) := List.getElem?_eq_getElem hlt
          obtain ⟨s, hs, hsv⟩ := HS.out i _ hx
          have hpa := ptA_at hx
          have HFx := hide_ (vrP_succ X ps i)
          have HVn : Hid (vrN X ps (i + 1) = vrN X ps i + if (exAt X (ptA ps i).ty).f then 0 else 1) := hide_ rfl
          rw [hpa] at HFx HVn
          have hvl := vrN_le X ps i
          obtain ⟨bP, oP, rfl, hbP, hcP⟩ := (HP.out wz (HKw.out.below hbase)).open (by omega)
          obtain ⟨bS, oS, rfl, hbS, hcS⟩ := (HR.out wz (HKw.out.below hbase)).open (by rw [HSl.out]; omega)
          have i0 := hcP i _ hx 0 (by decide); have i1 := hcP i _ hx 1 (by decide); have i2 := hcP i _ hx 2 (by decide)
          have s1 := hcS i s hs 1 (by decide)
          generalize ps[i]'hlt = p at *
          simp [ptc] at i0 i1 i2
          simp [slc] at s1
          rw [hsv] at s1
          have hsi : (i : Int) < (sl.length : Int) := by rw [HSl.out]; omega
          obtain ⟨wx, hwx⟩ : ∃ wx, wx = wz.alloc (.cells #[.string p.label, .int .i64 p.tag, .int .i64 p.ty] 56) := ⟨_, rfl⟩
          have hBx : Below wz.heap.size wz wx := by rw [hwx]; exact below1 _ _
          have kp : Blk wx wz.heap.size 56 [.string p.label, .int .i64 p.tag, .int .i64 p.ty] := by rw [hwx]; exact Blk.newA wz _ _
          have HMx := hide_ (HMr.out.later hBx)
          have kq := HKr.out.blk HKl.out (by unfold own4; decide)
          have kx := kq.later hBx
          have l1 := kx.cell 1
          simp at l1
          have s2 : wx.cell? ⟨bS, oS + i * 3 + 1, none⟩ = some (.bool (!(exAt X p.ty).f)) := (hBx.cell (p := ⟨bS, oS + i * 3 + 1, none⟩) hbS).trans s1
          have HKx := hide_ (HKr.out.then hBx)
          have hlx : (C ++ (⟨6, 0, 0, 0⟩ :: (fxP T X ps sz ps.length ++ vrP X ps i))).length ≤ 900000000 := by simp [fxP_len, vrP_len]; omega
          have p2 := kp.cell 2
          simp at p2
          clear hcP hcS hx hs hsv hpa kp kq kx hBx HMr HKr s1
          go_upto_region 13 with fail
          rw [← hwx]
          clear hwx i0 i1 i2
          cases hf : (exAt X p.ty).f with
          | true =>
            rw [hf] at s2 HFx HVn
            simp only [Bool.not_true] at s2
            simp only [if_true] at HFx HVn
            go_wp2_with fail
            go_roundw
            case rel => exact ⟨i + 1, by omega, by go_num, by rw [HVn.out]; rfl, hide_ (by rw [HFx.out]; have := HMx.out; simpa using this), HKx⟩
            case measure => simp [intOf]; omega
          | false =>
            rw [hf] at s2 HFx HVn
            simp only [Bool.not_false] at s2
            simp only [if_neg Bool.false_ne_true] at HFx HVn
            have HL := hide_ (lay_any B gb _ vL _ E _ ⟨17, (i : Int), (vrN X ps i : Int), p.ty⟩ wx (by omega) HMx)
            go_upto_region 15 with (go_at_call 36; refine HL.out.mono ?_; rintro e w4 ⟨rfl, HM4, HK4⟩)
            have HL2 := hide_ (lay_any B gb _ vL _ E _ ⟨18, (vrN X ps i : Int), 0, 0⟩ w4 (by simp at hlx ⊢; omega) HM4)
            clear HL s2 p2 l1
            go_wp2_with (go_at_call 36; refine HL2.out.mono ?_; rintro e w5 ⟨rfl, HM5, HK5⟩)
            go_roundw
            case rel => exact ⟨i + 1, by omega, by go_num, by rw [HVn.out]; go_num, hide_ (by rw [HFx.out]; have := HM5.out; simpa using this), hide_ (HKx.out.trans (HK4.out.trans HK5.out))⟩
            case measure => simp [intOf]; omega
        · obtain rfl : i = ps.length := by omega
          go_wp2_with fail
          go_end0
          obtain ⟨mg, mo, mk, mn, mv, mW⟩ := m
          simp only at hm0 hm1
          subst hm0 hm1
          exact ⟨rfl, hide_ ⟨fldP T X ps sz, [], mv, HMr.out, by simp, fun k hk => (by cases hk), rfl, rfl⟩, HKw⟩
end Go.Proofs.Ytepmgbfdmbogiaa
