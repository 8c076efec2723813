/- Raise: anyVariable, arms, fields. -/
import Derived.Test.YtncndgfaalojpaaRwc
namespace Go.Proofs.Ytncndgfaalojpaa
open Go.RowKit
set_option linter.unusedVariables false

set_option maxRecDepth 100000 in
set_option maxHeartbeats 4000000 in
theorem anyV_any (sa : Option Addr) (sc : Nat) (l : List Sl) (w : World) (hl : l.length ≤ 9223372036854775806) (hX : Hid (GRow 3 slc w sa l)) :
    Calls Try.prog 55 #[.slice sa l.length sc] w fun e w' => e = .returned (.bool (zfV l)) ∧ Below w.heap.size w w' := by
  go_enter Try.func55, Try.ntmps55
  go_wp2_with fail
  go_loopw [7] (fun x7 wr => ∃ (i : Nat), i ≤ l.length ∧ x7 = .int .i64 (i : Int) ∧ Hid (zfV (l.take i) = false) ∧ Hid (Below w.heap.size w wr)) (fun x7 _ => l.length - (intOf x7).toNat)
  case atStart => exact ⟨0, Nat.zero_le _, rfl, hide_ rfl, hide_ (Below.refl _ _)⟩
  case round =>
    obtain ⟨i, hi, rfl, HF, HB⟩ := hrel
    generalize wr = wq at *
    by_cases hlt : i < l.length
    · have hlt' : (i : Int) < l.length := by omega
      have hx : l[i]? = some (l[i]'hlt) := List.getElem?_eq_getElem hlt
      obtain ⟨b, o, rfl, -, hc⟩ := (hX.out.later HB.out).open (by omega)
      have i0 := hc i _ hx 0 (by decide); have i1 := hc i _ hx 1 (by decide); have i2 := hc i _ hx 2 (by decide)
      have HS : Hid (zfV (l.take (i + 1)) = (zfV (l.take i) || (l[i]'hlt).v)) := hide_ (by unfold zfV; rw [List.take_succ_eq_append_getElem hlt, List.any_append]; simp only [List.any_cons, List.any_nil, Bool.or_false])
      have HA : Hid ((l[i]'hlt).v = true → zfV l = true) := hide_ (fun h => by
        unfold zfV
        rw [List.any_eq_true]
        exact ⟨_, List.getElem_mem hlt, h⟩)
      generalize l[i]'hlt = x at *
      obtain ⟨xa, xv, xs⟩ := x
      simp [slc] at i0 i1 i2
      simp only at HS HA
      obtain ⟨wx, hwx⟩ : ∃ wx, wx = wq.alloc (.cells #[.int .i64 xa, .bool xv, .int .i64 xs] 77) := ⟨_, rfl⟩
      have hBx : Below wq.heap.size wq wx := by rw [hwx]; exact below1 _ _
      have kx : Blk wx wq.heap.size 77 [.int .i64 xa, .bool xv, .int .i64 xs] := by rw [hwx]; exact Blk.newA wq _ _
      have j1 := kx.cell 1
      simp at j1
      have HBx := hide_ (below_to HB.out hBx)
      clear hc hx kx hBx
      go_upto_region 4 with fail
      rw [← hwx]
      clear hwx i0 i1 i2
      cases xv with
      | true =>
        have HT := hide_ (HA.out rfl)
        go_wp2_with fail
        go_ret
        exact ⟨by rw [HT.out]; rfl, HBx.out⟩
      | false =>
        have HF2 : Hid (zfV (l.take (i + 1)) = false) := hide_ (by rw [HS.out, HF.out]; rfl)
        go_wp2_with fail
        go_roundw
        case rel => exact ⟨i + 1, by omega, by go_num, HF2, HBx⟩
        case measure => simp [intOf]; omega
    · obtain rfl : i = l.length := by omega
      have hF := HF.out
      rw [List.take_length] at hF
      have HFx := hide_ hF
      clear hF
      go_wp2_with fail
      go_ret
      exact ⟨by rw [HFx.out]; rfl, HB.out⟩
def zfH (sz : Int) (z : Bool) : List In := if z then [⟨42, sz, 0, 0⟩] else []
theorem Kp.bP {B : Nat} {w w' : World} {g : Nat} {xs : List Value} (h : Kp B w w') (hb : Blk w g 58 xs) : Blk w' g 58 xs := h.blk hb (by unfold own3; decide)
theorem Kp.bS {B : Nat} {w w' : World} {g : Nat} {xs : List Value} (h : Kp B w w') (hb : Blk w g 77 xs) : Blk w' g 77 xs := h.blk hb (by unfold own3; decide)
theorem Kp.bL {B : Nat} {w w' : World} {g : Nat} {xs : List Value} (h : Kp B w w') (hb : Blk w g 70 xs) : Blk w' g 70 xs := h.blk hb (by unfold own3; decide)
set_option maxRecDepth 100000 in
set_option maxHeartbeats 4000000 in
theorem arms_any (B gr gp gb : Nat) (vT vL : Value) (C : List In) (E : List Int) (ps : List Pt) (va : Option Addr) (vc : Nat) (w : World) (hl : C.length ≤ 900000000) (hpl : ps.length ≤ 100000) (HP : Hid (∀ w', Below B w w' → PRow w' va ps)) (h : Hid (Rz w B gr gp gb vT vL C E)) :
    Calls Try.prog 27 #[.pointer (some ⟨gr, 0, none⟩), .slice va ps.length vc] w fun e w' => e = .returned (.tuple #[]) ∧ Hid (Rz w' B gr gp gb vT vL (C ++ zaP ps (C.length : Int)) E) ∧ Hid (Kp B w w') := by
  have hbase := h.out.base
  have HLy := hide_ (lay_any B gr gp gb vT vL C E ⟨41, (ps.length : Int), 0, 0⟩ w (by omega) (fun h => by cases h) h)
  have jf := h.out.fn
  go_enter Try.func27, Try.ntmps27
  go_upto_region 1 with (go_at_call 23; refine HLy.out.mono ?_; rintro e w1 ⟨rfl, HM1, HK1⟩)
  clear HLy h jf
  have HM2 : Hid (Rz w1 B gr gp gb vT vL (C ++ (⟨41, (ps.length : Int), 0, 0⟩ :: zaH ps (C.length : Int) 0)) E) := HM1
  clear HM1
  go_wp2_with fail
  go_loopw [18] (fun x18 wr => ∃ (i : Nat), i ≤ ps.length ∧ x18 = .int .i64 (i : Int) ∧ Hid (Rz wr B gr gp gb vT vL (C ++ (⟨41, (ps.length : Int), 0, 0⟩ :: zaH ps (C.length : Int) i)) E) ∧ Hid (Kp B w wr)) (fun x18 _ => ps.length - (intOf x18).toNat)
  case atStart => exact ⟨0, Nat.zero_le _, rfl, HM2, HK1⟩
  case round =>
    obtain ⟨i, hi, rfl, HMq, HKq⟩ := hrel
    generalize wr = wq at *
    clear HM2 HK1
    by_cases hlt : i < ps.length
    · have hlt' : (i : Int) < ps.length := by omega
      have hx : ps[i]? = some (ps[i]'hlt) := List.getElem?_eq_getElem hlt
      have hpa := ptA_at hx
      have hlx : (C ++ (⟨41, (ps.length : Int), 0, 0⟩ :: zaH ps (C.length : Int) i)).length = C.length + 1 + i := by simp [zaH_len]; omega
      have HHd := hide_ (zaH_succ ps (C.length : Int) i)
      rw [hpa] at HHd
      obtain ⟨bP, oP, rfl, hbP, hcP⟩ := (HP.out wq (HKq.out.below hbase)).open (by omega)
      have i0 := hcP i _ hx 0 (by decide); have i1 := hcP i _ hx 1 (by decide); have i2 := hcP i _ hx 2 (by decide)
      generalize ps[i]'hlt = p at *
      simp [ptc] at i0 i1 i2
      obtain ⟨wx, hwx⟩ : ∃ wx, wx = wq.alloc (.cells #[.string p.label, .int .i64 p.tag, .int .i64 p.ty] 58) := ⟨_, rfl⟩
      have hBx : Below wq.heap.size wq wx := by rw [hwx]; exact below1 _ _
      have kp : Blk wx wq.heap.size 58 [.string p.label, .int .i64 p.tag, .int .i64 p.ty] := by rw [hwx]; exact Blk.newA wq _ _
      have HMx := hide_ (HMq.out.later hBx)
      have HKx := hide_ (HKq.out.then hBx)
      have HLy := hide_ (lay_any B gr gp gb vT vL _ E ⟨9, p.tag, (ps.length : Int) - (i : Int) + 2 * (i : Int), 0⟩ wx.drew (by omega) (fun _ => ⟨by show _ ≤ (ps.length : Int) - (i : Int) + 2 * (i : Int); omega, by show (ps.length : Int) - (i : Int) + 2 * (i : Int) ≤ _; omega⟩) (hide_ (HMx.out.later ((Below.refl _ _).drew))))
      have HSS : Hid (∀ w', Below wx.heap.size wx w' → (fun w' => w'.cell? ⟨gr, 2, none⟩ = some (.func (.func 23) #[] #[.pointer (some ⟨gb, 0, none⟩)]) ∧ w'.cell? ⟨wq.heap.size, 1, none⟩ = some (.int .i64 p.tag)) w') := hide_ (fun w' hb => ⟨(HMx.out.later hb).fn, by have := (kp.later hb).cell 1; simpa using this⟩)
      have HFin : Hid ((C ++ (⟨41, (ps.length : Int), 0, 0⟩ :: zaH ps (C.length : Int) i)) ++ [layI ⟨9, p.tag, (ps.length : Int) - (i : Int) + 2 * (i : Int), 0⟩ (C ++ (⟨41, (ps.length : Int), 0, 0⟩ :: zaH ps (C.length : Int) i)).length] = C ++ (⟨41, (ps.length : Int), 0, 0⟩ :: zaH ps (C.length : Int) (i + 1))) := hide_ (by
        rw [HHd.out, hlx]
        simp [layI, hopB]
        omega)
      have hwa : IntKind.i64.wrap ((ps.length : Int) - (i : Int)) = (ps.length : Int) - (i : Int) := i64w _ (by omega)
      have hwb : IntKind.i64.wrap (2 * (i : Int)) = 2 * (i : Int) := i64w _ (by omega)
      have hwc : IntKind.i64.wrap ((ps.length : Int) - (i : Int) + 2 * (i : Int)) = (ps.length : Int) - (i : Int) + 2 * (i : Int) := i64w _ (by omega)
      clear hcP hx hpa kp hBx HMq HMx HKq hlx
      go_upto_region 4 with fail
      rw [← hwx]
      clear hwx i0 i1 i2
      refine wp_region_last 14 (fun w' => w'.cell? ⟨gr, 2, none⟩ = some (.func (.func 23) #[] #[.pointer (some ⟨gb, 0, none⟩)]) ∧ w'.cell? ⟨wq.heap.size, 1, none⟩ = some (.int .i64 p.tag)) (by kernel_rfl) (HSS.out _ ((Below.refl wx.heap.size wx).drew)) (fun hHeld => ?_)
      refine wpAnyF_take [14, 3, 2, 1] (by kernel_rfl) (i := 0) (v := ?va1) rfl (by kernel_rfl) (by kernel_rfl) (by kernel_rfl) (fun _ _ _ h => h) (Or.inl ⟨by kernel_rfl, ?hya1⟩) hHeld ?resta1
      case hya1 => intro w' hSw; (try dsimp only at hSw); go_simp; try with_reducible rfl
      simp only [Act.put]
      refine wpAnyF_take [14, 3, 2] (by kernel_rfl) (i := 1) (v := ?va2) rfl (by kernel_rfl) (by kernel_rfl) (by kernel_rfl) (fun _ _ _ h => h) (Or.inl ⟨by kernel_rfl, ?hya2⟩) hHeld ?resta2
      case hya2 => intro w' hSw; (try dsimp only at hSw); go_simp; try with_reducible rfl
      simp only [Act.put]
      refine wpAnyF_take [14, 3] (by kernel_rfl) (i := 2) (v := ?va3) rfl (by kernel_rfl) (by kernel_rfl) (by kernel_rfl) (fun _ _ _ h => h) (Or.inl ⟨by kernel_rfl, ?hya3⟩) hHeld ?resta3
      case hya3 => intro w' hSw; (try dsimp only at hSw); go_simp; try with_reducible rfl
      simp only [Act.put]
      refine wpAnyF_take [14] (by kernel_rfl) (i := 3) (v := ?va4) rfl (by kernel_rfl) (by kernel_rfl) (by kernel_rfl) (fun _ _ _ h => h) (Or.inl ⟨by kernel_rfl, ?hya4⟩) hHeld ?resta4
      case hya4 => intro w' hSw; (try dsimp only at hSw); go_simp; try with_reducible rfl
      simp only [Act.put]
      refine wpAnyF_take [14, 13, 5] (by kernel_rfl) (i := 4) (v := ?va5) rfl (by kernel_rfl) (by kernel_rfl) (by kernel_rfl) (fun _ _ _ h => h) (Or.inl ⟨by kernel_rfl, ?hya5⟩) hHeld ?resta5
      case hya5 => intro w' hSw; (try dsimp only at hSw); go_simp; try with_reducible rfl
      simp only [Act.put]
      refine wpAnyF_take [14, 13] (by kernel_rfl) (i := 5) (v := ?va6) rfl (by kernel_rfl) (by kernel_rfl) (by kernel_rfl) (fun _ _ _ h => h) (Or.inl ⟨by kernel_rfl, ?hya6⟩) hHeld ?resta6
      case hya6 => intro w' hSw; (try dsimp only at hSw); go_simp; try with_reducible rfl
      simp only [Act.put]
      refine wpAnyF_take [14, 13, 12, 9, 7] (by kernel_rfl) (i := 6) (v := ?va7) rfl (by kernel_rfl) (by kernel_rfl) (by kernel_rfl) (fun _ _ _ h => h) (Or.inl ⟨by kernel_rfl, ?hya7⟩) hHeld ?resta7
      case hya7 => intro w' hSw; (try dsimp only at hSw); go_simp; try with_reducible rfl
      simp only [Act.put]
      refine wpAnyF_take [14, 13, 12, 9] (by kernel_rfl) (i := 7) (v := ?va8) rfl (by kernel_rfl) (by kernel_rfl) (by kernel_rfl) (fun _ _ _ h => h) (Or.inl ⟨by kernel_rfl, ?hya8⟩) hHeld ?resta8
      case hya8 => intro w' hSw; (try dsimp only at hSw); go_simp; try with_reducible rfl
      simp only [Act.put]
      refine wpAnyF_take [14, 13, 12, 9] (by kernel_rfl) (i := 8) (v := ?va9) rfl (by kernel_rfl) (by kernel_rfl) (by kernel_rfl) (fun _ _ _ h => h) (Or.inl ⟨by kernel_rfl, ?hya9⟩) hHeld ?resta9
      case hya9 => intro w' hSw; (try dsimp only at hSw); go_simp; try with_reducible rfl
      simp only [Act.put]
      refine wpAnyF_take [14, 13, 12] (by kernel_rfl) (i := 9) (v := ?va10) rfl (by kernel_rfl) (by kernel_rfl) (by kernel_rfl) (fun _ _ _ h => h) (Or.inl ⟨by kernel_rfl, ?hya10⟩) hHeld ?resta10
      case hya10 => intro w' hSw; (try dsimp only at hSw); go_simp; try with_reducible rfl
      simp only [Act.put]
      refine wpAnyF_take [14, 13, 12, 11] (by kernel_rfl) (i := 10) (v := ?va11) rfl (by kernel_rfl) (by kernel_rfl) (by kernel_rfl) (fun _ _ _ h => h) (Or.inl ⟨by kernel_rfl, ?hya11⟩) hHeld ?resta11
      case hya11 => intro w' hSw; (try dsimp only at hSw); go_simp; try with_reducible rfl
      simp only [Act.put]
      refine wpAnyF_take [14, 13, 12] (by kernel_rfl) (i := 11) (v := ?va12) rfl (by kernel_rfl) (by kernel_rfl) (by kernel_rfl) (fun _ _ _ h => h) (Or.inl ⟨by kernel_rfl, ?hya12⟩) hHeld ?resta12
      case hya12 => intro w' hSw; (try dsimp only at hSw); go_simp; try with_reducible rfl
      simp only [Act.put]
      refine wpAnyF_take [14, 13] (by kernel_rfl) (i := 12) (v := ?va13) rfl (by kernel_rfl) (by kernel_rfl) (by kernel_rfl) (fun _ _ _ h => h) (Or.inl ⟨by kernel_rfl, ?hya13⟩) hHeld ?resta13
      case hya13 => intro w' hSw; (try dsimp only at hSw); go_simp; try with_reducible rfl
      simp only [Act.put]
      refine wpAnyF_take [14] (by kernel_rfl) (i := 13) (v := ?va14) rfl (by kernel_rfl) (by kernel_rfl) (by kernel_rfl) (fun _ _ _ h => h) (Or.inl ⟨by kernel_rfl, ?hya14⟩) hHeld ?resta14
      case hya14 => intro w' hSw; (try dsimp only at hSw); go_simp; try with_reducible rfl
      simp only [Act.put]
      refine wpAnyF_ready (rs := [14]) (by kernel_rfl) (by simp) ?_
      refine AllReadyF.last rfl (fun K hK => ?_)
      go_simp
      refine HLy.out.mono ?_
      rintro e w4 ⟨rfl, HM4, HK4⟩
      dsimp only
      refine hK.out _ _ ?_
      clear hK K
      refine wpAnyF_done (by kernel_rfl) ?_ _
      clear HSS HLy
      clear hwa hwb hwc
      go_wp2_with fail
      go_roundw
      case rel => exact ⟨i + 1, by omega, by go_num, hide_ (by rw [← HFin.out]; exact HM4.out), hide_ (HKx.out.trans ((Kp.later ((Below.refl wx.heap.size wx).drew)).trans HK4.out))⟩
      case measure => simp [intOf]; omega
    · obtain rfl : i = ps.length := by omega
      clear hlt hi
      have HM0 : Hid (Rz wq B gr gp gb vT vL (C ++ (⟨41, (ps.length : Int), 0, 0⟩ :: (zaH ps (C.length : Int) ps.length ++ zaB ps 0))) E) := hide_ (by have := HMq.out; simpa [zaB] using this)
      clear HMq
      go_wp2_with fail
      go_loopw [41] (fun x41 wr => ∃ (i : Nat), i ≤ ps.length ∧ x41 = .int .i64 (i : Int) ∧ Hid (Rz wr B gr gp gb vT vL (C ++ (⟨41, (ps.length : Int), 0, 0⟩ :: (zaH ps (C.length : Int) ps.length ++ zaB ps i))) E) ∧ Hid (Kp B w wr)) (fun x41 _ => ps.length - (intOf x41).toNat)
      case atStart => exact ⟨0, Nat.zero_le _, rfl, HM0, HKq⟩
      case round =>
        obtain ⟨i, hi, rfl, HMz, HKz⟩ := hrel
        generalize wr = wz at *
        clear HM0 HKq
        by_cases hlt : i < ps.length
        · have hlt' : (i : Int) < ps.length := by omega
          have hx : ps[i]? = some (ps[i]'hlt) := List.getElem?_eq_getElem hlt
          have hpa := ptA_at hx
          have hlx : (C ++ (⟨41, (ps.length : Int), 0, 0⟩ :: (zaH ps (C.length : Int) ps.length ++ zaB ps i))).length ≤ 900300003 := by simp [zaH_len, zaB_len]; omega
          have HHd := hide_ (zaB_succ ps i)
          rw [hpa] at HHd
          obtain ⟨bP, oP, rfl, hbP, hcP⟩ := (HP.out wz (HKz.out.below hbase)).open (by omega)
          have i0 := hcP i _ hx 0 (by decide); have i1 := hcP i _ hx 1 (by decide); have i2 := hcP i _ hx 2 (by decide)
          generalize ps[i]'hlt = p at *
          simp [ptc] at i0 i1 i2
          obtain ⟨wx, hwx⟩ : ∃ wx, wx = wz.alloc (.cells #[.string p.label, .int .i64 p.tag, .int .i64 p.ty] 58) := ⟨_, rfl⟩
          have hBx : Below wz.heap.size wz wx := by rw [hwx]; exact below1 _ _
          have KP : Hid (Blk wx wz.heap.size 58 [.string p.label, .int .i64 p.tag, .int .i64 p.ty]) := hide_ (by rw [hwx]; exact Blk.newA wz _ _)
          have HMx := hide_ (HMz.out.later hBx)
          have HKx := hide_ (HKz.out.then hBx)
          clear hcP hx hpa hBx HMz HKz
          go_upto_region 9 with fail
          rw [← hwx]
          clear hwx i0 i1 i2
          by_cases hz : 0 < i
          · have hz' : (0 : Int) < (i : Int) := by omega
            rw [if_pos hz] at HHd
            have HLr := hide_ (lay_any B gr gp gb vT vL _ E ⟨20, 0, 0, 0⟩ wx (by omega) (fun h => by cases h) HMx)
            have jf := HMx.out.fn
            go_upto_region 11 with (go_at_call 23; refine HLr.out.mono ?_; rintro e w5 ⟨rfl, HM5, HK5⟩)
            have KP5 := hide_ (HK5.out.bP KP.out)
            have HLy := hide_ (lay_any B gr gp gb vT vL _ E ⟨46, 0, 0, p.ty⟩ w5.drew (by rw [List.length_append, List.length_singleton]; omega) (fun h => by cases h) (hide_ (HM5.out.later ((Below.refl _ _).drew))))
            have HSS : Hid (∀ w', Below w5.heap.size w5 w' → (fun w' => w'.cell? ⟨gr, 2, none⟩ = some (.func (.func 23) #[] #[.pointer (some ⟨gb, 0, none⟩)]) ∧ w'.cell? ⟨wz.heap.size, 2, none⟩ = some (.int .i64 p.ty)) w') := hide_ (fun w' hb => ⟨(HM5.out.later hb).fn, by have := (KP5.out.later hb).cell 2; simpa using this⟩)
            clear HLr jf HMx KP hlx
            refine wp_region_last 7 (fun w' => w'.cell? ⟨gr, 2, none⟩ = some (.func (.func 23) #[] #[.pointer (some ⟨gb, 0, none⟩)]) ∧ w'.cell? ⟨wz.heap.size, 2, none⟩ = some (.int .i64 p.ty)) (by kernel_rfl) (HSS.out _ ((Below.refl w5.heap.size w5).drew)) (fun hHeld => ?_)
            refine wpAnyF_take [7, 3, 2, 1] (by kernel_rfl) (i := 0) (v := ?vc1) rfl (by kernel_rfl) (by kernel_rfl) (by kernel_rfl) (fun _ _ _ h => h) (Or.inl ⟨by kernel_rfl, ?hyc1⟩) hHeld ?restc1
            case hyc1 => intro w' hSw; (try dsimp only at hSw); go_simp; try with_reducible rfl
            simp only [Act.put]
            refine wpAnyF_take [7, 3, 2] (by kernel_rfl) (i := 1) (v := ?vc2) rfl (by kernel_rfl) (by kernel_rfl) (by kernel_rfl) (fun _ _ _ h => h) (Or.inl ⟨by kernel_rfl, ?hyc2⟩) hHeld ?restc2
            case hyc2 => intro w' hSw; (try dsimp only at hSw); go_simp; try with_reducible rfl
            simp only [Act.put]
            refine wpAnyF_take [7, 3] (by kernel_rfl) (i := 2) (v := ?vc3) rfl (by kernel_rfl) (by kernel_rfl) (by kernel_rfl) (fun _ _ _ h => h) (Or.inl ⟨by kernel_rfl, ?hyc3⟩) hHeld ?restc3
            case hyc3 => intro w' hSw; (try dsimp only at hSw); go_simp; try with_reducible rfl
            simp only [Act.put]
            refine wpAnyF_take [7] (by kernel_rfl) (i := 3) (v := ?vc4) rfl (by kernel_rfl) (by kernel_rfl) (by kernel_rfl) (fun _ _ _ h => h) (Or.inl ⟨by kernel_rfl, ?hyc4⟩) hHeld ?restc4
            case hyc4 => intro w' hSw; (try dsimp only at hSw); go_simp; try with_reducible rfl
            simp only [Act.put]
            refine wpAnyF_take [7, 6, 5] (by kernel_rfl) (i := 4) (v := ?vc5) rfl (by kernel_rfl) (by kernel_rfl) (by kernel_rfl) (fun _ _ _ h => h) (Or.inl ⟨by kernel_rfl, ?hyc5⟩) hHeld ?restc5
            case hyc5 => intro w' hSw; (try dsimp only at hSw); go_simp; try with_reducible rfl
            simp only [Act.put]
            refine wpAnyF_take [7, 6] (by kernel_rfl) (i := 5) (v := ?vc6) rfl (by kernel_rfl) (by kernel_rfl) (by kernel_rfl) (fun _ _ _ h => h) (Or.inl ⟨by kernel_rfl, ?hyc6⟩) hHeld ?restc6
            case hyc6 => intro w' hSw; (try dsimp only at hSw); go_simp; try with_reducible rfl
            simp only [Act.put]
            refine wpAnyF_take [7] (by kernel_rfl) (i := 6) (v := ?vc7) rfl (by kernel_rfl) (by kernel_rfl) (by kernel_rfl) (fun _ _ _ h => h) (Or.inl ⟨by kernel_rfl, ?hyc7⟩) hHeld ?restc7
            case hyc7 => intro w' hSw; (try dsimp only at hSw); go_simp; try with_reducible rfl
            simp only [Act.put]
            refine wpAnyF_ready (rs := [7]) (by kernel_rfl) (by simp) ?_
            refine AllReadyF.last rfl (fun K hK => ?_)
            go_simp
            refine HLy.out.mono ?_
            rintro e w4 ⟨rfl, HM4, HK4⟩
            dsimp only
            refine hK.out _ _ ?_
            clear hK K
            refine wpAnyF_done (by kernel_rfl) ?_ _
            clear HSS HLy
            go_wp2_with fail
            go_roundw
            case rel => exact ⟨i + 1, by omega, by go_num, hide_ (by
              rw [HHd.out]
              have := HM4.out
              simpa [layI, hopB] using this), hide_ (HKx.out.trans (HK5.out.trans ((Kp.later ((Below.refl w5.heap.size w5).drew)).trans HK4.out)))⟩
            case measure => simp [intOf]; omega
          · have hz' : ¬ (0 : Int) < (i : Int) := by omega
            rw [if_neg hz] at HHd
            have HLy := hide_ (lay_any B gr gp gb vT vL _ E ⟨46, 0, 0, p.ty⟩ wx.drew (by omega) (fun h => by cases h) (hide_ (HMx.out.later ((Below.refl _ _).drew))))
            have HSS : Hid (∀ w', Below wx.heap.size wx w' → (fun w' => w'.cell? ⟨gr, 2, none⟩ = some (.func (.func 23) #[] #[.pointer (some ⟨gb, 0, none⟩)]) ∧ w'.cell? ⟨wz.heap.size, 2, none⟩ = some (.int .i64 p.ty)) w') := hide_ (fun w' hb => ⟨(HMx.out.later hb).fn, by have := (KP.out.later hb).cell 2; simpa using this⟩)
            clear hlx HMx KP
            go_upto_region 11 with fail
            refine wp_region_last 7 (fun w' => w'.cell? ⟨gr, 2, none⟩ = some (.func (.func 23) #[] #[.pointer (some ⟨gb, 0, none⟩)]) ∧ w'.cell? ⟨wz.heap.size, 2, none⟩ = some (.int .i64 p.ty)) (by kernel_rfl) (HSS.out _ ((Below.refl wx.heap.size wx).drew)) (fun hHeld => ?_)
            refine wpAnyF_take [7, 3, 2, 1] (by kernel_rfl) (i := 0) (v := ?vb1) rfl (by kernel_rfl) (by kernel_rfl) (by kernel_rfl) (fun _ _ _ h => h) (Or.inl ⟨by kernel_rfl, ?hyb1⟩) hHeld ?restb1
            case hyb1 => intro w' hSw; (try dsimp only at hSw); go_simp; try with_reducible rfl
            simp only [Act.put]
            refine wpAnyF_take [7, 3, 2] (by kernel_rfl) (i := 1) (v := ?vb2) rfl (by kernel_rfl) (by kernel_rfl) (by kernel_rfl) (fun _ _ _ h => h) (Or.inl ⟨by kernel_rfl, ?hyb2⟩) hHeld ?restb2
            case hyb2 => intro w' hSw; (try dsimp only at hSw); go_simp; try with_reducible rfl
            simp only [Act.put]
            refine wpAnyF_take [7, 3] (by kernel_rfl) (i := 2) (v := ?vb3) rfl (by kernel_rfl) (by kernel_rfl) (by kernel_rfl) (fun _ _ _ h => h) (Or.inl ⟨by kernel_rfl, ?hyb3⟩) hHeld ?restb3
            case hyb3 => intro w' hSw; (try dsimp only at hSw); go_simp; try with_reducible rfl
            simp only [Act.put]
            refine wpAnyF_take [7] (by kernel_rfl) (i := 3) (v := ?vb4) rfl (by kernel_rfl) (by kernel_rfl) (by kernel_rfl) (fun _ _ _ h => h) (Or.inl ⟨by kernel_rfl, ?hyb4⟩) hHeld ?restb4
            case hyb4 => intro w' hSw; (try dsimp only at hSw); go_simp; try with_reducible rfl
            simp only [Act.put]
            refine wpAnyF_take [7, 6, 5] (by kernel_rfl) (i := 4) (v := ?vb5) rfl (by kernel_rfl) (by kernel_rfl) (by kernel_rfl) (fun _ _ _ h => h) (Or.inl ⟨by kernel_rfl, ?hyb5⟩) hHeld ?restb5
            case hyb5 => intro w' hSw; (try dsimp only at hSw); go_simp; try with_reducible rfl
            simp only [Act.put]
            refine wpAnyF_take [7, 6] (by kernel_rfl) (i := 5) (v := ?vb6) rfl (by kernel_rfl) (by kernel_rfl) (by kernel_rfl) (fun _ _ _ h => h) (Or.inl ⟨by kernel_rfl, ?hyb6⟩) hHeld ?restb6
            case hyb6 => intro w' hSw; (try dsimp only at hSw); go_simp; try with_reducible rfl
            simp only [Act.put]
            refine wpAnyF_take [7] (by kernel_rfl) (i := 6) (v := ?vb7) rfl (by kernel_rfl) (by kernel_rfl) (by kernel_rfl) (fun _ _ _ h => h) (Or.inl ⟨by kernel_rfl, ?hyb7⟩) hHeld ?restb7
            case hyb7 => intro w' hSw; (try dsimp only at hSw); go_simp; try with_reducible rfl
            simp only [Act.put]
            refine wpAnyF_ready (rs := [7]) (by kernel_rfl) (by simp) ?_
            refine AllReadyF.last rfl (fun K hK => ?_)
            go_simp
            refine HLy.out.mono ?_
            rintro e w4 ⟨rfl, HM4, HK4⟩
            dsimp only
            refine hK.out _ _ ?_
            clear hK K
            refine wpAnyF_done (by kernel_rfl) ?_ _
            clear HSS HLy
            go_wp2_with fail
            go_roundw
            case rel => exact ⟨i + 1, by omega, by go_num, hide_ (by
              rw [HHd.out]
              have := HM4.out
              simpa [layI, hopB] using this), hide_ (HKx.out.trans ((Kp.later ((Below.refl wx.heap.size wx).drew)).trans HK4.out))⟩
            case measure => simp [intOf]; omega
        · obtain rfl : i = ps.length := by omega
          go_wp2_with fail
          go_end0
          exact ⟨rfl, HMz, HKz⟩
end Go.Proofs.Ytncndgfaalojpaa
