/- Raise: fields. -/
import Derived.Test.YtncndgfaalojpaaRwd
namespace Go.Proofs.Ytncndgfaalojpaa
open Go.RowKit
set_option linter.unusedVariables false

set_option maxRecDepth 100000 in
set_option maxHeartbeats 4000000 in
theorem fields_any (B gr gp gb : Nat) (aT : Option Addr) (cT : Nat) (T : List Ty) (vL : Value) (C : List In) (E : List Int) (ps : List Pt) (va sa : Option Addr) (vc sc : Nat) (sz : Int) (sl : List Sl) (w : World) (hl : C.length ≤ 900000000) (hpl : ps.length ≤ 100000) (hsl : sl.length = ps.length) (HPt : Hid (∀ (i : Nat) (p : Pt), ps[i]? = some p → ∃ (n : Nat) (t : Ty), p.ty = (n : Int) ∧ T[n]? = some t)) (HT : Hid (Tc B w aT T)) (HP : Hid (∀ w', Below B w w' → PRow w' va ps)) (HR : Hid (∀ w', Below B w w' → GRow 3 slc w' sa sl)) (h : Hid (Rz w B gr gp gb (.slice aT T.length cT) vL C E)) :
    Calls Try.prog 28 #[.pointer (some ⟨gr, 0, none⟩), .slice va ps.length vc, .agg #[.int .i64 sz, .slice sa sl.length sc]] w fun e w' => e = .returned (.tuple #[]) ∧ Hid (Rz w' B gr gp gb (.slice aT T.length cT) vL (C ++ zfP T ps ⟨sz, sl⟩) E) ∧ Hid (Kp B w w') := by
  obtain ⟨w1, hw1⟩ : ∃ wx, wx = w.alloc (.cells #[.int .i64 sz, .slice sa sl.length sc] 70) := ⟨_, rfl⟩
  have hB1 : Below w.heap.size w w1 := by rw [hw1]; exact below1 _ _
  have kl : Blk w1 w.heap.size 70 [.int .i64 sz, .slice sa sl.length sc] := by rw [hw1]; exact Blk.newA w _ _
  have hbase := h.out.base
  have H1 := hide_ (h.out.later hB1)
  have HK1 : Hid (Kp B w w1) := hide_ (Kp.later hB1)
  have KL1 := hide_ kl
  have HLy := hide_ (lay_any B gr gp gb _ vL C E ⟨39, (ps.length : Int), 0, 0⟩ w1 (by omega) (fun h => by cases h) H1)
  have HSl := hide_ hsl
  have jf := H1.out.fn
  clear kl hB1 h hsl
  go_enter Try.func28, Try.ntmps28
  go_upto_region 1 with fail
  rw [← hw1]
  clear hw1
  go_upto_region 2 with (go_at_call 23; refine HLy.out.mono ?_; rintro e w2 ⟨rfl, HM2, HK2⟩)
  clear HLy jf H1
  have HKa := hide_ (HK1.out.trans HK2.out)
  have KL2 := hide_ (HK2.out.bL KL1.out)
  have hAv := anyV_any sa sc sl w2 (by rw [HSl.out]; omega) (hide_ (HR.out w2 (HKa.out.below hbase)))
  obtain ⟨z, hz⟩ : ∃ z, zfV sl = z := ⟨_, rfl⟩
  rw [hz] at hAv
  have HAv := hide_ hAv
  have HZ := hide_ hz
  clear hz hAv
  have l1 := KL2.out.cell 1
  simp at l1
  go_upto_if 19 with (go_at_call 55; refine HAv.out.mono ?_; rintro e w3 ⟨rfl, hB3⟩)
  have HM3 := hide_ (HM2.out.later hB3)
  have HK3 := hide_ (HKa.out.then hB3)
  have KL3 := hide_ (KL2.out.later hB3)
  clear HAv HM2 HK2 HKa KL1 KL2 hB3 l1 HK1
  go_cut [] from 20 to 28 (fun wc => ∃ w5, w5 = wc ∧ Hid (Rz w5 B gr gp gb (.slice aT T.length cT) vL (C ++ (⟨39, (ps.length : Int), 0, 0⟩ :: (zfH sz z ++ zfB T ps sl 0))) E) ∧ Hid (Kp B w w5) ∧ Hid (Blk w5 w.heap.size 70 [.int .i64 sz, .slice sa sl.length sc]))
  case first =>
    cases z with
    | true =>
      have HLy := hide_ (lay_any B gr gp gb _ vL _ E ⟨42, sz, 0, 0⟩ w3.drew (by rw [List.length_append, List.length_singleton]; omega) (fun h => by cases h) (hide_ (HM3.out.later ((Below.refl _ _).drew))))
      have HSS : Hid (∀ w', Below w3.heap.size w3 w' → (fun w' => w'.cell? ⟨gr, 2, none⟩ = some (.func (.func 23) #[] #[.pointer (some ⟨gb, 0, none⟩)]) ∧ w'.cell? ⟨w.heap.size, 0, none⟩ = some (.int .i64 sz)) w') := hide_ (fun w' hb => ⟨(HM3.out.later hb).fn, by have := (KL3.out.later hb).cell 0; simpa using this⟩)
      go_upto_region 3 with fail
      refine wp_region_last 7 (fun w' => w'.cell? ⟨gr, 2, none⟩ = some (.func (.func 23) #[] #[.pointer (some ⟨gb, 0, none⟩)]) ∧ w'.cell? ⟨w.heap.size, 0, none⟩ = some (.int .i64 sz)) (by kernel_rfl) (HSS.out _ ((Below.refl w3.heap.size w3).drew)) (fun hHeld => ?_)
      refine wpAnyF_take [7, 3, 2, 1] (by kernel_rfl) (i := 0) (v := ?vd1) rfl (by kernel_rfl) (by kernel_rfl) (by kernel_rfl) (fun _ _ _ h => h) (Or.inl ⟨by kernel_rfl, ?hyd1⟩) hHeld ?restd1
      case hyd1 => intro w' hSw; (try dsimp only at hSw); go_simp; try with_reducible rfl
      simp only [Act.put]
      refine wpAnyF_take [7, 3, 2] (by kernel_rfl) (i := 1) (v := ?vd2) rfl (by kernel_rfl) (by kernel_rfl) (by kernel_rfl) (fun _ _ _ h => h) (Or.inl ⟨by kernel_rfl, ?hyd2⟩) hHeld ?restd2
      case hyd2 => intro w' hSw; (try dsimp only at hSw); go_simp; try with_reducible rfl
      simp only [Act.put]
      refine wpAnyF_take [7, 3] (by kernel_rfl) (i := 2) (v := ?vd3) rfl (by kernel_rfl) (by kernel_rfl) (by kernel_rfl) (fun _ _ _ h => h) (Or.inl ⟨by kernel_rfl, ?hyd3⟩) hHeld ?restd3
      case hyd3 => intro w' hSw; (try dsimp only at hSw); go_simp; try with_reducible rfl
      simp only [Act.put]
      refine wpAnyF_take [7] (by kernel_rfl) (i := 3) (v := ?vd4) rfl (by kernel_rfl) (by kernel_rfl) (by kernel_rfl) (fun _ _ _ h => h) (Or.inl ⟨by kernel_rfl, ?hyd4⟩) hHeld ?restd4
      case hyd4 => intro w' hSw; (try dsimp only at hSw); go_simp; try with_reducible rfl
      simp only [Act.put]
      refine wpAnyF_take [7, 6, 5] (by kernel_rfl) (i := 4) (v := ?vd5) rfl (by kernel_rfl) (by kernel_rfl) (by kernel_rfl) (fun _ _ _ h => h) (Or.inl ⟨by kernel_rfl, ?hyd5⟩) hHeld ?restd5
      case hyd5 => intro w' hSw; (try dsimp only at hSw); go_simp; try with_reducible rfl
      simp only [Act.put]
      refine wpAnyF_take [7, 6] (by kernel_rfl) (i := 5) (v := ?vd6) rfl (by kernel_rfl) (by kernel_rfl) (by kernel_rfl) (fun _ _ _ h => h) (Or.inl ⟨by kernel_rfl, ?hyd6⟩) hHeld ?restd6
      case hyd6 => intro w' hSw; (try dsimp only at hSw); go_simp; try with_reducible rfl
      simp only [Act.put]
      refine wpAnyF_take [7] (by kernel_rfl) (i := 6) (v := ?vd7) rfl (by kernel_rfl) (by kernel_rfl) (by kernel_rfl) (fun _ _ _ h => h) (Or.inl ⟨by kernel_rfl, ?hyd7⟩) hHeld ?restd7
      case hyd7 => intro w' hSw; (try dsimp only at hSw); go_simp; try with_reducible rfl
      simp only [Act.put]
      refine wpAnyF_ready (rs := [7]) (by kernel_rfl) (by simp) ?_
      refine AllReadyF.last rfl (fun K hK => ?_)
      go_simp
      refine HLy.out.mono ?_
      rintro e w4 ⟨rfl, HM4, HK4⟩
      dsimp only
      refine hK.out _ _ ?_
      clear hK K
      refine wpAnyF_done (by kernel_rfl) ?_ _
      clear HSS HLy
      have HKf := (Kp.later (B := B) ((Below.refl w3.heap.size w3).drew)).trans HK4.out
      have HKg := hide_ (HK3.out.trans HKf)
      have KL4 := hide_ (HKf.bL KL3.out)
      clear HKf
      go_wp2_with fail
      go_meet
      case rel => exact ⟨_, rfl, hide_ (by have := HM4.out; simpa [layI, hopB, zfB, zfH] using this), HKg, KL4⟩
    | false =>
      go_wp2_with fail
      go_meet
      case rel => exact ⟨_, rfl, hide_ (by have := HM3.out; simpa [layI, hopB, zfB, zfH] using this), HK3, KL3⟩
  case rest =>
  clear HM3 HK3 KL3
  obtain ⟨w5, hw5, HM5, HK5, KL5⟩ := hcut
  subst hw5
  go_wp2_with fail
  go_loopw [30] (fun x30 wr => ∃ (i : Nat), i ≤ ps.length ∧ x30 = .int .i64 (i : Int) ∧ Hid (Rz wr B gr gp gb (.slice aT T.length cT) vL (C ++ (⟨39, (ps.length : Int), 0, 0⟩ :: (zfH sz z ++ zfB T ps sl i))) E) ∧ Hid (Kp B w wr) ∧ Hid (Blk wr w.heap.size 70 [.int .i64 sz, .slice sa sl.length sc])) (fun x30 _ => ps.length - (intOf x30).toNat)
  case atStart => exact ⟨0, Nat.zero_le _, rfl, HM5, HK5, KL5⟩
  case round =>
    obtain ⟨i, hi, rfl, HMq, HKq, KLq⟩ := hrel
    generalize wr = wq at *
    clear HM5 HK5 KL5
    by_cases hlt : i < ps.length
    · have hlt' : (i : Int) < ps.length := by omega
      have hx : ps[i]? = some (ps[i]'hlt) := List.getElem?_eq_getElem hlt
      have hpa := ptA_at hx
      obtain ⟨n, t2, hn1, hn2⟩ := HPt.out i _ hx
      have hnT : (n : Int) < T.length := by have := (List.getElem?_eq_some_iff.1 hn2).1; omega
      have hs : sl[i]? = some (sl[i]'(by rw [HSl.out]; exact hlt)) := List.getElem?_eq_getElem _
      have hsa := slA_at hs
      have hlx : (C ++ (⟨39, (ps.length : Int), 0, 0⟩ :: (zfH sz z ++ zfB T ps sl i))).length ≤ 900300003 := by
        have := (zfB_len T ps sl i).2
        have : (zfH sz z).length ≤ 1 := by unfold zfH; split <;> simp
        simp
        omega
      have HHd := hide_ (zfB_succ T ps sl i)
      rw [hpa, hsa] at HHd
      obtain ⟨bP, oP, rfl, hbP, hcP⟩ := (HP.out wq (HKq.out.below hbase)).open (by omega)
      obtain ⟨bS, oS, rfl, hbS, hcS⟩ := (HR.out wq (HKq.out.below hbase)).open (by rw [HSl.out]; omega)
      have i0 := hcP i _ hx 0 (by decide); have i1 := hcP i _ hx 1 (by decide); have i2 := hcP i _ hx 2 (by decide)
      have s0 := hcS i _ hs 0 (by decide); have s1 := hcS i _ hs 1 (by decide); have s2 := hcS i _ hs 2 (by decide)
      have HT9 := hide_ (HT.out.kp hbase HKq.out)
      have hbq : B ≤ wq.heap.size := Nat.le_trans hbase HKq.out.size
      generalize ps[i]'hlt = p at *
      generalize sl[i]'_ = s at *
      obtain ⟨so, sv, sz2⟩ := s
      simp [ptc] at i0 i1 i2
      simp [slc] at s0 s1 s2
      rw [hn1] at i2
      have hsi : (i : Int) < (sl.length : Int) := by rw [HSl.out]; omega
      have KLx := KLq.out
      have l0 := KLx.cell 0; have l1 := KLx.cell 1
      simp at l0 l1
      have HZO : Hid (zfO T p ⟨so, sv, sz2⟩ = if sv then [⟨43, so, 0, 0⟩, ⟨46, 0, 0, (n : Int)⟩] else [lfP t2 so ⟨44, so, 0, (n : Int)⟩]) := hide_ (by unfold zfO; rw [hn1, tyA_at hn2])
      rw [HZO.out] at HHd
      obtain ⟨wy, hwy⟩ : ∃ wx, wx = wq.alloc (.cells #[.string p.label, .int .i64 p.tag, .int .i64 (n : Int)] 58) := ⟨_, rfl⟩
      have hBy : Below wq.heap.size wq wy := by rw [hwy]; exact below1 _ _
      have kp : Blk wy wq.heap.size 58 [.string p.label, .int .i64 p.tag, .int .i64 (n : Int)] := by rw [hwy]; exact Blk.newA wq _ _
      have hzy : wy.heap.size = wq.heap.size + 1 := by rw [hwy]; simp
      obtain ⟨wx, hwx⟩ : ∃ wx, wx = wy.alloc (.cells #[.int .i64 so, .bool sv, .int .i64 sz2] 77) := ⟨_, rfl⟩
      have hBx : Below wy.heap.size wy wx := by rw [hwx]; exact below1 _ _
      have ks : Blk wx (wq.heap.size + 1) 77 [.int .i64 so, .bool sv, .int .i64 sz2] := by rw [hwx, ← hzy]; exact Blk.newA wy _ _
      have KP := hide_ (kp.later hBx)
      have KS := hide_ ks
      have HMx := hide_ ((HMq.out.later hBy).later hBx)
      have HKx := hide_ ((HKq.out.then hBy).then hBx)
      have KLz := hide_ ((KLq.out.later hBy).later hBx)
      have HTx := hide_ (HT9.out.kp hbq ((Kp.later hBy).then hBx))
      have hbx : B ≤ wx.heap.size := Nat.le_trans hbase HKx.out.size
      have m1 := (KLq.out.later hBy).cell 1
      have s0y := (hBy.cell (p := ⟨bS, oS + i * 3, none⟩) hbS).trans s0
      have s1y := (hBy.cell (p := ⟨bS, oS + i * 3 + 1, none⟩) hbS).trans s1
      have s2y := (hBy.cell (p := ⟨bS, oS + i * 3 + 2, none⟩) hbS).trans s2
      simp at m1
      have t1 := ks.cell 1
      simp at t1
      clear hcP hcS hx hpa hs hsa kp ks hBy hBx HMq HKq KLq KLx HT9 HZO
      go_upto_region 7 with fail
      rw [← hwy]
      clear hwy i0 i1 i2 l0 l1 s0 s1 s2
      go_upto_region 8 with fail
      rw [← hwx]
      try simp only [hzy]
      clear hwx m1 s0y s1y s2y hzy
      cases sv with
      | true =>
        have HLy := hide_ (lay_any B gr gp gb _ vL _ E ⟨43, so, 0, 0⟩ wx.drew (by omega) (fun h => by cases h) (hide_ (HMx.out.later ((Below.refl _ _).drew))))
        have HSS : Hid (∀ w', Below wx.heap.size wx w' → (fun w' => w'.cell? ⟨gr, 2, none⟩ = some (.func (.func 23) #[] #[.pointer (some ⟨gb, 0, none⟩)]) ∧ w'.cell? ⟨wq.heap.size + 1, 0, none⟩ = some (.int .i64 so)) w') := hide_ (fun w' hb => ⟨(HMx.out.later hb).fn, by have := (KS.out.later hb).cell 0; simpa using this⟩)
        go_upto_region 9 with fail
        clear t1
        refine wp_region_last 7 (fun w' => w'.cell? ⟨gr, 2, none⟩ = some (.func (.func 23) #[] #[.pointer (some ⟨gb, 0, none⟩)]) ∧ w'.cell? ⟨wq.heap.size + 1, 0, none⟩ = some (.int .i64 so)) (by kernel_rfl) (HSS.out _ ((Below.refl wx.heap.size wx).drew)) (fun hHeld => ?_)
        refine wpAnyF_take [7, 3, 2, 1] (by kernel_rfl) (i := 0) (v := ?ve1) rfl (by kernel_rfl) (by kernel_rfl) (by kernel_rfl) (fun _ _ _ h => h) (Or.inl ⟨by kernel_rfl, ?hye1⟩) hHeld ?reste1
        case hye1 => intro w' hSw; (try dsimp only at hSw); go_simp; try with_reducible rfl
        simp only [Act.put]
        refine wpAnyF_take [7, 3, 2] (by kernel_rfl) (i := 1) (v := ?ve2) rfl (by kernel_rfl) (by kernel_rfl) (by kernel_rfl) (fun _ _ _ h => h) (Or.inl ⟨by kernel_rfl, ?hye2⟩) hHeld ?reste2
        case hye2 => intro w' hSw; (try dsimp only at hSw); go_simp; try with_reducible rfl
        simp only [Act.put]
        refine wpAnyF_take [7, 3] (by kernel_rfl) (i := 2) (v := ?ve3) rfl (by kernel_rfl) (by kernel_rfl) (by kernel_rfl) (fun _ _ _ h => h) (Or.inl ⟨by kernel_rfl, ?hye3⟩) hHeld ?reste3
        case hye3 => intro w' hSw; (try dsimp only at hSw); go_simp; try with_reducible rfl
        simp only [Act.put]
        refine wpAnyF_take [7] (by kernel_rfl) (i := 3) (v := ?ve4) rfl (by kernel_rfl) (by kernel_rfl) (by kernel_rfl) (fun _ _ _ h => h) (Or.inl ⟨by kernel_rfl, ?hye4⟩) hHeld ?reste4
        case hye4 => intro w' hSw; (try dsimp only at hSw); go_simp; try with_reducible rfl
        simp only [Act.put]
        refine wpAnyF_take [7, 6, 5] (by kernel_rfl) (i := 4) (v := ?ve5) rfl (by kernel_rfl) (by kernel_rfl) (by kernel_rfl) (fun _ _ _ h => h) (Or.inl ⟨by kernel_rfl, ?hye5⟩) hHeld ?reste5
        case hye5 => intro w' hSw; (try dsimp only at hSw); go_simp; try with_reducible rfl
        simp only [Act.put]
        refine wpAnyF_take [7, 6] (by kernel_rfl) (i := 5) (v := ?ve6) rfl (by kernel_rfl) (by kernel_rfl) (by kernel_rfl) (fun _ _ _ h => h) (Or.inl ⟨by kernel_rfl, ?hye6⟩) hHeld ?reste6
        case hye6 => intro w' hSw; (try dsimp only at hSw); go_simp; try with_reducible rfl
        simp only [Act.put]
        refine wpAnyF_take [7] (by kernel_rfl) (i := 6) (v := ?ve7) rfl (by kernel_rfl) (by kernel_rfl) (by kernel_rfl) (fun _ _ _ h => h) (Or.inl ⟨by kernel_rfl, ?hye7⟩) hHeld ?reste7
        case hye7 => intro w' hSw; (try dsimp only at hSw); go_simp; try with_reducible rfl
        simp only [Act.put]
        refine wpAnyF_ready (rs := [7]) (by kernel_rfl) (by simp) ?_
        refine AllReadyF.last rfl (fun K hK => ?_)
        go_simp
        refine HLy.out.mono ?_
        rintro e w4 ⟨rfl, HM4, HK4⟩
        dsimp only
        refine hK.out _ _ ?_
        clear hK K
        refine wpAnyF_done (by kernel_rfl) ?_ _
        clear HSS HLy
        have hKf := (Kp.later (B := B) ((Below.refl wx.heap.size wx).drew)).trans HK4.out
        have HKg := hide_ (HKx.out.trans hKf)
        have KP4 := hide_ (hKf.bP KP.out)
        have KL4 := hide_ (hKf.bL KLz.out)
        clear hKf KP KLz HMx HKx KS
        have HLy := hide_ (lay_any B gr gp gb _ vL _ E ⟨46, 0, 0, (n : Int)⟩ w4.drew (by rw [List.length_append, List.length_singleton]; omega) (fun h => by cases h) (hide_ (HM4.out.later ((Below.refl _ _).drew))))
        have HSS : Hid (∀ w', Below w4.heap.size w4 w' → (fun w' => w'.cell? ⟨gr, 2, none⟩ = some (.func (.func 23) #[] #[.pointer (some ⟨gb, 0, none⟩)]) ∧ w'.cell? ⟨wq.heap.size, 2, none⟩ = some (.int .i64 (n : Int))) w') := hide_ (fun w' hb => ⟨(HM4.out.later hb).fn, by have := (KP4.out.later hb).cell 2; simpa using this⟩)
        go_upto_region 10 with fail
        refine wp_region_last 7 (fun w' => w'.cell? ⟨gr, 2, none⟩ = some (.func (.func 23) #[] #[.pointer (some ⟨gb, 0, none⟩)]) ∧ w'.cell? ⟨wq.heap.size, 2, none⟩ = some (.int .i64 (n : Int))) (by kernel_rfl) (HSS.out _ ((Below.refl w4.heap.size w4).drew)) (fun hHeld => ?_)
        refine wpAnyF_take [7, 3, 2, 1] (by kernel_rfl) (i := 0) (v := ?vf1) rfl (by kernel_rfl) (by kernel_rfl) (by kernel_rfl) (fun _ _ _ h => h) (Or.inl ⟨by kernel_rfl, ?hyf1⟩) hHeld ?restf1
        case hyf1 => intro w' hSw; (try dsimp only at hSw); go_simp; try with_reducible rfl
        simp only [Act.put]
        refine wpAnyF_take [7, 3, 2] (by kernel_rfl) (i := 1) (v := ?vf2) rfl (by kernel_rfl) (by kernel_rfl) (by kernel_rfl) (fun _ _ _ h => h) (Or.inl ⟨by kernel_rfl, ?hyf2⟩) hHeld ?restf2
        case hyf2 => intro w' hSw; (try dsimp only at hSw); go_simp; try with_reducible rfl
        simp only [Act.put]
        refine wpAnyF_take [7, 3] (by kernel_rfl) (i := 2) (v := ?vf3) rfl (by kernel_rfl) (by kernel_rfl) (by kernel_rfl) (fun _ _ _ h => h) (Or.inl ⟨by kernel_rfl, ?hyf3⟩) hHeld ?restf3
        case hyf3 => intro w' hSw; (try dsimp only at hSw); go_simp; try with_reducible rfl
        simp only [Act.put]
        refine wpAnyF_take [7] (by kernel_rfl) (i := 3) (v := ?vf4) rfl (by kernel_rfl) (by kernel_rfl) (by kernel_rfl) (fun _ _ _ h => h) (Or.inl ⟨by kernel_rfl, ?hyf4⟩) hHeld ?restf4
        case hyf4 => intro w' hSw; (try dsimp only at hSw); go_simp; try with_reducible rfl
        simp only [Act.put]
        refine wpAnyF_take [7, 6, 5] (by kernel_rfl) (i := 4) (v := ?vf5) rfl (by kernel_rfl) (by kernel_rfl) (by kernel_rfl) (fun _ _ _ h => h) (Or.inl ⟨by kernel_rfl, ?hyf5⟩) hHeld ?restf5
        case hyf5 => intro w' hSw; (try dsimp only at hSw); go_simp; try with_reducible rfl
        simp only [Act.put]
        refine wpAnyF_take [7, 6] (by kernel_rfl) (i := 5) (v := ?vf6) rfl (by kernel_rfl) (by kernel_rfl) (by kernel_rfl) (fun _ _ _ h => h) (Or.inl ⟨by kernel_rfl, ?hyf6⟩) hHeld ?restf6
        case hyf6 => intro w' hSw; (try dsimp only at hSw); go_simp; try with_reducible rfl
        simp only [Act.put]
        refine wpAnyF_take [7] (by kernel_rfl) (i := 6) (v := ?vf7) rfl (by kernel_rfl) (by kernel_rfl) (by kernel_rfl) (fun _ _ _ h => h) (Or.inl ⟨by kernel_rfl, ?hyf7⟩) hHeld ?restf7
        case hyf7 => intro w' hSw; (try dsimp only at hSw); go_simp; try with_reducible rfl
        simp only [Act.put]
        refine wpAnyF_ready (rs := [7]) (by kernel_rfl) (by simp) ?_
        refine AllReadyF.last rfl (fun K hK => ?_)
        go_simp
        refine HLy.out.mono ?_
        rintro e w5 ⟨rfl, HM5, HK5⟩
        dsimp only
        refine hK.out _ _ ?_
        clear hK K
        refine wpAnyF_done (by kernel_rfl) ?_ _
        clear HSS HLy
        have hKf := (Kp.later (B := B) ((Below.refl w4.heap.size w4).drew)).trans HK5.out
        have HKh := hide_ (HKg.out.trans hKf)
        have KL5 := hide_ (hKf.bL KL4.out)
        clear hKf
        go_wp2_with fail
        go_roundw
        case rel => exact ⟨i + 1, by omega, by go_num, hide_ (by
          rw [HHd.out]
          have := HM5.out
          simpa [layI, hopB] using this), HKh, KL5⟩
        case measure => simp [intOf]; omega
      | false =>
        obtain ⟨bT, oT, va2, vc2, rfl, -, -, htc⟩ := HTx.out n t2 hn2
        obtain ⟨k2, n2, e2, ps2⟩ := t2
        have hll := lfL_len ⟨k2, n2, e2, ps2⟩ so
        generalize hCC : C ++ (⟨39, (ps.length : Int), 0, 0⟩ :: (zfH sz z ++ zfB T ps sl i)) = CC at *
        have HCC := hide_ hCC
        have HLf := hide_ (leaf_any B gr gp gb _ vL CC E so k2 n2 e2 ps2 va2 vc2 wx.drew (by omega) (hide_ (HMx.out.later ((Below.refl _ _).drew))))
        have hSt : ∀ w', Rz w' B gr gp gb (.slice (some ⟨bT, oT, none⟩) T.length cT) vL CC E ∨ Rz w' B gr gp gb (.slice (some ⟨bT, oT, none⟩) T.length cT) vL (CC ++ lfL ⟨k2, n2, e2, ps2⟩ so) E → Kp B wx w' → (fun w' => w'.cell? ⟨gr, 0, none⟩ = some (.slice (some ⟨bT, oT, none⟩) T.length cT) ∧ w'.cell? ⟨wq.heap.size + 1, 0, none⟩ = some (.int .i64 so) ∧ w'.cell? ⟨wq.heap.size, 2, none⟩ = some (.int .i64 (n : Int)) ∧ w'.cell? ⟨bT, oT + n * 4, none⟩ = some (.int .i64 k2) ∧ w'.cell? ⟨bT, oT + n * 4 + 1, none⟩ = some (.int .i64 n2) ∧ w'.cell? ⟨bT, oT + n * 4 + 2, none⟩ = some (.int .i64 e2) ∧ w'.cell? ⟨bT, oT + n * 4 + 3, none⟩ = some (.slice va2 ps2.length vc2)) w' := fun w' hr hk => by
          obtain ⟨hcc, -⟩ := htc w' (hk.below hbx)
          have i0 := hcc 0 (by decide); have i1 := hcc 1 (by decide); have i2 := hcc 2 (by decide); have i3 := hcc 3 (by decide)
          simp [tyc] at i0 i1 i2 i3
          have hg : w'.cell? ⟨gr, 0, none⟩ = some (.slice (some ⟨bT, oT, none⟩) T.length cT) := by
            rcases hr with hr | hr
            · have := hr.br.cell 0; simpa using this
            · have := hr.br.cell 0; simpa using this
          have hg2 := (hk.bP KP.out).cell 2
          have hg3 := (hk.bS KS.out).cell 0
          simp at hg2 hg3
          exact ⟨hg, hg3, hg2, i0, i1, i2, i3⟩
        have HSS : Hid (∀ w', Below wx.heap.size wx w' → (fun w' => w'.cell? ⟨gr, 0, none⟩ = some (.slice (some ⟨bT, oT, none⟩) T.length cT) ∧ w'.cell? ⟨wq.heap.size + 1, 0, none⟩ = some (.int .i64 so) ∧ w'.cell? ⟨wq.heap.size, 2, none⟩ = some (.int .i64 (n : Int)) ∧ w'.cell? ⟨bT, oT + n * 4, none⟩ = some (.int .i64 k2) ∧ w'.cell? ⟨bT, oT + n * 4 + 1, none⟩ = some (.int .i64 n2) ∧ w'.cell? ⟨bT, oT + n * 4 + 2, none⟩ = some (.int .i64 e2) ∧ w'.cell? ⟨bT, oT + n * 4 + 3, none⟩ = some (.slice va2 ps2.length vc2)) w') := hide_ (fun w' hb => hSt w' (.inl (HMx.out.later hb)) (Kp.later hb))
        have HSA : Hid (∀ w', Rz w' B gr gp gb (.slice (some ⟨bT, oT, none⟩) T.length cT) vL (CC ++ lfL ⟨k2, n2, e2, ps2⟩ so) E → Kp B wx.drew w' → (fun w' => w'.cell? ⟨gr, 0, none⟩ = some (.slice (some ⟨bT, oT, none⟩) T.length cT) ∧ w'.cell? ⟨wq.heap.size + 1, 0, none⟩ = some (.int .i64 so) ∧ w'.cell? ⟨wq.heap.size, 2, none⟩ = some (.int .i64 (n : Int)) ∧ w'.cell? ⟨bT, oT + n * 4, none⟩ = some (.int .i64 k2) ∧ w'.cell? ⟨bT, oT + n * 4 + 1, none⟩ = some (.int .i64 n2) ∧ w'.cell? ⟨bT, oT + n * 4 + 2, none⟩ = some (.int .i64 e2) ∧ w'.cell? ⟨bT, oT + n * 4 + 3, none⟩ = some (.slice va2 ps2.length vc2)) w') := hide_ (fun w' hr hk => hSt w' (.inr hr) ((Kp.later ((Below.refl wx.heap.size wx).drew)).trans hk))
        clear hSt htc HTx hCC
        go_upto_region 11 with fail
        clear t1
        refine wp_region_last 12 (fun w' => w'.cell? ⟨gr, 0, none⟩ = some (.slice (some ⟨bT, oT, none⟩) T.length cT) ∧ w'.cell? ⟨wq.heap.size + 1, 0, none⟩ = some (.int .i64 so) ∧ w'.cell? ⟨wq.heap.size, 2, none⟩ = some (.int .i64 (n : Int)) ∧ w'.cell? ⟨bT, oT + n * 4, none⟩ = some (.int .i64 k2) ∧ w'.cell? ⟨bT, oT + n * 4 + 1, none⟩ = some (.int .i64 n2) ∧ w'.cell? ⟨bT, oT + n * 4 + 2, none⟩ = some (.int .i64 e2) ∧ w'.cell? ⟨bT, oT + n * 4 + 3, none⟩ = some (.slice va2 ps2.length vc2)) (by kernel_rfl) (HSS.out _ ((Below.refl wx.heap.size wx).drew)) (fun hHeld => ?_)
        refine wpAnyF_take [12, 11] (by kernel_rfl) (i := 0) (v := ?vg1) rfl (by kernel_rfl) (by kernel_rfl) (by kernel_rfl) (fun _ _ _ h => h) (Or.inl ⟨by kernel_rfl, ?hyg1⟩) hHeld ?restg1
        case hyg1 => intro w' hSw; (try dsimp only at hSw); go_simp; try with_reducible rfl
        simp only [Act.put]
        refine wpAnyF_take [12, 11, 2] (by kernel_rfl) (i := 1) (v := ?vg2) rfl (by kernel_rfl) (by kernel_rfl) (by kernel_rfl) (fun _ _ _ h => h) (Or.inl ⟨by kernel_rfl, ?hyg2⟩) hHeld ?restg2
        case hyg2 => intro w' hSw; (try dsimp only at hSw); go_simp; try with_reducible rfl
        simp only [Act.put]
        refine wpAnyF_take [12, 11] (by kernel_rfl) (i := 2) (v := ?vg3) rfl (by kernel_rfl) (by kernel_rfl) (by kernel_rfl) (fun _ _ _ h => h) (Or.inl ⟨by kernel_rfl, ?hyg3⟩) hHeld ?restg3
        case hyg3 => intro w' hSw; (try dsimp only at hSw); go_simp; try with_reducible rfl
        simp only [Act.put]
        refine wpAnyF_take [12, 11, 10, 9, 6, 5, 4] (by kernel_rfl) (i := 3) (v := ?vg4) rfl (by kernel_rfl) (by kernel_rfl) (by kernel_rfl) (fun _ _ _ h => h) (Or.inl ⟨by kernel_rfl, ?hyg4⟩) hHeld ?restg4
        case hyg4 => intro w' hSw; (try dsimp only at hSw); go_simp; try with_reducible rfl
        simp only [Act.put]
        refine wpAnyF_take [12, 11, 10, 9, 6, 5] (by kernel_rfl) (i := 4) (v := ?vg5) rfl (by kernel_rfl) (by kernel_rfl) (by kernel_rfl) (fun _ _ _ h => h) (Or.inl ⟨by kernel_rfl, ?hyg5⟩) hHeld ?restg5
        case hyg5 => intro w' hSw; (try dsimp only at hSw); go_simp; try with_reducible rfl
        simp only [Act.put]
        refine wpAnyF_take [12, 11, 10, 9, 6] (by kernel_rfl) (i := 5) (v := ?vg6) rfl (by kernel_rfl) (by kernel_rfl) (by kernel_rfl) (fun _ _ _ h => h) (Or.inl ⟨by kernel_rfl, ?hyg6⟩) hHeld ?restg6
        case hyg6 => intro w' hSw; (try dsimp only at hSw); go_simp; try with_reducible rfl
        simp only [Act.put]
        refine wpAnyF_take [12, 11, 10, 9] (by kernel_rfl) (i := 6) (v := ?vg7) rfl (by kernel_rfl) (by kernel_rfl) (by kernel_rfl) (fun _ _ _ h => h) (Or.inl ⟨by kernel_rfl, ?hyg7⟩) hHeld ?restg7
        case hyg7 => intro w' hSw; (try dsimp only at hSw); go_simp; try with_reducible rfl
        simp only [Act.put]
        refine wpAnyF_take [12, 11, 10, 9, 8] (by kernel_rfl) (i := 7) (v := ?vg8) rfl (by kernel_rfl) (by kernel_rfl) (by kernel_rfl) (fun _ _ _ h => h) (Or.inl ⟨by kernel_rfl, ?hyg8⟩) hHeld ?restg8
        case hyg8 => intro w' hSw; (try dsimp only at hSw); go_simp; try with_reducible rfl
        simp only [Act.put]
        refine wpAnyF_take [12, 11, 10, 9] (by kernel_rfl) (i := 8) (v := ?vg9) rfl (by kernel_rfl) (by kernel_rfl) (by kernel_rfl) (fun _ _ _ h => h) (Or.inl ⟨by kernel_rfl, ?hyg9⟩) hHeld ?restg9
        case hyg9 => intro w' hSw; (try dsimp only at hSw); go_simp; try with_reducible rfl
        simp only [Act.put]
        refine wpAnyF_take [12, 11, 10] (by kernel_rfl) (i := 9) (v := ?vg10) rfl (by kernel_rfl) (by kernel_rfl) (by kernel_rfl) (fun _ _ _ h => h) (Or.inl ⟨by kernel_rfl, ?hyg10⟩) hHeld ?restg10
        case hyg10 => intro w' hSw; (try dsimp only at hSw); go_simp; try with_reducible rfl
        simp only [Act.put]
        refine wpAnyF_take [12, 11] (by kernel_rfl) (i := 10) (v := ?vg11) rfl (by kernel_rfl) (by kernel_rfl) (by kernel_rfl) (fun _ _ _ h => h) (Or.inl ⟨by kernel_rfl, ?hyg11⟩) hHeld ?restg11
        case hyg11 => intro w' hSw; (try dsimp only at hSw); go_simp; try with_reducible rfl
        simp only [Act.put]
        refine wpAnyF_ready (rs := [11]) (by kernel_rfl) (by simp) ?_
        refine AllReadyF.cons rfl (fun K hK => ?_) AllReadyF.nil
        go_simp
        refine HLf.out.mono ?_
        rintro e w4 ⟨rfl, HM4, HK4⟩
        dsimp only
        refine hK.out _ _ (HSA.out _ HM4.out HK4.out) (fun hHeld => ?_)
        clear hK K
        refine wpAnyF_ready (rs := [12]) (by kernel_rfl) (by simp) ?_
        refine AllReadyF.last rfl (fun K hK => ?_)
        go_simp
        refine hK.out _ _ ?_
        clear hK K
        refine wpAnyF_done (by kernel_rfl) ?_ _
        clear HSS HSA HLf
        have hKf := (Kp.later (B := B) ((Below.refl wx.heap.size wx).drew)).trans HK4.out
        have HKg := hide_ (HKx.out.trans hKf)
        have KP4 := hide_ (hKf.bP KP.out)
        have KS4 := hide_ (hKf.bS KS.out)
        have KL4 := hide_ (hKf.bL KLz.out)
        clear hKf KP KLz HMx HKx KS HK4
        cases hL : isLf ⟨k2, n2, e2, ps2⟩ with
        | true =>
          have HLe : Hid (lfL ⟨k2, n2, e2, ps2⟩ so = [lfP ⟨k2, n2, e2, ps2⟩ so ⟨44, so, 0, (n : Int)⟩]) := hide_ (by unfold lfL; rw [if_pos hL, lfP_any hL so in0 ⟨44, so, 0, (n : Int)⟩])
          clear hL
          go_wp2_with fail
          go_roundw
          case rel => exact ⟨i + 1, by omega, by go_num, hide_ (by
            rw [HHd.out]
            have := HM4.out
            rw [HLe.out, ← HCC.out] at this
            simpa using this), HKg, KL4⟩
          case measure => simp [intOf]; omega
        | false =>
          have HLe : Hid (lfP ⟨k2, n2, e2, ps2⟩ so ⟨44, so, 0, (n : Int)⟩ = ⟨44, so, 0, (n : Int)⟩ ∧ lfL ⟨k2, n2, e2, ps2⟩ so = []) := hide_ ⟨lfP_no hL _ _, by unfold lfL; rw [hL]; rfl⟩
          have HLy := hide_ (lay_any B gr gp gb _ vL _ E ⟨44, so, 0, (n : Int)⟩ w4.drew (by rw [List.length_append]; omega) (fun h => by cases h) (hide_ (HM4.out.later ((Below.refl _ _).drew))))
          have HSS : Hid (∀ w', Below w4.heap.size w4 w' → (fun w' => w'.cell? ⟨gr, 2, none⟩ = some (.func (.func 23) #[] #[.pointer (some ⟨gb, 0, none⟩)]) ∧ w'.cell? ⟨wq.heap.size + 1, 0, none⟩ = some (.int .i64 so) ∧ w'.cell? ⟨wq.heap.size, 2, none⟩ = some (.int .i64 (n : Int))) w') := hide_ (fun w' hb => ⟨(HM4.out.later hb).fn, by have := (KS4.out.later hb).cell 0; simpa using this, by have := (KP4.out.later hb).cell 2; simpa using this⟩)
          clear hL
          go_upto_region 12 with fail
          refine wp_region_last 9 (fun w' => w'.cell? ⟨gr, 2, none⟩ = some (.func (.func 23) #[] #[.pointer (some ⟨gb, 0, none⟩)]) ∧ w'.cell? ⟨wq.heap.size + 1, 0, none⟩ = some (.int .i64 so) ∧ w'.cell? ⟨wq.heap.size, 2, none⟩ = some (.int .i64 (n : Int))) (by kernel_rfl) (HSS.out _ ((Below.refl w4.heap.size w4).drew)) (fun hHeld => ?_)
          refine wpAnyF_take [9, 3, 2, 1] (by kernel_rfl) (i := 0) (v := ?vh1) rfl (by kernel_rfl) (by kernel_rfl) (by kernel_rfl) (fun _ _ _ h => h) (Or.inl ⟨by kernel_rfl, ?hyh1⟩) hHeld ?resth1
          case hyh1 => intro w' hSw; (try dsimp only at hSw); go_simp; try with_reducible rfl
          simp only [Act.put]
          refine wpAnyF_take [9, 3, 2] (by kernel_rfl) (i := 1) (v := ?vh2) rfl (by kernel_rfl) (by kernel_rfl) (by kernel_rfl) (fun _ _ _ h => h) (Or.inl ⟨by kernel_rfl, ?hyh2⟩) hHeld ?resth2
          case hyh2 => intro w' hSw; (try dsimp only at hSw); go_simp; try with_reducible rfl
          simp only [Act.put]
          refine wpAnyF_take [9, 3] (by kernel_rfl) (i := 2) (v := ?vh3) rfl (by kernel_rfl) (by kernel_rfl) (by kernel_rfl) (fun _ _ _ h => h) (Or.inl ⟨by kernel_rfl, ?hyh3⟩) hHeld ?resth3
          case hyh3 => intro w' hSw; (try dsimp only at hSw); go_simp; try with_reducible rfl
          simp only [Act.put]
          refine wpAnyF_take [9] (by kernel_rfl) (i := 3) (v := ?vh4) rfl (by kernel_rfl) (by kernel_rfl) (by kernel_rfl) (fun _ _ _ h => h) (Or.inl ⟨by kernel_rfl, ?hyh4⟩) hHeld ?resth4
          case hyh4 => intro w' hSw; (try dsimp only at hSw); go_simp; try with_reducible rfl
          simp only [Act.put]
          refine wpAnyF_take [9, 8, 5] (by kernel_rfl) (i := 4) (v := ?vh5) rfl (by kernel_rfl) (by kernel_rfl) (by kernel_rfl) (fun _ _ _ h => h) (Or.inl ⟨by kernel_rfl, ?hyh5⟩) hHeld ?resth5
          case hyh5 => intro w' hSw; (try dsimp only at hSw); go_simp; try with_reducible rfl
          simp only [Act.put]
          refine wpAnyF_take [9, 8] (by kernel_rfl) (i := 5) (v := ?vh6) rfl (by kernel_rfl) (by kernel_rfl) (by kernel_rfl) (fun _ _ _ h => h) (Or.inl ⟨by kernel_rfl, ?hyh6⟩) hHeld ?resth6
          case hyh6 => intro w' hSw; (try dsimp only at hSw); go_simp; try with_reducible rfl
          simp only [Act.put]
          refine wpAnyF_take [9, 8, 7] (by kernel_rfl) (i := 6) (v := ?vh7) rfl (by kernel_rfl) (by kernel_rfl) (by kernel_rfl) (fun _ _ _ h => h) (Or.inl ⟨by kernel_rfl, ?hyh7⟩) hHeld ?resth7
          case hyh7 => intro w' hSw; (try dsimp only at hSw); go_simp; try with_reducible rfl
          simp only [Act.put]
          refine wpAnyF_take [9, 8] (by kernel_rfl) (i := 7) (v := ?vh8) rfl (by kernel_rfl) (by kernel_rfl) (by kernel_rfl) (fun _ _ _ h => h) (Or.inl ⟨by kernel_rfl, ?hyh8⟩) hHeld ?resth8
          case hyh8 => intro w' hSw; (try dsimp only at hSw); go_simp; try with_reducible rfl
          simp only [Act.put]
          refine wpAnyF_take [9] (by kernel_rfl) (i := 8) (v := ?vh9) rfl (by kernel_rfl) (by kernel_rfl) (by kernel_rfl) (fun _ _ _ h => h) (Or.inl ⟨by kernel_rfl, ?hyh9⟩) hHeld ?resth9
          case hyh9 => intro w' hSw; (try dsimp only at hSw); go_simp; try with_reducible rfl
          simp only [Act.put]
          refine wpAnyF_ready (rs := [9]) (by kernel_rfl) (by simp) ?_
          refine AllReadyF.last rfl (fun K hK => ?_)
          go_simp
          refine HLy.out.mono ?_
          rintro e w5 ⟨rfl, HM5, HK5⟩
          dsimp only
          refine hK.out _ _ ?_
          clear hK K
          refine wpAnyF_done (by kernel_rfl) ?_ _
          clear HSS HLy
          have hKf := (Kp.later (B := B) ((Below.refl w4.heap.size w4).drew)).trans HK5.out
          have HKh := hide_ (HKg.out.trans hKf)
          have KL5 := hide_ (hKf.bL KL4.out)
          clear hKf
          go_wp2_with fail
          go_roundw
          case rel => exact ⟨i + 1, by omega, by go_num, hide_ (by
            rw [HHd.out, HLe.out.1]
            have := HM5.out
            rw [HLe.out.2, ← HCC.out] at this
            simpa [layI, hopB] using this), HKh, KL5⟩
          case measure => simp [intOf]; omega
    · obtain rfl : i = ps.length := by omega
      go_wp2_with fail
      go_end0
      exact ⟨rfl, hide_ (by have := HMq.out; unfold zfP; rw [HZ.out]; exact this), HKq⟩
end Go.Proofs.Ytncndgfaalojpaa
