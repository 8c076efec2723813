/- The document's Picks. -/
import Derived.Test.YtegejchamojfgaaDoorPg
namespace Go.Proofs.YtegejchamojfgaaDoor
open Go.RowKit
set_option linter.unusedVariables false

theorem wrap_eq (n : Int) : IntKind.i64.wrap n = wrap64 n := by
  rw [IntKind.wrap_i64]
  unfold wrap64
  omega
set_option maxRecDepth 100000 in
set_option maxHeartbeats 8000000 in
theorem picks_any (bT oT cT : Nat) (T : List Ty) (aR : Option Addr) (cR : Nat) (R : List Rt) (t0 : Int) (bV oV cV : Nat) (V : List Nv) (w : World) (nums : List Int) (hn : T.length ≤ 1000000000) (hm : R.length ≤ 10000000000000) (hV0 : 0 < V.length) (hV : V.length ≤ 2000000) (hS : Hid (OkS T R)) (hL : Hid (LensT T)) (hT : Hid (TRow w (some ⟨bT, oT, none⟩) T)) (hRr : Hid (RRow w aR R)) (hVr : Hid (VRow w (some ⟨bV, oV, none⟩) V)) (hNv : Hid (∀ x ∈ V, NvOk x))
    (hty : Hid (tyV T R t0 V = (nums, 0, 0))) (hnl : Hid (nums.length = V.length)) (hin : Hid (∀ s ∈ nums, 0 ≤ s ∧ s < T.length)) (hfit : Hid (∀ (i : Nat) (s : Int) (x : Nv), nums[i]? = some s → V[i]? = some x → misP (T.getD s.toNat ty0) x = 0)) :
    Calls Tryd.prog 26 #[.agg #[.slice (some ⟨bT, oT, none⟩) T.length cT, .slice aR R.length cR], .int .i64 t0, .slice (some ⟨bV, oV, none⟩) V.length cV] w fun e w' => ∃ v, e = .returned v ∧ Hid (IOwn w' w.heap.size v (picksL T nums V)) ∧ Hid (Below w.heap.size w w') := by
  obtain ⟨w0, hw0⟩ : ∃ wx, wx = w.alloc (.cells #[.slice (some ⟨bT, oT, none⟩) T.length cT, .slice aR R.length cR] 25) := ⟨_, rfl⟩
  have b0' : Below w.heap.size w w0 := by rw [hw0]; exact below1 _ _
  have k0 : Blk w0 w.heap.size 25 [.slice (some ⟨bT, oT, none⟩) T.length cT, .slice aR R.length cR] := by rw [hw0]; exact Blk.newA w _ _
  have HB0 := hide_ b0'
  have K0 := hide_ k0
  have i0 := k0.cell 0; have i1 := k0.cell 1
  simp at i0 i1
  have hz0 : w.heap.size < w0.heap.size := k0.lt
  have HTy := hide_ (types11_any (some ⟨bT, oT, none⟩) cT T aR cR R t0 (some ⟨bV, oV, none⟩) cV V w0 hn hm hV hL (hide_ (hT.out.later b0')) (hide_ (hRr.out.later b0')) (hide_ (hVr.out.later b0')) hNv)
  rw [hty.out] at HTy
  obtain ⟨L, hLd⟩ : ∃ L, picksL T nums V = L := ⟨_, rfl⟩
  have HLd := hide_ hLd
  have HLn : Hid (L.length = V.length) := hide_ (by rw [← hLd]; exact picksL_len hnl.out)
  rw [hLd]
  clear b0' k0 hLd
  go_enter Tryd.func26, Tryd.ntmps26
  go_upto_region 1 with fail
  rw [← hw0]
  clear hw0
  go_wp2_with fail
  refine HTy.out.mono ?_
  rintro e w1 ⟨vN, rfl, HN1, HB1⟩
  simp only at HN1 ⊢
  have hz1 : w0.heap.size ≤ w1.heap.size := HB1.out.size
  obtain ⟨gN, cN, -, eN, -, -, -, -, -, -⟩ := ownS_blk HN1.out (by have := hnl.out; omega)
  have hnlen : nums.length = V.length := hnl.out
  rw [hnlen] at eN
  subst eN
  obtain ⟨w2, hw2⟩ : ∃ wx, wx = w1.alloc (.cells #[.int .i64 0, .int .i64 0] 40) := ⟨_, rfl⟩
  have b2' : Below w1.heap.size w1 w2 := by rw [hw2]; exact below1 _ _
  have HB02 := hide_ (below_to HB1.out b2')
  have HBw2 := hide_ (below_to HB0.out HB02.out)
  have HN2 := hide_ (HN1.out.later b2')
  have K2 := hide_ (K0.out.later HB02.out)
  have hz2 : w.heap.size ≤ w2.heap.size := HBw2.out.size
  clear b2' HN1 i0 i1 HTy hnlen
  go_upto_region 2 with fail
  rw [← hw2]
  clear hw2
  go_wp2_with fail
  go_loopw [9, 10] (fun x9 x10 wr => ∃ (v9 : Value) (i : Nat), v9 = x9 ∧ x10 = .int .i64 (i : Int) ∧ i ≤ V.length ∧ Hid (IOwn wr w2.heap.size v9 (L.take i)) ∧ Hid (Below w2.heap.size w2 wr)) (fun _ x10 _ => V.length - (intOf x10).toNat)
  case atStart => exact ⟨_, 0, rfl, rfl, Nat.zero_le _, hide_ (IOwn.nil _ _), hide_ (Below.refl _ _)⟩
  case round =>
    obtain ⟨v9, i, rfl, rfl, hi, HO, HB⟩ := hrel
    generalize wr = wq at *
    by_cases hlt : i < V.length
    · have hlt' : (i : Int) < V.length := by omega
      have hxV : V[i]? = some (V[i]'hlt) := List.getElem?_eq_getElem hlt
      have hsN : nums[i]? = some (nums[i]'(by have := hnl.out; omega)) := List.getElem?_eq_getElem (by have := hnl.out; omega)
      obtain ⟨s0, s1⟩ := hin.out _ (List.mem_of_getElem? hsN)
      have hmis := hfit.out i _ _ hsN hxV
      have HLi := hide_ (picksL_at (T := T) hsN hxV)
      rw [HLd.out] at HLi
      have hNc := (HN2.out.later HB.out).at (i := i) (by have := hnl.out; omega)
      rw [show nums.getD i 0 = nums[i]'(by have := hnl.out; omega) by simp [List.getD, hsN]] at hNc
      generalize nums[i]'(by have := hnl.out; omega) = s at *
      obtain ⟨sn, rfl⟩ := Int.eq_ofNat_of_zero_le s0
      have hsn : sn < T.length := by omega
      have hsn' : (sn : Int) < T.length := s1
      rw [Int.toNat_natCast] at hmis HLi
      have hok := hS.out.ty sn hsn
      have htS : T[sn]? = some (T[sn]'hsn) := List.getElem?_eq_getElem hsn
      rw [show T.getD sn ty0 = T[sn]'hsn by simp [List.getD, hsn]] at hok hmis HLi
      obtain ⟨_, _, e3, hbT, hcT⟩ := hT.out.open (by omega)
      injection e3 with e3
      injection e3 with e4 e5 _
      subst e4 e5
      obtain ⟨va, vc, hty', hvc, -, hpr⟩ := hcT sn _ htS
      obtain ⟨_, _, e6, hbV, hcV⟩ := hVr.out.open (by omega)
      injection e6 with e6
      injection e6 with e7 e8 _
      subst e7 e8
      have hnd := hcV i _ hxV
      have hnv := hNv.out _ (List.mem_of_getElem? hxV)
      generalize T[sn]'hsn = t at *
      generalize V[i]'hlt = x at *
      have HArm : Hid (t.k = 7 → ∃ m p, armI t.ps x.n = some m ∧ t.ps[m]? = some p ∧ p.tag = x.n) := hide_ (fun h => misP_arm hmis h)
      have HTags : Hid (t.k = 7 → ∀ p ∈ t.ps, 0 ≤ p.tag ∧ p.tag ≤ 255) := hide_ (fun h => by
        obtain ⟨k, n, el, ps⟩ := t
        simp only at h
        subst h
        exact tyOk_tags hok)
      have hkind := tyOk_kind hok
      have hpl := tyOk_len hok
      have HBq := hide_ (HBw2.out.trans (HB.out.mono hz2))
      have hzq : w2.heap.size ≤ wq.heap.size := HB.out.size
      have HSS : Hid (∀ w', Below wq.heap.size wq w' → (fun w' => Below wq.heap.size wq w' ∧ w'.cell? ⟨w.heap.size, 0, none⟩ = some (.slice (some ⟨bT, oT, none⟩) T.length cT) ∧ w'.cell? ⟨gN, i, none⟩ = some (.int .i64 (sn : Int)) ∧ w'.cell? ⟨bT, oT + sn * 4, none⟩ = some (.int .i64 t.k) ∧ w'.cell? ⟨bT, oT + sn * 4 + 1, none⟩ = some (.int .i64 t.n) ∧ w'.cell? ⟨bT, oT + sn * 4 + 2, none⟩ = some (.int .i64 t.e) ∧ w'.cell? ⟨bT, oT + sn * 4 + 3, none⟩ = some (.slice va t.ps.length vc)) w') := hide_ (fun w' hB' => by
        have hBw := below_to HBq.out hB'
        exact ⟨hB', ((K2.out.later HB.out).later hB').cell 0, (hB'.cell (p := ⟨gN, i, none⟩) (World.block_lt_of_cell? wq _ hNc)).trans hNc, (hBw.cell (p := ⟨bT, oT + sn * 4 + 0, none⟩) hbT).trans (hty' 0 (by decide)), (hBw.cell (p := ⟨bT, oT + sn * 4 + 1, none⟩) hbT).trans (hty' 1 (by decide)), (hBw.cell (p := ⟨bT, oT + sn * 4 + 2, none⟩) hbT).trans (hty' 2 (by decide)), (hBw.cell (p := ⟨bT, oT + sn * 4 + 3, none⟩) hbT).trans (hty' 3 (by decide))⟩)
      have HPr := hide_ (hpr.later HBq.out)
      have HNd := hide_ (fun (w' : World) (hB' : Below w.heap.size w w') => (⟨(hB'.cell (p := ⟨bV, oV + i * 3 + 1, none⟩) hbV).trans (hnd 1 (by decide)), (hB'.cell (p := ⟨bV, oV + i * 3 + 2, none⟩) hbV).trans (hnd 2 (by decide))⟩ : w'.cell? ⟨bV, oV + i * 3 + 1, none⟩ = some (.int .u64 x.n) ∧ w'.cell? ⟨bV, oV + i * 3 + 2, none⟩ = some (.int .i64 x.kids)))
      clear hxV hsN hty' hcT hcV hnd htS hpr hNc hok
      go_upto_region 6 with fail
      refine wp_region_last 9 (fun w' => Below wq.heap.size wq w' ∧ w'.cell? ⟨w.heap.size, 0, none⟩ = some (.slice (some ⟨bT, oT, none⟩) T.length cT) ∧ w'.cell? ⟨gN, i, none⟩ = some (.int .i64 (sn : Int)) ∧ w'.cell? ⟨bT, oT + sn * 4, none⟩ = some (.int .i64 t.k) ∧ w'.cell? ⟨bT, oT + sn * 4 + 1, none⟩ = some (.int .i64 t.n) ∧ w'.cell? ⟨bT, oT + sn * 4 + 2, none⟩ = some (.int .i64 t.e) ∧ w'.cell? ⟨bT, oT + sn * 4 + 3, none⟩ = some (.slice va t.ps.length vc)) (by kernel_rfl) (HSS.out _ ((Below.refl wq.heap.size wq).drew)) (fun hHeld => ?_)
      refine wpAnyF_take [9] (by kernel_rfl) (i := 0) (v := ?vc1) rfl (by kernel_rfl) (by kernel_rfl) (by kernel_rfl) (fun _ _ _ h => h) (Or.inl ⟨by kernel_rfl, ?hyc1⟩) hHeld ?restc1
      case hyc1 => intro w' hSw; (try dsimp only at hSw); go_simp; try with_reducible rfl
      simp only [Act.put]
      refine wpAnyF_take [9] (by kernel_rfl) (i := 1) (v := ?vc2) rfl (by kernel_rfl) (by kernel_rfl) (by kernel_rfl) (fun _ _ _ h => h) (Or.inl ⟨by kernel_rfl, ?hyc2⟩) hHeld ?restc2
      case hyc2 => intro w' hSw; (try dsimp only at hSw); go_simp; try with_reducible rfl
      simp only [Act.put]
      refine wpAnyF_take [9] (by kernel_rfl) (i := 2) (v := ?vc3) rfl (by kernel_rfl) (by kernel_rfl) (by kernel_rfl) (fun _ _ _ h => h) (Or.inl ⟨by kernel_rfl, ?hyc3⟩) hHeld ?restc3
      case hyc3 => intro w' hSw; (try dsimp only at hSw); go_simp; try with_reducible rfl
      simp only [Act.put]
      refine wpAnyF_take [9] (by kernel_rfl) (i := 3) (v := ?vc4) rfl (by kernel_rfl) (by kernel_rfl) (by kernel_rfl) (fun _ _ _ h => h) (Or.inl ⟨by kernel_rfl, ?hyc4⟩) hHeld ?restc4
      case hyc4 => intro w' hSw; (try dsimp only at hSw); go_simp; try with_reducible rfl
      simp only [Act.put]
      refine wpAnyF_take [9] (by kernel_rfl) (i := 4) (v := ?vc5) rfl (by kernel_rfl) (by kernel_rfl) (by kernel_rfl) (fun _ _ _ h => h) (Or.inl ⟨by kernel_rfl, ?hyc5⟩) hHeld ?restc5
      case hyc5 => intro w' hSw; (try dsimp only at hSw); go_simp; try with_reducible rfl
      simp only [Act.put]
      refine wpAnyF_take [9] (by kernel_rfl) (i := 5) (v := ?vc6) rfl (by kernel_rfl) (by kernel_rfl) (by kernel_rfl) (fun _ _ _ h => h) (Or.inl ⟨by kernel_rfl, ?hyc6⟩) hHeld ?restc6
      case hyc6 => intro w' hSw; (try dsimp only at hSw); go_simp; try with_reducible rfl
      simp only [Act.put]
      refine wpAnyF_take [9] (by kernel_rfl) (i := 6) (v := ?vc7) rfl (by kernel_rfl) (by kernel_rfl) (by kernel_rfl) (fun _ _ _ h => h) (Or.inl ⟨by kernel_rfl, ?hyc7⟩) hHeld ?restc7
      case hyc7 => intro w' hSw; (try dsimp only at hSw); go_simp; try with_reducible rfl
      simp only [Act.put]
      refine wpAnyF_take [9] (by kernel_rfl) (i := 7) (v := ?vc8) rfl (by kernel_rfl) (by kernel_rfl) (by kernel_rfl) (fun _ _ _ h => h) (Or.inl ⟨by kernel_rfl, ?hyc8⟩) hHeld ?restc8
      case hyc8 => intro w' hSw; (try dsimp only at hSw); go_simp; try with_reducible rfl
      simp only [Act.put]
      refine wpAnyF_ready (rs := [8]) (by kernel_rfl) (by simp) ?_
      refine AllReadyF.cons rfl (fun K hK => ?_) AllReadyF.nil
      go_simp
      refine hK.out _ _ (HSS.out _ (below_to ((Below.refl wq.heap.size wq).drew) (below1 _ _))) (fun hHeld => ?_)
      clear hK K
      refine wpAnyF_ready (rs := [9]) (by kernel_rfl) (by simp) ?_
      refine AllReadyF.last rfl (fun K hK => ?_)
      go_simp
      refine hK.out _ _ ?_
      clear hK K
      refine wpAnyF_done (by kernel_rfl) ?_ _
      obtain ⟨wb, hwb⟩ : ∃ wx, wx = (wq.alloc (.cells #[.int .i64 t.k, .int .i64 t.n, .int .i64 t.e, .slice va t.ps.length vc] 68)).drew := ⟨_, rfl⟩
      have hbb : Below wq.heap.size wq wb := by rw [hwb]; exact (below1 _ _).drew
      have KB : Hid (Blk wb wq.heap.size 68 [.int .i64 t.k, .int .i64 t.n, .int .i64 t.e, .slice va t.ps.length vc]) := hide_ (by rw [hwb]; exact Blk.drew (Blk.newA wq _ _))
      have HBb : Hid (Below w2.heap.size w2 wb) := hide_ (HB.out.trans (hbb.mono hzq))
      have HOb := hide_ (HO.out.later hbb)
      have HPb := hide_ (HPr.out.later hbb)
      have hzb : w2.heap.size ≤ wb.heap.size := HBb.out.size
      obtain ⟨d1, d2⟩ := HNd.out wb (below_to HBq.out hbb)
      have hbV : bV < wb.heap.size := World.block_lt_of_cell? wb _ d1
      have b0 := KB.out.cell 0
      simp at b0
      clear hbb HSS hHeld
      go_upto_region 7 with fail
      rw [← hwb]
      clear hwb
      rcases hkind with hk | hk | hk | hk | hk | hk | hk | hk
      · skip
        have HPV : Hid (pickOf t x = (wrap64 x.n)) := hide_ (by simp [pickOf, hk]; exact wrap_eq _)
        rw [hk] at b0
        have hkk : True := trivial
      
        obtain ⟨g9, c9, w9, hrun, hO9, hU9, -⟩ := HOb.out.push (wrap64 x.n) (by have := HLn.out; simp; omega) hzb
        have hlen9 : (L.take i).length = i := by have := HLn.out; simp; omega
        rw [hlen9] at hrun hO9
        have HRun := hide_ hrun
        have HOn : Hid (IOwn w9 w2.heap.size (.slice (some ⟨g9, 0, none⟩) (i + 1) c9) (L.take (i + 1))) := hide_ (by
          rw [List.take_succ_eq_append_getElem (by have := HLn.out; omega)]
          have e := (List.getElem?_eq_some_iff.1 HLi.out).2
          rw [e, HPV.out]
          exact hO9)
        have HBn := hide_ (HBb.out.trans (hU9.below _ hzb (fun b hb => (HOb.out.lt b hb).1)))
        clear hrun hO9 hU9 hlen9
        go_wp2_with (first | (at_builtin; refine wpList_append_run rfl (.tmp 71) (.tmp 73) 26 26 rfl rfl rfl HRun.out ?_; clear HRun))
        go_roundw
        case rel => exact ⟨_, i + 1, rfl, by go_num, by omega, HOn, HBn⟩
        case measure => simp [intOf]; omega
      · skip
        have HPV : Hid (pickOf t x = (wrap64 x.n)) := hide_ (by simp [pickOf, hk]; exact wrap_eq _)
        rw [hk] at b0
        have hkk : True := trivial
      
        obtain ⟨g9, c9, w9, hrun, hO9, hU9, -⟩ := HOb.out.push (wrap64 x.n) (by have := HLn.out; simp; omega) hzb
        have hlen9 : (L.take i).length = i := by have := HLn.out; simp; omega
        rw [hlen9] at hrun hO9
        have HRun := hide_ hrun
        have HOn : Hid (IOwn w9 w2.heap.size (.slice (some ⟨g9, 0, none⟩) (i + 1) c9) (L.take (i + 1))) := hide_ (by
          rw [List.take_succ_eq_append_getElem (by have := HLn.out; omega)]
          have e := (List.getElem?_eq_some_iff.1 HLi.out).2
          rw [e, HPV.out]
          exact hO9)
        have HBn := hide_ (HBb.out.trans (hU9.below _ hzb (fun b hb => (HOb.out.lt b hb).1)))
        clear hrun hO9 hU9 hlen9
        go_wp2_with (first | (at_builtin; refine wpList_append_run rfl (.tmp 71) (.tmp 73) 26 26 rfl rfl rfl HRun.out ?_; clear HRun))
        go_roundw
        case rel => exact ⟨_, i + 1, rfl, by go_num, by omega, HOn, HBn⟩
        case measure => simp [intOf]; omega
      · skip
        have HPV : Hid (pickOf t x = (wrap64 x.n)) := hide_ (by simp [pickOf, hk]; exact wrap_eq _)
        rw [hk] at b0
        have hkk : True := trivial
      
        obtain ⟨g9, c9, w9, hrun, hO9, hU9, -⟩ := HOb.out.push (wrap64 x.n) (by have := HLn.out; simp; omega) hzb
        have hlen9 : (L.take i).length = i := by have := HLn.out; simp; omega
        rw [hlen9] at hrun hO9
        have HRun := hide_ hrun
        have HOn : Hid (IOwn w9 w2.heap.size (.slice (some ⟨g9, 0, none⟩) (i + 1) c9) (L.take (i + 1))) := hide_ (by
          rw [List.take_succ_eq_append_getElem (by have := HLn.out; omega)]
          have e := (List.getElem?_eq_some_iff.1 HLi.out).2
          rw [e, HPV.out]
          exact hO9)
        have HBn := hide_ (HBb.out.trans (hU9.below _ hzb (fun b hb => (HOb.out.lt b hb).1)))
        clear hrun hO9 hU9 hlen9
        go_wp2_with (first | (at_builtin; refine wpList_append_run rfl (.tmp 71) (.tmp 73) 26 26 rfl rfl rfl HRun.out ?_; clear HRun))
        go_roundw
        case rel => exact ⟨_, i + 1, rfl, by go_num, by omega, HOn, HBn⟩
        case measure => simp [intOf]; omega
      · skip
        have HPV : Hid (pickOf t x = 0) := hide_ (by simp [pickOf, hk])
        rw [hk] at b0
        have hkk : True := trivial
      
        obtain ⟨g9, c9, w9, hrun, hO9, hU9, -⟩ := HOb.out.push 0 (by have := HLn.out; simp; omega) hzb
        have hlen9 : (L.take i).length = i := by have := HLn.out; simp; omega
        rw [hlen9] at hrun hO9
        have HRun := hide_ hrun
        have HOn : Hid (IOwn w9 w2.heap.size (.slice (some ⟨g9, 0, none⟩) (i + 1) c9) (L.take (i + 1))) := hide_ (by
          rw [List.take_succ_eq_append_getElem (by have := HLn.out; omega)]
          have e := (List.getElem?_eq_some_iff.1 HLi.out).2
          rw [e, HPV.out]
          exact hO9)
        have HBn := hide_ (HBb.out.trans (hU9.below _ hzb (fun b hb => (HOb.out.lt b hb).1)))
        clear hrun hO9 hU9 hlen9
        go_wp2_with (first | (at_builtin; refine wpList_append_run rfl (.tmp 71) (.tmp 73) 26 26 rfl rfl rfl HRun.out ?_; clear HRun))
        go_roundw
        case rel => exact ⟨_, i + 1, rfl, by go_num, by omega, HOn, HBn⟩
        case measure => simp [intOf]; omega
      · skip
        have HPV : Hid (pickOf t x = x.kids) := hide_ (by simp [pickOf, hk])
        rw [hk] at b0
        have hkk : True := trivial
      
        obtain ⟨g9, c9, w9, hrun, hO9, hU9, -⟩ := HOb.out.push x.kids (by have := HLn.out; simp; omega) hzb
        have hlen9 : (L.take i).length = i := by have := HLn.out; simp; omega
        rw [hlen9] at hrun hO9
        have HRun := hide_ hrun
        have HOn : Hid (IOwn w9 w2.heap.size (.slice (some ⟨g9, 0, none⟩) (i + 1) c9) (L.take (i + 1))) := hide_ (by
          rw [List.take_succ_eq_append_getElem (by have := HLn.out; omega)]
          have e := (List.getElem?_eq_some_iff.1 HLi.out).2
          rw [e, HPV.out]
          exact hO9)
        have HBn := hide_ (HBb.out.trans (hU9.below _ hzb (fun b hb => (HOb.out.lt b hb).1)))
        clear hrun hO9 hU9 hlen9
        go_wp2_with (first | (at_builtin; refine wpList_append_run rfl (.tmp 71) (.tmp 73) 26 26 rfl rfl rfl HRun.out ?_; clear HRun))
        go_roundw
        case rel => exact ⟨_, i + 1, rfl, by go_num, by omega, HOn, HBn⟩
        case measure => simp [intOf]; omega
      · skip
        have HPV : Hid (pickOf t x = x.kids) := hide_ (by simp [pickOf, hk])
        rw [hk] at b0
        have hkk : True := trivial
      
        obtain ⟨g9, c9, w9, hrun, hO9, hU9, -⟩ := HOb.out.push x.kids (by have := HLn.out; simp; omega) hzb
        have hlen9 : (L.take i).length = i := by have := HLn.out; simp; omega
        rw [hlen9] at hrun hO9
        have HRun := hide_ hrun
        have HOn : Hid (IOwn w9 w2.heap.size (.slice (some ⟨g9, 0, none⟩) (i + 1) c9) (L.take (i + 1))) := hide_ (by
          rw [List.take_succ_eq_append_getElem (by have := HLn.out; omega)]
          have e := (List.getElem?_eq_some_iff.1 HLi.out).2
          rw [e, HPV.out]
          exact hO9)
        have HBn := hide_ (HBb.out.trans (hU9.below _ hzb (fun b hb => (HOb.out.lt b hb).1)))
        clear hrun hO9 hU9 hlen9
        go_wp2_with (first | (at_builtin; refine wpList_append_run rfl (.tmp 71) (.tmp 73) 26 26 rfl rfl rfl HRun.out ?_; clear HRun))
        go_roundw
        case rel => exact ⟨_, i + 1, rfl, by go_num, by omega, HOn, HBn⟩
        case measure => simp [intOf]; omega
      · skip
        obtain ⟨m, p, ha, hp, htag⟩ := HArm.out hk
        have HPV : Hid (pickOf t x = (m : Int)) := hide_ (by simp [pickOf, hk, ha])
        rw [hk] at b0
        have hml := (List.getElem?_eq_some_iff.1 hp).1
        have hfirst : ∀ (q : Nat) (p' : Pt), q < m → t.ps[q]? = some p' → ¬ p'.tag = x.n := fun q p' hq hp' => by
          unfold armI at ha
          rw [List.findIdx?_eq_some_iff_getElem] at ha
          obtain ⟨_, _, h3⟩ := ha
          have h4 := h3 q hq
          have h5 := (List.getElem?_eq_some_iff.1 hp').2
          rw [h5] at h4
          simpa using h4
        have HFs := hide_ hfirst
        have HPm := hide_ hp
        have HTg := hide_ htag
        clear ha hfirst hp htag
        go_wp2_with fail
        go_loopw [12] (fun x12 wr => ∃ (j : Nat), j ≤ m ∧ x12 = .int .i64 (j : Int) ∧ Hid (Below wb.heap.size wb wr)) (fun x12 _ => m - (intOf x12).toNat)
        case atStart => exact ⟨0, Nat.zero_le _, rfl, hide_ (Below.refl _ _)⟩
        case round =>
          obtain ⟨j, hj, rfl, HJ⟩ := hrel
          generalize wr = wp at *
          have hjl : j < t.ps.length := by omega
          have hjl' : (j : Int) < t.ps.length := by omega
          have hq : t.ps[j]? = some (t.ps[j]'hjl) := List.getElem?_eq_getElem hjl
          have b3 := (KB.out.later HJ.out).cell 3
          simp at b3
          have d1' := (HJ.out.cell (p := ⟨bV, oV + i * 3 + 1, none⟩) hbV).trans d1
          obtain ⟨bP, oP, rfl, hbP, hcP⟩ := (HPb.out.later HJ.out).open (by omega)
          have c1 := hcP j _ hq 1 (by decide)
          obtain ⟨t0', t1'⟩ := HTags.out hk _ (List.mem_of_getElem? hq)
          have hwt : IntKind.u64.wrap (t.ps[j]'hjl).tag = (t.ps[j]'hjl).tag := by rw [IntKind.wrap_u64]; omega
          have HQ := hide_ hq
          simp [ptc] at c1
          generalize t.ps[j]'hjl = pp at *
          obtain ⟨pl, ptg, py⟩ := pp
          simp only at c1 hwt t0' t1'
          clear hcP hq t0' t1'
          by_cases hjm : j = m
          · have hte : ptg = x.n := by
              have h1 := HQ.out; have h2 := HPm.out
              rw [hjm, h2] at h1
              injection h1 with h1
              have h3 := HTg.out
              rw [h1] at h3
              exact h3
            have hteb : (ptg != x.n) = false := by simp [hte]
            clear hte
            subst hjm
            go_wp2_with fail
            go_quiet (fail)
            clear hwt
            have HOb' := hide_ (HOb.out.later (below_drewN HJ.out nq))
            have HBb' := hide_ (HBb.out.trans ((below_drewN HJ.out nq).mono hzb))
            have hzb' : w2.heap.size ≤ (wp.drewN nq).heap.size := HBb'.out.size
            generalize wp.drewN nq = wc at *
            obtain ⟨g9, c9, w9, hrun, hO9, hU9, -⟩ := HOb'.out.push (j : Int) (by have := HLn.out; simp; omega) hzb'
            have hlen9 : (L.take i).length = i := by have := HLn.out; simp; omega
            rw [hlen9] at hrun hO9
            have HRun := hide_ hrun
            have HOn : Hid (IOwn w9 w2.heap.size (.slice (some ⟨g9, 0, none⟩) (i + 1) c9) (L.take (i + 1))) := hide_ (by
              rw [List.take_succ_eq_append_getElem (by have := HLn.out; omega)]
              have e := (List.getElem?_eq_some_iff.1 HLi.out).2
              rw [e, HPV.out]
              exact hO9)
            have HBn := hide_ (HBb'.out.trans (hU9.below _ hzb' (fun b hb => (HOb'.out.lt b hb).1)))
            clear hrun hO9 hU9 hlen9
            go_wp2_with (first | (at_builtin; refine wpList_append_run rfl (.tmp 71) (.tmp 73) 26 26 rfl rfl rfl HRun.out ?_; clear HRun))
            go_roundw
            case rel => exact ⟨_, i + 1, rfl, by go_num, by omega, HOn, HBn⟩
            case measure => simp [intOf]; omega
          · have hte : ¬ ptg = x.n := HFs.out j _ (by omega) HQ.out
            have hteb : (ptg != x.n) = true := by simpa using hte
            go_wp2_with fail
            go_quiet (fail)
            have HJq : ∀ q, Hid (Below wb.heap.size wb (wp.drewN q)) := fun q => hide_ (below_drewN HJ.out q)
            clear hwt
            go_wp2_with fail
            go_roundw
            case rel => exact ⟨j + 1, by omega, by go_num, HJq _⟩
            case measure => simp [intOf]; omega
      · skip
        have HPV : Hid (pickOf t x = 0) := hide_ (by simp [pickOf, hk])
        rw [hk] at b0
        have hkk : True := trivial
      
        obtain ⟨g9, c9, w9, hrun, hO9, hU9, -⟩ := HOb.out.push 0 (by have := HLn.out; simp; omega) hzb
        have hlen9 : (L.take i).length = i := by have := HLn.out; simp; omega
        rw [hlen9] at hrun hO9
        have HRun := hide_ hrun
        have HOn : Hid (IOwn w9 w2.heap.size (.slice (some ⟨g9, 0, none⟩) (i + 1) c9) (L.take (i + 1))) := hide_ (by
          rw [List.take_succ_eq_append_getElem (by have := HLn.out; omega)]
          have e := (List.getElem?_eq_some_iff.1 HLi.out).2
          rw [e, HPV.out]
          exact hO9)
        have HBn := hide_ (HBb.out.trans (hU9.below _ hzb (fun b hb => (HOb.out.lt b hb).1)))
        clear hrun hO9 hU9 hlen9
        go_wp2_with (first | (at_builtin; refine wpList_append_run rfl (.tmp 71) (.tmp 73) 26 26 rfl rfl rfl HRun.out ?_; clear HRun))
        go_roundw
        case rel => exact ⟨_, i + 1, rfl, by go_num, by omega, HOn, HBn⟩
        case measure => simp [intOf]; omega
    · have hlt' : ¬ (i : Int) < V.length := by omega
      have HV : Hid (IOwn wq w.heap.size v9 L) := hide_ (by
        have h := HO.out
        rw [List.take_of_length_le (by have := HLn.out; omega)] at h
        exact h.base hz2)
      have HBf := hide_ (HBw2.out.trans (HB.out.mono hz2))
      go_wp2
      go_ret
      exact ⟨v9, rfl, HV, HBf⟩
end Go.Proofs.YtegejchamojfgaaDoor
