import Derived.Test.YtdpkmkhflgmioaaPart17
import Derived.Test.YtdpkmkhflgmioaaPart01
import Derived.Test.YtdpkmkhflgmioaaPart15

/- The document's walk. -/
namespace Go.Proofs.Ytdpkmkhflgmioaa
open Go.RowKit
set_option linter.unusedVariables false

set_option maxRecDepth 100000 in
set_option maxHeartbeats 16000000 in
theorem walk_any (wb : World) (bT oT cT : Nat) (T : List Ty) (aR : Option Addr) (cR : Nat) (R : List Rt) (bV oV cV : Nat) (V : List Nv) (t0 : Int) (hV : V.length ≤ 2000000) (hS : Hid (OkS T R)) (hNv : Hid (∀ x ∈ V, NvOk x)) (hT : Hid (TRow wb (some ⟨bT, oT, none⟩) T)) (hVr : Hid (VRow wb (some ⟨bV, oV, none⟩) V)) :
    ∀ (f i : Nat) (s : Int) (st nums : List Int) (v : Value) (w : World), V.length - i ≤ f → Hid (Below wb.heap.size wb w) → Hid (WkI T t0 V i (s :: st) nums) → Hid (IOwn w wb.heap.size v nums) →
      Calls Try.prog 33 #[.agg #[.slice (some ⟨bT, oT, none⟩) T.length cT, .slice aR R.length cR], .int .i64 s, .slice (some ⟨bV, oV, none⟩) V.length cV, .int .i64 (i : Int), v] w fun e w' => WalkTo T t0 V st wb.heap.size i v w e w' := by
  intro f
  induction f with
  | zero =>
    intro i s st nums v w hf hBw hWk hO
    have h1 := chkV_le _ _ _ (by omega) hWk.out.chk
    simp at h1
    omega
  | succ f ih =>
    intro i s st nums v w hf hBw0 hWk hO
    have hih := hide_ ih
    clear ih
    have hi : i < V.length := by
      have h1 := chkV_le _ _ _ (by omega) hWk.out.chk
      simp at h1
      omega
    have hi' : (i : Int) < V.length := by omega
    have hxV : V[i]? = some (V[i]'hi) := List.getElem?_eq_getElem hi
    obtain ⟨s', r', e1, hs0, hs1, hrx, hbad, hgood⟩ := hWk.out.next hS.out hxV
    injection e1 with e1 e2
    subst e1 e2
    obtain ⟨sn, rfl⟩ := Int.eq_ofNat_of_zero_le hs0
    have hsn : sn < T.length := by omega
    have hsn' : (sn : Int) < T.length := hs1
    have hnvx := hNv.out _ (List.mem_of_getElem? hxV)
    have hok := hS.out.ty sn hsn
    rw [Int.toNat_natCast] at hbad hgood
    have htS : T[sn]? = some (T[sn]'hsn) := List.getElem?_eq_getElem hsn
    rw [show T.getD sn ty0 = T[sn]'hsn by simp [List.getD, hsn]] at hok hbad hgood
    have hB := below2 w (.cells #[.slice (some ⟨bT, oT, none⟩) T.length cT, .slice aR R.length cR] 25) (.cells #[.int .i64 0, .int .i64 0] 34)
    obtain ⟨k1, k2⟩ := blk2 w #[.slice (some ⟨bT, oT, none⟩) T.length cT, .slice aR R.length cR] #[.int .i64 0, .int .i64 0] 25 34
    obtain ⟨w0, hw0⟩ : ∃ wx, wx = (w.alloc (.cells #[.slice (some ⟨bT, oT, none⟩) T.length cT, .slice aR R.length cR] 25)).alloc (.cells #[.int .i64 0, .int .i64 0] 34) := ⟨_, rfl⟩
    rw [← hw0] at hB k1 k2
    have hzb : wb.heap.size ≤ w.heap.size := hBw0.out.size
    obtain ⟨_, _, e3, hbT, hcT⟩ := hT.out.open (by omega)
    injection e3 with e3
    injection e3 with e4 e5 _
    subst e4 e5
    obtain ⟨va, vc, hty, hvc, -, hpr⟩ := hcT sn _ htS
    obtain ⟨_, _, e6, hbV, hcV⟩ := hVr.out.open (by omega)
    injection e6 with e6
    injection e6 with e7 e8 _
    subst e7 e8
    have hnd := hcV i _ hxV
    generalize T[sn]'hsn = t at *
    generalize V[i]'hi = x at *
    have KS0 := hide_ k1
    have HCel : Hid (∀ w', Below wb.heap.size wb w' → w'.cell? ⟨bT, oT + sn * 4, none⟩ = some (.int .i64 t.k) ∧ w'.cell? ⟨bT, oT + sn * 4 + 1, none⟩ = some (.int .i64 t.n) ∧ w'.cell? ⟨bT, oT + sn * 4 + 2, none⟩ = some (.int .i64 t.e) ∧ w'.cell? ⟨bT, oT + sn * 4 + 3, none⟩ = some (.slice va t.ps.length vc) ∧ w'.cell? ⟨bV, oV + i * 3, none⟩ = some (.int .i64 x.k) ∧ w'.cell? ⟨bV, oV + i * 3 + 1, none⟩ = some (.int .u64 x.n) ∧ w'.cell? ⟨bV, oV + i * 3 + 2, none⟩ = some (.int .i64 x.kids)) := hide_ (fun w' hB' => ⟨(hB'.cell (p := ⟨bT, oT + sn * 4 + 0, none⟩) hbT).trans (hty 0 (by decide)), (hB'.cell (p := ⟨bT, oT + sn * 4 + 1, none⟩) hbT).trans (hty 1 (by decide)), (hB'.cell (p := ⟨bT, oT + sn * 4 + 2, none⟩) hbT).trans (hty 2 (by decide)), (hB'.cell (p := ⟨bT, oT + sn * 4 + 3, none⟩) hbT).trans (hty 3 (by decide)), (hB'.cell (p := ⟨bV, oV + i * 3 + 0, none⟩) hbV).trans (hnd 0 (by decide)), (hB'.cell (p := ⟨bV, oV + i * 3 + 1, none⟩) hbV).trans (hnd 1 (by decide)), (hB'.cell (p := ⟨bV, oV + i * 3 + 2, none⟩) hbV).trans (hnd 2 (by decide))⟩)
    have hBw := hide_ (hBw0.out.trans (hB.mono hzb))
    have HPr := hide_ hpr
    have HOk := hide_ hok
    have HFi : Hid (∀ w', Below w0.heap.size w0 w' → Calls Try.prog 59 #[.agg #[.int .i64 t.k, .int .i64 t.n, .int .i64 t.e, .slice va t.ps.length vc], .agg #[.int .i64 x.k, .int .u64 x.n, .int .i64 x.kids]] w' fun e w'' => e = .returned (.int .i64 (misP t x)) ∧ Below w'.heap.size w' w'') := hide_ (fun w' hB' => fitsR_any t x va vc _ w' HOk hrx hnvx (hide_ (HPr.out.later (hBw.out.trans (hB'.mono (Nat.le_trans hzb hB.size))))))
    have HSS : Hid (∀ w', Below w0.heap.size w0 w' → (fun w' => Below w0.heap.size w0 w' ∧ w'.cell? ⟨w.heap.size, 0, none⟩ = some (.slice (some ⟨bT, oT, none⟩) T.length cT) ∧ w'.cell? ⟨bT, oT + sn * 4, none⟩ = some (.int .i64 t.k) ∧ w'.cell? ⟨bT, oT + sn * 4 + 1, none⟩ = some (.int .i64 t.n) ∧ w'.cell? ⟨bT, oT + sn * 4 + 2, none⟩ = some (.int .i64 t.e) ∧ w'.cell? ⟨bT, oT + sn * 4 + 3, none⟩ = some (.slice va t.ps.length vc) ∧ w'.cell? ⟨bV, oV + i * 3, none⟩ = some (.int .i64 x.k) ∧ w'.cell? ⟨bV, oV + i * 3 + 1, none⟩ = some (.int .u64 x.n) ∧ w'.cell? ⟨bV, oV + i * 3 + 2, none⟩ = some (.int .i64 x.kids)) w') := hide_ (fun w' hB' => ⟨hB', (KS0.out.later hB').cell 0, HCel.out w' (hBw.out.trans (hB'.mono (Nat.le_trans hzb hB.size)))⟩)
    have KR0 := hide_ k2
    have HB0 := hide_ hB
    have hz0 : w.heap.size + 1 < w0.heap.size := k2.lt
    clear hty hnd hcT hcV hxV htS hpr hok hB k1 k2
    go_enter Try.func33, Try.ntmps33
    go_upto_region 1 with fail
    rw [← hw0]
    clear hw0
    have HBad := hide_ hbad
    have HGood := hide_ hgood
    clear hbad hgood
    refine wp_region_last 10 (fun w' => Below w0.heap.size w0 w' ∧ w'.cell? ⟨w.heap.size, 0, none⟩ = some (.slice (some ⟨bT, oT, none⟩) T.length cT) ∧ w'.cell? ⟨bT, oT + sn * 4, none⟩ = some (.int .i64 t.k) ∧ w'.cell? ⟨bT, oT + sn * 4 + 1, none⟩ = some (.int .i64 t.n) ∧ w'.cell? ⟨bT, oT + sn * 4 + 2, none⟩ = some (.int .i64 t.e) ∧ w'.cell? ⟨bT, oT + sn * 4 + 3, none⟩ = some (.slice va t.ps.length vc) ∧ w'.cell? ⟨bV, oV + i * 3, none⟩ = some (.int .i64 x.k) ∧ w'.cell? ⟨bV, oV + i * 3 + 1, none⟩ = some (.int .u64 x.n) ∧ w'.cell? ⟨bV, oV + i * 3 + 2, none⟩ = some (.int .i64 x.kids)) (by kernel_rfl) (HSS.out _ ((Below.refl w0.heap.size w0).drew)) (fun hHeld => ?_)
    refine wpAnyF_take [10] (by kernel_rfl) (i := 0) (v := ?va1) rfl (by kernel_rfl) (by kernel_rfl) (by kernel_rfl) (fun _ _ _ h => h) (Or.inl ⟨by kernel_rfl, ?hya1⟩) hHeld ?resta1
    case hya1 => intro w' hSw; (try dsimp only at hSw); go_simp; try with_reducible rfl
    simp only [Act.put]
    refine wpAnyF_take [10] (by kernel_rfl) (i := 1) (v := ?va2) rfl (by kernel_rfl) (by kernel_rfl) (by kernel_rfl) (fun _ _ _ h => h) (Or.inl ⟨by kernel_rfl, ?hya2⟩) hHeld ?resta2
    case hya2 => intro w' hSw; (try dsimp only at hSw); go_simp; try with_reducible rfl
    simp only [Act.put]
    refine wpAnyF_take [10] (by kernel_rfl) (i := 2) (v := ?va3) rfl (by kernel_rfl) (by kernel_rfl) (by kernel_rfl) (fun _ _ _ h => h) (Or.inl ⟨by kernel_rfl, ?hya3⟩) hHeld ?resta3
    case hya3 => intro w' hSw; (try dsimp only at hSw); go_simp; try with_reducible rfl
    simp only [Act.put]
    refine wpAnyF_take [10] (by kernel_rfl) (i := 3) (v := ?va4) rfl (by kernel_rfl) (by kernel_rfl) (by kernel_rfl) (fun _ _ _ h => h) (Or.inl ⟨by kernel_rfl, ?hya4⟩) hHeld ?resta4
    case hya4 => intro w' hSw; (try dsimp only at hSw); go_simp; try with_reducible rfl
    simp only [Act.put]
    refine wpAnyF_take [10] (by kernel_rfl) (i := 4) (v := ?va5) rfl (by kernel_rfl) (by kernel_rfl) (by kernel_rfl) (fun _ _ _ h => h) (Or.inl ⟨by kernel_rfl, ?hya5⟩) hHeld ?resta5
    case hya5 => intro w' hSw; (try dsimp only at hSw); go_simp; try with_reducible rfl
    simp only [Act.put]
    refine wpAnyF_take [10] (by kernel_rfl) (i := 5) (v := ?va6) rfl (by kernel_rfl) (by kernel_rfl) (by kernel_rfl) (fun _ _ _ h => h) (Or.inl ⟨by kernel_rfl, ?hya6⟩) hHeld ?resta6
    case hya6 => intro w' hSw; (try dsimp only at hSw); go_simp; try with_reducible rfl
    simp only [Act.put]
    refine wpAnyF_take [10] (by kernel_rfl) (i := 6) (v := ?va7) rfl (by kernel_rfl) (by kernel_rfl) (by kernel_rfl) (fun _ _ _ h => h) (Or.inl ⟨by kernel_rfl, ?hya7⟩) hHeld ?resta7
    case hya7 => intro w' hSw; (try dsimp only at hSw); go_simp; try with_reducible rfl
    simp only [Act.put]
    refine wpAnyF_take [10] (by kernel_rfl) (i := 7) (v := ?va8) rfl (by kernel_rfl) (by kernel_rfl) (by kernel_rfl) (fun _ _ _ h => h) (Or.inl ⟨by kernel_rfl, ?hya8⟩) hHeld ?resta8
    case hya8 => intro w' hSw; (try dsimp only at hSw); go_simp; try with_reducible rfl
    simp only [Act.put]
    refine wpAnyF_take [10] (by kernel_rfl) (i := 8) (v := ?va9) rfl (by kernel_rfl) (by kernel_rfl) (by kernel_rfl) (fun _ _ _ h => h) (Or.inl ⟨by kernel_rfl, ?hya9⟩) hHeld ?resta9
    case hya9 => intro w' hSw; (try dsimp only at hSw); go_simp; try with_reducible rfl
    simp only [Act.put]
    refine wpAnyF_ready (rs := [9]) (by kernel_rfl) (by simp) ?_
    refine AllReadyF.cons rfl (fun K hK => ?_) AllReadyF.nil
    go_simp
    refine (HFi.out _ ((Below.refl w0.heap.size w0).drew)).mono ?_
    rintro e w2 ⟨rfl, hB2⟩
    dsimp only
    have HB2 := hide_ (below_to ((Below.refl w0.heap.size w0).drew) hB2)
    clear hB2
    refine hK.out _ _ (HSS.out _ HB2.out) (fun hHeld => ?_)
    clear hK K
    refine wpAnyF_ready (rs := [10]) (by kernel_rfl) (by simp) ?_
    refine AllReadyF.last rfl (fun K hK => ?_)
    go_simp
    refine hK.out _ _ ?_
    clear hK K
    refine wpAnyF_done (by kernel_rfl) ?_ _
    clear HFi HSS hHeld
    have KS2 := hide_ (KS0.out.later HB2.out)
    have KR2 := hide_ (KR0.out.later HB2.out)
    have HU2 : Hid (Upd (fun k => v.ownBlock = some k) w w2) := hide_ ((Upd.of_below HB0.out).then HB2.out)
    have hzq2 : w0.heap.size ≤ w2.heap.size := HB2.out.size
    have HBw2 : Hid (Below wb.heap.size wb w2) := hide_ (hBw.out.trans (HB2.out.mono (by omega)))
    have HO2 := hide_ ((hO.out.later HB0.out).later HB2.out)
    obtain ⟨M, hM⟩ : ∃ M, misP t x = M := ⟨_, rfl⟩
    rw [hM] at HBad HGood
    rw [hM]
    have HM := hide_ hM
    clear hM
    by_cases hM0 : M = 0
    · subst hM0
      have HWk1 := hide_ (HGood.out rfl)
      obtain ⟨g3, c3, w3, hrun, hO3, hU3, hL3⟩ := HO2.out.push (sn : Int) (by have := hWk.out.len; omega) HBw2.out.size
      have hlen := hWk.out.len
      rw [hlen] at hrun hO3
      have HRun := hide_ hrun
      have nb3 : ∀ b t' ys, Blk w2 b t' ys → t' ≠ 3 → ¬ v.ownBlock = some b := fun b t' ys hb ht => HO2.out.ne hb ht
      have ks3 := KS2.out.upd hU3 (nb3 _ _ _ KS2.out (by decide))
      have kr3 := KR2.out.upd hU3 (nb3 _ _ _ KR2.out (by decide))
      have hu3 : Upd (fun k => v.ownBlock = some k) w w3 := HU2.out.to hU3
      have hb3 : Below wb.heap.size wb w3 := HBw2.out.trans (hU3.below _ HBw2.out.size (fun k hk => (HO2.out.lt k hk).1))
      obtain ⟨w4, hw4⟩ : ∃ wx, wx = w3.alloc (.cells #[.int .i64 0, .int .i64 0] 34) := ⟨_, rfl⟩
      have ba : Below w3.heap.size w3 w4 := by rw [hw4]; exact below1 _ _
      have kf4 : Blk w4 w3.heap.size 34 [.int .i64 0, .int .i64 0] := by rw [hw4]; exact Blk.newA w3 _ _
      obtain ⟨g15, hg15⟩ : ∃ g, w3.heap.size = g := ⟨_, rfl⟩
      have hg15b : w.heap.size + 1 < g15 := by have := hU3.size; omega
      have KF4 : Hid (Blk w4 g15 34 [.int .i64 0, .int .i64 0]) := hide_ (by rw [← hg15]; exact kf4)
      have KS4 := hide_ (ks3.later ba)
      have KR4 := hide_ (kr3.later ba)
      have HU4 := hide_ (hu3.then ba)
      have HO4 := hide_ (hO3.later ba)
      have HL4 : Hid (∀ b, (Value.slice (some ⟨g3, 0, none⟩) (i + 1) c3).ownBlock = some b → v.ownBlock = some b ∨ w.heap.size ≤ b) := hide_ (fun b hb => by
        have := own_is hb
        subst this
        rcases hL3 with h | h
        · exact .inl h
        · exact .inr (by omega))
      have hw1 : wrap64 ((i : Int) + 1) = (i : Int) + 1 := w64 _ (by omega)
      clear hrun hO3 hU3 nb3 ks3 kr3 hu3 hb3 ba kf4 hlen hL3
      go_upto_region 7 with (first | (at_builtin; refine wpList_append_run rfl (.tmp 32) (.tmp 34) 26 26 rfl rfl rfl HRun.out ?_; clear HRun))
      try rw [← hw4]
      try rw [hg15]
      have HW1 := hide_ hw1
      clear hw4 hg15 hw1
      go_wp2_with fail
      go_loopw [4, 14, 16] (fun x4 x14 x16 wr => ∃ (v1 : Value) (p1 k : Nat) (nums1 : List Int), v1 = x4 ∧ x14 = .int .i64 (p1 : Int) ∧ x16 = .int .i64 (k : Int) ∧ (k : Int) ≤ x.kids ∧ i < p1 ∧ Hid (WkI T t0 V p1 ((kidsT t x).drop k ++ st) nums1) ∧ Hid (IOwn wr wb.heap.size v1 nums1) ∧ Hid (∀ b, v1.ownBlock = some b → v.ownBlock = some b ∨ w.heap.size ≤ b) ∧ Hid (Upd (fun b => v.ownBlock = some b) w wr) ∧ Hid (Blk wr w.heap.size 25 [.slice (some ⟨bT, oT, none⟩) T.length cT, .slice aR R.length cR]) ∧ Hid (Blk wr (w.heap.size + 1) 34 [.int .i64 0, .int .i64 0]) ∧ Hid (Blk wr g15 34 [.int .i64 0, .int .i64 0])) (fun _ _ x16 _ => (x.kids - intOf x16).toNat)
      case atStart => exact ⟨_, i + 1, 0, _, rfl, by first | (rw [HW1.out]; rfl) | (rw [HW1.out]; push_cast; rfl), rfl, by have := (rightV_kids hrx).1; omega, by omega, hide_ (by have h := HWk1.out; simpa using h), HO4, HL4, HU4, KS4, KR4, KF4⟩
      case round =>
        obtain ⟨v1, p1, k, nums1, rfl, rfl, rfl, hk, hip, HWq, HOq, HLi, HUq, KS, KR, KF⟩ := hrel
        generalize wr = wq at *
        clear KS4 KR4 KF4 HU4 HO4 HL4 KS2 KR2 HU2 HO2 HB2 KS0 KR0 HB0
        have HBw : Hid (Below wb.heap.size wb wq) := hide_ (hBw0.out.trans (HUq.out.below _ hzb (fun b hb => (hO.out.lt b hb).1)))
        have hzq : wb.heap.size ≤ wq.heap.size := HBw.out.size
        have hkb : x.kids ≤ 1048576 := (rightV_kids hrx).2
        obtain ⟨c0, c1, c2, c3', c4, c5, c6⟩ := HCel.out wq HBw.out
        by_cases hkl : (k : Int) < x.kids
        · obtain ⟨s1, hs1k, hel⟩ := elemR_any t x va vc _ k wq HOk HM.out hrx hkl (hide_ (HPr.out.later HBw.out))
          have HEl : Hid (∀ w', Below wq.heap.size wq w' → Calls Try.prog 60 #[.agg #[.int .i64 t.k, .int .i64 t.n, .int .i64 t.e, .slice va t.ps.length vc], .agg #[.int .i64 x.k, .int .u64 x.n, .int .i64 x.kids], .int .i64 (k : Int)] w' fun e w'' => e = .returned (.int .i64 s1) ∧ Below w'.heap.size w' w'') := hide_ (fun w' hB' => by
            obtain ⟨s2, h2, h3⟩ := elemR_any t x va vc _ k w' HOk HM.out hrx hkl (hide_ (HPr.out.later (HBw.out.trans (hB'.mono hzq))))
            rw [hs1k] at h2
            injection h2 with h2
            subst h2
            exact h3)
          have hdr : (kidsT t x).drop k ++ st = s1 :: ((kidsT t x).drop (k + 1) ++ st) := by
            have hlt := (List.getElem?_eq_some_iff.1 hs1k).1
            rw [List.drop_eq_getElem_cons hlt, (List.getElem?_eq_some_iff.1 hs1k).2]
            rfl
          rw [hdr] at HWq
          have HWa : Hid (∀ w', Below wq.heap.size wq w' → Calls Try.prog 33 #[.agg #[.slice (some ⟨bT, oT, none⟩) T.length cT, .slice aR R.length cR], .int .i64 s1, .slice (some ⟨bV, oV, none⟩) V.length cV, .int .i64 (p1 : Int), v1] w' fun e w'' => WalkTo T t0 V ((kidsT t x).drop (k + 1) ++ st) wb.heap.size p1 v1 w' e w'') := hide_ (fun w' hB' => hih.out p1 s1 _ nums1 v1 w' (by omega) (hide_ (HBw.out.trans (hB'.mono hzq))) HWq (hide_ (HOq.out.later hB')))
          have k0 := KS.out.cell 0; have k1' := KS.out.cell 1
          simp at k0 k1'
          have HSS : Hid (∀ w', Below wq.heap.size wq w' ∨ Upd (fun b => v1.ownBlock = some b) wq w' → (fun w' => w'.cell? ⟨w.heap.size, 1, none⟩ = some (.slice aR R.length cR) ∧ w'.cell? ⟨w.heap.size, 0, none⟩ = some (.slice (some ⟨bT, oT, none⟩) T.length cT) ∧ w'.cell? ⟨bT, oT + sn * 4, none⟩ = some (.int .i64 t.k) ∧ w'.cell? ⟨bT, oT + sn * 4 + 1, none⟩ = some (.int .i64 t.n) ∧ w'.cell? ⟨bT, oT + sn * 4 + 2, none⟩ = some (.int .i64 t.e) ∧ w'.cell? ⟨bT, oT + sn * 4 + 3, none⟩ = some (.slice va t.ps.length vc) ∧ w'.cell? ⟨bV, oV + i * 3, none⟩ = some (.int .i64 x.k) ∧ w'.cell? ⟨bV, oV + i * 3 + 1, none⟩ = some (.int .u64 x.n) ∧ w'.cell? ⟨bV, oV + i * 3 + 2, none⟩ = some (.int .i64 x.kids)) w') := hide_ (fun w' hB' => by
            have hu : Upd (fun b => v1.ownBlock = some b) wq w' := hB'.elim (fun h => Upd.of_below h) (fun h => h)
            have hks := KS.out.upd hu (HOq.out.ne KS.out (by decide))
            exact ⟨hks.cell 1, hks.cell 0, HCel.out w' (HBw.out.trans (hu.below _ hzq (fun b hb => (HOq.out.lt b hb).1)))⟩)
          clear hel hs1k hdr
          go_upto_region 10 with fail
          clear c0 c1 c2 c3' c4 c5 c6
          refine wp_region_last 22 (fun w' => w'.cell? ⟨w.heap.size, 1, none⟩ = some (.slice aR R.length cR) ∧ w'.cell? ⟨w.heap.size, 0, none⟩ = some (.slice (some ⟨bT, oT, none⟩) T.length cT) ∧ w'.cell? ⟨bT, oT + sn * 4, none⟩ = some (.int .i64 t.k) ∧ w'.cell? ⟨bT, oT + sn * 4 + 1, none⟩ = some (.int .i64 t.n) ∧ w'.cell? ⟨bT, oT + sn * 4 + 2, none⟩ = some (.int .i64 t.e) ∧ w'.cell? ⟨bT, oT + sn * 4 + 3, none⟩ = some (.slice va t.ps.length vc) ∧ w'.cell? ⟨bV, oV + i * 3, none⟩ = some (.int .i64 x.k) ∧ w'.cell? ⟨bV, oV + i * 3 + 1, none⟩ = some (.int .u64 x.n) ∧ w'.cell? ⟨bV, oV + i * 3 + 2, none⟩ = some (.int .i64 x.kids)) (by kernel_rfl) (HSS.out _ (.inl ((Below.refl wq.heap.size wq).drew))) (fun hHeld => ?_)
          refine wpAnyF_take [22] (by kernel_rfl) (i := 0) (v := ?vb1) rfl (by kernel_rfl) (by kernel_rfl) (by kernel_rfl) (fun _ _ _ h => h) (Or.inl ⟨by kernel_rfl, ?hyb1⟩) hHeld ?restb1
          case hyb1 => intro w' hSw; (try dsimp only at hSw); go_simp; try with_reducible rfl
          simp only [Act.put]
          refine wpAnyF_take [22] (by kernel_rfl) (i := 1) (v := ?vb2) rfl (by kernel_rfl) (by kernel_rfl) (by kernel_rfl) (fun _ _ _ h => h) (Or.inl ⟨by kernel_rfl, ?hyb2⟩) hHeld ?restb2
          case hyb2 => intro w' hSw; (try dsimp only at hSw); go_simp; try with_reducible rfl
          simp only [Act.put]
          refine wpAnyF_take [22] (by kernel_rfl) (i := 2) (v := ?vb3) rfl (by kernel_rfl) (by kernel_rfl) (by kernel_rfl) (fun _ _ _ h => h) (Or.inl ⟨by kernel_rfl, ?hyb3⟩) hHeld ?restb3
          case hyb3 => intro w' hSw; (try dsimp only at hSw); go_simp; try with_reducible rfl
          simp only [Act.put]
          refine wpAnyF_take [22] (by kernel_rfl) (i := 3) (v := ?vb4) rfl (by kernel_rfl) (by kernel_rfl) (by kernel_rfl) (fun _ _ _ h => h) (Or.inl ⟨by kernel_rfl, ?hyb4⟩) hHeld ?restb4
          case hyb4 => intro w' hSw; (try dsimp only at hSw); go_simp; try with_reducible rfl
          simp only [Act.put]
          refine wpAnyF_take [22] (by kernel_rfl) (i := 4) (v := ?vb5) rfl (by kernel_rfl) (by kernel_rfl) (by kernel_rfl) (fun _ _ _ h => h) (Or.inl ⟨by kernel_rfl, ?hyb5⟩) hHeld ?restb5
          case hyb5 => intro w' hSw; (try dsimp only at hSw); go_simp; try with_reducible rfl
          simp only [Act.put]
          refine wpAnyF_take [22] (by kernel_rfl) (i := 5) (v := ?vb6) rfl (by kernel_rfl) (by kernel_rfl) (by kernel_rfl) (fun _ _ _ h => h) (Or.inl ⟨by kernel_rfl, ?hyb6⟩) hHeld ?restb6
          case hyb6 => intro w' hSw; (try dsimp only at hSw); go_simp; try with_reducible rfl
          simp only [Act.put]
          refine wpAnyF_take [22] (by kernel_rfl) (i := 6) (v := ?vb7) rfl (by kernel_rfl) (by kernel_rfl) (by kernel_rfl) (fun _ _ _ h => h) (Or.inl ⟨by kernel_rfl, ?hyb7⟩) hHeld ?restb7
          case hyb7 => intro w' hSw; (try dsimp only at hSw); go_simp; try with_reducible rfl
          simp only [Act.put]
          refine wpAnyF_take [22] (by kernel_rfl) (i := 7) (v := ?vb8) rfl (by kernel_rfl) (by kernel_rfl) (by kernel_rfl) (fun _ _ _ h => h) (Or.inl ⟨by kernel_rfl, ?hyb8⟩) hHeld ?restb8
          case hyb8 => intro w' hSw; (try dsimp only at hSw); go_simp; try with_reducible rfl
          simp only [Act.put]
          refine wpAnyF_take [22] (by kernel_rfl) (i := 8) (v := ?vb9) rfl (by kernel_rfl) (by kernel_rfl) (by kernel_rfl) (fun _ _ _ h => h) (Or.inl ⟨by kernel_rfl, ?hyb9⟩) hHeld ?restb9
          case hyb9 => intro w' hSw; (try dsimp only at hSw); go_simp; try with_reducible rfl
          simp only [Act.put]
          refine wpAnyF_take [22] (by kernel_rfl) (i := 9) (v := ?vb10) rfl (by kernel_rfl) (by kernel_rfl) (by kernel_rfl) (fun _ _ _ h => h) (Or.inl ⟨by kernel_rfl, ?hyb10⟩) hHeld ?restb10
          case hyb10 => intro w' hSw; (try dsimp only at hSw); go_simp; try with_reducible rfl
          simp only [Act.put]
          refine wpAnyF_take [22] (by kernel_rfl) (i := 10) (v := ?vb11) rfl (by kernel_rfl) (by kernel_rfl) (by kernel_rfl) (fun _ _ _ h => h) (Or.inl ⟨by kernel_rfl, ?hyb11⟩) hHeld ?restb11
          case hyb11 => intro w' hSw; (try dsimp only at hSw); go_simp; try with_reducible rfl
          simp only [Act.put]
          refine wpAnyF_take [22] (by kernel_rfl) (i := 12) (v := ?vb12) rfl (by kernel_rfl) (by kernel_rfl) (by kernel_rfl) (fun _ _ _ h => h) (Or.inl ⟨by kernel_rfl, ?hyb12⟩) hHeld ?restb12
          case hyb12 => intro w' hSw; (try dsimp only at hSw); go_simp; try with_reducible rfl
          simp only [Act.put]
          refine wpAnyF_take [22] (by kernel_rfl) (i := 13) (v := ?vb13) rfl (by kernel_rfl) (by kernel_rfl) (by kernel_rfl) (fun _ _ _ h => h) (Or.inl ⟨by kernel_rfl, ?hyb13⟩) hHeld ?restb13
          case hyb13 => intro w' hSw; (try dsimp only at hSw); go_simp; try with_reducible rfl
          simp only [Act.put]
          refine wpAnyF_take [22] (by kernel_rfl) (i := 14) (v := ?vb14) rfl (by kernel_rfl) (by kernel_rfl) (by kernel_rfl) (fun _ _ _ h => h) (Or.inl ⟨by kernel_rfl, ?hyb14⟩) hHeld ?restb14
          case hyb14 => intro w' hSw; (try dsimp only at hSw); go_simp; try with_reducible rfl
          simp only [Act.put]
          refine wpAnyF_ready (rs := [11]) (by kernel_rfl) (by simp) ?_
          refine AllReadyF.cons rfl (fun K hK => ?_) AllReadyF.nil
          go_simp
          refine (HEl.out _ ((Below.refl wq.heap.size wq).drew)).mono ?_
          rintro e w5 ⟨rfl, hB5⟩
          dsimp only
          have HB5 := hide_ (below_to ((Below.refl wq.heap.size wq).drew) hB5)
          clear hB5
          refine hK.out _ _ (HSS.out _ (.inl HB5.out)) (fun hHeld => ?_)
          clear hK K
          refine wpAnyF_ready (rs := [15]) (by kernel_rfl) (by simp) ?_
          refine AllReadyF.cons rfl (fun K hK => ?_) AllReadyF.nil
          go_simp
          refine (HWa.out _ HB5.out).mono ?_
          rintro e w6 ⟨v2, p2, E, A, rfl, HU6, HW6⟩
          dsimp only
          have HB6 : Hid (Below wb.heap.size wb w6) := hide_ ((HBw.out.trans (HB5.out.mono hzq)).trans (HU6.out.below _ (Nat.le_trans hzq HB5.out.size) (fun b hb => (HOq.out.lt b hb).1)))
          refine hK.out _ _ (HSS.out _ (.inr ((Upd.of_below HB5.out).to HU6.out))) (fun hHeld => ?_)
          clear hK K
          refine wpAnyF_take [22] (by kernel_rfl) (i := 16) (v := ?vb15) rfl (by kernel_rfl) (by kernel_rfl) (by kernel_rfl) (fun _ _ _ h => h) (Or.inl ⟨by kernel_rfl, ?hyb15⟩) hHeld ?restb15
          case hyb15 => intro w' hSw; (try dsimp only at hSw); go_simp; try with_reducible rfl
          simp only [Act.put]
          refine wpAnyF_take [22] (by kernel_rfl) (i := 17) (v := ?vb16) rfl (by kernel_rfl) (by kernel_rfl) (by kernel_rfl) (fun _ _ _ h => h) (Or.inl ⟨by kernel_rfl, ?hyb16⟩) hHeld ?restb16
          case hyb16 => intro w' hSw; (try dsimp only at hSw); go_simp; try with_reducible rfl
          simp only [Act.put]
          refine wpAnyF_take [22] (by kernel_rfl) (i := 18) (v := ?vb17) rfl (by kernel_rfl) (by kernel_rfl) (by kernel_rfl) (fun _ _ _ h => h) (Or.inl ⟨by kernel_rfl, ?hyb17⟩) hHeld ?restb17
          case hyb17 => intro w' hSw; (try dsimp only at hSw); go_simp; try with_reducible rfl
          simp only [Act.put]
          refine wpAnyF_take [22] (by kernel_rfl) (i := 19) (v := ?vb18) rfl (by kernel_rfl) (by kernel_rfl) (by kernel_rfl) (fun _ _ _ h => h) (Or.inl ⟨by kernel_rfl, ?hyb18⟩) hHeld ?restb18
          case hyb18 => intro w' hSw; (try dsimp only at hSw); go_simp; try with_reducible rfl
          simp only [Act.put]
          refine wpAnyF_take [22] (by kernel_rfl) (i := 20) (v := ?vb19) rfl (by kernel_rfl) (by kernel_rfl) (by kernel_rfl) (fun _ _ _ h => h) (Or.inl ⟨by kernel_rfl, ?hyb19⟩) hHeld ?restb19
          case hyb19 => intro w' hSw; (try dsimp only at hSw); go_simp; try with_reducible rfl
          simp only [Act.put]
          refine wpAnyF_take [22] (by kernel_rfl) (i := 21) (v := ?vb20) rfl (by kernel_rfl) (by kernel_rfl) (by kernel_rfl) (fun _ _ _ h => h) (Or.inl ⟨by kernel_rfl, ?hyb20⟩) hHeld ?restb20
          case hyb20 => intro w' hSw; (try dsimp only at hSw); go_simp; try with_reducible rfl
          simp only [Act.put]
          refine wpAnyF_ready (rs := [22]) (by kernel_rfl) (by simp) ?_
          refine AllReadyF.last rfl (fun K hK => ?_)
          have nb : ∀ b t' ys, Blk w5 b t' ys → t' ≠ 3 → ¬ v1.ownBlock = some b := fun b t' ys hb ht => (HOq.out.later HB5.out).ne hb ht
          have k15 := (KF.out.later HB5.out).upd HU6.out (nb _ _ _ (KF.out.later HB5.out) (by decide))
          have k12 := (KR.out.later HB5.out).upd HU6.out (nb _ _ _ (KR.out.later HB5.out) (by decide))
          have k5 := (KS.out.later HB5.out).upd HU6.out (nb _ _ _ (KS.out.later HB5.out) (by decide))
          have l0 := k15.cell 0; have l1 := k15.cell 1
          have lf := fun i => k15.frozen i
          simp at l0 l1
          have hu6 : Upd (fun b => v.ownBlock = some b) w w6 := by
            refine (HUq.out.then HB5.out).trans HU6.out (fun b hb hk => ?_)
            rcases HLi.out b hk with h | h
            · exact h
            · omega
          go_simp
          refine hK.out _ _ ?_
          clear hK K
          refine wpAnyF_done (by kernel_rfl) ?_ _
          have K15 := hide_ (wr2 k15 (.int .i64 E) (.int .i64 A))
          have K12 := hide_ ((k12.other ⟨g15, 0, none⟩ (.int .i64 E) (by show w.heap.size + 1 ≠ g15; omega)).other ⟨g15, 1, none⟩ (.int .i64 A) (by show w.heap.size + 1 ≠ g15; omega))
          have K5 := hide_ ((k5.other ⟨g15, 0, none⟩ (.int .i64 E) (by show w.heap.size ≠ g15; omega)).other ⟨g15, 1, none⟩ (.int .i64 A) (by show w.heap.size ≠ g15; omega))
          have HU7 := hide_ ((hu6.set ⟨g15, 0, none⟩ (.int .i64 E) (.inr (by show w.heap.size ≤ g15; omega))).set ⟨g15, 1, none⟩ (.int .i64 A) (.inr (by show w.heap.size ≤ g15; omega)))
          have HOn : Hid (E = 0 → ∃ nums2, WkI T t0 V p2 ((kidsT t x).drop (k + 1) ++ st) nums2 ∧ p1 < p2 ∧ IOwn ((w6.setCell ⟨g15, 0, none⟩ (.int .i64 E)).setCell ⟨g15, 1, none⟩ (.int .i64 A)) wb.heap.size v2 nums2 ∧ ∀ b, v2.ownBlock = some b → v.ownBlock = some b ∨ w.heap.size ≤ b) := hide_ (fun hE => by
            rcases HW6.out with ⟨h, -, -⟩ | ⟨-, hA, hp, nums2, hwk, ho, hli⟩
            · exact absurd hE h
            · refine ⟨nums2, hwk, hp, ho.upd (((Upd.refl (fun b => b = g15) w6).set ⟨g15, 0, none⟩ (.int .i64 E) (.inl rfl)).set ⟨g15, 1, none⟩ (.int .i64 A) (.inl rfl)) (fun b hb e => ?_), fun b hb => ?_⟩
              · obtain ⟨zs, hz⟩ := ownS_type ho hb
                subst e
                exact absurd (blk_type k15 hz) (by decide)
              · rcases hli b hb with h | h
                · exact HLi.out b h
                · exact .inr (Nat.le_trans (Nat.le_trans HUq.out.size HB5.out.size) h))
          have HEr : Hid (E ≠ 0 → wkT T [t0] V 0 = ([], E, A)) := hide_ (fun hE => by
            rcases HW6.out with ⟨-, h, -⟩ | ⟨h, -⟩
            · exact h
            · exact absurd h hE)
          have HAz : Hid (E = 0 → A = 0) := hide_ (fun hE => by
            rcases HW6.out with ⟨h, -, -⟩ | ⟨-, h, -⟩
            · exact absurd hE h
            · exact h)
          clear HW6 HU6 hu6 k15 k12 k5 l0 l1 lf nb HB6 hHeld
          generalize hw7 : (w6.setCell ⟨g15, 0, none⟩ (.int .i64 E)).setCell ⟨g15, 1, none⟩ (.int .i64 A) = w7 at *
          clear hw7
          have m0 := K15.out.cell 0; have m1 := K15.out.cell 1
          simp at m0 m1
          by_cases hE : E = 0
          · have hA := HAz.out hE
            subst hE hA
            obtain ⟨nums2, hwk, hpp, ho, hli⟩ := HOn.out rfl
            have HWn := hide_ hwk
            have HOwn := hide_ ho
            have HLn := hide_ hli
            clear HOn HEr HAz hwk ho hli
            go_wp2_with fail
            go_roundw
            case rel => exact ⟨v2, p2, k + 1, nums2, rfl, rfl, by go_num, by omega, by omega, HWn, HOwn, HLn, HU7, K5, K12, K15⟩
            case measure => simp [intOf]; omega
          · have hE1 : (E != 0) = true := by simpa using hE
            have HF := hide_ (HEr.out hE)
            have n0 := K12.out.cell 0; have n1 := K12.out.cell 1
            have nf := fun i => K12.out.frozen i
            simp at n0 n1
            have HKz := hide_ (wr2 K12.out (.int .i64 E) (.int .i64 A))
            have HUz := hide_ ((HU7.out.set ⟨w.heap.size + 1, 0, none⟩ (.int .i64 E) (.inr (by show w.heap.size ≤ w.heap.size + 1; omega))).set ⟨w.heap.size + 1, 1, none⟩ (.int .i64 A) (.inr (by show w.heap.size ≤ w.heap.size + 1; omega)))
            go_wp2_with fail
            go_region
            all_goals
              go_wp2
              exact retTTF (v1 := .slice none 0 0) (v2 := .int .i64 ((0 : Nat) : Int)) rfl rfl rfl rfl HKz.out ⟨_, 0, E, A, rfl, hide_ (by have h := HUz.out; exact ⟨h.os, h.tape, h.output, h.size, h.block⟩), hide_ (.inl ⟨hE, HF.out, rfl⟩)⟩
        · have hkl' : ¬ (k : Int) < x.kids := hkl
          have hkl2 : kidsT t x = (kidsT t x).take k := by
            have hl := kidsT_len HOk.out HM.out hrx
            rw [List.take_of_length_le (by omega)]
          have HWf : Hid (WkI T t0 V p1 st nums1) := hide_ (by
            have h := HWq.out
            have hl := kidsT_len HOk.out HM.out hrx
            rw [List.drop_eq_nil_of_le (by omega), List.nil_append] at h
            exact h)
          clear hkl2
          have l0 := KF.out.cell 0; have l1 := KF.out.cell 1
          have n0 := KR.out.cell 0; have n1 := KR.out.cell 1
          have nf := fun i => KR.out.frozen i
          simp at l0 l1 n0 n1
          have HKz := hide_ (wr2 KR.out (.int .i64 0) (.int .i64 0))
          have HUz := hide_ ((HUq.out.set ⟨w.heap.size + 1, 0, none⟩ (.int .i64 0) (.inr (by show w.heap.size ≤ w.heap.size + 1; omega))).set ⟨w.heap.size + 1, 1, none⟩ (.int .i64 0) (.inr (by show w.heap.size ≤ w.heap.size + 1; omega)))
          have HOz : Hid (IOwn ((wq.setCell ⟨w.heap.size + 1, 0, none⟩ (.int .i64 0)).setCell ⟨w.heap.size + 1, 1, none⟩ (.int .i64 0)) wb.heap.size v1 nums1) := hide_ (HOq.out.upd (((Upd.refl (fun b => b = w.heap.size + 1) wq).set ⟨w.heap.size + 1, 0, none⟩ (.int .i64 0) (.inl rfl)).set ⟨w.heap.size + 1, 1, none⟩ (.int .i64 0) (.inl rfl)) (fun b hb e => by
            obtain ⟨zs, hz⟩ := ownS_type HOq.out hb
            subst e
            exact absurd (blk_type KR.out hz) (by decide)))
          go_wp2_with fail
          go_region
          all_goals
            go_wp2
            exact retTTF (v1 := v1) (v2 := .int .i64 (p1 : Int)) rfl rfl rfl rfl HKz.out ⟨v1, p1, 0, 0, rfl, hide_ (by have h := HUz.out; exact ⟨h.os, h.tape, h.output, h.size, h.block⟩), hide_ (.inr ⟨rfl, rfl, hip, nums1, HWf.out, HOz.out.later ((Below.refl _ _).drew), HLi.out⟩)⟩
    · have hM1 : (M != 0) = true := by simpa using hM0
      have HF := hide_ (HBad.out hM0)
      have n0 := KR2.out.cell 0; have n1 := KR2.out.cell 1
      have nf := fun i => KR2.out.frozen i
      simp at n0 n1
      have HKz := hide_ (wr2 KR2.out (.int .i64 M) (.int .i64 (i : Int)))
      have HUz := hide_ ((HU2.out.set ⟨w.heap.size + 1, 0, none⟩ (.int .i64 M) (.inr (by show w.heap.size ≤ w.heap.size + 1; omega))).set ⟨w.heap.size + 1, 1, none⟩ (.int .i64 (i : Int)) (.inr (by show w.heap.size ≤ w.heap.size + 1; omega)))
      go_wp2
      exact retTTF (v1 := .slice none 0 0) (v2 := .int .i64 ((0 : Nat) : Int)) rfl rfl rfl rfl HKz.out ⟨_, 0, M, (i : Int), rfl, HUz, hide_ (.inl ⟨hM0, HF.out, rfl⟩)⟩
end Go.Proofs.Ytdpkmkhflgmioaa

/- The document's Types. -/
namespace Go.Proofs.Ytdpkmkhflgmioaa
open Go.RowKit
set_option linter.unusedVariables false

/-- What the document's Types answers. -/
def TyTo (A : List Int × Int × Int) (w : World) (e : Ending) (w' : World) : Prop := ∃ v, e = .returned (.tuple #[v, .agg #[.int .i64 A.2.1, .int .i64 A.2.2]]) ∧ Hid (IOwn w' w.heap.size v A.1) ∧ Hid (Below w.heap.size w w')
theorem wk_end {T : List Ty} {t : Int} {V : List Nv} {p : Nat} {nums : List Int} (h : WkI T t V p [] nums) : wkT T [t] V 0 = (nums, 0, 0) := by
  rw [h.ans]
  have e : wkT T [] (V.drop p) p = ([], 0, 0) := by unfold wkT; rfl
  rw [e]
  unfold apT
  simp
set_option maxRecDepth 100000 in
set_option maxHeartbeats 8000000 in
theorem typesR_any (aT : Option Addr) (cT : Nat) (T : List Ty) (aR : Option Addr) (cR : Nat) (R : List Rt) (t : Int) (aV : Option Addr) (cV : Nat) (V : List Nv) (w : World) (hn : T.length ≤ 1000000000) (hm : R.length ≤ 10000000000000) (hV : V.length ≤ 2000000) (hL : Hid (LensT T)) (hT : Hid (TRow w aT T)) (hRr : Hid (RRow w aR R)) (hVr : Hid (VRow w aV V)) (hNv : Hid (∀ x ∈ V, NvOk x)) :
    Calls Try.prog 14 #[.agg #[.slice aT T.length cT, .slice aR R.length cR], .int .i64 t, .slice aV V.length cV] w fun e w' => TyTo (tyV T R t V) w e w' := by
  have hB := below2 w (.cells #[.slice aT T.length cT, .slice aR R.length cR] 25) (.cells #[.int .i64 0, .int .i64 0] 34)
  obtain ⟨k1, k2⟩ := blk2 w #[.slice aT T.length cT, .slice aR R.length cR] #[.int .i64 0, .int .i64 0] 25 34
  obtain ⟨w0, hw0⟩ : ∃ wx, wx = (w.alloc (.cells #[.slice aT T.length cT, .slice aR R.length cR] 25)).alloc (.cells #[.int .i64 0, .int .i64 0] 34) := ⟨_, rfl⟩
  rw [← hw0] at hB k1 k2
  have HB0 := hide_ hB
  have K1 := hide_ k1
  have K2 := hide_ k2
  have hz0 : w.heap.size + 1 < w0.heap.size := k2.lt
  have i0 := k1.cell 0; have i1 := k1.cell 1
  simp at i0 i1
  have HCk := hide_ (checkR_any aT cT T aR cR R w0 (by omega) hm hL (hide_ (hT.out.later hB)) (hide_ (hRr.out.later hB)))
  obtain ⟨E, hE⟩ : ∃ E, (chk T R).1 = E := ⟨_, rfl⟩
  obtain ⟨A, hA⟩ : ∃ A, (chk T R).2 = A := ⟨_, rfl⟩
  rw [hE, hA] at HCk
  have HE : Hid (chk T R = (E, A)) := hide_ (by rw [← hE, ← hA])
  clear hB k1 k2 hE hA
  go_enter Try.func14, Try.ntmps14
  go_upto_region 1 with fail
  rw [← hw0]
  clear hw0
  go_wp2_with fail
  refine HCk.out.mono ?_; rintro e w1 ⟨rfl, hB1⟩
  obtain ⟨w2, hw2⟩ : ∃ wx, wx = w1.alloc (.cells #[.int .i64 E, .int .i64 A] 34) := ⟨_, rfl⟩
  have kf : Blk w2 w1.heap.size 34 [.int .i64 E, .int .i64 A] := by rw [hw2]; exact Blk.newA w1 _ _
  have hb2 : Below w1.heap.size w1 w2 := by rw [hw2]; exact below1 _ _
  have HB2 := hide_ (below_to hB1 hb2)
  have KF := hide_ kf
  have K12 := hide_ (K1.out.later HB2.out)
  have K22 := hide_ (K2.out.later HB2.out)
  have HBw := hide_ (below_to HB0.out HB2.out)
  have hz1 : w0.heap.size ≤ w1.heap.size := hB1.size
  have j0 := kf.cell 0; have j1 := kf.cell 1
  have n0 := K22.out.cell 0; have n1 := K22.out.cell 1
  have nf := fun i => K22.out.frozen i
  simp at j0 j1 n0 n1
  clear i0 i1
  have i0 := K12.out.cell 0; have i1 := K12.out.cell 1
  simp at i0 i1
  clear hB1 hb2 kf HCk
  go_upto_region 2 with fail
  rw [← hw2]
  clear hw2
  by_cases hE0 : E = 0
  · subst hE0
    have HOk := hide_ (okS_of (T := T) (R := R) (by rw [HE.out]))
    by_cases ht : t < 0 ∨ (T.length : Int) ≤ t
    · have HV : Hid (tyV T R t V = ([], 3, 0)) := hide_ (by unfold tyV; rw [HE.out, if_neg (by simp), if_pos ht])
      have HKz := hide_ (wr2 K22.out (.int .i64 3) (.int .i64 0))
      have HBz := hide_ (below_wr2 HBw.out (w.heap.size + 1) (by omega) (.int .i64 3) (.int .i64 0))
      by_cases ht0 : t < 0
      · have hd : decide (t < 0) = true := decide_eq_true ht0
        go_wp2
        exact retTF (x := 3) (y := 0) rfl rfl rfl HKz.out ⟨.slice none 0 0, by rw [HV.out]; rfl, hide_ (by rw [HV.out]; exact IOwn.nil _ _), HBz⟩
      · have hd : decide (t < 0) = false := decide_eq_false ht0
        have hd2 : (T.length : Int) ≤ t := by omega
        go_wp2
        exact retTF (x := 3) (y := 0) rfl rfl rfl HKz.out ⟨.slice none 0 0, by rw [HV.out]; rfl, hide_ (by rw [HV.out]; exact IOwn.nil _ _), HBz⟩
    · have hd : decide (t < 0) = false := decide_eq_false (by omega)
      have hd1 : ¬ t < 0 := by omega
      have hd2 : ¬ (T.length : Int) ≤ t := by omega
      obtain ⟨E2, hE2⟩ : ∃ E, (chkV 1 0 V).1 = E := ⟨_, rfl⟩
      obtain ⟨A2, hA2⟩ : ∃ A, (chkV 1 0 V).2 = A := ⟨_, rfl⟩
      have HCv : Hid (Calls Try.prog 32 #[.slice aV V.length cV] w2 fun e w' => e = .returned (.tuple #[.int .i64 E2, .int .i64 A2]) ∧ Below w2.heap.size w2 w') := hide_ (by
        rw [← hE2, ← hA2]
        exact checkN_any aV V.length cV V w2 rfl hV (hide_ (hVr.out.later HBw.out)) hNv)
      have HE2 : Hid (chkV 1 0 V = (E2, A2)) := hide_ (by rw [← hE2, ← hA2])
      clear hE2 hA2
      go_wp2_with fail
      refine HCv.out.mono ?_; rintro e w3 ⟨rfl, hB3⟩
      have HBw3 := hide_ (below_to HBw.out hB3)
      have K13 := hide_ (K12.out.later hB3)
      have K23 := hide_ (K22.out.later hB3)
      have KF3 := hide_ (KF.out.later hB3)
      have hz3 : w2.heap.size ≤ w3.heap.size := hB3.size
      clear i0 i1 j0 j1 n0 n1 nf hB3 HCv
      have n0 := K23.out.cell 0; have n1 := K23.out.cell 1
      have nf := fun i => K23.out.frozen i
      have i0 := K13.out.cell 0; have i1 := K13.out.cell 1
      simp at i0 i1 n0 n1
      by_cases hE20 : E2 = 0
      · subst hE20
        have hcv : (chkV 1 0 V).1 = 0 := by rw [HE2.out]
        have hVl : 0 < V.length := by
          have h1 := chkV_le V 1 0 (by omega) hcv
          omega
        have hTl : 0 < T.length := by omega
        have HWk : Hid (WkI T t V 0 (t :: []) []) := hide_ (WkI.start (by omega) (by omega) hcv)
        obtain ⟨bT, oT, eT, -, -⟩ := hT.out.open hTl
        subst eT
        obtain ⟨bV, oV, eV, -, -⟩ := hVr.out.open hVl
        subst eV
        have HWa := hide_ (walk_any w3 bT oT cT T aR cR R bV oV cV V t hV HOk hNv (hide_ (hT.out.later HBw3.out)) (hide_ (hVr.out.later HBw3.out)) V.length 0 t [] [] (.slice none 0 0) w3 (by omega) (hide_ (Below.refl _ _)) HWk (hide_ (IOwn.nil _ _)))
        have hzw : w.heap.size ≤ w3.heap.size := HBw3.out.size
        clear hcv
        go_wp2_with fail
        refine HWa.out.mono ?_
        rintro e w4 ⟨v2, p, E3, A3, rfl, HU4, HW4⟩
        have hb4 : Below w3.heap.size w3 w4 := HU4.out.below _ (Nat.le_refl _) (fun k hk => by cases hk)
        have HV : Hid (∃ nums, tyV T R t V = (nums, E3, A3) ∧ IOwn w4 w3.heap.size v2 nums) := hide_ (by
          have e1 : tyV T R t V = wkT T [t] V 0 := by unfold tyV; rw [HE.out, if_neg (by simp), if_neg ht, HE2.out, if_neg (by simp)]
          rcases HW4.out with ⟨h1, h2, h3⟩ | ⟨h1, h2, -, nums, h3, h4, -⟩
          · subst h3
            exact ⟨[], by rw [e1, h2], IOwn.nil _ _⟩
          · subst h1 h2
            exact ⟨nums, by rw [e1, wk_end h3], h4⟩)
        obtain ⟨nums, hty, ho⟩ := HV.out
        have HTy := hide_ hty
        have HO4 := hide_ ho
        have K24 := hide_ (K23.out.later hb4)
        have KF4 := hide_ (KF3.out.later hb4)
        have HB4 := hide_ (below_to HBw3.out hb4)
        clear hb4 HV HW4 HU4 hty ho HWa i0 i1 n0 n1 nf
        have j0 := KF4.out.cell 0; have j1 := KF4.out.cell 1
        have jf := fun i => KF4.out.frozen i
        simp at j0 j1
        have kf5 := wr2 KF4.out (.int .i64 E3) (.int .i64 A3)
        have hne : w.heap.size + 1 ≠ w1.heap.size := by omega
        have k25 := (K24.out.other ⟨w1.heap.size, 0, none⟩ (.int .i64 E3) hne).other ⟨w1.heap.size, 1, none⟩ (.int .i64 A3) hne
        have hB5 := below_wr2 HB4.out w1.heap.size (by omega) (.int .i64 E3) (.int .i64 A3)
        have ho5 := HO4.out.upd (((Upd.refl (fun b => b = w1.heap.size) w4).set ⟨w1.heap.size, 0, none⟩ (.int .i64 E3) (.inl rfl)).set ⟨w1.heap.size, 1, none⟩ (.int .i64 A3) (.inl rfl)) (fun b hb e => by
          obtain ⟨zs, hz⟩ := ownS_type HO4.out hb
          subst e
          exact absurd (blk_type KF4.out hz) (by decide))
        obtain ⟨w5, hw5⟩ : ∃ wx, wx = (w4.setCell ⟨w1.heap.size, 0, none⟩ (.int .i64 E3)).setCell ⟨w1.heap.size, 1, none⟩ (.int .i64 A3) := ⟨_, rfl⟩
        rw [← hw5] at kf5 k25 hB5 ho5
        have HKz := hide_ (wr2 k25 (.int .i64 E3) (.int .i64 A3))
        have HBz := hide_ (below_wr2 hB5 (w.heap.size + 1) (by omega) (.int .i64 E3) (.int .i64 A3))
        have HOz := hide_ (ho5.upd (((Upd.refl (fun b => b = w.heap.size + 1) w5).set ⟨w.heap.size + 1, 0, none⟩ (.int .i64 E3) (.inl rfl)).set ⟨w.heap.size + 1, 1, none⟩ (.int .i64 A3) (.inl rfl)) (fun b hb e => by
          obtain ⟨zs, hz⟩ := ownS_type ho5 hb
          subst e
          exact absurd (blk_type k25 hz) (by decide)))
        have m0 := kf5.cell 0; have m1 := kf5.cell 1
        have n0 := k25.cell 0; have n1 := k25.cell 1
        have nf := fun i => k25.frozen i
        simp at m0 m1 n0 n1
        clear kf5 k25 hB5 ho5 hne
        go_upto_region 10 with fail
        rw [← hw5]
        clear hw5 j0 j1 jf
        go_region
        all_goals
          go_wp2
          exact retTF (x := E3) (y := A3) rfl rfl rfl HKz.out ⟨v2, by rw [HTy.out]; rfl, hide_ (by rw [HTy.out]; exact (HOz.out.later ((Below.refl _ _).drew)).base hzw), hide_ (HBz.out.drew)⟩
      · have hE21 : (E2 != 0) = true := by simpa using hE20
        have HV : Hid (tyV T R t V = ([], E2, A2)) := hide_ (by unfold tyV; rw [HE.out, if_neg (by simp), if_neg ht, HE2.out, if_pos (by simpa using hE20)])
        have HKz := hide_ (wr2 K23.out (.int .i64 E2) (.int .i64 A2))
        have HBz := hide_ (below_wr2 HBw3.out (w.heap.size + 1) (by omega) (.int .i64 E2) (.int .i64 A2))
        go_wp2
        exact retTF (x := E2) (y := A2) rfl rfl rfl HKz.out ⟨.slice none 0 0, by rw [HV.out]; rfl, hide_ (by rw [HV.out]; exact IOwn.nil _ _), HBz⟩
  · have hE1 : (E != 0) = true := by simpa using hE0
    have HV : Hid (tyV T R t V = ([], E, A)) := hide_ (by unfold tyV; rw [HE.out, if_pos (by simpa using hE0)])
    have HKz := hide_ (wr2 K22.out (.int .i64 E) (.int .i64 A))
    have HBz := hide_ (below_wr2 HBw.out (w.heap.size + 1) (by omega) (.int .i64 E) (.int .i64 A))
    go_wp2_with fail
    go_region
    all_goals
      go_wp2
      exact retTF (x := E) (y := A) rfl rfl rfl HKz.out ⟨.slice none 0 0, by rw [HV.out]; rfl, hide_ (by rw [HV.out]; exact IOwn.nil _ _), hide_ (HBz.out.drew)⟩
end Go.Proofs.Ytdpkmkhflgmioaa

/- The document's Making.some: plain part, and the walk. -/
namespace Go.Proofs.Ytdpkmkhflgmioaa
open Go.RowKit
set_option linter.unusedVariables false

/-- The document's making has come so far: it may go on beyond the bound, but not to an end. -/
structure RkI (T : List Ty) (t : Int) (p : List Int) (st : List Int) (V : List Nv) : Prop where
  inT : ∀ s ∈ st, 0 ≤ s ∧ s < T.length
  lenV : V.length ≤ 1048576
  way : MkI T t p st V ∨ (mkT T p 1048578 [t] [] = none ∧ 1048576 < V.length + st.length)
theorem RkI.start {T : List Ty} {t : Int} {p : List Int} (h0 : 0 ≤ t) (h1 : t < T.length) : RkI T t p [t] [] :=
  ⟨(MkI.start (p := p) h0 h1).inT, by simp, .inl (MkI.start h0 h1)⟩
theorem RkI.done {T : List Ty} {t : Int} {p : List Int} {V : List Nv} (h : RkI T t p [] V) : mkT T p 1048578 [t] [] = some V := by
  rcases h.way with h1 | ⟨-, h1⟩
  · exact h1.done
  · have := h.lenV
    simp at h1
    omega
theorem RkI.full {T : List Ty} {t : Int} {p : List Int} {s : Int} {st : List Int} {V : List Nv} (h : RkI T t p (s :: st) V) (hl : 1048576 ≤ V.length) : mkT T p 1048578 [t] [] = none := by
  rcases h.way with h1 | ⟨h1, -⟩
  · have := h1.len
    simp at this
    omega
  · exact h1
theorem RkI.next {T : List Ty} {R : List Rt} {t : Int} {p : List Int} {s : Int} {st : List Int} {V : List Nv} (h : RkI T t p (s :: st) V) (hS : OkS T R) (hl : V.length < 1048576) :
    0 ≤ s ∧ s < T.length ∧ misP (T.getD s.toNat ty0) (pickP (T.getD s.toNat ty0) (pickA p V.length)) = 0 ∧ rightV (pickP (T.getD s.toNat ty0) (pickA p V.length)) = true ∧
    RkI T t p (kidsT (T.getD s.toNat ty0) (pickP (T.getD s.toNat ty0) (pickA p V.length)) ++ st) (V ++ [pickP (T.getD s.toNat ty0) (pickA p V.length)]) := by
  obtain ⟨hs0, hs1⟩ := h.inT s (by simp)
  have hok := hS.ty s.toNat (by omega)
  rw [show ((s.toNat : Nat) : Int) = s by omega] at hok
  obtain ⟨hf, hr, hv⟩ := pick_fits hok (pickA_in p V.length)
  have hlen := kidsT_len hok hf hr
  refine ⟨hs0, hs1, hf, hr, fun s' hs' => ?_, ?_, ?_⟩
  · rcases List.mem_append.1 hs' with hs' | hs'
    · have := kidsT_in hok hf hr s' hs'; omega
    · exact h.inT s' (by simp [hs'])
  · rw [List.length_append, List.length_singleton]; omega
  · rcases h.way with h1 | ⟨h1, h2⟩
    · obtain ⟨-, -, -, -, h5, h6⟩ := h1.next hS
      by_cases hg : (V.length : Int) + (st.length + 1) + (pickP (T.getD s.toNat ty0) (pickA p V.length)).kids > 1048576
      · refine .inr ⟨h5 hg, ?_⟩
        rw [List.length_append, List.length_append, List.length_singleton]
        omega
      · exact .inl (h6 hg)
    · refine .inr ⟨h1, ?_⟩
      rw [List.length_append, List.length_append, List.length_singleton]
      rw [List.length_cons] at h2
      omega
end Go.Proofs.Ytdpkmkhflgmioaa
