/- size: extentOf, of a list. -/
import Derived.Test.YtncndgfaalojpaaZn
namespace Go.Proofs.Ytncndgfaalojpaa
open Go.RowKit
set_option linter.unusedVariables false

set_option maxRecDepth 100000 in
set_option maxHeartbeats 8000000 in
theorem ext5_any (n el : Int) (ps : List Pt) (va : Option Addr) (vc : Nat) (X : List Ex) (ax : Option Addr) (cx : Nat) (w : World) (hXl : X.length ≤ 10000000000000) (hbd : Hid (∀ x ∈ X, 0 ≤ x.d ∧ x.d ≤ 1000000)) (hok : Hid (tyOk ⟨5, n, el, ps⟩ X.length = true)) (hP : Hid (PRow w va ps)) (hX : Hid (XRow w ax X)) :
    Calls Try.prog 21 #[.agg #[.int .i64 5, .int .i64 n, .int .i64 el, .slice va ps.length vc], .slice ax X.length cx] w fun e w' => e = .returned (exv (ext1 X ⟨5, n, el, ps⟩)) ∧ Below w.heap.size w w' := by
  have hps := tyOk_len hok.out
  simp only at hps
  have hB := below2 w (.cells #[.int .i64 5, .int .i64 n, .int .i64 el, .slice va ps.length vc] 43) (.cells #[.bool false, .int .i64 0, .int .i64 0, .int .i64 0] 63)
  obtain ⟨k1, k2⟩ := blk2 w #[.int .i64 5, .int .i64 n, .int .i64 el, .slice va ps.length vc] #[.bool false, .int .i64 0, .int .i64 0, .int .i64 0] 43 63
  obtain ⟨w0, hw0⟩ : ∃ wx, wx = (w.alloc (.cells #[.int .i64 5, .int .i64 n, .int .i64 el, .slice va ps.length vc] 43)).alloc (.cells #[.bool false, .int .i64 0, .int .i64 0, .int .i64 0] 63) := ⟨_, rfl⟩
  rw [← hw0] at hB k1 k2
  have HB0 := hide_ hB
  have K1 := hide_ k1
  have K2 := hide_ k2
  have hs1 : w.heap.size < w0.heap.size := k1.lt
  have hs2 : w.heap.size + 1 < w0.heap.size := k2.lt
  have HCk := hide_ (kidsOf_any 5 n el ps va vc X ax cx w0 hXl hok (hide_ (hP.out.later hB)) (hide_ (hX.out.later hB)))
  have i0 := k1.cell 0; have i1 := k1.cell 1; have i2 := k1.cell 2; have i3 := k1.cell 3
  simp at i0 i1 i2 i3
  have hkl := kidL_len X 5 el ps
  have hdk := kidL_bd hbd.out 5 el ps
  obtain ⟨ks, hks⟩ : ∃ ks, kidL X 5 el ps = ks := ⟨_, rfl⟩
  rw [hks] at hkl hdk HCk
  have HKS := hide_ hks
  obtain ⟨dk, hde⟩ : ∃ dk, deepX ks = dk := ⟨_, rfl⟩
  rw [hde] at hdk
  have HDE := hide_ hde
  clear hB k1 k2 hks hde
  have HV : Hid (ext1 X ⟨5, n, el, ps⟩ = ⟨false, times2 0 (offX (exAt X el)).l, times2 n (offX (exAt X el)).m, 1 + dk⟩) := hide_ (by
    unfold ext1
    simp only
    rw [HKS.out, HDE.out]
    simp)
  go_enter Try.func21, Try.ntmps21
  go_upto_region 1 with fail
  rw [← hw0]
  clear hw0
  go_wp2_with fail
  refine HCk.out.mono ?_; rintro e w1 ⟨vk, rfl, HO1, HB1⟩
  obtain ⟨ak, ck, hvk, -, -, hXk⟩ := HO1.out.row
  subst hvk
  have HXk := hide_ hXk
  have HCd : Hid (Calls Try.prog 44 #[.slice ak ks.length ck] w1 fun e w' => e = .returned (.int .i64 dk) ∧ Below w1.heap.size w1 w') := hide_ (by have h := deepest_any ak ck ks w1 (by omega) HXk; rwa [HDE.out] at h)
  clear hXk HCk i0 i1 i2 i3
  go_wp2_with fail
  refine HCd.out.mono ?_; rintro e w2 ⟨rfl, hB2⟩
  have hwr : wrap64 (1 + dk) = 1 + dk := w64 _ (by omega)
  have kO := Blk.newA w2 #[.bool false, .int .i64 0, .int .i64 0, .int .i64 (1 + dk)] 63
  have hB3 := below1 w2 (.cells #[.bool false, .int .i64 0, .int .i64 0, .int .i64 (1 + dk)] 63)
  obtain ⟨w3, hw3⟩ : ∃ wx, wx = w2.alloc (.cells #[.bool false, .int .i64 0, .int .i64 0, .int .i64 (1 + dk)] 63) := ⟨_, rfl⟩
  rw [← hw3] at kO hB3
  have hB13 : Below w1.heap.size w1 w3 := below_to hB2 hB3
  have HB3 := hide_ (below_to HB1.out hB13)
  have HO3 := hide_ (HO1.out.later hB13)
  have hg2 : w0.heap.size ≤ w2.heap.size := Nat.le_trans HB1.out.size hB2.size
  have Hown : Hid (∀ k, (Value.slice ak ks.length ck).ownBlock = some k → k < w2.heap.size) := hide_ (fun k hk => Nat.lt_of_lt_of_le (HO1.out.lt k hk).2 hB2.size)
  have k1 := K1.out.later HB3.out
  have i0 := k1.cell 0; have i1 := k1.cell 1
  simp at i0 i1
  clear hB2 HCd HXk HO1
  go_upto_region 3 with fail
  rw [← hw3]
  clear hw3 hB13 hB3
  go_quiet (fail)
  have K1q := hide_ (k1.drewN nq)
  have KOq := hide_ (kO.drewN nq)
  have K2q := hide_ ((K2.out.later HB3.out).drewN nq)
  have HBq := hide_ (below_drewN HB3.out nq)
  have HOq := hide_ (HO3.out.later (below_drewN (Below.refl _ w3) nq))
  clear k1 kO i0 i1 HB3 HO3 K1 K2
  obtain ⟨g, hg⟩ : ∃ g, w2.heap.size = g := ⟨_, rfl⟩
  rw [hg] at KOq hg2 Hown
  generalize w3.drewN nq = w4 at *
  have k1 := K1q.out; have kO := KOq.out; have k2 := K2q.out
  have i0 := k1.cell 0; have i1 := k1.cell 1
  have j0 := kO.cell 0; have j1 := kO.cell 1; have j2 := kO.cell 2; have j3 := kO.cell 3
  simp at i0 i1 j0 j1 j2 j3
  have f1 := fun i => kO.frozen i
  have HBw := hide_ (below_to HB0.out HBq.out)
  clear k1 kO k2
  try rw [hg]
  clear hg
  have hel := tyOk_elem hok.out (show hasE 5 = true from rfl)
  simp only at hel
  have hnn := (tyOk_parts hok.out).1
  simp only [nOk] at hnn
  have hn1 : 1 ≤ n := by have := of_decide_eq_true hnn; omega
  clear hnn
  have hps0 : ps = [] := by
    have h := (tyOk_parts hok.out).2.2
    simp only [partsOk] at h
    simp at h
    exact h
  have hk1 : ks = [exAt X el] := by rw [← HKS.out, hps0]; simp [kidL, hasE]
  have HV2 : Hid (ext1 X ⟨5, n, el, ps⟩ = ⟨false, times2 0 (offX (exAt X el)).l, times2 n (offX (exAt X el)).m, 1 + dk⟩) := HV
  obtain ⟨ak2, ck2, hvk, -, -, hXk⟩ := HOq.out.row
  injection hvk with e1 _ e3
  subst e1 e3
  obtain ⟨bx, ox, rfl, hbx, hcX⟩ := hXk.open (by rw [hk1]; simp)
  have hcy := hcX 0 (exAt X el) (by rw [hk1]; rfl)
  have x0 := hcy 0 (by decide); have x1 := hcy 1 (by decide); have x2 := hcy 2 (by decide); have x3 := hcy 3 (by decide)
  simp [exc] at x0 x1 x2 x3
  have hkl1 : (0 : Int) < (ks.length : Int) := by rw [hk1]; simp
  have HCw := hide_ (withOffset_any (exAt X el) w4)
  generalize exAt X el = x at *
  obtain ⟨xf, xl, xm, xd⟩ := x
  simp only at x0 x1 x2 x3 HCw
  clear hk1 HKS hXk hcX hcy hbx HOq Hown HV
  go_wp2_with fail
  refine HCw.out.mono ?_; rintro e w5 ⟨rfl, hB5⟩
  generalize offX ⟨xf, xl, xm, xd⟩ = y at *
  obtain ⟨yf, yl, ym, yd⟩ := y
  simp only [exv] at HV2 ⊢
  have ky := Blk.newA w5 #[.bool yf, .int .i64 yl, .int .i64 ym, .int .i64 yd] 63
  have hBy := below1 w5 (.cells #[.bool yf, .int .i64 yl, .int .i64 ym, .int .i64 yd] 63)
  obtain ⟨w6, hw6⟩ : ∃ wx, wx = w5.alloc (.cells #[.bool yf, .int .i64 yl, .int .i64 ym, .int .i64 yd] 63) := ⟨_, rfl⟩
  rw [← hw6] at ky hBy
  have hB46 : Below w4.heap.size w4 w6 := below_to hB5 hBy
  have hgy : g < w5.heap.size := Nat.lt_of_lt_of_le KOq.out.lt hB5.size
  have KO6 := hide_ (KOq.out.later hB46)
  have K26 := hide_ (K2q.out.later hB46)
  have K16 := hide_ (K1q.out.later hB46)
  have KY6 := hide_ ky
  have HB6 := hide_ (below_to HBw.out hB46)
  clear i0 i1 j0 j1 j2 j3 f1 x0 x1 x2 x3 KOq K2q K1q HBw hB5 hBy ky hB46
  obtain ⟨gy, hgyE⟩ : ∃ gy, w5.heap.size = gy := ⟨_, rfl⟩
  rw [hgyE] at KY6 hgy
  go_upto_region 18 with fail
  rw [← hw6]
  try rw [hgyE]
  clear hw6 hgyE
  have i1 := K16.out.cell 1
  have j0 := KO6.out.cell 0; have j1 := KO6.out.cell 1; have j2 := KO6.out.cell 2; have j3 := KO6.out.cell 3
  have y0 := KY6.out.cell 0; have y1 := KY6.out.cell 1; have y2 := KY6.out.cell 2
  simp at i1 j0 j1 j2 j3 y0 y1 y2
  have f1 := fun i => KO6.out.frozen i
  obtain ⟨fx, hfx⟩ : ∃ fx, false = fx := ⟨_, rfl⟩
  have HFX := hide_ hfx
  rw [hfx] at HV2
  clear hfx
  have HKs0 : Hid (Blk (w6.setCell ⟨g, 0, none⟩ (.bool fx)) g 63 [.bool fx, .int .i64 0, .int .i64 0, .int .i64 (1 + dk)]) := hide_ (by have h := KO6.out.set 0 (.bool fx); simpa using h)
  have HRs0 : Hid (Blk (w6.setCell ⟨g, 0, none⟩ (.bool fx)) (w.heap.size + 1) 63 [.bool false, .int .i64 0, .int .i64 0, .int .i64 0]) := hide_ (K26.out.other _ _ (by show w.heap.size + 1 ≠ g; omega))
  have HTs0 : Hid (Blk (w6.setCell ⟨g, 0, none⟩ (.bool fx)) w.heap.size 43 [.int .i64 5, .int .i64 n, .int .i64 el, .slice va ps.length vc]) := hide_ (K16.out.other _ _ (by show w.heap.size ≠ g; omega))
  have HYs0 : Hid (Blk (w6.setCell ⟨g, 0, none⟩ (.bool fx)) gy 63 [.bool yf, .int .i64 yl, .int .i64 ym, .int .i64 yd]) := hide_ (KY6.out.other _ _ (by show gy ≠ g; omega))
  have HBs0 := hide_ (below_set HB6.out g 0 (.bool fx) (by omega))
  go_cut [] from 51 to 60 (fun wc => ∃ w7, w7 = wc ∧ Hid (w7 = w6.setCell ⟨g, 0, none⟩ (.bool fx)))
  case first =>
    cases yf with
    | true =>
      obtain rfl : false = fx := HFX.out
      have hn0 : ((0 : Int) == n) = false := by
        have h : ¬ (0 : Int) = n := by omega
        simpa using h
      go_wp2
      go_meet
      case rel => exact ⟨_, rfl, hide_ rfl⟩
    | false =>
      obtain rfl : false = fx := HFX.out
      go_wp2
      go_meet
      case rel => exact ⟨_, rfl, hide_ rfl⟩
  case rest =>
  obtain ⟨w7, rfl, HW7⟩ := hcut
  rw [← HW7.out] at HKs0 HRs0 HTs0 HYs0 HBs0
  clear i1 j0 j1 j2 j3 y0 y1 y2 f1 KO6 K26 K16 KY6 HB6
  obtain ⟨pl, hpl⟩ : ∃ pl, times2 0 yl = pl := ⟨_, rfl⟩
  obtain ⟨pm, hpm⟩ : ∃ pm, times2 n ym = pm := ⟨_, rfl⟩
  rw [hpl, hpm] at HV2
  have HV := HV2
  have HP1 := hide_ hpl
  have HP2 := hide_ hpm
  have i1 := HTs0.out.cell 1
  have j0 := HKs0.out.cell 0; have j1 := HKs0.out.cell 1; have j2 := HKs0.out.cell 2; have j3 := HKs0.out.cell 3
  have y1 := HYs0.out.cell 1; have y2 := HYs0.out.cell 2
  simp at i1 j0 j1 j2 j3 y1 y2
  have f1 := fun i => HKs0.out.frozen i
  clear hpl hpm HW7
  go_upto_region 19 with fail
  go_cut [] from 60 to 71 (fun wc => ∃ w8, w8 = wc ∧ Hid (Blk w8 g 63 [.bool fx, .int .i64 pl, .int .i64 pm, .int .i64 (1 + dk)]) ∧ Hid (Blk w8 (w.heap.size + 1) 63 [.bool false, .int .i64 0, .int .i64 0, .int .i64 0]) ∧ Hid (Below w.heap.size w w8))
  case first =>
    have HL : Hid (∀ v1 v2 : Value × Nat, (v1 = (.int .i64 pl, 1) ∧ v2 = (.int .i64 pm, 2)) ∨ (v2 = (.int .i64 pl, 1) ∧ v1 = (.int .i64 pm, 2)) → (Hid (Blk ((w7.setCell ⟨g, v1.2, none⟩ v1.1).setCell ⟨g, v2.2, none⟩ v2.1).drew g 63 [.bool fx, .int .i64 pl, .int .i64 pm, .int .i64 (1 + dk)]) ∧ Hid (Blk ((w7.setCell ⟨g, v1.2, none⟩ v1.1).setCell ⟨g, v2.2, none⟩ v2.1).drew (w.heap.size + 1) 63 [.bool false, .int .i64 0, .int .i64 0, .int .i64 0]) ∧ Hid (Below w.heap.size w ((w7.setCell ⟨g, v1.2, none⟩ v1.1).setCell ⟨g, v2.2, none⟩ v2.1).drew))) := hide_ (fun v1 v2 hv => by
      refine ⟨hide_ (Blk.drew ?_), hide_ (Blk.drew ?_), hide_ (Below.drew (below_set (below_set HBs0.out _ _ _ (by omega)) _ _ _ (by omega)))⟩
      · rcases hv with ⟨rfl, rfl⟩ | ⟨rfl, rfl⟩
        · have h := ((HKs0.out.set 1 (.int .i64 pl)).set 2 (.int .i64 pm))
          simpa using h
        · have h := ((HKs0.out.set 2 (.int .i64 pm)).set 1 (.int .i64 pl))
          simpa using h
      · exact (HRs0.out.other _ _ (by show w.heap.size + 1 ≠ g; omega)).other _ _ (by show w.heap.size + 1 ≠ g; omega))
    have HSt : Hid (∀ (o : Nat) (v : Value), (fun w' => w'.cell? ⟨gy, 1, none⟩ = some (.int .i64 yl) ∧ w'.cell? ⟨gy, 2, none⟩ = some (.int .i64 ym) ∧ w'.cell? ⟨w.heap.size, 1, none⟩ = some (.int .i64 n)) (w7.setCell ⟨g, o, none⟩ v).drew) := hide_ (fun o v => by
      exact ⟨(HYs0.out.other ⟨g, o, none⟩ v (by show gy ≠ g; omega)).drew.cell 1, (HYs0.out.other ⟨g, o, none⟩ v (by show gy ≠ g; omega)).drew.cell 2, (HTs0.out.other ⟨g, o, none⟩ v (by show w.heap.size ≠ g; omega)).drew.cell 1⟩)
    have HSt2 : Hid (∀ (o : Nat) (v : Value) (o2 : Nat) (v2 : Value), (fun w' => w'.cell? ⟨gy, 1, none⟩ = some (.int .i64 yl) ∧ w'.cell? ⟨gy, 2, none⟩ = some (.int .i64 ym) ∧ w'.cell? ⟨w.heap.size, 1, none⟩ = some (.int .i64 n)) ((w7.setCell ⟨g, o, none⟩ v).setCell ⟨g, o2, none⟩ v2).drew) := hide_ (fun o v o2 v2 => by
      exact ⟨((HYs0.out.other ⟨g, o, none⟩ v (by show gy ≠ g; omega)).other ⟨g, o2, none⟩ v2 (by show gy ≠ g; omega)).drew.cell 1, ((HYs0.out.other ⟨g, o, none⟩ v (by show gy ≠ g; omega)).other ⟨g, o2, none⟩ v2 (by show gy ≠ g; omega)).drew.cell 2, ((HTs0.out.other ⟨g, o, none⟩ v (by show w.heap.size ≠ g; omega)).other ⟨g, o2, none⟩ v2 (by show w.heap.size ≠ g; omega)).drew.cell 1⟩)
    go_wp2_with fail
    refine wp_region_held_drew (S := (fun w' => w'.cell? ⟨gy, 1, none⟩ = some (.int .i64 yl) ∧ w'.cell? ⟨gy, 2, none⟩ = some (.int .i64 ym) ∧ w'.cell? ⟨w.heap.size, 1, none⟩ = some (.int .i64 n))) (by kernel_rfl) (⟨y1, y2, i1⟩) (fun hHeld => ?_)
    refine wpAnyH_take (i := 0) (v := ?vq1) rfl (by kernel_rfl) (by kernel_rfl) (by kernel_rfl) (fun _ _ _ h => h) (Or.inl ⟨by rfl, ?hyq1⟩) hHeld ?restq1
    case hyq1 => intro w' hSw; (try dsimp only at hSw); go_simp; try with_reducible rfl
    simp only [Act.put]
    refine wpAnyH_take (i := 1) (v := ?vq2) rfl (by kernel_rfl) (by kernel_rfl) (by kernel_rfl) (fun _ _ _ h => h) (Or.inl ⟨by rfl, ?hyq2⟩) hHeld ?restq2
    case hyq2 => intro w' hSw; (try dsimp only at hSw); go_simp; try with_reducible rfl
    simp only [Act.put]
    refine wpAnyH_take (i := 2) (v := ?vq3) rfl (by kernel_rfl) (by kernel_rfl) (by kernel_rfl) (fun _ _ _ h => h) (Or.inl ⟨by rfl, ?hyq3⟩) hHeld ?restq3
    case hyq3 => intro w' hSw; (try dsimp only at hSw); go_simp; try with_reducible rfl
    simp only [Act.put]
    refine wpAnyH_take (i := 4) (v := ?vq4) rfl (by kernel_rfl) (by kernel_rfl) (by kernel_rfl) (fun _ _ _ h => h) (Or.inl ⟨by rfl, ?hyq4⟩) hHeld ?restq4
    case hyq4 => intro w' hSw; (try dsimp only at hSw); go_simp; try with_reducible rfl
    simp only [Act.put]
    refine wpAnyH_take (i := 5) (v := ?vq5) rfl (by kernel_rfl) (by kernel_rfl) (by kernel_rfl) (fun _ _ _ h => h) (Or.inl ⟨by rfl, ?hyq5⟩) hHeld ?restq5
    case hyq5 => intro w' hSw; (try dsimp only at hSw); go_simp; try with_reducible rfl
    simp only [Act.put]
    refine wpAnyH_take (i := 6) (v := ?vq6) rfl (by kernel_rfl) (by kernel_rfl) (by kernel_rfl) (fun _ _ _ h => h) (Or.inl ⟨by rfl, ?hyq6⟩) hHeld ?restq6
    case hyq6 => intro w' hSw; (try dsimp only at hSw); go_simp; try with_reducible rfl
    simp only [Act.put]
    refine wpAnyH_take (i := 7) (v := ?vq7) rfl (by kernel_rfl) (by kernel_rfl) (by kernel_rfl) (fun _ _ _ h => h) (Or.inl ⟨by rfl, ?hyq7⟩) hHeld ?restq7
    case hyq7 => intro w' hSw; (try dsimp only at hSw); go_simp; try with_reducible rfl
    simp only [Act.put]
    refine wpAnyH_ready (rs := [3]) (by kernel_rfl) (by simp) ?_
    refine AllReadyH.cons rfl (fun K hK => ?_) AllReadyH.nil
    go_simp
    refine (timesB_any _ _ _ _ HP1).mono ?_
    rintro e w' ⟨rfl, rfl⟩
    dsimp only
    refine hK.out _ _ (⟨y1, y2, i1⟩) (fun hHeld => ?_)
    clear hK K
    refine wpAnyH_take (i := 9) (v := ?vz01) rfl (by kernel_rfl) (by kernel_rfl) (by kernel_rfl) (fun _ _ _ h => h) (Or.inl ⟨by rfl, ?hyz01⟩) hHeld ?restz01
    case hyz01 => intro w' hSw; (try dsimp only at hSw); go_simp; try with_reducible rfl
    simp only [Act.put]
    refine wpAnyH_ready (rs := [8]) (by kernel_rfl) (by simp) ?_
    refine AllReadyH.cons rfl (fun K hK => ?_) AllReadyH.nil
    go_simp
    refine (timesB_any _ _ _ _ HP2).mono ?_
    rintro e w' ⟨rfl, rfl⟩
    dsimp only
    refine hK.out _ _ (⟨y1, y2, i1⟩) (fun hHeld => ?_)
    clear hK K
    refine wpAnyH_ready (rs := [10]) (by kernel_rfl) (by simp) ?_
    refine AllReadyH.cons rfl (fun K hK => ?_) AllReadyH.nil
    go_simp
    refine hK.out _ _ (HSt.out _ _) (fun hHeld => ?_)
    clear hK K
    refine wpAnyH_take (i := 11) (v := ?vz11) rfl (by kernel_rfl) (by kernel_rfl) (by kernel_rfl) (fun _ _ _ h => h) (Or.inl ⟨by rfl, ?hyz11⟩) hHeld ?restz11
    case hyz11 => intro w' hSw; (try dsimp only at hSw); go_simp; try with_reducible rfl
    simp only [Act.put]
    refine wpAnyH_ready (rs := [12]) (by kernel_rfl) (by simp) ?_
    refine AllReadyH.cons rfl (fun K hK => ?_) AllReadyH.nil
    go_simp
    refine hK.out _ _ (HSt2.out _ _ _ _) (fun hHeld => ?_)
    clear hK K
    refine wpAnyH_done (by kernel_rfl) ?_ _
    go_wp2
    go_meet
    case rel => exact ⟨_, rfl, by first | exact HL.out (.int .i64 pl, 1) (.int .i64 pm, 2) (.inl ⟨rfl, rfl⟩) | exact HL.out (.int .i64 pm, 2) (.int .i64 pl, 1) (.inr ⟨rfl, rfl⟩)⟩
  case rest =>
  obtain ⟨w8, rfl, HKs, HRs, HBs⟩ := hcut
  clear i1 j0 j1 j2 j3 y1 y2 f1
  have i0 := HKs.out.cell 0; have i1 := HKs.out.cell 1; have i2 := HKs.out.cell 2; have i3 := HKs.out.cell 3
  have j0 := HRs.out.cell 0; have j1 := HRs.out.cell 1; have j2 := HRs.out.cell 2; have j3 := HRs.out.cell 3
  simp at i0 i1 i2 i3 j0 j1 j2 j3
  have f1 := fun i => HRs.out.frozen i
  have HK := hide_ (wr4 HRs.out (.bool fx) (.int .i64 pl) (.int .i64 pm) (.int .i64 (1 + dk)))
  have HBf := hide_ (below_wr4 HBs.out (w.heap.size + 1) (by omega) (.bool fx) (.int .i64 pl) (.int .i64 pm) (.int .i64 (1 + dk)))
  go_wp2
  refine retX (x := ⟨fx, pl, pm, 1 + dk⟩) rfl rfl HK.out ⟨by rw [HV.out], HBf.out⟩
end Go.Proofs.Ytncndgfaalojpaa
