import Derived.Test.YtcmkdkocponpiaaPart19

/- mortiseref22: Save. -/
namespace Go.Proofs.Ytcmkdkocponpiaa
open Go.RowKit
set_option linter.unusedVariables false

set_option maxRecDepth 100000 in
set_option maxHeartbeats 16000000 in
theorem rsave_any (w : World) (B : Nat) (F : Nat → Prop) (g : Nat) (fs : List Fr) (m h : Int) (hS : Hid (RSk w B F g fs m h)) :
    Calls Try.prog 66 #[.pointer (some ⟨g, 0, none⟩)] w fun e w' => SaveTo w fs m h e w' := by
  obtain ⟨v, P, hM, hP, hF, hFl⟩ := hS.out
  obtain ⟨av, cv, rfl, hcv, -, hG⟩ := hM.own.slice
  have HGW : Hid (∀ k, skB g (.slice av P.length cv) P k → k < w.heap.size) := hide_ (fun k hk => (hFl k (hF k hk)).2)
  have HM := hide_ hM
  have HPm := hide_ hP
  have HPl : Hid (P.length = fs.length) := hide_ (by rw [← hP]; simp)
  have hm0 := hM.hm
  have hl0 := hM.hl
  have hh0 := hM.hh
  obtain ⟨w1, hw1⟩ : ∃ wx, wx = w.alloc (.cells #[.int .u8 102] 5) := ⟨_, rfl⟩
  have hB1 : Below w.heap.size w w1 := by rw [hw1]; exact below1 _ _
  have hbx : BOwn w1 w.heap.size (.slice (some ⟨w.heap.size, 0, none⟩) 1 1) [102] := by
    have k1 : Blk w1 w.heap.size 5 [.int .u8 102] := by rw [hw1]; exact Blk.newA w _ _
    have := Blk.owns k1 w.heap.size 1 1 (Nat.le_refl _) rfl (Nat.le_refl _) (by unfold maxLen; omega)
    exact this
  have HBx := hide_ (hbx.later (w' := w1.drew) ((Below.refl w1.heap.size w1).drew))
  have HB1 := hide_ (below_to hB1 ((Below.refl w1.heap.size w1).drew))
  -- the stack stays
  have HSt : Hid (∀ w', Below w.heap.size w w' → RSt w' B g (.slice av P.length cv) P m h) := hide_ (fun w' hb => HM.out.upd (upd_of_below hb) (fun k hk => by have := HGW.out k hk; omega))
  have HLeb : Hid (∀ (l : List Int) (x : Int) (u : Value) (w' : World), 0 ≤ x → x ≤ 4611686018427387905 → l.length ≤ 50000000000000 → Below w.heap.size w w' → Hid (BOwn w' w.heap.size u l) → Calls Try.prog 74 #[u, .int .i64 x] w' fun e w'' => ∃ u', e = .returned u' ∧ Hid (BOwn w'' w.heap.size u' (l ++ fm x)) ∧ Hid (Kb w.heap.size w' w'')) :=
    hide_ (fun l x u w' h0 hx hl hb H => leb_any w.heap.size x l u w' h0 hx hl hb.size H)
  have HC : Hid (∀ w', Below w.heap.size w w' → w'.cell? ⟨g, 0, none⟩ = some (.slice av P.length cv) ∧ w'.cell? ⟨g, 1, none⟩ = some (.int .i64 m) ∧ w'.cell? ⟨g, 2, none⟩ = some (.int .i64 h)) := hide_ (fun w' hb => ⟨(HSt.out w' hb).box.cell 0, (HSt.out w' hb).box.cell 1, (HSt.out w' hb).box.cell 2⟩)
  have HHd : Hid ((svH P.length m h).length ≤ 31) := hide_ (svH_len _ _ _ (by omega) (by omega) (by omega))
  have HL1 : Hid (([102] ++ fm m).length ≤ 50000000000000) := hide_ (by have := fm_len m (by omega); simp; omega)
  have HL2 : Hid (([102] ++ fm m ++ fm (P.length : Int)).length ≤ 50000000000000) := hide_ (by have := fm_len m (by omega); have := fm_len (P.length : Int) (by omega); simp only [List.length_append, List.length_singleton]; omega)
  clear hS hM hF hFl hP hG hB1 hbx
  go_enter Try.func66, Try.ntmps66
  go_upto_region 2 with fail
  rw [← hw1]
  clear hw1
  refine wp_region_last 17 (fun w' => w'.cell? ⟨g, 0, none⟩ = some (.slice av P.length cv) ∧ w'.cell? ⟨g, 1, none⟩ = some (.int .i64 m) ∧ w'.cell? ⟨g, 2, none⟩ = some (.int .i64 h)) (by kernel_rfl) (HC.out _ HB1.out) (fun hHeld => ?_)
  refine wpAnyF_take [17] (by kernel_rfl) (i := 0) (v := ?vp1) rfl (by kernel_rfl) (by kernel_rfl) (by kernel_rfl) (fun _ _ _ h => h) (Or.inl ⟨by kernel_rfl, ?hyp1⟩) hHeld ?restp1
  case hyp1 => intro w' hSw; (try dsimp only at hSw); go_simp; try with_reducible rfl
  simp only [Act.put]
  try dsimp only
  refine wpAnyF_take [17] (by kernel_rfl) (i := 1) (v := ?vp2) rfl (by kernel_rfl) (by kernel_rfl) (by kernel_rfl) (fun _ _ _ h => h) (Or.inl ⟨by kernel_rfl, ?hyp2⟩) hHeld ?restp2
  case hyp2 => intro w' hSw; (try dsimp only at hSw); go_simp; try with_reducible rfl
  simp only [Act.put]
  try dsimp only
  refine wpAnyF_take [17] (by kernel_rfl) (i := 2) (v := ?vp3) rfl (by kernel_rfl) (by kernel_rfl) (by kernel_rfl) (fun _ _ _ h => h) (Or.inl ⟨by kernel_rfl, ?hyp3⟩) hHeld ?restp3
  case hyp3 => intro w' hSw; (try dsimp only at hSw); go_simp; try with_reducible rfl
  simp only [Act.put]
  try dsimp only
  refine wpAnyF_take [17] (by kernel_rfl) (i := 3) (v := ?vp4) rfl (by kernel_rfl) (by kernel_rfl) (by kernel_rfl) (fun _ _ _ h => h) (Or.inl ⟨by kernel_rfl, ?hyp4⟩) hHeld ?restp4
  case hyp4 => intro w' hSw; (try dsimp only at hSw); go_simp; try with_reducible rfl
  simp only [Act.put]
  try dsimp only
  refine wpAnyF_take [17] (by kernel_rfl) (i := 4) (v := ?vp5) rfl (by kernel_rfl) (by kernel_rfl) (by kernel_rfl) (fun _ _ _ h => h) (Or.inl ⟨by kernel_rfl, ?hyp5⟩) hHeld ?restp5
  case hyp5 => intro w' hSw; (try dsimp only at hSw); go_simp; try with_reducible rfl
  simp only [Act.put]
  try dsimp only
  refine wpAnyF_take [17] (by kernel_rfl) (i := 6) (v := ?vp6) rfl (by kernel_rfl) (by kernel_rfl) (by kernel_rfl) (fun _ _ _ h => h) (Or.inl ⟨by kernel_rfl, ?hyp6⟩) hHeld ?restp6
  case hyp6 => intro w' hSw; (try dsimp only at hSw); go_simp; try with_reducible rfl
  simp only [Act.put]
  try dsimp only
  refine wpAnyF_take [17] (by kernel_rfl) (i := 7) (v := ?vp7) rfl (by kernel_rfl) (by kernel_rfl) (by kernel_rfl) (fun _ _ _ h => h) (Or.inl ⟨by kernel_rfl, ?hyp7⟩) hHeld ?restp7
  case hyp7 => intro w' hSw; (try dsimp only at hSw); go_simp; try with_reducible rfl
  simp only [Act.put]
  try dsimp only
  refine wpAnyF_take [17] (by kernel_rfl) (i := 8) (v := ?vp8) rfl (by kernel_rfl) (by kernel_rfl) (by kernel_rfl) (fun _ _ _ h => h) (Or.inl ⟨by kernel_rfl, ?hyp8⟩) hHeld ?restp8
  case hyp8 => intro w' hSw; (try dsimp only at hSw); go_simp; try with_reducible rfl
  simp only [Act.put]
  try dsimp only
  refine wpAnyF_take [17] (by kernel_rfl) (i := 9) (v := ?vp9) rfl (by kernel_rfl) (by kernel_rfl) (by kernel_rfl) (fun _ _ _ h => h) (Or.inl ⟨by kernel_rfl, ?hyp9⟩) hHeld ?restp9
  case hyp9 => intro w' hSw; (try dsimp only at hSw); go_simp; try with_reducible rfl
  simp only [Act.put]
  try dsimp only
  refine wpAnyF_take [17] (by kernel_rfl) (i := 10) (v := ?vp10) rfl (by kernel_rfl) (by kernel_rfl) (by kernel_rfl) (fun _ _ _ h => h) (Or.inl ⟨by kernel_rfl, ?hyp10⟩) hHeld ?restp10
  case hyp10 => intro w' hSw; (try dsimp only at hSw); go_simp; try with_reducible rfl
  simp only [Act.put]
  try dsimp only
  refine wpAnyF_take [17] (by kernel_rfl) (i := 12) (v := ?vp11) rfl (by kernel_rfl) (by kernel_rfl) (by kernel_rfl) (fun _ _ _ h => h) (Or.inl ⟨by kernel_rfl, ?hyp11⟩) hHeld ?restp11
  case hyp11 => intro w' hSw; (try dsimp only at hSw); go_simp; try with_reducible rfl
  simp only [Act.put]
  try dsimp only
  refine wpAnyF_take [17] (by kernel_rfl) (i := 13) (v := ?vp12) rfl (by kernel_rfl) (by kernel_rfl) (by kernel_rfl) (fun _ _ _ h => h) (Or.inl ⟨by kernel_rfl, ?hyp12⟩) hHeld ?restp12
  case hyp12 => intro w' hSw; (try dsimp only at hSw); go_simp; try with_reducible rfl
  simp only [Act.put]
  try dsimp only
  refine wpAnyF_take [17] (by kernel_rfl) (i := 14) (v := ?vp13) rfl (by kernel_rfl) (by kernel_rfl) (by kernel_rfl) (fun _ _ _ h => h) (Or.inl ⟨by kernel_rfl, ?hyp13⟩) hHeld ?restp13
  case hyp13 => intro w' hSw; (try dsimp only at hSw); go_simp; try with_reducible rfl
  simp only [Act.put]
  try dsimp only
  refine wpAnyF_take [17] (by kernel_rfl) (i := 15) (v := ?vp14) rfl (by kernel_rfl) (by kernel_rfl) (by kernel_rfl) (fun _ _ _ h => h) (Or.inl ⟨by kernel_rfl, ?hyp14⟩) hHeld ?restp14
  case hyp14 => intro w' hSw; (try dsimp only at hSw); go_simp; try with_reducible rfl
  simp only [Act.put]
  try dsimp only
  refine wpAnyF_ready (rs := [5]) (by kernel_rfl) (by simp) ?_
  refine AllReadyF.cons rfl (fun K hK => ?_) AllReadyF.nil
  go_simp
  refine (HLeb.out [102] m _ w1.drew (by omega) (by omega) (by decide) HB1.out HBx).mono ?_
  rintro e w2 ⟨v2, rfl, HX2, HK2⟩
  have HB2 := hide_ (HB1.out.trans HK2.out.1)
  dsimp only
  refine hK.out _ _ (HC.out _ HB2.out) (fun hHeld => ?_)
  clear hK K
  refine wpAnyF_ready (rs := [11]) (by kernel_rfl) (by simp) ?_
  refine AllReadyF.cons rfl (fun K hK => ?_) AllReadyF.nil
  go_simp
  refine (HLeb.out _ (P.length : Int) _ w2 (by omega) (by omega) HL1.out HB2.out HX2).mono ?_
  rintro e w3 ⟨v3, rfl, HX3, HK3⟩
  have HB3 := hide_ (HB2.out.trans HK3.out.1)
  dsimp only
  refine hK.out _ _ (HC.out _ HB3.out) (fun hHeld => ?_)
  clear hK K
  refine wpAnyF_ready (rs := [16]) (by kernel_rfl) (by simp) ?_
  refine AllReadyF.cons rfl (fun K hK => ?_) AllReadyF.nil
  go_simp
  refine (HLeb.out _ h _ w3 (by omega) (by omega) HL2.out HB3.out HX3).mono ?_
  rintro e w4 ⟨v4, rfl, HX4, HK4⟩
  have HB4 := hide_ (HB3.out.trans HK4.out.1)
  dsimp only
  refine hK.out _ _ (HC.out _ HB4.out) (fun hHeld => ?_)
  clear hK K
  refine wpAnyF_ready (rs := [17]) (by kernel_rfl) (by simp) ?_
  refine AllReadyF.last rfl (fun K hK => ?_)
  go_simp
  refine hK.out _ _ ?_
  clear hK K
  refine wpAnyF_done (by kernel_rfl) ?_ _
  go_wp2_with fail
  have HX5 : Hid (BOwn w4 w.heap.size v4 (svH P.length m h)) := HX4
  have HRp : Hid (∀ p ∈ P, frB p.1 = true) := hide_ HM.out.rt
  clear HX2 HX3 HX4 HK2 HK3 HK4 HL1 HL2 HBx HB1 HB2 HB3
  go_loopw [3, 4] (fun x3 x4 wr => ∃ (i : Nat) (u : Value), i ≤ P.length ∧ u = x3 ∧ x4 = .int .i64 (i : Int) ∧ Hid (BOwn wr w.heap.size u (svH P.length m h ++ ((P.take i).map (·.1)).flatMap svF)) ∧ Hid (Below w.heap.size w wr)) (fun _ x4 _ => P.length - (intOf x4).toNat)
  case atStart => exact ⟨0, _, Nat.zero_le _, rfl, rfl, by simpa using HX5, HB4⟩
  case round =>
    obtain ⟨i, u, hi, rfl, rfl, HX, HB⟩ := hrel
    generalize wr = wq at *
    clear HX5 HB4
    obtain ⟨q0, -, -⟩ := HC.out wq HB.out
    by_cases hlt : i < P.length
    · have hlt' : (i : Int) < P.length := by omega
      have hx : P[i]? = some (P[i]'hlt) := List.getElem?_eq_getElem hlt
      obtain ⟨p, hp⟩ : ∃ p, P[i]'hlt = p := ⟨_, rfl⟩
      rw [hp] at hx
      obtain ⟨f, pv⟩ := p
      have hmem : (f, pv) ∈ P := List.mem_of_getElem? hx
      have hMq := HSt.out wq HB.out
      obtain ⟨at_, ct, hpv, hfa⟩ := (hMq.own.tb (f, pv) hmem).fra
      have hpv' : pv = .slice at_ f.T.length ct := hpv
      subst hpv'
      have HFr : Hid (frB f = true) := hide_ (hMq.rt _ hmem)
      obtain ⟨av', cv', he, -, -, hG⟩ := hMq.own.slice
      injection he with he1 he2 he3
      subst he1
      obtain ⟨b, o, rfl, hbl, hc⟩ := hG.open (by omega)
      have hcx := hc i _ hx
      have i0 := hcx 0 (by decide); have i1 := hcx 1 (by decide); have i2 := hcx 2 (by decide); have i3 := hcx 3 (by decide); have i4 := hcx 4 (by decide); have i5 := hcx 5 (by decide); have i6 := hcx 6 (by decide)
      simp [frc] at i0 i1 i2 i3 i4 i5 i6
      have HNx : Hid (svH P.length m h ++ ((P.take (i + 1)).map (·.1)).flatMap svF = (svH P.length m h ++ ((P.take i).map (·.1)).flatMap svF) ++ ((hd6 f).flatMap fm ++ f.T.flatMap fm)) := hide_ (by rw [take_frs hx, List.append_assoc]; rfl)
      have HMem := hide_ hmem
      have HLq : Hid ((svH P.length m h ++ ((P.take i).map (·.1)).flatMap svF).length ≤ 31 + 1048576 * 10485830) := hide_ (by
        have h1 := svs_len ((P.take i).map (·.1)) (fun y hy => by
          obtain ⟨q, hq, rfl⟩ := List.mem_map.1 hy
          exact HRp.out q (List.mem_of_mem_take hq))
        have h2 : ((P.take i).map (·.1)).length ≤ 1048576 := by simp; omega
        have h3 := Nat.mul_le_mul_right 10485830 h2
        have h4 := HHd.out
        rw [List.length_append]
        omega)
      obtain ⟨L, hL⟩ : ∃ L, svH P.length m h ++ ((P.take i).map (·.1)).flatMap svF = L := ⟨_, rfl⟩
      rw [hL] at HX HNx HLq
      obtain ⟨we, hwe⟩ : ∃ wx, wx = wq.alloc (.cells #[.int .i64 f.r, .int .i64 f.a, .int .i64 f.b, .int .i64 f.e, .int .i64 f.n, .int .i64 f.x, .slice at_ f.T.length ct] 39) := ⟨_, rfl⟩
      have hBe : Below wq.heap.size wq we := by rw [hwe]; exact below1 _ _
      have ke : Blk we wq.heap.size 39 (frc (f, .slice at_ f.T.length ct)) := by rw [hwe]; exact Blk.newA wq _ _
      have HKe := hide_ ke.drew
      have HXe := hide_ (HX.out.later (hBe.trans ((Below.refl we.heap.size we).drew.mono hBe.size)))
      have HBe := hide_ (below_to HB.out (hBe.trans ((Below.refl we.heap.size we).drew.mono hBe.size)))
      have HFa := hide_ hfa
      have hr6 := hdB_is (frB_is HFr.out).2.2
      have b1 := posB_is hr6.1; have b2 := posB_is hr6.2.1; have b3 := posB_is hr6.2.2.1
      have be := ponB_is hr6.2.2.2.1
      have bn := ponB_is hr6.2.2.2.2.1
      have b6 := posB_is hr6.2.2.2.2.2
      have hTl := (frB_is HFr.out).1
      have hTl' : f.T.length ≤ 1048576 := hTl
      have we1 := i64w (f.e + 1) (by omega)
      have we2 := i64w (f.n + 1) (by omega)
      have hLq := HLq.out
      have g1 : (L ++ fm f.r).length ≤ 50000000000000 := by have := fm_len f.r (by omega); rw [List.length_append]; omega
      have g2 : (L ++ fm f.r ++ fm f.a).length ≤ 50000000000000 := by have := fm_len f.r (by omega); have := fm_len f.a (by omega); simp only [List.length_append]; omega
      have g3 : (L ++ fm f.r ++ fm f.a ++ fm f.b).length ≤ 50000000000000 := by have := fm_len f.r (by omega); have := fm_len f.a (by omega); have := fm_len f.b (by omega); simp only [List.length_append]; omega
      have g4 : (L ++ fm f.r ++ fm f.a ++ fm f.b ++ fm (f.e + 1)).length ≤ 50000000000000 := by have := fm_len f.r (by omega); have := fm_len f.a (by omega); have := fm_len f.b (by omega); have := fm_len (f.e + 1) (by omega); simp only [List.length_append]; omega
      have g5 : (L ++ fm f.r ++ fm f.a ++ fm f.b ++ fm (f.e + 1) ++ fm (f.n + 1)).length ≤ 50000000000000 := by have := fm_len f.r (by omega); have := fm_len f.a (by omega); have := fm_len f.b (by omega); have := fm_len (f.e + 1) (by omega); have := fm_len (f.n + 1) (by omega); simp only [List.length_append]; omega
      have g6 : (L ++ fm f.r ++ fm f.a ++ fm f.b ++ fm (f.e + 1) ++ fm (f.n + 1) ++ fm f.x).length ≤ 50000000000000 := by have := fm_len f.r (by omega); have := fm_len f.a (by omega); have := fm_len f.b (by omega); have := fm_len (f.e + 1) (by omega); have := fm_len (f.n + 1) (by omega); have := fm_len f.x (by omega); simp only [List.length_append]; omega
      have HG := hide_ (⟨g1, g2, g3, g4, g5, g6⟩ : _ ∧ _ ∧ _ ∧ _ ∧ _ ∧ _)
      have HRg : Hid ((0 ≤ f.r ∧ f.r ≤ 4611686018427387905) ∧ (0 ≤ f.a ∧ f.a ≤ 4611686018427387905) ∧ (0 ≤ f.b ∧ f.b ≤ 4611686018427387905) ∧ (0 ≤ f.e + 1 ∧ f.e + 1 ≤ 4611686018427387905) ∧ (0 ≤ f.n + 1 ∧ f.n + 1 ≤ 4611686018427387905) ∧ (0 ≤ f.x ∧ f.x ≤ 4611686018427387905) ∧ (0 ≤ (f.T.length : Int) ∧ (f.T.length : Int) ≤ 4611686018427387905)) := hide_ (by omega)
      clear hL hp hx hmem hMq hpv hfa hG hc hcx hbl hBe ke hr6 he3 g1 g2 g3 g4 g5 g6 b1 b2 b3 be bn b6 hTl hTl' hLq he2
      go_upto_region 7 with fail
      rw [← hwe]
      clear hwe i0 i1 i2 i3 i4 i5 i6 q0
      refine wp_region_last 10 (fun w' => w'.cell? ⟨wq.heap.size, 0, none⟩ = some (.int .i64 f.r) ∧ w'.cell? ⟨wq.heap.size, 1, none⟩ = some (.int .i64 f.a) ∧ w'.cell? ⟨wq.heap.size, 2, none⟩ = some (.int .i64 f.b)) (by kernel_rfl) (⟨HKe.out.cell 0, HKe.out.cell 1, HKe.out.cell 2⟩) (fun hHeld => ?_)
      refine wpAnyF_take [10] (by kernel_rfl) (i := 0) (v := ?vq1) rfl (by kernel_rfl) (by kernel_rfl) (by kernel_rfl) (fun _ _ _ h => h) (Or.inl ⟨by kernel_rfl, ?hyq1⟩) hHeld ?restq1
      case hyq1 => intro w' hSw; (try dsimp only at hSw); go_simp; try with_reducible rfl
      simp only [Act.put]
      try dsimp only
      refine wpAnyF_take [10] (by kernel_rfl) (i := 1) (v := ?vq2) rfl (by kernel_rfl) (by kernel_rfl) (by kernel_rfl) (fun _ _ _ h => h) (Or.inl ⟨by kernel_rfl, ?hyq2⟩) hHeld ?restq2
      case hyq2 => intro w' hSw; (try dsimp only at hSw); go_simp; try with_reducible rfl
      simp only [Act.put]
      try dsimp only
      refine wpAnyF_take [10] (by kernel_rfl) (i := 2) (v := ?vq3) rfl (by kernel_rfl) (by kernel_rfl) (by kernel_rfl) (fun _ _ _ h => h) (Or.inl ⟨by kernel_rfl, ?hyq3⟩) hHeld ?restq3
      case hyq3 => intro w' hSw; (try dsimp only at hSw); go_simp; try with_reducible rfl
      simp only [Act.put]
      try dsimp only
      refine wpAnyF_take [10] (by kernel_rfl) (i := 4) (v := ?vq4) rfl (by kernel_rfl) (by kernel_rfl) (by kernel_rfl) (fun _ _ _ h => h) (Or.inl ⟨by kernel_rfl, ?hyq4⟩) hHeld ?restq4
      case hyq4 => intro w' hSw; (try dsimp only at hSw); go_simp; try with_reducible rfl
      simp only [Act.put]
      try dsimp only
      refine wpAnyF_take [10] (by kernel_rfl) (i := 5) (v := ?vq5) rfl (by kernel_rfl) (by kernel_rfl) (by kernel_rfl) (fun _ _ _ h => h) (Or.inl ⟨by kernel_rfl, ?hyq5⟩) hHeld ?restq5
      case hyq5 => intro w' hSw; (try dsimp only at hSw); go_simp; try with_reducible rfl
      simp only [Act.put]
      try dsimp only
      refine wpAnyF_take [10] (by kernel_rfl) (i := 7) (v := ?vq6) rfl (by kernel_rfl) (by kernel_rfl) (by kernel_rfl) (fun _ _ _ h => h) (Or.inl ⟨by kernel_rfl, ?hyq6⟩) hHeld ?restq6
      case hyq6 => intro w' hSw; (try dsimp only at hSw); go_simp; try with_reducible rfl
      simp only [Act.put]
      try dsimp only
      refine wpAnyF_take [10] (by kernel_rfl) (i := 8) (v := ?vq7) rfl (by kernel_rfl) (by kernel_rfl) (by kernel_rfl) (fun _ _ _ h => h) (Or.inl ⟨by kernel_rfl, ?hyq7⟩) hHeld ?restq7
      case hyq7 => intro w' hSw; (try dsimp only at hSw); go_simp; try with_reducible rfl
      simp only [Act.put]
      try dsimp only
      refine wpAnyF_ready (rs := [3]) (by kernel_rfl) (by simp) ?_
      refine AllReadyF.cons rfl (fun K hK => ?_) AllReadyF.nil
      go_simp
      refine (HLeb.out L f.r _ we.drew HRg.out.1.1 HRg.out.1.2 (by have := HLq.out; omega) HBe.out HXe).mono ?_
      rintro e wa ⟨va, rfl, HXa, HKa⟩
      have HBa := hide_ (HBe.out.trans HKa.out.1)
      have HEa := hide_ (HKa.out.2 _ _ _ (by decide) (by decide) HKe.out)
      dsimp only
      refine hK.out _ _ (⟨HEa.out.cell 0, HEa.out.cell 1, HEa.out.cell 2⟩) (fun hHeld => ?_)
      clear hK K
      refine wpAnyF_ready (rs := [6]) (by kernel_rfl) (by simp) ?_
      refine AllReadyF.cons rfl (fun K hK => ?_) AllReadyF.nil
      go_simp
      refine (HLeb.out _ f.a _ wa HRg.out.2.1.1 HRg.out.2.1.2 HG.out.1 HBa.out HXa).mono ?_
      rintro e wb ⟨vb, rfl, HXb, HKb⟩
      have HBb := hide_ (HBa.out.trans HKb.out.1)
      have HEb := hide_ (HKb.out.2 _ _ _ (by decide) (by decide) HEa.out)
      dsimp only
      refine hK.out _ _ (⟨HEb.out.cell 0, HEb.out.cell 1, HEb.out.cell 2⟩) (fun hHeld => ?_)
      clear hK K
      refine wpAnyF_ready (rs := [9]) (by kernel_rfl) (by simp) ?_
      refine AllReadyF.cons rfl (fun K hK => ?_) AllReadyF.nil
      go_simp
      refine (HLeb.out _ f.b _ wb HRg.out.2.2.1.1 HRg.out.2.2.1.2 HG.out.2.1 HBb.out HXb).mono ?_
      rintro e wc ⟨vc, rfl, HXc, HKc⟩
      have HBc := hide_ (HBb.out.trans HKc.out.1)
      have HEc := hide_ (HKc.out.2 _ _ _ (by decide) (by decide) HEb.out)
      dsimp only
      refine hK.out _ _ (⟨HEc.out.cell 0, HEc.out.cell 1, HEc.out.cell 2⟩) (fun hHeld => ?_)
      clear hK K
      refine wpAnyF_ready (rs := [10]) (by kernel_rfl) (by simp) ?_
      refine AllReadyF.last rfl (fun K hK => ?_)
      go_simp
      refine hK.out _ _ ?_
      clear hK K
      refine wpAnyF_done (by kernel_rfl) ?_ _
      have HKe2 := hide_ HEc.out.drew
      have HXe2 := hide_ (HXc.out.later (w' := wc.drew) ((Below.refl wc.heap.size wc).drew))
      have HBe2 := hide_ (below_to HBc.out ((Below.refl wc.heap.size wc).drew))
      clear HXa HXb HXc HKa HKb HKc HEa HEb HEc HBa HBb HBc
      go_upto_region 8 with fail
      refine wp_region_last 16 (fun w' => w'.cell? ⟨wq.heap.size, 3, none⟩ = some (.int .i64 f.e) ∧ w'.cell? ⟨wq.heap.size, 4, none⟩ = some (.int .i64 f.n) ∧ w'.cell? ⟨wq.heap.size, 5, none⟩ = some (.int .i64 f.x) ∧ w'.cell? ⟨wq.heap.size, 6, none⟩ = some (.slice at_ f.T.length ct)) (by kernel_rfl) (⟨HKe2.out.cell 3, HKe2.out.cell 4, HKe2.out.cell 5, HKe2.out.cell 6⟩) (fun hHeld => ?_)
      refine wpAnyF_take [16] (by kernel_rfl) (i := 0) (v := ?vs1) rfl (by kernel_rfl) (by kernel_rfl) (by kernel_rfl) (fun _ _ _ h => h) (Or.inl ⟨by kernel_rfl, ?hys1⟩) hHeld ?rests1
      case hys1 => intro w' hSw; (try dsimp only at hSw); go_simp; try with_reducible rfl
      simp only [Act.put]
      try dsimp only
      refine wpAnyF_take [16] (by kernel_rfl) (i := 1) (v := ?vs2) rfl (by kernel_rfl) (by kernel_rfl) (by kernel_rfl) (fun _ _ _ h => h) (Or.inl ⟨by kernel_rfl, ?hys2⟩) hHeld ?rests2
      case hys2 => intro w' hSw; (try dsimp only at hSw); go_simp; try with_reducible rfl
      simp only [Act.put]
      try dsimp only
      refine wpAnyF_take [16] (by kernel_rfl) (i := 2) (v := ?vs3) rfl (by kernel_rfl) (by kernel_rfl) (by kernel_rfl) (fun _ _ _ h => h) (Or.inl ⟨by kernel_rfl, ?hys3⟩) hHeld ?rests3
      case hys3 => intro w' hSw; (try dsimp only at hSw); go_simp; try with_reducible rfl
      simp only [Act.put]
      try dsimp only
      refine wpAnyF_take [16] (by kernel_rfl) (i := 3) (v := ?vs4) rfl (by kernel_rfl) (by kernel_rfl) (by kernel_rfl) (fun _ _ _ h => h) (Or.inl ⟨by kernel_rfl, ?hys4⟩) hHeld ?rests4
      case hys4 => intro w' hSw; (try dsimp only at hSw); go_simp; try with_reducible rfl
      simp only [Act.put]
      try dsimp only
      refine wpAnyF_take [16] (by kernel_rfl) (i := 5) (v := ?vs5) rfl (by kernel_rfl) (by kernel_rfl) (by kernel_rfl) (fun _ _ _ h => h) (Or.inl ⟨by kernel_rfl, ?hys5⟩) hHeld ?rests5
      case hys5 => intro w' hSw; (try dsimp only at hSw); go_simp; try with_reducible rfl
      simp only [Act.put]
      try dsimp only
      refine wpAnyF_take [16] (by kernel_rfl) (i := 6) (v := ?vs6) rfl (by kernel_rfl) (by kernel_rfl) (by kernel_rfl) (fun _ _ _ h => h) (Or.inl ⟨by kernel_rfl, ?hys6⟩) hHeld ?rests6
      case hys6 => intro w' hSw; (try dsimp only at hSw); go_simp; try with_reducible rfl
      simp only [Act.put]
      try dsimp only
      refine wpAnyF_take [16] (by kernel_rfl) (i := 7) (v := ?vs7) rfl (by kernel_rfl) (by kernel_rfl) (by kernel_rfl) (fun _ _ _ h => h) (Or.inl ⟨by kernel_rfl, ?hys7⟩) hHeld ?rests7
      case hys7 => intro w' hSw; (try dsimp only at hSw); go_simp; try with_reducible rfl
      simp only [Act.put]
      try dsimp only
      refine wpAnyF_take [16] (by kernel_rfl) (i := 9) (v := ?vs8) rfl (by kernel_rfl) (by kernel_rfl) (by kernel_rfl) (fun _ _ _ h => h) (Or.inl ⟨by kernel_rfl, ?hys8⟩) hHeld ?rests8
      case hys8 => intro w' hSw; (try dsimp only at hSw); go_simp; try with_reducible rfl
      simp only [Act.put]
      try dsimp only
      refine wpAnyF_take [16] (by kernel_rfl) (i := 10) (v := ?vs9) rfl (by kernel_rfl) (by kernel_rfl) (by kernel_rfl) (fun _ _ _ h => h) (Or.inl ⟨by kernel_rfl, ?hys9⟩) hHeld ?rests9
      case hys9 => intro w' hSw; (try dsimp only at hSw); go_simp; try with_reducible rfl
      simp only [Act.put]
      try dsimp only
      refine wpAnyF_take [16] (by kernel_rfl) (i := 12) (v := ?vs10) rfl (by kernel_rfl) (by kernel_rfl) (by kernel_rfl) (fun _ _ _ h => h) (Or.inl ⟨by kernel_rfl, ?hys10⟩) hHeld ?rests10
      case hys10 => intro w' hSw; (try dsimp only at hSw); go_simp; try with_reducible rfl
      simp only [Act.put]
      try dsimp only
      refine wpAnyF_take [16] (by kernel_rfl) (i := 13) (v := ?vs11) rfl (by kernel_rfl) (by kernel_rfl) (by kernel_rfl) (fun _ _ _ h => h) (Or.inl ⟨by kernel_rfl, ?hys11⟩) hHeld ?rests11
      case hys11 => intro w' hSw; (try dsimp only at hSw); go_simp; try with_reducible rfl
      simp only [Act.put]
      try dsimp only
      refine wpAnyF_take [16] (by kernel_rfl) (i := 14) (v := ?vs12) rfl (by kernel_rfl) (by kernel_rfl) (by kernel_rfl) (fun _ _ _ h => h) (Or.inl ⟨by kernel_rfl, ?hys12⟩) hHeld ?rests12
      case hys12 => intro w' hSw; (try dsimp only at hSw); go_simp; try with_reducible rfl
      simp only [Act.put]
      try dsimp only
      refine wpAnyF_ready (rs := [4]) (by kernel_rfl) (by simp) ?_
      refine AllReadyF.cons rfl (fun K hK => ?_) AllReadyF.nil
      go_simp
      refine (HLeb.out _ (f.e + 1) _ wc.drew HRg.out.2.2.2.1.1 HRg.out.2.2.2.1.2 HG.out.2.2.1 HBe2.out HXe2).mono ?_
      rintro e wa ⟨va, rfl, HXa, HKa⟩
      have HBa := hide_ (HBe2.out.trans HKa.out.1)
      have HEa := hide_ (HKa.out.2 _ _ _ (by decide) (by decide) HKe2.out)
      dsimp only
      refine hK.out _ _ (⟨HEa.out.cell 3, HEa.out.cell 4, HEa.out.cell 5, HEa.out.cell 6⟩) (fun hHeld => ?_)
      clear hK K
      refine wpAnyF_ready (rs := [8]) (by kernel_rfl) (by simp) ?_
      refine AllReadyF.cons rfl (fun K hK => ?_) AllReadyF.nil
      go_simp
      refine (HLeb.out _ (f.n + 1) _ wa HRg.out.2.2.2.2.1.1 HRg.out.2.2.2.2.1.2 HG.out.2.2.2.1 HBa.out HXa).mono ?_
      rintro e wb ⟨vb, rfl, HXb, HKb⟩
      have HBb := hide_ (HBa.out.trans HKb.out.1)
      have HEb := hide_ (HKb.out.2 _ _ _ (by decide) (by decide) HEa.out)
      dsimp only
      refine hK.out _ _ (⟨HEb.out.cell 3, HEb.out.cell 4, HEb.out.cell 5, HEb.out.cell 6⟩) (fun hHeld => ?_)
      clear hK K
      refine wpAnyF_ready (rs := [11]) (by kernel_rfl) (by simp) ?_
      refine AllReadyF.cons rfl (fun K hK => ?_) AllReadyF.nil
      go_simp
      refine (HLeb.out _ f.x _ wb HRg.out.2.2.2.2.2.1.1 HRg.out.2.2.2.2.2.1.2 HG.out.2.2.2.2.1 HBb.out HXb).mono ?_
      rintro e wcc ⟨vc, rfl, HXc, HKc⟩
      have HBc := hide_ (HBb.out.trans HKc.out.1)
      have HEc := hide_ (HKc.out.2 _ _ _ (by decide) (by decide) HEb.out)
      dsimp only
      refine hK.out _ _ (⟨HEc.out.cell 3, HEc.out.cell 4, HEc.out.cell 5, HEc.out.cell 6⟩) (fun hHeld => ?_)
      clear hK K
      refine wpAnyF_ready (rs := [15]) (by kernel_rfl) (by simp) ?_
      refine AllReadyF.cons rfl (fun K hK => ?_) AllReadyF.nil
      go_simp
      refine (HLeb.out _ (f.T.length : Int) _ wcc HRg.out.2.2.2.2.2.2.1 HRg.out.2.2.2.2.2.2.2 HG.out.2.2.2.2.2 HBc.out HXc).mono ?_
      rintro e wd ⟨vd, rfl, HXd, HKd⟩
      have HBd := hide_ (HBc.out.trans HKd.out.1)
      have HEd := hide_ (HKd.out.2 _ _ _ (by decide) (by decide) HEc.out)
      dsimp only
      refine hK.out _ _ (⟨HEd.out.cell 3, HEd.out.cell 4, HEd.out.cell 5, HEd.out.cell 6⟩) (fun hHeld => ?_)
      clear hK K
      refine wpAnyF_ready (rs := [16]) (by kernel_rfl) (by simp) ?_
      refine AllReadyF.last rfl (fun K hK => ?_)
      go_simp
      refine hK.out _ _ ?_
      clear hK K
      refine wpAnyF_done (by kernel_rfl) ?_ _
      have HXl : Hid (BOwn wd w.heap.size vd (L ++ (hd6 f).flatMap fm)) := hide_ (by have h := HXd.out; simpa [hd6, List.append_assoc] using h)
      have hfb : wq.heap.size < wd.heap.size := HEd.out.lt
      have HRw : Hid (∀ w', Below w.heap.size w w' → Row .i64 w' at_ f.T) := hide_ (fun w' hb => by
        obtain ⟨a9, c9, h9, r9, -⟩ := ((HSt.out w' hb).own.tb (f, .slice at_ f.T.length ct) HMem.out).row
        injection h9 with h9 _ _
        rw [h9]
        exact r9)
      have hml := HFa.out.2.2
      unfold maxLen at hml
      have HEd2 := hide_ HEd.out
      have HBd2 := hide_ HBd.out
      clear HXa HXb HXc HXd HKa HKb HKc HKd HEa HEb HEc HEd HBa HBb HBc HBd HKe HKe2 HXe HXe2 HBe HBe2 hfb
      go_wp2_with fail
      go_loopw [3, 6] (fun x3 x6 wr => ∃ (j : Nat) (u : Value), j ≤ f.T.length ∧ u = x3 ∧ x6 = .int .i64 (j : Int) ∧ Hid (BOwn wr w.heap.size u ((L ++ (hd6 f).flatMap fm) ++ (f.T.take j).flatMap fm)) ∧ Hid (Below w.heap.size w wr) ∧ Hid (Blk wr wq.heap.size 39 (frc (f, .slice at_ f.T.length ct)))) (fun _ x6 _ => f.T.length - (intOf x6).toNat)
      case atStart => exact ⟨0, _, Nat.zero_le _, rfl, rfl, by simpa using HXl, HBd2, HEd2⟩
      case round =>
        obtain ⟨k, u, hk, rfl, rfl, HXk, HBk, HEk⟩ := hrel
        generalize wr = wk at *
        have e6 := HEk.out.cell 6
        simp [frc] at e6
        by_cases hkl : k < f.T.length
        · have hkl' : (k : Int) < f.T.length := by omega
          obtain ⟨x, hx⟩ : ∃ x, f.T[k]? = some x := ⟨_, List.getElem?_eq_getElem hkl⟩
          have hxin := tab_in HFr.out x (List.mem_of_getElem? hx)
          obtain ⟨bt, ot, rfl, hbt, hct⟩ := Row.open (HRw.out wk HBk.out) (show 0 < f.T.length by omega)
          have hcell := hct k hkl
          have hxd : f.T.getD k 0 = x := by simp [List.getD, hx]
          rw [hxd] at hcell
          have HLk : Hid (((L ++ (hd6 f).flatMap fm) ++ (f.T.take k).flatMap fm).length ≤ 50000000000000) := hide_ (by
            have h1 := flat_take_le f.T (fun y hy => (tab_in HFr.out y hy).2) k
            have h2 := flat_len (hd6 f) (fun y hy => (hd6_in HFr.out y hy).2)
            have h2' : (hd6 f).length = 7 := rfl
            have h3 := HLq.out
            have h4 := (frB_is HFr.out).1
            rw [List.length_append, List.length_append]
            omega)
          have HTo : Hid ((L ++ (hd6 f).flatMap fm) ++ (f.T.take (k + 1)).flatMap fm = ((L ++ (hd6 f).flatMap fm) ++ (f.T.take k).flatMap fm) ++ fm x) := hide_ (by rw [take_one hx]; simp only [List.append_assoc])
          clear hx hct hbt hxd
          go_wp2_with fail
          refine (HLeb.out _ x _ wk hxin.1 hxin.2 HLk.out HBk.out HXk).mono ?_
          rintro e wl ⟨u2, rfl, HXm, HKm⟩
          go_wp2_with fail
          go_roundw
          case rel => exact ⟨k + 1, _, by omega, rfl, by go_num, hide_ (by rw [HTo.out]; exact HXm.out), hide_ (HBk.out.trans HKm.out.1), hide_ (HKm.out.2 _ _ _ (by decide) (by decide) HEk.out)⟩
          case measure => simp [intOf]; omega
        · obtain rfl : k = f.T.length := by omega
          go_wp2_with fail
          go_roundw
          case rel => exact ⟨i + 1, _, by omega, rfl, by go_num, hide_ (by
            have h := HXk.out
            rw [List.take_length] at h
            rw [HNx.out, ← List.append_assoc]
            exact h), HBk⟩
          case measure => simp [intOf]; omega
    · obtain rfl : i = P.length := by omega
      have HE : Hid (svH P.length m h ++ ((P.take P.length).map (·.1)).flatMap svF = sv fs m h) := hide_ (by rw [List.take_length, HPm.out, HPl.out]; rfl)
      rw [HE.out] at HX
      clear HE
      go_wp2_with fail
      go_ret
      exact ⟨_, rfl, HX.out, HB.out⟩
end Go.Proofs.Ytcmkdkocponpiaa
