import Derived.Test.YtcmkdkocponpiaaPart23

/- mortiselaw22: plays: a call of moves. -/
namespace Go.Proofs.Ytcmkdkocponpiaa
open Go.RowKit
set_option linter.unusedVariables false

theorem PlTo.from {B : Nat} {w0 w w' : World} {bt N M : Nat} {xs : Nat → Option Sk} (h : PlTo B w w' bt xs N) (hb : Below B w0 w) (hN : N ≤ M) : PlTo B w0 w' bt xs M := by
  obtain ⟨p', q', xs', S', h1, h2, h3⟩ := h
  exact ⟨p', q', xs', S', h1.mono hN, h2, hb.trans h3⟩
set_option maxRecDepth 100000 in
set_option maxHeartbeats 16000000 in
theorem plays_push (B bt : Nat) (p q : Nat → Value) (xs : Nat → Option Sk) (N : Nat) (S : Nat → Nat → Prop) (wh : Bool) (f : Fr) (a : Option Addr) (c : Nat) (n : Int) (ab : Option Addr) (nb cb : Nat) (w : World) (hT : Hid (Tab B w bt p q xs xs N S)) (HFA : Hid (∀ w', Below B w w' → FrA w' f a c)) (hfc : f.T.length ≤ c) (hcm : c ≤ 9223372036854775807) (hN : N ≤ 780) (hx : ∀ j, j < 2 → ∃ y, xs j = some y) :
    Calls Try.prog 25 #[.pointer (some ⟨bt, 0, none⟩), .agg #[.int .i64 2, .bool wh, .int .i64 f.r, .int .i64 f.a, .int .i64 f.b, .int .i64 f.e, .int .i64 f.n, .int .i64 f.x, .slice a f.T.length c, .int .i64 n, .slice ab nb cb]] w fun e w' => e = .returned (.bool true) ∧ Hid (PlTo B w w' bt xs (N + 3)) := by
  have HBw := hide_ hT.out.base
  have HBd := hide_ hT.out.lt
  have HSk : Hid (∀ j k, S j k → B ≤ k ∧ k < w.heap.size ∧ k ≠ bt) := hide_ hT.out.ly
  obtain ⟨w1, hw1⟩ : ∃ wx, wx = w.alloc (.cells #[.int .i64 2, .bool wh, .int .i64 f.r, .int .i64 f.a, .int .i64 f.b, .int .i64 f.e, .int .i64 f.n, .int .i64 f.x, .slice a f.T.length c, .int .i64 n, .slice ab nb cb] 63) := ⟨_, rfl⟩
  have hB1 : Below w.heap.size w w1 := by rw [hw1]; exact below1 _ _
  have K1 : Hid (Blk w1 w.heap.size 63 [.int .i64 2, .bool wh, .int .i64 f.r, .int .i64 f.a, .int .i64 f.b, .int .i64 f.e, .int .i64 f.n, .int .i64 f.x, .slice a f.T.length c, .int .i64 n, .slice ab nb cb]) := hide_ (by rw [hw1]; exact Blk.newA w _ _)
  have HB1 := hide_ hB1
  have hCut := cut_any f a c w1 (hide_ (HFA.out w1 (hB1.mono HBw.out))) hfc hcm
  obtain ⟨tl, htl⟩ : ∃ tl, (f.T.take 300).length = tl := ⟨_, rfl⟩
  rw [htl] at hCut
  have HCut := hide_ hCut
  have HTl := hide_ htl
  clear hCut htl
  have o1 := K1.out.cell 1; have o2 := K1.out.cell 2; have o3 := K1.out.cell 3; have o4 := K1.out.cell 4; have o5 := K1.out.cell 5; have o6 := K1.out.cell 6; have o7 := K1.out.cell 7; have o8 := K1.out.cell 8
  simp at o1 o2 o3 o4 o5 o6 o7 o8
  clear hB1
  go_enter Try.func25, Try.ntmps25
  go_upto_region 2 with fail
  rw [← hw1]
  clear hw1
  go_upto_if 11 with fail
  go_cut [5] from 5 to 11 (fun x5 wc => x5 = .int .i64 (wN wh : Int) ∧ w1 = wc)
  case first =>
    cases wh with
    | true =>
      go_wp2_with fail
      go_meet
      case rel => exact ⟨rfl, rfl⟩
    | false =>
      go_wp2_with fail
      go_meet
      case rel => exact ⟨rfl, rfl⟩
  case rest =>
  obtain ⟨rfl, rfl⟩ := hcut
  have hi := wN_lt wh
  obtain ⟨i, hiw⟩ : ∃ i, wN wh = i := ⟨_, rfl⟩
  have HIw := hide_ hiw
  rw [hiw] at hi ⊢
  clear hiw o1
  have hi' : (i : Int) < 2 := by omega
  go_wp2_with fail
  refine HCut.out.mono ?_
  rintro e w2 ⟨rfl, hb2⟩
  have K2 := hide_ (K1.out.later hb2)
  have HB2 := hide_ (below_to HB1.out hb2)
  obtain ⟨w3, hw3⟩ : ∃ wx, wx = ((((((w2.setCell ⟨w.heap.size, 2, none⟩ (.int .i64 f.r)).setCell ⟨w.heap.size, 3, none⟩ (.int .i64 f.a)).setCell ⟨w.heap.size, 4, none⟩ (.int .i64 f.b)).setCell ⟨w.heap.size, 5, none⟩ (.int .i64 f.e)).setCell ⟨w.heap.size, 6, none⟩ (.int .i64 f.n)).setCell ⟨w.heap.size, 7, none⟩ (.int .i64 f.x)).setCell ⟨w.heap.size, 8, none⟩ (.slice a tl c) := ⟨_, rfl⟩
  have hu3 : Upd (fun k => k = w.heap.size) w2 w3 := by
    rw [hw3]
    exact (((((((Upd.refl (fun k => k = w.heap.size) w2).set ⟨w.heap.size, 2, none⟩ _ (.inl rfl)).set ⟨w.heap.size, 3, none⟩ _ (.inl rfl)).set ⟨w.heap.size, 4, none⟩ _ (.inl rfl)).set ⟨w.heap.size, 5, none⟩ _ (.inl rfl)).set ⟨w.heap.size, 6, none⟩ _ (.inl rfl)).set ⟨w.heap.size, 7, none⟩ _ (.inl rfl)).set ⟨w.heap.size, 8, none⟩ _ (.inl rfl)
  have K3 : Hid (Blk w3 w.heap.size 63 [.int .i64 2, .bool wh, .int .i64 f.r, .int .i64 f.a, .int .i64 f.b, .int .i64 f.e, .int .i64 f.n, .int .i64 f.x, .slice a tl c, .int .i64 n, .slice ab nb cb]) := hide_ (by
    have h := ((((((K2.out.set 2 (.int .i64 f.r)).set 3 (.int .i64 f.a)).set 4 (.int .i64 f.b)).set 5 (.int .i64 f.e)).set 6 (.int .i64 f.n)).set 7 (.int .i64 f.x)).set 8 (.slice a tl c)
    rw [hw3]
    simpa using h)
  have HB3 : Hid (Below w.heap.size w w3) := hide_ (HB2.out.trans (hu3.below w.heap.size HB2.out.size (fun k hk => by omega)))
  have z2 := K2.out.frozen 2; have z3 := K2.out.frozen 3; have z4 := K2.out.frozen 4; have z5 := K2.out.frozen 5; have z6 := K2.out.frozen 6; have z7 := K2.out.frozen 7; have z8 := K2.out.frozen 8
  clear o2 o3 o4 o5 o6 o7 o8
  have o2 := K2.out.cell 2; have o3 := K2.out.cell 3; have o4 := K2.out.cell 4; have o5 := K2.out.cell 5; have o6 := K2.out.cell 6; have o7 := K2.out.cell 7; have o8 := K2.out.cell 8
  simp at o2 o3 o4 o5 o6 o7 o8
  clear hb2 hu3 HCut K1 K2
  go_upto_region 5 with fail
  rw [← hw3]
  clear hw3 o2 o3 o4 o5 o6 o7 o8 z2 z3 z4 z5 z6 z7 z8
  have o0 := K3.out.cell 0; have o9 := K3.out.cell 9; have o10 := K3.out.cell 10
  simp at o0 o9 o10
  obtain ⟨⟨fs, m, h⟩, hy⟩ := hx i hi
  have HT3 := hide_ ((hT.out.later HB3.out).later (w' := w3.drew) ((Below.refl w3.heap.size w3).drew))
  have HB3e := hide_ ((below_to HB3.out ((Below.refl w3.heap.size w3).drew)).mono HBw.out)
  have hM := moves_push B bt i p q xs N S (fs, m, h) wh (cutF f) a c n ab nb cb w3.drew HT3 hi hy (hide_ (fun w' hb => (HFA.out w' (HB3e.out.trans hb)).cut)) (by show (f.T.take 300).length ≤ 1000000; rw [List.length_take]; omega) (by omega)
  dsimp only [cutF] at hM
  rw [HTl.out] at hM
  have HMv := hide_ hM
  have hP := HT3.out.ps i hi
  have hQ := HT3.out.qs i hi
  rw [hy] at hP hQ
  obtain ⟨gp, hp, -⟩ := hP.open
  obtain ⟨gq, hq, -⟩ := hQ.open
  have HSS : Hid ((fun w' => w'.cell? ⟨bt, i, none⟩ = some (.pointer (some ⟨gp, 0, none⟩)) ∧ w'.cell? ⟨bt, 2 + i, none⟩ = some (.pointer (some ⟨gq, 0, none⟩))) w3.drew) := hide_ ⟨by rw [← hp]; exact (HT3.out.cellP i hi).1, by rw [← hq]; exact HT3.out.cellQ i hi⟩
  have Hp := hide_ hp
  have Hq := hide_ hq
  have HY := hide_ hy
  have o1 := K3.out.cell 1; have o2 := K3.out.cell 2; have o3 := K3.out.cell 3; have o4 := K3.out.cell 4; have o5 := K3.out.cell 5; have o6 := K3.out.cell 6; have o7 := K3.out.cell 7; have o8 := K3.out.cell 8
  simp at o1 o2 o3 o4 o5 o6 o7 o8
  clear hM hP hQ hp hq hy
  go_upto_region 16 with fail
  refine wp_region_last 38 (fun w' => w'.cell? ⟨bt, i, none⟩ = some (.pointer (some ⟨gp, 0, none⟩)) ∧ w'.cell? ⟨bt, 2 + i, none⟩ = some (.pointer (some ⟨gq, 0, none⟩))) (by kernel_rfl) (HSS.out) (fun hHeld => ?_)
  refine wpAnyF_take [38] (by kernel_rfl) (i := 0) (v := ?vp1) rfl (by kernel_rfl) (by kernel_rfl) (by kernel_rfl) (fun _ _ _ h => h) (Or.inl ⟨by kernel_rfl, ?hyp1⟩) hHeld ?restp1
  case hyp1 => intro w' hSw; (try dsimp only at hSw); go_simp; try with_reducible rfl
  simp only [Act.put]
  try dsimp only
  refine wpAnyF_take [38] (by kernel_rfl) (i := 1) (v := ?vp2) rfl (by kernel_rfl) (by kernel_rfl) (by kernel_rfl) (fun _ _ _ h => h) (Or.inl ⟨by kernel_rfl, ?hyp2⟩) hHeld ?restp2
  case hyp2 => intro w' hSw; (try dsimp only at hSw); go_simp; try with_reducible rfl
  simp only [Act.put]
  try dsimp only
  refine wpAnyF_ready (rs := [2]) (by kernel_rfl) (by simp) ?_
  refine AllReadyF.cons rfl (fun K hK => ?_) AllReadyF.nil
  go_simp
  refine hK.out _ _ (HSS.out) (fun hHeld => ?_)
  clear hK K
  refine wpAnyF_ready (rs := [3]) (by kernel_rfl) (by simp) ?_
  refine AllReadyF.cons rfl (fun K hK => ?_) AllReadyF.nil
  go_simp
  refine HMv.out.mono ?_
  rintro e w5 ⟨rfl, hpm⟩
  obtain ⟨xs', S', hT5, hx5, hb5⟩ := hpm.out
  obtain ⟨⟨fs', m', h'⟩, hy5⟩ := hx5 i _ HY.out
  have hP5 := hT5.ps i hi
  have hQ5 := hT5.qs i hi
  rw [hy5, Hp.out] at hP5
  rw [hy5, Hq.out] at hQ5
  obtain ⟨g', hg', hS5⟩ := hP5.open
  injection hg' with hg'
  injection hg' with hg'
  injection hg' with hg' _ _
  subst hg'
  obtain ⟨g', hg', hR5⟩ := hQ5.open
  injection hg' with hg'
  injection hg' with hg'
  injection hg' with hg' _ _
  subst hg'
  dsimp only at hS5 hR5
  have HL1 := hide_ hS5.lenc
  have HL2 := hide_ hR5.lenc
  have HH1 := hide_ hS5.highc
  have HH2 := hide_ hR5.highc
  have HS5 : Hid ((fun w' => w'.cell? ⟨bt, i, none⟩ = some (.pointer (some ⟨gp, 0, none⟩)) ∧ w'.cell? ⟨bt, 2 + i, none⟩ = some (.pointer (some ⟨gq, 0, none⟩))) w5) := hide_ ⟨by rw [← Hp.out]; exact (hT5.cellP i hi).1, by rw [← Hq.out]; exact hT5.cellQ i hi⟩
  have HP : Hid (PlTo B w w5 bt xs (N + 3)) := hide_ ⟨p, q, xs', S', hT5.mono (by omega), hx5, HB3e.out.trans hb5⟩
  clear hpm hT5 hx5 hb5 hy5 hP5 hQ5 hS5 hR5
  dsimp only
  refine hK.out _ _ (HS5.out) (fun hHeld => ?_)
  clear hK K
  refine wpAnyF_take [38] (by kernel_rfl) (i := 4) (v := ?vp3) rfl (by kernel_rfl) (by kernel_rfl) (by kernel_rfl) (fun _ _ _ h => h) (Or.inl ⟨by kernel_rfl, ?hyp3⟩) hHeld ?restp3
  case hyp3 => intro w' hSw; (try dsimp only at hSw); go_simp; try with_reducible rfl
  simp only [Act.put]
  try dsimp only
  refine wpAnyF_take [38] (by kernel_rfl) (i := 5) (v := ?vp4) rfl (by kernel_rfl) (by kernel_rfl) (by kernel_rfl) (fun _ _ _ h => h) (Or.inl ⟨by kernel_rfl, ?hyp4⟩) hHeld ?restp4
  case hyp4 => intro w' hSw; (try dsimp only at hSw); go_simp; try with_reducible rfl
  simp only [Act.put]
  try dsimp only
  refine wpAnyF_take [38] (by kernel_rfl) (i := 6) (v := ?vp5) rfl (by kernel_rfl) (by kernel_rfl) (by kernel_rfl) (fun _ _ _ h => h) (Or.inl ⟨by kernel_rfl, ?hyp5⟩) hHeld ?restp5
  case hyp5 => intro w' hSw; (try dsimp only at hSw); go_simp; try with_reducible rfl
  simp only [Act.put]
  try dsimp only
  refine wpAnyF_take [38] (by kernel_rfl) (i := 7) (v := ?vp6) rfl (by kernel_rfl) (by kernel_rfl) (by kernel_rfl) (fun _ _ _ h => h) (Or.inl ⟨by kernel_rfl, ?hyp6⟩) hHeld ?restp6
  case hyp6 => intro w' hSw; (try dsimp only at hSw); go_simp; try with_reducible rfl
  simp only [Act.put]
  try dsimp only
  refine wpAnyF_take [38] (by kernel_rfl) (i := 8) (v := ?vp7) rfl (by kernel_rfl) (by kernel_rfl) (by kernel_rfl) (fun _ _ _ h => h) (Or.inl ⟨by kernel_rfl, ?hyp7⟩) hHeld ?restp7
  case hyp7 => intro w' hSw; (try dsimp only at hSw); go_simp; try with_reducible rfl
  simp only [Act.put]
  try dsimp only
  refine wpAnyF_take [38] (by kernel_rfl) (i := 9) (v := ?vp8) rfl (by kernel_rfl) (by kernel_rfl) (by kernel_rfl) (fun _ _ _ h => h) (Or.inl ⟨by kernel_rfl, ?hyp8⟩) hHeld ?restp8
  case hyp8 => intro w' hSw; (try dsimp only at hSw); go_simp; try with_reducible rfl
  simp only [Act.put]
  try dsimp only
  refine wpAnyF_take [38] (by kernel_rfl) (i := 10) (v := ?vp9) rfl (by kernel_rfl) (by kernel_rfl) (by kernel_rfl) (fun _ _ _ h => h) (Or.inl ⟨by kernel_rfl, ?hyp9⟩) hHeld ?restp9
  case hyp9 => intro w' hSw; (try dsimp only at hSw); go_simp; try with_reducible rfl
  simp only [Act.put]
  try dsimp only
  refine wpAnyF_take [38] (by kernel_rfl) (i := 12) (v := ?vp10) rfl (by kernel_rfl) (by kernel_rfl) (by kernel_rfl) (fun _ _ _ h => h) (Or.inl ⟨by kernel_rfl, ?hyp10⟩) hHeld ?restp10
  case hyp10 => intro w' hSw; (try dsimp only at hSw); go_simp; try with_reducible rfl
  simp only [Act.put]
  try dsimp only
  refine wpAnyF_take [38] (by kernel_rfl) (i := 13) (v := ?vp11) rfl (by kernel_rfl) (by kernel_rfl) (by kernel_rfl) (fun _ _ _ h => h) (Or.inl ⟨by kernel_rfl, ?hyp11⟩) hHeld ?restp11
  case hyp11 => intro w' hSw; (try dsimp only at hSw); go_simp; try with_reducible rfl
  simp only [Act.put]
  try dsimp only
  refine wpAnyF_take [38] (by kernel_rfl) (i := 14) (v := ?vp12) rfl (by kernel_rfl) (by kernel_rfl) (by kernel_rfl) (fun _ _ _ h => h) (Or.inl ⟨by kernel_rfl, ?hyp12⟩) hHeld ?restp12
  case hyp12 => intro w' hSw; (try dsimp only at hSw); go_simp; try with_reducible rfl
  simp only [Act.put]
  try dsimp only
  refine wpAnyF_take [38] (by kernel_rfl) (i := 15) (v := ?vp13) rfl (by kernel_rfl) (by kernel_rfl) (by kernel_rfl) (fun _ _ _ h => h) (Or.inl ⟨by kernel_rfl, ?hyp13⟩) hHeld ?restp13
  case hyp13 => intro w' hSw; (try dsimp only at hSw); go_simp; try with_reducible rfl
  simp only [Act.put]
  try dsimp only
  refine wpAnyF_take [38] (by kernel_rfl) (i := 16) (v := ?vp14) rfl (by kernel_rfl) (by kernel_rfl) (by kernel_rfl) (fun _ _ _ h => h) (Or.inl ⟨by kernel_rfl, ?hyp14⟩) hHeld ?restp14
  case hyp14 => intro w' hSw; (try dsimp only at hSw); go_simp; try with_reducible rfl
  simp only [Act.put]
  try dsimp only
  refine wpAnyF_take [38] (by kernel_rfl) (i := 17) (v := ?vp15) rfl (by kernel_rfl) (by kernel_rfl) (by kernel_rfl) (fun _ _ _ h => h) (Or.inl ⟨by kernel_rfl, ?hyp15⟩) hHeld ?restp15
  case hyp15 => intro w' hSw; (try dsimp only at hSw); go_simp; try with_reducible rfl
  simp only [Act.put]
  try dsimp only
  refine wpAnyF_ready (rs := [11]) (by kernel_rfl) (by simp) ?_
  refine AllReadyF.cons rfl (fun K hK => ?_) AllReadyF.nil
  go_simp
  refine HL1.out.mono ?_
  rintro e w5x ⟨rfl, rfl⟩
  dsimp only
  refine hK.out _ _ (HS5.out) (fun hHeld => ?_)
  clear hK K
  refine wpAnyF_ready (rs := [18]) (by kernel_rfl) (by simp) ?_
  refine AllReadyF.cons rfl (fun K hK => ?_) AllReadyF.nil
  go_simp
  refine HL2.out.mono ?_
  rintro e w5x ⟨rfl, rfl⟩
  dsimp only
  refine hK.out _ _ (HS5.out) (fun hHeld => ?_)
  clear hK K
  refine wpAnyF_take [38] (by kernel_rfl) (i := 19) (v := ?vp16) rfl (by kernel_rfl) (by kernel_rfl) (by kernel_rfl) (fun _ _ _ h => h) (Or.inl ⟨by kernel_rfl, ?hyp16⟩) hHeld ?restp16
  case hyp16 => intro w' hSw; (try dsimp only at hSw); go_simp; try with_reducible rfl
  simp only [Act.put]
  try dsimp only
  refine wpAnyF_take [38] (by kernel_rfl) (i := 20) (v := ?vp17) rfl (by kernel_rfl) (by kernel_rfl) (by kernel_rfl) (fun _ _ _ h => h) (Or.inl ⟨by kernel_rfl, ?hyp17⟩) hHeld ?restp17
  case hyp17 => intro w' hSw; (try dsimp only at hSw); go_simp; try with_reducible rfl
  simp only [Act.put]
  try dsimp only
  refine wpAnyF_take [38] (by kernel_rfl) (i := 21) (v := ?vp18) rfl (by kernel_rfl) (by kernel_rfl) (by kernel_rfl) (fun _ _ _ h => h) (Or.inl ⟨by kernel_rfl, ?hyp18⟩) hHeld ?restp18
  case hyp18 => intro w' hSw; (try dsimp only at hSw); go_simp; try with_reducible rfl
  simp only [Act.put]
  try dsimp only
  refine wpAnyF_take [38] (by kernel_rfl) (i := 22) (v := ?vp19) rfl (by kernel_rfl) (by kernel_rfl) (by kernel_rfl) (fun _ _ _ h => h) (Or.inl ⟨by kernel_rfl, ?hyp19⟩) hHeld ?restp19
  case hyp19 => intro w' hSw; (try dsimp only at hSw); go_simp; try with_reducible rfl
  simp only [Act.put]
  try dsimp only
  refine wpAnyF_take [38] (by kernel_rfl) (i := 23) (v := ?vp20) rfl (by kernel_rfl) (by kernel_rfl) (by kernel_rfl) (fun _ _ _ h => h) (Or.inl ⟨by kernel_rfl, ?hyp20⟩) hHeld ?restp20
  case hyp20 => intro w' hSw; (try dsimp only at hSw); go_simp; try with_reducible rfl
  simp only [Act.put]
  try dsimp only
  refine wpAnyF_take [38] (by kernel_rfl) (i := 24) (v := ?vp21) rfl (by kernel_rfl) (by kernel_rfl) (by kernel_rfl) (fun _ _ _ h => h) (Or.inl ⟨by kernel_rfl, ?hyp21⟩) hHeld ?restp21
  case hyp21 => intro w' hSw; (try dsimp only at hSw); go_simp; try with_reducible rfl
  simp only [Act.put]
  try dsimp only
  refine wpAnyF_take [38] (by kernel_rfl) (i := 25) (v := ?vp22) rfl (by kernel_rfl) (by kernel_rfl) (by kernel_rfl) (fun _ _ _ h => h) (Or.inl ⟨by kernel_rfl, ?hyp22⟩) hHeld ?restp22
  case hyp22 => intro w' hSw; (try dsimp only at hSw); go_simp; try with_reducible rfl
  simp only [Act.put]
  try dsimp only
  refine wpAnyF_take [38] (by kernel_rfl) (i := 26) (v := ?vp23) rfl (by kernel_rfl) (by kernel_rfl) (by kernel_rfl) (fun _ _ _ h => h) (Or.inl ⟨by kernel_rfl, ?hyp23⟩) hHeld ?restp23
  case hyp23 => intro w' hSw; (try dsimp only at hSw); go_simp; try with_reducible rfl
  simp only [Act.put]
  try dsimp only
  refine wpAnyF_take [38] (by kernel_rfl) (i := 27) (v := ?vp24) rfl (by kernel_rfl) (by kernel_rfl) (by kernel_rfl) (fun _ _ _ h => h) (Or.inl ⟨by kernel_rfl, ?hyp24⟩) hHeld ?restp24
  case hyp24 => intro w' hSw; (try dsimp only at hSw); go_simp; try with_reducible rfl
  simp only [Act.put]
  try dsimp only
  refine wpAnyF_take [38] (by kernel_rfl) (i := 29) (v := ?vp25) rfl (by kernel_rfl) (by kernel_rfl) (by kernel_rfl) (fun _ _ _ h => h) (Or.inl ⟨by kernel_rfl, ?hyp25⟩) hHeld ?restp25
  case hyp25 => intro w' hSw; (try dsimp only at hSw); go_simp; try with_reducible rfl
  simp only [Act.put]
  try dsimp only
  refine wpAnyF_take [38] (by kernel_rfl) (i := 30) (v := ?vp26) rfl (by kernel_rfl) (by kernel_rfl) (by kernel_rfl) (fun _ _ _ h => h) (Or.inl ⟨by kernel_rfl, ?hyp26⟩) hHeld ?restp26
  case hyp26 => intro w' hSw; (try dsimp only at hSw); go_simp; try with_reducible rfl
  simp only [Act.put]
  try dsimp only
  refine wpAnyF_take [38] (by kernel_rfl) (i := 31) (v := ?vp27) rfl (by kernel_rfl) (by kernel_rfl) (by kernel_rfl) (fun _ _ _ h => h) (Or.inl ⟨by kernel_rfl, ?hyp27⟩) hHeld ?restp27
  case hyp27 => intro w' hSw; (try dsimp only at hSw); go_simp; try with_reducible rfl
  simp only [Act.put]
  try dsimp only
  refine wpAnyF_take [38] (by kernel_rfl) (i := 32) (v := ?vp28) rfl (by kernel_rfl) (by kernel_rfl) (by kernel_rfl) (fun _ _ _ h => h) (Or.inl ⟨by kernel_rfl, ?hyp28⟩) hHeld ?restp28
  case hyp28 => intro w' hSw; (try dsimp only at hSw); go_simp; try with_reducible rfl
  simp only [Act.put]
  try dsimp only
  refine wpAnyF_take [38] (by kernel_rfl) (i := 33) (v := ?vp29) rfl (by kernel_rfl) (by kernel_rfl) (by kernel_rfl) (fun _ _ _ h => h) (Or.inl ⟨by kernel_rfl, ?hyp29⟩) hHeld ?restp29
  case hyp29 => intro w' hSw; (try dsimp only at hSw); go_simp; try with_reducible rfl
  simp only [Act.put]
  try dsimp only
  refine wpAnyF_take [38] (by kernel_rfl) (i := 34) (v := ?vp30) rfl (by kernel_rfl) (by kernel_rfl) (by kernel_rfl) (fun _ _ _ h => h) (Or.inl ⟨by kernel_rfl, ?hyp30⟩) hHeld ?restp30
  case hyp30 => intro w' hSw; (try dsimp only at hSw); go_simp; try with_reducible rfl
  simp only [Act.put]
  try dsimp only
  refine wpAnyF_ready (rs := [28]) (by kernel_rfl) (by simp) ?_
  refine AllReadyF.cons rfl (fun K hK => ?_) AllReadyF.nil
  go_simp
  refine HH1.out.mono ?_
  rintro e w5x ⟨rfl, rfl⟩
  dsimp only
  refine hK.out _ _ (HS5.out) (fun hHeld => ?_)
  clear hK K
  refine wpAnyF_ready (rs := [35]) (by kernel_rfl) (by simp) ?_
  refine AllReadyF.cons rfl (fun K hK => ?_) AllReadyF.nil
  go_simp
  refine HH2.out.mono ?_
  rintro e w5x ⟨rfl, rfl⟩
  dsimp only
  refine hK.out _ _ (HS5.out) (fun hHeld => ?_)
  clear hK K
  refine wpAnyF_take [38] (by kernel_rfl) (i := 36) (v := ?vp31) rfl (by kernel_rfl) (by kernel_rfl) (by kernel_rfl) (fun _ _ _ h => h) (Or.inl ⟨by kernel_rfl, ?hyp31⟩) hHeld ?restp31
  case hyp31 => intro w' hSw; (try dsimp only at hSw); go_simp; try with_reducible rfl
  simp only [Act.put]
  try dsimp only
  refine wpAnyF_take [38] (by kernel_rfl) (i := 37) (v := ?vp32) rfl (by kernel_rfl) (by kernel_rfl) (by kernel_rfl) (fun _ _ _ h => h) (Or.inl ⟨by kernel_rfl, ?hyp32⟩) hHeld ?restp32
  case hyp32 => intro w' hSw; (try dsimp only at hSw); go_simp; try with_reducible rfl
  simp only [Act.put]
  try dsimp only
  refine wpAnyF_ready (rs := [38]) (by kernel_rfl) (by simp) ?_
  refine AllReadyF.last rfl (fun K hK => ?_)
  go_simp
  refine hK.out _ _ ?_
  clear hK K
  refine wpAnyF_done (by kernel_rfl) ?_ _
  go_wp2_with fail
  go_ret
  exact ⟨rfl, HP⟩
set_option maxRecDepth 100000 in
set_option maxHeartbeats 16000000 in
theorem plays_set (B bt : Nat) (p q : Nat → Value) (xs : Nat → Option Sk) (N : Nat) (S : Nat → Nat → Prop) (wh : Bool) (f : Fr) (a : Option Addr) (c : Nat) (n : Int) (ab : Option Addr) (nb cb : Nat) (w : World) (hT : Hid (Tab B w bt p q xs xs N S)) (HFA : Hid (∀ w', Below B w w' → FrA w' f a c)) (hfc : f.T.length ≤ c) (hcm : c ≤ 9223372036854775807) (hN : N ≤ 780) (hx : ∀ j, j < 2 → ∃ y, xs j = some y) :
    Calls Try.prog 25 #[.pointer (some ⟨bt, 0, none⟩), .agg #[.int .i64 5, .bool wh, .int .i64 f.r, .int .i64 f.a, .int .i64 f.b, .int .i64 f.e, .int .i64 f.n, .int .i64 f.x, .slice a f.T.length c, .int .i64 n, .slice ab nb cb]] w fun e w' => e = .returned (.bool true) ∧ Hid (PlTo B w w' bt xs (N + 3)) := by
  have HBw := hide_ hT.out.base
  have HBd := hide_ hT.out.lt
  have HSk : Hid (∀ j k, S j k → B ≤ k ∧ k < w.heap.size ∧ k ≠ bt) := hide_ hT.out.ly
  obtain ⟨w1, hw1⟩ : ∃ wx, wx = w.alloc (.cells #[.int .i64 5, .bool wh, .int .i64 f.r, .int .i64 f.a, .int .i64 f.b, .int .i64 f.e, .int .i64 f.n, .int .i64 f.x, .slice a f.T.length c, .int .i64 n, .slice ab nb cb] 63) := ⟨_, rfl⟩
  have hB1 : Below w.heap.size w w1 := by rw [hw1]; exact below1 _ _
  have K1 : Hid (Blk w1 w.heap.size 63 [.int .i64 5, .bool wh, .int .i64 f.r, .int .i64 f.a, .int .i64 f.b, .int .i64 f.e, .int .i64 f.n, .int .i64 f.x, .slice a f.T.length c, .int .i64 n, .slice ab nb cb]) := hide_ (by rw [hw1]; exact Blk.newA w _ _)
  have HB1 := hide_ hB1
  have hCut := cut_any f a c w1 (hide_ (HFA.out w1 (hB1.mono HBw.out))) hfc hcm
  obtain ⟨tl, htl⟩ : ∃ tl, (f.T.take 300).length = tl := ⟨_, rfl⟩
  rw [htl] at hCut
  have HCut := hide_ hCut
  have HTl := hide_ htl
  clear hCut htl
  have o1 := K1.out.cell 1; have o2 := K1.out.cell 2; have o3 := K1.out.cell 3; have o4 := K1.out.cell 4; have o5 := K1.out.cell 5; have o6 := K1.out.cell 6; have o7 := K1.out.cell 7; have o8 := K1.out.cell 8
  simp at o1 o2 o3 o4 o5 o6 o7 o8
  clear hB1
  go_enter Try.func25, Try.ntmps25
  go_upto_region 2 with fail
  rw [← hw1]
  clear hw1
  go_upto_if 11 with fail
  go_cut [5] from 5 to 11 (fun x5 wc => x5 = .int .i64 (wN wh : Int) ∧ w1 = wc)
  case first =>
    cases wh with
    | true =>
      go_wp2_with fail
      go_meet
      case rel => exact ⟨rfl, rfl⟩
    | false =>
      go_wp2_with fail
      go_meet
      case rel => exact ⟨rfl, rfl⟩
  case rest =>
  obtain ⟨rfl, rfl⟩ := hcut
  have hi := wN_lt wh
  obtain ⟨i, hiw⟩ : ∃ i, wN wh = i := ⟨_, rfl⟩
  have HIw := hide_ hiw
  rw [hiw] at hi ⊢
  clear hiw o1
  have hi' : (i : Int) < 2 := by omega
  go_wp2_with fail
  refine HCut.out.mono ?_
  rintro e w2 ⟨rfl, hb2⟩
  have K2 := hide_ (K1.out.later hb2)
  have HB2 := hide_ (below_to HB1.out hb2)
  obtain ⟨w3, hw3⟩ : ∃ wx, wx = ((((((w2.setCell ⟨w.heap.size, 2, none⟩ (.int .i64 f.r)).setCell ⟨w.heap.size, 3, none⟩ (.int .i64 f.a)).setCell ⟨w.heap.size, 4, none⟩ (.int .i64 f.b)).setCell ⟨w.heap.size, 5, none⟩ (.int .i64 f.e)).setCell ⟨w.heap.size, 6, none⟩ (.int .i64 f.n)).setCell ⟨w.heap.size, 7, none⟩ (.int .i64 f.x)).setCell ⟨w.heap.size, 8, none⟩ (.slice a tl c) := ⟨_, rfl⟩
  have hu3 : Upd (fun k => k = w.heap.size) w2 w3 := by
    rw [hw3]
    exact (((((((Upd.refl (fun k => k = w.heap.size) w2).set ⟨w.heap.size, 2, none⟩ _ (.inl rfl)).set ⟨w.heap.size, 3, none⟩ _ (.inl rfl)).set ⟨w.heap.size, 4, none⟩ _ (.inl rfl)).set ⟨w.heap.size, 5, none⟩ _ (.inl rfl)).set ⟨w.heap.size, 6, none⟩ _ (.inl rfl)).set ⟨w.heap.size, 7, none⟩ _ (.inl rfl)).set ⟨w.heap.size, 8, none⟩ _ (.inl rfl)
  have K3 : Hid (Blk w3 w.heap.size 63 [.int .i64 5, .bool wh, .int .i64 f.r, .int .i64 f.a, .int .i64 f.b, .int .i64 f.e, .int .i64 f.n, .int .i64 f.x, .slice a tl c, .int .i64 n, .slice ab nb cb]) := hide_ (by
    have h := ((((((K2.out.set 2 (.int .i64 f.r)).set 3 (.int .i64 f.a)).set 4 (.int .i64 f.b)).set 5 (.int .i64 f.e)).set 6 (.int .i64 f.n)).set 7 (.int .i64 f.x)).set 8 (.slice a tl c)
    rw [hw3]
    simpa using h)
  have HB3 : Hid (Below w.heap.size w w3) := hide_ (HB2.out.trans (hu3.below w.heap.size HB2.out.size (fun k hk => by omega)))
  have z2 := K2.out.frozen 2; have z3 := K2.out.frozen 3; have z4 := K2.out.frozen 4; have z5 := K2.out.frozen 5; have z6 := K2.out.frozen 6; have z7 := K2.out.frozen 7; have z8 := K2.out.frozen 8
  clear o2 o3 o4 o5 o6 o7 o8
  have o2 := K2.out.cell 2; have o3 := K2.out.cell 3; have o4 := K2.out.cell 4; have o5 := K2.out.cell 5; have o6 := K2.out.cell 6; have o7 := K2.out.cell 7; have o8 := K2.out.cell 8
  simp at o2 o3 o4 o5 o6 o7 o8
  clear hb2 hu3 HCut K1 K2
  go_upto_region 5 with fail
  rw [← hw3]
  clear hw3 o2 o3 o4 o5 o6 o7 o8 z2 z3 z4 z5 z6 z7 z8
  have o0 := K3.out.cell 0; have o9 := K3.out.cell 9; have o10 := K3.out.cell 10
  simp at o0 o9 o10
  obtain ⟨⟨fs, m, h⟩, hy⟩ := hx i hi
  have HT3 := hide_ ((hT.out.later HB3.out).later (w' := w3.drew) ((Below.refl w3.heap.size w3).drew))
  have HB3e := hide_ ((below_to HB3.out ((Below.refl w3.heap.size w3).drew)).mono HBw.out)
  have hM := moves_set B bt i p q xs N S (fs, m, h) wh (cutF f) a c n ab nb cb w3.drew HT3 hi hy (hide_ (fun w' hb => (HFA.out w' (HB3e.out.trans hb)).cut)) (by show (f.T.take 300).length ≤ 1000000; rw [List.length_take]; omega) (by omega)
  dsimp only [cutF] at hM
  rw [HTl.out] at hM
  have HMv := hide_ hM
  have hP := HT3.out.ps i hi
  have hQ := HT3.out.qs i hi
  rw [hy] at hP hQ
  obtain ⟨gp, hp, -⟩ := hP.open
  obtain ⟨gq, hq, -⟩ := hQ.open
  have HSS : Hid ((fun w' => w'.cell? ⟨bt, i, none⟩ = some (.pointer (some ⟨gp, 0, none⟩)) ∧ w'.cell? ⟨bt, 2 + i, none⟩ = some (.pointer (some ⟨gq, 0, none⟩))) w3.drew) := hide_ ⟨by rw [← hp]; exact (HT3.out.cellP i hi).1, by rw [← hq]; exact HT3.out.cellQ i hi⟩
  have Hp := hide_ hp
  have Hq := hide_ hq
  have HY := hide_ hy
  have o1 := K3.out.cell 1; have o2 := K3.out.cell 2; have o3 := K3.out.cell 3; have o4 := K3.out.cell 4; have o5 := K3.out.cell 5; have o6 := K3.out.cell 6; have o7 := K3.out.cell 7; have o8 := K3.out.cell 8
  simp at o1 o2 o3 o4 o5 o6 o7 o8
  clear hM hP hQ hp hq hy
  go_upto_region 16 with fail
  refine wp_region_last 38 (fun w' => w'.cell? ⟨bt, i, none⟩ = some (.pointer (some ⟨gp, 0, none⟩)) ∧ w'.cell? ⟨bt, 2 + i, none⟩ = some (.pointer (some ⟨gq, 0, none⟩))) (by kernel_rfl) (HSS.out) (fun hHeld => ?_)
  refine wpAnyF_take [38] (by kernel_rfl) (i := 0) (v := ?vp1) rfl (by kernel_rfl) (by kernel_rfl) (by kernel_rfl) (fun _ _ _ h => h) (Or.inl ⟨by kernel_rfl, ?hyp1⟩) hHeld ?restp1
  case hyp1 => intro w' hSw; (try dsimp only at hSw); go_simp; try with_reducible rfl
  simp only [Act.put]
  try dsimp only
  refine wpAnyF_take [38] (by kernel_rfl) (i := 1) (v := ?vp2) rfl (by kernel_rfl) (by kernel_rfl) (by kernel_rfl) (fun _ _ _ h => h) (Or.inl ⟨by kernel_rfl, ?hyp2⟩) hHeld ?restp2
  case hyp2 => intro w' hSw; (try dsimp only at hSw); go_simp; try with_reducible rfl
  simp only [Act.put]
  try dsimp only
  refine wpAnyF_ready (rs := [2]) (by kernel_rfl) (by simp) ?_
  refine AllReadyF.cons rfl (fun K hK => ?_) AllReadyF.nil
  go_simp
  refine hK.out _ _ (HSS.out) (fun hHeld => ?_)
  clear hK K
  refine wpAnyF_ready (rs := [3]) (by kernel_rfl) (by simp) ?_
  refine AllReadyF.cons rfl (fun K hK => ?_) AllReadyF.nil
  go_simp
  refine HMv.out.mono ?_
  rintro e w5 ⟨rfl, hpm⟩
  obtain ⟨xs', S', hT5, hx5, hb5⟩ := hpm.out
  obtain ⟨⟨fs', m', h'⟩, hy5⟩ := hx5 i _ HY.out
  have hP5 := hT5.ps i hi
  have hQ5 := hT5.qs i hi
  rw [hy5, Hp.out] at hP5
  rw [hy5, Hq.out] at hQ5
  obtain ⟨g', hg', hS5⟩ := hP5.open
  injection hg' with hg'
  injection hg' with hg'
  injection hg' with hg' _ _
  subst hg'
  obtain ⟨g', hg', hR5⟩ := hQ5.open
  injection hg' with hg'
  injection hg' with hg'
  injection hg' with hg' _ _
  subst hg'
  dsimp only at hS5 hR5
  have HL1 := hide_ hS5.lenc
  have HL2 := hide_ hR5.lenc
  have HH1 := hide_ hS5.highc
  have HH2 := hide_ hR5.highc
  have HS5 : Hid ((fun w' => w'.cell? ⟨bt, i, none⟩ = some (.pointer (some ⟨gp, 0, none⟩)) ∧ w'.cell? ⟨bt, 2 + i, none⟩ = some (.pointer (some ⟨gq, 0, none⟩))) w5) := hide_ ⟨by rw [← Hp.out]; exact (hT5.cellP i hi).1, by rw [← Hq.out]; exact hT5.cellQ i hi⟩
  have HP : Hid (PlTo B w w5 bt xs (N + 3)) := hide_ ⟨p, q, xs', S', hT5.mono (by omega), hx5, HB3e.out.trans hb5⟩
  clear hpm hT5 hx5 hb5 hy5 hP5 hQ5 hS5 hR5
  dsimp only
  refine hK.out _ _ (HS5.out) (fun hHeld => ?_)
  clear hK K
  refine wpAnyF_take [38] (by kernel_rfl) (i := 4) (v := ?vp3) rfl (by kernel_rfl) (by kernel_rfl) (by kernel_rfl) (fun _ _ _ h => h) (Or.inl ⟨by kernel_rfl, ?hyp3⟩) hHeld ?restp3
  case hyp3 => intro w' hSw; (try dsimp only at hSw); go_simp; try with_reducible rfl
  simp only [Act.put]
  try dsimp only
  refine wpAnyF_take [38] (by kernel_rfl) (i := 5) (v := ?vp4) rfl (by kernel_rfl) (by kernel_rfl) (by kernel_rfl) (fun _ _ _ h => h) (Or.inl ⟨by kernel_rfl, ?hyp4⟩) hHeld ?restp4
  case hyp4 => intro w' hSw; (try dsimp only at hSw); go_simp; try with_reducible rfl
  simp only [Act.put]
  try dsimp only
  refine wpAnyF_take [38] (by kernel_rfl) (i := 6) (v := ?vp5) rfl (by kernel_rfl) (by kernel_rfl) (by kernel_rfl) (fun _ _ _ h => h) (Or.inl ⟨by kernel_rfl, ?hyp5⟩) hHeld ?restp5
  case hyp5 => intro w' hSw; (try dsimp only at hSw); go_simp; try with_reducible rfl
  simp only [Act.put]
  try dsimp only
  refine wpAnyF_take [38] (by kernel_rfl) (i := 7) (v := ?vp6) rfl (by kernel_rfl) (by kernel_rfl) (by kernel_rfl) (fun _ _ _ h => h) (Or.inl ⟨by kernel_rfl, ?hyp6⟩) hHeld ?restp6
  case hyp6 => intro w' hSw; (try dsimp only at hSw); go_simp; try with_reducible rfl
  simp only [Act.put]
  try dsimp only
  refine wpAnyF_take [38] (by kernel_rfl) (i := 8) (v := ?vp7) rfl (by kernel_rfl) (by kernel_rfl) (by kernel_rfl) (fun _ _ _ h => h) (Or.inl ⟨by kernel_rfl, ?hyp7⟩) hHeld ?restp7
  case hyp7 => intro w' hSw; (try dsimp only at hSw); go_simp; try with_reducible rfl
  simp only [Act.put]
  try dsimp only
  refine wpAnyF_take [38] (by kernel_rfl) (i := 9) (v := ?vp8) rfl (by kernel_rfl) (by kernel_rfl) (by kernel_rfl) (fun _ _ _ h => h) (Or.inl ⟨by kernel_rfl, ?hyp8⟩) hHeld ?restp8
  case hyp8 => intro w' hSw; (try dsimp only at hSw); go_simp; try with_reducible rfl
  simp only [Act.put]
  try dsimp only
  refine wpAnyF_take [38] (by kernel_rfl) (i := 10) (v := ?vp9) rfl (by kernel_rfl) (by kernel_rfl) (by kernel_rfl) (fun _ _ _ h => h) (Or.inl ⟨by kernel_rfl, ?hyp9⟩) hHeld ?restp9
  case hyp9 => intro w' hSw; (try dsimp only at hSw); go_simp; try with_reducible rfl
  simp only [Act.put]
  try dsimp only
  refine wpAnyF_take [38] (by kernel_rfl) (i := 12) (v := ?vp10) rfl (by kernel_rfl) (by kernel_rfl) (by kernel_rfl) (fun _ _ _ h => h) (Or.inl ⟨by kernel_rfl, ?hyp10⟩) hHeld ?restp10
  case hyp10 => intro w' hSw; (try dsimp only at hSw); go_simp; try with_reducible rfl
  simp only [Act.put]
  try dsimp only
  refine wpAnyF_take [38] (by kernel_rfl) (i := 13) (v := ?vp11) rfl (by kernel_rfl) (by kernel_rfl) (by kernel_rfl) (fun _ _ _ h => h) (Or.inl ⟨by kernel_rfl, ?hyp11⟩) hHeld ?restp11
  case hyp11 => intro w' hSw; (try dsimp only at hSw); go_simp; try with_reducible rfl
  simp only [Act.put]
  try dsimp only
  refine wpAnyF_take [38] (by kernel_rfl) (i := 14) (v := ?vp12) rfl (by kernel_rfl) (by kernel_rfl) (by kernel_rfl) (fun _ _ _ h => h) (Or.inl ⟨by kernel_rfl, ?hyp12⟩) hHeld ?restp12
  case hyp12 => intro w' hSw; (try dsimp only at hSw); go_simp; try with_reducible rfl
  simp only [Act.put]
  try dsimp only
  refine wpAnyF_take [38] (by kernel_rfl) (i := 15) (v := ?vp13) rfl (by kernel_rfl) (by kernel_rfl) (by kernel_rfl) (fun _ _ _ h => h) (Or.inl ⟨by kernel_rfl, ?hyp13⟩) hHeld ?restp13
  case hyp13 => intro w' hSw; (try dsimp only at hSw); go_simp; try with_reducible rfl
  simp only [Act.put]
  try dsimp only
  refine wpAnyF_take [38] (by kernel_rfl) (i := 16) (v := ?vp14) rfl (by kernel_rfl) (by kernel_rfl) (by kernel_rfl) (fun _ _ _ h => h) (Or.inl ⟨by kernel_rfl, ?hyp14⟩) hHeld ?restp14
  case hyp14 => intro w' hSw; (try dsimp only at hSw); go_simp; try with_reducible rfl
  simp only [Act.put]
  try dsimp only
  refine wpAnyF_take [38] (by kernel_rfl) (i := 17) (v := ?vp15) rfl (by kernel_rfl) (by kernel_rfl) (by kernel_rfl) (fun _ _ _ h => h) (Or.inl ⟨by kernel_rfl, ?hyp15⟩) hHeld ?restp15
  case hyp15 => intro w' hSw; (try dsimp only at hSw); go_simp; try with_reducible rfl
  simp only [Act.put]
  try dsimp only
  refine wpAnyF_ready (rs := [11]) (by kernel_rfl) (by simp) ?_
  refine AllReadyF.cons rfl (fun K hK => ?_) AllReadyF.nil
  go_simp
  refine HL1.out.mono ?_
  rintro e w5x ⟨rfl, rfl⟩
  dsimp only
  refine hK.out _ _ (HS5.out) (fun hHeld => ?_)
  clear hK K
  refine wpAnyF_ready (rs := [18]) (by kernel_rfl) (by simp) ?_
  refine AllReadyF.cons rfl (fun K hK => ?_) AllReadyF.nil
  go_simp
  refine HL2.out.mono ?_
  rintro e w5x ⟨rfl, rfl⟩
  dsimp only
  refine hK.out _ _ (HS5.out) (fun hHeld => ?_)
  clear hK K
  refine wpAnyF_take [38] (by kernel_rfl) (i := 19) (v := ?vp16) rfl (by kernel_rfl) (by kernel_rfl) (by kernel_rfl) (fun _ _ _ h => h) (Or.inl ⟨by kernel_rfl, ?hyp16⟩) hHeld ?restp16
  case hyp16 => intro w' hSw; (try dsimp only at hSw); go_simp; try with_reducible rfl
  simp only [Act.put]
  try dsimp only
  refine wpAnyF_take [38] (by kernel_rfl) (i := 20) (v := ?vp17) rfl (by kernel_rfl) (by kernel_rfl) (by kernel_rfl) (fun _ _ _ h => h) (Or.inl ⟨by kernel_rfl, ?hyp17⟩) hHeld ?restp17
  case hyp17 => intro w' hSw; (try dsimp only at hSw); go_simp; try with_reducible rfl
  simp only [Act.put]
  try dsimp only
  refine wpAnyF_take [38] (by kernel_rfl) (i := 21) (v := ?vp18) rfl (by kernel_rfl) (by kernel_rfl) (by kernel_rfl) (fun _ _ _ h => h) (Or.inl ⟨by kernel_rfl, ?hyp18⟩) hHeld ?restp18
  case hyp18 => intro w' hSw; (try dsimp only at hSw); go_simp; try with_reducible rfl
  simp only [Act.put]
  try dsimp only
  refine wpAnyF_take [38] (by kernel_rfl) (i := 22) (v := ?vp19) rfl (by kernel_rfl) (by kernel_rfl) (by kernel_rfl) (fun _ _ _ h => h) (Or.inl ⟨by kernel_rfl, ?hyp19⟩) hHeld ?restp19
  case hyp19 => intro w' hSw; (try dsimp only at hSw); go_simp; try with_reducible rfl
  simp only [Act.put]
  try dsimp only
  refine wpAnyF_take [38] (by kernel_rfl) (i := 23) (v := ?vp20) rfl (by kernel_rfl) (by kernel_rfl) (by kernel_rfl) (fun _ _ _ h => h) (Or.inl ⟨by kernel_rfl, ?hyp20⟩) hHeld ?restp20
  case hyp20 => intro w' hSw; (try dsimp only at hSw); go_simp; try with_reducible rfl
  simp only [Act.put]
  try dsimp only
  refine wpAnyF_take [38] (by kernel_rfl) (i := 24) (v := ?vp21) rfl (by kernel_rfl) (by kernel_rfl) (by kernel_rfl) (fun _ _ _ h => h) (Or.inl ⟨by kernel_rfl, ?hyp21⟩) hHeld ?restp21
  case hyp21 => intro w' hSw; (try dsimp only at hSw); go_simp; try with_reducible rfl
  simp only [Act.put]
  try dsimp only
  refine wpAnyF_take [38] (by kernel_rfl) (i := 25) (v := ?vp22) rfl (by kernel_rfl) (by kernel_rfl) (by kernel_rfl) (fun _ _ _ h => h) (Or.inl ⟨by kernel_rfl, ?hyp22⟩) hHeld ?restp22
  case hyp22 => intro w' hSw; (try dsimp only at hSw); go_simp; try with_reducible rfl
  simp only [Act.put]
  try dsimp only
  refine wpAnyF_take [38] (by kernel_rfl) (i := 26) (v := ?vp23) rfl (by kernel_rfl) (by kernel_rfl) (by kernel_rfl) (fun _ _ _ h => h) (Or.inl ⟨by kernel_rfl, ?hyp23⟩) hHeld ?restp23
  case hyp23 => intro w' hSw; (try dsimp only at hSw); go_simp; try with_reducible rfl
  simp only [Act.put]
  try dsimp only
  refine wpAnyF_take [38] (by kernel_rfl) (i := 27) (v := ?vp24) rfl (by kernel_rfl) (by kernel_rfl) (by kernel_rfl) (fun _ _ _ h => h) (Or.inl ⟨by kernel_rfl, ?hyp24⟩) hHeld ?restp24
  case hyp24 => intro w' hSw; (try dsimp only at hSw); go_simp; try with_reducible rfl
  simp only [Act.put]
  try dsimp only
  refine wpAnyF_take [38] (by kernel_rfl) (i := 29) (v := ?vp25) rfl (by kernel_rfl) (by kernel_rfl) (by kernel_rfl) (fun _ _ _ h => h) (Or.inl ⟨by kernel_rfl, ?hyp25⟩) hHeld ?restp25
  case hyp25 => intro w' hSw; (try dsimp only at hSw); go_simp; try with_reducible rfl
  simp only [Act.put]
  try dsimp only
  refine wpAnyF_take [38] (by kernel_rfl) (i := 30) (v := ?vp26) rfl (by kernel_rfl) (by kernel_rfl) (by kernel_rfl) (fun _ _ _ h => h) (Or.inl ⟨by kernel_rfl, ?hyp26⟩) hHeld ?restp26
  case hyp26 => intro w' hSw; (try dsimp only at hSw); go_simp; try with_reducible rfl
  simp only [Act.put]
  try dsimp only
  refine wpAnyF_take [38] (by kernel_rfl) (i := 31) (v := ?vp27) rfl (by kernel_rfl) (by kernel_rfl) (by kernel_rfl) (fun _ _ _ h => h) (Or.inl ⟨by kernel_rfl, ?hyp27⟩) hHeld ?restp27
  case hyp27 => intro w' hSw; (try dsimp only at hSw); go_simp; try with_reducible rfl
  simp only [Act.put]
  try dsimp only
  refine wpAnyF_take [38] (by kernel_rfl) (i := 32) (v := ?vp28) rfl (by kernel_rfl) (by kernel_rfl) (by kernel_rfl) (fun _ _ _ h => h) (Or.inl ⟨by kernel_rfl, ?hyp28⟩) hHeld ?restp28
  case hyp28 => intro w' hSw; (try dsimp only at hSw); go_simp; try with_reducible rfl
  simp only [Act.put]
  try dsimp only
  refine wpAnyF_take [38] (by kernel_rfl) (i := 33) (v := ?vp29) rfl (by kernel_rfl) (by kernel_rfl) (by kernel_rfl) (fun _ _ _ h => h) (Or.inl ⟨by kernel_rfl, ?hyp29⟩) hHeld ?restp29
  case hyp29 => intro w' hSw; (try dsimp only at hSw); go_simp; try with_reducible rfl
  simp only [Act.put]
  try dsimp only
  refine wpAnyF_take [38] (by kernel_rfl) (i := 34) (v := ?vp30) rfl (by kernel_rfl) (by kernel_rfl) (by kernel_rfl) (fun _ _ _ h => h) (Or.inl ⟨by kernel_rfl, ?hyp30⟩) hHeld ?restp30
  case hyp30 => intro w' hSw; (try dsimp only at hSw); go_simp; try with_reducible rfl
  simp only [Act.put]
  try dsimp only
  refine wpAnyF_ready (rs := [28]) (by kernel_rfl) (by simp) ?_
  refine AllReadyF.cons rfl (fun K hK => ?_) AllReadyF.nil
  go_simp
  refine HH1.out.mono ?_
  rintro e w5x ⟨rfl, rfl⟩
  dsimp only
  refine hK.out _ _ (HS5.out) (fun hHeld => ?_)
  clear hK K
  refine wpAnyF_ready (rs := [35]) (by kernel_rfl) (by simp) ?_
  refine AllReadyF.cons rfl (fun K hK => ?_) AllReadyF.nil
  go_simp
  refine HH2.out.mono ?_
  rintro e w5x ⟨rfl, rfl⟩
  dsimp only
  refine hK.out _ _ (HS5.out) (fun hHeld => ?_)
  clear hK K
  refine wpAnyF_take [38] (by kernel_rfl) (i := 36) (v := ?vp31) rfl (by kernel_rfl) (by kernel_rfl) (by kernel_rfl) (fun _ _ _ h => h) (Or.inl ⟨by kernel_rfl, ?hyp31⟩) hHeld ?restp31
  case hyp31 => intro w' hSw; (try dsimp only at hSw); go_simp; try with_reducible rfl
  simp only [Act.put]
  try dsimp only
  refine wpAnyF_take [38] (by kernel_rfl) (i := 37) (v := ?vp32) rfl (by kernel_rfl) (by kernel_rfl) (by kernel_rfl) (fun _ _ _ h => h) (Or.inl ⟨by kernel_rfl, ?hyp32⟩) hHeld ?restp32
  case hyp32 => intro w' hSw; (try dsimp only at hSw); go_simp; try with_reducible rfl
  simp only [Act.put]
  try dsimp only
  refine wpAnyF_ready (rs := [38]) (by kernel_rfl) (by simp) ?_
  refine AllReadyF.last rfl (fun K hK => ?_)
  go_simp
  refine hK.out _ _ ?_
  clear hK K
  refine wpAnyF_done (by kernel_rfl) ?_ _
  go_wp2_with fail
  go_ret
  exact ⟨rfl, HP⟩
set_option maxRecDepth 100000 in
set_option maxHeartbeats 16000000 in
theorem plays_go (B bt : Nat) (p q : Nat → Value) (xs : Nat → Option Sk) (N : Nat) (S : Nat → Nat → Prop) (wh : Bool) (f : Fr) (a : Option Addr) (c : Nat) (n : Int) (ab : Option Addr) (nb cb : Nat) (w : World) (hT : Hid (Tab B w bt p q xs xs N S)) (HFA : Hid (∀ w', Below B w w' → FrA w' f a c)) (hfc : f.T.length ≤ c) (hcm : c ≤ 9223372036854775807) (hN : N ≤ 780) (hx : ∀ j, j < 2 → ∃ y, xs j = some y) :
    Calls Try.prog 25 #[.pointer (some ⟨bt, 0, none⟩), .agg #[.int .i64 6, .bool wh, .int .i64 f.r, .int .i64 f.a, .int .i64 f.b, .int .i64 f.e, .int .i64 f.n, .int .i64 f.x, .slice a f.T.length c, .int .i64 n, .slice ab nb cb]] w fun e w' => e = .returned (.bool true) ∧ Hid (PlTo B w w' bt xs (N + 3)) := by
  have HBw := hide_ hT.out.base
  have HBd := hide_ hT.out.lt
  have HSk : Hid (∀ j k, S j k → B ≤ k ∧ k < w.heap.size ∧ k ≠ bt) := hide_ hT.out.ly
  obtain ⟨w1, hw1⟩ : ∃ wx, wx = w.alloc (.cells #[.int .i64 6, .bool wh, .int .i64 f.r, .int .i64 f.a, .int .i64 f.b, .int .i64 f.e, .int .i64 f.n, .int .i64 f.x, .slice a f.T.length c, .int .i64 n, .slice ab nb cb] 63) := ⟨_, rfl⟩
  have hB1 : Below w.heap.size w w1 := by rw [hw1]; exact below1 _ _
  have K1 : Hid (Blk w1 w.heap.size 63 [.int .i64 6, .bool wh, .int .i64 f.r, .int .i64 f.a, .int .i64 f.b, .int .i64 f.e, .int .i64 f.n, .int .i64 f.x, .slice a f.T.length c, .int .i64 n, .slice ab nb cb]) := hide_ (by rw [hw1]; exact Blk.newA w _ _)
  have HB1 := hide_ hB1
  have hCut := cut_any f a c w1 (hide_ (HFA.out w1 (hB1.mono HBw.out))) hfc hcm
  obtain ⟨tl, htl⟩ : ∃ tl, (f.T.take 300).length = tl := ⟨_, rfl⟩
  rw [htl] at hCut
  have HCut := hide_ hCut
  have HTl := hide_ htl
  clear hCut htl
  have o1 := K1.out.cell 1; have o2 := K1.out.cell 2; have o3 := K1.out.cell 3; have o4 := K1.out.cell 4; have o5 := K1.out.cell 5; have o6 := K1.out.cell 6; have o7 := K1.out.cell 7; have o8 := K1.out.cell 8
  simp at o1 o2 o3 o4 o5 o6 o7 o8
  clear hB1
  go_enter Try.func25, Try.ntmps25
  go_upto_region 2 with fail
  rw [← hw1]
  clear hw1
  go_upto_if 11 with fail
  go_cut [5] from 5 to 11 (fun x5 wc => x5 = .int .i64 (wN wh : Int) ∧ w1 = wc)
  case first =>
    cases wh with
    | true =>
      go_wp2_with fail
      go_meet
      case rel => exact ⟨rfl, rfl⟩
    | false =>
      go_wp2_with fail
      go_meet
      case rel => exact ⟨rfl, rfl⟩
  case rest =>
  obtain ⟨rfl, rfl⟩ := hcut
  have hi := wN_lt wh
  obtain ⟨i, hiw⟩ : ∃ i, wN wh = i := ⟨_, rfl⟩
  have HIw := hide_ hiw
  rw [hiw] at hi ⊢
  clear hiw o1
  have hi' : (i : Int) < 2 := by omega
  go_wp2_with fail
  refine HCut.out.mono ?_
  rintro e w2 ⟨rfl, hb2⟩
  have K2 := hide_ (K1.out.later hb2)
  have HB2 := hide_ (below_to HB1.out hb2)
  obtain ⟨w3, hw3⟩ : ∃ wx, wx = ((((((w2.setCell ⟨w.heap.size, 2, none⟩ (.int .i64 f.r)).setCell ⟨w.heap.size, 3, none⟩ (.int .i64 f.a)).setCell ⟨w.heap.size, 4, none⟩ (.int .i64 f.b)).setCell ⟨w.heap.size, 5, none⟩ (.int .i64 f.e)).setCell ⟨w.heap.size, 6, none⟩ (.int .i64 f.n)).setCell ⟨w.heap.size, 7, none⟩ (.int .i64 f.x)).setCell ⟨w.heap.size, 8, none⟩ (.slice a tl c) := ⟨_, rfl⟩
  have hu3 : Upd (fun k => k = w.heap.size) w2 w3 := by
    rw [hw3]
    exact (((((((Upd.refl (fun k => k = w.heap.size) w2).set ⟨w.heap.size, 2, none⟩ _ (.inl rfl)).set ⟨w.heap.size, 3, none⟩ _ (.inl rfl)).set ⟨w.heap.size, 4, none⟩ _ (.inl rfl)).set ⟨w.heap.size, 5, none⟩ _ (.inl rfl)).set ⟨w.heap.size, 6, none⟩ _ (.inl rfl)).set ⟨w.heap.size, 7, none⟩ _ (.inl rfl)).set ⟨w.heap.size, 8, none⟩ _ (.inl rfl)
  have K3 : Hid (Blk w3 w.heap.size 63 [.int .i64 6, .bool wh, .int .i64 f.r, .int .i64 f.a, .int .i64 f.b, .int .i64 f.e, .int .i64 f.n, .int .i64 f.x, .slice a tl c, .int .i64 n, .slice ab nb cb]) := hide_ (by
    have h := ((((((K2.out.set 2 (.int .i64 f.r)).set 3 (.int .i64 f.a)).set 4 (.int .i64 f.b)).set 5 (.int .i64 f.e)).set 6 (.int .i64 f.n)).set 7 (.int .i64 f.x)).set 8 (.slice a tl c)
    rw [hw3]
    simpa using h)
  have HB3 : Hid (Below w.heap.size w w3) := hide_ (HB2.out.trans (hu3.below w.heap.size HB2.out.size (fun k hk => by omega)))
  have z2 := K2.out.frozen 2; have z3 := K2.out.frozen 3; have z4 := K2.out.frozen 4; have z5 := K2.out.frozen 5; have z6 := K2.out.frozen 6; have z7 := K2.out.frozen 7; have z8 := K2.out.frozen 8
  clear o2 o3 o4 o5 o6 o7 o8
  have o2 := K2.out.cell 2; have o3 := K2.out.cell 3; have o4 := K2.out.cell 4; have o5 := K2.out.cell 5; have o6 := K2.out.cell 6; have o7 := K2.out.cell 7; have o8 := K2.out.cell 8
  simp at o2 o3 o4 o5 o6 o7 o8
  clear hb2 hu3 HCut K1 K2
  go_upto_region 5 with fail
  rw [← hw3]
  clear hw3 o2 o3 o4 o5 o6 o7 o8 z2 z3 z4 z5 z6 z7 z8
  have o0 := K3.out.cell 0; have o9 := K3.out.cell 9; have o10 := K3.out.cell 10
  simp at o0 o9 o10
  obtain ⟨⟨fs, m, h⟩, hy⟩ := hx i hi
  have HT3 := hide_ ((hT.out.later HB3.out).later (w' := w3.drew) ((Below.refl w3.heap.size w3).drew))
  have HB3e := hide_ ((below_to HB3.out ((Below.refl w3.heap.size w3).drew)).mono HBw.out)
  have hM := moves_go B bt i p q xs N S (fs, m, h) wh (cutF f) a c n ab nb cb w3.drew HT3 hi hy (hide_ (fun w' hb => (HFA.out w' (HB3e.out.trans hb)).cut)) (by show (f.T.take 300).length ≤ 1000000; rw [List.length_take]; omega) (by omega)
  dsimp only [cutF] at hM
  rw [HTl.out] at hM
  have HMv := hide_ hM
  have hP := HT3.out.ps i hi
  have hQ := HT3.out.qs i hi
  rw [hy] at hP hQ
  obtain ⟨gp, hp, -⟩ := hP.open
  obtain ⟨gq, hq, -⟩ := hQ.open
  have HSS : Hid ((fun w' => w'.cell? ⟨bt, i, none⟩ = some (.pointer (some ⟨gp, 0, none⟩)) ∧ w'.cell? ⟨bt, 2 + i, none⟩ = some (.pointer (some ⟨gq, 0, none⟩))) w3.drew) := hide_ ⟨by rw [← hp]; exact (HT3.out.cellP i hi).1, by rw [← hq]; exact HT3.out.cellQ i hi⟩
  have Hp := hide_ hp
  have Hq := hide_ hq
  have HY := hide_ hy
  have o1 := K3.out.cell 1; have o2 := K3.out.cell 2; have o3 := K3.out.cell 3; have o4 := K3.out.cell 4; have o5 := K3.out.cell 5; have o6 := K3.out.cell 6; have o7 := K3.out.cell 7; have o8 := K3.out.cell 8
  simp at o1 o2 o3 o4 o5 o6 o7 o8
  clear hM hP hQ hp hq hy
  go_upto_region 16 with fail
  refine wp_region_last 38 (fun w' => w'.cell? ⟨bt, i, none⟩ = some (.pointer (some ⟨gp, 0, none⟩)) ∧ w'.cell? ⟨bt, 2 + i, none⟩ = some (.pointer (some ⟨gq, 0, none⟩))) (by kernel_rfl) (HSS.out) (fun hHeld => ?_)
  refine wpAnyF_take [38] (by kernel_rfl) (i := 0) (v := ?vp1) rfl (by kernel_rfl) (by kernel_rfl) (by kernel_rfl) (fun _ _ _ h => h) (Or.inl ⟨by kernel_rfl, ?hyp1⟩) hHeld ?restp1
  case hyp1 => intro w' hSw; (try dsimp only at hSw); go_simp; try with_reducible rfl
  simp only [Act.put]
  try dsimp only
  refine wpAnyF_take [38] (by kernel_rfl) (i := 1) (v := ?vp2) rfl (by kernel_rfl) (by kernel_rfl) (by kernel_rfl) (fun _ _ _ h => h) (Or.inl ⟨by kernel_rfl, ?hyp2⟩) hHeld ?restp2
  case hyp2 => intro w' hSw; (try dsimp only at hSw); go_simp; try with_reducible rfl
  simp only [Act.put]
  try dsimp only
  refine wpAnyF_ready (rs := [2]) (by kernel_rfl) (by simp) ?_
  refine AllReadyF.cons rfl (fun K hK => ?_) AllReadyF.nil
  go_simp
  refine hK.out _ _ (HSS.out) (fun hHeld => ?_)
  clear hK K
  refine wpAnyF_ready (rs := [3]) (by kernel_rfl) (by simp) ?_
  refine AllReadyF.cons rfl (fun K hK => ?_) AllReadyF.nil
  go_simp
  refine HMv.out.mono ?_
  rintro e w5 ⟨rfl, hpm⟩
  obtain ⟨xs', S', hT5, hx5, hb5⟩ := hpm.out
  obtain ⟨⟨fs', m', h'⟩, hy5⟩ := hx5 i _ HY.out
  have hP5 := hT5.ps i hi
  have hQ5 := hT5.qs i hi
  rw [hy5, Hp.out] at hP5
  rw [hy5, Hq.out] at hQ5
  obtain ⟨g', hg', hS5⟩ := hP5.open
  injection hg' with hg'
  injection hg' with hg'
  injection hg' with hg' _ _
  subst hg'
  obtain ⟨g', hg', hR5⟩ := hQ5.open
  injection hg' with hg'
  injection hg' with hg'
  injection hg' with hg' _ _
  subst hg'
  dsimp only at hS5 hR5
  have HL1 := hide_ hS5.lenc
  have HL2 := hide_ hR5.lenc
  have HH1 := hide_ hS5.highc
  have HH2 := hide_ hR5.highc
  have HS5 : Hid ((fun w' => w'.cell? ⟨bt, i, none⟩ = some (.pointer (some ⟨gp, 0, none⟩)) ∧ w'.cell? ⟨bt, 2 + i, none⟩ = some (.pointer (some ⟨gq, 0, none⟩))) w5) := hide_ ⟨by rw [← Hp.out]; exact (hT5.cellP i hi).1, by rw [← Hq.out]; exact hT5.cellQ i hi⟩
  have HP : Hid (PlTo B w w5 bt xs (N + 3)) := hide_ ⟨p, q, xs', S', hT5.mono (by omega), hx5, HB3e.out.trans hb5⟩
  clear hpm hT5 hx5 hb5 hy5 hP5 hQ5 hS5 hR5
  dsimp only
  refine hK.out _ _ (HS5.out) (fun hHeld => ?_)
  clear hK K
  refine wpAnyF_take [38] (by kernel_rfl) (i := 4) (v := ?vp3) rfl (by kernel_rfl) (by kernel_rfl) (by kernel_rfl) (fun _ _ _ h => h) (Or.inl ⟨by kernel_rfl, ?hyp3⟩) hHeld ?restp3
  case hyp3 => intro w' hSw; (try dsimp only at hSw); go_simp; try with_reducible rfl
  simp only [Act.put]
  try dsimp only
  refine wpAnyF_take [38] (by kernel_rfl) (i := 5) (v := ?vp4) rfl (by kernel_rfl) (by kernel_rfl) (by kernel_rfl) (fun _ _ _ h => h) (Or.inl ⟨by kernel_rfl, ?hyp4⟩) hHeld ?restp4
  case hyp4 => intro w' hSw; (try dsimp only at hSw); go_simp; try with_reducible rfl
  simp only [Act.put]
  try dsimp only
  refine wpAnyF_take [38] (by kernel_rfl) (i := 6) (v := ?vp5) rfl (by kernel_rfl) (by kernel_rfl) (by kernel_rfl) (fun _ _ _ h => h) (Or.inl ⟨by kernel_rfl, ?hyp5⟩) hHeld ?restp5
  case hyp5 => intro w' hSw; (try dsimp only at hSw); go_simp; try with_reducible rfl
  simp only [Act.put]
  try dsimp only
  refine wpAnyF_take [38] (by kernel_rfl) (i := 7) (v := ?vp6) rfl (by kernel_rfl) (by kernel_rfl) (by kernel_rfl) (fun _ _ _ h => h) (Or.inl ⟨by kernel_rfl, ?hyp6⟩) hHeld ?restp6
  case hyp6 => intro w' hSw; (try dsimp only at hSw); go_simp; try with_reducible rfl
  simp only [Act.put]
  try dsimp only
  refine wpAnyF_take [38] (by kernel_rfl) (i := 8) (v := ?vp7) rfl (by kernel_rfl) (by kernel_rfl) (by kernel_rfl) (fun _ _ _ h => h) (Or.inl ⟨by kernel_rfl, ?hyp7⟩) hHeld ?restp7
  case hyp7 => intro w' hSw; (try dsimp only at hSw); go_simp; try with_reducible rfl
  simp only [Act.put]
  try dsimp only
  refine wpAnyF_take [38] (by kernel_rfl) (i := 9) (v := ?vp8) rfl (by kernel_rfl) (by kernel_rfl) (by kernel_rfl) (fun _ _ _ h => h) (Or.inl ⟨by kernel_rfl, ?hyp8⟩) hHeld ?restp8
  case hyp8 => intro w' hSw; (try dsimp only at hSw); go_simp; try with_reducible rfl
  simp only [Act.put]
  try dsimp only
  refine wpAnyF_take [38] (by kernel_rfl) (i := 10) (v := ?vp9) rfl (by kernel_rfl) (by kernel_rfl) (by kernel_rfl) (fun _ _ _ h => h) (Or.inl ⟨by kernel_rfl, ?hyp9⟩) hHeld ?restp9
  case hyp9 => intro w' hSw; (try dsimp only at hSw); go_simp; try with_reducible rfl
  simp only [Act.put]
  try dsimp only
  refine wpAnyF_take [38] (by kernel_rfl) (i := 12) (v := ?vp10) rfl (by kernel_rfl) (by kernel_rfl) (by kernel_rfl) (fun _ _ _ h => h) (Or.inl ⟨by kernel_rfl, ?hyp10⟩) hHeld ?restp10
  case hyp10 => intro w' hSw; (try dsimp only at hSw); go_simp; try with_reducible rfl
  simp only [Act.put]
  try dsimp only
  refine wpAnyF_take [38] (by kernel_rfl) (i := 13) (v := ?vp11) rfl (by kernel_rfl) (by kernel_rfl) (by kernel_rfl) (fun _ _ _ h => h) (Or.inl ⟨by kernel_rfl, ?hyp11⟩) hHeld ?restp11
  case hyp11 => intro w' hSw; (try dsimp only at hSw); go_simp; try with_reducible rfl
  simp only [Act.put]
  try dsimp only
  refine wpAnyF_take [38] (by kernel_rfl) (i := 14) (v := ?vp12) rfl (by kernel_rfl) (by kernel_rfl) (by kernel_rfl) (fun _ _ _ h => h) (Or.inl ⟨by kernel_rfl, ?hyp12⟩) hHeld ?restp12
  case hyp12 => intro w' hSw; (try dsimp only at hSw); go_simp; try with_reducible rfl
  simp only [Act.put]
  try dsimp only
  refine wpAnyF_take [38] (by kernel_rfl) (i := 15) (v := ?vp13) rfl (by kernel_rfl) (by kernel_rfl) (by kernel_rfl) (fun _ _ _ h => h) (Or.inl ⟨by kernel_rfl, ?hyp13⟩) hHeld ?restp13
  case hyp13 => intro w' hSw; (try dsimp only at hSw); go_simp; try with_reducible rfl
  simp only [Act.put]
  try dsimp only
  refine wpAnyF_take [38] (by kernel_rfl) (i := 16) (v := ?vp14) rfl (by kernel_rfl) (by kernel_rfl) (by kernel_rfl) (fun _ _ _ h => h) (Or.inl ⟨by kernel_rfl, ?hyp14⟩) hHeld ?restp14
  case hyp14 => intro w' hSw; (try dsimp only at hSw); go_simp; try with_reducible rfl
  simp only [Act.put]
  try dsimp only
  refine wpAnyF_take [38] (by kernel_rfl) (i := 17) (v := ?vp15) rfl (by kernel_rfl) (by kernel_rfl) (by kernel_rfl) (fun _ _ _ h => h) (Or.inl ⟨by kernel_rfl, ?hyp15⟩) hHeld ?restp15
  case hyp15 => intro w' hSw; (try dsimp only at hSw); go_simp; try with_reducible rfl
  simp only [Act.put]
  try dsimp only
  refine wpAnyF_ready (rs := [11]) (by kernel_rfl) (by simp) ?_
  refine AllReadyF.cons rfl (fun K hK => ?_) AllReadyF.nil
  go_simp
  refine HL1.out.mono ?_
  rintro e w5x ⟨rfl, rfl⟩
  dsimp only
  refine hK.out _ _ (HS5.out) (fun hHeld => ?_)
  clear hK K
  refine wpAnyF_ready (rs := [18]) (by kernel_rfl) (by simp) ?_
  refine AllReadyF.cons rfl (fun K hK => ?_) AllReadyF.nil
  go_simp
  refine HL2.out.mono ?_
  rintro e w5x ⟨rfl, rfl⟩
  dsimp only
  refine hK.out _ _ (HS5.out) (fun hHeld => ?_)
  clear hK K
  refine wpAnyF_take [38] (by kernel_rfl) (i := 19) (v := ?vp16) rfl (by kernel_rfl) (by kernel_rfl) (by kernel_rfl) (fun _ _ _ h => h) (Or.inl ⟨by kernel_rfl, ?hyp16⟩) hHeld ?restp16
  case hyp16 => intro w' hSw; (try dsimp only at hSw); go_simp; try with_reducible rfl
  simp only [Act.put]
  try dsimp only
  refine wpAnyF_take [38] (by kernel_rfl) (i := 20) (v := ?vp17) rfl (by kernel_rfl) (by kernel_rfl) (by kernel_rfl) (fun _ _ _ h => h) (Or.inl ⟨by kernel_rfl, ?hyp17⟩) hHeld ?restp17
  case hyp17 => intro w' hSw; (try dsimp only at hSw); go_simp; try with_reducible rfl
  simp only [Act.put]
  try dsimp only
  refine wpAnyF_take [38] (by kernel_rfl) (i := 21) (v := ?vp18) rfl (by kernel_rfl) (by kernel_rfl) (by kernel_rfl) (fun _ _ _ h => h) (Or.inl ⟨by kernel_rfl, ?hyp18⟩) hHeld ?restp18
  case hyp18 => intro w' hSw; (try dsimp only at hSw); go_simp; try with_reducible rfl
  simp only [Act.put]
  try dsimp only
  refine wpAnyF_take [38] (by kernel_rfl) (i := 22) (v := ?vp19) rfl (by kernel_rfl) (by kernel_rfl) (by kernel_rfl) (fun _ _ _ h => h) (Or.inl ⟨by kernel_rfl, ?hyp19⟩) hHeld ?restp19
  case hyp19 => intro w' hSw; (try dsimp only at hSw); go_simp; try with_reducible rfl
  simp only [Act.put]
  try dsimp only
  refine wpAnyF_take [38] (by kernel_rfl) (i := 23) (v := ?vp20) rfl (by kernel_rfl) (by kernel_rfl) (by kernel_rfl) (fun _ _ _ h => h) (Or.inl ⟨by kernel_rfl, ?hyp20⟩) hHeld ?restp20
  case hyp20 => intro w' hSw; (try dsimp only at hSw); go_simp; try with_reducible rfl
  simp only [Act.put]
  try dsimp only
  refine wpAnyF_take [38] (by kernel_rfl) (i := 24) (v := ?vp21) rfl (by kernel_rfl) (by kernel_rfl) (by kernel_rfl) (fun _ _ _ h => h) (Or.inl ⟨by kernel_rfl, ?hyp21⟩) hHeld ?restp21
  case hyp21 => intro w' hSw; (try dsimp only at hSw); go_simp; try with_reducible rfl
  simp only [Act.put]
  try dsimp only
  refine wpAnyF_take [38] (by kernel_rfl) (i := 25) (v := ?vp22) rfl (by kernel_rfl) (by kernel_rfl) (by kernel_rfl) (fun _ _ _ h => h) (Or.inl ⟨by kernel_rfl, ?hyp22⟩) hHeld ?restp22
  case hyp22 => intro w' hSw; (try dsimp only at hSw); go_simp; try with_reducible rfl
  simp only [Act.put]
  try dsimp only
  refine wpAnyF_take [38] (by kernel_rfl) (i := 26) (v := ?vp23) rfl (by kernel_rfl) (by kernel_rfl) (by kernel_rfl) (fun _ _ _ h => h) (Or.inl ⟨by kernel_rfl, ?hyp23⟩) hHeld ?restp23
  case hyp23 => intro w' hSw; (try dsimp only at hSw); go_simp; try with_reducible rfl
  simp only [Act.put]
  try dsimp only
  refine wpAnyF_take [38] (by kernel_rfl) (i := 27) (v := ?vp24) rfl (by kernel_rfl) (by kernel_rfl) (by kernel_rfl) (fun _ _ _ h => h) (Or.inl ⟨by kernel_rfl, ?hyp24⟩) hHeld ?restp24
  case hyp24 => intro w' hSw; (try dsimp only at hSw); go_simp; try with_reducible rfl
  simp only [Act.put]
  try dsimp only
  refine wpAnyF_take [38] (by kernel_rfl) (i := 29) (v := ?vp25) rfl (by kernel_rfl) (by kernel_rfl) (by kernel_rfl) (fun _ _ _ h => h) (Or.inl ⟨by kernel_rfl, ?hyp25⟩) hHeld ?restp25
  case hyp25 => intro w' hSw; (try dsimp only at hSw); go_simp; try with_reducible rfl
  simp only [Act.put]
  try dsimp only
  refine wpAnyF_take [38] (by kernel_rfl) (i := 30) (v := ?vp26) rfl (by kernel_rfl) (by kernel_rfl) (by kernel_rfl) (fun _ _ _ h => h) (Or.inl ⟨by kernel_rfl, ?hyp26⟩) hHeld ?restp26
  case hyp26 => intro w' hSw; (try dsimp only at hSw); go_simp; try with_reducible rfl
  simp only [Act.put]
  try dsimp only
  refine wpAnyF_take [38] (by kernel_rfl) (i := 31) (v := ?vp27) rfl (by kernel_rfl) (by kernel_rfl) (by kernel_rfl) (fun _ _ _ h => h) (Or.inl ⟨by kernel_rfl, ?hyp27⟩) hHeld ?restp27
  case hyp27 => intro w' hSw; (try dsimp only at hSw); go_simp; try with_reducible rfl
  simp only [Act.put]
  try dsimp only
  refine wpAnyF_take [38] (by kernel_rfl) (i := 32) (v := ?vp28) rfl (by kernel_rfl) (by kernel_rfl) (by kernel_rfl) (fun _ _ _ h => h) (Or.inl ⟨by kernel_rfl, ?hyp28⟩) hHeld ?restp28
  case hyp28 => intro w' hSw; (try dsimp only at hSw); go_simp; try with_reducible rfl
  simp only [Act.put]
  try dsimp only
  refine wpAnyF_take [38] (by kernel_rfl) (i := 33) (v := ?vp29) rfl (by kernel_rfl) (by kernel_rfl) (by kernel_rfl) (fun _ _ _ h => h) (Or.inl ⟨by kernel_rfl, ?hyp29⟩) hHeld ?restp29
  case hyp29 => intro w' hSw; (try dsimp only at hSw); go_simp; try with_reducible rfl
  simp only [Act.put]
  try dsimp only
  refine wpAnyF_take [38] (by kernel_rfl) (i := 34) (v := ?vp30) rfl (by kernel_rfl) (by kernel_rfl) (by kernel_rfl) (fun _ _ _ h => h) (Or.inl ⟨by kernel_rfl, ?hyp30⟩) hHeld ?restp30
  case hyp30 => intro w' hSw; (try dsimp only at hSw); go_simp; try with_reducible rfl
  simp only [Act.put]
  try dsimp only
  refine wpAnyF_ready (rs := [28]) (by kernel_rfl) (by simp) ?_
  refine AllReadyF.cons rfl (fun K hK => ?_) AllReadyF.nil
  go_simp
  refine HH1.out.mono ?_
  rintro e w5x ⟨rfl, rfl⟩
  dsimp only
  refine hK.out _ _ (HS5.out) (fun hHeld => ?_)
  clear hK K
  refine wpAnyF_ready (rs := [35]) (by kernel_rfl) (by simp) ?_
  refine AllReadyF.cons rfl (fun K hK => ?_) AllReadyF.nil
  go_simp
  refine HH2.out.mono ?_
  rintro e w5x ⟨rfl, rfl⟩
  dsimp only
  refine hK.out _ _ (HS5.out) (fun hHeld => ?_)
  clear hK K
  refine wpAnyF_take [38] (by kernel_rfl) (i := 36) (v := ?vp31) rfl (by kernel_rfl) (by kernel_rfl) (by kernel_rfl) (fun _ _ _ h => h) (Or.inl ⟨by kernel_rfl, ?hyp31⟩) hHeld ?restp31
  case hyp31 => intro w' hSw; (try dsimp only at hSw); go_simp; try with_reducible rfl
  simp only [Act.put]
  try dsimp only
  refine wpAnyF_take [38] (by kernel_rfl) (i := 37) (v := ?vp32) rfl (by kernel_rfl) (by kernel_rfl) (by kernel_rfl) (fun _ _ _ h => h) (Or.inl ⟨by kernel_rfl, ?hyp32⟩) hHeld ?restp32
  case hyp32 => intro w' hSw; (try dsimp only at hSw); go_simp; try with_reducible rfl
  simp only [Act.put]
  try dsimp only
  refine wpAnyF_ready (rs := [38]) (by kernel_rfl) (by simp) ?_
  refine AllReadyF.last rfl (fun K hK => ?_)
  go_simp
  refine hK.out _ _ ?_
  clear hK K
  refine wpAnyF_done (by kernel_rfl) ?_ _
  go_wp2_with fail
  go_ret
  exact ⟨rfl, HP⟩
end Go.Proofs.Ytcmkdkocponpiaa

/- mortiselaw22: plays: a call of moves. -/
namespace Go.Proofs.Ytcmkdkocponpiaa
open Go.RowKit
set_option linter.unusedVariables false

set_option maxRecDepth 100000 in
set_option maxHeartbeats 16000000 in
theorem plays_pop (B bt : Nat) (p q : Nat → Value) (xs : Nat → Option Sk) (N : Nat) (S : Nat → Nat → Prop) (wh : Bool) (f : Fr) (a : Option Addr) (c : Nat) (n : Int) (ab : Option Addr) (nb cb : Nat) (w : World) (hT : Hid (Tab B w bt p q xs xs N S)) (HFA : Hid (∀ w', Below B w w' → FrA w' f a c)) (hfc : f.T.length ≤ c) (hcm : c ≤ 9223372036854775807) (hN : N ≤ 780) (hx : ∀ j, j < 2 → ∃ y, xs j = some y) :
    Calls Try.prog 25 #[.pointer (some ⟨bt, 0, none⟩), .agg #[.int .i64 3, .bool wh, .int .i64 f.r, .int .i64 f.a, .int .i64 f.b, .int .i64 f.e, .int .i64 f.n, .int .i64 f.x, .slice a f.T.length c, .int .i64 n, .slice ab nb cb]] w fun e w' => e = .returned (.bool true) ∧ Hid (PlTo B w w' bt xs (N + 3)) := by
  have HBw := hide_ hT.out.base
  have HBd := hide_ hT.out.lt
  have HSk : Hid (∀ j k, S j k → B ≤ k ∧ k < w.heap.size ∧ k ≠ bt) := hide_ hT.out.ly
  obtain ⟨w1, hw1⟩ : ∃ wx, wx = w.alloc (.cells #[.int .i64 3, .bool wh, .int .i64 f.r, .int .i64 f.a, .int .i64 f.b, .int .i64 f.e, .int .i64 f.n, .int .i64 f.x, .slice a f.T.length c, .int .i64 n, .slice ab nb cb] 63) := ⟨_, rfl⟩
  have hB1 : Below w.heap.size w w1 := by rw [hw1]; exact below1 _ _
  have K1 : Hid (Blk w1 w.heap.size 63 [.int .i64 3, .bool wh, .int .i64 f.r, .int .i64 f.a, .int .i64 f.b, .int .i64 f.e, .int .i64 f.n, .int .i64 f.x, .slice a f.T.length c, .int .i64 n, .slice ab nb cb]) := hide_ (by rw [hw1]; exact Blk.newA w _ _)
  have HB1 := hide_ hB1
  have hCut := cut_any f a c w1 (hide_ (HFA.out w1 (hB1.mono HBw.out))) hfc hcm
  obtain ⟨tl, htl⟩ : ∃ tl, (f.T.take 300).length = tl := ⟨_, rfl⟩
  rw [htl] at hCut
  have HCut := hide_ hCut
  have HTl := hide_ htl
  clear hCut htl
  have o1 := K1.out.cell 1; have o2 := K1.out.cell 2; have o3 := K1.out.cell 3; have o4 := K1.out.cell 4; have o5 := K1.out.cell 5; have o6 := K1.out.cell 6; have o7 := K1.out.cell 7; have o8 := K1.out.cell 8
  simp at o1 o2 o3 o4 o5 o6 o7 o8
  clear hB1
  go_enter Try.func25, Try.ntmps25
  go_upto_region 2 with fail
  rw [← hw1]
  clear hw1
  go_upto_if 11 with fail
  go_cut [5] from 5 to 11 (fun x5 wc => x5 = .int .i64 (wN wh : Int) ∧ w1 = wc)
  case first =>
    cases wh with
    | true =>
      go_wp2_with fail
      go_meet
      case rel => exact ⟨rfl, rfl⟩
    | false =>
      go_wp2_with fail
      go_meet
      case rel => exact ⟨rfl, rfl⟩
  case rest =>
  obtain ⟨rfl, rfl⟩ := hcut
  have hi := wN_lt wh
  obtain ⟨i, hiw⟩ : ∃ i, wN wh = i := ⟨_, rfl⟩
  have HIw := hide_ hiw
  rw [hiw] at hi ⊢
  clear hiw o1
  have hi' : (i : Int) < 2 := by omega
  go_wp2_with fail
  refine HCut.out.mono ?_
  rintro e w2 ⟨rfl, hb2⟩
  have K2 := hide_ (K1.out.later hb2)
  have HB2 := hide_ (below_to HB1.out hb2)
  obtain ⟨w3, hw3⟩ : ∃ wx, wx = ((((((w2.setCell ⟨w.heap.size, 2, none⟩ (.int .i64 f.r)).setCell ⟨w.heap.size, 3, none⟩ (.int .i64 f.a)).setCell ⟨w.heap.size, 4, none⟩ (.int .i64 f.b)).setCell ⟨w.heap.size, 5, none⟩ (.int .i64 f.e)).setCell ⟨w.heap.size, 6, none⟩ (.int .i64 f.n)).setCell ⟨w.heap.size, 7, none⟩ (.int .i64 f.x)).setCell ⟨w.heap.size, 8, none⟩ (.slice a tl c) := ⟨_, rfl⟩
  have hu3 : Upd (fun k => k = w.heap.size) w2 w3 := by
    rw [hw3]
    exact (((((((Upd.refl (fun k => k = w.heap.size) w2).set ⟨w.heap.size, 2, none⟩ _ (.inl rfl)).set ⟨w.heap.size, 3, none⟩ _ (.inl rfl)).set ⟨w.heap.size, 4, none⟩ _ (.inl rfl)).set ⟨w.heap.size, 5, none⟩ _ (.inl rfl)).set ⟨w.heap.size, 6, none⟩ _ (.inl rfl)).set ⟨w.heap.size, 7, none⟩ _ (.inl rfl)).set ⟨w.heap.size, 8, none⟩ _ (.inl rfl)
  have K3 : Hid (Blk w3 w.heap.size 63 [.int .i64 3, .bool wh, .int .i64 f.r, .int .i64 f.a, .int .i64 f.b, .int .i64 f.e, .int .i64 f.n, .int .i64 f.x, .slice a tl c, .int .i64 n, .slice ab nb cb]) := hide_ (by
    have h := ((((((K2.out.set 2 (.int .i64 f.r)).set 3 (.int .i64 f.a)).set 4 (.int .i64 f.b)).set 5 (.int .i64 f.e)).set 6 (.int .i64 f.n)).set 7 (.int .i64 f.x)).set 8 (.slice a tl c)
    rw [hw3]
    simpa using h)
  have HB3 : Hid (Below w.heap.size w w3) := hide_ (HB2.out.trans (hu3.below w.heap.size HB2.out.size (fun k hk => by omega)))
  have z2 := K2.out.frozen 2; have z3 := K2.out.frozen 3; have z4 := K2.out.frozen 4; have z5 := K2.out.frozen 5; have z6 := K2.out.frozen 6; have z7 := K2.out.frozen 7; have z8 := K2.out.frozen 8
  clear o2 o3 o4 o5 o6 o7 o8
  have o2 := K2.out.cell 2; have o3 := K2.out.cell 3; have o4 := K2.out.cell 4; have o5 := K2.out.cell 5; have o6 := K2.out.cell 6; have o7 := K2.out.cell 7; have o8 := K2.out.cell 8
  simp at o2 o3 o4 o5 o6 o7 o8
  clear hb2 hu3 HCut K1 K2
  go_upto_region 5 with fail
  rw [← hw3]
  clear hw3 o2 o3 o4 o5 o6 o7 o8 z2 z3 z4 z5 z6 z7 z8
  have o0 := K3.out.cell 0; have o9 := K3.out.cell 9; have o10 := K3.out.cell 10
  simp at o0 o9 o10
  obtain ⟨⟨fs, m, h⟩, hy⟩ := hx i hi
  have HT3 := hide_ ((hT.out.later HB3.out).later (w' := w3.drew) ((Below.refl w3.heap.size w3).drew))
  have HB3e := hide_ ((below_to HB3.out ((Below.refl w3.heap.size w3).drew)).mono HBw.out)
  have hM := moves_pop B bt i p q xs N S (fs, m, h) wh (cutF f) a c n ab nb cb w3.drew HT3 hi hy (hide_ (fun w' hb => (HFA.out w' (HB3e.out.trans hb)).cut)) (by show (f.T.take 300).length ≤ 1000000; rw [List.length_take]; omega) (by omega)
  dsimp only [cutF] at hM
  rw [HTl.out] at hM
  have HMv := hide_ hM
  have hP := HT3.out.ps i hi
  have hQ := HT3.out.qs i hi
  rw [hy] at hP hQ
  obtain ⟨gp, hp, -⟩ := hP.open
  obtain ⟨gq, hq, -⟩ := hQ.open
  have HSS : Hid ((fun w' => w'.cell? ⟨bt, i, none⟩ = some (.pointer (some ⟨gp, 0, none⟩)) ∧ w'.cell? ⟨bt, 2 + i, none⟩ = some (.pointer (some ⟨gq, 0, none⟩))) w3.drew) := hide_ ⟨by rw [← hp]; exact (HT3.out.cellP i hi).1, by rw [← hq]; exact HT3.out.cellQ i hi⟩
  have Hp := hide_ hp
  have Hq := hide_ hq
  have HY := hide_ hy
  have o1 := K3.out.cell 1; have o2 := K3.out.cell 2; have o3 := K3.out.cell 3; have o4 := K3.out.cell 4; have o5 := K3.out.cell 5; have o6 := K3.out.cell 6; have o7 := K3.out.cell 7; have o8 := K3.out.cell 8
  simp at o1 o2 o3 o4 o5 o6 o7 o8
  clear hM hP hQ hp hq hy
  go_upto_region 16 with fail
  refine wp_region_last 38 (fun w' => w'.cell? ⟨bt, i, none⟩ = some (.pointer (some ⟨gp, 0, none⟩)) ∧ w'.cell? ⟨bt, 2 + i, none⟩ = some (.pointer (some ⟨gq, 0, none⟩))) (by kernel_rfl) (HSS.out) (fun hHeld => ?_)
  refine wpAnyF_take [38] (by kernel_rfl) (i := 0) (v := ?vp1) rfl (by kernel_rfl) (by kernel_rfl) (by kernel_rfl) (fun _ _ _ h => h) (Or.inl ⟨by kernel_rfl, ?hyp1⟩) hHeld ?restp1
  case hyp1 => intro w' hSw; (try dsimp only at hSw); go_simp; try with_reducible rfl
  simp only [Act.put]
  try dsimp only
  refine wpAnyF_take [38] (by kernel_rfl) (i := 1) (v := ?vp2) rfl (by kernel_rfl) (by kernel_rfl) (by kernel_rfl) (fun _ _ _ h => h) (Or.inl ⟨by kernel_rfl, ?hyp2⟩) hHeld ?restp2
  case hyp2 => intro w' hSw; (try dsimp only at hSw); go_simp; try with_reducible rfl
  simp only [Act.put]
  try dsimp only
  refine wpAnyF_ready (rs := [2]) (by kernel_rfl) (by simp) ?_
  refine AllReadyF.cons rfl (fun K hK => ?_) AllReadyF.nil
  go_simp
  refine hK.out _ _ (HSS.out) (fun hHeld => ?_)
  clear hK K
  refine wpAnyF_ready (rs := [3]) (by kernel_rfl) (by simp) ?_
  refine AllReadyF.cons rfl (fun K hK => ?_) AllReadyF.nil
  go_simp
  refine HMv.out.mono ?_
  rintro e w5 ⟨rfl, hpm⟩
  obtain ⟨xs', S', hT5, hx5, hb5⟩ := hpm.out
  obtain ⟨⟨fs', m', h'⟩, hy5⟩ := hx5 i _ HY.out
  have hP5 := hT5.ps i hi
  have hQ5 := hT5.qs i hi
  rw [hy5, Hp.out] at hP5
  rw [hy5, Hq.out] at hQ5
  obtain ⟨g', hg', hS5⟩ := hP5.open
  injection hg' with hg'
  injection hg' with hg'
  injection hg' with hg' _ _
  subst hg'
  obtain ⟨g', hg', hR5⟩ := hQ5.open
  injection hg' with hg'
  injection hg' with hg'
  injection hg' with hg' _ _
  subst hg'
  dsimp only at hS5 hR5
  have HL1 := hide_ hS5.lenc
  have HL2 := hide_ hR5.lenc
  have HH1 := hide_ hS5.highc
  have HH2 := hide_ hR5.highc
  have HS5 : Hid ((fun w' => w'.cell? ⟨bt, i, none⟩ = some (.pointer (some ⟨gp, 0, none⟩)) ∧ w'.cell? ⟨bt, 2 + i, none⟩ = some (.pointer (some ⟨gq, 0, none⟩))) w5) := hide_ ⟨by rw [← Hp.out]; exact (hT5.cellP i hi).1, by rw [← Hq.out]; exact hT5.cellQ i hi⟩
  have HP : Hid (PlTo B w w5 bt xs (N + 3)) := hide_ ⟨p, q, xs', S', hT5.mono (by omega), hx5, HB3e.out.trans hb5⟩
  clear hpm hT5 hx5 hb5 hy5 hP5 hQ5 hS5 hR5
  dsimp only
  refine hK.out _ _ (HS5.out) (fun hHeld => ?_)
  clear hK K
  refine wpAnyF_take [38] (by kernel_rfl) (i := 4) (v := ?vp3) rfl (by kernel_rfl) (by kernel_rfl) (by kernel_rfl) (fun _ _ _ h => h) (Or.inl ⟨by kernel_rfl, ?hyp3⟩) hHeld ?restp3
  case hyp3 => intro w' hSw; (try dsimp only at hSw); go_simp; try with_reducible rfl
  simp only [Act.put]
  try dsimp only
  refine wpAnyF_take [38] (by kernel_rfl) (i := 5) (v := ?vp4) rfl (by kernel_rfl) (by kernel_rfl) (by kernel_rfl) (fun _ _ _ h => h) (Or.inl ⟨by kernel_rfl, ?hyp4⟩) hHeld ?restp4
  case hyp4 => intro w' hSw; (try dsimp only at hSw); go_simp; try with_reducible rfl
  simp only [Act.put]
  try dsimp only
  refine wpAnyF_take [38] (by kernel_rfl) (i := 6) (v := ?vp5) rfl (by kernel_rfl) (by kernel_rfl) (by kernel_rfl) (fun _ _ _ h => h) (Or.inl ⟨by kernel_rfl, ?hyp5⟩) hHeld ?restp5
  case hyp5 => intro w' hSw; (try dsimp only at hSw); go_simp; try with_reducible rfl
  simp only [Act.put]
  try dsimp only
  refine wpAnyF_take [38] (by kernel_rfl) (i := 7) (v := ?vp6) rfl (by kernel_rfl) (by kernel_rfl) (by kernel_rfl) (fun _ _ _ h => h) (Or.inl ⟨by kernel_rfl, ?hyp6⟩) hHeld ?restp6
  case hyp6 => intro w' hSw; (try dsimp only at hSw); go_simp; try with_reducible rfl
  simp only [Act.put]
  try dsimp only
  refine wpAnyF_take [38] (by kernel_rfl) (i := 8) (v := ?vp7) rfl (by kernel_rfl) (by kernel_rfl) (by kernel_rfl) (fun _ _ _ h => h) (Or.inl ⟨by kernel_rfl, ?hyp7⟩) hHeld ?restp7
  case hyp7 => intro w' hSw; (try dsimp only at hSw); go_simp; try with_reducible rfl
  simp only [Act.put]
  try dsimp only
  refine wpAnyF_take [38] (by kernel_rfl) (i := 9) (v := ?vp8) rfl (by kernel_rfl) (by kernel_rfl) (by kernel_rfl) (fun _ _ _ h => h) (Or.inl ⟨by kernel_rfl, ?hyp8⟩) hHeld ?restp8
  case hyp8 => intro w' hSw; (try dsimp only at hSw); go_simp; try with_reducible rfl
  simp only [Act.put]
  try dsimp only
  refine wpAnyF_take [38] (by kernel_rfl) (i := 10) (v := ?vp9) rfl (by kernel_rfl) (by kernel_rfl) (by kernel_rfl) (fun _ _ _ h => h) (Or.inl ⟨by kernel_rfl, ?hyp9⟩) hHeld ?restp9
  case hyp9 => intro w' hSw; (try dsimp only at hSw); go_simp; try with_reducible rfl
  simp only [Act.put]
  try dsimp only
  refine wpAnyF_take [38] (by kernel_rfl) (i := 12) (v := ?vp10) rfl (by kernel_rfl) (by kernel_rfl) (by kernel_rfl) (fun _ _ _ h => h) (Or.inl ⟨by kernel_rfl, ?hyp10⟩) hHeld ?restp10
  case hyp10 => intro w' hSw; (try dsimp only at hSw); go_simp; try with_reducible rfl
  simp only [Act.put]
  try dsimp only
  refine wpAnyF_take [38] (by kernel_rfl) (i := 13) (v := ?vp11) rfl (by kernel_rfl) (by kernel_rfl) (by kernel_rfl) (fun _ _ _ h => h) (Or.inl ⟨by kernel_rfl, ?hyp11⟩) hHeld ?restp11
  case hyp11 => intro w' hSw; (try dsimp only at hSw); go_simp; try with_reducible rfl
  simp only [Act.put]
  try dsimp only
  refine wpAnyF_take [38] (by kernel_rfl) (i := 14) (v := ?vp12) rfl (by kernel_rfl) (by kernel_rfl) (by kernel_rfl) (fun _ _ _ h => h) (Or.inl ⟨by kernel_rfl, ?hyp12⟩) hHeld ?restp12
  case hyp12 => intro w' hSw; (try dsimp only at hSw); go_simp; try with_reducible rfl
  simp only [Act.put]
  try dsimp only
  refine wpAnyF_take [38] (by kernel_rfl) (i := 15) (v := ?vp13) rfl (by kernel_rfl) (by kernel_rfl) (by kernel_rfl) (fun _ _ _ h => h) (Or.inl ⟨by kernel_rfl, ?hyp13⟩) hHeld ?restp13
  case hyp13 => intro w' hSw; (try dsimp only at hSw); go_simp; try with_reducible rfl
  simp only [Act.put]
  try dsimp only
  refine wpAnyF_take [38] (by kernel_rfl) (i := 16) (v := ?vp14) rfl (by kernel_rfl) (by kernel_rfl) (by kernel_rfl) (fun _ _ _ h => h) (Or.inl ⟨by kernel_rfl, ?hyp14⟩) hHeld ?restp14
  case hyp14 => intro w' hSw; (try dsimp only at hSw); go_simp; try with_reducible rfl
  simp only [Act.put]
  try dsimp only
  refine wpAnyF_take [38] (by kernel_rfl) (i := 17) (v := ?vp15) rfl (by kernel_rfl) (by kernel_rfl) (by kernel_rfl) (fun _ _ _ h => h) (Or.inl ⟨by kernel_rfl, ?hyp15⟩) hHeld ?restp15
  case hyp15 => intro w' hSw; (try dsimp only at hSw); go_simp; try with_reducible rfl
  simp only [Act.put]
  try dsimp only
  refine wpAnyF_ready (rs := [11]) (by kernel_rfl) (by simp) ?_
  refine AllReadyF.cons rfl (fun K hK => ?_) AllReadyF.nil
  go_simp
  refine HL1.out.mono ?_
  rintro e w5x ⟨rfl, rfl⟩
  dsimp only
  refine hK.out _ _ (HS5.out) (fun hHeld => ?_)
  clear hK K
  refine wpAnyF_ready (rs := [18]) (by kernel_rfl) (by simp) ?_
  refine AllReadyF.cons rfl (fun K hK => ?_) AllReadyF.nil
  go_simp
  refine HL2.out.mono ?_
  rintro e w5x ⟨rfl, rfl⟩
  dsimp only
  refine hK.out _ _ (HS5.out) (fun hHeld => ?_)
  clear hK K
  refine wpAnyF_take [38] (by kernel_rfl) (i := 19) (v := ?vp16) rfl (by kernel_rfl) (by kernel_rfl) (by kernel_rfl) (fun _ _ _ h => h) (Or.inl ⟨by kernel_rfl, ?hyp16⟩) hHeld ?restp16
  case hyp16 => intro w' hSw; (try dsimp only at hSw); go_simp; try with_reducible rfl
  simp only [Act.put]
  try dsimp only
  refine wpAnyF_take [38] (by kernel_rfl) (i := 20) (v := ?vp17) rfl (by kernel_rfl) (by kernel_rfl) (by kernel_rfl) (fun _ _ _ h => h) (Or.inl ⟨by kernel_rfl, ?hyp17⟩) hHeld ?restp17
  case hyp17 => intro w' hSw; (try dsimp only at hSw); go_simp; try with_reducible rfl
  simp only [Act.put]
  try dsimp only
  refine wpAnyF_take [38] (by kernel_rfl) (i := 21) (v := ?vp18) rfl (by kernel_rfl) (by kernel_rfl) (by kernel_rfl) (fun _ _ _ h => h) (Or.inl ⟨by kernel_rfl, ?hyp18⟩) hHeld ?restp18
  case hyp18 => intro w' hSw; (try dsimp only at hSw); go_simp; try with_reducible rfl
  simp only [Act.put]
  try dsimp only
  refine wpAnyF_take [38] (by kernel_rfl) (i := 22) (v := ?vp19) rfl (by kernel_rfl) (by kernel_rfl) (by kernel_rfl) (fun _ _ _ h => h) (Or.inl ⟨by kernel_rfl, ?hyp19⟩) hHeld ?restp19
  case hyp19 => intro w' hSw; (try dsimp only at hSw); go_simp; try with_reducible rfl
  simp only [Act.put]
  try dsimp only
  refine wpAnyF_take [38] (by kernel_rfl) (i := 23) (v := ?vp20) rfl (by kernel_rfl) (by kernel_rfl) (by kernel_rfl) (fun _ _ _ h => h) (Or.inl ⟨by kernel_rfl, ?hyp20⟩) hHeld ?restp20
  case hyp20 => intro w' hSw; (try dsimp only at hSw); go_simp; try with_reducible rfl
  simp only [Act.put]
  try dsimp only
  refine wpAnyF_take [38] (by kernel_rfl) (i := 24) (v := ?vp21) rfl (by kernel_rfl) (by kernel_rfl) (by kernel_rfl) (fun _ _ _ h => h) (Or.inl ⟨by kernel_rfl, ?hyp21⟩) hHeld ?restp21
  case hyp21 => intro w' hSw; (try dsimp only at hSw); go_simp; try with_reducible rfl
  simp only [Act.put]
  try dsimp only
  refine wpAnyF_take [38] (by kernel_rfl) (i := 25) (v := ?vp22) rfl (by kernel_rfl) (by kernel_rfl) (by kernel_rfl) (fun _ _ _ h => h) (Or.inl ⟨by kernel_rfl, ?hyp22⟩) hHeld ?restp22
  case hyp22 => intro w' hSw; (try dsimp only at hSw); go_simp; try with_reducible rfl
  simp only [Act.put]
  try dsimp only
  refine wpAnyF_take [38] (by kernel_rfl) (i := 26) (v := ?vp23) rfl (by kernel_rfl) (by kernel_rfl) (by kernel_rfl) (fun _ _ _ h => h) (Or.inl ⟨by kernel_rfl, ?hyp23⟩) hHeld ?restp23
  case hyp23 => intro w' hSw; (try dsimp only at hSw); go_simp; try with_reducible rfl
  simp only [Act.put]
  try dsimp only
  refine wpAnyF_take [38] (by kernel_rfl) (i := 27) (v := ?vp24) rfl (by kernel_rfl) (by kernel_rfl) (by kernel_rfl) (fun _ _ _ h => h) (Or.inl ⟨by kernel_rfl, ?hyp24⟩) hHeld ?restp24
  case hyp24 => intro w' hSw; (try dsimp only at hSw); go_simp; try with_reducible rfl
  simp only [Act.put]
  try dsimp only
  refine wpAnyF_take [38] (by kernel_rfl) (i := 29) (v := ?vp25) rfl (by kernel_rfl) (by kernel_rfl) (by kernel_rfl) (fun _ _ _ h => h) (Or.inl ⟨by kernel_rfl, ?hyp25⟩) hHeld ?restp25
  case hyp25 => intro w' hSw; (try dsimp only at hSw); go_simp; try with_reducible rfl
  simp only [Act.put]
  try dsimp only
  refine wpAnyF_take [38] (by kernel_rfl) (i := 30) (v := ?vp26) rfl (by kernel_rfl) (by kernel_rfl) (by kernel_rfl) (fun _ _ _ h => h) (Or.inl ⟨by kernel_rfl, ?hyp26⟩) hHeld ?restp26
  case hyp26 => intro w' hSw; (try dsimp only at hSw); go_simp; try with_reducible rfl
  simp only [Act.put]
  try dsimp only
  refine wpAnyF_take [38] (by kernel_rfl) (i := 31) (v := ?vp27) rfl (by kernel_rfl) (by kernel_rfl) (by kernel_rfl) (fun _ _ _ h => h) (Or.inl ⟨by kernel_rfl, ?hyp27⟩) hHeld ?restp27
  case hyp27 => intro w' hSw; (try dsimp only at hSw); go_simp; try with_reducible rfl
  simp only [Act.put]
  try dsimp only
  refine wpAnyF_take [38] (by kernel_rfl) (i := 32) (v := ?vp28) rfl (by kernel_rfl) (by kernel_rfl) (by kernel_rfl) (fun _ _ _ h => h) (Or.inl ⟨by kernel_rfl, ?hyp28⟩) hHeld ?restp28
  case hyp28 => intro w' hSw; (try dsimp only at hSw); go_simp; try with_reducible rfl
  simp only [Act.put]
  try dsimp only
  refine wpAnyF_take [38] (by kernel_rfl) (i := 33) (v := ?vp29) rfl (by kernel_rfl) (by kernel_rfl) (by kernel_rfl) (fun _ _ _ h => h) (Or.inl ⟨by kernel_rfl, ?hyp29⟩) hHeld ?restp29
  case hyp29 => intro w' hSw; (try dsimp only at hSw); go_simp; try with_reducible rfl
  simp only [Act.put]
  try dsimp only
  refine wpAnyF_take [38] (by kernel_rfl) (i := 34) (v := ?vp30) rfl (by kernel_rfl) (by kernel_rfl) (by kernel_rfl) (fun _ _ _ h => h) (Or.inl ⟨by kernel_rfl, ?hyp30⟩) hHeld ?restp30
  case hyp30 => intro w' hSw; (try dsimp only at hSw); go_simp; try with_reducible rfl
  simp only [Act.put]
  try dsimp only
  refine wpAnyF_ready (rs := [28]) (by kernel_rfl) (by simp) ?_
  refine AllReadyF.cons rfl (fun K hK => ?_) AllReadyF.nil
  go_simp
  refine HH1.out.mono ?_
  rintro e w5x ⟨rfl, rfl⟩
  dsimp only
  refine hK.out _ _ (HS5.out) (fun hHeld => ?_)
  clear hK K
  refine wpAnyF_ready (rs := [35]) (by kernel_rfl) (by simp) ?_
  refine AllReadyF.cons rfl (fun K hK => ?_) AllReadyF.nil
  go_simp
  refine HH2.out.mono ?_
  rintro e w5x ⟨rfl, rfl⟩
  dsimp only
  refine hK.out _ _ (HS5.out) (fun hHeld => ?_)
  clear hK K
  refine wpAnyF_take [38] (by kernel_rfl) (i := 36) (v := ?vp31) rfl (by kernel_rfl) (by kernel_rfl) (by kernel_rfl) (fun _ _ _ h => h) (Or.inl ⟨by kernel_rfl, ?hyp31⟩) hHeld ?restp31
  case hyp31 => intro w' hSw; (try dsimp only at hSw); go_simp; try with_reducible rfl
  simp only [Act.put]
  try dsimp only
  refine wpAnyF_take [38] (by kernel_rfl) (i := 37) (v := ?vp32) rfl (by kernel_rfl) (by kernel_rfl) (by kernel_rfl) (fun _ _ _ h => h) (Or.inl ⟨by kernel_rfl, ?hyp32⟩) hHeld ?restp32
  case hyp32 => intro w' hSw; (try dsimp only at hSw); go_simp; try with_reducible rfl
  simp only [Act.put]
  try dsimp only
  refine wpAnyF_ready (rs := [38]) (by kernel_rfl) (by simp) ?_
  refine AllReadyF.last rfl (fun K hK => ?_)
  go_simp
  refine hK.out _ _ ?_
  clear hK K
  refine wpAnyF_done (by kernel_rfl) ?_ _
  go_wp2_with fail
  go_ret
  exact ⟨rfl, HP⟩
set_option maxRecDepth 100000 in
set_option maxHeartbeats 16000000 in
theorem plays_mark (B bt : Nat) (p q : Nat → Value) (xs : Nat → Option Sk) (N : Nat) (S : Nat → Nat → Prop) (wh : Bool) (f : Fr) (a : Option Addr) (c : Nat) (n : Int) (ab : Option Addr) (nb cb : Nat) (w : World) (hT : Hid (Tab B w bt p q xs xs N S)) (HFA : Hid (∀ w', Below B w w' → FrA w' f a c)) (hfc : f.T.length ≤ c) (hcm : c ≤ 9223372036854775807) (hN : N ≤ 780) (hx : ∀ j, j < 2 → ∃ y, xs j = some y) :
    Calls Try.prog 25 #[.pointer (some ⟨bt, 0, none⟩), .agg #[.int .i64 7, .bool wh, .int .i64 f.r, .int .i64 f.a, .int .i64 f.b, .int .i64 f.e, .int .i64 f.n, .int .i64 f.x, .slice a f.T.length c, .int .i64 n, .slice ab nb cb]] w fun e w' => e = .returned (.bool true) ∧ Hid (PlTo B w w' bt xs (N + 3)) := by
  have HBw := hide_ hT.out.base
  have HBd := hide_ hT.out.lt
  have HSk : Hid (∀ j k, S j k → B ≤ k ∧ k < w.heap.size ∧ k ≠ bt) := hide_ hT.out.ly
  obtain ⟨w1, hw1⟩ : ∃ wx, wx = w.alloc (.cells #[.int .i64 7, .bool wh, .int .i64 f.r, .int .i64 f.a, .int .i64 f.b, .int .i64 f.e, .int .i64 f.n, .int .i64 f.x, .slice a f.T.length c, .int .i64 n, .slice ab nb cb] 63) := ⟨_, rfl⟩
  have hB1 : Below w.heap.size w w1 := by rw [hw1]; exact below1 _ _
  have K1 : Hid (Blk w1 w.heap.size 63 [.int .i64 7, .bool wh, .int .i64 f.r, .int .i64 f.a, .int .i64 f.b, .int .i64 f.e, .int .i64 f.n, .int .i64 f.x, .slice a f.T.length c, .int .i64 n, .slice ab nb cb]) := hide_ (by rw [hw1]; exact Blk.newA w _ _)
  have HB1 := hide_ hB1
  have hCut := cut_any f a c w1 (hide_ (HFA.out w1 (hB1.mono HBw.out))) hfc hcm
  obtain ⟨tl, htl⟩ : ∃ tl, (f.T.take 300).length = tl := ⟨_, rfl⟩
  rw [htl] at hCut
  have HCut := hide_ hCut
  have HTl := hide_ htl
  clear hCut htl
  have o1 := K1.out.cell 1; have o2 := K1.out.cell 2; have o3 := K1.out.cell 3; have o4 := K1.out.cell 4; have o5 := K1.out.cell 5; have o6 := K1.out.cell 6; have o7 := K1.out.cell 7; have o8 := K1.out.cell 8
  simp at o1 o2 o3 o4 o5 o6 o7 o8
  clear hB1
  go_enter Try.func25, Try.ntmps25
  go_upto_region 2 with fail
  rw [← hw1]
  clear hw1
  go_upto_if 11 with fail
  go_cut [5] from 5 to 11 (fun x5 wc => x5 = .int .i64 (wN wh : Int) ∧ w1 = wc)
  case first =>
    cases wh with
    | true =>
      go_wp2_with fail
      go_meet
      case rel => exact ⟨rfl, rfl⟩
    | false =>
      go_wp2_with fail
      go_meet
      case rel => exact ⟨rfl, rfl⟩
  case rest =>
  obtain ⟨rfl, rfl⟩ := hcut
  have hi := wN_lt wh
  obtain ⟨i, hiw⟩ : ∃ i, wN wh = i := ⟨_, rfl⟩
  have HIw := hide_ hiw
  rw [hiw] at hi ⊢
  clear hiw o1
  have hi' : (i : Int) < 2 := by omega
  go_wp2_with fail
  refine HCut.out.mono ?_
  rintro e w2 ⟨rfl, hb2⟩
  have K2 := hide_ (K1.out.later hb2)
  have HB2 := hide_ (below_to HB1.out hb2)
  obtain ⟨w3, hw3⟩ : ∃ wx, wx = ((((((w2.setCell ⟨w.heap.size, 2, none⟩ (.int .i64 f.r)).setCell ⟨w.heap.size, 3, none⟩ (.int .i64 f.a)).setCell ⟨w.heap.size, 4, none⟩ (.int .i64 f.b)).setCell ⟨w.heap.size, 5, none⟩ (.int .i64 f.e)).setCell ⟨w.heap.size, 6, none⟩ (.int .i64 f.n)).setCell ⟨w.heap.size, 7, none⟩ (.int .i64 f.x)).setCell ⟨w.heap.size, 8, none⟩ (.slice a tl c) := ⟨_, rfl⟩
  have hu3 : Upd (fun k => k = w.heap.size) w2 w3 := by
    rw [hw3]
    exact (((((((Upd.refl (fun k => k = w.heap.size) w2).set ⟨w.heap.size, 2, none⟩ _ (.inl rfl)).set ⟨w.heap.size, 3, none⟩ _ (.inl rfl)).set ⟨w.heap.size, 4, none⟩ _ (.inl rfl)).set ⟨w.heap.size, 5, none⟩ _ (.inl rfl)).set ⟨w.heap.size, 6, none⟩ _ (.inl rfl)).set ⟨w.heap.size, 7, none⟩ _ (.inl rfl)).set ⟨w.heap.size, 8, none⟩ _ (.inl rfl)
  have K3 : Hid (Blk w3 w.heap.size 63 [.int .i64 7, .bool wh, .int .i64 f.r, .int .i64 f.a, .int .i64 f.b, .int .i64 f.e, .int .i64 f.n, .int .i64 f.x, .slice a tl c, .int .i64 n, .slice ab nb cb]) := hide_ (by
    have h := ((((((K2.out.set 2 (.int .i64 f.r)).set 3 (.int .i64 f.a)).set 4 (.int .i64 f.b)).set 5 (.int .i64 f.e)).set 6 (.int .i64 f.n)).set 7 (.int .i64 f.x)).set 8 (.slice a tl c)
    rw [hw3]
    simpa using h)
  have HB3 : Hid (Below w.heap.size w w3) := hide_ (HB2.out.trans (hu3.below w.heap.size HB2.out.size (fun k hk => by omega)))
  have z2 := K2.out.frozen 2; have z3 := K2.out.frozen 3; have z4 := K2.out.frozen 4; have z5 := K2.out.frozen 5; have z6 := K2.out.frozen 6; have z7 := K2.out.frozen 7; have z8 := K2.out.frozen 8
  clear o2 o3 o4 o5 o6 o7 o8
  have o2 := K2.out.cell 2; have o3 := K2.out.cell 3; have o4 := K2.out.cell 4; have o5 := K2.out.cell 5; have o6 := K2.out.cell 6; have o7 := K2.out.cell 7; have o8 := K2.out.cell 8
  simp at o2 o3 o4 o5 o6 o7 o8
  clear hb2 hu3 HCut K1 K2
  go_upto_region 5 with fail
  rw [← hw3]
  clear hw3 o2 o3 o4 o5 o6 o7 o8 z2 z3 z4 z5 z6 z7 z8
  have o0 := K3.out.cell 0; have o9 := K3.out.cell 9; have o10 := K3.out.cell 10
  simp at o0 o9 o10
  obtain ⟨⟨fs, m, h⟩, hy⟩ := hx i hi
  have HT3 := hide_ ((hT.out.later HB3.out).later (w' := w3.drew) ((Below.refl w3.heap.size w3).drew))
  have HB3e := hide_ ((below_to HB3.out ((Below.refl w3.heap.size w3).drew)).mono HBw.out)
  have hM := moves_mark B bt i p q xs N S (fs, m, h) wh (cutF f) a c n ab nb cb w3.drew HT3 hi hy (hide_ (fun w' hb => (HFA.out w' (HB3e.out.trans hb)).cut)) (by show (f.T.take 300).length ≤ 1000000; rw [List.length_take]; omega) (by omega)
  dsimp only [cutF] at hM
  rw [HTl.out] at hM
  have HMv := hide_ hM
  have hP := HT3.out.ps i hi
  have hQ := HT3.out.qs i hi
  rw [hy] at hP hQ
  obtain ⟨gp, hp, -⟩ := hP.open
  obtain ⟨gq, hq, -⟩ := hQ.open
  have HSS : Hid ((fun w' => w'.cell? ⟨bt, i, none⟩ = some (.pointer (some ⟨gp, 0, none⟩)) ∧ w'.cell? ⟨bt, 2 + i, none⟩ = some (.pointer (some ⟨gq, 0, none⟩))) w3.drew) := hide_ ⟨by rw [← hp]; exact (HT3.out.cellP i hi).1, by rw [← hq]; exact HT3.out.cellQ i hi⟩
  have Hp := hide_ hp
  have Hq := hide_ hq
  have HY := hide_ hy
  have o1 := K3.out.cell 1; have o2 := K3.out.cell 2; have o3 := K3.out.cell 3; have o4 := K3.out.cell 4; have o5 := K3.out.cell 5; have o6 := K3.out.cell 6; have o7 := K3.out.cell 7; have o8 := K3.out.cell 8
  simp at o1 o2 o3 o4 o5 o6 o7 o8
  clear hM hP hQ hp hq hy
  go_upto_region 16 with fail
  refine wp_region_last 38 (fun w' => w'.cell? ⟨bt, i, none⟩ = some (.pointer (some ⟨gp, 0, none⟩)) ∧ w'.cell? ⟨bt, 2 + i, none⟩ = some (.pointer (some ⟨gq, 0, none⟩))) (by kernel_rfl) (HSS.out) (fun hHeld => ?_)
  refine wpAnyF_take [38] (by kernel_rfl) (i := 0) (v := ?vp1) rfl (by kernel_rfl) (by kernel_rfl) (by kernel_rfl) (fun _ _ _ h => h) (Or.inl ⟨by kernel_rfl, ?hyp1⟩) hHeld ?restp1
  case hyp1 => intro w' hSw; (try dsimp only at hSw); go_simp; try with_reducible rfl
  simp only [Act.put]
  try dsimp only
  refine wpAnyF_take [38] (by kernel_rfl) (i := 1) (v := ?vp2) rfl (by kernel_rfl) (by kernel_rfl) (by kernel_rfl) (fun _ _ _ h => h) (Or.inl ⟨by kernel_rfl, ?hyp2⟩) hHeld ?restp2
  case hyp2 => intro w' hSw; (try dsimp only at hSw); go_simp; try with_reducible rfl
  simp only [Act.put]
  try dsimp only
  refine wpAnyF_ready (rs := [2]) (by kernel_rfl) (by simp) ?_
  refine AllReadyF.cons rfl (fun K hK => ?_) AllReadyF.nil
  go_simp
  refine hK.out _ _ (HSS.out) (fun hHeld => ?_)
  clear hK K
  refine wpAnyF_ready (rs := [3]) (by kernel_rfl) (by simp) ?_
  refine AllReadyF.cons rfl (fun K hK => ?_) AllReadyF.nil
  go_simp
  refine HMv.out.mono ?_
  rintro e w5 ⟨rfl, hpm⟩
  obtain ⟨xs', S', hT5, hx5, hb5⟩ := hpm.out
  obtain ⟨⟨fs', m', h'⟩, hy5⟩ := hx5 i _ HY.out
  have hP5 := hT5.ps i hi
  have hQ5 := hT5.qs i hi
  rw [hy5, Hp.out] at hP5
  rw [hy5, Hq.out] at hQ5
  obtain ⟨g', hg', hS5⟩ := hP5.open
  injection hg' with hg'
  injection hg' with hg'
  injection hg' with hg' _ _
  subst hg'
  obtain ⟨g', hg', hR5⟩ := hQ5.open
  injection hg' with hg'
  injection hg' with hg'
  injection hg' with hg' _ _
  subst hg'
  dsimp only at hS5 hR5
  have HL1 := hide_ hS5.lenc
  have HL2 := hide_ hR5.lenc
  have HH1 := hide_ hS5.highc
  have HH2 := hide_ hR5.highc
  have HS5 : Hid ((fun w' => w'.cell? ⟨bt, i, none⟩ = some (.pointer (some ⟨gp, 0, none⟩)) ∧ w'.cell? ⟨bt, 2 + i, none⟩ = some (.pointer (some ⟨gq, 0, none⟩))) w5) := hide_ ⟨by rw [← Hp.out]; exact (hT5.cellP i hi).1, by rw [← Hq.out]; exact hT5.cellQ i hi⟩
  have HP : Hid (PlTo B w w5 bt xs (N + 3)) := hide_ ⟨p, q, xs', S', hT5.mono (by omega), hx5, HB3e.out.trans hb5⟩
  clear hpm hT5 hx5 hb5 hy5 hP5 hQ5 hS5 hR5
  dsimp only
  refine hK.out _ _ (HS5.out) (fun hHeld => ?_)
  clear hK K
  refine wpAnyF_take [38] (by kernel_rfl) (i := 4) (v := ?vp3) rfl (by kernel_rfl) (by kernel_rfl) (by kernel_rfl) (fun _ _ _ h => h) (Or.inl ⟨by kernel_rfl, ?hyp3⟩) hHeld ?restp3
  case hyp3 => intro w' hSw; (try dsimp only at hSw); go_simp; try with_reducible rfl
  simp only [Act.put]
  try dsimp only
  refine wpAnyF_take [38] (by kernel_rfl) (i := 5) (v := ?vp4) rfl (by kernel_rfl) (by kernel_rfl) (by kernel_rfl) (fun _ _ _ h => h) (Or.inl ⟨by kernel_rfl, ?hyp4⟩) hHeld ?restp4
  case hyp4 => intro w' hSw; (try dsimp only at hSw); go_simp; try with_reducible rfl
  simp only [Act.put]
  try dsimp only
  refine wpAnyF_take [38] (by kernel_rfl) (i := 6) (v := ?vp5) rfl (by kernel_rfl) (by kernel_rfl) (by kernel_rfl) (fun _ _ _ h => h) (Or.inl ⟨by kernel_rfl, ?hyp5⟩) hHeld ?restp5
  case hyp5 => intro w' hSw; (try dsimp only at hSw); go_simp; try with_reducible rfl
  simp only [Act.put]
  try dsimp only
  refine wpAnyF_take [38] (by kernel_rfl) (i := 7) (v := ?vp6) rfl (by kernel_rfl) (by kernel_rfl) (by kernel_rfl) (fun _ _ _ h => h) (Or.inl ⟨by kernel_rfl, ?hyp6⟩) hHeld ?restp6
  case hyp6 => intro w' hSw; (try dsimp only at hSw); go_simp; try with_reducible rfl
  simp only [Act.put]
  try dsimp only
  refine wpAnyF_take [38] (by kernel_rfl) (i := 8) (v := ?vp7) rfl (by kernel_rfl) (by kernel_rfl) (by kernel_rfl) (fun _ _ _ h => h) (Or.inl ⟨by kernel_rfl, ?hyp7⟩) hHeld ?restp7
  case hyp7 => intro w' hSw; (try dsimp only at hSw); go_simp; try with_reducible rfl
  simp only [Act.put]
  try dsimp only
  refine wpAnyF_take [38] (by kernel_rfl) (i := 9) (v := ?vp8) rfl (by kernel_rfl) (by kernel_rfl) (by kernel_rfl) (fun _ _ _ h => h) (Or.inl ⟨by kernel_rfl, ?hyp8⟩) hHeld ?restp8
  case hyp8 => intro w' hSw; (try dsimp only at hSw); go_simp; try with_reducible rfl
  simp only [Act.put]
  try dsimp only
  refine wpAnyF_take [38] (by kernel_rfl) (i := 10) (v := ?vp9) rfl (by kernel_rfl) (by kernel_rfl) (by kernel_rfl) (fun _ _ _ h => h) (Or.inl ⟨by kernel_rfl, ?hyp9⟩) hHeld ?restp9
  case hyp9 => intro w' hSw; (try dsimp only at hSw); go_simp; try with_reducible rfl
  simp only [Act.put]
  try dsimp only
  refine wpAnyF_take [38] (by kernel_rfl) (i := 12) (v := ?vp10) rfl (by kernel_rfl) (by kernel_rfl) (by kernel_rfl) (fun _ _ _ h => h) (Or.inl ⟨by kernel_rfl, ?hyp10⟩) hHeld ?restp10
  case hyp10 => intro w' hSw; (try dsimp only at hSw); go_simp; try with_reducible rfl
  simp only [Act.put]
  try dsimp only
  refine wpAnyF_take [38] (by kernel_rfl) (i := 13) (v := ?vp11) rfl (by kernel_rfl) (by kernel_rfl) (by kernel_rfl) (fun _ _ _ h => h) (Or.inl ⟨by kernel_rfl, ?hyp11⟩) hHeld ?restp11
  case hyp11 => intro w' hSw; (try dsimp only at hSw); go_simp; try with_reducible rfl
  simp only [Act.put]
  try dsimp only
  refine wpAnyF_take [38] (by kernel_rfl) (i := 14) (v := ?vp12) rfl (by kernel_rfl) (by kernel_rfl) (by kernel_rfl) (fun _ _ _ h => h) (Or.inl ⟨by kernel_rfl, ?hyp12⟩) hHeld ?restp12
  case hyp12 => intro w' hSw; (try dsimp only at hSw); go_simp; try with_reducible rfl
  simp only [Act.put]
  try dsimp only
  refine wpAnyF_take [38] (by kernel_rfl) (i := 15) (v := ?vp13) rfl (by kernel_rfl) (by kernel_rfl) (by kernel_rfl) (fun _ _ _ h => h) (Or.inl ⟨by kernel_rfl, ?hyp13⟩) hHeld ?restp13
  case hyp13 => intro w' hSw; (try dsimp only at hSw); go_simp; try with_reducible rfl
  simp only [Act.put]
  try dsimp only
  refine wpAnyF_take [38] (by kernel_rfl) (i := 16) (v := ?vp14) rfl (by kernel_rfl) (by kernel_rfl) (by kernel_rfl) (fun _ _ _ h => h) (Or.inl ⟨by kernel_rfl, ?hyp14⟩) hHeld ?restp14
  case hyp14 => intro w' hSw; (try dsimp only at hSw); go_simp; try with_reducible rfl
  simp only [Act.put]
  try dsimp only
  refine wpAnyF_take [38] (by kernel_rfl) (i := 17) (v := ?vp15) rfl (by kernel_rfl) (by kernel_rfl) (by kernel_rfl) (fun _ _ _ h => h) (Or.inl ⟨by kernel_rfl, ?hyp15⟩) hHeld ?restp15
  case hyp15 => intro w' hSw; (try dsimp only at hSw); go_simp; try with_reducible rfl
  simp only [Act.put]
  try dsimp only
  refine wpAnyF_ready (rs := [11]) (by kernel_rfl) (by simp) ?_
  refine AllReadyF.cons rfl (fun K hK => ?_) AllReadyF.nil
  go_simp
  refine HL1.out.mono ?_
  rintro e w5x ⟨rfl, rfl⟩
  dsimp only
  refine hK.out _ _ (HS5.out) (fun hHeld => ?_)
  clear hK K
  refine wpAnyF_ready (rs := [18]) (by kernel_rfl) (by simp) ?_
  refine AllReadyF.cons rfl (fun K hK => ?_) AllReadyF.nil
  go_simp
  refine HL2.out.mono ?_
  rintro e w5x ⟨rfl, rfl⟩
  dsimp only
  refine hK.out _ _ (HS5.out) (fun hHeld => ?_)
  clear hK K
  refine wpAnyF_take [38] (by kernel_rfl) (i := 19) (v := ?vp16) rfl (by kernel_rfl) (by kernel_rfl) (by kernel_rfl) (fun _ _ _ h => h) (Or.inl ⟨by kernel_rfl, ?hyp16⟩) hHeld ?restp16
  case hyp16 => intro w' hSw; (try dsimp only at hSw); go_simp; try with_reducible rfl
  simp only [Act.put]
  try dsimp only
  refine wpAnyF_take [38] (by kernel_rfl) (i := 20) (v := ?vp17) rfl (by kernel_rfl) (by kernel_rfl) (by kernel_rfl) (fun _ _ _ h => h) (Or.inl ⟨by kernel_rfl, ?hyp17⟩) hHeld ?restp17
  case hyp17 => intro w' hSw; (try dsimp only at hSw); go_simp; try with_reducible rfl
  simp only [Act.put]
  try dsimp only
  refine wpAnyF_take [38] (by kernel_rfl) (i := 21) (v := ?vp18) rfl (by kernel_rfl) (by kernel_rfl) (by kernel_rfl) (fun _ _ _ h => h) (Or.inl ⟨by kernel_rfl, ?hyp18⟩) hHeld ?restp18
  case hyp18 => intro w' hSw; (try dsimp only at hSw); go_simp; try with_reducible rfl
  simp only [Act.put]
  try dsimp only
  refine wpAnyF_take [38] (by kernel_rfl) (i := 22) (v := ?vp19) rfl (by kernel_rfl) (by kernel_rfl) (by kernel_rfl) (fun _ _ _ h => h) (Or.inl ⟨by kernel_rfl, ?hyp19⟩) hHeld ?restp19
  case hyp19 => intro w' hSw; (try dsimp only at hSw); go_simp; try with_reducible rfl
  simp only [Act.put]
  try dsimp only
  refine wpAnyF_take [38] (by kernel_rfl) (i := 23) (v := ?vp20) rfl (by kernel_rfl) (by kernel_rfl) (by kernel_rfl) (fun _ _ _ h => h) (Or.inl ⟨by kernel_rfl, ?hyp20⟩) hHeld ?restp20
  case hyp20 => intro w' hSw; (try dsimp only at hSw); go_simp; try with_reducible rfl
  simp only [Act.put]
  try dsimp only
  refine wpAnyF_take [38] (by kernel_rfl) (i := 24) (v := ?vp21) rfl (by kernel_rfl) (by kernel_rfl) (by kernel_rfl) (fun _ _ _ h => h) (Or.inl ⟨by kernel_rfl, ?hyp21⟩) hHeld ?restp21
  case hyp21 => intro w' hSw; (try dsimp only at hSw); go_simp; try with_reducible rfl
  simp only [Act.put]
  try dsimp only
  refine wpAnyF_take [38] (by kernel_rfl) (i := 25) (v := ?vp22) rfl (by kernel_rfl) (by kernel_rfl) (by kernel_rfl) (fun _ _ _ h => h) (Or.inl ⟨by kernel_rfl, ?hyp22⟩) hHeld ?restp22
  case hyp22 => intro w' hSw; (try dsimp only at hSw); go_simp; try with_reducible rfl
  simp only [Act.put]
  try dsimp only
  refine wpAnyF_take [38] (by kernel_rfl) (i := 26) (v := ?vp23) rfl (by kernel_rfl) (by kernel_rfl) (by kernel_rfl) (fun _ _ _ h => h) (Or.inl ⟨by kernel_rfl, ?hyp23⟩) hHeld ?restp23
  case hyp23 => intro w' hSw; (try dsimp only at hSw); go_simp; try with_reducible rfl
  simp only [Act.put]
  try dsimp only
  refine wpAnyF_take [38] (by kernel_rfl) (i := 27) (v := ?vp24) rfl (by kernel_rfl) (by kernel_rfl) (by kernel_rfl) (fun _ _ _ h => h) (Or.inl ⟨by kernel_rfl, ?hyp24⟩) hHeld ?restp24
  case hyp24 => intro w' hSw; (try dsimp only at hSw); go_simp; try with_reducible rfl
  simp only [Act.put]
  try dsimp only
  refine wpAnyF_take [38] (by kernel_rfl) (i := 29) (v := ?vp25) rfl (by kernel_rfl) (by kernel_rfl) (by kernel_rfl) (fun _ _ _ h => h) (Or.inl ⟨by kernel_rfl, ?hyp25⟩) hHeld ?restp25
  case hyp25 => intro w' hSw; (try dsimp only at hSw); go_simp; try with_reducible rfl
  simp only [Act.put]
  try dsimp only
  refine wpAnyF_take [38] (by kernel_rfl) (i := 30) (v := ?vp26) rfl (by kernel_rfl) (by kernel_rfl) (by kernel_rfl) (fun _ _ _ h => h) (Or.inl ⟨by kernel_rfl, ?hyp26⟩) hHeld ?restp26
  case hyp26 => intro w' hSw; (try dsimp only at hSw); go_simp; try with_reducible rfl
  simp only [Act.put]
  try dsimp only
  refine wpAnyF_take [38] (by kernel_rfl) (i := 31) (v := ?vp27) rfl (by kernel_rfl) (by kernel_rfl) (by kernel_rfl) (fun _ _ _ h => h) (Or.inl ⟨by kernel_rfl, ?hyp27⟩) hHeld ?restp27
  case hyp27 => intro w' hSw; (try dsimp only at hSw); go_simp; try with_reducible rfl
  simp only [Act.put]
  try dsimp only
  refine wpAnyF_take [38] (by kernel_rfl) (i := 32) (v := ?vp28) rfl (by kernel_rfl) (by kernel_rfl) (by kernel_rfl) (fun _ _ _ h => h) (Or.inl ⟨by kernel_rfl, ?hyp28⟩) hHeld ?restp28
  case hyp28 => intro w' hSw; (try dsimp only at hSw); go_simp; try with_reducible rfl
  simp only [Act.put]
  try dsimp only
  refine wpAnyF_take [38] (by kernel_rfl) (i := 33) (v := ?vp29) rfl (by kernel_rfl) (by kernel_rfl) (by kernel_rfl) (fun _ _ _ h => h) (Or.inl ⟨by kernel_rfl, ?hyp29⟩) hHeld ?restp29
  case hyp29 => intro w' hSw; (try dsimp only at hSw); go_simp; try with_reducible rfl
  simp only [Act.put]
  try dsimp only
  refine wpAnyF_take [38] (by kernel_rfl) (i := 34) (v := ?vp30) rfl (by kernel_rfl) (by kernel_rfl) (by kernel_rfl) (fun _ _ _ h => h) (Or.inl ⟨by kernel_rfl, ?hyp30⟩) hHeld ?restp30
  case hyp30 => intro w' hSw; (try dsimp only at hSw); go_simp; try with_reducible rfl
  simp only [Act.put]
  try dsimp only
  refine wpAnyF_ready (rs := [28]) (by kernel_rfl) (by simp) ?_
  refine AllReadyF.cons rfl (fun K hK => ?_) AllReadyF.nil
  go_simp
  refine HH1.out.mono ?_
  rintro e w5x ⟨rfl, rfl⟩
  dsimp only
  refine hK.out _ _ (HS5.out) (fun hHeld => ?_)
  clear hK K
  refine wpAnyF_ready (rs := [35]) (by kernel_rfl) (by simp) ?_
  refine AllReadyF.cons rfl (fun K hK => ?_) AllReadyF.nil
  go_simp
  refine HH2.out.mono ?_
  rintro e w5x ⟨rfl, rfl⟩
  dsimp only
  refine hK.out _ _ (HS5.out) (fun hHeld => ?_)
  clear hK K
  refine wpAnyF_take [38] (by kernel_rfl) (i := 36) (v := ?vp31) rfl (by kernel_rfl) (by kernel_rfl) (by kernel_rfl) (fun _ _ _ h => h) (Or.inl ⟨by kernel_rfl, ?hyp31⟩) hHeld ?restp31
  case hyp31 => intro w' hSw; (try dsimp only at hSw); go_simp; try with_reducible rfl
  simp only [Act.put]
  try dsimp only
  refine wpAnyF_take [38] (by kernel_rfl) (i := 37) (v := ?vp32) rfl (by kernel_rfl) (by kernel_rfl) (by kernel_rfl) (fun _ _ _ h => h) (Or.inl ⟨by kernel_rfl, ?hyp32⟩) hHeld ?restp32
  case hyp32 => intro w' hSw; (try dsimp only at hSw); go_simp; try with_reducible rfl
  simp only [Act.put]
  try dsimp only
  refine wpAnyF_ready (rs := [38]) (by kernel_rfl) (by simp) ?_
  refine AllReadyF.last rfl (fun K hK => ?_)
  go_simp
  refine hK.out _ _ ?_
  clear hK K
  refine wpAnyF_done (by kernel_rfl) ?_ _
  go_wp2_with fail
  go_ret
  exact ⟨rfl, HP⟩
set_option maxRecDepth 100000 in
set_option maxHeartbeats 16000000 in
theorem plays_slot (B bt : Nat) (p q : Nat → Value) (xs : Nat → Option Sk) (N : Nat) (S : Nat → Nat → Prop) (wh : Bool) (f : Fr) (a : Option Addr) (c : Nat) (n : Int) (ab : Option Addr) (nb cb : Nat) (w : World) (hT : Hid (Tab B w bt p q xs xs N S)) (HFA : Hid (∀ w', Below B w w' → FrA w' f a c)) (hfc : f.T.length ≤ c) (hcm : c ≤ 9223372036854775807) (hN : N ≤ 780) (hx : ∀ j, j < 2 → ∃ y, xs j = some y) :
    Calls Try.prog 25 #[.pointer (some ⟨bt, 0, none⟩), .agg #[.int .i64 8, .bool wh, .int .i64 f.r, .int .i64 f.a, .int .i64 f.b, .int .i64 f.e, .int .i64 f.n, .int .i64 f.x, .slice a f.T.length c, .int .i64 n, .slice ab nb cb]] w fun e w' => e = .returned (.bool true) ∧ Hid (PlTo B w w' bt xs (N + 3)) := by
  have HBw := hide_ hT.out.base
  have HBd := hide_ hT.out.lt
  have HSk : Hid (∀ j k, S j k → B ≤ k ∧ k < w.heap.size ∧ k ≠ bt) := hide_ hT.out.ly
  obtain ⟨w1, hw1⟩ : ∃ wx, wx = w.alloc (.cells #[.int .i64 8, .bool wh, .int .i64 f.r, .int .i64 f.a, .int .i64 f.b, .int .i64 f.e, .int .i64 f.n, .int .i64 f.x, .slice a f.T.length c, .int .i64 n, .slice ab nb cb] 63) := ⟨_, rfl⟩
  have hB1 : Below w.heap.size w w1 := by rw [hw1]; exact below1 _ _
  have K1 : Hid (Blk w1 w.heap.size 63 [.int .i64 8, .bool wh, .int .i64 f.r, .int .i64 f.a, .int .i64 f.b, .int .i64 f.e, .int .i64 f.n, .int .i64 f.x, .slice a f.T.length c, .int .i64 n, .slice ab nb cb]) := hide_ (by rw [hw1]; exact Blk.newA w _ _)
  have HB1 := hide_ hB1
  have hCut := cut_any f a c w1 (hide_ (HFA.out w1 (hB1.mono HBw.out))) hfc hcm
  obtain ⟨tl, htl⟩ : ∃ tl, (f.T.take 300).length = tl := ⟨_, rfl⟩
  rw [htl] at hCut
  have HCut := hide_ hCut
  have HTl := hide_ htl
  clear hCut htl
  have o1 := K1.out.cell 1; have o2 := K1.out.cell 2; have o3 := K1.out.cell 3; have o4 := K1.out.cell 4; have o5 := K1.out.cell 5; have o6 := K1.out.cell 6; have o7 := K1.out.cell 7; have o8 := K1.out.cell 8
  simp at o1 o2 o3 o4 o5 o6 o7 o8
  clear hB1
  go_enter Try.func25, Try.ntmps25
  go_upto_region 2 with fail
  rw [← hw1]
  clear hw1
  go_upto_if 11 with fail
  go_cut [5] from 5 to 11 (fun x5 wc => x5 = .int .i64 (wN wh : Int) ∧ w1 = wc)
  case first =>
    cases wh with
    | true =>
      go_wp2_with fail
      go_meet
      case rel => exact ⟨rfl, rfl⟩
    | false =>
      go_wp2_with fail
      go_meet
      case rel => exact ⟨rfl, rfl⟩
  case rest =>
  obtain ⟨rfl, rfl⟩ := hcut
  have hi := wN_lt wh
  obtain ⟨i, hiw⟩ : ∃ i, wN wh = i := ⟨_, rfl⟩
  have HIw := hide_ hiw
  rw [hiw] at hi ⊢
  clear hiw o1
  have hi' : (i : Int) < 2 := by omega
  go_wp2_with fail
  refine HCut.out.mono ?_
  rintro e w2 ⟨rfl, hb2⟩
  have K2 := hide_ (K1.out.later hb2)
  have HB2 := hide_ (below_to HB1.out hb2)
  obtain ⟨w3, hw3⟩ : ∃ wx, wx = ((((((w2.setCell ⟨w.heap.size, 2, none⟩ (.int .i64 f.r)).setCell ⟨w.heap.size, 3, none⟩ (.int .i64 f.a)).setCell ⟨w.heap.size, 4, none⟩ (.int .i64 f.b)).setCell ⟨w.heap.size, 5, none⟩ (.int .i64 f.e)).setCell ⟨w.heap.size, 6, none⟩ (.int .i64 f.n)).setCell ⟨w.heap.size, 7, none⟩ (.int .i64 f.x)).setCell ⟨w.heap.size, 8, none⟩ (.slice a tl c) := ⟨_, rfl⟩
  have hu3 : Upd (fun k => k = w.heap.size) w2 w3 := by
    rw [hw3]
    exact (((((((Upd.refl (fun k => k = w.heap.size) w2).set ⟨w.heap.size, 2, none⟩ _ (.inl rfl)).set ⟨w.heap.size, 3, none⟩ _ (.inl rfl)).set ⟨w.heap.size, 4, none⟩ _ (.inl rfl)).set ⟨w.heap.size, 5, none⟩ _ (.inl rfl)).set ⟨w.heap.size, 6, none⟩ _ (.inl rfl)).set ⟨w.heap.size, 7, none⟩ _ (.inl rfl)).set ⟨w.heap.size, 8, none⟩ _ (.inl rfl)
  have K3 : Hid (Blk w3 w.heap.size 63 [.int .i64 8, .bool wh, .int .i64 f.r, .int .i64 f.a, .int .i64 f.b, .int .i64 f.e, .int .i64 f.n, .int .i64 f.x, .slice a tl c, .int .i64 n, .slice ab nb cb]) := hide_ (by
    have h := ((((((K2.out.set 2 (.int .i64 f.r)).set 3 (.int .i64 f.a)).set 4 (.int .i64 f.b)).set 5 (.int .i64 f.e)).set 6 (.int .i64 f.n)).set 7 (.int .i64 f.x)).set 8 (.slice a tl c)
    rw [hw3]
    simpa using h)
  have HB3 : Hid (Below w.heap.size w w3) := hide_ (HB2.out.trans (hu3.below w.heap.size HB2.out.size (fun k hk => by omega)))
  have z2 := K2.out.frozen 2; have z3 := K2.out.frozen 3; have z4 := K2.out.frozen 4; have z5 := K2.out.frozen 5; have z6 := K2.out.frozen 6; have z7 := K2.out.frozen 7; have z8 := K2.out.frozen 8
  clear o2 o3 o4 o5 o6 o7 o8
  have o2 := K2.out.cell 2; have o3 := K2.out.cell 3; have o4 := K2.out.cell 4; have o5 := K2.out.cell 5; have o6 := K2.out.cell 6; have o7 := K2.out.cell 7; have o8 := K2.out.cell 8
  simp at o2 o3 o4 o5 o6 o7 o8
  clear hb2 hu3 HCut K1 K2
  go_upto_region 5 with fail
  rw [← hw3]
  clear hw3 o2 o3 o4 o5 o6 o7 o8 z2 z3 z4 z5 z6 z7 z8
  have o0 := K3.out.cell 0; have o9 := K3.out.cell 9; have o10 := K3.out.cell 10
  simp at o0 o9 o10
  obtain ⟨⟨fs, m, h⟩, hy⟩ := hx i hi
  have HT3 := hide_ ((hT.out.later HB3.out).later (w' := w3.drew) ((Below.refl w3.heap.size w3).drew))
  have HB3e := hide_ ((below_to HB3.out ((Below.refl w3.heap.size w3).drew)).mono HBw.out)
  have hM := moves_slot B bt i p q xs N S (fs, m, h) wh (cutF f) a c n ab nb cb w3.drew HT3 hi hy (hide_ (fun w' hb => (HFA.out w' (HB3e.out.trans hb)).cut)) (by show (f.T.take 300).length ≤ 1000000; rw [List.length_take]; omega) (by omega)
  dsimp only [cutF] at hM
  rw [HTl.out] at hM
  have HMv := hide_ hM
  have hP := HT3.out.ps i hi
  have hQ := HT3.out.qs i hi
  rw [hy] at hP hQ
  obtain ⟨gp, hp, -⟩ := hP.open
  obtain ⟨gq, hq, -⟩ := hQ.open
  have HSS : Hid ((fun w' => w'.cell? ⟨bt, i, none⟩ = some (.pointer (some ⟨gp, 0, none⟩)) ∧ w'.cell? ⟨bt, 2 + i, none⟩ = some (.pointer (some ⟨gq, 0, none⟩))) w3.drew) := hide_ ⟨by rw [← hp]; exact (HT3.out.cellP i hi).1, by rw [← hq]; exact HT3.out.cellQ i hi⟩
  have Hp := hide_ hp
  have Hq := hide_ hq
  have HY := hide_ hy
  have o1 := K3.out.cell 1; have o2 := K3.out.cell 2; have o3 := K3.out.cell 3; have o4 := K3.out.cell 4; have o5 := K3.out.cell 5; have o6 := K3.out.cell 6; have o7 := K3.out.cell 7; have o8 := K3.out.cell 8
  simp at o1 o2 o3 o4 o5 o6 o7 o8
  clear hM hP hQ hp hq hy
  go_upto_region 16 with fail
  refine wp_region_last 38 (fun w' => w'.cell? ⟨bt, i, none⟩ = some (.pointer (some ⟨gp, 0, none⟩)) ∧ w'.cell? ⟨bt, 2 + i, none⟩ = some (.pointer (some ⟨gq, 0, none⟩))) (by kernel_rfl) (HSS.out) (fun hHeld => ?_)
  refine wpAnyF_take [38] (by kernel_rfl) (i := 0) (v := ?vp1) rfl (by kernel_rfl) (by kernel_rfl) (by kernel_rfl) (fun _ _ _ h => h) (Or.inl ⟨by kernel_rfl, ?hyp1⟩) hHeld ?restp1
  case hyp1 => intro w' hSw; (try dsimp only at hSw); go_simp; try with_reducible rfl
  simp only [Act.put]
  try dsimp only
  refine wpAnyF_take [38] (by kernel_rfl) (i := 1) (v := ?vp2) rfl (by kernel_rfl) (by kernel_rfl) (by kernel_rfl) (fun _ _ _ h => h) (Or.inl ⟨by kernel_rfl, ?hyp2⟩) hHeld ?restp2
  case hyp2 => intro w' hSw; (try dsimp only at hSw); go_simp; try with_reducible rfl
  simp only [Act.put]
  try dsimp only
  refine wpAnyF_ready (rs := [2]) (by kernel_rfl) (by simp) ?_
  refine AllReadyF.cons rfl (fun K hK => ?_) AllReadyF.nil
  go_simp
  refine hK.out _ _ (HSS.out) (fun hHeld => ?_)
  clear hK K
  refine wpAnyF_ready (rs := [3]) (by kernel_rfl) (by simp) ?_
  refine AllReadyF.cons rfl (fun K hK => ?_) AllReadyF.nil
  go_simp
  refine HMv.out.mono ?_
  rintro e w5 ⟨rfl, hpm⟩
  obtain ⟨xs', S', hT5, hx5, hb5⟩ := hpm.out
  obtain ⟨⟨fs', m', h'⟩, hy5⟩ := hx5 i _ HY.out
  have hP5 := hT5.ps i hi
  have hQ5 := hT5.qs i hi
  rw [hy5, Hp.out] at hP5
  rw [hy5, Hq.out] at hQ5
  obtain ⟨g', hg', hS5⟩ := hP5.open
  injection hg' with hg'
  injection hg' with hg'
  injection hg' with hg' _ _
  subst hg'
  obtain ⟨g', hg', hR5⟩ := hQ5.open
  injection hg' with hg'
  injection hg' with hg'
  injection hg' with hg' _ _
  subst hg'
  dsimp only at hS5 hR5
  have HL1 := hide_ hS5.lenc
  have HL2 := hide_ hR5.lenc
  have HH1 := hide_ hS5.highc
  have HH2 := hide_ hR5.highc
  have HS5 : Hid ((fun w' => w'.cell? ⟨bt, i, none⟩ = some (.pointer (some ⟨gp, 0, none⟩)) ∧ w'.cell? ⟨bt, 2 + i, none⟩ = some (.pointer (some ⟨gq, 0, none⟩))) w5) := hide_ ⟨by rw [← Hp.out]; exact (hT5.cellP i hi).1, by rw [← Hq.out]; exact hT5.cellQ i hi⟩
  have HP : Hid (PlTo B w w5 bt xs (N + 3)) := hide_ ⟨p, q, xs', S', hT5.mono (by omega), hx5, HB3e.out.trans hb5⟩
  clear hpm hT5 hx5 hb5 hy5 hP5 hQ5 hS5 hR5
  dsimp only
  refine hK.out _ _ (HS5.out) (fun hHeld => ?_)
  clear hK K
  refine wpAnyF_take [38] (by kernel_rfl) (i := 4) (v := ?vp3) rfl (by kernel_rfl) (by kernel_rfl) (by kernel_rfl) (fun _ _ _ h => h) (Or.inl ⟨by kernel_rfl, ?hyp3⟩) hHeld ?restp3
  case hyp3 => intro w' hSw; (try dsimp only at hSw); go_simp; try with_reducible rfl
  simp only [Act.put]
  try dsimp only
  refine wpAnyF_take [38] (by kernel_rfl) (i := 5) (v := ?vp4) rfl (by kernel_rfl) (by kernel_rfl) (by kernel_rfl) (fun _ _ _ h => h) (Or.inl ⟨by kernel_rfl, ?hyp4⟩) hHeld ?restp4
  case hyp4 => intro w' hSw; (try dsimp only at hSw); go_simp; try with_reducible rfl
  simp only [Act.put]
  try dsimp only
  refine wpAnyF_take [38] (by kernel_rfl) (i := 6) (v := ?vp5) rfl (by kernel_rfl) (by kernel_rfl) (by kernel_rfl) (fun _ _ _ h => h) (Or.inl ⟨by kernel_rfl, ?hyp5⟩) hHeld ?restp5
  case hyp5 => intro w' hSw; (try dsimp only at hSw); go_simp; try with_reducible rfl
  simp only [Act.put]
  try dsimp only
  refine wpAnyF_take [38] (by kernel_rfl) (i := 7) (v := ?vp6) rfl (by kernel_rfl) (by kernel_rfl) (by kernel_rfl) (fun _ _ _ h => h) (Or.inl ⟨by kernel_rfl, ?hyp6⟩) hHeld ?restp6
  case hyp6 => intro w' hSw; (try dsimp only at hSw); go_simp; try with_reducible rfl
  simp only [Act.put]
  try dsimp only
  refine wpAnyF_take [38] (by kernel_rfl) (i := 8) (v := ?vp7) rfl (by kernel_rfl) (by kernel_rfl) (by kernel_rfl) (fun _ _ _ h => h) (Or.inl ⟨by kernel_rfl, ?hyp7⟩) hHeld ?restp7
  case hyp7 => intro w' hSw; (try dsimp only at hSw); go_simp; try with_reducible rfl
  simp only [Act.put]
  try dsimp only
  refine wpAnyF_take [38] (by kernel_rfl) (i := 9) (v := ?vp8) rfl (by kernel_rfl) (by kernel_rfl) (by kernel_rfl) (fun _ _ _ h => h) (Or.inl ⟨by kernel_rfl, ?hyp8⟩) hHeld ?restp8
  case hyp8 => intro w' hSw; (try dsimp only at hSw); go_simp; try with_reducible rfl
  simp only [Act.put]
  try dsimp only
  refine wpAnyF_take [38] (by kernel_rfl) (i := 10) (v := ?vp9) rfl (by kernel_rfl) (by kernel_rfl) (by kernel_rfl) (fun _ _ _ h => h) (Or.inl ⟨by kernel_rfl, ?hyp9⟩) hHeld ?restp9
  case hyp9 => intro w' hSw; (try dsimp only at hSw); go_simp; try with_reducible rfl
  simp only [Act.put]
  try dsimp only
  refine wpAnyF_take [38] (by kernel_rfl) (i := 12) (v := ?vp10) rfl (by kernel_rfl) (by kernel_rfl) (by kernel_rfl) (fun _ _ _ h => h) (Or.inl ⟨by kernel_rfl, ?hyp10⟩) hHeld ?restp10
  case hyp10 => intro w' hSw; (try dsimp only at hSw); go_simp; try with_reducible rfl
  simp only [Act.put]
  try dsimp only
  refine wpAnyF_take [38] (by kernel_rfl) (i := 13) (v := ?vp11) rfl (by kernel_rfl) (by kernel_rfl) (by kernel_rfl) (fun _ _ _ h => h) (Or.inl ⟨by kernel_rfl, ?hyp11⟩) hHeld ?restp11
  case hyp11 => intro w' hSw; (try dsimp only at hSw); go_simp; try with_reducible rfl
  simp only [Act.put]
  try dsimp only
  refine wpAnyF_take [38] (by kernel_rfl) (i := 14) (v := ?vp12) rfl (by kernel_rfl) (by kernel_rfl) (by kernel_rfl) (fun _ _ _ h => h) (Or.inl ⟨by kernel_rfl, ?hyp12⟩) hHeld ?restp12
  case hyp12 => intro w' hSw; (try dsimp only at hSw); go_simp; try with_reducible rfl
  simp only [Act.put]
  try dsimp only
  refine wpAnyF_take [38] (by kernel_rfl) (i := 15) (v := ?vp13) rfl (by kernel_rfl) (by kernel_rfl) (by kernel_rfl) (fun _ _ _ h => h) (Or.inl ⟨by kernel_rfl, ?hyp13⟩) hHeld ?restp13
  case hyp13 => intro w' hSw; (try dsimp only at hSw); go_simp; try with_reducible rfl
  simp only [Act.put]
  try dsimp only
  refine wpAnyF_take [38] (by kernel_rfl) (i := 16) (v := ?vp14) rfl (by kernel_rfl) (by kernel_rfl) (by kernel_rfl) (fun _ _ _ h => h) (Or.inl ⟨by kernel_rfl, ?hyp14⟩) hHeld ?restp14
  case hyp14 => intro w' hSw; (try dsimp only at hSw); go_simp; try with_reducible rfl
  simp only [Act.put]
  try dsimp only
  refine wpAnyF_take [38] (by kernel_rfl) (i := 17) (v := ?vp15) rfl (by kernel_rfl) (by kernel_rfl) (by kernel_rfl) (fun _ _ _ h => h) (Or.inl ⟨by kernel_rfl, ?hyp15⟩) hHeld ?restp15
  case hyp15 => intro w' hSw; (try dsimp only at hSw); go_simp; try with_reducible rfl
  simp only [Act.put]
  try dsimp only
  refine wpAnyF_ready (rs := [11]) (by kernel_rfl) (by simp) ?_
  refine AllReadyF.cons rfl (fun K hK => ?_) AllReadyF.nil
  go_simp
  refine HL1.out.mono ?_
  rintro e w5x ⟨rfl, rfl⟩
  dsimp only
  refine hK.out _ _ (HS5.out) (fun hHeld => ?_)
  clear hK K
  refine wpAnyF_ready (rs := [18]) (by kernel_rfl) (by simp) ?_
  refine AllReadyF.cons rfl (fun K hK => ?_) AllReadyF.nil
  go_simp
  refine HL2.out.mono ?_
  rintro e w5x ⟨rfl, rfl⟩
  dsimp only
  refine hK.out _ _ (HS5.out) (fun hHeld => ?_)
  clear hK K
  refine wpAnyF_take [38] (by kernel_rfl) (i := 19) (v := ?vp16) rfl (by kernel_rfl) (by kernel_rfl) (by kernel_rfl) (fun _ _ _ h => h) (Or.inl ⟨by kernel_rfl, ?hyp16⟩) hHeld ?restp16
  case hyp16 => intro w' hSw; (try dsimp only at hSw); go_simp; try with_reducible rfl
  simp only [Act.put]
  try dsimp only
  refine wpAnyF_take [38] (by kernel_rfl) (i := 20) (v := ?vp17) rfl (by kernel_rfl) (by kernel_rfl) (by kernel_rfl) (fun _ _ _ h => h) (Or.inl ⟨by kernel_rfl, ?hyp17⟩) hHeld ?restp17
  case hyp17 => intro w' hSw; (try dsimp only at hSw); go_simp; try with_reducible rfl
  simp only [Act.put]
  try dsimp only
  refine wpAnyF_take [38] (by kernel_rfl) (i := 21) (v := ?vp18) rfl (by kernel_rfl) (by kernel_rfl) (by kernel_rfl) (fun _ _ _ h => h) (Or.inl ⟨by kernel_rfl, ?hyp18⟩) hHeld ?restp18
  case hyp18 => intro w' hSw; (try dsimp only at hSw); go_simp; try with_reducible rfl
  simp only [Act.put]
  try dsimp only
  refine wpAnyF_take [38] (by kernel_rfl) (i := 22) (v := ?vp19) rfl (by kernel_rfl) (by kernel_rfl) (by kernel_rfl) (fun _ _ _ h => h) (Or.inl ⟨by kernel_rfl, ?hyp19⟩) hHeld ?restp19
  case hyp19 => intro w' hSw; (try dsimp only at hSw); go_simp; try with_reducible rfl
  simp only [Act.put]
  try dsimp only
  refine wpAnyF_take [38] (by kernel_rfl) (i := 23) (v := ?vp20) rfl (by kernel_rfl) (by kernel_rfl) (by kernel_rfl) (fun _ _ _ h => h) (Or.inl ⟨by kernel_rfl, ?hyp20⟩) hHeld ?restp20
  case hyp20 => intro w' hSw; (try dsimp only at hSw); go_simp; try with_reducible rfl
  simp only [Act.put]
  try dsimp only
  refine wpAnyF_take [38] (by kernel_rfl) (i := 24) (v := ?vp21) rfl (by kernel_rfl) (by kernel_rfl) (by kernel_rfl) (fun _ _ _ h => h) (Or.inl ⟨by kernel_rfl, ?hyp21⟩) hHeld ?restp21
  case hyp21 => intro w' hSw; (try dsimp only at hSw); go_simp; try with_reducible rfl
  simp only [Act.put]
  try dsimp only
  refine wpAnyF_take [38] (by kernel_rfl) (i := 25) (v := ?vp22) rfl (by kernel_rfl) (by kernel_rfl) (by kernel_rfl) (fun _ _ _ h => h) (Or.inl ⟨by kernel_rfl, ?hyp22⟩) hHeld ?restp22
  case hyp22 => intro w' hSw; (try dsimp only at hSw); go_simp; try with_reducible rfl
  simp only [Act.put]
  try dsimp only
  refine wpAnyF_take [38] (by kernel_rfl) (i := 26) (v := ?vp23) rfl (by kernel_rfl) (by kernel_rfl) (by kernel_rfl) (fun _ _ _ h => h) (Or.inl ⟨by kernel_rfl, ?hyp23⟩) hHeld ?restp23
  case hyp23 => intro w' hSw; (try dsimp only at hSw); go_simp; try with_reducible rfl
  simp only [Act.put]
  try dsimp only
  refine wpAnyF_take [38] (by kernel_rfl) (i := 27) (v := ?vp24) rfl (by kernel_rfl) (by kernel_rfl) (by kernel_rfl) (fun _ _ _ h => h) (Or.inl ⟨by kernel_rfl, ?hyp24⟩) hHeld ?restp24
  case hyp24 => intro w' hSw; (try dsimp only at hSw); go_simp; try with_reducible rfl
  simp only [Act.put]
  try dsimp only
  refine wpAnyF_take [38] (by kernel_rfl) (i := 29) (v := ?vp25) rfl (by kernel_rfl) (by kernel_rfl) (by kernel_rfl) (fun _ _ _ h => h) (Or.inl ⟨by kernel_rfl, ?hyp25⟩) hHeld ?restp25
  case hyp25 => intro w' hSw; (try dsimp only at hSw); go_simp; try with_reducible rfl
  simp only [Act.put]
  try dsimp only
  refine wpAnyF_take [38] (by kernel_rfl) (i := 30) (v := ?vp26) rfl (by kernel_rfl) (by kernel_rfl) (by kernel_rfl) (fun _ _ _ h => h) (Or.inl ⟨by kernel_rfl, ?hyp26⟩) hHeld ?restp26
  case hyp26 => intro w' hSw; (try dsimp only at hSw); go_simp; try with_reducible rfl
  simp only [Act.put]
  try dsimp only
  refine wpAnyF_take [38] (by kernel_rfl) (i := 31) (v := ?vp27) rfl (by kernel_rfl) (by kernel_rfl) (by kernel_rfl) (fun _ _ _ h => h) (Or.inl ⟨by kernel_rfl, ?hyp27⟩) hHeld ?restp27
  case hyp27 => intro w' hSw; (try dsimp only at hSw); go_simp; try with_reducible rfl
  simp only [Act.put]
  try dsimp only
  refine wpAnyF_take [38] (by kernel_rfl) (i := 32) (v := ?vp28) rfl (by kernel_rfl) (by kernel_rfl) (by kernel_rfl) (fun _ _ _ h => h) (Or.inl ⟨by kernel_rfl, ?hyp28⟩) hHeld ?restp28
  case hyp28 => intro w' hSw; (try dsimp only at hSw); go_simp; try with_reducible rfl
  simp only [Act.put]
  try dsimp only
  refine wpAnyF_take [38] (by kernel_rfl) (i := 33) (v := ?vp29) rfl (by kernel_rfl) (by kernel_rfl) (by kernel_rfl) (fun _ _ _ h => h) (Or.inl ⟨by kernel_rfl, ?hyp29⟩) hHeld ?restp29
  case hyp29 => intro w' hSw; (try dsimp only at hSw); go_simp; try with_reducible rfl
  simp only [Act.put]
  try dsimp only
  refine wpAnyF_take [38] (by kernel_rfl) (i := 34) (v := ?vp30) rfl (by kernel_rfl) (by kernel_rfl) (by kernel_rfl) (fun _ _ _ h => h) (Or.inl ⟨by kernel_rfl, ?hyp30⟩) hHeld ?restp30
  case hyp30 => intro w' hSw; (try dsimp only at hSw); go_simp; try with_reducible rfl
  simp only [Act.put]
  try dsimp only
  refine wpAnyF_ready (rs := [28]) (by kernel_rfl) (by simp) ?_
  refine AllReadyF.cons rfl (fun K hK => ?_) AllReadyF.nil
  go_simp
  refine HH1.out.mono ?_
  rintro e w5x ⟨rfl, rfl⟩
  dsimp only
  refine hK.out _ _ (HS5.out) (fun hHeld => ?_)
  clear hK K
  refine wpAnyF_ready (rs := [35]) (by kernel_rfl) (by simp) ?_
  refine AllReadyF.cons rfl (fun K hK => ?_) AllReadyF.nil
  go_simp
  refine HH2.out.mono ?_
  rintro e w5x ⟨rfl, rfl⟩
  dsimp only
  refine hK.out _ _ (HS5.out) (fun hHeld => ?_)
  clear hK K
  refine wpAnyF_take [38] (by kernel_rfl) (i := 36) (v := ?vp31) rfl (by kernel_rfl) (by kernel_rfl) (by kernel_rfl) (fun _ _ _ h => h) (Or.inl ⟨by kernel_rfl, ?hyp31⟩) hHeld ?restp31
  case hyp31 => intro w' hSw; (try dsimp only at hSw); go_simp; try with_reducible rfl
  simp only [Act.put]
  try dsimp only
  refine wpAnyF_take [38] (by kernel_rfl) (i := 37) (v := ?vp32) rfl (by kernel_rfl) (by kernel_rfl) (by kernel_rfl) (fun _ _ _ h => h) (Or.inl ⟨by kernel_rfl, ?hyp32⟩) hHeld ?restp32
  case hyp32 => intro w' hSw; (try dsimp only at hSw); go_simp; try with_reducible rfl
  simp only [Act.put]
  try dsimp only
  refine wpAnyF_ready (rs := [38]) (by kernel_rfl) (by simp) ?_
  refine AllReadyF.last rfl (fun K hK => ?_)
  go_simp
  refine hK.out _ _ ?_
  clear hK K
  refine wpAnyF_done (by kernel_rfl) ?_ _
  go_wp2_with fail
  go_ret
  exact ⟨rfl, HP⟩
end Go.Proofs.Ytcmkdkocponpiaa
