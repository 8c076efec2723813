import Derived.Test.YtafljgjkcnbhbaaDoorPart19
import Derived.Test.YtafljgjkcnbhbaaDoorPart01
import Derived.Test.YtafljgjkcnbhbaaDoorPart15

/- form of a vector, a list, an option. -/
namespace Go.Proofs.YtafljgjkcnbhbaaDoor
open Go.RowKit
set_option linter.unusedVariables false

theorem fo_kid {fu d L : Nat} {Ls A R : List Nd} {x : Nd} {k : Int} {PA : List (Q × List UInt8)} {i : Nat} (hx : ndE x k d = 0) (hk : x.k = 4 ∨ x.k = 5 ∨ x.k = 6) (hW : WS st0 fu (d + 1) x.k x.kids.toNat A PA) (hL : Ls.length = L) (hd : Ls.drop i = x :: (A ++ R)) :
    ∃ f z A1 PB, f < fu ∧ ndE z x.k (d + 1) = 0 ∧ WS st0 f (d + 1 + 1) z.k z.kids.toNat A1 PB ∧ Ls.drop (i + 1) = z :: (A1 ++ R) ∧ i + 1 < L ∧ (fT z PB).data.toList = txtP PA := by
  rw [nd_kids1 hx hk] at hW
  obtain ⟨f, z, A1, PB, hf, rfl, hz, hW1, rfl⟩ := ws_one (by omega) (by omega) hW
  have hd1 : Ls.drop (i + 1) = z :: (A1 ++ R) := by
    have e : Ls.drop (i + 1) = (Ls.drop i).drop 1 := by rw [List.drop_drop]
    rw [e, hd]
    simp
  exact ⟨f, z, A1, PB, hf, hz, hW1, hd1, by rw [← hL]; exact (at_drop hd1).2, fT_list z PB⟩
set_option maxRecDepth 100000 in
set_option maxHeartbeats 8000000 in
theorem fo_list (fu : Nat) (IH : Hid (∀ f, f < fu → FoOk f)) : FoAt fu (fun k => k = 4 ∨ k = 5) := by
  intro w Ls A R x d k PA a L c i hk hx hW hL hL63 hd HR HT
  obtain ⟨hxi, hiL⟩ := at_drop hd
  rw [hL] at hiL
  obtain ⟨f, z, A1, PB, hf, hz, hW1, hd1, hi1, hPB⟩ := fo_kid hx (by omega) hW hL hd
  obtain ⟨N, hN, hNb⟩ := nd_n hx hk
  obtain ⟨b, off, rfl, hb, hcell⟩ := HR.out.open (by omega)
  have HIH := hide_ (fun (w1 : World) (h1 : Below w.heap.size w w1) => IH.out f hf w1 Ls A1 R z (d + 1) x.k PB (some ⟨b, off, none⟩) L c (i + 1) trivial hz hW1 hL hL63 hd1 (hide_ (HR.out.later h1)) (hide_ (HT.out.at h1)))
  have HIt := hide_ (fun (w1 : World) (h1 : Below w.heap.size w w1) => itoa_any N w1 hNb (HT.out.at h1))
  have HX : Hid (fT x PA = wordT x ++ ⟨#[60]⟩ ++ fT z PB ++ ⟨#[44]⟩ ++ ⟨(dec N).toArray⟩ ++ ⟨#[62]⟩) := hide_ (by
    have h := tx_list hk PA
    rw [← fT_list, hN, ← hPB] at h
    apply ByteArray.ext
    apply Array.toList_inj.1
    rw [h]
    simp only [catD]
    simp)
  rw [HX.out]
  have g := hcell i x hxi
  have n0 := g 0 (by decide); have n1 := g 1 (by decide); have n2 := g 2 (by decide); have n3 := g 3 (by decide); have n4 := g 4 (by decide); have n5 := g 5 (by decide); have n6 := g 6 (by decide)
  clear g
  simp [ndc] at n0 n1 n2 n3 n4 n5 n6
  have htz := fT_len hz hW1 (by have h := congrArg List.length hd1; simp at h; omega)
  clear HX hcell hW hd hL hxi hx HR HT hz hW1 hd1 hPB hf IH hNb
  generalize fT z PB = tz at *
  obtain ⟨k1, N1, nm, lb, tg, kd, at1⟩ := x
  simp only at hk hN n0 n1 n2 n3 n4 n5 n6
  subst hN
  obtain ⟨td, htd⟩ : ∃ td, (⟨(dec N).toArray⟩ : ByteArray) = td := ⟨_, rfl⟩
  have htl : td.size ≤ 20 := by rw [← htd]; exact dec_size N
  rw [htd] at HIt ⊢
  clear htd
  have Hi1 : Hid ((i : Int) + 1 = ((i + 1 : Nat) : Int)) := hide_ (by omega)
  have hi2 := i64w ((i : Int) + 1) (by omega)
  obtain ⟨wA, hwA⟩ : ∃ wA, wA = w.alloc (.cells #[.int .i64 k1, .int .i64 (N : Int), .string nm, .string lb, .int .i64 tg, .int .i64 kd, .int .i64 at1] 38) := ⟨_, rfl⟩
  have KA : Hid (Blk wA w.heap.size 38 [.int .i64 k1, .int .i64 (N : Int), .string nm, .string lb, .int .i64 tg, .int .i64 kd, .int .i64 at1]) := hide_ (by rw [hwA]; exact Blk.newA w #[.int .i64 k1, .int .i64 (N : Int), .string nm, .string lb, .int .i64 tg, .int .i64 kd, .int .i64 at1] 38)
  have HBA : Hid (Below w.heap.size w wA) := hide_ (by rw [hwA]; exact (Below.refl _ _).alloc (Nat.le_refl _) _)
  rcases hk with rfl | rfl
  · go_enter Tryd.func19, Tryd.ntmps19
    go_upto_region 2 with fail
    rw [← hwA]
    clear hwA n0 n1 n2 n3 n4 n5 n6
    have u0 := KA.out.cell 0
    have u1 := KA.out.cell 1
    simp at u0 u1
    go_upto_region 12 with fail
    have HKd : Hid (Blk wA.drew w.heap.size 38 [.int .i64 4, .int .i64 (N : Int), .string nm, .string lb, .int .i64 tg, .int .i64 kd, .int .i64 at1]) := hide_ KA.out.drew
    have HBd : Hid (Below w.heap.size w wA.drew) := hide_ HBA.out.drew
    clear u0 u1
    have c1 : ¬ 9223372036854775807 < 7 + tz.size := by omega
    have c2 : ¬ 9223372036854775807 < 7 + tz.size + 1 := by omega
    have c3 : ¬ 9223372036854775807 < 7 + tz.size + 1 + td.size := by omega
    have c4 : ¬ 9223372036854775807 < 7 + tz.size + 1 + td.size + 1 := by omega
    refine wp_region_last 11 (fun w' => w'.cell? ⟨w.heap.size, 1, none⟩ = some (.int .i64 (N : Int))) (by kernel_rfl) (HKd.out.cell 1) (fun hHeld => ?_)
    refine wpAnyF_take [11] (by kernel_rfl) (i := 0) (v := ?vg12_1) rfl (by kernel_rfl) (by kernel_rfl) (by kernel_rfl) (fun _ _ _ h => h) (Or.inl ⟨by kernel_rfl, ?hyg12_1⟩) hHeld ?restg12_1
    case hyg12_1 => intro w' hSw; (try dsimp only at hSw); go_simp; try with_reducible rfl
    simp only [Act.put]
    try dsimp only
    refine wpAnyF_take [11] (by kernel_rfl) (i := 1) (v := ?vg12_2) rfl (by kernel_rfl) (by kernel_rfl) (by kernel_rfl) (fun _ _ _ h => h) (Or.inl ⟨by kernel_rfl, ?hyg12_2⟩) hHeld ?restg12_2
    case hyg12_2 => intro w' hSw; (try dsimp only at hSw); go_simp; try with_reducible rfl
    simp only [Act.put]
    try dsimp only
    refine wpAnyF_take [11] (by kernel_rfl) (i := 2) (v := ?vg12_3) rfl (by kernel_rfl) (by kernel_rfl) (by kernel_rfl) (fun _ _ _ h => h) (Or.inl ⟨by kernel_rfl, ?hyg12_3⟩) hHeld ?restg12_3
    case hyg12_3 => intro w' hSw; (try dsimp only at hSw); go_simp; try with_reducible rfl
    simp only [Act.put]
    try dsimp only
    refine wpAnyF_take [11] (by kernel_rfl) (i := 6) (v := ?vg12_4) rfl (by kernel_rfl) (by kernel_rfl) (by kernel_rfl) (fun _ _ _ h => h) (Or.inl ⟨by kernel_rfl, ?hyg12_4⟩) hHeld ?restg12_4
    case hyg12_4 => intro w' hSw; (try dsimp only at hSw); go_simp; try with_reducible rfl
    simp only [Act.put]
    try dsimp only
    refine wpAnyF_take [11] (by kernel_rfl) (i := 7) (v := ?vg12_5) rfl (by kernel_rfl) (by kernel_rfl) (by kernel_rfl) (fun _ _ _ h => h) (Or.inl ⟨by kernel_rfl, ?hyg12_5⟩) hHeld ?restg12_5
    case hyg12_5 => intro w' hSw; (try dsimp only at hSw); go_simp; try with_reducible rfl
    simp only [Act.put]
    try dsimp only
    refine wpAnyF_ready (rs := [3]) (by kernel_rfl) (by simp) ?_
    refine AllReadyF.cons rfl (fun K hK => ?_) AllReadyF.nil
    go_simp
    rw [Hi1.out]
    refine (HIH.out _ HBd.out).mono ?_
    rintro e w2 ⟨rfl, hB2⟩
    have HB2 := hide_ (HBd.out.trans (hB2.mono HBd.out.size))
    have HK2 := hide_ (HKd.out.later hB2)
    clear hB2
    dsimp only
    refine hK.out _ _ (HK2.out.cell 1) (fun hHeld => ?_)
    clear hK K
    refine wpAnyF_take [11] (by kernel_rfl) (i := 4) (v := ?vg12_6) rfl (by kernel_rfl) (by kernel_rfl) (by kernel_rfl) (fun _ _ _ h => h) (Or.inl ⟨by kernel_rfl, ?hyg12_6⟩) hHeld ?restg12_6
    case hyg12_6 => intro w' hSw; (try dsimp only at hSw); go_simp; try with_reducible rfl
    simp only [Act.put]
    try dsimp only
    refine wpAnyF_take [11] (by kernel_rfl) (i := 5) (v := ?vg12_7) rfl (by kernel_rfl) (by kernel_rfl) (by kernel_rfl) (fun _ _ _ h => h) (Or.inl ⟨by kernel_rfl, ?hyg12_7⟩) hHeld ?restg12_7
    case hyg12_7 => intro w' hSw; (try dsimp only at hSw); go_simp; try with_reducible rfl
    simp only [Act.put]
    try dsimp only
    refine wpAnyF_ready (rs := [8]) (by kernel_rfl) (by simp) ?_
    refine AllReadyF.cons rfl (fun K hK => ?_) AllReadyF.nil
    go_simp
    refine (HIt.out _ HB2.out).mono ?_
    rintro e w3 ⟨rfl, hB3⟩
    have HB3 := hide_ (HB2.out.trans (hB3.mono HB2.out.size))
    have HK3 := hide_ (HK2.out.later hB3)
    clear hB3
    dsimp only
    refine hK.out _ _ (HK3.out.cell 1) (fun hHeld => ?_)
    clear hK K
    refine wpAnyF_take [11] (by kernel_rfl) (i := 9) (v := ?vg12_8) rfl (by kernel_rfl) (by kernel_rfl) (by kernel_rfl) (fun _ _ _ h => h) (Or.inl ⟨by kernel_rfl, ?hyg12_8⟩) hHeld ?restg12_8
    case hyg12_8 => intro w' hSw; (try dsimp only at hSw); go_simp; try with_reducible rfl
    simp only [Act.put]
    try dsimp only
    refine wpAnyF_take [11] (by kernel_rfl) (i := 10) (v := ?vg12_9) rfl (by kernel_rfl) (by kernel_rfl) (by kernel_rfl) (fun _ _ _ h => h) (Or.inl ⟨by kernel_rfl, ?hyg12_9⟩) hHeld ?restg12_9
    case hyg12_9 => intro w' hSw; (try dsimp only at hSw); go_simp; try with_reducible rfl
    simp only [Act.put]
    try dsimp only
    refine wpAnyF_ready (rs := [11]) (by kernel_rfl) (by simp) ?_
    refine AllReadyF.last rfl (fun K hK => ?_)
    go_simp
    refine hK.out _ _ ?_
    clear hK K
    refine wpAnyF_done (by kernel_rfl) ?_ _
    go_wp2
    go_ret
    exact ⟨rfl, HB3.out⟩
  · go_enter Tryd.func19, Tryd.ntmps19
    go_upto_region 2 with fail
    rw [← hwA]
    clear hwA n0 n1 n2 n3 n4 n5 n6
    have u0 := KA.out.cell 0
    have u1 := KA.out.cell 1
    simp at u0 u1
    go_upto_region 14 with fail
    have HKd : Hid (Blk wA.drew w.heap.size 38 [.int .i64 5, .int .i64 (N : Int), .string nm, .string lb, .int .i64 tg, .int .i64 kd, .int .i64 at1]) := hide_ KA.out.drew
    have HBd : Hid (Below w.heap.size w wA.drew) := hide_ HBA.out.drew
    clear u0 u1
    have c1 : ¬ 9223372036854775807 < 5 + tz.size := by omega
    have c2 : ¬ 9223372036854775807 < 5 + tz.size + 1 := by omega
    have c3 : ¬ 9223372036854775807 < 5 + tz.size + 1 + td.size := by omega
    have c4 : ¬ 9223372036854775807 < 5 + tz.size + 1 + td.size + 1 := by omega
    refine wp_region_last 11 (fun w' => w'.cell? ⟨w.heap.size, 1, none⟩ = some (.int .i64 (N : Int))) (by kernel_rfl) (HKd.out.cell 1) (fun hHeld => ?_)
    refine wpAnyF_take [11] (by kernel_rfl) (i := 0) (v := ?vg14_1) rfl (by kernel_rfl) (by kernel_rfl) (by kernel_rfl) (fun _ _ _ h => h) (Or.inl ⟨by kernel_rfl, ?hyg14_1⟩) hHeld ?restg14_1
    case hyg14_1 => intro w' hSw; (try dsimp only at hSw); go_simp; try with_reducible rfl
    simp only [Act.put]
    try dsimp only
    refine wpAnyF_take [11] (by kernel_rfl) (i := 1) (v := ?vg14_2) rfl (by kernel_rfl) (by kernel_rfl) (by kernel_rfl) (fun _ _ _ h => h) (Or.inl ⟨by kernel_rfl, ?hyg14_2⟩) hHeld ?restg14_2
    case hyg14_2 => intro w' hSw; (try dsimp only at hSw); go_simp; try with_reducible rfl
    simp only [Act.put]
    try dsimp only
    refine wpAnyF_take [11] (by kernel_rfl) (i := 2) (v := ?vg14_3) rfl (by kernel_rfl) (by kernel_rfl) (by kernel_rfl) (fun _ _ _ h => h) (Or.inl ⟨by kernel_rfl, ?hyg14_3⟩) hHeld ?restg14_3
    case hyg14_3 => intro w' hSw; (try dsimp only at hSw); go_simp; try with_reducible rfl
    simp only [Act.put]
    try dsimp only
    refine wpAnyF_take [11] (by kernel_rfl) (i := 6) (v := ?vg14_4) rfl (by kernel_rfl) (by kernel_rfl) (by kernel_rfl) (fun _ _ _ h => h) (Or.inl ⟨by kernel_rfl, ?hyg14_4⟩) hHeld ?restg14_4
    case hyg14_4 => intro w' hSw; (try dsimp only at hSw); go_simp; try with_reducible rfl
    simp only [Act.put]
    try dsimp only
    refine wpAnyF_take [11] (by kernel_rfl) (i := 7) (v := ?vg14_5) rfl (by kernel_rfl) (by kernel_rfl) (by kernel_rfl) (fun _ _ _ h => h) (Or.inl ⟨by kernel_rfl, ?hyg14_5⟩) hHeld ?restg14_5
    case hyg14_5 => intro w' hSw; (try dsimp only at hSw); go_simp; try with_reducible rfl
    simp only [Act.put]
    try dsimp only
    refine wpAnyF_ready (rs := [3]) (by kernel_rfl) (by simp) ?_
    refine AllReadyF.cons rfl (fun K hK => ?_) AllReadyF.nil
    go_simp
    rw [Hi1.out]
    refine (HIH.out _ HBd.out).mono ?_
    rintro e w2 ⟨rfl, hB2⟩
    have HB2 := hide_ (HBd.out.trans (hB2.mono HBd.out.size))
    have HK2 := hide_ (HKd.out.later hB2)
    clear hB2
    dsimp only
    refine hK.out _ _ (HK2.out.cell 1) (fun hHeld => ?_)
    clear hK K
    refine wpAnyF_take [11] (by kernel_rfl) (i := 4) (v := ?vg14_6) rfl (by kernel_rfl) (by kernel_rfl) (by kernel_rfl) (fun _ _ _ h => h) (Or.inl ⟨by kernel_rfl, ?hyg14_6⟩) hHeld ?restg14_6
    case hyg14_6 => intro w' hSw; (try dsimp only at hSw); go_simp; try with_reducible rfl
    simp only [Act.put]
    try dsimp only
    refine wpAnyF_take [11] (by kernel_rfl) (i := 5) (v := ?vg14_7) rfl (by kernel_rfl) (by kernel_rfl) (by kernel_rfl) (fun _ _ _ h => h) (Or.inl ⟨by kernel_rfl, ?hyg14_7⟩) hHeld ?restg14_7
    case hyg14_7 => intro w' hSw; (try dsimp only at hSw); go_simp; try with_reducible rfl
    simp only [Act.put]
    try dsimp only
    refine wpAnyF_ready (rs := [8]) (by kernel_rfl) (by simp) ?_
    refine AllReadyF.cons rfl (fun K hK => ?_) AllReadyF.nil
    go_simp
    refine (HIt.out _ HB2.out).mono ?_
    rintro e w3 ⟨rfl, hB3⟩
    have HB3 := hide_ (HB2.out.trans (hB3.mono HB2.out.size))
    have HK3 := hide_ (HK2.out.later hB3)
    clear hB3
    dsimp only
    refine hK.out _ _ (HK3.out.cell 1) (fun hHeld => ?_)
    clear hK K
    refine wpAnyF_take [11] (by kernel_rfl) (i := 9) (v := ?vg14_8) rfl (by kernel_rfl) (by kernel_rfl) (by kernel_rfl) (fun _ _ _ h => h) (Or.inl ⟨by kernel_rfl, ?hyg14_8⟩) hHeld ?restg14_8
    case hyg14_8 => intro w' hSw; (try dsimp only at hSw); go_simp; try with_reducible rfl
    simp only [Act.put]
    try dsimp only
    refine wpAnyF_take [11] (by kernel_rfl) (i := 10) (v := ?vg14_9) rfl (by kernel_rfl) (by kernel_rfl) (by kernel_rfl) (fun _ _ _ h => h) (Or.inl ⟨by kernel_rfl, ?hyg14_9⟩) hHeld ?restg14_9
    case hyg14_9 => intro w' hSw; (try dsimp only at hSw); go_simp; try with_reducible rfl
    simp only [Act.put]
    try dsimp only
    refine wpAnyF_ready (rs := [11]) (by kernel_rfl) (by simp) ?_
    refine AllReadyF.last rfl (fun K hK => ?_)
    go_simp
    refine hK.out _ _ ?_
    clear hK K
    refine wpAnyF_done (by kernel_rfl) ?_ _
    go_wp2
    go_ret
    exact ⟨rfl, HB3.out⟩
set_option maxRecDepth 100000 in
set_option maxHeartbeats 8000000 in
theorem fo_opt (fu : Nat) (IH : Hid (∀ f, f < fu → FoOk f)) : FoAt fu (fun k => k = 6) := by
  intro w Ls A R x d k PA a L c i hk hx hW hL hL63 hd HR HT
  obtain ⟨hxi, hiL⟩ := at_drop hd
  rw [hL] at hiL
  obtain ⟨f, z, A1, PB, hf, hz, hW1, hd1, hi1, hPB⟩ := fo_kid hx (by omega) hW hL hd
  obtain ⟨b, off, rfl, hb, hcell⟩ := HR.out.open (by omega)
  have HIH := hide_ (fun (w1 : World) (h1 : Below w.heap.size w w1) => IH.out f hf w1 Ls A1 R z (d + 1) x.k PB (some ⟨b, off, none⟩) L c (i + 1) trivial hz hW1 hL hL63 hd1 (hide_ (HR.out.later h1)) (hide_ (HT.out.at h1)))
  have HX : Hid (fT x PA = wordT x ++ ⟨#[60]⟩ ++ fT z PB ++ ⟨#[62]⟩) := hide_ (by
    have h := tx_opt hk PA
    rw [← fT_list, ← hPB] at h
    apply ByteArray.ext
    apply Array.toList_inj.1
    rw [h]
    simp only [catD]
    simp)
  rw [HX.out]
  have g := hcell i x hxi
  have n0 := g 0 (by decide); have n1 := g 1 (by decide); have n2 := g 2 (by decide); have n3 := g 3 (by decide); have n4 := g 4 (by decide); have n5 := g 5 (by decide); have n6 := g 6 (by decide)
  clear g
  simp [ndc] at n0 n1 n2 n3 n4 n5 n6
  have htz := fT_len hz hW1 (by have h := congrArg List.length hd1; simp at h; omega)
  clear HX hcell hW hd hL hxi hx HR HT hz hW1 hd1 hPB hf IH
  generalize fT z PB = tz at *
  obtain ⟨k1, N1, nm, lb, tg, kd, at1⟩ := x
  simp only at hk n0 n1 n2 n3 n4 n5 n6
  subst hk
  have Hi1 : Hid ((i : Int) + 1 = ((i + 1 : Nat) : Int)) := hide_ (by omega)
  have hi2 := i64w ((i : Int) + 1) (by omega)
  obtain ⟨wA, hwA⟩ : ∃ wA, wA = w.alloc (.cells #[.int .i64 6, .int .i64 N1, .string nm, .string lb, .int .i64 tg, .int .i64 kd, .int .i64 at1] 38) := ⟨_, rfl⟩
  have KA : Hid (Blk wA w.heap.size 38 [.int .i64 6, .int .i64 N1, .string nm, .string lb, .int .i64 tg, .int .i64 kd, .int .i64 at1]) := hide_ (by rw [hwA]; exact Blk.newA w #[.int .i64 6, .int .i64 N1, .string nm, .string lb, .int .i64 tg, .int .i64 kd, .int .i64 at1] 38)
  have HBA : Hid (Below w.heap.size w wA) := hide_ (by rw [hwA]; exact (Below.refl _ _).alloc (Nat.le_refl _) _)
  go_enter Tryd.func19, Tryd.ntmps19
  go_upto_region 2 with fail
  rw [← hwA]
  clear hwA n0 n1 n2 n3 n4 n5 n6
  have u0 := KA.out.cell 0
  simp at u0
  have c1 : ¬ 9223372036854775807 < 7 + tz.size := by omega
  have c2 : ¬ 9223372036854775807 < 7 + tz.size + 1 := by omega
  go_wp2_with fail
  rw [Hi1.out]
  refine (HIH.out _ HBA.out).mono ?_; rintro e w2 ⟨rfl, hB2⟩
  have HB2 := hide_ (HBA.out.trans (hB2.mono HBA.out.size))
  go_wp2
  go_ret
  exact ⟨rfl, HB2.out⟩
end Go.Proofs.YtafljgjkcnbhbaaDoor

/- form of a union, a struct. -/
namespace Go.Proofs.YtafljgjkcnbhbaaDoor
open Go.RowKit
set_option linter.unusedVariables false

theorem PtR.fit {k : Int} {d fu n i : Nat} {T Fi : List UInt8} {Rm : List Nd} (h : PtR k d fu n T i Rm Fi) : Fi.length ≤ T.length := by
  rcases h with ⟨_, rfl, _⟩ | ⟨_, f, P, _, _, rfl⟩
  · exact Nat.le_refl _
  · simp
/-- The text so far: the first part's comma is none. -/
def outF (F Fi : List UInt8) (j : Nat) (bs : ByteArray) : Prop := bs.data.toList = (if j = 0 then F ++ [123] else Fi) ∧ (j = 0 → Fi = F)
theorem outF.next {F Fi : List UInt8} {j : Nat} {bs hs ts : ByteArray} (h : outF F Fi j bs) : outF F (Fi ++ ((bef j).data.toList ++ (hs.data.toList ++ [58])) ++ ts.data.toList) (j + 1) (if j = 0 then bs ++ hs ++ ⟨#[58]⟩ ++ ts else bs ++ ⟨#[44]⟩ ++ hs ++ ⟨#[58]⟩ ++ ts) := by
  refine ⟨?_, fun e => by omega⟩
  rw [if_neg (by omega : ¬ j + 1 = 0)]
  obtain ⟨h1, h2⟩ := h
  by_cases hj : j = 0
  · rw [if_pos hj] at h1 ⊢
    simp only [catD, h1, h2 hj]
    simp [bef, hj]
  · rw [if_neg hj] at h1 ⊢
    simp only [catD, h1]
    simp [bef, hj]
set_option maxRecDepth 100000 in
set_option maxHeartbeats 16000000 in
theorem fo_parts (fu : Nat) (IH : Hid (∀ f, f < fu → FoOk f)) : FoAt fu (fun k => k = 7 ∨ k = 8) := by
  intro w Ls A R x d k PA a L c i hk hx hW hL hL63 hd HR HT
  obtain ⟨hxi, hiL⟩ := at_drop hd
  rw [hL] at hiL
  obtain ⟨n, hkn, hn0, hn64⟩ := nd_kidsn hx hk
  have hnt : x.kids.toNat = n := by omega
  rw [hnt] at hW
  obtain ⟨b, off, rfl, hb, hcell⟩ := HR.out.open (by omega)
  obtain ⟨F, hF⟩ : ∃ F, (wordT x).data.toList = F := ⟨_, rfl⟩
  obtain ⟨T, hT⟩ : ∃ T, F ++ ([123] ++ txtP PA) = T := ⟨_, rfl⟩
  have hS := PtR.start F hn0 hW
  rw [hT] at hS
  have HS0 := hide_ hS
  have HX : Hid (∀ bs : ByteArray, bs.data.toList = T → bs ++ ⟨#[125]⟩ = fT x PA) := hide_ (fun bs h => by
    have h2 := tx_parts hk PA
    rw [← fT_list, hF] at h2
    apply ByteArray.ext
    apply Array.toList_inj.1
    rw [h2, catD, h, ← hT]
    simp)
  have HTl : Hid (T.length ≤ 700000000000000) := hide_ (by
    have h1 := ws_len _ _ _ _ _ _ hW
    have h2 := nd_wsize hx
    have h3 := congrArg List.length hd
    rw [Lib.size_eq, hF] at h2
    rw [← hT]
    simp at h3 ⊢
    omega)
  have hd1 : Ls.drop (i + 1) = A ++ R := by
    have e : Ls.drop (i + 1) = (Ls.drop i).drop 1 := by rw [List.drop_drop]
    rw [e, hd]
    simp
  have HD0 := hide_ hd1
  have HLs := hide_ hL
  have HHc : Hid (∀ (p : Nat) (z : Nd) (w1 : World), Below w.heap.size w w1 → Ls[p]? = some z → ∀ j, j < 7 → w1.cell? ⟨b, off + p * 7 + j, none⟩ = (ndc z)[j]?) := hide_ (fun p z w1 h1 hz j hj => (h1.cell (p := ⟨b, off + p * 7 + j, none⟩) hb).trans (hcell p z hz j hj))
  have g := hcell i x hxi
  have n0 := g 0 (by decide); have n1 := g 1 (by decide); have n2 := g 2 (by decide); have n3 := g 3 (by decide); have n4 := g 4 (by decide); have n5 := g 5 (by decide); have n6 := g 6 (by decide)
  clear g
  simp [ndc] at n0 n1 n2 n3 n4 n5 n6
  have hWd : (x.k = 7 → F = [117, 110, 105, 111, 110]) ∧ (x.k = 8 → F = [115, 116, 114, 117, 99, 116]) := ⟨fun e => by rw [← hF]; simp [wordT, e], fun e => by rw [← hF]; simp [wordT, e]⟩
  clear hcell hW hd hd1 hL hxi hx hb hnt hS hT hF
  generalize fT x PA = tx at *
  obtain ⟨k1, N1, nm, lb, tg, kd, at1⟩ := x
  simp only at hk hkn hWd HS0 n0 n1 n2 n3 n4 n5 n6
  subst hkn
  obtain ⟨wA, hwA⟩ : ∃ wA, wA = w.alloc (.cells #[.int .i64 k1, .int .i64 N1, .string nm, .string lb, .int .i64 tg, .int .i64 (n : Int), .int .i64 at1] 38) := ⟨_, rfl⟩
  have KA : Hid (Blk wA w.heap.size 38 [.int .i64 k1, .int .i64 N1, .string nm, .string lb, .int .i64 tg, .int .i64 (n : Int), .int .i64 at1]) := hide_ (by rw [hwA]; exact Blk.newA w #[.int .i64 k1, .int .i64 N1, .string nm, .string lb, .int .i64 tg, .int .i64 (n : Int), .int .i64 at1] 38)
  have HBA : Hid (Below w.heap.size w wA) := hide_ (by rw [hwA]; exact (Below.refl _ _).alloc (Nat.le_refl _) _)
  rcases hk with rfl | rfl
  · obtain rfl := hWd.1 rfl
    go_enter Tryd.func19, Tryd.ntmps19
    go_upto_region 2 with fail
    rw [← hwA]
    clear hwA n0 n1 n2 n3 n4 n5 n6 hWd
    have u0 := KA.out.cell 0
    simp at u0
    go_wp2_with fail
    clear u0
    go_loopw [6, 7, 8] (fun x6 x7 x8 wr => ∃ (j p : Nat) (Rm : List Nd) (Fi : List UInt8) (bs : ByteArray), j ≤ n ∧ p ≤ L ∧ x6 = .string bs ∧ x7 = .int .i64 (p : Int) ∧ x8 = .int .i64 (j : Int) ∧ Hid (outF [117, 110, 105, 111, 110] Fi j bs) ∧ Hid (PtR 7 (d + 1) fu n T j Rm Fi) ∧ Hid (Ls.drop p = Rm ++ R) ∧ Hid (Below w.heap.size w wr) ∧ Hid (Blk wr w.heap.size 38 [.int .i64 7, .int .i64 N1, .string nm, .string lb, .int .i64 tg, .int .i64 (n : Int), .int .i64 at1])) (fun _ _ x8 _ => n - (intOf x8).toNat)
    case atStart => exact ⟨0, i + 1, A, _, ⟨#[117, 110, 105, 111, 110, 123]⟩, Nat.zero_le _, by omega, rfl, by go_num, rfl, hide_ ⟨rfl, fun _ => rfl⟩, HS0, HD0, HBA, KA⟩
    case round =>
      clear HS0 HD0 HBA KA
      obtain ⟨j, p, Rm, Fi, bs, hj, hp, rfl, rfl, rfl, HO, HS, HD, HB, HK⟩ := hrel
      generalize wr = wq at *
      have hbz : bs.size ≤ 800000000000000 := by
        have h1 := HO.out.1
        have h2 := HS.out.fit
        have h3 := HTl.out
        rw [Lib.size_eq, h1]
        split
        · simp
        · omega
      have u0 := HK.out.cell 0
      have u5 := HK.out.cell 5
      simp at u0 u5
      by_cases hlt : j < n
      · have hlt' : (j : Int) < n := by omega
        obtain ⟨f, z, A1, B1, PA1, hf, hRm, hz, hW1, hS2⟩ := HS.out.step (.inl rfl) hlt
        subst hRm
        have hdz : Ls.drop p = z :: (A1 ++ (B1 ++ R)) := by rw [HD.out]; simp
        obtain ⟨hzi, hpL⟩ := at_drop hdz
        rw [HLs.out] at hpL
        have hD2 : Ls.drop (p + 1 + A1.length) = B1 ++ R := by
          have e : Ls.drop (p + 1 + A1.length) = (Ls.drop p).drop (1 + A1.length) := by rw [List.drop_drop]; congr 1; omega
          rw [e, hdz, Nat.add_comm 1]
          simp
        have hp2 : p + 1 + A1.length ≤ L := by have h := congrArg List.length hdz; have := HLs.out; simp at h; omega
        obtain ⟨m, hm, hmb⟩ : ∃ m : Nat, z.tag = (m : Int) ∧ m ≤ 2147483647 := by have h3 := of_decide_eq_true (nd_tag hz); exact ⟨z.tag.toNat, by omega, by omega⟩
        have HIt := hide_ (fun (w1 : World) (h1 : Below w.heap.size w w1) => itoa_any m w1 hmb (HT.out.at h1))
        have HFo := hide_ (fun (w1 : World) (h1 : Below w.heap.size w w1) => IH.out f hf w1 Ls A1 (B1 ++ R) z (d + 1) 7 PA1 (some ⟨b, off, none⟩) L c p trivial hz hW1 HLs.out hL63 hdz (hide_ (HR.out.later h1)) (hide_ (HT.out.at h1)))
        have HBh := hide_ (fun (w1 : World) (h1 : Below w.heap.size w w1) => behind_any f w1 Ls A1 (B1 ++ R) z (d + 1) 7 PA1 (some ⟨b, off, none⟩) L c p hz hW1 HLs.out (by omega) hdz (hide_ (HR.out.later h1)))
        have HO2 : Hid (outF [117, 110, 105, 111, 110] (Fi ++ ((bef j).data.toList ++ ((⟨(dec m).toArray⟩ : ByteArray).data.toList ++ [58])) ++ (fT z PA1).data.toList) (j + 1) (if j = 0 then bs ++ ⟨(dec m).toArray⟩ ++ ⟨#[58]⟩ ++ fT z PA1 else bs ++ ⟨#[44]⟩ ++ ⟨(dec m).toArray⟩ ++ ⟨#[58]⟩ ++ fT z PA1)) := hide_ HO.out.next
        have HS2 : Hid (PtR 7 (d + 1) fu n T (j + 1) B1 (Fi ++ ((bef j).data.toList ++ ((⟨(dec m).toArray⟩ : ByteArray).data.toList ++ [58])) ++ (fT z PA1).data.toList)) := hide_ (by
          rw [fT_list]
          have e : hdX 7 z = ⟨(dec m).toArray⟩ := by unfold hdX; rw [if_pos rfl, hm]; rfl
          rw [← e]
          exact hS2)
        have htz := fT_len hz hW1 (by have h := congrArg List.length hdz; have := HLs.out; simp at h; omega)
        have HD2 := hide_ hD2
        have y4 := HHc.out p z wq HB.out hzi 4 (by decide)
        simp [ndc] at y4
        rw [hm] at y4
        clear hS2 hD2 hdz hz hW1 hf hzi hm hmb HS HD HO
        generalize fT z PA1 = tz at *
        have htd : (⟨(dec m).toArray⟩ : ByteArray).size ≤ 20 := dec_size m
        generalize (⟨(dec m).toArray⟩ : ByteArray) = td at *
        by_cases hj0 : j = 0
        · subst hj0
          rw [if_pos rfl] at HO2
          have c1 : ¬ 9223372036854775807 < bs.size + td.size := by omega
          have c2 : ¬ 9223372036854775807 < bs.size + td.size + 1 := by omega
          have c3 : ¬ 9223372036854775807 < bs.size + td.size + 1 + tz.size := by omega
          go_wp2_with fail
          refine (HIt.out _ HB.out).mono ?_; rintro e w2 ⟨rfl, hB2⟩
          have HB2 := hide_ (HB.out.trans (hB2.mono HB.out.size))
          have HK2 := hide_ (HK.out.later hB2)
          clear u0 u5 y4 hB2 HK HIt
          go_wp2_with fail
          refine (HFo.out _ HB2.out).mono ?_; rintro e w3 ⟨rfl, hB3⟩
          have HB3 := hide_ (HB2.out.trans (hB3.mono HB2.out.size))
          have HK3 := hide_ (HK2.out.later hB3)
          clear hB3 HK2 HFo
          go_wp2_with fail
          refine (HBh.out _ HB3.out).mono ?_; rintro e w4 ⟨rfl, hB4⟩
          have HB4 := hide_ (HB3.out.trans (hB4.mono HB3.out.size))
          have HK4 := hide_ (HK3.out.later hB4)
          clear hB4 HK3 HBh
          go_wp2
          go_roundw
          case rel => exact ⟨1, _, B1, _, _, by omega, hp2, rfl, rfl, by go_num, HO2, HS2, HD2, HB4, HK4⟩
          case measure => simp [intOf]; omega
        · rw [if_neg hj0] at HO2
          have c1 : ¬ 9223372036854775807 < bs.size + 1 := by omega
          have c2 : ¬ 9223372036854775807 < bs.size + 1 + td.size := by omega
          have c3 : ¬ 9223372036854775807 < bs.size + 1 + td.size + 1 := by omega
          have c4 : ¬ 9223372036854775807 < bs.size + 1 + td.size + 1 + tz.size := by omega
          have hj0' : (0 : Int) < (j : Int) := by omega
          go_wp2_with fail
          refine (HIt.out _ HB.out).mono ?_; rintro e w2 ⟨rfl, hB2⟩
          have HB2 := hide_ (HB.out.trans (hB2.mono HB.out.size))
          have HK2 := hide_ (HK.out.later hB2)
          clear u0 u5 y4 hB2 HK HIt
          go_wp2_with fail
          refine (HFo.out _ HB2.out).mono ?_; rintro e w3 ⟨rfl, hB3⟩
          have HB3 := hide_ (HB2.out.trans (hB3.mono HB2.out.size))
          have HK3 := hide_ (HK2.out.later hB3)
          clear hB3 HK2 HFo
          go_wp2_with fail
          refine (HBh.out _ HB3.out).mono ?_; rintro e w4 ⟨rfl, hB4⟩
          have HB4 := hide_ (HB3.out.trans (hB4.mono HB3.out.size))
          have HK4 := hide_ (HK3.out.later hB4)
          clear hB4 HK3 HBh
          go_wp2
          go_roundw
          case rel => exact ⟨j + 1, _, B1, _, _, by omega, hp2, rfl, rfl, by go_num, HO2, HS2, HD2, HB4, HK4⟩
          case measure => simp [intOf]; omega
      · obtain rfl : j = n := by omega
        obtain ⟨rfl, -⟩ := HS.out.done
        have h1 := HX.out bs (by have h := HO.out.1; rw [if_neg (by omega)] at h; exact h)
        have c1 : ¬ 9223372036854775807 < bs.size + 1 := by omega
        clear HS HO HX
        go_wp2
        go_ret
        subst h1
        exact ⟨rfl, HB.out⟩
  · obtain rfl := hWd.2 rfl
    go_enter Tryd.func19, Tryd.ntmps19
    go_upto_region 2 with fail
    rw [← hwA]
    clear hwA n0 n1 n2 n3 n4 n5 n6 hWd
    have u0 := KA.out.cell 0
    simp at u0
    go_wp2_with fail
    clear u0
    go_loopw [6, 7, 8] (fun x6 x7 x8 wr => ∃ (j p : Nat) (Rm : List Nd) (Fi : List UInt8) (bs : ByteArray), j ≤ n ∧ p ≤ L ∧ x6 = .string bs ∧ x7 = .int .i64 (p : Int) ∧ x8 = .int .i64 (j : Int) ∧ Hid (outF [115, 116, 114, 117, 99, 116] Fi j bs) ∧ Hid (PtR 8 (d + 1) fu n T j Rm Fi) ∧ Hid (Ls.drop p = Rm ++ R) ∧ Hid (Below w.heap.size w wr) ∧ Hid (Blk wr w.heap.size 38 [.int .i64 8, .int .i64 N1, .string nm, .string lb, .int .i64 tg, .int .i64 (n : Int), .int .i64 at1])) (fun _ _ x8 _ => n - (intOf x8).toNat)
    case atStart => exact ⟨0, i + 1, A, _, ⟨#[115, 116, 114, 117, 99, 116, 123]⟩, Nat.zero_le _, by omega, rfl, by go_num, rfl, hide_ ⟨rfl, fun _ => rfl⟩, HS0, HD0, HBA, KA⟩
    case round =>
      clear HS0 HD0 HBA KA
      obtain ⟨j, p, Rm, Fi, bs, hj, hp, rfl, rfl, rfl, HO, HS, HD, HB, HK⟩ := hrel
      generalize wr = wq at *
      have hbz : bs.size ≤ 800000000000000 := by
        have h1 := HO.out.1
        have h2 := HS.out.fit
        have h3 := HTl.out
        rw [Lib.size_eq, h1]
        split
        · simp
        · omega
      have u0 := HK.out.cell 0
      have u5 := HK.out.cell 5
      simp at u0 u5
      by_cases hlt : j < n
      · have hlt' : (j : Int) < n := by omega
        obtain ⟨f, z, A1, B1, PA1, hf, hRm, hz, hW1, hS2⟩ := HS.out.step (.inr rfl) hlt
        subst hRm
        have hdz : Ls.drop p = z :: (A1 ++ (B1 ++ R)) := by rw [HD.out]; simp
        obtain ⟨hzi, hpL⟩ := at_drop hdz
        rw [HLs.out] at hpL
        have hD2 : Ls.drop (p + 1 + A1.length) = B1 ++ R := by
          have e : Ls.drop (p + 1 + A1.length) = (Ls.drop p).drop (1 + A1.length) := by rw [List.drop_drop]; congr 1; omega
          rw [e, hdz, Nat.add_comm 1]
          simp
        have hp2 : p + 1 + A1.length ≤ L := by have h := congrArg List.length hdz; have := HLs.out; simp at h; omega
        have HFo := hide_ (fun (w1 : World) (h1 : Below w.heap.size w w1) => IH.out f hf w1 Ls A1 (B1 ++ R) z (d + 1) 8 PA1 (some ⟨b, off, none⟩) L c p trivial hz hW1 HLs.out hL63 hdz (hide_ (HR.out.later h1)) (hide_ (HT.out.at h1)))
        have HBh := hide_ (fun (w1 : World) (h1 : Below w.heap.size w w1) => behind_any f w1 Ls A1 (B1 ++ R) z (d + 1) 8 PA1 (some ⟨b, off, none⟩) L c p hz hW1 HLs.out (by omega) hdz (hide_ (HR.out.later h1)))
        have HO2 : Hid (outF [115, 116, 114, 117, 99, 116] (Fi ++ ((bef j).data.toList ++ (z.label.data.toList ++ [58])) ++ (fT z PA1).data.toList) (j + 1) (if j = 0 then bs ++ z.label ++ ⟨#[58]⟩ ++ fT z PA1 else bs ++ ⟨#[44]⟩ ++ z.label ++ ⟨#[58]⟩ ++ fT z PA1)) := hide_ HO.out.next
        have HS2 : Hid (PtR 8 (d + 1) fu n T (j + 1) B1 (Fi ++ ((bef j).data.toList ++ (z.label.data.toList ++ [58])) ++ (fT z PA1).data.toList)) := hide_ (by
          rw [fT_list]
          have e : hdX 8 z = z.label := by unfold hdX; rw [if_neg (by decide)]
          rw [← e]
          exact hS2)
        have htz := fT_len hz hW1 (by have h := congrArg List.length hdz; have := HLs.out; simp at h; omega)
        have hlb : z.label.size ≤ 100 := by have h := hd_size hz (.inr rfl); unfold hdX at h; rw [if_neg (by decide)] at h; exact h
        have HD2 := hide_ hD2
        have y3 := HHc.out p z wq HB.out hzi 3 (by decide)
        simp [ndc] at y3
        clear hS2 hD2 hdz hz hW1 hf hzi HS HD HO
        generalize fT z PA1 = tz at *
        by_cases hj0 : j = 0
        · subst hj0
          rw [if_pos rfl] at HO2
          have c1 : ¬ 9223372036854775807 < bs.size + z.label.size := by omega
          have c2 : ¬ 9223372036854775807 < bs.size + z.label.size + 1 := by omega
          have c3 : ¬ 9223372036854775807 < bs.size + z.label.size + 1 + tz.size := by omega
          go_wp2_with fail
          refine (HFo.out _ HB.out).mono ?_; rintro e w3 ⟨rfl, hB3⟩
          have HB3 := hide_ (HB.out.trans (hB3.mono HB.out.size))
          have HK3 := hide_ (HK.out.later hB3)
          clear u0 u5 y3 hB3 HK HFo
          go_wp2_with fail
          refine (HBh.out _ HB3.out).mono ?_; rintro e w4 ⟨rfl, hB4⟩
          have HB4 := hide_ (HB3.out.trans (hB4.mono HB3.out.size))
          have HK4 := hide_ (HK3.out.later hB4)
          clear hB4 HK3 HBh
          go_wp2
          go_roundw
          case rel => exact ⟨1, _, B1, _, _, by omega, hp2, rfl, rfl, by go_num, HO2, HS2, HD2, HB4, HK4⟩
          case measure => simp [intOf]; omega
        · rw [if_neg hj0] at HO2
          have c1 : ¬ 9223372036854775807 < bs.size + 1 := by omega
          have c2 : ¬ 9223372036854775807 < bs.size + 1 + z.label.size := by omega
          have c3 : ¬ 9223372036854775807 < bs.size + 1 + z.label.size + 1 := by omega
          have c4 : ¬ 9223372036854775807 < bs.size + 1 + z.label.size + 1 + tz.size := by omega
          have hj0' : (0 : Int) < (j : Int) := by omega
          go_wp2_with fail
          refine (HFo.out _ HB.out).mono ?_; rintro e w3 ⟨rfl, hB3⟩
          have HB3 := hide_ (HB.out.trans (hB3.mono HB.out.size))
          have HK3 := hide_ (HK.out.later hB3)
          clear u0 u5 y3 hB3 HK HFo
          go_wp2_with fail
          refine (HBh.out _ HB3.out).mono ?_; rintro e w4 ⟨rfl, hB4⟩
          have HB4 := hide_ (HB3.out.trans (hB4.mono HB3.out.size))
          have HK4 := hide_ (HK3.out.later hB4)
          clear hB4 HK3 HBh
          go_wp2
          go_roundw
          case rel => exact ⟨j + 1, _, B1, _, _, by omega, hp2, rfl, rfl, by go_num, HO2, HS2, HD2, HB4, HK4⟩
          case measure => simp [intOf]; omega
      · obtain rfl : j = n := by omega
        obtain ⟨rfl, -⟩ := HS.out.done
        have h1 := HX.out bs (by have h := HO.out.1; rw [if_neg (by omega)] at h; exact h)
        have c1 : ¬ 9223372036854775807 < bs.size + 1 := by omega
        clear HS HO HX
        go_wp2
        go_ret
        subst h1
        exact ⟨rfl, HB.out⟩
theorem form_any (fu : Nat) : FoOk fu := Nat.strongRecOn fu (fun f ih => by
  intro w Ls A R x d k PA a L c i _ hx hW hL hL63 hd HR HT
  rcases nd_kinds hx with e | e | e | e | e | e | e | e | e
  · exact fo_leaf f w Ls A R x d k PA a L c i (.inl e) hx hW hL hL63 hd HR HT
  · exact fo_leaf f w Ls A R x d k PA a L c i (.inr (.inl e)) hx hW hL hL63 hd HR HT
  · exact fo_leaf f w Ls A R x d k PA a L c i (.inr (.inr (.inl e))) hx hW hL hL63 hd HR HT
  · exact fo_list f (hide_ ih) w Ls A R x d k PA a L c i (.inl e) hx hW hL hL63 hd HR HT
  · exact fo_list f (hide_ ih) w Ls A R x d k PA a L c i (.inr e) hx hW hL hL63 hd HR HT
  · exact fo_opt f (hide_ ih) w Ls A R x d k PA a L c i e hx hW hL hL63 hd HR HT
  · exact fo_parts f (hide_ ih) w Ls A R x d k PA a L c i (.inl e) hx hW hL hL63 hd HR HT
  · exact fo_parts f (hide_ ih) w Ls A R x d k PA a L c i (.inr e) hx hW hL hL63 hd HR HT
  · exact fo_leaf f w Ls A R x d k PA a L c i (.inr (.inr (.inr e))) hx hW hL hL63 hd HR HT)
end Go.Proofs.YtafljgjkcnbhbaaDoor

/- The document's Print. -/
namespace Go.Proofs.YtafljgjkcnbhbaaDoor
open Go.RowKit
set_option linter.unusedVariables false

set_option maxRecDepth 100000 in
set_option maxHeartbeats 16000000 in
theorem printD_any (a : Option Addr) (c : Nat) (D : List Df) (w : World) (hL : Hid (Wt D)) (r : Hid (DRow w a D)) (ht : Hid (Tab w.heap.size w)) :
    Calls Tryd.prog 9 #[.agg #[.slice a D.length c]] w fun e w' => ∃ X k, e = .returned (.tuple #[.string X, .int .i64 k]) ∧ Hid (PrT D X k) ∧ Hid (Below w.heap.size w w') := by
  have hD : D.length ≤ 2932031007401 := hL.out.1
  obtain ⟨w1, hw1⟩ : ∃ wx, wx = w.alloc (.cells #[.slice a D.length c] 24) := ⟨_, rfl⟩
  have HK1 : Hid (Blk w1 w.heap.size 24 [.slice a D.length c]) := hide_ (by rw [hw1]; exact Blk.newA w #[.slice a D.length c] 24)
  have HB1 : Hid (Below w.heap.size w w1) := hide_ (by rw [hw1]; exact (Below.refl _ _).alloc (Nat.le_refl _) _)
  have HCk := hide_ (checkD_any a c D w1 hL (hide_ (r.out.later HB1.out)))
  go_enter Tryd.func9, Tryd.ntmps9
  go_upto_region 1 with fail
  rw [← hw1]
  clear hw1
  have x0 := HK1.out.cell 0
  simp at x0
  go_wp2_with fail
  refine HCk.out.mono ?_; rintro e w2 ⟨rfl, hB2⟩
  have HB2 := hide_ (HB1.out.trans (hB2.mono HB1.out.size))
  have HK2 := hide_ (HK1.out.later hB2)
  clear hB2 HB1 HCk x0 HK1
  obtain ⟨E, hE⟩ : ∃ E, (ckP D).2.2 = E := ⟨_, rfl⟩
  have HE := hide_ hE
  rw [hE]
  clear hE
  by_cases hE0 : E = 0
  · subst hE0
    obtain ⟨hD256, hall⟩ := ckP_all HE.out
    obtain ⟨P, hP⟩ := wds_of st0 D hall
    have HP := hide_ hP
    have HAll := hide_ hall
    have HS0 : Hid (DpR D (txtP P) 0 []) := hide_ ⟨P, hP, rfl⟩
    clear hP hall hD256
    go_wp2_with fail
    go_loopw [7, 8] (fun x7 x8 wr => ∃ (i : Nat) (bs : ByteArray), i ≤ D.length ∧ x7 = .string bs ∧ x8 = .int .i64 (i : Int) ∧ Hid (bs.data.toList.length ≤ 65536) ∧ Hid (DpR D (txtP P) i bs.data.toList) ∧ Hid (Below w.heap.size w wr) ∧ Hid (Blk wr w.heap.size 24 [.slice a D.length c])) (fun _ x8 _ => D.length - (intOf x8).toNat)
    case atStart => exact ⟨0, ⟨#[]⟩, Nat.zero_le _, rfl, rfl, hide_ (by decide), HS0, HB2, HK2⟩
    case round =>
      clear HS0 HB2 HK2
      obtain ⟨i, bs, hi, rfl, rfl, Hsz, HS, HB, HK⟩ := hrel
      generalize wr = wq at *
      have x0 := HK.out.cell 0
      simp at x0
      by_cases hlt : i < D.length
      · have hlt' : (i : Int) < D.length := by omega
        have hx : D[i]? = some (D[i]'hlt) := List.getElem?_eq_getElem hlt
        obtain ⟨b, o, rfl, hb, hc⟩ := r.out.open (by omega)
        obtain ⟨va, vc, hcx, hvc, -, hN⟩ := hc i _ hx
        have hty2 : (D[i]'hlt).ty.length ≤ 1954687338267 := hL.out.2 _ (List.getElem_mem hlt)
        have hnm2 := (of_decide_eq_true (show isName (D[i]'hlt).name = true from (HAll.out _ (List.getElem_mem hlt)).1)).2.1
        have hbz : bs.size ≤ 65536 := by rw [Lib.size_eq]; exact Hsz.out
        obtain ⟨f, z, A1, PA, hdt, hz, hW, hS2⟩ := HS.out.step hx
        generalize D[i]'hlt = d at *
        have i0 := hcx 0 (by decide); have i2 := hcx 2 (by decide)
        clear hcx hc
        simp [dfc] at i0 i2
        have HCl : Hid (∀ w', Below w.heap.size w w' → Blk w' w.heap.size 24 [.slice (some ⟨b, o, none⟩) D.length c] → (fun w' => w'.cell? ⟨w.heap.size, 0, none⟩ = some (.slice (some ⟨b, o, none⟩) D.length c) ∧ w'.cell? ⟨b, o + i * 3, none⟩ = some (.string d.name) ∧ w'.cell? ⟨b, o + i * 3 + 2, none⟩ = some (.slice va d.ty.length vc)) w') := hide_ (fun w' h1 h2 => ⟨h2.cell 0, (h1.cell (p := ⟨b, o + i * 3, none⟩) hb).trans i0, (h1.cell (p := ⟨b, o + i * 3 + 2, none⟩) hb).trans i2⟩)
        have hKl : ∀ w', Below wq.heap.size wq w' → Blk w' w.heap.size 24 [.slice (some ⟨b, o, none⟩) D.length c] := fun w' h1 => HK.out.later h1
        have HBd : Hid (Below wq.heap.size wq wq.drew) := hide_ ((Below.refl _ _).drew)
        have HCl : Hid (∀ w', Below wq.heap.size wq w' → (fun w' => w'.cell? ⟨w.heap.size, 0, none⟩ = some (.slice (some ⟨b, o, none⟩) D.length c) ∧ w'.cell? ⟨b, o + i * 3, none⟩ = some (.string d.name) ∧ w'.cell? ⟨b, o + i * 3 + 2, none⟩ = some (.slice va d.ty.length vc)) w') := hide_ (fun w' h1 => HCl.out w' (HB.out.trans (h1.mono HB.out.size)) (hKl w' h1))
        have HFo : Hid (∀ w', Below wq.heap.size wq w' → Calls Tryd.prog 19 #[.slice va d.ty.length vc, .int .i64 0] w' fun e w'' => e = .returned (.string (fT z PA)) ∧ Below w'.heap.size w' w'') := hide_ (fun w' h1 => form_any f w' d.ty A1 [] z 0 0 PA va d.ty.length vc 0 trivial hz hW rfl hty2 hdt (hide_ (hN.later (HB.out.trans (h1.mono HB.out.size)))) (hide_ (ht.out.at (HB.out.trans (h1.mono HB.out.size)))))
        obtain ⟨bt, hbt⟩ : ∃ bt : ByteArray, bs ++ ⟨#[116, 121, 112, 101, 32]⟩ ++ d.name ++ ⟨#[61]⟩ ++ fT z PA ++ ⟨#[59]⟩ = bt := ⟨_, rfl⟩
        have HS3 : Hid (DpR D (txtP P) (i + 1) bt.data.toList) := hide_ (by
          rw [← hbt]
          simp only [catD, fT_list, List.append_assoc] at hS2 ⊢
          exact hS2)
        have h0 := i64w (i : Int) (by omega)
        have htz := fT_len hz hW (by have h := congrArg List.length hdt; have h2 := hty2; simp at h; omega)
        have hnz : d.name.size ≤ 32 := hnm2
        clear hvc hN hty2 hnm2 hdt hz hW hS2 hx hKl i0 i2 HS x0
        generalize fT z PA = tz at *
        have c1 : ¬ 9223372036854775807 < bs.size + 5 := by omega
        have c2 : ¬ 9223372036854775807 < bs.size + 5 + d.name.size := by omega
        have c3 : ¬ 9223372036854775807 < bs.size + 5 + d.name.size + 1 := by omega
        have c4 : ¬ 9223372036854775807 < bs.size + 5 + d.name.size + 1 + tz.size := by omega
        have c5 : ¬ 9223372036854775807 < bs.size + 5 + d.name.size + 1 + tz.size + 1 := by omega
        have x0 := (HCl.out _ (Below.refl _ _)).1
        go_upto_region 8 with fail
        refine wp_region_last 19 (fun w' => w'.cell? ⟨w.heap.size, 0, none⟩ = some (.slice (some ⟨b, o, none⟩) D.length c) ∧ w'.cell? ⟨b, o + i * 3, none⟩ = some (.string d.name) ∧ w'.cell? ⟨b, o + i * 3 + 2, none⟩ = some (.slice va d.ty.length vc)) (by kernel_rfl) (HCl.out _ HBd.out) (fun hHeld => ?_)
        refine wpAnyF_take [19] (by kernel_rfl) (i := 0) (v := ?vf1) rfl (by kernel_rfl) (by kernel_rfl) (by kernel_rfl) (fun _ _ _ h => h) (Or.inl ⟨by kernel_rfl, ?hyf1⟩) hHeld ?restf1
        case hyf1 => intro w' hSw; (try dsimp only at hSw); go_simp; try with_reducible rfl
        simp only [Act.put]
        try dsimp only
        refine wpAnyF_take [19] (by kernel_rfl) (i := 1) (v := ?vf2) rfl (by kernel_rfl) (by kernel_rfl) (by kernel_rfl) (fun _ _ _ h => h) (Or.inl ⟨by kernel_rfl, ?hyf2⟩) hHeld ?restf2
        case hyf2 => intro w' hSw; (try dsimp only at hSw); go_simp; try with_reducible rfl
        simp only [Act.put]
        try dsimp only
        refine wpAnyF_take [19] (by kernel_rfl) (i := 2) (v := ?vf3) rfl (by kernel_rfl) (by kernel_rfl) (by kernel_rfl) (fun _ _ _ h => h) (Or.inl ⟨by kernel_rfl, ?hyf3⟩) hHeld ?restf3
        case hyf3 => intro w' hSw; (try dsimp only at hSw); go_simp; try with_reducible rfl
        simp only [Act.put]
        try dsimp only
        refine wpAnyF_take [19] (by kernel_rfl) (i := 3) (v := ?vf4) rfl (by kernel_rfl) (by kernel_rfl) (by kernel_rfl) (fun _ _ _ h => h) (Or.inl ⟨by kernel_rfl, ?hyf4⟩) hHeld ?restf4
        case hyf4 => intro w' hSw; (try dsimp only at hSw); go_simp; try with_reducible rfl
        simp only [Act.put]
        try dsimp only
        refine wpAnyF_take [19] (by kernel_rfl) (i := 4) (v := ?vf5) rfl (by kernel_rfl) (by kernel_rfl) (by kernel_rfl) (fun _ _ _ h => h) (Or.inl ⟨by kernel_rfl, ?hyf5⟩) hHeld ?restf5
        case hyf5 => intro w' hSw; (try dsimp only at hSw); go_simp; try with_reducible rfl
        simp only [Act.put]
        try dsimp only
        refine wpAnyF_take [19] (by kernel_rfl) (i := 5) (v := ?vf6) rfl (by kernel_rfl) (by kernel_rfl) (by kernel_rfl) (fun _ _ _ h => h) (Or.inl ⟨by kernel_rfl, ?hyf6⟩) hHeld ?restf6
        case hyf6 => intro w' hSw; (try dsimp only at hSw); go_simp; try with_reducible rfl
        simp only [Act.put]
        try dsimp only
        refine wpAnyF_take [19] (by kernel_rfl) (i := 6) (v := ?vf7) rfl (by kernel_rfl) (by kernel_rfl) (by kernel_rfl) (fun _ _ _ h => h) (Or.inl ⟨by kernel_rfl, ?hyf7⟩) hHeld ?restf7
        case hyf7 => intro w' hSw; (try dsimp only at hSw); go_simp; try with_reducible rfl
        simp only [Act.put]
        try dsimp only
        refine wpAnyF_take [19] (by kernel_rfl) (i := 7) (v := ?vf8) rfl (by kernel_rfl) (by kernel_rfl) (by kernel_rfl) (fun _ _ _ h => h) (Or.inl ⟨by kernel_rfl, ?hyf8⟩) hHeld ?restf8
        case hyf8 => intro w' hSw; (try dsimp only at hSw); go_simp; try with_reducible rfl
        simp only [Act.put]
        try dsimp only
        refine wpAnyF_take [19] (by kernel_rfl) (i := 8) (v := ?vf9) rfl (by kernel_rfl) (by kernel_rfl) (by kernel_rfl) (fun _ _ _ h => h) (Or.inl ⟨by kernel_rfl, ?hyf9⟩) hHeld ?restf9
        case hyf9 => intro w' hSw; (try dsimp only at hSw); go_simp; try with_reducible rfl
        simp only [Act.put]
        try dsimp only
        refine wpAnyF_take [19] (by kernel_rfl) (i := 9) (v := ?vf10) rfl (by kernel_rfl) (by kernel_rfl) (by kernel_rfl) (fun _ _ _ h => h) (Or.inl ⟨by kernel_rfl, ?hyf10⟩) hHeld ?restf10
        case hyf10 => intro w' hSw; (try dsimp only at hSw); go_simp; try with_reducible rfl
        simp only [Act.put]
        try dsimp only
        refine wpAnyF_take [19] (by kernel_rfl) (i := 10) (v := ?vf11) rfl (by kernel_rfl) (by kernel_rfl) (by kernel_rfl) (fun _ _ _ h => h) (Or.inl ⟨by kernel_rfl, ?hyf11⟩) hHeld ?restf11
        case hyf11 => intro w' hSw; (try dsimp only at hSw); go_simp; try with_reducible rfl
        simp only [Act.put]
        try dsimp only
        refine wpAnyF_take [19] (by kernel_rfl) (i := 11) (v := ?vf12) rfl (by kernel_rfl) (by kernel_rfl) (by kernel_rfl) (fun _ _ _ h => h) (Or.inl ⟨by kernel_rfl, ?hyf12⟩) hHeld ?restf12
        case hyf12 => intro w' hSw; (try dsimp only at hSw); go_simp; try with_reducible rfl
        simp only [Act.put]
        try dsimp only
        refine wpAnyF_take [19] (by kernel_rfl) (i := 12) (v := ?vf13) rfl (by kernel_rfl) (by kernel_rfl) (by kernel_rfl) (fun _ _ _ h => h) (Or.inl ⟨by kernel_rfl, ?hyf13⟩) hHeld ?restf13
        case hyf13 => intro w' hSw; (try dsimp only at hSw); go_simp; try with_reducible rfl
        simp only [Act.put]
        try dsimp only
        refine wpAnyF_take [19] (by kernel_rfl) (i := 13) (v := ?vf14) rfl (by kernel_rfl) (by kernel_rfl) (by kernel_rfl) (fun _ _ _ h => h) (Or.inl ⟨by kernel_rfl, ?hyf14⟩) hHeld ?restf14
        case hyf14 => intro w' hSw; (try dsimp only at hSw); go_simp; try with_reducible rfl
        simp only [Act.put]
        try dsimp only
        refine wpAnyF_take [19] (by kernel_rfl) (i := 14) (v := ?vf15) rfl (by kernel_rfl) (by kernel_rfl) (by kernel_rfl) (fun _ _ _ h => h) (Or.inl ⟨by kernel_rfl, ?hyf15⟩) hHeld ?restf15
        case hyf15 => intro w' hSw; (try dsimp only at hSw); go_simp; try with_reducible rfl
        simp only [Act.put]
        try dsimp only
        refine wpAnyF_take [19] (by kernel_rfl) (i := 15) (v := ?vf16) rfl (by kernel_rfl) (by kernel_rfl) (by kernel_rfl) (fun _ _ _ h => h) (Or.inl ⟨by kernel_rfl, ?hyf16⟩) hHeld ?restf16
        case hyf16 => intro w' hSw; (try dsimp only at hSw); go_simp; try with_reducible rfl
        simp only [Act.put]
        try dsimp only
        refine wpAnyF_ready (rs := [16]) (by kernel_rfl) (by simp) ?_
        refine AllReadyF.cons rfl (fun K hK => ?_) AllReadyF.nil
        go_simp
        refine (HFo.out _ HBd.out).mono ?_
        rintro e w3 ⟨rfl, hB3⟩
        have HB3 := hide_ (HBd.out.trans (hB3.mono HBd.out.size))
        clear hB3
        dsimp only
        refine hK.out _ _ (HCl.out _ HB3.out) (fun hHeld => ?_)
        clear hK K
        refine wpAnyF_take [19] (by kernel_rfl) (i := 17) (v := ?vf17) rfl (by kernel_rfl) (by kernel_rfl) (by kernel_rfl) (fun _ _ _ h => h) (Or.inl ⟨by kernel_rfl, ?hyf17⟩) hHeld ?restf17
        case hyf17 => intro w' hSw; (try dsimp only at hSw); go_simp; try with_reducible rfl
        simp only [Act.put]
        try dsimp only
        refine wpAnyF_take [19] (by kernel_rfl) (i := 18) (v := ?vf18) rfl (by kernel_rfl) (by kernel_rfl) (by kernel_rfl) (fun _ _ _ h => h) (Or.inl ⟨by kernel_rfl, ?hyf18⟩) hHeld ?restf18
        case hyf18 => intro w' hSw; (try dsimp only at hSw); go_simp; try with_reducible rfl
        simp only [Act.put]
        try dsimp only
        refine wpAnyF_ready (rs := [19]) (by kernel_rfl) (by simp) ?_
        refine AllReadyF.last rfl (fun K hK => ?_)
        go_simp
        refine hK.out _ _ ?_
        clear hK K
        refine wpAnyF_done (by kernel_rfl) ?_ _
        clear hbt
        have HB4 := hide_ (HB.out.trans (HB3.out.mono HB.out.size))
        have HK4 := hide_ (HK.out.later HB3.out)
        clear HCl HFo HBd HB HK
        by_cases hlen : bt.data.toList.length ≤ 65536
        · have hlen' : ¬ ((65536 : Int) < (bt.size : Int)) := by rw [Lib.size_eq]; omega
          go_wp2
          go_roundw
          case rel => exact ⟨i + 1, bt, by omega, rfl, by go_num, hide_ hlen, HS3, HB4, HK4⟩
          case measure => simp [intOf]; omega
        · have hlen' : ((65536 : Int) < (bt.size : Int)) := by rw [Lib.size_eq]; omega
          go_wp2
          go_ret2
          refine ⟨⟨#[]⟩, 4, rfl, hide_ (.inr ⟨HE.out, P, HP.out, .inl ⟨?_, rfl, rfl⟩⟩), HB4⟩
          obtain ⟨P2, -, h2⟩ := HS3.out
          rw [← h2, List.length_append]
          omega
      · obtain rfl : i = D.length := by omega
        have h1 := HS.out.done
        clear HS
        go_wp2
        go_ret2
        exact ⟨bs, 0, rfl, hide_ (.inr ⟨HE.out, P, HP.out, .inr ⟨by rw [← h1]; exact Hsz.out, ba_of h1, rfl⟩⟩), HB⟩
  · have hE1 : (E == 0) = false := by simp [hE0]
    go_wp2
    go_ret2
    exact ⟨⟨#[]⟩, E, rfl, hide_ (.inl ⟨by rw [HE.out]; exact hE0, rfl, HE.out.symm⟩), HB2⟩
end Go.Proofs.YtafljgjkcnbhbaaDoor
