/- The document's Encoder: row. -/
import Derived.Test.YtncndgfaalojpaaRxa
namespace Go.Proofs.Ytncndgfaalojpaa
open Go.RowKit
set_option linter.unusedVariables false

set_option maxRecDepth 100000 in
set_option maxHeartbeats 8000000 in
theorem rrow_any (B gm : Nat) (aT aX aL : Option Addr) (cT nX cX : Nat) (vR vL : Value) (T : List Ty) (X : List Ex) (C : List In) (E : List Int) (k nn : Int) (el : Nat) (ps : List Pt) (va : Option Addr) (vc : Nat) (t2 : Ty) (w : World) (hl : C.length ≤ 900000000) (hk : k = 4 ∨ k = 5) (hel : T[el]? = some t2) (hxl : el < X.length) (hnx : X.length = nX) (HN : Hid (Rn B w aT T aX X aL)) (h : Hid (Rm w B gm (.slice aT T.length cT) vR (.slice aX nX cX) vL C E)) :
    Calls Try.prog 38 #[.pointer (some ⟨gm, 0, none⟩), .agg #[.int .i64 k, .int .i64 nn, .int .i64 (el : Int), .slice va ps.length vc]] w fun e w' => e = .returned (.tuple #[]) ∧ Hid (Rm w' B gm (.slice aT T.length cT) vR (.slice aX nX cX) vL (C ++ zrP T X ⟨k, nn, (el : Int), ps⟩ (C.length : Int)) E) ∧ Hid (Km B w w') := by
  have hta := tyA_at hel
  have hlx' : (el : Int) < nX := by omega
  have hbase := h.out.base
  obtain ⟨w1, hw1⟩ : ∃ wx, wx = w.alloc (.cells #[.int .i64 k, .int .i64 nn, .int .i64 (el : Int), .slice va ps.length vc] 43) := ⟨_, rfl⟩
  have hB1 : Below w.heap.size w w1 := by rw [hw1]; exact below1 _ _
  have kt : Blk w1 w.heap.size 43 [.int .i64 k, .int .i64 nn, .int .i64 (el : Int), .slice va ps.length vc] := by rw [hw1]; exact Blk.newA w _ _
  have H1 := hide_ (h.out.later hB1)
  have KT := hide_ kt
  have HM0 := hide_ H1.out.drew
  have KT0 := hide_ kt.drew
  have HK1 : Hid (Km B w w1.drew) := hide_ ((Km.later hB1).trans (Km.drew w1))
  have HKa0 : Hid (Km B w1.drew w1.drew) := hide_ (Km.refl _ _)
  have HN1 := hide_ (HN.out.km hbase HK1.out)
  obtain ⟨bx, ox, rfl, hxc⟩ := (HN.out.km hbase (Km.later hB1)).x el _ (exAt_at hxl)
  have hbase1 : B ≤ w1.drew.heap.size := Nat.le_trans hbase HK1.out.size
  have HL0 : Hid (C.length = C.length + 0) := hide_ rfl
  have hxc2 : ∀ w', Below w1.heap.size w1 w' → w'.cell? ⟨bx, ox + el * 4, none⟩ = some (.bool (exAt X (el : Int)).f) := fun w' hb => by
    have := hxc w' (below_le hb (Nat.le_trans hbase hB1.size)) 0 (by decide)
    simpa [exc] using this
  clear hxc kt hB1 HN h
  have HN := HN1
  clear HN1
  have hbase := hbase1
  go_enter Try.func38, Try.ntmps38
  go_upto_region 1 with fail
  rw [← hw1]
  clear hw1
  rcases hk with rfl | rfl
  · cases hfx : (exAt X (el : Int)).f with
    | true =>
      have HF : Hid (zrP T X ⟨4, nn, (el : Int), ps⟩ (C.length : Int) = ⟨37, nn, 0, 0⟩ :: (zrF T ⟨4, nn, (el : Int), ps⟩ (exAt X (el : Int)).l (C.length : Int) ++ [⟨20, 0, 0, 0⟩])) := hide_ (by simp [zrP, zbP, zrI, hfx])
      have HSS : Hid (∀ w', Below w1.heap.size w1 w' → (fun w' => w'.cell? ⟨gm, 2, none⟩ = some (.slice (some ⟨bx, ox, none⟩) nX cX) ∧ w'.cell? ⟨w.heap.size, 2, none⟩ = some (.int .i64 (el : Int)) ∧ w'.cell? ⟨bx, ox + el * 4, none⟩ = some (.bool true)) w') := hide_ (fun w' hb => ⟨(H1.out.later hb).cells.2.1, by have := (KT.out.later hb).cell 2; simpa using this, by rw [hxc2 w' hb, hfx]⟩)
      clear hxc2 hfx H1 KT
      refine wp_region_last 9 (fun w' => w'.cell? ⟨gm, 2, none⟩ = some (.slice (some ⟨bx, ox, none⟩) nX cX) ∧ w'.cell? ⟨w.heap.size, 2, none⟩ = some (.int .i64 (el : Int)) ∧ w'.cell? ⟨bx, ox + el * 4, none⟩ = some (.bool true)) (by kernel_rfl) (HSS.out _ ((Below.refl w1.heap.size w1).drew)) (fun hHeld => ?_)
      refine wpAnyF_take [9] (by kernel_rfl) (i := 0) (v := ?vc411) rfl (by kernel_rfl) (by kernel_rfl) (by kernel_rfl) (fun _ _ _ h => h) (Or.inl ⟨by kernel_rfl, ?hyc411⟩) hHeld ?restc411
      case hyc411 => intro w' hSw; (try dsimp only at hSw); go_simp; try with_reducible rfl
      simp only [Act.put]
      refine wpAnyF_take [9] (by kernel_rfl) (i := 1) (v := ?vc412) rfl (by kernel_rfl) (by kernel_rfl) (by kernel_rfl) (fun _ _ _ h => h) (Or.inl ⟨by kernel_rfl, ?hyc412⟩) hHeld ?restc412
      case hyc412 => intro w' hSw; (try dsimp only at hSw); go_simp; try with_reducible rfl
      simp only [Act.put]
      refine wpAnyF_take [9] (by kernel_rfl) (i := 2) (v := ?vc413) rfl (by kernel_rfl) (by kernel_rfl) (by kernel_rfl) (fun _ _ _ h => h) (Or.inl ⟨by kernel_rfl, ?hyc413⟩) hHeld ?restc413
      case hyc413 => intro w' hSw; (try dsimp only at hSw); go_simp; try with_reducible rfl
      simp only [Act.put]
      refine wpAnyF_take [9] (by kernel_rfl) (i := 3) (v := ?vc414) rfl (by kernel_rfl) (by kernel_rfl) (by kernel_rfl) (fun _ _ _ h => h) (Or.inl ⟨by kernel_rfl, ?hyc414⟩) hHeld ?restc414
      case hyc414 => intro w' hSw; (try dsimp only at hSw); go_simp; try with_reducible rfl
      simp only [Act.put]
      refine wpAnyF_take [9] (by kernel_rfl) (i := 4) (v := ?vc415) rfl (by kernel_rfl) (by kernel_rfl) (by kernel_rfl) (fun _ _ _ h => h) (Or.inl ⟨by kernel_rfl, ?hyc415⟩) hHeld ?restc415
      case hyc415 => intro w' hSw; (try dsimp only at hSw); go_simp; try with_reducible rfl
      simp only [Act.put]
      refine wpAnyF_take [9] (by kernel_rfl) (i := 5) (v := ?vc416) rfl (by kernel_rfl) (by kernel_rfl) (by kernel_rfl) (fun _ _ _ h => h) (Or.inl ⟨by kernel_rfl, ?hyc416⟩) hHeld ?restc416
      case hyc416 => intro w' hSw; (try dsimp only at hSw); go_simp; try with_reducible rfl
      simp only [Act.put]
      refine wpAnyF_take [9] (by kernel_rfl) (i := 6) (v := ?vc417) rfl (by kernel_rfl) (by kernel_rfl) (by kernel_rfl) (fun _ _ _ h => h) (Or.inl ⟨by kernel_rfl, ?hyc417⟩) hHeld ?restc417
      case hyc417 => intro w' hSw; (try dsimp only at hSw); go_simp; try with_reducible rfl
      simp only [Act.put]
      refine wpAnyF_take [9] (by kernel_rfl) (i := 7) (v := ?vc418) rfl (by kernel_rfl) (by kernel_rfl) (by kernel_rfl) (fun _ _ _ h => h) (Or.inl ⟨by kernel_rfl, ?hyc418⟩) hHeld ?restc418
      case hyc418 => intro w' hSw; (try dsimp only at hSw); go_simp; try with_reducible rfl
      simp only [Act.put]
      refine wpAnyF_take [9] (by kernel_rfl) (i := 8) (v := ?vc419) rfl (by kernel_rfl) (by kernel_rfl) (by kernel_rfl) (fun _ _ _ h => h) (Or.inl ⟨by kernel_rfl, ?hyc419⟩) hHeld ?restc419
      case hyc419 => intro w' hSw; (try dsimp only at hSw); go_simp; try with_reducible rfl
      simp only [Act.put]
      refine wpAnyF_ready (rs := [9]) (by kernel_rfl) (by simp) ?_
      refine AllReadyF.last rfl (fun K hK => ?_)
      go_simp
      refine hK.out _ _ ?_
      clear hK K
      refine wpAnyF_done (by kernel_rfl) ?_ _
      clear HSS
      obtain ⟨-, -, -, a5_0, cc5_0, c5_0⟩ := HM0.out.cells
      have j0_0 := KT0.out.cell 0; have j1_0 := KT0.out.cell 1; have j2_0 := KT0.out.cell 2
      simp at j0_0 j1_0 j2_0
      have HLy0 := hide_ (rlay_any B gm _ vR _ vL C E 37 nn 0 0 w1.drew (by have := HL0.out; omega) HM0)
      go_upto_region 5 with (go_at_call 37; refine HLy0.out.mono ?_; rintro e w2 ⟨rfl, HM1, HK1⟩)
      clear HLy0 c5_0 j0_0 j1_0 j2_0
      obtain ⟨D1, hC1⟩ : ∃ c, C ++ [(⟨37, nn, 0, 0⟩ : In)] = c := ⟨_, rfl⟩
      have HL1 : Hid (D1.length = C.length + 1) := hide_ (by have := HL0.out; rw [← hC1, List.length_append, List.length_singleton]; try omega)
      rw [hC1] at HM1
      have HC1 := hide_ hC1
      clear hC1
      have HKa1 := hide_ (HKa0.out.trans HK1.out)
      have KT1 := hide_ (HK1.out.bT KT0.out)
      clear HM0 HK1 HKa0 KT0
      obtain ⟨-, -, -, a5_1, cc5_1, c5_1⟩ := HM1.out.cells
      have j0_1 := KT1.out.cell 0; have j1_1 := KT1.out.cell 1; have j2_1 := KT1.out.cell 2
      simp at j0_1 j1_1 j2_1
      have HIt := hide_ (ritem_any B gm aT (some ⟨bx, ox, none⟩) aL cT nX cX vR vL T X D1 E el t2 w2 (by have := HL1.out; omega) hel hxl hnx (hide_ (HN.out.km hbase HKa1.out)) HM1)
      go_upto_region 17 with (go_at_call 64; refine HIt.out.mono ?_; rintro e w3 ⟨rfl, HM2, HK2⟩)
      clear HIt c5_1 j0_1 j1_1 j2_1
      obtain ⟨D2, hC2⟩ : ∃ c, D1 ++ [lfP t2 (-1) ⟨45, (exAt X (el : Int)).l, 0, (el : Int)⟩] = c := ⟨_, rfl⟩
      have HL2 : Hid (D2.length = C.length + 2) := hide_ (by have := HL1.out; rw [← hC2, List.length_append, List.length_singleton]; try omega)
      rw [hC2] at HM2
      have HC2 := hide_ hC2
      clear hC2
      have HKa2 := hide_ (HKa1.out.trans HK2.out)
      have KT2 := hide_ (HK2.out.bT KT1.out)
      clear HM1 HK2 HKa1 KT1
      obtain ⟨-, -, -, a5_2, cc5_2, c5_2⟩ := HM2.out.cells
      have j0_2 := KT2.out.cell 0; have j1_2 := KT2.out.cell 1; have j2_2 := KT2.out.cell 2
      simp at j0_2 j1_2 j2_2
      have HLy2 := hide_ (rlay_any B gm _ vR _ vL D2 E 47 0 (D1.length : Int) 0 w3 (by have := HL2.out; omega) HM2)
      go_upto_region 18 with (go_at_call 37; refine HLy2.out.mono ?_; rintro e w4 ⟨rfl, HM3, HK3⟩)
      clear HLy2 c5_2 j0_2 j1_2 j2_2
      obtain ⟨D3, hC3⟩ : ∃ c, D2 ++ [(⟨47, 0, (D1.length : Int), 0⟩ : In)] = c := ⟨_, rfl⟩
      have HL3 : Hid (D3.length = C.length + 3) := hide_ (by have := HL2.out; rw [← hC3, List.length_append, List.length_singleton]; try omega)
      rw [hC3] at HM3
      have HC3 := hide_ hC3
      clear hC3
      have HKa3 := hide_ (HKa2.out.trans HK3.out)
      have KT3 := hide_ (HK3.out.bT KT2.out)
      clear HM2 HK3 HKa2 KT2
      obtain ⟨-, -, -, a5_3, cc5_3, c5_3⟩ := HM3.out.cells
      have j0_3 := KT3.out.cell 0; have j1_3 := KT3.out.cell 1; have j2_3 := KT3.out.cell 2
      simp at j0_3 j1_3 j2_3
      have HLy := hide_ (rlay_any B gm _ vR _ vL D3 E 20 0 0 0 w4 (by have := HL3.out; omega) HM3)
      go_wp2_with (go_at_call 37; refine HLy.out.mono ?_; rintro e wf ⟨rfl, HMf, HKf⟩)
      go_end0
      refine ⟨rfl, hide_ ?_, hide_ (HK1.out.trans (HKa3.out.trans HKf.out))⟩
      have hm := HMf.out
      have hlf := HL1.out
      rw [← HC3.out, ← HC2.out, ← HC1.out] at hm
      rw [HF.out]
      have e : ∀ u, Rm wf B gm (.slice aT T.length cT) vR (.slice (some ⟨bx, ox, none⟩) nX cX) vL u E → u = C ++ (⟨37, nn, 0, 0⟩ :: (zrF T ⟨4, nn, (el : Int), ps⟩ (exAt X (el : Int)).l (C.length : Int) ++ [⟨20, 0, 0, 0⟩])) → Rm wf B gm (.slice aT T.length cT) vR (.slice (some ⟨bx, ox, none⟩) nX cX) vL (C ++ (⟨37, nn, 0, 0⟩ :: (zrF T ⟨4, nn, (el : Int), ps⟩ (exAt X (el : Int)).l (C.length : Int) ++ [⟨20, 0, 0, 0⟩]))) E := fun u h e => e ▸ h
      refine e _ hm ?_
      simp [zrF, hta]
      try omega
    | false =>
      have HF : Hid (zrP T X ⟨4, nn, (el : Int), ps⟩ (C.length : Int) = ⟨37, nn, 0, 0⟩ :: (zrV ⟨4, nn, (el : Int), ps⟩ (C.length : Int) ++ [⟨20, 0, 0, 0⟩])) := hide_ (by simp [zrP, zbP, zrI, hfx])
      have HSS : Hid (∀ w', Below w1.heap.size w1 w' → (fun w' => w'.cell? ⟨gm, 2, none⟩ = some (.slice (some ⟨bx, ox, none⟩) nX cX) ∧ w'.cell? ⟨w.heap.size, 2, none⟩ = some (.int .i64 (el : Int)) ∧ w'.cell? ⟨bx, ox + el * 4, none⟩ = some (.bool false)) w') := hide_ (fun w' hb => ⟨(H1.out.later hb).cells.2.1, by have := (KT.out.later hb).cell 2; simpa using this, by rw [hxc2 w' hb, hfx]⟩)
      clear hxc2 hfx H1 KT
      refine wp_region_last 9 (fun w' => w'.cell? ⟨gm, 2, none⟩ = some (.slice (some ⟨bx, ox, none⟩) nX cX) ∧ w'.cell? ⟨w.heap.size, 2, none⟩ = some (.int .i64 (el : Int)) ∧ w'.cell? ⟨bx, ox + el * 4, none⟩ = some (.bool false)) (by kernel_rfl) (HSS.out _ ((Below.refl w1.heap.size w1).drew)) (fun hHeld => ?_)
      refine wpAnyF_take [9] (by kernel_rfl) (i := 0) (v := ?vc401) rfl (by kernel_rfl) (by kernel_rfl) (by kernel_rfl) (fun _ _ _ h => h) (Or.inl ⟨by kernel_rfl, ?hyc401⟩) hHeld ?restc401
      case hyc401 => intro w' hSw; (try dsimp only at hSw); go_simp; try with_reducible rfl
      simp only [Act.put]
      refine wpAnyF_take [9] (by kernel_rfl) (i := 1) (v := ?vc402) rfl (by kernel_rfl) (by kernel_rfl) (by kernel_rfl) (fun _ _ _ h => h) (Or.inl ⟨by kernel_rfl, ?hyc402⟩) hHeld ?restc402
      case hyc402 => intro w' hSw; (try dsimp only at hSw); go_simp; try with_reducible rfl
      simp only [Act.put]
      refine wpAnyF_take [9] (by kernel_rfl) (i := 2) (v := ?vc403) rfl (by kernel_rfl) (by kernel_rfl) (by kernel_rfl) (fun _ _ _ h => h) (Or.inl ⟨by kernel_rfl, ?hyc403⟩) hHeld ?restc403
      case hyc403 => intro w' hSw; (try dsimp only at hSw); go_simp; try with_reducible rfl
      simp only [Act.put]
      refine wpAnyF_take [9] (by kernel_rfl) (i := 3) (v := ?vc404) rfl (by kernel_rfl) (by kernel_rfl) (by kernel_rfl) (fun _ _ _ h => h) (Or.inl ⟨by kernel_rfl, ?hyc404⟩) hHeld ?restc404
      case hyc404 => intro w' hSw; (try dsimp only at hSw); go_simp; try with_reducible rfl
      simp only [Act.put]
      refine wpAnyF_take [9] (by kernel_rfl) (i := 4) (v := ?vc405) rfl (by kernel_rfl) (by kernel_rfl) (by kernel_rfl) (fun _ _ _ h => h) (Or.inl ⟨by kernel_rfl, ?hyc405⟩) hHeld ?restc405
      case hyc405 => intro w' hSw; (try dsimp only at hSw); go_simp; try with_reducible rfl
      simp only [Act.put]
      refine wpAnyF_take [9] (by kernel_rfl) (i := 5) (v := ?vc406) rfl (by kernel_rfl) (by kernel_rfl) (by kernel_rfl) (fun _ _ _ h => h) (Or.inl ⟨by kernel_rfl, ?hyc406⟩) hHeld ?restc406
      case hyc406 => intro w' hSw; (try dsimp only at hSw); go_simp; try with_reducible rfl
      simp only [Act.put]
      refine wpAnyF_take [9] (by kernel_rfl) (i := 6) (v := ?vc407) rfl (by kernel_rfl) (by kernel_rfl) (by kernel_rfl) (fun _ _ _ h => h) (Or.inl ⟨by kernel_rfl, ?hyc407⟩) hHeld ?restc407
      case hyc407 => intro w' hSw; (try dsimp only at hSw); go_simp; try with_reducible rfl
      simp only [Act.put]
      refine wpAnyF_take [9] (by kernel_rfl) (i := 7) (v := ?vc408) rfl (by kernel_rfl) (by kernel_rfl) (by kernel_rfl) (fun _ _ _ h => h) (Or.inl ⟨by kernel_rfl, ?hyc408⟩) hHeld ?restc408
      case hyc408 => intro w' hSw; (try dsimp only at hSw); go_simp; try with_reducible rfl
      simp only [Act.put]
      refine wpAnyF_take [9] (by kernel_rfl) (i := 8) (v := ?vc409) rfl (by kernel_rfl) (by kernel_rfl) (by kernel_rfl) (fun _ _ _ h => h) (Or.inl ⟨by kernel_rfl, ?hyc409⟩) hHeld ?restc409
      case hyc409 => intro w' hSw; (try dsimp only at hSw); go_simp; try with_reducible rfl
      simp only [Act.put]
      refine wpAnyF_ready (rs := [9]) (by kernel_rfl) (by simp) ?_
      refine AllReadyF.last rfl (fun K hK => ?_)
      go_simp
      refine hK.out _ _ ?_
      clear hK K
      refine wpAnyF_done (by kernel_rfl) ?_ _
      clear HSS
      obtain ⟨-, -, -, a5_0, cc5_0, c5_0⟩ := HM0.out.cells
      have j0_0 := KT0.out.cell 0; have j1_0 := KT0.out.cell 1; have j2_0 := KT0.out.cell 2
      simp at j0_0 j1_0 j2_0
      have HLy0 := hide_ (rlay_any B gm _ vR _ vL C E 37 nn 0 0 w1.drew (by have := HL0.out; omega) HM0)
      go_upto_region 5 with (go_at_call 37; refine HLy0.out.mono ?_; rintro e w2 ⟨rfl, HM1, HK1⟩)
      clear HLy0 c5_0 j0_0 j1_0 j2_0
      obtain ⟨D1, hC1⟩ : ∃ c, C ++ [(⟨37, nn, 0, 0⟩ : In)] = c := ⟨_, rfl⟩
      have HL1 : Hid (D1.length = C.length + 1) := hide_ (by have := HL0.out; rw [← hC1, List.length_append, List.length_singleton]; try omega)
      rw [hC1] at HM1
      have HC1 := hide_ hC1
      clear hC1
      have HKa1 := hide_ (HKa0.out.trans HK1.out)
      have KT1 := hide_ (HK1.out.bT KT0.out)
      clear HM0 HK1 HKa0 KT0
      obtain ⟨-, -, -, a5_1, cc5_1, c5_1⟩ := HM1.out.cells
      have j0_1 := KT1.out.cell 0; have j1_1 := KT1.out.cell 1; have j2_1 := KT1.out.cell 2
      simp at j0_1 j1_1 j2_1
      have HLy1 := hide_ (rlay_any B gm _ vR _ vL D1 E 42 (-1) 0 0 w2 (by have := HL1.out; omega) HM1)
      go_upto_region 7 with (go_at_call 37; refine HLy1.out.mono ?_; rintro e w3 ⟨rfl, HM2, HK2⟩)
      clear HLy1 c5_1 j0_1 j1_1 j2_1
      obtain ⟨D2, hC2⟩ : ∃ c, D1 ++ [(⟨42, (-1), 0, 0⟩ : In)] = c := ⟨_, rfl⟩
      have HL2 : Hid (D2.length = C.length + 2) := hide_ (by have := HL1.out; rw [← hC2, List.length_append, List.length_singleton]; try omega)
      rw [hC2] at HM2
      have HC2 := hide_ hC2
      clear hC2
      have HKa2 := hide_ (HKa1.out.trans HK2.out)
      have KT2 := hide_ (HK2.out.bT KT1.out)
      clear HM1 HK2 HKa1 KT1
      obtain ⟨-, -, -, a5_2, cc5_2, c5_2⟩ := HM2.out.cells
      have j0_2 := KT2.out.cell 0; have j1_2 := KT2.out.cell 1; have j2_2 := KT2.out.cell 2
      simp at j0_2 j1_2 j2_2
      have HLy2 := hide_ (rlay_any B gm _ vR _ vL D2 E 43 (-1) 0 0 w3 (by have := HL2.out; omega) HM2)
      go_upto_region 16 with (go_at_call 37; refine HLy2.out.mono ?_; rintro e w4 ⟨rfl, HM3, HK3⟩)
      clear HLy2 c5_2 j0_2 j1_2 j2_2
      obtain ⟨D3, hC3⟩ : ∃ c, D2 ++ [(⟨43, (-1), 0, 0⟩ : In)] = c := ⟨_, rfl⟩
      have HL3 : Hid (D3.length = C.length + 3) := hide_ (by have := HL2.out; rw [← hC3, List.length_append, List.length_singleton]; try omega)
      rw [hC3] at HM3
      have HC3 := hide_ hC3
      clear hC3
      have HKa3 := hide_ (HKa2.out.trans HK3.out)
      have KT3 := hide_ (HK3.out.bT KT2.out)
      clear HM2 HK3 HKa2 KT2
      obtain ⟨-, -, -, a5_3, cc5_3, c5_3⟩ := HM3.out.cells
      have j0_3 := KT3.out.cell 0; have j1_3 := KT3.out.cell 1; have j2_3 := KT3.out.cell 2
      simp at j0_3 j1_3 j2_3
      have HLy3 := hide_ (rlay_any B gm _ vR _ vL D3 E 46 0 0 (el : Int) w4 (by have := HL3.out; omega) HM3)
      go_upto_region 17 with (go_at_call 37; refine HLy3.out.mono ?_; rintro e w5 ⟨rfl, HM4, HK4⟩)
      clear HLy3 c5_3 j0_3 j1_3 j2_3
      obtain ⟨D4, hC4⟩ : ∃ c, D3 ++ [(⟨46, 0, 0, (el : Int)⟩ : In)] = c := ⟨_, rfl⟩
      have HL4 : Hid (D4.length = C.length + 4) := hide_ (by have := HL3.out; rw [← hC4, List.length_append, List.length_singleton]; try omega)
      rw [hC4] at HM4
      have HC4 := hide_ hC4
      clear hC4
      have HKa4 := hide_ (HKa3.out.trans HK4.out)
      have KT4 := hide_ (HK4.out.bT KT3.out)
      clear HM3 HK4 HKa3 KT3
      obtain ⟨-, -, -, a5_4, cc5_4, c5_4⟩ := HM4.out.cells
      have j0_4 := KT4.out.cell 0; have j1_4 := KT4.out.cell 1; have j2_4 := KT4.out.cell 2
      simp at j0_4 j1_4 j2_4
      have HLy4 := hide_ (rlay_any B gm _ vR _ vL D4 E 47 0 (D2.length : Int) 0 w5 (by have := HL4.out; omega) HM4)
      go_upto_region 18 with (go_at_call 37; refine HLy4.out.mono ?_; rintro e w6 ⟨rfl, HM5, HK5⟩)
      clear HLy4 c5_4 j0_4 j1_4 j2_4
      obtain ⟨D5, hC5⟩ : ∃ c, D4 ++ [(⟨47, 0, (D2.length : Int), 0⟩ : In)] = c := ⟨_, rfl⟩
      have HL5 : Hid (D5.length = C.length + 5) := hide_ (by have := HL4.out; rw [← hC5, List.length_append, List.length_singleton]; try omega)
      rw [hC5] at HM5
      have HC5 := hide_ hC5
      clear hC5
      have HKa5 := hide_ (HKa4.out.trans HK5.out)
      have KT5 := hide_ (HK5.out.bT KT4.out)
      clear HM4 HK5 HKa4 KT4
      obtain ⟨-, -, -, a5_5, cc5_5, c5_5⟩ := HM5.out.cells
      have j0_5 := KT5.out.cell 0; have j1_5 := KT5.out.cell 1; have j2_5 := KT5.out.cell 2
      simp at j0_5 j1_5 j2_5
      have HLy := hide_ (rlay_any B gm _ vR _ vL D5 E 20 0 0 0 w6 (by have := HL5.out; omega) HM5)
      go_wp2_with (go_at_call 37; refine HLy.out.mono ?_; rintro e wf ⟨rfl, HMf, HKf⟩)
      go_end0
      refine ⟨rfl, hide_ ?_, hide_ (HK1.out.trans (HKa5.out.trans HKf.out))⟩
      have hm := HMf.out
      have hlf := HL2.out
      rw [← HC5.out, ← HC4.out, ← HC3.out, ← HC2.out, ← HC1.out] at hm
      rw [HF.out]
      have e : ∀ u, Rm wf B gm (.slice aT T.length cT) vR (.slice (some ⟨bx, ox, none⟩) nX cX) vL u E → u = C ++ (⟨37, nn, 0, 0⟩ :: (zrV ⟨4, nn, (el : Int), ps⟩ (C.length : Int) ++ [⟨20, 0, 0, 0⟩])) → Rm wf B gm (.slice aT T.length cT) vR (.slice (some ⟨bx, ox, none⟩) nX cX) vL (C ++ (⟨37, nn, 0, 0⟩ :: (zrV ⟨4, nn, (el : Int), ps⟩ (C.length : Int) ++ [⟨20, 0, 0, 0⟩]))) E := fun u h e => e ▸ h
      refine e _ hm ?_
      simp [zrV]
      try omega
  · cases hfx : (exAt X (el : Int)).f with
    | true =>
      have HF : Hid (zrP T X ⟨5, nn, (el : Int), ps⟩ (C.length : Int) = ⟨38, nn, 0, 0⟩ :: (zrF T ⟨5, nn, (el : Int), ps⟩ (exAt X (el : Int)).l (C.length : Int) ++ [⟨20, 0, 0, 0⟩])) := hide_ (by simp [zrP, zbP, zrI, hfx])
      have HSS : Hid (∀ w', Below w1.heap.size w1 w' → (fun w' => w'.cell? ⟨gm, 2, none⟩ = some (.slice (some ⟨bx, ox, none⟩) nX cX) ∧ w'.cell? ⟨w.heap.size, 2, none⟩ = some (.int .i64 (el : Int)) ∧ w'.cell? ⟨bx, ox + el * 4, none⟩ = some (.bool true)) w') := hide_ (fun w' hb => ⟨(H1.out.later hb).cells.2.1, by have := (KT.out.later hb).cell 2; simpa using this, by rw [hxc2 w' hb, hfx]⟩)
      clear hxc2 hfx H1 KT
      refine wp_region_last 9 (fun w' => w'.cell? ⟨gm, 2, none⟩ = some (.slice (some ⟨bx, ox, none⟩) nX cX) ∧ w'.cell? ⟨w.heap.size, 2, none⟩ = some (.int .i64 (el : Int)) ∧ w'.cell? ⟨bx, ox + el * 4, none⟩ = some (.bool true)) (by kernel_rfl) (HSS.out _ ((Below.refl w1.heap.size w1).drew)) (fun hHeld => ?_)
      refine wpAnyF_take [9] (by kernel_rfl) (i := 0) (v := ?vc511) rfl (by kernel_rfl) (by kernel_rfl) (by kernel_rfl) (fun _ _ _ h => h) (Or.inl ⟨by kernel_rfl, ?hyc511⟩) hHeld ?restc511
      case hyc511 => intro w' hSw; (try dsimp only at hSw); go_simp; try with_reducible rfl
      simp only [Act.put]
      refine wpAnyF_take [9] (by kernel_rfl) (i := 1) (v := ?vc512) rfl (by kernel_rfl) (by kernel_rfl) (by kernel_rfl) (fun _ _ _ h => h) (Or.inl ⟨by kernel_rfl, ?hyc512⟩) hHeld ?restc512
      case hyc512 => intro w' hSw; (try dsimp only at hSw); go_simp; try with_reducible rfl
      simp only [Act.put]
      refine wpAnyF_take [9] (by kernel_rfl) (i := 2) (v := ?vc513) rfl (by kernel_rfl) (by kernel_rfl) (by kernel_rfl) (fun _ _ _ h => h) (Or.inl ⟨by kernel_rfl, ?hyc513⟩) hHeld ?restc513
      case hyc513 => intro w' hSw; (try dsimp only at hSw); go_simp; try with_reducible rfl
      simp only [Act.put]
      refine wpAnyF_take [9] (by kernel_rfl) (i := 3) (v := ?vc514) rfl (by kernel_rfl) (by kernel_rfl) (by kernel_rfl) (fun _ _ _ h => h) (Or.inl ⟨by kernel_rfl, ?hyc514⟩) hHeld ?restc514
      case hyc514 => intro w' hSw; (try dsimp only at hSw); go_simp; try with_reducible rfl
      simp only [Act.put]
      refine wpAnyF_take [9] (by kernel_rfl) (i := 4) (v := ?vc515) rfl (by kernel_rfl) (by kernel_rfl) (by kernel_rfl) (fun _ _ _ h => h) (Or.inl ⟨by kernel_rfl, ?hyc515⟩) hHeld ?restc515
      case hyc515 => intro w' hSw; (try dsimp only at hSw); go_simp; try with_reducible rfl
      simp only [Act.put]
      refine wpAnyF_take [9] (by kernel_rfl) (i := 5) (v := ?vc516) rfl (by kernel_rfl) (by kernel_rfl) (by kernel_rfl) (fun _ _ _ h => h) (Or.inl ⟨by kernel_rfl, ?hyc516⟩) hHeld ?restc516
      case hyc516 => intro w' hSw; (try dsimp only at hSw); go_simp; try with_reducible rfl
      simp only [Act.put]
      refine wpAnyF_take [9] (by kernel_rfl) (i := 6) (v := ?vc517) rfl (by kernel_rfl) (by kernel_rfl) (by kernel_rfl) (fun _ _ _ h => h) (Or.inl ⟨by kernel_rfl, ?hyc517⟩) hHeld ?restc517
      case hyc517 => intro w' hSw; (try dsimp only at hSw); go_simp; try with_reducible rfl
      simp only [Act.put]
      refine wpAnyF_take [9] (by kernel_rfl) (i := 7) (v := ?vc518) rfl (by kernel_rfl) (by kernel_rfl) (by kernel_rfl) (fun _ _ _ h => h) (Or.inl ⟨by kernel_rfl, ?hyc518⟩) hHeld ?restc518
      case hyc518 => intro w' hSw; (try dsimp only at hSw); go_simp; try with_reducible rfl
      simp only [Act.put]
      refine wpAnyF_take [9] (by kernel_rfl) (i := 8) (v := ?vc519) rfl (by kernel_rfl) (by kernel_rfl) (by kernel_rfl) (fun _ _ _ h => h) (Or.inl ⟨by kernel_rfl, ?hyc519⟩) hHeld ?restc519
      case hyc519 => intro w' hSw; (try dsimp only at hSw); go_simp; try with_reducible rfl
      simp only [Act.put]
      refine wpAnyF_ready (rs := [9]) (by kernel_rfl) (by simp) ?_
      refine AllReadyF.last rfl (fun K hK => ?_)
      go_simp
      refine hK.out _ _ ?_
      clear hK K
      refine wpAnyF_done (by kernel_rfl) ?_ _
      clear HSS
      obtain ⟨-, -, -, a5_0, cc5_0, c5_0⟩ := HM0.out.cells
      have j0_0 := KT0.out.cell 0; have j1_0 := KT0.out.cell 1; have j2_0 := KT0.out.cell 2
      simp at j0_0 j1_0 j2_0
      have HLy0 := hide_ (rlay_any B gm _ vR _ vL C E 38 nn 0 0 w1.drew (by have := HL0.out; omega) HM0)
      go_upto_region 5 with (go_at_call 37; refine HLy0.out.mono ?_; rintro e w2 ⟨rfl, HM1, HK1⟩)
      clear HLy0 c5_0 j0_0 j1_0 j2_0
      obtain ⟨D1, hC1⟩ : ∃ c, C ++ [(⟨38, nn, 0, 0⟩ : In)] = c := ⟨_, rfl⟩
      have HL1 : Hid (D1.length = C.length + 1) := hide_ (by have := HL0.out; rw [← hC1, List.length_append, List.length_singleton]; try omega)
      rw [hC1] at HM1
      have HC1 := hide_ hC1
      clear hC1
      have HKa1 := hide_ (HKa0.out.trans HK1.out)
      have KT1 := hide_ (HK1.out.bT KT0.out)
      clear HM0 HK1 HKa0 KT0
      obtain ⟨-, -, -, a5_1, cc5_1, c5_1⟩ := HM1.out.cells
      have j0_1 := KT1.out.cell 0; have j1_1 := KT1.out.cell 1; have j2_1 := KT1.out.cell 2
      simp at j0_1 j1_1 j2_1
      have hwa : IntKind.i64.wrap ((D1.length : Int) + 1) = (D1.length : Int) + 1 := i64w _ (by have := HL1.out; omega)
      have hwb : IntKind.i64.wrap ((D1.length : Int) + 1 + 1) = (D1.length : Int) + 1 + 1 := i64w _ (by have := HL1.out; omega)
      have HLy1 := hide_ (rlay_any B gm _ vR _ vL D1 E 19 0 ((D1.length : Int) + 1 + 1) 0 w2 (by have := HL1.out; omega) HM1)
      go_upto_region 12 with (go_at_call 37; refine HLy1.out.mono ?_; rintro e w3 ⟨rfl, HM2, HK2⟩)
      clear HLy1 c5_1 j0_1 j1_1 j2_1
      obtain ⟨D2, hC2⟩ : ∃ c, D1 ++ [(⟨19, 0, ((D1.length : Int) + 1 + 1), 0⟩ : In)] = c := ⟨_, rfl⟩
      have HL2 : Hid (D2.length = C.length + 2) := hide_ (by have := HL1.out; rw [← hC2, List.length_append, List.length_singleton]; try omega)
      rw [hC2] at HM2
      have HC2 := hide_ hC2
      clear hC2
      have HKa2 := hide_ (HKa1.out.trans HK2.out)
      have KT2 := hide_ (HK2.out.bT KT1.out)
      clear HM1 HK2 HKa1 KT1
      obtain ⟨-, -, -, a5_2, cc5_2, c5_2⟩ := HM2.out.cells
      have j0_2 := KT2.out.cell 0; have j1_2 := KT2.out.cell 1; have j2_2 := KT2.out.cell 2
      simp at j0_2 j1_2 j2_2
      have HIt := hide_ (ritem_any B gm aT (some ⟨bx, ox, none⟩) aL cT nX cX vR vL T X D2 E el t2 w3 (by have := HL2.out; omega) hel hxl hnx (hide_ (HN.out.km hbase HKa2.out)) HM2)
      go_upto_region 17 with (go_at_call 64; refine HIt.out.mono ?_; rintro e w4 ⟨rfl, HM3, HK3⟩)
      clear HIt c5_2 j0_2 j1_2 j2_2
      obtain ⟨D3, hC3⟩ : ∃ c, D2 ++ [lfP t2 (-1) ⟨45, (exAt X (el : Int)).l, 0, (el : Int)⟩] = c := ⟨_, rfl⟩
      have HL3 : Hid (D3.length = C.length + 3) := hide_ (by have := HL2.out; rw [← hC3, List.length_append, List.length_singleton]; try omega)
      rw [hC3] at HM3
      have HC3 := hide_ hC3
      clear hC3
      have HKa3 := hide_ (HKa2.out.trans HK3.out)
      have KT3 := hide_ (HK3.out.bT KT2.out)
      clear HM2 HK3 HKa2 KT2
      obtain ⟨-, -, -, a5_3, cc5_3, c5_3⟩ := HM3.out.cells
      have j0_3 := KT3.out.cell 0; have j1_3 := KT3.out.cell 1; have j2_3 := KT3.out.cell 2
      simp at j0_3 j1_3 j2_3
      have HLy3 := hide_ (rlay_any B gm _ vR _ vL D3 E 47 0 (D2.length : Int) 0 w4 (by have := HL3.out; omega) HM3)
      go_upto_region 18 with (go_at_call 37; refine HLy3.out.mono ?_; rintro e w5 ⟨rfl, HM4, HK4⟩)
      clear HLy3 c5_3 j0_3 j1_3 j2_3
      obtain ⟨D4, hC4⟩ : ∃ c, D3 ++ [(⟨47, 0, (D2.length : Int), 0⟩ : In)] = c := ⟨_, rfl⟩
      have HL4 : Hid (D4.length = C.length + 4) := hide_ (by have := HL3.out; rw [← hC4, List.length_append, List.length_singleton]; try omega)
      rw [hC4] at HM4
      have HC4 := hide_ hC4
      clear hC4
      have HKa4 := hide_ (HKa3.out.trans HK4.out)
      have KT4 := hide_ (HK4.out.bT KT3.out)
      clear HM3 HK4 HKa3 KT3
      obtain ⟨-, -, -, a5_4, cc5_4, c5_4⟩ := HM4.out.cells
      have j0_4 := KT4.out.cell 0; have j1_4 := KT4.out.cell 1; have j2_4 := KT4.out.cell 2
      simp at j0_4 j1_4 j2_4
      have HLy := hide_ (rlay_any B gm _ vR _ vL D4 E 20 0 0 0 w5 (by have := HL4.out; omega) HM4)
      go_wp2_with (go_at_call 37; refine HLy.out.mono ?_; rintro e wf ⟨rfl, HMf, HKf⟩)
      go_end0
      refine ⟨rfl, hide_ ?_, hide_ (HK1.out.trans (HKa4.out.trans HKf.out))⟩
      have hm := HMf.out
      have hlf := HL2.out
      rw [← HC4.out, ← HC3.out, ← HC2.out, ← HC1.out] at hm
      rw [HF.out]
      have e : ∀ u, Rm wf B gm (.slice aT T.length cT) vR (.slice (some ⟨bx, ox, none⟩) nX cX) vL u E → u = C ++ (⟨38, nn, 0, 0⟩ :: (zrF T ⟨5, nn, (el : Int), ps⟩ (exAt X (el : Int)).l (C.length : Int) ++ [⟨20, 0, 0, 0⟩])) → Rm wf B gm (.slice aT T.length cT) vR (.slice (some ⟨bx, ox, none⟩) nX cX) vL (C ++ (⟨38, nn, 0, 0⟩ :: (zrF T ⟨5, nn, (el : Int), ps⟩ (exAt X (el : Int)).l (C.length : Int) ++ [⟨20, 0, 0, 0⟩]))) E := fun u h e => e ▸ h
      refine e _ hm ?_
      simp [zrF, hta]
      try omega
    | false =>
      have HF : Hid (zrP T X ⟨5, nn, (el : Int), ps⟩ (C.length : Int) = ⟨38, nn, 0, 0⟩ :: (zrV ⟨5, nn, (el : Int), ps⟩ (C.length : Int) ++ [⟨20, 0, 0, 0⟩])) := hide_ (by simp [zrP, zbP, zrI, hfx])
      have HSS : Hid (∀ w', Below w1.heap.size w1 w' → (fun w' => w'.cell? ⟨gm, 2, none⟩ = some (.slice (some ⟨bx, ox, none⟩) nX cX) ∧ w'.cell? ⟨w.heap.size, 2, none⟩ = some (.int .i64 (el : Int)) ∧ w'.cell? ⟨bx, ox + el * 4, none⟩ = some (.bool false)) w') := hide_ (fun w' hb => ⟨(H1.out.later hb).cells.2.1, by have := (KT.out.later hb).cell 2; simpa using this, by rw [hxc2 w' hb, hfx]⟩)
      clear hxc2 hfx H1 KT
      refine wp_region_last 9 (fun w' => w'.cell? ⟨gm, 2, none⟩ = some (.slice (some ⟨bx, ox, none⟩) nX cX) ∧ w'.cell? ⟨w.heap.size, 2, none⟩ = some (.int .i64 (el : Int)) ∧ w'.cell? ⟨bx, ox + el * 4, none⟩ = some (.bool false)) (by kernel_rfl) (HSS.out _ ((Below.refl w1.heap.size w1).drew)) (fun hHeld => ?_)
      refine wpAnyF_take [9] (by kernel_rfl) (i := 0) (v := ?vc501) rfl (by kernel_rfl) (by kernel_rfl) (by kernel_rfl) (fun _ _ _ h => h) (Or.inl ⟨by kernel_rfl, ?hyc501⟩) hHeld ?restc501
      case hyc501 => intro w' hSw; (try dsimp only at hSw); go_simp; try with_reducible rfl
      simp only [Act.put]
      refine wpAnyF_take [9] (by kernel_rfl) (i := 1) (v := ?vc502) rfl (by kernel_rfl) (by kernel_rfl) (by kernel_rfl) (fun _ _ _ h => h) (Or.inl ⟨by kernel_rfl, ?hyc502⟩) hHeld ?restc502
      case hyc502 => intro w' hSw; (try dsimp only at hSw); go_simp; try with_reducible rfl
      simp only [Act.put]
      refine wpAnyF_take [9] (by kernel_rfl) (i := 2) (v := ?vc503) rfl (by kernel_rfl) (by kernel_rfl) (by kernel_rfl) (fun _ _ _ h => h) (Or.inl ⟨by kernel_rfl, ?hyc503⟩) hHeld ?restc503
      case hyc503 => intro w' hSw; (try dsimp only at hSw); go_simp; try with_reducible rfl
      simp only [Act.put]
      refine wpAnyF_take [9] (by kernel_rfl) (i := 3) (v := ?vc504) rfl (by kernel_rfl) (by kernel_rfl) (by kernel_rfl) (fun _ _ _ h => h) (Or.inl ⟨by kernel_rfl, ?hyc504⟩) hHeld ?restc504
      case hyc504 => intro w' hSw; (try dsimp only at hSw); go_simp; try with_reducible rfl
      simp only [Act.put]
      refine wpAnyF_take [9] (by kernel_rfl) (i := 4) (v := ?vc505) rfl (by kernel_rfl) (by kernel_rfl) (by kernel_rfl) (fun _ _ _ h => h) (Or.inl ⟨by kernel_rfl, ?hyc505⟩) hHeld ?restc505
      case hyc505 => intro w' hSw; (try dsimp only at hSw); go_simp; try with_reducible rfl
      simp only [Act.put]
      refine wpAnyF_take [9] (by kernel_rfl) (i := 5) (v := ?vc506) rfl (by kernel_rfl) (by kernel_rfl) (by kernel_rfl) (fun _ _ _ h => h) (Or.inl ⟨by kernel_rfl, ?hyc506⟩) hHeld ?restc506
      case hyc506 => intro w' hSw; (try dsimp only at hSw); go_simp; try with_reducible rfl
      simp only [Act.put]
      refine wpAnyF_take [9] (by kernel_rfl) (i := 6) (v := ?vc507) rfl (by kernel_rfl) (by kernel_rfl) (by kernel_rfl) (fun _ _ _ h => h) (Or.inl ⟨by kernel_rfl, ?hyc507⟩) hHeld ?restc507
      case hyc507 => intro w' hSw; (try dsimp only at hSw); go_simp; try with_reducible rfl
      simp only [Act.put]
      refine wpAnyF_take [9] (by kernel_rfl) (i := 7) (v := ?vc508) rfl (by kernel_rfl) (by kernel_rfl) (by kernel_rfl) (fun _ _ _ h => h) (Or.inl ⟨by kernel_rfl, ?hyc508⟩) hHeld ?restc508
      case hyc508 => intro w' hSw; (try dsimp only at hSw); go_simp; try with_reducible rfl
      simp only [Act.put]
      refine wpAnyF_take [9] (by kernel_rfl) (i := 8) (v := ?vc509) rfl (by kernel_rfl) (by kernel_rfl) (by kernel_rfl) (fun _ _ _ h => h) (Or.inl ⟨by kernel_rfl, ?hyc509⟩) hHeld ?restc509
      case hyc509 => intro w' hSw; (try dsimp only at hSw); go_simp; try with_reducible rfl
      simp only [Act.put]
      refine wpAnyF_ready (rs := [9]) (by kernel_rfl) (by simp) ?_
      refine AllReadyF.last rfl (fun K hK => ?_)
      go_simp
      refine hK.out _ _ ?_
      clear hK K
      refine wpAnyF_done (by kernel_rfl) ?_ _
      clear HSS
      obtain ⟨-, -, -, a5_0, cc5_0, c5_0⟩ := HM0.out.cells
      have j0_0 := KT0.out.cell 0; have j1_0 := KT0.out.cell 1; have j2_0 := KT0.out.cell 2
      simp at j0_0 j1_0 j2_0
      have HLy0 := hide_ (rlay_any B gm _ vR _ vL C E 38 nn 0 0 w1.drew (by have := HL0.out; omega) HM0)
      go_upto_region 5 with (go_at_call 37; refine HLy0.out.mono ?_; rintro e w2 ⟨rfl, HM1, HK1⟩)
      clear HLy0 c5_0 j0_0 j1_0 j2_0
      obtain ⟨D1, hC1⟩ : ∃ c, C ++ [(⟨38, nn, 0, 0⟩ : In)] = c := ⟨_, rfl⟩
      have HL1 : Hid (D1.length = C.length + 1) := hide_ (by have := HL0.out; rw [← hC1, List.length_append, List.length_singleton]; try omega)
      rw [hC1] at HM1
      have HC1 := hide_ hC1
      clear hC1
      have HKa1 := hide_ (HKa0.out.trans HK1.out)
      have KT1 := hide_ (HK1.out.bT KT0.out)
      clear HM0 HK1 HKa0 KT0
      obtain ⟨-, -, -, a5_1, cc5_1, c5_1⟩ := HM1.out.cells
      have j0_1 := KT1.out.cell 0; have j1_1 := KT1.out.cell 1; have j2_1 := KT1.out.cell 2
      simp at j0_1 j1_1 j2_1
      have HLy1 := hide_ (rlay_any B gm _ vR _ vL D1 E 42 (-1) 0 0 w2 (by have := HL1.out; omega) HM1)
      go_upto_region 7 with (go_at_call 37; refine HLy1.out.mono ?_; rintro e w3 ⟨rfl, HM2, HK2⟩)
      clear HLy1 c5_1 j0_1 j1_1 j2_1
      obtain ⟨D2, hC2⟩ : ∃ c, D1 ++ [(⟨42, (-1), 0, 0⟩ : In)] = c := ⟨_, rfl⟩
      have HL2 : Hid (D2.length = C.length + 2) := hide_ (by have := HL1.out; rw [← hC2, List.length_append, List.length_singleton]; try omega)
      rw [hC2] at HM2
      have HC2 := hide_ hC2
      clear hC2
      have HKa2 := hide_ (HKa1.out.trans HK2.out)
      have KT2 := hide_ (HK2.out.bT KT1.out)
      clear HM1 HK2 HKa1 KT1
      obtain ⟨-, -, -, a5_2, cc5_2, c5_2⟩ := HM2.out.cells
      have j0_2 := KT2.out.cell 0; have j1_2 := KT2.out.cell 1; have j2_2 := KT2.out.cell 2
      simp at j0_2 j1_2 j2_2
      have hwa : IntKind.i64.wrap ((D2.length : Int) + 1) = (D2.length : Int) + 1 := i64w _ (by have := HL2.out; omega)
      have hwb : IntKind.i64.wrap ((D2.length : Int) + 1 + 2) = (D2.length : Int) + 1 + 2 := i64w _ (by have := HL2.out; omega)
      have HLy2 := hide_ (rlay_any B gm _ vR _ vL D2 E 19 0 ((D2.length : Int) + 1 + 2) 0 w3 (by have := HL2.out; omega) HM2)
      go_upto_region 12 with (go_at_call 37; refine HLy2.out.mono ?_; rintro e w4 ⟨rfl, HM3, HK3⟩)
      clear HLy2 c5_2 j0_2 j1_2 j2_2
      obtain ⟨D3, hC3⟩ : ∃ c, D2 ++ [(⟨19, 0, ((D2.length : Int) + 1 + 2), 0⟩ : In)] = c := ⟨_, rfl⟩
      have HL3 : Hid (D3.length = C.length + 3) := hide_ (by have := HL2.out; rw [← hC3, List.length_append, List.length_singleton]; try omega)
      rw [hC3] at HM3
      have HC3 := hide_ hC3
      clear hC3
      have HKa3 := hide_ (HKa2.out.trans HK3.out)
      have KT3 := hide_ (HK3.out.bT KT2.out)
      clear HM2 HK3 HKa2 KT2
      obtain ⟨-, -, -, a5_3, cc5_3, c5_3⟩ := HM3.out.cells
      have j0_3 := KT3.out.cell 0; have j1_3 := KT3.out.cell 1; have j2_3 := KT3.out.cell 2
      simp at j0_3 j1_3 j2_3
      have HLy3 := hide_ (rlay_any B gm _ vR _ vL D3 E 43 (-1) 0 0 w4 (by have := HL3.out; omega) HM3)
      go_upto_region 16 with (go_at_call 37; refine HLy3.out.mono ?_; rintro e w5 ⟨rfl, HM4, HK4⟩)
      clear HLy3 c5_3 j0_3 j1_3 j2_3
      obtain ⟨D4, hC4⟩ : ∃ c, D3 ++ [(⟨43, (-1), 0, 0⟩ : In)] = c := ⟨_, rfl⟩
      have HL4 : Hid (D4.length = C.length + 4) := hide_ (by have := HL3.out; rw [← hC4, List.length_append, List.length_singleton]; try omega)
      rw [hC4] at HM4
      have HC4 := hide_ hC4
      clear hC4
      have HKa4 := hide_ (HKa3.out.trans HK4.out)
      have KT4 := hide_ (HK4.out.bT KT3.out)
      clear HM3 HK4 HKa3 KT3
      obtain ⟨-, -, -, a5_4, cc5_4, c5_4⟩ := HM4.out.cells
      have j0_4 := KT4.out.cell 0; have j1_4 := KT4.out.cell 1; have j2_4 := KT4.out.cell 2
      simp at j0_4 j1_4 j2_4
      have HLy4 := hide_ (rlay_any B gm _ vR _ vL D4 E 46 0 0 (el : Int) w5 (by have := HL4.out; omega) HM4)
      go_upto_region 17 with (go_at_call 37; refine HLy4.out.mono ?_; rintro e w6 ⟨rfl, HM5, HK5⟩)
      clear HLy4 c5_4 j0_4 j1_4 j2_4
      obtain ⟨D5, hC5⟩ : ∃ c, D4 ++ [(⟨46, 0, 0, (el : Int)⟩ : In)] = c := ⟨_, rfl⟩
      have HL5 : Hid (D5.length = C.length + 5) := hide_ (by have := HL4.out; rw [← hC5, List.length_append, List.length_singleton]; try omega)
      rw [hC5] at HM5
      have HC5 := hide_ hC5
      clear hC5
      have HKa5 := hide_ (HKa4.out.trans HK5.out)
      have KT5 := hide_ (HK5.out.bT KT4.out)
      clear HM4 HK5 HKa4 KT4
      obtain ⟨-, -, -, a5_5, cc5_5, c5_5⟩ := HM5.out.cells
      have j0_5 := KT5.out.cell 0; have j1_5 := KT5.out.cell 1; have j2_5 := KT5.out.cell 2
      simp at j0_5 j1_5 j2_5
      have HLy5 := hide_ (rlay_any B gm _ vR _ vL D5 E 47 0 (D3.length : Int) 0 w6 (by have := HL5.out; omega) HM5)
      go_upto_region 18 with (go_at_call 37; refine HLy5.out.mono ?_; rintro e w7 ⟨rfl, HM6, HK6⟩)
      clear HLy5 c5_5 j0_5 j1_5 j2_5
      obtain ⟨D6, hC6⟩ : ∃ c, D5 ++ [(⟨47, 0, (D3.length : Int), 0⟩ : In)] = c := ⟨_, rfl⟩
      have HL6 : Hid (D6.length = C.length + 6) := hide_ (by have := HL5.out; rw [← hC6, List.length_append, List.length_singleton]; try omega)
      rw [hC6] at HM6
      have HC6 := hide_ hC6
      clear hC6
      have HKa6 := hide_ (HKa5.out.trans HK6.out)
      have KT6 := hide_ (HK6.out.bT KT5.out)
      clear HM5 HK6 HKa5 KT5
      obtain ⟨-, -, -, a5_6, cc5_6, c5_6⟩ := HM6.out.cells
      have j0_6 := KT6.out.cell 0; have j1_6 := KT6.out.cell 1; have j2_6 := KT6.out.cell 2
      simp at j0_6 j1_6 j2_6
      have HLy := hide_ (rlay_any B gm _ vR _ vL D6 E 20 0 0 0 w7 (by have := HL6.out; omega) HM6)
      go_wp2_with (go_at_call 37; refine HLy.out.mono ?_; rintro e wf ⟨rfl, HMf, HKf⟩)
      go_end0
      refine ⟨rfl, hide_ ?_, hide_ (HK1.out.trans (HKa6.out.trans HKf.out))⟩
      have hm := HMf.out
      have hlf := HL3.out
      rw [← HC6.out, ← HC5.out, ← HC4.out, ← HC3.out, ← HC2.out, ← HC1.out] at hm
      rw [HF.out]
      have e : ∀ u, Rm wf B gm (.slice aT T.length cT) vR (.slice (some ⟨bx, ox, none⟩) nX cX) vL u E → u = C ++ (⟨38, nn, 0, 0⟩ :: (zrV ⟨5, nn, (el : Int), ps⟩ (C.length : Int) ++ [⟨20, 0, 0, 0⟩])) → Rm wf B gm (.slice aT T.length cT) vR (.slice (some ⟨bx, ox, none⟩) nX cX) vL (C ++ (⟨38, nn, 0, 0⟩ :: (zrV ⟨5, nn, (el : Int), ps⟩ (C.length : Int) ++ [⟨20, 0, 0, 0⟩]))) E := fun u h e => e ▸ h
      refine e _ hm ?_
      simp [zrV]
      try omega
end Go.Proofs.Ytncndgfaalojpaa
