/- The document's Encoder: routine. -/
import Derived.Test.YtncndgfaalojpaaRxb
import Derived.Test.YtncndgfaalojpaaRwf
namespace Go.Proofs.Ytncndgfaalojpaa
open Go.RowKit
set_option linter.unusedVariables false

/-- The arms, each with its ret. -/
def zaR (ps : List Pt) (m : Nat) : List In := (List.range m).flatMap (fun j => [⟨46, 0, 0, (ptA ps j).ty⟩, ⟨20, 0, 0, 0⟩])
theorem zaR_succ (ps : List Pt) (m : Nat) : zaR ps (m + 1) = zaR ps m ++ [⟨46, 0, 0, (ptA ps m).ty⟩, ⟨20, 0, 0, 0⟩] := by simp [zaR, List.range_succ]
theorem zaR_len (ps : List Pt) (m : Nat) : (zaR ps m).length = 2 * m := by
  induction m with
  | zero => rfl
  | succ m ih => rw [zaR_succ, List.length_append, ih]; simp; omega
theorem zaR_eq (ps : List Pt) : ∀ m, 0 < m → zaR ps m = zaB ps m ++ [⟨20, 0, 0, 0⟩]
  | 0, h => by omega
  | 1, _ => rfl
  | m + 2, _ => by
    rw [zaR_succ, zaR_eq ps (m + 1) (by omega), zaB_succ ps (m + 1), if_pos (by omega)]
    simp
set_option maxRecDepth 100000 in
set_option maxHeartbeats 8000000 in
theorem rroutine_any (B gm : Nat) (aT aX aL : Option Addr) (cT nX cX nL cL : Nat) (vR : Value) (T : List Ty) (X : List Ex) (C : List In) (E : List Int) (n : Nat) (k nn el : Int) (ps : List Pt) (w : World) (hl : C.length ≤ 900000000) (hn : T[n]? = some ⟨k, nn, el, ps⟩) (hok : Hid (tyOk ⟨k, nn, el, ps⟩ (n : Int) = true)) (hnx : X.length = nX) (hxT : X.length = T.length) (hnl : T.length = nL) (HV : Hid (k = 8 → (exAt X (n : Int)).f = !zfV (layP X ⟨k, nn, el, ps⟩).sl)) (HN : Hid (Rn B w aT T aX X aL)) (h : Hid (Rm w B gm (.slice aT T.length cT) vR (.slice aX nX cX) (.slice aL nL cL) C E)) :
    Calls Try.prog 19 #[.pointer (some ⟨gm, 0, none⟩), .int .i64 (n : Int)] w fun e w' => e = .returned (.tuple #[]) ∧ Hid (Rm w' B gm (.slice aT T.length cT) vR (.slice aX nX cX) (.slice aL nL cL) (C ++ zrP T X ⟨k, nn, el, ps⟩ (C.length : Int)) E) ∧ Hid (Km B w w') := by
  have hnT : n < T.length := (List.getElem?_eq_some_iff.1 hn).1
  have hnt' : (n : Int) < T.length := by omega
  have hnx' : (n : Int) < nX := by omega
  have hnl' : (n : Int) < nL := by omega
  have hbase := h.out.base
  obtain ⟨bT, oT, va, vc, rfl, hvc, hvn, htc⟩ := HN.out.t n _ hn
  obtain ⟨hcc, -⟩ := htc w (Below.refl _ _)
  have i0 := hcc 0 (by decide); have i1 := hcc 1 (by decide); have i2 := hcc 2 (by decide); have i3 := hcc 3 (by decide)
  simp [tyc] at i0 i1 i2 i3
  obtain ⟨c0, -, -, -⟩ := h.out.cells
  obtain ⟨w1, hw1⟩ : ∃ wx, wx = w.alloc (.cells #[.int .i64 k, .int .i64 nn, .int .i64 el, .slice va ps.length vc] 43) := ⟨_, rfl⟩
  have hB1 : Below w.heap.size w w1 := by rw [hw1]; exact below1 _ _
  have kt : Blk w1 w.heap.size 43 [.int .i64 k, .int .i64 nn, .int .i64 el, .slice va ps.length vc] := by rw [hw1]; exact Blk.newA w _ _
  have HM1 := hide_ (h.out.later hB1)
  have KT := hide_ kt
  have HK1 : Hid (Km B w w1) := hide_ (Km.later hB1)
  have HN1 := hide_ (HN.out.km hbase HK1.out)
  have hb1 : B ≤ w1.heap.size := Nat.le_trans hbase HK1.out.size
  have HPp : Hid (∀ w', Km B w1 w' → PRow w' va ps) := hide_ (fun w' hk => (htc w' ((HK1.out.trans hk).below hbase)).2)
  have j0 := kt.cell 0; have j1 := kt.cell 1; have j2 := kt.cell 2; have j3 := kt.cell 3
  simp at j0 j1 j2 j3
  have hkk : k = 1 ∨ k = 2 ∨ k = 3 ∨ k = 4 ∨ k = 5 ∨ k = 6 ∨ k = 7 ∨ k = 8 := by
    have h1 := hok.out
    unfold tyOk at h1
    simp only [Bool.and_eq_true] at h1
    have h2 := of_decide_eq_true h1.1.1
    omega
  clear htc hcc kt hB1 HN h
  go_enter Try.func19, Try.ntmps19
  go_upto_region 1 with fail
  rw [← hw1]
  clear hw1 i0 i1 i2 i3 c0
  rcases hkk with rfl | rfl | rfl | rfl | rfl | rfl | rfl | rfl
  ·
    have HLy := hide_ (rlay_any B gm _ vR _ _ C E 33 0 nn 0 w1 (by omega) HM1)
    go_upto_region 4 with (go_at_call 37; refine HLy.out.mono ?_; rintro e w2 ⟨rfl, HM2, HK2⟩)
    have HLz := hide_ (rlay_any B gm _ vR _ _ (C ++ [⟨33, 0, nn, 0⟩]) E 20 0 0 0 w2 (by rw [List.length_append, List.length_singleton]; omega) HM2)
    go_wp2_with (go_at_call 37; refine HLz.out.mono ?_; rintro e w3 ⟨rfl, HM3, HK3⟩)
    go_end0
    exact ⟨rfl, hide_ (by have := HM3.out; simpa [zrP, zbP] using this), hide_ (HK1.out.trans (HK2.out.trans HK3.out))⟩
  ·
    have HLy := hide_ (rlay_any B gm _ vR _ _ C E 35 0 0 0 w1 (by omega) HM1)
    go_upto_region 7 with (go_at_call 37; refine HLy.out.mono ?_; rintro e w2 ⟨rfl, HM2, HK2⟩)
    have HLz := hide_ (rlay_any B gm _ vR _ _ (C ++ [⟨35, 0, 0, 0⟩]) E 20 0 0 0 w2 (by rw [List.length_append, List.length_singleton]; omega) HM2)
    go_wp2_with (go_at_call 37; refine HLz.out.mono ?_; rintro e w3 ⟨rfl, HM3, HK3⟩)
    go_end0
    exact ⟨rfl, hide_ (by have := HM3.out; simpa [zrP, zbP] using this), hide_ (HK1.out.trans (HK2.out.trans HK3.out))⟩
  ·
    have HLy := hide_ (rlay_any B gm _ vR _ _ C E 36 0 0 0 w1 (by omega) HM1)
    go_upto_region 10 with (go_at_call 37; refine HLy.out.mono ?_; rintro e w2 ⟨rfl, HM2, HK2⟩)
    have HLz := hide_ (rlay_any B gm _ vR _ _ (C ++ [⟨36, 0, 0, 0⟩]) E 20 0 0 0 w2 (by rw [List.length_append, List.length_singleton]; omega) HM2)
    go_wp2_with (go_at_call 37; refine HLz.out.mono ?_; rintro e w3 ⟨rfl, HM3, HK3⟩)
    go_end0
    exact ⟨rfl, hide_ (by have := HM3.out; simpa [zrP, zbP] using this), hide_ (HK1.out.trans (HK2.out.trans HK3.out))⟩
  ·
    obtain ⟨en, t2, rfl, hen⟩ := elem_at hok.out (by decide) hnT
    have HR := hide_ (rrow_any B gm _ aX aL cT nX cX vR _ T X C E 4 nn en ps va vc t2 w1 hl (.inl rfl) hen (by have := (List.getElem?_eq_some_iff.1 hen).1; omega) hnx HN1 HM1)
    go_wp2_with (go_at_call 38; refine HR.out.mono ?_; rintro e w2 ⟨rfl, HM2, HK2⟩)
    go_end0
    exact ⟨rfl, HM2, hide_ (HK1.out.trans HK2.out)⟩
  ·
    obtain ⟨en, t2, rfl, hen⟩ := elem_at hok.out (by decide) hnT
    have HR := hide_ (rrow_any B gm _ aX aL cT nX cX vR _ T X C E 5 nn en ps va vc t2 w1 hl (.inr rfl) hen (by have := (List.getElem?_eq_some_iff.1 hen).1; omega) hnx HN1 HM1)
    go_wp2_with (go_at_call 38; refine HR.out.mono ?_; rintro e w2 ⟨rfl, HM2, HK2⟩)
    go_end0
    exact ⟨rfl, HM2, hide_ (HK1.out.trans HK2.out)⟩
  ·
    obtain ⟨-, -, -, a5, cc5, c5⟩ := HM1.out.cells
    have hwa : IntKind.i64.wrap ((C.length : Int) + 2) = (C.length : Int) + 2 := i64w _ (by omega)
    have HLy := hide_ (rlay_any B gm _ vR _ _ C E 40 0 ((C.length : Int) + 2) 0 w1 (by omega) HM1)
    go_upto_region 16 with (go_at_call 37; refine HLy.out.mono ?_; rintro e w2 ⟨rfl, HM2, HK2⟩)
    clear c5 j0 j1 j2 j3 hwa
    have KT2 := HK2.out.bT KT.out
    have j2 := KT2.cell 2
    simp at j2
    clear KT2
    have HLw := hide_ (rlay_any B gm _ vR _ _ (C ++ [⟨40, 0, (C.length : Int) + 2, 0⟩]) E 46 0 0 el w2 (by rw [List.length_append, List.length_singleton]; omega) HM2)
    go_upto_region 17 with (go_at_call 37; refine HLw.out.mono ?_; rintro e w3 ⟨rfl, HM3, HK3⟩)
    have HLz := hide_ (rlay_any B gm _ vR _ _ ((C ++ [⟨40, 0, (C.length : Int) + 2, 0⟩]) ++ [⟨46, 0, 0, el⟩]) E 20 0 0 0 w3 (by rw [List.length_append, List.length_append, List.length_singleton, List.length_singleton]; omega) HM3)
    go_wp2_with (go_at_call 37; refine HLz.out.mono ?_; rintro e w4 ⟨rfl, HM4, HK4⟩)
    go_end0
    exact ⟨rfl, hide_ (by have := HM4.out; simpa [zrP, zbP] using this), hide_ (HK1.out.trans (HK2.out.trans (HK3.out.trans HK4.out)))⟩
  ·
    obtain ⟨hp0, hp1⟩ := parts_n hok.out (.inl rfl)
    have HLy := hide_ (rlay_any B gm _ vR _ _ C E 41 (ps.length : Int) 0 0 w1 (by omega) HM1)
    go_upto_region 21 with (go_at_call 37; refine HLy.out.mono ?_; rintro e w2 ⟨rfl, HM2, HK2⟩)
    clear j0 j1 j2 j3
    obtain ⟨D, hD⟩ : ∃ D, C ++ [(⟨41, (ps.length : Int), 0, 0⟩ : In)] = D := ⟨_, rfl⟩
    have HDl : Hid (D.length = C.length + 1) := hide_ (by rw [← hD]; simp)
    rw [hD] at HM2
    obtain ⟨-, -, -, a5, cc5, c5⟩ := HM2.out.cells
    have hwa : IntKind.i64.wrap ((D.length : Int) + (ps.length : Int)) = (D.length : Int) + (ps.length : Int) := i64w _ (by have := HDl.out; omega)
    obtain ⟨f, hf⟩ : ∃ f : Int, (D.length : Int) + (ps.length : Int) = f := ⟨_, rfl⟩
    have HFe : Hid (f = (C.length : Int) + 1 + ps.length) := hide_ (by have := HDl.out; omega)
    have HM0 : Hid (Rm w2 B gm (.slice (some ⟨bT, oT, none⟩) T.length cT) vR (.slice aX nX cX) (.slice aL nL cL) (C ++ (⟨41, (ps.length : Int), 0, 0⟩ :: zaH ps (C.length : Int) 0)) E) := hide_ (by have := HM2.out; rw [← hD] at this; exact this)
    rw [hf] at hwa
    have KT2 := hide_ (HK2.out.bT KT.out)
    clear hD
    go_upto_region 23 with fail
    clear c5 hwa hf
    go_loopw [7] (fun x7 wr => ∃ (i : Nat), i ≤ ps.length ∧ x7 = .int .i64 (i : Int) ∧ Hid (Rm wr B gm (.slice (some ⟨bT, oT, none⟩) T.length cT) vR (.slice aX nX cX) (.slice aL nL cL) (C ++ (⟨41, (ps.length : Int), 0, 0⟩ :: zaH ps (C.length : Int) i)) E) ∧ Hid (Km B w1 wr)) (fun x7 _ => ps.length - (intOf x7).toNat)
    case atStart => exact ⟨0, Nat.zero_le _, rfl, HM0, HK2⟩
    case round =>
      obtain ⟨i, hi, rfl, HMq, HKq⟩ := hrel
      generalize wr = wq at *
      clear HM0 HM2
      by_cases hlt : i < ps.length
      · have hlt' : (i : Int) < ps.length := by omega
        have hx : ps[i]? = some (ps[i]'hlt) := List.getElem?_eq_getElem hlt
        have hpa := ptA_at hx
        have hlx : (C ++ (⟨41, (ps.length : Int), 0, 0⟩ :: zaH ps (C.length : Int) i)).length = C.length + 1 + i := by simp [zaH_len]; omega
        have HHd := hide_ (zaH_succ ps (C.length : Int) i)
        rw [hpa] at HHd
        obtain ⟨bP, oP, rfl, hbP, hcP⟩ := (HPp.out wq HKq.out).open (by omega)
        have i1 := hcP i _ hx 1 (by decide)
        have KTq := HKq.out.bT KT.out
        have j3 := KTq.cell 3
        generalize ps[i]'hlt = p at *
        simp [ptc] at i1
        simp at j3
        have hwa : IntKind.i64.wrap (2 * (i : Int)) = 2 * (i : Int) := i64w _ (by omega)
        have hwb : IntKind.i64.wrap (f + 2 * (i : Int)) = f + 2 * (i : Int) := i64w _ (by have := HFe.out; omega)
        have HLw := hide_ (rlay_any B gm _ vR _ _ _ E 9 p.tag (f + 2 * (i : Int)) 0 wq (by omega) HMq)
        have HFin : Hid ((C ++ (⟨41, (ps.length : Int), 0, 0⟩ :: zaH ps (C.length : Int) i)) ++ [⟨9, p.tag, f + 2 * (i : Int), 0⟩] = C ++ (⟨41, (ps.length : Int), 0, 0⟩ :: zaH ps (C.length : Int) (i + 1))) := hide_ (by
          rw [HHd.out, HFe.out]
          simp)
        clear hcP hx hpa KTq hlx
        go_wp2_with (go_at_call 37; refine HLw.out.mono ?_; rintro e w4 ⟨rfl, HM4, HK4⟩)
        clear hwa hwb
        go_roundw
        case rel => exact ⟨i + 1, by omega, by go_num, hide_ (by rw [← HFin.out]; exact HM4.out), hide_ (HKq.out.trans HK4.out)⟩
        case measure => simp [intOf]; omega
      · obtain rfl : i = ps.length := by omega
        clear hlt hi
        have HM0 : Hid (Rm wq B gm (.slice (some ⟨bT, oT, none⟩) T.length cT) vR (.slice aX nX cX) (.slice aL nL cL) (C ++ (⟨41, (ps.length : Int), 0, 0⟩ :: (zaH ps (C.length : Int) ps.length ++ zaR ps 0))) E) := hide_ (by have := HMq.out; simpa [zaR] using this)
        clear HMq
        go_upto_region 27 with fail
        go_loopw [8] (fun x8 wr => ∃ (i : Nat), i ≤ ps.length ∧ x8 = .int .i64 (i : Int) ∧ Hid (Rm wr B gm (.slice (some ⟨bT, oT, none⟩) T.length cT) vR (.slice aX nX cX) (.slice aL nL cL) (C ++ (⟨41, (ps.length : Int), 0, 0⟩ :: (zaH ps (C.length : Int) ps.length ++ zaR ps i))) E) ∧ Hid (Km B w1 wr)) (fun x8 _ => ps.length - (intOf x8).toNat)
        case atStart => exact ⟨0, Nat.zero_le _, rfl, HM0, HKq⟩
        case round =>
          obtain ⟨i, hi, rfl, HMz, HKz⟩ := hrel
          generalize wr = wz at *
          clear HM0 HKq
          by_cases hlt : i < ps.length
          · have hlt' : (i : Int) < ps.length := by omega
            have hx : ps[i]? = some (ps[i]'hlt) := List.getElem?_eq_getElem hlt
            have hpa := ptA_at hx
            have hlx : (C ++ (⟨41, (ps.length : Int), 0, 0⟩ :: (zaH ps (C.length : Int) ps.length ++ zaR ps i))).length ≤ 900000300 := by simp [zaH_len, zaR_len]; omega
            have HHd := hide_ (zaR_succ ps i)
            rw [hpa] at HHd
            obtain ⟨bP, oP, rfl, hbP, hcP⟩ := (HPp.out wz HKz.out).open (by omega)
            have i2 := hcP i _ hx 2 (by decide)
            have KTq := HKz.out.bT KT.out
            have j3 := KTq.cell 3
            generalize ps[i]'hlt = p at *
            simp [ptc] at i2
            simp at j3
            have HLw := hide_ (rlay_any B gm _ vR _ _ _ E 46 0 0 p.ty wz (by omega) HMz)
            clear hcP hx hpa KTq
            go_upto_region 30 with (go_at_call 37; refine HLw.out.mono ?_; rintro e w4 ⟨rfl, HM4, HK4⟩)
            have HLz := hide_ (rlay_any B gm _ vR _ _ _ E 20 0 0 0 w4 (by rw [List.length_append, List.length_singleton]; omega) HM4)
            clear HLw
            go_wp2_with (go_at_call 37; refine HLz.out.mono ?_; rintro e w5 ⟨rfl, HM5, HK5⟩)
            go_roundw
            case rel => exact ⟨i + 1, by omega, by go_num, hide_ (by
              rw [HHd.out]
              have := HM5.out
              simpa using this), hide_ (HKz.out.trans (HK4.out.trans HK5.out))⟩
            case measure => simp [intOf]; omega
          · obtain rfl : i = ps.length := by omega
            have HEq : Hid (C ++ (⟨41, (ps.length : Int), 0, 0⟩ :: (zaH ps (C.length : Int) ps.length ++ zaR ps ps.length)) = C ++ zrP T X ⟨7, nn, el, ps⟩ (C.length : Int)) := hide_ (by rw [zaR_eq ps _ hp0]; simp [zrP, zbP, zaP])
            go_wp2_with fail
            go_end0
            exact ⟨rfl, hide_ (by rw [← HEq.out]; exact HMz.out), hide_ (HK1.out.trans HKz.out)⟩
  ·
    obtain ⟨hp0, hp1⟩ := parts_n hok.out (.inr rfl)
    obtain ⟨y, hy⟩ : ∃ y, layP X ⟨8, nn, el, ps⟩ = y := ⟨_, rfl⟩
    have hyp : y = rowP X ps := by rw [← hy]; rfl
    have hyl2 : y.sl.length = ps.length := by rw [hyp]; exact rowP_len X ps
    have hyl : (T.map (layP X))[n]? = some y := by rw [List.getElem?_map, hn, ← hy]; rfl
    have hfv := HV.out rfl
    rw [hy] at hfv
    obtain ⟨z, hz⟩ : ∃ z, zfV y.sl = z := ⟨_, rfl⟩
    rw [hz] at hfv
    have HLy := hide_ (rlay_any B gm _ vR _ _ C E 39 (ps.length : Int) 0 0 w1 (by omega) HM1)
    go_upto_region 33 with (go_at_call 37; refine HLy.out.mono ?_; rintro e w2 ⟨rfl, HM2, HK2⟩)
    clear j0 j1 j2 j3 HLy
    obtain ⟨bx, ox, rfl, hxc⟩ := HN1.out.x n _ (exAt_at (by omega))
    obtain ⟨bL, oL, sa, sc, rfl, hlc⟩ := HN1.out.l n y hyl
    have x0 := hxc w2 (HK2.out.below hb1) 0 (by decide)
    simp [exc] at x0
    rw [hfv] at x0
    obtain ⟨-, c2, c3, -⟩ := HM2.out.cells
    have HLc : Hid (∀ w', Km B w1 w' → w'.cell? ⟨bL, oL + n * 2, none⟩ = some (.int .i64 y.sz) ∧ w'.cell? ⟨bL, oL + n * 2 + 1, none⟩ = some (.slice sa y.sl.length sc) ∧ GRow 3 slc w' sa y.sl) := hide_ (fun w' hk => hlc w' (hk.below hb1))
    obtain ⟨l0, -, -⟩ := HLc.out w2 HK2.out
    have HSl := hide_ hyl2
    have HZ := hide_ hz
    have HY := hide_ hy
    clear hxc hlc hyp hy hyl hyl2 hfv HV hz
    go_upto_if 127 with fail
    clear x0 c2
    go_cut [] from 128 to 138 (fun wc => ∃ w5, w5 = wc ∧ Hid (Rm w5 B gm (.slice (some ⟨bT, oT, none⟩) T.length cT) vR (.slice (some ⟨bx, ox, none⟩) nX cX) (.slice (some ⟨bL, oL, none⟩) nL cL) (C ++ (⟨39, (ps.length : Int), 0, 0⟩ :: (zfH y.sz z ++ zfB T ps y.sl 0))) E) ∧ Hid (Km B w1 w5))
    case first =>
      cases z with
      | true =>
        have HLw := hide_ (rlay_any B gm _ vR _ _ _ E 42 y.sz 0 0 w2 (by rw [List.length_append, List.length_singleton]; omega) HM2)
        go_wp2_with (go_at_call 37; refine HLw.out.mono ?_; rintro e w4 ⟨rfl, HM4, HK4⟩)
        go_meet
        case rel => exact ⟨_, rfl, hide_ (by have := HM4.out; simpa [zfB, zfH] using this), hide_ (HK2.out.trans HK4.out)⟩
      | false =>
        go_wp2_with fail
        go_meet
        case rel => exact ⟨_, rfl, hide_ (by have := HM2.out; simpa [zfB, zfH] using this), HK2⟩
    case rest =>
    clear HM2 HK2 c3 l0
    obtain ⟨w5, hw5, HM5, HK5⟩ := hcut
    subst hw5
    go_upto_region 36 with fail
    go_loopw [9] (fun x9 wr => ∃ (i : Nat), i ≤ ps.length ∧ x9 = .int .i64 (i : Int) ∧ Hid (Rm wr B gm (.slice (some ⟨bT, oT, none⟩) T.length cT) vR (.slice (some ⟨bx, ox, none⟩) nX cX) (.slice (some ⟨bL, oL, none⟩) nL cL) (C ++ (⟨39, (ps.length : Int), 0, 0⟩ :: (zfH y.sz z ++ zfB T ps y.sl i))) E) ∧ Hid (Km B w1 wr)) (fun x9 _ => ps.length - (intOf x9).toNat)
    case atStart => exact ⟨0, Nat.zero_le _, rfl, HM5, HK5⟩
    case round =>
      obtain ⟨i, hi, rfl, HMq, HKq⟩ := hrel
      generalize wr = wq at *
      clear HM5 HK5
      have KTq := hide_ (HKq.out.bT KT.out)
      have j3 := KTq.out.cell 3
      simp at j3
      by_cases hlt : i < ps.length
      · have hlt' : (i : Int) < ps.length := by omega
        have hx : ps[i]? = some (ps[i]'hlt) := List.getElem?_eq_getElem hlt
        have hpa := ptA_at hx
        obtain ⟨m, t2, hn1, hn2⟩ := part_at hok.out hnT i _ hx
        have hs : y.sl[i]? = some (y.sl[i]'(by rw [HSl.out]; exact hlt)) := List.getElem?_eq_getElem _
        have hsa := slA_at hs
        have hlx : (C ++ (⟨39, (ps.length : Int), 0, 0⟩ :: (zfH y.sz z ++ zfB T ps y.sl i))).length ≤ 900000300 := by
          have := (zfB_len T ps y.sl i).2
          have : (zfH y.sz z).length ≤ 1 := by unfold zfH; split <;> simp
          simp
          omega
        have HHd := hide_ (zfB_succ T ps y.sl i)
        rw [hpa, hsa] at HHd
        obtain ⟨bP, oP, rfl, hbP, hcP⟩ := (HPp.out wq HKq.out).open (by omega)
        obtain ⟨-, l1, hgr⟩ := HLc.out wq HKq.out
        obtain ⟨bS, oS, rfl, hbS, hcS⟩ := hgr.open (by rw [HSl.out]; omega)
        have i2 := hcP i _ hx 2 (by decide)
        have s0 := hcS i _ hs 0 (by decide); have s1 := hcS i _ hs 1 (by decide); have s2 := hcS i _ hs 2 (by decide)
        obtain ⟨-, -, c3, -⟩ := HMq.out.cells
        generalize ps[i]'hlt = p at *
        generalize y.sl[i]'_ = s at *
        obtain ⟨so, sv, sz2⟩ := s
        simp [ptc] at i2
        simp [slc] at s0 s1 s2
        rw [hn1] at i2
        have hsi : (i : Int) < (y.sl.length : Int) := by rw [HSl.out]; omega
        have HZO : Hid (zfO T p ⟨so, sv, sz2⟩ = if sv then [⟨43, so, 0, 0⟩, ⟨46, 0, 0, (m : Int)⟩] else [lfP t2 so ⟨44, so, 0, (m : Int)⟩]) := hide_ (by unfold zfO; rw [hn1, tyA_at hn2])
        rw [HZO.out] at HHd
        obtain ⟨wx, hwx⟩ : ∃ wx, wx = wq.alloc (.cells #[.int .i64 so, .bool sv, .int .i64 sz2] 77) := ⟨_, rfl⟩
        have hBx : Below wq.heap.size wq wx := by rw [hwx]; exact below1 _ _
        have KS : Hid (Blk wx wq.heap.size 77 [.int .i64 so, .bool sv, .int .i64 sz2]) := hide_ (by rw [hwx]; exact Blk.newA wq _ _)
        have HMx := hide_ (HMq.out.later hBx)
        have HKx := hide_ (HKq.out.then hBx)
        have KTx := hide_ (KTq.out.later hBx)
        have HNx := hide_ (HN1.out.km hb1 HKx.out)
        have i2x : ∀ w', Below wx.heap.size wx w' → w'.cell? ⟨bP, oP + i * 3 + 2, none⟩ = some (.int .i64 (m : Int)) := fun w' hb => ((below_to hBx hb).cell (p := ⟨bP, oP + i * 3 + 2, none⟩) hbP).trans i2
        have Hi2 := hide_ i2x
        have t0 := KS.out.cell 0; have t1 := KS.out.cell 1
        have u3 := KTx.out.cell 3
        simp at t0 t1 u3
        clear hcP hcS hgr hx hpa hs hsa HZO HMq HKq KTq i2x
        go_upto_region 39 with fail
        rw [← hwx]
        clear hwx c3 l1 s0 s1 s2 j3 i2
        cases sv with
        | false =>
          have HAt := hide_ (rat_any B gm _ _ _ cT vR _ _ T X _ E m t2 so wx.drew (by omega) hn2 (hide_ (HNx.out.km (Nat.le_trans hb1 HKx.out.size) (Km.drew wx))) (hide_ HMx.out.drew))
          have HSS : Hid (∀ w', Below wx.heap.size wx w' → (fun w' => w'.cell? ⟨w.heap.size, 3, none⟩ = some (.slice (some ⟨bP, oP, none⟩) ps.length vc) ∧ w'.cell? ⟨bP, oP + i * 3 + 2, none⟩ = some (.int .i64 (m : Int)) ∧ w'.cell? ⟨wq.heap.size, 0, none⟩ = some (.int .i64 so)) w') := hide_ (fun w' hb => ⟨by have := (KTx.out.later hb).cell 3; simpa using this, Hi2.out w' hb, by have := (KS.out.later hb).cell 0; simpa using this⟩)
          go_upto_region 40 with fail
          clear t0 t1 u3
          refine wp_region_last 9 (fun w' => w'.cell? ⟨w.heap.size, 3, none⟩ = some (.slice (some ⟨bP, oP, none⟩) ps.length vc) ∧ w'.cell? ⟨bP, oP + i * 3 + 2, none⟩ = some (.int .i64 (m : Int)) ∧ w'.cell? ⟨wq.heap.size, 0, none⟩ = some (.int .i64 so)) (by kernel_rfl) (HSS.out _ ((Below.refl wx.heap.size wx).drew)) (fun hHeld => ?_)
          refine wpAnyF_take [9] (by kernel_rfl) (i := 0) (v := ?vq1) rfl (by kernel_rfl) (by kernel_rfl) (by kernel_rfl) (fun _ _ _ h => h) (Or.inl ⟨by kernel_rfl, ?hyq1⟩) hHeld ?restq1
          case hyq1 => intro w' hSw; (try dsimp only at hSw); go_simp; try with_reducible rfl
          simp only [Act.put]
          refine wpAnyF_take [9, 6, 5, 4, 2] (by kernel_rfl) (i := 1) (v := ?vq2) rfl (by kernel_rfl) (by kernel_rfl) (by kernel_rfl) (fun _ _ _ h => h) (Or.inl ⟨by kernel_rfl, ?hyq2⟩) hHeld ?restq2
          case hyq2 => intro w' hSw; (try dsimp only at hSw); go_simp; try with_reducible rfl
          simp only [Act.put]
          refine wpAnyF_take [9, 6, 5, 4] (by kernel_rfl) (i := 2) (v := ?vq3) rfl (by kernel_rfl) (by kernel_rfl) (by kernel_rfl) (fun _ _ _ h => h) (Or.inl ⟨by kernel_rfl, ?hyq3⟩) hHeld ?restq3
          case hyq3 => intro w' hSw; (try dsimp only at hSw); go_simp; try with_reducible rfl
          simp only [Act.put]
          refine wpAnyF_take [9, 6, 5, 4] (by kernel_rfl) (i := 3) (v := ?vq4) rfl (by kernel_rfl) (by kernel_rfl) (by kernel_rfl) (fun _ _ _ h => h) (Or.inl ⟨by kernel_rfl, ?hyq4⟩) hHeld ?restq4
          case hyq4 => intro w' hSw; (try dsimp only at hSw); go_simp; try with_reducible rfl
          simp only [Act.put]
          refine wpAnyF_take [9, 6, 5] (by kernel_rfl) (i := 4) (v := ?vq5) rfl (by kernel_rfl) (by kernel_rfl) (by kernel_rfl) (fun _ _ _ h => h) (Or.inl ⟨by kernel_rfl, ?hyq5⟩) hHeld ?restq5
          case hyq5 => intro w' hSw; (try dsimp only at hSw); go_simp; try with_reducible rfl
          simp only [Act.put]
          refine wpAnyF_take [9, 6] (by kernel_rfl) (i := 5) (v := ?vq6) rfl (by kernel_rfl) (by kernel_rfl) (by kernel_rfl) (fun _ _ _ h => h) (Or.inl ⟨by kernel_rfl, ?hyq6⟩) hHeld ?restq6
          case hyq6 => intro w' hSw; (try dsimp only at hSw); go_simp; try with_reducible rfl
          simp only [Act.put]
          refine wpAnyF_take [9] (by kernel_rfl) (i := 6) (v := ?vq7) rfl (by kernel_rfl) (by kernel_rfl) (by kernel_rfl) (fun _ _ _ h => h) (Or.inl ⟨by kernel_rfl, ?hyq7⟩) hHeld ?restq7
          case hyq7 => intro w' hSw; (try dsimp only at hSw); go_simp; try with_reducible rfl
          simp only [Act.put]
          refine wpAnyF_take [9, 8] (by kernel_rfl) (i := 7) (v := ?vq8) rfl (by kernel_rfl) (by kernel_rfl) (by kernel_rfl) (fun _ _ _ h => h) (Or.inl ⟨by kernel_rfl, ?hyq8⟩) hHeld ?restq8
          case hyq8 => intro w' hSw; (try dsimp only at hSw); go_simp; try with_reducible rfl
          simp only [Act.put]
          refine wpAnyF_take [9] (by kernel_rfl) (i := 8) (v := ?vq9) rfl (by kernel_rfl) (by kernel_rfl) (by kernel_rfl) (fun _ _ _ h => h) (Or.inl ⟨by kernel_rfl, ?hyq9⟩) hHeld ?restq9
          case hyq9 => intro w' hSw; (try dsimp only at hSw); go_simp; try with_reducible rfl
          simp only [Act.put]
          refine wpAnyF_ready (rs := [9]) (by kernel_rfl) (by simp) ?_
          refine AllReadyF.last rfl (fun K hK => ?_)
          go_simp
          refine HAt.out.mono ?_
          rintro e w4 ⟨rfl, HM4, HK4⟩
          dsimp only
          refine hK.out _ _ ?_
          clear hK K
          refine wpAnyF_done (by kernel_rfl) ?_ _
          clear HSS HAt
          go_wp2_with fail
          go_roundw
          case rel => exact ⟨i + 1, by omega, by go_num, hide_ (by
            rw [HHd.out]
            have := HM4.out
            simpa using this), hide_ (HKx.out.trans ((Km.drew wx).trans HK4.out))⟩
          case measure => simp [intOf]; omega
        | true =>
          have HLw := hide_ (rlay_any B gm _ vR _ _ _ E 43 so 0 0 wx (by omega) HMx)
          go_upto_region 42 with (go_at_call 37; refine HLw.out.mono ?_; rintro e w4 ⟨rfl, HM4, HK4⟩)
          clear t0 t1 u3 HLw
          have u3 := (HK4.out.bT KTx.out).cell 3
          simp at u3
          have hp2 := (HPp.out w4 (HKx.out.trans HK4.out)).open (by omega)
          obtain ⟨bP', oP', e9, -, hcP⟩ := hp2
          injection e9 with e9
          injection e9 with e91 e92 _
          subst e91 e92
          have hx2 : ps[i]? = some (ps[i]'hlt) := List.getElem?_eq_getElem hlt
          have i2 := hcP i _ hx2 2 (by decide)
          obtain ⟨m', t2', hn1', hn2'⟩ := part_at hok.out hnT i _ hx2
          have hpe : (ps[i]'hlt).ty = (m : Int) := by
            have e1 := HHd.out
            rw [zfB_succ, ptA_at hx2] at e1
            have e2 := List.append_cancel_left e1
            unfold zfO at e2
            have hsv : (slA y.sl i).v = true := by
              cases hv : (slA y.sl i).v with
              | true => rfl
              | false => rw [hv] at e2; simp at e2
            rw [hsv] at e2
            simp at e2
            exact e2.2
          simp [ptc] at i2
          rw [hpe] at i2
          have HLz := hide_ (rlay_any B gm _ vR _ _ _ E 46 0 0 (m : Int) w4 (by rw [List.length_append, List.length_singleton]; omega) HM4)
          clear hcP hx2 hn1' hn2' hpe
          go_wp2_with (go_at_call 37; refine HLz.out.mono ?_; rintro e w6 ⟨rfl, HM6, HK6⟩)
          go_roundw
          case rel => exact ⟨i + 1, by omega, by go_num, hide_ (by
            rw [HHd.out]
            have := HM6.out
            simpa using this), hide_ (HKx.out.trans (HK4.out.trans HK6.out))⟩
          case measure => simp [intOf]; omega
      · obtain rfl : i = ps.length := by omega
        have HLz := hide_ (rlay_any B gm _ vR _ _ _ E 20 0 0 0 wq (by
          have := (zfB_len T ps y.sl ps.length).2
          have : (zfH y.sz z).length ≤ 1 := by unfold zfH; split <;> simp
          simp
          omega) HMq)
        have HEq : Hid ((C ++ (⟨39, (ps.length : Int), 0, 0⟩ :: (zfH y.sz z ++ zfB T ps y.sl ps.length))) ++ [⟨20, 0, 0, 0⟩] = C ++ zrP T X ⟨8, nn, el, ps⟩ (C.length : Int)) := hide_ (by
          simp [zrP, zbP, HY.out, zfP, HZ.out, zfH])
        go_wp2_with (go_at_call 37; refine HLz.out.mono ?_; rintro e w6 ⟨rfl, HM6, HK6⟩)
        go_end0
        exact ⟨rfl, hide_ (by rw [← HEq.out]; exact HM6.out), hide_ (HK1.out.trans (HKq.out.trans HK6.out))⟩
end Go.Proofs.Ytncndgfaalojpaa
