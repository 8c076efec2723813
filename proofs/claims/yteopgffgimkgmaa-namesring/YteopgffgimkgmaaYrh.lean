/- NamesRing: the walk. -/
import Derived.Test.YteopgffgimkgmaaYrf
import Derived.Test.YteopgffgimkgmaaYy
import Derived.Test.YteopgffgimkgmaaYrg
import Derived.Test.YteopgffgimkgmaaUg
namespace Go.Proofs.Yteopgffgimkgmaa
open Go.RowKit
set_option linter.unusedVariables false

theorem fldF (a b : Value) (w : World) : (Instr.field 29 (.agg #[a, b]) 0).run Try.prog w = .ok a w := by kernel_rfl
set_option maxRecDepth 100000 in
set_option maxHeartbeats 16000000 in
theorem nRing_any (a : Option Addr) (c : Nat) (D : List Df) (zd zn zt : Int) (w : World) (hc : D.length ≤ c) (hW : Hid (Wt D)) (r : Hid (DRow w a D)) :
    Calls Try.prog 6 #[.agg #[.slice a D.length c], .int .i64 zd, .int .i64 zn, .int .i64 zt] w fun e w' => e = .returned (.bool true) ∧ Below w.heap.size w w' := by
  have hfl := fldF
  obtain ⟨E, A, o, ds, hLk⟩ := lookTo_ex D
  have HLk := hide_ hLk
  clear hLk
  obtain ⟨w0, hw0⟩ : ∃ w0, w.alloc (.cells #[.slice a D.length c] 24) = w0 := ⟨_, rfl⟩
  have HB0 : Hid (Below w.heap.size w w0) := by rw [← hw0]; exact (Below.refl _ _).alloc (Nat.le_refl _) _
  have K0 : Hid (Blk w0 w.heap.size 24 [.slice a D.length c]) := by rw [← hw0]; exact Blk.newA w #[.slice a D.length c] 24
  go_enter Try.func6, Try.ntmps6
  go_upto_region 3 with (go_at_call 9; refine (nFirst_any _).mono ?_; rintro e w1 ⟨rfl, hB1⟩)
  have HB1 := hide_ (below_to HB0.out hB1)
  have K1 := hide_ (K0.out.later hB1)
  clear hw0 hB1 HB0 K0
  have c0 := K1.out.cell 0
  simp at c0
  have HC := hide_ (nCheck_any HLk.out a c w1 hW (hide_ (r.out.later HB1.out)))
  have Kc : Hid (∀ w', Below w1.heap.size w1 w' → w'.cell? ⟨w.heap.size, 0, none⟩ = some (.slice a D.length c)) := hide_ (fun w' h => (K1.out.later h).cell 0)
  by_cases hE : E = 0
  case neg =>
    have hne : (E != 0) = true := by simpa using hE
    go_upto_region 4 with (go_at_call 12; refine HC.out.mono ?_; rintro e w2 ⟨rfl, HB2⟩; have HBf := hide_ (below_to HB1.out HB2.out))
    go_wp2
    go_ret
    exact ⟨rfl, HBf.out⟩
  subst hE
  have hne0 : ((0 : Int) != 0) = false := by decide
  by_cases h1 : zd < 0
  · have h1' : decide (zd < 0) = true := decide_eq_true h1
    go_upto_region 4 with (go_at_call 12; refine HC.out.mono ?_; rintro e w2 ⟨rfl, HB2⟩; have HBf := hide_ (below_to HB1.out HB2.out))
    go_wp2
    go_ret
    exact ⟨rfl, HBf.out⟩
  by_cases h2 : (D.length : Int) ≤ zd
  · go_upto_region 4 with (go_at_call 12; refine HC.out.mono ?_; rintro e w2 ⟨rfl, HB2⟩; have HBf := hide_ (below_to HB1.out HB2.out); have c1 := Kc.out _ HB2.out)
    go_wp2
    go_ret
    exact ⟨rfl, HBf.out⟩
  by_cases h3 : zt < 0
  · go_upto_region 4 with (go_at_call 12; refine HC.out.mono ?_; rintro e w2 ⟨rfl, HB2⟩; have HBf := hide_ (below_to HB1.out HB2.out); have c1 := Kc.out _ HB2.out)
    go_wp2
    go_ret
    exact ⟨rfl, HBf.out⟩
  by_cases h4 : (D.length : Int) ≤ zt
  · go_upto_region 4 with (go_at_call 12; refine HC.out.mono ?_; rintro e w2 ⟨rfl, HB2⟩; have HBf := hide_ (below_to HB1.out HB2.out); have c1 := Kc.out _ HB2.out)
    go_wp2
    go_ret
    exact ⟨rfl, HBf.out⟩
  obtain ⟨dd, rfl⟩ : ∃ dd : Nat, zd = dd := ⟨zd.toNat, by omega⟩
  obtain ⟨tt, rfl⟩ : ∃ tt : Nat, zt = tt := ⟨zt.toNat, by omega⟩
  obtain ⟨hG, -⟩ := HLk.out.zero
  have HG := hide_ hG
  obtain ⟨hD, hok⟩ := df_ok hG.ck hW.out
  have HOK := hide_ hok
  clear hG hok
  go_upto_region 5 with (go_at_call 12; refine HC.out.mono ?_; rintro e w2 ⟨rfl, HB2⟩; have c1 := Kc.out _ HB2.out)
  have HBw2 := hide_ (below_to HB1.out HB2.out)
  have K2 := hide_ (K1.out.later HB2.out)
  clear c0 c1 HC Kc HB1 HB2 K1
  have c0 := K2.out.cell 0
  simp at c0
  have HCl := hide_ (lent_all a c D w2 hW hc (hide_ (r.out.later HBw2.out)))
  go_upto_region 6 with (go_at_call 15; refine HCl.out.mono ?_; rintro e w3 ⟨vd, rfl, vs, HSr, HB3, -⟩; obtain ⟨a9, c9, hvd9, -, -⟩ := HSr.out.row; subst hvd9)
  clear c0 HCl
  obtain ⟨w4, hw4⟩ : ∃ w4, w3.alloc (.cells #[.slice a9 D.length c9] 24) = w4 := ⟨_, rfl⟩
  have hB34 : Below w3.heap.size w3 w4 := by rw [← hw4]; exact (Below.refl _ _).alloc (Nat.le_refl _) _
  have KT : Hid (Blk w4 w3.heap.size 24 [.slice a9 D.length c9]) := by rw [← hw4]; exact Blk.newA w3 #[.slice a9 D.length c9] 24
  rw [hw4]
  have hB24 := below_to HB3.out hB34
  have HS4 := hide_ (HSr.out.later hB34)
  have HB4 := hide_ (below_to HBw2.out hB24)
  have K4 := hide_ (K2.out.later hB24)
  have HS3 := HSr
  have HBa := hide_ HBw2.out.size
  clear hw4 HSr HB3 hB34 hB24 HBw2 K2
  have hddl : dd < D.length := by omega
  have httl : tt < D.length := by omega
  obtain ⟨d, hd⟩ : ∃ d, D[dd]? = some d := ⟨_, List.getElem?_eq_getElem hddl⟩
  obtain ⟨e, he⟩ : ∃ e, D[tt]? = some e := ⟨_, List.getElem?_eq_getElem httl⟩
  have HDd := hide_ hd
  have HDe := hide_ he
  obtain ⟨g, cap, v, hvd, hcap, hvs, -, z2⟩ := HS4.out.at0 hd
  injection hvd with hvd1 _ hvd3
  subst hvd1 hvd3
  obtain ⟨av, cv, hv, hcv, -, hNv⟩ := own_nrow (HS4.out.2.2.1 dd d v hd hvs)
  subst hv
  have HVs := hide_ hvs
  have HNv := hide_ hNv
  have z0 := KT.out.cell 0
  simp at z0
  have hdk := (HOK.out d (List.mem_of_getElem? hd)).2.1
  have c0 := K4.out.cell 0
  simp at c0
  clear hd he hvs hNv
  have hz1 : (dd : Int) < D.length := by omega
  have hz2 : (tt : Int) < D.length := by omega
  clear h1 h2 h3 h4
  by_cases h5 : zn < 0
  · go_wp2
    go_ret
    exact ⟨rfl, HB4.out⟩
  by_cases h6 : (d.ty.length : Int) ≤ zn
  · go_wp2
    go_ret
    exact ⟨rfl, HB4.out⟩
  obtain ⟨nn, rfl⟩ : ∃ nn : Nat, zn = nn := ⟨zn.toNat, by omega⟩
  have hnl : nn < d.ty.length := by omega
  have hnl' : (nn : Int) < d.ty.length := by omega
  obtain ⟨x, hx⟩ : ∃ x, d.ty[nn]? = some x := ⟨_, List.getElem?_eq_getElem hnl⟩
  obtain ⟨gv, cv2, hv2, hcv2, hgv, m2, f2, S5⟩ := HS4.out.setU HDd.out HVs.out hx e.name
  injection hv2 with hv2 _ hv3
  subst hv2 hv3
  obtain ⟨bv, ov, e5, hbv, hcv5⟩ := HNv.out.open (by omega)
  injection e5 with e5
  injection e5 with e5a e5b
  subst e5a e5b
  have m0 := hcv5 nn x hx 0 (by decide)
  simp [ndc] at m0
  have HX := hide_ hx
  have HS5 := hide_ S5
  clear hcv5 S5 hx
  by_cases h9 : x.k = 9
  case neg =>
    have hne : (x.k != 9) = true := by simpa using h9
    clear m2 f2
    go_wp2
    go_ret
    exact ⟨rfl, HB4.out⟩
  have hne9 : (x.k != 9) = false := by simp [h9]
  go_upto_region 9 with fail
  clear z2 m0
  have hs : nameOk e.name true = true := (ckP_iff.1 HG.out.ck).2 e (List.mem_of_getElem? HDe.out) |>.1
  have HNm := hide_ hs
  clear hs
  obtain ⟨b, off, rfl, hb, hcl⟩ := r.out.open (by omega)
  obtain ⟨va2, vc2, hcx2, -, -, -⟩ := hcl tt e HDe.out
  have HCx : Hid (∀ w', Below w.heap.size w w' → w'.cell? ⟨b, off + tt * 3, none⟩ = some (.string e.name)) := hide_ (fun w' h => (h.cell (p := ⟨b, off + tt * 3, none⟩) hb).trans (hcx2 0 (by decide)))
  clear hcl hcx2
  obtain ⟨E', A', o', ds', hLk'⟩ := lookTo_ex (reuse D dd nn d x e.name)
  have HLk' := hide_ hLk'
  have HRe := hide_ (reuse_look HG.out HDd.out HX.out h9 HDe.out HNm.out hLk')
  clear hLk'
  have HRl : Hid ((reuse D dd nn d x e.name).length = D.length) := hide_ (by unfold reuse; rw [List.length_set])
  have HW' : Hid (Wt (reuse D dd nn d x e.name)) := hide_ ⟨by rw [HRl.out]; exact hW.out.1, fun y hy => by
    obtain ⟨j, hj⟩ := List.mem_iff_getElem?.1 hy
    by_cases hij : dd = j
    · subst hij
      rw [reuse_at HDd.out] at hj
      injection hj with hj
      subst hj
      show (d.ty.set nn _).length ≤ _
      rw [List.length_set]
      exact hdk
    · rw [reuse_ne _ hij] at hj
      exact hW.out.2 y (List.mem_of_getElem? hj)⟩
  have HNe : Hid (gv ≠ w3.heap.size) := hide_ (fun h => by
    have h1 := own_lt (HS3.out.2.2.1 dd d _ HDd.out HVs.out) (k := gv) rfl
    omega)
  have key : Hid (∀ w5 : World, Below w4.heap.size w4 w5 → ∃ a6 c6, Value.slice (some ⟨g, 0, none⟩) D.length c9 = .slice a6 (reuse D dd nn d x e.name).length c6 ∧ Hid (DRow (w5.setCell ⟨gv, nn * 7 + 2, none⟩ (.string e.name)) a6 (reuse D dd nn d x e.name)) ∧ w5.cell? ⟨gv, nn * 7 + 2, none⟩ = some (.string x.name) ∧ w5.frozen? ⟨gv, nn * 7 + 2, none⟩ = false ∧ Hid (Below w.heap.size w (w5.setCell ⟨gv, nn * 7 + 2, none⟩ (.string e.name))) ∧ Hid (Blk (w5.setCell ⟨gv, nn * 7 + 2, none⟩ (.string e.name)) w3.heap.size 24 [.slice (some ⟨g, 0, none⟩) D.length c9])) := hide_ (fun w5 h5 => by
    obtain ⟨gv', cv', hv', -, hg', m', f', S'⟩ := (HS4.out.later h5).setU HDd.out HVs.out HX.out e.name
    injection hv' with hv1 _ _
    injection hv1 with hv1
    injection hv1 with hv1 _ _
    subst hv1
    obtain ⟨a6, c6, e6, -, h6⟩ := S'.row
    have hb5 := below_to HB4.out h5
    exact ⟨a6, c6, e6, hide_ h6, m', f', hide_ (hb5.trans (((Upd.refl (fun k => k = gv) w5).set ⟨gv, nn * 7 + 2, none⟩ (.string e.name) (.inl rfl)).below _ hb5.size (fun k hk => by rw [hk]; exact Nat.le_trans HBa.out hg'))), hide_ ((KT.out.later h5).other _ _ (fun h => HNe.out h.symm))⟩)
  have c0 := K4.out.cell 0
  simp at c0
  by_cases htd : tt = dd
  · subst htd
    have hE' : E' = 82 := HRe.out.1 (.inl rfl)
    subst hE'
    obtain ⟨a6, c6, e6, R6, m6, f6, B6, K6⟩ := key.out _ (Below.refl _ _)
    have x0 := HCx.out _ HB4.out
    obtain ⟨w6, hw6⟩ : ∃ w6, w4.setCell ⟨gv, nn * 7 + 2, none⟩ (.string e.name) = w6 := ⟨_, rfl⟩
    rw [hw6] at R6 B6 K6
    have e6' := e6
    rw [HRl.out] at e6'
    injection e6' with e61 _ e63
    subst e61 e63
    have HC6 := hide_ (nCheck_any HLk'.out (some ⟨g, 0, none⟩) c9 w6 HW' R6)
    rw [HRl.out] at HC6
    have t6 := K6.out.cell 0
    simp at t6
    clear e6 K6 R6
    go_upto_region 12 with (go_at_call 12; refine HC6.out.mono ?_; rintro e7 w7 ⟨rfl, HB7⟩)
    obtain ⟨w8, hw8⟩ : ∃ w8, w7.alloc (.cells #[.int .i64 82, .int .i64 A'] 29) = w8 := ⟨_, rfl⟩
    have hB8 : Below w7.heap.size w7 w8 := by rw [← hw8]; exact (Below.refl _ _).alloc (Nat.le_refl _) _
    have F8 := Blk.newA w7 #[.int .i64 82, .int .i64 A'] 29
    rw [hw8] at F8
    rw [hw8]
    have f8 := F8.cell 0
    simp at f8
    have HB8 := hide_ (below_to (below_to B6.out HB7.out) hB8)
    clear hw6 hw8 F8 hB8 HB7 HC6 t6 m6 f6 c0 x0
    go_wp2
    go_ret
    exact ⟨rfl, HB8.out⟩
  · have hq : ((tt : Int) == (dd : Int)) = false := beq_eq_false_iff_ne.2 (by omega)
    have HCr := hide_ (reaches_any (some ⟨b, off, none⟩) c tt dd D o ds w4 HG HOK hD httl (hide_ (r.out.later HB4.out)))
    go_upto_region 10 with (go_at_call 16; refine HCr.out.mono ?_; rintro e5 w5 ⟨R, rfl, HRR, HB5⟩)
    clear c0 HCr
    obtain ⟨a6, c6, e6, R6, m6, f6, B6, K6⟩ := key.out _ HB5.out
    have x0 := HCx.out _ (below_to HB4.out HB5.out)
    have c0 := (K4.out.later HB5.out).cell 0
    simp at c0
    cases R with
    | true =>
      have hE' : E' = 82 := HRe.out.1 (.inr (HRR.out.1 rfl))
      subst hE'
      obtain ⟨w6, hw6⟩ : ∃ w6, w5.setCell ⟨gv, nn * 7 + 2, none⟩ (.string e.name) = w6 := ⟨_, rfl⟩
      rw [hw6] at R6 B6 K6
      have e6' := e6
      rw [HRl.out] at e6'
      injection e6' with e61 _ e63
      subst e61 e63
      have HC6 := hide_ (nCheck_any HLk'.out (some ⟨g, 0, none⟩) c9 w6 HW' R6)
      rw [HRl.out] at HC6
      have t6 := K6.out.cell 0
      simp at t6
      clear e6 K6 R6
      go_upto_region 12 with (go_at_call 12; refine HC6.out.mono ?_; rintro e7 w7 ⟨rfl, HB7⟩)
      obtain ⟨w8, hw8⟩ : ∃ w8, w7.alloc (.cells #[.int .i64 82, .int .i64 A'] 29) = w8 := ⟨_, rfl⟩
      have hB8 : Below w7.heap.size w7 w8 := by rw [← hw8]; exact (Below.refl _ _).alloc (Nat.le_refl _) _
      have F8 := Blk.newA w7 #[.int .i64 82, .int .i64 A'] 29
      rw [hw8] at F8
      rw [hw8]
      have f8 := F8.cell 0
      simp at f8
      have HB8 := hide_ (below_to (below_to B6.out HB7.out) hB8)
      clear hw6 hw8 F8 hB8 HB7 HC6 t6 m6 f6 c0 x0
      go_wp2
      go_ret
      exact ⟨rfl, HB8.out⟩
    | false =>
      have hE' : E' = 0 ∨ E' = 83 := HRe.out.2 (fun h => by
        rcases h with h | h
        · exact htd h
        · have := HRR.out.2 h
          simp at this)
      rcases hE' with hE' | hE'
      · subst hE'
        obtain ⟨w6, hw6⟩ : ∃ w6, w5.setCell ⟨gv, nn * 7 + 2, none⟩ (.string e.name) = w6 := ⟨_, rfl⟩
        rw [hw6] at R6 B6 K6
        have e6' := e6
        rw [HRl.out] at e6'
        injection e6' with e61 _ e63
        subst e61 e63
        have HC6 := hide_ (nCheck_any HLk'.out (some ⟨g, 0, none⟩) c9 w6 HW' R6)
        rw [HRl.out] at HC6
        have t6 := K6.out.cell 0
        simp at t6
        clear e6 K6 R6
        go_upto_region 12 with (go_at_call 12; refine HC6.out.mono ?_; rintro e7 w7 ⟨rfl, HB7⟩)
        obtain ⟨w8, hw8⟩ : ∃ w8, w7.alloc (.cells #[.int .i64 0, .int .i64 A'] 29) = w8 := ⟨_, rfl⟩
        have hB8 : Below w7.heap.size w7 w8 := by rw [← hw8]; exact (Below.refl _ _).alloc (Nat.le_refl _) _
        have F8 := Blk.newA w7 #[.int .i64 0, .int .i64 A'] 29
        rw [hw8] at F8
        rw [hw8]
        have f8 := F8.cell 0
        simp at f8
        have HB8 := hide_ (below_to (below_to B6.out HB7.out) hB8)
        clear hw6 hw8 F8 hB8 HB7 HC6 t6 m6 f6 c0 x0
        go_wp2
        go_ret
        exact ⟨rfl, HB8.out⟩
      · subst hE'
        obtain ⟨w6, hw6⟩ : ∃ w6, w5.setCell ⟨gv, nn * 7 + 2, none⟩ (.string e.name) = w6 := ⟨_, rfl⟩
        rw [hw6] at R6 B6 K6
        have e6' := e6
        rw [HRl.out] at e6'
        injection e6' with e61 _ e63
        subst e61 e63
        have HC6 := hide_ (nCheck_any HLk'.out (some ⟨g, 0, none⟩) c9 w6 HW' R6)
        rw [HRl.out] at HC6
        have t6 := K6.out.cell 0
        simp at t6
        clear e6 K6 R6
        go_upto_region 12 with (go_at_call 12; refine HC6.out.mono ?_; rintro e7 w7 ⟨rfl, HB7⟩)
        obtain ⟨w8, hw8⟩ : ∃ w8, w7.alloc (.cells #[.int .i64 83, .int .i64 A'] 29) = w8 := ⟨_, rfl⟩
        have hB8 : Below w7.heap.size w7 w8 := by rw [← hw8]; exact (Below.refl _ _).alloc (Nat.le_refl _) _
        have F8 := Blk.newA w7 #[.int .i64 83, .int .i64 A'] 29
        rw [hw8] at F8
        rw [hw8]
        have f8 := F8.cell 0
        simp at f8
        have HB8 := hide_ (below_to (below_to B6.out HB7.out) hB8)
        clear hw6 hw8 F8 hB8 HB7 HC6 t6 m6 f6 c0 x0
        go_wp2
        go_ret
        exact ⟨rfl, HB8.out⟩
end Go.Proofs.Yteopgffgimkgmaa
