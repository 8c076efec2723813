/- TypingMakes: its walk. -/
import Derived.Test.YtegejchamojfgaaDoorOt
import Derived.Test.YtegejchamojfgaaDoorOu
import Derived.Test.YtegejchamojfgaaDoorOw
import Derived.Test.YtegejchamojfgaaDoorPh
namespace Go.Proofs.YtegejchamojfgaaDoor
open Go.RowKit
set_option linter.unusedVariables false

theorem someT_mk {T : List Ty} {R : List Rt} {t : Int} {p : List Int} {V : List Nv} (hS : OkS T R) (h0 : 0 ≤ t) (h1 : t < T.length) (h : someT T R t p = (V, 0)) : mkT T p 1048578 [t] [] = some V := by
  unfold someT at h
  rw [hS.chk, if_neg (by simp), if_neg (by omega)] at h
  cases hm : mkT T p 1048578 [t] [] with
  | none => rw [hm] at h; simp at h
  | some v => rw [hm] at h; simp at h; rw [h]
theorem mk_someT {T : List Ty} {R : List Rt} {t : Int} {p : List Int} {V : List Nv} (hS : OkS T R) (h0 : 0 ≤ t) (h1 : t < T.length) (h : mkT T p 1048578 [t] [] = some V) : someT T R t p = (V, 0) := by
  unfold someT
  rw [hS.chk, if_neg (by simp), if_neg (by omega), h]
theorem wk_fit {T : List Ty} {R : List Rt} {t : Int} {V : List Nv} {nums : List Int} (hS : OkS T R) (h0 : 0 ≤ t) (h1 : t < T.length) (hw : wkT T [t] V 0 = (nums, 0, 0)) (hc : chkV 1 0 V = (0, 0)) : ∀ (i : Nat) (s : Int) (x : Nv), nums[i]? = some s → V[i]? = some x → misP (T.getD s.toNat ty0) x = 0 := by
  have key : ∀ (k : Nat), k ≤ V.length → ∃ st ns, WkI T t V k st ns ∧ ∀ (i : Nat) (s : Int) (x : Nv), ns[i]? = some s → V[i]? = some x → misP (T.getD s.toNat ty0) x = 0 := fun k => by
    induction k with
    | zero => exact fun _ => ⟨[t], [], WkI.start h0 h1 (by rw [hc]), fun i s x hs => by simp at hs⟩
    | succ k ih =>
      intro hk
      obtain ⟨st, ns, hwk, hns⟩ := ih (by omega)
      obtain ⟨s, r, rfl, a0, a1, -, hbad, hgood⟩ := hwk.next hS (List.getElem?_eq_getElem (by omega : k < V.length))
      by_cases hm0 : misP (T.getD s.toNat ty0) (V[k]'(by omega)) = 0
      · refine ⟨_, _, hgood hm0, fun i s' x hs' hx => ?_⟩
        rcases Nat.lt_or_ge i ns.length with hl | hl
        · rw [List.getElem?_append_left hl] at hs'
          exact hns i s' x hs' hx
        · rw [List.getElem?_append_right hl] at hs'
          have hi0 : i - ns.length = 0 := by
            have := (List.getElem?_eq_some_iff.1 hs').1
            simp at this
            omega
          rw [hi0] at hs'
          simp at hs'
          subst hs'
          obtain rfl : i = k := by have := hwk.len; omega
          rw [List.getElem?_eq_getElem (by omega)] at hx
          injection hx with hx
          rw [← hx]
          exact hm0
      · have := hbad hm0
        rw [hw] at this
        simp at this
        exact absurd this.2.1.symm hm0
  obtain ⟨st, ns, hwk, hns⟩ := key V.length (Nat.le_refl _)
  have hd := (hwk.done).2
  rw [hw] at hd
  have e : nums = ns := (Prod.mk.inj hd).1
  rw [e]
  exact hns
set_option maxRecDepth 100000 in
set_option maxHeartbeats 8000000 in
theorem makes_any (aT : Option Addr) (cT : Nat) (T : List Ty) (aR : Option Addr) (cR : Nat) (R : List Rt) (t : Int) (aP : Option Addr) (cP : Nat) (p : List Int) (w : World) (hn : T.length ≤ 1000000000000000) (hm : R.length ≤ 1000000000000000) (hcR : R.length ≤ cR) (hnil : aR = none → cR = 0) (hl : Hid (LensT T)) (hT : Hid (TRow w aT T)) (hRr : Hid (RRow w aR R)) (hpn : p.length ≤ 1000000000000000) (hpc : p.length ≤ cP) (hpnil : aP = none → cP = 0) (hPr : Hid (Row .i64 w aP p)) (ht : Hid (Tab w)) :
    Calls Tryd.prog 6 #[.agg #[.slice aT T.length cT, .slice aR R.length cR], .int .i64 t, .slice aP p.length cP] w fun e w' => e = .returned (.bool true) ∧ Below w.heap.size w w' := by
  obtain ⟨w2, hw2⟩ : ∃ wx, wx = w.alloc (.cells #[.slice aT T.length cT, .slice aR R.length cR] 25) := ⟨_, rfl⟩
  have hB2 : Below w.heap.size w w2 := by rw [hw2]; exact below1 _ _
  have k1 : Blk w2 w.heap.size 25 [.slice aT T.length cT, .slice aR R.length cR] := by rw [hw2]; exact Blk.newA w _ _
  have K1 := hide_ k1
  have HB2 := hide_ hB2
  have HAw := hide_ (awake_any w2 (hide_ (ht.out.later hB2)))
  clear k1 hB2
  go_enter Tryd.func6, Tryd.ntmps6
  go_upto_region 1 with fail
  rw [← hw2]
  clear hw2
  go_wp2_with fail
  refine HAw.out.mono ?_
  rintro e w3 ⟨rfl, hB3⟩
  have HB3 := hide_ (below_to HB2.out hB3)
  have K13 := hide_ (K1.out.later hB3)
  have HMd := hide_ (made_any aT cT T aR cR R t aP cP p w w3 hn hm hcR hnil hl HB3 hT (hide_ (hRr.out.later HB3.out)) hpn hpc hpnil (hide_ (hPr.out.later HB3.out)))
  have i0 := K13.out.cell 0; have i1 := K13.out.cell 1
  simp at i0 i1
  clear hB3 HAw K1
  go_wp2_with fail
  refine HMd.out.mono ?_
  rintro e w4 ⟨a, cap, ar, cr, Q, t', v', ok, rfl, HT4, HQ, HR4, HOk, HB4⟩
  have hlc : (cutT T).length ≤ 120 := by simp [cutT]; omega
  have hlr : (R.take 260).length ≤ 260 := by simp; omega
  have HLs := hide_ (cutT_lens T)
  generalize cutT T = U at *
  generalize R.take 260 = Rc at *
  have HB4x := hide_ (below_to HB3.out HB4.out)
  obtain ⟨w5, hw5⟩ : ∃ wx, wx = w4.alloc (.cells #[.slice a U.length cap, .slice ar Rc.length cr] 25) := ⟨_, rfl⟩
  have b5 : Below w4.heap.size w4 w5 := by rw [hw5]; exact below1 _ _
  have k5 : Blk w5 w4.heap.size 25 [.slice a U.length cap, .slice ar Rc.length cr] := by rw [hw5]; exact Blk.newA w4 _ _
  have K5 := hide_ k5
  have HB5 := hide_ (below_to HB4x.out b5)
  have HT5 := hide_ (town_row (HT4.out.later b5) HQ.out)
  have HR5 := hide_ (rown_row (HR4.out.later b5))
  cases ok with
  | false =>
    go_upto_region 4 with fail
    rw [← hw5]
    clear hw5
    go_wp2
    go_ret
    exact ⟨rfl, HB5.out⟩
  | true =>
    obtain ⟨hS, ht0, ht1, p', hIp, hpl⟩ := HOk.out rfl
    have HS := hide_ hS
    obtain ⟨ap, cp, hv', hrp, -⟩ := own_open (hIp.later b5) rfl
    subst hv'
    have HSm := hide_ (some_any a cap U ar cr Rc t' ap p'.length cp p' w5 (by omega) (by omega) HLs HT5 HR5 (hide_ rfl) (hide_ hrp) (hide_ (ht.out.later HB5.out)))
    clear i0 i1 b5 k5 hIp hrp HOk hS
    have i0 := K5.out.cell 0; have i1 := K5.out.cell 1
    simp at i0 i1
    go_upto_region 4 with fail
    rw [← hw5]
    clear hw5
    go_wp2_with fail
    refine HSm.out.mono ?_
    rintro e w6 ⟨v6, rfl, HN6, HB6⟩
    have HB6x := hide_ (below_to HB5.out HB6.out)
    rcases someT_ok (p := p') HS.out ht0 ht1 with h5 | ⟨V, hV, hV0, hV1, hVk⟩
    · have h52 : (someT U Rc t' p').2 = 5 := by rw [h5]
      simp only [h52]
      go_wp2_with (go_at_call 11; refine (num_any _ _).mono ?_; rintro e w' ⟨rfl, rfl⟩)
      all_goals
        go_ret
        exact ⟨rfl, HB6x.out⟩
    · have h02 : (someT U Rc t' p').2 = 0 := by rw [hV]
      rw [hV] at HN6
      simp only at HN6
      simp only [h02]
      have hmk := someT_mk HS.out ht0 ht1 hV
      obtain ⟨nums, hwk, hck, hnl, hhd, hin, hback⟩ := some_back HS.out ht0 ht1 hmk
      have hty : tyV U Rc t' V = (nums, 0, 0) := by
        unfold tyV
        rw [HS.out.chk, if_neg (by simp), if_neg (by omega), hck, if_neg (by simp), hwk]
      have HTy := hide_ hty
      have HBk := hide_ (mk_someT HS.out ht0 ht1 (hback (picksL U nums V) (picksL_len hnl) (fun i s x hs hx => picksL_at hs hx)))
      have HFit := hide_ (wk_fit HS.out ht0 ht1 hwk hck)
      have HHd := hide_ (hhd (fun e => by rw [e] at hV0; simp at hV0))
      have HNl := hide_ hnl
      have HIn := hide_ hin
      have HVk := hide_ hVk
      obtain ⟨gV, c6, ys, hv6, hbg, hnc, -, -, -, -⟩ := ownS_blk HN6.out hV0
      subst hv6
      have HVr6 : Hid (VRow w6 (some ⟨gV, 0, none⟩) V) := hide_ (by
        obtain ⟨a', c', e, -, -, hr⟩ := own_grow nvc_len HN6.out
        injection e with e1 _ _
        subst e1
        exact hr)
      obtain ⟨bT, oT, eT, -, -⟩ := HT5.out.open (by omega)
      subst eT
      have hVz : ((V.length : Int) == 0) = false := by simp; intro h; rw [h] at hV0; simp at hV0
      clear hV hmk hwk hck hnl hhd hin hback hty hVk HSm HMd ys hbg hnc h02
      have HB56 := hide_ HB6.out
      have K56 := hide_ (K5.out.later HB6.out)
      have HAll : Hid (∀ w', Below w6.heap.size w6 w' → TRow w' (some ⟨bT, oT, none⟩) U ∧ RRow w' ar Rc ∧ VRow w' (some ⟨gV, 0, none⟩) V ∧ Tab w' ∧ Blk w' w4.heap.size 25 [.slice (some ⟨bT, oT, none⟩) U.length cap, .slice ar Rc.length cr]) := hide_ (fun w' hB' => ⟨HT5.out.later (below_to HB6.out hB'), HR5.out.later (below_to HB6.out hB'), HVr6.out.later hB', ht.out.later (below_to HB6x.out hB'), K56.out.later hB'⟩)
      clear i0 i1
      have hA6 := HAll.out w6 (Below.refl _ _)
      have HTp := hide_ (types_any (some ⟨bT, oT, none⟩) cap U ar cr Rc t' (some ⟨gV, 0, none⟩) c6 V w6 (by omega) (by omega) (by omega) HLs (hide_ hA6.1) (hide_ hA6.2.1) (hide_ hA6.2.2.1) (hide_ hA6.2.2.2.1))
      rw [HTy.out] at HTp
      have i0 := hA6.2.2.2.2.cell 0; have i1 := hA6.2.2.2.2.cell 1
      simp at i0 i1
      clear hA6
      go_wp2_with (go_at_call 11; refine (num_any _ _).mono ?_; rintro e w' ⟨rfl, rfl⟩)
      refine HTp.out.mono ?_
      rintro e w7 ⟨vl, rfl, HL7, HB7⟩
      simp only at HL7 ⊢
      clear i0 i1 HTp
      obtain ⟨gL, cL, ys, hvl, -, -, -, -, -, -⟩ := ownS_blk HL7.out (by have := HNl.out; omega)
      rw [HNl.out] at hvl
      subst hvl
      clear ys
      obtain ⟨w8, hw8⟩ : ∃ wx, wx = w7.alloc (.cells #[.int .i64 0, .int .i64 0] 40) := ⟨_, rfl⟩
      have b8 : Below w7.heap.size w7 w8 := by rw [hw8]; exact below1 _ _
      have k8 : Blk w8 w7.heap.size 40 [.int .i64 0, .int .i64 0] := by rw [hw8]; exact Blk.newA w7 _ _
      have HB68 := hide_ (below_to HB7.out b8)
      have KF := hide_ k8
      have HL8 := hide_ (HL7.out.later b8)
      have hA8 := HAll.out w8 HB68.out
      have HCk := hide_ (tcheck_any (some ⟨bT, oT, none⟩) cap U ar cr Rc t' (some ⟨gV, 0, none⟩) c6 V w8 (by omega) (by omega) (by omega) HLs (hide_ hA8.1) (hide_ hA8.2.1) (hide_ hA8.2.2.1) (hide_ hA8.2.2.2.1))
      rw [HTy.out] at HCk
      have i0 := hA8.2.2.2.2.cell 0; have i1 := hA8.2.2.2.2.cell 1
      simp at i0 i1
      clear b8 k8 hA8
      go_upto_region 10 with fail
      rw [← hw8]
      clear hw8
      go_wp2_with fail
      refine HCk.out.mono ?_
      rintro e w9 ⟨rfl, hB9⟩
      simp only
      have HB69 := hide_ (below_to HB68.out hB9)
      have HKF9 := KF.out.later hB9
      have n0 := HKF9.cell 0; have n1 := HKF9.cell 1
      have hL9 := (HL8.out.later hB9).at (i := 0) (by have := HNl.out; omega)
      rw [show nums.getD 0 0 = t' by
        have h := HHd.out
        cases hn0 : nums with
        | nil => rw [hn0] at h; simp at h
        | cons y l => rw [hn0] at h; simp at h; simp [List.getD, h]] at hL9
      have hA9 := HAll.out w9 HB69.out
      clear i0 i1
      have i0 := hA9.2.2.2.2.cell 0; have i1 := hA9.2.2.2.2.cell 1
      simp at i0 i1 n0 n1
      have hV0' : (0 : Int) < (V.length : Int) := by omega
      have HPk : Hid (∀ w', Below w9.heap.size w9 w' → Calls Tryd.prog 26 #[.agg #[.slice (some ⟨bT, oT, none⟩) U.length cap, .slice ar Rc.length cr], .int .i64 t', .slice (some ⟨gV, 0, none⟩) V.length c6] w' fun e w'' => ∃ v, e = .returned v ∧ Hid (IOwn w'' w'.heap.size v (picksL U nums V)) ∧ Hid (Below w'.heap.size w' w'')) := hide_ (fun w' hB' => by
        have hA := HAll.out w' (below_to HB69.out hB')
        exact picks_any bT oT cap U ar cr Rc t' gV 0 c6 V w' nums (by omega) (by omega) hV0 (by omega) HS HLs (hide_ hA.1) (hide_ hA.2.1) (hide_ hA.2.2.1) HVk HTy HNl HIn HFit)
      have HSo : Hid (∀ w' (ap2 : Option Addr) (cp2 : Nat), Below w9.heap.size w9 w' → Row .i64 w' ap2 (picksL U nums V) → Calls Tryd.prog 10 #[.agg #[.slice (some ⟨bT, oT, none⟩) U.length cap, .slice ar Rc.length cr], .int .i64 t', .slice ap2 (picksL U nums V).length cp2] w' fun e w'' => ∃ v', e = .returned (.tuple #[v', .int .i64 0]) ∧ Hid (NOwn w'' w'.heap.size v' V) ∧ Hid (Below w'.heap.size w' w'')) := hide_ (fun w' ap2 cp2 hB' hr => by
        have hA := HAll.out w' (below_to HB69.out hB')
        have h := some_any (some ⟨bT, oT, none⟩) cap U ar cr Rc t' ap2 (picksL U nums V).length cp2 (picksL U nums V) w' (by omega) (by omega) HLs (hide_ hA.1) (hide_ hA.2.1) (hide_ rfl) (hide_ hr) (hide_ hA.2.2.2.1)
        rw [HBk.out] at h
        exact h)
      have HSS : Hid (∀ w', Below w9.heap.size w9 w' → Below w9.heap.size w9 w' ∧ w'.cell? ⟨w4.heap.size, 0, none⟩ = some (.slice (some ⟨bT, oT, none⟩) U.length cap) ∧ w'.cell? ⟨w4.heap.size, 1, none⟩ = some (.slice ar Rc.length cr)) := hide_ (fun w' hB' => ⟨hB', (HAll.out w' (below_to HB69.out hB')).2.2.2.2.cell 0, (HAll.out w' (below_to HB69.out hB')).2.2.2.2.cell 1⟩)
      clear hA9 HKF9 hB9 HCk
      go_upto_region 12 with fail
      clear i0 i1 n0 n1 hL9
      refine wp_region_last 11 (fun w' => Below w9.heap.size w9 w' ∧ w'.cell? ⟨w4.heap.size, 0, none⟩ = some (.slice (some ⟨bT, oT, none⟩) U.length cap) ∧ w'.cell? ⟨w4.heap.size, 1, none⟩ = some (.slice ar Rc.length cr)) (by kernel_rfl) (HSS.out _ ((Below.refl w9.heap.size w9).drew)) (fun hHeld => ?_)
      refine wpAnyF_take [11] (by kernel_rfl) (i := 0) (v := ?vm1) rfl (by kernel_rfl) (by kernel_rfl) (by kernel_rfl) (fun _ _ _ h => h) (Or.inl ⟨by kernel_rfl, ?hym1⟩) hHeld ?restm1
      case hym1 => intro w' hSw; (try dsimp only at hSw); go_simp; try with_reducible rfl
      simp only [Act.put]
      refine wpAnyF_take [11] (by kernel_rfl) (i := 1) (v := ?vm2) rfl (by kernel_rfl) (by kernel_rfl) (by kernel_rfl) (fun _ _ _ h => h) (Or.inl ⟨by kernel_rfl, ?hym2⟩) hHeld ?restm2
      case hym2 => intro w' hSw; (try dsimp only at hSw); go_simp; try with_reducible rfl
      simp only [Act.put]
      refine wpAnyF_take [11] (by kernel_rfl) (i := 2) (v := ?vm3) rfl (by kernel_rfl) (by kernel_rfl) (by kernel_rfl) (fun _ _ _ h => h) (Or.inl ⟨by kernel_rfl, ?hym3⟩) hHeld ?restm3
      case hym3 => intro w' hSw; (try dsimp only at hSw); go_simp; try with_reducible rfl
      simp only [Act.put]
      refine wpAnyF_take [11] (by kernel_rfl) (i := 3) (v := ?vm4) rfl (by kernel_rfl) (by kernel_rfl) (by kernel_rfl) (fun _ _ _ h => h) (Or.inl ⟨by kernel_rfl, ?hym4⟩) hHeld ?restm4
      case hym4 => intro w' hSw; (try dsimp only at hSw); go_simp; try with_reducible rfl
      simp only [Act.put]
      refine wpAnyF_take [11] (by kernel_rfl) (i := 4) (v := ?vm5) rfl (by kernel_rfl) (by kernel_rfl) (by kernel_rfl) (fun _ _ _ h => h) (Or.inl ⟨by kernel_rfl, ?hym5⟩) hHeld ?restm5
      case hym5 => intro w' hSw; (try dsimp only at hSw); go_simp; try with_reducible rfl
      simp only [Act.put]
      refine wpAnyF_ready (rs := [5]) (by kernel_rfl) (by simp) ?_
      refine AllReadyF.cons rfl (fun K hK => ?_) AllReadyF.nil
      go_simp
      refine (HPk.out _ ((Below.refl w9.heap.size w9).drew)).mono ?_
      rintro e w10 ⟨vp, rfl, HIp, HB10⟩
      dsimp only
      have HB10x := hide_ (below_to ((Below.refl w9.heap.size w9).drew) HB10.out)
      obtain ⟨ap2, cp2, hvp, hrow2, -⟩ := own_open HIp.out rfl
      subst hvp
      have HRow2 := hide_ hrow2
      clear hrow2
      refine hK.out _ _ (HSS.out _ HB10x.out) (fun hHeld => ?_)
      clear hK K
      refine wpAnyF_ready (rs := [6]) (by kernel_rfl) (by simp) ?_
      refine AllReadyF.cons rfl (fun K hK => ?_) AllReadyF.nil
      go_simp
      refine (HSo.out _ ap2 cp2 HB10x.out HRow2.out).mono ?_
      rintro e w11 ⟨v11, rfl, HN11, HB11⟩
      dsimp only
      have HB11x := hide_ (below_to HB10x.out HB11.out)
      refine hK.out _ _ (HSS.out _ HB11x.out) (fun hHeld => ?_)
      clear hK K
      refine wpAnyF_take [11] (by kernel_rfl) (i := 7) (v := ?vm6) rfl (by kernel_rfl) (by kernel_rfl) (by kernel_rfl) (fun _ _ _ h => h) (Or.inl ⟨by kernel_rfl, ?hym6⟩) hHeld ?restm6
      case hym6 => intro w' hSw; (try dsimp only at hSw); go_simp; try with_reducible rfl
      simp only [Act.put]
      refine wpAnyF_take [11] (by kernel_rfl) (i := 8) (v := ?vm7) rfl (by kernel_rfl) (by kernel_rfl) (by kernel_rfl) (fun _ _ _ h => h) (Or.inl ⟨by kernel_rfl, ?hym7⟩) hHeld ?restm7
      case hym7 => intro w' hSw; (try dsimp only at hSw); go_simp; try with_reducible rfl
      simp only [Act.put]
      refine wpAnyF_take [11] (by kernel_rfl) (i := 9) (v := ?vm8) rfl (by kernel_rfl) (by kernel_rfl) (by kernel_rfl) (fun _ _ _ h => h) (Or.inl ⟨by kernel_rfl, ?hym8⟩) hHeld ?restm8
      case hym8 => intro w' hSw; (try dsimp only at hSw); go_simp; try with_reducible rfl
      simp only [Act.put]
      refine wpAnyF_take [11] (by kernel_rfl) (i := 10) (v := ?vm9) rfl (by kernel_rfl) (by kernel_rfl) (by kernel_rfl) (fun _ _ _ h => h) (Or.inl ⟨by kernel_rfl, ?hym9⟩) hHeld ?restm9
      case hym9 => intro w' hSw; (try dsimp only at hSw); go_simp; try with_reducible rfl
      simp only [Act.put]
      refine wpAnyF_ready (rs := [11]) (by kernel_rfl) (by simp) ?_
      refine AllReadyF.last rfl (fun K hK => ?_)
      go_simp
      refine hK.out _ _ ?_
      clear hK K
      refine wpAnyF_done (by kernel_rfl) ?_ _
      clear HPk HSo HSS hHeld
      obtain ⟨a11, c11, e11, -, -, hr11⟩ := own_grow nvc_len HN11.out
      subst e11
      have HEq := hide_ (equal_yes (some ⟨gV, 0, none⟩) a11 c6 c11 V.length V w11 (hide_ rfl) (by omega) (hide_ (HAll.out w11 (below_to HB69.out HB11x.out)).2.2.1) (hide_ hr11))
      clear hr11
      go_wp2_with (go_at_call 11; refine (num_any _ _).mono ?_; rintro e w' ⟨rfl, rfl⟩)
      refine HEq.out.mono ?_
      rintro e w12 ⟨rfl, hB12⟩
      have HBf := hide_ (below_to HB6x.out (below_to HB69.out (below_to HB11x.out hB12)))
      clear hB12
      go_wp2
      go_ret
      exact ⟨rfl, HBf.out⟩
end Go.Proofs.YtegejchamojfgaaDoor
