import Derived.Test.YtlbgdgobhiokpaaDoorPart04
import Derived.Deep.CutBlock
import Derived.BigRegion

/- read. -/
namespace Go.Proofs.YtlbgdgobhiokpaaDoor
open Go.RowKit
set_option linter.unusedVariables false

set_option maxRecDepth 100000 in
set_option maxHeartbeats 8000000 in
theorem read_any (B b : Nat) (s : ByteArray) (st0 : PS) (w : World) (hR : Hid (RAt B w b s st0)) (hs : s.size ≤ 1048576) (hk : PSok s.size st0) :
    Calls Tryd.prog 37 #[.pointer (some ⟨b, 0, none⟩)] w fun e w' => e = .returned (.bool (okM (tx s) (readT (tx s) st0))) ∧ Hid (RAt B w' b s (readT (tx s) st0)) ∧ Hid (KeptR B w w') := by
  go_enter Tryd.func37, Tryd.ntmps37
  go_wp2_with fail
  go_step3
  go_wp2_with fail
  go_step3
  go_upto_block 0 with fail
  go_cut [] from 3 to 77 (fun wc => ∃ (w1 : World), w1 = wc ∧ PSok s.size (readT (tx s) st0) ∧ Hid (RAt B w1 b s (readT (tx s) st0)) ∧ Hid (KeptR B w w1))
  case first =>
    go_wp2_with fail
    go_loopw [] (fun wr => ∃ (st : PS), PSok s.size st ∧ Hid (readT (tx s) st = readT (tx s) st0) ∧ Hid (RAt B wr b s st) ∧ Hid (KeptR B w wr)) (fun wr => match wr.cell? ⟨b, 1, none⟩ with | some (.int _ i) => s.size - i.toNat | _ => 0)
    case atStart => exact ⟨st0, hk, rfl, hR, KeptR.refl _ _⟩
    case round =>
      clear hR hk
      obtain ⟨⟨p, N, O, en⟩, hk, HT, HRA, HK⟩ := hrel
      obtain ⟨vn, vo, hr⟩ := HRA.out
      have HR : Hid (Rdr B wr b s p vn vo N O en) := hr
      clear hr
      have hp : p ≤ s.size := hk.pl
      have c0 := HR.out.c0; have c1 := HR.out.c1
      by_cases hend : p = s.size
      · subst hend
        have HE : Hid (readT (tx s) st0 = ⟨s.size, N, O, en⟩) := by show _ = _; rw [← HT.out]; exact readT_none (by rw [tx_len]; exact Nat.le_refl _)
        have hbq : ¬ ((s.size : Int) < (s.size : Int)) := by omega
        go_wp2_with fail
        go_quiet (fail)
        go_wp2_with fail
        go_meet
        case rel => rw [HE.out]; exact ⟨_, rfl, hk, ⟨vn, vo, HR.out.drewN _⟩, HK.out.drewN _⟩
      · have hqs : p < s.size := by omega
        have hqs' : (p : Int) < s.size := by omega
        obtain ⟨x, hx⟩ : ∃ x : Int, (((s[p]'hqs).toNat : Nat) : Int) = x := ⟨_, rfl⟩
        have htx : (tx s)[p]? = some x := by rw [tx_at s p hqs, hx]
        have HX : Hid (readT (tx s) st0 = if (rndM (tx s) x ⟨p, N, O, en⟩).2 = true then readT (tx s) (rndM (tx s) x ⟨p, N, O, en⟩).1 else (rndM (tx s) x ⟨p, N, O, en⟩).1) := by
          show _ = _
          rw [← HT.out]
          exact readT_some (by rw [tx_len]; exact hk) htx
        have HOK : Hid (PSok s.size (rndM (tx s) x ⟨p, N, O, en⟩).1 ∧ ((rndM (tx s) x ⟨p, N, O, en⟩).2 = true → p < (rndM (tx s) x ⟨p, N, O, en⟩).1.p)) := by
          have h1 := rndM_ok (t := tx s) (c := x) (st := ⟨p, N, O, en⟩) (by rw [tx_len]; exact hk) (by rw [tx_len]; exact hqs)
          rw [tx_len] at h1
          exact ⟨h1.1, h1.2.2⟩
        clear HT
        by_cases hcl : x = 93 ∨ x = 125 ∨ x = 62
        · have HY : Hid (rndM (tx s) x ⟨p, N, O, en⟩ = if mayC N O en x = true then (⟨p + 1, N, popO N O.tail, true⟩, true) else (⟨p, N, O, en⟩, false)) := by show _ = _; rw [rndM, if_pos hcl]
          have HR0 : Hid (∀ a, Rdr B (wr.drewN a) b s p vn vo N O en) := fun a => HR.out.drewN a
          have HK0 : Hid (∀ a, KeptR B w (wr.drewN a)) := fun a => HK.out.drewN a
          have HM0 : Hid (wr.cell? ⟨b, 1, none⟩ = some (.int .i64 p)) := c1
          go_wp2_with fail
          go_quiet (fail)
          have HR1 : Hid (Rdr B (wr.drewN nq) b s p vn vo N O en) := HR0.out nq
          have HK1 : Hid (KeptR B w (wr.drewN nq)) := HK0.out nq
          generalize wr.drewN nq = wq at *
          clear c0 c1 HR0 HK0 HR HK HRA
          have c0 := HR1.out.c0; have c1 := HR1.out.c1
          go_wp2_with fail
          go_quiet (fail)
          have HR2 : Hid (Rdr B (wq.drewN nq) b s p vn vo N O en) := HR1.out.drewN nq
          have HK2 : Hid (KeptR B w (wq.drewN nq)) := HK1.out.drewN nq
          generalize wq.drewN nq = wy at *
          clear c0 c1 HR1 HK1
          cases hm : mayC N O en x with
          | false =>
            rw [hm, if_neg (by simp)] at HY
            have HE : Hid (readT (tx s) st0 = ⟨p, N, O, en⟩) := by show _ = _; rw [HX.out, HY.out]; rfl
            have HW : Hid (∀ w', Below wy.heap.size wy w' → RAt B w' b s ⟨p, N, O, en⟩ ∧ KeptR B w w') := fun w' hB => ⟨⟨vn, vo, HR2.out.later hB⟩, HK2.out.trans (KeptR.of_below HR2.out.base hB)⟩
            have hcon := close1_any B b p x s vn vo N O en wy HR2 hk.on (by have := hk.np; simp only at this; omega) (by have := hk.np; have := hk.ol; simp only at *; omega) hcl
            rw [hm] at hcon
            rcases hcl with rfl | rfl | rfl
            all_goals
              go_wp2_with fail
              refine hcon.mono ?_; rintro e w2 ⟨rfl, hB2⟩
              obtain ⟨H1, H2⟩ := HW.out w2 hB2
              have H3 : Hid _ := H1
              have H4 : Hid _ := H2
              clear H1 H2 hcon
              go_wp2_with fail
              go_meet
              case rel => rw [HE.out]; exact ⟨_, rfl, hk, H3, H4⟩
          | true =>
            rw [hm, if_pos rfl] at HY
            obtain ⟨o, O2, rfl⟩ : ∃ o O2, O = o :: O2 := by
              cases O with
              | nil => simp [mayC] at hm
              | cons o O2 => exact ⟨o, O2, rfl⟩
            have hok : PSok s.size ⟨p + 1, N, popO N O2, true⟩ := by have := HOK.out.1; rw [HY.out] at this; exact this
            have HE : Hid (readT (tx s) ⟨p + 1, N, popO N O2, true⟩ = readT (tx s) st0) := by show _ = _; rw [HX.out, HY.out]; rfl
            have hcon := close1_any B b p x s vn vo N (o :: O2) en wy HR2 hk.on (by have := hk.np; simp only at this; omega) (by have := hk.np; have := hk.ol; simp only at *; omega) hcl
            rw [hm] at hcon
            have hbd : N.length ≤ 1048576 ∧ O2.length ≤ 1048576 := by have h1 := hk.np; have h2 := hk.ol; simp at h1 h2; omega
            have hon : ∀ y ∈ O2, y < N.length := fun y hy => hk.on y (by simp [hy])
            have HNX : Hid (∀ w2, Below wy.heap.size wy w2 → ∃ go co, vo = .slice (some ⟨go, 0, none⟩) (O2.length + 1) co ∧ O2.length + 1 ≤ co ∧ co ≤ maxLen ∧ w2.cell? ⟨b, 1, none⟩ = some (.int .i64 p) ∧ w2.frozen? ⟨b, 1, none⟩ = false ∧
                (w2.setCell ⟨b, 1, none⟩ (.int .i64 ((p : Int) + 1))).cell? ⟨b, 3, none⟩ = some vo ∧ (w2.setCell ⟨b, 1, none⟩ (.int .i64 ((p : Int) + 1))).frozen? ⟨b, 3, none⟩ = false ∧
                Rdr B (((w2.setCell ⟨b, 1, none⟩ (.int .i64 ((p : Int) + 1))).setCell ⟨b, 3, none⟩ (.slice (some ⟨go, 0, none⟩) O2.length co)).drew) b s (p + 1) vn (.slice (some ⟨go, 0, none⟩) O2.length co) N O2 en ∧
                KeptR B w (((w2.setCell ⟨b, 1, none⟩ (.int .i64 ((p : Int) + 1))).setCell ⟨b, 3, none⟩ (.slice (some ⟨go, 0, none⟩) O2.length co)).drew)) := fun w2 hB2 => by
              have r2 := HR2.out.later hB2
              have r3 := r2.setp (p + 1)
              obtain ⟨go, co, e1, e2, e3, e4⟩ := r3.popo
              exact ⟨go, co, e1, e2, e3, r2.c1, r2.blk.frozen 1, r3.c3, r3.blk.frozen 3, e4.drew, ((HK2.out.trans (KeptR.of_below HR2.out.base hB2)).trans ((r2.keptb 1 _).trans (r3.keptb 3 _))).drew⟩
            rcases hcl with rfl | rfl | rfl
            all_goals
              go_wp2_with fail
              refine hcon.mono ?_; rintro e w2 ⟨rfl, hB2⟩
              obtain ⟨go, co, rfl, hc1, hc2, d1, z1, d3, z3, r4, k4⟩ := HNX.out w2 hB2
              unfold maxLen at hc2
              have H3 : Hid _ := r4
              have H4 : Hid _ := k4
              clear r4 k4 hcon hB2
              have hw1 : IntKind.i64.wrap (O2.length : Int) = O2.length := i64w _ (by omega)
              have hw2 : IntKind.i64.wrap ((O2.length : Int) + 1 - 1) = O2.length := by rw [i64w _ (by omega)]; omega
              go_wp2_with fail
              go_region
              go_wp2_with fail
              refine (end_any B b (p + 1) s vn _ N O2 en _ H3 hon (by omega) (by omega)).mono ?_; rintro e w5 ⟨rfl, vo5, H5, HK5⟩
              go_wp2
              go_roundw
              case rel => exact ⟨_, hok, HE, ⟨vn, vo5, H5.out⟩, H4.out.trans HK5.out⟩
              case measure => rw [H5.out.c1, HM0.out]; simp; omega
        · have hb1 : (x == 93) = false := by simp; omega
          have hb2 : (x == 125) = false := by simp; omega
          have hb3 : (x == 62) = false := by simp; omega
          by_cases h44 : x = 44
          · subst h44
            have HY : Hid (rndM (tx s) 44 ⟨p, N, O, en⟩ = if mayGo N O en = true then (if (takeW (tx s) p [44, 32]).2 = true then (⟨(takeW (tx s) p [44, 32]).1, N, O, false⟩, true) else (⟨(takeW (tx s) p [44, 32]).1, N, O, en⟩, false)) else (⟨p, N, O, en⟩, false)) := rfl
            have HR0 : Hid (∀ a, Rdr B (wr.drewN a) b s p vn vo N O en) := fun a => HR.out.drewN a
            have HK0 : Hid (∀ a, KeptR B w (wr.drewN a)) := fun a => HK.out.drewN a
            have HM0 : Hid (wr.cell? ⟨b, 1, none⟩ = some (.int .i64 p)) := c1
            go_wp2_with fail
            go_quiet (fail)
            have HR1 : Hid (Rdr B (wr.drewN nq) b s p vn vo N O en) := HR0.out nq
            have HK1 : Hid (KeptR B w (wr.drewN nq)) := HK0.out nq
            generalize wr.drewN nq = wq at *
            clear c0 c1 HR0 HK0 HR HK HRA
            have c0 := HR1.out.c0; have c1 := HR1.out.c1
            go_wp2_with fail
            go_quiet (fail)
            have HR2 : Hid (Rdr B (wq.drewN nq) b s p vn vo N O en) := HR1.out.drewN nq
            have HK2 : Hid (KeptR B w (wq.drewN nq)) := HK1.out.drewN nq
            generalize wq.drewN nq = wy at *
            clear c0 c1 HR1 HK1
            have hbd : N.length ≤ 1048576 ∧ O.length ≤ 1048576 := by have h1 := hk.np; have h2 := hk.ol; simp only at h1 h2; omega
            have hon : ∀ y ∈ O, y < N.length := hk.on
            go_wp2_with fail
            refine (goOn_any B b p s vn vo N O en wy HR2 hon (by omega) (by omega)).mono ?_; rintro e w2 ⟨rfl, hB2⟩
            have HR3 : Hid (Rdr B w2 b s p vn vo N O en) := HR2.out.later hB2
            have HK3 : Hid (KeptR B w w2) := HK2.out.trans (KeptR.of_below HR2.out.base hB2)
            clear HR2 HK2 hB2
            cases hm : mayGo N O en with
            | false =>
              rw [hm, if_neg (by simp)] at HY
              have HE : Hid (readT (tx s) st0 = ⟨p, N, O, en⟩) := by show _ = _; rw [HX.out, HY.out]; rfl
              go_wp2_with fail
              go_meet
              case rel => rw [HE.out]; exact ⟨_, rfl, hk, ⟨vn, vo, HR3.out⟩, HK3⟩
            | true =>
              rw [hm, if_pos rfl] at HY
              go_wp2_with fail
              refine (take_any B b p s ⟨#[44, 32]⟩ vn vo N O en w2 HR3 hp hs (by decide)).mono ?_; rintro e w3 ⟨rfl, H3, HK4⟩
              have htx2 : tx ⟨#[44, 32]⟩ = [44, 32] := rfl
              rw [htx2] at H3 ⊢
              clear htx2 HR3
              generalize takeW (tx s) p [44, 32] = u at *
              obtain ⟨q2, d⟩ := u
              simp only at HY H3
              cases d with
              | false =>
                rw [if_neg (by simp)] at HY
                have hok : PSok s.size ⟨q2, N, O, en⟩ := by have := HOK.out.1; rw [HY.out] at this; exact this
                have HE : Hid (readT (tx s) st0 = ⟨q2, N, O, en⟩) := by show _ = _; rw [HX.out, HY.out]; rfl
                go_wp2_with fail
                go_meet
                case rel => rw [HE.out]; exact ⟨_, rfl, hok, ⟨vn, vo, H3.out⟩, HK3.out.trans HK4.out⟩
              | true =>
                rw [if_pos rfl] at HY
                have hok : PSok s.size ⟨q2, N, O, false⟩ := by have := HOK.out.1; rw [HY.out] at this; exact this
                have hpq : p < q2 := by have := HOK.out.2; rw [HY.out] at this; exact this rfl
                have hq2 : q2 ≤ s.size := hok.pl
                have HE : Hid (readT (tx s) ⟨q2, N, O, false⟩ = readT (tx s) st0) := by show _ = _; rw [HX.out, HY.out]; rfl
                have d4 := H3.out.c4
                have z4 := H3.out.blk.frozen 4
                go_wp2
                go_roundw
                case rel => exact ⟨_, hok, HE, ⟨vn, vo, H3.out.seten false⟩, (HK3.out.trans HK4.out).trans (H3.out.keptb 4 _)⟩
                case measure => rw [(H3.out.seten false).c1, HM0.out]; simp; omega
          · have hb4 : (x == 44) = false := by simpa using h44
            have HY : Hid (rndM (tx s) x ⟨p, N, O, en⟩ = if en = true then (⟨p, N, O, en⟩, false) else beginM (tx s) x ⟨p, N, O, en⟩) := by show _ = _; rw [rndM, if_neg hcl, if_neg h44]
            have HR0 : Hid (∀ a, Rdr B (wr.drewN a) b s p vn vo N O en) := fun a => HR.out.drewN a
            have HK0 : Hid (∀ a, KeptR B w (wr.drewN a)) := fun a => HK.out.drewN a
            have HM0 : Hid (wr.cell? ⟨b, 1, none⟩ = some (.int .i64 p)) := c1
            go_wp2_with fail
            go_quiet (fail)
            have HR1 : Hid (Rdr B (wr.drewN nq) b s p vn vo N O en) := HR0.out nq
            have HK1 : Hid (KeptR B w (wr.drewN nq)) := HK0.out nq
            generalize wr.drewN nq = wq at *
            clear c0 c1 HR0 HK0 HR HK HRA
            have c0 := HR1.out.c0; have c1 := HR1.out.c1
            go_wp2_with fail
            go_quiet (fail)
            have HR2 : Hid (Rdr B (wq.drewN nq) b s p vn vo N O en) := HR1.out.drewN nq
            have HK2 : Hid (KeptR B w (wq.drewN nq)) := HK1.out.drewN nq
            generalize wq.drewN nq = wy at *
            clear c0 c1 HR1 HK1
            have d4 := HR2.out.c4
            cases en with
            | true =>
              rw [if_pos rfl] at HY
              have HE : Hid (readT (tx s) st0 = ⟨p, N, O, true⟩) := by show _ = _; rw [HX.out, HY.out]; rfl
              go_wp2_with fail
              go_meet
              case rel => rw [HE.out]; exact ⟨_, rfl, hk, ⟨vn, vo, HR2.out⟩, HK2⟩
            | false =>
              rw [if_neg (by simp)] at HY
              go_wp2_with fail
              refine (begin2_any B b x s ⟨p, N, O, false⟩ wy ⟨vn, vo, HR2.out⟩ hs hk hqs).mono ?_; rintro e w3 ⟨rfl, H3, HK4⟩
              rw [HY.out] at HX HOK
              generalize beginM (tx s) x ⟨p, N, O, false⟩ = u at *
              obtain ⟨st2, d⟩ := u
              simp only at HX HOK H3
              have hok := HOK.out.1
              cases d with
              | false =>
                rw [if_neg (by simp)] at HX
                go_wp2_with fail
                go_meet
                case rel => rw [HX.out]; exact ⟨_, rfl, hok, H3, HK2.out.trans HK4.out⟩
              | true =>
                rw [if_pos rfl] at HX
                have hpq : p < st2.p := HOK.out.2 rfl
                have hq2 : st2.p ≤ s.size := hok.pl
                obtain ⟨vn3, vo3, r3⟩ := H3.out
                have k1 : Hid _ := r3.c1
                clear r3
                go_wp2
                go_roundw
                case rel => exact ⟨_, hok, HX.out.symm, H3, HK2.out.trans HK4.out⟩
                case measure => rw [k1.out, HM0.out]; simp; omega
  case rest =>
    clear hR hk
    obtain ⟨w1, rfl, hok, HRA, HK⟩ := hcut
    obtain ⟨st, hst⟩ : ∃ st, readT (tx s) st0 = st := ⟨_, rfl⟩
    rw [hst] at hok HRA
    have HST : Hid (readT (tx s) st0 = st) := hst
    clear hst
    obtain ⟨p, N, O, en⟩ := st
    obtain ⟨vn, vo, hr⟩ := HRA.out
    have HR : Hid (Rdr B w1 b s p vn vo N O en) := hr
    clear hr HRA
    have c0 := HR.out.c0; have c1 := HR.out.c1; have c3 := HR.out.c3; have c4 := HR.out.c4
    have hv : ∃ a k, vo = .slice a O.length k := by
      rcases HR.out.opn.2 with ⟨e, h0⟩ | ⟨g, cap, cur, e, _⟩
      · exact ⟨none, 0, by rw [e, h0]⟩
      · exact ⟨_, _, e⟩
    obtain ⟨a, k, rfl⟩ := hv
    have hfin : Hid (okM (tx s) ⟨p, N, O, en⟩ = (decide (p = s.size) && en && decide (O = []))) := by show _ = _; rw [okM, tx_len]
    by_cases h1 : p = s.size
    · subst h1
      cases en with
      | true =>
        cases O with
        | nil =>
          simp only [List.length_nil] at c3
          go_wp2_with fail
          go_quiet (fail)
          go_wp2
          try rw [Exit.noGoto_ret]
          go_ret
          rw [HST.out]
          exact ⟨by rw [hfin.out]; simp, ⟨vn, _, HR.out.drewN _⟩, HK.out.drewN _⟩
        | cons o O =>
          simp only [List.length_cons] at c3
          have hb0 : (((O.length : Int) + 1) == 0) = false := by simp; omega
          go_wp2_with fail
          go_quiet (fail)
          go_wp2
          try rw [Exit.noGoto_ret]
          go_ret
          rw [HST.out]
          exact ⟨by rw [hfin.out]; simp, ⟨vn, _, HR.out.drewN _⟩, HK.out.drewN _⟩
      | false =>
        go_wp2_with fail
        go_quiet (fail)
        go_wp2
        try rw [Exit.noGoto_ret]
        go_ret
        rw [HST.out]
        exact ⟨by rw [hfin.out]; simp, ⟨vn, _, HR.out.drewN _⟩, HK.out.drewN _⟩
    · have hb1 : ((p : Int) == (s.size : Int)) = false := by simp; omega
      go_wp2_with fail
      go_quiet (fail)
      go_wp2
      try rw [Exit.noGoto_ret]
      go_ret
      rw [HST.out]
      exact ⟨by rw [hfin.out]; simp [h1], ⟨vn, _, HR.out.drewN _⟩, HK.out.drewN _⟩
end Go.Proofs.YtlbgdgobhiokpaaDoor

/- Parse. -/
namespace Go.Proofs.YtlbgdgobhiokpaaDoor
open Go.RowKit
set_option linter.unusedVariables false

def st00 : PS := ⟨0, [], [], false⟩
def parseN (t : List Int) : List Nd := if okM t (readT t st00) = true then (readT t st00).N else []
def parseF (t : List Int) : Int × Int := if okM t (readT t st00) = true then (0, 0) else (41, (readT t st00).p)
theorem ret12 {R : Ending → World → Prop} {tmps : Array Value} {g : Nat} {x y : Value} {w : World} (hp : tmps.getD 3 undef = .pointer (some ⟨g, 0, none⟩)) (hK : Blk w g 29 [x, y]) (hR : R (.returned (.tuple #[tmps.getD 2 undef, .agg #[x, y]])) w) :
    bodyPost Tryd.prog Tryd.f12 R Exit.ret ⟨tmps, []⟩ w :=
  bodyPost_ret (results_tmp_cell_row rfl _ _ _ _ #[x, y] _ _ hp hK Tryd.underlying29 rfl (by show _ = some 2; kernel_rfl)) rfl hR
set_option maxRecDepth 100000 in
set_option maxHeartbeats 8000000 in
theorem parse_any (s : ByteArray) (w : World) (hs : s.size ≤ 1048576) :
    Calls Tryd.prog 12 #[.string s] w fun e w' => ∃ v, e = .returned (.tuple #[v, fltv (parseF (tx s))]) ∧ Hid (w'.ownsRow w.heap.size 37 3 v (parseN (tx s)).length (cellsN (parseN (tx s)))) ∧ Below w.heap.size w w' := by
  obtain ⟨wA, hwA⟩ : ∃ wA, wA = (w.alloc (.cells #[.int .i64 0, .int .i64 0] 29)).alloc (.cells #[.string s, .int .i64 0, .slice none 0 0, .slice none 0 0, .bool false] 92) := ⟨_, rfl⟩
  have K29 : Hid (Blk wA w.heap.size 29 [.int .i64 0, .int .i64 0]) := by rw [hwA]; exact (Blk.newA w _ 29).alloc _
  have K92 : Blk wA (w.heap.size + 1) 92 [.string s, .int .i64 0, .slice none 0 0, .slice none 0 0, .bool false] := by
    rw [hwA]
    have := Blk.newA (w.alloc (.cells #[.int .i64 0, .int .i64 0] 29)) #[.string s, .int .i64 0, .slice none 0 0, .slice none 0 0, .bool false] 92
    simpa using this
  have HBA : Hid (Below w.heap.size w wA) := by rw [hwA]; exact ((Below.refl _ _).alloc (Nat.le_refl _) _).alloc (by simp) _
  have HRA : Hid (RAt w.heap.size wA (w.heap.size + 1) s st00) := ⟨_, _, K92, by omega, World.ownsRow_nil _ _ _ _, World.ownsRow_nil _ _ _ _⟩
  clear K92
  have hl : ¬ ((1048576 : Int) < (s.size : Int)) := by omega
  go_enter Tryd.func12, Tryd.ntmps12
  go_upto_region 4 with fail
  rw [← hwA]
  clear hwA
  go_wp2_with fail
  refine (read_any w.heap.size (w.heap.size + 1) s st00 wA HRA hs (PSok.begin _)).mono ?_; rintro e w1 ⟨rfl, H1, HK1⟩
  have K1 : Hid (Blk w1 w.heap.size 29 [.int .i64 0, .int .i64 0]) := HK1.out.oth _ _ _ (by decide) (by decide) (by decide) K29.out
  have HB1 : Hid (Below w.heap.size w w1) := HBA.out.trans HK1.out.bel
  have e0 := K1.out.cell 0; have e1 := K1.out.cell 1
  have z0 := K1.out.frozen 0; have z1 := K1.out.frozen 1
  simp at e0 e1
  have HN : Hid (parseN (tx s) = if okM (tx s) (readT (tx s) st00) = true then (readT (tx s) st00).N else []) := rfl
  have HF : Hid (parseF (tx s) = if okM (tx s) (readT (tx s) st00) = true then (0, 0) else (41, ((readT (tx s) st00).p : Int))) := rfl
  clear K29 HBA HRA HK1
  generalize readT (tx s) st00 = st at *
  obtain ⟨p, N, O, en⟩ := st
  obtain ⟨vn, vo, hr⟩ := H1.out
  have HR : Hid (Rdr w.heap.size w1 (w.heap.size + 1) s p vn vo N O en) := hr
  have c1 := HR.out.c1; have c2 := HR.out.c2
  clear hr H1
  cases hok : okM (tx s) ⟨p, N, O, en⟩ with
  | true =>
    rw [hok, if_pos rfl] at HN HF
    go_wp2
    exact ret12 rfl ((K1.out.set 0 _).set 1 _) ⟨vn, by rw [HF.out]; rfl, by rw [HN.out]; exact own_far (own_far HR.out.nod K1.out (by decide)) (K1.out.set 0 _) (by decide), (HB1.out.setCell (Nat.le_refl _) _).setCell (Nat.le_refl _) _⟩
  | false =>
    rw [hok, if_neg (by simp)] at HN HF
    go_wp2_with fail
    go_region
    go_wp2
    exact ret12 rfl ((K1.out.set 0 _).set 1 _).drew ⟨_, by rw [HF.out]; rfl, by rw [HN.out]; exact World.ownsRow_nil _ _ _ _, ((HB1.out.setCell (Nat.le_refl _) _).setCell (Nat.le_refl _) _).drew⟩
end Go.Proofs.YtlbgdgobhiokpaaDoor

/- Equal, sameInts, num, fault. -/
namespace Go.Proofs.YtlbgdgobhiokpaaDoor
open Go.RowKit
set_option linter.unusedVariables false

theorem num_any (k : Int) (w : World) : Calls Tryd.prog 13 #[.int .i64 k] w fun e w' => e = .returned (.int .i64 k) ∧ w = w' := by
  go_enter Tryd.func13, Tryd.ntmps13
  go_wp2
  go_ret
  exact ⟨rfl, rfl⟩
theorem getD_eq (l m : List Nd) (h : l.length = m.length) (hk : ∀ i, i < l.length → l.getD i nil0 = m.getD i nil0) : l = m := by
  refine List.ext_getElem h fun i h1 h2 => ?_
  have := hk i h1
  rw [List.getD, List.getD, List.getElem?_eq_getElem h1, List.getElem?_eq_getElem h2] at this
  exact this
theorem nd_ne (x y : Nd) (h : x ≠ y) : (x.1 == y.1 && x.2.1 == y.2.1 && x.2.2 == y.2.2) = false := by
  obtain ⟨a, b, c⟩ := x
  obtain ⟨d, e, f⟩ := y
  simp only [ne_eq, Prod.mk.injEq, not_and] at h
  by_cases h1 : a = d
  · by_cases h2 : b = e
    · simp [h1, h2, h h1 h2]
    · simp [h2]
  · simp [h1]
set_option maxRecDepth 100000 in
set_option maxHeartbeats 8000000 in
theorem refEqual_any (a1 a2 : Option Addr) (n1 n2 k1 k2 : Nat) (l m : List Nd) (w : World) (h1 : l.length = n1) (h2 : m.length = n2) (hs : n1 ≤ 1000000) (hs2 : n2 ≤ 1000000) (r1 : Hid (NRow w a1 l)) (r2 : Hid (NRow w a2 m)) :
    Calls Tryd.prog 16 #[.slice a1 n1 k1, .slice a2 n2 k2] w fun e w' => e = .returned (.bool (decide (l = m))) ∧ Below w.heap.size w w' := by
  go_enter Tryd.func16, Tryd.ntmps16
  by_cases hn : n1 = n2
  · subst hn
    go_wp2_with fail
    go_loopw [5] (fun i wr => ∃ k : Nat, k ≤ n1 ∧ i = .int .i64 k ∧ Hid (∀ j, j < k → l.getD j nil0 = m.getD j nil0) ∧ Hid (Below w.heap.size w wr)) (fun i _ => n1 - (intOf i).toNat)
    case atStart => exact ⟨0, Nat.zero_le _, rfl, fun j hj => by omega, Below.refl _ _⟩
    case round =>
      obtain ⟨k, hk, rfl, HE, HB⟩ := hrel
      by_cases hlt : k < n1
      · have hlt' : (k : Int) < n1 := by omega
        obtain ⟨b1, o1, rfl, hb1, hc1⟩ := r1.out.open (by omega)
        obtain ⟨b2, o2, rfl, hb2, hc2⟩ := r2.out.open (by omega)
        obtain ⟨x0, x1, x2⟩ := hc1 k (by omega)
        obtain ⟨y0, y1, y2⟩ := hc2 k (by omega)
        have d0 := (HB.out.cell (p := ⟨b1, o1 + k * 3, none⟩) hb1).trans x0
        have d1 := (HB.out.cell (p := ⟨b1, o1 + k * 3 + 1, none⟩) hb1).trans x1
        have d2 := (HB.out.cell (p := ⟨b1, o1 + k * 3 + 2, none⟩) hb1).trans x2
        have f0 := (HB.out.cell (p := ⟨b2, o2 + k * 3, none⟩) hb2).trans y0
        have f1 := (HB.out.cell (p := ⟨b2, o2 + k * 3 + 1, none⟩) hb2).trans y1
        have f2 := (HB.out.cell (p := ⟨b2, o2 + k * 3 + 2, none⟩) hb2).trans y2
        have HEk : Hid (l.getD k nil0 = m.getD k nil0 → ∀ j, j < k + 1 → l.getD j nil0 = m.getD j nil0) := fun h j hj => by
          rcases Nat.lt_or_ge j k with h3 | h3
          · exact HE.out j h3
          · obtain rfl : j = k := by omega
            exact h
        have HNE : Hid (l.getD k nil0 ≠ m.getD k nil0 → decide (l = m) = false) := fun h => decide_eq_false fun e => h (by rw [e])
        clear hc1 hc2 x0 x1 x2 y0 y1 y2 HE
        generalize l.getD k nil0 = x at *
        generalize m.getD k nil0 = y at *
        obtain ⟨xk, xn, xc⟩ := x
        obtain ⟨yk, yn, yc⟩ := y
        simp only at d0 d1 d2 f0 f1 f2
        by_cases hxy : ((xk, xn, xc) : Nd) = (yk, yn, yc)
        · have HE2 : Hid _ := HEk.out hxy
          have e0 : xk = yk ∧ xn = yn ∧ xc = yc := by simpa using hxy
          obtain ⟨rfl, rfl, rfl⟩ := e0
          go_wp2_with fail
          go_quiet (fail)
          go_wp2
          go_roundw
          case rel => exact ⟨k + 1, by omega, by go_num, HE2, ⟨HB.out.os, HB.out.tape, HB.out.output, HB.out.size, HB.out.block⟩⟩
          case measure => simp [intOf]; omega
        · have HF : Hid (decide (l = m) = false) := HNE.out hxy
          have hcases : (xk == yk) = false ∨ (xk = yk ∧ (xn == yn) = false) ∨ (xk = yk ∧ xn = yn ∧ (xc == yc) = false) := by
            by_cases e1 : xk = yk
            · by_cases e2 : xn = yn
              · refine .inr (.inr ⟨e1, e2, ?_⟩)
                have : ¬ xc = yc := fun e3 => hxy (by rw [e1, e2, e3])
                simpa using this
              · exact .inr (.inl ⟨e1, by simpa using e2⟩)
            · exact .inl (by simpa using e1)
          clear hxy HNE HEk
          rcases hcases with hb | ⟨rfl, hb⟩ | ⟨rfl, rfl, hb⟩
          all_goals
            go_wp2_with fail
            go_quiet (fail)
            go_wp2
            go_ret
            exact ⟨by rw [HF.out]; rfl, ⟨HB.out.os, HB.out.tape, HB.out.output, HB.out.size, HB.out.block⟩⟩
      · obtain rfl : k = n1 := by omega
        have HF : Hid (decide (l = m) = true) := decide_eq_true (getD_eq l m (by omega) (fun i hi => HE.out i (by omega)))
        go_wp2
        go_ret
        exact ⟨by rw [HF.out]; rfl, HB.out⟩
  · have HF : Hid (decide (l = m) = false) := decide_eq_false fun e => hn (by rw [← h1, ← h2, e])
    have hb : ((n1 : Int) == (n2 : Int)) = false := by simp; omega
    go_wp2
    go_ret
    exact ⟨by rw [HF.out]; rfl, Below.refl _ _⟩
end Go.Proofs.YtlbgdgobhiokpaaDoor

/- slices.Equal, Equal, sameInts, fault. -/
namespace Go.Proofs.YtlbgdgobhiokpaaDoor
open Go.RowKit
set_option linter.unusedVariables false

set_option maxRecDepth 100000 in
set_option maxHeartbeats 8000000 in
theorem slEqual_any (a1 a2 : Option Addr) (n1 n2 k1 k2 : Nat) (l m : List Nd) (w : World) (h1 : l.length = n1) (h2 : m.length = n2) (hs : n1 ≤ 1000000) (hs2 : n2 ≤ 1000000) (r1 : Hid (NRow w a1 l)) (r2 : Hid (NRow w a2 m)) :
    Calls Tryd.prog 38 #[.slice a1 n1 k1, .slice a2 n2 k2] w fun e w' => e = .returned (.bool (decide (l = m))) ∧ Below w.heap.size w w' := by
  go_enter Tryd.func38, Tryd.ntmps38
  by_cases hn : n1 = n2
  · subst hn
    go_wp2_with fail
    go_loopw [13] (fun i wr => ∃ k : Nat, k ≤ n1 ∧ i = .int .i64 k ∧ Hid (∀ j, j < k → l.getD j nil0 = m.getD j nil0) ∧ Hid (Below w.heap.size w wr)) (fun i _ => n1 - (intOf i).toNat)
    case atStart => exact ⟨0, Nat.zero_le _, rfl, fun j hj => by omega, Below.refl _ _⟩
    case round =>
      obtain ⟨k, hk, rfl, HE, HB⟩ := hrel
      by_cases hlt : k < n1
      · have hlt' : (k : Int) < n1 := by omega
        obtain ⟨b1, o1, rfl, hb1, hc1⟩ := r1.out.open (by omega)
        obtain ⟨b2, o2, rfl, hb2, hc2⟩ := r2.out.open (by omega)
        obtain ⟨x0, x1, x2⟩ := hc1 k (by omega)
        obtain ⟨y0, y1, y2⟩ := hc2 k (by omega)
        have d0 := (HB.out.cell (p := ⟨b1, o1 + k * 3, none⟩) hb1).trans x0
        have d1 := (HB.out.cell (p := ⟨b1, o1 + k * 3 + 1, none⟩) hb1).trans x1
        have d2 := (HB.out.cell (p := ⟨b1, o1 + k * 3 + 2, none⟩) hb1).trans x2
        have f0 := (HB.out.cell (p := ⟨b2, o2 + k * 3, none⟩) hb2).trans y0
        have f1 := (HB.out.cell (p := ⟨b2, o2 + k * 3 + 1, none⟩) hb2).trans y1
        have f2 := (HB.out.cell (p := ⟨b2, o2 + k * 3 + 2, none⟩) hb2).trans y2
        have HEk : Hid (l.getD k nil0 = m.getD k nil0 → ∀ j, j < k + 1 → l.getD j nil0 = m.getD j nil0) := fun h j hj => by
          rcases Nat.lt_or_ge j k with h3 | h3
          · exact HE.out j h3
          · obtain rfl : j = k := by omega
            exact h
        have HNE : Hid (l.getD k nil0 ≠ m.getD k nil0 → decide (l = m) = false) := fun h => decide_eq_false fun e => h (by rw [e])
        clear hc1 hc2 x0 x1 x2 y0 y1 y2 HE
        generalize l.getD k nil0 = x at *
        generalize m.getD k nil0 = y at *
        obtain ⟨xk, xn, xc⟩ := x
        obtain ⟨yk, yn, yc⟩ := y
        simp only at d0 d1 d2 f0 f1 f2
        by_cases hxy : ((xk, xn, xc) : Nd) = (yk, yn, yc)
        · have HE2 : Hid _ := HEk.out hxy
          have e0 : xk = yk ∧ xn = yn ∧ xc = yc := by simpa using hxy
          obtain ⟨rfl, rfl, rfl⟩ := e0
          go_wp2_with fail
          go_quiet (fail)
          go_wp2
          go_roundw
          case rel => exact ⟨k + 1, by omega, by go_num, HE2, ⟨HB.out.os, HB.out.tape, HB.out.output, HB.out.size, HB.out.block⟩⟩
          case measure => simp [intOf]; omega
        · have HF : Hid (decide (l = m) = false) := HNE.out hxy
          have hcases : (xk == yk) = false ∨ (xk = yk ∧ (xn == yn) = false) ∨ (xk = yk ∧ xn = yn ∧ (xc == yc) = false) := by
            by_cases e1 : xk = yk
            · by_cases e2 : xn = yn
              · refine .inr (.inr ⟨e1, e2, ?_⟩)
                have : ¬ xc = yc := fun e3 => hxy (by rw [e1, e2, e3])
                simpa using this
              · exact .inr (.inl ⟨e1, by simpa using e2⟩)
            · exact .inl (by simpa using e1)
          clear hxy HNE HEk
          rcases hcases with hb | ⟨rfl, hb⟩ | ⟨rfl, rfl, hb⟩
          all_goals
            go_wp2_with fail
            go_quiet (fail)
            go_wp2
            go_ret
            exact ⟨by rw [HF.out]; rfl, ⟨HB.out.os, HB.out.tape, HB.out.output, HB.out.size, HB.out.block⟩⟩
      · obtain rfl : k = n1 := by omega
        have HF : Hid (decide (l = m) = true) := decide_eq_true (getD_eq l m (by omega) (fun i hi => HE.out i (by omega)))
        go_wp2
        go_ret
        exact ⟨by rw [HF.out]; rfl, HB.out⟩
  · have HF : Hid (decide (l = m) = false) := decide_eq_false fun e => hn (by rw [← h1, ← h2, e])
    have hb : ((n1 : Int) == (n2 : Int)) = false := by simp; omega
    go_wp2
    go_ret
    exact ⟨by rw [HF.out]; rfl, Below.refl _ _⟩
theorem equal_any (a1 a2 : Option Addr) (n1 n2 k1 k2 : Nat) (l m : List Nd) (w : World) (h1 : l.length = n1) (h2 : m.length = n2) (hs : n1 ≤ 1000000) (hs2 : n2 ≤ 1000000) (r1 : Hid (NRow w a1 l)) (r2 : Hid (NRow w a2 m)) :
    Calls Tryd.prog 15 #[.slice a1 n1 k1, .slice a2 n2 k2] w fun e w' => e = .returned (.bool (decide (l = m))) ∧ Below w.heap.size w w' := by
  go_enter Tryd.func15, Tryd.ntmps15
  go_wp2_with fail
  refine (slEqual_any a1 a2 n1 n2 k1 k2 l m w h1 h2 hs hs2 r1 r2).mono ?_; rintro e w1 ⟨rfl, hB1⟩
  go_wp2
  go_ret
  exact ⟨rfl, hB1⟩
theorem fault_any (x y e0 a0 : Int) (w : World) : Calls Tryd.prog 14 #[.agg #[.int .i64 x, .int .i64 y], .int .i64 e0, .int .i64 a0] w fun e w' => e = .returned (.bool (decide (x = e0 ∧ y = a0))) ∧ Below w.heap.size w w' := by
  go_enter Tryd.func14, Tryd.ntmps14
  by_cases h1 : x = e0
  · subst h1
    by_cases h2 : y = a0
    · subst h2
      go_wp2_with (go_at_call 13; refine (num_any _ _).mono ?_; rintro e w' ⟨rfl, rfl⟩)
      go_ret
      exact ⟨by simp, (Below.refl _ _).alloc (Nat.le_refl _) _⟩
    · have hb : (y == a0) = false := by simpa using h2
      go_wp2_with (go_at_call 13; refine (num_any _ _).mono ?_; rintro e w' ⟨rfl, rfl⟩)
      go_ret
      exact ⟨by simp, (Below.refl _ _).alloc (Nat.le_refl _) _⟩
  · have hb : (x == e0) = false := by simpa using h1
    go_wp2_with (go_at_call 13; refine (num_any _ _).mono ?_; rintro e w' ⟨rfl, rfl⟩)
    go_ret
    exact ⟨by simp [h1], (Below.refl _ _).alloc (Nat.le_refl _) _⟩
theorem getI_eq (l m : List Int) (h : l.length = m.length) (hk : ∀ i, i < l.length → l.getD i 0 = m.getD i 0) : l = m := by
  refine List.ext_getElem h fun i h1 h2 => ?_
  have := hk i h1
  rw [List.getD, List.getD, List.getElem?_eq_getElem h1, List.getElem?_eq_getElem h2] at this
  exact this
set_option maxRecDepth 100000 in
set_option maxHeartbeats 8000000 in
theorem sameInts_any (a1 a2 : Option Addr) (n1 n2 k1 k2 : Nat) (l m : List Int) (w : World) (h1 : l.length = n1) (h2 : m.length = n2) (hs : n1 ≤ 1000000) (hs2 : n2 ≤ 1000000) (r1 : Hid (Row .i64 w a1 l)) (r2 : Hid (Row .i64 w a2 m)) :
    Calls Tryd.prog 33 #[.slice a1 n1 k1, .slice a2 n2 k2] w fun e w' => e = .returned (.bool (decide (l = m))) ∧ Below w.heap.size w w' := by
  go_enter Tryd.func33, Tryd.ntmps33
  by_cases hn : n1 = n2
  · subst hn
    go_wp2_with fail
    go_loopw [5] (fun i wr => ∃ k : Nat, k ≤ n1 ∧ i = .int .i64 k ∧ Hid (∀ j, j < k → l.getD j 0 = m.getD j 0) ∧ Hid (Below w.heap.size w wr)) (fun i _ => n1 - (intOf i).toNat)
    case atStart => exact ⟨0, Nat.zero_le _, rfl, fun j hj => by omega, Below.refl _ _⟩
    case round =>
      obtain ⟨k, hk, rfl, HE, HB⟩ := hrel
      by_cases hlt : k < n1
      · have hlt' : (k : Int) < n1 := by omega
        obtain ⟨b1, o1, rfl, hb1, hc1⟩ := r1.out.open (by omega)
        obtain ⟨b2, o2, rfl, hb2, hc2⟩ := r2.out.open (by omega)
        have d0 := (HB.out.cell (p := ⟨b1, o1 + k, none⟩) hb1).trans (hc1 k (by omega))
        have f0 := (HB.out.cell (p := ⟨b2, o2 + k, none⟩) hb2).trans (hc2 k (by omega))
        have HEk : Hid (l.getD k 0 = m.getD k 0 → ∀ j, j < k + 1 → l.getD j 0 = m.getD j 0) := fun h j hj => by
          rcases Nat.lt_or_ge j k with h3 | h3
          · exact HE.out j h3
          · obtain rfl : j = k := by omega
            exact h
        have HNE : Hid (l.getD k 0 ≠ m.getD k 0 → decide (l = m) = false) := fun h => decide_eq_false fun e => h (by rw [e])
        clear hc1 hc2 HE
        generalize l.getD k 0 = x at *
        generalize m.getD k 0 = y at *
        by_cases hxy : x = y
        · have HE2 : Hid _ := HEk.out hxy
          subst hxy
          go_wp2_with fail
          go_quiet (fail)
          go_wp2
          go_roundw
          case rel => exact ⟨k + 1, by omega, by go_num, HE2, ⟨HB.out.os, HB.out.tape, HB.out.output, HB.out.size, HB.out.block⟩⟩
          case measure => simp [intOf]; omega
        · have HF : Hid (decide (l = m) = false) := HNE.out hxy
          have hb : (x == y) = false := by simpa using hxy
          go_wp2_with fail
          go_quiet (fail)
          go_wp2
          go_ret
          exact ⟨by rw [HF.out]; rfl, ⟨HB.out.os, HB.out.tape, HB.out.output, HB.out.size, HB.out.block⟩⟩
      · obtain rfl : k = n1 := by omega
        have HF : Hid (decide (l = m) = true) := decide_eq_true (getI_eq l m (by omega) (fun i hi => HE.out i (by omega)))
        go_wp2
        go_ret
        exact ⟨by rw [HF.out]; rfl, HB.out⟩
  · have HF : Hid (decide (l = m) = false) := decide_eq_false fun e => hn (by rw [← h1, ← h2, e])
    have hb : ((n1 : Int) == (n2 : Int)) = false := by simp; omega
    go_wp2
    go_ret
    exact ⟨by rw [HF.out]; rfl, Below.refl _ _⟩
end Go.Proofs.YtlbgdgobhiokpaaDoor

/- An arena without gaps, in memory; refuse. -/
namespace Go.Proofs.YtlbgdgobhiokpaaDoor
open Go.RowKit
set_option linter.unusedVariables false

def cellsS (S : Stk) : List Value := S.flatMap fun e => [.int .i64 e.1, .int .i64 e.2]
theorem cellsS_len (S : Stk) : (cellsS S).length = S.length * 2 := by
  induction S with
  | nil => rfl
  | cons x N ih => rw [cellsS, List.flatMap_cons, List.length_append]; rw [cellsS] at ih; rw [ih]; simp; omega
theorem cellsS_append (N M : Stk) : cellsS (N ++ M) = cellsS N ++ cellsS M := by simp [cellsS]
theorem cellsS_at : ∀ (S : Stk) (i : Nat), i < S.length → (cellsS S)[i * 2]? = some (.int .i64 (S.getD i (0, 0)).1) ∧ (cellsS S)[i * 2 + 1]? = some (.int .i64 (S.getD i (0, 0)).2)
  | [], i, h => by simp at h
  | x :: N, 0, _ => ⟨rfl, rfl⟩
  | x :: N, i + 1, h => by
    have ih := cellsS_at N i (by simpa using h)
    have e : ∀ j, (cellsS (x :: N))[j + 2]? = (cellsS N)[j]? := fun j => by simp [cellsS]
    rw [show (i + 1) * 2 = i * 2 + 2 by omega, show i * 2 + 2 + 1 = (i * 2 + 1) + 2 by omega, e, e]
    simpa using ih
structure Ar (B : Nat) (w : World) (b : Nat) (vn vs : Value) (N : List Nd) (S : Stk) : Prop where
  blk : Blk w b 101 [vn, vs, .map none]
  hb : B ≤ b
  nod : w.ownsRow B 37 3 vn N.length (cellsN N)
  spo : w.ownsRow B 103 2 vs S.length (cellsS S)
/-- Below B nothing has turned, above it nothing but arenas, nodes and spots. -/
structure KeptA (B : Nat) (w w' : World) : Prop where
  bel : Below B w w'
  oth : ∀ g t xs, t ≠ 101 → t ≠ 37 → t ≠ 103 → Blk w g t xs → Blk w' g t xs
section
variable {B b : Nat} {w w' w1 : World} {vn vs v : Value} {N : List Nd} {S : Stk}
theorem KeptA.refl (B : Nat) (w : World) : KeptA B w w := ⟨Below.refl _ _, fun _ _ _ _ _ _ h => h⟩
theorem KeptA.trans (h : KeptA B w w1) (k : KeptA B w1 w') : KeptA B w w' := ⟨h.bel.trans k.bel, fun g t xs h1 h2 h3 hb => k.oth g t xs h1 h2 h3 (h.oth g t xs h1 h2 h3 hb)⟩
theorem KeptA.of_below (hB : B ≤ w.heap.size) (h : Below w.heap.size w w') : KeptA B w w' := ⟨h.mono hB, fun g t xs _ _ _ hb => hb.later h⟩
theorem KeptA.drew (h : KeptA B w w1) : KeptA B w w1.drew := ⟨h.bel.drew, h.oth⟩
theorem Ar.later (h : Ar B w b vn vs N S) (hB : Below w.heap.size w w') : Ar B w' b vn vs N S :=
  ⟨h.blk.later hB, h.hb, ownS_upd h.nod (Upd.of_below (S := fun _ => False) hB) (fun _ _ h => h), ownS_upd h.spo (Upd.of_below (S := fun _ => False) hB) (fun _ _ h => h)⟩
theorem Ar.base (h : Ar B w b vn vs N S) : B ≤ w.heap.size := Nat.le_of_lt (Nat.lt_of_le_of_lt h.hb h.blk.lt)
theorem Ar.c0 (h : Ar B w b vn vs N S) : w.cell? ⟨b, 0, none⟩ = some vn := h.blk.cell 0
theorem Ar.c1 (h : Ar B w b vn vs N S) : w.cell? ⟨b, 1, none⟩ = some vs := h.blk.cell 1
theorem Ar.c2 (h : Ar B w b vn vs N S) : w.cell? ⟨b, 2, none⟩ = some (.map none) := h.blk.cell 2
theorem Ar.vn_is (h : Ar B w b vn vs N S) : ∃ a c, vn = .slice a N.length c ∧ c ≤ 9223372036854775807 := by
  rcases h.nod.2 with ⟨e, h0⟩ | ⟨g, cap, cur, e, _, _, _, hm, _⟩
  · exact ⟨none, 0, by rw [e, h0], by omega⟩
  · unfold maxLen at hm; exact ⟨_, _, e, hm⟩
theorem Ar.node (h : Ar B w b vn vs N S) {o : Nat} (ho : o < N.length) :
    ∃ gn cn, vn = .slice (some ⟨gn, 0, none⟩) N.length cn ∧ B ≤ gn ∧ N.length ≤ cn ∧ cn ≤ maxLen ∧ gn < w.heap.size ∧ w.cell? ⟨gn, o * 3, none⟩ = some (.int .i64 (N.getD o nil0).1) ∧ w.cell? ⟨gn, o * 3 + 1, none⟩ = some (.int .u64 (N.getD o nil0).2.1) ∧ w.cell? ⟨gn, o * 3 + 2, none⟩ = some (.int .i64 (N.getD o nil0).2.2) ∧
      w.frozen? ⟨gn, o * 3 + 2, none⟩ = false ∧ ∃ ys, Blk w gn 37 ys := by
  obtain ⟨g, cap, ys, e, hb, hn, hm, hl, ht, hK⟩ := ownS_blk h.nod (by omega)
  have hat : ∀ i, i < N.length * 3 → ys[i]? = (cellsN N)[i]? := fun i hi => by rw [← ht, List.getElem?_take, if_pos hi]
  obtain ⟨c0, c1, c2⟩ := cellsN_at N o ho
  exact ⟨g, cap, e, hb, hn, hm, hK.lt, by rw [hK.cell, hat _ (by omega), c0], by rw [hK.cell, hat _ (by omega), c1], by rw [hK.cell, hat _ (by omega), c2], hK.frozen _, ys, hK⟩
end
theorem look103 (a c : Int) (w : World) : (Instr.lookup 99 (.map none) (.agg #[.int .i64 a, .int .i64 c]) true).run Tryd.prog w = .ok (.tuple #[.agg #[], .bool false]) w := by kernel_rfl
def refuseR (N : List Nd) (p k : Int) : Int :=
  if N.length = 0 then (if p = -1 then 0 else 3)
  else if p < 0 ∨ (N.length : Int) ≤ p ∨ k < 0 then 3
  else if mostK (N.getD p.toNat nil0).1 ≤ k then 40 else if k < (N.getD p.toNat nil0).2.2 then 40 else 0
def spotv (p k : Int) : Value := .agg #[.int .i64 p, .int .i64 k]
set_option maxRecDepth 100000 in
set_option maxHeartbeats 8000000 in
theorem refuse_any (B b : Nat) (p k : Int) (vn vs : Value) (N : List Nd) (S : Stk) (w : World) (hA : Hid (Ar B w b vn vs N S)) (hN : N.length ≤ 1000000) :
    Calls Tryd.prog 45 #[.pointer (some ⟨b, 0, none⟩), spotv p k] w fun e w' => e = .returned (.int .i64 (refuseR N p k)) ∧ Below w.heap.size w w' := by
  unfold spotv
  obtain ⟨wB, hwB⟩ : ∃ wB, wB = w.alloc (.cells #[.int .i64 p, .int .i64 k] 103) := ⟨_, rfl⟩
  have HBB : Hid (Below w.heap.size w wB) := by rw [hwB]; exact (Below.refl _ _).alloc (Nat.le_refl _) _
  have KB : Hid (Blk wB w.heap.size 103 [.int .i64 p, .int .i64 k]) := by rw [hwB]; exact Blk.newA w _ 103
  have HA : Hid (Ar B wB b vn vs N S) := hA.out.later HBB.out
  have c0 := HA.out.c0; have c2 := HA.out.c2
  have s0 : wB.cell? ⟨w.heap.size, 0, none⟩ = some (.int .i64 p) := KB.out.cell 0
  have s1 : wB.cell? ⟨w.heap.size, 1, none⟩ = some (.int .i64 k) := KB.out.cell 1
  obtain ⟨an, cn0, rfl, hcn0⟩ := HA.out.vn_is
  have hbl := HA.out.blk.lt
  have hsl := KB.out.lt
  go_enter Tryd.func45, Tryd.ntmps45
  go_upto_region 1 with fail
  rw [← hwB]
  clear hwB hA
  by_cases h0 : N.length = 0
  · have HR : Hid (refuseR N p k = if p = -1 then 0 else 3) := by show _ = _; rw [refuseR, if_pos h0]
    rw [h0] at c0
    by_cases h1 : p = -1
    · subst h1
      rw [if_pos rfl] at HR
      go_wp2
      go_ret
      exact ⟨ret_int HR.out.symm, HBB.out⟩
    · have hb1 : (p == -1) = false := by simpa using h1
      rw [if_neg h1] at HR
      go_wp2
      go_ret
      exact ⟨ret_int HR.out.symm, HBB.out⟩
  · have hb0 : ((N.length : Int) == 0) = false := beq_eq_false_iff_ne.2 (by omega)
    have HR0 : Hid (refuseR N p k = if p < 0 ∨ (N.length : Int) ≤ p ∨ k < 0 then 3 else if mostK (N.getD p.toNat nil0).1 ≤ k then 40 else if k < (N.getD p.toNat nil0).2.2 then 40 else 0) := by show _ = _; rw [refuseR, if_neg h0]
    by_cases h1 : p < 0 ∨ (N.length : Int) ≤ p ∨ k < 0
    · rw [if_pos h1] at HR0
      have hc3 : (p < 0) ∨ (¬ p < 0 ∧ (N.length : Int) ≤ p) ∨ (¬ p < 0 ∧ ¬ (N.length : Int) ≤ p ∧ k < 0) := by omega
      clear h1
      rcases hc3 with h1 | ⟨h1, h2⟩ | ⟨h1, h2, h3⟩
      all_goals
        go_wp2_with fail
        go_quiet (fail)
        go_wp2
        go_ret
        exact ⟨ret_int HR0.out.symm, ⟨HBB.out.os, HBB.out.tape, HBB.out.output, HBB.out.size, HBB.out.block⟩⟩
    · rw [if_neg h1] at HR0
      obtain ⟨o, rfl⟩ := Int.eq_ofNat_of_zero_le (show 0 ≤ p by omega)
      have ho : o < N.length := by omega
      have ho' : (o : Int) < N.length := by omega
      obtain ⟨gn, cn, hvn, bn, hn1, hn2, hgn, n0, n1, n2, zn, -⟩ := HA.out.node ho
      have e1 : an = some ⟨gn, 0, none⟩ ∧ cn0 = cn := by simpa using hvn
      obtain ⟨rfl, rfl⟩ := e1
      have HR1 : Hid (refuseR N (o : Int) k = if mostK (N.getD o nil0).1 ≤ k then 40 else if k < (N.getD o nil0).2.2 then 40 else 0) := HR0.out
      clear HR0
      obtain ⟨x, hx⟩ : ∃ x, N.getD o nil0 = x := ⟨_, rfl⟩
      rw [hx] at n0 n1 n2 HR1
      clear hx
      obtain ⟨xk, xn, xc⟩ := x
      simp only at n0 n1 n2 HR1
      have hp0 : ¬ (o : Int) < 0 := by omega
      have hp1 : ¬ (N.length : Int) ≤ o := by omega
      have hk0 : ¬ k < 0 := by omega
      clear h1 hvn
      go_wp2_with fail
      go_quiet (fail)
      have HAq : Hid (Ar B (wB.drewN nq) b (.slice (some ⟨gn, 0, none⟩) N.length cn0) vs N S) := ⟨HA.out.blk, HA.out.hb, HA.out.nod, HA.out.spo⟩
      have KBq : Hid (Blk (wB.drewN nq) w.heap.size 103 [.int .i64 (o : Int), .int .i64 k]) := KB.out
      have HBq : Hid (Below w.heap.size w (wB.drewN nq)) := ⟨HBB.out.os, HBB.out.tape, HBB.out.output, HBB.out.size, HBB.out.block⟩
      have HNq : Hid ((wB.drewN nq).cell? ⟨gn, o * 3, none⟩ = some (.int .i64 xk) ∧ (wB.drewN nq).cell? ⟨gn, o * 3 + 1, none⟩ = some (.int .u64 xn) ∧ (wB.drewN nq).cell? ⟨gn, o * 3 + 2, none⟩ = some (.int .i64 xc) ∧ gn < (wB.drewN nq).heap.size) := ⟨n0, n1, n2, hgn⟩
      generalize wB.drewN nq = wq at *
      clear HA KB HBB n0 n1 n2 zn c0 c2 s0 s1 hbl hsl hgn bn
      obtain ⟨n0, n1, n2, hgn⟩ := HNq.out
      have hbl := HAq.out.blk.lt
      have hsl := KBq.out.lt
      have c0 := HAq.out.c0
      have s0 : wq.cell? ⟨w.heap.size, 0, none⟩ = some (.int .i64 (o : Int)) := KBq.out.cell 0
      have HS : Hid (∀ ob, (wq.alloc ob).cell? ⟨b, 0, none⟩ = some (.slice (some ⟨gn, 0, none⟩) N.length cn0) ∧ (wq.alloc ob).cell? ⟨w.heap.size, 0, none⟩ = some (.int .i64 (o : Int)) ∧ (wq.alloc ob).cell? ⟨gn, o * 3, none⟩ = some (.int .i64 xk) ∧ (wq.alloc ob).cell? ⟨gn, o * 3 + 1, none⟩ = some (.int .u64 xn) ∧ (wq.alloc ob).cell? ⟨gn, o * 3 + 2, none⟩ = some (.int .i64 xc)) := fun ob => ⟨(cell_alloc wq ob _ _ hbl).trans c0, (cell_alloc wq ob _ _ hsl).trans s0, (cell_alloc wq ob _ _ hgn).trans n0, (cell_alloc wq ob _ _ hgn).trans n1, (cell_alloc wq ob _ _ hgn).trans n2⟩
      go_wp2_with fail
      go_region_held_law (fun w' => w'.cell? ⟨b, 0, none⟩ = some (.slice (some ⟨gn, 0, none⟩) N.length cn0) ∧ w'.cell? ⟨w.heap.size, 0, none⟩ = some (.int .i64 (o : Int)) ∧ w'.cell? ⟨gn, o * 3, none⟩ = some (.int .i64 xk) ∧ w'.cell? ⟨gn, o * 3 + 1, none⟩ = some (.int .u64 xn) ∧ w'.cell? ⟨gn, o * 3 + 2, none⟩ = some (.int .i64 xc)) (first | assumption | exact ⟨c0, s0, n0, n1, n2⟩ | exact HS.out _) (fail)
      clear HS n0 n1 n2 c0 s0
      go_wp2_with fail
      refine (bounds_any xk _).mono ?_; rintro e w2 ⟨rfl, hB2⟩
      have hBx : Below wq.heap.size wq w2 := (((Below.refl wq.heap.size wq).alloc (Nat.le_refl _) _).drew).trans (hB2.mono (by simp))
      have K2 := (Blk.newA wq #[.int .i64 xk, .int .u64 xn, .int .i64 xc] 37).drew.later hB2
      have HA2 := HAq.out.later hBx
      have KB2 := KBq.out.later hBx
      have HB2 : Hid (Below w.heap.size w w2) := HBq.out.trans (hBx.mono HBq.out.size)
      obtain ⟨wz, hwz⟩ : ∃ wz, wz = w2.alloc (.cells #[.int .u64 (mostN xk), .int .i64 (leastK xk), .int .i64 (mostK xk)] 105) := ⟨_, rfl⟩
      have hBz : Below w2.heap.size w2 wz := by rw [hwz]; exact (Below.refl _ _).alloc (Nat.le_refl _) _
      have HAz : Hid (Ar B wz b (.slice (some ⟨gn, 0, none⟩) N.length cn0) vs N S) := HA2.later hBz
      have z0 : wz.cell? ⟨w.heap.size, 0, none⟩ = some (.int .i64 (o : Int)) := (KB2.later hBz).cell 0
      have z1 : wz.cell? ⟨w.heap.size, 1, none⟩ = some (.int .i64 k) := (KB2.later hBz).cell 1
      have z2 : wz.cell? ⟨wq.heap.size, 2, none⟩ = some (.int .i64 xc) := (K2.later hBz).cell 2
      have z3 : wz.cell? ⟨w2.heap.size, 2, none⟩ = some (.int .i64 (mostK xk)) := by rw [hwz]; exact (Blk.newA w2 _ 105).cell 2
      have z4 := HAz.out.c2
      have HBz : Hid (Below w.heap.size w wz) := HB2.out.trans (hBz.mono HB2.out.size)
      have za1 : ∀ ob, (wz.alloc ob).cell? ⟨w.heap.size, 1, none⟩ = some (.int .i64 k) := fun ob => ((KB2.later hBz).alloc ob).cell 1
      have za2 : ∀ ob, (wz.alloc ob).cell? ⟨wq.heap.size, 2, none⟩ = some (.int .i64 xc) := fun ob => ((K2.later hBz).alloc ob).cell 2
      unfold bnd
      go_upto_region 9 with fail
      rw [← hwz]
      clear hwz hBz K2 HA2 KB2 HB2 hB2 hBx HAq KBq HBq HNq
      by_cases h4 : mostK xk ≤ k
      · rw [if_pos h4] at HR1
        go_wp2
        go_ret
        exact ⟨ret_int HR1.out.symm, HBz.out⟩
      · rw [if_neg h4] at HR1
        have hlook := look103 (o : Int) k
        have HS2 : Hid (∀ ob, (wz.alloc ob).cell? ⟨b, 2, none⟩ = some (.map none) ∧ (wz.alloc ob).cell? ⟨w.heap.size, 0, none⟩ = some (.int .i64 (o : Int)) ∧ (wz.alloc ob).cell? ⟨w.heap.size, 1, none⟩ = some (.int .i64 k)) := fun ob => ⟨(HAz.out.blk.alloc ob).cell 2, (cell_alloc wz ob _ _ (World.block_lt_of_cell? wz _ z0)).trans z0, za1 ob⟩
        go_wp2_with fail
        go_region_held_law (fun w' => w'.cell? ⟨b, 2, none⟩ = some (.map none) ∧ w'.cell? ⟨w.heap.size, 0, none⟩ = some (.int .i64 (o : Int)) ∧ w'.cell? ⟨w.heap.size, 1, none⟩ = some (.int .i64 k)) (first | assumption | exact ⟨z4, z0, z1⟩ | exact HS2.out _) (fail)
        all_goals
          clear HS2 hlook z0 z3 z4
          by_cases h5 : k < xc
          · rw [if_pos h5] at HR1
            go_wp2
            go_ret
            exact ⟨ret_int HR1.out.symm, (HBz.out.alloc HBz.out.size _).drew⟩
          · rw [if_neg h5] at HR1
            go_wp2
            go_ret
            exact ⟨ret_int HR1.out.symm, (HBz.out.alloc HBz.out.size _).drew⟩
end Go.Proofs.YtlbgdgobhiokpaaDoor

/- adopt, Add, NewArena, Count: an arena without gaps. -/
namespace Go.Proofs.YtlbgdgobhiokpaaDoor
open Go.RowKit
set_option linter.unusedVariables false

section
variable {B b : Nat} {w w' w1 : World} {vn vs v : Value} {N : List Nd} {S : Stk} {o : Nat}
theorem keptA_cell {t : TypeId} {g i : Nat} {ys : List Value} {u : Value} (hg : Blk w g t ys) (hB : B ≤ g) (ht : t = 101 ∨ t = 37 ∨ t = 103) : KeptA B w (w.setCell ⟨g, i, none⟩ u) := by
  refine ⟨(Below.refl _ _).setCell hB _, fun q t' xs h1 h2 h3 hb => hb.other _ _ fun e => ?_⟩
  have e2 : q = g := e
  subst e2
  have := blk_type hb hg
  rcases ht with rfl | rfl | rfl <;> simp_all
theorem Ar.inc (h : Ar B w b vn vs N S) (ho : o < N.length) {gn cn : Nat} (hv : vn = .slice (some ⟨gn, 0, none⟩) N.length cn) :
    Ar B (w.setCell ⟨gn, o * 3 + 2, none⟩ (.int .i64 ((N.getD o nil0).2.2 + 1))) b vn vs (incK N o) S ∧ KeptA B w (w.setCell ⟨gn, o * 3 + 2, none⟩ (.int .i64 ((N.getD o nil0).2.2 + 1))) := by
  obtain ⟨g, cap, ys, e, hb, hn, hm, hl, ht, hK⟩ := ownS_blk h.nod (by omega)
  rw [hv] at e
  have e1 : gn = g ∧ cn = cap := by simpa using e
  obtain ⟨rfl, rfl⟩ := e1
  subst hv
  refine ⟨⟨h.blk.other _ _ fun e => ?_, h.hb, ?_, own_far h.spo hK (by decide)⟩, keptA_cell hK hb (.inr (.inl rfl))⟩
  · have e2 : b = gn := e
    subst e2
    exact absurd (blk_type h.blk hK) (by decide)
  · have h2 := ownS_of_blk (n := N.length) (c := 3) (hK.set (o * 3 + 2) (.int .i64 ((N.getD o nil0).2.2 + 1))) hb (by simpa using hl) hn hm
    rw [List.take_set, ht, cellsN_set N o _ ho] at h2
    have e3 : (incK N o).length = N.length := by simp [incK]
    rw [e3]
    exact h2
theorem Ar.push (h : Ar B w b vn vs N S) (k n : Int) (hN : N.length ≤ 2000000) :
    ∃ g cap w', (Builtin.append_ #[22, 22] 22 #[vn, .slice (some ⟨w.heap.size, 0, none⟩) 1 1]).run Tryd.prog (w.alloc (.cells #[.int .i64 k, .int .u64 n, .int .i64 0] 37)) = .ok (.slice (some ⟨g, 0, none⟩) (N.length + 1) cap) w' ∧ w'.cell? ⟨b, 0, none⟩ = some vn ∧ w'.frozen? ⟨b, 0, none⟩ = false ∧ Ar B (w'.setCell ⟨b, 0, none⟩ (.slice (some ⟨g, 0, none⟩) (N.length + 1) cap)) b (.slice (some ⟨g, 0, none⟩) (N.length + 1) cap) vs (N ++ [(k, n, 0)]) S ∧ KeptA B w (w'.setCell ⟨b, 0, none⟩ (.slice (some ⟨g, 0, none⟩) (N.length + 1) cap)) ∧
      ∀ q xs, Blk w q 103 xs → Blk (w'.setCell ⟨b, 0, none⟩ (.slice (some ⟨g, 0, none⟩) (N.length + 1) cap)) q 103 xs := by
  have hB := h.base
  obtain ⟨g, cap, w', r1, o1, u1, l1⟩ := run_pushS (P := Tryd.prog) (t := 22) (e := 37) (z := .agg #[.int .i64 0, .int .u64 0, .int .i64 0]) (bytes := 24) Tryd.underlying22 (by kernel_rfl) rfl (by decide) w 22 h.nod (ndc (k, n, 0)) rfl (by intro u hu; simp [ndc] at hu; rcases hu with rfl | rfl | rfl <;> rfl) (by unfold maxLen; omega) (by omega) hB
  have hb1 : Blk w' b 101 [vn, vs, .map none] := h.blk.upd u1 fun hk => by
    obtain ⟨ys, hy⟩ := ownS_type h.nod hk
    exact absurd (blk_type h.blk hy) (by decide)
  have ho1 : w'.ownsRow B 103 2 vs S.length (cellsS S) := ownS_upd h.spo u1 fun q hq hk => by
    obtain ⟨ys, hy⟩ := ownS_type h.nod hk
    obtain ⟨zs, hz⟩ := ownS_type h.spo hq
    exact absurd (blk_type hy hz) (by decide)
  have k1 : KeptA B w w' := ⟨u1.below B hB (fun k hk => (h.nod.lt k hk).1), fun q t xs h1 h2 h3 hb => hb.upd u1 fun hk => by
    obtain ⟨ys, hy⟩ := ownS_type h.nod hk
    exact h2 (blk_type hb hy)⟩
  refine ⟨g, cap, w', r1, hb1.cell 0, hb1.frozen 0, ⟨hb1.set 0 _, h.hb, ?_, own_far ho1 hb1 (by decide)⟩, k1.trans (keptA_cell hb1 h.hb (.inl rfl)), fun q xs hq => ?_⟩
  · have h2 := own_far (i := 0) (u := .slice (some ⟨g, 0, none⟩) (N.length + 1) cap) o1 hb1 (by decide)
    rw [List.length_append, cellsN_append]
    exact h2
  · have hq1 : Blk w' q 103 xs := hq.upd u1 fun hk => by
      obtain ⟨ys, hy⟩ := ownS_type h.nod hk
      exact absurd (blk_type hq hy) (by decide)
    exact hq1.other _ _ fun e => by
      have e2 : q = b := e
      subst e2
      exact absurd (blk_type hq1 hb1) (by decide)
theorem Ar.pushs (h : Ar B w b vn vs N S) (p k : Int) (hS : S.length ≤ 2000000) :
    ∃ g cap w', (Builtin.append_ #[98, 98] 98 #[vs, .slice (some ⟨w.heap.size, 0, none⟩) 1 1]).run Tryd.prog (w.alloc (.cells #[.int .i64 p, .int .i64 k] 103)) = .ok (.slice (some ⟨g, 0, none⟩) (S.length + 1) cap) w' ∧ w'.cell? ⟨b, 1, none⟩ = some vs ∧ w'.frozen? ⟨b, 1, none⟩ = false ∧ Ar B (w'.setCell ⟨b, 1, none⟩ (.slice (some ⟨g, 0, none⟩) (S.length + 1) cap)) b vn (.slice (some ⟨g, 0, none⟩) (S.length + 1) cap) N (S ++ [(p, k)]) ∧ KeptA B w (w'.setCell ⟨b, 1, none⟩ (.slice (some ⟨g, 0, none⟩) (S.length + 1) cap)) ∧
      ∀ q xs, vs.ownBlock ≠ some q → Blk w q 103 xs → Blk w' q 103 xs ∧ Blk (w'.setCell ⟨b, 1, none⟩ (.slice (some ⟨g, 0, none⟩) (S.length + 1) cap)) q 103 xs := by
  have hB := h.base
  obtain ⟨g, cap, w', r1, o1, u1, l1⟩ := run_pushS (P := Tryd.prog) (t := 98) (e := 103) (z := .agg #[.int .i64 0, .int .i64 0]) (bytes := 16) Tryd.underlying98 (by kernel_rfl) rfl (by decide) w 98 h.spo [.int .i64 p, .int .i64 k] rfl (by intro u hu; simp at hu; rcases hu with rfl | rfl <;> rfl) (by unfold maxLen; omega) (by omega) hB
  have hb1 : Blk w' b 101 [vn, vs, .map none] := h.blk.upd u1 fun hk => by
    obtain ⟨ys, hy⟩ := ownS_type h.spo hk
    exact absurd (blk_type h.blk hy) (by decide)
  have ho1 : w'.ownsRow B 37 3 vn N.length (cellsN N) := ownS_upd h.nod u1 fun q hq hk => by
    obtain ⟨ys, hy⟩ := ownS_type h.spo hk
    obtain ⟨zs, hz⟩ := ownS_type h.nod hq
    exact absurd (blk_type hy hz) (by decide)
  have k1 : KeptA B w w' := ⟨u1.below B hB (fun k hk => (h.spo.lt k hk).1), fun q t xs h1 h2 h3 hb => hb.upd u1 fun hk => by
    obtain ⟨ys, hy⟩ := ownS_type h.spo hk
    exact h3 (blk_type hb hy)⟩
  refine ⟨g, cap, w', r1, hb1.cell 1, hb1.frozen 1, ⟨hb1.set 1 _, h.hb, own_far ho1 hb1 (by decide), ?_⟩, k1.trans (keptA_cell hb1 h.hb (.inl rfl)), fun q xs hn hq => ?_⟩
  · have h2 := own_far (i := 1) (u := .slice (some ⟨g, 0, none⟩) (S.length + 1) cap) o1 hb1 (by decide)
    rw [List.length_append, cellsS_append]
    exact h2
  · have hq1 : Blk w' q 103 xs := hq.upd u1 hn
    exact ⟨hq1, hq1.other _ _ fun e => by
      have e2 : q = b := e
      subst e2
      exact absurd (blk_type hq1 hb1) (by decide)⟩
end
theorem new_any (w : World) : Calls Tryd.prog 23 #[] w fun e w' => e = .returned (.pointer (some ⟨w.heap.size, 0, none⟩)) ∧ Hid (Ar w.heap.size w' w.heap.size (.slice none 0 0) (.slice none 0 0) [] []) ∧ Below w.heap.size w w' := by
  go_enter Tryd.func23, Tryd.ntmps23
  go_wp2
  go_ret
  exact ⟨rfl, ⟨Blk.newA w _ 101, Nat.le_refl _, World.ownsRow_nil _ _ _ _, World.ownsRow_nil _ _ _ _⟩, (Below.refl _ _).alloc (Nat.le_refl _) _⟩
theorem count_any (B b : Nat) (vn vs : Value) (N : List Nd) (S : Stk) (w : World) (hA : Hid (Ar B w b vn vs N S)) : Calls Tryd.prog 26 #[.pointer (some ⟨b, 0, none⟩)] w fun e w' => e = .returned (.int .i64 (N.length : Int)) ∧ w = w' := by
  obtain ⟨an, cn, rfl, h1⟩ := hA.out.vn_is
  have c0 := hA.out.c0
  go_enter Tryd.func26, Tryd.ntmps26
  go_wp2
  go_ret
  exact ⟨rfl, rfl⟩
end Go.Proofs.YtlbgdgobhiokpaaDoor
