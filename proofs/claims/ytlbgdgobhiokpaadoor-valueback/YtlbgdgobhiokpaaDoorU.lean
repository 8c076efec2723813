/- read. -/
import Derived.Test.YtlbgdgobhiokpaaDoorT
import Derived.Deep.CutBlock
namespace Go.Proofs.YtlbgdgobhiokpaaDoor
open Go.RowKit
set_option linter.unusedVariables false

set_option maxRecDepth 100000 in
set_option maxHeartbeats 8000000 in
theorem read_any (B b : Nat) (s : ByteArray) (st0 : PS) (w : World) (hR : Hid (RAt B w b s st0)) (hs : s.size ≤ 1048576) (hk : PSok s.size st0) :
    Calls Tryd.prog 37 #[.pointer (some ⟨b, 0, none⟩)] w fun e w' => e = .returned (.bool (okM (tx s) (readT (tx s) st0))) ∧ Hid (RAt B w' b s (readT (tx s) st0)) ∧ Hid (KeptR B w w') := by
  go_enter Tryd.func37, Tryd.ntmps37
  go_wp2_with fail
  go_step3
  go_wp2_with fail
  go_step3
  go_upto_block 0 with fail
  go_cut [] from 3 to 77 (fun wc => ∃ (w1 : World), w1 = wc ∧ PSok s.size (readT (tx s) st0) ∧ Hid (RAt B w1 b s (readT (tx s) st0)) ∧ Hid (KeptR B w w1))
  case first =>
    go_wp2_with fail
    go_loopw [] (fun wr => ∃ (st : PS), PSok s.size st ∧ Hid (readT (tx s) st = readT (tx s) st0) ∧ Hid (RAt B wr b s st) ∧ Hid (KeptR B w wr)) (fun wr => match wr.cell? ⟨b, 1, none⟩ with | some (.int _ i) => s.size - i.toNat | _ => 0)
    case atStart => exact ⟨st0, hk, rfl, hR, KeptR.refl _ _⟩
    case round =>
      clear hR hk
      obtain ⟨⟨p, N, O, en⟩, hk, HT, HRA, HK⟩ := hrel
      obtain ⟨vn, vo, hr⟩ := HRA.out
      have HR : Hid (Rdr B wr b s p vn vo N O en) := hr
      clear hr
      have hp : p ≤ s.size := hk.pl
      have c0 := HR.out.c0; have c1 := HR.out.c1
      by_cases hend : p = s.size
      · subst hend
        have HE : Hid (readT (tx s) st0 = ⟨s.size, N, O, en⟩) := by show _ = _; rw [← HT.out]; exact readT_none (by rw [tx_len]; exact Nat.le_refl _)
        have hbq : ¬ ((s.size : Int) < (s.size : Int)) := by omega
        go_wp2_with fail
        go_quiet (fail)
        go_wp2_with fail
        go_meet
        case rel => rw [HE.out]; exact ⟨_, rfl, hk, ⟨vn, vo, HR.out.drewN _⟩, HK.out.drewN _⟩
      · have hqs : p < s.size := by omega
        have hqs' : (p : Int) < s.size := by omega
        obtain ⟨x, hx⟩ : ∃ x : Int, (((s[p]'hqs).toNat : Nat) : Int) = x := ⟨_, rfl⟩
        have htx : (tx s)[p]? = some x := by rw [tx_at s p hqs, hx]
        have HX : Hid (readT (tx s) st0 = if (rndM (tx s) x ⟨p, N, O, en⟩).2 = true then readT (tx s) (rndM (tx s) x ⟨p, N, O, en⟩).1 else (rndM (tx s) x ⟨p, N, O, en⟩).1) := by
          show _ = _
          rw [← HT.out]
          exact readT_some (by rw [tx_len]; exact hk) htx
        have HOK : Hid (PSok s.size (rndM (tx s) x ⟨p, N, O, en⟩).1 ∧ ((rndM (tx s) x ⟨p, N, O, en⟩).2 = true → p < (rndM (tx s) x ⟨p, N, O, en⟩).1.p)) := by
          have h1 := rndM_ok (t := tx s) (c := x) (st := ⟨p, N, O, en⟩) (by rw [tx_len]; exact hk) (by rw [tx_len]; exact hqs)
          rw [tx_len] at h1
          exact ⟨h1.1, h1.2.2⟩
        clear HT
        by_cases hcl : x = 93 ∨ x = 125 ∨ x = 62
        · have HY : Hid (rndM (tx s) x ⟨p, N, O, en⟩ = if mayC N O en x = true then (⟨p + 1, N, popO N O.tail, true⟩, true) else (⟨p, N, O, en⟩, false)) := by show _ = _; rw [rndM, if_pos hcl]
          have HR0 : Hid (∀ a, Rdr B (wr.drewN a) b s p vn vo N O en) := fun a => HR.out.drewN a
          have HK0 : Hid (∀ a, KeptR B w (wr.drewN a)) := fun a => HK.out.drewN a
          have HM0 : Hid (wr.cell? ⟨b, 1, none⟩ = some (.int .i64 p)) := c1
          go_wp2_with fail
          go_quiet (fail)
          have HR1 : Hid (Rdr B (wr.drewN nq) b s p vn vo N O en) := HR0.out nq
          have HK1 : Hid (KeptR B w (wr.drewN nq)) := HK0.out nq
          generalize wr.drewN nq = wq at *
          clear c0 c1 HR0 HK0 HR HK HRA
          have c0 := HR1.out.c0; have c1 := HR1.out.c1
          go_wp2_with fail
          go_quiet (fail)
          have HR2 : Hid (Rdr B (wq.drewN nq) b s p vn vo N O en) := HR1.out.drewN nq
          have HK2 : Hid (KeptR B w (wq.drewN nq)) := HK1.out.drewN nq
          generalize wq.drewN nq = wy at *
          clear c0 c1 HR1 HK1
          cases hm : mayC N O en x with
          | false =>
            rw [hm, if_neg (by simp)] at HY
            have HE : Hid (readT (tx s) st0 = ⟨p, N, O, en⟩) := by show _ = _; rw [HX.out, HY.out]; rfl
            have HW : Hid (∀ w', Below wy.heap.size wy w' → RAt B w' b s ⟨p, N, O, en⟩ ∧ KeptR B w w') := fun w' hB => ⟨⟨vn, vo, HR2.out.later hB⟩, HK2.out.trans (KeptR.of_below HR2.out.base hB)⟩
            have hcon := close1_any B b p x s vn vo N O en wy HR2 hk.on (by have := hk.np; simp only at this; omega) (by have := hk.np; have := hk.ol; simp only at *; omega) hcl
            rw [hm] at hcon
            rcases hcl with rfl | rfl | rfl
            all_goals
              go_wp2_with fail
              refine hcon.mono ?_; rintro e w2 ⟨rfl, hB2⟩
              obtain ⟨H1, H2⟩ := HW.out w2 hB2
              have H3 : Hid _ := H1
              have H4 : Hid _ := H2
              clear H1 H2 hcon
              go_wp2_with fail
              go_meet
              case rel => rw [HE.out]; exact ⟨_, rfl, hk, H3, H4⟩
          | true =>
            rw [hm, if_pos rfl] at HY
            obtain ⟨o, O2, rfl⟩ : ∃ o O2, O = o :: O2 := by
              cases O with
              | nil => simp [mayC] at hm
              | cons o O2 => exact ⟨o, O2, rfl⟩
            have hok : PSok s.size ⟨p + 1, N, popO N O2, true⟩ := by have := HOK.out.1; rw [HY.out] at this; exact this
            have HE : Hid (readT (tx s) ⟨p + 1, N, popO N O2, true⟩ = readT (tx s) st0) := by show _ = _; rw [HX.out, HY.out]; rfl
            have hcon := close1_any B b p x s vn vo N (o :: O2) en wy HR2 hk.on (by have := hk.np; simp only at this; omega) (by have := hk.np; have := hk.ol; simp only at *; omega) hcl
            rw [hm] at hcon
            have hbd : N.length ≤ 1048576 ∧ O2.length ≤ 1048576 := by have h1 := hk.np; have h2 := hk.ol; simp at h1 h2; omega
            have hon : ∀ y ∈ O2, y < N.length := fun y hy => hk.on y (by simp [hy])
            have HNX : Hid (∀ w2, Below wy.heap.size wy w2 → ∃ go co, vo = .slice (some ⟨go, 0, none⟩) (O2.length + 1) co ∧ O2.length + 1 ≤ co ∧ co ≤ maxLen ∧ w2.cell? ⟨b, 1, none⟩ = some (.int .i64 p) ∧ w2.frozen? ⟨b, 1, none⟩ = false ∧
                (w2.setCell ⟨b, 1, none⟩ (.int .i64 ((p : Int) + 1))).cell? ⟨b, 3, none⟩ = some vo ∧ (w2.setCell ⟨b, 1, none⟩ (.int .i64 ((p : Int) + 1))).frozen? ⟨b, 3, none⟩ = false ∧
                Rdr B (((w2.setCell ⟨b, 1, none⟩ (.int .i64 ((p : Int) + 1))).setCell ⟨b, 3, none⟩ (.slice (some ⟨go, 0, none⟩) O2.length co)).drew) b s (p + 1) vn (.slice (some ⟨go, 0, none⟩) O2.length co) N O2 en ∧
                KeptR B w (((w2.setCell ⟨b, 1, none⟩ (.int .i64 ((p : Int) + 1))).setCell ⟨b, 3, none⟩ (.slice (some ⟨go, 0, none⟩) O2.length co)).drew)) := fun w2 hB2 => by
              have r2 := HR2.out.later hB2
              have r3 := r2.setp (p + 1)
              obtain ⟨go, co, e1, e2, e3, e4⟩ := r3.popo
              exact ⟨go, co, e1, e2, e3, r2.c1, r2.blk.frozen 1, r3.c3, r3.blk.frozen 3, e4.drew, ((HK2.out.trans (KeptR.of_below HR2.out.base hB2)).trans ((r2.keptb 1 _).trans (r3.keptb 3 _))).drew⟩
            rcases hcl with rfl | rfl | rfl
            all_goals
              go_wp2_with fail
              refine hcon.mono ?_; rintro e w2 ⟨rfl, hB2⟩
              obtain ⟨go, co, rfl, hc1, hc2, d1, z1, d3, z3, r4, k4⟩ := HNX.out w2 hB2
              unfold maxLen at hc2
              have H3 : Hid _ := r4
              have H4 : Hid _ := k4
              clear r4 k4 hcon hB2
              have hw1 : IntKind.i64.wrap (O2.length : Int) = O2.length := i64w _ (by omega)
              have hw2 : IntKind.i64.wrap ((O2.length : Int) + 1 - 1) = O2.length := by rw [i64w _ (by omega)]; omega
              go_wp2_with fail
              go_region
              go_wp2_with fail
              refine (end_any B b (p + 1) s vn _ N O2 en _ H3 hon (by omega) (by omega)).mono ?_; rintro e w5 ⟨rfl, vo5, H5, HK5⟩
              go_wp2
              go_roundw
              case rel => exact ⟨_, hok, HE, ⟨vn, vo5, H5.out⟩, H4.out.trans HK5.out⟩
              case measure => rw [H5.out.c1, HM0.out]; simp; omega
        · have hb1 : (x == 93) = false := by simp; omega
          have hb2 : (x == 125) = false := by simp; omega
          have hb3 : (x == 62) = false := by simp; omega
          by_cases h44 : x = 44
          · subst h44
            have HY : Hid (rndM (tx s) 44 ⟨p, N, O, en⟩ = if mayGo N O en = true then (if (takeW (tx s) p [44, 32]).2 = true then (⟨(takeW (tx s) p [44, 32]).1, N, O, false⟩, true) else (⟨(takeW (tx s) p [44, 32]).1, N, O, en⟩, false)) else (⟨p, N, O, en⟩, false)) := rfl
            have HR0 : Hid (∀ a, Rdr B (wr.drewN a) b s p vn vo N O en) := fun a => HR.out.drewN a
            have HK0 : Hid (∀ a, KeptR B w (wr.drewN a)) := fun a => HK.out.drewN a
            have HM0 : Hid (wr.cell? ⟨b, 1, none⟩ = some (.int .i64 p)) := c1
            go_wp2_with fail
            go_quiet (fail)
            have HR1 : Hid (Rdr B (wr.drewN nq) b s p vn vo N O en) := HR0.out nq
            have HK1 : Hid (KeptR B w (wr.drewN nq)) := HK0.out nq
            generalize wr.drewN nq = wq at *
            clear c0 c1 HR0 HK0 HR HK HRA
            have c0 := HR1.out.c0; have c1 := HR1.out.c1
            go_wp2_with fail
            go_quiet (fail)
            have HR2 : Hid (Rdr B (wq.drewN nq) b s p vn vo N O en) := HR1.out.drewN nq
            have HK2 : Hid (KeptR B w (wq.drewN nq)) := HK1.out.drewN nq
            generalize wq.drewN nq = wy at *
            clear c0 c1 HR1 HK1
            have hbd : N.length ≤ 1048576 ∧ O.length ≤ 1048576 := by have h1 := hk.np; have h2 := hk.ol; simp only at h1 h2; omega
            have hon : ∀ y ∈ O, y < N.length := hk.on
            go_wp2_with fail
            refine (goOn_any B b p s vn vo N O en wy HR2 hon (by omega) (by omega)).mono ?_; rintro e w2 ⟨rfl, hB2⟩
            have HR3 : Hid (Rdr B w2 b s p vn vo N O en) := HR2.out.later hB2
            have HK3 : Hid (KeptR B w w2) := HK2.out.trans (KeptR.of_below HR2.out.base hB2)
            clear HR2 HK2 hB2
            cases hm : mayGo N O en with
            | false =>
              rw [hm, if_neg (by simp)] at HY
              have HE : Hid (readT (tx s) st0 = ⟨p, N, O, en⟩) := by show _ = _; rw [HX.out, HY.out]; rfl
              go_wp2_with fail
              go_meet
              case rel => rw [HE.out]; exact ⟨_, rfl, hk, ⟨vn, vo, HR3.out⟩, HK3⟩
            | true =>
              rw [hm, if_pos rfl] at HY
              go_wp2_with fail
              refine (take_any B b p s ⟨#[44, 32]⟩ vn vo N O en w2 HR3 hp hs (by decide)).mono ?_; rintro e w3 ⟨rfl, H3, HK4⟩
              have htx2 : tx ⟨#[44, 32]⟩ = [44, 32] := rfl
              rw [htx2] at H3 ⊢
              clear htx2 HR3
              generalize takeW (tx s) p [44, 32] = u at *
              obtain ⟨q2, d⟩ := u
              simp only at HY H3
              cases d with
              | false =>
                rw [if_neg (by simp)] at HY
                have hok : PSok s.size ⟨q2, N, O, en⟩ := by have := HOK.out.1; rw [HY.out] at this; exact this
                have HE : Hid (readT (tx s) st0 = ⟨q2, N, O, en⟩) := by show _ = _; rw [HX.out, HY.out]; rfl
                go_wp2_with fail
                go_meet
                case rel => rw [HE.out]; exact ⟨_, rfl, hok, ⟨vn, vo, H3.out⟩, HK3.out.trans HK4.out⟩
              | true =>
                rw [if_pos rfl] at HY
                have hok : PSok s.size ⟨q2, N, O, false⟩ := by have := HOK.out.1; rw [HY.out] at this; exact this
                have hpq : p < q2 := by have := HOK.out.2; rw [HY.out] at this; exact this rfl
                have hq2 : q2 ≤ s.size := hok.pl
                have HE : Hid (readT (tx s) ⟨q2, N, O, false⟩ = readT (tx s) st0) := by show _ = _; rw [HX.out, HY.out]; rfl
                have d4 := H3.out.c4
                have z4 := H3.out.blk.frozen 4
                go_wp2
                go_roundw
                case rel => exact ⟨_, hok, HE, ⟨vn, vo, H3.out.seten false⟩, (HK3.out.trans HK4.out).trans (H3.out.keptb 4 _)⟩
                case measure => rw [(H3.out.seten false).c1, HM0.out]; simp; omega
          · have hb4 : (x == 44) = false := by simpa using h44
            have HY : Hid (rndM (tx s) x ⟨p, N, O, en⟩ = if en = true then (⟨p, N, O, en⟩, false) else beginM (tx s) x ⟨p, N, O, en⟩) := by show _ = _; rw [rndM, if_neg hcl, if_neg h44]
            have HR0 : Hid (∀ a, Rdr B (wr.drewN a) b s p vn vo N O en) := fun a => HR.out.drewN a
            have HK0 : Hid (∀ a, KeptR B w (wr.drewN a)) := fun a => HK.out.drewN a
            have HM0 : Hid (wr.cell? ⟨b, 1, none⟩ = some (.int .i64 p)) := c1
            go_wp2_with fail
            go_quiet (fail)
            have HR1 : Hid (Rdr B (wr.drewN nq) b s p vn vo N O en) := HR0.out nq
            have HK1 : Hid (KeptR B w (wr.drewN nq)) := HK0.out nq
            generalize wr.drewN nq = wq at *
            clear c0 c1 HR0 HK0 HR HK HRA
            have c0 := HR1.out.c0; have c1 := HR1.out.c1
            go_wp2_with fail
            go_quiet (fail)
            have HR2 : Hid (Rdr B (wq.drewN nq) b s p vn vo N O en) := HR1.out.drewN nq
            have HK2 : Hid (KeptR B w (wq.drewN nq)) := HK1.out.drewN nq
            generalize wq.drewN nq = wy at *
            clear c0 c1 HR1 HK1
            have d4 := HR2.out.c4
            cases en with
            | true =>
              rw [if_pos rfl] at HY
              have HE : Hid (readT (tx s) st0 = ⟨p, N, O, true⟩) := by show _ = _; rw [HX.out, HY.out]; rfl
              go_wp2_with fail
              go_meet
              case rel => rw [HE.out]; exact ⟨_, rfl, hk, ⟨vn, vo, HR2.out⟩, HK2⟩
            | false =>
              rw [if_neg (by simp)] at HY
              go_wp2_with fail
              refine (begin2_any B b x s ⟨p, N, O, false⟩ wy ⟨vn, vo, HR2.out⟩ hs hk hqs).mono ?_; rintro e w3 ⟨rfl, H3, HK4⟩
              rw [HY.out] at HX HOK
              generalize beginM (tx s) x ⟨p, N, O, false⟩ = u at *
              obtain ⟨st2, d⟩ := u
              simp only at HX HOK H3
              have hok := HOK.out.1
              cases d with
              | false =>
                rw [if_neg (by simp)] at HX
                go_wp2_with fail
                go_meet
                case rel => rw [HX.out]; exact ⟨_, rfl, hok, H3, HK2.out.trans HK4.out⟩
              | true =>
                rw [if_pos rfl] at HX
                have hpq : p < st2.p := HOK.out.2 rfl
                have hq2 : st2.p ≤ s.size := hok.pl
                obtain ⟨vn3, vo3, r3⟩ := H3.out
                have k1 : Hid _ := r3.c1
                clear r3
                go_wp2
                go_roundw
                case rel => exact ⟨_, hok, HX.out.symm, H3, HK2.out.trans HK4.out⟩
                case measure => rw [k1.out, HM0.out]; simp; omega
  case rest =>
    clear hR hk
    obtain ⟨w1, rfl, hok, HRA, HK⟩ := hcut
    obtain ⟨st, hst⟩ : ∃ st, readT (tx s) st0 = st := ⟨_, rfl⟩
    rw [hst] at hok HRA
    have HST : Hid (readT (tx s) st0 = st) := hst
    clear hst
    obtain ⟨p, N, O, en⟩ := st
    obtain ⟨vn, vo, hr⟩ := HRA.out
    have HR : Hid (Rdr B w1 b s p vn vo N O en) := hr
    clear hr HRA
    have c0 := HR.out.c0; have c1 := HR.out.c1; have c3 := HR.out.c3; have c4 := HR.out.c4
    have hv : ∃ a k, vo = .slice a O.length k := by
      rcases HR.out.opn.2 with ⟨e, h0⟩ | ⟨g, cap, cur, e, _⟩
      · exact ⟨none, 0, by rw [e, h0]⟩
      · exact ⟨_, _, e⟩
    obtain ⟨a, k, rfl⟩ := hv
    have hfin : Hid (okM (tx s) ⟨p, N, O, en⟩ = (decide (p = s.size) && en && decide (O = []))) := by show _ = _; rw [okM, tx_len]
    by_cases h1 : p = s.size
    · subst h1
      cases en with
      | true =>
        cases O with
        | nil =>
          simp only [List.length_nil] at c3
          go_wp2_with fail
          go_quiet (fail)
          go_wp2
          try rw [Exit.noGoto_ret]
          go_ret
          rw [HST.out]
          exact ⟨by rw [hfin.out]; simp, ⟨vn, _, HR.out.drewN _⟩, HK.out.drewN _⟩
        | cons o O =>
          simp only [List.length_cons] at c3
          have hb0 : (((O.length : Int) + 1) == 0) = false := by simp; omega
          go_wp2_with fail
          go_quiet (fail)
          go_wp2
          try rw [Exit.noGoto_ret]
          go_ret
          rw [HST.out]
          exact ⟨by rw [hfin.out]; simp, ⟨vn, _, HR.out.drewN _⟩, HK.out.drewN _⟩
      | false =>
        go_wp2_with fail
        go_quiet (fail)
        go_wp2
        try rw [Exit.noGoto_ret]
        go_ret
        rw [HST.out]
        exact ⟨by rw [hfin.out]; simp, ⟨vn, _, HR.out.drewN _⟩, HK.out.drewN _⟩
    · have hb1 : ((p : Int) == (s.size : Int)) = false := by simp; omega
      go_wp2_with fail
      go_quiet (fail)
      go_wp2
      try rw [Exit.noGoto_ret]
      go_ret
      rw [HST.out]
      exact ⟨by rw [hfin.out]; simp [h1], ⟨vn, _, HR.out.drewN _⟩, HK.out.drewN _⟩
end Go.Proofs.YtlbgdgobhiokpaaDoor
