import Derived.Test.YtlbgdgobhiokpaaDoorPart06
import Derived.Deep.CutBlock

/- read. -/
namespace Go.Proofs.YtlbgdgobhiokpaaDoor
open Go.RowKit
set_option linter.unusedVariables false

set_option maxRecDepth 100000 in
set_option maxHeartbeats 8000000 in
theorem read_any (B b : Nat) (s : ByteArray) (st0 : PS) (w : World) (hR : Hid (RAt B w b s st0)) (hs : s.size ≤ 1048576) (hk : PSok s.size st0) :
    Calls Tryd.prog 37 #[.pointer (some ⟨b, 0, none⟩)] w fun e w' => e = .returned (.bool (okM (tx s) (readT (tx s) st0))) ∧ Hid (RAt B w' b s (readT (tx s) st0)) ∧ Hid (KeptR B w w') := by
  go_enter Tryd.func37, Tryd.ntmps37
  go_wp2_with fail
  go_step3
  go_wp2_with fail
  go_step3
  go_upto_block 0 with fail
  go_cut [] from 3 to 77 (fun wc => ∃ (w1 : World), w1 = wc ∧ PSok s.size (readT (tx s) st0) ∧ Hid (RAt B w1 b s (readT (tx s) st0)) ∧ Hid (KeptR B w w1))
  case first =>
    go_wp2_with fail
    go_loopw [] (fun wr => ∃ (st : PS), PSok s.size st ∧ Hid (readT (tx s) st = readT (tx s) st0) ∧ Hid (RAt B wr b s st) ∧ Hid (KeptR B w wr)) (fun wr => match wr.cell? ⟨b, 1, none⟩ with | some (.int _ i) => s.size - i.toNat | _ => 0)
    case atStart => exact ⟨st0, hk, rfl, hR, KeptR.refl _ _⟩
    case round =>
      clear hR hk
      obtain ⟨⟨p, N, O, en⟩, hk, HT, HRA, HK⟩ := hrel
      obtain ⟨vn, vo, hr⟩ := HRA.out
      have HR : Hid (Rdr B wr b s p vn vo N O en) := hr
      clear hr
      have hp : p ≤ s.size := hk.pl
      have c0 := HR.out.c0; have c1 := HR.out.c1
      by_cases hend : p = s.size
      · subst hend
        have HE : Hid (readT (tx s) st0 = ⟨s.size, N, O, en⟩) := by show _ = _; rw [← HT.out]; exact readT_none (by rw [tx_len]; exact Nat.le_refl _)
        have hbq : ¬ ((s.size : Int) < (s.size : Int)) := by omega
        go_wp2_with fail
        go_quiet (fail)
        go_wp2_with fail
        go_meet
        case rel => rw [HE.out]; exact ⟨_, rfl, hk, ⟨vn, vo, HR.out.drewN _⟩, HK.out.drewN _⟩
      · have hqs : p < s.size := by omega
        have hqs' : (p : Int) < s.size := by omega
        obtain ⟨x, hx⟩ : ∃ x : Int, (((s[p]'hqs).toNat : Nat) : Int) = x := ⟨_, rfl⟩
        have htx : (tx s)[p]? = some x := by rw [tx_at s p hqs, hx]
        have HX : Hid (readT (tx s) st0 = if (rndM (tx s) x ⟨p, N, O, en⟩).2 = true then readT (tx s) (rndM (tx s) x ⟨p, N, O, en⟩).1 else (rndM (tx s) x ⟨p, N, O, en⟩).1) := by
          show _ = _
          rw [← HT.out]
          exact readT_some (by rw [tx_len]; exact hk) htx
        have HOK : Hid (PSok s.size (rndM (tx s) x ⟨p, N, O, en⟩).1 ∧ ((rndM (tx s) x ⟨p, N, O, en⟩).2 = true → p < (rndM (tx s) x ⟨p, N, O, en⟩).1.p)) := by
          have h1 := rndM_ok (t := tx s) (c := x) (st := ⟨p, N, O, en⟩) (by rw [tx_len]; exact hk) (by rw [tx_len]; exact hqs)
          rw [tx_len] at h1
          exact ⟨h1.1, h1.2.2⟩
        clear HT
        by_cases hcl : x = 93 ∨ x = 125 ∨ x = 62
        · have HY : Hid (rndM (tx s) x ⟨p, N, O, en⟩ = if mayC N O en x = true then (⟨p + 1, N, popO N O.tail, true⟩, true) else (⟨p, N, O, en⟩, false)) := by show _ = _; rw [rndM, if_pos hcl]
          have HR0 : Hid (∀ a, Rdr B (wr.drewN a) b s p vn vo N O en) := fun a => HR.out.drewN a
          have HK0 : Hid (∀ a, KeptR B w (wr.drewN a)) := fun a => HK.out.drewN a
          have HM0 : Hid (wr.cell? ⟨b, 1, none⟩ = some (.int .i64 p)) := c1
          go_wp2_with fail
          go_quiet (fail)
          have HR1 : Hid (Rdr B (wr.drewN nq) b s p vn vo N O en) := HR0.out nq
          have HK1 : Hid (KeptR B w (wr.drewN nq)) := HK0.out nq
          generalize wr.drewN nq = wq at *
          clear c0 c1 HR0 HK0 HR HK HRA
          have c0 := HR1.out.c0; have c1 := HR1.out.c1
          go_wp2_with fail
          go_quiet (fail)
          have HR2 : Hid (Rdr B (wq.drewN nq) b s p vn vo N O en) := HR1.out.drewN nq
          have HK2 : Hid (KeptR B w (wq.drewN nq)) := HK1.out.drewN nq
          generalize wq.drewN nq = wy at *
          clear c0 c1 HR1 HK1
          cases hm : mayC N O en x with
          | false =>
            rw [hm, if_neg (by simp)] at HY
            have HE : Hid (readT (tx s) st0 = ⟨p, N, O, en⟩) := by show _ = _; rw [HX.out, HY.out]; rfl
            have HW : Hid (∀ w', Below wy.heap.size wy w' → RAt B w' b s ⟨p, N, O, en⟩ ∧ KeptR B w w') := fun w' hB => ⟨⟨vn, vo, HR2.out.later hB⟩, HK2.out.trans (KeptR.of_below HR2.out.base hB)⟩
            have hcon := close1_any B b p x s vn vo N O en wy HR2 hk.on (by have := hk.np; simp only at this; omega) (by have := hk.np; have := hk.ol; simp only at *; omega) hcl
            rw [hm] at hcon
            rcases hcl with rfl | rfl | rfl
            all_goals
              go_wp2_with fail
              refine hcon.mono ?_; rintro e w2 ⟨rfl, hB2⟩
              obtain ⟨H1, H2⟩ := HW.out w2 hB2
              have H3 : Hid _ := H1
              have H4 : Hid _ := H2
              clear H1 H2 hcon
              go_wp2_with fail
              go_meet
              case rel => rw [HE.out]; exact ⟨_, rfl, hk, H3, H4⟩
          | true =>
            rw [hm, if_pos rfl] at HY
            obtain ⟨o, O2, rfl⟩ : ∃ o O2, O = o :: O2 := by
              cases O with
              | nil => simp [mayC] at hm
              | cons o O2 => exact ⟨o, O2, rfl⟩
            have hok : PSok s.size ⟨p + 1, N, popO N O2, true⟩ := by have := HOK.out.1; rw [HY.out] at this; exact this
            have HE : Hid (readT (tx s) ⟨p + 1, N, popO N O2, true⟩ = readT (tx s) st0) := by show _ = _; rw [HX.out, HY.out]; rfl
            have hcon := close1_any B b p x s vn vo N (o :: O2) en wy HR2 hk.on (by have := hk.np; simp only at this; omega) (by have := hk.np; have := hk.ol; simp only at *; omega) hcl
            rw [hm] at hcon
            have hbd : N.length ≤ 1048576 ∧ O2.length ≤ 1048576 := by have h1 := hk.np; have h2 := hk.ol; simp at h1 h2; omega
            have hon : ∀ y ∈ O2, y < N.length := fun y hy => hk.on y (by simp [hy])
            have HNX : Hid (∀ w2, Below wy.heap.size wy w2 → ∃ go co, vo = .slice (some ⟨go, 0, none⟩) (O2.length + 1) co ∧ O2.length + 1 ≤ co ∧ co ≤ maxLen ∧ w2.cell? ⟨b, 1, none⟩ = some (.int .i64 p) ∧ w2.frozen? ⟨b, 1, none⟩ = false ∧
                (w2.setCell ⟨b, 1, none⟩ (.int .i64 ((p : Int) + 1))).cell? ⟨b, 3, none⟩ = some vo ∧ (w2.setCell ⟨b, 1, none⟩ (.int .i64 ((p : Int) + 1))).frozen? ⟨b, 3, none⟩ = false ∧
                Rdr B (((w2.setCell ⟨b, 1, none⟩ (.int .i64 ((p : Int) + 1))).setCell ⟨b, 3, none⟩ (.slice (some ⟨go, 0, none⟩) O2.length co)).drew) b s (p + 1) vn (.slice (some ⟨go, 0, none⟩) O2.length co) N O2 en ∧
                KeptR B w (((w2.setCell ⟨b, 1, none⟩ (.int .i64 ((p : Int) + 1))).setCell ⟨b, 3, none⟩ (.slice (some ⟨go, 0, none⟩) O2.length co)).drew)) := fun w2 hB2 => by
              have r2 := HR2.out.later hB2
              have r3 := r2.setp (p + 1)
              obtain ⟨go, co, e1, e2, e3, e4⟩ := r3.popo
              exact ⟨go, co, e1, e2, e3, r2.c1, r2.blk.frozen 1, r3.c3, r3.blk.frozen 3, e4.drew, ((HK2.out.trans (KeptR.of_below HR2.out.base hB2)).trans ((r2.keptb 1 _).trans (r3.keptb 3 _))).drew⟩
            rcases hcl with rfl | rfl | rfl
            all_goals
              go_wp2_with fail
              refine hcon.mono ?_; rintro e w2 ⟨rfl, hB2⟩
              obtain ⟨go, co, rfl, hc1, hc2, d1, z1, d3, z3, r4, k4⟩ := HNX.out w2 hB2
              unfold maxLen at hc2
              have H3 : Hid _ := r4
              have H4 : Hid _ := k4
              clear r4 k4 hcon hB2
              have hw1 : IntKind.i64.wrap (O2.length : Int) = O2.length := i64w _ (by omega)
              have hw2 : IntKind.i64.wrap ((O2.length : Int) + 1 - 1) = O2.length := by rw [i64w _ (by omega)]; omega
              go_wp2_with fail
              go_region
              go_wp2_with fail
              refine (end_any B b (p + 1) s vn _ N O2 en _ H3 hon (by omega) (by omega)).mono ?_; rintro e w5 ⟨rfl, vo5, H5, HK5⟩
              go_wp2
              go_roundw
              case rel => exact ⟨_, hok, HE, ⟨vn, vo5, H5.out⟩, H4.out.trans HK5.out⟩
              case measure => rw [H5.out.c1, HM0.out]; simp; omega
        · have hb1 : (x == 93) = false := by simp; omega
          have hb2 : (x == 125) = false := by simp; omega
          have hb3 : (x == 62) = false := by simp; omega
          by_cases h44 : x = 44
          · subst h44
            have HY : Hid (rndM (tx s) 44 ⟨p, N, O, en⟩ = if mayGo N O en = true then (if (takeW (tx s) p [44, 32]).2 = true then (⟨(takeW (tx s) p [44, 32]).1, N, O, false⟩, true) else (⟨(takeW (tx s) p [44, 32]).1, N, O, en⟩, false)) else (⟨p, N, O, en⟩, false)) := rfl
            have HR0 : Hid (∀ a, Rdr B (wr.drewN a) b s p vn vo N O en) := fun a => HR.out.drewN a
            have HK0 : Hid (∀ a, KeptR B w (wr.drewN a)) := fun a => HK.out.drewN a
            have HM0 : Hid (wr.cell? ⟨b, 1, none⟩ = some (.int .i64 p)) := c1
            go_wp2_with fail
            go_quiet (fail)
            have HR1 : Hid (Rdr B (wr.drewN nq) b s p vn vo N O en) := HR0.out nq
            have HK1 : Hid (KeptR B w (wr.drewN nq)) := HK0.out nq
            generalize wr.drewN nq = wq at *
            clear c0 c1 HR0 HK0 HR HK HRA
            have c0 := HR1.out.c0; have c1 := HR1.out.c1
            go_wp2_with fail
            go_quiet (fail)
            have HR2 : Hid (Rdr B (wq.drewN nq) b s p vn vo N O en) := HR1.out.drewN nq
            have HK2 : Hid (KeptR B w (wq.drewN nq)) := HK1.out.drewN nq
            generalize wq.drewN nq = wy at *
            clear c0 c1 HR1 HK1
            have hbd : N.length ≤ 1048576 ∧ O.length ≤ 1048576 := by have h1 := hk.np; have h2 := hk.ol; simp only at h1 h2; omega
            have hon : ∀ y ∈ O, y < N.length := hk.on
            go_wp2_with fail
            refine (goOn_any B b p s vn vo N O en wy HR2 hon (by omega) (by omega)).mono ?_; rintro e w2 ⟨rfl, hB2⟩
            have HR3 : Hid (Rdr B w2 b s p vn vo N O en) := HR2.out.later hB2
            have HK3 : Hid (KeptR B w w2) := HK2.out.trans (KeptR.of_below HR2.out.base hB2)
            clear HR2 HK2 hB2
            cases hm : mayGo N O en with
            | false =>
              rw [hm, if_neg (by simp)] at HY
              have HE : Hid (readT (tx s) st0 = ⟨p, N, O, en⟩) := by show _ = _; rw [HX.out, HY.out]; rfl
              go_wp2_with fail
              go_meet
              case rel => rw [HE.out]; exact ⟨_, rfl, hk, ⟨vn, vo, HR3.out⟩, HK3⟩
            | true =>
              rw [hm, if_pos rfl] at HY
              go_wp2_with fail
              refine (take_any B b p s ⟨#[44, 32]⟩ vn vo N O en w2 HR3 hp hs (by decide)).mono ?_; rintro e w3 ⟨rfl, H3, HK4⟩
              have htx2 : tx ⟨#[44, 32]⟩ = [44, 32] := rfl
              rw [htx2] at H3 ⊢
              clear htx2 HR3
              generalize takeW (tx s) p [44, 32] = u at *
              obtain ⟨q2, d⟩ := u
              simp only at HY H3
              cases d with
              | false =>
                rw [if_neg (by simp)] at HY
                have hok : PSok s.size ⟨q2, N, O, en⟩ := by have := HOK.out.1; rw [HY.out] at this; exact this
                have HE : Hid (readT (tx s) st0 = ⟨q2, N, O, en⟩) := by show _ = _; rw [HX.out, HY.out]; rfl
                go_wp2_with fail
                go_meet
                case rel => rw [HE.out]; exact ⟨_, rfl, hok, ⟨vn, vo, H3.out⟩, HK3.out.trans HK4.out⟩
              | true =>
                rw [if_pos rfl] at HY
                have hok : PSok s.size ⟨q2, N, O, false⟩ := by have := HOK.out.1; rw [HY.out] at this; exact this
                have hpq : p < q2 := by have := HOK.out.2; rw [HY.out] at this; exact this rfl
                have hq2 : q2 ≤ s.size := hok.pl
                have HE : Hid (readT (tx s) ⟨q2, N, O, false⟩ = readT (tx s) st0) := by show _ = _; rw [HX.out, HY.out]; rfl
                have d4 := H3.out.c4
                have z4 := H3.out.blk.frozen 4
                go_wp2
                go_roundw
                case rel => exact ⟨_, hok, HE, ⟨vn, vo, H3.out.seten false⟩, (HK3.out.trans HK4.out).trans (H3.out.keptb 4 _)⟩
                case measure => rw [(H3.out.seten false).c1, HM0.out]; simp; omega
          · have hb4 : (x == 44) = false := by simpa using h44
            have HY : Hid (rndM (tx s) x ⟨p, N, O, en⟩ = if en = true then (⟨p, N, O, en⟩, false) else beginM (tx s) x ⟨p, N, O, en⟩) := by show _ = _; rw [rndM, if_neg hcl, if_neg h44]
            have HR0 : Hid (∀ a, Rdr B (wr.drewN a) b s p vn vo N O en) := fun a => HR.out.drewN a
            have HK0 : Hid (∀ a, KeptR B w (wr.drewN a)) := fun a => HK.out.drewN a
            have HM0 : Hid (wr.cell? ⟨b, 1, none⟩ = some (.int .i64 p)) := c1
            go_wp2_with fail
            go_quiet (fail)
            have HR1 : Hid (Rdr B (wr.drewN nq) b s p vn vo N O en) := HR0.out nq
            have HK1 : Hid (KeptR B w (wr.drewN nq)) := HK0.out nq
            generalize wr.drewN nq = wq at *
            clear c0 c1 HR0 HK0 HR HK HRA
            have c0 := HR1.out.c0; have c1 := HR1.out.c1
            go_wp2_with fail
            go_quiet (fail)
            have HR2 : Hid (Rdr B (wq.drewN nq) b s p vn vo N O en) := HR1.out.drewN nq
            have HK2 : Hid (KeptR B w (wq.drewN nq)) := HK1.out.drewN nq
            generalize wq.drewN nq = wy at *
            clear c0 c1 HR1 HK1
            have d4 := HR2.out.c4
            cases en with
            | true =>
              rw [if_pos rfl] at HY
              have HE : Hid (readT (tx s) st0 = ⟨p, N, O, true⟩) := by show _ = _; rw [HX.out, HY.out]; rfl
              go_wp2_with fail
              go_meet
              case rel => rw [HE.out]; exact ⟨_, rfl, hk, ⟨vn, vo, HR2.out⟩, HK2⟩
            | false =>
              rw [if_neg (by simp)] at HY
              go_wp2_with fail
              refine (begin2_any B b x s ⟨p, N, O, false⟩ wy ⟨vn, vo, HR2.out⟩ hs hk hqs).mono ?_; rintro e w3 ⟨rfl, H3, HK4⟩
              rw [HY.out] at HX HOK
              generalize beginM (tx s) x ⟨p, N, O, false⟩ = u at *
              obtain ⟨st2, d⟩ := u
              simp only at HX HOK H3
              have hok := HOK.out.1
              cases d with
              | false =>
                rw [if_neg (by simp)] at HX
                go_wp2_with fail
                go_meet
                case rel => rw [HX.out]; exact ⟨_, rfl, hok, H3, HK2.out.trans HK4.out⟩
              | true =>
                rw [if_pos rfl] at HX
                have hpq : p < st2.p := HOK.out.2 rfl
                have hq2 : st2.p ≤ s.size := hok.pl
                obtain ⟨vn3, vo3, r3⟩ := H3.out
                have k1 : Hid _ := r3.c1
                clear r3
                go_wp2
                go_roundw
                case rel => exact ⟨_, hok, HX.out.symm, H3, HK2.out.trans HK4.out⟩
                case measure => rw [k1.out, HM0.out]; simp; omega
  case rest =>
    clear hR hk
    obtain ⟨w1, rfl, hok, HRA, HK⟩ := hcut
    obtain ⟨st, hst⟩ : ∃ st, readT (tx s) st0 = st := ⟨_, rfl⟩
    rw [hst] at hok HRA
    have HST : Hid (readT (tx s) st0 = st) := hst
    clear hst
    obtain ⟨p, N, O, en⟩ := st
    obtain ⟨vn, vo, hr⟩ := HRA.out
    have HR : Hid (Rdr B w1 b s p vn vo N O en) := hr
    clear hr HRA
    have c0 := HR.out.c0; have c1 := HR.out.c1; have c3 := HR.out.c3; have c4 := HR.out.c4
    have hv : ∃ a k, vo = .slice a O.length k := by
      rcases HR.out.opn.2 with ⟨e, h0⟩ | ⟨g, cap, cur, e, _⟩
      · exact ⟨none, 0, by rw [e, h0]⟩
      · exact ⟨_, _, e⟩
    obtain ⟨a, k, rfl⟩ := hv
    have hfin : Hid (okM (tx s) ⟨p, N, O, en⟩ = (decide (p = s.size) && en && decide (O = []))) := by show _ = _; rw [okM, tx_len]
    by_cases h1 : p = s.size
    · subst h1
      cases en with
      | true =>
        cases O with
        | nil =>
          simp only [List.length_nil] at c3
          go_wp2_with fail
          go_quiet (fail)
          go_wp2
          try rw [Exit.noGoto_ret]
          go_ret
          rw [HST.out]
          exact ⟨by rw [hfin.out]; simp, ⟨vn, _, HR.out.drewN _⟩, HK.out.drewN _⟩
        | cons o O =>
          simp only [List.length_cons] at c3
          have hb0 : (((O.length : Int) + 1) == 0) = false := by simp; omega
          go_wp2_with fail
          go_quiet (fail)
          go_wp2
          try rw [Exit.noGoto_ret]
          go_ret
          rw [HST.out]
          exact ⟨by rw [hfin.out]; simp, ⟨vn, _, HR.out.drewN _⟩, HK.out.drewN _⟩
      | false =>
        go_wp2_with fail
        go_quiet (fail)
        go_wp2
        try rw [Exit.noGoto_ret]
        go_ret
        rw [HST.out]
        exact ⟨by rw [hfin.out]; simp, ⟨vn, _, HR.out.drewN _⟩, HK.out.drewN _⟩
    · have hb1 : ((p : Int) == (s.size : Int)) = false := by simp; omega
      go_wp2_with fail
      go_quiet (fail)
      go_wp2
      try rw [Exit.noGoto_ret]
      go_ret
      rw [HST.out]
      exact ⟨by rw [hfin.out]; simp [h1], ⟨vn, _, HR.out.drewN _⟩, HK.out.drewN _⟩
end Go.Proofs.YtlbgdgobhiokpaaDoor

/- Parse. -/
namespace Go.Proofs.YtlbgdgobhiokpaaDoor
open Go.RowKit
set_option linter.unusedVariables false

def st00 : PS := ⟨0, [], [], false⟩
def parseN (t : List Int) : List Nd := if okM t (readT t st00) = true then (readT t st00).N else []
def parseF (t : List Int) : Int × Int := if okM t (readT t st00) = true then (0, 0) else (41, (readT t st00).p)
theorem ret12 {R : Ending → World → Prop} {tmps : Array Value} {g : Nat} {x y : Value} {w : World} (hp : tmps.getD 3 undef = .pointer (some ⟨g, 0, none⟩)) (hK : Blk w g 29 [x, y]) (hR : R (.returned (.tuple #[tmps.getD 2 undef, .agg #[x, y]])) w) :
    bodyPost Tryd.prog Tryd.f12 R Exit.ret ⟨tmps, []⟩ w :=
  bodyPost_ret (results_tmp_cell_row rfl _ _ _ _ #[x, y] _ _ hp hK Tryd.underlying29 rfl (by show _ = some 2; kernel_rfl)) rfl hR
set_option maxRecDepth 100000 in
set_option maxHeartbeats 8000000 in
theorem parse_any (s : ByteArray) (w : World) (hs : s.size ≤ 1048576) :
    Calls Tryd.prog 12 #[.string s] w fun e w' => ∃ v, e = .returned (.tuple #[v, fltv (parseF (tx s))]) ∧ Hid (w'.ownsRow w.heap.size 37 3 v (parseN (tx s)).length (cellsN (parseN (tx s)))) ∧ Below w.heap.size w w' := by
  obtain ⟨wA, hwA⟩ : ∃ wA, wA = (w.alloc (.cells #[.int .i64 0, .int .i64 0] 29)).alloc (.cells #[.string s, .int .i64 0, .slice none 0 0, .slice none 0 0, .bool false] 92) := ⟨_, rfl⟩
  have K29 : Hid (Blk wA w.heap.size 29 [.int .i64 0, .int .i64 0]) := by rw [hwA]; exact (Blk.newA w _ 29).alloc _
  have K92 : Blk wA (w.heap.size + 1) 92 [.string s, .int .i64 0, .slice none 0 0, .slice none 0 0, .bool false] := by
    rw [hwA]
    have := Blk.newA (w.alloc (.cells #[.int .i64 0, .int .i64 0] 29)) #[.string s, .int .i64 0, .slice none 0 0, .slice none 0 0, .bool false] 92
    simpa using this
  have HBA : Hid (Below w.heap.size w wA) := by rw [hwA]; exact ((Below.refl _ _).alloc (Nat.le_refl _) _).alloc (by simp) _
  have HRA : Hid (RAt w.heap.size wA (w.heap.size + 1) s st00) := ⟨_, _, K92, by omega, World.ownsRow_nil _ _ _ _, World.ownsRow_nil _ _ _ _⟩
  clear K92
  have hl : ¬ ((1048576 : Int) < (s.size : Int)) := by omega
  go_enter Tryd.func12, Tryd.ntmps12
  go_upto_region 4 with fail
  rw [← hwA]
  clear hwA
  go_wp2_with fail
  refine (read_any w.heap.size (w.heap.size + 1) s st00 wA HRA hs (PSok.begin _)).mono ?_; rintro e w1 ⟨rfl, H1, HK1⟩
  have K1 : Hid (Blk w1 w.heap.size 29 [.int .i64 0, .int .i64 0]) := HK1.out.oth _ _ _ (by decide) (by decide) (by decide) K29.out
  have HB1 : Hid (Below w.heap.size w w1) := HBA.out.trans HK1.out.bel
  have e0 := K1.out.cell 0; have e1 := K1.out.cell 1
  have z0 := K1.out.frozen 0; have z1 := K1.out.frozen 1
  simp at e0 e1
  have HN : Hid (parseN (tx s) = if okM (tx s) (readT (tx s) st00) = true then (readT (tx s) st00).N else []) := rfl
  have HF : Hid (parseF (tx s) = if okM (tx s) (readT (tx s) st00) = true then (0, 0) else (41, ((readT (tx s) st00).p : Int))) := rfl
  clear K29 HBA HRA HK1
  generalize readT (tx s) st00 = st at *
  obtain ⟨p, N, O, en⟩ := st
  obtain ⟨vn, vo, hr⟩ := H1.out
  have HR : Hid (Rdr w.heap.size w1 (w.heap.size + 1) s p vn vo N O en) := hr
  have c1 := HR.out.c1; have c2 := HR.out.c2
  clear hr H1
  cases hok : okM (tx s) ⟨p, N, O, en⟩ with
  | true =>
    rw [hok, if_pos rfl] at HN HF
    go_wp2
    exact ret12 rfl ((K1.out.set 0 _).set 1 _) ⟨vn, by rw [HF.out]; rfl, by rw [HN.out]; exact own_far (own_far HR.out.nod K1.out (by decide)) (K1.out.set 0 _) (by decide), (HB1.out.setCell (Nat.le_refl _) _).setCell (Nat.le_refl _) _⟩
  | false =>
    rw [hok, if_neg (by simp)] at HN HF
    go_wp2_with fail
    go_region
    go_wp2
    exact ret12 rfl ((K1.out.set 0 _).set 1 _).drew ⟨_, by rw [HF.out]; rfl, by rw [HN.out]; exact World.ownsRow_nil _ _ _ _, ((HB1.out.setCell (Nat.le_refl _) _).setCell (Nat.le_refl _) _).drew⟩
end Go.Proofs.YtlbgdgobhiokpaaDoor

/- Equal, sameInts, num, fault. -/
namespace Go.Proofs.YtlbgdgobhiokpaaDoor
open Go.RowKit
set_option linter.unusedVariables false

theorem num_any (k : Int) (w : World) : Calls Tryd.prog 13 #[.int .i64 k] w fun e w' => e = .returned (.int .i64 k) ∧ w = w' := by
  go_enter Tryd.func13, Tryd.ntmps13
  go_wp2
  go_ret
  exact ⟨rfl, rfl⟩
theorem getD_eq (l m : List Nd) (h : l.length = m.length) (hk : ∀ i, i < l.length → l.getD i nil0 = m.getD i nil0) : l = m := by
  refine List.ext_getElem h fun i h1 h2 => ?_
  have := hk i h1
  rw [List.getD, List.getD, List.getElem?_eq_getElem h1, List.getElem?_eq_getElem h2] at this
  exact this
theorem nd_ne (x y : Nd) (h : x ≠ y) : (x.1 == y.1 && x.2.1 == y.2.1 && x.2.2 == y.2.2) = false := by
  obtain ⟨a, b, c⟩ := x
  obtain ⟨d, e, f⟩ := y
  simp only [ne_eq, Prod.mk.injEq, not_and] at h
  by_cases h1 : a = d
  · by_cases h2 : b = e
    · simp [h1, h2, h h1 h2]
    · simp [h2]
  · simp [h1]
set_option maxRecDepth 100000 in
set_option maxHeartbeats 8000000 in
theorem refEqual_any (a1 a2 : Option Addr) (n1 n2 k1 k2 : Nat) (l m : List Nd) (w : World) (h1 : l.length = n1) (h2 : m.length = n2) (hs : n1 ≤ 1000000) (hs2 : n2 ≤ 1000000) (r1 : Hid (NRow w a1 l)) (r2 : Hid (NRow w a2 m)) :
    Calls Tryd.prog 16 #[.slice a1 n1 k1, .slice a2 n2 k2] w fun e w' => e = .returned (.bool (decide (l = m))) ∧ Below w.heap.size w w' := by
  go_enter Tryd.func16, Tryd.ntmps16
  by_cases hn : n1 = n2
  · subst hn
    go_wp2_with fail
    go_loopw [5] (fun i wr => ∃ k : Nat, k ≤ n1 ∧ i = .int .i64 k ∧ Hid (∀ j, j < k → l.getD j nil0 = m.getD j nil0) ∧ Hid (Below w.heap.size w wr)) (fun i _ => n1 - (intOf i).toNat)
    case atStart => exact ⟨0, Nat.zero_le _, rfl, fun j hj => by omega, Below.refl _ _⟩
    case round =>
      obtain ⟨k, hk, rfl, HE, HB⟩ := hrel
      by_cases hlt : k < n1
      · have hlt' : (k : Int) < n1 := by omega
        obtain ⟨b1, o1, rfl, hb1, hc1⟩ := r1.out.open (by omega)
        obtain ⟨b2, o2, rfl, hb2, hc2⟩ := r2.out.open (by omega)
        obtain ⟨x0, x1, x2⟩ := hc1 k (by omega)
        obtain ⟨y0, y1, y2⟩ := hc2 k (by omega)
        have d0 := (HB.out.cell (p := ⟨b1, o1 + k * 3, none⟩) hb1).trans x0
        have d1 := (HB.out.cell (p := ⟨b1, o1 + k * 3 + 1, none⟩) hb1).trans x1
        have d2 := (HB.out.cell (p := ⟨b1, o1 + k * 3 + 2, none⟩) hb1).trans x2
        have f0 := (HB.out.cell (p := ⟨b2, o2 + k * 3, none⟩) hb2).trans y0
        have f1 := (HB.out.cell (p := ⟨b2, o2 + k * 3 + 1, none⟩) hb2).trans y1
        have f2 := (HB.out.cell (p := ⟨b2, o2 + k * 3 + 2, none⟩) hb2).trans y2
        have HEk : Hid (l.getD k nil0 = m.getD k nil0 → ∀ j, j < k + 1 → l.getD j nil0 = m.getD j nil0) := fun h j hj => by
          rcases Nat.lt_or_ge j k with h3 | h3
          · exact HE.out j h3
          · obtain rfl : j = k := by omega
            exact h
        have HNE : Hid (l.getD k nil0 ≠ m.getD k nil0 → decide (l = m) = false) := fun h => decide_eq_false fun e => h (by rw [e])
        clear hc1 hc2 x0 x1 x2 y0 y1 y2 HE
        generalize l.getD k nil0 = x at *
        generalize m.getD k nil0 = y at *
        obtain ⟨xk, xn, xc⟩ := x
        obtain ⟨yk, yn, yc⟩ := y
        simp only at d0 d1 d2 f0 f1 f2
        by_cases hxy : ((xk, xn, xc) : Nd) = (yk, yn, yc)
        · have HE2 : Hid _ := HEk.out hxy
          have e0 : xk = yk ∧ xn = yn ∧ xc = yc := by simpa using hxy
          obtain ⟨rfl, rfl, rfl⟩ := e0
          go_wp2_with fail
          go_quiet (fail)
          go_wp2
          go_roundw
          case rel => exact ⟨k + 1, by omega, by go_num, HE2, ⟨HB.out.os, HB.out.tape, HB.out.output, HB.out.size, HB.out.block⟩⟩
          case measure => simp [intOf]; omega
        · have HF : Hid (decide (l = m) = false) := HNE.out hxy
          have hcases : (xk == yk) = false ∨ (xk = yk ∧ (xn == yn) = false) ∨ (xk = yk ∧ xn = yn ∧ (xc == yc) = false) := by
            by_cases e1 : xk = yk
            · by_cases e2 : xn = yn
              · refine .inr (.inr ⟨e1, e2, ?_⟩)
                have : ¬ xc = yc := fun e3 => hxy (by rw [e1, e2, e3])
                simpa using this
              · exact .inr (.inl ⟨e1, by simpa using e2⟩)
            · exact .inl (by simpa using e1)
          clear hxy HNE HEk
          rcases hcases with hb | ⟨rfl, hb⟩ | ⟨rfl, rfl, hb⟩
          all_goals
            go_wp2_with fail
            go_quiet (fail)
            go_wp2
            go_ret
            exact ⟨by rw [HF.out]; rfl, ⟨HB.out.os, HB.out.tape, HB.out.output, HB.out.size, HB.out.block⟩⟩
      · obtain rfl : k = n1 := by omega
        have HF : Hid (decide (l = m) = true) := decide_eq_true (getD_eq l m (by omega) (fun i hi => HE.out i (by omega)))
        go_wp2
        go_ret
        exact ⟨by rw [HF.out]; rfl, HB.out⟩
  · have HF : Hid (decide (l = m) = false) := decide_eq_false fun e => hn (by rw [← h1, ← h2, e])
    have hb : ((n1 : Int) == (n2 : Int)) = false := by simp; omega
    go_wp2
    go_ret
    exact ⟨by rw [HF.out]; rfl, Below.refl _ _⟩
end Go.Proofs.YtlbgdgobhiokpaaDoor

/- slices.Equal, Equal, sameInts, fault. -/
namespace Go.Proofs.YtlbgdgobhiokpaaDoor
open Go.RowKit
set_option linter.unusedVariables false

set_option maxRecDepth 100000 in
set_option maxHeartbeats 8000000 in
theorem slEqual_any (a1 a2 : Option Addr) (n1 n2 k1 k2 : Nat) (l m : List Nd) (w : World) (h1 : l.length = n1) (h2 : m.length = n2) (hs : n1 ≤ 1000000) (hs2 : n2 ≤ 1000000) (r1 : Hid (NRow w a1 l)) (r2 : Hid (NRow w a2 m)) :
    Calls Tryd.prog 38 #[.slice a1 n1 k1, .slice a2 n2 k2] w fun e w' => e = .returned (.bool (decide (l = m))) ∧ Below w.heap.size w w' := by
  go_enter Tryd.func38, Tryd.ntmps38
  by_cases hn : n1 = n2
  · subst hn
    go_wp2_with fail
    go_loopw [13] (fun i wr => ∃ k : Nat, k ≤ n1 ∧ i = .int .i64 k ∧ Hid (∀ j, j < k → l.getD j nil0 = m.getD j nil0) ∧ Hid (Below w.heap.size w wr)) (fun i _ => n1 - (intOf i).toNat)
    case atStart => exact ⟨0, Nat.zero_le _, rfl, fun j hj => by omega, Below.refl _ _⟩
    case round =>
      obtain ⟨k, hk, rfl, HE, HB⟩ := hrel
      by_cases hlt : k < n1
      · have hlt' : (k : Int) < n1 := by omega
        obtain ⟨b1, o1, rfl, hb1, hc1⟩ := r1.out.open (by omega)
        obtain ⟨b2, o2, rfl, hb2, hc2⟩ := r2.out.open (by omega)
        obtain ⟨x0, x1, x2⟩ := hc1 k (by omega)
        obtain ⟨y0, y1, y2⟩ := hc2 k (by omega)
        have d0 := (HB.out.cell (p := ⟨b1, o1 + k * 3, none⟩) hb1).trans x0
        have d1 := (HB.out.cell (p := ⟨b1, o1 + k * 3 + 1, none⟩) hb1).trans x1
        have d2 := (HB.out.cell (p := ⟨b1, o1 + k * 3 + 2, none⟩) hb1).trans x2
        have f0 := (HB.out.cell (p := ⟨b2, o2 + k * 3, none⟩) hb2).trans y0
        have f1 := (HB.out.cell (p := ⟨b2, o2 + k * 3 + 1, none⟩) hb2).trans y1
        have f2 := (HB.out.cell (p := ⟨b2, o2 + k * 3 + 2, none⟩) hb2).trans y2
        have HEk : Hid (l.getD k nil0 = m.getD k nil0 → ∀ j, j < k + 1 → l.getD j nil0 = m.getD j nil0) := fun h j hj => by
          rcases Nat.lt_or_ge j k with h3 | h3
          · exact HE.out j h3
          · obtain rfl : j = k := by omega
            exact h
        have HNE : Hid (l.getD k nil0 ≠ m.getD k nil0 → decide (l = m) = false) := fun h => decide_eq_false fun e => h (by rw [e])
        clear hc1 hc2 x0 x1 x2 y0 y1 y2 HE
        generalize l.getD k nil0 = x at *
        generalize m.getD k nil0 = y at *
        obtain ⟨xk, xn, xc⟩ := x
        obtain ⟨yk, yn, yc⟩ := y
        simp only at d0 d1 d2 f0 f1 f2
        by_cases hxy : ((xk, xn, xc) : Nd) = (yk, yn, yc)
        · have HE2 : Hid _ := HEk.out hxy
          have e0 : xk = yk ∧ xn = yn ∧ xc = yc := by simpa using hxy
          obtain ⟨rfl, rfl, rfl⟩ := e0
          go_wp2_with fail
          go_quiet (fail)
          go_wp2
          go_roundw
          case rel => exact ⟨k + 1, by omega, by go_num, HE2, ⟨HB.out.os, HB.out.tape, HB.out.output, HB.out.size, HB.out.block⟩⟩
          case measure => simp [intOf]; omega
        · have HF : Hid (decide (l = m) = false) := HNE.out hxy
          have hcases : (xk == yk) = false ∨ (xk = yk ∧ (xn == yn) = false) ∨ (xk = yk ∧ xn = yn ∧ (xc == yc) = false) := by
            by_cases e1 : xk = yk
            · by_cases e2 : xn = yn
              · refine .inr (.inr ⟨e1, e2, ?_⟩)
                have : ¬ xc = yc := fun e3 => hxy (by rw [e1, e2, e3])
                simpa using this
              · exact .inr (.inl ⟨e1, by simpa using e2⟩)
            · exact .inl (by simpa using e1)
          clear hxy HNE HEk
          rcases hcases with hb | ⟨rfl, hb⟩ | ⟨rfl, rfl, hb⟩
          all_goals
            go_wp2_with fail
            go_quiet (fail)
            go_wp2
            go_ret
            exact ⟨by rw [HF.out]; rfl, ⟨HB.out.os, HB.out.tape, HB.out.output, HB.out.size, HB.out.block⟩⟩
      · obtain rfl : k = n1 := by omega
        have HF : Hid (decide (l = m) = true) := decide_eq_true (getD_eq l m (by omega) (fun i hi => HE.out i (by omega)))
        go_wp2
        go_ret
        exact ⟨by rw [HF.out]; rfl, HB.out⟩
  · have HF : Hid (decide (l = m) = false) := decide_eq_false fun e => hn (by rw [← h1, ← h2, e])
    have hb : ((n1 : Int) == (n2 : Int)) = false := by simp; omega
    go_wp2
    go_ret
    exact ⟨by rw [HF.out]; rfl, Below.refl _ _⟩
theorem equal_any (a1 a2 : Option Addr) (n1 n2 k1 k2 : Nat) (l m : List Nd) (w : World) (h1 : l.length = n1) (h2 : m.length = n2) (hs : n1 ≤ 1000000) (hs2 : n2 ≤ 1000000) (r1 : Hid (NRow w a1 l)) (r2 : Hid (NRow w a2 m)) :
    Calls Tryd.prog 15 #[.slice a1 n1 k1, .slice a2 n2 k2] w fun e w' => e = .returned (.bool (decide (l = m))) ∧ Below w.heap.size w w' := by
  go_enter Tryd.func15, Tryd.ntmps15
  go_wp2_with fail
  refine (slEqual_any a1 a2 n1 n2 k1 k2 l m w h1 h2 hs hs2 r1 r2).mono ?_; rintro e w1 ⟨rfl, hB1⟩
  go_wp2
  go_ret
  exact ⟨rfl, hB1⟩
theorem fault_any (x y e0 a0 : Int) (w : World) : Calls Tryd.prog 14 #[.agg #[.int .i64 x, .int .i64 y], .int .i64 e0, .int .i64 a0] w fun e w' => e = .returned (.bool (decide (x = e0 ∧ y = a0))) ∧ Below w.heap.size w w' := by
  go_enter Tryd.func14, Tryd.ntmps14
  by_cases h1 : x = e0
  · subst h1
    by_cases h2 : y = a0
    · subst h2
      go_wp2_with (go_at_call 13; refine (num_any _ _).mono ?_; rintro e w' ⟨rfl, rfl⟩)
      go_ret
      exact ⟨by simp, (Below.refl _ _).alloc (Nat.le_refl _) _⟩
    · have hb : (y == a0) = false := by simpa using h2
      go_wp2_with (go_at_call 13; refine (num_any _ _).mono ?_; rintro e w' ⟨rfl, rfl⟩)
      go_ret
      exact ⟨by simp, (Below.refl _ _).alloc (Nat.le_refl _) _⟩
  · have hb : (x == e0) = false := by simpa using h1
    go_wp2_with (go_at_call 13; refine (num_any _ _).mono ?_; rintro e w' ⟨rfl, rfl⟩)
    go_ret
    exact ⟨by simp [h1], (Below.refl _ _).alloc (Nat.le_refl _) _⟩
theorem getI_eq (l m : List Int) (h : l.length = m.length) (hk : ∀ i, i < l.length → l.getD i 0 = m.getD i 0) : l = m := by
  refine List.ext_getElem h fun i h1 h2 => ?_
  have := hk i h1
  rw [List.getD, List.getD, List.getElem?_eq_getElem h1, List.getElem?_eq_getElem h2] at this
  exact this
set_option maxRecDepth 100000 in
set_option maxHeartbeats 8000000 in
theorem sameInts_any (a1 a2 : Option Addr) (n1 n2 k1 k2 : Nat) (l m : List Int) (w : World) (h1 : l.length = n1) (h2 : m.length = n2) (hs : n1 ≤ 1000000) (hs2 : n2 ≤ 1000000) (r1 : Hid (Row .i64 w a1 l)) (r2 : Hid (Row .i64 w a2 m)) :
    Calls Tryd.prog 33 #[.slice a1 n1 k1, .slice a2 n2 k2] w fun e w' => e = .returned (.bool (decide (l = m))) ∧ Below w.heap.size w w' := by
  go_enter Tryd.func33, Tryd.ntmps33
  by_cases hn : n1 = n2
  · subst hn
    go_wp2_with fail
    go_loopw [5] (fun i wr => ∃ k : Nat, k ≤ n1 ∧ i = .int .i64 k ∧ Hid (∀ j, j < k → l.getD j 0 = m.getD j 0) ∧ Hid (Below w.heap.size w wr)) (fun i _ => n1 - (intOf i).toNat)
    case atStart => exact ⟨0, Nat.zero_le _, rfl, fun j hj => by omega, Below.refl _ _⟩
    case round =>
      obtain ⟨k, hk, rfl, HE, HB⟩ := hrel
      by_cases hlt : k < n1
      · have hlt' : (k : Int) < n1 := by omega
        obtain ⟨b1, o1, rfl, hb1, hc1⟩ := r1.out.open (by omega)
        obtain ⟨b2, o2, rfl, hb2, hc2⟩ := r2.out.open (by omega)
        have d0 := (HB.out.cell (p := ⟨b1, o1 + k, none⟩) hb1).trans (hc1 k (by omega))
        have f0 := (HB.out.cell (p := ⟨b2, o2 + k, none⟩) hb2).trans (hc2 k (by omega))
        have HEk : Hid (l.getD k 0 = m.getD k 0 → ∀ j, j < k + 1 → l.getD j 0 = m.getD j 0) := fun h j hj => by
          rcases Nat.lt_or_ge j k with h3 | h3
          · exact HE.out j h3
          · obtain rfl : j = k := by omega
            exact h
        have HNE : Hid (l.getD k 0 ≠ m.getD k 0 → decide (l = m) = false) := fun h => decide_eq_false fun e => h (by rw [e])
        clear hc1 hc2 HE
        generalize l.getD k 0 = x at *
        generalize m.getD k 0 = y at *
        by_cases hxy : x = y
        · have HE2 : Hid _ := HEk.out hxy
          subst hxy
          go_wp2_with fail
          go_quiet (fail)
          go_wp2
          go_roundw
          case rel => exact ⟨k + 1, by omega, by go_num, HE2, ⟨HB.out.os, HB.out.tape, HB.out.output, HB.out.size, HB.out.block⟩⟩
          case measure => simp [intOf]; omega
        · have HF : Hid (decide (l = m) = false) := HNE.out hxy
          have hb : (x == y) = false := by simpa using hxy
          go_wp2_with fail
          go_quiet (fail)
          go_wp2
          go_ret
          exact ⟨by rw [HF.out]; rfl, ⟨HB.out.os, HB.out.tape, HB.out.output, HB.out.size, HB.out.block⟩⟩
      · obtain rfl : k = n1 := by omega
        have HF : Hid (decide (l = m) = true) := decide_eq_true (getI_eq l m (by omega) (fun i hi => HE.out i (by omega)))
        go_wp2
        go_ret
        exact ⟨by rw [HF.out]; rfl, HB.out⟩
  · have HF : Hid (decide (l = m) = false) := decide_eq_false fun e => hn (by rw [← h1, ← h2, e])
    have hb : ((n1 : Int) == (n2 : Int)) = false := by simp; omega
    go_wp2
    go_ret
    exact ⟨by rw [HF.out]; rfl, Below.refl _ _⟩
end Go.Proofs.YtlbgdgobhiokpaaDoor
