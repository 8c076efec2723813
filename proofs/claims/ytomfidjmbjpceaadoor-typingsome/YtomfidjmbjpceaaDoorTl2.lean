/- lent: its walk. -/
import Derived.Test.YtomfidjmbjpceaaDoorTl
namespace Go.Proofs.YtomfidjmbjpceaaDoor
open Go.RowKit
set_option linter.unusedVariables false

set_option maxRecDepth 100000 in
set_option maxHeartbeats 8000000 in
theorem lent_any (aT : Option Addr) (cT : Nat) (T : List Ty) (aR : Option Addr) (cR : Nat) (R : List Rt) (w : World) (hn : T.length ≤ 100000000) (hm : R.length ≤ 1000000) (hnil : aR = none → cR = 0) (hl : Hid (∀ t ∈ T, t.ps.length ≤ 1000000)) (hT : Hid (TRow w aT T)) (hRr : Hid (RRow w aR R)) (aV : Option Addr) (cV : Nat) (V : List Nv) (hvl : V.length ≤ 1000000) (hvn : aV = none → cV = 0) (hVr : Hid (VRow w aV V)) (aP : Option Addr) (cP : Nat) (P : List Int) (hpl0 : P.length ≤ 1000000) (hpn : aP = none → cP = 0) (hPr : Hid (Row .i64 w aP P)) :
    Calls Tryd.prog 10 #[.agg #[.slice aT T.length cT, .slice aR R.length cR], .slice aV V.length cV, .slice aP P.length cP] w fun e w' => LentTo w T R V P e w' := by
  obtain ⟨w1, hw1⟩ : ∃ wx, wx = w.alloc (.cells #[.slice aT T.length cT, .slice aR R.length cR] 25) := ⟨_, rfl⟩
  have b1 : Below w.heap.size w w1 := by rw [hw1]; exact below1 _ _
  have k1 : Blk w1 w.heap.size 25 [.slice aT T.length cT, .slice aR R.length cR] := by rw [hw1]; exact Blk.newA w _ _
  have s1 : w1.heap.size = w.heap.size + 1 := by rw [hw1]; simp
  obtain ⟨w2, hw2⟩ : ∃ wx, wx = w1.alloc (.cells #[.slice none 0 0, .slice none 0 0, .slice none 0 0, .slice none 0 0] 33) := ⟨_, rfl⟩
  have b2 : Below w1.heap.size w1 w2 := by rw [hw2]; exact below1 _ _
  have k2 : Blk w2 w1.heap.size 33 [.slice none 0 0, .slice none 0 0, .slice none 0 0, .slice none 0 0] := by rw [hw2]; exact Blk.newA w1 _ _
  have s2 : w2.heap.size = w.heap.size + 2 := by rw [hw2]; simp [s1]
  obtain ⟨w3, hw3⟩ : ∃ wx, wx = w2.alloc (.cells #[.slice none 0 0, .slice none 0 0] 25) := ⟨_, rfl⟩
  have b3 : Below w2.heap.size w2 w3 := by rw [hw3]; exact below1 _ _
  have k3 : Blk w3 w2.heap.size 25 [.slice none 0 0, .slice none 0 0] := by rw [hw3]; exact Blk.newA w2 _ _
  rw [s1] at k2
  rw [s2] at k3
  have HC0 : Hid (CuL w w w3 (.slice aT T.length cT) (.slice aR R.length cR) (.slice none 0 0) []) := hide_ ⟨(k1.later b2).later b3, k2.later b3, k3, ⟨World.ownsRow_nil _ _ _ _, fun p hp => by cases hp⟩, (fun k hk => by cases hk), below_to (below_to b1 b2) b3⟩
  clear b1 b2 b3 k1 k2 k3 s1 s2
  go_enter Tryd.func10, Tryd.ntmps10
  go_upto_region 2 with fail
  rw [← hw1, ← hw2, ← hw3]
  clear hw1 hw2 hw3
  go_wp2_with fail
  go_loopw [8] (fun x4 wr => ∃ (i : Nat) (v : Value) (Q : List (Ty × Value)), i ≤ T.length ∧ x4 = .int .i64 (i : Int) ∧ Hid (Q.map (·.1) = T.take i) ∧ Hid (∀ p ∈ Q, MkIn wr w.heap.size mqP p.1.ps p.2) ∧ Hid (CuL w w wr (.slice aT T.length cT) (.slice aR R.length cR) v Q)) (fun x4 _ => T.length - (intOf x4).toNat)
  case atStart => exact ⟨0, _, [], Nat.zero_le _, rfl, hide_ (by simp), hide_ (fun p hp => by cases hp), HC0⟩
  case round =>
    obtain ⟨i, v, Q, hi, rfl, HQ, HMk, HS⟩ := hrel
    clear HC0
    generalize wr = wq at *
    have i0 := HS.out.arg.cell 0
    simp at i0
    by_cases hlt : i < T.length
    · have hlt' : (i : Int) < T.length := by omega
      have hx : T[i]? = some (T[i]'hlt) := List.getElem?_eq_getElem hlt
      obtain ⟨bT, oT, rfl, hbT, hcT⟩ := hT.out.open (by omega)
      obtain ⟨va, vc, hty, hvc, hvn, hpr⟩ := hcT i _ hx
      have HX := hide_ hx
      have hpl := hl.out _ (List.mem_of_getElem? hx)
      generalize T[i]'hlt = t at *
      have hty' : ∀ j, j < 4 → wq.cell? ⟨bT, oT + i * 4 + j, none⟩ = (tyc t (.slice va t.ps.length vc))[j]? := fun j hj => (HS.out.bel.cell (p := ⟨bT, oT + i * 4 + j, none⟩) hbT).trans (hty j hj)
      have y0 := hty' 0 (by decide); have y1 := hty' 1 (by decide); have y2 := hty' 2 (by decide); have y3 := hty' 3 (by decide)
      simp [tyc] at y0 y1 y2 y3
      obtain ⟨av, cv, hav, -⟩ := HS.out.own.row
      rw [List.length_map] at hav
      subst hav
      obtain ⟨wa, hwa⟩ : ∃ wx, wx = wq.alloc (.cells #[.int .i64 t.k, .int .i64 t.n, .int .i64 t.e, .slice va t.ps.length vc] 64) := ⟨_, rfl⟩
      have ba : Below wq.heap.size wq wa := by rw [hwa]; exact below1 _ _
      have ka : Blk wa wq.heap.size 64 [.int .i64 t.k, .int .i64 t.n, .int .i64 t.e, .slice va t.ps.length vc] := by rw [hwa]; exact Blk.newA wq _ _
      have hz0 : w.heap.size ≤ wq.heap.size := HS.out.bel.size
      have hza : w.heap.size ≤ wa.heap.size := Nat.le_trans hz0 ba.size
      have hpa := hpr.later (below_to HS.out.bel ba)
      obtain ⟨Av, Aw, Ag, Ac, Aw2, A1, A2, Am, Ab1, Ab2, Acc⟩ := ptO wa.drew va vc t.ps (hpa.later ((Below.refl _ _).drew)) hvn hpl
      obtain ⟨Bv, Bw, Bg, Bc, Bw2, B1, B2, Bm, Bb1, Bb2, Bcc⟩ := ptO2 wa.drew va vc t.ps (hpa.later ((Below.refl _ _).drew)) hvn hpl
      have lowM : ∀ {w' : World} {u : Value}, MkIn w' wa.drew.heap.size mqP t.ps u → MkIn w' w.heap.size mqP t.ps u := fun h => by
        obtain ⟨g, c, e, h1, h2, h3, h4⟩ := h
        exact ⟨g, c, e, h1, h2, Nat.le_trans hza h3, h4⟩
      have Am := hide_ (lowM Am)
      have Bm := hide_ (lowM Bm)
      have Ab1 := hide_ (below_to ((Below.refl wa.heap.size wa).drew) Ab1)
      have Ab2 := hide_ (below_to ((Below.refl wa.heap.size wa).drew) Ab2)
      have Bb1 := hide_ (below_to ((Below.refl wa.heap.size wa).drew) Bb1)
      have Bb2 := hide_ (below_to ((Below.refl wa.heap.size wa).drew) Bb2)
      have A1 := hide_ A1
      have A2 := hide_ A2
      have B1 := hide_ B1
      have B2 := hide_ B2
      have hAc : (t.ps.length : Int) ≤ Ac := by omega
      have hBc : (t.ps.length : Int) ≤ Bc := by omega
      have KA := hide_ ka
      have HBA := hide_ ba
      have HSS : Hid (∀ w', Below wa.heap.size wa w' → Below wa.heap.size wa w' ∧ w'.cell? ⟨wq.heap.size, 3, none⟩ = some (.slice va t.ps.length vc)) := hide_ (fun w' hB' => ⟨hB', (KA.out.later hB').cell 3⟩)
      clear hty hty' hcT hx hpa hpr lowM ka ba Acc Bcc
      go_upto_region 6 with fail
      rw [← hwa]
      clear hwa i0 y0 y1 y2 y3
      go_cut [] from 22 to 32 (fun wc => ∃ (g c : Nat) (wz : World), wz = wc ∧ Hid (Blk wz wq.heap.size 64 [.int .i64 t.k, .int .i64 t.n, .int .i64 t.e, .slice (some ⟨g, 0, none⟩) t.ps.length c]) ∧ Hid (MkIn wz w.heap.size mqP t.ps (.slice (some ⟨g, 0, none⟩) t.ps.length c)) ∧ Hid (Below wq.heap.size wq wz))
      case first =>
        refine wp_region_last 11 (fun w' => Below wa.heap.size wa w' ∧ w'.cell? ⟨wq.heap.size, 3, none⟩ = some (.slice va t.ps.length vc)) (by kernel_rfl) (HSS.out _ ((Below.refl _ _).drew)) (fun hHeld => ?_)
        refine wpAnyF_take [11] (by kernel_rfl) (i := 0) (v := ?vp1) rfl (by kernel_rfl) (by kernel_rfl) (by kernel_rfl) (fun _ _ _ h => h) (Or.inl ⟨by kernel_rfl, ?hyp1⟩) hHeld ?restp1
        case hyp1 => intro w' hSw; (try dsimp only at hSw); go_simp; try with_reducible rfl
        simp only [Act.put]
        refine wpAnyF_take [11] (by kernel_rfl) (i := 1) (v := ?vp2) rfl (by kernel_rfl) (by kernel_rfl) (by kernel_rfl) (fun _ _ _ h => h) (Or.inl ⟨by kernel_rfl, ?hyp2⟩) hHeld ?restp2
        case hyp2 => intro w' hSw; (try dsimp only at hSw); go_simp; try with_reducible rfl
        simp only [Act.put]
        refine wpAnyF_take [11] (by kernel_rfl) (i := 3) (v := ?vp3) rfl (by kernel_rfl) (by kernel_rfl) (by kernel_rfl) (fun _ _ _ h => h) (Or.inl ⟨by kernel_rfl, ?hyp3⟩) hHeld ?restp3
        case hyp3 => intro w' hSw; (try dsimp only at hSw); go_simp; try with_reducible rfl
        simp only [Act.put]
        refine wpAnyF_take [11] (by kernel_rfl) (i := 6) (v := ?vp4) rfl (by kernel_rfl) (by kernel_rfl) (by kernel_rfl) (fun _ _ _ h => h) (Or.inl ⟨by kernel_rfl, ?hyp4⟩) hHeld ?restp4
        case hyp4 => intro w' hSw; (try dsimp only at hSw); go_simp; try with_reducible rfl
        simp only [Act.put]
        refine wpAnyF_take [11] (by kernel_rfl) (i := 7) (v := ?vp5) rfl (by kernel_rfl) (by kernel_rfl) (by kernel_rfl) (fun _ _ _ h => h) (Or.inl ⟨by kernel_rfl, ?hyp5⟩) hHeld ?restp5
        case hyp5 => intro w' hSw; (try dsimp only at hSw); go_simp; try with_reducible rfl
        simp only [Act.put]
        refine wpAnyF_take [11] (by kernel_rfl) (i := 8) (v := ?vp6) rfl (by kernel_rfl) (by kernel_rfl) (by kernel_rfl) (fun _ _ _ h => h) (Or.inl ⟨by kernel_rfl, ?hyp6⟩) hHeld ?restp6
        case hyp6 => intro w' hSw; (try dsimp only at hSw); go_simp; try with_reducible rfl
        simp only [Act.put]
        refine wpAnyF_ready (rs := [2, 4]) (by kernel_rfl) (by simp) ?_
        refine AllReadyF.cons rfl (fun K hK => ?_) ?_
        · refine step_append_run rfl (.const (.slice none 0 0)) (.tmp 23) 62 62 rfl rfl rfl A1.out ?_
          refine hK.out _ _ (HSS.out _ Ab1.out) (fun hHeld => ?_)
          clear hK K
          refine wpAnyF_ready (rs := [4]) (by kernel_rfl) (by simp) ?_
          refine AllReadyF.cons rfl (fun K hK => ?_) AllReadyF.nil
          go_simp
          refine hK.out _ _ (HSS.out _ (below_to Ab1.out (below1 _ _))) (fun hHeld => ?_)
          clear hK K
          refine wpAnyF_ready (rs := [5]) (by kernel_rfl) (by simp) ?_
          refine AllReadyF.cons rfl (fun K hK => ?_) AllReadyF.nil
          refine step_append_run rfl (.tmp 24) (.tmp 26) 62 62 rfl rfl rfl A2.out ?_
          refine hK.out _ _ (HSS.out _ Ab2.out) (fun hHeld => ?_)
          clear hK K
          refine wpAnyF_take [11] (by kernel_rfl) (i := 9) (v := ?vp7) rfl (by kernel_rfl) (by kernel_rfl) (by kernel_rfl) (fun _ _ _ h => h) (Or.inl ⟨by kernel_rfl, ?hyp7⟩) hHeld ?restp7
          case hyp7 => intro w' hSw; (try dsimp only at hSw); go_simp; try with_reducible rfl
          simp only [Act.put]
          refine wpAnyF_take [11] (by kernel_rfl) (i := 10) (v := ?vp8) rfl (by kernel_rfl) (by kernel_rfl) (by kernel_rfl) (fun _ _ _ h => h) (Or.inl ⟨by kernel_rfl, ?hyp8⟩) hHeld ?restp8
          case hyp8 => intro w' hSw; (try dsimp only at hSw); go_simp; try with_reducible rfl
          simp only [Act.put]
          refine wpAnyF_ready (rs := [11]) (by kernel_rfl) (by simp) ?_
          refine AllReadyF.last rfl (fun K hK => ?_)
          have kz := KA.out.later Ab2.out
          have l3 := kz.cell 3
          have lf := kz.frozen 3
          simp at l3
          have HKz : Hid (Blk _ wq.heap.size 64 [.int .i64 t.k, .int .i64 t.n, .int .i64 t.e, .slice (some ⟨Ag, 0, none⟩) t.ps.length Ac]) := hide_ (by have h := kz.set 3 (.slice (some ⟨Ag, 0, none⟩) t.ps.length Ac); simpa using h)
          have HBz := hide_ (below_set (below_to HBA.out Ab2.out) wq.heap.size 3 (.slice (some ⟨Ag, 0, none⟩) t.ps.length Ac) (Nat.le_refl _))
          have HMz : Hid (MkIn _ w.heap.size mqP t.ps (.slice (some ⟨Ag, 0, none⟩) t.ps.length Ac)) := hide_ (Am.out.upd ((Upd.refl (fun k => k = wq.heap.size) _).set ⟨wq.heap.size, 3, none⟩ (.slice (some ⟨Ag, 0, none⟩) t.ps.length Ac) (.inl rfl)) (fun k ys e hb => by subst e; exact absurd (blk_type kz hb) (by decide)))
          clear kz
          go_simp
          refine hK.out _ _ ?_
          clear hK K
          refine wpAnyF_done (by kernel_rfl) ?_ _
          go_wp2_with fail
          go_meet
          case rel => exact ⟨Ag, Ac, _, rfl, HKz, HMz, HBz⟩
        refine AllReadyF.cons rfl (fun K hK => ?_) AllReadyF.nil
        go_simp
        refine hK.out _ _ (HSS.out _ (below_to ((Below.refl _ _).drew) (below1 _ _))) (fun hHeld => ?_)
        clear hK K
        refine wpAnyF_ready (rs := [2]) (by kernel_rfl) (by simp) ?_
        refine AllReadyF.cons rfl (fun K hK => ?_) AllReadyF.nil
        refine step_append_run rfl (.const (.slice none 0 0)) (.tmp 23) 62 62 rfl rfl rfl B1.out ?_
        refine hK.out _ _ (HSS.out _ Bb1.out) (fun hHeld => ?_)
        clear hK K
        refine wpAnyF_ready (rs := [5]) (by kernel_rfl) (by simp) ?_
        refine AllReadyF.cons rfl (fun K hK => ?_) AllReadyF.nil
        refine step_append_run rfl (.tmp 24) (.tmp 26) 62 62 rfl rfl rfl B2.out ?_
        refine hK.out _ _ (HSS.out _ Bb2.out) (fun hHeld => ?_)
        clear hK K
        refine wpAnyF_take [11] (by kernel_rfl) (i := 9) (v := ?vp9) rfl (by kernel_rfl) (by kernel_rfl) (by kernel_rfl) (fun _ _ _ h => h) (Or.inl ⟨by kernel_rfl, ?hyp9⟩) hHeld ?restp9
        case hyp9 => intro w' hSw; (try dsimp only at hSw); go_simp; try with_reducible rfl
        simp only [Act.put]
        refine wpAnyF_take [11] (by kernel_rfl) (i := 10) (v := ?vp10) rfl (by kernel_rfl) (by kernel_rfl) (by kernel_rfl) (fun _ _ _ h => h) (Or.inl ⟨by kernel_rfl, ?hyp10⟩) hHeld ?restp10
        case hyp10 => intro w' hSw; (try dsimp only at hSw); go_simp; try with_reducible rfl
        simp only [Act.put]
        refine wpAnyF_ready (rs := [11]) (by kernel_rfl) (by simp) ?_
        refine AllReadyF.last rfl (fun K hK => ?_)
        have kz := KA.out.later Bb2.out
        have l3 := kz.cell 3
        have lf := kz.frozen 3
        simp at l3
        have HKz : Hid (Blk _ wq.heap.size 64 [.int .i64 t.k, .int .i64 t.n, .int .i64 t.e, .slice (some ⟨Bg, 0, none⟩) t.ps.length Bc]) := hide_ (by have h := kz.set 3 (.slice (some ⟨Bg, 0, none⟩) t.ps.length Bc); simpa using h)
        have HBz := hide_ (below_set (below_to HBA.out Bb2.out) wq.heap.size 3 (.slice (some ⟨Bg, 0, none⟩) t.ps.length Bc) (Nat.le_refl _))
        have HMz : Hid (MkIn _ w.heap.size mqP t.ps (.slice (some ⟨Bg, 0, none⟩) t.ps.length Bc)) := hide_ (Bm.out.upd ((Upd.refl (fun k => k = wq.heap.size) _).set ⟨wq.heap.size, 3, none⟩ (.slice (some ⟨Bg, 0, none⟩) t.ps.length Bc) (.inl rfl)) (fun k ys e hb => by subst e; exact absurd (blk_type kz hb) (by decide)))
        clear kz
        go_simp
        refine hK.out _ _ ?_
        clear hK K
        refine wpAnyF_done (by kernel_rfl) ?_ _
        go_wp2_with fail
        go_meet
        case rel => exact ⟨Bg, Bc, _, rfl, HKz, HMz, HBz⟩
      case rest =>
        obtain ⟨g, c, wz, rfl, KZ, HMz, HBz⟩ := hcut
        clear A1 A2 B1 B2 Am Bm Ab1 Ab2 Bb1 Bb2 hAc hBc HSS KA HBA
        have HCb := hide_ (CuL.mk (w0 := w) (w := w) (wr := wz) (a := .slice (some ⟨bT, oT, none⟩) T.length cT) (b := .slice aR R.length cR) (v := .slice av Q.length cv) (Q := Q) (HS.out.arg.later HBz.out) (HS.out.res.later HBz.out) (HS.out.out.later HBz.out) (HS.out.own.later HBz.out) HS.out.low (below_to HS.out.bel HBz.out))
        obtain ⟨g8, c8, w8, hrun, hO8, hU8, hL8⟩ := HCb.out.own.push2 t (.slice (some ⟨g, 0, none⟩) t.ps.length c) rfl (HMz.out.ptIn _) (by have := congrArg List.length HQ.out; simp at this; omega) HCb.out.bel.size
        have HR := hide_ hrun
        have HO8 := hide_ hO8
        have nb : ∀ k t' ys, Blk wz k t' ys → t' ≠ 64 → ¬ (Value.slice av Q.length cv).ownBlock = some k := fun k t' ys hb ht e => by
          obtain ⟨zs, hz⟩ := ownS_type HCb.out.own.1 e
          exact ht (blk_type hb hz)
        have o8 := HCb.out.out.upd hU8 (nb _ _ _ HCb.out.out (by decide))
        have a8 := HCb.out.arg.upd hU8 (nb _ _ _ HCb.out.arg (by decide))
        have r8 := HCb.out.res.upd hU8 (nb _ _ _ HCb.out.res (by decide))
        have hB8 : Below w.heap.size w w8 := HCb.out.bel.trans (hU8.below _ HCb.out.bel.size (fun k hk => HCb.out.low k hk))
        have hpn : ∀ k ys, (Value.slice av Q.length cv).ownBlock = some k → Blk wz k 67 ys → False := fun k ys hk hb => nb k _ ys hb (by decide) hk
        have hmk8 : ∀ p ∈ Q ++ [(t, Value.slice (some ⟨g, 0, none⟩) t.ps.length c)], MkIn w8 w.heap.size mqP p.1.ps p.2 := fun p hp => by
          rcases List.mem_append.1 hp with hp | hp
          · exact ((HMk.out p hp).later HBz.out).upd hU8 hpn
          · simp at hp
            subst hp
            exact HMz.out.upd hU8 hpn
        have HMn : Hid (∀ p ∈ Q ++ [(t, Value.slice (some ⟨g, 0, none⟩) t.ps.length c)], MkIn (w8.setCell ⟨w.heap.size + 2, 0, none⟩ (.slice (some ⟨g8, 0, none⟩) (Q.length + 1) c8)) w.heap.size mqP p.1.ps p.2) := hide_ (fun p hp => (hmk8 p hp).upd ((Upd.refl (fun k => k = w.heap.size + 2) _).set ⟨w.heap.size + 2, 0, none⟩ (.slice (some ⟨g8, 0, none⟩) (Q.length + 1) c8) (.inl rfl)) (fun k ys e hb => by subst e; exact absurd (blk_type o8 hb) (by decide)))
        have HSn : Hid (CuL w w (w8.setCell ⟨w.heap.size + 2, 0, none⟩ (.slice (some ⟨g8, 0, none⟩) (Q.length + 1) c8)) (.slice (some ⟨bT, oT, none⟩) T.length cT) (.slice aR R.length cR) (.slice (some ⟨g8, 0, none⟩) (Q.length + 1) c8) (Q ++ [(t, .slice (some ⟨g, 0, none⟩) t.ps.length c)])) := hide_ ⟨a8.other _ _ (by show w.heap.size ≠ w.heap.size + 2; omega), r8.other _ _ (by show w.heap.size + 1 ≠ w.heap.size + 2; omega), by have h := o8.set 0 (.slice (some ⟨g8, 0, none⟩) (Q.length + 1) c8); simpa using h, HO8.out.other o8 (by omega) (by decide) (by decide) 0 _, (fun k hk => by have e := own_is hk; exact hL8.elim (fun h => by rw [← e]; exact HCb.out.low _ h) (fun h => by have := HCb.out.bel.size; omega)), below_set hB8 _ _ _ (by omega)⟩
        have q0 := KZ.out.cell 0; have q1 := KZ.out.cell 1; have q2 := KZ.out.cell 2; have q3 := KZ.out.cell 3
        have z0 := HCb.out.out.cell 0
        have z8 := o8.cell 0
        have f8 := o8.frozen 0
        simp at q0 q1 q2 q3 z0 z8
        have HQn : Hid ((Q ++ [(t, Value.slice (some ⟨g, 0, none⟩) t.ps.length c)]).map (·.1) = T.take (i + 1)) := hide_ (by
          have hi := (List.getElem?_eq_some_iff.1 HX.out).1
          rw [List.take_succ_eq_append_getElem hi, (List.getElem?_eq_some_iff.1 HX.out).2, List.map_append, HQ.out]
          rfl)
        clear hrun hO8 hU8 hL8 nb o8 a8 r8 hB8 hpn hmk8 HMk HQ
        go_wp2_with (at_builtin; refine wpList_append_run rfl (.tmp 34) (.tmp 36) 22 22 rfl rfl rfl HR.out ?_)
        go_roundw
        case rel => exact ⟨i + 1, _, _, by omega, by go_num, HQn, HMn, HSn⟩
        case measure => simp [intOf]; omega
    · have hlt' : ¬ (i : Int) < T.length := by omega
      have HQe : Hid (Q.map (·.1) = T) := hide_ (by rw [HQ.out, List.take_of_length_le (by omega)])
      have hql : Q.length = T.length := by have := congrArg List.length HQe.out; simpa using this
      obtain ⟨av, cv, hav, -⟩ := HS.out.own.row
      rw [List.length_map] at hav
      subst hav
      have HA0 := hide_ HS.out.arg
      have HO0 := hide_ HS.out.out
      have hz0 : w.heap.size ≤ wq.heap.size := HS.out.bel.size
      have ownd : TOwn wq.drew w.heap.size (.slice av Q.length cv) Q := HS.out.own.later ((Below.refl _ _).drew)
      obtain ⟨g8, c8, w8, hrun, hO8, hU8, hL8⟩ := ownd.push2 mqT (.slice none 0 0) rfl ⟨none, 0, rfl, Nat.le_refl _, fun _ => rfl, .inl rfl, .inl rfl⟩ (by omega) hz0
      have hc8 : Q.length + 1 ≤ c8 := by
        obtain ⟨_, _, e, h1, -, -⟩ := own_grow tyq_len hO8.1
        injection e with _ _ e3
        rw [e3]
        simpa using h1
      have hc8' : (T.length : Int) ≤ c8 := by omega
      simp only [mqT] at hrun
      have HR8 := hide_ hrun
      have hUq : Upd (fun k => (Value.slice av Q.length cv).ownBlock = some k) wq w8 := ⟨hU8.os, hU8.tape, hU8.output, hU8.size, hU8.block⟩
      have nb : ∀ k t' ys, Blk wq k t' ys → t' ≠ 64 → ¬ (Value.slice av Q.length cv).ownBlock = some k := fun k t' ys hb ht e => by
        obtain ⟨zs, hz⟩ := ownS_type HS.out.own.1 e
        exact ht (blk_type hb hz)
      have o8 := HS.out.out.upd hUq (nb _ _ _ HS.out.out (by decide))
      have a8 := HS.out.arg.upd hUq (nb _ _ _ HS.out.arg (by decide))
      have r8 := HS.out.res.upd hUq (nb _ _ _ HS.out.res (by decide))
      have hB8 : Below w.heap.size w w8 := HS.out.bel.trans (hUq.below _ HS.out.bel.size (fun k hk => HS.out.low k hk))
      have hmk8 : ∀ p ∈ Q, MkIn w8 w.heap.size mqP p.1.ps p.2 := fun p hp => (HMk.out p hp).upd hUq (fun k ys hk hb => nb k _ ys hb (by decide) hk)
      obtain ⟨wz, hwz⟩ : ∃ wx, wx = w8.setCell ⟨w.heap.size + 2, 0, none⟩ (.slice (some ⟨g8, 0, none⟩) T.length c8) := ⟨_, rfl⟩
      have HTz : Hid (TOwn wz w.heap.size (.slice (some ⟨g8, 0, none⟩) (Q.length + 1) c8) (Q ++ [(mqT, .slice none 0 0)])) := hide_ (by rw [hwz]; exact hO8.other o8 (by omega) (by decide) (by decide) 0 _)
      have HMz : Hid (∀ p ∈ Q, MkIn wz w.heap.size mqP p.1.ps p.2) := hide_ (fun p hp => by
        rw [hwz]
        exact (hmk8 p hp).upd ((Upd.refl (fun k => k = w.heap.size + 2) _).set ⟨w.heap.size + 2, 0, none⟩ (.slice (some ⟨g8, 0, none⟩) T.length c8) (.inl rfl)) (fun k ys e hb => by subst e; exact absurd (blk_type o8 hb) (by decide)))
      have KO : Hid (Blk wz (w.heap.size + 2) 25 [.slice (some ⟨g8, 0, none⟩) T.length c8, .slice none 0 0]) := hide_ (by rw [hwz]; have h := o8.set 0 (.slice (some ⟨g8, 0, none⟩) T.length c8); simpa using h)
      have KAr : Hid (Blk wz w.heap.size 25 [.slice aT T.length cT, .slice aR R.length cR]) := hide_ (by rw [hwz]; exact a8.other _ _ (by show w.heap.size ≠ w.heap.size + 2; omega))
      have KRs : Hid (Blk wz (w.heap.size + 1) 33 [.slice none 0 0, .slice none 0 0, .slice none 0 0, .slice none 0 0]) := hide_ (by rw [hwz]; exact r8.other _ _ (by show w.heap.size + 1 ≠ w.heap.size + 2; omega))
      have HBz : Hid (Below w.heap.size w wz) := hide_ (by rw [hwz]; exact below_set hB8 _ _ _ (by omega))
      have l0 := o8.cell 0
      have lf := o8.frozen 0
      simp at l0
      clear hrun hO8 hL8 hU8 hUq nb r8 hB8 hmk8 ownd hql hc8
      go_upto_region 8 with fail
      refine wp_region_last 10 (fun w' => w'.cell? ⟨w.heap.size + 2, 0, none⟩ = some (.slice av Q.length cv) ∧ w'.cell? ⟨w.heap.size, 0, none⟩ = some (.slice aT T.length cT)) (by kernel_rfl) (⟨HO0.out.cell 0, HA0.out.cell 0⟩) (fun hHeld => ?_)
      refine wpAnyF_take [10] (by kernel_rfl) (i := 0) (v := ?vy1) rfl (by kernel_rfl) (by kernel_rfl) (by kernel_rfl) (fun _ _ _ h => h) (Or.inl ⟨by kernel_rfl, ?hyy1⟩) hHeld ?resty1
      case hyy1 => intro w' hSw; (try dsimp only at hSw); go_simp; try with_reducible rfl
      simp only [Act.put]
      refine wpAnyF_take [10] (by kernel_rfl) (i := 1) (v := ?vy2) rfl (by kernel_rfl) (by kernel_rfl) (by kernel_rfl) (fun _ _ _ h => h) (Or.inl ⟨by kernel_rfl, ?hyy2⟩) hHeld ?resty2
      case hyy2 => intro w' hSw; (try dsimp only at hSw); go_simp; try with_reducible rfl
      simp only [Act.put]
      refine wpAnyF_take [10] (by kernel_rfl) (i := 2) (v := ?vy3) rfl (by kernel_rfl) (by kernel_rfl) (by kernel_rfl) (fun _ _ _ h => h) (Or.inl ⟨by kernel_rfl, ?hyy3⟩) hHeld ?resty3
      case hyy3 => intro w' hSw; (try dsimp only at hSw); go_simp; try with_reducible rfl
      simp only [Act.put]
      refine wpAnyF_take [10] (by kernel_rfl) (i := 5) (v := ?vy4) rfl (by kernel_rfl) (by kernel_rfl) (by kernel_rfl) (fun _ _ _ h => h) (Or.inl ⟨by kernel_rfl, ?hyy4⟩) hHeld ?resty4
      case hyy4 => intro w' hSw; (try dsimp only at hSw); go_simp; try with_reducible rfl
      simp only [Act.put]
      refine wpAnyF_take [10] (by kernel_rfl) (i := 6) (v := ?vy5) rfl (by kernel_rfl) (by kernel_rfl) (by kernel_rfl) (fun _ _ _ h => h) (Or.inl ⟨by kernel_rfl, ?hyy5⟩) hHeld ?resty5
      case hyy5 => intro w' hSw; (try dsimp only at hSw); go_simp; try with_reducible rfl
      simp only [Act.put]
      refine wpAnyF_take [10] (by kernel_rfl) (i := 7) (v := ?vy6) rfl (by kernel_rfl) (by kernel_rfl) (by kernel_rfl) (fun _ _ _ h => h) (Or.inl ⟨by kernel_rfl, ?hyy6⟩) hHeld ?resty6
      case hyy6 => intro w' hSw; (try dsimp only at hSw); go_simp; try with_reducible rfl
      simp only [Act.put]
      refine wpAnyF_ready (rs := [3]) (by kernel_rfl) (by simp) ?_
      refine AllReadyF.cons rfl (fun K hK => ?_) AllReadyF.nil
      go_simp
      refine hK.out _ _ (⟨(HO0.out.later (below1 _ _)).cell 0, (HA0.out.later (below1 _ _)).cell 0⟩) (fun hHeld => ?_)
      clear hK K
      refine wpAnyF_ready (rs := [4]) (by kernel_rfl) (by simp) ?_
      refine AllReadyF.cons rfl (fun K hK => ?_) AllReadyF.nil
      refine step_append_run rfl (.tmp 40) (.tmp 42) 22 22 rfl rfl rfl HR8.out ?_
      refine hK.out _ _ (⟨o8.cell 0, a8.cell 0⟩) (fun hHeld => ?_)
      clear hK K
      refine wpAnyF_take [10] (by kernel_rfl) (i := 8) (v := ?vy7) rfl (by kernel_rfl) (by kernel_rfl) (by kernel_rfl) (fun _ _ _ h => h) (Or.inl ⟨by kernel_rfl, ?hyy7⟩) hHeld ?resty7
      case hyy7 => intro w' hSw; (try dsimp only at hSw); go_simp; try with_reducible rfl
      simp only [Act.put]
      refine wpAnyF_take [10] (by kernel_rfl) (i := 9) (v := ?vy8) rfl (by kernel_rfl) (by kernel_rfl) (by kernel_rfl) (fun _ _ _ h => h) (Or.inl ⟨by kernel_rfl, ?hyy8⟩) hHeld ?resty8
      case hyy8 => intro w' hSw; (try dsimp only at hSw); go_simp; try with_reducible rfl
      simp only [Act.put]
      refine wpAnyF_ready (rs := [10]) (by kernel_rfl) (by simp) ?_
      refine AllReadyF.last rfl (fun K hK => ?_)
      go_simp
      refine hK.out _ _ ?_
      clear hK K
      refine wpAnyF_done (by kernel_rfl) ?_ _
      have hza : w.heap.size ≤ wz.heap.size := HBz.out.size
      have hrz := hRr.out.later HBz.out
      obtain ⟨Av, Aw, Ag, Ac, Aw2, A1, A2, Am, Ab1, Ab2, Acc⟩ := rtO wz.drew aR cR R (hrz.later ((Below.refl _ _).drew)) hnil hm
      obtain ⟨Bv, Bw, Bg, Bc, Bw2, B1, B2, Bm, Bb1, Bb2, Bcc⟩ := rtO2 wz.drew aR cR R (hrz.later ((Below.refl _ _).drew)) hnil hm
      have Am : Hid (ROwn Aw2 w.heap.size _ _) := hide_ (own_base Am hza)
      have Bm : Hid (ROwn Bw2 w.heap.size _ _) := hide_ (own_base Bm hza)
      have Ab1 := hide_ (below_to ((Below.refl wz.heap.size wz).drew) Ab1)
      have Ab2 := hide_ (below_to ((Below.refl wz.heap.size wz).drew) Ab2)
      have Bb1 := hide_ (below_to ((Below.refl wz.heap.size wz).drew) Bb1)
      have Bb2 := hide_ (below_to ((Below.refl wz.heap.size wz).drew) Bb2)
      have A1 := hide_ A1
      have A2 := hide_ A2
      have B1 := hide_ B1
      have B2 := hide_ B2
      have hAc : (R.length : Int) ≤ Ac := by omega
      have hBc : (R.length : Int) ≤ Bc := by omega
      have HSS : Hid (∀ w', Below wz.heap.size wz w' → Below wz.heap.size wz w' ∧ w'.cell? ⟨w.heap.size, 1, none⟩ = some (.slice aR R.length cR)) := hide_ (fun w' hB' => ⟨hB', (KAr.out.later hB').cell 1⟩)
      clear hrz Acc Bcc HA0 HO0 HS HMk HQ HR8 a8 o8
      go_upto_region 9 with fail
      rw [← hwz]
      clear hwz l0 lf i0
      go_cut [] from 49 to 59 (fun wc => ∃ (gR cR' : Nat) (wy : World), wy = wc ∧ Hid (LtS wy w.heap.size g8 c8 Q gR cR' R mqP mqT mqR) ∧ Hid (Blk wy (w.heap.size + 2) 25 [.slice (some ⟨g8, 0, none⟩) T.length c8, .slice (some ⟨gR, 0, none⟩) R.length cR']) ∧ Hid (Blk wy (w.heap.size + 1) 33 [.slice none 0 0, .slice none 0 0, .slice none 0 0, .slice none 0 0]) ∧ Hid (Below w.heap.size w wy))
      case first =>
        refine wp_region_last 11 (fun w' => Below wz.heap.size wz w' ∧ w'.cell? ⟨w.heap.size, 1, none⟩ = some (.slice aR R.length cR)) (by kernel_rfl) (HSS.out _ ((Below.refl _ _).drew)) (fun hHeld => ?_)
        refine wpAnyF_take [11] (by kernel_rfl) (i := 0) (v := ?vr1) rfl (by kernel_rfl) (by kernel_rfl) (by kernel_rfl) (fun _ _ _ h => h) (Or.inl ⟨by kernel_rfl, ?hyr1⟩) hHeld ?restr1
        case hyr1 => intro w' hSw; (try dsimp only at hSw); go_simp; try with_reducible rfl
        simp only [Act.put]
        refine wpAnyF_take [11] (by kernel_rfl) (i := 1) (v := ?vr2) rfl (by kernel_rfl) (by kernel_rfl) (by kernel_rfl) (fun _ _ _ h => h) (Or.inl ⟨by kernel_rfl, ?hyr2⟩) hHeld ?restr2
        case hyr2 => intro w' hSw; (try dsimp only at hSw); go_simp; try with_reducible rfl
        simp only [Act.put]
        refine wpAnyF_take [11] (by kernel_rfl) (i := 3) (v := ?vr3) rfl (by kernel_rfl) (by kernel_rfl) (by kernel_rfl) (fun _ _ _ h => h) (Or.inl ⟨by kernel_rfl, ?hyr3⟩) hHeld ?restr3
        case hyr3 => intro w' hSw; (try dsimp only at hSw); go_simp; try with_reducible rfl
        simp only [Act.put]
        refine wpAnyF_take [11] (by kernel_rfl) (i := 6) (v := ?vr4) rfl (by kernel_rfl) (by kernel_rfl) (by kernel_rfl) (fun _ _ _ h => h) (Or.inl ⟨by kernel_rfl, ?hyr4⟩) hHeld ?restr4
        case hyr4 => intro w' hSw; (try dsimp only at hSw); go_simp; try with_reducible rfl
        simp only [Act.put]
        refine wpAnyF_take [11] (by kernel_rfl) (i := 7) (v := ?vr5) rfl (by kernel_rfl) (by kernel_rfl) (by kernel_rfl) (fun _ _ _ h => h) (Or.inl ⟨by kernel_rfl, ?hyr5⟩) hHeld ?restr5
        case hyr5 => intro w' hSw; (try dsimp only at hSw); go_simp; try with_reducible rfl
        simp only [Act.put]
        refine wpAnyF_take [11] (by kernel_rfl) (i := 8) (v := ?vr6) rfl (by kernel_rfl) (by kernel_rfl) (by kernel_rfl) (fun _ _ _ h => h) (Or.inl ⟨by kernel_rfl, ?hyr6⟩) hHeld ?restr6
        case hyr6 => intro w' hSw; (try dsimp only at hSw); go_simp; try with_reducible rfl
        simp only [Act.put]
        refine wpAnyF_ready (rs := [2, 4]) (by kernel_rfl) (by simp) ?_
        refine AllReadyF.cons rfl (fun K hK => ?_) ?_
        · refine step_append_run rfl (.const (.slice none 0 0)) (.tmp 50) 23 23 rfl rfl rfl A1.out ?_
          refine hK.out _ _ (HSS.out _ Ab1.out) (fun hHeld => ?_)
          clear hK K
          refine wpAnyF_ready (rs := [4]) (by kernel_rfl) (by simp) ?_
          refine AllReadyF.cons rfl (fun K hK => ?_) AllReadyF.nil
          go_simp
          refine hK.out _ _ (HSS.out _ (below_to Ab1.out (below1 _ _))) (fun hHeld => ?_)
          clear hK K
          refine wpAnyF_ready (rs := [5]) (by kernel_rfl) (by simp) ?_
          refine AllReadyF.cons rfl (fun K hK => ?_) AllReadyF.nil
          refine step_append_run rfl (.tmp 51) (.tmp 53) 23 23 rfl rfl rfl A2.out ?_
          refine hK.out _ _ (HSS.out _ Ab2.out) (fun hHeld => ?_)
          clear hK K
          refine wpAnyF_take [11] (by kernel_rfl) (i := 9) (v := ?vr7) rfl (by kernel_rfl) (by kernel_rfl) (by kernel_rfl) (fun _ _ _ h => h) (Or.inl ⟨by kernel_rfl, ?hyr7⟩) hHeld ?restr7
          case hyr7 => intro w' hSw; (try dsimp only at hSw); go_simp; try with_reducible rfl
          simp only [Act.put]
          refine wpAnyF_take [11] (by kernel_rfl) (i := 10) (v := ?vr8) rfl (by kernel_rfl) (by kernel_rfl) (by kernel_rfl) (fun _ _ _ h => h) (Or.inl ⟨by kernel_rfl, ?hyr8⟩) hHeld ?restr8
          case hyr8 => intro w' hSw; (try dsimp only at hSw); go_simp; try with_reducible rfl
          simp only [Act.put]
          refine wpAnyF_ready (rs := [11]) (by kernel_rfl) (by simp) ?_
          refine AllReadyF.last rfl (fun K hK => ?_)
          have kz := KO.out.later Ab2.out
          have l1 := kz.cell 1
          have lf := kz.frozen 1
          simp at l1
          have hrs := Am.out
          have hlt : LtS _ w.heap.size g8 c8 Q Ag Ac R mqP mqT mqR := ⟨HTz.out.later Ab2.out, fun p hp => (HMz.out p hp).later Ab2.out, hrs⟩
          have HLz := hide_ (hlt.other kz (by omega) (by decide) (by decide) (by decide) 1 (.slice (some ⟨Ag, 0, none⟩) R.length Ac))
          have HKz : Hid (Blk _ (w.heap.size + 2) 25 [.slice (some ⟨g8, 0, none⟩) T.length c8, .slice (some ⟨Ag, 0, none⟩) R.length Ac]) := hide_ (by have h := kz.set 1 (.slice (some ⟨Ag, 0, none⟩) R.length Ac); simpa using h)
          have HKr := hide_ ((KRs.out.later Ab2.out).other ⟨w.heap.size + 2, 1, none⟩ (.slice (some ⟨Ag, 0, none⟩) R.length Ac) (by show w.heap.size + 1 ≠ w.heap.size + 2; omega))
          have HBf := hide_ (below_set (below_to HBz.out Ab2.out) (w.heap.size + 2) 1 (.slice (some ⟨Ag, 0, none⟩) R.length Ac) (by omega))
          clear kz hrs hlt
          go_simp
          refine hK.out _ _ ?_
          clear hK K
          refine wpAnyF_done (by kernel_rfl) ?_ _
          go_wp2_with fail
          go_meet
          case rel => exact ⟨Ag, Ac, _, rfl, HLz, HKz, HKr, HBf⟩
        refine AllReadyF.cons rfl (fun K hK => ?_) AllReadyF.nil
        go_simp
        refine hK.out _ _ (HSS.out _ (below_to ((Below.refl _ _).drew) (below1 _ _))) (fun hHeld => ?_)
        clear hK K
        refine wpAnyF_ready (rs := [2]) (by kernel_rfl) (by simp) ?_
        refine AllReadyF.cons rfl (fun K hK => ?_) AllReadyF.nil
        refine step_append_run rfl (.const (.slice none 0 0)) (.tmp 50) 23 23 rfl rfl rfl B1.out ?_
        refine hK.out _ _ (HSS.out _ Bb1.out) (fun hHeld => ?_)
        clear hK K
        refine wpAnyF_ready (rs := [5]) (by kernel_rfl) (by simp) ?_
        refine AllReadyF.cons rfl (fun K hK => ?_) AllReadyF.nil
        refine step_append_run rfl (.tmp 51) (.tmp 53) 23 23 rfl rfl rfl B2.out ?_
        refine hK.out _ _ (HSS.out _ Bb2.out) (fun hHeld => ?_)
        clear hK K
        refine wpAnyF_take [11] (by kernel_rfl) (i := 9) (v := ?vr9) rfl (by kernel_rfl) (by kernel_rfl) (by kernel_rfl) (fun _ _ _ h => h) (Or.inl ⟨by kernel_rfl, ?hyr9⟩) hHeld ?restr9
        case hyr9 => intro w' hSw; (try dsimp only at hSw); go_simp; try with_reducible rfl
        simp only [Act.put]
        refine wpAnyF_take [11] (by kernel_rfl) (i := 10) (v := ?vr10) rfl (by kernel_rfl) (by kernel_rfl) (by kernel_rfl) (fun _ _ _ h => h) (Or.inl ⟨by kernel_rfl, ?hyr10⟩) hHeld ?restr10
        case hyr10 => intro w' hSw; (try dsimp only at hSw); go_simp; try with_reducible rfl
        simp only [Act.put]
        refine wpAnyF_ready (rs := [11]) (by kernel_rfl) (by simp) ?_
        refine AllReadyF.last rfl (fun K hK => ?_)
        have kz := KO.out.later Bb2.out
        have l1 := kz.cell 1
        have lf := kz.frozen 1
        simp at l1
        have hrs := Bm.out
        have hlt : LtS _ w.heap.size g8 c8 Q Bg Bc R mqP mqT mqR := ⟨HTz.out.later Bb2.out, fun p hp => (HMz.out p hp).later Bb2.out, hrs⟩
        have HLz := hide_ (hlt.other kz (by omega) (by decide) (by decide) (by decide) 1 (.slice (some ⟨Bg, 0, none⟩) R.length Bc))
        have HKz : Hid (Blk _ (w.heap.size + 2) 25 [.slice (some ⟨g8, 0, none⟩) T.length c8, .slice (some ⟨Bg, 0, none⟩) R.length Bc]) := hide_ (by have h := kz.set 1 (.slice (some ⟨Bg, 0, none⟩) R.length Bc); simpa using h)
        have HKr := hide_ ((KRs.out.later Bb2.out).other ⟨w.heap.size + 2, 1, none⟩ (.slice (some ⟨Bg, 0, none⟩) R.length Bc) (by show w.heap.size + 1 ≠ w.heap.size + 2; omega))
        have HBf := hide_ (below_set (below_to HBz.out Bb2.out) (w.heap.size + 2) 1 (.slice (some ⟨Bg, 0, none⟩) R.length Bc) (by omega))
        clear kz hrs hlt
        go_simp
        refine hK.out _ _ ?_
        clear hK K
        refine wpAnyF_done (by kernel_rfl) ?_ _
        go_wp2_with fail
        go_meet
        case rel => exact ⟨Bg, Bc, _, rfl, HLz, HKz, HKr, HBf⟩
      case rest =>
        obtain ⟨gR, cR', wy, rfl, HLy, KOy, KRy, HBy⟩ := hcut
        clear A1 A2 B1 B2 Am Bm Ab1 Ab2 Bb1 Bb2 hAc hBc HSS
        have b2 := KOy.out.cell 0; have b3 := KOy.out.cell 1
        simp at b2 b3
        have HSS : Hid (∀ w', Below wy.heap.size wy w' → Below wy.heap.size wy w' ∧ w'.cell? ⟨w.heap.size + 2, 0, none⟩ = some (.slice (some ⟨g8, 0, none⟩) T.length c8) ∧ w'.cell? ⟨w.heap.size + 2, 1, none⟩ = some (.slice (some ⟨gR, 0, none⟩) R.length cR')) := hide_ (fun w' hB' => ⟨hB', (KOy.out.later hB').cell 0, (KOy.out.later hB').cell 1⟩)
        have hVy := hVr.out.later HBy.out
        have hPy := hPr.out.later HBy.out
        have HVy := hide_ hVy
        have HPy := hide_ hPy
        clear b2 b3 hVy hPy
        go_upto_region 10 with fail
        refine wp_region_last 17 (fun w' => Below wy.heap.size wy w' ∧ w'.cell? ⟨w.heap.size + 2, 0, none⟩ = some (.slice (some ⟨g8, 0, none⟩) T.length c8) ∧ w'.cell? ⟨w.heap.size + 2, 1, none⟩ = some (.slice (some ⟨gR, 0, none⟩) R.length cR')) (by kernel_rfl) (HSS.out _ ((Below.refl _ _).drew)) (fun hHeld => ?_)
        have HBc0 : Hid (Below wy.heap.size wy wy.drew) := hide_ ((Below.refl _ _).drew)
        generalize wy.drew = wc0 at *
        refine wpAnyF_take [17] (by kernel_rfl) (i := 0) (v := ?vt1) rfl (by kernel_rfl) (by kernel_rfl) (by kernel_rfl) (fun _ _ _ h => h) (Or.inl ⟨by kernel_rfl, ?hyt1⟩) hHeld ?restt1
        case hyt1 => intro w' hSw; (try dsimp only at hSw); go_simp; try with_reducible rfl
        simp only [Act.put]
        refine wpAnyF_take [17] (by kernel_rfl) (i := 1) (v := ?vt2) rfl (by kernel_rfl) (by kernel_rfl) (by kernel_rfl) (fun _ _ _ h => h) (Or.inl ⟨by kernel_rfl, ?hyt2⟩) hHeld ?restt2
        case hyt2 => intro w' hSw; (try dsimp only at hSw); go_simp; try with_reducible rfl
        simp only [Act.put]
        refine wpAnyF_take [17] (by kernel_rfl) (i := 3) (v := ?vt3) rfl (by kernel_rfl) (by kernel_rfl) (by kernel_rfl) (fun _ _ _ h => h) (Or.inl ⟨by kernel_rfl, ?hyt3⟩) hHeld ?restt3
        case hyt3 => intro w' hSw; (try dsimp only at hSw); go_simp; try with_reducible rfl
        simp only [Act.put]
        refine wpAnyF_take [17] (by kernel_rfl) (i := 6) (v := ?vt4) rfl (by kernel_rfl) (by kernel_rfl) (by kernel_rfl) (fun _ _ _ h => h) (Or.inl ⟨by kernel_rfl, ?hyt4⟩) hHeld ?restt4
        case hyt4 => intro w' hSw; (try dsimp only at hSw); go_simp; try with_reducible rfl
        simp only [Act.put]
        refine wpAnyF_take [17] (by kernel_rfl) (i := 7) (v := ?vt5) rfl (by kernel_rfl) (by kernel_rfl) (by kernel_rfl) (fun _ _ _ h => h) (Or.inl ⟨by kernel_rfl, ?hyt5⟩) hHeld ?restt5
        case hyt5 => intro w' hSw; (try dsimp only at hSw); go_simp; try with_reducible rfl
        simp only [Act.put]
        refine wpAnyF_take [17] (by kernel_rfl) (i := 9) (v := ?vt6) rfl (by kernel_rfl) (by kernel_rfl) (by kernel_rfl) (fun _ _ _ h => h) (Or.inl ⟨by kernel_rfl, ?hyt6⟩) hHeld ?restt6
        case hyt6 => intro w' hSw; (try dsimp only at hSw); go_simp; try with_reducible rfl
        simp only [Act.put]
        refine wpAnyF_take [17] (by kernel_rfl) (i := 13) (v := ?vt7) rfl (by kernel_rfl) (by kernel_rfl) (by kernel_rfl) (fun _ _ _ h => h) (Or.inl ⟨by kernel_rfl, ?hyt7⟩) hHeld ?restt7
        case hyt7 => intro w' hSw; (try dsimp only at hSw); go_simp; try with_reducible rfl
        simp only [Act.put]
        refine wpAnyF_take [17] (by kernel_rfl) (i := 14) (v := ?vt8) rfl (by kernel_rfl) (by kernel_rfl) (by kernel_rfl) (fun _ _ _ h => h) (Or.inl ⟨by kernel_rfl, ?hyt8⟩) hHeld ?restt8
        case hyt8 => intro w' hSw; (try dsimp only at hSw); go_simp; try with_reducible rfl
        simp only [Act.put]
        refine wpAnyF_ready (rs := [2, 4, 11]) (by kernel_rfl) (by simp) ?_
        refine AllReadyF.cons rfl (fun K hK => ?_) ?_
        · obtain ⟨vn, wc1, hrn, hon, hbn⟩ := run_copyG (P := Tryd.prog) nvc_len nvc_one Tryd.underlying31 infoN rfl (by decide) wc0 aV V.length cV V rfl (HVy.out.later HBc0.out) hvn (by unfold maxLen; omega) (by omega)
          have HRn := hide_ hrn
          have HVn : Hid (NOwn wc1 wy.heap.size vn V) := hide_ (own_base hon HBc0.out.size)
          have HBc1 := hide_ (below_to HBc0.out hbn)
          refine step_append_run rfl (.const (.slice none 0 0)) (.tmp 61) 31 31 rfl (v := .slice none 0 0) (u := .slice aV V.length cV) (by kernel_rfl) (by kernel_rfl) HRn.out ?_
          clear hrn hon hbn HRn
          refine hK.out _ _ (HSS.out _ HBc1.out) (fun hHeld => ?_)
          clear hK K
          refine wpAnyF_ready (rs := [4, 11]) (by kernel_rfl) (by simp) ?_
          refine AllReadyF.cons rfl (fun K hK => ?_) ?_
          · go_simp
            have kM := Blk.newA wc1 #[.int .i64 23130, .int .u64 0, .int .i64 0] 49
            have hbm := below1 wc1 (.cells #[.int .i64 23130, .int .u64 0, .int .i64 0] 49)
            obtain ⟨wc2, hwd⟩ : ∃ wx, wx = wc1.alloc (.cells #[.int .i64 23130, .int .u64 0, .int .i64 0] 49) := ⟨_, rfl⟩
            rw [← hwd] at kM hbm ⊢
            obtain ⟨gM, hgM⟩ : ∃ g, wc1.heap.size = g := ⟨_, rfl⟩
            rw [hgM] at kM ⊢
            have KM := hide_ kM
            have HBc2 := hide_ (below_to HBc1.out hbm)
            have HVn := hide_ (HVn.out.later hbm)
            clear hwd kM hbm hgM HBc1
            refine hK.out _ _ (HSS.out _ HBc2.out) (fun hHeld => ?_)
            clear hK K
            refine wpAnyF_ready (rs := [5, 11]) (by kernel_rfl) (by simp) ?_
            refine AllReadyF.cons rfl (fun K hK => ?_) ?_
            · obtain ⟨gV, cV2, wc3, hr5, ho5, hu5, -, hcv5, -⟩ := run_app1 (P := Tryd.prog) nvc_len nvc_one Tryd.underlying31 infoN rfl (by decide) wc2 HVn.out gM mqN KM.out (by unfold maxLen; omega) (by omega) HBc2.out.size
              have HR5 := hide_ hr5
              have HV5 : Hid (NOwn wc3 wy.heap.size (.slice (some ⟨gV, 0, none⟩) (V.length + 1) cV2) (V ++ [mqN])) := hide_ ho5
              have HBc3 := hide_ (HBc2.out.trans (hu5.below _ HBc2.out.size (fun k hk => (HVn.out.lt k hk).1)))
              have hcv5' : (V.length : Int) ≤ cV2 := by omega
              refine step_append_run rfl (.tmp 62) (.tmp 64) 31 31 rfl (v := vn) (u := .slice (some ⟨gM, 0, none⟩) 1 1) (by kernel_rfl) (by kernel_rfl) HR5.out ?_
              clear hr5 ho5 hu5 hcv5 HR5 HBc2 HVn KM
              refine hK.out _ _ (HSS.out _ HBc3.out) (fun hHeld => ?_)
              clear hK K
              refine wpAnyF_take [17] (by kernel_rfl) (i := 8) (v := ?vt9) rfl (by kernel_rfl) (by kernel_rfl) (by kernel_rfl) (fun _ _ _ h => h) (Or.inl ⟨by kernel_rfl, ?hyt9⟩) hHeld ?restt9
              case hyt9 => intro w' hSw; (try dsimp only at hSw); go_simp; try with_reducible rfl
              simp only [Act.put]
              refine wpAnyF_ready (rs := [10, 11]) (by kernel_rfl) (by simp) ?_
              refine AllReadyF.cons rfl (fun K hK => ?_) ?_
              · obtain ⟨vi, wc4, hri, hoi, hgi⟩ := run_copy elI wc3 26 wc3.heap.size aP P.length cP P rfl (HPy.out.later HBc3.out) hpn (by unfold maxLen; omega) (by omega) (Nat.le_refl _)
                have hbi : Below wc3.heap.size wc3 wc4 := ((Upd.refl (fun _ => False) wc3).grown hgi (fun k hk => by cases hk)).below _ (Nat.le_refl _) (fun k hk => hk.elim)
                have HRi := hide_ hri
                have HIi : Hid (IOwn wc4 wy.heap.size vi P) := hide_ (own_base hoi HBc3.out.size)
                have HBc4 := hide_ (below_to HBc3.out hbi)
                have HV5 := hide_ (HV5.out.later hbi)
                refine step_append_run rfl (.const (.slice none 0 0)) (.tmp 69) 26 26 rfl (v := .slice none 0 0) (u := .slice aP P.length cP) (by kernel_rfl) (by kernel_rfl) HRi.out ?_
                clear hri hoi hgi hbi HRi HBc3
                refine hK.out _ _ (HSS.out _ HBc4.out) (fun hHeld => ?_)
                clear hK K
                refine wpAnyF_ready (rs := [11]) (by kernel_rfl) (by simp) ?_
                refine AllReadyF.cons rfl (fun K hK => ?_) AllReadyF.nil
                go_simp
                have kI := Blk.newA wc4 #[.int .i64 23130] 3
                have hbm := below1 wc4 (.cells #[.int .i64 23130] 3)
                obtain ⟨wc5, hwd⟩ : ∃ wx, wx = wc4.alloc (.cells #[.int .i64 23130] 3) := ⟨_, rfl⟩
                rw [← hwd] at kI hbm ⊢
                obtain ⟨gI, hgI⟩ : ∃ g, wc4.heap.size = g := ⟨_, rfl⟩
                rw [hgI] at kI ⊢
                have KI := hide_ kI
                have HBc5 := hide_ (below_to HBc4.out hbm)
                have HV5 := hide_ (HV5.out.later hbm)
                have HIi := hide_ (HIi.out.later hbm)
                clear hwd kI hbm hgI HBc4
                refine hK.out _ _ (HSS.out _ HBc5.out) (fun hHeld => ?_)
                clear hK K
                refine wpAnyF_ready (rs := [12]) (by kernel_rfl) (by simp) ?_
                refine AllReadyF.cons rfl (fun K hK => ?_) AllReadyF.nil
                obtain ⟨vp, wc6, hrp, hop, hgp⟩ := run_app elI wc5 26 wy.heap.size vi P.length P HIi.out (some ⟨gI, 0, none⟩) 1 1 [23130] rfl (KI.out.row (l := [23130])) (fun h => by cases h) (by unfold maxLen; omega) (by omega) HBc5.out.size
                have hup : Upd (fun k => vi.ownBlock = some k) wc5 wc6 := (Upd.refl _ wc5).grown hgp (fun k hk => .inl hk)
                have HRp := hide_ hrp
                have hop2 : IOwn wc6 wy.heap.size vp (P ++ [23130]) := by unfold IOwn; rw [List.length_append, List.length_singleton]; exact hop
                obtain ⟨gP, cP2, ysP, evp, -, hcp, -, -, -, -⟩ := ownS_blk hop2 (by simp)
                rw [List.length_append, List.length_singleton] at evp hcp
                subst evp
                have HI12 := hide_ hop2
                have HBc6 := hide_ (HBc5.out.trans (hup.below _ HBc5.out.size (fun k hk => (HIi.out.lies hk).1)))
                have HV5 := hide_ (HV5.out.upd hup (fun k hk e => by
                  obtain ⟨zs, hz⟩ := ownS_type HIi.out e
                  exact HV5.out.ne hz (by decide) hk))
                have hcp' : (P.length : Int) ≤ cP2 := by omega
                refine step_append_run rfl (.tmp 70) (.tmp 71) 26 26 rfl (v := vi) (u := .slice (some ⟨gI, 0, none⟩) 1 1) (by kernel_rfl) (by kernel_rfl) HRp.out ?_
                clear hrp hop hgp hup HRp hop2 hcp HBc5 HIi KI ysP
                refine hK.out _ _ (HSS.out _ HBc6.out) (fun hHeld => ?_)
                clear hK K
                refine wpAnyF_take [17] (by kernel_rfl) (i := 15) (v := ?vt10) rfl (by kernel_rfl) (by kernel_rfl) (by kernel_rfl) (fun _ _ _ h => h) (Or.inl ⟨by kernel_rfl, ?hyt10⟩) hHeld ?restt10
                case hyt10 => intro w' hSw; (try dsimp only at hSw); go_simp; try with_reducible rfl
                simp only [Act.put]
                refine wpAnyF_take [17] (by kernel_rfl) (i := 16) (v := ?vt11) rfl (by kernel_rfl) (by kernel_rfl) (by kernel_rfl) (fun _ _ _ h => h) (Or.inl ⟨by kernel_rfl, ?hyt11⟩) hHeld ?restt11
                case hyt11 => intro w' hSw; (try dsimp only at hSw); go_simp; try with_reducible rfl
                simp only [Act.put]
                refine wpAnyF_ready (rs := [17]) (by kernel_rfl) (by simp) ?_
                refine AllReadyF.last rfl (fun K hK => ?_)
                have k9 := KRy.out.later HBc6.out
                have z0 := k9.cell 0; have z1 := k9.cell 1; have z2 := k9.cell 2; have z3 := k9.cell 3
                have zf := fun i => k9.frozen i
                simp at z0 z1 z2 z3
                have HK := hide_ (wr4 k9 (.slice (some ⟨g8, 0, none⟩) T.length c8) (.slice (some ⟨gR, 0, none⟩) R.length cR') (.slice (some ⟨gV, 0, none⟩) V.length cV2) (.slice (some ⟨gP, 0, none⟩) P.length cP2))
                have hu9 : Upd (fun k => k = w.heap.size + 1) wc6 ((((wc6.setCell ⟨w.heap.size + 1, 0, none⟩ (.slice (some ⟨g8, 0, none⟩) T.length c8)).setCell ⟨w.heap.size + 1, 1, none⟩ (.slice (some ⟨gR, 0, none⟩) R.length cR')).setCell ⟨w.heap.size + 1, 2, none⟩ (.slice (some ⟨gV, 0, none⟩) V.length cV2)).setCell ⟨w.heap.size + 1, 3, none⟩ (.slice (some ⟨gP, 0, none⟩) P.length cP2)) := (((((Upd.refl (fun k => k = w.heap.size + 1) wc6).set _ _ (.inl rfl)).set _ _ (.inl rfl)).set _ _ (.inl rfl)).set _ _ (.inl rfl))
                have hzy : w.heap.size ≤ wy.heap.size := HBy.out.size
                have HBf := hide_ ((below_to HBy.out HBc6.out).trans (hu9.below w.heap.size (below_to HBy.out HBc6.out).size (fun k hk => by omega)))
                have HL9 := hide_ ((HLy.out.later HBc6.out).updN hu9 k9 (by omega) (by decide) (by decide) (by decide))
                have HV9 : Hid (NOwn _ w.heap.size (.slice (some ⟨gV, 0, none⟩) (V.length + 1) cV2) (V ++ [mqN])) := hide_ (own_base (HV5.out.upd hu9 (fun k hk e => by subst e; exact HV5.out.ne k9 (by decide) hk)) hzy)
                have HI9 : Hid (IOwn _ w.heap.size (.slice (some ⟨gP, 0, none⟩) (P.length + 1) cP2) (P ++ [23130])) := hide_ (own_base (HI12.out.upd hu9 (fun k hk e => by
                  subst e
                  obtain ⟨zs, hz⟩ := ownS_type HI12.out hk
                  exact absurd (blk_type k9 hz) (by decide))) hzy)
                clear k9 hu9
                go_simp
                refine hK.out _ _ ?_
                clear hK K
                refine wpAnyF_done (by kernel_rfl) ?_ _
                clear HSS hHeld
                go_wp2
                exact retLn rfl rfl HK.out ⟨g8, c8, Q, gR, cR', gV, cV2, gP, cP2, rfl, HL9, HQe, HV9, HI9, HBf⟩
              refine AllReadyF.cons rfl (fun K hK => ?_) AllReadyF.nil
              go_simp
              have kI := Blk.newA wc3 #[.int .i64 23130] 3
              have hbm := below1 wc3 (.cells #[.int .i64 23130] 3)
              obtain ⟨wc4, hwd⟩ : ∃ wx, wx = wc3.alloc (.cells #[.int .i64 23130] 3) := ⟨_, rfl⟩
              rw [← hwd] at kI hbm ⊢
              obtain ⟨gI, hgI⟩ : ∃ g, wc3.heap.size = g := ⟨_, rfl⟩
              rw [hgI] at kI ⊢
              have KI := hide_ kI
              have HBc4 := hide_ (below_to HBc3.out hbm)
              have HV5 := hide_ (HV5.out.later hbm)
              clear hwd kI hbm hgI HBc3
              refine hK.out _ _ (HSS.out _ HBc4.out) (fun hHeld => ?_)
              clear hK K
              refine wpAnyF_ready (rs := [10]) (by kernel_rfl) (by simp) ?_
              refine AllReadyF.cons rfl (fun K hK => ?_) AllReadyF.nil
              obtain ⟨vi, wc5, hri, hoi, hgi⟩ := run_copy elI wc4 26 wc4.heap.size aP P.length cP P rfl (HPy.out.later HBc4.out) hpn (by unfold maxLen; omega) (by omega) (Nat.le_refl _)
              have hbi : Below wc4.heap.size wc4 wc5 := ((Upd.refl (fun _ => False) wc4).grown hgi (fun k hk => by cases hk)).below _ (Nat.le_refl _) (fun k hk => hk.elim)
              have HRi := hide_ hri
              have HIi : Hid (IOwn wc5 wy.heap.size vi P) := hide_ (own_base hoi HBc4.out.size)
              have HBc5 := hide_ (below_to HBc4.out hbi)
              have HV5 := hide_ (HV5.out.later hbi)
              have KI := hide_ (KI.out.later hbi)
              refine step_append_run rfl (.const (.slice none 0 0)) (.tmp 69) 26 26 rfl (v := .slice none 0 0) (u := .slice aP P.length cP) (by kernel_rfl) (by kernel_rfl) HRi.out ?_
              clear hri hoi hgi hbi HRi HBc4
              refine hK.out _ _ (HSS.out _ HBc5.out) (fun hHeld => ?_)
              clear hK K
              refine wpAnyF_ready (rs := [12]) (by kernel_rfl) (by simp) ?_
              refine AllReadyF.cons rfl (fun K hK => ?_) AllReadyF.nil
              obtain ⟨vp, wc6, hrp, hop, hgp⟩ := run_app elI wc5 26 wy.heap.size vi P.length P HIi.out (some ⟨gI, 0, none⟩) 1 1 [23130] rfl (KI.out.row (l := [23130])) (fun h => by cases h) (by unfold maxLen; omega) (by omega) HBc5.out.size
              have hup : Upd (fun k => vi.ownBlock = some k) wc5 wc6 := (Upd.refl _ wc5).grown hgp (fun k hk => .inl hk)
              have HRp := hide_ hrp
              have hop2 : IOwn wc6 wy.heap.size vp (P ++ [23130]) := by unfold IOwn; rw [List.length_append, List.length_singleton]; exact hop
              obtain ⟨gP, cP2, ysP, evp, -, hcp, -, -, -, -⟩ := ownS_blk hop2 (by simp)
              rw [List.length_append, List.length_singleton] at evp hcp
              subst evp
              have HI12 := hide_ hop2
              have HBc6 := hide_ (HBc5.out.trans (hup.below _ HBc5.out.size (fun k hk => (HIi.out.lies hk).1)))
              have HV5 := hide_ (HV5.out.upd hup (fun k hk e => by
                obtain ⟨zs, hz⟩ := ownS_type HIi.out e
                exact HV5.out.ne hz (by decide) hk))
              have hcp' : (P.length : Int) ≤ cP2 := by omega
              refine step_append_run rfl (.tmp 70) (.tmp 71) 26 26 rfl (v := vi) (u := .slice (some ⟨gI, 0, none⟩) 1 1) (by kernel_rfl) (by kernel_rfl) HRp.out ?_
              clear hrp hop hgp hup HRp hop2 hcp HBc5 HIi KI ysP
              refine hK.out _ _ (HSS.out _ HBc6.out) (fun hHeld => ?_)
              clear hK K
              refine wpAnyF_take [17] (by kernel_rfl) (i := 15) (v := ?vt12) rfl (by kernel_rfl) (by kernel_rfl) (by kernel_rfl) (fun _ _ _ h => h) (Or.inl ⟨by kernel_rfl, ?hyt12⟩) hHeld ?restt12
              case hyt12 => intro w' hSw; (try dsimp only at hSw); go_simp; try with_reducible rfl
              simp only [Act.put]
              refine wpAnyF_take [17] (by kernel_rfl) (i := 16) (v := ?vt13) rfl (by kernel_rfl) (by kernel_rfl) (by kernel_rfl) (fun _ _ _ h => h) (Or.inl ⟨by kernel_rfl, ?hyt13⟩) hHeld ?restt13
              case hyt13 => intro w' hSw; (try dsimp only at hSw); go_simp; try with_reducible rfl
              simp only [Act.put]
              refine wpAnyF_ready (rs := [17]) (by kernel_rfl) (by simp) ?_
              refine AllReadyF.last rfl (fun K hK => ?_)
              have k9 := KRy.out.later HBc6.out
              have z0 := k9.cell 0; have z1 := k9.cell 1; have z2 := k9.cell 2; have z3 := k9.cell 3
              have zf := fun i => k9.frozen i
              simp at z0 z1 z2 z3
              have HK := hide_ (wr4 k9 (.slice (some ⟨g8, 0, none⟩) T.length c8) (.slice (some ⟨gR, 0, none⟩) R.length cR') (.slice (some ⟨gV, 0, none⟩) V.length cV2) (.slice (some ⟨gP, 0, none⟩) P.length cP2))
              have hu9 : Upd (fun k => k = w.heap.size + 1) wc6 ((((wc6.setCell ⟨w.heap.size + 1, 0, none⟩ (.slice (some ⟨g8, 0, none⟩) T.length c8)).setCell ⟨w.heap.size + 1, 1, none⟩ (.slice (some ⟨gR, 0, none⟩) R.length cR')).setCell ⟨w.heap.size + 1, 2, none⟩ (.slice (some ⟨gV, 0, none⟩) V.length cV2)).setCell ⟨w.heap.size + 1, 3, none⟩ (.slice (some ⟨gP, 0, none⟩) P.length cP2)) := (((((Upd.refl (fun k => k = w.heap.size + 1) wc6).set _ _ (.inl rfl)).set _ _ (.inl rfl)).set _ _ (.inl rfl)).set _ _ (.inl rfl))
              have hzy : w.heap.size ≤ wy.heap.size := HBy.out.size
              have HBf := hide_ ((below_to HBy.out HBc6.out).trans (hu9.below w.heap.size (below_to HBy.out HBc6.out).size (fun k hk => by omega)))
              have HL9 := hide_ ((HLy.out.later HBc6.out).updN hu9 k9 (by omega) (by decide) (by decide) (by decide))
              have HV9 : Hid (NOwn _ w.heap.size (.slice (some ⟨gV, 0, none⟩) (V.length + 1) cV2) (V ++ [mqN])) := hide_ (own_base (HV5.out.upd hu9 (fun k hk e => by subst e; exact HV5.out.ne k9 (by decide) hk)) hzy)
              have HI9 : Hid (IOwn _ w.heap.size (.slice (some ⟨gP, 0, none⟩) (P.length + 1) cP2) (P ++ [23130])) := hide_ (own_base (HI12.out.upd hu9 (fun k hk e => by
                subst e
                obtain ⟨zs, hz⟩ := ownS_type HI12.out hk
                exact absurd (blk_type k9 hz) (by decide))) hzy)
              clear k9 hu9
              go_simp
              refine hK.out _ _ ?_
              clear hK K
              refine wpAnyF_done (by kernel_rfl) ?_ _
              clear HSS hHeld
              go_wp2
              exact retLn rfl rfl HK.out ⟨g8, c8, Q, gR, cR', gV, cV2, gP, cP2, rfl, HL9, HQe, HV9, HI9, HBf⟩
            refine AllReadyF.cons rfl (fun K hK => ?_) AllReadyF.nil
            go_simp
            have kI := Blk.newA wc2 #[.int .i64 23130] 3
            have hbm := below1 wc2 (.cells #[.int .i64 23130] 3)
            obtain ⟨wc3, hwd⟩ : ∃ wx, wx = wc2.alloc (.cells #[.int .i64 23130] 3) := ⟨_, rfl⟩
            rw [← hwd] at kI hbm ⊢
            obtain ⟨gI, hgI⟩ : ∃ g, wc2.heap.size = g := ⟨_, rfl⟩
            rw [hgI] at kI ⊢
            have KI := hide_ kI
            have HBc3 := hide_ (below_to HBc2.out hbm)
            have HVn := hide_ (HVn.out.later hbm)
            have KM := hide_ (KM.out.later hbm)
            clear hwd kI hbm hgI HBc2
            refine hK.out _ _ (HSS.out _ HBc3.out) (fun hHeld => ?_)
            clear hK K
            refine wpAnyF_ready (rs := [5]) (by kernel_rfl) (by simp) ?_
            refine AllReadyF.cons rfl (fun K hK => ?_) AllReadyF.nil
            obtain ⟨gV, cV2, wc4, hr5, ho5, hu5, -, hcv5, -⟩ := run_app1 (P := Tryd.prog) nvc_len nvc_one Tryd.underlying31 infoN rfl (by decide) wc3 HVn.out gM mqN KM.out (by unfold maxLen; omega) (by omega) HBc3.out.size
            have HR5 := hide_ hr5
            have HV5 : Hid (NOwn wc4 wy.heap.size (.slice (some ⟨gV, 0, none⟩) (V.length + 1) cV2) (V ++ [mqN])) := hide_ ho5
            have HBc4 := hide_ (HBc3.out.trans (hu5.below _ HBc3.out.size (fun k hk => (HVn.out.lt k hk).1)))
            have hcv5' : (V.length : Int) ≤ cV2 := by omega
            have KI := hide_ (KI.out.upd hu5 (HVn.out.ne KI.out (by decide)))
            refine step_append_run rfl (.tmp 62) (.tmp 64) 31 31 rfl (v := vn) (u := .slice (some ⟨gM, 0, none⟩) 1 1) (by kernel_rfl) (by kernel_rfl) HR5.out ?_
            clear hr5 ho5 hu5 hcv5 HR5 HBc3 HVn KM
            refine hK.out _ _ (HSS.out _ HBc4.out) (fun hHeld => ?_)
            clear hK K
            refine wpAnyF_take [17] (by kernel_rfl) (i := 8) (v := ?vt14) rfl (by kernel_rfl) (by kernel_rfl) (by kernel_rfl) (fun _ _ _ h => h) (Or.inl ⟨by kernel_rfl, ?hyt14⟩) hHeld ?restt14
            case hyt14 => intro w' hSw; (try dsimp only at hSw); go_simp; try with_reducible rfl
            simp only [Act.put]
            refine wpAnyF_ready (rs := [10]) (by kernel_rfl) (by simp) ?_
            refine AllReadyF.cons rfl (fun K hK => ?_) AllReadyF.nil
            obtain ⟨vi, wc5, hri, hoi, hgi⟩ := run_copy elI wc4 26 wc4.heap.size aP P.length cP P rfl (HPy.out.later HBc4.out) hpn (by unfold maxLen; omega) (by omega) (Nat.le_refl _)
            have hbi : Below wc4.heap.size wc4 wc5 := ((Upd.refl (fun _ => False) wc4).grown hgi (fun k hk => by cases hk)).below _ (Nat.le_refl _) (fun k hk => hk.elim)
            have HRi := hide_ hri
            have HIi : Hid (IOwn wc5 wy.heap.size vi P) := hide_ (own_base hoi HBc4.out.size)
            have HBc5 := hide_ (below_to HBc4.out hbi)
            have HV5 := hide_ (HV5.out.later hbi)
            have KI := hide_ (KI.out.later hbi)
            refine step_append_run rfl (.const (.slice none 0 0)) (.tmp 69) 26 26 rfl (v := .slice none 0 0) (u := .slice aP P.length cP) (by kernel_rfl) (by kernel_rfl) HRi.out ?_
            clear hri hoi hgi hbi HRi HBc4
            refine hK.out _ _ (HSS.out _ HBc5.out) (fun hHeld => ?_)
            clear hK K
            refine wpAnyF_ready (rs := [12]) (by kernel_rfl) (by simp) ?_
            refine AllReadyF.cons rfl (fun K hK => ?_) AllReadyF.nil
            obtain ⟨vp, wc6, hrp, hop, hgp⟩ := run_app elI wc5 26 wy.heap.size vi P.length P HIi.out (some ⟨gI, 0, none⟩) 1 1 [23130] rfl (KI.out.row (l := [23130])) (fun h => by cases h) (by unfold maxLen; omega) (by omega) HBc5.out.size
            have hup : Upd (fun k => vi.ownBlock = some k) wc5 wc6 := (Upd.refl _ wc5).grown hgp (fun k hk => .inl hk)
            have HRp := hide_ hrp
            have hop2 : IOwn wc6 wy.heap.size vp (P ++ [23130]) := by unfold IOwn; rw [List.length_append, List.length_singleton]; exact hop
            obtain ⟨gP, cP2, ysP, evp, -, hcp, -, -, -, -⟩ := ownS_blk hop2 (by simp)
            rw [List.length_append, List.length_singleton] at evp hcp
            subst evp
            have HI12 := hide_ hop2
            have HBc6 := hide_ (HBc5.out.trans (hup.below _ HBc5.out.size (fun k hk => (HIi.out.lies hk).1)))
            have HV5 := hide_ (HV5.out.upd hup (fun k hk e => by
              obtain ⟨zs, hz⟩ := ownS_type HIi.out e
              exact HV5.out.ne hz (by decide) hk))
            have hcp' : (P.length : Int) ≤ cP2 := by omega
            refine step_append_run rfl (.tmp 70) (.tmp 71) 26 26 rfl (v := vi) (u := .slice (some ⟨gI, 0, none⟩) 1 1) (by kernel_rfl) (by kernel_rfl) HRp.out ?_
            clear hrp hop hgp hup HRp hop2 hcp HBc5 HIi KI ysP
            refine hK.out _ _ (HSS.out _ HBc6.out) (fun hHeld => ?_)
            clear hK K
            refine wpAnyF_take [17] (by kernel_rfl) (i := 15) (v := ?vt15) rfl (by kernel_rfl) (by kernel_rfl) (by kernel_rfl) (fun _ _ _ h => h) (Or.inl ⟨by kernel_rfl, ?hyt15⟩) hHeld ?restt15
            case hyt15 => intro w' hSw; (try dsimp only at hSw); go_simp; try with_reducible rfl
            simp only [Act.put]
            refine wpAnyF_take [17] (by kernel_rfl) (i := 16) (v := ?vt16) rfl (by kernel_rfl) (by kernel_rfl) (by kernel_rfl) (fun _ _ _ h => h) (Or.inl ⟨by kernel_rfl, ?hyt16⟩) hHeld ?restt16
            case hyt16 => intro w' hSw; (try dsimp only at hSw); go_simp; try with_reducible rfl
            simp only [Act.put]
            refine wpAnyF_ready (rs := [17]) (by kernel_rfl) (by simp) ?_
            refine AllReadyF.last rfl (fun K hK => ?_)
            have k9 := KRy.out.later HBc6.out
            have z0 := k9.cell 0; have z1 := k9.cell 1; have z2 := k9.cell 2; have z3 := k9.cell 3
            have zf := fun i => k9.frozen i
            simp at z0 z1 z2 z3
            have HK := hide_ (wr4 k9 (.slice (some ⟨g8, 0, none⟩) T.length c8) (.slice (some ⟨gR, 0, none⟩) R.length cR') (.slice (some ⟨gV, 0, none⟩) V.length cV2) (.slice (some ⟨gP, 0, none⟩) P.length cP2))
            have hu9 : Upd (fun k => k = w.heap.size + 1) wc6 ((((wc6.setCell ⟨w.heap.size + 1, 0, none⟩ (.slice (some ⟨g8, 0, none⟩) T.length c8)).setCell ⟨w.heap.size + 1, 1, none⟩ (.slice (some ⟨gR, 0, none⟩) R.length cR')).setCell ⟨w.heap.size + 1, 2, none⟩ (.slice (some ⟨gV, 0, none⟩) V.length cV2)).setCell ⟨w.heap.size + 1, 3, none⟩ (.slice (some ⟨gP, 0, none⟩) P.length cP2)) := (((((Upd.refl (fun k => k = w.heap.size + 1) wc6).set _ _ (.inl rfl)).set _ _ (.inl rfl)).set _ _ (.inl rfl)).set _ _ (.inl rfl))
            have hzy : w.heap.size ≤ wy.heap.size := HBy.out.size
            have HBf := hide_ ((below_to HBy.out HBc6.out).trans (hu9.below w.heap.size (below_to HBy.out HBc6.out).size (fun k hk => by omega)))
            have HL9 := hide_ ((HLy.out.later HBc6.out).updN hu9 k9 (by omega) (by decide) (by decide) (by decide))
            have HV9 : Hid (NOwn _ w.heap.size (.slice (some ⟨gV, 0, none⟩) (V.length + 1) cV2) (V ++ [mqN])) := hide_ (own_base (HV5.out.upd hu9 (fun k hk e => by subst e; exact HV5.out.ne k9 (by decide) hk)) hzy)
            have HI9 : Hid (IOwn _ w.heap.size (.slice (some ⟨gP, 0, none⟩) (P.length + 1) cP2) (P ++ [23130])) := hide_ (own_base (HI12.out.upd hu9 (fun k hk e => by
              subst e
              obtain ⟨zs, hz⟩ := ownS_type HI12.out hk
              exact absurd (blk_type k9 hz) (by decide))) hzy)
            clear k9 hu9
            go_simp
            refine hK.out _ _ ?_
            clear hK K
            refine wpAnyF_done (by kernel_rfl) ?_ _
            clear HSS hHeld
            go_wp2
            exact retLn rfl rfl HK.out ⟨g8, c8, Q, gR, cR', gV, cV2, gP, cP2, rfl, HL9, HQe, HV9, HI9, HBf⟩
          refine AllReadyF.cons rfl (fun K hK => ?_) AllReadyF.nil
          go_simp
          have kI := Blk.newA wc1 #[.int .i64 23130] 3
          have hbm := below1 wc1 (.cells #[.int .i64 23130] 3)
          obtain ⟨wc2, hwd⟩ : ∃ wx, wx = wc1.alloc (.cells #[.int .i64 23130] 3) := ⟨_, rfl⟩
          rw [← hwd] at kI hbm ⊢
          obtain ⟨gI, hgI⟩ : ∃ g, wc1.heap.size = g := ⟨_, rfl⟩
          rw [hgI] at kI ⊢
          have KI := hide_ kI
          have HBc2 := hide_ (below_to HBc1.out hbm)
          have HVn := hide_ (HVn.out.later hbm)
          clear hwd kI hbm hgI HBc1
          refine hK.out _ _ (HSS.out _ HBc2.out) (fun hHeld => ?_)
          clear hK K
          refine wpAnyF_ready (rs := [4]) (by kernel_rfl) (by simp) ?_
          refine AllReadyF.cons rfl (fun K hK => ?_) AllReadyF.nil
          go_simp
          have kM := Blk.newA wc2 #[.int .i64 23130, .int .u64 0, .int .i64 0] 49
          have hbm := below1 wc2 (.cells #[.int .i64 23130, .int .u64 0, .int .i64 0] 49)
          obtain ⟨wc3, hwd⟩ : ∃ wx, wx = wc2.alloc (.cells #[.int .i64 23130, .int .u64 0, .int .i64 0] 49) := ⟨_, rfl⟩
          rw [← hwd] at kM hbm ⊢
          obtain ⟨gM, hgM⟩ : ∃ g, wc2.heap.size = g := ⟨_, rfl⟩
          rw [hgM] at kM ⊢
          have KM := hide_ kM
          have HBc3 := hide_ (below_to HBc2.out hbm)
          have HVn := hide_ (HVn.out.later hbm)
          have KI := hide_ (KI.out.later hbm)
          clear hwd kM hbm hgM HBc2
          refine hK.out _ _ (HSS.out _ HBc3.out) (fun hHeld => ?_)
          clear hK K
          refine wpAnyF_ready (rs := [5]) (by kernel_rfl) (by simp) ?_
          refine AllReadyF.cons rfl (fun K hK => ?_) AllReadyF.nil
          obtain ⟨gV, cV2, wc4, hr5, ho5, hu5, -, hcv5, -⟩ := run_app1 (P := Tryd.prog) nvc_len nvc_one Tryd.underlying31 infoN rfl (by decide) wc3 HVn.out gM mqN KM.out (by unfold maxLen; omega) (by omega) HBc3.out.size
          have HR5 := hide_ hr5
          have HV5 : Hid (NOwn wc4 wy.heap.size (.slice (some ⟨gV, 0, none⟩) (V.length + 1) cV2) (V ++ [mqN])) := hide_ ho5
          have HBc4 := hide_ (HBc3.out.trans (hu5.below _ HBc3.out.size (fun k hk => (HVn.out.lt k hk).1)))
          have hcv5' : (V.length : Int) ≤ cV2 := by omega
          have KI := hide_ (KI.out.upd hu5 (HVn.out.ne KI.out (by decide)))
          refine step_append_run rfl (.tmp 62) (.tmp 64) 31 31 rfl (v := vn) (u := .slice (some ⟨gM, 0, none⟩) 1 1) (by kernel_rfl) (by kernel_rfl) HR5.out ?_
          clear hr5 ho5 hu5 hcv5 HR5 HBc3 HVn KM
          refine hK.out _ _ (HSS.out _ HBc4.out) (fun hHeld => ?_)
          clear hK K
          refine wpAnyF_take [17] (by kernel_rfl) (i := 8) (v := ?vt17) rfl (by kernel_rfl) (by kernel_rfl) (by kernel_rfl) (fun _ _ _ h => h) (Or.inl ⟨by kernel_rfl, ?hyt17⟩) hHeld ?restt17
          case hyt17 => intro w' hSw; (try dsimp only at hSw); go_simp; try with_reducible rfl
          simp only [Act.put]
          refine wpAnyF_ready (rs := [10]) (by kernel_rfl) (by simp) ?_
          refine AllReadyF.cons rfl (fun K hK => ?_) AllReadyF.nil
          obtain ⟨vi, wc5, hri, hoi, hgi⟩ := run_copy elI wc4 26 wc4.heap.size aP P.length cP P rfl (HPy.out.later HBc4.out) hpn (by unfold maxLen; omega) (by omega) (Nat.le_refl _)
          have hbi : Below wc4.heap.size wc4 wc5 := ((Upd.refl (fun _ => False) wc4).grown hgi (fun k hk => by cases hk)).below _ (Nat.le_refl _) (fun k hk => hk.elim)
          have HRi := hide_ hri
          have HIi : Hid (IOwn wc5 wy.heap.size vi P) := hide_ (own_base hoi HBc4.out.size)
          have HBc5 := hide_ (below_to HBc4.out hbi)
          have HV5 := hide_ (HV5.out.later hbi)
          have KI := hide_ (KI.out.later hbi)
          refine step_append_run rfl (.const (.slice none 0 0)) (.tmp 69) 26 26 rfl (v := .slice none 0 0) (u := .slice aP P.length cP) (by kernel_rfl) (by kernel_rfl) HRi.out ?_
          clear hri hoi hgi hbi HRi HBc4
          refine hK.out _ _ (HSS.out _ HBc5.out) (fun hHeld => ?_)
          clear hK K
          refine wpAnyF_ready (rs := [12]) (by kernel_rfl) (by simp) ?_
          refine AllReadyF.cons rfl (fun K hK => ?_) AllReadyF.nil
          obtain ⟨vp, wc6, hrp, hop, hgp⟩ := run_app elI wc5 26 wy.heap.size vi P.length P HIi.out (some ⟨gI, 0, none⟩) 1 1 [23130] rfl (KI.out.row (l := [23130])) (fun h => by cases h) (by unfold maxLen; omega) (by omega) HBc5.out.size
          have hup : Upd (fun k => vi.ownBlock = some k) wc5 wc6 := (Upd.refl _ wc5).grown hgp (fun k hk => .inl hk)
          have HRp := hide_ hrp
          have hop2 : IOwn wc6 wy.heap.size vp (P ++ [23130]) := by unfold IOwn; rw [List.length_append, List.length_singleton]; exact hop
          obtain ⟨gP, cP2, ysP, evp, -, hcp, -, -, -, -⟩ := ownS_blk hop2 (by simp)
          rw [List.length_append, List.length_singleton] at evp hcp
          subst evp
          have HI12 := hide_ hop2
          have HBc6 := hide_ (HBc5.out.trans (hup.below _ HBc5.out.size (fun k hk => (HIi.out.lies hk).1)))
          have HV5 := hide_ (HV5.out.upd hup (fun k hk e => by
            obtain ⟨zs, hz⟩ := ownS_type HIi.out e
            exact HV5.out.ne hz (by decide) hk))
          have hcp' : (P.length : Int) ≤ cP2 := by omega
          refine step_append_run rfl (.tmp 70) (.tmp 71) 26 26 rfl (v := vi) (u := .slice (some ⟨gI, 0, none⟩) 1 1) (by kernel_rfl) (by kernel_rfl) HRp.out ?_
          clear hrp hop hgp hup HRp hop2 hcp HBc5 HIi KI ysP
          refine hK.out _ _ (HSS.out _ HBc6.out) (fun hHeld => ?_)
          clear hK K
          refine wpAnyF_take [17] (by kernel_rfl) (i := 15) (v := ?vt18) rfl (by kernel_rfl) (by kernel_rfl) (by kernel_rfl) (fun _ _ _ h => h) (Or.inl ⟨by kernel_rfl, ?hyt18⟩) hHeld ?restt18
          case hyt18 => intro w' hSw; (try dsimp only at hSw); go_simp; try with_reducible rfl
          simp only [Act.put]
          refine wpAnyF_take [17] (by kernel_rfl) (i := 16) (v := ?vt19) rfl (by kernel_rfl) (by kernel_rfl) (by kernel_rfl) (fun _ _ _ h => h) (Or.inl ⟨by kernel_rfl, ?hyt19⟩) hHeld ?restt19
          case hyt19 => intro w' hSw; (try dsimp only at hSw); go_simp; try with_reducible rfl
          simp only [Act.put]
          refine wpAnyF_ready (rs := [17]) (by kernel_rfl) (by simp) ?_
          refine AllReadyF.last rfl (fun K hK => ?_)
          have k9 := KRy.out.later HBc6.out
          have z0 := k9.cell 0; have z1 := k9.cell 1; have z2 := k9.cell 2; have z3 := k9.cell 3
          have zf := fun i => k9.frozen i
          simp at z0 z1 z2 z3
          have HK := hide_ (wr4 k9 (.slice (some ⟨g8, 0, none⟩) T.length c8) (.slice (some ⟨gR, 0, none⟩) R.length cR') (.slice (some ⟨gV, 0, none⟩) V.length cV2) (.slice (some ⟨gP, 0, none⟩) P.length cP2))
          have hu9 : Upd (fun k => k = w.heap.size + 1) wc6 ((((wc6.setCell ⟨w.heap.size + 1, 0, none⟩ (.slice (some ⟨g8, 0, none⟩) T.length c8)).setCell ⟨w.heap.size + 1, 1, none⟩ (.slice (some ⟨gR, 0, none⟩) R.length cR')).setCell ⟨w.heap.size + 1, 2, none⟩ (.slice (some ⟨gV, 0, none⟩) V.length cV2)).setCell ⟨w.heap.size + 1, 3, none⟩ (.slice (some ⟨gP, 0, none⟩) P.length cP2)) := (((((Upd.refl (fun k => k = w.heap.size + 1) wc6).set _ _ (.inl rfl)).set _ _ (.inl rfl)).set _ _ (.inl rfl)).set _ _ (.inl rfl))
          have hzy : w.heap.size ≤ wy.heap.size := HBy.out.size
          have HBf := hide_ ((below_to HBy.out HBc6.out).trans (hu9.below w.heap.size (below_to HBy.out HBc6.out).size (fun k hk => by omega)))
          have HL9 := hide_ ((HLy.out.later HBc6.out).updN hu9 k9 (by omega) (by decide) (by decide) (by decide))
          have HV9 : Hid (NOwn _ w.heap.size (.slice (some ⟨gV, 0, none⟩) (V.length + 1) cV2) (V ++ [mqN])) := hide_ (own_base (HV5.out.upd hu9 (fun k hk e => by subst e; exact HV5.out.ne k9 (by decide) hk)) hzy)
          have HI9 : Hid (IOwn _ w.heap.size (.slice (some ⟨gP, 0, none⟩) (P.length + 1) cP2) (P ++ [23130])) := hide_ (own_base (HI12.out.upd hu9 (fun k hk e => by
            subst e
            obtain ⟨zs, hz⟩ := ownS_type HI12.out hk
            exact absurd (blk_type k9 hz) (by decide))) hzy)
          clear k9 hu9
          go_simp
          refine hK.out _ _ ?_
          clear hK K
          refine wpAnyF_done (by kernel_rfl) ?_ _
          clear HSS hHeld
          go_wp2
          exact retLn rfl rfl HK.out ⟨g8, c8, Q, gR, cR', gV, cV2, gP, cP2, rfl, HL9, HQe, HV9, HI9, HBf⟩
        refine AllReadyF.cons rfl (fun K hK => ?_) ?_
        · go_simp
          have kM := Blk.newA wc0 #[.int .i64 23130, .int .u64 0, .int .i64 0] 49
          have hbm := below1 wc0 (.cells #[.int .i64 23130, .int .u64 0, .int .i64 0] 49)
          obtain ⟨wc1, hwd⟩ : ∃ wx, wx = wc0.alloc (.cells #[.int .i64 23130, .int .u64 0, .int .i64 0] 49) := ⟨_, rfl⟩
          rw [← hwd] at kM hbm ⊢
          obtain ⟨gM, hgM⟩ : ∃ g, wc0.heap.size = g := ⟨_, rfl⟩
          rw [hgM] at kM ⊢
          have KM := hide_ kM
          have HBc1 := hide_ (below_to HBc0.out hbm)
          clear hwd kM hbm hgM HBc0
          refine hK.out _ _ (HSS.out _ HBc1.out) (fun hHeld => ?_)
          clear hK K
          refine wpAnyF_ready (rs := [2, 11]) (by kernel_rfl) (by simp) ?_
          refine AllReadyF.cons rfl (fun K hK => ?_) ?_
          · obtain ⟨vn, wc2, hrn, hon, hbn⟩ := run_copyG (P := Tryd.prog) nvc_len nvc_one Tryd.underlying31 infoN rfl (by decide) wc1 aV V.length cV V rfl (HVy.out.later HBc1.out) hvn (by unfold maxLen; omega) (by omega)
            have HRn := hide_ hrn
            have HVn : Hid (NOwn wc2 wy.heap.size vn V) := hide_ (own_base hon HBc1.out.size)
            have HBc2 := hide_ (below_to HBc1.out hbn)
            have KM := hide_ (KM.out.later hbn)
            refine step_append_run rfl (.const (.slice none 0 0)) (.tmp 61) 31 31 rfl (v := .slice none 0 0) (u := .slice aV V.length cV) (by kernel_rfl) (by kernel_rfl) HRn.out ?_
            clear hrn hon hbn HRn
            refine hK.out _ _ (HSS.out _ HBc2.out) (fun hHeld => ?_)
            clear hK K
            refine wpAnyF_ready (rs := [5, 11]) (by kernel_rfl) (by simp) ?_
            refine AllReadyF.cons rfl (fun K hK => ?_) ?_
            · obtain ⟨gV, cV2, wc3, hr5, ho5, hu5, -, hcv5, -⟩ := run_app1 (P := Tryd.prog) nvc_len nvc_one Tryd.underlying31 infoN rfl (by decide) wc2 HVn.out gM mqN KM.out (by unfold maxLen; omega) (by omega) HBc2.out.size
              have HR5 := hide_ hr5
              have HV5 : Hid (NOwn wc3 wy.heap.size (.slice (some ⟨gV, 0, none⟩) (V.length + 1) cV2) (V ++ [mqN])) := hide_ ho5
              have HBc3 := hide_ (HBc2.out.trans (hu5.below _ HBc2.out.size (fun k hk => (HVn.out.lt k hk).1)))
              have hcv5' : (V.length : Int) ≤ cV2 := by omega
              refine step_append_run rfl (.tmp 62) (.tmp 64) 31 31 rfl (v := vn) (u := .slice (some ⟨gM, 0, none⟩) 1 1) (by kernel_rfl) (by kernel_rfl) HR5.out ?_
              clear hr5 ho5 hu5 hcv5 HR5 HBc2 HVn KM
              refine hK.out _ _ (HSS.out _ HBc3.out) (fun hHeld => ?_)
              clear hK K
              refine wpAnyF_take [17] (by kernel_rfl) (i := 8) (v := ?vt20) rfl (by kernel_rfl) (by kernel_rfl) (by kernel_rfl) (fun _ _ _ h => h) (Or.inl ⟨by kernel_rfl, ?hyt20⟩) hHeld ?restt20
              case hyt20 => intro w' hSw; (try dsimp only at hSw); go_simp; try with_reducible rfl
              simp only [Act.put]
              refine wpAnyF_ready (rs := [10, 11]) (by kernel_rfl) (by simp) ?_
              refine AllReadyF.cons rfl (fun K hK => ?_) ?_
              · obtain ⟨vi, wc4, hri, hoi, hgi⟩ := run_copy elI wc3 26 wc3.heap.size aP P.length cP P rfl (HPy.out.later HBc3.out) hpn (by unfold maxLen; omega) (by omega) (Nat.le_refl _)
                have hbi : Below wc3.heap.size wc3 wc4 := ((Upd.refl (fun _ => False) wc3).grown hgi (fun k hk => by cases hk)).below _ (Nat.le_refl _) (fun k hk => hk.elim)
                have HRi := hide_ hri
                have HIi : Hid (IOwn wc4 wy.heap.size vi P) := hide_ (own_base hoi HBc3.out.size)
                have HBc4 := hide_ (below_to HBc3.out hbi)
                have HV5 := hide_ (HV5.out.later hbi)
                refine step_append_run rfl (.const (.slice none 0 0)) (.tmp 69) 26 26 rfl (v := .slice none 0 0) (u := .slice aP P.length cP) (by kernel_rfl) (by kernel_rfl) HRi.out ?_
                clear hri hoi hgi hbi HRi HBc3
                refine hK.out _ _ (HSS.out _ HBc4.out) (fun hHeld => ?_)
                clear hK K
                refine wpAnyF_ready (rs := [11]) (by kernel_rfl) (by simp) ?_
                refine AllReadyF.cons rfl (fun K hK => ?_) AllReadyF.nil
                go_simp
                have kI := Blk.newA wc4 #[.int .i64 23130] 3
                have hbm := below1 wc4 (.cells #[.int .i64 23130] 3)
                obtain ⟨wc5, hwd⟩ : ∃ wx, wx = wc4.alloc (.cells #[.int .i64 23130] 3) := ⟨_, rfl⟩
                rw [← hwd] at kI hbm ⊢
                obtain ⟨gI, hgI⟩ : ∃ g, wc4.heap.size = g := ⟨_, rfl⟩
                rw [hgI] at kI ⊢
                have KI := hide_ kI
                have HBc5 := hide_ (below_to HBc4.out hbm)
                have HV5 := hide_ (HV5.out.later hbm)
                have HIi := hide_ (HIi.out.later hbm)
                clear hwd kI hbm hgI HBc4
                refine hK.out _ _ (HSS.out _ HBc5.out) (fun hHeld => ?_)
                clear hK K
                refine wpAnyF_ready (rs := [12]) (by kernel_rfl) (by simp) ?_
                refine AllReadyF.cons rfl (fun K hK => ?_) AllReadyF.nil
                obtain ⟨vp, wc6, hrp, hop, hgp⟩ := run_app elI wc5 26 wy.heap.size vi P.length P HIi.out (some ⟨gI, 0, none⟩) 1 1 [23130] rfl (KI.out.row (l := [23130])) (fun h => by cases h) (by unfold maxLen; omega) (by omega) HBc5.out.size
                have hup : Upd (fun k => vi.ownBlock = some k) wc5 wc6 := (Upd.refl _ wc5).grown hgp (fun k hk => .inl hk)
                have HRp := hide_ hrp
                have hop2 : IOwn wc6 wy.heap.size vp (P ++ [23130]) := by unfold IOwn; rw [List.length_append, List.length_singleton]; exact hop
                obtain ⟨gP, cP2, ysP, evp, -, hcp, -, -, -, -⟩ := ownS_blk hop2 (by simp)
                rw [List.length_append, List.length_singleton] at evp hcp
                subst evp
                have HI12 := hide_ hop2
                have HBc6 := hide_ (HBc5.out.trans (hup.below _ HBc5.out.size (fun k hk => (HIi.out.lies hk).1)))
                have HV5 := hide_ (HV5.out.upd hup (fun k hk e => by
                  obtain ⟨zs, hz⟩ := ownS_type HIi.out e
                  exact HV5.out.ne hz (by decide) hk))
                have hcp' : (P.length : Int) ≤ cP2 := by omega
                refine step_append_run rfl (.tmp 70) (.tmp 71) 26 26 rfl (v := vi) (u := .slice (some ⟨gI, 0, none⟩) 1 1) (by kernel_rfl) (by kernel_rfl) HRp.out ?_
                clear hrp hop hgp hup HRp hop2 hcp HBc5 HIi KI ysP
                refine hK.out _ _ (HSS.out _ HBc6.out) (fun hHeld => ?_)
                clear hK K
                refine wpAnyF_take [17] (by kernel_rfl) (i := 15) (v := ?vt21) rfl (by kernel_rfl) (by kernel_rfl) (by kernel_rfl) (fun _ _ _ h => h) (Or.inl ⟨by kernel_rfl, ?hyt21⟩) hHeld ?restt21
                case hyt21 => intro w' hSw; (try dsimp only at hSw); go_simp; try with_reducible rfl
                simp only [Act.put]
                refine wpAnyF_take [17] (by kernel_rfl) (i := 16) (v := ?vt22) rfl (by kernel_rfl) (by kernel_rfl) (by kernel_rfl) (fun _ _ _ h => h) (Or.inl ⟨by kernel_rfl, ?hyt22⟩) hHeld ?restt22
                case hyt22 => intro w' hSw; (try dsimp only at hSw); go_simp; try with_reducible rfl
                simp only [Act.put]
                refine wpAnyF_ready (rs := [17]) (by kernel_rfl) (by simp) ?_
                refine AllReadyF.last rfl (fun K hK => ?_)
                have k9 := KRy.out.later HBc6.out
                have z0 := k9.cell 0; have z1 := k9.cell 1; have z2 := k9.cell 2; have z3 := k9.cell 3
                have zf := fun i => k9.frozen i
                simp at z0 z1 z2 z3
                have HK := hide_ (wr4 k9 (.slice (some ⟨g8, 0, none⟩) T.length c8) (.slice (some ⟨gR, 0, none⟩) R.length cR') (.slice (some ⟨gV, 0, none⟩) V.length cV2) (.slice (some ⟨gP, 0, none⟩) P.length cP2))
                have hu9 : Upd (fun k => k = w.heap.size + 1) wc6 ((((wc6.setCell ⟨w.heap.size + 1, 0, none⟩ (.slice (some ⟨g8, 0, none⟩) T.length c8)).setCell ⟨w.heap.size + 1, 1, none⟩ (.slice (some ⟨gR, 0, none⟩) R.length cR')).setCell ⟨w.heap.size + 1, 2, none⟩ (.slice (some ⟨gV, 0, none⟩) V.length cV2)).setCell ⟨w.heap.size + 1, 3, none⟩ (.slice (some ⟨gP, 0, none⟩) P.length cP2)) := (((((Upd.refl (fun k => k = w.heap.size + 1) wc6).set _ _ (.inl rfl)).set _ _ (.inl rfl)).set _ _ (.inl rfl)).set _ _ (.inl rfl))
                have hzy : w.heap.size ≤ wy.heap.size := HBy.out.size
                have HBf := hide_ ((below_to HBy.out HBc6.out).trans (hu9.below w.heap.size (below_to HBy.out HBc6.out).size (fun k hk => by omega)))
                have HL9 := hide_ ((HLy.out.later HBc6.out).updN hu9 k9 (by omega) (by decide) (by decide) (by decide))
                have HV9 : Hid (NOwn _ w.heap.size (.slice (some ⟨gV, 0, none⟩) (V.length + 1) cV2) (V ++ [mqN])) := hide_ (own_base (HV5.out.upd hu9 (fun k hk e => by subst e; exact HV5.out.ne k9 (by decide) hk)) hzy)
                have HI9 : Hid (IOwn _ w.heap.size (.slice (some ⟨gP, 0, none⟩) (P.length + 1) cP2) (P ++ [23130])) := hide_ (own_base (HI12.out.upd hu9 (fun k hk e => by
                  subst e
                  obtain ⟨zs, hz⟩ := ownS_type HI12.out hk
                  exact absurd (blk_type k9 hz) (by decide))) hzy)
                clear k9 hu9
                go_simp
                refine hK.out _ _ ?_
                clear hK K
                refine wpAnyF_done (by kernel_rfl) ?_ _
                clear HSS hHeld
                go_wp2
                exact retLn rfl rfl HK.out ⟨g8, c8, Q, gR, cR', gV, cV2, gP, cP2, rfl, HL9, HQe, HV9, HI9, HBf⟩
              refine AllReadyF.cons rfl (fun K hK => ?_) AllReadyF.nil
              go_simp
              have kI := Blk.newA wc3 #[.int .i64 23130] 3
              have hbm := below1 wc3 (.cells #[.int .i64 23130] 3)
              obtain ⟨wc4, hwd⟩ : ∃ wx, wx = wc3.alloc (.cells #[.int .i64 23130] 3) := ⟨_, rfl⟩
              rw [← hwd] at kI hbm ⊢
              obtain ⟨gI, hgI⟩ : ∃ g, wc3.heap.size = g := ⟨_, rfl⟩
              rw [hgI] at kI ⊢
              have KI := hide_ kI
              have HBc4 := hide_ (below_to HBc3.out hbm)
              have HV5 := hide_ (HV5.out.later hbm)
              clear hwd kI hbm hgI HBc3
              refine hK.out _ _ (HSS.out _ HBc4.out) (fun hHeld => ?_)
              clear hK K
              refine wpAnyF_ready (rs := [10]) (by kernel_rfl) (by simp) ?_
              refine AllReadyF.cons rfl (fun K hK => ?_) AllReadyF.nil
              obtain ⟨vi, wc5, hri, hoi, hgi⟩ := run_copy elI wc4 26 wc4.heap.size aP P.length cP P rfl (HPy.out.later HBc4.out) hpn (by unfold maxLen; omega) (by omega) (Nat.le_refl _)
              have hbi : Below wc4.heap.size wc4 wc5 := ((Upd.refl (fun _ => False) wc4).grown hgi (fun k hk => by cases hk)).below _ (Nat.le_refl _) (fun k hk => hk.elim)
              have HRi := hide_ hri
              have HIi : Hid (IOwn wc5 wy.heap.size vi P) := hide_ (own_base hoi HBc4.out.size)
              have HBc5 := hide_ (below_to HBc4.out hbi)
              have HV5 := hide_ (HV5.out.later hbi)
              have KI := hide_ (KI.out.later hbi)
              refine step_append_run rfl (.const (.slice none 0 0)) (.tmp 69) 26 26 rfl (v := .slice none 0 0) (u := .slice aP P.length cP) (by kernel_rfl) (by kernel_rfl) HRi.out ?_
              clear hri hoi hgi hbi HRi HBc4
              refine hK.out _ _ (HSS.out _ HBc5.out) (fun hHeld => ?_)
              clear hK K
              refine wpAnyF_ready (rs := [12]) (by kernel_rfl) (by simp) ?_
              refine AllReadyF.cons rfl (fun K hK => ?_) AllReadyF.nil
              obtain ⟨vp, wc6, hrp, hop, hgp⟩ := run_app elI wc5 26 wy.heap.size vi P.length P HIi.out (some ⟨gI, 0, none⟩) 1 1 [23130] rfl (KI.out.row (l := [23130])) (fun h => by cases h) (by unfold maxLen; omega) (by omega) HBc5.out.size
              have hup : Upd (fun k => vi.ownBlock = some k) wc5 wc6 := (Upd.refl _ wc5).grown hgp (fun k hk => .inl hk)
              have HRp := hide_ hrp
              have hop2 : IOwn wc6 wy.heap.size vp (P ++ [23130]) := by unfold IOwn; rw [List.length_append, List.length_singleton]; exact hop
              obtain ⟨gP, cP2, ysP, evp, -, hcp, -, -, -, -⟩ := ownS_blk hop2 (by simp)
              rw [List.length_append, List.length_singleton] at evp hcp
              subst evp
              have HI12 := hide_ hop2
              have HBc6 := hide_ (HBc5.out.trans (hup.below _ HBc5.out.size (fun k hk => (HIi.out.lies hk).1)))
              have HV5 := hide_ (HV5.out.upd hup (fun k hk e => by
                obtain ⟨zs, hz⟩ := ownS_type HIi.out e
                exact HV5.out.ne hz (by decide) hk))
              have hcp' : (P.length : Int) ≤ cP2 := by omega
              refine step_append_run rfl (.tmp 70) (.tmp 71) 26 26 rfl (v := vi) (u := .slice (some ⟨gI, 0, none⟩) 1 1) (by kernel_rfl) (by kernel_rfl) HRp.out ?_
              clear hrp hop hgp hup HRp hop2 hcp HBc5 HIi KI ysP
              refine hK.out _ _ (HSS.out _ HBc6.out) (fun hHeld => ?_)
              clear hK K
              refine wpAnyF_take [17] (by kernel_rfl) (i := 15) (v := ?vt23) rfl (by kernel_rfl) (by kernel_rfl) (by kernel_rfl) (fun _ _ _ h => h) (Or.inl ⟨by kernel_rfl, ?hyt23⟩) hHeld ?restt23
              case hyt23 => intro w' hSw; (try dsimp only at hSw); go_simp; try with_reducible rfl
              simp only [Act.put]
              refine wpAnyF_take [17] (by kernel_rfl) (i := 16) (v := ?vt24) rfl (by kernel_rfl) (by kernel_rfl) (by kernel_rfl) (fun _ _ _ h => h) (Or.inl ⟨by kernel_rfl, ?hyt24⟩) hHeld ?restt24
              case hyt24 => intro w' hSw; (try dsimp only at hSw); go_simp; try with_reducible rfl
              simp only [Act.put]
              refine wpAnyF_ready (rs := [17]) (by kernel_rfl) (by simp) ?_
              refine AllReadyF.last rfl (fun K hK => ?_)
              have k9 := KRy.out.later HBc6.out
              have z0 := k9.cell 0; have z1 := k9.cell 1; have z2 := k9.cell 2; have z3 := k9.cell 3
              have zf := fun i => k9.frozen i
              simp at z0 z1 z2 z3
              have HK := hide_ (wr4 k9 (.slice (some ⟨g8, 0, none⟩) T.length c8) (.slice (some ⟨gR, 0, none⟩) R.length cR') (.slice (some ⟨gV, 0, none⟩) V.length cV2) (.slice (some ⟨gP, 0, none⟩) P.length cP2))
              have hu9 : Upd (fun k => k = w.heap.size + 1) wc6 ((((wc6.setCell ⟨w.heap.size + 1, 0, none⟩ (.slice (some ⟨g8, 0, none⟩) T.length c8)).setCell ⟨w.heap.size + 1, 1, none⟩ (.slice (some ⟨gR, 0, none⟩) R.length cR')).setCell ⟨w.heap.size + 1, 2, none⟩ (.slice (some ⟨gV, 0, none⟩) V.length cV2)).setCell ⟨w.heap.size + 1, 3, none⟩ (.slice (some ⟨gP, 0, none⟩) P.length cP2)) := (((((Upd.refl (fun k => k = w.heap.size + 1) wc6).set _ _ (.inl rfl)).set _ _ (.inl rfl)).set _ _ (.inl rfl)).set _ _ (.inl rfl))
              have hzy : w.heap.size ≤ wy.heap.size := HBy.out.size
              have HBf := hide_ ((below_to HBy.out HBc6.out).trans (hu9.below w.heap.size (below_to HBy.out HBc6.out).size (fun k hk => by omega)))
              have HL9 := hide_ ((HLy.out.later HBc6.out).updN hu9 k9 (by omega) (by decide) (by decide) (by decide))
              have HV9 : Hid (NOwn _ w.heap.size (.slice (some ⟨gV, 0, none⟩) (V.length + 1) cV2) (V ++ [mqN])) := hide_ (own_base (HV5.out.upd hu9 (fun k hk e => by subst e; exact HV5.out.ne k9 (by decide) hk)) hzy)
              have HI9 : Hid (IOwn _ w.heap.size (.slice (some ⟨gP, 0, none⟩) (P.length + 1) cP2) (P ++ [23130])) := hide_ (own_base (HI12.out.upd hu9 (fun k hk e => by
                subst e
                obtain ⟨zs, hz⟩ := ownS_type HI12.out hk
                exact absurd (blk_type k9 hz) (by decide))) hzy)
              clear k9 hu9
              go_simp
              refine hK.out _ _ ?_
              clear hK K
              refine wpAnyF_done (by kernel_rfl) ?_ _
              clear HSS hHeld
              go_wp2
              exact retLn rfl rfl HK.out ⟨g8, c8, Q, gR, cR', gV, cV2, gP, cP2, rfl, HL9, HQe, HV9, HI9, HBf⟩
            refine AllReadyF.cons rfl (fun K hK => ?_) AllReadyF.nil
            go_simp
            have kI := Blk.newA wc2 #[.int .i64 23130] 3
            have hbm := below1 wc2 (.cells #[.int .i64 23130] 3)
            obtain ⟨wc3, hwd⟩ : ∃ wx, wx = wc2.alloc (.cells #[.int .i64 23130] 3) := ⟨_, rfl⟩
            rw [← hwd] at kI hbm ⊢
            obtain ⟨gI, hgI⟩ : ∃ g, wc2.heap.size = g := ⟨_, rfl⟩
            rw [hgI] at kI ⊢
            have KI := hide_ kI
            have HBc3 := hide_ (below_to HBc2.out hbm)
            have HVn := hide_ (HVn.out.later hbm)
            have KM := hide_ (KM.out.later hbm)
            clear hwd kI hbm hgI HBc2
            refine hK.out _ _ (HSS.out _ HBc3.out) (fun hHeld => ?_)
            clear hK K
            refine wpAnyF_ready (rs := [5]) (by kernel_rfl) (by simp) ?_
            refine AllReadyF.cons rfl (fun K hK => ?_) AllReadyF.nil
            obtain ⟨gV, cV2, wc4, hr5, ho5, hu5, -, hcv5, -⟩ := run_app1 (P := Tryd.prog) nvc_len nvc_one Tryd.underlying31 infoN rfl (by decide) wc3 HVn.out gM mqN KM.out (by unfold maxLen; omega) (by omega) HBc3.out.size
            have HR5 := hide_ hr5
            have HV5 : Hid (NOwn wc4 wy.heap.size (.slice (some ⟨gV, 0, none⟩) (V.length + 1) cV2) (V ++ [mqN])) := hide_ ho5
            have HBc4 := hide_ (HBc3.out.trans (hu5.below _ HBc3.out.size (fun k hk => (HVn.out.lt k hk).1)))
            have hcv5' : (V.length : Int) ≤ cV2 := by omega
            have KI := hide_ (KI.out.upd hu5 (HVn.out.ne KI.out (by decide)))
            refine step_append_run rfl (.tmp 62) (.tmp 64) 31 31 rfl (v := vn) (u := .slice (some ⟨gM, 0, none⟩) 1 1) (by kernel_rfl) (by kernel_rfl) HR5.out ?_
            clear hr5 ho5 hu5 hcv5 HR5 HBc3 HVn KM
            refine hK.out _ _ (HSS.out _ HBc4.out) (fun hHeld => ?_)
            clear hK K
            refine wpAnyF_take [17] (by kernel_rfl) (i := 8) (v := ?vt25) rfl (by kernel_rfl) (by kernel_rfl) (by kernel_rfl) (fun _ _ _ h => h) (Or.inl ⟨by kernel_rfl, ?hyt25⟩) hHeld ?restt25
            case hyt25 => intro w' hSw; (try dsimp only at hSw); go_simp; try with_reducible rfl
            simp only [Act.put]
            refine wpAnyF_ready (rs := [10]) (by kernel_rfl) (by simp) ?_
            refine AllReadyF.cons rfl (fun K hK => ?_) AllReadyF.nil
            obtain ⟨vi, wc5, hri, hoi, hgi⟩ := run_copy elI wc4 26 wc4.heap.size aP P.length cP P rfl (HPy.out.later HBc4.out) hpn (by unfold maxLen; omega) (by omega) (Nat.le_refl _)
            have hbi : Below wc4.heap.size wc4 wc5 := ((Upd.refl (fun _ => False) wc4).grown hgi (fun k hk => by cases hk)).below _ (Nat.le_refl _) (fun k hk => hk.elim)
            have HRi := hide_ hri
            have HIi : Hid (IOwn wc5 wy.heap.size vi P) := hide_ (own_base hoi HBc4.out.size)
            have HBc5 := hide_ (below_to HBc4.out hbi)
            have HV5 := hide_ (HV5.out.later hbi)
            have KI := hide_ (KI.out.later hbi)
            refine step_append_run rfl (.const (.slice none 0 0)) (.tmp 69) 26 26 rfl (v := .slice none 0 0) (u := .slice aP P.length cP) (by kernel_rfl) (by kernel_rfl) HRi.out ?_
            clear hri hoi hgi hbi HRi HBc4
            refine hK.out _ _ (HSS.out _ HBc5.out) (fun hHeld => ?_)
            clear hK K
            refine wpAnyF_ready (rs := [12]) (by kernel_rfl) (by simp) ?_
            refine AllReadyF.cons rfl (fun K hK => ?_) AllReadyF.nil
            obtain ⟨vp, wc6, hrp, hop, hgp⟩ := run_app elI wc5 26 wy.heap.size vi P.length P HIi.out (some ⟨gI, 0, none⟩) 1 1 [23130] rfl (KI.out.row (l := [23130])) (fun h => by cases h) (by unfold maxLen; omega) (by omega) HBc5.out.size
            have hup : Upd (fun k => vi.ownBlock = some k) wc5 wc6 := (Upd.refl _ wc5).grown hgp (fun k hk => .inl hk)
            have HRp := hide_ hrp
            have hop2 : IOwn wc6 wy.heap.size vp (P ++ [23130]) := by unfold IOwn; rw [List.length_append, List.length_singleton]; exact hop
            obtain ⟨gP, cP2, ysP, evp, -, hcp, -, -, -, -⟩ := ownS_blk hop2 (by simp)
            rw [List.length_append, List.length_singleton] at evp hcp
            subst evp
            have HI12 := hide_ hop2
            have HBc6 := hide_ (HBc5.out.trans (hup.below _ HBc5.out.size (fun k hk => (HIi.out.lies hk).1)))
            have HV5 := hide_ (HV5.out.upd hup (fun k hk e => by
              obtain ⟨zs, hz⟩ := ownS_type HIi.out e
              exact HV5.out.ne hz (by decide) hk))
            have hcp' : (P.length : Int) ≤ cP2 := by omega
            refine step_append_run rfl (.tmp 70) (.tmp 71) 26 26 rfl (v := vi) (u := .slice (some ⟨gI, 0, none⟩) 1 1) (by kernel_rfl) (by kernel_rfl) HRp.out ?_
            clear hrp hop hgp hup HRp hop2 hcp HBc5 HIi KI ysP
            refine hK.out _ _ (HSS.out _ HBc6.out) (fun hHeld => ?_)
            clear hK K
            refine wpAnyF_take [17] (by kernel_rfl) (i := 15) (v := ?vt26) rfl (by kernel_rfl) (by kernel_rfl) (by kernel_rfl) (fun _ _ _ h => h) (Or.inl ⟨by kernel_rfl, ?hyt26⟩) hHeld ?restt26
            case hyt26 => intro w' hSw; (try dsimp only at hSw); go_simp; try with_reducible rfl
            simp only [Act.put]
            refine wpAnyF_take [17] (by kernel_rfl) (i := 16) (v := ?vt27) rfl (by kernel_rfl) (by kernel_rfl) (by kernel_rfl) (fun _ _ _ h => h) (Or.inl ⟨by kernel_rfl, ?hyt27⟩) hHeld ?restt27
            case hyt27 => intro w' hSw; (try dsimp only at hSw); go_simp; try with_reducible rfl
            simp only [Act.put]
            refine wpAnyF_ready (rs := [17]) (by kernel_rfl) (by simp) ?_
            refine AllReadyF.last rfl (fun K hK => ?_)
            have k9 := KRy.out.later HBc6.out
            have z0 := k9.cell 0; have z1 := k9.cell 1; have z2 := k9.cell 2; have z3 := k9.cell 3
            have zf := fun i => k9.frozen i
            simp at z0 z1 z2 z3
            have HK := hide_ (wr4 k9 (.slice (some ⟨g8, 0, none⟩) T.length c8) (.slice (some ⟨gR, 0, none⟩) R.length cR') (.slice (some ⟨gV, 0, none⟩) V.length cV2) (.slice (some ⟨gP, 0, none⟩) P.length cP2))
            have hu9 : Upd (fun k => k = w.heap.size + 1) wc6 ((((wc6.setCell ⟨w.heap.size + 1, 0, none⟩ (.slice (some ⟨g8, 0, none⟩) T.length c8)).setCell ⟨w.heap.size + 1, 1, none⟩ (.slice (some ⟨gR, 0, none⟩) R.length cR')).setCell ⟨w.heap.size + 1, 2, none⟩ (.slice (some ⟨gV, 0, none⟩) V.length cV2)).setCell ⟨w.heap.size + 1, 3, none⟩ (.slice (some ⟨gP, 0, none⟩) P.length cP2)) := (((((Upd.refl (fun k => k = w.heap.size + 1) wc6).set _ _ (.inl rfl)).set _ _ (.inl rfl)).set _ _ (.inl rfl)).set _ _ (.inl rfl))
            have hzy : w.heap.size ≤ wy.heap.size := HBy.out.size
            have HBf := hide_ ((below_to HBy.out HBc6.out).trans (hu9.below w.heap.size (below_to HBy.out HBc6.out).size (fun k hk => by omega)))
            have HL9 := hide_ ((HLy.out.later HBc6.out).updN hu9 k9 (by omega) (by decide) (by decide) (by decide))
            have HV9 : Hid (NOwn _ w.heap.size (.slice (some ⟨gV, 0, none⟩) (V.length + 1) cV2) (V ++ [mqN])) := hide_ (own_base (HV5.out.upd hu9 (fun k hk e => by subst e; exact HV5.out.ne k9 (by decide) hk)) hzy)
            have HI9 : Hid (IOwn _ w.heap.size (.slice (some ⟨gP, 0, none⟩) (P.length + 1) cP2) (P ++ [23130])) := hide_ (own_base (HI12.out.upd hu9 (fun k hk e => by
              subst e
              obtain ⟨zs, hz⟩ := ownS_type HI12.out hk
              exact absurd (blk_type k9 hz) (by decide))) hzy)
            clear k9 hu9
            go_simp
            refine hK.out _ _ ?_
            clear hK K
            refine wpAnyF_done (by kernel_rfl) ?_ _
            clear HSS hHeld
            go_wp2
            exact retLn rfl rfl HK.out ⟨g8, c8, Q, gR, cR', gV, cV2, gP, cP2, rfl, HL9, HQe, HV9, HI9, HBf⟩
          refine AllReadyF.cons rfl (fun K hK => ?_) AllReadyF.nil
          go_simp
          have kI := Blk.newA wc1 #[.int .i64 23130] 3
          have hbm := below1 wc1 (.cells #[.int .i64 23130] 3)
          obtain ⟨wc2, hwd⟩ : ∃ wx, wx = wc1.alloc (.cells #[.int .i64 23130] 3) := ⟨_, rfl⟩
          rw [← hwd] at kI hbm ⊢
          obtain ⟨gI, hgI⟩ : ∃ g, wc1.heap.size = g := ⟨_, rfl⟩
          rw [hgI] at kI ⊢
          have KI := hide_ kI
          have HBc2 := hide_ (below_to HBc1.out hbm)
          have KM := hide_ (KM.out.later hbm)
          clear hwd kI hbm hgI HBc1
          refine hK.out _ _ (HSS.out _ HBc2.out) (fun hHeld => ?_)
          clear hK K
          refine wpAnyF_ready (rs := [2]) (by kernel_rfl) (by simp) ?_
          refine AllReadyF.cons rfl (fun K hK => ?_) AllReadyF.nil
          obtain ⟨vn, wc3, hrn, hon, hbn⟩ := run_copyG (P := Tryd.prog) nvc_len nvc_one Tryd.underlying31 infoN rfl (by decide) wc2 aV V.length cV V rfl (HVy.out.later HBc2.out) hvn (by unfold maxLen; omega) (by omega)
          have HRn := hide_ hrn
          have HVn : Hid (NOwn wc3 wy.heap.size vn V) := hide_ (own_base hon HBc2.out.size)
          have HBc3 := hide_ (below_to HBc2.out hbn)
          have KM := hide_ (KM.out.later hbn)
          have KI := hide_ (KI.out.later hbn)
          refine step_append_run rfl (.const (.slice none 0 0)) (.tmp 61) 31 31 rfl (v := .slice none 0 0) (u := .slice aV V.length cV) (by kernel_rfl) (by kernel_rfl) HRn.out ?_
          clear hrn hon hbn HRn
          refine hK.out _ _ (HSS.out _ HBc3.out) (fun hHeld => ?_)
          clear hK K
          refine wpAnyF_ready (rs := [5]) (by kernel_rfl) (by simp) ?_
          refine AllReadyF.cons rfl (fun K hK => ?_) AllReadyF.nil
          obtain ⟨gV, cV2, wc4, hr5, ho5, hu5, -, hcv5, -⟩ := run_app1 (P := Tryd.prog) nvc_len nvc_one Tryd.underlying31 infoN rfl (by decide) wc3 HVn.out gM mqN KM.out (by unfold maxLen; omega) (by omega) HBc3.out.size
          have HR5 := hide_ hr5
          have HV5 : Hid (NOwn wc4 wy.heap.size (.slice (some ⟨gV, 0, none⟩) (V.length + 1) cV2) (V ++ [mqN])) := hide_ ho5
          have HBc4 := hide_ (HBc3.out.trans (hu5.below _ HBc3.out.size (fun k hk => (HVn.out.lt k hk).1)))
          have hcv5' : (V.length : Int) ≤ cV2 := by omega
          have KI := hide_ (KI.out.upd hu5 (HVn.out.ne KI.out (by decide)))
          refine step_append_run rfl (.tmp 62) (.tmp 64) 31 31 rfl (v := vn) (u := .slice (some ⟨gM, 0, none⟩) 1 1) (by kernel_rfl) (by kernel_rfl) HR5.out ?_
          clear hr5 ho5 hu5 hcv5 HR5 HBc3 HVn KM
          refine hK.out _ _ (HSS.out _ HBc4.out) (fun hHeld => ?_)
          clear hK K
          refine wpAnyF_take [17] (by kernel_rfl) (i := 8) (v := ?vt28) rfl (by kernel_rfl) (by kernel_rfl) (by kernel_rfl) (fun _ _ _ h => h) (Or.inl ⟨by kernel_rfl, ?hyt28⟩) hHeld ?restt28
          case hyt28 => intro w' hSw; (try dsimp only at hSw); go_simp; try with_reducible rfl
          simp only [Act.put]
          refine wpAnyF_ready (rs := [10]) (by kernel_rfl) (by simp) ?_
          refine AllReadyF.cons rfl (fun K hK => ?_) AllReadyF.nil
          obtain ⟨vi, wc5, hri, hoi, hgi⟩ := run_copy elI wc4 26 wc4.heap.size aP P.length cP P rfl (HPy.out.later HBc4.out) hpn (by unfold maxLen; omega) (by omega) (Nat.le_refl _)
          have hbi : Below wc4.heap.size wc4 wc5 := ((Upd.refl (fun _ => False) wc4).grown hgi (fun k hk => by cases hk)).below _ (Nat.le_refl _) (fun k hk => hk.elim)
          have HRi := hide_ hri
          have HIi : Hid (IOwn wc5 wy.heap.size vi P) := hide_ (own_base hoi HBc4.out.size)
          have HBc5 := hide_ (below_to HBc4.out hbi)
          have HV5 := hide_ (HV5.out.later hbi)
          have KI := hide_ (KI.out.later hbi)
          refine step_append_run rfl (.const (.slice none 0 0)) (.tmp 69) 26 26 rfl (v := .slice none 0 0) (u := .slice aP P.length cP) (by kernel_rfl) (by kernel_rfl) HRi.out ?_
          clear hri hoi hgi hbi HRi HBc4
          refine hK.out _ _ (HSS.out _ HBc5.out) (fun hHeld => ?_)
          clear hK K
          refine wpAnyF_ready (rs := [12]) (by kernel_rfl) (by simp) ?_
          refine AllReadyF.cons rfl (fun K hK => ?_) AllReadyF.nil
          obtain ⟨vp, wc6, hrp, hop, hgp⟩ := run_app elI wc5 26 wy.heap.size vi P.length P HIi.out (some ⟨gI, 0, none⟩) 1 1 [23130] rfl (KI.out.row (l := [23130])) (fun h => by cases h) (by unfold maxLen; omega) (by omega) HBc5.out.size
          have hup : Upd (fun k => vi.ownBlock = some k) wc5 wc6 := (Upd.refl _ wc5).grown hgp (fun k hk => .inl hk)
          have HRp := hide_ hrp
          have hop2 : IOwn wc6 wy.heap.size vp (P ++ [23130]) := by unfold IOwn; rw [List.length_append, List.length_singleton]; exact hop
          obtain ⟨gP, cP2, ysP, evp, -, hcp, -, -, -, -⟩ := ownS_blk hop2 (by simp)
          rw [List.length_append, List.length_singleton] at evp hcp
          subst evp
          have HI12 := hide_ hop2
          have HBc6 := hide_ (HBc5.out.trans (hup.below _ HBc5.out.size (fun k hk => (HIi.out.lies hk).1)))
          have HV5 := hide_ (HV5.out.upd hup (fun k hk e => by
            obtain ⟨zs, hz⟩ := ownS_type HIi.out e
            exact HV5.out.ne hz (by decide) hk))
          have hcp' : (P.length : Int) ≤ cP2 := by omega
          refine step_append_run rfl (.tmp 70) (.tmp 71) 26 26 rfl (v := vi) (u := .slice (some ⟨gI, 0, none⟩) 1 1) (by kernel_rfl) (by kernel_rfl) HRp.out ?_
          clear hrp hop hgp hup HRp hop2 hcp HBc5 HIi KI ysP
          refine hK.out _ _ (HSS.out _ HBc6.out) (fun hHeld => ?_)
          clear hK K
          refine wpAnyF_take [17] (by kernel_rfl) (i := 15) (v := ?vt29) rfl (by kernel_rfl) (by kernel_rfl) (by kernel_rfl) (fun _ _ _ h => h) (Or.inl ⟨by kernel_rfl, ?hyt29⟩) hHeld ?restt29
          case hyt29 => intro w' hSw; (try dsimp only at hSw); go_simp; try with_reducible rfl
          simp only [Act.put]
          refine wpAnyF_take [17] (by kernel_rfl) (i := 16) (v := ?vt30) rfl (by kernel_rfl) (by kernel_rfl) (by kernel_rfl) (fun _ _ _ h => h) (Or.inl ⟨by kernel_rfl, ?hyt30⟩) hHeld ?restt30
          case hyt30 => intro w' hSw; (try dsimp only at hSw); go_simp; try with_reducible rfl
          simp only [Act.put]
          refine wpAnyF_ready (rs := [17]) (by kernel_rfl) (by simp) ?_
          refine AllReadyF.last rfl (fun K hK => ?_)
          have k9 := KRy.out.later HBc6.out
          have z0 := k9.cell 0; have z1 := k9.cell 1; have z2 := k9.cell 2; have z3 := k9.cell 3
          have zf := fun i => k9.frozen i
          simp at z0 z1 z2 z3
          have HK := hide_ (wr4 k9 (.slice (some ⟨g8, 0, none⟩) T.length c8) (.slice (some ⟨gR, 0, none⟩) R.length cR') (.slice (some ⟨gV, 0, none⟩) V.length cV2) (.slice (some ⟨gP, 0, none⟩) P.length cP2))
          have hu9 : Upd (fun k => k = w.heap.size + 1) wc6 ((((wc6.setCell ⟨w.heap.size + 1, 0, none⟩ (.slice (some ⟨g8, 0, none⟩) T.length c8)).setCell ⟨w.heap.size + 1, 1, none⟩ (.slice (some ⟨gR, 0, none⟩) R.length cR')).setCell ⟨w.heap.size + 1, 2, none⟩ (.slice (some ⟨gV, 0, none⟩) V.length cV2)).setCell ⟨w.heap.size + 1, 3, none⟩ (.slice (some ⟨gP, 0, none⟩) P.length cP2)) := (((((Upd.refl (fun k => k = w.heap.size + 1) wc6).set _ _ (.inl rfl)).set _ _ (.inl rfl)).set _ _ (.inl rfl)).set _ _ (.inl rfl))
          have hzy : w.heap.size ≤ wy.heap.size := HBy.out.size
          have HBf := hide_ ((below_to HBy.out HBc6.out).trans (hu9.below w.heap.size (below_to HBy.out HBc6.out).size (fun k hk => by omega)))
          have HL9 := hide_ ((HLy.out.later HBc6.out).updN hu9 k9 (by omega) (by decide) (by decide) (by decide))
          have HV9 : Hid (NOwn _ w.heap.size (.slice (some ⟨gV, 0, none⟩) (V.length + 1) cV2) (V ++ [mqN])) := hide_ (own_base (HV5.out.upd hu9 (fun k hk e => by subst e; exact HV5.out.ne k9 (by decide) hk)) hzy)
          have HI9 : Hid (IOwn _ w.heap.size (.slice (some ⟨gP, 0, none⟩) (P.length + 1) cP2) (P ++ [23130])) := hide_ (own_base (HI12.out.upd hu9 (fun k hk e => by
            subst e
            obtain ⟨zs, hz⟩ := ownS_type HI12.out hk
            exact absurd (blk_type k9 hz) (by decide))) hzy)
          clear k9 hu9
          go_simp
          refine hK.out _ _ ?_
          clear hK K
          refine wpAnyF_done (by kernel_rfl) ?_ _
          clear HSS hHeld
          go_wp2
          exact retLn rfl rfl HK.out ⟨g8, c8, Q, gR, cR', gV, cV2, gP, cP2, rfl, HL9, HQe, HV9, HI9, HBf⟩
        refine AllReadyF.cons rfl (fun K hK => ?_) AllReadyF.nil
        go_simp
        have kI := Blk.newA wc0 #[.int .i64 23130] 3
        have hbm := below1 wc0 (.cells #[.int .i64 23130] 3)
        obtain ⟨wc1, hwd⟩ : ∃ wx, wx = wc0.alloc (.cells #[.int .i64 23130] 3) := ⟨_, rfl⟩
        rw [← hwd] at kI hbm ⊢
        obtain ⟨gI, hgI⟩ : ∃ g, wc0.heap.size = g := ⟨_, rfl⟩
        rw [hgI] at kI ⊢
        have KI := hide_ kI
        have HBc1 := hide_ (below_to HBc0.out hbm)
        clear hwd kI hbm hgI HBc0
        refine hK.out _ _ (HSS.out _ HBc1.out) (fun hHeld => ?_)
        clear hK K
        refine wpAnyF_ready (rs := [2, 4]) (by kernel_rfl) (by simp) ?_
        refine AllReadyF.cons rfl (fun K hK => ?_) ?_
        · obtain ⟨vn, wc2, hrn, hon, hbn⟩ := run_copyG (P := Tryd.prog) nvc_len nvc_one Tryd.underlying31 infoN rfl (by decide) wc1 aV V.length cV V rfl (HVy.out.later HBc1.out) hvn (by unfold maxLen; omega) (by omega)
          have HRn := hide_ hrn
          have HVn : Hid (NOwn wc2 wy.heap.size vn V) := hide_ (own_base hon HBc1.out.size)
          have HBc2 := hide_ (below_to HBc1.out hbn)
          have KI := hide_ (KI.out.later hbn)
          refine step_append_run rfl (.const (.slice none 0 0)) (.tmp 61) 31 31 rfl (v := .slice none 0 0) (u := .slice aV V.length cV) (by kernel_rfl) (by kernel_rfl) HRn.out ?_
          clear hrn hon hbn HRn
          refine hK.out _ _ (HSS.out _ HBc2.out) (fun hHeld => ?_)
          clear hK K
          refine wpAnyF_ready (rs := [4]) (by kernel_rfl) (by simp) ?_
          refine AllReadyF.cons rfl (fun K hK => ?_) AllReadyF.nil
          go_simp
          have kM := Blk.newA wc2 #[.int .i64 23130, .int .u64 0, .int .i64 0] 49
          have hbm := below1 wc2 (.cells #[.int .i64 23130, .int .u64 0, .int .i64 0] 49)
          obtain ⟨wc3, hwd⟩ : ∃ wx, wx = wc2.alloc (.cells #[.int .i64 23130, .int .u64 0, .int .i64 0] 49) := ⟨_, rfl⟩
          rw [← hwd] at kM hbm ⊢
          obtain ⟨gM, hgM⟩ : ∃ g, wc2.heap.size = g := ⟨_, rfl⟩
          rw [hgM] at kM ⊢
          have KM := hide_ kM
          have HBc3 := hide_ (below_to HBc2.out hbm)
          have HVn := hide_ (HVn.out.later hbm)
          have KI := hide_ (KI.out.later hbm)
          clear hwd kM hbm hgM HBc2
          refine hK.out _ _ (HSS.out _ HBc3.out) (fun hHeld => ?_)
          clear hK K
          refine wpAnyF_ready (rs := [5]) (by kernel_rfl) (by simp) ?_
          refine AllReadyF.cons rfl (fun K hK => ?_) AllReadyF.nil
          obtain ⟨gV, cV2, wc4, hr5, ho5, hu5, -, hcv5, -⟩ := run_app1 (P := Tryd.prog) nvc_len nvc_one Tryd.underlying31 infoN rfl (by decide) wc3 HVn.out gM mqN KM.out (by unfold maxLen; omega) (by omega) HBc3.out.size
          have HR5 := hide_ hr5
          have HV5 : Hid (NOwn wc4 wy.heap.size (.slice (some ⟨gV, 0, none⟩) (V.length + 1) cV2) (V ++ [mqN])) := hide_ ho5
          have HBc4 := hide_ (HBc3.out.trans (hu5.below _ HBc3.out.size (fun k hk => (HVn.out.lt k hk).1)))
          have hcv5' : (V.length : Int) ≤ cV2 := by omega
          have KI := hide_ (KI.out.upd hu5 (HVn.out.ne KI.out (by decide)))
          refine step_append_run rfl (.tmp 62) (.tmp 64) 31 31 rfl (v := vn) (u := .slice (some ⟨gM, 0, none⟩) 1 1) (by kernel_rfl) (by kernel_rfl) HR5.out ?_
          clear hr5 ho5 hu5 hcv5 HR5 HBc3 HVn KM
          refine hK.out _ _ (HSS.out _ HBc4.out) (fun hHeld => ?_)
          clear hK K
          refine wpAnyF_take [17] (by kernel_rfl) (i := 8) (v := ?vt31) rfl (by kernel_rfl) (by kernel_rfl) (by kernel_rfl) (fun _ _ _ h => h) (Or.inl ⟨by kernel_rfl, ?hyt31⟩) hHeld ?restt31
          case hyt31 => intro w' hSw; (try dsimp only at hSw); go_simp; try with_reducible rfl
          simp only [Act.put]
          refine wpAnyF_ready (rs := [10]) (by kernel_rfl) (by simp) ?_
          refine AllReadyF.cons rfl (fun K hK => ?_) AllReadyF.nil
          obtain ⟨vi, wc5, hri, hoi, hgi⟩ := run_copy elI wc4 26 wc4.heap.size aP P.length cP P rfl (HPy.out.later HBc4.out) hpn (by unfold maxLen; omega) (by omega) (Nat.le_refl _)
          have hbi : Below wc4.heap.size wc4 wc5 := ((Upd.refl (fun _ => False) wc4).grown hgi (fun k hk => by cases hk)).below _ (Nat.le_refl _) (fun k hk => hk.elim)
          have HRi := hide_ hri
          have HIi : Hid (IOwn wc5 wy.heap.size vi P) := hide_ (own_base hoi HBc4.out.size)
          have HBc5 := hide_ (below_to HBc4.out hbi)
          have HV5 := hide_ (HV5.out.later hbi)
          have KI := hide_ (KI.out.later hbi)
          refine step_append_run rfl (.const (.slice none 0 0)) (.tmp 69) 26 26 rfl (v := .slice none 0 0) (u := .slice aP P.length cP) (by kernel_rfl) (by kernel_rfl) HRi.out ?_
          clear hri hoi hgi hbi HRi HBc4
          refine hK.out _ _ (HSS.out _ HBc5.out) (fun hHeld => ?_)
          clear hK K
          refine wpAnyF_ready (rs := [12]) (by kernel_rfl) (by simp) ?_
          refine AllReadyF.cons rfl (fun K hK => ?_) AllReadyF.nil
          obtain ⟨vp, wc6, hrp, hop, hgp⟩ := run_app elI wc5 26 wy.heap.size vi P.length P HIi.out (some ⟨gI, 0, none⟩) 1 1 [23130] rfl (KI.out.row (l := [23130])) (fun h => by cases h) (by unfold maxLen; omega) (by omega) HBc5.out.size
          have hup : Upd (fun k => vi.ownBlock = some k) wc5 wc6 := (Upd.refl _ wc5).grown hgp (fun k hk => .inl hk)
          have HRp := hide_ hrp
          have hop2 : IOwn wc6 wy.heap.size vp (P ++ [23130]) := by unfold IOwn; rw [List.length_append, List.length_singleton]; exact hop
          obtain ⟨gP, cP2, ysP, evp, -, hcp, -, -, -, -⟩ := ownS_blk hop2 (by simp)
          rw [List.length_append, List.length_singleton] at evp hcp
          subst evp
          have HI12 := hide_ hop2
          have HBc6 := hide_ (HBc5.out.trans (hup.below _ HBc5.out.size (fun k hk => (HIi.out.lies hk).1)))
          have HV5 := hide_ (HV5.out.upd hup (fun k hk e => by
            obtain ⟨zs, hz⟩ := ownS_type HIi.out e
            exact HV5.out.ne hz (by decide) hk))
          have hcp' : (P.length : Int) ≤ cP2 := by omega
          refine step_append_run rfl (.tmp 70) (.tmp 71) 26 26 rfl (v := vi) (u := .slice (some ⟨gI, 0, none⟩) 1 1) (by kernel_rfl) (by kernel_rfl) HRp.out ?_
          clear hrp hop hgp hup HRp hop2 hcp HBc5 HIi KI ysP
          refine hK.out _ _ (HSS.out _ HBc6.out) (fun hHeld => ?_)
          clear hK K
          refine wpAnyF_take [17] (by kernel_rfl) (i := 15) (v := ?vt32) rfl (by kernel_rfl) (by kernel_rfl) (by kernel_rfl) (fun _ _ _ h => h) (Or.inl ⟨by kernel_rfl, ?hyt32⟩) hHeld ?restt32
          case hyt32 => intro w' hSw; (try dsimp only at hSw); go_simp; try with_reducible rfl
          simp only [Act.put]
          refine wpAnyF_take [17] (by kernel_rfl) (i := 16) (v := ?vt33) rfl (by kernel_rfl) (by kernel_rfl) (by kernel_rfl) (fun _ _ _ h => h) (Or.inl ⟨by kernel_rfl, ?hyt33⟩) hHeld ?restt33
          case hyt33 => intro w' hSw; (try dsimp only at hSw); go_simp; try with_reducible rfl
          simp only [Act.put]
          refine wpAnyF_ready (rs := [17]) (by kernel_rfl) (by simp) ?_
          refine AllReadyF.last rfl (fun K hK => ?_)
          have k9 := KRy.out.later HBc6.out
          have z0 := k9.cell 0; have z1 := k9.cell 1; have z2 := k9.cell 2; have z3 := k9.cell 3
          have zf := fun i => k9.frozen i
          simp at z0 z1 z2 z3
          have HK := hide_ (wr4 k9 (.slice (some ⟨g8, 0, none⟩) T.length c8) (.slice (some ⟨gR, 0, none⟩) R.length cR') (.slice (some ⟨gV, 0, none⟩) V.length cV2) (.slice (some ⟨gP, 0, none⟩) P.length cP2))
          have hu9 : Upd (fun k => k = w.heap.size + 1) wc6 ((((wc6.setCell ⟨w.heap.size + 1, 0, none⟩ (.slice (some ⟨g8, 0, none⟩) T.length c8)).setCell ⟨w.heap.size + 1, 1, none⟩ (.slice (some ⟨gR, 0, none⟩) R.length cR')).setCell ⟨w.heap.size + 1, 2, none⟩ (.slice (some ⟨gV, 0, none⟩) V.length cV2)).setCell ⟨w.heap.size + 1, 3, none⟩ (.slice (some ⟨gP, 0, none⟩) P.length cP2)) := (((((Upd.refl (fun k => k = w.heap.size + 1) wc6).set _ _ (.inl rfl)).set _ _ (.inl rfl)).set _ _ (.inl rfl)).set _ _ (.inl rfl))
          have hzy : w.heap.size ≤ wy.heap.size := HBy.out.size
          have HBf := hide_ ((below_to HBy.out HBc6.out).trans (hu9.below w.heap.size (below_to HBy.out HBc6.out).size (fun k hk => by omega)))
          have HL9 := hide_ ((HLy.out.later HBc6.out).updN hu9 k9 (by omega) (by decide) (by decide) (by decide))
          have HV9 : Hid (NOwn _ w.heap.size (.slice (some ⟨gV, 0, none⟩) (V.length + 1) cV2) (V ++ [mqN])) := hide_ (own_base (HV5.out.upd hu9 (fun k hk e => by subst e; exact HV5.out.ne k9 (by decide) hk)) hzy)
          have HI9 : Hid (IOwn _ w.heap.size (.slice (some ⟨gP, 0, none⟩) (P.length + 1) cP2) (P ++ [23130])) := hide_ (own_base (HI12.out.upd hu9 (fun k hk e => by
            subst e
            obtain ⟨zs, hz⟩ := ownS_type HI12.out hk
            exact absurd (blk_type k9 hz) (by decide))) hzy)
          clear k9 hu9
          go_simp
          refine hK.out _ _ ?_
          clear hK K
          refine wpAnyF_done (by kernel_rfl) ?_ _
          clear HSS hHeld
          go_wp2
          exact retLn rfl rfl HK.out ⟨g8, c8, Q, gR, cR', gV, cV2, gP, cP2, rfl, HL9, HQe, HV9, HI9, HBf⟩
        refine AllReadyF.cons rfl (fun K hK => ?_) AllReadyF.nil
        go_simp
        have kM := Blk.newA wc1 #[.int .i64 23130, .int .u64 0, .int .i64 0] 49
        have hbm := below1 wc1 (.cells #[.int .i64 23130, .int .u64 0, .int .i64 0] 49)
        obtain ⟨wc2, hwd⟩ : ∃ wx, wx = wc1.alloc (.cells #[.int .i64 23130, .int .u64 0, .int .i64 0] 49) := ⟨_, rfl⟩
        rw [← hwd] at kM hbm ⊢
        obtain ⟨gM, hgM⟩ : ∃ g, wc1.heap.size = g := ⟨_, rfl⟩
        rw [hgM] at kM ⊢
        have KM := hide_ kM
        have HBc2 := hide_ (below_to HBc1.out hbm)
        have KI := hide_ (KI.out.later hbm)
        clear hwd kM hbm hgM HBc1
        refine hK.out _ _ (HSS.out _ HBc2.out) (fun hHeld => ?_)
        clear hK K
        refine wpAnyF_ready (rs := [2]) (by kernel_rfl) (by simp) ?_
        refine AllReadyF.cons rfl (fun K hK => ?_) AllReadyF.nil
        obtain ⟨vn, wc3, hrn, hon, hbn⟩ := run_copyG (P := Tryd.prog) nvc_len nvc_one Tryd.underlying31 infoN rfl (by decide) wc2 aV V.length cV V rfl (HVy.out.later HBc2.out) hvn (by unfold maxLen; omega) (by omega)
        have HRn := hide_ hrn
        have HVn : Hid (NOwn wc3 wy.heap.size vn V) := hide_ (own_base hon HBc2.out.size)
        have HBc3 := hide_ (below_to HBc2.out hbn)
        have KM := hide_ (KM.out.later hbn)
        have KI := hide_ (KI.out.later hbn)
        refine step_append_run rfl (.const (.slice none 0 0)) (.tmp 61) 31 31 rfl (v := .slice none 0 0) (u := .slice aV V.length cV) (by kernel_rfl) (by kernel_rfl) HRn.out ?_
        clear hrn hon hbn HRn
        refine hK.out _ _ (HSS.out _ HBc3.out) (fun hHeld => ?_)
        clear hK K
        refine wpAnyF_ready (rs := [5]) (by kernel_rfl) (by simp) ?_
        refine AllReadyF.cons rfl (fun K hK => ?_) AllReadyF.nil
        obtain ⟨gV, cV2, wc4, hr5, ho5, hu5, -, hcv5, -⟩ := run_app1 (P := Tryd.prog) nvc_len nvc_one Tryd.underlying31 infoN rfl (by decide) wc3 HVn.out gM mqN KM.out (by unfold maxLen; omega) (by omega) HBc3.out.size
        have HR5 := hide_ hr5
        have HV5 : Hid (NOwn wc4 wy.heap.size (.slice (some ⟨gV, 0, none⟩) (V.length + 1) cV2) (V ++ [mqN])) := hide_ ho5
        have HBc4 := hide_ (HBc3.out.trans (hu5.below _ HBc3.out.size (fun k hk => (HVn.out.lt k hk).1)))
        have hcv5' : (V.length : Int) ≤ cV2 := by omega
        have KI := hide_ (KI.out.upd hu5 (HVn.out.ne KI.out (by decide)))
        refine step_append_run rfl (.tmp 62) (.tmp 64) 31 31 rfl (v := vn) (u := .slice (some ⟨gM, 0, none⟩) 1 1) (by kernel_rfl) (by kernel_rfl) HR5.out ?_
        clear hr5 ho5 hu5 hcv5 HR5 HBc3 HVn KM
        refine hK.out _ _ (HSS.out _ HBc4.out) (fun hHeld => ?_)
        clear hK K
        refine wpAnyF_take [17] (by kernel_rfl) (i := 8) (v := ?vt34) rfl (by kernel_rfl) (by kernel_rfl) (by kernel_rfl) (fun _ _ _ h => h) (Or.inl ⟨by kernel_rfl, ?hyt34⟩) hHeld ?restt34
        case hyt34 => intro w' hSw; (try dsimp only at hSw); go_simp; try with_reducible rfl
        simp only [Act.put]
        refine wpAnyF_ready (rs := [10]) (by kernel_rfl) (by simp) ?_
        refine AllReadyF.cons rfl (fun K hK => ?_) AllReadyF.nil
        obtain ⟨vi, wc5, hri, hoi, hgi⟩ := run_copy elI wc4 26 wc4.heap.size aP P.length cP P rfl (HPy.out.later HBc4.out) hpn (by unfold maxLen; omega) (by omega) (Nat.le_refl _)
        have hbi : Below wc4.heap.size wc4 wc5 := ((Upd.refl (fun _ => False) wc4).grown hgi (fun k hk => by cases hk)).below _ (Nat.le_refl _) (fun k hk => hk.elim)
        have HRi := hide_ hri
        have HIi : Hid (IOwn wc5 wy.heap.size vi P) := hide_ (own_base hoi HBc4.out.size)
        have HBc5 := hide_ (below_to HBc4.out hbi)
        have HV5 := hide_ (HV5.out.later hbi)
        have KI := hide_ (KI.out.later hbi)
        refine step_append_run rfl (.const (.slice none 0 0)) (.tmp 69) 26 26 rfl (v := .slice none 0 0) (u := .slice aP P.length cP) (by kernel_rfl) (by kernel_rfl) HRi.out ?_
        clear hri hoi hgi hbi HRi HBc4
        refine hK.out _ _ (HSS.out _ HBc5.out) (fun hHeld => ?_)
        clear hK K
        refine wpAnyF_ready (rs := [12]) (by kernel_rfl) (by simp) ?_
        refine AllReadyF.cons rfl (fun K hK => ?_) AllReadyF.nil
        obtain ⟨vp, wc6, hrp, hop, hgp⟩ := run_app elI wc5 26 wy.heap.size vi P.length P HIi.out (some ⟨gI, 0, none⟩) 1 1 [23130] rfl (KI.out.row (l := [23130])) (fun h => by cases h) (by unfold maxLen; omega) (by omega) HBc5.out.size
        have hup : Upd (fun k => vi.ownBlock = some k) wc5 wc6 := (Upd.refl _ wc5).grown hgp (fun k hk => .inl hk)
        have HRp := hide_ hrp
        have hop2 : IOwn wc6 wy.heap.size vp (P ++ [23130]) := by unfold IOwn; rw [List.length_append, List.length_singleton]; exact hop
        obtain ⟨gP, cP2, ysP, evp, -, hcp, -, -, -, -⟩ := ownS_blk hop2 (by simp)
        rw [List.length_append, List.length_singleton] at evp hcp
        subst evp
        have HI12 := hide_ hop2
        have HBc6 := hide_ (HBc5.out.trans (hup.below _ HBc5.out.size (fun k hk => (HIi.out.lies hk).1)))
        have HV5 := hide_ (HV5.out.upd hup (fun k hk e => by
          obtain ⟨zs, hz⟩ := ownS_type HIi.out e
          exact HV5.out.ne hz (by decide) hk))
        have hcp' : (P.length : Int) ≤ cP2 := by omega
        refine step_append_run rfl (.tmp 70) (.tmp 71) 26 26 rfl (v := vi) (u := .slice (some ⟨gI, 0, none⟩) 1 1) (by kernel_rfl) (by kernel_rfl) HRp.out ?_
        clear hrp hop hgp hup HRp hop2 hcp HBc5 HIi KI ysP
        refine hK.out _ _ (HSS.out _ HBc6.out) (fun hHeld => ?_)
        clear hK K
        refine wpAnyF_take [17] (by kernel_rfl) (i := 15) (v := ?vt35) rfl (by kernel_rfl) (by kernel_rfl) (by kernel_rfl) (fun _ _ _ h => h) (Or.inl ⟨by kernel_rfl, ?hyt35⟩) hHeld ?restt35
        case hyt35 => intro w' hSw; (try dsimp only at hSw); go_simp; try with_reducible rfl
        simp only [Act.put]
        refine wpAnyF_take [17] (by kernel_rfl) (i := 16) (v := ?vt36) rfl (by kernel_rfl) (by kernel_rfl) (by kernel_rfl) (fun _ _ _ h => h) (Or.inl ⟨by kernel_rfl, ?hyt36⟩) hHeld ?restt36
        case hyt36 => intro w' hSw; (try dsimp only at hSw); go_simp; try with_reducible rfl
        simp only [Act.put]
        refine wpAnyF_ready (rs := [17]) (by kernel_rfl) (by simp) ?_
        refine AllReadyF.last rfl (fun K hK => ?_)
        have k9 := KRy.out.later HBc6.out
        have z0 := k9.cell 0; have z1 := k9.cell 1; have z2 := k9.cell 2; have z3 := k9.cell 3
        have zf := fun i => k9.frozen i
        simp at z0 z1 z2 z3
        have HK := hide_ (wr4 k9 (.slice (some ⟨g8, 0, none⟩) T.length c8) (.slice (some ⟨gR, 0, none⟩) R.length cR') (.slice (some ⟨gV, 0, none⟩) V.length cV2) (.slice (some ⟨gP, 0, none⟩) P.length cP2))
        have hu9 : Upd (fun k => k = w.heap.size + 1) wc6 ((((wc6.setCell ⟨w.heap.size + 1, 0, none⟩ (.slice (some ⟨g8, 0, none⟩) T.length c8)).setCell ⟨w.heap.size + 1, 1, none⟩ (.slice (some ⟨gR, 0, none⟩) R.length cR')).setCell ⟨w.heap.size + 1, 2, none⟩ (.slice (some ⟨gV, 0, none⟩) V.length cV2)).setCell ⟨w.heap.size + 1, 3, none⟩ (.slice (some ⟨gP, 0, none⟩) P.length cP2)) := (((((Upd.refl (fun k => k = w.heap.size + 1) wc6).set _ _ (.inl rfl)).set _ _ (.inl rfl)).set _ _ (.inl rfl)).set _ _ (.inl rfl))
        have hzy : w.heap.size ≤ wy.heap.size := HBy.out.size
        have HBf := hide_ ((below_to HBy.out HBc6.out).trans (hu9.below w.heap.size (below_to HBy.out HBc6.out).size (fun k hk => by omega)))
        have HL9 := hide_ ((HLy.out.later HBc6.out).updN hu9 k9 (by omega) (by decide) (by decide) (by decide))
        have HV9 : Hid (NOwn _ w.heap.size (.slice (some ⟨gV, 0, none⟩) (V.length + 1) cV2) (V ++ [mqN])) := hide_ (own_base (HV5.out.upd hu9 (fun k hk e => by subst e; exact HV5.out.ne k9 (by decide) hk)) hzy)
        have HI9 : Hid (IOwn _ w.heap.size (.slice (some ⟨gP, 0, none⟩) (P.length + 1) cP2) (P ++ [23130])) := hide_ (own_base (HI12.out.upd hu9 (fun k hk e => by
          subst e
          obtain ⟨zs, hz⟩ := ownS_type HI12.out hk
          exact absurd (blk_type k9 hz) (by decide))) hzy)
        clear k9 hu9
        go_simp
        refine hK.out _ _ ?_
        clear hK K
        refine wpAnyF_done (by kernel_rfl) ?_ _
        clear HSS hHeld
        go_wp2
        exact retLn rfl rfl HK.out ⟨g8, c8, Q, gR, cR', gV, cV2, gP, cP2, rfl, HL9, HQe, HV9, HI9, HBf⟩
end Go.Proofs.YtomfidjmbjpceaaDoor
