/- Code: the reader's program. -/
import Derived.Test.YteadmiikenpjeaaDoorCdm
namespace Go.Proofs.YteadmiikenpjeaaDoor
open Go.RowKit
set_option linter.unusedVariables false

section
variable {w0 w : World} {gr gp : Nat} {v : Value} {s : Rs} {enc : Bool} {vE vC vX vN : Value} {ea ca : List Int} {X : List In} {N : List Int}
theorem PgM.setP (h : PgM w0 w gr gp v s enc vE vC vX vN ea ca X N) {w' : World} {e' : Bool} (hu : Upd (fun k => k = gp) w w') (hk : Blk w' gp 25 [.bool e', vX, vN]) : PgM w0 w' gr gp v s e' vE vC vX vN ea ca X N := by
  have hlr := h.lr
  have hlp := h.lp
  exact ⟨h.rd.upd hu (fun e => by omega), hk, h.oE.upd hu (fun k e hk => by subst hk; exact notI h.oE h.pr (by decide) e), h.oC.upd hu (fun k e hk => by subst hk; exact notI h.oC h.pr (by decide) e), ownS_upd h.oX hu (fun k e hk => by subst hk; exact notC h.oX h.pr (by decide) e), h.oN.upd hu (fun k e hk => by subst hk; exact notI h.oN h.pr (by decide) e), h.aEN, h.aEC, h.aNC, h.up.trans hu (fun k hk e => by omega), h.lr, h.lp⟩
theorem PgM.same3 (h : PgM w0 w gr gp v s enc vE vC vX vN ea ca X N) : PgM w0 (((w.setCell ⟨gp, 0, none⟩ (.bool enc)).setCell ⟨gp, 1, none⟩ vX).setCell ⟨gp, 2, none⟩ vN) gr gp v s enc vE vC vX vN ea ca X N := by
  refine h.setP ((((Upd.refl (fun k => k = gp) w).set ⟨gp, 0, none⟩ (.bool enc) (.inl rfl)).set ⟨gp, 1, none⟩ vX (.inl rfl)).set ⟨gp, 2, none⟩ vN (.inl rfl)) ?_
  have := ((h.pr.set 0 (.bool enc)).set 1 vX).set 2 vN
  simpa using this
end
theorem retPr {fn : Func} {p : Tmp} (h : fn.results = #[.cell p 25]) {R : Ending → World → Prop} {tmps : Array Value} {g : Nat} {w : World} {x y z : Value} (hp : tmps.getD p undef = .pointer (some ⟨g, 0, none⟩)) (hK : Blk w g 25 [x, y, z]) (hR : R (.returned (.agg #[x, y, z])) w) :
    bodyPost Tryd.prog fn R Exit.ret ⟨tmps, []⟩ w :=
  bodyPost_ret (results_cell_row h _ _ _ _ #[x, y, z] _ _ hp (show w.heap[g]? = some (.cells #[x, y, z] 25 (0, 0)) from hK) Tryd.underlying25 rfl (by show _ = some 3; kernel_rfl)) rfl hR
theorem rdO_at (l : List Int) (s : Rs) (lo hi : Int) (h : s.at_ ≤ l.length) : (rdO l s lo hi).2.at_ ≤ l.length := by
  unfold rdO
  by_cases h0 : s.e = 0
  · rw [if_pos h0]
    by_cases h1 : s.at_ = l.length
    · rw [if_pos h1]; exact h
    · rw [if_neg h1]
      simp only
      split
      · show s.at_ + 1 ≤ l.length; omega
      · show s.at_ + 1 ≤ l.length; omega
  · rw [if_neg h0]; exact h
theorem rdI_at (l : List Int) (enc : Bool) (s : Rs) (h : s.at_ ≤ l.length) : (rdI l enc s).2.at_ ≤ l.length := by
  rw [rdI_is]
  exact stJ_at l _ _ (rdV_at l s 140 _ h) 3
theorem rdM_at {α : Type} (l : List Int) (f : Rs → α × Rs) (hf : ∀ s, s.at_ ≤ l.length → (f s).2.at_ ≤ l.length) : ∀ (n : Nat) (s : Rs), s.at_ ≤ l.length → (rdM f n s).2.2.at_ ≤ l.length
  | 0, s, h => h
  | n + 1, s, h => by
    rw [rdM]
    split
    · exact rdM_at l f hf n _ (hf s h)
    · exact h
set_option maxRecDepth 100000 in
set_option maxHeartbeats 8000000 in
theorem program_any (gr : Nat) (av : Option Addr) (cv : Nat) (l : List Int) (w : World) (hlc : l.length ≤ cv) (hcv : l.length ≤ 9223372036854775000) (hnil : av = none → cv = 0) (hby : Hid (Bys l)) (hrow : Hid (Row .u8 w av l)) (hne : Hid (∀ x, av = some x → 0 < l.length → ¬ x.block = gr)) (h : Hid (Blk w gr 63 (rdc (.slice av l.length cv) ⟨0, 0, 0⟩ (.slice none 0 0) (.slice none 0 0)))) :
    Calls Tryd.prog 28 #[.pointer (some ⟨gr, 0, none⟩)] w fun e w' => ∃ vE vC vX vN, e = .returned (.agg #[.bool (pgm l).enc, vX, vN]) ∧ Hid (PgM w w' gr w.heap.size (.slice av l.length cv) (pgm l).s (pgm l).enc vE vC vX vN (pgm l).ea (pgm l).ca (pgm l).C (pgm l).E) := by
  have hgr := h.out.lt
  obtain ⟨w1, hw1⟩ : ∃ wx, wx = w.alloc (.cells #[.bool false, .slice none 0 0, .slice none 0 0] 25) := ⟨_, rfl⟩
  have hB1 : Below w.heap.size w w1 := by rw [hw1]; exact below1 _ _
  have kp : Blk w1 w.heap.size 25 [.bool false, .slice none 0 0, .slice none 0 0] := by rw [hw1]; exact Blk.newA w _ _
  have HP1 : Hid (PgM w w1 gr w.heap.size (.slice av l.length cv) ⟨0, 0, 0⟩ false (.slice none 0 0) (.slice none 0 0) (.slice none 0 0) (.slice none 0 0) [] [] [] []) := hide_ ⟨h.out.later hB1, kp, IOwn.nil _ _, IOwn.nil _ _, COwn.nil _ _, IOwn.nil _ _, fun k e => by simp [Value.ownBlock] at e, fun k e => by simp [Value.ownBlock] at e, fun k e => by simp [Value.ownBlock] at e, (Upd.refl _ w).then hB1, hgr, Nat.le_refl _⟩
  have HRw : Hid (∀ w', Upd (fun k => k = gr) w w' → Row .u8 w' av l) := hide_ (fun w' hu => Row.updE hrow.out hu hne.out)
  obtain ⟨P, hP⟩ : ∃ P, P = pgm l := ⟨_, rfl⟩
  rw [← hP]
  unfold pgm at hP
  simp only at hP
  have HPg := hide_ hP
  clear hP
  have a1 := rdO_at l ⟨0, 0, 0⟩ 109 109 (Nat.zero_le _)
  have HO1 := hide_ (oneOf_any gr av cv (.slice none 0 0) (.slice none 0 0) l ⟨0, 0, 0⟩ w1 (Nat.zero_le _) hlc hcv hnil hby (hide_ (HRw.out _ HP1.out.up)) (hide_ HP1.out.rd) 109 109)
  generalize rdO l ⟨0, 0, 0⟩ 109 109 = o1 at *
  obtain ⟨c1, S1⟩ := o1
  simp only at HPg a1 HO1
  clear hB1 kp
  go_enter Tryd.func28, Tryd.ntmps28
  go_upto_region 1 with fail
  rw [← hw1]
  clear hw1
  go_upto_region 2 with (go_at_call 51; refine HO1.out.mono ?_; rintro e w2 ⟨rfl, HK2, HU2⟩)
  have HP2 := hide_ (HP1.out.read HK2.out HU2.out)
  have a2 := rdO_at l S1 0 1 a1
  have HO2 := hide_ (oneOf_any gr av cv (.slice none 0 0) (.slice none 0 0) l S1 w2 a1 hlc hcv hnil hby (hide_ (HRw.out _ HP2.out.up)) (hide_ HP2.out.rd) 0 1)
  generalize rdO l S1 0 1 = o2 at *
  obtain ⟨c2, S2⟩ := o2
  simp only at HPg a2 HO2
  clear HO1 HK2 HU2 HP1 a1
  have HM0 : Hid (Calls Tryd.prog 23 #[.bool false] w2 fun e w' => e = .returned (.int .u8 0) ∧ w2 = w') := hide_ (mbyte_any false w2)
  have HM1 : Hid (∀ w', Calls Tryd.prog 23 #[.bool true] w' fun e w'' => e = .returned (.int .u8 1) ∧ w' = w'') := hide_ (fun w' => mbyte_any true w')
  obtain ⟨enc, henc⟩ : ∃ b, (c2 == 1) = b := ⟨_, rfl⟩
  rw [henc] at HPg
  have HEnc := hide_ henc
  go_upto_region 3 with (first
    | (go_at_call_of 23 (Value.bool false); refine HM0.out.mono ?_; rintro e w' ⟨rfl, rfl⟩)
    | (go_at_call_of 23 (Value.bool true); refine (HM1.out _).mono ?_; rintro e w' ⟨rfl, rfl⟩)
    | (go_at_call 51; refine HO2.out.mono ?_; rintro e w3 ⟨rfl, HK3, HU3⟩; (have HP3 := hide_ (HP2.out.read HK3.out HU3.out)); (have g0 := HP3.out.pr.cell 0); (have gz := (fun i => HP3.out.pr.frozen i)); simp at g0))
  obtain ⟨w4, hw4⟩ : ∃ wx, wx = w3.setCell ⟨w.heap.size, 0, none⟩ (.bool enc) := ⟨_, rfl⟩
  have HP4 : Hid (PgM w w4 gr w.heap.size (.slice av l.length cv) S2 enc (.slice none 0 0) (.slice none 0 0) (.slice none 0 0) (.slice none 0 0) [] [] [] []) := hide_ (by rw [hw4]; exact HP3.out.setP ((Upd.refl _ w3).set _ _ (.inl rfl)) (by have := HP3.out.pr.set 0 (.bool enc); simpa using this))
  rw [← hw4]
  clear hw4 HP3 HK3 HU3 g0 gz HO2 HP2 HM0 HM1 HEnc henc
  have HCn := hide_ (count_any gr av cv (.slice none 0 0) (.slice none 0 0) l S2 w4 a2 hlc hcv hnil hby (hide_ (HRw.out _ HP4.out.up)) (hide_ HP4.out.rd))
  have a3 := rdV_at l S2 4 mayC a2
  have hr3 := rdV_rng l S2 4 mayC 1048576 (by omega) (fun n => mayC_rng) hby.out
  generalize rdV l S2 4 mayC = R3 at *
  obtain ⟨n3, S3⟩ := R3
  simp only at HPg a3 HCn hr3
  obtain ⟨n0, rfl⟩ := Int.eq_ofNat_of_zero_le hr3.1
  simp only [Int.toNat_natCast] at HPg
  go_upto_region 4 with (go_at_call 52; refine HCn.out.mono ?_; rintro e w5 ⟨rfl, HK5, HU5⟩)
  have HP5 := hide_ (HP4.out.read HK5.out HU5.out)
  clear HCn HK5 HU5 HP4
  have hn0 : n0 ≤ 1048576 := by omega
  have a4 := rdM_at l (rdN l) (rdN_at l) n0 S3 a3
  go_loopw [3] (fun x3 wr => ∃ (m : Nat) (s : Rs) (ea N : List Int) (vE vN : Value), x3 = .int .i64 (m : Int) ∧ Hid (PgM w wr gr w.heap.size (.slice av l.length cv) s enc vE (.slice none 0 0) (.slice none 0 0) vN ea [] [] N) ∧ Hid (rdM (rdN l) n0 S3 = (ea ++ (rdM (rdN l) m s).1, N ++ (rdM (rdN l) m s).2.1, (rdM (rdN l) m s).2.2)) ∧ Hid (ea.length + m ≤ 1048576 ∧ N.length + m ≤ 1048576) ∧ s.at_ ≤ l.length) (fun x3 _ => (intOf x3).toNat)
  case atStart => exact ⟨n0, S3, [], [], _, _, rfl, HP5, hide_ rfl, hide_ (by simp; omega), a3⟩
  case round =>
    obtain ⟨m, s, ea, N, vE, vN, rfl, HP, HR, HLn, hsat⟩ := hrel
    generalize wr = wq at *
    have HGo := hide_ (going_any gr _ _ _ s wq (hide_ HP.out.rd))
    obtain ⟨d, hd⟩ : ∃ d, (decide (0 < m) && (s.e == 0)) = d := ⟨_, rfl⟩
    have hlm := HLn.out
    go_upto_region 4 with fail
    go_cut [21] from 16 to 21 (fun x21 wc => ∃ wz, wz = wc ∧ x21 = .bool d ∧ wq = wz)
    case first =>
      by_cases hm0 : 0 < m
      · have hm0' : (0 : Int) < m := by omega
        rw [decide_eq_true hm0, Bool.true_and] at hd
        rw [hd] at HGo
        go_wp2_with (go_at_call 53; refine HGo.out.mono ?_; rintro e w' ⟨rfl, rfl⟩)
        go_meet
        case rel => exact ⟨_, rfl, rfl, rfl⟩
      · have hm0' : ¬ (0 : Int) < m := by omega
        rw [decide_eq_false hm0, Bool.false_and] at hd
        subst hd
        go_wp2_with fail
        go_meet
        case rel => exact ⟨_, rfl, rfl, rfl⟩
    case rest =>
    obtain ⟨wz, rfl, rfl, rfl⟩ := hcut
    clear HGo
    cases d with
    | true =>
      rw [Bool.and_eq_true] at hd
      obtain ⟨hm0, hse⟩ := hd
      have hm0 := of_decide_eq_true hm0
      have hse : s.e = 0 := by simpa using hse
      obtain ⟨m', rfl⟩ : ∃ m', m = m' + 1 := ⟨m - 1, by omega⟩
      have HR2 := HR.out
      rw [rdM, if_pos hse] at HR2
      have HPd := hide_ (HP.out.later ((Below.refl _ _).drew))
      have HNb : Hid (∀ (w' : World) {vE' : Value}, Blk w' gr 63 (rdc (.slice av l.length cv) s vE' (.slice none 0 0)) → Row .u8 w' av l → Calls Tryd.prog 54 #[.pointer (some ⟨gr, 0, none⟩)] w' fun e w'' => e = .returned (.int .i64 (rdN l s).1) ∧ Hid (Blk w'' gr 63 (rdc (.slice av l.length cv) (rdN l s).2 vE' (.slice none 0 0))) ∧ Hid (Upd (fun k => k = gr) w' w'')) := hide_ (fun w' {vE'} hk hr => number_any gr av cv vE' (.slice none 0 0) l s w' hsat hlc hcv hnil hby (hide_ hr) (hide_ hk))
      have hsat2 := rdN_at l s hsat
      generalize rdN l s = NN at *
      obtain ⟨nn, Sn⟩ := NN
      simp only at HNb hsat2 HR2
      have HR3 : Hid (rdM (rdN l) n0 S3 = ((ea ++ [(s.at_ : Int)]) ++ (rdM (rdN l) m' Sn).1, (N ++ [nn]) ++ (rdM (rdN l) m' Sn).2.1, (rdM (rdN l) m' Sn).2.2)) := hide_ (by rw [HR2]; simp)
      have HSS : Hid (∀ w', Below wq.heap.size wq w' → (fun w' => w'.cell? ⟨gr, 4, none⟩ = some vE ∧ w'.cell? ⟨gr, 1, none⟩ = some (.int .i64 (s.at_ : Int))) w') := hide_ (fun w' hb => by have x4 := (HP.out.rd.later hb).cell 4; have x1 := (HP.out.rd.later hb).cell 1; simp [rdc] at x4 x1; exact ⟨x4, x1⟩)
      obtain ⟨avE, cvE, hvE⟩ := HP.out.oE.slice
      obtain ⟨avN, cvN, hvN⟩ := HP.out.oN.slice
      have hgne : ¬ gr = w.heap.size := by omega
      subst hvE hvN
      clear HR HR2 hse HP5
      go_upto_region 6 with fail
      refine wp_region_last 13 (fun w' => w'.cell? ⟨gr, 4, none⟩ = some (.slice avE ea.length cvE) ∧ w'.cell? ⟨gr, 1, none⟩ = some (.int .i64 (s.at_ : Int))) (by kernel_rfl) (HSS.out _ ((Below.refl wq.heap.size wq).drew)) (fun hHeld => ?_)
      refine wpAnyF_take [13] (by kernel_rfl) (i := 0) (v := ?ve1) rfl (by kernel_rfl) (by kernel_rfl) (by kernel_rfl) (fun _ _ _ h => h) (Or.inl ⟨by kernel_rfl, ?hye1⟩) hHeld ?reste1
      case hye1 => intro w' hSw; (try dsimp only at hSw); go_simp; try with_reducible rfl
      simp only [Act.put]
      refine wpAnyF_take [13] (by kernel_rfl) (i := 1) (v := ?ve2) rfl (by kernel_rfl) (by kernel_rfl) (by kernel_rfl) (fun _ _ _ h => h) (Or.inl ⟨by kernel_rfl, ?hye2⟩) hHeld ?reste2
      case hye2 => intro w' hSw; (try dsimp only at hSw); go_simp; try with_reducible rfl
      simp only [Act.put]
      refine wpAnyF_take [13] (by kernel_rfl) (i := 2) (v := ?ve3) rfl (by kernel_rfl) (by kernel_rfl) (by kernel_rfl) (fun _ _ _ h => h) (Or.inl ⟨by kernel_rfl, ?hye3⟩) hHeld ?reste3
      case hye3 => intro w' hSw; (try dsimp only at hSw); go_simp; try with_reducible rfl
      simp only [Act.put]
      refine wpAnyF_take [13] (by kernel_rfl) (i := 3) (v := ?ve4) rfl (by kernel_rfl) (by kernel_rfl) (by kernel_rfl) (fun _ _ _ h => h) (Or.inl ⟨by kernel_rfl, ?hye4⟩) hHeld ?reste4
      case hye4 => intro w' hSw; (try dsimp only at hSw); go_simp; try with_reducible rfl
      simp only [Act.put]
      refine wpAnyF_take [13] (by kernel_rfl) (i := 4) (v := ?ve5) rfl (by kernel_rfl) (by kernel_rfl) (by kernel_rfl) (fun _ _ _ h => h) (Or.inl ⟨by kernel_rfl, ?hye5⟩) hHeld ?reste5
      case hye5 => intro w' hSw; (try dsimp only at hSw); go_simp; try with_reducible rfl
      simp only [Act.put]
      refine wpAnyF_take [13] (by kernel_rfl) (i := 5) (v := ?ve6) rfl (by kernel_rfl) (by kernel_rfl) (by kernel_rfl) (fun _ _ _ h => h) (Or.inl ⟨by kernel_rfl, ?hye6⟩) hHeld ?reste6
      case hye6 => intro w' hSw; (try dsimp only at hSw); go_simp; try with_reducible rfl
      simp only [Act.put]
      refine wpAnyF_take [13] (by kernel_rfl) (i := 6) (v := ?ve7) rfl (by kernel_rfl) (by kernel_rfl) (by kernel_rfl) (fun _ _ _ h => h) (Or.inl ⟨by kernel_rfl, ?hye7⟩) hHeld ?reste7
      case hye7 => intro w' hSw; (try dsimp only at hSw); go_simp; try with_reducible rfl
      simp only [Act.put]
      refine wpAnyF_take [13] (by kernel_rfl) (i := 7) (v := ?ve8) rfl (by kernel_rfl) (by kernel_rfl) (by kernel_rfl) (fun _ _ _ h => h) (Or.inl ⟨by kernel_rfl, ?hye8⟩) hHeld ?reste8
      case hye8 => intro w' hSw; (try dsimp only at hSw); go_simp; try with_reducible rfl
      simp only [Act.put]
      refine wpAnyF_take [13] (by kernel_rfl) (i := 8) (v := ?ve9) rfl (by kernel_rfl) (by kernel_rfl) (by kernel_rfl) (fun _ _ _ h => h) (Or.inl ⟨by kernel_rfl, ?hye9⟩) hHeld ?reste9
      case hye9 => intro w' hSw; (try dsimp only at hSw); go_simp; try with_reducible rfl
      simp only [Act.put]
      refine wpAnyF_ready (rs := [9]) (by kernel_rfl) (by simp) ?_
      refine AllReadyF.cons rfl (fun K hK => ?_) AllReadyF.nil
      go_simp
      refine hK.out _ _ (HSS.out _ (below_to ((Below.refl wq.heap.size wq).drew) (below1 wq.drew _))) (fun hHeld => ?_)
      clear hK K
      refine wpAnyF_ready (rs := [10]) (by kernel_rfl) (by simp) ?_
      refine AllReadyF.cons rfl (fun K hK => ?_) AllReadyF.nil
      obtain ⟨g, cap, w5, hr5, hk5, hp5⟩ := HPd.out.pushE (s.at_ : Int) (by have := HLn.out; omega)
      have HR5 := hide_ hr5
      have HK5 := hide_ hk5
      have HP5 := hide_ hp5
      clear hr5 hk5 hp5
      refine step_append_run rfl (.tmp 28) (.tmp 33) 23 23 rfl (v := .slice avE ea.length cvE) (u := .slice (some ⟨wq.heap.size, 0, none⟩) 1 1) (by kernel_rfl) (by kernel_rfl) HR5.out ?_
      simp only [Act.put]
      refine hK.out _ _ (by have x4 := HK5.out.cell 4; have x1 := HK5.out.cell 1; simp [rdc] at x4 x1; exact ⟨x4, x1⟩) (fun hHeld => ?_)
      clear hK K
      refine wpAnyF_take [13, 12] (by kernel_rfl) (i := 11) (v := ?ve10) rfl (by kernel_rfl) (by kernel_rfl) (by kernel_rfl) (fun _ _ _ h => h) (Or.inl ⟨by kernel_rfl, ?hye10⟩) hHeld ?reste10
      case hye10 => intro w' hSw; (try dsimp only at hSw); go_simp; try with_reducible rfl
      simp only [Act.put]
      refine wpAnyF_take [13] (by kernel_rfl) (i := 12) (v := ?ve11) rfl (by kernel_rfl) (by kernel_rfl) (by kernel_rfl) (fun _ _ _ h => h) (Or.inl ⟨by kernel_rfl, ?hye11⟩) hHeld ?reste11
      case hye11 => intro w' hSw; (try dsimp only at hSw); go_simp; try with_reducible rfl
      simp only [Act.put]
      refine wpAnyF_ready (rs := [13]) (by kernel_rfl) (by simp) ?_
      refine AllReadyF.last rfl (fun K hK => ?_)
      have q4 := HK5.out.cell 4; have qz := HK5.out.frozen 4
      simp [rdc] at q4
      go_simp
      refine hK.out _ _ ?_
      clear hK K
      refine wpAnyF_done (by kernel_rfl) ?_ _
      clear HSS
      have HP5 := HP5
      have HS7 : Hid (∀ w', Below (w5.setCell ⟨gr, 4, none⟩ (.slice (some ⟨g, 0, none⟩) (ea.length + 1) cap)).heap.size (w5.setCell ⟨gr, 4, none⟩ (.slice (some ⟨g, 0, none⟩) (ea.length + 1) cap)) w' → (fun w' => w'.cell? ⟨w.heap.size, 2, none⟩ = some (.slice avN N.length cvN)) w') := hide_ (fun w' hb => by have := (HP5.out.pr.later hb).cell 2; simpa using this)
      go_upto_region 7 with fail
      refine wp_region_last 7 (fun w' => w'.cell? ⟨w.heap.size, 2, none⟩ = some (.slice avN N.length cvN)) (by kernel_rfl) (HS7.out _ ((Below.refl _ _).drew)) (fun hHeld => ?_)
      refine wpAnyF_take [7] (by kernel_rfl) (i := 0) (v := ?vn1) rfl (by kernel_rfl) (by kernel_rfl) (by kernel_rfl) (fun _ _ _ h => h) (Or.inl ⟨by kernel_rfl, ?hyn1⟩) hHeld ?restn1
      case hyn1 => intro w' hSw; (try dsimp only at hSw); go_simp; try with_reducible rfl
      simp only [Act.put]
      refine wpAnyF_take [7] (by kernel_rfl) (i := 1) (v := ?vn2) rfl (by kernel_rfl) (by kernel_rfl) (by kernel_rfl) (fun _ _ _ h => h) (Or.inl ⟨by kernel_rfl, ?hyn2⟩) hHeld ?restn2
      case hyn2 => intro w' hSw; (try dsimp only at hSw); go_simp; try with_reducible rfl
      simp only [Act.put]
      refine wpAnyF_take [7] (by kernel_rfl) (i := 2) (v := ?vn3) rfl (by kernel_rfl) (by kernel_rfl) (by kernel_rfl) (fun _ _ _ h => h) (Or.inl ⟨by kernel_rfl, ?hyn3⟩) hHeld ?restn3
      case hyn3 => intro w' hSw; (try dsimp only at hSw); go_simp; try with_reducible rfl
      simp only [Act.put]
      refine wpAnyF_ready (rs := [3]) (by kernel_rfl) (by simp) ?_
      refine AllReadyF.cons rfl (fun K hK => ?_) AllReadyF.nil
      go_simp
      refine (HNb.out _ (Blk.drew HP5.out.rd) (HRw.out _ (Upd.drew HP5.out.up))).mono ?_
      rintro e w7 ⟨rfl, HK7, HU7⟩
      dsimp only
      have HP7 := hide_ ((HP5.out.later ((Below.refl _ _).drew)).read HK7.out HU7.out)
      refine hK.out _ _ (by have := HP7.out.pr.cell 2; simpa using this) (fun hHeld => ?_)
      clear hK K
      refine wpAnyF_ready (rs := [4]) (by kernel_rfl) (by simp) ?_
      refine AllReadyF.cons rfl (fun K hK => ?_) AllReadyF.nil
      go_simp
      refine hK.out _ _ (by have := (HP7.out.pr.alloc (.cells #[.int .i64 nn] 3)).cell 2; simpa using this) (fun hHeld => ?_)
      clear hK K
      refine wpAnyF_ready (rs := [5]) (by kernel_rfl) (by simp) ?_
      refine AllReadyF.cons rfl (fun K hK => ?_) AllReadyF.nil
      obtain ⟨g8, cap8, w8, hr8, hk8, hp8⟩ := HP7.out.pushN nn (by have := HLn.out; omega)
      have HR8 := hide_ hr8
      have HK8 := hide_ hk8
      have HP8 := hide_ hp8
      clear hr8 hk8 hp8
      refine step_append_run rfl (.tmp 38) (.tmp 41) 23 23 rfl (v := .slice avN N.length cvN) (u := .slice (some ⟨w7.heap.size, 0, none⟩) 1 1) (by kernel_rfl) (by kernel_rfl) HR8.out ?_
      simp only [Act.put]
      refine hK.out _ _ (by have := HK8.out.cell 2; simpa using this) (fun hHeld => ?_)
      clear hK K
      refine wpAnyF_take [7] (by kernel_rfl) (i := 6) (v := ?vn4) rfl (by kernel_rfl) (by kernel_rfl) (by kernel_rfl) (fun _ _ _ h => h) (Or.inl ⟨by kernel_rfl, ?hyn4⟩) hHeld ?restn4
      case hyn4 => intro w' hSw; (try dsimp only at hSw); go_simp; try with_reducible rfl
      simp only [Act.put]
      refine wpAnyF_ready (rs := [7]) (by kernel_rfl) (by simp) ?_
      refine AllReadyF.last rfl (fun K hK => ?_)
      have q2 := HK8.out.cell 2; have qz2 := HK8.out.frozen 2
      simp at q2
      go_simp
      refine hK.out _ _ ?_
      clear hK K
      refine wpAnyF_done (by kernel_rfl) ?_ _
      clear HS7
      go_wp2_with fail
      go_roundw
      case rel => exact ⟨m', Sn, _, _, _, _, by go_num, HP8, HR3, hide_ (by have := HLn.out; simp; omega), hsat2⟩
      case measure => simp [intOf]
    | false =>
      have hst : rdM (rdN l) m s = ([], [], s) := by
        rcases Nat.eq_zero_or_pos m with h0 | h0
        · subst h0; rfl
        · rw [decide_eq_true h0, Bool.true_and] at hd
          exact rdM_stop _ _ _ (by simpa using hd)
      have HRx := HR.out
      rw [hst] at HRx
      simp only [List.append_nil] at HRx
      have HPg2 := HPg.out
      rw [HRx] at HPg2
      simp only at HPg2
      have HPg := hide_ HPg2
      clear HPg2 HRx hst HR hd HP5 hlm a4 hr3
      have HP0 := HP
      have hse0 := hsat
      go_upto_region 8 with fail
      have HCn := hide_ (count_any gr av cv vE (.slice none 0 0) l s wq hsat hlc hcv hnil hby (hide_ (HRw.out _ HP.out.up)) (hide_ HP.out.rd))
      have a8 := rdV_at l s 4 mayC hsat
      have hr8 := rdV_rng l s 4 mayC 1048576 (by omega) (fun n => mayC_rng) hby.out
      generalize rdV l s 4 mayC = R8 at *
      obtain ⟨n8, S8⟩ := R8
      simp only at HPg a8 HCn hr8
      obtain ⟨m0, rfl⟩ := Int.eq_ofNat_of_zero_le hr8.1
      simp only [Int.toNat_natCast] at HPg
      go_upto_region 9 with (go_at_call 52; refine HCn.out.mono ?_; rintro e w9 ⟨rfl, HK9, HU9⟩)
      have HP9 := hide_ (HP.out.read HK9.out HU9.out)
      have hm0 : m0 ≤ 1048576 := by omega
      clear HCn HK9 HU9 HP HP0 hse0 hsat HLn
      go_loopw [4] (fun x4 wr => ∃ (m : Nat) (s : Rs) (ca : List Int) (X : List In) (vC vX : Value), x4 = .int .i64 (m : Int) ∧ Hid (PgM w wr gr w.heap.size (.slice av l.length cv) s enc vE vC vX vN ea ca X N) ∧ Hid (rdM (rdI l enc) m0 S8 = (ca ++ (rdM (rdI l enc) m s).1, X ++ (rdM (rdI l enc) m s).2.1, (rdM (rdI l enc) m s).2.2)) ∧ Hid (ca.length + m ≤ 1048576 ∧ X.length + m ≤ 1048576) ∧ s.at_ ≤ l.length) (fun x4 _ => (intOf x4).toNat)
      case atStart => exact ⟨m0, S8, [], [], _, _, rfl, HP9, hide_ rfl, hide_ (by simp; omega), a8⟩
      case round =>
        obtain ⟨m, s, ca, X, vC, vX, rfl, HP, HR, HLn, hsat⟩ := hrel
        generalize wr = wq at *
        have HGo := hide_ (going_any gr _ _ _ s wq (hide_ HP.out.rd))
        obtain ⟨d, hd⟩ : ∃ d, (decide (0 < m) && (s.e == 0)) = d := ⟨_, rfl⟩
        have hlm := HLn.out
        go_upto_region 9 with fail
        go_cut [51] from 46 to 51 (fun x51 wc => ∃ wz, wz = wc ∧ x51 = .bool d ∧ wq = wz)
        case first =>
          by_cases hm0 : 0 < m
          · have hm0' : (0 : Int) < m := by omega
            rw [decide_eq_true hm0, Bool.true_and] at hd
            rw [hd] at HGo
            go_wp2_with (go_at_call 53; refine HGo.out.mono ?_; rintro e w' ⟨rfl, rfl⟩)
            go_meet
            case rel => exact ⟨_, rfl, rfl, rfl⟩
          · have hm0' : ¬ (0 : Int) < m := by omega
            rw [decide_eq_false hm0, Bool.false_and] at hd
            subst hd
            go_wp2_with fail
            go_meet
            case rel => exact ⟨_, rfl, rfl, rfl⟩
        case rest =>
        obtain ⟨wz, rfl, rfl, rfl⟩ := hcut
        clear HGo
        cases d with
        | true =>
          rw [Bool.and_eq_true] at hd
          obtain ⟨hm0, hse⟩ := hd
          have hm0 := of_decide_eq_true hm0
          have hse : s.e = 0 := by simpa using hse
          obtain ⟨m', rfl⟩ : ∃ m', m = m' + 1 := ⟨m - 1, by omega⟩
          have HR2 := HR.out
          rw [rdM, if_pos hse] at HR2
          have HPd := hide_ (HP.out.later ((Below.refl _ _).drew))
          have HNb : Hid (∀ (w' : World) {vC' : Value}, Blk w' gr 63 (rdc (.slice av l.length cv) s vE vC') → Row .u8 w' av l → Calls Tryd.prog 55 #[.pointer (some ⟨gr, 0, none⟩), .bool enc] w' fun e w'' => e = .returned (.agg #[.int .i64 (rdI l enc s).1.op, .int .i64 (rdI l enc s).1.a, .int .i64 (rdI l enc s).1.b, .int .i64 (rdI l enc s).1.c]) ∧ Hid (Blk w'' gr 63 (rdc (.slice av l.length cv) (rdI l enc s).2 vE vC')) ∧ Hid (Upd (fun k => k = gr) w' w'')) := hide_ (fun w' {vC'} hk hr => instr_any gr av cv vE vC' l s w' hsat hlc hcv hnil hby (hide_ hr) hne (hide_ hk) enc)
          have hsat2 := rdI_at l enc s hsat
          generalize rdI l enc s = NN at *
          obtain ⟨nn, Sn⟩ := NN
          simp only at HNb hsat2 HR2
          have HR3 : Hid (rdM (rdI l enc) m0 S8 = ((ca ++ [(s.at_ : Int)]) ++ (rdM (rdI l enc) m' Sn).1, (X ++ [nn]) ++ (rdM (rdI l enc) m' Sn).2.1, (rdM (rdI l enc) m' Sn).2.2)) := hide_ (by rw [HR2]; simp)
          have HSS : Hid (∀ w', Below wq.heap.size wq w' → (fun w' => w'.cell? ⟨gr, 5, none⟩ = some vC ∧ w'.cell? ⟨gr, 1, none⟩ = some (.int .i64 (s.at_ : Int))) w') := hide_ (fun w' hb => by have x4 := (HP.out.rd.later hb).cell 5; have x1 := (HP.out.rd.later hb).cell 1; simp [rdc] at x4 x1; exact ⟨x4, x1⟩)
          obtain ⟨avC, cvC, hvC⟩ := HP.out.oC.slice
          obtain ⟨avX, cvX, hvX, -⟩ := HP.out.oX.row
          have hgne : ¬ gr = w.heap.size := by omega
          subst hvC hvX
          clear HR HR2 hse HP9
          go_upto_region 11 with fail
          refine wp_region_last 13 (fun w' => w'.cell? ⟨gr, 5, none⟩ = some (.slice avC ca.length cvC) ∧ w'.cell? ⟨gr, 1, none⟩ = some (.int .i64 (s.at_ : Int))) (by kernel_rfl) (HSS.out _ ((Below.refl wq.heap.size wq).drew)) (fun hHeld => ?_)
          refine wpAnyF_take [13] (by kernel_rfl) (i := 0) (v := ?vp1) rfl (by kernel_rfl) (by kernel_rfl) (by kernel_rfl) (fun _ _ _ h => h) (Or.inl ⟨by kernel_rfl, ?hyp1⟩) hHeld ?restp1
          case hyp1 => intro w' hSw; (try dsimp only at hSw); go_simp; try with_reducible rfl
          simp only [Act.put]
          refine wpAnyF_take [13] (by kernel_rfl) (i := 1) (v := ?vp2) rfl (by kernel_rfl) (by kernel_rfl) (by kernel_rfl) (fun _ _ _ h => h) (Or.inl ⟨by kernel_rfl, ?hyp2⟩) hHeld ?restp2
          case hyp2 => intro w' hSw; (try dsimp only at hSw); go_simp; try with_reducible rfl
          simp only [Act.put]
          refine wpAnyF_take [13] (by kernel_rfl) (i := 2) (v := ?vp3) rfl (by kernel_rfl) (by kernel_rfl) (by kernel_rfl) (fun _ _ _ h => h) (Or.inl ⟨by kernel_rfl, ?hyp3⟩) hHeld ?restp3
          case hyp3 => intro w' hSw; (try dsimp only at hSw); go_simp; try with_reducible rfl
          simp only [Act.put]
          refine wpAnyF_take [13] (by kernel_rfl) (i := 3) (v := ?vp4) rfl (by kernel_rfl) (by kernel_rfl) (by kernel_rfl) (fun _ _ _ h => h) (Or.inl ⟨by kernel_rfl, ?hyp4⟩) hHeld ?restp4
          case hyp4 => intro w' hSw; (try dsimp only at hSw); go_simp; try with_reducible rfl
          simp only [Act.put]
          refine wpAnyF_take [13] (by kernel_rfl) (i := 4) (v := ?vp5) rfl (by kernel_rfl) (by kernel_rfl) (by kernel_rfl) (fun _ _ _ h => h) (Or.inl ⟨by kernel_rfl, ?hyp5⟩) hHeld ?restp5
          case hyp5 => intro w' hSw; (try dsimp only at hSw); go_simp; try with_reducible rfl
          simp only [Act.put]
          refine wpAnyF_take [13] (by kernel_rfl) (i := 5) (v := ?vp6) rfl (by kernel_rfl) (by kernel_rfl) (by kernel_rfl) (fun _ _ _ h => h) (Or.inl ⟨by kernel_rfl, ?hyp6⟩) hHeld ?restp6
          case hyp6 => intro w' hSw; (try dsimp only at hSw); go_simp; try with_reducible rfl
          simp only [Act.put]
          refine wpAnyF_take [13] (by kernel_rfl) (i := 6) (v := ?vp7) rfl (by kernel_rfl) (by kernel_rfl) (by kernel_rfl) (fun _ _ _ h => h) (Or.inl ⟨by kernel_rfl, ?hyp7⟩) hHeld ?restp7
          case hyp7 => intro w' hSw; (try dsimp only at hSw); go_simp; try with_reducible rfl
          simp only [Act.put]
          refine wpAnyF_take [13] (by kernel_rfl) (i := 7) (v := ?vp8) rfl (by kernel_rfl) (by kernel_rfl) (by kernel_rfl) (fun _ _ _ h => h) (Or.inl ⟨by kernel_rfl, ?hyp8⟩) hHeld ?restp8
          case hyp8 => intro w' hSw; (try dsimp only at hSw); go_simp; try with_reducible rfl
          simp only [Act.put]
          refine wpAnyF_take [13] (by kernel_rfl) (i := 8) (v := ?vp9) rfl (by kernel_rfl) (by kernel_rfl) (by kernel_rfl) (fun _ _ _ h => h) (Or.inl ⟨by kernel_rfl, ?hyp9⟩) hHeld ?restp9
          case hyp9 => intro w' hSw; (try dsimp only at hSw); go_simp; try with_reducible rfl
          simp only [Act.put]
          refine wpAnyF_ready (rs := [9]) (by kernel_rfl) (by simp) ?_
          refine AllReadyF.cons rfl (fun K hK => ?_) AllReadyF.nil
          go_simp
          refine hK.out _ _ (HSS.out _ (below_to ((Below.refl wq.heap.size wq).drew) (below1 wq.drew _))) (fun hHeld => ?_)
          clear hK K
          refine wpAnyF_ready (rs := [10]) (by kernel_rfl) (by simp) ?_
          refine AllReadyF.cons rfl (fun K hK => ?_) AllReadyF.nil
          obtain ⟨g, cap, w5, hr5, hk5, hp5⟩ := HPd.out.pushC (s.at_ : Int) (by have := HLn.out; omega)
          have HR5 := hide_ hr5
          have HK5 := hide_ hk5
          have HP5 := hide_ hp5
          clear hr5 hk5 hp5
          refine step_append_run rfl (.tmp 58) (.tmp 63) 23 23 rfl (v := .slice avC ca.length cvC) (u := .slice (some ⟨wq.heap.size, 0, none⟩) 1 1) (by kernel_rfl) (by kernel_rfl) HR5.out ?_
          simp only [Act.put]
          refine hK.out _ _ (by have x4 := HK5.out.cell 5; have x1 := HK5.out.cell 1; simp [rdc] at x4 x1; exact ⟨x4, x1⟩) (fun hHeld => ?_)
          clear hK K
          refine wpAnyF_take [13, 12] (by kernel_rfl) (i := 11) (v := ?vp10) rfl (by kernel_rfl) (by kernel_rfl) (by kernel_rfl) (fun _ _ _ h => h) (Or.inl ⟨by kernel_rfl, ?hyp10⟩) hHeld ?restp10
          case hyp10 => intro w' hSw; (try dsimp only at hSw); go_simp; try with_reducible rfl
          simp only [Act.put]
          refine wpAnyF_take [13] (by kernel_rfl) (i := 12) (v := ?vp11) rfl (by kernel_rfl) (by kernel_rfl) (by kernel_rfl) (fun _ _ _ h => h) (Or.inl ⟨by kernel_rfl, ?hyp11⟩) hHeld ?restp11
          case hyp11 => intro w' hSw; (try dsimp only at hSw); go_simp; try with_reducible rfl
          simp only [Act.put]
          refine wpAnyF_ready (rs := [13]) (by kernel_rfl) (by simp) ?_
          refine AllReadyF.last rfl (fun K hK => ?_)
          have q5 := HK5.out.cell 5; have qz := HK5.out.frozen 5
          simp [rdc] at q5
          go_simp
          refine hK.out _ _ ?_
          clear hK K
          refine wpAnyF_done (by kernel_rfl) ?_ _
          clear HSS
          have HP5 := HP5
          have HS7 : Hid (∀ w', Below (w5.setCell ⟨gr, 5, none⟩ (.slice (some ⟨g, 0, none⟩) (ca.length + 1) cap)).heap.size (w5.setCell ⟨gr, 5, none⟩ (.slice (some ⟨g, 0, none⟩) (ca.length + 1) cap)) w' → (fun w' => w'.cell? ⟨w.heap.size, 0, none⟩ = some (.bool enc) ∧ w'.cell? ⟨w.heap.size, 1, none⟩ = some (.slice avX X.length cvX)) w') := hide_ (fun w' hb => by have z0 := (HP5.out.pr.later hb).cell 0; have z1 := (HP5.out.pr.later hb).cell 1; simp at z0 z1; exact ⟨z0, z1⟩)
          go_upto_region 12 with fail
          refine wp_region_last 9 (fun w' => w'.cell? ⟨w.heap.size, 0, none⟩ = some (.bool enc) ∧ w'.cell? ⟨w.heap.size, 1, none⟩ = some (.slice avX X.length cvX)) (by kernel_rfl) (HS7.out _ ((Below.refl _ _).drew)) (fun hHeld => ?_)
          refine wpAnyF_take [9] (by kernel_rfl) (i := 0) (v := ?vq1) rfl (by kernel_rfl) (by kernel_rfl) (by kernel_rfl) (fun _ _ _ h => h) (Or.inl ⟨by kernel_rfl, ?hyq1⟩) hHeld ?restq1
          case hyq1 => intro w' hSw; (try dsimp only at hSw); go_simp; try with_reducible rfl
          simp only [Act.put]
          refine wpAnyF_take [9] (by kernel_rfl) (i := 1) (v := ?vq2) rfl (by kernel_rfl) (by kernel_rfl) (by kernel_rfl) (fun _ _ _ h => h) (Or.inl ⟨by kernel_rfl, ?hyq2⟩) hHeld ?restq2
          case hyq2 => intro w' hSw; (try dsimp only at hSw); go_simp; try with_reducible rfl
          simp only [Act.put]
          refine wpAnyF_take [9] (by kernel_rfl) (i := 2) (v := ?vq3) rfl (by kernel_rfl) (by kernel_rfl) (by kernel_rfl) (fun _ _ _ h => h) (Or.inl ⟨by kernel_rfl, ?hyq3⟩) hHeld ?restq3
          case hyq3 => intro w' hSw; (try dsimp only at hSw); go_simp; try with_reducible rfl
          simp only [Act.put]
          refine wpAnyF_take [9] (by kernel_rfl) (i := 3) (v := ?vq4) rfl (by kernel_rfl) (by kernel_rfl) (by kernel_rfl) (fun _ _ _ h => h) (Or.inl ⟨by kernel_rfl, ?hyq4⟩) hHeld ?restq4
          case hyq4 => intro w' hSw; (try dsimp only at hSw); go_simp; try with_reducible rfl
          simp only [Act.put]
          refine wpAnyF_take [9] (by kernel_rfl) (i := 4) (v := ?vq5) rfl (by kernel_rfl) (by kernel_rfl) (by kernel_rfl) (fun _ _ _ h => h) (Or.inl ⟨by kernel_rfl, ?hyq5⟩) hHeld ?restq5
          case hyq5 => intro w' hSw; (try dsimp only at hSw); go_simp; try with_reducible rfl
          simp only [Act.put]
          refine wpAnyF_ready (rs := [5]) (by kernel_rfl) (by simp) ?_
          refine AllReadyF.cons rfl (fun K hK => ?_) AllReadyF.nil
          go_simp
          refine (HNb.out _ (Blk.drew HP5.out.rd) (HRw.out _ (Upd.drew HP5.out.up))).mono ?_
          rintro e w7 ⟨rfl, HK7, HU7⟩
          dsimp only
          have HP7 := hide_ ((HP5.out.later ((Below.refl _ _).drew)).read HK7.out HU7.out)
          refine hK.out _ _ (by have x0 := HP7.out.pr.cell 0; have x1 := HP7.out.pr.cell 1; simp at x0 x1; exact ⟨x0, x1⟩) (fun hHeld => ?_)
          clear hK K
          refine wpAnyF_ready (rs := [6]) (by kernel_rfl) (by simp) ?_
          refine AllReadyF.cons rfl (fun K hK => ?_) AllReadyF.nil
          go_simp
          refine hK.out _ _ (by have x0 := (HP7.out.pr.alloc (.cells #[.int .i64 nn.op, .int .i64 nn.a, .int .i64 nn.b, .int .i64 nn.c] 41)).cell 0; have x1 := (HP7.out.pr.alloc (.cells #[.int .i64 nn.op, .int .i64 nn.a, .int .i64 nn.b, .int .i64 nn.c] 41)).cell 1; simp at x0 x1; exact ⟨x0, x1⟩) (fun hHeld => ?_)
          clear hK K
          refine wpAnyF_ready (rs := [7]) (by kernel_rfl) (by simp) ?_
          refine AllReadyF.cons rfl (fun K hK => ?_) AllReadyF.nil
          obtain ⟨g8, cap8, w8, hr8, hk8, hp8⟩ := HP7.out.pushX nn (by have := HLn.out; omega)
          have HR8 := hide_ hr8
          have HK8 := hide_ hk8
          have HP8 := hide_ hp8
          clear hr8 hk8 hp8
          refine step_append_run rfl (.tmp 68) (.tmp 73) 22 22 rfl (v := .slice avX X.length cvX) (u := .slice (some ⟨w7.heap.size, 0, none⟩) 1 1) (by kernel_rfl) (by kernel_rfl) HR8.out ?_
          simp only [Act.put]
          refine hK.out _ _ (by have x0 := HK8.out.cell 0; have x1 := HK8.out.cell 1; simp at x0 x1; exact ⟨x0, x1⟩) (fun hHeld => ?_)
          clear hK K
          refine wpAnyF_take [9] (by kernel_rfl) (i := 8) (v := ?vq6) rfl (by kernel_rfl) (by kernel_rfl) (by kernel_rfl) (fun _ _ _ h => h) (Or.inl ⟨by kernel_rfl, ?hyq6⟩) hHeld ?restq6
          case hyq6 => intro w' hSw; (try dsimp only at hSw); go_simp; try with_reducible rfl
          simp only [Act.put]
          refine wpAnyF_ready (rs := [9]) (by kernel_rfl) (by simp) ?_
          refine AllReadyF.last rfl (fun K hK => ?_)
          have q2 := HK8.out.cell 1; have qz2 := HK8.out.frozen 1
          simp at q2
          go_simp
          refine hK.out _ _ ?_
          clear hK K
          refine wpAnyF_done (by kernel_rfl) ?_ _
          clear HS7
          go_wp2_with fail
          go_roundw
          case rel => exact ⟨m', Sn, _, _, _, _, by go_num, HP8, HR3, hide_ (by have := HLn.out; simp; omega), hsat2⟩
          case measure => simp [intOf]
        | false =>
          have hst : rdM (rdI l enc) m s = ([], [], s) := by
            rcases Nat.eq_zero_or_pos m with h0 | h0
            · subst h0; rfl
            · rw [decide_eq_true h0, Bool.true_and] at hd
              exact rdM_stop _ _ _ (by simpa using hd)
          have HRx := HR.out
          rw [hst] at HRx
          simp only [List.append_nil] at HRx
          have HPg2 := HPg.out
          rw [HRx] at HPg2
          simp only at HPg2
          have HPg := hide_ HPg2
          clear HPg2 HRx hst HR hd HP9 hlm
          obtain ⟨avN, cvN, hvN⟩ := HP.out.oN.slice
          obtain ⟨avX, cvX, hvX, -⟩ := HP.out.oX.row
          subst hvN hvX
          have x0 := HP.out.rd.cell 0; have x1 := HP.out.rd.cell 1
          simp [rdc] at x0 x1
          have HRf := hide_ (fun w' hk => refuse_any gr (.slice av l.length cv) vE vC s 124 (s.at_ : Int) w' (hide_ hk))
          go_upto_region 13 with fail
          by_cases hend : s.at_ < l.length
          · have hend' : (s.at_ : Int) < l.length := by omega
            rw [if_pos hend] at HPg
            go_region
            all_goals
              go_upto_region 15 with (go_at_call 56; refine (HRf.out _ (Blk.drew HP.out.rd)).mono ?_; rintro e wa ⟨rfl, HKa, HUa⟩)
              have HPa := hide_ ((HP.out.later ((Below.refl _ _).drew)).read HKa.out HUa.out)
              have y0 := HPa.out.pr.cell 0; have y1 := HPa.out.pr.cell 1; have y2 := HPa.out.pr.cell 2
              have yz := fun i => HPa.out.pr.frozen i
              simp at y0 y1 y2
              go_wp2
              have hkk := ((HPa.out.pr.set 0 (.bool enc)).set 1 (.slice avX X.length cvX)).set 2 (.slice avN N.length cvN)
              refine retPr rfl rfl hkk ?_
              refine ⟨vE, vC, .slice avX X.length cvX, .slice avN N.length cvN, by rw [HPg.out], ?_⟩
              rw [HPg.out]
              exact hide_ HPa.out.same3
          · have hend' : ¬ (s.at_ : Int) < l.length := by omega
            rw [if_neg hend] at HPg
            have y0 := HP.out.pr.cell 0; have y1 := HP.out.pr.cell 1; have y2 := HP.out.pr.cell 2
            have yz := fun i => HP.out.pr.frozen i
            simp at y0 y1 y2
            go_region
            all_goals
              go_wp2
              have hkk := ((HP.out.pr.set 0 (.bool enc)).set 1 (.slice avX X.length cvX)).set 2 (.slice avN N.length cvN)
              refine retPr rfl rfl (Blk.drew hkk) ?_
              refine ⟨vE, vC, .slice avX X.length cvX, .slice avN N.length cvN, by rw [HPg.out], ?_⟩
              rw [HPg.out]
              exact hide_ (HP.out.same3.later ((Below.refl _ _).drew))
end Go.Proofs.YteadmiikenpjeaaDoor
