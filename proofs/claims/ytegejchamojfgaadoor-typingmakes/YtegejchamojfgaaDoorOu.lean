/- made. -/
import Derived.Test.YtegejchamojfgaaDoorZcp
import Derived.Test.YtegejchamojfgaaDoorOp
import Derived.Test.YtegejchamojfgaaDoorOo
import Derived.Test.YtegejchamojfgaaDoorOr
namespace Go.Proofs.YtegejchamojfgaaDoor
open Go.RowKit
set_option linter.unusedVariables false

theorem retM {fn : Func} {p u1 u2 u3 : Tmp} (h : fn.results = #[.cell p 25, .tmp u1, .tmp u2, .tmp u3]) {R : Ending → World → Prop} {tmps : Array Value} {g : Nat} {w : World} {x y v1 v2 v3 : Value} (h1 : tmps.getD u1 undef = v1) (h2 : tmps.getD u2 undef = v2) (h3 : tmps.getD u3 undef = v3) (hp : tmps.getD p undef = .pointer (some ⟨g, 0, none⟩)) (hK : Blk w g 25 [x, y]) (hR : R (.returned (.tuple #[.agg #[x, y], v1, v2, v3])) w) :
    bodyPost Tryd.prog fn R Exit.ret ⟨tmps, []⟩ w := by
  refine bodyPost_ret (v := .tuple #[.agg #[x, y], v1, v2, v3]) ?_ rfl hR
  have hp' : tmps[p]?.getD undef = .pointer (some ⟨g, 0, none⟩) := by simpa using hp
  have hg : w.heap[g]? = some (.cells #[x, y] 25 (0, 0)) := hK
  simp only [results, h]
  simp [hp', asAddr, Result.andThen, run_loadVar_row w g 25 25 #[x, y] (0, 0) _ hg Tryd.underlying25 rfl (by show _ = some 2; kernel_rfl), ← h1, ← h2, ← h3]
/-- What made answers. -/
def MdTo (w0 w : World) (T : List Ty) (R : List Rt) (e : Ending) (w' : World) : Prop := ∃ a cap ar cr Q, ∃ (t' : Int) (v' : Value) (ok : Bool), e = .returned (.tuple #[.agg #[.slice a (cutT T).length cap, .slice ar (R.take 260).length cr], .int .i64 t', v', .bool ok]) ∧ Hid (TOwn w' w0.heap.size (.slice a (cutT T).length cap) Q) ∧ Hid (Q.map (·.1) = cutT T) ∧ Hid (ROwn w' w0.heap.size (.slice ar (R.take 260).length cr) (R.take 260)) ∧ Hid (ok = true → OkS (cutT T) (R.take 260) ∧ 0 ≤ t' ∧ t' < (cutT T).length ∧ ∃ p, IOwn w' w.heap.size v' p ∧ p.length ≤ 300) ∧ Hid (Below w.heap.size w w')
set_option maxRecDepth 100000 in
set_option maxHeartbeats 8000000 in
theorem made_any (aT : Option Addr) (cT : Nat) (T : List Ty) (aR : Option Addr) (cR : Nat) (R : List Rt) (t : Int) (aP : Option Addr) (cP : Nat) (p : List Int) (w0 w : World) (hn : T.length ≤ 1000000000000000) (hm : R.length ≤ 1000000000000000) (hcR : R.length ≤ cR) (hnil : aR = none → cR = 0) (hl : Hid (LensT T)) (hB0 : Hid (Below w0.heap.size w0 w)) (hT : Hid (TRow w0 aT T)) (hRr : Hid (RRow w aR R)) (hpn : p.length ≤ 1000000000000000) (hpc : p.length ≤ cP) (hpnil : aP = none → cP = 0) (hPr : Hid (Row .i64 w aP p)) :
    Calls Tryd.prog 9 #[.agg #[.slice aT T.length cT, .slice aR R.length cR], .int .i64 t, .slice aP p.length cP] w fun e w' => MdTo w0 w T R e w' := by
  obtain ⟨w1, hw1⟩ : ∃ wx, wx = w.alloc (.cells #[.slice aT T.length cT, .slice aR R.length cR] 25) := ⟨_, rfl⟩
  have b1 : Below w.heap.size w w1 := by rw [hw1]; exact below1 _ _
  have k1 : Blk w1 w.heap.size 25 [.slice aT T.length cT, .slice aR R.length cR] := by rw [hw1]; exact Blk.newA w _ _
  have s1 : w1.heap.size = w.heap.size + 1 := by rw [hw1]; simp
  obtain ⟨w2, hw2⟩ : ∃ wx, wx = w1.alloc (.cells #[.slice none 0 0, .slice none 0 0] 25) := ⟨_, rfl⟩
  have b2 : Below w1.heap.size w1 w2 := by rw [hw2]; exact below1 _ _
  have k2 : Blk w2 w1.heap.size 25 [.slice none 0 0, .slice none 0 0] := by rw [hw2]; exact Blk.newA w1 _ _
  rw [s1] at k2
  have hB2 := below_to b1 b2
  have K1 := hide_ (k1.later b2)
  have K2 := hide_ k2
  have HB2 := hide_ hB2
  have HCu := hide_ (cut_any aT cT T aR cR R w0 w2 hn hm hcR hnil hl (hide_ (below_to hB0.out hB2)) hT (hide_ (hRr.out.later hB2)))
  have i0 := K1.out.cell 0; have i1 := K1.out.cell 1
  simp at i0 i1
  have HZ2 : Hid (w.heap.size + 2 ≤ w2.heap.size) := hide_ (by rw [hw2]; simp; omega)
  clear b1 b2 k1 k2 s1 hB2
  go_enter Tryd.func9, Tryd.ntmps9
  go_upto_region 1 with fail
  rw [← hw1, ← hw2]
  clear hw1 hw2
  go_wp2_with fail
  refine HCu.out.mono ?_
  rintro e w3 ⟨a, cap, ar, cr, Q, rfl, HT3, HQ, HR3, HB3⟩
  have hlc : (cutT T).length ≤ 120 := by simp [cutT]; omega
  have hlr : (R.take 260).length ≤ 260 := by simp; omega
  have HLs := hide_ (cutT_lens T)
  obtain ⟨U, hU⟩ : ∃ U, cutT T = U := ⟨_, rfl⟩
  obtain ⟨Rc, hRc⟩ : ∃ Rc, R.take 260 = Rc := ⟨_, rfl⟩
  have HU := hide_ hU
  have HRc := hide_ hRc
  rw [hU] at HT3 HLs hlc HQ ⊢
  rw [hRc] at HR3 hlr ⊢
  clear hU hRc i0 i1 HCu
  obtain ⟨w4, hw4⟩ : ∃ wx, wx = w3.alloc (.cells #[.slice a U.length cap, .slice ar Rc.length cr] 25) := ⟨_, rfl⟩
  have b4 : Below w3.heap.size w3 w4 := by rw [hw4]; exact below1 _ _
  have k4 : Blk w4 w3.heap.size 25 [.slice a U.length cap, .slice ar Rc.length cr] := by rw [hw4]; exact Blk.newA w3 _ _
  have HT4 := hide_ (HT3.out.later b4)
  have HR4 := hide_ (HR3.out.later b4)
  have HB4 := hide_ (below_to (below_to HB2.out HB3.out) b4)
  have KR4 := hide_ ((K2.out.later HB3.out).later b4)
  have hzb : w0.heap.size ≤ w.heap.size := hB0.out.size
  have hz3 : w.heap.size + 2 ≤ w3.heap.size := Nat.le_trans HZ2.out HB3.out.size
  have HCk := hide_ (checkR_any a cap U ar cr Rc w4 (by omega) (by omega) HLs (hide_ (town_row HT4.out HQ.out)) (hide_ (rown_row HR4.out)))
  have K4 := hide_ k4
  have i0 := k4.cell 0; have i1 := k4.cell 1
  simp at i0 i1
  clear b4 k4 hT hRr K1 K2
  go_upto_region 2 with fail
  rw [← hw4]
  clear hw4
  go_wp2_with fail
  refine HCk.out.mono ?_
  rintro e w5 ⟨rfl, hB5⟩
  have HB5 := hide_ (below_to HB4.out hB5)
  have HT5 := hide_ (HT4.out.later hB5)
  have HR5 := hide_ (HR4.out.later hB5)
  have KR5 := hide_ (KR4.out.later hB5)
  have K5 := hide_ (K4.out.later hB5)
  have HCz : Hid ((chk U Rc).1 = 0 → OkS U Rc) := hide_ okS_of
  have hff := fldF (.int .i64 (chk U Rc).1) (.int .i64 (chk U Rc).2)
  generalize (chk U Rc).1 = e1 at *
  generalize (chk U Rc).2 = e2 at *
  have q0 := KR5.out.cell 0; have q1 := KR5.out.cell 1
  have qf := fun i => KR5.out.frozen i
  clear i0 i1 hB5 HT4 HR4 KR4 K4 HB4 HCk
  have i0 := K5.out.cell 0; have i1 := K5.out.cell 1
  simp at i0 i1 q0 q1
  by_cases hc : e1 = 0
  · subst hc
    by_cases hu0 : U.length = 0
    · have hu0' : ((U.length : Int) == 0) = true := by rw [hu0]; rfl
      have hu0'' : (U.length == 0) = true := by simp [hu0]
      clear hu0
      have HK := hide_ (wr2 KR5.out (.slice a U.length cap) (.slice ar Rc.length cr))
      have HBf := hide_ (below_wr2 HB5.out (w.heap.size + 1) (by omega) (.slice a U.length cap) (.slice ar Rc.length cr))
      have hst := st2 HT5.out HR5.out KR5.out (by omega) (.slice a U.length cap) (.slice ar Rc.length cr)
      have HTf := hide_ hst.1
      have HRf := hide_ hst.2
      clear hst
      go_wp2
      exact retM (v1 := .int .i64 0) (v2 := .slice none 0 0) (v3 := .bool false) rfl rfl rfl rfl rfl HK.out ⟨a, cap, ar, cr, Q, 0, .slice none 0 0, false, by rw [HU.out, HRc.out], by rw [HU.out]; exact HTf, by rw [HU.out]; exact HQ, by rw [HRc.out]; exact HRf, hide_ (fun h => by cases h), HBf⟩
    · have hS := HCz.out rfl
      have HS := hide_ hS
      have hu0' : ((U.length : Int) == 0) = false := by simp; intro h; exact hu0 (by rw [h]; rfl)
      have hu0'' : (U.length == 0) = false := by simpa using hu0
      have hul : (0 : Int) < U.length := by omega
      go_wp2_with fail
      refine (rest_any t U.length _ hul (by omega)).mono ?_
      rintro e w' ⟨r, rfl, hr0, hr1, rfl⟩
      obtain ⟨rn, rfl⟩ := Int.eq_ofNat_of_zero_le hr0
      have hrn : rn < U.length := by omega
      go_wp2_with fail
      refine (light_any a cap U ar cr Rc rn w5 (by omega) (by omega) hrn HS HLs (hide_ (town_row HT5.out HQ.out)) (hide_ (rown_row HR5.out))).mono ?_
      rintro e w6 ⟨⟨bb, rfl⟩, HB6⟩
      have HBx := hide_ (below_to HB5.out HB6.out)
      have HT6 := hide_ (HT5.out.later HB6.out)
      have HR6 := hide_ (HR5.out.later HB6.out)
      have KR6 := hide_ (KR5.out.later HB6.out)
      have K6 := hide_ (K5.out.later HB6.out)
      clear q0 q1 qf i0 i1
      have q0 := KR6.out.cell 0; have q1 := KR6.out.cell 1
      have qf := fun i => KR6.out.frozen i
      have i0 := K6.out.cell 0; have i1 := K6.out.cell 1
      simp at i0 i1 q0 q1
      clear HT5 HR5 KR5 K5
      cases bb with
      | false =>
        have HK := hide_ (wr2 KR6.out (.slice a U.length cap) (.slice ar Rc.length cr))
        have HBf := hide_ (below_wr2 HBx.out (w.heap.size + 1) (by omega) (.slice a U.length cap) (.slice ar Rc.length cr))
        have hst := st2 HT6.out HR6.out KR6.out (by omega) (.slice a U.length cap) (.slice ar Rc.length cr)
        have HTf := hide_ hst.1
        have HRf := hide_ hst.2
        clear hst
        go_wp2
        exact retM (v1 := .int .i64 0) (v2 := .slice none 0 0) (v3 := .bool false) rfl rfl rfl rfl rfl HK.out ⟨a, cap, ar, cr, Q, 0, .slice none 0 0, false, by rw [HU.out, HRc.out], by rw [HU.out]; exact HTf, by rw [HU.out]; exact HQ, by rw [HRc.out]; exact HRf, hide_ (fun h => by cases h), HBf⟩
      | true =>
        obtain ⟨m, hm⟩ : ∃ m, min 300 p.length = m := ⟨_, rfl⟩
        have hm3 : m ≤ 300 := by omega
        obtain ⟨vP, w7, hrun, hoP, hgP⟩ := run_copy elI w6.drew 26 w6.heap.size aP m cP (p.take 300) (by rw [List.length_take]; omega) ((hPr.out.later HBx.out.drew).take 300) hpnil (by unfold maxLen; omega) (by omega) (Nat.le_refl _)
        have hOP6 : IOwn w7 w6.heap.size vP (p.take 300) := by unfold IOwn; rw [List.length_take, hm]; exact hoP
        have hOP : IOwn w7 w.heap.size vP (p.take 300) := hOP6.base HBx.out.size
        have uP : Upd (fun _ => False) w6.drew w7 := (Upd.refl _ _).grown hgP (fun k e => by cases e)
        have hB7 : Below w6.heap.size w6 w7 := below_to ((Below.refl w6.heap.size w6).drew) (uP.below _ (Nat.le_refl _) (fun k h => h.elim))
        have HB7 := hide_ hB7
        have HRn := hide_ hrun
        have HT7 := hide_ (HT6.out.later hB7)
        have HR7 := hide_ (HR6.out.later hB7)
        have HSS : Hid (∀ w', Below w6.heap.size w6 w' → (fun w' => w'.cell? ⟨w3.heap.size, 0, none⟩ = some (.slice a U.length cap) ∧ w'.cell? ⟨w3.heap.size, 1, none⟩ = some (.slice ar Rc.length cr)) w') := hide_ (fun w' hB => ⟨(K6.out.later hB).cell 0, (K6.out.later hB).cell 1⟩)
        have HTm := hide_ (tame_any a cap U (.slice ar Rc.length cr) vP (p.take 300) w.heap.size w7 (by omega) (by rw [List.length_take]; omega) (Nat.le_trans HBx.out.size hB7.size) (hide_ (town_row HT7.out HQ.out)) (hide_ hOP))
        have HVl : Hid (∀ k, vP.ownBlock = some k → w6.heap.size ≤ k) := hide_ (fun k hk => (World.ownsRow.lt hOP6 k hk).1)
        obtain ⟨aP', cP', hvP⟩ := hOP.slice
        have HLP : Hid ((p.take 300).length = m) := hide_ (by rw [List.length_take]; omega)
        rw [HLP.out] at hvP
        subst hvP
        clear hOP hOP6 hoP hgP uP hB7 hrun
        by_cases h300 : p.length ≤ 300
        · have h300' : (p.length : Int) ≤ 300 := by omega
          obtain rfl : m = p.length := by omega
          clear hm
          have hcap : (p.length : Int) ≤ cP := by omega
          go_upto_region 7 with fail
          refine wp_region_held_drew (S := (fun w' => w'.cell? ⟨w3.heap.size, 0, none⟩ = some (.slice a U.length cap) ∧ w'.cell? ⟨w3.heap.size, 1, none⟩ = some (.slice ar Rc.length cr))) (by kernel_rfl) (HSS.out _ ((Below.refl _ _).drew)) (fun hHeld => ?_)
          refine wpAnyH_take (i := 0) (v := ?vga1) rfl (by kernel_rfl) (by kernel_rfl) (by kernel_rfl) (fun _ _ _ h => h) (Or.inl ⟨by rfl, ?hyga1⟩) hHeld ?restga1
          case hyga1 => intro w' hSw; (try dsimp only at hSw); go_simp; try with_reducible rfl
          simp only [Act.put]
          refine wpAnyH_take (i := 1) (v := ?vga2) rfl (by kernel_rfl) (by kernel_rfl) (by kernel_rfl) (fun _ _ _ h => h) (Or.inl ⟨by rfl, ?hyga2⟩) hHeld ?restga2
          case hyga2 => intro w' hSw; (try dsimp only at hSw); go_simp; try with_reducible rfl
          simp only [Act.put]
          refine wpAnyH_take (i := 2) (v := ?vga3) rfl (by kernel_rfl) (by kernel_rfl) (by kernel_rfl) (fun _ _ _ h => h) (Or.inl ⟨by rfl, ?hyga3⟩) hHeld ?restga3
          case hyga3 => intro w' hSw; (try dsimp only at hSw); go_simp; try with_reducible rfl
          simp only [Act.put]
          refine wpAnyH_take (i := 3) (v := ?vga4) rfl (by kernel_rfl) (by kernel_rfl) (by kernel_rfl) (fun _ _ _ h => h) (Or.inl ⟨by rfl, ?hyga4⟩) hHeld ?restga4
          case hyga4 => intro w' hSw; (try dsimp only at hSw); go_simp; try with_reducible rfl
          simp only [Act.put]
          refine wpAnyH_take (i := 4) (v := ?vga5) rfl (by kernel_rfl) (by kernel_rfl) (by kernel_rfl) (fun _ _ _ h => h) (Or.inl ⟨by rfl, ?hyga5⟩) hHeld ?restga5
          case hyga5 => intro w' hSw; (try dsimp only at hSw); go_simp; try with_reducible rfl
          simp only [Act.put]
          refine wpAnyH_take (i := 5) (v := ?vga6) rfl (by kernel_rfl) (by kernel_rfl) (by kernel_rfl) (fun _ _ _ h => h) (Or.inl ⟨by rfl, ?hyga6⟩) hHeld ?restga6
          case hyga6 => intro w' hSw; (try dsimp only at hSw); go_simp; try with_reducible rfl
          simp only [Act.put]
          refine wpAnyH_take (i := 6) (v := ?vga7) rfl (by kernel_rfl) (by kernel_rfl) (by kernel_rfl) (fun _ _ _ h => h) (Or.inl ⟨by rfl, ?hyga7⟩) hHeld ?restga7
          case hyga7 => intro w' hSw; (try dsimp only at hSw); go_simp; try with_reducible rfl
          simp only [Act.put]
          rw [if_neg (show ¬ (300 : Int) < (p.length : Int) by omega)]
          refine wpAnyH_ready (rs := [7]) (by kernel_rfl) (by simp) ?_
          refine AllReadyH.cons rfl (fun K hK => ?_) AllReadyH.nil
          go_simp
          refine hK.out _ _ (hHeld) (fun hHeld => ?_)
          clear hK K
          refine wpAnyH_ready (rs := [8]) (by kernel_rfl) (by simp) ?_
          refine AllReadyH.cons rfl (fun K hK => ?_) AllReadyH.nil
          refine step_append_run rfl (.const (.slice none 0 0)) (.tmp 41) 26 26 rfl rfl rfl HRn.out ?_
          refine hK.out _ _ (HSS.out _ HB7.out) (fun hHeld => ?_)
          clear hK K
          refine wpAnyH_ready (rs := [9]) (by kernel_rfl) (by simp) ?_
          refine AllReadyH.cons rfl (fun K hK => ?_) AllReadyH.nil
          go_simp
          refine HTm.out.mono ?_
          rintro e w8 ⟨p', rfl, HO8, HL8, HU8⟩
          have HB8 := hide_ (below_to3 HB7.out HU8.out (fun k hk => HVl.out k hk))
          have HS8 := hide_ (HSS.out _ HB8.out)
          dsimp only
          refine hK.out _ _ (HS8.out) (fun hHeld => ?_)
          clear hK K
          have KR8 := hide_ (KR6.out.later HB8.out)
          have K8 := hide_ (K6.out.later HB8.out)
          have HT8 := hide_ (HT6.out.later HB8.out)
          have HR8 := hide_ (HR6.out.later HB8.out)
          have z0 := KR8.out.cell 0; have z1 := KR8.out.cell 1
          have zf := fun i => KR8.out.frozen i
          simp only [List.getElem?_cons_zero, List.getElem?_cons_succ] at z0 z1
          have HK := hide_ (wr2 KR8.out (.slice a U.length cap) (.slice ar Rc.length cr))
          have HBf := hide_ (below_wr2 (below_to HBx.out HB8.out) (w.heap.size + 1) (by omega) (.slice a U.length cap) (.slice ar Rc.length cr))
          have hst := st2 HT8.out HR8.out KR8.out (by omega) (.slice a U.length cap) (.slice ar Rc.length cr)
          have HTf := hide_ hst.1
          have HRf := hide_ hst.2
          have HIf := hide_ (HO8.out.upd (((Upd.refl (fun k => k = w.heap.size + 1) w8).set ⟨w.heap.size + 1, 0, none⟩ (.slice a U.length cap) (.inl rfl)).set ⟨w.heap.size + 1, 1, none⟩ (.slice ar Rc.length cr) (.inl rfl)) (fun k hk e => HO8.out.ne KR8.out (by decide) (by rw [← e]; exact hk)))
          have K9 := hide_ ((K8.out.other ⟨w.heap.size + 1, 0, none⟩ (.slice a U.length cap) (by show w3.heap.size ≠ w.heap.size + 1; omega)).other ⟨w.heap.size + 1, 1, none⟩ (.slice ar Rc.length cr) (by show w3.heap.size ≠ w.heap.size + 1; omega))
          have HS9 := hide_ (And.intro (K9.out.cell 0) (K9.out.cell 1))
          clear hst
          refine wpAnyH_ready (rs := [10]) (by kernel_rfl) (by simp) ?_
          refine AllReadyH.cons rfl (fun K hK => ?_) AllReadyH.nil
          go_simp
          refine hK.out _ _ (HS9.out) (fun hHeld => ?_)
          clear hK K
          refine wpAnyH_ready (rs := [11]) (by kernel_rfl) (by simp) ?_
          refine AllReadyH.cons rfl (fun K hK => ?_) AllReadyH.nil
          go_simp
          refine hK.out _ _ (HS9.out) (fun hHeld => ?_)
          clear hK K
          refine wpAnyH_ready (rs := [12]) (by kernel_rfl) (by simp) ?_
          refine AllReadyH.cons rfl (fun K hK => ?_) AllReadyH.nil
          go_simp
          refine hK.out _ _ (HS9.out) (fun hHeld => ?_)
          clear hK K
          refine wpAnyH_ready (rs := [13]) (by kernel_rfl) (by simp) ?_
          refine AllReadyH.cons rfl (fun K hK => ?_) AllReadyH.nil
          go_simp
          refine hK.out _ _ (HS9.out) (fun hHeld => ?_)
          clear hK K
          refine wpAnyH_done (by kernel_rfl) ?_ _
          go_wp2
          exact retM (v1 := .int .i64 (rn : Int)) (v2 := .slice aP' p.length cP') (v3 := .bool true) rfl rfl rfl rfl rfl HK.out ⟨a, cap, ar, cr, Q, (rn : Int), .slice aP' p.length cP', true, by rw [HU.out, HRc.out], by rw [HU.out]; exact HTf, by rw [HU.out]; exact HQ, by rw [HRc.out]; exact HRf, hide_ (fun _ => by rw [HU.out, HRc.out]; exact ⟨HS.out, by omega, by omega, p', HIf.out, by have h1 := HL8.out; have h2 := HLP.out; omega⟩), HBf⟩
        · have h300x : (300 : Int) < (p.length : Int) := by omega
          obtain rfl : m = 300 := by omega
          clear hm
          have hcap : (300 : Int) ≤ cP := by omega
          go_upto_region 7 with fail
          refine wp_region_held_drew (S := (fun w' => w'.cell? ⟨w3.heap.size, 0, none⟩ = some (.slice a U.length cap) ∧ w'.cell? ⟨w3.heap.size, 1, none⟩ = some (.slice ar Rc.length cr))) (by kernel_rfl) (HSS.out _ ((Below.refl _ _).drew)) (fun hHeld => ?_)
          refine wpAnyH_take (i := 0) (v := ?vgb1) rfl (by kernel_rfl) (by kernel_rfl) (by kernel_rfl) (fun _ _ _ h => h) (Or.inl ⟨by rfl, ?hygb1⟩) hHeld ?restgb1
          case hygb1 => intro w' hSw; (try dsimp only at hSw); go_simp; try with_reducible rfl
          simp only [Act.put]
          refine wpAnyH_take (i := 1) (v := ?vgb2) rfl (by kernel_rfl) (by kernel_rfl) (by kernel_rfl) (fun _ _ _ h => h) (Or.inl ⟨by rfl, ?hygb2⟩) hHeld ?restgb2
          case hygb2 => intro w' hSw; (try dsimp only at hSw); go_simp; try with_reducible rfl
          simp only [Act.put]
          refine wpAnyH_take (i := 2) (v := ?vgb3) rfl (by kernel_rfl) (by kernel_rfl) (by kernel_rfl) (fun _ _ _ h => h) (Or.inl ⟨by rfl, ?hygb3⟩) hHeld ?restgb3
          case hygb3 => intro w' hSw; (try dsimp only at hSw); go_simp; try with_reducible rfl
          simp only [Act.put]
          refine wpAnyH_take (i := 3) (v := ?vgb4) rfl (by kernel_rfl) (by kernel_rfl) (by kernel_rfl) (fun _ _ _ h => h) (Or.inl ⟨by rfl, ?hygb4⟩) hHeld ?restgb4
          case hygb4 => intro w' hSw; (try dsimp only at hSw); go_simp; try with_reducible rfl
          simp only [Act.put]
          refine wpAnyH_take (i := 4) (v := ?vgb5) rfl (by kernel_rfl) (by kernel_rfl) (by kernel_rfl) (fun _ _ _ h => h) (Or.inl ⟨by rfl, ?hygb5⟩) hHeld ?restgb5
          case hygb5 => intro w' hSw; (try dsimp only at hSw); go_simp; try with_reducible rfl
          simp only [Act.put]
          refine wpAnyH_take (i := 5) (v := ?vgb6) rfl (by kernel_rfl) (by kernel_rfl) (by kernel_rfl) (fun _ _ _ h => h) (Or.inl ⟨by rfl, ?hygb6⟩) hHeld ?restgb6
          case hygb6 => intro w' hSw; (try dsimp only at hSw); go_simp; try with_reducible rfl
          simp only [Act.put]
          refine wpAnyH_take (i := 6) (v := ?vgb7) rfl (by kernel_rfl) (by kernel_rfl) (by kernel_rfl) (fun _ _ _ h => h) (Or.inl ⟨by rfl, ?hygb7⟩) hHeld ?restgb7
          case hygb7 => intro w' hSw; (try dsimp only at hSw); go_simp; try with_reducible rfl
          simp only [Act.put]
          try rw [if_pos h300x]
          refine wpAnyH_ready (rs := [7]) (by kernel_rfl) (by simp) ?_
          refine AllReadyH.cons rfl (fun K hK => ?_) AllReadyH.nil
          go_simp
          refine hK.out _ _ (hHeld) (fun hHeld => ?_)
          clear hK K
          refine wpAnyH_ready (rs := [8]) (by kernel_rfl) (by simp) ?_
          refine AllReadyH.cons rfl (fun K hK => ?_) AllReadyH.nil
          refine step_append_run rfl (.const (.slice none 0 0)) (.tmp 41) 26 26 rfl rfl rfl HRn.out ?_
          refine hK.out _ _ (HSS.out _ HB7.out) (fun hHeld => ?_)
          clear hK K
          refine wpAnyH_ready (rs := [9]) (by kernel_rfl) (by simp) ?_
          refine AllReadyH.cons rfl (fun K hK => ?_) AllReadyH.nil
          go_simp
          refine HTm.out.mono ?_
          rintro e w8 ⟨p', rfl, HO8, HL8, HU8⟩
          have HB8 := hide_ (below_to3 HB7.out HU8.out (fun k hk => HVl.out k hk))
          have HS8 := hide_ (HSS.out _ HB8.out)
          dsimp only
          refine hK.out _ _ (HS8.out) (fun hHeld => ?_)
          clear hK K
          have KR8 := hide_ (KR6.out.later HB8.out)
          have K8 := hide_ (K6.out.later HB8.out)
          have HT8 := hide_ (HT6.out.later HB8.out)
          have HR8 := hide_ (HR6.out.later HB8.out)
          have z0 := KR8.out.cell 0; have z1 := KR8.out.cell 1
          have zf := fun i => KR8.out.frozen i
          simp only [List.getElem?_cons_zero, List.getElem?_cons_succ] at z0 z1
          have HK := hide_ (wr2 KR8.out (.slice a U.length cap) (.slice ar Rc.length cr))
          have HBf := hide_ (below_wr2 (below_to HBx.out HB8.out) (w.heap.size + 1) (by omega) (.slice a U.length cap) (.slice ar Rc.length cr))
          have hst := st2 HT8.out HR8.out KR8.out (by omega) (.slice a U.length cap) (.slice ar Rc.length cr)
          have HTf := hide_ hst.1
          have HRf := hide_ hst.2
          have HIf := hide_ (HO8.out.upd (((Upd.refl (fun k => k = w.heap.size + 1) w8).set ⟨w.heap.size + 1, 0, none⟩ (.slice a U.length cap) (.inl rfl)).set ⟨w.heap.size + 1, 1, none⟩ (.slice ar Rc.length cr) (.inl rfl)) (fun k hk e => HO8.out.ne KR8.out (by decide) (by rw [← e]; exact hk)))
          have K9 := hide_ ((K8.out.other ⟨w.heap.size + 1, 0, none⟩ (.slice a U.length cap) (by show w3.heap.size ≠ w.heap.size + 1; omega)).other ⟨w.heap.size + 1, 1, none⟩ (.slice ar Rc.length cr) (by show w3.heap.size ≠ w.heap.size + 1; omega))
          have HS9 := hide_ (And.intro (K9.out.cell 0) (K9.out.cell 1))
          clear hst
          refine wpAnyH_ready (rs := [10]) (by kernel_rfl) (by simp) ?_
          refine AllReadyH.cons rfl (fun K hK => ?_) AllReadyH.nil
          go_simp
          refine hK.out _ _ (HS9.out) (fun hHeld => ?_)
          clear hK K
          refine wpAnyH_ready (rs := [11]) (by kernel_rfl) (by simp) ?_
          refine AllReadyH.cons rfl (fun K hK => ?_) AllReadyH.nil
          go_simp
          refine hK.out _ _ (HS9.out) (fun hHeld => ?_)
          clear hK K
          refine wpAnyH_ready (rs := [12]) (by kernel_rfl) (by simp) ?_
          refine AllReadyH.cons rfl (fun K hK => ?_) AllReadyH.nil
          go_simp
          refine hK.out _ _ (HS9.out) (fun hHeld => ?_)
          clear hK K
          refine wpAnyH_ready (rs := [13]) (by kernel_rfl) (by simp) ?_
          refine AllReadyH.cons rfl (fun K hK => ?_) AllReadyH.nil
          go_simp
          refine hK.out _ _ (HS9.out) (fun hHeld => ?_)
          clear hK K
          refine wpAnyH_done (by kernel_rfl) ?_ _
          go_wp2
          exact retM (v1 := .int .i64 (rn : Int)) (v2 := .slice aP' 300 cP') (v3 := .bool true) rfl rfl rfl rfl rfl HK.out ⟨a, cap, ar, cr, Q, (rn : Int), .slice aP' 300 cP', true, by rw [HU.out, HRc.out], by rw [HU.out]; exact HTf, by rw [HU.out]; exact HQ, by rw [HRc.out]; exact HRf, hide_ (fun _ => by rw [HU.out, HRc.out]; exact ⟨HS.out, by omega, by omega, p', HIf.out, by have h1 := HL8.out; have h2 := HLP.out; omega⟩), HBf⟩
  · have hc' : (e1 == 0) = false := by simpa using hc
    have HK := hide_ (wr2 KR5.out (.slice a U.length cap) (.slice ar Rc.length cr))
    have HBf := hide_ (below_wr2 HB5.out (w.heap.size + 1) (by omega) (.slice a U.length cap) (.slice ar Rc.length cr))
    have hst := st2 HT5.out HR5.out KR5.out (by omega) (.slice a U.length cap) (.slice ar Rc.length cr)
    have HTf := hide_ hst.1
    have HRf := hide_ hst.2
    clear hst
    go_wp2
    exact retM (v1 := .int .i64 0) (v2 := .slice none 0 0) (v3 := .bool false) rfl rfl rfl rfl rfl HK.out ⟨a, cap, ar, cr, Q, 0, .slice none 0 0, false, by rw [HU.out, HRc.out], by rw [HU.out]; exact HTf, by rw [HU.out]; exact HQ, by rw [HRc.out]; exact HRf, hide_ (fun h => by cases h), HBf⟩
end Go.Proofs.YtegejchamojfgaaDoor
