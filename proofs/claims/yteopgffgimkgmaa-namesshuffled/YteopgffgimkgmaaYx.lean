/- NamesShuffled: the walk. -/
import Derived.Test.YteopgffgimkgmaaYw
import Derived.Deep.RegionLaw
namespace Go.Proofs.Yteopgffgimkgmaa
open Go.RowKit
set_option linter.unusedVariables false

theorem i64v (n : Int) (h : -9223372036854775808 ≤ n ∧ n ≤ 9223372036854775807) : IntKind.i64.wrap n = n := by rw [IntKind.wrap_i64]; omega
theorem rem_ok (q : Int) (n : Nat) (hn : 0 < n) : -(n : Int) < Int.tmod q n ∧ Int.tmod q n < n := by
  refine ⟨?_, Int.tmod_lt_of_pos _ (by omega)⟩
  have := Int.lt_tmod_of_pos q (b := (n : Int)) (by omega)
  exact this
set_option maxRecDepth 100000 in
set_option maxHeartbeats 16000000 in
theorem shuffled_any (a aT : Option Addr) (c nT cT : Nat) (D : List Df) (lT : List Int) (w : World) (hlT : lT.length = nT) (hnT : nT ≤ 9223372036854775807) (hW : Hid (Wt D)) (r : Hid (DRow w a D)) (rT : Hid (Row .i64 w aT lT)) :
    Calls Try.prog 4 #[.agg #[.slice a D.length c], .slice aT nT cT] w fun e w' => e = .returned (.bool true) ∧ Below w.heap.size w w' := by
  have hD : D.length ≤ 2932031007401 := hW.out.1
  obtain ⟨w0, hw0⟩ : ∃ w0, w.alloc (.cells #[.slice a D.length c] 24) = w0 := ⟨_, rfl⟩
  have HB0 : Hid (Below w.heap.size w w0) := by rw [← hw0]; exact (Below.refl _ _).alloc (Nat.le_refl _) _
  have K0 : Hid (Blk w0 w.heap.size 24 [.slice a D.length c]) := by rw [← hw0]; exact Blk.newA w #[.slice a D.length c] 24
  go_enter Try.func4, Try.ntmps4
  go_upto_region 3 with (go_at_call 9; refine (nFirst_any _).mono ?_; rintro e w1 ⟨rfl, hB1⟩)
  have HB1 := hide_ (below_to HB0.out hB1)
  have K1 := hide_ (K0.out.later hB1)
  clear hw0 hB1 HB0 K0
  go_wp2_with fail
  go_loopw [5, 6] (fun x5 x6 wr => ∃ (vL : Value) (i : Nat), vL = x5 ∧ x6 = .int .i64 (i : Int) ∧ i ≤ D.length ∧ Hid (wr.ownsRow w.heap.size 3 1 vL i (cellsL .i64 (natI (List.range i)))) ∧ Hid (Blk wr w.heap.size 24 [.slice a D.length c]) ∧ Hid (Below w.heap.size w wr)) (fun _ x6 _ => D.length - (intOf x6).toNat)
  case atStart => exact ⟨_, 0, rfl, rfl, Nat.zero_le _, World.ownsRow_nil _ _ _ _, K1, HB1⟩
  case round =>
    clear HB1 K1
    obtain ⟨vL, i, rfl, rfl, hi, HO, HK, HB⟩ := hrel
    generalize wr = wq at *
    have c0 := HK.out.cell 0
    simp at c0
    by_cases hlt : i < D.length
    · have hlt' : (i : Int) < D.length := by omega
      obtain ⟨g1, c1, w2, r1, o1, u1, -⟩ := run_push EInt wq 26 w.heap.size vL i (natI (List.range i)) HO.out (i : Int) (by unfold maxLen; omega) (by omega) HB.out.size
      have R1 := hide_ r1
      have HO2 : Hid (w2.ownsRow w.heap.size 3 1 (.slice (some ⟨g1, 0, none⟩) (i + 1) c1) (i + 1) (cellsL .i64 (natI (List.range (i + 1))))) := hide_ (by
        rw [List.range_succ, natI_app]
        exact o1)
      have HK2 : Hid (Blk w2 w.heap.size 24 [.slice a D.length c]) := hide_ (HK.out.upd u1 fun e => by
        obtain ⟨zs, hz⟩ := ownS_type HO.out e
        exact absurd (blk_type HK.out hz) (by decide))
      have HB2 := hide_ (HB.out.trans (u1.below _ HB.out.size (fun k hk => (HO.out.lt k hk).1)))
      clear r1 o1 u1 HO HB
      go_wp2_with (at_builtin; have _t := R1; refine wpList_append_run rfl (.tmp 28) (.tmp 30) 26 26 rfl rfl rfl R1.out ?_; clear R1)
      go_roundw
      case rel => exact ⟨_, i + 1, rfl, by go_num, by omega, HO2, HK2, HB2⟩
      case measure => simp [intOf]; omega
    · have hlt' : ¬ (i : Int) < D.length := by omega
      obtain ⟨w2, hw2⟩ : ∃ w2, wq.alloc (.cells #[.slice none 0 0] 24) = w2 := ⟨_, rfl⟩
      have HBq : Hid (Below wq.heap.size wq w2) := by rw [← hw2]; exact (Below.refl _ _).alloc (Nat.le_refl _) _
      have Kt : Hid (Blk w2 wq.heap.size 24 [.slice none 0 0]) := by rw [← hw2]; exact Blk.newA wq #[.slice none 0 0] 24
      obtain ⟨bt, hbt⟩ : ∃ bt, wq.heap.size = bt := ⟨_, rfl⟩
      have HS : Hid (Sh w w2 (.slice a D.length c) D bt vL (.slice none 0 0) (.slice none 0 0) (List.range i) [] [] []) := hide_ (by
        subst hbt
        have hO := ownS_upd HO.out (Upd.of_below (S := fun _ => False) HBq.out) (fun _ _ h => h)
        refine ⟨HK.out.later HBq.out, Kt.out, HK.out.lt, by rw [List.length_range]; exact hO, World.ownsRow_nil _ _ _ _, fun k hk => by simp [Value.ownBlock] at hk, World.ownsRow_nil _ _ _ _, rfl, fun i d v h => by simp [pickD] at h, below_to HB.out HBq.out⟩)
      have HP : Hid (([] ++ List.range i : List Nat).Perm (List.range D.length)) := hide_ (by
        rw [show i = D.length by omega]
        exact List.Perm.refl _)
      clear HK HO HB
      go_upto_region 10 with fail
      clear hw2 HBq Kt hbt c0 hlt hlt' hi
      go_wp2_with fail
      go_loopw [5, 7, 9] (fun x5 x7 x9 wr => ∃ (vL vO vT : Value) (ln on : List Nat) (vs : List Value), vL = x5 ∧ vO = x7 ∧ x9 = .int .i64 (on.length : Int) ∧ on.length + ln.length = D.length ∧ Hid (Sh w wr (.slice a D.length c) D bt vL vO vT ln on on vs) ∧ Hid ((on ++ ln).Perm (List.range D.length))) (fun _ _ x9 _ => D.length - (intOf x9).toNat)
      case atStart => exact ⟨_, _, _, _, [], _, rfl, rfl, rfl, by have := HP.out.length_eq; simpa using this, HS, HP⟩
      case round =>
        clear HS HP
        obtain ⟨vL, vO, vT, ln, on, vs, rfl, rfl, rfl, hsum, HS, HP⟩ := hrel
        generalize wr = wq at *
        obtain ⟨aL, cL, hvL⟩ := own_form HS.out.oL
        subst hvL
        by_cases hln : 0 < ln.length
        · have hln' : (0 : Int) < ln.length := by omega
          have hon : ¬ (on.length : Int) < 0 := by omega
          go_upto_if 39 with fail
          go_cut [10] from 37 to 55 (fun x10 wc => ∃ k : Nat, x10 = .int .i64 (k : Int) ∧ k < ln.length ∧ wq = wc)
          case first =>
            by_cases hT : 0 < nT
            · have hT' : (0 : Int) < nT := by omega
              have hTn : ((nT : Int) == 0) = false := beq_eq_false_iff_ne.2 (by omega)
              have hLn : ((ln.length : Int) == 0) = false := beq_eq_false_iff_ne.2 (by omega)
              obtain ⟨j, hj⟩ : ∃ j, on.length % nT = j := ⟨_, rfl⟩
              have hjl : j < nT := by rw [← hj]; exact Nat.mod_lt _ hT
              have hm1 : Int.tmod (on.length : Int) (nT : Int) = (j : Int) := by rw [Int.tmod_eq_emod_of_nonneg (by omega), ← hj]; rfl
              have hjl' : (j : Int) < nT := by omega
              obtain ⟨bT, oT, rfl, hbT, hcT⟩ := rT.out.open (by omega)
              have cT := (HS.out.bel.cell (p := ⟨bT, oT + j, none⟩) hbT).trans (hcT j (by omega))
              obtain ⟨q, hq⟩ : ∃ q, lT.getD j 0 = q := ⟨_, rfl⟩
              rw [hq] at cT
              obtain ⟨rr, hr⟩ : ∃ rr, Int.tmod q (ln.length : Int) = rr := ⟨_, rfl⟩
              have hb := rem_ok q ln.length hln
              rw [hr] at hb
              clear hq hj hcT
              by_cases hr0 : rr < 0
              · obtain ⟨k, hk⟩ : ∃ k : Nat, (k : Int) = rr + ln.length := ⟨(rr + ln.length).toNat, by omega⟩
                have hw3 : IntKind.i64.wrap (rr + (ln.length : Int)) = (k : Int) := by rw [hk]; exact i64v _ (by omega)
                have HK : Hid (k < ln.length) := hide_ (by omega)
                clear hk
                go_wp2_with fail
                go_meet
                case rel => exact ⟨k, by first | rfl | (rw [← hw3, IntKind.wrap_i64]), HK.out, rfl⟩
              · obtain ⟨k, hk⟩ : ∃ k : Nat, (k : Int) = rr := ⟨rr.toNat, by omega⟩
                have HK : Hid (k < ln.length) := hide_ (by omega)
                go_wp2_with fail
                go_meet
                case rel => exact ⟨k, by rw [hk], HK.out, rfl⟩
            · have hT' : ¬ (0 : Int) < nT := by omega
              go_wp2_with fail
              go_meet
              case rel => exact ⟨0, rfl, hln, rfl⟩
          case rest =>
            obtain ⟨k, rfl, hk, rfl⟩ := hcut
            obtain ⟨m, hm⟩ : ∃ m, ln[k]? = some m := ⟨_, List.getElem?_eq_getElem hk⟩
            have hml : m < D.length := List.mem_range.1 (HP.out.mem_iff.1 (List.mem_append.2 (.inr (List.mem_of_getElem? hm))))
            have hml' : (m : Int) < D.length := by omega
            have hk' : (k : Int) < ln.length := by omega
            obtain ⟨d, hd⟩ : ∃ d, D[m]? = some d := ⟨_, List.getElem?_eq_getElem hml⟩
            obtain ⟨b, off, rfl, hb, hcl⟩ := r.out.open (by omega)
            obtain ⟨va, vc, hcx, hvc, hvn, hN⟩ := hcl m d hd
            obtain ⟨a', c', e, -, -, hlc, -, hg⟩ := own_open HS.out.oL (natI_len ln)
            obtain ⟨gL, rfl, -, -, -, -⟩ := hg hln
            injection e with e1 _ e3
            subst e1 e3
            clear hg
            obtain ⟨v, hv⟩ : ∃ v, Value.slice va d.ty.length vc = v := ⟨_, rfl⟩
            have hTy : TyAt w d v := ⟨va, vc, hv.symm, hvc, hvn, hN⟩
            obtain ⟨g1, c1, w1, q1, S1⟩ := HS.out.pushO m (by omega)
            have S1d := S1.later (Below.refl _ w1).drew
            obtain ⟨g2, c2, w2, q2, kT2, kS2, b2, oL2, S2⟩ := S1d.pushT hd hTy (by omega)
            obtain ⟨w3, hw3⟩ : ∃ w3, w2.setCell ⟨bt, 0, none⟩ (.slice (some ⟨g2, 0, none⟩) (on.length + 1) c2) = w3 := ⟨_, rfl⟩
            rw [hw3] at S2
            obtain ⟨a6, ha6⟩ : ∃ a6, (if cL = k + 1 then some (⟨gL, 0, none⟩ : Addr) else some ⟨gL, k + 1, none⟩) = a6 := ⟨_, rfl⟩
            obtain ⟨a4, c4, w4, q4, a5, c5, w5, q5, S5⟩ := S2.less (by omega) hk (cL - (k + 1)) a6 (by
              by_cases h7 : cL = k + 1
              · rw [if_pos h7] at ha6
                exact .inr ⟨by omega, _, ha6.symm⟩
              · rw [if_neg h7] at ha6
                exact .inl ha6.symm)
            have R1 := hide_ q1
            have R2 : Hid ((Builtin.append_ #[22, 22] 22 #[vT, .slice (some ⟨w1.heap.size, 0, none⟩) 1 1]).run Try.prog (w1.alloc (.cells #[.string d.name, .int .i64 d.a, v] 36)).drew = .ok (.slice (some ⟨g2, 0, none⟩) (on.length + 1) c2) w2) := hide_ q2
            have R3 := hide_ q4
            have R4 := hide_ q5
            have S1a := S1d.later ((Below.refl _ w1.drew).alloc (Nat.le_refl _) (.cells #[.string d.name, .int .i64 d.a, v] 36))
            have tri : ∀ wx : World, Blk wx w.heap.size 24 [.slice (some ⟨b, off, none⟩) D.length c] → wx.ownsRow w.heap.size 3 1 (.slice (some ⟨gL, 0, none⟩) ln.length cL) ln.length (cellsL .i64 (natI ln)) → Below w.heap.size w wx → (wx.cell? ⟨w.heap.size, 0, none⟩ = some (.slice (some ⟨b, off, none⟩) D.length c) ∧ wx.cell? ⟨gL, k, none⟩ = some (.int .i64 (m : Int)) ∧ wx.cell? ⟨b, off + m * 3, none⟩ = some (.string d.name) ∧ wx.cell? ⟨b, off + m * 3 + 1, none⟩ = some (.int .i64 d.a) ∧ wx.cell? ⟨b, off + m * 3 + 2, none⟩ = some v) := fun wx h1 h2 h3 => by
              refine ⟨h1.cell 0, own_cell h2 hm, (h3.cell (p := ⟨b, off + m * 3, none⟩) hb).trans (hcx 0 (by decide)), (h3.cell (p := ⟨b, off + m * 3 + 1, none⟩) hb).trans (hcx 1 (by decide)), ?_⟩
              rw [← hv]
              exact (h3.cell (p := ⟨b, off + m * 3 + 2, none⟩) hb).trans (hcx 2 (by decide))
            have HS0 := hide_ (tri w1.drew S1d.kS S1d.oL S1d.bel)
            have HS1 := hide_ (show _ from tri (w1.alloc (.cells #[.string d.name, .int .i64 d.a, v] 36)).drew S1a.kS S1a.oL S1a.bel)
            have HS2 := hide_ (tri w2 kS2 oL2 b2)
            have HS3 := hide_ (tri w3 S2.kS S2.oL S2.bel)
            have z0 := own_cell HS.out.oL hm
            have x5 : w1.drew.cell? ⟨bt, 0, none⟩ = some vT := S1d.kT.cell 0
            have x5a : (w1.alloc (.cells #[.string d.name, .int .i64 d.a, v] 36)).drew.cell? ⟨bt, 0, none⟩ = some vT := S1a.kT.cell 0
            have f2 := kT2.frozen 0
            have t2 : w2.cell? ⟨bt, 0, none⟩ = some vT := kT2.cell 0
            have hkc : (k : Int) ≤ cL := by omega
            have hkc2 : (ln.length : Int) ≤ cL := by omega
            have HSn := hide_ S5
            have HPn : Hid (((on ++ [m]) ++ (ln.take k ++ ln.drop (k + 1))).Perm (List.range D.length)) := hide_ ((perm_pick hm).trans HP.out)
            have Hw3 := hide_ hw3
            clear q1 S1 S1d q2 kT2 kS2 b2 oL2 S2 q4 q5 S5 S1a tri hcl hcx hN hTy HS HP hm hd hvn hv hw3
            go_upto_region 19 with (at_builtin; have _t := R1; refine wpList_append_run rfl (.tmp 56) (.tmp 61) 26 26 rfl rfl rfl R1.out ?_; clear R1)
            clear z0
            go_wp2_with fail
            refine wp_region_held_drew (S := (fun w' => w'.cell? ⟨w.heap.size, 0, none⟩ = some (.slice (some ⟨b, off, none⟩) D.length c) ∧ w'.cell? ⟨gL, k, none⟩ = some (.int .i64 (m : Int)) ∧ w'.cell? ⟨b, off + m * 3, none⟩ = some (.string d.name) ∧ w'.cell? ⟨b, off + m * 3 + 1, none⟩ = some (.int .i64 d.a) ∧ w'.cell? ⟨b, off + m * 3 + 2, none⟩ = some v)) (by kernel_rfl) HS0.out (fun hHeld => ?_)
            refine wpAnyH_take (i := 0) (v := ?v1) rfl (by kernel_rfl) (by kernel_rfl) (by kernel_rfl) (fun _ _ _ h => h) (Or.inl ⟨by rfl, ?hy1⟩) hHeld ?rest1
            case hy1 => intro w' hSw; (try dsimp only at hSw); go_simp; try with_reducible rfl
            simp only [Act.put]
            refine wpAnyH_take (i := 2) (v := ?v2) rfl (by kernel_rfl) (by kernel_rfl) (by kernel_rfl) (fun _ _ _ h => h) (Or.inl ⟨by rfl, ?hy2⟩) hHeld ?rest2
            case hy2 => intro w' hSw; (try dsimp only at hSw); go_simp; try with_reducible rfl
            simp only [Act.put]
            refine wpAnyH_take (i := 4) (v := ?v3) rfl (by kernel_rfl) (by kernel_rfl) (by kernel_rfl) (fun _ _ _ h => h) (Or.inl ⟨by rfl, ?hy3⟩) hHeld ?rest3
            case hy3 => intro w' hSw; (try dsimp only at hSw); go_simp; try with_reducible rfl
            simp only [Act.put]
            refine wpAnyH_take (i := 5) (v := ?v4) rfl (by kernel_rfl) (by kernel_rfl) (by kernel_rfl) (fun _ _ _ h => h) (Or.inl ⟨by rfl, ?hy4⟩) hHeld ?rest4
            case hy4 => intro w' hSw; (try dsimp only at hSw); go_simp; try with_reducible rfl
            simp only [Act.put]
            refine wpAnyH_take (i := 3) (v := ?v5) rfl (by kernel_rfl) (by kernel_rfl) (by kernel_rfl) (fun _ _ _ h => h) (Or.inl ⟨by rfl, ?hy5⟩) hHeld ?rest5
            case hy5 => intro w' hSw; (try dsimp only at hSw); go_simp; try with_reducible rfl
            simp only [Act.put]
            refine wpAnyH_take (i := 6) (v := ?v6) rfl (by kernel_rfl) (by kernel_rfl) (by kernel_rfl) (fun _ _ _ h => h) (Or.inl ⟨by rfl, ?hy6⟩) hHeld ?rest6
            case hy6 => intro w' hSw; (try dsimp only at hSw); go_simp; try with_reducible rfl
            simp only [Act.put]
            refine wpAnyH_take (i := 7) (v := ?v7) rfl (by kernel_rfl) (by kernel_rfl) (by kernel_rfl) (fun _ _ _ h => h) (Or.inl ⟨by rfl, ?hy7⟩) hHeld ?rest7
            case hy7 => intro w' hSw; (try dsimp only at hSw); go_simp; try with_reducible rfl
            simp only [Act.put]
            refine wpAnyH_take (i := 8) (v := ?v8) rfl (by kernel_rfl) (by kernel_rfl) (by kernel_rfl) (fun _ _ _ h => h) (Or.inl ⟨by rfl, ?hy8⟩) hHeld ?rest8
            case hy8 => intro w' hSw; (try dsimp only at hSw); go_simp; try with_reducible rfl
            simp only [Act.put]
            refine wpAnyH_take (i := 9) (v := ?v9) rfl (by kernel_rfl) (by kernel_rfl) (by kernel_rfl) (fun _ _ _ h => h) (Or.inl ⟨by rfl, ?hy9⟩) hHeld ?rest9
            case hy9 => intro w' hSw; (try dsimp only at hSw); go_simp; try with_reducible rfl
            simp only [Act.put]
            refine wpAnyH_ready (rs := [1, 10]) (by kernel_rfl) (by simp) ?_
            refine AllReadyH.cons rfl (fun K hK => ?_) ?_
            · go_simp
              refine hK.out _ _ (by first | exact HS1.out | exact HS2.out | exact HS3.out | exact HS0.out) (fun hHeld => ?_)
              clear hK K
              refine wpAnyH_ready (rs := [10]) (by kernel_rfl) (by simp) ?_
              refine AllReadyH.cons rfl (fun K hK => ?_) ?_
              · go_simp
                refine hK.out _ _ (by first | exact HS1.out | exact HS2.out | exact HS3.out | exact HS0.out) (fun hHeld => ?_)
                clear hK K
                refine wpAnyH_ready (rs := [11]) (by kernel_rfl) (by simp) ?_
                refine AllReadyH.cons rfl (fun K hK => ?_) ?_
                · refine step_append_run rfl (.tmp 64) (.tmp 73) 22 22 rfl rfl rfl R2.out ?_
                  refine hK.out _ _ (by first | exact HS1.out | exact HS2.out | exact HS3.out | exact HS0.out) (fun hHeld => ?_)
                  clear hK K
                  refine wpAnyH_take (i := 12) (v := ?v10) rfl (by kernel_rfl) (by kernel_rfl) (by kernel_rfl) (fun _ _ _ h => h) (Or.inl ⟨by rfl, ?hy10⟩) hHeld ?rest10
                  case hy10 => intro w' hSw; (try dsimp only at hSw); go_simp; try with_reducible rfl
                  simp only [Act.put]
                  refine wpAnyH_ready (rs := [13]) (by kernel_rfl) (by simp) ?_
                  refine AllReadyH.cons rfl (fun K hK => ?_) ?_
                  · go_simp
                    try rw [Hw3.out]
                    refine hK.out _ _ (by first | exact HS1.out | exact HS2.out | exact HS3.out | exact HS0.out) (fun hHeld => ?_)
                    clear hK K
                    refine wpAnyH_done (by kernel_rfl) ?_ _
                    clear x5 x5a f2 t2
                    go_wp2_with (first
                      | (at_builtin; have _t := R3; refine wpList_append_run rfl (.tmp 76) (.tmp 79) 26 26 rfl rfl rfl R3.out ?_; clear R3)
                      | (at_builtin; have _t := R4; refine wpList_append_run rfl (.tmp 81) (.tmp 85) 26 26 rfl rfl rfl R4.out ?_; clear R4))
                    go_roundw
                    case rel => exact ⟨_, _, _, _, on ++ [m], _, rfl, rfl, by simp, by simp; omega, HSn, HPn⟩
                    case measure => simp [intOf]; omega
                  exact AllReadyH.nil
                exact AllReadyH.nil
              exact AllReadyH.nil
            refine AllReadyH.cons rfl (fun K hK => ?_) ?_
            · go_simp
              refine hK.out _ _ (by first | exact HS1.out | exact HS2.out | exact HS3.out | exact HS0.out) (fun hHeld => ?_)
              clear hK K
              refine wpAnyH_ready (rs := [1]) (by kernel_rfl) (by simp) ?_
              refine AllReadyH.cons rfl (fun K hK => ?_) ?_
              · go_simp
                refine hK.out _ _ (by first | exact HS1.out | exact HS2.out | exact HS3.out | exact HS0.out) (fun hHeld => ?_)
                clear hK K
                refine wpAnyH_ready (rs := [11]) (by kernel_rfl) (by simp) ?_
                refine AllReadyH.cons rfl (fun K hK => ?_) ?_
                · refine step_append_run rfl (.tmp 64) (.tmp 73) 22 22 rfl rfl rfl R2.out ?_
                  refine hK.out _ _ (by first | exact HS1.out | exact HS2.out | exact HS3.out | exact HS0.out) (fun hHeld => ?_)
                  clear hK K
                  refine wpAnyH_take (i := 12) (v := ?v11) rfl (by kernel_rfl) (by kernel_rfl) (by kernel_rfl) (fun _ _ _ h => h) (Or.inl ⟨by rfl, ?hy11⟩) hHeld ?rest11
                  case hy11 => intro w' hSw; (try dsimp only at hSw); go_simp; try with_reducible rfl
                  simp only [Act.put]
                  refine wpAnyH_ready (rs := [13]) (by kernel_rfl) (by simp) ?_
                  refine AllReadyH.cons rfl (fun K hK => ?_) ?_
                  · go_simp
                    try rw [Hw3.out]
                    refine hK.out _ _ (by first | exact HS1.out | exact HS2.out | exact HS3.out | exact HS0.out) (fun hHeld => ?_)
                    clear hK K
                    refine wpAnyH_done (by kernel_rfl) ?_ _
                    clear x5 x5a f2 t2
                    go_wp2_with (first
                      | (at_builtin; have _t := R3; refine wpList_append_run rfl (.tmp 76) (.tmp 79) 26 26 rfl rfl rfl R3.out ?_; clear R3)
                      | (at_builtin; have _t := R4; refine wpList_append_run rfl (.tmp 81) (.tmp 85) 26 26 rfl rfl rfl R4.out ?_; clear R4))
                    go_roundw
                    case rel => exact ⟨_, _, _, _, on ++ [m], _, rfl, rfl, by simp, by simp; omega, HSn, HPn⟩
                    case measure => simp [intOf]; omega
                  exact AllReadyH.nil
                exact AllReadyH.nil
              exact AllReadyH.nil
            exact AllReadyH.nil
        · have hln' : ¬ (0 : Int) < ln.length := by omega
          obtain rfl : ln = [] := List.eq_nil_of_length_eq_zero (by omega)
          have hP := HP.out
          rw [List.append_nil] at hP
          obtain ⟨gg, hSh⟩ := shuf_of hP
          have HSh := hide_ hSh
          have hol : on.length = D.length := by simpa using hsum
          have HOL := hide_ hol
          obtain ⟨E, A, o, ds, hLk⟩ := lookTo_ex D
          have HLk := hide_ hLk
          obtain ⟨E', A', o', ds', hLk'⟩ := lookTo_ex (pickD D on)
          have HLk' := hide_ hLk'
          have HW' : Hid (Wt (pickD D on)) := hide_ ⟨by rw [pickD_len, hol]; exact hD, fun d hd => hW.out.2 d (hSh.mem hd)⟩
          obtain ⟨aT2, cT2, hvT, hRT⟩ := HS.out.row
          rw [pickD_len] at hvT
          subst hvT
          have HRT := hide_ hRT
          have HPL : Hid ((pickD D on).length = on.length) := hide_ (pickD_len D on)
          have HB := hide_ HS.out.bel
          have HKs := hide_ HS.out.kS
          have HKt := hide_ HS.out.kT
          have HoO := hide_ HS.out.oO
          have hEE : (E = 0 → E' = 0 ∧ ds.length = D.length ∧ ds'.length = D.length ∧ ∀ i, i < D.length → ds'.getD i 0 = ds.getD (on.getD i 0) 0) ∧ (E' = 0 → E = 0) := by
            refine ⟨fun h => ?_, fun h => ?_⟩
            · subst h
              obtain ⟨hG, -⟩ := hLk.zero
              obtain ⟨h1, h2, h3⟩ := hSh.good hG hLk'
              exact ⟨h1, hG.dep.1, h2, h3⟩
            · subst h
              obtain ⟨hG, -⟩ := hLk'.zero
              exact (hSh.symm.good hG hLk).1
          have HEE := hide_ hEE
          clear hP hSh hLk hLk' hRT hEE HP HS hol hsum hln
          have c0 := HKs.out.cell 0
          simp at c0
          have HC1 := hide_ (nCheck_any HLk.out a c wq hW (hide_ (r.out.later HB.out)))
          go_upto_region 24 with (go_at_call 12; refine HC1.out.mono ?_; rintro e w2 ⟨rfl, HB2⟩)
          clear c0 HC1
          obtain ⟨w3, hw3⟩ : ∃ w3, w2.alloc (.cells #[.int .i64 E, .int .i64 A] 29) = w3 := ⟨_, rfl⟩
          have HB3 : Hid (Below w2.heap.size w2 w3) := by rw [← hw3]; exact (Below.refl _ _).alloc (Nat.le_refl _) _
          have F3 : Hid (Blk w3 w2.heap.size 29 [.int .i64 E, .int .i64 A]) := by rw [← hw3]; exact Blk.newA w2 #[.int .i64 E, .int .i64 A] 29
          rw [hw3]
          have hB23 := below_to HB2.out HB3.out
          have HB3w := hide_ (below_to HB.out hB23)
          have Ks3 := hide_ (HKs.out.later hB23)
          have Kt3 := hide_ (HKt.out.later hB23)
          have oO3 := hide_ (ownS_upd HoO.out (Upd.of_below (S := fun _ => False) hB23) (fun _ _ h => h))
          have RT3 := hide_ (HRT.out.later hB23)
          clear hw3 hB23 HB2 HB3 HKs HKt HoO HRT HB
          have c0 := Kt3.out.cell 0
          simp at c0
          have HC2 := hide_ (nCheck_any HLk'.out aT2 cT2 w3 HW' RT3)
          rw [HPL.out] at HC2
          go_upto_region 25 with (go_at_call 12; refine HC2.out.mono ?_; rintro e w4 ⟨rfl, HB4⟩)
          clear c0 HC2
          obtain ⟨w5, hw5⟩ : ∃ w5, w4.alloc (.cells #[.int .i64 E', .int .i64 A'] 29) = w5 := ⟨_, rfl⟩
          have HB5 : Hid (Below w4.heap.size w4 w5) := by rw [← hw5]; exact (Below.refl _ _).alloc (Nat.le_refl _) _
          have G5 : Hid (Blk w5 w4.heap.size 29 [.int .i64 E', .int .i64 A']) := by rw [← hw5]; exact Blk.newA w4 #[.int .i64 E', .int .i64 A'] 29
          rw [hw5]
          have hB45 := below_to HB4.out HB5.out
          have HB5w := hide_ (below_to HB3w.out hB45)
          have Ks5 := hide_ (Ks3.out.later hB45)
          have Kt5 := hide_ (Kt3.out.later hB45)
          have F5 := hide_ (F3.out.later hB45)
          have oO5 := hide_ (ownS_upd oO3.out (Upd.of_below (S := fun _ => False) hB45) (fun _ _ h => h))
          have RT5 := hide_ (RT3.out.later hB45)
          clear hw5 hB45 HB4 HB5 Ks3 Kt3 F3 oO3 RT3 HB3w
          have e0 := F5.out.cell 0
          have e1 := G5.out.cell 0
          simp at e0 e1
          by_cases hE : E = 0
          · subst hE
            obtain ⟨hE', hl1, hl2, heq⟩ := HEE.out.1 rfl
            subst hE'
            have HL1 := hide_ hl1
            have HL2 := hide_ hl2
            clear hl1 hl2
            have HEq := hide_ heq
            clear heq HEE
            have c0 := Ks5.out.cell 0
            simp at c0
            have HC3 := hide_ (nDepth_any HLk.out a c w5 hW (hide_ (r.out.later HB5w.out)))
            go_upto_region 30 with (go_at_call 11; refine HC3.out.mono ?_; rintro e w6 ⟨xd, nd, pd, rfl, HD6, HB6⟩)
            clear c0 HC3 e0 e1
            obtain ⟨w7, hw7⟩ : ∃ w7, w6.alloc (.cells #[.int .i64 0, .int .i64 A] 29) = w7 := ⟨_, rfl⟩
            have HB7 : Hid (Below w6.heap.size w6 w7) := by rw [← hw7]; exact (Below.refl _ _).alloc (Nat.le_refl _) _
            rw [hw7]
            have hB67 := below_to HB6.out HB7.out
            have HB7w := hide_ (below_to HB5w.out hB67)
            have Kt7 := hide_ (Kt5.out.later hB67)
            have oO7 := hide_ (ownS_upd oO5.out (Upd.of_below (S := fun _ => False) hB67) (fun _ _ h => h))
            have RT7 := hide_ (RT5.out.later hB67)
            have HD7 := hide_ (ownS_upd HD6.out (Upd.of_below (S := fun _ => False) HB7.out) (fun _ _ h => h))
            clear hw7 hB67 HB6 HB7 HD6 Ks5 Kt5 F5 G5 oO5 RT5 HB5w
            have c0 := Kt7.out.cell 0
            simp at c0
            have HC4 := hide_ (nDepth_any HLk'.out aT2 cT2 w7 HW' RT7)
            rw [HPL.out] at HC4
            go_upto_region 31 with (go_at_call 11; refine HC4.out.mono ?_; rintro e w8 ⟨xq, nq, pq, rfl, HQ8, HB8⟩)
            clear c0 HC4
            obtain ⟨w9, hw9⟩ : ∃ w9, w8.alloc (.cells #[.int .i64 0, .int .i64 A'] 29) = w9 := ⟨_, rfl⟩
            have HB9 : Hid (Below w8.heap.size w8 w9) := by rw [← hw9]; exact (Below.refl _ _).alloc (Nat.le_refl _) _
            rw [hw9]
            have hB89 := below_to HB8.out HB9.out
            have HB9w := hide_ (below_to HB7w.out hB89)
            have oO9 := hide_ (ownS_upd oO7.out (Upd.of_below (S := fun _ => False) hB89) (fun _ _ h => h))
            have HD9 := hide_ (ownS_upd HD7.out (Upd.of_below (S := fun _ => False) hB89) (fun _ _ h => h))
            have HQ9 := hide_ (ownS_upd HQ8.out (Upd.of_below (S := fun _ => False) HB9.out) (fun _ _ h => h))
            clear hw9 hB89 HB8 HB9 HQ8 HD7 Kt7 oO7 RT7 HB7w
            obtain rfl := nil_of HD9.out
            obtain rfl := nil_of HQ9.out
            obtain ⟨aO, cO, rfl⟩ := own_form oO9.out
            rw [HL1.out, HL2.out, HOL.out]
            rw [HL1.out] at HD9
            rw [HL2.out] at HQ9
            have hne : ((D.length : Int) != (D.length : Int)) = false := by simp
            have HSt : Hid (∀ w', Below w9.heap.size w9 w' → w'.ownsRow w.heap.size 3 1 (.slice aO on.length cO) on.length (cellsL .i64 (natI on)) ∧ w'.ownsRow w5.heap.size 3 1 (.slice xd D.length pd) D.length (cellsL .i64 ds) ∧ w'.ownsRow w7.heap.size 3 1 (.slice xq D.length pq) D.length (cellsL .i64 ds') ∧ Below w.heap.size w w') := hide_ (fun w' hB => ⟨ownS_upd oO9.out (Upd.of_below (S := fun _ => False) hB) (fun _ _ h => h), ownS_upd HD9.out (Upd.of_below (S := fun _ => False) hB) (fun _ _ h => h), ownS_upd HQ9.out (Upd.of_below (S := fun _ => False) hB) (fun _ _ h => h), below_to HB9w.out hB⟩)
            clear oO9 HD9 HQ9 HB9w
            go_upto_region 33 with fail
            go_wp2_with fail
            go_loopw [18] (fun x18 wr => ∃ i : Nat, x18 = .int .i64 (i : Int) ∧ i ≤ D.length ∧ Hid (Below w9.heap.size w9 wr)) (fun x18 _ => D.length - (intOf x18).toNat)
            case atStart => exact ⟨0, rfl, Nat.zero_le _, hide_ (Below.refl _ _)⟩
            case round =>
              obtain ⟨i, rfl, hi, HBr⟩ := hrel
              generalize wr = wp at *
              obtain ⟨s1, s2, s3, s4⟩ := HSt.out _ HBr.out
              by_cases hlt : i < D.length
              · have hlt' : (i : Int) < D.length := by omega
                obtain ⟨m, hm⟩ : ∃ m, on[i]? = some m := ⟨_, List.getElem?_eq_getElem (by rw [HOL.out]; exact hlt)⟩
                have hmg : on.getD i 0 = m := by simp [List.getD, hm]
                have heq := HEq.out i hlt
                rw [hmg] at heq
                have hml : m < D.length := by
                  have h := (HSh.out.fl i hlt).1
                  rw [← hmg]; exact h
                have hml' : (m : Int) < D.length := by omega
                obtain ⟨a1, e1, h1, -, -, -, -, hg1⟩ := own_open s1 (natI_len on)
                obtain ⟨gO, rfl, -, -, hcO, -⟩ := hg1 (by rw [HOL.out]; omega)
                injection h1 with h1 _ h1c
                subst h1 h1c
                obtain ⟨a2, e2, h2, -, -, -, -, hg2⟩ := own_open s2 HL1.out
                obtain ⟨gD, rfl, -, -, hcD, -⟩ := hg2 (by omega)
                injection h2 with h2 _ h2c
                subst h2 h2c
                obtain ⟨a3, e3, h3, -, -, -, -, hg3⟩ := own_open s3 HL2.out
                obtain ⟨gQ, rfl, -, -, hcQ, -⟩ := hg3 (by omega)
                injection h3 with h3 _ h3c
                subst h3 h3c
                have y1 := hcO i (by rw [HOL.out]; exact hlt)
                rw [natI_at _ _ _ hm] at y1
                have y2 := hcD m hml
                have y3 := hcQ i hlt
                rw [heq] at y3
                generalize ds.getD m 0 = dv at *
                have hdd : (dv != dv) = false := by simp
                clear hg1 hg2 hg3 hcO hcD hcQ s1 s2 s3 s4 hm hmg heq
                go_wp2_with fail
                go_quiet (fail)
                go_wp2_with fail
                go_roundw
                case rel => exact ⟨i + 1, by go_num, by omega, hide_ (below_drewN HBr.out _)⟩
                case measure => simp [intOf]; omega
              · have hlt' : ¬ (i : Int) < D.length := by omega
                clear s1 s2 s3
                go_wp2
                go_ret
                exact ⟨rfl, s4⟩
          · have hE' : E' ≠ 0 := fun h => hE (HEE.out.2 h)
            have q1 : (E == 0) = false := beq_eq_false_iff_ne.2 hE
            have q2 : (E' == 0) = false := beq_eq_false_iff_ne.2 hE'
            have q3 : (E != 0) = true := by simpa using hE
            go_wp2
            go_ret
            exact ⟨rfl, HB5w.out⟩
end Go.Proofs.Yteopgffgimkgmaa
