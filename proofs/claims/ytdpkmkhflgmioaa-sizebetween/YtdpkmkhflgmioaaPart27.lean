import Derived.Test.YtdpkmkhflgmioaaPart26
import Derived.Test.YtdpkmkhflgmioaaPart23
import Derived.Test.YtdpkmkhflgmioaaPart16
import Derived.Test.YtdpkmkhflgmioaaPart18
import Derived.Test.YtdpkmkhflgmioaaPart17
import Derived.Test.YtdpkmkhflgmioaaPart20
import Derived.Test.YtdpkmkhflgmioaaPart22
import Derived.BigQuiet

/- SizeBetween: value answers a value of the type, or none. -/
namespace Go.Proofs.Ytdpkmkhflgmioaa
open Go.RowKit
set_option linter.unusedVariables false

/-- value's memory at a round's head. -/
structure VaS (w wr : World) (gO : Nat) (a b v : Value) (Q : List (Ty × Value)) : Prop where
  arg : Blk wr w.heap.size 25 [a, b]
  out : Blk wr gO 25 [v, b]
  own : TOwn wr w.heap.size v Q
  bel : Below w.heap.size w wr
def VaTo (T : List Ty) (R : List Rt) (t : Int) (w : World) (e : Ending) (w' : World) : Prop := ∃ v ok, e = .returned (.tuple #[v, .bool ok]) ∧ Hid (Below w.heap.size w w') ∧ Hid (ok = true → ∃ V p, someT (shT T) R t p = (V, 0) ∧ NOwn w' w.heap.size v V)
theorem minI (n : Int) : (if (3 : Int) < n then (3 : Int) else n) = min n 3 := by split <;> omega
theorem sh_lens {T : List Ty} (h : LensT T) : LensT (shT T) := ⟨by rw [shT_len]; exact h.1, fun t ht => by
  unfold shT at ht
  obtain ⟨u, hu, rfl⟩ := List.mem_map.1 ht
  rw [sh1_ps]
  exact h.2 u hu⟩
theorem shT_succ {T : List Ty} {i : Nat} {t : Ty} (h : T[i]? = some t) : (T.take (i + 1)).map sh1 = (T.take i).map sh1 ++ [sh1 t] := by
  have hi := (List.getElem?_eq_some_iff.1 h).1
  rw [List.take_succ_eq_append_getElem hi, (List.getElem?_eq_some_iff.1 h).2, List.map_append]
  rfl
set_option maxRecDepth 100000 in
set_option maxHeartbeats 16000000 in
theorem value_any (bT oT cT : Nat) (T : List Ty) (aR : Option Addr) (cR : Nat) (R : List Rt) (num : Nat) (aP : Option Addr) (cP : Nat) (P : List Int) (w : World) (hn : T.length ≤ 1000000) (hm : R.length ≤ 1000000) (hnum : num < T.length) (hL : Hid (LensT T)) (hS : Hid (OkS T R)) (hT : Hid (TRow w (some ⟨bT, oT, none⟩) T)) (hRr : Hid (RRow w aR R)) (hPr : Hid (Row .i64 w aP P)) :
    Calls Try.prog 11 #[.agg #[.slice (some ⟨bT, oT, none⟩) T.length cT, .slice aR R.length cR], .int .i64 (num : Int), .slice aP P.length cP] w fun e w' => VaTo T R (num : Int) w e w' := by
  obtain ⟨w1, hw1⟩ : ∃ wx, wx = w.alloc (.cells #[.slice (some ⟨bT, oT, none⟩) T.length cT, .slice aR R.length cR] 25) := ⟨_, rfl⟩
  have b1 : Below w.heap.size w w1 := by rw [hw1]; exact below1 _ _
  have k1 : Blk w1 w.heap.size 25 [.slice (some ⟨bT, oT, none⟩) T.length cT, .slice aR R.length cR] := by rw [hw1]; exact Blk.newA w _ _
  have HB1 := hide_ b1
  have K1 := hide_ k1
  have i0 := k1.cell 0; have i1 := k1.cell 1
  simp at i0 i1
  have HSm := hide_ (small_any bT oT cT T aR cR R num w1 hn hnum hS (hide_ (hT.out.later b1)))
  clear b1 k1
  go_enter Try.func11, Try.ntmps11
  go_upto_region 1 with fail
  rw [← hw1]
  clear hw1
  go_wp2_with fail
  refine HSm.out.mono ?_
  rintro e w2 ⟨sb, rfl, hb2⟩
  have HB2 := hide_ (below_to HB1.out hb2)
  have K2 := hide_ (K1.out.later hb2)
  clear i0 i1 hb2 K1 HSm HB1
  cases sb with
  | false =>
    have HF : Hid (VaTo T R (num : Int) w (.returned (.tuple #[.slice none 0 0, .bool false])) w2) := hide_ ⟨_, false, rfl, HB2, hide_ (fun h => by cases h)⟩
    go_wp2
    go_ret2
    exact HF.out
  | true =>
    have j1 := K2.out.cell 1
    simp at j1
    obtain ⟨w3, hw3⟩ : ∃ wx, wx = w2.alloc (.cells #[.slice none 0 0, .slice aR R.length cR] 25) := ⟨_, rfl⟩
    have b3 : Below w2.heap.size w2 w3 := by rw [hw3]; exact below1 _ _
    have k3 : Blk w3 w2.heap.size 25 [.slice none 0 0, .slice aR R.length cR] := by rw [hw3]; exact Blk.newA w2 _ _
    obtain ⟨gO, hgO⟩ : ∃ g, w2.heap.size = g := ⟨_, rfl⟩
    rw [hgO] at k3
    have hgb : w.heap.size < gO := by have := K2.out.lt; omega
    have HV3 : Hid (VaS w w3 gO (.slice (some ⟨bT, oT, none⟩) T.length cT) (.slice aR R.length cR) (.slice none 0 0) []) := hide_ ⟨K2.out.later b3, k3, ⟨World.ownsRow_nil _ _ _ _, fun p hp => by cases hp⟩, below_to HB2.out b3⟩
    clear b3 k3 K2 HB2
    go_upto_region 4 with fail
    rw [← hw3]
    try rw [hgO]
    clear hw3 hgO j1
    go_wp2_with fail
    go_loopw [9] (fun x9 wr => ∃ (i : Nat) (v : Value) (Q : List (Ty × Value)), i ≤ T.length ∧ x9 = .int .i64 (i : Int) ∧ Hid (Q.map (·.1) = (T.take i).map sh1) ∧ Hid (VaS w wr gO (.slice (some ⟨bT, oT, none⟩) T.length cT) (.slice aR R.length cR) v Q)) (fun x9 _ => T.length - (intOf x9).toNat)
    case atStart => exact ⟨0, _, [], Nat.zero_le _, rfl, hide_ (by simp), HV3⟩
    case round =>
      obtain ⟨i, v, Q, hi, rfl, HQ, HS⟩ := hrel
      clear HV3
      generalize wr = wq at *
      have i0 := HS.out.arg.cell 0
      simp at i0
      by_cases hlt : i < T.length
      · have hlt' : (i : Int) < T.length := by omega
        have hx : T[i]? = some (T[i]'hlt) := List.getElem?_eq_getElem hlt
        obtain ⟨_, _, e3, hbT, hcT⟩ := hT.out.open (by omega)
        injection e3 with e3
        injection e3 with e4 e5 _
        subst e4 e5
        obtain ⟨va, vc, hty, hvc, hnl, hpr⟩ := hcT i _ hx
        have HX := hide_ hx
        generalize T[i]'hlt = t at *
        have hty' : ∀ j, j < 4 → wq.cell? ⟨bT, oT + i * 4 + j, none⟩ = (tyc t (.slice va t.ps.length vc))[j]? := fun j hj => (HS.out.bel.cell (p := ⟨bT, oT + i * 4 + j, none⟩) hbT).trans (hty j hj)
        obtain ⟨tk, tn, el, ps⟩ := t
        have y0 := hty' 0 (by decide); have y1 := hty' 1 (by decide); have y2 := hty' 2 (by decide); have y3 := hty' 3 (by decide)
        simp [tyc] at y0 y1 y2 y3
        obtain ⟨av, cv, hav, -⟩ := HS.out.own.row
        rw [List.length_map] at hav
        subst hav
        have hQl : Q.length ≤ 1000000 := by have := congrArg List.length HQ.out; simp at this; omega
        obtain ⟨wa, hwa⟩ : ∃ wx, wx = wq.alloc (.cells #[.int .i64 tk, .int .i64 tn, .int .i64 el, .slice va ps.length vc] 62) := ⟨_, rfl⟩
        have ba : Below wq.heap.size wq wa := by rw [hwa]; exact below1 _ _
        have ka : Blk wa wq.heap.size 62 [.int .i64 tk, .int .i64 tn, .int .i64 el, .slice va ps.length vc] := by rw [hwa]; exact Blk.newA wq _ _
        have hz0 : w.heap.size ≤ wq.heap.size := HS.out.bel.size
        have hgq : gO < wq.heap.size := HS.out.out.lt
        have KEY : Hid (∀ (wb : World) (tn' : Int), Below wq.heap.size wq wb → Blk wb wq.heap.size 62 [.int .i64 tk, .int .i64 tn', .int .i64 el, .slice va ps.length vc] → sh1 ⟨tk, tn, el, ps⟩ = ⟨tk, tn', el, ps⟩ → ∃ g8 c8 w8, (Builtin.append_ #[22, 22] 22 #[.slice av Q.length cv, .slice (some ⟨wb.heap.size, 0, none⟩) 1 1]).run Try.prog (wb.alloc (.cells #[.int .i64 tk, .int .i64 tn', .int .i64 el, .slice va ps.length vc] 62)) = .ok (.slice (some ⟨g8, 0, none⟩) (Q.length + 1) c8) w8 ∧ w8.cell? ⟨gO, 0, none⟩ = some (.slice av Q.length cv) ∧ w8.frozen? ⟨gO, 0, none⟩ = false ∧ wb.cell? ⟨gO, 0, none⟩ = some (.slice av Q.length cv) ∧ VaS w (w8.setCell ⟨gO, 0, none⟩ (.slice (some ⟨g8, 0, none⟩) (Q.length + 1) c8)) gO (.slice (some ⟨bT, oT, none⟩) T.length cT) (.slice aR R.length cR) (.slice (some ⟨g8, 0, none⟩) (Q.length + 1) c8) (Q ++ [(⟨tk, tn', el, ps⟩, .slice va ps.length vc)]) ∧ (Q ++ [((⟨tk, tn', el, ps⟩ : Ty), Value.slice va ps.length vc)]).map (·.1) = (T.take (i + 1)).map sh1) := hide_ (fun wb tn' bb kb hsh => by
          have hpt : PtIn wb w.heap.size ps (.slice va ps.length vc) := ⟨va, vc, rfl, hvc, hnl, hpr.later (below_to HS.out.bel bb), by
            rcases hpr with h | ⟨b', o', rfl, hb', -⟩
            · exact .inl h
            · exact .inr (fun x hx => by cases hx; exact .inl hb')⟩
          have hown := HS.out.own.later bb
          obtain ⟨g8, c8, w8, hrun, hO8, hU8, hL8⟩ := hown.push2 ⟨tk, tn', el, ps⟩ (.slice va ps.length vc) rfl hpt (by omega) (Nat.le_trans hz0 bb.size)
          have nb : ∀ k t' ys, Blk wb k t' ys → t' ≠ 62 → ¬ (Value.slice av Q.length cv).ownBlock = some k := fun k t' ys hb ht e => by
            obtain ⟨zs, hz⟩ := ownS_type hown.1 e
            exact ht (blk_type hb hz)
          have ob := HS.out.out.later bb
          have ab := HS.out.arg.later bb
          have o8 := ob.upd hU8 (nb _ _ _ ob (by decide))
          have a8 := ab.upd hU8 (nb _ _ _ ab (by decide))
          have hB8 : Below w.heap.size w w8 := (below_to HS.out.bel bb).trans (hU8.below _ (below_to HS.out.bel bb).size (fun k hk => (World.ownsRow.lt hown.1 k hk).1))
          refine ⟨g8, c8, w8, hrun, o8.cell 0, o8.frozen 0, ob.cell 0, ⟨a8.other _ _ (by show w.heap.size ≠ gO; omega), ?_, ?_, below_set hB8 _ _ _ (by omega)⟩, ?_⟩
          · have h := o8.set 0 (.slice (some ⟨g8, 0, none⟩) (Q.length + 1) c8)
            simpa using h
          · exact hO8.other o8 (by omega) (by decide) (by decide) 0 _
          · rw [shT_succ HX.out, List.map_append, HQ.out, hsh]
            rfl)
        have q0 := ka.cell 0; have q1 := ka.cell 1
        simp at q0 q1
        clear hty hty' hcT hx
        by_cases h5 : tk = 5
        · subst h5
          have hmn := minI tn
          obtain ⟨mn, hmn2⟩ : ∃ mn, min tn 3 = mn := ⟨_, rfl⟩
          rw [hmn2] at hmn
          obtain ⟨wb, hwb⟩ : ∃ wx, wx = wa.setCell ⟨wq.heap.size, 1, none⟩ (.int .i64 mn) := ⟨_, rfl⟩
          have bb : Below wq.heap.size wq wb := by rw [hwb]; exact below_set ba _ _ _ (Nat.le_refl _)
          have kb : Blk wb wq.heap.size 62 [.int .i64 5, .int .i64 mn, .int .i64 el, .slice va ps.length vc] := by
            rw [hwb]
            have h := ka.set 1 (.int .i64 mn)
            simpa using h
          obtain ⟨g8, c8, w8, hrun, z8, f8, z0, hV, hQn⟩ := KEY.out wb mn bb kb (by simp [sh1, hmn2])
          have HR := hide_ hrun
          have HVn := hide_ hV
          have HQn := hide_ hQn
          have fa := ka.frozen 1
          have r0 := kb.cell 0; have r1 := kb.cell 1; have r2 := kb.cell 2; have r3 := kb.cell 3
          simp at r0 r1 r2 r3
          clear hrun hV hQn KEY kb ka bb ba
          go_upto_region 8 with fail
          rw [← hwa]
          clear hwa y0 y1 y2 y3 i0
          go_upto_region 10 with fail
          try rw [hmn]
          rw [← hwb]
          clear hwb q0 q1 fa
          go_wp2_with (first | (at_builtin; refine wpList_append_run rfl (.tmp 42) (.tmp 44) 22 22 rfl rfl rfl HR.out ?_; clear HR) | fail)
          go_roundw
          case rel => exact ⟨i + 1, _, _, by omega, by go_num, HQn, HVn⟩
          case measure => simp [intOf]; omega
        · have h5' : (tk == 5) = false := by simpa using h5
          obtain ⟨g8, c8, w8, hrun, z8, f8, z0, hV, hQn⟩ := KEY.out wa tn ba ka (by simp [sh1, h5])
          have HR := hide_ hrun
          have HVn := hide_ hV
          have HQn := hide_ hQn
          have r2 := ka.cell 2; have r3 := ka.cell 3
          simp at r2 r3
          clear hrun hV hQn KEY ka ba
          go_upto_region 8 with fail
          rw [← hwa]
          clear hwa y0 y1 y2 y3 i0
          go_wp2_with (first | (at_builtin; refine wpList_append_run rfl (.tmp 42) (.tmp 44) 22 22 rfl rfl rfl HR.out ?_; clear HR) | fail)
          go_roundw
          case rel => exact ⟨i + 1, _, _, by omega, by go_num, HQn, HVn⟩
          case measure => simp [intOf]; omega
      · have hlt' : ¬ (i : Int) < T.length := by omega
        have hQT : Q.map (·.1) = shT T := by rw [HQ.out, show i = T.length by omega, List.take_length]; rfl
        obtain ⟨av, cv, hav, hrow⟩ := HS.out.own.row
        rw [hQT] at hav hrow
        subst hav
        have hS2 := sh_ok hS.out
        have HOf := hide_ (ofR_any av cv (shT T) aR cR R wq (by rw [shT_len]; omega) (by omega) (hide_ (sh_lens hL.out)) (hide_ hrow) (hide_ (hRr.out.later HS.out.bel)))
        have o0 := HS.out.out.cell 0; have o1 := HS.out.out.cell 1
        simp at o0 o1
        have HRow := hide_ hrow
        clear hrow hQT HQ
        go_wp2_with fail
        refine HOf.out.mono ?_
        rintro e w4 (⟨hne, -, -⟩ | ⟨-, vX, rfl, hX4, hB4⟩)
        · exact absurd hne (by rw [hS2.chk]; simp)
        obtain ⟨aX, cX, hvX, -, -, hXr⟩ := hX4.row
        subst hvX
        obtain ⟨bX, oX, rfl, -, hcX⟩ := hXr.open (by rw [extL_len, shT_len]; omega)
        have hxk := hcX num _ (exAt_at (by rw [extL_len, shT_len]; exact hnum))
        have c1 := hxk 1 (by decide); have c2 := hxk 2 (by decide)
        simp [exc] at c1 c2
        have hxl : (extL (shT T)).length = T.length := by rw [extL_len, shT_len]
        rw [hxl]
        have hnum' : (num : Int) < T.length := by omega
        generalize exAt (extL (shT T)) (num : Int) = ex at *
        have HB4 := hide_ (below_to HS.out.bel hB4)
        have K4 := hide_ (HS.out.out.later hB4)
        have HTr4 := hide_ (HRow.out.later hB4)
        have o4 := K4.out.cell 0; have o5 := K4.out.cell 1
        simp at o4 o5
        clear hcX hxk hXr hX4 hB4 o0 o1 i0 HOf hxl
        have HSo : Hid (∀ (aP' : Option Addr) (nP' cP' : Nat) (p : List Int), p.length = nP' → Row .i64 w4 aP' p → Calls Try.prog 30 #[.agg #[.slice av (shT T).length cv, .slice aR R.length cR], .int .i64 (num : Int), .slice aP' nP' cP'] w4 fun e w' => SoTo (someT (shT T) R (num : Int) p) w4 e w') := hide_ (fun aP' nP' cP' p h1 h2 => someR_any av cv (shT T) aR cR R (num : Int) aP' nP' cP' p w4 (by rw [shT_len]; omega) (by omega) (hide_ (sh_lens hL.out)) HTr4 (hide_ (hRr.out.later HB4.out)) (hide_ h1) (hide_ h2))
        have HNum : Hid (∀ n w', Calls Try.prog 9 #[.int .i64 n] w' fun e w'' => e = .returned (.int .i64 n) ∧ w' = w'') := hide_ (fun n w' => num_any n w')
        have HPr4 := hide_ (hPr.out.later HB4.out)
        have HNo : Hid (VaTo T R (num : Int) w (.returned (.tuple #[.slice none 0 0, .bool false])) w4) := hide_ ⟨_, false, rfl, HB4, hide_ (fun h => by cases h)⟩
        have HYes : Hid (∀ (p : List Int) (v : Value) (w5 : World), Hid (NOwn w5 w4.heap.size v (someT (shT T) R (num : Int) p).1) → Hid (Below w4.heap.size w4 w5) → VaTo T R (num : Int) w (.returned (.tuple #[v, .bool ((someT (shT T) R (num : Int) p).2 == 0)])) w5) := hide_ (fun p v w5 hO hB => ⟨v, _, rfl, hide_ (below_to HB4.out hB.out), hide_ (fun h => ⟨(someT (shT T) R (num : Int) p).1, p, by
            have h0 : (someT (shT T) R (num : Int) p).2 = 0 := by simpa using h
            rw [← h0], own_base hO.out HB4.out.size⟩)⟩)
        generalize (shT T).length = nT at *
        have fin : ∀ (aP' : Option Addr) (nP' cP' : Nat) (p : List Int), p.length = nP' → Row .i64 w4 aP' p → True := fun _ _ _ _ _ _ => trivial
        clear fin
        by_cases hm4 : 4000 < ex.m
        · by_cases hl4 : 4000 < ex.l
          · go_wp2
            go_ret2
            exact HNo.out
          · have HSo1 := hide_ (HSo.out none 0 0 [] rfl (.inl ⟨rfl, rfl⟩))
            have HY := hide_ (HYes.out [])
            generalize someT (shT T) R (num : Int) [] = A at *
            obtain ⟨VV, EE⟩ := A
            clear HSo HYes
            go_wp2_with fail
            refine HSo1.out.mono ?_
            rintro e w5 ⟨v5, rfl, HO5, HB5⟩
            have HY5 := hide_ (HY.out v5 w5 HO5 HB5)
            go_wp2_with fail
            refine (HNum.out _ _).mono ?_; rintro e w' ⟨rfl, rfl⟩
            go_wp2
            go_ret2
            exact HY5.out
        · by_cases hl4 : 4000 < ex.l
          · go_wp2
            go_ret2
            exact HNo.out
          · have HSo1 := hide_ (HSo.out aP P.length cP P rfl HPr4.out)
            have HY := hide_ (HYes.out P)
            generalize someT (shT T) R (num : Int) P = A at *
            obtain ⟨VV, EE⟩ := A
            clear HSo HYes
            go_wp2_with fail
            refine HSo1.out.mono ?_
            rintro e w5 ⟨v5, rfl, HO5, HB5⟩
            have HY5 := hide_ (HY.out v5 w5 HO5 HB5)
            go_wp2_with fail
            refine (HNum.out _ _).mono ?_; rintro e w' ⟨rfl, rfl⟩
            go_wp2
            go_ret2
            exact HY5.out
end Go.Proofs.Ytdpkmkhflgmioaa

/- SizeLengths: nodes that are lent, nodes that are kept; what lies in memory. -/
namespace Go.Proofs.Ytdpkmkhflgmioaa
open Go.RowKit
set_option linter.unusedVariables false

def mqN : Nv := ⟨23130, 0, 0⟩
theorem nvc_one (x : Nv) : ∀ u ∈ nvc x, u.oneCell' = true := fun u hu => by
  simp [nvc] at hu
  rcases hu with rfl | rfl | rfl <;> rfl
theorem nvO (w : World) (a : Option Addr) (c : Nat) (V : List Nv) (hV : VRow w a V) (hn : a = none → c = 0) (hl : V.length ≤ 1000000) :
    ∃ v1 w1 g2 c2 w2, (Builtin.append_ #[38, 38] 38 #[.slice none 0 0, .slice a V.length c]).run Try.prog w = .ok v1 w1 ∧
      (Builtin.append_ #[38, 38] 38 #[v1, .slice (some ⟨w1.heap.size, 0, none⟩) 1 1]).run Try.prog (w1.alloc (.cells #[.int .i64 23130, .int .u64 0, .int .i64 0] 58)) = .ok (.slice (some ⟨g2, 0, none⟩) (V.length + 1) c2) w2 ∧
      NOwn w2 w.heap.size (.slice (some ⟨g2, 0, none⟩) (V.length + 1) c2) (V ++ [mqN]) ∧ Below w.heap.size w w1 ∧ Below w.heap.size w w2 ∧ V.length + 1 ≤ c2 := by
  obtain ⟨v1, w1, h1, h2, h3⟩ := run_copyG (P := Try.prog) nvc_len nvc_one Try.underlying38 infoN rfl (by decide) w a V.length c V rfl hV hn (by unfold maxLen; omega) (by omega)
  have h2r : NOwn w1 w.heap.size v1 V := h2
  have kb : Blk (w1.alloc (.cells #[.int .i64 23130, .int .u64 0, .int .i64 0] 58)) w1.heap.size 58 (nvc mqN) := Blk.newA w1 _ _
  have ba := below1 w1 (.cells #[.int .i64 23130, .int .u64 0, .int .i64 0] 58)
  obtain ⟨g2, c2, w2, k1, k2, k3, k4, k5, -⟩ := run_app1 (P := Try.prog) nvc_len nvc_one Try.underlying38 infoN rfl (by decide) _ (h2r.later ba) w1.heap.size mqN kb (by unfold maxLen; omega) (by omega) (Nat.le_trans h3.size ba.size)
  have hb2 : Below w.heap.size w w2 := (below_to h3 ba).trans (k3.below _ (Nat.le_trans h3.size ba.size) (fun k hk => (World.ownsRow.lt h2r k hk).1))
  exact ⟨v1, w1, g2, c2, w2, h1, k1, k2, h3, hb2, k5⟩
/-- What lentNodes answers. -/
def LvTo (V : List Nv) (w : World) (e : Ending) (w' : World) : Prop := ∃ g c, e = .returned (.slice (some ⟨g, 0, none⟩) V.length c) ∧ Hid (NOwn w' w.heap.size (.slice (some ⟨g, 0, none⟩) (V.length + 1) c) (V ++ [mqN])) ∧ Hid (V.length + 1 ≤ c) ∧ Hid (Below w.heap.size w w')
set_option maxRecDepth 100000 in
set_option maxHeartbeats 4000000 in
theorem lentN_any (a : Option Addr) (c : Nat) (V : List Nv) (w : World) (hV : Hid (VRow w a V)) (hn : a = none → c = 0) (hl : V.length ≤ 1000000) :
    Calls Try.prog 16 #[.slice a V.length c] w fun e w' => LvTo V w e w' := by
  obtain ⟨v1, w1, g2, c2, w2, h1, h2, h3, h4, h5, h6⟩ := nvO w a c V hV.out hn hl
  have H1 := hide_ h1
  have H2 := hide_ h2
  have H3 := hide_ h3
  have H5 := hide_ h5
  have H6 := hide_ h6
  have h6' : (V.length : Int) ≤ c2 := by omega
  clear h1 h2 h3 h4 h5 h6
  go_enter Try.func16, Try.ntmps16
  go_wp2_with (first | (at_builtin; refine wpList_append_run rfl (.const (.slice none 0 0)) (.tmp 3) 38 38 rfl rfl rfl H1.out ?_; clear H1) | (at_builtin; refine wpList_append_run rfl (.tmp 4) (.tmp 6) 38 38 rfl rfl rfl H2.out ?_; clear H2))
  go_ret
  exact ⟨g2, c2, rfl, H3, H6, H5⟩
set_option maxRecDepth 100000 in
set_option maxHeartbeats 4000000 in
theorem keptN_yes (g c B : Nat) (b : Option Addr) (d : Nat) (V : List Nv) (w : World) (hl : V.length ≤ 1000000) (hc : V.length + 1 ≤ c) (hO : Hid (NOwn w B (.slice (some ⟨g, 0, none⟩) (V.length + 1) c) (V ++ [mqN]))) (hV : Hid (VRow w b V)) :
    Calls Try.prog 20 #[.slice (some ⟨g, 0, none⟩) V.length c, .slice b V.length d] w fun e w' => e = .returned (.bool true) ∧ Below w.heap.size w w' := by
  have hr : VRow w (some ⟨g, 0, none⟩) V := by
    obtain ⟨a2, c2, e2, -, -, g2⟩ := own_grow nvc_len hO.out
    injection e2 with e2 _ _
    subst e2
    have g3 := g2.take V.length
    rw [List.take_left] at g3
    exact g3
  have HE := hide_ (equal_yes (some ⟨g, 0, none⟩) b c d V.length V w (hide_ rfl) (by omega) (hide_ hr) hV)
  have hc' : (V.length : Int) + 1 ≤ c := by omega
  have hw1 : wrap64 ((V.length : Int) + 1) = (V.length : Int) + 1 := w64 _ (by omega)
  have HM : Hid (∀ w', Below w.heap.size w w' → w'.cell? ⟨g, V.length * 3, none⟩ = some (.int .i64 23130)) := hide_ (fun w' hb => ((hO.out.later hb).at3 (i := V.length) (x := mqN) (by rw [List.getElem?_append_right (Nat.le_refl _)]; simp)).1)
  have hlt : (V.length : Int) < (V.length : Int) + 1 := by omega
  clear hr
  go_enter Try.func20, Try.ntmps20
  go_wp2_with fail
  refine HE.out.mono ?_
  rintro e w1 ⟨rfl, hb⟩
  have m0 := HM.out w1 hb
  have HB := hide_ hb
  clear hb
  generalize V.length = n at *
  go_wp2
  go_ret
  exact ⟨rfl, HB.out⟩
theorem LtS.updS {w w' : World} {B gT cT gR cR : Nat} {Q : List (Ty × Value)} {R : List Rt} {q : Pt} {tq : Ty} {rq : Rt} {S : Nat → Prop} (h : LtS w B gT cT Q gR cR R q tq rq) (hu : Upd S w w') (hs : ∀ k, S k → k < B) : LtS w' B gT cT Q gR cR R q tq rq := by
  refine ⟨⟨ownS_upd h.ty.1 hu (fun k hk hS => ?_), fun p hp => ?_⟩, fun p hp => ?_, ownS_upd h.rt hu (fun k hk hS => ?_)⟩
  · have := (World.ownsRow.lt h.ty.1 k hk).1; have := hs k hS; omega
  · rcases List.mem_append.1 hp with hp | hp
    · refine MkIn.ptIn (q := q) (B := B) ?_ B
      obtain ⟨g, c, e, h1, h2, h3, ys, h4⟩ := h.mks p hp
      have hg : ¬ S g := fun hS => by have := hs g hS; omega
      exact ⟨g, c, e, h1, h2.upd hu (fun x hx => by cases hx; exact hg), h3, ys, h4.upd hu hg⟩
    · obtain ⟨va, vc, e, h1, h2, h3, h4⟩ := h.ty.2 p (List.mem_append.2 (.inr hp))
      have hp2 := hp
      simp at hp2
      subst hp2
      injection e with e1 e2 e3
      subst e1
      rcases h3 with h3 | ⟨_, _, hh, _⟩
      · exact ⟨none, vc, by rw [← e2, ← e3], h1, h2, .inl h3, .inl h3⟩
      · cases hh
  · obtain ⟨g, c, e, h1, h2, h3, ys, h4⟩ := h.mks p hp
    have hg : ¬ S g := fun hS => by have := hs g hS; omega
    exact ⟨g, c, e, h1, h2.upd hu (fun x hx => by cases hx; exact hg), h3, ys, h4.upd hu hg⟩
  · have := (World.ownsRow.lt h.rt k hk).1; have := hs k hS; omega
theorem LtS.updM {w w' : World} {B gT cT gR cR : Nat} {Q : List (Ty × Value)} {R : List Rt} {q : Pt} {tq : Ty} {rq : Rt} (h : LtS w B gT cT Q gR cR R q tq rq) {g : Nat} {t : TypeId} {ys : List Value} (hu : Upd (fun k => k = g) w w') (hb : Blk w g t ys) (hg : B ≤ g) (h1 : t ≠ 62) (h2 : t ≠ 64) (h3 : t ≠ 70) : LtS w' B gT cT Q gR cR R q tq rq :=
  ⟨h.ty.updN hu hb hg h1 h2, fun p hp => (h.mks p hp).upd hu (fun k ys' e hb' => by subst e; exact h2 (blk_type hb hb')), h.rt.updN hu hb h3⟩
/-- What lies in memory at the head of a turn. -/
structure SzM (w : World) (B0 g7 g9 : Nat) (a7 : Option Addr) (c7 : Nat) (Q7 : List (Ty × Value)) (T : List Ty) (ar7 : Option Addr) (cr7 : Nat) (R : List Rt) (Bv : Nat) (av : Option Addr) (cv : Nat) (V : List Nv) (BL gT cT : Nat) (Q : List (Ty × Value)) (gR cR gV cV : Nat) : Prop where
  sbox : Blk w g7 25 [.slice a7 T.length c7, .slice ar7 R.length cr7]
  lbox : Blk w g9 25 [.slice (some ⟨gT, 0, none⟩) T.length cT, .slice (some ⟨gR, 0, none⟩) R.length cR]
  tow : TOwn w B0 (.slice a7 T.length c7) Q7
  ro : ROwn w B0 (.slice ar7 R.length cr7) R
  vo : NOwn w Bv (.slice av V.length cv) V
  lt : LtS w BL gT cT Q gR cR R mqP mqT mqR
  no : NOwn w BL (.slice (some ⟨gV, 0, none⟩) (V.length + 1) cV) (V ++ [mqN])
  lo : ∀ k, (Value.slice av V.length cv).ownBlock = some k → k < BL
theorem SzM.later {w w' : World} {B0 g7 g9 : Nat} {a7 : Option Addr} {c7 : Nat} {Q7 : List (Ty × Value)} {T : List Ty} {ar7 : Option Addr} {cr7 : Nat} {R : List Rt} {Bv : Nat} {av : Option Addr} {cv : Nat} {V : List Nv} {BL gT cT : Nat} {Q : List (Ty × Value)} {gR cR gV cV : Nat} (h : SzM w B0 g7 g9 a7 c7 Q7 T ar7 cr7 R Bv av cv V BL gT cT Q gR cR gV cV) (hB : Below w.heap.size w w') : SzM w' B0 g7 g9 a7 c7 Q7 T ar7 cr7 R Bv av cv V BL gT cT Q gR cR gV cV :=
  ⟨h.sbox.later hB, h.lbox.later hB, h.tow.later hB, h.ro.later hB, h.vo.later hB, h.lt.later hB, h.no.later hB, h.lo⟩
theorem blk_ne_upd {w w' : World} {g k : Nat} {e t : TypeId} {xs ys : List Value} (h : Blk w g e xs) (hu : Upd (fun q => q = k) w w') (hb : Blk w k t ys) (ht : t ≠ e) : Blk w' g e xs := h.upd hu (fun e2 => by
  subst e2
  exact ht (blk_type hb h))
/-- One node's number becomes another one, in the list and in what is lent. -/
theorem SzM.put {w : World} {B0 g7 g9 : Nat} {a7 : Option Addr} {c7 : Nat} {Q7 : List (Ty × Value)} {T : List Ty} {ar7 : Option Addr} {cr7 : Nat} {R : List Rt} {Bv : Nat} {gv cv : Nat} {V : List Nv} {BL gT cT : Nat} {Q : List (Ty × Value)} {gR cR gV cV : Nat} (h : SzM w B0 g7 g9 a7 c7 Q7 T ar7 cr7 R Bv (some ⟨gv, 0, none⟩) cv V BL gT cT Q gR cR gV cV) (hBv : B0 ≤ Bv) (hBL : B0 ≤ BL) {k : Nat} {x : Nv} (hk : V[k]? = some x) (n' : Int) :
    SzM ((((w.setCell ⟨gv, k * 3 + 1, none⟩ (.int .u64 n')).setCell ⟨gV, k * 3, none⟩ (.int .i64 x.k)).setCell ⟨gV, k * 3 + 1, none⟩ (.int .u64 n')).setCell ⟨gV, k * 3 + 2, none⟩ (.int .i64 x.kids)) B0 g7 g9 a7 c7 Q7 T ar7 cr7 R Bv (some ⟨gv, 0, none⟩) cv (V.set k ⟨x.k, n', x.kids⟩) BL gT cT Q gR cR gV cV ∧ Bv ≤ gv ∧ BL ≤ gV := by
  have hkl := (List.getElem?_eq_some_iff.1 hk).1
  have hgv := (h.vo.lt gv rfl).1
  have hgl := h.lo gv rfl
  have hgV := (h.no.lt gV rfl).1
  obtain ⟨ys1, hb1⟩ := ownS_type h.vo (k := gv) rfl
  have hu1 : Upd (fun q => q = gv) w (w.setCell ⟨gv, k * 3 + 1, none⟩ (.int .u64 n')) := (Upd.refl _ w).set _ _ (.inl rfl)
  have hv1 := h.vo.setN hk n'
  have hn1 := h.no.upd hu1 (fun q hq e => by have := own_is hq; omega)
  generalize hw1 : w.setCell ⟨gv, k * 3 + 1, none⟩ (.int .u64 n') = w1 at *
  obtain ⟨ys2, hb2⟩ := ownS_type hn1 (k := gV) rfl
  have hu2 : Upd (fun q => q = gV) w1 (((w1.setCell ⟨gV, k * 3, none⟩ (.int .i64 x.k)).setCell ⟨gV, k * 3 + 1, none⟩ (.int .u64 n')).setCell ⟨gV, k * 3 + 2, none⟩ (.int .i64 x.kids)) := (((Upd.refl (fun q => q = gV) w1).set _ _ (.inl rfl)).set _ _ (.inl rfl)).set _ _ (.inl rfl)
  have hn2 := hn1.set3 (i := k) (by rw [List.length_append]; omega) ⟨x.k, n', x.kids⟩
  rw [List.set_append_left _ _ hkl] at hn2
  generalize hw2 : ((w1.setCell ⟨gV, k * 3, none⟩ (.int .i64 x.k)).setCell ⟨gV, k * 3 + 1, none⟩ (.int .u64 n')).setCell ⟨gV, k * 3 + 2, none⟩ (.int .i64 x.kids) = w2 at *
  refine ⟨⟨?_, ?_, ?_, ?_, ?_, ?_, ?_, ?_⟩, hgv, hgV⟩
  · exact blk_ne_upd (blk_ne_upd h.sbox hu1 hb1 (by decide)) hu2 hb2 (by decide)
  · exact blk_ne_upd (blk_ne_upd h.lbox hu1 hb1 (by decide)) hu2 hb2 (by decide)
  · exact (h.tow.updN hu1 hb1 (by omega) (by decide) (by decide)).updN hu2 hb2 (by omega) (by decide) (by decide)
  · exact (h.ro.updN hu1 hb1 (by decide)).updN hu2 hb2 (by decide)
  · rw [List.length_set]
    exact hv1.upd hu2 (fun q hq e => by have := own_is hq; omega)
  · exact (h.lt.updS hu1 (fun q hq => by omega)).updM hu2 hb2 hgV (by decide) (by decide) (by decide)
  · rw [List.length_set]
    exact hn2
  · rw [List.length_set]
    exact h.lo
end Go.Proofs.Ytdpkmkhflgmioaa

/- SizeBetween: its walk. -/
namespace Go.Proofs.Ytdpkmkhflgmioaa
open Go.RowKit
set_option linter.unusedVariables false

theorem row_at {w : World} {a : Option Addr} {l : List Int} (h : Row .i64 w a l) {i : Nat} (hi : i < l.length) : ∃ b o, a = some ⟨b, o, none⟩ ∧ w.cell? ⟨b, o + i, none⟩ = some (.int .i64 (l.getD i 0)) ∧ b < w.heap.size := by
  obtain ⟨b, o, e, hb, hc⟩ := h.open (by omega)
  exact ⟨b, o, e, hc i hi, hb⟩
set_option maxRecDepth 100000 in
set_option maxHeartbeats 16000000 in
theorem sbetween_any (aT : Option Addr) (cT : Nat) (T : List Ty) (aR : Option Addr) (cR : Nat) (R : List Rt) (t : Int) (aP : Option Addr) (cP : Nat) (P : List Int) (w : World) (htb : -9223372036854775808 ≤ t ∧ t ≤ 9223372036854775807) (hn : T.length ≤ 1000000000000000) (hm : R.length ≤ 1000000000000000) (hcR : R.length ≤ cR) (hnil : aR = none → cR = 0) (hl : Hid (LensT T)) (hT : Hid (TRow w aT T)) (hRr : Hid (RRow w aR R)) (hPl : P.length ≤ 17592186043904) (hPr : Hid (Row .i64 w aP P)) :
    Calls Try.prog 3 #[.agg #[.slice aT T.length cT, .slice aR R.length cR], .int .i64 t, .slice aP P.length cP] w fun e w' => e = .returned (.bool true) ∧ Below w.heap.size w w' := by
  obtain ⟨w1, hw1⟩ : ∃ wx, wx = w.alloc (.cells #[.slice aT T.length cT, .slice aR R.length cR] 25) := ⟨_, rfl⟩
  have b1 : Below w.heap.size w w1 := by rw [hw1]; exact below1 _ _
  have k1 : Blk w1 w.heap.size 25 [.slice aT T.length cT, .slice aR R.length cR] := by rw [hw1]; exact Blk.newA w _ _
  have K1 := hide_ k1
  have HB1 := hide_ b1
  have HAw := hide_ (awake_any w1)
  clear b1 k1
  go_enter Try.func3, Try.ntmps3
  go_upto_region 1 with fail
  rw [← hw1]
  clear hw1
  go_wp2_with fail
  refine HAw.out.mono ?_
  rintro e w2 ⟨rfl, hB2⟩
  have HB2 := hide_ (below_to HB1.out hB2)
  have K12 := hide_ (K1.out.later hB2)
  have HCu := hide_ (cut_any aT cT T aR cR R w w2 hn hm hcR hnil hl HB2 hT (hide_ (hRr.out.later HB2.out)))
  have i0 := K12.out.cell 0; have i1 := K12.out.cell 1
  simp at i0 i1
  clear hB2 HAw K1
  go_wp2_with fail
  refine HCu.out.mono ?_
  rintro e w3 ⟨a, cap, ar, cr, Q, rfl, HT3, HQ, HR3, HB3⟩
  have hlc : (cutT T).length ≤ 120 := by simp [cutT]; omega
  have hlr : (R.take 260).length ≤ 260 := by simp; omega
  have HLs := hide_ (cutT_lens T)
  generalize cutT T = U at *
  generalize R.take 260 = Rc at *
  have HB3x := hide_ (below_to HB2.out HB3.out)
  obtain ⟨w4, hw4⟩ : ∃ wx, wx = w3.alloc (.cells #[.slice a U.length cap, .slice ar Rc.length cr] 25) := ⟨_, rfl⟩
  have b4 : Below w3.heap.size w3 w4 := by rw [hw4]; exact below1 _ _
  have k4 : Blk w4 w3.heap.size 25 [.slice a U.length cap, .slice ar Rc.length cr] := by rw [hw4]; exact Blk.newA w3 _ _
  obtain ⟨g7, hg7⟩ : ∃ g, w3.heap.size = g := ⟨_, rfl⟩
  rw [hg7] at k4
  have K4 := hide_ k4
  have HB4 := hide_ (below_to HB3x.out b4)
  have HT4 := hide_ (town_row (HT3.out.later b4) HQ.out)
  have HR4 := hide_ (rown_row (HR3.out.later b4))
  have HP4 := hide_ (hPr.out.later HB4.out)
  have HOf := hide_ (of_any a cap U ar cr Rc w4 (by omega) (by omega) HLs HT4 HR4)
  have HCk : Hid (∀ w', Below w4.heap.size w4 w' → Calls Try.prog 8 #[.agg #[.slice a U.length cap, .slice ar Rc.length cr]] w' fun e w'' => e = .returned (.agg #[.int .i64 (chk U Rc).1, .int .i64 (chk U Rc).2]) ∧ Below w'.heap.size w' w'') := hide_ (fun w' h => checkR_any a cap U ar cr Rc w' (by omega) (by omega) HLs (hide_ (HT4.out.later h)) (hide_ (HR4.out.later h)))
  have HNum : Hid (∀ n w', Calls Try.prog 9 #[.int .i64 n] w' fun e w'' => e = .returned (.int .i64 n) ∧ w' = w'') := hide_ (fun n w' => num_any n w')
  have HBox : Hid (∀ w', Below w4.heap.size w4 w' → w'.cell? ⟨g7, 0, none⟩ = some (.slice a U.length cap) ∧ w'.cell? ⟨g7, 1, none⟩ = some (.slice ar Rc.length cr)) := hide_ (fun w' h => ⟨by have := (K4.out.later h).cell 0; simpa using this, by have := (K4.out.later h).cell 1; simpa using this⟩)
  clear i0 i1 b4 k4 hT hRr K12 HCu HT3 HR3 HQ hPr
  go_upto_region 4 with fail
  rw [← hw4]
  try rw [hg7]
  clear hw4 hg7
  obtain ⟨i0, i1⟩ := HBox.out w4 (Below.refl _ _)
  go_wp2_with fail
  refine HOf.out.mono ?_
  have mid : ∀ (w5 : World) (E : Int), Below w4.heap.size w4 w5 → True := fun _ _ _ => trivial
  clear mid
  rintro e w5 (⟨hne, rfl, hB5⟩ | ⟨hS, vX, rfl, hX, hB5⟩)
  · clear i0 i1
    obtain ⟨i0, i1⟩ := HBox.out w5 hB5
    have HC5 := hide_ (HCk.out w5 hB5)
    have HB5 := hide_ hB5
    generalize (chk U Rc).1 = e1 at *
    generalize (chk U Rc).2 = e2 at *
    have hne1 : (e1 != 0) = true := by simpa using hne
    have hne2 : (e1 == 0) = false := by simpa using hne
    have hee : (e1 != e1) = false := by simp
    have hee2 : (e1 == e1) = true := by simp
    clear hB5 hne HCk HBox
    go_wp2_with fail
    refine HC5.out.mono ?_
    rintro e w6 ⟨rfl, hB6⟩
    obtain ⟨w7, hw7⟩ : ∃ wx, wx = w6.alloc (.cells #[.int .i64 e1, .int .i64 e2] 34) := ⟨_, rfl⟩
    have b7 : Below w6.heap.size w6 w7 := by rw [hw7]; exact below1 _ _
    have k7 : Blk w7 w6.heap.size 34 [.int .i64 e1, .int .i64 e2] := by rw [hw7]; exact Blk.newA w6 _ _
    have j0 := k7.cell 0
    simp at j0
    have HB7 := hide_ (below_to HB4.out (below_to HB5.out (below_to hB6 b7)))
    clear hB6 b7 k7 i0 i1 HC5
    go_upto_region 6 with fail
    rw [← hw7]
    clear hw7
    go_quiet ((go_at_call 9; exact Calls.quiet_of_same ((HNum.out _ _).mono fun _ _ h => ⟨h.1, h.2.symm⟩)))
    have HB8 := hide_ (below_drewN HB7.out nq)
    have j0' : (w7.drewN nq).cell? ⟨w6.heap.size, 0, none⟩ = some (.int .i64 e1) := by rw [World.cell?_drewN]; exact j0
    clear j0
    generalize w7.drewN nq = w8 at *
    go_wp2_with fail
    go_quiet ((go_at_call 9; exact Calls.quiet_of_same ((HNum.out _ _).mono fun _ _ h => ⟨h.1, h.2.symm⟩)))
    have HB9 := hide_ (below_drewN HB8.out nq)
    go_wp2
    go_ret
    exact ⟨rfl, HB9.out⟩
  · have HS := hide_ hS
    obtain ⟨aX, cX, hvX, -, -, hXr⟩ := hX.row
    subst hvX
    clear i0 i1
    obtain ⟨i0, i1⟩ := HBox.out w5 hB5
    have hchk := hS.chk
    have HC5 := hide_ (HCk.out w5 hB5)
    rw [hchk] at HC5
    have HB5 := hide_ hB5
    have hxl : (extL U).length = U.length := extL_len U
    rw [hxl]
    have HXr := hide_ hXr
    clear hB5 HCk hX hXr hS hchk hxl
    go_wp2_with fail
    refine HC5.out.mono ?_
    rintro e w6 ⟨rfl, hB6⟩
    obtain ⟨w7, hw7⟩ : ∃ wx, wx = w6.alloc (.cells #[.int .i64 0, .int .i64 0] 34) := ⟨_, rfl⟩
    have b7 : Below w6.heap.size w6 w7 := by rw [hw7]; exact below1 _ _
    have k7 : Blk w7 w6.heap.size 34 [.int .i64 0, .int .i64 0] := by rw [hw7]; exact Blk.newA w6 _ _
    have j0 := k7.cell 0
    simp at j0
    have HB57 := hide_ (below_to HB5.out (below_to hB6 b7))
    have HX7 := hide_ (HXr.out.later (below_to hB6 b7))
    clear hB6 b7 k7 HC5
    clear i0 i1
    obtain ⟨i0, i1⟩ := HBox.out w7 HB57.out
    go_upto_region 6 with fail
    rw [← hw7]
    clear hw7
    by_cases hU0 : U.length = 0
    · have hU1 : ((U.length : Int) == 0) = true := by simp; exact List.eq_nil_of_length_eq_zero hU0
      clear hU0
      go_quiet ((go_at_call 9; exact Calls.quiet_of_same ((HNum.out _ _).mono fun _ _ h => ⟨h.1, h.2.symm⟩)))
      have HB8 := hide_ (below_drewN (below_to HB4.out HB57.out) nq)
      have j0' : (w7.drewN nq).cell? ⟨w6.heap.size, 0, none⟩ = some (.int .i64 0) := by rw [World.cell?_drewN]; exact j0
      clear j0
      generalize w7.drewN nq = w8 at *
      go_wp2_with fail
      go_quiet ((go_at_call 9; exact Calls.quiet_of_same ((HNum.out _ _).mono fun _ _ h => ⟨h.1, h.2.symm⟩)))
      have HB9 := hide_ (below_drewN HB8.out nq)
      go_wp2
      go_ret
      exact ⟨rfl, HB9.out⟩
    · have hU1 : ((U.length : Int) == 0) = false := by simp; intro h; rw [h] at hU0; exact hU0 rfl
      have hUp : 0 < U.length := by omega
      clear hU0
      go_quiet ((go_at_call 9; exact Calls.quiet_of_same ((HNum.out _ _).mono fun _ _ h => ⟨h.1, h.2.symm⟩)))
      have HD8 := hide_ (below_drewN HB57.out nq)
      have HX8 : Hid (XRow (w7.drewN nq) aX (extL U)) := hide_ (HX7.out.later (below_drewN (Below.refl _ _) nq))
      clear j0 i0 i1
      generalize w7.drewN nq = w8 at *
      obtain ⟨i0, i1⟩ := HBox.out w8 HD8.out
      have HRe := hide_ (rest_any t (U.length : Int) w8 (by omega) (by omega))
      go_wp2_with fail
      refine HRe.out.mono ?_
      rintro e w' ⟨r, rfl, hr0, hr1, rfl⟩
      obtain ⟨num, rfl⟩ := Int.eq_ofNat_of_zero_le hr0
      have hnum : num < U.length := by omega
      obtain ⟨bT, oT, rfl, -, -⟩ := HT4.out.open (by omega)
      have HVa := hide_ (value_any bT oT cap U ar cr Rc num aP cP P w8 (by omega) (by omega) hnum HLs HS (hide_ (HT4.out.later HD8.out)) (hide_ (HR4.out.later HD8.out)) (hide_ (HP4.out.later HD8.out)))
      clear hr0 HRe
      go_wp2_with fail
      refine HVa.out.mono ?_
      rintro e w9 ⟨v, ok, rfl, HB9, HOk⟩
      have HD9 := hide_ (below_to HD8.out HB9.out)
      have HBf9 := hide_ (below_to HB4.out HD9.out)
      cases ok with
      | false =>
        go_wp2
        go_ret
        exact ⟨rfl, HBf9.out⟩
      | true =>
        obtain ⟨V, p, hso, hNo⟩ := HOk.out rfl
        obtain ⟨nums, tl, hbt⟩ := sh_some HS.out (by omega) (by omega) hso
        have HBt := hide_ hbt
        obtain ⟨aV, cV, hv, hVr⟩ := hNo.row
        subst hv
        have hV1 := hbt.v1
        have hV0 := hbt.v0
        have HVr := hide_ hVr
        have HNv := hide_ hbt.ok
        have HCl : Hid (∀ w', Below w9.heap.size w9 w' → Calls Try.prog 12 #[.agg #[.slice (some ⟨bT, oT, none⟩) U.length cap, .slice ar Rc.length cr], .int .i64 (num : Int), .slice aV V.length cV] w' fun e w2 => ∃ a c, e = .returned (.tuple #[.slice a V.length c, .int .i64 0]) ∧ Hid (Row .i64 w2 a tl) ∧ Hid (Below w'.heap.size w' w2)) := hide_ (fun w' hb => by
          have h := lengths_any (some ⟨bT, oT, none⟩) cap U ar cr Rc (num : Int) aV cV V w' (by omega) (by omega) (by omega) HNv HLs (hide_ (HT4.out.later (below_to HD9.out hb))) (hide_ (HR4.out.later (below_to HD9.out hb))) (hide_ (HVr.out.later hb))
          rw [HBt.out.le] at h
          refine h.mono (fun e w2 ⟨v', q1, q2, q3⟩ => ?_)
          obtain ⟨a', c', e', hr', -, -⟩ := IOwn.row q2
          subst e'
          simp only at q1 hr'
          rw [HBt.out.tn] at q1
          exact ⟨a', c', q1, hide_ hr', hide_ q3⟩)
        have HCn : Hid (∀ w', Below w9.heap.size w9 w' → Calls Try.prog 13 #[.agg #[.slice (some ⟨bT, oT, none⟩) U.length cap, .slice ar Rc.length cr], .int .i64 (num : Int), .slice aV V.length cV] w' fun e w2 => e = .returned (.tuple #[.int .i64 (tl.getD 0 0), .int .i64 0]) ∧ Below w'.heap.size w' w2) := hide_ (fun w' hb => by
          have h := length_any (some ⟨bT, oT, none⟩) cap U ar cr Rc (num : Int) aV cV V w' (by omega) (by omega) (by omega) HNv HLs (hide_ (HT4.out.later (below_to HD9.out hb))) (hide_ (HR4.out.later (below_to HD9.out hb))) (hide_ (HVr.out.later hb))
          rw [HBt.out.le] at h
          exact h)
        have HCt : Hid (∀ w', Below w9.heap.size w9 w' → Calls Try.prog 14 #[.agg #[.slice (some ⟨bT, oT, none⟩) U.length cap, .slice ar Rc.length cr], .int .i64 (num : Int), .slice aV V.length cV] w' fun e w2 => ∃ a c, e = .returned (.tuple #[.slice a V.length c, .agg #[.int .i64 0, .int .i64 0]]) ∧ Hid (Row .i64 w2 a nums) ∧ Hid (Below w'.heap.size w' w2)) := hide_ (fun w' hb => by
          have h := typesR_any (some ⟨bT, oT, none⟩) cap U ar cr Rc (num : Int) aV cV V w' (by omega) (by omega) (by omega) HLs (hide_ (HT4.out.later (below_to HD9.out hb))) (hide_ (HR4.out.later (below_to HD9.out hb))) (hide_ (HVr.out.later hb)) HNv
          rw [HBt.out.ty] at h
          refine h.mono (fun e w2 ⟨v', q1, q2, q3⟩ => ?_)
          obtain ⟨a', c', e', hr', -, -⟩ := q2.out.row
          subst e'
          simp only at q1 hr'
          rw [HBt.out.nl] at q1
          exact ⟨a', c', q1, hide_ hr', q3⟩)
        have HX9 := hide_ (HX8.out.later HB9.out)
        clear hso hNo hbt hVr i0 i1 HOk HVa HX7 HX8 HXr
        obtain ⟨i0, i1⟩ := HBox.out w9 HD9.out
        go_wp2_with fail
        refine (HCl.out w9 (Below.refl _ _)).mono ?_
        rintro e w10 ⟨al, cl, rfl, HRl, HB10⟩
        clear i0 i1
        obtain ⟨i0, i1⟩ := HBox.out w10 (below_to HD9.out HB10.out)
        go_wp2_with fail
        refine (HCn.out w10 HB10.out).mono ?_
        rintro e w11 ⟨rfl, hB11⟩
        have HB11 := hide_ (below_to HB10.out hB11)
        have HRl := hide_ (HRl.out.later hB11)
        clear i0 i1 hB11
        obtain ⟨i0, i1⟩ := HBox.out w11 (below_to HD9.out HB11.out)
        go_wp2_with fail
        refine (HCt.out w11 HB11.out).mono ?_
        rintro e w12 ⟨an, cn, rfl, HRn, HB12⟩
        obtain ⟨w13, hw13⟩ : ∃ wx, wx = w12.alloc (.cells #[.int .i64 0, .int .i64 0] 34) := ⟨_, rfl⟩
        have b13 : Below w12.heap.size w12 w13 := by rw [hw13]; exact below1 _ _
        have HB13 := hide_ (below_to HB11.out (below_to HB12.out b13))
        have HRl := hide_ ((HRl.out.later HB12.out).later b13)
        have HRn := hide_ (HRn.out.later b13)
        have HXn := hide_ (HX9.out.later HB13.out)
        clear i0 i1 b13
        obtain ⟨i0, i1⟩ := HBox.out w13 (below_to HD9.out HB13.out)
        obtain ⟨bl, ol, hal, hl0, -⟩ := row_at HRl.out (i := 0) (by rw [HBt.out.tn]; omega)
        subst hal
        rw [Nat.add_zero] at hl0
        have hV0' : (0 : Int) < V.length := by omega
        have hvv : ((V.length : Int) != (V.length : Int)) = false := by simp
        have huu : ((U.length : Int) != (U.length : Int)) = false := by simp
        have hll : (tl.getD 0 0 != tl.getD 0 0) = false := by simp
        have HBn := hide_ (below_to HBf9.out HB13.out)
        go_upto_region 15 with fail
        rw [← hw13]
        clear hw13
        go_wp2_with fail
        refine (HNum.out _ _).mono ?_; rintro e w' ⟨rfl, rfl⟩
        go_wp2_with fail
        refine (HNum.out _ _).mono ?_; rintro e w' ⟨rfl, rfl⟩
        go_wp2_with fail
        clear hl0 i0 i1
        go_loopw [19] (fun x19 wr => ∃ i : Nat, x19 = .int .i64 (i : Int) ∧ i ≤ V.length ∧ Hid (Below w13.heap.size w13 wr)) (fun x19 _ => V.length - (intOf x19).toNat)
        case atStart => exact ⟨0, rfl, Nat.zero_le _, hide_ (Below.refl _ _)⟩
        case round =>
          obtain ⟨i, rfl, hi, HBq⟩ := hrel
          generalize wr = wq at *
          by_cases hlt : i < V.length
          · have hlt' : (i : Int) < V.length := by omega
            obtain ⟨bl', ol', e1, hcl, hbl⟩ := row_at (HRl.out.later HBq.out) (i := i) (by rw [HBt.out.tn]; omega)
            injection e1 with e1
            injection e1 with e1 e2 _
            subst e1 e2
            obtain ⟨bn, on, hbn, hcn, -⟩ := row_at (HRn.out.later HBq.out) (i := i) (by rw [HBt.out.nl]; omega)
            subst hbn
            have hin := HBt.out.ins (nums.getD i 0) (by rw [show nums.getD i 0 = nums[i]'(by rw [HBt.out.nl]; exact hlt) by simp [List.getD, HBt.out.nl, hlt]]; exact List.getElem_mem _)
            have hbb := HBt.out.btw.2 i (nums.getD i 0) (tl.getD i 0) (by simp [List.getD, HBt.out.nl, hlt]) (by simp [List.getD, HBt.out.tn, hlt])
            obtain ⟨tk, htk⟩ := Int.eq_ofNat_of_zero_le hin.1
            rw [htk] at hcn hin hbb
            have htU' : (tk : Int) < U.length := hin.2
            obtain ⟨bX, oX, hbX, -, hcX⟩ := (HXn.out.later HBq.out).open (by rw [extL_len]; omega)
            subst hbX
            have hxk := hcX tk _ (exAt_at (by rw [extL_len]; omega))
            have c0 := hxk 0 (by decide); have c1 := hxk 1 (by decide); have c2 := hxk 2 (by decide); have c3 := hxk 3 (by decide)
            simp [exc] at c0 c1 c2 c3
            have hxo := XOk.at (fun y hy => (extL_ok HS.out U.length (Nat.le_refl _) y (by rw [List.take_length]; exact hy)).1) (tk : Int)
            have hfx := hxo.fx
            generalize exAt (extL U) (tk : Int) = ex at *
            obtain ⟨xf, xl, xm, xd⟩ := ex
            generalize tl.getD i 0 = lv at *
            simp only at c0 c1 c2 c3 hbb hfx
            obtain ⟨wz, hwz⟩ : ∃ wx, wx = wq.alloc (.cells #[.bool xf, .int .i64 xl, .int .i64 xm, .int .i64 xd] 48) := ⟨_, rfl⟩
            have bz : Below wq.heap.size wq wz := by rw [hwz]; exact below1 _ _
            have kz : Blk wz wq.heap.size 48 [.bool xf, .int .i64 xl, .int .i64 xm, .int .i64 xd] := by rw [hwz]; exact Blk.newA wq _ _
            have z0 := kz.cell 0; have z1 := kz.cell 1; have z2 := kz.cell 2
            simp at z0 z1 z2
            have hclz : wz.cell? ⟨bl, ol + i, none⟩ = some (.int .i64 lv) := (bz.cell (p := ⟨bl, ol + i, none⟩) hbl).trans hcl
            have hlo : decide (lv < xl) = false := by simp; omega
            have hhi : decide (xm < lv) = false := by simp; omega
            have HBz := hide_ (below_to HBq.out bz)
            clear bz kz hcX hxk hxo htk hin
            go_upto_region 21 with fail
            rw [← hwz]
            clear hwz c0 c1 c2 c3 hcl hcn
            cases xf with
            | true =>
              have hlm := hfx rfl
              subst hlm
              have hxx : (xl != xl) = false := by simp
              go_quiet (fail)
              have HBr := hide_ (below_drewN HBz.out nq)
              go_wp2_with fail
              go_roundw
              case rel => exact ⟨i + 1, by go_num, by omega, HBr⟩
              case measure => simp [intOf]; omega
            | false =>
              clear hfx
              go_quiet (fail)
              have HBr := hide_ (below_drewN HBz.out nq)
              go_wp2_with fail
              go_roundw
              case rel => exact ⟨i + 1, by go_num, by omega, HBr⟩
              case measure => simp [intOf]; omega
          · have hlt' : ¬ (i : Int) < V.length := by omega
            have HBe := hide_ (below_to HBn.out HBq.out)
            go_wp2
            go_ret
            exact ⟨rfl, HBe.out⟩
end Go.Proofs.Ytdpkmkhflgmioaa
