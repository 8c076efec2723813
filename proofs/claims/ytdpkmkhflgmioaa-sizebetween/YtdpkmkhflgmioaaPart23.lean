import Derived.Test.YtdpkmkhflgmioaaPart21
import Derived.Deep.CutBlock
import Derived.Test.YtdpkmkhflgmioaaPart15

/- The document's Making.some: the walk. -/
namespace Go.Proofs.Ytdpkmkhflgmioaa
open Go.RowKit
set_option linter.unusedVariables false

/-- What Making.some leaves. -/
def MsTo (T : List Ty) (t0 : Int) (p : List Int) (st : List Int) (B bm : Nat) (a b c : Value) (V : List Nv) (v : Value) (w w' : World) : Prop :=
  ∃ (v' : Value) (V' : List Nv) (many : Bool), Blk w' bm 97 [a, b, c, v', .bool many] ∧ NOwn w' B v' V' ∧ (∀ k, v'.ownBlock = some k → v.ownBlock = some k ∨ w.heap.size ≤ k) ∧ Upd (fun k => k = bm ∨ v.ownBlock = some k) w w' ∧
    ((many = true ∧ mkT T p 1048578 [t0] [] = none) ∨ (many = false ∧ RkI T t0 p st V' ∧ V.length < V'.length))
set_option maxRecDepth 100000 in
set_option maxHeartbeats 16000000 in
theorem msome_any (wb : World) (bT oT cT : Nat) (T : List Ty) (aR : Option Addr) (cR : Nat) (R : List Rt) (aP : Option Addr) (nP cP : Nat) (p : List Int) (bm : Nat) (t0 : Int) (hbm : wb.heap.size ≤ bm) (hS : Hid (OkS T R)) (hT : Hid (TRow wb (some ⟨bT, oT, none⟩) T)) (hpn : Hid (p.length = nP)) (hPr : Hid (Row .i64 wb aP p)) :
    ∀ (f : Nat) (s : Int) (st : List Int) (V : List Nv) (v : Value) (w : World), 1048577 - V.length ≤ f → Hid (RkI T t0 p (s :: st) V) → Hid (Below wb.heap.size wb w) → Hid (Blk w bm 97 [.slice (some ⟨bT, oT, none⟩) T.length cT, .slice aR R.length cR, .slice aP nP cP, v, .bool false]) → Hid (NOwn w wb.heap.size v V) →
      Calls Try.prog 53 #[.pointer (some ⟨bm, 0, none⟩), .int .i64 s] w fun e w' => e = .returned (.tuple #[]) ∧ Hid (MsTo T t0 p st wb.heap.size bm (.slice (some ⟨bT, oT, none⟩) T.length cT) (.slice aR R.length cR) (.slice aP nP cP) V v w w') := by
  intro f
  induction f with
  | zero =>
    intro s st V v w hf hRk hBw hK hO
    have := hRk.out.lenV
    omega
  | succ f ih =>
    intro s st V v w hf hRk hBw hK hO
    have hih := hide_ ih
    clear ih
    obtain ⟨aV, cV, hv, hVr⟩ := hO.out.row
    subst hv
    have c0 := hK.out.cell 0; have c1 := hK.out.cell 1; have c2 := hK.out.cell 2; have c3 := hK.out.cell 3; have c4 := hK.out.cell 4
    have cf := fun i => hK.out.frozen i
    simp at c0 c1 c2 c3 c4
    clear hVr
    by_cases hfull : 1048576 ≤ V.length
    · have HN := hide_ (hRk.out.full hfull)
      have hf' : (1048576 : Int) ≤ V.length := by omega
      have HK2 : Hid (Blk (w.setCell ⟨bm, 4, none⟩ (.bool true)) bm 97 [.slice (some ⟨bT, oT, none⟩) T.length cT, .slice aR R.length cR, .slice aP nP cP, .slice aV V.length cV, .bool true]) := hide_ (by have h := hK.out.set 4 (.bool true); simpa using h)
      have HU : Hid (Upd (fun k => k = bm ∨ (Value.slice aV V.length cV).ownBlock = some k) w (w.setCell ⟨bm, 4, none⟩ (.bool true))) := hide_ ((Upd.refl _ w).set ⟨bm, 4, none⟩ (.bool true) (.inl (.inl rfl)))
      have HO2 : Hid (NOwn (w.setCell ⟨bm, 4, none⟩ (.bool true)) wb.heap.size (.slice aV V.length cV) V) := hide_ (hO.out.upd ((Upd.refl (fun k => k = bm) w).set ⟨bm, 4, none⟩ (.bool true) (.inl rfl)) (fun k hk e => by subst e; exact hO.out.ne hK.out (by decide) hk))
      go_enter Try.func53, Try.ntmps53
      go_wp2
      refine bodyPost_ret (results_none rfl _ _ _) rfl ?_
      exact ⟨rfl, hide_ ⟨_, V, true, HK2.out, HO2.out, fun k hk => .inl hk, HU.out, .inl ⟨rfl, HN.out⟩⟩⟩
    · have hf' : ¬ (1048576 : Int) ≤ V.length := by omega
      have hVl : V.length < 1048576 := by omega
      obtain ⟨hs0, hs1, hfit, hrt, hnext⟩ := hRk.out.next hS.out hVl
      obtain ⟨sn, rfl⟩ := Int.eq_ofNat_of_zero_le hs0
      have hsl : sn < T.length := by omega
      have hsl' : (sn : Int) < T.length := hs1
      have hy : T[sn]? = some (T[sn]'hsl) := List.getElem?_eq_getElem hsl
      have hok := hS.out.ty sn hsl
      rw [Int.toNat_natCast] at hfit hrt hnext
      rw [show T.getD sn ty0 = T[sn]'hsl by simp [List.getD, hsl]] at hok hfit hrt hnext
      obtain ⟨_, _, e3, hbT, hcT⟩ := hT.out.open (by omega)
      injection e3 with e3
      injection e3 with e4 e5 _
      subst e4 e5
      obtain ⟨va, vc, hty, -, -, hpr⟩ := hcT sn _ hy
      generalize T[sn]'hsl = y at *
      obtain ⟨x, hx⟩ : ∃ x, pickP y (pickA p V.length) = x := ⟨_, rfl⟩
      rw [hx] at hfit hrt hnext
      have HX := hide_ hx
      have HFit := hide_ hfit
      have HRt := hide_ hrt
      have HNext := hide_ hnext
      have HPR := hide_ hpr
      have HOk := hide_ hok
      have hzb : wb.heap.size ≤ w.heap.size := hBw.out.size
      have hbw : bT < w.heap.size := Nat.lt_of_lt_of_le hbT hzb
      have HCT : Hid (∀ w', Below wb.heap.size wb w' → w'.cell? ⟨bT, oT + sn * 4, none⟩ = some (.int .i64 y.k) ∧ w'.cell? ⟨bT, oT + sn * 4 + 1, none⟩ = some (.int .i64 y.n) ∧ w'.cell? ⟨bT, oT + sn * 4 + 2, none⟩ = some (.int .i64 y.e) ∧ w'.cell? ⟨bT, oT + sn * 4 + 3, none⟩ = some (.slice va y.ps.length vc)) := hide_ (fun w' hB' => ⟨(hB'.cell (p := ⟨bT, oT + sn * 4 + 0, none⟩) hbT).trans (hty 0 (by decide)), (hB'.cell (p := ⟨bT, oT + sn * 4 + 1, none⟩) hbT).trans (hty 1 (by decide)), (hB'.cell (p := ⟨bT, oT + sn * 4 + 2, none⟩) hbT).trans (hty 2 (by decide)), (hB'.cell (p := ⟨bT, oT + sn * 4 + 3, none⟩) hbT).trans (hty 3 (by decide))⟩)
      clear hy hcT hty hpr hok hfit hrt hnext hx
      obtain ⟨pk, hpk⟩ : ∃ pk, pickA p V.length = pk := ⟨_, rfl⟩
      have hpk2 := pickA_in p V.length
      rw [hpk] at HX hpk2
      have HPk := hide_ hpk
      clear hpk
      go_enter Try.func53, Try.ntmps53
      go_upto_region 4 with fail
      have hpn' : p.length = nP := hpn.out
      go_quiet (fail)
      go_upto_if 32 with fail
      go_cut [4] from 32 to 45 (fun x4 wc => ∃ (w1 : World), x4 = .int .u64 pk ∧ w1 = wc ∧ Hid (Below w.heap.size w w1))
      case first =>
        have HBd : Hid (Below w.heap.size w (w.drewN nq)) := hide_ (below_drewN (Below.refl _ _) _)
        generalize w.drewN nq = wd at *
        by_cases hlt : V.length < nP
        · obtain ⟨bP, oP, rfl, hbP, hxP⟩ := hPr.out.open (by omega)
          have hcP := hxP V.length (by omega)
          have HQ : Hid (IntKind.u64.wrap (p.getD V.length 0) = pk) := hide_ (by rw [← HPk.out]; unfold pickA; rw [if_pos (by omega), wrapU])
          have hltI : (V.length : Int) < nP := by omega
          have HBwd : Hid (Below wb.heap.size wb wd) := hide_ (hBw.out.trans (HBd.out.mono hzb))
          generalize p.getD V.length 0 = q at *
          have HSS : Hid (∀ w', Below wd.heap.size wd w' → (fun w' => w'.cell? ⟨bm, 2, none⟩ = some (.slice (some ⟨bP, oP, none⟩) nP cP) ∧ w'.cell? ⟨bm, 3, none⟩ = some (.slice aV V.length cV) ∧ w'.cell? ⟨bP, oP + V.length, none⟩ = some (.int .i64 q)) w') := hide_ (fun w' hB' => ⟨by have h := ((hK.out.later HBd.out).later hB').cell 2; simpa using h, by have h := ((hK.out.later HBd.out).later hB').cell 3; simpa using h, ((HBwd.out.trans (hB'.mono HBwd.out.size)).cell (p := ⟨bP, oP + V.length, none⟩) hbP).trans hcP⟩)
          clear hxP hcP
          go_upto_region 5 with fail
          refine wp_region_last 12 (fun w' => w'.cell? ⟨bm, 2, none⟩ = some (.slice (some ⟨bP, oP, none⟩) nP cP) ∧ w'.cell? ⟨bm, 3, none⟩ = some (.slice aV V.length cV) ∧ w'.cell? ⟨bP, oP + V.length, none⟩ = some (.int .i64 q)) (by kernel_rfl) (HSS.out _ ((Below.refl wd.heap.size wd).drew)) (fun hHeld => ?_)
          refine wpAnyF_take [12] (by kernel_rfl) (i := 0) (v := ?va1) rfl (by kernel_rfl) (by kernel_rfl) (by kernel_rfl) (fun _ _ _ h => h) (Or.inl ⟨by kernel_rfl, ?hya1⟩) hHeld ?resta1
          case hya1 => intro w' hSw; (try dsimp only at hSw); go_simp; try with_reducible rfl
          simp only [Act.put]
          refine wpAnyF_take [12] (by kernel_rfl) (i := 1) (v := ?va2) rfl (by kernel_rfl) (by kernel_rfl) (by kernel_rfl) (fun _ _ _ h => h) (Or.inl ⟨by kernel_rfl, ?hya2⟩) hHeld ?resta2
          case hya2 => intro w' hSw; (try dsimp only at hSw); go_simp; try with_reducible rfl
          simp only [Act.put]
          refine wpAnyF_take [12] (by kernel_rfl) (i := 2) (v := ?va3) rfl (by kernel_rfl) (by kernel_rfl) (by kernel_rfl) (fun _ _ _ h => h) (Or.inl ⟨by kernel_rfl, ?hya3⟩) hHeld ?resta3
          case hya3 => intro w' hSw; (try dsimp only at hSw); go_simp; try with_reducible rfl
          simp only [Act.put]
          refine wpAnyF_take [12] (by kernel_rfl) (i := 3) (v := ?va4) rfl (by kernel_rfl) (by kernel_rfl) (by kernel_rfl) (fun _ _ _ h => h) (Or.inl ⟨by kernel_rfl, ?hya4⟩) hHeld ?resta4
          case hya4 => intro w' hSw; (try dsimp only at hSw); go_simp; try with_reducible rfl
          simp only [Act.put]
          refine wpAnyF_take [12] (by kernel_rfl) (i := 4) (v := ?va5) rfl (by kernel_rfl) (by kernel_rfl) (by kernel_rfl) (fun _ _ _ h => h) (Or.inl ⟨by kernel_rfl, ?hya5⟩) hHeld ?resta5
          case hya5 => intro w' hSw; (try dsimp only at hSw); go_simp; try with_reducible rfl
          simp only [Act.put]
          refine wpAnyF_take [12] (by kernel_rfl) (i := 5) (v := ?va6) rfl (by kernel_rfl) (by kernel_rfl) (by kernel_rfl) (fun _ _ _ h => h) (Or.inl ⟨by kernel_rfl, ?hya6⟩) hHeld ?resta6
          case hya6 => intro w' hSw; (try dsimp only at hSw); go_simp; try with_reducible rfl
          simp only [Act.put]
          refine wpAnyF_take [12] (by kernel_rfl) (i := 6) (v := ?va7) rfl (by kernel_rfl) (by kernel_rfl) (by kernel_rfl) (fun _ _ _ h => h) (Or.inl ⟨by kernel_rfl, ?hya7⟩) hHeld ?resta7
          case hya7 => intro w' hSw; (try dsimp only at hSw); go_simp; try with_reducible rfl
          simp only [Act.put]
          refine wpAnyF_take [12] (by kernel_rfl) (i := 7) (v := ?va8) rfl (by kernel_rfl) (by kernel_rfl) (by kernel_rfl) (fun _ _ _ h => h) (Or.inl ⟨by kernel_rfl, ?hya8⟩) hHeld ?resta8
          case hya8 => intro w' hSw; (try dsimp only at hSw); go_simp; try with_reducible rfl
          simp only [Act.put]
          refine wpAnyF_take [12] (by kernel_rfl) (i := 8) (v := ?va9) rfl (by kernel_rfl) (by kernel_rfl) (by kernel_rfl) (fun _ _ _ h => h) (Or.inl ⟨by kernel_rfl, ?hya9⟩) hHeld ?resta9
          case hya9 => intro w' hSw; (try dsimp only at hSw); go_simp; try with_reducible rfl
          simp only [Act.put]
          refine wpAnyF_take [12] (by kernel_rfl) (i := 9) (v := ?va10) rfl (by kernel_rfl) (by kernel_rfl) (by kernel_rfl) (fun _ _ _ h => h) (Or.inl ⟨by kernel_rfl, ?hya10⟩) hHeld ?resta10
          case hya10 => intro w' hSw; (try dsimp only at hSw); go_simp; try with_reducible rfl
          simp only [Act.put]
          refine wpAnyF_take [12] (by kernel_rfl) (i := 10) (v := ?va11) rfl (by kernel_rfl) (by kernel_rfl) (by kernel_rfl) (fun _ _ _ h => h) (Or.inl ⟨by kernel_rfl, ?hya11⟩) hHeld ?resta11
          case hya11 => intro w' hSw; (try dsimp only at hSw); go_simp; try with_reducible rfl
          simp only [Act.put]
          refine wpAnyF_take [12] (by kernel_rfl) (i := 11) (v := ?va12) rfl (by kernel_rfl) (by kernel_rfl) (by kernel_rfl) (fun _ _ _ h => h) (Or.inl ⟨by kernel_rfl, ?hya12⟩) hHeld ?resta12
          case hya12 => intro w' hSw; (try dsimp only at hSw); go_simp; try with_reducible rfl
          simp only [Act.put]
          refine wpAnyF_ready (rs := [12]) (by kernel_rfl) (by simp) ?_
          refine AllReadyF.last rfl (fun K hK => ?_)
          go_simp
          refine hK.out _ _ ?_
          clear hK K
          refine wpAnyF_done (by kernel_rfl) ?_ _
          go_wp2
          go_meet
          case rel => exact ⟨_, by rw [HQ.out], rfl, hide_ (by have h := HBd.out; exact ⟨h.os, h.tape, h.output, h.size, h.block⟩)⟩
        · have HQ : Hid (pk = 0) := hide_ (by rw [← HPk.out]; unfold pickA; rw [if_neg (by omega)])
          go_wp2
          go_meet
          case rel => exact ⟨_, by rw [HQ.out], rfl, HBd⟩
      case rest =>
        obtain ⟨w1, rfl, rfl, HB1⟩ := hcut
        have HBw1 : Hid (Below wb.heap.size wb w1) := hide_ (hBw.out.trans (HB1.out.mono hzb))
        have HK1 := hide_ (hK.out.later HB1.out)
        have HO1 := hide_ (hO.out.later HB1.out)
        have hz1 : w.heap.size ≤ w1.heap.size := HB1.out.size
        clear c0 c1 c2 c3 c4 cf
        have c0 := HK1.out.cell 0
        simp at c0
        obtain ⟨t0c, t1c, t2c, t3c⟩ := HCT.out w1 HBw1.out
        have hbw1 : bT < w1.heap.size := by omega
        obtain ⟨w3, hw3⟩ : ∃ wx, wx = (w1.alloc (.cells #[.int .i64 y.k, .int .i64 y.n, .int .i64 y.e, .slice va y.ps.length vc] 62)).alloc (.cells #[.int .i64 0, .int .u64 0, .int .i64 0] 58) := ⟨_, rfl⟩
        have b3 : Below w1.heap.size w1 w3 := by rw [hw3]; exact below2 _ _ _
        obtain ⟨k5, k6⟩ := blk2 w1 #[.int .i64 y.k, .int .i64 y.n, .int .i64 y.e, .slice va y.ps.length vc] #[.int .i64 0, .int .u64 0, .int .i64 0] 62 58
        rw [← hw3] at k5 k6
        have KY := hide_ k5
        have KN := hide_ k6
        have HB3 := hide_ b3
        clear k5 k6 b3
        have HW : Hid (∀ (a b c : Value) (w4 : World), w4 = ((w3.setCell ⟨w1.heap.size + 1, 0, none⟩ a).setCell ⟨w1.heap.size + 1, 1, none⟩ b).setCell ⟨w1.heap.size + 1, 2, none⟩ c → Blk w4 w1.heap.size 62 [.int .i64 y.k, .int .i64 y.n, .int .i64 y.e, .slice va y.ps.length vc] ∧ Blk w4 (w1.heap.size + 1) 58 [a, b, c] ∧ Below w1.heap.size w1 w4) := hide_ (fun a b c w4 h => by
          subst h
          exact ⟨((KY.out.other _ _ (by show w1.heap.size ≠ w1.heap.size + 1; omega)).other _ _ (by show w1.heap.size ≠ w1.heap.size + 1; omega)).other _ _ (by show w1.heap.size ≠ w1.heap.size + 1; omega), wr3 KN.out a b c, below_wr3 HB3.out _ (by omega) a b c⟩)
        go_upto_region 8 with fail
        rw [← hw3]
        clear hw3 t0c t1c t2c t3c c0
        have i0 := KY.out.cell 0; have i1 := KY.out.cell 1; have i2 := KY.out.cell 2; have i3 := KY.out.cell 3
        have j0 := KN.out.cell 0; have j1 := KN.out.cell 1; have j2 := KN.out.cell 2
        have jf := fun i => KN.out.frozen i
        simp at i0 i1 i2 i3 j0 j1 j2
        go_upto_block 0 with fail
        go_cut [7] from 55 to 119 (fun x7 wc => ∃ (w4 : World), w4 = wc ∧ Hid (Blk w4 w1.heap.size 62 [.int .i64 y.k, .int .i64 y.n, .int .i64 y.e, .slice va y.ps.length vc] ∧ Blk w4 (w1.heap.size + 1) 58 (nvc x) ∧ Below w1.heap.size w1 w4))
        case first =>
          clear HNext HFit HRt HCT hih hRk hbw1 hbw hBw HB1 HO1 hO hPr hpn hK HK1 hS hT HPk
          obtain ⟨yk, yn, ye, yps⟩ := y
          dsimp only at *
          have hk := tyOk_kind HOk.out
          dsimp only at hk
          rcases hk with rfl | rfl | rfl | rfl | rfl | rfl | rfl | rfl
          · have hn : yn = 1 ∨ yn = 2 ∨ yn = 4 ∨ yn = 8 := by
              have h1 := (tyOk_parts HOk.out).1
              simp only [nOk] at h1
              have h2 := of_decide_eq_true h1
              omega
            rcases hn with rfl | rfl | rfl | rfl
            · have HX1 : Hid (nvc x = [.int .i64 1, .int .u64 (pk % 256), .int .i64 0]) := hide_ (by rw [← HX.out]; rfl)
              obtain ⟨e1, e2, e3⟩ := HW.out (.int .i64 1) (.int .u64 pk) (.int .i64 0) _ rfl
              have E1 := hide_ (e1.other ⟨w1.heap.size + 1, 1, none⟩ (.int .u64 (pk % 256)) (by show w1.heap.size ≠ w1.heap.size + 1; omega))
              have E2 : Hid (Blk _ (w1.heap.size + 1) 58 [.int .i64 1, .int .u64 (pk % 256), .int .i64 0]) := hide_ (by have h := e2.set 1 (.int .u64 (pk % 256)); simpa using h)
              have E3 := hide_ (below_set e3 (w1.heap.size + 1) 1 (.int .u64 (pk % 256)) (by omega))
              clear e1 e2 e3
              go_wp2
              go_meet
              case rel => exact ⟨_, rfl, hide_ (by rw [HX1.out]; exact ⟨E1.out, E2.out, E3.out⟩)⟩
            · have HX1 : Hid (nvc x = [.int .i64 1, .int .u64 (pk % 65536), .int .i64 0]) := hide_ (by rw [← HX.out]; rfl)
              obtain ⟨e1, e2, e3⟩ := HW.out (.int .i64 1) (.int .u64 pk) (.int .i64 0) _ rfl
              have E1 := hide_ (e1.other ⟨w1.heap.size + 1, 1, none⟩ (.int .u64 (pk % 65536)) (by show w1.heap.size ≠ w1.heap.size + 1; omega))
              have E2 : Hid (Blk _ (w1.heap.size + 1) 58 [.int .i64 1, .int .u64 (pk % 65536), .int .i64 0]) := hide_ (by have h := e2.set 1 (.int .u64 (pk % 65536)); simpa using h)
              have E3 := hide_ (below_set e3 (w1.heap.size + 1) 1 (.int .u64 (pk % 65536)) (by omega))
              clear e1 e2 e3
              go_wp2
              go_meet
              case rel => exact ⟨_, rfl, hide_ (by rw [HX1.out]; exact ⟨E1.out, E2.out, E3.out⟩)⟩
            · have HX1 : Hid (nvc x = [.int .i64 1, .int .u64 (pk % 4294967296), .int .i64 0]) := hide_ (by rw [← HX.out]; rfl)
              obtain ⟨e1, e2, e3⟩ := HW.out (.int .i64 1) (.int .u64 pk) (.int .i64 0) _ rfl
              have E1 := hide_ (e1.other ⟨w1.heap.size + 1, 1, none⟩ (.int .u64 (pk % 4294967296)) (by show w1.heap.size ≠ w1.heap.size + 1; omega))
              have E2 : Hid (Blk _ (w1.heap.size + 1) 58 [.int .i64 1, .int .u64 (pk % 4294967296), .int .i64 0]) := hide_ (by have h := e2.set 1 (.int .u64 (pk % 4294967296)); simpa using h)
              have E3 := hide_ (below_set e3 (w1.heap.size + 1) 1 (.int .u64 (pk % 4294967296)) (by omega))
              clear e1 e2 e3
              go_wp2
              go_meet
              case rel => exact ⟨_, rfl, hide_ (by rw [HX1.out]; exact ⟨E1.out, E2.out, E3.out⟩)⟩
            · have HX1 : Hid (nvc x = [.int .i64 1, .int .u64 pk, .int .i64 0]) := hide_ (by rw [← HX.out]; show [Value.int .i64 1, .int .u64 (pk % 18446744073709551616), .int .i64 0] = _; rw [Int.emod_eq_of_lt hpk2.1 hpk2.2])
              go_wp2
              go_meet
              case rel => exact ⟨_, rfl, hide_ (by rw [HX1.out]; exact HW.out _ _ _ _ rfl)⟩
          · go_wp2
            go_meet
            case rel => exact ⟨_, rfl, hide_ (by rw [← HX.out]; exact HW.out _ _ _ _ rfl)⟩
          · go_wp2
            go_meet
            case rel => exact ⟨_, rfl, hide_ (by rw [← HX.out]; exact HW.out _ _ _ _ rfl)⟩
          · go_wp2
            go_meet
            case rel => exact ⟨_, rfl, hide_ (by rw [← HX.out]; exact HW.out _ _ _ _ rfl)⟩
          · have hn : 1 ≤ yn ∧ yn ≤ 1048576 := by
              have h1 := (tyOk_parts HOk.out).1
              simp only [nOk] at h1
              have h2 := of_decide_eq_true h1
              omega
            have hm : Int.tmod pk (yn + 1) = pk % (yn + 1) := Int.tmod_eq_emod_of_nonneg hpk2.1
            have hz : (yn + 1 == 0) = false := by simp; omega
            have hlt1 : 0 ≤ pk % (yn + 1) := Int.emod_nonneg _ (by omega)
            have hlt2 : pk % (yn + 1) < yn + 1 := Int.emod_lt_of_pos _ (by omega)
            have hw1 : wrap64 (yn + 1) = yn + 1 := w64 _ (by omega)
            have hu : IntKind.u64.wrap (yn + 1) = yn + 1 := by rw [IntKind.wrap_u64]; omega
            go_wp2
            go_meet
            case rel => exact ⟨_, rfl, hide_ (by rw [← HX.out]; exact HW.out _ _ _ _ rfl)⟩
          · have hlt1 : 0 ≤ pk % 2 := Int.emod_nonneg _ (by omega)
            have hlt2 : pk % 2 < 2 := Int.emod_lt_of_pos _ (by omega)
            go_wp2
            go_meet
            case rel => exact ⟨_, rfl, hide_ (by rw [← HX.out]; exact HW.out _ _ _ _ rfl)⟩
          · have hL0 : 0 < yps.length := tyOk_some HOk.out (.inl rfl)
            have hL1 := tyOk_len HOk.out
            dsimp only at hL1
            obtain ⟨bq, oq, rfl, hbq, hcq⟩ := HPR.out.open hL0
            have hlt1 : 0 ≤ pk % (yps.length : Int) := Int.emod_nonneg _ (by omega)
            have hlt2 : pk % (yps.length : Int) < yps.length := Int.emod_lt_of_pos _ (by omega)
            have hm : Int.tmod pk (yps.length : Int) = pk % (yps.length : Int) := Int.tmod_eq_emod_of_nonneg hpk2.1
            have hX7 : pickP ⟨7, yn, ye, yps⟩ pk = ⟨6, (yps.getD (pk % (yps.length : Int)).toNat pt0).tag, 1⟩ := by simp [pickP]
            obtain ⟨m, hmm⟩ := Int.eq_ofNat_of_zero_le hlt1
            have hml : m < yps.length := by omega
            have hxq : yps[m]? = some (yps[m]'hml) := List.getElem?_eq_getElem hml
            have hxe : yps.getD m pt0 = yps[m]'hml := by simp [List.getD, hml]
            have a0 := hcq m _ hxq 0 (by decide); have a1 := hcq m _ hxq 1 (by decide); have a2 := hcq m _ hxq 2 (by decide)
            simp only [ptc, List.getElem?_cons_succ, List.getElem?_cons_zero] at a0 a1 a2
            have htm := tyOk_tags HOk.out _ (List.getElem_mem hml)
            rw [hmm, Int.toNat_natCast, hxe] at hX7
            rw [hmm] at hm
            have HX7 : Hid (nvc x = [.int .i64 6, .int .u64 (yps[m]'hml).tag, .int .i64 1]) := hide_ (by rw [← HX.out, hX7]; rfl)
            generalize (yps[m]'hml).tag = tg at *
            generalize (yps[m]'hml).label = lb at *
            generalize (yps[m]'hml).ty = pty at *
            have hu : IntKind.u64.wrap (yps.length : Int) = (yps.length : Int) := by rw [IntKind.wrap_u64]; omega
            have hut : IntKind.u64.wrap tg = tg := by rw [IntKind.wrap_u64]; omega
            have hz : ((yps.length : Int) == 0) = false := by simp; intro h; rw [h] at hL0; simp at hL0
            have hml' : (m : Int) < yps.length := by omega
            have hne : ¬ yps = [] := fun h => by rw [h] at hL0; simp at hL0
            have HSS : Hid (∀ w', Below w3.heap.size w3 w' → (fun w' => w'.cell? ⟨w1.heap.size, 3, none⟩ = some (.slice (some ⟨bq, oq, none⟩) yps.length vc) ∧ w'.cell? ⟨bq, oq + m * 3, none⟩ = some (.string lb) ∧ w'.cell? ⟨bq, oq + m * 3 + 1, none⟩ = some (.int .i64 tg) ∧ w'.cell? ⟨bq, oq + m * 3 + 2, none⟩ = some (.int .i64 pty)) w') := hide_ (fun w' hB' => ⟨by have h := (KY.out.later hB').cell 3; simpa using h, (((HBw1.out.trans (HB3.out.mono HBw1.out.size)).trans (hB'.mono (Nat.le_trans HBw1.out.size HB3.out.size))).cell (p := ⟨bq, oq + m * 3 + 0, none⟩) hbq).trans a0, (((HBw1.out.trans (HB3.out.mono HBw1.out.size)).trans (hB'.mono (Nat.le_trans HBw1.out.size HB3.out.size))).cell (p := ⟨bq, oq + m * 3 + 1, none⟩) hbq).trans a1, (((HBw1.out.trans (HB3.out.mono HBw1.out.size)).trans (hB'.mono (Nat.le_trans HBw1.out.size HB3.out.size))).cell (p := ⟨bq, oq + m * 3 + 2, none⟩) hbq).trans a2⟩)
            clear hcq hxq hxe a0 a1 a2 hX7 hmm hlt1 hlt2 HOk HPR
            go_upto_region 25 with fail
            refine wp_region_last 11 (fun w' => w'.cell? ⟨w1.heap.size, 3, none⟩ = some (.slice (some ⟨bq, oq, none⟩) yps.length vc) ∧ w'.cell? ⟨bq, oq + m * 3, none⟩ = some (.string lb) ∧ w'.cell? ⟨bq, oq + m * 3 + 1, none⟩ = some (.int .i64 tg) ∧ w'.cell? ⟨bq, oq + m * 3 + 2, none⟩ = some (.int .i64 pty)) (by kernel_rfl) (HSS.out _ ((Below.refl w3.heap.size w3).drew)) (fun hHeld => ?_)
            refine wpAnyF_take [11] (by kernel_rfl) (i := 0) (v := ?vb1) rfl (by kernel_rfl) (by kernel_rfl) (by kernel_rfl) (fun _ _ _ h => h) (Or.inl ⟨by kernel_rfl, ?hyb1⟩) hHeld ?restb1
            case hyb1 => intro w' hSw; (try dsimp only at hSw); go_simp; try with_reducible rfl
            simp only [Act.put]
            refine wpAnyF_take [11] (by kernel_rfl) (i := 1) (v := ?vb2) rfl (by kernel_rfl) (by kernel_rfl) (by kernel_rfl) (fun _ _ _ h => h) (Or.inl ⟨by kernel_rfl, ?hyb2⟩) hHeld ?restb2
            case hyb2 => intro w' hSw; (try dsimp only at hSw); go_simp; try with_reducible rfl
            simp only [Act.put]
            refine wpAnyF_take [11] (by kernel_rfl) (i := 2) (v := ?vb3) rfl (by kernel_rfl) (by kernel_rfl) (by kernel_rfl) (fun _ _ _ h => h) (Or.inl ⟨by kernel_rfl, ?hyb3⟩) hHeld ?restb3
            case hyb3 => intro w' hSw; (try dsimp only at hSw); go_simp; try with_reducible rfl
            simp only [Act.put]
            refine wpAnyF_take [11] (by kernel_rfl) (i := 3) (v := ?vb4) rfl (by kernel_rfl) (by kernel_rfl) (by kernel_rfl) (fun _ _ _ h => h) (Or.inl ⟨by kernel_rfl, ?hyb4⟩) hHeld ?restb4
            case hyb4 => intro w' hSw; (try dsimp only at hSw); go_simp; try with_reducible rfl
            simp only [Act.put]
            refine wpAnyF_take [11] (by kernel_rfl) (i := 4) (v := ?vb5) rfl (by kernel_rfl) (by kernel_rfl) (by kernel_rfl) (fun _ _ _ h => h) (Or.inl ⟨by kernel_rfl, ?hyb5⟩) hHeld ?restb5
            case hyb5 => intro w' hSw; (try dsimp only at hSw); go_simp; try with_reducible rfl
            simp only [Act.put]
            refine wpAnyF_take [11] (by kernel_rfl) (i := 5) (v := ?vb6) rfl (by kernel_rfl) (by kernel_rfl) (by kernel_rfl) (fun _ _ _ h => h) (Or.inl ⟨by kernel_rfl, ?hyb6⟩) hHeld ?restb6
            case hyb6 => intro w' hSw; (try dsimp only at hSw); go_simp; try with_reducible rfl
            simp only [Act.put]
            refine wpAnyF_take [11] (by kernel_rfl) (i := 6) (v := ?vb7) rfl (by kernel_rfl) (by kernel_rfl) (by kernel_rfl) (fun _ _ _ h => h) (Or.inl ⟨by kernel_rfl, ?hyb7⟩) hHeld ?restb7
            case hyb7 => intro w' hSw; (try dsimp only at hSw); go_simp; try with_reducible rfl
            simp only [Act.put]
            refine wpAnyF_take [11] (by kernel_rfl) (i := 7) (v := ?vb8) rfl (by kernel_rfl) (by kernel_rfl) (by kernel_rfl) (fun _ _ _ h => h) (Or.inl ⟨by kernel_rfl, ?hyb8⟩) hHeld ?restb8
            case hyb8 => intro w' hSw; (try dsimp only at hSw); go_simp; try with_reducible rfl
            simp only [Act.put]
            refine wpAnyF_take [11] (by kernel_rfl) (i := 8) (v := ?vb9) rfl (by kernel_rfl) (by kernel_rfl) (by kernel_rfl) (fun _ _ _ h => h) (Or.inl ⟨by kernel_rfl, ?hyb9⟩) hHeld ?restb9
            case hyb9 => intro w' hSw; (try dsimp only at hSw); go_simp; try with_reducible rfl
            simp only [Act.put]
            refine wpAnyF_take [11] (by kernel_rfl) (i := 9) (v := ?vb10) rfl (by kernel_rfl) (by kernel_rfl) (by kernel_rfl) (fun _ _ _ h => h) (Or.inl ⟨by kernel_rfl, ?hyb10⟩) hHeld ?restb10
            case hyb10 => intro w' hSw; (try dsimp only at hSw); go_simp; try with_reducible rfl
            simp only [Act.put]
            refine wpAnyF_ready (rs := [10]) (by kernel_rfl) (by simp) ?_
            refine AllReadyF.cons rfl (fun K hK => ?_) AllReadyF.nil
            go_simp
            refine hK.out _ _ (HSS.out _ (below_to ((Below.refl _ _).drew) (below1 _ _))) (fun hHeld => ?_)
            clear hK K
            refine wpAnyF_ready (rs := [11]) (by kernel_rfl) (by simp) ?_
            refine AllReadyF.last rfl (fun K hK => ?_)
            go_simp
            refine hK.out _ _ ?_
            clear hK K
            refine wpAnyF_done (by kernel_rfl) ?_ _
            obtain ⟨w5, hw5⟩ : ∃ wx, wx = (w3.alloc (.cells #[.string lb, .int .i64 tg, .int .i64 pty] 64)).drew := ⟨_, rfl⟩
            have b5 : Below w3.heap.size w3 w5 := by rw [hw5]; exact (below1 _ _).drew
            have ka : Blk w5 w3.heap.size 64 [.string lb, .int .i64 tg, .int .i64 pty] := by rw [hw5]; exact Blk.newA w3 #[.string lb, .int .i64 tg, .int .i64 pty] 64
            have KY5 := hide_ (KY.out.later b5)
            have KN5 := hide_ (KN.out.later b5)
            have HB5 := hide_ (below_to HB3.out b5)
            rw [← hw5]
            clear hw5 b5 HSS i0 i1 i2 i3 j0 j1 j2 jf
            have l0 := ka.cell 0; have l1 := ka.cell 1; have l2 := ka.cell 2
            have j0 := KN5.out.cell 0; have j1 := KN5.out.cell 1; have j2 := KN5.out.cell 2
            have jf := fun i => KN5.out.frozen i
            simp at l0 l1 l2 j0 j1 j2
            go_wp2
            go_meet
            case rel => exact ⟨_, rfl, hide_ (by rw [HX7.out]; exact ⟨((KY5.out.other _ _ (by show w1.heap.size ≠ w1.heap.size + 1; omega)).other _ _ (by show w1.heap.size ≠ w1.heap.size + 1; omega)).other _ _ (by show w1.heap.size ≠ w1.heap.size + 1; omega), wr3 KN5.out _ _ _, below_wr3 HB5.out _ (by omega) _ _ _⟩)⟩
          · go_wp2
            go_meet
            case rel => exact ⟨_, rfl, hide_ (by rw [← HX.out]; exact HW.out _ _ _ _ rfl)⟩
        case rest =>
          obtain ⟨w4, rfl, H4⟩ := hcut
          obtain ⟨ky4, kn4, hb4⟩ := H4.out
          have KY4 := hide_ ky4
          have KN4 := hide_ kn4
          have HB4 := hide_ hb4
          have hz4 : w1.heap.size + 1 < w4.heap.size := kn4.lt
          have HBw4 : Hid (Below wb.heap.size wb w4) := hide_ (HBw1.out.trans (hb4.mono HBw1.out.size))
          have HK4 := hide_ (HK1.out.later hb4)
          have HO4 := hide_ (HO1.out.later hb4)
          have HBd : Hid (Below w4.heap.size w4 w4.drew) := hide_ ((Below.refl _ _).drew)
          obtain ⟨gn, cn, w6, hrun, ho6, hu6, hg6⟩ := (HO4.out.later HBd.out).push x (by omega) HBw4.out.size
          have HRun : Hid ((Builtin.append_ #[38, 38] 38 #[.slice aV V.length cV, .slice (some ⟨w4.heap.size, 0, none⟩) 1 1]).run Try.prog (w4.drew.alloc (.cells #[.int .i64 x.k, .int .u64 x.n, .int .i64 x.kids] 58)) = .ok (.slice (some ⟨gn, 0, none⟩) (V.length + 1) cn) w6) := hide_ hrun
          have hn6 : ¬ (Value.slice aV V.length cV).ownBlock = some (w1.heap.size + 1) := fun e => by have := (World.ownsRow.lt HO1.out _ e).2; omega
          have HK6 := hide_ ((HK4.out.later HBd.out).upd hu6 ((HO4.out.later HBd.out).ne (HK4.out.later HBd.out) (by decide)))
          have HY6 := hide_ ((KY4.out.later HBd.out).upd hu6 ((HO4.out.later HBd.out).ne (KY4.out.later HBd.out) (by decide)))
          have HN6 := hide_ ((KN4.out.later HBd.out).upd hu6 hn6)
          have HO6 := hide_ ho6
          have HU6 : Hid (Upd (fun k => k = bm ∨ (Value.slice aV V.length cV).ownBlock = some k) w w6) := hide_ ((((Upd.of_below HB1.out).then HB4.out).then HBd.out).to (hu6.mono (fun _ _ h => .inr h)))
          have HSS : Hid (∀ w', Blk w' bm 97 [.slice (some ⟨bT, oT, none⟩) T.length cT, .slice aR R.length cR, .slice aP nP cP, .slice aV V.length cV, .bool false] → Blk w' (w1.heap.size + 1) 58 (nvc x) → (fun w' => w'.cell? ⟨bm, 3, none⟩ = some (.slice aV V.length cV) ∧ w'.cell? ⟨w1.heap.size + 1, 0, none⟩ = some (.int .i64 x.k) ∧ w'.cell? ⟨w1.heap.size + 1, 1, none⟩ = some (.int .u64 x.n) ∧ w'.cell? ⟨w1.heap.size + 1, 2, none⟩ = some (.int .i64 x.kids)) w') := hide_ (fun w' k1 k2 => ⟨by have h := k1.cell 3; simpa using h, k2.cell 0, k2.cell 1, k2.cell 2⟩)
          have HBa : Hid (∀ ob, Below w4.heap.size w4 (w4.drew.alloc ob)) := hide_ (fun ob => below_to ((Below.refl _ _).drew) (below1 _ _))
          have HLi : Hid (∀ b, (Value.slice (some ⟨gn, 0, none⟩) (V.length + 1) cn).ownBlock = some b → (Value.slice aV V.length cV).ownBlock = some b ∨ w.heap.size ≤ b) := hide_ (fun b hb => by
            have := own_is hb
            subst this
            rcases hg6 with h | h
            · exact .inl h
            · exact .inr (by have h : w4.heap.size ≤ _ := h; omega))
          have HNg : Hid (¬ (Value.slice (some ⟨gn, 0, none⟩) (V.length + 1) cn).ownBlock = some (w1.heap.size + 1)) := hide_ (fun e => by
            have := own_is e
            subst this
            rcases hg6 with h | h
            · exact hn6 h
            · have h : w4.heap.size ≤ w1.heap.size + 1 := h
              omega)
          clear hrun ho6 hu6 hg6 hn6 ky4 kn4 hb4 H4 HW KY KN i0 i1 i2 i3 j0 j1 j2 jf HBw1 HK1 HO1 HCT
          have HBw0 := hBw
          go_upto_region 27 with fail
          refine wp_region_last 10 (fun w' => w'.cell? ⟨bm, 3, none⟩ = some (.slice aV V.length cV) ∧ w'.cell? ⟨w1.heap.size + 1, 0, none⟩ = some (.int .i64 x.k) ∧ w'.cell? ⟨w1.heap.size + 1, 1, none⟩ = some (.int .u64 x.n) ∧ w'.cell? ⟨w1.heap.size + 1, 2, none⟩ = some (.int .i64 x.kids)) (by kernel_rfl) (HSS.out _ (HK4.out.later HBd.out) (KN4.out.later HBd.out)) (fun hHeld => ?_)
          refine wpAnyF_take [10] (by kernel_rfl) (i := 0) (v := ?vc1) rfl (by kernel_rfl) (by kernel_rfl) (by kernel_rfl) (fun _ _ _ h => h) (Or.inl ⟨by kernel_rfl, ?hyc1⟩) hHeld ?restc1
          case hyc1 => intro w' hSw; (try dsimp only at hSw); go_simp; try with_reducible rfl
          simp only [Act.put]
          refine wpAnyF_take [10] (by kernel_rfl) (i := 1) (v := ?vc2) rfl (by kernel_rfl) (by kernel_rfl) (by kernel_rfl) (fun _ _ _ h => h) (Or.inl ⟨by kernel_rfl, ?hyc2⟩) hHeld ?restc2
          case hyc2 => intro w' hSw; (try dsimp only at hSw); go_simp; try with_reducible rfl
          simp only [Act.put]
          refine wpAnyF_take [10] (by kernel_rfl) (i := 2) (v := ?vc3) rfl (by kernel_rfl) (by kernel_rfl) (by kernel_rfl) (fun _ _ _ h => h) (Or.inl ⟨by kernel_rfl, ?hyc3⟩) hHeld ?restc3
          case hyc3 => intro w' hSw; (try dsimp only at hSw); go_simp; try with_reducible rfl
          simp only [Act.put]
          refine wpAnyF_take [10] (by kernel_rfl) (i := 3) (v := ?vc4) rfl (by kernel_rfl) (by kernel_rfl) (by kernel_rfl) (fun _ _ _ h => h) (Or.inl ⟨by kernel_rfl, ?hyc4⟩) hHeld ?restc4
          case hyc4 => intro w' hSw; (try dsimp only at hSw); go_simp; try with_reducible rfl
          simp only [Act.put]
          refine wpAnyF_take [10] (by kernel_rfl) (i := 4) (v := ?vc5) rfl (by kernel_rfl) (by kernel_rfl) (by kernel_rfl) (fun _ _ _ h => h) (Or.inl ⟨by kernel_rfl, ?hyc5⟩) hHeld ?restc5
          case hyc5 => intro w' hSw; (try dsimp only at hSw); go_simp; try with_reducible rfl
          simp only [Act.put]
          refine wpAnyF_take [10] (by kernel_rfl) (i := 5) (v := ?vc6) rfl (by kernel_rfl) (by kernel_rfl) (by kernel_rfl) (fun _ _ _ h => h) (Or.inl ⟨by kernel_rfl, ?hyc6⟩) hHeld ?restc6
          case hyc6 => intro w' hSw; (try dsimp only at hSw); go_simp; try with_reducible rfl
          simp only [Act.put]
          refine wpAnyF_ready (rs := [6]) (by kernel_rfl) (by simp) ?_
          refine AllReadyF.cons rfl (fun K hK => ?_) AllReadyF.nil
          go_simp
          refine hK.out _ _ (HSS.out _ (HK4.out.later (HBa.out _)) (KN4.out.later (HBa.out _))) (fun hHeld => ?_)
          clear hK K
          refine wpAnyF_ready (rs := [7]) (by kernel_rfl) (by simp) ?_
          refine AllReadyF.cons rfl (fun K hK => ?_) AllReadyF.nil
          refine step_append_run rfl (.tmp 123) (.tmp 125) 38 38 rfl rfl rfl HRun.out ?_
          refine hK.out _ _ (HSS.out _ HK6.out HN6.out) (fun hHeld => ?_)
          clear hK K
          refine wpAnyF_take [10, 9] (by kernel_rfl) (i := 8) (v := ?vc7) rfl (by kernel_rfl) (by kernel_rfl) (by kernel_rfl) (fun _ _ _ h => h) (Or.inl ⟨by kernel_rfl, ?hyc7⟩) hHeld ?restc7
          case hyc7 => intro w' hSw; (try dsimp only at hSw); go_simp; try with_reducible rfl
          simp only [Act.put]
          refine wpAnyF_take [10] (by kernel_rfl) (i := 9) (v := ?vc8) rfl (by kernel_rfl) (by kernel_rfl) (by kernel_rfl) (fun _ _ _ h => h) (Or.inl ⟨by kernel_rfl, ?hyc8⟩) hHeld ?restc8
          case hyc8 => intro w' hSw; (try dsimp only at hSw); go_simp; try with_reducible rfl
          simp only [Act.put]
          refine wpAnyF_ready (rs := [10]) (by kernel_rfl) (by simp) ?_
          refine AllReadyF.last rfl (fun K hK => ?_)
          have l3 := HK6.out.cell 3
          have lf := fun i => HK6.out.frozen i
          simp at l3
          go_simp
          refine hK.out _ _ ?_
          clear hK K
          refine wpAnyF_done (by kernel_rfl) ?_ _
          have HK7 : Hid (Blk (w6.setCell ⟨bm, 3, none⟩ (.slice (some ⟨gn, 0, none⟩) (V.length + 1) cn)) bm 97 [.slice (some ⟨bT, oT, none⟩) T.length cT, .slice aR R.length cR, .slice aP nP cP, .slice (some ⟨gn, 0, none⟩) (V.length + 1) cn, .bool false]) := hide_ (by have h := HK6.out.set 3 (.slice (some ⟨gn, 0, none⟩) (V.length + 1) cn); simpa using h)
          have hbm1 : bm < w1.heap.size := Nat.lt_of_lt_of_le hK.out.lt hz1
          have HY7 := hide_ (HY6.out.other ⟨bm, 3, none⟩ (.slice (some ⟨gn, 0, none⟩) (V.length + 1) cn) (by show w1.heap.size ≠ bm; omega))
          have HN7 := hide_ (HN6.out.other ⟨bm, 3, none⟩ (.slice (some ⟨gn, 0, none⟩) (V.length + 1) cn) (by show w1.heap.size + 1 ≠ bm; omega))
          have HU7 := hide_ (HU6.out.set ⟨bm, 3, none⟩ (.slice (some ⟨gn, 0, none⟩) (V.length + 1) cn) (.inl (.inl rfl)))
          have HO7 : Hid (NOwn (w6.setCell ⟨bm, 3, none⟩ (.slice (some ⟨gn, 0, none⟩) (V.length + 1) cn)) wb.heap.size (.slice (some ⟨gn, 0, none⟩) (V.length + 1) cn) (V ++ [x])) := hide_ (HO6.out.upd ((Upd.refl (fun k => k = bm) w6).set ⟨bm, 3, none⟩ (.slice (some ⟨gn, 0, none⟩) (V.length + 1) cn) (.inl rfl)) (fun k hk e => by subst e; exact HO6.out.ne HK6.out (by decide) hk))
          clear HSS HBa HRun l3 lf hHeld HK6 HY6 HN6 HU6 HO6
          generalize w6.setCell ⟨bm, 3, none⟩ (.slice (some ⟨gn, 0, none⟩) (V.length + 1) cn) = w7 at *
          go_wp2_with fail
          go_loopw [8] (fun x8 wr => ∃ (k : Nat) (v1 : Value) (V1 : List Nv) (many : Bool), x8 = .int .i64 (k : Int) ∧ (k : Int) ≤ x.kids ∧ Hid (Blk wr bm 97 [.slice (some ⟨bT, oT, none⟩) T.length cT, .slice aR R.length cR, .slice aP nP cP, v1, .bool many]) ∧ Hid (NOwn wr wb.heap.size v1 V1) ∧ Hid (∀ b, v1.ownBlock = some b → (Value.slice aV V.length cV).ownBlock = some b ∨ w.heap.size ≤ b) ∧ Hid (¬ v1.ownBlock = some (w1.heap.size + 1)) ∧ Hid (Upd (fun k => k = bm ∨ (Value.slice aV V.length cV).ownBlock = some k) w wr) ∧ Hid (Blk wr w1.heap.size 62 [.int .i64 y.k, .int .i64 y.n, .int .i64 y.e, .slice va y.ps.length vc]) ∧ Hid (Blk wr (w1.heap.size + 1) 58 (nvc x)) ∧ Hid ((many = true ∧ mkT T p 1048578 [t0] [] = none) ∨ (many = false ∧ RkI T t0 p ((kidsT y x).drop k ++ st) V1 ∧ V.length < V1.length))) (fun x8 _ => (x.kids - intOf x8).toNat)
          case atStart => exact ⟨0, _, _, false, rfl, (rightV_kids HRt.out).1, HK7, HO7, HLi, HNg, HU7, HY7, HN7, hide_ (.inr ⟨rfl, by have h := HNext.out; simpa using h, by simp⟩)⟩
          case round =>
            obtain ⟨k, v1, V1, many, rfl, hk, HK, HO, HL, HG, HU, HY, HN, HR⟩ := hrel
            generalize wr = wq at *
            clear HK7 HO7 HLi HNg HU7 HY7 HN7 HNext
            have n2 := HN.out.cell 2
            have m4 := HK.out.cell 4
            simp [nvc] at n2 m4
            have hkd := (rightV_kids HRt.out).2
            by_cases hkl : (k : Int) < x.kids
            · cases many with
              | true =>
                have hNone : mkT T p 1048578 [t0] [] = none := by
                  rcases HR.out with ⟨-, h⟩ | ⟨h, -⟩
                  · exact h
                  · cases h
                have HNo := hide_ hNone
                clear hNone
                go_wp2
                refine bodyPost_end (results_none rfl _ _ _) rfl ?_
                exact ⟨rfl, hide_ ⟨v1, V1, true, HK.out, HO.out, HL.out, HU.out, .inl ⟨rfl, HNo.out⟩⟩⟩
              | false =>
                have hrk : RkI T t0 p ((kidsT y x).drop k ++ st) V1 ∧ V.length < V1.length := by
                  rcases HR.out with ⟨h, -⟩ | ⟨-, h⟩
                  · cases h
                  · exact h
                obtain ⟨hrk, hvv⟩ := hrk
                have HBq : Hid (Below wb.heap.size wb wq) := hide_ ((HBw0.out).trans (HU.out.below _ hzb (fun b hb => by
                  rcases hb with h | h
                  · subst h; exact hbm
                  · exact (World.ownsRow.lt hO.out b h).1)))
                obtain ⟨s1, hs1k, hel⟩ := elemR_any y x va vc _ k wq HOk HFit.out HRt.out hkl (hide_ (HPR.out.later HBq.out))
                have hdr : (kidsT y x).drop k ++ st = s1 :: ((kidsT y x).drop (k + 1) ++ st) := by
                  have hlt := (List.getElem?_eq_some_iff.1 hs1k).1
                  rw [List.drop_eq_getElem_cons hlt, (List.getElem?_eq_some_iff.1 hs1k).2]
                  rfl
                rw [hdr] at hrk
                have HRk := hide_ hrk
                have HEl := hide_ hel
                have n0 := HN.out.cell 0; have n1 := HN.out.cell 1
                have y0 := HY.out.cell 0; have y1 := HY.out.cell 1; have y2 := HY.out.cell 2; have y3 := HY.out.cell 3
                simp [nvc] at n0 n1 y0 y1 y2 y3
                clear hrk hel hdr hs1k HR
                go_wp2_with fail
                refine HEl.out.mono ?_
                rintro e w8 ⟨rfl, hB8⟩
                have HB8 := hide_ hB8
                clear hB8 HEl
                have HSo := hide_ (hih.out s1 _ V1 v1 w8 (by omega) HRk (hide_ (HBq.out.trans (HB8.out.mono HBq.out.size))) (hide_ (HK.out.later HB8.out)) (hide_ (HO.out.later HB8.out)))
                go_wp2_with fail
                refine HSo.out.mono ?_
                rintro e w9 ⟨rfl, HM⟩
                obtain ⟨v2, V2, many2, hk2, ho2, hl2, hu2, hor2⟩ := HM.out
                have hz8 : wq.heap.size ≤ w8.heap.size := HB8.out.size
                have hzq : w.heap.size ≤ wq.heap.size := HU.out.size
                have hq1 : w1.heap.size + 1 < wq.heap.size := HN.out.lt
                have hbmq : bm < w.heap.size := hK.out.lt
                have HK9 := hide_ hk2
                have HO9 := hide_ ho2
                have HL9 : Hid (∀ b, v2.ownBlock = some b → (Value.slice aV V.length cV).ownBlock = some b ∨ w.heap.size ≤ b) := hide_ (fun b hb => by
                  rcases hl2 b hb with h | h
                  · exact HL.out b h
                  · exact .inr (by omega))
                have HG9 : Hid (¬ v2.ownBlock = some (w1.heap.size + 1)) := hide_ (fun e => by
                  rcases hl2 _ e with h | h
                  · exact HG.out h
                  · omega)
                have HU9 : Hid (Upd (fun k => k = bm ∨ (Value.slice aV V.length cV).ownBlock = some k) w w9) := hide_ ((HU.out.then HB8.out).trans hu2 (fun b hb h => by
                  rcases h with h | h
                  · exact .inl h
                  · rcases HL.out b h with h | h
                    · exact .inr h
                    · omega))
                have HY9 := hide_ ((HY.out.later HB8.out).upd hu2 (fun h => by
                  rcases h with h | h
                  · omega
                  · exact (HO.out.later HB8.out).ne (HY.out.later HB8.out) (by decide) h))
                have HN9 := hide_ ((HN.out.later HB8.out).upd hu2 (fun h => by
                  rcases h with h | h
                  · omega
                  · exact HG.out h))
                have HR9 : Hid ((many2 = true ∧ mkT T p 1048578 [t0] [] = none) ∨ (many2 = false ∧ RkI T t0 p ((kidsT y x).drop (k + 1) ++ st) V2 ∧ V.length < V2.length)) := hide_ (by
                  rcases hor2 with h | ⟨h1, h2, h3⟩
                  · exact .inl h
                  · exact .inr ⟨h1, h2, by omega⟩)
                clear hk2 ho2 hl2 hu2 hor2 HM HSo
                go_wp2_with fail
                go_roundw
                case rel => exact ⟨k + 1, v2, V2, many2, by go_num, by omega, HK9, HO9, HL9, HG9, HU9, HY9, HN9, HR9⟩
                case measure => simp [intOf]; omega
            · have hkl' : ¬ (k : Int) < x.kids := hkl
              have HRf : Hid ((many = true ∧ mkT T p 1048578 [t0] [] = none) ∨ (many = false ∧ RkI T t0 p st V1 ∧ V.length < V1.length)) := hide_ (by
                have h := HR.out
                have hl := kidsT_len HOk.out HFit.out HRt.out
                rw [List.drop_eq_nil_of_le (by omega), List.nil_append] at h
                exact h)
              go_wp2
              refine bodyPost_end (results_none rfl _ _ _) rfl ?_
              exact ⟨rfl, hide_ ⟨v1, V1, many, HK.out, HO.out, HL.out, HU.out, HRf.out⟩⟩
end Go.Proofs.Ytdpkmkhflgmioaa

/- The document's Some: mortiseref10.Some, mortiseref11.Some. -/
namespace Go.Proofs.Ytdpkmkhflgmioaa
open Go.RowKit
set_option linter.unusedVariables false

/-- What Some answers. -/
def SoTo (A : List Nv × Int) (w : World) (e : Ending) (w' : World) : Prop := ∃ v, e = .returned (.tuple #[v, .int .i64 A.2]) ∧ Hid (NOwn w' w.heap.size v A.1) ∧ Hid (Below w.heap.size w w')
set_option maxRecDepth 100000 in
set_option maxHeartbeats 8000000 in
theorem someR_any (aT : Option Addr) (cT : Nat) (T : List Ty) (aR : Option Addr) (cR : Nat) (R : List Rt) (t : Int) (aP : Option Addr) (nP cP : Nat) (p : List Int) (w : World) (hn : T.length ≤ 1000000000) (hm : R.length ≤ 10000000000000) (hL : Hid (LensT T)) (hT : Hid (TRow w aT T)) (hRr : Hid (RRow w aR R)) (hpn : Hid (p.length = nP)) (hPr : Hid (Row .i64 w aP p)) :
    Calls Try.prog 30 #[.agg #[.slice aT T.length cT, .slice aR R.length cR], .int .i64 t, .slice aP nP cP] w fun e w' => SoTo (someT T R t p) w e w' := by
  obtain ⟨w0, hw0⟩ : ∃ wx, wx = w.alloc (.cells #[.slice aT T.length cT, .slice aR R.length cR] 25) := ⟨_, rfl⟩
  have hB : Below w.heap.size w w0 := by rw [hw0]; exact below1 _ _
  have k1 : Blk w0 w.heap.size 25 [.slice aT T.length cT, .slice aR R.length cR] := by rw [hw0]; exact Blk.newA w _ _
  have HB0 := hide_ hB
  have K1 := hide_ k1
  have hz0 : w.heap.size < w0.heap.size := k1.lt
  have i0 := k1.cell 0; have i1 := k1.cell 1
  simp at i0 i1
  have HCk := hide_ (checkR_any aT cT T aR cR R w0 (by omega) hm hL (hide_ (hT.out.later hB)) (hide_ (hRr.out.later hB)))
  obtain ⟨E, hE⟩ : ∃ E, (chk T R).1 = E := ⟨_, rfl⟩
  obtain ⟨A, hA⟩ : ∃ A, (chk T R).2 = A := ⟨_, rfl⟩
  rw [hE, hA] at HCk
  have HE : Hid (chk T R = (E, A)) := hide_ (by rw [← hE, ← hA])
  clear hB k1 hE hA
  go_enter Try.func30, Try.ntmps30
  go_upto_region 1 with fail
  rw [← hw0]
  clear hw0
  go_wp2_with fail
  refine HCk.out.mono ?_; rintro e w1 ⟨rfl, hB1⟩
  obtain ⟨w2, hw2⟩ : ∃ wx, wx = w1.alloc (.cells #[.int .i64 E, .int .i64 A] 34) := ⟨_, rfl⟩
  have kf : Blk w2 w1.heap.size 34 [.int .i64 E, .int .i64 A] := by rw [hw2]; exact Blk.newA w1 _ _
  have hb2 : Below w1.heap.size w1 w2 := by rw [hw2]; exact below1 _ _
  have HB2 := hide_ (below_to hB1 hb2)
  have K12 := hide_ (K1.out.later HB2.out)
  have HBw := hide_ (below_to HB0.out HB2.out)
  have j0 := kf.cell 0; have j1 := kf.cell 1
  simp at j0 j1
  clear i0 i1
  have i0 := K12.out.cell 0; have i1 := K12.out.cell 1
  simp at i0 i1
  clear hB1 hb2 kf HCk
  go_upto_region 2 with fail
  rw [← hw2]
  clear hw2
  by_cases hE0 : E = 0
  · subst hE0
    have HOk := hide_ (okS_of (T := T) (R := R) (by rw [HE.out]))
    by_cases ht : t < 0 ∨ (T.length : Int) ≤ t
    · have HV : Hid (someT T R t p = ([], 3)) := hide_ (by unfold someT; rw [HE.out, if_neg (by simp), if_pos ht])
      by_cases ht0 : t < 0
      · have hd : decide (t < 0) = true := decide_eq_true ht0
        go_wp2
        go_ret2
        exact ⟨_, by rw [HV.out]; rfl, hide_ (by rw [HV.out]; exact NOwn.nil _ _), HBw⟩
      · have hd : decide (t < 0) = false := decide_eq_false ht0
        have hd2 : (T.length : Int) ≤ t := by omega
        go_wp2
        go_ret2
        exact ⟨_, by rw [HV.out]; rfl, hide_ (by rw [HV.out]; exact NOwn.nil _ _), HBw⟩
    · have hd : decide (t < 0) = false := decide_eq_false (by omega)
      have hd1 : ¬ t < 0 := by omega
      have hd2 : ¬ (T.length : Int) ≤ t := by omega
      have hTl : 0 < T.length := by omega
      obtain ⟨bT, oT, eT, -, -⟩ := hT.out.open hTl
      subst eT
      have HV : Hid (someT T R t p = match mkT T p 1048578 [t] [] with | some v => (v, 0) | none => ([], 5)) := hide_ (by unfold someT; rw [HE.out, if_neg (by simp), if_neg ht]; generalize mkT T p 1048578 [t] [] = z; cases z <;> rfl)
      obtain ⟨w3, hw3⟩ : ∃ wx, wx = w2.alloc (.cells #[.slice (some ⟨bT, oT, none⟩) T.length cT, .slice aR R.length cR, .slice aP nP cP, .slice none 0 0, .bool false] 97) := ⟨_, rfl⟩
      have km : Blk w3 w2.heap.size 97 [.slice (some ⟨bT, oT, none⟩) T.length cT, .slice aR R.length cR, .slice aP nP cP, .slice none 0 0, .bool false] := by rw [hw3]; exact Blk.newA w2 _ _
      have hb3 : Below w2.heap.size w2 w3 := by rw [hw3]; exact below1 _ _
      have HBw3 := hide_ (below_to HBw.out hb3)
      have HMs := hide_ (msome_any w bT oT cT T aR cR R aP nP cP p w2.heap.size t HBw.out.size HOk hT hpn hPr 1048577 t [] [] (.slice none 0 0) w3 (by simp) (hide_ (RkI.start (by omega) (by omega))) HBw3 (hide_ km) (hide_ (NOwn.nil _ _)))
      clear km hb3
      go_upto_region 7 with fail
      rw [← hw3]
      clear hw3 i0 i1 j0 j1
      go_wp2_with fail
      refine HMs.out.mono ?_; rintro e w4 ⟨rfl, HM⟩
      obtain ⟨v', V', many, hk, ho, hl, hu, hor⟩ := HM.out
      have HBf : Hid (Below w.heap.size w w4) := hide_ (below_to3 HBw3.out hu (fun k hk => by
        rcases hk with h | h
        · subst h; exact HBw.out.size
        · cases h))
      have HO := hide_ ho
      obtain ⟨av, cv, hv, -⟩ := ho.row
      subst hv
      have m3 := hk.cell 3; have m4 := hk.cell 4
      simp at m3 m4
      clear hk ho hl hu HM HMs
      cases many with
      | true =>
        have HA : Hid (someT T R t p = ([], 5)) := hide_ (by
          rcases hor with ⟨-, h⟩ | ⟨h, -⟩
          · rw [HV.out, h]
          · cases h)
        clear hor
        go_wp2
        go_ret2
        exact ⟨_, by rw [HA.out]; rfl, hide_ (by rw [HA.out]; exact NOwn.nil _ _), HBf⟩
      | false =>
        have HA : Hid (someT T R t p = (V', 0)) := hide_ (by
          rcases hor with ⟨h, -⟩ | ⟨-, h, -⟩
          · cases h
          · rw [HV.out, h.done])
        clear hor
        go_wp2
        go_ret2
        exact ⟨_, by rw [HA.out]; rfl, hide_ (by rw [HA.out]; exact HO.out), HBf⟩
  · have HV : Hid (someT T R t p = ([], E)) := hide_ (by unfold someT; rw [HE.out, if_pos hE0])
    have hE1 : (E != 0) = true := by simpa using hE0
    go_wp2_with fail
    go_quiet (fail)
    go_wp2
    go_ret2
    exact ⟨_, by rw [HV.out]; rfl, hide_ (by rw [HV.out]; exact NOwn.nil _ _), hide_ (below_drewN HBw.out _)⟩
end Go.Proofs.Ytdpkmkhflgmioaa
