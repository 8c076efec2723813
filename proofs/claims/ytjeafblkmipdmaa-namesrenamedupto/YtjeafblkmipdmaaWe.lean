/- Check: a type expression, the walk. -/
import Derived.Test.YtjeafblkmipdmaaWd
namespace Go.Proofs.Ytjeafblkmipdmaa
open Go.RowKit
set_option linter.unusedVariables false

set_option maxRecDepth 100000 in
set_option maxHeartbeats 8000000 in
theorem ctype_any (va : Option Addr) (vc : Nat) (N : List Nd) (w : World) (hN : N.length ≤ 9223372036854775807) (hr : Hid (NRow w va N)) :
    Calls Try.prog 24 #[.slice va N.length vc] w fun e w' => e = .returned (.tuple #[.int .i64 (ct N 0 [(0, 1)]).1, .int .i64 (ct N 0 [(0, 1)]).2]) ∧ Below w.heap.size w w' := by
  obtain ⟨R, hR⟩ : ∃ R, ct N 0 [(0, 1)] = R := ⟨_, rfl⟩
  have HR := hide_ hR
  rw [hR]
  clear hR
  have hb1 := bldP1
  have hb2 := bldP
  have hk0 := Blk.newA w #[.int .i64 0, .int .i64 1] 76
  have HS0 : Hid (Stk (w.alloc (.cells #[.int .i64 0, .int .i64 1] 76)) w.heap.size 1 [(0, 1)] [.int .i64 0, .int .i64 1]) := ⟨hk0, rfl, Nat.le_refl _, by decide, rfl⟩
  have HB0 : Hid (Below w.heap.size w (w.alloc (.cells #[.int .i64 0, .int .i64 1] 76))) := (Below.refl _ _).alloc (Nat.le_refl _) _
  clear hk0
  go_enter Try.func24, Try.ntmps24
  go_wp2_with fail
  go_loopw [4, 13] (fun x4 x13 wr => ∃ (i : Nat) (L : List (Int × Int)) (g cap : Nat) (ys : List Value), i ≤ N.length ∧ x4 = .slice (some ⟨g, 0, none⟩) L.length cap ∧ x13 = .int .i64 (i : Int) ∧ w.heap.size ≤ g ∧ Hid (StOk L) ∧ Hid (Stk wr g cap L ys) ∧ Hid (ct (N.drop i) i L = R) ∧ Hid (Below w.heap.size w wr)) (fun _ x13 _ => N.length - (intOf x13).toNat)
  case atStart => exact ⟨0, [(0, 1)], w.heap.size, 1, _, Nat.zero_le _, rfl, rfl, Nat.le_refl _, stOk_one, HS0, HR, HB0⟩
  case round =>
    obtain ⟨i, L, g, cap, ys, hi, rfl, rfl, hg, HO, HS, HC, HB⟩ := hrel
    generalize wr = wq at *
    have hL18 : L.length ≤ 18 := HO.out.1
    clear HS0 HB0 HR
    by_cases hlt : i < N.length
    · have hlt' : (i : Int) < N.length := by omega
      obtain ⟨b, o, rfl, hb, hc⟩ := (hr.out.later HB.out).open (by omega)
      have hx : N[i]? = some (N[i]'hlt) := List.getElem?_eq_getElem hlt
      have hcx := hc i _ hx
      have hdr : N.drop i = N[i]'hlt :: N.drop (i + 1) := List.drop_eq_getElem_cons hlt
      generalize N[i]'hlt = x at *
      rw [hdr] at HC
      have i0 := hcx 0 (by decide); have i1 := hcx 1 (by decide); have i2 := hcx 2 (by decide); have i3 := hcx 3 (by decide); have i4 := hcx 4 (by decide); have i5 := hcx 5 (by decide); have i6 := hcx 6 (by decide)
      simp [ndc] at i0 i1 i2 i3 i4 i5 i6
      clear hc hx hcx hdr
      rcases List.eq_nil_or_concat L with rfl | ⟨M, p, hM⟩
      · have HV : Hid (R = ((i : Int), 62)) := hide_ (by rw [← HC.out]; rfl)
        simp only [List.length_nil]
        go_wp2
        go_ret2
        exact ⟨by rw [HV.out]; rfl, HB.out.alloc HB.out.size _⟩
      · rw [List.concat_eq_append] at hM
        subst hM
        have hlen : (M ++ [p]).length = M.length + 1 := by simp
        have HT : Hid (ctE (M ++ [p]) x = nodeE x.k x.n x.name x.label x.tag x.kids p.1 M.length) := hide_ (by unfold ctE ndE; simp)
        have HT2 : Hid (ctS (M ++ [p]) x = wo (M ++ [(p.1, p.2 - 1), (x.k, x.kids)])) := hide_ (by unfold ctS; simp)
        rw [hlen] at hL18 ⊢
        clear hlen
        have kx := Blk.newA wq #[.int .i64 x.k, .int .i64 x.n, .string x.name, .string x.label, .int .i64 x.tag, .int .i64 x.kids, .int .i64 x.a] 38
        have hBx : Below wq.heap.size wq (wq.alloc (.cells #[.int .i64 x.k, .int .i64 x.n, .string x.name, .string x.label, .int .i64 x.tag, .int .i64 x.kids, .int .i64 x.a] 38)) := (Below.refl _ _).alloc (Nat.le_refl _) _
        obtain ⟨wx, hwx⟩ : ∃ wx, wx = wq.alloc (.cells #[.int .i64 x.k, .int .i64 x.n, .string x.name, .string x.label, .int .i64 x.tag, .int .i64 x.kids, .int .i64 x.a] 38) := ⟨_, rfl⟩
        rw [← hwx] at kx hBx
        have KX := hide_ kx
        have HSx := hide_ (HS.out.later hBx)
        have HBx := hide_ (below_to HB.out hBx)
        have hgq : g < wq.heap.size := HS.out.1.lt
        clear kx hBx HS
        go_upto_region 5 with fail
        rw [← hwx]
        clear hwx i0 i1 i2 i3 i4 i5 i6
        have ha : ¬ (M.length : Int) + 1 = 0 := by omega
        have ha' : ((M.length : Int) + 1 == 0) = false := by simpa using ha
        go_upto_region 8 with fail
        have HSS : Hid (∀ w', Below wx.heap.size wx w' → Below wx.heap.size wx w' ∧ w'.cell? ⟨wq.heap.size, 0, none⟩ = some (.int .i64 x.k) ∧ w'.cell? ⟨wq.heap.size, 1, none⟩ = some (.int .i64 x.n) ∧ w'.cell? ⟨wq.heap.size, 2, none⟩ = some (.string x.name) ∧ w'.cell? ⟨wq.heap.size, 3, none⟩ = some (.string x.label) ∧ w'.cell? ⟨wq.heap.size, 4, none⟩ = some (.int .i64 x.tag) ∧ w'.cell? ⟨wq.heap.size, 5, none⟩ = some (.int .i64 x.kids) ∧ w'.cell? ⟨wq.heap.size, 6, none⟩ = some (.int .i64 x.a) ∧ w'.cell? ⟨g, M.length * 2, none⟩ = some (.int .i64 p.1)) := fun w' hB => by
          have h := KX.out.later hB
          exact ⟨hB, h.cell 0, h.cell 1, h.cell 2, h.cell 3, h.cell 4, h.cell 5, h.cell 6, (HSx.out.later hB).top.1⟩
        obtain ⟨E, hE⟩ : ∃ E, nodeE x.k x.n x.name x.label x.tag x.kids p.1 M.length = E := ⟨_, rfl⟩
        have HE := hide_ hE
        have HCon : Hid (∀ w', Calls Try.prog 34 #[.agg #[.int .i64 x.k, .int .i64 x.n, .string x.name, .string x.label, .int .i64 x.tag, .int .i64 x.kids, .int .i64 x.a], .int .i64 p.1, .int .i64 (M.length : Int)] w' fun e w'' => e = .returned (.int .i64 E) ∧ Below w'.heap.size w' w'') := fun w' => by
          have h := cnode_any x.k x.n x.name x.label x.tag x.kids x.a p.1 M.length w'
          rw [hE] at h
          exact h
        clear hE
        have hj4 : (M.length : Int) < (M.length : Int) + 1 := by omega
        go_wp2_with fail
        go_region_held_law (fun w' => Below wx.heap.size wx w' ∧ w'.cell? ⟨wq.heap.size, 0, none⟩ = some (.int .i64 x.k) ∧ w'.cell? ⟨wq.heap.size, 1, none⟩ = some (.int .i64 x.n) ∧ w'.cell? ⟨wq.heap.size, 2, none⟩ = some (.string x.name) ∧ w'.cell? ⟨wq.heap.size, 3, none⟩ = some (.string x.label) ∧ w'.cell? ⟨wq.heap.size, 4, none⟩ = some (.int .i64 x.tag) ∧ w'.cell? ⟨wq.heap.size, 5, none⟩ = some (.int .i64 x.kids) ∧ w'.cell? ⟨wq.heap.size, 6, none⟩ = some (.int .i64 x.a) ∧ w'.cell? ⟨g, M.length * 2, none⟩ = some (.int .i64 p.1)) (first | assumption | exact HSS.out _ ((Below.refl _ _).drew) | exact HSS.out _ (Below.refl _ _))
          ((go_at_call 34; refine (HCon.out _).mono ?_; rintro e w2 ⟨rfl, hB2⟩; (have G2 := HSS.out w2 (below_to (by first | assumption | exact And.left (by assumption)) hB2)); (clear hB2)))
        have hB2 := G2.1
        have HS2 := hide_ (HSx.out.later hB2)
        have HK2 := hide_ (KX.out.later hB2)
        have HB2 := hide_ (below_to HBx.out hB2)
        clear hB2 G2 HSS HCon KX HSx HBx HB hb hr
        by_cases hE0 : E = 0
        · subst hE0
          have hkid := ndE_kids (x := x) (of := p.1) (dp := M.length) HE.out
          have hp1 := HO.out.2.2 M p rfl
          have hp2 := HO.out.2.1 p (by simp)
          have HM : Hid (∀ q ∈ M, 0 ≤ q.2 ∧ q.2 ≤ 64) := fun q hq => HO.out.2.1 q (by simp [hq])
          have HO5 : Hid (StOk (wo (M ++ [(p.1, p.2 - 1)] ++ [(x.k, x.kids)]))) := wo_ok (by simp; omega) (fun q hq => by
            simp at hq
            rcases hq with h | rfl | rfl
            · exact HM.out q h
            · show 0 ≤ p.2 - 1 ∧ p.2 - 1 ≤ 64; omega
            · show 0 ≤ x.kids ∧ x.kids ≤ 64; omega)
          have HC5 : Hid (ct (N.drop (i + 1)) (i + 1) (wo (M ++ [(p.1, p.2 - 1)] ++ [(x.k, x.kids)])) = R) := hide_ (by
            have h := HC.out
            unfold ct at h
            rw [HT.out, HE.out, if_pos rfl, HT2.out] at h
            rw [List.append_assoc]
            exact h)
          obtain ⟨t1, t2⟩ := HS2.out.top
          have t3 := HS2.out.1.frozen (M.length * 2 + 1)
          have k3 := HK2.out.other ⟨g, M.length * 2 + 1, none⟩ (.int .i64 (p.2 - 1)) (by show wq.heap.size ≠ g; omega)
          have s3 := HS2.out.dec (p.2 - 1)
          have b3 : Below w.heap.size w (w2.setCell ⟨g, M.length * 2 + 1, none⟩ (.int .i64 (p.2 - 1))) := HB2.out.trans (((Upd.refl (fun k => k = g) w2).set ⟨g, M.length * 2 + 1, none⟩ _ (.inl rfl)).below w.heap.size HB2.out.size (fun k hk => by subst hk; exact hg))
          obtain ⟨w3, hw3⟩ : ∃ w3, w3 = w2.setCell ⟨g, M.length * 2 + 1, none⟩ (.int .i64 (p.2 - 1)) := ⟨_, rfl⟩
          rw [← hw3] at k3 s3 b3
          obtain ⟨gn, capn, w4, r4, o4, u4, c4⟩ := run_pushS (P := Try.prog) (t := 77) (e := 76) (z := .agg #[.int .i64 0, .int .i64 0]) (bytes := 16) Try.underlying77 (by kernel_rfl) rfl (by decide) w3 77 (s3.own (B := w.heap.size) hg) (prc (x.k, x.kids)) rfl (by intro u hu; simp [prc] at hu; rcases hu with rfl | rfl <;> rfl) (by unfold maxLen; simp; omega) (by simp; omega) b3.size
          have hgn : w.heap.size ≤ gn := by
            rcases c4 with h | h
            · have := own_is h; omega
            · exact Nat.le_trans b3.size h
          have b4 : Below w.heap.size w w4 := b3.trans (u4.below w.heap.size b3.size (fun k hk => by have := own_is hk; omega))
          have hl4 : (M ++ [(p.1, p.2 - 1)]).length + 1 = (M ++ [(p.1, p.2 - 1)] ++ [(x.k, x.kids)]).length := by simp
          have ec : cellsP (M ++ [(p.1, p.2 - 1)]) ++ prc (x.k, x.kids) = cellsP (M ++ [(p.1, p.2 - 1)] ++ [(x.k, x.kids)]) := by rw [cellsP_app (M ++ [(p.1, p.2 - 1)])]; simp [cellsP]
          rw [ec, hl4] at o4
          obtain ⟨-, ys4, hs4⟩ := Stk.of_own o4 (by simp)
          have HS4 := hide_ hs4
          have HB4 := hide_ b4
          have r4' : (Builtin.append_ #[77, 77] 77 #[.slice (some ⟨g, 0, none⟩) (M.length + 1) cap, .slice (some ⟨w3.heap.size, 0, none⟩) 1 1]).run Try.prog (w3.alloc (.cells #[.int .i64 x.k, .int .i64 x.kids] 76)) = .ok (.slice (some ⟨gn, 0, none⟩) ((M ++ [(p.1, p.2 - 1)] ++ [(x.k, x.kids)]).length) capn) w4 := by
            rw [hl4] at r4
            have e : (M ++ [(p.1, p.2 - 1)]).length = M.length + 1 := by simp
            rw [e] at r4
            exact r4
          have HR4 := hide_ r4'
          have d0 := k3.cell 0
          have d5 := k3.cell 5
          simp at d0 d5
          clear r4 r4' o4 u4 c4 hs4 b4 b3 s3 k3 hl4 ec HS2 HK2 HB2 HM HO HC HT HT2 HE
          obtain ⟨LL, hLL⟩ : ∃ LL, M ++ [(p.1, p.2 - 1)] ++ [(x.k, x.kids)] = LL := ⟨_, rfl⟩
          rw [hLL] at HR4 HS4 HO5 HC5
          clear hLL
          have hpb : p.2 - 1 ≤ 64 := by omega
          have hpa : 0 ≤ p.2 - 1 := by omega
          go_upto_region 12 with fail
          rw [← hw3]
          clear hw3 t1 t2 t3
          go_wp2_with (first
            | (at_builtin; have _t := HR4; refine wpList_append_run rfl (.tmp 45) (.tmp 51) 77 77 rfl rfl rfl HR4.out ?_; clear HR4)
            | (go_at_call 35; refine (without_any gn capn LL ys4 w4 HS4).mono ?_; rintro e w5 ⟨rfl, HS5, rfl⟩))
          go_roundw
          case rel => exact ⟨i + 1, wo LL, gn, capn, ys4, by omega, rfl, by go_num, hgn, HO5, HS5, HC5, HB4⟩
          case measure => simp [intOf]; omega
        · have hE' : (E != 0) = true := by simpa using hE0
          have HV : Hid (R = ((i : Int), E)) := hide_ (by rw [← HC.out]; unfold ct; rw [HT.out, HE.out, if_neg hE0])
          go_wp2
          go_ret2
          exact ⟨by rw [HV.out]; rfl, HB2.out⟩
    · obtain rfl : i = N.length := by omega
      have hC0 := HC.out
      rw [List.drop_length] at hC0
      rcases List.eq_nil_or_concat L with rfl | ⟨M, p, hM⟩
      · have HV : Hid (R = (0, 0)) := hide_ (by rw [← hC0]; rfl)
        clear hC0
        simp only [List.length_nil]
        go_wp2
        go_ret2
        exact ⟨by rw [HV.out]; rfl, HB.out⟩
      · rw [List.concat_eq_append] at hM
        subst hM
        have HV : Hid (R = ((N.length : Int), 62)) := hide_ (by rw [← hC0]; unfold ct; rw [if_neg (by simp)])
        clear hC0
        have hlen : (M ++ [p]).length = M.length + 1 := by simp
        rw [hlen]
        clear hlen
        have ha : (0 : Int) < (M.length : Int) + 1 := by omega
        go_wp2
        go_ret2
        exact ⟨by rw [HV.out]; rfl, HB.out⟩
end Go.Proofs.Ytjeafblkmipdmaa
