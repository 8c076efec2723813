/- LayoutFixed: its walk. -/
import Derived.Test.YtnpkpmbpapekbaaEk
import Derived.Test.YtnpkpmbpapekbaaEh
namespace Go.Proofs.Ytnpkpmbpapekbaa
open Go.RowKit
set_option linter.unusedVariables false

theorem fieldF (a b : Value) (w : World) : (Instr.field 36 (.agg #[a, b]) 0).run Try.prog w = .ok a w := by kernel_rfl
/-- What LayoutFixed reads, whatever came behind w0. -/
structure FxM (w : World) (T : List Ty) (P : List (Ly × Value)) (X : List Ex) (bs : Nat) (sc : List Value) (aT : Option Addr) (aL : Option Addr) (aX : Option Addr) : Prop where
  box : Blk w bs 34 sc
  ty : TRow w aT T
  ly : GRow 2 lyc w aL P
  sl : ∀ p ∈ P, ∃ a c, p.2 = .slice a p.1.sl.length c ∧ GRow 3 slc w a p.1.sl
  ex : XRow w aX X
theorem FxM.later {w w' : World} {T : List Ty} {P : List (Ly × Value)} {X : List Ex} {bs : Nat} {sc : List Value} {aT aL aX : Option Addr} (h : FxM w T P X bs sc aT aL aX) (hB : Below w.heap.size w w') : FxM w' T P X bs sc aT aL aX :=
  ⟨h.box.later hB, h.ty.later hB, h.ly.later hB, fun p hp => by obtain ⟨a, c, e, g⟩ := h.sl p hp; exact ⟨a, c, e, g.later hB⟩, h.ex.later hB⟩
theorem bne_self2 (x : Int) : (x != x) = false := by simp
set_option maxRecDepth 100000 in
set_option maxHeartbeats 16000000 in
theorem fixed_any (a : Option Addr) (c : Nat) (T : List Ty) (ar : Option Addr) (cr : Nat) (R : List Rt) (w : World) (hn : T.length ≤ 3000000000000) (hm : R.length ≤ 10000000000000) (hL : Hid (LensT T)) (hT : Hid (TRow w a T)) (hR : Hid (RRow w ar R)) :
    Calls Try.prog 4 #[.agg #[.slice a T.length c, .slice ar R.length cr]] w fun e w' => e = .returned (.bool true) ∧ Below w.heap.size w w' := by
  have hB := below1 w (.cells #[.slice a T.length c, .slice ar R.length cr] 34)
  have k1 := Blk.newA w #[.slice a T.length c, .slice ar R.length cr] 34
  obtain ⟨w0, hw0⟩ : ∃ wx, wx = w.alloc (.cells #[.slice a T.length c, .slice ar R.length cr] 34) := ⟨_, rfl⟩
  rw [← hw0] at hB k1
  have HB0 := hide_ hB
  have K1 := hide_ k1
  have HAw := hide_ (awake_any w0)
  clear hB k1
  go_enter Try.func4, Try.ntmps4
  go_upto_region 1 with fail
  rw [← hw0]
  clear hw0
  go_wp2_with fail
  refine HAw.out.mono ?_
  rintro e w1 ⟨rfl, hB1⟩
  have HB1 := hide_ (below_to HB0.out hB1)
  have K2 := hide_ (K1.out.later hB1)
  have i0 := K2.out.cell 0; have i1 := K2.out.cell 1
  simp at i0 i1
  have HCk := hide_ (check_any a c T ar cr R w1 (by omega) hm hL (hide_ (hT.out.later HB1.out)) (hide_ (hR.out.later HB1.out)))
  obtain ⟨vE, hE⟩ : ∃ vE, (chk T R).1 = vE := ⟨_, rfl⟩
  obtain ⟨vA, hA⟩ : ∃ vA, (chk T R).2 = vA := ⟨_, rfl⟩
  rw [hE, hA] at HCk
  have HE := hide_ hE
  clear hE hA hB1 HAw K1
  go_wp2_with fail
  refine HCk.out.mono ?_
  rintro e w2 ⟨rfl, hB2⟩
  have HB2 := hide_ (below_to HB1.out hB2)
  have K3 := hide_ (K2.out.later hB2)
  have ff := fieldF (.int .i64 vE) (.int .i64 vA) w2
  have HCl := hide_ (lof_any a c T ar cr R w2 hn hm hL (hide_ (hT.out.later HB2.out)) (hide_ (hR.out.later HB2.out)))
  clear i0 i1 hB2 HCk K2
  have i0 := K3.out.cell 0; have i1 := K3.out.cell 1
  simp at i0 i1
  by_cases hE0 : vE = 0
  · have hE1 : (vE != 0) = false := by simp [hE0]
    have HOK := hide_ (okS_of (by rw [HE.out]; exact hE0))
    clear hE0
    go_wp2_with fail
    refine HCl.out.mono ?_
    rintro e w3 hOf
    rcases hOf with ⟨hne, -, -⟩ | ⟨-, vl, P, rfl, hP, hO, hB3⟩
    · exact absurd (by rw [HOK.out.chk]) hne
    have HP := hide_ hP
    have HO := hide_ hO
    have HB3 := hide_ (below_to HB2.out hB3)
    have K4 := hide_ (K3.out.later hB3)
    have hpl : P.length = T.length := by have := congrArg List.length hP; simpa using this
    have HCo := hide_ (of_any a c T ar cr R w3 hn hm hL (hide_ (hT.out.later HB3.out)) (hide_ (hR.out.later HB3.out)))
    obtain ⟨aL, cL, hvl, -, -⟩ := hO.slice
    rw [hpl] at hvl
    subst hvl
    have HPL := hide_ hpl
    clear hpl
    clear i0 i1 hP hO hB3 HCl K3 ff
    have i0 := K4.out.cell 0; have i1 := K4.out.cell 1
    simp at i0 i1
    go_wp2_with fail
    refine HCo.out.mono ?_
    rintro e w4 hOf
    rcases hOf with ⟨hne, -, -⟩ | ⟨-, vx, rfl, hX, hB4⟩
    · exact absurd (by rw [HOK.out.chk]) hne
    obtain ⟨aX, cX, hvx, -, -, hXr⟩ := hX.row
    subst hvx
    have hxl := extL_len T
    have HB4 := hide_ (below_to HB3.out hB4)
    have HM : Hid (FxM w4 T P (extL T) w.heap.size [.slice a T.length c, .slice ar R.length cr] a aL aX) := hide_ ⟨K4.out.later hB4, hT.out.later HB4.out, by
        obtain ⟨a9, c9, e9, -, g9⟩ := HO.out.slice
        injection e9 with e9 _ _
        rw [e9]
        exact g9.later hB4, fun p hp => by
        obtain ⟨a9, c9, e9, -, -, g9⟩ := (HO.out.sl p hp).row
        exact ⟨a9, c9, e9, g9.later hB4⟩, hXr⟩
    have HFx : Hid (∀ (i : Nat) (t : Ty), T[i]? = some t → (t.k = 8 ∨ t.k = 4) → FixT t (layP (extL T) t) (exAt (extL T) (i : Int))) := hide_ (fun i t ht hk => fix_of HOK.out ht hk)
    have HPi : Hid (∀ (i : Nat) (t : Ty), T[i]? = some t → ∃ u, P[i]? = some (layP (extL T) t, u)) := hide_ (fun i t ht => by
      have h := congrArg (fun l => l[i]?) HP.out
      simp only [List.getElem?_map, ht, Option.map_some] at h
      cases hpi : P[i]? with
      | none => rw [hpi] at h; cases h
      | some p => rw [hpi] at h; injection h with h; exact ⟨p.2, by rw [← h]⟩)
    have HXi : Hid (∀ (i : Nat), i < T.length → (extL T)[i]? = some (exAt (extL T) (i : Int))) := hide_ (fun i hi => exAt_at (by rw [extL_len]; exact hi))
    obtain ⟨X, hXe⟩ : ∃ X, extL T = X := ⟨_, rfl⟩
    rw [hXe] at HM HFx HPi HXi hxl ⊢
    have Hb4 := hide_ hB4
    have j0 := HM.out.box.cell 0
    simp at j0
    have hl1 : ((T.length : Int) != (T.length : Int)) = false := by simp
    have HXL := hide_ hxl
    rw [hxl]
    clear hxl
    clear i0 i1 hX hB4 HCo K4 hXr HP HO hXe HB3
    go_wp2_with fail
    go_loopw [9] (fun x9 wr => ∃ (i : Nat), i ≤ T.length ∧ x9 = .int .i64 (i : Int) ∧ Hid (Below w4.heap.size w4 wr)) (fun x9 _ => T.length - (intOf x9).toNat)
    case atStart => exact ⟨0, Nat.zero_le _, rfl, hide_ (Below.refl _ _)⟩
    case round =>
      obtain ⟨i, hi, rfl, HB⟩ := hrel
      generalize wr = wq at *
      clear j0 hl1
      by_cases hltT : i < T.length
      · have hltT' : (i : Int) < T.length := by omega
        have hPp : 0 < P.length := by have := HPL.out; omega
        have hXp : 0 < X.length := by have := HXL.out; omega
        have HMq := hide_ (HM.out.later HB.out)
        have ht : T[i]? = some (T[i]'hltT) := List.getElem?_eq_getElem hltT
        obtain ⟨u, hu⟩ := HPi.out i _ ht
        have hx := HXi.out i hltT
        have HFi := hide_ (HFx.out i _ ht)
        have HOt := hide_ (other_of X (T[i]'hltT))
        obtain ⟨bT, oT, haT, -, hcT⟩ := HMq.out.ty.open (by omega)
        obtain ⟨va, vc, hcx, -, -, -⟩ := hcT i _ ht
        obtain ⟨bL, oL, haL, -, hcL⟩ := HMq.out.ly.open hPp
        have hcl := hcL i _ hu
        obtain ⟨bX, oX, haX, -, hcX⟩ := HMq.out.ex.open hXp
        have hce := hcX i _ hx
        obtain ⟨aS, cS, eS, hgS⟩ := HMq.out.sl _ (List.mem_of_getElem? hu)
        have hSl : (layP X (T[i]'hltT)).sl.length ≤ 64 := by
          have hok1 := HOK.out.ty i hltT
          rw [show T.getD i ty0 = T[i]'hltT by simp [List.getD, hltT]] at hok1
          exact lay_len hok1
        generalize layP X (T[i]'hltT) = y at *
        generalize T[i]'hltT = t at *
        generalize exAt X (i : Int) = x at *
        obtain ⟨k, n, el, ps⟩ := t
        obtain ⟨ysz, S⟩ := y
        obtain ⟨xf, xl, xm, xd⟩ := x
        simp only at eS hgS hSl
        subst eS
        have hq0 := HMq.out.box.cell 0
        have m0 := hcx 0 (by decide); have m1 := hcx 1 (by decide); have m2 := hcx 2 (by decide); have m3 := hcx 3 (by decide)
        have p0 := hcl 0 (by decide); have p1 := hcl 1 (by decide)
        have e0 := hce 0 (by decide); have e1 := hce 1 (by decide); have e2 := hce 2 (by decide); have e3 := hce 3 (by decide)
        simp [tyc, lyc, exc] at hq0 m0 m1 m2 m3 p0 p1 e0 e1 e2 e3
        subst haT haL haX
        have kt := Blk.newA wq #[.int .i64 k, .int .i64 n, .int .i64 el, .slice va ps.length vc] 46
        have hBx := below1 wq (.cells #[.int .i64 k, .int .i64 n, .int .i64 el, .slice va ps.length vc] 46)
        obtain ⟨wx, hwx⟩ : ∃ wx, wx = wq.alloc (.cells #[.int .i64 k, .int .i64 n, .int .i64 el, .slice va ps.length vc] 46) := ⟨_, rfl⟩
        rw [← hwx] at kt hBx
        have HBx := hide_ (below_to HB.out hBx)
        have KT := hide_ kt
        have HgS := hide_ hgS
        obtain ⟨gT, hgT⟩ : ∃ g, wq.heap.size = g := ⟨_, rfl⟩
        rw [hgT] at KT
        have HCe : Hid (∀ w', Below wx.heap.size wx w' → Hid (w'.cell? ⟨bL, oL + i * 2, none⟩ = some (.int .i64 ysz) ∧ w'.cell? ⟨bL, oL + i * 2 + 1, none⟩ = some (.slice aS S.length cS) ∧ w'.cell? ⟨bX, oX + i * 4, none⟩ = some (.bool xf) ∧ w'.cell? ⟨bX, oX + i * 4 + 1, none⟩ = some (.int .i64 xl) ∧ w'.cell? ⟨bX, oX + i * 4 + 2, none⟩ = some (.int .i64 xm) ∧ w'.cell? ⟨gT, 0, none⟩ = some (.int .i64 k) ∧ GRow 3 slc w' aS S)) := hide_ (fun w' hb => hide_ (by
          have hb2 := below_to hBx hb
          refine ⟨(hb2.cell (World.block_lt_of_cell? wq _ p0)).trans p0, (hb2.cell (World.block_lt_of_cell? wq _ p1)).trans p1, (hb2.cell (World.block_lt_of_cell? wq _ e0)).trans e0, (hb2.cell (World.block_lt_of_cell? wq _ e1)).trans e1, (hb2.cell (World.block_lt_of_cell? wq _ e2)).trans e2, ?_, HgS.out.later hb2⟩
          have h := (KT.out.later hb).cell 0
          simpa using h))
        clear hPp hXp hcT hcx hcL hcl hcX hce ht hu hx kt hBx hgS p0 p1 e0 e1 e2 e3 HMq
        go_upto_region 14 with fail
        rw [← hwx]
        clear hwx hgT m0 m1 m2 m3 hq0
        obtain ⟨p0, p1, e0, e1, e2, t0, -⟩ := (HCe.out wx (Below.refl _ _)).out
        by_cases h8 : k = 8
        · subst h8
          have HF := hide_ (HFi.out (.inl rfl))
          clear HFi HOt
          go_wp2_with fail
          go_loopw [11, 12, 13] (fun x11 x12 x13 wr => ∃ (j : Nat) (z : Int) (vb : Bool), j ≤ S.length ∧ x11 = .int .i64 z ∧ x12 = .bool vb ∧ x13 = .int .i64 (j : Int) ∧ Hid (preS S j = z) ∧ Hid (varS S j = vb) ∧ Hid (Below wx.heap.size wx wr)) (fun _ _ x13 _ => S.length - (intOf x13).toNat)
          case atStart => exact ⟨0, 0, false, Nat.zero_le _, rfl, rfl, rfl, hide_ rfl, hide_ rfl, hide_ (Below.refl _ _)⟩
          case round =>
            obtain ⟨j, z, vb, hj, rfl, rfl, rfl, HZe, HVe, HBy⟩ := hrel
            generalize wr = wy at *
            clear p0 p1 e0 e1 e2 t0
            have hzb := preS_bd S j
            rw [HZe.out] at hzb
            obtain ⟨p0, p1, e0, e1, e2, t0, hgy⟩ := (HCe.out wy HBy.out).out
            by_cases hjl : j < S.length
            · have hjl' : (j : Int) < S.length := by omega
              have hs : S[j]? = some (S[j]'hjl) := List.getElem?_eq_getElem hjl
              obtain ⟨bS, oS, haS, -, hcS⟩ := hgy.open (by omega)
              subst haS
              have hcs := hcS j _ hs
              have hch := HF.out.ch.at_ j _ hs
              have hps := preS_succ hs
              have hvs := varS_succ hs
              rw [HZe.out] at hch hps
              rw [HVe.out] at hvs
              generalize S[j]'hjl = s at *
              obtain ⟨sa, sv, ss⟩ := s
              simp only at hch hps hvs
              obtain ⟨ha, hv4, hs1, hs2⟩ := hch
              subst ha
              have q0 := hcs 0 (by decide); have q1 := hcs 1 (by decide); have q2 := hcs 2 (by decide)
              simp [slc] at q0 q1 q2
              have ks := Blk.newA wy #[.int .i64 sa, .bool sv, .int .i64 ss] 51
              have hBs := below1 wy (.cells #[.int .i64 sa, .bool sv, .int .i64 ss] 51)
              obtain ⟨ws, hws⟩ : ∃ wx, wx = wy.alloc (.cells #[.int .i64 sa, .bool sv, .int .i64 ss] 51) := ⟨_, rfl⟩
              rw [← hws] at ks hBs
              have HB5 := hide_ (below_to HBy.out hBs)
              have KS := hide_ ks
              have HPs := hide_ hps
              have HVs := hide_ hvs
              have hne0 := bne_self2 sa
              have hlt1 : decide (ss < 1) = false := by simp; omega
              have hw1 := w64 (4611686018427387904 - ss) (by omega)
              clear ks hBs hps hvs hcs hcS hs hgy
              go_upto_region 23 with fail
              rw [← hws]
              clear hws q0 q1 q2
              have q0 := KS.out.cell 0; have q1 := KS.out.cell 1; have q2 := KS.out.cell 2
              simp at q0 q1 q2
              by_cases hov : 4611686018427387904 - ss < sa
              · have hov' : decide (4611686018427387904 - ss < sa) = true := decide_eq_true hov
                have HPn : Hid (preS S (j + 1) = 4611686018427387904) := hide_ (by rw [HPs.out, plus2_in hzb.1 hzb.2 (by omega) hs2, if_neg (by omega)])
                clear hov
                cases sv with
                | true =>
                  have h4e : ss = 4 := hv4 rfl
                  have hne4 : (ss != 4) = false := by simp [h4e]
                  clear h4e hv4 hs1 hs2 hzb
                  have HVn : Hid (varS S (j + 1) = true) := hide_ (by rw [HVs.out]; simp)
                  cases vb with
                  | true =>
                    go_wp2_with fail
                    go_roundw
                    case rel => exact ⟨j + 1, _, _, by omega, rfl, rfl, by go_num, HPn, HVn, HB5⟩
                    case measure => simp [intOf]; omega
                  | false =>
                    go_wp2_with fail
                    go_roundw
                    case rel => exact ⟨j + 1, _, _, by omega, rfl, rfl, by go_num, HPn, HVn, HB5⟩
                    case measure => simp [intOf]; omega
                | false =>
                  clear hv4 hs1 hs2 hzb
                  cases vb with
                  | true =>
                    have HVn : Hid (varS S (j + 1) = true) := hide_ (by rw [HVs.out]; rfl)
                    go_wp2_with fail
                    go_roundw
                    case rel => exact ⟨j + 1, _, _, by omega, rfl, rfl, by go_num, HPn, HVn, HB5⟩
                    case measure => simp [intOf]; omega
                  | false =>
                    have HVn : Hid (varS S (j + 1) = false) := hide_ (by rw [HVs.out]; rfl)
                    go_wp2_with fail
                    go_roundw
                    case rel => exact ⟨j + 1, _, _, by omega, rfl, rfl, by go_num, HPn, HVn, HB5⟩
                    case measure => simp [intOf]; omega
              · have hov' : decide (4611686018427387904 - ss < sa) = false := decide_eq_false hov
                have HPn : Hid (preS S (j + 1) = sa + ss) := hide_ (by rw [HPs.out, plus2_in hzb.1 hzb.2 (by omega) hs2, if_pos (by omega)])
                have hw2 := w64 (sa + ss) (by omega)
                clear hov
                cases sv with
                | true =>
                  have h4e : ss = 4 := hv4 rfl
                  have hne4 : (ss != 4) = false := by simp [h4e]
                  clear h4e hv4 hs1 hs2 hzb
                  have HVn : Hid (varS S (j + 1) = true) := hide_ (by rw [HVs.out]; simp)
                  cases vb with
                  | true =>
                    go_wp2_with fail
                    go_roundw
                    case rel => exact ⟨j + 1, _, _, by omega, rfl, rfl, by go_num, (by first | exact HPn | exact (by rw [hw2]; exact HPn)), HVn, HB5⟩
                    case measure => simp [intOf]; omega
                  | false =>
                    go_wp2_with fail
                    go_roundw
                    case rel => exact ⟨j + 1, _, _, by omega, rfl, rfl, by go_num, (by first | exact HPn | exact (by rw [hw2]; exact HPn)), HVn, HB5⟩
                    case measure => simp [intOf]; omega
                | false =>
                  clear hv4 hs1 hs2 hzb
                  cases vb with
                  | true =>
                    have HVn : Hid (varS S (j + 1) = true) := hide_ (by rw [HVs.out]; rfl)
                    go_wp2_with fail
                    go_roundw
                    case rel => exact ⟨j + 1, _, _, by omega, rfl, rfl, by go_num, (by first | exact HPn | exact (by rw [hw2]; exact HPn)), HVn, HB5⟩
                    case measure => simp [intOf]; omega
                  | false =>
                    have HVn : Hid (varS S (j + 1) = false) := hide_ (by rw [HVs.out]; rfl)
                    go_wp2_with fail
                    go_roundw
                    case rel => exact ⟨j + 1, _, _, by omega, rfl, rfl, by go_num, (by first | exact HPn | exact (by rw [hw2]; exact HPn)), HVn, HB5⟩
                    case measure => simp [intOf]; omega
            · obtain rfl : j = S.length := by omega
              have HBz := hide_ (below_to HBx.out HBy.out)
              cases xf with
              | true =>
                have hvb : vb = false := by rw [← HVe.out, HF.out.var]; rfl
                obtain ⟨g1, g2⟩ := HF.out.fx rfl
                simp only at g1 g2
                have hzz : ysz = z := by rw [← HZe.out]; exact (HF.out.sz rfl).symm
                subst hzz
                subst hvb
                have hne1 := bne_self2 ysz
                rw [← g1] at e1
                rw [← g2] at e2
                clear g1 g2 hgy hzb
                go_wp2_with fail
                go_quiet (fail)
                have HBq := hide_ (below_drewN HBz.out nq)
                go_wp2_with fail
                go_roundw
                case rel => exact ⟨i + 1, by omega, by go_num, HBq⟩
                case measure => simp [intOf]; omega
              | false =>
                have hvb : vb = true := by rw [← HVe.out, HF.out.var]; rfl
                have hzz : ysz = z := by rw [← HZe.out]; exact (HF.out.sz rfl).symm
                subst hzz
                subst hvb
                have hne1 := bne_self2 ysz
                clear hgy hzb
                go_wp2_with fail
                go_quiet (fail)
                have HBq := hide_ (below_drewN HBz.out nq)
                go_wp2_with fail
                go_roundw
                case rel => exact ⟨i + 1, by omega, by go_num, HBq⟩
                case measure => simp [intOf]; omega
        · by_cases h4 : k = 4
          · subst h4
            have HF := hide_ (HFi.out (.inr rfl))
            clear HFi HOt h8
            go_wp2_with fail
            go_loopw [11, 12, 13] (fun x11 x12 x13 wr => ∃ (j : Nat) (z : Int) (vb : Bool), j ≤ S.length ∧ x11 = .int .i64 z ∧ x12 = .bool vb ∧ x13 = .int .i64 (j : Int) ∧ Hid (preS S j = z) ∧ Hid (varS S j = vb) ∧ Hid (Below wx.heap.size wx wr)) (fun _ _ x13 _ => S.length - (intOf x13).toNat)
            case atStart => exact ⟨0, 0, false, Nat.zero_le _, rfl, rfl, rfl, hide_ rfl, hide_ rfl, hide_ (Below.refl _ _)⟩
            case round =>
              obtain ⟨j, z, vb, hj, rfl, rfl, rfl, HZe, HVe, HBy⟩ := hrel
              generalize wr = wy at *
              clear p0 p1 e0 e1 e2 t0
              have hzb := preS_bd S j
              rw [HZe.out] at hzb
              obtain ⟨p0, p1, e0, e1, e2, t0, hgy⟩ := (HCe.out wy HBy.out).out
              by_cases hjl : j < S.length
              · have hjl' : (j : Int) < S.length := by omega
                have hs : S[j]? = some (S[j]'hjl) := List.getElem?_eq_getElem hjl
                obtain ⟨bS, oS, haS, -, hcS⟩ := hgy.open (by omega)
                subst haS
                have hcs := hcS j _ hs
                have hch := HF.out.ch.at_ j _ hs
                have hps := preS_succ hs
                have hvs := varS_succ hs
                rw [HZe.out] at hch hps
                rw [HVe.out] at hvs
                generalize S[j]'hjl = s at *
                obtain ⟨sa, sv, ss⟩ := s
                simp only at hch hps hvs
                obtain ⟨ha, hv4, hs1, hs2⟩ := hch
                subst ha
                have q0 := hcs 0 (by decide); have q1 := hcs 1 (by decide); have q2 := hcs 2 (by decide)
                simp [slc] at q0 q1 q2
                have ks := Blk.newA wy #[.int .i64 sa, .bool sv, .int .i64 ss] 51
                have hBs := below1 wy (.cells #[.int .i64 sa, .bool sv, .int .i64 ss] 51)
                obtain ⟨ws, hws⟩ : ∃ wx, wx = wy.alloc (.cells #[.int .i64 sa, .bool sv, .int .i64 ss] 51) := ⟨_, rfl⟩
                rw [← hws] at ks hBs
                have HB5 := hide_ (below_to HBy.out hBs)
                have KS := hide_ ks
                have HPs := hide_ hps
                have HVs := hide_ hvs
                have hne0 := bne_self2 sa
                have hlt1 : decide (ss < 1) = false := by simp; omega
                have hw1 := w64 (4611686018427387904 - ss) (by omega)
                clear ks hBs hps hvs hcs hcS hs hgy
                go_upto_region 23 with fail
                rw [← hws]
                clear hws q0 q1 q2
                have q0 := KS.out.cell 0; have q1 := KS.out.cell 1; have q2 := KS.out.cell 2
                simp at q0 q1 q2
                by_cases hov : 4611686018427387904 - ss < sa
                · have hov' : decide (4611686018427387904 - ss < sa) = true := decide_eq_true hov
                  have HPn : Hid (preS S (j + 1) = 4611686018427387904) := hide_ (by rw [HPs.out, plus2_in hzb.1 hzb.2 (by omega) hs2, if_neg (by omega)])
                  clear hov
                  cases sv with
                  | true =>
                    have h4e : ss = 4 := hv4 rfl
                    have hne4 : (ss != 4) = false := by simp [h4e]
                    clear h4e hv4 hs1 hs2 hzb
                    have HVn : Hid (varS S (j + 1) = true) := hide_ (by rw [HVs.out]; simp)
                    cases vb with
                    | true =>
                      go_wp2_with fail
                      go_roundw
                      case rel => exact ⟨j + 1, _, _, by omega, rfl, rfl, by go_num, HPn, HVn, HB5⟩
                      case measure => simp [intOf]; omega
                    | false =>
                      go_wp2_with fail
                      go_roundw
                      case rel => exact ⟨j + 1, _, _, by omega, rfl, rfl, by go_num, HPn, HVn, HB5⟩
                      case measure => simp [intOf]; omega
                  | false =>
                    clear hv4 hs1 hs2 hzb
                    cases vb with
                    | true =>
                      have HVn : Hid (varS S (j + 1) = true) := hide_ (by rw [HVs.out]; rfl)
                      go_wp2_with fail
                      go_roundw
                      case rel => exact ⟨j + 1, _, _, by omega, rfl, rfl, by go_num, HPn, HVn, HB5⟩
                      case measure => simp [intOf]; omega
                    | false =>
                      have HVn : Hid (varS S (j + 1) = false) := hide_ (by rw [HVs.out]; rfl)
                      go_wp2_with fail
                      go_roundw
                      case rel => exact ⟨j + 1, _, _, by omega, rfl, rfl, by go_num, HPn, HVn, HB5⟩
                      case measure => simp [intOf]; omega
                · have hov' : decide (4611686018427387904 - ss < sa) = false := decide_eq_false hov
                  have HPn : Hid (preS S (j + 1) = sa + ss) := hide_ (by rw [HPs.out, plus2_in hzb.1 hzb.2 (by omega) hs2, if_pos (by omega)])
                  have hw2 := w64 (sa + ss) (by omega)
                  clear hov
                  cases sv with
                  | true =>
                    have h4e : ss = 4 := hv4 rfl
                    have hne4 : (ss != 4) = false := by simp [h4e]
                    clear h4e hv4 hs1 hs2 hzb
                    have HVn : Hid (varS S (j + 1) = true) := hide_ (by rw [HVs.out]; simp)
                    cases vb with
                    | true =>
                      go_wp2_with fail
                      go_roundw
                      case rel => exact ⟨j + 1, _, _, by omega, rfl, rfl, by go_num, (by first | exact HPn | exact (by rw [hw2]; exact HPn)), HVn, HB5⟩
                      case measure => simp [intOf]; omega
                    | false =>
                      go_wp2_with fail
                      go_roundw
                      case rel => exact ⟨j + 1, _, _, by omega, rfl, rfl, by go_num, (by first | exact HPn | exact (by rw [hw2]; exact HPn)), HVn, HB5⟩
                      case measure => simp [intOf]; omega
                  | false =>
                    clear hv4 hs1 hs2 hzb
                    cases vb with
                    | true =>
                      have HVn : Hid (varS S (j + 1) = true) := hide_ (by rw [HVs.out]; rfl)
                      go_wp2_with fail
                      go_roundw
                      case rel => exact ⟨j + 1, _, _, by omega, rfl, rfl, by go_num, (by first | exact HPn | exact (by rw [hw2]; exact HPn)), HVn, HB5⟩
                      case measure => simp [intOf]; omega
                    | false =>
                      have HVn : Hid (varS S (j + 1) = false) := hide_ (by rw [HVs.out]; rfl)
                      go_wp2_with fail
                      go_roundw
                      case rel => exact ⟨j + 1, _, _, by omega, rfl, rfl, by go_num, (by first | exact HPn | exact (by rw [hw2]; exact HPn)), HVn, HB5⟩
                      case measure => simp [intOf]; omega
              · obtain rfl : j = S.length := by omega
                have HBz := hide_ (below_to HBx.out HBy.out)
                cases xf with
                | true =>
                  have hvb : vb = false := by rw [← HVe.out, HF.out.var]; rfl
                  obtain ⟨g1, g2⟩ := HF.out.fx rfl
                  simp only at g1 g2
                  skip
                  subst hvb
                  have hne1 := bne_self2 ysz
                  rw [← g1] at e1
                  rw [← g2] at e2
                  clear g1 g2 hgy hzb
                  go_wp2_with fail
                  go_quiet (fail)
                  have HBq := hide_ (below_drewN HBz.out nq)
                  go_wp2_with fail
                  go_roundw
                  case rel => exact ⟨i + 1, by omega, by go_num, HBq⟩
                  case measure => simp [intOf]; omega
                | false =>
                  have hvb : vb = true := by rw [← HVe.out, HF.out.var]; rfl
                  skip
                  subst hvb
                  have hne1 := bne_self2 ysz
                  clear hgy hzb
                  go_wp2_with fail
                  go_quiet (fail)
                  have HBq := hide_ (below_drewN HBz.out nq)
                  go_wp2_with fail
                  go_roundw
                  case rel => exact ⟨i + 1, by omega, by go_num, HBq⟩
                  case measure => simp [intOf]; omega
          · have h8' : (k != 8) = true := by simpa using h8
            have h4' : (k != 4) = true := by simpa using h4
            obtain ⟨hz, hs1⟩ := HOt.out h8 h4
            simp only at hz hs1
            subst hz
            have hs2 : decide ((1 : Int) < S.length) = false := by simp; omega
            clear h8 h4 HFi HOt hs1
            go_wp2_with fail
            go_roundw
            case rel => exact ⟨i + 1, by omega, by go_num, HBx⟩
            case measure => simp [intOf]; omega
      · obtain rfl : i = T.length := by omega
        have HBf := hide_ (below_to HB4.out HB.out)
        go_wp2
        go_ret
        exact ⟨rfl, HBf.out⟩
  · have hE1 : (vE != 0) = true := by simpa using hE0
    have HNE : Hid ((chk T R).1 ≠ 0) := hide_ (by rw [HE.out]; exact hE0)
    clear hE0
    go_wp2_with fail
    refine HCl.out.mono ?_
    rintro e w3 hOf
    rcases hOf with ⟨-, rfl, hB3⟩ | ⟨hok, -⟩
    · have HBf := hide_ (below_to HB2.out hB3)
      clear hB3 HCl
      go_wp2
      go_ret
      exact ⟨rfl, HBf.out⟩
    · exact absurd (by rw [hok.chk]) HNE.out
end Go.Proofs.Ytnpkpmbpapekbaa
