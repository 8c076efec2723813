/- SizeBounds: its walk. -/
import Derived.Test.YtpkghpfdibnhcaaZba
import Derived.Test.YtpkghpfdibnhcaaZx
import Derived.Test.YtpkghpfdibnhcaaZrd
import Derived.Test.YtpkghpfdibnhcaaOp
import Derived.Test.YtpkghpfdibnhcaaZcp
import Derived.BigQuiet
namespace Go.Proofs.Ytpkghpfdibnhcaa
open Go.RowKit
set_option linter.unusedVariables false

theorem fldF (a b : Value) (w : World) : (Instr.field 39 (.agg #[a, b]) 0).run Try.prog w = .ok a w := by kernel_rfl
/-- SizeBounds' memory: the schema's box, its rows, the extents. -/
structure SbS (w wr : World) (bs : Nat) (vT vR vX : Value) (Q : List (Ty × Value)) (Rc : List Rt) (X : List Ex) : Prop where
  sch : Blk wr bs 31 [vT, vR]
  ty : TOwn wr w.heap.size vT Q
  rt : ROwn wr w.heap.size vR Rc
  ex : XOwn wr w.heap.size vX X
  bel : Below w.heap.size w wr
theorem SbS.later {w wr w' : World} {bs : Nat} {vT vR vX : Value} {Q : List (Ty × Value)} {Rc : List Rt} {X : List Ex} (h : SbS w wr bs vT vR vX Q Rc X) (hB : Below wr.heap.size wr w') : SbS w w' bs vT vR vX Q Rc X :=
  ⟨h.sch.later hB, h.ty.later hB, h.rt.later hB, h.ex.later hB, below_to h.bel hB⟩
/-- A type of the row is written over. -/
theorem SbS.set {w wr : World} {bs g n cap i : Nat} {vR vX : Value} {Q : List (Ty × Value)} {Rc : List Rt} {X : List Ex} (h : SbS w wr bs (.slice (some ⟨g, 0, none⟩) n cap) vR vX Q Rc X) (hi : i < Q.length) (t : Ty) (u : Value) (ht : PtIn wr w.heap.size t.ps u) :
    SbS w ((((wr.setCell ⟨g, i * 4, none⟩ (.int .i64 t.k)).setCell ⟨g, i * 4 + 1, none⟩ (.int .i64 t.n)).setCell ⟨g, i * 4 + 2, none⟩ (.int .i64 t.e)).setCell ⟨g, i * 4 + 3, none⟩ u) bs (.slice (some ⟨g, 0, none⟩) n cap) vR vX (Q.set i (t, u)) Rc X := by
  obtain ⟨h1, hu⟩ := h.ty.set4 hi t u ht
  obtain ⟨zs, hz⟩ := ownS_type h.ty.1 (k := g) rfl
  have hg := (World.ownsRow.lt h.ty.1 g rfl).1
  refine ⟨h.sch.upd hu (fun e => ?_), h1, h.rt.updN hu hz (by decide), ?_, h.bel.trans (hu.below _ h.bel.size (fun k e => by omega))⟩
  · exact absurd (blk_type h.sch (e ▸ hz)) (by decide)
  · refine ownS_upd h.ex hu (fun k hk e => ?_)
    obtain ⟨zs', hz'⟩ := ownS_type h.ex hk
    subst e
    exact absurd (blk_type hz hz') (by decide)
theorem i64w (n : Int) (h : -9223372036854775808 ≤ n ∧ n ≤ 9223372036854775807) : IntKind.i64.wrap n = n := by rw [IntKind.wrap_i64]; omega
theorem map_set1 (Q : List (Ty × Value)) (k : Nat) (y : Ty × Value) : (Q.set k y).map (·.1) = (Q.map (·.1)).set k y.1 := by rw [List.map_set]
set_option maxRecDepth 100000 in
set_option maxHeartbeats 16000000 in
theorem bounds_any (aT : Option Addr) (cT : Nat) (T : List Ty) (aR : Option Addr) (cR : Nat) (R : List Rt) (at' mo : Int) (w : World) (hn : T.length ≤ 1000000000000000) (hm : R.length ≤ 1000000000000000) (hcR : R.length ≤ cR) (hnil : aR = none → cR = 0) (hl : Hid (LensT T)) (hT : Hid (TRow w aT T)) (hRr : Hid (RRow w aR R)) :
    Calls Try.prog 4 #[.agg #[.slice aT T.length cT, .slice aR R.length cR], .int .i64 at', .int .i64 mo] w fun e w' => e = .returned (.bool true) ∧ Below w.heap.size w w' := by
  obtain ⟨w1, hw1⟩ : ∃ wx, wx = w.alloc (.cells #[.slice aT T.length cT, .slice aR R.length cR] 31) := ⟨_, rfl⟩
  have b1 : Below w.heap.size w w1 := by rw [hw1]; exact below1 _ _
  have k1 : Blk w1 w.heap.size 31 [.slice aT T.length cT, .slice aR R.length cR] := by rw [hw1]; exact Blk.newA w _ _
  have K1 := hide_ k1
  have HB1 := hide_ b1
  have HAw := hide_ (awake_any w1)
  clear b1 k1
  go_enter Try.func4, Try.ntmps4
  go_upto_region 1 with fail
  rw [← hw1]
  clear hw1
  go_wp2_with fail
  refine HAw.out.mono ?_
  rintro e w2 ⟨rfl, hB2⟩
  have HB2 := hide_ (below_to HB1.out hB2)
  have K12 := hide_ (K1.out.later hB2)
  have HCu := hide_ (cut_any aT cT T aR cR R w w2 hn hm hcR hnil hl HB2 hT (hide_ (hRr.out.later HB2.out)))
  have i0 := K12.out.cell 0; have i1 := K12.out.cell 1
  simp at i0 i1
  clear hB2 HAw K1
  go_wp2_with fail
  refine HCu.out.mono ?_
  rintro e w3 ⟨a, cap, ar, cr, Q, rfl, HT3, HQ, HR3, HB3⟩
  have hlc : (cutT T).length ≤ 120 := by simp [cutT]; omega
  have hlr : (R.take 260).length ≤ 260 := by simp; omega
  have HLs := hide_ (cutT_lens T)
  generalize cutT T = U at *
  generalize R.take 260 = Rc at *
  have HB3x := hide_ (below_to HB2.out HB3.out)
  obtain ⟨w4, hw4⟩ : ∃ wx, wx = w3.alloc (.cells #[.slice a U.length cap, .slice ar Rc.length cr] 31) := ⟨_, rfl⟩
  have b4 : Below w3.heap.size w3 w4 := by rw [hw4]; exact below1 _ _
  have k4 : Blk w4 w3.heap.size 31 [.slice a U.length cap, .slice ar Rc.length cr] := by rw [hw4]; exact Blk.newA w3 _ _
  have K4 := hide_ k4
  have HB4 := hide_ (below_to HB3x.out b4)
  have HT4 := hide_ (HT3.out.later b4)
  have HR4 := hide_ (HR3.out.later b4)
  have hz3 : w.heap.size ≤ w3.heap.size := HB3x.out.size
  have hz4 : w.heap.size ≤ w4.heap.size := HB4.out.size
  have HOf := hide_ (of_any a cap U ar cr Rc w4 (by omega) (by omega) HLs (hide_ (town_row HT4.out HQ.out)) (hide_ (rown_row HR4.out)))
  have HCk : Hid (∀ w', Below w4.heap.size w4 w' → Calls Try.prog 14 #[.agg #[.slice a U.length cap, .slice ar Rc.length cr]] w' fun e w'' => e = .returned (.agg #[.int .i64 (chk U Rc).1, .int .i64 (chk U Rc).2]) ∧ Below w'.heap.size w' w'') := hide_ (fun w' hB => checkR_any a cap U ar cr Rc w' (by omega) (by omega) HLs (hide_ ((town_row HT4.out HQ.out).later hB)) (hide_ ((rown_row HR4.out).later hB)))
  clear i0 i1
  have i0 := k4.cell 0; have i1 := k4.cell 1
  simp at i0 i1
  clear b4 k4 hT hRr K12 HCu
  go_upto_region 4 with fail
  rw [← hw4]
  clear hw4
  go_wp2_with fail
  refine HOf.out.mono ?_
  rintro e w5 (⟨hne, rfl, hB5⟩ | ⟨hS, vX, rfl, hX, hB5⟩)
  · have K5 := hide_ (K4.out.later hB5)
    have HB5x := hide_ hB5
    have q0 := K5.out.cell 0; have q1 := K5.out.cell 1
    simp at q0 q1
    generalize (chk U Rc).1 = e1 at *
    generalize (chk U Rc).2 = e2 at *
    have hne1 : (e1 != 0) = true := by simpa using hne
    clear hB5 i0 i1 hne
    go_wp2_with (go_at_call 12; refine (num_any _ _).mono ?_; rintro e w' ⟨rfl, rfl⟩)
    have HSS : Hid (∀ w', Below w5.heap.size w5 w' → Below w5.heap.size w5 w' ∧ w'.cell? ⟨w3.heap.size, 0, none⟩ = some (.slice a U.length cap) ∧ w'.cell? ⟨w3.heap.size, 1, none⟩ = some (.slice ar Rc.length cr)) := hide_ (fun w' hB => ⟨hB, (K5.out.later hB).cell 0, (K5.out.later hB).cell 1⟩)
    have hff := fldF (.int .i64 e1) (.int .i64 e2)
    go_wp2_with fail
    go_region_held_law (fun w' => Below w5.heap.size w5 w' ∧ w'.cell? ⟨w3.heap.size, 0, none⟩ = some (.slice a U.length cap) ∧ w'.cell? ⟨w3.heap.size, 1, none⟩ = some (.slice ar Rc.length cr)) (first | assumption | exact HSS.out _ (Below.drew (below_drewN (Below.refl _ _) _)) | exact HSS.out _ ((Below.refl _ _).drew) | exact HSS.out _ (Below.refl _ _))
      (first | (go_at_call 14; refine (HCk.out _ (below_to HB5x.out (by first | assumption | exact And.left (by assumption)))).mono ?_; rintro e w6 ⟨rfl, hB6⟩; (have G6 := HSS.out w6 (below_to (by first | assumption | exact And.left (by assumption)) hB6)); (clear hB6)) | (go_at_call 12; refine (num_any _ _).mono ?_; rintro e w' ⟨rfl, rfl⟩))
    all_goals
      go_wp2
      go_ret
      exact ⟨rfl, below_to HB4.out (below_to HB5x.out (by first | exact G6.1 | exact Below.refl _ _))⟩
  · have K5 := hide_ (K4.out.later hB5)
    have HB5x := hide_ hB5
    have HS := hide_ hS
    have q0 := K5.out.cell 0; have q1 := K5.out.cell 1
    simp at q0 q1
    clear i0 i1
    by_cases hU0 : U.length = 0
    · have e12 : chk U Rc = (0, 0) := hS.chk
      have HE1 : Hid ((chk U Rc).1 = 0) := hide_ (by rw [e12])
      generalize (chk U Rc).1 = e1 at *
      generalize (chk U Rc).2 = e2 at *
      have hz : ((0 : Int) == e1) = true := by rw [HE1.out]; rfl
      clear hB5 e12 HE1 hS
      have hU0' : ((U.length : Int) == 0) = true := by simp; exact List.eq_nil_of_length_eq_zero hU0
      clear hU0
      go_wp2_with (go_at_call 12; refine (num_any _ _).mono ?_; rintro e w' ⟨rfl, rfl⟩)
      have HSS : Hid (∀ w', Below w5.heap.size w5 w' → Below w5.heap.size w5 w' ∧ w'.cell? ⟨w3.heap.size, 0, none⟩ = some (.slice a U.length cap) ∧ w'.cell? ⟨w3.heap.size, 1, none⟩ = some (.slice ar Rc.length cr)) := hide_ (fun w' hB => ⟨hB, (K5.out.later hB).cell 0, (K5.out.later hB).cell 1⟩)
      have hff := fldF (.int .i64 e1) (.int .i64 e2)
      go_wp2_with fail
      go_region_held_law (fun w' => Below w5.heap.size w5 w' ∧ w'.cell? ⟨w3.heap.size, 0, none⟩ = some (.slice a U.length cap) ∧ w'.cell? ⟨w3.heap.size, 1, none⟩ = some (.slice ar Rc.length cr)) (first | assumption | exact HSS.out _ (Below.drew (below_drewN (Below.refl _ _) _)) | exact HSS.out _ ((Below.refl _ _).drew) | exact HSS.out _ (Below.refl _ _))
        (first | (go_at_call 14; refine (HCk.out _ (below_to HB5x.out (by first | assumption | exact And.left (by assumption)))).mono ?_; rintro e w6 ⟨rfl, hB6⟩; (have G6 := HSS.out w6 (below_to (by first | assumption | exact And.left (by assumption)) hB6)); (clear hB6)) | (go_at_call 12; refine (num_any _ _).mono ?_; rintro e w' ⟨rfl, rfl⟩))
      all_goals
        go_wp2
        go_ret
        exact ⟨rfl, below_to HB4.out (below_to HB5x.out (by first | exact G6.1 | exact Below.refl _ _))⟩
    · have hU1 : ((U.length : Int) == 0) = false := by simp; intro h; rw [h] at hU0; exact hU0 rfl
      have hxl : (extL U).length = U.length := extL_len U
      have hT5 := HT4.out.later hB5
      obtain ⟨gT, cT', -, eT, -, hcT, -, -, -, -⟩ := ownS_blk hT5.1 (by have := congrArg List.length HQ.out; simp at this; omega)
      injection eT with eT eT2 eT3
      subst eT
      obtain ⟨gx, cx, -, eX, -, hcx, -, -, -, -⟩ := ownS_blk hX (by omega)
      subst eX
      have HS5 : Hid (SbS w w5 w3.heap.size (.slice (some ⟨gT, 0, none⟩) U.length cap) (.slice ar Rc.length cr) (.slice (some ⟨gx, 0, none⟩) (extL U).length cx) Q Rc (extL U)) := hide_ ⟨K4.out.later hB5, hT5, HR4.out.later hB5, own_base hX hz4, below_to HB4.out hB5⟩
      have hQl : Q.length = U.length := by have := congrArg List.length HQ.out; simpa using this
      have HQL := hide_ hQl
      have HXO : Hid (∀ i : Nat, i < U.length → XOk (exAt (extL U) (i : Int)) ∧ 1 ≤ (exAt (extL U) (i : Int)).d) := hide_ (fun i hi => by
        have h := extL_ok hS U.length (Nat.le_refl _)
        rw [List.take_length] at h
        exact h _ (List.mem_of_getElem? (exAt_at (by omega))))
      have hxl' : ((extL U).length : Int) = U.length := by omega
      rw [hxl] at HS5 ⊢
      clear hB5 hX hT5 hcx hcT K4 HT4 HR4 HOf hS eT2 eT3 hQl
      go_wp2_with (go_at_call 12; refine (num_any _ _).mono ?_; rintro e w' ⟨rfl, rfl⟩)
      clear q0 q1
      go_loopw [10] (fun x10 wr => ∃ (i : Nat), i ≤ U.length ∧ x10 = .int .i64 (i : Int) ∧ Hid (SbS w wr w3.heap.size (.slice (some ⟨gT, 0, none⟩) U.length cap) (.slice ar Rc.length cr) (.slice (some ⟨gx, 0, none⟩) U.length cx) Q Rc (extL U))) (fun x10 _ => U.length - (intOf x10).toNat)
      case atStart => exact ⟨0, Nat.zero_le _, rfl, HS5⟩
      case round =>
        obtain ⟨i, hi, rfl, HM⟩ := hrel
        generalize wr = wq at *
        clear HS5
        have q0 := HM.out.sch.cell 0; have q1 := HM.out.sch.cell 1
        simp at q0 q1
        by_cases hlt : i < U.length
        · have hlt' : (i : Int) < U.length := by omega
          have hQi : i < Q.length := by have := HQL.out; omega
          obtain ⟨p, hp⟩ : ∃ p, Q[i]? = some p := ⟨_, List.getElem?_eq_getElem hQi⟩
          have hti : U[i]? = some p.1 := by rw [← HQ.out, List.getElem?_map, hp]; rfl
          obtain ⟨y0, y1, y2, y3⟩ := HM.out.ty.at4 hp
          obtain ⟨va, vc, hu, hvc, hvn, hpr, -⟩ := HM.out.ty.2 p (List.mem_of_getElem? hp)
          rw [hu] at y3
          obtain ⟨hxo, hd1⟩ := HXO.out i hlt
          obtain ⟨x0, x1, x2, x3⟩ := HM.out.ex.at4 (i := i) (by rw [hxl]; exact hlt)
          have HPE : Hid (∀ (k : Nat) (q : Pt), p.1.ps[k]? = some q → 0 ≤ q.ty ∧ q.ty < i ∧ (exAt (extL U) q.ty).d < (exAt (extL U) (i : Int)).d ∧ (exAt (extL U) q.ty).m ≤ (exAt (extL U) (i : Int)).m ∧ ((exAt (extL U) (i : Int)).f = true → (exAt (extL U) q.ty).f = true)) := hide_ (fun k q hq => part_ext HS.out hti hq)
          have hpl : p.1.ps.length ≤ 9223372036854775806 := HLs.out.at hti
          obtain ⟨p1, p2⟩ := p
          obtain ⟨tk, tn, te, ps⟩ := p1
          simp only at y0 y1 y2 y3 hvc hpr HPE hpl hu
          have HXe : Hid (∀ x, (exAt (extL U) (i : Int)) = x → x = exAt (extL U) (i : Int)) := hide_ (fun x h => h.symm)
          have hl0 : decide ((exAt (extL U) (i : Int)).l < 0) = false := decide_eq_false (by have := hxo.l0; omega)
          have hlm : decide ((exAt (extL U) (i : Int)).m < (exAt (extL U) (i : Int)).l) = false := decide_eq_false (by have := hxo.lm; omega)
          have hmh : decide (4611686018427387904 < (exAt (extL U) (i : Int)).m) = false := decide_eq_false (by have := hxo.mh; omega)
          have hdd : decide ((exAt (extL U) (i : Int)).d < 1) = false := decide_eq_false (by omega)
          clear hxo hd1 HXe
          generalize hxe : exAt (extL U) (i : Int) = xx at *
          obtain ⟨xf, xl, xm, xd⟩ := xx
          simp only at x0 x1 x2 x3 hl0 hlm hmh hdd HPE
          obtain ⟨wa, hwa⟩ : ∃ wx, wx = wq.alloc (.cells #[.int .i64 tk, .int .i64 tn, .int .i64 te, .slice va ps.length vc] 43) := ⟨_, rfl⟩
          have ba : Below wq.heap.size wq wa := by rw [hwa]; exact below1 _ _
          have ka : Blk wa wq.heap.size 43 [.int .i64 tk, .int .i64 tn, .int .i64 te, .slice va ps.length vc] := by rw [hwa]; exact Blk.newA wq _ _
          have HMa := hide_ (HM.out.later ba)
          have KA := hide_ ka
          have HPa := hide_ (hpr.later ba)
          obtain ⟨z0, z1, z2, z3⟩ := HMa.out.ex.at4 (i := i) (by rw [hxl]; exact hlt)
          rw [hxe] at z0 z1 z2 z3
          simp only at z0 z1 z2 z3
          have HXE := hide_ hxe
          clear hxe ba ka hpr x0 x1 x2 x3 hp hti
          go_upto_region 13 with fail
          rw [← hwa]
          clear hwa y0 y1 y2 y3 q0 q1
          go_wp2_with fail
          go_quiet (fail)
          have HMq := hide_ (HMa.out.later (below_drewN (Below.refl _ _) nq))
          have KQ := hide_ (KA.out.drewN nq)
          have HPq : Hid (PRow (wa.drewN nq) va ps) := hide_ (HPa.out.later (below_drewN (Below.refl _ _) nq))
          have r3 := KQ.out.cell 3
          simp at r3
          generalize wa.drewN nq = wb at *
          clear z0 z1 z2 z3
          go_wp2_with fail
          go_loopw [12] (fun x12 wr => ∃ (k : Nat), k ≤ ps.length ∧ x12 = .int .i64 (k : Int) ∧ Hid (Blk wr wq.heap.size 43 [.int .i64 tk, .int .i64 tn, .int .i64 te, .slice va ps.length vc]) ∧ Hid (PRow wr va ps) ∧ Hid (SbS w wr w3.heap.size (.slice (some ⟨gT, 0, none⟩) U.length cap) (.slice ar Rc.length cr) (.slice (some ⟨gx, 0, none⟩) U.length cx) Q Rc (extL U))) (fun x12 _ => ps.length - (intOf x12).toNat)
          case atStart => exact ⟨0, Nat.zero_le _, rfl, KQ, HPq, HMq⟩
          case round =>
            obtain ⟨k, hk, rfl, K7, HP7, HM7⟩ := hrel
            generalize wr = wp at *
            clear KQ HPq HMq r3
            have r3 := K7.out.cell 3
            simp at r3
            by_cases hkl : k < ps.length
            · have hkl' : (k : Int) < ps.length := by omega
              have hq : ps[k]? = some (ps[k]'hkl) := List.getElem?_eq_getElem hkl
              obtain ⟨bP, oP, hva, hbP, hcP⟩ := HP7.out.open (by omega)
              subst hva
              have c2 := hcP k _ hq 2 (by decide)
              simp [ptc] at c2
              obtain ⟨g0, g1, g2, g3, g4⟩ := HPE.out k _ hq
              generalize ps[k]'hkl = pp at *
              obtain ⟨m, hm⟩ := Int.eq_ofNat_of_zero_le g0
              rw [hm] at c2 g1 g2 g3 g4
              have hmi : m < i := by omega
              have hmU : (m : Int) < U.length := by omega
              obtain ⟨z0, z1, z2, z3⟩ := HM7.out.ex.at4 (i := m) (by rw [hxl]; omega)
              obtain ⟨v0, v1, v2, v3⟩ := HM7.out.ex.at4 (i := i) (by rw [hxl]; exact hlt)
              rw [HXE.out] at v0 v1 v2 v3
              generalize exAt (extL U) (m : Int) = yy at *
              obtain ⟨pf, pl, pm, pd⟩ := yy
              simp only at z0 z1 z2 z3 v0 v1 v2 v3 g2 g3 g4
              have hg2 : decide (xd ≤ pd) = false := decide_eq_false (by omega)
              have hg3 : decide (xm < pm) = false := decide_eq_false (by omega)
              obtain ⟨we, hwe⟩ : ∃ wx, wx = wp.alloc (.cells #[.bool pf, .int .i64 pl, .int .i64 pm, .int .i64 pd] 35) := ⟨_, rfl⟩
              have be : Below wp.heap.size wp we := by rw [hwe]; exact below1 _ _
              have ke : Blk we wp.heap.size 35 [.bool pf, .int .i64 pl, .int .i64 pm, .int .i64 pd] := by rw [hwe]; exact Blk.newA wp _ _
              have HM8 := hide_ (HM7.out.later be)
              have K8 := hide_ (K7.out.later be)
              have HP8 := hide_ (HP7.out.later be)
              have e0 := ke.cell 0; have e1 := ke.cell 1; have e2 := ke.cell 2; have e3 := ke.cell 3
              simp at e0 e1 e2 e3
              obtain ⟨u0, u1, u2, u3⟩ := HM8.out.ex.at4 (i := i) (by rw [hxl]; exact hlt)
              rw [HXE.out] at u0 u1 u2 u3
              simp only at u0 u1 u2 u3
              have q0 := HM7.out.sch.cell 0
              simp at q0
              clear be ke hq hcP g0 g1 g2 g3 hm HPE HXO v0 v1 v2 v3 hbP
              go_upto_region 19 with fail
              rw [← hwe]
              clear hwe z0 z1 z2 z3 c2 q0 r3
              cases xf with
              | true =>
                have hpf : pf = true := g4 rfl
                subst hpf
                clear g4
                go_wp2_with fail
                go_quiet (fail)
                have HM9 := hide_ (HM8.out.later (below_drewN (Below.refl _ _) nq))
                have K9 := hide_ (K8.out.drewN nq)
                have HP9 := hide_ (HP8.out.later (below_drewN (Below.refl _ _) nq))
                go_wp2_with fail
                go_roundw
                case rel => exact ⟨k + 1, by omega, by go_num, K9, HP9, HM9⟩
                case measure => simp [intOf]; omega
              | false =>
                clear g4
                go_wp2_with fail
                go_quiet (fail)
                have HM9 := hide_ (HM8.out.later (below_drewN (Below.refl _ _) nq))
                have K9 := hide_ (K8.out.drewN nq)
                have HP9 := hide_ (HP8.out.later (below_drewN (Below.refl _ _) nq))
                go_wp2_with fail
                go_roundw
                case rel => exact ⟨k + 1, by omega, by go_num, K9, HP9, HM9⟩
                case measure => simp [intOf]; omega
            · have hkl' : ¬ (k : Int) < ps.length := by omega
              go_wp2_with fail
              go_roundw
              case rel => exact ⟨i + 1, by omega, by go_num, HM7⟩
              case measure => simp [intOf]; omega
        · have hlt' : ¬ (i : Int) < U.length := by omega
          have HRs := hide_ (rest_any at' (U.length : Int) wq (by omega) (by omega))
          clear HXO HCk
          go_wp2_with fail
          refine HRs.out.mono ?_
          rintro e w' ⟨r, rfl, hr0, hr1, rfl⟩
          obtain ⟨k, rfl⟩ := Int.eq_ofNat_of_zero_le hr0
          have hkU : k < U.length := by omega
          have hkQ : k < Q.length := by have := HQL.out; omega
          obtain ⟨p, hp⟩ : ∃ p, Q[k]? = some p := ⟨_, List.getElem?_eq_getElem hkQ⟩
          have htk : U[k]? = some p.1 := by rw [← HQ.out, List.getElem?_map, hp]; rfl
          have hok := HS.out.ty k hkU
          rw [show U.getD k ty0 = p.1 by simp [List.getD, htk]] at hok
          obtain ⟨y0, y1, y2, y3⟩ := HM.out.ty.at4 hp
          have hpt := HM.out.ty.2 p (List.mem_of_getElem? hp)
          obtain ⟨va, vc, hu, hvc, hvn, hpr, -⟩ := hpt
          have hpt := HM.out.ty.2 p (List.mem_of_getElem? hp)
          obtain ⟨p1, p2⟩ := p
          obtain ⟨tk, tn, te, ps⟩ := p1
          simp only at hu
          subst hu
          simp only at y0 y1 y2 y3 hvc hpr hpt htk hok
          have hps := tyOk_len hok
          simp only at hps
          obtain ⟨wy, hwy⟩ : ∃ wx, wx = wq.alloc (.cells #[.int .i64 tk, .int .i64 tn, .int .i64 te, .slice va ps.length vc] 43) := ⟨_, rfl⟩
          have by' : Below wq.heap.size wq wy := by rw [hwy]; exact below1 _ _
          have ky : Blk wy wq.heap.size 43 [.int .i64 tk, .int .i64 tn, .int .i64 te, .slice va ps.length vc] := by rw [hwy]; exact Blk.newA wq _ _
          have HBY := hide_ by'
          have HMy := hide_ (HM.out.later by')
          have KY := hide_ ky
          have HPy := hide_ (hpr.later by')
          have HPty := hide_ (HMy.out.ty.2 _ (List.mem_of_getElem? hp))
          have HPK := hide_ hp
          have HTK := hide_ htk
          have HOKt := hide_ hok
          have hkU' : (k : Int) < U.length := by omega
          have hzq : w.heap.size ≤ wq.heap.size := HM.out.bel.size
          have k0 := ky.cell 0; have k1 := ky.cell 1; have k3 := ky.cell 3
          simp at k0 k1 k3
          clear by' ky hpr hpt htk hp hok hr0 hr1 HRs
          go_upto_region 23 with fail
          rw [← hwy]
          clear hwy y0 y1 y2 y3 q0 q1
          by_cases h45 : tk = 4 ∨ tk = 5
          · have hn := nOk_n HOKt.out
            simp only at hn
            have hn1 : 1 ≤ tn ∧ tn ≤ 1048576 := by omega
            rcases (show ((tk == 5) = true) ∨ ((tk == 5) = false ∧ (tk == 4) = true) by rcases h45 with h | h <;> subst h <;> simp) with c5 | ⟨c5, c4⟩
            · skip
              have hs1 : IntKind.i64.wrap (1048576 - tn) = 1048576 - tn := i64w _ (by omega)
              have hs2 : IntKind.i64.wrap (1048576 - tn + 1) = 1048576 - tn + 1 := i64w _ (by omega)
              have HRm := hide_ (fun w' => rest_any mo (1048576 - tn + 1) w' (by omega) (by omega))
              have fr1 := KY.out.frozen 1
              go_upto_region 27 with fail
              refine wp_region_held_drew (S := fun _ => True) (by kernel_rfl) trivial (fun hHeld => ?_)
              refine wpAnyH_take (i := 0) (v := ?vn1) rfl (by kernel_rfl) (by kernel_rfl) (by kernel_rfl) (fun _ _ _ h => h) (Or.inl ⟨by rfl, ?hyn1⟩) hHeld ?restn1
              case hyn1 => intro w' hSw; (try dsimp only at hSw); go_simp; try with_reducible rfl
              simp only [Act.put]
              refine wpAnyH_take (i := 2) (v := ?vn2) rfl (by kernel_rfl) (by kernel_rfl) (by kernel_rfl) (fun _ _ _ h => h) (Or.inl ⟨by rfl, ?hyn2⟩) hHeld ?restn2
              case hyn2 => intro w' hSw; (try dsimp only at hSw); go_simp; try with_reducible rfl
              simp only [Act.put]
              refine wpAnyH_take (i := 3) (v := ?vn3) rfl (by kernel_rfl) (by kernel_rfl) (by kernel_rfl) (fun _ _ _ h => h) (Or.inl ⟨by rfl, ?hyn3⟩) hHeld ?restn3
              case hyn3 => intro w' hSw; (try dsimp only at hSw); go_simp; try with_reducible rfl
              simp only [Act.put]
              refine wpAnyH_ready (rs := [1, 4]) (by kernel_rfl) (by simp) ?_
              refine AllReadyH.cons rfl (fun K hK => ?_) ?_
              · go_simp
                refine hK.out _ _ (trivial) (fun hHeld => ?_)
                clear hK K
                refine wpAnyH_ready (rs := [4]) (by kernel_rfl) (by simp) ?_
                refine AllReadyH.cons rfl (fun K hK => ?_) AllReadyH.nil
                go_simp
                refine hK.out _ _ (trivial) (fun hHeld => ?_)
                clear hK K
                refine wpAnyH_take (i := 5) (v := ?vn4) rfl (by kernel_rfl) (by kernel_rfl) (by kernel_rfl) (fun _ _ _ h => h) (Or.inl ⟨by rfl, ?hyn4⟩) hHeld ?restn4
                case hyn4 => intro w' hSw; (try dsimp only at hSw); go_simp; try with_reducible rfl
                simp only [Act.put]
                refine wpAnyH_take (i := 6) (v := ?vn5) rfl (by kernel_rfl) (by kernel_rfl) (by kernel_rfl) (fun _ _ _ h => h) (Or.inl ⟨by rfl, ?hyn5⟩) hHeld ?restn5
                case hyn5 => intro w' hSw; (try dsimp only at hSw); go_simp; try with_reducible rfl
                simp only [Act.put]
                refine wpAnyH_ready (rs := [7]) (by kernel_rfl) (by simp) ?_
                refine AllReadyH.cons rfl (fun K hK => ?_) AllReadyH.nil
                go_simp
                refine (HRm.out _).mono ?_
                rintro e w' ⟨r, rfl, hr0, hr1, rfl⟩
                have hs3 : IntKind.i64.wrap (tn + r) = tn + r := i64w _ (by omega)
                dsimp only
                refine hK.out _ _ (trivial) (fun hHeld => ?_)
                clear hK K
                refine wpAnyH_take (i := 8) (v := ?vn6) rfl (by kernel_rfl) (by kernel_rfl) (by kernel_rfl) (fun _ _ _ h => h) (Or.inl ⟨by rfl, ?hyn6⟩) hHeld ?restn6
                case hyn6 => intro w' hSw; (try dsimp only at hSw); go_simp; try with_reducible rfl
                simp only [Act.put]
                refine wpAnyH_take (i := 9) (v := ?vn7) rfl (by kernel_rfl) (by kernel_rfl) (by kernel_rfl) (fun _ _ _ h => h) (Or.inl ⟨by rfl, ?hyn7⟩) hHeld ?restn7
                case hyn7 => intro w' hSw; (try dsimp only at hSw); go_simp; try with_reducible rfl
                simp only [Act.put]
                refine wpAnyH_ready (rs := [10]) (by kernel_rfl) (by simp) ?_
                refine AllReadyH.cons rfl (fun K hK => ?_) AllReadyH.nil
                go_simp
                refine hK.out _ _ (trivial) (fun hHeld => ?_)
                clear hK K
                refine wpAnyH_done (by kernel_rfl) ?_ _
                as_aux_lemma =>
                  obtain ⟨wz, hwz0⟩ : ∃ wz, wz = (wy.setCell ⟨wq.heap.size, 1, none⟩ (.int .i64 (tn + r))).drew := ⟨_, rfl⟩
                  have HW := hide_ hwz0
                  go_upto_region 32 with fail
                  rw [← hwz0]
                  clear hwz0 hs1 hs2 hs3 HRm fr1 k0 k1 k3
                  obtain ⟨yy, hyy⟩ : ∃ yy : Ty, (⟨tk, tn + r, te, ps⟩ : Ty) = yy := ⟨_, rfl⟩
                  obtain ⟨ua, ul, uc, huu⟩ : ∃ ua ul uc, Value.slice va ps.length vc = .slice ua ul uc := ⟨_, _, _, rfl⟩
                  have hk : Blk wz wq.heap.size 43 [.int .i64 yy.k, .int .i64 yy.n, .int .i64 yy.e, .slice ua ul uc] := by
                    rw [HW.out, ← hyy, ← huu]
                    have h := (KY.out.set 1 (.int .i64 (tn + r))).drew
                    simpa using h
                  have hbz : Below wq.heap.size wq wz := by rw [HW.out]; exact (below_set HBY.out _ _ _ (Nat.le_refl _)).drew
                  have HMz := hide_ (HM.out.later hbz)
                  have KZ := hide_ hk
                  have HPt : Hid (PtIn wz w.heap.size yy.ps (.slice ua ul uc) ∧ True) := hide_ ⟨by rw [← hyy, ← huu]; exact HMz.out.ty.2 _ (List.mem_of_getElem? HPK.out), trivial⟩
                  have HYl : Hid (yy.ps.length ≤ 9223372036854775806) := hide_ (by rw [← hyy]; simp only; omega)
                  have HG : Hid ((ext1 (extL (U.take k)) ⟨tk, tn, te, ps⟩).m ≤ (ext1 (extL (U.take k)) yy).m ∧ (ext1 (extL (U.take k)) ⟨tk, tn, te, ps⟩).l ≤ (ext1 (extL (U.take k)) yy).l ∧ ((ext1 (extL (U.take k)) yy).f = true → (ext1 (extL (U.take k)) ⟨tk, tn, te, ps⟩).f = true)) := hide_ (by rw [← hyy]; exact more_n (t := ⟨tk, tn, te, ps⟩) h45 (by simp only; omega))
                  clear hyy huu hk hbz HW hr0 hr1 KY HMy HPy HPty HBY
                  obtain ⟨hPt, hPtu⟩ := HPt.out
                  have HMs := hide_ (HMz.out.set (i := k) (by have := HQL.out; omega) yy (.slice ua ul uc) hPt)
                  have hfr := fun i => HMz.out.ty.fr i
                  have q0 := HMz.out.sch.cell 0
                  have b0 := KZ.out.cell 0; have b1 := KZ.out.cell 1; have b2 := KZ.out.cell 2; have b3 := KZ.out.cell 3
                  simp at q0 b0 b1 b2 b3
                  obtain ⟨s0, s1, s2, s3⟩ := HMz.out.ty.at4 HPK.out
                  obtain ⟨ws, hws⟩ : ∃ wx, wx = (((wz.setCell ⟨gT, k * 4, none⟩ (.int .i64 yy.k)).setCell ⟨gT, k * 4 + 1, none⟩ (.int .i64 yy.n)).setCell ⟨gT, k * 4 + 2, none⟩ (.int .i64 yy.e)).setCell ⟨gT, k * 4 + 3, none⟩ (.slice ua ul uc) := ⟨_, rfl⟩
                  rw [← hws] at HMs
                  have HQs : Hid ((Q.set k (yy, .slice ua ul uc)).map (·.1) = U.set k yy) := hide_ (by rw [map_set1, HQ.out])
                  have hUs : (U.set k yy).length = U.length := by simp
                  have HLs2 : Hid (LensT (U.set k yy)) := hide_ ⟨by rw [hUs]; exact HLs.out.1, fun t ht => by
                    rcases List.mem_or_eq_of_mem_set ht with ht | rfl
                    · exact HLs.out.2 t ht
                    · have := HYl.out; omega⟩
                  have hOf2 := of_any (some ⟨gT, 0, none⟩) cap (U.set k yy) ar cr Rc ws (by omega) (by omega) HLs2 (hide_ (town_row HMs.out.ty HQs.out)) (hide_ (rown_row HMs.out.rt))
                  have hCk2 : ∀ w', Below ws.heap.size ws w' → Calls Try.prog 14 #[.agg #[.slice (some ⟨gT, 0, none⟩) (U.set k yy).length cap, .slice ar Rc.length cr]] w' fun e w'' => e = .returned (.agg #[.int .i64 (chk (U.set k yy) Rc).1, .int .i64 (chk (U.set k yy) Rc).2]) ∧ Below w'.heap.size w' w'' := (fun w' hB => checkR_any (some ⟨gT, 0, none⟩) cap (U.set k yy) ar cr Rc w' (by omega) (by omega) HLs2 (hide_ ((town_row HMs.out.ty HQs.out).later hB)) (hide_ ((rown_row HMs.out.rt).later hB)))
                  rw [hUs] at hOf2 hCk2
                  have HOf2 := hide_ hOf2
                  have HCk2 : Hid (∀ w', Below ws.heap.size ws w' → Calls Try.prog 14 #[.agg #[.slice (some ⟨gT, 0, none⟩) U.length cap, .slice ar Rc.length cr]] w' fun e w'' => e = .returned (.agg #[.int .i64 (chk (U.set k yy) Rc).1, .int .i64 (chk (U.set k yy) Rc).2]) ∧ Below w'.heap.size w' w'') := hide_ hCk2
                  clear hOf2 hCk2 hPt hPtu
                  go_upto_region 33 with fail
                  rw [← hws]
                  clear hws hfr b0 b1 b2 b3 s0 s1 s2 s3 q0
                  have q0 := HMs.out.sch.cell 0; have q1 := HMs.out.sch.cell 1
                  simp at q0 q1
                  go_wp2_with fail
                  refine HOf2.out.mono ?_
                  rintro e w6 (⟨hne, rfl, hB6⟩ | ⟨hS2, vZ, rfl, hX2, hB6⟩)
                  · have HM6 := hide_ (HMs.out.later hB6)
                    have HB6 := hide_ hB6
                    clear q0 q1
                    have q0 := HM6.out.sch.cell 0; have q1 := HM6.out.sch.cell 1
                    simp at q0 q1
                    have hne1 : ((chk (U.set k yy) Rc).1 != 0) = true := by simpa using hne
                    have hff := fldF (.int .i64 (chk (U.set k yy) Rc).1) (.int .i64 (chk (U.set k yy) Rc).2)
                    generalize (chk (U.set k yy) Rc).1 = e1 at *
                    generalize (chk (U.set k yy) Rc).2 = e2 at *
                    clear hB6 hne
                    go_wp2_with (first | (go_at_call 12; refine (num_any _ _).mono ?_; rintro e w' ⟨rfl, rfl⟩) | (go_at_call 14; refine (HCk2.out _ HB6.out).mono ?_; rintro e w7 ⟨rfl, hB7⟩; (have HB7 := hide_ (below_to HM6.out.bel hB7)); (clear hB7)))
                    go_ret
                    exact ⟨rfl, HB7.out⟩
                  · have hZl : (extL (U.set k yy)).length = U.length := by rw [extL_len, hUs]
                    obtain ⟨gz, cz, -, eZ, -, -, -, -, -, -⟩ := ownS_blk hX2 (by omega)
                    subst eZ
                    have hM6 := HMs.out.later hB6
                    obtain ⟨x0, x1, x2, x3⟩ := hM6.ex.at4 (i := k) (by rw [hxl]; exact hkU)
                    obtain ⟨z0, z1, z2, z3⟩ := hX2.at4 (i := k) (by rw [hZl]; exact hkU)
                    rw [set_ext yy hkU] at z0 z1 z2 z3
                    rw [exAt_ext HTK.out] at x0 x1 x2 x3
                    have hG := HG.out
                    generalize ext1 (extL (U.take k)) yy = za at *
                    generalize ext1 (extL (U.take k)) ⟨tk, tn, te, ps⟩ = xa at *
                    obtain ⟨xf, xl, xm, xd⟩ := xa
                    obtain ⟨zf, zl, zm, zd⟩ := za
                    simp only at x0 x1 x2 x3 z0 z1 z2 z3 hG
                    obtain ⟨hg1, hg2, hg3⟩ := hG
                    have d1 : decide (xm ≤ zm) = true := decide_eq_true hg1
                    have d2 : decide (xl ≤ zl) = true := decide_eq_true hg2
                    have HB6 := hide_ hM6.bel
                    rw [hZl]
                    clear hM6 hX2 hB6 hS2 HCk2 HOf2 q0 q1 HG
                    have hkU' : (k : Int) < U.length := by omega
                    cases zf with
                    | true =>
                      have hxf : xf = true := hg3 rfl
                      subst hxf
                      go_wp2_with (go_at_call 12; refine (num_any _ _).mono ?_; rintro e w' ⟨rfl, rfl⟩)
                      go_quiet (fail)
                      go_wp2
                      go_ret
                      exact ⟨rfl, below_drewN HB6.out nq⟩
                    | false =>
                      go_wp2_with (go_at_call 12; refine (num_any _ _).mono ?_; rintro e w' ⟨rfl, rfl⟩)
                      go_quiet (fail)
                      go_wp2
                      go_ret
                      exact ⟨rfl, below_drewN HB6.out nq⟩
              refine AllReadyH.cons rfl (fun K hK => ?_) AllReadyH.nil
              go_simp
              refine hK.out _ _ (trivial) (fun hHeld => ?_)
              clear hK K
              refine wpAnyH_take (i := 5) (v := ?vn8) rfl (by kernel_rfl) (by kernel_rfl) (by kernel_rfl) (fun _ _ _ h => h) (Or.inl ⟨by rfl, ?hyn8⟩) hHeld ?restn8
              case hyn8 => intro w' hSw; (try dsimp only at hSw); go_simp; try with_reducible rfl
              simp only [Act.put]
              refine wpAnyH_take (i := 6) (v := ?vn9) rfl (by kernel_rfl) (by kernel_rfl) (by kernel_rfl) (fun _ _ _ h => h) (Or.inl ⟨by rfl, ?hyn9⟩) hHeld ?restn9
              case hyn9 => intro w' hSw; (try dsimp only at hSw); go_simp; try with_reducible rfl
              simp only [Act.put]
              refine wpAnyH_ready (rs := [1, 7]) (by kernel_rfl) (by simp) ?_
              refine AllReadyH.cons rfl (fun K hK => ?_) ?_
              · go_simp
                refine hK.out _ _ (trivial) (fun hHeld => ?_)
                clear hK K
                refine wpAnyH_ready (rs := [7]) (by kernel_rfl) (by simp) ?_
                refine AllReadyH.cons rfl (fun K hK => ?_) AllReadyH.nil
                go_simp
                refine (HRm.out _).mono ?_
                rintro e w' ⟨r, rfl, hr0, hr1, rfl⟩
                have hs3 : IntKind.i64.wrap (tn + r) = tn + r := i64w _ (by omega)
                dsimp only
                refine hK.out _ _ (trivial) (fun hHeld => ?_)
                clear hK K
                refine wpAnyH_take (i := 8) (v := ?vn10) rfl (by kernel_rfl) (by kernel_rfl) (by kernel_rfl) (fun _ _ _ h => h) (Or.inl ⟨by rfl, ?hyn10⟩) hHeld ?restn10
                case hyn10 => intro w' hSw; (try dsimp only at hSw); go_simp; try with_reducible rfl
                simp only [Act.put]
                refine wpAnyH_take (i := 9) (v := ?vn11) rfl (by kernel_rfl) (by kernel_rfl) (by kernel_rfl) (fun _ _ _ h => h) (Or.inl ⟨by rfl, ?hyn11⟩) hHeld ?restn11
                case hyn11 => intro w' hSw; (try dsimp only at hSw); go_simp; try with_reducible rfl
                simp only [Act.put]
                refine wpAnyH_ready (rs := [10]) (by kernel_rfl) (by simp) ?_
                refine AllReadyH.cons rfl (fun K hK => ?_) AllReadyH.nil
                go_simp
                refine hK.out _ _ (trivial) (fun hHeld => ?_)
                clear hK K
                refine wpAnyH_done (by kernel_rfl) ?_ _
                as_aux_lemma =>
                  obtain ⟨wz, hwz0⟩ : ∃ wz, wz = (wy.setCell ⟨wq.heap.size, 1, none⟩ (.int .i64 (tn + r))).drew := ⟨_, rfl⟩
                  have HW := hide_ hwz0
                  go_upto_region 32 with fail
                  rw [← hwz0]
                  clear hwz0 hs1 hs2 hs3 HRm fr1 k0 k1 k3
                  obtain ⟨yy, hyy⟩ : ∃ yy : Ty, (⟨tk, tn + r, te, ps⟩ : Ty) = yy := ⟨_, rfl⟩
                  obtain ⟨ua, ul, uc, huu⟩ : ∃ ua ul uc, Value.slice va ps.length vc = .slice ua ul uc := ⟨_, _, _, rfl⟩
                  have hk : Blk wz wq.heap.size 43 [.int .i64 yy.k, .int .i64 yy.n, .int .i64 yy.e, .slice ua ul uc] := by
                    rw [HW.out, ← hyy, ← huu]
                    have h := (KY.out.set 1 (.int .i64 (tn + r))).drew
                    simpa using h
                  have hbz : Below wq.heap.size wq wz := by rw [HW.out]; exact (below_set HBY.out _ _ _ (Nat.le_refl _)).drew
                  have HMz := hide_ (HM.out.later hbz)
                  have KZ := hide_ hk
                  have HPt : Hid (PtIn wz w.heap.size yy.ps (.slice ua ul uc) ∧ True) := hide_ ⟨by rw [← hyy, ← huu]; exact HMz.out.ty.2 _ (List.mem_of_getElem? HPK.out), trivial⟩
                  have HYl : Hid (yy.ps.length ≤ 9223372036854775806) := hide_ (by rw [← hyy]; simp only; omega)
                  have HG : Hid ((ext1 (extL (U.take k)) ⟨tk, tn, te, ps⟩).m ≤ (ext1 (extL (U.take k)) yy).m ∧ (ext1 (extL (U.take k)) ⟨tk, tn, te, ps⟩).l ≤ (ext1 (extL (U.take k)) yy).l ∧ ((ext1 (extL (U.take k)) yy).f = true → (ext1 (extL (U.take k)) ⟨tk, tn, te, ps⟩).f = true)) := hide_ (by rw [← hyy]; exact more_n (t := ⟨tk, tn, te, ps⟩) h45 (by simp only; omega))
                  clear hyy huu hk hbz HW hr0 hr1 KY HMy HPy HPty HBY
                  obtain ⟨hPt, hPtu⟩ := HPt.out
                  have HMs := hide_ (HMz.out.set (i := k) (by have := HQL.out; omega) yy (.slice ua ul uc) hPt)
                  have hfr := fun i => HMz.out.ty.fr i
                  have q0 := HMz.out.sch.cell 0
                  have b0 := KZ.out.cell 0; have b1 := KZ.out.cell 1; have b2 := KZ.out.cell 2; have b3 := KZ.out.cell 3
                  simp at q0 b0 b1 b2 b3
                  obtain ⟨s0, s1, s2, s3⟩ := HMz.out.ty.at4 HPK.out
                  obtain ⟨ws, hws⟩ : ∃ wx, wx = (((wz.setCell ⟨gT, k * 4, none⟩ (.int .i64 yy.k)).setCell ⟨gT, k * 4 + 1, none⟩ (.int .i64 yy.n)).setCell ⟨gT, k * 4 + 2, none⟩ (.int .i64 yy.e)).setCell ⟨gT, k * 4 + 3, none⟩ (.slice ua ul uc) := ⟨_, rfl⟩
                  rw [← hws] at HMs
                  have HQs : Hid ((Q.set k (yy, .slice ua ul uc)).map (·.1) = U.set k yy) := hide_ (by rw [map_set1, HQ.out])
                  have hUs : (U.set k yy).length = U.length := by simp
                  have HLs2 : Hid (LensT (U.set k yy)) := hide_ ⟨by rw [hUs]; exact HLs.out.1, fun t ht => by
                    rcases List.mem_or_eq_of_mem_set ht with ht | rfl
                    · exact HLs.out.2 t ht
                    · have := HYl.out; omega⟩
                  have hOf2 := of_any (some ⟨gT, 0, none⟩) cap (U.set k yy) ar cr Rc ws (by omega) (by omega) HLs2 (hide_ (town_row HMs.out.ty HQs.out)) (hide_ (rown_row HMs.out.rt))
                  have hCk2 : ∀ w', Below ws.heap.size ws w' → Calls Try.prog 14 #[.agg #[.slice (some ⟨gT, 0, none⟩) (U.set k yy).length cap, .slice ar Rc.length cr]] w' fun e w'' => e = .returned (.agg #[.int .i64 (chk (U.set k yy) Rc).1, .int .i64 (chk (U.set k yy) Rc).2]) ∧ Below w'.heap.size w' w'' := (fun w' hB => checkR_any (some ⟨gT, 0, none⟩) cap (U.set k yy) ar cr Rc w' (by omega) (by omega) HLs2 (hide_ ((town_row HMs.out.ty HQs.out).later hB)) (hide_ ((rown_row HMs.out.rt).later hB)))
                  rw [hUs] at hOf2 hCk2
                  have HOf2 := hide_ hOf2
                  have HCk2 : Hid (∀ w', Below ws.heap.size ws w' → Calls Try.prog 14 #[.agg #[.slice (some ⟨gT, 0, none⟩) U.length cap, .slice ar Rc.length cr]] w' fun e w'' => e = .returned (.agg #[.int .i64 (chk (U.set k yy) Rc).1, .int .i64 (chk (U.set k yy) Rc).2]) ∧ Below w'.heap.size w' w'') := hide_ hCk2
                  clear hOf2 hCk2 hPt hPtu
                  go_upto_region 33 with fail
                  rw [← hws]
                  clear hws hfr b0 b1 b2 b3 s0 s1 s2 s3 q0
                  have q0 := HMs.out.sch.cell 0; have q1 := HMs.out.sch.cell 1
                  simp at q0 q1
                  go_wp2_with fail
                  refine HOf2.out.mono ?_
                  rintro e w6 (⟨hne, rfl, hB6⟩ | ⟨hS2, vZ, rfl, hX2, hB6⟩)
                  · have HM6 := hide_ (HMs.out.later hB6)
                    have HB6 := hide_ hB6
                    clear q0 q1
                    have q0 := HM6.out.sch.cell 0; have q1 := HM6.out.sch.cell 1
                    simp at q0 q1
                    have hne1 : ((chk (U.set k yy) Rc).1 != 0) = true := by simpa using hne
                    have hff := fldF (.int .i64 (chk (U.set k yy) Rc).1) (.int .i64 (chk (U.set k yy) Rc).2)
                    generalize (chk (U.set k yy) Rc).1 = e1 at *
                    generalize (chk (U.set k yy) Rc).2 = e2 at *
                    clear hB6 hne
                    go_wp2_with (first | (go_at_call 12; refine (num_any _ _).mono ?_; rintro e w' ⟨rfl, rfl⟩) | (go_at_call 14; refine (HCk2.out _ HB6.out).mono ?_; rintro e w7 ⟨rfl, hB7⟩; (have HB7 := hide_ (below_to HM6.out.bel hB7)); (clear hB7)))
                    go_ret
                    exact ⟨rfl, HB7.out⟩
                  · have hZl : (extL (U.set k yy)).length = U.length := by rw [extL_len, hUs]
                    obtain ⟨gz, cz, -, eZ, -, -, -, -, -, -⟩ := ownS_blk hX2 (by omega)
                    subst eZ
                    have hM6 := HMs.out.later hB6
                    obtain ⟨x0, x1, x2, x3⟩ := hM6.ex.at4 (i := k) (by rw [hxl]; exact hkU)
                    obtain ⟨z0, z1, z2, z3⟩ := hX2.at4 (i := k) (by rw [hZl]; exact hkU)
                    rw [set_ext yy hkU] at z0 z1 z2 z3
                    rw [exAt_ext HTK.out] at x0 x1 x2 x3
                    have hG := HG.out
                    generalize ext1 (extL (U.take k)) yy = za at *
                    generalize ext1 (extL (U.take k)) ⟨tk, tn, te, ps⟩ = xa at *
                    obtain ⟨xf, xl, xm, xd⟩ := xa
                    obtain ⟨zf, zl, zm, zd⟩ := za
                    simp only at x0 x1 x2 x3 z0 z1 z2 z3 hG
                    obtain ⟨hg1, hg2, hg3⟩ := hG
                    have d1 : decide (xm ≤ zm) = true := decide_eq_true hg1
                    have d2 : decide (xl ≤ zl) = true := decide_eq_true hg2
                    have HB6 := hide_ hM6.bel
                    rw [hZl]
                    clear hM6 hX2 hB6 hS2 HCk2 HOf2 q0 q1 HG
                    have hkU' : (k : Int) < U.length := by omega
                    cases zf with
                    | true =>
                      have hxf : xf = true := hg3 rfl
                      subst hxf
                      go_wp2_with (go_at_call 12; refine (num_any _ _).mono ?_; rintro e w' ⟨rfl, rfl⟩)
                      go_quiet (fail)
                      go_wp2
                      go_ret
                      exact ⟨rfl, below_drewN HB6.out nq⟩
                    | false =>
                      go_wp2_with (go_at_call 12; refine (num_any _ _).mono ?_; rintro e w' ⟨rfl, rfl⟩)
                      go_quiet (fail)
                      go_wp2
                      go_ret
                      exact ⟨rfl, below_drewN HB6.out nq⟩
              refine AllReadyH.cons rfl (fun K hK => ?_) AllReadyH.nil
              go_simp
              refine (HRm.out _).mono ?_
              rintro e w' ⟨r, rfl, hr0, hr1, rfl⟩
              have hs3 : IntKind.i64.wrap (tn + r) = tn + r := i64w _ (by omega)
              dsimp only
              refine hK.out _ _ (trivial) (fun hHeld => ?_)
              clear hK K
              refine wpAnyH_ready (rs := [1]) (by kernel_rfl) (by simp) ?_
              refine AllReadyH.cons rfl (fun K hK => ?_) AllReadyH.nil
              go_simp
              refine hK.out _ _ (trivial) (fun hHeld => ?_)
              clear hK K
              refine wpAnyH_take (i := 8) (v := ?vn12) rfl (by kernel_rfl) (by kernel_rfl) (by kernel_rfl) (fun _ _ _ h => h) (Or.inl ⟨by rfl, ?hyn12⟩) hHeld ?restn12
              case hyn12 => intro w' hSw; (try dsimp only at hSw); go_simp; try with_reducible rfl
              simp only [Act.put]
              refine wpAnyH_take (i := 9) (v := ?vn13) rfl (by kernel_rfl) (by kernel_rfl) (by kernel_rfl) (fun _ _ _ h => h) (Or.inl ⟨by rfl, ?hyn13⟩) hHeld ?restn13
              case hyn13 => intro w' hSw; (try dsimp only at hSw); go_simp; try with_reducible rfl
              simp only [Act.put]
              refine wpAnyH_ready (rs := [10]) (by kernel_rfl) (by simp) ?_
              refine AllReadyH.cons rfl (fun K hK => ?_) AllReadyH.nil
              go_simp
              refine hK.out _ _ (trivial) (fun hHeld => ?_)
              clear hK K
              refine wpAnyH_done (by kernel_rfl) ?_ _
              as_aux_lemma =>
                obtain ⟨wz, hwz0⟩ : ∃ wz, wz = (wy.setCell ⟨wq.heap.size, 1, none⟩ (.int .i64 (tn + r))).drew := ⟨_, rfl⟩
                have HW := hide_ hwz0
                go_upto_region 32 with fail
                rw [← hwz0]
                clear hwz0 hs1 hs2 hs3 HRm fr1 k0 k1 k3
                obtain ⟨yy, hyy⟩ : ∃ yy : Ty, (⟨tk, tn + r, te, ps⟩ : Ty) = yy := ⟨_, rfl⟩
                obtain ⟨ua, ul, uc, huu⟩ : ∃ ua ul uc, Value.slice va ps.length vc = .slice ua ul uc := ⟨_, _, _, rfl⟩
                have hk : Blk wz wq.heap.size 43 [.int .i64 yy.k, .int .i64 yy.n, .int .i64 yy.e, .slice ua ul uc] := by
                  rw [HW.out, ← hyy, ← huu]
                  have h := (KY.out.set 1 (.int .i64 (tn + r))).drew
                  simpa using h
                have hbz : Below wq.heap.size wq wz := by rw [HW.out]; exact (below_set HBY.out _ _ _ (Nat.le_refl _)).drew
                have HMz := hide_ (HM.out.later hbz)
                have KZ := hide_ hk
                have HPt : Hid (PtIn wz w.heap.size yy.ps (.slice ua ul uc) ∧ True) := hide_ ⟨by rw [← hyy, ← huu]; exact HMz.out.ty.2 _ (List.mem_of_getElem? HPK.out), trivial⟩
                have HYl : Hid (yy.ps.length ≤ 9223372036854775806) := hide_ (by rw [← hyy]; simp only; omega)
                have HG : Hid ((ext1 (extL (U.take k)) ⟨tk, tn, te, ps⟩).m ≤ (ext1 (extL (U.take k)) yy).m ∧ (ext1 (extL (U.take k)) ⟨tk, tn, te, ps⟩).l ≤ (ext1 (extL (U.take k)) yy).l ∧ ((ext1 (extL (U.take k)) yy).f = true → (ext1 (extL (U.take k)) ⟨tk, tn, te, ps⟩).f = true)) := hide_ (by rw [← hyy]; exact more_n (t := ⟨tk, tn, te, ps⟩) h45 (by simp only; omega))
                clear hyy huu hk hbz HW hr0 hr1 KY HMy HPy HPty HBY
                obtain ⟨hPt, hPtu⟩ := HPt.out
                have HMs := hide_ (HMz.out.set (i := k) (by have := HQL.out; omega) yy (.slice ua ul uc) hPt)
                have hfr := fun i => HMz.out.ty.fr i
                have q0 := HMz.out.sch.cell 0
                have b0 := KZ.out.cell 0; have b1 := KZ.out.cell 1; have b2 := KZ.out.cell 2; have b3 := KZ.out.cell 3
                simp at q0 b0 b1 b2 b3
                obtain ⟨s0, s1, s2, s3⟩ := HMz.out.ty.at4 HPK.out
                obtain ⟨ws, hws⟩ : ∃ wx, wx = (((wz.setCell ⟨gT, k * 4, none⟩ (.int .i64 yy.k)).setCell ⟨gT, k * 4 + 1, none⟩ (.int .i64 yy.n)).setCell ⟨gT, k * 4 + 2, none⟩ (.int .i64 yy.e)).setCell ⟨gT, k * 4 + 3, none⟩ (.slice ua ul uc) := ⟨_, rfl⟩
                rw [← hws] at HMs
                have HQs : Hid ((Q.set k (yy, .slice ua ul uc)).map (·.1) = U.set k yy) := hide_ (by rw [map_set1, HQ.out])
                have hUs : (U.set k yy).length = U.length := by simp
                have HLs2 : Hid (LensT (U.set k yy)) := hide_ ⟨by rw [hUs]; exact HLs.out.1, fun t ht => by
                  rcases List.mem_or_eq_of_mem_set ht with ht | rfl
                  · exact HLs.out.2 t ht
                  · have := HYl.out; omega⟩
                have hOf2 := of_any (some ⟨gT, 0, none⟩) cap (U.set k yy) ar cr Rc ws (by omega) (by omega) HLs2 (hide_ (town_row HMs.out.ty HQs.out)) (hide_ (rown_row HMs.out.rt))
                have hCk2 : ∀ w', Below ws.heap.size ws w' → Calls Try.prog 14 #[.agg #[.slice (some ⟨gT, 0, none⟩) (U.set k yy).length cap, .slice ar Rc.length cr]] w' fun e w'' => e = .returned (.agg #[.int .i64 (chk (U.set k yy) Rc).1, .int .i64 (chk (U.set k yy) Rc).2]) ∧ Below w'.heap.size w' w'' := (fun w' hB => checkR_any (some ⟨gT, 0, none⟩) cap (U.set k yy) ar cr Rc w' (by omega) (by omega) HLs2 (hide_ ((town_row HMs.out.ty HQs.out).later hB)) (hide_ ((rown_row HMs.out.rt).later hB)))
                rw [hUs] at hOf2 hCk2
                have HOf2 := hide_ hOf2
                have HCk2 : Hid (∀ w', Below ws.heap.size ws w' → Calls Try.prog 14 #[.agg #[.slice (some ⟨gT, 0, none⟩) U.length cap, .slice ar Rc.length cr]] w' fun e w'' => e = .returned (.agg #[.int .i64 (chk (U.set k yy) Rc).1, .int .i64 (chk (U.set k yy) Rc).2]) ∧ Below w'.heap.size w' w'') := hide_ hCk2
                clear hOf2 hCk2 hPt hPtu
                go_upto_region 33 with fail
                rw [← hws]
                clear hws hfr b0 b1 b2 b3 s0 s1 s2 s3 q0
                have q0 := HMs.out.sch.cell 0; have q1 := HMs.out.sch.cell 1
                simp at q0 q1
                go_wp2_with fail
                refine HOf2.out.mono ?_
                rintro e w6 (⟨hne, rfl, hB6⟩ | ⟨hS2, vZ, rfl, hX2, hB6⟩)
                · have HM6 := hide_ (HMs.out.later hB6)
                  have HB6 := hide_ hB6
                  clear q0 q1
                  have q0 := HM6.out.sch.cell 0; have q1 := HM6.out.sch.cell 1
                  simp at q0 q1
                  have hne1 : ((chk (U.set k yy) Rc).1 != 0) = true := by simpa using hne
                  have hff := fldF (.int .i64 (chk (U.set k yy) Rc).1) (.int .i64 (chk (U.set k yy) Rc).2)
                  generalize (chk (U.set k yy) Rc).1 = e1 at *
                  generalize (chk (U.set k yy) Rc).2 = e2 at *
                  clear hB6 hne
                  go_wp2_with (first | (go_at_call 12; refine (num_any _ _).mono ?_; rintro e w' ⟨rfl, rfl⟩) | (go_at_call 14; refine (HCk2.out _ HB6.out).mono ?_; rintro e w7 ⟨rfl, hB7⟩; (have HB7 := hide_ (below_to HM6.out.bel hB7)); (clear hB7)))
                  go_ret
                  exact ⟨rfl, HB7.out⟩
                · have hZl : (extL (U.set k yy)).length = U.length := by rw [extL_len, hUs]
                  obtain ⟨gz, cz, -, eZ, -, -, -, -, -, -⟩ := ownS_blk hX2 (by omega)
                  subst eZ
                  have hM6 := HMs.out.later hB6
                  obtain ⟨x0, x1, x2, x3⟩ := hM6.ex.at4 (i := k) (by rw [hxl]; exact hkU)
                  obtain ⟨z0, z1, z2, z3⟩ := hX2.at4 (i := k) (by rw [hZl]; exact hkU)
                  rw [set_ext yy hkU] at z0 z1 z2 z3
                  rw [exAt_ext HTK.out] at x0 x1 x2 x3
                  have hG := HG.out
                  generalize ext1 (extL (U.take k)) yy = za at *
                  generalize ext1 (extL (U.take k)) ⟨tk, tn, te, ps⟩ = xa at *
                  obtain ⟨xf, xl, xm, xd⟩ := xa
                  obtain ⟨zf, zl, zm, zd⟩ := za
                  simp only at x0 x1 x2 x3 z0 z1 z2 z3 hG
                  obtain ⟨hg1, hg2, hg3⟩ := hG
                  have d1 : decide (xm ≤ zm) = true := decide_eq_true hg1
                  have d2 : decide (xl ≤ zl) = true := decide_eq_true hg2
                  have HB6 := hide_ hM6.bel
                  rw [hZl]
                  clear hM6 hX2 hB6 hS2 HCk2 HOf2 q0 q1 HG
                  have hkU' : (k : Int) < U.length := by omega
                  cases zf with
                  | true =>
                    have hxf : xf = true := hg3 rfl
                    subst hxf
                    go_wp2_with (go_at_call 12; refine (num_any _ _).mono ?_; rintro e w' ⟨rfl, rfl⟩)
                    go_quiet (fail)
                    go_wp2
                    go_ret
                    exact ⟨rfl, below_drewN HB6.out nq⟩
                  | false =>
                    go_wp2_with (go_at_call 12; refine (num_any _ _).mono ?_; rintro e w' ⟨rfl, rfl⟩)
                    go_quiet (fail)
                    go_wp2
                    go_ret
                    exact ⟨rfl, below_drewN HB6.out nq⟩
            · skip
              have hs1 : IntKind.i64.wrap (1048576 - tn) = 1048576 - tn := i64w _ (by omega)
              have hs2 : IntKind.i64.wrap (1048576 - tn + 1) = 1048576 - tn + 1 := i64w _ (by omega)
              have HRm := hide_ (fun w' => rest_any mo (1048576 - tn + 1) w' (by omega) (by omega))
              have fr1 := KY.out.frozen 1
              go_upto_region 27 with fail
              refine wp_region_held_drew (S := fun _ => True) (by kernel_rfl) trivial (fun hHeld => ?_)
              refine wpAnyH_take (i := 0) (v := ?vm1) rfl (by kernel_rfl) (by kernel_rfl) (by kernel_rfl) (fun _ _ _ h => h) (Or.inl ⟨by rfl, ?hym1⟩) hHeld ?restm1
              case hym1 => intro w' hSw; (try dsimp only at hSw); go_simp; try with_reducible rfl
              simp only [Act.put]
              refine wpAnyH_take (i := 2) (v := ?vm2) rfl (by kernel_rfl) (by kernel_rfl) (by kernel_rfl) (fun _ _ _ h => h) (Or.inl ⟨by rfl, ?hym2⟩) hHeld ?restm2
              case hym2 => intro w' hSw; (try dsimp only at hSw); go_simp; try with_reducible rfl
              simp only [Act.put]
              refine wpAnyH_take (i := 3) (v := ?vm3) rfl (by kernel_rfl) (by kernel_rfl) (by kernel_rfl) (fun _ _ _ h => h) (Or.inl ⟨by rfl, ?hym3⟩) hHeld ?restm3
              case hym3 => intro w' hSw; (try dsimp only at hSw); go_simp; try with_reducible rfl
              simp only [Act.put]
              refine wpAnyH_ready (rs := [1, 4]) (by kernel_rfl) (by simp) ?_
              refine AllReadyH.cons rfl (fun K hK => ?_) ?_
              · go_simp
                refine hK.out _ _ (trivial) (fun hHeld => ?_)
                clear hK K
                refine wpAnyH_ready (rs := [4]) (by kernel_rfl) (by simp) ?_
                refine AllReadyH.cons rfl (fun K hK => ?_) AllReadyH.nil
                go_simp
                refine hK.out _ _ (trivial) (fun hHeld => ?_)
                clear hK K
                refine wpAnyH_take (i := 5) (v := ?vm4) rfl (by kernel_rfl) (by kernel_rfl) (by kernel_rfl) (fun _ _ _ h => h) (Or.inl ⟨by rfl, ?hym4⟩) hHeld ?restm4
                case hym4 => intro w' hSw; (try dsimp only at hSw); go_simp; try with_reducible rfl
                simp only [Act.put]
                refine wpAnyH_take (i := 6) (v := ?vm5) rfl (by kernel_rfl) (by kernel_rfl) (by kernel_rfl) (fun _ _ _ h => h) (Or.inl ⟨by rfl, ?hym5⟩) hHeld ?restm5
                case hym5 => intro w' hSw; (try dsimp only at hSw); go_simp; try with_reducible rfl
                simp only [Act.put]
                refine wpAnyH_ready (rs := [7]) (by kernel_rfl) (by simp) ?_
                refine AllReadyH.cons rfl (fun K hK => ?_) AllReadyH.nil
                go_simp
                refine (HRm.out _).mono ?_
                rintro e w' ⟨r, rfl, hr0, hr1, rfl⟩
                have hs3 : IntKind.i64.wrap (tn + r) = tn + r := i64w _ (by omega)
                dsimp only
                refine hK.out _ _ (trivial) (fun hHeld => ?_)
                clear hK K
                refine wpAnyH_take (i := 8) (v := ?vm6) rfl (by kernel_rfl) (by kernel_rfl) (by kernel_rfl) (fun _ _ _ h => h) (Or.inl ⟨by rfl, ?hym6⟩) hHeld ?restm6
                case hym6 => intro w' hSw; (try dsimp only at hSw); go_simp; try with_reducible rfl
                simp only [Act.put]
                refine wpAnyH_take (i := 9) (v := ?vm7) rfl (by kernel_rfl) (by kernel_rfl) (by kernel_rfl) (fun _ _ _ h => h) (Or.inl ⟨by rfl, ?hym7⟩) hHeld ?restm7
                case hym7 => intro w' hSw; (try dsimp only at hSw); go_simp; try with_reducible rfl
                simp only [Act.put]
                refine wpAnyH_ready (rs := [10]) (by kernel_rfl) (by simp) ?_
                refine AllReadyH.cons rfl (fun K hK => ?_) AllReadyH.nil
                go_simp
                refine hK.out _ _ (trivial) (fun hHeld => ?_)
                clear hK K
                refine wpAnyH_done (by kernel_rfl) ?_ _
                as_aux_lemma =>
                  obtain ⟨wz, hwz0⟩ : ∃ wz, wz = (wy.setCell ⟨wq.heap.size, 1, none⟩ (.int .i64 (tn + r))).drew := ⟨_, rfl⟩
                  have HW := hide_ hwz0
                  go_upto_region 32 with fail
                  rw [← hwz0]
                  clear hwz0 hs1 hs2 hs3 HRm fr1 k0 k1 k3
                  obtain ⟨yy, hyy⟩ : ∃ yy : Ty, (⟨tk, tn + r, te, ps⟩ : Ty) = yy := ⟨_, rfl⟩
                  obtain ⟨ua, ul, uc, huu⟩ : ∃ ua ul uc, Value.slice va ps.length vc = .slice ua ul uc := ⟨_, _, _, rfl⟩
                  have hk : Blk wz wq.heap.size 43 [.int .i64 yy.k, .int .i64 yy.n, .int .i64 yy.e, .slice ua ul uc] := by
                    rw [HW.out, ← hyy, ← huu]
                    have h := (KY.out.set 1 (.int .i64 (tn + r))).drew
                    simpa using h
                  have hbz : Below wq.heap.size wq wz := by rw [HW.out]; exact (below_set HBY.out _ _ _ (Nat.le_refl _)).drew
                  have HMz := hide_ (HM.out.later hbz)
                  have KZ := hide_ hk
                  have HPt : Hid (PtIn wz w.heap.size yy.ps (.slice ua ul uc) ∧ True) := hide_ ⟨by rw [← hyy, ← huu]; exact HMz.out.ty.2 _ (List.mem_of_getElem? HPK.out), trivial⟩
                  have HYl : Hid (yy.ps.length ≤ 9223372036854775806) := hide_ (by rw [← hyy]; simp only; omega)
                  have HG : Hid ((ext1 (extL (U.take k)) ⟨tk, tn, te, ps⟩).m ≤ (ext1 (extL (U.take k)) yy).m ∧ (ext1 (extL (U.take k)) ⟨tk, tn, te, ps⟩).l ≤ (ext1 (extL (U.take k)) yy).l ∧ ((ext1 (extL (U.take k)) yy).f = true → (ext1 (extL (U.take k)) ⟨tk, tn, te, ps⟩).f = true)) := hide_ (by rw [← hyy]; exact more_n (t := ⟨tk, tn, te, ps⟩) h45 (by simp only; omega))
                  clear hyy huu hk hbz HW hr0 hr1 KY HMy HPy HPty HBY
                  obtain ⟨hPt, hPtu⟩ := HPt.out
                  have HMs := hide_ (HMz.out.set (i := k) (by have := HQL.out; omega) yy (.slice ua ul uc) hPt)
                  have hfr := fun i => HMz.out.ty.fr i
                  have q0 := HMz.out.sch.cell 0
                  have b0 := KZ.out.cell 0; have b1 := KZ.out.cell 1; have b2 := KZ.out.cell 2; have b3 := KZ.out.cell 3
                  simp at q0 b0 b1 b2 b3
                  obtain ⟨s0, s1, s2, s3⟩ := HMz.out.ty.at4 HPK.out
                  obtain ⟨ws, hws⟩ : ∃ wx, wx = (((wz.setCell ⟨gT, k * 4, none⟩ (.int .i64 yy.k)).setCell ⟨gT, k * 4 + 1, none⟩ (.int .i64 yy.n)).setCell ⟨gT, k * 4 + 2, none⟩ (.int .i64 yy.e)).setCell ⟨gT, k * 4 + 3, none⟩ (.slice ua ul uc) := ⟨_, rfl⟩
                  rw [← hws] at HMs
                  have HQs : Hid ((Q.set k (yy, .slice ua ul uc)).map (·.1) = U.set k yy) := hide_ (by rw [map_set1, HQ.out])
                  have hUs : (U.set k yy).length = U.length := by simp
                  have HLs2 : Hid (LensT (U.set k yy)) := hide_ ⟨by rw [hUs]; exact HLs.out.1, fun t ht => by
                    rcases List.mem_or_eq_of_mem_set ht with ht | rfl
                    · exact HLs.out.2 t ht
                    · have := HYl.out; omega⟩
                  have hOf2 := of_any (some ⟨gT, 0, none⟩) cap (U.set k yy) ar cr Rc ws (by omega) (by omega) HLs2 (hide_ (town_row HMs.out.ty HQs.out)) (hide_ (rown_row HMs.out.rt))
                  have hCk2 : ∀ w', Below ws.heap.size ws w' → Calls Try.prog 14 #[.agg #[.slice (some ⟨gT, 0, none⟩) (U.set k yy).length cap, .slice ar Rc.length cr]] w' fun e w'' => e = .returned (.agg #[.int .i64 (chk (U.set k yy) Rc).1, .int .i64 (chk (U.set k yy) Rc).2]) ∧ Below w'.heap.size w' w'' := (fun w' hB => checkR_any (some ⟨gT, 0, none⟩) cap (U.set k yy) ar cr Rc w' (by omega) (by omega) HLs2 (hide_ ((town_row HMs.out.ty HQs.out).later hB)) (hide_ ((rown_row HMs.out.rt).later hB)))
                  rw [hUs] at hOf2 hCk2
                  have HOf2 := hide_ hOf2
                  have HCk2 : Hid (∀ w', Below ws.heap.size ws w' → Calls Try.prog 14 #[.agg #[.slice (some ⟨gT, 0, none⟩) U.length cap, .slice ar Rc.length cr]] w' fun e w'' => e = .returned (.agg #[.int .i64 (chk (U.set k yy) Rc).1, .int .i64 (chk (U.set k yy) Rc).2]) ∧ Below w'.heap.size w' w'') := hide_ hCk2
                  clear hOf2 hCk2 hPt hPtu
                  go_upto_region 33 with fail
                  rw [← hws]
                  clear hws hfr b0 b1 b2 b3 s0 s1 s2 s3 q0
                  have q0 := HMs.out.sch.cell 0; have q1 := HMs.out.sch.cell 1
                  simp at q0 q1
                  go_wp2_with fail
                  refine HOf2.out.mono ?_
                  rintro e w6 (⟨hne, rfl, hB6⟩ | ⟨hS2, vZ, rfl, hX2, hB6⟩)
                  · have HM6 := hide_ (HMs.out.later hB6)
                    have HB6 := hide_ hB6
                    clear q0 q1
                    have q0 := HM6.out.sch.cell 0; have q1 := HM6.out.sch.cell 1
                    simp at q0 q1
                    have hne1 : ((chk (U.set k yy) Rc).1 != 0) = true := by simpa using hne
                    have hff := fldF (.int .i64 (chk (U.set k yy) Rc).1) (.int .i64 (chk (U.set k yy) Rc).2)
                    generalize (chk (U.set k yy) Rc).1 = e1 at *
                    generalize (chk (U.set k yy) Rc).2 = e2 at *
                    clear hB6 hne
                    go_wp2_with (first | (go_at_call 12; refine (num_any _ _).mono ?_; rintro e w' ⟨rfl, rfl⟩) | (go_at_call 14; refine (HCk2.out _ HB6.out).mono ?_; rintro e w7 ⟨rfl, hB7⟩; (have HB7 := hide_ (below_to HM6.out.bel hB7)); (clear hB7)))
                    go_ret
                    exact ⟨rfl, HB7.out⟩
                  · have hZl : (extL (U.set k yy)).length = U.length := by rw [extL_len, hUs]
                    obtain ⟨gz, cz, -, eZ, -, -, -, -, -, -⟩ := ownS_blk hX2 (by omega)
                    subst eZ
                    have hM6 := HMs.out.later hB6
                    obtain ⟨x0, x1, x2, x3⟩ := hM6.ex.at4 (i := k) (by rw [hxl]; exact hkU)
                    obtain ⟨z0, z1, z2, z3⟩ := hX2.at4 (i := k) (by rw [hZl]; exact hkU)
                    rw [set_ext yy hkU] at z0 z1 z2 z3
                    rw [exAt_ext HTK.out] at x0 x1 x2 x3
                    have hG := HG.out
                    generalize ext1 (extL (U.take k)) yy = za at *
                    generalize ext1 (extL (U.take k)) ⟨tk, tn, te, ps⟩ = xa at *
                    obtain ⟨xf, xl, xm, xd⟩ := xa
                    obtain ⟨zf, zl, zm, zd⟩ := za
                    simp only at x0 x1 x2 x3 z0 z1 z2 z3 hG
                    obtain ⟨hg1, hg2, hg3⟩ := hG
                    have d1 : decide (xm ≤ zm) = true := decide_eq_true hg1
                    have d2 : decide (xl ≤ zl) = true := decide_eq_true hg2
                    have HB6 := hide_ hM6.bel
                    rw [hZl]
                    clear hM6 hX2 hB6 hS2 HCk2 HOf2 q0 q1 HG
                    have hkU' : (k : Int) < U.length := by omega
                    cases zf with
                    | true =>
                      have hxf : xf = true := hg3 rfl
                      subst hxf
                      go_wp2_with (go_at_call 12; refine (num_any _ _).mono ?_; rintro e w' ⟨rfl, rfl⟩)
                      go_quiet (fail)
                      go_wp2
                      go_ret
                      exact ⟨rfl, below_drewN HB6.out nq⟩
                    | false =>
                      go_wp2_with (go_at_call 12; refine (num_any _ _).mono ?_; rintro e w' ⟨rfl, rfl⟩)
                      go_quiet (fail)
                      go_wp2
                      go_ret
                      exact ⟨rfl, below_drewN HB6.out nq⟩
              refine AllReadyH.cons rfl (fun K hK => ?_) AllReadyH.nil
              go_simp
              refine hK.out _ _ (trivial) (fun hHeld => ?_)
              clear hK K
              refine wpAnyH_take (i := 5) (v := ?vm8) rfl (by kernel_rfl) (by kernel_rfl) (by kernel_rfl) (fun _ _ _ h => h) (Or.inl ⟨by rfl, ?hym8⟩) hHeld ?restm8
              case hym8 => intro w' hSw; (try dsimp only at hSw); go_simp; try with_reducible rfl
              simp only [Act.put]
              refine wpAnyH_take (i := 6) (v := ?vm9) rfl (by kernel_rfl) (by kernel_rfl) (by kernel_rfl) (fun _ _ _ h => h) (Or.inl ⟨by rfl, ?hym9⟩) hHeld ?restm9
              case hym9 => intro w' hSw; (try dsimp only at hSw); go_simp; try with_reducible rfl
              simp only [Act.put]
              refine wpAnyH_ready (rs := [1, 7]) (by kernel_rfl) (by simp) ?_
              refine AllReadyH.cons rfl (fun K hK => ?_) ?_
              · go_simp
                refine hK.out _ _ (trivial) (fun hHeld => ?_)
                clear hK K
                refine wpAnyH_ready (rs := [7]) (by kernel_rfl) (by simp) ?_
                refine AllReadyH.cons rfl (fun K hK => ?_) AllReadyH.nil
                go_simp
                refine (HRm.out _).mono ?_
                rintro e w' ⟨r, rfl, hr0, hr1, rfl⟩
                have hs3 : IntKind.i64.wrap (tn + r) = tn + r := i64w _ (by omega)
                dsimp only
                refine hK.out _ _ (trivial) (fun hHeld => ?_)
                clear hK K
                refine wpAnyH_take (i := 8) (v := ?vm10) rfl (by kernel_rfl) (by kernel_rfl) (by kernel_rfl) (fun _ _ _ h => h) (Or.inl ⟨by rfl, ?hym10⟩) hHeld ?restm10
                case hym10 => intro w' hSw; (try dsimp only at hSw); go_simp; try with_reducible rfl
                simp only [Act.put]
                refine wpAnyH_take (i := 9) (v := ?vm11) rfl (by kernel_rfl) (by kernel_rfl) (by kernel_rfl) (fun _ _ _ h => h) (Or.inl ⟨by rfl, ?hym11⟩) hHeld ?restm11
                case hym11 => intro w' hSw; (try dsimp only at hSw); go_simp; try with_reducible rfl
                simp only [Act.put]
                refine wpAnyH_ready (rs := [10]) (by kernel_rfl) (by simp) ?_
                refine AllReadyH.cons rfl (fun K hK => ?_) AllReadyH.nil
                go_simp
                refine hK.out _ _ (trivial) (fun hHeld => ?_)
                clear hK K
                refine wpAnyH_done (by kernel_rfl) ?_ _
                as_aux_lemma =>
                  obtain ⟨wz, hwz0⟩ : ∃ wz, wz = (wy.setCell ⟨wq.heap.size, 1, none⟩ (.int .i64 (tn + r))).drew := ⟨_, rfl⟩
                  have HW := hide_ hwz0
                  go_upto_region 32 with fail
                  rw [← hwz0]
                  clear hwz0 hs1 hs2 hs3 HRm fr1 k0 k1 k3
                  obtain ⟨yy, hyy⟩ : ∃ yy : Ty, (⟨tk, tn + r, te, ps⟩ : Ty) = yy := ⟨_, rfl⟩
                  obtain ⟨ua, ul, uc, huu⟩ : ∃ ua ul uc, Value.slice va ps.length vc = .slice ua ul uc := ⟨_, _, _, rfl⟩
                  have hk : Blk wz wq.heap.size 43 [.int .i64 yy.k, .int .i64 yy.n, .int .i64 yy.e, .slice ua ul uc] := by
                    rw [HW.out, ← hyy, ← huu]
                    have h := (KY.out.set 1 (.int .i64 (tn + r))).drew
                    simpa using h
                  have hbz : Below wq.heap.size wq wz := by rw [HW.out]; exact (below_set HBY.out _ _ _ (Nat.le_refl _)).drew
                  have HMz := hide_ (HM.out.later hbz)
                  have KZ := hide_ hk
                  have HPt : Hid (PtIn wz w.heap.size yy.ps (.slice ua ul uc) ∧ True) := hide_ ⟨by rw [← hyy, ← huu]; exact HMz.out.ty.2 _ (List.mem_of_getElem? HPK.out), trivial⟩
                  have HYl : Hid (yy.ps.length ≤ 9223372036854775806) := hide_ (by rw [← hyy]; simp only; omega)
                  have HG : Hid ((ext1 (extL (U.take k)) ⟨tk, tn, te, ps⟩).m ≤ (ext1 (extL (U.take k)) yy).m ∧ (ext1 (extL (U.take k)) ⟨tk, tn, te, ps⟩).l ≤ (ext1 (extL (U.take k)) yy).l ∧ ((ext1 (extL (U.take k)) yy).f = true → (ext1 (extL (U.take k)) ⟨tk, tn, te, ps⟩).f = true)) := hide_ (by rw [← hyy]; exact more_n (t := ⟨tk, tn, te, ps⟩) h45 (by simp only; omega))
                  clear hyy huu hk hbz HW hr0 hr1 KY HMy HPy HPty HBY
                  obtain ⟨hPt, hPtu⟩ := HPt.out
                  have HMs := hide_ (HMz.out.set (i := k) (by have := HQL.out; omega) yy (.slice ua ul uc) hPt)
                  have hfr := fun i => HMz.out.ty.fr i
                  have q0 := HMz.out.sch.cell 0
                  have b0 := KZ.out.cell 0; have b1 := KZ.out.cell 1; have b2 := KZ.out.cell 2; have b3 := KZ.out.cell 3
                  simp at q0 b0 b1 b2 b3
                  obtain ⟨s0, s1, s2, s3⟩ := HMz.out.ty.at4 HPK.out
                  obtain ⟨ws, hws⟩ : ∃ wx, wx = (((wz.setCell ⟨gT, k * 4, none⟩ (.int .i64 yy.k)).setCell ⟨gT, k * 4 + 1, none⟩ (.int .i64 yy.n)).setCell ⟨gT, k * 4 + 2, none⟩ (.int .i64 yy.e)).setCell ⟨gT, k * 4 + 3, none⟩ (.slice ua ul uc) := ⟨_, rfl⟩
                  rw [← hws] at HMs
                  have HQs : Hid ((Q.set k (yy, .slice ua ul uc)).map (·.1) = U.set k yy) := hide_ (by rw [map_set1, HQ.out])
                  have hUs : (U.set k yy).length = U.length := by simp
                  have HLs2 : Hid (LensT (U.set k yy)) := hide_ ⟨by rw [hUs]; exact HLs.out.1, fun t ht => by
                    rcases List.mem_or_eq_of_mem_set ht with ht | rfl
                    · exact HLs.out.2 t ht
                    · have := HYl.out; omega⟩
                  have hOf2 := of_any (some ⟨gT, 0, none⟩) cap (U.set k yy) ar cr Rc ws (by omega) (by omega) HLs2 (hide_ (town_row HMs.out.ty HQs.out)) (hide_ (rown_row HMs.out.rt))
                  have hCk2 : ∀ w', Below ws.heap.size ws w' → Calls Try.prog 14 #[.agg #[.slice (some ⟨gT, 0, none⟩) (U.set k yy).length cap, .slice ar Rc.length cr]] w' fun e w'' => e = .returned (.agg #[.int .i64 (chk (U.set k yy) Rc).1, .int .i64 (chk (U.set k yy) Rc).2]) ∧ Below w'.heap.size w' w'' := (fun w' hB => checkR_any (some ⟨gT, 0, none⟩) cap (U.set k yy) ar cr Rc w' (by omega) (by omega) HLs2 (hide_ ((town_row HMs.out.ty HQs.out).later hB)) (hide_ ((rown_row HMs.out.rt).later hB)))
                  rw [hUs] at hOf2 hCk2
                  have HOf2 := hide_ hOf2
                  have HCk2 : Hid (∀ w', Below ws.heap.size ws w' → Calls Try.prog 14 #[.agg #[.slice (some ⟨gT, 0, none⟩) U.length cap, .slice ar Rc.length cr]] w' fun e w'' => e = .returned (.agg #[.int .i64 (chk (U.set k yy) Rc).1, .int .i64 (chk (U.set k yy) Rc).2]) ∧ Below w'.heap.size w' w'') := hide_ hCk2
                  clear hOf2 hCk2 hPt hPtu
                  go_upto_region 33 with fail
                  rw [← hws]
                  clear hws hfr b0 b1 b2 b3 s0 s1 s2 s3 q0
                  have q0 := HMs.out.sch.cell 0; have q1 := HMs.out.sch.cell 1
                  simp at q0 q1
                  go_wp2_with fail
                  refine HOf2.out.mono ?_
                  rintro e w6 (⟨hne, rfl, hB6⟩ | ⟨hS2, vZ, rfl, hX2, hB6⟩)
                  · have HM6 := hide_ (HMs.out.later hB6)
                    have HB6 := hide_ hB6
                    clear q0 q1
                    have q0 := HM6.out.sch.cell 0; have q1 := HM6.out.sch.cell 1
                    simp at q0 q1
                    have hne1 : ((chk (U.set k yy) Rc).1 != 0) = true := by simpa using hne
                    have hff := fldF (.int .i64 (chk (U.set k yy) Rc).1) (.int .i64 (chk (U.set k yy) Rc).2)
                    generalize (chk (U.set k yy) Rc).1 = e1 at *
                    generalize (chk (U.set k yy) Rc).2 = e2 at *
                    clear hB6 hne
                    go_wp2_with (first | (go_at_call 12; refine (num_any _ _).mono ?_; rintro e w' ⟨rfl, rfl⟩) | (go_at_call 14; refine (HCk2.out _ HB6.out).mono ?_; rintro e w7 ⟨rfl, hB7⟩; (have HB7 := hide_ (below_to HM6.out.bel hB7)); (clear hB7)))
                    go_ret
                    exact ⟨rfl, HB7.out⟩
                  · have hZl : (extL (U.set k yy)).length = U.length := by rw [extL_len, hUs]
                    obtain ⟨gz, cz, -, eZ, -, -, -, -, -, -⟩ := ownS_blk hX2 (by omega)
                    subst eZ
                    have hM6 := HMs.out.later hB6
                    obtain ⟨x0, x1, x2, x3⟩ := hM6.ex.at4 (i := k) (by rw [hxl]; exact hkU)
                    obtain ⟨z0, z1, z2, z3⟩ := hX2.at4 (i := k) (by rw [hZl]; exact hkU)
                    rw [set_ext yy hkU] at z0 z1 z2 z3
                    rw [exAt_ext HTK.out] at x0 x1 x2 x3
                    have hG := HG.out
                    generalize ext1 (extL (U.take k)) yy = za at *
                    generalize ext1 (extL (U.take k)) ⟨tk, tn, te, ps⟩ = xa at *
                    obtain ⟨xf, xl, xm, xd⟩ := xa
                    obtain ⟨zf, zl, zm, zd⟩ := za
                    simp only at x0 x1 x2 x3 z0 z1 z2 z3 hG
                    obtain ⟨hg1, hg2, hg3⟩ := hG
                    have d1 : decide (xm ≤ zm) = true := decide_eq_true hg1
                    have d2 : decide (xl ≤ zl) = true := decide_eq_true hg2
                    have HB6 := hide_ hM6.bel
                    rw [hZl]
                    clear hM6 hX2 hB6 hS2 HCk2 HOf2 q0 q1 HG
                    have hkU' : (k : Int) < U.length := by omega
                    cases zf with
                    | true =>
                      have hxf : xf = true := hg3 rfl
                      subst hxf
                      go_wp2_with (go_at_call 12; refine (num_any _ _).mono ?_; rintro e w' ⟨rfl, rfl⟩)
                      go_quiet (fail)
                      go_wp2
                      go_ret
                      exact ⟨rfl, below_drewN HB6.out nq⟩
                    | false =>
                      go_wp2_with (go_at_call 12; refine (num_any _ _).mono ?_; rintro e w' ⟨rfl, rfl⟩)
                      go_quiet (fail)
                      go_wp2
                      go_ret
                      exact ⟨rfl, below_drewN HB6.out nq⟩
              refine AllReadyH.cons rfl (fun K hK => ?_) AllReadyH.nil
              go_simp
              refine (HRm.out _).mono ?_
              rintro e w' ⟨r, rfl, hr0, hr1, rfl⟩
              have hs3 : IntKind.i64.wrap (tn + r) = tn + r := i64w _ (by omega)
              dsimp only
              refine hK.out _ _ (trivial) (fun hHeld => ?_)
              clear hK K
              refine wpAnyH_ready (rs := [1]) (by kernel_rfl) (by simp) ?_
              refine AllReadyH.cons rfl (fun K hK => ?_) AllReadyH.nil
              go_simp
              refine hK.out _ _ (trivial) (fun hHeld => ?_)
              clear hK K
              refine wpAnyH_take (i := 8) (v := ?vm12) rfl (by kernel_rfl) (by kernel_rfl) (by kernel_rfl) (fun _ _ _ h => h) (Or.inl ⟨by rfl, ?hym12⟩) hHeld ?restm12
              case hym12 => intro w' hSw; (try dsimp only at hSw); go_simp; try with_reducible rfl
              simp only [Act.put]
              refine wpAnyH_take (i := 9) (v := ?vm13) rfl (by kernel_rfl) (by kernel_rfl) (by kernel_rfl) (fun _ _ _ h => h) (Or.inl ⟨by rfl, ?hym13⟩) hHeld ?restm13
              case hym13 => intro w' hSw; (try dsimp only at hSw); go_simp; try with_reducible rfl
              simp only [Act.put]
              refine wpAnyH_ready (rs := [10]) (by kernel_rfl) (by simp) ?_
              refine AllReadyH.cons rfl (fun K hK => ?_) AllReadyH.nil
              go_simp
              refine hK.out _ _ (trivial) (fun hHeld => ?_)
              clear hK K
              refine wpAnyH_done (by kernel_rfl) ?_ _
              as_aux_lemma =>
                obtain ⟨wz, hwz0⟩ : ∃ wz, wz = (wy.setCell ⟨wq.heap.size, 1, none⟩ (.int .i64 (tn + r))).drew := ⟨_, rfl⟩
                have HW := hide_ hwz0
                go_upto_region 32 with fail
                rw [← hwz0]
                clear hwz0 hs1 hs2 hs3 HRm fr1 k0 k1 k3
                obtain ⟨yy, hyy⟩ : ∃ yy : Ty, (⟨tk, tn + r, te, ps⟩ : Ty) = yy := ⟨_, rfl⟩
                obtain ⟨ua, ul, uc, huu⟩ : ∃ ua ul uc, Value.slice va ps.length vc = .slice ua ul uc := ⟨_, _, _, rfl⟩
                have hk : Blk wz wq.heap.size 43 [.int .i64 yy.k, .int .i64 yy.n, .int .i64 yy.e, .slice ua ul uc] := by
                  rw [HW.out, ← hyy, ← huu]
                  have h := (KY.out.set 1 (.int .i64 (tn + r))).drew
                  simpa using h
                have hbz : Below wq.heap.size wq wz := by rw [HW.out]; exact (below_set HBY.out _ _ _ (Nat.le_refl _)).drew
                have HMz := hide_ (HM.out.later hbz)
                have KZ := hide_ hk
                have HPt : Hid (PtIn wz w.heap.size yy.ps (.slice ua ul uc) ∧ True) := hide_ ⟨by rw [← hyy, ← huu]; exact HMz.out.ty.2 _ (List.mem_of_getElem? HPK.out), trivial⟩
                have HYl : Hid (yy.ps.length ≤ 9223372036854775806) := hide_ (by rw [← hyy]; simp only; omega)
                have HG : Hid ((ext1 (extL (U.take k)) ⟨tk, tn, te, ps⟩).m ≤ (ext1 (extL (U.take k)) yy).m ∧ (ext1 (extL (U.take k)) ⟨tk, tn, te, ps⟩).l ≤ (ext1 (extL (U.take k)) yy).l ∧ ((ext1 (extL (U.take k)) yy).f = true → (ext1 (extL (U.take k)) ⟨tk, tn, te, ps⟩).f = true)) := hide_ (by rw [← hyy]; exact more_n (t := ⟨tk, tn, te, ps⟩) h45 (by simp only; omega))
                clear hyy huu hk hbz HW hr0 hr1 KY HMy HPy HPty HBY
                obtain ⟨hPt, hPtu⟩ := HPt.out
                have HMs := hide_ (HMz.out.set (i := k) (by have := HQL.out; omega) yy (.slice ua ul uc) hPt)
                have hfr := fun i => HMz.out.ty.fr i
                have q0 := HMz.out.sch.cell 0
                have b0 := KZ.out.cell 0; have b1 := KZ.out.cell 1; have b2 := KZ.out.cell 2; have b3 := KZ.out.cell 3
                simp at q0 b0 b1 b2 b3
                obtain ⟨s0, s1, s2, s3⟩ := HMz.out.ty.at4 HPK.out
                obtain ⟨ws, hws⟩ : ∃ wx, wx = (((wz.setCell ⟨gT, k * 4, none⟩ (.int .i64 yy.k)).setCell ⟨gT, k * 4 + 1, none⟩ (.int .i64 yy.n)).setCell ⟨gT, k * 4 + 2, none⟩ (.int .i64 yy.e)).setCell ⟨gT, k * 4 + 3, none⟩ (.slice ua ul uc) := ⟨_, rfl⟩
                rw [← hws] at HMs
                have HQs : Hid ((Q.set k (yy, .slice ua ul uc)).map (·.1) = U.set k yy) := hide_ (by rw [map_set1, HQ.out])
                have hUs : (U.set k yy).length = U.length := by simp
                have HLs2 : Hid (LensT (U.set k yy)) := hide_ ⟨by rw [hUs]; exact HLs.out.1, fun t ht => by
                  rcases List.mem_or_eq_of_mem_set ht with ht | rfl
                  · exact HLs.out.2 t ht
                  · have := HYl.out; omega⟩
                have hOf2 := of_any (some ⟨gT, 0, none⟩) cap (U.set k yy) ar cr Rc ws (by omega) (by omega) HLs2 (hide_ (town_row HMs.out.ty HQs.out)) (hide_ (rown_row HMs.out.rt))
                have hCk2 : ∀ w', Below ws.heap.size ws w' → Calls Try.prog 14 #[.agg #[.slice (some ⟨gT, 0, none⟩) (U.set k yy).length cap, .slice ar Rc.length cr]] w' fun e w'' => e = .returned (.agg #[.int .i64 (chk (U.set k yy) Rc).1, .int .i64 (chk (U.set k yy) Rc).2]) ∧ Below w'.heap.size w' w'' := (fun w' hB => checkR_any (some ⟨gT, 0, none⟩) cap (U.set k yy) ar cr Rc w' (by omega) (by omega) HLs2 (hide_ ((town_row HMs.out.ty HQs.out).later hB)) (hide_ ((rown_row HMs.out.rt).later hB)))
                rw [hUs] at hOf2 hCk2
                have HOf2 := hide_ hOf2
                have HCk2 : Hid (∀ w', Below ws.heap.size ws w' → Calls Try.prog 14 #[.agg #[.slice (some ⟨gT, 0, none⟩) U.length cap, .slice ar Rc.length cr]] w' fun e w'' => e = .returned (.agg #[.int .i64 (chk (U.set k yy) Rc).1, .int .i64 (chk (U.set k yy) Rc).2]) ∧ Below w'.heap.size w' w'') := hide_ hCk2
                clear hOf2 hCk2 hPt hPtu
                go_upto_region 33 with fail
                rw [← hws]
                clear hws hfr b0 b1 b2 b3 s0 s1 s2 s3 q0
                have q0 := HMs.out.sch.cell 0; have q1 := HMs.out.sch.cell 1
                simp at q0 q1
                go_wp2_with fail
                refine HOf2.out.mono ?_
                rintro e w6 (⟨hne, rfl, hB6⟩ | ⟨hS2, vZ, rfl, hX2, hB6⟩)
                · have HM6 := hide_ (HMs.out.later hB6)
                  have HB6 := hide_ hB6
                  clear q0 q1
                  have q0 := HM6.out.sch.cell 0; have q1 := HM6.out.sch.cell 1
                  simp at q0 q1
                  have hne1 : ((chk (U.set k yy) Rc).1 != 0) = true := by simpa using hne
                  have hff := fldF (.int .i64 (chk (U.set k yy) Rc).1) (.int .i64 (chk (U.set k yy) Rc).2)
                  generalize (chk (U.set k yy) Rc).1 = e1 at *
                  generalize (chk (U.set k yy) Rc).2 = e2 at *
                  clear hB6 hne
                  go_wp2_with (first | (go_at_call 12; refine (num_any _ _).mono ?_; rintro e w' ⟨rfl, rfl⟩) | (go_at_call 14; refine (HCk2.out _ HB6.out).mono ?_; rintro e w7 ⟨rfl, hB7⟩; (have HB7 := hide_ (below_to HM6.out.bel hB7)); (clear hB7)))
                  go_ret
                  exact ⟨rfl, HB7.out⟩
                · have hZl : (extL (U.set k yy)).length = U.length := by rw [extL_len, hUs]
                  obtain ⟨gz, cz, -, eZ, -, -, -, -, -, -⟩ := ownS_blk hX2 (by omega)
                  subst eZ
                  have hM6 := HMs.out.later hB6
                  obtain ⟨x0, x1, x2, x3⟩ := hM6.ex.at4 (i := k) (by rw [hxl]; exact hkU)
                  obtain ⟨z0, z1, z2, z3⟩ := hX2.at4 (i := k) (by rw [hZl]; exact hkU)
                  rw [set_ext yy hkU] at z0 z1 z2 z3
                  rw [exAt_ext HTK.out] at x0 x1 x2 x3
                  have hG := HG.out
                  generalize ext1 (extL (U.take k)) yy = za at *
                  generalize ext1 (extL (U.take k)) ⟨tk, tn, te, ps⟩ = xa at *
                  obtain ⟨xf, xl, xm, xd⟩ := xa
                  obtain ⟨zf, zl, zm, zd⟩ := za
                  simp only at x0 x1 x2 x3 z0 z1 z2 z3 hG
                  obtain ⟨hg1, hg2, hg3⟩ := hG
                  have d1 : decide (xm ≤ zm) = true := decide_eq_true hg1
                  have d2 : decide (xl ≤ zl) = true := decide_eq_true hg2
                  have HB6 := hide_ hM6.bel
                  rw [hZl]
                  clear hM6 hX2 hB6 hS2 HCk2 HOf2 q0 q1 HG
                  have hkU' : (k : Int) < U.length := by omega
                  cases zf with
                  | true =>
                    have hxf : xf = true := hg3 rfl
                    subst hxf
                    go_wp2_with (go_at_call 12; refine (num_any _ _).mono ?_; rintro e w' ⟨rfl, rfl⟩)
                    go_quiet (fail)
                    go_wp2
                    go_ret
                    exact ⟨rfl, below_drewN HB6.out nq⟩
                  | false =>
                    go_wp2_with (go_at_call 12; refine (num_any _ _).mono ?_; rintro e w' ⟨rfl, rfl⟩)
                    go_quiet (fail)
                    go_wp2
                    go_ret
                    exact ⟨rfl, below_drewN HB6.out nq⟩
          · have c4 : (tk == 4) = false := by simp; omega
            have c5 : (tk == 5) = false := by simp; omega
            by_cases h8 : tk = 8
            · have c8 : (tk == 8) = true := by simp [h8]
              by_cases h64 : 64 ≤ ps.length ∨ k = 0
              · by_cases h64' : 64 ≤ ps.length
                · have h64i : (64 : Int) ≤ ps.length := by omega
                  have h64d : decide ((64 : Int) ≤ ps.length) = true := decide_eq_true h64i
                  go_wp2
                  go_ret
                  exact ⟨rfl, HMy.out.bel⟩
                · have h64d : decide ((64 : Int) ≤ ps.length) = false := decide_eq_false (by omega)
                  have hk0 : ((k : Int) == 0) = true := by simp; omega
                  go_wp2
                  go_ret
                  exact ⟨rfl, HMy.out.bel⟩
              · have h64d : decide ((64 : Int) ≤ ps.length) = false := decide_eq_false (by omega)
                have hk0 : ((k : Int) == 0) = false := by simp; omega
                have hpos := tyOk_pos HOKt.out (.inr h8)
                simp only at hpos
                obtain ⟨v1, w1, hrun1, hP1, hB1⟩ := copyP wy va vc ps HPy.out hvn (by omega)
                obtain ⟨g1, c1, -, e1, -, -, -, -, -, -⟩ := ownS_blk hP1 hpos
                subst e1
                have HR1 := hide_ hrun1
                have HP1 := hide_ hP1
                have HB1 := hide_ hB1
                have KY1 := hide_ (KY.out.later hB1)
                clear hrun1 hP1 hB1
                have HRm := hide_ (fun w' => rest_any mo (k : Int) w' (by omega) (by omega))
                go_upto_region 31 with fail
                go_wp2_with (first | (at_builtin; refine wpList_append_run rfl (.const (.slice none 0 0)) (.tmp 177) 41 41 rfl rfl rfl HR1.out ?_; clear HR1))
                refine (HRm.out _).mono ?_
                rintro e w' ⟨r, rfl, hr0, hr1, rfl⟩
                obtain ⟨g2, c2, w2, hrun2, hP2, hB2⟩ := HP1.out.push ⟨⟨#[122, 122, 122, 122, 95, 109, 111, 114, 101]⟩, 0, r⟩ (by omega) HB1.out.size
                have HR2 := hide_ hrun2
                have hb2 : Below wy.heap.size wy w2 := HB1.out.trans hB2
                have K2 := KY.out.later hb2
                have f3 := K2.frozen 3
                have m3 := K2.cell 3
                simp at m3
                obtain ⟨wz, hwz⟩ : ∃ wx, wx = w2.setCell ⟨wq.heap.size, 3, none⟩ (.slice (some ⟨g2, 0, none⟩) (ps.length + 1) c2) := ⟨_, rfl⟩
                have kz := K2.set 3 (.slice (some ⟨g2, 0, none⟩) (ps.length + 1) c2)
                simp only [List.set_cons_succ, List.set_cons_zero] at kz
                have hbz : Below wq.heap.size wq wz := by rw [hwz]; exact below_set (below_to HBY.out hb2) _ _ _ (Nat.le_refl _)
                have hp2 : POwn wz wy.heap.size (.slice (some ⟨g2, 0, none⟩) (ps.length + 1) c2) (ps ++ [⟨⟨#[122, 122, 122, 122, 95, 109, 111, 114, 101]⟩, 0, r⟩]) := by
                  rw [hwz]
                  refine ownS_upd hP2 ((Upd.refl (fun k => k = wq.heap.size) w2).set ⟨wq.heap.size, 3, none⟩ (.slice (some ⟨g2, 0, none⟩) (ps.length + 1) c2) (.inl rfl)) (fun k hk e => ?_)
                  have := (World.ownsRow.lt hP2 k hk).1
                  have hlt := KY.out.lt
                  omega
                rw [← hwz] at kz
                have HMz := hide_ (HM.out.later hbz)
                obtain ⟨yy, hyy⟩ : ∃ yy : Ty, (⟨tk, tn, te, ps ++ [⟨⟨#[122, 122, 122, 122, 95, 109, 111, 114, 101]⟩, 0, r⟩]⟩ : Ty) = yy := ⟨_, rfl⟩
                obtain ⟨ua, ul, uc, huu⟩ : ∃ ua ul uc, Value.slice (some ⟨g2, 0, none⟩) (ps.length + 1) c2 = .slice ua ul uc := ⟨_, _, _, rfl⟩
                have KZ : Hid (Blk wz wq.heap.size 43 [.int .i64 yy.k, .int .i64 yy.n, .int .i64 yy.e, .slice ua ul uc]) := hide_ (by rw [← hyy, ← huu]; exact kz)
                have HPt : Hid (PtIn wz w.heap.size yy.ps (.slice ua ul uc) ∧ True) := hide_ ⟨by rw [← hyy, ← huu]; exact hp2.ptIn, trivial⟩
                have HYl : Hid (yy.ps.length ≤ 9223372036854775806) := hide_ (by rw [← hyy]; simp; omega)
                have HG : Hid ((ext1 (extL (U.take k)) ⟨tk, tn, te, ps⟩).m ≤ (ext1 (extL (U.take k)) yy).m ∧ (ext1 (extL (U.take k)) ⟨tk, tn, te, ps⟩).l ≤ (ext1 (extL (U.take k)) yy).l ∧ ((ext1 (extL (U.take k)) yy).f = true → (ext1 (extL (U.take k)) ⟨tk, tn, te, ps⟩).f = true)) := hide_ (by rw [← hyy]; exact more_p (t := ⟨tk, tn, te, ps⟩) (fun x hx => (extL_ok HS.out k (by omega) x hx).1) h8)
                clear hyy huu kz hbz hp2 hrun2 hP2 hB2 hb2 K2 hr0 hr1 KY KY1 HMy HPy HPty HBY HP1 HB1 HRm
                go_upto_region 32 with (first | (at_builtin; refine wpList_append_run rfl (.tmp 178) (.tmp 183) 41 41 rfl rfl rfl HR2.out ?_; clear HR2))
                rw [← hwz]
                clear hwz f3 m3
                obtain ⟨hPt, hPtu⟩ := HPt.out
                have HMs := hide_ (HMz.out.set (i := k) (by have := HQL.out; omega) yy (.slice ua ul uc) hPt)
                have hfr := fun i => HMz.out.ty.fr i
                have q0 := HMz.out.sch.cell 0
                have b0 := KZ.out.cell 0; have b1 := KZ.out.cell 1; have b2 := KZ.out.cell 2; have b3 := KZ.out.cell 3
                simp at q0 b0 b1 b2 b3
                obtain ⟨s0, s1, s2, s3⟩ := HMz.out.ty.at4 HPK.out
                obtain ⟨ws, hws⟩ : ∃ wx, wx = (((wz.setCell ⟨gT, k * 4, none⟩ (.int .i64 yy.k)).setCell ⟨gT, k * 4 + 1, none⟩ (.int .i64 yy.n)).setCell ⟨gT, k * 4 + 2, none⟩ (.int .i64 yy.e)).setCell ⟨gT, k * 4 + 3, none⟩ (.slice ua ul uc) := ⟨_, rfl⟩
                rw [← hws] at HMs
                have HQs : Hid ((Q.set k (yy, .slice ua ul uc)).map (·.1) = U.set k yy) := hide_ (by rw [map_set1, HQ.out])
                have hUs : (U.set k yy).length = U.length := by simp
                have HLs2 : Hid (LensT (U.set k yy)) := hide_ ⟨by rw [hUs]; exact HLs.out.1, fun t ht => by
                  rcases List.mem_or_eq_of_mem_set ht with ht | rfl
                  · exact HLs.out.2 t ht
                  · have := HYl.out; omega⟩
                have hOf2 := of_any (some ⟨gT, 0, none⟩) cap (U.set k yy) ar cr Rc ws (by omega) (by omega) HLs2 (hide_ (town_row HMs.out.ty HQs.out)) (hide_ (rown_row HMs.out.rt))
                have hCk2 : ∀ w', Below ws.heap.size ws w' → Calls Try.prog 14 #[.agg #[.slice (some ⟨gT, 0, none⟩) (U.set k yy).length cap, .slice ar Rc.length cr]] w' fun e w'' => e = .returned (.agg #[.int .i64 (chk (U.set k yy) Rc).1, .int .i64 (chk (U.set k yy) Rc).2]) ∧ Below w'.heap.size w' w'' := (fun w' hB => checkR_any (some ⟨gT, 0, none⟩) cap (U.set k yy) ar cr Rc w' (by omega) (by omega) HLs2 (hide_ ((town_row HMs.out.ty HQs.out).later hB)) (hide_ ((rown_row HMs.out.rt).later hB)))
                rw [hUs] at hOf2 hCk2
                have HOf2 := hide_ hOf2
                have HCk2 : Hid (∀ w', Below ws.heap.size ws w' → Calls Try.prog 14 #[.agg #[.slice (some ⟨gT, 0, none⟩) U.length cap, .slice ar Rc.length cr]] w' fun e w'' => e = .returned (.agg #[.int .i64 (chk (U.set k yy) Rc).1, .int .i64 (chk (U.set k yy) Rc).2]) ∧ Below w'.heap.size w' w'') := hide_ hCk2
                clear hOf2 hCk2 hPt hPtu
                go_upto_region 33 with fail
                rw [← hws]
                clear hws hfr b0 b1 b2 b3 s0 s1 s2 s3 q0
                have q0 := HMs.out.sch.cell 0; have q1 := HMs.out.sch.cell 1
                simp at q0 q1
                go_wp2_with fail
                refine HOf2.out.mono ?_
                rintro e w6 (⟨hne, rfl, hB6⟩ | ⟨hS2, vZ, rfl, hX2, hB6⟩)
                · have HM6 := hide_ (HMs.out.later hB6)
                  have HB6 := hide_ hB6
                  clear q0 q1
                  have q0 := HM6.out.sch.cell 0; have q1 := HM6.out.sch.cell 1
                  simp at q0 q1
                  have hne1 : ((chk (U.set k yy) Rc).1 != 0) = true := by simpa using hne
                  have hff := fldF (.int .i64 (chk (U.set k yy) Rc).1) (.int .i64 (chk (U.set k yy) Rc).2)
                  generalize (chk (U.set k yy) Rc).1 = e1 at *
                  generalize (chk (U.set k yy) Rc).2 = e2 at *
                  clear hB6 hne
                  go_wp2_with (first | (go_at_call 12; refine (num_any _ _).mono ?_; rintro e w' ⟨rfl, rfl⟩) | (go_at_call 14; refine (HCk2.out _ HB6.out).mono ?_; rintro e w7 ⟨rfl, hB7⟩; (have HB7 := hide_ (below_to HM6.out.bel hB7)); (clear hB7)))
                  go_ret
                  exact ⟨rfl, HB7.out⟩
                · have hZl : (extL (U.set k yy)).length = U.length := by rw [extL_len, hUs]
                  obtain ⟨gz, cz, -, eZ, -, -, -, -, -, -⟩ := ownS_blk hX2 (by omega)
                  subst eZ
                  have hM6 := HMs.out.later hB6
                  obtain ⟨x0, x1, x2, x3⟩ := hM6.ex.at4 (i := k) (by rw [hxl]; exact hkU)
                  obtain ⟨z0, z1, z2, z3⟩ := hX2.at4 (i := k) (by rw [hZl]; exact hkU)
                  rw [set_ext yy hkU] at z0 z1 z2 z3
                  rw [exAt_ext HTK.out] at x0 x1 x2 x3
                  have hG := HG.out
                  generalize ext1 (extL (U.take k)) yy = za at *
                  generalize ext1 (extL (U.take k)) ⟨tk, tn, te, ps⟩ = xa at *
                  obtain ⟨xf, xl, xm, xd⟩ := xa
                  obtain ⟨zf, zl, zm, zd⟩ := za
                  simp only at x0 x1 x2 x3 z0 z1 z2 z3 hG
                  obtain ⟨hg1, hg2, hg3⟩ := hG
                  have d1 : decide (xm ≤ zm) = true := decide_eq_true hg1
                  have d2 : decide (xl ≤ zl) = true := decide_eq_true hg2
                  have HB6 := hide_ hM6.bel
                  rw [hZl]
                  clear hM6 hX2 hB6 hS2 HCk2 HOf2 q0 q1 HG
                  have hkU' : (k : Int) < U.length := by omega
                  cases zf with
                  | true =>
                    have hxf : xf = true := hg3 rfl
                    subst hxf
                    go_wp2_with (go_at_call 12; refine (num_any _ _).mono ?_; rintro e w' ⟨rfl, rfl⟩)
                    go_quiet (fail)
                    go_wp2
                    go_ret
                    exact ⟨rfl, below_drewN HB6.out nq⟩
                  | false =>
                    go_wp2_with (go_at_call 12; refine (num_any _ _).mono ?_; rintro e w' ⟨rfl, rfl⟩)
                    go_quiet (fail)
                    go_wp2
                    go_ret
                    exact ⟨rfl, below_drewN HB6.out nq⟩
            · have c8 : (tk == 8) = false := by simpa using h8
              go_wp2
              go_ret
              exact ⟨rfl, HMy.out.bel⟩
end Go.Proofs.Ytpkghpfdibnhcaa
