import Derived.Test.YtpkghpfdibnhcaaZto
import Derived.BigQuiet
import Derived.Test.YtpkghpfdibnhcaaJxb
import Derived.Test.YtpkghpfdibnhcaaJxa
import Derived.Test.YtpkghpfdibnhcaaZx
import Derived.Test.YtpkghpfdibnhcaaOp
import Derived.Test.YtpkghpfdibnhcaaZrs
import Derived.SizedLaws
import Derived.WalkKit
import Derived.ProofKit
import Derived.Below
import Derived.OpenShut
import Derived.ShutString
/- The document's Same, of two schemas that are alike. -/
namespace Go.Proofs.Ytpkghpfdibnhcaa
open Go.RowKit
set_option linter.unusedVariables false

set_option maxRecDepth 100000 in
set_option maxHeartbeats 8000000 in
theorem same_yes (a1 : Option Addr) (c1 : Nat) (r1 : Option Addr) (d1 : Nat) (a2 : Option Addr) (c2 : Nat) (r2 : Option Addr) (d2 : Nat) (T : List Ty) (R : List Rt) (w : World) (hn : T.length ≤ 9223372036854775806) (hm : R.length ≤ 9223372036854775806) (hL : Hid (LensT T)) (hT1 : Hid (TRow w a1 T)) (hR1 : Hid (RRow w r1 R)) (hT2 : Hid (TRow w a2 T)) (hR2 : Hid (RRow w r2 R)) :
    Calls Try.prog 42 #[.agg #[.slice a1 T.length c1, .slice r1 R.length d1], .agg #[.slice a2 T.length c2, .slice r2 R.length d2]] w fun e w' => e = .returned (.bool true) ∧ Below w.heap.size w w' := by
  have hB := below2 w (.cells #[.slice a1 T.length c1, .slice r1 R.length d1] 31) (.cells #[.slice a2 T.length c2, .slice r2 R.length d2] 31)
  obtain ⟨k1, k2⟩ := blk2 w #[.slice a1 T.length c1, .slice r1 R.length d1] #[.slice a2 T.length c2, .slice r2 R.length d2] 31 31
  obtain ⟨w0, hw0⟩ : ∃ wx, wx = (w.alloc (.cells #[.slice a1 T.length c1, .slice r1 R.length d1] 31)).alloc (.cells #[.slice a2 T.length c2, .slice r2 R.length d2] 31) := ⟨_, rfl⟩
  rw [← hw0] at hB k1 k2
  have HB0 := hide_ hB
  have K1 := hide_ k1
  have K2 := hide_ k2
  have i0 := k1.cell 0; have i1 := k1.cell 1; have j0 := k2.cell 0; have j1 := k2.cell 1
  simp at i0 i1 j0 j1
  clear hB k1 k2
  go_enter Try.func42, Try.ntmps42
  go_upto_region 1 with fail
  rw [← hw0]
  clear hw0
  go_wp2_with fail
  go_loopw [5] (fun x5 wr => ∃ (i : Nat), i ≤ T.length ∧ x5 = .int .i64 (i : Int) ∧ Hid (Below w0.heap.size w0 wr)) (fun x5 _ => T.length - (intOf x5).toNat)
  case atStart => exact ⟨0, Nat.zero_le _, rfl, hide_ (Below.refl _ _)⟩
  case round =>
    obtain ⟨i, hi, rfl, HB⟩ := hrel
    generalize wr = wq at *
    clear i0 i1 j0 j1
    have i0 := (K1.out.later HB.out).cell 0; have i1 := (K1.out.later HB.out).cell 1; have j0 := (K2.out.later HB.out).cell 0; have j1 := (K2.out.later HB.out).cell 1
    simp at i0 i1 j0 j1
    by_cases hlt : i < T.length
    · have hlt' : (i : Int) < T.length := by omega
      have hx : T[i]? = some (T[i]'hlt) := List.getElem?_eq_getElem hlt
      have hB' := below_to HB0.out HB.out
      obtain ⟨b1, o1, rfl, hb1, h1⟩ := (hT1.out.later hB').open (by omega)
      obtain ⟨b2, o2, rfl, hb2, h2⟩ := (hT2.out.later hB').open (by omega)
      obtain ⟨va, vc, hc1, hv1, -, hP1⟩ := h1 i _ hx
      obtain ⟨ua, uc, hc2, hv2, -, hP2⟩ := h2 i _ hx
      have hpl := hL.out.at hx
      generalize T[i]'hlt = t at *
      obtain ⟨k, n, el, ps⟩ := t
      simp only at hv1 hv2 hP1 hP2 hpl
      have p0 := hc1 0 (by decide); have p1 := hc1 1 (by decide); have p2 := hc1 2 (by decide); have p3 := hc1 3 (by decide)
      have q0 := hc2 0 (by decide); have q1 := hc2 1 (by decide); have q2 := hc2 2 (by decide); have q3 := hc2 3 (by decide)
      simp [tyc] at p0 p1 p2 p3 q0 q1 q2 q3
      obtain ⟨wa, hwa⟩ : ∃ wx, wx = wq.alloc (.cells #[.int .i64 k, .int .i64 n, .int .i64 el, .slice va ps.length vc] 43) := ⟨_, rfl⟩
      have ba : Below wq.heap.size wq wa := by rw [hwa]; exact below1 _ _
      have ka : Blk wa wq.heap.size 43 [.int .i64 k, .int .i64 n, .int .i64 el, .slice va ps.length vc] := by rw [hwa]; exact Blk.newA wq _ _
      obtain ⟨wb, hwb⟩ : ∃ wx, wx = wa.alloc (.cells #[.int .i64 k, .int .i64 n, .int .i64 el, .slice ua ps.length uc] 43) := ⟨_, rfl⟩
      have bb : Below wa.heap.size wa wb := by rw [hwb]; exact below1 _ _
      have kb : Blk wb wa.heap.size 43 [.int .i64 k, .int .i64 n, .int .i64 el, .slice ua ps.length uc] := by rw [hwb]; exact Blk.newA wa _ _
      have x0 := (hc2 0 (by decide)); 
      have y0 := (ba.cell (p := ⟨b2, o2 + i * 4 + 0, none⟩) hb2).trans (hc2 0 (by decide))
      have y1 := (ba.cell (p := ⟨b2, o2 + i * 4 + 1, none⟩) hb2).trans (hc2 1 (by decide))
      have y2 := (ba.cell (p := ⟨b2, o2 + i * 4 + 2, none⟩) hb2).trans (hc2 2 (by decide))
      have y3 := (ba.cell (p := ⟨b2, o2 + i * 4 + 3, none⟩) hb2).trans (hc2 3 (by decide))
      have s0 := ((K2.out.later HB.out).later ba).cell 0
      simp [tyc] at y0 y1 y2 y3 s0
      have KA := hide_ (ka.later bb)
      have KB := hide_ kb
      have HBb := hide_ (below_to (below_to HB.out ba) bb)
      have HPa := hide_ ((hP1.later ba).later bb)
      have HPb := hide_ ((hP2.later ba).later bb)
      clear hx hB' h1 h2 hc1 hc2 hP1 hP2 x0 q0 q1 q2 q3 bb ba ka kb
      go_upto_region 7 with fail
      rw [← hwa]
      clear hwa p0 p1 p2 p3 i0 i1 j0 j1
      go_upto_region 8 with fail
      rw [← hwb]
      clear hwb y0 y1 y2 y3 s0
      have a0 := KA.out.cell 0; have a1 := KA.out.cell 1; have a2 := KA.out.cell 2; have a3 := KA.out.cell 3
      have b0 := KB.out.cell 0; have b1' := KB.out.cell 1; have b2' := KB.out.cell 2; have b3 := KB.out.cell 3
      simp at a0 a1 a2 a3 b0 b1' b2' b3
      go_wp2_with fail
      clear a0 a1 a2 a3 b0 b1' b2' b3
      go_loopw [8] (fun x8 wr => ∃ (j : Nat), j ≤ ps.length ∧ x8 = .int .i64 (j : Int) ∧ Hid (Below wb.heap.size wb wr)) (fun x8 _ => ps.length - (intOf x8).toNat)
      case atStart => exact ⟨0, Nat.zero_le _, rfl, hide_ (Below.refl _ _)⟩
      case round =>
        obtain ⟨j, hj, rfl, HC⟩ := hrel
        generalize wr = wp at *
        have a3 := (KA.out.later HC.out).cell 3; have b3 := (KB.out.later HC.out).cell 3
        simp at a3 b3
        by_cases hjl : j < ps.length
        · have hjl' : (j : Int) < ps.length := by omega
          have hq : ps[j]? = some (ps[j]'hjl) := List.getElem?_eq_getElem hjl
          obtain ⟨g1, f1, rfl, -, z1⟩ := (HPa.out.later HC.out).open (by omega)
          obtain ⟨g2, f2, rfl, -, z2⟩ := (HPb.out.later HC.out).open (by omega)
          have e0 := z1 j _ hq 0 (by decide); have e1 := z1 j _ hq 1 (by decide); have e2 := z1 j _ hq 2 (by decide)
          have m0 := z2 j _ hq 0 (by decide); have m1 := z2 j _ hq 1 (by decide); have m2 := z2 j _ hq 2 (by decide)
          simp [ptc] at e0 e1 e2 m0 m1 m2
          generalize ps[j]'hjl = pp at *
          have hse := str_eq pp.label pp.label
          simp at hse
          clear hq z1 z2
          go_wp2_with fail
          go_quiet (fail)
          have HCq : ∀ q, Hid (Below wb.heap.size wb (wp.drewN q)) := fun q => hide_ (below_drewN HC.out q)
          go_wp2_with fail
          go_roundw
          case rel => exact ⟨j + 1, by omega, by go_num, HCq _⟩
          case measure => simp [intOf]; omega
        · have hjl' : ¬ (j : Int) < ps.length := by omega
          have HBn := hide_ (below_to HBb.out HC.out)
          go_wp2_with fail
          go_roundw
          case rel => exact ⟨i + 1, by omega, by go_num, HBn⟩
          case measure => simp [intOf]; omega
    · have hlt' : ¬ (i : Int) < T.length := by omega
      have HBr := HB
      go_wp2_with fail
      go_loopw [9] (fun x9 wr => ∃ (j : Nat), j ≤ R.length ∧ x9 = .int .i64 (j : Int) ∧ Hid (Below w0.heap.size w0 wr)) (fun x9 _ => R.length - (intOf x9).toNat)
      case atStart => exact ⟨0, Nat.zero_le _, rfl, HB⟩
      case round =>
        obtain ⟨j, hj, rfl, HC⟩ := hrel
        generalize wr = wp at *
        clear i0 i1 j0 j1
        have i1 := (K1.out.later HC.out).cell 1; have j1 := (K2.out.later HC.out).cell 1
        simp at i1 j1
        by_cases hjl : j < R.length
        · have hjl' : (j : Int) < R.length := by omega
          have hq : R[j]? = some (R[j]'hjl) := List.getElem?_eq_getElem hjl
          obtain ⟨g1, f1, rfl, -, z1⟩ := (hR1.out.later (below_to HB0.out HC.out)).open (by omega)
          obtain ⟨g2, f2, rfl, -, z2⟩ := (hR2.out.later (below_to HB0.out HC.out)).open (by omega)
          have e0 := z1 j _ hq 0 (by decide); have e1 := z1 j _ hq 1 (by decide)
          have m0 := z2 j _ hq 0 (by decide); have m1 := z2 j _ hq 1 (by decide)
          simp [rtc] at e0 e1 m0 m1
          generalize R[j]'hjl = rr at *
          have hse := str_eq rr.name rr.name
          simp at hse
          clear hq z1 z2
          go_wp2_with fail
          go_quiet (fail)
          have HCq : ∀ q, Hid (Below w0.heap.size w0 (wp.drewN q)) := fun q => hide_ (below_drewN HC.out q)
          go_wp2_with fail
          go_roundw
          case rel => exact ⟨j + 1, by omega, by go_num, HCq _⟩
          case measure => simp [intOf]; omega
        · have hjl' : ¬ (j : Int) < R.length := by omega
          have HBn := hide_ (below_to HB0.out HC.out)
          go_wp2
          go_ret
          exact ⟨rfl, HBn.out⟩
end Go.Proofs.Ytpkghpfdibnhcaa
/- kept: what is lent and unchanged. -/
namespace Go.Proofs.Ytpkghpfdibnhcaa
open Go.RowKit
set_option linter.unusedVariables false

set_option maxRecDepth 100000 in
set_option maxHeartbeats 8000000 in
theorem kept_yes (gT cT : Nat) (Q : List (Ty × Value)) (gR cR : Nat) (B : Nat) (aT : Option Addr) (ct : Nat) (T : List Ty) (aR : Option Addr) (cr : Nat) (R : List Rt) (w : World) (hn : T.length ≤ 1000000000) (hm : R.length ≤ 1000000000) (hL : Hid (LensT T)) (hLt : Hid (LtS w B gT cT Q gR cR R mkP mkT mkR)) (hQ : Hid (Q.map (·.1) = T)) (hT : Hid (TRow w aT T)) (hR : Hid (RRow w aR R)) :
    Calls Try.prog 24 #[.agg #[.slice (some ⟨gT, 0, none⟩) T.length cT, .slice (some ⟨gR, 0, none⟩) R.length cR], .agg #[.slice aT T.length ct, .slice aR R.length cr]] w fun e w' => e = .returned (.bool true) ∧ Below w.heap.size w w' := by
  have hB := below2 w (.cells #[.slice (some ⟨gT, 0, none⟩) T.length cT, .slice (some ⟨gR, 0, none⟩) R.length cR] 31) (.cells #[.slice aT T.length ct, .slice aR R.length cr] 31)
  obtain ⟨k1, k2⟩ := blk2 w #[.slice (some ⟨gT, 0, none⟩) T.length cT, .slice (some ⟨gR, 0, none⟩) R.length cR] #[.slice aT T.length ct, .slice aR R.length cr] 31 31
  obtain ⟨w0, hw0⟩ : ∃ wx, wx = (w.alloc (.cells #[.slice (some ⟨gT, 0, none⟩) T.length cT, .slice (some ⟨gR, 0, none⟩) R.length cR] 31)).alloc (.cells #[.slice aT T.length ct, .slice aR R.length cr] 31) := ⟨_, rfl⟩
  rw [← hw0] at hB k1 k2
  have HB0 := hide_ hB
  have K1 := hide_ k1
  have K2 := hide_ k2
  have hql : Q.length = T.length := by have := congrArg List.length hQ.out; simpa using this
  have HLt0 := hide_ (hLt.out.later hB)
  obtain ⟨hc1, hc2, hg1, hg2, -, -⟩ := HLt0.out.caps
  rw [hql] at hc1
  have HMT : Hid (∀ w', Below w0.heap.size w0 w' → w'.cell? ⟨gT, T.length * 4, none⟩ = some (.int .i64 23130) ∧ w'.cell? ⟨gR, R.length * 2 + 1, none⟩ = some (.int .i64 23130)) := hide_ (fun w' hB' => by
    obtain ⟨-, -, -, -, h1, h2⟩ := (HLt0.out.later hB').caps
    rw [hql] at h1
    exact ⟨h1, h2⟩)
  have hrow := HLt0.out.row
  rw [hQ.out] at hrow
  have HSm : Hid (∀ w', Below w0.heap.size w0 w' → Calls Try.prog 42 #[.agg #[.slice (some ⟨gT, 0, none⟩) T.length cT, .slice (some ⟨gR, 0, none⟩) R.length cR], .agg #[.slice aT T.length ct, .slice aR R.length cr]] w' fun e w'' => e = .returned (.bool true) ∧ Below w'.heap.size w' w'') := hide_ (fun w' hB' => same_yes (some ⟨gT, 0, none⟩) cT (some ⟨gR, 0, none⟩) cR aT ct aR cr T R w' (by omega) (by omega) hL (hide_ (hrow.1.later hB')) (hide_ (hrow.2.later hB')) (hide_ (hT.out.later (below_to HB0.out hB'))) (hide_ (hR.out.later (below_to HB0.out hB'))))
  have HSS : Hid (∀ w', Below w0.heap.size w0 w' → Below w0.heap.size w0 w' ∧ w'.cell? ⟨w.heap.size, 0, none⟩ = some (.slice (some ⟨gT, 0, none⟩) T.length cT) ∧ w'.cell? ⟨w.heap.size, 1, none⟩ = some (.slice (some ⟨gR, 0, none⟩) R.length cR) ∧ w'.cell? ⟨w.heap.size + 1, 0, none⟩ = some (.slice aT T.length ct) ∧ w'.cell? ⟨w.heap.size + 1, 1, none⟩ = some (.slice aR R.length cr) ∧ w'.cell? ⟨gT, T.length * 4, none⟩ = some (.int .i64 23130) ∧ w'.cell? ⟨gR, R.length * 2 + 1, none⟩ = some (.int .i64 23130)) := hide_ (fun w' hB' => ⟨hB', (K1.out.later hB').cell 0, (K1.out.later hB').cell 1, (K2.out.later hB').cell 0, (K2.out.later hB').cell 1, (HMT.out w' hB').1, (HMT.out w' hB').2⟩)
  have HQL := hide_ hql
  have hw1 : IntKind.i64.wrap ((T.length : Int) + 1) = (T.length : Int) + 1 := by rw [IntKind.wrap_i64]; omega
  have hw2 : IntKind.i64.wrap ((R.length : Int) + 1) = (R.length : Int) + 1 := by rw [IntKind.wrap_i64]; omega
  have hc1' : (T.length : Int) + 1 ≤ cT := by omega
  have hc2' : (R.length : Int) + 1 ≤ cR := by omega
  have hp1 : (0 : Int) ≤ (T.length : Int) + 1 := by omega
  have hp2 : (0 : Int) ≤ (R.length : Int) + 1 := by omega
  have hp3 : (T.length : Int) < (T.length : Int) + 1 := by omega
  have hp4 : (R.length : Int) < (R.length : Int) + 1 := by omega
  clear hB k1 k2 hrow hql
  go_enter Try.func24, Try.ntmps24
  go_upto_region 1 with fail
  rw [← hw0]
  clear hw0
  go_wp2_with fail
  refine wp_region_held_drew (S := (fun w' => Below w0.heap.size w0 w' ∧ w'.cell? ⟨w.heap.size, 0, none⟩ = some (.slice (some ⟨gT, 0, none⟩) T.length cT) ∧ w'.cell? ⟨w.heap.size, 1, none⟩ = some (.slice (some ⟨gR, 0, none⟩) R.length cR) ∧ w'.cell? ⟨w.heap.size + 1, 0, none⟩ = some (.slice aT T.length ct) ∧ w'.cell? ⟨w.heap.size + 1, 1, none⟩ = some (.slice aR R.length cr) ∧ w'.cell? ⟨gT, T.length * 4, none⟩ = some (.int .i64 23130) ∧ w'.cell? ⟨gR, R.length * 2 + 1, none⟩ = some (.int .i64 23130))) (by kernel_rfl) (HSS.out _ ((Below.refl w0.heap.size w0).drew)) (fun hHeld => ?_)
  refine wpAnyH_take (i := 0) (v := ?vk1) rfl (by kernel_rfl) (by kernel_rfl) (by kernel_rfl) (fun _ _ _ h => h) (Or.inl ⟨by kernel_rfl, ?hyk1⟩) hHeld ?restk1
  case hyk1 => intro w' hSw; (try dsimp only at hSw); go_simp; try with_reducible rfl
  simp only [Act.put]
  refine wpAnyH_take (i := 1) (v := ?vk2) rfl (by kernel_rfl) (by kernel_rfl) (by kernel_rfl) (fun _ _ _ h => h) (Or.inl ⟨by kernel_rfl, ?hyk2⟩) hHeld ?restk2
  case hyk2 => intro w' hSw; (try dsimp only at hSw); go_simp; try with_reducible rfl
  simp only [Act.put]
  refine wpAnyH_ready (rs := [2]) (by kernel_rfl) (by simp) ?_
  refine AllReadyH.cons rfl (fun K hK => ?_) AllReadyH.nil
  go_simp
  refine (HSm.out _ ((Below.refl w0.heap.size w0).drew)).mono ?_
  rintro e w1 ⟨rfl, hB1⟩
  dsimp only
  have HB1 := hide_ (below_to ((Below.refl w0.heap.size w0).drew) hB1)
  clear hB1
  refine hK.out _ _ (HSS.out _ HB1.out) (fun hHeld => ?_)
  clear hK K
  refine wpAnyH_take (i := 3) (v := ?vk3) rfl (by kernel_rfl) (by kernel_rfl) (by kernel_rfl) (fun _ _ _ h => h) (Or.inl ⟨by kernel_rfl, ?hyk3⟩) hHeld ?restk3
  case hyk3 => intro w' hSw; (try dsimp only at hSw); go_simp; try with_reducible rfl
  simp only [Act.put]
  refine wpAnyH_take (i := 4) (v := ?vk4) rfl (by kernel_rfl) (by kernel_rfl) (by kernel_rfl) (fun _ _ _ h => h) (Or.inl ⟨by kernel_rfl, ?hyk4⟩) hHeld ?restk4
  case hyk4 => intro w' hSw; (try dsimp only at hSw); go_simp; try with_reducible rfl
  simp only [Act.put]
  refine wpAnyH_take (i := 5) (v := ?vk5) rfl (by kernel_rfl) (by kernel_rfl) (by kernel_rfl) (fun _ _ _ h => h) (Or.inl ⟨by kernel_rfl, ?hyk5⟩) hHeld ?restk5
  case hyk5 => intro w' hSw; (try dsimp only at hSw); go_simp; try with_reducible rfl
  simp only [Act.put]
  refine wpAnyH_take (i := 6) (v := ?vk6) rfl (by kernel_rfl) (by kernel_rfl) (by kernel_rfl) (fun _ _ _ h => h) (Or.inl ⟨by kernel_rfl, ?hyk6⟩) hHeld ?restk6
  case hyk6 => intro w' hSw; (try dsimp only at hSw); go_simp; try with_reducible rfl
  simp only [Act.put]
  refine wpAnyH_take (i := 7) (v := ?vk7) rfl (by kernel_rfl) (by kernel_rfl) (by kernel_rfl) (fun _ _ _ h => h) (Or.inl ⟨by kernel_rfl, ?hyk7⟩) hHeld ?restk7
  case hyk7 => intro w' hSw; (try dsimp only at hSw); go_simp; try with_reducible rfl
  simp only [Act.put]
  refine wpAnyH_take (i := 8) (v := ?vk8) rfl (by kernel_rfl) (by kernel_rfl) (by kernel_rfl) (fun _ _ _ h => h) (Or.inl ⟨by kernel_rfl, ?hyk8⟩) hHeld ?restk8
  case hyk8 => intro w' hSw; (try dsimp only at hSw); go_simp; try with_reducible rfl
  simp only [Act.put]
  refine wpAnyH_take (i := 9) (v := ?vk9) rfl (by kernel_rfl) (by kernel_rfl) (by kernel_rfl) (fun _ _ _ h => h) (Or.inl ⟨by kernel_rfl, ?hyk9⟩) hHeld ?restk9
  case hyk9 => intro w' hSw; (try dsimp only at hSw); go_simp; try with_reducible rfl
  simp only [Act.put]
  refine wpAnyH_take (i := 10) (v := ?vk10) rfl (by kernel_rfl) (by kernel_rfl) (by kernel_rfl) (fun _ _ _ h => h) (Or.inl ⟨by kernel_rfl, ?hyk10⟩) hHeld ?restk10
  case hyk10 => intro w' hSw; (try dsimp only at hSw); go_simp; try with_reducible rfl
  simp only [Act.put]
  refine wpAnyH_take (i := 11) (v := ?vk11) rfl (by kernel_rfl) (by kernel_rfl) (by kernel_rfl) (fun _ _ _ h => h) (Or.inl ⟨by kernel_rfl, ?hyk11⟩) hHeld ?restk11
  case hyk11 => intro w' hSw; (try dsimp only at hSw); go_simp; try with_reducible rfl
  simp only [Act.put]
  refine wpAnyH_take (i := 12) (v := ?vk12) rfl (by kernel_rfl) (by kernel_rfl) (by kernel_rfl) (fun _ _ _ h => h) (Or.inl ⟨by kernel_rfl, ?hyk12⟩) hHeld ?restk12
  case hyk12 => intro w' hSw; (try dsimp only at hSw); go_simp; try with_reducible rfl
  simp only [Act.put]
  refine wpAnyH_take (i := 13) (v := ?vk13) rfl (by kernel_rfl) (by kernel_rfl) (by kernel_rfl) (fun _ _ _ h => h) (Or.inl ⟨by kernel_rfl, ?hyk13⟩) hHeld ?restk13
  case hyk13 => intro w' hSw; (try dsimp only at hSw); go_simp; try with_reducible rfl
  simp only [Act.put]
  refine wpAnyH_take (i := 14) (v := ?vk14) rfl (by kernel_rfl) (by kernel_rfl) (by kernel_rfl) (fun _ _ _ h => h) (Or.inl ⟨by kernel_rfl, ?hyk14⟩) hHeld ?restk14
  case hyk14 => intro w' hSw; (try dsimp only at hSw); go_simp; try with_reducible rfl
  simp only [Act.put]
  refine wpAnyH_take (i := 15) (v := ?vk15) rfl (by kernel_rfl) (by kernel_rfl) (by kernel_rfl) (fun _ _ _ h => h) (Or.inl ⟨by kernel_rfl, ?hyk15⟩) hHeld ?restk15
  case hyk15 => intro w' hSw; (try dsimp only at hSw); go_simp; try with_reducible rfl
  simp only [Act.put]
  refine wpAnyH_take (i := 16) (v := ?vk16) rfl (by kernel_rfl) (by kernel_rfl) (by kernel_rfl) (fun _ _ _ h => h) (Or.inl ⟨by kernel_rfl, ?hyk16⟩) hHeld ?restk16
  case hyk16 => intro w' hSw; (try dsimp only at hSw); go_simp; try with_reducible rfl
  simp only [Act.put]
  refine wpAnyH_take (i := 17) (v := ?vk17) rfl (by kernel_rfl) (by kernel_rfl) (by kernel_rfl) (fun _ _ _ h => h) (Or.inl ⟨by kernel_rfl, ?hyk17⟩) hHeld ?restk17
  case hyk17 => intro w' hSw; (try dsimp only at hSw); go_simp; try with_reducible rfl
  simp only [Act.put]
  refine wpAnyH_take (i := 18) (v := ?vk18) rfl (by kernel_rfl) (by kernel_rfl) (by kernel_rfl) (fun _ _ _ h => h) (Or.inl ⟨by kernel_rfl, ?hyk18⟩) hHeld ?restk18
  case hyk18 => intro w' hSw; (try dsimp only at hSw); go_simp; try with_reducible rfl
  simp only [Act.put]
  refine wpAnyH_ready (rs := [19]) (by kernel_rfl) (by simp) ?_
  refine AllReadyH.cons rfl (fun K hK => ?_) AllReadyH.nil
  go_simp
  refine hK.out _ _ (hHeld) (fun hHeld => ?_)
  clear hK K
  refine wpAnyH_take (i := 20) (v := ?vk19) rfl (by kernel_rfl) (by kernel_rfl) (by kernel_rfl) (fun _ _ _ h => h) (Or.inl ⟨by kernel_rfl, ?hyk19⟩) hHeld ?restk19
  case hyk19 => intro w' hSw; (try dsimp only at hSw); go_simp; try with_reducible rfl
  simp only [Act.put]
  refine wpAnyH_take (i := 21) (v := ?vk20) rfl (by kernel_rfl) (by kernel_rfl) (by kernel_rfl) (fun _ _ _ h => h) (Or.inl ⟨by kernel_rfl, ?hyk20⟩) hHeld ?restk20
  case hyk20 => intro w' hSw; (try dsimp only at hSw); go_simp; try with_reducible rfl
  simp only [Act.put]
  refine wpAnyH_take (i := 22) (v := ?vk21) rfl (by kernel_rfl) (by kernel_rfl) (by kernel_rfl) (fun _ _ _ h => h) (Or.inl ⟨by kernel_rfl, ?hyk21⟩) hHeld ?restk21
  case hyk21 => intro w' hSw; (try dsimp only at hSw); go_simp; try with_reducible rfl
  simp only [Act.put]
  refine wpAnyH_take (i := 23) (v := ?vk22) rfl (by kernel_rfl) (by kernel_rfl) (by kernel_rfl) (fun _ _ _ h => h) (Or.inl ⟨by kernel_rfl, ?hyk22⟩) hHeld ?restk22
  case hyk22 => intro w' hSw; (try dsimp only at hSw); go_simp; try with_reducible rfl
  simp only [Act.put]
  refine wpAnyH_take (i := 24) (v := ?vk23) rfl (by kernel_rfl) (by kernel_rfl) (by kernel_rfl) (fun _ _ _ h => h) (Or.inl ⟨by kernel_rfl, ?hyk23⟩) hHeld ?restk23
  case hyk23 => intro w' hSw; (try dsimp only at hSw); go_simp; try with_reducible rfl
  simp only [Act.put]
  refine wpAnyH_take (i := 25) (v := ?vk24) rfl (by kernel_rfl) (by kernel_rfl) (by kernel_rfl) (fun _ _ _ h => h) (Or.inl ⟨by kernel_rfl, ?hyk24⟩) hHeld ?restk24
  case hyk24 => intro w' hSw; (try dsimp only at hSw); go_simp; try with_reducible rfl
  simp only [Act.put]
  refine wpAnyH_take (i := 26) (v := ?vk25) rfl (by kernel_rfl) (by kernel_rfl) (by kernel_rfl) (fun _ _ _ h => h) (Or.inl ⟨by kernel_rfl, ?hyk25⟩) hHeld ?restk25
  case hyk25 => intro w' hSw; (try dsimp only at hSw); go_simp; try with_reducible rfl
  simp only [Act.put]
  refine wpAnyH_take (i := 27) (v := ?vk26) rfl (by kernel_rfl) (by kernel_rfl) (by kernel_rfl) (fun _ _ _ h => h) (Or.inl ⟨by kernel_rfl, ?hyk26⟩) hHeld ?restk26
  case hyk26 => intro w' hSw; (try dsimp only at hSw); go_simp; try with_reducible rfl
  simp only [Act.put]
  refine wpAnyH_take (i := 28) (v := ?vk27) rfl (by kernel_rfl) (by kernel_rfl) (by kernel_rfl) (fun _ _ _ h => h) (Or.inl ⟨by kernel_rfl, ?hyk27⟩) hHeld ?restk27
  case hyk27 => intro w' hSw; (try dsimp only at hSw); go_simp; try with_reducible rfl
  simp only [Act.put]
  refine wpAnyH_take (i := 29) (v := ?vk28) rfl (by kernel_rfl) (by kernel_rfl) (by kernel_rfl) (fun _ _ _ h => h) (Or.inl ⟨by kernel_rfl, ?hyk28⟩) hHeld ?restk28
  case hyk28 => intro w' hSw; (try dsimp only at hSw); go_simp; try with_reducible rfl
  simp only [Act.put]
  refine wpAnyH_take (i := 30) (v := ?vk29) rfl (by kernel_rfl) (by kernel_rfl) (by kernel_rfl) (fun _ _ _ h => h) (Or.inl ⟨by kernel_rfl, ?hyk29⟩) hHeld ?restk29
  case hyk29 => intro w' hSw; (try dsimp only at hSw); go_simp; try with_reducible rfl
  simp only [Act.put]
  refine wpAnyH_take (i := 31) (v := ?vk30) rfl (by kernel_rfl) (by kernel_rfl) (by kernel_rfl) (fun _ _ _ h => h) (Or.inl ⟨by kernel_rfl, ?hyk30⟩) hHeld ?restk30
  case hyk30 => intro w' hSw; (try dsimp only at hSw); go_simp; try with_reducible rfl
  simp only [Act.put]
  refine wpAnyH_take (i := 32) (v := ?vk31) rfl (by kernel_rfl) (by kernel_rfl) (by kernel_rfl) (fun _ _ _ h => h) (Or.inl ⟨by kernel_rfl, ?hyk31⟩) hHeld ?restk31
  case hyk31 => intro w' hSw; (try dsimp only at hSw); go_simp; try with_reducible rfl
  simp only [Act.put]
  refine wpAnyH_take (i := 33) (v := ?vk32) rfl (by kernel_rfl) (by kernel_rfl) (by kernel_rfl) (fun _ _ _ h => h) (Or.inl ⟨by kernel_rfl, ?hyk32⟩) hHeld ?restk32
  case hyk32 => intro w' hSw; (try dsimp only at hSw); go_simp; try with_reducible rfl
  simp only [Act.put]
  refine wpAnyH_take (i := 34) (v := ?vk33) rfl (by kernel_rfl) (by kernel_rfl) (by kernel_rfl) (fun _ _ _ h => h) (Or.inl ⟨by kernel_rfl, ?hyk33⟩) hHeld ?restk33
  case hyk33 => intro w' hSw; (try dsimp only at hSw); go_simp; try with_reducible rfl
  simp only [Act.put]
  refine wpAnyH_ready (rs := [35]) (by kernel_rfl) (by simp) ?_
  refine AllReadyH.cons rfl (fun K hK => ?_) AllReadyH.nil
  go_simp
  refine hK.out _ _ (hHeld) (fun hHeld => ?_)
  clear hK K
  refine wpAnyH_done (by kernel_rfl) ?_ _
  clear HSm HSS hHeld
  clear hw1 hw2
  go_wp2_with fail
  go_loopw [5] (fun x5 wr => ∃ (i : Nat), i ≤ T.length ∧ x5 = .int .i64 (i : Int) ∧ Hid (Below w0.heap.size w0 wr)) (fun x5 _ => T.length - (intOf x5).toNat)
  case atStart => exact ⟨0, Nat.zero_le _, rfl, HB1⟩
  case round =>
    obtain ⟨i, hi, rfl, HB⟩ := hrel
    generalize wr = wq at *
    have i0 := (K1.out.later HB.out).cell 0; have j0 := (K2.out.later HB.out).cell 0
    simp at i0 j0
    by_cases hlt : i < T.length
    · have hlt' : (i : Int) < T.length := by omega
      have hx : T[i]? = some (T[i]'hlt) := List.getElem?_eq_getElem hlt
      obtain ⟨b2, o2, rfl, hb2, h2⟩ := (hT.out.later (below_to HB0.out HB.out)).open (by omega)
      obtain ⟨va, vc, hcc, hvc, -, -⟩ := h2 i _ hx
      have hpl := hL.out.at hx
      have HLq := HLt0.out.later HB.out
      obtain ⟨p, hp⟩ : ∃ p, Q[i]? = some p := ⟨_, List.getElem?_eq_getElem (by have := HQL.out; omega)⟩
      have hpt : p.1 = T[i]'hlt := by
        have h1 : (Q.map (·.1))[i]? = some p.1 := by rw [List.getElem?_map, hp]; rfl
        rw [hQ.out, hx] at h1
        injection h1 with h1
        exact h1.symm
      have hp' : (Q ++ [(mkT, Value.slice none 0 0)])[i]? = some p := by rw [List.getElem?_append_left (by have := HQL.out; omega)]; exact hp
      obtain ⟨-, -, -, u3⟩ := HLq.ty.at4 hp'
      obtain ⟨g, c, hu, hcl, hpr, -, -⟩ := HLq.mks p (List.mem_of_getElem? hp)
      rw [hu] at u3
      rw [hpt] at u3 hcl hpr
      have s3 := hcc 3 (by decide)
      simp [tyc] at s3
      generalize T[i]'hlt = t at *
      obtain ⟨bp, op, e1, -, hcp⟩ := hpr.open (by simp)
      injection e1 with e1
      injection e1 with e1 e2 _
      subst e1 e2
      have m1 := hcp t.ps.length mkP (by simp) 1 (by decide)
      simp [ptc, mkP] at m1
      have hcl' : (t.ps.length : Int) + 1 ≤ c := by omega
      have hp5 : (0 : Int) ≤ (t.ps.length : Int) + 1 := by omega
      have hn0 : (t.ps.length : Int) < (t.ps.length : Int) + 1 := by omega
      have hw3 : wrap64 ((t.ps.length : Int) + 1) = (t.ps.length : Int) + 1 := w64 _ (by omega)
      clear hx h2 hcc HLq hp hpt hp' hu hpr hcp hcl hvc hp1 hp2 hp3 hp4 hc1 hc2 hc1' hc2' hg1 hg2
      go_wp2_with fail
      go_roundw
      case rel => clear hw3; exact ⟨i + 1, by omega, by go_num, HB⟩
      case measure => clear hw3; simp [intOf]; omega
    · have hlt' : ¬ (i : Int) < T.length := by omega
      go_wp2
      go_ret
      exact ⟨rfl, below_to HB0.out HB.out⟩
end Go.Proofs.Ytpkghpfdibnhcaa
/- SizeExact: extents compared; a number of a type written over; extents. -/
namespace Go.Proofs.Ytpkghpfdibnhcaa
open Go.RowKit
set_option linter.unusedVariables false

set_option maxRecDepth 100000 in
set_option maxHeartbeats 4000000 in
theorem sameX_yes (a b : Option Addr) (c d n : Nat) (l : List Ex) (w : World) (hl : Hid (l.length = n)) (hn : n ≤ 9223372036854775806) (hr : Hid (XRow w a l)) (hs : Hid (XRow w b l)) :
    Calls Try.prog 34 #[.slice a n c, .slice b n d] w fun e w' => e = .returned (.bool true) ∧ Below w.heap.size w w' := by
  go_enter Try.func34, Try.ntmps34
  go_wp2_with fail
  go_loopw [5] (fun x5 wr => ∃ i : Nat, i ≤ n ∧ x5 = .int .i64 (i : Int) ∧ Hid (Below w.heap.size w wr)) (fun x5 _ => n - (intOf x5).toNat)
  case atStart => exact ⟨0, Nat.zero_le _, rfl, hide_ (Below.refl _ _)⟩
  case round =>
    obtain ⟨i, hi, rfl, HB⟩ := hrel
    generalize wr = wq at *
    by_cases hlt : i < n
    · have hlt' : (i : Int) < n := by omega
      have hil : i < l.length := by have := hl.out; omega
      obtain ⟨b1, o1, rfl, -, h1⟩ := (hr.out.later HB.out).open (by omega)
      obtain ⟨b2, o2, rfl, -, h2⟩ := (hs.out.later HB.out).open (by omega)
      have hx : l[i]? = some (l[i]'hil) := List.getElem?_eq_getElem hil
      have u0 := h1 i _ hx 0 (by decide); have u1 := h1 i _ hx 1 (by decide); have u2 := h1 i _ hx 2 (by decide); have u3 := h1 i _ hx 3 (by decide)
      have t0 := h2 i _ hx 0 (by decide); have t1 := h2 i _ hx 1 (by decide); have t2 := h2 i _ hx 2 (by decide); have t3 := h2 i _ hx 3 (by decide)
      simp [exc] at u0 u1 u2 u3 t0 t1 t2 t3
      generalize l[i]'hil = x at *
      clear h1 h2 hx hil
      go_wp2_with fail
      go_quiet (fail)
      have HBq : ∀ q, Hid (Below w.heap.size w (wq.drewN q)) := fun q => hide_ (below_drewN HB.out q)
      go_wp2
      go_roundw
      case rel => exact ⟨i + 1, by omega, by go_num, HBq _⟩
      case measure => simp [intOf]; omega
    · obtain rfl : i = n := by omega
      go_wp2
      go_ret
      exact ⟨rfl, HB.out⟩
/-- One cell of an element written over. -/
theorem row_setc {α : Type} {c : Nat} {f : α → List Value} (hf : ∀ x, (f x).length = c) {w : World} {B g n cap i j : Nat} {e : TypeId} {l : List α} {x : α} (h : w.ownsRow B e c (.slice (some ⟨g, 0, none⟩) n cap) l.length (cellsG f l)) (hx : l[i]? = some x) (y : α) (u : Value) (hj : j < c) (hy : f y = (f x).set j u) :
    (w.setCell ⟨g, i * c + j, none⟩ u).ownsRow B e c (.slice (some ⟨g, 0, none⟩) n cap) (l.set i y).length (cellsG f (l.set i y)) := by
  have hi := (List.getElem?_eq_some_iff.1 hx).1
  obtain ⟨g', cap', ys, e, hb, hn, hm, hys, ht, hk⟩ := ownS_blk h (by omega)
  injection e with e1 e2 e3
  injection e1 with e1
  injection e1 with e1 _ _
  subst e1 e2 e3
  have hk2 := hk.set (i * c + j) u
  have h2 := ownS_of_blk (B := B) (n := l.length) (c := c) (cap := cap) hk2 hb (by simp [hys]) hn hm
  have hic : i * c + c ≤ l.length * c := by rw [← Nat.succ_mul]; exact Nat.mul_le_mul_right c hi
  have e4 : (ys.set (i * c + j) u).take (l.length * c) = cellsG f (l.set i y) := by
    apply List.ext_getElem?
    intro q
    by_cases hq : q < l.length * c
    · rw [row_set_at hf l i y hi q hq, List.getElem?_take, if_pos hq, ← ht]
      have hqy : q < ys.length := by rw [hys]; exact Nat.lt_of_lt_of_le hq (Nat.mul_le_mul_right c hn)
      by_cases h0 : q = i * c + j
      · subst h0
        rw [if_pos (by omega), List.getElem?_set_self hqy, hy, Nat.add_sub_cancel_left, List.getElem?_set_self (by rw [hf]; exact hj)]
      · rw [List.getElem?_set_ne (fun h => h0 h.symm)]
        by_cases h1 : i * c ≤ q ∧ q < i * c + c
        · rw [if_pos h1, hy, List.getElem?_set_ne (by omega)]
          have h3 := cellsG_at hf l i (q - i * c) x hx (by omega)
          rw [show i * c + (q - i * c) = q by omega] at h3
          rw [← h3, ← ht, List.getElem?_take, if_pos hq]
        · rw [if_neg h1, List.getElem?_take, if_pos hq]
    · rw [List.getElem?_eq_none (by simp; omega), List.getElem?_eq_none (by rw [cellsG_len hf]; simp; omega)]
  rw [List.length_set, ← e4]
  exact h2
theorem TOwn.setN {w : World} {B g n cap i : Nat} {Q : List (Ty × Value)} {p : Ty × Value} (h : TOwn w B (.slice (some ⟨g, 0, none⟩) n cap) Q) (hx : Q[i]? = some p) (m : Int) :
    TOwn (w.setCell ⟨g, i * 4 + 1, none⟩ (.int .i64 m)) B (.slice (some ⟨g, 0, none⟩) n cap) (Q.set i (⟨p.1.k, m, p.1.e, p.1.ps⟩, p.2)) ∧ Upd (fun k => k = g) w (w.setCell ⟨g, i * 4 + 1, none⟩ (.int .i64 m)) := by
  have hu : Upd (fun k => k = g) w (w.setCell ⟨g, i * 4 + 1, none⟩ (.int .i64 m)) := (Upd.refl (fun k => k = g) w).set ⟨g, i * 4 + 1, none⟩ (.int .i64 m) (.inl rfl)
  obtain ⟨zs, hz⟩ := ownS_type h.1 (k := g) rfl
  have hg := (World.ownsRow.lt h.1 g rfl).1
  have hn : ∀ k ys, k = g → Blk w k 45 ys → False := fun k ys e hb => by
    subst e
    exact absurd (blk_type hz hb) (by decide)
  refine ⟨⟨row_setc tyq_len h.1 hx (⟨p.1.k, m, p.1.e, p.1.ps⟩, p.2) (.int .i64 m) (by decide) rfl, fun q hq => ?_⟩, hu⟩
  rcases List.mem_or_eq_of_mem_set hq with hq | rfl
  · exact (h.2 q hq).upd hu (fun k e => by omega) hn
  · exact (h.2 p (List.mem_of_getElem? hx)).upd hu (fun k e => by omega) hn
theorem LtS.upd {w w' : World} {B gT cT gR cR : Nat} {Q : List (Ty × Value)} {R : List Rt} {q : Pt} {tq : Ty} {rq : Rt} {S : Nat → Prop} (h : LtS w B gT cT Q gR cR R q tq rq) (hu : Upd S w w') (hs : ∀ k, S k → k < B) : LtS w' B gT cT Q gR cR R q tq rq := by
  refine ⟨⟨ownS_upd h.ty.1 hu (fun k hk hS => ?_), fun p hp => ?_⟩, fun p hp => ?_, ownS_upd h.rt hu (fun k hk hS => ?_)⟩
  · have := (World.ownsRow.lt h.ty.1 k hk).1; have := hs k hS; omega
  · rcases List.mem_append.1 hp with hp | hp
    · refine MkIn.ptIn (q := q) (B := B) ?_ B
      obtain ⟨g, c, e, h1, h2, h3, ys, h4⟩ := h.mks p hp
      have hg : ¬ S g := fun hS => by have := hs g hS; omega
      exact ⟨g, c, e, h1, h2.upd hu (fun x hx => by cases hx; exact hg), h3, ys, h4.upd hu hg⟩
    · obtain ⟨va, vc, e, h1, h2, h3, h4⟩ := h.ty.2 p (List.mem_append.2 (.inr hp))
      have hp2 := hp
      simp at hp2
      subst hp2
      injection e with e1 e2 e3
      subst e1
      rcases h3 with h3 | ⟨_, _, hh, _⟩
      · exact ⟨none, vc, by rw [← e2, ← e3], h1, h2, .inl h3, .inl h3⟩
      · cases hh
  · obtain ⟨g, c, e, h1, h2, h3, ys, h4⟩ := h.mks p hp
    have hg : ¬ S g := fun hS => by have := hs g hS; omega
    exact ⟨g, c, e, h1, h2.upd hu (fun x hx => by cases hx; exact hg), h3, ys, h4.upd hu hg⟩
  · have := (World.ownsRow.lt h.rt k hk).1; have := hs k hS; omega
theorem LtS.setN {w : World} {B gT cT gR cR i : Nat} {Q : List (Ty × Value)} {R : List Rt} {q : Pt} {tq : Ty} {rq : Rt} {p : Ty × Value} (h : LtS w B gT cT Q gR cR R q tq rq) (hx : Q[i]? = some p) (m : Int) :
    LtS (w.setCell ⟨gT, i * 4 + 1, none⟩ (.int .i64 m)) B gT cT (Q.set i (⟨p.1.k, m, p.1.e, p.1.ps⟩, p.2)) gR cR R q tq rq := by
  have hi := (List.getElem?_eq_some_iff.1 hx).1
  have hx' : (Q ++ [(tq, Value.slice none 0 0)])[i]? = some p := by rw [List.getElem?_append_left hi]; exact hx
  obtain ⟨h1, hu⟩ := h.ty.setN hx' m
  obtain ⟨zs, hz⟩ := ownS_type h.ty.1 (k := gT) rfl
  have hn : ∀ k ys, k = gT → Blk w k 45 ys → False := fun k ys e hb => by
    subst e
    exact absurd (blk_type hz hb) (by decide)
  refine ⟨?_, fun r hr => ?_, h.rt.updN hu hz (by decide)⟩
  · rw [List.set_append_left _ _ hi] at h1
    rw [List.length_set]
    exact h1
  · rcases List.mem_or_eq_of_mem_set hr with hr | rfl
    · exact (h.mks r hr).upd hu hn
    · exact (h.mks p (List.mem_of_getElem? hx)).upd hu hn
/-- What Of answers, right or wrong. -/
def xOf (T : List Ty) (R : List Rt) : List Ex := if (chk T R).1 = 0 then extL T else []
theorem OfTo.one {T : List Ty} {R : List Rt} {w w' : World} {e : Ending} (h : OfTo T R w e w') : ∃ v, e = .returned (.tuple #[v, .int .i64 (chk T R).1]) ∧ XOwn w' w.heap.size v (xOf T R) ∧ Below w.heap.size w w' := by
  rcases h with ⟨hne, rfl, hB⟩ | ⟨hS, v, rfl, hX, hB⟩
  · exact ⟨_, rfl, by unfold xOf; rw [if_neg hne]; exact XOwn.nil _ _, hB⟩
  · refine ⟨v, by rw [hS.chk], ?_, hB⟩
    unfold xOf
    rw [if_pos (by rw [hS.chk])]
    exact hX
theorem xOf_len (T : List Ty) (R : List Rt) : (xOf T R).length ≤ T.length := by
  unfold xOf
  split
  · rw [extL_len]; exact Nat.le_refl _
  · simp
end Go.Proofs.Ytpkghpfdibnhcaa
/- SizeExact: extents, twice, against the document's. -/
namespace Go.Proofs.Ytpkghpfdibnhcaa
open Go.RowKit
set_option linter.unusedVariables false

def xmk : Ex := ⟨false, 0, 0, -1⟩
theorem XOwn.upd {w w' : World} {B : Nat} {v : Value} {l : List Ex} {S : Nat → Prop} (h : XOwn w B v l) (hu : Upd S w w') (hs : ∀ k, v.ownBlock = some k → ¬ S k) : XOwn w' B v l := ownS_upd h hu hs
theorem XOwn.pushV {w : World} {B : Nat} {v : Value} {l : List Ex} (h : XOwn w B v l) (x : Ex) (hl : l.length ≤ 10000000000) (hB : B ≤ w.heap.size) :
    ∃ g cap w', (Builtin.append_ #[24, 24] 24 #[v, .slice (some ⟨w.heap.size, 0, none⟩) 1 1]).run Try.prog (w.alloc (.cells #[.bool x.f, .int .i64 x.l, .int .i64 x.m, .int .i64 x.d] 35)) = .ok (.slice (some ⟨g, 0, none⟩) (l.length + 1) cap) w' ∧ XOwn w' B (.slice (some ⟨g, 0, none⟩) (l.length + 1) cap) (l ++ [x]) ∧ Upd (fun k => v.ownBlock = some k) w w' := by
  obtain ⟨g, cap, w', h1, h2, h3, h4⟩ := run_pushS (P := Try.prog) (t := 24) (e := 35) (c := 4) Try.underlying24 infoX rfl (by decide) w 24 h (exc x) rfl (fun u hu => by simp [exc] at hu; rcases hu with rfl | rfl | rfl | rfl <;> rfl) (by unfold maxLen; omega) (by omega) hB
  refine ⟨g, cap, w', h1, ?_, h3⟩
  unfold XOwn
  rw [cellsG_app, cellsG_one, List.length_append, List.length_singleton]
  exact h2
/-- What Of answers, as a slice. -/
def OfU (E : Int) (X : List Ex) (w : World) (e : Ending) (w' : World) : Prop := ∃ a c, e = .returned (.tuple #[.slice a X.length c, .int .i64 E]) ∧ Hid (XOwn w' w.heap.size (.slice a X.length c) X) ∧ Hid (Below w.heap.size w w')
theorem OfTo.u {T : List Ty} {R : List Rt} {w w' : World} {e : Ending} (h : OfTo T R w e w') : OfU (chk T R).1 (xOf T R) w e w' := by
  obtain ⟨v, rfl, hX, hB⟩ := h.one
  obtain ⟨a, c, rfl, -, -, -⟩ := hX.row
  exact ⟨a, c, rfl, hide_ hX, hide_ hB⟩
theorem XOwn.ro {w : World} {B n cap : Nat} {a : Option Addr} {l : List Ex} (h : XOwn w B (.slice a n cap) l) : XRow w a l := by
  obtain ⟨a', c', e, -, -, hr⟩ := h.row
  injection e with e1 _ _
  subst e1
  exact hr
set_option maxRecDepth 100000 in
set_option maxHeartbeats 8000000 in
theorem extents_any (gT cT : Nat) (Q : List (Ty × Value)) (gR cR : Nat) (B : Nat) (aT : Option Addr) (ct : Nat) (T : List Ty) (aR : Option Addr) (cr : Nat) (R : List Rt) (w : World) (hn : T.length ≤ 1000000000) (hm : R.length ≤ 1000000000) (hL : Hid (LensT T)) (hLt : Hid (LtS w B gT cT Q gR cR R mkP mkT mkR)) (hQ : Hid (Q.map (·.1) = T)) (hT : Hid (TRow w aT T)) (hR : Hid (RRow w aR R)) :
    Calls Try.prog 16 #[.agg #[.slice (some ⟨gT, 0, none⟩) T.length cT, .slice (some ⟨gR, 0, none⟩) R.length cR], .agg #[.slice aT T.length ct, .slice aR R.length cr]] w fun e w' => e = .returned (.bool true) ∧ Below w.heap.size w w' := by
  have hB := below2 w (.cells #[.slice (some ⟨gT, 0, none⟩) T.length cT, .slice (some ⟨gR, 0, none⟩) R.length cR] 31) (.cells #[.slice aT T.length ct, .slice aR R.length cr] 31)
  obtain ⟨k1, k2⟩ := blk2 w #[.slice (some ⟨gT, 0, none⟩) T.length cT, .slice (some ⟨gR, 0, none⟩) R.length cR] #[.slice aT T.length ct, .slice aR R.length cr] 31 31
  obtain ⟨w0, hw0⟩ : ∃ wx, wx = (w.alloc (.cells #[.slice (some ⟨gT, 0, none⟩) T.length cT, .slice (some ⟨gR, 0, none⟩) R.length cR] 31)).alloc (.cells #[.slice aT T.length ct, .slice aR R.length cr] 31) := ⟨_, rfl⟩
  rw [← hw0] at hB k1 k2
  have HB0 := hide_ hB
  have K1 := hide_ k1
  have K2 := hide_ k2
  have HLt0 := hide_ (hLt.out.later hB)
  have hrow := HLt0.out.row
  rw [hQ.out] at hrow
  obtain ⟨E, hE⟩ : ∃ E, (chk T R).1 = E := ⟨_, rfl⟩
  obtain ⟨X, hX⟩ : ∃ X, xOf T R = X := ⟨_, rfl⟩
  have hXn : X.length ≤ 1000000000 := by rw [← hX]; have := xOf_len T R; omega
  have HOf : Hid (∀ w', Below w0.heap.size w0 w' → Calls Try.prog 10 #[.agg #[.slice (some ⟨gT, 0, none⟩) T.length cT, .slice (some ⟨gR, 0, none⟩) R.length cR]] w' fun e w'' => OfU E X w' e w'') := hide_ (fun w' hB' => (of_any (some ⟨gT, 0, none⟩) cT T (some ⟨gR, 0, none⟩) cR R w' hn (by omega) hL (hide_ (hrow.1.later hB')) (hide_ (hrow.2.later hB'))).mono (fun e w'' h => by rw [← hE, ← hX]; exact h.u))
  have HOr : Hid (∀ w', Below w0.heap.size w0 w' → Calls Try.prog 33 #[.agg #[.slice aT T.length ct, .slice aR R.length cr]] w' fun e w'' => OfU E X w' e w'') := hide_ (fun w' hB' => (ofR_any aT ct T aR cr R w' hn (by omega) hL (hide_ (hT.out.later (below_to HB0.out hB'))) (hide_ (hR.out.later (below_to HB0.out hB')))).mono (fun e w'' h => by rw [← hE, ← hX]; exact h.u))
  have HKe : Hid (∀ w', Below w0.heap.size w0 w' → Calls Try.prog 24 #[.agg #[.slice (some ⟨gT, 0, none⟩) T.length cT, .slice (some ⟨gR, 0, none⟩) R.length cR], .agg #[.slice aT T.length ct, .slice aR R.length cr]] w' fun e w'' => e = .returned (.bool true) ∧ Below w'.heap.size w' w'') := hide_ (fun w' hB' => kept_yes gT cT Q gR cR B aT ct T aR cr R w' hn hm hL (hide_ (HLt0.out.later hB')) hQ (hide_ (hT.out.later (below_to HB0.out hB'))) (hide_ (hR.out.later (below_to HB0.out hB'))))
  have i0 := k1.cell 0; have i1 := k1.cell 1
  simp at i0 i1
  clear hB k1 k2 hrow hLt hT hR hE hX
  go_enter Try.func16, Try.ntmps16
  go_upto_region 1 with fail
  rw [← hw0]
  clear hw0
  go_wp2_with fail
  refine (HOf.out w0 (Below.refl _ _)).mono ?_
  rintro e w1 ⟨ax, cx, rfl, HX1, HB1⟩
  clear i0 i1
  have i0 := (K1.out.later HB1.out).cell 0; have i1 := (K1.out.later HB1.out).cell 1
  simp at i0 i1
  go_wp2_with fail
  refine (HOf.out w1 HB1.out).mono ?_
  rintro e w2 ⟨ay, cy, rfl, HY2, HB2⟩
  have HB02 := hide_ (below_to HB1.out HB2.out)
  clear i0 i1
  have i0 := (K2.out.later HB02.out).cell 0; have i1 := (K2.out.later HB02.out).cell 1
  simp at i0 i1
  go_wp2_with fail
  refine (HOr.out w2 HB02.out).mono ?_
  rintro e w3 ⟨az, cz, rfl, HZ3, HB3⟩
  have HB03 := hide_ (below_to HB02.out HB3.out)
  have HX3 := hide_ (HX1.out.later (below_to HB2.out HB3.out))
  have HY3 := hide_ (HY2.out.later HB3.out)
  have HGx : Hid (∀ k, (Value.slice ax X.length cx).ownBlock = some k → k < w1.heap.size) := hide_ (fun k hk => (World.ownsRow.lt HX1.out k hk).2)
  have HSx : Hid (∀ w', Below w3.heap.size w3 w' → Calls Try.prog 34 #[.slice ax X.length cx, .slice az X.length cz] w' fun e w'' => e = .returned (.bool true) ∧ Below w'.heap.size w' w'') := hide_ (fun w' hB' => sameX_yes ax az cx cz X.length X w' (hide_ rfl) (by omega) (hide_ (HX3.out.ro.later hB')) (hide_ (HZ3.out.ro.later hB')))
  have HSy : Hid (∀ w', XRow w' ay X → XRow w' az X → Calls Try.prog 34 #[.slice ay X.length cy, .slice az X.length cz] w' fun e w'' => e = .returned (.bool true) ∧ Below w'.heap.size w' w'') := hide_ (fun w' h1 h2 => sameX_yes ay az cy cz X.length X w' (hide_ rfl) (by omega) (hide_ h1) (hide_ h2))
  clear i0 i1 HOf HOr HX1 HY2
  go_wp2_with (go_at_call 12; refine (num_any _ _).mono ?_; rintro e w' ⟨rfl, rfl⟩)
  refine (HSx.out w3 (Below.refl _ _)).mono ?_
  rintro e w4 ⟨rfl, hB4⟩
  go_wp2_with fail
  refine (HSy.out w4 (HY3.out.ro.later hB4) (HZ3.out.ro.later hB4)).mono ?_
  rintro e w5 ⟨rfl, hB5⟩
  have HB35 := hide_ (below_to hB4 hB5)
  have HB05 := hide_ (below_to HB03.out HB35.out)
  have i0 := (K1.out.later HB05.out).cell 0; have i1 := (K1.out.later HB05.out).cell 1
  have j0 := (K2.out.later HB05.out).cell 0; have j1 := (K2.out.later HB05.out).cell 1
  simp at i0 i1 j0 j1
  clear hB4 hB5
  go_wp2_with fail
  refine (HKe.out w5 HB05.out).mono ?_
  rintro e w6 ⟨rfl, hB6⟩
  have HB36 := hide_ (below_to HB35.out hB6)
  have HX6 := hide_ (HX3.out.later HB36.out)
  have HY6 := hide_ (HY3.out.later HB36.out)
  have HZ6 := hide_ (HZ3.out.later HB36.out)
  have HB06 := hide_ (below_to HB03.out HB36.out)
  have hz1 : w0.heap.size ≤ w1.heap.size := HB1.out.size
  have hz2 : w1.heap.size ≤ w2.heap.size := HB2.out.size
  clear hB6 i0 i1 j0 j1 HKe HSx HX3 HY3 HZ3
  obtain ⟨n, hnX⟩ : ∃ n, X.length = n := ⟨_, rfl⟩
  have HN := hide_ hnX
  rw [hnX] at HX6 HY6 HZ6 HGx HSy hXn
  try rw [hnX]
  clear hnX
  go_wp2_with fail
  go_loopw [11] (fun x11 wr => ∃ (i : Nat) (L : List Ex), i ≤ n ∧ x11 = .int .i64 (i : Int) ∧ Hid (L.length = n) ∧ Hid (XOwn wr w0.heap.size (.slice ax n cx) L) ∧ Hid (XOwn wr w1.heap.size (.slice ay n cy) X) ∧ Hid (XOwn wr w2.heap.size (.slice az n cz) X) ∧ Hid (Below w0.heap.size w0 wr)) (fun x11 _ => n - (intOf x11).toNat)
  case atStart => exact ⟨0, X, Nat.zero_le _, rfl, HN, HX6, HY6, HZ6, HB06⟩
  case round =>
    obtain ⟨i, L, hi, rfl, HLn, HX, HY, HZ, HB⟩ := hrel
    generalize wr = wq at *
    clear HX6 HY6 HZ6 HB06 HB36 HB35
    by_cases hlt : i < n
    · have hlt' : (i : Int) < n := by omega
      obtain ⟨gx, cx', ys, ex, hbx, -, -, -, -, hK⟩ := ownS_blk HX.out (by have := HLn.out; omega)
      injection ex with ex _ _
      subst ex
      have hgx := HGx.out gx rfl
      have hfr := fun i => hK.frozen i
      have hiL : i < L.length := by have := HLn.out; omega
      have hu : Upd (fun k => k = gx) wq ((((wq.setCell ⟨gx, i * 4, none⟩ (.bool false)).setCell ⟨gx, i * 4 + 1, none⟩ (.int .i64 0)).setCell ⟨gx, i * 4 + 2, none⟩ (.int .i64 0)).setCell ⟨gx, i * 4 + 3, none⟩ (.int .i64 (-1))) := ((((Upd.refl (fun k => k = gx) wq).set ⟨gx, i * 4, none⟩ (.bool false) (.inl rfl)).set ⟨gx, i * 4 + 1, none⟩ (.int .i64 0) (.inl rfl)).set ⟨gx, i * 4 + 2, none⟩ (.int .i64 0) (.inl rfl)).set ⟨gx, i * 4 + 3, none⟩ (.int .i64 (-1)) (.inl rfl)
      have HXn : Hid (XOwn _ w0.heap.size (.slice (some ⟨gx, 0, none⟩) n cx) (L.set i xmk)) := hide_ (row_set4 exc_len HX.out hiL xmk (.bool false) (.int .i64 0) (.int .i64 0) (.int .i64 (-1)) rfl)
      have HYn := hide_ (HY.out.upd hu (fun k hk e => by have := (World.ownsRow.lt HY.out k hk).1; omega))
      have HZn := hide_ (HZ.out.upd hu (fun k hk e => by have := (World.ownsRow.lt HZ.out k hk).1; omega))
      have HBn := hide_ (HB.out.trans (hu.below _ HB.out.size (fun k e => by omega)))
      have HLm : Hid ((L.set i xmk).length = n) := hide_ (by rw [List.length_set]; exact HLn.out)
      have hx0 := HX.out.at4 hiL
      obtain ⟨e0, e1, e2, e3⟩ := hx0
      clear hK hu
      go_wp2_with fail
      go_roundw
      case rel => exact ⟨i + 1, _, by omega, by go_num, HLm, HXn, HYn, HZn, HBn⟩
      case measure => simp [intOf]; omega
    · have hlt' : ¬ (i : Int) < n := by omega
      obtain ⟨g8, c8, w8, hrun, hX8, hU8⟩ := HX.out.pushV xmk (by have := HLn.out; omega) HB.out.size
      rw [HLn.out] at hrun hX8
      simp only [xmk] at hrun
      have HRun := hide_ hrun
      have hY8 := HY.out.upd hU8 (fun k hk e => by have := (World.ownsRow.lt HY.out k hk).1; have := HGx.out k e; omega)
      have hZ8 := HZ.out.upd hU8 (fun k hk e => by have := (World.ownsRow.lt HZ.out k hk).1; have := HGx.out k e; omega)
      have HB8 := hide_ (HB.out.trans (hU8.below _ HB.out.size (fun k e => (World.ownsRow.lt HX.out k e).1)))
      have HSe := hide_ (HSy.out w8 hY8.ro hZ8.ro)
      have HX8 := hide_ hX8
      clear hrun hX8 hU8 hY8 hZ8 HX HY HZ
      go_wp2_with (first | (at_builtin; refine wpList_append_run rfl (.tmp 68) (.tmp 70) 24 24 rfl rfl rfl HRun.out ?_; clear HRun))
      refine HSe.out.mono ?_
      rintro e w9 ⟨rfl, hB9⟩
      obtain ⟨-, -, -, d3⟩ := (HX8.out.later hB9).at4 (i := n) (by have := HLn.out; simp; omega)
      have hxa : exAt (L ++ [xmk]) (n : Int) = xmk := by
        unfold exAt
        rw [Int.toNat_natCast, ← HLn.out]
        simp [List.getD]
      rw [hxa] at d3
      simp only [xmk] at d3
      have HBf := hide_ (below_to HB0.out (below_to HB8.out hB9))
      have hw : wrap64 ((n : Int) + 1 - 1) = (n : Int) := by rw [show (n : Int) + 1 - 1 = (n : Int) by omega]; exact w64 _ (by omega)
      have hn1 : (n : Int) < (n : Int) + 1 := by omega
      clear hB9 hxa
      go_wp2
      go_ret
      exact ⟨rfl, HBf.out⟩
end Go.Proofs.Ytpkghpfdibnhcaa
/- SizeExact: its walk. -/
namespace Go.Proofs.Ytpkghpfdibnhcaa
open Go.RowKit
set_option linter.unusedVariables false

theorem tmod_in2 (n m : Int) (hm : 0 < m) : -m < n.tmod m ∧ n.tmod m < m := tmod_in n m hm
theorem LensT.set {T : List Ty} (h : LensT T) (k : Nat) {t : Ty} (ht : t.ps.length ≤ 9223372036854775806) : LensT (T.set k t) := ⟨by rw [List.length_set]; exact h.1, fun x hx => by
  rcases List.mem_or_eq_of_mem_set hx with hx | rfl
  · exact h.2 x hx
  · exact ht⟩
set_option maxRecDepth 100000 in
set_option maxHeartbeats 16000000 in
theorem exact_any (aT : Option Addr) (cT : Nat) (T : List Ty) (aR : Option Addr) (cR : Nat) (R : List Rt) (at' nn : Int) (w : World) (hn : T.length ≤ 1000000000000000) (hm : R.length ≤ 1000000000000000) (hcR : R.length ≤ cR) (hnil : aR = none → cR = 0) (hl : Hid (LensT T)) (hT : Hid (TRow w aT T)) (hRr : Hid (RRow w aR R)) :
    Calls Try.prog 5 #[.agg #[.slice aT T.length cT, .slice aR R.length cR], .int .i64 at', .int .i64 nn] w fun e w' => e = .returned (.bool true) ∧ Below w.heap.size w w' := by
  obtain ⟨w1, hw1⟩ : ∃ wx, wx = w.alloc (.cells #[.slice aT T.length cT, .slice aR R.length cR] 31) := ⟨_, rfl⟩
  have b1 : Below w.heap.size w w1 := by rw [hw1]; exact below1 _ _
  have k1 : Blk w1 w.heap.size 31 [.slice aT T.length cT, .slice aR R.length cR] := by rw [hw1]; exact Blk.newA w _ _
  have K1 := hide_ k1
  have HB1 := hide_ b1
  have HAw := hide_ (awake_any w1)
  clear b1 k1
  go_enter Try.func5, Try.ntmps5
  go_upto_region 1 with fail
  rw [← hw1]
  clear hw1
  go_wp2_with fail
  refine HAw.out.mono ?_
  rintro e w2 ⟨rfl, hB2⟩
  have HB2 := hide_ (below_to HB1.out hB2)
  have K12 := hide_ (K1.out.later hB2)
  have HCu := hide_ (cut_any aT cT T aR cR R w w2 hn hm hcR hnil hl HB2 hT (hide_ (hRr.out.later HB2.out)))
  have i0 := K12.out.cell 0; have i1 := K12.out.cell 1
  simp at i0 i1
  clear hB2 HAw K1
  go_wp2_with fail
  refine HCu.out.mono ?_
  rintro e w3 ⟨a, cap, ar, cr, Q, rfl, HT3, HQ, HR3, HB3⟩
  have hlc : (cutT T).length ≤ 120 := by simp [cutT]; omega
  have hlr : (R.take 260).length ≤ 260 := by simp; omega
  have HLs := hide_ (cutT_lens T)
  have HL6 : Hid (∀ t ∈ cutT T, t.ps.length ≤ 1000000) := hide_ (fun t ht => by
    simp only [cutT, List.mem_map] at ht
    obtain ⟨u, -, rfl⟩ := ht
    rw [cut1_len]
    omega)
  generalize cutT T = U at *
  generalize R.take 260 = Rc at *
  have HB3x := hide_ (below_to HB2.out HB3.out)
  obtain ⟨w4, hw4⟩ : ∃ wx, wx = w3.alloc (.cells #[.slice a U.length cap, .slice ar Rc.length cr] 31) := ⟨_, rfl⟩
  have b4 : Below w3.heap.size w3 w4 := by rw [hw4]; exact below1 _ _
  have k4 : Blk w4 w3.heap.size 31 [.slice a U.length cap, .slice ar Rc.length cr] := by rw [hw4]; exact Blk.newA w3 _ _
  have K4 := hide_ k4
  have HB4 := hide_ (below_to HB3x.out b4)
  have HT4 := hide_ (HT3.out.later b4)
  have HR4 := hide_ (HR3.out.later b4)
  have hrn : ar = none → cr = 0 := by
    obtain ⟨a', c', e, -, h, -⟩ := own_grow rtc_len HR4.out
    injection e with e1 _ e3
    subst e1
    rw [e3]
    exact h
  have hz4 : w.heap.size ≤ w4.heap.size := HB4.out.size
  have HLe := hide_ (lent_any a cap U ar cr Rc w4 (by omega) (by omega) hrn HL6 (hide_ (town_row HT4.out HQ.out)) (hide_ (rown_row HR4.out)))
  clear i0 i1
  have i0 := k4.cell 0; have i1 := k4.cell 1
  simp at i0 i1
  clear b4 k4 hT hRr K12 HCu
  go_upto_region 4 with fail
  rw [← hw4]
  clear hw4
  go_wp2_with fail
  refine HLe.out.mono ?_
  rintro e w5 ⟨gT, cO, Qo, gR, cO', rfl, HLt5, HQo, HB5⟩
  obtain ⟨w6, hw6⟩ : ∃ wx, wx = w5.alloc (.cells #[.slice (some ⟨gT, 0, none⟩) U.length cO, .slice (some ⟨gR, 0, none⟩) Rc.length cO'] 31) := ⟨_, rfl⟩
  have b6 : Below w5.heap.size w5 w6 := by rw [hw6]; exact below1 _ _
  have k6 : Blk w6 w5.heap.size 31 [.slice (some ⟨gT, 0, none⟩) U.length cO, .slice (some ⟨gR, 0, none⟩) Rc.length cO'] := by rw [hw6]; exact Blk.newA w5 _ _
  have K6 := hide_ k6
  have hb46 := below_to HB5.out b6
  have HB46 := hide_ hb46
  have K46 := hide_ (K4.out.later hb46)
  have HLt6 := hide_ (HLt5.out.later b6)
  have HT6 := hide_ (HT4.out.later hb46)
  have HR6 := hide_ (HR4.out.later hb46)
  have HEx := hide_ (extents_any gT cO Qo gR cO' w4.heap.size a cap U ar cr Rc w6 (by omega) (by omega) HLs HLt6 HQo (hide_ (town_row HT6.out HQ.out)) (hide_ (rown_row HR6.out)))
  clear i0 i1
  have i0 := k6.cell 0; have i1 := k6.cell 1; have j0 := K46.out.cell 0; have j1 := K46.out.cell 1
  simp at i0 i1 j0 j1
  clear b6 k6 hb46 HLt5 HLe
  go_upto_region 5 with fail
  rw [← hw6]
  clear hw6
  go_wp2_with fail
  refine HEx.out.mono ?_
  rintro e w7 ⟨rfl, hB7⟩
  have HB7 := hide_ (below_to HB4.out (below_to HB46.out hB7))
  have K67 := hide_ (K6.out.later hB7)
  have K47 := hide_ (K46.out.later hB7)
  have HLt7 := hide_ (HLt6.out.later hB7)
  have HT7 := hide_ (HT6.out.later hB7)
  have HR7 := hide_ (HR6.out.later hB7)
  clear i0 i1 j0 j1 hB7 HEx HT3 HR3 HT6 HR6 HLt6 K6 K46
  have i0 := K67.out.cell 0; have j0 := K47.out.cell 0
  simp at i0 j0
  by_cases hU0 : U.length = 0
  · have hU1 : ((U.length : Int) == 0) = true := by simp; exact List.eq_nil_of_length_eq_zero hU0
    clear hU0
    go_wp2
    go_ret
    exact ⟨rfl, HB7.out⟩
  · have hU1 : ((U.length : Int) == 0) = false := by simp; intro h; rw [h] at hU0; exact hU0 rfl
    have hql : Q.length = U.length := by have := congrArg List.length HQ.out; simpa using this
    have hqlo : Qo.length = U.length := by have := congrArg List.length HQo.out; simpa using this
    obtain ⟨gS, cS, -, eS, hgS0, -, -, -, -, -⟩ := ownS_blk HT4.out.1 (by omega)
    injection eS with eS eS2 eS3
    subst eS
    clear eS2 eS3
    have hgS1 : gS < w4.heap.size := (World.ownsRow.lt HT4.out.1 gS rfl).2
    obtain ⟨hgT0, hgT1⟩ := World.ownsRow.lt HLt7.out.ty.1 gT rfl
    have HQL := hide_ hql
    have HQLo := hide_ hqlo
    obtain ⟨h1, h2⟩ := tmod_in at' (U.length : Int) (by omega)
    generalize hq : at'.tmod (U.length : Int) = q at *
    have hr0 : 0 ≤ (q + (U.length : Int)).tmod (U.length : Int) := by rw [Int.tmod_eq_emod_of_nonneg (by omega)]; exact Int.emod_nonneg _ (by omega)
    have hr1 : (q + (U.length : Int)).tmod (U.length : Int) < U.length := (tmod_in _ _ (by omega)).2
    have hq0 : wrap64 (q + (U.length : Int)) = q + (U.length : Int) := w64 _ (by omega)
    generalize hs : (q + (U.length : Int)).tmod (U.length : Int) = r at *
    obtain ⟨k, rfl⟩ := Int.eq_ofNat_of_zero_le hr0
    have hkU : k < U.length := by clear hq0; omega
    have hkU' : (k : Int) < U.length := hr1
    have hb8 : Below w7.heap.size w7 w7.drew := (Below.refl _ _).drew
    have HLt8 := hide_ (HLt7.out.later hb8)
    have HT8 := hide_ (HT7.out.later hb8)
    have HR8 := hide_ (HR7.out.later hb8)
    have K68 := hide_ (K67.out.later hb8)
    have K48 := hide_ (K47.out.later hb8)
    have HB8 := hide_ (below_to HB7.out hb8)
    clear hb8 hql hqlo h1 h2 hr0
    go_wp2_with fail
    go_region
    clear hq0 hs hq hr1
    generalize w7.drew = w8 at *
    clear i0 j0 HLt7 HT7 HR7 K67 K47 HB7 HT4 HR4 K4
    obtain ⟨p, hp⟩ : ∃ p, Q[k]? = some p := ⟨_, List.getElem?_eq_getElem (by have := HQL.out; omega)⟩
    obtain ⟨po, hpo⟩ : ∃ p, Qo[k]? = some p := ⟨_, List.getElem?_eq_getElem (by have := HQLo.out; omega)⟩
    have hUk : U[k]? = some p.1 := by rw [← HQ.out, List.getElem?_map, hp]; rfl
    have hUo : U[k]? = some po.1 := by rw [← HQo.out, List.getElem?_map, hpo]; rfl
    have hpe : po.1 = p.1 := by rw [hUk] at hUo; injection hUo with h; exact h.symm
    obtain ⟨hTs, hUs⟩ := HT8.out.setN hp nn
    obtain ⟨zs, hzS⟩ := ownS_type HT8.out.1 (k := gS) rfl
    obtain ⟨-, y1, -, -⟩ := HT8.out.at4 hp
    have fS := HT8.out.fr (k * 4 + 1)
    have hLt9 := HLt8.out.upd hUs (fun k e => by omega)
    have hR9 := HR8.out.updN hUs hzS (by decide)
    have k49 := K48.out.upd hUs (fun e => absurd (blk_type K48.out (e ▸ hzS)) (by decide))
    have k69 := K68.out.upd hUs (fun e => absurd (blk_type K68.out (e ▸ hzS)) (by decide))
    have hB9 : Below w.heap.size w (w8.setCell ⟨gS, k * 4 + 1, none⟩ (.int .i64 nn)) := below_set HB8.out _ _ _ hgS0
    have j0 := K48.out.cell 0
    simp at j0
    obtain ⟨w9, hw9⟩ : ∃ wx, wx = w8.setCell ⟨gS, k * 4 + 1, none⟩ (.int .i64 nn) := ⟨_, rfl⟩
    rw [← hw9] at hTs hLt9 hR9 k49 k69 hB9
    have hLt10 := hLt9.setN hpo nn
    obtain ⟨zo, hzO⟩ := ownS_type hLt9.ty.1 (k := gT) rfl
    have hpo' : (Qo ++ [(mkT, Value.slice none 0 0)])[k]? = some po := by rw [List.getElem?_append_left (by have := HQLo.out; omega)]; exact hpo
    obtain ⟨-, z1, -, -⟩ := hLt9.ty.at4 hpo'
    have fO := hLt9.ty.fr (k * 4 + 1)
    have hUo2 : Upd (fun k => k = gT) w9 (w9.setCell ⟨gT, k * 4 + 1, none⟩ (.int .i64 nn)) := (Upd.refl (fun k => k = gT) w9).set ⟨gT, k * 4 + 1, none⟩ (.int .i64 nn) (.inl rfl)
    have hTs10 : TOwn (w9.setCell ⟨gT, k * 4 + 1, none⟩ (.int .i64 nn)) w.heap.size (.slice (some ⟨gS, 0, none⟩) U.length cap) (Q.set k (⟨p.1.k, nn, p.1.e, p.1.ps⟩, p.2)) := ⟨ownS_upd hTs.1 hUo2 (fun k hk e => by have := own_is hk; omega), fun r hr => (hTs.2 r hr).upd hUo2 (fun k e => by omega) (fun k ys e hb => by subst e; exact absurd (blk_type hzO hb) (by decide))⟩
    have hR10 := hR9.updN hUo2 hzO (by decide)
    have k410 := k49.upd hUo2 (fun e => absurd (blk_type k49 (e ▸ hzO)) (by decide))
    have k610 := k69.upd hUo2 (fun e => absurd (blk_type k69 (e ▸ hzO)) (by decide))
    have hB10 : Below w.heap.size w (w9.setCell ⟨gT, k * 4 + 1, none⟩ (.int .i64 nn)) := below_set hB9 _ _ _ (by omega)
    have i0 := k69.cell 0
    simp at i0
    obtain ⟨w10, hw10⟩ : ∃ wx, wx = w9.setCell ⟨gT, k * 4 + 1, none⟩ (.int .i64 nn) := ⟨_, rfl⟩
    rw [← hw10] at hLt10 hTs10 hR10 k410 k610 hB10
    have hQ2 : (Q.set k (⟨p.1.k, nn, p.1.e, p.1.ps⟩, p.2)).map (·.1) = U.set k ⟨p.1.k, nn, p.1.e, p.1.ps⟩ := by rw [List.map_set, HQ.out]
    have hQo2 : (Qo.set k (⟨po.1.k, nn, po.1.e, po.1.ps⟩, po.2)).map (·.1) = U.set k ⟨p.1.k, nn, p.1.e, p.1.ps⟩ := by rw [List.map_set, HQo.out, hpe]
    have hlen : (U.set k ⟨p.1.k, nn, p.1.e, p.1.ps⟩).length = U.length := by simp
    have hEx2 := extents_any gT cO _ gR cO' w4.heap.size (some ⟨gS, 0, none⟩) cap (U.set k ⟨p.1.k, nn, p.1.e, p.1.ps⟩) ar cr Rc w10 (by omega) (by omega) (hide_ (HLs.out.set k (show p.1.ps.length ≤ 9223372036854775806 from HLs.out.at hUk))) (hide_ hLt10) (hide_ hQo2) (hide_ (town_row hTs10 hQ2)) (hide_ (rown_row hR10))
    rw [hlen] at hEx2
    have HEx2 := hide_ hEx2
    have HB10 := hide_ hB10
    have K410 := hide_ k410
    have K610 := hide_ k610
    clear hTs hUs hLt9 hR9 k49 k69 hB9 hLt10 hUo2 hTs10 hR10 k410 k610 hB10 hQ2 hQo2 hlen hEx2 hpo' hzS hzO hUk hUo hpe hp hpo
    go_upto_region 11 with fail
    rw [← hw9]
    clear hw9 j0 y1 fS
    go_upto_region 12 with fail
    rw [← hw10]
    clear hw10 i0 z1 fO
    have i0 := K610.out.cell 0; have i1 := K610.out.cell 1; have j0 := K410.out.cell 0; have j1 := K410.out.cell 1
    simp at i0 i1 j0 j1
    go_wp2_with fail
    refine HEx2.out.mono ?_
    rintro e w11 ⟨rfl, hB11⟩
    have HBf := hide_ (below_to HB10.out hB11)
    clear hB11
    go_wp2
    go_ret
    exact ⟨rfl, HBf.out⟩
end Go.Proofs.Ytpkghpfdibnhcaa
/- SizeExact, out of its walk. The frame round the walk is that of the tool proof-skeleton. -/
namespace Go.Proofs.Ytpkghpfdibnhcaa.sizeExact
open Go.ChangeShapes Go.WideShapes Go.ChangeAt Go.RowKit
set_option linter.unusedVariables false

theorem own : ownKnob Try.prog.godebug = none := by kernel_rfl
theorem laidOut : laidOutB Try.prog = true := by kernel_rfl

set_option maxRecDepth 100000 in
theorem lifted (os : Os) (started : os.Started) (H : Type) (enc : TypeId × Value → H) :
    ReturnsInHanded {} Try.checked os 5 .any (Rows.sizeExactSpec.pre6 enc Try.prog Try.f5 Rows.sizeExactRow.domain false) (Rows.sizeExactSpec.post enc Try.prog Try.f5 false true false false) := by
  refine returnsInHanded_of_change_sized (C := Try.checked) own started (by kernel_rfl) Try.func5
    (ChangeSpec.witness6 (enc := enc) (C := Try.checked) false ⟨#[], #[.agg #[.slice none 0 0, .slice none 0 0], .int .i64 0, .int .i64 0], []⟩ 8 (by kernel_rfl) (by kernel_rfl) (by kernel_rfl) (by kernel_rfl)) ?_
  intro W base args ds gs before hval0 hW hcnd hsz0 _
  have hval : ∀ (j : Nat) t v, Try.f5.params[j]? = some t → args[j]? = some v → Value.okWide Try.prog W .any base t v := hval0
  have hsz : (DataW.weightsEach Try.prog (Try.f5.params.toList ++ Rows.sizeExactSpec.plain.varTypes Try.prog) (ds ++ gs)).all (· ≤ reachBytes) = true := hsz0
  have hW' := hW
  obtain ⟨p, q, hA0, hV, rfl, hfz, hnd⟩ := hW
  have hA : DataW.TrodAll enc Try.prog W 0 (fun _ => true) true Try.f5.params.toList args.toList ds p := hA0
  rw [Try.params5] at hA hval hsz
  obtain ⟨v0, vs0, d0, ds0, p0, q0, hargs, rfl, rfl, h0, r0⟩ := trodAll_cons hA
  obtain ⟨v1, vs1, d1, ds1, p1, q1, rfl, rfl, rfl, h1, r1⟩ := trodAll_cons r0
  obtain ⟨v2, vs2, d2, ds2, p2, q2, rfl, rfl, rfl, h2, r2⟩ := trodAll_cons r1
  obtain ⟨rfl, rfl, rfl⟩ := trodAll_nil r2
  obtain rfl : args = #[v0, v1, v2] := by cases args; simp_all
  obtain ⟨rfl, rfl⟩ := trodVars_none hV
  obtain ⟨cs0, rfl, _⟩ := okWide_struct Try.underlying31 (hval 0 31 v0 rfl rfl)
  obtain ⟨n1, rfl, rfl, rfl, w1⟩ := open_int Try.underlying3 (hval 1 3 v1 rfl rfl) h1
  obtain ⟨n2, rfl, rfl, rfl, w2⟩ := open_int Try.underlying3 (hval 2 3 v2 rfl rfl) h2
  have k0 := h0
  have lt0 : ∀ x ∈ p0, x.block < W.heap.size := by obtain ⟨m, hm⟩ := k0; exact DataW.trod_lt m _ _ _ hm
  have walk : Calls Try.prog 5 #[.agg cs0, .int .i64 n1, .int .i64 n2] W fun e w' => e = .returned (.bool true) ∧ Below W.heap.size W w' := by
    obtain ⟨fuel, hf⟩ := h0
    obtain ⟨a, cap, T, ar, cr, R, hcs, hcT, hnT, hT, hwT, hcR, hnR, hR, hwR⟩ := schema_open hf (fun n hn => by
      have hm := List.all_eq_true.1 hsz _ (DataW.weights_mem_each (j := 0) rfl rfl _ hn)
      have hm2 : n ≤ reachBytes := of_decide_eq_true hm
      rw [show reachBytes = 140737488351232 from rfl] at hm2
      exact hm2)
    have e0 : cs0 = #[.slice a T.length cap, .slice ar R.length cr] := by
      have : cs0.toList = [.slice a T.length cap, .slice ar R.length cr] := hcs
      exact Array.toList_inj.1 this
    subst e0
    exact exact_any a cap T ar cr R n1 n2 W (by have := hwT.1; omega) (by omega) hcR hnR (hide_ hwT.lens) (hide_ hT) (hide_ hR)
  clear hA0 hval0
  refine walk.mono fun e W' ⟨he, bel⟩ => ?_
  subst he
  exact ⟨_, rfl, _, _, _, [], _, [], hW', trodAll_mk1 (shut_bool Try.underlying4 _), (trodAll_cons_mk (Below.trod laidOut (by kernel_rfl) (of_decide_eq_true (by kernel_rfl)) k0 bel lt0) (trodAll_cons_mk (shut_int Try.underlying3 w1) (trodAll_cons_mk (shut_int Try.underlying3 w2) trodAll_mk0))), rfl, bel.frame _, fun h => by cases h⟩

theorem over : Rows.sizeExactRow.holds Try.pinned (OpenSpec.ofChange Rows.sizeExactSpec) :=
  OpenClaim.holds_of_wide 5 Try.f5 rfl rfl rfl rfl rfl rfl rfl ⟨rfl, rfl, rfl, rfl, rfl⟩ rfl rfl rfl rfl rfl (by kernel_rfl) Try.func5 (by kernel_rfl)
    (of_decide_eq_true (by kernel_rfl)) (by unfold Func.isWrapper; first | (rw [if_pos (by decide +kernel)]; kernel_rfl) | (rw [if_neg (by decide +kernel)]; exact ⟨rfl, rfl⟩))
    (fun os started H enc _ => lifted os started H enc)

theorem proved : Rows.SizeExactSaid := over
end Go.Proofs.Ytpkghpfdibnhcaa.sizeExact
namespace Go.Proofs.Ytpkghpfdibnhcaa
theorem sizeExact_holds : Rows.SizeExactSaid := sizeExact.proved
#print axioms sizeExact_holds
end Go.Proofs.Ytpkghpfdibnhcaa
