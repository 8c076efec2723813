/- The document's Same, of two schemas that are alike. -/
import Derived.Test.YtomfidjmbjpceaaDoorZto
import Derived.BigQuiet
namespace Go.Proofs.YtomfidjmbjpceaaDoor
open Go.RowKit
set_option linter.unusedVariables false

set_option maxRecDepth 100000 in
set_option maxHeartbeats 8000000 in
theorem same_yes (a1 : Option Addr) (c1 : Nat) (r1 : Option Addr) (d1 : Nat) (a2 : Option Addr) (c2 : Nat) (r2 : Option Addr) (d2 : Nat) (T : List Ty) (R : List Rt) (w : World) (hn : T.length ≤ 9223372036854775806) (hm : R.length ≤ 9223372036854775806) (hL : Hid (LensT T)) (hT1 : Hid (TRow w a1 T)) (hR1 : Hid (RRow w r1 R)) (hT2 : Hid (TRow w a2 T)) (hR2 : Hid (RRow w r2 R)) :
    Calls Tryd.prog 34 #[.agg #[.slice a1 T.length c1, .slice r1 R.length d1], .agg #[.slice a2 T.length c2, .slice r2 R.length d2]] w fun e w' => e = .returned (.bool true) ∧ Below w.heap.size w w' := by
  have hB := below2 w (.cells #[.slice a1 T.length c1, .slice r1 R.length d1] 25) (.cells #[.slice a2 T.length c2, .slice r2 R.length d2] 25)
  obtain ⟨k1, k2⟩ := blk2 w #[.slice a1 T.length c1, .slice r1 R.length d1] #[.slice a2 T.length c2, .slice r2 R.length d2] 25 25
  obtain ⟨w0, hw0⟩ : ∃ wx, wx = (w.alloc (.cells #[.slice a1 T.length c1, .slice r1 R.length d1] 25)).alloc (.cells #[.slice a2 T.length c2, .slice r2 R.length d2] 25) := ⟨_, rfl⟩
  rw [← hw0] at hB k1 k2
  have HB0 := hide_ hB
  have K1 := hide_ k1
  have K2 := hide_ k2
  have i0 := k1.cell 0; have i1 := k1.cell 1; have j0 := k2.cell 0; have j1 := k2.cell 1
  simp at i0 i1 j0 j1
  clear hB k1 k2
  go_enter Tryd.func34, Tryd.ntmps34
  go_upto_region 1 with fail
  rw [← hw0]
  clear hw0
  go_wp2_with fail
  go_loopw [5] (fun x5 wr => ∃ (i : Nat), i ≤ T.length ∧ x5 = .int .i64 (i : Int) ∧ Hid (Below w0.heap.size w0 wr)) (fun x5 _ => T.length - (intOf x5).toNat)
  case atStart => exact ⟨0, Nat.zero_le _, rfl, hide_ (Below.refl _ _)⟩
  case round =>
    obtain ⟨i, hi, rfl, HB⟩ := hrel
    generalize wr = wq at *
    clear i0 i1 j0 j1
    have i0 := (K1.out.later HB.out).cell 0; have i1 := (K1.out.later HB.out).cell 1; have j0 := (K2.out.later HB.out).cell 0; have j1 := (K2.out.later HB.out).cell 1
    simp at i0 i1 j0 j1
    by_cases hlt : i < T.length
    · have hlt' : (i : Int) < T.length := by omega
      have hx : T[i]? = some (T[i]'hlt) := List.getElem?_eq_getElem hlt
      have hB' := below_to HB0.out HB.out
      obtain ⟨b1, o1, rfl, hb1, h1⟩ := (hT1.out.later hB').open (by omega)
      obtain ⟨b2, o2, rfl, hb2, h2⟩ := (hT2.out.later hB').open (by omega)
      obtain ⟨va, vc, hc1, hv1, -, hP1⟩ := h1 i _ hx
      obtain ⟨ua, uc, hc2, hv2, -, hP2⟩ := h2 i _ hx
      have hpl := hL.out.at hx
      generalize T[i]'hlt = t at *
      obtain ⟨k, n, el, ps⟩ := t
      simp only at hv1 hv2 hP1 hP2 hpl
      have p0 := hc1 0 (by decide); have p1 := hc1 1 (by decide); have p2 := hc1 2 (by decide); have p3 := hc1 3 (by decide)
      have q0 := hc2 0 (by decide); have q1 := hc2 1 (by decide); have q2 := hc2 2 (by decide); have q3 := hc2 3 (by decide)
      simp [tyc] at p0 p1 p2 p3 q0 q1 q2 q3
      obtain ⟨wa, hwa⟩ : ∃ wx, wx = wq.alloc (.cells #[.int .i64 k, .int .i64 n, .int .i64 el, .slice va ps.length vc] 64) := ⟨_, rfl⟩
      have ba : Below wq.heap.size wq wa := by rw [hwa]; exact below1 _ _
      have ka : Blk wa wq.heap.size 64 [.int .i64 k, .int .i64 n, .int .i64 el, .slice va ps.length vc] := by rw [hwa]; exact Blk.newA wq _ _
      obtain ⟨wb, hwb⟩ : ∃ wx, wx = wa.alloc (.cells #[.int .i64 k, .int .i64 n, .int .i64 el, .slice ua ps.length uc] 64) := ⟨_, rfl⟩
      have bb : Below wa.heap.size wa wb := by rw [hwb]; exact below1 _ _
      have kb : Blk wb wa.heap.size 64 [.int .i64 k, .int .i64 n, .int .i64 el, .slice ua ps.length uc] := by rw [hwb]; exact Blk.newA wa _ _
      have x0 := (hc2 0 (by decide)); 
      have y0 := (ba.cell (p := ⟨b2, o2 + i * 4 + 0, none⟩) hb2).trans (hc2 0 (by decide))
      have y1 := (ba.cell (p := ⟨b2, o2 + i * 4 + 1, none⟩) hb2).trans (hc2 1 (by decide))
      have y2 := (ba.cell (p := ⟨b2, o2 + i * 4 + 2, none⟩) hb2).trans (hc2 2 (by decide))
      have y3 := (ba.cell (p := ⟨b2, o2 + i * 4 + 3, none⟩) hb2).trans (hc2 3 (by decide))
      have s0 := ((K2.out.later HB.out).later ba).cell 0
      simp [tyc] at y0 y1 y2 y3 s0
      have KA := hide_ (ka.later bb)
      have KB := hide_ kb
      have HBb := hide_ (below_to (below_to HB.out ba) bb)
      have HPa := hide_ ((hP1.later ba).later bb)
      have HPb := hide_ ((hP2.later ba).later bb)
      clear hx hB' h1 h2 hc1 hc2 hP1 hP2 x0 q0 q1 q2 q3 bb ba ka kb
      go_upto_region 7 with fail
      rw [← hwa]
      clear hwa p0 p1 p2 p3 i0 i1 j0 j1
      go_upto_region 8 with fail
      rw [← hwb]
      clear hwb y0 y1 y2 y3 s0
      have a0 := KA.out.cell 0; have a1 := KA.out.cell 1; have a2 := KA.out.cell 2; have a3 := KA.out.cell 3
      have b0 := KB.out.cell 0; have b1' := KB.out.cell 1; have b2' := KB.out.cell 2; have b3 := KB.out.cell 3
      simp at a0 a1 a2 a3 b0 b1' b2' b3
      go_wp2_with fail
      clear a0 a1 a2 a3 b0 b1' b2' b3
      go_loopw [8] (fun x8 wr => ∃ (j : Nat), j ≤ ps.length ∧ x8 = .int .i64 (j : Int) ∧ Hid (Below wb.heap.size wb wr)) (fun x8 _ => ps.length - (intOf x8).toNat)
      case atStart => exact ⟨0, Nat.zero_le _, rfl, hide_ (Below.refl _ _)⟩
      case round =>
        obtain ⟨j, hj, rfl, HC⟩ := hrel
        generalize wr = wp at *
        have a3 := (KA.out.later HC.out).cell 3; have b3 := (KB.out.later HC.out).cell 3
        simp at a3 b3
        by_cases hjl : j < ps.length
        · have hjl' : (j : Int) < ps.length := by omega
          have hq : ps[j]? = some (ps[j]'hjl) := List.getElem?_eq_getElem hjl
          obtain ⟨g1, f1, rfl, -, z1⟩ := (HPa.out.later HC.out).open (by omega)
          obtain ⟨g2, f2, rfl, -, z2⟩ := (HPb.out.later HC.out).open (by omega)
          have e0 := z1 j _ hq 0 (by decide); have e1 := z1 j _ hq 1 (by decide); have e2 := z1 j _ hq 2 (by decide)
          have m0 := z2 j _ hq 0 (by decide); have m1 := z2 j _ hq 1 (by decide); have m2 := z2 j _ hq 2 (by decide)
          simp [ptc] at e0 e1 e2 m0 m1 m2
          generalize ps[j]'hjl = pp at *
          have hse := str_eq pp.label pp.label
          simp at hse
          clear hq z1 z2
          go_wp2_with fail
          go_quiet (fail)
          have HCq : ∀ q, Hid (Below wb.heap.size wb (wp.drewN q)) := fun q => hide_ (below_drewN HC.out q)
          go_wp2_with fail
          go_roundw
          case rel => exact ⟨j + 1, by omega, by go_num, HCq _⟩
          case measure => simp [intOf]; omega
        · have hjl' : ¬ (j : Int) < ps.length := by omega
          have HBn := hide_ (below_to HBb.out HC.out)
          go_wp2_with fail
          go_roundw
          case rel => exact ⟨i + 1, by omega, by go_num, HBn⟩
          case measure => simp [intOf]; omega
    · have hlt' : ¬ (i : Int) < T.length := by omega
      have HBr := HB
      go_wp2_with fail
      go_loopw [9] (fun x9 wr => ∃ (j : Nat), j ≤ R.length ∧ x9 = .int .i64 (j : Int) ∧ Hid (Below w0.heap.size w0 wr)) (fun x9 _ => R.length - (intOf x9).toNat)
      case atStart => exact ⟨0, Nat.zero_le _, rfl, HB⟩
      case round =>
        obtain ⟨j, hj, rfl, HC⟩ := hrel
        generalize wr = wp at *
        clear i0 i1 j0 j1
        have i1 := (K1.out.later HC.out).cell 1; have j1 := (K2.out.later HC.out).cell 1
        simp at i1 j1
        by_cases hjl : j < R.length
        · have hjl' : (j : Int) < R.length := by omega
          have hq : R[j]? = some (R[j]'hjl) := List.getElem?_eq_getElem hjl
          obtain ⟨g1, f1, rfl, -, z1⟩ := (hR1.out.later (below_to HB0.out HC.out)).open (by omega)
          obtain ⟨g2, f2, rfl, -, z2⟩ := (hR2.out.later (below_to HB0.out HC.out)).open (by omega)
          have e0 := z1 j _ hq 0 (by decide); have e1 := z1 j _ hq 1 (by decide)
          have m0 := z2 j _ hq 0 (by decide); have m1 := z2 j _ hq 1 (by decide)
          simp [rtc] at e0 e1 m0 m1
          generalize R[j]'hjl = rr at *
          have hse := str_eq rr.name rr.name
          simp at hse
          clear hq z1 z2
          go_wp2_with fail
          go_quiet (fail)
          have HCq : ∀ q, Hid (Below w0.heap.size w0 (wp.drewN q)) := fun q => hide_ (below_drewN HC.out q)
          go_wp2_with fail
          go_roundw
          case rel => exact ⟨j + 1, by omega, by go_num, HCq _⟩
          case measure => simp [intOf]; omega
        · have hjl' : ¬ (j : Int) < R.length := by omega
          have HBn := hide_ (below_to HB0.out HC.out)
          go_wp2
          go_ret
          exact ⟨rfl, HBn.out⟩
end Go.Proofs.YtomfidjmbjpceaaDoor
