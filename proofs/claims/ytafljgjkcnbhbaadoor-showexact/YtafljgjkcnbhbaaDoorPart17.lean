import Derived.Test.YtafljgjkcnbhbaaDoorPart15
import Derived.Test.YtafljgjkcnbhbaaDoorPart16
import Derived.Deep.RegionLaw
import Derived.Laws.StructEq

/- The document's Same. -/
namespace Go.Proofs.YtafljgjkcnbhbaaDoor
open Go.RowKit
set_option linter.unusedVariables false

theorem intb_ne {a b : Int} (h : a ≠ b) : (a == b) = false := by simp [h]
theorem strb_ne {a b : ByteArray} (h : a ≠ b) : (a.toList == b.toList) = false := by simp [tl_iff, h]
set_option maxRecDepth 100000 in
set_option maxHeartbeats 16000000 in
theorem sameDd_any (a1 a2 : Option Addr) (c1 c2 : Nat) (D E : List Df) (w : World) (hD : Hid (Lens D)) (hE : Hid (Lens E)) (r1 : Hid (DRow w a1 D)) (r2 : Hid (DRow w a2 E)) :
    Calls Tryd.prog 10 #[.agg #[.slice a1 D.length c1], .agg #[.slice a2 E.length c2]] w fun e w' => Tells (D.map zDf = E.map zDf) w e w' := by
  have hl1 := hD.out.1
  have hl2 := hE.out.1
  obtain ⟨kk1, kk2⟩ := blk2 w #[.slice a1 D.length c1] #[.slice a2 E.length c2] 24
  have HB0 := hide_ (below2 w (.cells #[.slice a1 D.length c1] 24) (.cells #[.slice a2 E.length c2] 24))
  obtain ⟨w1, hw1⟩ : ∃ wx, wx = (w.alloc (.cells #[.slice a1 D.length c1] 24)).alloc (.cells #[.slice a2 E.length c2] 24) := ⟨_, rfl⟩
  rw [← hw1] at kk1 kk2 HB0
  have HK1 := hide_ kk1
  have HK2 := hide_ kk2
  have x1 := kk1.cell 0
  have x2 := kk2.cell 0
  simp at x1 x2
  clear kk1 kk2
  go_enter Tryd.func10, Tryd.ntmps10
  go_upto_region 1 with fail
  rw [← hw1]
  clear hw1
  by_cases hl : D.length = E.length
  case neg =>
    have hl' : ¬ ((D.length : Int) = (E.length : Int)) := by omega
    go_wp2
    go_ret
    exact ⟨false, rfl, hide_ ⟨fun h => (by cases h), fun h => absurd (by simpa using congrArg List.length h) hl⟩, HB0⟩
  rw [← hl] at x2 HK2
  have Hl := hide_ hl
  clear hl
  go_wp2_with fail
  go_loopw [5] (fun x5 wr => ∃ i : Nat, i ≤ D.length ∧ x5 = .int .i64 (i : Int) ∧ Hid ((D.map zDf).take i = (E.map zDf).take i) ∧ Hid (Below w1.heap.size w1 wr)) (fun x5 _ => D.length - (intOf x5).toNat)
  case atStart => exact ⟨0, Nat.zero_le _, rfl, hide_ (by simp), hide_ (Below.refl _ _)⟩
  case round =>
    clear x1 x2
    obtain ⟨i, hi, rfl, HQ, HBr⟩ := hrel
    generalize wr = wq at *
    have HB := hide_ (below_to HB0.out HBr.out)
    have x1 := (HK1.out.later HBr.out).cell 0
    have x2 := (HK2.out.later HBr.out).cell 0
    simp at x1 x2
    by_cases hlt : i < D.length
    case neg =>
      obtain rfl : i = D.length := by omega
      go_wp2
      go_ret
      exact ⟨true, rfl, hide_ ⟨fun _ => (take_iff (by simp) (by simp [Hl.out])).1 HQ.out, fun _ => rfl⟩, HB⟩
    have hlt' : (i : Int) < D.length := by omega
    obtain ⟨b1, o1, rfl, hb1, hc1⟩ := (r1.out.later HB.out).open (by omega)
    obtain ⟨b2, o2, rfl, hb2, hc2⟩ := (r2.out.later HB.out).open (by rw [← Hl.out]; omega)
    have hx : D[i]? = some (D[i]'hlt) := List.getElem?_eq_getElem hlt
    have hy : E[i]? = some (E[i]'(by rw [← Hl.out]; exact hlt)) := List.getElem?_eq_getElem _
    have hd63 := hD.out.2 _ (List.getElem_mem hlt)
    have he63 := hE.out.2 _ (List.getElem_mem (l := E) (n := i) (by rw [← Hl.out]; exact hlt))
    generalize D[i]'hlt = d at *
    generalize E[i]'(by rw [← Hl.out]; exact hlt) = e at *
    obtain ⟨va, vc, hcx, hvc, -, hN⟩ := hc1 i _ hx
    obtain ⟨vb, vd, hcy, hvd, -, hM⟩ := hc2 i _ hy
    have HX := hide_ (take_next (f := zDf) hx hy HQ.out)
    have HF : Hid (¬ zDf d = zDf e → ¬ D.map zDf = E.map zDf) := hide_ (fun hz h => hz (HX.out.2 (by rw [h])))
    have i0 := hcx 0 (by decide); have i1 := hcx 1 (by decide); have i2 := hcx 2 (by decide)
    have j0 := hcy 0 (by decide); have j1 := hcy 1 (by decide); have j2 := hcy 2 (by decide)
    simp [dfc] at i0 i1 i2 j0 j1 j2
    have j0a : ∀ ob, (wq.alloc ob).cell? ⟨b2, o2 + i * 3, none⟩ = _ := fun ob => (cell_al wq ob _ _ hb2).trans j0
    have j1a : ∀ ob, (wq.alloc ob).cell? ⟨b2, o2 + i * 3 + 1, none⟩ = _ := fun ob => (cell_al wq ob _ _ hb2).trans j1
    have j2a : ∀ ob, (wq.alloc ob).cell? ⟨b2, o2 + i * 3 + 2, none⟩ = _ := fun ob => (cell_al wq ob _ _ hb2).trans j2
    have hgx : w.heap.size + 1 < wq.heap.size := World.block_lt_of_cell? wq _ x2
    have x2a : ∀ ob, (wq.alloc ob).cell? ⟨w.heap.size + 1, 0, none⟩ = _ := fun ob => (cell_al wq ob _ _ hgx).trans x2
    obtain ⟨kz1, kz2⟩ := blk2 wq #[.string d.name, .int .i64 d.a, .slice va d.ty.length vc] #[.string e.name, .int .i64 e.a, .slice vb e.ty.length vd] 41
    have HBz := hide_ (below2 wq (.cells #[.string d.name, .int .i64 d.a, .slice va d.ty.length vc] 41) (.cells #[.string e.name, .int .i64 e.a, .slice vb e.ty.length vd] 41))
    obtain ⟨wz, hwz⟩ : ∃ wz, wz = (wq.alloc (.cells #[.string d.name, .int .i64 d.a, .slice va d.ty.length vc] 41)).alloc (.cells #[.string e.name, .int .i64 e.a, .slice vb e.ty.length vd] 41) := ⟨_, rfl⟩
    rw [← hwz] at HBz kz1 kz2
    have HZ1 := hide_ kz1
    have HZ2 := hide_ kz2
    have HN := hide_ (hN.later HBz.out)
    have HM := hide_ (hM.later HBz.out)
    have HBw := hide_ (below_to HB.out HBz.out)
    have HB1z := hide_ (below_to HBr.out HBz.out)
    clear hN hM hcx hcy hx hy hc1 hc2 kz1 kz2 HQ hvc hvd
    go_upto_region 8 with fail
    rw [← hwz]
    clear hwz i0 i1 i2 j0 j1 j2 j0a j1a j2a x1 x2 x2a
    have u0 := HZ1.out.cell 0; have u2 := HZ1.out.cell 2
    have v0 := HZ2.out.cell 0; have v2 := HZ2.out.cell 2
    simp at u0 u2 v0 v2
    by_cases hnm : d.name = e.name
    case neg =>
      have hnf : ¬ d.name.toList = e.name.toList := fun h => hnm ((tl_iff _ _).1 h)
      have HV := hide_ (HF.out (fun h => hnm (by simpa [zDf] using congrArg Df.name h)))
      go_wp2
      all_goals
        go_ret
        exact ⟨false, rfl, hide_ ⟨fun h => (by cases h), fun h => absurd h HV.out⟩, HBw⟩
    by_cases hln : d.ty.length = e.ty.length
    case neg =>
      have hln' : ¬ ((d.ty.length : Int) = (e.ty.length : Int)) := by omega
      have HV := hide_ (HF.out (fun h => hln (by simpa [zDf] using congrArg (fun q => q.ty.length) h)))
      go_wp2
      all_goals
        go_ret
        exact ⟨false, rfl, hide_ ⟨fun h => (by cases h), fun h => absurd h HV.out⟩, HBw⟩
    have Hnm := hide_ hnm
    rw [hnm] at u0
    rw [← hln] at v2 HZ2
    have Hln := hide_ hln
    clear hnm hln
    go_wp2_with fail
    clear u0 u2 v0 v2
    go_loopw [8] (fun x8 wr => ∃ k : Nat, k ≤ d.ty.length ∧ x8 = .int .i64 (k : Int) ∧ Hid ((d.ty.map zNd).take k = (e.ty.map zNd).take k) ∧ Hid (Below wz.heap.size wz wr)) (fun x8 _ => d.ty.length - (intOf x8).toNat)
    case atStart => exact ⟨0, Nat.zero_le _, rfl, hide_ (by simp), hide_ (Below.refl _ _)⟩
    case round =>
      obtain ⟨k, hk, rfl, HQ, HBk⟩ := hrel
      generalize wr = wk at *
      have HBw2 := hide_ (below_to HBw.out HBk.out)
      have u2 := (HZ1.out.later HBk.out).cell 2
      have v2 := (HZ2.out.later HBk.out).cell 2
      simp at u2 v2
      by_cases hkt : k < d.ty.length
      case neg =>
        obtain rfl : k = d.ty.length := by omega
        have hEq : zDf d = zDf e := by
          have h := (take_iff (by simp) (by simp [Hln.out])).1 HQ.out
          unfold zDf
          rw [Hnm.out, h]
        have HQ2 := hide_ (HX.out.1 hEq)
        have HBo := hide_ (below_to HB1z.out HBk.out)
        clear hEq
        go_wp2
        go_roundw
        case rel => exact ⟨i + 1, by omega, by go_num, HQ2, HBo⟩
        case measure => simp [intOf]; omega
      have hkt' : (k : Int) < d.ty.length := by omega
      obtain ⟨b3, o3, rfl, hb3, hc3⟩ := (HN.out.later HBk.out).open (by omega)
      obtain ⟨b4, o4, rfl, hb4, hc4⟩ := (HM.out.later HBk.out).open (by rw [← Hln.out]; omega)
      have hx : d.ty[k]? = some (d.ty[k]'hkt) := List.getElem?_eq_getElem hkt
      have hy : e.ty[k]? = some (e.ty[k]'(by rw [← Hln.out]; exact hkt)) := List.getElem?_eq_getElem _
      generalize d.ty[k]'hkt = x at *
      generalize e.ty[k]'(by rw [← Hln.out]; exact hkt) = y at *
      have HXn := hide_ (take_next (f := zNd) hx hy HQ.out)
      have HFn : Hid (¬ zNd x = zNd y → ¬ D.map zDf = E.map zDf) := hide_ (fun hz h => HF.out (fun h2 => hz (by
        have h3 : d.ty.map zNd = e.ty.map zNd := congrArg Df.ty h2
        exact HXn.out.2 (by rw [h3]))) h)
      have g1 := hc3 k _ hx
      have g2 := hc4 k _ hy
      have i0 := g1 0 (by decide); have i1 := g1 1 (by decide); have i2 := g1 2 (by decide); have i3 := g1 3 (by decide); have i4 := g1 4 (by decide); have i5 := g1 5 (by decide); have i6 := g1 6 (by decide)
      have j0 := g2 0 (by decide); have j1 := g2 1 (by decide); have j2 := g2 2 (by decide); have j3 := g2 3 (by decide); have j4 := g2 4 (by decide); have j5 := g2 5 (by decide); have j6 := g2 6 (by decide)
      simp [ndc] at i0 j0 i1 j1 i2 j2 i3 j3 i4 j4 i5 j5 i6 j6
      obtain ⟨wA, hwA⟩ : ∃ wA, wA = wk.alloc (.cells #[.int .i64 x.k, .int .i64 x.n, .string x.name, .string x.label, .int .i64 x.tag, .int .i64 x.kids, .int .i64 x.a] 38) := ⟨_, rfl⟩
      have kA : Blk wA wk.heap.size 38 [.int .i64 x.k, .int .i64 x.n, .string x.name, .string x.label, .int .i64 x.tag, .int .i64 x.kids, .int .i64 x.a] := by rw [hwA]; exact Blk.newA wk #[.int .i64 x.k, .int .i64 x.n, .string x.name, .string x.label, .int .i64 x.tag, .int .i64 x.kids, .int .i64 x.a] 38
      have hBA : Below wk.heap.size wk wA := by rw [hwA]; exact (Below.refl _ _).alloc (Nat.le_refl _) _
      have v2A := ((HZ2.out.later HBk.out).later hBA).cell 2
      have j6A := (hBA.cell (p := ⟨b4, o4 + k * 7 + 6, none⟩) hb4).trans j6
      simp at v2A
      obtain ⟨wB, hwB⟩ : ∃ wB, wB = wA.setCell ⟨wk.heap.size, 6, none⟩ (.int .i64 y.a) := ⟨_, rfl⟩
      have kB : Blk wB wk.heap.size 38 [.int .i64 x.k, .int .i64 x.n, .string x.name, .string x.label, .int .i64 x.tag, .int .i64 x.kids, .int .i64 y.a] := by rw [hwB]; exact kA.set 6 _
      have hBB : Below wk.heap.size wk wB := by rw [hwB]; exact below_set hBA wk.heap.size 6 _ (Nat.le_refl _)
      have HZ2B := hide_ ((HZ2.out.later HBk.out).later hBB)
      have f6 := kA.frozen 6
      have c6 := kA.cell 6
      simp at c6
      have HJ : Hid (wB.cell? ⟨b4, o4 + k * 7, none⟩ = some (.int .i64 y.k) ∧ wB.cell? ⟨b4, o4 + k * 7 + 1, none⟩ = some (.int .i64 y.n) ∧ wB.cell? ⟨b4, o4 + k * 7 + 2, none⟩ = some (.string y.name) ∧ wB.cell? ⟨b4, o4 + k * 7 + 3, none⟩ = some (.string y.label) ∧ wB.cell? ⟨b4, o4 + k * 7 + 4, none⟩ = some (.int .i64 y.tag) ∧ wB.cell? ⟨b4, o4 + k * 7 + 5, none⟩ = some (.int .i64 y.kids) ∧ wB.cell? ⟨b4, o4 + k * 7 + 6, none⟩ = some (.int .i64 y.a)) := hide_ ⟨(hBB.cell (p := ⟨b4, o4 + k * 7, none⟩) hb4).trans j0, (hBB.cell (p := ⟨b4, o4 + k * 7 + 1, none⟩) hb4).trans j1, (hBB.cell (p := ⟨b4, o4 + k * 7 + 2, none⟩) hb4).trans j2, (hBB.cell (p := ⟨b4, o4 + k * 7 + 3, none⟩) hb4).trans j3, (hBB.cell (p := ⟨b4, o4 + k * 7 + 4, none⟩) hb4).trans j4, (hBB.cell (p := ⟨b4, o4 + k * 7 + 5, none⟩) hb4).trans j5, (hBB.cell (p := ⟨b4, o4 + k * 7 + 6, none⟩) hb4).trans j6⟩
      have HKB := hide_ kB
      have HBB := hide_ (below_to HBk.out hBB)
      clear g1 g2 hc3 hc4 hx hy HQ kA kB hBA hBB j0 j1 j2 j3 j4 j5 j6
      go_upto_region 14 with fail
      rw [← hwA]
      clear hwA i0 i1 i2 i3 i4 i5 i6
      go_upto_region 15 with fail
      rw [← hwB]
      clear hwB v2A j6A f6 c6 v2 u2
      have q0 := HKB.out.cell 0; have q1 := HKB.out.cell 1; have q2 := HKB.out.cell 2; have q3 := HKB.out.cell 3; have q4 := HKB.out.cell 4; have q5 := HKB.out.cell 5; have q6 := HKB.out.cell 6
      have v2 := HZ2B.out.cell 2
      simp at q0 q1 q2 q3 q4 q5 q6 v2
      obtain ⟨j0, j1, j2, j3, j4, j5, j6⟩ := HJ.out
      clear HJ HKB HZ2B
      by_cases hz : zNd x = zNd y
      case pos =>
        obtain ⟨xk, xn, xm, xl, xt, xd, xa⟩ := x
        obtain ⟨yk, yn, ym, yl, yt, yd, ya⟩ := y
        have HQ2 := hide_ (HXn.out.1 hz)
        simp only [zNd, Nd.mk.injEq] at hz
        obtain ⟨rfl, rfl, rfl, rfl, rfl, rfl, -⟩ := hz
        simp only at q0 q1 q2 q3 q4 q5 q6 j0 j1 j2 j3 j4 j5 j6
        go_quiet (fail)
        go_wp2
        go_roundw
        case rel => exact ⟨k + 1, by omega, by go_num, HQ2, hide_ (below_drewN HBB.out _)⟩
        case measure => simp [intOf]; omega
      case neg =>
        have HV := hide_ (HFn.out hz)
        obtain ⟨xk, xn, xm, xl, xt, xd, xa⟩ := x
        obtain ⟨yk, yn, ym, yl, yt, yd, ya⟩ := y
        have HBe := hide_ (fun q => below_drewN (below_to HBw.out HBB.out) q)
        clear HXn HFn
        have hc : xk ≠ yk ∨ (xk = yk ∧ (xn ≠ yn ∨ (xn = yn ∧ (xm ≠ ym ∨ (xm = ym ∧ (xl ≠ yl ∨ (xl = yl ∧ (xt ≠ yt ∨ (xt = yt ∧ xd ≠ yd))))))))) := by
          by_cases d1 : xk = yk <;> by_cases d2 : xn = yn <;> by_cases d3 : xm = ym <;> by_cases d4 : xl = yl <;> by_cases d5 : xt = yt <;> by_cases d6 : xd = yd <;> simp_all [zNd]
        simp only at q0 q1 q2 q3 q4 q5 q6 j0 j1 j2 j3 j4 j5 j6
        clear hz
        rcases hc with h | ⟨rfl, h | ⟨rfl, h | ⟨rfl, h | ⟨rfl, h | ⟨rfl, h⟩⟩⟩⟩⟩
        all_goals
          first
            | have hb := intb_ne h
            | have hb := strb_ne h
          clear h
          go_quiet (fail)
          go_wp2
          go_ret
          exact ⟨false, rfl, hide_ ⟨fun h => (by cases h), fun h => absurd h HV.out⟩, hide_ (HBe.out _)⟩
end Go.Proofs.YtafljgjkcnbhbaaDoor
