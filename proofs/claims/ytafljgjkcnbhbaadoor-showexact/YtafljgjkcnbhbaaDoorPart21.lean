import Derived.Test.YtafljgjkcnbhbaaDoorPart20
import Derived.Test.YtafljgjkcnbhbaaDoorPart13
import Derived.Test.YtafljgjkcnbhbaaDoorPart16
import Derived.Deep.RegionLaw
import Derived.Laws.StructEq

/- kept, with the marks, as ShowExact asks it. -/
namespace Go.Proofs.YtafljgjkcnbhbaaDoor
open Go.RowKit
set_option linter.unusedVariables false

theorem Src.mk {w : World} {B : Nat} {vd : Value} {D : List Df} {vs : List Value} (h : Src w B vd D vs) (hm : MkX w D vs) : ∃ aD cap, vd = .slice aD D.length cap ∧
    ∀ (i : Nat) (d : Df), D[i]? = some d → ∃ gD gn cn, aD = some ⟨gD, 0, none⟩ ∧ gD < w.heap.size ∧ (w.cell? ⟨gD, i * 3, none⟩ = some (.string d.name) ∧ w.cell? ⟨gD, i * 3 + 1, none⟩ = some (.int .i64 d.a) ∧ w.cell? ⟨gD, i * 3 + 2, none⟩ = some (.slice (some ⟨gn, 0, none⟩) d.ty.length cn)) ∧ d.ty.length + 1 ≤ cn ∧ cn ≤ maxLen ∧ gn < w.heap.size ∧
      (∀ (m : Nat) (x : Nd), d.ty[m]? = some x → ∀ j, j < 7 → w.cell? ⟨gn, m * 7 + j, none⟩ = (ndc x)[j]?) ∧ ∀ j, j < 7 → w.cell? ⟨gn, d.ty.length * 7 + j, none⟩ = (ndc mkX)[j]? := by
  rcases Nat.eq_zero_or_pos D.length with h0 | h0
  · obtain ⟨a, cap, h1, -, -⟩ := h.row
    refine ⟨a, cap, h1, fun i d hd => ?_⟩
    obtain ⟨hi, -⟩ := List.getElem?_eq_some_iff.1 hd
    omega
  · obtain ⟨g, cap, ys, rfl, -, -, -, -, ht, hK⟩ := ownS_blk h.2.1 h0
    refine ⟨some ⟨g, 0, none⟩, cap, rfl, fun i d hd => ?_⟩
    have hi := (List.getElem?_eq_some_iff.1 hd).1
    have hv : vs[i]? = some (vs[i]'(by rw [h.1]; exact hi)) := List.getElem?_eq_getElem _
    obtain ⟨gn, cn, zs, e1, e2, e3, e4⟩ := hm i d _ hd hv
    have ho := h.2.2.1 i d _ hd hv
    rw [e1] at ho hv
    have hcn : cn ≤ maxLen := by
      rcases ho.2 with ⟨h0, _⟩ | ⟨g', cap', cur, hv', _, _, _, hcm, _⟩
      · cases h0
      · injection hv' with _ _ e; subst e; exact hcm
    have hcell : ∀ j, j < 3 → w.cell? ⟨g, i * 3 + j, none⟩ = (dfc d (.slice (some ⟨gn, 0, none⟩) d.ty.length cn))[j]? := fun j hj => by
      have := cellsD_at D vs i j d _ hd hv hj
      rw [hK.cell, ← this, ← ht, List.getElem?_take, if_pos (by omega)]
    refine ⟨g, gn, cn, rfl, hK.lt, ⟨hcell 0 (by decide), hcell 1 (by decide), hcell 2 (by decide)⟩, e2, hcn, e3.lt, fun m x hx j hj => ?_, fun j hj => by rw [e3.cell]; exact e4 j hj⟩
    have hml := (List.getElem?_eq_some_iff.1 hx).1
    obtain ⟨g', cap', ys', hv', -, -, -, -, ht', hK'⟩ := ownS_blk ho (by omega)
    injection hv' with q1 q2 q3
    injection q1 with q1
    injection q1 with q1
    subst q1
    rw [hK'.cell, ← cellsN_at d.ty m j x hx hj, ← ht', List.getElem?_take, if_pos (by omega)]
set_option maxRecDepth 100000 in
set_option maxHeartbeats 16000000 in
theorem kept7_any (vd : Value) (vs : List Value) (B : Nat) (a : Option Addr) (c : Nat) (D : List Df) (w : World) (hL : Hid (Wt D)) (hS : Hid (Src w B vd D vs)) (hM : Hid (MkX w D vs)) (r : Hid (DRow w a D)) (hMk : Hid (MkW w)) :
    Calls Tryd.prog 11 #[.agg #[vd], .agg #[.slice a D.length c]] w fun e w' => e = .returned (.bool true) ∧ Below w.heap.size w w' := by
  have hD : D.length ≤ 2932031007401 := hL.out.1
  obtain ⟨aD, cap, rfl, hall⟩ := Src.mk hS.out hM.out
  obtain ⟨k1, k2⟩ := blk2 w #[.slice aD D.length cap] #[.slice a D.length c] 24
  have hB0 := below2 w (.cells #[.slice aD D.length cap] 24) (.cells #[.slice a D.length c] 24)
  obtain ⟨wa, hwa⟩ : ∃ wa, wa = (w.alloc (.cells #[.slice aD D.length cap] 24)).alloc (.cells #[.slice a D.length c] 24) := ⟨_, rfl⟩
  rw [← hwa] at k1 k2 hB0
  have HK1 := hide_ k1
  have HK2 := hide_ k2
  have HB0 := hide_ hB0
  have HAll := hide_ hall
  have x1 := k1.cell 0; have x2 := k2.cell 0
  simp at x1 x2
  clear k1 k2 hB0 hall hS hM
  go_enter Tryd.func11, Tryd.ntmps11
  go_upto_region 1 with fail
  rw [← hwa]
  clear hwa
  go_wp2_with fail
  go_loopw [5] (fun x5 wr => ∃ i : Nat, i ≤ D.length ∧ x5 = .int .i64 (i : Int) ∧ Hid (Below wa.heap.size wa wr)) (fun x5 _ => D.length - (intOf x5).toNat)
  case atStart => exact ⟨0, Nat.zero_le _, rfl, hide_ (Below.refl _ _)⟩
  case round =>
    clear x1 x2
    obtain ⟨i, hi, rfl, HBr⟩ := hrel
    generalize wr = wq at *
    have HB := hide_ (below_to HB0.out HBr.out)
    have x1 := (HK1.out.later HBr.out).cell 0; have x2 := (HK2.out.later HBr.out).cell 0
    simp at x1 x2
    by_cases hlt : i < D.length
    case neg =>
      obtain rfl : i = D.length := by omega
      go_wp2
      go_ret
      exact ⟨rfl, HB.out⟩
    have hlt' : (i : Int) < D.length := by omega
    obtain ⟨b2, o2, rfl, hb2, hc2⟩ := (r.out.later HB.out).open (by omega)
    have hx : D[i]? = some (D[i]'hlt) := List.getElem?_eq_getElem hlt
    obtain ⟨va, vc, hcy, hvc, -, hM⟩ := hc2 i _ hx
    obtain ⟨gD, gn, cn, rfl, hgD, ⟨p0, p1, p2⟩, hcn, hcm, hgn, hnd, hmk⟩ := HAll.out i _ hx
    have hty : (D[i]'hlt).ty.length ≤ 1954687338267 := hL.out.2 _ (List.getElem_mem hlt)
    generalize D[i]'hlt = d at *
    have i0 := (HB.out.cell (p := ⟨gD, i * 3, none⟩) hgD).trans p0
    have i1 := (HB.out.cell (p := ⟨gD, i * 3 + 1, none⟩) hgD).trans p1
    have i2 := (HB.out.cell (p := ⟨gD, i * 3 + 2, none⟩) hgD).trans p2
    have j0 := hcy 0 (by decide); have j1 := hcy 1 (by decide); have j2 := hcy 2 (by decide)
    clear hcy hc2
    simp [dfc] at j0 j1 j2
    have j0a : ∀ ob, (wq.alloc ob).cell? ⟨b2, o2 + i * 3, none⟩ = _ := fun ob => (cell_al wq ob _ _ hb2).trans j0
    have j1a : ∀ ob, (wq.alloc ob).cell? ⟨b2, o2 + i * 3 + 1, none⟩ = _ := fun ob => (cell_al wq ob _ _ hb2).trans j1
    have j2a : ∀ ob, (wq.alloc ob).cell? ⟨b2, o2 + i * 3 + 2, none⟩ = _ := fun ob => (cell_al wq ob _ _ hb2).trans j2
    have hgx : w.heap.size + 1 < wq.heap.size := World.block_lt_of_cell? wq _ x2
    have x2a : ∀ ob, (wq.alloc ob).cell? ⟨w.heap.size + 1, 0, none⟩ = _ := fun ob => (cell_al wq ob _ _ hgx).trans x2
    obtain ⟨kz1, kz2⟩ := blk2 wq #[.string d.name, .int .i64 d.a, .slice (some ⟨gn, 0, none⟩) d.ty.length cn] #[.string d.name, .int .i64 d.a, .slice va d.ty.length vc] 41
    have HBz := hide_ (below2 wq (.cells #[.string d.name, .int .i64 d.a, .slice (some ⟨gn, 0, none⟩) d.ty.length cn] 41) (.cells #[.string d.name, .int .i64 d.a, .slice va d.ty.length vc] 41))
    obtain ⟨wz, hwz⟩ : ∃ wz, wz = (wq.alloc (.cells #[.string d.name, .int .i64 d.a, .slice (some ⟨gn, 0, none⟩) d.ty.length cn] 41)).alloc (.cells #[.string d.name, .int .i64 d.a, .slice va d.ty.length vc] 41) := ⟨_, rfl⟩
    rw [← hwz] at HBz kz1 kz2
    have HZ1 := hide_ kz1
    have HZ2 := hide_ kz2
    have HM := hide_ (hM.later HBz.out)
    have HBw := hide_ (below_to HB.out HBz.out)
    have HB1z := hide_ (below_to HBr.out HBz.out)
    have HNd : Hid (∀ w', Below w.heap.size w w' → ∀ (m : Nat) (x : Nd), d.ty[m]? = some x → ∀ j, j < 7 → w'.cell? ⟨gn, m * 7 + j, none⟩ = (ndc x)[j]?) := hide_ (fun w' h m x hx j hj => (h.cell (p := ⟨gn, m * 7 + j, none⟩) hgn).trans (hnd m x hx j hj))
    have HMm : Hid (∀ w', Below w.heap.size w w' → ∀ j, j < 7 → w'.cell? ⟨gn, d.ty.length * 7 + j, none⟩ = (ndc mkX)[j]?) := hide_ (fun w' h j hj => (h.cell (p := ⟨gn, d.ty.length * 7 + j, none⟩) hgn).trans (hmk j hj))
    have HGl : Hid (∀ w', Below w.heap.size w w' → ∀ j, j < 7 → w'.cell? ⟨0, j, none⟩ = (ndc mkX)[j]?) := hide_ (fun w' h j hj => (h.cell (p := ⟨0, j, none⟩) hMk.out.1).trans (hMk.out.2 j hj))
    have Hcm : Hid (cn ≤ 9223372036854775807) := hide_ hcm
    clear hM hx kz1 kz2 hvc p0 p1 p2 hnd hmk hcm
    go_upto_region 8 with fail
    rw [← hwz]
    clear hwz i0 i1 i2 j0 j1 j2 j0a j1a j2a x1 x2 x2a
    have u0 := HZ1.out.cell 0; have u1 := HZ1.out.cell 1; have u2 := HZ1.out.cell 2
    have v0 := HZ2.out.cell 0; have v1 := HZ2.out.cell 1; have v2 := HZ2.out.cell 2
    simp at u0 u1 u2 v0 v1 v2
    go_wp2_with fail
    clear u0 u1 u2 v0 v1 v2
    go_loopw [8] (fun x8 wr => ∃ k : Nat, k ≤ d.ty.length ∧ x8 = .int .i64 (k : Int) ∧ Hid (Below wz.heap.size wz wr)) (fun x8 _ => d.ty.length - (intOf x8).toNat)
    case atStart => exact ⟨0, Nat.zero_le _, rfl, hide_ (Below.refl _ _)⟩
    case round =>
      obtain ⟨k, hk, rfl, HBk⟩ := hrel
      generalize wr = wk at *
      have HBw2 := hide_ (below_to HBw.out HBk.out)
      have u2 := (HZ1.out.later HBk.out).cell 2
      have v2 := (HZ2.out.later HBk.out).cell 2
      simp at u2 v2
      by_cases hkt : k < d.ty.length
      case neg =>
        obtain rfl : k = d.ty.length := by omega
        have HBo := hide_ (below_to HB1z.out HBk.out)
        have g1 := HMm.out wk HBw2.out
        have g2 := HGl.out wk HBw2.out
        have i0 := g1 0 (by decide); have i1 := g1 1 (by decide); have i2 := g1 2 (by decide); have i3 := g1 3 (by decide); have i4 := g1 4 (by decide); have i5 := g1 5 (by decide); have i6 := g1 6 (by decide)
        have j0 := g2 0 (by decide); have j1 := g2 1 (by decide); have j2 := g2 2 (by decide); have j3 := g2 3 (by decide); have j4 := g2 4 (by decide); have j5 := g2 5 (by decide); have j6 := g2 6 (by decide)
        clear g1 g2
        simp [ndc, mkX] at i0 j0 i1 j1 i2 j2 i3 j3 i4 j4 i5 j5 i6 j6
        have hn1 : IntKind.i64.wrap ((d.ty.length : Int) + 1) = ((d.ty.length + 1 : Nat) : Int) := by rw [IntKind.wrap_i64]; omega
        have hn2 : ((d.ty.length + 1 : Nat) : Int) ≤ cn := by omega
        have hn3 : (d.ty.length : Int) < ((d.ty.length + 1 : Nat) : Int) := by omega
        have hcm' := Hcm.out
        go_wp2_with fail
        go_quiet (fail)
        go_wp2
        go_roundw
        case rel => exact ⟨i + 1, by omega, by go_num, hide_ (below_drewN HBo.out _)⟩
        case measure => simp [intOf]; omega
      have hkt' : (k : Int) < d.ty.length := by omega
      obtain ⟨b4, o4, rfl, hb4, hc4⟩ := (HM.out.later HBk.out).open (by omega)
      have hx : d.ty[k]? = some (d.ty[k]'hkt) := List.getElem?_eq_getElem hkt
      generalize d.ty[k]'hkt = x at *
      have g1 := HNd.out wk HBw2.out k x hx
      have g2 := hc4 k _ hx
      have i0 := g1 0 (by decide); have i1 := g1 1 (by decide); have i2 := g1 2 (by decide); have i3 := g1 3 (by decide); have i4 := g1 4 (by decide); have i5 := g1 5 (by decide); have i6 := g1 6 (by decide)
      have j0 := g2 0 (by decide); have j1 := g2 1 (by decide); have j2 := g2 2 (by decide); have j3 := g2 3 (by decide); have j4 := g2 4 (by decide); have j5 := g2 5 (by decide); have j6 := g2 6 (by decide)
      clear g1 g2 hc4
      simp [ndc] at i0 j0 i1 j1 i2 j2 i3 j3 i4 j4 i5 j5 i6 j6
      go_wp2_with fail
      go_quiet (fail)
      go_wp2
      go_roundw
      case rel => exact ⟨k + 1, by omega, by go_num, hide_ (below_drewN HBk.out _)⟩
      case measure => simp [intOf]; omega
end Go.Proofs.YtafljgjkcnbhbaaDoor
