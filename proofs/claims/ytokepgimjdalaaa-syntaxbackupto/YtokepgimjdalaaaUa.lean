/- Same. -/
import Derived.Test.YtokepgimjdalaaaSr
namespace Go.Proofs.Ytokepgimjdalaaa
open Go.RowKit
set_option linter.unusedVariables false

def Lens (D : List Df) : Prop := D.length ≤ 9223372036854775807 ∧ ∀ d ∈ D, d.ty.length ≤ 9223372036854775807
theorem own_len {w : World} {B n c : Nat} {e : TypeId} {v : Value} {xs : List Value} (h : w.ownsRow B e c v n xs) : n ≤ 9223372036854775807 := by
  rcases h.2 with ⟨_, h0⟩ | ⟨g, cap, cur, _, _, _, hn, hm, _⟩
  · omega
  · unfold maxLen at hm; omega
theorem Src.lens {w : World} {B : Nat} {vd : Value} {D : List Df} {vs : List Value} (h : Src w B vd D vs) : Lens D := by
  refine ⟨own_len h.2.1, fun d hd => ?_⟩
  obtain ⟨i, hi, rfl⟩ := List.getElem_of_mem hd
  exact own_len (h.2.2.1 i _ _ (List.getElem?_eq_getElem hi) (List.getElem?_eq_getElem (by rw [h.1]; exact hi)))
set_option maxRecDepth 100000 in
set_option maxHeartbeats 8000000 in
theorem same_any (a1 a2 : Option Addr) (c1 c2 : Nat) (D : List Df) (w : World) (hL : Hid (Lens D)) (r1 : Hid (DRow w a1 D)) (r2 : Hid (DRow w a2 D)) :
    Calls Try.prog 14 #[.agg #[.slice a1 D.length c1], .agg #[.slice a2 D.length c2], .bool true] w fun e w' => e = .returned (.bool true) ∧ Below w.heap.size w w' := by
  have hD : D.length ≤ 9223372036854775807 := hL.out.1
  obtain ⟨wa, hwa⟩ : ∃ wa, wa = (w.alloc (.cells #[.slice a1 D.length c1] 25)).alloc (.cells #[.slice a2 D.length c2] 25) := ⟨_, rfl⟩
  obtain ⟨k1, k2⟩ := blk2 w #[.slice a1 D.length c1] #[.slice a2 D.length c2] 25
  have HK1 := hide_ k1
  have HK2 := hide_ k2
  have HBa := hide_ (below2 w (.cells #[.slice a1 D.length c1] 25) (.cells #[.slice a2 D.length c2] 25))
  rw [← hwa] at HK1 HK2 HBa
  clear k1 k2
  go_enter Try.func14, Try.ntmps14
  go_upto_region 1 with fail
  rw [← hwa]
  clear hwa
  have x0 := HK1.out.cell 0; have x1 := HK2.out.cell 0
  simp at x0 x1
  go_wp2_with fail
  clear x0 x1
  go_loopw [7] (fun i wr => ∃ k : Nat, k ≤ D.length ∧ i = .int .i64 (k : Int) ∧ Hid (Below wa.heap.size wa wr)) (fun i _ => D.length - (intOf i).toNat)
  case atStart => exact ⟨0, Nat.zero_le _, rfl, Below.refl _ _⟩
  case round =>
    obtain ⟨k, hk, rfl, HB⟩ := hrel
    generalize wr = wq at *
    have x0 := (HK1.out.later HB.out).cell 0; have x1 := (HK2.out.later HB.out).cell 0
    simp at x0 x1
    by_cases hlt : k < D.length
    · have hlt' : (k : Int) < D.length := by omega
      have HB0 := hide_ (HBa.out.trans (HB.out.mono HBa.out.size))
      obtain ⟨b1, o1, rfl, hb1, hc1⟩ := (r1.out.later HB0.out).open (by omega)
      obtain ⟨b2, o2, rfl, hb2, hc2⟩ := (r2.out.later HB0.out).open (by omega)
      have hd : D[k]? = some (D[k]'hlt) := List.getElem?_eq_getElem hlt
      obtain ⟨va1, vc1, h1, hv1, -, hN1⟩ := hc1 k _ hd
      obtain ⟨va2, vc2, h2, hv2, -, hN2⟩ := hc2 k _ hd
      have hty : (D[k]'hlt).ty.length ≤ 9223372036854775807 := hL.out.2 _ (List.getElem_mem hlt)
      generalize D[k]'hlt = d at *
      have p0 := h1 0 (by decide); have p1 := h1 1 (by decide); have p2 := h1 2 (by decide)
      have q0' := h2 0 (by decide); have q1 := h2 1 (by decide); have q2 := h2 2 (by decide)
      simp [dfc] at p0 p1 p2 q0' q1 q2
      have HN1 := hide_ hN1
      have HN2 := hide_ hN2
      clear hc1 hc2 hd h1 h2 hN1 hN2
      have HBz := hide_ (below2 wq (.cells #[.string d.name, .int .i64 d.a, .slice va1 d.ty.length vc1] 38) (.cells #[.string d.name, .int .i64 d.a, .slice va2 d.ty.length vc2] 38))
      obtain ⟨kz1, kz2⟩ := blk2 wq #[.string d.name, .int .i64 d.a, .slice va1 d.ty.length vc1] #[.string d.name, .int .i64 d.a, .slice va2 d.ty.length vc2] 38
      have KZ1 := hide_ kz1
      have KZ2 := hide_ kz2
      clear kz1 kz2
      have x1a : ∀ ob, (wq.alloc ob).cell? ⟨w.heap.size + 1, 0, none⟩ = some (.slice (some ⟨b2, o2, none⟩) D.length c2) := fun ob => (cell_al wq ob _ _ (HK2.out.later HB.out).lt).trans x1
      have q0a : ∀ ob, (wq.alloc ob).cell? ⟨b2, o2 + k * 3, none⟩ = some (.string d.name) := fun ob => (cell_al wq ob _ _ hb2).trans q0'
      have q1a : ∀ ob, (wq.alloc ob).cell? ⟨b2, o2 + k * 3 + 1, none⟩ = some (.int .i64 d.a) := fun ob => (cell_al wq ob _ _ hb2).trans q1
      have q2a : ∀ ob, (wq.alloc ob).cell? ⟨b2, o2 + k * 3 + 2, none⟩ = some (.slice va2 d.ty.length vc2) := fun ob => (cell_al wq ob _ _ hb2).trans q2
      obtain ⟨wz, hwz⟩ : ∃ wz, wz = (wq.alloc (.cells #[.string d.name, .int .i64 d.a, .slice va1 d.ty.length vc1] 38)).alloc (.cells #[.string d.name, .int .i64 d.a, .slice va2 d.ty.length vc2] 38) := ⟨_, rfl⟩
      rw [← hwz] at HBz KZ1 KZ2
      go_upto_region 8 with fail
      rw [← hwz]
      clear hwz x0 x1 p0 p1 p2 q0' q1 q2 x1a q0a q1a q2a
      have u0 := KZ1.out.cell 0; have u1 := KZ1.out.cell 1; have u2 := KZ1.out.cell 2
      have v0 := KZ2.out.cell 0; have v1 := KZ2.out.cell 1; have v2 := KZ2.out.cell 2
      simp at u0 u1 u2 v0 v1 v2
      go_wp2_with fail
      clear u0 u1 u2 v0 v1 v2
      go_loopw [10] (fun i wr => ∃ m : Nat, m ≤ d.ty.length ∧ i = .int .i64 (m : Int) ∧ Hid (Below wz.heap.size wz wr)) (fun i _ => d.ty.length - (intOf i).toNat)
      case atStart => exact ⟨0, Nat.zero_le _, rfl, Below.refl _ _⟩
      case round =>
        obtain ⟨m, hm, rfl, HBy⟩ := hrel
        generalize wr = wy at *
        have u2 := (KZ1.out.later HBy.out).cell 2
        have v2 := (KZ2.out.later HBy.out).cell 2
        simp at u2 v2
        by_cases hlm : m < d.ty.length
        · have hlm' : (m : Int) < d.ty.length := by omega
          have HB1 := hide_ (HBz.out.trans (HBy.out.mono HBz.out.size))
          obtain ⟨e1, f1, rfl, he1, hx1⟩ := (HN1.out.later HB1.out).open (by omega)
          obtain ⟨e2, f2, rfl, he2, hx2⟩ := (HN2.out.later HB1.out).open (by omega)
          have hx : d.ty[m]? = some (d.ty[m]'hlm) := List.getElem?_eq_getElem hlm
          have g1 := hx1 m _ hx
          have g2 := hx2 m _ hx
          generalize d.ty[m]'hlm = x at *
          have i0 := g1 0 (by decide); have i1 := g1 1 (by decide); have i2 := g1 2 (by decide); have i3 := g1 3 (by decide); have i4 := g1 4 (by decide); have i5 := g1 5 (by decide); have i6 := g1 6 (by decide)
          have j0 := g2 0 (by decide); have j1 := g2 1 (by decide); have j2 := g2 2 (by decide); have j3 := g2 3 (by decide); have j4 := g2 4 (by decide); have j5 := g2 5 (by decide); have j6 := g2 6 (by decide)
          simp [ndc] at i0 i1 i2 i3 i4 i5 i6 j0 j1 j2 j3 j4 j5 j6
          clear hx1 hx2 hx g1 g2
          have v2a : ∀ ob, (wy.alloc ob).cell? ⟨wq.heap.size + 1, 2, none⟩ = some (.slice (some ⟨e2, f2, none⟩) d.ty.length vc2) := fun ob => (cell_al wy ob _ _ (KZ2.out.later HBy.out).lt).trans v2
          have j0a : ∀ ob, (wy.alloc ob).cell? ⟨e2, f2 + m * 7, none⟩ = _ := fun ob => (cell_al wy ob _ _ he2).trans j0
          have j1a : ∀ ob, (wy.alloc ob).cell? ⟨e2, f2 + m * 7 + 1, none⟩ = _ := fun ob => (cell_al wy ob _ _ he2).trans j1
          have j2a : ∀ ob, (wy.alloc ob).cell? ⟨e2, f2 + m * 7 + 2, none⟩ = _ := fun ob => (cell_al wy ob _ _ he2).trans j2
          have j3a : ∀ ob, (wy.alloc ob).cell? ⟨e2, f2 + m * 7 + 3, none⟩ = _ := fun ob => (cell_al wy ob _ _ he2).trans j3
          have j4a : ∀ ob, (wy.alloc ob).cell? ⟨e2, f2 + m * 7 + 4, none⟩ = _ := fun ob => (cell_al wy ob _ _ he2).trans j4
          have j5a : ∀ ob, (wy.alloc ob).cell? ⟨e2, f2 + m * 7 + 5, none⟩ = _ := fun ob => (cell_al wy ob _ _ he2).trans j5
          have j6a : ∀ ob, (wy.alloc ob).cell? ⟨e2, f2 + m * 7 + 6, none⟩ = _ := fun ob => (cell_al wy ob _ _ he2).trans j6
          have HBx := hide_ (HBy.out.trans ((below2 wy (.cells #[.int .i64 x.k, .int .i64 x.n, .string x.name, .string x.label, .int .i64 x.tag, .int .i64 x.kids, .int .i64 x.a] 40) (.cells #[.int .i64 x.k, .int .i64 x.n, .string x.name, .string x.label, .int .i64 x.tag, .int .i64 x.kids, .int .i64 x.a] 40)).mono HBy.out.size))
          obtain ⟨kx1, kx2⟩ := blk2 wy #[.int .i64 x.k, .int .i64 x.n, .string x.name, .string x.label, .int .i64 x.tag, .int .i64 x.kids, .int .i64 x.a] #[.int .i64 x.k, .int .i64 x.n, .string x.name, .string x.label, .int .i64 x.tag, .int .i64 x.kids, .int .i64 x.a] 40
          obtain ⟨wx, hwx⟩ : ∃ wx, wx = (wy.alloc (.cells #[.int .i64 x.k, .int .i64 x.n, .string x.name, .string x.label, .int .i64 x.tag, .int .i64 x.kids, .int .i64 x.a] 40)).alloc (.cells #[.int .i64 x.k, .int .i64 x.n, .string x.name, .string x.label, .int .i64 x.tag, .int .i64 x.kids, .int .i64 x.a] 40) := ⟨_, rfl⟩
          rw [← hwx] at HBx kx1 kx2
          have KX1 := hide_ kx1
          have KX2 := hide_ kx2
          clear kx1 kx2
          go_upto_region 15 with fail
          rw [← hwx]
          clear hwx i0 i1 i2 i3 i4 i5 i6 j0 j1 j2 j3 j4 j5 j6 j0a j1a j2a j3a j4a j5a j6a v2a u2 v2
          have i0 := KX1.out.cell 0; have i1 := KX1.out.cell 1; have i2 := KX1.out.cell 2; have i3 := KX1.out.cell 3; have i4 := KX1.out.cell 4; have i5 := KX1.out.cell 5; have i6 := KX1.out.cell 6
          have j0 := KX2.out.cell 0; have j1 := KX2.out.cell 1; have j2 := KX2.out.cell 2; have j3 := KX2.out.cell 3; have j4 := KX2.out.cell 4; have j5 := KX2.out.cell 5; have j6 := KX2.out.cell 6
          simp at i0 i1 i2 i3 i4 i5 i6 j0 j1 j2 j3 j4 j5 j6
          go_wp2
          go_roundw
          case rel => exact ⟨m + 1, by omega, by go_num, HBx⟩
          case measure => simp [intOf]; omega
        · obtain rfl : m = d.ty.length := by omega
          go_wp2
          go_roundw
          case rel => exact ⟨k + 1, by omega, by go_num, hide_ (HB.out.trans ((HBz.out.trans (HBy.out.mono HBz.out.size)).mono HB.out.size))⟩
          case measure => simp [intOf]; omega
    · obtain rfl : k = D.length := by omega
      go_wp2
      go_ret
      exact ⟨rfl, HBa.out.trans (HB.out.mono HBa.out.size)⟩
end Go.Proofs.Ytokepgimjdalaaa
