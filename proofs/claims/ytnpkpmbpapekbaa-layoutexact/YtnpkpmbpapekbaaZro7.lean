/- The document's extents: one of a union, a struct. -/
import Derived.Test.YtnpkpmbpapekbaaZro1
import Derived.Test.YtnpkpmbpapekbaaRgf
namespace Go.Proofs.Ytnpkpmbpapekbaa
open Go.RowKit
set_option linter.unusedVariables false

def kidX (X : List Ex) (ps : List Pt) : List Ex := ps.map (fun p => exAt X p.ty)
theorem kidX_at {X : List Ex} {ps : List Pt} {m : Nat} {p : Pt} (h : ps[m]? = some p) : (kidX X ps)[m]? = some (exAt X p.ty) := by
  unfold kidX
  rw [List.getElem?_map, h]
  rfl
theorem ch_one {X : List Ex} {x : Ex} (h : XOk x) (hx : X[0]? = some x) : chX (X.take 1) = (x.l, x.m) ∧ deepX (X.take 1) = x.d := by
  have e1 := chX_succ hx
  have e2 := deepX_succ hx
  have := h.l0; have := h.lm; have := h.mh; have := h.d0
  rw [Nat.zero_add] at e1 e2
  rw [e1, e2]
  simp only [List.take_zero, chX, deepX, List.foldl_nil]
  refine ⟨Prod.ext (by simp only; omega) (by simp only; omega), by omega⟩
set_option maxRecDepth 100000 in
set_option maxHeartbeats 8000000 in
theorem one7_any (n el : Int) (ps : List Pt) (va : Option Addr) (vc : Nat) (X : List Ex) (ax : Option Addr) (cx : Nat) (w : World) (hXl : X.length ≤ 10000000000000) (hbd : Hid (∀ x ∈ X, XOk x ∧ x.d ≤ 1000000)) (hps : 0 < ps.length) (hpl : ps.length ≤ 64) (hpt : Hid (∀ (j : Nat) (p : Pt), ps[j]? = some p → 0 ≤ p.ty ∧ p.ty < X.length)) (hP : Hid (PRow w va ps)) (hX : Hid (XRow w ax X)) : Calls Try.prog 51 #[.agg #[.int .i64 7, .int .i64 n, .int .i64 el, .slice va ps.length vc], .slice ax X.length cx] w fun e w' => e = .returned (exv ⟨false, plus2 1 (chX (kidX X ps)).1, plus2 1 (chX (kidX X ps)).2, 1 + deepX (kidX X ps)⟩) ∧ Below w.heap.size w w' := by
  have hB := below2 w (.cells #[.int .i64 7, .int .i64 n, .int .i64 el, .slice va ps.length vc] 46) (.cells #[.bool false, .int .i64 0, .int .i64 0, .int .i64 0] 53)
  obtain ⟨k1, k2⟩ := blk2 w #[.int .i64 7, .int .i64 n, .int .i64 el, .slice va ps.length vc] #[.bool false, .int .i64 0, .int .i64 0, .int .i64 0] 46 53
  obtain ⟨w0, hw0⟩ : ∃ wx, wx = (w.alloc (.cells #[.int .i64 7, .int .i64 n, .int .i64 el, .slice va ps.length vc] 46)).alloc (.cells #[.bool false, .int .i64 0, .int .i64 0, .int .i64 0] 53) := ⟨_, rfl⟩
  rw [← hw0] at hB k1 k2
  have K1 := hide_ k1
  have K2 := hide_ k2
  have HB := hide_ hB
  have i0 := k1.cell 0; have i1 := k1.cell 1; have i2 := k1.cell 2; have i3 := k1.cell 3
  have j0 := k2.cell 0; have j1 := k2.cell 1; have j2 := k2.cell 2; have j3 := k2.cell 3
  have jf := fun i => k2.frozen i
  simp at i0 i1 i2 i3 j0 j1 j2 j3
  have HGet : Hid (∀ (j : Nat), j < ps.length → ∀ w', Below w0.heap.size w0 w' → ∃ (bp op : Nat) (bx ox m : Nat), va = some ⟨bp, op, none⟩ ∧ ax = some ⟨bx, ox, none⟩ ∧ (kidX X ps)[j]? = some (exAt X m) ∧ (m : Int) < X.length ∧ w'.cell? ⟨bp, op + j * 3 + 2, none⟩ = some (.int .i64 (m : Int)) ∧ (∀ i, i < 4 → w'.cell? ⟨bx, ox + m * 4 + i, none⟩ = (exc (exAt X m))[i]?) ∧ XOk (exAt X m) ∧ (exAt X m).d ≤ 1000000) := hide_ (fun j hj w' hB' => by
    obtain ⟨bp, op, e1, hbp, hcp⟩ := hP.out.open (by omega)
    have hq : ps[j]? = some (ps[j]'hj) := List.getElem?_eq_getElem hj
    obtain ⟨h0, h1⟩ := hpt.out j _ hq
    obtain ⟨m, hm⟩ := Int.eq_ofNat_of_zero_le h0
    obtain ⟨bx, ox, e2, hbx, hcx⟩ := hX.out.open (by omega)
    have hxe := exAt_at (X := X) (i := m) (by omega)
    have hB2 := below_to HB.out hB'
    refine ⟨bp, op, bx, ox, m, e1, e2, by rw [kidX_at hq, hm], by omega, ?_, fun i hi => (hB2.cell (p := ⟨bx, ox + m * 4 + i, none⟩) hbx).trans (hcx m _ hxe i hi), (hbd.out _ (List.mem_of_getElem? hxe)).1, (hbd.out _ (List.mem_of_getElem? hxe)).2⟩
    have h2 := hcp j _ hq 2 (by decide)
    rw [show (ptc (ps[j]'hj))[2]? = some (.int .i64 (ps[j]'hj).ty) from rfl, hm] at h2
    exact (hB2.cell (p := ⟨bp, op + j * 3 + 2, none⟩) hbp).trans h2)
  have HKl : Hid ((kidX X ps).length = ps.length) := hide_ (by simp [kidX])
  have HCp : Hid (∀ (a b : Int) (w' : World), Calls Try.prog 67 #[.int .i64 a, .int .i64 b] w' fun e w'' => e = .returned (.int .i64 (plus2 a b)) ∧ Below w'.heap.size w' w'') := hide_ (fun a b w' => rplus_any a b w')
  clear hB k1 k2 hP hX hbd hpt
  generalize kidX X ps = Y at *
  obtain ⟨bp, op, bx, ox, m, rfl, rfl, hy0, hmx, hc2, hcx, hxo, hxd⟩ := HGet.out 0 hps w0 (Below.refl _ _)
  have x0 := hcx 0 (by decide); have x1 := hcx 1 (by decide); have x2 := hcx 2 (by decide); have x3 := hcx 3 (by decide)
  have H1 := hide_ (ch_one hxo hy0)
  have hxn : 0 ≤ (exAt X m).d := hxo.d0
  generalize exAt X m = xx at *
  obtain ⟨xf, xl, xm, xd⟩ := xx
  simp [exc] at x0 x1 x2 x3 hc2 hxd hxn
  have hpl0 : (0 : Int) < (ps.length : Int) := by omega
  obtain ⟨w1, hw1⟩ : ∃ wx, wx = w0.alloc (.cells #[.bool xf, .int .i64 xl, .int .i64 xm, .int .i64 xd] 53) := ⟨_, rfl⟩
  have b1 : Below w0.heap.size w0 w1 := by rw [hw1]; exact below1 _ _
  have kx : Blk w1 w0.heap.size 53 [.bool xf, .int .i64 xl, .int .i64 xm, .int .i64 xd] := by rw [hw1]; exact Blk.newA w0 _ _
  have KX := hide_ kx
  have HBx := hide_ b1
  obtain ⟨g9, hg9⟩ : ∃ g, w0.heap.size = g := ⟨_, rfl⟩
  have HG9 := hide_ hg9
  clear b1 kx hcx hxo hy0
  go_enter Try.func51, Try.ntmps51
  go_upto_region 1 with fail
  rw [← hw0]
  clear hw0
  go_upto_region 12 with fail
  rw [← hw1]
  try rw [hg9]
  rw [hg9] at KX
  clear hw1 hg9 i0 i1 i2 i3 j0 j1 j2 j3 jf x0 x1 x2 x3 hc2
  go_wp2_with fail
  go_loopw [10] (fun x10 wr => ∃ (i : Nat) (f : Bool) (L M D : Int), 1 ≤ i ∧ i ≤ ps.length ∧ x10 = .int .i64 (i : Int) ∧ Hid ((L, M) = chX (Y.take i)) ∧ Hid (D = deepX (Y.take i)) ∧ 0 ≤ D ∧ D ≤ 1000000 ∧ Hid (Blk wr g9 53 [.bool f, .int .i64 L, .int .i64 M, .int .i64 D]) ∧ Hid (Below w0.heap.size w0 wr)) (fun x10 _ => ps.length - (intOf x10).toNat)
  case atStart => exact ⟨1, xf, xl, xm, xd, by omega, by omega, rfl, hide_ H1.out.1.symm, hide_ H1.out.2.symm, hxn, hxd, KX, HBx⟩
  case round =>
    obtain ⟨i, f, L, M, D, hi1, hi, rfl, HC, HD, hD0, hD1, K9, HB1⟩ := hrel
    generalize wr = wq at *
    clear KX HBx H1 hmx
    have i3 := (K1.out.later HB1.out).cell 3
    have q1 := K9.out.cell 1; have q2 := K9.out.cell 2; have q3 := K9.out.cell 3
    simp at i3 q1 q2 q3
    by_cases hlt : i < ps.length
    · have hlt' : (i : Int) < ps.length := by omega
      obtain ⟨bp', op', bx', ox', m', e1, e2, hy, hmx, hc2, hcx, hxo, hxd'⟩ := HGet.out i hlt wq HB1.out
      injection e1 with e1
      injection e1 with e1 e1' _
      injection e2 with e2
      injection e2 with e2 e2' _
      subst e1 e1' e2 e2'
      have x0 := hcx 0 (by decide); have x1 := hcx 1 (by decide); have x2 := hcx 2 (by decide); have x3 := hcx 3 (by decide)
      have HCs := hide_ (chX_succ hy)
      have HDs := hide_ (deepX_succ hy)
      rw [← HC.out] at HCs
      rw [← HD.out] at HDs
      have hxn' : 0 ≤ (exAt X m').d := hxo.d0
      generalize exAt X m' = yy at *
      obtain ⟨yf, yl, ym, yd⟩ := yy
      simp [exc] at x0 x1 x2 x3 hc2
      simp only at HCs HDs hxd' hxn'
      obtain ⟨wa, hwa⟩ : ∃ wx, wx = wq.alloc (.cells #[.bool yf, .int .i64 yl, .int .i64 ym, .int .i64 yd] 53) := ⟨_, rfl⟩
      have ba : Below wq.heap.size wq wa := by rw [hwa]; exact below1 _ _
      have ka : Blk wa wq.heap.size 53 [.bool yf, .int .i64 yl, .int .i64 ym, .int .i64 yd] := by rw [hwa]; exact Blk.newA wq _ _
      have k9 := K9.out.later ba
      have HW9 : Hid (∀ a b c, Blk ((((wa.setCell ⟨g9, 0, none⟩ (.bool false)).setCell ⟨g9, 1, none⟩ (.int .i64 a)).setCell ⟨g9, 2, none⟩ (.int .i64 b)).setCell ⟨g9, 3, none⟩ (.int .i64 c)) g9 53 [.bool false, .int .i64 a, .int .i64 b, .int .i64 c]) := hide_ (fun a b c => wr4 k9 _ _ _ _)
      have HWB : Hid (∀ a b c, Below w0.heap.size w0 ((((wa.setCell ⟨g9, 0, none⟩ (.bool false)).setCell ⟨g9, 1, none⟩ (.int .i64 a)).setCell ⟨g9, 2, none⟩ (.int .i64 b)).setCell ⟨g9, 3, none⟩ (.int .i64 c))) := hide_ (fun a b c => below_wr4 (below_to HB1.out ba) g9 (by have := HG9.out; omega) _ _ _ _)
      have p0 := ka.cell 0; have p1 := ka.cell 1; have p2 := ka.cell 2; have p3 := ka.cell 3
      have s0 := k9.cell 0; have s1 := k9.cell 1; have s2 := k9.cell 2; have s3 := k9.cell 3
      have sf := fun i => k9.frozen i
      simp at p0 p1 p2 p3 s0 s1 s2 s3
      clear ba ka k9 hcx hy hxo
      go_upto_region 16 with fail
      rw [← hwa]
      clear hwa x0 x1 x2 x3 hc2 q1 q2 q3 i3
      go_wp2_with fail
      all_goals
        go_roundw
        case rel => exact ⟨i + 1, false, _, _, _, by omega, by omega, by go_num, hide_ (by rw [HCs.out]; refine Prod.ext ?_ ?_ <;> (simp only; omega)), hide_ (by rw [HDs.out]; omega), by omega, by omega, hide_ (HW9.out _ _ _), hide_ (HWB.out _ _ _)⟩
        case measure => simp [intOf]; omega
    · have hlt' : ¬ (i : Int) < ps.length := by omega
      have HV : Hid ((⟨false, plus2 1 (chX Y).1, plus2 1 (chX Y).2, 1 + deepX Y⟩ : Ex) = ⟨false, plus2 1 L, plus2 1 M, 1 + D⟩) := hide_ (by
        have h1 := HC.out; have h2 := HD.out
        rw [List.take_of_length_le (by have := HKl.out; omega)] at h1 h2
        rw [← h1, ← h2])
      have HSS : Hid (∀ w', Below wq.heap.size wq w' → Below wq.heap.size wq w' ∧ w'.cell? ⟨g9, 1, none⟩ = some (.int .i64 L) ∧ w'.cell? ⟨g9, 2, none⟩ = some (.int .i64 M) ∧ w'.cell? ⟨g9, 3, none⟩ = some (.int .i64 D)) := hide_ (fun w' hB' => ⟨hB', (K9.out.later hB').cell 1, (K9.out.later hB').cell 2, (K9.out.later hB').cell 3⟩)
      have hw2 : IntKind.i64.wrap (1 + D) = 1 + D := by rw [IntKind.wrap_i64]; omega
      go_upto_region 17 with fail
      refine wp_region_last 10 (fun w' => Below wq.heap.size wq w' ∧ w'.cell? ⟨g9, 1, none⟩ = some (.int .i64 L) ∧ w'.cell? ⟨g9, 2, none⟩ = some (.int .i64 M) ∧ w'.cell? ⟨g9, 3, none⟩ = some (.int .i64 D)) (by kernel_rfl) (HSS.out _ ((Below.refl wq.heap.size wq).drew)) (fun hHeld => ?_)
      refine wpAnyF_take [10] (by kernel_rfl) (i := 0) (v := ?vu1) rfl (by kernel_rfl) (by kernel_rfl) (by kernel_rfl) (fun _ _ _ h => h) (Or.inl ⟨by rfl, ?hyu1⟩) hHeld ?restu1
      case hyu1 => intro w' hSw; (try dsimp only at hSw); go_simp; try with_reducible rfl
      simp only [Act.put]
      refine wpAnyF_take [10] (by kernel_rfl) (i := 1) (v := ?vu2) rfl (by kernel_rfl) (by kernel_rfl) (by kernel_rfl) (fun _ _ _ h => h) (Or.inl ⟨by rfl, ?hyu2⟩) hHeld ?restu2
      case hyu2 => intro w' hSw; (try dsimp only at hSw); go_simp; try with_reducible rfl
      simp only [Act.put]
      refine wpAnyF_take [10] (by kernel_rfl) (i := 3) (v := ?vu3) rfl (by kernel_rfl) (by kernel_rfl) (by kernel_rfl) (fun _ _ _ h => h) (Or.inl ⟨by rfl, ?hyu3⟩) hHeld ?restu3
      case hyu3 => intro w' hSw; (try dsimp only at hSw); go_simp; try with_reducible rfl
      simp only [Act.put]
      refine wpAnyF_take [10] (by kernel_rfl) (i := 4) (v := ?vu4) rfl (by kernel_rfl) (by kernel_rfl) (by kernel_rfl) (fun _ _ _ h => h) (Or.inl ⟨by rfl, ?hyu4⟩) hHeld ?restu4
      case hyu4 => intro w' hSw; (try dsimp only at hSw); go_simp; try with_reducible rfl
      simp only [Act.put]
      refine wpAnyF_take [10] (by kernel_rfl) (i := 6) (v := ?vu5) rfl (by kernel_rfl) (by kernel_rfl) (by kernel_rfl) (fun _ _ _ h => h) (Or.inl ⟨by rfl, ?hyu5⟩) hHeld ?restu5
      case hyu5 => intro w' hSw; (try dsimp only at hSw); go_simp; try with_reducible rfl
      simp only [Act.put]
      refine wpAnyF_take [10] (by kernel_rfl) (i := 7) (v := ?vu6) rfl (by kernel_rfl) (by kernel_rfl) (by kernel_rfl) (fun _ _ _ h => h) (Or.inl ⟨by rfl, ?hyu6⟩) hHeld ?restu6
      case hyu6 => intro w' hSw; (try dsimp only at hSw); go_simp; try with_reducible rfl
      simp only [Act.put]
      refine wpAnyF_take [10] (by kernel_rfl) (i := 8) (v := ?vu7) rfl (by kernel_rfl) (by kernel_rfl) (by kernel_rfl) (fun _ _ _ h => h) (Or.inl ⟨by rfl, ?hyu7⟩) hHeld ?restu7
      case hyu7 => intro w' hSw; (try dsimp only at hSw); go_simp; try with_reducible rfl
      simp only [Act.put]
      refine wpAnyF_ready (rs := [2]) (by kernel_rfl) (by simp) ?_
      refine AllReadyF.cons rfl (fun K hK => ?_) AllReadyF.nil
      go_simp
      refine (HCp.out _ _ _).mono ?_
      rintro e w2 ⟨rfl, hB2⟩
      dsimp only
      have HB2 := hide_ (below_to ((Below.refl wq.heap.size wq).drew) hB2)
      clear hB2
      refine hK.out _ _ (HSS.out _ HB2.out) (fun hHeld => ?_)
      clear hK K
      refine wpAnyF_ready (rs := [5]) (by kernel_rfl) (by simp) ?_
      refine AllReadyF.cons rfl (fun K hK => ?_) AllReadyF.nil
      go_simp
      refine (HCp.out _ _ _).mono ?_
      rintro e w3 ⟨rfl, hB3⟩
      dsimp only
      have HB3 := hide_ (below_to HB2.out hB3)
      clear hB3
      refine hK.out _ _ (HSS.out _ HB3.out) (fun hHeld => ?_)
      clear hK K
      refine wpAnyF_take [10] (by kernel_rfl) (i := 9) (v := ?vu8) rfl (by kernel_rfl) (by kernel_rfl) (by kernel_rfl) (fun _ _ _ h => h) (Or.inl ⟨by rfl, ?hyu8⟩) hHeld ?restu8
      case hyu8 => intro w' hSw; (try dsimp only at hSw); go_simp; try with_reducible rfl
      simp only [Act.put]
      refine wpAnyF_ready (rs := [10]) (by kernel_rfl) (by simp) ?_
      refine AllReadyF.last rfl (fun K hK => ?_)
      have k3 := (K2.out.later (below_to HB1.out HB3.out))
      have HK := hide_ (wr4 k3 (.bool false) (.int .i64 (plus2 1 L)) (.int .i64 (plus2 1 M)) (.int .i64 (1 + D)))
      have HBf := hide_ (below_wr4 (below_to HB.out (below_to HB1.out HB3.out)) (w.heap.size + 1) (by omega) (.bool false) (.int .i64 (plus2 1 L)) (.int .i64 (plus2 1 M)) (.int .i64 (1 + D)))
      have l0 := k3.cell 0; have l1 := k3.cell 1; have l2 := k3.cell 2; have l3 := k3.cell 3
      have lf := fun i => k3.frozen i
      simp at l0 l1 l2 l3
      clear k3
      go_simp
      refine hK.out _ _ ?_
      clear hK K
      refine wpAnyF_done (by kernel_rfl) ?_ _
      go_wp2
      exact retX (x := ⟨false, plus2 1 L, plus2 1 M, 1 + D⟩) rfl rfl HK.out ⟨by rw [HV.out], HBf.out⟩
end Go.Proofs.Ytnpkpmbpapekbaa
