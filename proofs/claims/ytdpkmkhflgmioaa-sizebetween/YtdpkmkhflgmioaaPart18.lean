import Derived.Test.YtdpkmkhflgmioaaPart15
import Derived.Test.YtdpkmkhflgmioaaPart01
import Derived.Test.YtdpkmkhflgmioaaPart14

/- The document's extents: one of a union, a struct. -/
namespace Go.Proofs.Ytdpkmkhflgmioaa
open Go.RowKit
set_option linter.unusedVariables false

def kidX (X : List Ex) (ps : List Pt) : List Ex := ps.map (fun p => exAt X p.ty)
theorem kidX_at {X : List Ex} {ps : List Pt} {m : Nat} {p : Pt} (h : ps[m]? = some p) : (kidX X ps)[m]? = some (exAt X p.ty) := by
  unfold kidX
  rw [List.getElem?_map, h]
  rfl
theorem ch_one {X : List Ex} {x : Ex} (h : XOk x) (hx : X[0]? = some x) : chX (X.take 1) = (x.l, x.m) ∧ deepX (X.take 1) = x.d := by
  have e1 := chX_succ hx
  have e2 := deepX_succ hx
  have := h.l0; have := h.lm; have := h.mh; have := h.d0
  rw [Nat.zero_add] at e1 e2
  rw [e1, e2]
  simp only [List.take_zero, chX, deepX, List.foldl_nil]
  refine ⟨Prod.ext (by simp only; omega) (by simp only; omega), by omega⟩
set_option maxRecDepth 100000 in
set_option maxHeartbeats 8000000 in
theorem one7_any (n el : Int) (ps : List Pt) (va : Option Addr) (vc : Nat) (X : List Ex) (ax : Option Addr) (cx : Nat) (w : World) (hXl : X.length ≤ 10000000000000) (hbd : Hid (∀ x ∈ X, XOk x ∧ x.d ≤ 1000000)) (hps : 0 < ps.length) (hpl : ps.length ≤ 64) (hpt : Hid (∀ (j : Nat) (p : Pt), ps[j]? = some p → 0 ≤ p.ty ∧ p.ty < X.length)) (hP : Hid (PRow w va ps)) (hX : Hid (XRow w ax X)) : Calls Try.prog 52 #[.agg #[.int .i64 7, .int .i64 n, .int .i64 el, .slice va ps.length vc], .slice ax X.length cx] w fun e w' => e = .returned (exv ⟨false, plus2 1 (chX (kidX X ps)).1, plus2 1 (chX (kidX X ps)).2, 1 + deepX (kidX X ps)⟩) ∧ Below w.heap.size w w' := by
  have hB := below2 w (.cells #[.int .i64 7, .int .i64 n, .int .i64 el, .slice va ps.length vc] 62) (.cells #[.bool false, .int .i64 0, .int .i64 0, .int .i64 0] 48)
  obtain ⟨k1, k2⟩ := blk2 w #[.int .i64 7, .int .i64 n, .int .i64 el, .slice va ps.length vc] #[.bool false, .int .i64 0, .int .i64 0, .int .i64 0] 62 48
  obtain ⟨w0, hw0⟩ : ∃ wx, wx = (w.alloc (.cells #[.int .i64 7, .int .i64 n, .int .i64 el, .slice va ps.length vc] 62)).alloc (.cells #[.bool false, .int .i64 0, .int .i64 0, .int .i64 0] 48) := ⟨_, rfl⟩
  rw [← hw0] at hB k1 k2
  have K1 := hide_ k1
  have K2 := hide_ k2
  have HB := hide_ hB
  have i0 := k1.cell 0; have i1 := k1.cell 1; have i2 := k1.cell 2; have i3 := k1.cell 3
  have j0 := k2.cell 0; have j1 := k2.cell 1; have j2 := k2.cell 2; have j3 := k2.cell 3
  have jf := fun i => k2.frozen i
  simp at i0 i1 i2 i3 j0 j1 j2 j3
  have HGet : Hid (∀ (j : Nat), j < ps.length → ∀ w', Below w0.heap.size w0 w' → ∃ (bp op : Nat) (bx ox m : Nat), va = some ⟨bp, op, none⟩ ∧ ax = some ⟨bx, ox, none⟩ ∧ (kidX X ps)[j]? = some (exAt X m) ∧ (m : Int) < X.length ∧ w'.cell? ⟨bp, op + j * 3 + 2, none⟩ = some (.int .i64 (m : Int)) ∧ (∀ i, i < 4 → w'.cell? ⟨bx, ox + m * 4 + i, none⟩ = (exc (exAt X m))[i]?) ∧ XOk (exAt X m) ∧ (exAt X m).d ≤ 1000000) := hide_ (fun j hj w' hB' => by
    obtain ⟨bp, op, e1, hbp, hcp⟩ := hP.out.open (by omega)
    have hq : ps[j]? = some (ps[j]'hj) := List.getElem?_eq_getElem hj
    obtain ⟨h0, h1⟩ := hpt.out j _ hq
    obtain ⟨m, hm⟩ := Int.eq_ofNat_of_zero_le h0
    obtain ⟨bx, ox, e2, hbx, hcx⟩ := hX.out.open (by omega)
    have hxe := exAt_at (X := X) (i := m) (by omega)
    have hB2 := below_to HB.out hB'
    refine ⟨bp, op, bx, ox, m, e1, e2, by rw [kidX_at hq, hm], by omega, ?_, fun i hi => (hB2.cell (p := ⟨bx, ox + m * 4 + i, none⟩) hbx).trans (hcx m _ hxe i hi), (hbd.out _ (List.mem_of_getElem? hxe)).1, (hbd.out _ (List.mem_of_getElem? hxe)).2⟩
    have h2 := hcp j _ hq 2 (by decide)
    rw [show (ptc (ps[j]'hj))[2]? = some (.int .i64 (ps[j]'hj).ty) from rfl, hm] at h2
    exact (hB2.cell (p := ⟨bp, op + j * 3 + 2, none⟩) hbp).trans h2)
  have HKl : Hid ((kidX X ps).length = ps.length) := hide_ (by simp [kidX])
  have HCp : Hid (∀ (a b : Int) (w' : World), Calls Try.prog 74 #[.int .i64 a, .int .i64 b] w' fun e w'' => e = .returned (.int .i64 (plus2 a b)) ∧ Below w'.heap.size w' w'') := hide_ (fun a b w' => rplus_any a b w')
  clear hB k1 k2 hP hX hbd hpt
  generalize kidX X ps = Y at *
  obtain ⟨bp, op, bx, ox, m, rfl, rfl, hy0, hmx, hc2, hcx, hxo, hxd⟩ := HGet.out 0 hps w0 (Below.refl _ _)
  have x0 := hcx 0 (by decide); have x1 := hcx 1 (by decide); have x2 := hcx 2 (by decide); have x3 := hcx 3 (by decide)
  have H1 := hide_ (ch_one hxo hy0)
  have hxn : 0 ≤ (exAt X m).d := hxo.d0
  generalize exAt X m = xx at *
  obtain ⟨xf, xl, xm, xd⟩ := xx
  simp [exc] at x0 x1 x2 x3 hc2 hxd hxn
  have hpl0 : (0 : Int) < (ps.length : Int) := by omega
  obtain ⟨w1, hw1⟩ : ∃ wx, wx = w0.alloc (.cells #[.bool xf, .int .i64 xl, .int .i64 xm, .int .i64 xd] 48) := ⟨_, rfl⟩
  have b1 : Below w0.heap.size w0 w1 := by rw [hw1]; exact below1 _ _
  have kx : Blk w1 w0.heap.size 48 [.bool xf, .int .i64 xl, .int .i64 xm, .int .i64 xd] := by rw [hw1]; exact Blk.newA w0 _ _
  have KX := hide_ kx
  have HBx := hide_ b1
  obtain ⟨g9, hg9⟩ : ∃ g, w0.heap.size = g := ⟨_, rfl⟩
  have HG9 := hide_ hg9
  clear b1 kx hcx hxo hy0
  go_enter Try.func52, Try.ntmps52
  go_upto_region 1 with fail
  rw [← hw0]
  clear hw0
  go_upto_region 12 with fail
  rw [← hw1]
  try rw [hg9]
  rw [hg9] at KX
  clear hw1 hg9 i0 i1 i2 i3 j0 j1 j2 j3 jf x0 x1 x2 x3 hc2
  go_wp2_with fail
  go_loopw [10] (fun x10 wr => ∃ (i : Nat) (f : Bool) (L M D : Int), 1 ≤ i ∧ i ≤ ps.length ∧ x10 = .int .i64 (i : Int) ∧ Hid ((L, M) = chX (Y.take i)) ∧ Hid (D = deepX (Y.take i)) ∧ 0 ≤ D ∧ D ≤ 1000000 ∧ Hid (Blk wr g9 48 [.bool f, .int .i64 L, .int .i64 M, .int .i64 D]) ∧ Hid (Below w0.heap.size w0 wr)) (fun x10 _ => ps.length - (intOf x10).toNat)
  case atStart => exact ⟨1, xf, xl, xm, xd, by omega, by omega, rfl, hide_ H1.out.1.symm, hide_ H1.out.2.symm, hxn, hxd, KX, HBx⟩
  case round =>
    obtain ⟨i, f, L, M, D, hi1, hi, rfl, HC, HD, hD0, hD1, K9, HB1⟩ := hrel
    generalize wr = wq at *
    clear KX HBx H1 hmx
    have i3 := (K1.out.later HB1.out).cell 3
    have q1 := K9.out.cell 1; have q2 := K9.out.cell 2; have q3 := K9.out.cell 3
    simp at i3 q1 q2 q3
    by_cases hlt : i < ps.length
    · have hlt' : (i : Int) < ps.length := by omega
      obtain ⟨bp', op', bx', ox', m', e1, e2, hy, hmx, hc2, hcx, hxo, hxd'⟩ := HGet.out i hlt wq HB1.out
      injection e1 with e1
      injection e1 with e1 e1' _
      injection e2 with e2
      injection e2 with e2 e2' _
      subst e1 e1' e2 e2'
      have x0 := hcx 0 (by decide); have x1 := hcx 1 (by decide); have x2 := hcx 2 (by decide); have x3 := hcx 3 (by decide)
      have HCs := hide_ (chX_succ hy)
      have HDs := hide_ (deepX_succ hy)
      rw [← HC.out] at HCs
      rw [← HD.out] at HDs
      have hxn' : 0 ≤ (exAt X m').d := hxo.d0
      generalize exAt X m' = yy at *
      obtain ⟨yf, yl, ym, yd⟩ := yy
      simp [exc] at x0 x1 x2 x3 hc2
      simp only at HCs HDs hxd' hxn'
      obtain ⟨wa, hwa⟩ : ∃ wx, wx = wq.alloc (.cells #[.bool yf, .int .i64 yl, .int .i64 ym, .int .i64 yd] 48) := ⟨_, rfl⟩
      have ba : Below wq.heap.size wq wa := by rw [hwa]; exact below1 _ _
      have ka : Blk wa wq.heap.size 48 [.bool yf, .int .i64 yl, .int .i64 ym, .int .i64 yd] := by rw [hwa]; exact Blk.newA wq _ _
      have k9 := K9.out.later ba
      have HW9 : Hid (∀ a b c, Blk ((((wa.setCell ⟨g9, 0, none⟩ (.bool false)).setCell ⟨g9, 1, none⟩ (.int .i64 a)).setCell ⟨g9, 2, none⟩ (.int .i64 b)).setCell ⟨g9, 3, none⟩ (.int .i64 c)) g9 48 [.bool false, .int .i64 a, .int .i64 b, .int .i64 c]) := hide_ (fun a b c => wr4 k9 _ _ _ _)
      have HWB : Hid (∀ a b c, Below w0.heap.size w0 ((((wa.setCell ⟨g9, 0, none⟩ (.bool false)).setCell ⟨g9, 1, none⟩ (.int .i64 a)).setCell ⟨g9, 2, none⟩ (.int .i64 b)).setCell ⟨g9, 3, none⟩ (.int .i64 c))) := hide_ (fun a b c => below_wr4 (below_to HB1.out ba) g9 (by have := HG9.out; omega) _ _ _ _)
      have p0 := ka.cell 0; have p1 := ka.cell 1; have p2 := ka.cell 2; have p3 := ka.cell 3
      have s0 := k9.cell 0; have s1 := k9.cell 1; have s2 := k9.cell 2; have s3 := k9.cell 3
      have sf := fun i => k9.frozen i
      simp at p0 p1 p2 p3 s0 s1 s2 s3
      clear ba ka k9 hcx hy hxo
      go_upto_region 16 with fail
      rw [← hwa]
      clear hwa x0 x1 x2 x3 hc2 q1 q2 q3 i3
      go_wp2_with fail
      all_goals
        go_roundw
        case rel => exact ⟨i + 1, false, _, _, _, by omega, by omega, by go_num, hide_ (by rw [HCs.out]; refine Prod.ext ?_ ?_ <;> (simp only; omega)), hide_ (by rw [HDs.out]; omega), by omega, by omega, hide_ (HW9.out _ _ _), hide_ (HWB.out _ _ _)⟩
        case measure => simp [intOf]; omega
    · have hlt' : ¬ (i : Int) < ps.length := by omega
      have HV : Hid ((⟨false, plus2 1 (chX Y).1, plus2 1 (chX Y).2, 1 + deepX Y⟩ : Ex) = ⟨false, plus2 1 L, plus2 1 M, 1 + D⟩) := hide_ (by
        have h1 := HC.out; have h2 := HD.out
        rw [List.take_of_length_le (by have := HKl.out; omega)] at h1 h2
        rw [← h1, ← h2])
      have HSS : Hid (∀ w', Below wq.heap.size wq w' → Below wq.heap.size wq w' ∧ w'.cell? ⟨g9, 1, none⟩ = some (.int .i64 L) ∧ w'.cell? ⟨g9, 2, none⟩ = some (.int .i64 M) ∧ w'.cell? ⟨g9, 3, none⟩ = some (.int .i64 D)) := hide_ (fun w' hB' => ⟨hB', (K9.out.later hB').cell 1, (K9.out.later hB').cell 2, (K9.out.later hB').cell 3⟩)
      have hw2 : IntKind.i64.wrap (1 + D) = 1 + D := by rw [IntKind.wrap_i64]; omega
      go_upto_region 17 with fail
      refine wp_region_last 10 (fun w' => Below wq.heap.size wq w' ∧ w'.cell? ⟨g9, 1, none⟩ = some (.int .i64 L) ∧ w'.cell? ⟨g9, 2, none⟩ = some (.int .i64 M) ∧ w'.cell? ⟨g9, 3, none⟩ = some (.int .i64 D)) (by kernel_rfl) (HSS.out _ ((Below.refl wq.heap.size wq).drew)) (fun hHeld => ?_)
      refine wpAnyF_take [10] (by kernel_rfl) (i := 0) (v := ?vu1) rfl (by kernel_rfl) (by kernel_rfl) (by kernel_rfl) (fun _ _ _ h => h) (Or.inl ⟨by rfl, ?hyu1⟩) hHeld ?restu1
      case hyu1 => intro w' hSw; (try dsimp only at hSw); go_simp; try with_reducible rfl
      simp only [Act.put]
      refine wpAnyF_take [10] (by kernel_rfl) (i := 1) (v := ?vu2) rfl (by kernel_rfl) (by kernel_rfl) (by kernel_rfl) (fun _ _ _ h => h) (Or.inl ⟨by rfl, ?hyu2⟩) hHeld ?restu2
      case hyu2 => intro w' hSw; (try dsimp only at hSw); go_simp; try with_reducible rfl
      simp only [Act.put]
      refine wpAnyF_take [10] (by kernel_rfl) (i := 3) (v := ?vu3) rfl (by kernel_rfl) (by kernel_rfl) (by kernel_rfl) (fun _ _ _ h => h) (Or.inl ⟨by rfl, ?hyu3⟩) hHeld ?restu3
      case hyu3 => intro w' hSw; (try dsimp only at hSw); go_simp; try with_reducible rfl
      simp only [Act.put]
      refine wpAnyF_take [10] (by kernel_rfl) (i := 4) (v := ?vu4) rfl (by kernel_rfl) (by kernel_rfl) (by kernel_rfl) (fun _ _ _ h => h) (Or.inl ⟨by rfl, ?hyu4⟩) hHeld ?restu4
      case hyu4 => intro w' hSw; (try dsimp only at hSw); go_simp; try with_reducible rfl
      simp only [Act.put]
      refine wpAnyF_take [10] (by kernel_rfl) (i := 6) (v := ?vu5) rfl (by kernel_rfl) (by kernel_rfl) (by kernel_rfl) (fun _ _ _ h => h) (Or.inl ⟨by rfl, ?hyu5⟩) hHeld ?restu5
      case hyu5 => intro w' hSw; (try dsimp only at hSw); go_simp; try with_reducible rfl
      simp only [Act.put]
      refine wpAnyF_take [10] (by kernel_rfl) (i := 7) (v := ?vu6) rfl (by kernel_rfl) (by kernel_rfl) (by kernel_rfl) (fun _ _ _ h => h) (Or.inl ⟨by rfl, ?hyu6⟩) hHeld ?restu6
      case hyu6 => intro w' hSw; (try dsimp only at hSw); go_simp; try with_reducible rfl
      simp only [Act.put]
      refine wpAnyF_take [10] (by kernel_rfl) (i := 8) (v := ?vu7) rfl (by kernel_rfl) (by kernel_rfl) (by kernel_rfl) (fun _ _ _ h => h) (Or.inl ⟨by rfl, ?hyu7⟩) hHeld ?restu7
      case hyu7 => intro w' hSw; (try dsimp only at hSw); go_simp; try with_reducible rfl
      simp only [Act.put]
      refine wpAnyF_ready (rs := [2]) (by kernel_rfl) (by simp) ?_
      refine AllReadyF.cons rfl (fun K hK => ?_) AllReadyF.nil
      go_simp
      refine (HCp.out _ _ _).mono ?_
      rintro e w2 ⟨rfl, hB2⟩
      dsimp only
      have HB2 := hide_ (below_to ((Below.refl wq.heap.size wq).drew) hB2)
      clear hB2
      refine hK.out _ _ (HSS.out _ HB2.out) (fun hHeld => ?_)
      clear hK K
      refine wpAnyF_ready (rs := [5]) (by kernel_rfl) (by simp) ?_
      refine AllReadyF.cons rfl (fun K hK => ?_) AllReadyF.nil
      go_simp
      refine (HCp.out _ _ _).mono ?_
      rintro e w3 ⟨rfl, hB3⟩
      dsimp only
      have HB3 := hide_ (below_to HB2.out hB3)
      clear hB3
      refine hK.out _ _ (HSS.out _ HB3.out) (fun hHeld => ?_)
      clear hK K
      refine wpAnyF_take [10] (by kernel_rfl) (i := 9) (v := ?vu8) rfl (by kernel_rfl) (by kernel_rfl) (by kernel_rfl) (fun _ _ _ h => h) (Or.inl ⟨by rfl, ?hyu8⟩) hHeld ?restu8
      case hyu8 => intro w' hSw; (try dsimp only at hSw); go_simp; try with_reducible rfl
      simp only [Act.put]
      refine wpAnyF_ready (rs := [10]) (by kernel_rfl) (by simp) ?_
      refine AllReadyF.last rfl (fun K hK => ?_)
      have k3 := (K2.out.later (below_to HB1.out HB3.out))
      have HK := hide_ (wr4 k3 (.bool false) (.int .i64 (plus2 1 L)) (.int .i64 (plus2 1 M)) (.int .i64 (1 + D)))
      have HBf := hide_ (below_wr4 (below_to HB.out (below_to HB1.out HB3.out)) (w.heap.size + 1) (by omega) (.bool false) (.int .i64 (plus2 1 L)) (.int .i64 (plus2 1 M)) (.int .i64 (1 + D)))
      have l0 := k3.cell 0; have l1 := k3.cell 1; have l2 := k3.cell 2; have l3 := k3.cell 3
      have lf := fun i => k3.frozen i
      simp at l0 l1 l2 l3
      clear k3
      go_simp
      refine hK.out _ _ ?_
      clear hK K
      refine wpAnyF_done (by kernel_rfl) ?_ _
      go_wp2
      exact retX (x := ⟨false, plus2 1 L, plus2 1 M, 1 + D⟩) rfl rfl HK.out ⟨by rw [HV.out], HBf.out⟩
end Go.Proofs.Ytdpkmkhflgmioaa

/- The document's extents: one of a struct. -/
namespace Go.Proofs.Ytdpkmkhflgmioaa
open Go.RowKit
set_option linter.unusedVariables false

set_option maxRecDepth 100000 in
set_option maxHeartbeats 8000000 in
theorem one8_any (n el : Int) (ps : List Pt) (va : Option Addr) (vc : Nat) (X : List Ex) (ax : Option Addr) (cx : Nat) (w : World) (hXl : X.length ≤ 10000000000000) (hbd : Hid (∀ x ∈ X, XOk x ∧ x.d ≤ 1000000)) (hps : 0 < ps.length) (hpl : ps.length ≤ 64) (hpt : Hid (∀ (j : Nat) (p : Pt), ps[j]? = some p → 0 ≤ p.ty ∧ p.ty < X.length)) (hP : Hid (PRow w va ps)) (hX : Hid (XRow w ax X)) : Calls Try.prog 52 #[.agg #[.int .i64 8, .int .i64 n, .int .i64 el, .slice va ps.length vc], .slice ax X.length cx] w fun e w' => e = .returned (exv ⟨(rowX (kidX X ps)).1, (rowX (kidX X ps)).2.1, (rowX (kidX X ps)).2.2, 1 + deepX (kidX X ps)⟩) ∧ Below w.heap.size w w' := by
  have hB := below2 w (.cells #[.int .i64 8, .int .i64 n, .int .i64 el, .slice va ps.length vc] 62) (.cells #[.bool false, .int .i64 0, .int .i64 0, .int .i64 0] 48)
  obtain ⟨k1, k2⟩ := blk2 w #[.int .i64 8, .int .i64 n, .int .i64 el, .slice va ps.length vc] #[.bool false, .int .i64 0, .int .i64 0, .int .i64 0] 62 48
  obtain ⟨w0, hw0⟩ : ∃ wx, wx = (w.alloc (.cells #[.int .i64 8, .int .i64 n, .int .i64 el, .slice va ps.length vc] 62)).alloc (.cells #[.bool false, .int .i64 0, .int .i64 0, .int .i64 0] 48) := ⟨_, rfl⟩
  rw [← hw0] at hB k1 k2
  have K1 := hide_ k1
  have K2 := hide_ k2
  have HB := hide_ hB
  have i0 := k1.cell 0; have i1 := k1.cell 1; have i2 := k1.cell 2; have i3 := k1.cell 3
  have j0 := k2.cell 0; have j1 := k2.cell 1; have j2 := k2.cell 2; have j3 := k2.cell 3
  have jf := fun i => k2.frozen i
  simp at i0 i1 i2 i3 j0 j1 j2 j3
  have HGet : Hid (∀ (j : Nat), j < ps.length → ∀ w', Below w0.heap.size w0 w' → ∃ (bp op : Nat) (bx ox m : Nat), va = some ⟨bp, op, none⟩ ∧ ax = some ⟨bx, ox, none⟩ ∧ (kidX X ps)[j]? = some (exAt X m) ∧ (m : Int) < X.length ∧ w'.cell? ⟨bp, op + j * 3 + 2, none⟩ = some (.int .i64 (m : Int)) ∧ (∀ i, i < 4 → w'.cell? ⟨bx, ox + m * 4 + i, none⟩ = (exc (exAt X m))[i]?) ∧ XOk (exAt X m) ∧ (exAt X m).d ≤ 1000000) := hide_ (fun j hj w' hB' => by
    obtain ⟨bp, op, e1, hbp, hcp⟩ := hP.out.open (by omega)
    have hq : ps[j]? = some (ps[j]'hj) := List.getElem?_eq_getElem hj
    obtain ⟨h0, h1⟩ := hpt.out j _ hq
    obtain ⟨m, hm⟩ := Int.eq_ofNat_of_zero_le h0
    obtain ⟨bx, ox, e2, hbx, hcx⟩ := hX.out.open (by omega)
    have hxe := exAt_at (X := X) (i := m) (by omega)
    have hB2 := below_to HB.out hB'
    refine ⟨bp, op, bx, ox, m, e1, e2, by rw [kidX_at hq, hm], by omega, ?_, fun i hi => (hB2.cell (p := ⟨bx, ox + m * 4 + i, none⟩) hbx).trans (hcx m _ hxe i hi), (hbd.out _ (List.mem_of_getElem? hxe)).1, (hbd.out _ (List.mem_of_getElem? hxe)).2⟩
    have h2 := hcp j _ hq 2 (by decide)
    rw [show (ptc (ps[j]'hj))[2]? = some (.int .i64 (ps[j]'hj).ty) from rfl, hm] at h2
    exact (hB2.cell (p := ⟨bp, op + j * 3 + 2, none⟩) hbp).trans h2)
  have HKl : Hid ((kidX X ps).length = ps.length) := hide_ (by simp [kidX])
  have HCp : Hid (∀ (a b : Int) (w' : World), Calls Try.prog 74 #[.int .i64 a, .int .i64 b] w' fun e w'' => e = .returned (.int .i64 (plus2 a b)) ∧ Below w'.heap.size w' w'') := hide_ (fun a b w' => rplus_any a b w')
  clear hB k1 k2 hP hX hbd hpt
  generalize kidX X ps = Y at *
  obtain ⟨w1, hw1⟩ : ∃ wx, wx = w0.alloc (.cells #[.bool true, .int .i64 0, .int .i64 0, .int .i64 0] 48) := ⟨_, rfl⟩
  have b1 : Below w0.heap.size w0 w1 := by rw [hw1]; exact below1 _ _
  have kx : Blk w1 w0.heap.size 48 [.bool true, .int .i64 0, .int .i64 0, .int .i64 0] := by rw [hw1]; exact Blk.newA w0 _ _
  have KX := hide_ kx
  have HBx := hide_ b1
  obtain ⟨g12, hg12⟩ : ∃ g, w0.heap.size = g := ⟨_, rfl⟩
  have HG12 := hide_ hg12
  clear b1 kx
  go_enter Try.func52, Try.ntmps52
  go_upto_region 1 with fail
  rw [← hw0]
  clear hw0
  go_upto_region 20 with fail
  rw [← hw1]
  try rw [hg12]
  rw [hg12] at KX
  clear hw1 hg12 i0 i1 i2 i3 j0 j1 j2 j3 jf
  go_wp2_with fail
  go_loopw [13] (fun x13 wr => ∃ (i : Nat) (f : Bool) (L M D : Int), i ≤ ps.length ∧ x13 = .int .i64 (i : Int) ∧ Hid ((f, L, M) = rowX (Y.take i)) ∧ Hid (D = deepX (Y.take i)) ∧ 0 ≤ D ∧ D ≤ 1000000 ∧ Hid (Blk wr g12 48 [.bool f, .int .i64 L, .int .i64 M, .int .i64 D]) ∧ Hid (Below w0.heap.size w0 wr)) (fun x13 _ => ps.length - (intOf x13).toNat)
  case atStart => exact ⟨0, true, 0, 0, 0, by omega, rfl, hide_ rfl, hide_ rfl, by omega, by omega, KX, HBx⟩
  case round =>
    obtain ⟨i, f, L, M, D, hi, rfl, HC, HD, hD0, hD1, K9, HB1⟩ := hrel
    generalize wr = wq at *
    clear KX HBx
    have i3 := (K1.out.later HB1.out).cell 3
    simp at i3
    by_cases hlt : i < ps.length
    · have hlt' : (i : Int) < ps.length := by omega
      obtain ⟨bp, op, bx, ox, m', rfl, rfl, hy, hmx, hc2, hcx, hxo, hxd'⟩ := HGet.out i hlt wq HB1.out
      have x0 := hcx 0 (by decide); have x1 := hcx 1 (by decide); have x2 := hcx 2 (by decide); have x3 := hcx 3 (by decide)
      have HRs0 := hide_ (rowX_succ hy)
      have HDs0 := hide_ (deepX_succ hy)
      rw [← HC.out, off_f] at HRs0
      rw [← HD.out] at HDs0
      have hxn' : 0 ≤ (exAt X m').d := hxo.d0
      have HPt : Hid (∀ w', Calls Try.prog 72 #[.agg #[.bool (exAt X m').f, .int .i64 (exAt X m').l, .int .i64 (exAt X m').m, .int .i64 (exAt X m').d]] w' fun e w'' => e = .returned (.tuple #[.int .i64 (offX (exAt X m')).l, .int .i64 (offX (exAt X m')).m]) ∧ Below w'.heap.size w' w'') := hide_ (fun w' => part_any _ w')
      generalize (offX (exAt X m')).l = pl at *
      generalize (offX (exAt X m')).m = pm at *
      generalize exAt X m' = yy at *
      obtain ⟨yf, yl, ym, yd⟩ := yy
      simp [exc] at x0 x1 x2 x3 hc2
      simp only at HRs0 HDs0 hxd' hxn' HPt
      obtain ⟨dn, hdn⟩ : ∃ dn, (if D < yd then yd else D) = dn := ⟨_, rfl⟩
      have hdm : dn = max D yd := by rw [← hdn]; split <;> omega
      have hdn0 : 0 ≤ dn ∧ dn ≤ 1000000 := by omega
      have HDs : Hid (dn = deepX (Y.take (i + 1))) := hide_ (by rw [HDs0.out, ← hdm])
      clear hdm
      obtain ⟨wa, hwa⟩ : ∃ wx, wx = wq.alloc (.cells #[.bool yf, .int .i64 yl, .int .i64 ym, .int .i64 yd] 48) := ⟨_, rfl⟩
      have ba : Below wq.heap.size wq wa := by rw [hwa]; exact below1 _ _
      have ka : Blk wa wq.heap.size 48 [.bool yf, .int .i64 yl, .int .i64 ym, .int .i64 yd] := by rw [hwa]; exact Blk.newA wq _ _
      have p0 := ka.cell 0; have p1 := ka.cell 1; have p2 := ka.cell 2; have p3 := ka.cell 3
      simp at p0 p1 p2 p3
      have HKA := hide_ ka
      have HBA := hide_ ba
      clear ba ka hcx hy hxo HDs0
      go_upto_region 24 with fail
      rw [← hwa]
      clear hwa x0 x1 x2 x3 hc2 i3
      go_wp2_with (go_at_call 72; refine (HPt.out _).mono ?_; rintro e w2 ⟨rfl, hB2⟩)
      have HB2 := hide_ (below_to HB1.out (below_to HBA.out hB2))
      have K12 := hide_ (K9.out.later (below_to HBA.out hB2))
      have KA := hide_ (HKA.out.later hB2)
      clear hB2 p0 p1 p2 p3 HPt HKA HBA
      cases f with
      | true =>
        have HRs : Hid ((yf, plus2 L pl, plus2 M pm) = rowX (Y.take (i + 1))) := hide_ (by rw [HRs0.out]; simp)
        have HSS : Hid (∀ w', Below w2.heap.size w2 w' → (fun w' => Below w2.heap.size w2 w' ∧ w'.cell? ⟨g12, 0, none⟩ = some (.bool true) ∧ w'.cell? ⟨g12, 1, none⟩ = some (.int .i64 L) ∧ w'.cell? ⟨g12, 2, none⟩ = some (.int .i64 M) ∧ w'.cell? ⟨g12, 3, none⟩ = some (.int .i64 D) ∧ w'.cell? ⟨wq.heap.size, 0, none⟩ = some (.bool yf) ∧ w'.cell? ⟨wq.heap.size, 3, none⟩ = some (.int .i64 yd)) w') := hide_ (fun w' hB' => ⟨hB', (K12.out.later hB').cell 0, (K12.out.later hB').cell 1, (K12.out.later hB').cell 2, (K12.out.later hB').cell 3, (KA.out.later hB').cell 0, (KA.out.later hB').cell 3⟩)
        clear HRs0
        go_wp2_with fail
        refine wp_region_last 20 (fun w' => Below w2.heap.size w2 w' ∧ w'.cell? ⟨g12, 0, none⟩ = some (.bool true) ∧ w'.cell? ⟨g12, 1, none⟩ = some (.int .i64 L) ∧ w'.cell? ⟨g12, 2, none⟩ = some (.int .i64 M) ∧ w'.cell? ⟨g12, 3, none⟩ = some (.int .i64 D) ∧ w'.cell? ⟨wq.heap.size, 0, none⟩ = some (.bool yf) ∧ w'.cell? ⟨wq.heap.size, 3, none⟩ = some (.int .i64 yd)) (by kernel_rfl) (HSS.out _ ((Below.refl w2.heap.size w2).drew)) (fun hHeld => ?_)
        refine wpAnyF_take [20] (by kernel_rfl) (i := 0) (v := ?vt1) rfl (by kernel_rfl) (by kernel_rfl) (by kernel_rfl) (fun _ _ _ h => h) (Or.inl ⟨by rfl, ?hyt1⟩) hHeld ?restt1
        case hyt1 => intro w' hSw; (try dsimp only at hSw); go_simp; try with_reducible rfl
        simp only [Act.put]
        refine wpAnyF_take [20] (by kernel_rfl) (i := 1) (v := ?vt2) rfl (by kernel_rfl) (by kernel_rfl) (by kernel_rfl) (fun _ _ _ h => h) (Or.inl ⟨by rfl, ?hyt2⟩) hHeld ?restt2
        case hyt2 => intro w' hSw; (try dsimp only at hSw); go_simp; try with_reducible rfl
        simp only [Act.put]
        refine wpAnyF_take [20] (by kernel_rfl) (i := 2) (v := ?vt3) rfl (by kernel_rfl) (by kernel_rfl) (by kernel_rfl) (fun _ _ _ h => h) (Or.inl ⟨by rfl, ?hyt3⟩) hHeld ?restt3
        case hyt3 => intro w' hSw; (try dsimp only at hSw); go_simp; try with_reducible rfl
        simp only [Act.put]
        refine wpAnyF_take [20] (by kernel_rfl) (i := 3) (v := ?vt4) rfl (by kernel_rfl) (by kernel_rfl) (by kernel_rfl) (fun _ _ _ h => h) (Or.inl ⟨by rfl, ?hyt4⟩) hHeld ?restt4
        case hyt4 => intro w' hSw; (try dsimp only at hSw); go_simp; try with_reducible rfl
        simp only [Act.put]
        refine wpAnyF_take [20] (by kernel_rfl) (i := 4) (v := ?vt5) rfl (by kernel_rfl) (by kernel_rfl) (by kernel_rfl) (fun _ _ _ h => h) (Or.inl ⟨by rfl, ?hyt5⟩) hHeld ?restt5
        case hyt5 => intro w' hSw; (try dsimp only at hSw); go_simp; try with_reducible rfl
        simp only [Act.put]
        refine wpAnyF_take [20] (by kernel_rfl) (i := 5) (v := ?vt6) rfl (by kernel_rfl) (by kernel_rfl) (by kernel_rfl) (fun _ _ _ h => h) (Or.inl ⟨by rfl, ?hyt6⟩) hHeld ?restt6
        case hyt6 => intro w' hSw; (try dsimp only at hSw); go_simp; try with_reducible rfl
        simp only [Act.put]
        refine wpAnyF_take [20] (by kernel_rfl) (i := 6) (v := ?vt7) rfl (by kernel_rfl) (by kernel_rfl) (by kernel_rfl) (fun _ _ _ h => h) (Or.inl ⟨by rfl, ?hyt7⟩) hHeld ?restt7
        case hyt7 => intro w' hSw; (try dsimp only at hSw); go_simp; try with_reducible rfl
        simp only [Act.put]
        refine wpAnyF_take [20] (by kernel_rfl) (i := 7) (v := ?vt8) rfl (by kernel_rfl) (by kernel_rfl) (by kernel_rfl) (fun _ _ _ h => h) (Or.inl ⟨by rfl, ?hyt8⟩) hHeld ?restt8
        case hyt8 => intro w' hSw; (try dsimp only at hSw); go_simp; try with_reducible rfl
        simp only [Act.put]
        refine wpAnyF_take [20] (by kernel_rfl) (i := 8) (v := ?vt9) rfl (by kernel_rfl) (by kernel_rfl) (by kernel_rfl) (fun _ _ _ h => h) (Or.inl ⟨by rfl, ?hyt9⟩) hHeld ?restt9
        case hyt9 => intro w' hSw; (try dsimp only at hSw); go_simp; try with_reducible rfl
        simp only [Act.put]
        refine wpAnyF_take [20] (by kernel_rfl) (i := 10) (v := ?vt10) rfl (by kernel_rfl) (by kernel_rfl) (by kernel_rfl) (fun _ _ _ h => h) (Or.inl ⟨by rfl, ?hyt10⟩) hHeld ?restt10
        case hyt10 => intro w' hSw; (try dsimp only at hSw); go_simp; try with_reducible rfl
        simp only [Act.put]
        refine wpAnyF_take [20] (by kernel_rfl) (i := 11) (v := ?vt11) rfl (by kernel_rfl) (by kernel_rfl) (by kernel_rfl) (fun _ _ _ h => h) (Or.inl ⟨by rfl, ?hyt11⟩) hHeld ?restt11
        case hyt11 => intro w' hSw; (try dsimp only at hSw); go_simp; try with_reducible rfl
        simp only [Act.put]
        refine wpAnyF_take [20] (by kernel_rfl) (i := 12) (v := ?vt12) rfl (by kernel_rfl) (by kernel_rfl) (by kernel_rfl) (fun _ _ _ h => h) (Or.inl ⟨by rfl, ?hyt12⟩) hHeld ?restt12
        case hyt12 => intro w' hSw; (try dsimp only at hSw); go_simp; try with_reducible rfl
        simp only [Act.put]
        refine wpAnyF_take [20] (by kernel_rfl) (i := 14) (v := ?vt13) rfl (by kernel_rfl) (by kernel_rfl) (by kernel_rfl) (fun _ _ _ h => h) (Or.inl ⟨by rfl, ?hyt13⟩) hHeld ?restt13
        case hyt13 => intro w' hSw; (try dsimp only at hSw); go_simp; try with_reducible rfl
        simp only [Act.put]
        refine wpAnyF_take [20] (by kernel_rfl) (i := 15) (v := ?vt14) rfl (by kernel_rfl) (by kernel_rfl) (by kernel_rfl) (fun _ _ _ h => h) (Or.inl ⟨by rfl, ?hyt14⟩) hHeld ?restt14
        case hyt14 => intro w' hSw; (try dsimp only at hSw); go_simp; try with_reducible rfl
        simp only [Act.put]
        refine wpAnyF_take [20] (by kernel_rfl) (i := 16) (v := ?vt15) rfl (by kernel_rfl) (by kernel_rfl) (by kernel_rfl) (fun _ _ _ h => h) (Or.inl ⟨by rfl, ?hyt15⟩) hHeld ?restt15
        case hyt15 => intro w' hSw; (try dsimp only at hSw); go_simp; try with_reducible rfl
        simp only [Act.put]
        refine wpAnyF_take [20] (by kernel_rfl) (i := 17) (v := ?vt16) rfl (by kernel_rfl) (by kernel_rfl) (by kernel_rfl) (fun _ _ _ h => h) (Or.inl ⟨by rfl, ?hyt16⟩) hHeld ?restt16
        case hyt16 => intro w' hSw; (try dsimp only at hSw); go_simp; try with_reducible rfl
        simp only [Act.put]
        refine wpAnyF_take [20] (by kernel_rfl) (i := 18) (v := ?vt17) rfl (by kernel_rfl) (by kernel_rfl) (by kernel_rfl) (fun _ _ _ h => h) (Or.inl ⟨by rfl, ?hyt17⟩) hHeld ?restt17
        case hyt17 => intro w' hSw; (try dsimp only at hSw); go_simp; try with_reducible rfl
        simp only [Act.put]
        refine wpAnyF_ready (rs := [9]) (by kernel_rfl) (by simp) ?_
        refine AllReadyF.cons rfl (fun K hK => ?_) AllReadyF.nil
        go_simp
        refine (HCp.out _ _ _).mono ?_
        rintro e w3 ⟨rfl, hB3⟩
        dsimp only
        have HB3 := hide_ (below_to ((Below.refl w2.heap.size w2).drew) hB3)
        clear hB3
        refine hK.out _ _ (HSS.out _ HB3.out) (fun hHeld => ?_)
        clear hK K
        refine wpAnyF_ready (rs := [13]) (by kernel_rfl) (by simp) ?_
        refine AllReadyF.cons rfl (fun K hK => ?_) AllReadyF.nil
        go_simp
        refine (HCp.out _ _ _).mono ?_
        rintro e w4 ⟨rfl, hB4⟩
        dsimp only
        have HB4 := hide_ (below_to HB3.out hB4)
        clear hB4
        refine hK.out _ _ (HSS.out _ HB4.out) (fun hHeld => ?_)
        clear hK K
        refine wpAnyF_take [20] (by kernel_rfl) (i := 19) (v := ?vt18) rfl (by kernel_rfl) (by kernel_rfl) (by kernel_rfl) (fun _ _ _ h => h) (Or.inl ⟨by rfl, ?hyt18⟩) hHeld ?restt18
        case hyt18 => intro w' hSw; (try dsimp only at hSw); go_simp; try with_reducible rfl
        simp only [Act.put]
        refine wpAnyF_ready (rs := [20]) (by kernel_rfl) (by simp) ?_
        refine AllReadyF.last rfl (fun K hK => ?_)
        have k3 := (K12.out.later HB4.out)
        have HK := hide_ (wr4 k3 (.bool yf) (.int .i64 (plus2 L pl)) (.int .i64 (plus2 M pm)) (.int .i64 dn))
        have HBf := hide_ (below_wr4 (below_to HB2.out HB4.out) g12 (by have := HG12.out; omega) (.bool yf) (.int .i64 (plus2 L pl)) (.int .i64 (plus2 M pm)) (.int .i64 dn))
        have l0 := k3.cell 0; have l1 := k3.cell 1; have l2 := k3.cell 2; have l3 := k3.cell 3
        have lf := fun i => k3.frozen i
        simp at l0 l1 l2 l3
        clear k3
        go_simp
        refine hK.out _ _ ?_
        clear hK K
        refine wpAnyF_done (by kernel_rfl) ?_ _
        go_wp2_with fail
        go_roundw
        case rel => exact ⟨i + 1, _, _, _, _, by omega, by go_num, HRs, HDs, by omega, by omega, HK, HBf⟩
        case measure => simp [intOf]; omega
      | false =>
        have HRs : Hid ((false, plus2 L pl, plus2 M pm) = rowX (Y.take (i + 1))) := hide_ (by rw [HRs0.out]; simp)
        have HSS : Hid (∀ w', Below w2.heap.size w2 w' → (fun w' => Below w2.heap.size w2 w' ∧ w'.cell? ⟨g12, 0, none⟩ = some (.bool false) ∧ w'.cell? ⟨g12, 1, none⟩ = some (.int .i64 L) ∧ w'.cell? ⟨g12, 2, none⟩ = some (.int .i64 M) ∧ w'.cell? ⟨g12, 3, none⟩ = some (.int .i64 D) ∧ w'.cell? ⟨wq.heap.size, 0, none⟩ = some (.bool yf) ∧ w'.cell? ⟨wq.heap.size, 3, none⟩ = some (.int .i64 yd)) w') := hide_ (fun w' hB' => ⟨hB', (K12.out.later hB').cell 0, (K12.out.later hB').cell 1, (K12.out.later hB').cell 2, (K12.out.later hB').cell 3, (KA.out.later hB').cell 0, (KA.out.later hB').cell 3⟩)
        clear HRs0
        go_wp2_with fail
        refine wp_region_last 20 (fun w' => Below w2.heap.size w2 w' ∧ w'.cell? ⟨g12, 0, none⟩ = some (.bool false) ∧ w'.cell? ⟨g12, 1, none⟩ = some (.int .i64 L) ∧ w'.cell? ⟨g12, 2, none⟩ = some (.int .i64 M) ∧ w'.cell? ⟨g12, 3, none⟩ = some (.int .i64 D) ∧ w'.cell? ⟨wq.heap.size, 0, none⟩ = some (.bool yf) ∧ w'.cell? ⟨wq.heap.size, 3, none⟩ = some (.int .i64 yd)) (by kernel_rfl) (HSS.out _ ((Below.refl w2.heap.size w2).drew)) (fun hHeld => ?_)
        refine wpAnyF_take [20] (by kernel_rfl) (i := 0) (v := ?ve1) rfl (by kernel_rfl) (by kernel_rfl) (by kernel_rfl) (fun _ _ _ h => h) (Or.inl ⟨by rfl, ?hye1⟩) hHeld ?reste1
        case hye1 => intro w' hSw; (try dsimp only at hSw); go_simp; try with_reducible rfl
        simp only [Act.put]
        refine wpAnyF_take [20] (by kernel_rfl) (i := 1) (v := ?ve2) rfl (by kernel_rfl) (by kernel_rfl) (by kernel_rfl) (fun _ _ _ h => h) (Or.inl ⟨by rfl, ?hye2⟩) hHeld ?reste2
        case hye2 => intro w' hSw; (try dsimp only at hSw); go_simp; try with_reducible rfl
        simp only [Act.put]
        refine wpAnyF_take [20] (by kernel_rfl) (i := 2) (v := ?ve3) rfl (by kernel_rfl) (by kernel_rfl) (by kernel_rfl) (fun _ _ _ h => h) (Or.inl ⟨by rfl, ?hye3⟩) hHeld ?reste3
        case hye3 => intro w' hSw; (try dsimp only at hSw); go_simp; try with_reducible rfl
        simp only [Act.put]
        refine wpAnyF_take [20] (by kernel_rfl) (i := 3) (v := undef) rfl (by kernel_rfl) (by kernel_rfl) (by kernel_rfl) (fun _ _ _ h => h) (Or.inr ⟨by rfl, rfl⟩) hHeld ?_
        simp only [Act.put]
        refine wpAnyF_take [20] (by kernel_rfl) (i := 4) (v := undef) rfl (by kernel_rfl) (by kernel_rfl) (by kernel_rfl) (fun _ _ _ h => h) (Or.inr ⟨by rfl, rfl⟩) hHeld ?_
        simp only [Act.put]
        refine wpAnyF_take [20] (by kernel_rfl) (i := 5) (v := ?ve4) rfl (by kernel_rfl) (by kernel_rfl) (by kernel_rfl) (fun _ _ _ h => h) (Or.inl ⟨by rfl, ?hye4⟩) hHeld ?reste4
        case hye4 => intro w' hSw; (try dsimp only at hSw); go_simp; try with_reducible rfl
        simp only [Act.put]
        refine wpAnyF_take [20] (by kernel_rfl) (i := 6) (v := ?ve5) rfl (by kernel_rfl) (by kernel_rfl) (by kernel_rfl) (fun _ _ _ h => h) (Or.inl ⟨by rfl, ?hye5⟩) hHeld ?reste5
        case hye5 => intro w' hSw; (try dsimp only at hSw); go_simp; try with_reducible rfl
        simp only [Act.put]
        refine wpAnyF_take [20] (by kernel_rfl) (i := 7) (v := ?ve6) rfl (by kernel_rfl) (by kernel_rfl) (by kernel_rfl) (fun _ _ _ h => h) (Or.inl ⟨by rfl, ?hye6⟩) hHeld ?reste6
        case hye6 => intro w' hSw; (try dsimp only at hSw); go_simp; try with_reducible rfl
        simp only [Act.put]
        refine wpAnyF_take [20] (by kernel_rfl) (i := 8) (v := ?ve7) rfl (by kernel_rfl) (by kernel_rfl) (by kernel_rfl) (fun _ _ _ h => h) (Or.inl ⟨by rfl, ?hye7⟩) hHeld ?reste7
        case hye7 => intro w' hSw; (try dsimp only at hSw); go_simp; try with_reducible rfl
        simp only [Act.put]
        refine wpAnyF_take [20] (by kernel_rfl) (i := 10) (v := ?ve8) rfl (by kernel_rfl) (by kernel_rfl) (by kernel_rfl) (fun _ _ _ h => h) (Or.inl ⟨by rfl, ?hye8⟩) hHeld ?reste8
        case hye8 => intro w' hSw; (try dsimp only at hSw); go_simp; try with_reducible rfl
        simp only [Act.put]
        refine wpAnyF_take [20] (by kernel_rfl) (i := 11) (v := ?ve9) rfl (by kernel_rfl) (by kernel_rfl) (by kernel_rfl) (fun _ _ _ h => h) (Or.inl ⟨by rfl, ?hye9⟩) hHeld ?reste9
        case hye9 => intro w' hSw; (try dsimp only at hSw); go_simp; try with_reducible rfl
        simp only [Act.put]
        refine wpAnyF_take [20] (by kernel_rfl) (i := 12) (v := ?ve10) rfl (by kernel_rfl) (by kernel_rfl) (by kernel_rfl) (fun _ _ _ h => h) (Or.inl ⟨by rfl, ?hye10⟩) hHeld ?reste10
        case hye10 => intro w' hSw; (try dsimp only at hSw); go_simp; try with_reducible rfl
        simp only [Act.put]
        refine wpAnyF_take [20] (by kernel_rfl) (i := 14) (v := ?ve11) rfl (by kernel_rfl) (by kernel_rfl) (by kernel_rfl) (fun _ _ _ h => h) (Or.inl ⟨by rfl, ?hye11⟩) hHeld ?reste11
        case hye11 => intro w' hSw; (try dsimp only at hSw); go_simp; try with_reducible rfl
        simp only [Act.put]
        refine wpAnyF_take [20] (by kernel_rfl) (i := 15) (v := ?ve12) rfl (by kernel_rfl) (by kernel_rfl) (by kernel_rfl) (fun _ _ _ h => h) (Or.inl ⟨by rfl, ?hye12⟩) hHeld ?reste12
        case hye12 => intro w' hSw; (try dsimp only at hSw); go_simp; try with_reducible rfl
        simp only [Act.put]
        refine wpAnyF_take [20] (by kernel_rfl) (i := 16) (v := ?ve13) rfl (by kernel_rfl) (by kernel_rfl) (by kernel_rfl) (fun _ _ _ h => h) (Or.inl ⟨by rfl, ?hye13⟩) hHeld ?reste13
        case hye13 => intro w' hSw; (try dsimp only at hSw); go_simp; try with_reducible rfl
        simp only [Act.put]
        refine wpAnyF_take [20] (by kernel_rfl) (i := 17) (v := ?ve14) rfl (by kernel_rfl) (by kernel_rfl) (by kernel_rfl) (fun _ _ _ h => h) (Or.inl ⟨by rfl, ?hye14⟩) hHeld ?reste14
        case hye14 => intro w' hSw; (try dsimp only at hSw); go_simp; try with_reducible rfl
        simp only [Act.put]
        refine wpAnyF_take [20] (by kernel_rfl) (i := 18) (v := ?ve15) rfl (by kernel_rfl) (by kernel_rfl) (by kernel_rfl) (fun _ _ _ h => h) (Or.inl ⟨by rfl, ?hye15⟩) hHeld ?reste15
        case hye15 => intro w' hSw; (try dsimp only at hSw); go_simp; try with_reducible rfl
        simp only [Act.put]
        refine wpAnyF_ready (rs := [9]) (by kernel_rfl) (by simp) ?_
        refine AllReadyF.cons rfl (fun K hK => ?_) AllReadyF.nil
        go_simp
        refine (HCp.out _ _ _).mono ?_
        rintro e w3 ⟨rfl, hB3⟩
        dsimp only
        have HB3 := hide_ (below_to ((Below.refl w2.heap.size w2).drew) hB3)
        clear hB3
        refine hK.out _ _ (HSS.out _ HB3.out) (fun hHeld => ?_)
        clear hK K
        refine wpAnyF_ready (rs := [13]) (by kernel_rfl) (by simp) ?_
        refine AllReadyF.cons rfl (fun K hK => ?_) AllReadyF.nil
        go_simp
        refine (HCp.out _ _ _).mono ?_
        rintro e w4 ⟨rfl, hB4⟩
        dsimp only
        have HB4 := hide_ (below_to HB3.out hB4)
        clear hB4
        refine hK.out _ _ (HSS.out _ HB4.out) (fun hHeld => ?_)
        clear hK K
        refine wpAnyF_take [20] (by kernel_rfl) (i := 19) (v := ?ve16) rfl (by kernel_rfl) (by kernel_rfl) (by kernel_rfl) (fun _ _ _ h => h) (Or.inl ⟨by rfl, ?hye16⟩) hHeld ?reste16
        case hye16 => intro w' hSw; (try dsimp only at hSw); go_simp; try with_reducible rfl
        simp only [Act.put]
        refine wpAnyF_ready (rs := [20]) (by kernel_rfl) (by simp) ?_
        refine AllReadyF.last rfl (fun K hK => ?_)
        have k3 := (K12.out.later HB4.out)
        have HK := hide_ (wr4 k3 (.bool false) (.int .i64 (plus2 L pl)) (.int .i64 (plus2 M pm)) (.int .i64 dn))
        have HBf := hide_ (below_wr4 (below_to HB2.out HB4.out) g12 (by have := HG12.out; omega) (.bool false) (.int .i64 (plus2 L pl)) (.int .i64 (plus2 M pm)) (.int .i64 dn))
        have l0 := k3.cell 0; have l1 := k3.cell 1; have l2 := k3.cell 2; have l3 := k3.cell 3
        have lf := fun i => k3.frozen i
        simp at l0 l1 l2 l3
        clear k3
        go_simp
        refine hK.out _ _ ?_
        clear hK K
        refine wpAnyF_done (by kernel_rfl) ?_ _
        go_wp2_with fail
        go_roundw
        case rel => exact ⟨i + 1, _, _, _, _, by omega, by go_num, HRs, HDs, by omega, by omega, HK, HBf⟩
        case measure => simp [intOf]; omega
    · have hlt' : ¬ (i : Int) < ps.length := by omega
      have HV : Hid ((⟨(rowX Y).1, (rowX Y).2.1, (rowX Y).2.2, 1 + deepX Y⟩ : Ex) = ⟨f, L, M, D + 1⟩) := hide_ (by
        have h1 := HC.out; have h2 := HD.out
        rw [List.take_of_length_le (by have := HKl.out; omega)] at h1 h2
        rw [← h1, ← h2]
        simp only
        rw [Int.add_comm])
      have hw1 : wrap64 (D + 1) = D + 1 := w64 _ (by omega)
      have k9 := K9.out.set 3 (.int .i64 (D + 1))
      simp only [List.set_cons_succ, List.set_cons_zero] at k9
      have hg12 := HG12.out
      have hlt1 := K2.out.lt
      have hne : w.heap.size + 1 ≠ g12 := by omega
      have k2 := (K2.out.later HB1.out).other ⟨g12, 3, none⟩ (.int .i64 (D + 1)) hne
      obtain ⟨wz, hwz⟩ : ∃ wx, wx = wq.setCell ⟨g12, 3, none⟩ (.int .i64 (D + 1)) := ⟨_, rfl⟩
      have HBz : Hid (Below w0.heap.size w0 wz) := hide_ (by rw [hwz]; exact below_set HB1.out _ _ _ (by omega))
      rw [← hwz] at k9 k2
      have HK := hide_ (wr4 k2 (.bool f) (.int .i64 L) (.int .i64 M) (.int .i64 (D + 1)))
      have HBf := hide_ (below_wr4 (below_to HB.out HBz.out) (w.heap.size + 1) (by omega) (.bool f) (.int .i64 L) (.int .i64 M) (.int .i64 (D + 1)))
      have q3 := K9.out.cell 3
      have qf := K9.out.frozen 3
      have l0 := k9.cell 0; have l1 := k9.cell 1; have l2 := k9.cell 2; have l3 := k9.cell 3
      have n0 := k2.cell 0; have n1 := k2.cell 1; have n2 := k2.cell 2; have n3 := k2.cell 3
      have nf := fun i => k2.frozen i
      simp at q3 l0 l1 l2 l3 n0 n1 n2 n3
      clear k9 k2 hg12 hlt1 hne
      go_upto_region 27 with fail
      rw [← hwz]
      clear hwz
      go_wp2
      exact retX (x := ⟨f, L, M, D + 1⟩) rfl rfl HK.out ⟨by rw [HV.out], HBf.out⟩
end Go.Proofs.Ytdpkmkhflgmioaa

/- The document's extents of a schema: Of. -/
namespace Go.Proofs.Ytdpkmkhflgmioaa
open Go.RowKit
set_option linter.unusedVariables false

theorem one_any (k n el : Int) (ps : List Pt) (va : Option Addr) (vc : Nat) (X : List Ex) (ax : Option Addr) (cx : Nat) (w : World) (hXl : X.length ≤ 10000000000000) (hbd : Hid (∀ x ∈ X, XOk x ∧ x.d ≤ 1000000)) (hok : Hid (tyOk ⟨k, n, el, ps⟩ X.length = true)) (hP : Hid (PRow w va ps)) (hX : Hid (XRow w ax X)) :
    Calls Try.prog 52 #[.agg #[.int .i64 k, .int .i64 n, .int .i64 el, .slice va ps.length vc], .slice ax X.length cx] w fun e w' => e = .returned (exv (ext1 X ⟨k, n, el, ps⟩)) ∧ Below w.heap.size w w' := by
  have hn := nOk_n hok.out
  simp only at hn
  have hk : k = 1 ∨ k = 2 ∨ k = 3 ∨ k = 4 ∨ k = 5 ∨ k = 6 ∨ k = 7 ∨ k = 8 := by omega
  have hbd2 : Hid (∀ x ∈ X, 0 ≤ x.d ∧ x.d ≤ 1000000) := hide_ (fun x hx => ⟨(hbd.out x hx).1.d0, (hbd.out x hx).2⟩)
  have hpt : Hid (∀ (j : Nat) (p : Pt), ps[j]? = some p → 0 ≤ p.ty ∧ p.ty < X.length) := hide_ (fun j p hp => tyOk_part hok.out hp)
  have hpl : ps.length ≤ 64 := tyOk_len hok.out
  have hx0 : XOk (exAt X el) := XOk.at (fun x hx => (hbd.out x hx).1) el
  have h0 := hx0.l0; have h1 := hx0.lm; have h2 := hx0.mh; have h3 := hx0.d0
  have hd1 : deepX [exAt X el] = (exAt X el).d := by
    simp only [deepX, List.foldl_cons, List.foldl_nil]
    omega
  rcases hk with rfl | rfl | rfl | rfl | rfl | rfl | rfl | rfl
  · have hps : ps = [] := tyOk_none hok.out (by simp) (by simp)
    have e : ext1 X ⟨1, n, el, ps⟩ = ⟨true, n, n, 1⟩ := by rw [hps]; rfl
    rw [e]
    exact one1_any n el ps va vc _ w
  · have hps : ps = [] := tyOk_none hok.out (by simp) (by simp)
    have e : ext1 X ⟨2, n, el, ps⟩ = ⟨true, 1, 1, 1⟩ := by rw [hps]; rfl
    rw [e]
    exact one2_any n el ps va vc _ w
  · have hps : ps = [] := tyOk_none hok.out (by simp) (by simp)
    have e : ext1 X ⟨3, n, el, ps⟩ = ⟨false, 1, 10, 1⟩ := by rw [hps]; rfl
    rw [e]
    exact one3_any n el ps va vc _ w
  · have hps : ps = [] := tyOk_none hok.out (by simp) (by simp)
    have e : ext1 X ⟨4, n, el, ps⟩ = ⟨(exAt X el).f, times2 n (offX (exAt X el)).l, times2 n (offX (exAt X el)).m, 1 + (exAt X el).d⟩ := by
      have e1 : ext1 X ⟨4, n, el, ps⟩ = ⟨(offX (exAt X el)).f, times2 n (offX (exAt X el)).l, times2 n (offX (exAt X el)).m, 1 + deepX [exAt X el]⟩ := by rw [hps]; rfl
      rw [e1, hd1, off_f]
    rw [e]
    exact one4_any n el ps va vc X ax cx w hXl hbd2 (tyOk_elem hok.out rfl) hX
  · have hps : ps = [] := tyOk_none hok.out (by simp) (by simp)
    have e : ext1 X ⟨5, n, el, ps⟩ = ⟨false, 0, times2 n (offX (exAt X el)).m, 1 + (exAt X el).d⟩ := by
      have e1 : ext1 X ⟨5, n, el, ps⟩ = ⟨false, times2 0 (offX (exAt X el)).l, times2 n (offX (exAt X el)).m, 1 + deepX [exAt X el]⟩ := by rw [hps]; rfl
      have e2 : times2 0 (offX (exAt X el)).l = 0 := by unfold times2; rw [show sz 0 = 0 from rfl, Int.zero_mul]; rfl
      rw [e1, hd1, e2]
    rw [e]
    exact one5_any n el ps va vc X ax cx w hXl hbd2 (tyOk_elem hok.out rfl) hX
  · have hps : ps = [] := tyOk_none hok.out (by simp) (by simp)
    have e : ext1 X ⟨6, n, el, ps⟩ = ⟨false, 1, plus2 1 (exAt X el).m, 1 + (exAt X el).d⟩ := by
      have e1 : ext1 X ⟨6, n, el, ps⟩ = ⟨false, plus2 1 (chX ([exAt X el] ++ [ex0])).1, plus2 1 (chX ([exAt X el] ++ [ex0])).2, 1 + deepX [exAt X el]⟩ := by rw [hps]; rfl
      have e2 : chX ([exAt X el] ++ [ex0]) = (0, (exAt X el).m) := by
        simp only [chX, List.cons_append, List.nil_append, List.foldl_cons, List.foldl_nil, ex0]
        refine Prod.ext ?_ ?_ <;> (simp only; omega)
      rw [e1, hd1, e2]
      rfl
    rw [e]
    exact one6_any n el ps va vc X ax cx w hXl hbd2 (tyOk_elem hok.out rfl) hX
  · exact one7_any n el ps va vc X ax cx w hXl hbd (tyOk_pos hok.out (.inl rfl)) hpl hpt hP hX
  · exact one8_any n el ps va vc X ax cx w hXl hbd (tyOk_pos hok.out (.inr rfl)) hpl hpt hP hX
theorem extL_bd2 {T : List Ty} {R : List Rt} (h : OkS T R) (i : Nat) (hi : i ≤ T.length) : ∀ x ∈ extL (T.take i), XOk x ∧ x.d ≤ 1000000 := fun x hx => ⟨(extL_ok h i hi x hx).1, (extL_bd h i hi x hx).2⟩
set_option maxRecDepth 100000 in
set_option maxHeartbeats 8000000 in
theorem ofR_any (a : Option Addr) (c : Nat) (T : List Ty) (ar : Option Addr) (cr : Nat) (R : List Rt) (w : World) (hn : T.length ≤ 3000000000000) (hm : R.length ≤ 10000000000000) (hL : Hid (LensT T)) (hT : Hid (TRow w a T)) (hR : Hid (RRow w ar R)) :
    Calls Try.prog 29 #[.agg #[.slice a T.length c, .slice ar R.length cr]] w fun e w' => OfTo T R w e w' := by
  have hB := below1 w (.cells #[.slice a T.length c, .slice ar R.length cr] 25)
  have k1 := Blk.newA w #[.slice a T.length c, .slice ar R.length cr] 25
  obtain ⟨w0, hw0⟩ : ∃ wx, wx = w.alloc (.cells #[.slice a T.length c, .slice ar R.length cr] 25) := ⟨_, rfl⟩
  rw [← hw0] at hB k1
  have HB0 := hide_ hB
  have K1 := hide_ k1
  have hs1 : w.heap.size < w0.heap.size := k1.lt
  have i0 := k1.cell 0; have i1 := k1.cell 1
  simp at i0 i1
  have HCk := hide_ (checkR_any a c T ar cr R w0 (by omega) hm hL (hide_ (hT.out.later hB)) (hide_ (hR.out.later hB)))
  obtain ⟨vE, hE⟩ : ∃ vE, (chk T R).1 = vE := ⟨_, rfl⟩
  obtain ⟨vA, hA⟩ : ∃ vA, (chk T R).2 = vA := ⟨_, rfl⟩
  rw [hE, hA] at HCk
  have HE := hide_ hE
  clear hB k1 hE hA
  go_enter Try.func29, Try.ntmps29
  go_upto_region 1 with fail
  rw [← hw0]
  clear hw0
  go_wp2_with fail
  refine HCk.out.mono ?_; rintro e w1 ⟨rfl, hB1⟩
  have kf := Blk.newA w1 #[.int .i64 vE, .int .i64 vA] 34
  have hB2 := below1 w1 (.cells #[.int .i64 vE, .int .i64 vA] 34)
  obtain ⟨w2, hw2⟩ : ∃ wx, wx = w1.alloc (.cells #[.int .i64 vE, .int .i64 vA] 34) := ⟨_, rfl⟩
  rw [← hw2] at kf hB2
  have HB2 := hide_ (below_to hB1 hB2)
  have j0 := kf.cell 0
  simp at j0
  clear hB1 hB2 kf HCk i0 i1
  go_upto_region 2 with fail
  rw [← hw2]
  clear hw2
  by_cases hE0 : vE = 0
  · subst hE0
    have HOK := hide_ (okS_of HE.out)
    go_wp2_with fail
    go_loopw [5, 6] (fun x5 x6 wr => ∃ (v : Value) (i : Nat), v = x5 ∧ i ≤ T.length ∧ x6 = .int .i64 (i : Int) ∧ Hid (XOwn wr w0.heap.size v (extL (T.take i))) ∧ Hid (Below w0.heap.size w0 wr)) (fun _ x6 _ => T.length - (intOf x6).toNat)
    case atStart => exact ⟨_, 0, rfl, Nat.zero_le _, rfl, hide_ (XOwn.nil _ _), HB2⟩
    case round =>
      obtain ⟨v, i, rfl, hi, rfl, HO, HB⟩ := hrel
      generalize wr = wq at *
      clear j0 HB2
      have i0 := (K1.out.later HB.out).cell 0
      simp at i0
      by_cases hlt : i < T.length
      · have hlt' : (i : Int) < T.length := by omega
        obtain ⟨b, o, rfl, hb, hc⟩ := (hT.out.later (below_to HB0.out HB.out)).open (by omega)
        have hx : T[i]? = some (T[i]'hlt) := List.getElem?_eq_getElem hlt
        obtain ⟨va, vc, hcx, hvc, -, hP⟩ := hc i _ hx
        have hok1 := HOK.out.ty i hlt
        rw [show T.getD i ty0 = T[i]'hlt by simp [List.getD, hlt]] at hok1
        have HS : Hid (extL (T.take (i + 1)) = extL (T.take i) ++ [ext1 (extL (T.take i)) (T[i]'hlt)]) := hide_ (by rw [List.take_succ_eq_append_getElem hlt, extL_snoc])
        have hXl : (extL (T.take i)).length = i := by rw [extL_len]; simp; omega
        have hbd := extL_bd2 HOK.out i hi
        generalize T[i]'hlt = t at *
        obtain ⟨k, n, el, ps⟩ := t
        simp only at hvc hP
        have i1 := hcx 0 (by decide); have i2 := hcx 1 (by decide); have i3 := hcx 2 (by decide); have i4 := hcx 3 (by decide)
        simp [tyc] at i1 i2 i3 i4
        obtain ⟨ax, cx, hv, -, -, hXr⟩ := HO.out.row
        have HCe := hide_ (one_any k n el ps va vc (extL (T.take i)) ax cx wq (by omega) (hide_ hbd) (hide_ (by rw [hXl]; exact hok1)) (hide_ hP) (hide_ hXr))
        generalize extL (T.take i) = X at *
        subst hv
        generalize ext1 X ⟨k, n, el, ps⟩ = y at *
        have hXle : X.length ≤ 4000000000000 := by omega
        have HXL := hide_ hXl
        clear hc hx hcx hP hok1 hb hXr hbd hXl
        go_wp2_with fail
        refine HCe.out.mono ?_; rintro e w4 ⟨rfl, hB4⟩
        have HO4 := hide_ (HO.out.later hB4)
        have HB4 := hide_ (below_to HB.out hB4)
        obtain ⟨v', w5, hrun, hO5, hB5⟩ := HO4.out.push y hXle HB4.out.size
        rw [← HS.out] at hO5
        have HRun := hide_ hrun
        have HO5 := hide_ hO5
        have HB5 := hide_ (HB4.out.trans hB5)
        simp only [exv]
        clear hB4 hrun hO5 hB5 HO4 HB4 HCe i1 i2 i3 i4
        go_wp2_with (first | (at_builtin; refine wpList_append_run rfl (.tmp 21) (.tmp 29) 29 29 rfl rfl rfl HRun.out ?_; clear HRun))
        go_roundw
        case rel => exact ⟨_, i + 1, rfl, by omega, by go_num, HO5, HB5⟩
        case measure => simp [intOf]; omega
      · have hlt' : ¬ (i : Int) < T.length := by omega
        have HV : Hid (XOwn wq w.heap.size v (extL T)) := hide_ (by have h := HO.out; rw [List.take_of_length_le (by omega)] at h; exact own_base h (by omega))
        go_wp2
        go_ret2
        exact .inr ⟨HOK.out, v, rfl, HV.out, below_to HB0.out HB.out⟩
  · have hE1 : (vE != 0) = true := by simpa using hE0
    have HV : Hid ((chk T R).1 ≠ 0) := hide_ (by rw [HE.out]; exact hE0)
    have HBf := hide_ (below_to HB0.out HB2.out)
    go_wp2_with fail
    go_region
    all_goals
      have HBd := hide_ (HBf.out.drew)
      go_wp2
      go_ret2
      exact .inl ⟨HV.out, by rw [HE.out]; rfl, HBd.out⟩
end Go.Proofs.Ytdpkmkhflgmioaa
