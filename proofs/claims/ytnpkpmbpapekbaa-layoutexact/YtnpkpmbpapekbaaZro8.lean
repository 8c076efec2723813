/- The document's extents: one of a struct. -/
import Derived.Test.YtnpkpmbpapekbaaZro7
namespace Go.Proofs.Ytnpkpmbpapekbaa
open Go.RowKit
set_option linter.unusedVariables false

set_option maxRecDepth 100000 in
set_option maxHeartbeats 8000000 in
theorem one8_any (n el : Int) (ps : List Pt) (va : Option Addr) (vc : Nat) (X : List Ex) (ax : Option Addr) (cx : Nat) (w : World) (hXl : X.length ≤ 10000000000000) (hbd : Hid (∀ x ∈ X, XOk x ∧ x.d ≤ 1000000)) (hps : 0 < ps.length) (hpl : ps.length ≤ 64) (hpt : Hid (∀ (j : Nat) (p : Pt), ps[j]? = some p → 0 ≤ p.ty ∧ p.ty < X.length)) (hP : Hid (PRow w va ps)) (hX : Hid (XRow w ax X)) : Calls Try.prog 51 #[.agg #[.int .i64 8, .int .i64 n, .int .i64 el, .slice va ps.length vc], .slice ax X.length cx] w fun e w' => e = .returned (exv ⟨(rowX (kidX X ps)).1, (rowX (kidX X ps)).2.1, (rowX (kidX X ps)).2.2, 1 + deepX (kidX X ps)⟩) ∧ Below w.heap.size w w' := by
  have hB := below2 w (.cells #[.int .i64 8, .int .i64 n, .int .i64 el, .slice va ps.length vc] 46) (.cells #[.bool false, .int .i64 0, .int .i64 0, .int .i64 0] 53)
  obtain ⟨k1, k2⟩ := blk2 w #[.int .i64 8, .int .i64 n, .int .i64 el, .slice va ps.length vc] #[.bool false, .int .i64 0, .int .i64 0, .int .i64 0] 46 53
  obtain ⟨w0, hw0⟩ : ∃ wx, wx = (w.alloc (.cells #[.int .i64 8, .int .i64 n, .int .i64 el, .slice va ps.length vc] 46)).alloc (.cells #[.bool false, .int .i64 0, .int .i64 0, .int .i64 0] 53) := ⟨_, rfl⟩
  rw [← hw0] at hB k1 k2
  have K1 := hide_ k1
  have K2 := hide_ k2
  have HB := hide_ hB
  have i0 := k1.cell 0; have i1 := k1.cell 1; have i2 := k1.cell 2; have i3 := k1.cell 3
  have j0 := k2.cell 0; have j1 := k2.cell 1; have j2 := k2.cell 2; have j3 := k2.cell 3
  have jf := fun i => k2.frozen i
  simp at i0 i1 i2 i3 j0 j1 j2 j3
  have HGet : Hid (∀ (j : Nat), j < ps.length → ∀ w', Below w0.heap.size w0 w' → ∃ (bp op : Nat) (bx ox m : Nat), va = some ⟨bp, op, none⟩ ∧ ax = some ⟨bx, ox, none⟩ ∧ (kidX X ps)[j]? = some (exAt X m) ∧ (m : Int) < X.length ∧ w'.cell? ⟨bp, op + j * 3 + 2, none⟩ = some (.int .i64 (m : Int)) ∧ (∀ i, i < 4 → w'.cell? ⟨bx, ox + m * 4 + i, none⟩ = (exc (exAt X m))[i]?) ∧ XOk (exAt X m) ∧ (exAt X m).d ≤ 1000000) := hide_ (fun j hj w' hB' => by
    obtain ⟨bp, op, e1, hbp, hcp⟩ := hP.out.open (by omega)
    have hq : ps[j]? = some (ps[j]'hj) := List.getElem?_eq_getElem hj
    obtain ⟨h0, h1⟩ := hpt.out j _ hq
    obtain ⟨m, hm⟩ := Int.eq_ofNat_of_zero_le h0
    obtain ⟨bx, ox, e2, hbx, hcx⟩ := hX.out.open (by omega)
    have hxe := exAt_at (X := X) (i := m) (by omega)
    have hB2 := below_to HB.out hB'
    refine ⟨bp, op, bx, ox, m, e1, e2, by rw [kidX_at hq, hm], by omega, ?_, fun i hi => (hB2.cell (p := ⟨bx, ox + m * 4 + i, none⟩) hbx).trans (hcx m _ hxe i hi), (hbd.out _ (List.mem_of_getElem? hxe)).1, (hbd.out _ (List.mem_of_getElem? hxe)).2⟩
    have h2 := hcp j _ hq 2 (by decide)
    rw [show (ptc (ps[j]'hj))[2]? = some (.int .i64 (ps[j]'hj).ty) from rfl, hm] at h2
    exact (hB2.cell (p := ⟨bp, op + j * 3 + 2, none⟩) hbp).trans h2)
  have HKl : Hid ((kidX X ps).length = ps.length) := hide_ (by simp [kidX])
  have HCp : Hid (∀ (a b : Int) (w' : World), Calls Try.prog 67 #[.int .i64 a, .int .i64 b] w' fun e w'' => e = .returned (.int .i64 (plus2 a b)) ∧ Below w'.heap.size w' w'') := hide_ (fun a b w' => rplus_any a b w')
  clear hB k1 k2 hP hX hbd hpt
  generalize kidX X ps = Y at *
  obtain ⟨w1, hw1⟩ : ∃ wx, wx = w0.alloc (.cells #[.bool true, .int .i64 0, .int .i64 0, .int .i64 0] 53) := ⟨_, rfl⟩
  have b1 : Below w0.heap.size w0 w1 := by rw [hw1]; exact below1 _ _
  have kx : Blk w1 w0.heap.size 53 [.bool true, .int .i64 0, .int .i64 0, .int .i64 0] := by rw [hw1]; exact Blk.newA w0 _ _
  have KX := hide_ kx
  have HBx := hide_ b1
  obtain ⟨g12, hg12⟩ : ∃ g, w0.heap.size = g := ⟨_, rfl⟩
  have HG12 := hide_ hg12
  clear b1 kx
  go_enter Try.func51, Try.ntmps51
  go_upto_region 1 with fail
  rw [← hw0]
  clear hw0
  go_upto_region 20 with fail
  rw [← hw1]
  try rw [hg12]
  rw [hg12] at KX
  clear hw1 hg12 i0 i1 i2 i3 j0 j1 j2 j3 jf
  go_wp2_with fail
  go_loopw [13] (fun x13 wr => ∃ (i : Nat) (f : Bool) (L M D : Int), i ≤ ps.length ∧ x13 = .int .i64 (i : Int) ∧ Hid ((f, L, M) = rowX (Y.take i)) ∧ Hid (D = deepX (Y.take i)) ∧ 0 ≤ D ∧ D ≤ 1000000 ∧ Hid (Blk wr g12 53 [.bool f, .int .i64 L, .int .i64 M, .int .i64 D]) ∧ Hid (Below w0.heap.size w0 wr)) (fun x13 _ => ps.length - (intOf x13).toNat)
  case atStart => exact ⟨0, true, 0, 0, 0, by omega, rfl, hide_ rfl, hide_ rfl, by omega, by omega, KX, HBx⟩
  case round =>
    obtain ⟨i, f, L, M, D, hi, rfl, HC, HD, hD0, hD1, K9, HB1⟩ := hrel
    generalize wr = wq at *
    clear KX HBx
    have i3 := (K1.out.later HB1.out).cell 3
    simp at i3
    by_cases hlt : i < ps.length
    · have hlt' : (i : Int) < ps.length := by omega
      obtain ⟨bp, op, bx, ox, m', rfl, rfl, hy, hmx, hc2, hcx, hxo, hxd'⟩ := HGet.out i hlt wq HB1.out
      have x0 := hcx 0 (by decide); have x1 := hcx 1 (by decide); have x2 := hcx 2 (by decide); have x3 := hcx 3 (by decide)
      have HRs0 := hide_ (rowX_succ hy)
      have HDs0 := hide_ (deepX_succ hy)
      rw [← HC.out, off_f] at HRs0
      rw [← HD.out] at HDs0
      have hxn' : 0 ≤ (exAt X m').d := hxo.d0
      have HPt : Hid (∀ w', Calls Try.prog 65 #[.agg #[.bool (exAt X m').f, .int .i64 (exAt X m').l, .int .i64 (exAt X m').m, .int .i64 (exAt X m').d]] w' fun e w'' => e = .returned (.tuple #[.int .i64 (offX (exAt X m')).l, .int .i64 (offX (exAt X m')).m]) ∧ Below w'.heap.size w' w'') := hide_ (fun w' => part_any _ w')
      generalize (offX (exAt X m')).l = pl at *
      generalize (offX (exAt X m')).m = pm at *
      generalize exAt X m' = yy at *
      obtain ⟨yf, yl, ym, yd⟩ := yy
      simp [exc] at x0 x1 x2 x3 hc2
      simp only at HRs0 HDs0 hxd' hxn' HPt
      obtain ⟨dn, hdn⟩ : ∃ dn, (if D < yd then yd else D) = dn := ⟨_, rfl⟩
      have hdm : dn = max D yd := by rw [← hdn]; split <;> omega
      have hdn0 : 0 ≤ dn ∧ dn ≤ 1000000 := by omega
      have HDs : Hid (dn = deepX (Y.take (i + 1))) := hide_ (by rw [HDs0.out, ← hdm])
      clear hdm
      obtain ⟨wa, hwa⟩ : ∃ wx, wx = wq.alloc (.cells #[.bool yf, .int .i64 yl, .int .i64 ym, .int .i64 yd] 53) := ⟨_, rfl⟩
      have ba : Below wq.heap.size wq wa := by rw [hwa]; exact below1 _ _
      have ka : Blk wa wq.heap.size 53 [.bool yf, .int .i64 yl, .int .i64 ym, .int .i64 yd] := by rw [hwa]; exact Blk.newA wq _ _
      have p0 := ka.cell 0; have p1 := ka.cell 1; have p2 := ka.cell 2; have p3 := ka.cell 3
      simp at p0 p1 p2 p3
      have HKA := hide_ ka
      have HBA := hide_ ba
      clear ba ka hcx hy hxo HDs0
      go_upto_region 24 with fail
      rw [← hwa]
      clear hwa x0 x1 x2 x3 hc2 i3
      go_wp2_with (go_at_call 65; refine (HPt.out _).mono ?_; rintro e w2 ⟨rfl, hB2⟩)
      have HB2 := hide_ (below_to HB1.out (below_to HBA.out hB2))
      have K12 := hide_ (K9.out.later (below_to HBA.out hB2))
      have KA := hide_ (HKA.out.later hB2)
      clear hB2 p0 p1 p2 p3 HPt HKA HBA
      cases f with
      | true =>
        have HRs : Hid ((yf, plus2 L pl, plus2 M pm) = rowX (Y.take (i + 1))) := hide_ (by rw [HRs0.out]; simp)
        have HSS : Hid (∀ w', Below w2.heap.size w2 w' → (fun w' => Below w2.heap.size w2 w' ∧ w'.cell? ⟨g12, 0, none⟩ = some (.bool true) ∧ w'.cell? ⟨g12, 1, none⟩ = some (.int .i64 L) ∧ w'.cell? ⟨g12, 2, none⟩ = some (.int .i64 M) ∧ w'.cell? ⟨g12, 3, none⟩ = some (.int .i64 D) ∧ w'.cell? ⟨wq.heap.size, 0, none⟩ = some (.bool yf) ∧ w'.cell? ⟨wq.heap.size, 3, none⟩ = some (.int .i64 yd)) w') := hide_ (fun w' hB' => ⟨hB', (K12.out.later hB').cell 0, (K12.out.later hB').cell 1, (K12.out.later hB').cell 2, (K12.out.later hB').cell 3, (KA.out.later hB').cell 0, (KA.out.later hB').cell 3⟩)
        clear HRs0
        go_wp2_with fail
        refine wp_region_last 20 (fun w' => Below w2.heap.size w2 w' ∧ w'.cell? ⟨g12, 0, none⟩ = some (.bool true) ∧ w'.cell? ⟨g12, 1, none⟩ = some (.int .i64 L) ∧ w'.cell? ⟨g12, 2, none⟩ = some (.int .i64 M) ∧ w'.cell? ⟨g12, 3, none⟩ = some (.int .i64 D) ∧ w'.cell? ⟨wq.heap.size, 0, none⟩ = some (.bool yf) ∧ w'.cell? ⟨wq.heap.size, 3, none⟩ = some (.int .i64 yd)) (by kernel_rfl) (HSS.out _ ((Below.refl w2.heap.size w2).drew)) (fun hHeld => ?_)
        refine wpAnyF_take [20] (by kernel_rfl) (i := 0) (v := ?vt1) rfl (by kernel_rfl) (by kernel_rfl) (by kernel_rfl) (fun _ _ _ h => h) (Or.inl ⟨by rfl, ?hyt1⟩) hHeld ?restt1
        case hyt1 => intro w' hSw; (try dsimp only at hSw); go_simp; try with_reducible rfl
        simp only [Act.put]
        refine wpAnyF_take [20] (by kernel_rfl) (i := 1) (v := ?vt2) rfl (by kernel_rfl) (by kernel_rfl) (by kernel_rfl) (fun _ _ _ h => h) (Or.inl ⟨by rfl, ?hyt2⟩) hHeld ?restt2
        case hyt2 => intro w' hSw; (try dsimp only at hSw); go_simp; try with_reducible rfl
        simp only [Act.put]
        refine wpAnyF_take [20] (by kernel_rfl) (i := 2) (v := ?vt3) rfl (by kernel_rfl) (by kernel_rfl) (by kernel_rfl) (fun _ _ _ h => h) (Or.inl ⟨by rfl, ?hyt3⟩) hHeld ?restt3
        case hyt3 => intro w' hSw; (try dsimp only at hSw); go_simp; try with_reducible rfl
        simp only [Act.put]
        refine wpAnyF_take [20] (by kernel_rfl) (i := 3) (v := ?vt4) rfl (by kernel_rfl) (by kernel_rfl) (by kernel_rfl) (fun _ _ _ h => h) (Or.inl ⟨by rfl, ?hyt4⟩) hHeld ?restt4
        case hyt4 => intro w' hSw; (try dsimp only at hSw); go_simp; try with_reducible rfl
        simp only [Act.put]
        refine wpAnyF_take [20] (by kernel_rfl) (i := 4) (v := ?vt5) rfl (by kernel_rfl) (by kernel_rfl) (by kernel_rfl) (fun _ _ _ h => h) (Or.inl ⟨by rfl, ?hyt5⟩) hHeld ?restt5
        case hyt5 => intro w' hSw; (try dsimp only at hSw); go_simp; try with_reducible rfl
        simp only [Act.put]
        refine wpAnyF_take [20] (by kernel_rfl) (i := 5) (v := ?vt6) rfl (by kernel_rfl) (by kernel_rfl) (by kernel_rfl) (fun _ _ _ h => h) (Or.inl ⟨by rfl, ?hyt6⟩) hHeld ?restt6
        case hyt6 => intro w' hSw; (try dsimp only at hSw); go_simp; try with_reducible rfl
        simp only [Act.put]
        refine wpAnyF_take [20] (by kernel_rfl) (i := 6) (v := ?vt7) rfl (by kernel_rfl) (by kernel_rfl) (by kernel_rfl) (fun _ _ _ h => h) (Or.inl ⟨by rfl, ?hyt7⟩) hHeld ?restt7
        case hyt7 => intro w' hSw; (try dsimp only at hSw); go_simp; try with_reducible rfl
        simp only [Act.put]
        refine wpAnyF_take [20] (by kernel_rfl) (i := 7) (v := ?vt8) rfl (by kernel_rfl) (by kernel_rfl) (by kernel_rfl) (fun _ _ _ h => h) (Or.inl ⟨by rfl, ?hyt8⟩) hHeld ?restt8
        case hyt8 => intro w' hSw; (try dsimp only at hSw); go_simp; try with_reducible rfl
        simp only [Act.put]
        refine wpAnyF_take [20] (by kernel_rfl) (i := 8) (v := ?vt9) rfl (by kernel_rfl) (by kernel_rfl) (by kernel_rfl) (fun _ _ _ h => h) (Or.inl ⟨by rfl, ?hyt9⟩) hHeld ?restt9
        case hyt9 => intro w' hSw; (try dsimp only at hSw); go_simp; try with_reducible rfl
        simp only [Act.put]
        refine wpAnyF_take [20] (by kernel_rfl) (i := 10) (v := ?vt10) rfl (by kernel_rfl) (by kernel_rfl) (by kernel_rfl) (fun _ _ _ h => h) (Or.inl ⟨by rfl, ?hyt10⟩) hHeld ?restt10
        case hyt10 => intro w' hSw; (try dsimp only at hSw); go_simp; try with_reducible rfl
        simp only [Act.put]
        refine wpAnyF_take [20] (by kernel_rfl) (i := 11) (v := ?vt11) rfl (by kernel_rfl) (by kernel_rfl) (by kernel_rfl) (fun _ _ _ h => h) (Or.inl ⟨by rfl, ?hyt11⟩) hHeld ?restt11
        case hyt11 => intro w' hSw; (try dsimp only at hSw); go_simp; try with_reducible rfl
        simp only [Act.put]
        refine wpAnyF_take [20] (by kernel_rfl) (i := 12) (v := ?vt12) rfl (by kernel_rfl) (by kernel_rfl) (by kernel_rfl) (fun _ _ _ h => h) (Or.inl ⟨by rfl, ?hyt12⟩) hHeld ?restt12
        case hyt12 => intro w' hSw; (try dsimp only at hSw); go_simp; try with_reducible rfl
        simp only [Act.put]
        refine wpAnyF_take [20] (by kernel_rfl) (i := 14) (v := ?vt13) rfl (by kernel_rfl) (by kernel_rfl) (by kernel_rfl) (fun _ _ _ h => h) (Or.inl ⟨by rfl, ?hyt13⟩) hHeld ?restt13
        case hyt13 => intro w' hSw; (try dsimp only at hSw); go_simp; try with_reducible rfl
        simp only [Act.put]
        refine wpAnyF_take [20] (by kernel_rfl) (i := 15) (v := ?vt14) rfl (by kernel_rfl) (by kernel_rfl) (by kernel_rfl) (fun _ _ _ h => h) (Or.inl ⟨by rfl, ?hyt14⟩) hHeld ?restt14
        case hyt14 => intro w' hSw; (try dsimp only at hSw); go_simp; try with_reducible rfl
        simp only [Act.put]
        refine wpAnyF_take [20] (by kernel_rfl) (i := 16) (v := ?vt15) rfl (by kernel_rfl) (by kernel_rfl) (by kernel_rfl) (fun _ _ _ h => h) (Or.inl ⟨by rfl, ?hyt15⟩) hHeld ?restt15
        case hyt15 => intro w' hSw; (try dsimp only at hSw); go_simp; try with_reducible rfl
        simp only [Act.put]
        refine wpAnyF_take [20] (by kernel_rfl) (i := 17) (v := ?vt16) rfl (by kernel_rfl) (by kernel_rfl) (by kernel_rfl) (fun _ _ _ h => h) (Or.inl ⟨by rfl, ?hyt16⟩) hHeld ?restt16
        case hyt16 => intro w' hSw; (try dsimp only at hSw); go_simp; try with_reducible rfl
        simp only [Act.put]
        refine wpAnyF_take [20] (by kernel_rfl) (i := 18) (v := ?vt17) rfl (by kernel_rfl) (by kernel_rfl) (by kernel_rfl) (fun _ _ _ h => h) (Or.inl ⟨by rfl, ?hyt17⟩) hHeld ?restt17
        case hyt17 => intro w' hSw; (try dsimp only at hSw); go_simp; try with_reducible rfl
        simp only [Act.put]
        refine wpAnyF_ready (rs := [9]) (by kernel_rfl) (by simp) ?_
        refine AllReadyF.cons rfl (fun K hK => ?_) AllReadyF.nil
        go_simp
        refine (HCp.out _ _ _).mono ?_
        rintro e w3 ⟨rfl, hB3⟩
        dsimp only
        have HB3 := hide_ (below_to ((Below.refl w2.heap.size w2).drew) hB3)
        clear hB3
        refine hK.out _ _ (HSS.out _ HB3.out) (fun hHeld => ?_)
        clear hK K
        refine wpAnyF_ready (rs := [13]) (by kernel_rfl) (by simp) ?_
        refine AllReadyF.cons rfl (fun K hK => ?_) AllReadyF.nil
        go_simp
        refine (HCp.out _ _ _).mono ?_
        rintro e w4 ⟨rfl, hB4⟩
        dsimp only
        have HB4 := hide_ (below_to HB3.out hB4)
        clear hB4
        refine hK.out _ _ (HSS.out _ HB4.out) (fun hHeld => ?_)
        clear hK K
        refine wpAnyF_take [20] (by kernel_rfl) (i := 19) (v := ?vt18) rfl (by kernel_rfl) (by kernel_rfl) (by kernel_rfl) (fun _ _ _ h => h) (Or.inl ⟨by rfl, ?hyt18⟩) hHeld ?restt18
        case hyt18 => intro w' hSw; (try dsimp only at hSw); go_simp; try with_reducible rfl
        simp only [Act.put]
        refine wpAnyF_ready (rs := [20]) (by kernel_rfl) (by simp) ?_
        refine AllReadyF.last rfl (fun K hK => ?_)
        have k3 := (K12.out.later HB4.out)
        have HK := hide_ (wr4 k3 (.bool yf) (.int .i64 (plus2 L pl)) (.int .i64 (plus2 M pm)) (.int .i64 dn))
        have HBf := hide_ (below_wr4 (below_to HB2.out HB4.out) g12 (by have := HG12.out; omega) (.bool yf) (.int .i64 (plus2 L pl)) (.int .i64 (plus2 M pm)) (.int .i64 dn))
        have l0 := k3.cell 0; have l1 := k3.cell 1; have l2 := k3.cell 2; have l3 := k3.cell 3
        have lf := fun i => k3.frozen i
        simp at l0 l1 l2 l3
        clear k3
        go_simp
        refine hK.out _ _ ?_
        clear hK K
        refine wpAnyF_done (by kernel_rfl) ?_ _
        go_wp2_with fail
        go_roundw
        case rel => exact ⟨i + 1, _, _, _, _, by omega, by go_num, HRs, HDs, by omega, by omega, HK, HBf⟩
        case measure => simp [intOf]; omega
      | false =>
        have HRs : Hid ((false, plus2 L pl, plus2 M pm) = rowX (Y.take (i + 1))) := hide_ (by rw [HRs0.out]; simp)
        have HSS : Hid (∀ w', Below w2.heap.size w2 w' → (fun w' => Below w2.heap.size w2 w' ∧ w'.cell? ⟨g12, 0, none⟩ = some (.bool false) ∧ w'.cell? ⟨g12, 1, none⟩ = some (.int .i64 L) ∧ w'.cell? ⟨g12, 2, none⟩ = some (.int .i64 M) ∧ w'.cell? ⟨g12, 3, none⟩ = some (.int .i64 D) ∧ w'.cell? ⟨wq.heap.size, 0, none⟩ = some (.bool yf) ∧ w'.cell? ⟨wq.heap.size, 3, none⟩ = some (.int .i64 yd)) w') := hide_ (fun w' hB' => ⟨hB', (K12.out.later hB').cell 0, (K12.out.later hB').cell 1, (K12.out.later hB').cell 2, (K12.out.later hB').cell 3, (KA.out.later hB').cell 0, (KA.out.later hB').cell 3⟩)
        clear HRs0
        go_wp2_with fail
        refine wp_region_last 20 (fun w' => Below w2.heap.size w2 w' ∧ w'.cell? ⟨g12, 0, none⟩ = some (.bool false) ∧ w'.cell? ⟨g12, 1, none⟩ = some (.int .i64 L) ∧ w'.cell? ⟨g12, 2, none⟩ = some (.int .i64 M) ∧ w'.cell? ⟨g12, 3, none⟩ = some (.int .i64 D) ∧ w'.cell? ⟨wq.heap.size, 0, none⟩ = some (.bool yf) ∧ w'.cell? ⟨wq.heap.size, 3, none⟩ = some (.int .i64 yd)) (by kernel_rfl) (HSS.out _ ((Below.refl w2.heap.size w2).drew)) (fun hHeld => ?_)
        refine wpAnyF_take [20] (by kernel_rfl) (i := 0) (v := ?ve1) rfl (by kernel_rfl) (by kernel_rfl) (by kernel_rfl) (fun _ _ _ h => h) (Or.inl ⟨by rfl, ?hye1⟩) hHeld ?reste1
        case hye1 => intro w' hSw; (try dsimp only at hSw); go_simp; try with_reducible rfl
        simp only [Act.put]
        refine wpAnyF_take [20] (by kernel_rfl) (i := 1) (v := ?ve2) rfl (by kernel_rfl) (by kernel_rfl) (by kernel_rfl) (fun _ _ _ h => h) (Or.inl ⟨by rfl, ?hye2⟩) hHeld ?reste2
        case hye2 => intro w' hSw; (try dsimp only at hSw); go_simp; try with_reducible rfl
        simp only [Act.put]
        refine wpAnyF_take [20] (by kernel_rfl) (i := 2) (v := ?ve3) rfl (by kernel_rfl) (by kernel_rfl) (by kernel_rfl) (fun _ _ _ h => h) (Or.inl ⟨by rfl, ?hye3⟩) hHeld ?reste3
        case hye3 => intro w' hSw; (try dsimp only at hSw); go_simp; try with_reducible rfl
        simp only [Act.put]
        refine wpAnyF_take [20] (by kernel_rfl) (i := 3) (v := undef) rfl (by kernel_rfl) (by kernel_rfl) (by kernel_rfl) (fun _ _ _ h => h) (Or.inr ⟨by rfl, rfl⟩) hHeld ?_
        simp only [Act.put]
        refine wpAnyF_take [20] (by kernel_rfl) (i := 4) (v := undef) rfl (by kernel_rfl) (by kernel_rfl) (by kernel_rfl) (fun _ _ _ h => h) (Or.inr ⟨by rfl, rfl⟩) hHeld ?_
        simp only [Act.put]
        refine wpAnyF_take [20] (by kernel_rfl) (i := 5) (v := ?ve4) rfl (by kernel_rfl) (by kernel_rfl) (by kernel_rfl) (fun _ _ _ h => h) (Or.inl ⟨by rfl, ?hye4⟩) hHeld ?reste4
        case hye4 => intro w' hSw; (try dsimp only at hSw); go_simp; try with_reducible rfl
        simp only [Act.put]
        refine wpAnyF_take [20] (by kernel_rfl) (i := 6) (v := ?ve5) rfl (by kernel_rfl) (by kernel_rfl) (by kernel_rfl) (fun _ _ _ h => h) (Or.inl ⟨by rfl, ?hye5⟩) hHeld ?reste5
        case hye5 => intro w' hSw; (try dsimp only at hSw); go_simp; try with_reducible rfl
        simp only [Act.put]
        refine wpAnyF_take [20] (by kernel_rfl) (i := 7) (v := ?ve6) rfl (by kernel_rfl) (by kernel_rfl) (by kernel_rfl) (fun _ _ _ h => h) (Or.inl ⟨by rfl, ?hye6⟩) hHeld ?reste6
        case hye6 => intro w' hSw; (try dsimp only at hSw); go_simp; try with_reducible rfl
        simp only [Act.put]
        refine wpAnyF_take [20] (by kernel_rfl) (i := 8) (v := ?ve7) rfl (by kernel_rfl) (by kernel_rfl) (by kernel_rfl) (fun _ _ _ h => h) (Or.inl ⟨by rfl, ?hye7⟩) hHeld ?reste7
        case hye7 => intro w' hSw; (try dsimp only at hSw); go_simp; try with_reducible rfl
        simp only [Act.put]
        refine wpAnyF_take [20] (by kernel_rfl) (i := 10) (v := ?ve8) rfl (by kernel_rfl) (by kernel_rfl) (by kernel_rfl) (fun _ _ _ h => h) (Or.inl ⟨by rfl, ?hye8⟩) hHeld ?reste8
        case hye8 => intro w' hSw; (try dsimp only at hSw); go_simp; try with_reducible rfl
        simp only [Act.put]
        refine wpAnyF_take [20] (by kernel_rfl) (i := 11) (v := ?ve9) rfl (by kernel_rfl) (by kernel_rfl) (by kernel_rfl) (fun _ _ _ h => h) (Or.inl ⟨by rfl, ?hye9⟩) hHeld ?reste9
        case hye9 => intro w' hSw; (try dsimp only at hSw); go_simp; try with_reducible rfl
        simp only [Act.put]
        refine wpAnyF_take [20] (by kernel_rfl) (i := 12) (v := ?ve10) rfl (by kernel_rfl) (by kernel_rfl) (by kernel_rfl) (fun _ _ _ h => h) (Or.inl ⟨by rfl, ?hye10⟩) hHeld ?reste10
        case hye10 => intro w' hSw; (try dsimp only at hSw); go_simp; try with_reducible rfl
        simp only [Act.put]
        refine wpAnyF_take [20] (by kernel_rfl) (i := 14) (v := ?ve11) rfl (by kernel_rfl) (by kernel_rfl) (by kernel_rfl) (fun _ _ _ h => h) (Or.inl ⟨by rfl, ?hye11⟩) hHeld ?reste11
        case hye11 => intro w' hSw; (try dsimp only at hSw); go_simp; try with_reducible rfl
        simp only [Act.put]
        refine wpAnyF_take [20] (by kernel_rfl) (i := 15) (v := ?ve12) rfl (by kernel_rfl) (by kernel_rfl) (by kernel_rfl) (fun _ _ _ h => h) (Or.inl ⟨by rfl, ?hye12⟩) hHeld ?reste12
        case hye12 => intro w' hSw; (try dsimp only at hSw); go_simp; try with_reducible rfl
        simp only [Act.put]
        refine wpAnyF_take [20] (by kernel_rfl) (i := 16) (v := ?ve13) rfl (by kernel_rfl) (by kernel_rfl) (by kernel_rfl) (fun _ _ _ h => h) (Or.inl ⟨by rfl, ?hye13⟩) hHeld ?reste13
        case hye13 => intro w' hSw; (try dsimp only at hSw); go_simp; try with_reducible rfl
        simp only [Act.put]
        refine wpAnyF_take [20] (by kernel_rfl) (i := 17) (v := ?ve14) rfl (by kernel_rfl) (by kernel_rfl) (by kernel_rfl) (fun _ _ _ h => h) (Or.inl ⟨by rfl, ?hye14⟩) hHeld ?reste14
        case hye14 => intro w' hSw; (try dsimp only at hSw); go_simp; try with_reducible rfl
        simp only [Act.put]
        refine wpAnyF_take [20] (by kernel_rfl) (i := 18) (v := ?ve15) rfl (by kernel_rfl) (by kernel_rfl) (by kernel_rfl) (fun _ _ _ h => h) (Or.inl ⟨by rfl, ?hye15⟩) hHeld ?reste15
        case hye15 => intro w' hSw; (try dsimp only at hSw); go_simp; try with_reducible rfl
        simp only [Act.put]
        refine wpAnyF_ready (rs := [9]) (by kernel_rfl) (by simp) ?_
        refine AllReadyF.cons rfl (fun K hK => ?_) AllReadyF.nil
        go_simp
        refine (HCp.out _ _ _).mono ?_
        rintro e w3 ⟨rfl, hB3⟩
        dsimp only
        have HB3 := hide_ (below_to ((Below.refl w2.heap.size w2).drew) hB3)
        clear hB3
        refine hK.out _ _ (HSS.out _ HB3.out) (fun hHeld => ?_)
        clear hK K
        refine wpAnyF_ready (rs := [13]) (by kernel_rfl) (by simp) ?_
        refine AllReadyF.cons rfl (fun K hK => ?_) AllReadyF.nil
        go_simp
        refine (HCp.out _ _ _).mono ?_
        rintro e w4 ⟨rfl, hB4⟩
        dsimp only
        have HB4 := hide_ (below_to HB3.out hB4)
        clear hB4
        refine hK.out _ _ (HSS.out _ HB4.out) (fun hHeld => ?_)
        clear hK K
        refine wpAnyF_take [20] (by kernel_rfl) (i := 19) (v := ?ve16) rfl (by kernel_rfl) (by kernel_rfl) (by kernel_rfl) (fun _ _ _ h => h) (Or.inl ⟨by rfl, ?hye16⟩) hHeld ?reste16
        case hye16 => intro w' hSw; (try dsimp only at hSw); go_simp; try with_reducible rfl
        simp only [Act.put]
        refine wpAnyF_ready (rs := [20]) (by kernel_rfl) (by simp) ?_
        refine AllReadyF.last rfl (fun K hK => ?_)
        have k3 := (K12.out.later HB4.out)
        have HK := hide_ (wr4 k3 (.bool false) (.int .i64 (plus2 L pl)) (.int .i64 (plus2 M pm)) (.int .i64 dn))
        have HBf := hide_ (below_wr4 (below_to HB2.out HB4.out) g12 (by have := HG12.out; omega) (.bool false) (.int .i64 (plus2 L pl)) (.int .i64 (plus2 M pm)) (.int .i64 dn))
        have l0 := k3.cell 0; have l1 := k3.cell 1; have l2 := k3.cell 2; have l3 := k3.cell 3
        have lf := fun i => k3.frozen i
        simp at l0 l1 l2 l3
        clear k3
        go_simp
        refine hK.out _ _ ?_
        clear hK K
        refine wpAnyF_done (by kernel_rfl) ?_ _
        go_wp2_with fail
        go_roundw
        case rel => exact ⟨i + 1, _, _, _, _, by omega, by go_num, HRs, HDs, by omega, by omega, HK, HBf⟩
        case measure => simp [intOf]; omega
    · have hlt' : ¬ (i : Int) < ps.length := by omega
      have HV : Hid ((⟨(rowX Y).1, (rowX Y).2.1, (rowX Y).2.2, 1 + deepX Y⟩ : Ex) = ⟨f, L, M, D + 1⟩) := hide_ (by
        have h1 := HC.out; have h2 := HD.out
        rw [List.take_of_length_le (by have := HKl.out; omega)] at h1 h2
        rw [← h1, ← h2]
        simp only
        rw [Int.add_comm])
      have hw1 : wrap64 (D + 1) = D + 1 := w64 _ (by omega)
      have k9 := K9.out.set 3 (.int .i64 (D + 1))
      simp only [List.set_cons_succ, List.set_cons_zero] at k9
      have hg12 := HG12.out
      have hlt1 := K2.out.lt
      have hne : w.heap.size + 1 ≠ g12 := by omega
      have k2 := (K2.out.later HB1.out).other ⟨g12, 3, none⟩ (.int .i64 (D + 1)) hne
      obtain ⟨wz, hwz⟩ : ∃ wx, wx = wq.setCell ⟨g12, 3, none⟩ (.int .i64 (D + 1)) := ⟨_, rfl⟩
      have HBz : Hid (Below w0.heap.size w0 wz) := hide_ (by rw [hwz]; exact below_set HB1.out _ _ _ (by omega))
      rw [← hwz] at k9 k2
      have HK := hide_ (wr4 k2 (.bool f) (.int .i64 L) (.int .i64 M) (.int .i64 (D + 1)))
      have HBf := hide_ (below_wr4 (below_to HB.out HBz.out) (w.heap.size + 1) (by omega) (.bool f) (.int .i64 L) (.int .i64 M) (.int .i64 (D + 1)))
      have q3 := K9.out.cell 3
      have qf := K9.out.frozen 3
      have l0 := k9.cell 0; have l1 := k9.cell 1; have l2 := k9.cell 2; have l3 := k9.cell 3
      have n0 := k2.cell 0; have n1 := k2.cell 1; have n2 := k2.cell 2; have n3 := k2.cell 3
      have nf := fun i => k2.frozen i
      simp at q3 l0 l1 l2 l3 n0 n1 n2 n3
      clear k9 k2 hg12 hlt1 hne
      go_upto_region 27 with fail
      rw [← hwz]
      clear hwz
      go_wp2
      exact retX (x := ⟨f, L, M, D + 1⟩) rfl rfl HK.out ⟨by rw [HV.out], HBf.out⟩
end Go.Proofs.Ytnpkpmbpapekbaa
