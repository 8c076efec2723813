/- types.Check. -/
import Derived.Test.YtncndgfaalojpaaZh
import Derived.Test.YtncndgfaalojpaaZg
namespace Go.Proofs.Ytncndgfaalojpaa
open Go.RowKit
set_option linter.unusedVariables false

theorem retF {fn : Func} {p : Tmp} (h : fn.results = #[.cell p 60]) {R : Ending → World → Prop} {tmps : Array Value} {g : Nat} {w : World} {x y : Int} (hp : tmps.getD p undef = .pointer (some ⟨g, 0, none⟩)) (hK : Blk w g 60 [.int .i64 x, .int .i64 y]) (hR : R (.returned (.agg #[.int .i64 x, .int .i64 y])) w) :
    bodyPost Try.prog fn R Exit.ret ⟨tmps, []⟩ w :=
  bodyPost_ret (results_cell_row h _ _ _ _ #[.int .i64 x, .int .i64 y] _ _ hp (show w.heap[g]? = some (.cells #[.int .i64 x, .int .i64 y] 60 (0, 0)) from hK) Try.underlying60 rfl (by show _ = some 2; kernel_rfl)) rfl hR
theorem wr2 {w : World} {g : Nat} {t : TypeId} {x0 x1 : Value} (h : Blk w g t [x0, x1]) (y0 y1 : Value) :
    Blk ((w.setCell ⟨g, 0, none⟩ y0).setCell ⟨g, 1, none⟩ y1) g t [y0, y1] := by
  have := (h.set 0 y0).set 1 y1
  simpa using this
theorem below_wr2 {B : Nat} {w w' : World} (h : Below B w w') (b : Nat) (hb : B ≤ b) (y0 y1 : Value) : Below B w ((w'.setCell ⟨b, 0, none⟩ y0).setCell ⟨b, 1, none⟩ y1) :=
  below_set (below_set h _ _ _ hb) _ _ _ hb
set_option maxRecDepth 100000 in
set_option maxHeartbeats 8000000 in
theorem check_any (a : Option Addr) (c : Nat) (T : List Ty) (ar : Option Addr) (cr : Nat) (R : List Rt) (w : World) (hn : T.length ≤ 10000000000000) (hm : R.length ≤ 10000000000000) (hL : Hid (LensT T)) (hT : Hid (TRow w a T)) (hR : Hid (RRow w ar R)) :
    Calls Try.prog 20 #[.agg #[.slice a T.length c, .slice ar R.length cr]] w fun e w' => e = .returned (.agg #[.int .i64 (chk T R).1, .int .i64 (chk T R).2]) ∧ Below w.heap.size w w' := by
  have hB := below2 w (.cells #[.slice a T.length c, .slice ar R.length cr] 25) (.cells #[.int .i64 0, .int .i64 0] 60)
  obtain ⟨k1, k2⟩ := blk2 w #[.slice a T.length c, .slice ar R.length cr] #[.int .i64 0, .int .i64 0] 25 60
  obtain ⟨w0, hw0⟩ : ∃ wx, wx = (w.alloc (.cells #[.slice a T.length c, .slice ar R.length cr] 25)).alloc (.cells #[.int .i64 0, .int .i64 0] 60) := ⟨_, rfl⟩
  rw [← hw0] at hB k1 k2
  have HB0 := hide_ hB
  have K1 := hide_ k1
  have K2 := hide_ k2
  have hs1 : w.heap.size < w0.heap.size := k1.lt
  have hs2 : w.heap.size + 1 < w0.heap.size := k2.lt
  have i0 := k1.cell 0; have i1 := k1.cell 1
  simp at i0 i1
  obtain ⟨vE, hE⟩ : ∃ vE, (chk T R).1 = vE := ⟨_, rfl⟩
  obtain ⟨vA, hA⟩ : ∃ vA, (chk T R).2 = vA := ⟨_, rfl⟩
  rw [hE, hA]
  have HC : Hid (chk T R = (vE, vA)) := hide_ (by rw [← hE, ← hA])
  clear hB k1 k2 hE hA
  go_enter Try.func20, Try.ntmps20
  go_upto_region 1 with fail
  rw [← hw0]
  clear hw0
  go_wp2_with fail
  go_loopw [10] (fun x10 wr => ∃ i : Nat, i ≤ T.length ∧ x10 = .int .i64 (i : Int) ∧ Hid (∀ j, j < i → tyOk (T.getD j ty0) j = true) ∧ Hid (Below w0.heap.size w0 wr)) (fun x10 _ => T.length - (intOf x10).toNat)
  case atStart => exact ⟨0, Nat.zero_le _, rfl, hide_ (fun j hj => by omega), hide_ (Below.refl _ _)⟩
  case round =>
    obtain ⟨i, hi, rfl, HA, HB⟩ := hrel
    generalize wr = wq at *
    clear i0 i1
    by_cases hlt : i < T.length
    · have hlt' : (i : Int) < T.length := by omega
      obtain ⟨b, o, rfl, hb, hc⟩ := (hT.out.later (below_to HB0.out HB.out)).open (by omega)
      have hx : T[i]? = some (T[i]'hlt) := List.getElem?_eq_getElem hlt
      obtain ⟨va, vc, hcx, hvc, -, hP⟩ := hc i _ hx
      have hgd : T.getD i ty0 = T[i]'hlt := by simp [List.getD, hlt]
      have HGD := hide_ hgd
      have hpl := hL.out.at hx
      generalize T[i]'hlt = t at *
      have i0 := hcx 0 (by decide); have i1 := hcx 1 (by decide); have i2 := hcx 2 (by decide); have i3 := hcx 3 (by decide)
      simp [tyc] at i0 i1 i2 i3
      have kt := Blk.newA wq #[.int .i64 t.k, .int .i64 t.n, .int .i64 t.e, .slice va t.ps.length vc] 43
      have hBx := below1 wq (.cells #[.int .i64 t.k, .int .i64 t.n, .int .i64 t.e, .slice va t.ps.length vc] 43)
      obtain ⟨wx, hwx⟩ : ∃ wx, wx = wq.alloc (.cells #[.int .i64 t.k, .int .i64 t.n, .int .i64 t.e, .slice va t.ps.length vc] 43) := ⟨_, rfl⟩
      rw [← hwx] at kt hBx
      have HBx := hide_ (below_to HB.out hBx)
      have HCon := hide_ (isType_any t va vc (i : Int) wx hvc (hide_ (hP.later hBx)))
      obtain ⟨ok, hok⟩ : ∃ ok, tyOk t (i : Int) = ok := ⟨_, rfl⟩
      rw [hok] at HCon
      have HOK := hide_ hok
      have j0 := kt.cell 0; have j1 := kt.cell 1; have j2 := kt.cell 2; have j3 := kt.cell 3
      simp at j0 j1 j2 j3
      clear hc hx hcx hP kt hBx hok hgd hb
      go_upto_region 4 with fail
      rw [← hwx]
      clear hwx i0 i1 i2 i3
      cases ok with
      | true =>
        have HA2 : Hid (∀ j, j < i + 1 → tyOk (T.getD j ty0) j = true) := hide_ (fun j hj => by
          rcases Nat.lt_or_ge j i with h | h
          · exact HA.out j h
          · obtain rfl : j = i := by omega
            rw [HGD.out]; exact HOK.out)
        go_wp2_with (go_at_call 40; refine HCon.out.mono ?_; rintro e w' ⟨rfl, hB1⟩; (have HB1 := hide_ (below_to HBx.out hB1)); clear hB1)
        go_roundw
        case rel => exact ⟨i + 1, by omega, by go_num, HA2, HB1⟩
        case measure => simp [intOf]; omega
      | false =>
        have HV : Hid (vE = 92 ∧ vA = (i : Int)) := hide_ (by
          have h := chk_ty (R := R) hlt (by rw [HGD.out]; exact HOK.out) HA.out
          rw [HC.out] at h
          injection h with h1 h2
          exact ⟨h1, h2⟩)
        go_wp2_with fail
        refine HCon.out.mono ?_; rintro e w1 ⟨rfl, hB1⟩
        have HB1 := hide_ (below_to HBx.out hB1)
        have KF := hide_ (K2.out.later HB1.out)
        have l0 := KF.out.cell 0; have l1 := KF.out.cell 1
        simp at l0 l1
        have f0 := fun i => KF.out.frozen i
        have HK := hide_ (wr2 KF.out (.int .i64 92) (.int .i64 (i : Int)))
        have HBf := hide_ (below_wr2 (below_to HB0.out HB1.out) (w.heap.size + 1) (by omega) (.int .i64 92) (.int .i64 (i : Int)))
        clear hB1 j0 j1 j2 j3
        go_wp2
        refine retF (x := 92) (y := (i : Int)) rfl rfl HK.out ⟨by rw [HV.out.1, HV.out.2], HBf.out⟩
    · obtain rfl : i = T.length := by omega
      have hcD : chkD T R = (vE, vA) := by rw [← chk_deep (R := R) HA.out]; exact HC.out
      have HCD := hide_ hcD
      have HDp := hide_ (deep_any a c T wq hn hL (hide_ (hT.out.later (below_to HB0.out HB.out))) HA)
      have KS := hide_ (K1.out.later HB.out)
      have i0 := KS.out.cell 0; have i1 := KS.out.cell 1
      simp at i0 i1
      clear hcD
      go_wp2_with fail
      refine HDp.out.mono ?_; rintro e w1 ⟨r, rfl, HR, hB1⟩
      have HB1 := hide_ (below_to HB.out hB1)
      have KS1 := hide_ (K1.out.later HB1.out)
      have j0 := KS1.out.cell 0; have j1 := KS1.out.cell 1
      simp at j0 j1
      clear hB1 i0 i1 HDp
      rcases HR.out with ⟨rfl, hno⟩ | ⟨i, hi2, rfl, hgt, hle⟩
      · have HCR : Hid (chkR T.length R = (vE, vA)) := hide_ (by rw [← chkD_none (R := R) hno]; exact HCD.out)
        clear hno HR
        go_wp2_with fail
        go_loopw [32] (fun x32 wr => ∃ i : Nat, i ≤ R.length ∧ x32 = .int .i64 (i : Int) ∧ Hid (∀ j, j < i → rootOk T.length R j = true) ∧ Hid (Below w0.heap.size w0 wr)) (fun x32 _ => R.length - (intOf x32).toNat)
        case atStart => exact ⟨0, Nat.zero_le _, rfl, hide_ (fun j hj => by omega), HB1⟩
        case round =>
          obtain ⟨i, hi, rfl, HAr, HBr⟩ := hrel
          generalize wr = wp at *
          clear j0 j1
          have KSp := hide_ (K1.out.later HBr.out)
          have i0 := KSp.out.cell 0; have i1 := KSp.out.cell 1
          simp at i0 i1
          by_cases hlt : i < R.length
          · have hlt' : (i : Int) < R.length := by omega
            have HCon := hide_ (isRoot_any a T.length c ar cr R i wp (by omega) (by omega) hlt (hide_ (hR.out.later (below_to HB0.out HBr.out))))
            obtain ⟨ok, hok⟩ : ∃ ok, rootOk T.length R i = ok := ⟨_, rfl⟩
            rw [hok] at HCon
            have HOK := hide_ hok
            clear hok
            cases ok with
            | true =>
              have HA2 : Hid (∀ j, j < i + 1 → rootOk T.length R j = true) := hide_ (fun j hj => by
                rcases Nat.lt_or_ge j i with h | h
                · exact HAr.out j h
                · obtain rfl : j = i := by omega
                  exact HOK.out)
              go_wp2_with (go_at_call 42; refine HCon.out.mono ?_; rintro e w' ⟨rfl, hB2⟩; (have HB2 := hide_ (below_to HBr.out hB2)); clear hB2)
              go_roundw
              case rel => exact ⟨i + 1, by omega, by go_num, HA2, HB2⟩
              case measure => simp [intOf]; omega
            | false =>
              have HV : Hid (vE = 92 ∧ vA = (T.length : Int) + i) := hide_ (by
                have h := chkR_at hlt HOK.out HAr.out
                rw [HCR.out] at h
                injection h with h1 h2
                exact ⟨h1, h2⟩)
              go_wp2_with fail
              refine HCon.out.mono ?_; rintro e w2 ⟨rfl, hB2⟩
              have HB2 := hide_ (below_to HBr.out hB2)
              have KF := hide_ (K2.out.later HB2.out)
              have KS2 := hide_ (K1.out.later HB2.out)
              have l0 := KF.out.cell 0; have l1 := KF.out.cell 1; have m0 := KS2.out.cell 0
              simp at l0 l1 m0
              have f0 := fun i => KF.out.frozen i
              have hwr : wrap64 ((T.length : Int) + i) = (T.length : Int) + i := w64 _ (by omega)
              have HK := hide_ (wr2 KF.out (.int .i64 92) (.int .i64 ((T.length : Int) + i)))
              have HBf := hide_ (below_wr2 (below_to HB0.out HB2.out) (w.heap.size + 1) (by omega) (.int .i64 92) (.int .i64 ((T.length : Int) + i)))
              clear hB2 i0 i1
              go_wp2
              refine retF (x := 92) (y := (T.length : Int) + i) rfl rfl HK.out ⟨by rw [HV.out.1, HV.out.2], HBf.out⟩
          · obtain rfl : i = R.length := by omega
            have HV : Hid (vE = 0 ∧ vA = 0) := hide_ (by
              have h := chkR_none HAr.out
              rw [HCR.out] at h
              injection h with h1 h2
              exact ⟨h1, h2⟩)
            have KF := hide_ (K2.out.later HBr.out)
            have l0 := KF.out.cell 0; have l1 := KF.out.cell 1
            simp at l0 l1
            have f0 := fun i => KF.out.frozen i
            have HK := hide_ (wr2 KF.out (.int .i64 0) (.int .i64 0))
            have HBf := hide_ (below_wr2 (below_to HB0.out HBr.out) (w.heap.size + 1) (by omega) (.int .i64 0) (.int .i64 0))
            go_wp2
            refine retF (x := 0) (y := 0) rfl rfl HK.out ⟨by rw [HV.out.1, HV.out.2], HBf.out⟩
      · have HV : Hid (vE = 83 ∧ vA = (i : Int)) := hide_ (by
          have h := chkD_at (R := R) hi2 hgt hle
          rw [HCD.out] at h
          injection h with h1 h2
          exact ⟨h1, h2⟩)
        have hi3 : (0 : Int) ≤ i := by omega
        have KF := hide_ (K2.out.later HB1.out)
        have l0 := KF.out.cell 0; have l1 := KF.out.cell 1
        simp at l0 l1
        have f0 := fun i => KF.out.frozen i
        have HK := hide_ (wr2 KF.out (.int .i64 83) (.int .i64 (i : Int)))
        have HBf := hide_ (below_wr2 (below_to HB0.out HB1.out) (w.heap.size + 1) (by omega) (.int .i64 83) (.int .i64 (i : Int)))
        clear hgt hle HR
        go_wp2
        refine retF (x := 83) (y := (i : Int)) rfl rfl HK.out ⟨by rw [HV.out.1, HV.out.2], HBf.out⟩
end Go.Proofs.Ytncndgfaalojpaa
