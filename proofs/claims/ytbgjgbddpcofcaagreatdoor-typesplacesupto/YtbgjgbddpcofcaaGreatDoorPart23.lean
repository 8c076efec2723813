import Derived.Test.YtbgjgbddpcofcaaGreatDoorPart22
import Derived.Deep.OwnRows

/- types.Check: firstTooDeep. -/
namespace Go.Proofs.YtbgjgbddpcofcaaGreatDoor
open Go.RowKit
set_option linter.unusedVariables false

theorem getD_mid {l r : List Int} {x : Int} {n : Nat} (h : l.length = n) : (l ++ x :: r).getD n 0 = x := by
  subst h
  simp [List.getD]
theorem set_mid {l r : List Int} {x y : Int} {n : Nat} (h : l.length = n) : (l ++ x :: r).set n y = l ++ y :: r := by
  subst h
  simp
theorem kidD_succ {l : List Int} {ps : List Ptz} {d : Int} {m : Nat} {p : Ptz} (h : ps[m]? = some p) : kidD l (ps.take (m + 1)) d = max (kidD l (ps.take m) d) (l.getD p.ty.toNat 0) := by
  have hm := (List.getElem?_eq_some_iff.1 h).1
  rw [List.take_succ_eq_append_getElem hm, (List.getElem?_eq_some_iff.1 h).2]
  simp [kidD]
theorem getD_bd {l : List Int} {n : Nat} (h : ∀ j, j < l.length → 0 ≤ l.getD j 0 ∧ l.getD j 0 ≤ 64) : 0 ≤ l.getD n 0 ∧ l.getD n 0 ≤ 64 := by
  rcases Nat.lt_or_ge n l.length with hn | hn
  · exact h n hn
  · rw [show l.getD n 0 = 0 by simp [List.getD, List.getElem?_eq_none hn]]; omega
theorem kidD_bd {l : List Int} (h : ∀ j, j < l.length → 0 ≤ l.getD j 0 ∧ l.getD j 0 ≤ 64) : ∀ (ps : List Ptz) (d : Int), 0 ≤ d ∧ d ≤ 64 → 0 ≤ kidD l ps d ∧ kidD l ps d ≤ 64
  | [], d, hd => hd
  | p :: ps, d, hd => by
    have h1 := getD_bd (n := p.ty.toNat) h
    have := kidD_bd h ps (max d (l.getD p.ty.toNat 0)) (by omega)
    simpa [kidD] using this
theorem max_ifz (a b : Int) : (if a < b then b else a) = max a b := by split <;> omega
theorem min_if (a b : Int) : (if b < a then b else a) = min a b := by split <;> omega
/-- What firstTooDeep answers. -/
def DeepR (T : List Ty) (r : Int) : Prop := (r = -1 ∧ ∀ j, j < T.length → (depL T).getD j 0 ≤ 64) ∨ ∃ i : Nat, i < T.length ∧ r = (i : Int) ∧ 64 < (depL T).getD i 0 ∧ ∀ j, j < i → (depL T).getD j 0 ≤ 64
set_option maxRecDepth 100000 in
set_option maxHeartbeats 8000000 in
theorem deep_any (a : Option Addr) (c : Nat) (T : List Ty) (w : World) (hn : T.length ≤ 10000000000000) (hL : Hid (LensT T)) (hT : Hid (TRowz w a T)) (hok : Hid (∀ j, j < T.length → tyOk (T.getD j ty0) j = true)) :
    Calls Tryz.prog 23 #[.slice a T.length c] w fun e w' => ∃ r : Int, e = .returned (.int .i64 r) ∧ Hid (DeepR T r) ∧ Below w.heap.size w w' := by
  have hmk := run_make_row' (P := Tryz.prog) 57 3 (.int .i64 0) 8 Tryz.underlying57 (by kernel_rfl) rfl .i64 .i64 T.length (by omega) (by omega)
  have hB0 := below1 w (.cells (madeCells #[.int .i64 0] T.length) 3)
  have k0 := Blk.newA w (madeCells #[.int .i64 0] T.length) 3
  rw [toList_madeCells_one] at k0
  obtain ⟨w0, hw0⟩ : ∃ w0, w0 = w.alloc (.cells (madeCells #[.int .i64 0] T.length) 3) := ⟨_, rfl⟩
  rw [← hw0] at hB0 k0
  have HB0 := hide_ hB0
  have HK0 : Hid (Blk w0 w.heap.size 3 (cellsL .i64 (depL (T.take 0) ++ List.replicate (T.length - 0) 0))) := hide_ (by
    have e : cellsL .i64 (depL (T.take 0) ++ List.replicate (T.length - 0) 0) = List.replicate T.length (.int .i64 0) := by simp [cellsL, depL]
    rw [e]; exact k0)
  clear hB0 k0
  go_enter Tryz.func23, Tryz.ntmps23
  go_upto_region 2 with fail
  rw [← hw0]
  clear hw0
  go_wp2_with fail
  go_loopw [13] (fun x13 wr => ∃ i : Nat, i ≤ T.length ∧ x13 = .int .i64 (i : Int) ∧ Hid (Blk wr w.heap.size 3 (cellsL .i64 (depL (T.take i) ++ List.replicate (T.length - i) 0))) ∧ Hid (∀ j, j < i → 0 ≤ (depL T).getD j 0 ∧ (depL T).getD j 0 ≤ 64) ∧ Hid (Below w.heap.size w wr)) (fun x13 _ => T.length - (intOf x13).toNat)
  case atStart => exact ⟨0, Nat.zero_le _, rfl, HK0, hide_ (fun j hj => by omega), HB0⟩
  case round =>
    obtain ⟨i, hi, rfl, HK, HD, HB⟩ := hrel
    generalize wr = wq at *
    clear HK0 HB0 hmk
    by_cases hlt : i < T.length
    · have hlt' : (i : Int) < T.length := by omega
      obtain ⟨b, o, rfl, hb, hc⟩ := hT.out.open (by omega)
      have hx : T[i]? = some (T[i]'hlt) := List.getElem?_eq_getElem hlt
      obtain ⟨va, vc, hcw, hvc, -, hP⟩ := hc i _ hx
      have hcx := fun j (hj : j < 4) => (HB.out.cell (p := ⟨b, o + i * 4 + j, none⟩) hb).trans (hcw j hj)
      clear hcw
      have HX := hide_ hx
      have hok1 := hok.out i hlt
      rw [show T.getD i ty0 = T[i]'hlt by simp [List.getD, hlt]] at hok1
      have hpl := hL.out.at hx
      have HT : Hid (depL (T.take (i + 1)) = depL (T.take i) ++ [dep1 (depL (T.take i)) (T[i]'hlt)]) := hide_ (by rw [List.take_succ_eq_append_getElem hlt, depL_snoc])
      generalize T[i]'hlt = t at *
      obtain ⟨k, n, el, ps⟩ := t
      simp only at hvc hP hpl hok1 HT
      have HOK := hide_ hok1
      have i0 := hcx 0 (by decide); have i1 := hcx 1 (by decide); have i2 := hcx 2 (by decide); have i3 := hcx 3 (by decide)
      simp [tyc] at i0 i1 i2 i3
      clear hc hx hcx hok1
      have kt := Blk.newA wq #[.int .i64 k, .int .i64 n, .int .i64 el, .slice va ps.length vc] 49
      have hBx := below1 wq (.cells #[.int .i64 k, .int .i64 n, .int .i64 el, .slice va ps.length vc] 49)
      obtain ⟨wx, hwx⟩ : ∃ wx, wx = wq.alloc (.cells #[.int .i64 k, .int .i64 n, .int .i64 el, .slice va ps.length vc] 49) := ⟨_, rfl⟩
      rw [← hwx] at kt hBx
      have HBx := hide_ (HB.out.trans (hBx.mono HB.out.size))
      have HKx := hide_ (HK.out.later hBx)
      have HP := hide_ hP
      have KT := hide_ kt
      have hgq : w.heap.size < wq.heap.size := HK.out.lt
      have j0 := kt.cell 0; have j2 := kt.cell 2; have j3 := kt.cell 3
      simp at j0 j2 j3
      clear kt hBx hP HK hb
      -- the list: what is known, the new one, the rest
      obtain ⟨pre, hpre⟩ : ∃ pre, depL (T.take i) = pre := ⟨_, rfl⟩
      obtain ⟨zs, hzs⟩ : ∃ zs, List.replicate (T.length - i - 1) (0 : Int) = zs := ⟨_, rfl⟩
      have hpl2 : pre.length = i := by rw [← hpre, depL_len]; simp; omega
      have HPB : Hid (∀ j, j < pre.length → 0 ≤ pre.getD j 0 ∧ pre.getD j 0 ≤ 64) := hide_ (fun j hj => by
        have h := HD.out j (by omega)
        rw [← depL_take T (m := i) (by omega) (by omega), hpre] at h
        exact h)
      have hrep : List.replicate (T.length - i) (0 : Int) = 0 :: zs := by
        rw [← hzs, ← List.replicate_succ]
        congr 1
        omega
      rw [hpre, hrep] at HKx
      rw [hpre] at HT
      have HPRE := hide_ hpre
      have HZS := hide_ hzs
      have HPL := hide_ hpl2
      have HLen : Hid (∀ d, (pre ++ d :: zs).length = T.length) := hide_ (fun d => by
        rw [List.length_append, List.length_cons, hpl2, ← hzs, List.length_replicate]
        omega)
      clear hpre hzs hrep hpl2
      go_upto_region 5 with fail
      rw [← hwx]
      clear hwx i0 i1 i2 i3
      obtain ⟨be, hbe⟩ : ∃ be, hasE k = be := ⟨_, rfl⟩
      have HE := hide_ hbe
      have HCon : Hid (∀ w, Calls Tryz.prog 42 #[.int .i64 k] w fun e w' => e = .returned (.bool be) ∧ w = w') := hide_ (fun w => by have := hasElem_any k w; rwa [hbe] at this)
      clear hbe
      obtain ⟨d0, hd0⟩ : ∃ d0, (if hasE k then pre.getD el.toNat 0 else 0) = d0 := ⟨_, rfl⟩
      have HD0 := hide_ hd0
      have hd0b : 0 ≤ d0 ∧ d0 ≤ 64 := by
        rw [← hd0]
        split
        · exact getD_bd HPB.out
        · omega
      clear hd0
      go_upto_if 20 with (go_at_call 42; refine (HCon.out _).mono ?_; rintro e w' ⟨rfl, rfl⟩)
      go_cut [] from 18 to 28 (fun wc => ∃ w1, w1 = wc ∧ Hid (Blk w1 w.heap.size 3 (cellsL .i64 (pre ++ d0 :: zs))) ∧ Hid (Upd (fun k => k = w.heap.size) wx w1))
      case first =>
        cases be with
        | true =>
          have hel := tyOk_elem HOK.out HE.out
          simp only at hel
          obtain ⟨ej, rfl⟩ := Int.eq_ofNat_of_zero_le hel.1
          have hej : ej < i := by omega
          have hejT : (ej : Int) < T.length := by omega
          have hd : d0 = pre.getD ej 0 := by rw [← HD0.out, if_pos HE.out]; simp
          have c1 := HKx.out.cell ej
          rw [cellsL_at _ _ _ (by rw [HLen.out]; omega), getD_app (by rw [HPL.out]; omega), ← hd] at c1
          have f1 := HKx.out.frozen i
          have c2 := HKx.out.cell i
          rw [cellsL_at _ _ _ (by rw [HLen.out]; omega), getD_mid HPL.out] at c2
          have HKs : Hid (Blk (wx.setCell ⟨w.heap.size, i, none⟩ (.int .i64 d0)) w.heap.size 3 (cellsL .i64 (pre ++ d0 :: zs))) := hide_ (by
            have h := HKx.out.set i (.int .i64 d0)
            rw [cellsL_set, set_mid HPL.out] at h
            exact h)
          have HUs : Hid (Upd (fun k => k = w.heap.size) wx (wx.setCell ⟨w.heap.size, i, none⟩ (.int .i64 d0))) := hide_ ((Upd.refl _ _).set _ _ (.inl rfl))
          clear hd hel
          go_wp2
          go_meet
          case rel => exact ⟨_, rfl, HKs, HUs⟩
        | false =>
          have hd : d0 = 0 := by rw [← HD0.out, HE.out]; rfl
          subst hd
          go_wp2
          go_meet
          case rel => exact ⟨_, rfl, HKx, hide_ (Upd.refl _ _)⟩
      case rest =>
      obtain ⟨w1, rfl, HK1, HU1⟩ := hcut
      have KT1 := hide_ (KT.out.upd HU1.out (by show ¬ wq.heap.size = w.heap.size; omega))
      have j3a := KT1.out.cell 3
      simp at j3a
      have HB1 := hide_ (HBx.out.trans (HU1.out.below w.heap.size HBx.out.size (fun k hk => by omega)))
      clear j0 j2 j3 HKx HBx KT
      go_wp2_with fail
      go_loopw [32] (fun x32 wr => ∃ m : Nat, m ≤ ps.length ∧ x32 = .int .i64 (m : Int) ∧ Hid (Blk wr w.heap.size 3 (cellsL .i64 (pre ++ kidD pre (ps.take m) d0 :: zs))) ∧ Hid (Below w.heap.size w wr)) (fun x32 _ => ps.length - (intOf x32).toNat)
      case atStart => exact ⟨0, Nat.zero_le _, rfl, HK1, HB1⟩
      case round =>
        obtain ⟨m, hm, rfl, HK, HB2⟩ := hrel
        generalize wr = wp at *
        clear HK1 HB1 HB j3a
        have hkb := kidD_bd HPB.out (ps.take m) d0 hd0b
        obtain ⟨dm, hdm⟩ : ∃ dm, kidD pre (ps.take m) d0 = dm := ⟨_, rfl⟩
        rw [hdm] at HK hkb
        have HDM := hide_ hdm
        clear hdm
        by_cases hlm : m < ps.length
        · have hlm' : (m : Int) < ps.length := by omega
          obtain ⟨b2, o2, rfl, hb2, hc2⟩ := (HP.out.later HB2.out).open (by omega)
          have hx2 : ps[m]? = some (ps[m]'hlm) := List.getElem?_eq_getElem hlm
          have hcx2 := hc2 m _ hx2
          have hpr := tyOk_part (t := ⟨k, n, el, ps⟩) HOK.out hx2
          have HS := hide_ (kidD_succ (l := pre) (d := d0) hx2)
          generalize ps[m]'hlm = p at *
          obtain ⟨lb, tg, ty⟩ := p
          simp only at hpr HS
          obtain ⟨ej, rfl⟩ := Int.eq_ofNat_of_zero_le hpr.1
          have hej : ej < i := by omega
          have hejT : (ej : Int) < T.length := by omega
          have i0 := hcx2 0 (by decide); have i1 := hcx2 1 (by decide); have i2 := hcx2 2 (by decide)
          simp [ptc] at i0 i1 i2
          clear hc2 hx2 hcx2 hpr
          rw [HDM.out, Int.toNat_natCast] at HS
          have kp := Blk.newA wp #[.string lb, .int .i64 tg, .int .i64 (ej : Int)] 67
          have hBx := below1 wp (.cells #[.string lb, .int .i64 tg, .int .i64 (ej : Int)] 67)
          obtain ⟨wy, hwy⟩ : ∃ wy, wy = wp.alloc (.cells #[.string lb, .int .i64 tg, .int .i64 (ej : Int)] 67) := ⟨_, rfl⟩
          rw [← hwy] at kp hBx
          have HBy := hide_ (HB2.out.trans (hBx.mono HB2.out.size))
          have HKy := hide_ (HK.out.later hBx)
          have y2 := kp.cell 2
          simp at y2
          clear kp hBx
          obtain ⟨de, hde⟩ : ∃ de, pre.getD ej 0 = de := ⟨_, rfl⟩
          have hdeb := getD_bd (n := ej) HPB.out
          rw [hde] at hdeb HS
          have c1 := HKy.out.cell ej
          rw [cellsL_at _ _ _ (by rw [HLen.out]; omega), getD_app (by rw [HPL.out]; omega), hde] at c1
          have f1 := HKy.out.frozen i
          have c2 := HKy.out.cell i
          rw [cellsL_at _ _ _ (by rw [HLen.out]; omega), getD_mid HPL.out] at c2
          clear hde
          have HKs : Hid (∀ x, Blk ((wy.setCell ⟨w.heap.size, i, none⟩ (.int .i64 x)).drew) w.heap.size 3 (cellsL .i64 (pre ++ x :: zs))) := hide_ (fun x => by
            refine Blk.drew ?_
            have h := HKy.out.set i (.int .i64 x)
            rw [cellsL_set, set_mid HPL.out] at h
            exact h)
          have HBs : Hid (∀ x, Below w.heap.size w ((wy.setCell ⟨w.heap.size, i, none⟩ (.int .i64 x)).drew)) := hide_ (fun x => (below_setz HBy.out _ _ _ (Nat.le_refl _)).drew)
          go_upto_region 10 with fail
          rw [← hwy]
          clear hwy i0 i1 i2
          go_region
          go_wp2_with fail
          go_roundw
          case rel => exact ⟨m + 1, by omega, by go_num, by rw [HS.out, ← max_ifz]; exact hide_ (HKs.out _), hide_ (HBs.out _)⟩
          case measure => simp [intOf]; omega
        · obtain rfl : m = ps.length := by omega
          have HV : Hid (dep1 pre ⟨k, n, el, ps⟩ = dm + 1) := hide_ (by
            have h := HDM.out
            rw [List.take_length] at h
            unfold dep1
            simp only
            rw [HD0.out, h])
          have c2 := HK.out.cell i
          rw [cellsL_at _ _ _ (by rw [HLen.out]; omega), getD_mid HPL.out] at c2
          have f1 := HK.out.frozen i
          have hwr : wrap64 (dm + 1) = dm + 1 := w64 _ (by omega)
          have kS : Blk (wp.setCell ⟨w.heap.size, i, none⟩ (.int .i64 (dm + 1))) w.heap.size 3 (cellsL .i64 (pre ++ (dm + 1) :: zs)) := by
            have h := HK.out.set i (.int .i64 (dm + 1))
            rw [cellsL_set, set_mid HPL.out] at h
            exact h
          have HBs := hide_ (below_setz HB2.out w.heap.size i (.int .i64 (dm + 1)) (Nat.le_refl _))
          obtain ⟨ws, hws⟩ : ∃ ws, ws = wp.setCell ⟨w.heap.size, i, none⟩ (.int .i64 (dm + 1)) := ⟨_, rfl⟩
          rw [← hws] at kS HBs
          have KS := hide_ kS
          have c3 := kS.cell i
          rw [cellsL_at _ _ _ (by rw [HLen.out]; omega), getD_mid HPL.out] at c3
          have HDi : Hid ((depL T).getD i 0 = dm + 1) := hide_ (by
            rw [← depL_take T (m := i + 1) (by omega) (by omega), HT.out, HV.out]
            exact getD_mid HPL.out)
          clear kS
          go_upto_region 13 with fail
          rw [← hws]
          clear hws c2
          by_cases hgt : 64 < dm + 1
          · go_wp2
            go_ret
            exact ⟨(i : Int), rfl, hide_ (.inr ⟨i, hlt, rfl, by rw [HDi.out]; omega, fun j hj => (HD.out j hj).2⟩), HBs.out⟩
          · have HKn : Hid (Blk ws w.heap.size 3 (cellsL .i64 (depL (T.take (i + 1)) ++ List.replicate (T.length - (i + 1)) 0))) := hide_ (by
              have h := KS.out
              rw [HT.out, HV.out, show T.length - (i + 1) = T.length - i - 1 by omega, HZS.out, List.append_assoc]
              exact h)
            have HDn : Hid (∀ j, j < i + 1 → 0 ≤ (depL T).getD j 0 ∧ (depL T).getD j 0 ≤ 64) := hide_ (fun j hj => by
              rcases Nat.lt_or_ge j i with h | h
              · exact HD.out j h
              · obtain rfl : j = i := by omega
                rw [HDi.out]
                omega)
            clear HT HPRE HZS HV HDi HLen
            go_wp2_with fail
            go_roundw
            case rel => exact ⟨i + 1, by omega, by go_num, HKn, HDn, HBs⟩
            case measure => simp [intOf]; omega
    · obtain rfl : i = T.length := by omega
      go_wp2
      go_ret
      exact ⟨-1, rfl, hide_ (.inl ⟨rfl, fun j hj => (HD.out j hj).2⟩), HB.out⟩
end Go.Proofs.YtbgjgbddpcofcaaGreatDoor

/- types.Check. -/
namespace Go.Proofs.YtbgjgbddpcofcaaGreatDoor
open Go.RowKit
set_option linter.unusedVariables false

theorem retFz {fn : Func} {p : Tmp} (h : fn.results = #[.cell p 32]) {R : Ending → World → Prop} {tmps : Array Value} {g : Nat} {w : World} {x y : Int} (hp : tmps.getD p undef = .pointer (some ⟨g, 0, none⟩)) (hK : Blk w g 32 [.int .i64 x, .int .i64 y]) (hR : R (.returned (.agg #[.int .i64 x, .int .i64 y])) w) :
    bodyPost Tryz.prog fn R Exit.ret ⟨tmps, []⟩ w :=
  bodyPost_ret (results_cell_rowz h _ _ _ _ #[.int .i64 x, .int .i64 y] _ _ hp (show w.heap[g]? = some (.cells #[.int .i64 x, .int .i64 y] 32 (0, 0)) from hK) Tryz.underlying32 rfl (by show _ = some 2; kernel_rfl)) rfl hR
theorem wr2z {w : World} {g : Nat} {t : TypeId} {x0 x1 : Value} (h : Blk w g t [x0, x1]) (y0 y1 : Value) :
    Blk ((w.setCell ⟨g, 0, none⟩ y0).setCell ⟨g, 1, none⟩ y1) g t [y0, y1] := by
  have := (h.set 0 y0).set 1 y1
  simpa using this
theorem below_wr2 {B : Nat} {w w' : World} (h : Below B w w') (b : Nat) (hb : B ≤ b) (y0 y1 : Value) : Below B w ((w'.setCell ⟨b, 0, none⟩ y0).setCell ⟨b, 1, none⟩ y1) :=
  below_setz (below_setz h _ _ _ hb) _ _ _ hb
set_option maxRecDepth 100000 in
set_option maxHeartbeats 8000000 in
theorem check_anyz (a : Option Addr) (c : Nat) (T : List Ty) (ar : Option Addr) (cr : Nat) (R : List Rt) (w : World) (hn : T.length ≤ 10000000000000) (hm : R.length ≤ 10000000000000) (hL : Hid (LensT T)) (hT : Hid (TRowz w a T)) (hR : Hid (RRow w ar R)) :
    Calls Tryz.prog 11 #[.agg #[.slice a T.length c, .slice ar R.length cr]] w fun e w' => e = .returned (.agg #[.int .i64 (chk T R).1, .int .i64 (chk T R).2]) ∧ Below w.heap.size w w' := by
  have hB := below2z w (.cells #[.slice a T.length c, .slice ar R.length cr] 29) (.cells #[.int .i64 0, .int .i64 0] 32)
  obtain ⟨k1, k2⟩ := blk2z w #[.slice a T.length c, .slice ar R.length cr] #[.int .i64 0, .int .i64 0] 29 32
  obtain ⟨w0, hw0⟩ : ∃ wx, wx = (w.alloc (.cells #[.slice a T.length c, .slice ar R.length cr] 29)).alloc (.cells #[.int .i64 0, .int .i64 0] 32) := ⟨_, rfl⟩
  rw [← hw0] at hB k1 k2
  have HB0 := hide_ hB
  have K1 := hide_ k1
  have K2 := hide_ k2
  have hs1 : w.heap.size < w0.heap.size := k1.lt
  have hs2 : w.heap.size + 1 < w0.heap.size := k2.lt
  have i0 := k1.cell 0; have i1 := k1.cell 1
  simp at i0 i1
  obtain ⟨vE, hE⟩ : ∃ vE, (chk T R).1 = vE := ⟨_, rfl⟩
  obtain ⟨vA, hA⟩ : ∃ vA, (chk T R).2 = vA := ⟨_, rfl⟩
  rw [hE, hA]
  have HC : Hid (chk T R = (vE, vA)) := hide_ (by rw [← hE, ← hA])
  clear hB k1 k2 hE hA
  go_enter Tryz.func11, Tryz.ntmps11
  go_upto_region 1 with fail
  rw [← hw0]
  clear hw0
  go_wp2_with fail
  go_loopw [10] (fun x10 wr => ∃ i : Nat, i ≤ T.length ∧ x10 = .int .i64 (i : Int) ∧ Hid (∀ j, j < i → tyOk (T.getD j ty0) j = true) ∧ Hid (Below w0.heap.size w0 wr)) (fun x10 _ => T.length - (intOf x10).toNat)
  case atStart => exact ⟨0, Nat.zero_le _, rfl, hide_ (fun j hj => by omega), hide_ (Below.refl _ _)⟩
  case round =>
    obtain ⟨i, hi, rfl, HA, HB⟩ := hrel
    generalize wr = wq at *
    clear i0 i1
    by_cases hlt : i < T.length
    · have hlt' : (i : Int) < T.length := by omega
      obtain ⟨b, o, rfl, hb, hc⟩ := (hT.out.later (below_to HB0.out HB.out)).open (by omega)
      have hx : T[i]? = some (T[i]'hlt) := List.getElem?_eq_getElem hlt
      obtain ⟨va, vc, hcx, hvc, -, hP⟩ := hc i _ hx
      have hgd : T.getD i ty0 = T[i]'hlt := by simp [List.getD, hlt]
      have HGD := hide_ hgd
      have hpl := hL.out.at hx
      generalize T[i]'hlt = t at *
      have i0 := hcx 0 (by decide); have i1 := hcx 1 (by decide); have i2 := hcx 2 (by decide); have i3 := hcx 3 (by decide)
      simp [tyc] at i0 i1 i2 i3
      have kt := Blk.newA wq #[.int .i64 t.k, .int .i64 t.n, .int .i64 t.e, .slice va t.ps.length vc] 49
      have hBx := below1 wq (.cells #[.int .i64 t.k, .int .i64 t.n, .int .i64 t.e, .slice va t.ps.length vc] 49)
      obtain ⟨wx, hwx⟩ : ∃ wx, wx = wq.alloc (.cells #[.int .i64 t.k, .int .i64 t.n, .int .i64 t.e, .slice va t.ps.length vc] 49) := ⟨_, rfl⟩
      rw [← hwx] at kt hBx
      have HBx := hide_ (below_to HB.out hBx)
      have HCon := hide_ (isType_any t va vc (i : Int) wx hvc (hide_ (hP.later hBx)))
      obtain ⟨ok, hok⟩ : ∃ ok, tyOk t (i : Int) = ok := ⟨_, rfl⟩
      rw [hok] at HCon
      have HOK := hide_ hok
      have j0 := kt.cell 0; have j1 := kt.cell 1; have j2 := kt.cell 2; have j3 := kt.cell 3
      simp at j0 j1 j2 j3
      clear hc hx hcx hP kt hBx hok hgd hb
      go_upto_region 4 with fail
      rw [← hwx]
      clear hwx i0 i1 i2 i3
      cases ok with
      | true =>
        have HA2 : Hid (∀ j, j < i + 1 → tyOk (T.getD j ty0) j = true) := hide_ (fun j hj => by
          rcases Nat.lt_or_ge j i with h | h
          · exact HA.out j h
          · obtain rfl : j = i := by omega
            rw [HGD.out]; exact HOK.out)
        go_wp2_with (go_at_call 22; refine HCon.out.mono ?_; rintro e w' ⟨rfl, hB1⟩; (have HB1 := hide_ (below_to HBx.out hB1)); clear hB1)
        go_roundw
        case rel => exact ⟨i + 1, by omega, by go_num, HA2, HB1⟩
        case measure => simp [intOf]; omega
      | false =>
        have HV : Hid (vE = 92 ∧ vA = (i : Int)) := hide_ (by
          have h := chk_ty (R := R) hlt (by rw [HGD.out]; exact HOK.out) HA.out
          rw [HC.out] at h
          injection h with h1 h2
          exact ⟨h1, h2⟩)
        go_wp2_with fail
        refine HCon.out.mono ?_; rintro e w1 ⟨rfl, hB1⟩
        have HB1 := hide_ (below_to HBx.out hB1)
        have KF := hide_ (K2.out.later HB1.out)
        have l0 := KF.out.cell 0; have l1 := KF.out.cell 1
        simp at l0 l1
        have f0 := fun i => KF.out.frozen i
        have HK := hide_ (wr2z KF.out (.int .i64 92) (.int .i64 (i : Int)))
        have HBf := hide_ (below_wr2 (below_to HB0.out HB1.out) (w.heap.size + 1) (by omega) (.int .i64 92) (.int .i64 (i : Int)))
        clear hB1 j0 j1 j2 j3
        go_wp2
        refine retFz (x := 92) (y := (i : Int)) rfl rfl HK.out ⟨by rw [HV.out.1, HV.out.2], HBf.out⟩
    · obtain rfl : i = T.length := by omega
      have hcD : chkD T R = (vE, vA) := by rw [← chk_deep (R := R) HA.out]; exact HC.out
      have HCD := hide_ hcD
      have HDp := hide_ (deep_any a c T wq hn hL (hide_ (hT.out.later (below_to HB0.out HB.out))) HA)
      have KS := hide_ (K1.out.later HB.out)
      have i0 := KS.out.cell 0; have i1 := KS.out.cell 1
      simp at i0 i1
      clear hcD
      go_wp2_with fail
      refine HDp.out.mono ?_; rintro e w1 ⟨r, rfl, HR, hB1⟩
      have HB1 := hide_ (below_to HB.out hB1)
      have KS1 := hide_ (K1.out.later HB1.out)
      have j0 := KS1.out.cell 0; have j1 := KS1.out.cell 1
      simp at j0 j1
      clear hB1 i0 i1 HDp
      rcases HR.out with ⟨rfl, hno⟩ | ⟨i, hi2, rfl, hgt, hle⟩
      · have HCR : Hid (chkR T.length R = (vE, vA)) := hide_ (by rw [← chkD_none (R := R) hno]; exact HCD.out)
        clear hno HR
        go_wp2_with fail
        go_loopw [32] (fun x32 wr => ∃ i : Nat, i ≤ R.length ∧ x32 = .int .i64 (i : Int) ∧ Hid (∀ j, j < i → rootOk T.length R j = true) ∧ Hid (Below w0.heap.size w0 wr)) (fun x32 _ => R.length - (intOf x32).toNat)
        case atStart => exact ⟨0, Nat.zero_le _, rfl, hide_ (fun j hj => by omega), HB1⟩
        case round =>
          obtain ⟨i, hi, rfl, HAr, HBr⟩ := hrel
          generalize wr = wp at *
          clear j0 j1
          have KSp := hide_ (K1.out.later HBr.out)
          have i0 := KSp.out.cell 0; have i1 := KSp.out.cell 1
          simp at i0 i1
          by_cases hlt : i < R.length
          · have hlt' : (i : Int) < R.length := by omega
            have HCon := hide_ (isRoot_any a T.length c ar cr R i wp (by omega) (by omega) hlt (hide_ (hR.out.later (below_to HB0.out HBr.out))))
            obtain ⟨ok, hok⟩ : ∃ ok, rootOk T.length R i = ok := ⟨_, rfl⟩
            rw [hok] at HCon
            have HOK := hide_ hok
            clear hok
            cases ok with
            | true =>
              have HA2 : Hid (∀ j, j < i + 1 → rootOk T.length R j = true) := hide_ (fun j hj => by
                rcases Nat.lt_or_ge j i with h | h
                · exact HAr.out j h
                · obtain rfl : j = i := by omega
                  exact HOK.out)
              go_wp2_with (go_at_call 24; refine HCon.out.mono ?_; rintro e w' ⟨rfl, hB2⟩; (have HB2 := hide_ (below_to HBr.out hB2)); clear hB2)
              go_roundw
              case rel => exact ⟨i + 1, by omega, by go_num, HA2, HB2⟩
              case measure => simp [intOf]; omega
            | false =>
              have HV : Hid (vE = 92 ∧ vA = (T.length : Int) + i) := hide_ (by
                have h := chkR_at hlt HOK.out HAr.out
                rw [HCR.out] at h
                injection h with h1 h2
                exact ⟨h1, h2⟩)
              go_wp2_with fail
              refine HCon.out.mono ?_; rintro e w2 ⟨rfl, hB2⟩
              have HB2 := hide_ (below_to HBr.out hB2)
              have KF := hide_ (K2.out.later HB2.out)
              have KS2 := hide_ (K1.out.later HB2.out)
              have l0 := KF.out.cell 0; have l1 := KF.out.cell 1; have m0 := KS2.out.cell 0
              simp at l0 l1 m0
              have f0 := fun i => KF.out.frozen i
              have hwr : wrap64 ((T.length : Int) + i) = (T.length : Int) + i := w64 _ (by omega)
              have HK := hide_ (wr2z KF.out (.int .i64 92) (.int .i64 ((T.length : Int) + i)))
              have HBf := hide_ (below_wr2 (below_to HB0.out HB2.out) (w.heap.size + 1) (by omega) (.int .i64 92) (.int .i64 ((T.length : Int) + i)))
              clear hB2 i0 i1
              go_wp2
              refine retFz (x := 92) (y := (T.length : Int) + i) rfl rfl HK.out ⟨by rw [HV.out.1, HV.out.2], HBf.out⟩
          · obtain rfl : i = R.length := by omega
            have HV : Hid (vE = 0 ∧ vA = 0) := hide_ (by
              have h := chkR_none HAr.out
              rw [HCR.out] at h
              injection h with h1 h2
              exact ⟨h1, h2⟩)
            have KF := hide_ (K2.out.later HBr.out)
            have l0 := KF.out.cell 0; have l1 := KF.out.cell 1
            simp at l0 l1
            have f0 := fun i => KF.out.frozen i
            have HK := hide_ (wr2z KF.out (.int .i64 0) (.int .i64 0))
            have HBf := hide_ (below_wr2 (below_to HB0.out HBr.out) (w.heap.size + 1) (by omega) (.int .i64 0) (.int .i64 0))
            go_wp2
            refine retFz (x := 0) (y := 0) rfl rfl HK.out ⟨by rw [HV.out.1, HV.out.2], HBf.out⟩
      · have HV : Hid (vE = 83 ∧ vA = (i : Int)) := hide_ (by
          have h := chkD_at (R := R) hi2 hgt hle
          rw [HCD.out] at h
          injection h with h1 h2
          exact ⟨h1, h2⟩)
        have hi3 : (0 : Int) ≤ i := by omega
        have KF := hide_ (K2.out.later HB1.out)
        have l0 := KF.out.cell 0; have l1 := KF.out.cell 1
        simp at l0 l1
        have f0 := fun i => KF.out.frozen i
        have HK := hide_ (wr2z KF.out (.int .i64 83) (.int .i64 (i : Int)))
        have HBf := hide_ (below_wr2 (below_to HB0.out HB1.out) (w.heap.size + 1) (by omega) (.int .i64 83) (.int .i64 (i : Int)))
        clear hgt hle HR
        go_wp2
        refine retFz (x := 83) (y := (i : Int)) rfl rfl HK.out ⟨by rw [HV.out.1, HV.out.2], HBf.out⟩
end Go.Proofs.YtbgjgbddpcofcaaGreatDoor
