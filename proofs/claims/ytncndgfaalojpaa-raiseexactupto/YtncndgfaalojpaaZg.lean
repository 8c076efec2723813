/- types.Check: firstTooDeep. -/
import Derived.Test.YtncndgfaalojpaaZd
import Derived.Deep.OwnRows
namespace Go.Proofs.Ytncndgfaalojpaa
open Go.RowKit
set_option linter.unusedVariables false

theorem getD_mid {l r : List Int} {x : Int} {n : Nat} (h : l.length = n) : (l ++ x :: r).getD n 0 = x := by
  subst h
  simp [List.getD]
theorem set_mid {l r : List Int} {x y : Int} {n : Nat} (h : l.length = n) : (l ++ x :: r).set n y = l ++ y :: r := by
  subst h
  simp
theorem kidD_succ {l : List Int} {ps : List Pt} {d : Int} {m : Nat} {p : Pt} (h : ps[m]? = some p) : kidD l (ps.take (m + 1)) d = max (kidD l (ps.take m) d) (l.getD p.ty.toNat 0) := by
  have hm := (List.getElem?_eq_some_iff.1 h).1
  rw [List.take_succ_eq_append_getElem hm, (List.getElem?_eq_some_iff.1 h).2]
  simp [kidD]
theorem getD_bd {l : List Int} {n : Nat} (h : ∀ j, j < l.length → 0 ≤ l.getD j 0 ∧ l.getD j 0 ≤ 64) : 0 ≤ l.getD n 0 ∧ l.getD n 0 ≤ 64 := by
  rcases Nat.lt_or_ge n l.length with hn | hn
  · exact h n hn
  · rw [show l.getD n 0 = 0 by simp [List.getD, List.getElem?_eq_none hn]]; omega
theorem kidD_bd {l : List Int} (h : ∀ j, j < l.length → 0 ≤ l.getD j 0 ∧ l.getD j 0 ≤ 64) : ∀ (ps : List Pt) (d : Int), 0 ≤ d ∧ d ≤ 64 → 0 ≤ kidD l ps d ∧ kidD l ps d ≤ 64
  | [], d, hd => hd
  | p :: ps, d, hd => by
    have h1 := getD_bd (n := p.ty.toNat) h
    have := kidD_bd h ps (max d (l.getD p.ty.toNat 0)) (by omega)
    simpa [kidD] using this
theorem max_if (a b : Int) : (if a < b then b else a) = max a b := by split <;> omega
theorem min_if (a b : Int) : (if b < a then b else a) = min a b := by split <;> omega
/-- What firstTooDeep answers. -/
def DeepR (T : List Ty) (r : Int) : Prop := (r = -1 ∧ ∀ j, j < T.length → (depL T).getD j 0 ≤ 64) ∨ ∃ i : Nat, i < T.length ∧ r = (i : Int) ∧ 64 < (depL T).getD i 0 ∧ ∀ j, j < i → (depL T).getD j 0 ≤ 64
set_option maxRecDepth 100000 in
set_option maxHeartbeats 8000000 in
theorem deep_any (a : Option Addr) (c : Nat) (T : List Ty) (w : World) (hn : T.length ≤ 10000000000000) (hL : Hid (LensT T)) (hT : Hid (TRow w a T)) (hok : Hid (∀ j, j < T.length → tyOk (T.getD j ty0) j = true)) :
    Calls Try.prog 41 #[.slice a T.length c] w fun e w' => ∃ r : Int, e = .returned (.int .i64 r) ∧ Hid (DeepR T r) ∧ Below w.heap.size w w' := by
  have hmk := run_make_row' (P := Try.prog) 28 3 (.int .i64 0) 8 Try.underlying28 (by kernel_rfl) rfl .i64 .i64 T.length (by omega) (by omega)
  have hB0 := below1 w (.cells (madeCells #[.int .i64 0] T.length) 3)
  have k0 := Blk.newA w (madeCells #[.int .i64 0] T.length) 3
  rw [toList_madeCells_one] at k0
  obtain ⟨w0, hw0⟩ : ∃ w0, w0 = w.alloc (.cells (madeCells #[.int .i64 0] T.length) 3) := ⟨_, rfl⟩
  rw [← hw0] at hB0 k0
  have HB0 := hide_ hB0
  have HK0 : Hid (Blk w0 w.heap.size 3 (cellsL .i64 (depL (T.take 0) ++ List.replicate (T.length - 0) 0))) := hide_ (by
    have e : cellsL .i64 (depL (T.take 0) ++ List.replicate (T.length - 0) 0) = List.replicate T.length (.int .i64 0) := by simp [cellsL, depL]
    rw [e]; exact k0)
  clear hB0 k0
  go_enter Try.func41, Try.ntmps41
  go_upto_region 2 with fail
  rw [← hw0]
  clear hw0
  go_wp2_with fail
  go_loopw [13] (fun x13 wr => ∃ i : Nat, i ≤ T.length ∧ x13 = .int .i64 (i : Int) ∧ Hid (Blk wr w.heap.size 3 (cellsL .i64 (depL (T.take i) ++ List.replicate (T.length - i) 0))) ∧ Hid (∀ j, j < i → 0 ≤ (depL T).getD j 0 ∧ (depL T).getD j 0 ≤ 64) ∧ Hid (Below w.heap.size w wr)) (fun x13 _ => T.length - (intOf x13).toNat)
  case atStart => exact ⟨0, Nat.zero_le _, rfl, HK0, hide_ (fun j hj => by omega), HB0⟩
  case round =>
    obtain ⟨i, hi, rfl, HK, HD, HB⟩ := hrel
    generalize wr = wq at *
    clear HK0 HB0 hmk
    by_cases hlt : i < T.length
    · have hlt' : (i : Int) < T.length := by omega
      obtain ⟨b, o, rfl, hb, hc⟩ := hT.out.open (by omega)
      have hx : T[i]? = some (T[i]'hlt) := List.getElem?_eq_getElem hlt
      obtain ⟨va, vc, hcw, hvc, -, hP⟩ := hc i _ hx
      have hcx := fun j (hj : j < 4) => (HB.out.cell (p := ⟨b, o + i * 4 + j, none⟩) hb).trans (hcw j hj)
      clear hcw
      have HX := hide_ hx
      have hok1 := hok.out i hlt
      rw [show T.getD i ty0 = T[i]'hlt by simp [List.getD, hlt]] at hok1
      have hpl := hL.out.at hx
      have HT : Hid (depL (T.take (i + 1)) = depL (T.take i) ++ [dep1 (depL (T.take i)) (T[i]'hlt)]) := hide_ (by rw [List.take_succ_eq_append_getElem hlt, depL_snoc])
      generalize T[i]'hlt = t at *
      obtain ⟨k, n, el, ps⟩ := t
      simp only at hvc hP hpl hok1 HT
      have HOK := hide_ hok1
      have i0 := hcx 0 (by decide); have i1 := hcx 1 (by decide); have i2 := hcx 2 (by decide); have i3 := hcx 3 (by decide)
      simp [tyc] at i0 i1 i2 i3
      clear hc hx hcx hok1
      have kt := Blk.newA wq #[.int .i64 k, .int .i64 n, .int .i64 el, .slice va ps.length vc] 43
      have hBx := below1 wq (.cells #[.int .i64 k, .int .i64 n, .int .i64 el, .slice va ps.length vc] 43)
      obtain ⟨wx, hwx⟩ : ∃ wx, wx = wq.alloc (.cells #[.int .i64 k, .int .i64 n, .int .i64 el, .slice va ps.length vc] 43) := ⟨_, rfl⟩
      rw [← hwx] at kt hBx
      have HBx := hide_ (HB.out.trans (hBx.mono HB.out.size))
      have HKx := hide_ (HK.out.later hBx)
      have HP := hide_ hP
      have KT := hide_ kt
      have hgq : w.heap.size < wq.heap.size := HK.out.lt
      have j0 := kt.cell 0; have j2 := kt.cell 2; have j3 := kt.cell 3
      simp at j0 j2 j3
      clear kt hBx hP HK hb
      -- the list: what is known, the new one, the rest
      obtain ⟨pre, hpre⟩ : ∃ pre, depL (T.take i) = pre := ⟨_, rfl⟩
      obtain ⟨zs, hzs⟩ : ∃ zs, List.replicate (T.length - i - 1) (0 : Int) = zs := ⟨_, rfl⟩
      have hpl2 : pre.length = i := by rw [← hpre, depL_len]; simp; omega
      have HPB : Hid (∀ j, j < pre.length → 0 ≤ pre.getD j 0 ∧ pre.getD j 0 ≤ 64) := hide_ (fun j hj => by
        have h := HD.out j (by omega)
        rw [← depL_take T (m := i) (by omega) (by omega), hpre] at h
        exact h)
      have hrep : List.replicate (T.length - i) (0 : Int) = 0 :: zs := by
        rw [← hzs, ← List.replicate_succ]
        congr 1
        omega
      rw [hpre, hrep] at HKx
      rw [hpre] at HT
      have HPRE := hide_ hpre
      have HZS := hide_ hzs
      have HPL := hide_ hpl2
      have HLen : Hid (∀ d, (pre ++ d :: zs).length = T.length) := hide_ (fun d => by
        rw [List.length_append, List.length_cons, hpl2, ← hzs, List.length_replicate]
        omega)
      clear hpre hzs hrep hpl2
      go_upto_region 5 with fail
      rw [← hwx]
      clear hwx i0 i1 i2 i3
      obtain ⟨be, hbe⟩ : ∃ be, hasE k = be := ⟨_, rfl⟩
      have HE := hide_ hbe
      have HCon : Hid (∀ w, Calls Try.prog 68 #[.int .i64 k] w fun e w' => e = .returned (.bool be) ∧ w = w') := hide_ (fun w => by have := hasElem_any k w; rwa [hbe] at this)
      clear hbe
      obtain ⟨d0, hd0⟩ : ∃ d0, (if hasE k then pre.getD el.toNat 0 else 0) = d0 := ⟨_, rfl⟩
      have HD0 := hide_ hd0
      have hd0b : 0 ≤ d0 ∧ d0 ≤ 64 := by
        rw [← hd0]
        split
        · exact getD_bd HPB.out
        · omega
      clear hd0
      go_upto_if 20 with (go_at_call 68; refine (HCon.out _).mono ?_; rintro e w' ⟨rfl, rfl⟩)
      go_cut [] from 18 to 28 (fun wc => ∃ w1, w1 = wc ∧ Hid (Blk w1 w.heap.size 3 (cellsL .i64 (pre ++ d0 :: zs))) ∧ Hid (Upd (fun k => k = w.heap.size) wx w1))
      case first =>
        cases be with
        | true =>
          have hel := tyOk_elem HOK.out HE.out
          simp only at hel
          obtain ⟨ej, rfl⟩ := Int.eq_ofNat_of_zero_le hel.1
          have hej : ej < i := by omega
          have hejT : (ej : Int) < T.length := by omega
          have hd : d0 = pre.getD ej 0 := by rw [← HD0.out, if_pos HE.out]; simp
          have c1 := HKx.out.cell ej
          rw [cellsL_at _ _ _ (by rw [HLen.out]; omega), getD_app (by rw [HPL.out]; omega), ← hd] at c1
          have f1 := HKx.out.frozen i
          have c2 := HKx.out.cell i
          rw [cellsL_at _ _ _ (by rw [HLen.out]; omega), getD_mid HPL.out] at c2
          have HKs : Hid (Blk (wx.setCell ⟨w.heap.size, i, none⟩ (.int .i64 d0)) w.heap.size 3 (cellsL .i64 (pre ++ d0 :: zs))) := hide_ (by
            have h := HKx.out.set i (.int .i64 d0)
            rw [cellsL_set, set_mid HPL.out] at h
            exact h)
          have HUs : Hid (Upd (fun k => k = w.heap.size) wx (wx.setCell ⟨w.heap.size, i, none⟩ (.int .i64 d0))) := hide_ ((Upd.refl _ _).set _ _ (.inl rfl))
          clear hd hel
          go_wp2
          go_meet
          case rel => exact ⟨_, rfl, HKs, HUs⟩
        | false =>
          have hd : d0 = 0 := by rw [← HD0.out, HE.out]; rfl
          subst hd
          go_wp2
          go_meet
          case rel => exact ⟨_, rfl, HKx, hide_ (Upd.refl _ _)⟩
      case rest =>
      obtain ⟨w1, rfl, HK1, HU1⟩ := hcut
      have KT1 := hide_ (KT.out.upd HU1.out (by show ¬ wq.heap.size = w.heap.size; omega))
      have j3a := KT1.out.cell 3
      simp at j3a
      have HB1 := hide_ (HBx.out.trans (HU1.out.below w.heap.size HBx.out.size (fun k hk => by omega)))
      clear j0 j2 j3 HKx HBx KT
      go_wp2_with fail
      go_loopw [32] (fun x32 wr => ∃ m : Nat, m ≤ ps.length ∧ x32 = .int .i64 (m : Int) ∧ Hid (Blk wr w.heap.size 3 (cellsL .i64 (pre ++ kidD pre (ps.take m) d0 :: zs))) ∧ Hid (Below w.heap.size w wr)) (fun x32 _ => ps.length - (intOf x32).toNat)
      case atStart => exact ⟨0, Nat.zero_le _, rfl, HK1, HB1⟩
      case round =>
        obtain ⟨m, hm, rfl, HK, HB2⟩ := hrel
        generalize wr = wp at *
        clear HK1 HB1 HB j3a
        have hkb := kidD_bd HPB.out (ps.take m) d0 hd0b
        obtain ⟨dm, hdm⟩ : ∃ dm, kidD pre (ps.take m) d0 = dm := ⟨_, rfl⟩
        rw [hdm] at HK hkb
        have HDM := hide_ hdm
        clear hdm
        by_cases hlm : m < ps.length
        · have hlm' : (m : Int) < ps.length := by omega
          obtain ⟨b2, o2, rfl, hb2, hc2⟩ := (HP.out.later HB2.out).open (by omega)
          have hx2 : ps[m]? = some (ps[m]'hlm) := List.getElem?_eq_getElem hlm
          have hcx2 := hc2 m _ hx2
          have hpr := tyOk_part (t := ⟨k, n, el, ps⟩) HOK.out hx2
          have HS := hide_ (kidD_succ (l := pre) (d := d0) hx2)
          generalize ps[m]'hlm = p at *
          obtain ⟨lb, tg, ty⟩ := p
          simp only at hpr HS
          obtain ⟨ej, rfl⟩ := Int.eq_ofNat_of_zero_le hpr.1
          have hej : ej < i := by omega
          have hejT : (ej : Int) < T.length := by omega
          have i0 := hcx2 0 (by decide); have i1 := hcx2 1 (by decide); have i2 := hcx2 2 (by decide)
          simp [ptc] at i0 i1 i2
          clear hc2 hx2 hcx2 hpr
          rw [HDM.out, Int.toNat_natCast] at HS
          have kp := Blk.newA wp #[.string lb, .int .i64 tg, .int .i64 (ej : Int)] 58
          have hBx := below1 wp (.cells #[.string lb, .int .i64 tg, .int .i64 (ej : Int)] 58)
          obtain ⟨wy, hwy⟩ : ∃ wy, wy = wp.alloc (.cells #[.string lb, .int .i64 tg, .int .i64 (ej : Int)] 58) := ⟨_, rfl⟩
          rw [← hwy] at kp hBx
          have HBy := hide_ (HB2.out.trans (hBx.mono HB2.out.size))
          have HKy := hide_ (HK.out.later hBx)
          have y2 := kp.cell 2
          simp at y2
          clear kp hBx
          obtain ⟨de, hde⟩ : ∃ de, pre.getD ej 0 = de := ⟨_, rfl⟩
          have hdeb := getD_bd (n := ej) HPB.out
          rw [hde] at hdeb HS
          have c1 := HKy.out.cell ej
          rw [cellsL_at _ _ _ (by rw [HLen.out]; omega), getD_app (by rw [HPL.out]; omega), hde] at c1
          have f1 := HKy.out.frozen i
          have c2 := HKy.out.cell i
          rw [cellsL_at _ _ _ (by rw [HLen.out]; omega), getD_mid HPL.out] at c2
          clear hde
          have HKs : Hid (∀ x, Blk ((wy.setCell ⟨w.heap.size, i, none⟩ (.int .i64 x)).drew) w.heap.size 3 (cellsL .i64 (pre ++ x :: zs))) := hide_ (fun x => by
            refine Blk.drew ?_
            have h := HKy.out.set i (.int .i64 x)
            rw [cellsL_set, set_mid HPL.out] at h
            exact h)
          have HBs : Hid (∀ x, Below w.heap.size w ((wy.setCell ⟨w.heap.size, i, none⟩ (.int .i64 x)).drew)) := hide_ (fun x => (below_set HBy.out _ _ _ (Nat.le_refl _)).drew)
          go_upto_region 10 with fail
          rw [← hwy]
          clear hwy i0 i1 i2
          go_region
          go_wp2_with fail
          go_roundw
          case rel => exact ⟨m + 1, by omega, by go_num, by rw [HS.out, ← max_if]; exact hide_ (HKs.out _), hide_ (HBs.out _)⟩
          case measure => simp [intOf]; omega
        · obtain rfl : m = ps.length := by omega
          have HV : Hid (dep1 pre ⟨k, n, el, ps⟩ = dm + 1) := hide_ (by
            have h := HDM.out
            rw [List.take_length] at h
            unfold dep1
            simp only
            rw [HD0.out, h])
          have c2 := HK.out.cell i
          rw [cellsL_at _ _ _ (by rw [HLen.out]; omega), getD_mid HPL.out] at c2
          have f1 := HK.out.frozen i
          have hwr : wrap64 (dm + 1) = dm + 1 := w64 _ (by omega)
          have kS : Blk (wp.setCell ⟨w.heap.size, i, none⟩ (.int .i64 (dm + 1))) w.heap.size 3 (cellsL .i64 (pre ++ (dm + 1) :: zs)) := by
            have h := HK.out.set i (.int .i64 (dm + 1))
            rw [cellsL_set, set_mid HPL.out] at h
            exact h
          have HBs := hide_ (below_set HB2.out w.heap.size i (.int .i64 (dm + 1)) (Nat.le_refl _))
          obtain ⟨ws, hws⟩ : ∃ ws, ws = wp.setCell ⟨w.heap.size, i, none⟩ (.int .i64 (dm + 1)) := ⟨_, rfl⟩
          rw [← hws] at kS HBs
          have KS := hide_ kS
          have c3 := kS.cell i
          rw [cellsL_at _ _ _ (by rw [HLen.out]; omega), getD_mid HPL.out] at c3
          have HDi : Hid ((depL T).getD i 0 = dm + 1) := hide_ (by
            rw [← depL_take T (m := i + 1) (by omega) (by omega), HT.out, HV.out]
            exact getD_mid HPL.out)
          clear kS
          go_upto_region 13 with fail
          rw [← hws]
          clear hws c2
          by_cases hgt : 64 < dm + 1
          · go_wp2
            go_ret
            exact ⟨(i : Int), rfl, hide_ (.inr ⟨i, hlt, rfl, by rw [HDi.out]; omega, fun j hj => (HD.out j hj).2⟩), HBs.out⟩
          · have HKn : Hid (Blk ws w.heap.size 3 (cellsL .i64 (depL (T.take (i + 1)) ++ List.replicate (T.length - (i + 1)) 0))) := hide_ (by
              have h := KS.out
              rw [HT.out, HV.out, show T.length - (i + 1) = T.length - i - 1 by omega, HZS.out, List.append_assoc]
              exact h)
            have HDn : Hid (∀ j, j < i + 1 → 0 ≤ (depL T).getD j 0 ∧ (depL T).getD j 0 ≤ 64) := hide_ (fun j hj => by
              rcases Nat.lt_or_ge j i with h | h
              · exact HD.out j h
              · obtain rfl : j = i := by omega
                rw [HDi.out]
                omega)
            clear HT HPRE HZS HV HDi HLen
            go_wp2_with fail
            go_roundw
            case rel => exact ⟨i + 1, by omega, by go_num, HKn, HDn, HBs⟩
            case measure => simp [intOf]; omega
    · obtain rfl : i = T.length := by omega
      go_wp2
      go_ret
      exact ⟨-1, rfl, hide_ (.inl ⟨rfl, fun j hj => (HD.out j hj).2⟩), HB.out⟩
end Go.Proofs.Ytncndgfaalojpaa
