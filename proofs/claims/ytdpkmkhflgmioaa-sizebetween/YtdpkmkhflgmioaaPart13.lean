import Derived.Test.YtdpkmkhflgmioaaPart11
import Derived.Deep.OwnRows

/- types.Check: firstTooDeep. -/
namespace Go.Proofs.Ytdpkmkhflgmioaa
open Go.RowKit
set_option linter.unusedVariables false

theorem getD_mid {l r : List Int} {x : Int} {n : Nat} (h : l.length = n) : (l ++ x :: r).getD n 0 = x := by
  subst h
  simp [List.getD]
theorem set_mid {l r : List Int} {x y : Int} {n : Nat} (h : l.length = n) : (l ++ x :: r).set n y = l ++ y :: r := by
  subst h
  simp
theorem kidD_succ {l : List Int} {ps : List Pt} {d : Int} {m : Nat} {p : Pt} (h : ps[m]? = some p) : kidD l (ps.take (m + 1)) d = max (kidD l (ps.take m) d) (l.getD p.ty.toNat 0) := by
  have hm := (List.getElem?_eq_some_iff.1 h).1
  rw [List.take_succ_eq_append_getElem hm, (List.getElem?_eq_some_iff.1 h).2]
  simp [kidD]
theorem getD_bd {l : List Int} {n : Nat} (h : ∀ j, j < l.length → 0 ≤ l.getD j 0 ∧ l.getD j 0 ≤ 64) : 0 ≤ l.getD n 0 ∧ l.getD n 0 ≤ 64 := by
  rcases Nat.lt_or_ge n l.length with hn | hn
  · exact h n hn
  · rw [show l.getD n 0 = 0 by simp [List.getD, List.getElem?_eq_none hn]]; omega
theorem kidD_bd {l : List Int} (h : ∀ j, j < l.length → 0 ≤ l.getD j 0 ∧ l.getD j 0 ≤ 64) : ∀ (ps : List Pt) (d : Int), 0 ≤ d ∧ d ≤ 64 → 0 ≤ kidD l ps d ∧ kidD l ps d ≤ 64
  | [], d, hd => hd
  | p :: ps, d, hd => by
    have h1 := getD_bd (n := p.ty.toNat) h
    have := kidD_bd h ps (max d (l.getD p.ty.toNat 0)) (by omega)
    simpa [kidD] using this
theorem max_if (a b : Int) : (if a < b then b else a) = max a b := by split <;> omega
theorem min_if (a b : Int) : (if b < a then b else a) = min a b := by split <;> omega
/-- What firstTooDeep answers. -/
def DeepR (T : List Ty) (r : Int) : Prop := (r = -1 ∧ ∀ j, j < T.length → (depL T).getD j 0 ≤ 64) ∨ ∃ i : Nat, i < T.length ∧ r = (i : Int) ∧ 64 < (depL T).getD i 0 ∧ ∀ j, j < i → (depL T).getD j 0 ≤ 64
set_option maxRecDepth 100000 in
set_option maxHeartbeats 8000000 in
theorem deep_any (a : Option Addr) (c : Nat) (T : List Ty) (w : World) (hn : T.length ≤ 10000000000000) (hL : Hid (LensT T)) (hT : Hid (TRow w a T)) (hok : Hid (∀ j, j < T.length → tyOk (T.getD j ty0) j = true)) :
    Calls Try.prog 39 #[.slice a T.length c] w fun e w' => ∃ r : Int, e = .returned (.int .i64 r) ∧ Hid (DeepR T r) ∧ Below w.heap.size w w' := by
  have hmk := run_make_row' (P := Try.prog) 26 3 (.int .i64 0) 8 Try.underlying26 (by kernel_rfl) rfl .i64 .i64 T.length (by omega) (by omega)
  have hB0 := below1 w (.cells (madeCells #[.int .i64 0] T.length) 3)
  have k0 := Blk.newA w (madeCells #[.int .i64 0] T.length) 3
  rw [toList_madeCells_one] at k0
  obtain ⟨w0, hw0⟩ : ∃ w0, w0 = w.alloc (.cells (madeCells #[.int .i64 0] T.length) 3) := ⟨_, rfl⟩
  rw [← hw0] at hB0 k0
  have HB0 := hide_ hB0
  have HK0 : Hid (Blk w0 w.heap.size 3 (cellsL .i64 (depL (T.take 0) ++ List.replicate (T.length - 0) 0))) := hide_ (by
    have e : cellsL .i64 (depL (T.take 0) ++ List.replicate (T.length - 0) 0) = List.replicate T.length (.int .i64 0) := by simp [cellsL, depL]
    rw [e]; exact k0)
  clear hB0 k0
  go_enter Try.func39, Try.ntmps39
  go_upto_region 2 with fail
  rw [← hw0]
  clear hw0
  go_wp2_with fail
  go_loopw [13] (fun x13 wr => ∃ i : Nat, i ≤ T.length ∧ x13 = .int .i64 (i : Int) ∧ Hid (Blk wr w.heap.size 3 (cellsL .i64 (depL (T.take i) ++ List.replicate (T.length - i) 0))) ∧ Hid (∀ j, j < i → 0 ≤ (depL T).getD j 0 ∧ (depL T).getD j 0 ≤ 64) ∧ Hid (Below w.heap.size w wr)) (fun x13 _ => T.length - (intOf x13).toNat)
  case atStart => exact ⟨0, Nat.zero_le _, rfl, HK0, hide_ (fun j hj => by omega), HB0⟩
  case round =>
    obtain ⟨i, hi, rfl, HK, HD, HB⟩ := hrel
    generalize wr = wq at *
    clear HK0 HB0 hmk
    by_cases hlt : i < T.length
    · have hlt' : (i : Int) < T.length := by omega
      obtain ⟨b, o, rfl, hb, hc⟩ := hT.out.open (by omega)
      have hx : T[i]? = some (T[i]'hlt) := List.getElem?_eq_getElem hlt
      obtain ⟨va, vc, hcw, hvc, -, hP⟩ := hc i _ hx
      have hcx := fun j (hj : j < 4) => (HB.out.cell (p := ⟨b, o + i * 4 + j, none⟩) hb).trans (hcw j hj)
      clear hcw
      have HX := hide_ hx
      have hok1 := hok.out i hlt
      rw [show T.getD i ty0 = T[i]'hlt by simp [List.getD, hlt]] at hok1
      have hpl := hL.out.at hx
      have HT : Hid (depL (T.take (i + 1)) = depL (T.take i) ++ [dep1 (depL (T.take i)) (T[i]'hlt)]) := hide_ (by rw [List.take_succ_eq_append_getElem hlt, depL_snoc])
      generalize T[i]'hlt = t at *
      obtain ⟨k, n, el, ps⟩ := t
      simp only at hvc hP hpl hok1 HT
      have HOK := hide_ hok1
      have i0 := hcx 0 (by decide); have i1 := hcx 1 (by decide); have i2 := hcx 2 (by decide); have i3 := hcx 3 (by decide)
      simp [tyc] at i0 i1 i2 i3
      clear hc hx hcx hok1
      have kt := Blk.newA wq #[.int .i64 k, .int .i64 n, .int .i64 el, .slice va ps.length vc] 62
      have hBx := below1 wq (.cells #[.int .i64 k, .int .i64 n, .int .i64 el, .slice va ps.length vc] 62)
      obtain ⟨wx, hwx⟩ : ∃ wx, wx = wq.alloc (.cells #[.int .i64 k, .int .i64 n, .int .i64 el, .slice va ps.length vc] 62) := ⟨_, rfl⟩
      rw [← hwx] at kt hBx
      have HBx := hide_ (HB.out.trans (hBx.mono HB.out.size))
      have HKx := hide_ (HK.out.later hBx)
      have HP := hide_ hP
      have KT := hide_ kt
      have hgq : w.heap.size < wq.heap.size := HK.out.lt
      have j0 := kt.cell 0; have j2 := kt.cell 2; have j3 := kt.cell 3
      simp at j0 j2 j3
      clear kt hBx hP HK hb
      -- the list: what is known, the new one, the rest
      obtain ⟨pre, hpre⟩ : ∃ pre, depL (T.take i) = pre := ⟨_, rfl⟩
      obtain ⟨zs, hzs⟩ : ∃ zs, List.replicate (T.length - i - 1) (0 : Int) = zs := ⟨_, rfl⟩
      have hpl2 : pre.length = i := by rw [← hpre, depL_len]; simp; omega
      have HPB : Hid (∀ j, j < pre.length → 0 ≤ pre.getD j 0 ∧ pre.getD j 0 ≤ 64) := hide_ (fun j hj => by
        have h := HD.out j (by omega)
        rw [← depL_take T (m := i) (by omega) (by omega), hpre] at h
        exact h)
      have hrep : List.replicate (T.length - i) (0 : Int) = 0 :: zs := by
        rw [← hzs, ← List.replicate_succ]
        congr 1
        omega
      rw [hpre, hrep] at HKx
      rw [hpre] at HT
      have HPRE := hide_ hpre
      have HZS := hide_ hzs
      have HPL := hide_ hpl2
      have HLen : Hid (∀ d, (pre ++ d :: zs).length = T.length) := hide_ (fun d => by
        rw [List.length_append, List.length_cons, hpl2, ← hzs, List.length_replicate]
        omega)
      clear hpre hzs hrep hpl2
      go_upto_region 5 with fail
      rw [← hwx]
      clear hwx i0 i1 i2 i3
      obtain ⟨be, hbe⟩ : ∃ be, hasE k = be := ⟨_, rfl⟩
      have HE := hide_ hbe
      have HCon : Hid (∀ w, Calls Try.prog 65 #[.int .i64 k] w fun e w' => e = .returned (.bool be) ∧ w = w') := hide_ (fun w => by have := hasElem_any k w; rwa [hbe] at this)
      clear hbe
      obtain ⟨d0, hd0⟩ : ∃ d0, (if hasE k then pre.getD el.toNat 0 else 0) = d0 := ⟨_, rfl⟩
      have HD0 := hide_ hd0
      have hd0b : 0 ≤ d0 ∧ d0 ≤ 64 := by
        rw [← hd0]
        split
        · exact getD_bd HPB.out
        · omega
      clear hd0
      go_upto_if 20 with (go_at_call 65; refine (HCon.out _).mono ?_; rintro e w' ⟨rfl, rfl⟩)
      go_cut [] from 18 to 28 (fun wc => ∃ w1, w1 = wc ∧ Hid (Blk w1 w.heap.size 3 (cellsL .i64 (pre ++ d0 :: zs))) ∧ Hid (Upd (fun k => k = w.heap.size) wx w1))
      case first =>
        cases be with
        | true =>
          have hel := tyOk_elem HOK.out HE.out
          simp only at hel
          obtain ⟨ej, rfl⟩ := Int.eq_ofNat_of_zero_le hel.1
          have hej : ej < i := by omega
          have hejT : (ej : Int) < T.length := by omega
          have hd : d0 = pre.getD ej 0 := by rw [← HD0.out, if_pos HE.out]; simp
          have c1 := HKx.out.cell ej
          rw [cellsL_at _ _ _ (by rw [HLen.out]; omega), getD_app (by rw [HPL.out]; omega), ← hd] at c1
          have f1 := HKx.out.frozen i
          have c2 := HKx.out.cell i
          rw [cellsL_at _ _ _ (by rw [HLen.out]; omega), getD_mid HPL.out] at c2
          have HKs : Hid (Blk (wx.setCell ⟨w.heap.size, i, none⟩ (.int .i64 d0)) w.heap.size 3 (cellsL .i64 (pre ++ d0 :: zs))) := hide_ (by
            have h := HKx.out.set i (.int .i64 d0)
            rw [cellsL_set, set_mid HPL.out] at h
            exact h)
          have HUs : Hid (Upd (fun k => k = w.heap.size) wx (wx.setCell ⟨w.heap.size, i, none⟩ (.int .i64 d0))) := hide_ ((Upd.refl _ _).set _ _ (.inl rfl))
          clear hd hel
          go_wp2
          go_meet
          case rel => exact ⟨_, rfl, HKs, HUs⟩
        | false =>
          have hd : d0 = 0 := by rw [← HD0.out, HE.out]; rfl
          subst hd
          go_wp2
          go_meet
          case rel => exact ⟨_, rfl, HKx, hide_ (Upd.refl _ _)⟩
      case rest =>
      obtain ⟨w1, rfl, HK1, HU1⟩ := hcut
      have KT1 := hide_ (KT.out.upd HU1.out (by show ¬ wq.heap.size = w.heap.size; omega))
      have j3a := KT1.out.cell 3
      simp at j3a
      have HB1 := hide_ (HBx.out.trans (HU1.out.below w.heap.size HBx.out.size (fun k hk => by omega)))
      clear j0 j2 j3 HKx HBx KT
      go_wp2_with fail
      go_loopw [32] (fun x32 wr => ∃ m : Nat, m ≤ ps.length ∧ x32 = .int .i64 (m : Int) ∧ Hid (Blk wr w.heap.size 3 (cellsL .i64 (pre ++ kidD pre (ps.take m) d0 :: zs))) ∧ Hid (Below w.heap.size w wr)) (fun x32 _ => ps.length - (intOf x32).toNat)
      case atStart => exact ⟨0, Nat.zero_le _, rfl, HK1, HB1⟩
      case round =>
        obtain ⟨m, hm, rfl, HK, HB2⟩ := hrel
        generalize wr = wp at *
        clear HK1 HB1 HB j3a
        have hkb := kidD_bd HPB.out (ps.take m) d0 hd0b
        obtain ⟨dm, hdm⟩ : ∃ dm, kidD pre (ps.take m) d0 = dm := ⟨_, rfl⟩
        rw [hdm] at HK hkb
        have HDM := hide_ hdm
        clear hdm
        by_cases hlm : m < ps.length
        · have hlm' : (m : Int) < ps.length := by omega
          obtain ⟨b2, o2, rfl, hb2, hc2⟩ := (HP.out.later HB2.out).open (by omega)
          have hx2 : ps[m]? = some (ps[m]'hlm) := List.getElem?_eq_getElem hlm
          have hcx2 := hc2 m _ hx2
          have hpr := tyOk_part (t := ⟨k, n, el, ps⟩) HOK.out hx2
          have HS := hide_ (kidD_succ (l := pre) (d := d0) hx2)
          generalize ps[m]'hlm = p at *
          obtain ⟨lb, tg, ty⟩ := p
          simp only at hpr HS
          obtain ⟨ej, rfl⟩ := Int.eq_ofNat_of_zero_le hpr.1
          have hej : ej < i := by omega
          have hejT : (ej : Int) < T.length := by omega
          have i0 := hcx2 0 (by decide); have i1 := hcx2 1 (by decide); have i2 := hcx2 2 (by decide)
          simp [ptc] at i0 i1 i2
          clear hc2 hx2 hcx2 hpr
          rw [HDM.out, Int.toNat_natCast] at HS
          have kp := Blk.newA wp #[.string lb, .int .i64 tg, .int .i64 (ej : Int)] 64
          have hBx := below1 wp (.cells #[.string lb, .int .i64 tg, .int .i64 (ej : Int)] 64)
          obtain ⟨wy, hwy⟩ : ∃ wy, wy = wp.alloc (.cells #[.string lb, .int .i64 tg, .int .i64 (ej : Int)] 64) := ⟨_, rfl⟩
          rw [← hwy] at kp hBx
          have HBy := hide_ (HB2.out.trans (hBx.mono HB2.out.size))
          have HKy := hide_ (HK.out.later hBx)
          have y2 := kp.cell 2
          simp at y2
          clear kp hBx
          obtain ⟨de, hde⟩ : ∃ de, pre.getD ej 0 = de := ⟨_, rfl⟩
          have hdeb := getD_bd (n := ej) HPB.out
          rw [hde] at hdeb HS
          have c1 := HKy.out.cell ej
          rw [cellsL_at _ _ _ (by rw [HLen.out]; omega), getD_app (by rw [HPL.out]; omega), hde] at c1
          have f1 := HKy.out.frozen i
          have c2 := HKy.out.cell i
          rw [cellsL_at _ _ _ (by rw [HLen.out]; omega), getD_mid HPL.out] at c2
          clear hde
          have HKs : Hid (∀ x, Blk ((wy.setCell ⟨w.heap.size, i, none⟩ (.int .i64 x)).drew) w.heap.size 3 (cellsL .i64 (pre ++ x :: zs))) := hide_ (fun x => by
            refine Blk.drew ?_
            have h := HKy.out.set i (.int .i64 x)
            rw [cellsL_set, set_mid HPL.out] at h
            exact h)
          have HBs : Hid (∀ x, Below w.heap.size w ((wy.setCell ⟨w.heap.size, i, none⟩ (.int .i64 x)).drew)) := hide_ (fun x => (below_set HBy.out _ _ _ (Nat.le_refl _)).drew)
          go_upto_region 10 with fail
          rw [← hwy]
          clear hwy i0 i1 i2
          go_region
          go_wp2_with fail
          go_roundw
          case rel => exact ⟨m + 1, by omega, by go_num, by rw [HS.out, ← max_if]; exact hide_ (HKs.out _), hide_ (HBs.out _)⟩
          case measure => simp [intOf]; omega
        · obtain rfl : m = ps.length := by omega
          have HV : Hid (dep1 pre ⟨k, n, el, ps⟩ = dm + 1) := hide_ (by
            have h := HDM.out
            rw [List.take_length] at h
            unfold dep1
            simp only
            rw [HD0.out, h])
          have c2 := HK.out.cell i
          rw [cellsL_at _ _ _ (by rw [HLen.out]; omega), getD_mid HPL.out] at c2
          have f1 := HK.out.frozen i
          have hwr : wrap64 (dm + 1) = dm + 1 := w64 _ (by omega)
          have kS : Blk (wp.setCell ⟨w.heap.size, i, none⟩ (.int .i64 (dm + 1))) w.heap.size 3 (cellsL .i64 (pre ++ (dm + 1) :: zs)) := by
            have h := HK.out.set i (.int .i64 (dm + 1))
            rw [cellsL_set, set_mid HPL.out] at h
            exact h
          have HBs := hide_ (below_set HB2.out w.heap.size i (.int .i64 (dm + 1)) (Nat.le_refl _))
          obtain ⟨ws, hws⟩ : ∃ ws, ws = wp.setCell ⟨w.heap.size, i, none⟩ (.int .i64 (dm + 1)) := ⟨_, rfl⟩
          rw [← hws] at kS HBs
          have KS := hide_ kS
          have c3 := kS.cell i
          rw [cellsL_at _ _ _ (by rw [HLen.out]; omega), getD_mid HPL.out] at c3
          have HDi : Hid ((depL T).getD i 0 = dm + 1) := hide_ (by
            rw [← depL_take T (m := i + 1) (by omega) (by omega), HT.out, HV.out]
            exact getD_mid HPL.out)
          clear kS
          go_upto_region 13 with fail
          rw [← hws]
          clear hws c2
          by_cases hgt : 64 < dm + 1
          · go_wp2
            go_ret
            exact ⟨(i : Int), rfl, hide_ (.inr ⟨i, hlt, rfl, by rw [HDi.out]; omega, fun j hj => (HD.out j hj).2⟩), HBs.out⟩
          · have HKn : Hid (Blk ws w.heap.size 3 (cellsL .i64 (depL (T.take (i + 1)) ++ List.replicate (T.length - (i + 1)) 0))) := hide_ (by
              have h := KS.out
              rw [HT.out, HV.out, show T.length - (i + 1) = T.length - i - 1 by omega, HZS.out, List.append_assoc]
              exact h)
            have HDn : Hid (∀ j, j < i + 1 → 0 ≤ (depL T).getD j 0 ∧ (depL T).getD j 0 ≤ 64) := hide_ (fun j hj => by
              rcases Nat.lt_or_ge j i with h | h
              · exact HD.out j h
              · obtain rfl : j = i := by omega
                rw [HDi.out]
                omega)
            clear HT HPRE HZS HV HDi HLen
            go_wp2_with fail
            go_roundw
            case rel => exact ⟨i + 1, by omega, by go_num, HKn, HDn, HBs⟩
            case measure => simp [intOf]; omega
    · obtain rfl : i = T.length := by omega
      go_wp2
      go_ret
      exact ⟨-1, rfl, hide_ (.inl ⟨rfl, fun j hj => (HD.out j hj).2⟩), HB.out⟩
end Go.Proofs.Ytdpkmkhflgmioaa

/- size: the small functions: withOffset, deepest, choice, row. -/
namespace Go.Proofs.Ytdpkmkhflgmioaa
open Go.RowKit
set_option linter.unusedVariables false

/-- What a part takes. -/
def plus2 (a b : Int) : Int := capH (tot [a, b])
def offX (x : Ex) : Ex := if x.f then x else ⟨x.f, plus2 4 x.l, plus2 4 x.m, x.d⟩
theorem plus2_bd (a b : Int) : 0 ≤ plus2 a b ∧ plus2 a b ≤ 4611686018427387904 := by
  have := tot_nonneg [a, b]
  unfold plus2 capH
  split <;> omega
theorem plusB_any (a b : Int) (w : World) (t : TypeId) (g : Nat) (hk : Hid (Blk w g t [.int .i64 a, .int .i64 b])) : Calls Try.prog 46 #[.slice (some ⟨g, 0, none⟩) 2 2] w fun e w' => e = .returned (.int .i64 (plus2 a b)) ∧ w = w' := by
  refine plus_any (some ⟨g, 0, none⟩) 2 2 [a, b] w (by unfold maxLen; omega) rfl (.inr ⟨g, 0, rfl, fun i hi => ?_⟩)
  rw [Nat.zero_add, hk.out.cell]
  match i, hi with
  | 0, _ => rfl
  | 1, _ => rfl
def deepX (l : List Ex) : Int := l.foldl (fun d x => max d x.d) 0
theorem deepX_succ {l : List Ex} {m : Nat} {x : Ex} (h : l[m]? = some x) : deepX (l.take (m + 1)) = max (deepX (l.take m)) x.d := by
  have hm := (List.getElem?_eq_some_iff.1 h).1
  rw [List.take_succ_eq_append_getElem hm, (List.getElem?_eq_some_iff.1 h).2]
  simp [deepX]
def chX (l : List Ex) : Int × Int := l.foldl (fun s x => (min s.1 x.l, max s.2 x.m)) (4611686018427387904, 0)
theorem chX_succ {l : List Ex} {m : Nat} {x : Ex} (h : l[m]? = some x) : chX (l.take (m + 1)) = (min (chX (l.take m)).1 x.l, max (chX (l.take m)).2 x.m) := by
  have hm := (List.getElem?_eq_some_iff.1 h).1
  rw [List.take_succ_eq_append_getElem hm, (List.getElem?_eq_some_iff.1 h).2]
  simp [chX]
def rowX (l : List Ex) : Bool × Int × Int := l.foldl (fun s x => (s.1 && (offX x).f, plus2 s.2.1 (offX x).l, plus2 s.2.2 (offX x).m)) (true, 0, 0)
theorem rowX_succ {l : List Ex} {m : Nat} {x : Ex} (h : l[m]? = some x) : rowX (l.take (m + 1)) = ((rowX (l.take m)).1 && (offX x).f, plus2 (rowX (l.take m)).2.1 (offX x).l, plus2 (rowX (l.take m)).2.2 (offX x).m) := by
  have hm := (List.getElem?_eq_some_iff.1 h).1
  rw [List.take_succ_eq_append_getElem hm, (List.getElem?_eq_some_iff.1 h).2]
  simp [rowX]
set_option maxRecDepth 100000 in
set_option maxHeartbeats 4000000 in
theorem deepest_any (a : Option Addr) (c : Nat) (l : List Ex) (w : World) (hl : l.length ≤ 9223372036854775806) (hr : Hid (XRow w a l)) :
    Calls Try.prog 42 #[.slice a l.length c] w fun e w' => e = .returned (.int .i64 (deepX l)) ∧ Below w.heap.size w w' := by
  go_enter Try.func42, Try.ntmps42
  go_wp2_with fail
  go_loopw [3, 8] (fun x3 x8 wr => ∃ i : Nat, i ≤ l.length ∧ x8 = .int .i64 (i : Int) ∧ (∃ d, d = deepX (l.take i) ∧ x3 = .int .i64 d) ∧ Hid (Below w.heap.size w wr)) (fun _ x8 _ => l.length - (intOf x8).toNat)
  case atStart => exact ⟨0, Nat.zero_le _, rfl, ⟨_, rfl, rfl⟩, hide_ (Below.refl _ _)⟩
  case round =>
    obtain ⟨i, hi, rfl, ⟨d, hd, rfl⟩, HB⟩ := hrel
    have HD := hide_ hd
    clear hd
    generalize wr = wq at *
    by_cases hlt : i < l.length
    · have hlt' : (i : Int) < l.length := by omega
      obtain ⟨b, o, rfl, hb, hc⟩ := (hr.out.later HB.out).open (by omega)
      have hx : l[i]? = some (l[i]'hlt) := List.getElem?_eq_getElem hlt
      have hcx := hc i _ hx
      have HS := hide_ (deepX_succ hx)
      generalize l[i]'hlt = x at *
      obtain ⟨xf, xl, xm, xd⟩ := x
      have i0 := hcx 0 (by decide); have i1 := hcx 1 (by decide); have i2 := hcx 2 (by decide); have i3 := hcx 3 (by decide)
      simp [exc] at i0 i1 i2 i3
      rw [← HD.out] at HS
      simp only at HS
      have HBx := hide_ (below_to HB.out (below1 wq (.cells #[.bool xf, .int .i64 xl, .int .i64 xm, .int .i64 xd] 48)))
      clear hc hx hcx
      go_wp2_with fail
      all_goals
        go_roundw
        case rel => exact ⟨i + 1, by omega, by go_num, ⟨_, by rw [HS.out]; omega, rfl⟩, HBx⟩
        case measure => simp [intOf]; omega
    · obtain rfl : i = l.length := by omega
      have HV : Hid (deepX l = d) := hide_ (by rw [HD.out, List.take_length])
      go_wp2
      go_ret
      exact ⟨by rw [HV.out]; rfl, HB.out⟩
end Go.Proofs.Ytdpkmkhflgmioaa

/- size: withOffset, choice. -/
namespace Go.Proofs.Ytdpkmkhflgmioaa
open Go.RowKit
set_option linter.unusedVariables false

theorem retX {fn : Func} {p : Tmp} (h : fn.results = #[.cell p 48]) {R : Ending → World → Prop} {tmps : Array Value} {g : Nat} {w : World} {x : Ex} (hp : tmps.getD p undef = .pointer (some ⟨g, 0, none⟩)) (hK : Blk w g 48 (exc x)) (hR : R (.returned (exv x)) w) :
    bodyPost Try.prog fn R Exit.ret ⟨tmps, []⟩ w :=
  bodyPost_ret (results_cell_row h _ _ _ _ (exc x).toArray _ _ hp hK Try.underlying48 rfl (by show _ = some 4; kernel_rfl)) rfl hR
theorem wr4 {w : World} {g : Nat} {t : TypeId} {x0 x1 x2 x3 : Value} (h : Blk w g t [x0, x1, x2, x3]) (y0 y1 y2 y3 : Value) :
    Blk ((((w.setCell ⟨g, 0, none⟩ y0).setCell ⟨g, 1, none⟩ y1).setCell ⟨g, 2, none⟩ y2).setCell ⟨g, 3, none⟩ y3) g t [y0, y1, y2, y3] := by
  have := (((h.set 0 y0).set 1 y1).set 2 y2).set 3 y3
  simpa using this
theorem below_wr4 {B : Nat} {w w' : World} (h : Below B w w') (b : Nat) (hb : B ≤ b) (y0 y1 y2 y3 : Value) : Below B w ((((w'.setCell ⟨b, 0, none⟩ y0).setCell ⟨b, 1, none⟩ y1).setCell ⟨b, 2, none⟩ y2).setCell ⟨b, 3, none⟩ y3) :=
  below_set (below_set (below_set (below_set h _ _ _ hb) _ _ _ hb) _ _ _ hb) _ _ _ hb
set_option maxRecDepth 100000 in
set_option maxHeartbeats 4000000 in
theorem withOffset_any (x : Ex) (w : World) : Calls Try.prog 43 #[.agg #[.bool x.f, .int .i64 x.l, .int .i64 x.m, .int .i64 x.d]] w fun e w' => e = .returned (exv (offX x)) ∧ Below w.heap.size w w' := by
  obtain ⟨xf, xl, xm, xd⟩ := x
  simp only
  have hB := below2 w (.cells #[.bool xf, .int .i64 xl, .int .i64 xm, .int .i64 xd] 48) (.cells #[.bool false, .int .i64 0, .int .i64 0, .int .i64 0] 48)
  obtain ⟨k1, k2⟩ := blk2 w #[.bool xf, .int .i64 xl, .int .i64 xm, .int .i64 xd] #[.bool false, .int .i64 0, .int .i64 0, .int .i64 0] 48 48
  obtain ⟨w0, hw0⟩ : ∃ wx, wx = (w.alloc (.cells #[.bool xf, .int .i64 xl, .int .i64 xm, .int .i64 xd] 48)).alloc (.cells #[.bool false, .int .i64 0, .int .i64 0, .int .i64 0] 48) := ⟨_, rfl⟩
  rw [← hw0] at hB k1 k2
  have HB := hide_ hB
  have K1 := hide_ k1
  have K2 := hide_ k2
  have i0 := k1.cell 0; have i1 := k1.cell 1; have i2 := k1.cell 2; have i3 := k1.cell 3
  have j0 := k2.cell 0; have j1 := k2.cell 1; have j2 := k2.cell 2; have j3 := k2.cell 3
  simp at i0 i1 i2 i3 j0 j1 j2 j3
  have f1 := fun i => k1.frozen i
  have f2 := fun i => k2.frozen i
  have hs1 : w.heap.size < w0.heap.size := k1.lt
  have hs2 : w.heap.size + 1 < w0.heap.size := k2.lt
  clear hB k1 k2
  go_enter Try.func43, Try.ntmps43
  go_upto_region 1 with fail
  rw [← hw0]
  clear hw0
  cases xf with
  | true =>
    have HV : Hid (offX ⟨true, xl, xm, xd⟩ = ⟨true, xl, xm, xd⟩) := hide_ rfl
    have HK := hide_ (wr4 K2.out (.bool true) (.int .i64 xl) (.int .i64 xm) (.int .i64 xd))
    have HBf := hide_ (below_wr4 HB.out (w.heap.size + 1) (by omega) (.bool true) (.int .i64 xl) (.int .i64 xm) (.int .i64 xd))
    go_wp2
    refine retX (x := ⟨true, xl, xm, xd⟩) rfl rfl HK.out ⟨by rw [HV.out], HBf.out⟩
  | false =>
    obtain ⟨pl, hpl⟩ : ∃ pl, plus2 4 xl = pl := ⟨_, rfl⟩
    obtain ⟨pm, hpm⟩ : ∃ pm, plus2 4 xm = pm := ⟨_, rfl⟩
    have HV : Hid (offX ⟨false, xl, xm, xd⟩ = ⟨false, pl, pm, xd⟩) := hide_ (by unfold offX; simp only [Bool.false_eq_true, if_false]; rw [hpl, hpm])
    have HP1 : Hid (∀ (w : World) (g : Nat), Hid (Blk w g 3 [.int .i64 4, .int .i64 xl]) → Calls Try.prog 46 #[.slice (some ⟨g, 0, none⟩) 2 2] w fun e w' => e = .returned (.int .i64 pl) ∧ w = w') := hide_ (fun w g h => by have := plusB_any 4 xl w 3 g h; rwa [hpl] at this)
    have HP2 : Hid (∀ (w : World) (g : Nat), Hid (Blk w g 3 [.int .i64 4, .int .i64 xm]) → Calls Try.prog 46 #[.slice (some ⟨g, 0, none⟩) 2 2] w fun e w' => e = .returned (.int .i64 pm) ∧ w = w') := hide_ (fun w g h => by have := plusB_any 4 xm w 3 g h; rwa [hpm] at this)
    clear hpl hpm
    go_upto_region 2 with fail
    go_cut [] from 5 to 15 (fun wc => ∃ w1, w1 = wc ∧ Hid (Blk w1 w.heap.size 48 [.bool false, .int .i64 pl, .int .i64 pm, .int .i64 xd]) ∧ Hid (Blk w1 (w.heap.size + 1) 48 [.bool false, .int .i64 0, .int .i64 0, .int .i64 0]) ∧ Hid (Below w.heap.size w w1))
    case first =>
      have HL : Hid (∀ A B : Obj, ∀ v1 v2 : Value × Nat, (v1 = (.int .i64 pl, 1) ∧ v2 = (.int .i64 pm, 2)) ∨ (v2 = (.int .i64 pl, 1) ∧ v1 = (.int .i64 pm, 2)) → (Hid (Blk ((((w0.setCell ⟨w.heap.size, v1.2, none⟩ v1.1).setCell ⟨w.heap.size, v2.2, none⟩ v2.1).alloc A).alloc B).drew w.heap.size 48 [.bool false, .int .i64 pl, .int .i64 pm, .int .i64 xd]) ∧ Hid (Blk ((((w0.setCell ⟨w.heap.size, v1.2, none⟩ v1.1).setCell ⟨w.heap.size, v2.2, none⟩ v2.1).alloc A).alloc B).drew (w.heap.size + 1) 48 [.bool false, .int .i64 0, .int .i64 0, .int .i64 0]) ∧ Hid (Below w.heap.size w ((((w0.setCell ⟨w.heap.size, v1.2, none⟩ v1.1).setCell ⟨w.heap.size, v2.2, none⟩ v2.1).alloc A).alloc B).drew))) := hide_ (fun A B v1 v2 hv => by
        refine ⟨hide_ (Blk.drew (Blk.alloc (Blk.alloc ?_ _) _)), hide_ (Blk.drew (Blk.alloc (Blk.alloc ?_ _) _)), hide_ (Below.drew (((below_set (below_set HB.out _ _ _ (Nat.le_refl _)) _ _ _ (Nat.le_refl _)).alloc (by simp [World.size_setCell]; omega) A).alloc (by simp [World.size_setCell]; omega) B))⟩
        · rcases hv with ⟨rfl, rfl⟩ | ⟨rfl, rfl⟩
          · have h := ((K1.out.set 1 (.int .i64 pl)).set 2 (.int .i64 pm))
            simpa using h
          · have h := ((K1.out.set 2 (.int .i64 pm)).set 1 (.int .i64 pl))
            simpa using h
        · exact (K2.out.other _ _ (by show w.heap.size + 1 ≠ w.heap.size; omega)).other _ _ (by show w.heap.size + 1 ≠ w.heap.size; omega))
      go_wp2_with fail
      go_region_with (first
        | (go_at_call 46; first
            | (refine (HP1.out _ _ (hide_ (by first | exact Blk.newA _ _ _ | exact (blk2 _ _ _ _ _).1 | exact (blk2 _ _ _ _ _).2))).mono ?_; rintro e w' ⟨rfl, rfl⟩)
            | (refine (HP2.out _ _ (hide_ (by first | exact Blk.newA _ _ _ | exact (blk2 _ _ _ _ _).1 | exact (blk2 _ _ _ _ _).2))).mono ?_; rintro e w' ⟨rfl, rfl⟩)))
      all_goals
        go_wp2
        go_meet
        case rel => exact ⟨_, rfl, by first | exact HL.out _ _ (.int .i64 pl, 1) (.int .i64 pm, 2) (.inl ⟨rfl, rfl⟩) | exact HL.out _ _ (.int .i64 pm, 2) (.int .i64 pl, 1) (.inr ⟨rfl, rfl⟩)⟩
    case rest =>
      obtain ⟨w1, rfl, HK1, HK2, HB1⟩ := hcut
      clear i0 i1 i2 i3 j0 j1 j2 j3 f1 f2 K1 K2 HB HP1 HP2
      have i0 := HK1.out.cell 0; have i1 := HK1.out.cell 1; have i2 := HK1.out.cell 2; have i3 := HK1.out.cell 3
      have j0 := HK2.out.cell 0; have j1 := HK2.out.cell 1; have j2 := HK2.out.cell 2; have j3 := HK2.out.cell 3
      simp at i0 i1 i2 i3 j0 j1 j2 j3
      have f1 := fun i => HK1.out.frozen i
      have f2 := fun i => HK2.out.frozen i
      have HK := hide_ (wr4 HK2.out (.bool false) (.int .i64 pl) (.int .i64 pm) (.int .i64 xd))
      have HBf := hide_ (below_wr4 HB1.out (w.heap.size + 1) (by omega) (.bool false) (.int .i64 pl) (.int .i64 pm) (.int .i64 xd))
      go_wp2
      refine retX (x := ⟨false, pl, pm, xd⟩) rfl rfl HK.out ⟨by rw [HV.out], HBf.out⟩
end Go.Proofs.Ytdpkmkhflgmioaa

/- size: kidsOf, choice. -/
namespace Go.Proofs.Ytdpkmkhflgmioaa
open Go.RowKit
set_option linter.unusedVariables false

def exAt (X : List Ex) (i : Int) : Ex := X.getD i.toNat ex0
def kidL (X : List Ex) (k el : Int) (ps : List Pt) : List Ex := (if hasE k then [exAt X el] else []) ++ ps.map (fun p => exAt X p.ty)
theorem kidL_succ {X : List Ex} {k el : Int} {ps : List Pt} {m : Nat} {p : Pt} (h : ps[m]? = some p) : kidL X k el (ps.take (m + 1)) = kidL X k el (ps.take m) ++ [exAt X p.ty] := by
  have hm := (List.getElem?_eq_some_iff.1 h).1
  unfold kidL
  rw [List.take_succ_eq_append_getElem hm, (List.getElem?_eq_some_iff.1 h).2, List.map_append, ← List.append_assoc]
  rfl
theorem kidL_len (X : List Ex) (k el : Int) (ps : List Pt) : (kidL X k el ps).length ≤ 1 + ps.length := by
  unfold kidL
  split <;> simp <;> omega
theorem exAt_at {X : List Ex} {i : Nat} (h : i < X.length) : X[i]? = some (exAt X (i : Int)) := by
  unfold exAt
  rw [Int.toNat_natCast, List.getElem?_eq_getElem h]
  simp [List.getD, h]
theorem exc_one (l : List Ex) : ∀ u ∈ cellsG exc l, u.oneCell' = true := by
  intro u hu
  simp only [cellsG, List.mem_flatMap] at hu
  obtain ⟨x, _, hx⟩ := hu
  simp [exc] at hx
  rcases hx with rfl | rfl | rfl | rfl <;> rfl
theorem infoX : (Try.prog.info? 48).map (fun i => (i.zero, i.size, i.bytes)) = some (some (.agg #[.bool false, .int .i64 0, .int .i64 0, .int .i64 0]), 4, 32) := by kernel_rfl
/-- A list of extents of the call's own. -/
def XOwn (w : World) (B : Nat) (v : Value) (l : List Ex) : Prop := w.ownsRow B 48 4 v l.length (cellsG exc l)
theorem XOwn.nil (w : World) (B : Nat) : XOwn w B (.slice none 0 0) [] := World.ownsRow_nil _ _ _ _
theorem XOwn.later {w w' : World} {B : Nat} {v : Value} {l : List Ex} (h : XOwn w B v l) (hB : Below w.heap.size w w') : XOwn w' B v l := ownS_upd h (Upd.of_below (S := fun _ => False) hB) (fun _ _ h => h)
theorem XOwn.push {w : World} {B : Nat} {v : Value} {l : List Ex} (h : XOwn w B v l) (x : Ex) (hl : l.length ≤ 4000000000000) (hB : B ≤ w.heap.size) :
    ∃ v' w', (Builtin.append_ #[29, 29] 29 #[v, .slice (some ⟨w.heap.size, 0, none⟩) 1 1]).run Try.prog (w.alloc (.cells #[.bool x.f, .int .i64 x.l, .int .i64 x.m, .int .i64 x.d] 48)) = .ok v' w' ∧ XOwn w' B v' (l ++ [x]) ∧ Below B w w' := by
  obtain ⟨g, cap, w', h1, h2, h3, h4⟩ := run_pushS (P := Try.prog) (t := 29) (e := 48) (c := 4) Try.underlying29 infoX rfl (by decide) w 29 h (exc x) rfl (fun u hu => by simp [exc] at hu; rcases hu with rfl | rfl | rfl | rfl <;> rfl) (by unfold maxLen; omega) (by omega) hB
  refine ⟨_, w', h1, ?_, h3.below B hB (fun k hk => (h.lt k hk).1)⟩
  unfold XOwn
  rw [cellsG_app, cellsG_one, List.length_append, List.length_singleton]
  exact h2
theorem XOwn.row {w : World} {B : Nat} {v : Value} {l : List Ex} (h : XOwn w B v l) : ∃ a cap, v = .slice a l.length cap ∧ l.length ≤ cap ∧ (a = none → cap = 0) ∧ XRow w a l := own_grow exc_len h
set_option maxRecDepth 100000 in
set_option maxHeartbeats 4000000 in
theorem choice_any (a : Option Addr) (c : Nat) (l : List Ex) (w : World) (hl : l.length ≤ 9223372036854775806) (hr : Hid (XRow w a l)) :
    Calls Try.prog 45 #[.slice a l.length c] w fun e w' => e = .returned (.tuple #[.int .i64 (chX l).1, .int .i64 (chX l).2]) ∧ Below w.heap.size w w' := by
  go_enter Try.func45, Try.ntmps45
  go_wp2_with fail
  go_loopw [2, 3, 8] (fun x2 x3 x8 wr => ∃ i : Nat, i ≤ l.length ∧ x8 = .int .i64 (i : Int) ∧ (∃ d e, Hid ((d, e) = chX (l.take i)) ∧ x2 = .int .i64 d ∧ x3 = .int .i64 e) ∧ Hid (Below w.heap.size w wr)) (fun _ _ x8 _ => l.length - (intOf x8).toNat)
  case atStart => exact ⟨0, Nat.zero_le _, rfl, ⟨4611686018427387904, 0, hide_ rfl, rfl, rfl⟩, hide_ (Below.refl _ _)⟩
  case round =>
    obtain ⟨i, hi, rfl, ⟨d, e, HD, rfl, rfl⟩, HB⟩ := hrel
    generalize wr = wq at *
    by_cases hlt : i < l.length
    · have hlt' : (i : Int) < l.length := by omega
      obtain ⟨b, o, rfl, hb, hc⟩ := (hr.out.later HB.out).open (by omega)
      have hx : l[i]? = some (l[i]'hlt) := List.getElem?_eq_getElem hlt
      have hcx := hc i _ hx
      have HS := hide_ (chX_succ hx)
      generalize l[i]'hlt = x at *
      obtain ⟨xf, xl, xm, xd⟩ := x
      have i0 := hcx 0 (by decide); have i1 := hcx 1 (by decide); have i2 := hcx 2 (by decide); have i3 := hcx 3 (by decide)
      simp [exc] at i0 i1 i2 i3
      rw [← HD.out] at HS
      simp only at HS
      have kx := Blk.newA wq #[.bool xf, .int .i64 xl, .int .i64 xm, .int .i64 xd] 48
      have hBx := below1 wq (.cells #[.bool xf, .int .i64 xl, .int .i64 xm, .int .i64 xd] 48)
      obtain ⟨wx, hwx⟩ : ∃ wx, wx = wq.alloc (.cells #[.bool xf, .int .i64 xl, .int .i64 xm, .int .i64 xd] 48) := ⟨_, rfl⟩
      rw [← hwx] at kx hBx
      have HBx := hide_ (below_to HB.out hBx)
      have j1 := kx.cell 1; have j2 := kx.cell 2
      simp at j1 j2
      clear hc hx hcx kx hBx
      go_upto_region 5 with fail
      rw [← hwx]
      clear hwx i0 i1 i2 i3
      go_region
      go_wp2_with fail
      go_roundw
      case rel => exact ⟨i + 1, by omega, by go_num, ⟨_, _, by rw [HS.out, ← max_if, ← min_if]; exact hide_ rfl, rfl, rfl⟩, hide_ HBx.out.drew⟩
      case measure => simp [intOf]; omega
    · obtain rfl : i = l.length := by omega
      have HV : Hid (chX l = (d, e)) := hide_ (by rw [HD.out, List.take_length])
      go_wp2
      go_ret2
      exact ⟨by rw [HV.out]; rfl, HB.out⟩
set_option maxRecDepth 100000 in
set_option maxHeartbeats 8000000 in
theorem kidsOf_any (k n el : Int) (ps : List Pt) (va : Option Addr) (vc : Nat) (X : List Ex) (ax : Option Addr) (cx : Nat) (w : World) (hXl : X.length ≤ 10000000000000) (hok : Hid (tyOk ⟨k, n, el, ps⟩ X.length = true)) (hP : Hid (PRow w va ps)) (hX : Hid (XRow w ax X)) :
    Calls Try.prog 41 #[.agg #[.int .i64 k, .int .i64 n, .int .i64 el, .slice va ps.length vc], .slice ax X.length cx] w fun e w' => ∃ v, e = .returned v ∧ Hid (XOwn w' w.heap.size v (kidL X k el ps)) ∧ Hid (Below w.heap.size w w') := by
  have hps := tyOk_len hok.out
  simp only at hps
  have hB := below1 w (.cells #[.int .i64 k, .int .i64 n, .int .i64 el, .slice va ps.length vc] 62)
  have kx := Blk.newA w #[.int .i64 k, .int .i64 n, .int .i64 el, .slice va ps.length vc] 62
  obtain ⟨w0, hw0⟩ : ∃ wx, wx = w.alloc (.cells #[.int .i64 k, .int .i64 n, .int .i64 el, .slice va ps.length vc] 62) := ⟨_, rfl⟩
  rw [← hw0] at hB kx
  have HB0 := hide_ hB
  have i0 := kx.cell 0; have i2 := kx.cell 2; have i3 := kx.cell 3
  have HK0 := hide_ kx
  simp at i0 i2 i3
  clear hB kx
  go_enter Try.func41, Try.ntmps41
  go_upto_region 1 with fail
  rw [← hw0]
  clear hw0
  by_cases h4 : k = 4
  · subst h4
    have hel := tyOk_elem hok.out (show hasE 4 = true from rfl)
    simp only at hel
    obtain ⟨ej, rfl⟩ := Int.eq_ofNat_of_zero_le hel.1
    have hejX : ej < X.length := by omega
    have hejX' : (ej : Int) < X.length := by omega
    obtain ⟨bx, ox, rfl, hbx, hcX⟩ := (hX.out.later HB0.out).open (by omega)
    have hcy := hcX ej _ (exAt_at hejX)
    have x0 := hcy 0 (by decide); have x1 := hcy 1 (by decide); have x2 := hcy 2 (by decide); have x3 := hcy 3 (by decide)
    simp [exc] at x0 x1 x2 x3
    obtain ⟨v0, w1, hrun, hO', hB'⟩ := (XOwn.nil w0 w.heap.size).push (exAt X (ej : Int)) (by simp) HB0.out.size
    have HBk : Hid (Below w0.heap.size w0 w1) := hide_ (by
      obtain ⟨v2, w2, hr2, -, h2⟩ := (XOwn.nil w0 w0.heap.size).push (exAt X (ej : Int)) (by simp) (Nat.le_refl _)
      rw [hrun] at hr2
      injection hr2 with _ e
      subst e
      exact h2)
    have HO : Hid (XOwn w1 w.heap.size v0 (kidL X 4 (ej : Int) (ps.take 0))) := hide_ (by
      have e : kidL X 4 (ej : Int) (ps.take 0) = [] ++ [exAt X (ej : Int)] := by simp [kidL, hasE]
      rw [e]; exact hO')
    have HRun := hide_ hrun
    have HBw := hide_ (HB0.out.trans hB')
    clear hrun hO' hB' hcX hcy hbx hel
    go_upto_region 7 with (first | (at_builtin; refine wpList_append_run rfl (.tmp 14) (.tmp 20) 29 29 rfl rfl rfl HRun.out ?_; clear HRun))
    clear x0 x1 x2 x3
    have kt := (HK0.out.later HBk.out).cell 3
    simp at kt
    clear i0 i2 i3
    go_wp2_with fail
    go_loopw [5, 25] (fun x5 x25 wr => ∃ (v : Value) (m : Nat), v = x5 ∧ m ≤ ps.length ∧ x25 = .int .i64 (m : Int) ∧ Hid (XOwn wr w.heap.size v (kidL X 4 (ej : Int) (ps.take m))) ∧ Hid (Below w.heap.size w wr)) (fun _ x25 _ => ps.length - (intOf x25).toNat)
    case atStart => exact ⟨_, 0, rfl, Nat.zero_le _, rfl, HO, HBw⟩
    case round =>
      obtain ⟨v, m, rfl, hm, rfl, HO1, HB1⟩ := hrel
      generalize wr = wq at *
      clear HO HBw HBk kt
      by_cases hlt : m < ps.length
      · have hlt' : (m : Int) < ps.length := by omega
        obtain ⟨b, o, rfl, hb, hc⟩ := (hP.out.later HB1.out).open (by omega)
        have hx : ps[m]? = some (ps[m]'hlt) := List.getElem?_eq_getElem hlt
        have hcx := hc m _ hx
        have hpr := tyOk_part (t := ⟨4, n, (ej : Int), ps⟩) hok.out hx
        have HS := hide_ (kidL_succ (X := X) (k := 4) (el := (ej : Int)) hx)
        have hkl := kidL_len X 4 (ej : Int) (ps.take m)
        rw [List.length_take] at hkl
        generalize ps[m]'hlt = p at *
        obtain ⟨lb, tg, ty⟩ := p
        simp only at hpr HS
        obtain ⟨ej, rfl⟩ := Int.eq_ofNat_of_zero_le hpr.1
        have hejX : ej < X.length := by omega
        have hejX' : (ej : Int) < X.length := by omega
        have i0 := hcx 0 (by decide); have i1 := hcx 1 (by decide); have i2 := hcx 2 (by decide)
        simp [ptc] at i0 i1 i2
        clear hc hx hcx hpr
        have kp := Blk.newA wq #[.string lb, .int .i64 tg, .int .i64 (ej : Int)] 64
        have hBx := below1 wq (.cells #[.string lb, .int .i64 tg, .int .i64 (ej : Int)] 64)
        obtain ⟨wy, hwy⟩ : ∃ wy, wy = wq.alloc (.cells #[.string lb, .int .i64 tg, .int .i64 (ej : Int)] 64) := ⟨_, rfl⟩
        rw [← hwy] at kp hBx
        have HBy := hide_ (HB1.out.trans (hBx.mono HB1.out.size))
        have HOy := hide_ (HO1.out.later hBx)
        have y2 := kp.cell 2
        simp at y2
        obtain ⟨bx', ox', hax, hbx, hcX⟩ := (hX.out.later HBy.out).open (by omega)
        injection hax with hax
        injection hax with e1 e2 _
        subst e1 e2
        have hcy := hcX ej _ (exAt_at hejX)
        generalize exAt X (ej : Int) = x at *
        have x0 := hcy 0 (by decide); have x1 := hcy 1 (by decide); have x2 := hcy 2 (by decide); have x3 := hcy 3 (by decide)
        simp [exc] at x0 x1 x2 x3
        obtain ⟨v', w', hrun, hO', hB'⟩ := HOy.out.push x (by omega) HBy.out.size
        rw [← HS.out] at hO'
        have HRun := hide_ hrun
        have HO' := hide_ hO'
        have HB' := hide_ (HBy.out.trans hB')
        clear hrun hO' hB' kp hBx hcX hcy HOy HBy HO1 HB1 hbx hb
        go_upto_region 10 with fail
        rw [← hwy]
        clear hwy i0 i1 i2
        go_wp2_with (first | (at_builtin; refine wpList_append_run rfl (.tmp 29) (.tmp 35) 29 29 rfl rfl rfl HRun.out ?_; clear HRun))
        go_roundw
        case rel => exact ⟨_, m + 1, rfl, by omega, by go_num, HO', HB'⟩
        case measure => simp [intOf]; omega
      · obtain rfl : m = ps.length := by omega
        have HV : Hid (XOwn wq w.heap.size v (kidL X 4 (ej : Int) ps)) := hide_ (by have h := HO1.out; rw [List.take_length] at h; exact h)
        go_wp2
        go_ret
        exact ⟨_, rfl, HV, HB1⟩
  have c4 : (k == 4) = false := by simpa using h4
  by_cases h5 : k = 5
  · subst h5
    have hel := tyOk_elem hok.out (show hasE 5 = true from rfl)
    simp only at hel
    obtain ⟨ej, rfl⟩ := Int.eq_ofNat_of_zero_le hel.1
    have hejX : ej < X.length := by omega
    have hejX' : (ej : Int) < X.length := by omega
    obtain ⟨bx, ox, rfl, hbx, hcX⟩ := (hX.out.later HB0.out).open (by omega)
    have hcy := hcX ej _ (exAt_at hejX)
    have x0 := hcy 0 (by decide); have x1 := hcy 1 (by decide); have x2 := hcy 2 (by decide); have x3 := hcy 3 (by decide)
    simp [exc] at x0 x1 x2 x3
    obtain ⟨v0, w1, hrun, hO', hB'⟩ := (XOwn.nil w0 w.heap.size).push (exAt X (ej : Int)) (by simp) HB0.out.size
    have HBk : Hid (Below w0.heap.size w0 w1) := hide_ (by
      obtain ⟨v2, w2, hr2, -, h2⟩ := (XOwn.nil w0 w0.heap.size).push (exAt X (ej : Int)) (by simp) (Nat.le_refl _)
      rw [hrun] at hr2
      injection hr2 with _ e
      subst e
      exact h2)
    have HO : Hid (XOwn w1 w.heap.size v0 (kidL X 5 (ej : Int) (ps.take 0))) := hide_ (by
      have e : kidL X 5 (ej : Int) (ps.take 0) = [] ++ [exAt X (ej : Int)] := by simp [kidL, hasE]
      rw [e]; exact hO')
    have HRun := hide_ hrun
    have HBw := hide_ (HB0.out.trans hB')
    clear hrun hO' hB' hcX hcy hbx hel
    go_upto_region 7 with (first | (at_builtin; refine wpList_append_run rfl (.tmp 14) (.tmp 20) 29 29 rfl rfl rfl HRun.out ?_; clear HRun))
    clear x0 x1 x2 x3
    have kt := (HK0.out.later HBk.out).cell 3
    simp at kt
    clear i0 i2 i3
    go_wp2_with fail
    go_loopw [5, 25] (fun x5 x25 wr => ∃ (v : Value) (m : Nat), v = x5 ∧ m ≤ ps.length ∧ x25 = .int .i64 (m : Int) ∧ Hid (XOwn wr w.heap.size v (kidL X 5 (ej : Int) (ps.take m))) ∧ Hid (Below w.heap.size w wr)) (fun _ x25 _ => ps.length - (intOf x25).toNat)
    case atStart => exact ⟨_, 0, rfl, Nat.zero_le _, rfl, HO, HBw⟩
    case round =>
      obtain ⟨v, m, rfl, hm, rfl, HO1, HB1⟩ := hrel
      generalize wr = wq at *
      clear HO HBw HBk kt
      by_cases hlt : m < ps.length
      · have hlt' : (m : Int) < ps.length := by omega
        obtain ⟨b, o, rfl, hb, hc⟩ := (hP.out.later HB1.out).open (by omega)
        have hx : ps[m]? = some (ps[m]'hlt) := List.getElem?_eq_getElem hlt
        have hcx := hc m _ hx
        have hpr := tyOk_part (t := ⟨5, n, (ej : Int), ps⟩) hok.out hx
        have HS := hide_ (kidL_succ (X := X) (k := 5) (el := (ej : Int)) hx)
        have hkl := kidL_len X 5 (ej : Int) (ps.take m)
        rw [List.length_take] at hkl
        generalize ps[m]'hlt = p at *
        obtain ⟨lb, tg, ty⟩ := p
        simp only at hpr HS
        obtain ⟨ej, rfl⟩ := Int.eq_ofNat_of_zero_le hpr.1
        have hejX : ej < X.length := by omega
        have hejX' : (ej : Int) < X.length := by omega
        have i0 := hcx 0 (by decide); have i1 := hcx 1 (by decide); have i2 := hcx 2 (by decide)
        simp [ptc] at i0 i1 i2
        clear hc hx hcx hpr
        have kp := Blk.newA wq #[.string lb, .int .i64 tg, .int .i64 (ej : Int)] 64
        have hBx := below1 wq (.cells #[.string lb, .int .i64 tg, .int .i64 (ej : Int)] 64)
        obtain ⟨wy, hwy⟩ : ∃ wy, wy = wq.alloc (.cells #[.string lb, .int .i64 tg, .int .i64 (ej : Int)] 64) := ⟨_, rfl⟩
        rw [← hwy] at kp hBx
        have HBy := hide_ (HB1.out.trans (hBx.mono HB1.out.size))
        have HOy := hide_ (HO1.out.later hBx)
        have y2 := kp.cell 2
        simp at y2
        obtain ⟨bx', ox', hax, hbx, hcX⟩ := (hX.out.later HBy.out).open (by omega)
        injection hax with hax
        injection hax with e1 e2 _
        subst e1 e2
        have hcy := hcX ej _ (exAt_at hejX)
        generalize exAt X (ej : Int) = x at *
        have x0 := hcy 0 (by decide); have x1 := hcy 1 (by decide); have x2 := hcy 2 (by decide); have x3 := hcy 3 (by decide)
        simp [exc] at x0 x1 x2 x3
        obtain ⟨v', w', hrun, hO', hB'⟩ := HOy.out.push x (by omega) HBy.out.size
        rw [← HS.out] at hO'
        have HRun := hide_ hrun
        have HO' := hide_ hO'
        have HB' := hide_ (HBy.out.trans hB')
        clear hrun hO' hB' kp hBx hcX hcy HOy HBy HO1 HB1 hbx hb
        go_upto_region 10 with fail
        rw [← hwy]
        clear hwy i0 i1 i2
        go_wp2_with (first | (at_builtin; refine wpList_append_run rfl (.tmp 29) (.tmp 35) 29 29 rfl rfl rfl HRun.out ?_; clear HRun))
        go_roundw
        case rel => exact ⟨_, m + 1, rfl, by omega, by go_num, HO', HB'⟩
        case measure => simp [intOf]; omega
      · obtain rfl : m = ps.length := by omega
        have HV : Hid (XOwn wq w.heap.size v (kidL X 5 (ej : Int) ps)) := hide_ (by have h := HO1.out; rw [List.take_length] at h; exact h)
        go_wp2
        go_ret
        exact ⟨_, rfl, HV, HB1⟩
  have c5 : (k == 5) = false := by simpa using h5
  by_cases h6 : k = 6
  · subst h6
    have hel := tyOk_elem hok.out (show hasE 6 = true from rfl)
    simp only at hel
    obtain ⟨ej, rfl⟩ := Int.eq_ofNat_of_zero_le hel.1
    have hejX : ej < X.length := by omega
    have hejX' : (ej : Int) < X.length := by omega
    obtain ⟨bx, ox, rfl, hbx, hcX⟩ := (hX.out.later HB0.out).open (by omega)
    have hcy := hcX ej _ (exAt_at hejX)
    have x0 := hcy 0 (by decide); have x1 := hcy 1 (by decide); have x2 := hcy 2 (by decide); have x3 := hcy 3 (by decide)
    simp [exc] at x0 x1 x2 x3
    obtain ⟨v0, w1, hrun, hO', hB'⟩ := (XOwn.nil w0 w.heap.size).push (exAt X (ej : Int)) (by simp) HB0.out.size
    have HBk : Hid (Below w0.heap.size w0 w1) := hide_ (by
      obtain ⟨v2, w2, hr2, -, h2⟩ := (XOwn.nil w0 w0.heap.size).push (exAt X (ej : Int)) (by simp) (Nat.le_refl _)
      rw [hrun] at hr2
      injection hr2 with _ e
      subst e
      exact h2)
    have HO : Hid (XOwn w1 w.heap.size v0 (kidL X 6 (ej : Int) (ps.take 0))) := hide_ (by
      have e : kidL X 6 (ej : Int) (ps.take 0) = [] ++ [exAt X (ej : Int)] := by simp [kidL, hasE]
      rw [e]; exact hO')
    have HRun := hide_ hrun
    have HBw := hide_ (HB0.out.trans hB')
    clear hrun hO' hB' hcX hcy hbx hel
    go_upto_region 7 with (first | (at_builtin; refine wpList_append_run rfl (.tmp 14) (.tmp 20) 29 29 rfl rfl rfl HRun.out ?_; clear HRun))
    clear x0 x1 x2 x3
    have kt := (HK0.out.later HBk.out).cell 3
    simp at kt
    clear i0 i2 i3
    go_wp2_with fail
    go_loopw [5, 25] (fun x5 x25 wr => ∃ (v : Value) (m : Nat), v = x5 ∧ m ≤ ps.length ∧ x25 = .int .i64 (m : Int) ∧ Hid (XOwn wr w.heap.size v (kidL X 6 (ej : Int) (ps.take m))) ∧ Hid (Below w.heap.size w wr)) (fun _ x25 _ => ps.length - (intOf x25).toNat)
    case atStart => exact ⟨_, 0, rfl, Nat.zero_le _, rfl, HO, HBw⟩
    case round =>
      obtain ⟨v, m, rfl, hm, rfl, HO1, HB1⟩ := hrel
      generalize wr = wq at *
      clear HO HBw HBk kt
      by_cases hlt : m < ps.length
      · have hlt' : (m : Int) < ps.length := by omega
        obtain ⟨b, o, rfl, hb, hc⟩ := (hP.out.later HB1.out).open (by omega)
        have hx : ps[m]? = some (ps[m]'hlt) := List.getElem?_eq_getElem hlt
        have hcx := hc m _ hx
        have hpr := tyOk_part (t := ⟨6, n, (ej : Int), ps⟩) hok.out hx
        have HS := hide_ (kidL_succ (X := X) (k := 6) (el := (ej : Int)) hx)
        have hkl := kidL_len X 6 (ej : Int) (ps.take m)
        rw [List.length_take] at hkl
        generalize ps[m]'hlt = p at *
        obtain ⟨lb, tg, ty⟩ := p
        simp only at hpr HS
        obtain ⟨ej, rfl⟩ := Int.eq_ofNat_of_zero_le hpr.1
        have hejX : ej < X.length := by omega
        have hejX' : (ej : Int) < X.length := by omega
        have i0 := hcx 0 (by decide); have i1 := hcx 1 (by decide); have i2 := hcx 2 (by decide)
        simp [ptc] at i0 i1 i2
        clear hc hx hcx hpr
        have kp := Blk.newA wq #[.string lb, .int .i64 tg, .int .i64 (ej : Int)] 64
        have hBx := below1 wq (.cells #[.string lb, .int .i64 tg, .int .i64 (ej : Int)] 64)
        obtain ⟨wy, hwy⟩ : ∃ wy, wy = wq.alloc (.cells #[.string lb, .int .i64 tg, .int .i64 (ej : Int)] 64) := ⟨_, rfl⟩
        rw [← hwy] at kp hBx
        have HBy := hide_ (HB1.out.trans (hBx.mono HB1.out.size))
        have HOy := hide_ (HO1.out.later hBx)
        have y2 := kp.cell 2
        simp at y2
        obtain ⟨bx', ox', hax, hbx, hcX⟩ := (hX.out.later HBy.out).open (by omega)
        injection hax with hax
        injection hax with e1 e2 _
        subst e1 e2
        have hcy := hcX ej _ (exAt_at hejX)
        generalize exAt X (ej : Int) = x at *
        have x0 := hcy 0 (by decide); have x1 := hcy 1 (by decide); have x2 := hcy 2 (by decide); have x3 := hcy 3 (by decide)
        simp [exc] at x0 x1 x2 x3
        obtain ⟨v', w', hrun, hO', hB'⟩ := HOy.out.push x (by omega) HBy.out.size
        rw [← HS.out] at hO'
        have HRun := hide_ hrun
        have HO' := hide_ hO'
        have HB' := hide_ (HBy.out.trans hB')
        clear hrun hO' hB' kp hBx hcX hcy HOy HBy HO1 HB1 hbx hb
        go_upto_region 10 with fail
        rw [← hwy]
        clear hwy i0 i1 i2
        go_wp2_with (first | (at_builtin; refine wpList_append_run rfl (.tmp 29) (.tmp 35) 29 29 rfl rfl rfl HRun.out ?_; clear HRun))
        go_roundw
        case rel => exact ⟨_, m + 1, rfl, by omega, by go_num, HO', HB'⟩
        case measure => simp [intOf]; omega
      · obtain rfl : m = ps.length := by omega
        have HV : Hid (XOwn wq w.heap.size v (kidL X 6 (ej : Int) ps)) := hide_ (by have h := HO1.out; rw [List.take_length] at h; exact h)
        go_wp2
        go_ret
        exact ⟨_, rfl, HV, HB1⟩
  have c6 : (k == 6) = false := by simpa using h6
  have HHE : Hid (hasE k = false) := hide_ (decide_eq_false (by omega))
  have HO : Hid (XOwn w0 w.heap.size (.slice none 0 0) (kidL X k el (ps.take 0))) := hide_ (by
    have e : kidL X k el (ps.take 0) = [] := by unfold kidL; rw [HHE.out]; simp
    rw [e]; exact XOwn.nil _ _)
  have HBw := HB0
  have HBk := hide_ (Below.refl w0.heap.size w0)
  go_upto_region 7 with fail
  have kt := (HK0.out.later HBk.out).cell 3
  simp at kt
  clear i0 i2 i3
  go_wp2_with fail
  go_loopw [5, 25] (fun x5 x25 wr => ∃ (v : Value) (m : Nat), v = x5 ∧ m ≤ ps.length ∧ x25 = .int .i64 (m : Int) ∧ Hid (XOwn wr w.heap.size v (kidL X k el (ps.take m))) ∧ Hid (Below w.heap.size w wr)) (fun _ x25 _ => ps.length - (intOf x25).toNat)
  case atStart => exact ⟨_, 0, rfl, Nat.zero_le _, rfl, HO, HBw⟩
  case round =>
    obtain ⟨v, m, rfl, hm, rfl, HO1, HB1⟩ := hrel
    generalize wr = wq at *
    clear HO HBw HBk kt
    by_cases hlt : m < ps.length
    · have hlt' : (m : Int) < ps.length := by omega
      obtain ⟨b, o, rfl, hb, hc⟩ := (hP.out.later HB1.out).open (by omega)
      have hx : ps[m]? = some (ps[m]'hlt) := List.getElem?_eq_getElem hlt
      have hcx := hc m _ hx
      have hpr := tyOk_part (t := ⟨k, n, el, ps⟩) hok.out hx
      have HS := hide_ (kidL_succ (X := X) (k := k) (el := el) hx)
      have hkl := kidL_len X k el (ps.take m)
      rw [List.length_take] at hkl
      generalize ps[m]'hlt = p at *
      obtain ⟨lb, tg, ty⟩ := p
      simp only at hpr HS
      obtain ⟨ej, rfl⟩ := Int.eq_ofNat_of_zero_le hpr.1
      have hejX : ej < X.length := by omega
      have hejX' : (ej : Int) < X.length := by omega
      have i0 := hcx 0 (by decide); have i1 := hcx 1 (by decide); have i2 := hcx 2 (by decide)
      simp [ptc] at i0 i1 i2
      clear hc hx hcx hpr
      have kp := Blk.newA wq #[.string lb, .int .i64 tg, .int .i64 (ej : Int)] 64
      have hBx := below1 wq (.cells #[.string lb, .int .i64 tg, .int .i64 (ej : Int)] 64)
      obtain ⟨wy, hwy⟩ : ∃ wy, wy = wq.alloc (.cells #[.string lb, .int .i64 tg, .int .i64 (ej : Int)] 64) := ⟨_, rfl⟩
      rw [← hwy] at kp hBx
      have HBy := hide_ (HB1.out.trans (hBx.mono HB1.out.size))
      have HOy := hide_ (HO1.out.later hBx)
      have y2 := kp.cell 2
      simp at y2
      obtain ⟨bx, ox, rfl, hbx, hcX⟩ := (hX.out.later HBy.out).open (by omega)
      have hcy := hcX ej _ (exAt_at hejX)
      generalize exAt X (ej : Int) = x at *
      have x0 := hcy 0 (by decide); have x1 := hcy 1 (by decide); have x2 := hcy 2 (by decide); have x3 := hcy 3 (by decide)
      simp [exc] at x0 x1 x2 x3
      obtain ⟨v', w', hrun, hO', hB'⟩ := HOy.out.push x (by omega) HBy.out.size
      rw [← HS.out] at hO'
      have HRun := hide_ hrun
      have HO' := hide_ hO'
      have HB' := hide_ (HBy.out.trans hB')
      clear hrun hO' hB' kp hBx hcX hcy HOy HBy HO1 HB1 hbx hb
      go_upto_region 10 with fail
      rw [← hwy]
      clear hwy i0 i1 i2
      go_wp2_with (first | (at_builtin; refine wpList_append_run rfl (.tmp 29) (.tmp 35) 29 29 rfl rfl rfl HRun.out ?_; clear HRun))
      go_roundw
      case rel => exact ⟨_, m + 1, rfl, by omega, by go_num, HO', HB'⟩
      case measure => simp [intOf]; omega
    · obtain rfl : m = ps.length := by omega
      have HV : Hid (XOwn wq w.heap.size v (kidL X k el ps)) := hide_ (by have h := HO1.out; rw [List.take_length] at h; exact h)
      go_wp2
      go_ret
      exact ⟨_, rfl, HV, HB1⟩
end Go.Proofs.Ytdpkmkhflgmioaa

/- size: row. -/
namespace Go.Proofs.Ytdpkmkhflgmioaa
open Go.RowKit
set_option linter.unusedVariables false

set_option maxRecDepth 100000 in
set_option maxHeartbeats 8000000 in
theorem row_any (a : Option Addr) (c : Nat) (l : List Ex) (w : World) (hl : l.length ≤ 9223372036854775806) (hr : Hid (XRow w a l)) :
    Calls Try.prog 47 #[.slice a l.length c] w fun e w' => e = .returned (.tuple #[.bool (rowX l).1, .int .i64 (rowX l).2.1, .int .i64 (rowX l).2.2]) ∧ Below w.heap.size w w' := by
  go_enter Try.func47, Try.ntmps47
  go_wp2_with fail
  go_loopw [2, 3, 4, 10] (fun x2 x3 x4 x10 wr => ∃ i : Nat, i ≤ l.length ∧ x10 = .int .i64 (i : Int) ∧ (∃ f d e, Hid ((f, d, e) = rowX (l.take i)) ∧ x2 = .bool f ∧ x3 = .int .i64 d ∧ x4 = .int .i64 e) ∧ Hid (Below w.heap.size w wr)) (fun _ _ _ x10 _ => l.length - (intOf x10).toNat)
  case atStart => exact ⟨0, Nat.zero_le _, rfl, ⟨true, 0, 0, hide_ rfl, rfl, rfl, rfl⟩, hide_ (Below.refl _ _)⟩
  case round =>
    obtain ⟨i, hi, rfl, ⟨f, d, e, HD, rfl, rfl, rfl⟩, HB⟩ := hrel
    generalize wr = wq at *
    by_cases hlt : i < l.length
    · have hlt' : (i : Int) < l.length := by omega
      obtain ⟨b, o, rfl, hb, hc⟩ := (hr.out.later HB.out).open (by omega)
      have hx : l[i]? = some (l[i]'hlt) := List.getElem?_eq_getElem hlt
      have hcx := hc i _ hx
      have HS := hide_ (rowX_succ hx)
      generalize l[i]'hlt = x at *
      have i0 := hcx 0 (by decide); have i1 := hcx 1 (by decide); have i2 := hcx 2 (by decide); have i3 := hcx 3 (by decide)
      simp [exc] at i0 i1 i2 i3
      rw [← HD.out] at HS
      simp only at HS
      have kx := Blk.newA wq #[.bool x.f, .int .i64 x.l, .int .i64 x.m, .int .i64 x.d] 48
      have hBx := below1 wq (.cells #[.bool x.f, .int .i64 x.l, .int .i64 x.m, .int .i64 x.d] 48)
      obtain ⟨wx, hwx⟩ : ∃ wx, wx = wq.alloc (.cells #[.bool x.f, .int .i64 x.l, .int .i64 x.m, .int .i64 x.d] 48) := ⟨_, rfl⟩
      rw [← hwx] at kx hBx
      have HBx := hide_ (below_to HB.out hBx)
      have HCon := hide_ (withOffset_any x wx)
      have j0 := kx.cell 0; have j1 := kx.cell 1; have j2 := kx.cell 2; have j3 := kx.cell 3
      simp at j0 j1 j2 j3
      clear hc hx hcx kx hBx hb
      go_upto_region 5 with fail
      rw [← hwx]
      clear hwx i0 i1 i2 i3
      generalize offX x = y at *
      obtain ⟨yf, yl, ym, yd⟩ := y
      simp only [exv] at HCon HS
      go_wp2_with fail
      refine HCon.out.mono ?_; rintro e1 w1 ⟨rfl, hB1⟩
      have ky := Blk.newA w1 #[.bool yf, .int .i64 yl, .int .i64 ym, .int .i64 yd] 48
      have hBy := below1 w1 (.cells #[.bool yf, .int .i64 yl, .int .i64 ym, .int .i64 yd] 48)
      obtain ⟨wy, hwy⟩ : ∃ wy, wy = w1.alloc (.cells #[.bool yf, .int .i64 yl, .int .i64 ym, .int .i64 yd] 48) := ⟨_, rfl⟩
      rw [← hwy] at ky hBy
      have HBy := hide_ (below_to (below_to HBx.out hB1) hBy)
      have k0 := ky.cell 0; have k1 := ky.cell 1; have k2 := ky.cell 2
      simp at k0 k1 k2
      have hsy : w1.heap.size < wy.heap.size := ky.lt
      clear ky hBy hB1 j0 j1 j2 j3 HCon
      go_upto_region 6 with fail
      rw [← hwy]
      clear hwy
      obtain ⟨pl, hpl⟩ : ∃ pl, plus2 d yl = pl := ⟨_, rfl⟩
      obtain ⟨pm, hpm⟩ : ∃ pm, plus2 e ym = pm := ⟨_, rfl⟩
      have HP1 : Hid (∀ (w : World) (g : Nat), Hid (Blk w g 3 [.int .i64 d, .int .i64 yl]) → Calls Try.prog 46 #[.slice (some ⟨g, 0, none⟩) 2 2] w fun e w' => e = .returned (.int .i64 pl) ∧ w = w') := hide_ (fun w g h => by have := plusB_any d yl w 3 g h; rwa [hpl] at this)
      have HP2 : Hid (∀ (w : World) (g : Nat), Hid (Blk w g 3 [.int .i64 e, .int .i64 ym]) → Calls Try.prog 46 #[.slice (some ⟨g, 0, none⟩) 2 2] w fun e w' => e = .returned (.int .i64 pm) ∧ w = w') := hide_ (fun w g h => by have := plusB_any e ym w 3 g h; rwa [hpm] at this)
      rw [hpl, hpm] at HS
      clear hpl hpm
      obtain ⟨fy, hfy⟩ : ∃ fy, (f && yf) = fy := ⟨_, rfl⟩
      rw [hfy] at HS
      have HFY := hide_ hfy
      clear hfy
      go_cut [2] from 15 to 20 (fun x2 wc => x2 = .bool fy ∧ wy = wc)
      case first =>
        cases f with
        | true =>
          obtain rfl : yf = fy := HFY.out
          go_wp2
          go_meet
          case rel => exact ⟨rfl, rfl⟩
        | false =>
          obtain rfl : false = fy := HFY.out
          go_wp2
          go_meet
          case rel => exact ⟨rfl, rfl⟩
      case rest =>
      obtain ⟨rfl, rfl⟩ := hcut
      have HL : Hid (∀ A B : Obj, Hid (Below w.heap.size w ((wy.alloc A).alloc B).drew)) := hide_ (fun A B => hide_ (Below.drew ((HBy.out.alloc HBy.out.size A).alloc (by have := HBy.out.size; simp; omega) B)))
      go_upto_region 7 with fail
      go_wp2_with fail
      go_region_with (first
        | (go_at_call 46; first
            | (refine (HP1.out _ _ (hide_ (by first | exact Blk.newA _ _ _ | exact (blk2 _ _ _ _ _).1 | exact (blk2 _ _ _ _ _).2))).mono ?_; rintro e w' ⟨rfl, rfl⟩)
            | (refine (HP2.out _ _ (hide_ (by first | exact Blk.newA _ _ _ | exact (blk2 _ _ _ _ _).1 | exact (blk2 _ _ _ _ _).2))).mono ?_; rintro e w' ⟨rfl, rfl⟩)))
      all_goals
        go_wp2_with fail
        go_roundw
        case rel => exact ⟨i + 1, by omega, by go_num, ⟨_, _, _, hide_ HS.out.symm, rfl, rfl, rfl⟩, HL.out _ _⟩
        case measure => simp [intOf]; omega
    · obtain rfl : i = l.length := by omega
      have HV : Hid (rowX l = (f, d, e)) := hide_ (by rw [HD.out, List.take_length])
      go_wp2
      go_ret3
      exact ⟨by rw [HV.out]; rfl, HB.out⟩
end Go.Proofs.Ytdpkmkhflgmioaa

/- size: extentOf. -/
namespace Go.Proofs.Ytdpkmkhflgmioaa
open Go.RowKit
set_option linter.unusedVariables false

def times2 (a b : Int) : Int := capH (sz a * sz b)
theorem timesB_any (a b c : Int) (w : World) (h : Hid (times2 a b = c)) : Calls Try.prog 44 #[.int .i64 a, .int .i64 b] w fun e w' => e = .returned (.int .i64 c) ∧ w = w' := by
  rw [← h.out]
  exact times_any a b w
/-- A type's extent, from those below it. -/
def ext1 (X : List Ex) (t : Ty) : Ex :=
  if t.k = 1 then ⟨true, t.n, t.n, 1 + deepX (kidL X t.k t.e t.ps)⟩ else
  if t.k = 2 then ⟨true, 1, 1, 1 + deepX (kidL X t.k t.e t.ps)⟩ else
  if t.k = 3 then ⟨false, 1, 10, 1 + deepX (kidL X t.k t.e t.ps)⟩ else
  if t.k = 4 then ⟨(offX (exAt X t.e)).f, times2 t.n (offX (exAt X t.e)).l, times2 t.n (offX (exAt X t.e)).m, 1 + deepX (kidL X t.k t.e t.ps)⟩ else
  if t.k = 5 then ⟨false, times2 0 (offX (exAt X t.e)).l, times2 t.n (offX (exAt X t.e)).m, 1 + deepX (kidL X t.k t.e t.ps)⟩ else
  if t.k = 6 then ⟨false, plus2 1 (chX (kidL X t.k t.e t.ps ++ [ex0])).1, plus2 1 (chX (kidL X t.k t.e t.ps ++ [ex0])).2, 1 + deepX (kidL X t.k t.e t.ps)⟩ else
  if t.k = 7 then ⟨false, plus2 1 (chX (kidL X t.k t.e t.ps)).1, plus2 1 (chX (kidL X t.k t.e t.ps)).2, 1 + deepX (kidL X t.k t.e t.ps)⟩ else
  ⟨(rowX (kidL X t.k t.e t.ps)).1, (rowX (kidL X t.k t.e t.ps)).2.1, (rowX (kidL X t.k t.e t.ps)).2.2, 1 + deepX (kidL X t.k t.e t.ps)⟩
theorem deepX_bd : ∀ (l : List Ex) (d : Int), 0 ≤ d ∧ d ≤ 1000000 → (∀ x ∈ l, 0 ≤ x.d ∧ x.d ≤ 1000000) → 0 ≤ l.foldl (fun d x => max d x.d) d ∧ l.foldl (fun d x => max d x.d) d ≤ 1000000
  | [], d, h, _ => h
  | x :: l, d, h, hx => by
    have h1 := hx x (by simp)
    exact deepX_bd l (max d x.d) (by omega) (fun y hy => hx y (by simp [hy]))
theorem exAt_bd {X : List Ex} (h : ∀ x ∈ X, 0 ≤ x.d ∧ x.d ≤ 1000000) (i : Int) : 0 ≤ (exAt X i).d ∧ (exAt X i).d ≤ 1000000 := by
  unfold exAt
  rcases Nat.lt_or_ge i.toNat X.length with hi | hi
  · rw [show X.getD i.toNat ex0 = X[i.toNat]'hi by simp [List.getD, hi]]
    exact h _ (List.getElem_mem hi)
  · rw [show X.getD i.toNat ex0 = ex0 by simp [List.getD, List.getElem?_eq_none hi]]
    simp [ex0]
theorem kidL_bd {X : List Ex} (h : ∀ x ∈ X, 0 ≤ x.d ∧ x.d ≤ 1000000) (k el : Int) (ps : List Pt) : 0 ≤ deepX (kidL X k el ps) ∧ deepX (kidL X k el ps) ≤ 1000000 := by
  refine deepX_bd _ 0 (by omega) (fun x hx => ?_)
  unfold kidL at hx
  rcases List.mem_append.1 hx with hx | hx
  · split at hx
    · simp at hx; subst hx; exact exAt_bd h el
    · cases hx
  · obtain ⟨p, _, rfl⟩ := List.mem_map.1 hx
    exact exAt_bd h p.ty
theorem XOwn.pushU {w : World} {B : Nat} {v : Value} {l : List Ex} (h : XOwn w B v l) (x : Ex) (hl : l.length ≤ 4000000000000) (hB : B ≤ w.heap.size) :
    ∃ v' w', (Builtin.append_ #[29, 29] 29 #[v, .slice (some ⟨w.heap.size, 0, none⟩) 1 1]).run Try.prog (w.alloc (.cells #[.bool x.f, .int .i64 x.l, .int .i64 x.m, .int .i64 x.d] 48)) = .ok v' w' ∧ XOwn w' B v' (l ++ [x]) ∧ Upd (fun k => v.ownBlock = some k) w w' := by
  obtain ⟨g, cap, w', h1, h2, h3, h4⟩ := run_pushS (P := Try.prog) (t := 29) (e := 48) (c := 4) Try.underlying29 infoX rfl (by decide) w 29 h (exc x) rfl (fun u hu => by simp [exc] at hu; rcases hu with rfl | rfl | rfl | rfl <;> rfl) (by unfold maxLen; omega) (by omega) hB
  refine ⟨_, w', h1, ?_, h3⟩
  unfold XOwn
  rw [cellsG_app, cellsG_one, List.length_append, List.length_singleton]
  exact h2
set_option maxRecDepth 100000 in
set_option maxHeartbeats 8000000 in
theorem ext1_any (n el : Int) (ps : List Pt) (va : Option Addr) (vc : Nat) (X : List Ex) (ax : Option Addr) (cx : Nat) (w : World) (hXl : X.length ≤ 10000000000000) (hbd : Hid (∀ x ∈ X, 0 ≤ x.d ∧ x.d ≤ 1000000)) (hok : Hid (tyOk ⟨1, n, el, ps⟩ X.length = true)) (hP : Hid (PRow w va ps)) (hX : Hid (XRow w ax X)) :
    Calls Try.prog 23 #[.agg #[.int .i64 1, .int .i64 n, .int .i64 el, .slice va ps.length vc], .slice ax X.length cx] w fun e w' => e = .returned (exv (ext1 X ⟨1, n, el, ps⟩)) ∧ Below w.heap.size w w' := by
  have hps := tyOk_len hok.out
  simp only at hps
  have hB := below2 w (.cells #[.int .i64 1, .int .i64 n, .int .i64 el, .slice va ps.length vc] 62) (.cells #[.bool false, .int .i64 0, .int .i64 0, .int .i64 0] 48)
  obtain ⟨k1, k2⟩ := blk2 w #[.int .i64 1, .int .i64 n, .int .i64 el, .slice va ps.length vc] #[.bool false, .int .i64 0, .int .i64 0, .int .i64 0] 62 48
  obtain ⟨w0, hw0⟩ : ∃ wx, wx = (w.alloc (.cells #[.int .i64 1, .int .i64 n, .int .i64 el, .slice va ps.length vc] 62)).alloc (.cells #[.bool false, .int .i64 0, .int .i64 0, .int .i64 0] 48) := ⟨_, rfl⟩
  rw [← hw0] at hB k1 k2
  have HB0 := hide_ hB
  have K1 := hide_ k1
  have K2 := hide_ k2
  have hs1 : w.heap.size < w0.heap.size := k1.lt
  have hs2 : w.heap.size + 1 < w0.heap.size := k2.lt
  have HCk := hide_ (kidsOf_any 1 n el ps va vc X ax cx w0 hXl hok (hide_ (hP.out.later hB)) (hide_ (hX.out.later hB)))
  have i0 := k1.cell 0; have i1 := k1.cell 1; have i2 := k1.cell 2; have i3 := k1.cell 3
  simp at i0 i1 i2 i3
  have hkl := kidL_len X 1 el ps
  have hdk := kidL_bd hbd.out 1 el ps
  obtain ⟨ks, hks⟩ : ∃ ks, kidL X 1 el ps = ks := ⟨_, rfl⟩
  rw [hks] at hkl hdk HCk
  have HKS := hide_ hks
  obtain ⟨dk, hde⟩ : ∃ dk, deepX ks = dk := ⟨_, rfl⟩
  rw [hde] at hdk
  have HDE := hide_ hde
  clear hB k1 k2 hks hde
  have HV : Hid (ext1 X ⟨1, n, el, ps⟩ = ⟨true, n, n, 1 + dk⟩) := hide_ (by
    unfold ext1
    simp only
    rw [HKS.out, HDE.out]
    simp)
  go_enter Try.func23, Try.ntmps23
  go_upto_region 1 with fail
  rw [← hw0]
  clear hw0
  go_wp2_with fail
  refine HCk.out.mono ?_; rintro e w1 ⟨vk, rfl, HO1, HB1⟩
  obtain ⟨ak, ck, hvk, -, -, hXk⟩ := HO1.out.row
  subst hvk
  have HXk := hide_ hXk
  have HCd : Hid (Calls Try.prog 42 #[.slice ak ks.length ck] w1 fun e w' => e = .returned (.int .i64 dk) ∧ Below w1.heap.size w1 w') := hide_ (by have h := deepest_any ak ck ks w1 (by omega) HXk; rwa [HDE.out] at h)
  clear hXk HCk i0 i1 i2 i3
  go_wp2_with fail
  refine HCd.out.mono ?_; rintro e w2 ⟨rfl, hB2⟩
  have hwr : wrap64 (1 + dk) = 1 + dk := w64 _ (by omega)
  have kO := Blk.newA w2 #[.bool false, .int .i64 0, .int .i64 0, .int .i64 (1 + dk)] 48
  have hB3 := below1 w2 (.cells #[.bool false, .int .i64 0, .int .i64 0, .int .i64 (1 + dk)] 48)
  obtain ⟨w3, hw3⟩ : ∃ wx, wx = w2.alloc (.cells #[.bool false, .int .i64 0, .int .i64 0, .int .i64 (1 + dk)] 48) := ⟨_, rfl⟩
  rw [← hw3] at kO hB3
  have hB13 : Below w1.heap.size w1 w3 := below_to hB2 hB3
  have HB3 := hide_ (below_to HB1.out hB13)
  have HO3 := hide_ (HO1.out.later hB13)
  have hg2 : w0.heap.size ≤ w2.heap.size := Nat.le_trans HB1.out.size hB2.size
  have Hown : Hid (∀ k, (Value.slice ak ks.length ck).ownBlock = some k → k < w2.heap.size) := hide_ (fun k hk => Nat.lt_of_lt_of_le (HO1.out.lt k hk).2 hB2.size)
  have k1 := K1.out.later HB3.out
  have i0 := k1.cell 0; have i1 := k1.cell 1
  simp at i0 i1
  clear hB2 HCd HXk HO1
  go_upto_region 3 with fail
  rw [← hw3]
  clear hw3 hB13 hB3
  go_quiet (fail)
  have K1q := hide_ (k1.drewN nq)
  have KOq := hide_ (kO.drewN nq)
  have K2q := hide_ ((K2.out.later HB3.out).drewN nq)
  have HBq := hide_ (below_drewN HB3.out nq)
  have HOq := hide_ (HO3.out.later (below_drewN (Below.refl _ w3) nq))
  clear k1 kO i0 i1 HB3 HO3 K1 K2
  obtain ⟨g, hg⟩ : ∃ g, w2.heap.size = g := ⟨_, rfl⟩
  rw [hg] at KOq hg2 Hown
  generalize w3.drewN nq = w4 at *
  have k1 := K1q.out; have kO := KOq.out; have k2 := K2q.out
  have i0 := k1.cell 0; have i1 := k1.cell 1
  have j0 := kO.cell 0; have j1 := kO.cell 1; have j2 := kO.cell 2; have j3 := kO.cell 3
  simp at i0 i1 j0 j1 j2 j3
  have f1 := fun i => kO.frozen i
  have HBw := hide_ (below_to HB0.out HBq.out)
  clear k1 kO k2
  try rw [hg]
  clear hg
  have HKs := hide_ (by have h := (((KOq.out.set 0 (.bool true)).set 1 (.int .i64 n)).set 2 (.int .i64 n)); simpa using h)
  have HRs := hide_ ((((K2q.out.other ⟨g, 0, none⟩ (.bool true) (by show w.heap.size + 1 ≠ g; omega)).other ⟨g, 1, none⟩ (.int .i64 n) (by show w.heap.size + 1 ≠ g; omega)).other ⟨g, 2, none⟩ (.int .i64 n) (by show w.heap.size + 1 ≠ g; omega)))
  have HBs := hide_ ((below_set (below_set (below_set HBw.out g 0 (.bool true) (by omega)) g 1 (.int .i64 n) (by omega)) g 2 (.int .i64 n) (by omega)))
  obtain ⟨ws, hws⟩ : ∃ ws, ws = (((w4.setCell ⟨g, 0, none⟩ (.bool true)).setCell ⟨g, 1, none⟩ (.int .i64 n)).setCell ⟨g, 2, none⟩ (.int .i64 n)) := ⟨_, rfl⟩
  rw [← hws] at HKs HRs HBs
  go_upto_region 24 with (fail)
  rw [← hws]
  clear hws i0 i1 j0 j1 j2 j3 f1
  have i0 := HKs.out.cell 0; have i1 := HKs.out.cell 1; have i2 := HKs.out.cell 2; have i3 := HKs.out.cell 3
  have j0 := HRs.out.cell 0; have j1 := HRs.out.cell 1; have j2 := HRs.out.cell 2; have j3 := HRs.out.cell 3
  simp at i0 i1 i2 i3 j0 j1 j2 j3
  have f1 := fun i => HRs.out.frozen i
  have HK := hide_ (wr4 HRs.out (.bool true) (.int .i64 n) (.int .i64 n) (.int .i64 (1 + dk)))
  have HBf := hide_ (below_wr4 HBs.out (w.heap.size + 1) (by omega) (.bool true) (.int .i64 n) (.int .i64 n) (.int .i64 (1 + dk)))
  go_wp2
  refine retX (x := ⟨true, n, n, 1 + dk⟩) rfl rfl HK.out ⟨by rw [HV.out], HBf.out⟩
set_option maxRecDepth 100000 in
set_option maxHeartbeats 8000000 in
theorem ext2_any (n el : Int) (ps : List Pt) (va : Option Addr) (vc : Nat) (X : List Ex) (ax : Option Addr) (cx : Nat) (w : World) (hXl : X.length ≤ 10000000000000) (hbd : Hid (∀ x ∈ X, 0 ≤ x.d ∧ x.d ≤ 1000000)) (hok : Hid (tyOk ⟨2, n, el, ps⟩ X.length = true)) (hP : Hid (PRow w va ps)) (hX : Hid (XRow w ax X)) :
    Calls Try.prog 23 #[.agg #[.int .i64 2, .int .i64 n, .int .i64 el, .slice va ps.length vc], .slice ax X.length cx] w fun e w' => e = .returned (exv (ext1 X ⟨2, n, el, ps⟩)) ∧ Below w.heap.size w w' := by
  have hps := tyOk_len hok.out
  simp only at hps
  have hB := below2 w (.cells #[.int .i64 2, .int .i64 n, .int .i64 el, .slice va ps.length vc] 62) (.cells #[.bool false, .int .i64 0, .int .i64 0, .int .i64 0] 48)
  obtain ⟨k1, k2⟩ := blk2 w #[.int .i64 2, .int .i64 n, .int .i64 el, .slice va ps.length vc] #[.bool false, .int .i64 0, .int .i64 0, .int .i64 0] 62 48
  obtain ⟨w0, hw0⟩ : ∃ wx, wx = (w.alloc (.cells #[.int .i64 2, .int .i64 n, .int .i64 el, .slice va ps.length vc] 62)).alloc (.cells #[.bool false, .int .i64 0, .int .i64 0, .int .i64 0] 48) := ⟨_, rfl⟩
  rw [← hw0] at hB k1 k2
  have HB0 := hide_ hB
  have K1 := hide_ k1
  have K2 := hide_ k2
  have hs1 : w.heap.size < w0.heap.size := k1.lt
  have hs2 : w.heap.size + 1 < w0.heap.size := k2.lt
  have HCk := hide_ (kidsOf_any 2 n el ps va vc X ax cx w0 hXl hok (hide_ (hP.out.later hB)) (hide_ (hX.out.later hB)))
  have i0 := k1.cell 0; have i1 := k1.cell 1; have i2 := k1.cell 2; have i3 := k1.cell 3
  simp at i0 i1 i2 i3
  have hkl := kidL_len X 2 el ps
  have hdk := kidL_bd hbd.out 2 el ps
  obtain ⟨ks, hks⟩ : ∃ ks, kidL X 2 el ps = ks := ⟨_, rfl⟩
  rw [hks] at hkl hdk HCk
  have HKS := hide_ hks
  obtain ⟨dk, hde⟩ : ∃ dk, deepX ks = dk := ⟨_, rfl⟩
  rw [hde] at hdk
  have HDE := hide_ hde
  clear hB k1 k2 hks hde
  have HV : Hid (ext1 X ⟨2, n, el, ps⟩ = ⟨true, 1, 1, 1 + dk⟩) := hide_ (by
    unfold ext1
    simp only
    rw [HKS.out, HDE.out]
    simp)
  go_enter Try.func23, Try.ntmps23
  go_upto_region 1 with fail
  rw [← hw0]
  clear hw0
  go_wp2_with fail
  refine HCk.out.mono ?_; rintro e w1 ⟨vk, rfl, HO1, HB1⟩
  obtain ⟨ak, ck, hvk, -, -, hXk⟩ := HO1.out.row
  subst hvk
  have HXk := hide_ hXk
  have HCd : Hid (Calls Try.prog 42 #[.slice ak ks.length ck] w1 fun e w' => e = .returned (.int .i64 dk) ∧ Below w1.heap.size w1 w') := hide_ (by have h := deepest_any ak ck ks w1 (by omega) HXk; rwa [HDE.out] at h)
  clear hXk HCk i0 i1 i2 i3
  go_wp2_with fail
  refine HCd.out.mono ?_; rintro e w2 ⟨rfl, hB2⟩
  have hwr : wrap64 (1 + dk) = 1 + dk := w64 _ (by omega)
  have kO := Blk.newA w2 #[.bool false, .int .i64 0, .int .i64 0, .int .i64 (1 + dk)] 48
  have hB3 := below1 w2 (.cells #[.bool false, .int .i64 0, .int .i64 0, .int .i64 (1 + dk)] 48)
  obtain ⟨w3, hw3⟩ : ∃ wx, wx = w2.alloc (.cells #[.bool false, .int .i64 0, .int .i64 0, .int .i64 (1 + dk)] 48) := ⟨_, rfl⟩
  rw [← hw3] at kO hB3
  have hB13 : Below w1.heap.size w1 w3 := below_to hB2 hB3
  have HB3 := hide_ (below_to HB1.out hB13)
  have HO3 := hide_ (HO1.out.later hB13)
  have hg2 : w0.heap.size ≤ w2.heap.size := Nat.le_trans HB1.out.size hB2.size
  have Hown : Hid (∀ k, (Value.slice ak ks.length ck).ownBlock = some k → k < w2.heap.size) := hide_ (fun k hk => Nat.lt_of_lt_of_le (HO1.out.lt k hk).2 hB2.size)
  have k1 := K1.out.later HB3.out
  have i0 := k1.cell 0; have i1 := k1.cell 1
  simp at i0 i1
  clear hB2 HCd HXk HO1
  go_upto_region 3 with fail
  rw [← hw3]
  clear hw3 hB13 hB3
  go_quiet (fail)
  have K1q := hide_ (k1.drewN nq)
  have KOq := hide_ (kO.drewN nq)
  have K2q := hide_ ((K2.out.later HB3.out).drewN nq)
  have HBq := hide_ (below_drewN HB3.out nq)
  have HOq := hide_ (HO3.out.later (below_drewN (Below.refl _ w3) nq))
  clear k1 kO i0 i1 HB3 HO3 K1 K2
  obtain ⟨g, hg⟩ : ∃ g, w2.heap.size = g := ⟨_, rfl⟩
  rw [hg] at KOq hg2 Hown
  generalize w3.drewN nq = w4 at *
  have k1 := K1q.out; have kO := KOq.out; have k2 := K2q.out
  have i0 := k1.cell 0; have i1 := k1.cell 1
  have j0 := kO.cell 0; have j1 := kO.cell 1; have j2 := kO.cell 2; have j3 := kO.cell 3
  simp at i0 i1 j0 j1 j2 j3
  have f1 := fun i => kO.frozen i
  have HBw := hide_ (below_to HB0.out HBq.out)
  clear k1 kO k2
  try rw [hg]
  clear hg
  have HKs := hide_ (by have h := (((KOq.out.set 0 (.bool true)).set 1 (.int .i64 1)).set 2 (.int .i64 1)); simpa using h)
  have HRs := hide_ ((((K2q.out.other ⟨g, 0, none⟩ (.bool true) (by show w.heap.size + 1 ≠ g; omega)).other ⟨g, 1, none⟩ (.int .i64 1) (by show w.heap.size + 1 ≠ g; omega)).other ⟨g, 2, none⟩ (.int .i64 1) (by show w.heap.size + 1 ≠ g; omega)))
  have HBs := hide_ ((below_set (below_set (below_set HBw.out g 0 (.bool true) (by omega)) g 1 (.int .i64 1) (by omega)) g 2 (.int .i64 1) (by omega)))
  obtain ⟨ws, hws⟩ : ∃ ws, ws = (((w4.setCell ⟨g, 0, none⟩ (.bool true)).setCell ⟨g, 1, none⟩ (.int .i64 1)).setCell ⟨g, 2, none⟩ (.int .i64 1)) := ⟨_, rfl⟩
  rw [← hws] at HKs HRs HBs
  go_upto_region 24 with (fail)
  rw [← hws]
  clear hws i0 i1 j0 j1 j2 j3 f1
  have i0 := HKs.out.cell 0; have i1 := HKs.out.cell 1; have i2 := HKs.out.cell 2; have i3 := HKs.out.cell 3
  have j0 := HRs.out.cell 0; have j1 := HRs.out.cell 1; have j2 := HRs.out.cell 2; have j3 := HRs.out.cell 3
  simp at i0 i1 i2 i3 j0 j1 j2 j3
  have f1 := fun i => HRs.out.frozen i
  have HK := hide_ (wr4 HRs.out (.bool true) (.int .i64 1) (.int .i64 1) (.int .i64 (1 + dk)))
  have HBf := hide_ (below_wr4 HBs.out (w.heap.size + 1) (by omega) (.bool true) (.int .i64 1) (.int .i64 1) (.int .i64 (1 + dk)))
  go_wp2
  refine retX (x := ⟨true, 1, 1, 1 + dk⟩) rfl rfl HK.out ⟨by rw [HV.out], HBf.out⟩
set_option maxRecDepth 100000 in
set_option maxHeartbeats 8000000 in
theorem ext3_any (n el : Int) (ps : List Pt) (va : Option Addr) (vc : Nat) (X : List Ex) (ax : Option Addr) (cx : Nat) (w : World) (hXl : X.length ≤ 10000000000000) (hbd : Hid (∀ x ∈ X, 0 ≤ x.d ∧ x.d ≤ 1000000)) (hok : Hid (tyOk ⟨3, n, el, ps⟩ X.length = true)) (hP : Hid (PRow w va ps)) (hX : Hid (XRow w ax X)) :
    Calls Try.prog 23 #[.agg #[.int .i64 3, .int .i64 n, .int .i64 el, .slice va ps.length vc], .slice ax X.length cx] w fun e w' => e = .returned (exv (ext1 X ⟨3, n, el, ps⟩)) ∧ Below w.heap.size w w' := by
  have hps := tyOk_len hok.out
  simp only at hps
  have hB := below2 w (.cells #[.int .i64 3, .int .i64 n, .int .i64 el, .slice va ps.length vc] 62) (.cells #[.bool false, .int .i64 0, .int .i64 0, .int .i64 0] 48)
  obtain ⟨k1, k2⟩ := blk2 w #[.int .i64 3, .int .i64 n, .int .i64 el, .slice va ps.length vc] #[.bool false, .int .i64 0, .int .i64 0, .int .i64 0] 62 48
  obtain ⟨w0, hw0⟩ : ∃ wx, wx = (w.alloc (.cells #[.int .i64 3, .int .i64 n, .int .i64 el, .slice va ps.length vc] 62)).alloc (.cells #[.bool false, .int .i64 0, .int .i64 0, .int .i64 0] 48) := ⟨_, rfl⟩
  rw [← hw0] at hB k1 k2
  have HB0 := hide_ hB
  have K1 := hide_ k1
  have K2 := hide_ k2
  have hs1 : w.heap.size < w0.heap.size := k1.lt
  have hs2 : w.heap.size + 1 < w0.heap.size := k2.lt
  have HCk := hide_ (kidsOf_any 3 n el ps va vc X ax cx w0 hXl hok (hide_ (hP.out.later hB)) (hide_ (hX.out.later hB)))
  have i0 := k1.cell 0; have i1 := k1.cell 1; have i2 := k1.cell 2; have i3 := k1.cell 3
  simp at i0 i1 i2 i3
  have hkl := kidL_len X 3 el ps
  have hdk := kidL_bd hbd.out 3 el ps
  obtain ⟨ks, hks⟩ : ∃ ks, kidL X 3 el ps = ks := ⟨_, rfl⟩
  rw [hks] at hkl hdk HCk
  have HKS := hide_ hks
  obtain ⟨dk, hde⟩ : ∃ dk, deepX ks = dk := ⟨_, rfl⟩
  rw [hde] at hdk
  have HDE := hide_ hde
  clear hB k1 k2 hks hde
  have HV : Hid (ext1 X ⟨3, n, el, ps⟩ = ⟨false, 1, 10, 1 + dk⟩) := hide_ (by
    unfold ext1
    simp only
    rw [HKS.out, HDE.out]
    simp)
  go_enter Try.func23, Try.ntmps23
  go_upto_region 1 with fail
  rw [← hw0]
  clear hw0
  go_wp2_with fail
  refine HCk.out.mono ?_; rintro e w1 ⟨vk, rfl, HO1, HB1⟩
  obtain ⟨ak, ck, hvk, -, -, hXk⟩ := HO1.out.row
  subst hvk
  have HXk := hide_ hXk
  have HCd : Hid (Calls Try.prog 42 #[.slice ak ks.length ck] w1 fun e w' => e = .returned (.int .i64 dk) ∧ Below w1.heap.size w1 w') := hide_ (by have h := deepest_any ak ck ks w1 (by omega) HXk; rwa [HDE.out] at h)
  clear hXk HCk i0 i1 i2 i3
  go_wp2_with fail
  refine HCd.out.mono ?_; rintro e w2 ⟨rfl, hB2⟩
  have hwr : wrap64 (1 + dk) = 1 + dk := w64 _ (by omega)
  have kO := Blk.newA w2 #[.bool false, .int .i64 0, .int .i64 0, .int .i64 (1 + dk)] 48
  have hB3 := below1 w2 (.cells #[.bool false, .int .i64 0, .int .i64 0, .int .i64 (1 + dk)] 48)
  obtain ⟨w3, hw3⟩ : ∃ wx, wx = w2.alloc (.cells #[.bool false, .int .i64 0, .int .i64 0, .int .i64 (1 + dk)] 48) := ⟨_, rfl⟩
  rw [← hw3] at kO hB3
  have hB13 : Below w1.heap.size w1 w3 := below_to hB2 hB3
  have HB3 := hide_ (below_to HB1.out hB13)
  have HO3 := hide_ (HO1.out.later hB13)
  have hg2 : w0.heap.size ≤ w2.heap.size := Nat.le_trans HB1.out.size hB2.size
  have Hown : Hid (∀ k, (Value.slice ak ks.length ck).ownBlock = some k → k < w2.heap.size) := hide_ (fun k hk => Nat.lt_of_lt_of_le (HO1.out.lt k hk).2 hB2.size)
  have k1 := K1.out.later HB3.out
  have i0 := k1.cell 0; have i1 := k1.cell 1
  simp at i0 i1
  clear hB2 HCd HXk HO1
  go_upto_region 3 with fail
  rw [← hw3]
  clear hw3 hB13 hB3
  go_quiet (fail)
  have K1q := hide_ (k1.drewN nq)
  have KOq := hide_ (kO.drewN nq)
  have K2q := hide_ ((K2.out.later HB3.out).drewN nq)
  have HBq := hide_ (below_drewN HB3.out nq)
  have HOq := hide_ (HO3.out.later (below_drewN (Below.refl _ w3) nq))
  clear k1 kO i0 i1 HB3 HO3 K1 K2
  obtain ⟨g, hg⟩ : ∃ g, w2.heap.size = g := ⟨_, rfl⟩
  rw [hg] at KOq hg2 Hown
  generalize w3.drewN nq = w4 at *
  have k1 := K1q.out; have kO := KOq.out; have k2 := K2q.out
  have i0 := k1.cell 0; have i1 := k1.cell 1
  have j0 := kO.cell 0; have j1 := kO.cell 1; have j2 := kO.cell 2; have j3 := kO.cell 3
  simp at i0 i1 j0 j1 j2 j3
  have f1 := fun i => kO.frozen i
  have HBw := hide_ (below_to HB0.out HBq.out)
  clear k1 kO k2
  try rw [hg]
  clear hg
  have HKs := hide_ (by have h := ((KOq.out.set 1 (.int .i64 1)).set 2 (.int .i64 10)); simpa using h)
  have HRs := hide_ (((K2q.out.other ⟨g, 1, none⟩ (.int .i64 1) (by show w.heap.size + 1 ≠ g; omega)).other ⟨g, 2, none⟩ (.int .i64 10) (by show w.heap.size + 1 ≠ g; omega)))
  have HBs := hide_ ((below_set (below_set HBw.out g 1 (.int .i64 1) (by omega)) g 2 (.int .i64 10) (by omega)))
  obtain ⟨ws, hws⟩ : ∃ ws, ws = ((w4.setCell ⟨g, 1, none⟩ (.int .i64 1)).setCell ⟨g, 2, none⟩ (.int .i64 10)) := ⟨_, rfl⟩
  rw [← hws] at HKs HRs HBs
  go_upto_region 24 with (fail)
  rw [← hws]
  clear hws i0 i1 j0 j1 j2 j3 f1
  have i0 := HKs.out.cell 0; have i1 := HKs.out.cell 1; have i2 := HKs.out.cell 2; have i3 := HKs.out.cell 3
  have j0 := HRs.out.cell 0; have j1 := HRs.out.cell 1; have j2 := HRs.out.cell 2; have j3 := HRs.out.cell 3
  simp at i0 i1 i2 i3 j0 j1 j2 j3
  have f1 := fun i => HRs.out.frozen i
  have HK := hide_ (wr4 HRs.out (.bool false) (.int .i64 1) (.int .i64 10) (.int .i64 (1 + dk)))
  have HBf := hide_ (below_wr4 HBs.out (w.heap.size + 1) (by omega) (.bool false) (.int .i64 1) (.int .i64 10) (.int .i64 (1 + dk)))
  go_wp2
  refine retX (x := ⟨false, 1, 10, 1 + dk⟩) rfl rfl HK.out ⟨by rw [HV.out], HBf.out⟩
end Go.Proofs.Ytdpkmkhflgmioaa

/- size: extentOf, of a vector. -/
namespace Go.Proofs.Ytdpkmkhflgmioaa
open Go.RowKit
set_option linter.unusedVariables false

set_option maxRecDepth 100000 in
set_option maxHeartbeats 8000000 in
theorem ext4_any (n el : Int) (ps : List Pt) (va : Option Addr) (vc : Nat) (X : List Ex) (ax : Option Addr) (cx : Nat) (w : World) (hXl : X.length ≤ 10000000000000) (hbd : Hid (∀ x ∈ X, 0 ≤ x.d ∧ x.d ≤ 1000000)) (hok : Hid (tyOk ⟨4, n, el, ps⟩ X.length = true)) (hP : Hid (PRow w va ps)) (hX : Hid (XRow w ax X)) :
    Calls Try.prog 23 #[.agg #[.int .i64 4, .int .i64 n, .int .i64 el, .slice va ps.length vc], .slice ax X.length cx] w fun e w' => e = .returned (exv (ext1 X ⟨4, n, el, ps⟩)) ∧ Below w.heap.size w w' := by
  have hps := tyOk_len hok.out
  simp only at hps
  have hB := below2 w (.cells #[.int .i64 4, .int .i64 n, .int .i64 el, .slice va ps.length vc] 62) (.cells #[.bool false, .int .i64 0, .int .i64 0, .int .i64 0] 48)
  obtain ⟨k1, k2⟩ := blk2 w #[.int .i64 4, .int .i64 n, .int .i64 el, .slice va ps.length vc] #[.bool false, .int .i64 0, .int .i64 0, .int .i64 0] 62 48
  obtain ⟨w0, hw0⟩ : ∃ wx, wx = (w.alloc (.cells #[.int .i64 4, .int .i64 n, .int .i64 el, .slice va ps.length vc] 62)).alloc (.cells #[.bool false, .int .i64 0, .int .i64 0, .int .i64 0] 48) := ⟨_, rfl⟩
  rw [← hw0] at hB k1 k2
  have HB0 := hide_ hB
  have K1 := hide_ k1
  have K2 := hide_ k2
  have hs1 : w.heap.size < w0.heap.size := k1.lt
  have hs2 : w.heap.size + 1 < w0.heap.size := k2.lt
  have HCk := hide_ (kidsOf_any 4 n el ps va vc X ax cx w0 hXl hok (hide_ (hP.out.later hB)) (hide_ (hX.out.later hB)))
  have i0 := k1.cell 0; have i1 := k1.cell 1; have i2 := k1.cell 2; have i3 := k1.cell 3
  simp at i0 i1 i2 i3
  have hkl := kidL_len X 4 el ps
  have hdk := kidL_bd hbd.out 4 el ps
  obtain ⟨ks, hks⟩ : ∃ ks, kidL X 4 el ps = ks := ⟨_, rfl⟩
  rw [hks] at hkl hdk HCk
  have HKS := hide_ hks
  obtain ⟨dk, hde⟩ : ∃ dk, deepX ks = dk := ⟨_, rfl⟩
  rw [hde] at hdk
  have HDE := hide_ hde
  clear hB k1 k2 hks hde
  have HV : Hid (ext1 X ⟨4, n, el, ps⟩ = ⟨(offX (exAt X el)).f, times2 n (offX (exAt X el)).l, times2 n (offX (exAt X el)).m, 1 + dk⟩) := hide_ (by
    unfold ext1
    simp only
    rw [HKS.out, HDE.out]
    simp)
  go_enter Try.func23, Try.ntmps23
  go_upto_region 1 with fail
  rw [← hw0]
  clear hw0
  go_wp2_with fail
  refine HCk.out.mono ?_; rintro e w1 ⟨vk, rfl, HO1, HB1⟩
  obtain ⟨ak, ck, hvk, -, -, hXk⟩ := HO1.out.row
  subst hvk
  have HXk := hide_ hXk
  have HCd : Hid (Calls Try.prog 42 #[.slice ak ks.length ck] w1 fun e w' => e = .returned (.int .i64 dk) ∧ Below w1.heap.size w1 w') := hide_ (by have h := deepest_any ak ck ks w1 (by omega) HXk; rwa [HDE.out] at h)
  clear hXk HCk i0 i1 i2 i3
  go_wp2_with fail
  refine HCd.out.mono ?_; rintro e w2 ⟨rfl, hB2⟩
  have hwr : wrap64 (1 + dk) = 1 + dk := w64 _ (by omega)
  have kO := Blk.newA w2 #[.bool false, .int .i64 0, .int .i64 0, .int .i64 (1 + dk)] 48
  have hB3 := below1 w2 (.cells #[.bool false, .int .i64 0, .int .i64 0, .int .i64 (1 + dk)] 48)
  obtain ⟨w3, hw3⟩ : ∃ wx, wx = w2.alloc (.cells #[.bool false, .int .i64 0, .int .i64 0, .int .i64 (1 + dk)] 48) := ⟨_, rfl⟩
  rw [← hw3] at kO hB3
  have hB13 : Below w1.heap.size w1 w3 := below_to hB2 hB3
  have HB3 := hide_ (below_to HB1.out hB13)
  have HO3 := hide_ (HO1.out.later hB13)
  have hg2 : w0.heap.size ≤ w2.heap.size := Nat.le_trans HB1.out.size hB2.size
  have Hown : Hid (∀ k, (Value.slice ak ks.length ck).ownBlock = some k → k < w2.heap.size) := hide_ (fun k hk => Nat.lt_of_lt_of_le (HO1.out.lt k hk).2 hB2.size)
  have k1 := K1.out.later HB3.out
  have i0 := k1.cell 0; have i1 := k1.cell 1
  simp at i0 i1
  clear hB2 HCd HXk HO1
  go_upto_region 3 with fail
  rw [← hw3]
  clear hw3 hB13 hB3
  go_quiet (fail)
  have K1q := hide_ (k1.drewN nq)
  have KOq := hide_ (kO.drewN nq)
  have K2q := hide_ ((K2.out.later HB3.out).drewN nq)
  have HBq := hide_ (below_drewN HB3.out nq)
  have HOq := hide_ (HO3.out.later (below_drewN (Below.refl _ w3) nq))
  clear k1 kO i0 i1 HB3 HO3 K1 K2
  obtain ⟨g, hg⟩ : ∃ g, w2.heap.size = g := ⟨_, rfl⟩
  rw [hg] at KOq hg2 Hown
  generalize w3.drewN nq = w4 at *
  have k1 := K1q.out; have kO := KOq.out; have k2 := K2q.out
  have i0 := k1.cell 0; have i1 := k1.cell 1
  have j0 := kO.cell 0; have j1 := kO.cell 1; have j2 := kO.cell 2; have j3 := kO.cell 3
  simp at i0 i1 j0 j1 j2 j3
  have f1 := fun i => kO.frozen i
  have HBw := hide_ (below_to HB0.out HBq.out)
  clear k1 kO k2
  try rw [hg]
  clear hg
  have hel := tyOk_elem hok.out (show hasE 4 = true from rfl)
  simp only at hel
  have hnn := (tyOk_parts hok.out).1
  simp only [nOk] at hnn
  have hn1 : 1 ≤ n := by have := of_decide_eq_true hnn; omega
  clear hnn
  have hps0 : ps = [] := by
    have h := (tyOk_parts hok.out).2.2
    simp only [partsOk] at h
    simp at h
    exact h
  have hk1 : ks = [exAt X el] := by rw [← HKS.out, hps0]; simp [kidL, hasE]
  have HV2 : Hid (ext1 X ⟨4, n, el, ps⟩ = ⟨(offX (exAt X el)).f, times2 n (offX (exAt X el)).l, times2 n (offX (exAt X el)).m, 1 + dk⟩) := HV
  obtain ⟨ak2, ck2, hvk, -, -, hXk⟩ := HOq.out.row
  injection hvk with e1 _ e3
  subst e1 e3
  obtain ⟨bx, ox, rfl, hbx, hcX⟩ := hXk.open (by rw [hk1]; simp)
  have hcy := hcX 0 (exAt X el) (by rw [hk1]; rfl)
  have x0 := hcy 0 (by decide); have x1 := hcy 1 (by decide); have x2 := hcy 2 (by decide); have x3 := hcy 3 (by decide)
  simp [exc] at x0 x1 x2 x3
  have hkl1 : (0 : Int) < (ks.length : Int) := by rw [hk1]; simp
  have HCw := hide_ (withOffset_any (exAt X el) w4)
  generalize exAt X el = x at *
  obtain ⟨xf, xl, xm, xd⟩ := x
  simp only at x0 x1 x2 x3 HCw
  clear hk1 HKS hXk hcX hcy hbx HOq Hown HV
  go_wp2_with fail
  refine HCw.out.mono ?_; rintro e w5 ⟨rfl, hB5⟩
  generalize offX ⟨xf, xl, xm, xd⟩ = y at *
  obtain ⟨yf, yl, ym, yd⟩ := y
  simp only [exv] at HV2 ⊢
  have ky := Blk.newA w5 #[.bool yf, .int .i64 yl, .int .i64 ym, .int .i64 yd] 48
  have hBy := below1 w5 (.cells #[.bool yf, .int .i64 yl, .int .i64 ym, .int .i64 yd] 48)
  obtain ⟨w6, hw6⟩ : ∃ wx, wx = w5.alloc (.cells #[.bool yf, .int .i64 yl, .int .i64 ym, .int .i64 yd] 48) := ⟨_, rfl⟩
  rw [← hw6] at ky hBy
  have hB46 : Below w4.heap.size w4 w6 := below_to hB5 hBy
  have hgy : g < w5.heap.size := Nat.lt_of_lt_of_le KOq.out.lt hB5.size
  have KO6 := hide_ (KOq.out.later hB46)
  have K26 := hide_ (K2q.out.later hB46)
  have K16 := hide_ (K1q.out.later hB46)
  have KY6 := hide_ ky
  have HB6 := hide_ (below_to HBw.out hB46)
  clear i0 i1 j0 j1 j2 j3 f1 x0 x1 x2 x3 KOq K2q K1q HBw hB5 hBy ky hB46
  obtain ⟨gy, hgyE⟩ : ∃ gy, w5.heap.size = gy := ⟨_, rfl⟩
  rw [hgyE] at KY6 hgy
  go_upto_region 18 with fail
  rw [← hw6]
  try rw [hgyE]
  clear hw6 hgyE
  have i1 := K16.out.cell 1
  have j0 := KO6.out.cell 0; have j1 := KO6.out.cell 1; have j2 := KO6.out.cell 2; have j3 := KO6.out.cell 3
  have y0 := KY6.out.cell 0; have y1 := KY6.out.cell 1; have y2 := KY6.out.cell 2
  simp at i1 j0 j1 j2 j3 y0 y1 y2
  have f1 := fun i => KO6.out.frozen i
  obtain ⟨fx, hfx⟩ : ∃ fx, yf = fx := ⟨_, rfl⟩
  have HFX := hide_ hfx
  rw [hfx] at HV2
  clear hfx
  have HKs0 : Hid (Blk (w6.setCell ⟨g, 0, none⟩ (.bool fx)) g 48 [.bool fx, .int .i64 0, .int .i64 0, .int .i64 (1 + dk)]) := hide_ (by have h := KO6.out.set 0 (.bool fx); simpa using h)
  have HRs0 : Hid (Blk (w6.setCell ⟨g, 0, none⟩ (.bool fx)) (w.heap.size + 1) 48 [.bool false, .int .i64 0, .int .i64 0, .int .i64 0]) := hide_ (K26.out.other _ _ (by show w.heap.size + 1 ≠ g; omega))
  have HTs0 : Hid (Blk (w6.setCell ⟨g, 0, none⟩ (.bool fx)) w.heap.size 62 [.int .i64 4, .int .i64 n, .int .i64 el, .slice va ps.length vc]) := hide_ (K16.out.other _ _ (by show w.heap.size ≠ g; omega))
  have HYs0 : Hid (Blk (w6.setCell ⟨g, 0, none⟩ (.bool fx)) gy 48 [.bool yf, .int .i64 yl, .int .i64 ym, .int .i64 yd]) := hide_ (KY6.out.other _ _ (by show gy ≠ g; omega))
  have HBs0 := hide_ (below_set HB6.out g 0 (.bool fx) (by omega))
  go_cut [] from 51 to 60 (fun wc => ∃ w7, w7 = wc ∧ Hid (w7 = w6.setCell ⟨g, 0, none⟩ (.bool fx)))
  case first =>
    cases yf with
    | true =>
      obtain rfl : true = fx := by rw [← HFX.out]
      go_wp2
      go_meet
      case rel => exact ⟨_, rfl, hide_ rfl⟩
    | false =>
      obtain rfl : false = fx := HFX.out
      go_wp2
      go_meet
      case rel => exact ⟨_, rfl, hide_ rfl⟩
  case rest =>
  obtain ⟨w7, rfl, HW7⟩ := hcut
  rw [← HW7.out] at HKs0 HRs0 HTs0 HYs0 HBs0
  clear i1 j0 j1 j2 j3 y0 y1 y2 f1 KO6 K26 K16 KY6 HB6
  obtain ⟨pl, hpl⟩ : ∃ pl, times2 n yl = pl := ⟨_, rfl⟩
  obtain ⟨pm, hpm⟩ : ∃ pm, times2 n ym = pm := ⟨_, rfl⟩
  rw [hpl, hpm] at HV2
  have HV := HV2
  have HP1 := hide_ hpl
  have HP2 := hide_ hpm
  have i1 := HTs0.out.cell 1
  have j0 := HKs0.out.cell 0; have j1 := HKs0.out.cell 1; have j2 := HKs0.out.cell 2; have j3 := HKs0.out.cell 3
  have y1 := HYs0.out.cell 1; have y2 := HYs0.out.cell 2
  simp at i1 j0 j1 j2 j3 y1 y2
  have f1 := fun i => HKs0.out.frozen i
  clear hpl hpm HW7
  go_upto_region 19 with fail
  go_cut [] from 60 to 71 (fun wc => ∃ w8, w8 = wc ∧ Hid (Blk w8 g 48 [.bool fx, .int .i64 pl, .int .i64 pm, .int .i64 (1 + dk)]) ∧ Hid (Blk w8 (w.heap.size + 1) 48 [.bool false, .int .i64 0, .int .i64 0, .int .i64 0]) ∧ Hid (Below w.heap.size w w8))
  case first =>
    have HL : Hid (∀ v1 v2 : Value × Nat, (v1 = (.int .i64 pl, 1) ∧ v2 = (.int .i64 pm, 2)) ∨ (v2 = (.int .i64 pl, 1) ∧ v1 = (.int .i64 pm, 2)) → (Hid (Blk ((w7.setCell ⟨g, v1.2, none⟩ v1.1).setCell ⟨g, v2.2, none⟩ v2.1).drew g 48 [.bool fx, .int .i64 pl, .int .i64 pm, .int .i64 (1 + dk)]) ∧ Hid (Blk ((w7.setCell ⟨g, v1.2, none⟩ v1.1).setCell ⟨g, v2.2, none⟩ v2.1).drew (w.heap.size + 1) 48 [.bool false, .int .i64 0, .int .i64 0, .int .i64 0]) ∧ Hid (Below w.heap.size w ((w7.setCell ⟨g, v1.2, none⟩ v1.1).setCell ⟨g, v2.2, none⟩ v2.1).drew))) := hide_ (fun v1 v2 hv => by
      refine ⟨hide_ (Blk.drew ?_), hide_ (Blk.drew ?_), hide_ (Below.drew (below_set (below_set HBs0.out _ _ _ (by omega)) _ _ _ (by omega)))⟩
      · rcases hv with ⟨rfl, rfl⟩ | ⟨rfl, rfl⟩
        · have h := ((HKs0.out.set 1 (.int .i64 pl)).set 2 (.int .i64 pm))
          simpa using h
        · have h := ((HKs0.out.set 2 (.int .i64 pm)).set 1 (.int .i64 pl))
          simpa using h
      · exact (HRs0.out.other _ _ (by show w.heap.size + 1 ≠ g; omega)).other _ _ (by show w.heap.size + 1 ≠ g; omega))
    have HSt : Hid (∀ (o : Nat) (v : Value), (fun w' => w'.cell? ⟨gy, 1, none⟩ = some (.int .i64 yl) ∧ w'.cell? ⟨gy, 2, none⟩ = some (.int .i64 ym) ∧ w'.cell? ⟨w.heap.size, 1, none⟩ = some (.int .i64 n)) (w7.setCell ⟨g, o, none⟩ v).drew) := hide_ (fun o v => by
      exact ⟨(HYs0.out.other ⟨g, o, none⟩ v (by show gy ≠ g; omega)).drew.cell 1, (HYs0.out.other ⟨g, o, none⟩ v (by show gy ≠ g; omega)).drew.cell 2, (HTs0.out.other ⟨g, o, none⟩ v (by show w.heap.size ≠ g; omega)).drew.cell 1⟩)
    have HSt2 : Hid (∀ (o : Nat) (v : Value) (o2 : Nat) (v2 : Value), (fun w' => w'.cell? ⟨gy, 1, none⟩ = some (.int .i64 yl) ∧ w'.cell? ⟨gy, 2, none⟩ = some (.int .i64 ym) ∧ w'.cell? ⟨w.heap.size, 1, none⟩ = some (.int .i64 n)) ((w7.setCell ⟨g, o, none⟩ v).setCell ⟨g, o2, none⟩ v2).drew) := hide_ (fun o v o2 v2 => by
      exact ⟨((HYs0.out.other ⟨g, o, none⟩ v (by show gy ≠ g; omega)).other ⟨g, o2, none⟩ v2 (by show gy ≠ g; omega)).drew.cell 1, ((HYs0.out.other ⟨g, o, none⟩ v (by show gy ≠ g; omega)).other ⟨g, o2, none⟩ v2 (by show gy ≠ g; omega)).drew.cell 2, ((HTs0.out.other ⟨g, o, none⟩ v (by show w.heap.size ≠ g; omega)).other ⟨g, o2, none⟩ v2 (by show w.heap.size ≠ g; omega)).drew.cell 1⟩)
    go_wp2_with fail
    refine wp_region_held_drew (S := (fun w' => w'.cell? ⟨gy, 1, none⟩ = some (.int .i64 yl) ∧ w'.cell? ⟨gy, 2, none⟩ = some (.int .i64 ym) ∧ w'.cell? ⟨w.heap.size, 1, none⟩ = some (.int .i64 n))) (by kernel_rfl) (⟨y1, y2, i1⟩) (fun hHeld => ?_)
    refine wpAnyH_take (i := 0) (v := ?vq1) rfl (by kernel_rfl) (by kernel_rfl) (by kernel_rfl) (fun _ _ _ h => h) (Or.inl ⟨by rfl, ?hyq1⟩) hHeld ?restq1
    case hyq1 => intro w' hSw; (try dsimp only at hSw); go_simp; try with_reducible rfl
    simp only [Act.put]
    refine wpAnyH_take (i := 1) (v := ?vq2) rfl (by kernel_rfl) (by kernel_rfl) (by kernel_rfl) (fun _ _ _ h => h) (Or.inl ⟨by rfl, ?hyq2⟩) hHeld ?restq2
    case hyq2 => intro w' hSw; (try dsimp only at hSw); go_simp; try with_reducible rfl
    simp only [Act.put]
    refine wpAnyH_take (i := 2) (v := ?vq3) rfl (by kernel_rfl) (by kernel_rfl) (by kernel_rfl) (fun _ _ _ h => h) (Or.inl ⟨by rfl, ?hyq3⟩) hHeld ?restq3
    case hyq3 => intro w' hSw; (try dsimp only at hSw); go_simp; try with_reducible rfl
    simp only [Act.put]
    refine wpAnyH_take (i := 4) (v := ?vq4) rfl (by kernel_rfl) (by kernel_rfl) (by kernel_rfl) (fun _ _ _ h => h) (Or.inl ⟨by rfl, ?hyq4⟩) hHeld ?restq4
    case hyq4 => intro w' hSw; (try dsimp only at hSw); go_simp; try with_reducible rfl
    simp only [Act.put]
    refine wpAnyH_take (i := 5) (v := ?vq5) rfl (by kernel_rfl) (by kernel_rfl) (by kernel_rfl) (fun _ _ _ h => h) (Or.inl ⟨by rfl, ?hyq5⟩) hHeld ?restq5
    case hyq5 => intro w' hSw; (try dsimp only at hSw); go_simp; try with_reducible rfl
    simp only [Act.put]
    refine wpAnyH_take (i := 6) (v := ?vq6) rfl (by kernel_rfl) (by kernel_rfl) (by kernel_rfl) (fun _ _ _ h => h) (Or.inl ⟨by rfl, ?hyq6⟩) hHeld ?restq6
    case hyq6 => intro w' hSw; (try dsimp only at hSw); go_simp; try with_reducible rfl
    simp only [Act.put]
    refine wpAnyH_take (i := 7) (v := ?vq7) rfl (by kernel_rfl) (by kernel_rfl) (by kernel_rfl) (fun _ _ _ h => h) (Or.inl ⟨by rfl, ?hyq7⟩) hHeld ?restq7
    case hyq7 => intro w' hSw; (try dsimp only at hSw); go_simp; try with_reducible rfl
    simp only [Act.put]
    refine wpAnyH_ready (rs := [3]) (by kernel_rfl) (by simp) ?_
    refine AllReadyH.cons rfl (fun K hK => ?_) AllReadyH.nil
    go_simp
    refine (timesB_any _ _ _ _ HP1).mono ?_
    rintro e w' ⟨rfl, rfl⟩
    dsimp only
    refine hK.out _ _ (⟨y1, y2, i1⟩) (fun hHeld => ?_)
    clear hK K
    refine wpAnyH_take (i := 9) (v := ?vz01) rfl (by kernel_rfl) (by kernel_rfl) (by kernel_rfl) (fun _ _ _ h => h) (Or.inl ⟨by rfl, ?hyz01⟩) hHeld ?restz01
    case hyz01 => intro w' hSw; (try dsimp only at hSw); go_simp; try with_reducible rfl
    simp only [Act.put]
    refine wpAnyH_ready (rs := [8]) (by kernel_rfl) (by simp) ?_
    refine AllReadyH.cons rfl (fun K hK => ?_) AllReadyH.nil
    go_simp
    refine (timesB_any _ _ _ _ HP2).mono ?_
    rintro e w' ⟨rfl, rfl⟩
    dsimp only
    refine hK.out _ _ (⟨y1, y2, i1⟩) (fun hHeld => ?_)
    clear hK K
    refine wpAnyH_ready (rs := [10]) (by kernel_rfl) (by simp) ?_
    refine AllReadyH.cons rfl (fun K hK => ?_) AllReadyH.nil
    go_simp
    refine hK.out _ _ (HSt.out _ _) (fun hHeld => ?_)
    clear hK K
    refine wpAnyH_take (i := 11) (v := ?vz11) rfl (by kernel_rfl) (by kernel_rfl) (by kernel_rfl) (fun _ _ _ h => h) (Or.inl ⟨by rfl, ?hyz11⟩) hHeld ?restz11
    case hyz11 => intro w' hSw; (try dsimp only at hSw); go_simp; try with_reducible rfl
    simp only [Act.put]
    refine wpAnyH_ready (rs := [12]) (by kernel_rfl) (by simp) ?_
    refine AllReadyH.cons rfl (fun K hK => ?_) AllReadyH.nil
    go_simp
    refine hK.out _ _ (HSt2.out _ _ _ _) (fun hHeld => ?_)
    clear hK K
    refine wpAnyH_done (by kernel_rfl) ?_ _
    go_wp2
    go_meet
    case rel => exact ⟨_, rfl, by first | exact HL.out (.int .i64 pl, 1) (.int .i64 pm, 2) (.inl ⟨rfl, rfl⟩) | exact HL.out (.int .i64 pm, 2) (.int .i64 pl, 1) (.inr ⟨rfl, rfl⟩)⟩
  case rest =>
  obtain ⟨w8, rfl, HKs, HRs, HBs⟩ := hcut
  clear i1 j0 j1 j2 j3 y1 y2 f1
  have i0 := HKs.out.cell 0; have i1 := HKs.out.cell 1; have i2 := HKs.out.cell 2; have i3 := HKs.out.cell 3
  have j0 := HRs.out.cell 0; have j1 := HRs.out.cell 1; have j2 := HRs.out.cell 2; have j3 := HRs.out.cell 3
  simp at i0 i1 i2 i3 j0 j1 j2 j3
  have f1 := fun i => HRs.out.frozen i
  have HK := hide_ (wr4 HRs.out (.bool fx) (.int .i64 pl) (.int .i64 pm) (.int .i64 (1 + dk)))
  have HBf := hide_ (below_wr4 HBs.out (w.heap.size + 1) (by omega) (.bool fx) (.int .i64 pl) (.int .i64 pm) (.int .i64 (1 + dk)))
  go_wp2
  refine retX (x := ⟨fx, pl, pm, 1 + dk⟩) rfl rfl HK.out ⟨by rw [HV.out], HBf.out⟩
end Go.Proofs.Ytdpkmkhflgmioaa

/- size: extentOf, of a list. -/
namespace Go.Proofs.Ytdpkmkhflgmioaa
open Go.RowKit
set_option linter.unusedVariables false

set_option maxRecDepth 100000 in
set_option maxHeartbeats 8000000 in
theorem ext5_any (n el : Int) (ps : List Pt) (va : Option Addr) (vc : Nat) (X : List Ex) (ax : Option Addr) (cx : Nat) (w : World) (hXl : X.length ≤ 10000000000000) (hbd : Hid (∀ x ∈ X, 0 ≤ x.d ∧ x.d ≤ 1000000)) (hok : Hid (tyOk ⟨5, n, el, ps⟩ X.length = true)) (hP : Hid (PRow w va ps)) (hX : Hid (XRow w ax X)) :
    Calls Try.prog 23 #[.agg #[.int .i64 5, .int .i64 n, .int .i64 el, .slice va ps.length vc], .slice ax X.length cx] w fun e w' => e = .returned (exv (ext1 X ⟨5, n, el, ps⟩)) ∧ Below w.heap.size w w' := by
  have hps := tyOk_len hok.out
  simp only at hps
  have hB := below2 w (.cells #[.int .i64 5, .int .i64 n, .int .i64 el, .slice va ps.length vc] 62) (.cells #[.bool false, .int .i64 0, .int .i64 0, .int .i64 0] 48)
  obtain ⟨k1, k2⟩ := blk2 w #[.int .i64 5, .int .i64 n, .int .i64 el, .slice va ps.length vc] #[.bool false, .int .i64 0, .int .i64 0, .int .i64 0] 62 48
  obtain ⟨w0, hw0⟩ : ∃ wx, wx = (w.alloc (.cells #[.int .i64 5, .int .i64 n, .int .i64 el, .slice va ps.length vc] 62)).alloc (.cells #[.bool false, .int .i64 0, .int .i64 0, .int .i64 0] 48) := ⟨_, rfl⟩
  rw [← hw0] at hB k1 k2
  have HB0 := hide_ hB
  have K1 := hide_ k1
  have K2 := hide_ k2
  have hs1 : w.heap.size < w0.heap.size := k1.lt
  have hs2 : w.heap.size + 1 < w0.heap.size := k2.lt
  have HCk := hide_ (kidsOf_any 5 n el ps va vc X ax cx w0 hXl hok (hide_ (hP.out.later hB)) (hide_ (hX.out.later hB)))
  have i0 := k1.cell 0; have i1 := k1.cell 1; have i2 := k1.cell 2; have i3 := k1.cell 3
  simp at i0 i1 i2 i3
  have hkl := kidL_len X 5 el ps
  have hdk := kidL_bd hbd.out 5 el ps
  obtain ⟨ks, hks⟩ : ∃ ks, kidL X 5 el ps = ks := ⟨_, rfl⟩
  rw [hks] at hkl hdk HCk
  have HKS := hide_ hks
  obtain ⟨dk, hde⟩ : ∃ dk, deepX ks = dk := ⟨_, rfl⟩
  rw [hde] at hdk
  have HDE := hide_ hde
  clear hB k1 k2 hks hde
  have HV : Hid (ext1 X ⟨5, n, el, ps⟩ = ⟨false, times2 0 (offX (exAt X el)).l, times2 n (offX (exAt X el)).m, 1 + dk⟩) := hide_ (by
    unfold ext1
    simp only
    rw [HKS.out, HDE.out]
    simp)
  go_enter Try.func23, Try.ntmps23
  go_upto_region 1 with fail
  rw [← hw0]
  clear hw0
  go_wp2_with fail
  refine HCk.out.mono ?_; rintro e w1 ⟨vk, rfl, HO1, HB1⟩
  obtain ⟨ak, ck, hvk, -, -, hXk⟩ := HO1.out.row
  subst hvk
  have HXk := hide_ hXk
  have HCd : Hid (Calls Try.prog 42 #[.slice ak ks.length ck] w1 fun e w' => e = .returned (.int .i64 dk) ∧ Below w1.heap.size w1 w') := hide_ (by have h := deepest_any ak ck ks w1 (by omega) HXk; rwa [HDE.out] at h)
  clear hXk HCk i0 i1 i2 i3
  go_wp2_with fail
  refine HCd.out.mono ?_; rintro e w2 ⟨rfl, hB2⟩
  have hwr : wrap64 (1 + dk) = 1 + dk := w64 _ (by omega)
  have kO := Blk.newA w2 #[.bool false, .int .i64 0, .int .i64 0, .int .i64 (1 + dk)] 48
  have hB3 := below1 w2 (.cells #[.bool false, .int .i64 0, .int .i64 0, .int .i64 (1 + dk)] 48)
  obtain ⟨w3, hw3⟩ : ∃ wx, wx = w2.alloc (.cells #[.bool false, .int .i64 0, .int .i64 0, .int .i64 (1 + dk)] 48) := ⟨_, rfl⟩
  rw [← hw3] at kO hB3
  have hB13 : Below w1.heap.size w1 w3 := below_to hB2 hB3
  have HB3 := hide_ (below_to HB1.out hB13)
  have HO3 := hide_ (HO1.out.later hB13)
  have hg2 : w0.heap.size ≤ w2.heap.size := Nat.le_trans HB1.out.size hB2.size
  have Hown : Hid (∀ k, (Value.slice ak ks.length ck).ownBlock = some k → k < w2.heap.size) := hide_ (fun k hk => Nat.lt_of_lt_of_le (HO1.out.lt k hk).2 hB2.size)
  have k1 := K1.out.later HB3.out
  have i0 := k1.cell 0; have i1 := k1.cell 1
  simp at i0 i1
  clear hB2 HCd HXk HO1
  go_upto_region 3 with fail
  rw [← hw3]
  clear hw3 hB13 hB3
  go_quiet (fail)
  have K1q := hide_ (k1.drewN nq)
  have KOq := hide_ (kO.drewN nq)
  have K2q := hide_ ((K2.out.later HB3.out).drewN nq)
  have HBq := hide_ (below_drewN HB3.out nq)
  have HOq := hide_ (HO3.out.later (below_drewN (Below.refl _ w3) nq))
  clear k1 kO i0 i1 HB3 HO3 K1 K2
  obtain ⟨g, hg⟩ : ∃ g, w2.heap.size = g := ⟨_, rfl⟩
  rw [hg] at KOq hg2 Hown
  generalize w3.drewN nq = w4 at *
  have k1 := K1q.out; have kO := KOq.out; have k2 := K2q.out
  have i0 := k1.cell 0; have i1 := k1.cell 1
  have j0 := kO.cell 0; have j1 := kO.cell 1; have j2 := kO.cell 2; have j3 := kO.cell 3
  simp at i0 i1 j0 j1 j2 j3
  have f1 := fun i => kO.frozen i
  have HBw := hide_ (below_to HB0.out HBq.out)
  clear k1 kO k2
  try rw [hg]
  clear hg
  have hel := tyOk_elem hok.out (show hasE 5 = true from rfl)
  simp only at hel
  have hnn := (tyOk_parts hok.out).1
  simp only [nOk] at hnn
  have hn1 : 1 ≤ n := by have := of_decide_eq_true hnn; omega
  clear hnn
  have hps0 : ps = [] := by
    have h := (tyOk_parts hok.out).2.2
    simp only [partsOk] at h
    simp at h
    exact h
  have hk1 : ks = [exAt X el] := by rw [← HKS.out, hps0]; simp [kidL, hasE]
  have HV2 : Hid (ext1 X ⟨5, n, el, ps⟩ = ⟨false, times2 0 (offX (exAt X el)).l, times2 n (offX (exAt X el)).m, 1 + dk⟩) := HV
  obtain ⟨ak2, ck2, hvk, -, -, hXk⟩ := HOq.out.row
  injection hvk with e1 _ e3
  subst e1 e3
  obtain ⟨bx, ox, rfl, hbx, hcX⟩ := hXk.open (by rw [hk1]; simp)
  have hcy := hcX 0 (exAt X el) (by rw [hk1]; rfl)
  have x0 := hcy 0 (by decide); have x1 := hcy 1 (by decide); have x2 := hcy 2 (by decide); have x3 := hcy 3 (by decide)
  simp [exc] at x0 x1 x2 x3
  have hkl1 : (0 : Int) < (ks.length : Int) := by rw [hk1]; simp
  have HCw := hide_ (withOffset_any (exAt X el) w4)
  generalize exAt X el = x at *
  obtain ⟨xf, xl, xm, xd⟩ := x
  simp only at x0 x1 x2 x3 HCw
  clear hk1 HKS hXk hcX hcy hbx HOq Hown HV
  go_wp2_with fail
  refine HCw.out.mono ?_; rintro e w5 ⟨rfl, hB5⟩
  generalize offX ⟨xf, xl, xm, xd⟩ = y at *
  obtain ⟨yf, yl, ym, yd⟩ := y
  simp only [exv] at HV2 ⊢
  have ky := Blk.newA w5 #[.bool yf, .int .i64 yl, .int .i64 ym, .int .i64 yd] 48
  have hBy := below1 w5 (.cells #[.bool yf, .int .i64 yl, .int .i64 ym, .int .i64 yd] 48)
  obtain ⟨w6, hw6⟩ : ∃ wx, wx = w5.alloc (.cells #[.bool yf, .int .i64 yl, .int .i64 ym, .int .i64 yd] 48) := ⟨_, rfl⟩
  rw [← hw6] at ky hBy
  have hB46 : Below w4.heap.size w4 w6 := below_to hB5 hBy
  have hgy : g < w5.heap.size := Nat.lt_of_lt_of_le KOq.out.lt hB5.size
  have KO6 := hide_ (KOq.out.later hB46)
  have K26 := hide_ (K2q.out.later hB46)
  have K16 := hide_ (K1q.out.later hB46)
  have KY6 := hide_ ky
  have HB6 := hide_ (below_to HBw.out hB46)
  clear i0 i1 j0 j1 j2 j3 f1 x0 x1 x2 x3 KOq K2q K1q HBw hB5 hBy ky hB46
  obtain ⟨gy, hgyE⟩ : ∃ gy, w5.heap.size = gy := ⟨_, rfl⟩
  rw [hgyE] at KY6 hgy
  go_upto_region 18 with fail
  rw [← hw6]
  try rw [hgyE]
  clear hw6 hgyE
  have i1 := K16.out.cell 1
  have j0 := KO6.out.cell 0; have j1 := KO6.out.cell 1; have j2 := KO6.out.cell 2; have j3 := KO6.out.cell 3
  have y0 := KY6.out.cell 0; have y1 := KY6.out.cell 1; have y2 := KY6.out.cell 2
  simp at i1 j0 j1 j2 j3 y0 y1 y2
  have f1 := fun i => KO6.out.frozen i
  obtain ⟨fx, hfx⟩ : ∃ fx, false = fx := ⟨_, rfl⟩
  have HFX := hide_ hfx
  rw [hfx] at HV2
  clear hfx
  have HKs0 : Hid (Blk (w6.setCell ⟨g, 0, none⟩ (.bool fx)) g 48 [.bool fx, .int .i64 0, .int .i64 0, .int .i64 (1 + dk)]) := hide_ (by have h := KO6.out.set 0 (.bool fx); simpa using h)
  have HRs0 : Hid (Blk (w6.setCell ⟨g, 0, none⟩ (.bool fx)) (w.heap.size + 1) 48 [.bool false, .int .i64 0, .int .i64 0, .int .i64 0]) := hide_ (K26.out.other _ _ (by show w.heap.size + 1 ≠ g; omega))
  have HTs0 : Hid (Blk (w6.setCell ⟨g, 0, none⟩ (.bool fx)) w.heap.size 62 [.int .i64 5, .int .i64 n, .int .i64 el, .slice va ps.length vc]) := hide_ (K16.out.other _ _ (by show w.heap.size ≠ g; omega))
  have HYs0 : Hid (Blk (w6.setCell ⟨g, 0, none⟩ (.bool fx)) gy 48 [.bool yf, .int .i64 yl, .int .i64 ym, .int .i64 yd]) := hide_ (KY6.out.other _ _ (by show gy ≠ g; omega))
  have HBs0 := hide_ (below_set HB6.out g 0 (.bool fx) (by omega))
  go_cut [] from 51 to 60 (fun wc => ∃ w7, w7 = wc ∧ Hid (w7 = w6.setCell ⟨g, 0, none⟩ (.bool fx)))
  case first =>
    cases yf with
    | true =>
      obtain rfl : false = fx := HFX.out
      have hn0 : ((0 : Int) == n) = false := by
        have h : ¬ (0 : Int) = n := by omega
        simpa using h
      go_wp2
      go_meet
      case rel => exact ⟨_, rfl, hide_ rfl⟩
    | false =>
      obtain rfl : false = fx := HFX.out
      go_wp2
      go_meet
      case rel => exact ⟨_, rfl, hide_ rfl⟩
  case rest =>
  obtain ⟨w7, rfl, HW7⟩ := hcut
  rw [← HW7.out] at HKs0 HRs0 HTs0 HYs0 HBs0
  clear i1 j0 j1 j2 j3 y0 y1 y2 f1 KO6 K26 K16 KY6 HB6
  obtain ⟨pl, hpl⟩ : ∃ pl, times2 0 yl = pl := ⟨_, rfl⟩
  obtain ⟨pm, hpm⟩ : ∃ pm, times2 n ym = pm := ⟨_, rfl⟩
  rw [hpl, hpm] at HV2
  have HV := HV2
  have HP1 := hide_ hpl
  have HP2 := hide_ hpm
  have i1 := HTs0.out.cell 1
  have j0 := HKs0.out.cell 0; have j1 := HKs0.out.cell 1; have j2 := HKs0.out.cell 2; have j3 := HKs0.out.cell 3
  have y1 := HYs0.out.cell 1; have y2 := HYs0.out.cell 2
  simp at i1 j0 j1 j2 j3 y1 y2
  have f1 := fun i => HKs0.out.frozen i
  clear hpl hpm HW7
  go_upto_region 19 with fail
  go_cut [] from 60 to 71 (fun wc => ∃ w8, w8 = wc ∧ Hid (Blk w8 g 48 [.bool fx, .int .i64 pl, .int .i64 pm, .int .i64 (1 + dk)]) ∧ Hid (Blk w8 (w.heap.size + 1) 48 [.bool false, .int .i64 0, .int .i64 0, .int .i64 0]) ∧ Hid (Below w.heap.size w w8))
  case first =>
    have HL : Hid (∀ v1 v2 : Value × Nat, (v1 = (.int .i64 pl, 1) ∧ v2 = (.int .i64 pm, 2)) ∨ (v2 = (.int .i64 pl, 1) ∧ v1 = (.int .i64 pm, 2)) → (Hid (Blk ((w7.setCell ⟨g, v1.2, none⟩ v1.1).setCell ⟨g, v2.2, none⟩ v2.1).drew g 48 [.bool fx, .int .i64 pl, .int .i64 pm, .int .i64 (1 + dk)]) ∧ Hid (Blk ((w7.setCell ⟨g, v1.2, none⟩ v1.1).setCell ⟨g, v2.2, none⟩ v2.1).drew (w.heap.size + 1) 48 [.bool false, .int .i64 0, .int .i64 0, .int .i64 0]) ∧ Hid (Below w.heap.size w ((w7.setCell ⟨g, v1.2, none⟩ v1.1).setCell ⟨g, v2.2, none⟩ v2.1).drew))) := hide_ (fun v1 v2 hv => by
      refine ⟨hide_ (Blk.drew ?_), hide_ (Blk.drew ?_), hide_ (Below.drew (below_set (below_set HBs0.out _ _ _ (by omega)) _ _ _ (by omega)))⟩
      · rcases hv with ⟨rfl, rfl⟩ | ⟨rfl, rfl⟩
        · have h := ((HKs0.out.set 1 (.int .i64 pl)).set 2 (.int .i64 pm))
          simpa using h
        · have h := ((HKs0.out.set 2 (.int .i64 pm)).set 1 (.int .i64 pl))
          simpa using h
      · exact (HRs0.out.other _ _ (by show w.heap.size + 1 ≠ g; omega)).other _ _ (by show w.heap.size + 1 ≠ g; omega))
    have HSt : Hid (∀ (o : Nat) (v : Value), (fun w' => w'.cell? ⟨gy, 1, none⟩ = some (.int .i64 yl) ∧ w'.cell? ⟨gy, 2, none⟩ = some (.int .i64 ym) ∧ w'.cell? ⟨w.heap.size, 1, none⟩ = some (.int .i64 n)) (w7.setCell ⟨g, o, none⟩ v).drew) := hide_ (fun o v => by
      exact ⟨(HYs0.out.other ⟨g, o, none⟩ v (by show gy ≠ g; omega)).drew.cell 1, (HYs0.out.other ⟨g, o, none⟩ v (by show gy ≠ g; omega)).drew.cell 2, (HTs0.out.other ⟨g, o, none⟩ v (by show w.heap.size ≠ g; omega)).drew.cell 1⟩)
    have HSt2 : Hid (∀ (o : Nat) (v : Value) (o2 : Nat) (v2 : Value), (fun w' => w'.cell? ⟨gy, 1, none⟩ = some (.int .i64 yl) ∧ w'.cell? ⟨gy, 2, none⟩ = some (.int .i64 ym) ∧ w'.cell? ⟨w.heap.size, 1, none⟩ = some (.int .i64 n)) ((w7.setCell ⟨g, o, none⟩ v).setCell ⟨g, o2, none⟩ v2).drew) := hide_ (fun o v o2 v2 => by
      exact ⟨((HYs0.out.other ⟨g, o, none⟩ v (by show gy ≠ g; omega)).other ⟨g, o2, none⟩ v2 (by show gy ≠ g; omega)).drew.cell 1, ((HYs0.out.other ⟨g, o, none⟩ v (by show gy ≠ g; omega)).other ⟨g, o2, none⟩ v2 (by show gy ≠ g; omega)).drew.cell 2, ((HTs0.out.other ⟨g, o, none⟩ v (by show w.heap.size ≠ g; omega)).other ⟨g, o2, none⟩ v2 (by show w.heap.size ≠ g; omega)).drew.cell 1⟩)
    go_wp2_with fail
    refine wp_region_held_drew (S := (fun w' => w'.cell? ⟨gy, 1, none⟩ = some (.int .i64 yl) ∧ w'.cell? ⟨gy, 2, none⟩ = some (.int .i64 ym) ∧ w'.cell? ⟨w.heap.size, 1, none⟩ = some (.int .i64 n))) (by kernel_rfl) (⟨y1, y2, i1⟩) (fun hHeld => ?_)
    refine wpAnyH_take (i := 0) (v := ?vq1) rfl (by kernel_rfl) (by kernel_rfl) (by kernel_rfl) (fun _ _ _ h => h) (Or.inl ⟨by rfl, ?hyq1⟩) hHeld ?restq1
    case hyq1 => intro w' hSw; (try dsimp only at hSw); go_simp; try with_reducible rfl
    simp only [Act.put]
    refine wpAnyH_take (i := 1) (v := ?vq2) rfl (by kernel_rfl) (by kernel_rfl) (by kernel_rfl) (fun _ _ _ h => h) (Or.inl ⟨by rfl, ?hyq2⟩) hHeld ?restq2
    case hyq2 => intro w' hSw; (try dsimp only at hSw); go_simp; try with_reducible rfl
    simp only [Act.put]
    refine wpAnyH_take (i := 2) (v := ?vq3) rfl (by kernel_rfl) (by kernel_rfl) (by kernel_rfl) (fun _ _ _ h => h) (Or.inl ⟨by rfl, ?hyq3⟩) hHeld ?restq3
    case hyq3 => intro w' hSw; (try dsimp only at hSw); go_simp; try with_reducible rfl
    simp only [Act.put]
    refine wpAnyH_take (i := 4) (v := ?vq4) rfl (by kernel_rfl) (by kernel_rfl) (by kernel_rfl) (fun _ _ _ h => h) (Or.inl ⟨by rfl, ?hyq4⟩) hHeld ?restq4
    case hyq4 => intro w' hSw; (try dsimp only at hSw); go_simp; try with_reducible rfl
    simp only [Act.put]
    refine wpAnyH_take (i := 5) (v := ?vq5) rfl (by kernel_rfl) (by kernel_rfl) (by kernel_rfl) (fun _ _ _ h => h) (Or.inl ⟨by rfl, ?hyq5⟩) hHeld ?restq5
    case hyq5 => intro w' hSw; (try dsimp only at hSw); go_simp; try with_reducible rfl
    simp only [Act.put]
    refine wpAnyH_take (i := 6) (v := ?vq6) rfl (by kernel_rfl) (by kernel_rfl) (by kernel_rfl) (fun _ _ _ h => h) (Or.inl ⟨by rfl, ?hyq6⟩) hHeld ?restq6
    case hyq6 => intro w' hSw; (try dsimp only at hSw); go_simp; try with_reducible rfl
    simp only [Act.put]
    refine wpAnyH_take (i := 7) (v := ?vq7) rfl (by kernel_rfl) (by kernel_rfl) (by kernel_rfl) (fun _ _ _ h => h) (Or.inl ⟨by rfl, ?hyq7⟩) hHeld ?restq7
    case hyq7 => intro w' hSw; (try dsimp only at hSw); go_simp; try with_reducible rfl
    simp only [Act.put]
    refine wpAnyH_ready (rs := [3]) (by kernel_rfl) (by simp) ?_
    refine AllReadyH.cons rfl (fun K hK => ?_) AllReadyH.nil
    go_simp
    refine (timesB_any _ _ _ _ HP1).mono ?_
    rintro e w' ⟨rfl, rfl⟩
    dsimp only
    refine hK.out _ _ (⟨y1, y2, i1⟩) (fun hHeld => ?_)
    clear hK K
    refine wpAnyH_take (i := 9) (v := ?vz01) rfl (by kernel_rfl) (by kernel_rfl) (by kernel_rfl) (fun _ _ _ h => h) (Or.inl ⟨by rfl, ?hyz01⟩) hHeld ?restz01
    case hyz01 => intro w' hSw; (try dsimp only at hSw); go_simp; try with_reducible rfl
    simp only [Act.put]
    refine wpAnyH_ready (rs := [8]) (by kernel_rfl) (by simp) ?_
    refine AllReadyH.cons rfl (fun K hK => ?_) AllReadyH.nil
    go_simp
    refine (timesB_any _ _ _ _ HP2).mono ?_
    rintro e w' ⟨rfl, rfl⟩
    dsimp only
    refine hK.out _ _ (⟨y1, y2, i1⟩) (fun hHeld => ?_)
    clear hK K
    refine wpAnyH_ready (rs := [10]) (by kernel_rfl) (by simp) ?_
    refine AllReadyH.cons rfl (fun K hK => ?_) AllReadyH.nil
    go_simp
    refine hK.out _ _ (HSt.out _ _) (fun hHeld => ?_)
    clear hK K
    refine wpAnyH_take (i := 11) (v := ?vz11) rfl (by kernel_rfl) (by kernel_rfl) (by kernel_rfl) (fun _ _ _ h => h) (Or.inl ⟨by rfl, ?hyz11⟩) hHeld ?restz11
    case hyz11 => intro w' hSw; (try dsimp only at hSw); go_simp; try with_reducible rfl
    simp only [Act.put]
    refine wpAnyH_ready (rs := [12]) (by kernel_rfl) (by simp) ?_
    refine AllReadyH.cons rfl (fun K hK => ?_) AllReadyH.nil
    go_simp
    refine hK.out _ _ (HSt2.out _ _ _ _) (fun hHeld => ?_)
    clear hK K
    refine wpAnyH_done (by kernel_rfl) ?_ _
    go_wp2
    go_meet
    case rel => exact ⟨_, rfl, by first | exact HL.out (.int .i64 pl, 1) (.int .i64 pm, 2) (.inl ⟨rfl, rfl⟩) | exact HL.out (.int .i64 pm, 2) (.int .i64 pl, 1) (.inr ⟨rfl, rfl⟩)⟩
  case rest =>
  obtain ⟨w8, rfl, HKs, HRs, HBs⟩ := hcut
  clear i1 j0 j1 j2 j3 y1 y2 f1
  have i0 := HKs.out.cell 0; have i1 := HKs.out.cell 1; have i2 := HKs.out.cell 2; have i3 := HKs.out.cell 3
  have j0 := HRs.out.cell 0; have j1 := HRs.out.cell 1; have j2 := HRs.out.cell 2; have j3 := HRs.out.cell 3
  simp at i0 i1 i2 i3 j0 j1 j2 j3
  have f1 := fun i => HRs.out.frozen i
  have HK := hide_ (wr4 HRs.out (.bool fx) (.int .i64 pl) (.int .i64 pm) (.int .i64 (1 + dk)))
  have HBf := hide_ (below_wr4 HBs.out (w.heap.size + 1) (by omega) (.bool fx) (.int .i64 pl) (.int .i64 pm) (.int .i64 (1 + dk)))
  go_wp2
  refine retX (x := ⟨fx, pl, pm, 1 + dk⟩) rfl rfl HK.out ⟨by rw [HV.out], HBf.out⟩
end Go.Proofs.Ytdpkmkhflgmioaa
