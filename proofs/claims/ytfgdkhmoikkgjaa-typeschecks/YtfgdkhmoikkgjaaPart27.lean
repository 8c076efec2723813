import Derived.Test.YtfgdkhmoikkgjaaPart26
import Derived.Test.YtfgdkhmoikkgjaaPart24

/- The document's Depths. -/
namespace Go.Proofs.Ytfgdkhmoikkgjaa
open Go.RowKit
set_option linter.unusedVariables false

theorem EInt9 : Elem Try.prog 57 3 .i64 8 := ⟨Try.underlying57, Try.underlying3, by kernel_rfl⟩
theorem getD_bdG {l : List Int} {b : Int} (hb : 0 ≤ b) (h : ∀ x ∈ l, 0 ≤ x ∧ x ≤ b) (n : Nat) : 0 ≤ l.getD n 0 ∧ l.getD n 0 ≤ b := by
  rcases Nat.lt_or_ge n l.length with hn | hn
  · rw [show l.getD n 0 = l[n]'hn by simp [List.getD, hn]]
    exact h _ (List.getElem_mem hn)
  · rw [show l.getD n 0 = 0 by simp [List.getD, List.getElem?_eq_none hn]]; omega
theorem kidD_bdG {l : List Int} {b : Int} (hb : 0 ≤ b) (h : ∀ x ∈ l, 0 ≤ x ∧ x ≤ b) : ∀ (ps : List Ptz) (d : Int), 0 ≤ d ∧ d ≤ b → 0 ≤ kidD l ps d ∧ kidD l ps d ≤ b
  | [], d, hd => hd
  | p :: ps, d, hd => by
    have h1 := getD_bdG hb h p.ty.toNat
    have := kidD_bdG hb h ps (max d (l.getD p.ty.toNat 0)) (by omega)
    simpa [kidD] using this
theorem depL_bd (T : List Ty) : ∀ x ∈ depL T, 0 ≤ x ∧ x ≤ (T.length : Int) := by
  refine snoc_ind (P := fun T => ∀ x ∈ depL T, 0 ≤ x ∧ x ≤ (T.length : Int)) (fun x hx => by simp [depL] at hx) (fun T t ih x hx => ?_) T
  rw [depL_snoc] at hx
  rw [List.length_append, List.length_singleton]
  rcases List.mem_append.1 hx with hx | hx
  · have := ih x hx; omega
  · simp at hx
    subst hx
    have h0 : 0 ≤ (if hasE t.k then (depL T).getD t.e.toNat 0 else 0) ∧ (if hasE t.k then (depL T).getD t.e.toNat 0 else 0) ≤ (T.length : Int) := by
      split
      · exact getD_bdG (by omega) ih _
      · omega
    have := kidD_bdG (by omega) ih t.ps _ h0
    unfold dep1
    omega
set_option maxRecDepth 100000 in
set_option maxHeartbeats 8000000 in
theorem depths_anyz (a : Option Addr) (c : Nat) (vr : Value) (T : List Ty) (w : World) (hn : T.length ≤ 4000000000000) (hL : Hid (LensT T)) (hT : Hid (TRowz w a T)) (hok : Hid (∀ j, j < T.length → tyOk (T.getD j ty0) j = true)) :
    Calls Try.prog 17 #[.agg #[.slice a T.length c, vr]] w fun e w' => ∃ v, e = .returned v ∧ Hid (w'.ownsRow w.heap.size 3 1 v (depL T).length (cellsL .i64 (depL T))) ∧ Hid (Below w.heap.size w w') := by
  have hB := below1 w (.cells #[.slice a T.length c, vr] 25)
  have kx := Blk.newA w #[.slice a T.length c, vr] 25
  obtain ⟨w0, hw0⟩ : ∃ wx, wx = w.alloc (.cells #[.slice a T.length c, vr] 25) := ⟨_, rfl⟩
  rw [← hw0] at hB kx
  have HB0 := hide_ hB
  have KX := hide_ kx
  have hz0 : w.heap.size < w0.heap.size := kx.lt
  clear hB kx
  go_enter Try.func17, Try.ntmps17
  go_upto_region 1 with fail
  rw [← hw0]
  clear hw0
  go_wp2_with fail
  go_loopw [3, 4] (fun x3 x4 wr => ∃ (v : Value) (i : Nat), v = x3 ∧ i ≤ T.length ∧ x4 = .int .i64 (i : Int) ∧ Hid (wr.ownsRow w0.heap.size 3 1 v (depL (T.take i)).length (cellsL .i64 (depL (T.take i)))) ∧ Hid (Below w0.heap.size w0 wr)) (fun _ x4 _ => T.length - (intOf x4).toNat)
  case atStart => exact ⟨_, 0, rfl, Nat.zero_le _, rfl, hide_ (World.ownsRow_nil _ _ _ _), hide_ (Below.refl _ _)⟩
  case round =>
    obtain ⟨v, i, rfl, hi, rfl, HO, HB⟩ := hrel
    generalize wr = wq at *
    have i0 := (KX.out.later HB.out).cell 0
    simp at i0
    by_cases hlt : i < T.length
    · have hlt' : (i : Int) < T.length := by omega
      obtain ⟨b, o, rfl, hb, hc⟩ := (hT.out.later (below_to HB0.out HB.out)).open (by omega)
      have hx : T[i]? = some (T[i]'hlt) := List.getElem?_eq_getElem hlt
      obtain ⟨va, vc, hcx, hvc, -, hP⟩ := hc i _ hx
      have hok1 := hok.out i hlt
      rw [show T.getD i ty0 = T[i]'hlt by simp [List.getD, hlt]] at hok1
      have hpl := hL.out.at hx
      have HT : Hid (depL (T.take (i + 1)) = depL (T.take i) ++ [dep1 (depL (T.take i)) (T[i]'hlt)]) := hide_ (by rw [List.take_succ_eq_append_getElem hlt, depL_snoc])
      have hlen : (depL (T.take i)).length = i := by rw [depL_len]; simp; omega
      have hbd : ∀ x ∈ depL (T.take i), 0 ≤ x ∧ x ≤ (i : Int) := fun x hx => by
        have := depL_bd (T.take i) x hx
        rw [List.length_take] at this
        omega
      generalize T[i]'hlt = t at *
      obtain ⟨k, n, el, ps⟩ := t
      simp only at hvc hP hpl hok1 HT
      have HOK := hide_ hok1
      have t0 := hcx 0 (by decide); have t1 := hcx 1 (by decide); have t2 := hcx 2 (by decide); have t3 := hcx 3 (by decide)
      simp [tyc] at t0 t1 t2 t3
      have kt := Blk.newA wq #[.int .i64 k, .int .i64 n, .int .i64 el, .slice va ps.length vc] 49
      have hBx := below1 wq (.cells #[.int .i64 k, .int .i64 n, .int .i64 el, .slice va ps.length vc] 49)
      obtain ⟨wx, hwx⟩ : ∃ wx, wx = wq.alloc (.cells #[.int .i64 k, .int .i64 n, .int .i64 el, .slice va ps.length vc] 49) := ⟨_, rfl⟩
      rw [← hwx] at kt hBx
      have HBx := hide_ (below_to HB.out hBx)
      have HOx := hide_ (ownS_upd HO.out (Upd.of_below (S := fun _ => False) hBx) (fun _ _ h => h))
      have HP := hide_ (hP.later hBx)
      generalize depL (T.take i) = pre at *
      have HPB := hide_ hbd
      have HPL := hide_ hlen
      obtain ⟨av, cv, hvv, hrow, -⟩ := own_open HOx.out rfl
      subst hvv
      have HRow := hide_ hrow
      have j0 := kt.cell 0; have j2 := kt.cell 2; have j3 := kt.cell 3
      simp at j0 j2 j3
      clear kt hBx hP hc hx hcx hok1 hb HO hbd hlen hrow
      go_upto_region 6 with fail
      rw [← hwx]
      clear hwx t0 t1 t2 t3 i0
      obtain ⟨d0, hd0⟩ : ∃ d0, (if hasE k then pre.getD el.toNat 0 else 0) = d0 := ⟨_, rfl⟩
      have HD0 := hide_ hd0
      have hd0b : 0 ≤ d0 ∧ d0 ≤ (i : Int) := by
        rw [← hd0]
        split
        · exact getD_bdG (by omega) HPB.out _
        · omega
      clear hd0
      obtain ⟨be, hbe⟩ : ∃ be, hasE k = be := ⟨_, rfl⟩
      have HE := hide_ hbe
      clear hbe
      go_upto_region 7 with fail
      go_cut [32] from 19 to 32 (fun x32 wc => x32 = .bool be ∧ wx = wc)
      case first =>
        have hE := HE.out
        unfold hasE at hE
        by_cases k4 : k = 4
        · subst k4
          obtain rfl : true = be := by rw [← hE]; rfl
          go_wp2
          go_meet
          case rel => exact ⟨rfl, rfl⟩
        have c4 : (k == 4) = false := by simpa using k4
        by_cases k5 : k = 5
        · subst k5
          obtain rfl : true = be := by rw [← hE]; rfl
          go_wp2
          go_meet
          case rel => exact ⟨rfl, rfl⟩
        have c5 : (k == 5) = false := by simpa using k5
        by_cases k6 : k = 6
        · subst k6
          obtain rfl : true = be := by rw [← hE]; rfl
          go_wp2
          go_meet
          case rel => exact ⟨rfl, rfl⟩
        have c6 : (k == 6) = false := by simpa using k6
        obtain rfl : false = be := by rw [← hE]; exact (decide_eq_false (by omega)).symm
        clear hE
        go_wp2
        go_meet
        case rel => exact ⟨rfl, rfl⟩
      case rest =>
      obtain ⟨rfl, rfl⟩ := hcut
      go_upto_if 32 with fail
      go_cut [6] from 32 to 37 (fun x6 wc => x6 = .int .i64 d0 ∧ wx = wc)
      case first =>
        cases be with
        | true =>
          have hel := tyOk_elem HOK.out HE.out
          simp only at hel
          obtain ⟨ej, rfl⟩ := Int.eq_ofNat_of_zero_le hel.1
          have hejl : ej < pre.length := by rw [HPL.out]; omega
          have hejl' : (ej : Int) < pre.length := by omega
          obtain ⟨bv, ov, rfl, -, hcv⟩ := HRow.out.open (by omega)
          have hd : pre.getD ej 0 = d0 := by rw [← HD0.out, if_pos HE.out]; simp
          have c1 := hcv ej hejl
          rw [hd] at c1
          clear hcv hd hel
          go_wp2
          go_meet
          case rel => exact ⟨rfl, rfl⟩
        | false =>
          have hd : d0 = 0 := by rw [← HD0.out, HE.out]; rfl
          subst hd
          go_wp2
          go_meet
          case rel => exact ⟨rfl, rfl⟩
      case rest =>
      obtain ⟨rfl, rfl⟩ := hcut
      clear j0 j2
      go_wp2_with fail
      go_loop [6, 7] (fun x6 x7 => ∃ (m : Nat) (d : Int), m ≤ ps.length ∧ x7 = .int .i64 (m : Int) ∧ x6 = .int .i64 d ∧ Hid (kidD pre (ps.take m) d0 = d)) (fun _ x7 => ps.length - (intOf x7).toNat)
      case atStart => exact ⟨0, d0, Nat.zero_le _, rfl, rfl, hide_ rfl⟩
      case round =>
        obtain ⟨m, d, hm, rfl, rfl, HK⟩ := hrel
        have hkb := kidD_bdG (by omega) HPB.out (ps.take m) d0 hd0b
        rw [HK.out] at hkb
        by_cases hlm : m < ps.length
        · have hlm' : (m : Int) < ps.length := by omega
          obtain ⟨b2, o2, rfl, -, hc2⟩ := HP.out.open (by omega)
          have hx2 : ps[m]? = some (ps[m]'hlm) := List.getElem?_eq_getElem hlm
          have hcx2 := hc2 m _ hx2
          have hpr := tyOk_part (t := ⟨k, n, el, ps⟩) HOK.out hx2
          have HS := hide_ (kidD_succ (l := pre) (d := d0) hx2)
          generalize ps[m]'hlm = p at *
          obtain ⟨lb, tg, ty⟩ := p
          simp only at hpr HS
          obtain ⟨ej, rfl⟩ := Int.eq_ofNat_of_zero_le hpr.1
          have hejl : ej < pre.length := by rw [HPL.out]; omega
          have hejl' : (ej : Int) < pre.length := by omega
          obtain ⟨bv, ov, rfl, -, hcv⟩ := HRow.out.open (by omega)
          have c1 := hcv ej hejl
          have y2 := hcx2 2 (by decide)
          simp [ptc] at y2
          rw [HK.out, Int.toNat_natCast] at HS
          generalize pre.getD ej 0 = de at *
          clear hc2 hx2 hcx2 hpr hcv hejl
          go_wp2_with fail
          all_goals
            go_round
            case rel => exact ⟨m + 1, _, by omega, by go_num, rfl, hide_ (by rw [HS.out]; omega)⟩
            case measure => simp [intOf]; omega
        · obtain rfl : m = ps.length := by omega
          have HV : Hid (dep1 pre ⟨k, n, el, ps⟩ = d + 1) := hide_ (by
            have h := HK.out
            rw [List.take_length] at h
            unfold dep1
            simp only
            rw [HD0.out, h])
          have hwr : wrap64 (d + 1) = d + 1 := w64 _ (by omega)
          obtain ⟨g, cap, w5, hrun, hO5, hU5, -⟩ := run_push EInt9 wx 57 w0.heap.size (.slice av pre.length cv) pre.length pre HOx.out (d + 1) (by unfold maxLen; rw [HPL.out]; omega) (by rw [HPL.out]; omega) HBx.out.size
          have HB5 := hide_ (HBx.out.trans (hU5.below w0.heap.size HBx.out.size (fun k hk => (HOx.out.lt k hk).1)))
          have HO5 : Hid (w5.ownsRow w0.heap.size 3 1 (.slice (some ⟨g, 0, none⟩) (pre.length + 1) cap) (depL (T.take (i + 1))).length (cellsL .i64 (depL (T.take (i + 1))))) := hide_ (by
            rw [HT.out, HV.out, List.length_append, List.length_singleton]
            exact hO5)
          have HRun := hide_ hrun
          clear hrun hO5 hU5 HT HV HPL
          go_wp2_with (first | (at_builtin; refine wpList_append_run rfl (.tmp 56) (.tmp 59) 57 57 rfl rfl rfl HRun.out ?_; clear HRun))
          go_roundw
          case rel => exact ⟨_, i + 1, rfl, by omega, by go_num, HO5, HB5⟩
          case measure => simp [intOf]; omega
    · obtain rfl : i = T.length := by omega
      have HV : Hid (wq.ownsRow w.heap.size 3 1 v (depL T).length (cellsL .i64 (depL T))) := hide_ (by have h := HO.out; rw [List.take_length] at h; exact own_basez h (by omega))
      have HBe := hide_ (below_to HB0.out HB.out)
      go_wp2
      go_ret
      exact ⟨_, rfl, HV, HBe⟩
end Go.Proofs.Ytfgdkhmoikkgjaa
