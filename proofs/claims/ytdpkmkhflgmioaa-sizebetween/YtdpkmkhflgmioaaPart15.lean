import Derived.Test.YtdpkmkhflgmioaaPart14
import Derived.Test.YtdpkmkhflgmioaaPart13
import Derived.Deep.RegionHeldLaw

/- The document's Check of a schema: right. -/
namespace Go.Proofs.Ytdpkmkhflgmioaa
open Go.RowKit
set_option linter.unusedVariables false

set_option maxRecDepth 100000 in
set_option maxHeartbeats 8000000 in
theorem right7_any (n el : Int) (ps : List Pt) (va : Option Addr) (vc : Nat) (i : Nat) (w : World) (hil : i ≤ 9223372036854775806) (hr : Hid (PRow w va ps)) :
    Calls Try.prog 24 #[.agg #[.int .i64 7, .int .i64 n, .int .i64 el, .slice va ps.length vc], .int .i64 (i : Int)] w fun e w' => e = .returned (.bool (tyOk ⟨7, n, el, ps⟩ i)) ∧ Below w.heap.size w w' := by
  have hB := below1 w (.cells #[.int .i64 7, .int .i64 n, .int .i64 el, .slice va ps.length vc] 62)
  have kx := Blk.newA w #[.int .i64 7, .int .i64 n, .int .i64 el, .slice va ps.length vc] 62
  obtain ⟨w0, hw0⟩ : ∃ wx, wx = w.alloc (.cells #[.int .i64 7, .int .i64 n, .int .i64 el, .slice va ps.length vc] 62) := ⟨_, rfl⟩
  rw [← hw0] at hB kx
  have HB := hide_ hB
  have HR := hide_ (hr.out.later hB)
  have i0 := kx.cell 0; have i1 := kx.cell 1; have i2 := kx.cell 2; have i3 := kx.cell 3
  simp at i0 i1 i2 i3
  have hwi : wrap64 ((i : Int) - 1) = (i : Int) - 1 := w64 _ (by omega)
  have HL : Hid (((ps.length : Int) == 0) = decide (ps.length = 0)) := hide_ (by
    by_cases h : ps.length = 0
    · simp [h]
    · have h2 : ((ps.length : Int) == 0) = false := by
        have h : ¬ (ps.length : Int) = 0 := by omega
        simpa using h
      rw [h2, decide_eq_false h])
  clear hB kx hr
  go_enter Try.func24, Try.ntmps24
  go_upto_region 1 with fail
  rw [← hw0]
  clear hw0
  have HT : Hid (tyOk ⟨7, n, el, ps⟩ i = (decide (n = 0) && decide (el = 0) && allP armOk ps i)) := hide_ (by simp [tyOk, nOk, elemOk, hasE, partsOk])
  by_cases hn : n = 0
  · subst hn
    by_cases he : el = 0
    · subst he
      have HC := hide_ (partsR7_any 0 0 ps va vc i w0 hil HR)
      go_wp2_with fail
      refine HC.out.mono ?_; rintro e w' ⟨rfl, hB1⟩
      have HB1 := hide_ hB1
      clear hB1
      go_wp2
      go_ret
      exact ⟨by rw [HT.out]; simp, below_to HB.out HB1.out⟩
    · have he' : (el == 0) = false := by simpa using he
      rw [decide_eq_false he] at HT
      go_wp2
      go_ret
      exact ⟨by rw [HT.out]; simp, HB.out⟩
  · have hn' : (n == 0) = false := by simpa using hn
    rw [decide_eq_false hn] at HT
    go_wp2
    go_ret
    exact ⟨by rw [HT.out]; simp, HB.out⟩
set_option maxRecDepth 100000 in
set_option maxHeartbeats 8000000 in
theorem right8_any (n el : Int) (ps : List Pt) (va : Option Addr) (vc : Nat) (i : Nat) (w : World) (hil : i ≤ 9223372036854775806) (hr : Hid (PRow w va ps)) :
    Calls Try.prog 24 #[.agg #[.int .i64 8, .int .i64 n, .int .i64 el, .slice va ps.length vc], .int .i64 (i : Int)] w fun e w' => e = .returned (.bool (tyOk ⟨8, n, el, ps⟩ i)) ∧ Below w.heap.size w w' := by
  have hB := below1 w (.cells #[.int .i64 8, .int .i64 n, .int .i64 el, .slice va ps.length vc] 62)
  have kx := Blk.newA w #[.int .i64 8, .int .i64 n, .int .i64 el, .slice va ps.length vc] 62
  obtain ⟨w0, hw0⟩ : ∃ wx, wx = w.alloc (.cells #[.int .i64 8, .int .i64 n, .int .i64 el, .slice va ps.length vc] 62) := ⟨_, rfl⟩
  rw [← hw0] at hB kx
  have HB := hide_ hB
  have HR := hide_ (hr.out.later hB)
  have i0 := kx.cell 0; have i1 := kx.cell 1; have i2 := kx.cell 2; have i3 := kx.cell 3
  simp at i0 i1 i2 i3
  have hwi : wrap64 ((i : Int) - 1) = (i : Int) - 1 := w64 _ (by omega)
  have HL : Hid (((ps.length : Int) == 0) = decide (ps.length = 0)) := hide_ (by
    by_cases h : ps.length = 0
    · simp [h]
    · have h2 : ((ps.length : Int) == 0) = false := by
        have h : ¬ (ps.length : Int) = 0 := by omega
        simpa using h
      rw [h2, decide_eq_false h])
  clear hB kx hr
  go_enter Try.func24, Try.ntmps24
  go_upto_region 1 with fail
  rw [← hw0]
  clear hw0
  have HT : Hid (tyOk ⟨8, n, el, ps⟩ i = (decide (n = 0) && decide (el = 0) && allP fieldOk ps i)) := hide_ (by simp [tyOk, nOk, elemOk, hasE, partsOk])
  by_cases hn : n = 0
  · subst hn
    by_cases he : el = 0
    · subst he
      have HC := hide_ (partsR8_any 0 0 ps va vc i w0 hil HR)
      go_wp2_with fail
      refine HC.out.mono ?_; rintro e w' ⟨rfl, hB1⟩
      have HB1 := hide_ hB1
      clear hB1
      go_wp2
      go_ret
      exact ⟨by rw [HT.out]; simp, below_to HB.out HB1.out⟩
    · have he' : (el == 0) = false := by simpa using he
      rw [decide_eq_false he] at HT
      go_wp2
      go_ret
      exact ⟨by rw [HT.out]; simp, HB.out⟩
  · have hn' : (n == 0) = false := by simpa using hn
    rw [decide_eq_false hn] at HT
    go_wp2
    go_ret
    exact ⟨by rw [HT.out]; simp, HB.out⟩
set_option maxRecDepth 100000 in
set_option maxHeartbeats 8000000 in
theorem rightO_any (t : Ty) (hk : ¬ (t.k = 1 ∨ t.k = 2 ∨ t.k = 3 ∨ t.k = 4 ∨ t.k = 5 ∨ t.k = 6 ∨ t.k = 7 ∨ t.k = 8)) (va : Option Addr) (vc : Nat) (i : Nat) (w : World) (hil : i ≤ 9223372036854775806) (hr : Hid (PRow w va t.ps)) :
    Calls Try.prog 24 #[.agg #[.int .i64 t.k, .int .i64 t.n, .int .i64 t.e, .slice va t.ps.length vc], .int .i64 (i : Int)] w fun e w' => e = .returned (.bool (tyOk t i)) ∧ Below w.heap.size w w' := by
  obtain ⟨k, n, el, ps⟩ := t
  simp only at hr hk ⊢
  have hB := below1 w (.cells #[.int .i64 k, .int .i64 n, .int .i64 el, .slice va ps.length vc] 62)
  have kx := Blk.newA w #[.int .i64 k, .int .i64 n, .int .i64 el, .slice va ps.length vc] 62
  obtain ⟨w0, hw0⟩ : ∃ wx, wx = w.alloc (.cells #[.int .i64 k, .int .i64 n, .int .i64 el, .slice va ps.length vc] 62) := ⟨_, rfl⟩
  rw [← hw0] at hB kx
  have HB := hide_ hB
  have HR := hide_ (hr.out.later hB)
  have i0 := kx.cell 0; have i1 := kx.cell 1; have i2 := kx.cell 2; have i3 := kx.cell 3
  simp at i0 i1 i2 i3
  have hwi : wrap64 ((i : Int) - 1) = (i : Int) - 1 := w64 _ (by omega)
  have HL : Hid (((ps.length : Int) == 0) = decide (ps.length = 0)) := hide_ (by
    by_cases h : ps.length = 0
    · simp [h]
    · have h2 : ((ps.length : Int) == 0) = false := by
        have h : ¬ (ps.length : Int) = 0 := by omega
        simpa using h
      rw [h2, decide_eq_false h])
  clear hB kx hr
  go_enter Try.func24, Try.ntmps24
  go_upto_region 1 with fail
  rw [← hw0]
  clear hw0
  have c1 : (k == 1) = false := by simp; omega
  have c2 : (k == 2) = false := by simp; omega
  have c3 : (k == 3) = false := by simp; omega
  have c4 : (k == 4) = false := by simp; omega
  have c5 : (k == 5) = false := by simp; omega
  have c6 : (k == 6) = false := by simp; omega
  have c7 : (k == 7) = false := by simp; omega
  have c8 : (k == 8) = false := by simp; omega
  have hno : nOk k n = false := by
    unfold nOk
    exact decide_eq_false (by omega)
  have HV : Hid (tyOk ⟨k, n, el, ps⟩ i = false) := hide_ (by
    show (nOk k n && _ && _) = false
    rw [hno]
    rfl)
  clear hno
  clear hk
  go_wp2
  go_ret
  exact ⟨by rw [HV.out]; rfl, HB.out⟩
end Go.Proofs.Ytdpkmkhflgmioaa

/- The document's Check of a schema: right. -/
namespace Go.Proofs.Ytdpkmkhflgmioaa
open Go.RowKit
set_option linter.unusedVariables false

theorem right_any (t : Ty) (va : Option Addr) (vc : Nat) (i : Nat) (w : World) (hil : i ≤ 9223372036854775806) (hr : Hid (PRow w va t.ps)) :
    Calls Try.prog 24 #[.agg #[.int .i64 t.k, .int .i64 t.n, .int .i64 t.e, .slice va t.ps.length vc], .int .i64 (i : Int)] w fun e w' => e = .returned (.bool (tyOk t i)) ∧ Below w.heap.size w w' := by
  by_cases hk : t.k = 1 ∨ t.k = 2 ∨ t.k = 3 ∨ t.k = 4 ∨ t.k = 5 ∨ t.k = 6 ∨ t.k = 7 ∨ t.k = 8
  · obtain ⟨k, n, el, ps⟩ := t
    simp only at hk hr ⊢
    rcases hk with rfl | rfl | rfl | rfl | rfl | rfl | rfl | rfl
    · exact right1_any n el ps va vc i w hil hr
    · exact right2_any n el ps va vc i w hil hr
    · exact right3_any n el ps va vc i w hil hr
    · exact right4_any n el ps va vc i w hil hr
    · exact right5_any n el ps va vc i w hil hr
    · exact right6_any n el ps va vc i w hil hr
    · exact right7_any n el ps va vc i w hil hr
    · exact right8_any n el ps va vc i w hil hr
  · exact rightO_any t hk va vc i w hil hr
end Go.Proofs.Ytdpkmkhflgmioaa

/- The document's Depths. -/
namespace Go.Proofs.Ytdpkmkhflgmioaa
open Go.RowKit
set_option linter.unusedVariables false

theorem EInt9 : Elem Try.prog 26 3 .i64 8 := ⟨Try.underlying26, Try.underlying3, by kernel_rfl⟩
theorem getD_bdG {l : List Int} {b : Int} (hb : 0 ≤ b) (h : ∀ x ∈ l, 0 ≤ x ∧ x ≤ b) (n : Nat) : 0 ≤ l.getD n 0 ∧ l.getD n 0 ≤ b := by
  rcases Nat.lt_or_ge n l.length with hn | hn
  · rw [show l.getD n 0 = l[n]'hn by simp [List.getD, hn]]
    exact h _ (List.getElem_mem hn)
  · rw [show l.getD n 0 = 0 by simp [List.getD, List.getElem?_eq_none hn]]; omega
theorem kidD_bdG {l : List Int} {b : Int} (hb : 0 ≤ b) (h : ∀ x ∈ l, 0 ≤ x ∧ x ≤ b) : ∀ (ps : List Pt) (d : Int), 0 ≤ d ∧ d ≤ b → 0 ≤ kidD l ps d ∧ kidD l ps d ≤ b
  | [], d, hd => hd
  | p :: ps, d, hd => by
    have h1 := getD_bdG hb h p.ty.toNat
    have := kidD_bdG hb h ps (max d (l.getD p.ty.toNat 0)) (by omega)
    simpa [kidD] using this
theorem depL_bd (T : List Ty) : ∀ x ∈ depL T, 0 ≤ x ∧ x ≤ (T.length : Int) := by
  refine snoc_ind (P := fun T => ∀ x ∈ depL T, 0 ≤ x ∧ x ≤ (T.length : Int)) (fun x hx => by simp [depL] at hx) (fun T t ih x hx => ?_) T
  rw [depL_snoc] at hx
  rw [List.length_append, List.length_singleton]
  rcases List.mem_append.1 hx with hx | hx
  · have := ih x hx; omega
  · simp at hx
    subst hx
    have h0 : 0 ≤ (if hasE t.k then (depL T).getD t.e.toNat 0 else 0) ∧ (if hasE t.k then (depL T).getD t.e.toNat 0 else 0) ≤ (T.length : Int) := by
      split
      · exact getD_bdG (by omega) ih _
      · omega
    have := kidD_bdG (by omega) ih t.ps _ h0
    unfold dep1
    omega
set_option maxRecDepth 100000 in
set_option maxHeartbeats 8000000 in
theorem depths_any (a : Option Addr) (c : Nat) (vr : Value) (T : List Ty) (w : World) (hn : T.length ≤ 4000000000000) (hL : Hid (LensT T)) (hT : Hid (TRow w a T)) (hok : Hid (∀ j, j < T.length → tyOk (T.getD j ty0) j = true)) :
    Calls Try.prog 25 #[.agg #[.slice a T.length c, vr]] w fun e w' => ∃ v, e = .returned v ∧ Hid (w'.ownsRow w.heap.size 3 1 v (depL T).length (cellsL .i64 (depL T))) ∧ Hid (Below w.heap.size w w') := by
  have hB := below1 w (.cells #[.slice a T.length c, vr] 25)
  have kx := Blk.newA w #[.slice a T.length c, vr] 25
  obtain ⟨w0, hw0⟩ : ∃ wx, wx = w.alloc (.cells #[.slice a T.length c, vr] 25) := ⟨_, rfl⟩
  rw [← hw0] at hB kx
  have HB0 := hide_ hB
  have KX := hide_ kx
  have hz0 : w.heap.size < w0.heap.size := kx.lt
  clear hB kx
  go_enter Try.func25, Try.ntmps25
  go_upto_region 1 with fail
  rw [← hw0]
  clear hw0
  go_wp2_with fail
  go_loopw [3, 4] (fun x3 x4 wr => ∃ (v : Value) (i : Nat), v = x3 ∧ i ≤ T.length ∧ x4 = .int .i64 (i : Int) ∧ Hid (wr.ownsRow w0.heap.size 3 1 v (depL (T.take i)).length (cellsL .i64 (depL (T.take i)))) ∧ Hid (Below w0.heap.size w0 wr)) (fun _ x4 _ => T.length - (intOf x4).toNat)
  case atStart => exact ⟨_, 0, rfl, Nat.zero_le _, rfl, hide_ (World.ownsRow_nil _ _ _ _), hide_ (Below.refl _ _)⟩
  case round =>
    obtain ⟨v, i, rfl, hi, rfl, HO, HB⟩ := hrel
    generalize wr = wq at *
    have i0 := (KX.out.later HB.out).cell 0
    simp at i0
    by_cases hlt : i < T.length
    · have hlt' : (i : Int) < T.length := by omega
      obtain ⟨b, o, rfl, hb, hc⟩ := (hT.out.later (below_to HB0.out HB.out)).open (by omega)
      have hx : T[i]? = some (T[i]'hlt) := List.getElem?_eq_getElem hlt
      obtain ⟨va, vc, hcx, hvc, -, hP⟩ := hc i _ hx
      have hok1 := hok.out i hlt
      rw [show T.getD i ty0 = T[i]'hlt by simp [List.getD, hlt]] at hok1
      have hpl := hL.out.at hx
      have HT : Hid (depL (T.take (i + 1)) = depL (T.take i) ++ [dep1 (depL (T.take i)) (T[i]'hlt)]) := hide_ (by rw [List.take_succ_eq_append_getElem hlt, depL_snoc])
      have hlen : (depL (T.take i)).length = i := by rw [depL_len]; simp; omega
      have hbd : ∀ x ∈ depL (T.take i), 0 ≤ x ∧ x ≤ (i : Int) := fun x hx => by
        have := depL_bd (T.take i) x hx
        rw [List.length_take] at this
        omega
      generalize T[i]'hlt = t at *
      obtain ⟨k, n, el, ps⟩ := t
      simp only at hvc hP hpl hok1 HT
      have HOK := hide_ hok1
      have t0 := hcx 0 (by decide); have t1 := hcx 1 (by decide); have t2 := hcx 2 (by decide); have t3 := hcx 3 (by decide)
      simp [tyc] at t0 t1 t2 t3
      have kt := Blk.newA wq #[.int .i64 k, .int .i64 n, .int .i64 el, .slice va ps.length vc] 62
      have hBx := below1 wq (.cells #[.int .i64 k, .int .i64 n, .int .i64 el, .slice va ps.length vc] 62)
      obtain ⟨wx, hwx⟩ : ∃ wx, wx = wq.alloc (.cells #[.int .i64 k, .int .i64 n, .int .i64 el, .slice va ps.length vc] 62) := ⟨_, rfl⟩
      rw [← hwx] at kt hBx
      have HBx := hide_ (below_to HB.out hBx)
      have HOx := hide_ (ownS_upd HO.out (Upd.of_below (S := fun _ => False) hBx) (fun _ _ h => h))
      have HP := hide_ (hP.later hBx)
      generalize depL (T.take i) = pre at *
      have HPB := hide_ hbd
      have HPL := hide_ hlen
      obtain ⟨av, cv, hvv, hrow, -⟩ := own_open HOx.out rfl
      subst hvv
      have HRow := hide_ hrow
      have j0 := kt.cell 0; have j2 := kt.cell 2; have j3 := kt.cell 3
      simp at j0 j2 j3
      clear kt hBx hP hc hx hcx hok1 hb HO hbd hlen hrow
      go_upto_region 6 with fail
      rw [← hwx]
      clear hwx t0 t1 t2 t3 i0
      obtain ⟨d0, hd0⟩ : ∃ d0, (if hasE k then pre.getD el.toNat 0 else 0) = d0 := ⟨_, rfl⟩
      have HD0 := hide_ hd0
      have hd0b : 0 ≤ d0 ∧ d0 ≤ (i : Int) := by
        rw [← hd0]
        split
        · exact getD_bdG (by omega) HPB.out _
        · omega
      clear hd0
      obtain ⟨be, hbe⟩ : ∃ be, hasE k = be := ⟨_, rfl⟩
      have HE := hide_ hbe
      clear hbe
      go_upto_region 7 with fail
      go_cut [32] from 19 to 32 (fun x32 wc => x32 = .bool be ∧ wx = wc)
      case first =>
        have hE := HE.out
        unfold hasE at hE
        by_cases k4 : k = 4
        · subst k4
          obtain rfl : true = be := by rw [← hE]; rfl
          go_wp2
          go_meet
          case rel => exact ⟨rfl, rfl⟩
        have c4 : (k == 4) = false := by simpa using k4
        by_cases k5 : k = 5
        · subst k5
          obtain rfl : true = be := by rw [← hE]; rfl
          go_wp2
          go_meet
          case rel => exact ⟨rfl, rfl⟩
        have c5 : (k == 5) = false := by simpa using k5
        by_cases k6 : k = 6
        · subst k6
          obtain rfl : true = be := by rw [← hE]; rfl
          go_wp2
          go_meet
          case rel => exact ⟨rfl, rfl⟩
        have c6 : (k == 6) = false := by simpa using k6
        obtain rfl : false = be := by rw [← hE]; exact (decide_eq_false (by omega)).symm
        clear hE
        go_wp2
        go_meet
        case rel => exact ⟨rfl, rfl⟩
      case rest =>
      obtain ⟨rfl, rfl⟩ := hcut
      go_upto_if 32 with fail
      go_cut [6] from 32 to 37 (fun x6 wc => x6 = .int .i64 d0 ∧ wx = wc)
      case first =>
        cases be with
        | true =>
          have hel := tyOk_elem HOK.out HE.out
          simp only at hel
          obtain ⟨ej, rfl⟩ := Int.eq_ofNat_of_zero_le hel.1
          have hejl : ej < pre.length := by rw [HPL.out]; omega
          have hejl' : (ej : Int) < pre.length := by omega
          obtain ⟨bv, ov, rfl, -, hcv⟩ := HRow.out.open (by omega)
          have hd : pre.getD ej 0 = d0 := by rw [← HD0.out, if_pos HE.out]; simp
          have c1 := hcv ej hejl
          rw [hd] at c1
          clear hcv hd hel
          go_wp2
          go_meet
          case rel => exact ⟨rfl, rfl⟩
        | false =>
          have hd : d0 = 0 := by rw [← HD0.out, HE.out]; rfl
          subst hd
          go_wp2
          go_meet
          case rel => exact ⟨rfl, rfl⟩
      case rest =>
      obtain ⟨rfl, rfl⟩ := hcut
      clear j0 j2
      go_wp2_with fail
      go_loop [6, 7] (fun x6 x7 => ∃ (m : Nat) (d : Int), m ≤ ps.length ∧ x7 = .int .i64 (m : Int) ∧ x6 = .int .i64 d ∧ Hid (kidD pre (ps.take m) d0 = d)) (fun _ x7 => ps.length - (intOf x7).toNat)
      case atStart => exact ⟨0, d0, Nat.zero_le _, rfl, rfl, hide_ rfl⟩
      case round =>
        obtain ⟨m, d, hm, rfl, rfl, HK⟩ := hrel
        have hkb := kidD_bdG (by omega) HPB.out (ps.take m) d0 hd0b
        rw [HK.out] at hkb
        by_cases hlm : m < ps.length
        · have hlm' : (m : Int) < ps.length := by omega
          obtain ⟨b2, o2, rfl, -, hc2⟩ := HP.out.open (by omega)
          have hx2 : ps[m]? = some (ps[m]'hlm) := List.getElem?_eq_getElem hlm
          have hcx2 := hc2 m _ hx2
          have hpr := tyOk_part (t := ⟨k, n, el, ps⟩) HOK.out hx2
          have HS := hide_ (kidD_succ (l := pre) (d := d0) hx2)
          generalize ps[m]'hlm = p at *
          obtain ⟨lb, tg, ty⟩ := p
          simp only at hpr HS
          obtain ⟨ej, rfl⟩ := Int.eq_ofNat_of_zero_le hpr.1
          have hejl : ej < pre.length := by rw [HPL.out]; omega
          have hejl' : (ej : Int) < pre.length := by omega
          obtain ⟨bv, ov, rfl, -, hcv⟩ := HRow.out.open (by omega)
          have c1 := hcv ej hejl
          have y2 := hcx2 2 (by decide)
          simp [ptc] at y2
          rw [HK.out, Int.toNat_natCast] at HS
          generalize pre.getD ej 0 = de at *
          clear hc2 hx2 hcx2 hpr hcv hejl
          go_wp2_with fail
          all_goals
            go_round
            case rel => exact ⟨m + 1, _, by omega, by go_num, rfl, hide_ (by rw [HS.out]; omega)⟩
            case measure => simp [intOf]; omega
        · obtain rfl : m = ps.length := by omega
          have HV : Hid (dep1 pre ⟨k, n, el, ps⟩ = d + 1) := hide_ (by
            have h := HK.out
            rw [List.take_length] at h
            unfold dep1
            simp only
            rw [HD0.out, h])
          have hwr : wrap64 (d + 1) = d + 1 := w64 _ (by omega)
          obtain ⟨g, cap, w5, hrun, hO5, hU5, -⟩ := run_push EInt9 wx 26 w0.heap.size (.slice av pre.length cv) pre.length pre HOx.out (d + 1) (by unfold maxLen; rw [HPL.out]; omega) (by rw [HPL.out]; omega) HBx.out.size
          have HB5 := hide_ (HBx.out.trans (hU5.below w0.heap.size HBx.out.size (fun k hk => (HOx.out.lt k hk).1)))
          have HO5 : Hid (w5.ownsRow w0.heap.size 3 1 (.slice (some ⟨g, 0, none⟩) (pre.length + 1) cap) (depL (T.take (i + 1))).length (cellsL .i64 (depL (T.take (i + 1))))) := hide_ (by
            rw [HT.out, HV.out, List.length_append, List.length_singleton]
            exact hO5)
          have HRun := hide_ hrun
          clear hrun hO5 hU5 HT HV HPL
          go_wp2_with (first | (at_builtin; refine wpList_append_run rfl (.tmp 56) (.tmp 59) 26 26 rfl rfl rfl HRun.out ?_; clear HRun))
          go_roundw
          case rel => exact ⟨_, i + 1, rfl, by omega, by go_num, HO5, HB5⟩
          case measure => simp [intOf]; omega
    · obtain rfl : i = T.length := by omega
      have HV : Hid (wq.ownsRow w.heap.size 3 1 v (depL T).length (cellsL .i64 (depL T))) := hide_ (by have h := HO.out; rw [List.take_length] at h; exact own_base h (by omega))
      have HBe := hide_ (below_to HB0.out HB.out)
      go_wp2
      go_ret
      exact ⟨_, rfl, HV, HBe⟩
end Go.Proofs.Ytdpkmkhflgmioaa

/- The document's Check of a schema. -/
namespace Go.Proofs.Ytdpkmkhflgmioaa
open Go.RowKit
set_option linter.unusedVariables false

def sameN (R : List Rt) (nm : ByteArray) (j : Nat) : Bool := (R.take j).any (fun q => decide (q.name = nm))
theorem sameN_succ {R : List Rt} {nm : ByteArray} {j : Nat} {q : Rt} (h : R[j]? = some q) : sameN R nm (j + 1) = (sameN R nm j || decide (q.name = nm)) := by
  have hj := (List.getElem?_eq_some_iff.1 h).1
  unfold sameN
  rw [List.take_succ_eq_append_getElem hj, (List.getElem?_eq_some_iff.1 h).2]
  simp
theorem rootOk_doc {n : Nat} {R : List Rt} {i : Nat} {r : Rt} (h : R[i]? = some r) : rootOk n R i = (decide (i < 256) && isName r.name && inB r.ty n && !sameN R r.name i) := by
  have e : R.getD i rt0 = r := by simp [List.getD, h]
  have hi := (List.getElem?_eq_some_iff.1 h).1
  unfold rootOk
  rw [e]
  congr 1
  cases hs : sameN R r.name i with
  | true =>
    unfold sameN at hs
    rw [List.any_eq_true] at hs
    obtain ⟨q, hq, hqn⟩ := hs
    obtain ⟨j, hj⟩ := List.getElem?_of_mem hq
    rw [List.getElem?_take] at hj
    split at hj
    · rename_i hji
      rw [decide_eq_false]
      · rfl
      · intro hf
        unfold findR at hf
        have hlt : R.findIdx (fun q => decide (q.name = r.name)) ≤ j := by
          have hjl := (List.getElem?_eq_some_iff.1 hj).1
          refine Nat.le_of_not_lt (fun h' => ?_)
          have := List.not_of_lt_findIdx h'
          rw [(List.getElem?_eq_some_iff.1 hj).2, hqn] at this
          cases this
        omega
    · cases hj
  | false =>
    unfold sameN at hs
    rw [List.any_eq_false] at hs
    rw [findR_at h rfl (fun j q hj hq => ?_)]
    · simp
    · have := hs q (List.mem_of_getElem? (i := j) (by rw [List.getElem?_take, if_pos hj]; exact hq))
      simpa using this
set_option maxRecDepth 100000 in
set_option maxHeartbeats 8000000 in
theorem checkR_any (a : Option Addr) (c : Nat) (T : List Ty) (ar : Option Addr) (cr : Nat) (R : List Rt) (w : World) (hn : T.length ≤ 3000000000000) (hm : R.length ≤ 10000000000000) (hL : Hid (LensT T)) (hT : Hid (TRow w a T)) (hR : Hid (RRow w ar R)) :
    Calls Try.prog 8 #[.agg #[.slice a T.length c, .slice ar R.length cr]] w fun e w' => e = .returned (.agg #[.int .i64 (chk T R).1, .int .i64 (chk T R).2]) ∧ Below w.heap.size w w' := by
  have hB := below2 w (.cells #[.slice a T.length c, .slice ar R.length cr] 25) (.cells #[.int .i64 0, .int .i64 0] 34)
  obtain ⟨k1, k2⟩ := blk2 w #[.slice a T.length c, .slice ar R.length cr] #[.int .i64 0, .int .i64 0] 25 34
  obtain ⟨w0, hw0⟩ : ∃ wx, wx = (w.alloc (.cells #[.slice a T.length c, .slice ar R.length cr] 25)).alloc (.cells #[.int .i64 0, .int .i64 0] 34) := ⟨_, rfl⟩
  rw [← hw0] at hB k1 k2
  have HB0 := hide_ hB
  have K1 := hide_ k1
  have K2 := hide_ k2
  have hs1 : w.heap.size < w0.heap.size := k1.lt
  have hs2 : w.heap.size + 1 < w0.heap.size := k2.lt
  obtain ⟨vE, hE⟩ : ∃ vE, (chk T R).1 = vE := ⟨_, rfl⟩
  obtain ⟨vA, hA⟩ : ∃ vA, (chk T R).2 = vA := ⟨_, rfl⟩
  rw [hE, hA]
  have HC : Hid (chk T R = (vE, vA)) := hide_ (by rw [← hE, ← hA])
  clear hB k1 k2 hE hA
  go_enter Try.func8, Try.ntmps8
  go_upto_region 1 with fail
  rw [← hw0]
  clear hw0
  go_wp2_with fail
  go_loopw [3] (fun x3 wr => ∃ i : Nat, i ≤ T.length ∧ x3 = .int .i64 (i : Int) ∧ Hid (∀ j, j < i → tyOk (T.getD j ty0) j = true) ∧ Hid (Below w0.heap.size w0 wr)) (fun x3 _ => T.length - (intOf x3).toNat)
  case atStart => exact ⟨0, Nat.zero_le _, rfl, hide_ (fun j hj => by omega), hide_ (Below.refl _ _)⟩
  case round =>
    obtain ⟨i, hi, rfl, HA, HB⟩ := hrel
    generalize wr = wq at *
    have KSq := hide_ (K1.out.later HB.out)
    have i0 := KSq.out.cell 0; have i1 := KSq.out.cell 1
    simp at i0 i1
    by_cases hlt : i < T.length
    · have hlt' : (i : Int) < T.length := by omega
      obtain ⟨b, o, rfl, hb, hc⟩ := (hT.out.later (below_to HB0.out HB.out)).open (by omega)
      have hx : T[i]? = some (T[i]'hlt) := List.getElem?_eq_getElem hlt
      obtain ⟨va, vc, hcx, hvc, -, hP⟩ := hc i _ hx
      have hgd : T.getD i ty0 = T[i]'hlt := by simp [List.getD, hlt]
      have HGD := hide_ hgd
      generalize T[i]'hlt = t at *
      have t0 := hcx 0 (by decide); have t1 := hcx 1 (by decide); have t2 := hcx 2 (by decide); have t3 := hcx 3 (by decide)
      simp [tyc] at t0 t1 t2 t3
      have HCon := hide_ (right_any t va vc i wq (by omega) (hide_ hP))
      obtain ⟨ok, hok⟩ : ∃ ok, tyOk t (i : Int) = ok := ⟨_, rfl⟩
      rw [hok] at HCon
      have HOK := hide_ hok
      clear hc hx hcx hP hok hgd hb
      go_wp2_with fail
      refine HCon.out.mono ?_; rintro e w1 ⟨rfl, hB1⟩
      have HB1 := hide_ (below_to HB.out hB1)
      clear hB1 t0 t1 t2 t3 i0 i1
      cases ok with
      | true =>
        have HA2 : Hid (∀ j, j < i + 1 → tyOk (T.getD j ty0) j = true) := hide_ (fun j hj => by
          rcases Nat.lt_or_ge j i with h | h
          · exact HA.out j h
          · obtain rfl : j = i := by omega
            rw [HGD.out]; exact HOK.out)
        go_wp2_with fail
        go_roundw
        case rel => exact ⟨i + 1, by omega, by go_num, HA2, HB1⟩
        case measure => simp [intOf]; omega
      | false =>
        have HV : Hid (vE = 92 ∧ vA = (i : Int)) := hide_ (by
          have h := chk_ty (R := R) hlt (by rw [HGD.out]; exact HOK.out) HA.out
          rw [HC.out] at h
          injection h with h1 h2
          exact ⟨h1, h2⟩)
        have KF := hide_ (K2.out.later HB1.out)
        have l0 := KF.out.cell 0; have l1 := KF.out.cell 1
        simp at l0 l1
        have f0 := fun i => KF.out.frozen i
        have HK := hide_ (wr2 KF.out (.int .i64 92) (.int .i64 (i : Int)))
        have HBf := hide_ (below_wr2 (below_to HB0.out HB1.out) (w.heap.size + 1) (by omega) (.int .i64 92) (.int .i64 (i : Int)))
        go_wp2
        refine retF (x := 92) (y := (i : Int)) rfl rfl HK.out ⟨by rw [HV.out.1, HV.out.2], HBf.out⟩
    · obtain rfl : i = T.length := by omega
      have HCD : Hid (chkD T R = (vE, vA)) := hide_ (by rw [← chk_deep (R := R) HA.out]; exact HC.out)
      have HDp := hide_ (depths_any a c (.slice ar R.length cr) T wq (by omega) hL (hide_ (hT.out.later (below_to HB0.out HB.out))) HA)
      go_wp2_with fail
      refine HDp.out.mono ?_; rintro e w1 ⟨vd, rfl, HO1, hB1⟩
      have HB1 := hide_ (below_to HB.out hB1.out)
      obtain ⟨ad, cd, hvd, hrow, -⟩ := own_open HO1.out rfl
      subst hvd
      rw [depL_len]
      have HRow := hide_ hrow
      have HDL := hide_ (depL_len T)
      clear hB1 i0 i1 HDp hrow HO1
      go_wp2_with fail
      go_loop [5] (fun x5 => ∃ i : Nat, i ≤ T.length ∧ x5 = .int .i64 (i : Int) ∧ Hid (∀ j, j < i → (depL T).getD j 0 ≤ 64)) (fun x5 => T.length - (intOf x5).toNat)
      case atStart => exact ⟨0, Nat.zero_le _, rfl, hide_ (fun j hj => by omega)⟩
      case round =>
        obtain ⟨i, hi, rfl, HD⟩ := hrel
        by_cases hlt : i < T.length
        · have hlt' : (i : Int) < T.length := by omega
          obtain ⟨bd, od, rfl, -, hcd⟩ := HRow.out.open (by rw [HDL.out]; omega)
          have c1 := hcd i (by rw [HDL.out]; omega)
          obtain ⟨d, hd⟩ : ∃ d, (depL T).getD i 0 = d := ⟨_, rfl⟩
          rw [hd] at c1
          have HDi := hide_ hd
          clear hcd hd
          by_cases hgt : 64 < d
          · have HV : Hid (vE = 83 ∧ vA = (i : Int)) := hide_ (by
              have h := chkD_at (R := R) hlt (by rw [HDi.out]; exact hgt) HD.out
              rw [HCD.out] at h
              injection h with h1 h2
              exact ⟨h1, h2⟩)
            have KF := hide_ (K2.out.later HB1.out)
            have l0 := KF.out.cell 0; have l1 := KF.out.cell 1
            simp at l0 l1
            have f0 := fun i => KF.out.frozen i
            have HK := hide_ (wr2 KF.out (.int .i64 83) (.int .i64 (i : Int)))
            have HBf := hide_ (below_wr2 (below_to HB0.out HB1.out) (w.heap.size + 1) (by omega) (.int .i64 83) (.int .i64 (i : Int)))
            go_wp2
            refine retF (x := 83) (y := (i : Int)) rfl rfl HK.out ⟨by rw [HV.out.1, HV.out.2], HBf.out⟩
          · have HD2 : Hid (∀ j, j < i + 1 → (depL T).getD j 0 ≤ 64) := hide_ (fun j hj => by
              rcases Nat.lt_or_ge j i with h | h
              · exact HD.out j h
              · obtain rfl : j = i := by omega
                rw [HDi.out]; omega)
            go_wp2_with fail
            go_round
            case rel => exact ⟨i + 1, by omega, by go_num, HD2⟩
            case measure => simp [intOf]; omega
        · obtain rfl : i = T.length := by omega
          have HCR : Hid (chkR T.length R = (vE, vA)) := hide_ (by rw [← chkD_none (R := R) HD.out]; exact HCD.out)
          clear HRow HD
          go_wp2_with fail
          go_loopw [6] (fun x6 wr => ∃ i : Nat, i ≤ R.length ∧ x6 = .int .i64 (i : Int) ∧ Hid (∀ j, j < i → rootOk T.length R j = true) ∧ Hid (Below w0.heap.size w0 wr)) (fun x6 _ => R.length - (intOf x6).toNat)
          case atStart => exact ⟨0, Nat.zero_le _, rfl, hide_ (fun j hj => by omega), HB1⟩
          case round =>
            obtain ⟨i, hi, rfl, HAr, HBr⟩ := hrel
            generalize wr = wq at *
            have KSq := hide_ (K1.out.later HBr.out)
            have i0 := KSq.out.cell 0; have i1 := KSq.out.cell 1
            simp at i0 i1
            by_cases hlt : i < R.length
            · have hlt' : (i : Int) < R.length := by omega
              obtain ⟨b, o, rfl, hb, hc⟩ := (hR.out.later (below_to HB0.out HBr.out)).open (by omega)
              have hx : R[i]? = some (R[i]'hlt) := List.getElem?_eq_getElem hlt
              have hcx := hc i _ hx
              have HX := hide_ hx
              generalize R[i]'hlt = r at *
              have r0 := hcx 0 (by decide); have r1 := hcx 1 (by decide)
              simp [rtc] at r0 r1
              have HDoc := hide_ (rootOk_doc (n := T.length) HX.out)
              obtain ⟨nm, hnm⟩ : ∃ x, isName r.name = x := ⟨_, rfl⟩
              obtain ⟨bn, hbn⟩ : ∃ x, inB r.ty T.length = x := ⟨_, rfl⟩
              rw [hnm, hbn] at HDoc
              have HNm : Hid (∀ w, Calls Try.prog 26 #[.string r.name] w fun e w' => e = .returned (.bool nm) ∧ w = w') := hide_ (fun w => by have h := nameD_any r.name w; rwa [hnm] at h)
              have HIn : Hid (∀ w, Calls Try.prog 27 #[.int .i64 r.ty, .int .i64 0, .int .i64 ((T.length : Int) - 1)] w fun e w' => e = .returned (.bool bn) ∧ w = w') := hide_ (fun w => by have h := inR_any r.ty 0 ((T.length : Int) - 1) w; rwa [inR_at, hbn] at h)
              have hwt : wrap64 ((T.length : Int) - 1) = (T.length : Int) - 1 := w64 _ (by omega)
              obtain ⟨b0, hb0⟩ : ∃ x, (decide (i < 256) && nm && bn) = x := ⟨_, rfl⟩
              rw [hb0] at HDoc
              have HB00 := hide_ hb0
              have HRq := hide_ (hR.out.later (below_to HB0.out HBr.out))
              clear hc hx hcx hnm hbn hb0 hb
              go_upto_region 15 with fail
              go_cut [7] from 47 to 71 (fun x7 wc => x7 = .bool b0 ∧ ∃ w1, w1 = wc ∧ Hid (Below wq.heap.size wq w1))
              case first =>
                by_cases h256 : i < 256
                · have h256' : (i : Int) < 256 := by omega
                  have hB := HB00.out
                  rw [decide_eq_true h256] at hB
                  cases nm with
                  | false =>
                    obtain rfl : false = b0 := by rw [← hB]; rfl
                    clear hB
                    go_wp2_with fail
                    go_quiet (first | (go_at_call 26; exact Calls.quiet_of_same ((HNm.out _).mono fun _ _ h => ⟨h.1, h.2.symm⟩)))
                    go_wp2
                    go_meet
                    case rel => exact ⟨rfl, _, rfl, hide_ (below_drewN (Below.refl _ wq) nq)⟩
                  | true =>
                    obtain rfl : bn = b0 := by rw [← hB]; rfl
                    clear hB
                    go_wp2_with fail
                    go_quiet (first | (go_at_call 26; exact Calls.quiet_of_same ((HNm.out _).mono fun _ _ h => ⟨h.1, h.2.symm⟩)) | (go_at_call 27; exact Calls.quiet_of_same ((HIn.out _).mono fun _ _ h => ⟨h.1, h.2.symm⟩)))
                    go_wp2
                    go_meet
                    case rel => exact ⟨rfl, _, rfl, hide_ (below_drewN (Below.refl _ wq) nq)⟩
                · have h256' : decide ((i : Int) < 256) = false := decide_eq_false (by omega)
                  obtain rfl : false = b0 := by rw [← HB00.out, decide_eq_false h256]; rfl
                  go_wp2_with fail
                  go_quiet (fail)
                  go_wp2
                  go_meet
                  case rel => exact ⟨rfl, _, rfl, hide_ (below_drewN (Below.refl _ wq) nq)⟩
              case rest =>
              obtain ⟨rfl, w1, rfl, HBc⟩ := hcut
              clear i0 i1 r0 r1 HNm HIn HB00
              go_wp2_with fail
              go_loopw [7, 8] (fun x7 x8 wr => ∃ (j : Nat) (ok : Bool), j ≤ i ∧ x8 = .int .i64 (j : Int) ∧ x7 = .bool ok ∧ Hid ((b0 && !sameN R r.name j) = ok) ∧ Hid (Below wq.heap.size wq wr)) (fun _ x8 _ => i - (intOf x8).toNat)
              case atStart => exact ⟨0, b0, Nat.zero_le _, rfl, rfl, hide_ (by simp [sameN]), HBc⟩
              case round =>
                obtain ⟨j, ok, hj, rfl, rfl, HOk, HBj⟩ := hrel
                generalize wr = wp at *
                clear HBc
                have KSp := hide_ (KSq.out.later HBj.out)
                have i0 := KSp.out.cell 0; have i1 := KSp.out.cell 1
                simp at i0 i1
                have HBw := hide_ (below_to HBr.out HBj.out)
                by_cases hji : j < i
                · have hji' : (j : Int) < i := by omega
                  have hjl : j < R.length := by omega
                  have hjl' : (j : Int) < R.length := by omega
                  obtain ⟨b', o', hax, -, hc⟩ := (HRq.out.later HBj.out).open (by omega)
                  injection hax with hax
                  injection hax with e1 e2 _
                  subst e1 e2
                  have hx : R[j]? = some (R[j]'hjl) := List.getElem?_eq_getElem hjl
                  have q0 := hc j _ hx 0 (by decide)
                  have p0 := hc i _ HX.out 0 (by decide)
                  have HS := hide_ (sameN_succ (nm := r.name) hx)
                  generalize R[j]'hjl = q at *
                  simp [rtc] at q0 p0
                  clear hc hx
                  cases ok with
                  | false =>
                    have HO2 : Hid ((b0 && !sameN R r.name (j + 1)) = false) := hide_ (by
                      have h := HOk.out
                      rw [HS.out]
                      cases b0
                      · rfl
                      · simp at h ⊢; simp [h])
                    go_wp2_with fail
                    go_quiet (fail)
                    have HBq := hide_ (below_drewN HBj.out nq)
                    go_wp2_with fail
                    go_roundw
                    case rel => exact ⟨j + 1, false, by omega, by go_num, rfl, HO2, HBq⟩
                    case measure => simp [intOf]; omega
                  | true =>
                    by_cases he : q.name = r.name
                    · have hs : (q.name.toList == r.name.toList) = true := by rw [he]; simp
                      have hs2 : (q.name.toList != r.name.toList) = false := by rw [he]; simp
                      have HO2 : Hid ((b0 && !sameN R r.name (j + 1)) = false) := hide_ (by rw [HS.out, decide_eq_true he]; simp)
                      clear he
                      go_wp2_with fail
                      go_quiet (fail)
                      have HBq := hide_ (below_drewN HBj.out nq)
                      go_wp2_with fail
                      go_roundw
                      case rel => exact ⟨j + 1, false, by omega, by go_num, rfl, HO2, HBq⟩
                      case measure => simp [intOf]; omega
                    · have hs : (q.name.toList == r.name.toList) = false := by rw [str_eq]; exact decide_eq_false he
                      have hs2 : (q.name.toList != r.name.toList) = true := by simp [bne, hs]
                      have HO2 : Hid ((b0 && !sameN R r.name (j + 1)) = true) := hide_ (by rw [HS.out, decide_eq_false he, Bool.or_false]; exact HOk.out)
                      clear he
                      go_wp2_with fail
                      go_quiet (fail)
                      have HBq := hide_ (below_drewN HBj.out nq)
                      go_wp2_with fail
                      go_roundw
                      case rel => exact ⟨j + 1, true, by omega, by go_num, rfl, HO2, HBq⟩
                      case measure => simp [intOf]; omega
                · obtain rfl : j = i := by omega
                  have HRo : Hid (rootOk T.length R j = ok) := hide_ (by rw [HDoc.out]; exact HOk.out)
                  cases ok with
                  | true =>
                    have HA2 : Hid (∀ q, q < j + 1 → rootOk T.length R q = true) := hide_ (fun q hq => by
                      rcases Nat.lt_or_ge q j with h | h
                      · exact HAr.out q h
                      · obtain rfl : q = j := by omega
                        exact HRo.out)
                    go_wp2_with fail
                    go_roundw
                    case rel => exact ⟨j + 1, by omega, by go_num, HA2, HBw⟩
                    case measure => simp [intOf]; omega
                  | false =>
                    have HV : Hid (vE = 92 ∧ vA = (T.length : Int) + j) := hide_ (by
                      have h := chkR_at hlt HRo.out HAr.out
                      rw [HCR.out] at h
                      injection h with h1 h2
                      exact ⟨h1, h2⟩)
                    have KF := hide_ (K2.out.later HBw.out)
                    have l0 := KF.out.cell 0; have l1 := KF.out.cell 1
                    simp at l0 l1
                    have f0 := fun i => KF.out.frozen i
                    have hwr : wrap64 ((T.length : Int) + j) = (T.length : Int) + j := w64 _ (by omega)
                    have HK := hide_ (wr2 KF.out (.int .i64 92) (.int .i64 ((T.length : Int) + j)))
                    have HBf := hide_ (below_wr2 (below_to HB0.out HBw.out) (w.heap.size + 1) (by omega) (.int .i64 92) (.int .i64 ((T.length : Int) + j)))
                    go_wp2
                    refine retF (x := 92) (y := (T.length : Int) + j) rfl rfl HK.out ⟨by rw [HV.out.1, HV.out.2], HBf.out⟩
            · obtain rfl : i = R.length := by omega
              have HV : Hid (vE = 0 ∧ vA = 0) := hide_ (by
                have h := chkR_none HAr.out
                rw [HCR.out] at h
                injection h with h1 h2
                exact ⟨h1, h2⟩)
              have KF := hide_ (K2.out.later HBr.out)
              have l0 := KF.out.cell 0; have l1 := KF.out.cell 1
              simp at l0 l1
              have f0 := fun i => KF.out.frozen i
              have HK := hide_ (wr2 KF.out (.int .i64 0) (.int .i64 0))
              have HBf := hide_ (below_wr2 (below_to HB0.out HBr.out) (w.heap.size + 1) (by omega) (.int .i64 0) (.int .i64 0))
              go_wp2
              refine retF (x := 0) (y := 0) rfl rfl HK.out ⟨by rw [HV.out.1, HV.out.2], HBf.out⟩
end Go.Proofs.Ytdpkmkhflgmioaa

/- The document's extents: part, leaf; one, by kinds: no parts, a vector, a list, an option. -/
namespace Go.Proofs.Ytdpkmkhflgmioaa
open Go.RowKit
set_option linter.unusedVariables false

set_option maxRecDepth 100000 in
set_option maxHeartbeats 4000000 in
theorem part_any (x : Ex) (w : World) : Calls Try.prog 72 #[.agg #[.bool x.f, .int .i64 x.l, .int .i64 x.m, .int .i64 x.d]] w fun e w' => e = .returned (.tuple #[.int .i64 (offX x).l, .int .i64 (offX x).m]) ∧ Below w.heap.size w w' := by
  obtain ⟨xf, xl, xm, xd⟩ := x
  obtain ⟨w0, hw0⟩ : ∃ wx, wx = w.alloc (.cells #[.bool xf, .int .i64 xl, .int .i64 xm, .int .i64 xd] 48) := ⟨_, rfl⟩
  have k0 : Blk w0 w.heap.size 48 [.bool xf, .int .i64 xl, .int .i64 xm, .int .i64 xd] := by rw [hw0]; exact Blk.newA w _ _
  have b0 : Below w.heap.size w w0 := by rw [hw0]; exact below1 _ _
  have K0 := hide_ k0
  have HB0 := hide_ b0
  have i0 := k0.cell 0; have i1 := k0.cell 1; have i2 := k0.cell 2
  simp at i0 i1 i2
  clear k0 b0
  cases xf with
  | true =>
    simp only [offX, if_true]
    go_enter Try.func72, Try.ntmps72
    go_upto_region 1 with fail
    rw [← hw0]
    clear hw0
    go_wp2_with fail
    go_region
    all_goals
      have HBd := hide_ (HB0.out.drew)
      go_wp2
      go_ret2
      exact ⟨rfl, HBd.out⟩
  | false =>
    have e1 : offX ⟨false, xl, xm, xd⟩ = ⟨false, plus2 4 xl, plus2 4 xm, xd⟩ := rfl
    rw [e1]
    simp only
    have HC1 : Hid (∀ w', Calls Try.prog 74 #[.int .i64 4, .int .i64 xl] w' fun e w'' => e = .returned (.int .i64 (plus2 4 xl)) ∧ Below w'.heap.size w' w'') := hide_ (fun w' => rplus_any 4 xl w')
    have HC2 : Hid (∀ w', Calls Try.prog 74 #[.int .i64 4, .int .i64 xm] w' fun e w'' => e = .returned (.int .i64 (plus2 4 xm)) ∧ Below w'.heap.size w' w'') := hide_ (fun w' => rplus_any 4 xm w')
    generalize plus2 4 xl = p1 at *
    generalize plus2 4 xm = p2 at *
    have HSS : Hid (∀ w', Below w0.heap.size w0 w' → Below w0.heap.size w0 w' ∧ w'.cell? ⟨w.heap.size, 1, none⟩ = some (.int .i64 xl) ∧ w'.cell? ⟨w.heap.size, 2, none⟩ = some (.int .i64 xm)) := hide_ (fun w' hB => ⟨hB, (K0.out.later hB).cell 1, (K0.out.later hB).cell 2⟩)
    clear e1
    go_enter Try.func72, Try.ntmps72
    go_upto_region 1 with fail
    rw [← hw0]
    clear hw0
    go_wp2_with fail
    go_region_held_law (fun w' => Below w0.heap.size w0 w' ∧ w'.cell? ⟨w.heap.size, 1, none⟩ = some (.int .i64 xl) ∧ w'.cell? ⟨w.heap.size, 2, none⟩ = some (.int .i64 xm)) (first | assumption | exact HSS.out _ ((Below.refl _ _).drew) | exact HSS.out _ (Below.refl _ _))
      (first
        | (go_at_call_of 74 (Value.int .i64 xl); refine (HC1.out _).mono ?_; rintro e w2 ⟨rfl, hB2⟩; (have G2 := HSS.out w2 (below_to (by first | assumption | exact And.left (by assumption)) hB2)); (clear hB2))
        | (go_at_call 74; refine (HC1.out _).mono ?_; rintro e w2 ⟨rfl, hB2⟩; (have G2 := HSS.out w2 (below_to (by first | assumption | exact And.left (by assumption)) hB2)); (clear hB2))
        | (go_at_call 74; refine (HC2.out _).mono ?_; rintro e w3 ⟨rfl, hB3⟩; (have G3 := HSS.out w3 (below_to (by first | assumption | exact And.left (by assumption)) hB3)); (clear hB3)))
    all_goals
      go_wp2
      go_ret2
      exact ⟨rfl, below_to HB0.out (by first | exact G3.1 | exact G2.1)⟩
end Go.Proofs.Ytdpkmkhflgmioaa

/- The document's extents: leaf; one, by kinds: no parts, a vector, a list, an option. -/
namespace Go.Proofs.Ytdpkmkhflgmioaa
open Go.RowKit
set_option linter.unusedVariables false

def leafX (k n : Int) : Ex := if k = 1 then ⟨true, n, n, 1⟩ else if k = 2 then ⟨true, 1, 1, 1⟩ else ⟨false, 1, 10, 1⟩
set_option maxRecDepth 100000 in
set_option maxHeartbeats 4000000 in
theorem leaf1_any (n el : Int) (ps : List Pt) (va : Option Addr) (vc : Nat) (w : World) : Calls Try.prog 75 #[.agg #[.int .i64 1, .int .i64 n, .int .i64 el, .slice va ps.length vc]] w fun e w' => e = .returned (exv ⟨true, n, n, 1⟩) ∧ Below w.heap.size w w' := by
  have hB := below2 w (.cells #[.int .i64 1, .int .i64 n, .int .i64 el, .slice va ps.length vc] 62) (.cells #[.bool false, .int .i64 0, .int .i64 0, .int .i64 0] 48)
  obtain ⟨k1, k2⟩ := blk2 w #[.int .i64 1, .int .i64 n, .int .i64 el, .slice va ps.length vc] #[.bool false, .int .i64 0, .int .i64 0, .int .i64 0] 62 48
  obtain ⟨w0, hw0⟩ : ∃ wx, wx = (w.alloc (.cells #[.int .i64 1, .int .i64 n, .int .i64 el, .slice va ps.length vc] 62)).alloc (.cells #[.bool false, .int .i64 0, .int .i64 0, .int .i64 0] 48) := ⟨_, rfl⟩
  rw [← hw0] at hB k1 k2
  have K1 := hide_ k1
  have K2 := hide_ k2
  have HB := hide_ hB
  have i0 := k1.cell 0; have i1 := k1.cell 1; have i2 := k1.cell 2; have i3 := k1.cell 3
  have j0 := k2.cell 0; have j1 := k2.cell 1; have j2 := k2.cell 2; have j3 := k2.cell 3
  have jf := fun i => k2.frozen i
  simp at i0 i1 i2 i3 j0 j1 j2 j3
  have HK := hide_ (wr4 k2 (.bool true) (.int .i64 n) (.int .i64 n) (.int .i64 1))
  have HBf := hide_ (below_wr4 hB (w.heap.size + 1) (by omega) (.bool true) (.int .i64 n) (.int .i64 n) (.int .i64 1))
  clear hB k1 k2
  go_enter Try.func75, Try.ntmps75
  go_upto_region 1 with fail
  rw [← hw0]
  clear hw0
  go_wp2
  exact retX (x := ⟨true, n, n, 1⟩) rfl rfl HK.out ⟨rfl, HBf.out⟩
set_option maxRecDepth 100000 in
set_option maxHeartbeats 4000000 in
theorem leaf2_any (n el : Int) (ps : List Pt) (va : Option Addr) (vc : Nat) (w : World) : Calls Try.prog 75 #[.agg #[.int .i64 2, .int .i64 n, .int .i64 el, .slice va ps.length vc]] w fun e w' => e = .returned (exv ⟨true, 1, 1, 1⟩) ∧ Below w.heap.size w w' := by
  have hB := below2 w (.cells #[.int .i64 2, .int .i64 n, .int .i64 el, .slice va ps.length vc] 62) (.cells #[.bool false, .int .i64 0, .int .i64 0, .int .i64 0] 48)
  obtain ⟨k1, k2⟩ := blk2 w #[.int .i64 2, .int .i64 n, .int .i64 el, .slice va ps.length vc] #[.bool false, .int .i64 0, .int .i64 0, .int .i64 0] 62 48
  obtain ⟨w0, hw0⟩ : ∃ wx, wx = (w.alloc (.cells #[.int .i64 2, .int .i64 n, .int .i64 el, .slice va ps.length vc] 62)).alloc (.cells #[.bool false, .int .i64 0, .int .i64 0, .int .i64 0] 48) := ⟨_, rfl⟩
  rw [← hw0] at hB k1 k2
  have K1 := hide_ k1
  have K2 := hide_ k2
  have HB := hide_ hB
  have i0 := k1.cell 0; have i1 := k1.cell 1; have i2 := k1.cell 2; have i3 := k1.cell 3
  have j0 := k2.cell 0; have j1 := k2.cell 1; have j2 := k2.cell 2; have j3 := k2.cell 3
  have jf := fun i => k2.frozen i
  simp at i0 i1 i2 i3 j0 j1 j2 j3
  have HK := hide_ (wr4 k2 (.bool true) (.int .i64 1) (.int .i64 1) (.int .i64 1))
  have HBf := hide_ (below_wr4 hB (w.heap.size + 1) (by omega) (.bool true) (.int .i64 1) (.int .i64 1) (.int .i64 1))
  clear hB k1 k2
  go_enter Try.func75, Try.ntmps75
  go_upto_region 1 with fail
  rw [← hw0]
  clear hw0
  go_wp2
  exact retX (x := ⟨true, 1, 1, 1⟩) rfl rfl HK.out ⟨rfl, HBf.out⟩
set_option maxRecDepth 100000 in
set_option maxHeartbeats 4000000 in
theorem leaf3_any (n el : Int) (ps : List Pt) (va : Option Addr) (vc : Nat) (w : World) : Calls Try.prog 75 #[.agg #[.int .i64 3, .int .i64 n, .int .i64 el, .slice va ps.length vc]] w fun e w' => e = .returned (exv ⟨false, 1, 10, 1⟩) ∧ Below w.heap.size w w' := by
  have hB := below2 w (.cells #[.int .i64 3, .int .i64 n, .int .i64 el, .slice va ps.length vc] 62) (.cells #[.bool false, .int .i64 0, .int .i64 0, .int .i64 0] 48)
  obtain ⟨k1, k2⟩ := blk2 w #[.int .i64 3, .int .i64 n, .int .i64 el, .slice va ps.length vc] #[.bool false, .int .i64 0, .int .i64 0, .int .i64 0] 62 48
  obtain ⟨w0, hw0⟩ : ∃ wx, wx = (w.alloc (.cells #[.int .i64 3, .int .i64 n, .int .i64 el, .slice va ps.length vc] 62)).alloc (.cells #[.bool false, .int .i64 0, .int .i64 0, .int .i64 0] 48) := ⟨_, rfl⟩
  rw [← hw0] at hB k1 k2
  have K1 := hide_ k1
  have K2 := hide_ k2
  have HB := hide_ hB
  have i0 := k1.cell 0; have i1 := k1.cell 1; have i2 := k1.cell 2; have i3 := k1.cell 3
  have j0 := k2.cell 0; have j1 := k2.cell 1; have j2 := k2.cell 2; have j3 := k2.cell 3
  have jf := fun i => k2.frozen i
  simp at i0 i1 i2 i3 j0 j1 j2 j3
  have HK := hide_ (wr4 k2 (.bool false) (.int .i64 1) (.int .i64 10) (.int .i64 1))
  have HBf := hide_ (below_wr4 hB (w.heap.size + 1) (by omega) (.bool false) (.int .i64 1) (.int .i64 10) (.int .i64 1))
  clear hB k1 k2
  go_enter Try.func75, Try.ntmps75
  go_upto_region 1 with fail
  rw [← hw0]
  clear hw0
  go_wp2
  exact retX (x := ⟨false, 1, 10, 1⟩) rfl rfl HK.out ⟨rfl, HBf.out⟩
set_option maxRecDepth 100000 in
set_option maxHeartbeats 4000000 in
theorem one1_any (n el : Int) (ps : List Pt) (va : Option Addr) (vc : Nat) (vX : Value) (w : World) : Calls Try.prog 52 #[.agg #[.int .i64 1, .int .i64 n, .int .i64 el, .slice va ps.length vc], vX] w fun e w' => e = .returned (exv ⟨true, n, n, 1⟩) ∧ Below w.heap.size w w' := by
  have hB := below2 w (.cells #[.int .i64 1, .int .i64 n, .int .i64 el, .slice va ps.length vc] 62) (.cells #[.bool false, .int .i64 0, .int .i64 0, .int .i64 0] 48)
  obtain ⟨k1, k2⟩ := blk2 w #[.int .i64 1, .int .i64 n, .int .i64 el, .slice va ps.length vc] #[.bool false, .int .i64 0, .int .i64 0, .int .i64 0] 62 48
  obtain ⟨w0, hw0⟩ : ∃ wx, wx = (w.alloc (.cells #[.int .i64 1, .int .i64 n, .int .i64 el, .slice va ps.length vc] 62)).alloc (.cells #[.bool false, .int .i64 0, .int .i64 0, .int .i64 0] 48) := ⟨_, rfl⟩
  rw [← hw0] at hB k1 k2
  have K1 := hide_ k1
  have K2 := hide_ k2
  have HB := hide_ hB
  have i0 := k1.cell 0; have i1 := k1.cell 1; have i2 := k1.cell 2; have i3 := k1.cell 3
  have j0 := k2.cell 0; have j1 := k2.cell 1; have j2 := k2.cell 2; have j3 := k2.cell 3
  have jf := fun i => k2.frozen i
  simp at i0 i1 i2 i3 j0 j1 j2 j3
  have HL := hide_ (leaf1_any n el ps va vc w0)
  clear hB k1 k2
  go_enter Try.func52, Try.ntmps52
  go_upto_region 1 with fail
  rw [← hw0]
  clear hw0
  go_wp2_with fail
  refine HL.out.mono ?_; rintro e w1 ⟨rfl, hB1⟩
  have k3 := K2.out.later hB1
  have HK := hide_ (wr4 k3 (.bool true) (.int .i64 n) (.int .i64 n) (.int .i64 1))
  have HBf := hide_ (below_wr4 (below_to HB.out hB1) (w.heap.size + 1) (by omega) (.bool true) (.int .i64 n) (.int .i64 n) (.int .i64 1))
  clear j0 j1 j2 j3 jf i0 i1 i2 i3
  have j0 := k3.cell 0; have j1 := k3.cell 1; have j2 := k3.cell 2; have j3 := k3.cell 3
  have jf := fun i => k3.frozen i
  simp at j0 j1 j2 j3
  clear k3 hB1 HL
  simp only [exv]
  go_wp2
  exact retX (x := ⟨true, n, n, 1⟩) rfl rfl HK.out ⟨rfl, HBf.out⟩
set_option maxRecDepth 100000 in
set_option maxHeartbeats 4000000 in
theorem one2_any (n el : Int) (ps : List Pt) (va : Option Addr) (vc : Nat) (vX : Value) (w : World) : Calls Try.prog 52 #[.agg #[.int .i64 2, .int .i64 n, .int .i64 el, .slice va ps.length vc], vX] w fun e w' => e = .returned (exv ⟨true, 1, 1, 1⟩) ∧ Below w.heap.size w w' := by
  have hB := below2 w (.cells #[.int .i64 2, .int .i64 n, .int .i64 el, .slice va ps.length vc] 62) (.cells #[.bool false, .int .i64 0, .int .i64 0, .int .i64 0] 48)
  obtain ⟨k1, k2⟩ := blk2 w #[.int .i64 2, .int .i64 n, .int .i64 el, .slice va ps.length vc] #[.bool false, .int .i64 0, .int .i64 0, .int .i64 0] 62 48
  obtain ⟨w0, hw0⟩ : ∃ wx, wx = (w.alloc (.cells #[.int .i64 2, .int .i64 n, .int .i64 el, .slice va ps.length vc] 62)).alloc (.cells #[.bool false, .int .i64 0, .int .i64 0, .int .i64 0] 48) := ⟨_, rfl⟩
  rw [← hw0] at hB k1 k2
  have K1 := hide_ k1
  have K2 := hide_ k2
  have HB := hide_ hB
  have i0 := k1.cell 0; have i1 := k1.cell 1; have i2 := k1.cell 2; have i3 := k1.cell 3
  have j0 := k2.cell 0; have j1 := k2.cell 1; have j2 := k2.cell 2; have j3 := k2.cell 3
  have jf := fun i => k2.frozen i
  simp at i0 i1 i2 i3 j0 j1 j2 j3
  have HL := hide_ (leaf2_any n el ps va vc w0)
  clear hB k1 k2
  go_enter Try.func52, Try.ntmps52
  go_upto_region 1 with fail
  rw [← hw0]
  clear hw0
  go_wp2_with fail
  refine HL.out.mono ?_; rintro e w1 ⟨rfl, hB1⟩
  have k3 := K2.out.later hB1
  have HK := hide_ (wr4 k3 (.bool true) (.int .i64 1) (.int .i64 1) (.int .i64 1))
  have HBf := hide_ (below_wr4 (below_to HB.out hB1) (w.heap.size + 1) (by omega) (.bool true) (.int .i64 1) (.int .i64 1) (.int .i64 1))
  clear j0 j1 j2 j3 jf i0 i1 i2 i3
  have j0 := k3.cell 0; have j1 := k3.cell 1; have j2 := k3.cell 2; have j3 := k3.cell 3
  have jf := fun i => k3.frozen i
  simp at j0 j1 j2 j3
  clear k3 hB1 HL
  simp only [exv]
  go_wp2
  exact retX (x := ⟨true, 1, 1, 1⟩) rfl rfl HK.out ⟨rfl, HBf.out⟩
set_option maxRecDepth 100000 in
set_option maxHeartbeats 4000000 in
theorem one3_any (n el : Int) (ps : List Pt) (va : Option Addr) (vc : Nat) (vX : Value) (w : World) : Calls Try.prog 52 #[.agg #[.int .i64 3, .int .i64 n, .int .i64 el, .slice va ps.length vc], vX] w fun e w' => e = .returned (exv ⟨false, 1, 10, 1⟩) ∧ Below w.heap.size w w' := by
  have hB := below2 w (.cells #[.int .i64 3, .int .i64 n, .int .i64 el, .slice va ps.length vc] 62) (.cells #[.bool false, .int .i64 0, .int .i64 0, .int .i64 0] 48)
  obtain ⟨k1, k2⟩ := blk2 w #[.int .i64 3, .int .i64 n, .int .i64 el, .slice va ps.length vc] #[.bool false, .int .i64 0, .int .i64 0, .int .i64 0] 62 48
  obtain ⟨w0, hw0⟩ : ∃ wx, wx = (w.alloc (.cells #[.int .i64 3, .int .i64 n, .int .i64 el, .slice va ps.length vc] 62)).alloc (.cells #[.bool false, .int .i64 0, .int .i64 0, .int .i64 0] 48) := ⟨_, rfl⟩
  rw [← hw0] at hB k1 k2
  have K1 := hide_ k1
  have K2 := hide_ k2
  have HB := hide_ hB
  have i0 := k1.cell 0; have i1 := k1.cell 1; have i2 := k1.cell 2; have i3 := k1.cell 3
  have j0 := k2.cell 0; have j1 := k2.cell 1; have j2 := k2.cell 2; have j3 := k2.cell 3
  have jf := fun i => k2.frozen i
  simp at i0 i1 i2 i3 j0 j1 j2 j3
  have HL := hide_ (leaf3_any n el ps va vc w0)
  clear hB k1 k2
  go_enter Try.func52, Try.ntmps52
  go_upto_region 1 with fail
  rw [← hw0]
  clear hw0
  go_wp2_with fail
  refine HL.out.mono ?_; rintro e w1 ⟨rfl, hB1⟩
  have k3 := K2.out.later hB1
  have HK := hide_ (wr4 k3 (.bool false) (.int .i64 1) (.int .i64 10) (.int .i64 1))
  have HBf := hide_ (below_wr4 (below_to HB.out hB1) (w.heap.size + 1) (by omega) (.bool false) (.int .i64 1) (.int .i64 10) (.int .i64 1))
  clear j0 j1 j2 j3 jf i0 i1 i2 i3
  have j0 := k3.cell 0; have j1 := k3.cell 1; have j2 := k3.cell 2; have j3 := k3.cell 3
  have jf := fun i => k3.frozen i
  simp at j0 j1 j2 j3
  clear k3 hB1 HL
  simp only [exv]
  go_wp2
  exact retX (x := ⟨false, 1, 10, 1⟩) rfl rfl HK.out ⟨rfl, HBf.out⟩
set_option maxRecDepth 100000 in
set_option maxHeartbeats 8000000 in
theorem one4_any (n el : Int) (ps : List Pt) (va : Option Addr) (vc : Nat) (X : List Ex) (ax : Option Addr) (cx : Nat) (w : World) (hXl : X.length ≤ 10000000000000) (hbd : Hid (∀ x ∈ X, 0 ≤ x.d ∧ x.d ≤ 1000000)) (hel : 0 ≤ el ∧ el < X.length) (hX : Hid (XRow w ax X)) : Calls Try.prog 52 #[.agg #[.int .i64 4, .int .i64 n, .int .i64 el, .slice va ps.length vc], .slice ax X.length cx] w fun e w' => e = .returned (exv ⟨(exAt X el).f, times2 n (offX (exAt X el)).l, times2 n (offX (exAt X el)).m, 1 + (exAt X el).d⟩) ∧ Below w.heap.size w w' := by
  have hB := below2 w (.cells #[.int .i64 4, .int .i64 n, .int .i64 el, .slice va ps.length vc] 62) (.cells #[.bool false, .int .i64 0, .int .i64 0, .int .i64 0] 48)
  obtain ⟨k1, k2⟩ := blk2 w #[.int .i64 4, .int .i64 n, .int .i64 el, .slice va ps.length vc] #[.bool false, .int .i64 0, .int .i64 0, .int .i64 0] 62 48
  obtain ⟨w0, hw0⟩ : ∃ wx, wx = (w.alloc (.cells #[.int .i64 4, .int .i64 n, .int .i64 el, .slice va ps.length vc] 62)).alloc (.cells #[.bool false, .int .i64 0, .int .i64 0, .int .i64 0] 48) := ⟨_, rfl⟩
  rw [← hw0] at hB k1 k2
  have K1 := hide_ k1
  have K2 := hide_ k2
  have HB := hide_ hB
  have i0 := k1.cell 0; have i1 := k1.cell 1; have i2 := k1.cell 2; have i3 := k1.cell 3
  have j0 := k2.cell 0; have j1 := k2.cell 1; have j2 := k2.cell 2; have j3 := k2.cell 3
  have jf := fun i => k2.frozen i
  simp at i0 i1 i2 i3 j0 j1 j2 j3
  obtain ⟨m, rfl⟩ := Int.eq_ofNat_of_zero_le hel.1
  have hmx : m < X.length := by omega
  have hmx' : (m : Int) < X.length := hel.2
  obtain ⟨bx, ox, rfl, hbx, hcx⟩ := hX.out.open (by omega)
  have hxe := exAt_at hmx
  obtain ⟨hd0, hd1⟩ := hbd.out _ (List.mem_of_getElem? hxe)
  have hcy := hcx m _ hxe
  have HPt : Hid (∀ w', Calls Try.prog 72 #[.agg #[.bool (exAt X m).f, .int .i64 (exAt X m).l, .int .i64 (exAt X m).m, .int .i64 (exAt X m).d]] w' fun e w'' => e = .returned (.tuple #[.int .i64 (offX (exAt X m)).l, .int .i64 (offX (exAt X m)).m]) ∧ Below w'.heap.size w' w'') := hide_ (fun w' => part_any _ w')
  generalize (offX (exAt X m)).l = pl at *
  generalize (offX (exAt X m)).m = pm at *
  generalize exAt X m = xx at *
  obtain ⟨xf, xl, xm, xd⟩ := xx
  have HXc : Hid (∀ j, j < 4 → ∀ w', Below w0.heap.size w0 w' → w'.cell? ⟨bx, ox + m * 4 + j, none⟩ = (exc ⟨xf, xl, xm, xd⟩)[j]?) := hide_ (fun j hj w' hB' => ((below_to HB.out hB').cell (p := ⟨bx, ox + m * 4 + j, none⟩) hbx).trans (hcy j hj))
  have x0 := HXc.out 0 (by decide) w0 (Below.refl _ _); have x1 := HXc.out 1 (by decide) w0 (Below.refl _ _); have x2 := HXc.out 2 (by decide) w0 (Below.refl _ _); have x3 := HXc.out 3 (by decide) w0 (Below.refl _ _)
  simp [exc] at x0 x1 x2 x3
  simp only at hd0 hd1 HPt
  have hw1 : wrap64 (1 + xd) = 1 + xd := w64 _ (by omega)
  have hw2 : IntKind.i64.wrap (1 + xd) = 1 + xd := by rw [IntKind.wrap_i64]; omega
  have HCt : Hid (∀ (a b : Int) (w' : World), Calls Try.prog 73 #[.int .i64 a, .int .i64 b] w' fun e w'' => e = .returned (.int .i64 (times2 a b)) ∧ w' = w'') := hide_ (fun a b w' => rtimes_any a b w')
  have HCp : Hid (∀ (a b : Int) (w' : World), Calls Try.prog 74 #[.int .i64 a, .int .i64 b] w' fun e w'' => e = .returned (.int .i64 (plus2 a b)) ∧ Below w'.heap.size w' w'') := hide_ (fun a b w' => rplus_any a b w')
  clear hB k1 k2 hcx hxe hcy hX hbd
  go_enter Try.func52, Try.ntmps52
  go_upto_region 1 with fail
  rw [← hw0]
  clear hw0
  go_wp2_with (go_at_call 72; refine (HPt.out _).mono ?_; rintro e w1 ⟨rfl, hB1⟩)
  have HB1 := hide_ hB1
  have k3 := K2.out.later hB1
  have k4 := K1.out.later hB1
  have K3 := hide_ k3
  have K4 := hide_ k4
  clear i0 i1 i2 i3 j0 j1 j2 j3 jf x0 x1 x2 x3
  have j0 := k3.cell 0; have j1 := k3.cell 1; have j2 := k3.cell 2; have j3 := k3.cell 3
  have jf := fun i => k3.frozen i
  simp at j0 j1 j2 j3
  clear k3 k4 hB1 HPt
  have HBw := hide_ (below_to HB.out HB1.out)
  have HSS : Hid (∀ w', Below (w.heap.size + 1) w1 w' → Below (w.heap.size + 1) w1 w' ∧ w'.cell? ⟨w.heap.size, 1, none⟩ = some (.int .i64 n) ∧ w'.cell? ⟨w.heap.size, 2, none⟩ = some (.int .i64 m) ∧ w'.cell? ⟨bx, ox + m * 4, none⟩ = some (.bool xf) ∧ w'.cell? ⟨bx, ox + m * 4 + 2, none⟩ = some (.int .i64 xm) ∧ w'.cell? ⟨bx, ox + m * 4 + 3, none⟩ = some (.int .i64 xd)) := hide_ (fun w' hB' => ⟨hB', (K4.out.below hB' (by omega)).cell 1, (K4.out.below hB' (by omega)).cell 2, (hB'.cell (p := ⟨bx, ox + m * 4 + 0, none⟩) (by show bx < _; omega)).trans (HXc.out 0 (by decide) w1 HB1.out), (hB'.cell (p := ⟨bx, ox + m * 4 + 2, none⟩) (by show bx < _; omega)).trans (HXc.out 2 (by decide) w1 HB1.out), (hB'.cell (p := ⟨bx, ox + m * 4 + 3, none⟩) (by show bx < _; omega)).trans (HXc.out 3 (by decide) w1 HB1.out)⟩)
  go_region_held_law (fun w' => Below (w.heap.size + 1) w1 w' ∧ w'.cell? ⟨w.heap.size, 1, none⟩ = some (.int .i64 n) ∧ w'.cell? ⟨w.heap.size, 2, none⟩ = some (.int .i64 m) ∧ w'.cell? ⟨bx, ox + m * 4, none⟩ = some (.bool xf) ∧ w'.cell? ⟨bx, ox + m * 4 + 2, none⟩ = some (.int .i64 xm) ∧ w'.cell? ⟨bx, ox + m * 4 + 3, none⟩ = some (.int .i64 xd)) (first | assumption | exact HSS.out _ ((Below.refl _ _).drew) | exact HSS.out _ (Below.refl _ _) | exact HSS.out _ (below_wr4 ((Below.refl _ _).drew) _ (by omega) _ _ _ _) | exact HSS.out _ (below_wr4 (And.left (by assumption)) _ (by omega) _ _ _ _))
    ((go_at_call 73; refine (HCt.out _ _ _).mono ?_; rintro e w' ⟨rfl, rfl⟩))
  have HK := hide_ ((wr4 K3.out (.bool xf) (.int .i64 (times2 n pl)) (.int .i64 (times2 n pm)) (.int .i64 (1 + xd))).drew)
  have HBf := hide_ ((below_wr4 HBw.out (w.heap.size + 1) (by omega) (.bool xf) (.int .i64 (times2 n pl)) (.int .i64 (times2 n pm)) (.int .i64 (1 + xd))).drew)
  go_wp2
  exact retX (x := ⟨xf, times2 n pl, times2 n pm, 1 + xd⟩) rfl rfl HK.out ⟨rfl, HBf.out⟩
set_option maxRecDepth 100000 in
set_option maxHeartbeats 8000000 in
theorem one5_any (n el : Int) (ps : List Pt) (va : Option Addr) (vc : Nat) (X : List Ex) (ax : Option Addr) (cx : Nat) (w : World) (hXl : X.length ≤ 10000000000000) (hbd : Hid (∀ x ∈ X, 0 ≤ x.d ∧ x.d ≤ 1000000)) (hel : 0 ≤ el ∧ el < X.length) (hX : Hid (XRow w ax X)) : Calls Try.prog 52 #[.agg #[.int .i64 5, .int .i64 n, .int .i64 el, .slice va ps.length vc], .slice ax X.length cx] w fun e w' => e = .returned (exv ⟨false, 0, times2 n (offX (exAt X el)).m, 1 + (exAt X el).d⟩) ∧ Below w.heap.size w w' := by
  have hB := below2 w (.cells #[.int .i64 5, .int .i64 n, .int .i64 el, .slice va ps.length vc] 62) (.cells #[.bool false, .int .i64 0, .int .i64 0, .int .i64 0] 48)
  obtain ⟨k1, k2⟩ := blk2 w #[.int .i64 5, .int .i64 n, .int .i64 el, .slice va ps.length vc] #[.bool false, .int .i64 0, .int .i64 0, .int .i64 0] 62 48
  obtain ⟨w0, hw0⟩ : ∃ wx, wx = (w.alloc (.cells #[.int .i64 5, .int .i64 n, .int .i64 el, .slice va ps.length vc] 62)).alloc (.cells #[.bool false, .int .i64 0, .int .i64 0, .int .i64 0] 48) := ⟨_, rfl⟩
  rw [← hw0] at hB k1 k2
  have K1 := hide_ k1
  have K2 := hide_ k2
  have HB := hide_ hB
  have i0 := k1.cell 0; have i1 := k1.cell 1; have i2 := k1.cell 2; have i3 := k1.cell 3
  have j0 := k2.cell 0; have j1 := k2.cell 1; have j2 := k2.cell 2; have j3 := k2.cell 3
  have jf := fun i => k2.frozen i
  simp at i0 i1 i2 i3 j0 j1 j2 j3
  obtain ⟨m, rfl⟩ := Int.eq_ofNat_of_zero_le hel.1
  have hmx : m < X.length := by omega
  have hmx' : (m : Int) < X.length := hel.2
  obtain ⟨bx, ox, rfl, hbx, hcx⟩ := hX.out.open (by omega)
  have hxe := exAt_at hmx
  obtain ⟨hd0, hd1⟩ := hbd.out _ (List.mem_of_getElem? hxe)
  have hcy := hcx m _ hxe
  have HPt : Hid (∀ w', Calls Try.prog 72 #[.agg #[.bool (exAt X m).f, .int .i64 (exAt X m).l, .int .i64 (exAt X m).m, .int .i64 (exAt X m).d]] w' fun e w'' => e = .returned (.tuple #[.int .i64 (offX (exAt X m)).l, .int .i64 (offX (exAt X m)).m]) ∧ Below w'.heap.size w' w'') := hide_ (fun w' => part_any _ w')
  generalize (offX (exAt X m)).l = pl at *
  generalize (offX (exAt X m)).m = pm at *
  generalize exAt X m = xx at *
  obtain ⟨xf, xl, xm, xd⟩ := xx
  have HXc : Hid (∀ j, j < 4 → ∀ w', Below w0.heap.size w0 w' → w'.cell? ⟨bx, ox + m * 4 + j, none⟩ = (exc ⟨xf, xl, xm, xd⟩)[j]?) := hide_ (fun j hj w' hB' => ((below_to HB.out hB').cell (p := ⟨bx, ox + m * 4 + j, none⟩) hbx).trans (hcy j hj))
  have x0 := HXc.out 0 (by decide) w0 (Below.refl _ _); have x1 := HXc.out 1 (by decide) w0 (Below.refl _ _); have x2 := HXc.out 2 (by decide) w0 (Below.refl _ _); have x3 := HXc.out 3 (by decide) w0 (Below.refl _ _)
  simp [exc] at x0 x1 x2 x3
  simp only at hd0 hd1 HPt
  have hw1 : wrap64 (1 + xd) = 1 + xd := w64 _ (by omega)
  have hw2 : IntKind.i64.wrap (1 + xd) = 1 + xd := by rw [IntKind.wrap_i64]; omega
  have HCt : Hid (∀ (a b : Int) (w' : World), Calls Try.prog 73 #[.int .i64 a, .int .i64 b] w' fun e w'' => e = .returned (.int .i64 (times2 a b)) ∧ w' = w'') := hide_ (fun a b w' => rtimes_any a b w')
  have HCp : Hid (∀ (a b : Int) (w' : World), Calls Try.prog 74 #[.int .i64 a, .int .i64 b] w' fun e w'' => e = .returned (.int .i64 (plus2 a b)) ∧ Below w'.heap.size w' w'') := hide_ (fun a b w' => rplus_any a b w')
  clear hB k1 k2 hcx hxe hcy hX hbd
  go_enter Try.func52, Try.ntmps52
  go_upto_region 1 with fail
  rw [← hw0]
  clear hw0
  go_wp2_with (go_at_call 72; refine (HPt.out _).mono ?_; rintro e w1 ⟨rfl, hB1⟩)
  have HB1 := hide_ hB1
  have k3 := K2.out.later hB1
  have k4 := K1.out.later hB1
  have K3 := hide_ k3
  have K4 := hide_ k4
  clear i0 i1 i2 i3 j0 j1 j2 j3 jf x0 x1 x2 x3
  have j0 := k3.cell 0; have j1 := k3.cell 1; have j2 := k3.cell 2; have j3 := k3.cell 3
  have jf := fun i => k3.frozen i
  simp at j0 j1 j2 j3
  clear k3 k4 hB1 HPt
  have HBw := hide_ (below_to HB.out HB1.out)
  have HSS : Hid (∀ w', Below (w.heap.size + 1) w1 w' → Below (w.heap.size + 1) w1 w' ∧ w'.cell? ⟨w.heap.size, 1, none⟩ = some (.int .i64 n) ∧ w'.cell? ⟨w.heap.size, 2, none⟩ = some (.int .i64 m) ∧ w'.cell? ⟨bx, ox + m * 4, none⟩ = some (.bool xf) ∧ w'.cell? ⟨bx, ox + m * 4 + 2, none⟩ = some (.int .i64 xm) ∧ w'.cell? ⟨bx, ox + m * 4 + 3, none⟩ = some (.int .i64 xd)) := hide_ (fun w' hB' => ⟨hB', (K4.out.below hB' (by omega)).cell 1, (K4.out.below hB' (by omega)).cell 2, (hB'.cell (p := ⟨bx, ox + m * 4 + 0, none⟩) (by show bx < _; omega)).trans (HXc.out 0 (by decide) w1 HB1.out), (hB'.cell (p := ⟨bx, ox + m * 4 + 2, none⟩) (by show bx < _; omega)).trans (HXc.out 2 (by decide) w1 HB1.out), (hB'.cell (p := ⟨bx, ox + m * 4 + 3, none⟩) (by show bx < _; omega)).trans (HXc.out 3 (by decide) w1 HB1.out)⟩)
  go_region_held_law (fun w' => Below (w.heap.size + 1) w1 w' ∧ w'.cell? ⟨w.heap.size, 1, none⟩ = some (.int .i64 n) ∧ w'.cell? ⟨w.heap.size, 2, none⟩ = some (.int .i64 m) ∧ w'.cell? ⟨bx, ox + m * 4, none⟩ = some (.bool xf) ∧ w'.cell? ⟨bx, ox + m * 4 + 2, none⟩ = some (.int .i64 xm) ∧ w'.cell? ⟨bx, ox + m * 4 + 3, none⟩ = some (.int .i64 xd)) (first | assumption | exact HSS.out _ ((Below.refl _ _).drew) | exact HSS.out _ (Below.refl _ _) | exact HSS.out _ (below_wr4 ((Below.refl _ _).drew) _ (by omega) _ _ _ _) | exact HSS.out _ (below_wr4 (And.left (by assumption)) _ (by omega) _ _ _ _))
    ((go_at_call 73; refine (HCt.out _ _ _).mono ?_; rintro e w' ⟨rfl, rfl⟩))
  have HK := hide_ ((wr4 K3.out (.bool false) (.int .i64 0) (.int .i64 (times2 n pm)) (.int .i64 (1 + xd))).drew)
  have HBf := hide_ ((below_wr4 HBw.out (w.heap.size + 1) (by omega) (.bool false) (.int .i64 0) (.int .i64 (times2 n pm)) (.int .i64 (1 + xd))).drew)
  go_wp2
  exact retX (x := ⟨false, 0, times2 n pm, 1 + xd⟩) rfl rfl HK.out ⟨rfl, HBf.out⟩
set_option maxRecDepth 100000 in
set_option maxHeartbeats 8000000 in
theorem one6_any (n el : Int) (ps : List Pt) (va : Option Addr) (vc : Nat) (X : List Ex) (ax : Option Addr) (cx : Nat) (w : World) (hXl : X.length ≤ 10000000000000) (hbd : Hid (∀ x ∈ X, 0 ≤ x.d ∧ x.d ≤ 1000000)) (hel : 0 ≤ el ∧ el < X.length) (hX : Hid (XRow w ax X)) : Calls Try.prog 52 #[.agg #[.int .i64 6, .int .i64 n, .int .i64 el, .slice va ps.length vc], .slice ax X.length cx] w fun e w' => e = .returned (exv ⟨false, 1, plus2 1 (exAt X el).m, 1 + (exAt X el).d⟩) ∧ Below w.heap.size w w' := by
  have hB := below2 w (.cells #[.int .i64 6, .int .i64 n, .int .i64 el, .slice va ps.length vc] 62) (.cells #[.bool false, .int .i64 0, .int .i64 0, .int .i64 0] 48)
  obtain ⟨k1, k2⟩ := blk2 w #[.int .i64 6, .int .i64 n, .int .i64 el, .slice va ps.length vc] #[.bool false, .int .i64 0, .int .i64 0, .int .i64 0] 62 48
  obtain ⟨w0, hw0⟩ : ∃ wx, wx = (w.alloc (.cells #[.int .i64 6, .int .i64 n, .int .i64 el, .slice va ps.length vc] 62)).alloc (.cells #[.bool false, .int .i64 0, .int .i64 0, .int .i64 0] 48) := ⟨_, rfl⟩
  rw [← hw0] at hB k1 k2
  have K1 := hide_ k1
  have K2 := hide_ k2
  have HB := hide_ hB
  have i0 := k1.cell 0; have i1 := k1.cell 1; have i2 := k1.cell 2; have i3 := k1.cell 3
  have j0 := k2.cell 0; have j1 := k2.cell 1; have j2 := k2.cell 2; have j3 := k2.cell 3
  have jf := fun i => k2.frozen i
  simp at i0 i1 i2 i3 j0 j1 j2 j3
  obtain ⟨m, rfl⟩ := Int.eq_ofNat_of_zero_le hel.1
  have hmx : m < X.length := by omega
  have hmx' : (m : Int) < X.length := hel.2
  obtain ⟨bx, ox, rfl, hbx, hcx⟩ := hX.out.open (by omega)
  have hxe := exAt_at hmx
  obtain ⟨hd0, hd1⟩ := hbd.out _ (List.mem_of_getElem? hxe)
  have hcy := hcx m _ hxe
  have HPt : Hid (∀ w', Calls Try.prog 72 #[.agg #[.bool (exAt X m).f, .int .i64 (exAt X m).l, .int .i64 (exAt X m).m, .int .i64 (exAt X m).d]] w' fun e w'' => e = .returned (.tuple #[.int .i64 (offX (exAt X m)).l, .int .i64 (offX (exAt X m)).m]) ∧ Below w'.heap.size w' w'') := hide_ (fun w' => part_any _ w')
  generalize (offX (exAt X m)).l = pl at *
  generalize (offX (exAt X m)).m = pm at *
  generalize exAt X m = xx at *
  obtain ⟨xf, xl, xm, xd⟩ := xx
  have HXc : Hid (∀ j, j < 4 → ∀ w', Below w0.heap.size w0 w' → w'.cell? ⟨bx, ox + m * 4 + j, none⟩ = (exc ⟨xf, xl, xm, xd⟩)[j]?) := hide_ (fun j hj w' hB' => ((below_to HB.out hB').cell (p := ⟨bx, ox + m * 4 + j, none⟩) hbx).trans (hcy j hj))
  have x0 := HXc.out 0 (by decide) w0 (Below.refl _ _); have x1 := HXc.out 1 (by decide) w0 (Below.refl _ _); have x2 := HXc.out 2 (by decide) w0 (Below.refl _ _); have x3 := HXc.out 3 (by decide) w0 (Below.refl _ _)
  simp [exc] at x0 x1 x2 x3
  simp only at hd0 hd1 HPt
  have hw1 : wrap64 (1 + xd) = 1 + xd := w64 _ (by omega)
  have hw2 : IntKind.i64.wrap (1 + xd) = 1 + xd := by rw [IntKind.wrap_i64]; omega
  have HCt : Hid (∀ (a b : Int) (w' : World), Calls Try.prog 73 #[.int .i64 a, .int .i64 b] w' fun e w'' => e = .returned (.int .i64 (times2 a b)) ∧ w' = w'') := hide_ (fun a b w' => rtimes_any a b w')
  have HCp : Hid (∀ (a b : Int) (w' : World), Calls Try.prog 74 #[.int .i64 a, .int .i64 b] w' fun e w'' => e = .returned (.int .i64 (plus2 a b)) ∧ Below w'.heap.size w' w'') := hide_ (fun a b w' => rplus_any a b w')
  clear hB k1 k2 hcx hxe hcy hX hbd
  go_enter Try.func52, Try.ntmps52
  go_upto_region 1 with fail
  rw [← hw0]
  clear hw0
  have HSS : Hid (∀ w', Below (w.heap.size + 1) w0 w' → Below (w.heap.size + 1) w0 w' ∧ w'.cell? ⟨w.heap.size, 1, none⟩ = some (.int .i64 n) ∧ w'.cell? ⟨w.heap.size, 2, none⟩ = some (.int .i64 m) ∧ w'.cell? ⟨bx, ox + m * 4, none⟩ = some (.bool xf) ∧ w'.cell? ⟨bx, ox + m * 4 + 2, none⟩ = some (.int .i64 xm) ∧ w'.cell? ⟨bx, ox + m * 4 + 3, none⟩ = some (.int .i64 xd)) := hide_ (fun w' hB' => ⟨hB', (K1.out.below hB' (by omega)).cell 1, (K1.out.below hB' (by omega)).cell 2, (hB'.cell (p := ⟨bx, ox + m * 4 + 0, none⟩) (by show bx < _; omega)).trans (HXc.out 0 (by decide) w0 (Below.refl _ _)), (hB'.cell (p := ⟨bx, ox + m * 4 + 2, none⟩) (by show bx < _; omega)).trans (HXc.out 2 (by decide) w0 (Below.refl _ _)), (hB'.cell (p := ⟨bx, ox + m * 4 + 3, none⟩) (by show bx < _; omega)).trans (HXc.out 3 (by decide) w0 (Below.refl _ _))⟩)
  have hz0 : w.heap.size + 1 < w0.heap.size := K2.out.lt
  go_wp2_with fail
  go_region_held_law (fun w' => Below (w.heap.size + 1) w0 w' ∧ w'.cell? ⟨w.heap.size, 1, none⟩ = some (.int .i64 n) ∧ w'.cell? ⟨w.heap.size, 2, none⟩ = some (.int .i64 m) ∧ w'.cell? ⟨bx, ox + m * 4, none⟩ = some (.bool xf) ∧ w'.cell? ⟨bx, ox + m * 4 + 2, none⟩ = some (.int .i64 xm) ∧ w'.cell? ⟨bx, ox + m * 4 + 3, none⟩ = some (.int .i64 xd)) (first | assumption | exact HSS.out _ ((Below.refl _ _).drew) | exact HSS.out _ (Below.refl _ _) | exact HSS.out _ (below_wr4 (And.left (by assumption)) _ (by omega) _ _ _ _))
    ((go_at_call 74; refine (HCp.out _ _ _).mono ?_; rintro e w2 ⟨rfl, hB2⟩; (have hB3 := below_to ((Below.refl w0.heap.size w0).drew) hB2); (have G2 := HSS.out w2 (hB3.mono (by omega))); (have k3 := K2.out.later hB3); (have HB2 := hide_ hB3); (have K3 := hide_ k3); (have l0 := k3.cell 0); (have l1 := k3.cell 1); (have l2 := k3.cell 2); (have l3 := k3.cell 3); (have lf := fun i => k3.frozen i); (simp at l0 l1 l2 l3); (clear hB2 hB3 k3)))
  have HBw := hide_ (below_to HB.out HB2.out)
  have HK := hide_ (wr4 K3.out (.bool false) (.int .i64 1) (.int .i64 (plus2 1 xm)) (.int .i64 (1 + xd)))
  have HBf := hide_ (below_wr4 HBw.out (w.heap.size + 1) (by omega) (.bool false) (.int .i64 1) (.int .i64 (plus2 1 xm)) (.int .i64 (1 + xd)))
  go_wp2
  exact retX (x := ⟨false, 1, plus2 1 xm, 1 + xd⟩) rfl rfl HK.out ⟨rfl, HBf.out⟩
end Go.Proofs.Ytdpkmkhflgmioaa
