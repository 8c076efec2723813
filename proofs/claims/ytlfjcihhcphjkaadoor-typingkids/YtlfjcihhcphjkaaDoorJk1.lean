import Derived.Test.YtlfjcihhcphjkaaDoorZrb1
import Derived.Test.YtlfjcihhcphjkaaDoorZrb2
import Derived.Test.YtlfjcihhcphjkaaDoorZrb3
import Derived.Test.YtlfjcihhcphjkaaDoorZrb4
import Derived.Test.YtlfjcihhcphjkaaDoorZg
import Derived.Test.YtlfjcihhcphjkaaDoorZi
import Derived.Test.YtlfjcihhcphjkaaDoorOo
import Derived.Test.YtlfjcihhcphjkaaDoorZcp
import Derived.Test.YtlfjcihhcphjkaaDoorOp
import Derived.Test.YtlfjcihhcphjkaaDoorOn
import Derived.Test.YtlfjcihhcphjkaaDoorOk
import Derived.Test.YtlfjcihhcphjkaaDoorOe
import Derived.BigQuiet
import Derived.Test.YtlfjcihhcphjkaaDoorOl
import Derived.OrdersHeld
import Derived.Deep.RegionHeld
import Derived.Deep.CutBlock
/- The document's Check of a schema: right. -/
namespace Go.Proofs.YtlfjcihhcphjkaaDoor
open Go.RowKit
set_option linter.unusedVariables false

theorem right_any (t : Ty) (va : Option Addr) (vc : Nat) (i : Nat) (w : World) (hil : i ≤ 9223372036854775806) (hr : Hid (PRow w va t.ps)) :
    Calls Tryd.prog 40 #[.agg #[.int .i64 t.k, .int .i64 t.n, .int .i64 t.e, .slice va t.ps.length vc], .int .i64 (i : Int)] w fun e w' => e = .returned (.bool (tyOk t i)) ∧ Below w.heap.size w w' := by
  by_cases hk : t.k = 1 ∨ t.k = 2 ∨ t.k = 3 ∨ t.k = 4 ∨ t.k = 5 ∨ t.k = 6 ∨ t.k = 7 ∨ t.k = 8
  · obtain ⟨k, n, el, ps⟩ := t
    simp only at hk hr ⊢
    rcases hk with rfl | rfl | rfl | rfl | rfl | rfl | rfl | rfl
    · exact right1_any n el ps va vc i w hil hr
    · exact right2_any n el ps va vc i w hil hr
    · exact right3_any n el ps va vc i w hil hr
    · exact right4_any n el ps va vc i w hil hr
    · exact right5_any n el ps va vc i w hil hr
    · exact right6_any n el ps va vc i w hil hr
    · exact right7_any n el ps va vc i w hil hr
    · exact right8_any n el ps va vc i w hil hr
  · exact rightO_any t hk va vc i w hil hr
end Go.Proofs.YtlfjcihhcphjkaaDoor
/- The document's Depths. -/
namespace Go.Proofs.YtlfjcihhcphjkaaDoor
open Go.RowKit
set_option linter.unusedVariables false

theorem EInt9 : Elem Tryd.prog 26 3 .i64 8 := ⟨Tryd.underlying26, Tryd.underlying3, by kernel_rfl⟩
theorem getD_bdG {l : List Int} {b : Int} (hb : 0 ≤ b) (h : ∀ x ∈ l, 0 ≤ x ∧ x ≤ b) (n : Nat) : 0 ≤ l.getD n 0 ∧ l.getD n 0 ≤ b := by
  rcases Nat.lt_or_ge n l.length with hn | hn
  · rw [show l.getD n 0 = l[n]'hn by simp [List.getD, hn]]
    exact h _ (List.getElem_mem hn)
  · rw [show l.getD n 0 = 0 by simp [List.getD, List.getElem?_eq_none hn]]; omega
theorem kidD_bdG {l : List Int} {b : Int} (hb : 0 ≤ b) (h : ∀ x ∈ l, 0 ≤ x ∧ x ≤ b) : ∀ (ps : List Pt) (d : Int), 0 ≤ d ∧ d ≤ b → 0 ≤ kidD l ps d ∧ kidD l ps d ≤ b
  | [], d, hd => hd
  | p :: ps, d, hd => by
    have h1 := getD_bdG hb h p.ty.toNat
    have := kidD_bdG hb h ps (max d (l.getD p.ty.toNat 0)) (by omega)
    simpa [kidD] using this
theorem depL_bd (T : List Ty) : ∀ x ∈ depL T, 0 ≤ x ∧ x ≤ (T.length : Int) := by
  refine snoc_ind (P := fun T => ∀ x ∈ depL T, 0 ≤ x ∧ x ≤ (T.length : Int)) (fun x hx => by simp [depL] at hx) (fun T t ih x hx => ?_) T
  rw [depL_snoc] at hx
  rw [List.length_append, List.length_singleton]
  rcases List.mem_append.1 hx with hx | hx
  · have := ih x hx; omega
  · simp at hx
    subst hx
    have h0 : 0 ≤ (if hasE t.k then (depL T).getD t.e.toNat 0 else 0) ∧ (if hasE t.k then (depL T).getD t.e.toNat 0 else 0) ≤ (T.length : Int) := by
      split
      · exact getD_bdG (by omega) ih _
      · omega
    have := kidD_bdG (by omega) ih t.ps _ h0
    unfold dep1
    omega
set_option maxRecDepth 100000 in
set_option maxHeartbeats 8000000 in
theorem depths_any (a : Option Addr) (c : Nat) (vr : Value) (T : List Ty) (w : World) (hn : T.length ≤ 4000000000000) (hL : Hid (LensT T)) (hT : Hid (TRow w a T)) (hok : Hid (∀ j, j < T.length → tyOk (T.getD j ty0) j = true)) :
    Calls Tryd.prog 41 #[.agg #[.slice a T.length c, vr]] w fun e w' => ∃ v, e = .returned v ∧ Hid (w'.ownsRow w.heap.size 3 1 v (depL T).length (cellsL .i64 (depL T))) ∧ Hid (Below w.heap.size w w') := by
  have hB := below1 w (.cells #[.slice a T.length c, vr] 25)
  have kx := Blk.newA w #[.slice a T.length c, vr] 25
  obtain ⟨w0, hw0⟩ : ∃ wx, wx = w.alloc (.cells #[.slice a T.length c, vr] 25) := ⟨_, rfl⟩
  rw [← hw0] at hB kx
  have HB0 := hide_ hB
  have KX := hide_ kx
  have hz0 : w.heap.size < w0.heap.size := kx.lt
  clear hB kx
  go_enter Tryd.func41, Tryd.ntmps41
  go_upto_region 1 with fail
  rw [← hw0]
  clear hw0
  go_wp2_with fail
  go_loopw [3, 4] (fun x3 x4 wr => ∃ (v : Value) (i : Nat), v = x3 ∧ i ≤ T.length ∧ x4 = .int .i64 (i : Int) ∧ Hid (wr.ownsRow w0.heap.size 3 1 v (depL (T.take i)).length (cellsL .i64 (depL (T.take i)))) ∧ Hid (Below w0.heap.size w0 wr)) (fun _ x4 _ => T.length - (intOf x4).toNat)
  case atStart => exact ⟨_, 0, rfl, Nat.zero_le _, rfl, hide_ (World.ownsRow_nil _ _ _ _), hide_ (Below.refl _ _)⟩
  case round =>
    obtain ⟨v, i, rfl, hi, rfl, HO, HB⟩ := hrel
    generalize wr = wq at *
    have i0 := (KX.out.later HB.out).cell 0
    simp at i0
    by_cases hlt : i < T.length
    · have hlt' : (i : Int) < T.length := by omega
      obtain ⟨b, o, rfl, hb, hc⟩ := (hT.out.later (below_to HB0.out HB.out)).open (by omega)
      have hx : T[i]? = some (T[i]'hlt) := List.getElem?_eq_getElem hlt
      obtain ⟨va, vc, hcx, hvc, -, hP⟩ := hc i _ hx
      have hok1 := hok.out i hlt
      rw [show T.getD i ty0 = T[i]'hlt by simp [List.getD, hlt]] at hok1
      have hpl := hL.out.at hx
      have HT : Hid (depL (T.take (i + 1)) = depL (T.take i) ++ [dep1 (depL (T.take i)) (T[i]'hlt)]) := hide_ (by rw [List.take_succ_eq_append_getElem hlt, depL_snoc])
      have hlen : (depL (T.take i)).length = i := by rw [depL_len]; simp; omega
      have hbd : ∀ x ∈ depL (T.take i), 0 ≤ x ∧ x ≤ (i : Int) := fun x hx => by
        have := depL_bd (T.take i) x hx
        rw [List.length_take] at this
        omega
      generalize T[i]'hlt = t at *
      obtain ⟨k, n, el, ps⟩ := t
      simp only at hvc hP hpl hok1 HT
      have HOK := hide_ hok1
      have t0 := hcx 0 (by decide); have t1 := hcx 1 (by decide); have t2 := hcx 2 (by decide); have t3 := hcx 3 (by decide)
      simp [tyc] at t0 t1 t2 t3
      have kt := Blk.newA wq #[.int .i64 k, .int .i64 n, .int .i64 el, .slice va ps.length vc] 64
      have hBx := below1 wq (.cells #[.int .i64 k, .int .i64 n, .int .i64 el, .slice va ps.length vc] 64)
      obtain ⟨wx, hwx⟩ : ∃ wx, wx = wq.alloc (.cells #[.int .i64 k, .int .i64 n, .int .i64 el, .slice va ps.length vc] 64) := ⟨_, rfl⟩
      rw [← hwx] at kt hBx
      have HBx := hide_ (below_to HB.out hBx)
      have HOx := hide_ (ownS_upd HO.out (Upd.of_below (S := fun _ => False) hBx) (fun _ _ h => h))
      have HP := hide_ (hP.later hBx)
      generalize depL (T.take i) = pre at *
      have HPB := hide_ hbd
      have HPL := hide_ hlen
      obtain ⟨av, cv, hvv, hrow, -⟩ := own_open HOx.out rfl
      subst hvv
      have HRow := hide_ hrow
      have j0 := kt.cell 0; have j2 := kt.cell 2; have j3 := kt.cell 3
      simp at j0 j2 j3
      clear kt hBx hP hc hx hcx hok1 hb HO hbd hlen hrow
      go_upto_region 6 with fail
      rw [← hwx]
      clear hwx t0 t1 t2 t3 i0
      obtain ⟨d0, hd0⟩ : ∃ d0, (if hasE k then pre.getD el.toNat 0 else 0) = d0 := ⟨_, rfl⟩
      have HD0 := hide_ hd0
      have hd0b : 0 ≤ d0 ∧ d0 ≤ (i : Int) := by
        rw [← hd0]
        split
        · exact getD_bdG (by omega) HPB.out _
        · omega
      clear hd0
      obtain ⟨be, hbe⟩ : ∃ be, hasE k = be := ⟨_, rfl⟩
      have HE := hide_ hbe
      clear hbe
      go_upto_region 7 with fail
      go_cut [32] from 19 to 32 (fun x32 wc => x32 = .bool be ∧ wx = wc)
      case first =>
        have hE := HE.out
        unfold hasE at hE
        by_cases k4 : k = 4
        · subst k4
          obtain rfl : true = be := by rw [← hE]; rfl
          go_wp2
          go_meet
          case rel => exact ⟨rfl, rfl⟩
        have c4 : (k == 4) = false := by simpa using k4
        by_cases k5 : k = 5
        · subst k5
          obtain rfl : true = be := by rw [← hE]; rfl
          go_wp2
          go_meet
          case rel => exact ⟨rfl, rfl⟩
        have c5 : (k == 5) = false := by simpa using k5
        by_cases k6 : k = 6
        · subst k6
          obtain rfl : true = be := by rw [← hE]; rfl
          go_wp2
          go_meet
          case rel => exact ⟨rfl, rfl⟩
        have c6 : (k == 6) = false := by simpa using k6
        obtain rfl : false = be := by rw [← hE]; exact (decide_eq_false (by omega)).symm
        clear hE
        go_wp2
        go_meet
        case rel => exact ⟨rfl, rfl⟩
      case rest =>
      obtain ⟨rfl, rfl⟩ := hcut
      go_upto_if 32 with fail
      go_cut [6] from 32 to 37 (fun x6 wc => x6 = .int .i64 d0 ∧ wx = wc)
      case first =>
        cases be with
        | true =>
          have hel := tyOk_elem HOK.out HE.out
          simp only at hel
          obtain ⟨ej, rfl⟩ := Int.eq_ofNat_of_zero_le hel.1
          have hejl : ej < pre.length := by rw [HPL.out]; omega
          have hejl' : (ej : Int) < pre.length := by omega
          obtain ⟨bv, ov, rfl, -, hcv⟩ := HRow.out.open (by omega)
          have hd : pre.getD ej 0 = d0 := by rw [← HD0.out, if_pos HE.out]; simp
          have c1 := hcv ej hejl
          rw [hd] at c1
          clear hcv hd hel
          go_wp2
          go_meet
          case rel => exact ⟨rfl, rfl⟩
        | false =>
          have hd : d0 = 0 := by rw [← HD0.out, HE.out]; rfl
          subst hd
          go_wp2
          go_meet
          case rel => exact ⟨rfl, rfl⟩
      case rest =>
      obtain ⟨rfl, rfl⟩ := hcut
      clear j0 j2
      go_wp2_with fail
      go_loop [6, 7] (fun x6 x7 => ∃ (m : Nat) (d : Int), m ≤ ps.length ∧ x7 = .int .i64 (m : Int) ∧ x6 = .int .i64 d ∧ Hid (kidD pre (ps.take m) d0 = d)) (fun _ x7 => ps.length - (intOf x7).toNat)
      case atStart => exact ⟨0, d0, Nat.zero_le _, rfl, rfl, hide_ rfl⟩
      case round =>
        obtain ⟨m, d, hm, rfl, rfl, HK⟩ := hrel
        have hkb := kidD_bdG (by omega) HPB.out (ps.take m) d0 hd0b
        rw [HK.out] at hkb
        by_cases hlm : m < ps.length
        · have hlm' : (m : Int) < ps.length := by omega
          obtain ⟨b2, o2, rfl, -, hc2⟩ := HP.out.open (by omega)
          have hx2 : ps[m]? = some (ps[m]'hlm) := List.getElem?_eq_getElem hlm
          have hcx2 := hc2 m _ hx2
          have hpr := tyOk_part (t := ⟨k, n, el, ps⟩) HOK.out hx2
          have HS := hide_ (kidD_succ (l := pre) (d := d0) hx2)
          generalize ps[m]'hlm = p at *
          obtain ⟨lb, tg, ty⟩ := p
          simp only at hpr HS
          obtain ⟨ej, rfl⟩ := Int.eq_ofNat_of_zero_le hpr.1
          have hejl : ej < pre.length := by rw [HPL.out]; omega
          have hejl' : (ej : Int) < pre.length := by omega
          obtain ⟨bv, ov, rfl, -, hcv⟩ := HRow.out.open (by omega)
          have c1 := hcv ej hejl
          have y2 := hcx2 2 (by decide)
          simp [ptc] at y2
          rw [HK.out, Int.toNat_natCast] at HS
          generalize pre.getD ej 0 = de at *
          clear hc2 hx2 hcx2 hpr hcv hejl
          go_wp2_with fail
          all_goals
            go_round
            case rel => exact ⟨m + 1, _, by omega, by go_num, rfl, hide_ (by rw [HS.out]; omega)⟩
            case measure => simp [intOf]; omega
        · obtain rfl : m = ps.length := by omega
          have HV : Hid (dep1 pre ⟨k, n, el, ps⟩ = d + 1) := hide_ (by
            have h := HK.out
            rw [List.take_length] at h
            unfold dep1
            simp only
            rw [HD0.out, h])
          have hwr : wrap64 (d + 1) = d + 1 := w64 _ (by omega)
          obtain ⟨g, cap, w5, hrun, hO5, hU5, -⟩ := run_push EInt9 wx 26 w0.heap.size (.slice av pre.length cv) pre.length pre HOx.out (d + 1) (by unfold maxLen; rw [HPL.out]; omega) (by rw [HPL.out]; omega) HBx.out.size
          have HB5 := hide_ (HBx.out.trans (hU5.below w0.heap.size HBx.out.size (fun k hk => (HOx.out.lt k hk).1)))
          have HO5 : Hid (w5.ownsRow w0.heap.size 3 1 (.slice (some ⟨g, 0, none⟩) (pre.length + 1) cap) (depL (T.take (i + 1))).length (cellsL .i64 (depL (T.take (i + 1))))) := hide_ (by
            rw [HT.out, HV.out, List.length_append, List.length_singleton]
            exact hO5)
          have HRun := hide_ hrun
          clear hrun hO5 hU5 HT HV HPL
          go_wp2_with (first | (at_builtin; refine wpList_append_run rfl (.tmp 56) (.tmp 59) 26 26 rfl rfl rfl HRun.out ?_; clear HRun))
          go_roundw
          case rel => exact ⟨_, i + 1, rfl, by omega, by go_num, HO5, HB5⟩
          case measure => simp [intOf]; omega
    · obtain rfl : i = T.length := by omega
      have HV : Hid (wq.ownsRow w.heap.size 3 1 v (depL T).length (cellsL .i64 (depL T))) := hide_ (by have h := HO.out; rw [List.take_length] at h; exact own_base h (by omega))
      have HBe := hide_ (below_to HB0.out HB.out)
      go_wp2
      go_ret
      exact ⟨_, rfl, HV, HBe⟩
end Go.Proofs.YtlfjcihhcphjkaaDoor
/- The document's Check of a schema. -/
namespace Go.Proofs.YtlfjcihhcphjkaaDoor
open Go.RowKit
set_option linter.unusedVariables false

def sameN (R : List Rt) (nm : ByteArray) (j : Nat) : Bool := (R.take j).any (fun q => decide (q.name = nm))
theorem sameN_succ {R : List Rt} {nm : ByteArray} {j : Nat} {q : Rt} (h : R[j]? = some q) : sameN R nm (j + 1) = (sameN R nm j || decide (q.name = nm)) := by
  have hj := (List.getElem?_eq_some_iff.1 h).1
  unfold sameN
  rw [List.take_succ_eq_append_getElem hj, (List.getElem?_eq_some_iff.1 h).2]
  simp
theorem rootOk_doc {n : Nat} {R : List Rt} {i : Nat} {r : Rt} (h : R[i]? = some r) : rootOk n R i = (decide (i < 256) && isName r.name && inB r.ty n && !sameN R r.name i) := by
  have e : R.getD i rt0 = r := by simp [List.getD, h]
  have hi := (List.getElem?_eq_some_iff.1 h).1
  unfold rootOk
  rw [e]
  congr 1
  cases hs : sameN R r.name i with
  | true =>
    unfold sameN at hs
    rw [List.any_eq_true] at hs
    obtain ⟨q, hq, hqn⟩ := hs
    obtain ⟨j, hj⟩ := List.getElem?_of_mem hq
    rw [List.getElem?_take] at hj
    split at hj
    · rename_i hji
      rw [decide_eq_false]
      · rfl
      · intro hf
        unfold findR at hf
        have hlt : R.findIdx (fun q => decide (q.name = r.name)) ≤ j := by
          have hjl := (List.getElem?_eq_some_iff.1 hj).1
          refine Nat.le_of_not_lt (fun h' => ?_)
          have := List.not_of_lt_findIdx h'
          rw [(List.getElem?_eq_some_iff.1 hj).2, hqn] at this
          cases this
        omega
    · cases hj
  | false =>
    unfold sameN at hs
    rw [List.any_eq_false] at hs
    rw [findR_at h rfl (fun j q hj hq => ?_)]
    · simp
    · have := hs q (List.mem_of_getElem? (i := j) (by rw [List.getElem?_take, if_pos hj]; exact hq))
      simpa using this
set_option maxRecDepth 100000 in
set_option maxHeartbeats 8000000 in
theorem checkR_any (a : Option Addr) (c : Nat) (T : List Ty) (ar : Option Addr) (cr : Nat) (R : List Rt) (w : World) (hn : T.length ≤ 3000000000000) (hm : R.length ≤ 10000000000000) (hL : Hid (LensT T)) (hT : Hid (TRow w a T)) (hR : Hid (RRow w ar R)) :
    Calls Tryd.prog 28 #[.agg #[.slice a T.length c, .slice ar R.length cr]] w fun e w' => e = .returned (.agg #[.int .i64 (chk T R).1, .int .i64 (chk T R).2]) ∧ Below w.heap.size w w' := by
  have hB := below2 w (.cells #[.slice a T.length c, .slice ar R.length cr] 25) (.cells #[.int .i64 0, .int .i64 0] 42)
  obtain ⟨k1, k2⟩ := blk2 w #[.slice a T.length c, .slice ar R.length cr] #[.int .i64 0, .int .i64 0] 25 42
  obtain ⟨w0, hw0⟩ : ∃ wx, wx = (w.alloc (.cells #[.slice a T.length c, .slice ar R.length cr] 25)).alloc (.cells #[.int .i64 0, .int .i64 0] 42) := ⟨_, rfl⟩
  rw [← hw0] at hB k1 k2
  have HB0 := hide_ hB
  have K1 := hide_ k1
  have K2 := hide_ k2
  have hs1 : w.heap.size < w0.heap.size := k1.lt
  have hs2 : w.heap.size + 1 < w0.heap.size := k2.lt
  obtain ⟨vE, hE⟩ : ∃ vE, (chk T R).1 = vE := ⟨_, rfl⟩
  obtain ⟨vA, hA⟩ : ∃ vA, (chk T R).2 = vA := ⟨_, rfl⟩
  rw [hE, hA]
  have HC : Hid (chk T R = (vE, vA)) := hide_ (by rw [← hE, ← hA])
  clear hB k1 k2 hE hA
  go_enter Tryd.func28, Tryd.ntmps28
  go_upto_region 1 with fail
  rw [← hw0]
  clear hw0
  go_wp2_with fail
  go_loopw [3] (fun x3 wr => ∃ i : Nat, i ≤ T.length ∧ x3 = .int .i64 (i : Int) ∧ Hid (∀ j, j < i → tyOk (T.getD j ty0) j = true) ∧ Hid (Below w0.heap.size w0 wr)) (fun x3 _ => T.length - (intOf x3).toNat)
  case atStart => exact ⟨0, Nat.zero_le _, rfl, hide_ (fun j hj => by omega), hide_ (Below.refl _ _)⟩
  case round =>
    obtain ⟨i, hi, rfl, HA, HB⟩ := hrel
    generalize wr = wq at *
    have KSq := hide_ (K1.out.later HB.out)
    have i0 := KSq.out.cell 0; have i1 := KSq.out.cell 1
    simp at i0 i1
    by_cases hlt : i < T.length
    · have hlt' : (i : Int) < T.length := by omega
      obtain ⟨b, o, rfl, hb, hc⟩ := (hT.out.later (below_to HB0.out HB.out)).open (by omega)
      have hx : T[i]? = some (T[i]'hlt) := List.getElem?_eq_getElem hlt
      obtain ⟨va, vc, hcx, hvc, -, hP⟩ := hc i _ hx
      have hgd : T.getD i ty0 = T[i]'hlt := by simp [List.getD, hlt]
      have HGD := hide_ hgd
      generalize T[i]'hlt = t at *
      have t0 := hcx 0 (by decide); have t1 := hcx 1 (by decide); have t2 := hcx 2 (by decide); have t3 := hcx 3 (by decide)
      simp [tyc] at t0 t1 t2 t3
      have HCon := hide_ (right_any t va vc i wq (by omega) (hide_ hP))
      obtain ⟨ok, hok⟩ : ∃ ok, tyOk t (i : Int) = ok := ⟨_, rfl⟩
      rw [hok] at HCon
      have HOK := hide_ hok
      clear hc hx hcx hP hok hgd hb
      go_wp2_with fail
      refine HCon.out.mono ?_; rintro e w1 ⟨rfl, hB1⟩
      have HB1 := hide_ (below_to HB.out hB1)
      clear hB1 t0 t1 t2 t3 i0 i1
      cases ok with
      | true =>
        have HA2 : Hid (∀ j, j < i + 1 → tyOk (T.getD j ty0) j = true) := hide_ (fun j hj => by
          rcases Nat.lt_or_ge j i with h | h
          · exact HA.out j h
          · obtain rfl : j = i := by omega
            rw [HGD.out]; exact HOK.out)
        go_wp2_with fail
        go_roundw
        case rel => exact ⟨i + 1, by omega, by go_num, HA2, HB1⟩
        case measure => simp [intOf]; omega
      | false =>
        have HV : Hid (vE = 92 ∧ vA = (i : Int)) := hide_ (by
          have h := chk_ty (R := R) hlt (by rw [HGD.out]; exact HOK.out) HA.out
          rw [HC.out] at h
          injection h with h1 h2
          exact ⟨h1, h2⟩)
        have KF := hide_ (K2.out.later HB1.out)
        have l0 := KF.out.cell 0; have l1 := KF.out.cell 1
        simp at l0 l1
        have f0 := fun i => KF.out.frozen i
        have HK := hide_ (wr2 KF.out (.int .i64 92) (.int .i64 (i : Int)))
        have HBf := hide_ (below_wr2 (below_to HB0.out HB1.out) (w.heap.size + 1) (by omega) (.int .i64 92) (.int .i64 (i : Int)))
        go_wp2
        refine retF (x := 92) (y := (i : Int)) rfl rfl HK.out ⟨by rw [HV.out.1, HV.out.2], HBf.out⟩
    · obtain rfl : i = T.length := by omega
      have HCD : Hid (chkD T R = (vE, vA)) := hide_ (by rw [← chk_deep (R := R) HA.out]; exact HC.out)
      have HDp := hide_ (depths_any a c (.slice ar R.length cr) T wq (by omega) hL (hide_ (hT.out.later (below_to HB0.out HB.out))) HA)
      go_wp2_with fail
      refine HDp.out.mono ?_; rintro e w1 ⟨vd, rfl, HO1, hB1⟩
      have HB1 := hide_ (below_to HB.out hB1.out)
      obtain ⟨ad, cd, hvd, hrow, -⟩ := own_open HO1.out rfl
      subst hvd
      rw [depL_len]
      have HRow := hide_ hrow
      have HDL := hide_ (depL_len T)
      clear hB1 i0 i1 HDp hrow HO1
      go_wp2_with fail
      go_loop [5] (fun x5 => ∃ i : Nat, i ≤ T.length ∧ x5 = .int .i64 (i : Int) ∧ Hid (∀ j, j < i → (depL T).getD j 0 ≤ 64)) (fun x5 => T.length - (intOf x5).toNat)
      case atStart => exact ⟨0, Nat.zero_le _, rfl, hide_ (fun j hj => by omega)⟩
      case round =>
        obtain ⟨i, hi, rfl, HD⟩ := hrel
        by_cases hlt : i < T.length
        · have hlt' : (i : Int) < T.length := by omega
          obtain ⟨bd, od, rfl, -, hcd⟩ := HRow.out.open (by rw [HDL.out]; omega)
          have c1 := hcd i (by rw [HDL.out]; omega)
          obtain ⟨d, hd⟩ : ∃ d, (depL T).getD i 0 = d := ⟨_, rfl⟩
          rw [hd] at c1
          have HDi := hide_ hd
          clear hcd hd
          by_cases hgt : 64 < d
          · have HV : Hid (vE = 83 ∧ vA = (i : Int)) := hide_ (by
              have h := chkD_at (R := R) hlt (by rw [HDi.out]; exact hgt) HD.out
              rw [HCD.out] at h
              injection h with h1 h2
              exact ⟨h1, h2⟩)
            have KF := hide_ (K2.out.later HB1.out)
            have l0 := KF.out.cell 0; have l1 := KF.out.cell 1
            simp at l0 l1
            have f0 := fun i => KF.out.frozen i
            have HK := hide_ (wr2 KF.out (.int .i64 83) (.int .i64 (i : Int)))
            have HBf := hide_ (below_wr2 (below_to HB0.out HB1.out) (w.heap.size + 1) (by omega) (.int .i64 83) (.int .i64 (i : Int)))
            go_wp2
            refine retF (x := 83) (y := (i : Int)) rfl rfl HK.out ⟨by rw [HV.out.1, HV.out.2], HBf.out⟩
          · have HD2 : Hid (∀ j, j < i + 1 → (depL T).getD j 0 ≤ 64) := hide_ (fun j hj => by
              rcases Nat.lt_or_ge j i with h | h
              · exact HD.out j h
              · obtain rfl : j = i := by omega
                rw [HDi.out]; omega)
            go_wp2_with fail
            go_round
            case rel => exact ⟨i + 1, by omega, by go_num, HD2⟩
            case measure => simp [intOf]; omega
        · obtain rfl : i = T.length := by omega
          have HCR : Hid (chkR T.length R = (vE, vA)) := hide_ (by rw [← chkD_none (R := R) HD.out]; exact HCD.out)
          clear HRow HD
          go_wp2_with fail
          go_loopw [6] (fun x6 wr => ∃ i : Nat, i ≤ R.length ∧ x6 = .int .i64 (i : Int) ∧ Hid (∀ j, j < i → rootOk T.length R j = true) ∧ Hid (Below w0.heap.size w0 wr)) (fun x6 _ => R.length - (intOf x6).toNat)
          case atStart => exact ⟨0, Nat.zero_le _, rfl, hide_ (fun j hj => by omega), HB1⟩
          case round =>
            obtain ⟨i, hi, rfl, HAr, HBr⟩ := hrel
            generalize wr = wq at *
            have KSq := hide_ (K1.out.later HBr.out)
            have i0 := KSq.out.cell 0; have i1 := KSq.out.cell 1
            simp at i0 i1
            by_cases hlt : i < R.length
            · have hlt' : (i : Int) < R.length := by omega
              obtain ⟨b, o, rfl, hb, hc⟩ := (hR.out.later (below_to HB0.out HBr.out)).open (by omega)
              have hx : R[i]? = some (R[i]'hlt) := List.getElem?_eq_getElem hlt
              have hcx := hc i _ hx
              have HX := hide_ hx
              generalize R[i]'hlt = r at *
              have r0 := hcx 0 (by decide); have r1 := hcx 1 (by decide)
              simp [rtc] at r0 r1
              have HDoc := hide_ (rootOk_doc (n := T.length) HX.out)
              obtain ⟨nm, hnm⟩ : ∃ x, isName r.name = x := ⟨_, rfl⟩
              obtain ⟨bn, hbn⟩ : ∃ x, inB r.ty T.length = x := ⟨_, rfl⟩
              rw [hnm, hbn] at HDoc
              have HNm : Hid (∀ w, Calls Tryd.prog 42 #[.string r.name] w fun e w' => e = .returned (.bool nm) ∧ w = w') := hide_ (fun w => by have h := nameD_any r.name w; rwa [hnm] at h)
              have HIn : Hid (∀ w, Calls Tryd.prog 43 #[.int .i64 r.ty, .int .i64 0, .int .i64 ((T.length : Int) - 1)] w fun e w' => e = .returned (.bool bn) ∧ w = w') := hide_ (fun w => by have h := inR_any r.ty 0 ((T.length : Int) - 1) w; rwa [inR_at, hbn] at h)
              have hwt : wrap64 ((T.length : Int) - 1) = (T.length : Int) - 1 := w64 _ (by omega)
              obtain ⟨b0, hb0⟩ : ∃ x, (decide (i < 256) && nm && bn) = x := ⟨_, rfl⟩
              rw [hb0] at HDoc
              have HB00 := hide_ hb0
              have HRq := hide_ (hR.out.later (below_to HB0.out HBr.out))
              clear hc hx hcx hnm hbn hb0 hb
              go_upto_region 15 with fail
              go_cut [7] from 47 to 71 (fun x7 wc => x7 = .bool b0 ∧ ∃ w1, w1 = wc ∧ Hid (Below wq.heap.size wq w1))
              case first =>
                by_cases h256 : i < 256
                · have h256' : (i : Int) < 256 := by omega
                  have hB := HB00.out
                  rw [decide_eq_true h256] at hB
                  cases nm with
                  | false =>
                    obtain rfl : false = b0 := by rw [← hB]; rfl
                    clear hB
                    go_wp2_with fail
                    go_quiet (first | (go_at_call 42; exact Calls.quiet_of_same ((HNm.out _).mono fun _ _ h => ⟨h.1, h.2.symm⟩)))
                    go_wp2
                    go_meet
                    case rel => exact ⟨rfl, _, rfl, hide_ (below_drewN (Below.refl _ wq) nq)⟩
                  | true =>
                    obtain rfl : bn = b0 := by rw [← hB]; rfl
                    clear hB
                    go_wp2_with fail
                    go_quiet (first | (go_at_call 42; exact Calls.quiet_of_same ((HNm.out _).mono fun _ _ h => ⟨h.1, h.2.symm⟩)) | (go_at_call 43; exact Calls.quiet_of_same ((HIn.out _).mono fun _ _ h => ⟨h.1, h.2.symm⟩)))
                    go_wp2
                    go_meet
                    case rel => exact ⟨rfl, _, rfl, hide_ (below_drewN (Below.refl _ wq) nq)⟩
                · have h256' : decide ((i : Int) < 256) = false := decide_eq_false (by omega)
                  obtain rfl : false = b0 := by rw [← HB00.out, decide_eq_false h256]; rfl
                  go_wp2_with fail
                  go_quiet (fail)
                  go_wp2
                  go_meet
                  case rel => exact ⟨rfl, _, rfl, hide_ (below_drewN (Below.refl _ wq) nq)⟩
              case rest =>
              obtain ⟨rfl, w1, rfl, HBc⟩ := hcut
              clear i0 i1 r0 r1 HNm HIn HB00
              go_wp2_with fail
              go_loopw [7, 8] (fun x7 x8 wr => ∃ (j : Nat) (ok : Bool), j ≤ i ∧ x8 = .int .i64 (j : Int) ∧ x7 = .bool ok ∧ Hid ((b0 && !sameN R r.name j) = ok) ∧ Hid (Below wq.heap.size wq wr)) (fun _ x8 _ => i - (intOf x8).toNat)
              case atStart => exact ⟨0, b0, Nat.zero_le _, rfl, rfl, hide_ (by simp [sameN]), HBc⟩
              case round =>
                obtain ⟨j, ok, hj, rfl, rfl, HOk, HBj⟩ := hrel
                generalize wr = wp at *
                clear HBc
                have KSp := hide_ (KSq.out.later HBj.out)
                have i0 := KSp.out.cell 0; have i1 := KSp.out.cell 1
                simp at i0 i1
                have HBw := hide_ (below_to HBr.out HBj.out)
                by_cases hji : j < i
                · have hji' : (j : Int) < i := by omega
                  have hjl : j < R.length := by omega
                  have hjl' : (j : Int) < R.length := by omega
                  obtain ⟨b', o', hax, -, hc⟩ := (HRq.out.later HBj.out).open (by omega)
                  injection hax with hax
                  injection hax with e1 e2 _
                  subst e1 e2
                  have hx : R[j]? = some (R[j]'hjl) := List.getElem?_eq_getElem hjl
                  have q0 := hc j _ hx 0 (by decide)
                  have p0 := hc i _ HX.out 0 (by decide)
                  have HS := hide_ (sameN_succ (nm := r.name) hx)
                  generalize R[j]'hjl = q at *
                  simp [rtc] at q0 p0
                  clear hc hx
                  cases ok with
                  | false =>
                    have HO2 : Hid ((b0 && !sameN R r.name (j + 1)) = false) := hide_ (by
                      have h := HOk.out
                      rw [HS.out]
                      cases b0
                      · rfl
                      · simp at h ⊢; simp [h])
                    go_wp2_with fail
                    go_quiet (fail)
                    have HBq := hide_ (below_drewN HBj.out nq)
                    go_wp2_with fail
                    go_roundw
                    case rel => exact ⟨j + 1, false, by omega, by go_num, rfl, HO2, HBq⟩
                    case measure => simp [intOf]; omega
                  | true =>
                    by_cases he : q.name = r.name
                    · have hs : (q.name.toList == r.name.toList) = true := by rw [he]; simp
                      have hs2 : (q.name.toList != r.name.toList) = false := by rw [he]; simp
                      have HO2 : Hid ((b0 && !sameN R r.name (j + 1)) = false) := hide_ (by rw [HS.out, decide_eq_true he]; simp)
                      clear he
                      go_wp2_with fail
                      go_quiet (fail)
                      have HBq := hide_ (below_drewN HBj.out nq)
                      go_wp2_with fail
                      go_roundw
                      case rel => exact ⟨j + 1, false, by omega, by go_num, rfl, HO2, HBq⟩
                      case measure => simp [intOf]; omega
                    · have hs : (q.name.toList == r.name.toList) = false := by rw [str_eq]; exact decide_eq_false he
                      have hs2 : (q.name.toList != r.name.toList) = true := by simp [bne, hs]
                      have HO2 : Hid ((b0 && !sameN R r.name (j + 1)) = true) := hide_ (by rw [HS.out, decide_eq_false he, Bool.or_false]; exact HOk.out)
                      clear he
                      go_wp2_with fail
                      go_quiet (fail)
                      have HBq := hide_ (below_drewN HBj.out nq)
                      go_wp2_with fail
                      go_roundw
                      case rel => exact ⟨j + 1, true, by omega, by go_num, rfl, HO2, HBq⟩
                      case measure => simp [intOf]; omega
                · obtain rfl : j = i := by omega
                  have HRo : Hid (rootOk T.length R j = ok) := hide_ (by rw [HDoc.out]; exact HOk.out)
                  cases ok with
                  | true =>
                    have HA2 : Hid (∀ q, q < j + 1 → rootOk T.length R q = true) := hide_ (fun q hq => by
                      rcases Nat.lt_or_ge q j with h | h
                      · exact HAr.out q h
                      · obtain rfl : q = j := by omega
                        exact HRo.out)
                    go_wp2_with fail
                    go_roundw
                    case rel => exact ⟨j + 1, by omega, by go_num, HA2, HBw⟩
                    case measure => simp [intOf]; omega
                  | false =>
                    have HV : Hid (vE = 92 ∧ vA = (T.length : Int) + j) := hide_ (by
                      have h := chkR_at hlt HRo.out HAr.out
                      rw [HCR.out] at h
                      injection h with h1 h2
                      exact ⟨h1, h2⟩)
                    have KF := hide_ (K2.out.later HBw.out)
                    have l0 := KF.out.cell 0; have l1 := KF.out.cell 1
                    simp at l0 l1
                    have f0 := fun i => KF.out.frozen i
                    have hwr : wrap64 ((T.length : Int) + j) = (T.length : Int) + j := w64 _ (by omega)
                    have HK := hide_ (wr2 KF.out (.int .i64 92) (.int .i64 ((T.length : Int) + j)))
                    have HBf := hide_ (below_wr2 (below_to HB0.out HBw.out) (w.heap.size + 1) (by omega) (.int .i64 92) (.int .i64 ((T.length : Int) + j)))
                    go_wp2
                    refine retF (x := 92) (y := (T.length : Int) + j) rfl rfl HK.out ⟨by rw [HV.out.1, HV.out.2], HBf.out⟩
            · obtain rfl : i = R.length := by omega
              have HV : Hid (vE = 0 ∧ vA = 0) := hide_ (by
                have h := chkR_none HAr.out
                rw [HCR.out] at h
                injection h with h1 h2
                exact ⟨h1, h2⟩)
              have KF := hide_ (K2.out.later HBr.out)
              have l0 := KF.out.cell 0; have l1 := KF.out.cell 1
              simp at l0 l1
              have f0 := fun i => KF.out.frozen i
              have HK := hide_ (wr2 KF.out (.int .i64 0) (.int .i64 0))
              have HBf := hide_ (below_wr2 (below_to HB0.out HBr.out) (w.heap.size + 1) (by omega) (.int .i64 0) (.int .i64 0))
              go_wp2
              refine retF (x := 0) (y := 0) rfl rfl HK.out ⟨by rw [HV.out.1, HV.out.2], HBf.out⟩
end Go.Proofs.YtlfjcihhcphjkaaDoor
/- The document's light, of a schema that may be: it answers. -/
namespace Go.Proofs.YtlfjcihhcphjkaaDoor
open Go.RowKit
set_option linter.unusedVariables false

theorem fldF (a b : Value) (w : World) : (Instr.field 42 (.agg #[a, b]) 0).run Tryd.prog w = .ok a w := by kernel_rfl
theorem nOk_of2 {t : Ty} {i : Int} (h : tyOk t i = true) : (t.k = 1 ∧ (t.n = 1 ∨ t.n = 2 ∨ t.n = 4 ∨ t.n = 8)) ∨ ((t.k = 4 ∨ t.k = 5) ∧ 1 ≤ t.n ∧ t.n ≤ 1048576) ∨ ((t.k = 2 ∨ t.k = 3 ∨ t.k = 6 ∨ t.k = 7 ∨ t.k = 8) ∧ t.n = 0) := by
  have h1 := (tyOk_parts h).1
  unfold nOk at h1
  exact of_decide_eq_true h1
/-- It answers a bool. -/
def AnsB (e : Ending) : Prop := ∃ b, e = .returned (.bool b)
theorem tyOk_some2 {t : Ty} {i : Int} (h : tyOk t i = true) (hk : t.k = 7 ∨ t.k = 8) : 0 < t.ps.length := by
  have h3 := (tyOk_parts h).2.2
  have key : ∀ r, allP r t.ps i = true → 0 < t.ps.length := fun r hr => by
    unfold allP at hr
    rw [Bool.and_eq_true, decide_eq_true_eq] at hr
    omega
  unfold partsOk at h3
  split at h3
  · exact key _ h3
  · rw [if_pos (by omega)] at h3
    exact key _ h3
/-- All of a list lie between 1 and 2000. -/
def In2 (l : List Int) : Prop := ∀ i, i < l.length → 1 ≤ l.getD i 0 ∧ l.getD i 0 ≤ 2000
theorem In2.snoc {l : List Int} {x : Int} (h : In2 l) (h1 : 1 ≤ x) (h2 : x ≤ 2000) : In2 (l ++ [x]) := fun i hi => by
  rcases Nat.lt_or_ge i l.length with hlt | hge
  · have e : (l ++ [x]).getD i 0 = l.getD i 0 := by simp [List.getD, List.getElem?_append_left hlt]
    rw [e]
    exact h i hlt
  · have hi2 : i = l.length := by simp at hi; omega
    subst hi2
    have e : (l ++ [x]).getD l.length 0 = x := by simp [List.getD]
    rw [e]
    exact ⟨h1, h2⟩
set_option maxRecDepth 100000 in
set_option maxHeartbeats 8000000 in
theorem light_any (aT : Option Addr) (cT : Nat) (T : List Ty) (aR : Option Addr) (cR : Nat) (R : List Rt) (t : Nat) (w : World) (hn : T.length ≤ 1000000) (hm : R.length ≤ 1000000) (ht : t < T.length) (hS : Hid (OkS T R)) (hl : Hid (LensT T)) (hT : Hid (TRow w aT T)) (hRr : Hid (RRow w aR R)) :
    Calls Tryd.prog 8 #[.agg #[.slice aT T.length cT, .slice aR R.length cR], .int .i64 (t : Int)] w fun e w' => AnsB e ∧ Hid (Below w.heap.size w w') := by
  obtain ⟨w1, hw1⟩ : ∃ wx, wx = w.alloc (.cells #[.slice aT T.length cT, .slice aR R.length cR] 25) := ⟨_, rfl⟩
  have b1 : Below w.heap.size w w1 := by rw [hw1]; exact below1 _ _
  have k1 : Blk w1 w.heap.size 25 [.slice aT T.length cT, .slice aR R.length cR] := by rw [hw1]; exact Blk.newA w _ _
  have K1 := hide_ k1
  have HB1 := hide_ b1
  have hck := checkR_any aT cT T aR cR R w1 (by omega) (by omega) hl (hide_ (hT.out.later b1)) (hide_ (hRr.out.later b1))
  rw [hS.out.chk] at hck
  have HCk := hide_ hck
  have i0 := k1.cell 0; have i1 := k1.cell 1
  simp at i0 i1
  have ht' : (t : Int) < T.length := by omega
  have htc : decide ((T.length : Int) ≤ (t : Int)) = false := decide_eq_false (by omega)
  have htc2 : decide (T.length ≤ t) = false := decide_eq_false (by omega)
  have ht0 : decide ((t : Int) < 0) = false := decide_eq_false (by omega)
  clear b1 k1 hck
  go_enter Tryd.func8, Tryd.ntmps8
  go_upto_region 1 with fail
  rw [← hw1]
  clear hw1
  go_wp2_with fail
  refine HCk.out.mono ?_
  rintro e w2 ⟨rfl, hB2⟩
  have HB2 := hide_ (below_to HB1.out hB2)
  have K2 := hide_ (K1.out.later hB2)
  clear hB2 HCk i0 i1 K1 HB1
  dsimp only
  have hff := fldF (.int .i64 0) (.int .i64 0)
  go_wp2_with fail
  clear hff htc htc2 ht0
  go_loopw [5, 6] (fun x5 x6 wr => ∃ (i : Nat) (l : List Int) (v : Value), v = x5 ∧ i ≤ t + 1 ∧ x6 = .int .i64 (i : Int) ∧ Hid (l.length = i) ∧ Hid (In2 l) ∧ Hid (IOwn wr w.heap.size v l) ∧ Hid (Blk wr w.heap.size 25 [.slice aT T.length cT, .slice aR R.length cR]) ∧ Hid (Below w.heap.size w wr)) (fun _ x6 _ => t + 1 - (intOf x6).toNat)
  case atStart => exact ⟨0, [], _, rfl, Nat.zero_le _, rfl, rfl, hide_ (fun i hi => by cases hi), hide_ (IOwn.nil _ _), K2, HB2⟩
  case round =>
    obtain ⟨i, l, v, rfl, hi, rfl, HL, HI, HO, HK, HB⟩ := hrel
    clear K2 HB2
    generalize wr = wq at *
    by_cases hlt : i ≤ t
    · have hlt' : (i : Int) ≤ t := by omega
      have hiT : i < T.length := by omega
      have hiT' : (i : Int) < T.length := by omega
      have hx : T[i]? = some (T[i]'hiT) := List.getElem?_eq_getElem hiT
      have hok := hS.out.ty i hiT
      rw [show T.getD i ty0 = T[i]'hiT by simp [List.getD, hiT]] at hok
      obtain ⟨bT, oT, rfl, hbT, hcT⟩ := hT.out.open (by omega)
      obtain ⟨va, vc, hty, -, -, hpr⟩ := hcT i _ hx
      generalize T[i]'hiT = y at *
      have HOK := hide_ hok
      have HPR := hide_ hpr
      have hty' : ∀ j, j < 4 → wq.cell? ⟨bT, oT + i * 4 + j, none⟩ = (tyc y (.slice va y.ps.length vc))[j]? := fun j hj => (HB.out.cell (p := ⟨bT, oT + i * 4 + j, none⟩) hbT).trans (hty j hj)
      have y0 := hty' 0 (by decide); have y1 := hty' 1 (by decide); have y2 := hty' 2 (by decide); have y3 := hty' 3 (by decide)
      simp [tyc] at y0 y1 y2 y3
      have i0 := HK.out.cell 0
      simp at i0
      obtain ⟨w3, hw3⟩ : ∃ wx, wx = wq.alloc (.cells #[.int .i64 y.k, .int .i64 y.n, .int .i64 y.e, .slice va y.ps.length vc] 64) := ⟨_, rfl⟩
      have b3 : Below wq.heap.size wq w3 := by rw [hw3]; exact below1 _ _
      have k3 : Blk w3 wq.heap.size 64 [.int .i64 y.k, .int .i64 y.n, .int .i64 y.e, .slice va y.ps.length vc] := by rw [hw3]; exact Blk.newA wq _ _
      have HB3 := hide_ (below_to HB.out b3)
      have KS3 := hide_ (HK.out.later b3)
      have HO3 := hide_ (HO.out.later b3)
      have KT3 := hide_ k3
      have q0 := k3.cell 0; have q1 := k3.cell 1; have q2 := k3.cell 2; have q3 := k3.cell 3
      simp at q0 q1 q2 q3
      clear hx hok hcT hty hpr hty' b3 k3
      go_upto_region 9 with fail
      rw [← hw3]
      clear hw3 y0 y1 y2 y3 i0
      have hokn := nOk_of2 HOK.out
      have hll := HL.out
      obtain ⟨av, cv, hav⟩ := HO3.out.slice
      rw [hll] at hav
      subst hav
      have HLL := hide_ hll
      clear hll
      have hzz : wq.heap.size < w3.heap.size := KT3.out.lt
      by_cases h4 : y.k = 4
      · have he := tyOk_elem HOK.out (by simp [hasE, h4])
        obtain ⟨en, hen⟩ := Int.eq_ofNat_of_zero_le he.1
        rw [hen] at he
        have hel : en < l.length := by rw [HLL.out]; omega
        have hv := HI.out en hel
        obtain ⟨g, cap, ys, hv1, -, -, -, -, -, -⟩ := ownS_blk HO3.out (by omega)
        injection hv1 with hv1 hv2 hv3
        clear hv2
        subst hv1 hv3
        have cE := HO3.out.at hel
        rw [hen] at q2
        generalize l.getD en 0 = z at *
        have hN : 1 ≤ y.n ∧ y.n ≤ 1048576 := by omega
        have hz : z ≤ 10000 := by omega
        have hel' : (en : Int) < (i : Int) := by omega
        clear hel
        have hpr : 0 ≤ y.n * z ∧ y.n * z ≤ 1048576 * 2000 := ⟨Int.mul_nonneg (by omega) (by omega), Int.mul_le_mul (by omega) (by omega) (by omega) (by omega)⟩
        have hk4 : (y.k == 4) = true := by simp [h4]
        have HBw : Hid (Below w3.heap.size w3 w3.drew) := hide_ ((Below.refl _ _).drew)
        generalize hyz : y.n * z = yz at *
        go_wp2_with fail
        go_region
        clear cE hk4
        by_cases hbig : 10000 < 1 + yz
        · have hll := HLL.out
          obtain ⟨g8, cap8, w8, hrun, ho8, hu8, -⟩ := (HO3.out.later HBw.out).push ((10000 : Int)) (by omega) (Nat.le_trans HB.out.size (Nat.le_trans (Nat.le_of_lt hzz) HBw.out.size))
          have HR8 := hide_ hrun
          have HO8 := hide_ ho8
          have HB8 := hide_ (below_to3 (below_to HB3.out HBw.out) hu8 (fun k hk => (World.ownsRow.lt (HO3.out.later HBw.out) k hk).1))
          have KS8 := hide_ ((KS3.out.later HBw.out).upd hu8 (IOwn.ne (HO3.out.later HBw.out) (KS3.out.later HBw.out) (by decide)))
          have c8 : w8.cell? ⟨g8, i, none⟩ = some (.int .i64 ((10000 : Int))) := by
            have h := HO8.out.at (i := i) (by simp; omega)
            rw [show (l ++ [(10000 : Int)]).getD i 0 = (10000 : Int) by rw [← hll]; simp [List.getD]] at h
            exact h
          rw [hll] at HR8 HO8
          clear hrun ho8 hu8 hll
          go_upto_region 22 with fail
          clear q0 q1 q2 q3
          go_wp2_with (at_builtin; refine wpList_append_run rfl (.tmp 89) (.tmp 93) 26 26 rfl rfl rfl HR8.out ?_)
          go_ret
          exact ⟨⟨false, rfl⟩, HB8⟩
        · by_cases hmid : 2000 < 1 + yz
          · have hll := HLL.out
            obtain ⟨g8, cap8, w8, hrun, ho8, hu8, -⟩ := (HO3.out.later HBw.out).push (1 + yz) (by omega) (Nat.le_trans HB.out.size (Nat.le_trans (Nat.le_of_lt hzz) HBw.out.size))
            have HR8 := hide_ hrun
            have HO8 := hide_ ho8
            have HB8 := hide_ (below_to3 (below_to HB3.out HBw.out) hu8 (fun k hk => (World.ownsRow.lt (HO3.out.later HBw.out) k hk).1))
            have KS8 := hide_ ((KS3.out.later HBw.out).upd hu8 (IOwn.ne (HO3.out.later HBw.out) (KS3.out.later HBw.out) (by decide)))
            have c8 : w8.cell? ⟨g8, i, none⟩ = some (.int .i64 (1 + yz)) := by
              have h := HO8.out.at (i := i) (by simp; omega)
              rw [show (l ++ [1 + yz]).getD i 0 = 1 + yz by rw [← hll]; simp [List.getD]] at h
              exact h
            rw [hll] at HR8 HO8
            clear hrun ho8 hu8 hll
            go_upto_region 22 with fail
            clear q0 q1 q2 q3
            go_wp2_with (at_builtin; refine wpList_append_run rfl (.tmp 89) (.tmp 93) 26 26 rfl rfl rfl HR8.out ?_)
            go_ret
            exact ⟨⟨false, rfl⟩, HB8⟩
          · have hmid' : 1 + yz ≤ 2000 := by omega
            have hll := HLL.out
            obtain ⟨g8, cap8, w8, hrun, ho8, hu8, -⟩ := (HO3.out.later HBw.out).push (1 + yz) (by omega) (Nat.le_trans HB.out.size (Nat.le_trans (Nat.le_of_lt hzz) HBw.out.size))
            have HR8 := hide_ hrun
            have HO8 := hide_ ho8
            have HB8 := hide_ (below_to3 (below_to HB3.out HBw.out) hu8 (fun k hk => (World.ownsRow.lt (HO3.out.later HBw.out) k hk).1))
            have KS8 := hide_ ((KS3.out.later HBw.out).upd hu8 (IOwn.ne (HO3.out.later HBw.out) (KS3.out.later HBw.out) (by decide)))
            have c8 : w8.cell? ⟨g8, i, none⟩ = some (.int .i64 (1 + yz)) := by
              have h := HO8.out.at (i := i) (by simp; omega)
              rw [show (l ++ [1 + yz]).getD i 0 = 1 + yz by rw [← hll]; simp [List.getD]] at h
              exact h
            rw [hll] at HR8 HO8
            clear hrun ho8 hu8 hll
            go_upto_region 22 with fail
            clear q0 q1 q2 q3
            go_wp2_with (at_builtin; refine wpList_append_run rfl (.tmp 89) (.tmp 93) 26 26 rfl rfl rfl HR8.out ?_)
            go_roundw
            case rel => exact ⟨i + 1, l ++ [1 + yz], _, rfl, by omega, by go_num, hide_ (by simp [HLL.out]), hide_ (HI.out.snoc (by omega) (by omega)), HO8, KS8, HB8⟩
            case measure => simp [intOf]; omega
      have hk4 : (y.k == 4) = false := by simp [h4]
      by_cases h7 : y.k = 7
      · have hk7 : (y.k == 7) = true := by simp [h7]
        have hps := tyOk_some2 HOK.out (by omega)
        have hps2 := tyOk_len HOK.out
        go_wp2_with fail
        go_loop [8, 9] (fun x8 xj => ∃ (j : Nat) (n : Int), j ≤ y.ps.length ∧ xj = .int .i64 (j : Int) ∧ x8 = .int .i64 n ∧ 0 ≤ n ∧ n ≤ 2000) (fun _ xj => y.ps.length - (intOf xj).toNat)
        case atStart => exact ⟨0, 0, Nat.zero_le _, rfl, rfl, by omega, by omega⟩
        case round =>
          obtain ⟨j, n, hj, rfl, rfl, hn0, hn1⟩ := hrel
          by_cases hjl : j < y.ps.length
          · have hjl' : (j : Int) < y.ps.length := by omega
            have hpx : y.ps[j]? = some (y.ps[j]'hjl) := List.getElem?_eq_getElem hjl
            have hpt := tyOk_part HOK.out hpx
            obtain ⟨bP, oP, rfl, hbP, hcP⟩ := (HPR.out.later HB3.out).open (by omega)
            have p2 := hcP j _ hpx 2 (by decide)
            simp [ptc] at p2
            generalize (y.ps[j]'hjl).ty = e at *
            obtain ⟨en, rfl⟩ := Int.eq_ofNat_of_zero_le hpt.1
            have hel : en < l.length := by rw [HLL.out]; omega
            have hv := HI.out en hel
            obtain ⟨g, cap, ys, hv1, -, -, -, -, -, -⟩ := ownS_blk HO3.out (by omega)
            injection hv1 with hv1 hv2 hv3
            clear hv2
            subst hv1 hv3
            have cE := HO3.out.at hel
            generalize l.getD en 0 = z at *
            have hel' : (en : Int) < (i : Int) := by omega
            clear hcP hpx hel hpt
            by_cases hmx : n < z
            · go_wp2
              go_round
              case rel => exact ⟨j + 1, z, by omega, by go_num, by first | rfl | (congr 1; omega) | (rw [if_pos hmx]), by omega, by omega⟩
              case measure => simp [intOf]; omega
            · go_wp2
              go_round
              case rel => exact ⟨j + 1, n, by omega, by go_num, by first | rfl | (congr 1; omega) | (rw [if_neg hmx]), by omega, by omega⟩
              case measure => simp [intOf]; omega
          · obtain rfl : j = y.ps.length := by omega
            have HBw : Hid (Below w3.heap.size w3 w3) := hide_ (Below.refl _ _)
            by_cases hbig : 10000 < 1 + n
            · exact absurd hbig (by omega)
            · by_cases hmid : 2000 < 1 + n
              · have hll := HLL.out
                obtain ⟨g8, cap8, w8, hrun, ho8, hu8, -⟩ := (HO3.out).push (1 + n) (by omega) (Nat.le_trans HB.out.size (Nat.le_trans (Nat.le_of_lt hzz) HBw.out.size))
                have HR8 := hide_ hrun
                have HO8 := hide_ ho8
                have HB8 := hide_ (below_to3 (below_to HB3.out HBw.out) hu8 (fun k hk => (World.ownsRow.lt (HO3.out) k hk).1))
                have KS8 := hide_ ((KS3.out.later HBw.out).upd hu8 (IOwn.ne (HO3.out) (KS3.out.later HBw.out) (by decide)))
                have c8 : w8.cell? ⟨g8, i, none⟩ = some (.int .i64 (1 + n)) := by
                  have h := HO8.out.at (i := i) (by simp; omega)
                  rw [show (l ++ [1 + n]).getD i 0 = 1 + n by rw [← hll]; simp [List.getD]] at h
                  exact h
                rw [hll] at HR8 HO8
                clear hrun ho8 hu8 hll
                go_upto_region 22 with fail
                clear q0 q1 q2 q3
                go_wp2_with (at_builtin; refine wpList_append_run rfl (.tmp 89) (.tmp 93) 26 26 rfl rfl rfl HR8.out ?_)
                go_ret
                exact ⟨⟨false, rfl⟩, HB8⟩
              · have hmid' : 1 + n ≤ 2000 := by omega
                have hll := HLL.out
                obtain ⟨g8, cap8, w8, hrun, ho8, hu8, -⟩ := (HO3.out).push (1 + n) (by omega) (Nat.le_trans HB.out.size (Nat.le_trans (Nat.le_of_lt hzz) HBw.out.size))
                have HR8 := hide_ hrun
                have HO8 := hide_ ho8
                have HB8 := hide_ (below_to3 (below_to HB3.out HBw.out) hu8 (fun k hk => (World.ownsRow.lt (HO3.out) k hk).1))
                have KS8 := hide_ ((KS3.out.later HBw.out).upd hu8 (IOwn.ne (HO3.out) (KS3.out.later HBw.out) (by decide)))
                have c8 : w8.cell? ⟨g8, i, none⟩ = some (.int .i64 (1 + n)) := by
                  have h := HO8.out.at (i := i) (by simp; omega)
                  rw [show (l ++ [1 + n]).getD i 0 = 1 + n by rw [← hll]; simp [List.getD]] at h
                  exact h
                rw [hll] at HR8 HO8
                clear hrun ho8 hu8 hll
                go_upto_region 22 with fail
                clear q0 q1 q2 q3
                go_wp2_with (at_builtin; refine wpList_append_run rfl (.tmp 89) (.tmp 93) 26 26 rfl rfl rfl HR8.out ?_)
                go_roundw
                case rel => exact ⟨i + 1, l ++ [1 + n], _, rfl, by omega, by go_num, hide_ (by simp [HLL.out]), hide_ (HI.out.snoc (by omega) (by omega)), HO8, KS8, HB8⟩
                case measure => simp [intOf]; omega
      have hk7 : (y.k == 7) = false := by simp [h7]
      by_cases h8 : y.k = 8
      · have hk8 : (y.k == 8) = true := by simp [h8]
        have hps := tyOk_some2 HOK.out (by omega)
        have hps2 := tyOk_len HOK.out
        go_wp2_with fail
        go_loop [8, 10] (fun x8 xj => ∃ (j : Nat) (n : Int), j ≤ y.ps.length ∧ xj = .int .i64 (j : Int) ∧ x8 = .int .i64 n ∧ 0 ≤ n ∧ n ≤ 2000 * (j : Int)) (fun _ xj => y.ps.length - (intOf xj).toNat)
        case atStart => exact ⟨0, 0, Nat.zero_le _, rfl, rfl, by omega, by omega⟩
        case round =>
          obtain ⟨j, n, hj, rfl, rfl, hn0, hn1⟩ := hrel
          by_cases hjl : j < y.ps.length
          · have hjl' : (j : Int) < y.ps.length := by omega
            have hpx : y.ps[j]? = some (y.ps[j]'hjl) := List.getElem?_eq_getElem hjl
            have hpt := tyOk_part HOK.out hpx
            obtain ⟨bP, oP, rfl, hbP, hcP⟩ := (HPR.out.later HB3.out).open (by omega)
            have p2 := hcP j _ hpx 2 (by decide)
            simp [ptc] at p2
            generalize (y.ps[j]'hjl).ty = e at *
            obtain ⟨en, rfl⟩ := Int.eq_ofNat_of_zero_le hpt.1
            have hel : en < l.length := by rw [HLL.out]; omega
            have hv := HI.out en hel
            obtain ⟨g, cap, ys, hv1, -, -, -, -, -, -⟩ := ownS_blk HO3.out (by omega)
            injection hv1 with hv1 hv2 hv3
            clear hv2
            subst hv1 hv3
            have cE := HO3.out.at hel
            generalize l.getD en 0 = z at *
            have hel' : (en : Int) < (i : Int) := by omega
            clear hcP hpx hel hpt
            go_wp2
            go_round
            case rel => exact ⟨j + 1, n + z, by omega, by go_num, by go_num, by omega, by omega⟩
            case measure => simp [intOf]; omega
          · obtain rfl : j = y.ps.length := by omega
            have HBw : Hid (Below w3.heap.size w3 w3) := hide_ (Below.refl _ _)
            by_cases hbig : 10000 < 1 + n
            · have hll := HLL.out
              obtain ⟨g8, cap8, w8, hrun, ho8, hu8, -⟩ := (HO3.out).push ((10000 : Int)) (by omega) (Nat.le_trans HB.out.size (Nat.le_trans (Nat.le_of_lt hzz) HBw.out.size))
              have HR8 := hide_ hrun
              have HO8 := hide_ ho8
              have HB8 := hide_ (below_to3 (below_to HB3.out HBw.out) hu8 (fun k hk => (World.ownsRow.lt (HO3.out) k hk).1))
              have KS8 := hide_ ((KS3.out.later HBw.out).upd hu8 (IOwn.ne (HO3.out) (KS3.out.later HBw.out) (by decide)))
              have c8 : w8.cell? ⟨g8, i, none⟩ = some (.int .i64 ((10000 : Int))) := by
                have h := HO8.out.at (i := i) (by simp; omega)
                rw [show (l ++ [(10000 : Int)]).getD i 0 = (10000 : Int) by rw [← hll]; simp [List.getD]] at h
                exact h
              rw [hll] at HR8 HO8
              clear hrun ho8 hu8 hll
              go_upto_region 22 with fail
              clear q0 q1 q2 q3
              go_wp2_with (at_builtin; refine wpList_append_run rfl (.tmp 89) (.tmp 93) 26 26 rfl rfl rfl HR8.out ?_)
              go_ret
              exact ⟨⟨false, rfl⟩, HB8⟩
            · by_cases hmid : 2000 < 1 + n
              · have hll := HLL.out
                obtain ⟨g8, cap8, w8, hrun, ho8, hu8, -⟩ := (HO3.out).push (1 + n) (by omega) (Nat.le_trans HB.out.size (Nat.le_trans (Nat.le_of_lt hzz) HBw.out.size))
                have HR8 := hide_ hrun
                have HO8 := hide_ ho8
                have HB8 := hide_ (below_to3 (below_to HB3.out HBw.out) hu8 (fun k hk => (World.ownsRow.lt (HO3.out) k hk).1))
                have KS8 := hide_ ((KS3.out.later HBw.out).upd hu8 (IOwn.ne (HO3.out) (KS3.out.later HBw.out) (by decide)))
                have c8 : w8.cell? ⟨g8, i, none⟩ = some (.int .i64 (1 + n)) := by
                  have h := HO8.out.at (i := i) (by simp; omega)
                  rw [show (l ++ [1 + n]).getD i 0 = 1 + n by rw [← hll]; simp [List.getD]] at h
                  exact h
                rw [hll] at HR8 HO8
                clear hrun ho8 hu8 hll
                go_upto_region 22 with fail
                clear q0 q1 q2 q3
                go_wp2_with (at_builtin; refine wpList_append_run rfl (.tmp 89) (.tmp 93) 26 26 rfl rfl rfl HR8.out ?_)
                go_ret
                exact ⟨⟨false, rfl⟩, HB8⟩
              · have hmid' : 1 + n ≤ 2000 := by omega
                have hll := HLL.out
                obtain ⟨g8, cap8, w8, hrun, ho8, hu8, -⟩ := (HO3.out).push (1 + n) (by omega) (Nat.le_trans HB.out.size (Nat.le_trans (Nat.le_of_lt hzz) HBw.out.size))
                have HR8 := hide_ hrun
                have HO8 := hide_ ho8
                have HB8 := hide_ (below_to3 (below_to HB3.out HBw.out) hu8 (fun k hk => (World.ownsRow.lt (HO3.out) k hk).1))
                have KS8 := hide_ ((KS3.out.later HBw.out).upd hu8 (IOwn.ne (HO3.out) (KS3.out.later HBw.out) (by decide)))
                have c8 : w8.cell? ⟨g8, i, none⟩ = some (.int .i64 (1 + n)) := by
                  have h := HO8.out.at (i := i) (by simp; omega)
                  rw [show (l ++ [1 + n]).getD i 0 = 1 + n by rw [← hll]; simp [List.getD]] at h
                  exact h
                rw [hll] at HR8 HO8
                clear hrun ho8 hu8 hll
                go_upto_region 22 with fail
                clear q0 q1 q2 q3
                go_wp2_with (at_builtin; refine wpList_append_run rfl (.tmp 89) (.tmp 93) 26 26 rfl rfl rfl HR8.out ?_)
                go_roundw
                case rel => exact ⟨i + 1, l ++ [1 + n], _, rfl, by omega, by go_num, hide_ (by simp [HLL.out]), hide_ (HI.out.snoc (by omega) (by omega)), HO8, KS8, HB8⟩
                case measure => simp [intOf]; omega
      have hk8 : (y.k == 8) = false := by simp [h8]
      have HBw : Hid (Below w3.heap.size w3 w3) := hide_ (Below.refl _ _)
      have hll := HLL.out
      obtain ⟨g8, cap8, w8, hrun, ho8, hu8, -⟩ := (HO3.out).push ((1 : Int)) (by omega) (Nat.le_trans HB.out.size (Nat.le_trans (Nat.le_of_lt hzz) HBw.out.size))
      have HR8 := hide_ hrun
      have HO8 := hide_ ho8
      have HB8 := hide_ (below_to3 (below_to HB3.out HBw.out) hu8 (fun k hk => (World.ownsRow.lt (HO3.out) k hk).1))
      have KS8 := hide_ ((KS3.out.later HBw.out).upd hu8 (IOwn.ne (HO3.out) (KS3.out.later HBw.out) (by decide)))
      have c8 : w8.cell? ⟨g8, i, none⟩ = some (.int .i64 ((1 : Int))) := by
        have h := HO8.out.at (i := i) (by simp; omega)
        rw [show (l ++ [(1 : Int)]).getD i 0 = (1 : Int) by rw [← hll]; simp [List.getD]] at h
        exact h
      rw [hll] at HR8 HO8
      clear hrun ho8 hu8 hll
      go_upto_region 22 with fail
      clear q0 q1 q2 q3
      go_wp2_with (at_builtin; refine wpList_append_run rfl (.tmp 89) (.tmp 93) 26 26 rfl rfl rfl HR8.out ?_)
      go_roundw
      case rel => exact ⟨i + 1, l ++ [(1 : Int)], _, rfl, by omega, by go_num, hide_ (by simp [HLL.out]), hide_ (HI.out.snoc (by omega) (by omega)), HO8, KS8, HB8⟩
      case measure => simp [intOf]; omega
    · obtain rfl : i = t + 1 := by omega
      go_wp2
      go_ret
      exact ⟨⟨true, rfl⟩, HB⟩
end Go.Proofs.YtlfjcihhcphjkaaDoor
/- made. -/
namespace Go.Proofs.YtlfjcihhcphjkaaDoor
open Go.RowKit
set_option linter.unusedVariables false

theorem retM {fn : Func} {p u1 u2 u3 : Tmp} (h : fn.results = #[.cell p 25, .tmp u1, .tmp u2, .tmp u3]) {R : Ending → World → Prop} {tmps : Array Value} {g : Nat} {w : World} {x y v1 v2 v3 : Value} (h1 : tmps.getD u1 undef = v1) (h2 : tmps.getD u2 undef = v2) (h3 : tmps.getD u3 undef = v3) (hp : tmps.getD p undef = .pointer (some ⟨g, 0, none⟩)) (hK : Blk w g 25 [x, y]) (hR : R (.returned (.tuple #[.agg #[x, y], v1, v2, v3])) w) :
    bodyPost Tryd.prog fn R Exit.ret ⟨tmps, []⟩ w := by
  refine bodyPost_ret (v := .tuple #[.agg #[x, y], v1, v2, v3]) ?_ rfl hR
  have hp' : tmps[p]?.getD undef = .pointer (some ⟨g, 0, none⟩) := by simpa using hp
  have hg : w.heap[g]? = some (.cells #[x, y] 25 (0, 0)) := hK
  simp only [results, h]
  simp [hp', asAddr, Result.andThen, run_loadVar_row w g 25 25 #[x, y] (0, 0) _ hg Tryd.underlying25 rfl (by show _ = some 2; kernel_rfl), ← h1, ← h2, ← h3]
/-- What made answers. -/
def MdTo (w0 w : World) (T : List Ty) (R : List Rt) (e : Ending) (w' : World) : Prop := ∃ a cap ar cr Q, ∃ (t' : Int) (v' : Value) (ok : Bool), e = .returned (.tuple #[.agg #[.slice a (cutT T).length cap, .slice ar (R.take 260).length cr], .int .i64 t', v', .bool ok]) ∧ Hid (TOwn w' w0.heap.size (.slice a (cutT T).length cap) Q) ∧ Hid (Q.map (·.1) = cutT T) ∧ Hid (ROwn w' w0.heap.size (.slice ar (R.take 260).length cr) (R.take 260)) ∧ Hid (ok = true → OkS (cutT T) (R.take 260) ∧ 0 ≤ t' ∧ t' < (cutT T).length ∧ ∃ p, IOwn w' w.heap.size v' p ∧ p.length ≤ 300) ∧ Hid (Below w.heap.size w w')
set_option maxRecDepth 100000 in
set_option maxHeartbeats 8000000 in
theorem made_any (aT : Option Addr) (cT : Nat) (T : List Ty) (aR : Option Addr) (cR : Nat) (R : List Rt) (t : Int) (aP : Option Addr) (cP : Nat) (p : List Int) (w0 w : World) (hn : T.length ≤ 1000000000000000) (hm : R.length ≤ 1000000000000000) (hcR : R.length ≤ cR) (hnil : aR = none → cR = 0) (hl : Hid (LensT T)) (hB0 : Hid (Below w0.heap.size w0 w)) (hT : Hid (TRow w0 aT T)) (hRr : Hid (RRow w aR R)) (hpn : p.length ≤ 1000000000000000) (hpc : p.length ≤ cP) (hpnil : aP = none → cP = 0) (hPr : Hid (Row .i64 w aP p)) :
    Calls Tryd.prog 21 #[.agg #[.slice aT T.length cT, .slice aR R.length cR], .int .i64 t, .slice aP p.length cP] w fun e w' => MdTo w0 w T R e w' := by
  obtain ⟨w1, hw1⟩ : ∃ wx, wx = w.alloc (.cells #[.slice aT T.length cT, .slice aR R.length cR] 25) := ⟨_, rfl⟩
  have b1 : Below w.heap.size w w1 := by rw [hw1]; exact below1 _ _
  have k1 : Blk w1 w.heap.size 25 [.slice aT T.length cT, .slice aR R.length cR] := by rw [hw1]; exact Blk.newA w _ _
  have s1 : w1.heap.size = w.heap.size + 1 := by rw [hw1]; simp
  obtain ⟨w2, hw2⟩ : ∃ wx, wx = w1.alloc (.cells #[.slice none 0 0, .slice none 0 0] 25) := ⟨_, rfl⟩
  have b2 : Below w1.heap.size w1 w2 := by rw [hw2]; exact below1 _ _
  have k2 : Blk w2 w1.heap.size 25 [.slice none 0 0, .slice none 0 0] := by rw [hw2]; exact Blk.newA w1 _ _
  rw [s1] at k2
  have hB2 := below_to b1 b2
  have K1 := hide_ (k1.later b2)
  have K2 := hide_ k2
  have HB2 := hide_ hB2
  have HCu := hide_ (cut_any aT cT T aR cR R w0 w2 hn hm hcR hnil hl (hide_ (below_to hB0.out hB2)) hT (hide_ (hRr.out.later hB2)))
  have i0 := K1.out.cell 0; have i1 := K1.out.cell 1
  simp at i0 i1
  have HZ2 : Hid (w.heap.size + 2 ≤ w2.heap.size) := hide_ (by rw [hw2]; simp; omega)
  clear b1 b2 k1 k2 s1 hB2
  go_enter Tryd.func21, Tryd.ntmps21
  go_upto_region 1 with fail
  rw [← hw1, ← hw2]
  clear hw1 hw2
  go_wp2_with fail
  refine HCu.out.mono ?_
  rintro e w3 ⟨a, cap, ar, cr, Q, rfl, HT3, HQ, HR3, HB3⟩
  have hlc : (cutT T).length ≤ 120 := by simp [cutT]; omega
  have hlr : (R.take 260).length ≤ 260 := by simp; omega
  have HLs := hide_ (cutT_lens T)
  obtain ⟨U, hU⟩ : ∃ U, cutT T = U := ⟨_, rfl⟩
  obtain ⟨Rc, hRc⟩ : ∃ Rc, R.take 260 = Rc := ⟨_, rfl⟩
  have HU := hide_ hU
  have HRc := hide_ hRc
  rw [hU] at HT3 HLs hlc HQ ⊢
  rw [hRc] at HR3 hlr ⊢
  clear hU hRc i0 i1 HCu
  obtain ⟨w4, hw4⟩ : ∃ wx, wx = w3.alloc (.cells #[.slice a U.length cap, .slice ar Rc.length cr] 25) := ⟨_, rfl⟩
  have b4 : Below w3.heap.size w3 w4 := by rw [hw4]; exact below1 _ _
  have k4 : Blk w4 w3.heap.size 25 [.slice a U.length cap, .slice ar Rc.length cr] := by rw [hw4]; exact Blk.newA w3 _ _
  have HT4 := hide_ (HT3.out.later b4)
  have HR4 := hide_ (HR3.out.later b4)
  have HB4 := hide_ (below_to (below_to HB2.out HB3.out) b4)
  have KR4 := hide_ ((K2.out.later HB3.out).later b4)
  have hzb : w0.heap.size ≤ w.heap.size := hB0.out.size
  have hz3 : w.heap.size + 2 ≤ w3.heap.size := Nat.le_trans HZ2.out HB3.out.size
  have HCk := hide_ (checkR_any a cap U ar cr Rc w4 (by omega) (by omega) HLs (hide_ (town_row HT4.out HQ.out)) (hide_ (rown_row HR4.out)))
  have K4 := hide_ k4
  have i0 := k4.cell 0; have i1 := k4.cell 1
  simp at i0 i1
  clear b4 k4 hT hRr K1 K2
  go_upto_region 2 with fail
  rw [← hw4]
  clear hw4
  go_wp2_with fail
  refine HCk.out.mono ?_
  rintro e w5 ⟨rfl, hB5⟩
  have HB5 := hide_ (below_to HB4.out hB5)
  have HT5 := hide_ (HT4.out.later hB5)
  have HR5 := hide_ (HR4.out.later hB5)
  have KR5 := hide_ (KR4.out.later hB5)
  have K5 := hide_ (K4.out.later hB5)
  have HCz : Hid ((chk U Rc).1 = 0 → OkS U Rc) := hide_ okS_of
  have hff := fldF (.int .i64 (chk U Rc).1) (.int .i64 (chk U Rc).2)
  generalize (chk U Rc).1 = e1 at *
  generalize (chk U Rc).2 = e2 at *
  have q0 := KR5.out.cell 0; have q1 := KR5.out.cell 1
  have qf := fun i => KR5.out.frozen i
  clear i0 i1 hB5 HT4 HR4 KR4 K4 HB4 HCk
  have i0 := K5.out.cell 0; have i1 := K5.out.cell 1
  simp at i0 i1 q0 q1
  by_cases hc : e1 = 0
  · subst hc
    by_cases hu0 : U.length = 0
    · have hu0' : ((U.length : Int) == 0) = true := by rw [hu0]; rfl
      have hu0'' : (U.length == 0) = true := by simp [hu0]
      clear hu0
      have HK := hide_ (wr2 KR5.out (.slice a U.length cap) (.slice ar Rc.length cr))
      have HBf := hide_ (below_wr2 HB5.out (w.heap.size + 1) (by omega) (.slice a U.length cap) (.slice ar Rc.length cr))
      have hst := st2 HT5.out HR5.out KR5.out (by omega) (.slice a U.length cap) (.slice ar Rc.length cr)
      have HTf := hide_ hst.1
      have HRf := hide_ hst.2
      clear hst
      go_wp2
      exact retM (v1 := .int .i64 0) (v2 := .slice none 0 0) (v3 := .bool false) rfl rfl rfl rfl rfl HK.out ⟨a, cap, ar, cr, Q, 0, .slice none 0 0, false, by rw [HU.out, HRc.out], by rw [HU.out]; exact HTf, by rw [HU.out]; exact HQ, by rw [HRc.out]; exact HRf, hide_ (fun h => by cases h), HBf⟩
    · have hS := HCz.out rfl
      have HS := hide_ hS
      have hu0' : ((U.length : Int) == 0) = false := by simp; intro h; exact hu0 (by rw [h]; rfl)
      have hu0'' : (U.length == 0) = false := by simpa using hu0
      have hul : (0 : Int) < U.length := by omega
      go_wp2_with fail
      refine (rest_any t U.length _ hul (by omega)).mono ?_
      rintro e w' ⟨r, rfl, hr0, hr1, rfl⟩
      obtain ⟨rn, rfl⟩ := Int.eq_ofNat_of_zero_le hr0
      have hrn : rn < U.length := by omega
      go_wp2_with fail
      refine (light_any a cap U ar cr Rc rn w5 (by omega) (by omega) hrn HS HLs (hide_ (town_row HT5.out HQ.out)) (hide_ (rown_row HR5.out))).mono ?_
      rintro e w6 ⟨⟨bb, rfl⟩, HB6⟩
      have HBx := hide_ (below_to HB5.out HB6.out)
      have HT6 := hide_ (HT5.out.later HB6.out)
      have HR6 := hide_ (HR5.out.later HB6.out)
      have KR6 := hide_ (KR5.out.later HB6.out)
      have K6 := hide_ (K5.out.later HB6.out)
      clear q0 q1 qf i0 i1
      have q0 := KR6.out.cell 0; have q1 := KR6.out.cell 1
      have qf := fun i => KR6.out.frozen i
      have i0 := K6.out.cell 0; have i1 := K6.out.cell 1
      simp at i0 i1 q0 q1
      clear HT5 HR5 KR5 K5
      cases bb with
      | false =>
        have HK := hide_ (wr2 KR6.out (.slice a U.length cap) (.slice ar Rc.length cr))
        have HBf := hide_ (below_wr2 HBx.out (w.heap.size + 1) (by omega) (.slice a U.length cap) (.slice ar Rc.length cr))
        have hst := st2 HT6.out HR6.out KR6.out (by omega) (.slice a U.length cap) (.slice ar Rc.length cr)
        have HTf := hide_ hst.1
        have HRf := hide_ hst.2
        clear hst
        go_wp2
        exact retM (v1 := .int .i64 0) (v2 := .slice none 0 0) (v3 := .bool false) rfl rfl rfl rfl rfl HK.out ⟨a, cap, ar, cr, Q, 0, .slice none 0 0, false, by rw [HU.out, HRc.out], by rw [HU.out]; exact HTf, by rw [HU.out]; exact HQ, by rw [HRc.out]; exact HRf, hide_ (fun h => by cases h), HBf⟩
      | true =>
        obtain ⟨m, hm⟩ : ∃ m, min 300 p.length = m := ⟨_, rfl⟩
        have hm3 : m ≤ 300 := by omega
        obtain ⟨vP, w7, hrun, hoP, hgP⟩ := run_copy elI w6.drew 26 w6.heap.size aP m cP (p.take 300) (by rw [List.length_take]; omega) ((hPr.out.later HBx.out.drew).take 300) hpnil (by unfold maxLen; omega) (by omega) (Nat.le_refl _)
        have hOP6 : IOwn w7 w6.heap.size vP (p.take 300) := by unfold IOwn; rw [List.length_take, hm]; exact hoP
        have hOP : IOwn w7 w.heap.size vP (p.take 300) := hOP6.base HBx.out.size
        have uP : Upd (fun _ => False) w6.drew w7 := (Upd.refl _ _).grown hgP (fun k e => by cases e)
        have hB7 : Below w6.heap.size w6 w7 := below_to ((Below.refl w6.heap.size w6).drew) (uP.below _ (Nat.le_refl _) (fun k h => h.elim))
        have HB7 := hide_ hB7
        have HRn := hide_ hrun
        have HT7 := hide_ (HT6.out.later hB7)
        have HR7 := hide_ (HR6.out.later hB7)
        have HSS : Hid (∀ w', Below w6.heap.size w6 w' → (fun w' => w'.cell? ⟨w3.heap.size, 0, none⟩ = some (.slice a U.length cap) ∧ w'.cell? ⟨w3.heap.size, 1, none⟩ = some (.slice ar Rc.length cr)) w') := hide_ (fun w' hB => ⟨(K6.out.later hB).cell 0, (K6.out.later hB).cell 1⟩)
        have HTm := hide_ (tame_any a cap U (.slice ar Rc.length cr) vP (p.take 300) w.heap.size w7 (by omega) (by rw [List.length_take]; omega) (Nat.le_trans HBx.out.size hB7.size) (hide_ (town_row HT7.out HQ.out)) (hide_ hOP))
        have HVl : Hid (∀ k, vP.ownBlock = some k → w6.heap.size ≤ k) := hide_ (fun k hk => (World.ownsRow.lt hOP6 k hk).1)
        obtain ⟨aP', cP', hvP⟩ := hOP.slice
        have HLP : Hid ((p.take 300).length = m) := hide_ (by rw [List.length_take]; omega)
        rw [HLP.out] at hvP
        subst hvP
        clear hOP hOP6 hoP hgP uP hB7 hrun
        by_cases h300 : p.length ≤ 300
        · have h300' : (p.length : Int) ≤ 300 := by omega
          obtain rfl : m = p.length := by omega
          clear hm
          have hcap : (p.length : Int) ≤ cP := by omega
          go_upto_region 7 with fail
          refine wp_region_held_drew (S := (fun w' => w'.cell? ⟨w3.heap.size, 0, none⟩ = some (.slice a U.length cap) ∧ w'.cell? ⟨w3.heap.size, 1, none⟩ = some (.slice ar Rc.length cr))) (by kernel_rfl) (HSS.out _ ((Below.refl _ _).drew)) (fun hHeld => ?_)
          refine wpAnyH_take (i := 0) (v := ?vga1) rfl (by kernel_rfl) (by kernel_rfl) (by kernel_rfl) (fun _ _ _ h => h) (Or.inl ⟨by rfl, ?hyga1⟩) hHeld ?restga1
          case hyga1 => intro w' hSw; (try dsimp only at hSw); go_simp; try with_reducible rfl
          simp only [Act.put]
          refine wpAnyH_take (i := 1) (v := ?vga2) rfl (by kernel_rfl) (by kernel_rfl) (by kernel_rfl) (fun _ _ _ h => h) (Or.inl ⟨by rfl, ?hyga2⟩) hHeld ?restga2
          case hyga2 => intro w' hSw; (try dsimp only at hSw); go_simp; try with_reducible rfl
          simp only [Act.put]
          refine wpAnyH_take (i := 2) (v := ?vga3) rfl (by kernel_rfl) (by kernel_rfl) (by kernel_rfl) (fun _ _ _ h => h) (Or.inl ⟨by rfl, ?hyga3⟩) hHeld ?restga3
          case hyga3 => intro w' hSw; (try dsimp only at hSw); go_simp; try with_reducible rfl
          simp only [Act.put]
          refine wpAnyH_take (i := 3) (v := ?vga4) rfl (by kernel_rfl) (by kernel_rfl) (by kernel_rfl) (fun _ _ _ h => h) (Or.inl ⟨by rfl, ?hyga4⟩) hHeld ?restga4
          case hyga4 => intro w' hSw; (try dsimp only at hSw); go_simp; try with_reducible rfl
          simp only [Act.put]
          refine wpAnyH_take (i := 4) (v := ?vga5) rfl (by kernel_rfl) (by kernel_rfl) (by kernel_rfl) (fun _ _ _ h => h) (Or.inl ⟨by rfl, ?hyga5⟩) hHeld ?restga5
          case hyga5 => intro w' hSw; (try dsimp only at hSw); go_simp; try with_reducible rfl
          simp only [Act.put]
          refine wpAnyH_take (i := 5) (v := ?vga6) rfl (by kernel_rfl) (by kernel_rfl) (by kernel_rfl) (fun _ _ _ h => h) (Or.inl ⟨by rfl, ?hyga6⟩) hHeld ?restga6
          case hyga6 => intro w' hSw; (try dsimp only at hSw); go_simp; try with_reducible rfl
          simp only [Act.put]
          refine wpAnyH_take (i := 6) (v := ?vga7) rfl (by kernel_rfl) (by kernel_rfl) (by kernel_rfl) (fun _ _ _ h => h) (Or.inl ⟨by rfl, ?hyga7⟩) hHeld ?restga7
          case hyga7 => intro w' hSw; (try dsimp only at hSw); go_simp; try with_reducible rfl
          simp only [Act.put]
          rw [if_neg (show ¬ (300 : Int) < (p.length : Int) by omega)]
          refine wpAnyH_ready (rs := [7]) (by kernel_rfl) (by simp) ?_
          refine AllReadyH.cons rfl (fun K hK => ?_) AllReadyH.nil
          go_simp
          refine hK.out _ _ (hHeld) (fun hHeld => ?_)
          clear hK K
          refine wpAnyH_ready (rs := [8]) (by kernel_rfl) (by simp) ?_
          refine AllReadyH.cons rfl (fun K hK => ?_) AllReadyH.nil
          refine step_append_run rfl (.const (.slice none 0 0)) (.tmp 41) 26 26 rfl rfl rfl HRn.out ?_
          refine hK.out _ _ (HSS.out _ HB7.out) (fun hHeld => ?_)
          clear hK K
          refine wpAnyH_ready (rs := [9]) (by kernel_rfl) (by simp) ?_
          refine AllReadyH.cons rfl (fun K hK => ?_) AllReadyH.nil
          go_simp
          refine HTm.out.mono ?_
          rintro e w8 ⟨p', rfl, HO8, HL8, HU8⟩
          have HB8 := hide_ (below_to3 HB7.out HU8.out (fun k hk => HVl.out k hk))
          have HS8 := hide_ (HSS.out _ HB8.out)
          dsimp only
          refine hK.out _ _ (HS8.out) (fun hHeld => ?_)
          clear hK K
          have KR8 := hide_ (KR6.out.later HB8.out)
          have K8 := hide_ (K6.out.later HB8.out)
          have HT8 := hide_ (HT6.out.later HB8.out)
          have HR8 := hide_ (HR6.out.later HB8.out)
          have z0 := KR8.out.cell 0; have z1 := KR8.out.cell 1
          have zf := fun i => KR8.out.frozen i
          simp only [List.getElem?_cons_zero, List.getElem?_cons_succ] at z0 z1
          have HK := hide_ (wr2 KR8.out (.slice a U.length cap) (.slice ar Rc.length cr))
          have HBf := hide_ (below_wr2 (below_to HBx.out HB8.out) (w.heap.size + 1) (by omega) (.slice a U.length cap) (.slice ar Rc.length cr))
          have hst := st2 HT8.out HR8.out KR8.out (by omega) (.slice a U.length cap) (.slice ar Rc.length cr)
          have HTf := hide_ hst.1
          have HRf := hide_ hst.2
          have HIf := hide_ (HO8.out.upd (((Upd.refl (fun k => k = w.heap.size + 1) w8).set ⟨w.heap.size + 1, 0, none⟩ (.slice a U.length cap) (.inl rfl)).set ⟨w.heap.size + 1, 1, none⟩ (.slice ar Rc.length cr) (.inl rfl)) (fun k hk e => HO8.out.ne KR8.out (by decide) (by rw [← e]; exact hk)))
          have K9 := hide_ ((K8.out.other ⟨w.heap.size + 1, 0, none⟩ (.slice a U.length cap) (by show w3.heap.size ≠ w.heap.size + 1; omega)).other ⟨w.heap.size + 1, 1, none⟩ (.slice ar Rc.length cr) (by show w3.heap.size ≠ w.heap.size + 1; omega))
          have HS9 := hide_ (And.intro (K9.out.cell 0) (K9.out.cell 1))
          clear hst
          refine wpAnyH_ready (rs := [10]) (by kernel_rfl) (by simp) ?_
          refine AllReadyH.cons rfl (fun K hK => ?_) AllReadyH.nil
          go_simp
          refine hK.out _ _ (HS9.out) (fun hHeld => ?_)
          clear hK K
          refine wpAnyH_ready (rs := [11]) (by kernel_rfl) (by simp) ?_
          refine AllReadyH.cons rfl (fun K hK => ?_) AllReadyH.nil
          go_simp
          refine hK.out _ _ (HS9.out) (fun hHeld => ?_)
          clear hK K
          refine wpAnyH_ready (rs := [12]) (by kernel_rfl) (by simp) ?_
          refine AllReadyH.cons rfl (fun K hK => ?_) AllReadyH.nil
          go_simp
          refine hK.out _ _ (HS9.out) (fun hHeld => ?_)
          clear hK K
          refine wpAnyH_ready (rs := [13]) (by kernel_rfl) (by simp) ?_
          refine AllReadyH.cons rfl (fun K hK => ?_) AllReadyH.nil
          go_simp
          refine hK.out _ _ (HS9.out) (fun hHeld => ?_)
          clear hK K
          refine wpAnyH_done (by kernel_rfl) ?_ _
          go_wp2
          exact retM (v1 := .int .i64 (rn : Int)) (v2 := .slice aP' p.length cP') (v3 := .bool true) rfl rfl rfl rfl rfl HK.out ⟨a, cap, ar, cr, Q, (rn : Int), .slice aP' p.length cP', true, by rw [HU.out, HRc.out], by rw [HU.out]; exact HTf, by rw [HU.out]; exact HQ, by rw [HRc.out]; exact HRf, hide_ (fun _ => by rw [HU.out, HRc.out]; exact ⟨HS.out, by omega, by omega, p', HIf.out, by have h1 := HL8.out; have h2 := HLP.out; omega⟩), HBf⟩
        · have h300x : (300 : Int) < (p.length : Int) := by omega
          obtain rfl : m = 300 := by omega
          clear hm
          have hcap : (300 : Int) ≤ cP := by omega
          go_upto_region 7 with fail
          refine wp_region_held_drew (S := (fun w' => w'.cell? ⟨w3.heap.size, 0, none⟩ = some (.slice a U.length cap) ∧ w'.cell? ⟨w3.heap.size, 1, none⟩ = some (.slice ar Rc.length cr))) (by kernel_rfl) (HSS.out _ ((Below.refl _ _).drew)) (fun hHeld => ?_)
          refine wpAnyH_take (i := 0) (v := ?vgb1) rfl (by kernel_rfl) (by kernel_rfl) (by kernel_rfl) (fun _ _ _ h => h) (Or.inl ⟨by rfl, ?hygb1⟩) hHeld ?restgb1
          case hygb1 => intro w' hSw; (try dsimp only at hSw); go_simp; try with_reducible rfl
          simp only [Act.put]
          refine wpAnyH_take (i := 1) (v := ?vgb2) rfl (by kernel_rfl) (by kernel_rfl) (by kernel_rfl) (fun _ _ _ h => h) (Or.inl ⟨by rfl, ?hygb2⟩) hHeld ?restgb2
          case hygb2 => intro w' hSw; (try dsimp only at hSw); go_simp; try with_reducible rfl
          simp only [Act.put]
          refine wpAnyH_take (i := 2) (v := ?vgb3) rfl (by kernel_rfl) (by kernel_rfl) (by kernel_rfl) (fun _ _ _ h => h) (Or.inl ⟨by rfl, ?hygb3⟩) hHeld ?restgb3
          case hygb3 => intro w' hSw; (try dsimp only at hSw); go_simp; try with_reducible rfl
          simp only [Act.put]
          refine wpAnyH_take (i := 3) (v := ?vgb4) rfl (by kernel_rfl) (by kernel_rfl) (by kernel_rfl) (fun _ _ _ h => h) (Or.inl ⟨by rfl, ?hygb4⟩) hHeld ?restgb4
          case hygb4 => intro w' hSw; (try dsimp only at hSw); go_simp; try with_reducible rfl
          simp only [Act.put]
          refine wpAnyH_take (i := 4) (v := ?vgb5) rfl (by kernel_rfl) (by kernel_rfl) (by kernel_rfl) (fun _ _ _ h => h) (Or.inl ⟨by rfl, ?hygb5⟩) hHeld ?restgb5
          case hygb5 => intro w' hSw; (try dsimp only at hSw); go_simp; try with_reducible rfl
          simp only [Act.put]
          refine wpAnyH_take (i := 5) (v := ?vgb6) rfl (by kernel_rfl) (by kernel_rfl) (by kernel_rfl) (fun _ _ _ h => h) (Or.inl ⟨by rfl, ?hygb6⟩) hHeld ?restgb6
          case hygb6 => intro w' hSw; (try dsimp only at hSw); go_simp; try with_reducible rfl
          simp only [Act.put]
          refine wpAnyH_take (i := 6) (v := ?vgb7) rfl (by kernel_rfl) (by kernel_rfl) (by kernel_rfl) (fun _ _ _ h => h) (Or.inl ⟨by rfl, ?hygb7⟩) hHeld ?restgb7
          case hygb7 => intro w' hSw; (try dsimp only at hSw); go_simp; try with_reducible rfl
          simp only [Act.put]
          try rw [if_pos h300x]
          refine wpAnyH_ready (rs := [7]) (by kernel_rfl) (by simp) ?_
          refine AllReadyH.cons rfl (fun K hK => ?_) AllReadyH.nil
          go_simp
          refine hK.out _ _ (hHeld) (fun hHeld => ?_)
          clear hK K
          refine wpAnyH_ready (rs := [8]) (by kernel_rfl) (by simp) ?_
          refine AllReadyH.cons rfl (fun K hK => ?_) AllReadyH.nil
          refine step_append_run rfl (.const (.slice none 0 0)) (.tmp 41) 26 26 rfl rfl rfl HRn.out ?_
          refine hK.out _ _ (HSS.out _ HB7.out) (fun hHeld => ?_)
          clear hK K
          refine wpAnyH_ready (rs := [9]) (by kernel_rfl) (by simp) ?_
          refine AllReadyH.cons rfl (fun K hK => ?_) AllReadyH.nil
          go_simp
          refine HTm.out.mono ?_
          rintro e w8 ⟨p', rfl, HO8, HL8, HU8⟩
          have HB8 := hide_ (below_to3 HB7.out HU8.out (fun k hk => HVl.out k hk))
          have HS8 := hide_ (HSS.out _ HB8.out)
          dsimp only
          refine hK.out _ _ (HS8.out) (fun hHeld => ?_)
          clear hK K
          have KR8 := hide_ (KR6.out.later HB8.out)
          have K8 := hide_ (K6.out.later HB8.out)
          have HT8 := hide_ (HT6.out.later HB8.out)
          have HR8 := hide_ (HR6.out.later HB8.out)
          have z0 := KR8.out.cell 0; have z1 := KR8.out.cell 1
          have zf := fun i => KR8.out.frozen i
          simp only [List.getElem?_cons_zero, List.getElem?_cons_succ] at z0 z1
          have HK := hide_ (wr2 KR8.out (.slice a U.length cap) (.slice ar Rc.length cr))
          have HBf := hide_ (below_wr2 (below_to HBx.out HB8.out) (w.heap.size + 1) (by omega) (.slice a U.length cap) (.slice ar Rc.length cr))
          have hst := st2 HT8.out HR8.out KR8.out (by omega) (.slice a U.length cap) (.slice ar Rc.length cr)
          have HTf := hide_ hst.1
          have HRf := hide_ hst.2
          have HIf := hide_ (HO8.out.upd (((Upd.refl (fun k => k = w.heap.size + 1) w8).set ⟨w.heap.size + 1, 0, none⟩ (.slice a U.length cap) (.inl rfl)).set ⟨w.heap.size + 1, 1, none⟩ (.slice ar Rc.length cr) (.inl rfl)) (fun k hk e => HO8.out.ne KR8.out (by decide) (by rw [← e]; exact hk)))
          have K9 := hide_ ((K8.out.other ⟨w.heap.size + 1, 0, none⟩ (.slice a U.length cap) (by show w3.heap.size ≠ w.heap.size + 1; omega)).other ⟨w.heap.size + 1, 1, none⟩ (.slice ar Rc.length cr) (by show w3.heap.size ≠ w.heap.size + 1; omega))
          have HS9 := hide_ (And.intro (K9.out.cell 0) (K9.out.cell 1))
          clear hst
          refine wpAnyH_ready (rs := [10]) (by kernel_rfl) (by simp) ?_
          refine AllReadyH.cons rfl (fun K hK => ?_) AllReadyH.nil
          go_simp
          refine hK.out _ _ (HS9.out) (fun hHeld => ?_)
          clear hK K
          refine wpAnyH_ready (rs := [11]) (by kernel_rfl) (by simp) ?_
          refine AllReadyH.cons rfl (fun K hK => ?_) AllReadyH.nil
          go_simp
          refine hK.out _ _ (HS9.out) (fun hHeld => ?_)
          clear hK K
          refine wpAnyH_ready (rs := [12]) (by kernel_rfl) (by simp) ?_
          refine AllReadyH.cons rfl (fun K hK => ?_) AllReadyH.nil
          go_simp
          refine hK.out _ _ (HS9.out) (fun hHeld => ?_)
          clear hK K
          refine wpAnyH_ready (rs := [13]) (by kernel_rfl) (by simp) ?_
          refine AllReadyH.cons rfl (fun K hK => ?_) AllReadyH.nil
          go_simp
          refine hK.out _ _ (HS9.out) (fun hHeld => ?_)
          clear hK K
          refine wpAnyH_done (by kernel_rfl) ?_ _
          go_wp2
          exact retM (v1 := .int .i64 (rn : Int)) (v2 := .slice aP' 300 cP') (v3 := .bool true) rfl rfl rfl rfl rfl HK.out ⟨a, cap, ar, cr, Q, (rn : Int), .slice aP' 300 cP', true, by rw [HU.out, HRc.out], by rw [HU.out]; exact HTf, by rw [HU.out]; exact HQ, by rw [HRc.out]; exact HRf, hide_ (fun _ => by rw [HU.out, HRc.out]; exact ⟨HS.out, by omega, by omega, p', HIf.out, by have h1 := HL8.out; have h2 := HLP.out; omega⟩), HBf⟩
  · have hc' : (e1 == 0) = false := by simpa using hc
    have HK := hide_ (wr2 KR5.out (.slice a U.length cap) (.slice ar Rc.length cr))
    have HBf := hide_ (below_wr2 HB5.out (w.heap.size + 1) (by omega) (.slice a U.length cap) (.slice ar Rc.length cr))
    have hst := st2 HT5.out HR5.out KR5.out (by omega) (.slice a U.length cap) (.slice ar Rc.length cr)
    have HTf := hide_ hst.1
    have HRf := hide_ hst.2
    clear hst
    go_wp2
    exact retM (v1 := .int .i64 0) (v2 := .slice none 0 0) (v3 := .bool false) rfl rfl rfl rfl rfl HK.out ⟨a, cap, ar, cr, Q, 0, .slice none 0 0, false, by rw [HU.out, HRc.out], by rw [HU.out]; exact HTf, by rw [HU.out]; exact HQ, by rw [HRc.out]; exact HRf, hide_ (fun h => by cases h), HBf⟩
end Go.Proofs.YtlfjcihhcphjkaaDoor
/- TypingFirst: what Some answers; nodes written over. -/
namespace Go.Proofs.YtlfjcihhcphjkaaDoor
open Go.RowKit
set_option linter.unusedVariables false

theorem mkT_ok {T : List Ty} {R : List Rt} {t : Int} {p : List Int} (hS : OkS T R) : ∀ (f : Nat) (st : List Int) (V W : List Nv), MkI T t p st V → mkT T p f st V = some W → W.length ≤ 1048576 ∧ (∀ x ∈ W, NvOk x) ∧ V.length ≤ W.length ∧ (st ≠ [] → V.length < W.length)
  | 0, st, V, W, h, e => by rw [mkT] at e; cases e
  | f + 1, [], V, W, h, e => by
    rw [mkT] at e
    injection e with e
    subst e
    have := h.len
    simp at this
    exact ⟨this, h.ok, Nat.le_refl _, fun hn => absurd rfl hn⟩
  | f + 1, s :: st, V, W, h, e => by
    rw [mkT] at e
    obtain ⟨-, -, -, -, -, hn⟩ := h.next hS
    split at e
    · cases e
    · rename_i hg
      obtain ⟨h1, h2, h3, h4⟩ := mkT_ok hS f _ _ W (hn hg) e
      simp only [List.length_append, List.length_singleton] at h3
      exact ⟨h1, h2, by omega, fun _ => by omega⟩
theorem someT_ok {T : List Ty} {R : List Rt} {t : Int} {p : List Int} (hS : OkS T R) (h0 : 0 ≤ t) (h1 : t < T.length) : someT T R t p = ([], 5) ∨ ∃ V, someT T R t p = (V, 0) ∧ 0 < V.length ∧ V.length ≤ 1048576 ∧ ∀ x ∈ V, NvOk x := by
  have hc : (chk T R).1 = 0 := by rw [hS.chk]
  have e : someT T R t p = match mkT T p 1048578 [t] [] with | some v => (v, 0) | none => ([], 5) := by
    unfold someT
    rw [if_neg (by simp [hc]), if_neg (by omega)]
    generalize mkT T p 1048578 [t] [] = z
    cases z <;> rfl
  cases hm : mkT T p 1048578 [t] [] with
  | none => rw [hm] at e; exact .inl e
  | some V =>
    rw [hm] at e
    obtain ⟨h1, h2, h3, h4⟩ := mkT_ok hS 1048578 [t] [] V (MkI.start h0 h1) hm
    exact .inr ⟨V, e, h4 (by simp), h1, h2⟩
theorem cellsG_set {α : Type} {c : Nat} {f : α → List Value} (hf : ∀ x, (f x).length = c) (l : List α) (i : Nat) (y : α) (hi : i < l.length) (j : Nat) (hj : j < l.length * c) : (cellsG f (l.set i y))[j]? = if i * c ≤ j ∧ j < i * c + c then (f y)[j - i * c]? else (cellsG f l)[j]? := by
  rcases Nat.eq_zero_or_pos c with h0 | h0
  · subst h0; simp at hj
  have hq : j / c < l.length := Nat.div_lt_of_lt_mul (by rw [Nat.mul_comm]; exact hj)
  have hjm : j = j / c * c + j % c := by rw [Nat.mul_comm]; exact (Nat.div_add_mod j c).symm
  have hml := Nat.mod_lt j h0
  by_cases he : j / c = i
  · have hx : (l.set i y)[j / c]? = some y := by rw [he, List.getElem?_set_self hi]
    have h := cellsG_at hf (l.set i y) (j / c) (j % c) y hx hml
    rw [← hjm] at h
    rw [h, if_pos (by rw [← he]; omega)]
    congr 1
    rw [← he]
    omega
  · have hx : (l.set i y)[j / c]? = some (l[j / c]'hq) := by rw [List.getElem?_set_ne (fun h => he h.symm)]; exact List.getElem?_eq_getElem hq
    have h := cellsG_at hf (l.set i y) (j / c) (j % c) _ hx hml
    have h2 := cellsG_at hf l (j / c) (j % c) _ (List.getElem?_eq_getElem hq) hml
    rw [← hjm] at h h2
    rw [h, h2, if_neg]
    intro ⟨h3, h4⟩
    apply he
    refine Nat.div_eq_of_lt_le h3 ?_
    rw [Nat.add_mul, Nat.one_mul]
    exact h4
/-- A node written over in a list of the call's own. -/
theorem NOwn.set3 {w : World} {B g n cap i : Nat} {l : List Nv} (h : NOwn w B (.slice (some ⟨g, 0, none⟩) n cap) l) (hi : i < l.length) (y : Nv) : NOwn (((w.setCell ⟨g, i * 3, none⟩ (.int .i64 y.k)).setCell ⟨g, i * 3 + 1, none⟩ (.int .u64 y.n)).setCell ⟨g, i * 3 + 2, none⟩ (.int .i64 y.kids)) B (.slice (some ⟨g, 0, none⟩) n cap) (l.set i y) := by
  obtain ⟨g', cap', ys, e, hb, hn, hm, hys, ht, hk⟩ := ownS_blk h (by omega)
  injection e with e1 e2 e3
  injection e1 with e1
  injection e1 with e1 _ _
  subst e1 e2 e3
  have hk2 := ((hk.set (i * 3) (.int .i64 y.k)).set (i * 3 + 1) (.int .u64 y.n)).set (i * 3 + 2) (.int .i64 y.kids)
  have h2 := ownS_of_blk (B := B) (n := l.length) (c := 3) (cap := cap) hk2 hb (by simp [hys]) hn hm
  have e4 : (((ys.set (i * 3) (.int .i64 y.k)).set (i * 3 + 1) (.int .u64 y.n)).set (i * 3 + 2) (.int .i64 y.kids)).take (l.length * 3) = cellsG nvc (l.set i y) := by
    apply List.ext_getElem?
    intro j
    by_cases hj : j < l.length * 3
    · rw [cellsG_set nvc_len l i y hi j hj, List.getElem?_take, if_pos hj, ← ht]
      have hjy : j < ys.length := by rw [hys]; have := Nat.mul_le_mul_right 3 hn; omega
      by_cases h0 : j = i * 3
      · subst h0
        rw [if_pos (by omega), List.getElem?_set_ne (by omega), List.getElem?_set_ne (by omega), List.getElem?_set_self hjy]
        simp [nvc]
      · by_cases h1 : j = i * 3 + 1
        · subst h1
          rw [if_pos (by omega), List.getElem?_set_ne (by omega), List.getElem?_set_self (by simpa using hjy)]
          simp [nvc]
        · by_cases h2 : j = i * 3 + 2
          · subst h2
            rw [if_pos (by omega), List.getElem?_set_self (by simpa using hjy)]
            simp [nvc]
          · rw [if_neg (by omega), List.getElem?_set_ne (by omega), List.getElem?_set_ne (by omega), List.getElem?_set_ne (by omega), List.getElem?_take, if_pos hj]
    · rw [List.getElem?_eq_none (by simp; omega), List.getElem?_eq_none (by rw [cellsG_len nvc_len]; simp; omega)]
  unfold NOwn
  rw [List.length_set, ← e4]
  exact h2
theorem NOwn.at3 {w : World} {B g n cap i : Nat} {l : List Nv} {x : Nv} (h : NOwn w B (.slice (some ⟨g, 0, none⟩) n cap) l) (hx : l[i]? = some x) : w.cell? ⟨g, i * 3, none⟩ = some (.int .i64 x.k) ∧ w.cell? ⟨g, i * 3 + 1, none⟩ = some (.int .u64 x.n) ∧ w.cell? ⟨g, i * 3 + 2, none⟩ = some (.int .i64 x.kids) := by
  obtain ⟨a, c, e, -, -, hr⟩ := own_grow nvc_len h
  injection e with e1 _ _
  subst e1
  obtain ⟨b, off, e2, -, hc⟩ := hr.open (by have := (List.getElem?_eq_some_iff.1 hx).1; omega)
  injection e2 with e2
  injection e2 with e3 e4 _
  subst e3 e4
  have h0 := hc i x hx 0 (by decide); have h1 := hc i x hx 1 (by decide); have h2 := hc i x hx 2 (by decide)
  simp only [Nat.zero_add, Nat.add_zero] at h0 h1 h2
  exact ⟨h0, h1, h2⟩
/-- A node's number written over in a list of the call's own. -/
theorem NOwn.setN {w : World} {B g n cap i : Nat} {l : List Nv} {x : Nv} (h : NOwn w B (.slice (some ⟨g, 0, none⟩) n cap) l) (hx : l[i]? = some x) (n' : Int) : NOwn (w.setCell ⟨g, i * 3 + 1, none⟩ (.int .u64 n')) B (.slice (some ⟨g, 0, none⟩) n cap) (l.set i ⟨x.k, n', x.kids⟩) := by
  have hi := (List.getElem?_eq_some_iff.1 hx).1
  obtain ⟨g', cap', ys, e, hb, hn, hm, hys, ht, hk⟩ := ownS_blk h (by omega)
  injection e with e1 e2 e3
  injection e1 with e1
  injection e1 with e1 _ _
  subst e1 e2 e3
  have hk2 := hk.set (i * 3 + 1) (.int .u64 n')
  have h2 := ownS_of_blk (B := B) (n := l.length) (c := 3) (cap := cap) hk2 hb (by simp [hys]) hn hm
  have c0 := cellsG_at nvc_len l i 0 x hx (by decide)
  have c2 := cellsG_at nvc_len l i 2 x hx (by decide)
  have e4 : (ys.set (i * 3 + 1) (.int .u64 n')).take (l.length * 3) = cellsG nvc (l.set i ⟨x.k, n', x.kids⟩) := by
    apply List.ext_getElem?
    intro j
    by_cases hj : j < l.length * 3
    · rw [cellsG_set nvc_len l i _ hi j hj, List.getElem?_take, if_pos hj]
      have hjy : j < ys.length := by rw [hys]; have := Nat.mul_le_mul_right 3 hn; omega
      have hyj : ys[j]? = (cellsG nvc l)[j]? := by rw [← ht, List.getElem?_take, if_pos hj]
      by_cases h1 : j = i * 3 + 1
      · subst h1
        rw [if_pos (by omega), List.getElem?_set_self hjy]
        simp [nvc]
      · rw [List.getElem?_set_ne (by omega), hyj]
        by_cases h0 : j = i * 3
        · subst h0
          rw [if_pos (by omega)]
          simp only [Nat.add_zero] at c0
          rw [c0]
          simp [nvc]
        · by_cases h2 : j = i * 3 + 2
          · subst h2
            rw [if_pos (by omega), c2]
            simp [nvc]
          · rw [if_neg (by omega)]
    · rw [List.getElem?_eq_none (by simp; omega), List.getElem?_eq_none (by rw [cellsG_len nvc_len]; simp; omega)]
  unfold NOwn
  rw [List.length_set, ← e4]
  exact h2
theorem NOwn.fr {w : World} {B g n cap : Nat} {l : List Nv} (h : NOwn w B (.slice (some ⟨g, 0, none⟩) n cap) l) (i : Nat) : w.frozen? ⟨g, i, none⟩ = false := by
  obtain ⟨zs, hz⟩ := ownS_type h (k := g) rfl
  exact hz.frozen i
end Go.Proofs.YtlfjcihhcphjkaaDoor
/- The document's Number, Right, Check of nodes. -/
namespace Go.Proofs.YtlfjcihhcphjkaaDoor
open Go.RowKit
set_option linter.unusedVariables false
set_option linter.unusedSimpArgs false

def numV (k n : Int) : Bool := decide ((1 ≤ k ∧ k ≤ 6) ∧ n ≤ mostN k)
theorem kind_cases (k : Int) : k = 1 ∨ k = 2 ∨ k = 3 ∨ k = 4 ∨ k = 5 ∨ k = 6 ∨ (k ≠ 1 ∧ k ≠ 2 ∧ k ≠ 3 ∧ k ≠ 4 ∧ k ≠ 5 ∧ k ≠ 6) := by omega
set_option maxRecDepth 100000 in
set_option maxHeartbeats 4000000 in
theorem numberD_any (k n : Int) (w : World) (h0 : 0 ≤ n ∧ n ≤ 18446744073709551615) : Calls Tryd.prog 52 #[.int .i64 k, .int .u64 n] w fun e w' => e = .returned (.bool (numV k n)) ∧ w = w' := by
  go_enter Tryd.func52, Tryd.ntmps52
  rcases kind_cases k with rfl | rfl | rfl | rfl | rfl | rfl | ⟨k1, k2, k3, k4, k5, k6⟩
  · have hn : numV 1 n = true := by simp [numV, mostN]; omega
    rw [hn]
    go_wp2
    go_ret
    exact ⟨rfl, rfl⟩
  · by_cases h : n ≤ 1
    · have hn : numV 2 n = true := by simp [numV, mostN]; omega
      rw [hn]
      go_wp2
      go_ret
      exact ⟨by first | rfl | (simp [h]), rfl⟩
    · have hn : numV 2 n = false := by simp [numV, mostN]; omega
      rw [hn]
      go_wp2
      go_ret
      exact ⟨by first | rfl | (simp [h]), rfl⟩
  · by_cases h : n = 0
    · subst h
      go_wp2
      go_ret
      exact ⟨rfl, rfl⟩
    · have hn : numV 3 n = false := by simp [numV, mostN]; omega
      have hb : (n == 0) = false := by simpa using h
      rw [hn]
      go_wp2
      go_ret
      exact ⟨rfl, rfl⟩
  · by_cases h : n = 0
    · subst h
      go_wp2
      go_ret
      exact ⟨rfl, rfl⟩
    · have hn : numV 4 n = false := by simp [numV, mostN]; omega
      have hb : (n == 0) = false := by simpa using h
      rw [hn]
      go_wp2
      go_ret
      exact ⟨rfl, rfl⟩
  · by_cases h : n = 0
    · subst h
      go_wp2
      go_ret
      exact ⟨rfl, rfl⟩
    · have hn : numV 5 n = false := by simp [numV, mostN]; omega
      have hb : (n == 0) = false := by simpa using h
      rw [hn]
      go_wp2
      go_ret
      exact ⟨rfl, rfl⟩
  · by_cases h : n ≤ 255
    · have hn : numV 6 n = true := by simp [numV, mostN]; omega
      rw [hn]
      go_wp2
      go_ret
      exact ⟨by first | rfl | (simp [h]), rfl⟩
    · have hn : numV 6 n = false := by simp [numV, mostN]; omega
      rw [hn]
      go_wp2
      go_ret
      exact ⟨by first | rfl | (simp [h]), rfl⟩
  · have hn : numV k n = false := by simp [numV]; intros; omega
    rw [hn]
    have b1 : (k == 1) = false := by simpa using k1
    have b2 : (k == 2) = false := by simpa using k2
    have b3 : (k == 3) = false := by simpa using k3
    have b4 : (k == 4) = false := by simpa using k4
    have b5 : (k == 5) = false := by simpa using k5
    have b6 : (k == 6) = false := by simpa using k6
    by_cases h : n = 0
    · subst h
      go_wp2
      go_ret
      exact ⟨rfl, rfl⟩
    · have hb : (n == 0) = false := by simpa using h
      go_wp2
      go_ret
      exact ⟨rfl, rfl⟩
set_option maxRecDepth 100000 in
set_option maxHeartbeats 4000000 in
theorem rightD_any (x : Nv) (w : World) (h0 : 0 ≤ x.n ∧ x.n ≤ 18446744073709551615) : Calls Tryd.prog 38 #[nvv x] w fun e w' => e = .returned (.bool (rightV x)) ∧ Below w.heap.size w w' := by
  obtain ⟨k, n, c⟩ := x
  simp only at h0
  unfold nvv
  obtain ⟨wA, hwA⟩ : ∃ wA, wA = w.alloc (.cells #[.int .i64 k, .int .u64 n, .int .i64 c] 49) := ⟨_, rfl⟩
  have HB : Hid (Below w.heap.size w wA) := by rw [hwA]; exact (Below.refl _ _).alloc (Nat.le_refl _) _
  have K := Blk.newA w #[.int .i64 k, .int .u64 n, .int .i64 c] 49
  rw [← hwA] at K
  have c0 : wA.cell? ⟨w.heap.size, 0, none⟩ = some (.int .i64 k) := K.cell 0
  have c1 : wA.cell? ⟨w.heap.size, 1, none⟩ = some (.int .u64 n) := K.cell 1
  have c2 : wA.cell? ⟨w.heap.size, 2, none⟩ = some (.int .i64 c) := K.cell 2
  go_enter Tryd.func38, Tryd.ntmps38
  go_upto_region 1 with fail
  rw [← hwA]
  clear hwA K
  go_wp2_with fail
  refine (numberD_any k n wA h0).mono ?_; rintro e w1 ⟨rfl, rfl⟩
  cases hnb : numV k n
  · have hr : rightV ⟨k, n, c⟩ = false := by simp [numV] at hnb; simp [rightV]; intros; omega
    go_wp2
    go_ret
    exact ⟨by rw [hr]; rfl, HB.out⟩
  · have hnb' : (1 ≤ k ∧ k ≤ 6) ∧ n ≤ mostN k := by simpa [numV] using hnb
    clear hnb
    rcases kind_cases k with rfl | rfl | rfl | rfl | rfl | rfl | ⟨k1, k2, k3, k4, k5, k6⟩
    · by_cases h : c = 0
      · subst h
        have hr : rightV ⟨1, n, 0⟩ = true := (rightV_iff _).2 ⟨hnb'.1, hnb'.2, by simp [leastK], by simp [mostK]⟩
        go_wp2
        go_ret
        exact ⟨by rw [hr]; rfl, HB.out⟩
      · have hr : rightV ⟨1, n, c⟩ = false := by simp [rightV, leastK, mostK]; intros; omega
        have hb : (c == 0) = false := by simpa using h
        go_wp2
        go_ret
        exact ⟨by rw [hr]; rfl, HB.out⟩
    · by_cases h : c = 0
      · subst h
        have hr : rightV ⟨2, n, 0⟩ = true := (rightV_iff _).2 ⟨hnb'.1, hnb'.2, by simp [leastK], by simp [mostK]⟩
        go_wp2
        go_ret
        exact ⟨by rw [hr]; rfl, HB.out⟩
      · have hr : rightV ⟨2, n, c⟩ = false := by simp [rightV, leastK, mostK]; intros; omega
        have hb : (c == 0) = false := by simpa using h
        go_wp2
        go_ret
        exact ⟨by rw [hr]; rfl, HB.out⟩
    · by_cases h : 0 ≤ c
      · by_cases h2 : c ≤ 1048576
        · have hr : rightV ⟨3, n, c⟩ = true := (rightV_iff _).2 ⟨hnb'.1, hnb'.2, by simpa [leastK] using h, by simpa [mostK] using h2⟩
          go_wp2
          go_ret
          exact ⟨by first | (rw [hr]; rfl) | (rw [hr]; simp [h2]; done) | rfl | (simp [h2]; done), HB.out⟩
        · have hr : rightV ⟨3, n, c⟩ = false := by simp [rightV, leastK, mostK]; intros; omega
          go_wp2
          go_ret
          exact ⟨by first | (rw [hr]; rfl) | (rw [hr]; simp [h2]; done) | rfl | (simp [h2]; done), HB.out⟩
      · have hr : rightV ⟨3, n, c⟩ = false := by simp [rightV, leastK, mostK]; intros; omega
        go_wp2
        go_ret
        exact ⟨by first | (rw [hr]; rfl) | (rw [hr]; simp [h]; done) | rfl | (simp [h]; done), HB.out⟩
    · by_cases h : 1 ≤ c
      · by_cases h2 : c ≤ 64
        · have hr : rightV ⟨4, n, c⟩ = true := (rightV_iff _).2 ⟨hnb'.1, hnb'.2, by simpa [leastK] using h, by simpa [mostK] using h2⟩
          go_wp2
          go_ret
          exact ⟨by first | (rw [hr]; rfl) | (rw [hr]; simp [h2]; done) | rfl | (simp [h2]; done), HB.out⟩
        · have hr : rightV ⟨4, n, c⟩ = false := by simp [rightV, leastK, mostK]; intros; omega
          go_wp2
          go_ret
          exact ⟨by first | (rw [hr]; rfl) | (rw [hr]; simp [h2]; done) | rfl | (simp [h2]; done), HB.out⟩
      · have hr : rightV ⟨4, n, c⟩ = false := by simp [rightV, leastK, mostK]; intros; omega
        go_wp2
        go_ret
        exact ⟨by first | (rw [hr]; rfl) | (rw [hr]; simp [h]; done) | rfl | (simp [h]; done), HB.out⟩
    · by_cases h : c = 0
      · subst h
        have hr : rightV ⟨5, n, 0⟩ = true := (rightV_iff _).2 ⟨hnb'.1, hnb'.2, by simp [leastK], by simp [mostK]⟩
        go_wp2
        go_ret
        exact ⟨by rw [hr]; rfl, HB.out⟩
      · have hb : (c == 0) = false := by simpa using h
        by_cases h2 : c = 1
        · subst h2
          have hr : rightV ⟨5, n, 1⟩ = true := (rightV_iff _).2 ⟨hnb'.1, hnb'.2, by simp [leastK], by simp [mostK]⟩
          go_wp2
          go_ret
          exact ⟨by rw [hr]; rfl, HB.out⟩
        · have hb2 : (c == 1) = false := by simpa using h2
          have hr : rightV ⟨5, n, c⟩ = false := by simp [rightV, leastK, mostK]; intros; omega
          go_wp2
          go_ret
          exact ⟨by rw [hr]; rfl, HB.out⟩
    · by_cases h : c = 1
      · subst h
        have hr : rightV ⟨6, n, 1⟩ = true := (rightV_iff _).2 ⟨hnb'.1, hnb'.2, by simp [leastK], by simp [mostK]⟩
        go_wp2
        go_ret
        exact ⟨by rw [hr]; rfl, HB.out⟩
      · have hr : rightV ⟨6, n, c⟩ = false := by simp [rightV, leastK, mostK]; intros; omega
        have hb : (c == 1) = false := by simpa using h
        go_wp2
        go_ret
        exact ⟨by rw [hr]; rfl, HB.out⟩
    · omega
set_option maxRecDepth 100000 in
set_option maxHeartbeats 4000000 in
theorem checkN_any (a : Option Addr) (len cap : Nat) (l : List Nv) (w : World) (hl : l.length = len) (hs : len ≤ 2000000) (hr : Hid (VRow w a l)) (hn : Hid (∀ x ∈ l, NvOk x)) :
    Calls Tryd.prog 24 #[.slice a len cap] w fun e w' => e = .returned (.tuple #[.int .i64 (chkV 1 0 l).1, .int .i64 (chkV 1 0 l).2]) ∧ Below w.heap.size w w' := by
  obtain ⟨E, hE⟩ : ∃ E, (chkV 1 0 l).1 = E := ⟨_, rfl⟩
  obtain ⟨A, hA⟩ : ∃ A, (chkV 1 0 l).2 = A := ⟨_, rfl⟩
  rw [hE, hA]
  have HEA : Hid (chkV 1 0 l = (E, A)) := hide_ (by rw [← hE, ← hA])
  clear hE hA
  go_enter Tryd.func24, Tryd.ntmps24
  go_wp2_with fail
  go_loopw [4, 5] (fun m i wr => ∃ (M : Int) (k : Nat), k ≤ len ∧ i = .int .i64 k ∧ m = .int .i64 M ∧ 0 ≤ M ∧ M ≤ 1 + 1048576 * (k : Int) ∧ Hid (chkV M k (l.drop k) = (E, A)) ∧ Hid (Below w.heap.size w wr)) (fun _ i _ => len - (intOf i).toNat)
  case atStart => exact ⟨1, 0, Nat.zero_le _, rfl, rfl, by omega, by omega, hide_ (by simpa using HEA.out), hide_ (Below.refl _ _)⟩
  case round =>
    obtain ⟨M, k, hk, rfl, rfl, hM0, hM1, HC, HB⟩ := hrel
    generalize wr = wq at *
    clear HEA
    by_cases hlt : k < len
    · have hlt' : (k : Int) < len := by omega
      have hkl : k < l.length := by omega
      obtain ⟨b, off, rfl, hb, hc⟩ := (hr.out.later HB.out).open (by omega)
      have hx : l[k]? = some (l[k]'hkl) := List.getElem?_eq_getElem hkl
      have d0 := hc k _ hx 0 (by decide); have d1 := hc k _ hx 1 (by decide); have d2 := hc k _ hx 2 (by decide)
      have HC1 : Hid (chkV M k ((l[k]'hkl) :: l.drop (k + 1)) = (E, A)) := hide_ (by
        have := HC.out
        rw [List.drop_eq_getElem_cons hkl] at this
        exact this)
      have hnk := hn.out _ (List.mem_of_getElem? hx)
      simp [nvc] at d0 d1 d2
      generalize l[k]'hkl = x at *
      obtain ⟨xk, xn, xc⟩ := x
      simp only at d0 d1 d2
      have hnk' : 0 ≤ xn ∧ xn ≤ 18446744073709551615 := ⟨hnk.1, by have := hnk.2; simp only at this; omega⟩
      have HRt := hide_ (rightD_any ⟨xk, xn, xc⟩ wq hnk')
      have hbq := hb
      clear hc hx HC hnk hnk'
      by_cases hM : M = 0
      · subst hM
        have HE : Hid ((E, A) = (40, (k : Int))) := hide_ (by
          have := HC1.out
          rw [chkV, if_pos (.inl rfl)] at this
          exact this.symm)
        have hE1 : E = 40 := (Prod.mk.inj HE.out).1
        have hA1 : A = (k : Int) := (Prod.mk.inj HE.out).2
        subst hE1 hA1
        go_wp2
        go_ret2
        exact ⟨rfl, HB.out⟩
      · have hbM : (M == 0) = false := by simpa using hM
        unfold nvv at HRt
        go_wp2_with fail
        refine HRt.out.mono ?_; rintro e w1 ⟨rfl, hB1⟩
        have HB1 := hide_ (below_to HB.out hB1)
        have f2 := (hB1.cell (p := ⟨b, off + k * 3 + 2, none⟩) hbq).trans d2
        clear hB1 d0 d1 d2
        by_cases hxr : rightV ⟨xk, xn, xc⟩ = true
        · have HC2 : Hid (chkV (M + (xc - 1)) ((k : Int) + 1) (l.drop (k + 1)) = (E, A)) := hide_ (by
            have := HC1.out
            rw [chkV, if_neg (by simp [hM, hxr])] at this
            exact this)
          have hxc := rightV_kids hxr
          simp only at hxc
          clear HC1 HB
          rw [hxr]
          have hw1 : wrap64 (M - 1) = M - 1 := w64 _ (by omega)
          have hw2 : wrap64 (M - 1 + xc) = M - 1 + xc := w64 _ (by clear hw1; omega)
          go_wp2
          clear hw1 hw2
          go_roundw
          case rel => exact ⟨M + (xc - 1), k + 1, by omega, by go_num, by first | rfl | (congr 1; omega), by omega, by omega, hide_ (by have := HC2.out; push_cast; exact this), HB1⟩
          case measure => simp [intOf]; omega
        · have hx' : rightV ⟨xk, xn, xc⟩ = false := by simpa using hxr
          have HE : Hid ((E, A) = (40, (k : Int))) := hide_ (by
            have := HC1.out
            rw [chkV, if_pos (.inr hx')] at this
            exact this.symm)
          have hE1 : E = 40 := (Prod.mk.inj HE.out).1
          have hA1 : A = (k : Int) := (Prod.mk.inj HE.out).2
          subst hE1 hA1
          rw [hx']
          go_wp2
          go_ret2
          exact ⟨rfl, HB1.out⟩
    · obtain rfl : k = len := by omega
      have HC1 := HC.out
      rw [List.drop_eq_nil_of_le (by omega), chkV] at HC1
      have hnl : ¬ ((k : Int) < (k : Int)) := by omega
      by_cases hM : 0 < M
      · rw [if_pos hM] at HC1
        have hE1 : E = 40 := (Prod.mk.inj HC1).1.symm
        have hA1 : A = (k : Int) := (Prod.mk.inj HC1).2.symm
        subst hE1 hA1
        clear HC1
        go_wp2
        go_ret2
        exact ⟨rfl, HB.out⟩
      · rw [if_neg hM] at HC1
        have hE1 : E = 0 := (Prod.mk.inj HC1).1.symm
        have hA1 : A = 0 := (Prod.mk.inj HC1).2.symm
        subst hE1 hA1
        clear HC1
        go_wp2
        go_ret2
        exact ⟨rfl, HB.out⟩
end Go.Proofs.YtlfjcihhcphjkaaDoor
/- The document's Elem and Fits. -/
namespace Go.Proofs.YtlfjcihhcphjkaaDoor
open Go.RowKit
set_option linter.unusedVariables false

/-- The type of a kid. -/
def elemP (t : Ty) (x : Nv) (j : Nat) : Int :=
  if t.k = 8 then (t.ps.getD j pt0).ty else
  if t.k = 7 then (match armI t.ps x.n with | some i => (t.ps.getD i pt0).ty | none => -1) else t.e
set_option maxRecDepth 100000 in
set_option maxHeartbeats 4000000 in
theorem elem4_any (n el : Int) (ps : List Pt) (va : Option Addr) (vc : Nat) (xk xn xd : Int) (j : Int) (w : World) : Calls Tryd.prog 63 #[.agg #[.int .i64 4, .int .i64 n, .int .i64 el, .slice va ps.length vc], .agg #[.int .i64 xk, .int .u64 xn, .int .i64 xd], .int .i64 j] w fun e w' => e = .returned (.int .i64 el) ∧ Below w.heap.size w w' := by
  have hB := below2 w (.cells #[.int .i64 4, .int .i64 n, .int .i64 el, .slice va ps.length vc] 64) (.cells #[.int .i64 xk, .int .u64 xn, .int .i64 xd] 49)
  obtain ⟨k1, k2⟩ := blk2 w #[.int .i64 4, .int .i64 n, .int .i64 el, .slice va ps.length vc] #[.int .i64 xk, .int .u64 xn, .int .i64 xd] 64 49
  obtain ⟨w0, hw0⟩ : ∃ wx, wx = (w.alloc (.cells #[.int .i64 4, .int .i64 n, .int .i64 el, .slice va ps.length vc] 64)).alloc (.cells #[.int .i64 xk, .int .u64 xn, .int .i64 xd] 49) := ⟨_, rfl⟩
  rw [← hw0] at hB k1 k2
  have K1 := hide_ k1
  have K2 := hide_ k2
  have HB := hide_ hB
  have i0 := k1.cell 0; have i1 := k1.cell 1; have i2 := k1.cell 2; have i3 := k1.cell 3
  have j0 := k2.cell 0; have j1 := k2.cell 1; have j2 := k2.cell 2
  simp at i0 i1 i2 i3 j0 j1 j2
  clear hB k1 k2
  go_enter Tryd.func63, Tryd.ntmps63
  go_upto_region 1 with fail
  rw [← hw0]
  clear hw0
  go_wp2
  go_ret
  exact ⟨rfl, HB.out⟩
set_option maxRecDepth 100000 in
set_option maxHeartbeats 4000000 in
theorem elem5_any (n el : Int) (ps : List Pt) (va : Option Addr) (vc : Nat) (xk xn xd : Int) (j : Int) (w : World) : Calls Tryd.prog 63 #[.agg #[.int .i64 5, .int .i64 n, .int .i64 el, .slice va ps.length vc], .agg #[.int .i64 xk, .int .u64 xn, .int .i64 xd], .int .i64 j] w fun e w' => e = .returned (.int .i64 el) ∧ Below w.heap.size w w' := by
  have hB := below2 w (.cells #[.int .i64 5, .int .i64 n, .int .i64 el, .slice va ps.length vc] 64) (.cells #[.int .i64 xk, .int .u64 xn, .int .i64 xd] 49)
  obtain ⟨k1, k2⟩ := blk2 w #[.int .i64 5, .int .i64 n, .int .i64 el, .slice va ps.length vc] #[.int .i64 xk, .int .u64 xn, .int .i64 xd] 64 49
  obtain ⟨w0, hw0⟩ : ∃ wx, wx = (w.alloc (.cells #[.int .i64 5, .int .i64 n, .int .i64 el, .slice va ps.length vc] 64)).alloc (.cells #[.int .i64 xk, .int .u64 xn, .int .i64 xd] 49) := ⟨_, rfl⟩
  rw [← hw0] at hB k1 k2
  have K1 := hide_ k1
  have K2 := hide_ k2
  have HB := hide_ hB
  have i0 := k1.cell 0; have i1 := k1.cell 1; have i2 := k1.cell 2; have i3 := k1.cell 3
  have j0 := k2.cell 0; have j1 := k2.cell 1; have j2 := k2.cell 2
  simp at i0 i1 i2 i3 j0 j1 j2
  clear hB k1 k2
  go_enter Tryd.func63, Tryd.ntmps63
  go_upto_region 1 with fail
  rw [← hw0]
  clear hw0
  go_wp2
  go_ret
  exact ⟨rfl, HB.out⟩
set_option maxRecDepth 100000 in
set_option maxHeartbeats 4000000 in
theorem elem6_any (n el : Int) (ps : List Pt) (va : Option Addr) (vc : Nat) (xk xn xd : Int) (j : Int) (w : World) : Calls Tryd.prog 63 #[.agg #[.int .i64 6, .int .i64 n, .int .i64 el, .slice va ps.length vc], .agg #[.int .i64 xk, .int .u64 xn, .int .i64 xd], .int .i64 j] w fun e w' => e = .returned (.int .i64 el) ∧ Below w.heap.size w w' := by
  have hB := below2 w (.cells #[.int .i64 6, .int .i64 n, .int .i64 el, .slice va ps.length vc] 64) (.cells #[.int .i64 xk, .int .u64 xn, .int .i64 xd] 49)
  obtain ⟨k1, k2⟩ := blk2 w #[.int .i64 6, .int .i64 n, .int .i64 el, .slice va ps.length vc] #[.int .i64 xk, .int .u64 xn, .int .i64 xd] 64 49
  obtain ⟨w0, hw0⟩ : ∃ wx, wx = (w.alloc (.cells #[.int .i64 6, .int .i64 n, .int .i64 el, .slice va ps.length vc] 64)).alloc (.cells #[.int .i64 xk, .int .u64 xn, .int .i64 xd] 49) := ⟨_, rfl⟩
  rw [← hw0] at hB k1 k2
  have K1 := hide_ k1
  have K2 := hide_ k2
  have HB := hide_ hB
  have i0 := k1.cell 0; have i1 := k1.cell 1; have i2 := k1.cell 2; have i3 := k1.cell 3
  have j0 := k2.cell 0; have j1 := k2.cell 1; have j2 := k2.cell 2
  simp at i0 i1 i2 i3 j0 j1 j2
  clear hB k1 k2
  go_enter Tryd.func63, Tryd.ntmps63
  go_upto_region 1 with fail
  rw [← hw0]
  clear hw0
  go_wp2
  go_ret
  exact ⟨rfl, HB.out⟩
set_option maxRecDepth 100000 in
set_option maxHeartbeats 4000000 in
theorem elem8_any (n el : Int) (ps : List Pt) (va : Option Addr) (vc : Nat) (xk xn xd : Int) (j : Nat) (p : Pt) (w : World) (hp : ps[j]? = some p) (hP : Hid (PRow w va ps)) : Calls Tryd.prog 63 #[.agg #[.int .i64 8, .int .i64 n, .int .i64 el, .slice va ps.length vc], .agg #[.int .i64 xk, .int .u64 xn, .int .i64 xd], .int .i64 (j : Int)] w fun e w' => e = .returned (.int .i64 p.ty) ∧ Below w.heap.size w w' := by
  have hB := below2 w (.cells #[.int .i64 8, .int .i64 n, .int .i64 el, .slice va ps.length vc] 64) (.cells #[.int .i64 xk, .int .u64 xn, .int .i64 xd] 49)
  obtain ⟨k1, k2⟩ := blk2 w #[.int .i64 8, .int .i64 n, .int .i64 el, .slice va ps.length vc] #[.int .i64 xk, .int .u64 xn, .int .i64 xd] 64 49
  obtain ⟨w0, hw0⟩ : ∃ wx, wx = (w.alloc (.cells #[.int .i64 8, .int .i64 n, .int .i64 el, .slice va ps.length vc] 64)).alloc (.cells #[.int .i64 xk, .int .u64 xn, .int .i64 xd] 49) := ⟨_, rfl⟩
  rw [← hw0] at hB k1 k2
  have K1 := hide_ k1
  have K2 := hide_ k2
  have HB := hide_ hB
  have i0 := k1.cell 0; have i1 := k1.cell 1; have i2 := k1.cell 2; have i3 := k1.cell 3
  have j0 := k2.cell 0; have j1 := k2.cell 1; have j2 := k2.cell 2
  simp at i0 i1 i2 i3 j0 j1 j2
  clear hB k1 k2
  have hj := (List.getElem?_eq_some_iff.1 hp).1
  have hj' : (j : Int) < ps.length := by omega
  obtain ⟨b, off, rfl, hb, hc⟩ := (hP.out.later HB.out).open (by omega)
  have c2 := hc j p hp 2 (by decide)
  simp [ptc] at c2
  clear hc hp
  go_enter Tryd.func63, Tryd.ntmps63
  go_upto_region 1 with fail
  rw [← hw0]
  clear hw0
  go_wp2
  go_ret
  exact ⟨rfl, HB.out⟩
set_option maxRecDepth 100000 in
set_option maxHeartbeats 4000000 in
theorem elem7_any (n el : Int) (ps : List Pt) (va : Option Addr) (vc : Nat) (xk xn xd : Int) (j : Int) (w : World) (hpl : ps.length ≤ 9223372036854775806) (htg : Hid (∀ p ∈ ps, 0 ≤ p.tag ∧ p.tag ≤ 255)) (hP : Hid (PRow w va ps)) : Calls Tryd.prog 63 #[.agg #[.int .i64 7, .int .i64 n, .int .i64 el, .slice va ps.length vc], .agg #[.int .i64 xk, .int .u64 xn, .int .i64 xd], .int .i64 j] w fun e w' => e = .returned (.int .i64 (match armI ps xn with | some i => (ps.getD i pt0).ty | none => -1)) ∧ Below w.heap.size w w' := by
  obtain ⟨r, hr⟩ : ∃ r, (match armI ps xn with | some i => (ps.getD i pt0).ty | none => -1) = r := ⟨_, rfl⟩
  rw [hr]
  have HR := hide_ hr
  clear hr
  have hB := below2 w (.cells #[.int .i64 7, .int .i64 n, .int .i64 el, .slice va ps.length vc] 64) (.cells #[.int .i64 xk, .int .u64 xn, .int .i64 xd] 49)
  obtain ⟨k1, k2⟩ := blk2 w #[.int .i64 7, .int .i64 n, .int .i64 el, .slice va ps.length vc] #[.int .i64 xk, .int .u64 xn, .int .i64 xd] 64 49
  obtain ⟨w0, hw0⟩ : ∃ wx, wx = (w.alloc (.cells #[.int .i64 7, .int .i64 n, .int .i64 el, .slice va ps.length vc] 64)).alloc (.cells #[.int .i64 xk, .int .u64 xn, .int .i64 xd] 49) := ⟨_, rfl⟩
  rw [← hw0] at hB k1 k2
  have K1 := hide_ k1
  have K2 := hide_ k2
  have HB := hide_ hB
  have i0 := k1.cell 0; have i1 := k1.cell 1; have i2 := k1.cell 2; have i3 := k1.cell 3
  have j0 := k2.cell 0; have j1 := k2.cell 1; have j2 := k2.cell 2
  simp at i0 i1 i2 i3 j0 j1 j2
  clear hB k1 k2
  go_enter Tryd.func63, Tryd.ntmps63
  go_upto_region 1 with fail
  rw [← hw0]
  clear hw0
  go_wp2_with fail
  go_loopw [7] (fun x7 wr => ∃ (i : Nat), i ≤ ps.length ∧ x7 = .int .i64 (i : Int) ∧ Hid (∀ (q : Nat) (p : Pt), q < i → ps[q]? = some p → ¬ p.tag = xn) ∧ Hid (Below w0.heap.size w0 wr)) (fun x7 _ => ps.length - (intOf x7).toNat)
  case atStart => exact ⟨0, Nat.zero_le _, rfl, hide_ (fun q p hq => by omega), hide_ (Below.refl _ _)⟩
  case round =>
    obtain ⟨i, hi, rfl, HN, HC⟩ := hrel
    generalize wr = wq at *
    clear i0 i1 i2 i3 j0 j1 j2
    have i3 := (K1.out.later HC.out).cell 3; have j1 := (K2.out.later HC.out).cell 1
    simp at i3 j1
    by_cases hlt : i < ps.length
    · have hlt' : (i : Int) < ps.length := by omega
      have hp : ps[i]? = some (ps[i]'hlt) := List.getElem?_eq_getElem hlt
      obtain ⟨b, off, rfl, hb, hc⟩ := (hP.out.later (below_to HB.out HC.out)).open (by omega)
      have c1 := hc i _ hp 1 (by decide); have c2 := hc i _ hp 2 (by decide)
      obtain ⟨t0, t1⟩ := htg.out _ (List.mem_of_getElem? hp)
      have hw1 : IntKind.u64.wrap (ps[i]'hlt).tag = (ps[i]'hlt).tag := by rw [IntKind.wrap_u64]; omega
      have HP := hide_ hp
      simp [ptc] at c1 c2
      generalize ps[i]'hlt = p at *
      obtain ⟨pl, pt, py⟩ := p
      simp only at c1 c2 hw1 t0 t1
      clear hc hp
      by_cases he : pt = xn
      · have he' : (pt == xn) = true := by simp [he]
        have HV : Hid (py = r) := hide_ (by
          have ha := armI_at (n := xn) HP.out (by simp only; exact he) (fun q p hq hp => HN.out q p hq hp)
          have h1 := HR.out
          rw [ha] at h1
          simp only at h1
          rw [← h1]
          simp [List.getD, HP.out])
        go_wp2_with fail
        go_quiet (fail)
        have HCq : Hid (Below w.heap.size w (wq.drewN nq)) := hide_ (below_to HB.out (below_drewN HC.out nq))
        have i3' := (Blk.drewN (K1.out.later HC.out) nq).cell 3
        have c2' : (wq.drewN nq).cell? ⟨b, off + i * 3 + 2, none⟩ = some (.int .i64 py) := c2
        simp at i3'
        go_wp2
        go_ret
        exact ⟨ret_int HV.out, HCq.out⟩
      · have he' : (pt == xn) = false := by simpa using he
        have HNn : Hid (∀ (q : Nat) (p : Pt), q < i + 1 → ps[q]? = some p → ¬ p.tag = xn) := hide_ (fun q p hq hp => by
          rcases Nat.lt_or_ge q i with h | h
          · exact HN.out q p h hp
          · obtain rfl : q = i := by omega
            rw [HP.out] at hp
            injection hp with hp
            subst hp
            exact he)
        go_wp2_with fail
        go_quiet (fail)
        have HCq : ∀ q, Hid (Below w0.heap.size w0 (wq.drewN q)) := fun q => hide_ (below_drewN HC.out q)
        clear hw1
        go_wp2_with fail
        go_roundw
        case rel => exact ⟨i + 1, by omega, by go_num, HNn, HCq _⟩
        case measure => simp [intOf]; omega
    · have hlt' : ¬ (i : Int) < ps.length := by omega
      have HV : Hid (-1 = r) := hide_ (by
        have ha := armI_none (ps := ps) (n := xn) (fun q p hp => HN.out q p (by have := (List.getElem?_eq_some_iff.1 hp).1; omega) hp)
        have h1 := HR.out
        rw [ha] at h1
        exact h1)
      have HBf := hide_ (below_to HB.out HC.out)
      go_wp2
      go_ret
      exact ⟨ret_int HV.out, HBf.out⟩
set_option maxRecDepth 100000 in
set_option maxHeartbeats 4000000 in
theorem fitsR2_any (n el : Int) (ps : List Pt) (va : Option Addr) (vc : Nat) (xk xn xd : Int) (w : World)  : Calls Tryd.prog 65 #[.agg #[.int .i64 2, .int .i64 n, .int .i64 el, .slice va ps.length vc], .agg #[.int .i64 xk, .int .u64 xn, .int .i64 xd]] w fun e w' => e = .returned (.int .i64 (misP ⟨2, n, el, ps⟩ ⟨xk, xn, xd⟩)) ∧ Below w.heap.size w w' := by
  have hB := below2 w (.cells #[.int .i64 2, .int .i64 n, .int .i64 el, .slice va ps.length vc] 64) (.cells #[.int .i64 xk, .int .u64 xn, .int .i64 xd] 49)
  obtain ⟨k1, k2⟩ := blk2 w #[.int .i64 2, .int .i64 n, .int .i64 el, .slice va ps.length vc] #[.int .i64 xk, .int .u64 xn, .int .i64 xd] 64 49
  obtain ⟨w0, hw0⟩ : ∃ wx, wx = (w.alloc (.cells #[.int .i64 2, .int .i64 n, .int .i64 el, .slice va ps.length vc] 64)).alloc (.cells #[.int .i64 xk, .int .u64 xn, .int .i64 xd] 49) := ⟨_, rfl⟩
  rw [← hw0] at hB k1 k2
  have K1 := hide_ k1
  have K2 := hide_ k2
  have HB := hide_ hB
  have i0 := k1.cell 0; have i1 := k1.cell 1; have i2 := k1.cell 2; have i3 := k1.cell 3
  have j0 := k2.cell 0; have j1 := k2.cell 1; have j2 := k2.cell 2
  simp at i0 i1 i2 i3 j0 j1 j2
  clear hB k1 k2
  go_enter Tryd.func65, Tryd.ntmps65
  go_upto_region 1 with fail
  rw [← hw0]
  clear hw0
  by_cases hk : xk = 2
  · have hkb : (xk == 2) = true := by simp [hk]
    have hkn : (xk != 2) = false := by simp [hk]
    have HV : Hid (misP ⟨2, n, el, ps⟩ ⟨xk, xn, xd⟩ = 0) := hide_ (by simp [misP, nkind, nkT, hk])
    go_wp2_with fail
    go_quiet (fail)
    have HBq := hide_ (below_drewN HB.out nq)
    go_wp2
    go_ret
    exact ⟨by rw [HV.out]; rfl, HBq.out⟩
  · have hkn : (xk != 2) = true := by simpa using hk
    have HV : Hid (misP ⟨2, n, el, ps⟩ ⟨xk, xn, xd⟩ = 110) := hide_ (by simp [misP, nkind, nkT, hk])
    go_wp2
    go_ret
    exact ⟨by rw [HV.out]; rfl, HB.out⟩
set_option maxRecDepth 100000 in
set_option maxHeartbeats 4000000 in
theorem fitsR3_any (n el : Int) (ps : List Pt) (va : Option Addr) (vc : Nat) (xk xn xd : Int) (w : World)  : Calls Tryd.prog 65 #[.agg #[.int .i64 3, .int .i64 n, .int .i64 el, .slice va ps.length vc], .agg #[.int .i64 xk, .int .u64 xn, .int .i64 xd]] w fun e w' => e = .returned (.int .i64 (misP ⟨3, n, el, ps⟩ ⟨xk, xn, xd⟩)) ∧ Below w.heap.size w w' := by
  have hB := below2 w (.cells #[.int .i64 3, .int .i64 n, .int .i64 el, .slice va ps.length vc] 64) (.cells #[.int .i64 xk, .int .u64 xn, .int .i64 xd] 49)
  obtain ⟨k1, k2⟩ := blk2 w #[.int .i64 3, .int .i64 n, .int .i64 el, .slice va ps.length vc] #[.int .i64 xk, .int .u64 xn, .int .i64 xd] 64 49
  obtain ⟨w0, hw0⟩ : ∃ wx, wx = (w.alloc (.cells #[.int .i64 3, .int .i64 n, .int .i64 el, .slice va ps.length vc] 64)).alloc (.cells #[.int .i64 xk, .int .u64 xn, .int .i64 xd] 49) := ⟨_, rfl⟩
  rw [← hw0] at hB k1 k2
  have K1 := hide_ k1
  have K2 := hide_ k2
  have HB := hide_ hB
  have i0 := k1.cell 0; have i1 := k1.cell 1; have i2 := k1.cell 2; have i3 := k1.cell 3
  have j0 := k2.cell 0; have j1 := k2.cell 1; have j2 := k2.cell 2
  simp at i0 i1 i2 i3 j0 j1 j2
  clear hB k1 k2
  go_enter Tryd.func65, Tryd.ntmps65
  go_upto_region 1 with fail
  rw [← hw0]
  clear hw0
  by_cases hk : xk = 1
  · have hkb : (xk == 1) = true := by simp [hk]
    have hkn : (xk != 1) = false := by simp [hk]
    have HV : Hid (misP ⟨3, n, el, ps⟩ ⟨xk, xn, xd⟩ = 0) := hide_ (by simp [misP, nkind, nkT, hk])
    go_wp2_with fail
    go_quiet (fail)
    have HBq := hide_ (below_drewN HB.out nq)
    go_wp2
    go_ret
    exact ⟨by rw [HV.out]; rfl, HBq.out⟩
  · have hkn : (xk != 1) = true := by simpa using hk
    have HV : Hid (misP ⟨3, n, el, ps⟩ ⟨xk, xn, xd⟩ = 110) := hide_ (by simp [misP, nkind, nkT, hk])
    go_wp2
    go_ret
    exact ⟨by rw [HV.out]; rfl, HB.out⟩
set_option maxRecDepth 100000 in
set_option maxHeartbeats 4000000 in
theorem fitsR6_any (n el : Int) (ps : List Pt) (va : Option Addr) (vc : Nat) (xk xn xd : Int) (w : World)  : Calls Tryd.prog 65 #[.agg #[.int .i64 6, .int .i64 n, .int .i64 el, .slice va ps.length vc], .agg #[.int .i64 xk, .int .u64 xn, .int .i64 xd]] w fun e w' => e = .returned (.int .i64 (misP ⟨6, n, el, ps⟩ ⟨xk, xn, xd⟩)) ∧ Below w.heap.size w w' := by
  have hB := below2 w (.cells #[.int .i64 6, .int .i64 n, .int .i64 el, .slice va ps.length vc] 64) (.cells #[.int .i64 xk, .int .u64 xn, .int .i64 xd] 49)
  obtain ⟨k1, k2⟩ := blk2 w #[.int .i64 6, .int .i64 n, .int .i64 el, .slice va ps.length vc] #[.int .i64 xk, .int .u64 xn, .int .i64 xd] 64 49
  obtain ⟨w0, hw0⟩ : ∃ wx, wx = (w.alloc (.cells #[.int .i64 6, .int .i64 n, .int .i64 el, .slice va ps.length vc] 64)).alloc (.cells #[.int .i64 xk, .int .u64 xn, .int .i64 xd] 49) := ⟨_, rfl⟩
  rw [← hw0] at hB k1 k2
  have K1 := hide_ k1
  have K2 := hide_ k2
  have HB := hide_ hB
  have i0 := k1.cell 0; have i1 := k1.cell 1; have i2 := k1.cell 2; have i3 := k1.cell 3
  have j0 := k2.cell 0; have j1 := k2.cell 1; have j2 := k2.cell 2
  simp at i0 i1 i2 i3 j0 j1 j2
  clear hB k1 k2
  go_enter Tryd.func65, Tryd.ntmps65
  go_upto_region 1 with fail
  rw [← hw0]
  clear hw0
  by_cases hk : xk = 5
  · have hkb : (xk == 5) = true := by simp [hk]
    have hkn : (xk != 5) = false := by simp [hk]
    have HV : Hid (misP ⟨6, n, el, ps⟩ ⟨xk, xn, xd⟩ = 0) := hide_ (by simp [misP, nkind, nkT, hk])
    go_wp2_with fail
    go_quiet (fail)
    have HBq := hide_ (below_drewN HB.out nq)
    go_wp2
    go_ret
    exact ⟨by rw [HV.out]; rfl, HBq.out⟩
  · have hkn : (xk != 5) = true := by simpa using hk
    have HV : Hid (misP ⟨6, n, el, ps⟩ ⟨xk, xn, xd⟩ = 110) := hide_ (by simp [misP, nkind, nkT, hk])
    go_wp2
    go_ret
    exact ⟨by rw [HV.out]; rfl, HB.out⟩
set_option maxRecDepth 100000 in
set_option maxHeartbeats 4000000 in
theorem fitsR4_any (n el : Int) (ps : List Pt) (va : Option Addr) (vc : Nat) (xk xn xd : Int) (w : World)  : Calls Tryd.prog 65 #[.agg #[.int .i64 4, .int .i64 n, .int .i64 el, .slice va ps.length vc], .agg #[.int .i64 xk, .int .u64 xn, .int .i64 xd]] w fun e w' => e = .returned (.int .i64 (misP ⟨4, n, el, ps⟩ ⟨xk, xn, xd⟩)) ∧ Below w.heap.size w w' := by
  have hB := below2 w (.cells #[.int .i64 4, .int .i64 n, .int .i64 el, .slice va ps.length vc] 64) (.cells #[.int .i64 xk, .int .u64 xn, .int .i64 xd] 49)
  obtain ⟨k1, k2⟩ := blk2 w #[.int .i64 4, .int .i64 n, .int .i64 el, .slice va ps.length vc] #[.int .i64 xk, .int .u64 xn, .int .i64 xd] 64 49
  obtain ⟨w0, hw0⟩ : ∃ wx, wx = (w.alloc (.cells #[.int .i64 4, .int .i64 n, .int .i64 el, .slice va ps.length vc] 64)).alloc (.cells #[.int .i64 xk, .int .u64 xn, .int .i64 xd] 49) := ⟨_, rfl⟩
  rw [← hw0] at hB k1 k2
  have K1 := hide_ k1
  have K2 := hide_ k2
  have HB := hide_ hB
  have i0 := k1.cell 0; have i1 := k1.cell 1; have i2 := k1.cell 2; have i3 := k1.cell 3
  have j0 := k2.cell 0; have j1 := k2.cell 1; have j2 := k2.cell 2
  simp at i0 i1 i2 i3 j0 j1 j2
  clear hB k1 k2
  go_enter Tryd.func65, Tryd.ntmps65
  go_upto_region 1 with fail
  rw [← hw0]
  clear hw0
  by_cases hk : xk = 3
  · have hkb : (xk == 3) = true := by simp [hk]
    have hkn : (xk != 3) = false := by simp [hk]
    by_cases hc : xd = n
    · have hcn : (xd != n) = false := by simp [hc]
      have HV : Hid (misP ⟨4, n, el, ps⟩ ⟨xk, xn, xd⟩ = 0) := hide_ (by simp [misP, nkind, nkT, hk, hc])
      go_wp2_with fail
      go_quiet (fail)
      have HBq := hide_ (below_drewN HB.out nq)
      go_wp2
      go_ret
      exact ⟨by rw [HV.out]; rfl, HBq.out⟩
    · have hcn : (xd != n) = true := by simpa using hc
      have HV : Hid (misP ⟨4, n, el, ps⟩ ⟨xk, xn, xd⟩ = 112) := hide_ (by simp [misP, nkind, nkT, hk]; omega)
      go_wp2_with fail
      go_quiet (fail)
      have HBq := hide_ (below_drewN HB.out nq)
      go_wp2
      go_ret
      exact ⟨by rw [HV.out]; rfl, HBq.out⟩
  · have hkn : (xk != 3) = true := by simpa using hk
    have HV : Hid (misP ⟨4, n, el, ps⟩ ⟨xk, xn, xd⟩ = 110) := hide_ (by simp [misP, nkind, nkT, hk])
    go_wp2
    go_ret
    exact ⟨by rw [HV.out]; rfl, HB.out⟩
set_option maxRecDepth 100000 in
set_option maxHeartbeats 4000000 in
theorem fitsR5_any (n el : Int) (ps : List Pt) (va : Option Addr) (vc : Nat) (xk xn xd : Int) (w : World) (hd : 0 ≤ xd) : Calls Tryd.prog 65 #[.agg #[.int .i64 5, .int .i64 n, .int .i64 el, .slice va ps.length vc], .agg #[.int .i64 xk, .int .u64 xn, .int .i64 xd]] w fun e w' => e = .returned (.int .i64 (misP ⟨5, n, el, ps⟩ ⟨xk, xn, xd⟩)) ∧ Below w.heap.size w w' := by
  have hB := below2 w (.cells #[.int .i64 5, .int .i64 n, .int .i64 el, .slice va ps.length vc] 64) (.cells #[.int .i64 xk, .int .u64 xn, .int .i64 xd] 49)
  obtain ⟨k1, k2⟩ := blk2 w #[.int .i64 5, .int .i64 n, .int .i64 el, .slice va ps.length vc] #[.int .i64 xk, .int .u64 xn, .int .i64 xd] 64 49
  obtain ⟨w0, hw0⟩ : ∃ wx, wx = (w.alloc (.cells #[.int .i64 5, .int .i64 n, .int .i64 el, .slice va ps.length vc] 64)).alloc (.cells #[.int .i64 xk, .int .u64 xn, .int .i64 xd] 49) := ⟨_, rfl⟩
  rw [← hw0] at hB k1 k2
  have K1 := hide_ k1
  have K2 := hide_ k2
  have HB := hide_ hB
  have i0 := k1.cell 0; have i1 := k1.cell 1; have i2 := k1.cell 2; have i3 := k1.cell 3
  have j0 := k2.cell 0; have j1 := k2.cell 1; have j2 := k2.cell 2
  simp at i0 i1 i2 i3 j0 j1 j2
  clear hB k1 k2
  go_enter Tryd.func65, Tryd.ntmps65
  go_upto_region 1 with fail
  rw [← hw0]
  clear hw0
  by_cases hk : xk = 3
  · have hkb : (xk == 3) = true := by simp [hk]
    have hkn : (xk != 3) = false := by simp [hk]
    by_cases hc : n < xd
    · skip
      have HV : Hid (misP ⟨5, n, el, ps⟩ ⟨xk, xn, xd⟩ = 112) := hide_ (by simp [misP, nkind, nkT, hk]; omega)
      go_wp2_with fail
      go_quiet (fail)
      have HBq := hide_ (below_drewN HB.out nq)
      go_wp2
      go_ret
      exact ⟨by rw [HV.out]; rfl, HBq.out⟩
    · skip
      have HV : Hid (misP ⟨5, n, el, ps⟩ ⟨xk, xn, xd⟩ = 0) := hide_ (by simp [misP, nkind, nkT, hk]; omega)
      go_wp2_with fail
      go_quiet (fail)
      have HBq := hide_ (below_drewN HB.out nq)
      go_wp2
      go_ret
      exact ⟨by rw [HV.out]; rfl, HBq.out⟩
  · have hkn : (xk != 3) = true := by simpa using hk
    have HV : Hid (misP ⟨5, n, el, ps⟩ ⟨xk, xn, xd⟩ = 110) := hide_ (by simp [misP, nkind, nkT, hk])
    go_wp2
    go_ret
    exact ⟨by rw [HV.out]; rfl, HB.out⟩
set_option maxRecDepth 100000 in
set_option maxHeartbeats 4000000 in
theorem fitsR8_any (n el : Int) (ps : List Pt) (va : Option Addr) (vc : Nat) (xk xn xd : Int) (w : World)  : Calls Tryd.prog 65 #[.agg #[.int .i64 8, .int .i64 n, .int .i64 el, .slice va ps.length vc], .agg #[.int .i64 xk, .int .u64 xn, .int .i64 xd]] w fun e w' => e = .returned (.int .i64 (misP ⟨8, n, el, ps⟩ ⟨xk, xn, xd⟩)) ∧ Below w.heap.size w w' := by
  have hB := below2 w (.cells #[.int .i64 8, .int .i64 n, .int .i64 el, .slice va ps.length vc] 64) (.cells #[.int .i64 xk, .int .u64 xn, .int .i64 xd] 49)
  obtain ⟨k1, k2⟩ := blk2 w #[.int .i64 8, .int .i64 n, .int .i64 el, .slice va ps.length vc] #[.int .i64 xk, .int .u64 xn, .int .i64 xd] 64 49
  obtain ⟨w0, hw0⟩ : ∃ wx, wx = (w.alloc (.cells #[.int .i64 8, .int .i64 n, .int .i64 el, .slice va ps.length vc] 64)).alloc (.cells #[.int .i64 xk, .int .u64 xn, .int .i64 xd] 49) := ⟨_, rfl⟩
  rw [← hw0] at hB k1 k2
  have K1 := hide_ k1
  have K2 := hide_ k2
  have HB := hide_ hB
  have i0 := k1.cell 0; have i1 := k1.cell 1; have i2 := k1.cell 2; have i3 := k1.cell 3
  have j0 := k2.cell 0; have j1 := k2.cell 1; have j2 := k2.cell 2
  simp at i0 i1 i2 i3 j0 j1 j2
  clear hB k1 k2
  go_enter Tryd.func65, Tryd.ntmps65
  go_upto_region 1 with fail
  rw [← hw0]
  clear hw0
  by_cases hk : xk = 4
  · have hkb : (xk == 4) = true := by simp [hk]
    have hkn : (xk != 4) = false := by simp [hk]
    by_cases hc : xd = (ps.length : Int)
    · have hcn : (xd != (ps.length : Int)) = false := by simp [hc]
      have HV : Hid (misP ⟨8, n, el, ps⟩ ⟨xk, xn, xd⟩ = 0) := hide_ (by simp [misP, nkind, nkT, hk, hc])
      go_wp2_with fail
      go_quiet (fail)
      have HBq := hide_ (below_drewN HB.out nq)
      go_wp2
      go_ret
      exact ⟨by rw [HV.out]; rfl, HBq.out⟩
    · have hcn : (xd != (ps.length : Int)) = true := by simpa using hc
      have HV : Hid (misP ⟨8, n, el, ps⟩ ⟨xk, xn, xd⟩ = 112) := hide_ (by simp [misP, nkind, nkT, hk]; omega)
      go_wp2_with fail
      go_quiet (fail)
      have HBq := hide_ (below_drewN HB.out nq)
      go_wp2
      go_ret
      exact ⟨by rw [HV.out]; rfl, HBq.out⟩
  · have hkn : (xk != 4) = true := by simpa using hk
    have HV : Hid (misP ⟨8, n, el, ps⟩ ⟨xk, xn, xd⟩ = 110) := hide_ (by simp [misP, nkind, nkT, hk])
    go_wp2
    go_ret
    exact ⟨by rw [HV.out]; rfl, HB.out⟩
set_option maxRecDepth 100000 in
set_option maxHeartbeats 4000000 in
theorem fitsR7_any (n el : Int) (ps : List Pt) (va : Option Addr) (vc : Nat) (xk xn xd : Int) (w : World) (hpl : ps.length ≤ 9223372036854775806) (htg : Hid (∀ p ∈ ps, 0 ≤ p.tag ∧ p.tag ≤ 255)) (hpt : Hid (∀ (m : Nat) (p : Pt), ps[m]? = some p → 0 ≤ p.ty)) (hP : Hid (PRow w va ps)) : Calls Tryd.prog 65 #[.agg #[.int .i64 7, .int .i64 n, .int .i64 el, .slice va ps.length vc], .agg #[.int .i64 xk, .int .u64 xn, .int .i64 xd]] w fun e w' => e = .returned (.int .i64 (misP ⟨7, n, el, ps⟩ ⟨xk, xn, xd⟩)) ∧ Below w.heap.size w w' := by
  have hB := below2 w (.cells #[.int .i64 7, .int .i64 n, .int .i64 el, .slice va ps.length vc] 64) (.cells #[.int .i64 xk, .int .u64 xn, .int .i64 xd] 49)
  obtain ⟨k1, k2⟩ := blk2 w #[.int .i64 7, .int .i64 n, .int .i64 el, .slice va ps.length vc] #[.int .i64 xk, .int .u64 xn, .int .i64 xd] 64 49
  obtain ⟨w0, hw0⟩ : ∃ wx, wx = (w.alloc (.cells #[.int .i64 7, .int .i64 n, .int .i64 el, .slice va ps.length vc] 64)).alloc (.cells #[.int .i64 xk, .int .u64 xn, .int .i64 xd] 49) := ⟨_, rfl⟩
  rw [← hw0] at hB k1 k2
  have K1 := hide_ k1
  have K2 := hide_ k2
  have HB := hide_ hB
  have i0 := k1.cell 0; have i1 := k1.cell 1; have i2 := k1.cell 2; have i3 := k1.cell 3
  have j0 := k2.cell 0; have j1 := k2.cell 1; have j2 := k2.cell 2
  simp at i0 i1 i2 i3 j0 j1 j2
  clear hB k1 k2
  have HEl : Hid (∀ w', Below w0.heap.size w0 w' → Calls Tryd.prog 63 #[.agg #[.int .i64 7, .int .i64 n, .int .i64 el, .slice va ps.length vc], .agg #[.int .i64 xk, .int .u64 xn, .int .i64 xd], .int .i64 0] w' fun e w'' => e = .returned (.int .i64 (match armI ps xn with | some i => (ps.getD i pt0).ty | none => -1)) ∧ Below w'.heap.size w' w'') := hide_ (fun w' hB' => elem7_any n el ps va vc xk xn xd 0 w' hpl htg (hide_ (hP.out.later (below_to HB.out hB'))))
  go_enter Tryd.func65, Tryd.ntmps65
  go_upto_region 1 with fail
  rw [← hw0]
  clear hw0
  by_cases hk : xk = 6
  · have hkb : (xk == 6) = true := by simp [hk]
    have hkn : (xk != 6) = false := by simp [hk]
    subst hk
    clear hkb hkn
    cases ha : armI ps xn with
    | none =>
      have HV : Hid (misP ⟨7, n, el, ps⟩ ⟨6, xn, xd⟩ = 113) := hide_ (by simp [misP, nkind, nkT, ha])
      rw [ha] at HEl
      simp only at HEl
      go_wp2_with fail
      go_quiet (fail)
      have HBq := hide_ (below_drewN HB.out nq)
      have HEq := hide_ (HEl.out (w0.drewN nq) (below_drewN (Below.refl _ _) nq))
      have K15 := hide_ (K1.out.drewN nq)
      have K25 := hide_ (K2.out.drewN nq)
      clear i0 i1 i2 i3 j0 j1 j2
      generalize w0.drewN nq = w5 at *
      have i0 := K15.out.cell 0; have i1 := K15.out.cell 1; have i2 := K15.out.cell 2; have i3 := K15.out.cell 3
      have j0 := K25.out.cell 0; have j1 := K25.out.cell 1; have j2 := K25.out.cell 2
      simp at i0 i1 i2 i3 j0 j1 j2
      go_wp2_with fail
      refine HEq.out.mono ?_; rintro e w6 ⟨rfl, hB6⟩
      have HBf := hide_ (below_to HBq.out hB6)
      clear hB6
      go_wp2
      go_ret
      exact ⟨by rw [HV.out]; rfl, HBf.out⟩
    | some m =>
      obtain ⟨p, hp, -⟩ := armI_some ha
      have hp0 := hpt.out m p hp
      have HV : Hid (misP ⟨7, n, el, ps⟩ ⟨6, xn, xd⟩ = 0) := hide_ (by simp [misP, nkind, nkT, ha])
      rw [ha] at HEl
      simp only at HEl
      rw [show ps.getD m pt0 = p by simp [List.getD, hp]] at HEl
      obtain ⟨y, hy⟩ : ∃ y, p.ty = y := ⟨_, rfl⟩
      rw [hy] at HEl hp0
      clear hy hp
      go_wp2_with fail
      go_quiet (fail)
      have HBq := hide_ (below_drewN HB.out nq)
      have HEq := hide_ (HEl.out (w0.drewN nq) (below_drewN (Below.refl _ _) nq))
      have K15 := hide_ (K1.out.drewN nq)
      have K25 := hide_ (K2.out.drewN nq)
      clear i0 i1 i2 i3 j0 j1 j2
      generalize w0.drewN nq = w5 at *
      have i0 := K15.out.cell 0; have i1 := K15.out.cell 1; have i2 := K15.out.cell 2; have i3 := K15.out.cell 3
      have j0 := K25.out.cell 0; have j1 := K25.out.cell 1; have j2 := K25.out.cell 2
      simp at i0 i1 i2 i3 j0 j1 j2
      have hy0 : ¬ y < 0 := by omega
      go_wp2_with fail
      refine HEq.out.mono ?_; rintro e w6 ⟨rfl, hB6⟩
      have HBf := hide_ (below_to HBq.out hB6)
      clear hB6
      go_wp2
      go_ret
      exact ⟨by rw [HV.out]; rfl, HBf.out⟩
  · have hkn : (xk != 6) = true := by simpa using hk
    have HV : Hid (misP ⟨7, n, el, ps⟩ ⟨xk, xn, xd⟩ = 110) := hide_ (by simp [misP, nkind, nkT, hk])
    go_wp2
    go_ret
    exact ⟨by rw [HV.out]; rfl, HB.out⟩
set_option maxRecDepth 100000 in
set_option maxHeartbeats 4000000 in
theorem fitsR1_1 (el : Int) (ps : List Pt) (va : Option Addr) (vc : Nat) (xk xn xd : Int) (w : World) : Calls Tryd.prog 65 #[.agg #[.int .i64 1, .int .i64 1, .int .i64 el, .slice va ps.length vc], .agg #[.int .i64 xk, .int .u64 xn, .int .i64 xd]] w fun e w' => e = .returned (.int .i64 (misP ⟨1, 1, el, ps⟩ ⟨xk, xn, xd⟩)) ∧ Below w.heap.size w w' := by
  have hB := below2 w (.cells #[.int .i64 1, .int .i64 1, .int .i64 el, .slice va ps.length vc] 64) (.cells #[.int .i64 xk, .int .u64 xn, .int .i64 xd] 49)
  obtain ⟨k1, k2⟩ := blk2 w #[.int .i64 1, .int .i64 1, .int .i64 el, .slice va ps.length vc] #[.int .i64 xk, .int .u64 xn, .int .i64 xd] 64 49
  obtain ⟨w0, hw0⟩ : ∃ wx, wx = (w.alloc (.cells #[.int .i64 1, .int .i64 1, .int .i64 el, .slice va ps.length vc] 64)).alloc (.cells #[.int .i64 xk, .int .u64 xn, .int .i64 xd] 49) := ⟨_, rfl⟩
  rw [← hw0] at hB k1 k2
  have K1 := hide_ k1
  have K2 := hide_ k2
  have HB := hide_ hB
  have i0 := k1.cell 0; have i1 := k1.cell 1; have i2 := k1.cell 2; have i3 := k1.cell 3
  have j0 := k2.cell 0; have j1 := k2.cell 1; have j2 := k2.cell 2
  simp at i0 i1 i2 i3 j0 j1 j2
  clear hB k1 k2
  go_enter Tryd.func65, Tryd.ntmps65
  go_upto_region 1 with fail
  rw [← hw0]
  clear hw0
  by_cases hk : xk = 1
  · have hkb : (xk == 1) = true := by simp [hk]
    have hkn : (xk != 1) = false := by simp [hk]
    by_cases hc : 256 ≤ xn
    · skip
      have HV : Hid (misP ⟨1, 1, el, ps⟩ ⟨xk, xn, xd⟩ = 111) := hide_ (by simp [misP, nkind, nkT, hk, gr]; omega)
      go_wp2_with fail
      go_quiet (fail)
      have HBq := hide_ (below_drewN HB.out nq)
      go_wp2
      go_ret
      exact ⟨by rw [HV.out]; rfl, HBq.out⟩
    · skip
      have HV : Hid (misP ⟨1, 1, el, ps⟩ ⟨xk, xn, xd⟩ = 0) := hide_ (by simp [misP, nkind, nkT, hk, gr]; omega)
      go_wp2_with fail
      go_quiet (fail)
      have HBq := hide_ (below_drewN HB.out nq)
      go_wp2
      go_ret
      exact ⟨by rw [HV.out]; rfl, HBq.out⟩
  · have hkn : (xk != 1) = true := by simpa using hk
    have HV : Hid (misP ⟨1, 1, el, ps⟩ ⟨xk, xn, xd⟩ = 110) := hide_ (by simp [misP, nkind, nkT, hk])
    go_wp2
    go_ret
    exact ⟨by rw [HV.out]; rfl, HB.out⟩
set_option maxRecDepth 100000 in
set_option maxHeartbeats 4000000 in
theorem fitsR1_2 (el : Int) (ps : List Pt) (va : Option Addr) (vc : Nat) (xk xn xd : Int) (w : World) : Calls Tryd.prog 65 #[.agg #[.int .i64 1, .int .i64 2, .int .i64 el, .slice va ps.length vc], .agg #[.int .i64 xk, .int .u64 xn, .int .i64 xd]] w fun e w' => e = .returned (.int .i64 (misP ⟨1, 2, el, ps⟩ ⟨xk, xn, xd⟩)) ∧ Below w.heap.size w w' := by
  have hB := below2 w (.cells #[.int .i64 1, .int .i64 2, .int .i64 el, .slice va ps.length vc] 64) (.cells #[.int .i64 xk, .int .u64 xn, .int .i64 xd] 49)
  obtain ⟨k1, k2⟩ := blk2 w #[.int .i64 1, .int .i64 2, .int .i64 el, .slice va ps.length vc] #[.int .i64 xk, .int .u64 xn, .int .i64 xd] 64 49
  obtain ⟨w0, hw0⟩ : ∃ wx, wx = (w.alloc (.cells #[.int .i64 1, .int .i64 2, .int .i64 el, .slice va ps.length vc] 64)).alloc (.cells #[.int .i64 xk, .int .u64 xn, .int .i64 xd] 49) := ⟨_, rfl⟩
  rw [← hw0] at hB k1 k2
  have K1 := hide_ k1
  have K2 := hide_ k2
  have HB := hide_ hB
  have i0 := k1.cell 0; have i1 := k1.cell 1; have i2 := k1.cell 2; have i3 := k1.cell 3
  have j0 := k2.cell 0; have j1 := k2.cell 1; have j2 := k2.cell 2
  simp at i0 i1 i2 i3 j0 j1 j2
  clear hB k1 k2
  go_enter Tryd.func65, Tryd.ntmps65
  go_upto_region 1 with fail
  rw [← hw0]
  clear hw0
  by_cases hk : xk = 1
  · have hkb : (xk == 1) = true := by simp [hk]
    have hkn : (xk != 1) = false := by simp [hk]
    by_cases hc : 65536 ≤ xn
    · skip
      have HV : Hid (misP ⟨1, 2, el, ps⟩ ⟨xk, xn, xd⟩ = 111) := hide_ (by simp [misP, nkind, nkT, hk, gr]; omega)
      go_wp2_with fail
      go_quiet (fail)
      have HBq := hide_ (below_drewN HB.out nq)
      go_wp2
      go_ret
      exact ⟨by rw [HV.out]; rfl, HBq.out⟩
    · skip
      have HV : Hid (misP ⟨1, 2, el, ps⟩ ⟨xk, xn, xd⟩ = 0) := hide_ (by simp [misP, nkind, nkT, hk, gr]; omega)
      go_wp2_with fail
      go_quiet (fail)
      have HBq := hide_ (below_drewN HB.out nq)
      go_wp2
      go_ret
      exact ⟨by rw [HV.out]; rfl, HBq.out⟩
  · have hkn : (xk != 1) = true := by simpa using hk
    have HV : Hid (misP ⟨1, 2, el, ps⟩ ⟨xk, xn, xd⟩ = 110) := hide_ (by simp [misP, nkind, nkT, hk])
    go_wp2
    go_ret
    exact ⟨by rw [HV.out]; rfl, HB.out⟩
set_option maxRecDepth 100000 in
set_option maxHeartbeats 4000000 in
theorem fitsR1_4 (el : Int) (ps : List Pt) (va : Option Addr) (vc : Nat) (xk xn xd : Int) (w : World) : Calls Tryd.prog 65 #[.agg #[.int .i64 1, .int .i64 4, .int .i64 el, .slice va ps.length vc], .agg #[.int .i64 xk, .int .u64 xn, .int .i64 xd]] w fun e w' => e = .returned (.int .i64 (misP ⟨1, 4, el, ps⟩ ⟨xk, xn, xd⟩)) ∧ Below w.heap.size w w' := by
  have hB := below2 w (.cells #[.int .i64 1, .int .i64 4, .int .i64 el, .slice va ps.length vc] 64) (.cells #[.int .i64 xk, .int .u64 xn, .int .i64 xd] 49)
  obtain ⟨k1, k2⟩ := blk2 w #[.int .i64 1, .int .i64 4, .int .i64 el, .slice va ps.length vc] #[.int .i64 xk, .int .u64 xn, .int .i64 xd] 64 49
  obtain ⟨w0, hw0⟩ : ∃ wx, wx = (w.alloc (.cells #[.int .i64 1, .int .i64 4, .int .i64 el, .slice va ps.length vc] 64)).alloc (.cells #[.int .i64 xk, .int .u64 xn, .int .i64 xd] 49) := ⟨_, rfl⟩
  rw [← hw0] at hB k1 k2
  have K1 := hide_ k1
  have K2 := hide_ k2
  have HB := hide_ hB
  have i0 := k1.cell 0; have i1 := k1.cell 1; have i2 := k1.cell 2; have i3 := k1.cell 3
  have j0 := k2.cell 0; have j1 := k2.cell 1; have j2 := k2.cell 2
  simp at i0 i1 i2 i3 j0 j1 j2
  clear hB k1 k2
  go_enter Tryd.func65, Tryd.ntmps65
  go_upto_region 1 with fail
  rw [← hw0]
  clear hw0
  by_cases hk : xk = 1
  · have hkb : (xk == 1) = true := by simp [hk]
    have hkn : (xk != 1) = false := by simp [hk]
    by_cases hc : 4294967296 ≤ xn
    · skip
      have HV : Hid (misP ⟨1, 4, el, ps⟩ ⟨xk, xn, xd⟩ = 111) := hide_ (by simp [misP, nkind, nkT, hk, gr]; omega)
      go_wp2_with fail
      go_quiet (fail)
      have HBq := hide_ (below_drewN HB.out nq)
      go_wp2
      go_ret
      exact ⟨by rw [HV.out]; rfl, HBq.out⟩
    · skip
      have HV : Hid (misP ⟨1, 4, el, ps⟩ ⟨xk, xn, xd⟩ = 0) := hide_ (by simp [misP, nkind, nkT, hk, gr]; omega)
      go_wp2_with fail
      go_quiet (fail)
      have HBq := hide_ (below_drewN HB.out nq)
      go_wp2
      go_ret
      exact ⟨by rw [HV.out]; rfl, HBq.out⟩
  · have hkn : (xk != 1) = true := by simpa using hk
    have HV : Hid (misP ⟨1, 4, el, ps⟩ ⟨xk, xn, xd⟩ = 110) := hide_ (by simp [misP, nkind, nkT, hk])
    go_wp2
    go_ret
    exact ⟨by rw [HV.out]; rfl, HB.out⟩
set_option maxRecDepth 100000 in
set_option maxHeartbeats 4000000 in
theorem fitsR1_8 (el : Int) (ps : List Pt) (va : Option Addr) (vc : Nat) (xk xn xd : Int) (w : World) (hx : xn < 18446744073709551616) : Calls Tryd.prog 65 #[.agg #[.int .i64 1, .int .i64 8, .int .i64 el, .slice va ps.length vc], .agg #[.int .i64 xk, .int .u64 xn, .int .i64 xd]] w fun e w' => e = .returned (.int .i64 (misP ⟨1, 8, el, ps⟩ ⟨xk, xn, xd⟩)) ∧ Below w.heap.size w w' := by
  have hB := below2 w (.cells #[.int .i64 1, .int .i64 8, .int .i64 el, .slice va ps.length vc] 64) (.cells #[.int .i64 xk, .int .u64 xn, .int .i64 xd] 49)
  obtain ⟨k1, k2⟩ := blk2 w #[.int .i64 1, .int .i64 8, .int .i64 el, .slice va ps.length vc] #[.int .i64 xk, .int .u64 xn, .int .i64 xd] 64 49
  obtain ⟨w0, hw0⟩ : ∃ wx, wx = (w.alloc (.cells #[.int .i64 1, .int .i64 8, .int .i64 el, .slice va ps.length vc] 64)).alloc (.cells #[.int .i64 xk, .int .u64 xn, .int .i64 xd] 49) := ⟨_, rfl⟩
  rw [← hw0] at hB k1 k2
  have K1 := hide_ k1
  have K2 := hide_ k2
  have HB := hide_ hB
  have i0 := k1.cell 0; have i1 := k1.cell 1; have i2 := k1.cell 2; have i3 := k1.cell 3
  have j0 := k2.cell 0; have j1 := k2.cell 1; have j2 := k2.cell 2
  simp at i0 i1 i2 i3 j0 j1 j2
  clear hB k1 k2
  go_enter Tryd.func65, Tryd.ntmps65
  go_upto_region 1 with fail
  rw [← hw0]
  clear hw0
  by_cases hk : xk = 1
  · have hkb : (xk == 1) = true := by simp [hk]
    have hkn : (xk != 1) = false := by simp [hk]
    have HV : Hid (misP ⟨1, 8, el, ps⟩ ⟨xk, xn, xd⟩ = 0) := hide_ (by simp [misP, nkind, nkT, hk, gr]; omega)
    go_wp2_with fail
    go_quiet (fail)
    have HBq := hide_ (below_drewN HB.out nq)
    go_wp2
    go_ret
    exact ⟨by rw [HV.out]; rfl, HBq.out⟩
  · have hkn : (xk != 1) = true := by simpa using hk
    have HV : Hid (misP ⟨1, 8, el, ps⟩ ⟨xk, xn, xd⟩ = 110) := hide_ (by simp [misP, nkind, nkT, hk])
    go_wp2
    go_ret
    exact ⟨by rw [HV.out]; rfl, HB.out⟩
end Go.Proofs.YtlfjcihhcphjkaaDoor
/- The document's Fits and Elem, whatever the kind; the memory of its walk. -/
namespace Go.Proofs.YtlfjcihhcphjkaaDoor
open Go.RowKit
set_option linter.unusedVariables false

theorem fitsR_any (t : Ty) (x : Nv) (va : Option Addr) (vc : Nat) (i : Int) (w : World) (hok : Hid (tyOk t i = true)) (hr : rightV x = true) (hx : NvOk x) (hP : Hid (PRow w va t.ps)) :
    Calls Tryd.prog 65 #[.agg #[.int .i64 t.k, .int .i64 t.n, .int .i64 t.e, .slice va t.ps.length vc], .agg #[.int .i64 x.k, .int .u64 x.n, .int .i64 x.kids]] w fun e w' => e = .returned (.int .i64 (misP t x)) ∧ Below w.heap.size w w' := by
  obtain ⟨k, n, el, ps⟩ := t
  obtain ⟨xk, xn, xd⟩ := x
  have hk := tyOk_kind hok.out
  have hps := tyOk_len hok.out
  have hd := (rightV_kids hr).1
  have hn := nOk_of hok.out
  have hpt : Hid (∀ (m : Nat) (p : Pt), ps[m]? = some p → 0 ≤ p.ty) := hide_ (fun m p hp => (tyOk_part hok.out hp).1)
  simp only at hk hps hd hn
  have hx2 := hx.2
  simp only at hx2
  rcases hk with rfl | rfl | rfl | rfl | rfl | rfl | rfl | rfl
  · have h4 : n = 1 ∨ n = 2 ∨ n = 4 ∨ n = 8 := by omega
    rcases h4 with rfl | rfl | rfl | rfl
    · exact fitsR1_1 el ps va vc xk xn xd w
    · exact fitsR1_2 el ps va vc xk xn xd w
    · exact fitsR1_4 el ps va vc xk xn xd w
    · exact fitsR1_8 el ps va vc xk xn xd w hx2
  · exact fitsR2_any n el ps va vc xk xn xd w
  · exact fitsR3_any n el ps va vc xk xn xd w
  · exact fitsR4_any n el ps va vc xk xn xd w
  · exact fitsR5_any n el ps va vc xk xn xd w hd
  · exact fitsR6_any n el ps va vc xk xn xd w
  · exact fitsR7_any n el ps va vc xk xn xd w (by omega) (hide_ (tyOk_tags hok.out)) hpt hP
  · exact fitsR8_any n el ps va vc xk xn xd w
/-- Elem, of a node that fits: the kid's type. -/
theorem elemR_any (t : Ty) (x : Nv) (va : Option Addr) (vc : Nat) (i : Int) (j : Nat) (w : World) (hok : Hid (tyOk t i = true)) (hm : misP t x = 0) (hr : rightV x = true) (hj : (j : Int) < x.kids) (hP : Hid (PRow w va t.ps)) :
    ∃ s, (kidsT t x)[j]? = some s ∧ Calls Tryd.prog 63 #[.agg #[.int .i64 t.k, .int .i64 t.n, .int .i64 t.e, .slice va t.ps.length vc], .agg #[.int .i64 x.k, .int .u64 x.n, .int .i64 x.kids], .int .i64 (j : Int)] w fun e w' => e = .returned (.int .i64 s) ∧ Below w.heap.size w w' := by
  have hl := kidsT_len hok.out hm hr
  have hkd := misP_kind hm
  have hps := tyOk_len hok.out
  have hr0 := (rightV_kids hr).1
  have h0 : x.k = 1 ∨ x.k = 2 → x.kids = 0 := kid0 hr
  have h8 : t.k = 8 → x.kids = t.ps.length := fun h => misP_struct hm h
  have h7 : t.k = 7 → ∃ m p, armI t.ps x.n = some m ∧ t.ps[m]? = some p ∧ p.tag = x.n := fun h => misP_arm hm h
  obtain ⟨k, n, el, ps⟩ := t
  obtain ⟨xk, xn, xd⟩ := x
  have hk := tyOk_kind hok.out
  simp only at hk hps hkd h0 h7 h8 hj hr0 hl
  have hrep : k = 4 ∨ k = 5 ∨ k = 6 → (kidsT ⟨k, n, el, ps⟩ ⟨xk, xn, xd⟩)[j]? = some el := fun h => by
    unfold kidsT
    simp only
    rw [if_neg (by omega), if_neg (by omega), List.getElem?_replicate, if_pos (by omega)]
  rcases hk with rfl | rfl | rfl | rfl | rfl | rfl | rfl | rfl
  · have := h0 (.inl hkd); omega
  · have := h0 (.inr hkd); omega
  · have := h0 (.inl hkd); omega
  · exact ⟨el, hrep (by omega), elem4_any n el ps va vc xk xn xd j w⟩
  · exact ⟨el, hrep (by omega), elem5_any n el ps va vc xk xn xd j w⟩
  · exact ⟨el, hrep (by omega), elem6_any n el ps va vc xk xn xd j w⟩
  · obtain ⟨m, p, ha, hp, -⟩ := h7 rfl
    have e1 : kidsT ⟨7, n, el, ps⟩ ⟨xk, xn, xd⟩ = [p.ty] := by
      unfold kidsT
      simp only
      rw [if_pos trivial, ha]
      simp [List.getD, hp]
    rw [e1] at hl
    have hj0 : j = 0 := by simp at hl; omega
    subst hj0
    refine ⟨p.ty, by rw [e1]; rfl, ?_⟩
    have h := elem7_any n el ps va vc xk xn xd ((0 : Nat) : Int) w (by omega) (hide_ (tyOk_tags hok.out)) hP
    rw [ha] at h
    simp only at h
    rw [show ps.getD m pt0 = p by simp [List.getD, hp]] at h
    exact h
  · have hjl : j < ps.length := by have := h8 rfl; omega
    have hp : ps[j]? = some (ps[j]'hjl) := List.getElem?_eq_getElem hjl
    refine ⟨(ps[j]'hjl).ty, ?_, elem8_any n el ps va vc xk xn xd j _ w hp hP⟩
    unfold kidsT
    simp only
    rw [if_neg (by decide), if_pos trivial, List.getElem?_map, hp]
    rfl
theorem retTTF {fn : Func} {u1 u2 p : Tmp} (h : fn.results = #[.tmp u1, .tmp u2, .cell p 42]) {R : Ending → World → Prop} {tmps : Array Value} {g : Nat} {w : World} {v1 v2 x y : Value} (h1 : tmps.getD u1 undef = v1) (h2 : tmps.getD u2 undef = v2) (hp : tmps.getD p undef = .pointer (some ⟨g, 0, none⟩)) (hK : Blk w g 42 [x, y]) (hR : R (.returned (.tuple #[v1, v2, .agg #[x, y]])) w) :
    bodyPost Tryd.prog fn R Exit.ret ⟨tmps, []⟩ w := by
  have hp' : tmps[p]?.getD undef = .pointer (some ⟨g, 0, none⟩) := by simpa using hp
  have h1' : tmps[u1]?.getD undef = v1 := by simpa using h1
  have h2' : tmps[u2]?.getD undef = v2 := by simpa using h2
  refine bodyPost_ret (v := .tuple #[v1, v2, .agg #[x, y]]) ?_ rfl hR
  simp only [results, h]
  simp [hp', h1', h2', asAddr, Result.andThen, run_loadVar_row w g 42 42 #[x, y] (0, 0) _ hK Tryd.underlying42 rfl (by show _ = some 2; kernel_rfl)]
/-- What the document's walk answers: the fault, or the types so far and the place behind the value. -/
def WalkTo (T : List Ty) (t0 : Int) (V : List Nv) (st : List Int) (B i : Nat) (v : Value) (w : World) (e : Ending) (w' : World) : Prop :=
  ∃ (v2 : Value) (p : Nat) (E A : Int), e = .returned (.tuple #[v2, .int .i64 (p : Int), .agg #[.int .i64 E, .int .i64 A]]) ∧ Hid (Upd (fun k => v.ownBlock = some k) w w') ∧
    Hid ((E ≠ 0 ∧ wkT T [t0] V 0 = ([], E, A) ∧ v2 = .slice none 0 0) ∨ (E = 0 ∧ A = 0 ∧ i < p ∧ ∃ nums2, WkI T t0 V p st nums2 ∧ IOwn w' B v2 nums2 ∧ ∀ k, v2.ownBlock = some k → v.ownBlock = some k ∨ w.heap.size ≤ k))
end Go.Proofs.YtlfjcihhcphjkaaDoor
/- The document's behind, Next: the place behind a value. -/
namespace Go.Proofs.YtlfjcihhcphjkaaDoor
open Go.RowKit
set_option linter.unusedVariables false

/-- How many nodes so many values take. -/
def bhN : Int → List Nv → Nat
  | _, [] => 0
  | m, x :: l => if m ≤ 0 then 0 else bhN (m + (x.kids - 1)) l + 1
theorem bhN_zero (m : Int) (l : List Nv) (h : m ≤ 0) : bhN m l = 0 := by
  cases l with
  | nil => rfl
  | cons x l => rw [bhN, if_pos h]
theorem bhN_step (m : Int) (x : Nv) (l : List Nv) (h : 0 < m) : bhN m (x :: l) = bhN (m + (x.kids - 1)) l + 1 := by rw [bhN, if_neg (by omega)]
theorem bhN_le : ∀ (l : List Nv) (m : Int), bhN m l ≤ l.length
  | [], m => by simp [bhN]
  | x :: l, m => by
    rw [bhN]
    split
    · exact Nat.zero_le _
    · have := bhN_le l (m + (x.kids - 1))
      simp only [List.length_cons]
      omega
set_option maxRecDepth 100000 in
set_option maxHeartbeats 8000000 in
theorem behind_any (aV : Option Addr) (cV : Nat) (V : List Nv) (i : Nat) (M : Int) (w : World) (hV : V.length ≤ 2000000) (hM : 1 ≤ M) (hc : Hid ((chkV M i (V.drop i)).1 = 0)) (hr : Hid (VRow w aV V)) :
    Calls Tryd.prog 39 #[.slice aV V.length cV, .int .i64 (i : Int)] w fun e w' => e = .returned (.int .i64 ((i + bhN 1 (V.drop i) : Nat) : Int)) ∧ w = w' := by
  go_enter Tryd.func39, Tryd.ntmps39
  go_wp2_with fail
  go_loopw [1, 5] (fun x1 x5 wr => ∃ (j : Nat) (m M' : Int), x1 = .int .i64 (j : Int) ∧ x5 = .int .i64 m ∧ i ≤ j ∧ j ≤ V.length ∧ 0 ≤ m ∧ m ≤ M' ∧ Hid ((chkV M' j (V.drop j)).1 = 0) ∧ Hid (i + bhN 1 (V.drop i) = j + bhN m (V.drop j)) ∧ w = wr) (fun x1 _ _ => V.length - (intOf x1).toNat)
  case atStart =>
    have hi : i ≤ V.length := by
      have h1 := chkV_le _ _ _ (by omega) hc.out
      have h2 := List.length_drop (l := V) (i := i)
      omega
    exact ⟨i, 1, M, rfl, rfl, Nat.le_refl _, hi, by omega, hM, hc, hide_ rfl, rfl⟩
  case round =>
    obtain ⟨j, m, M', rfl, rfl, hij, hjl, hm0, hmM, HC, HB, rfl⟩ := hrel
    by_cases hm : 0 < m
    · have hj : j < V.length := by
        have h1 := chkV_le _ _ _ (by omega) HC.out
        have h2 := List.length_drop (l := V) (i := j)
        omega
      have hj' : (j : Int) < V.length := by omega
      have hd : V.drop j = V[j]'hj :: V.drop (j + 1) := List.drop_eq_getElem_cons hj
      have hx : V[j]? = some (V[j]'hj) := List.getElem?_eq_getElem hj
      obtain ⟨b, o, rfl, -, hcl⟩ := hr.out.open (by omega)
      have c2 := hcl j _ hx 2 (by decide)
      simp [nvc] at c2
      have hC := HC.out
      have hB := HB.out
      rw [hd] at hC hB
      obtain ⟨-, hrx, hC2⟩ := chkV_step hC
      rw [bhN_step _ _ _ hm] at hB
      have hkd := rightV_kids hrx
      generalize V[j]'hj = x at *
      have hml := chkV_le _ _ _ (by omega) HC.out
      have hdl := List.length_drop (l := V) (i := j)
      have HC2 : Hid ((chkV (M' + (x.kids - 1)) ((j + 1 : Nat) : Int) (V.drop (j + 1))).1 = 0) := hide_ (by push_cast; exact hC2)
      have HB2 : Hid (i + bhN 1 (V.drop i) = j + 1 + bhN (m + (x.kids - 1)) (V.drop (j + 1))) := hide_ (by omega)
      have hdl2 : m ≤ 2000000 := by omega
      clear hcl hC hB hC2 hx hd hml hdl HC HB
      go_wp2_with fail
      go_roundw
      case rel => exact ⟨j + 1, m + (x.kids - 1), M' + (x.kids - 1), by go_num, by first | rfl | go_num, by omega, by omega, by omega, by omega, HC2, HB2, by trivial⟩
      case measure => simp [intOf]; omega
    · have hm' : ¬ 0 < m := hm
      have HF : Hid (((i + bhN 1 (V.drop i) : Nat) : Int) = (j : Int)) := hide_ (by rw [HB.out, bhN_zero _ _ (by omega)]; rfl)
      go_wp2
      go_ret
      have hF := HF.out
      push_cast at hF
      exact ⟨by rw [hF]; rfl, rfl⟩
set_option maxRecDepth 100000 in
set_option maxHeartbeats 8000000 in
theorem nextR_any (aV : Option Addr) (cV : Nat) (V : List Nv) (i : Nat) (M : Int) (w : World) (hV : V.length ≤ 2000000) (hi : i < V.length) (hM : 1 ≤ M) (hc0 : Hid ((chkV 1 0 V).1 = 0)) (hc : Hid ((chkV M i (V.drop i)).1 = 0)) (hr : Hid (VRow w aV V)) (hn : Hid (∀ x ∈ V, NvOk x)) :
    Calls Tryd.prog 26 #[.slice aV V.length cV, .int .i64 (i : Int)] w fun e w' => e = .returned (.tuple #[.int .i64 ((i + bhN 1 (V.drop i) : Nat) : Int), .int .i64 0]) ∧ Below w.heap.size w w' := by
  have HCk : Hid (Calls Tryd.prog 24 #[.slice aV V.length cV] w fun e w' => e = .returned (.tuple #[.int .i64 0, .int .i64 0]) ∧ Below w.heap.size w w') := hide_ (by
    have h := checkN_any aV V.length cV V w rfl hV hr hn
    rw [chkV_ok _ _ _ hc0.out] at h
    exact h)
  have hd : decide ((i : Int) < 0) = false := decide_eq_false (by omega)
  have hd1 : ¬ (V.length : Int) ≤ i := by omega
  have hd2 : decide (V.length ≤ i) = false := decide_eq_false (by omega)
  have hd3 : ¬ V.length ≤ i := by omega
  go_enter Tryd.func26, Tryd.ntmps26
  go_wp2_with fail
  refine HCk.out.mono ?_
  rintro e w1 ⟨rfl, hB1⟩
  have HB1 := hide_ hB1
  have HBh := hide_ (behind_any aV cV V i M w1 hV hM hc (hide_ (hr.out.later hB1)))
  clear hB1 HCk
  go_wp2_with fail
  refine HBh.out.mono ?_
  rintro e w2 ⟨rfl, rfl⟩
  go_wp2
  go_ret2
  exact ⟨by first | rfl | (push_cast; rfl), HB1.out⟩
end Go.Proofs.YtlfjcihhcphjkaaDoor
/- TypingKids, plain: the walk through a value, kid by kid. -/
namespace Go.Proofs.YtlfjcihhcphjkaaDoor
open Go.RowKit
set_option linter.unusedVariables false

theorem wkT_zero (T : List Ty) : ∀ (v : List Nv) (st : List Int) (i : Nat), (wkT T st v i).2.1 = 0 → (wkT T st v i).2.2 = 0
  | [], [], i, h => rfl
  | [], s :: st, i, h => rfl
  | x :: v, [], i, h => rfl
  | x :: v, s :: st, i, h => by
    rw [wkT] at h ⊢
    by_cases h1 : misP (T.getD s.toNat ty0) x ≠ 0
    · rw [if_pos h1] at h
      exact absurd h h1
    · rw [if_neg h1] at h ⊢
      simp only at h ⊢
      by_cases h2 : (wkT T (kidsT (T.getD s.toNat ty0) x ++ st) v (i + 1)).2.1 ≠ 0
      · rw [if_pos h2] at h
        exact absurd h h2
      · rw [if_neg h2]
/-- The walk from another place: a fault lies so much further behind. -/
theorem wkT_shift (T : List Ty) (d : Nat) : ∀ (v : List Nv) (st : List Int) (i : Nat), wkT T st v (i + d) = if (wkT T st v i).2.1 ≠ 0 then ((wkT T st v i).1, (wkT T st v i).2.1, (wkT T st v i).2.2 + d) else wkT T st v i
  | [], [], i => rfl
  | [], s :: st, i => rfl
  | x :: v, [], i => rfl
  | x :: v, s :: st, i => by
    have ih := wkT_shift T d v (kidsT (T.getD s.toNat ty0) x ++ st) (i + 1)
    rw [show i + 1 + d = i + d + 1 by omega] at ih
    rw [wkT, wkT]
    by_cases h1 : misP (T.getD s.toNat ty0) x ≠ 0
    · rw [if_pos h1, if_pos h1]
      simp only
      rw [if_pos h1]
      push_cast
      rfl
    · rw [if_neg h1, if_neg h1]
      simp only
      rw [ih]
      generalize wkT T (kidsT (T.getD s.toNat ty0) x ++ st) v (i + 1) = q
      by_cases h2 : q.2.1 ≠ 0
      · rw [if_pos h2, if_pos h2, if_pos h2, if_pos h2]
      · rw [if_neg h2, if_neg h2, if_neg (by simp)]
/-- So many values, then the rest. -/
theorem wkT_app {T : List Ty} {R : List Rt} (hS : OkS T R) : ∀ (A : List Nv) (ss st : List Int) (B : List Nv) (i : Nat) (a : Int), (∀ s ∈ ss, 0 ≤ s ∧ s < T.length) → (chkV ss.length a A).1 = 0 →
    wkT T (ss ++ st) (A ++ B) i = if (wkT T ss A i).2.1 ≠ 0 then wkT T ss A i else if (wkT T st B (i + A.length)).2.1 ≠ 0 then wkT T st B (i + A.length) else ((wkT T ss A i).1 ++ (wkT T st B (i + A.length)).1, 0, 0)
  | [], ss, st, B, i, a, hin, hc => by
    have hl := hc
    rw [chkV] at hl
    have hs0 : ss = [] := by
      cases ss with
      | nil => rfl
      | cons s ss =>
        rw [if_pos (by simp only [List.length_cons]; omega)] at hl
        cases hl
    subst hs0
    have hz := wkT_zero T B st i
    show wkT T st B i = _
    have e : wkT T [] [] i = ([], 0, 0) := rfl
    rw [e, if_neg (by simp)]
    simp only [List.length_nil, Nat.add_zero]
    by_cases h : (wkT T st B i).2.1 ≠ 0
    · rw [if_pos h]
    · rw [if_neg h]
      have h0 : (wkT T st B i).2.1 = 0 := by simpa using h
      have h1 := hz h0
      generalize wkT T st B i = q at *
      obtain ⟨q1, q2, q3⟩ := q
      simp only at h0 h1
      subst h0 h1
      rfl
  | x :: A, ss, st, B, i, a, hin, hc => by
    obtain ⟨hm, hrx, hc2⟩ := chkV_step hc
    cases ss with
    | nil => exact absurd rfl hm
    | cons s ss =>
      obtain ⟨hs0, hs1⟩ := hin s (by simp)
      have hok := hS.ty s.toNat (by omega)
      rw [show ((s.toNat : Nat) : Int) = s by omega] at hok
      show wkT T (s :: (ss ++ st)) (x :: (A ++ B)) i = _
      rw [wkT, wkT]
      by_cases h1 : misP (T.getD s.toNat ty0) x ≠ 0
      · rw [if_pos h1, if_pos h1]
        simp only
        rw [if_pos h1]
      · rw [if_neg h1, if_neg h1]
        simp only
        have h10 : misP (T.getD s.toNat ty0) x = 0 := by simpa using h1
        have hlen := kidsT_len hok h10 hrx
        have hkin := kidsT_in hok h10 hrx
        have ih := wkT_app hS A (kidsT (T.getD s.toNat ty0) x ++ ss) st B (i + 1) (a + 1) (fun s' hs' => by
          rcases List.mem_append.1 hs' with h | h
          · have := hkin s' h; omega
          · exact hin s' (by simp [h])) (by
          rw [List.length_append, show ((((kidsT (T.getD s.toNat ty0) x).length + ss.length : Nat)) : Int) = (((s :: ss).length : Nat) : Int) + (x.kids - 1) by push_cast; rw [hlen]; simp only [List.length_cons]; push_cast; omega]
          exact hc2)
        rw [List.append_assoc] at ih
        rw [ih, show i + (x :: A).length = i + 1 + A.length by simp only [List.length_cons]; omega]
        generalize wkT T (kidsT (T.getD s.toNat ty0) x ++ ss) A (i + 1) = q
        generalize wkT T st B (i + 1 + A.length) = r
        by_cases h2 : q.2.1 ≠ 0
        · simp only [if_pos h2]
        · by_cases h3 : r.2.1 ≠ 0
          · simp only [if_neg h2, if_pos h3]
            simp
          · simp only [if_neg h2, if_neg h3]
            simp
/-- So many values of a list of values, and what is behind them. -/
theorem chkV_cut : ∀ (l : List Nv) (m M a b : Int), 0 ≤ m → m ≤ M → (chkV M a l).1 = 0 → (chkV m b (l.take (bhN m l))).1 = 0 ∧ (chkV (M - m) (a + bhN m l) (l.drop (bhN m l))).1 = 0
  | [], m, M, a, b, h0, hM, hc => by
    rw [chkV] at hc
    by_cases hp : 0 < M
    · rw [if_pos hp] at hc
      cases hc
    · refine ⟨?_, ?_⟩
      · simp only [bhN, List.take_nil]
        rw [chkV, if_neg (by omega)]
      · simp only [bhN, List.drop_nil]
        rw [chkV, if_neg (by omega)]
  | x :: l, m, M, a, b, h0, hM, hc => by
    by_cases hm : m ≤ 0
    · rw [bhN_zero _ _ hm]
      refine ⟨?_, ?_⟩
      · rw [List.take_zero, chkV, if_neg (by omega)]
      · rw [List.drop_zero, show M - m = M by omega]
        simpa using hc
    · obtain ⟨hMn, hrx, hc2⟩ := chkV_step hc
      have hk := rightV_kids hrx
      rw [bhN_step _ _ _ (by omega), List.take_succ_cons, List.drop_succ_cons]
      obtain ⟨h1, h2⟩ := chkV_cut l (m + (x.kids - 1)) (M + (x.kids - 1)) (a + 1) (b + 1) (by omega) (by omega) hc2
      refine ⟨?_, ?_⟩
      · rw [chkV, if_neg (by rw [hrx]; simp; omega)]
        exact h1
      · rw [show M - m = M + (x.kids - 1) - (m + (x.kids - 1)) by omega, show a + ((bhN (m + (x.kids - 1)) l + 1 : Nat) : Int) = a + 1 + (bhN (m + (x.kids - 1)) l : Int) by push_cast; omega]
        exact h2
theorem bhN_pos (l : List Nv) (m : Int) (h : 0 < m) (hl : 0 < l.length) : 0 < bhN m l := by
  cases l with
  | nil => simp at hl
  | cons x l => rw [bhN_step _ _ _ h]; omega
/-- A node is another one, its kids are as many: the list is right, or wrong there. -/
theorem chkV_put : ∀ (l : List Nv) (m a : Int) (k : Nat) (y x : Nv), l[k]? = some x → y.kids = x.kids → (chkV m a l).1 = 0 → chkV m a (l.set k y) = (0, 0) ∨ chkV m a (l.set k y) = (40, a + k)
  | [], m, a, k, y, x, hx, hy, hc => by simp at hx
  | z :: l, m, a, 0, y, x, hx, hy, hc => by
    simp at hx
    subst hx
    obtain ⟨hm, hrx, hc2⟩ := chkV_step hc
    rw [List.set_cons_zero, chkV]
    by_cases hr : rightV y = false
    · rw [if_pos (.inr hr)]
      exact .inr (by simp)
    · rw [if_neg (by simp [hm]; simpa using hr), hy]
      exact .inl (chkV_ok _ _ _ hc2)
  | z :: l, m, a, k + 1, y, x, hx, hy, hc => by
    obtain ⟨hm, hrz, hc2⟩ := chkV_step hc
    rw [List.set_cons_succ, chkV, if_neg (by rw [hrz]; simp; exact hm)]
    rcases chkV_put l (m + (z.kids - 1)) (a + 1) k y x (by simpa using hx) hy hc2 with h | h
    · exact .inl h
    · refine .inr ?_
      rw [h]
      push_cast
      congr 1
      omega
end Go.Proofs.YtlfjcihhcphjkaaDoor
/- TypingKids, plain: what holds at a kid. -/
namespace Go.Proofs.YtlfjcihhcphjkaaDoor
open Go.RowKit
set_option linter.unusedVariables false

theorem bhN_same : ∀ (l l' : List Nv) (m : Int), l.map (·.kids) = l'.map (·.kids) → bhN m l = bhN m l'
  | [], [], m, h => rfl
  | [], x :: l, m, h => by cases h
  | x :: l, [], m, h => by cases h
  | x :: l, y :: l', m, h => by
    simp only [List.map_cons, List.cons.injEq] at h
    rw [bhN, bhN, h.1, bhN_same l l' _ h.2]
theorem kids_put (l : List Nv) (k : Nat) (y x : Nv) (hx : l[k]? = some x) (hy : y.kids = x.kids) : (l.set k y).map (·.kids) = l.map (·.kids) := by
  apply List.ext_getElem?
  intro j
  rw [List.getElem?_map, List.getElem?_map]
  by_cases h : k = j
  · subst h
    have hk := (List.getElem?_eq_some_iff.1 hx).1
    rw [List.getElem?_set_self hk, hx]
    simp [hy]
  · rw [List.getElem?_set_ne h]
/-- A walk without a fault tells a type for each node. -/
theorem wkT_full {T : List Ty} {R : List Rt} (hS : OkS T R) : ∀ (A : List Nv) (ss : List Int) (i : Nat) (a : Int), (∀ s ∈ ss, 0 ≤ s ∧ s < T.length) → (chkV ss.length a A).1 = 0 → (wkT T ss A i).2.1 = 0 → (wkT T ss A i).1.length = A.length
  | [], ss, i, a, hin, hc, h0 => by cases ss <;> rfl
  | x :: A, ss, i, a, hin, hc, h0 => by
    obtain ⟨hm, hrx, hc2⟩ := chkV_step hc
    cases ss with
    | nil => exact absurd rfl hm
    | cons s ss =>
      obtain ⟨hs0, hs1⟩ := hin s (by simp)
      have hok := hS.ty s.toNat (by omega)
      rw [show ((s.toNat : Nat) : Int) = s by omega] at hok
      rw [wkT] at h0 ⊢
      by_cases h1 : misP (T.getD s.toNat ty0) x ≠ 0
      · rw [if_pos h1] at h0
        exact absurd h0 h1
      · rw [if_neg h1] at h0 ⊢
        simp only at h0 ⊢
        have h10 : misP (T.getD s.toNat ty0) x = 0 := by simpa using h1
        have hlen := kidsT_len hok h10 hrx
        have hkin := kidsT_in hok h10 hrx
        by_cases h2 : (wkT T (kidsT (T.getD s.toNat ty0) x ++ ss) A (i + 1)).2.1 ≠ 0
        · rw [if_pos h2] at h0
          exact absurd h0 h2
        · rw [if_neg h2]
          have h20 : (wkT T (kidsT (T.getD s.toNat ty0) x ++ ss) A (i + 1)).2.1 = 0 := by simpa using h2
          have ih := wkT_full hS A (kidsT (T.getD s.toNat ty0) x ++ ss) (i + 1) (a + 1) (fun s' hs' => by
            rcases List.mem_append.1 hs' with h | h
            · have := hkin s' h; omega
            · exact hin s' (by simp [h])) (by
            rw [List.length_append, show ((((kidsT (T.getD s.toNat ty0) x).length + ss.length : Nat)) : Int) = (((s :: ss).length : Nat) : Int) + (x.kids - 1) by push_cast; rw [hlen]; simp only [List.length_cons]; push_cast; omega]
            exact hc2) h20
          simp only [List.length_cons, ih]
/-- At a kid: what is still to come; whether all were right so far; the whole's fault. -/
structure KdI (T : List Ty) (V0 V : List Nv) (tys : List Int) (E A : Int) (pl : Nat) (st : List Int) (all : Bool) : Prop where
  inT : ∀ s ∈ st, 0 ≤ s ∧ s < T.length
  shape : (chkV st.length pl (V.drop pl)).1 = 0
  shape0 : (chkV st.length pl (V0.drop pl)).1 = 0
  kids : V.map (·.kids) = V0.map (·.kids)
  good : (wkT T st (V0.drop pl) pl).2.1 = 0
  tys : tys.drop pl = (wkT T st (V0.drop pl) pl).1
  yes : all = true → E = (wkT T st (V.drop pl) pl).2.1 ∧ A = (wkT T st (V.drop pl) pl).2.2
  no : all = false → E ≠ 0
theorem KdI.stop {T : List Ty} {V0 V : List Nv} {tys : List Int} {E A : Int} {pl : Nat} {all : Bool} (h : KdI T V0 V tys E A pl [] all) : (E = 0 ↔ all = true) := by
  constructor
  · intro hE
    cases all with
    | true => rfl
    | false => exact absurd hE (h.no rfl)
  · intro ha
    rw [(h.yes ha).1]
    unfold wkT
    rfl
/-- The next kid: its value, its type, its fault. -/
theorem KdI.next {T : List Ty} {R : List Rt} (hS : OkS T R) {V0 V : List Nv} {tys : List Int} {E A : Int} {pl : Nat} {s : Int} {st : List Int} {all : Bool} (h : KdI T V0 V tys E A pl (s :: st) all) :
    pl < V.length ∧ tys[pl]? = some s ∧ 0 < bhN 1 (V.drop pl) ∧ pl + bhN 1 (V.drop pl) ≤ V.length ∧ (chkV 1 0 ((V.drop pl).take (bhN 1 (V.drop pl)))).1 = 0 ∧
    ∀ e a : Int, (wkT T [s] ((V.drop pl).take (bhN 1 (V.drop pl))) 0).2.1 = e → (wkT T [s] ((V.drop pl).take (bhN 1 (V.drop pl))) 0).2.2 = a →
      (e ≠ 0 → (all = true → E = e ∧ A = pl + a) ∧ KdI T V0 V tys E A (pl + bhN 1 (V.drop pl)) st false) ∧ (e = 0 → KdI T V0 V tys E A (pl + bhN 1 (V.drop pl)) st all) := by
  have hl0 := chkV_le _ _ _ (by simp only [List.length_cons]; omega) h.shape
  have hd := List.length_drop (l := V) (i := pl)
  simp only [List.length_cons] at hl0
  have hpl : pl < V.length := by omega
  have hlen : V.length = V0.length := by have := congrArg List.length h.kids; simpa using this
  have hn0 := bhN_pos (V.drop pl) 1 (by omega) (by omega)
  have hn1 := bhN_le (V.drop pl) 1
  have hsh : (chkV ((st.length + 1 : Nat) : Int) pl (V.drop pl)).1 = 0 := h.shape
  obtain ⟨c1, c2⟩ := chkV_cut (V.drop pl) 1 ((st.length + 1 : Nat) : Int) pl 0 (by omega) (by omega) hsh
  have hin1 : ∀ s' ∈ [s], 0 ≤ s' ∧ s' < T.length := fun s' hs' => h.inT s' (by simp at hs'; simp [hs'])
  have hkd : (V.drop pl).map (·.kids) = (V0.drop pl).map (·.kids) := by rw [List.map_drop, List.map_drop, h.kids]
  have hbs := bhN_same _ _ 1 hkd
  -- the value as it was: right all along, of as many nodes
  have hV0 := h.good
  have hT0 := h.tys
  obtain ⟨x0, hx0⟩ : ∃ x0, V0[pl]? = some x0 := ⟨_, List.getElem?_eq_getElem (by omega : pl < V0.length)⟩
  have hpl0 : pl < V0.length := by omega
  have hdc : V0.drop pl = V0[pl]'hpl0 :: V0.drop (pl + 1) := List.drop_eq_getElem_cons hpl0
  have hty : tys[pl]? = some s := by
    have e1 : (tys.drop pl)[0]? = some s := by
      rw [hT0]
      rw [hdc] at hV0 ⊢
      rw [wkT] at hV0 ⊢
      by_cases h1 : misP (T.getD s.toNat ty0) (V0[pl]'hpl0) ≠ 0
      · rw [if_pos h1] at hV0
        exact absurd hV0 h1
      · rw [if_neg h1] at hV0 ⊢
        simp only at hV0 ⊢
        by_cases h2 : (wkT T (kidsT (T.getD s.toNat ty0) (V0[pl]'hpl0) ++ st) (V0.drop (pl + 1)) (pl + 1)).2.1 ≠ 0
        · rw [if_pos h2] at hV0
          exact absurd hV0 h2
        · rw [if_neg h2]
          rfl
    rw [List.getElem?_drop] at e1
    simpa using e1
  generalize hn : bhN 1 (V.drop pl) = n at *
  have hA0 := wkT_app hS ((V.drop pl).take n) [s] st ((V.drop pl).drop n) pl 0 hin1 (by simpa using c1)
  rw [List.take_append_drop, List.drop_drop] at hA0
  have hlt : ((V.drop pl).take n).length = n := by rw [List.length_take]; omega
  rw [hlt] at hA0
  have hS0 := wkT_shift T pl ((V.drop pl).take n) [s] 0
  rw [Nat.zero_add] at hS0
  have hsh0 : (chkV ((st.length + 1 : Nat) : Int) pl (V0.drop pl)).1 = 0 := h.shape0
  obtain ⟨d1, d2⟩ := chkV_cut (V0.drop pl) 1 ((st.length + 1 : Nat) : Int) pl 0 (by omega) (by omega) hsh0
  rw [← hbs] at d1 d2
  have hB0 := wkT_app hS ((V0.drop pl).take n) [s] st ((V0.drop pl).drop n) pl 0 hin1 (by simpa using d1)
  rw [List.take_append_drop, List.drop_drop] at hB0
  have hlt0 : ((V0.drop pl).take n).length = n := by rw [List.length_take, List.length_drop]; omega
  rw [hlt0] at hB0
  have hfl := wkT_full hS ((V0.drop pl).take n) [s] pl 0 hin1 (by simpa using d1)
  rw [hlt0] at hfl
  rw [List.drop_drop] at c2 d2
  rw [show ((st.length + 1 : Nat) : Int) - 1 = (st.length : Int) by push_cast; omega, show (pl : Int) + (n : Int) = ((pl + n : Nat) : Int) by push_cast; rfl] at c2 d2
  have hB1 : wkT T (s :: st) (V0.drop pl) pl = _ := hB0
  have hA1 : wkT T (s :: st) (V.drop pl) pl = _ := hA0
  rw [hB1] at hV0 hT0
  have hq : (wkT T st (V0.drop (pl + n)) (pl + n)).2.1 = 0 ∧ tys.drop (pl + n) = (wkT T st (V0.drop (pl + n)) (pl + n)).1 := by
    by_cases h1 : (wkT T [s] ((V0.drop pl).take n) pl).2.1 ≠ 0
    · rw [if_pos h1] at hV0
      exact absurd hV0 h1
    · rw [if_neg h1] at hV0 hT0
      by_cases h2 : (wkT T st (V0.drop (pl + n)) (pl + n)).2.1 ≠ 0
      · rw [if_pos h2] at hV0
        exact absurd hV0 h2
      · rw [if_neg h2] at hT0
        refine ⟨by simpa using h2, ?_⟩
        have hf := hfl (by simpa using h1)
        rw [← List.drop_drop, hT0]
        exact List.drop_left' hf
  refine ⟨hpl, hty, hn0, by omega, c1, ?_⟩
  generalize wkT T [s] ((V.drop pl).take n) pl = rr at hA1 hS0
  generalize wkT T [s] ((V.drop pl).take n) 0 = r0 at hS0 ⊢
  intro e a he ha
  refine ⟨fun hne => ?_, fun he0 => ?_⟩
  · rw [if_pos (by rw [he]; exact hne)] at hS0
    have hr1 : rr.2.1 = e := by rw [hS0, ← he]
    have hr2 : rr.2.2 = a + pl := by rw [hS0, ← ha]
    rw [if_pos (by rw [hr1]; exact hne)] at hA1
    refine ⟨fun hall => ?_, ⟨fun s' hs' => h.inT s' (by simp [hs']), c2, d2, h.kids, hq.1, hq.2, fun hf => (by cases hf), fun _ => ?_⟩⟩
    · obtain ⟨y1, y2⟩ := h.yes hall
      rw [hA1] at y1 y2
      exact ⟨by rw [y1, hr1], by rw [y2, hr2]; omega⟩
    · cases all with
      | false => exact h.no rfl
      | true =>
        obtain ⟨y1, -⟩ := h.yes rfl
        rw [hA1, hr1] at y1
        rw [y1]
        exact hne
  · rw [if_neg (by rw [he, he0]; simp)] at hS0
    rw [if_neg (by rw [hS0, he, he0]; simp)] at hA1
    refine ⟨fun s' hs' => h.inT s' (by simp [hs']), c2, d2, h.kids, hq.1, hq.2, fun hall => ?_, h.no⟩
    obtain ⟨y1, y2⟩ := h.yes hall
    rw [hA1] at y1 y2
    by_cases h2 : (wkT T st (V.drop (pl + n)) (pl + n)).2.1 ≠ 0
    · rw [if_pos h2] at y1 y2
      exact ⟨y1, y2⟩
    · rw [if_neg h2] at y1 y2
      have h20 : (wkT T st (V.drop (pl + n)) (pl + n)).2.1 = 0 := by simpa using h2
      exact ⟨by rw [y1, h20], by rw [y2, wkT_zero T _ _ _ h20]⟩
end Go.Proofs.YtlfjcihhcphjkaaDoor
/- A region that draws its order and whose last operation may change what the others read: the condition S on the world is shown behind every operation but that last one, which waits for all that are taken first. Over any program. -/
namespace Go.Proofs.YtlfjcihhcphjkaaDoor
set_option linter.unusedVariables false

section
variable {P : Program} {ops : Array Oper} {Q : Exit → Act → World → Prop} {md : Region.Mode} {S : World → Prop} {f : Nat}
/-- Whatever order is picked from here on; S holds behind every operation but number f. -/
def wpAnyF (P : Program) (md : Region.Mode) (ops : Array Oper) (Q : Exit → Act → World → Prop) (S : World → Prop) (f : Nat) : Nat → Array Bool → Act → World → Prop
  | 0, listed, a, w => Region.ready md ops listed = [] ∧ Q .normal a w
  | fuel + 1, listed, a, w =>
    (Region.ready md ops listed = [] → Q .normal a w) ∧
    ∀ i ∈ Region.ready md ops listed, wpOp P ops Q i (fun a' w' => (i ≠ f → S w') ∧ wpAnyF P md ops Q S f fuel (listed.setIfInBounds i true) a' w') a w
theorem wpAny_of_F : ∀ (fuel : Nat) (listed : Array Bool) (a : Act) (w : World), wpAnyF P md ops Q S f fuel listed a w → wpAny P md ops Q fuel listed a w
  | 0, _, _, _, h => h
  | fuel + 1, _, _, _, h => ⟨h.1, fun i hi => wpOp_mono (fun a' w' h' => wpAny_of_F fuel _ a' w' h'.2) (h.2 i hi)⟩
/-- The operations ds wait for number i, one by another. -/
def waits (md : Region.Mode) (ops : Array Oper) (listed : Array Bool) (i f : Nat) (ds : List Nat) : Bool :=
  ds.contains f && ds.all (fun k => (listed.getD k true == false) && (match ops[k]? with | some o => o.after.any (fun e => Region.binds md e && (e.on == i || ds.contains e.on)) | none => false))
theorem unlisted_not {listed : Array Bool} {k : Nat} (h : listed.getD k true = false) : ¬ listed.getD k false = true := by
  intro h1
  rcases Nat.lt_or_ge k listed.size with h' | h'
  · simp [h'] at h h1; rw [h] at h1; cases h1
  · simp [Array.getElem?_eq_none h'] at h1
theorem wpAnyF_first {i : Nat} {oi : Oper} {v : Value} {ds : List Nat} (hi : ops[i]? = some oi) (hsel : ∀ (j : Nat) (o : Oper) cs b, ops[j]? = some o → o.op ≠ .select cs b)
    (hQ : ∀ c a w, Q (.panic c) (a.put oi.dst v) w → Q (.panic c) a w) (hf : f ∈ ds) (hcl : ∀ k ∈ ds, ∃ o, ops[k]? = some o ∧ ∃ e ∈ o.after, Region.binds md e = true ∧ (e.on = i ∨ e.on ∈ ds)) :
    ∀ (fuel : Nat) (listed : Array Bool) (a : Act) (w : World),
      (∀ k ∈ ds, listed.getD k true = false) →
      (∀ j oj, ops[j]? = some oj → j ≠ i → listed.getD j true = false → (∀ e ∈ oj.after, Region.binds md e = true → e.on ≠ i) → oi.apart ops oj = true) →
      i ∈ Region.ready md ops listed → YieldsIf P ops S oi v a → S w →
      wpAnyF P md ops Q S f fuel (listed.setIfInBounds i true) (a.put oi.dst v) w → wpAnyF P md ops Q S f (fuel + 1) listed a w := by
  intro fuel
  induction fuel with
  | zero =>
    intro listed a w _ _ hr hy hS H
    refine ⟨fun h => (by rw [h] at hr; cases hr), fun j hj => ?_⟩
    by_cases hji : j = i
    · subst hji; exact hy.wpOp hi hS ⟨fun _ => hS, H⟩
    · have := ready_mono hj hji
      rw [H.1] at this
      cases this
  | succ fuel ih =>
    intro listed a w hun hfree hr hy hS H
    refine ⟨fun h => (by rw [h] at hr; cases hr), fun j hj => ?_⟩
    by_cases hji : j = i
    · subst hji; exact hy.wpOp hi hS ⟨fun _ => hS, H⟩
    · have h1 := H.2 j (ready_mono hj hji)
      obtain ⟨hjun, oj, hoj, hall⟩ := mem_ready.1 hj
      have hiun := (mem_ready.1 hr).1
      have hnot : ∀ e ∈ oj.after, Region.binds md e = true → e.on ≠ i := fun e he hb heq => by
        have h1 := hall e he hb
        rw [heq] at h1
        exact unlisted_not hiun h1
      have hjd : ¬ j ∈ ds := fun hjd => by
        obtain ⟨o, ho, e, he, hb, hon⟩ := hcl j hjd
        rw [hoj] at ho
        injection ho with ho
        subst ho
        rcases hon with hon | hon
        · exact hnot e he hb hon
        · exact unlisted_not (hun _ hon) (hall e he hb)
      have hjf : j ≠ f := fun h => hjd (h ▸ hf)
      have h2 := wpOp_putIf hoj (hfree j oj hoj hji hjun hnot) (fun cs b => hsel i oi cs b hi) (fun cs b => hsel j oj cs b hoj) hQ hy h1
      have hfree' : ∀ k ok, ops[k]? = some ok → k ≠ i → (listed.setIfInBounds j true).getD k true = false →
          (∀ e ∈ ok.after, Region.binds md e = true → e.on ≠ i) → oi.apart ops ok = true := fun k ok hk hki hun hno => by
        refine hfree k ok hk hki ?_ hno
        by_cases hjk : j = k
        · subst hjk; exact hjun
        · rw [getD_set_ne true hjk] at hun; exact hun
      have hun' : ∀ k ∈ ds, (listed.setIfInBounds j true).getD k true = false := fun k hk => by
        have hne : j ≠ k := fun h => hjd (by rw [h]; exact hk)
        rw [getD_set_ne true hne]
        exact hun k hk
      refine wpOp_mono (fun a' w' h3 => ⟨fun _ => h3.2.1 hjf, ih (listed.setIfInBounds j true) a' w' hun' hfree' (ready_mono hr (Ne.symm hji)) h3.1 (h3.2.1 hjf) ?_⟩) h2
      rw [Array.setIfInBounds_comm _ _ hji]
      exact h3.2.2
/-- Take number i first; ds: operations that wait for it, f among them. -/
theorem wpAnyF_take {i : Nat} {oi : Oper} {v : Value} {fuel : Nat} {listed : Array Bool} {a : Act} {w : World} (ds : List Nat) (hd : waits md ops listed i f ds = true) (hi : ops[i]? = some oi)
    (hs : Region.noSelect ops = true) (hf : Region.free md ops listed i = true) (hr : (Region.ready md ops listed).contains i = true)
    (hQ : ∀ c a w, Q (.panic c) (a.put oi.dst v) w → Q (.panic c) a w) (hy : YieldsIf P ops S oi v a) (hS : S w)
    (h : wpAnyF P md ops Q S f fuel (listed.setIfInBounds i true) (a.put oi.dst v) w) : wpAnyF P md ops Q S f (fuel + 1) listed a w := by
  unfold waits at hd
  rw [Bool.and_eq_true, List.all_eq_true] at hd
  have hcl : ∀ k ∈ ds, listed.getD k true = false ∧ ∃ o, ops[k]? = some o ∧ ∃ e ∈ o.after, Region.binds md e = true ∧ (e.on = i ∨ e.on ∈ ds) := fun k hk => by
    have h1 := hd.2 k hk
    rw [Bool.and_eq_true] at h1
    refine ⟨by simpa using h1.1, ?_⟩
    have h2 := h1.2
    cases ho : ops[k]? with
    | none => rw [ho] at h2; cases h2
    | some o =>
      rw [ho] at h2
      simp only [Array.any_eq_true'] at h2
      obtain ⟨e, he, h3⟩ := h2
      rw [Bool.and_eq_true, Bool.or_eq_true] at h3
      exact ⟨o, rfl, e, he, h3.1, h3.2.imp (fun h => by simpa using h) (fun h => by simpa using h)⟩
  exact wpAnyF_first hi (Region.noSelect_spec hs) hQ (by simpa using hd.1) (fun k hk => (hcl k hk).2) fuel listed a w (fun k hk => (hcl k hk).1) (Region.free_spec hi hf) (by simpa using hr) hy hS h
def AllReadyF (P : Program) (md : Region.Mode) (ops : Array Oper) (Q : Exit → Act → World → Prop) (S : World → Prop) (f fuel : Nat) (listed : Array Bool) (a : Act) (w : World) (rs : List Nat) : Prop :=
  ∀ i ∈ rs, wpOp P ops Q i (fun a' w' => (i ≠ f → S w') ∧ wpAnyF P md ops Q S f fuel (listed.setIfInBounds i true) a' w') a w
theorem AllReadyF.nil {fuel : Nat} {listed : Array Bool} {a : Act} {w : World} : AllReadyF P md ops Q S f fuel listed a w [] := fun _ h => by cases h
theorem AllReadyF.cons {fuel : Nat} {listed : Array Bool} {a : Act} {w : World} {i : Nat} {o : Oper} {rs : List Nat} (ho : ops[i]? = some o)
    (h : ∀ K' : Act → World → Prop, Shut (∀ a w, S w → (S w → wpAnyF P md ops Q S f fuel (listed.setIfInBounds i true) a w) → K' a w) → if Region.wanted o (yielded ops a.tmps) = true then Oper.wp P o a w K' Q else K' (a.put o.dst undef) w)
    (hs : AllReadyF P md ops Q S f fuel listed a w rs) : AllReadyF P md ops Q S f fuel listed a w (i :: rs) := fun j hj => by
  rcases List.mem_cons.1 hj with rfl | hj
  · exact wpOp_step ho (fun K' hK => h K' (fun a w hS hW => hK a w ⟨fun _ => hS, hW hS⟩))
  · exact hs j hj
/-- The last one: nothing is asked of the world behind it. -/
theorem AllReadyF.last {fuel : Nat} {listed : Array Bool} {a : Act} {w : World} {o : Oper} (ho : ops[f]? = some o)
    (h : ∀ K' : Act → World → Prop, Shut (∀ a w, wpAnyF P md ops Q S f fuel (listed.setIfInBounds f true) a w → K' a w) → if Region.wanted o (yielded ops a.tmps) = true then Oper.wp P o a w K' Q else K' (a.put o.dst undef) w) :
    AllReadyF P md ops Q S f fuel listed a w [f] := fun j hj => by
  rw [List.mem_singleton] at hj
  subst hj
  exact wpOp_step ho (fun K' hK => h K' (fun a w hW => hK a w ⟨fun h => absurd rfl h, hW⟩))
theorem wpAnyF_ready {rs : List Nat} {fuel : Nat} {listed : Array Bool} {a : Act} {w : World} (hr : Region.ready md ops listed = rs) (hne : rs ≠ [])
    (h : AllReadyF P md ops Q S f fuel listed a w rs) : wpAnyF P md ops Q S f (fuel + 1) listed a w := ⟨fun h0 => absurd (hr ▸ h0) hne, hr ▸ h⟩
theorem wpAnyF_done {listed : Array Bool} {a : Act} {w : World} (hr : Region.ready md ops listed = []) (h : Q .normal a w) :
    ∀ fuel, wpAnyF P md ops Q S f fuel listed a w
  | 0 => ⟨hr, h⟩
  | _ + 1 => ⟨fun _ => h, by rw [hr]; simp⟩
theorem wp_region_last {id : Nat} {a : Act} {w : World} (f : Nat) (S : World → Prop) (hm : P.follows .mixedOrders = true) (hS : S w.drew)
    (h : S w.drew → wpAnyF P .any ops Q S f ops.size (Array.replicate ops.size false) a w.drew) : (Code.region id ops true).wp P Q a w :=
  wp_region_any hm (wpAny_of_F _ _ _ _ (h hS))
end
end Go.Proofs.YtlfjcihhcphjkaaDoor
/- The document's Making.some: plain part, and the walk. -/
namespace Go.Proofs.YtlfjcihhcphjkaaDoor
open Go.RowKit
set_option linter.unusedVariables false

/-- The document's making has come so far: it may go on beyond the bound, but not to an end. -/
structure RkI (T : List Ty) (t : Int) (p : List Int) (st : List Int) (V : List Nv) : Prop where
  inT : ∀ s ∈ st, 0 ≤ s ∧ s < T.length
  lenV : V.length ≤ 1048576
  way : MkI T t p st V ∨ (mkT T p 1048578 [t] [] = none ∧ 1048576 < V.length + st.length)
theorem RkI.start {T : List Ty} {t : Int} {p : List Int} (h0 : 0 ≤ t) (h1 : t < T.length) : RkI T t p [t] [] :=
  ⟨(MkI.start (p := p) h0 h1).inT, by simp, .inl (MkI.start h0 h1)⟩
theorem RkI.done {T : List Ty} {t : Int} {p : List Int} {V : List Nv} (h : RkI T t p [] V) : mkT T p 1048578 [t] [] = some V := by
  rcases h.way with h1 | ⟨-, h1⟩
  · exact h1.done
  · have := h.lenV
    simp at h1
    omega
theorem RkI.full {T : List Ty} {t : Int} {p : List Int} {s : Int} {st : List Int} {V : List Nv} (h : RkI T t p (s :: st) V) (hl : 1048576 ≤ V.length) : mkT T p 1048578 [t] [] = none := by
  rcases h.way with h1 | ⟨h1, -⟩
  · have := h1.len
    simp at this
    omega
  · exact h1
theorem RkI.next {T : List Ty} {R : List Rt} {t : Int} {p : List Int} {s : Int} {st : List Int} {V : List Nv} (h : RkI T t p (s :: st) V) (hS : OkS T R) (hl : V.length < 1048576) :
    0 ≤ s ∧ s < T.length ∧ misP (T.getD s.toNat ty0) (pickP (T.getD s.toNat ty0) (pickA p V.length)) = 0 ∧ rightV (pickP (T.getD s.toNat ty0) (pickA p V.length)) = true ∧
    RkI T t p (kidsT (T.getD s.toNat ty0) (pickP (T.getD s.toNat ty0) (pickA p V.length)) ++ st) (V ++ [pickP (T.getD s.toNat ty0) (pickA p V.length)]) := by
  obtain ⟨hs0, hs1⟩ := h.inT s (by simp)
  have hok := hS.ty s.toNat (by omega)
  rw [show ((s.toNat : Nat) : Int) = s by omega] at hok
  obtain ⟨hf, hr, hv⟩ := pick_fits hok (pickA_in p V.length)
  have hlen := kidsT_len hok hf hr
  refine ⟨hs0, hs1, hf, hr, fun s' hs' => ?_, ?_, ?_⟩
  · rcases List.mem_append.1 hs' with hs' | hs'
    · have := kidsT_in hok hf hr s' hs'; omega
    · exact h.inT s' (by simp [hs'])
  · rw [List.length_append, List.length_singleton]; omega
  · rcases h.way with h1 | ⟨h1, h2⟩
    · obtain ⟨-, -, -, -, h5, h6⟩ := h1.next hS
      by_cases hg : (V.length : Int) + (st.length + 1) + (pickP (T.getD s.toNat ty0) (pickA p V.length)).kids > 1048576
      · refine .inr ⟨h5 hg, ?_⟩
        rw [List.length_append, List.length_append, List.length_singleton]
        omega
      · exact .inl (h6 hg)
    · refine .inr ⟨h1, ?_⟩
      rw [List.length_append, List.length_append, List.length_singleton]
      rw [List.length_cons] at h2
      omega
end Go.Proofs.YtlfjcihhcphjkaaDoor
/- The document's Making.some: the walk. -/
namespace Go.Proofs.YtlfjcihhcphjkaaDoor
open Go.RowKit
set_option linter.unusedVariables false

/-- What Making.some leaves. -/
def MsTo (T : List Ty) (t0 : Int) (p : List Int) (st : List Int) (B bm : Nat) (a b c : Value) (V : List Nv) (v : Value) (w w' : World) : Prop :=
  ∃ (v' : Value) (V' : List Nv) (many : Bool), Blk w' bm 91 [a, b, c, v', .bool many] ∧ NOwn w' B v' V' ∧ (∀ k, v'.ownBlock = some k → v.ownBlock = some k ∨ w.heap.size ≤ k) ∧ Upd (fun k => k = bm ∨ v.ownBlock = some k) w w' ∧
    ((many = true ∧ mkT T p 1048578 [t0] [] = none) ∨ (many = false ∧ RkI T t0 p st V' ∧ V.length < V'.length))
set_option maxRecDepth 100000 in
set_option maxHeartbeats 16000000 in
theorem msome_any (wb : World) (bT oT cT : Nat) (T : List Ty) (aR : Option Addr) (cR : Nat) (R : List Rt) (aP : Option Addr) (nP cP : Nat) (p : List Int) (bm : Nat) (t0 : Int) (hbm : wb.heap.size ≤ bm) (hS : Hid (OkS T R)) (hT : Hid (TRow wb (some ⟨bT, oT, none⟩) T)) (hpn : Hid (p.length = nP)) (hPr : Hid (Row .i64 wb aP p)) :
    ∀ (f : Nat) (s : Int) (st : List Int) (V : List Nv) (v : Value) (w : World), 1048577 - V.length ≤ f → Hid (RkI T t0 p (s :: st) V) → Hid (Below wb.heap.size wb w) → Hid (Blk w bm 91 [.slice (some ⟨bT, oT, none⟩) T.length cT, .slice aR R.length cR, .slice aP nP cP, v, .bool false]) → Hid (NOwn w wb.heap.size v V) →
      Calls Tryd.prog 48 #[.pointer (some ⟨bm, 0, none⟩), .int .i64 s] w fun e w' => e = .returned (.tuple #[]) ∧ Hid (MsTo T t0 p st wb.heap.size bm (.slice (some ⟨bT, oT, none⟩) T.length cT) (.slice aR R.length cR) (.slice aP nP cP) V v w w') := by
  intro f
  induction f with
  | zero =>
    intro s st V v w hf hRk hBw hK hO
    have := hRk.out.lenV
    omega
  | succ f ih =>
    intro s st V v w hf hRk hBw hK hO
    have hih := hide_ ih
    clear ih
    obtain ⟨aV, cV, hv, hVr⟩ := hO.out.row
    subst hv
    have c0 := hK.out.cell 0; have c1 := hK.out.cell 1; have c2 := hK.out.cell 2; have c3 := hK.out.cell 3; have c4 := hK.out.cell 4
    have cf := fun i => hK.out.frozen i
    simp at c0 c1 c2 c3 c4
    clear hVr
    by_cases hfull : 1048576 ≤ V.length
    · have HN := hide_ (hRk.out.full hfull)
      have hf' : (1048576 : Int) ≤ V.length := by omega
      have HK2 : Hid (Blk (w.setCell ⟨bm, 4, none⟩ (.bool true)) bm 91 [.slice (some ⟨bT, oT, none⟩) T.length cT, .slice aR R.length cR, .slice aP nP cP, .slice aV V.length cV, .bool true]) := hide_ (by have h := hK.out.set 4 (.bool true); simpa using h)
      have HU : Hid (Upd (fun k => k = bm ∨ (Value.slice aV V.length cV).ownBlock = some k) w (w.setCell ⟨bm, 4, none⟩ (.bool true))) := hide_ ((Upd.refl _ w).set ⟨bm, 4, none⟩ (.bool true) (.inl (.inl rfl)))
      have HO2 : Hid (NOwn (w.setCell ⟨bm, 4, none⟩ (.bool true)) wb.heap.size (.slice aV V.length cV) V) := hide_ (hO.out.upd ((Upd.refl (fun k => k = bm) w).set ⟨bm, 4, none⟩ (.bool true) (.inl rfl)) (fun k hk e => by subst e; exact hO.out.ne hK.out (by decide) hk))
      go_enter Tryd.func48, Tryd.ntmps48
      go_wp2
      refine bodyPost_ret (results_none rfl _ _ _) rfl ?_
      exact ⟨rfl, hide_ ⟨_, V, true, HK2.out, HO2.out, fun k hk => .inl hk, HU.out, .inl ⟨rfl, HN.out⟩⟩⟩
    · have hf' : ¬ (1048576 : Int) ≤ V.length := by omega
      have hVl : V.length < 1048576 := by omega
      obtain ⟨hs0, hs1, hfit, hrt, hnext⟩ := hRk.out.next hS.out hVl
      obtain ⟨sn, rfl⟩ := Int.eq_ofNat_of_zero_le hs0
      have hsl : sn < T.length := by omega
      have hsl' : (sn : Int) < T.length := hs1
      have hy : T[sn]? = some (T[sn]'hsl) := List.getElem?_eq_getElem hsl
      have hok := hS.out.ty sn hsl
      rw [Int.toNat_natCast] at hfit hrt hnext
      rw [show T.getD sn ty0 = T[sn]'hsl by simp [List.getD, hsl]] at hok hfit hrt hnext
      obtain ⟨_, _, e3, hbT, hcT⟩ := hT.out.open (by omega)
      injection e3 with e3
      injection e3 with e4 e5 _
      subst e4 e5
      obtain ⟨va, vc, hty, -, -, hpr⟩ := hcT sn _ hy
      generalize T[sn]'hsl = y at *
      obtain ⟨x, hx⟩ : ∃ x, pickP y (pickA p V.length) = x := ⟨_, rfl⟩
      rw [hx] at hfit hrt hnext
      have HX := hide_ hx
      have HFit := hide_ hfit
      have HRt := hide_ hrt
      have HNext := hide_ hnext
      have HPR := hide_ hpr
      have HOk := hide_ hok
      have hzb : wb.heap.size ≤ w.heap.size := hBw.out.size
      have hbw : bT < w.heap.size := Nat.lt_of_lt_of_le hbT hzb
      have HCT : Hid (∀ w', Below wb.heap.size wb w' → w'.cell? ⟨bT, oT + sn * 4, none⟩ = some (.int .i64 y.k) ∧ w'.cell? ⟨bT, oT + sn * 4 + 1, none⟩ = some (.int .i64 y.n) ∧ w'.cell? ⟨bT, oT + sn * 4 + 2, none⟩ = some (.int .i64 y.e) ∧ w'.cell? ⟨bT, oT + sn * 4 + 3, none⟩ = some (.slice va y.ps.length vc)) := hide_ (fun w' hB' => ⟨(hB'.cell (p := ⟨bT, oT + sn * 4 + 0, none⟩) hbT).trans (hty 0 (by decide)), (hB'.cell (p := ⟨bT, oT + sn * 4 + 1, none⟩) hbT).trans (hty 1 (by decide)), (hB'.cell (p := ⟨bT, oT + sn * 4 + 2, none⟩) hbT).trans (hty 2 (by decide)), (hB'.cell (p := ⟨bT, oT + sn * 4 + 3, none⟩) hbT).trans (hty 3 (by decide))⟩)
      clear hy hcT hty hpr hok hfit hrt hnext hx
      obtain ⟨pk, hpk⟩ : ∃ pk, pickA p V.length = pk := ⟨_, rfl⟩
      have hpk2 := pickA_in p V.length
      rw [hpk] at HX hpk2
      have HPk := hide_ hpk
      clear hpk
      go_enter Tryd.func48, Tryd.ntmps48
      go_upto_region 4 with fail
      have hpn' : p.length = nP := hpn.out
      go_quiet (fail)
      go_upto_if 32 with fail
      go_cut [4] from 32 to 45 (fun x4 wc => ∃ (w1 : World), x4 = .int .u64 pk ∧ w1 = wc ∧ Hid (Below w.heap.size w w1))
      case first =>
        have HBd : Hid (Below w.heap.size w (w.drewN nq)) := hide_ (below_drewN (Below.refl _ _) _)
        generalize w.drewN nq = wd at *
        by_cases hlt : V.length < nP
        · obtain ⟨bP, oP, rfl, hbP, hxP⟩ := hPr.out.open (by omega)
          have hcP := hxP V.length (by omega)
          have HQ : Hid (IntKind.u64.wrap (p.getD V.length 0) = pk) := hide_ (by rw [← HPk.out]; unfold pickA; rw [if_pos (by omega), wrapU])
          have hltI : (V.length : Int) < nP := by omega
          have HBwd : Hid (Below wb.heap.size wb wd) := hide_ (hBw.out.trans (HBd.out.mono hzb))
          generalize p.getD V.length 0 = q at *
          have HSS : Hid (∀ w', Below wd.heap.size wd w' → (fun w' => w'.cell? ⟨bm, 2, none⟩ = some (.slice (some ⟨bP, oP, none⟩) nP cP) ∧ w'.cell? ⟨bm, 3, none⟩ = some (.slice aV V.length cV) ∧ w'.cell? ⟨bP, oP + V.length, none⟩ = some (.int .i64 q)) w') := hide_ (fun w' hB' => ⟨by have h := ((hK.out.later HBd.out).later hB').cell 2; simpa using h, by have h := ((hK.out.later HBd.out).later hB').cell 3; simpa using h, ((HBwd.out.trans (hB'.mono HBwd.out.size)).cell (p := ⟨bP, oP + V.length, none⟩) hbP).trans hcP⟩)
          clear hxP hcP
          go_upto_region 5 with fail
          refine wp_region_last 12 (fun w' => w'.cell? ⟨bm, 2, none⟩ = some (.slice (some ⟨bP, oP, none⟩) nP cP) ∧ w'.cell? ⟨bm, 3, none⟩ = some (.slice aV V.length cV) ∧ w'.cell? ⟨bP, oP + V.length, none⟩ = some (.int .i64 q)) (by kernel_rfl) (HSS.out _ ((Below.refl wd.heap.size wd).drew)) (fun hHeld => ?_)
          refine wpAnyF_take [12] (by kernel_rfl) (i := 0) (v := ?va1) rfl (by kernel_rfl) (by kernel_rfl) (by kernel_rfl) (fun _ _ _ h => h) (Or.inl ⟨by kernel_rfl, ?hya1⟩) hHeld ?resta1
          case hya1 => intro w' hSw; (try dsimp only at hSw); go_simp; try with_reducible rfl
          simp only [Act.put]
          refine wpAnyF_take [12] (by kernel_rfl) (i := 1) (v := ?va2) rfl (by kernel_rfl) (by kernel_rfl) (by kernel_rfl) (fun _ _ _ h => h) (Or.inl ⟨by kernel_rfl, ?hya2⟩) hHeld ?resta2
          case hya2 => intro w' hSw; (try dsimp only at hSw); go_simp; try with_reducible rfl
          simp only [Act.put]
          refine wpAnyF_take [12] (by kernel_rfl) (i := 2) (v := ?va3) rfl (by kernel_rfl) (by kernel_rfl) (by kernel_rfl) (fun _ _ _ h => h) (Or.inl ⟨by kernel_rfl, ?hya3⟩) hHeld ?resta3
          case hya3 => intro w' hSw; (try dsimp only at hSw); go_simp; try with_reducible rfl
          simp only [Act.put]
          refine wpAnyF_take [12] (by kernel_rfl) (i := 3) (v := ?va4) rfl (by kernel_rfl) (by kernel_rfl) (by kernel_rfl) (fun _ _ _ h => h) (Or.inl ⟨by kernel_rfl, ?hya4⟩) hHeld ?resta4
          case hya4 => intro w' hSw; (try dsimp only at hSw); go_simp; try with_reducible rfl
          simp only [Act.put]
          refine wpAnyF_take [12] (by kernel_rfl) (i := 4) (v := ?va5) rfl (by kernel_rfl) (by kernel_rfl) (by kernel_rfl) (fun _ _ _ h => h) (Or.inl ⟨by kernel_rfl, ?hya5⟩) hHeld ?resta5
          case hya5 => intro w' hSw; (try dsimp only at hSw); go_simp; try with_reducible rfl
          simp only [Act.put]
          refine wpAnyF_take [12] (by kernel_rfl) (i := 5) (v := ?va6) rfl (by kernel_rfl) (by kernel_rfl) (by kernel_rfl) (fun _ _ _ h => h) (Or.inl ⟨by kernel_rfl, ?hya6⟩) hHeld ?resta6
          case hya6 => intro w' hSw; (try dsimp only at hSw); go_simp; try with_reducible rfl
          simp only [Act.put]
          refine wpAnyF_take [12] (by kernel_rfl) (i := 6) (v := ?va7) rfl (by kernel_rfl) (by kernel_rfl) (by kernel_rfl) (fun _ _ _ h => h) (Or.inl ⟨by kernel_rfl, ?hya7⟩) hHeld ?resta7
          case hya7 => intro w' hSw; (try dsimp only at hSw); go_simp; try with_reducible rfl
          simp only [Act.put]
          refine wpAnyF_take [12] (by kernel_rfl) (i := 7) (v := ?va8) rfl (by kernel_rfl) (by kernel_rfl) (by kernel_rfl) (fun _ _ _ h => h) (Or.inl ⟨by kernel_rfl, ?hya8⟩) hHeld ?resta8
          case hya8 => intro w' hSw; (try dsimp only at hSw); go_simp; try with_reducible rfl
          simp only [Act.put]
          refine wpAnyF_take [12] (by kernel_rfl) (i := 8) (v := ?va9) rfl (by kernel_rfl) (by kernel_rfl) (by kernel_rfl) (fun _ _ _ h => h) (Or.inl ⟨by kernel_rfl, ?hya9⟩) hHeld ?resta9
          case hya9 => intro w' hSw; (try dsimp only at hSw); go_simp; try with_reducible rfl
          simp only [Act.put]
          refine wpAnyF_take [12] (by kernel_rfl) (i := 9) (v := ?va10) rfl (by kernel_rfl) (by kernel_rfl) (by kernel_rfl) (fun _ _ _ h => h) (Or.inl ⟨by kernel_rfl, ?hya10⟩) hHeld ?resta10
          case hya10 => intro w' hSw; (try dsimp only at hSw); go_simp; try with_reducible rfl
          simp only [Act.put]
          refine wpAnyF_take [12] (by kernel_rfl) (i := 10) (v := ?va11) rfl (by kernel_rfl) (by kernel_rfl) (by kernel_rfl) (fun _ _ _ h => h) (Or.inl ⟨by kernel_rfl, ?hya11⟩) hHeld ?resta11
          case hya11 => intro w' hSw; (try dsimp only at hSw); go_simp; try with_reducible rfl
          simp only [Act.put]
          refine wpAnyF_take [12] (by kernel_rfl) (i := 11) (v := ?va12) rfl (by kernel_rfl) (by kernel_rfl) (by kernel_rfl) (fun _ _ _ h => h) (Or.inl ⟨by kernel_rfl, ?hya12⟩) hHeld ?resta12
          case hya12 => intro w' hSw; (try dsimp only at hSw); go_simp; try with_reducible rfl
          simp only [Act.put]
          refine wpAnyF_ready (rs := [12]) (by kernel_rfl) (by simp) ?_
          refine AllReadyF.last rfl (fun K hK => ?_)
          go_simp
          refine hK.out _ _ ?_
          clear hK K
          refine wpAnyF_done (by kernel_rfl) ?_ _
          go_wp2
          go_meet
          case rel => exact ⟨_, by rw [HQ.out], rfl, hide_ (by have h := HBd.out; exact ⟨h.os, h.tape, h.output, h.size, h.block⟩)⟩
        · have HQ : Hid (pk = 0) := hide_ (by rw [← HPk.out]; unfold pickA; rw [if_neg (by omega)])
          go_wp2
          go_meet
          case rel => exact ⟨_, by rw [HQ.out], rfl, HBd⟩
      case rest =>
        obtain ⟨w1, rfl, rfl, HB1⟩ := hcut
        have HBw1 : Hid (Below wb.heap.size wb w1) := hide_ (hBw.out.trans (HB1.out.mono hzb))
        have HK1 := hide_ (hK.out.later HB1.out)
        have HO1 := hide_ (hO.out.later HB1.out)
        have hz1 : w.heap.size ≤ w1.heap.size := HB1.out.size
        clear c0 c1 c2 c3 c4 cf
        have c0 := HK1.out.cell 0
        simp at c0
        obtain ⟨t0c, t1c, t2c, t3c⟩ := HCT.out w1 HBw1.out
        have hbw1 : bT < w1.heap.size := by omega
        obtain ⟨w3, hw3⟩ : ∃ wx, wx = (w1.alloc (.cells #[.int .i64 y.k, .int .i64 y.n, .int .i64 y.e, .slice va y.ps.length vc] 64)).alloc (.cells #[.int .i64 0, .int .u64 0, .int .i64 0] 49) := ⟨_, rfl⟩
        have b3 : Below w1.heap.size w1 w3 := by rw [hw3]; exact below2 _ _ _
        obtain ⟨k5, k6⟩ := blk2 w1 #[.int .i64 y.k, .int .i64 y.n, .int .i64 y.e, .slice va y.ps.length vc] #[.int .i64 0, .int .u64 0, .int .i64 0] 64 49
        rw [← hw3] at k5 k6
        have KY := hide_ k5
        have KN := hide_ k6
        have HB3 := hide_ b3
        clear k5 k6 b3
        have HW : Hid (∀ (a b c : Value) (w4 : World), w4 = ((w3.setCell ⟨w1.heap.size + 1, 0, none⟩ a).setCell ⟨w1.heap.size + 1, 1, none⟩ b).setCell ⟨w1.heap.size + 1, 2, none⟩ c → Blk w4 w1.heap.size 64 [.int .i64 y.k, .int .i64 y.n, .int .i64 y.e, .slice va y.ps.length vc] ∧ Blk w4 (w1.heap.size + 1) 49 [a, b, c] ∧ Below w1.heap.size w1 w4) := hide_ (fun a b c w4 h => by
          subst h
          exact ⟨((KY.out.other _ _ (by show w1.heap.size ≠ w1.heap.size + 1; omega)).other _ _ (by show w1.heap.size ≠ w1.heap.size + 1; omega)).other _ _ (by show w1.heap.size ≠ w1.heap.size + 1; omega), wr3 KN.out a b c, below_wr3 HB3.out _ (by omega) a b c⟩)
        go_upto_region 8 with fail
        rw [← hw3]
        clear hw3 t0c t1c t2c t3c c0
        have i0 := KY.out.cell 0; have i1 := KY.out.cell 1; have i2 := KY.out.cell 2; have i3 := KY.out.cell 3
        have j0 := KN.out.cell 0; have j1 := KN.out.cell 1; have j2 := KN.out.cell 2
        have jf := fun i => KN.out.frozen i
        simp at i0 i1 i2 i3 j0 j1 j2
        go_upto_block 0 with fail
        go_cut [7] from 55 to 119 (fun x7 wc => ∃ (w4 : World), w4 = wc ∧ Hid (Blk w4 w1.heap.size 64 [.int .i64 y.k, .int .i64 y.n, .int .i64 y.e, .slice va y.ps.length vc] ∧ Blk w4 (w1.heap.size + 1) 49 (nvc x) ∧ Below w1.heap.size w1 w4))
        case first =>
          clear HNext HFit HRt HCT hih hRk hbw1 hbw hBw HB1 HO1 hO hPr hpn hK HK1 hS hT HPk
          obtain ⟨yk, yn, ye, yps⟩ := y
          dsimp only at *
          have hk := tyOk_kind HOk.out
          dsimp only at hk
          rcases hk with rfl | rfl | rfl | rfl | rfl | rfl | rfl | rfl
          · have hn : yn = 1 ∨ yn = 2 ∨ yn = 4 ∨ yn = 8 := by
              have h1 := (tyOk_parts HOk.out).1
              simp only [nOk] at h1
              have h2 := of_decide_eq_true h1
              omega
            rcases hn with rfl | rfl | rfl | rfl
            · have HX1 : Hid (nvc x = [.int .i64 1, .int .u64 (pk % 256), .int .i64 0]) := hide_ (by rw [← HX.out]; rfl)
              obtain ⟨e1, e2, e3⟩ := HW.out (.int .i64 1) (.int .u64 pk) (.int .i64 0) _ rfl
              have E1 := hide_ (e1.other ⟨w1.heap.size + 1, 1, none⟩ (.int .u64 (pk % 256)) (by show w1.heap.size ≠ w1.heap.size + 1; omega))
              have E2 : Hid (Blk _ (w1.heap.size + 1) 49 [.int .i64 1, .int .u64 (pk % 256), .int .i64 0]) := hide_ (by have h := e2.set 1 (.int .u64 (pk % 256)); simpa using h)
              have E3 := hide_ (below_set e3 (w1.heap.size + 1) 1 (.int .u64 (pk % 256)) (by omega))
              clear e1 e2 e3
              go_wp2
              go_meet
              case rel => exact ⟨_, rfl, hide_ (by rw [HX1.out]; exact ⟨E1.out, E2.out, E3.out⟩)⟩
            · have HX1 : Hid (nvc x = [.int .i64 1, .int .u64 (pk % 65536), .int .i64 0]) := hide_ (by rw [← HX.out]; rfl)
              obtain ⟨e1, e2, e3⟩ := HW.out (.int .i64 1) (.int .u64 pk) (.int .i64 0) _ rfl
              have E1 := hide_ (e1.other ⟨w1.heap.size + 1, 1, none⟩ (.int .u64 (pk % 65536)) (by show w1.heap.size ≠ w1.heap.size + 1; omega))
              have E2 : Hid (Blk _ (w1.heap.size + 1) 49 [.int .i64 1, .int .u64 (pk % 65536), .int .i64 0]) := hide_ (by have h := e2.set 1 (.int .u64 (pk % 65536)); simpa using h)
              have E3 := hide_ (below_set e3 (w1.heap.size + 1) 1 (.int .u64 (pk % 65536)) (by omega))
              clear e1 e2 e3
              go_wp2
              go_meet
              case rel => exact ⟨_, rfl, hide_ (by rw [HX1.out]; exact ⟨E1.out, E2.out, E3.out⟩)⟩
            · have HX1 : Hid (nvc x = [.int .i64 1, .int .u64 (pk % 4294967296), .int .i64 0]) := hide_ (by rw [← HX.out]; rfl)
              obtain ⟨e1, e2, e3⟩ := HW.out (.int .i64 1) (.int .u64 pk) (.int .i64 0) _ rfl
              have E1 := hide_ (e1.other ⟨w1.heap.size + 1, 1, none⟩ (.int .u64 (pk % 4294967296)) (by show w1.heap.size ≠ w1.heap.size + 1; omega))
              have E2 : Hid (Blk _ (w1.heap.size + 1) 49 [.int .i64 1, .int .u64 (pk % 4294967296), .int .i64 0]) := hide_ (by have h := e2.set 1 (.int .u64 (pk % 4294967296)); simpa using h)
              have E3 := hide_ (below_set e3 (w1.heap.size + 1) 1 (.int .u64 (pk % 4294967296)) (by omega))
              clear e1 e2 e3
              go_wp2
              go_meet
              case rel => exact ⟨_, rfl, hide_ (by rw [HX1.out]; exact ⟨E1.out, E2.out, E3.out⟩)⟩
            · have HX1 : Hid (nvc x = [.int .i64 1, .int .u64 pk, .int .i64 0]) := hide_ (by rw [← HX.out]; show [Value.int .i64 1, .int .u64 (pk % 18446744073709551616), .int .i64 0] = _; rw [Int.emod_eq_of_lt hpk2.1 hpk2.2])
              go_wp2
              go_meet
              case rel => exact ⟨_, rfl, hide_ (by rw [HX1.out]; exact HW.out _ _ _ _ rfl)⟩
          · go_wp2
            go_meet
            case rel => exact ⟨_, rfl, hide_ (by rw [← HX.out]; exact HW.out _ _ _ _ rfl)⟩
          · go_wp2
            go_meet
            case rel => exact ⟨_, rfl, hide_ (by rw [← HX.out]; exact HW.out _ _ _ _ rfl)⟩
          · go_wp2
            go_meet
            case rel => exact ⟨_, rfl, hide_ (by rw [← HX.out]; exact HW.out _ _ _ _ rfl)⟩
          · have hn : 1 ≤ yn ∧ yn ≤ 1048576 := by
              have h1 := (tyOk_parts HOk.out).1
              simp only [nOk] at h1
              have h2 := of_decide_eq_true h1
              omega
            have hm : Int.tmod pk (yn + 1) = pk % (yn + 1) := Int.tmod_eq_emod_of_nonneg hpk2.1
            have hz : (yn + 1 == 0) = false := by simp; omega
            have hlt1 : 0 ≤ pk % (yn + 1) := Int.emod_nonneg _ (by omega)
            have hlt2 : pk % (yn + 1) < yn + 1 := Int.emod_lt_of_pos _ (by omega)
            have hw1 : wrap64 (yn + 1) = yn + 1 := w64 _ (by omega)
            have hu : IntKind.u64.wrap (yn + 1) = yn + 1 := by rw [IntKind.wrap_u64]; omega
            go_wp2
            go_meet
            case rel => exact ⟨_, rfl, hide_ (by rw [← HX.out]; exact HW.out _ _ _ _ rfl)⟩
          · have hlt1 : 0 ≤ pk % 2 := Int.emod_nonneg _ (by omega)
            have hlt2 : pk % 2 < 2 := Int.emod_lt_of_pos _ (by omega)
            go_wp2
            go_meet
            case rel => exact ⟨_, rfl, hide_ (by rw [← HX.out]; exact HW.out _ _ _ _ rfl)⟩
          · have hL0 : 0 < yps.length := tyOk_some HOk.out (.inl rfl)
            have hL1 := tyOk_len HOk.out
            dsimp only at hL1
            obtain ⟨bq, oq, rfl, hbq, hcq⟩ := HPR.out.open hL0
            have hlt1 : 0 ≤ pk % (yps.length : Int) := Int.emod_nonneg _ (by omega)
            have hlt2 : pk % (yps.length : Int) < yps.length := Int.emod_lt_of_pos _ (by omega)
            have hm : Int.tmod pk (yps.length : Int) = pk % (yps.length : Int) := Int.tmod_eq_emod_of_nonneg hpk2.1
            have hX7 : pickP ⟨7, yn, ye, yps⟩ pk = ⟨6, (yps.getD (pk % (yps.length : Int)).toNat pt0).tag, 1⟩ := by simp [pickP]
            obtain ⟨m, hmm⟩ := Int.eq_ofNat_of_zero_le hlt1
            have hml : m < yps.length := by omega
            have hxq : yps[m]? = some (yps[m]'hml) := List.getElem?_eq_getElem hml
            have hxe : yps.getD m pt0 = yps[m]'hml := by simp [List.getD, hml]
            have a0 := hcq m _ hxq 0 (by decide); have a1 := hcq m _ hxq 1 (by decide); have a2 := hcq m _ hxq 2 (by decide)
            simp only [ptc, List.getElem?_cons_succ, List.getElem?_cons_zero] at a0 a1 a2
            have htm := tyOk_tags HOk.out _ (List.getElem_mem hml)
            rw [hmm, Int.toNat_natCast, hxe] at hX7
            rw [hmm] at hm
            have HX7 : Hid (nvc x = [.int .i64 6, .int .u64 (yps[m]'hml).tag, .int .i64 1]) := hide_ (by rw [← HX.out, hX7]; rfl)
            generalize (yps[m]'hml).tag = tg at *
            generalize (yps[m]'hml).label = lb at *
            generalize (yps[m]'hml).ty = pty at *
            have hu : IntKind.u64.wrap (yps.length : Int) = (yps.length : Int) := by rw [IntKind.wrap_u64]; omega
            have hut : IntKind.u64.wrap tg = tg := by rw [IntKind.wrap_u64]; omega
            have hz : ((yps.length : Int) == 0) = false := by simp; intro h; rw [h] at hL0; simp at hL0
            have hml' : (m : Int) < yps.length := by omega
            have hne : ¬ yps = [] := fun h => by rw [h] at hL0; simp at hL0
            have HSS : Hid (∀ w', Below w3.heap.size w3 w' → (fun w' => w'.cell? ⟨w1.heap.size, 3, none⟩ = some (.slice (some ⟨bq, oq, none⟩) yps.length vc) ∧ w'.cell? ⟨bq, oq + m * 3, none⟩ = some (.string lb) ∧ w'.cell? ⟨bq, oq + m * 3 + 1, none⟩ = some (.int .i64 tg) ∧ w'.cell? ⟨bq, oq + m * 3 + 2, none⟩ = some (.int .i64 pty)) w') := hide_ (fun w' hB' => ⟨by have h := (KY.out.later hB').cell 3; simpa using h, (((HBw1.out.trans (HB3.out.mono HBw1.out.size)).trans (hB'.mono (Nat.le_trans HBw1.out.size HB3.out.size))).cell (p := ⟨bq, oq + m * 3 + 0, none⟩) hbq).trans a0, (((HBw1.out.trans (HB3.out.mono HBw1.out.size)).trans (hB'.mono (Nat.le_trans HBw1.out.size HB3.out.size))).cell (p := ⟨bq, oq + m * 3 + 1, none⟩) hbq).trans a1, (((HBw1.out.trans (HB3.out.mono HBw1.out.size)).trans (hB'.mono (Nat.le_trans HBw1.out.size HB3.out.size))).cell (p := ⟨bq, oq + m * 3 + 2, none⟩) hbq).trans a2⟩)
            clear hcq hxq hxe a0 a1 a2 hX7 hmm hlt1 hlt2 HOk HPR
            go_upto_region 25 with fail
            refine wp_region_last 11 (fun w' => w'.cell? ⟨w1.heap.size, 3, none⟩ = some (.slice (some ⟨bq, oq, none⟩) yps.length vc) ∧ w'.cell? ⟨bq, oq + m * 3, none⟩ = some (.string lb) ∧ w'.cell? ⟨bq, oq + m * 3 + 1, none⟩ = some (.int .i64 tg) ∧ w'.cell? ⟨bq, oq + m * 3 + 2, none⟩ = some (.int .i64 pty)) (by kernel_rfl) (HSS.out _ ((Below.refl w3.heap.size w3).drew)) (fun hHeld => ?_)
            refine wpAnyF_take [11] (by kernel_rfl) (i := 0) (v := ?vb1) rfl (by kernel_rfl) (by kernel_rfl) (by kernel_rfl) (fun _ _ _ h => h) (Or.inl ⟨by kernel_rfl, ?hyb1⟩) hHeld ?restb1
            case hyb1 => intro w' hSw; (try dsimp only at hSw); go_simp; try with_reducible rfl
            simp only [Act.put]
            refine wpAnyF_take [11] (by kernel_rfl) (i := 1) (v := ?vb2) rfl (by kernel_rfl) (by kernel_rfl) (by kernel_rfl) (fun _ _ _ h => h) (Or.inl ⟨by kernel_rfl, ?hyb2⟩) hHeld ?restb2
            case hyb2 => intro w' hSw; (try dsimp only at hSw); go_simp; try with_reducible rfl
            simp only [Act.put]
            refine wpAnyF_take [11] (by kernel_rfl) (i := 2) (v := ?vb3) rfl (by kernel_rfl) (by kernel_rfl) (by kernel_rfl) (fun _ _ _ h => h) (Or.inl ⟨by kernel_rfl, ?hyb3⟩) hHeld ?restb3
            case hyb3 => intro w' hSw; (try dsimp only at hSw); go_simp; try with_reducible rfl
            simp only [Act.put]
            refine wpAnyF_take [11] (by kernel_rfl) (i := 3) (v := ?vb4) rfl (by kernel_rfl) (by kernel_rfl) (by kernel_rfl) (fun _ _ _ h => h) (Or.inl ⟨by kernel_rfl, ?hyb4⟩) hHeld ?restb4
            case hyb4 => intro w' hSw; (try dsimp only at hSw); go_simp; try with_reducible rfl
            simp only [Act.put]
            refine wpAnyF_take [11] (by kernel_rfl) (i := 4) (v := ?vb5) rfl (by kernel_rfl) (by kernel_rfl) (by kernel_rfl) (fun _ _ _ h => h) (Or.inl ⟨by kernel_rfl, ?hyb5⟩) hHeld ?restb5
            case hyb5 => intro w' hSw; (try dsimp only at hSw); go_simp; try with_reducible rfl
            simp only [Act.put]
            refine wpAnyF_take [11] (by kernel_rfl) (i := 5) (v := ?vb6) rfl (by kernel_rfl) (by kernel_rfl) (by kernel_rfl) (fun _ _ _ h => h) (Or.inl ⟨by kernel_rfl, ?hyb6⟩) hHeld ?restb6
            case hyb6 => intro w' hSw; (try dsimp only at hSw); go_simp; try with_reducible rfl
            simp only [Act.put]
            refine wpAnyF_take [11] (by kernel_rfl) (i := 6) (v := ?vb7) rfl (by kernel_rfl) (by kernel_rfl) (by kernel_rfl) (fun _ _ _ h => h) (Or.inl ⟨by kernel_rfl, ?hyb7⟩) hHeld ?restb7
            case hyb7 => intro w' hSw; (try dsimp only at hSw); go_simp; try with_reducible rfl
            simp only [Act.put]
            refine wpAnyF_take [11] (by kernel_rfl) (i := 7) (v := ?vb8) rfl (by kernel_rfl) (by kernel_rfl) (by kernel_rfl) (fun _ _ _ h => h) (Or.inl ⟨by kernel_rfl, ?hyb8⟩) hHeld ?restb8
            case hyb8 => intro w' hSw; (try dsimp only at hSw); go_simp; try with_reducible rfl
            simp only [Act.put]
            refine wpAnyF_take [11] (by kernel_rfl) (i := 8) (v := ?vb9) rfl (by kernel_rfl) (by kernel_rfl) (by kernel_rfl) (fun _ _ _ h => h) (Or.inl ⟨by kernel_rfl, ?hyb9⟩) hHeld ?restb9
            case hyb9 => intro w' hSw; (try dsimp only at hSw); go_simp; try with_reducible rfl
            simp only [Act.put]
            refine wpAnyF_take [11] (by kernel_rfl) (i := 9) (v := ?vb10) rfl (by kernel_rfl) (by kernel_rfl) (by kernel_rfl) (fun _ _ _ h => h) (Or.inl ⟨by kernel_rfl, ?hyb10⟩) hHeld ?restb10
            case hyb10 => intro w' hSw; (try dsimp only at hSw); go_simp; try with_reducible rfl
            simp only [Act.put]
            refine wpAnyF_ready (rs := [10]) (by kernel_rfl) (by simp) ?_
            refine AllReadyF.cons rfl (fun K hK => ?_) AllReadyF.nil
            go_simp
            refine hK.out _ _ (HSS.out _ (below_to ((Below.refl _ _).drew) (below1 _ _))) (fun hHeld => ?_)
            clear hK K
            refine wpAnyF_ready (rs := [11]) (by kernel_rfl) (by simp) ?_
            refine AllReadyF.last rfl (fun K hK => ?_)
            go_simp
            refine hK.out _ _ ?_
            clear hK K
            refine wpAnyF_done (by kernel_rfl) ?_ _
            obtain ⟨w5, hw5⟩ : ∃ wx, wx = (w3.alloc (.cells #[.string lb, .int .i64 tg, .int .i64 pty] 67)).drew := ⟨_, rfl⟩
            have b5 : Below w3.heap.size w3 w5 := by rw [hw5]; exact (below1 _ _).drew
            have ka : Blk w5 w3.heap.size 67 [.string lb, .int .i64 tg, .int .i64 pty] := by rw [hw5]; exact Blk.newA w3 #[.string lb, .int .i64 tg, .int .i64 pty] 67
            have KY5 := hide_ (KY.out.later b5)
            have KN5 := hide_ (KN.out.later b5)
            have HB5 := hide_ (below_to HB3.out b5)
            rw [← hw5]
            clear hw5 b5 HSS i0 i1 i2 i3 j0 j1 j2 jf
            have l0 := ka.cell 0; have l1 := ka.cell 1; have l2 := ka.cell 2
            have j0 := KN5.out.cell 0; have j1 := KN5.out.cell 1; have j2 := KN5.out.cell 2
            have jf := fun i => KN5.out.frozen i
            simp at l0 l1 l2 j0 j1 j2
            go_wp2
            go_meet
            case rel => exact ⟨_, rfl, hide_ (by rw [HX7.out]; exact ⟨((KY5.out.other _ _ (by show w1.heap.size ≠ w1.heap.size + 1; omega)).other _ _ (by show w1.heap.size ≠ w1.heap.size + 1; omega)).other _ _ (by show w1.heap.size ≠ w1.heap.size + 1; omega), wr3 KN5.out _ _ _, below_wr3 HB5.out _ (by omega) _ _ _⟩)⟩
          · go_wp2
            go_meet
            case rel => exact ⟨_, rfl, hide_ (by rw [← HX.out]; exact HW.out _ _ _ _ rfl)⟩
        case rest =>
          obtain ⟨w4, rfl, H4⟩ := hcut
          obtain ⟨ky4, kn4, hb4⟩ := H4.out
          have KY4 := hide_ ky4
          have KN4 := hide_ kn4
          have HB4 := hide_ hb4
          have hz4 : w1.heap.size + 1 < w4.heap.size := kn4.lt
          have HBw4 : Hid (Below wb.heap.size wb w4) := hide_ (HBw1.out.trans (hb4.mono HBw1.out.size))
          have HK4 := hide_ (HK1.out.later hb4)
          have HO4 := hide_ (HO1.out.later hb4)
          have HBd : Hid (Below w4.heap.size w4 w4.drew) := hide_ ((Below.refl _ _).drew)
          obtain ⟨gn, cn, w6, hrun, ho6, hu6, hg6⟩ := (HO4.out.later HBd.out).push x (by omega) HBw4.out.size
          have HRun : Hid ((Builtin.append_ #[31, 31] 31 #[.slice aV V.length cV, .slice (some ⟨w4.heap.size, 0, none⟩) 1 1]).run Tryd.prog (w4.drew.alloc (.cells #[.int .i64 x.k, .int .u64 x.n, .int .i64 x.kids] 49)) = .ok (.slice (some ⟨gn, 0, none⟩) (V.length + 1) cn) w6) := hide_ hrun
          have hn6 : ¬ (Value.slice aV V.length cV).ownBlock = some (w1.heap.size + 1) := fun e => by have := (World.ownsRow.lt HO1.out _ e).2; omega
          have HK6 := hide_ ((HK4.out.later HBd.out).upd hu6 ((HO4.out.later HBd.out).ne (HK4.out.later HBd.out) (by decide)))
          have HY6 := hide_ ((KY4.out.later HBd.out).upd hu6 ((HO4.out.later HBd.out).ne (KY4.out.later HBd.out) (by decide)))
          have HN6 := hide_ ((KN4.out.later HBd.out).upd hu6 hn6)
          have HO6 := hide_ ho6
          have HU6 : Hid (Upd (fun k => k = bm ∨ (Value.slice aV V.length cV).ownBlock = some k) w w6) := hide_ ((((Upd.of_below HB1.out).then HB4.out).then HBd.out).to (hu6.mono (fun _ _ h => .inr h)))
          have HSS : Hid (∀ w', Blk w' bm 91 [.slice (some ⟨bT, oT, none⟩) T.length cT, .slice aR R.length cR, .slice aP nP cP, .slice aV V.length cV, .bool false] → Blk w' (w1.heap.size + 1) 49 (nvc x) → (fun w' => w'.cell? ⟨bm, 3, none⟩ = some (.slice aV V.length cV) ∧ w'.cell? ⟨w1.heap.size + 1, 0, none⟩ = some (.int .i64 x.k) ∧ w'.cell? ⟨w1.heap.size + 1, 1, none⟩ = some (.int .u64 x.n) ∧ w'.cell? ⟨w1.heap.size + 1, 2, none⟩ = some (.int .i64 x.kids)) w') := hide_ (fun w' k1 k2 => ⟨by have h := k1.cell 3; simpa using h, k2.cell 0, k2.cell 1, k2.cell 2⟩)
          have HBa : Hid (∀ ob, Below w4.heap.size w4 (w4.drew.alloc ob)) := hide_ (fun ob => below_to ((Below.refl _ _).drew) (below1 _ _))
          have HLi : Hid (∀ b, (Value.slice (some ⟨gn, 0, none⟩) (V.length + 1) cn).ownBlock = some b → (Value.slice aV V.length cV).ownBlock = some b ∨ w.heap.size ≤ b) := hide_ (fun b hb => by
            have := own_is hb
            subst this
            rcases hg6 with h | h
            · exact .inl h
            · exact .inr (by have h : w4.heap.size ≤ _ := h; omega))
          have HNg : Hid (¬ (Value.slice (some ⟨gn, 0, none⟩) (V.length + 1) cn).ownBlock = some (w1.heap.size + 1)) := hide_ (fun e => by
            have := own_is e
            subst this
            rcases hg6 with h | h
            · exact hn6 h
            · have h : w4.heap.size ≤ w1.heap.size + 1 := h
              omega)
          clear hrun ho6 hu6 hg6 hn6 ky4 kn4 hb4 H4 HW KY KN i0 i1 i2 i3 j0 j1 j2 jf HBw1 HK1 HO1 HCT
          have HBw0 := hBw
          go_upto_region 27 with fail
          refine wp_region_last 10 (fun w' => w'.cell? ⟨bm, 3, none⟩ = some (.slice aV V.length cV) ∧ w'.cell? ⟨w1.heap.size + 1, 0, none⟩ = some (.int .i64 x.k) ∧ w'.cell? ⟨w1.heap.size + 1, 1, none⟩ = some (.int .u64 x.n) ∧ w'.cell? ⟨w1.heap.size + 1, 2, none⟩ = some (.int .i64 x.kids)) (by kernel_rfl) (HSS.out _ (HK4.out.later HBd.out) (KN4.out.later HBd.out)) (fun hHeld => ?_)
          refine wpAnyF_take [10] (by kernel_rfl) (i := 0) (v := ?vc1) rfl (by kernel_rfl) (by kernel_rfl) (by kernel_rfl) (fun _ _ _ h => h) (Or.inl ⟨by kernel_rfl, ?hyc1⟩) hHeld ?restc1
          case hyc1 => intro w' hSw; (try dsimp only at hSw); go_simp; try with_reducible rfl
          simp only [Act.put]
          refine wpAnyF_take [10] (by kernel_rfl) (i := 1) (v := ?vc2) rfl (by kernel_rfl) (by kernel_rfl) (by kernel_rfl) (fun _ _ _ h => h) (Or.inl ⟨by kernel_rfl, ?hyc2⟩) hHeld ?restc2
          case hyc2 => intro w' hSw; (try dsimp only at hSw); go_simp; try with_reducible rfl
          simp only [Act.put]
          refine wpAnyF_take [10] (by kernel_rfl) (i := 2) (v := ?vc3) rfl (by kernel_rfl) (by kernel_rfl) (by kernel_rfl) (fun _ _ _ h => h) (Or.inl ⟨by kernel_rfl, ?hyc3⟩) hHeld ?restc3
          case hyc3 => intro w' hSw; (try dsimp only at hSw); go_simp; try with_reducible rfl
          simp only [Act.put]
          refine wpAnyF_take [10] (by kernel_rfl) (i := 3) (v := ?vc4) rfl (by kernel_rfl) (by kernel_rfl) (by kernel_rfl) (fun _ _ _ h => h) (Or.inl ⟨by kernel_rfl, ?hyc4⟩) hHeld ?restc4
          case hyc4 => intro w' hSw; (try dsimp only at hSw); go_simp; try with_reducible rfl
          simp only [Act.put]
          refine wpAnyF_take [10] (by kernel_rfl) (i := 4) (v := ?vc5) rfl (by kernel_rfl) (by kernel_rfl) (by kernel_rfl) (fun _ _ _ h => h) (Or.inl ⟨by kernel_rfl, ?hyc5⟩) hHeld ?restc5
          case hyc5 => intro w' hSw; (try dsimp only at hSw); go_simp; try with_reducible rfl
          simp only [Act.put]
          refine wpAnyF_take [10] (by kernel_rfl) (i := 5) (v := ?vc6) rfl (by kernel_rfl) (by kernel_rfl) (by kernel_rfl) (fun _ _ _ h => h) (Or.inl ⟨by kernel_rfl, ?hyc6⟩) hHeld ?restc6
          case hyc6 => intro w' hSw; (try dsimp only at hSw); go_simp; try with_reducible rfl
          simp only [Act.put]
          refine wpAnyF_ready (rs := [6]) (by kernel_rfl) (by simp) ?_
          refine AllReadyF.cons rfl (fun K hK => ?_) AllReadyF.nil
          go_simp
          refine hK.out _ _ (HSS.out _ (HK4.out.later (HBa.out _)) (KN4.out.later (HBa.out _))) (fun hHeld => ?_)
          clear hK K
          refine wpAnyF_ready (rs := [7]) (by kernel_rfl) (by simp) ?_
          refine AllReadyF.cons rfl (fun K hK => ?_) AllReadyF.nil
          refine step_append_run rfl (.tmp 123) (.tmp 125) 31 31 rfl rfl rfl HRun.out ?_
          refine hK.out _ _ (HSS.out _ HK6.out HN6.out) (fun hHeld => ?_)
          clear hK K
          refine wpAnyF_take [10, 9] (by kernel_rfl) (i := 8) (v := ?vc7) rfl (by kernel_rfl) (by kernel_rfl) (by kernel_rfl) (fun _ _ _ h => h) (Or.inl ⟨by kernel_rfl, ?hyc7⟩) hHeld ?restc7
          case hyc7 => intro w' hSw; (try dsimp only at hSw); go_simp; try with_reducible rfl
          simp only [Act.put]
          refine wpAnyF_take [10] (by kernel_rfl) (i := 9) (v := ?vc8) rfl (by kernel_rfl) (by kernel_rfl) (by kernel_rfl) (fun _ _ _ h => h) (Or.inl ⟨by kernel_rfl, ?hyc8⟩) hHeld ?restc8
          case hyc8 => intro w' hSw; (try dsimp only at hSw); go_simp; try with_reducible rfl
          simp only [Act.put]
          refine wpAnyF_ready (rs := [10]) (by kernel_rfl) (by simp) ?_
          refine AllReadyF.last rfl (fun K hK => ?_)
          have l3 := HK6.out.cell 3
          have lf := fun i => HK6.out.frozen i
          simp at l3
          go_simp
          refine hK.out _ _ ?_
          clear hK K
          refine wpAnyF_done (by kernel_rfl) ?_ _
          have HK7 : Hid (Blk (w6.setCell ⟨bm, 3, none⟩ (.slice (some ⟨gn, 0, none⟩) (V.length + 1) cn)) bm 91 [.slice (some ⟨bT, oT, none⟩) T.length cT, .slice aR R.length cR, .slice aP nP cP, .slice (some ⟨gn, 0, none⟩) (V.length + 1) cn, .bool false]) := hide_ (by have h := HK6.out.set 3 (.slice (some ⟨gn, 0, none⟩) (V.length + 1) cn); simpa using h)
          have hbm1 : bm < w1.heap.size := Nat.lt_of_lt_of_le hK.out.lt hz1
          have HY7 := hide_ (HY6.out.other ⟨bm, 3, none⟩ (.slice (some ⟨gn, 0, none⟩) (V.length + 1) cn) (by show w1.heap.size ≠ bm; omega))
          have HN7 := hide_ (HN6.out.other ⟨bm, 3, none⟩ (.slice (some ⟨gn, 0, none⟩) (V.length + 1) cn) (by show w1.heap.size + 1 ≠ bm; omega))
          have HU7 := hide_ (HU6.out.set ⟨bm, 3, none⟩ (.slice (some ⟨gn, 0, none⟩) (V.length + 1) cn) (.inl (.inl rfl)))
          have HO7 : Hid (NOwn (w6.setCell ⟨bm, 3, none⟩ (.slice (some ⟨gn, 0, none⟩) (V.length + 1) cn)) wb.heap.size (.slice (some ⟨gn, 0, none⟩) (V.length + 1) cn) (V ++ [x])) := hide_ (HO6.out.upd ((Upd.refl (fun k => k = bm) w6).set ⟨bm, 3, none⟩ (.slice (some ⟨gn, 0, none⟩) (V.length + 1) cn) (.inl rfl)) (fun k hk e => by subst e; exact HO6.out.ne HK6.out (by decide) hk))
          clear HSS HBa HRun l3 lf hHeld HK6 HY6 HN6 HU6 HO6
          generalize w6.setCell ⟨bm, 3, none⟩ (.slice (some ⟨gn, 0, none⟩) (V.length + 1) cn) = w7 at *
          go_wp2_with fail
          go_loopw [8] (fun x8 wr => ∃ (k : Nat) (v1 : Value) (V1 : List Nv) (many : Bool), x8 = .int .i64 (k : Int) ∧ (k : Int) ≤ x.kids ∧ Hid (Blk wr bm 91 [.slice (some ⟨bT, oT, none⟩) T.length cT, .slice aR R.length cR, .slice aP nP cP, v1, .bool many]) ∧ Hid (NOwn wr wb.heap.size v1 V1) ∧ Hid (∀ b, v1.ownBlock = some b → (Value.slice aV V.length cV).ownBlock = some b ∨ w.heap.size ≤ b) ∧ Hid (¬ v1.ownBlock = some (w1.heap.size + 1)) ∧ Hid (Upd (fun k => k = bm ∨ (Value.slice aV V.length cV).ownBlock = some k) w wr) ∧ Hid (Blk wr w1.heap.size 64 [.int .i64 y.k, .int .i64 y.n, .int .i64 y.e, .slice va y.ps.length vc]) ∧ Hid (Blk wr (w1.heap.size + 1) 49 (nvc x)) ∧ Hid ((many = true ∧ mkT T p 1048578 [t0] [] = none) ∨ (many = false ∧ RkI T t0 p ((kidsT y x).drop k ++ st) V1 ∧ V.length < V1.length))) (fun x8 _ => (x.kids - intOf x8).toNat)
          case atStart => exact ⟨0, _, _, false, rfl, (rightV_kids HRt.out).1, HK7, HO7, HLi, HNg, HU7, HY7, HN7, hide_ (.inr ⟨rfl, by have h := HNext.out; simpa using h, by simp⟩)⟩
          case round =>
            obtain ⟨k, v1, V1, many, rfl, hk, HK, HO, HL, HG, HU, HY, HN, HR⟩ := hrel
            generalize wr = wq at *
            clear HK7 HO7 HLi HNg HU7 HY7 HN7 HNext
            have n2 := HN.out.cell 2
            have m4 := HK.out.cell 4
            simp [nvc] at n2 m4
            have hkd := (rightV_kids HRt.out).2
            by_cases hkl : (k : Int) < x.kids
            · cases many with
              | true =>
                have hNone : mkT T p 1048578 [t0] [] = none := by
                  rcases HR.out with ⟨-, h⟩ | ⟨h, -⟩
                  · exact h
                  · cases h
                have HNo := hide_ hNone
                clear hNone
                go_wp2
                refine bodyPost_end (results_none rfl _ _ _) rfl ?_
                exact ⟨rfl, hide_ ⟨v1, V1, true, HK.out, HO.out, HL.out, HU.out, .inl ⟨rfl, HNo.out⟩⟩⟩
              | false =>
                have hrk : RkI T t0 p ((kidsT y x).drop k ++ st) V1 ∧ V.length < V1.length := by
                  rcases HR.out with ⟨h, -⟩ | ⟨-, h⟩
                  · cases h
                  · exact h
                obtain ⟨hrk, hvv⟩ := hrk
                have HBq : Hid (Below wb.heap.size wb wq) := hide_ ((HBw0.out).trans (HU.out.below _ hzb (fun b hb => by
                  rcases hb with h | h
                  · subst h; exact hbm
                  · exact (World.ownsRow.lt hO.out b h).1)))
                obtain ⟨s1, hs1k, hel⟩ := elemR_any y x va vc _ k wq HOk HFit.out HRt.out hkl (hide_ (HPR.out.later HBq.out))
                have hdr : (kidsT y x).drop k ++ st = s1 :: ((kidsT y x).drop (k + 1) ++ st) := by
                  have hlt := (List.getElem?_eq_some_iff.1 hs1k).1
                  rw [List.drop_eq_getElem_cons hlt, (List.getElem?_eq_some_iff.1 hs1k).2]
                  rfl
                rw [hdr] at hrk
                have HRk := hide_ hrk
                have HEl := hide_ hel
                have n0 := HN.out.cell 0; have n1 := HN.out.cell 1
                have y0 := HY.out.cell 0; have y1 := HY.out.cell 1; have y2 := HY.out.cell 2; have y3 := HY.out.cell 3
                simp [nvc] at n0 n1 y0 y1 y2 y3
                clear hrk hel hdr hs1k HR
                go_wp2_with fail
                refine HEl.out.mono ?_
                rintro e w8 ⟨rfl, hB8⟩
                have HB8 := hide_ hB8
                clear hB8 HEl
                have HSo := hide_ (hih.out s1 _ V1 v1 w8 (by omega) HRk (hide_ (HBq.out.trans (HB8.out.mono HBq.out.size))) (hide_ (HK.out.later HB8.out)) (hide_ (HO.out.later HB8.out)))
                go_wp2_with fail
                refine HSo.out.mono ?_
                rintro e w9 ⟨rfl, HM⟩
                obtain ⟨v2, V2, many2, hk2, ho2, hl2, hu2, hor2⟩ := HM.out
                have hz8 : wq.heap.size ≤ w8.heap.size := HB8.out.size
                have hzq : w.heap.size ≤ wq.heap.size := HU.out.size
                have hq1 : w1.heap.size + 1 < wq.heap.size := HN.out.lt
                have hbmq : bm < w.heap.size := hK.out.lt
                have HK9 := hide_ hk2
                have HO9 := hide_ ho2
                have HL9 : Hid (∀ b, v2.ownBlock = some b → (Value.slice aV V.length cV).ownBlock = some b ∨ w.heap.size ≤ b) := hide_ (fun b hb => by
                  rcases hl2 b hb with h | h
                  · exact HL.out b h
                  · exact .inr (by omega))
                have HG9 : Hid (¬ v2.ownBlock = some (w1.heap.size + 1)) := hide_ (fun e => by
                  rcases hl2 _ e with h | h
                  · exact HG.out h
                  · omega)
                have HU9 : Hid (Upd (fun k => k = bm ∨ (Value.slice aV V.length cV).ownBlock = some k) w w9) := hide_ ((HU.out.then HB8.out).trans hu2 (fun b hb h => by
                  rcases h with h | h
                  · exact .inl h
                  · rcases HL.out b h with h | h
                    · exact .inr h
                    · omega))
                have HY9 := hide_ ((HY.out.later HB8.out).upd hu2 (fun h => by
                  rcases h with h | h
                  · omega
                  · exact (HO.out.later HB8.out).ne (HY.out.later HB8.out) (by decide) h))
                have HN9 := hide_ ((HN.out.later HB8.out).upd hu2 (fun h => by
                  rcases h with h | h
                  · omega
                  · exact HG.out h))
                have HR9 : Hid ((many2 = true ∧ mkT T p 1048578 [t0] [] = none) ∨ (many2 = false ∧ RkI T t0 p ((kidsT y x).drop (k + 1) ++ st) V2 ∧ V.length < V2.length)) := hide_ (by
                  rcases hor2 with h | ⟨h1, h2, h3⟩
                  · exact .inl h
                  · exact .inr ⟨h1, h2, by omega⟩)
                clear hk2 ho2 hl2 hu2 hor2 HM HSo
                go_wp2_with fail
                go_roundw
                case rel => exact ⟨k + 1, v2, V2, many2, by go_num, by omega, HK9, HO9, HL9, HG9, HU9, HY9, HN9, HR9⟩
                case measure => simp [intOf]; omega
            · have hkl' : ¬ (k : Int) < x.kids := hkl
              have HRf : Hid ((many = true ∧ mkT T p 1048578 [t0] [] = none) ∨ (many = false ∧ RkI T t0 p st V1 ∧ V.length < V1.length)) := hide_ (by
                have h := HR.out
                have hl := kidsT_len HOk.out HFit.out HRt.out
                rw [List.drop_eq_nil_of_le (by omega), List.nil_append] at h
                exact h)
              go_wp2
              refine bodyPost_end (results_none rfl _ _ _) rfl ?_
              exact ⟨rfl, hide_ ⟨v1, V1, many, HK.out, HO.out, HL.out, HU.out, HRf.out⟩⟩
end Go.Proofs.YtlfjcihhcphjkaaDoor
