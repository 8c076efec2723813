import Derived.Test.YtomfidjmbjpceaaDoorZi
import Derived.Test.YtomfidjmbjpceaaDoorZg
import Derived.Test.YtomfidjmbjpceaaDoorOe
import Derived.BigQuiet
import Derived.Test.YtomfidjmbjpceaaDoorOl
import Derived.Test.YtomfidjmbjpceaaDoorRgf
import Derived.Test.YtomfidjmbjpceaaDoorOk
/- The document's Check of a schema (mortiseref09): in, parts. -/
namespace Go.Proofs.YtomfidjmbjpceaaDoor
open Go.RowKit
set_option linter.unusedVariables false

def inR (n lo hi : Int) : Bool := decide (lo ≤ n) && decide (n ≤ hi)
set_option maxRecDepth 100000 in
set_option maxHeartbeats 4000000 in
theorem inR_any (n lo hi : Int) (w : World) : Calls Tryd.prog 43 #[.int .i64 n, .int .i64 lo, .int .i64 hi] w fun e w' => e = .returned (.bool (inR n lo hi)) ∧ w = w' := by
  unfold inR
  go_enter Tryd.func43, Tryd.ntmps43
  by_cases h0 : lo ≤ n
  · by_cases h1 : n ≤ hi
    · go_wp2; go_ret; exact ⟨by simp [h0, h1], rfl⟩
    · go_wp2; go_ret; exact ⟨by simp; omega, rfl⟩
  · go_wp2; go_ret; exact ⟨by simp; omega, rfl⟩
theorem inR_at (n : Int) (i : Int) : inR n 0 (i - 1) = inB n i := by
  unfold inR inB
  rw [← Bool.decide_and]
  exact decide_eq_decide.2 (by omega)
theorem thereP_take {ps : List Pt} {j m : Nat} {q p : Pt} (hq : ps[j]? = some q) (hj : j < m) (h : likeP q p = true) : thereP (ps.take m) p = true := by
  unfold thereP
  rw [List.any_eq_true]
  refine ⟨q, ?_, h⟩
  refine List.mem_of_getElem? (i := j) ?_
  rw [List.getElem?_take, if_pos hj]
  exact hq
theorem thereP_none {ps : List Pt} {m : Nat} {p : Pt} (h : ∀ (j : Nat) (q : Pt), j < m → ps[j]? = some q → likeP q p = false) : thereP (ps.take m) p = false := by
  unfold thereP
  rw [List.any_eq_false]
  intro q hq
  obtain ⟨j, hj⟩ := List.getElem?_of_mem hq
  rw [List.getElem?_take] at hj
  split at hj
  · rename_i hjm
    rw [h j q hjm hj]
    decide
  · cases hj
theorem armOk_eq (p : Pt) : armOk p = (decide (p.label = ⟨#[]⟩) && (decide (0 ≤ p.tag) && decide (p.tag ≤ 255))) := by
  unfold armOk
  simp [Bool.decide_and]
set_option maxRecDepth 100000 in
set_option maxHeartbeats 8000000 in
theorem partsR8_any (n el : Int) (ps : List Pt) (va : Option Addr) (vc : Nat) (i : Nat) (w : World) (hil : i ≤ 9223372036854775806) (hr : Hid (PRow w va ps)) :
    Calls Tryd.prog 53 #[.agg #[.int .i64 8, .int .i64 n, .int .i64 el, .slice va ps.length vc], .int .i64 (i : Int)] w fun e w' => e = .returned (.bool (allP fieldOk ps i)) ∧ Below w.heap.size w w' := by
  have hB := below1 w (.cells #[.int .i64 8, .int .i64 n, .int .i64 el, .slice va ps.length vc] 64)
  have kx := Blk.newA w #[.int .i64 8, .int .i64 n, .int .i64 el, .slice va ps.length vc] 64
  obtain ⟨w0, hw0⟩ : ∃ wx, wx = w.alloc (.cells #[.int .i64 8, .int .i64 n, .int .i64 el, .slice va ps.length vc] 64) := ⟨_, rfl⟩
  rw [← hw0] at hB kx
  have HB0 := hide_ hB
  have KX := hide_ kx
  have HR0 := hide_ (hr.out.later hB)
  have hwi : wrap64 ((i : Int) - 1) = (i : Int) - 1 := w64 _ (by omega)
  have i0 := kx.cell 0; have i3 := kx.cell 3
  simp at i0 i3
  clear hB kx hr
  have HIl : Hid (∀ w, Calls Tryd.prog 43 #[.int .i64 (ps.length : Int), .int .i64 1, .int .i64 64] w fun e w' => e = .returned (.bool (decide (0 < ps.length ∧ ps.length ≤ 64))) ∧ w = w') := hide_ (fun w => by
    have h := inR_any (ps.length : Int) 1 64 w
    rw [show inR (ps.length : Int) 1 64 = decide (0 < ps.length ∧ ps.length ≤ 64) by unfold inR; rw [← Bool.decide_and]; exact decide_eq_decide.2 (by omega)] at h
    exact h)
  go_enter Tryd.func53, Tryd.ntmps53
  go_upto_region 1 with fail
  rw [← hw0]
  clear hw0
  by_cases hl : 0 < ps.length ∧ ps.length ≤ 64
  · rw [decide_eq_true hl] at HIl
    go_wp2_with (go_at_call 43; refine (HIl.out _).mono ?_; rintro e w' ⟨rfl, rfl⟩)
    go_loopw [6] (fun x6 wr => ∃ m : Nat, m ≤ ps.length ∧ x6 = .int .i64 (m : Int) ∧ Hid (∀ j, j < m → okP fieldOk ps i j = true) ∧ Hid (Below w0.heap.size w0 wr)) (fun x6 _ => ps.length - (intOf x6).toNat)
    case atStart => exact ⟨0, Nat.zero_le _, rfl, hide_ (fun j hj => by omega), hide_ (Below.refl _ _)⟩
    case round =>
      obtain ⟨m, hm, rfl, HA, HB⟩ := hrel
      generalize wr = wq at *
      clear i0 i3
      have KXq := hide_ (KX.out.later HB.out)
      have i0 := KXq.out.cell 0; have i3 := KXq.out.cell 3
      simp at i0 i3
      by_cases hlt : m < ps.length
      · have hlt' : (m : Int) < ps.length := by omega
        have HRq := hide_ (HR0.out.later HB.out)
        obtain ⟨b, off, rfl, hb, hc⟩ := HRq.out.open (by omega)
        have hx : ps[m]? = some (ps[m]'hlt) := List.getElem?_eq_getElem hlt
        have hcx := hc m _ hx
        have HX := hide_ hx
        generalize ps[m]'hlt = p at *
        have j0 := hcx 0 (by decide); have j1 := hcx 1 (by decide); have j2 := hcx 2 (by decide)
        simp [ptc] at j0 j1 j2
        have HOK := hide_ (okP_at (r := fieldOk) (m := (i : Int)) HX.out)
        have kp := Blk.newA wq #[.string p.label, .int .i64 p.tag, .int .i64 p.ty] 67
        have hBx := below1 wq (.cells #[.string p.label, .int .i64 p.tag, .int .i64 p.ty] 67)
        obtain ⟨wx, hwx⟩ : ∃ wx, wx = wq.alloc (.cells #[.string p.label, .int .i64 p.tag, .int .i64 p.ty] 67) := ⟨_, rfl⟩
        rw [← hwx] at kp hBx
        have HBx := hide_ (below_to HB.out hBx)
        have HBf := hide_ (below_to HB0.out HBx.out)
        have KP := hide_ kp
        have KXx := hide_ (KXq.out.later hBx)
        have HRx := hide_ (HRq.out.later hBx)
        clear kp hBx hc hx hcx hb HRq
        go_upto_region 10 with fail
        rw [← hwx]
        clear hwx i0 i3 j0 j1 j2
        have i0 := KXx.out.cell 0; have i3 := KXx.out.cell 3
        have j0 := KP.out.cell 0; have j1 := KP.out.cell 1; have j2 := KP.out.cell 2
        simp at i0 i3 j0 j1 j2
        obtain ⟨b3, hb3⟩ : ∃ x, inB p.ty i = x := ⟨_, rfl⟩
        obtain ⟨b1, hb1⟩ : ∃ x, fieldOk p = x := ⟨_, rfl⟩
        rw [hb3, hb1] at HOK
        have HI3 : Hid (∀ w, Calls Tryd.prog 43 #[.int .i64 p.ty, .int .i64 0, .int .i64 ((i : Int) - 1)] w fun e w' => e = .returned (.bool b3) ∧ w = w') := hide_ (fun w => by
          have h := inR_any p.ty 0 ((i : Int) - 1) w
          rwa [inR_at, hb3] at h)
        have HB1 := hide_ hb1
        clear hb1 hb3
        cases b3 with
        | false =>
          have HV : Hid (allP fieldOk ps i = false) := hide_ (allP_not hlt (by rw [HOK.out]; simp))
          go_wp2_with (go_at_call 43; refine (HI3.out _).mono ?_; rintro e w' ⟨rfl, rfl⟩)
          go_ret
          exact ⟨by rw [HV.out]; rfl, HBf.out⟩
        | true =>
        go_upto_region 12 with (go_at_call 43; refine (HI3.out _).mono ?_; rintro e w' ⟨rfl, rfl⟩)
        clear HI3
        obtain ⟨nm, hnm⟩ : ∃ x, isName p.label = x := ⟨_, rfl⟩
        have HNm : Hid (∀ w, Calls Tryd.prog 42 #[.string p.label] w fun e w' => e = .returned (.bool nm) ∧ w = w') := hide_ (fun w => by have h := nameD_any p.label w; rwa [hnm] at h)
        have HNM := hide_ hnm
        clear hnm
        cases nm with
        | false =>
          have HV : Hid (allP fieldOk ps i = false) := hide_ (allP_not hlt (by rw [HOK.out, ← HB1.out]; simp [fieldOk, HNM.out]))
          go_wp2_with (go_at_call 42; refine (HNm.out _).mono ?_; rintro e w' ⟨rfl, rfl⟩)
          go_ret
          exact ⟨by rw [HV.out]; rfl, HBf.out⟩
        | true =>
        by_cases htg : p.tag = 0
        · have hb0 : (p.tag != 0) = false := by simp [htg]
          obtain rfl : true = b1 := by rw [← HB1.out]; simp [fieldOk, HNM.out, htg]
          go_wp2_with (go_at_call 42; refine (HNm.out _).mono ?_; rintro e w' ⟨rfl, rfl⟩)
          clear i0 j2
          go_loopw [8] (fun x8 wr => ∃ j : Nat, j ≤ m ∧ x8 = .int .i64 (j : Int) ∧ Hid (∀ (q : Nat) (z : Pt), q < j → ps[q]? = some z → likeP z p = false) ∧ Hid (Below wx.heap.size wx wr)) (fun x8 _ => m - (intOf x8).toNat)
          case atStart => exact ⟨0, Nat.zero_le _, rfl, hide_ (fun q z hq => by omega), hide_ (Below.refl _ _)⟩
          case round =>
            obtain ⟨j, hj, rfl, HJ, HBj⟩ := hrel
            generalize wr = wp at *
            clear i3 j0 j1
            have i3 := (KXx.out.later HBj.out).cell 3
            have kq := KP.out.later HBj.out
            have j0 := kq.cell 0; have j1 := kq.cell 1
            simp at i3 j0 j1
            clear kq
            by_cases hjm : j < m
            · have hjm' : (j : Int) < m := by omega
              have hjl : j < ps.length := by omega
              have hjl' : (j : Int) < ps.length := by omega
              obtain ⟨b', off', hax, -, hc⟩ := (HRx.out.later HBj.out).open (by omega)
              injection hax with hax
              injection hax with e1 e2 _
              subst e1 e2
              have hx : ps[j]? = some (ps[j]'hjl) := List.getElem?_eq_getElem hjl
              have hcx := hc j _ hx
              have HXj := hide_ hx
              generalize ps[j]'hjl = z at *
              have z0 := hcx 0 (by decide); have z1 := hcx 1 (by decide)
              simp [ptc] at z0 z1
              clear hc hx hcx
              have HJn : Hid (likeP z p = false → ∀ (q : Nat) (y : Pt), q < j + 1 → ps[q]? = some y → likeP y p = false) := hide_ (fun hl q y hq hy => by
                rcases Nat.lt_or_ge q j with h | h
                · exact HJ.out q y h hy
                · obtain rfl : q = j := by omega
                  rw [HXj.out] at hy
                  injection hy with hy
                  subst hy
                  exact hl)
              by_cases he : z.label = p.label
              · have hs : (z.label.toList == p.label.toList) = true := by rw [he]; simp
                by_cases ht : z.tag = p.tag
                · have hb : (z.tag == p.tag) = true := by simp [ht]
                  have HV : Hid (allP fieldOk ps i = false) := hide_ (allP_not hlt (by rw [HOK.out, thereP_take HXj.out hjm (by simp [likeP, he, ht])]; simp))
                  clear he ht
                  go_wp2_with fail
                  go_quiet (fail)
                  have HBq := hide_ (below_to HBf.out (below_drewN HBj.out nq))
                  go_wp2
                  go_ret
                  exact ⟨by rw [HV.out]; rfl, HBq.out⟩
                · have hb : (z.tag == p.tag) = false := by simpa using ht
                  have HJ2 := hide_ (HJn.out (by simp [likeP, ht]))
                  clear he ht
                  go_wp2_with fail
                  go_quiet (fail)
                  have HBq := hide_ (below_drewN HBj.out nq)
                  go_wp2_with fail
                  go_roundw
                  case rel => exact ⟨j + 1, by omega, by go_num, HJ2, HBq⟩
                  case measure => simp [intOf]; omega
              · have hs : (z.label.toList == p.label.toList) = false := by rw [str_eq]; exact decide_eq_false he
                have HJ2 := hide_ (HJn.out (by simp [likeP, he]))
                clear he
                go_wp2_with fail
                go_quiet (fail)
                have HBq := hide_ (below_drewN HBj.out nq)
                go_wp2_with fail
                go_roundw
                case rel => exact ⟨j + 1, by omega, by go_num, HJ2, HBq⟩
                case measure => simp [intOf]; omega
            · obtain rfl : j = m := by omega
              have HA2 : Hid (∀ q, q < j + 1 → okP fieldOk ps i q = true) := hide_ (fun q hq => by
                rcases Nat.lt_or_ge q j with h | h
                · exact HA.out q h
                · obtain rfl : q = j := by omega
                  rw [HOK.out, thereP_none HJ.out]; rfl)
              have HBn := hide_ (below_to HBx.out HBj.out)
              go_wp2_with fail
              go_roundw
              case rel => exact ⟨j + 1, by omega, by go_num, HA2, HBn⟩
              case measure => simp [intOf]; omega
        · have hb0 : (p.tag != 0) = true := by simpa using htg
          have HV : Hid (allP fieldOk ps i = false) := hide_ (allP_not hlt (by rw [HOK.out, ← HB1.out]; simp [fieldOk, htg]))
          go_wp2_with (go_at_call 42; refine (HNm.out _).mono ?_; rintro e w' ⟨rfl, rfl⟩)
          go_ret
          exact ⟨by rw [HV.out]; rfl, HBf.out⟩
      · obtain rfl : m = ps.length := by omega
        have HV : Hid (allP fieldOk ps i = true) := hide_ (allP_of hl.1 hl.2 HA.out)
        go_wp2
        go_ret
        exact ⟨by rw [HV.out]; rfl, below_to HB0.out HB.out⟩
  · have HV : Hid (allP fieldOk ps i = false) := hide_ (allP_len hl)
    rw [decide_eq_false hl] at HIl
    go_wp2_with (go_at_call 43; refine (HIl.out _).mono ?_; rintro e w' ⟨rfl, rfl⟩)
    go_ret
    exact ⟨by rw [HV.out]; rfl, HB0.out⟩
end Go.Proofs.YtomfidjmbjpceaaDoor
/- The document's Check of a schema: right. -/
namespace Go.Proofs.YtomfidjmbjpceaaDoor
open Go.RowKit
set_option linter.unusedVariables false

set_option maxRecDepth 100000 in
set_option maxHeartbeats 8000000 in
theorem right1_any (n el : Int) (ps : List Pt) (va : Option Addr) (vc : Nat) (i : Nat) (w : World) (hil : i ≤ 9223372036854775806) (hr : Hid (PRow w va ps)) :
    Calls Tryd.prog 40 #[.agg #[.int .i64 1, .int .i64 n, .int .i64 el, .slice va ps.length vc], .int .i64 (i : Int)] w fun e w' => e = .returned (.bool (tyOk ⟨1, n, el, ps⟩ i)) ∧ Below w.heap.size w w' := by
  have hB := below1 w (.cells #[.int .i64 1, .int .i64 n, .int .i64 el, .slice va ps.length vc] 64)
  have kx := Blk.newA w #[.int .i64 1, .int .i64 n, .int .i64 el, .slice va ps.length vc] 64
  obtain ⟨w0, hw0⟩ : ∃ wx, wx = w.alloc (.cells #[.int .i64 1, .int .i64 n, .int .i64 el, .slice va ps.length vc] 64) := ⟨_, rfl⟩
  rw [← hw0] at hB kx
  have HB := hide_ hB
  have HR := hide_ (hr.out.later hB)
  have i0 := kx.cell 0; have i1 := kx.cell 1; have i2 := kx.cell 2; have i3 := kx.cell 3
  simp at i0 i1 i2 i3
  have hwi : wrap64 ((i : Int) - 1) = (i : Int) - 1 := w64 _ (by omega)
  have HL : Hid (((ps.length : Int) == 0) = decide (ps.length = 0)) := hide_ (by
    by_cases h : ps.length = 0
    · simp [h]
    · have h2 : ((ps.length : Int) == 0) = false := by
        have h : ¬ (ps.length : Int) = 0 := by omega
        simpa using h
      rw [h2, decide_eq_false h])
  clear hB kx hr
  go_enter Tryd.func40, Tryd.ntmps40
  go_upto_region 1 with fail
  rw [← hw0]
  clear hw0
  by_cases n1 : n = 1
  · subst n1
    by_cases he : el = 0
    · subst he
      have HV : Hid (tyOk ⟨1, 1, 0, ps⟩ i = decide (ps.length = 0)) := hide_ (by simp [tyOk, nOk, elemOk, hasE, partsOk])
      go_wp2
      go_ret
      exact ⟨by rw [HV.out, ← HL.out]; rfl, HB.out⟩
    · have he' : (el == 0) = false := by simpa using he
      have HV : Hid (tyOk ⟨1, 1, el, ps⟩ i = false) := hide_ (by simp [tyOk, nOk, elemOk, hasE, partsOk, he])
      go_wp2
      go_ret
      exact ⟨by rw [HV.out]; rfl, HB.out⟩
  have d1 : (n == 1) = false := by simpa using n1
  by_cases n2 : n = 2
  · subst n2
    by_cases he : el = 0
    · subst he
      have HV : Hid (tyOk ⟨1, 2, 0, ps⟩ i = decide (ps.length = 0)) := hide_ (by simp [tyOk, nOk, elemOk, hasE, partsOk])
      go_wp2
      go_ret
      exact ⟨by rw [HV.out, ← HL.out]; rfl, HB.out⟩
    · have he' : (el == 0) = false := by simpa using he
      have HV : Hid (tyOk ⟨1, 2, el, ps⟩ i = false) := hide_ (by simp [tyOk, nOk, elemOk, hasE, partsOk, he])
      go_wp2
      go_ret
      exact ⟨by rw [HV.out]; rfl, HB.out⟩
  have d2 : (n == 2) = false := by simpa using n2
  by_cases n4 : n = 4
  · subst n4
    by_cases he : el = 0
    · subst he
      have HV : Hid (tyOk ⟨1, 4, 0, ps⟩ i = decide (ps.length = 0)) := hide_ (by simp [tyOk, nOk, elemOk, hasE, partsOk])
      go_wp2
      go_ret
      exact ⟨by rw [HV.out, ← HL.out]; rfl, HB.out⟩
    · have he' : (el == 0) = false := by simpa using he
      have HV : Hid (tyOk ⟨1, 4, el, ps⟩ i = false) := hide_ (by simp [tyOk, nOk, elemOk, hasE, partsOk, he])
      go_wp2
      go_ret
      exact ⟨by rw [HV.out]; rfl, HB.out⟩
  have d4 : (n == 4) = false := by simpa using n4
  by_cases n8 : n = 8
  · subst n8
    by_cases he : el = 0
    · subst he
      have HV : Hid (tyOk ⟨1, 8, 0, ps⟩ i = decide (ps.length = 0)) := hide_ (by simp [tyOk, nOk, elemOk, hasE, partsOk])
      go_wp2
      go_ret
      exact ⟨by rw [HV.out, ← HL.out]; rfl, HB.out⟩
    · have he' : (el == 0) = false := by simpa using he
      have HV : Hid (tyOk ⟨1, 8, el, ps⟩ i = false) := hide_ (by simp [tyOk, nOk, elemOk, hasE, partsOk, he])
      go_wp2
      go_ret
      exact ⟨by rw [HV.out]; rfl, HB.out⟩
  have d8 : (n == 8) = false := by simpa using n8
  have HV : Hid (tyOk ⟨1, n, el, ps⟩ i = false) := hide_ (by simp [tyOk, nOk, elemOk, hasE, partsOk, n1, n2, n4, n8])
  go_wp2
  go_ret
  exact ⟨by rw [HV.out]; rfl, HB.out⟩
end Go.Proofs.YtomfidjmbjpceaaDoor
/- The document's Check of a schema: right. -/
namespace Go.Proofs.YtomfidjmbjpceaaDoor
open Go.RowKit
set_option linter.unusedVariables false

set_option maxRecDepth 100000 in
set_option maxHeartbeats 8000000 in
theorem right2_any (n el : Int) (ps : List Pt) (va : Option Addr) (vc : Nat) (i : Nat) (w : World) (hil : i ≤ 9223372036854775806) (hr : Hid (PRow w va ps)) :
    Calls Tryd.prog 40 #[.agg #[.int .i64 2, .int .i64 n, .int .i64 el, .slice va ps.length vc], .int .i64 (i : Int)] w fun e w' => e = .returned (.bool (tyOk ⟨2, n, el, ps⟩ i)) ∧ Below w.heap.size w w' := by
  have hB := below1 w (.cells #[.int .i64 2, .int .i64 n, .int .i64 el, .slice va ps.length vc] 64)
  have kx := Blk.newA w #[.int .i64 2, .int .i64 n, .int .i64 el, .slice va ps.length vc] 64
  obtain ⟨w0, hw0⟩ : ∃ wx, wx = w.alloc (.cells #[.int .i64 2, .int .i64 n, .int .i64 el, .slice va ps.length vc] 64) := ⟨_, rfl⟩
  rw [← hw0] at hB kx
  have HB := hide_ hB
  have HR := hide_ (hr.out.later hB)
  have i0 := kx.cell 0; have i1 := kx.cell 1; have i2 := kx.cell 2; have i3 := kx.cell 3
  simp at i0 i1 i2 i3
  have hwi : wrap64 ((i : Int) - 1) = (i : Int) - 1 := w64 _ (by omega)
  have HL : Hid (((ps.length : Int) == 0) = decide (ps.length = 0)) := hide_ (by
    by_cases h : ps.length = 0
    · simp [h]
    · have h2 : ((ps.length : Int) == 0) = false := by
        have h : ¬ (ps.length : Int) = 0 := by omega
        simpa using h
      rw [h2, decide_eq_false h])
  clear hB kx hr
  go_enter Tryd.func40, Tryd.ntmps40
  go_upto_region 1 with fail
  rw [← hw0]
  clear hw0
  by_cases hn : n = 0
  · subst hn
    by_cases he : el = 0
    · subst he
      have HV : Hid (tyOk ⟨2, 0, 0, ps⟩ i = decide (ps.length = 0)) := hide_ (by simp [tyOk, nOk, elemOk, hasE, partsOk])
      go_wp2
      go_ret
      exact ⟨by rw [HV.out, ← HL.out]; rfl, HB.out⟩
    · have he' : (el == 0) = false := by simpa using he
      have HV : Hid (tyOk ⟨2, 0, el, ps⟩ i = false) := hide_ (by simp [tyOk, nOk, elemOk, hasE, partsOk, he])
      go_wp2
      go_ret
      exact ⟨by rw [HV.out]; rfl, HB.out⟩
  · have hn' : (n == 0) = false := by simpa using hn
    have HV : Hid (tyOk ⟨2, n, el, ps⟩ i = false) := hide_ (by simp [tyOk, nOk, elemOk, hasE, partsOk, hn])
    go_wp2
    go_ret
    exact ⟨by rw [HV.out]; rfl, HB.out⟩
set_option maxRecDepth 100000 in
set_option maxHeartbeats 8000000 in
theorem right3_any (n el : Int) (ps : List Pt) (va : Option Addr) (vc : Nat) (i : Nat) (w : World) (hil : i ≤ 9223372036854775806) (hr : Hid (PRow w va ps)) :
    Calls Tryd.prog 40 #[.agg #[.int .i64 3, .int .i64 n, .int .i64 el, .slice va ps.length vc], .int .i64 (i : Int)] w fun e w' => e = .returned (.bool (tyOk ⟨3, n, el, ps⟩ i)) ∧ Below w.heap.size w w' := by
  have hB := below1 w (.cells #[.int .i64 3, .int .i64 n, .int .i64 el, .slice va ps.length vc] 64)
  have kx := Blk.newA w #[.int .i64 3, .int .i64 n, .int .i64 el, .slice va ps.length vc] 64
  obtain ⟨w0, hw0⟩ : ∃ wx, wx = w.alloc (.cells #[.int .i64 3, .int .i64 n, .int .i64 el, .slice va ps.length vc] 64) := ⟨_, rfl⟩
  rw [← hw0] at hB kx
  have HB := hide_ hB
  have HR := hide_ (hr.out.later hB)
  have i0 := kx.cell 0; have i1 := kx.cell 1; have i2 := kx.cell 2; have i3 := kx.cell 3
  simp at i0 i1 i2 i3
  have hwi : wrap64 ((i : Int) - 1) = (i : Int) - 1 := w64 _ (by omega)
  have HL : Hid (((ps.length : Int) == 0) = decide (ps.length = 0)) := hide_ (by
    by_cases h : ps.length = 0
    · simp [h]
    · have h2 : ((ps.length : Int) == 0) = false := by
        have h : ¬ (ps.length : Int) = 0 := by omega
        simpa using h
      rw [h2, decide_eq_false h])
  clear hB kx hr
  go_enter Tryd.func40, Tryd.ntmps40
  go_upto_region 1 with fail
  rw [← hw0]
  clear hw0
  by_cases hn : n = 0
  · subst hn
    by_cases he : el = 0
    · subst he
      have HV : Hid (tyOk ⟨3, 0, 0, ps⟩ i = decide (ps.length = 0)) := hide_ (by simp [tyOk, nOk, elemOk, hasE, partsOk])
      go_wp2
      go_ret
      exact ⟨by rw [HV.out, ← HL.out]; rfl, HB.out⟩
    · have he' : (el == 0) = false := by simpa using he
      have HV : Hid (tyOk ⟨3, 0, el, ps⟩ i = false) := hide_ (by simp [tyOk, nOk, elemOk, hasE, partsOk, he])
      go_wp2
      go_ret
      exact ⟨by rw [HV.out]; rfl, HB.out⟩
  · have hn' : (n == 0) = false := by simpa using hn
    have HV : Hid (tyOk ⟨3, n, el, ps⟩ i = false) := hide_ (by simp [tyOk, nOk, elemOk, hasE, partsOk, hn])
    go_wp2
    go_ret
    exact ⟨by rw [HV.out]; rfl, HB.out⟩
end Go.Proofs.YtomfidjmbjpceaaDoor
/- The document's Check of a schema: right. -/
namespace Go.Proofs.YtomfidjmbjpceaaDoor
open Go.RowKit
set_option linter.unusedVariables false

set_option maxRecDepth 100000 in
set_option maxHeartbeats 8000000 in
theorem right4_any (n el : Int) (ps : List Pt) (va : Option Addr) (vc : Nat) (i : Nat) (w : World) (hil : i ≤ 9223372036854775806) (hr : Hid (PRow w va ps)) :
    Calls Tryd.prog 40 #[.agg #[.int .i64 4, .int .i64 n, .int .i64 el, .slice va ps.length vc], .int .i64 (i : Int)] w fun e w' => e = .returned (.bool (tyOk ⟨4, n, el, ps⟩ i)) ∧ Below w.heap.size w w' := by
  have hB := below1 w (.cells #[.int .i64 4, .int .i64 n, .int .i64 el, .slice va ps.length vc] 64)
  have kx := Blk.newA w #[.int .i64 4, .int .i64 n, .int .i64 el, .slice va ps.length vc] 64
  obtain ⟨w0, hw0⟩ : ∃ wx, wx = w.alloc (.cells #[.int .i64 4, .int .i64 n, .int .i64 el, .slice va ps.length vc] 64) := ⟨_, rfl⟩
  rw [← hw0] at hB kx
  have HB := hide_ hB
  have HR := hide_ (hr.out.later hB)
  have i0 := kx.cell 0; have i1 := kx.cell 1; have i2 := kx.cell 2; have i3 := kx.cell 3
  simp at i0 i1 i2 i3
  have hwi : wrap64 ((i : Int) - 1) = (i : Int) - 1 := w64 _ (by omega)
  have HL : Hid (((ps.length : Int) == 0) = decide (ps.length = 0)) := hide_ (by
    by_cases h : ps.length = 0
    · simp [h]
    · have h2 : ((ps.length : Int) == 0) = false := by
        have h : ¬ (ps.length : Int) = 0 := by omega
        simpa using h
      rw [h2, decide_eq_false h])
  clear hB kx hr
  go_enter Tryd.func40, Tryd.ntmps40
  go_upto_region 1 with fail
  rw [← hw0]
  clear hw0
  obtain ⟨bn, hbn⟩ : ∃ x, inR n 1 1048576 = x := ⟨_, rfl⟩
  obtain ⟨be, hbe⟩ : ∃ x, inB el i = x := ⟨_, rfl⟩
  have HN : Hid (∀ w, Calls Tryd.prog 43 #[.int .i64 n, .int .i64 1, .int .i64 1048576] w fun e w' => e = .returned (.bool bn) ∧ w = w') := hide_ (fun w => by have h := inR_any n 1 1048576 w; rwa [hbn] at h)
  have HE : Hid (∀ w, Calls Tryd.prog 43 #[.int .i64 el, .int .i64 0, .int .i64 ((i : Int) - 1)] w fun e w' => e = .returned (.bool be) ∧ w = w') := hide_ (fun w => by have h := inR_any el 0 ((i : Int) - 1) w; rwa [inR_at, hbe] at h)
  have HBE := hide_ hbe
  have HBN : Hid ((decide (1 ≤ n) && decide (n ≤ 1048576)) = bn) := hide_ hbn
  clear hbn hbe
  have HT : Hid (tyOk ⟨4, n, el, ps⟩ i = (bn && be && decide (ps.length = 0))) := hide_ (by rw [← HBN.out, ← HBE.out]; simp [tyOk, nOk, elemOk, hasE, partsOk, Bool.decide_and])
  go_wp2_with fail
  refine (HN.out _).mono ?_; rintro e w' ⟨rfl, rfl⟩
  cases bn with
  | false =>
    go_wp2
    go_ret
    exact ⟨by rw [HT.out]; rfl, HB.out⟩
  | true =>
  go_wp2_with fail
  refine (HE.out _).mono ?_; rintro e w' ⟨rfl, rfl⟩
  cases be with
  | false =>
    go_wp2
    go_ret
    exact ⟨by rw [HT.out]; rfl, HB.out⟩
  | true =>
    go_wp2
    go_ret
    exact ⟨by rw [HT.out, ← HL.out]; rfl, HB.out⟩
set_option maxRecDepth 100000 in
set_option maxHeartbeats 8000000 in
theorem right5_any (n el : Int) (ps : List Pt) (va : Option Addr) (vc : Nat) (i : Nat) (w : World) (hil : i ≤ 9223372036854775806) (hr : Hid (PRow w va ps)) :
    Calls Tryd.prog 40 #[.agg #[.int .i64 5, .int .i64 n, .int .i64 el, .slice va ps.length vc], .int .i64 (i : Int)] w fun e w' => e = .returned (.bool (tyOk ⟨5, n, el, ps⟩ i)) ∧ Below w.heap.size w w' := by
  have hB := below1 w (.cells #[.int .i64 5, .int .i64 n, .int .i64 el, .slice va ps.length vc] 64)
  have kx := Blk.newA w #[.int .i64 5, .int .i64 n, .int .i64 el, .slice va ps.length vc] 64
  obtain ⟨w0, hw0⟩ : ∃ wx, wx = w.alloc (.cells #[.int .i64 5, .int .i64 n, .int .i64 el, .slice va ps.length vc] 64) := ⟨_, rfl⟩
  rw [← hw0] at hB kx
  have HB := hide_ hB
  have HR := hide_ (hr.out.later hB)
  have i0 := kx.cell 0; have i1 := kx.cell 1; have i2 := kx.cell 2; have i3 := kx.cell 3
  simp at i0 i1 i2 i3
  have hwi : wrap64 ((i : Int) - 1) = (i : Int) - 1 := w64 _ (by omega)
  have HL : Hid (((ps.length : Int) == 0) = decide (ps.length = 0)) := hide_ (by
    by_cases h : ps.length = 0
    · simp [h]
    · have h2 : ((ps.length : Int) == 0) = false := by
        have h : ¬ (ps.length : Int) = 0 := by omega
        simpa using h
      rw [h2, decide_eq_false h])
  clear hB kx hr
  go_enter Tryd.func40, Tryd.ntmps40
  go_upto_region 1 with fail
  rw [← hw0]
  clear hw0
  obtain ⟨bn, hbn⟩ : ∃ x, inR n 1 1048576 = x := ⟨_, rfl⟩
  obtain ⟨be, hbe⟩ : ∃ x, inB el i = x := ⟨_, rfl⟩
  have HN : Hid (∀ w, Calls Tryd.prog 43 #[.int .i64 n, .int .i64 1, .int .i64 1048576] w fun e w' => e = .returned (.bool bn) ∧ w = w') := hide_ (fun w => by have h := inR_any n 1 1048576 w; rwa [hbn] at h)
  have HE : Hid (∀ w, Calls Tryd.prog 43 #[.int .i64 el, .int .i64 0, .int .i64 ((i : Int) - 1)] w fun e w' => e = .returned (.bool be) ∧ w = w') := hide_ (fun w => by have h := inR_any el 0 ((i : Int) - 1) w; rwa [inR_at, hbe] at h)
  have HBE := hide_ hbe
  have HBN : Hid ((decide (1 ≤ n) && decide (n ≤ 1048576)) = bn) := hide_ hbn
  clear hbn hbe
  have HT : Hid (tyOk ⟨5, n, el, ps⟩ i = (bn && be && decide (ps.length = 0))) := hide_ (by rw [← HBN.out, ← HBE.out]; simp [tyOk, nOk, elemOk, hasE, partsOk, Bool.decide_and])
  go_wp2_with fail
  refine (HN.out _).mono ?_; rintro e w' ⟨rfl, rfl⟩
  cases bn with
  | false =>
    go_wp2
    go_ret
    exact ⟨by rw [HT.out]; rfl, HB.out⟩
  | true =>
  go_wp2_with fail
  refine (HE.out _).mono ?_; rintro e w' ⟨rfl, rfl⟩
  cases be with
  | false =>
    go_wp2
    go_ret
    exact ⟨by rw [HT.out]; rfl, HB.out⟩
  | true =>
    go_wp2
    go_ret
    exact ⟨by rw [HT.out, ← HL.out]; rfl, HB.out⟩
set_option maxRecDepth 100000 in
set_option maxHeartbeats 8000000 in
theorem right6_any (n el : Int) (ps : List Pt) (va : Option Addr) (vc : Nat) (i : Nat) (w : World) (hil : i ≤ 9223372036854775806) (hr : Hid (PRow w va ps)) :
    Calls Tryd.prog 40 #[.agg #[.int .i64 6, .int .i64 n, .int .i64 el, .slice va ps.length vc], .int .i64 (i : Int)] w fun e w' => e = .returned (.bool (tyOk ⟨6, n, el, ps⟩ i)) ∧ Below w.heap.size w w' := by
  have hB := below1 w (.cells #[.int .i64 6, .int .i64 n, .int .i64 el, .slice va ps.length vc] 64)
  have kx := Blk.newA w #[.int .i64 6, .int .i64 n, .int .i64 el, .slice va ps.length vc] 64
  obtain ⟨w0, hw0⟩ : ∃ wx, wx = w.alloc (.cells #[.int .i64 6, .int .i64 n, .int .i64 el, .slice va ps.length vc] 64) := ⟨_, rfl⟩
  rw [← hw0] at hB kx
  have HB := hide_ hB
  have HR := hide_ (hr.out.later hB)
  have i0 := kx.cell 0; have i1 := kx.cell 1; have i2 := kx.cell 2; have i3 := kx.cell 3
  simp at i0 i1 i2 i3
  have hwi : wrap64 ((i : Int) - 1) = (i : Int) - 1 := w64 _ (by omega)
  have HL : Hid (((ps.length : Int) == 0) = decide (ps.length = 0)) := hide_ (by
    by_cases h : ps.length = 0
    · simp [h]
    · have h2 : ((ps.length : Int) == 0) = false := by
        have h : ¬ (ps.length : Int) = 0 := by omega
        simpa using h
      rw [h2, decide_eq_false h])
  clear hB kx hr
  go_enter Tryd.func40, Tryd.ntmps40
  go_upto_region 1 with fail
  rw [← hw0]
  clear hw0
  obtain ⟨bn, hbn⟩ : ∃ x, inR n 1 1048576 = x := ⟨_, rfl⟩
  obtain ⟨be, hbe⟩ : ∃ x, inB el i = x := ⟨_, rfl⟩
  have HN : Hid (∀ w, Calls Tryd.prog 43 #[.int .i64 n, .int .i64 1, .int .i64 1048576] w fun e w' => e = .returned (.bool bn) ∧ w = w') := hide_ (fun w => by have h := inR_any n 1 1048576 w; rwa [hbn] at h)
  have HE : Hid (∀ w, Calls Tryd.prog 43 #[.int .i64 el, .int .i64 0, .int .i64 ((i : Int) - 1)] w fun e w' => e = .returned (.bool be) ∧ w = w') := hide_ (fun w => by have h := inR_any el 0 ((i : Int) - 1) w; rwa [inR_at, hbe] at h)
  have HBE := hide_ hbe
  have HBN : Hid ((decide (1 ≤ n) && decide (n ≤ 1048576)) = bn) := hide_ hbn
  clear hbn hbe
  have HT : Hid (tyOk ⟨6, n, el, ps⟩ i = (decide (n = 0) && be && decide (ps.length = 0))) := hide_ (by rw [← HBE.out]; simp [tyOk, nOk, elemOk, hasE, partsOk])
  by_cases hn : n = 0
  · subst hn
    go_wp2_with fail
    refine (HE.out _).mono ?_; rintro e w' ⟨rfl, rfl⟩
    cases be with
    | false =>
      go_wp2
      go_ret
      exact ⟨by rw [HT.out]; rfl, HB.out⟩
    | true =>
      go_wp2
      go_ret
      exact ⟨by rw [HT.out, ← HL.out]; rfl, HB.out⟩
  · have hn' : (n == 0) = false := by simpa using hn
    rw [decide_eq_false hn] at HT
    go_wp2
    go_ret
    exact ⟨by rw [HT.out]; rfl, HB.out⟩
end Go.Proofs.YtomfidjmbjpceaaDoor
/- The document's Check of a schema (mortiseref09): parts of a union. -/
namespace Go.Proofs.YtomfidjmbjpceaaDoor
open Go.RowKit
set_option linter.unusedVariables false

set_option maxRecDepth 100000 in
set_option maxHeartbeats 8000000 in
theorem partsR7_any (n el : Int) (ps : List Pt) (va : Option Addr) (vc : Nat) (i : Nat) (w : World) (hil : i ≤ 9223372036854775806) (hr : Hid (PRow w va ps)) :
    Calls Tryd.prog 53 #[.agg #[.int .i64 7, .int .i64 n, .int .i64 el, .slice va ps.length vc], .int .i64 (i : Int)] w fun e w' => e = .returned (.bool (allP armOk ps i)) ∧ Below w.heap.size w w' := by
  have hB := below1 w (.cells #[.int .i64 7, .int .i64 n, .int .i64 el, .slice va ps.length vc] 64)
  have kx := Blk.newA w #[.int .i64 7, .int .i64 n, .int .i64 el, .slice va ps.length vc] 64
  obtain ⟨w0, hw0⟩ : ∃ wx, wx = w.alloc (.cells #[.int .i64 7, .int .i64 n, .int .i64 el, .slice va ps.length vc] 64) := ⟨_, rfl⟩
  rw [← hw0] at hB kx
  have HB0 := hide_ hB
  have KX := hide_ kx
  have HR0 := hide_ (hr.out.later hB)
  have hwi : wrap64 ((i : Int) - 1) = (i : Int) - 1 := w64 _ (by omega)
  have i0 := kx.cell 0; have i3 := kx.cell 3
  simp at i0 i3
  clear hB kx hr
  have HIl : Hid (∀ w, Calls Tryd.prog 43 #[.int .i64 (ps.length : Int), .int .i64 1, .int .i64 64] w fun e w' => e = .returned (.bool (decide (0 < ps.length ∧ ps.length ≤ 64))) ∧ w = w') := hide_ (fun w => by
    have h := inR_any (ps.length : Int) 1 64 w
    rw [show inR (ps.length : Int) 1 64 = decide (0 < ps.length ∧ ps.length ≤ 64) by unfold inR; rw [← Bool.decide_and]; exact decide_eq_decide.2 (by omega)] at h
    exact h)
  go_enter Tryd.func53, Tryd.ntmps53
  go_upto_region 1 with fail
  rw [← hw0]
  clear hw0
  by_cases hl : 0 < ps.length ∧ ps.length ≤ 64
  · rw [decide_eq_true hl] at HIl
    go_wp2_with (go_at_call 43; refine (HIl.out _).mono ?_; rintro e w' ⟨rfl, rfl⟩)
    go_loopw [6] (fun x6 wr => ∃ m : Nat, m ≤ ps.length ∧ x6 = .int .i64 (m : Int) ∧ Hid (∀ j, j < m → okP armOk ps i j = true) ∧ Hid (Below w0.heap.size w0 wr)) (fun x6 _ => ps.length - (intOf x6).toNat)
    case atStart => exact ⟨0, Nat.zero_le _, rfl, hide_ (fun j hj => by omega), hide_ (Below.refl _ _)⟩
    case round =>
      obtain ⟨m, hm, rfl, HA, HB⟩ := hrel
      generalize wr = wq at *
      clear i0 i3
      have KXq := hide_ (KX.out.later HB.out)
      have i0 := KXq.out.cell 0; have i3 := KXq.out.cell 3
      simp at i0 i3
      by_cases hlt : m < ps.length
      · have hlt' : (m : Int) < ps.length := by omega
        have HRq := hide_ (HR0.out.later HB.out)
        obtain ⟨b, off, rfl, hb, hc⟩ := HRq.out.open (by omega)
        have hx : ps[m]? = some (ps[m]'hlt) := List.getElem?_eq_getElem hlt
        have hcx := hc m _ hx
        have HX := hide_ hx
        generalize ps[m]'hlt = p at *
        have j0 := hcx 0 (by decide); have j1 := hcx 1 (by decide); have j2 := hcx 2 (by decide)
        simp [ptc] at j0 j1 j2
        have HOK := hide_ (okP_at (r := armOk) (m := (i : Int)) HX.out)
        have kp := Blk.newA wq #[.string p.label, .int .i64 p.tag, .int .i64 p.ty] 67
        have hBx := below1 wq (.cells #[.string p.label, .int .i64 p.tag, .int .i64 p.ty] 67)
        obtain ⟨wx, hwx⟩ : ∃ wx, wx = wq.alloc (.cells #[.string p.label, .int .i64 p.tag, .int .i64 p.ty] 67) := ⟨_, rfl⟩
        rw [← hwx] at kp hBx
        have HBx := hide_ (below_to HB.out hBx)
        have HBf := hide_ (below_to HB0.out HBx.out)
        have KP := hide_ kp
        have KXx := hide_ (KXq.out.later hBx)
        have HRx := hide_ (HRq.out.later hBx)
        clear kp hBx hc hx hcx hb HRq
        go_upto_region 10 with fail
        rw [← hwx]
        clear hwx i0 i3 j0 j1 j2
        have i0 := KXx.out.cell 0; have i3 := KXx.out.cell 3
        have j0 := KP.out.cell 0; have j1 := KP.out.cell 1; have j2 := KP.out.cell 2
        simp at i0 i3 j0 j1 j2
        obtain ⟨b3, hb3⟩ : ∃ x, inB p.ty i = x := ⟨_, rfl⟩
        obtain ⟨b1, hb1⟩ : ∃ x, armOk p = x := ⟨_, rfl⟩
        rw [hb3, hb1] at HOK
        have HI3 : Hid (∀ w, Calls Tryd.prog 43 #[.int .i64 p.ty, .int .i64 0, .int .i64 ((i : Int) - 1)] w fun e w' => e = .returned (.bool b3) ∧ w = w') := hide_ (fun w => by
          have h := inR_any p.ty 0 ((i : Int) - 1) w
          rwa [inR_at, hb3] at h)
        have HB1 := hide_ hb1
        clear hb1 hb3
        cases b3 with
        | false =>
          have HV : Hid (allP armOk ps i = false) := hide_ (allP_not hlt (by rw [HOK.out]; simp))
          go_wp2_with (go_at_call 43; refine (HI3.out _).mono ?_; rintro e w' ⟨rfl, rfl⟩)
          go_ret
          exact ⟨by rw [HV.out]; rfl, HBf.out⟩
        | true =>
        go_upto_region 12 with (go_at_call 43; refine (HI3.out _).mono ?_; rintro e w' ⟨rfl, rfl⟩)
        clear HI3
        obtain ⟨tg, htg⟩ : ∃ x, inR p.tag 0 255 = x := ⟨_, rfl⟩
        have HI5 : Hid (∀ w, Calls Tryd.prog 43 #[.int .i64 p.tag, .int .i64 0, .int .i64 255] w fun e w' => e = .returned (.bool tg) ∧ w = w') := hide_ (fun w => by have h := inR_any p.tag 0 255 w; rwa [htg] at h)
        have HTG : Hid ((decide (0 ≤ p.tag) && decide (p.tag ≤ 255)) = tg) := hide_ htg
        clear htg
        by_cases hlb : p.label = ⟨#[]⟩
        · have hlb0 : (p.label.toList == []) = true := by rw [hlb]; simp
          have hlb1 : p.label.toList.isEmpty = true := by rw [hlb]; simp
          cases tg with
          | false =>
            have HV : Hid (allP armOk ps i = false) := hide_ (allP_not hlt (by rw [HOK.out, ← HB1.out, armOk_eq, HTG.out]; simp))
            go_wp2_with (go_at_call 43; refine (HI5.out _).mono ?_; rintro e w' ⟨rfl, rfl⟩)
            go_ret
            exact ⟨by rw [HV.out]; rfl, HBf.out⟩
          | true =>
          obtain rfl : true = b1 := by rw [← HB1.out, armOk_eq, HTG.out]; simp [hlb]
          go_wp2_with (go_at_call 43; refine (HI5.out _).mono ?_; rintro e w' ⟨rfl, rfl⟩)
          clear i0 j2 hlb hlb0 hlb1
          go_loopw [8] (fun x8 wr => ∃ j : Nat, j ≤ m ∧ x8 = .int .i64 (j : Int) ∧ Hid (∀ (q : Nat) (z : Pt), q < j → ps[q]? = some z → likeP z p = false) ∧ Hid (Below wx.heap.size wx wr)) (fun x8 _ => m - (intOf x8).toNat)
          case atStart => exact ⟨0, Nat.zero_le _, rfl, hide_ (fun q z hq => by omega), hide_ (Below.refl _ _)⟩
          case round =>
            obtain ⟨j, hj, rfl, HJ, HBj⟩ := hrel
            generalize wr = wp at *
            clear i3 j0 j1
            have i3 := (KXx.out.later HBj.out).cell 3
            have kq := KP.out.later HBj.out
            have j0 := kq.cell 0; have j1 := kq.cell 1
            simp at i3 j0 j1
            clear kq
            by_cases hjm : j < m
            · have hjm' : (j : Int) < m := by omega
              have hjl : j < ps.length := by omega
              have hjl' : (j : Int) < ps.length := by omega
              obtain ⟨b', off', hax, -, hc⟩ := (HRx.out.later HBj.out).open (by omega)
              injection hax with hax
              injection hax with e1 e2 _
              subst e1 e2
              have hx : ps[j]? = some (ps[j]'hjl) := List.getElem?_eq_getElem hjl
              have hcx := hc j _ hx
              have HXj := hide_ hx
              generalize ps[j]'hjl = z at *
              have z0 := hcx 0 (by decide); have z1 := hcx 1 (by decide)
              simp [ptc] at z0 z1
              clear hc hx hcx
              have HJn : Hid (likeP z p = false → ∀ (q : Nat) (y : Pt), q < j + 1 → ps[q]? = some y → likeP y p = false) := hide_ (fun hl q y hq hy => by
                rcases Nat.lt_or_ge q j with h | h
                · exact HJ.out q y h hy
                · obtain rfl : q = j := by omega
                  rw [HXj.out] at hy
                  injection hy with hy
                  subst hy
                  exact hl)
              by_cases he : z.label = p.label
              · have hs : (z.label.toList == p.label.toList) = true := by rw [he]; simp
                by_cases ht : z.tag = p.tag
                · have hb : (z.tag == p.tag) = true := by simp [ht]
                  have HV : Hid (allP armOk ps i = false) := hide_ (allP_not hlt (by rw [HOK.out, thereP_take HXj.out hjm (by simp [likeP, he, ht])]; simp))
                  clear he ht
                  go_wp2_with fail
                  go_quiet (fail)
                  have HBq := hide_ (below_to HBf.out (below_drewN HBj.out nq))
                  go_wp2
                  go_ret
                  exact ⟨by rw [HV.out]; rfl, HBq.out⟩
                · have hb : (z.tag == p.tag) = false := by simpa using ht
                  have HJ2 := hide_ (HJn.out (by simp [likeP, ht]))
                  clear he ht
                  go_wp2_with fail
                  go_quiet (fail)
                  have HBq := hide_ (below_drewN HBj.out nq)
                  go_wp2_with fail
                  go_roundw
                  case rel => exact ⟨j + 1, by omega, by go_num, HJ2, HBq⟩
                  case measure => simp [intOf]; omega
              · have hs : (z.label.toList == p.label.toList) = false := by rw [str_eq]; exact decide_eq_false he
                have HJ2 := hide_ (HJn.out (by simp [likeP, he]))
                clear he
                go_wp2_with fail
                go_quiet (fail)
                have HBq := hide_ (below_drewN HBj.out nq)
                go_wp2_with fail
                go_roundw
                case rel => exact ⟨j + 1, by omega, by go_num, HJ2, HBq⟩
                case measure => simp [intOf]; omega
            · obtain rfl : j = m := by omega
              have HA2 : Hid (∀ q, q < j + 1 → okP armOk ps i q = true) := hide_ (fun q hq => by
                rcases Nat.lt_or_ge q j with h | h
                · exact HA.out q h
                · obtain rfl : q = j := by omega
                  rw [HOK.out, thereP_none HJ.out]; rfl)
              have HBn := hide_ (below_to HBx.out HBj.out)
              go_wp2_with fail
              go_roundw
              case rel => exact ⟨j + 1, by omega, by go_num, HA2, HBn⟩
              case measure => simp [intOf]; omega
        · have hlb0 := str_ne p.label [] hlb
          have hlb1 : p.label.toList.isEmpty = false := by
            cases h : p.label.toList with
            | nil => rw [h] at hlb0; simp at hlb0
            | cons a l => rfl
          have HV : Hid (allP armOk ps i = false) := hide_ (allP_not hlt (by rw [HOK.out, ← HB1.out, armOk_eq]; simp [hlb]))
          go_wp2
          go_ret
          exact ⟨by rw [HV.out]; rfl, HBf.out⟩
      · obtain rfl : m = ps.length := by omega
        have HV : Hid (allP armOk ps i = true) := hide_ (allP_of hl.1 hl.2 HA.out)
        go_wp2
        go_ret
        exact ⟨by rw [HV.out]; rfl, below_to HB0.out HB.out⟩
  · have HV : Hid (allP armOk ps i = false) := hide_ (allP_len hl)
    rw [decide_eq_false hl] at HIl
    go_wp2_with (go_at_call 43; refine (HIl.out _).mono ?_; rintro e w' ⟨rfl, rfl⟩)
    go_ret
    exact ⟨by rw [HV.out]; rfl, HB0.out⟩
end Go.Proofs.YtomfidjmbjpceaaDoor
/- The document's Check of a schema: right. -/
namespace Go.Proofs.YtomfidjmbjpceaaDoor
open Go.RowKit
set_option linter.unusedVariables false

set_option maxRecDepth 100000 in
set_option maxHeartbeats 8000000 in
theorem right7_any (n el : Int) (ps : List Pt) (va : Option Addr) (vc : Nat) (i : Nat) (w : World) (hil : i ≤ 9223372036854775806) (hr : Hid (PRow w va ps)) :
    Calls Tryd.prog 40 #[.agg #[.int .i64 7, .int .i64 n, .int .i64 el, .slice va ps.length vc], .int .i64 (i : Int)] w fun e w' => e = .returned (.bool (tyOk ⟨7, n, el, ps⟩ i)) ∧ Below w.heap.size w w' := by
  have hB := below1 w (.cells #[.int .i64 7, .int .i64 n, .int .i64 el, .slice va ps.length vc] 64)
  have kx := Blk.newA w #[.int .i64 7, .int .i64 n, .int .i64 el, .slice va ps.length vc] 64
  obtain ⟨w0, hw0⟩ : ∃ wx, wx = w.alloc (.cells #[.int .i64 7, .int .i64 n, .int .i64 el, .slice va ps.length vc] 64) := ⟨_, rfl⟩
  rw [← hw0] at hB kx
  have HB := hide_ hB
  have HR := hide_ (hr.out.later hB)
  have i0 := kx.cell 0; have i1 := kx.cell 1; have i2 := kx.cell 2; have i3 := kx.cell 3
  simp at i0 i1 i2 i3
  have hwi : wrap64 ((i : Int) - 1) = (i : Int) - 1 := w64 _ (by omega)
  have HL : Hid (((ps.length : Int) == 0) = decide (ps.length = 0)) := hide_ (by
    by_cases h : ps.length = 0
    · simp [h]
    · have h2 : ((ps.length : Int) == 0) = false := by
        have h : ¬ (ps.length : Int) = 0 := by omega
        simpa using h
      rw [h2, decide_eq_false h])
  clear hB kx hr
  go_enter Tryd.func40, Tryd.ntmps40
  go_upto_region 1 with fail
  rw [← hw0]
  clear hw0
  have HT : Hid (tyOk ⟨7, n, el, ps⟩ i = (decide (n = 0) && decide (el = 0) && allP armOk ps i)) := hide_ (by simp [tyOk, nOk, elemOk, hasE, partsOk])
  by_cases hn : n = 0
  · subst hn
    by_cases he : el = 0
    · subst he
      have HC := hide_ (partsR7_any 0 0 ps va vc i w0 hil HR)
      go_wp2_with fail
      refine HC.out.mono ?_; rintro e w' ⟨rfl, hB1⟩
      have HB1 := hide_ hB1
      clear hB1
      go_wp2
      go_ret
      exact ⟨by rw [HT.out]; simp, below_to HB.out HB1.out⟩
    · have he' : (el == 0) = false := by simpa using he
      rw [decide_eq_false he] at HT
      go_wp2
      go_ret
      exact ⟨by rw [HT.out]; simp, HB.out⟩
  · have hn' : (n == 0) = false := by simpa using hn
    rw [decide_eq_false hn] at HT
    go_wp2
    go_ret
    exact ⟨by rw [HT.out]; simp, HB.out⟩
set_option maxRecDepth 100000 in
set_option maxHeartbeats 8000000 in
theorem right8_any (n el : Int) (ps : List Pt) (va : Option Addr) (vc : Nat) (i : Nat) (w : World) (hil : i ≤ 9223372036854775806) (hr : Hid (PRow w va ps)) :
    Calls Tryd.prog 40 #[.agg #[.int .i64 8, .int .i64 n, .int .i64 el, .slice va ps.length vc], .int .i64 (i : Int)] w fun e w' => e = .returned (.bool (tyOk ⟨8, n, el, ps⟩ i)) ∧ Below w.heap.size w w' := by
  have hB := below1 w (.cells #[.int .i64 8, .int .i64 n, .int .i64 el, .slice va ps.length vc] 64)
  have kx := Blk.newA w #[.int .i64 8, .int .i64 n, .int .i64 el, .slice va ps.length vc] 64
  obtain ⟨w0, hw0⟩ : ∃ wx, wx = w.alloc (.cells #[.int .i64 8, .int .i64 n, .int .i64 el, .slice va ps.length vc] 64) := ⟨_, rfl⟩
  rw [← hw0] at hB kx
  have HB := hide_ hB
  have HR := hide_ (hr.out.later hB)
  have i0 := kx.cell 0; have i1 := kx.cell 1; have i2 := kx.cell 2; have i3 := kx.cell 3
  simp at i0 i1 i2 i3
  have hwi : wrap64 ((i : Int) - 1) = (i : Int) - 1 := w64 _ (by omega)
  have HL : Hid (((ps.length : Int) == 0) = decide (ps.length = 0)) := hide_ (by
    by_cases h : ps.length = 0
    · simp [h]
    · have h2 : ((ps.length : Int) == 0) = false := by
        have h : ¬ (ps.length : Int) = 0 := by omega
        simpa using h
      rw [h2, decide_eq_false h])
  clear hB kx hr
  go_enter Tryd.func40, Tryd.ntmps40
  go_upto_region 1 with fail
  rw [← hw0]
  clear hw0
  have HT : Hid (tyOk ⟨8, n, el, ps⟩ i = (decide (n = 0) && decide (el = 0) && allP fieldOk ps i)) := hide_ (by simp [tyOk, nOk, elemOk, hasE, partsOk])
  by_cases hn : n = 0
  · subst hn
    by_cases he : el = 0
    · subst he
      have HC := hide_ (partsR8_any 0 0 ps va vc i w0 hil HR)
      go_wp2_with fail
      refine HC.out.mono ?_; rintro e w' ⟨rfl, hB1⟩
      have HB1 := hide_ hB1
      clear hB1
      go_wp2
      go_ret
      exact ⟨by rw [HT.out]; simp, below_to HB.out HB1.out⟩
    · have he' : (el == 0) = false := by simpa using he
      rw [decide_eq_false he] at HT
      go_wp2
      go_ret
      exact ⟨by rw [HT.out]; simp, HB.out⟩
  · have hn' : (n == 0) = false := by simpa using hn
    rw [decide_eq_false hn] at HT
    go_wp2
    go_ret
    exact ⟨by rw [HT.out]; simp, HB.out⟩
set_option maxRecDepth 100000 in
set_option maxHeartbeats 8000000 in
theorem rightO_any (t : Ty) (hk : ¬ (t.k = 1 ∨ t.k = 2 ∨ t.k = 3 ∨ t.k = 4 ∨ t.k = 5 ∨ t.k = 6 ∨ t.k = 7 ∨ t.k = 8)) (va : Option Addr) (vc : Nat) (i : Nat) (w : World) (hil : i ≤ 9223372036854775806) (hr : Hid (PRow w va t.ps)) :
    Calls Tryd.prog 40 #[.agg #[.int .i64 t.k, .int .i64 t.n, .int .i64 t.e, .slice va t.ps.length vc], .int .i64 (i : Int)] w fun e w' => e = .returned (.bool (tyOk t i)) ∧ Below w.heap.size w w' := by
  obtain ⟨k, n, el, ps⟩ := t
  simp only at hr hk ⊢
  have hB := below1 w (.cells #[.int .i64 k, .int .i64 n, .int .i64 el, .slice va ps.length vc] 64)
  have kx := Blk.newA w #[.int .i64 k, .int .i64 n, .int .i64 el, .slice va ps.length vc] 64
  obtain ⟨w0, hw0⟩ : ∃ wx, wx = w.alloc (.cells #[.int .i64 k, .int .i64 n, .int .i64 el, .slice va ps.length vc] 64) := ⟨_, rfl⟩
  rw [← hw0] at hB kx
  have HB := hide_ hB
  have HR := hide_ (hr.out.later hB)
  have i0 := kx.cell 0; have i1 := kx.cell 1; have i2 := kx.cell 2; have i3 := kx.cell 3
  simp at i0 i1 i2 i3
  have hwi : wrap64 ((i : Int) - 1) = (i : Int) - 1 := w64 _ (by omega)
  have HL : Hid (((ps.length : Int) == 0) = decide (ps.length = 0)) := hide_ (by
    by_cases h : ps.length = 0
    · simp [h]
    · have h2 : ((ps.length : Int) == 0) = false := by
        have h : ¬ (ps.length : Int) = 0 := by omega
        simpa using h
      rw [h2, decide_eq_false h])
  clear hB kx hr
  go_enter Tryd.func40, Tryd.ntmps40
  go_upto_region 1 with fail
  rw [← hw0]
  clear hw0
  have c1 : (k == 1) = false := by simp; omega
  have c2 : (k == 2) = false := by simp; omega
  have c3 : (k == 3) = false := by simp; omega
  have c4 : (k == 4) = false := by simp; omega
  have c5 : (k == 5) = false := by simp; omega
  have c6 : (k == 6) = false := by simp; omega
  have c7 : (k == 7) = false := by simp; omega
  have c8 : (k == 8) = false := by simp; omega
  have hno : nOk k n = false := by
    unfold nOk
    exact decide_eq_false (by omega)
  have HV : Hid (tyOk ⟨k, n, el, ps⟩ i = false) := hide_ (by
    show (nOk k n && _ && _) = false
    rw [hno]
    rfl)
  clear hno
  clear hk
  go_wp2
  go_ret
  exact ⟨by rw [HV.out]; rfl, HB.out⟩
end Go.Proofs.YtomfidjmbjpceaaDoor
/- The document's Check of a schema: right. -/
namespace Go.Proofs.YtomfidjmbjpceaaDoor
open Go.RowKit
set_option linter.unusedVariables false

theorem right_any (t : Ty) (va : Option Addr) (vc : Nat) (i : Nat) (w : World) (hil : i ≤ 9223372036854775806) (hr : Hid (PRow w va t.ps)) :
    Calls Tryd.prog 40 #[.agg #[.int .i64 t.k, .int .i64 t.n, .int .i64 t.e, .slice va t.ps.length vc], .int .i64 (i : Int)] w fun e w' => e = .returned (.bool (tyOk t i)) ∧ Below w.heap.size w w' := by
  by_cases hk : t.k = 1 ∨ t.k = 2 ∨ t.k = 3 ∨ t.k = 4 ∨ t.k = 5 ∨ t.k = 6 ∨ t.k = 7 ∨ t.k = 8
  · obtain ⟨k, n, el, ps⟩ := t
    simp only at hk hr ⊢
    rcases hk with rfl | rfl | rfl | rfl | rfl | rfl | rfl | rfl
    · exact right1_any n el ps va vc i w hil hr
    · exact right2_any n el ps va vc i w hil hr
    · exact right3_any n el ps va vc i w hil hr
    · exact right4_any n el ps va vc i w hil hr
    · exact right5_any n el ps va vc i w hil hr
    · exact right6_any n el ps va vc i w hil hr
    · exact right7_any n el ps va vc i w hil hr
    · exact right8_any n el ps va vc i w hil hr
  · exact rightO_any t hk va vc i w hil hr
end Go.Proofs.YtomfidjmbjpceaaDoor
/- The document's Depths. -/
namespace Go.Proofs.YtomfidjmbjpceaaDoor
open Go.RowKit
set_option linter.unusedVariables false

theorem EInt9 : Elem Tryd.prog 26 3 .i64 8 := ⟨Tryd.underlying26, Tryd.underlying3, by kernel_rfl⟩
theorem getD_bdG {l : List Int} {b : Int} (hb : 0 ≤ b) (h : ∀ x ∈ l, 0 ≤ x ∧ x ≤ b) (n : Nat) : 0 ≤ l.getD n 0 ∧ l.getD n 0 ≤ b := by
  rcases Nat.lt_or_ge n l.length with hn | hn
  · rw [show l.getD n 0 = l[n]'hn by simp [List.getD, hn]]
    exact h _ (List.getElem_mem hn)
  · rw [show l.getD n 0 = 0 by simp [List.getD, List.getElem?_eq_none hn]]; omega
theorem kidD_bdG {l : List Int} {b : Int} (hb : 0 ≤ b) (h : ∀ x ∈ l, 0 ≤ x ∧ x ≤ b) : ∀ (ps : List Pt) (d : Int), 0 ≤ d ∧ d ≤ b → 0 ≤ kidD l ps d ∧ kidD l ps d ≤ b
  | [], d, hd => hd
  | p :: ps, d, hd => by
    have h1 := getD_bdG hb h p.ty.toNat
    have := kidD_bdG hb h ps (max d (l.getD p.ty.toNat 0)) (by omega)
    simpa [kidD] using this
theorem depL_bd (T : List Ty) : ∀ x ∈ depL T, 0 ≤ x ∧ x ≤ (T.length : Int) := by
  refine snoc_ind (P := fun T => ∀ x ∈ depL T, 0 ≤ x ∧ x ≤ (T.length : Int)) (fun x hx => by simp [depL] at hx) (fun T t ih x hx => ?_) T
  rw [depL_snoc] at hx
  rw [List.length_append, List.length_singleton]
  rcases List.mem_append.1 hx with hx | hx
  · have := ih x hx; omega
  · simp at hx
    subst hx
    have h0 : 0 ≤ (if hasE t.k then (depL T).getD t.e.toNat 0 else 0) ∧ (if hasE t.k then (depL T).getD t.e.toNat 0 else 0) ≤ (T.length : Int) := by
      split
      · exact getD_bdG (by omega) ih _
      · omega
    have := kidD_bdG (by omega) ih t.ps _ h0
    unfold dep1
    omega
set_option maxRecDepth 100000 in
set_option maxHeartbeats 8000000 in
theorem depths_any (a : Option Addr) (c : Nat) (vr : Value) (T : List Ty) (w : World) (hn : T.length ≤ 4000000000000) (hL : Hid (LensT T)) (hT : Hid (TRow w a T)) (hok : Hid (∀ j, j < T.length → tyOk (T.getD j ty0) j = true)) :
    Calls Tryd.prog 41 #[.agg #[.slice a T.length c, vr]] w fun e w' => ∃ v, e = .returned v ∧ Hid (w'.ownsRow w.heap.size 3 1 v (depL T).length (cellsL .i64 (depL T))) ∧ Hid (Below w.heap.size w w') := by
  have hB := below1 w (.cells #[.slice a T.length c, vr] 25)
  have kx := Blk.newA w #[.slice a T.length c, vr] 25
  obtain ⟨w0, hw0⟩ : ∃ wx, wx = w.alloc (.cells #[.slice a T.length c, vr] 25) := ⟨_, rfl⟩
  rw [← hw0] at hB kx
  have HB0 := hide_ hB
  have KX := hide_ kx
  have hz0 : w.heap.size < w0.heap.size := kx.lt
  clear hB kx
  go_enter Tryd.func41, Tryd.ntmps41
  go_upto_region 1 with fail
  rw [← hw0]
  clear hw0
  go_wp2_with fail
  go_loopw [3, 4] (fun x3 x4 wr => ∃ (v : Value) (i : Nat), v = x3 ∧ i ≤ T.length ∧ x4 = .int .i64 (i : Int) ∧ Hid (wr.ownsRow w0.heap.size 3 1 v (depL (T.take i)).length (cellsL .i64 (depL (T.take i)))) ∧ Hid (Below w0.heap.size w0 wr)) (fun _ x4 _ => T.length - (intOf x4).toNat)
  case atStart => exact ⟨_, 0, rfl, Nat.zero_le _, rfl, hide_ (World.ownsRow_nil _ _ _ _), hide_ (Below.refl _ _)⟩
  case round =>
    obtain ⟨v, i, rfl, hi, rfl, HO, HB⟩ := hrel
    generalize wr = wq at *
    have i0 := (KX.out.later HB.out).cell 0
    simp at i0
    by_cases hlt : i < T.length
    · have hlt' : (i : Int) < T.length := by omega
      obtain ⟨b, o, rfl, hb, hc⟩ := (hT.out.later (below_to HB0.out HB.out)).open (by omega)
      have hx : T[i]? = some (T[i]'hlt) := List.getElem?_eq_getElem hlt
      obtain ⟨va, vc, hcx, hvc, -, hP⟩ := hc i _ hx
      have hok1 := hok.out i hlt
      rw [show T.getD i ty0 = T[i]'hlt by simp [List.getD, hlt]] at hok1
      have hpl := hL.out.at hx
      have HT : Hid (depL (T.take (i + 1)) = depL (T.take i) ++ [dep1 (depL (T.take i)) (T[i]'hlt)]) := hide_ (by rw [List.take_succ_eq_append_getElem hlt, depL_snoc])
      have hlen : (depL (T.take i)).length = i := by rw [depL_len]; simp; omega
      have hbd : ∀ x ∈ depL (T.take i), 0 ≤ x ∧ x ≤ (i : Int) := fun x hx => by
        have := depL_bd (T.take i) x hx
        rw [List.length_take] at this
        omega
      generalize T[i]'hlt = t at *
      obtain ⟨k, n, el, ps⟩ := t
      simp only at hvc hP hpl hok1 HT
      have HOK := hide_ hok1
      have t0 := hcx 0 (by decide); have t1 := hcx 1 (by decide); have t2 := hcx 2 (by decide); have t3 := hcx 3 (by decide)
      simp [tyc] at t0 t1 t2 t3
      have kt := Blk.newA wq #[.int .i64 k, .int .i64 n, .int .i64 el, .slice va ps.length vc] 64
      have hBx := below1 wq (.cells #[.int .i64 k, .int .i64 n, .int .i64 el, .slice va ps.length vc] 64)
      obtain ⟨wx, hwx⟩ : ∃ wx, wx = wq.alloc (.cells #[.int .i64 k, .int .i64 n, .int .i64 el, .slice va ps.length vc] 64) := ⟨_, rfl⟩
      rw [← hwx] at kt hBx
      have HBx := hide_ (below_to HB.out hBx)
      have HOx := hide_ (ownS_upd HO.out (Upd.of_below (S := fun _ => False) hBx) (fun _ _ h => h))
      have HP := hide_ (hP.later hBx)
      generalize depL (T.take i) = pre at *
      have HPB := hide_ hbd
      have HPL := hide_ hlen
      obtain ⟨av, cv, hvv, hrow, -⟩ := own_open HOx.out rfl
      subst hvv
      have HRow := hide_ hrow
      have j0 := kt.cell 0; have j2 := kt.cell 2; have j3 := kt.cell 3
      simp at j0 j2 j3
      clear kt hBx hP hc hx hcx hok1 hb HO hbd hlen hrow
      go_upto_region 6 with fail
      rw [← hwx]
      clear hwx t0 t1 t2 t3 i0
      obtain ⟨d0, hd0⟩ : ∃ d0, (if hasE k then pre.getD el.toNat 0 else 0) = d0 := ⟨_, rfl⟩
      have HD0 := hide_ hd0
      have hd0b : 0 ≤ d0 ∧ d0 ≤ (i : Int) := by
        rw [← hd0]
        split
        · exact getD_bdG (by omega) HPB.out _
        · omega
      clear hd0
      obtain ⟨be, hbe⟩ : ∃ be, hasE k = be := ⟨_, rfl⟩
      have HE := hide_ hbe
      clear hbe
      go_upto_region 7 with fail
      go_cut [32] from 19 to 32 (fun x32 wc => x32 = .bool be ∧ wx = wc)
      case first =>
        have hE := HE.out
        unfold hasE at hE
        by_cases k4 : k = 4
        · subst k4
          obtain rfl : true = be := by rw [← hE]; rfl
          go_wp2
          go_meet
          case rel => exact ⟨rfl, rfl⟩
        have c4 : (k == 4) = false := by simpa using k4
        by_cases k5 : k = 5
        · subst k5
          obtain rfl : true = be := by rw [← hE]; rfl
          go_wp2
          go_meet
          case rel => exact ⟨rfl, rfl⟩
        have c5 : (k == 5) = false := by simpa using k5
        by_cases k6 : k = 6
        · subst k6
          obtain rfl : true = be := by rw [← hE]; rfl
          go_wp2
          go_meet
          case rel => exact ⟨rfl, rfl⟩
        have c6 : (k == 6) = false := by simpa using k6
        obtain rfl : false = be := by rw [← hE]; exact (decide_eq_false (by omega)).symm
        clear hE
        go_wp2
        go_meet
        case rel => exact ⟨rfl, rfl⟩
      case rest =>
      obtain ⟨rfl, rfl⟩ := hcut
      go_upto_if 32 with fail
      go_cut [6] from 32 to 37 (fun x6 wc => x6 = .int .i64 d0 ∧ wx = wc)
      case first =>
        cases be with
        | true =>
          have hel := tyOk_elem HOK.out HE.out
          simp only at hel
          obtain ⟨ej, rfl⟩ := Int.eq_ofNat_of_zero_le hel.1
          have hejl : ej < pre.length := by rw [HPL.out]; omega
          have hejl' : (ej : Int) < pre.length := by omega
          obtain ⟨bv, ov, rfl, -, hcv⟩ := HRow.out.open (by omega)
          have hd : pre.getD ej 0 = d0 := by rw [← HD0.out, if_pos HE.out]; simp
          have c1 := hcv ej hejl
          rw [hd] at c1
          clear hcv hd hel
          go_wp2
          go_meet
          case rel => exact ⟨rfl, rfl⟩
        | false =>
          have hd : d0 = 0 := by rw [← HD0.out, HE.out]; rfl
          subst hd
          go_wp2
          go_meet
          case rel => exact ⟨rfl, rfl⟩
      case rest =>
      obtain ⟨rfl, rfl⟩ := hcut
      clear j0 j2
      go_wp2_with fail
      go_loop [6, 7] (fun x6 x7 => ∃ (m : Nat) (d : Int), m ≤ ps.length ∧ x7 = .int .i64 (m : Int) ∧ x6 = .int .i64 d ∧ Hid (kidD pre (ps.take m) d0 = d)) (fun _ x7 => ps.length - (intOf x7).toNat)
      case atStart => exact ⟨0, d0, Nat.zero_le _, rfl, rfl, hide_ rfl⟩
      case round =>
        obtain ⟨m, d, hm, rfl, rfl, HK⟩ := hrel
        have hkb := kidD_bdG (by omega) HPB.out (ps.take m) d0 hd0b
        rw [HK.out] at hkb
        by_cases hlm : m < ps.length
        · have hlm' : (m : Int) < ps.length := by omega
          obtain ⟨b2, o2, rfl, -, hc2⟩ := HP.out.open (by omega)
          have hx2 : ps[m]? = some (ps[m]'hlm) := List.getElem?_eq_getElem hlm
          have hcx2 := hc2 m _ hx2
          have hpr := tyOk_part (t := ⟨k, n, el, ps⟩) HOK.out hx2
          have HS := hide_ (kidD_succ (l := pre) (d := d0) hx2)
          generalize ps[m]'hlm = p at *
          obtain ⟨lb, tg, ty⟩ := p
          simp only at hpr HS
          obtain ⟨ej, rfl⟩ := Int.eq_ofNat_of_zero_le hpr.1
          have hejl : ej < pre.length := by rw [HPL.out]; omega
          have hejl' : (ej : Int) < pre.length := by omega
          obtain ⟨bv, ov, rfl, -, hcv⟩ := HRow.out.open (by omega)
          have c1 := hcv ej hejl
          have y2 := hcx2 2 (by decide)
          simp [ptc] at y2
          rw [HK.out, Int.toNat_natCast] at HS
          generalize pre.getD ej 0 = de at *
          clear hc2 hx2 hcx2 hpr hcv hejl
          go_wp2_with fail
          all_goals
            go_round
            case rel => exact ⟨m + 1, _, by omega, by go_num, rfl, hide_ (by rw [HS.out]; omega)⟩
            case measure => simp [intOf]; omega
        · obtain rfl : m = ps.length := by omega
          have HV : Hid (dep1 pre ⟨k, n, el, ps⟩ = d + 1) := hide_ (by
            have h := HK.out
            rw [List.take_length] at h
            unfold dep1
            simp only
            rw [HD0.out, h])
          have hwr : wrap64 (d + 1) = d + 1 := w64 _ (by omega)
          obtain ⟨g, cap, w5, hrun, hO5, hU5, -⟩ := run_push EInt9 wx 26 w0.heap.size (.slice av pre.length cv) pre.length pre HOx.out (d + 1) (by unfold maxLen; rw [HPL.out]; omega) (by rw [HPL.out]; omega) HBx.out.size
          have HB5 := hide_ (HBx.out.trans (hU5.below w0.heap.size HBx.out.size (fun k hk => (HOx.out.lt k hk).1)))
          have HO5 : Hid (w5.ownsRow w0.heap.size 3 1 (.slice (some ⟨g, 0, none⟩) (pre.length + 1) cap) (depL (T.take (i + 1))).length (cellsL .i64 (depL (T.take (i + 1))))) := hide_ (by
            rw [HT.out, HV.out, List.length_append, List.length_singleton]
            exact hO5)
          have HRun := hide_ hrun
          clear hrun hO5 hU5 HT HV HPL
          go_wp2_with (first | (at_builtin; refine wpList_append_run rfl (.tmp 56) (.tmp 59) 26 26 rfl rfl rfl HRun.out ?_; clear HRun))
          go_roundw
          case rel => exact ⟨_, i + 1, rfl, by omega, by go_num, HO5, HB5⟩
          case measure => simp [intOf]; omega
    · obtain rfl : i = T.length := by omega
      have HV : Hid (wq.ownsRow w.heap.size 3 1 v (depL T).length (cellsL .i64 (depL T))) := hide_ (by have h := HO.out; rw [List.take_length] at h; exact own_base h (by omega))
      have HBe := hide_ (below_to HB0.out HB.out)
      go_wp2
      go_ret
      exact ⟨_, rfl, HV, HBe⟩
end Go.Proofs.YtomfidjmbjpceaaDoor
/- The document's Check of a schema. -/
namespace Go.Proofs.YtomfidjmbjpceaaDoor
open Go.RowKit
set_option linter.unusedVariables false

def sameN (R : List Rt) (nm : ByteArray) (j : Nat) : Bool := (R.take j).any (fun q => decide (q.name = nm))
theorem sameN_succ {R : List Rt} {nm : ByteArray} {j : Nat} {q : Rt} (h : R[j]? = some q) : sameN R nm (j + 1) = (sameN R nm j || decide (q.name = nm)) := by
  have hj := (List.getElem?_eq_some_iff.1 h).1
  unfold sameN
  rw [List.take_succ_eq_append_getElem hj, (List.getElem?_eq_some_iff.1 h).2]
  simp
theorem rootOk_doc {n : Nat} {R : List Rt} {i : Nat} {r : Rt} (h : R[i]? = some r) : rootOk n R i = (decide (i < 256) && isName r.name && inB r.ty n && !sameN R r.name i) := by
  have e : R.getD i rt0 = r := by simp [List.getD, h]
  have hi := (List.getElem?_eq_some_iff.1 h).1
  unfold rootOk
  rw [e]
  congr 1
  cases hs : sameN R r.name i with
  | true =>
    unfold sameN at hs
    rw [List.any_eq_true] at hs
    obtain ⟨q, hq, hqn⟩ := hs
    obtain ⟨j, hj⟩ := List.getElem?_of_mem hq
    rw [List.getElem?_take] at hj
    split at hj
    · rename_i hji
      rw [decide_eq_false]
      · rfl
      · intro hf
        unfold findR at hf
        have hlt : R.findIdx (fun q => decide (q.name = r.name)) ≤ j := by
          have hjl := (List.getElem?_eq_some_iff.1 hj).1
          refine Nat.le_of_not_lt (fun h' => ?_)
          have := List.not_of_lt_findIdx h'
          rw [(List.getElem?_eq_some_iff.1 hj).2, hqn] at this
          cases this
        omega
    · cases hj
  | false =>
    unfold sameN at hs
    rw [List.any_eq_false] at hs
    rw [findR_at h rfl (fun j q hj hq => ?_)]
    · simp
    · have := hs q (List.mem_of_getElem? (i := j) (by rw [List.getElem?_take, if_pos hj]; exact hq))
      simpa using this
set_option maxRecDepth 100000 in
set_option maxHeartbeats 8000000 in
theorem checkR_any (a : Option Addr) (c : Nat) (T : List Ty) (ar : Option Addr) (cr : Nat) (R : List Rt) (w : World) (hn : T.length ≤ 3000000000000) (hm : R.length ≤ 10000000000000) (hL : Hid (LensT T)) (hT : Hid (TRow w a T)) (hR : Hid (RRow w ar R)) :
    Calls Tryd.prog 28 #[.agg #[.slice a T.length c, .slice ar R.length cr]] w fun e w' => e = .returned (.agg #[.int .i64 (chk T R).1, .int .i64 (chk T R).2]) ∧ Below w.heap.size w w' := by
  have hB := below2 w (.cells #[.slice a T.length c, .slice ar R.length cr] 25) (.cells #[.int .i64 0, .int .i64 0] 42)
  obtain ⟨k1, k2⟩ := blk2 w #[.slice a T.length c, .slice ar R.length cr] #[.int .i64 0, .int .i64 0] 25 42
  obtain ⟨w0, hw0⟩ : ∃ wx, wx = (w.alloc (.cells #[.slice a T.length c, .slice ar R.length cr] 25)).alloc (.cells #[.int .i64 0, .int .i64 0] 42) := ⟨_, rfl⟩
  rw [← hw0] at hB k1 k2
  have HB0 := hide_ hB
  have K1 := hide_ k1
  have K2 := hide_ k2
  have hs1 : w.heap.size < w0.heap.size := k1.lt
  have hs2 : w.heap.size + 1 < w0.heap.size := k2.lt
  obtain ⟨vE, hE⟩ : ∃ vE, (chk T R).1 = vE := ⟨_, rfl⟩
  obtain ⟨vA, hA⟩ : ∃ vA, (chk T R).2 = vA := ⟨_, rfl⟩
  rw [hE, hA]
  have HC : Hid (chk T R = (vE, vA)) := hide_ (by rw [← hE, ← hA])
  clear hB k1 k2 hE hA
  go_enter Tryd.func28, Tryd.ntmps28
  go_upto_region 1 with fail
  rw [← hw0]
  clear hw0
  go_wp2_with fail
  go_loopw [3] (fun x3 wr => ∃ i : Nat, i ≤ T.length ∧ x3 = .int .i64 (i : Int) ∧ Hid (∀ j, j < i → tyOk (T.getD j ty0) j = true) ∧ Hid (Below w0.heap.size w0 wr)) (fun x3 _ => T.length - (intOf x3).toNat)
  case atStart => exact ⟨0, Nat.zero_le _, rfl, hide_ (fun j hj => by omega), hide_ (Below.refl _ _)⟩
  case round =>
    obtain ⟨i, hi, rfl, HA, HB⟩ := hrel
    generalize wr = wq at *
    have KSq := hide_ (K1.out.later HB.out)
    have i0 := KSq.out.cell 0; have i1 := KSq.out.cell 1
    simp at i0 i1
    by_cases hlt : i < T.length
    · have hlt' : (i : Int) < T.length := by omega
      obtain ⟨b, o, rfl, hb, hc⟩ := (hT.out.later (below_to HB0.out HB.out)).open (by omega)
      have hx : T[i]? = some (T[i]'hlt) := List.getElem?_eq_getElem hlt
      obtain ⟨va, vc, hcx, hvc, -, hP⟩ := hc i _ hx
      have hgd : T.getD i ty0 = T[i]'hlt := by simp [List.getD, hlt]
      have HGD := hide_ hgd
      generalize T[i]'hlt = t at *
      have t0 := hcx 0 (by decide); have t1 := hcx 1 (by decide); have t2 := hcx 2 (by decide); have t3 := hcx 3 (by decide)
      simp [tyc] at t0 t1 t2 t3
      have HCon := hide_ (right_any t va vc i wq (by omega) (hide_ hP))
      obtain ⟨ok, hok⟩ : ∃ ok, tyOk t (i : Int) = ok := ⟨_, rfl⟩
      rw [hok] at HCon
      have HOK := hide_ hok
      clear hc hx hcx hP hok hgd hb
      go_wp2_with fail
      refine HCon.out.mono ?_; rintro e w1 ⟨rfl, hB1⟩
      have HB1 := hide_ (below_to HB.out hB1)
      clear hB1 t0 t1 t2 t3 i0 i1
      cases ok with
      | true =>
        have HA2 : Hid (∀ j, j < i + 1 → tyOk (T.getD j ty0) j = true) := hide_ (fun j hj => by
          rcases Nat.lt_or_ge j i with h | h
          · exact HA.out j h
          · obtain rfl : j = i := by omega
            rw [HGD.out]; exact HOK.out)
        go_wp2_with fail
        go_roundw
        case rel => exact ⟨i + 1, by omega, by go_num, HA2, HB1⟩
        case measure => simp [intOf]; omega
      | false =>
        have HV : Hid (vE = 92 ∧ vA = (i : Int)) := hide_ (by
          have h := chk_ty (R := R) hlt (by rw [HGD.out]; exact HOK.out) HA.out
          rw [HC.out] at h
          injection h with h1 h2
          exact ⟨h1, h2⟩)
        have KF := hide_ (K2.out.later HB1.out)
        have l0 := KF.out.cell 0; have l1 := KF.out.cell 1
        simp at l0 l1
        have f0 := fun i => KF.out.frozen i
        have HK := hide_ (wr2 KF.out (.int .i64 92) (.int .i64 (i : Int)))
        have HBf := hide_ (below_wr2 (below_to HB0.out HB1.out) (w.heap.size + 1) (by omega) (.int .i64 92) (.int .i64 (i : Int)))
        go_wp2
        refine retF (x := 92) (y := (i : Int)) rfl rfl HK.out ⟨by rw [HV.out.1, HV.out.2], HBf.out⟩
    · obtain rfl : i = T.length := by omega
      have HCD : Hid (chkD T R = (vE, vA)) := hide_ (by rw [← chk_deep (R := R) HA.out]; exact HC.out)
      have HDp := hide_ (depths_any a c (.slice ar R.length cr) T wq (by omega) hL (hide_ (hT.out.later (below_to HB0.out HB.out))) HA)
      go_wp2_with fail
      refine HDp.out.mono ?_; rintro e w1 ⟨vd, rfl, HO1, hB1⟩
      have HB1 := hide_ (below_to HB.out hB1.out)
      obtain ⟨ad, cd, hvd, hrow, -⟩ := own_open HO1.out rfl
      subst hvd
      rw [depL_len]
      have HRow := hide_ hrow
      have HDL := hide_ (depL_len T)
      clear hB1 i0 i1 HDp hrow HO1
      go_wp2_with fail
      go_loop [5] (fun x5 => ∃ i : Nat, i ≤ T.length ∧ x5 = .int .i64 (i : Int) ∧ Hid (∀ j, j < i → (depL T).getD j 0 ≤ 64)) (fun x5 => T.length - (intOf x5).toNat)
      case atStart => exact ⟨0, Nat.zero_le _, rfl, hide_ (fun j hj => by omega)⟩
      case round =>
        obtain ⟨i, hi, rfl, HD⟩ := hrel
        by_cases hlt : i < T.length
        · have hlt' : (i : Int) < T.length := by omega
          obtain ⟨bd, od, rfl, -, hcd⟩ := HRow.out.open (by rw [HDL.out]; omega)
          have c1 := hcd i (by rw [HDL.out]; omega)
          obtain ⟨d, hd⟩ : ∃ d, (depL T).getD i 0 = d := ⟨_, rfl⟩
          rw [hd] at c1
          have HDi := hide_ hd
          clear hcd hd
          by_cases hgt : 64 < d
          · have HV : Hid (vE = 83 ∧ vA = (i : Int)) := hide_ (by
              have h := chkD_at (R := R) hlt (by rw [HDi.out]; exact hgt) HD.out
              rw [HCD.out] at h
              injection h with h1 h2
              exact ⟨h1, h2⟩)
            have KF := hide_ (K2.out.later HB1.out)
            have l0 := KF.out.cell 0; have l1 := KF.out.cell 1
            simp at l0 l1
            have f0 := fun i => KF.out.frozen i
            have HK := hide_ (wr2 KF.out (.int .i64 83) (.int .i64 (i : Int)))
            have HBf := hide_ (below_wr2 (below_to HB0.out HB1.out) (w.heap.size + 1) (by omega) (.int .i64 83) (.int .i64 (i : Int)))
            go_wp2
            refine retF (x := 83) (y := (i : Int)) rfl rfl HK.out ⟨by rw [HV.out.1, HV.out.2], HBf.out⟩
          · have HD2 : Hid (∀ j, j < i + 1 → (depL T).getD j 0 ≤ 64) := hide_ (fun j hj => by
              rcases Nat.lt_or_ge j i with h | h
              · exact HD.out j h
              · obtain rfl : j = i := by omega
                rw [HDi.out]; omega)
            go_wp2_with fail
            go_round
            case rel => exact ⟨i + 1, by omega, by go_num, HD2⟩
            case measure => simp [intOf]; omega
        · obtain rfl : i = T.length := by omega
          have HCR : Hid (chkR T.length R = (vE, vA)) := hide_ (by rw [← chkD_none (R := R) HD.out]; exact HCD.out)
          clear HRow HD
          go_wp2_with fail
          go_loopw [6] (fun x6 wr => ∃ i : Nat, i ≤ R.length ∧ x6 = .int .i64 (i : Int) ∧ Hid (∀ j, j < i → rootOk T.length R j = true) ∧ Hid (Below w0.heap.size w0 wr)) (fun x6 _ => R.length - (intOf x6).toNat)
          case atStart => exact ⟨0, Nat.zero_le _, rfl, hide_ (fun j hj => by omega), HB1⟩
          case round =>
            obtain ⟨i, hi, rfl, HAr, HBr⟩ := hrel
            generalize wr = wq at *
            have KSq := hide_ (K1.out.later HBr.out)
            have i0 := KSq.out.cell 0; have i1 := KSq.out.cell 1
            simp at i0 i1
            by_cases hlt : i < R.length
            · have hlt' : (i : Int) < R.length := by omega
              obtain ⟨b, o, rfl, hb, hc⟩ := (hR.out.later (below_to HB0.out HBr.out)).open (by omega)
              have hx : R[i]? = some (R[i]'hlt) := List.getElem?_eq_getElem hlt
              have hcx := hc i _ hx
              have HX := hide_ hx
              generalize R[i]'hlt = r at *
              have r0 := hcx 0 (by decide); have r1 := hcx 1 (by decide)
              simp [rtc] at r0 r1
              have HDoc := hide_ (rootOk_doc (n := T.length) HX.out)
              obtain ⟨nm, hnm⟩ : ∃ x, isName r.name = x := ⟨_, rfl⟩
              obtain ⟨bn, hbn⟩ : ∃ x, inB r.ty T.length = x := ⟨_, rfl⟩
              rw [hnm, hbn] at HDoc
              have HNm : Hid (∀ w, Calls Tryd.prog 42 #[.string r.name] w fun e w' => e = .returned (.bool nm) ∧ w = w') := hide_ (fun w => by have h := nameD_any r.name w; rwa [hnm] at h)
              have HIn : Hid (∀ w, Calls Tryd.prog 43 #[.int .i64 r.ty, .int .i64 0, .int .i64 ((T.length : Int) - 1)] w fun e w' => e = .returned (.bool bn) ∧ w = w') := hide_ (fun w => by have h := inR_any r.ty 0 ((T.length : Int) - 1) w; rwa [inR_at, hbn] at h)
              have hwt : wrap64 ((T.length : Int) - 1) = (T.length : Int) - 1 := w64 _ (by omega)
              obtain ⟨b0, hb0⟩ : ∃ x, (decide (i < 256) && nm && bn) = x := ⟨_, rfl⟩
              rw [hb0] at HDoc
              have HB00 := hide_ hb0
              have HRq := hide_ (hR.out.later (below_to HB0.out HBr.out))
              clear hc hx hcx hnm hbn hb0 hb
              go_upto_region 15 with fail
              go_cut [7] from 47 to 71 (fun x7 wc => x7 = .bool b0 ∧ ∃ w1, w1 = wc ∧ Hid (Below wq.heap.size wq w1))
              case first =>
                by_cases h256 : i < 256
                · have h256' : (i : Int) < 256 := by omega
                  have hB := HB00.out
                  rw [decide_eq_true h256] at hB
                  cases nm with
                  | false =>
                    obtain rfl : false = b0 := by rw [← hB]; rfl
                    clear hB
                    go_wp2_with fail
                    go_quiet (first | (go_at_call 42; exact Calls.quiet_of_same ((HNm.out _).mono fun _ _ h => ⟨h.1, h.2.symm⟩)))
                    go_wp2
                    go_meet
                    case rel => exact ⟨rfl, _, rfl, hide_ (below_drewN (Below.refl _ wq) nq)⟩
                  | true =>
                    obtain rfl : bn = b0 := by rw [← hB]; rfl
                    clear hB
                    go_wp2_with fail
                    go_quiet (first | (go_at_call 42; exact Calls.quiet_of_same ((HNm.out _).mono fun _ _ h => ⟨h.1, h.2.symm⟩)) | (go_at_call 43; exact Calls.quiet_of_same ((HIn.out _).mono fun _ _ h => ⟨h.1, h.2.symm⟩)))
                    go_wp2
                    go_meet
                    case rel => exact ⟨rfl, _, rfl, hide_ (below_drewN (Below.refl _ wq) nq)⟩
                · have h256' : decide ((i : Int) < 256) = false := decide_eq_false (by omega)
                  obtain rfl : false = b0 := by rw [← HB00.out, decide_eq_false h256]; rfl
                  go_wp2_with fail
                  go_quiet (fail)
                  go_wp2
                  go_meet
                  case rel => exact ⟨rfl, _, rfl, hide_ (below_drewN (Below.refl _ wq) nq)⟩
              case rest =>
              obtain ⟨rfl, w1, rfl, HBc⟩ := hcut
              clear i0 i1 r0 r1 HNm HIn HB00
              go_wp2_with fail
              go_loopw [7, 8] (fun x7 x8 wr => ∃ (j : Nat) (ok : Bool), j ≤ i ∧ x8 = .int .i64 (j : Int) ∧ x7 = .bool ok ∧ Hid ((b0 && !sameN R r.name j) = ok) ∧ Hid (Below wq.heap.size wq wr)) (fun _ x8 _ => i - (intOf x8).toNat)
              case atStart => exact ⟨0, b0, Nat.zero_le _, rfl, rfl, hide_ (by simp [sameN]), HBc⟩
              case round =>
                obtain ⟨j, ok, hj, rfl, rfl, HOk, HBj⟩ := hrel
                generalize wr = wp at *
                clear HBc
                have KSp := hide_ (KSq.out.later HBj.out)
                have i0 := KSp.out.cell 0; have i1 := KSp.out.cell 1
                simp at i0 i1
                have HBw := hide_ (below_to HBr.out HBj.out)
                by_cases hji : j < i
                · have hji' : (j : Int) < i := by omega
                  have hjl : j < R.length := by omega
                  have hjl' : (j : Int) < R.length := by omega
                  obtain ⟨b', o', hax, -, hc⟩ := (HRq.out.later HBj.out).open (by omega)
                  injection hax with hax
                  injection hax with e1 e2 _
                  subst e1 e2
                  have hx : R[j]? = some (R[j]'hjl) := List.getElem?_eq_getElem hjl
                  have q0 := hc j _ hx 0 (by decide)
                  have p0 := hc i _ HX.out 0 (by decide)
                  have HS := hide_ (sameN_succ (nm := r.name) hx)
                  generalize R[j]'hjl = q at *
                  simp [rtc] at q0 p0
                  clear hc hx
                  cases ok with
                  | false =>
                    have HO2 : Hid ((b0 && !sameN R r.name (j + 1)) = false) := hide_ (by
                      have h := HOk.out
                      rw [HS.out]
                      cases b0
                      · rfl
                      · simp at h ⊢; simp [h])
                    go_wp2_with fail
                    go_quiet (fail)
                    have HBq := hide_ (below_drewN HBj.out nq)
                    go_wp2_with fail
                    go_roundw
                    case rel => exact ⟨j + 1, false, by omega, by go_num, rfl, HO2, HBq⟩
                    case measure => simp [intOf]; omega
                  | true =>
                    by_cases he : q.name = r.name
                    · have hs : (q.name.toList == r.name.toList) = true := by rw [he]; simp
                      have hs2 : (q.name.toList != r.name.toList) = false := by rw [he]; simp
                      have HO2 : Hid ((b0 && !sameN R r.name (j + 1)) = false) := hide_ (by rw [HS.out, decide_eq_true he]; simp)
                      clear he
                      go_wp2_with fail
                      go_quiet (fail)
                      have HBq := hide_ (below_drewN HBj.out nq)
                      go_wp2_with fail
                      go_roundw
                      case rel => exact ⟨j + 1, false, by omega, by go_num, rfl, HO2, HBq⟩
                      case measure => simp [intOf]; omega
                    · have hs : (q.name.toList == r.name.toList) = false := by rw [str_eq]; exact decide_eq_false he
                      have hs2 : (q.name.toList != r.name.toList) = true := by simp [bne, hs]
                      have HO2 : Hid ((b0 && !sameN R r.name (j + 1)) = true) := hide_ (by rw [HS.out, decide_eq_false he, Bool.or_false]; exact HOk.out)
                      clear he
                      go_wp2_with fail
                      go_quiet (fail)
                      have HBq := hide_ (below_drewN HBj.out nq)
                      go_wp2_with fail
                      go_roundw
                      case rel => exact ⟨j + 1, true, by omega, by go_num, rfl, HO2, HBq⟩
                      case measure => simp [intOf]; omega
                · obtain rfl : j = i := by omega
                  have HRo : Hid (rootOk T.length R j = ok) := hide_ (by rw [HDoc.out]; exact HOk.out)
                  cases ok with
                  | true =>
                    have HA2 : Hid (∀ q, q < j + 1 → rootOk T.length R q = true) := hide_ (fun q hq => by
                      rcases Nat.lt_or_ge q j with h | h
                      · exact HAr.out q h
                      · obtain rfl : q = j := by omega
                        exact HRo.out)
                    go_wp2_with fail
                    go_roundw
                    case rel => exact ⟨j + 1, by omega, by go_num, HA2, HBw⟩
                    case measure => simp [intOf]; omega
                  | false =>
                    have HV : Hid (vE = 92 ∧ vA = (T.length : Int) + j) := hide_ (by
                      have h := chkR_at hlt HRo.out HAr.out
                      rw [HCR.out] at h
                      injection h with h1 h2
                      exact ⟨h1, h2⟩)
                    have KF := hide_ (K2.out.later HBw.out)
                    have l0 := KF.out.cell 0; have l1 := KF.out.cell 1
                    simp at l0 l1
                    have f0 := fun i => KF.out.frozen i
                    have hwr : wrap64 ((T.length : Int) + j) = (T.length : Int) + j := w64 _ (by omega)
                    have HK := hide_ (wr2 KF.out (.int .i64 92) (.int .i64 ((T.length : Int) + j)))
                    have HBf := hide_ (below_wr2 (below_to HB0.out HBw.out) (w.heap.size + 1) (by omega) (.int .i64 92) (.int .i64 ((T.length : Int) + j)))
                    go_wp2
                    refine retF (x := 92) (y := (T.length : Int) + j) rfl rfl HK.out ⟨by rw [HV.out.1, HV.out.2], HBf.out⟩
            · obtain rfl : i = R.length := by omega
              have HV : Hid (vE = 0 ∧ vA = 0) := hide_ (by
                have h := chkR_none HAr.out
                rw [HCR.out] at h
                injection h with h1 h2
                exact ⟨h1, h2⟩)
              have KF := hide_ (K2.out.later HBr.out)
              have l0 := KF.out.cell 0; have l1 := KF.out.cell 1
              simp at l0 l1
              have f0 := fun i => KF.out.frozen i
              have HK := hide_ (wr2 KF.out (.int .i64 0) (.int .i64 0))
              have HBf := hide_ (below_wr2 (below_to HB0.out HBr.out) (w.heap.size + 1) (by omega) (.int .i64 0) (.int .i64 0))
              go_wp2
              refine retF (x := 0) (y := 0) rfl rfl HK.out ⟨by rw [HV.out.1, HV.out.2], HBf.out⟩
end Go.Proofs.YtomfidjmbjpceaaDoor
/- The document's Number, Right, Check of nodes. -/
namespace Go.Proofs.YtomfidjmbjpceaaDoor
open Go.RowKit
set_option linter.unusedVariables false
set_option linter.unusedSimpArgs false

def numV (k n : Int) : Bool := decide ((1 ≤ k ∧ k ≤ 6) ∧ n ≤ mostN k)
theorem kind_cases (k : Int) : k = 1 ∨ k = 2 ∨ k = 3 ∨ k = 4 ∨ k = 5 ∨ k = 6 ∨ (k ≠ 1 ∧ k ≠ 2 ∧ k ≠ 3 ∧ k ≠ 4 ∧ k ≠ 5 ∧ k ≠ 6) := by omega
set_option maxRecDepth 100000 in
set_option maxHeartbeats 4000000 in
theorem numberD_any (k n : Int) (w : World) (h0 : 0 ≤ n ∧ n ≤ 18446744073709551615) : Calls Tryd.prog 52 #[.int .i64 k, .int .u64 n] w fun e w' => e = .returned (.bool (numV k n)) ∧ w = w' := by
  go_enter Tryd.func52, Tryd.ntmps52
  rcases kind_cases k with rfl | rfl | rfl | rfl | rfl | rfl | ⟨k1, k2, k3, k4, k5, k6⟩
  · have hn : numV 1 n = true := by simp [numV, mostN]; omega
    rw [hn]
    go_wp2
    go_ret
    exact ⟨rfl, rfl⟩
  · by_cases h : n ≤ 1
    · have hn : numV 2 n = true := by simp [numV, mostN]; omega
      rw [hn]
      go_wp2
      go_ret
      exact ⟨by first | rfl | (simp [h]), rfl⟩
    · have hn : numV 2 n = false := by simp [numV, mostN]; omega
      rw [hn]
      go_wp2
      go_ret
      exact ⟨by first | rfl | (simp [h]), rfl⟩
  · by_cases h : n = 0
    · subst h
      go_wp2
      go_ret
      exact ⟨rfl, rfl⟩
    · have hn : numV 3 n = false := by simp [numV, mostN]; omega
      have hb : (n == 0) = false := by simpa using h
      rw [hn]
      go_wp2
      go_ret
      exact ⟨rfl, rfl⟩
  · by_cases h : n = 0
    · subst h
      go_wp2
      go_ret
      exact ⟨rfl, rfl⟩
    · have hn : numV 4 n = false := by simp [numV, mostN]; omega
      have hb : (n == 0) = false := by simpa using h
      rw [hn]
      go_wp2
      go_ret
      exact ⟨rfl, rfl⟩
  · by_cases h : n = 0
    · subst h
      go_wp2
      go_ret
      exact ⟨rfl, rfl⟩
    · have hn : numV 5 n = false := by simp [numV, mostN]; omega
      have hb : (n == 0) = false := by simpa using h
      rw [hn]
      go_wp2
      go_ret
      exact ⟨rfl, rfl⟩
  · by_cases h : n ≤ 255
    · have hn : numV 6 n = true := by simp [numV, mostN]; omega
      rw [hn]
      go_wp2
      go_ret
      exact ⟨by first | rfl | (simp [h]), rfl⟩
    · have hn : numV 6 n = false := by simp [numV, mostN]; omega
      rw [hn]
      go_wp2
      go_ret
      exact ⟨by first | rfl | (simp [h]), rfl⟩
  · have hn : numV k n = false := by simp [numV]; intros; omega
    rw [hn]
    have b1 : (k == 1) = false := by simpa using k1
    have b2 : (k == 2) = false := by simpa using k2
    have b3 : (k == 3) = false := by simpa using k3
    have b4 : (k == 4) = false := by simpa using k4
    have b5 : (k == 5) = false := by simpa using k5
    have b6 : (k == 6) = false := by simpa using k6
    by_cases h : n = 0
    · subst h
      go_wp2
      go_ret
      exact ⟨rfl, rfl⟩
    · have hb : (n == 0) = false := by simpa using h
      go_wp2
      go_ret
      exact ⟨rfl, rfl⟩
set_option maxRecDepth 100000 in
set_option maxHeartbeats 4000000 in
theorem rightD_any (x : Nv) (w : World) (h0 : 0 ≤ x.n ∧ x.n ≤ 18446744073709551615) : Calls Tryd.prog 38 #[nvv x] w fun e w' => e = .returned (.bool (rightV x)) ∧ Below w.heap.size w w' := by
  obtain ⟨k, n, c⟩ := x
  simp only at h0
  unfold nvv
  obtain ⟨wA, hwA⟩ : ∃ wA, wA = w.alloc (.cells #[.int .i64 k, .int .u64 n, .int .i64 c] 49) := ⟨_, rfl⟩
  have HB : Hid (Below w.heap.size w wA) := by rw [hwA]; exact (Below.refl _ _).alloc (Nat.le_refl _) _
  have K := Blk.newA w #[.int .i64 k, .int .u64 n, .int .i64 c] 49
  rw [← hwA] at K
  have c0 : wA.cell? ⟨w.heap.size, 0, none⟩ = some (.int .i64 k) := K.cell 0
  have c1 : wA.cell? ⟨w.heap.size, 1, none⟩ = some (.int .u64 n) := K.cell 1
  have c2 : wA.cell? ⟨w.heap.size, 2, none⟩ = some (.int .i64 c) := K.cell 2
  go_enter Tryd.func38, Tryd.ntmps38
  go_upto_region 1 with fail
  rw [← hwA]
  clear hwA K
  go_wp2_with fail
  refine (numberD_any k n wA h0).mono ?_; rintro e w1 ⟨rfl, rfl⟩
  cases hnb : numV k n
  · have hr : rightV ⟨k, n, c⟩ = false := by simp [numV] at hnb; simp [rightV]; intros; omega
    go_wp2
    go_ret
    exact ⟨by rw [hr]; rfl, HB.out⟩
  · have hnb' : (1 ≤ k ∧ k ≤ 6) ∧ n ≤ mostN k := by simpa [numV] using hnb
    clear hnb
    rcases kind_cases k with rfl | rfl | rfl | rfl | rfl | rfl | ⟨k1, k2, k3, k4, k5, k6⟩
    · by_cases h : c = 0
      · subst h
        have hr : rightV ⟨1, n, 0⟩ = true := (rightV_iff _).2 ⟨hnb'.1, hnb'.2, by simp [leastK], by simp [mostK]⟩
        go_wp2
        go_ret
        exact ⟨by rw [hr]; rfl, HB.out⟩
      · have hr : rightV ⟨1, n, c⟩ = false := by simp [rightV, leastK, mostK]; intros; omega
        have hb : (c == 0) = false := by simpa using h
        go_wp2
        go_ret
        exact ⟨by rw [hr]; rfl, HB.out⟩
    · by_cases h : c = 0
      · subst h
        have hr : rightV ⟨2, n, 0⟩ = true := (rightV_iff _).2 ⟨hnb'.1, hnb'.2, by simp [leastK], by simp [mostK]⟩
        go_wp2
        go_ret
        exact ⟨by rw [hr]; rfl, HB.out⟩
      · have hr : rightV ⟨2, n, c⟩ = false := by simp [rightV, leastK, mostK]; intros; omega
        have hb : (c == 0) = false := by simpa using h
        go_wp2
        go_ret
        exact ⟨by rw [hr]; rfl, HB.out⟩
    · by_cases h : 0 ≤ c
      · by_cases h2 : c ≤ 1048576
        · have hr : rightV ⟨3, n, c⟩ = true := (rightV_iff _).2 ⟨hnb'.1, hnb'.2, by simpa [leastK] using h, by simpa [mostK] using h2⟩
          go_wp2
          go_ret
          exact ⟨by first | (rw [hr]; rfl) | (rw [hr]; simp [h2]; done) | rfl | (simp [h2]; done), HB.out⟩
        · have hr : rightV ⟨3, n, c⟩ = false := by simp [rightV, leastK, mostK]; intros; omega
          go_wp2
          go_ret
          exact ⟨by first | (rw [hr]; rfl) | (rw [hr]; simp [h2]; done) | rfl | (simp [h2]; done), HB.out⟩
      · have hr : rightV ⟨3, n, c⟩ = false := by simp [rightV, leastK, mostK]; intros; omega
        go_wp2
        go_ret
        exact ⟨by first | (rw [hr]; rfl) | (rw [hr]; simp [h]; done) | rfl | (simp [h]; done), HB.out⟩
    · by_cases h : 1 ≤ c
      · by_cases h2 : c ≤ 64
        · have hr : rightV ⟨4, n, c⟩ = true := (rightV_iff _).2 ⟨hnb'.1, hnb'.2, by simpa [leastK] using h, by simpa [mostK] using h2⟩
          go_wp2
          go_ret
          exact ⟨by first | (rw [hr]; rfl) | (rw [hr]; simp [h2]; done) | rfl | (simp [h2]; done), HB.out⟩
        · have hr : rightV ⟨4, n, c⟩ = false := by simp [rightV, leastK, mostK]; intros; omega
          go_wp2
          go_ret
          exact ⟨by first | (rw [hr]; rfl) | (rw [hr]; simp [h2]; done) | rfl | (simp [h2]; done), HB.out⟩
      · have hr : rightV ⟨4, n, c⟩ = false := by simp [rightV, leastK, mostK]; intros; omega
        go_wp2
        go_ret
        exact ⟨by first | (rw [hr]; rfl) | (rw [hr]; simp [h]; done) | rfl | (simp [h]; done), HB.out⟩
    · by_cases h : c = 0
      · subst h
        have hr : rightV ⟨5, n, 0⟩ = true := (rightV_iff _).2 ⟨hnb'.1, hnb'.2, by simp [leastK], by simp [mostK]⟩
        go_wp2
        go_ret
        exact ⟨by rw [hr]; rfl, HB.out⟩
      · have hb : (c == 0) = false := by simpa using h
        by_cases h2 : c = 1
        · subst h2
          have hr : rightV ⟨5, n, 1⟩ = true := (rightV_iff _).2 ⟨hnb'.1, hnb'.2, by simp [leastK], by simp [mostK]⟩
          go_wp2
          go_ret
          exact ⟨by rw [hr]; rfl, HB.out⟩
        · have hb2 : (c == 1) = false := by simpa using h2
          have hr : rightV ⟨5, n, c⟩ = false := by simp [rightV, leastK, mostK]; intros; omega
          go_wp2
          go_ret
          exact ⟨by rw [hr]; rfl, HB.out⟩
    · by_cases h : c = 1
      · subst h
        have hr : rightV ⟨6, n, 1⟩ = true := (rightV_iff _).2 ⟨hnb'.1, hnb'.2, by simp [leastK], by simp [mostK]⟩
        go_wp2
        go_ret
        exact ⟨by rw [hr]; rfl, HB.out⟩
      · have hr : rightV ⟨6, n, c⟩ = false := by simp [rightV, leastK, mostK]; intros; omega
        have hb : (c == 1) = false := by simpa using h
        go_wp2
        go_ret
        exact ⟨by rw [hr]; rfl, HB.out⟩
    · omega
set_option maxRecDepth 100000 in
set_option maxHeartbeats 4000000 in
theorem checkN_any (a : Option Addr) (len cap : Nat) (l : List Nv) (w : World) (hl : l.length = len) (hs : len ≤ 2000000) (hr : Hid (VRow w a l)) (hn : Hid (∀ x ∈ l, NvOk x)) :
    Calls Tryd.prog 24 #[.slice a len cap] w fun e w' => e = .returned (.tuple #[.int .i64 (chkV 1 0 l).1, .int .i64 (chkV 1 0 l).2]) ∧ Below w.heap.size w w' := by
  obtain ⟨E, hE⟩ : ∃ E, (chkV 1 0 l).1 = E := ⟨_, rfl⟩
  obtain ⟨A, hA⟩ : ∃ A, (chkV 1 0 l).2 = A := ⟨_, rfl⟩
  rw [hE, hA]
  have HEA : Hid (chkV 1 0 l = (E, A)) := hide_ (by rw [← hE, ← hA])
  clear hE hA
  go_enter Tryd.func24, Tryd.ntmps24
  go_wp2_with fail
  go_loopw [4, 5] (fun m i wr => ∃ (M : Int) (k : Nat), k ≤ len ∧ i = .int .i64 k ∧ m = .int .i64 M ∧ 0 ≤ M ∧ M ≤ 1 + 1048576 * (k : Int) ∧ Hid (chkV M k (l.drop k) = (E, A)) ∧ Hid (Below w.heap.size w wr)) (fun _ i _ => len - (intOf i).toNat)
  case atStart => exact ⟨1, 0, Nat.zero_le _, rfl, rfl, by omega, by omega, hide_ (by simpa using HEA.out), hide_ (Below.refl _ _)⟩
  case round =>
    obtain ⟨M, k, hk, rfl, rfl, hM0, hM1, HC, HB⟩ := hrel
    generalize wr = wq at *
    clear HEA
    by_cases hlt : k < len
    · have hlt' : (k : Int) < len := by omega
      have hkl : k < l.length := by omega
      obtain ⟨b, off, rfl, hb, hc⟩ := (hr.out.later HB.out).open (by omega)
      have hx : l[k]? = some (l[k]'hkl) := List.getElem?_eq_getElem hkl
      have d0 := hc k _ hx 0 (by decide); have d1 := hc k _ hx 1 (by decide); have d2 := hc k _ hx 2 (by decide)
      have HC1 : Hid (chkV M k ((l[k]'hkl) :: l.drop (k + 1)) = (E, A)) := hide_ (by
        have := HC.out
        rw [List.drop_eq_getElem_cons hkl] at this
        exact this)
      have hnk := hn.out _ (List.mem_of_getElem? hx)
      simp [nvc] at d0 d1 d2
      generalize l[k]'hkl = x at *
      obtain ⟨xk, xn, xc⟩ := x
      simp only at d0 d1 d2
      have hnk' : 0 ≤ xn ∧ xn ≤ 18446744073709551615 := ⟨hnk.1, by have := hnk.2; simp only at this; omega⟩
      have HRt := hide_ (rightD_any ⟨xk, xn, xc⟩ wq hnk')
      have hbq := hb
      clear hc hx HC hnk hnk'
      by_cases hM : M = 0
      · subst hM
        have HE : Hid ((E, A) = (40, (k : Int))) := hide_ (by
          have := HC1.out
          rw [chkV, if_pos (.inl rfl)] at this
          exact this.symm)
        have hE1 : E = 40 := (Prod.mk.inj HE.out).1
        have hA1 : A = (k : Int) := (Prod.mk.inj HE.out).2
        subst hE1 hA1
        go_wp2
        go_ret2
        exact ⟨rfl, HB.out⟩
      · have hbM : (M == 0) = false := by simpa using hM
        unfold nvv at HRt
        go_wp2_with fail
        refine HRt.out.mono ?_; rintro e w1 ⟨rfl, hB1⟩
        have HB1 := hide_ (below_to HB.out hB1)
        have f2 := (hB1.cell (p := ⟨b, off + k * 3 + 2, none⟩) hbq).trans d2
        clear hB1 d0 d1 d2
        by_cases hxr : rightV ⟨xk, xn, xc⟩ = true
        · have HC2 : Hid (chkV (M + (xc - 1)) ((k : Int) + 1) (l.drop (k + 1)) = (E, A)) := hide_ (by
            have := HC1.out
            rw [chkV, if_neg (by simp [hM, hxr])] at this
            exact this)
          have hxc := rightV_kids hxr
          simp only at hxc
          clear HC1 HB
          rw [hxr]
          have hw1 : wrap64 (M - 1) = M - 1 := w64 _ (by omega)
          have hw2 : wrap64 (M - 1 + xc) = M - 1 + xc := w64 _ (by clear hw1; omega)
          go_wp2
          clear hw1 hw2
          go_roundw
          case rel => exact ⟨M + (xc - 1), k + 1, by omega, by go_num, by first | rfl | (congr 1; omega), by omega, by omega, hide_ (by have := HC2.out; push_cast; exact this), HB1⟩
          case measure => simp [intOf]; omega
        · have hx' : rightV ⟨xk, xn, xc⟩ = false := by simpa using hxr
          have HE : Hid ((E, A) = (40, (k : Int))) := hide_ (by
            have := HC1.out
            rw [chkV, if_pos (.inr hx')] at this
            exact this.symm)
          have hE1 : E = 40 := (Prod.mk.inj HE.out).1
          have hA1 : A = (k : Int) := (Prod.mk.inj HE.out).2
          subst hE1 hA1
          rw [hx']
          go_wp2
          go_ret2
          exact ⟨rfl, HB1.out⟩
    · obtain rfl : k = len := by omega
      have HC1 := HC.out
      rw [List.drop_eq_nil_of_le (by omega), chkV] at HC1
      have hnl : ¬ ((k : Int) < (k : Int)) := by omega
      by_cases hM : 0 < M
      · rw [if_pos hM] at HC1
        have hE1 : E = 40 := (Prod.mk.inj HC1).1.symm
        have hA1 : A = (k : Int) := (Prod.mk.inj HC1).2.symm
        subst hE1 hA1
        clear HC1
        go_wp2
        go_ret2
        exact ⟨rfl, HB.out⟩
      · rw [if_neg hM] at HC1
        have hE1 : E = 0 := (Prod.mk.inj HC1).1.symm
        have hA1 : A = 0 := (Prod.mk.inj HC1).2.symm
        subst hE1 hA1
        clear HC1
        go_wp2
        go_ret2
        exact ⟨rfl, HB.out⟩
end Go.Proofs.YtomfidjmbjpceaaDoor
/- The document's Elem and Fits. -/
namespace Go.Proofs.YtomfidjmbjpceaaDoor
open Go.RowKit
set_option linter.unusedVariables false

/-- The type of a kid. -/
def elemP (t : Ty) (x : Nv) (j : Nat) : Int :=
  if t.k = 8 then (t.ps.getD j pt0).ty else
  if t.k = 7 then (match armI t.ps x.n with | some i => (t.ps.getD i pt0).ty | none => -1) else t.e
set_option maxRecDepth 100000 in
set_option maxHeartbeats 4000000 in
theorem elem4_any (n el : Int) (ps : List Pt) (va : Option Addr) (vc : Nat) (xk xn xd : Int) (j : Int) (w : World) : Calls Tryd.prog 63 #[.agg #[.int .i64 4, .int .i64 n, .int .i64 el, .slice va ps.length vc], .agg #[.int .i64 xk, .int .u64 xn, .int .i64 xd], .int .i64 j] w fun e w' => e = .returned (.int .i64 el) ∧ Below w.heap.size w w' := by
  have hB := below2 w (.cells #[.int .i64 4, .int .i64 n, .int .i64 el, .slice va ps.length vc] 64) (.cells #[.int .i64 xk, .int .u64 xn, .int .i64 xd] 49)
  obtain ⟨k1, k2⟩ := blk2 w #[.int .i64 4, .int .i64 n, .int .i64 el, .slice va ps.length vc] #[.int .i64 xk, .int .u64 xn, .int .i64 xd] 64 49
  obtain ⟨w0, hw0⟩ : ∃ wx, wx = (w.alloc (.cells #[.int .i64 4, .int .i64 n, .int .i64 el, .slice va ps.length vc] 64)).alloc (.cells #[.int .i64 xk, .int .u64 xn, .int .i64 xd] 49) := ⟨_, rfl⟩
  rw [← hw0] at hB k1 k2
  have K1 := hide_ k1
  have K2 := hide_ k2
  have HB := hide_ hB
  have i0 := k1.cell 0; have i1 := k1.cell 1; have i2 := k1.cell 2; have i3 := k1.cell 3
  have j0 := k2.cell 0; have j1 := k2.cell 1; have j2 := k2.cell 2
  simp at i0 i1 i2 i3 j0 j1 j2
  clear hB k1 k2
  go_enter Tryd.func63, Tryd.ntmps63
  go_upto_region 1 with fail
  rw [← hw0]
  clear hw0
  go_wp2
  go_ret
  exact ⟨rfl, HB.out⟩
set_option maxRecDepth 100000 in
set_option maxHeartbeats 4000000 in
theorem elem5_any (n el : Int) (ps : List Pt) (va : Option Addr) (vc : Nat) (xk xn xd : Int) (j : Int) (w : World) : Calls Tryd.prog 63 #[.agg #[.int .i64 5, .int .i64 n, .int .i64 el, .slice va ps.length vc], .agg #[.int .i64 xk, .int .u64 xn, .int .i64 xd], .int .i64 j] w fun e w' => e = .returned (.int .i64 el) ∧ Below w.heap.size w w' := by
  have hB := below2 w (.cells #[.int .i64 5, .int .i64 n, .int .i64 el, .slice va ps.length vc] 64) (.cells #[.int .i64 xk, .int .u64 xn, .int .i64 xd] 49)
  obtain ⟨k1, k2⟩ := blk2 w #[.int .i64 5, .int .i64 n, .int .i64 el, .slice va ps.length vc] #[.int .i64 xk, .int .u64 xn, .int .i64 xd] 64 49
  obtain ⟨w0, hw0⟩ : ∃ wx, wx = (w.alloc (.cells #[.int .i64 5, .int .i64 n, .int .i64 el, .slice va ps.length vc] 64)).alloc (.cells #[.int .i64 xk, .int .u64 xn, .int .i64 xd] 49) := ⟨_, rfl⟩
  rw [← hw0] at hB k1 k2
  have K1 := hide_ k1
  have K2 := hide_ k2
  have HB := hide_ hB
  have i0 := k1.cell 0; have i1 := k1.cell 1; have i2 := k1.cell 2; have i3 := k1.cell 3
  have j0 := k2.cell 0; have j1 := k2.cell 1; have j2 := k2.cell 2
  simp at i0 i1 i2 i3 j0 j1 j2
  clear hB k1 k2
  go_enter Tryd.func63, Tryd.ntmps63
  go_upto_region 1 with fail
  rw [← hw0]
  clear hw0
  go_wp2
  go_ret
  exact ⟨rfl, HB.out⟩
set_option maxRecDepth 100000 in
set_option maxHeartbeats 4000000 in
theorem elem6_any (n el : Int) (ps : List Pt) (va : Option Addr) (vc : Nat) (xk xn xd : Int) (j : Int) (w : World) : Calls Tryd.prog 63 #[.agg #[.int .i64 6, .int .i64 n, .int .i64 el, .slice va ps.length vc], .agg #[.int .i64 xk, .int .u64 xn, .int .i64 xd], .int .i64 j] w fun e w' => e = .returned (.int .i64 el) ∧ Below w.heap.size w w' := by
  have hB := below2 w (.cells #[.int .i64 6, .int .i64 n, .int .i64 el, .slice va ps.length vc] 64) (.cells #[.int .i64 xk, .int .u64 xn, .int .i64 xd] 49)
  obtain ⟨k1, k2⟩ := blk2 w #[.int .i64 6, .int .i64 n, .int .i64 el, .slice va ps.length vc] #[.int .i64 xk, .int .u64 xn, .int .i64 xd] 64 49
  obtain ⟨w0, hw0⟩ : ∃ wx, wx = (w.alloc (.cells #[.int .i64 6, .int .i64 n, .int .i64 el, .slice va ps.length vc] 64)).alloc (.cells #[.int .i64 xk, .int .u64 xn, .int .i64 xd] 49) := ⟨_, rfl⟩
  rw [← hw0] at hB k1 k2
  have K1 := hide_ k1
  have K2 := hide_ k2
  have HB := hide_ hB
  have i0 := k1.cell 0; have i1 := k1.cell 1; have i2 := k1.cell 2; have i3 := k1.cell 3
  have j0 := k2.cell 0; have j1 := k2.cell 1; have j2 := k2.cell 2
  simp at i0 i1 i2 i3 j0 j1 j2
  clear hB k1 k2
  go_enter Tryd.func63, Tryd.ntmps63
  go_upto_region 1 with fail
  rw [← hw0]
  clear hw0
  go_wp2
  go_ret
  exact ⟨rfl, HB.out⟩
set_option maxRecDepth 100000 in
set_option maxHeartbeats 4000000 in
theorem elem8_any (n el : Int) (ps : List Pt) (va : Option Addr) (vc : Nat) (xk xn xd : Int) (j : Nat) (p : Pt) (w : World) (hp : ps[j]? = some p) (hP : Hid (PRow w va ps)) : Calls Tryd.prog 63 #[.agg #[.int .i64 8, .int .i64 n, .int .i64 el, .slice va ps.length vc], .agg #[.int .i64 xk, .int .u64 xn, .int .i64 xd], .int .i64 (j : Int)] w fun e w' => e = .returned (.int .i64 p.ty) ∧ Below w.heap.size w w' := by
  have hB := below2 w (.cells #[.int .i64 8, .int .i64 n, .int .i64 el, .slice va ps.length vc] 64) (.cells #[.int .i64 xk, .int .u64 xn, .int .i64 xd] 49)
  obtain ⟨k1, k2⟩ := blk2 w #[.int .i64 8, .int .i64 n, .int .i64 el, .slice va ps.length vc] #[.int .i64 xk, .int .u64 xn, .int .i64 xd] 64 49
  obtain ⟨w0, hw0⟩ : ∃ wx, wx = (w.alloc (.cells #[.int .i64 8, .int .i64 n, .int .i64 el, .slice va ps.length vc] 64)).alloc (.cells #[.int .i64 xk, .int .u64 xn, .int .i64 xd] 49) := ⟨_, rfl⟩
  rw [← hw0] at hB k1 k2
  have K1 := hide_ k1
  have K2 := hide_ k2
  have HB := hide_ hB
  have i0 := k1.cell 0; have i1 := k1.cell 1; have i2 := k1.cell 2; have i3 := k1.cell 3
  have j0 := k2.cell 0; have j1 := k2.cell 1; have j2 := k2.cell 2
  simp at i0 i1 i2 i3 j0 j1 j2
  clear hB k1 k2
  have hj := (List.getElem?_eq_some_iff.1 hp).1
  have hj' : (j : Int) < ps.length := by omega
  obtain ⟨b, off, rfl, hb, hc⟩ := (hP.out.later HB.out).open (by omega)
  have c2 := hc j p hp 2 (by decide)
  simp [ptc] at c2
  clear hc hp
  go_enter Tryd.func63, Tryd.ntmps63
  go_upto_region 1 with fail
  rw [← hw0]
  clear hw0
  go_wp2
  go_ret
  exact ⟨rfl, HB.out⟩
set_option maxRecDepth 100000 in
set_option maxHeartbeats 4000000 in
theorem elem7_any (n el : Int) (ps : List Pt) (va : Option Addr) (vc : Nat) (xk xn xd : Int) (j : Int) (w : World) (hpl : ps.length ≤ 9223372036854775806) (htg : Hid (∀ p ∈ ps, 0 ≤ p.tag ∧ p.tag ≤ 255)) (hP : Hid (PRow w va ps)) : Calls Tryd.prog 63 #[.agg #[.int .i64 7, .int .i64 n, .int .i64 el, .slice va ps.length vc], .agg #[.int .i64 xk, .int .u64 xn, .int .i64 xd], .int .i64 j] w fun e w' => e = .returned (.int .i64 (match armI ps xn with | some i => (ps.getD i pt0).ty | none => -1)) ∧ Below w.heap.size w w' := by
  obtain ⟨r, hr⟩ : ∃ r, (match armI ps xn with | some i => (ps.getD i pt0).ty | none => -1) = r := ⟨_, rfl⟩
  rw [hr]
  have HR := hide_ hr
  clear hr
  have hB := below2 w (.cells #[.int .i64 7, .int .i64 n, .int .i64 el, .slice va ps.length vc] 64) (.cells #[.int .i64 xk, .int .u64 xn, .int .i64 xd] 49)
  obtain ⟨k1, k2⟩ := blk2 w #[.int .i64 7, .int .i64 n, .int .i64 el, .slice va ps.length vc] #[.int .i64 xk, .int .u64 xn, .int .i64 xd] 64 49
  obtain ⟨w0, hw0⟩ : ∃ wx, wx = (w.alloc (.cells #[.int .i64 7, .int .i64 n, .int .i64 el, .slice va ps.length vc] 64)).alloc (.cells #[.int .i64 xk, .int .u64 xn, .int .i64 xd] 49) := ⟨_, rfl⟩
  rw [← hw0] at hB k1 k2
  have K1 := hide_ k1
  have K2 := hide_ k2
  have HB := hide_ hB
  have i0 := k1.cell 0; have i1 := k1.cell 1; have i2 := k1.cell 2; have i3 := k1.cell 3
  have j0 := k2.cell 0; have j1 := k2.cell 1; have j2 := k2.cell 2
  simp at i0 i1 i2 i3 j0 j1 j2
  clear hB k1 k2
  go_enter Tryd.func63, Tryd.ntmps63
  go_upto_region 1 with fail
  rw [← hw0]
  clear hw0
  go_wp2_with fail
  go_loopw [7] (fun x7 wr => ∃ (i : Nat), i ≤ ps.length ∧ x7 = .int .i64 (i : Int) ∧ Hid (∀ (q : Nat) (p : Pt), q < i → ps[q]? = some p → ¬ p.tag = xn) ∧ Hid (Below w0.heap.size w0 wr)) (fun x7 _ => ps.length - (intOf x7).toNat)
  case atStart => exact ⟨0, Nat.zero_le _, rfl, hide_ (fun q p hq => by omega), hide_ (Below.refl _ _)⟩
  case round =>
    obtain ⟨i, hi, rfl, HN, HC⟩ := hrel
    generalize wr = wq at *
    clear i0 i1 i2 i3 j0 j1 j2
    have i3 := (K1.out.later HC.out).cell 3; have j1 := (K2.out.later HC.out).cell 1
    simp at i3 j1
    by_cases hlt : i < ps.length
    · have hlt' : (i : Int) < ps.length := by omega
      have hp : ps[i]? = some (ps[i]'hlt) := List.getElem?_eq_getElem hlt
      obtain ⟨b, off, rfl, hb, hc⟩ := (hP.out.later (below_to HB.out HC.out)).open (by omega)
      have c1 := hc i _ hp 1 (by decide); have c2 := hc i _ hp 2 (by decide)
      obtain ⟨t0, t1⟩ := htg.out _ (List.mem_of_getElem? hp)
      have hw1 : IntKind.u64.wrap (ps[i]'hlt).tag = (ps[i]'hlt).tag := by rw [IntKind.wrap_u64]; omega
      have HP := hide_ hp
      simp [ptc] at c1 c2
      generalize ps[i]'hlt = p at *
      obtain ⟨pl, pt, py⟩ := p
      simp only at c1 c2 hw1 t0 t1
      clear hc hp
      by_cases he : pt = xn
      · have he' : (pt == xn) = true := by simp [he]
        have HV : Hid (py = r) := hide_ (by
          have ha := armI_at (n := xn) HP.out (by simp only; exact he) (fun q p hq hp => HN.out q p hq hp)
          have h1 := HR.out
          rw [ha] at h1
          simp only at h1
          rw [← h1]
          simp [List.getD, HP.out])
        go_wp2_with fail
        go_quiet (fail)
        have HCq : Hid (Below w.heap.size w (wq.drewN nq)) := hide_ (below_to HB.out (below_drewN HC.out nq))
        have i3' := (Blk.drewN (K1.out.later HC.out) nq).cell 3
        have c2' : (wq.drewN nq).cell? ⟨b, off + i * 3 + 2, none⟩ = some (.int .i64 py) := c2
        simp at i3'
        go_wp2
        go_ret
        exact ⟨ret_int HV.out, HCq.out⟩
      · have he' : (pt == xn) = false := by simpa using he
        have HNn : Hid (∀ (q : Nat) (p : Pt), q < i + 1 → ps[q]? = some p → ¬ p.tag = xn) := hide_ (fun q p hq hp => by
          rcases Nat.lt_or_ge q i with h | h
          · exact HN.out q p h hp
          · obtain rfl : q = i := by omega
            rw [HP.out] at hp
            injection hp with hp
            subst hp
            exact he)
        go_wp2_with fail
        go_quiet (fail)
        have HCq : ∀ q, Hid (Below w0.heap.size w0 (wq.drewN q)) := fun q => hide_ (below_drewN HC.out q)
        clear hw1
        go_wp2_with fail
        go_roundw
        case rel => exact ⟨i + 1, by omega, by go_num, HNn, HCq _⟩
        case measure => simp [intOf]; omega
    · have hlt' : ¬ (i : Int) < ps.length := by omega
      have HV : Hid (-1 = r) := hide_ (by
        have ha := armI_none (ps := ps) (n := xn) (fun q p hp => HN.out q p (by have := (List.getElem?_eq_some_iff.1 hp).1; omega) hp)
        have h1 := HR.out
        rw [ha] at h1
        exact h1)
      have HBf := hide_ (below_to HB.out HC.out)
      go_wp2
      go_ret
      exact ⟨ret_int HV.out, HBf.out⟩
set_option maxRecDepth 100000 in
set_option maxHeartbeats 4000000 in
theorem fitsR2_any (n el : Int) (ps : List Pt) (va : Option Addr) (vc : Nat) (xk xn xd : Int) (w : World)  : Calls Tryd.prog 65 #[.agg #[.int .i64 2, .int .i64 n, .int .i64 el, .slice va ps.length vc], .agg #[.int .i64 xk, .int .u64 xn, .int .i64 xd]] w fun e w' => e = .returned (.int .i64 (misP ⟨2, n, el, ps⟩ ⟨xk, xn, xd⟩)) ∧ Below w.heap.size w w' := by
  have hB := below2 w (.cells #[.int .i64 2, .int .i64 n, .int .i64 el, .slice va ps.length vc] 64) (.cells #[.int .i64 xk, .int .u64 xn, .int .i64 xd] 49)
  obtain ⟨k1, k2⟩ := blk2 w #[.int .i64 2, .int .i64 n, .int .i64 el, .slice va ps.length vc] #[.int .i64 xk, .int .u64 xn, .int .i64 xd] 64 49
  obtain ⟨w0, hw0⟩ : ∃ wx, wx = (w.alloc (.cells #[.int .i64 2, .int .i64 n, .int .i64 el, .slice va ps.length vc] 64)).alloc (.cells #[.int .i64 xk, .int .u64 xn, .int .i64 xd] 49) := ⟨_, rfl⟩
  rw [← hw0] at hB k1 k2
  have K1 := hide_ k1
  have K2 := hide_ k2
  have HB := hide_ hB
  have i0 := k1.cell 0; have i1 := k1.cell 1; have i2 := k1.cell 2; have i3 := k1.cell 3
  have j0 := k2.cell 0; have j1 := k2.cell 1; have j2 := k2.cell 2
  simp at i0 i1 i2 i3 j0 j1 j2
  clear hB k1 k2
  go_enter Tryd.func65, Tryd.ntmps65
  go_upto_region 1 with fail
  rw [← hw0]
  clear hw0
  by_cases hk : xk = 2
  · have hkb : (xk == 2) = true := by simp [hk]
    have hkn : (xk != 2) = false := by simp [hk]
    have HV : Hid (misP ⟨2, n, el, ps⟩ ⟨xk, xn, xd⟩ = 0) := hide_ (by simp [misP, nkind, nkT, hk])
    go_wp2_with fail
    go_quiet (fail)
    have HBq := hide_ (below_drewN HB.out nq)
    go_wp2
    go_ret
    exact ⟨by rw [HV.out]; rfl, HBq.out⟩
  · have hkn : (xk != 2) = true := by simpa using hk
    have HV : Hid (misP ⟨2, n, el, ps⟩ ⟨xk, xn, xd⟩ = 110) := hide_ (by simp [misP, nkind, nkT, hk])
    go_wp2
    go_ret
    exact ⟨by rw [HV.out]; rfl, HB.out⟩
set_option maxRecDepth 100000 in
set_option maxHeartbeats 4000000 in
theorem fitsR3_any (n el : Int) (ps : List Pt) (va : Option Addr) (vc : Nat) (xk xn xd : Int) (w : World)  : Calls Tryd.prog 65 #[.agg #[.int .i64 3, .int .i64 n, .int .i64 el, .slice va ps.length vc], .agg #[.int .i64 xk, .int .u64 xn, .int .i64 xd]] w fun e w' => e = .returned (.int .i64 (misP ⟨3, n, el, ps⟩ ⟨xk, xn, xd⟩)) ∧ Below w.heap.size w w' := by
  have hB := below2 w (.cells #[.int .i64 3, .int .i64 n, .int .i64 el, .slice va ps.length vc] 64) (.cells #[.int .i64 xk, .int .u64 xn, .int .i64 xd] 49)
  obtain ⟨k1, k2⟩ := blk2 w #[.int .i64 3, .int .i64 n, .int .i64 el, .slice va ps.length vc] #[.int .i64 xk, .int .u64 xn, .int .i64 xd] 64 49
  obtain ⟨w0, hw0⟩ : ∃ wx, wx = (w.alloc (.cells #[.int .i64 3, .int .i64 n, .int .i64 el, .slice va ps.length vc] 64)).alloc (.cells #[.int .i64 xk, .int .u64 xn, .int .i64 xd] 49) := ⟨_, rfl⟩
  rw [← hw0] at hB k1 k2
  have K1 := hide_ k1
  have K2 := hide_ k2
  have HB := hide_ hB
  have i0 := k1.cell 0; have i1 := k1.cell 1; have i2 := k1.cell 2; have i3 := k1.cell 3
  have j0 := k2.cell 0; have j1 := k2.cell 1; have j2 := k2.cell 2
  simp at i0 i1 i2 i3 j0 j1 j2
  clear hB k1 k2
  go_enter Tryd.func65, Tryd.ntmps65
  go_upto_region 1 with fail
  rw [← hw0]
  clear hw0
  by_cases hk : xk = 1
  · have hkb : (xk == 1) = true := by simp [hk]
    have hkn : (xk != 1) = false := by simp [hk]
    have HV : Hid (misP ⟨3, n, el, ps⟩ ⟨xk, xn, xd⟩ = 0) := hide_ (by simp [misP, nkind, nkT, hk])
    go_wp2_with fail
    go_quiet (fail)
    have HBq := hide_ (below_drewN HB.out nq)
    go_wp2
    go_ret
    exact ⟨by rw [HV.out]; rfl, HBq.out⟩
  · have hkn : (xk != 1) = true := by simpa using hk
    have HV : Hid (misP ⟨3, n, el, ps⟩ ⟨xk, xn, xd⟩ = 110) := hide_ (by simp [misP, nkind, nkT, hk])
    go_wp2
    go_ret
    exact ⟨by rw [HV.out]; rfl, HB.out⟩
set_option maxRecDepth 100000 in
set_option maxHeartbeats 4000000 in
theorem fitsR6_any (n el : Int) (ps : List Pt) (va : Option Addr) (vc : Nat) (xk xn xd : Int) (w : World)  : Calls Tryd.prog 65 #[.agg #[.int .i64 6, .int .i64 n, .int .i64 el, .slice va ps.length vc], .agg #[.int .i64 xk, .int .u64 xn, .int .i64 xd]] w fun e w' => e = .returned (.int .i64 (misP ⟨6, n, el, ps⟩ ⟨xk, xn, xd⟩)) ∧ Below w.heap.size w w' := by
  have hB := below2 w (.cells #[.int .i64 6, .int .i64 n, .int .i64 el, .slice va ps.length vc] 64) (.cells #[.int .i64 xk, .int .u64 xn, .int .i64 xd] 49)
  obtain ⟨k1, k2⟩ := blk2 w #[.int .i64 6, .int .i64 n, .int .i64 el, .slice va ps.length vc] #[.int .i64 xk, .int .u64 xn, .int .i64 xd] 64 49
  obtain ⟨w0, hw0⟩ : ∃ wx, wx = (w.alloc (.cells #[.int .i64 6, .int .i64 n, .int .i64 el, .slice va ps.length vc] 64)).alloc (.cells #[.int .i64 xk, .int .u64 xn, .int .i64 xd] 49) := ⟨_, rfl⟩
  rw [← hw0] at hB k1 k2
  have K1 := hide_ k1
  have K2 := hide_ k2
  have HB := hide_ hB
  have i0 := k1.cell 0; have i1 := k1.cell 1; have i2 := k1.cell 2; have i3 := k1.cell 3
  have j0 := k2.cell 0; have j1 := k2.cell 1; have j2 := k2.cell 2
  simp at i0 i1 i2 i3 j0 j1 j2
  clear hB k1 k2
  go_enter Tryd.func65, Tryd.ntmps65
  go_upto_region 1 with fail
  rw [← hw0]
  clear hw0
  by_cases hk : xk = 5
  · have hkb : (xk == 5) = true := by simp [hk]
    have hkn : (xk != 5) = false := by simp [hk]
    have HV : Hid (misP ⟨6, n, el, ps⟩ ⟨xk, xn, xd⟩ = 0) := hide_ (by simp [misP, nkind, nkT, hk])
    go_wp2_with fail
    go_quiet (fail)
    have HBq := hide_ (below_drewN HB.out nq)
    go_wp2
    go_ret
    exact ⟨by rw [HV.out]; rfl, HBq.out⟩
  · have hkn : (xk != 5) = true := by simpa using hk
    have HV : Hid (misP ⟨6, n, el, ps⟩ ⟨xk, xn, xd⟩ = 110) := hide_ (by simp [misP, nkind, nkT, hk])
    go_wp2
    go_ret
    exact ⟨by rw [HV.out]; rfl, HB.out⟩
set_option maxRecDepth 100000 in
set_option maxHeartbeats 4000000 in
theorem fitsR4_any (n el : Int) (ps : List Pt) (va : Option Addr) (vc : Nat) (xk xn xd : Int) (w : World)  : Calls Tryd.prog 65 #[.agg #[.int .i64 4, .int .i64 n, .int .i64 el, .slice va ps.length vc], .agg #[.int .i64 xk, .int .u64 xn, .int .i64 xd]] w fun e w' => e = .returned (.int .i64 (misP ⟨4, n, el, ps⟩ ⟨xk, xn, xd⟩)) ∧ Below w.heap.size w w' := by
  have hB := below2 w (.cells #[.int .i64 4, .int .i64 n, .int .i64 el, .slice va ps.length vc] 64) (.cells #[.int .i64 xk, .int .u64 xn, .int .i64 xd] 49)
  obtain ⟨k1, k2⟩ := blk2 w #[.int .i64 4, .int .i64 n, .int .i64 el, .slice va ps.length vc] #[.int .i64 xk, .int .u64 xn, .int .i64 xd] 64 49
  obtain ⟨w0, hw0⟩ : ∃ wx, wx = (w.alloc (.cells #[.int .i64 4, .int .i64 n, .int .i64 el, .slice va ps.length vc] 64)).alloc (.cells #[.int .i64 xk, .int .u64 xn, .int .i64 xd] 49) := ⟨_, rfl⟩
  rw [← hw0] at hB k1 k2
  have K1 := hide_ k1
  have K2 := hide_ k2
  have HB := hide_ hB
  have i0 := k1.cell 0; have i1 := k1.cell 1; have i2 := k1.cell 2; have i3 := k1.cell 3
  have j0 := k2.cell 0; have j1 := k2.cell 1; have j2 := k2.cell 2
  simp at i0 i1 i2 i3 j0 j1 j2
  clear hB k1 k2
  go_enter Tryd.func65, Tryd.ntmps65
  go_upto_region 1 with fail
  rw [← hw0]
  clear hw0
  by_cases hk : xk = 3
  · have hkb : (xk == 3) = true := by simp [hk]
    have hkn : (xk != 3) = false := by simp [hk]
    by_cases hc : xd = n
    · have hcn : (xd != n) = false := by simp [hc]
      have HV : Hid (misP ⟨4, n, el, ps⟩ ⟨xk, xn, xd⟩ = 0) := hide_ (by simp [misP, nkind, nkT, hk, hc])
      go_wp2_with fail
      go_quiet (fail)
      have HBq := hide_ (below_drewN HB.out nq)
      go_wp2
      go_ret
      exact ⟨by rw [HV.out]; rfl, HBq.out⟩
    · have hcn : (xd != n) = true := by simpa using hc
      have HV : Hid (misP ⟨4, n, el, ps⟩ ⟨xk, xn, xd⟩ = 112) := hide_ (by simp [misP, nkind, nkT, hk]; omega)
      go_wp2_with fail
      go_quiet (fail)
      have HBq := hide_ (below_drewN HB.out nq)
      go_wp2
      go_ret
      exact ⟨by rw [HV.out]; rfl, HBq.out⟩
  · have hkn : (xk != 3) = true := by simpa using hk
    have HV : Hid (misP ⟨4, n, el, ps⟩ ⟨xk, xn, xd⟩ = 110) := hide_ (by simp [misP, nkind, nkT, hk])
    go_wp2
    go_ret
    exact ⟨by rw [HV.out]; rfl, HB.out⟩
set_option maxRecDepth 100000 in
set_option maxHeartbeats 4000000 in
theorem fitsR5_any (n el : Int) (ps : List Pt) (va : Option Addr) (vc : Nat) (xk xn xd : Int) (w : World) (hd : 0 ≤ xd) : Calls Tryd.prog 65 #[.agg #[.int .i64 5, .int .i64 n, .int .i64 el, .slice va ps.length vc], .agg #[.int .i64 xk, .int .u64 xn, .int .i64 xd]] w fun e w' => e = .returned (.int .i64 (misP ⟨5, n, el, ps⟩ ⟨xk, xn, xd⟩)) ∧ Below w.heap.size w w' := by
  have hB := below2 w (.cells #[.int .i64 5, .int .i64 n, .int .i64 el, .slice va ps.length vc] 64) (.cells #[.int .i64 xk, .int .u64 xn, .int .i64 xd] 49)
  obtain ⟨k1, k2⟩ := blk2 w #[.int .i64 5, .int .i64 n, .int .i64 el, .slice va ps.length vc] #[.int .i64 xk, .int .u64 xn, .int .i64 xd] 64 49
  obtain ⟨w0, hw0⟩ : ∃ wx, wx = (w.alloc (.cells #[.int .i64 5, .int .i64 n, .int .i64 el, .slice va ps.length vc] 64)).alloc (.cells #[.int .i64 xk, .int .u64 xn, .int .i64 xd] 49) := ⟨_, rfl⟩
  rw [← hw0] at hB k1 k2
  have K1 := hide_ k1
  have K2 := hide_ k2
  have HB := hide_ hB
  have i0 := k1.cell 0; have i1 := k1.cell 1; have i2 := k1.cell 2; have i3 := k1.cell 3
  have j0 := k2.cell 0; have j1 := k2.cell 1; have j2 := k2.cell 2
  simp at i0 i1 i2 i3 j0 j1 j2
  clear hB k1 k2
  go_enter Tryd.func65, Tryd.ntmps65
  go_upto_region 1 with fail
  rw [← hw0]
  clear hw0
  by_cases hk : xk = 3
  · have hkb : (xk == 3) = true := by simp [hk]
    have hkn : (xk != 3) = false := by simp [hk]
    by_cases hc : n < xd
    · skip
      have HV : Hid (misP ⟨5, n, el, ps⟩ ⟨xk, xn, xd⟩ = 112) := hide_ (by simp [misP, nkind, nkT, hk]; omega)
      go_wp2_with fail
      go_quiet (fail)
      have HBq := hide_ (below_drewN HB.out nq)
      go_wp2
      go_ret
      exact ⟨by rw [HV.out]; rfl, HBq.out⟩
    · skip
      have HV : Hid (misP ⟨5, n, el, ps⟩ ⟨xk, xn, xd⟩ = 0) := hide_ (by simp [misP, nkind, nkT, hk]; omega)
      go_wp2_with fail
      go_quiet (fail)
      have HBq := hide_ (below_drewN HB.out nq)
      go_wp2
      go_ret
      exact ⟨by rw [HV.out]; rfl, HBq.out⟩
  · have hkn : (xk != 3) = true := by simpa using hk
    have HV : Hid (misP ⟨5, n, el, ps⟩ ⟨xk, xn, xd⟩ = 110) := hide_ (by simp [misP, nkind, nkT, hk])
    go_wp2
    go_ret
    exact ⟨by rw [HV.out]; rfl, HB.out⟩
set_option maxRecDepth 100000 in
set_option maxHeartbeats 4000000 in
theorem fitsR8_any (n el : Int) (ps : List Pt) (va : Option Addr) (vc : Nat) (xk xn xd : Int) (w : World)  : Calls Tryd.prog 65 #[.agg #[.int .i64 8, .int .i64 n, .int .i64 el, .slice va ps.length vc], .agg #[.int .i64 xk, .int .u64 xn, .int .i64 xd]] w fun e w' => e = .returned (.int .i64 (misP ⟨8, n, el, ps⟩ ⟨xk, xn, xd⟩)) ∧ Below w.heap.size w w' := by
  have hB := below2 w (.cells #[.int .i64 8, .int .i64 n, .int .i64 el, .slice va ps.length vc] 64) (.cells #[.int .i64 xk, .int .u64 xn, .int .i64 xd] 49)
  obtain ⟨k1, k2⟩ := blk2 w #[.int .i64 8, .int .i64 n, .int .i64 el, .slice va ps.length vc] #[.int .i64 xk, .int .u64 xn, .int .i64 xd] 64 49
  obtain ⟨w0, hw0⟩ : ∃ wx, wx = (w.alloc (.cells #[.int .i64 8, .int .i64 n, .int .i64 el, .slice va ps.length vc] 64)).alloc (.cells #[.int .i64 xk, .int .u64 xn, .int .i64 xd] 49) := ⟨_, rfl⟩
  rw [← hw0] at hB k1 k2
  have K1 := hide_ k1
  have K2 := hide_ k2
  have HB := hide_ hB
  have i0 := k1.cell 0; have i1 := k1.cell 1; have i2 := k1.cell 2; have i3 := k1.cell 3
  have j0 := k2.cell 0; have j1 := k2.cell 1; have j2 := k2.cell 2
  simp at i0 i1 i2 i3 j0 j1 j2
  clear hB k1 k2
  go_enter Tryd.func65, Tryd.ntmps65
  go_upto_region 1 with fail
  rw [← hw0]
  clear hw0
  by_cases hk : xk = 4
  · have hkb : (xk == 4) = true := by simp [hk]
    have hkn : (xk != 4) = false := by simp [hk]
    by_cases hc : xd = (ps.length : Int)
    · have hcn : (xd != (ps.length : Int)) = false := by simp [hc]
      have HV : Hid (misP ⟨8, n, el, ps⟩ ⟨xk, xn, xd⟩ = 0) := hide_ (by simp [misP, nkind, nkT, hk, hc])
      go_wp2_with fail
      go_quiet (fail)
      have HBq := hide_ (below_drewN HB.out nq)
      go_wp2
      go_ret
      exact ⟨by rw [HV.out]; rfl, HBq.out⟩
    · have hcn : (xd != (ps.length : Int)) = true := by simpa using hc
      have HV : Hid (misP ⟨8, n, el, ps⟩ ⟨xk, xn, xd⟩ = 112) := hide_ (by simp [misP, nkind, nkT, hk]; omega)
      go_wp2_with fail
      go_quiet (fail)
      have HBq := hide_ (below_drewN HB.out nq)
      go_wp2
      go_ret
      exact ⟨by rw [HV.out]; rfl, HBq.out⟩
  · have hkn : (xk != 4) = true := by simpa using hk
    have HV : Hid (misP ⟨8, n, el, ps⟩ ⟨xk, xn, xd⟩ = 110) := hide_ (by simp [misP, nkind, nkT, hk])
    go_wp2
    go_ret
    exact ⟨by rw [HV.out]; rfl, HB.out⟩
set_option maxRecDepth 100000 in
set_option maxHeartbeats 4000000 in
theorem fitsR7_any (n el : Int) (ps : List Pt) (va : Option Addr) (vc : Nat) (xk xn xd : Int) (w : World) (hpl : ps.length ≤ 9223372036854775806) (htg : Hid (∀ p ∈ ps, 0 ≤ p.tag ∧ p.tag ≤ 255)) (hpt : Hid (∀ (m : Nat) (p : Pt), ps[m]? = some p → 0 ≤ p.ty)) (hP : Hid (PRow w va ps)) : Calls Tryd.prog 65 #[.agg #[.int .i64 7, .int .i64 n, .int .i64 el, .slice va ps.length vc], .agg #[.int .i64 xk, .int .u64 xn, .int .i64 xd]] w fun e w' => e = .returned (.int .i64 (misP ⟨7, n, el, ps⟩ ⟨xk, xn, xd⟩)) ∧ Below w.heap.size w w' := by
  have hB := below2 w (.cells #[.int .i64 7, .int .i64 n, .int .i64 el, .slice va ps.length vc] 64) (.cells #[.int .i64 xk, .int .u64 xn, .int .i64 xd] 49)
  obtain ⟨k1, k2⟩ := blk2 w #[.int .i64 7, .int .i64 n, .int .i64 el, .slice va ps.length vc] #[.int .i64 xk, .int .u64 xn, .int .i64 xd] 64 49
  obtain ⟨w0, hw0⟩ : ∃ wx, wx = (w.alloc (.cells #[.int .i64 7, .int .i64 n, .int .i64 el, .slice va ps.length vc] 64)).alloc (.cells #[.int .i64 xk, .int .u64 xn, .int .i64 xd] 49) := ⟨_, rfl⟩
  rw [← hw0] at hB k1 k2
  have K1 := hide_ k1
  have K2 := hide_ k2
  have HB := hide_ hB
  have i0 := k1.cell 0; have i1 := k1.cell 1; have i2 := k1.cell 2; have i3 := k1.cell 3
  have j0 := k2.cell 0; have j1 := k2.cell 1; have j2 := k2.cell 2
  simp at i0 i1 i2 i3 j0 j1 j2
  clear hB k1 k2
  have HEl : Hid (∀ w', Below w0.heap.size w0 w' → Calls Tryd.prog 63 #[.agg #[.int .i64 7, .int .i64 n, .int .i64 el, .slice va ps.length vc], .agg #[.int .i64 xk, .int .u64 xn, .int .i64 xd], .int .i64 0] w' fun e w'' => e = .returned (.int .i64 (match armI ps xn with | some i => (ps.getD i pt0).ty | none => -1)) ∧ Below w'.heap.size w' w'') := hide_ (fun w' hB' => elem7_any n el ps va vc xk xn xd 0 w' hpl htg (hide_ (hP.out.later (below_to HB.out hB'))))
  go_enter Tryd.func65, Tryd.ntmps65
  go_upto_region 1 with fail
  rw [← hw0]
  clear hw0
  by_cases hk : xk = 6
  · have hkb : (xk == 6) = true := by simp [hk]
    have hkn : (xk != 6) = false := by simp [hk]
    subst hk
    clear hkb hkn
    cases ha : armI ps xn with
    | none =>
      have HV : Hid (misP ⟨7, n, el, ps⟩ ⟨6, xn, xd⟩ = 113) := hide_ (by simp [misP, nkind, nkT, ha])
      rw [ha] at HEl
      simp only at HEl
      go_wp2_with fail
      go_quiet (fail)
      have HBq := hide_ (below_drewN HB.out nq)
      have HEq := hide_ (HEl.out (w0.drewN nq) (below_drewN (Below.refl _ _) nq))
      have K15 := hide_ (K1.out.drewN nq)
      have K25 := hide_ (K2.out.drewN nq)
      clear i0 i1 i2 i3 j0 j1 j2
      generalize w0.drewN nq = w5 at *
      have i0 := K15.out.cell 0; have i1 := K15.out.cell 1; have i2 := K15.out.cell 2; have i3 := K15.out.cell 3
      have j0 := K25.out.cell 0; have j1 := K25.out.cell 1; have j2 := K25.out.cell 2
      simp at i0 i1 i2 i3 j0 j1 j2
      go_wp2_with fail
      refine HEq.out.mono ?_; rintro e w6 ⟨rfl, hB6⟩
      have HBf := hide_ (below_to HBq.out hB6)
      clear hB6
      go_wp2
      go_ret
      exact ⟨by rw [HV.out]; rfl, HBf.out⟩
    | some m =>
      obtain ⟨p, hp, -⟩ := armI_some ha
      have hp0 := hpt.out m p hp
      have HV : Hid (misP ⟨7, n, el, ps⟩ ⟨6, xn, xd⟩ = 0) := hide_ (by simp [misP, nkind, nkT, ha])
      rw [ha] at HEl
      simp only at HEl
      rw [show ps.getD m pt0 = p by simp [List.getD, hp]] at HEl
      obtain ⟨y, hy⟩ : ∃ y, p.ty = y := ⟨_, rfl⟩
      rw [hy] at HEl hp0
      clear hy hp
      go_wp2_with fail
      go_quiet (fail)
      have HBq := hide_ (below_drewN HB.out nq)
      have HEq := hide_ (HEl.out (w0.drewN nq) (below_drewN (Below.refl _ _) nq))
      have K15 := hide_ (K1.out.drewN nq)
      have K25 := hide_ (K2.out.drewN nq)
      clear i0 i1 i2 i3 j0 j1 j2
      generalize w0.drewN nq = w5 at *
      have i0 := K15.out.cell 0; have i1 := K15.out.cell 1; have i2 := K15.out.cell 2; have i3 := K15.out.cell 3
      have j0 := K25.out.cell 0; have j1 := K25.out.cell 1; have j2 := K25.out.cell 2
      simp at i0 i1 i2 i3 j0 j1 j2
      have hy0 : ¬ y < 0 := by omega
      go_wp2_with fail
      refine HEq.out.mono ?_; rintro e w6 ⟨rfl, hB6⟩
      have HBf := hide_ (below_to HBq.out hB6)
      clear hB6
      go_wp2
      go_ret
      exact ⟨by rw [HV.out]; rfl, HBf.out⟩
  · have hkn : (xk != 6) = true := by simpa using hk
    have HV : Hid (misP ⟨7, n, el, ps⟩ ⟨xk, xn, xd⟩ = 110) := hide_ (by simp [misP, nkind, nkT, hk])
    go_wp2
    go_ret
    exact ⟨by rw [HV.out]; rfl, HB.out⟩
set_option maxRecDepth 100000 in
set_option maxHeartbeats 4000000 in
theorem fitsR1_1 (el : Int) (ps : List Pt) (va : Option Addr) (vc : Nat) (xk xn xd : Int) (w : World) : Calls Tryd.prog 65 #[.agg #[.int .i64 1, .int .i64 1, .int .i64 el, .slice va ps.length vc], .agg #[.int .i64 xk, .int .u64 xn, .int .i64 xd]] w fun e w' => e = .returned (.int .i64 (misP ⟨1, 1, el, ps⟩ ⟨xk, xn, xd⟩)) ∧ Below w.heap.size w w' := by
  have hB := below2 w (.cells #[.int .i64 1, .int .i64 1, .int .i64 el, .slice va ps.length vc] 64) (.cells #[.int .i64 xk, .int .u64 xn, .int .i64 xd] 49)
  obtain ⟨k1, k2⟩ := blk2 w #[.int .i64 1, .int .i64 1, .int .i64 el, .slice va ps.length vc] #[.int .i64 xk, .int .u64 xn, .int .i64 xd] 64 49
  obtain ⟨w0, hw0⟩ : ∃ wx, wx = (w.alloc (.cells #[.int .i64 1, .int .i64 1, .int .i64 el, .slice va ps.length vc] 64)).alloc (.cells #[.int .i64 xk, .int .u64 xn, .int .i64 xd] 49) := ⟨_, rfl⟩
  rw [← hw0] at hB k1 k2
  have K1 := hide_ k1
  have K2 := hide_ k2
  have HB := hide_ hB
  have i0 := k1.cell 0; have i1 := k1.cell 1; have i2 := k1.cell 2; have i3 := k1.cell 3
  have j0 := k2.cell 0; have j1 := k2.cell 1; have j2 := k2.cell 2
  simp at i0 i1 i2 i3 j0 j1 j2
  clear hB k1 k2
  go_enter Tryd.func65, Tryd.ntmps65
  go_upto_region 1 with fail
  rw [← hw0]
  clear hw0
  by_cases hk : xk = 1
  · have hkb : (xk == 1) = true := by simp [hk]
    have hkn : (xk != 1) = false := by simp [hk]
    by_cases hc : 256 ≤ xn
    · skip
      have HV : Hid (misP ⟨1, 1, el, ps⟩ ⟨xk, xn, xd⟩ = 111) := hide_ (by simp [misP, nkind, nkT, hk, gr]; omega)
      go_wp2_with fail
      go_quiet (fail)
      have HBq := hide_ (below_drewN HB.out nq)
      go_wp2
      go_ret
      exact ⟨by rw [HV.out]; rfl, HBq.out⟩
    · skip
      have HV : Hid (misP ⟨1, 1, el, ps⟩ ⟨xk, xn, xd⟩ = 0) := hide_ (by simp [misP, nkind, nkT, hk, gr]; omega)
      go_wp2_with fail
      go_quiet (fail)
      have HBq := hide_ (below_drewN HB.out nq)
      go_wp2
      go_ret
      exact ⟨by rw [HV.out]; rfl, HBq.out⟩
  · have hkn : (xk != 1) = true := by simpa using hk
    have HV : Hid (misP ⟨1, 1, el, ps⟩ ⟨xk, xn, xd⟩ = 110) := hide_ (by simp [misP, nkind, nkT, hk])
    go_wp2
    go_ret
    exact ⟨by rw [HV.out]; rfl, HB.out⟩
set_option maxRecDepth 100000 in
set_option maxHeartbeats 4000000 in
theorem fitsR1_2 (el : Int) (ps : List Pt) (va : Option Addr) (vc : Nat) (xk xn xd : Int) (w : World) : Calls Tryd.prog 65 #[.agg #[.int .i64 1, .int .i64 2, .int .i64 el, .slice va ps.length vc], .agg #[.int .i64 xk, .int .u64 xn, .int .i64 xd]] w fun e w' => e = .returned (.int .i64 (misP ⟨1, 2, el, ps⟩ ⟨xk, xn, xd⟩)) ∧ Below w.heap.size w w' := by
  have hB := below2 w (.cells #[.int .i64 1, .int .i64 2, .int .i64 el, .slice va ps.length vc] 64) (.cells #[.int .i64 xk, .int .u64 xn, .int .i64 xd] 49)
  obtain ⟨k1, k2⟩ := blk2 w #[.int .i64 1, .int .i64 2, .int .i64 el, .slice va ps.length vc] #[.int .i64 xk, .int .u64 xn, .int .i64 xd] 64 49
  obtain ⟨w0, hw0⟩ : ∃ wx, wx = (w.alloc (.cells #[.int .i64 1, .int .i64 2, .int .i64 el, .slice va ps.length vc] 64)).alloc (.cells #[.int .i64 xk, .int .u64 xn, .int .i64 xd] 49) := ⟨_, rfl⟩
  rw [← hw0] at hB k1 k2
  have K1 := hide_ k1
  have K2 := hide_ k2
  have HB := hide_ hB
  have i0 := k1.cell 0; have i1 := k1.cell 1; have i2 := k1.cell 2; have i3 := k1.cell 3
  have j0 := k2.cell 0; have j1 := k2.cell 1; have j2 := k2.cell 2
  simp at i0 i1 i2 i3 j0 j1 j2
  clear hB k1 k2
  go_enter Tryd.func65, Tryd.ntmps65
  go_upto_region 1 with fail
  rw [← hw0]
  clear hw0
  by_cases hk : xk = 1
  · have hkb : (xk == 1) = true := by simp [hk]
    have hkn : (xk != 1) = false := by simp [hk]
    by_cases hc : 65536 ≤ xn
    · skip
      have HV : Hid (misP ⟨1, 2, el, ps⟩ ⟨xk, xn, xd⟩ = 111) := hide_ (by simp [misP, nkind, nkT, hk, gr]; omega)
      go_wp2_with fail
      go_quiet (fail)
      have HBq := hide_ (below_drewN HB.out nq)
      go_wp2
      go_ret
      exact ⟨by rw [HV.out]; rfl, HBq.out⟩
    · skip
      have HV : Hid (misP ⟨1, 2, el, ps⟩ ⟨xk, xn, xd⟩ = 0) := hide_ (by simp [misP, nkind, nkT, hk, gr]; omega)
      go_wp2_with fail
      go_quiet (fail)
      have HBq := hide_ (below_drewN HB.out nq)
      go_wp2
      go_ret
      exact ⟨by rw [HV.out]; rfl, HBq.out⟩
  · have hkn : (xk != 1) = true := by simpa using hk
    have HV : Hid (misP ⟨1, 2, el, ps⟩ ⟨xk, xn, xd⟩ = 110) := hide_ (by simp [misP, nkind, nkT, hk])
    go_wp2
    go_ret
    exact ⟨by rw [HV.out]; rfl, HB.out⟩
set_option maxRecDepth 100000 in
set_option maxHeartbeats 4000000 in
theorem fitsR1_4 (el : Int) (ps : List Pt) (va : Option Addr) (vc : Nat) (xk xn xd : Int) (w : World) : Calls Tryd.prog 65 #[.agg #[.int .i64 1, .int .i64 4, .int .i64 el, .slice va ps.length vc], .agg #[.int .i64 xk, .int .u64 xn, .int .i64 xd]] w fun e w' => e = .returned (.int .i64 (misP ⟨1, 4, el, ps⟩ ⟨xk, xn, xd⟩)) ∧ Below w.heap.size w w' := by
  have hB := below2 w (.cells #[.int .i64 1, .int .i64 4, .int .i64 el, .slice va ps.length vc] 64) (.cells #[.int .i64 xk, .int .u64 xn, .int .i64 xd] 49)
  obtain ⟨k1, k2⟩ := blk2 w #[.int .i64 1, .int .i64 4, .int .i64 el, .slice va ps.length vc] #[.int .i64 xk, .int .u64 xn, .int .i64 xd] 64 49
  obtain ⟨w0, hw0⟩ : ∃ wx, wx = (w.alloc (.cells #[.int .i64 1, .int .i64 4, .int .i64 el, .slice va ps.length vc] 64)).alloc (.cells #[.int .i64 xk, .int .u64 xn, .int .i64 xd] 49) := ⟨_, rfl⟩
  rw [← hw0] at hB k1 k2
  have K1 := hide_ k1
  have K2 := hide_ k2
  have HB := hide_ hB
  have i0 := k1.cell 0; have i1 := k1.cell 1; have i2 := k1.cell 2; have i3 := k1.cell 3
  have j0 := k2.cell 0; have j1 := k2.cell 1; have j2 := k2.cell 2
  simp at i0 i1 i2 i3 j0 j1 j2
  clear hB k1 k2
  go_enter Tryd.func65, Tryd.ntmps65
  go_upto_region 1 with fail
  rw [← hw0]
  clear hw0
  by_cases hk : xk = 1
  · have hkb : (xk == 1) = true := by simp [hk]
    have hkn : (xk != 1) = false := by simp [hk]
    by_cases hc : 4294967296 ≤ xn
    · skip
      have HV : Hid (misP ⟨1, 4, el, ps⟩ ⟨xk, xn, xd⟩ = 111) := hide_ (by simp [misP, nkind, nkT, hk, gr]; omega)
      go_wp2_with fail
      go_quiet (fail)
      have HBq := hide_ (below_drewN HB.out nq)
      go_wp2
      go_ret
      exact ⟨by rw [HV.out]; rfl, HBq.out⟩
    · skip
      have HV : Hid (misP ⟨1, 4, el, ps⟩ ⟨xk, xn, xd⟩ = 0) := hide_ (by simp [misP, nkind, nkT, hk, gr]; omega)
      go_wp2_with fail
      go_quiet (fail)
      have HBq := hide_ (below_drewN HB.out nq)
      go_wp2
      go_ret
      exact ⟨by rw [HV.out]; rfl, HBq.out⟩
  · have hkn : (xk != 1) = true := by simpa using hk
    have HV : Hid (misP ⟨1, 4, el, ps⟩ ⟨xk, xn, xd⟩ = 110) := hide_ (by simp [misP, nkind, nkT, hk])
    go_wp2
    go_ret
    exact ⟨by rw [HV.out]; rfl, HB.out⟩
set_option maxRecDepth 100000 in
set_option maxHeartbeats 4000000 in
theorem fitsR1_8 (el : Int) (ps : List Pt) (va : Option Addr) (vc : Nat) (xk xn xd : Int) (w : World) (hx : xn < 18446744073709551616) : Calls Tryd.prog 65 #[.agg #[.int .i64 1, .int .i64 8, .int .i64 el, .slice va ps.length vc], .agg #[.int .i64 xk, .int .u64 xn, .int .i64 xd]] w fun e w' => e = .returned (.int .i64 (misP ⟨1, 8, el, ps⟩ ⟨xk, xn, xd⟩)) ∧ Below w.heap.size w w' := by
  have hB := below2 w (.cells #[.int .i64 1, .int .i64 8, .int .i64 el, .slice va ps.length vc] 64) (.cells #[.int .i64 xk, .int .u64 xn, .int .i64 xd] 49)
  obtain ⟨k1, k2⟩ := blk2 w #[.int .i64 1, .int .i64 8, .int .i64 el, .slice va ps.length vc] #[.int .i64 xk, .int .u64 xn, .int .i64 xd] 64 49
  obtain ⟨w0, hw0⟩ : ∃ wx, wx = (w.alloc (.cells #[.int .i64 1, .int .i64 8, .int .i64 el, .slice va ps.length vc] 64)).alloc (.cells #[.int .i64 xk, .int .u64 xn, .int .i64 xd] 49) := ⟨_, rfl⟩
  rw [← hw0] at hB k1 k2
  have K1 := hide_ k1
  have K2 := hide_ k2
  have HB := hide_ hB
  have i0 := k1.cell 0; have i1 := k1.cell 1; have i2 := k1.cell 2; have i3 := k1.cell 3
  have j0 := k2.cell 0; have j1 := k2.cell 1; have j2 := k2.cell 2
  simp at i0 i1 i2 i3 j0 j1 j2
  clear hB k1 k2
  go_enter Tryd.func65, Tryd.ntmps65
  go_upto_region 1 with fail
  rw [← hw0]
  clear hw0
  by_cases hk : xk = 1
  · have hkb : (xk == 1) = true := by simp [hk]
    have hkn : (xk != 1) = false := by simp [hk]
    have HV : Hid (misP ⟨1, 8, el, ps⟩ ⟨xk, xn, xd⟩ = 0) := hide_ (by simp [misP, nkind, nkT, hk, gr]; omega)
    go_wp2_with fail
    go_quiet (fail)
    have HBq := hide_ (below_drewN HB.out nq)
    go_wp2
    go_ret
    exact ⟨by rw [HV.out]; rfl, HBq.out⟩
  · have hkn : (xk != 1) = true := by simpa using hk
    have HV : Hid (misP ⟨1, 8, el, ps⟩ ⟨xk, xn, xd⟩ = 110) := hide_ (by simp [misP, nkind, nkT, hk])
    go_wp2
    go_ret
    exact ⟨by rw [HV.out]; rfl, HB.out⟩
end Go.Proofs.YtomfidjmbjpceaaDoor
/- The document's Fits and Elem, whatever the kind; the memory of its walk. -/
namespace Go.Proofs.YtomfidjmbjpceaaDoor
open Go.RowKit
set_option linter.unusedVariables false

theorem fitsR_any (t : Ty) (x : Nv) (va : Option Addr) (vc : Nat) (i : Int) (w : World) (hok : Hid (tyOk t i = true)) (hr : rightV x = true) (hx : NvOk x) (hP : Hid (PRow w va t.ps)) :
    Calls Tryd.prog 65 #[.agg #[.int .i64 t.k, .int .i64 t.n, .int .i64 t.e, .slice va t.ps.length vc], .agg #[.int .i64 x.k, .int .u64 x.n, .int .i64 x.kids]] w fun e w' => e = .returned (.int .i64 (misP t x)) ∧ Below w.heap.size w w' := by
  obtain ⟨k, n, el, ps⟩ := t
  obtain ⟨xk, xn, xd⟩ := x
  have hk := tyOk_kind hok.out
  have hps := tyOk_len hok.out
  have hd := (rightV_kids hr).1
  have hn := nOk_of hok.out
  have hpt : Hid (∀ (m : Nat) (p : Pt), ps[m]? = some p → 0 ≤ p.ty) := hide_ (fun m p hp => (tyOk_part hok.out hp).1)
  simp only at hk hps hd hn
  have hx2 := hx.2
  simp only at hx2
  rcases hk with rfl | rfl | rfl | rfl | rfl | rfl | rfl | rfl
  · have h4 : n = 1 ∨ n = 2 ∨ n = 4 ∨ n = 8 := by omega
    rcases h4 with rfl | rfl | rfl | rfl
    · exact fitsR1_1 el ps va vc xk xn xd w
    · exact fitsR1_2 el ps va vc xk xn xd w
    · exact fitsR1_4 el ps va vc xk xn xd w
    · exact fitsR1_8 el ps va vc xk xn xd w hx2
  · exact fitsR2_any n el ps va vc xk xn xd w
  · exact fitsR3_any n el ps va vc xk xn xd w
  · exact fitsR4_any n el ps va vc xk xn xd w
  · exact fitsR5_any n el ps va vc xk xn xd w hd
  · exact fitsR6_any n el ps va vc xk xn xd w
  · exact fitsR7_any n el ps va vc xk xn xd w (by omega) (hide_ (tyOk_tags hok.out)) hpt hP
  · exact fitsR8_any n el ps va vc xk xn xd w
/-- Elem, of a node that fits: the kid's type. -/
theorem elemR_any (t : Ty) (x : Nv) (va : Option Addr) (vc : Nat) (i : Int) (j : Nat) (w : World) (hok : Hid (tyOk t i = true)) (hm : misP t x = 0) (hr : rightV x = true) (hj : (j : Int) < x.kids) (hP : Hid (PRow w va t.ps)) :
    ∃ s, (kidsT t x)[j]? = some s ∧ Calls Tryd.prog 63 #[.agg #[.int .i64 t.k, .int .i64 t.n, .int .i64 t.e, .slice va t.ps.length vc], .agg #[.int .i64 x.k, .int .u64 x.n, .int .i64 x.kids], .int .i64 (j : Int)] w fun e w' => e = .returned (.int .i64 s) ∧ Below w.heap.size w w' := by
  have hl := kidsT_len hok.out hm hr
  have hkd := misP_kind hm
  have hps := tyOk_len hok.out
  have hr0 := (rightV_kids hr).1
  have h0 : x.k = 1 ∨ x.k = 2 → x.kids = 0 := kid0 hr
  have h8 : t.k = 8 → x.kids = t.ps.length := fun h => misP_struct hm h
  have h7 : t.k = 7 → ∃ m p, armI t.ps x.n = some m ∧ t.ps[m]? = some p ∧ p.tag = x.n := fun h => misP_arm hm h
  obtain ⟨k, n, el, ps⟩ := t
  obtain ⟨xk, xn, xd⟩ := x
  have hk := tyOk_kind hok.out
  simp only at hk hps hkd h0 h7 h8 hj hr0 hl
  have hrep : k = 4 ∨ k = 5 ∨ k = 6 → (kidsT ⟨k, n, el, ps⟩ ⟨xk, xn, xd⟩)[j]? = some el := fun h => by
    unfold kidsT
    simp only
    rw [if_neg (by omega), if_neg (by omega), List.getElem?_replicate, if_pos (by omega)]
  rcases hk with rfl | rfl | rfl | rfl | rfl | rfl | rfl | rfl
  · have := h0 (.inl hkd); omega
  · have := h0 (.inr hkd); omega
  · have := h0 (.inl hkd); omega
  · exact ⟨el, hrep (by omega), elem4_any n el ps va vc xk xn xd j w⟩
  · exact ⟨el, hrep (by omega), elem5_any n el ps va vc xk xn xd j w⟩
  · exact ⟨el, hrep (by omega), elem6_any n el ps va vc xk xn xd j w⟩
  · obtain ⟨m, p, ha, hp, -⟩ := h7 rfl
    have e1 : kidsT ⟨7, n, el, ps⟩ ⟨xk, xn, xd⟩ = [p.ty] := by
      unfold kidsT
      simp only
      rw [if_pos trivial, ha]
      simp [List.getD, hp]
    rw [e1] at hl
    have hj0 : j = 0 := by simp at hl; omega
    subst hj0
    refine ⟨p.ty, by rw [e1]; rfl, ?_⟩
    have h := elem7_any n el ps va vc xk xn xd ((0 : Nat) : Int) w (by omega) (hide_ (tyOk_tags hok.out)) hP
    rw [ha] at h
    simp only at h
    rw [show ps.getD m pt0 = p by simp [List.getD, hp]] at h
    exact h
  · have hjl : j < ps.length := by have := h8 rfl; omega
    have hp : ps[j]? = some (ps[j]'hjl) := List.getElem?_eq_getElem hjl
    refine ⟨(ps[j]'hjl).ty, ?_, elem8_any n el ps va vc xk xn xd j _ w hp hP⟩
    unfold kidsT
    simp only
    rw [if_neg (by decide), if_pos trivial, List.getElem?_map, hp]
    rfl
theorem retTTF {fn : Func} {u1 u2 p : Tmp} (h : fn.results = #[.tmp u1, .tmp u2, .cell p 42]) {R : Ending → World → Prop} {tmps : Array Value} {g : Nat} {w : World} {v1 v2 x y : Value} (h1 : tmps.getD u1 undef = v1) (h2 : tmps.getD u2 undef = v2) (hp : tmps.getD p undef = .pointer (some ⟨g, 0, none⟩)) (hK : Blk w g 42 [x, y]) (hR : R (.returned (.tuple #[v1, v2, .agg #[x, y]])) w) :
    bodyPost Tryd.prog fn R Exit.ret ⟨tmps, []⟩ w := by
  have hp' : tmps[p]?.getD undef = .pointer (some ⟨g, 0, none⟩) := by simpa using hp
  have h1' : tmps[u1]?.getD undef = v1 := by simpa using h1
  have h2' : tmps[u2]?.getD undef = v2 := by simpa using h2
  refine bodyPost_ret (v := .tuple #[v1, v2, .agg #[x, y]]) ?_ rfl hR
  simp only [results, h]
  simp [hp', h1', h2', asAddr, Result.andThen, run_loadVar_row w g 42 42 #[x, y] (0, 0) _ hK Tryd.underlying42 rfl (by show _ = some 2; kernel_rfl)]
/-- What the document's walk answers: the fault, or the types so far and the place behind the value. -/
def WalkTo (T : List Ty) (t0 : Int) (V : List Nv) (st : List Int) (B i : Nat) (v : Value) (w : World) (e : Ending) (w' : World) : Prop :=
  ∃ (v2 : Value) (p : Nat) (E A : Int), e = .returned (.tuple #[v2, .int .i64 (p : Int), .agg #[.int .i64 E, .int .i64 A]]) ∧ Hid (Upd (fun k => v.ownBlock = some k) w w') ∧
    Hid ((E ≠ 0 ∧ wkT T [t0] V 0 = ([], E, A) ∧ v2 = .slice none 0 0) ∨ (E = 0 ∧ A = 0 ∧ i < p ∧ ∃ nums2, WkI T t0 V p st nums2 ∧ IOwn w' B v2 nums2 ∧ ∀ k, v2.ownBlock = some k → v.ownBlock = some k ∨ w.heap.size ≤ k))
end Go.Proofs.YtomfidjmbjpceaaDoor
/- The document's walk. -/
namespace Go.Proofs.YtomfidjmbjpceaaDoor
open Go.RowKit
set_option linter.unusedVariables false

set_option maxRecDepth 100000 in
set_option maxHeartbeats 16000000 in
theorem walk_any (wb : World) (bT oT cT : Nat) (T : List Ty) (aR : Option Addr) (cR : Nat) (R : List Rt) (bV oV cV : Nat) (V : List Nv) (t0 : Int) (hV : V.length ≤ 2000000) (hS : Hid (OkS T R)) (hNv : Hid (∀ x ∈ V, NvOk x)) (hT : Hid (TRow wb (some ⟨bT, oT, none⟩) T)) (hVr : Hid (VRow wb (some ⟨bV, oV, none⟩) V)) :
    ∀ (f i : Nat) (s : Int) (st nums : List Int) (v : Value) (w : World), V.length - i ≤ f → Hid (Below wb.heap.size wb w) → Hid (WkI T t0 V i (s :: st) nums) → Hid (IOwn w wb.heap.size v nums) →
      Calls Tryd.prog 51 #[.agg #[.slice (some ⟨bT, oT, none⟩) T.length cT, .slice aR R.length cR], .int .i64 s, .slice (some ⟨bV, oV, none⟩) V.length cV, .int .i64 (i : Int), v] w fun e w' => WalkTo T t0 V st wb.heap.size i v w e w' := by
  intro f
  induction f with
  | zero =>
    intro i s st nums v w hf hBw hWk hO
    have h1 := chkV_le _ _ _ (by omega) hWk.out.chk
    simp at h1
    omega
  | succ f ih =>
    intro i s st nums v w hf hBw0 hWk hO
    have hih := hide_ ih
    clear ih
    have hi : i < V.length := by
      have h1 := chkV_le _ _ _ (by omega) hWk.out.chk
      simp at h1
      omega
    have hi' : (i : Int) < V.length := by omega
    have hxV : V[i]? = some (V[i]'hi) := List.getElem?_eq_getElem hi
    obtain ⟨s', r', e1, hs0, hs1, hrx, hbad, hgood⟩ := hWk.out.next hS.out hxV
    injection e1 with e1 e2
    subst e1 e2
    obtain ⟨sn, rfl⟩ := Int.eq_ofNat_of_zero_le hs0
    have hsn : sn < T.length := by omega
    have hsn' : (sn : Int) < T.length := hs1
    have hnvx := hNv.out _ (List.mem_of_getElem? hxV)
    have hok := hS.out.ty sn hsn
    rw [Int.toNat_natCast] at hbad hgood
    have htS : T[sn]? = some (T[sn]'hsn) := List.getElem?_eq_getElem hsn
    rw [show T.getD sn ty0 = T[sn]'hsn by simp [List.getD, hsn]] at hok hbad hgood
    have hB := below2 w (.cells #[.slice (some ⟨bT, oT, none⟩) T.length cT, .slice aR R.length cR] 25) (.cells #[.int .i64 0, .int .i64 0] 42)
    obtain ⟨k1, k2⟩ := blk2 w #[.slice (some ⟨bT, oT, none⟩) T.length cT, .slice aR R.length cR] #[.int .i64 0, .int .i64 0] 25 42
    obtain ⟨w0, hw0⟩ : ∃ wx, wx = (w.alloc (.cells #[.slice (some ⟨bT, oT, none⟩) T.length cT, .slice aR R.length cR] 25)).alloc (.cells #[.int .i64 0, .int .i64 0] 42) := ⟨_, rfl⟩
    rw [← hw0] at hB k1 k2
    have hzb : wb.heap.size ≤ w.heap.size := hBw0.out.size
    obtain ⟨_, _, e3, hbT, hcT⟩ := hT.out.open (by omega)
    injection e3 with e3
    injection e3 with e4 e5 _
    subst e4 e5
    obtain ⟨va, vc, hty, hvc, -, hpr⟩ := hcT sn _ htS
    obtain ⟨_, _, e6, hbV, hcV⟩ := hVr.out.open (by omega)
    injection e6 with e6
    injection e6 with e7 e8 _
    subst e7 e8
    have hnd := hcV i _ hxV
    generalize T[sn]'hsn = t at *
    generalize V[i]'hi = x at *
    have KS0 := hide_ k1
    have HCel : Hid (∀ w', Below wb.heap.size wb w' → w'.cell? ⟨bT, oT + sn * 4, none⟩ = some (.int .i64 t.k) ∧ w'.cell? ⟨bT, oT + sn * 4 + 1, none⟩ = some (.int .i64 t.n) ∧ w'.cell? ⟨bT, oT + sn * 4 + 2, none⟩ = some (.int .i64 t.e) ∧ w'.cell? ⟨bT, oT + sn * 4 + 3, none⟩ = some (.slice va t.ps.length vc) ∧ w'.cell? ⟨bV, oV + i * 3, none⟩ = some (.int .i64 x.k) ∧ w'.cell? ⟨bV, oV + i * 3 + 1, none⟩ = some (.int .u64 x.n) ∧ w'.cell? ⟨bV, oV + i * 3 + 2, none⟩ = some (.int .i64 x.kids)) := hide_ (fun w' hB' => ⟨(hB'.cell (p := ⟨bT, oT + sn * 4 + 0, none⟩) hbT).trans (hty 0 (by decide)), (hB'.cell (p := ⟨bT, oT + sn * 4 + 1, none⟩) hbT).trans (hty 1 (by decide)), (hB'.cell (p := ⟨bT, oT + sn * 4 + 2, none⟩) hbT).trans (hty 2 (by decide)), (hB'.cell (p := ⟨bT, oT + sn * 4 + 3, none⟩) hbT).trans (hty 3 (by decide)), (hB'.cell (p := ⟨bV, oV + i * 3 + 0, none⟩) hbV).trans (hnd 0 (by decide)), (hB'.cell (p := ⟨bV, oV + i * 3 + 1, none⟩) hbV).trans (hnd 1 (by decide)), (hB'.cell (p := ⟨bV, oV + i * 3 + 2, none⟩) hbV).trans (hnd 2 (by decide))⟩)
    have hBw := hide_ (hBw0.out.trans (hB.mono hzb))
    have HPr := hide_ hpr
    have HOk := hide_ hok
    have HFi : Hid (∀ w', Below w0.heap.size w0 w' → Calls Tryd.prog 65 #[.agg #[.int .i64 t.k, .int .i64 t.n, .int .i64 t.e, .slice va t.ps.length vc], .agg #[.int .i64 x.k, .int .u64 x.n, .int .i64 x.kids]] w' fun e w'' => e = .returned (.int .i64 (misP t x)) ∧ Below w'.heap.size w' w'') := hide_ (fun w' hB' => fitsR_any t x va vc _ w' HOk hrx hnvx (hide_ (HPr.out.later (hBw.out.trans (hB'.mono (Nat.le_trans hzb hB.size))))))
    have HSS : Hid (∀ w', Below w0.heap.size w0 w' → (fun w' => Below w0.heap.size w0 w' ∧ w'.cell? ⟨w.heap.size, 0, none⟩ = some (.slice (some ⟨bT, oT, none⟩) T.length cT) ∧ w'.cell? ⟨bT, oT + sn * 4, none⟩ = some (.int .i64 t.k) ∧ w'.cell? ⟨bT, oT + sn * 4 + 1, none⟩ = some (.int .i64 t.n) ∧ w'.cell? ⟨bT, oT + sn * 4 + 2, none⟩ = some (.int .i64 t.e) ∧ w'.cell? ⟨bT, oT + sn * 4 + 3, none⟩ = some (.slice va t.ps.length vc) ∧ w'.cell? ⟨bV, oV + i * 3, none⟩ = some (.int .i64 x.k) ∧ w'.cell? ⟨bV, oV + i * 3 + 1, none⟩ = some (.int .u64 x.n) ∧ w'.cell? ⟨bV, oV + i * 3 + 2, none⟩ = some (.int .i64 x.kids)) w') := hide_ (fun w' hB' => ⟨hB', (KS0.out.later hB').cell 0, HCel.out w' (hBw.out.trans (hB'.mono (Nat.le_trans hzb hB.size)))⟩)
    have KR0 := hide_ k2
    have HB0 := hide_ hB
    have hz0 : w.heap.size + 1 < w0.heap.size := k2.lt
    clear hty hnd hcT hcV hxV htS hpr hok hB k1 k2
    go_enter Tryd.func51, Tryd.ntmps51
    go_upto_region 1 with fail
    rw [← hw0]
    clear hw0
    have HBad := hide_ hbad
    have HGood := hide_ hgood
    clear hbad hgood
    refine wp_region_last 10 (fun w' => Below w0.heap.size w0 w' ∧ w'.cell? ⟨w.heap.size, 0, none⟩ = some (.slice (some ⟨bT, oT, none⟩) T.length cT) ∧ w'.cell? ⟨bT, oT + sn * 4, none⟩ = some (.int .i64 t.k) ∧ w'.cell? ⟨bT, oT + sn * 4 + 1, none⟩ = some (.int .i64 t.n) ∧ w'.cell? ⟨bT, oT + sn * 4 + 2, none⟩ = some (.int .i64 t.e) ∧ w'.cell? ⟨bT, oT + sn * 4 + 3, none⟩ = some (.slice va t.ps.length vc) ∧ w'.cell? ⟨bV, oV + i * 3, none⟩ = some (.int .i64 x.k) ∧ w'.cell? ⟨bV, oV + i * 3 + 1, none⟩ = some (.int .u64 x.n) ∧ w'.cell? ⟨bV, oV + i * 3 + 2, none⟩ = some (.int .i64 x.kids)) (by kernel_rfl) (HSS.out _ ((Below.refl w0.heap.size w0).drew)) (fun hHeld => ?_)
    refine wpAnyF_take [10] (by kernel_rfl) (i := 0) (v := ?va1) rfl (by kernel_rfl) (by kernel_rfl) (by kernel_rfl) (fun _ _ _ h => h) (Or.inl ⟨by kernel_rfl, ?hya1⟩) hHeld ?resta1
    case hya1 => intro w' hSw; (try dsimp only at hSw); go_simp; try with_reducible rfl
    simp only [Act.put]
    refine wpAnyF_take [10] (by kernel_rfl) (i := 1) (v := ?va2) rfl (by kernel_rfl) (by kernel_rfl) (by kernel_rfl) (fun _ _ _ h => h) (Or.inl ⟨by kernel_rfl, ?hya2⟩) hHeld ?resta2
    case hya2 => intro w' hSw; (try dsimp only at hSw); go_simp; try with_reducible rfl
    simp only [Act.put]
    refine wpAnyF_take [10] (by kernel_rfl) (i := 2) (v := ?va3) rfl (by kernel_rfl) (by kernel_rfl) (by kernel_rfl) (fun _ _ _ h => h) (Or.inl ⟨by kernel_rfl, ?hya3⟩) hHeld ?resta3
    case hya3 => intro w' hSw; (try dsimp only at hSw); go_simp; try with_reducible rfl
    simp only [Act.put]
    refine wpAnyF_take [10] (by kernel_rfl) (i := 3) (v := ?va4) rfl (by kernel_rfl) (by kernel_rfl) (by kernel_rfl) (fun _ _ _ h => h) (Or.inl ⟨by kernel_rfl, ?hya4⟩) hHeld ?resta4
    case hya4 => intro w' hSw; (try dsimp only at hSw); go_simp; try with_reducible rfl
    simp only [Act.put]
    refine wpAnyF_take [10] (by kernel_rfl) (i := 4) (v := ?va5) rfl (by kernel_rfl) (by kernel_rfl) (by kernel_rfl) (fun _ _ _ h => h) (Or.inl ⟨by kernel_rfl, ?hya5⟩) hHeld ?resta5
    case hya5 => intro w' hSw; (try dsimp only at hSw); go_simp; try with_reducible rfl
    simp only [Act.put]
    refine wpAnyF_take [10] (by kernel_rfl) (i := 5) (v := ?va6) rfl (by kernel_rfl) (by kernel_rfl) (by kernel_rfl) (fun _ _ _ h => h) (Or.inl ⟨by kernel_rfl, ?hya6⟩) hHeld ?resta6
    case hya6 => intro w' hSw; (try dsimp only at hSw); go_simp; try with_reducible rfl
    simp only [Act.put]
    refine wpAnyF_take [10] (by kernel_rfl) (i := 6) (v := ?va7) rfl (by kernel_rfl) (by kernel_rfl) (by kernel_rfl) (fun _ _ _ h => h) (Or.inl ⟨by kernel_rfl, ?hya7⟩) hHeld ?resta7
    case hya7 => intro w' hSw; (try dsimp only at hSw); go_simp; try with_reducible rfl
    simp only [Act.put]
    refine wpAnyF_take [10] (by kernel_rfl) (i := 7) (v := ?va8) rfl (by kernel_rfl) (by kernel_rfl) (by kernel_rfl) (fun _ _ _ h => h) (Or.inl ⟨by kernel_rfl, ?hya8⟩) hHeld ?resta8
    case hya8 => intro w' hSw; (try dsimp only at hSw); go_simp; try with_reducible rfl
    simp only [Act.put]
    refine wpAnyF_take [10] (by kernel_rfl) (i := 8) (v := ?va9) rfl (by kernel_rfl) (by kernel_rfl) (by kernel_rfl) (fun _ _ _ h => h) (Or.inl ⟨by kernel_rfl, ?hya9⟩) hHeld ?resta9
    case hya9 => intro w' hSw; (try dsimp only at hSw); go_simp; try with_reducible rfl
    simp only [Act.put]
    refine wpAnyF_ready (rs := [9]) (by kernel_rfl) (by simp) ?_
    refine AllReadyF.cons rfl (fun K hK => ?_) AllReadyF.nil
    go_simp
    refine (HFi.out _ ((Below.refl w0.heap.size w0).drew)).mono ?_
    rintro e w2 ⟨rfl, hB2⟩
    dsimp only
    have HB2 := hide_ (below_to ((Below.refl w0.heap.size w0).drew) hB2)
    clear hB2
    refine hK.out _ _ (HSS.out _ HB2.out) (fun hHeld => ?_)
    clear hK K
    refine wpAnyF_ready (rs := [10]) (by kernel_rfl) (by simp) ?_
    refine AllReadyF.last rfl (fun K hK => ?_)
    go_simp
    refine hK.out _ _ ?_
    clear hK K
    refine wpAnyF_done (by kernel_rfl) ?_ _
    clear HFi HSS hHeld
    have KS2 := hide_ (KS0.out.later HB2.out)
    have KR2 := hide_ (KR0.out.later HB2.out)
    have HU2 : Hid (Upd (fun k => v.ownBlock = some k) w w2) := hide_ ((Upd.of_below HB0.out).then HB2.out)
    have hzq2 : w0.heap.size ≤ w2.heap.size := HB2.out.size
    have HBw2 : Hid (Below wb.heap.size wb w2) := hide_ (hBw.out.trans (HB2.out.mono (by omega)))
    have HO2 := hide_ ((hO.out.later HB0.out).later HB2.out)
    obtain ⟨M, hM⟩ : ∃ M, misP t x = M := ⟨_, rfl⟩
    rw [hM] at HBad HGood
    rw [hM]
    have HM := hide_ hM
    clear hM
    by_cases hM0 : M = 0
    · subst hM0
      have HWk1 := hide_ (HGood.out rfl)
      obtain ⟨g3, c3, w3, hrun, hO3, hU3, hL3⟩ := HO2.out.push (sn : Int) (by have := hWk.out.len; omega) HBw2.out.size
      have hlen := hWk.out.len
      rw [hlen] at hrun hO3
      have HRun := hide_ hrun
      have nb3 : ∀ b t' ys, Blk w2 b t' ys → t' ≠ 3 → ¬ v.ownBlock = some b := fun b t' ys hb ht => HO2.out.ne hb ht
      have ks3 := KS2.out.upd hU3 (nb3 _ _ _ KS2.out (by decide))
      have kr3 := KR2.out.upd hU3 (nb3 _ _ _ KR2.out (by decide))
      have hu3 : Upd (fun k => v.ownBlock = some k) w w3 := HU2.out.to hU3
      have hb3 : Below wb.heap.size wb w3 := HBw2.out.trans (hU3.below _ HBw2.out.size (fun k hk => (HO2.out.lt k hk).1))
      obtain ⟨w4, hw4⟩ : ∃ wx, wx = w3.alloc (.cells #[.int .i64 0, .int .i64 0] 42) := ⟨_, rfl⟩
      have ba : Below w3.heap.size w3 w4 := by rw [hw4]; exact below1 _ _
      have kf4 : Blk w4 w3.heap.size 42 [.int .i64 0, .int .i64 0] := by rw [hw4]; exact Blk.newA w3 _ _
      obtain ⟨g15, hg15⟩ : ∃ g, w3.heap.size = g := ⟨_, rfl⟩
      have hg15b : w.heap.size + 1 < g15 := by have := hU3.size; omega
      have KF4 : Hid (Blk w4 g15 42 [.int .i64 0, .int .i64 0]) := hide_ (by rw [← hg15]; exact kf4)
      have KS4 := hide_ (ks3.later ba)
      have KR4 := hide_ (kr3.later ba)
      have HU4 := hide_ (hu3.then ba)
      have HO4 := hide_ (hO3.later ba)
      have HL4 : Hid (∀ b, (Value.slice (some ⟨g3, 0, none⟩) (i + 1) c3).ownBlock = some b → v.ownBlock = some b ∨ w.heap.size ≤ b) := hide_ (fun b hb => by
        have := own_is hb
        subst this
        rcases hL3 with h | h
        · exact .inl h
        · exact .inr (by omega))
      have hw1 : wrap64 ((i : Int) + 1) = (i : Int) + 1 := w64 _ (by omega)
      clear hrun hO3 hU3 nb3 ks3 kr3 hu3 hb3 ba kf4 hlen hL3
      go_upto_region 7 with (first | (at_builtin; refine wpList_append_run rfl (.tmp 32) (.tmp 34) 26 26 rfl rfl rfl HRun.out ?_; clear HRun))
      try rw [← hw4]
      try rw [hg15]
      have HW1 := hide_ hw1
      clear hw4 hg15 hw1
      go_wp2_with fail
      go_loopw [4, 14, 16] (fun x4 x14 x16 wr => ∃ (v1 : Value) (p1 k : Nat) (nums1 : List Int), v1 = x4 ∧ x14 = .int .i64 (p1 : Int) ∧ x16 = .int .i64 (k : Int) ∧ (k : Int) ≤ x.kids ∧ i < p1 ∧ Hid (WkI T t0 V p1 ((kidsT t x).drop k ++ st) nums1) ∧ Hid (IOwn wr wb.heap.size v1 nums1) ∧ Hid (∀ b, v1.ownBlock = some b → v.ownBlock = some b ∨ w.heap.size ≤ b) ∧ Hid (Upd (fun b => v.ownBlock = some b) w wr) ∧ Hid (Blk wr w.heap.size 25 [.slice (some ⟨bT, oT, none⟩) T.length cT, .slice aR R.length cR]) ∧ Hid (Blk wr (w.heap.size + 1) 42 [.int .i64 0, .int .i64 0]) ∧ Hid (Blk wr g15 42 [.int .i64 0, .int .i64 0])) (fun _ _ x16 _ => (x.kids - intOf x16).toNat)
      case atStart => exact ⟨_, i + 1, 0, _, rfl, by first | (rw [HW1.out]; rfl) | (rw [HW1.out]; push_cast; rfl), rfl, by have := (rightV_kids hrx).1; omega, by omega, hide_ (by have h := HWk1.out; simpa using h), HO4, HL4, HU4, KS4, KR4, KF4⟩
      case round =>
        obtain ⟨v1, p1, k, nums1, rfl, rfl, rfl, hk, hip, HWq, HOq, HLi, HUq, KS, KR, KF⟩ := hrel
        generalize wr = wq at *
        clear KS4 KR4 KF4 HU4 HO4 HL4 KS2 KR2 HU2 HO2 HB2 KS0 KR0 HB0
        have HBw : Hid (Below wb.heap.size wb wq) := hide_ (hBw0.out.trans (HUq.out.below _ hzb (fun b hb => (hO.out.lt b hb).1)))
        have hzq : wb.heap.size ≤ wq.heap.size := HBw.out.size
        have hkb : x.kids ≤ 1048576 := (rightV_kids hrx).2
        obtain ⟨c0, c1, c2, c3', c4, c5, c6⟩ := HCel.out wq HBw.out
        by_cases hkl : (k : Int) < x.kids
        · obtain ⟨s1, hs1k, hel⟩ := elemR_any t x va vc _ k wq HOk HM.out hrx hkl (hide_ (HPr.out.later HBw.out))
          have HEl : Hid (∀ w', Below wq.heap.size wq w' → Calls Tryd.prog 63 #[.agg #[.int .i64 t.k, .int .i64 t.n, .int .i64 t.e, .slice va t.ps.length vc], .agg #[.int .i64 x.k, .int .u64 x.n, .int .i64 x.kids], .int .i64 (k : Int)] w' fun e w'' => e = .returned (.int .i64 s1) ∧ Below w'.heap.size w' w'') := hide_ (fun w' hB' => by
            obtain ⟨s2, h2, h3⟩ := elemR_any t x va vc _ k w' HOk HM.out hrx hkl (hide_ (HPr.out.later (HBw.out.trans (hB'.mono hzq))))
            rw [hs1k] at h2
            injection h2 with h2
            subst h2
            exact h3)
          have hdr : (kidsT t x).drop k ++ st = s1 :: ((kidsT t x).drop (k + 1) ++ st) := by
            have hlt := (List.getElem?_eq_some_iff.1 hs1k).1
            rw [List.drop_eq_getElem_cons hlt, (List.getElem?_eq_some_iff.1 hs1k).2]
            rfl
          rw [hdr] at HWq
          have HWa : Hid (∀ w', Below wq.heap.size wq w' → Calls Tryd.prog 51 #[.agg #[.slice (some ⟨bT, oT, none⟩) T.length cT, .slice aR R.length cR], .int .i64 s1, .slice (some ⟨bV, oV, none⟩) V.length cV, .int .i64 (p1 : Int), v1] w' fun e w'' => WalkTo T t0 V ((kidsT t x).drop (k + 1) ++ st) wb.heap.size p1 v1 w' e w'') := hide_ (fun w' hB' => hih.out p1 s1 _ nums1 v1 w' (by omega) (hide_ (HBw.out.trans (hB'.mono hzq))) HWq (hide_ (HOq.out.later hB')))
          have k0 := KS.out.cell 0; have k1' := KS.out.cell 1
          simp at k0 k1'
          have HSS : Hid (∀ w', Below wq.heap.size wq w' ∨ Upd (fun b => v1.ownBlock = some b) wq w' → (fun w' => w'.cell? ⟨w.heap.size, 1, none⟩ = some (.slice aR R.length cR) ∧ w'.cell? ⟨w.heap.size, 0, none⟩ = some (.slice (some ⟨bT, oT, none⟩) T.length cT) ∧ w'.cell? ⟨bT, oT + sn * 4, none⟩ = some (.int .i64 t.k) ∧ w'.cell? ⟨bT, oT + sn * 4 + 1, none⟩ = some (.int .i64 t.n) ∧ w'.cell? ⟨bT, oT + sn * 4 + 2, none⟩ = some (.int .i64 t.e) ∧ w'.cell? ⟨bT, oT + sn * 4 + 3, none⟩ = some (.slice va t.ps.length vc) ∧ w'.cell? ⟨bV, oV + i * 3, none⟩ = some (.int .i64 x.k) ∧ w'.cell? ⟨bV, oV + i * 3 + 1, none⟩ = some (.int .u64 x.n) ∧ w'.cell? ⟨bV, oV + i * 3 + 2, none⟩ = some (.int .i64 x.kids)) w') := hide_ (fun w' hB' => by
            have hu : Upd (fun b => v1.ownBlock = some b) wq w' := hB'.elim (fun h => Upd.of_below h) (fun h => h)
            have hks := KS.out.upd hu (HOq.out.ne KS.out (by decide))
            exact ⟨hks.cell 1, hks.cell 0, HCel.out w' (HBw.out.trans (hu.below _ hzq (fun b hb => (HOq.out.lt b hb).1)))⟩)
          clear hel hs1k hdr
          go_upto_region 10 with fail
          clear c0 c1 c2 c3' c4 c5 c6
          refine wp_region_last 22 (fun w' => w'.cell? ⟨w.heap.size, 1, none⟩ = some (.slice aR R.length cR) ∧ w'.cell? ⟨w.heap.size, 0, none⟩ = some (.slice (some ⟨bT, oT, none⟩) T.length cT) ∧ w'.cell? ⟨bT, oT + sn * 4, none⟩ = some (.int .i64 t.k) ∧ w'.cell? ⟨bT, oT + sn * 4 + 1, none⟩ = some (.int .i64 t.n) ∧ w'.cell? ⟨bT, oT + sn * 4 + 2, none⟩ = some (.int .i64 t.e) ∧ w'.cell? ⟨bT, oT + sn * 4 + 3, none⟩ = some (.slice va t.ps.length vc) ∧ w'.cell? ⟨bV, oV + i * 3, none⟩ = some (.int .i64 x.k) ∧ w'.cell? ⟨bV, oV + i * 3 + 1, none⟩ = some (.int .u64 x.n) ∧ w'.cell? ⟨bV, oV + i * 3 + 2, none⟩ = some (.int .i64 x.kids)) (by kernel_rfl) (HSS.out _ (.inl ((Below.refl wq.heap.size wq).drew))) (fun hHeld => ?_)
          refine wpAnyF_take [22] (by kernel_rfl) (i := 0) (v := ?vb1) rfl (by kernel_rfl) (by kernel_rfl) (by kernel_rfl) (fun _ _ _ h => h) (Or.inl ⟨by kernel_rfl, ?hyb1⟩) hHeld ?restb1
          case hyb1 => intro w' hSw; (try dsimp only at hSw); go_simp; try with_reducible rfl
          simp only [Act.put]
          refine wpAnyF_take [22] (by kernel_rfl) (i := 1) (v := ?vb2) rfl (by kernel_rfl) (by kernel_rfl) (by kernel_rfl) (fun _ _ _ h => h) (Or.inl ⟨by kernel_rfl, ?hyb2⟩) hHeld ?restb2
          case hyb2 => intro w' hSw; (try dsimp only at hSw); go_simp; try with_reducible rfl
          simp only [Act.put]
          refine wpAnyF_take [22] (by kernel_rfl) (i := 2) (v := ?vb3) rfl (by kernel_rfl) (by kernel_rfl) (by kernel_rfl) (fun _ _ _ h => h) (Or.inl ⟨by kernel_rfl, ?hyb3⟩) hHeld ?restb3
          case hyb3 => intro w' hSw; (try dsimp only at hSw); go_simp; try with_reducible rfl
          simp only [Act.put]
          refine wpAnyF_take [22] (by kernel_rfl) (i := 3) (v := ?vb4) rfl (by kernel_rfl) (by kernel_rfl) (by kernel_rfl) (fun _ _ _ h => h) (Or.inl ⟨by kernel_rfl, ?hyb4⟩) hHeld ?restb4
          case hyb4 => intro w' hSw; (try dsimp only at hSw); go_simp; try with_reducible rfl
          simp only [Act.put]
          refine wpAnyF_take [22] (by kernel_rfl) (i := 4) (v := ?vb5) rfl (by kernel_rfl) (by kernel_rfl) (by kernel_rfl) (fun _ _ _ h => h) (Or.inl ⟨by kernel_rfl, ?hyb5⟩) hHeld ?restb5
          case hyb5 => intro w' hSw; (try dsimp only at hSw); go_simp; try with_reducible rfl
          simp only [Act.put]
          refine wpAnyF_take [22] (by kernel_rfl) (i := 5) (v := ?vb6) rfl (by kernel_rfl) (by kernel_rfl) (by kernel_rfl) (fun _ _ _ h => h) (Or.inl ⟨by kernel_rfl, ?hyb6⟩) hHeld ?restb6
          case hyb6 => intro w' hSw; (try dsimp only at hSw); go_simp; try with_reducible rfl
          simp only [Act.put]
          refine wpAnyF_take [22] (by kernel_rfl) (i := 6) (v := ?vb7) rfl (by kernel_rfl) (by kernel_rfl) (by kernel_rfl) (fun _ _ _ h => h) (Or.inl ⟨by kernel_rfl, ?hyb7⟩) hHeld ?restb7
          case hyb7 => intro w' hSw; (try dsimp only at hSw); go_simp; try with_reducible rfl
          simp only [Act.put]
          refine wpAnyF_take [22] (by kernel_rfl) (i := 7) (v := ?vb8) rfl (by kernel_rfl) (by kernel_rfl) (by kernel_rfl) (fun _ _ _ h => h) (Or.inl ⟨by kernel_rfl, ?hyb8⟩) hHeld ?restb8
          case hyb8 => intro w' hSw; (try dsimp only at hSw); go_simp; try with_reducible rfl
          simp only [Act.put]
          refine wpAnyF_take [22] (by kernel_rfl) (i := 8) (v := ?vb9) rfl (by kernel_rfl) (by kernel_rfl) (by kernel_rfl) (fun _ _ _ h => h) (Or.inl ⟨by kernel_rfl, ?hyb9⟩) hHeld ?restb9
          case hyb9 => intro w' hSw; (try dsimp only at hSw); go_simp; try with_reducible rfl
          simp only [Act.put]
          refine wpAnyF_take [22] (by kernel_rfl) (i := 9) (v := ?vb10) rfl (by kernel_rfl) (by kernel_rfl) (by kernel_rfl) (fun _ _ _ h => h) (Or.inl ⟨by kernel_rfl, ?hyb10⟩) hHeld ?restb10
          case hyb10 => intro w' hSw; (try dsimp only at hSw); go_simp; try with_reducible rfl
          simp only [Act.put]
          refine wpAnyF_take [22] (by kernel_rfl) (i := 10) (v := ?vb11) rfl (by kernel_rfl) (by kernel_rfl) (by kernel_rfl) (fun _ _ _ h => h) (Or.inl ⟨by kernel_rfl, ?hyb11⟩) hHeld ?restb11
          case hyb11 => intro w' hSw; (try dsimp only at hSw); go_simp; try with_reducible rfl
          simp only [Act.put]
          refine wpAnyF_take [22] (by kernel_rfl) (i := 12) (v := ?vb12) rfl (by kernel_rfl) (by kernel_rfl) (by kernel_rfl) (fun _ _ _ h => h) (Or.inl ⟨by kernel_rfl, ?hyb12⟩) hHeld ?restb12
          case hyb12 => intro w' hSw; (try dsimp only at hSw); go_simp; try with_reducible rfl
          simp only [Act.put]
          refine wpAnyF_take [22] (by kernel_rfl) (i := 13) (v := ?vb13) rfl (by kernel_rfl) (by kernel_rfl) (by kernel_rfl) (fun _ _ _ h => h) (Or.inl ⟨by kernel_rfl, ?hyb13⟩) hHeld ?restb13
          case hyb13 => intro w' hSw; (try dsimp only at hSw); go_simp; try with_reducible rfl
          simp only [Act.put]
          refine wpAnyF_take [22] (by kernel_rfl) (i := 14) (v := ?vb14) rfl (by kernel_rfl) (by kernel_rfl) (by kernel_rfl) (fun _ _ _ h => h) (Or.inl ⟨by kernel_rfl, ?hyb14⟩) hHeld ?restb14
          case hyb14 => intro w' hSw; (try dsimp only at hSw); go_simp; try with_reducible rfl
          simp only [Act.put]
          refine wpAnyF_ready (rs := [11]) (by kernel_rfl) (by simp) ?_
          refine AllReadyF.cons rfl (fun K hK => ?_) AllReadyF.nil
          go_simp
          refine (HEl.out _ ((Below.refl wq.heap.size wq).drew)).mono ?_
          rintro e w5 ⟨rfl, hB5⟩
          dsimp only
          have HB5 := hide_ (below_to ((Below.refl wq.heap.size wq).drew) hB5)
          clear hB5
          refine hK.out _ _ (HSS.out _ (.inl HB5.out)) (fun hHeld => ?_)
          clear hK K
          refine wpAnyF_ready (rs := [15]) (by kernel_rfl) (by simp) ?_
          refine AllReadyF.cons rfl (fun K hK => ?_) AllReadyF.nil
          go_simp
          refine (HWa.out _ HB5.out).mono ?_
          rintro e w6 ⟨v2, p2, E, A, rfl, HU6, HW6⟩
          dsimp only
          have HB6 : Hid (Below wb.heap.size wb w6) := hide_ ((HBw.out.trans (HB5.out.mono hzq)).trans (HU6.out.below _ (Nat.le_trans hzq HB5.out.size) (fun b hb => (HOq.out.lt b hb).1)))
          refine hK.out _ _ (HSS.out _ (.inr ((Upd.of_below HB5.out).to HU6.out))) (fun hHeld => ?_)
          clear hK K
          refine wpAnyF_take [22] (by kernel_rfl) (i := 16) (v := ?vb15) rfl (by kernel_rfl) (by kernel_rfl) (by kernel_rfl) (fun _ _ _ h => h) (Or.inl ⟨by kernel_rfl, ?hyb15⟩) hHeld ?restb15
          case hyb15 => intro w' hSw; (try dsimp only at hSw); go_simp; try with_reducible rfl
          simp only [Act.put]
          refine wpAnyF_take [22] (by kernel_rfl) (i := 17) (v := ?vb16) rfl (by kernel_rfl) (by kernel_rfl) (by kernel_rfl) (fun _ _ _ h => h) (Or.inl ⟨by kernel_rfl, ?hyb16⟩) hHeld ?restb16
          case hyb16 => intro w' hSw; (try dsimp only at hSw); go_simp; try with_reducible rfl
          simp only [Act.put]
          refine wpAnyF_take [22] (by kernel_rfl) (i := 18) (v := ?vb17) rfl (by kernel_rfl) (by kernel_rfl) (by kernel_rfl) (fun _ _ _ h => h) (Or.inl ⟨by kernel_rfl, ?hyb17⟩) hHeld ?restb17
          case hyb17 => intro w' hSw; (try dsimp only at hSw); go_simp; try with_reducible rfl
          simp only [Act.put]
          refine wpAnyF_take [22] (by kernel_rfl) (i := 19) (v := ?vb18) rfl (by kernel_rfl) (by kernel_rfl) (by kernel_rfl) (fun _ _ _ h => h) (Or.inl ⟨by kernel_rfl, ?hyb18⟩) hHeld ?restb18
          case hyb18 => intro w' hSw; (try dsimp only at hSw); go_simp; try with_reducible rfl
          simp only [Act.put]
          refine wpAnyF_take [22] (by kernel_rfl) (i := 20) (v := ?vb19) rfl (by kernel_rfl) (by kernel_rfl) (by kernel_rfl) (fun _ _ _ h => h) (Or.inl ⟨by kernel_rfl, ?hyb19⟩) hHeld ?restb19
          case hyb19 => intro w' hSw; (try dsimp only at hSw); go_simp; try with_reducible rfl
          simp only [Act.put]
          refine wpAnyF_take [22] (by kernel_rfl) (i := 21) (v := ?vb20) rfl (by kernel_rfl) (by kernel_rfl) (by kernel_rfl) (fun _ _ _ h => h) (Or.inl ⟨by kernel_rfl, ?hyb20⟩) hHeld ?restb20
          case hyb20 => intro w' hSw; (try dsimp only at hSw); go_simp; try with_reducible rfl
          simp only [Act.put]
          refine wpAnyF_ready (rs := [22]) (by kernel_rfl) (by simp) ?_
          refine AllReadyF.last rfl (fun K hK => ?_)
          have nb : ∀ b t' ys, Blk w5 b t' ys → t' ≠ 3 → ¬ v1.ownBlock = some b := fun b t' ys hb ht => (HOq.out.later HB5.out).ne hb ht
          have k15 := (KF.out.later HB5.out).upd HU6.out (nb _ _ _ (KF.out.later HB5.out) (by decide))
          have k12 := (KR.out.later HB5.out).upd HU6.out (nb _ _ _ (KR.out.later HB5.out) (by decide))
          have k5 := (KS.out.later HB5.out).upd HU6.out (nb _ _ _ (KS.out.later HB5.out) (by decide))
          have l0 := k15.cell 0; have l1 := k15.cell 1
          have lf := fun i => k15.frozen i
          simp at l0 l1
          have hu6 : Upd (fun b => v.ownBlock = some b) w w6 := by
            refine (HUq.out.then HB5.out).trans HU6.out (fun b hb hk => ?_)
            rcases HLi.out b hk with h | h
            · exact h
            · omega
          go_simp
          refine hK.out _ _ ?_
          clear hK K
          refine wpAnyF_done (by kernel_rfl) ?_ _
          have K15 := hide_ (wr2 k15 (.int .i64 E) (.int .i64 A))
          have K12 := hide_ ((k12.other ⟨g15, 0, none⟩ (.int .i64 E) (by show w.heap.size + 1 ≠ g15; omega)).other ⟨g15, 1, none⟩ (.int .i64 A) (by show w.heap.size + 1 ≠ g15; omega))
          have K5 := hide_ ((k5.other ⟨g15, 0, none⟩ (.int .i64 E) (by show w.heap.size ≠ g15; omega)).other ⟨g15, 1, none⟩ (.int .i64 A) (by show w.heap.size ≠ g15; omega))
          have HU7 := hide_ ((hu6.set ⟨g15, 0, none⟩ (.int .i64 E) (.inr (by show w.heap.size ≤ g15; omega))).set ⟨g15, 1, none⟩ (.int .i64 A) (.inr (by show w.heap.size ≤ g15; omega)))
          have HOn : Hid (E = 0 → ∃ nums2, WkI T t0 V p2 ((kidsT t x).drop (k + 1) ++ st) nums2 ∧ p1 < p2 ∧ IOwn ((w6.setCell ⟨g15, 0, none⟩ (.int .i64 E)).setCell ⟨g15, 1, none⟩ (.int .i64 A)) wb.heap.size v2 nums2 ∧ ∀ b, v2.ownBlock = some b → v.ownBlock = some b ∨ w.heap.size ≤ b) := hide_ (fun hE => by
            rcases HW6.out with ⟨h, -, -⟩ | ⟨-, hA, hp, nums2, hwk, ho, hli⟩
            · exact absurd hE h
            · refine ⟨nums2, hwk, hp, ho.upd (((Upd.refl (fun b => b = g15) w6).set ⟨g15, 0, none⟩ (.int .i64 E) (.inl rfl)).set ⟨g15, 1, none⟩ (.int .i64 A) (.inl rfl)) (fun b hb e => ?_), fun b hb => ?_⟩
              · obtain ⟨zs, hz⟩ := ownS_type ho hb
                subst e
                exact absurd (blk_type k15 hz) (by decide)
              · rcases hli b hb with h | h
                · exact HLi.out b h
                · exact .inr (Nat.le_trans (Nat.le_trans HUq.out.size HB5.out.size) h))
          have HEr : Hid (E ≠ 0 → wkT T [t0] V 0 = ([], E, A)) := hide_ (fun hE => by
            rcases HW6.out with ⟨-, h, -⟩ | ⟨h, -⟩
            · exact h
            · exact absurd h hE)
          have HAz : Hid (E = 0 → A = 0) := hide_ (fun hE => by
            rcases HW6.out with ⟨h, -, -⟩ | ⟨-, h, -⟩
            · exact absurd hE h
            · exact h)
          clear HW6 HU6 hu6 k15 k12 k5 l0 l1 lf nb HB6 hHeld
          generalize hw7 : (w6.setCell ⟨g15, 0, none⟩ (.int .i64 E)).setCell ⟨g15, 1, none⟩ (.int .i64 A) = w7 at *
          clear hw7
          have m0 := K15.out.cell 0; have m1 := K15.out.cell 1
          simp at m0 m1
          by_cases hE : E = 0
          · have hA := HAz.out hE
            subst hE hA
            obtain ⟨nums2, hwk, hpp, ho, hli⟩ := HOn.out rfl
            have HWn := hide_ hwk
            have HOwn := hide_ ho
            have HLn := hide_ hli
            clear HOn HEr HAz hwk ho hli
            go_wp2_with fail
            go_roundw
            case rel => exact ⟨v2, p2, k + 1, nums2, rfl, rfl, by go_num, by omega, by omega, HWn, HOwn, HLn, HU7, K5, K12, K15⟩
            case measure => simp [intOf]; omega
          · have hE1 : (E != 0) = true := by simpa using hE
            have HF := hide_ (HEr.out hE)
            have n0 := K12.out.cell 0; have n1 := K12.out.cell 1
            have nf := fun i => K12.out.frozen i
            simp at n0 n1
            have HKz := hide_ (wr2 K12.out (.int .i64 E) (.int .i64 A))
            have HUz := hide_ ((HU7.out.set ⟨w.heap.size + 1, 0, none⟩ (.int .i64 E) (.inr (by show w.heap.size ≤ w.heap.size + 1; omega))).set ⟨w.heap.size + 1, 1, none⟩ (.int .i64 A) (.inr (by show w.heap.size ≤ w.heap.size + 1; omega)))
            go_wp2_with fail
            go_region
            all_goals
              go_wp2
              exact retTTF (v1 := .slice none 0 0) (v2 := .int .i64 ((0 : Nat) : Int)) rfl rfl rfl rfl HKz.out ⟨_, 0, E, A, rfl, hide_ (by have h := HUz.out; exact ⟨h.os, h.tape, h.output, h.size, h.block⟩), hide_ (.inl ⟨hE, HF.out, rfl⟩)⟩
        · have hkl' : ¬ (k : Int) < x.kids := hkl
          have hkl2 : kidsT t x = (kidsT t x).take k := by
            have hl := kidsT_len HOk.out HM.out hrx
            rw [List.take_of_length_le (by omega)]
          have HWf : Hid (WkI T t0 V p1 st nums1) := hide_ (by
            have h := HWq.out
            have hl := kidsT_len HOk.out HM.out hrx
            rw [List.drop_eq_nil_of_le (by omega), List.nil_append] at h
            exact h)
          clear hkl2
          have l0 := KF.out.cell 0; have l1 := KF.out.cell 1
          have n0 := KR.out.cell 0; have n1 := KR.out.cell 1
          have nf := fun i => KR.out.frozen i
          simp at l0 l1 n0 n1
          have HKz := hide_ (wr2 KR.out (.int .i64 0) (.int .i64 0))
          have HUz := hide_ ((HUq.out.set ⟨w.heap.size + 1, 0, none⟩ (.int .i64 0) (.inr (by show w.heap.size ≤ w.heap.size + 1; omega))).set ⟨w.heap.size + 1, 1, none⟩ (.int .i64 0) (.inr (by show w.heap.size ≤ w.heap.size + 1; omega)))
          have HOz : Hid (IOwn ((wq.setCell ⟨w.heap.size + 1, 0, none⟩ (.int .i64 0)).setCell ⟨w.heap.size + 1, 1, none⟩ (.int .i64 0)) wb.heap.size v1 nums1) := hide_ (HOq.out.upd (((Upd.refl (fun b => b = w.heap.size + 1) wq).set ⟨w.heap.size + 1, 0, none⟩ (.int .i64 0) (.inl rfl)).set ⟨w.heap.size + 1, 1, none⟩ (.int .i64 0) (.inl rfl)) (fun b hb e => by
            obtain ⟨zs, hz⟩ := ownS_type HOq.out hb
            subst e
            exact absurd (blk_type KR.out hz) (by decide)))
          go_wp2_with fail
          go_region
          all_goals
            go_wp2
            exact retTTF (v1 := v1) (v2 := .int .i64 (p1 : Int)) rfl rfl rfl rfl HKz.out ⟨v1, p1, 0, 0, rfl, hide_ (by have h := HUz.out; exact ⟨h.os, h.tape, h.output, h.size, h.block⟩), hide_ (.inr ⟨rfl, rfl, hip, nums1, HWf.out, HOz.out.later ((Below.refl _ _).drew), HLi.out⟩)⟩
    · have hM1 : (M != 0) = true := by simpa using hM0
      have HF := hide_ (HBad.out hM0)
      have n0 := KR2.out.cell 0; have n1 := KR2.out.cell 1
      have nf := fun i => KR2.out.frozen i
      simp at n0 n1
      have HKz := hide_ (wr2 KR2.out (.int .i64 M) (.int .i64 (i : Int)))
      have HUz := hide_ ((HU2.out.set ⟨w.heap.size + 1, 0, none⟩ (.int .i64 M) (.inr (by show w.heap.size ≤ w.heap.size + 1; omega))).set ⟨w.heap.size + 1, 1, none⟩ (.int .i64 (i : Int)) (.inr (by show w.heap.size ≤ w.heap.size + 1; omega)))
      go_wp2
      exact retTTF (v1 := .slice none 0 0) (v2 := .int .i64 ((0 : Nat) : Int)) rfl rfl rfl rfl HKz.out ⟨_, 0, M, (i : Int), rfl, HUz, hide_ (.inl ⟨hM0, HF.out, rfl⟩)⟩
end Go.Proofs.YtomfidjmbjpceaaDoor
/- The document's Types. -/
namespace Go.Proofs.YtomfidjmbjpceaaDoor
open Go.RowKit
set_option linter.unusedVariables false

/-- What the document's Types answers. -/
def TyTo (A : List Int × Int × Int) (w : World) (e : Ending) (w' : World) : Prop := ∃ v, e = .returned (.tuple #[v, .agg #[.int .i64 A.2.1, .int .i64 A.2.2]]) ∧ Hid (IOwn w' w.heap.size v A.1) ∧ Hid (Below w.heap.size w w')
theorem wk_end {T : List Ty} {t : Int} {V : List Nv} {p : Nat} {nums : List Int} (h : WkI T t V p [] nums) : wkT T [t] V 0 = (nums, 0, 0) := by
  rw [h.ans]
  have e : wkT T [] (V.drop p) p = ([], 0, 0) := by unfold wkT; rfl
  rw [e]
  unfold apT
  simp
set_option maxRecDepth 100000 in
set_option maxHeartbeats 8000000 in
theorem typesR_any (aT : Option Addr) (cT : Nat) (T : List Ty) (aR : Option Addr) (cR : Nat) (R : List Rt) (t : Int) (aV : Option Addr) (cV : Nat) (V : List Nv) (w : World) (hn : T.length ≤ 1000000000) (hm : R.length ≤ 10000000000000) (hV : V.length ≤ 2000000) (hL : Hid (LensT T)) (hT : Hid (TRow w aT T)) (hRr : Hid (RRow w aR R)) (hVr : Hid (VRow w aV V)) (hNv : Hid (∀ x ∈ V, NvOk x)) :
    Calls Tryd.prog 37 #[.agg #[.slice aT T.length cT, .slice aR R.length cR], .int .i64 t, .slice aV V.length cV] w fun e w' => TyTo (tyV T R t V) w e w' := by
  have hB := below2 w (.cells #[.slice aT T.length cT, .slice aR R.length cR] 25) (.cells #[.int .i64 0, .int .i64 0] 42)
  obtain ⟨k1, k2⟩ := blk2 w #[.slice aT T.length cT, .slice aR R.length cR] #[.int .i64 0, .int .i64 0] 25 42
  obtain ⟨w0, hw0⟩ : ∃ wx, wx = (w.alloc (.cells #[.slice aT T.length cT, .slice aR R.length cR] 25)).alloc (.cells #[.int .i64 0, .int .i64 0] 42) := ⟨_, rfl⟩
  rw [← hw0] at hB k1 k2
  have HB0 := hide_ hB
  have K1 := hide_ k1
  have K2 := hide_ k2
  have hz0 : w.heap.size + 1 < w0.heap.size := k2.lt
  have i0 := k1.cell 0; have i1 := k1.cell 1
  simp at i0 i1
  have HCk := hide_ (checkR_any aT cT T aR cR R w0 (by omega) hm hL (hide_ (hT.out.later hB)) (hide_ (hRr.out.later hB)))
  obtain ⟨E, hE⟩ : ∃ E, (chk T R).1 = E := ⟨_, rfl⟩
  obtain ⟨A, hA⟩ : ∃ A, (chk T R).2 = A := ⟨_, rfl⟩
  rw [hE, hA] at HCk
  have HE : Hid (chk T R = (E, A)) := hide_ (by rw [← hE, ← hA])
  clear hB k1 k2 hE hA
  go_enter Tryd.func37, Tryd.ntmps37
  go_upto_region 1 with fail
  rw [← hw0]
  clear hw0
  go_wp2_with fail
  refine HCk.out.mono ?_; rintro e w1 ⟨rfl, hB1⟩
  obtain ⟨w2, hw2⟩ : ∃ wx, wx = w1.alloc (.cells #[.int .i64 E, .int .i64 A] 42) := ⟨_, rfl⟩
  have kf : Blk w2 w1.heap.size 42 [.int .i64 E, .int .i64 A] := by rw [hw2]; exact Blk.newA w1 _ _
  have hb2 : Below w1.heap.size w1 w2 := by rw [hw2]; exact below1 _ _
  have HB2 := hide_ (below_to hB1 hb2)
  have KF := hide_ kf
  have K12 := hide_ (K1.out.later HB2.out)
  have K22 := hide_ (K2.out.later HB2.out)
  have HBw := hide_ (below_to HB0.out HB2.out)
  have hz1 : w0.heap.size ≤ w1.heap.size := hB1.size
  have j0 := kf.cell 0; have j1 := kf.cell 1
  have n0 := K22.out.cell 0; have n1 := K22.out.cell 1
  have nf := fun i => K22.out.frozen i
  simp at j0 j1 n0 n1
  clear i0 i1
  have i0 := K12.out.cell 0; have i1 := K12.out.cell 1
  simp at i0 i1
  clear hB1 hb2 kf HCk
  go_upto_region 2 with fail
  rw [← hw2]
  clear hw2
  by_cases hE0 : E = 0
  · subst hE0
    have HOk := hide_ (okS_of (T := T) (R := R) (by rw [HE.out]))
    by_cases ht : t < 0 ∨ (T.length : Int) ≤ t
    · have HV : Hid (tyV T R t V = ([], 3, 0)) := hide_ (by unfold tyV; rw [HE.out, if_neg (by simp), if_pos ht])
      have HKz := hide_ (wr2 K22.out (.int .i64 3) (.int .i64 0))
      have HBz := hide_ (below_wr2 HBw.out (w.heap.size + 1) (by omega) (.int .i64 3) (.int .i64 0))
      by_cases ht0 : t < 0
      · have hd : decide (t < 0) = true := decide_eq_true ht0
        go_wp2
        exact retTF (x := 3) (y := 0) rfl rfl rfl HKz.out ⟨.slice none 0 0, by rw [HV.out]; rfl, hide_ (by rw [HV.out]; exact IOwn.nil _ _), HBz⟩
      · have hd : decide (t < 0) = false := decide_eq_false ht0
        have hd2 : (T.length : Int) ≤ t := by omega
        go_wp2
        exact retTF (x := 3) (y := 0) rfl rfl rfl HKz.out ⟨.slice none 0 0, by rw [HV.out]; rfl, hide_ (by rw [HV.out]; exact IOwn.nil _ _), HBz⟩
    · have hd : decide (t < 0) = false := decide_eq_false (by omega)
      have hd1 : ¬ t < 0 := by omega
      have hd2 : ¬ (T.length : Int) ≤ t := by omega
      obtain ⟨E2, hE2⟩ : ∃ E, (chkV 1 0 V).1 = E := ⟨_, rfl⟩
      obtain ⟨A2, hA2⟩ : ∃ A, (chkV 1 0 V).2 = A := ⟨_, rfl⟩
      have HCv : Hid (Calls Tryd.prog 24 #[.slice aV V.length cV] w2 fun e w' => e = .returned (.tuple #[.int .i64 E2, .int .i64 A2]) ∧ Below w2.heap.size w2 w') := hide_ (by
        rw [← hE2, ← hA2]
        exact checkN_any aV V.length cV V w2 rfl hV (hide_ (hVr.out.later HBw.out)) hNv)
      have HE2 : Hid (chkV 1 0 V = (E2, A2)) := hide_ (by rw [← hE2, ← hA2])
      clear hE2 hA2
      go_wp2_with fail
      refine HCv.out.mono ?_; rintro e w3 ⟨rfl, hB3⟩
      have HBw3 := hide_ (below_to HBw.out hB3)
      have K13 := hide_ (K12.out.later hB3)
      have K23 := hide_ (K22.out.later hB3)
      have KF3 := hide_ (KF.out.later hB3)
      have hz3 : w2.heap.size ≤ w3.heap.size := hB3.size
      clear i0 i1 j0 j1 n0 n1 nf hB3 HCv
      have n0 := K23.out.cell 0; have n1 := K23.out.cell 1
      have nf := fun i => K23.out.frozen i
      have i0 := K13.out.cell 0; have i1 := K13.out.cell 1
      simp at i0 i1 n0 n1
      by_cases hE20 : E2 = 0
      · subst hE20
        have hcv : (chkV 1 0 V).1 = 0 := by rw [HE2.out]
        have hVl : 0 < V.length := by
          have h1 := chkV_le V 1 0 (by omega) hcv
          omega
        have hTl : 0 < T.length := by omega
        have HWk : Hid (WkI T t V 0 (t :: []) []) := hide_ (WkI.start (by omega) (by omega) hcv)
        obtain ⟨bT, oT, eT, -, -⟩ := hT.out.open hTl
        subst eT
        obtain ⟨bV, oV, eV, -, -⟩ := hVr.out.open hVl
        subst eV
        have HWa := hide_ (walk_any w3 bT oT cT T aR cR R bV oV cV V t hV HOk hNv (hide_ (hT.out.later HBw3.out)) (hide_ (hVr.out.later HBw3.out)) V.length 0 t [] [] (.slice none 0 0) w3 (by omega) (hide_ (Below.refl _ _)) HWk (hide_ (IOwn.nil _ _)))
        have hzw : w.heap.size ≤ w3.heap.size := HBw3.out.size
        clear hcv
        go_wp2_with fail
        refine HWa.out.mono ?_
        rintro e w4 ⟨v2, p, E3, A3, rfl, HU4, HW4⟩
        have hb4 : Below w3.heap.size w3 w4 := HU4.out.below _ (Nat.le_refl _) (fun k hk => by cases hk)
        have HV : Hid (∃ nums, tyV T R t V = (nums, E3, A3) ∧ IOwn w4 w3.heap.size v2 nums) := hide_ (by
          have e1 : tyV T R t V = wkT T [t] V 0 := by unfold tyV; rw [HE.out, if_neg (by simp), if_neg ht, HE2.out, if_neg (by simp)]
          rcases HW4.out with ⟨h1, h2, h3⟩ | ⟨h1, h2, -, nums, h3, h4, -⟩
          · subst h3
            exact ⟨[], by rw [e1, h2], IOwn.nil _ _⟩
          · subst h1 h2
            exact ⟨nums, by rw [e1, wk_end h3], h4⟩)
        obtain ⟨nums, hty, ho⟩ := HV.out
        have HTy := hide_ hty
        have HO4 := hide_ ho
        have K24 := hide_ (K23.out.later hb4)
        have KF4 := hide_ (KF3.out.later hb4)
        have HB4 := hide_ (below_to HBw3.out hb4)
        clear hb4 HV HW4 HU4 hty ho HWa i0 i1 n0 n1 nf
        have j0 := KF4.out.cell 0; have j1 := KF4.out.cell 1
        have jf := fun i => KF4.out.frozen i
        simp at j0 j1
        have kf5 := wr2 KF4.out (.int .i64 E3) (.int .i64 A3)
        have hne : w.heap.size + 1 ≠ w1.heap.size := by omega
        have k25 := (K24.out.other ⟨w1.heap.size, 0, none⟩ (.int .i64 E3) hne).other ⟨w1.heap.size, 1, none⟩ (.int .i64 A3) hne
        have hB5 := below_wr2 HB4.out w1.heap.size (by omega) (.int .i64 E3) (.int .i64 A3)
        have ho5 := HO4.out.upd (((Upd.refl (fun b => b = w1.heap.size) w4).set ⟨w1.heap.size, 0, none⟩ (.int .i64 E3) (.inl rfl)).set ⟨w1.heap.size, 1, none⟩ (.int .i64 A3) (.inl rfl)) (fun b hb e => by
          obtain ⟨zs, hz⟩ := ownS_type HO4.out hb
          subst e
          exact absurd (blk_type KF4.out hz) (by decide))
        obtain ⟨w5, hw5⟩ : ∃ wx, wx = (w4.setCell ⟨w1.heap.size, 0, none⟩ (.int .i64 E3)).setCell ⟨w1.heap.size, 1, none⟩ (.int .i64 A3) := ⟨_, rfl⟩
        rw [← hw5] at kf5 k25 hB5 ho5
        have HKz := hide_ (wr2 k25 (.int .i64 E3) (.int .i64 A3))
        have HBz := hide_ (below_wr2 hB5 (w.heap.size + 1) (by omega) (.int .i64 E3) (.int .i64 A3))
        have HOz := hide_ (ho5.upd (((Upd.refl (fun b => b = w.heap.size + 1) w5).set ⟨w.heap.size + 1, 0, none⟩ (.int .i64 E3) (.inl rfl)).set ⟨w.heap.size + 1, 1, none⟩ (.int .i64 A3) (.inl rfl)) (fun b hb e => by
          obtain ⟨zs, hz⟩ := ownS_type ho5 hb
          subst e
          exact absurd (blk_type k25 hz) (by decide)))
        have m0 := kf5.cell 0; have m1 := kf5.cell 1
        have n0 := k25.cell 0; have n1 := k25.cell 1
        have nf := fun i => k25.frozen i
        simp at m0 m1 n0 n1
        clear kf5 k25 hB5 ho5 hne
        go_upto_region 10 with fail
        rw [← hw5]
        clear hw5 j0 j1 jf
        go_region
        all_goals
          go_wp2
          exact retTF (x := E3) (y := A3) rfl rfl rfl HKz.out ⟨v2, by rw [HTy.out]; rfl, hide_ (by rw [HTy.out]; exact (HOz.out.later ((Below.refl _ _).drew)).base hzw), hide_ (HBz.out.drew)⟩
      · have hE21 : (E2 != 0) = true := by simpa using hE20
        have HV : Hid (tyV T R t V = ([], E2, A2)) := hide_ (by unfold tyV; rw [HE.out, if_neg (by simp), if_neg ht, HE2.out, if_pos (by simpa using hE20)])
        have HKz := hide_ (wr2 K23.out (.int .i64 E2) (.int .i64 A2))
        have HBz := hide_ (below_wr2 HBw3.out (w.heap.size + 1) (by omega) (.int .i64 E2) (.int .i64 A2))
        go_wp2
        exact retTF (x := E2) (y := A2) rfl rfl rfl HKz.out ⟨.slice none 0 0, by rw [HV.out]; rfl, hide_ (by rw [HV.out]; exact IOwn.nil _ _), HBz⟩
  · have hE1 : (E != 0) = true := by simpa using hE0
    have HV : Hid (tyV T R t V = ([], E, A)) := hide_ (by unfold tyV; rw [HE.out, if_pos (by simpa using hE0)])
    have HKz := hide_ (wr2 K22.out (.int .i64 E) (.int .i64 A))
    have HBz := hide_ (below_wr2 HBw.out (w.heap.size + 1) (by omega) (.int .i64 E) (.int .i64 A))
    go_wp2_with fail
    go_region
    all_goals
      go_wp2
      exact retTF (x := E) (y := A) rfl rfl rfl HKz.out ⟨.slice none 0 0, by rw [HV.out]; rfl, hide_ (by rw [HV.out]; exact IOwn.nil _ _), hide_ (HBz.out.drew)⟩
end Go.Proofs.YtomfidjmbjpceaaDoor
/- Plain: what Some makes is of the type, and the picks that stand in it lead to it again. -/
namespace Go.Proofs.YtomfidjmbjpceaaDoor
set_option linter.unusedVariables false

/-- What is made so far, as the walk and value.Check see it. -/
structure PkI (T : List Ty) (t : Int) (p : List Int) (st : List Int) (V : List Nv) (nums : List Int) : Prop where
  wk : ∀ rest, wkT T [t] (V ++ rest) 0 = apT nums (wkT T st rest V.length)
  ck : ∀ rest, chkV 1 0 (V ++ rest) = chkV (st.length : Int) (V.length : Int) rest
  len : nums.length = V.length
  pk : ∀ (i : Nat) (s : Int), nums[i]? = some s → V[i]? = some (pickP (T.getD s.toNat ty0) (pickA p i))
  hd : nums.head? = some t ∨ (nums = [] ∧ st = [t])
theorem apT_nil {r : List Int × Int × Int} (h : r.2.1 = 0 → r.2.2 = 0) : apT [] r = r := by
  unfold apT
  split
  · rfl
  · rename_i h1
    have h1 : r.2.1 = 0 := by simpa using h1
    obtain ⟨a, b, c⟩ := r
    simp only at h h1
    subst h1
    rw [h rfl]
    simp
theorem PkI.start {T : List Ty} {t : Int} {p : List Int} : PkI T t p [t] [] [] := by
  refine ⟨fun rest => ?_, fun rest => by simp, rfl, fun i s h => by simp at h, .inr ⟨rfl, rfl⟩⟩
  rw [List.nil_append]
  exact (apT_nil (fun h => wkT_ok T rest [t] 0 h)).symm
theorem PkI.step {T : List Ty} {R : List Rt} {t : Int} {p : List Int} {s : Int} {st : List Int} {V : List Nv} {nums : List Int} (h : PkI T t p (s :: st) V nums) (hS : OkS T R) (hs0 : 0 ≤ s) (hs1 : s < T.length)
    (hf : misP (T.getD s.toNat ty0) (pickP (T.getD s.toNat ty0) (pickA p V.length)) = 0) (hr : rightV (pickP (T.getD s.toNat ty0) (pickA p V.length)) = true) :
    PkI T t p (kidsT (T.getD s.toNat ty0) (pickP (T.getD s.toNat ty0) (pickA p V.length)) ++ st) (V ++ [pickP (T.getD s.toNat ty0) (pickA p V.length)]) (nums ++ [s]) := by
  have hok := hS.ty s.toNat (by omega)
  rw [show ((s.toNat : Nat) : Int) = s by omega] at hok
  have hl := kidsT_len hok hf hr
  obtain ⟨x, hx⟩ : ∃ x, pickP (T.getD s.toNat ty0) (pickA p V.length) = x := ⟨_, rfl⟩
  rw [hx] at hf hr hl ⊢
  refine ⟨fun rest => ?_, fun rest => ?_, by simp [h.len], fun i s' hi => ?_, ?_⟩
  · have h1 := h.wk (x :: rest)
    rw [List.append_assoc, List.singleton_append, h1, wkT, if_neg (by simpa using hf), List.length_append, List.length_singleton]
    generalize wkT T (kidsT (T.getD s.toNat ty0) x ++ st) rest (V.length + 1) = q
    unfold apT
    by_cases hz : q.2.1 = 0
    · simp only [hz, ne_eq, not_true_eq_false, if_false]
      simp
    · simp only [hz, ne_eq, not_false_eq_true, if_true]
  · have h1 := h.ck (x :: rest)
    rw [List.append_assoc, List.singleton_append, h1, chkV, if_neg (by simp [hr]; omega)]
    congr 1
    · rw [List.length_append, List.length_cons]
      push_cast
      omega
    · rw [List.length_append, List.length_singleton]
      push_cast
      rfl
  · rcases Nat.lt_or_ge i nums.length with hlt | hge
    · rw [List.getElem?_append_left hlt] at hi
      rw [List.getElem?_append_left (by rw [← h.len]; exact hlt)]
      exact h.pk i s' hi
    · rw [List.getElem?_append_right hge] at hi
      have hi0 : i - nums.length = 0 := by
        have := (List.getElem?_eq_some_iff.1 hi).1
        simp at this
        omega
      rw [hi0] at hi
      simp at hi
      subst hi
      obtain rfl : i = V.length := by have := h.len; omega
      rw [List.getElem?_append_right (Nat.le_refl _), Nat.sub_self, hx]
      rfl
  · rcases h.hd with h1 | ⟨h1, h2⟩
    · left
      rw [List.head?_append, h1]
      rfl
    · injection h2 with h2 _
      left
      rw [h1, h2]
      rfl
theorem mk_all {T : List Ty} {R : List Rt} {t : Int} {p : List Int} (hS : OkS T R) : ∀ (f : Nat) (st : List Int) (V W : List Nv) (nums : List Int), MkI T t p st V → PkI T t p st V nums → mkT T p f st V = some W →
    ∃ nums2, PkI T t p [] W nums2 ∧ (∃ r, nums2 = nums ++ r) ∧ (∃ r, W = V ++ r) ∧ ∀ q, (∀ (i : Nat) (s : Int) (x : Nv), V.length ≤ i → nums2[i]? = some s → W[i]? = some x → pickP (T.getD s.toNat ty0) (pickA q i) = x) → mkT T q f st V = some W
  | 0, _, _, _, _, _, _, h => by simp [mkT] at h
  | f + 1, [], V, W, nums, hM, hP, h => by
    simp [mkT] at h
    subst h
    exact ⟨nums, hP, ⟨[], by simp⟩, ⟨[], by simp⟩, fun q _ => by simp [mkT]⟩
  | f + 1, s :: st, V, W, nums, hM, hP, h => by
    obtain ⟨hs0, hs1, hf, hr, -, hgo⟩ := hM.next hS
    rw [mkT] at h
    by_cases hg : (V.length : Int) + (st.length + 1) + (pickP (T.getD s.toNat ty0) (pickA p V.length)).kids > 1048576
    · rw [if_pos hg] at h
      cases h
    · rw [if_neg hg] at h
      obtain ⟨nums2, h1, ⟨r1, hr1⟩, ⟨r2, hr2⟩, h4⟩ := mk_all hS f _ _ W _ (hgo hg) (hP.step hS hs0 hs1 hf hr) h
      refine ⟨nums2, h1, ⟨s :: r1, by rw [hr1]; simp⟩, ⟨pickP (T.getD s.toNat ty0) (pickA p V.length) :: r2, by rw [hr2]; simp⟩, fun q hq => ?_⟩
      have hx : pickP (T.getD s.toNat ty0) (pickA q V.length) = pickP (T.getD s.toNat ty0) (pickA p V.length) := hq V.length s _ (Nat.le_refl _) (by rw [hr1, List.append_assoc, List.getElem?_append_right (by rw [hP.len]; exact Nat.le_refl _), hP.len]; simp) (by rw [hr2, List.append_assoc, List.getElem?_append_right (Nat.le_refl _)]; simp)
      rw [mkT, hx, if_neg hg]
      exact h4 q (fun i s' x hi => hq i s' x (by simp at hi; omega))
/-- The pick that stands in a node. -/
def pickOf (t : Ty) (x : Nv) : Int :=
  if t.k = 1 ∨ t.k = 2 ∨ t.k = 3 then IntKind.i64.wrap x.n else
  if t.k = 5 ∨ t.k = 6 then x.kids else
  if t.k = 7 then (((armI t.ps x.n).getD 0 : Nat) : Int) else 0
theorem pickOf_back {t : Ty} {i q : Int} (hok : tyOk t i = true) (hq : 0 ≤ q ∧ q < 18446744073709551616) : pickP t (pickOf t (pickP t q) % 18446744073709551616) = pickP t q := by
  obtain ⟨hm, hr, hv⟩ := pick_fits hok hq
  have hk := tyOk_kind hok
  have hn := nOk_of hok
  have hkd := rightV_kids hr
  obtain ⟨x, hx⟩ : ∃ x, pickP t q = x := ⟨_, rfl⟩
  have hw : IntKind.i64.wrap x.n % 18446744073709551616 = x.n := by
    have h1 := hv.1; have h2 := hv.2
    rw [hx] at h1 h2
    rw [IntKind.wrap_i64]
    omega
  rw [hx] at hkd ⊢
  rcases hk with h | h | h | h | h | h | h | h
  · have e : pickOf t x = IntKind.i64.wrap x.n := by simp [pickOf, h]
    rw [e, hw, ← hx]
    simp only [pickP, h]
    simp
  · have e : pickOf t x = IntKind.i64.wrap x.n := by simp [pickOf, h]
    rw [e, hw, ← hx]
    simp only [pickP, h]
    simp
  · have e : pickOf t x = IntKind.i64.wrap x.n := by simp [pickOf, h]
    rw [e, hw, ← hx]
    simp only [pickP, h]
    simp
  · rw [← hx]
    simp [pickP, h]
  · have e : pickOf t x = x.kids := by simp [pickOf, h]
    have e2 : x.kids = q % (t.n + 1) := by rw [← hx]; simp [pickP, h]
    have h0 : 0 ≤ q % (t.n + 1) := Int.emod_nonneg _ (by omega)
    have h1 : q % (t.n + 1) < t.n + 1 := Int.emod_lt_of_pos _ (by omega)
    rw [e, ← hx]
    simp only [pickP, h]
    simp
    rw [Int.emod_eq_of_lt (b := 18446744073709551616) h0 (by omega), Int.emod_eq_of_lt h0 h1]
  · have e : pickOf t x = x.kids := by simp [pickOf, h]
    have e2 : x.kids = q % 2 := by rw [← hx]; simp [pickP, h]
    rw [e, ← hx]
    simp only [pickP, h]
    simp
  · have e1 : x = ⟨6, (t.ps.getD (q % t.ps.length).toNat pt0).tag, 1⟩ := by rw [← hx]; simp [pickP, h]
    have hpos := tyOk_some' hok (.inl h)
    have hlt : (q % t.ps.length).toNat < t.ps.length := by
      have h0 : 0 ≤ q % (t.ps.length : Int) := Int.emod_nonneg _ (by omega)
      have h1 : q % (t.ps.length : Int) < t.ps.length := Int.emod_lt_of_pos _ (by omega)
      omega
    rw [hx] at hm
    obtain ⟨m, p, ha, hp, htag⟩ := misP_arm hm h
    have hml := (List.getElem?_eq_some_iff.1 hp).1
    have hpl := tyOk_len hok
    have e : pickOf t x = (m : Int) := by simp [pickOf, h, ha]
    have e3 : (m : Int) % 18446744073709551616 = m := Int.emod_eq_of_lt (by omega) (by omega)
    have e4 : (m : Int) % (t.ps.length : Int) = m := Int.emod_eq_of_lt (by omega) (by omega)
    rw [e, e3]
    have e5 : pickP t (m : Int) = ⟨6, p.tag, 1⟩ := by
      simp only [pickP, h]
      simp [e4, List.getD, hp]
    rw [e5, htag, e1]
  · rw [← hx]
    simp [pickP, h]
/-- What Some makes. -/
theorem some_back {T : List Ty} {R : List Rt} {t : Int} {p : List Int} {V : List Nv} (hS : OkS T R) (h0 : 0 ≤ t) (h1 : t < T.length) (hm : mkT T p 1048578 [t] [] = some V) :
    ∃ nums, wkT T [t] V 0 = (nums, 0, 0) ∧ chkV 1 0 V = (0, 0) ∧ nums.length = V.length ∧ (V ≠ [] → nums.head? = some t) ∧ (∀ s ∈ nums, 0 ≤ s ∧ s < T.length) ∧
      ∀ q : List Int, q.length = V.length → (∀ (i : Nat) (s : Int) (x : Nv), nums[i]? = some s → V[i]? = some x → q[i]? = some (pickOf (T.getD s.toNat ty0) x)) → mkT T q 1048578 [t] [] = some V := by
  obtain ⟨nums, hP, -, -, h4⟩ := mk_all hS 1048578 [t] [] V [] (MkI.start h0 h1) PkI.start hm
  have hw := hP.wk []
  have hc := hP.ck []
  rw [List.append_nil] at hw hc
  have e : wkT T [] [] V.length = ([], 0, 0) := by unfold wkT; rfl
  rw [e] at hw
  have hw' : wkT T [t] V 0 = (nums, 0, 0) := by rw [hw]; unfold apT; simp
  have hc' : chkV 1 0 V = (0, 0) := by rw [hc]; simp [chkV]
  have hin : ∀ s ∈ nums, 0 ≤ s ∧ s < T.length := by
    have key : ∀ (k : Nat), k ≤ V.length → ∃ st ns, WkI T t V k st ns ∧ ∀ s ∈ ns, 0 ≤ s ∧ s < T.length := fun k => by
      induction k with
      | zero => exact fun _ => ⟨[t], [], WkI.start h0 h1 (by rw [hc']), fun s hs => by cases hs⟩
      | succ k ih =>
        intro hk
        obtain ⟨st, ns, hwk, hns⟩ := ih (by omega)
        obtain ⟨s, r, rfl, a0, a1, -, hbad, hgood⟩ := hwk.next hS (List.getElem?_eq_getElem (by omega : k < V.length))
        by_cases hm0 : misP (T.getD s.toNat ty0) (V[k]'(by omega)) = 0
        · refine ⟨_, _, hgood hm0, fun s' hs' => ?_⟩
          rcases List.mem_append.1 hs' with hs' | hs'
          · exact hns s' hs'
          · simp at hs'; subst hs'; exact ⟨a0, a1⟩
        · have := hbad hm0
          rw [hw'] at this
          simp at this
          exact absurd this.2.1.symm hm0
    obtain ⟨st, ns, hwk, hns⟩ := key V.length (Nat.le_refl _)
    have hd := (hwk.done).2
    rw [hw'] at hd
    have : nums = ns := (Prod.mk.inj hd).1
    rw [this]
    exact hns
  refine ⟨nums, hw', hc', hP.len, fun hne => ?_, hin, fun q hql hq => h4 q (fun i s x _ hs hx => ?_)⟩
  · rcases hP.hd with h | ⟨h, -⟩
    · exact h
    · have := hP.len
      rw [h] at this
      exact absurd (List.eq_nil_of_length_eq_zero this.symm) hne
  · have hi := hq i s x hs hx
    have hpk := hP.pk i s hs
    rw [hx] at hpk
    injection hpk with hpk
    have hsT := hin s (List.mem_of_getElem? hs)
    have hok := hS.ty s.toNat (by omega)
    rw [show ((s.toNat : Nat) : Int) = s by omega] at hok
    have hlt := (List.getElem?_eq_some_iff.1 hi).1
    have e2 : pickA q i = pickOf (T.getD s.toNat ty0) x % 18446744073709551616 := by
      unfold pickA
      rw [if_pos hlt]
      simp [List.getD, hi]
    rw [e2, hpk]
    exact pickOf_back hok (pickA_in p i)
end Go.Proofs.YtomfidjmbjpceaaDoor
/- The document's Types of layer 11; Picks. -/
namespace Go.Proofs.YtomfidjmbjpceaaDoor
open Go.RowKit
set_option linter.unusedVariables false

set_option maxRecDepth 100000 in
set_option maxHeartbeats 4000000 in
theorem types11_any (aT : Option Addr) (cT : Nat) (T : List Ty) (aR : Option Addr) (cR : Nat) (R : List Rt) (t : Int) (aV : Option Addr) (cV : Nat) (V : List Nv) (w : World) (hn : T.length ≤ 1000000000) (hm : R.length ≤ 10000000000000) (hV : V.length ≤ 2000000) (hL : Hid (LensT T)) (hT : Hid (TRow w aT T)) (hRr : Hid (RRow w aR R)) (hVr : Hid (VRow w aV V)) (hNv : Hid (∀ x ∈ V, NvOk x)) :
    Calls Tryd.prog 18 #[.agg #[.slice aT T.length cT, .slice aR R.length cR], .int .i64 t, .slice aV V.length cV] w fun e w' => TyTo (tyV T R t V) w e w' := by
  have hB := below2 w (.cells #[.slice aT T.length cT, .slice aR R.length cR] 25) (.cells #[.int .i64 0, .int .i64 0] 42)
  obtain ⟨k1, k2⟩ := blk2 w #[.slice aT T.length cT, .slice aR R.length cR] #[.int .i64 0, .int .i64 0] 25 42
  obtain ⟨w0, hw0⟩ : ∃ wx, wx = (w.alloc (.cells #[.slice aT T.length cT, .slice aR R.length cR] 25)).alloc (.cells #[.int .i64 0, .int .i64 0] 42) := ⟨_, rfl⟩
  rw [← hw0] at hB k1 k2
  have HB0 := hide_ hB
  have K2 := hide_ k2
  have hz0 : w.heap.size + 1 < w0.heap.size := k2.lt
  have i0 := k1.cell 0; have i1 := k1.cell 1
  simp at i0 i1
  have HTy := hide_ (typesR_any aT cT T aR cR R t aV cV V w0 hn hm hV hL (hide_ (hT.out.later hB)) (hide_ (hRr.out.later hB)) (hide_ (hVr.out.later hB)) hNv)
  generalize tyV T R t V = A at *
  obtain ⟨nums, E, P⟩ := A
  clear hB k1 k2
  go_enter Tryd.func18, Tryd.ntmps18
  go_upto_region 1 with fail
  rw [← hw0]
  clear hw0
  go_wp2_with fail
  refine HTy.out.mono ?_
  rintro e w1 ⟨v, rfl, HO, HB1⟩
  simp only at HO
  have k3 := K2.out.later HB1.out
  have n0 := k3.cell 0; have n1 := k3.cell 1
  have nf := fun i => k3.frozen i
  simp at n0 n1
  have HKz := hide_ (wr2 k3 (.int .i64 E) (.int .i64 P))
  have HBz := hide_ (below_wr2 (below_to HB0.out HB1.out) (w.heap.size + 1) (by omega) (.int .i64 E) (.int .i64 P))
  have HOz := hide_ (HO.out.upd (((Upd.refl (fun b => b = w.heap.size + 1) w1).set ⟨w.heap.size + 1, 0, none⟩ (.int .i64 E) (.inl rfl)).set ⟨w.heap.size + 1, 1, none⟩ (.int .i64 P) (.inl rfl)) (fun b hb e => by
    obtain ⟨zs, hz⟩ := ownS_type HO.out hb
    subst e
    exact absurd (blk_type k3 hz) (by decide)))
  clear k3
  go_wp2
  exact retTF (x := E) (y := P) rfl rfl rfl HKz.out ⟨v, rfl, hide_ (HOz.out.base (by omega)), HBz⟩
/-- The picks that stand in a value. -/
def picksL (T : List Ty) (nums : List Int) (V : List Nv) : List Int := List.zipWith (fun s x => pickOf (T.getD s.toNat ty0) x) nums V
theorem picksL_at {T : List Ty} {nums : List Int} {V : List Nv} {i : Nat} {s : Int} {x : Nv} (hs : nums[i]? = some s) (hx : V[i]? = some x) : (picksL T nums V)[i]? = some (pickOf (T.getD s.toNat ty0) x) := by
  unfold picksL
  rw [List.getElem?_zipWith, hs, hx]
theorem picksL_len {T : List Ty} {nums : List Int} {V : List Nv} (h : nums.length = V.length) : (picksL T nums V).length = V.length := by
  unfold picksL
  rw [List.length_zipWith, h]
  omega
end Go.Proofs.YtomfidjmbjpceaaDoor
