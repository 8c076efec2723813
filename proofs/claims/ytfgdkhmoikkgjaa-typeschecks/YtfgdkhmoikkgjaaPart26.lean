import Derived.Test.YtfgdkhmoikkgjaaPart25

/- The document's Check of a schema (mortiseref09): parts of a union. -/
namespace Go.Proofs.Ytfgdkhmoikkgjaa
open Go.RowKit
set_option linter.unusedVariables false

set_option maxRecDepth 100000 in
set_option maxHeartbeats 8000000 in
theorem partsR7_any (n el : Int) (ps : List Ptz) (va : Option Addr) (vc : Nat) (i : Nat) (w : World) (hil : i ≤ 9223372036854775806) (hr : Hid (PRow w va ps)) :
    Calls Try.prog 31 #[.agg #[.int .i64 7, .int .i64 n, .int .i64 el, .slice va ps.length vc], .int .i64 (i : Int)] w fun e w' => e = .returned (.bool (allP armOk ps i)) ∧ Below w.heap.size w w' := by
  have hB := below1 w (.cells #[.int .i64 7, .int .i64 n, .int .i64 el, .slice va ps.length vc] 49)
  have kx := Blk.newA w #[.int .i64 7, .int .i64 n, .int .i64 el, .slice va ps.length vc] 49
  obtain ⟨w0, hw0⟩ : ∃ wx, wx = w.alloc (.cells #[.int .i64 7, .int .i64 n, .int .i64 el, .slice va ps.length vc] 49) := ⟨_, rfl⟩
  rw [← hw0] at hB kx
  have HB0 := hide_ hB
  have KX := hide_ kx
  have HR0 := hide_ (hr.out.later hB)
  have hwi : wrap64 ((i : Int) - 1) = (i : Int) - 1 := w64 _ (by omega)
  have i0 := kx.cell 0; have i3 := kx.cell 3
  simp at i0 i3
  clear hB kx hr
  have HIl : Hid (∀ w, Calls Try.prog 19 #[.int .i64 (ps.length : Int), .int .i64 1, .int .i64 64] w fun e w' => e = .returned (.bool (decide (0 < ps.length ∧ ps.length ≤ 64))) ∧ w = w') := hide_ (fun w => by
    have h := inR_any (ps.length : Int) 1 64 w
    rw [show inR (ps.length : Int) 1 64 = decide (0 < ps.length ∧ ps.length ≤ 64) by unfold inR; rw [← Bool.decide_and]; exact decide_eq_decide.2 (by omega)] at h
    exact h)
  go_enter Try.func31, Try.ntmps31
  go_upto_region 1 with fail
  rw [← hw0]
  clear hw0
  by_cases hl : 0 < ps.length ∧ ps.length ≤ 64
  · rw [decide_eq_true hl] at HIl
    go_wp2_with (go_at_call 19; refine (HIl.out _).mono ?_; rintro e w' ⟨rfl, rfl⟩)
    go_loopw [6] (fun x6 wr => ∃ m : Nat, m ≤ ps.length ∧ x6 = .int .i64 (m : Int) ∧ Hid (∀ j, j < m → okP armOk ps i j = true) ∧ Hid (Below w0.heap.size w0 wr)) (fun x6 _ => ps.length - (intOf x6).toNat)
    case atStart => exact ⟨0, Nat.zero_le _, rfl, hide_ (fun j hj => by omega), hide_ (Below.refl _ _)⟩
    case round =>
      obtain ⟨m, hm, rfl, HA, HB⟩ := hrel
      generalize wr = wq at *
      clear i0 i3
      have KXq := hide_ (KX.out.later HB.out)
      have i0 := KXq.out.cell 0; have i3 := KXq.out.cell 3
      simp at i0 i3
      by_cases hlt : m < ps.length
      · have hlt' : (m : Int) < ps.length := by omega
        have HRq := hide_ (HR0.out.later HB.out)
        obtain ⟨b, off, rfl, hb, hc⟩ := HRq.out.open (by omega)
        have hx : ps[m]? = some (ps[m]'hlt) := List.getElem?_eq_getElem hlt
        have hcx := hc m _ hx
        have HX := hide_ hx
        generalize ps[m]'hlt = p at *
        have j0 := hcx 0 (by decide); have j1 := hcx 1 (by decide); have j2 := hcx 2 (by decide)
        simp [ptc] at j0 j1 j2
        have HOK := hide_ (okP_at (r := armOk) (m := (i : Int)) HX.out)
        have kp := Blk.newA wq #[.string p.label, .int .i64 p.tag, .int .i64 p.ty] 53
        have hBx := below1 wq (.cells #[.string p.label, .int .i64 p.tag, .int .i64 p.ty] 53)
        obtain ⟨wx, hwx⟩ : ∃ wx, wx = wq.alloc (.cells #[.string p.label, .int .i64 p.tag, .int .i64 p.ty] 53) := ⟨_, rfl⟩
        rw [← hwx] at kp hBx
        have HBx := hide_ (below_to HB.out hBx)
        have HBf := hide_ (below_to HB0.out HBx.out)
        have KP := hide_ kp
        have KXx := hide_ (KXq.out.later hBx)
        have HRx := hide_ (HRq.out.later hBx)
        clear kp hBx hc hx hcx hb HRq
        go_upto_region 10 with fail
        rw [← hwx]
        clear hwx i0 i3 j0 j1 j2
        have i0 := KXx.out.cell 0; have i3 := KXx.out.cell 3
        have j0 := KP.out.cell 0; have j1 := KP.out.cell 1; have j2 := KP.out.cell 2
        simp at i0 i3 j0 j1 j2
        obtain ⟨b3, hb3⟩ : ∃ x, inB p.ty i = x := ⟨_, rfl⟩
        obtain ⟨b1, hb1⟩ : ∃ x, armOk p = x := ⟨_, rfl⟩
        rw [hb3, hb1] at HOK
        have HI3 : Hid (∀ w, Calls Try.prog 19 #[.int .i64 p.ty, .int .i64 0, .int .i64 ((i : Int) - 1)] w fun e w' => e = .returned (.bool b3) ∧ w = w') := hide_ (fun w => by
          have h := inR_any p.ty 0 ((i : Int) - 1) w
          rwa [inR_at, hb3] at h)
        have HB1 := hide_ hb1
        clear hb1 hb3
        cases b3 with
        | false =>
          have HV : Hid (allP armOk ps i = false) := hide_ (allP_not hlt (by rw [HOK.out]; simp))
          go_wp2_with (go_at_call 19; refine (HI3.out _).mono ?_; rintro e w' ⟨rfl, rfl⟩)
          go_ret
          exact ⟨by rw [HV.out]; rfl, HBf.out⟩
        | true =>
        go_upto_region 12 with (go_at_call 19; refine (HI3.out _).mono ?_; rintro e w' ⟨rfl, rfl⟩)
        clear HI3
        obtain ⟨tg, htg⟩ : ∃ x, inR p.tag 0 255 = x := ⟨_, rfl⟩
        have HI5 : Hid (∀ w, Calls Try.prog 19 #[.int .i64 p.tag, .int .i64 0, .int .i64 255] w fun e w' => e = .returned (.bool tg) ∧ w = w') := hide_ (fun w => by have h := inR_any p.tag 0 255 w; rwa [htg] at h)
        have HTG : Hid ((decide (0 ≤ p.tag) && decide (p.tag ≤ 255)) = tg) := hide_ htg
        clear htg
        by_cases hlb : p.label = ⟨#[]⟩
        · have hlb0 : (p.label.toList == []) = true := by rw [hlb]; simp
          have hlb1 : p.label.toList.isEmpty = true := by rw [hlb]; simp
          cases tg with
          | false =>
            have HV : Hid (allP armOk ps i = false) := hide_ (allP_not hlt (by rw [HOK.out, ← HB1.out, armOk_eq, HTG.out]; simp))
            go_wp2_with (go_at_call 19; refine (HI5.out _).mono ?_; rintro e w' ⟨rfl, rfl⟩)
            go_ret
            exact ⟨by rw [HV.out]; rfl, HBf.out⟩
          | true =>
          obtain rfl : true = b1 := by rw [← HB1.out, armOk_eq, HTG.out]; simp [hlb]
          go_wp2_with (go_at_call 19; refine (HI5.out _).mono ?_; rintro e w' ⟨rfl, rfl⟩)
          clear i0 j2 hlb hlb0 hlb1
          go_loopw [8] (fun x8 wr => ∃ j : Nat, j ≤ m ∧ x8 = .int .i64 (j : Int) ∧ Hid (∀ (q : Nat) (z : Ptz), q < j → ps[q]? = some z → likeP z p = false) ∧ Hid (Below wx.heap.size wx wr)) (fun x8 _ => m - (intOf x8).toNat)
          case atStart => exact ⟨0, Nat.zero_le _, rfl, hide_ (fun q z hq => by omega), hide_ (Below.refl _ _)⟩
          case round =>
            obtain ⟨j, hj, rfl, HJ, HBj⟩ := hrel
            generalize wr = wp at *
            clear i3 j0 j1
            have i3 := (KXx.out.later HBj.out).cell 3
            have kq := KP.out.later HBj.out
            have j0 := kq.cell 0; have j1 := kq.cell 1
            simp at i3 j0 j1
            clear kq
            by_cases hjm : j < m
            · have hjm' : (j : Int) < m := by omega
              have hjl : j < ps.length := by omega
              have hjl' : (j : Int) < ps.length := by omega
              obtain ⟨b', off', hax, -, hc⟩ := (HRx.out.later HBj.out).open (by omega)
              injection hax with hax
              injection hax with e1 e2 _
              subst e1 e2
              have hx : ps[j]? = some (ps[j]'hjl) := List.getElem?_eq_getElem hjl
              have hcx := hc j _ hx
              have HXj := hide_ hx
              generalize ps[j]'hjl = z at *
              have z0 := hcx 0 (by decide); have z1 := hcx 1 (by decide)
              simp [ptc] at z0 z1
              clear hc hx hcx
              have HJn : Hid (likeP z p = false → ∀ (q : Nat) (y : Ptz), q < j + 1 → ps[q]? = some y → likeP y p = false) := hide_ (fun hl q y hq hy => by
                rcases Nat.lt_or_ge q j with h | h
                · exact HJ.out q y h hy
                · obtain rfl : q = j := by omega
                  rw [HXj.out] at hy
                  injection hy with hy
                  subst hy
                  exact hl)
              by_cases he : z.label = p.label
              · have hs : (z.label.toList == p.label.toList) = true := by rw [he]; simp
                by_cases ht : z.tag = p.tag
                · have hb : (z.tag == p.tag) = true := by simp [ht]
                  have HV : Hid (allP armOk ps i = false) := hide_ (allP_not hlt (by rw [HOK.out, thereP_take HXj.out hjm (by simp [likeP, he, ht])]; simp))
                  clear he ht
                  go_wp2_with fail
                  go_quiet (fail)
                  have HBq := hide_ (below_to HBf.out (below_drewNz HBj.out nq))
                  go_wp2
                  go_ret
                  exact ⟨by rw [HV.out]; rfl, HBq.out⟩
                · have hb : (z.tag == p.tag) = false := by simpa using ht
                  have HJ2 := hide_ (HJn.out (by simp [likeP, ht]))
                  clear he ht
                  go_wp2_with fail
                  go_quiet (fail)
                  have HBq := hide_ (below_drewNz HBj.out nq)
                  go_wp2_with fail
                  go_roundw
                  case rel => exact ⟨j + 1, by omega, by go_num, HJ2, HBq⟩
                  case measure => simp [intOf]; omega
              · have hs : (z.label.toList == p.label.toList) = false := by rw [str_eqz]; exact decide_eq_false he
                have HJ2 := hide_ (HJn.out (by simp [likeP, he]))
                clear he
                go_wp2_with fail
                go_quiet (fail)
                have HBq := hide_ (below_drewNz HBj.out nq)
                go_wp2_with fail
                go_roundw
                case rel => exact ⟨j + 1, by omega, by go_num, HJ2, HBq⟩
                case measure => simp [intOf]; omega
            · obtain rfl : j = m := by omega
              have HA2 : Hid (∀ q, q < j + 1 → okP armOk ps i q = true) := hide_ (fun q hq => by
                rcases Nat.lt_or_ge q j with h | h
                · exact HA.out q h
                · obtain rfl : q = j := by omega
                  rw [HOK.out, thereP_none HJ.out]; rfl)
              have HBn := hide_ (below_to HBx.out HBj.out)
              go_wp2_with fail
              go_roundw
              case rel => exact ⟨j + 1, by omega, by go_num, HA2, HBn⟩
              case measure => simp [intOf]; omega
        · have hlb0 := str_ne p.label [] hlb
          have hlb1 : p.label.toList.isEmpty = false := by
            cases h : p.label.toList with
            | nil => rw [h] at hlb0; simp at hlb0
            | cons a l => rfl
          have HV : Hid (allP armOk ps i = false) := hide_ (allP_not hlt (by rw [HOK.out, ← HB1.out, armOk_eq]; simp [hlb]))
          go_wp2
          go_ret
          exact ⟨by rw [HV.out]; rfl, HBf.out⟩
      · obtain rfl : m = ps.length := by omega
        have HV : Hid (allP armOk ps i = true) := hide_ (allP_of hl.1 hl.2 HA.out)
        go_wp2
        go_ret
        exact ⟨by rw [HV.out]; rfl, below_to HB0.out HB.out⟩
  · have HV : Hid (allP armOk ps i = false) := hide_ (allP_len hl)
    rw [decide_eq_false hl] at HIl
    go_wp2_with (go_at_call 19; refine (HIl.out _).mono ?_; rintro e w' ⟨rfl, rfl⟩)
    go_ret
    exact ⟨by rw [HV.out]; rfl, HB0.out⟩
end Go.Proofs.Ytfgdkhmoikkgjaa

/- The document's Check of a schema: right. -/
namespace Go.Proofs.Ytfgdkhmoikkgjaa
open Go.RowKit
set_option linter.unusedVariables false

set_option maxRecDepth 100000 in
set_option maxHeartbeats 8000000 in
theorem right7_any (n el : Int) (ps : List Ptz) (va : Option Addr) (vc : Nat) (i : Nat) (w : World) (hil : i ≤ 9223372036854775806) (hr : Hid (PRow w va ps)) :
    Calls Try.prog 16 #[.agg #[.int .i64 7, .int .i64 n, .int .i64 el, .slice va ps.length vc], .int .i64 (i : Int)] w fun e w' => e = .returned (.bool (tyOk ⟨7, n, el, ps⟩ i)) ∧ Below w.heap.size w w' := by
  have hB := below1 w (.cells #[.int .i64 7, .int .i64 n, .int .i64 el, .slice va ps.length vc] 49)
  have kx := Blk.newA w #[.int .i64 7, .int .i64 n, .int .i64 el, .slice va ps.length vc] 49
  obtain ⟨w0, hw0⟩ : ∃ wx, wx = w.alloc (.cells #[.int .i64 7, .int .i64 n, .int .i64 el, .slice va ps.length vc] 49) := ⟨_, rfl⟩
  rw [← hw0] at hB kx
  have HB := hide_ hB
  have HR := hide_ (hr.out.later hB)
  have i0 := kx.cell 0; have i1 := kx.cell 1; have i2 := kx.cell 2; have i3 := kx.cell 3
  simp at i0 i1 i2 i3
  have hwi : wrap64 ((i : Int) - 1) = (i : Int) - 1 := w64 _ (by omega)
  have HL : Hid (((ps.length : Int) == 0) = decide (ps.length = 0)) := hide_ (by
    by_cases h : ps.length = 0
    · simp [h]
    · have h2 : ((ps.length : Int) == 0) = false := by
        have h : ¬ (ps.length : Int) = 0 := by omega
        simpa using h
      rw [h2, decide_eq_false h])
  clear hB kx hr
  go_enter Try.func16, Try.ntmps16
  go_upto_region 1 with fail
  rw [← hw0]
  clear hw0
  have HT : Hid (tyOk ⟨7, n, el, ps⟩ i = (decide (n = 0) && decide (el = 0) && allP armOk ps i)) := hide_ (by simp [tyOk, nOk, elemOk, hasE, partsOk])
  by_cases hn : n = 0
  · subst hn
    by_cases he : el = 0
    · subst he
      have HC := hide_ (partsR7_any 0 0 ps va vc i w0 hil HR)
      go_wp2_with fail
      refine HC.out.mono ?_; rintro e w' ⟨rfl, hB1⟩
      have HB1 := hide_ hB1
      clear hB1
      go_wp2
      go_ret
      exact ⟨by rw [HT.out]; simp, below_to HB.out HB1.out⟩
    · have he' : (el == 0) = false := by simpa using he
      rw [decide_eq_false he] at HT
      go_wp2
      go_ret
      exact ⟨by rw [HT.out]; simp, HB.out⟩
  · have hn' : (n == 0) = false := by simpa using hn
    rw [decide_eq_false hn] at HT
    go_wp2
    go_ret
    exact ⟨by rw [HT.out]; simp, HB.out⟩
set_option maxRecDepth 100000 in
set_option maxHeartbeats 8000000 in
theorem right8_any (n el : Int) (ps : List Ptz) (va : Option Addr) (vc : Nat) (i : Nat) (w : World) (hil : i ≤ 9223372036854775806) (hr : Hid (PRow w va ps)) :
    Calls Try.prog 16 #[.agg #[.int .i64 8, .int .i64 n, .int .i64 el, .slice va ps.length vc], .int .i64 (i : Int)] w fun e w' => e = .returned (.bool (tyOk ⟨8, n, el, ps⟩ i)) ∧ Below w.heap.size w w' := by
  have hB := below1 w (.cells #[.int .i64 8, .int .i64 n, .int .i64 el, .slice va ps.length vc] 49)
  have kx := Blk.newA w #[.int .i64 8, .int .i64 n, .int .i64 el, .slice va ps.length vc] 49
  obtain ⟨w0, hw0⟩ : ∃ wx, wx = w.alloc (.cells #[.int .i64 8, .int .i64 n, .int .i64 el, .slice va ps.length vc] 49) := ⟨_, rfl⟩
  rw [← hw0] at hB kx
  have HB := hide_ hB
  have HR := hide_ (hr.out.later hB)
  have i0 := kx.cell 0; have i1 := kx.cell 1; have i2 := kx.cell 2; have i3 := kx.cell 3
  simp at i0 i1 i2 i3
  have hwi : wrap64 ((i : Int) - 1) = (i : Int) - 1 := w64 _ (by omega)
  have HL : Hid (((ps.length : Int) == 0) = decide (ps.length = 0)) := hide_ (by
    by_cases h : ps.length = 0
    · simp [h]
    · have h2 : ((ps.length : Int) == 0) = false := by
        have h : ¬ (ps.length : Int) = 0 := by omega
        simpa using h
      rw [h2, decide_eq_false h])
  clear hB kx hr
  go_enter Try.func16, Try.ntmps16
  go_upto_region 1 with fail
  rw [← hw0]
  clear hw0
  have HT : Hid (tyOk ⟨8, n, el, ps⟩ i = (decide (n = 0) && decide (el = 0) && allP fieldOk ps i)) := hide_ (by simp [tyOk, nOk, elemOk, hasE, partsOk])
  by_cases hn : n = 0
  · subst hn
    by_cases he : el = 0
    · subst he
      have HC := hide_ (partsR8_any 0 0 ps va vc i w0 hil HR)
      go_wp2_with fail
      refine HC.out.mono ?_; rintro e w' ⟨rfl, hB1⟩
      have HB1 := hide_ hB1
      clear hB1
      go_wp2
      go_ret
      exact ⟨by rw [HT.out]; simp, below_to HB.out HB1.out⟩
    · have he' : (el == 0) = false := by simpa using he
      rw [decide_eq_false he] at HT
      go_wp2
      go_ret
      exact ⟨by rw [HT.out]; simp, HB.out⟩
  · have hn' : (n == 0) = false := by simpa using hn
    rw [decide_eq_false hn] at HT
    go_wp2
    go_ret
    exact ⟨by rw [HT.out]; simp, HB.out⟩
set_option maxRecDepth 100000 in
set_option maxHeartbeats 8000000 in
theorem rightO_any (t : Ty) (hk : ¬ (t.k = 1 ∨ t.k = 2 ∨ t.k = 3 ∨ t.k = 4 ∨ t.k = 5 ∨ t.k = 6 ∨ t.k = 7 ∨ t.k = 8)) (va : Option Addr) (vc : Nat) (i : Nat) (w : World) (hil : i ≤ 9223372036854775806) (hr : Hid (PRow w va t.ps)) :
    Calls Try.prog 16 #[.agg #[.int .i64 t.k, .int .i64 t.n, .int .i64 t.e, .slice va t.ps.length vc], .int .i64 (i : Int)] w fun e w' => e = .returned (.bool (tyOk t i)) ∧ Below w.heap.size w w' := by
  obtain ⟨k, n, el, ps⟩ := t
  simp only at hr hk ⊢
  have hB := below1 w (.cells #[.int .i64 k, .int .i64 n, .int .i64 el, .slice va ps.length vc] 49)
  have kx := Blk.newA w #[.int .i64 k, .int .i64 n, .int .i64 el, .slice va ps.length vc] 49
  obtain ⟨w0, hw0⟩ : ∃ wx, wx = w.alloc (.cells #[.int .i64 k, .int .i64 n, .int .i64 el, .slice va ps.length vc] 49) := ⟨_, rfl⟩
  rw [← hw0] at hB kx
  have HB := hide_ hB
  have HR := hide_ (hr.out.later hB)
  have i0 := kx.cell 0; have i1 := kx.cell 1; have i2 := kx.cell 2; have i3 := kx.cell 3
  simp at i0 i1 i2 i3
  have hwi : wrap64 ((i : Int) - 1) = (i : Int) - 1 := w64 _ (by omega)
  have HL : Hid (((ps.length : Int) == 0) = decide (ps.length = 0)) := hide_ (by
    by_cases h : ps.length = 0
    · simp [h]
    · have h2 : ((ps.length : Int) == 0) = false := by
        have h : ¬ (ps.length : Int) = 0 := by omega
        simpa using h
      rw [h2, decide_eq_false h])
  clear hB kx hr
  go_enter Try.func16, Try.ntmps16
  go_upto_region 1 with fail
  rw [← hw0]
  clear hw0
  have c1 : (k == 1) = false := by simp; omega
  have c2 : (k == 2) = false := by simp; omega
  have c3 : (k == 3) = false := by simp; omega
  have c4 : (k == 4) = false := by simp; omega
  have c5 : (k == 5) = false := by simp; omega
  have c6 : (k == 6) = false := by simp; omega
  have c7 : (k == 7) = false := by simp; omega
  have c8 : (k == 8) = false := by simp; omega
  have hno : nOk k n = false := by
    unfold nOk
    exact decide_eq_false (by omega)
  have HV : Hid (tyOk ⟨k, n, el, ps⟩ i = false) := hide_ (by
    show (nOk k n && _ && _) = false
    rw [hno]
    rfl)
  clear hno
  clear hk
  go_wp2
  go_ret
  exact ⟨by rw [HV.out]; rfl, HB.out⟩
end Go.Proofs.Ytfgdkhmoikkgjaa

/- The document's Check of a schema: right. -/
namespace Go.Proofs.Ytfgdkhmoikkgjaa
open Go.RowKit
set_option linter.unusedVariables false

theorem right_any (t : Ty) (va : Option Addr) (vc : Nat) (i : Nat) (w : World) (hil : i ≤ 9223372036854775806) (hr : Hid (PRow w va t.ps)) :
    Calls Try.prog 16 #[.agg #[.int .i64 t.k, .int .i64 t.n, .int .i64 t.e, .slice va t.ps.length vc], .int .i64 (i : Int)] w fun e w' => e = .returned (.bool (tyOk t i)) ∧ Below w.heap.size w w' := by
  by_cases hk : t.k = 1 ∨ t.k = 2 ∨ t.k = 3 ∨ t.k = 4 ∨ t.k = 5 ∨ t.k = 6 ∨ t.k = 7 ∨ t.k = 8
  · obtain ⟨k, n, el, ps⟩ := t
    simp only at hk hr ⊢
    rcases hk with rfl | rfl | rfl | rfl | rfl | rfl | rfl | rfl
    · exact right1_any n el ps va vc i w hil hr
    · exact right2_any n el ps va vc i w hil hr
    · exact right3_any n el ps va vc i w hil hr
    · exact right4_any n el ps va vc i w hil hr
    · exact right5_any n el ps va vc i w hil hr
    · exact right6_any n el ps va vc i w hil hr
    · exact right7_any n el ps va vc i w hil hr
    · exact right8_any n el ps va vc i w hil hr
  · exact rightO_any t hk va vc i w hil hr
end Go.Proofs.Ytfgdkhmoikkgjaa
