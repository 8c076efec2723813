import Derived.Test.YtfgdkhmoikkgjaaPart27
import Derived.Test.YtfgdkhmoikkgjaaPart24

/- The document's Check of a schema. -/
namespace Go.Proofs.Ytfgdkhmoikkgjaa
open Go.RowKit
set_option linter.unusedVariables false

def sameN (R : List Rt) (nm : ByteArray) (j : Nat) : Bool := (R.take j).any (fun q => decide (q.name = nm))
theorem sameN_succ {R : List Rt} {nm : ByteArray} {j : Nat} {q : Rt} (h : R[j]? = some q) : sameN R nm (j + 1) = (sameN R nm j || decide (q.name = nm)) := by
  have hj := (List.getElem?_eq_some_iff.1 h).1
  unfold sameN
  rw [List.take_succ_eq_append_getElem hj, (List.getElem?_eq_some_iff.1 h).2]
  simp
theorem rootOk_doc {n : Nat} {R : List Rt} {i : Nat} {r : Rt} (h : R[i]? = some r) : rootOk n R i = (decide (i < 256) && isName r.name && inB r.ty n && !sameN R r.name i) := by
  have e : R.getD i rt0 = r := by simp [List.getD, h]
  have hi := (List.getElem?_eq_some_iff.1 h).1
  unfold rootOk
  rw [e]
  congr 1
  cases hs : sameN R r.name i with
  | true =>
    unfold sameN at hs
    rw [List.any_eq_true] at hs
    obtain ⟨q, hq, hqn⟩ := hs
    obtain ⟨j, hj⟩ := List.getElem?_of_mem hq
    rw [List.getElem?_take] at hj
    split at hj
    · rename_i hji
      rw [decide_eq_false]
      · rfl
      · intro hf
        unfold findR at hf
        have hlt : R.findIdx (fun q => decide (q.name = r.name)) ≤ j := by
          have hjl := (List.getElem?_eq_some_iff.1 hj).1
          refine Nat.le_of_not_lt (fun h' => ?_)
          have := List.not_of_lt_findIdx h'
          rw [(List.getElem?_eq_some_iff.1 hj).2, hqn] at this
          cases this
        omega
    · cases hj
  | false =>
    unfold sameN at hs
    rw [List.any_eq_false] at hs
    rw [findR_at h rfl (fun j q hj hq => ?_)]
    · simp
    · have := hs q (List.mem_of_getElem? (i := j) (by rw [List.getElem?_take, if_pos hj]; exact hq))
      simpa using this
set_option maxRecDepth 100000 in
set_option maxHeartbeats 8000000 in
theorem checkR_any (a : Option Addr) (c : Nat) (T : List Ty) (ar : Option Addr) (cr : Nat) (R : List Rt) (w : World) (hn : T.length ≤ 3000000000000) (hm : R.length ≤ 10000000000000) (hL : Hid (LensT T)) (hT : Hid (TRowz w a T)) (hR : Hid (RRow w ar R)) :
    Calls Try.prog 8 #[.agg #[.slice a T.length c, .slice ar R.length cr]] w fun e w' => e = .returned (.agg #[.int .i64 (chk T R).1, .int .i64 (chk T R).2]) ∧ Below w.heap.size w w' := by
  have hB := below2z w (.cells #[.slice a T.length c, .slice ar R.length cr] 25) (.cells #[.int .i64 0, .int .i64 0] 30)
  obtain ⟨k1, k2⟩ := blk2z w #[.slice a T.length c, .slice ar R.length cr] #[.int .i64 0, .int .i64 0] 25 30
  obtain ⟨w0, hw0⟩ : ∃ wx, wx = (w.alloc (.cells #[.slice a T.length c, .slice ar R.length cr] 25)).alloc (.cells #[.int .i64 0, .int .i64 0] 30) := ⟨_, rfl⟩
  rw [← hw0] at hB k1 k2
  have HB0 := hide_ hB
  have K1 := hide_ k1
  have K2 := hide_ k2
  have hs1 : w.heap.size < w0.heap.size := k1.lt
  have hs2 : w.heap.size + 1 < w0.heap.size := k2.lt
  obtain ⟨vE, hE⟩ : ∃ vE, (chk T R).1 = vE := ⟨_, rfl⟩
  obtain ⟨vA, hA⟩ : ∃ vA, (chk T R).2 = vA := ⟨_, rfl⟩
  rw [hE, hA]
  have HC : Hid (chk T R = (vE, vA)) := hide_ (by rw [← hE, ← hA])
  clear hB k1 k2 hE hA
  go_enter Try.func8, Try.ntmps8
  go_upto_region 1 with fail
  rw [← hw0]
  clear hw0
  go_wp2_with fail
  go_loopw [3] (fun x3 wr => ∃ i : Nat, i ≤ T.length ∧ x3 = .int .i64 (i : Int) ∧ Hid (∀ j, j < i → tyOk (T.getD j ty0) j = true) ∧ Hid (Below w0.heap.size w0 wr)) (fun x3 _ => T.length - (intOf x3).toNat)
  case atStart => exact ⟨0, Nat.zero_le _, rfl, hide_ (fun j hj => by omega), hide_ (Below.refl _ _)⟩
  case round =>
    obtain ⟨i, hi, rfl, HA, HB⟩ := hrel
    generalize wr = wq at *
    have KSq := hide_ (K1.out.later HB.out)
    have i0 := KSq.out.cell 0; have i1 := KSq.out.cell 1
    simp at i0 i1
    by_cases hlt : i < T.length
    · have hlt' : (i : Int) < T.length := by omega
      obtain ⟨b, o, rfl, hb, hc⟩ := (hT.out.later (below_to HB0.out HB.out)).open (by omega)
      have hx : T[i]? = some (T[i]'hlt) := List.getElem?_eq_getElem hlt
      obtain ⟨va, vc, hcx, hvc, -, hP⟩ := hc i _ hx
      have hgd : T.getD i ty0 = T[i]'hlt := by simp [List.getD, hlt]
      have HGD := hide_ hgd
      generalize T[i]'hlt = t at *
      have t0 := hcx 0 (by decide); have t1 := hcx 1 (by decide); have t2 := hcx 2 (by decide); have t3 := hcx 3 (by decide)
      simp [tyc] at t0 t1 t2 t3
      have HCon := hide_ (right_any t va vc i wq (by omega) (hide_ hP))
      obtain ⟨ok, hok⟩ : ∃ ok, tyOk t (i : Int) = ok := ⟨_, rfl⟩
      rw [hok] at HCon
      have HOK := hide_ hok
      clear hc hx hcx hP hok hgd hb
      go_wp2_with fail
      refine HCon.out.mono ?_; rintro e w1 ⟨rfl, hB1⟩
      have HB1 := hide_ (below_to HB.out hB1)
      clear hB1 t0 t1 t2 t3 i0 i1
      cases ok with
      | true =>
        have HA2 : Hid (∀ j, j < i + 1 → tyOk (T.getD j ty0) j = true) := hide_ (fun j hj => by
          rcases Nat.lt_or_ge j i with h | h
          · exact HA.out j h
          · obtain rfl : j = i := by omega
            rw [HGD.out]; exact HOK.out)
        go_wp2_with fail
        go_roundw
        case rel => exact ⟨i + 1, by omega, by go_num, HA2, HB1⟩
        case measure => simp [intOf]; omega
      | false =>
        have HV : Hid (vE = 92 ∧ vA = (i : Int)) := hide_ (by
          have h := chk_ty (R := R) hlt (by rw [HGD.out]; exact HOK.out) HA.out
          rw [HC.out] at h
          injection h with h1 h2
          exact ⟨h1, h2⟩)
        have KF := hide_ (K2.out.later HB1.out)
        have l0 := KF.out.cell 0; have l1 := KF.out.cell 1
        simp at l0 l1
        have f0 := fun i => KF.out.frozen i
        have HK := hide_ (wr2z KF.out (.int .i64 92) (.int .i64 (i : Int)))
        have HBf := hide_ (below_wr2 (below_to HB0.out HB1.out) (w.heap.size + 1) (by omega) (.int .i64 92) (.int .i64 (i : Int)))
        go_wp2
        refine retFz (x := 92) (y := (i : Int)) rfl rfl HK.out ⟨by rw [HV.out.1, HV.out.2], HBf.out⟩
    · obtain rfl : i = T.length := by omega
      have HCD : Hid (chkD T R = (vE, vA)) := hide_ (by rw [← chk_deep (R := R) HA.out]; exact HC.out)
      have HDp := hide_ (depths_anyz a c (.slice ar R.length cr) T wq (by omega) hL (hide_ (hT.out.later (below_to HB0.out HB.out))) HA)
      go_wp2_with fail
      refine HDp.out.mono ?_; rintro e w1 ⟨vd, rfl, HO1, hB1⟩
      have HB1 := hide_ (below_to HB.out hB1.out)
      obtain ⟨ad, cd, hvd, hrow, -⟩ := own_open HO1.out rfl
      subst hvd
      rw [depL_len]
      have HRow := hide_ hrow
      have HDL := hide_ (depL_len T)
      clear hB1 i0 i1 HDp hrow HO1
      go_wp2_with fail
      go_loop [5] (fun x5 => ∃ i : Nat, i ≤ T.length ∧ x5 = .int .i64 (i : Int) ∧ Hid (∀ j, j < i → (depL T).getD j 0 ≤ 64)) (fun x5 => T.length - (intOf x5).toNat)
      case atStart => exact ⟨0, Nat.zero_le _, rfl, hide_ (fun j hj => by omega)⟩
      case round =>
        obtain ⟨i, hi, rfl, HD⟩ := hrel
        by_cases hlt : i < T.length
        · have hlt' : (i : Int) < T.length := by omega
          obtain ⟨bd, od, rfl, -, hcd⟩ := HRow.out.open (by rw [HDL.out]; omega)
          have c1 := hcd i (by rw [HDL.out]; omega)
          obtain ⟨d, hd⟩ : ∃ d, (depL T).getD i 0 = d := ⟨_, rfl⟩
          rw [hd] at c1
          have HDi := hide_ hd
          clear hcd hd
          by_cases hgt : 64 < d
          · have HV : Hid (vE = 83 ∧ vA = (i : Int)) := hide_ (by
              have h := chkD_at (R := R) hlt (by rw [HDi.out]; exact hgt) HD.out
              rw [HCD.out] at h
              injection h with h1 h2
              exact ⟨h1, h2⟩)
            have KF := hide_ (K2.out.later HB1.out)
            have l0 := KF.out.cell 0; have l1 := KF.out.cell 1
            simp at l0 l1
            have f0 := fun i => KF.out.frozen i
            have HK := hide_ (wr2z KF.out (.int .i64 83) (.int .i64 (i : Int)))
            have HBf := hide_ (below_wr2 (below_to HB0.out HB1.out) (w.heap.size + 1) (by omega) (.int .i64 83) (.int .i64 (i : Int)))
            go_wp2
            refine retFz (x := 83) (y := (i : Int)) rfl rfl HK.out ⟨by rw [HV.out.1, HV.out.2], HBf.out⟩
          · have HD2 : Hid (∀ j, j < i + 1 → (depL T).getD j 0 ≤ 64) := hide_ (fun j hj => by
              rcases Nat.lt_or_ge j i with h | h
              · exact HD.out j h
              · obtain rfl : j = i := by omega
                rw [HDi.out]; omega)
            go_wp2_with fail
            go_round
            case rel => exact ⟨i + 1, by omega, by go_num, HD2⟩
            case measure => simp [intOf]; omega
        · obtain rfl : i = T.length := by omega
          have HCR : Hid (chkR T.length R = (vE, vA)) := hide_ (by rw [← chkD_none (R := R) HD.out]; exact HCD.out)
          clear HRow HD
          go_wp2_with fail
          go_loopw [6] (fun x6 wr => ∃ i : Nat, i ≤ R.length ∧ x6 = .int .i64 (i : Int) ∧ Hid (∀ j, j < i → rootOk T.length R j = true) ∧ Hid (Below w0.heap.size w0 wr)) (fun x6 _ => R.length - (intOf x6).toNat)
          case atStart => exact ⟨0, Nat.zero_le _, rfl, hide_ (fun j hj => by omega), HB1⟩
          case round =>
            obtain ⟨i, hi, rfl, HAr, HBr⟩ := hrel
            generalize wr = wq at *
            have KSq := hide_ (K1.out.later HBr.out)
            have i0 := KSq.out.cell 0; have i1 := KSq.out.cell 1
            simp at i0 i1
            by_cases hlt : i < R.length
            · have hlt' : (i : Int) < R.length := by omega
              obtain ⟨b, o, rfl, hb, hc⟩ := (hR.out.later (below_to HB0.out HBr.out)).open (by omega)
              have hx : R[i]? = some (R[i]'hlt) := List.getElem?_eq_getElem hlt
              have hcx := hc i _ hx
              have HX := hide_ hx
              generalize R[i]'hlt = r at *
              have r0 := hcx 0 (by decide); have r1 := hcx 1 (by decide)
              simp [rtc] at r0 r1
              have HDoc := hide_ (rootOk_doc (n := T.length) HX.out)
              obtain ⟨nm, hnm⟩ : ∃ x, isName r.name = x := ⟨_, rfl⟩
              obtain ⟨bn, hbn⟩ : ∃ x, inB r.ty T.length = x := ⟨_, rfl⟩
              rw [hnm, hbn] at HDoc
              have HNm : Hid (∀ w, Calls Try.prog 18 #[.string r.name] w fun e w' => e = .returned (.bool nm) ∧ w = w') := hide_ (fun w => by have h := nameD_any r.name w; rwa [hnm] at h)
              have HIn : Hid (∀ w, Calls Try.prog 19 #[.int .i64 r.ty, .int .i64 0, .int .i64 ((T.length : Int) - 1)] w fun e w' => e = .returned (.bool bn) ∧ w = w') := hide_ (fun w => by have h := inR_any r.ty 0 ((T.length : Int) - 1) w; rwa [inR_at, hbn] at h)
              have hwt : wrap64 ((T.length : Int) - 1) = (T.length : Int) - 1 := w64 _ (by omega)
              obtain ⟨b0, hb0⟩ : ∃ x, (decide (i < 256) && nm && bn) = x := ⟨_, rfl⟩
              rw [hb0] at HDoc
              have HB00 := hide_ hb0
              have HRq := hide_ (hR.out.later (below_to HB0.out HBr.out))
              clear hc hx hcx hnm hbn hb0 hb
              go_upto_region 15 with fail
              go_cut [7] from 47 to 71 (fun x7 wc => x7 = .bool b0 ∧ ∃ w1, w1 = wc ∧ Hid (Below wq.heap.size wq w1))
              case first =>
                by_cases h256 : i < 256
                · have h256' : (i : Int) < 256 := by omega
                  have hB := HB00.out
                  rw [decide_eq_true h256] at hB
                  cases nm with
                  | false =>
                    obtain rfl : false = b0 := by rw [← hB]; rfl
                    clear hB
                    go_wp2_with fail
                    go_quiet (first | (go_at_call 18; exact Calls.quiet_of_same ((HNm.out _).mono fun _ _ h => ⟨h.1, h.2.symm⟩)))
                    go_wp2
                    go_meet
                    case rel => exact ⟨rfl, _, rfl, hide_ (below_drewNz (Below.refl _ wq) nq)⟩
                  | true =>
                    obtain rfl : bn = b0 := by rw [← hB]; rfl
                    clear hB
                    go_wp2_with fail
                    go_quiet (first | (go_at_call 18; exact Calls.quiet_of_same ((HNm.out _).mono fun _ _ h => ⟨h.1, h.2.symm⟩)) | (go_at_call 19; exact Calls.quiet_of_same ((HIn.out _).mono fun _ _ h => ⟨h.1, h.2.symm⟩)))
                    go_wp2
                    go_meet
                    case rel => exact ⟨rfl, _, rfl, hide_ (below_drewNz (Below.refl _ wq) nq)⟩
                · have h256' : decide ((i : Int) < 256) = false := decide_eq_false (by omega)
                  obtain rfl : false = b0 := by rw [← HB00.out, decide_eq_false h256]; rfl
                  go_wp2_with fail
                  go_quiet (fail)
                  go_wp2
                  go_meet
                  case rel => exact ⟨rfl, _, rfl, hide_ (below_drewNz (Below.refl _ wq) nq)⟩
              case rest =>
              obtain ⟨rfl, w1, rfl, HBc⟩ := hcut
              clear i0 i1 r0 r1 HNm HIn HB00
              go_wp2_with fail
              go_loopw [7, 8] (fun x7 x8 wr => ∃ (j : Nat) (ok : Bool), j ≤ i ∧ x8 = .int .i64 (j : Int) ∧ x7 = .bool ok ∧ Hid ((b0 && !sameN R r.name j) = ok) ∧ Hid (Below wq.heap.size wq wr)) (fun _ x8 _ => i - (intOf x8).toNat)
              case atStart => exact ⟨0, b0, Nat.zero_le _, rfl, rfl, hide_ (by simp [sameN]), HBc⟩
              case round =>
                obtain ⟨j, ok, hj, rfl, rfl, HOk, HBj⟩ := hrel
                generalize wr = wp at *
                clear HBc
                have KSp := hide_ (KSq.out.later HBj.out)
                have i0 := KSp.out.cell 0; have i1 := KSp.out.cell 1
                simp at i0 i1
                have HBw := hide_ (below_to HBr.out HBj.out)
                by_cases hji : j < i
                · have hji' : (j : Int) < i := by omega
                  have hjl : j < R.length := by omega
                  have hjl' : (j : Int) < R.length := by omega
                  obtain ⟨b', o', hax, -, hc⟩ := (HRq.out.later HBj.out).open (by omega)
                  injection hax with hax
                  injection hax with e1 e2 _
                  subst e1 e2
                  have hx : R[j]? = some (R[j]'hjl) := List.getElem?_eq_getElem hjl
                  have q0 := hc j _ hx 0 (by decide)
                  have p0 := hc i _ HX.out 0 (by decide)
                  have HS := hide_ (sameN_succ (nm := r.name) hx)
                  generalize R[j]'hjl = q at *
                  simp [rtc] at q0 p0
                  clear hc hx
                  cases ok with
                  | false =>
                    have HO2 : Hid ((b0 && !sameN R r.name (j + 1)) = false) := hide_ (by
                      have h := HOk.out
                      rw [HS.out]
                      cases b0
                      · rfl
                      · simp at h ⊢; simp [h])
                    go_wp2_with fail
                    go_quiet (fail)
                    have HBq := hide_ (below_drewNz HBj.out nq)
                    go_wp2_with fail
                    go_roundw
                    case rel => exact ⟨j + 1, false, by omega, by go_num, rfl, HO2, HBq⟩
                    case measure => simp [intOf]; omega
                  | true =>
                    by_cases he : q.name = r.name
                    · have hs : (q.name.toList == r.name.toList) = true := by rw [he]; simp
                      have hs2 : (q.name.toList != r.name.toList) = false := by rw [he]; simp
                      have HO2 : Hid ((b0 && !sameN R r.name (j + 1)) = false) := hide_ (by rw [HS.out, decide_eq_true he]; simp)
                      clear he
                      go_wp2_with fail
                      go_quiet (fail)
                      have HBq := hide_ (below_drewNz HBj.out nq)
                      go_wp2_with fail
                      go_roundw
                      case rel => exact ⟨j + 1, false, by omega, by go_num, rfl, HO2, HBq⟩
                      case measure => simp [intOf]; omega
                    · have hs : (q.name.toList == r.name.toList) = false := by rw [str_eqz]; exact decide_eq_false he
                      have hs2 : (q.name.toList != r.name.toList) = true := by simp [bne, hs]
                      have HO2 : Hid ((b0 && !sameN R r.name (j + 1)) = true) := hide_ (by rw [HS.out, decide_eq_false he, Bool.or_false]; exact HOk.out)
                      clear he
                      go_wp2_with fail
                      go_quiet (fail)
                      have HBq := hide_ (below_drewNz HBj.out nq)
                      go_wp2_with fail
                      go_roundw
                      case rel => exact ⟨j + 1, true, by omega, by go_num, rfl, HO2, HBq⟩
                      case measure => simp [intOf]; omega
                · obtain rfl : j = i := by omega
                  have HRo : Hid (rootOk T.length R j = ok) := hide_ (by rw [HDoc.out]; exact HOk.out)
                  cases ok with
                  | true =>
                    have HA2 : Hid (∀ q, q < j + 1 → rootOk T.length R q = true) := hide_ (fun q hq => by
                      rcases Nat.lt_or_ge q j with h | h
                      · exact HAr.out q h
                      · obtain rfl : q = j := by omega
                        exact HRo.out)
                    go_wp2_with fail
                    go_roundw
                    case rel => exact ⟨j + 1, by omega, by go_num, HA2, HBw⟩
                    case measure => simp [intOf]; omega
                  | false =>
                    have HV : Hid (vE = 92 ∧ vA = (T.length : Int) + j) := hide_ (by
                      have h := chkR_at hlt HRo.out HAr.out
                      rw [HCR.out] at h
                      injection h with h1 h2
                      exact ⟨h1, h2⟩)
                    have KF := hide_ (K2.out.later HBw.out)
                    have l0 := KF.out.cell 0; have l1 := KF.out.cell 1
                    simp at l0 l1
                    have f0 := fun i => KF.out.frozen i
                    have hwr : wrap64 ((T.length : Int) + j) = (T.length : Int) + j := w64 _ (by omega)
                    have HK := hide_ (wr2z KF.out (.int .i64 92) (.int .i64 ((T.length : Int) + j)))
                    have HBf := hide_ (below_wr2 (below_to HB0.out HBw.out) (w.heap.size + 1) (by omega) (.int .i64 92) (.int .i64 ((T.length : Int) + j)))
                    go_wp2
                    refine retFz (x := 92) (y := (T.length : Int) + j) rfl rfl HK.out ⟨by rw [HV.out.1, HV.out.2], HBf.out⟩
            · obtain rfl : i = R.length := by omega
              have HV : Hid (vE = 0 ∧ vA = 0) := hide_ (by
                have h := chkR_none HAr.out
                rw [HCR.out] at h
                injection h with h1 h2
                exact ⟨h1, h2⟩)
              have KF := hide_ (K2.out.later HBr.out)
              have l0 := KF.out.cell 0; have l1 := KF.out.cell 1
              simp at l0 l1
              have f0 := fun i => KF.out.frozen i
              have HK := hide_ (wr2z KF.out (.int .i64 0) (.int .i64 0))
              have HBf := hide_ (below_wr2 (below_to HB0.out HBr.out) (w.heap.size + 1) (by omega) (.int .i64 0) (.int .i64 0))
              go_wp2
              refine retFz (x := 0) (y := 0) rfl rfl HK.out ⟨by rw [HV.out.1, HV.out.2], HBf.out⟩
end Go.Proofs.Ytfgdkhmoikkgjaa
