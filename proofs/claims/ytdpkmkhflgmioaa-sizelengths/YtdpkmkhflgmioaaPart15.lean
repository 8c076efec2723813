import Derived.Test.YtdpkmkhflgmioaaPart14
import Derived.Deep.RegionHeldLaw

/- The document's Check of a schema. -/
namespace Go.Proofs.Ytdpkmkhflgmioaa
open Go.RowKit
set_option linter.unusedVariables false

def sameN (R : List Rt) (nm : ByteArray) (j : Nat) : Bool := (R.take j).any (fun q => decide (q.name = nm))
theorem sameN_succ {R : List Rt} {nm : ByteArray} {j : Nat} {q : Rt} (h : R[j]? = some q) : sameN R nm (j + 1) = (sameN R nm j || decide (q.name = nm)) := by
  have hj := (List.getElem?_eq_some_iff.1 h).1
  unfold sameN
  rw [List.take_succ_eq_append_getElem hj, (List.getElem?_eq_some_iff.1 h).2]
  simp
theorem rootOk_doc {n : Nat} {R : List Rt} {i : Nat} {r : Rt} (h : R[i]? = some r) : rootOk n R i = (decide (i < 256) && isName r.name && inB r.ty n && !sameN R r.name i) := by
  have e : R.getD i rt0 = r := by simp [List.getD, h]
  have hi := (List.getElem?_eq_some_iff.1 h).1
  unfold rootOk
  rw [e]
  congr 1
  cases hs : sameN R r.name i with
  | true =>
    unfold sameN at hs
    rw [List.any_eq_true] at hs
    obtain ⟨q, hq, hqn⟩ := hs
    obtain ⟨j, hj⟩ := List.getElem?_of_mem hq
    rw [List.getElem?_take] at hj
    split at hj
    · rename_i hji
      rw [decide_eq_false]
      · rfl
      · intro hf
        unfold findR at hf
        have hlt : R.findIdx (fun q => decide (q.name = r.name)) ≤ j := by
          have hjl := (List.getElem?_eq_some_iff.1 hj).1
          refine Nat.le_of_not_lt (fun h' => ?_)
          have := List.not_of_lt_findIdx h'
          rw [(List.getElem?_eq_some_iff.1 hj).2, hqn] at this
          cases this
        omega
    · cases hj
  | false =>
    unfold sameN at hs
    rw [List.any_eq_false] at hs
    rw [findR_at h rfl (fun j q hj hq => ?_)]
    · simp
    · have := hs q (List.mem_of_getElem? (i := j) (by rw [List.getElem?_take, if_pos hj]; exact hq))
      simpa using this
set_option maxRecDepth 100000 in
set_option maxHeartbeats 8000000 in
theorem checkR_any (a : Option Addr) (c : Nat) (T : List Ty) (ar : Option Addr) (cr : Nat) (R : List Rt) (w : World) (hn : T.length ≤ 3000000000000) (hm : R.length ≤ 10000000000000) (hL : Hid (LensT T)) (hT : Hid (TRow w a T)) (hR : Hid (RRow w ar R)) :
    Calls Try.prog 8 #[.agg #[.slice a T.length c, .slice ar R.length cr]] w fun e w' => e = .returned (.agg #[.int .i64 (chk T R).1, .int .i64 (chk T R).2]) ∧ Below w.heap.size w w' := by
  have hB := below2 w (.cells #[.slice a T.length c, .slice ar R.length cr] 25) (.cells #[.int .i64 0, .int .i64 0] 34)
  obtain ⟨k1, k2⟩ := blk2 w #[.slice a T.length c, .slice ar R.length cr] #[.int .i64 0, .int .i64 0] 25 34
  obtain ⟨w0, hw0⟩ : ∃ wx, wx = (w.alloc (.cells #[.slice a T.length c, .slice ar R.length cr] 25)).alloc (.cells #[.int .i64 0, .int .i64 0] 34) := ⟨_, rfl⟩
  rw [← hw0] at hB k1 k2
  have HB0 := hide_ hB
  have K1 := hide_ k1
  have K2 := hide_ k2
  have hs1 : w.heap.size < w0.heap.size := k1.lt
  have hs2 : w.heap.size + 1 < w0.heap.size := k2.lt
  obtain ⟨vE, hE⟩ : ∃ vE, (chk T R).1 = vE := ⟨_, rfl⟩
  obtain ⟨vA, hA⟩ : ∃ vA, (chk T R).2 = vA := ⟨_, rfl⟩
  rw [hE, hA]
  have HC : Hid (chk T R = (vE, vA)) := hide_ (by rw [← hE, ← hA])
  clear hB k1 k2 hE hA
  go_enter Try.func8, Try.ntmps8
  go_upto_region 1 with fail
  rw [← hw0]
  clear hw0
  go_wp2_with fail
  go_loopw [3] (fun x3 wr => ∃ i : Nat, i ≤ T.length ∧ x3 = .int .i64 (i : Int) ∧ Hid (∀ j, j < i → tyOk (T.getD j ty0) j = true) ∧ Hid (Below w0.heap.size w0 wr)) (fun x3 _ => T.length - (intOf x3).toNat)
  case atStart => exact ⟨0, Nat.zero_le _, rfl, hide_ (fun j hj => by omega), hide_ (Below.refl _ _)⟩
  case round =>
    obtain ⟨i, hi, rfl, HA, HB⟩ := hrel
    generalize wr = wq at *
    have KSq := hide_ (K1.out.later HB.out)
    have i0 := KSq.out.cell 0; have i1 := KSq.out.cell 1
    simp at i0 i1
    by_cases hlt : i < T.length
    · have hlt' : (i : Int) < T.length := by omega
      obtain ⟨b, o, rfl, hb, hc⟩ := (hT.out.later (below_to HB0.out HB.out)).open (by omega)
      have hx : T[i]? = some (T[i]'hlt) := List.getElem?_eq_getElem hlt
      obtain ⟨va, vc, hcx, hvc, -, hP⟩ := hc i _ hx
      have hgd : T.getD i ty0 = T[i]'hlt := by simp [List.getD, hlt]
      have HGD := hide_ hgd
      generalize T[i]'hlt = t at *
      have t0 := hcx 0 (by decide); have t1 := hcx 1 (by decide); have t2 := hcx 2 (by decide); have t3 := hcx 3 (by decide)
      simp [tyc] at t0 t1 t2 t3
      have HCon := hide_ (right_any t va vc i wq (by omega) (hide_ hP))
      obtain ⟨ok, hok⟩ : ∃ ok, tyOk t (i : Int) = ok := ⟨_, rfl⟩
      rw [hok] at HCon
      have HOK := hide_ hok
      clear hc hx hcx hP hok hgd hb
      go_wp2_with fail
      refine HCon.out.mono ?_; rintro e w1 ⟨rfl, hB1⟩
      have HB1 := hide_ (below_to HB.out hB1)
      clear hB1 t0 t1 t2 t3 i0 i1
      cases ok with
      | true =>
        have HA2 : Hid (∀ j, j < i + 1 → tyOk (T.getD j ty0) j = true) := hide_ (fun j hj => by
          rcases Nat.lt_or_ge j i with h | h
          · exact HA.out j h
          · obtain rfl : j = i := by omega
            rw [HGD.out]; exact HOK.out)
        go_wp2_with fail
        go_roundw
        case rel => exact ⟨i + 1, by omega, by go_num, HA2, HB1⟩
        case measure => simp [intOf]; omega
      | false =>
        have HV : Hid (vE = 92 ∧ vA = (i : Int)) := hide_ (by
          have h := chk_ty (R := R) hlt (by rw [HGD.out]; exact HOK.out) HA.out
          rw [HC.out] at h
          injection h with h1 h2
          exact ⟨h1, h2⟩)
        have KF := hide_ (K2.out.later HB1.out)
        have l0 := KF.out.cell 0; have l1 := KF.out.cell 1
        simp at l0 l1
        have f0 := fun i => KF.out.frozen i
        have HK := hide_ (wr2 KF.out (.int .i64 92) (.int .i64 (i : Int)))
        have HBf := hide_ (below_wr2 (below_to HB0.out HB1.out) (w.heap.size + 1) (by omega) (.int .i64 92) (.int .i64 (i : Int)))
        go_wp2
        refine retF (x := 92) (y := (i : Int)) rfl rfl HK.out ⟨by rw [HV.out.1, HV.out.2], HBf.out⟩
    · obtain rfl : i = T.length := by omega
      have HCD : Hid (chkD T R = (vE, vA)) := hide_ (by rw [← chk_deep (R := R) HA.out]; exact HC.out)
      have HDp := hide_ (depths_any a c (.slice ar R.length cr) T wq (by omega) hL (hide_ (hT.out.later (below_to HB0.out HB.out))) HA)
      go_wp2_with fail
      refine HDp.out.mono ?_; rintro e w1 ⟨vd, rfl, HO1, hB1⟩
      have HB1 := hide_ (below_to HB.out hB1.out)
      obtain ⟨ad, cd, hvd, hrow, -⟩ := own_open HO1.out rfl
      subst hvd
      rw [depL_len]
      have HRow := hide_ hrow
      have HDL := hide_ (depL_len T)
      clear hB1 i0 i1 HDp hrow HO1
      go_wp2_with fail
      go_loop [5] (fun x5 => ∃ i : Nat, i ≤ T.length ∧ x5 = .int .i64 (i : Int) ∧ Hid (∀ j, j < i → (depL T).getD j 0 ≤ 64)) (fun x5 => T.length - (intOf x5).toNat)
      case atStart => exact ⟨0, Nat.zero_le _, rfl, hide_ (fun j hj => by omega)⟩
      case round =>
        obtain ⟨i, hi, rfl, HD⟩ := hrel
        by_cases hlt : i < T.length
        · have hlt' : (i : Int) < T.length := by omega
          obtain ⟨bd, od, rfl, -, hcd⟩ := HRow.out.open (by rw [HDL.out]; omega)
          have c1 := hcd i (by rw [HDL.out]; omega)
          obtain ⟨d, hd⟩ : ∃ d, (depL T).getD i 0 = d := ⟨_, rfl⟩
          rw [hd] at c1
          have HDi := hide_ hd
          clear hcd hd
          by_cases hgt : 64 < d
          · have HV : Hid (vE = 83 ∧ vA = (i : Int)) := hide_ (by
              have h := chkD_at (R := R) hlt (by rw [HDi.out]; exact hgt) HD.out
              rw [HCD.out] at h
              injection h with h1 h2
              exact ⟨h1, h2⟩)
            have KF := hide_ (K2.out.later HB1.out)
            have l0 := KF.out.cell 0; have l1 := KF.out.cell 1
            simp at l0 l1
            have f0 := fun i => KF.out.frozen i
            have HK := hide_ (wr2 KF.out (.int .i64 83) (.int .i64 (i : Int)))
            have HBf := hide_ (below_wr2 (below_to HB0.out HB1.out) (w.heap.size + 1) (by omega) (.int .i64 83) (.int .i64 (i : Int)))
            go_wp2
            refine retF (x := 83) (y := (i : Int)) rfl rfl HK.out ⟨by rw [HV.out.1, HV.out.2], HBf.out⟩
          · have HD2 : Hid (∀ j, j < i + 1 → (depL T).getD j 0 ≤ 64) := hide_ (fun j hj => by
              rcases Nat.lt_or_ge j i with h | h
              · exact HD.out j h
              · obtain rfl : j = i := by omega
                rw [HDi.out]; omega)
            go_wp2_with fail
            go_round
            case rel => exact ⟨i + 1, by omega, by go_num, HD2⟩
            case measure => simp [intOf]; omega
        · obtain rfl : i = T.length := by omega
          have HCR : Hid (chkR T.length R = (vE, vA)) := hide_ (by rw [← chkD_none (R := R) HD.out]; exact HCD.out)
          clear HRow HD
          go_wp2_with fail
          go_loopw [6] (fun x6 wr => ∃ i : Nat, i ≤ R.length ∧ x6 = .int .i64 (i : Int) ∧ Hid (∀ j, j < i → rootOk T.length R j = true) ∧ Hid (Below w0.heap.size w0 wr)) (fun x6 _ => R.length - (intOf x6).toNat)
          case atStart => exact ⟨0, Nat.zero_le _, rfl, hide_ (fun j hj => by omega), HB1⟩
          case round =>
            obtain ⟨i, hi, rfl, HAr, HBr⟩ := hrel
            generalize wr = wq at *
            have KSq := hide_ (K1.out.later HBr.out)
            have i0 := KSq.out.cell 0; have i1 := KSq.out.cell 1
            simp at i0 i1
            by_cases hlt : i < R.length
            · have hlt' : (i : Int) < R.length := by omega
              obtain ⟨b, o, rfl, hb, hc⟩ := (hR.out.later (below_to HB0.out HBr.out)).open (by omega)
              have hx : R[i]? = some (R[i]'hlt) := List.getElem?_eq_getElem hlt
              have hcx := hc i _ hx
              have HX := hide_ hx
              generalize R[i]'hlt = r at *
              have r0 := hcx 0 (by decide); have r1 := hcx 1 (by decide)
              simp [rtc] at r0 r1
              have HDoc := hide_ (rootOk_doc (n := T.length) HX.out)
              obtain ⟨nm, hnm⟩ : ∃ x, isName r.name = x := ⟨_, rfl⟩
              obtain ⟨bn, hbn⟩ : ∃ x, inB r.ty T.length = x := ⟨_, rfl⟩
              rw [hnm, hbn] at HDoc
              have HNm : Hid (∀ w, Calls Try.prog 26 #[.string r.name] w fun e w' => e = .returned (.bool nm) ∧ w = w') := hide_ (fun w => by have h := nameD_any r.name w; rwa [hnm] at h)
              have HIn : Hid (∀ w, Calls Try.prog 27 #[.int .i64 r.ty, .int .i64 0, .int .i64 ((T.length : Int) - 1)] w fun e w' => e = .returned (.bool bn) ∧ w = w') := hide_ (fun w => by have h := inR_any r.ty 0 ((T.length : Int) - 1) w; rwa [inR_at, hbn] at h)
              have hwt : wrap64 ((T.length : Int) - 1) = (T.length : Int) - 1 := w64 _ (by omega)
              obtain ⟨b0, hb0⟩ : ∃ x, (decide (i < 256) && nm && bn) = x := ⟨_, rfl⟩
              rw [hb0] at HDoc
              have HB00 := hide_ hb0
              have HRq := hide_ (hR.out.later (below_to HB0.out HBr.out))
              clear hc hx hcx hnm hbn hb0 hb
              go_upto_region 15 with fail
              go_cut [7] from 47 to 71 (fun x7 wc => x7 = .bool b0 ∧ ∃ w1, w1 = wc ∧ Hid (Below wq.heap.size wq w1))
              case first =>
                by_cases h256 : i < 256
                · have h256' : (i : Int) < 256 := by omega
                  have hB := HB00.out
                  rw [decide_eq_true h256] at hB
                  cases nm with
                  | false =>
                    obtain rfl : false = b0 := by rw [← hB]; rfl
                    clear hB
                    go_wp2_with fail
                    go_quiet (first | (go_at_call 26; exact Calls.quiet_of_same ((HNm.out _).mono fun _ _ h => ⟨h.1, h.2.symm⟩)))
                    go_wp2
                    go_meet
                    case rel => exact ⟨rfl, _, rfl, hide_ (below_drewN (Below.refl _ wq) nq)⟩
                  | true =>
                    obtain rfl : bn = b0 := by rw [← hB]; rfl
                    clear hB
                    go_wp2_with fail
                    go_quiet (first | (go_at_call 26; exact Calls.quiet_of_same ((HNm.out _).mono fun _ _ h => ⟨h.1, h.2.symm⟩)) | (go_at_call 27; exact Calls.quiet_of_same ((HIn.out _).mono fun _ _ h => ⟨h.1, h.2.symm⟩)))
                    go_wp2
                    go_meet
                    case rel => exact ⟨rfl, _, rfl, hide_ (below_drewN (Below.refl _ wq) nq)⟩
                · have h256' : decide ((i : Int) < 256) = false := decide_eq_false (by omega)
                  obtain rfl : false = b0 := by rw [← HB00.out, decide_eq_false h256]; rfl
                  go_wp2_with fail
                  go_quiet (fail)
                  go_wp2
                  go_meet
                  case rel => exact ⟨rfl, _, rfl, hide_ (below_drewN (Below.refl _ wq) nq)⟩
              case rest =>
              obtain ⟨rfl, w1, rfl, HBc⟩ := hcut
              clear i0 i1 r0 r1 HNm HIn HB00
              go_wp2_with fail
              go_loopw [7, 8] (fun x7 x8 wr => ∃ (j : Nat) (ok : Bool), j ≤ i ∧ x8 = .int .i64 (j : Int) ∧ x7 = .bool ok ∧ Hid ((b0 && !sameN R r.name j) = ok) ∧ Hid (Below wq.heap.size wq wr)) (fun _ x8 _ => i - (intOf x8).toNat)
              case atStart => exact ⟨0, b0, Nat.zero_le _, rfl, rfl, hide_ (by simp [sameN]), HBc⟩
              case round =>
                obtain ⟨j, ok, hj, rfl, rfl, HOk, HBj⟩ := hrel
                generalize wr = wp at *
                clear HBc
                have KSp := hide_ (KSq.out.later HBj.out)
                have i0 := KSp.out.cell 0; have i1 := KSp.out.cell 1
                simp at i0 i1
                have HBw := hide_ (below_to HBr.out HBj.out)
                by_cases hji : j < i
                · have hji' : (j : Int) < i := by omega
                  have hjl : j < R.length := by omega
                  have hjl' : (j : Int) < R.length := by omega
                  obtain ⟨b', o', hax, -, hc⟩ := (HRq.out.later HBj.out).open (by omega)
                  injection hax with hax
                  injection hax with e1 e2 _
                  subst e1 e2
                  have hx : R[j]? = some (R[j]'hjl) := List.getElem?_eq_getElem hjl
                  have q0 := hc j _ hx 0 (by decide)
                  have p0 := hc i _ HX.out 0 (by decide)
                  have HS := hide_ (sameN_succ (nm := r.name) hx)
                  generalize R[j]'hjl = q at *
                  simp [rtc] at q0 p0
                  clear hc hx
                  cases ok with
                  | false =>
                    have HO2 : Hid ((b0 && !sameN R r.name (j + 1)) = false) := hide_ (by
                      have h := HOk.out
                      rw [HS.out]
                      cases b0
                      · rfl
                      · simp at h ⊢; simp [h])
                    go_wp2_with fail
                    go_quiet (fail)
                    have HBq := hide_ (below_drewN HBj.out nq)
                    go_wp2_with fail
                    go_roundw
                    case rel => exact ⟨j + 1, false, by omega, by go_num, rfl, HO2, HBq⟩
                    case measure => simp [intOf]; omega
                  | true =>
                    by_cases he : q.name = r.name
                    · have hs : (q.name.toList == r.name.toList) = true := by rw [he]; simp
                      have hs2 : (q.name.toList != r.name.toList) = false := by rw [he]; simp
                      have HO2 : Hid ((b0 && !sameN R r.name (j + 1)) = false) := hide_ (by rw [HS.out, decide_eq_true he]; simp)
                      clear he
                      go_wp2_with fail
                      go_quiet (fail)
                      have HBq := hide_ (below_drewN HBj.out nq)
                      go_wp2_with fail
                      go_roundw
                      case rel => exact ⟨j + 1, false, by omega, by go_num, rfl, HO2, HBq⟩
                      case measure => simp [intOf]; omega
                    · have hs : (q.name.toList == r.name.toList) = false := by rw [str_eq]; exact decide_eq_false he
                      have hs2 : (q.name.toList != r.name.toList) = true := by simp [bne, hs]
                      have HO2 : Hid ((b0 && !sameN R r.name (j + 1)) = true) := hide_ (by rw [HS.out, decide_eq_false he, Bool.or_false]; exact HOk.out)
                      clear he
                      go_wp2_with fail
                      go_quiet (fail)
                      have HBq := hide_ (below_drewN HBj.out nq)
                      go_wp2_with fail
                      go_roundw
                      case rel => exact ⟨j + 1, true, by omega, by go_num, rfl, HO2, HBq⟩
                      case measure => simp [intOf]; omega
                · obtain rfl : j = i := by omega
                  have HRo : Hid (rootOk T.length R j = ok) := hide_ (by rw [HDoc.out]; exact HOk.out)
                  cases ok with
                  | true =>
                    have HA2 : Hid (∀ q, q < j + 1 → rootOk T.length R q = true) := hide_ (fun q hq => by
                      rcases Nat.lt_or_ge q j with h | h
                      · exact HAr.out q h
                      · obtain rfl : q = j := by omega
                        exact HRo.out)
                    go_wp2_with fail
                    go_roundw
                    case rel => exact ⟨j + 1, by omega, by go_num, HA2, HBw⟩
                    case measure => simp [intOf]; omega
                  | false =>
                    have HV : Hid (vE = 92 ∧ vA = (T.length : Int) + j) := hide_ (by
                      have h := chkR_at hlt HRo.out HAr.out
                      rw [HCR.out] at h
                      injection h with h1 h2
                      exact ⟨h1, h2⟩)
                    have KF := hide_ (K2.out.later HBw.out)
                    have l0 := KF.out.cell 0; have l1 := KF.out.cell 1
                    simp at l0 l1
                    have f0 := fun i => KF.out.frozen i
                    have hwr : wrap64 ((T.length : Int) + j) = (T.length : Int) + j := w64 _ (by omega)
                    have HK := hide_ (wr2 KF.out (.int .i64 92) (.int .i64 ((T.length : Int) + j)))
                    have HBf := hide_ (below_wr2 (below_to HB0.out HBw.out) (w.heap.size + 1) (by omega) (.int .i64 92) (.int .i64 ((T.length : Int) + j)))
                    go_wp2
                    refine retF (x := 92) (y := (T.length : Int) + j) rfl rfl HK.out ⟨by rw [HV.out.1, HV.out.2], HBf.out⟩
            · obtain rfl : i = R.length := by omega
              have HV : Hid (vE = 0 ∧ vA = 0) := hide_ (by
                have h := chkR_none HAr.out
                rw [HCR.out] at h
                injection h with h1 h2
                exact ⟨h1, h2⟩)
              have KF := hide_ (K2.out.later HBr.out)
              have l0 := KF.out.cell 0; have l1 := KF.out.cell 1
              simp at l0 l1
              have f0 := fun i => KF.out.frozen i
              have HK := hide_ (wr2 KF.out (.int .i64 0) (.int .i64 0))
              have HBf := hide_ (below_wr2 (below_to HB0.out HBr.out) (w.heap.size + 1) (by omega) (.int .i64 0) (.int .i64 0))
              go_wp2
              refine retF (x := 0) (y := 0) rfl rfl HK.out ⟨by rw [HV.out.1, HV.out.2], HBf.out⟩
end Go.Proofs.Ytdpkmkhflgmioaa

/- Plain: what extents are, and how they grow. -/
namespace Go.Proofs.Ytdpkmkhflgmioaa
set_option linter.unusedVariables false

theorem plus2_eq (a b : Int) : plus2 a b = capH (sz a + sz b) := by unfold plus2; simp [tot]
theorem sz_mono {a b : Int} (h : a ≤ b) : sz a ≤ sz b := by
  unfold sz
  repeat' split
  all_goals omega
theorem capH_mono {a b : Int} (h : a ≤ b) : capH a ≤ capH b := by
  unfold capH
  repeat' split
  all_goals omega
theorem sz_id {a : Int} (h0 : 0 ≤ a) (h1 : a ≤ 4611686018427387904) : sz a = a := by
  unfold sz
  rw [if_neg (by omega), if_pos h1]
theorem plus2_mono {a b c d : Int} (h : a ≤ c) (k : b ≤ d) : plus2 a b ≤ plus2 c d := by
  rw [plus2_eq, plus2_eq]
  exact capH_mono (Int.add_le_add (sz_mono h) (sz_mono k))
theorem times2_mono {a b c d : Int} (h : a ≤ c) (k : b ≤ d) : times2 a b ≤ times2 c d := by
  unfold times2
  exact capH_mono (Int.mul_le_mul (sz_mono h) (sz_mono k) (sz_bd b).1 (sz_bd c).1)
theorem times2_bd (a b : Int) : 0 ≤ times2 a b ∧ times2 a b ≤ 4611686018427387904 := by
  have := Int.mul_nonneg (sz_bd a).1 (sz_bd b).1
  unfold times2 capH
  split <;> omega
theorem plus2_l {a : Int} (b : Int) (h0 : 0 ≤ a) (h1 : a ≤ 4611686018427387904) : a ≤ plus2 a b := by
  have := (sz_bd b).1
  rw [plus2_eq, sz_id h0 h1]
  unfold capH
  split <;> omega
theorem plus2_r {a : Int} (b : Int) (h0 : 0 ≤ a) (h1 : a ≤ 4611686018427387904) : a ≤ plus2 b a := by
  have := (sz_bd b).1
  rw [plus2_eq, sz_id h0 h1]
  unfold capH
  split <;> omega
/-- What an extent is. -/
structure XOk (x : Ex) : Prop where
  l0 : 0 ≤ x.l
  lm : x.l ≤ x.m
  mh : x.m ≤ 4611686018427387904
  d0 : 0 ≤ x.d
  fx : x.f = true → x.l = x.m
theorem XOk.zero : XOk ex0 := ⟨by decide, by decide, by decide, by decide, fun _ => rfl⟩
theorem XOk.at {X : List Ex} (h : ∀ x ∈ X, XOk x) (i : Int) : XOk (exAt X i) := by
  unfold exAt
  rcases Nat.lt_or_ge i.toNat X.length with hi | hi
  · rw [show X.getD i.toNat ex0 = X[i.toNat]'hi by simp [List.getD, hi]]
    exact h _ (List.getElem_mem hi)
  · rw [show X.getD i.toNat ex0 = ex0 by simp [List.getD, List.getElem?_eq_none hi]]
    exact XOk.zero
theorem XOk.off {x : Ex} (h : XOk x) : XOk (offX x) := by
  unfold offX
  split
  · exact h
  · exact ⟨(plus2_bd 4 x.l).1, plus2_mono (Int.le_refl 4) h.lm, (plus2_bd 4 x.m).2, h.d0, fun e => absurd e (by assumption)⟩
theorem off_m {x : Ex} (h : XOk x) : x.m ≤ (offX x).m := by
  unfold offX
  split
  · exact Int.le_refl _
  · exact plus2_r 4 (Int.le_trans h.l0 h.lm) h.mh
theorem off_f (x : Ex) : (offX x).f = x.f := by
  unfold offX
  split <;> rfl
theorem rowX_snoc (l : List Ex) (x : Ex) : rowX (l ++ [x]) = ((rowX l).1 && (offX x).f, plus2 (rowX l).2.1 (offX x).l, plus2 (rowX l).2.2 (offX x).m) := by simp [rowX]
theorem chX_snoc (l : List Ex) (x : Ex) : chX (l ++ [x]) = (min (chX l).1 x.l, max (chX l).2 x.m) := by simp [chX]
theorem deepX_snoc (l : List Ex) (x : Ex) : deepX (l ++ [x]) = max (deepX l) x.d := by simp [deepX]
theorem rowX_ok (l : List Ex) : (∀ x ∈ l, XOk x) → 0 ≤ (rowX l).2.1 ∧ (rowX l).2.1 ≤ (rowX l).2.2 ∧ (rowX l).2.2 ≤ 4611686018427387904 ∧ ((rowX l).1 = true → (rowX l).2.1 = (rowX l).2.2) := by
  refine snoc_ind (P := fun l => (∀ x ∈ l, XOk x) → 0 ≤ (rowX l).2.1 ∧ (rowX l).2.1 ≤ (rowX l).2.2 ∧ (rowX l).2.2 ≤ 4611686018427387904 ∧ ((rowX l).1 = true → (rowX l).2.1 = (rowX l).2.2)) (fun _ => by simp [rowX]) (fun l x ih h => ?_) l
  have h1 := ih (fun y hy => h y (by simp [hy]))
  have hx := (h x (by simp)).off
  rw [rowX_snoc]
  refine ⟨(plus2_bd _ _).1, plus2_mono h1.2.1 hx.lm, (plus2_bd _ _).2, fun hf => ?_⟩
  simp only [Bool.and_eq_true] at hf
  simp only
  rw [h1.2.2.2 hf.1, hx.fx hf.2]
theorem chX_ok (l : List Ex) : (∀ x ∈ l, XOk x) → 0 ≤ (chX l).1 ∧ (chX l).1 ≤ 4611686018427387904 ∧ 0 ≤ (chX l).2 ∧ (chX l).2 ≤ 4611686018427387904 ∧ (l ≠ [] → (chX l).1 ≤ (chX l).2) := by
  refine snoc_ind (P := fun l => (∀ x ∈ l, XOk x) → 0 ≤ (chX l).1 ∧ (chX l).1 ≤ 4611686018427387904 ∧ 0 ≤ (chX l).2 ∧ (chX l).2 ≤ 4611686018427387904 ∧ (l ≠ [] → (chX l).1 ≤ (chX l).2)) (fun _ => by simp [chX]) (fun l x ih h => ?_) l
  have h1 := ih (fun y hy => h y (by simp [hy]))
  have hx := h x (by simp)
  have := hx.l0; have := hx.lm; have := hx.mh
  rw [chX_snoc]
  simp only
  refine ⟨by omega, by omega, by omega, by omega, fun _ => by omega⟩
theorem deepX_nn (l : List Ex) : 0 ≤ deepX l := by
  refine snoc_ind (P := fun l => 0 ≤ deepX l) (by simp [deepX]) (fun l x ih => ?_) l
  rw [deepX_snoc]
  omega
theorem deepX_ge (l : List Ex) : ∀ x ∈ l, x.d ≤ deepX l := by
  refine snoc_ind (P := fun l => ∀ x ∈ l, x.d ≤ deepX l) (fun x hx => by cases hx) (fun l y ih x hx => ?_) l
  rw [deepX_snoc]
  rcases List.mem_append.1 hx with hx | hx
  · have := ih x hx; omega
  · simp at hx; subst hx; omega
theorem chX_ge (l : List Ex) : ∀ x ∈ l, (chX l).1 ≤ x.l ∧ x.m ≤ (chX l).2 := by
  refine snoc_ind (P := fun l => ∀ x ∈ l, (chX l).1 ≤ x.l ∧ x.m ≤ (chX l).2) (fun x hx => by cases hx) (fun l y ih x hx => ?_) l
  rw [chX_snoc]
  simp only
  rcases List.mem_append.1 hx with hx | hx
  · have := ih x hx; omega
  · simp at hx; subst hx; omega
theorem rowX_ge (l : List Ex) : (∀ x ∈ l, XOk x) → ∀ x ∈ l, x.m ≤ (rowX l).2.2 ∧ ((rowX l).1 = true → x.f = true) := by
  refine snoc_ind (P := fun l => (∀ x ∈ l, XOk x) → ∀ x ∈ l, x.m ≤ (rowX l).2.2 ∧ ((rowX l).1 = true → x.f = true)) (fun _ x hx => by cases hx) (fun l y ih h x hx => ?_) l
  have hl : ∀ x ∈ l, XOk x := fun z hz => h z (by simp [hz])
  have h1 := rowX_ok l hl
  rw [rowX_snoc]
  simp only
  rcases List.mem_append.1 hx with hx | hx
  · have h2 := ih hl x hx
    have h3 := plus2_l (offX y).m (a := (rowX l).2.2) (by omega) h1.2.2.1
    exact ⟨by omega, fun hf => h2.2 (by simp only [Bool.and_eq_true] at hf; exact hf.1)⟩
  · simp at hx
    subst hx
    have hx := h x (by simp)
    have h3 := plus2_r (rowX l).2.2 (Int.le_trans hx.off.l0 hx.off.lm) hx.off.mh
    have h4 := off_m hx
    exact ⟨by omega, fun hf => by simp only [Bool.and_eq_true] at hf; rw [← off_f]; exact hf.2⟩
theorem kidL_ok {X : List Ex} (h : ∀ x ∈ X, XOk x) (k el : Int) (ps : List Pt) : ∀ x ∈ kidL X k el ps, XOk x := fun x hx => by
  unfold kidL at hx
  rcases List.mem_append.1 hx with hx | hx
  · split at hx
    · simp at hx; subst hx; exact XOk.at h el
    · cases hx
  · simp only [List.mem_map] at hx
    obtain ⟨p, _, rfl⟩ := hx
    exact XOk.at h p.ty
theorem tyOk_pos {t : Ty} {i : Int} (h : tyOk t i = true) (hk : t.k = 7 ∨ t.k = 8) : 0 < t.ps.length := by
  have h1 := (tyOk_parts h).2.2
  have key : ∀ r, allP r t.ps i = true → 0 < t.ps.length := fun r hr => by
    unfold allP at hr
    rw [Bool.and_eq_true, decide_eq_true_eq] at hr
    exact hr.1.1
  unfold partsOk at h1
  split at h1
  · exact key _ h1
  · rw [if_pos (by omega)] at h1
    exact key _ h1
theorem tyOk_none {t : Ty} {i : Int} (h : tyOk t i = true) (hk : t.k ≠ 7) (hk8 : t.k ≠ 8) : t.ps = [] := by
  have h1 := (tyOk_parts h).2.2
  unfold partsOk at h1
  rw [if_neg hk8, if_neg hk] at h1
  exact List.eq_nil_of_length_eq_zero (of_decide_eq_true h1)
theorem nOk_n {t : Ty} {i : Int} (h : tyOk t i = true) : (t.k = 1 ∧ 0 ≤ t.n ∧ t.n ≤ 8) ∨ ((t.k = 4 ∨ t.k = 5) ∧ 1 ≤ t.n ∧ t.n ≤ 1048576) ∨ ((t.k = 2 ∨ t.k = 3 ∨ t.k = 6 ∨ t.k = 7 ∨ t.k = 8) ∧ t.n = 0) := by
  have h1 := of_decide_eq_true (tyOk_parts h).1
  omega
theorem ext1_ok {X : List Ex} {t : Ty} {i : Int} (h : ∀ x ∈ X, XOk x) (ht : tyOk t i = true) : XOk (ext1 X t) ∧ 1 ≤ (ext1 X t).d := by
  have hn := nOk_n ht
  have hd := deepX_nn (kidL X t.k t.e t.ps)
  have hK := kidL_ok h t.k t.e t.ps
  have hE := (XOk.at h t.e).off
  refine ⟨?_, by rw [ext1_d]; omega⟩
  unfold ext1
  split
  · exact ⟨by simp only; omega, Int.le_refl _, by simp only; omega, by simp only; omega, fun _ => rfl⟩
  split
  · exact ⟨by simp only; omega, Int.le_refl _, by simp only; omega, by simp only; omega, fun _ => rfl⟩
  split
  · exact ⟨by simp only; omega, by simp only; omega, by simp only; omega, by simp only; omega, fun e => by cases e⟩
  split
  · refine ⟨(times2_bd _ _).1, times2_mono (Int.le_refl _) hE.lm, (times2_bd _ _).2, by simp only; omega, fun e => ?_⟩
    simp only at e ⊢
    rw [hE.fx e]
  split
  · refine ⟨(times2_bd _ _).1, ?_, (times2_bd _ _).2, by simp only; omega, fun e => by cases e⟩
    exact times2_mono (by omega) hE.lm
  split
  · have hK6 : ∀ x ∈ kidL X t.k t.e t.ps ++ [ex0], XOk x := fun x hx => by
      rcases List.mem_append.1 hx with hx | hx
      · exact hK x hx
      · simp at hx; subst hx; exact XOk.zero
    have hc := chX_ok _ hK6
    exact ⟨(plus2_bd _ _).1, plus2_mono (Int.le_refl 1) (hc.2.2.2.2 (by simp)), (plus2_bd _ _).2, by simp only; omega, fun e => by cases e⟩
  split
  · have hc := chX_ok _ hK
    have hp := tyOk_pos ht (by omega)
    have hne : kidL X t.k t.e t.ps ≠ [] := fun e => by
      have : (kidL X t.k t.e t.ps).length = 0 := by rw [e]; rfl
      unfold kidL at this
      rw [List.length_append, List.length_map] at this
      omega
    exact ⟨(plus2_bd _ _).1, plus2_mono (Int.le_refl 1) (hc.2.2.2.2 hne), (plus2_bd _ _).2, by simp only; omega, fun e => by cases e⟩
  · have hr := rowX_ok _ hK
    exact ⟨hr.1, hr.2.1, hr.2.2.1, by simp only; omega, hr.2.2.2⟩
/-- All extents of a right schema. -/
theorem extL_ok {T : List Ty} {R : List Rt} (hS : OkS T R) : ∀ m, m ≤ T.length → ∀ x ∈ extL (T.take m), XOk x ∧ 1 ≤ x.d
  | 0, _ => fun x hx => by simp [extL] at hx
  | m + 1, hm => fun x hx => by
    rw [List.take_succ_eq_append_getElem (by omega : m < T.length), extL_snoc] at hx
    have ih := extL_ok hS m (by omega)
    rcases List.mem_append.1 hx with hx | hx
    · exact ih x hx
    · simp only [List.mem_singleton] at hx
      subst hx
      have ht := hS.ty m (by omega)
      rw [show T.getD m ty0 = T[m]'(by omega) by simp [List.getD, (by omega : m < T.length)]] at ht
      exact ext1_ok (fun y hy => (ih y hy).1) ht
theorem extL_at {T : List Ty} {i : Nat} {t : Ty} (h : T[i]? = some t) : (extL T)[i]? = some (ext1 (extL (T.take i)) t) := by
  have hi := (List.getElem?_eq_some_iff.1 h).1
  have e : extL (T.take (i + 1)) = extL (T.take i) ++ [ext1 (extL (T.take i)) t] := by rw [List.take_succ_eq_append_getElem hi, (List.getElem?_eq_some_iff.1 h).2, extL_snoc]
  have hl : (extL (T.take i)).length = i := by rw [extL_len]; simp; omega
  have e2 := extL_take T (i + 1) hi
  have e3 : (extL T)[i]? = (extL (T.take (i + 1)))[i]? := by rw [e2, List.getElem?_take, if_pos (by omega)]
  rw [e3, e, List.getElem?_append_right (by omega), hl]
  simp
theorem exAt_take {T : List Ty} {i : Nat} {j : Int} (hi : i ≤ T.length) (h0 : 0 ≤ j) (h1 : j < i) : exAt (extL (T.take i)) j = exAt (extL T) j := by
  unfold exAt
  rw [extL_take T i hi]
  have : j.toNat < i := by omega
  simp only [List.getD, List.getElem?_take, if_pos this]
theorem exAt_ext {T : List Ty} {i : Nat} {t : Ty} (h : T[i]? = some t) : exAt (extL T) (i : Int) = ext1 (extL (T.take i)) t := by
  unfold exAt
  rw [Int.toNat_natCast]
  simp [List.getD, extL_at h]
/-- What a type's extent is beside its parts'. -/
theorem part_ext {T : List Ty} {R : List Rt} (hS : OkS T R) {i k : Nat} {t : Ty} {p : Pt} (ht : T[i]? = some t) (hp : t.ps[k]? = some p) :
    0 ≤ p.ty ∧ p.ty < i ∧ (exAt (extL T) p.ty).d < (exAt (extL T) (i : Int)).d ∧ (exAt (extL T) p.ty).m ≤ (exAt (extL T) (i : Int)).m ∧ ((exAt (extL T) (i : Int)).f = true → (exAt (extL T) p.ty).f = true) := by
  have hi := (List.getElem?_eq_some_iff.1 ht).1
  have hok := hS.ty i hi
  rw [show T.getD i ty0 = t by simp [List.getD, ht]] at hok
  obtain ⟨a0, a1⟩ := tyOk_part hok hp
  refine ⟨a0, a1, ?_⟩
  rw [exAt_ext ht, ← exAt_take (Nat.le_of_lt hi) a0 a1]
  have hX := extL_ok hS i (Nat.le_of_lt hi)
  generalize extL (T.take i) = X at *
  have hXo : ∀ x ∈ X, XOk x := fun x hx => (hX x hx).1
  have hK := kidL_ok hXo t.k t.e t.ps
  have hm : exAt X p.ty ∈ kidL X t.k t.e t.ps := by
    unfold kidL
    exact List.mem_append.2 (.inr (List.mem_map.2 ⟨p, List.mem_of_getElem? hp, rfl⟩))
  have hd := deepX_ge _ _ hm
  have h78 : t.k = 7 ∨ t.k = 8 := by
    by_cases h7 : t.k = 7
    · exact .inl h7
    · by_cases h8 : t.k = 8
      · exact .inr h8
      · rw [tyOk_none hok h7 h8] at hp; simp at hp
  refine ⟨by rw [ext1_d]; omega, ?_⟩
  unfold ext1
  rcases h78 with h7 | h8
  · rw [if_neg (by omega), if_neg (by omega), if_neg (by omega), if_neg (by omega), if_neg (by omega), if_neg (by omega), if_pos h7]
    have hc := chX_ok _ hK
    have hg := (chX_ge _ _ hm).2
    have := plus2_r 1 hc.2.2.1 hc.2.2.2.1
    simp only
    exact ⟨by omega, fun e => by cases e⟩
  · rw [if_neg (by omega), if_neg (by omega), if_neg (by omega), if_neg (by omega), if_neg (by omega), if_neg (by omega), if_neg (by omega)]
    exact rowX_ge _ hK _ hm
/-- A greater number. -/
theorem more_n {X : List Ex} {t : Ty} {n : Int} (hk : t.k = 4 ∨ t.k = 5) (hn : t.n ≤ n) : (ext1 X t).m ≤ (ext1 X ⟨t.k, n, t.e, t.ps⟩).m ∧ (ext1 X t).l ≤ (ext1 X ⟨t.k, n, t.e, t.ps⟩).l ∧ ((ext1 X ⟨t.k, n, t.e, t.ps⟩).f = true → (ext1 X t).f = true) := by
  unfold ext1
  simp only
  rcases hk with hk | hk
  · simp only [hk]
    exact ⟨times2_mono hn (Int.le_refl _), times2_mono hn (Int.le_refl _), fun h => h⟩
  · simp only [hk]
    exact ⟨times2_mono hn (Int.le_refl _), Int.le_refl _, fun h => by cases h⟩
theorem ext1_8 {t : Ty} (X : List Ex) (hk : t.k = 8) : ext1 X t = ⟨(rowX (kidL X t.k t.e t.ps)).1, (rowX (kidL X t.k t.e t.ps)).2.1, (rowX (kidL X t.k t.e t.ps)).2.2, 1 + deepX (kidL X t.k t.e t.ps)⟩ := by
  unfold ext1
  rw [if_neg (by omega), if_neg (by omega), if_neg (by omega), if_neg (by omega), if_neg (by omega), if_neg (by omega), if_neg (by omega)]
/-- A field more. -/
theorem more_p {X : List Ex} {t : Ty} {p : Pt} (h : ∀ x ∈ X, XOk x) (hk : t.k = 8) : (ext1 X t).m ≤ (ext1 X ⟨t.k, t.n, t.e, t.ps ++ [p]⟩).m ∧ (ext1 X t).l ≤ (ext1 X ⟨t.k, t.n, t.e, t.ps ++ [p]⟩).l ∧ ((ext1 X ⟨t.k, t.n, t.e, t.ps ++ [p]⟩).f = true → (ext1 X t).f = true) := by
  have e : kidL X t.k t.e (t.ps ++ [p]) = kidL X t.k t.e t.ps ++ [exAt X p.ty] := by unfold kidL; rw [List.map_append, ← List.append_assoc]; rfl
  have hr := rowX_ok _ (kidL_ok h t.k t.e t.ps)
  rw [ext1_8 (t := ⟨t.k, t.n, t.e, t.ps ++ [p]⟩) X hk, ext1_8 X hk]
  simp only
  rw [e, rowX_snoc]
  simp only
  refine ⟨plus2_l _ (Int.le_trans hr.1 hr.2.1) hr.2.2.1, plus2_l _ hr.1 (Int.le_trans hr.2.1 hr.2.2.1), fun hf => ?_⟩
  simp only [Bool.and_eq_true] at hf
  exact hf.1
theorem set_take {α : Type} (T : List α) (k : Nat) (y : α) : (T.set k y).take k = T.take k := by
  apply List.ext_getElem?
  intro j
  rw [List.getElem?_take, List.getElem?_take]
  split
  · rw [List.getElem?_set_ne (by omega)]
  · rfl
theorem set_ext {T : List Ty} {k : Nat} (y : Ty) (h : k < T.length) : exAt (extL (T.set k y)) (k : Int) = ext1 (extL (T.take k)) y := by
  rw [exAt_ext (t := y) (by rw [List.getElem?_set_self h]), set_take]
/-- The cells of an extent in a list of the call's own. -/
theorem XOwn.at4 {w : World} {B g n cap i : Nat} {X : List Ex} (h : XOwn w B (.slice (some ⟨g, 0, none⟩) n cap) X) (hi : i < X.length) : w.cell? ⟨g, i * 4, none⟩ = some (.bool (exAt X (i : Int)).f) ∧ w.cell? ⟨g, i * 4 + 1, none⟩ = some (.int .i64 (exAt X (i : Int)).l) ∧ w.cell? ⟨g, i * 4 + 2, none⟩ = some (.int .i64 (exAt X (i : Int)).m) ∧ w.cell? ⟨g, i * 4 + 3, none⟩ = some (.int .i64 (exAt X (i : Int)).d) := by
  obtain ⟨a, c, e, -, -, hr⟩ := h.row
  injection e with e1 _ _
  subst e1
  obtain ⟨b, off, e2, -, hc⟩ := hr.open (by omega)
  injection e2 with e2
  injection e2 with e3 e4 _
  subst e3 e4
  have hx := exAt_at hi
  have h0 := hc i _ hx 0 (by decide); have h1 := hc i _ hx 1 (by decide); have h2 := hc i _ hx 2 (by decide); have h3 := hc i _ hx 3 (by decide)
  simp only [Nat.zero_add, Nat.add_zero] at h0 h1 h2 h3
  exact ⟨h0, h1, h2, h3⟩
end Go.Proofs.Ytdpkmkhflgmioaa

/- The document's extents: part, leaf; one, by kinds: no parts, a vector, a list, an option. -/
namespace Go.Proofs.Ytdpkmkhflgmioaa
open Go.RowKit
set_option linter.unusedVariables false

set_option maxRecDepth 100000 in
set_option maxHeartbeats 4000000 in
theorem part_any (x : Ex) (w : World) : Calls Try.prog 72 #[.agg #[.bool x.f, .int .i64 x.l, .int .i64 x.m, .int .i64 x.d]] w fun e w' => e = .returned (.tuple #[.int .i64 (offX x).l, .int .i64 (offX x).m]) ∧ Below w.heap.size w w' := by
  obtain ⟨xf, xl, xm, xd⟩ := x
  obtain ⟨w0, hw0⟩ : ∃ wx, wx = w.alloc (.cells #[.bool xf, .int .i64 xl, .int .i64 xm, .int .i64 xd] 48) := ⟨_, rfl⟩
  have k0 : Blk w0 w.heap.size 48 [.bool xf, .int .i64 xl, .int .i64 xm, .int .i64 xd] := by rw [hw0]; exact Blk.newA w _ _
  have b0 : Below w.heap.size w w0 := by rw [hw0]; exact below1 _ _
  have K0 := hide_ k0
  have HB0 := hide_ b0
  have i0 := k0.cell 0; have i1 := k0.cell 1; have i2 := k0.cell 2
  simp at i0 i1 i2
  clear k0 b0
  cases xf with
  | true =>
    simp only [offX, if_true]
    go_enter Try.func72, Try.ntmps72
    go_upto_region 1 with fail
    rw [← hw0]
    clear hw0
    go_wp2_with fail
    go_region
    all_goals
      have HBd := hide_ (HB0.out.drew)
      go_wp2
      go_ret2
      exact ⟨rfl, HBd.out⟩
  | false =>
    have e1 : offX ⟨false, xl, xm, xd⟩ = ⟨false, plus2 4 xl, plus2 4 xm, xd⟩ := rfl
    rw [e1]
    simp only
    have HC1 : Hid (∀ w', Calls Try.prog 74 #[.int .i64 4, .int .i64 xl] w' fun e w'' => e = .returned (.int .i64 (plus2 4 xl)) ∧ Below w'.heap.size w' w'') := hide_ (fun w' => rplus_any 4 xl w')
    have HC2 : Hid (∀ w', Calls Try.prog 74 #[.int .i64 4, .int .i64 xm] w' fun e w'' => e = .returned (.int .i64 (plus2 4 xm)) ∧ Below w'.heap.size w' w'') := hide_ (fun w' => rplus_any 4 xm w')
    generalize plus2 4 xl = p1 at *
    generalize plus2 4 xm = p2 at *
    have HSS : Hid (∀ w', Below w0.heap.size w0 w' → Below w0.heap.size w0 w' ∧ w'.cell? ⟨w.heap.size, 1, none⟩ = some (.int .i64 xl) ∧ w'.cell? ⟨w.heap.size, 2, none⟩ = some (.int .i64 xm)) := hide_ (fun w' hB => ⟨hB, (K0.out.later hB).cell 1, (K0.out.later hB).cell 2⟩)
    clear e1
    go_enter Try.func72, Try.ntmps72
    go_upto_region 1 with fail
    rw [← hw0]
    clear hw0
    go_wp2_with fail
    go_region_held_law (fun w' => Below w0.heap.size w0 w' ∧ w'.cell? ⟨w.heap.size, 1, none⟩ = some (.int .i64 xl) ∧ w'.cell? ⟨w.heap.size, 2, none⟩ = some (.int .i64 xm)) (first | assumption | exact HSS.out _ ((Below.refl _ _).drew) | exact HSS.out _ (Below.refl _ _))
      (first
        | (go_at_call_of 74 (Value.int .i64 xl); refine (HC1.out _).mono ?_; rintro e w2 ⟨rfl, hB2⟩; (have G2 := HSS.out w2 (below_to (by first | assumption | exact And.left (by assumption)) hB2)); (clear hB2))
        | (go_at_call 74; refine (HC1.out _).mono ?_; rintro e w2 ⟨rfl, hB2⟩; (have G2 := HSS.out w2 (below_to (by first | assumption | exact And.left (by assumption)) hB2)); (clear hB2))
        | (go_at_call 74; refine (HC2.out _).mono ?_; rintro e w3 ⟨rfl, hB3⟩; (have G3 := HSS.out w3 (below_to (by first | assumption | exact And.left (by assumption)) hB3)); (clear hB3)))
    all_goals
      go_wp2
      go_ret2
      exact ⟨rfl, below_to HB0.out (by first | exact G3.1 | exact G2.1)⟩
end Go.Proofs.Ytdpkmkhflgmioaa

/- The document's extents: leaf; one, by kinds: no parts, a vector, a list, an option. -/
namespace Go.Proofs.Ytdpkmkhflgmioaa
open Go.RowKit
set_option linter.unusedVariables false

def leafX (k n : Int) : Ex := if k = 1 then ⟨true, n, n, 1⟩ else if k = 2 then ⟨true, 1, 1, 1⟩ else ⟨false, 1, 10, 1⟩
set_option maxRecDepth 100000 in
set_option maxHeartbeats 4000000 in
theorem leaf1_any (n el : Int) (ps : List Pt) (va : Option Addr) (vc : Nat) (w : World) : Calls Try.prog 75 #[.agg #[.int .i64 1, .int .i64 n, .int .i64 el, .slice va ps.length vc]] w fun e w' => e = .returned (exv ⟨true, n, n, 1⟩) ∧ Below w.heap.size w w' := by
  have hB := below2 w (.cells #[.int .i64 1, .int .i64 n, .int .i64 el, .slice va ps.length vc] 62) (.cells #[.bool false, .int .i64 0, .int .i64 0, .int .i64 0] 48)
  obtain ⟨k1, k2⟩ := blk2 w #[.int .i64 1, .int .i64 n, .int .i64 el, .slice va ps.length vc] #[.bool false, .int .i64 0, .int .i64 0, .int .i64 0] 62 48
  obtain ⟨w0, hw0⟩ : ∃ wx, wx = (w.alloc (.cells #[.int .i64 1, .int .i64 n, .int .i64 el, .slice va ps.length vc] 62)).alloc (.cells #[.bool false, .int .i64 0, .int .i64 0, .int .i64 0] 48) := ⟨_, rfl⟩
  rw [← hw0] at hB k1 k2
  have K1 := hide_ k1
  have K2 := hide_ k2
  have HB := hide_ hB
  have i0 := k1.cell 0; have i1 := k1.cell 1; have i2 := k1.cell 2; have i3 := k1.cell 3
  have j0 := k2.cell 0; have j1 := k2.cell 1; have j2 := k2.cell 2; have j3 := k2.cell 3
  have jf := fun i => k2.frozen i
  simp at i0 i1 i2 i3 j0 j1 j2 j3
  have HK := hide_ (wr4 k2 (.bool true) (.int .i64 n) (.int .i64 n) (.int .i64 1))
  have HBf := hide_ (below_wr4 hB (w.heap.size + 1) (by omega) (.bool true) (.int .i64 n) (.int .i64 n) (.int .i64 1))
  clear hB k1 k2
  go_enter Try.func75, Try.ntmps75
  go_upto_region 1 with fail
  rw [← hw0]
  clear hw0
  go_wp2
  exact retX (x := ⟨true, n, n, 1⟩) rfl rfl HK.out ⟨rfl, HBf.out⟩
set_option maxRecDepth 100000 in
set_option maxHeartbeats 4000000 in
theorem leaf2_any (n el : Int) (ps : List Pt) (va : Option Addr) (vc : Nat) (w : World) : Calls Try.prog 75 #[.agg #[.int .i64 2, .int .i64 n, .int .i64 el, .slice va ps.length vc]] w fun e w' => e = .returned (exv ⟨true, 1, 1, 1⟩) ∧ Below w.heap.size w w' := by
  have hB := below2 w (.cells #[.int .i64 2, .int .i64 n, .int .i64 el, .slice va ps.length vc] 62) (.cells #[.bool false, .int .i64 0, .int .i64 0, .int .i64 0] 48)
  obtain ⟨k1, k2⟩ := blk2 w #[.int .i64 2, .int .i64 n, .int .i64 el, .slice va ps.length vc] #[.bool false, .int .i64 0, .int .i64 0, .int .i64 0] 62 48
  obtain ⟨w0, hw0⟩ : ∃ wx, wx = (w.alloc (.cells #[.int .i64 2, .int .i64 n, .int .i64 el, .slice va ps.length vc] 62)).alloc (.cells #[.bool false, .int .i64 0, .int .i64 0, .int .i64 0] 48) := ⟨_, rfl⟩
  rw [← hw0] at hB k1 k2
  have K1 := hide_ k1
  have K2 := hide_ k2
  have HB := hide_ hB
  have i0 := k1.cell 0; have i1 := k1.cell 1; have i2 := k1.cell 2; have i3 := k1.cell 3
  have j0 := k2.cell 0; have j1 := k2.cell 1; have j2 := k2.cell 2; have j3 := k2.cell 3
  have jf := fun i => k2.frozen i
  simp at i0 i1 i2 i3 j0 j1 j2 j3
  have HK := hide_ (wr4 k2 (.bool true) (.int .i64 1) (.int .i64 1) (.int .i64 1))
  have HBf := hide_ (below_wr4 hB (w.heap.size + 1) (by omega) (.bool true) (.int .i64 1) (.int .i64 1) (.int .i64 1))
  clear hB k1 k2
  go_enter Try.func75, Try.ntmps75
  go_upto_region 1 with fail
  rw [← hw0]
  clear hw0
  go_wp2
  exact retX (x := ⟨true, 1, 1, 1⟩) rfl rfl HK.out ⟨rfl, HBf.out⟩
set_option maxRecDepth 100000 in
set_option maxHeartbeats 4000000 in
theorem leaf3_any (n el : Int) (ps : List Pt) (va : Option Addr) (vc : Nat) (w : World) : Calls Try.prog 75 #[.agg #[.int .i64 3, .int .i64 n, .int .i64 el, .slice va ps.length vc]] w fun e w' => e = .returned (exv ⟨false, 1, 10, 1⟩) ∧ Below w.heap.size w w' := by
  have hB := below2 w (.cells #[.int .i64 3, .int .i64 n, .int .i64 el, .slice va ps.length vc] 62) (.cells #[.bool false, .int .i64 0, .int .i64 0, .int .i64 0] 48)
  obtain ⟨k1, k2⟩ := blk2 w #[.int .i64 3, .int .i64 n, .int .i64 el, .slice va ps.length vc] #[.bool false, .int .i64 0, .int .i64 0, .int .i64 0] 62 48
  obtain ⟨w0, hw0⟩ : ∃ wx, wx = (w.alloc (.cells #[.int .i64 3, .int .i64 n, .int .i64 el, .slice va ps.length vc] 62)).alloc (.cells #[.bool false, .int .i64 0, .int .i64 0, .int .i64 0] 48) := ⟨_, rfl⟩
  rw [← hw0] at hB k1 k2
  have K1 := hide_ k1
  have K2 := hide_ k2
  have HB := hide_ hB
  have i0 := k1.cell 0; have i1 := k1.cell 1; have i2 := k1.cell 2; have i3 := k1.cell 3
  have j0 := k2.cell 0; have j1 := k2.cell 1; have j2 := k2.cell 2; have j3 := k2.cell 3
  have jf := fun i => k2.frozen i
  simp at i0 i1 i2 i3 j0 j1 j2 j3
  have HK := hide_ (wr4 k2 (.bool false) (.int .i64 1) (.int .i64 10) (.int .i64 1))
  have HBf := hide_ (below_wr4 hB (w.heap.size + 1) (by omega) (.bool false) (.int .i64 1) (.int .i64 10) (.int .i64 1))
  clear hB k1 k2
  go_enter Try.func75, Try.ntmps75
  go_upto_region 1 with fail
  rw [← hw0]
  clear hw0
  go_wp2
  exact retX (x := ⟨false, 1, 10, 1⟩) rfl rfl HK.out ⟨rfl, HBf.out⟩
set_option maxRecDepth 100000 in
set_option maxHeartbeats 4000000 in
theorem one1_any (n el : Int) (ps : List Pt) (va : Option Addr) (vc : Nat) (vX : Value) (w : World) : Calls Try.prog 52 #[.agg #[.int .i64 1, .int .i64 n, .int .i64 el, .slice va ps.length vc], vX] w fun e w' => e = .returned (exv ⟨true, n, n, 1⟩) ∧ Below w.heap.size w w' := by
  have hB := below2 w (.cells #[.int .i64 1, .int .i64 n, .int .i64 el, .slice va ps.length vc] 62) (.cells #[.bool false, .int .i64 0, .int .i64 0, .int .i64 0] 48)
  obtain ⟨k1, k2⟩ := blk2 w #[.int .i64 1, .int .i64 n, .int .i64 el, .slice va ps.length vc] #[.bool false, .int .i64 0, .int .i64 0, .int .i64 0] 62 48
  obtain ⟨w0, hw0⟩ : ∃ wx, wx = (w.alloc (.cells #[.int .i64 1, .int .i64 n, .int .i64 el, .slice va ps.length vc] 62)).alloc (.cells #[.bool false, .int .i64 0, .int .i64 0, .int .i64 0] 48) := ⟨_, rfl⟩
  rw [← hw0] at hB k1 k2
  have K1 := hide_ k1
  have K2 := hide_ k2
  have HB := hide_ hB
  have i0 := k1.cell 0; have i1 := k1.cell 1; have i2 := k1.cell 2; have i3 := k1.cell 3
  have j0 := k2.cell 0; have j1 := k2.cell 1; have j2 := k2.cell 2; have j3 := k2.cell 3
  have jf := fun i => k2.frozen i
  simp at i0 i1 i2 i3 j0 j1 j2 j3
  have HL := hide_ (leaf1_any n el ps va vc w0)
  clear hB k1 k2
  go_enter Try.func52, Try.ntmps52
  go_upto_region 1 with fail
  rw [← hw0]
  clear hw0
  go_wp2_with fail
  refine HL.out.mono ?_; rintro e w1 ⟨rfl, hB1⟩
  have k3 := K2.out.later hB1
  have HK := hide_ (wr4 k3 (.bool true) (.int .i64 n) (.int .i64 n) (.int .i64 1))
  have HBf := hide_ (below_wr4 (below_to HB.out hB1) (w.heap.size + 1) (by omega) (.bool true) (.int .i64 n) (.int .i64 n) (.int .i64 1))
  clear j0 j1 j2 j3 jf i0 i1 i2 i3
  have j0 := k3.cell 0; have j1 := k3.cell 1; have j2 := k3.cell 2; have j3 := k3.cell 3
  have jf := fun i => k3.frozen i
  simp at j0 j1 j2 j3
  clear k3 hB1 HL
  simp only [exv]
  go_wp2
  exact retX (x := ⟨true, n, n, 1⟩) rfl rfl HK.out ⟨rfl, HBf.out⟩
set_option maxRecDepth 100000 in
set_option maxHeartbeats 4000000 in
theorem one2_any (n el : Int) (ps : List Pt) (va : Option Addr) (vc : Nat) (vX : Value) (w : World) : Calls Try.prog 52 #[.agg #[.int .i64 2, .int .i64 n, .int .i64 el, .slice va ps.length vc], vX] w fun e w' => e = .returned (exv ⟨true, 1, 1, 1⟩) ∧ Below w.heap.size w w' := by
  have hB := below2 w (.cells #[.int .i64 2, .int .i64 n, .int .i64 el, .slice va ps.length vc] 62) (.cells #[.bool false, .int .i64 0, .int .i64 0, .int .i64 0] 48)
  obtain ⟨k1, k2⟩ := blk2 w #[.int .i64 2, .int .i64 n, .int .i64 el, .slice va ps.length vc] #[.bool false, .int .i64 0, .int .i64 0, .int .i64 0] 62 48
  obtain ⟨w0, hw0⟩ : ∃ wx, wx = (w.alloc (.cells #[.int .i64 2, .int .i64 n, .int .i64 el, .slice va ps.length vc] 62)).alloc (.cells #[.bool false, .int .i64 0, .int .i64 0, .int .i64 0] 48) := ⟨_, rfl⟩
  rw [← hw0] at hB k1 k2
  have K1 := hide_ k1
  have K2 := hide_ k2
  have HB := hide_ hB
  have i0 := k1.cell 0; have i1 := k1.cell 1; have i2 := k1.cell 2; have i3 := k1.cell 3
  have j0 := k2.cell 0; have j1 := k2.cell 1; have j2 := k2.cell 2; have j3 := k2.cell 3
  have jf := fun i => k2.frozen i
  simp at i0 i1 i2 i3 j0 j1 j2 j3
  have HL := hide_ (leaf2_any n el ps va vc w0)
  clear hB k1 k2
  go_enter Try.func52, Try.ntmps52
  go_upto_region 1 with fail
  rw [← hw0]
  clear hw0
  go_wp2_with fail
  refine HL.out.mono ?_; rintro e w1 ⟨rfl, hB1⟩
  have k3 := K2.out.later hB1
  have HK := hide_ (wr4 k3 (.bool true) (.int .i64 1) (.int .i64 1) (.int .i64 1))
  have HBf := hide_ (below_wr4 (below_to HB.out hB1) (w.heap.size + 1) (by omega) (.bool true) (.int .i64 1) (.int .i64 1) (.int .i64 1))
  clear j0 j1 j2 j3 jf i0 i1 i2 i3
  have j0 := k3.cell 0; have j1 := k3.cell 1; have j2 := k3.cell 2; have j3 := k3.cell 3
  have jf := fun i => k3.frozen i
  simp at j0 j1 j2 j3
  clear k3 hB1 HL
  simp only [exv]
  go_wp2
  exact retX (x := ⟨true, 1, 1, 1⟩) rfl rfl HK.out ⟨rfl, HBf.out⟩
set_option maxRecDepth 100000 in
set_option maxHeartbeats 4000000 in
theorem one3_any (n el : Int) (ps : List Pt) (va : Option Addr) (vc : Nat) (vX : Value) (w : World) : Calls Try.prog 52 #[.agg #[.int .i64 3, .int .i64 n, .int .i64 el, .slice va ps.length vc], vX] w fun e w' => e = .returned (exv ⟨false, 1, 10, 1⟩) ∧ Below w.heap.size w w' := by
  have hB := below2 w (.cells #[.int .i64 3, .int .i64 n, .int .i64 el, .slice va ps.length vc] 62) (.cells #[.bool false, .int .i64 0, .int .i64 0, .int .i64 0] 48)
  obtain ⟨k1, k2⟩ := blk2 w #[.int .i64 3, .int .i64 n, .int .i64 el, .slice va ps.length vc] #[.bool false, .int .i64 0, .int .i64 0, .int .i64 0] 62 48
  obtain ⟨w0, hw0⟩ : ∃ wx, wx = (w.alloc (.cells #[.int .i64 3, .int .i64 n, .int .i64 el, .slice va ps.length vc] 62)).alloc (.cells #[.bool false, .int .i64 0, .int .i64 0, .int .i64 0] 48) := ⟨_, rfl⟩
  rw [← hw0] at hB k1 k2
  have K1 := hide_ k1
  have K2 := hide_ k2
  have HB := hide_ hB
  have i0 := k1.cell 0; have i1 := k1.cell 1; have i2 := k1.cell 2; have i3 := k1.cell 3
  have j0 := k2.cell 0; have j1 := k2.cell 1; have j2 := k2.cell 2; have j3 := k2.cell 3
  have jf := fun i => k2.frozen i
  simp at i0 i1 i2 i3 j0 j1 j2 j3
  have HL := hide_ (leaf3_any n el ps va vc w0)
  clear hB k1 k2
  go_enter Try.func52, Try.ntmps52
  go_upto_region 1 with fail
  rw [← hw0]
  clear hw0
  go_wp2_with fail
  refine HL.out.mono ?_; rintro e w1 ⟨rfl, hB1⟩
  have k3 := K2.out.later hB1
  have HK := hide_ (wr4 k3 (.bool false) (.int .i64 1) (.int .i64 10) (.int .i64 1))
  have HBf := hide_ (below_wr4 (below_to HB.out hB1) (w.heap.size + 1) (by omega) (.bool false) (.int .i64 1) (.int .i64 10) (.int .i64 1))
  clear j0 j1 j2 j3 jf i0 i1 i2 i3
  have j0 := k3.cell 0; have j1 := k3.cell 1; have j2 := k3.cell 2; have j3 := k3.cell 3
  have jf := fun i => k3.frozen i
  simp at j0 j1 j2 j3
  clear k3 hB1 HL
  simp only [exv]
  go_wp2
  exact retX (x := ⟨false, 1, 10, 1⟩) rfl rfl HK.out ⟨rfl, HBf.out⟩
set_option maxRecDepth 100000 in
set_option maxHeartbeats 8000000 in
theorem one4_any (n el : Int) (ps : List Pt) (va : Option Addr) (vc : Nat) (X : List Ex) (ax : Option Addr) (cx : Nat) (w : World) (hXl : X.length ≤ 10000000000000) (hbd : Hid (∀ x ∈ X, 0 ≤ x.d ∧ x.d ≤ 1000000)) (hel : 0 ≤ el ∧ el < X.length) (hX : Hid (XRow w ax X)) : Calls Try.prog 52 #[.agg #[.int .i64 4, .int .i64 n, .int .i64 el, .slice va ps.length vc], .slice ax X.length cx] w fun e w' => e = .returned (exv ⟨(exAt X el).f, times2 n (offX (exAt X el)).l, times2 n (offX (exAt X el)).m, 1 + (exAt X el).d⟩) ∧ Below w.heap.size w w' := by
  have hB := below2 w (.cells #[.int .i64 4, .int .i64 n, .int .i64 el, .slice va ps.length vc] 62) (.cells #[.bool false, .int .i64 0, .int .i64 0, .int .i64 0] 48)
  obtain ⟨k1, k2⟩ := blk2 w #[.int .i64 4, .int .i64 n, .int .i64 el, .slice va ps.length vc] #[.bool false, .int .i64 0, .int .i64 0, .int .i64 0] 62 48
  obtain ⟨w0, hw0⟩ : ∃ wx, wx = (w.alloc (.cells #[.int .i64 4, .int .i64 n, .int .i64 el, .slice va ps.length vc] 62)).alloc (.cells #[.bool false, .int .i64 0, .int .i64 0, .int .i64 0] 48) := ⟨_, rfl⟩
  rw [← hw0] at hB k1 k2
  have K1 := hide_ k1
  have K2 := hide_ k2
  have HB := hide_ hB
  have i0 := k1.cell 0; have i1 := k1.cell 1; have i2 := k1.cell 2; have i3 := k1.cell 3
  have j0 := k2.cell 0; have j1 := k2.cell 1; have j2 := k2.cell 2; have j3 := k2.cell 3
  have jf := fun i => k2.frozen i
  simp at i0 i1 i2 i3 j0 j1 j2 j3
  obtain ⟨m, rfl⟩ := Int.eq_ofNat_of_zero_le hel.1
  have hmx : m < X.length := by omega
  have hmx' : (m : Int) < X.length := hel.2
  obtain ⟨bx, ox, rfl, hbx, hcx⟩ := hX.out.open (by omega)
  have hxe := exAt_at hmx
  obtain ⟨hd0, hd1⟩ := hbd.out _ (List.mem_of_getElem? hxe)
  have hcy := hcx m _ hxe
  have HPt : Hid (∀ w', Calls Try.prog 72 #[.agg #[.bool (exAt X m).f, .int .i64 (exAt X m).l, .int .i64 (exAt X m).m, .int .i64 (exAt X m).d]] w' fun e w'' => e = .returned (.tuple #[.int .i64 (offX (exAt X m)).l, .int .i64 (offX (exAt X m)).m]) ∧ Below w'.heap.size w' w'') := hide_ (fun w' => part_any _ w')
  generalize (offX (exAt X m)).l = pl at *
  generalize (offX (exAt X m)).m = pm at *
  generalize exAt X m = xx at *
  obtain ⟨xf, xl, xm, xd⟩ := xx
  have HXc : Hid (∀ j, j < 4 → ∀ w', Below w0.heap.size w0 w' → w'.cell? ⟨bx, ox + m * 4 + j, none⟩ = (exc ⟨xf, xl, xm, xd⟩)[j]?) := hide_ (fun j hj w' hB' => ((below_to HB.out hB').cell (p := ⟨bx, ox + m * 4 + j, none⟩) hbx).trans (hcy j hj))
  have x0 := HXc.out 0 (by decide) w0 (Below.refl _ _); have x1 := HXc.out 1 (by decide) w0 (Below.refl _ _); have x2 := HXc.out 2 (by decide) w0 (Below.refl _ _); have x3 := HXc.out 3 (by decide) w0 (Below.refl _ _)
  simp [exc] at x0 x1 x2 x3
  simp only at hd0 hd1 HPt
  have hw1 : wrap64 (1 + xd) = 1 + xd := w64 _ (by omega)
  have hw2 : IntKind.i64.wrap (1 + xd) = 1 + xd := by rw [IntKind.wrap_i64]; omega
  have HCt : Hid (∀ (a b : Int) (w' : World), Calls Try.prog 73 #[.int .i64 a, .int .i64 b] w' fun e w'' => e = .returned (.int .i64 (times2 a b)) ∧ w' = w'') := hide_ (fun a b w' => rtimes_any a b w')
  have HCp : Hid (∀ (a b : Int) (w' : World), Calls Try.prog 74 #[.int .i64 a, .int .i64 b] w' fun e w'' => e = .returned (.int .i64 (plus2 a b)) ∧ Below w'.heap.size w' w'') := hide_ (fun a b w' => rplus_any a b w')
  clear hB k1 k2 hcx hxe hcy hX hbd
  go_enter Try.func52, Try.ntmps52
  go_upto_region 1 with fail
  rw [← hw0]
  clear hw0
  go_wp2_with (go_at_call 72; refine (HPt.out _).mono ?_; rintro e w1 ⟨rfl, hB1⟩)
  have HB1 := hide_ hB1
  have k3 := K2.out.later hB1
  have k4 := K1.out.later hB1
  have K3 := hide_ k3
  have K4 := hide_ k4
  clear i0 i1 i2 i3 j0 j1 j2 j3 jf x0 x1 x2 x3
  have j0 := k3.cell 0; have j1 := k3.cell 1; have j2 := k3.cell 2; have j3 := k3.cell 3
  have jf := fun i => k3.frozen i
  simp at j0 j1 j2 j3
  clear k3 k4 hB1 HPt
  have HBw := hide_ (below_to HB.out HB1.out)
  have HSS : Hid (∀ w', Below (w.heap.size + 1) w1 w' → Below (w.heap.size + 1) w1 w' ∧ w'.cell? ⟨w.heap.size, 1, none⟩ = some (.int .i64 n) ∧ w'.cell? ⟨w.heap.size, 2, none⟩ = some (.int .i64 m) ∧ w'.cell? ⟨bx, ox + m * 4, none⟩ = some (.bool xf) ∧ w'.cell? ⟨bx, ox + m * 4 + 2, none⟩ = some (.int .i64 xm) ∧ w'.cell? ⟨bx, ox + m * 4 + 3, none⟩ = some (.int .i64 xd)) := hide_ (fun w' hB' => ⟨hB', (K4.out.below hB' (by omega)).cell 1, (K4.out.below hB' (by omega)).cell 2, (hB'.cell (p := ⟨bx, ox + m * 4 + 0, none⟩) (by show bx < _; omega)).trans (HXc.out 0 (by decide) w1 HB1.out), (hB'.cell (p := ⟨bx, ox + m * 4 + 2, none⟩) (by show bx < _; omega)).trans (HXc.out 2 (by decide) w1 HB1.out), (hB'.cell (p := ⟨bx, ox + m * 4 + 3, none⟩) (by show bx < _; omega)).trans (HXc.out 3 (by decide) w1 HB1.out)⟩)
  go_region_held_law (fun w' => Below (w.heap.size + 1) w1 w' ∧ w'.cell? ⟨w.heap.size, 1, none⟩ = some (.int .i64 n) ∧ w'.cell? ⟨w.heap.size, 2, none⟩ = some (.int .i64 m) ∧ w'.cell? ⟨bx, ox + m * 4, none⟩ = some (.bool xf) ∧ w'.cell? ⟨bx, ox + m * 4 + 2, none⟩ = some (.int .i64 xm) ∧ w'.cell? ⟨bx, ox + m * 4 + 3, none⟩ = some (.int .i64 xd)) (first | assumption | exact HSS.out _ ((Below.refl _ _).drew) | exact HSS.out _ (Below.refl _ _) | exact HSS.out _ (below_wr4 ((Below.refl _ _).drew) _ (by omega) _ _ _ _) | exact HSS.out _ (below_wr4 (And.left (by assumption)) _ (by omega) _ _ _ _))
    ((go_at_call 73; refine (HCt.out _ _ _).mono ?_; rintro e w' ⟨rfl, rfl⟩))
  have HK := hide_ ((wr4 K3.out (.bool xf) (.int .i64 (times2 n pl)) (.int .i64 (times2 n pm)) (.int .i64 (1 + xd))).drew)
  have HBf := hide_ ((below_wr4 HBw.out (w.heap.size + 1) (by omega) (.bool xf) (.int .i64 (times2 n pl)) (.int .i64 (times2 n pm)) (.int .i64 (1 + xd))).drew)
  go_wp2
  exact retX (x := ⟨xf, times2 n pl, times2 n pm, 1 + xd⟩) rfl rfl HK.out ⟨rfl, HBf.out⟩
set_option maxRecDepth 100000 in
set_option maxHeartbeats 8000000 in
theorem one5_any (n el : Int) (ps : List Pt) (va : Option Addr) (vc : Nat) (X : List Ex) (ax : Option Addr) (cx : Nat) (w : World) (hXl : X.length ≤ 10000000000000) (hbd : Hid (∀ x ∈ X, 0 ≤ x.d ∧ x.d ≤ 1000000)) (hel : 0 ≤ el ∧ el < X.length) (hX : Hid (XRow w ax X)) : Calls Try.prog 52 #[.agg #[.int .i64 5, .int .i64 n, .int .i64 el, .slice va ps.length vc], .slice ax X.length cx] w fun e w' => e = .returned (exv ⟨false, 0, times2 n (offX (exAt X el)).m, 1 + (exAt X el).d⟩) ∧ Below w.heap.size w w' := by
  have hB := below2 w (.cells #[.int .i64 5, .int .i64 n, .int .i64 el, .slice va ps.length vc] 62) (.cells #[.bool false, .int .i64 0, .int .i64 0, .int .i64 0] 48)
  obtain ⟨k1, k2⟩ := blk2 w #[.int .i64 5, .int .i64 n, .int .i64 el, .slice va ps.length vc] #[.bool false, .int .i64 0, .int .i64 0, .int .i64 0] 62 48
  obtain ⟨w0, hw0⟩ : ∃ wx, wx = (w.alloc (.cells #[.int .i64 5, .int .i64 n, .int .i64 el, .slice va ps.length vc] 62)).alloc (.cells #[.bool false, .int .i64 0, .int .i64 0, .int .i64 0] 48) := ⟨_, rfl⟩
  rw [← hw0] at hB k1 k2
  have K1 := hide_ k1
  have K2 := hide_ k2
  have HB := hide_ hB
  have i0 := k1.cell 0; have i1 := k1.cell 1; have i2 := k1.cell 2; have i3 := k1.cell 3
  have j0 := k2.cell 0; have j1 := k2.cell 1; have j2 := k2.cell 2; have j3 := k2.cell 3
  have jf := fun i => k2.frozen i
  simp at i0 i1 i2 i3 j0 j1 j2 j3
  obtain ⟨m, rfl⟩ := Int.eq_ofNat_of_zero_le hel.1
  have hmx : m < X.length := by omega
  have hmx' : (m : Int) < X.length := hel.2
  obtain ⟨bx, ox, rfl, hbx, hcx⟩ := hX.out.open (by omega)
  have hxe := exAt_at hmx
  obtain ⟨hd0, hd1⟩ := hbd.out _ (List.mem_of_getElem? hxe)
  have hcy := hcx m _ hxe
  have HPt : Hid (∀ w', Calls Try.prog 72 #[.agg #[.bool (exAt X m).f, .int .i64 (exAt X m).l, .int .i64 (exAt X m).m, .int .i64 (exAt X m).d]] w' fun e w'' => e = .returned (.tuple #[.int .i64 (offX (exAt X m)).l, .int .i64 (offX (exAt X m)).m]) ∧ Below w'.heap.size w' w'') := hide_ (fun w' => part_any _ w')
  generalize (offX (exAt X m)).l = pl at *
  generalize (offX (exAt X m)).m = pm at *
  generalize exAt X m = xx at *
  obtain ⟨xf, xl, xm, xd⟩ := xx
  have HXc : Hid (∀ j, j < 4 → ∀ w', Below w0.heap.size w0 w' → w'.cell? ⟨bx, ox + m * 4 + j, none⟩ = (exc ⟨xf, xl, xm, xd⟩)[j]?) := hide_ (fun j hj w' hB' => ((below_to HB.out hB').cell (p := ⟨bx, ox + m * 4 + j, none⟩) hbx).trans (hcy j hj))
  have x0 := HXc.out 0 (by decide) w0 (Below.refl _ _); have x1 := HXc.out 1 (by decide) w0 (Below.refl _ _); have x2 := HXc.out 2 (by decide) w0 (Below.refl _ _); have x3 := HXc.out 3 (by decide) w0 (Below.refl _ _)
  simp [exc] at x0 x1 x2 x3
  simp only at hd0 hd1 HPt
  have hw1 : wrap64 (1 + xd) = 1 + xd := w64 _ (by omega)
  have hw2 : IntKind.i64.wrap (1 + xd) = 1 + xd := by rw [IntKind.wrap_i64]; omega
  have HCt : Hid (∀ (a b : Int) (w' : World), Calls Try.prog 73 #[.int .i64 a, .int .i64 b] w' fun e w'' => e = .returned (.int .i64 (times2 a b)) ∧ w' = w'') := hide_ (fun a b w' => rtimes_any a b w')
  have HCp : Hid (∀ (a b : Int) (w' : World), Calls Try.prog 74 #[.int .i64 a, .int .i64 b] w' fun e w'' => e = .returned (.int .i64 (plus2 a b)) ∧ Below w'.heap.size w' w'') := hide_ (fun a b w' => rplus_any a b w')
  clear hB k1 k2 hcx hxe hcy hX hbd
  go_enter Try.func52, Try.ntmps52
  go_upto_region 1 with fail
  rw [← hw0]
  clear hw0
  go_wp2_with (go_at_call 72; refine (HPt.out _).mono ?_; rintro e w1 ⟨rfl, hB1⟩)
  have HB1 := hide_ hB1
  have k3 := K2.out.later hB1
  have k4 := K1.out.later hB1
  have K3 := hide_ k3
  have K4 := hide_ k4
  clear i0 i1 i2 i3 j0 j1 j2 j3 jf x0 x1 x2 x3
  have j0 := k3.cell 0; have j1 := k3.cell 1; have j2 := k3.cell 2; have j3 := k3.cell 3
  have jf := fun i => k3.frozen i
  simp at j0 j1 j2 j3
  clear k3 k4 hB1 HPt
  have HBw := hide_ (below_to HB.out HB1.out)
  have HSS : Hid (∀ w', Below (w.heap.size + 1) w1 w' → Below (w.heap.size + 1) w1 w' ∧ w'.cell? ⟨w.heap.size, 1, none⟩ = some (.int .i64 n) ∧ w'.cell? ⟨w.heap.size, 2, none⟩ = some (.int .i64 m) ∧ w'.cell? ⟨bx, ox + m * 4, none⟩ = some (.bool xf) ∧ w'.cell? ⟨bx, ox + m * 4 + 2, none⟩ = some (.int .i64 xm) ∧ w'.cell? ⟨bx, ox + m * 4 + 3, none⟩ = some (.int .i64 xd)) := hide_ (fun w' hB' => ⟨hB', (K4.out.below hB' (by omega)).cell 1, (K4.out.below hB' (by omega)).cell 2, (hB'.cell (p := ⟨bx, ox + m * 4 + 0, none⟩) (by show bx < _; omega)).trans (HXc.out 0 (by decide) w1 HB1.out), (hB'.cell (p := ⟨bx, ox + m * 4 + 2, none⟩) (by show bx < _; omega)).trans (HXc.out 2 (by decide) w1 HB1.out), (hB'.cell (p := ⟨bx, ox + m * 4 + 3, none⟩) (by show bx < _; omega)).trans (HXc.out 3 (by decide) w1 HB1.out)⟩)
  go_region_held_law (fun w' => Below (w.heap.size + 1) w1 w' ∧ w'.cell? ⟨w.heap.size, 1, none⟩ = some (.int .i64 n) ∧ w'.cell? ⟨w.heap.size, 2, none⟩ = some (.int .i64 m) ∧ w'.cell? ⟨bx, ox + m * 4, none⟩ = some (.bool xf) ∧ w'.cell? ⟨bx, ox + m * 4 + 2, none⟩ = some (.int .i64 xm) ∧ w'.cell? ⟨bx, ox + m * 4 + 3, none⟩ = some (.int .i64 xd)) (first | assumption | exact HSS.out _ ((Below.refl _ _).drew) | exact HSS.out _ (Below.refl _ _) | exact HSS.out _ (below_wr4 ((Below.refl _ _).drew) _ (by omega) _ _ _ _) | exact HSS.out _ (below_wr4 (And.left (by assumption)) _ (by omega) _ _ _ _))
    ((go_at_call 73; refine (HCt.out _ _ _).mono ?_; rintro e w' ⟨rfl, rfl⟩))
  have HK := hide_ ((wr4 K3.out (.bool false) (.int .i64 0) (.int .i64 (times2 n pm)) (.int .i64 (1 + xd))).drew)
  have HBf := hide_ ((below_wr4 HBw.out (w.heap.size + 1) (by omega) (.bool false) (.int .i64 0) (.int .i64 (times2 n pm)) (.int .i64 (1 + xd))).drew)
  go_wp2
  exact retX (x := ⟨false, 0, times2 n pm, 1 + xd⟩) rfl rfl HK.out ⟨rfl, HBf.out⟩
set_option maxRecDepth 100000 in
set_option maxHeartbeats 8000000 in
theorem one6_any (n el : Int) (ps : List Pt) (va : Option Addr) (vc : Nat) (X : List Ex) (ax : Option Addr) (cx : Nat) (w : World) (hXl : X.length ≤ 10000000000000) (hbd : Hid (∀ x ∈ X, 0 ≤ x.d ∧ x.d ≤ 1000000)) (hel : 0 ≤ el ∧ el < X.length) (hX : Hid (XRow w ax X)) : Calls Try.prog 52 #[.agg #[.int .i64 6, .int .i64 n, .int .i64 el, .slice va ps.length vc], .slice ax X.length cx] w fun e w' => e = .returned (exv ⟨false, 1, plus2 1 (exAt X el).m, 1 + (exAt X el).d⟩) ∧ Below w.heap.size w w' := by
  have hB := below2 w (.cells #[.int .i64 6, .int .i64 n, .int .i64 el, .slice va ps.length vc] 62) (.cells #[.bool false, .int .i64 0, .int .i64 0, .int .i64 0] 48)
  obtain ⟨k1, k2⟩ := blk2 w #[.int .i64 6, .int .i64 n, .int .i64 el, .slice va ps.length vc] #[.bool false, .int .i64 0, .int .i64 0, .int .i64 0] 62 48
  obtain ⟨w0, hw0⟩ : ∃ wx, wx = (w.alloc (.cells #[.int .i64 6, .int .i64 n, .int .i64 el, .slice va ps.length vc] 62)).alloc (.cells #[.bool false, .int .i64 0, .int .i64 0, .int .i64 0] 48) := ⟨_, rfl⟩
  rw [← hw0] at hB k1 k2
  have K1 := hide_ k1
  have K2 := hide_ k2
  have HB := hide_ hB
  have i0 := k1.cell 0; have i1 := k1.cell 1; have i2 := k1.cell 2; have i3 := k1.cell 3
  have j0 := k2.cell 0; have j1 := k2.cell 1; have j2 := k2.cell 2; have j3 := k2.cell 3
  have jf := fun i => k2.frozen i
  simp at i0 i1 i2 i3 j0 j1 j2 j3
  obtain ⟨m, rfl⟩ := Int.eq_ofNat_of_zero_le hel.1
  have hmx : m < X.length := by omega
  have hmx' : (m : Int) < X.length := hel.2
  obtain ⟨bx, ox, rfl, hbx, hcx⟩ := hX.out.open (by omega)
  have hxe := exAt_at hmx
  obtain ⟨hd0, hd1⟩ := hbd.out _ (List.mem_of_getElem? hxe)
  have hcy := hcx m _ hxe
  have HPt : Hid (∀ w', Calls Try.prog 72 #[.agg #[.bool (exAt X m).f, .int .i64 (exAt X m).l, .int .i64 (exAt X m).m, .int .i64 (exAt X m).d]] w' fun e w'' => e = .returned (.tuple #[.int .i64 (offX (exAt X m)).l, .int .i64 (offX (exAt X m)).m]) ∧ Below w'.heap.size w' w'') := hide_ (fun w' => part_any _ w')
  generalize (offX (exAt X m)).l = pl at *
  generalize (offX (exAt X m)).m = pm at *
  generalize exAt X m = xx at *
  obtain ⟨xf, xl, xm, xd⟩ := xx
  have HXc : Hid (∀ j, j < 4 → ∀ w', Below w0.heap.size w0 w' → w'.cell? ⟨bx, ox + m * 4 + j, none⟩ = (exc ⟨xf, xl, xm, xd⟩)[j]?) := hide_ (fun j hj w' hB' => ((below_to HB.out hB').cell (p := ⟨bx, ox + m * 4 + j, none⟩) hbx).trans (hcy j hj))
  have x0 := HXc.out 0 (by decide) w0 (Below.refl _ _); have x1 := HXc.out 1 (by decide) w0 (Below.refl _ _); have x2 := HXc.out 2 (by decide) w0 (Below.refl _ _); have x3 := HXc.out 3 (by decide) w0 (Below.refl _ _)
  simp [exc] at x0 x1 x2 x3
  simp only at hd0 hd1 HPt
  have hw1 : wrap64 (1 + xd) = 1 + xd := w64 _ (by omega)
  have hw2 : IntKind.i64.wrap (1 + xd) = 1 + xd := by rw [IntKind.wrap_i64]; omega
  have HCt : Hid (∀ (a b : Int) (w' : World), Calls Try.prog 73 #[.int .i64 a, .int .i64 b] w' fun e w'' => e = .returned (.int .i64 (times2 a b)) ∧ w' = w'') := hide_ (fun a b w' => rtimes_any a b w')
  have HCp : Hid (∀ (a b : Int) (w' : World), Calls Try.prog 74 #[.int .i64 a, .int .i64 b] w' fun e w'' => e = .returned (.int .i64 (plus2 a b)) ∧ Below w'.heap.size w' w'') := hide_ (fun a b w' => rplus_any a b w')
  clear hB k1 k2 hcx hxe hcy hX hbd
  go_enter Try.func52, Try.ntmps52
  go_upto_region 1 with fail
  rw [← hw0]
  clear hw0
  have HSS : Hid (∀ w', Below (w.heap.size + 1) w0 w' → Below (w.heap.size + 1) w0 w' ∧ w'.cell? ⟨w.heap.size, 1, none⟩ = some (.int .i64 n) ∧ w'.cell? ⟨w.heap.size, 2, none⟩ = some (.int .i64 m) ∧ w'.cell? ⟨bx, ox + m * 4, none⟩ = some (.bool xf) ∧ w'.cell? ⟨bx, ox + m * 4 + 2, none⟩ = some (.int .i64 xm) ∧ w'.cell? ⟨bx, ox + m * 4 + 3, none⟩ = some (.int .i64 xd)) := hide_ (fun w' hB' => ⟨hB', (K1.out.below hB' (by omega)).cell 1, (K1.out.below hB' (by omega)).cell 2, (hB'.cell (p := ⟨bx, ox + m * 4 + 0, none⟩) (by show bx < _; omega)).trans (HXc.out 0 (by decide) w0 (Below.refl _ _)), (hB'.cell (p := ⟨bx, ox + m * 4 + 2, none⟩) (by show bx < _; omega)).trans (HXc.out 2 (by decide) w0 (Below.refl _ _)), (hB'.cell (p := ⟨bx, ox + m * 4 + 3, none⟩) (by show bx < _; omega)).trans (HXc.out 3 (by decide) w0 (Below.refl _ _))⟩)
  have hz0 : w.heap.size + 1 < w0.heap.size := K2.out.lt
  go_wp2_with fail
  go_region_held_law (fun w' => Below (w.heap.size + 1) w0 w' ∧ w'.cell? ⟨w.heap.size, 1, none⟩ = some (.int .i64 n) ∧ w'.cell? ⟨w.heap.size, 2, none⟩ = some (.int .i64 m) ∧ w'.cell? ⟨bx, ox + m * 4, none⟩ = some (.bool xf) ∧ w'.cell? ⟨bx, ox + m * 4 + 2, none⟩ = some (.int .i64 xm) ∧ w'.cell? ⟨bx, ox + m * 4 + 3, none⟩ = some (.int .i64 xd)) (first | assumption | exact HSS.out _ ((Below.refl _ _).drew) | exact HSS.out _ (Below.refl _ _) | exact HSS.out _ (below_wr4 (And.left (by assumption)) _ (by omega) _ _ _ _))
    ((go_at_call 74; refine (HCp.out _ _ _).mono ?_; rintro e w2 ⟨rfl, hB2⟩; (have hB3 := below_to ((Below.refl w0.heap.size w0).drew) hB2); (have G2 := HSS.out w2 (hB3.mono (by omega))); (have k3 := K2.out.later hB3); (have HB2 := hide_ hB3); (have K3 := hide_ k3); (have l0 := k3.cell 0); (have l1 := k3.cell 1); (have l2 := k3.cell 2); (have l3 := k3.cell 3); (have lf := fun i => k3.frozen i); (simp at l0 l1 l2 l3); (clear hB2 hB3 k3)))
  have HBw := hide_ (below_to HB.out HB2.out)
  have HK := hide_ (wr4 K3.out (.bool false) (.int .i64 1) (.int .i64 (plus2 1 xm)) (.int .i64 (1 + xd)))
  have HBf := hide_ (below_wr4 HBw.out (w.heap.size + 1) (by omega) (.bool false) (.int .i64 1) (.int .i64 (plus2 1 xm)) (.int .i64 (1 + xd)))
  go_wp2
  exact retX (x := ⟨false, 1, plus2 1 xm, 1 + xd⟩) rfl rfl HK.out ⟨rfl, HBf.out⟩
end Go.Proofs.Ytdpkmkhflgmioaa
