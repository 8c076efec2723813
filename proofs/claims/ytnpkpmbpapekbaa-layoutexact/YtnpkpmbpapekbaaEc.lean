/- layout.firstWrong, Lengths; the law's same. -/
import Derived.Test.YtnpkpmbpapekbaaEb
namespace Go.Proofs.Ytnpkpmbpapekbaa
open Go.RowKit
set_option linter.unusedVariables false

def fwI (f : Int) (l : List Int) (E : Int) : Int := match fwP f l E with | some i => (i : Int) | none => -1
set_option maxRecDepth 100000 in
set_option maxHeartbeats 8000000 in
theorem wrong_any (f E : Int) (a : Option Addr) (c : Nat) (l : List Int) (w : World) (hn : l.length ≤ 17592186044415) (hr : Hid (Row .i64 w a l)) :
    Calls Try.prog 19 #[.int .i64 f, .slice a l.length c, .int .i64 E] w fun e w' => e = .returned (.int .i64 (fwI f l E)) ∧ w = w' := by
  obtain ⟨R, hR⟩ : ∃ R, fwI f l E = R := ⟨_, rfl⟩
  rw [hR]
  have HR := hide_ hR
  clear hR
  go_enter Try.func19, Try.ntmps19
  go_wp2_with fail
  go_loopw [7, 13] (fun x7 x13 wr => ∃ (i : Nat) (p : Int), i ≤ l.length ∧ x7 = .int .i64 p ∧ x13 = .int .i64 (i : Int) ∧ Hid ((if i = 0 then f else l.getD (i - 1) 0) = p) ∧ Hid (∀ j, j < i → wrongP f l E j = false) ∧ w = wr) (fun _ x13 _ => l.length - (intOf x13).toNat)
  case atStart => exact ⟨0, f, Nat.zero_le _, rfl, rfl, hide_ rfl, hide_ (fun j hj => by omega), rfl⟩
  case round =>
    obtain ⟨i, p, hi, rfl, rfl, HP, HN, rfl⟩ := hrel
    by_cases hlt : i < l.length
    · have hlt' : (i : Int) < l.length := by omega
      obtain ⟨ba, oa, rfl, -, ca⟩ := hr.out.open (by omega)
      have x0 := ca i hlt
      obtain ⟨q, hq⟩ : ∃ q, l.getD i 0 = q := ⟨_, rfl⟩
      rw [hq] at x0
      have HQ := hide_ hq
      clear ca hq
      by_cases hz : i = 0
      · have HZ := hide_ hz
        have hz' : ((i : Int) == 0) = true := by simp [hz]
        have HPf : Hid (f = p) := hide_ (by have := HP.out; rw [if_pos hz] at this; exact this)
        clear hz
        by_cases hqf : q = f
        · have hq1 : (q != f) = false := by simp [hqf]
          have hq2 : decide (q < p) = false := by have := HPf.out; simp; omega
          have HQF := hide_ hqf
          clear hqf
          by_cases hE : E < q
          · have hE' : decide (E < q) = true := decide_eq_true hE
            have HE := hide_ hE
            clear hE
            have HF : Hid (R = (i : Int)) := hide_ (by rw [← HR.out]; unfold fwI; rw [fwP_some_of hlt (by simp only [wrongP]; rw [HQ.out, decide_eq_true HE.out, Bool.or_true]) HN.out])
            go_wp2
            go_ret
            exact ⟨by rw [HF.out]; rfl, rfl⟩
          · have hE' : decide (E < q) = false := decide_eq_false hE
            have HE := hide_ hE
            clear hE
            have HN2 : Hid (∀ j, j < i + 1 → wrongP f l E j = false) := hide_ (fun j hj => by
              by_cases h : j = i
              · subst h; simp only [wrongP]; rw [HZ.out, if_pos rfl, ← HZ.out, HQ.out, decide_eq_false HE.out, decide_eq_false (by have := HQF.out; simpa using this)]; rfl
              · exact HN.out j (by omega))
            have HP2 : Hid ((if i + 1 = 0 then f else l.getD (i + 1 - 1) 0) = q) := hide_ (by rw [if_neg (by omega), Nat.add_sub_cancel]; exact HQ.out)
            go_wp2_with fail
            go_roundw
            case rel => exact ⟨i + 1, q, by omega, rfl, by go_num, HP2, HN2, by trivial⟩
            case measure => simp [intOf]; omega
        · have hq1 : (q != f) = true := by simpa using hqf
          have HQF := hide_ hqf
          clear hqf
          have HF : Hid (R = (i : Int)) := hide_ (by rw [← HR.out]; unfold fwI; rw [fwP_some_of hlt (by simp only [wrongP]; rw [HZ.out, if_pos rfl, ← HZ.out, HQ.out, decide_eq_true HQF.out, Bool.true_or]) HN.out])
          go_wp2
          go_ret
          exact ⟨by rw [HF.out]; rfl, rfl⟩
      · have HZ := hide_ hz
        have hz' : ((i : Int) == 0) = false := by simp; omega
        have HPf : Hid (l.getD (i - 1) 0 = p) := hide_ (by have := HP.out; rw [if_neg hz] at this; exact this)
        clear hz
        by_cases hqp : q < p
        · have hq2 : decide (q < p) = true := decide_eq_true hqp
          have HQP := hide_ hqp
          clear hqp
          have HF : Hid (R = (i : Int)) := hide_ (by rw [← HR.out]; unfold fwI; rw [fwP_some_of hlt (by simp only [wrongP]; rw [if_neg HZ.out, HQ.out, HPf.out, decide_eq_true HQP.out, Bool.true_or]) HN.out])
          go_wp2
          go_ret
          exact ⟨by rw [HF.out]; rfl, rfl⟩
        · have hq2 : decide (q < p) = false := decide_eq_false hqp
          have HQP := hide_ hqp
          clear hqp
          by_cases hE : E < q
          · have hE' : decide (E < q) = true := decide_eq_true hE
            have HE := hide_ hE
            clear hE
            have HF : Hid (R = (i : Int)) := hide_ (by rw [← HR.out]; unfold fwI; rw [fwP_some_of hlt (by simp only [wrongP]; rw [HQ.out, decide_eq_true HE.out, Bool.or_true]) HN.out])
            go_wp2
            go_ret
            exact ⟨by rw [HF.out]; rfl, rfl⟩
          · have hE' : decide (E < q) = false := decide_eq_false hE
            have HE := hide_ hE
            clear hE
            have HN2 : Hid (∀ j, j < i + 1 → wrongP f l E j = false) := hide_ (fun j hj => by
              by_cases h : j = i
              · subst h; simp only [wrongP]; rw [if_neg HZ.out, HQ.out, HPf.out, decide_eq_false HQP.out, decide_eq_false HE.out]; rfl
              · exact HN.out j (by omega))
            have HP2 : Hid ((if i + 1 = 0 then f else l.getD (i + 1 - 1) 0) = q) := hide_ (by rw [if_neg (by omega), Nat.add_sub_cancel]; exact HQ.out)
            go_wp2_with fail
            go_roundw
            case rel => exact ⟨i + 1, q, by omega, rfl, by go_num, HP2, HN2, by trivial⟩
            case measure => simp [intOf]; omega
    · obtain rfl : i = l.length := by omega
      have HF : Hid (R = -1) := hide_ (by rw [← HR.out]; unfold fwI; rw [fwP_none_of HN.out])
      go_wp2
      go_ret
      exact ⟨by rw [HF.out]; rfl, rfl⟩
set_option maxRecDepth 100000 in
set_option maxHeartbeats 8000000 in
theorem lengths_any (f E : Int) (a : Option Addr) (c : Nat) (l : List Int) (w : World) (hn : l.length ≤ 17592186044415) (hE : E ≤ 9223372036854775807) (hr : Hid (Row .i64 w a l)) :
    Calls Try.prog 9 #[.int .i64 f, .slice a l.length c, .int .i64 E] w fun e w' => ∃ v, e = .returned (.tuple #[v, .int .i64 (lenA f l E).2.1, .int .i64 (lenA f l E).2.2]) ∧ Hid (OwnTo w v (lenA f l E).1 w') := by
  have HNil := hide_ (IOwn.nil w w.heap.size)
  by_cases hf : f < 0
  · have HA : Hid (lenA f l E = ([], 0, 3)) := hide_ (by unfold lenA; rw [if_pos hf])
    go_enter Try.func9, Try.ntmps9
    go_wp2
    go_ret3
    exact ⟨.slice none 0 0, by rw [HA.out]; rfl, hide_ ⟨by rw [HA.out]; exact HNil.out, Below.refl _ _⟩⟩
  · have hf' : decide (f < 0) = false := by simpa using hf
    have HF : Hid (0 ≤ f) := hide_ (by omega)
    have HC := hide_ (wrong_any f E a c l w hn hr)
    cases hb : fwP f l E with
    | some k =>
      have HW : Hid (fwI f l E = (k : Int)) := hide_ (by unfold fwI; rw [hb])
      have HA : Hid (lenA f l E = ([], (k : Int), 122)) := hide_ (by unfold lenA; rw [if_neg hf, hb])
      have hk0 : decide (0 ≤ (k : Int)) = true := by simp
      rw [HW.out] at HC
      clear hb
      go_enter Try.func9, Try.ntmps9
      go_wp2_with fail
      refine HC.out.mono ?_; rintro e w' ⟨rfl, rfl⟩
      go_wp2
      go_ret3
      exact ⟨.slice none 0 0, by rw [HA.out]; rfl, hide_ ⟨by rw [HA.out]; exact HNil.out, Below.refl _ _⟩⟩
    | none =>
      have HW : Hid (fwI f l E = -1) := hide_ (by unfold fwI; rw [hb])
      have HA : Hid (lenA f l E = (lenL l E l.length, 0, 0)) := hide_ (by unfold lenA; rw [if_neg hf, hb])
      have HBd : Hid (∀ i, i < l.length → 0 ≤ l.getD i 0 ∧ l.getD i 0 ≤ E) := hide_ (fun i hi => by
        have := right_nn HF.out i hi (fun j hj => fwP_none hb j (by omega))
        have := HF.out
        omega)
      rw [HW.out] at HC
      have hmk := makeI l.length hn
      have HMd := hide_ (IOwn.made w l.length hn)
      have hBm := below1 w (.cells (madeCells #[.int .i64 0] l.length) 3)
      obtain ⟨w1, hw1⟩ : ∃ wx, wx = w.alloc (.cells (madeCells #[.int .i64 0] l.length) 3) := ⟨_, rfl⟩
      rw [← hw1] at HMd hBm
      have HBm := hide_ hBm
      clear hBm hb
      go_enter Try.func9, Try.ntmps9
      go_wp2_with fail
      refine HC.out.mono ?_; rintro e w' ⟨rfl, rfl⟩
      go_upto_region 7 with fail
      rw [← hw1]
      clear hw1 hmk HC
      go_wp2_with fail
      go_loopw [10, 28] (fun x10 x28 wr => ∃ (v : Value) (i : Nat), v = x10 ∧ i ≤ l.length ∧ x28 = .int .i64 (i : Int) ∧ Hid (IOwn wr w.heap.size v (lenL l E i)) ∧ Hid (Below w.heap.size w wr)) (fun _ x28 _ => l.length - (intOf x28).toNat)
      case atStart => exact ⟨_, 0, rfl, Nat.zero_le _, rfl, HMd, HBm⟩
      case round =>
        obtain ⟨v, i, rfl, hi, rfl, HO, HB⟩ := hrel
        generalize wr = wq at *
        clear HMd HBm HNil
        by_cases hlt : i < l.length
        · have hlt' : (i : Int) < l.length := by omega
          obtain ⟨ba, oa, rfl, -, ca⟩ := (hr.out.later HB.out).open (by omega)
          have x0 := ca i hlt
          have hq := HBd.out i hlt
          obtain ⟨g, cap, w8, hrun, hO8, hU8, -⟩ := HO.out.push (lenOf l E i) (by rw [lenL_len]; omega) HB.out.size
          have hB8 := hU8.below w.heap.size HB.out.size (fun k hk => (HO.out.lies hk).1)
          have HB8 := hide_ (HB.out.trans hB8)
          have HO8 : Hid (IOwn w8 w.heap.size (.slice (some ⟨g, 0, none⟩) ((lenL l E i).length + 1) cap) (lenL l E (i + 1))) := hide_ (by rw [lenL_succ]; exact hO8)
          obtain ⟨av, cv, hav⟩ := HO.out.slice
          subst hav
          clear hO8 hU8 hB8
          by_cases hnx : i + 1 < l.length
          · have hnx' : (i : Int) + 1 < l.length := by omega
            have y0 := ca (i + 1) hnx
            have hy := HBd.out (i + 1) hnx
            have hv : lenOf l E i = l.getD (i + 1) 0 - l.getD i 0 := by unfold lenOf; rw [if_pos hnx]
            rw [hv] at hrun
            generalize l.getD i 0 = q at *
            generalize l.getD (i + 1) 0 = r at *
            have hw := w64 (r - q) (by omega)
            have HRun := hide_ hrun
            clear hrun ca hv
            go_wp2_with (first | (at_builtin; refine wpList_append_run rfl (.tmp 44) (.tmp 48) 22 22 rfl rfl rfl HRun.out ?_; clear HRun) | fail)
            go_roundw
            case rel => exact ⟨_, i + 1, rfl, by omega, by go_num, HO8, HB8⟩
            case measure => simp [intOf]; omega
          · have hnx' : decide ((i : Int) + 1 < l.length) = false := by simp; omega
            have hv : lenOf l E i = E - l.getD i 0 := by unfold lenOf; rw [if_neg hnx]
            rw [hv] at hrun
            generalize l.getD i 0 = q at *
            have hw := w64 (E - q) (by omega)
            have HRun := hide_ hrun
            clear hrun ca hv hnx
            go_wp2_with (first | (at_builtin; refine wpList_append_run rfl (.tmp 44) (.tmp 48) 22 22 rfl rfl rfl HRun.out ?_; clear HRun) | fail)
            go_roundw
            case rel => exact ⟨_, i + 1, rfl, by omega, by go_num, HO8, HB8⟩
            case measure => simp [intOf]; omega
        · obtain rfl : i = l.length := by omega
          go_wp2
          go_ret3
          exact ⟨v, by rw [HA.out]; rfl, hide_ ⟨by rw [HA.out]; exact HO.out, HB.out⟩⟩
set_option maxRecDepth 100000 in
set_option maxHeartbeats 4000000 in
theorem same_any (a1 a2 : Option Addr) (c1 c2 : Nat) (l1 l2 : List Int) (w : World) (h1 : l1.length ≤ 9223372036854775807) (h2 : l2.length ≤ 9223372036854775807) (r1 : Hid (Row .i64 w a1 l1)) (r2 : Hid (Row .i64 w a2 l2)) :
    Calls Try.prog 10 #[.slice a1 l1.length c1, .slice a2 l2.length c2] w fun e w' => e = .returned (.bool (decide (l1 = l2))) ∧ Below w.heap.size w w' := by
  obtain ⟨R, hR⟩ : ∃ R, decide (l1 = l2) = R := ⟨_, rfl⟩
  rw [hR]
  have HR := hide_ hR
  clear hR
  by_cases hl : l1.length = l2.length
  · have hl' : ((l1.length : Int) != (l2.length : Int)) = false := by simp; omega
    have HL := hide_ hl
    go_enter Try.func10, Try.ntmps10
    go_wp2_with fail
    go_loopw [5] (fun x5 wr => ∃ i : Nat, i ≤ l1.length ∧ x5 = .int .i64 (i : Int) ∧ Hid (l1.take i = l2.take i) ∧ Hid (Below w.heap.size w wr)) (fun x5 _ => l1.length - (intOf x5).toNat)
    case atStart => exact ⟨0, Nat.zero_le _, rfl, hide_ rfl, hide_ (Below.refl _ _)⟩
    case round =>
      obtain ⟨i, hi, rfl, HT, HB⟩ := hrel
      generalize wr = wq at *
      by_cases hlt : i < l1.length
      · have hlt' : (i : Int) < l1.length := by omega
        have hlt2 : i < l2.length := by have := HL.out; omega
        have hlt2' : (i : Int) < l2.length := by omega
        obtain ⟨b1, o1, rfl, hb1, hc1⟩ := (r1.out.later HB.out).open (by omega)
        obtain ⟨b2, o2, rfl, hb2, hc2⟩ := (r2.out.later HB.out).open (by omega)
        have d1 := hc1 i hlt
        have d2 := hc2 i hlt2
        have e1 : l1.getD i 0 = l1[i]'hlt := by simp [List.getD, hlt]
        have e2 : l2.getD i 0 = l2[i]'hlt2 := by simp [List.getD, hlt2]
        have ht1 : l1.take (i + 1) = l1.take i ++ [l1[i]'hlt] := List.take_succ_eq_append_getElem hlt
        have ht2 : l2.take (i + 1) = l2.take i ++ [l2[i]'hlt2] := List.take_succ_eq_append_getElem hlt2
        rw [← e1] at ht1
        rw [← e2] at ht2
        generalize l1.getD i 0 = x at *
        generalize l2.getD i 0 = y at *
        have HT1 := hide_ ht1
        have HT2 := hide_ ht2
        clear hc1 hc2 ht1 ht2 e1 e2 hl
        have hdr : Hid (Below w.heap.size w wq.drew) := hide_ HB.out.drew
        by_cases he : x = y
        · have he' : (x != y) = false := by simp [he]
          have HT3 : Hid (l1.take (i + 1) = l2.take (i + 1)) := hide_ (by rw [HT1.out, HT2.out, HT.out, he])
          clear he
          go_wp2_with fail
          go_region
          go_wp2_with fail
          go_roundw
          case rel => exact ⟨i + 1, by omega, by go_num, HT3, hdr⟩
          case measure => simp [intOf]; omega
        · have he' : (x != y) = true := by simpa using he
          have HV : Hid (R = false) := hide_ (by
            rw [← HR.out]
            refine decide_eq_false fun e => he ?_
            have h1 := HT1.out
            rw [e, HT2.out, ← e, HT.out] at h1
            simpa using h1.symm)
          clear he
          go_wp2_with fail
          go_region
          go_wp2
          go_ret
          exact ⟨by rw [HV.out]; rfl, hdr.out⟩
      · obtain rfl : i = l1.length := by omega
        have HV : Hid (R = true) := hide_ (by
          rw [← HR.out]
          have h := HT.out
          rw [List.take_length, HL.out, List.take_length] at h
          exact decide_eq_true h)
        clear hl
        go_wp2
        go_ret
        exact ⟨by rw [HV.out]; rfl, HB.out⟩
  · have hl' : ((l1.length : Int) != (l2.length : Int)) = true := by simp; omega
    have HV : Hid (R = false) := hide_ (by rw [← HR.out]; exact decide_eq_false (fun e => hl (by rw [e])))
    go_enter Try.func10, Try.ntmps10
    go_wp2
    go_ret
    exact ⟨by rw [HV.out]; rfl, Below.refl _ _⟩
end Go.Proofs.Ytnpkpmbpapekbaa
