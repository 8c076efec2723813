import Derived.Test.YtlbgdgobhiokpaaDoorPart13
import Derived.Test.YtlbgdgobhiokpaaDoorPart14
import Derived.Test.YtlbgdgobhiokpaaDoorPart09
import Derived.Test.YtlbgdgobhiokpaaDoorPart12
import Derived.Test.YtlbgdgobhiokpaaDoorPart05

/- ValueWay: the walk. -/
namespace Go.Proofs.YtlbgdgobhiokpaaDoor
open Go.RowKit
set_option linter.unusedVariables false

theorem way_at (S : Stk) (i : Nat) (hi : i < S.length) : ∃ j f, S.drop (S.length - (i + 1)) = (j, f) :: S.drop (S.length - i) ∧ (pathL S).getD i 0 = j := by
  have h1 : S.length - (i + 1) < S.length := by omega
  refine ⟨(S[S.length - (i + 1)]'h1).1, (S[S.length - (i + 1)]'h1).2, ?_, ?_⟩
  · rw [List.drop_eq_getElem_cons h1, show S.length - (i + 1) + 1 = S.length - i by omega]
  · have h2 : i < (pathL S).length := by rw [pathL_len]; exact hi
    rw [List.getD, List.getElem?_eq_getElem h2]
    simp only [pathL, List.getElem_reverse, List.getElem_map, List.length_map, Option.getD_some]
    congr 2
    omega
theorem way_lead (M : List Nd) (S : Stk) (hW : Ways M S) (hok : (chk 1 0 M).1 = 0) (hl : lead M S < M.length) (i : Nat) (hi : i < S.length) :
    kidR M (lead M (S.drop (S.length - i)) : Int) ((pathL S).getD i 0) = ((lead M (S.drop (S.length - (i + 1))) : Int), 0) ∧ lead M (S.drop (S.length - i)) < lead M (S.drop (S.length - (i + 1))) ∧ lead M (S.drop (S.length - (i + 1))) < M.length := by
  obtain ⟨j, f, h1, h2⟩ := way_at S i hi
  have hW2 : Ways M ((j, f) :: S.drop (S.length - i)) := by
    rw [← h1]
    exact Ways.tail (Z := S.take (S.length - (i + 1))) (by rw [List.take_append_drop]; exact hW)
  have hle : lead M ((j, f) :: S.drop (S.length - i)) ≤ lead M S := by
    rw [← h1]
    have := lead_le M (S.take (S.length - (i + 1))) (S.drop (S.length - (i + 1)))
    rwa [List.take_append_drop] at this
  obtain ⟨g0, g1, g2, -⟩ := hW2
  have hlt := lead_lt M j f (S.drop (S.length - i))
  obtain ⟨jn, rfl⟩ := Int.eq_ofNat_of_zero_le g0
  rw [h2, h1]
  refine ⟨?_, hlt, by omega⟩
  rw [kid_is hok (by omega) (by rw [g2]; omega)]
  simp [lead]
set_option maxRecDepth 100000 in
set_option maxHeartbeats 16000000 in
theorem way_any (a : Option Addr) (len cap : Nat) (at0 : Int) (raw : List Nd) (w : World) (hl : raw.length = len) (hm : len ≤ 9223372036854775807) (hr : Hid (NRaw w a raw)) (hf : Hid (∀ x ∈ raw, Fits x)) (hat : -9223372036854775808 ≤ at0 ∧ at0 ≤ 9223372036854775807) (ht : Hid (Tab w.heap.size w)) :
    Calls Tryd.prog 5 #[.slice a len cap, .int .i64 at0] w fun e w' => e = .returned (.bool true) ∧ Below w.heap.size w w' := by
  go_enter Tryd.func5, Tryd.ntmps5
  go_wp2_with fail
  refine (awake_any w ht).mono ?_; rintro e w1 ⟨rfl, hB1⟩
  have hr1 : Hid (NRaw w1 a raw) := hr.out.later hB1
  go_wp2_with fail
  refine (made_any a len cap raw w1 hl hm hr1 hf).mono ?_; rintro e w2 ⟨v, M, rfl, HO2, HM, hB2⟩
  have HB2 : Hid (Below w.heap.size w w2) := hB1.trans (hB2.mono hB1.size)
  obtain ⟨av, cv, rfl, HN, hc1, hc2, -⟩ := own_nrow HO2.out
  have HN2 : Hid (NRow w2 av M) := HN
  have hok := HM.out.ok
  have hlen := HM.out.len
  have hne : 0 < M.length := by
    rcases Nat.eq_zero_or_pos M.length with h | h
    · rw [List.length_eq_zero_iff.1 h] at hok; simp [chk] at hok
    · exact h
  obtain ⟨n, hn⟩ : ∃ n, M.length = n := ⟨_, rfl⟩
  rw [hn] at hc1 hlen hne ⊢
  have HOK : Hid ((chk 1 0 M).1 = 0) := hok
  have HLn : Hid (M.length = n) := hn
  clear hr1 hr hf hB1 hB2 HO2 HN ht hok hn HM
  go_wp2_with fail
  refine (rest_any at0 0 ((n : Int) - 1) _ (by decide) (by omega) (by omega) hat).mono ?_; rintro e w2' ⟨k, rfl, hk1, hk2, rfl⟩
  obtain ⟨k, rfl⟩ := Int.eq_ofNat_of_zero_le hk1
  have hk : k < n := by omega
  clear hk1 hk2 hat
  go_wp2_with fail
  refine (path_any av n cv (k : Int) M w2 HLn.out hc1 (by omega) hc2 HN2).mono ?_; rintro e w3 ⟨vp, rfl, HP3, hB3⟩
  have hpl : place M (k : Int) = 0 := place_zero HOK.out (by rw [HLn.out]; exact hk)
  obtain ⟨-, HW, HLd⟩ := way_inv M HOK.out k (by rw [HLn.out]; exact hk)
  have hpr : pathR M (k : Int) = pathL (way (M.take k) []) := by rw [pathR, if_pos hpl, Int.toNat_natCast]
  rw [hpr] at HP3
  obtain ⟨S, hS⟩ : ∃ S, way (M.take k) [] = S := ⟨_, rfl⟩
  rw [hS] at HP3 HW HLd
  have HSl : S.length ≤ n := by have := (way_inv M HOK.out k (by rw [HLn.out]; exact hk)).1.len; rw [hS] at this; omega
  rw [hpl]
  obtain ⟨ap, cp, rfl, HRp, -, -, -, -⟩ := own_open HP3.out rfl
  have HN3 : Hid (NRow w3 av M) := HN2.out.later hB3
  have HB3 : Hid (Below w.heap.size w w3) := HB2.out.trans (hB3.mono HB2.out.size)
  have HRp3 : Hid (Row .i64 w3 ap (pathL S)) := HRp
  have HW3 : Hid (Ways M S) := HW
  have HLd3 : Hid (lead M S = k) := HLd
  obtain ⟨s, hs⟩ : ∃ s, (pathL S).length = s := ⟨_, rfl⟩
  have HSs : Hid (S.length = s) := by rw [pathL_len] at hs; exact hs
  rw [hs]
  clear hpl hpr hS HP3 HRp HW HLd hs HN2 HB2 hB3
  have hsn : s ≤ n := by have := HSs.out; omega
  clear HSl
  go_wp2_with (go_at_call 13; refine (num_any _ _).mono ?_; rintro e w' ⟨rfl, rfl⟩)
  go_loopw [9, 10] (fun xn xi wr => ∃ i : Nat, i ≤ s ∧ xi = .int .i64 i ∧ xn = .int .i64 (lead M (S.drop (s - i)) : Int) ∧ Hid (Below w3.heap.size w3 wr)) (fun _ xi _ => s - (intOf xi).toNat)
  case atStart => exact ⟨0, Nat.zero_le _, rfl, by rw [Nat.sub_zero, ← HSs.out, List.drop_length]; rfl, Below.refl _ _⟩
  case round =>
    obtain ⟨i, hi, rfl, rfl, HBr⟩ := hrel
    have HNr : Hid (NRow wr av M) := HN3.out.later HBr.out
    by_cases hlt : i < s
    · have hlt' : (i : Int) < s := by omega
      obtain ⟨e1, e2, e3⟩ := way_lead M S HW3.out HOK.out (by rw [HLd3.out, HLn.out]; exact hk) i (by rw [HSs.out]; exact hlt)
      rw [HSs.out] at e1 e2 e3
      obtain ⟨bp, op, rfl, hbp, hcp⟩ := HRp3.out.open (by rw [pathL_len, HSs.out]; omega)
      have d0 := (HBr.out.cell (p := ⟨bp, op + i, none⟩) hbp).trans (hcp i (by rw [pathL_len, HSs.out]; exact hlt))
      have HE1 : Hid _ := e1
      have HE2 : Hid _ := e2
      clear hcp e1
      generalize (pathL S).getD i 0 = pj at *
      go_wp2_with fail
      refine (kid_any av n cv _ pj M wr HLn.out (by omega) HNr).mono ?_; rintro e w4 ⟨rfl, hB4⟩
      rw [HE1.out]
      unfold pairv
      have e2' : ¬ ((lead M (S.drop (s - (i + 1))) : Int) ≤ (lead M (S.drop (s - i)) : Int)) := by omega
      go_wp2_with (go_at_call 13; refine (num_any _ _).mono ?_; rintro e w' ⟨rfl, rfl⟩)
      go_roundw
      case rel => exact ⟨i + 1, by omega, by go_num, rfl, HBr.out.trans (hB4.mono HBr.out.size)⟩
      case measure => simp [intOf]; omega
    · obtain rfl : i = s := by omega
      have hlk : (lead M (S.drop (i - i)) : Int) = k := by rw [Nat.sub_self, List.drop_zero, HLd3.out]
      rw [hlk]
      have hk' : k < M.length := by rw [HLn.out]; exact hk
      go_wp2_with fail
      refine (next_any av n cv (k : Int) M wr HLn.out (by omega) HNr).mono ?_; rintro e w4 ⟨rfl, hB4⟩
      rw [next_is HOK.out hk']
      unfold pairv
      have HN4 : Hid (NRow w4 av M) := HNr.out.later hB4
      have HB4 : Hid (Below w.heap.size w w4) := HB3.out.trans ((HBr.out.trans (hB4.mono HBr.out.size)).mono HB3.out.size)
      obtain ⟨E, hE⟩ : ∃ E, endOf M k = E := ⟨_, rfl⟩
      rw [hE]
      have hE0 : k = 0 → E = n := fun h => by
        subst h
        rw [← hE, endOf, List.drop_zero, (chk_enough M 1 0 HOK.out).2.1, HLn.out, Nat.zero_add]
      obtain ⟨c0, hc0⟩ : ∃ c0, (M.getD k nil0).2.2 = c0 := ⟨_, rfl⟩
      have hcb : 0 ≤ c0 ∧ c0 ≤ 1048576 := by
        have h1 := chk_at M 1 0 k HOK.out hk'
        rw [drop_at M k hk'] at h1
        rw [← hc0]
        exact ⟨h1.1, h1.2.1⟩
      obtain ⟨c, rfl⟩ := Int.eq_ofNat_of_zero_le hcb.1
      have HC : Hid ((M.getD k nil0).2.2 = (c : Int)) := hc0
      have HEe : Hid (k + 1 + bh c (M.drop (k + 1)) = E) := by show _ = _; rw [← hE, endOf_node M k hk' c hc0]
      clear HNr HBr HB3 hB4 hlk hE hc0 HW3 HLd3 HRp3 HN3 HSs
      have hk2 : (k : Int) < n := by omega
      have hcase : ((((k : Int) == 0) = true) ∧ (((E : Int) == (n : Int)) = true)) ∨ (((k : Int) == 0) = false) := by
        by_cases h : k = 0
        · exact .inl ⟨by rw [h]; rfl, by rw [hE0 h]; simp⟩
        · exact .inr (beq_eq_false_iff_ne.2 (by omega))
      have hn1 : n ≤ 1000000 := by omega
      have hkE : k + 1 ≤ E := by have := HEe.out; omega
      clear hE0
      rcases hcase with ⟨hb1, hb2⟩ | hb1
      all_goals
        go_wp2_with (go_at_call 13; refine (num_any _ _).mono ?_; rintro e w' ⟨rfl, rfl⟩)
        (try simp only [hb1])
        (try simp only [hb2])
        (try simp only [bne, hb2, Bool.not_true])
        (try clear hb2)
        clear hb1
        go_loopw [15, 16] (fun xp xi wr => ∃ (i P : Nat), i ≤ c ∧ xi = .int .i64 i ∧ xp = .int .i64 P ∧ Hid (k + 1 + bh i (M.drop (k + 1)) = P) ∧ Hid (Below w4.heap.size w4 wr)) (fun _ xi _ => c - (intOf xi).toNat)
        case atStart => exact ⟨0, k + 1, Nat.zero_le _, rfl, by go_num, by show _ = _; rw [bh_zero], Below.refl _ _⟩
        case round =>
          obtain ⟨i2, P, hi2, rfl, rfl, HPi, HBr⟩ := hrel
          have HNr : Hid (NRow wr av M) := HN4.out.later HBr.out
          obtain ⟨bv, ov, rfl, hbv, hcv⟩ := HNr.out.open (by rw [HLn.out]; omega)
          obtain ⟨-, -, x2⟩ := hcv k hk'
          rw [HC.out] at x2
          clear hcv
          by_cases hlt : i2 < c
          · have hlt' : (i2 : Int) < c := by omega
            have hPl : P < M.length := by rw [← HPi.out]; exact kid_lt HOK.out hk' (by rw [HC.out]; exact hlt')
            go_wp2_with fail
            refine (kid_any _ n cv (k : Int) (i2 : Int) M wr HLn.out hn1 HNr).mono ?_; rintro e w5 ⟨rfl, hB5⟩
            rw [kid_is HOK.out hk' (by rw [HC.out]; exact hlt'), HPi.out]
            unfold pairv
            have HN5 : Hid (NRow w5 (some ⟨bv, ov, none⟩) M) := HNr.out.later hB5
            have HB5 : Hid (Below w4.heap.size w4 w5) := HBr.out.trans (hB5.mono HBr.out.size)
            clear HNr HBr hB5 x2
            go_wp2_with (first | (go_at_call 13; refine (num_any _ _).mono ?_; rintro e w' ⟨rfl, rfl⟩) | (go_at_call 21; fail))
            refine (next_any _ n cv (P : Int) M w5 HLn.out hn1 HN5).mono ?_; rintro e w6 ⟨rfl, hB6⟩
            rw [next_is HOK.out hPl]
            unfold pairv
            have hP2 : Hid (k + 1 + bh (i2 + 1) (M.drop (k + 1)) = endOf M P) := by show _ = _; rw [endOf_kid, HPi.out]
            have HB6 : Hid (Below w4.heap.size w4 w6) := HB5.out.trans (hB6.mono HB5.out.size)
            clear HN5 HB5 hB6
            go_wp2_with (go_at_call 13; refine (num_any _ _).mono ?_; rintro e w' ⟨rfl, rfl⟩)
            go_roundw
            case rel => exact ⟨i2 + 1, endOf M P, by omega, by go_num, rfl, hP2, HB6⟩
            case measure => simp [intOf]; omega
          · obtain rfl : i2 = c := by omega
            obtain rfl : P = E := HPi.out.symm.trans HEe.out
            have hcon := kid_any (some ⟨bv, ov, none⟩) n cv (k : Int) (i2 : Int) M wr HLn.out hn1 HNr
            rw [← HC.out, kid_none HOK.out hk', HC.out] at hcon
            unfold pairv at hcon
            go_wp2_with fail
            refine hcon.mono ?_; rintro e w5 ⟨rfl, hB5⟩
            have HN5 : Hid (NRow w5 (some ⟨bv, ov, none⟩) (M.take k)) := (HNr.out.later hB5).take k
            have HB5 : Hid (Below w.heap.size w w5) := HB4.out.trans ((HBr.out.trans (hB5.mono HBr.out.size)).mono HB4.out.size)
            have hkc : k ≤ cv := by omega
            have hkc2 : (k : Int) ≤ cv := by omega
            clear hcon HNr HBr hB5 x2
            go_wp2_with (first | (go_at_call 13; refine (num_any _ _).mono ?_; rintro e w' ⟨rfl, rfl⟩) | (go_at_call 17; fail))
            refine (check_any _ k cv (M.take k) w5 (by rw [List.length_take, HLn.out]; omega) (by omega) HN5).mono ?_; rintro e w6 ⟨rfl, hB6⟩
            have hct := chk_take M 1 0 k HOK.out hk'
            rw [show (0 : Int) + (k : Int) = (k : Int) by omega] at hct
            rw [show chk 1 0 (M.take k) = (40, (k : Int)) from hct]
            unfold fltv
            have HB6 : Hid (Below w.heap.size w w6) := HB5.out.trans (hB6.mono HB5.out.size)
            clear HN5 HB5 hB6 hct
            go_wp2_with fail
            refine (fault_yes 40 (k : Int) w6).mono ?_; rintro e w7 ⟨rfl, hB7⟩
            have HB7 : Hid (Below w.heap.size w w7) := HB6.out.trans (hB7.mono HB6.out.size)
            clear HB6 hB7
            go_wp2
            go_ret
            exact ⟨rfl, HB7.out⟩
end Go.Proofs.YtlbgdgobhiokpaaDoor

/- The document's Kid, Path. -/
namespace Go.Proofs.YtlbgdgobhiokpaaDoor
open Go.RowKit
set_option linter.unusedVariables false

set_option maxRecDepth 100000 in
set_option maxHeartbeats 4000000 in
theorem refKid_any (a : Option Addr) (len cap : Nat) (p k : Int) (l : List Nd) (w : World) (hl : l.length = len) (hs : len ≤ 100000) (hr : Hid (NRow w a l)) (hn : Hid (NatN l)) :
    Calls Tryd.prog 67 #[.slice a len cap, .int .i64 p, .int .i64 k] w fun e w' => e = .returned (pairv (kidR l p k)) ∧ Below w.heap.size w w' := by
  go_enter Tryd.func67, Tryd.ntmps67
  go_wp2_with fail
  refine (nextD_any a len cap p l w hl (by omega) hr hn).mono ?_; rintro e w1 ⟨rfl, hB1⟩
  have hr1 : Hid (NRow w1 a l) := hr.out.later hB1
  by_cases hpl : place l p = 0
  · have hc : (chk 1 0 l).1 = 0 := by
      unfold place at hpl
      split at hpl
      · assumption
      · omega
    have hin : 0 ≤ p ∧ p < len := by
      unfold place at hpl
      rw [if_pos hc] at hpl
      split at hpl
      · omega
      · rw [← hl]; omega
    obtain ⟨q, rfl⟩ := Int.eq_ofNat_of_zero_le hin.1
    have hq : q < l.length := by omega
    have hqi : (q : Int) < len := by omega
    rw [next_is hc hq]
    have HC := hide_ hc
    obtain ⟨b, off, rfl, hb, hcell⟩ := hr1.out.open (by omega)
    obtain ⟨-, -, c2⟩ := hcell q hq
    obtain ⟨c, hc2⟩ : ∃ c, kN (l.getD q nil0) = c := ⟨_, rfl⟩
    have hcc : (l.getD q nil0).2.2 = (c : Int) := by rw [← kN_cast hc hq, hc2]
    have hcb : c ≤ 1048576 := by
      have h1 := chk_at l 1 0 q hc hq
      rw [drop_at l q hq] at h1
      have h2 := h1.2.1
      rw [hcc] at h2
      omega
    rw [hcc] at c2
    have HCc := hide_ hcc
    have HK := hide_ hc2
    have HPl := hide_ hpl
    clear hcell hc hpl hcc hc2
    unfold pairv
    by_cases h1 : k < 0
    · have HE : Hid (kidR l (q : Int) k = (0, 3)) := by show _ = _; rw [kidR, if_pos HPl.out, Int.toNat_natCast, if_pos (.inl h1)]
      go_wp2
      go_ret2
      exact ⟨ret_pair HE.out, hB1⟩
    · by_cases h2 : (c : Int) ≤ k
      · have HE : Hid (kidR l (q : Int) k = (0, 3)) := by show _ = _; rw [kidR, if_pos HPl.out, Int.toNat_natCast, if_pos (.inr (by rw [HCc.out]; exact h2))]
        go_wp2
        go_ret2
        exact ⟨ret_pair HE.out, hB1⟩
      · obtain ⟨j, hj⟩ := Int.eq_ofNat_of_zero_le (show 0 ≤ k by omega)
        have hjc : j < c := by omega
        have hj1 : k ≤ (j : Int) := by omega
        have hj2 : (j : Int) ≤ k := by omega
        have HE : Hid (kidR l (q : Int) k = ((kp l q j : Int), 0)) := by
          show _ = _
          rw [hj]
          exact kid_is HC.out hq (by rw [HCc.out]; omega)
        clear hj
        have HB1 := hide_ hB1
        clear hB1 hr
        go_wp2_with fail
        go_loopw [10, 11] (fun xp xi wr => ∃ i : Nat, i ≤ j ∧ xi = .int .i64 i ∧ xp = .int .i64 (kp l q i : Int) ∧ w1 = wr) (fun _ xi _ => j - (intOf xi).toNat)
        case atStart => exact ⟨0, Nat.zero_le _, rfl, by rw [kp_zero]; go_num, rfl⟩
        case round =>
          obtain ⟨i, hi, rfl, rfl, rfl⟩ := hrel
          by_cases hij : i < j
          · have hij' : (i : Int) < k := by omega
            have hkp : kp l q i < l.length := kp_in HC.out hq (by rw [HK.out]; omega)
            have hen : Hid (Enough 1 (l.drop (kp l q i))) := chk_at l 1 0 _ HC.out hkp
            go_wp2_with fail
            refine (behindD_any _ len cap (kp l q i) l w1 hl (by omega) (by omega) hr1 hen).mono ?_; rintro e w2 ⟨rfl, rfl⟩
            have HK2 : Hid (kp l q i + bh 1 (l.drop (kp l q i)) = kp l q (i + 1)) := by show _ = _; rw [kp_succ]; rfl
            rw [HK2.out]
            go_wp2
            go_roundw
            case rel => exact ⟨i + 1, by omega, by go_num, rfl, trivial⟩
            case measure => simp [intOf]; omega
          · obtain rfl : i = j := by omega
            have hnl : ¬ ((i : Int) < k) := by omega
            go_wp2
            go_ret2
            exact ⟨ret_pair HE.out, HB1.out⟩
  · have HE : Hid (kidR l p k = (0, place l p)) := by show _ = _; rw [kidR, if_neg hpl]
    have HE2 : Hid (nextR l p = (0, place l p)) := by show _ = _; rw [nextR, if_neg hpl]
    rw [HE2.out]
    generalize place l p = c at *
    have hcb : ¬ c = 0 := hpl
    unfold pairv
    go_wp2
    go_ret2
    exact ⟨ret_pair HE.out, hB1⟩
/-! ### The way, from above -/
theorem kp_le {M : List Nd} (hM : (chk 1 0 M).1 = 0) {p : Nat} (hp : p < M.length) {i j : Nat} (hij : i ≤ j) (hj : j ≤ kN (M.getD p nil0)) : kp M p i ≤ kp M p j := by
  rcases Nat.lt_or_ge i j with h | h
  · have := kp_mono (k := i) (d := j - i - 1) hM hp (by omega)
    rw [show i + (j - i - 1) + 1 = j by omega] at this
    omega
  · obtain rfl : i = j := by omega
    exact Nat.le_refl _
/-- What a way leads to lies in the value of each node on it. -/
theorem lead_in {M : List Nd} (hM : (chk 1 0 M).1 = 0) : ∀ (Z T : Stk), Ways M (Z ++ T) → lead M (Z ++ T) < M.length → lead M (Z ++ T) < endOf M (lead M T)
  | [], T, _, hl => endOf_gt hl
  | (j, f) :: Z, T, hw, hl => by
    obtain ⟨h0, h1, h2, h3⟩ : 0 ≤ j ∧ 0 ≤ f ∧ (M.getD (lead M (Z ++ T)) nil0).2.2 = j + f + 1 ∧ Ways M (Z ++ T) := hw
    have hlt := lead_lt M j f (Z ++ T)
    have hP : lead M (Z ++ T) < M.length := Nat.lt_trans hlt hl
    obtain ⟨jn, rfl⟩ := Int.eq_ofNat_of_zero_le h0
    have hk : jn < kN (M.getD (lead M (Z ++ T)) nil0) := by have := kN_cast hM hP; omega
    have h4 := lead_in hM Z T h3 hP
    -- the whole value of the node lies within
    have key : ∀ (Z T : Stk), Ways M (Z ++ T) → lead M (Z ++ T) < M.length → endOf M (lead M (Z ++ T)) ≤ endOf M (lead M T) := by
      intro Z
      induction Z with
      | nil => intro T _ _; exact Nat.le_refl _
      | cons e Z ih =>
        obtain ⟨j, f⟩ := e
        intro T hw hl
        obtain ⟨h0, h1, h2, h3⟩ : 0 ≤ j ∧ 0 ≤ f ∧ (M.getD (lead M (Z ++ T)) nil0).2.2 = j + f + 1 ∧ Ways M (Z ++ T) := hw
        have hlt := lead_lt M j f (Z ++ T)
        have hP : lead M (Z ++ T) < M.length := Nat.lt_trans hlt hl
        obtain ⟨jn, rfl⟩ := Int.eq_ofNat_of_zero_le h0
        have hk : jn < kN (M.getD (lead M (Z ++ T)) nil0) := by have := kN_cast hM hP; omega
        have e1 : lead M (((jn : Int), f) :: (Z ++ T)) = kp M (lead M (Z ++ T)) jn := by simp [lead, kp]
        have h5 := ih T h3 hP
        show endOf M (lead M (((jn : Int), f) :: (Z ++ T))) ≤ _
        rw [e1, ← kp_succ]
        have h6 := kp_le hM hP (i := jn + 1) (j := kN (M.getD (lead M (Z ++ T)) nil0)) (by omega) (Nat.le_refl _)
        rw [← endOf_is hM hP] at h6
        omega
    have h5 := key ((jn, f) :: Z) T ⟨h0, h1, h2, h3⟩ hl
    have h6 := endOf_gt hl
    show lead M (((jn : Int), f) :: (Z ++ T)) < _
    have h7 : endOf M (lead M (((jn : Int), f) :: (Z ++ T))) ≤ endOf M (lead M T) := h5
    have h8 : lead M (((jn : Int), f) :: (Z ++ T)) < endOf M (lead M (((jn : Int), f) :: (Z ++ T))) := h6
    omega
/-- Step i of the way: which kid, and where it lies. -/
theorem way_step {M : List Nd} (hM : (chk 1 0 M).1 = 0) {S : Stk} (hW : Ways M S) (hl : lead M S < M.length) (i : Nat) (hi : i < S.length) :
    ∃ j : Nat, (pathL S).getD i 0 = (j : Int) ∧ lead M (S.drop (S.length - i)) < M.length ∧ j < kN (M.getD (lead M (S.drop (S.length - i))) nil0) ∧ kp M (lead M (S.drop (S.length - i))) j = lead M (S.drop (S.length - (i + 1))) ∧ lead M (S.drop (S.length - (i + 1))) ≤ lead M S ∧ lead M S < endOf M (lead M (S.drop (S.length - (i + 1)))) := by
  obtain ⟨j, f, h1, h2⟩ := way_at S i hi
  have hsp : S.take (S.length - (i + 1)) ++ S.drop (S.length - (i + 1)) = S := List.take_append_drop _ _
  have hW2 : Ways M ((j, f) :: S.drop (S.length - i)) := by
    rw [← h1]
    exact Ways.tail (Z := S.take (S.length - (i + 1))) (by rw [hsp]; exact hW)
  have hle : lead M (S.drop (S.length - (i + 1))) ≤ lead M S := by
    have := lead_le M (S.take (S.length - (i + 1))) (S.drop (S.length - (i + 1)))
    rwa [hsp] at this
  have hend : lead M S < endOf M (lead M (S.drop (S.length - (i + 1)))) := by
    have := lead_in hM (S.take (S.length - (i + 1))) (S.drop (S.length - (i + 1))) (by rw [hsp]; exact hW) (by rw [hsp]; exact hl)
    rwa [hsp] at this
  obtain ⟨g0, g1, g2, -⟩ := hW2
  have hlt := lead_lt M j f (S.drop (S.length - i))
  obtain ⟨jn, rfl⟩ := Int.eq_ofNat_of_zero_le g0
  have hP : lead M (S.drop (S.length - i)) < M.length := by
    rw [h1] at hle
    omega
  refine ⟨jn, h2, hP, by have := kN_cast hM hP; omega, ?_, hle, hend⟩
  rw [h1]
  simp [lead, kp]
end Go.Proofs.YtlbgdgobhiokpaaDoor

/- The document's Path. -/
namespace Go.Proofs.YtlbgdgobhiokpaaDoor
open Go.RowKit
set_option linter.unusedVariables false

theorem own_sl {B n : Nat} {w : World} {v : Value} {l : List Int} (h : w.ownsRow B 3 1 v n (cellsL .i64 l)) : ∃ a c, v = .slice a n c := by
  rcases h.2 with ⟨rfl, h0⟩ | ⟨g, cap, cur, rfl, _⟩
  · exact ⟨none, 0, by rw [h0]⟩
  · exact ⟨_, _, rfl⟩
theorem take_snocI (l : List Int) (i : Nat) (h : i < l.length) : l.take (i + 1) = l.take i ++ [l.getD i 0] := by
  rw [List.take_add_one, List.getD_eq_getElem?_getD, List.getElem?_eq_getElem h]
  rfl
set_option maxRecDepth 100000 in
set_option maxHeartbeats 4000000 in
theorem refPath_any (a : Option Addr) (len cap : Nat) (p : Int) (l : List Nd) (w : World) (hl : l.length = len) (hs : len ≤ 100000) (hr : Hid (NRow w a l)) (hn : Hid (NatN l)) :
    Calls Tryd.prog 68 #[.slice a len cap, .int .i64 p] w fun e w' => ∃ v, e = .returned (.tuple #[v, .int .i64 (place l p)]) ∧ Hid (w'.ownsRow w.heap.size 3 1 v (pathR l p).length (cellsL .i64 (pathR l p))) ∧ Below w.heap.size w w' := by
  go_enter Tryd.func68, Tryd.ntmps68
  go_wp2_with fail
  refine (nextD_any a len cap p l w hl (by omega) hr hn).mono ?_; rintro e w1 ⟨rfl, hB1⟩
  have hr1 : Hid (NRow w1 a l) := hr.out.later hB1
  by_cases hpl : place l p = 0
  · have hc : (chk 1 0 l).1 = 0 := by
      unfold place at hpl
      split at hpl
      · assumption
      · omega
    have hin : 0 ≤ p ∧ p < len := by
      unfold place at hpl
      rw [if_pos hc] at hpl
      split at hpl
      · omega
      · rw [← hl]; omega
    obtain ⟨q, rfl⟩ := Int.eq_ofNat_of_zero_le hin.1
    have hq : q < l.length := by omega
    have hqi : (q : Int) < len := by omega
    rw [next_is hc hq]
    have HC := hide_ hc
    have HPl := hide_ hpl
    obtain ⟨h1, h2, h3⟩ := way_inv l hc q hq
    have hpr : pathR l (q : Int) = pathL (way (l.take q) []) := by rw [pathR, if_pos hpl, Int.toNat_natCast]
    obtain ⟨S, hS⟩ : ∃ S, way (l.take q) [] = S := ⟨_, rfl⟩
    rw [hS] at h1 h2 h3 hpr
    have hSl := h1.len
    obtain ⟨s, hs2⟩ : ∃ s, S.length = s := ⟨_, rfl⟩
    have HS := hide_ hs2
    have HW := hide_ h2
    have HLd := hide_ h3
    have HPr := hide_ hpr
    have hsb : s ≤ 100000 := by omega
    have HB1 := hide_ hB1
    unfold pairv
    clear hc hpl h1 h2 h3 hpr hS hSl hs2 hB1 hr
    go_wp2_with fail
    go_loopw [8, 9] (fun xo xn wr => ∃ (v : Value) (i nd : Nat), v = xo ∧ i ≤ s ∧ xn = .int .i64 nd ∧ Hid (lead l (S.drop (s - i)) = nd) ∧ Hid (wr.ownsRow w1.heap.size 3 1 v i (cellsL .i64 ((pathL S).take i))) ∧ Hid (Below w1.heap.size w1 wr)) (fun xo _ _ => match xo with | .slice _ n _ => s - n | _ => 0)
    case atStart => exact ⟨_, 0, 0, rfl, Nat.zero_le _, rfl, by show _ = _; rw [Nat.sub_zero, ← HS.out, List.drop_length]; rfl, World.ownsRow_nil _ _ _ _, Below.refl _ _⟩
    case round =>
      obtain ⟨v, i, nd, rfl, hi, rfl, HNd, HO, HB⟩ := hrel
      obtain ⟨av, cv, rfl⟩ := own_sl HO.out
      by_cases hlt : i < s
      · obtain ⟨j, e1, e2, e3, e4, e5, e6⟩ := way_step HC.out HW.out (by rw [HLd.out]; exact hq) i (by rw [HS.out]; exact hlt)
        rw [HS.out] at e2 e3 e4 e5 e6
        rw [HNd.out] at e2 e3 e4
        rw [HLd.out] at e5 e6
        rw [← e4] at e5 e6
        have hnq : nd < q := by have := kp_gt (M := l) nd j; omega
        have hbn : ((nd : Int) == (q : Int)) = false := by simp; omega
        have hbn2 : ((nd : Int) != (q : Int)) = true := by simp; omega
        have HE1 := hide_ e1
        have HE4 := hide_ e4
        have HNr : Hid (NRow wr a l) := hr1.out.later HB.out
        clear e1 e4
        go_wp2_with fail
        go_loopw [10, 11] (fun xk xp wx => ∃ k : Nat, k ≤ j ∧ xk = .int .i64 k ∧ xp = .int .i64 (kp l nd k : Int) ∧ wr = wx) (fun xk _ _ => j - (intOf xk).toNat)
        case atStart => exact ⟨0, Nat.zero_le _, rfl, by rw [kp_zero]; go_num, rfl⟩
        case round =>
          obtain ⟨k, hk, rfl, rfl, rfl⟩ := hrel
          have hkp : kp l nd k < l.length := kp_in HC.out e2 (by omega)
          have hen : Hid (Enough 1 (l.drop (kp l nd k))) := chk_at l 1 0 _ HC.out hkp
          have hcon := behindD_any a len cap (kp l nd k) l wr hl (by omega) (by omega) HNr hen
          have HK2 : Hid (kp l nd k + bh 1 (l.drop (kp l nd k)) = kp l nd (k + 1)) := by show _ = _; rw [kp_succ]; rfl
          rw [HK2.out] at hcon
          have HCon := hide_ hcon
          have hjb : j ≤ 1048576 := by
            have h1 := chk_at l 1 0 nd HC.out e2
            rw [drop_at l nd e2] at h1
            have h2 := h1.2.1
            rw [← kN_cast HC.out e2] at h2
            omega
          clear hcon
          by_cases hkj : k < j
          · have hle := kp_le HC.out e2 (i := k + 1) (j := j) (by omega) (by omega)
            have hle' : (kp l nd (k + 1) : Int) ≤ (q : Int) := by omega
            go_wp2_with fail
            refine HCon.out.mono ?_; rintro e w2 ⟨rfl, rfl⟩
            go_wp2_with fail
            refine HCon.out.mono ?_; rintro e w2 ⟨rfl, rfl⟩
            go_wp2
            go_roundw
            case rel => exact ⟨k + 1, by omega, by go_num, rfl, trivial⟩
            case measure => simp [intOf]; omega
          · obtain rfl : k = j := by omega
            have hgt : ¬ ((kp l nd (k + 1) : Int) ≤ (q : Int)) := by
              rw [kp_succ]
              omega
            obtain ⟨g7, cap7, w7, r7, ow7, u7, -⟩ := run_push E43 wr 43 w1.heap.size _ _ _ HO.out (k : Int) (by unfold maxLen; omega) (by omega) HB.out.size
            have R7 := hide_ r7
            have HO7 : Hid (w7.ownsRow w1.heap.size 3 1 (.slice (some ⟨g7, 0, none⟩) (i + 1) cap7) (i + 1) (cellsL .i64 ((pathL S).take (i + 1)))) := by
              rw [take_snocI _ _ (by rw [pathL_len, HS.out]; exact hlt), HE1.out]
              exact ow7
            have HB7 : Hid (Below w1.heap.size w1 w7) := HB.out.trans (u7.below _ HB.out.size fun k hk => (HO.out.lt k hk).1)
            clear r7 ow7 u7
            go_wp2_with fail
            refine HCon.out.mono ?_; rintro e w2 ⟨rfl, rfl⟩
            go_wp2_with (at_builtin; have _t := R7; refine wpList_append_run rfl (.tmp 36) (.tmp 38) 43 43 rfl rfl rfl R7.out ?_; clear R7)
            go_roundw
            case rel => exact ⟨_, i + 1, kp l nd k, rfl, by omega, rfl, HE4.out.symm, HO7, HB7⟩
            case measure => simp; omega
      · obtain rfl : i = s := by omega
        have hnd : nd = q := by
          have := HNd.out
          rw [Nat.sub_self, List.drop_zero, HLd.out] at this
          exact this.symm
        subst hnd
        have hbn2 : ((nd : Int) != (nd : Int)) = false := by simp
        have HO2 : Hid (wr.ownsRow w.heap.size 3 1 (.slice av i cv) (pathR l (nd : Int)).length (cellsL .i64 (pathR l (nd : Int)))) := by
          have h := HO.out
          have hl2 : (pathL S).length = i := by rw [pathL_len, HS.out]
          rw [List.take_of_length_le (by omega)] at h
          rw [HPr.out, hl2]
          exact own_mono h HB1.out.size
        have HBw : Hid (Below w.heap.size w wr) := HB1.out.trans (HB.out.mono HB1.out.size)
        clear HO HB
        go_wp2
        go_ret2
        exact ⟨_, by rw [HPl.out]; rfl, HO2, HBw.out⟩
  · have HE : Hid (pathR l p = []) := by show _ = _; rw [pathR, if_neg hpl]
    have HE2 : Hid (nextR l p = (0, place l p)) := by show _ = _; rw [nextR, if_neg hpl]
    rw [HE2.out]
    obtain ⟨c, hc⟩ : ∃ c, place l p = c := ⟨_, rfl⟩
    rw [hc] at hpl ⊢
    have HCc := hide_ hc
    have hcb : ¬ c = 0 := hpl
    clear hc HE2
    unfold pairv
    go_wp2
    go_ret2
    exact ⟨_, by rw [HCc.out]; rfl, by rw [HE.out]; exact World.ownsRow_nil _ _ _ _, hB1⟩
end Go.Proofs.YtlbgdgobhiokpaaDoor

/- asks. -/
namespace Go.Proofs.YtlbgdgobhiokpaaDoor
open Go.RowKit
set_option linter.unusedVariables false

theorem wstep_len (S : Stk) (x : Nd) : (wstep S x).length ≤ S.length + 1 := by
  unfold wstep
  split
  · simp
  · exact Nat.le_trans (nextUp_len S) (Nat.le_succ _)
theorem way_len : ∀ (l : List Nd) (S : Stk), (way l S).length ≤ S.length + l.length
  | [], S => Nat.le_refl _
  | x :: l, S => by
    have h1 := way_len l (wstep S x)
    have h2 := wstep_len S x
    rw [way, List.length_cons]
    omega
theorem pathR_len (l : List Nd) (p : Int) : (pathR l p).length ≤ l.length := by
  unfold pathR
  split
  · have := way_len (l.take p.toNat) []
    unfold pathL
    rw [List.length_reverse, List.length_map]
    rw [List.length_take] at this
    simp at this
    omega
  · simp
theorem own_ints {B : Nat} {w : World} {v : Value} {D : List Int} (h : w.ownsRow B 3 1 v D.length (cellsL .i64 D)) : ∃ a cap, v = .slice a D.length cap ∧ Row .i64 w a D := by
  rcases Nat.eq_zero_or_pos D.length with h0 | h0
  · have hD : D = [] := List.eq_nil_of_length_eq_zero h0
    subst hD
    rcases h.2 with ⟨rfl, _⟩ | ⟨g, cap, cur, rfl, _⟩
    · exact ⟨none, 0, rfl, .inl ⟨rfl, rfl⟩⟩
    · exact ⟨_, cap, rfl, .inr ⟨_, rfl, fun i hi => by simp at hi⟩⟩
  · obtain ⟨g, cap, ys, rfl, hb, hn, hm, hl, ht, hK⟩ := own_blk h h0
    refine ⟨_, cap, rfl, Row.mk fun i hi => ?_⟩
    rw [hK.cell, Nat.zero_add]
    have e : ys[i]? = (cellsL .i64 D)[i]? := by rw [← ht, List.getElem?_take, if_pos hi]
    rw [e, cellsL_at _ _ _ hi]
theorem own_nrow1 {B g n cap : Nat} {w : World} {l : List Nd} (h : w.ownsRow B 37 3 (.slice (some ⟨g, 0, none⟩) n cap) l.length (cellsN l)) : NRow w (some ⟨g, 0, none⟩) l := by
  obtain ⟨a, c, e, hr, _⟩ := own_nrow h
  injection e with e1 _ _
  rw [e1]
  exact hr
def opv (kd : Int) (aV : Option Addr) (nV kV : Nat) (aW : Option Addr) (nW kW : Nat) (at_ kk : Int) (s : ByteArray) : Value := .agg #[.int .i64 kd, .slice aV nV kV, .slice aW nW kW, .int .i64 at_, .int .i64 kk, .string s]
set_option maxRecDepth 100000 in
set_option maxHeartbeats 8000000 in
theorem asks_any (B bt N : Nat) (Z : Nat → Prop) (kd : Int) (aV : Option Addr) (nV kV : Nat) (aW : Option Addr) (nW kW : Nat) (p kk : Int) (s : ByteArray) (g cap n k : Nat) (a : Option Addr) (l lW : List Nd) (w : World)
    (hb : Hid (Bk B w bt N Z)) (hN : N ≤ 800) (hl : l.length = n) (hn : n ≤ 400) (hcap : n ≤ cap) (hcm : cap ≤ 9223372036854775807) (ho : Hid (NRow w (some ⟨g, 0, none⟩) l)) (hv : Hid (NRow w a l)) (hvn : a = none → k = 0) (hnat : Hid (NatN l))
    (hlW : lW.length = nW) (hnW : nW ≤ 9223372036854775807) (hkW : nW ≤ kW) (hrW : Hid (NRow w aW lW)) (hWn : aW = none → kW = 0) (ht : Hid (Tab w.heap.size w)) :
    Calls Tryd.prog 56 #[.pointer (some ⟨bt, 0, none⟩), opv kd aV nV kV aW nW kW p kk s, .slice (some ⟨g, 0, none⟩) n cap, .slice a n k] w fun e w' => e = .returned (.bool true) ∧ Hid (BkTo B w w' bt (N + 2) Z) := by
  unfold opv
  obtain ⟨wA, hwA⟩ : ∃ wA, wA = w.alloc (.cells #[.int .i64 kd, .slice aV nV kV, .slice aW nW kW, .int .i64 p, .int .i64 kk, .string s] 81) := ⟨_, rfl⟩
  have KA : Hid (Blk wA w.heap.size 81 [.int .i64 kd, .slice aV nV kV, .slice aW nW kW, .int .i64 p, .int .i64 kk, .string s]) := by rw [hwA]; exact Blk.newA w _ 81
  have HBA : Hid (Below w.heap.size w wA) := by rw [hwA]; exact (Below.refl _ _).alloc (Nat.le_refl _) _
  have HoA := hide_ (ho.out.later HBA.out)
  have HvA := hide_ (hv.out.later HBA.out)
  have HWA := hide_ (hrW.out.later HBA.out)
  have c0 : wA.cell? ⟨w.heap.size, 0, none⟩ = some (.int .i64 kd) := KA.out.cell 0
  have c2 : wA.cell? ⟨w.heap.size, 2, none⟩ = some (.slice aW nW kW) := KA.out.cell 2
  have c3 : wA.cell? ⟨w.heap.size, 3, none⟩ = some (.int .i64 p) := KA.out.cell 3
  have c4 : wA.cell? ⟨w.heap.size, 4, none⟩ = some (.int .i64 kk) := KA.out.cell 4
  have HTA : Hid (∀ w', Below w.heap.size w w' → Tab w'.heap.size w') := fun w' hB => (ht.out.below hB).mono hB.size
  have HF : Hid (∀ w', Below w.heap.size w w' → BkTo B w w' bt (N + 2) Z) := fun w' hB => BkTo.later hb.out hB (by omega)
  go_enter Tryd.func56, Tryd.ntmps56
  go_upto_region 1 with fail
  rw [← hwA]
  clear hwA
  by_cases h1 : kd = 1
  · subst h1
    clear hb
    go_wp2_with fail
    refine (checkD_any a n k l wA hl (by omega) HvA hnat).mono ?_; rintro e w1 ⟨rfl, hB1⟩
    have HB1 := hide_ (HBA.out.trans (hB1.mono HBA.out.size))
    have Ho1 := hide_ (HoA.out.later hB1)
    clear hB1
    generalize hR : chk 1 0 l = R
    have HR := hide_ hR
    clear hR
    obtain ⟨e0, a0⟩ := R
    unfold pairv
    go_wp2_with fail
    refine (check_any (some ⟨g, 0, none⟩) n cap l w1 hl (by omega) Ho1).mono ?_; rintro e w2 ⟨rfl, hB2⟩
    rw [HR.out]
    have HB2 := hide_ (HB1.out.trans (hB2.mono HB1.out.size))
    clear hB2
    unfold fltv
    go_wp2_with fail
    refine (fault_any e0 a0 e0 a0 w2).mono ?_; rintro e w3 ⟨rfl, hB3⟩
    go_wp2
    go_ret
    exact ⟨by simp, HF.out _ (HB2.out.trans (hB3.mono HB2.out.size))⟩
  by_cases h2 : kd = 2
  · subst h2
    clear hb
    go_wp2_with fail
    refine (next_any (some ⟨g, 0, none⟩) n cap p l wA hl (by omega) HoA).mono ?_; rintro e w1 ⟨rfl, hB1⟩
    have HB1 := hide_ (HBA.out.trans (hB1.mono HBA.out.size))
    have Hv1 := hide_ (HvA.out.later hB1)
    have K1 := KA.out.later hB1
    have d3 : w1.cell? ⟨w.heap.size, 3, none⟩ = some (.int .i64 p) := K1.cell 3
    have d4 : w1.cell? ⟨w.heap.size, 4, none⟩ = some (.int .i64 kk) := K1.cell 4
    clear hB1 K1 KA
    generalize hR : nextR l p = R
    have HR := hide_ hR
    clear hR
    obtain ⟨e0, a0⟩ := R
    unfold pairv
    go_wp2_with fail
    refine (nextD_any a n k p l w1 hl (by omega) Hv1 hnat).mono ?_; rintro e w2 ⟨rfl, hB2⟩
    rw [HR.out]
    have HB2 := hide_ (HB1.out.trans (hB2.mono HB1.out.size))
    clear hB2
    unfold pairv
    go_wp2_with (go_at_call 13; refine (num_any _ _).mono ?_; rintro e w' ⟨rfl, rfl⟩)
    go_ret
    exact ⟨by first | rfl | simp, HF.out _ HB2.out⟩
  by_cases h3 : kd = 3
  · subst h3
    clear hb
    go_wp2_with fail
    refine (kid_any (some ⟨g, 0, none⟩) n cap p kk l wA hl (by omega) HoA).mono ?_; rintro e w1 ⟨rfl, hB1⟩
    have HB1 := hide_ (HBA.out.trans (hB1.mono HBA.out.size))
    have Hv1 := hide_ (HvA.out.later hB1)
    have K1 := KA.out.later hB1
    have d3 : w1.cell? ⟨w.heap.size, 3, none⟩ = some (.int .i64 p) := K1.cell 3
    have d4 : w1.cell? ⟨w.heap.size, 4, none⟩ = some (.int .i64 kk) := K1.cell 4
    clear hB1 K1 KA
    generalize hR : kidR l p kk = R
    have HR := hide_ hR
    clear hR
    obtain ⟨e0, a0⟩ := R
    unfold pairv
    go_wp2_with fail
    refine (refKid_any a n k p kk l w1 hl (by omega) Hv1 hnat).mono ?_; rintro e w2 ⟨rfl, hB2⟩
    rw [HR.out]
    have HB2 := hide_ (HB1.out.trans (hB2.mono HB1.out.size))
    clear hB2
    unfold pairv
    go_wp2_with (go_at_call 13; refine (num_any _ _).mono ?_; rintro e w' ⟨rfl, rfl⟩)
    go_ret
    exact ⟨by first | rfl | simp, HF.out _ HB2.out⟩
  by_cases h4 : kd = 4
  · subst h4
    have hpl := pathR_len l p
    go_wp2_with fail
    refine (path_any (some ⟨g, 0, none⟩) n cap p l wA hl hcap (by omega) hcm HoA).mono ?_; rintro e w1 ⟨v1, rfl, HO1, hB1⟩
    have HB1 := hide_ (HBA.out.trans (hB1.mono HBA.out.size))
    have Ho1 := hide_ (HoA.out.later hB1)
    have Hv1 := hide_ (HvA.out.later hB1)
    have HK1 := hide_ (KA.out.later hB1)
    have d3 : w1.cell? ⟨w.heap.size, 3, none⟩ = some (.int .i64 p) := HK1.out.cell 3
    have HO1 := hide_ (own_mono HO1.out HBA.out.size)
    clear hB1 KA HoA HvA
    go_wp2_with fail
    refine (path_any (some ⟨g, 0, none⟩) n cap p l w1 hl hcap (by omega) hcm Ho1).mono ?_; rintro e w2 ⟨v2, rfl, HO2, hB2⟩
    have HB2 := hide_ (HB1.out.trans (hB2.mono HB1.out.size))
    have Hv2 := hide_ (Hv1.out.later hB2)
    have HK2 := hide_ (HK1.out.later hB2)
    have d3b : w2.cell? ⟨w.heap.size, 3, none⟩ = some (.int .i64 p) := HK2.out.cell 3
    have HO1b := hide_ (ownS_upd HO1.out (Upd.of_below (S := fun _ => False) hB2) (fun _ _ h => h))
    have hne : Hid (∀ q, v1.ownBlock = some q → v2.ownBlock ≠ some q) := fun q h1 h2 => by
      have e1 := (HO1.out.lt q h1).2
      have e2 := (HO2.out.lt q h2).1
      omega
    have HO2 := hide_ (own_mono HO2.out HB1.out.size)
    clear hB2 HK1 Ho1 Hv1 HO1
    go_wp2_with fail
    refine (refPath_any a n k p l w2 hl (by omega) Hv2 hnat).mono ?_; rintro e w3 ⟨v3, rfl, HO3, hB3⟩
    have HB3 := hide_ (HB2.out.trans (hB3.mono HB2.out.size))
    have HO1c := hide_ (ownS_upd HO1b.out (Upd.of_below (S := fun _ => False) hB3) (fun _ _ h => h))
    have HO2c := hide_ (ownS_upd HO2.out (Upd.of_below (S := fun _ => False) hB3) (fun _ _ h => h))
    clear hB3 HK2 Hv2 HO1b HO2
    generalize hR : pathR l p = R at *
    generalize place l p = pl at *
    clear hR
    obtain ⟨a1, k1, rfl, r1⟩ := own_ints HO1c.out
    obtain ⟨a2, k2, rfl, r2⟩ := own_ints HO2c.out
    obtain ⟨a3, k3, rfl, r3⟩ := own_ints HO3.out
    have Hr1 := hide_ r1
    have Hr2 := hide_ r2
    have Hr3 := hide_ r3
    clear r1 r2 r3 HO3
    go_wp2_with fail
    refine (sameInts_any a1 a3 R.length R.length k1 k3 R R w3 rfl rfl (by omega) (by omega) Hr1 Hr3).mono ?_; rintro e w4 ⟨rfl, hB4⟩
    rw [show decide (R = R) = true from decide_eq_true rfl]
    have HB4 := hide_ (HB3.out.trans (hB4.mono HB3.out.size))
    have HB34 := hide_ hB4
    have Hr2b := hide_ (Hr2.out.later hB4)
    have Hr3b := hide_ (Hr3.out.later hB4)
    clear hB4
    go_wp2_with fail
    refine (sameInts_any a2 a3 R.length R.length k2 k3 R R w4 rfl rfl (by omega) (by omega) Hr2b Hr3b).mono ?_; rintro e w5 ⟨rfl, hB5⟩
    rw [show decide (R = R) = true from decide_eq_true rfl]
    have HB5 := hide_ (HB4.out.trans (hB5.mono HB4.out.size))
    have HO1d := hide_ (ownS_upd HO1c.out (Upd.of_below (S := fun _ => False) (below_to HB34.out hB5)) (fun _ _ h => h))
    have HO2d := hide_ (ownS_upd HO2c.out (Upd.of_below (S := fun _ => False) (below_to HB34.out hB5)) (fun _ _ h => h))
    clear hB5 HB34 Hr1 Hr2 Hr3 Hr2b Hr3b HO1c HO2c HB4 HB3
    have Hbk := hide_ (hb.out.later HB5.out)
    have z1 : Hid (∀ q, (Value.slice a1 R.length k1).ownBlock = some q → ¬ Z q) := fun q hq e => by
      have h1 := (HO1d.out.lt q hq).1
      have h2 := (hb.out.z q e).2
      omega
    go_wp2_with (go_at_call 13; refine (num_any _ _).mono ?_; rintro e w' ⟨rfl, rfl⟩)
    refine (bk_ints (D := R) Hbk.out (own_mono HO1d.out hb.out.base) z1.out (by omega) (by omega)).mono ?_; rintro e w6 ⟨rfl, HI⟩
    obtain ⟨Z2, b2, u2, q2⟩ := HI.out
    have HO2e : Hid (w6.ownsRow w.heap.size 3 1 (.slice a2 R.length k2) R.length (cellsL .i64 R)) := ownS_upd HO2d.out u2 fun q hq e => by
      rcases e with e | e | e
      · subst e
        obtain ⟨xs, hx⟩ := Hbk.out.tab.2
        obtain ⟨ys, hy⟩ := ownS_type HO2d.out hq
        exact absurd (blk_type hx hy) (by decide)
      · exact hne.out q e hq
      · have h1 := (HO2d.out.lt q hq).1
        have h2 := (hb.out.z q e).2
        omega
    have z2 : Hid (∀ q, (Value.slice a2 R.length k2).ownBlock = some q → ¬ Z2 q) := fun q hq e => by
      have h1 := (HO2d.out.lt q hq)
      rcases q2 q e with h | h | h
      · have h2 := (hb.out.z q h).2
        omega
      · exact hne.out q h hq
      · omega
    have Hb2 := hide_ b2
    have Hu2 := hide_ u2
    have Hq2 := hide_ q2
    clear HI b2 u2 q2
    go_wp2_with fail
    refine (bk_ints (D := R) Hb2.out (own_mono HO2e.out hb.out.base) z2.out (by omega) (by omega)).mono ?_; rintro e w7 ⟨rfl, HJ⟩
    obtain ⟨Z3, b3, u3, q3⟩ := HJ.out
    have fin : Hid (BkTo B w w7 bt (N + 2) Z) := bk_two HB5.out (fun q hq => (HO1d.out.lt q hq).1) (fun q hq => (HO2d.out.lt q hq).1) Hu2.out Hq2.out u3 q3 b3
    clear HJ b3 u3 q3
    go_wp2
    go_ret
    exact ⟨by first | rfl | simp, fin⟩
  by_cases h5 : kd = 5
  · subst h5
    obtain ⟨nc, hnc⟩ : ∃ nc, min nW 400 = nc := ⟨_, rfl⟩
    obtain ⟨lc, hlc⟩ : ∃ lc, lW.take nc = lc := ⟨_, rfl⟩
    have hlcl : lc.length = nc := by rw [← hlc, List.length_take, hlW]; omega
    have hnc4 : nc ≤ 400 := by omega
    have HRc : Hid (NRow w aW lc) := by rw [← hlc]; exact hrW.out.take nc
    have HCut : Hid (∀ w', Below w.heap.size w w' → Calls Tryd.prog 54 #[.slice aW nW kW] w' fun e w'' => e = .returned (.slice aW nc kW) ∧ w' = w'') := fun w' hB => by
      have := cut_any aW nW kW lW w' hlW hnW hkW (hrW.out.later hB)
      rw [hnc] at this
      exact this
    clear hnc hlc hb
    go_wp2_with fail
    refine (HCut.out wA HBA.out).mono ?_; rintro e w' ⟨rfl, rfl⟩
    go_wp2_with fail
    refine (lent_any aW nc kW lc wA hlcl (by omega) hWn (HRc.out.later HBA.out)).mono ?_; intro e w1 HL1
    obtain ⟨g1, c1, rfl, hg1, hc1, ho1, hB1⟩ := HL1.out
    rw [hlcl] at hc1 ⊢
    have HB1 := hide_ (HBA.out.trans (hB1.mono HBA.out.size))
    have HoM1 := hide_ (own_nrow1 (by rw [List.length_append]; exact ho1))
    have HK1 := hide_ (KA.out.later hB1)
    have d2 : w1.cell? ⟨w.heap.size, 2, none⟩ = some (.slice aW nW kW) := HK1.out.cell 2
    have Ho1 := hide_ (HoA.out.later hB1)
    have Hv1 := hide_ (HvA.out.later hB1)
    have HoL1 : Hid (NRow w1 (some ⟨g1, 0, none⟩) lc) := by
      have := HoM1.out.take lc.length
      rw [List.take_left'] at this
      · exact this
      · rfl
    clear hB1 ho1 HL1 KA HoA HvA
    generalize hdd : decide (l = lc) = dd
    have Hdd := hide_ hdd
    clear hdd
    go_wp2_with fail
    refine (equal_any (some ⟨g, 0, none⟩) (some ⟨g1, 0, none⟩) n nc cap c1 l lc w1 hl hlcl (by omega) (by omega) Ho1 HoL1).mono ?_; rintro e w2 ⟨rfl, hB2⟩
    rw [Hdd.out]
    have HB2 := hide_ (HB1.out.trans (hB2.mono HB1.out.size))
    have Hv2 := hide_ (Hv1.out.later hB2)
    have Ho2 := hide_ (Ho1.out.later hB2)
    have HoL2 := hide_ (HoL1.out.later hB2)
    have HoM2 := hide_ (HoM1.out.later hB2)
    have HK2 := hide_ (HK1.out.later hB2)
    clear hB2 Ho1 Hv1 HoL1 HoM1 HK1
    go_wp2_with fail
    refine (refEqual_any a (some ⟨g1, 0, none⟩) n nc k c1 l lc w2 hl hlcl (by omega) (by omega) Hv2 HoL2).mono ?_; rintro e w3 ⟨rfl, hB3⟩
    rw [Hdd.out]
    have HB3 := hide_ (HB2.out.trans (hB3.mono HB2.out.size))
    have Hv3 := hide_ (Hv2.out.later hB3)
    have Ho3 := hide_ (Ho2.out.later hB3)
    have HoM3 := hide_ (HoM2.out.later hB3)
    have HK3 := hide_ (HK2.out.later hB3)
    have d3 : w3.cell? ⟨w.heap.size, 2, none⟩ = some (.slice aW nW kW) := HK3.out.cell 2
    clear hB3 Ho2 Hv2 HoL2 HoM2 HK2
    have edd : (dd == dd) = true := by simp
    go_wp2_with fail
    refine (HCut.out w3 HB3.out).mono ?_; rintro e w' ⟨rfl, rfl⟩
    go_wp2_with fail
    refine (kept_any g1 c1 nc kW aW lc w3 hlcl (by omega) hc1 HoM3 (HRc.out.later HB3.out)).mono ?_; rintro e w4 ⟨rfl, HB34⟩
    have HB4 := hide_ (HB3.out.trans (HB34.out.mono HB3.out.size))
    have Hv4 := hide_ (Hv3.out.later HB34.out)
    have Ho4 := hide_ (Ho3.out.later HB34.out)
    clear HB34 Hv3 Ho3 HoM3 HK3
    go_wp2_with fail
    refine (lent_any a n k l w4 hl (by omega) hvn Hv4).mono ?_; intro e w5 HL5
    obtain ⟨g5, c5, rfl, hg5, hc5, ho5, hB5⟩ := HL5.out
    rw [hl]
    have HB5 := hide_ (HB4.out.trans (hB5.mono HB4.out.size))
    have HoM5 := own_nrow1 (l := l ++ [markN]) (by rw [List.length_append]; exact ho5)
    have HoL5 : Hid (NRow w5 (some ⟨g5, 0, none⟩) l) := by
      have := HoM5.take l.length
      rw [List.take_left'] at this
      · exact this
      · rfl
    have Ho5 := hide_ (Ho4.out.later hB5)
    clear hB5 ho5 HL5 HoM5 hc5
    go_wp2_with fail
    refine (equal_any (some ⟨g, 0, none⟩) (some ⟨g5, 0, none⟩) n n cap c5 l l w5 hl hl (by omega) (by omega) Ho5 HoL5).mono ?_; rintro e w6 ⟨rfl, hB6⟩
    rw [show decide (l = l) = true by simp]
    go_wp2
    go_ret
    exact ⟨by first | rfl | simp, HF.out _ (HB5.out.trans (hB6.mono HB5.out.size))⟩
  by_cases h6 : kd = 6
  · subst h6
    clear hb
    go_wp2_with fail
    refine (print_any (some ⟨g, 0, none⟩) n cap l wA hl (by omega) HoA (fun x hx => (hnat.out x hx).1) (HTA.out wA HBA.out)).mono ?_; rintro e w1 ⟨rfl, hB1⟩
    have HB1 := hide_ (HBA.out.trans (hB1.mono HBA.out.size))
    have Hv1 := hide_ (HvA.out.later hB1)
    clear hB1 KA
    generalize hS : printS l = S
    generalize hR : (chk 1 0 l).1 = R
    have HS := hide_ hS
    have HR := hide_ hR
    clear hS hR
    go_wp2_with fail
    refine (refPrint_any a n k l w1 hl (by omega) Hv1 hnat (HTA.out w1 HB1.out)).mono ?_; rintro e w2 ⟨rfl, hB2⟩
    rw [HS.out, HR.out]
    have HB2 := hide_ (HB1.out.trans (hB2.mono HB1.out.size))
    clear hB2
    go_wp2_with (go_at_call 13; refine (num_any _ _).mono ?_; rintro e w' ⟨rfl, rfl⟩)
    go_ret
    exact ⟨by first | rfl | simp, HF.out _ HB2.out⟩
  go_wp2
  go_ret
  exact ⟨rfl, HF.out _ HBA.out⟩
end Go.Proofs.YtlbgdgobhiokpaaDoor
