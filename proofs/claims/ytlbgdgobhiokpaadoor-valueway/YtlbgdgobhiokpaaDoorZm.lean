/- ValueWay: the walk. -/
import Derived.Test.YtlbgdgobhiokpaaDoorZl
namespace Go.Proofs.YtlbgdgobhiokpaaDoor
open Go.RowKit
set_option linter.unusedVariables false

theorem way_at (S : Stk) (i : Nat) (hi : i < S.length) : ∃ j f, S.drop (S.length - (i + 1)) = (j, f) :: S.drop (S.length - i) ∧ (pathL S).getD i 0 = j := by
  have h1 : S.length - (i + 1) < S.length := by omega
  refine ⟨(S[S.length - (i + 1)]'h1).1, (S[S.length - (i + 1)]'h1).2, ?_, ?_⟩
  · rw [List.drop_eq_getElem_cons h1, show S.length - (i + 1) + 1 = S.length - i by omega]
  · have h2 : i < (pathL S).length := by rw [pathL_len]; exact hi
    rw [List.getD, List.getElem?_eq_getElem h2]
    simp only [pathL, List.getElem_reverse, List.getElem_map, List.length_map, Option.getD_some]
    congr 2
    omega
theorem way_lead (M : List Nd) (S : Stk) (hW : Ways M S) (hok : (chk 1 0 M).1 = 0) (hl : lead M S < M.length) (i : Nat) (hi : i < S.length) :
    kidR M (lead M (S.drop (S.length - i)) : Int) ((pathL S).getD i 0) = ((lead M (S.drop (S.length - (i + 1))) : Int), 0) ∧ lead M (S.drop (S.length - i)) < lead M (S.drop (S.length - (i + 1))) ∧ lead M (S.drop (S.length - (i + 1))) < M.length := by
  obtain ⟨j, f, h1, h2⟩ := way_at S i hi
  have hW2 : Ways M ((j, f) :: S.drop (S.length - i)) := by
    rw [← h1]
    exact Ways.tail (Z := S.take (S.length - (i + 1))) (by rw [List.take_append_drop]; exact hW)
  have hle : lead M ((j, f) :: S.drop (S.length - i)) ≤ lead M S := by
    rw [← h1]
    have := lead_le M (S.take (S.length - (i + 1))) (S.drop (S.length - (i + 1)))
    rwa [List.take_append_drop] at this
  obtain ⟨g0, g1, g2, -⟩ := hW2
  have hlt := lead_lt M j f (S.drop (S.length - i))
  obtain ⟨jn, rfl⟩ := Int.eq_ofNat_of_zero_le g0
  rw [h2, h1]
  refine ⟨?_, hlt, by omega⟩
  rw [kid_is hok (by omega) (by rw [g2]; omega)]
  simp [lead]
set_option maxRecDepth 100000 in
set_option maxHeartbeats 16000000 in
theorem way_any (a : Option Addr) (len cap : Nat) (at0 : Int) (raw : List Nd) (w : World) (hl : raw.length = len) (hm : len ≤ 9223372036854775807) (hr : Hid (NRaw w a raw)) (hf : Hid (∀ x ∈ raw, Fits x)) (hat : -9223372036854775808 ≤ at0 ∧ at0 ≤ 9223372036854775807) (ht : Hid (Tab w.heap.size w)) :
    Calls Tryd.prog 5 #[.slice a len cap, .int .i64 at0] w fun e w' => e = .returned (.bool true) ∧ Below w.heap.size w w' := by
  go_enter Tryd.func5, Tryd.ntmps5
  go_wp2_with fail
  refine (awake_any w ht).mono ?_; rintro e w1 ⟨rfl, hB1⟩
  have hr1 : Hid (NRaw w1 a raw) := hr.out.later hB1
  go_wp2_with fail
  refine (made_any a len cap raw w1 hl hm hr1 hf).mono ?_; rintro e w2 ⟨v, M, rfl, HO2, HM, hB2⟩
  have HB2 : Hid (Below w.heap.size w w2) := hB1.trans (hB2.mono hB1.size)
  obtain ⟨av, cv, rfl, HN, hc1, hc2, -⟩ := own_nrow HO2.out
  have HN2 : Hid (NRow w2 av M) := HN
  have hok := HM.out.ok
  have hlen := HM.out.len
  have hne : 0 < M.length := by
    rcases Nat.eq_zero_or_pos M.length with h | h
    · rw [List.length_eq_zero_iff.1 h] at hok; simp [chk] at hok
    · exact h
  obtain ⟨n, hn⟩ : ∃ n, M.length = n := ⟨_, rfl⟩
  rw [hn] at hc1 hlen hne ⊢
  have HOK : Hid ((chk 1 0 M).1 = 0) := hok
  have HLn : Hid (M.length = n) := hn
  clear hr1 hr hf hB1 hB2 HO2 HN ht hok hn HM
  go_wp2_with fail
  refine (rest_any at0 0 ((n : Int) - 1) _ (by decide) (by omega) (by omega) hat).mono ?_; rintro e w2' ⟨k, rfl, hk1, hk2, rfl⟩
  obtain ⟨k, rfl⟩ := Int.eq_ofNat_of_zero_le hk1
  have hk : k < n := by omega
  clear hk1 hk2 hat
  go_wp2_with fail
  refine (path_any av n cv (k : Int) M w2 HLn.out hc1 (by omega) hc2 HN2).mono ?_; rintro e w3 ⟨vp, rfl, HP3, hB3⟩
  have hpl : place M (k : Int) = 0 := place_zero HOK.out (by rw [HLn.out]; exact hk)
  obtain ⟨-, HW, HLd⟩ := way_inv M HOK.out k (by rw [HLn.out]; exact hk)
  have hpr : pathR M (k : Int) = pathL (way (M.take k) []) := by rw [pathR, if_pos hpl, Int.toNat_natCast]
  rw [hpr] at HP3
  obtain ⟨S, hS⟩ : ∃ S, way (M.take k) [] = S := ⟨_, rfl⟩
  rw [hS] at HP3 HW HLd
  have HSl : S.length ≤ n := by have := (way_inv M HOK.out k (by rw [HLn.out]; exact hk)).1.len; rw [hS] at this; omega
  rw [hpl]
  obtain ⟨ap, cp, rfl, HRp, -, -, -, -⟩ := own_open HP3.out rfl
  have HN3 : Hid (NRow w3 av M) := HN2.out.later hB3
  have HB3 : Hid (Below w.heap.size w w3) := HB2.out.trans (hB3.mono HB2.out.size)
  have HRp3 : Hid (Row .i64 w3 ap (pathL S)) := HRp
  have HW3 : Hid (Ways M S) := HW
  have HLd3 : Hid (lead M S = k) := HLd
  obtain ⟨s, hs⟩ : ∃ s, (pathL S).length = s := ⟨_, rfl⟩
  have HSs : Hid (S.length = s) := by rw [pathL_len] at hs; exact hs
  rw [hs]
  clear hpl hpr hS HP3 HRp HW HLd hs HN2 HB2 hB3
  have hsn : s ≤ n := by have := HSs.out; omega
  clear HSl
  go_wp2_with (go_at_call 13; refine (num_any _ _).mono ?_; rintro e w' ⟨rfl, rfl⟩)
  go_loopw [9, 10] (fun xn xi wr => ∃ i : Nat, i ≤ s ∧ xi = .int .i64 i ∧ xn = .int .i64 (lead M (S.drop (s - i)) : Int) ∧ Hid (Below w3.heap.size w3 wr)) (fun _ xi _ => s - (intOf xi).toNat)
  case atStart => exact ⟨0, Nat.zero_le _, rfl, by rw [Nat.sub_zero, ← HSs.out, List.drop_length]; rfl, Below.refl _ _⟩
  case round =>
    obtain ⟨i, hi, rfl, rfl, HBr⟩ := hrel
    have HNr : Hid (NRow wr av M) := HN3.out.later HBr.out
    by_cases hlt : i < s
    · have hlt' : (i : Int) < s := by omega
      obtain ⟨e1, e2, e3⟩ := way_lead M S HW3.out HOK.out (by rw [HLd3.out, HLn.out]; exact hk) i (by rw [HSs.out]; exact hlt)
      rw [HSs.out] at e1 e2 e3
      obtain ⟨bp, op, rfl, hbp, hcp⟩ := HRp3.out.open (by rw [pathL_len, HSs.out]; omega)
      have d0 := (HBr.out.cell (p := ⟨bp, op + i, none⟩) hbp).trans (hcp i (by rw [pathL_len, HSs.out]; exact hlt))
      have HE1 : Hid _ := e1
      have HE2 : Hid _ := e2
      clear hcp e1
      generalize (pathL S).getD i 0 = pj at *
      go_wp2_with fail
      refine (kid_any av n cv _ pj M wr HLn.out (by omega) HNr).mono ?_; rintro e w4 ⟨rfl, hB4⟩
      rw [HE1.out]
      unfold pairv
      have e2' : ¬ ((lead M (S.drop (s - (i + 1))) : Int) ≤ (lead M (S.drop (s - i)) : Int)) := by omega
      go_wp2_with (go_at_call 13; refine (num_any _ _).mono ?_; rintro e w' ⟨rfl, rfl⟩)
      go_roundw
      case rel => exact ⟨i + 1, by omega, by go_num, rfl, HBr.out.trans (hB4.mono HBr.out.size)⟩
      case measure => simp [intOf]; omega
    · obtain rfl : i = s := by omega
      have hlk : (lead M (S.drop (i - i)) : Int) = k := by rw [Nat.sub_self, List.drop_zero, HLd3.out]
      rw [hlk]
      have hk' : k < M.length := by rw [HLn.out]; exact hk
      go_wp2_with fail
      refine (next_any av n cv (k : Int) M wr HLn.out (by omega) HNr).mono ?_; rintro e w4 ⟨rfl, hB4⟩
      rw [next_is HOK.out hk']
      unfold pairv
      have HN4 : Hid (NRow w4 av M) := HNr.out.later hB4
      have HB4 : Hid (Below w.heap.size w w4) := HB3.out.trans ((HBr.out.trans (hB4.mono HBr.out.size)).mono HB3.out.size)
      obtain ⟨E, hE⟩ : ∃ E, endOf M k = E := ⟨_, rfl⟩
      rw [hE]
      have hE0 : k = 0 → E = n := fun h => by
        subst h
        rw [← hE, endOf, List.drop_zero, (chk_enough M 1 0 HOK.out).2.1, HLn.out, Nat.zero_add]
      obtain ⟨c0, hc0⟩ : ∃ c0, (M.getD k nil0).2.2 = c0 := ⟨_, rfl⟩
      have hcb : 0 ≤ c0 ∧ c0 ≤ 1048576 := by
        have h1 := chk_at M 1 0 k HOK.out hk'
        rw [drop_at M k hk'] at h1
        rw [← hc0]
        exact ⟨h1.1, h1.2.1⟩
      obtain ⟨c, rfl⟩ := Int.eq_ofNat_of_zero_le hcb.1
      have HC : Hid ((M.getD k nil0).2.2 = (c : Int)) := hc0
      have HEe : Hid (k + 1 + bh c (M.drop (k + 1)) = E) := by show _ = _; rw [← hE, endOf_node M k hk' c hc0]
      clear HNr HBr HB3 hB4 hlk hE hc0 HW3 HLd3 HRp3 HN3 HSs
      have hk2 : (k : Int) < n := by omega
      have hcase : ((((k : Int) == 0) = true) ∧ (((E : Int) == (n : Int)) = true)) ∨ (((k : Int) == 0) = false) := by
        by_cases h : k = 0
        · exact .inl ⟨by rw [h]; rfl, by rw [hE0 h]; simp⟩
        · exact .inr (beq_eq_false_iff_ne.2 (by omega))
      have hn1 : n ≤ 1000000 := by omega
      have hkE : k + 1 ≤ E := by have := HEe.out; omega
      clear hE0
      rcases hcase with ⟨hb1, hb2⟩ | hb1
      all_goals
        go_wp2_with (go_at_call 13; refine (num_any _ _).mono ?_; rintro e w' ⟨rfl, rfl⟩)
        (try simp only [hb1])
        (try simp only [hb2])
        (try simp only [bne, hb2, Bool.not_true])
        (try clear hb2)
        clear hb1
        go_loopw [15, 16] (fun xp xi wr => ∃ (i P : Nat), i ≤ c ∧ xi = .int .i64 i ∧ xp = .int .i64 P ∧ Hid (k + 1 + bh i (M.drop (k + 1)) = P) ∧ Hid (Below w4.heap.size w4 wr)) (fun _ xi _ => c - (intOf xi).toNat)
        case atStart => exact ⟨0, k + 1, Nat.zero_le _, rfl, by go_num, by show _ = _; rw [bh_zero], Below.refl _ _⟩
        case round =>
          obtain ⟨i2, P, hi2, rfl, rfl, HPi, HBr⟩ := hrel
          have HNr : Hid (NRow wr av M) := HN4.out.later HBr.out
          obtain ⟨bv, ov, rfl, hbv, hcv⟩ := HNr.out.open (by rw [HLn.out]; omega)
          obtain ⟨-, -, x2⟩ := hcv k hk'
          rw [HC.out] at x2
          clear hcv
          by_cases hlt : i2 < c
          · have hlt' : (i2 : Int) < c := by omega
            have hPl : P < M.length := by rw [← HPi.out]; exact kid_lt HOK.out hk' (by rw [HC.out]; exact hlt')
            go_wp2_with fail
            refine (kid_any _ n cv (k : Int) (i2 : Int) M wr HLn.out hn1 HNr).mono ?_; rintro e w5 ⟨rfl, hB5⟩
            rw [kid_is HOK.out hk' (by rw [HC.out]; exact hlt'), HPi.out]
            unfold pairv
            have HN5 : Hid (NRow w5 (some ⟨bv, ov, none⟩) M) := HNr.out.later hB5
            have HB5 : Hid (Below w4.heap.size w4 w5) := HBr.out.trans (hB5.mono HBr.out.size)
            clear HNr HBr hB5 x2
            go_wp2_with (first | (go_at_call 13; refine (num_any _ _).mono ?_; rintro e w' ⟨rfl, rfl⟩) | (go_at_call 21; fail))
            refine (next_any _ n cv (P : Int) M w5 HLn.out hn1 HN5).mono ?_; rintro e w6 ⟨rfl, hB6⟩
            rw [next_is HOK.out hPl]
            unfold pairv
            have hP2 : Hid (k + 1 + bh (i2 + 1) (M.drop (k + 1)) = endOf M P) := by show _ = _; rw [endOf_kid, HPi.out]
            have HB6 : Hid (Below w4.heap.size w4 w6) := HB5.out.trans (hB6.mono HB5.out.size)
            clear HN5 HB5 hB6
            go_wp2_with (go_at_call 13; refine (num_any _ _).mono ?_; rintro e w' ⟨rfl, rfl⟩)
            go_roundw
            case rel => exact ⟨i2 + 1, endOf M P, by omega, by go_num, rfl, hP2, HB6⟩
            case measure => simp [intOf]; omega
          · obtain rfl : i2 = c := by omega
            obtain rfl : P = E := HPi.out.symm.trans HEe.out
            have hcon := kid_any (some ⟨bv, ov, none⟩) n cv (k : Int) (i2 : Int) M wr HLn.out hn1 HNr
            rw [← HC.out, kid_none HOK.out hk', HC.out] at hcon
            unfold pairv at hcon
            go_wp2_with fail
            refine hcon.mono ?_; rintro e w5 ⟨rfl, hB5⟩
            have HN5 : Hid (NRow w5 (some ⟨bv, ov, none⟩) (M.take k)) := (HNr.out.later hB5).take k
            have HB5 : Hid (Below w.heap.size w w5) := HB4.out.trans ((HBr.out.trans (hB5.mono HBr.out.size)).mono HB4.out.size)
            have hkc : k ≤ cv := by omega
            have hkc2 : (k : Int) ≤ cv := by omega
            clear hcon HNr HBr hB5 x2
            go_wp2_with (first | (go_at_call 13; refine (num_any _ _).mono ?_; rintro e w' ⟨rfl, rfl⟩) | (go_at_call 17; fail))
            refine (check_any _ k cv (M.take k) w5 (by rw [List.length_take, HLn.out]; omega) (by omega) HN5).mono ?_; rintro e w6 ⟨rfl, hB6⟩
            have hct := chk_take M 1 0 k HOK.out hk'
            rw [show (0 : Int) + (k : Int) = (k : Int) by omega] at hct
            rw [show chk 1 0 (M.take k) = (40, (k : Int)) from hct]
            unfold fltv
            have HB6 : Hid (Below w.heap.size w w6) := HB5.out.trans (hB6.mono HB5.out.size)
            clear HN5 HB5 hB6 hct
            go_wp2_with fail
            refine (fault_yes 40 (k : Int) w6).mono ?_; rintro e w7 ⟨rfl, hB7⟩
            have HB7 : Hid (Below w.heap.size w w7) := HB6.out.trans (hB7.mono HB6.out.size)
            clear HB6 hB7
            go_wp2
            go_ret
            exact ⟨rfl, HB7.out⟩
end Go.Proofs.YtlbgdgobhiokpaaDoor
