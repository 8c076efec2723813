/- ValueBack: the walk. -/
import Derived.Test.YtlbgdgobhiokpaaDoorZr
import Derived.BigRegion
import Derived.Deep.RegionHeld3
namespace Go.Proofs.YtlbgdgobhiokpaaDoor
open Go.RowKit
set_option linter.unusedVariables false

set_option maxRecDepth 100000 in
set_option maxHeartbeats 16000000 in
theorem back_any (a1 a2 : Option Addr) (n1 k1 n2 k2 : Nat) (r1 r2 : List Nd) (s : ByteArray) (w : World) (l1 : r1.length = n1) (m1 : n1 ≤ 9223372036854775807) (h1 : Hid (NRaw w a1 r1)) (f1 : Hid (∀ x ∈ r1, Fits x)) (l2 : r2.length = n2) (m2 : n2 ≤ 9223372036854775807) (h2 : Hid (NRaw w a2 r2)) (f2 : Hid (∀ x ∈ r2, Fits x)) (ht : Hid (Tab w.heap.size w)) :
    Calls Tryd.prog 3 #[.slice a1 n1 k1, .slice a2 n2 k2, .string s] w fun e w' => e = .returned (.bool true) ∧ Below w.heap.size w w' := by
  go_enter Tryd.func3, Tryd.ntmps3
  go_wp2_with fail
  refine (awake_any w ht).mono ?_; rintro e w1 ⟨rfl, hB1⟩
  have h11 : Hid (NRaw w1 a1 r1) := h1.out.later hB1
  go_wp2_with fail
  refine (made_any a1 n1 k1 r1 w1 l1 m1 h11 f1).mono ?_; rintro e w2 ⟨v, M, rfl, HO2, HM, hB2⟩
  have HB2 : Hid (Below w.heap.size w w2) := hB1.trans (hB2.mono hB1.size)
  have h22 : Hid (NRaw w2 a2 r2) := h2.out.later HB2.out
  obtain ⟨av, cv, rfl, HN, hc1, hc2, -⟩ := own_nrow HO2.out
  have HN2 : Hid (NRow w2 av M) := HN
  clear h11 h1 f1 hB1 hB2 HO2 HN h2 l1 m1
  go_wp2_with fail
  refine (made_any a2 n2 k2 r2 w2 l2 m2 h22 f2).mono ?_; rintro e w3 ⟨u, U, rfl, HO3, HU, hB3⟩
  have HB3 : Hid (Below w.heap.size w w3) := HB2.out.trans (hB3.mono HB2.out.size)
  obtain ⟨bv, dv, rfl, HN, hc3, hc4, -⟩ := own_nrow HO3.out
  have HV3 : Hid (NRow w3 bv U) := HN
  have HN3 : Hid (NRow w3 av M) := HN2.out.later hB3
  have hMl := HM.out.len
  have hUl := HU.out.len
  clear h22 f2 hB3 HO3 HN HN2 HB2 l2 m2
  go_wp2_with fail
  refine (print_any av M.length cv M w3 rfl (by omega) HN3 HM.out.pos ((ht.out.below HB3.out).mono HB3.out.size)).mono ?_; rintro e w4 ⟨rfl, hB4⟩
  rw [HM.out.ok]
  have HB4 : Hid (Below w.heap.size w w4) := HB3.out.trans (hB4.mono HB3.out.size)
  have HN4 : Hid (NRow w4 av M) := HN3.out.later hB4
  have HV4 : Hid (NRow w4 bv U) := HV3.out.later hB4
  clear hB4 HB3 HN3 HV3
  go_wp2_with fail
  refine (print_any bv U.length dv U w4 rfl (by omega) HV4 HU.out.pos ((ht.out.below HB4.out).mono HB4.out.size)).mono ?_; rintro e w5 ⟨rfl, hB5⟩
  rw [HU.out.ok]
  have HB5 : Hid (Below w.heap.size w w5) := HB4.out.trans (hB5.mono HB4.out.size)
  have HN5 : Hid (NRow w5 av M) := HN4.out.later hB5
  have HV5 : Hid (NRow w5 bv U) := HV4.out.later hB5
  clear hB5 HB4 HN4 HV4
  have hS := made_read HM.out
  have hSz := made_size HM.out
  have hTz := made_size HU.out
  have hMU : (printS M = printS U) = (M = U) := propext ⟨fun h => by
    have h2 : tx (printS M) = tx (printS U) := by rw [h]
    rw [made_tx HM.out, made_tx HU.out] at h2
    exact print_inj HM.out.ok HU.out.ok HM.out.pos HU.out.pos h2, fun h => by rw [h]⟩
  have hfr : (printS M).size < (printS U).size → (tx (printS U)).take (printS M).size = tx (printS M) → U.length = M.length ∧ 0 < M.length ∧ kk M (M.length - 1) = 1 ∧ M.take (M.length - 1) = U.take (M.length - 1) := by
    intro g1 g2
    have e1 : (printS M).size = (printM M []).length := by rw [← tx_len, made_tx HM.out]
    have e2 : (printS U).size = (printM U []).length := by rw [← tx_len, made_tx HU.out]
    rw [made_tx HM.out, made_tx HU.out, e1] at g2
    rw [e1, e2] at g1
    exact print_front HM.out.ok HU.out.ok HM.out.pos HU.out.pos g1 g2
  have hM0 := made_ne HM.out
  obtain ⟨S, hSe⟩ : ∃ S, printS M = S := ⟨_, rfl⟩
  obtain ⟨T, hTe⟩ : ∃ T, printS U = T := ⟨_, rfl⟩
  rw [hSe] at hS hSz hMU hfr ⊢
  rw [hTe] at hTz hMU hfr ⊢
  have HMU : Hid ((S = T) = (M = U)) := hMU
  have HFR : Hid (S.size < T.size → (tx T).take S.size = tx S → U.length = M.length ∧ 0 < M.length ∧ kk M (M.length - 1) = 1 ∧ M.take (M.length - 1) = U.take (M.length - 1)) := hfr
  clear hSe hTe hMU hfr HM HU
  go_wp2_with fail
  refine (parse_any S w5 (by omega)).mono ?_; rintro e w6 ⟨v6, rfl, HO6, hB6⟩
  rw [hS.2.1] at HO6
  rw [hS.2.2]
  unfold fltv
  obtain ⟨a6, c6, rfl, HN, hc5, hc6, -⟩ := own_nrow HO6.out
  obtain ⟨wA, hwA⟩ : ∃ wA, wA = w6.alloc (.cells #[.int .i64 0, .int .i64 0] 29) := ⟨_, rfl⟩
  have hBA : Below w6.heap.size w6 wA := by rw [hwA]; exact (Below.refl _ _).alloc (Nat.le_refl _) _
  have HBA : Hid (Below w.heap.size w wA) := (HB5.out.trans (hB6.mono HB5.out.size)).trans (hBA.mono (Nat.le_trans HB5.out.size hB6.size))
  have K29 : Hid (Blk wA w6.heap.size 29 [.int .i64 0, .int .i64 0]) := by rw [hwA]; exact Blk.newA w6 _ 29
  have HNA : Hid (NRow wA av M) := (HN5.out.later hB6).later hBA
  have HVA : Hid (NRow wA bv U) := (HV5.out.later hB6).later hBA
  have HXA : Hid (NRow wA a6 M) := HN.later hBA
  go_upto_region 8 with fail
  rw [← hwA]
  clear hwA hBA hB6 HB5 HN5 HV5 HN HO6 hS
  go_cut [74] from 41 to 74 (fun c wx => ∃ wr : World, c = .bool false ∧ Hid (Below wA.heap.size wA wr) ∧ wr = wx)
  case first =>
    have q0 := K29.out.cell 0; have q1 := K29.out.cell 1
    simp at q0 q1
    go_wp2_with (go_at_call 13; refine (num_any _ _).mono ?_; rintro e w' ⟨rfl, rfl⟩)
    refine (fault_yes 0 0 wA).mono ?_; rintro e w7 ⟨rfl, hB7⟩
    have HB7 : Hid (Below wA.heap.size wA w7) := hB7
    clear hB7 q0 q1
    go_wp2_with fail
    refine (equal_any a6 av M.length M.length c6 cv M M w7 rfl rfl (by omega) (by omega) (HXA.out.later HB7.out) (HNA.out.later HB7.out)).mono ?_; rintro e w8 ⟨rfl, hB8⟩
    have HB8 : Hid (Below wA.heap.size wA w8) := HB7.out.trans (hB8.mono HB7.out.size)
    clear hB8 HB7
    rw [decide_eq_true (rfl : M = M)]
    go_wp2_with fail
    refine (refEqual_any a6 av M.length M.length c6 cv M M w8 rfl rfl (by omega) (by omega) (HXA.out.later HB8.out) (HNA.out.later HB8.out)).mono ?_; rintro e w9 ⟨rfl, hB9⟩
    have HB9 : Hid (Below wA.heap.size wA w9) := HB8.out.trans (hB9.mono HB8.out.size)
    clear hB9 HB8
    rw [decide_eq_true (rfl : M = M)]
    have hb : (S.toList == T.toList) = decide (M = U) := by
      by_cases h : S = T
      · rw [h, beq_self, decide_eq_true (by rw [← HMU.out]; exact h)]
      · rw [beq_not h, decide_eq_false (by rw [← HMU.out]; exact h)]
    obtain ⟨d, hd⟩ : ∃ d, decide (M = U) = d := ⟨_, rfl⟩
    rw [hd] at hb
    have HD : Hid (decide (M = U) = d) := hd
    clear hd
    go_wp2_with fail
    refine (equal_any av bv M.length U.length cv dv M U w9 rfl rfl (by omega) (by omega) (HNA.out.later HB9.out) (HVA.out.later HB9.out)).mono ?_; rintro e w10 ⟨rfl, hB10⟩
    have HB10 : Hid (Below wA.heap.size wA w10) := HB9.out.trans (hB10.mono HB9.out.size)
    clear hB10 HB9
    rw [HD.out]
    cases d
    all_goals
      go_wp2_with fail
      go_meet
      case rel => exact ⟨_, rfl, HB10, rfl⟩
  case rest =>
    obtain ⟨wr, rfl, HBr, rfl⟩ := hcut
    have HB0 : Hid (Below w.heap.size w wr) := HBA.out.trans (HBr.out.mono HBA.out.size)
    have HNr : Hid (NRow wr av M) := HNA.out.later HBr.out
    have HVr : Hid (NRow wr bv U) := HVA.out.later HBr.out
    clear HNA HVA HXA HBA K29 HBr HMU hc5 hc6
    obtain ⟨nM, hnM⟩ : ∃ n, M.length = n := ⟨_, rfl⟩
    obtain ⟨nU, hnU⟩ : ∃ n, U.length = n := ⟨_, rfl⟩
    rw [hnM] at hc1 hM0 hMl HFR ⊢
    rw [hnU] at hc3 hUl HFR ⊢
    have HnM : Hid (M.length = nM) := hnM
    have HnU : Hid (U.length = nU) := hnU
    clear hnM hnU
    obtain ⟨hs0, hs1⟩ := hSz
    obtain ⟨ht0, ht1⟩ := hTz
    go_upto_region 10 with fail
    go_cut [87] from 75 to 87 (fun c wx => ∃ d : Bool, c = .bool d ∧ Hid (d = true → nU = nM ∧ kk M (nM - 1) = 1 ∧ M.take (nM - 1) = U.take (nM - 1)) ∧ wr = wx)
    case first =>
      by_cases hlt : (S.size : Int) < (T.size : Int)
      · have hle : (S.size : Int) ≤ (T.size : Int) := by omega
        obtain ⟨q, hq⟩ : ∃ q, ((T.extract 0 S.size).toList == S.toList) = q := ⟨_, rfl⟩
        go_wp2
        go_meet
        case rel =>
          refine ⟨q, rfl, fun hd => ?_, rfl⟩
          rw [hd] at hq
          have e1 : T.extract 0 S.size = S := by
            rw [beq_iff_eq, ByteArray.toList_eq, ByteArray.toList_eq] at hq
            exact ByteArray.ext (Array.toList_inj.1 hq)
          have e2 := HFR.out (by omega) (by rw [← tx_front, e1])
          exact ⟨e2.1, e2.2.2⟩
      · go_wp2
        go_meet
        case rel => exact ⟨false, rfl, (fun h => by cases h), rfl⟩
    case rest =>
      obtain ⟨d, rfl, HD, rfl⟩ := hcut
      clear HFR
      go_upto_if 87 with fail
      go_cut [] from 88 to 113 (fun wx => ∃ w8 : World, Hid (Below w.heap.size w w8) ∧ w8 = wx)
      case first =>
        cases d with
        | false =>
          go_wp2
          go_meet
          case rel => exact ⟨_, HB0, rfl⟩
        | true =>
          obtain ⟨rfl, g2, g3⟩ := HD.out rfl
          obtain ⟨m, rfl⟩ : ∃ m, nU = m + 1 := ⟨nU - 1, by omega⟩
          rw [Nat.add_sub_cancel] at g2 g3
          obtain ⟨bM, oM, rfl, hbM, hcM⟩ := HNr.out.open (by rw [HnM.out]; exact hM0)
          have c0 := (hcM m (by rw [HnM.out]; omega)).1
          have g2' : (M.getD m nil0).1 = 1 := g2
          rw [g2'] at c0
          have C0 : Hid (∀ w', Below wr.heap.size wr w' → w'.cell? ⟨bM, oM + m * 3, none⟩ = some (.int .i64 1)) := fun w' hB => (hB.cell hbM).trans c0
          have hB0 : Below wr.heap.size wr wr := Below.refl _ _
          have e0 : (((m + 1 : Nat) : Int) != ((m + 1 : Nat) : Int)) = false := by simp
          have hmc : m ≤ cv := by omega
          have hmi : (m : Int) < (m : Int) + 1 := by omega
          have hmj : (m : Int) < ((m + 1 : Nat) : Int) := by omega
          have hmk : m < m + 1 := by omega
          have hmz : (0 : Int) ≤ (m : Int) := by omega
          have hmd : m ≤ dv := by omega
          have hmc' : (m : Int) ≤ cv := by omega
          have hmd' : (m : Int) ≤ dv := by omega
          have HTM : Hid (M.take m = U.take m) := g3
          have HL1 : Hid ((M.take m).length = m) := by show _ = _; rw [List.length_take, HnM.out]; omega
          have HL2 : Hid ((U.take m).length = m) := by show _ = _; rw [List.length_take, HnU.out]; omega
          clear g2 g2' g3 hcM c0
          go_wp2_with fail
          go_region_held3 (fun w' => w'.cell? ⟨bM, oM + m * 3, none⟩ = some (.int .i64 1) ∧ Below wr.heap.size wr w') (first | assumption | (refine ⟨C0.out _ ?_, ?_⟩ <;> first | assumption | exact hB0.drew | (refine Below.drew ?_; first | assumption | exact hB0.drew | exact And.right (by assumption))))
            (first | (go_at_call 15; refine (equal_any _ _ m m cv dv (M.take m) (U.take m) _ HL1.out HL2.out (by omega) (by omega) ((HNr.out.later (by first | assumption | exact And.right (by assumption))).take m) ((HVr.out.later (by first | assumption | exact And.right (by assumption))).take m)).mono ?_; rintro e w9 ⟨rfl, hB9⟩; have hB49 := below_to (by first | assumption | exact And.right (by assumption) : Below wr.heap.size wr _) hB9; rw [decide_eq_true HTM.out]))
          all_goals
            go_wp2
            go_meet
            case rel => exact ⟨_, below_to HB0.out (by first | assumption | exact And.right (by assumption) : Below wr.heap.size wr _), rfl⟩
      case rest =>
        obtain ⟨w8, HB8, rfl⟩ := hcut
        clear HNr HVr HB0 HD
        go_upto_if 116 with fail
        go_cut [2] from 117 to 118 (fun v wx => ∃ s2 : ByteArray, v = .string s2 ∧ s2.size ≤ 3000 ∧ w8 = wx)
        case first =>
          by_cases hs : (3000 : Int) < (s.size : Int)
          · have hs' : (3000 : Int) ≤ (s.size : Int) := by omega
            go_wp2
            go_meet
            case rel => exact ⟨_, rfl, by simp [ByteArray.size_extract]; omega, rfl⟩
          · go_wp2
            go_meet
            case rel => exact ⟨_, rfl, by omega, rfl⟩
        case rest =>
          obtain ⟨s2, rfl, hs2, rfl⟩ := hcut
          go_wp2_with fail
          refine (parse_any s2 w8 (by omega)).mono ?_; rintro e w9 ⟨v9, rfl, HO9, hB9⟩
          have HB9 : Hid (Below w.heap.size w w9) := HB8.out.trans (hB9.mono HB8.out.size)
          clear hB9 HB8
          rcases parse_two (tx s2) with ⟨hok, hF⟩ | ⟨hok, hN0, hF⟩
          · rw [hF]
            unfold fltv
            obtain ⟨a5, c5, rfl, HN, e1, e2, -⟩ := own_nrow HO9.out
            have hpl := parseN_len (tx s2)
            rw [tx_len] at hpl
            have hrp := read_print s2 hok
            obtain ⟨N5, hN5⟩ : ∃ N5, parseN (tx s2) = N5 := ⟨_, rfl⟩
            rw [hN5] at hrp hpl HN e1 ⊢
            have HRP : Hid (printS N5 = s2 ∧ chk 1 0 N5 = (0, 0)) := ⟨hrp.1, hrp.2.1⟩
            have HP5 : Hid (∀ x ∈ N5, 0 ≤ x.2.1) := hrp.2.2
            obtain ⟨wD, hwD⟩ : ∃ wD, wD = w9.alloc (.cells #[.int .i64 0, .int .i64 0] 29) := ⟨_, rfl⟩
            have hBD : Below w9.heap.size w9 wD := by rw [hwD]; exact (Below.refl _ _).alloc (Nat.le_refl _) _
            have q0 : wD.cell? ⟨w9.heap.size, 0, none⟩ = some (.int .i64 0) := by rw [hwD]; exact (Blk.newA w9 #[.int .i64 0, .int .i64 0] 29).cell 0
            have HBD : Hid (Below w.heap.size w wD) := HB9.out.trans (hBD.mono HB9.out.size)
            have HND : Hid (NRow wD a5 N5) := HN.later hBD
            go_upto_region 17 with fail
            rw [← hwD]
            clear hwD hBD HB9 HO9 HN hrp hN5 hok hF
            go_wp2_with (go_at_call 13; refine (num_any _ _).mono ?_; rintro e w' ⟨rfl, rfl⟩)
            refine (print_any a5 N5.length c5 N5 wD rfl (by omega) HND HP5 ((ht.out.below HBD.out).mono HBD.out.size)).mono ?_; rintro e w10 ⟨rfl, hB10⟩
            rw [HRP.out.1, show (chk 1 0 N5).1 = 0 by rw [HRP.out.2]]
            have HB10 : Hid (Below w.heap.size w w10) := HBD.out.trans (hB10.mono HBD.out.size)
            have HN10 : Hid (NRow w10 a5 N5) := HND.out.later hB10
            have hbe := beq_self s2
            clear hB10 HBD HND q0
            go_wp2_with (first | (go_at_call 13; refine (num_any _ _).mono ?_; rintro e w' ⟨rfl, rfl⟩) | (go_at_call 17; fail))
            refine (check_any a5 N5.length c5 N5 w10 rfl (by omega) HN10).mono ?_; rintro e w11 ⟨rfl, hB11⟩
            rw [HRP.out.2]
            unfold fltv
            have HB11 : Hid (Below w.heap.size w w11) := HB10.out.trans (hB11.mono HB10.out.size)
            clear hB11 HB10 HN10
            go_wp2_with fail
            refine (fault_yes 0 0 w11).mono ?_; rintro e w12 ⟨rfl, hB12⟩
            have HB12 : Hid (Below w.heap.size w w12) := HB11.out.trans (hB12.mono HB11.out.size)
            clear HB11 hB12
            go_wp2
            go_ret
            exact ⟨rfl, HB12.out⟩
          · rw [hF]
            unfold fltv
            obtain ⟨a5, c5, rfl, -, -, -, -⟩ := own_nrow HO9.out
            have hle := stop_le (tx s2)
            rw [tx_len] at hle
            obtain ⟨P, hP⟩ : ∃ P, (readT (tx s2) st00).p = P := ⟨_, rfl⟩
            rw [hP] at hle ⊢
            rw [hN0]
            obtain ⟨wD, hwD⟩ : ∃ wD, wD = w9.alloc (.cells #[.int .i64 41, .int .i64 P] 29) := ⟨_, rfl⟩
            have q0 : wD.cell? ⟨w9.heap.size, 0, none⟩ = some (.int .i64 41) := by rw [hwD]; exact (Blk.newA w9 #[.int .i64 41, .int .i64 P] 29).cell 0
            have q1 : wD.cell? ⟨w9.heap.size, 1, none⟩ = some (.int .i64 P) := by rw [hwD]; exact (Blk.newA w9 #[.int .i64 41, .int .i64 P] 29).cell 1
            have HBD : Hid (Below w.heap.size w wD) := by rw [hwD]; exact HB9.out.alloc HB9.out.size _
            have p0 : (0 : Int) ≤ (P : Int) := by omega
            have p1 : (P : Int) ≤ (s2.size : Int) := by omega
            go_upto_region 17 with fail
            rw [← hwD]
            clear hwD HB9 HO9 hN0 hok hF
            go_wp2_with (go_at_call 13; refine (num_any _ _).mono ?_; rintro e w' ⟨rfl, rfl⟩)
            go_ret
            exact ⟨rfl, HBD.out⟩
end Go.Proofs.YtlbgdgobhiokpaaDoor
