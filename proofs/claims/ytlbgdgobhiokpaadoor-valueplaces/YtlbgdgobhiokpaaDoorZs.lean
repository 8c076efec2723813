/- ValuePlaces: the walk. -/
import Derived.Test.YtlbgdgobhiokpaaDoorZr
namespace Go.Proofs.YtlbgdgobhiokpaaDoor
open Go.RowKit
set_option linter.unusedVariables false

set_option maxRecDepth 100000 in
set_option maxHeartbeats 16000000 in
theorem places_any (a : Option Addr) (len cap : Nat) (at0 c : Int) (raw : List Nd) (w : World) (hl : raw.length = len) (hm : len ≤ 9223372036854775807) (hr : Hid (NRaw w a raw)) (hf : Hid (∀ x ∈ raw, Fits x)) (hat : -9223372036854775808 ≤ at0 ∧ at0 ≤ 9223372036854775807) (hc : 0 ≤ c ∧ c ≤ 255) (ht : Hid (Tab w.heap.size w)) :
    Calls Tryd.prog 4 #[.slice a len cap, .int .i64 at0, .int .u8 c] w fun e w' => e = .returned (.bool true) ∧ Below w.heap.size w w' := by
  go_enter Tryd.func4, Tryd.ntmps4
  go_wp2_with fail
  refine (awake_any w ht).mono ?_; rintro e w1 ⟨rfl, hB1⟩
  have hr1 : Hid (NRaw w1 a raw) := hr.out.later hB1
  go_wp2_with fail
  refine (made_any a len cap raw w1 hl hm hr1 hf).mono ?_; rintro e w2 ⟨v, M, rfl, HO2, HM, hB2⟩
  have HB2 : Hid (Below w.heap.size w w2) := hB1.trans (hB2.mono hB1.size)
  obtain ⟨av, cv, rfl, HN, hc1, hc2, -⟩ := own_nrow HO2.out
  have HN2 : Hid (NRow w2 av M) := HN
  have hlen := HM.out.len
  clear hr1 hr hf hB1 hB2 HO2 HN
  go_wp2_with fail
  refine (print_any av M.length cv M w2 rfl (by omega) HN2 HM.out.pos ((ht.out.below HB2.out).mono HB2.out.size)).mono ?_; rintro e w3 ⟨rfl, hB3⟩
  rw [HM.out.ok]
  have HB3 : Hid (Below w.heap.size w w3) := HB2.out.trans (hB3.mono HB2.out.size)
  have HOk := (made_read HM.out).1
  have hsz := made_size HM.out
  obtain ⟨S, hS⟩ : ∃ S, printS M = S := ⟨_, rfl⟩
  rw [hS] at HOk hsz ⊢
  have HOK : Hid (okM (tx S) (readT (tx S) st00) = true) := HOk
  clear HB2 HN2 hB3 HOk hS HM hlen hc1 hc2
  obtain ⟨hs0, hs1⟩ := hsz
  have hz : (((S.size : Nat) : Int) == 0) = false := beq_eq_false_iff_ne.2 (by omega)
  go_wp2_with (go_at_call 13; refine (num_any _ _).mono ?_; rintro e w' ⟨rfl, rfl⟩)
  refine (rest_any at0 0 ((S.size : Int) - 1) w3 (by decide) (by omega) (by omega) hat).mono ?_; rintro e w3' ⟨k, rfl, hk1, hk2, rfl⟩
  obtain ⟨k, rfl⟩ := Int.eq_ofNat_of_zero_le hk1
  have hk : k < S.size := by omega
  have hk3 : (k : Int) ≤ (S.size : Int) := by omega
  clear hk1 hk2 hat
  go_wp2_with fail
  refine (parse_any (S.extract 0 k) w3 (by rw [← tx_len, tx_front, List.length_take, tx_len]; omega)).mono ?_; rintro e w4 ⟨v4, rfl, -, hB4⟩
  have HB4 : Hid (Below w.heap.size w w4) := HB3.out.trans (hB4.mono HB3.out.size)
  have hcut : (okM (tx (S.extract 0 k)) (readT (tx (S.extract 0 k)) st00) = true ∧ parseF (tx (S.extract 0 k)) = (0, 0)) ∨ parseF (tx (S.extract 0 k)) = (41, (k : Int)) := by
    rcases parse_two (tx (S.extract 0 k)) with h | ⟨-, -, h⟩
    · exact .inl h
    · right
      rw [h, tx_front, (stop_cut (tx S) k (by rw [tx_len]; omega)).2 (by rw [(okM_is HOK.out).1, tx_len]; omega)]
  obtain ⟨x, y, hxy, hx⟩ : ∃ x y : Int, parseF (tx (S.extract 0 k)) = (x, y) ∧ ((x == 41) = false ∨ (x == 41) = true ∧ (y != (k : Int)) = false) := by
    rcases hcut with ⟨-, h⟩ | h
    · exact ⟨_, _, h, .inl rfl⟩
    · exact ⟨_, _, h, .inr ⟨rfl, by simp⟩⟩
  rw [hxy]
  unfold fltv
  have HX : Hid ((x == 41) = false ∨ (x == 41) = true ∧ (y != (k : Int)) = false) := hx
  clear hx hxy hcut hB4 HB3
  obtain ⟨wA, hwA⟩ : ∃ wA, wA = w4.alloc (.cells #[.int .i64 x, .int .i64 y] 29) := ⟨_, rfl⟩
  have K29 : Hid (Blk wA w4.heap.size 29 [.int .i64 x, .int .i64 y]) := by rw [hwA]; exact Blk.newA w4 _ 29
  have HBA : Hid (Below w.heap.size w wA) := by rw [hwA]; exact HB4.out.alloc HB4.out.size _
  go_upto_region 8 with fail
  rw [← hwA]
  clear hwA HB4
  go_cut [56] from 47 to 56 (fun c wx => c = .bool false ∧ wA = wx)
  case first =>
    have q0 := K29.out.cell 0; have q1 := K29.out.cell 1
    simp at q0 q1
    rcases HX.out with h1 | ⟨h1, h2⟩
    all_goals
      go_wp2_with (go_at_call 13; refine (num_any _ _).mono ?_; rintro e w' ⟨rfl, rfl⟩)
      go_meet
      case rel => exact ⟨rfl, rfl⟩
  case rest =>
    obtain ⟨rfl, rfl⟩ := hcut
    clear HX K29
    obtain ⟨cb, wb, hcv, hcap, HBt, hBb⟩ := run_bytes wA S
    obtain ⟨g, hg⟩ : ∃ g, wA.heap.size = g := ⟨_, rfl⟩
    rw [hg] at hcv
    have d0 := HBt.at' k (by rw [tx_len]; exact hk)
    have z0 := HBt.fz k (by rw [tx_len]; exact hk)
    rw [hg] at d0 z0
    have HRw : Hid (Row .u8 (wb.setCell ⟨g, k, none⟩ (.int .u8 c)) (some ⟨g, 0, none⟩) ((tx S).set k c)) := by rw [← hg]; exact HBt.set c (by rw [tx_len]; exact hk)
    have HBC : Hid (Below w.heap.size w (wb.setCell ⟨g, k, none⟩ (.int .u8 c))) := (HBA.out.trans (hBb.mono HBA.out.size)).setCell (by rw [← hg]; exact HBA.out.size) _
    clear HBt hBb hg HBA
    go_upto_region 12 with fail
    generalize wb.setCell ⟨g, k, none⟩ (.int .u8 c) = wC at *
    clear hcv d0 z0
    obtain ⟨L, hL⟩ : ∃ L, (tx S).set k c = L := ⟨_, rfl⟩
    rw [hL] at HRw
    have hLl : L.length = S.size := by rw [← hL, List.length_set, tx_len]
    have hLb : ∀ x ∈ L, 0 ≤ x ∧ x ≤ 255 := by
      intro x hx
      rw [← hL] at hx
      rcases List.mem_or_eq_of_mem_set hx with h | rfl
      · obtain ⟨i, hi, rfl⟩ := List.getElem_of_mem h
        exact tx_byte S _ i (List.getElem?_eq_getElem hi)
      · exact hc
    have hsp : k ≤ (readT L st00).p := by rw [← hL]; exact spoilt c HOK.out (by rw [tx_len]; exact hk)
    have hle : (readT L st00).p ≤ S.size := by rw [← hLl]; exact stop_le L
    have hcv := conv_row E41 Tryd.underlying9 wC (some ⟨g, 0, none⟩) S.size cb L hLl HRw.out
    have HtL : Hid (tx (strOfNums L) = L) := tx_of hLb
    go_wp2_with fail
    refine (parse_any (strOfNums L) wC (by rw [← tx_len, HtL.out]; omega)).mono ?_; rintro e w5 ⟨v5, rfl, HO5, hB5⟩
    rw [HtL.out] at HO5 ⊢
    have HB5 : Hid (Below w.heap.size w w5) := HBC.out.trans (hB5.mono HBC.out.size)
    have HR5 : Hid (Row .u8 w5 (some ⟨g, 0, none⟩) L) := HRw.out.later hB5
    clear hcv hB5 HRw HBC HOK hL
    rcases parse_two L with ⟨hok, hF⟩ | ⟨hok, hN0, hF⟩
    · rw [hF]
      unfold fltv
      obtain ⟨a5, c5, rfl, HN, e1, e2, -⟩ := own_nrow HO5.out
      have hpl := parseN_len L
      have hrp := read_print (strOfNums L) (by rw [HtL.out]; exact hok)
      rw [HtL.out] at hrp
      obtain ⟨N5, hN5⟩ : ∃ N5, parseN L = N5 := ⟨_, rfl⟩
      rw [hN5] at hrp hpl HN e1 ⊢
      have HRP : Hid (printS N5 = strOfNums L ∧ (chk 1 0 N5).1 = 0) := ⟨hrp.1, by rw [hrp.2.1]⟩
      have HP5 : Hid (∀ x ∈ N5, 0 ≤ x.2.1) := hrp.2.2
      obtain ⟨wD, hwD⟩ : ∃ wD, wD = w5.alloc (.cells #[.int .i64 0, .int .i64 0] 29) := ⟨_, rfl⟩
      have hBD : Below w5.heap.size w5 wD := by rw [hwD]; exact (Below.refl _ _).alloc (Nat.le_refl _) _
      have q0 : wD.cell? ⟨w5.heap.size, 0, none⟩ = some (.int .i64 0) := by rw [hwD]; exact (Blk.newA w5 #[.int .i64 0, .int .i64 0] 29).cell 0
      have HBD : Hid (Below w.heap.size w wD) := HB5.out.trans (hBD.mono HB5.out.size)
      have HRD : Hid (Row .u8 wD (some ⟨g, 0, none⟩) L) := HR5.out.later hBD
      have HND : Hid (NRow wD a5 N5) := HN.later hBD
      go_upto_region 13 with fail
      rw [← hwD]
      clear hwD hBD HB5 HR5 HO5 HN hrp hN5 hok hF hsp hle
      go_wp2_with (go_at_call 13; refine (num_any _ _).mono ?_; rintro e w' ⟨rfl, rfl⟩)
      refine (print_any a5 N5.length c5 N5 wD rfl (by omega) HND HP5 ((ht.out.below HBD.out).mono HBD.out.size)).mono ?_; rintro e w6 ⟨rfl, hB6⟩
      rw [HRP.out.1, HRP.out.2]
      have HB6 : Hid (Below w.heap.size w w6) := HBD.out.trans (hB6.mono HBD.out.size)
      have hcv := conv_row E41 Tryd.underlying9 w6 (some ⟨g, 0, none⟩) S.size cb L hLl (HRD.out.later hB6)
      have hbe := beq_self (strOfNums L)
      clear hB6 HBD HRD HND q0
      go_wp2_with (go_at_call 13; refine (num_any _ _).mono ?_; rintro e w' ⟨rfl, rfl⟩)
      go_ret
      exact ⟨rfl, HB6.out⟩
    · rw [hF]
      unfold fltv
      obtain ⟨P, hP⟩ : ∃ P, (readT L st00).p = P := ⟨_, rfl⟩
      rw [hP] at hsp hle ⊢
      obtain ⟨wD, hwD⟩ : ∃ wD, wD = w5.alloc (.cells #[.int .i64 41, .int .i64 P] 29) := ⟨_, rfl⟩
      have hBD : Below w5.heap.size w5 wD := by rw [hwD]; exact (Below.refl _ _).alloc (Nat.le_refl _) _
      have q0 : wD.cell? ⟨w5.heap.size, 0, none⟩ = some (.int .i64 41) := by rw [hwD]; exact (Blk.newA w5 #[.int .i64 41, .int .i64 P] 29).cell 0
      have q1 : wD.cell? ⟨w5.heap.size, 1, none⟩ = some (.int .i64 P) := by rw [hwD]; exact (Blk.newA w5 #[.int .i64 41, .int .i64 P] 29).cell 1
      have HBD : Hid (Below w.heap.size w wD) := HB5.out.trans (hBD.mono HB5.out.size)
      have HLt : Hid (w5.heap.size < wD.heap.size) := by show _ < _; rw [hwD]; simp
      have hcv := conv_row E41 Tryd.underlying9 wD (some ⟨g, 0, none⟩) P cb (L.take P) (by rw [List.length_take]; omega) ((HR5.out.later hBD).take P)
      have h1 : ¬ ((P : Int) < (k : Int)) := by omega
      have h2 : ¬ ((S.size : Int) < (P : Int)) := by omega
      have h3 : (P : Int) ≤ (cb : Int) := by omega
      have Htk : Hid (tx (strOfNums (L.take P)) = L.take P) := tx_of fun x hx => hLb x (List.mem_of_mem_take hx)
      have hpf : parseF (L.take P) = (0, 0) ∨ parseF (L.take P) = (41, (P : Int)) := by
        rcases parse_two (L.take P) with ⟨-, h⟩ | ⟨-, -, h⟩
        · exact .inl h
        · right
          rw [h, (stop_cut L P (by omega)).2 (by omega)]
      go_upto_region 13 with fail
      rw [← hwD]
      clear hwD hBD HB5 HR5 HO5 hN0 hok hF
      go_wp2_with (go_at_call 13; refine (num_any _ _).mono ?_; rintro e w' ⟨rfl, rfl⟩)
      refine (parse_any (strOfNums (L.take P)) wD (by rw [← tx_len, Htk.out, List.length_take]; omega)).mono ?_; rintro e w6 ⟨v6, rfl, -, hB6⟩
      rw [Htk.out]
      have HB6 : Hid (Below w.heap.size w w6) := HBD.out.trans (hB6.mono HBD.out.size)
      have p1 : w6.cell? ⟨w5.heap.size, 1, none⟩ = some (.int .i64 P) := (hB6.cell HLt.out).trans q1
      have HL6 : Hid (w5.heap.size < w6.heap.size) := Nat.lt_of_lt_of_le HLt.out hB6.size
      clear hB6 q0 q1 hcv HBD Htk h1 h2 HLt
      rcases hpf with h | h
      · rw [h]
        unfold fltv
        clear h
        obtain ⟨wE, hwE⟩ : ∃ wE, wE = w6.alloc (.cells #[.int .i64 0, .int .i64 0] 29) := ⟨_, rfl⟩
        have q0 : wE.cell? ⟨w6.heap.size, 0, none⟩ = some (.int .i64 0) := by rw [hwE]; exact (Blk.newA w6 #[.int .i64 0, .int .i64 0] 29).cell 0
        have HBE : Hid (Below w.heap.size w wE) := by rw [hwE]; exact HB6.out.alloc HB6.out.size _
        go_upto_region 19 with fail
        rw [← hwE]
        clear hwE p1
        go_wp2_with (go_at_call 13; refine (num_any _ _).mono ?_; rintro e w' ⟨rfl, rfl⟩)
        go_ret
        exact ⟨rfl, HBE.out⟩
      · rw [h]
        unfold fltv
        clear h
        obtain ⟨wE, hwE⟩ : ∃ wE, wE = w6.alloc (.cells #[.int .i64 41, .int .i64 P] 29) := ⟨_, rfl⟩
        have q0 : wE.cell? ⟨w6.heap.size, 0, none⟩ = some (.int .i64 41) := by rw [hwE]; exact (Blk.newA w6 #[.int .i64 41, .int .i64 P] 29).cell 0
        have q1 : wE.cell? ⟨w6.heap.size, 1, none⟩ = some (.int .i64 P) := by rw [hwE]; exact (Blk.newA w6 #[.int .i64 41, .int .i64 P] 29).cell 1
        have q2 : wE.cell? ⟨w5.heap.size, 1, none⟩ = some (.int .i64 P) := by rw [hwE, cell_alloc _ _ _ _ HL6.out]; exact p1
        have HBE : Hid (Below w.heap.size w wE) := by rw [hwE]; exact HB6.out.alloc HB6.out.size _
        have hpp : ((P : Int) == (P : Int)) = true := by simp
        go_upto_region 19 with fail
        rw [← hwE]
        clear hwE p1
        go_wp2_with (go_at_call 13; refine (num_any _ _).mono ?_; rintro e w' ⟨rfl, rfl⟩)
        go_ret
        exact ⟨rfl, HBE.out⟩
end Go.Proofs.YtlbgdgobhiokpaaDoor
