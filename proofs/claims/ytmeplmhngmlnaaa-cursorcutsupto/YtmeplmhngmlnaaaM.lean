/- CursorCuts: its walk. -/
import Derived.Test.YtmeplmhngmlnaaaL
import Derived.Test.YtmeplmhngmlnaaaG
import Derived.Test.YtmeplmhngmlnaaaN
namespace Go.Proofs.Ytmeplmhngmlnaaa
open Go.RowKit
set_option linter.unusedVariables false

set_option maxHeartbeats 8000000 in
set_option maxRecDepth 100000 in
theorem cuts_any (a0 : Option Addr) (len0 cap0 : Nat) (l : List Int) (a1 : Option Addr) (len1 cap1 : Nat) (l1 : List Int) (a2 : Option Addr) (len2 cap2 : Nat) (l2 : List Int) (a3 : Option Addr) (len3 cap3 : Nat) (l3 : List Int) (at0 : Int) (w : World)
    (hl : Hid (l.length = len0)) (hlc : len0 ≤ cap0) (hcm : cap0 ≤ maxLen) (hrow : Hid (Row .u8 w a0 l)) (hnil : Hid (a0 = none → cap0 = 0))
    (hl1 : Hid (l1.length = len1)) (hb1 : len1 ≤ 1048576) (hr1 : Hid (Row .i64 w a1 l1)) (hl2 : Hid (l2.length = len2)) (hb2 : len2 ≤ 1048576) (hr2 : Hid (Row .i64 w a2 l2))
    (hl3 : Hid (l3.length = len3)) (hb3 : len3 ≤ maxLen) (hr3 : Hid (Row .i64 w a3 l3)) (hv3 : Hid (∀ i, i < len3 → -9223372036854775808 ≤ l3.getD i 0 ∧ l3.getD i 0 ≤ 9223372036854775807)) :
    Calls Try.prog 4 #[.slice a0 len0 cap0, .slice a1 len1 cap1, .slice a2 len2 cap2, .slice a3 len3 cap3, .int .i64 at0] w fun e w' => e = .returned (.bool true) ∧ Below w.heap.size w w' := by
  have hcm' := hcm
  unfold maxLen at hcm hb3
  go_enter Try.func4, Try.ntmps4
  go_wp2_with fail
  refine (awake_any w).mono ?_; rintro e w1 ⟨rfl, hB1⟩
  --0
  go_upto_if 38 with fail
  go_cut [0] from 39 to 40 (fun s wc => ∃ (n : Nat) (r : List Int), n ≤ 1000 ∧ n ≤ cap0 ∧ s = .slice a0 n cap0 ∧ Hid (r.length = n) ∧ Hid (Row .u8 w a0 r) ∧ w1 = wc)
  case first =>
    by_cases h : 1000 < (len0 : Int)
    · go_wp2
      go_meet
      case rel => exact ⟨1000, l.take 1000, by omega, by omega, rfl, by show _ = _; rw [List.length_take, hl.out]; omega, hrow.out.take 1000, rfl⟩
    · go_wp2
      go_meet
      case rel => exact ⟨len0, l, by omega, by omega, rfl, hl, hrow, rfl⟩
  case rest =>
    clear hl hrow hlc
    obtain ⟨n, r, hn, hnc, rfl, HL, HR, rfl⟩ := hcut
    have ha1 : at0.tmod 1000 < 1000 := Int.tmod_lt_of_pos at0 (by omega)
    have ha2 : -1000 < at0.tmod 1000 := Int.lt_tmod_of_pos at0 (by omega)
    go_upto_if 44 with fail
    --1
    go_cut [4] from 45 to 46 (fun s wc => ∃ A : Nat, A ≤ 999 ∧ s = .int .i64 A ∧ w1 = wc)
    case first =>
      generalize at0.tmod 1000 = t at *
      by_cases h : t < 0
      · go_wp2
        go_meet
        case rel => exact ⟨t.natAbs, by omega, by go_num, rfl⟩
      · go_wp2
        go_meet
        case rel => exact ⟨t.natAbs, by omega, by go_num, rfl⟩
    case rest =>
      clear ha1 ha2
      obtain ⟨A, hA, rfl, rfl⟩ := hcut
      go_wp2_with fail
      --2
      refine (new_yes A _ (by omega) (by omega)).mono ?_; rintro e w2 ⟨bx, rfl, hbx, HX2, hB2⟩
      go_wp2_with fail
      refine (new_yes A _ (by omega) (by omega)).mono ?_; rintro e w3 ⟨bY, rfl, hbY, HY3, hB3⟩
      have HT : Hid (TurnSt w.heap.size w w3 bx bY r A 0) := by
        refine ⟨_, _, (HX2.out.later hB3).mono hB1.size, HY3.out.mono (Nat.le_trans hB1.size hB2.size), fun q hq hq2 => ?_, below_to (below_to hB1 hB2) hB3⟩
        have e1 := (HX2.out.fi q hq).2
        have e2 := (HY3.out.fi q hq2).1
        omega
      clear HX2 HY3 hB1 hB2 hB3 hbx hbY
      go_wp2_with (go_at_call 8; refine (num_any _ _).mono ?_; rintro e w' ⟨rfl, rfl⟩)
      --3
      go_loopw [15] (fun i wr => ∃ k : Nat, k ≤ 2 ∧ i = .int .i64 k ∧ Hid (TurnSt w.heap.size w wr bx bY r A k)) (fun i _ => 2 - (intOf i).toNat)
      case atStart => exact ⟨0, by omega, rfl, HT⟩
      case round =>
        clear HT
        obtain ⟨k, hk, rfl, HT⟩ := hrel
        by_cases hlt : k < 2
        · as_aux_lemma =>
          have hlt' : (k : Int) < 2 := by omega
          go_upto_if 80 with fail
          --4
          go_cut [16, 17] from 81 to 82 (fun s q wc => ∃ (ac : Option Addr) (lenc capc : Nat) (cs : List Int) (b b2 : Nat) (h2 : List Int), s = .slice ac lenc capc ∧ q = .pointer (some ⟨b, 0, none⟩) ∧ lenc ≤ 1048576 ∧ Hid (cs.length = lenc) ∧ Hid (Row .i64 w ac cs) ∧ Hid (∃ v v2, Given w.heap.size w wc bx bY r A k b b2 v v2 h2) ∧ wr = wc)
          case first =>
            by_cases h : k = 1
            · subst h
              go_wp2
              go_meet
              case rel => exact ⟨a2, len2, cap2, l2, bY, bx, r, rfl, rfl, hb2, hl2, hr2, given_1 HT.out, rfl⟩
            · obtain rfl : k = 0 := by omega
              go_wp2
              go_meet
              case rel => exact ⟨a1, len1, cap1, l1, bx, bY, [], rfl, rfl, hb1, hl1, hr1, given_0 HT.out, rfl⟩
          case rest =>
            clear HT
            obtain ⟨ac, lenc, capc, cs, b, b2, h2, rfl, rfl, hbc, HLc, HRc, HG, rfl⟩ := hcut
            obtain ⟨v, v2, hG1, hG2⟩ := HG.out
            have HG1 : Hid _ := hG1
            have HG2 : Hid _ := hG2
            have hBr := hG1.bel
            clear HG hG1 hG2
            have HRr : Hid (Row .u8 wr a0 r) := HR.out.later hBr
            have HRcr : Hid (Row .i64 wr ac cs) := HRc.out.later hBr
            go_wp2_with fail
            --5
            refine (cutInto_any a0 n cap0 r ac lenc capc cs _ HL hn hnc hcm' HRr hnil HLc hbc HRcr).mono ?_; rintro e w5 ⟨g, N, c5, rfl, hN0, hN1, hB5, hPc⟩
            obtain ⟨F, P, hP, hJ⟩ := hPc.out
            have HS : Hid (∃ v v2, GiveSt w.heap.size w w5 b v (joinN P 0) b2 v2 h2 A (.slice (some ⟨g, 0, none⟩) N c5) N 0 F P) := ⟨v, v2, gv_start (N0 := 0) HG1.out hB5 hP⟩
            have HJ : Hid (joinN P N = r) := hJ
            clear hP hJ hPc hB5 HG1 HRr HRcr hBr
            go_wp2_with fail
            --6
            go_loopw [19] (fun i wx => ∃ j : Nat, j ≤ N ∧ i = .int .i64 j ∧ Hid (∃ v v2, GiveSt w.heap.size w wx b v (joinN P j) b2 v2 h2 A (.slice (some ⟨g, 0, none⟩) N c5) N j F P)) (fun i _ => N - (intOf i).toNat)
            case atStart => exact ⟨0, Nat.zero_le _, rfl, HS⟩
            case round =>
              clear HS
              obtain ⟨j, hj, rfl, HS⟩ := hrel
              by_cases hjn : j < N
              · have hjn' : (j : Int) < N := by omega
                obtain ⟨v, v2, S⟩ := HS.out
                obtain ⟨aj, cj, hFj, hcj⟩ := S.pcs.sh j hjn
                have hcell : wr.cell? ⟨g, j, none⟩ = some (F j) := S.pcs.row.at j hjn
                rw [hFj] at hcell
                have htj := S.pcs.tl j (Nat.le_refl _) hjn
                have hlen : (joinN P j).length + (P j).length ≤ 1000 := by
                  have := joinN_le P N j hjn
                  rw [HJ.out, HL.out] at this
                  omega
                rw [hFj] at htj
                obtain ⟨a', c', e', hrj, hnj, -, -⟩ := htj.open
                injection e' with e1 _ e3
                subst e1 e3
                obtain ⟨m, hm⟩ : ∃ m, (P j).length = m := ⟨_, rfl⟩
                have HM : Hid ((P j).length = m) := hm
                have HRj : Hid _ := hrj
                have HNj : Hid _ := hnj
                have HFj : Hid (F j = .slice aj (P j).length cj) := hFj
                have HSj : Hid _ := S
                have hmm : m ≤ 1000 := by omega
                rw [hm] at hcell hlen
                clear hrj hnj htj hFj S HS hm
                go_wp2_with fail
                --7
                refine (give_any w.heap.size b v (joinN P j) A false aj m cj (P j) _ HSj.out.duo.x HM HRj HNj (by show (joinN P j).length + m ≤ _; omega)).mono ?_; rintro e w6 ⟨rfl, HT6⟩
                have HT6 : Hid (InTo w.heap.size wr w6 b v (joinN P (j + 1)) A false) := HT6
                obtain ⟨v6, S6⟩ := gv_give HSj.out HT6.out
                have HF6 : Hid (∃ v v2, FillSt w.heap.size w w6 b v (joinN P (j + 1)) b2 v2 h2 A (.slice (some ⟨g, 0, none⟩) N c5) N j F P) := ⟨_, _, fill_begin S6 hjn⟩
                clear S6 HT6 HSj HRj hcell
                go_wp2_with (go_at_call 8; refine (num_any _ _).mono ?_; rintro e w' ⟨rfl, rfl⟩)
                --8
                go_loopw [20] (fun i wx => ∃ q : Nat, q ≤ m ∧ i = .int .i64 q ∧ Hid (∃ v v2, FillSt w.heap.size w wx b v (joinN P (j + 1)) b2 v2 h2 A (.slice (some ⟨g, 0, none⟩) N c5) N j F P)) (fun i _ => m - (intOf i).toNat)
                case atStart => exact ⟨0, Nat.zero_le _, rfl, HF6⟩
                case round =>
                  clear HF6
                  obtain ⟨q, hq, rfl, HF⟩ := hrel
                  obtain ⟨v, v2, f⟩ := HF.out
                  have hcell : wr.cell? ⟨g, j, none⟩ = some (F j) := f.1.pcs.row.at j hjn
                  rw [HFj.out, HM.out] at hcell
                  by_cases hqm : q < m
                  · have hqm' : (q : Int) < m := by omega
                    obtain ⟨gj, oj, rfl, ⟨u, hu⟩, hz, f2⟩ := fill_one f hjn HFj.out (by rw [HM.out]; exact hqm) 238
                    have HF2 : Hid (∃ v v2, FillSt w.heap.size w (wr.setCell ⟨gj, oj + q, none⟩ (.int .u8 238)) b v (joinN P (j + 1)) b2 v2 h2 A (.slice (some ⟨g, 0, none⟩) N c5) N j F P) := ⟨_, _, f2⟩
                    clear f f2 HF
                    go_wp2
                    go_roundw
                    case rel => exact ⟨q + 1, by omega, by go_num, HF2⟩
                    case measure => simp [intOf]; omega
                  · have hqm' : ¬ (q : Int) < m := by omega
                    have HS2 : Hid (∃ v v2, GiveSt w.heap.size w wr b v (joinN P (j + 1)) b2 v2 h2 A (.slice (some ⟨g, 0, none⟩) N c5) N (j + 1) F P) := ⟨_, _, f.1⟩
                    clear f HF
                    go_wp2
                    go_roundw
                    case rel => exact ⟨j + 1, by omega, by go_num, HS2⟩
                    case measure => simp [intOf]; omega
              · have hjn' : ¬ (j : Int) < N := by omega
                obtain rfl : j = N := by omega
                have HT2 : Hid (TurnSt w.heap.size w wr bx bY r A (k + 1)) := by
                  obtain ⟨v', v2', S⟩ := HS.out
                  have d := S.duo
                  rw [HJ.out] at d
                  exact HG2.out _ _ _ d
                go_wp2
                go_roundw
                case rel => exact ⟨k + 1, by omega, by go_num, HT2⟩
                case measure => simp [intOf]; omega
        · have hlt' : ¬ (k : Int) < 2 := by omega
          --9
          have ek : k = 2 := by omega
          rw [ek] at HT
          have HS0 : Hid (StepSt w.heap.size w wr bx bY r A 0) := step_start HT.out
          have hk2 : (k : Int) = 2 := by omega
          rw [hk2]
          clear HT hk hlt hlt' hk2 ek
          go_wp2_with fail
          go_loopw [21, 22] (fun s i wx => ∃ k T : Nat, k ≤ len3 ∧ k ≤ 300 ∧ T ≤ n ∧ i = .int .i64 k ∧ s = .int .i64 T ∧ Hid (StepSt w.heap.size w wx bx bY r A T)) (fun _ i _ => len3 - (intOf i).toNat)
          case atStart => exact ⟨0, 0, Nat.zero_le _, Nat.zero_le _, Nat.zero_le _, rfl, rfl, HS0⟩
          case round =>
            clear HS0
            obtain ⟨k, T, hk1, hk2, hTn, rfl, rfl, HS⟩ := hrel
            by_cases hgo : k < len3 ∧ k < 300
            · obtain ⟨hlt, hlt2⟩ := hgo
              have hlt' : (k : Int) < len3 := by omega
              have hlt2' : (k : Int) < 300 := by omega
              obtain ⟨vx, vy, dd⟩ := HS.out
              have HD : Hid _ := dd
              have hBr := dd.bel
              clear dd HS
              obtain ⟨bs, offs, rfl, hbs, hcs⟩ := hr3.out.open (by have := hl3.out; omega)
              have hcell := hcs k (by have := hl3.out; omega)
              rw [← hBr.cell (p := ⟨bs, offs + k, none⟩) hbs] at hcell
              obtain ⟨z, hzd⟩ : ∃ z, l3.getD k 0 = z := ⟨_, rfl⟩
              have hzb := hv3.out k hlt
              rw [hzd] at hcell hzb
              clear hzd
              have hz : 3 * z.tdiv 3 + z.tmod 3 = z := Int.mul_tdiv_add_tmod z 3
              have hz1 : z.tmod 3 < 3 := Int.tmod_lt_of_pos z (by omega)
              have hz2 : -3 < z.tmod 3 := Int.lt_tmod_of_pos z (by omega)
              have hz3 : 0 ≤ z → 0 ≤ z.tmod 3 := fun h => Int.tmod_nonneg _ h
              have hz4 : z < 0 → z.tmod 3 ≤ 0 := fun h => by
                have := Int.tmod_nonneg 3 (show 0 ≤ -z by omega)
                rw [Int.neg_tmod] at this
                omega
              obtain ⟨K, hK⟩ : ∃ K : Nat, (n : Int) - T = K := ⟨n - T, by omega⟩
              have HK : Hid ((r.drop T).length = K) := by show _ = _; rw [List.length_drop, HL.out]; omega
              have HKn : Hid ((n : Int) - T = K) := hK
              have hKn : K ≤ 1000 := by omega
              clear hcs hK
              go_upto_if 131 with fail
              --10
              go_cut [21] from 115 to 133 (fun s wc => ∃ T' : Nat, T' ≤ n ∧ s = .int .i64 T' ∧ Hid (StepSt w.heap.size w wc bx bY r A T'))
              case first =>
                obtain ⟨d, hd⟩ : ∃ d, z.tdiv 3 = d := ⟨_, rfl⟩
                rw [hd] at hz
                have hwd : wrap64 d = d := w64 _ (by omega)
                clear hzb
                by_cases h0 : z.tmod 3 = 0
                · by_cases hin : 0 ≤ d ∧ d ≤ (n : Int) - T
                  · as_aux_lemma =>
                    clear hwd
                    obtain ⟨m, rfl⟩ := Int.eq_ofNat_of_zero_le hin.1
                    have hzz : 0 ≤ z := by omega
                    have hmK : (m : Int) ≤ (n : Int) - T := hin.2
                    have hTm : T + m ≤ n := by omega
                    clear hin hz hz1 hz2 hz3 hz4 hcell
                    go_wp2_with fail
                    refine (peek_yes w.heap.size bx vx (r.drop T) _ false m _ HD.out.x (by show m ≤ (r.drop T).length; rw [HK.out]; have := HKn.out; omega) (by show (r.drop T).length ≤ _; rw [HK.out]; have := HKn.out; omega)).mono ?_; rintro e w5 ⟨g5, rfl, hg5, HB5, hB5⟩
                    have HD5 : Hid _ := HD.out.later hB5
                    clear HD
                    go_wp2_with fail
                    refine (peek_yes w.heap.size bY vy (r.drop T) _ false m _ HD5.out.y (by show m ≤ (r.drop T).length; rw [HK.out]; have := HKn.out; omega) (by show (r.drop T).length ≤ _; rw [HK.out]; have := HKn.out; omega)).mono ?_; rintro e w6 ⟨g6, rfl, hg6, HB6, hB6⟩
                    have HD6 : Hid _ := HD5.out.later hB6
                    have HLt : Hid (((r.drop T).take m).length = m) := by show _ = _; rw [List.length_take, HK.out]; have := HKn.out; omega
                    have hcv5 := conv_blk (HB5.out.later hB6) HLt.out
                    have hcv6 := conv_blk HB6.out HLt.out
                    have hB0 := Below.refl w6.heap.size w6
                    have hBw6 := HD6.out.bel
                    have HSt : Hid (∀ q, StepSt w.heap.size w (w6.drewN q) bx bY r A T) := fun q => ⟨vx, vy, HD6.out.later (below_drewN _ q)⟩
                    clear HD5 HB5 HB6 hB5 hB6 hg5 hg6 HD6 hBr
                    obtain ⟨str, hstr⟩ : ∃ str, strOfNums ((r.drop T).take m) = str := ⟨_, rfl⟩
                    rw [hstr] at hcv5 hcv6
                    have HStr : Hid (strOfNums ((r.drop T).take m) = str) := hstr
                    clear hstr
                    --12
                    go_wp2_with fail
                    obtain ⟨E, hE⟩ : ∃ E, T + m = E := ⟨_, rfl⟩
                    by_cases hm0 : m = 0
                    · subst hm0
                      have hcb : ∀ w' x c, (convert 30 9 (.slice x 0 c)).run Try.prog w' = .ok (.string str) w' := fun w' x c => by
                        rw [← HStr.out]
                        refine conv_row E30 Try.underlying9 _ x 0 c [] rfl ?_
                        cases x with
                        | none => exact .inl ⟨rfl, rfl⟩
                        | some x => exact .inr ⟨x, rfl, fun i hi => by simp at hi⟩
                      obtain ⟨x, hsl⟩ := slice_zero a0 n cap0 T (by omega)
                      have k8 : IntKind.i64.wrap (T : Int) = T := i64w _ (by omega)
                      have k9 : IntKind.i64.wrap 0 = 0 := i64w _ (by omega)
                      clear hcv5 hcv6 hTm hmK hE
                      go_region_held_law (fun w' => Below w6.heap.size w6 w') (first | assumption | exact hB0.drew) (fail)
                      go_wp2_with fail
                      go_meet
                      case rel => exact ⟨T, hTn, rfl, HSt.out 1⟩
                    · obtain ⟨bb, offb, rfl, -, -⟩ := HR.out.open (by rw [HL.out]; omega)
                      have cm1 : ∀ w', Below w6.heap.size w6 w' → ∀ c', (convert 30 9 (.slice (some ⟨bb, offb + T, none⟩) m c')).run Try.prog w' = .ok (.string str) w' := fun w' hB c' => by
                        rw [← HStr.out]
                        exact (conv_mid (c := 0) HR.out HL.out (hBw6.trans (hB.mono hBw6.size)) hTm).1 c'
                      have hsl := slice_lt bb offb n cap0 T E m hE (by omega) (by omega)
                      have k9 : IntKind.i64.wrap (m : Int) = m := i64w _ (by omega)
                      have k8 : IntKind.i64.wrap ((T : Int) + m) = (E : Int) := by rw [i64w _ (by omega)]; omega
                      clear hTm hmK hE
                      go_region_held_law (fun w' => Below w6.heap.size w6 w') (first | assumption | exact hB0.drew) (fail)
                      go_wp2_with fail
                      go_meet
                      case rel => exact ⟨T, hTn, rfl, HSt.out 1⟩
                  · as_aux_lemma =>
                    have hin2 : Hid (¬ (0 ≤ d ∧ d ≤ ((r.drop T).length : Int))) := not_in2 hin HKn.out HK.out
                    have HSt : Hid (∀ q, StepSt w.heap.size w (wr.drewN q) bx bY r A T) := fun q => ⟨vx, vy, HD.out.later (below_drewN _ q)⟩
                    by_cases hzz : 0 ≤ z
                    · have hdf : decide (d ≤ (n : Int) - T) = false := decide_eq_false (by omega)
                      clear hin hz hz1 hz2 hz3 hz4 hcell
                      go_wp2_with fail
                      refine (peek_no w.heap.size bx vx (r.drop T) _ false d _ HD.out.x hin2.out).mono ?_; rintro e w' ⟨rfl, rfl⟩
                      go_wp2_with fail
                      refine (peek_no w.heap.size bY vy (r.drop T) _ false d _ HD.out.y hin2.out).mono ?_; rintro e w' ⟨rfl, rfl⟩
                      go_wp2_with fail
                      --13
                      go_quiet (fail)
                      go_wp2_with fail
                      go_meet
                      case rel => exact ⟨T, hTn, rfl, HSt.out _⟩
                    · clear hin hz hz1 hz2 hz3 hz4 hcell
                      go_wp2_with fail
                      refine (peek_no w.heap.size bx vx (r.drop T) _ false d _ HD.out.x hin2.out).mono ?_; rintro e w' ⟨rfl, rfl⟩
                      go_wp2_with fail
                      refine (peek_no w.heap.size bY vy (r.drop T) _ false d _ HD.out.y hin2.out).mono ?_; rintro e w' ⟨rfl, rfl⟩
                      go_wp2_with fail
                      go_quiet (fail)
                      go_wp2_with fail
                      go_meet
                      case rel => exact ⟨T, hTn, rfl, HSt.out _⟩
                · by_cases h1 : z.tmod 3 = 1
                  · have hd0 : 0 ≤ d := by omega
                    obtain ⟨m, rfl⟩ := Int.eq_ofNat_of_zero_le hd0
                    clear hz hz1 hz2 hz3 hz4 hcell
                    by_cases hin : (m : Int) ≤ (n : Int) - T
                    · as_aux_lemma =>
                      clear hwd
                      have hin2 : 0 ≤ (m : Int) ∧ (m : Int) ≤ ((r.drop T).length : Int) := by rw [HK.out]; have := HKn.out; omega
                      go_wp2_with fail
                      --14
                      refine (skip_any w.heap.size bx vx (r.drop T) _ false m _ HD.out.x (by omega) (by rw [HK.out]; omega)).mono ?_; rintro e w5 ⟨rfl, HT5⟩
                      rw [if_pos hin2, if_pos hin2] at HT5
                      rw [if_pos hin2]
                      obtain ⟨vx5, d5⟩ := duo_x HD.out HT5.out
                      have HD5 : Hid _ := d5
                      clear HD HT5 d5
                      go_wp2_with (go_at_call 8; refine (num_any _ _).mono ?_; rintro e w' ⟨rfl, rfl⟩)
                      refine (skip_any w.heap.size bY vy (r.drop T) _ false m _ HD5.out.y (by omega) (by rw [HK.out]; omega)).mono ?_; rintro e w6 ⟨rfl, HT6⟩
                      rw [if_pos hin2, if_pos hin2] at HT6
                      rw [if_pos hin2]
                      obtain ⟨vy6, d6⟩ := duo_y HD5.out HT6.out
                      rw [List.drop_drop, Int.toNat_natCast, Int.add_assoc, ← Int.natCast_add] at d6
                      have HS6 : Hid (StepSt w.heap.size w w6 bx bY r A (T + m)) := ⟨_, _, d6⟩
                      clear HD5 HT6 d6 hin2
                      go_wp2_with (go_at_call 8; refine (num_any _ _).mono ?_; rintro e w' ⟨rfl, rfl⟩)
                      go_meet
                      case rel => exact ⟨T + m, by omega, by go_num, HS6⟩
                    · as_aux_lemma =>
                      have hin2 : ¬ (0 ≤ (m : Int) ∧ (m : Int) ≤ ((r.drop T).length : Int)) := not_in hin HKn.out HK.out
                      have Hin2 : Hid _ := hin2
                      have hdf : decide ((m : Int) ≤ (n : Int) - T) = false := decide_eq_false hin
                      clear hin hin2
                      go_wp2_with fail
                      --18
                      refine (skip_any w.heap.size bx vx (r.drop T) _ false m _ HD.out.x (by omega) (by rw [HK.out]; omega)).mono ?_; rintro e w5 ⟨rfl, HT5⟩
                      rw [if_neg Hin2.out, if_neg Hin2.out] at HT5
                      rw [if_neg Hin2.out]
                      obtain ⟨vx5, d5⟩ := duo_x HD.out HT5.out
                      have HD5 : Hid _ := d5
                      clear HD HT5 d5
                      go_wp2_with (go_at_call 8; refine (num_any _ _).mono ?_; rintro e w' ⟨rfl, rfl⟩)
                      refine (skip_any w.heap.size bY vy (r.drop T) _ false m _ HD5.out.y (by omega) (by rw [HK.out]; omega)).mono ?_; rintro e w6 ⟨rfl, HT6⟩
                      rw [if_neg Hin2.out, if_neg Hin2.out] at HT6
                      rw [if_neg Hin2.out]
                      obtain ⟨vy6, d6⟩ := duo_y HD5.out HT6.out
                      have HS6 : Hid (StepSt w.heap.size w w6 bx bY r A T) := ⟨_, _, d6⟩
                      clear HD5 HT6 d6 Hin2
                      go_wp2_with (go_at_call 8; refine (num_any _ _).mono ?_; rintro e w' ⟨rfl, rfl⟩)
                      go_meet
                      case rel => exact ⟨T, hTn, rfl, HS6⟩
                  · clear hz hz1 hz2 hz3 hz4 hcell hd
                    by_cases hin : T < n
                    · as_aux_lemma =>
                      have hin2 : 0 < (r.drop T).length := by rw [HK.out]; have := HKn.out; omega
                      have hin' : (T : Int) < n := by omega
                      obtain ⟨bb, offb, rfl, hbb, hcb⟩ := HR.out.open (by rw [HL.out]; omega)
                      have hcT := hcb T (by rw [HL.out]; exact hin)
                      obtain ⟨x, hx⟩ : ∃ x, r.getD T 0 = x := ⟨_, rfl⟩
                      have HX : Hid ((r.drop T).getD 0 0 = x) := by show _ = _; rw [drop_get]; exact hx
                      rw [hx] at hcT
                      have CT : Hid (∀ w', Below w.heap.size w w' → w'.cell? ⟨bb, offb + T, none⟩ = some (.int .u8 x)) := fun w' hB => (hB.cell (p := ⟨bb, offb + T, none⟩) hbb).trans hcT
                      clear hcb hcT hx
                      go_wp2_with fail
                      refine (take_any w.heap.size bx vx (r.drop T) _ false _ HD.out.x (by omega) (by rw [HK.out]; omega)).mono ?_; rintro e w5 ⟨rfl, HT5⟩
                      rw [if_pos hin2] at HT5
                      rw [HX.out, decide_eq_true hin2]
                      obtain ⟨vx5, d5⟩ := duo_x HD.out HT5.out
                      have HD5 : Hid _ := d5
                      clear HD HT5 d5
                      go_wp2_with fail
                      refine (take_any w.heap.size bY vy (r.drop T) _ false _ HD5.out.y (by omega) (by rw [HK.out]; omega)).mono ?_; rintro e w6 ⟨rfl, HT6⟩
                      rw [if_pos hin2] at HT6
                      rw [HX.out, decide_eq_true hin2]
                      obtain ⟨vy6, d6⟩ := duo_y HD5.out HT6.out
                      have hcT := CT.out w6 d6.bel
                      have e1 : (A : Int) + T + 1 = (A : Int) + (T + 1 : Nat) := by omega
                      rw [List.drop_drop, e1] at d6
                      have HS6 : Hid (StepSt w.heap.size w w6 bx bY r A (T + 1)) := ⟨_, _, d6⟩
                      clear HD5 HT6 d6 hin2 CT e1 hin
                      --15
                      go_wp2_with fail
                      go_meet
                      case rel => exact ⟨T + 1, by omega, by go_num, HS6⟩
                    · as_aux_lemma =>
                      have hin2 : ¬ 0 < (r.drop T).length := by rw [HK.out]; have := HKn.out; omega
                      have hin' : ¬ (T : Int) < n := by omega
                      have HX : Hid ((r.drop T).getD 0 0 = 0) := by
                        show _ = _
                        rw [List.length_eq_zero_iff.1 (show (r.drop T).length = 0 by omega)]
                        rfl
                      go_wp2_with fail
                      refine (take_any w.heap.size bx vx (r.drop T) _ false _ HD.out.x (by omega) (by rw [HK.out]; omega)).mono ?_; rintro e w5 ⟨rfl, HT5⟩
                      rw [if_neg hin2] at HT5
                      rw [HX.out, decide_eq_false hin2]
                      obtain ⟨vx5, d5⟩ := duo_x HD.out HT5.out
                      have HD5 : Hid _ := d5
                      clear HD HT5 d5
                      go_wp2_with fail
                      refine (take_any w.heap.size bY vy (r.drop T) _ false _ HD5.out.y (by omega) (by rw [HK.out]; omega)).mono ?_; rintro e w6 ⟨rfl, HT6⟩
                      rw [if_neg hin2] at HT6
                      rw [HX.out, decide_eq_false hin2]
                      obtain ⟨vy6, d6⟩ := duo_y HD5.out HT6.out
                      have e1 : (r.drop T).drop 1 = r.drop T := by
                        rw [List.length_eq_zero_iff.1 (show (r.drop T).length = 0 by omega)]
                        rfl
                      rw [e1] at d6
                      have HS6 : Hid (StepSt w.heap.size w w6 bx bY r A T) := ⟨_, _, d6⟩
                      clear HD5 HT6 d6 hin2 e1 hin
                      go_wp2_with fail
                      go_meet
                      case rel => exact ⟨T, hTn, rfl, HS6⟩
              case rest =>
                as_aux_lemma =>
                clear HD hBr hz hz1 hz2 hz3 hz4 hcell HK HKn hzb
                obtain ⟨T', hT', rfl, HS⟩ := hcut
                obtain ⟨vx, vy, dd⟩ := HS.out
                have HD : Hid _ := dd
                obtain ⟨K', hK'⟩ : ∃ K' : Nat, (n : Int) - T' = K' := ⟨n - T', by omega⟩
                have HK : Hid ((r.drop T').length = K') := by show _ = _; rw [List.length_drop, HL.out]; omega
                clear dd
                --16
                go_wp2_with (first
                  | (go_at_call_of 19 (Value.pointer (some ⟨bx, 0, none⟩)); refine (at_any w.heap.size bx vx _ _ false _ HD.out.x).mono ?_; rintro e w' ⟨rfl, rfl⟩)
                  | (go_at_call_of 19 (Value.pointer (some ⟨bY, 0, none⟩)); refine (at_any w.heap.size bY vy _ _ false _ HD.out.y).mono ?_; rintro e w' ⟨rfl, rfl⟩)
                  | (go_at_call_of 20 (Value.pointer (some ⟨bx, 0, none⟩)); refine (held_any w.heap.size bx vx _ _ false _ K' HK HD.out.x).mono ?_; rintro e w' ⟨rfl, rfl⟩)
                  | (go_at_call_of 20 (Value.pointer (some ⟨bY, 0, none⟩)); refine (held_any w.heap.size bY vy _ _ false _ K' HK HD.out.y).mono ?_; rintro e w' ⟨rfl, rfl⟩))
                go_roundw
                case rel => exact ⟨k + 1, T', by omega, by omega, hT', by go_num, rfl, HS⟩
                case measure => simp [intOf]; omega
            · as_aux_lemma =>
              have hend : ¬ ((k : Int) < len3 ∧ (k : Int) < 300) := by omega
              obtain ⟨vx, vy, dd⟩ := HS.out
              have HD : Hid _ := dd
              clear dd HS hgo
              go_upto_region 32 with fail
              go_cut [122] from 120 to 121 (fun c wx => c = .bool false ∧ wr = wx)
              case first =>
                by_cases h1 : (k : Int) < len3
                · have h2 : ¬ (k : Int) < 300 := by omega
                  clear hend
                  go_wp2_with fail
                  go_meet
                  case rel => exact ⟨rfl, rfl⟩
                · clear hend
                  go_wp2_with fail
                  go_meet
                  case rel => exact ⟨rfl, rfl⟩
              case rest =>
                obtain ⟨rfl, rfl⟩ := hcut
                clear hend
                go_wp2_with fail
                --17
                refine (ended_any w.heap.size bx vx _ _ false _ HD.out.x).mono ?_; rintro e w' ⟨rfl, rfl⟩
                go_wp2_with fail
                refine (end_any w.heap.size bx vx _ _ false _ HD.out.x).mono ?_; rintro e w6 ⟨rfl, HI6, hU6⟩
                have HY6 : Hid _ := HD.out.y.upd hU6 (fun q hq e => HD.out.sep q e hq)
                have hB6 := HD.out.bel.trans (in_below HD.out.x hU6)
                clear hU6 HD
                go_wp2_with (first | (go_at_call 8; refine (num_any _ _).mono ?_; rintro e w' ⟨rfl, rfl⟩) | (go_at_call_of 21 (Value.pointer (some ⟨bx, 0, none⟩)); refine (ended_any w.heap.size bx vx _ _ true _ HI6).mono ?_; rintro e w' ⟨rfl, rfl⟩) | (go_at_call_of 21 (Value.pointer (some ⟨bY, 0, none⟩)); refine (ended_any w.heap.size bY vy _ _ false _ HY6).mono ?_; rintro e w' ⟨rfl, rfl⟩))
                go_ret
                exact ⟨rfl, hB6⟩
end Go.Proofs.Ytmeplmhngmlnaaa
