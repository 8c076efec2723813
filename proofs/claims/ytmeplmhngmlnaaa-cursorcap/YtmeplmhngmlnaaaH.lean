/- CursorCap: its walk. -/
import Derived.Test.YtmeplmhngmlnaaaG
namespace Go.Proofs.Ytmeplmhngmlnaaa
open Go.RowKit
set_option linter.unusedVariables false

set_option maxHeartbeats 4000000 in
set_option maxRecDepth 100000 in
theorem cap_any (most : Int) (a0 : Option Addr) (len0 cap0 : Nat) (at0 : Int) (n : Nat) (w : World) (hl : len0 ≤ maxLen) (hn : n < 18446744073709551616) (hP : Hid (PartsAt w a0 len0)) :
    Calls Try.prog 3 #[.int .i64 most, .slice a0 len0 cap0, .int .i64 at0, .int .u64 n] w fun e w' => e = .returned (.bool true) ∧ Below w.heap.size w w' := by
  unfold maxLen at hl
  go_enter Try.func3, Try.ntmps3
  go_wp2_with fail
  refine (awake_any w).mono ?_; rintro e w1 ⟨rfl, hB1⟩
  have hm1 : most.tmod 5000 < 5000 := Int.tmod_lt_of_pos most (by omega)
  have hm2 : -5000 < most.tmod 5000 := Int.lt_tmod_of_pos most (by omega)
  go_upto_if 20 with fail
  go_cut [0] (fun s wc => ∃ m : Nat, m < 5000 ∧ s = .int .i64 m ∧ w1 = wc)
  case first =>
    generalize most.tmod 5000 = t at *
    by_cases h : t < 0
    · go_wp2
      go_meet
      case rel => exact ⟨t.natAbs, by omega, by go_num, rfl⟩
    · go_wp2
      go_meet
      case rel => exact ⟨t.natAbs, by omega, by go_num, rfl⟩
  case rest =>
    clear hm1 hm2
    obtain ⟨m, hm, rfl, rfl⟩ := hcut
    go_wp2_with fail
    --1
    refine (to_yes m _ (by omega)).mono ?_; rintro e w2 ⟨o, rfl, ho, HO, hB2⟩
    have HS : Hid (CapSt w.heap.size w w2 o (.slice none 0 0) (.slice none 0 0) [] m) := ⟨HO.out.mono hB1.size, Tail.nil _ _ _ _, (fun q hq => by cases hq), below_to hB1 hB2, by simp⟩
    clear HO ho hB1 hB2
    go_wp2_with (go_at_call 8; refine (num_any _ _).mono ?_; rintro e w' ⟨rfl, rfl⟩)
    --2
    go_loopw [11, 12] (fun s i wr => ∃ (k : Nat) (a : Option Addr) (c : Nat) (L : List Int), k ≤ len0 ∧ k ≤ 60 ∧ i = .int .i64 k ∧ s = .slice a L.length c ∧ Hid (∃ vo, CapSt w.heap.size w wr o vo (.slice a L.length c) L m)) (fun _ i _ => len0 - (intOf i).toNat)
    case atStart => exact ⟨0, none, 0, [], Nat.zero_le _, Nat.zero_le _, rfl, rfl, ⟨_, HS.out⟩⟩
    case round =>
      clear HS
      obtain ⟨k, aw, cw, L, hk1, hk2, rfl, rfl, hS0⟩ := hrel
      obtain ⟨vo, hS1⟩ := hS0.out
      have HS : Hid _ := hS1
      have hLm : (L.length : Int) ≤ m := hS1.len
      clear hS0 hS1
      obtain ⟨n1, hn1⟩ : ∃ n1, L.length = n1 := ⟨_, rfl⟩
      have HN : Hid (L.length = n1) := hn1
      by_cases hgo : k < len0 ∧ k < 60
      · obtain ⟨hlt, hlt2⟩ := hgo
        obtain ⟨b, off, a, pm, pc, l, rfl, hb, hcell, hpc, hpm, hll, hrow, hnil⟩ := hP.out k hlt
        unfold maxLen at hpm
        have hlt' : (k : Int) < len0 := by omega
        have hlt2' : (k : Int) < 60 := by omega
        have hbel := HS.out.bel
        rw [← hbel.cell (p := ⟨b, off + k, none⟩) hb] at hcell
        have HR : Hid (Row .u8 w a l) := hrow
        have HL : Hid (l.length = pm) := hll
        have HNil : Hid (a = none → pc = 0) := hnil
        rw [hn1] at HS hLm ⊢
        clear hrow hll hnil hbel hn1
        go_upto_if 51 with fail
        --3
        go_cut [13] (fun s wc => ∃ (q : Nat) (r : List Int), q ≤ 1000 ∧ s = .slice a q pc ∧ Hid (r.length = q) ∧ Hid (Row .u8 w a r) ∧ wr = wc)
        case first =>
          by_cases h : 1000 < (pm : Int)
          · go_wp2
            go_meet
            case rel => exact ⟨1000, l.take 1000, by omega, rfl, by show _ = _; rw [List.length_take, HL.out]; omega, HR.out.take 1000, rfl⟩
          · go_wp2
            go_meet
            case rel => exact ⟨pm, l, by omega, rfl, HL, HR, rfl⟩
        case rest =>
          clear HR HL hcell
          obtain ⟨q, r, hq, rfl, HL, HR, rfl⟩ := hcut
          --4
          have HRr : Hid (Row .u8 wr a r) := HR.out.later HS.out.bel
          go_wp2_with fail
          refine (oput_any w.heap.size o vo L m a q pc r _ HS.out.out HL HRr HNil (by omega) (by omega) (by have := HN.out; omega)).mono ?_; rintro e w3 ⟨rfl, HT⟩
          rw [HN.out] at HT
          rw [HN.out]
          go_upto_if 63 with fail
          go_cut [11, 14] (fun s _ wc => ∃ (w4 : World) (a' : Option Addr) (c' : Nat) (L' : List Int), w4 = wc ∧ s = .slice a' L'.length c' ∧ Hid (∃ vo, CapSt w.heap.size w wc o vo (.slice a' L'.length c') L' m))
          case first =>
            by_cases hfit : (n1 : Int) + q ≤ m
            · rw [if_pos hfit] at HT
              rw [if_pos hfit]
              obtain ⟨vo3, o3, t3, s3, b3⟩ := cap_put (vo' := .bool true) HS.out HT.out
              obtain ⟨a4, c4, w4, hr4, S4⟩ := cap_app o3 t3 s3 b3 (by rw [List.length_append, HN.out, HL.out]; omega) (by omega) HL.out (HR.out.later b3) HNil.out b3.size
              have R4 : Hid _ := hr4
              have HS4 : Hid _ := S4
              have hfit' : ¬ (m : Int) < (n1 : Int) + q := by omega
              clear hr4 S4 o3 t3 s3 b3 HT HS HRr
              go_wp2_with (first | (go_at_call 8; refine (num_any _ _).mono ?_; rintro e w' ⟨rfl, rfl⟩) | (at_builtin; have _t := R4; refine wpList_append_run rfl (.tmp 67) (.tmp 68) 30 30 rfl rfl rfl R4.out ?_; clear R4))
              go_meet
              case rel => exact ⟨_, a4, c4, L ++ r, rfl, by rw [List.length_append], ⟨_, HS4.out⟩⟩
            · rw [if_neg hfit] at HT
              rw [if_neg hfit]
              obtain ⟨vo3, o3, t3, s3, b3⟩ := cap_put (vo' := .bool true) HS.out HT.out
              have HS4 : Hid (CapSt w.heap.size w w3 o vo3 (.slice aw n1 cw) L m) := ⟨o3, t3, s3, b3, by rw [HN.out]; exact hLm⟩
              have hfit' : (m : Int) < (n1 : Int) + q := by omega
              clear o3 t3 s3 b3 HT HS HRr
              go_wp2_with (go_at_call 8; refine (num_any _ _).mono ?_; rintro e w' ⟨rfl, rfl⟩)
              go_meet
              case rel => exact ⟨_, aw, cw, L, rfl, by rw [HN.out], ⟨vo3, by rw [HN.out]; exact HS4.out⟩⟩
          case rest =>
            clear HT HS HRr hLm HN
            obtain ⟨w4, a4, c4, L4, rfl, rfl, hS4⟩ := hcut
            obtain ⟨vo4, S4⟩ := hS4.out
            have HS4 : Hid _ := S4
            have hLm : (L4.length : Int) ≤ m := S4.len
            clear hS4 S4
            obtain ⟨n4, hn4⟩ : ∃ n4, L4.length = n4 := ⟨_, rfl⟩
            have HLe : Hid (L4.length = n4) := hn4
            rw [hn4] at HS4 hLm ⊢
            clear hn4
            have hcv := conv_later HS4.out.want
            have HO4 : Hid _ := HS4.out.out
            have hB0 := Below.refl w4.heap.size w4
            --5
            go_wp2_with fail
            go_region_held_law (fun w' => Below w4.heap.size w4 w') (first | assumption | exact hB0.drew)
              (first
                | (go_at_call 10; refine (len_any w.heap.size o vo4 L4 m _ n4 HLe.out (HO4.out.later (by assumption))).mono ?_; rintro e w' ⟨rfl, rfl⟩)
                | (go_at_call 11; refine (bytes_any w.heap.size o vo4 L4 m _ n4 HLe.out (by omega) (HO4.out.later (by assumption))).mono ?_; rintro e w6 ⟨g6, rfl, hg6, HK6, hB6⟩; have hB46 := below_to (by assumption : Below w4.heap.size w4 _) hB6; have hcv6 := conv_blk HK6.out HLe.out _ (Below.refl _ _)))
            all_goals
              go_wp2
              go_roundw
              case rel => exact ⟨k + 1, a4, c4, L4, by omega, by omega, by go_num, by rw [HLe.out], ⟨vo4, by rw [HLe.out]; exact HS4.out.later (by assumption)⟩⟩
              case measure => simp [intOf]; omega
      · --6
        have hend : ¬ ((k : Int) < len0 ∧ (k : Int) < 60) := by omega
        rw [hn1] at HS hLm ⊢
        clear hn1 hgo
        go_upto_region 11 with fail
        go_cut [42] (fun c wx => c = .bool false ∧ wr = wx)
        case first =>
          by_cases h1 : (k : Int) < len0
          · have h2 : ¬ (k : Int) < 60 := by omega
            clear hend
            go_wp2_with fail
            go_meet
            case rel => exact ⟨rfl, rfl⟩
          · clear hend
            go_wp2_with fail
            go_meet
            case rel => exact ⟨rfl, rfl⟩
        case rest =>
          obtain ⟨rfl, rfl⟩ := hcut
          clear hend hk1 hk2
          by_cases h0 : n1 = 0
          · subst h0
            obtain rfl : L = [] := List.length_eq_zero_iff.1 HN.out
            go_wp2_with (first | (go_at_call 8; refine (num_any _ _).mono ?_; rintro e w' ⟨rfl, rfl⟩) | (go_at_call 12; refine (patch_same w.heap.size o vo [] m 0 1 5 3 _ HS.out.out (by simp) (by decide) (by omega)).mono ?_; rintro e w' ⟨rfl, rfl⟩))
            go_ret
            exact ⟨rfl, HS.out.bel⟩
          · have hn0 : ¬ (n1 : Int) = 0 := by omega
            have ha1 : at0.tmod n1 < n1 := Int.tmod_lt_of_pos at0 (by omega)
            have ha2 : -(n1 : Int) < at0.tmod n1 := Int.lt_tmod_of_pos at0 (by omega)
            go_upto_if 98 with fail
            --7
            go_cut [2] (fun s wc => ∃ A : Nat, A < n1 ∧ s = .int .i64 A ∧ wr = wc)
            case first =>
              generalize at0.tmod n1 = t at *
              by_cases h : t < 0
              · go_wp2
                go_meet
                case rel => exact ⟨t.natAbs, by omega, by go_num, rfl⟩
              · go_wp2
                go_meet
                case rel => exact ⟨t.natAbs, by omega, by go_num, rfl⟩
            case rest =>
              clear ha1 ha2
              obtain ⟨A, hA, rfl, rfl⟩ := hcut
              --8
              have hmod : (n : Int) % 256 = ((n % 256 : Nat) : Int) := by omega
              obtain ⟨N, hN⟩ : ∃ N : Nat, n % 256 = N := ⟨_, rfl⟩
              rw [hN] at hmod
              have hN2 : N < 256 := by omega
              go_wp2_with fail
              refine (patch_any w.heap.size o vo L m A 1 N _ HS.out.out (by show L.length ≤ _; rw [HN.out]; omega) (by omega)).mono ?_; rintro e w5 ⟨rfl, HT⟩
              rw [putR_one L A N (by rw [HN.out]; exact hA) hN2] at HT
              rw [HN.out, putE_in n1 A N hA hN2]
              obtain ⟨vo5, o5, t5, s5, b5⟩ := cap_put (vo' := .bool true) HS.out HT.out
              obtain ⟨g, off, c, e, hc1, hc2, -, -⟩ := t5.addr (by rw [HN.out]; omega)
              injection e with e1 e2 e3
              subst e1 e3
              obtain ⟨k1, k2, -⟩ := t5.set A N (by rw [HN.out]; exact hA)
              have HS6 : Hid _ := cap_set o5 t5 s5 b5 (by rw [HN.out]; exact hLm) (by rw [HN.out]; exact hA)
              have hA' : (A : Int) < n1 := by omega
              have HL6 : Hid ((L.set A (N : Int)).length = n1) := by show _ = _; rw [List.length_set]; exact HN.out
              clear o5 t5 s5 b5 HT HS e2 hc1 hc2
              go_wp2_with (go_at_call 8; refine (num_any _ _).mono ?_; rintro e w' ⟨rfl, rfl⟩)
              --9
              obtain ⟨w6, hw6⟩ : ∃ w6, w6 = w5.setCell ⟨g, off + A, none⟩ (.int .u8 N) := ⟨_, rfl⟩
              rw [← hw6] at HS6 ⊢
              clear hw6 k1 k2
              have hcv := conv_later HS6.out.want
              have HO6 : Hid _ := HS6.out.out
              have hB0 := Below.refl w6.heap.size w6
              obtain ⟨X, hX2⟩ : ∃ X, 256 + N = X := ⟨_, rfl⟩
              have hX : Hid (IntKind.u64.wrap (256 + (n : Int).tmod 256) = (X : Int)) := by
                show _ = _
                rw [Int.tmod_eq_emod_of_nonneg (by omega), hmod, IntKind.wrap_u64]
                omega
              have hX3 : Hid (256 ≤ X ∧ X < 512) := by show _ ∧ _; omega
              clear hX2
              go_region_held_law (fun w' => Below w6.heap.size w6 w') (first | assumption | exact hB0.drew)
                (first
                  | (go_at_call 8; refine (num_any _ _).mono ?_; rintro e w' ⟨rfl, rfl⟩)
                  | (go_at_call_of 12 (Value.int .i64 (A : Int)); rw [hX.out]; refine (patch_same w.heap.size o vo5 _ m A 1 X 10 _ (HO6.out.later (by assumption)) (by rw [HL6.out]; omega) (by rw [HL6.out]; exact putE_big n1 A X hA hX3.out.1) (by omega)).mono ?_; rintro e w' ⟨rfl, rfl⟩)
                  | (go_at_call_of 12 (Value.int .i64 (n1 : Int)); refine (patch_same w.heap.size o vo5 _ m n1 1 0 3 _ (HO6.out.later (by assumption)) (by rw [HL6.out]; omega) (by rw [HL6.out]; exact putE_end n1 0) (by omega)).mono ?_; rintro e w' ⟨rfl, rfl⟩)
                  | (go_at_call 11; refine (bytes_any w.heap.size o vo5 _ m _ n1 HL6.out (by omega) (HO6.out.later (by assumption))).mono ?_; rintro e w7 ⟨g7, rfl, hg7, HK7, hB7⟩; have hB67 := below_to (by assumption : Below w6.heap.size w6 _) hB7; have hcv7 := conv_blk HK7.out HL6.out _ (Below.refl _ _)))
              all_goals
                go_wp2
                go_ret
                exact ⟨rfl, HS6.out.bel.trans (Below.mono (by assumption) HS6.out.bel.size)⟩
end Go.Proofs.Ytmeplmhngmlnaaa
