/- TokensAgain. -/
import Derived.Test.YtoodafhljgdghaaU
import Derived.Deep.RegionLaw
namespace Go.Proofs.Ytoodafhljgdghaa
open Go.RowKit
set_option linter.unusedVariables false

set_option maxRecDepth 100000 in
set_option maxHeartbeats 8000000 in
theorem again_any (s : ByteArray) (aH : Option Addr) (n c : Nat) (l : List Int) (w : World) (hl : l.length = n) (hn : n ≤ 9223372036854775807) (hr : Hid (Row .i64 w aH l)) (hv : ∀ x ∈ l, -9223372036854775808 ≤ x ∧ x ≤ 9223372036854775807) : Calls Try.prog 6 #[.string s, .slice aH n c] w fun e w' => e = .returned (.bool true) ∧ Below w.heap.size w w' := by
  have hfew := cut_few s
  obtain ⟨⟨ts, E, A⟩, hR⟩ : ∃ R, cutT s = R := ⟨_, rfl⟩
  rw [hR] at hfew
  have hfew : ts.length ≤ 65536 := hfew
  have HR := hide_ hR
  have hc2 : E = 0 → s.size ≤ 65536 ∧ PlOk ts s.data.toList 0 := by
    unfold cutT at hR
    by_cases hs : 65536 < s.size
    · rw [if_pos hs] at hR
      obtain ⟨rfl, rfl, rfl⟩ : [] = ts ∧ 4 = E ∧ 0 = A := by simpa using hR
      intro h; cases h
    · rw [if_neg hs] at hR
      have hp := places s.data.toList 0
      rw [hR] at hp
      exact fun h => ⟨by omega, hp h⟩
  clear hR
  go_enter Try.func6, Try.ntmps6
  go_wp2_with fail
  refine (first_any w).mono ?_; rintro e w1 ⟨rfl, hB1⟩
  have HB1 := hide_ hB1
  clear hB1
  go_wp2_with fail
  refine (cut_is HR.out w1).mono ?_; rintro e w2 ⟨a, cap, rfl, hcap, HT2, HO2, HB2⟩
  have HB2 := hide_ (HB1.out.trans (HB2.out.mono HB1.out.size))
  have HB3 := hide_ (HB2.out.alloc HB2.out.size (.cells #[.int .i64 E, .int .i64 A] 26))
  have HT3 := hide_ (HT2.out.later ((Below.refl _ w2).alloc (Nat.le_refl _) (.cells #[.int .i64 E, .int .i64 A] 26)))
  have HLo : Hid (∀ x, a = some x → x.block < w2.heap.size) := fun x hx => by
    rcases HT2.out with ⟨h0, _⟩ | ⟨b, o, h0, hb, _⟩
    · rw [h0] at hx; cases hx
    · rw [h0] at hx; cases hx; exact hb
  have hwn := Nat.le_succ w2.heap.size
  clear HB1 HT2 HO2 HR
  by_cases hE : E = 0
  · obtain ⟨hs, hP⟩ := hc2 hE
    subst hE
    have HP := hide_ hP
    have HA0 : Hid (Ag w2.heap.size (w2.alloc (.cells #[.int .i64 0, .int .i64 A] 26)) (.slice none 0 0) (.slice none 0 0) [] [] a ts) := ⟨BR.nil _ _, World.ownsRow_nil _ _ _ _, HT3.out, HLo.out, by simp⟩
    clear hc2 hP HT3 HLo
    go_wp2_with fail
    go_loopw [7, 8, 9] (fun x7 x8 x9 wr => ∃ (vb vw : Value) (i q : Nat) (b : List UInt8) (ws : List Tk), vb = x7 ∧ vw = x8 ∧ x9 = .int .i64 i ∧ i ≤ ts.length ∧ q ≤ s.size ∧ b.length ≤ 32 * i + q ∧ ws.length = i ∧ Hid (PlOk (ts.drop i) (s.data.toList.drop q) q) ∧ Hid (Bd b ws) ∧ Hid (Ag w2.heap.size wr vb vw b ws a ts) ∧ Hid (Below w.heap.size w wr)) (fun _ _ i _ => ts.length - (intOf i).toNat)
    case atStart => exact ⟨_, _, 0, 0, [], [], rfl, rfl, rfl, Nat.zero_le _, Nat.zero_le _, Nat.zero_le _, rfl, by rw [List.drop_zero, List.drop_zero]; exact HP, Bd.nil, HA0, HB3⟩
    case round =>
      clear HP HA0 HB3
      obtain ⟨vb, vw, i, q, b, ws, rfl, rfl, rfl, hi, hq, hbl, hwl, HP, HD, HA, HB⟩ := hrel
      generalize wr = wq at *
      by_cases hlt : i < ts.length
      · have hlt' : (i : Int) < ts.length := by omega
        have hP := HP.out
        rw [getD_drop hlt] at hP
        obtain ⟨K, X, N, g, m, e1, hm, hle, -, -, e4, e5, e6, e7⟩ := pl_step hs hq hP
        have HP2 := hide_ e7
        have HTw := hide_ e4
        have HW : Hid (∀ p, tkW (s.extract (q + g) (q + g + m)).data.toList p = ⟨K, X, N, p, p + m⟩) := fun p => by
          have h1 := tkW_is e4 p
          have h2 := tkW_is e4 (q + g)
          rw [e6, e1] at h2
          obtain ⟨k1, k2, k3, k4, k5⟩ := h1
          obtain ⟨j1, j2, j3, j4, j5⟩ := h2
          have hsz : (s.extract (q + g) (q + g + m)).data.toList.length = m := by rw [← Lib.size_eq]; exact e5
          rw [hsz] at k5
          generalize tkW (s.extract (q + g) (q + g + m)).data.toList p = T at *
          obtain ⟨T1, T2, T3, T4, T5⟩ := T
          simp only at k1 k2 k3 k4 k5 j1 j2 j3
          subst k4 k5
          rw [k1, k2, k3, ← j1, ← j2, ← j3]
        have hgD := e1
        clear hP e4 e6 e7 HP
        have HGD := hide_ hgD
        clear hgD e1
        have i3 : ((q + g + m : Nat) : Int) ≤ s.size := by omega
        obtain ⟨P, hPe⟩ : ∃ P : Nat, q + g = P := ⟨_, rfl⟩
        rw [hPe] at i3 HTw HP2 HW hle HGD e5
        obtain ⟨Q, hQe⟩ : ∃ Q : Nat, P + m = Q := ⟨_, rfl⟩
        rw [hQe] at i3 HTw HP2 HW hle HGD e5
        have i1 : (P : Int) ≤ Q := by omega
        have HRw := hide_ (hr.out.later (HB.out))
        have stop : True := trivial
        by_cases hn0 : n = 0
        · have hn1' : ¬ (0 : Int) < n := by omega
          clear HRw hn0
          go_wp2_with fail
          refine (fill_any _ _).mono ?_; rintro e w' ⟨F1, rfl, HF1, rfl⟩
          have hf1 := HF1.out.2
          obtain ⟨a1, c1, wB, r1, A1, B1, z1, k1⟩ := HA.out.app F1 (by omega) (by omega)
          have hl1 : (b ++ F1.data.toList).length = b.length + F1.size := by rw [List.length_append, ← Lib.size_eq]
          obtain ⟨n1, hn1⟩ : ∃ n1, (b ++ F1.data.toList).length = n1 := ⟨_, rfl⟩
          rw [hn1] at r1 A1 hl1
          have HN1 := hide_ hn1
          have R1 := hide_ r1
          have HA1 := hide_ A1
          have HBB := hide_ (HB.out.trans (B1.mono HB2.out.size))
          clear r1 A1 B1 k1 HA hn1 z1 HB
          obtain ⟨b0, o0, ha0, hb0, hc0⟩ := HA1.out.tr.open (by omega)
          subst ha0
          obtain ⟨x0, x1, x2, x3, x4⟩ := hc0 i hlt
          rw [HGD.out] at x0 x1 x2 x3 x4
          simp only at x0 x1 x2 x3 x4
          clear hc0
          have hl2 : (n1 : Int) ≤ 3000000 := by omega
          have HL1 := hide_ hl1
          clear hl1
          obtain ⟨wA, hwA⟩ : ∃ wA, wA = wB.alloc (.cells #[.int .i64 K, .string X, .int .i64 N, .int .i64 n1, .int .i64 Q] 34) := ⟨_, rfl⟩
          have KA : Blk wA wB.heap.size 34 [.int .i64 K, .string X, .int .i64 N, .int .i64 n1, .int .i64 Q] := by rw [hwA]; exact Blk.newA wB _ 34
          have HAA : Hid (Ag w2.heap.size wA (.slice a1 n1 c1) vw (b ++ F1.data.toList) ws (some ⟨b0, o0, none⟩) ts) := by rw [hwA]; exact HA1.out.alloc _
          have HBA : Hid (Below w.heap.size w wA) := by rw [hwA]; exact HBB.out.alloc HBB.out.size _
          have y3 : wA.cell? ⟨b0, o0 + i * 5 + 3, none⟩ = some (.int .i64 P) := by rw [hwA]; exact (((Below.refl wB.heap.size wB).alloc (Nat.le_refl _) _).cell (p := ⟨b0, _, none⟩) hb0).trans x3
          have y4 : wA.cell? ⟨b0, o0 + i * 5 + 4, none⟩ = some (.int .i64 Q) := by rw [hwA]; exact (((Below.refl wB.heap.size wB).alloc (Nat.le_refl _) _).cell (p := ⟨b0, _, none⟩) hb0).trans x4
          have HVlt := hide_ HA1.out.vlt
          have hBB1 := HA1.out.hB
          clear HA1 HBB
          go_upto_region 17 with (at_builtin; have _t := R1; refine wpList_append_run rfl (.tmp 40) (.tmp 42) 40 9 rfl rfl rfl R1.out ?_; clear R1)
          rw [← hwA]
          clear hwA x0 x1 x2 x3 x4
          obtain ⟨a2, c2, wC, r2, A2, B2, z2, k2⟩ := HAA.out.drew.app (s.extract P Q) (by rw [HN1.out]; omega) (by omega)
          have hl3 : ((b ++ F1.data.toList) ++ (s.extract P Q).data.toList).length = n1 + m := by rw [List.length_append, HN1.out, ← Lib.size_eq, e5]
          obtain ⟨n2, hn2⟩ : ∃ n2, ((b ++ F1.data.toList) ++ (s.extract P Q).data.toList).length = n2 := ⟨_, rfl⟩
          rw [hn2] at r2 A2 hl3
          have HN2 := hide_ hn2
          have R2 := hide_ r2
          have HA2 := hide_ A2
          have KC := k2 wB.heap.size 34 _ (by decide) KA.drew
          have HBC := hide_ (HBA.out.drew.trans (B2.mono HB2.out.size))
          have hl4 : (n2 : Int) ≤ 4000000 := by omega
          have HL3 := hide_ hl3
          clear hl3
          clear r2 A2 B2 k2 HAA hn2 z2 HBA KA
          go_region_law (refine step_append_run rfl (.tmp 51) (.tmp 63) 40 9 rfl rfl rfl R2.out ?_)
          all_goals
            clear R2 y3 y4
            have u4 := KC.cell 4
            have f4 := KC.frozen 4
            simp at u4
            go_wp2_with fail
            refine (fill_any _ _).mono ?_; rintro e w' ⟨F2, rfl, HF2, rfl⟩
            have hf2 := HF2.out.2
            have KD := KC.set 4 (.int .i64 n2)
            have HA3 := hide_ (HA2.out.setb KC hBB1 HVlt.out 4 (.int .i64 n2))
            have HBD := hide_ (HBC.out.setCell (p := ⟨wB.heap.size, 4, none⟩) (Nat.le_trans HB2.out.size hBB1) (.int .i64 n2))
            obtain ⟨wD, hwD⟩ : ∃ wD, wD = wC.setCell ⟨wB.heap.size, 4, none⟩ (.int .i64 n2) := ⟨_, rfl⟩
            rw [← hwD] at KD HA3 HBD ⊢
            clear hwD KC HA2 HBC u4 f4
            obtain ⟨a4, c4, wE, r4, A4, B4, z4, k4⟩ := HA3.out.app F2 (by rw [HN2.out]; omega) (by omega)
            obtain ⟨n4, hn4⟩ : ∃ n4, (b ++ F1.data.toList ++ (s.extract P Q).data.toList ++ F2.data.toList).length = n4 := ⟨_, rfl⟩
            rw [hn4] at r4 A4
            have KE := k4 wB.heap.size 34 _ (by decide) KD
            obtain ⟨v5, w5, r5, A5, B5⟩ := A4.push ⟨K, X, N, n1, n2⟩ (by omega)
            have R4 := hide_ r4
            have R5 := hide_ r5
            have HA5 := hide_ A5
            have HB5 := hide_ ((HBD.out.trans (B4.mono HB2.out.size)).trans (B5.mono HB2.out.size))
            have t0 : wE.cell? ⟨wB.heap.size, 0, none⟩ = some (.int .i64 K) := KE.cell 0
            have t1 : wE.cell? ⟨wB.heap.size, 1, none⟩ = some (.string X) := KE.cell 1
            have t2 : wE.cell? ⟨wB.heap.size, 2, none⟩ = some (.int .i64 N) := KE.cell 2
            have t3 : wE.cell? ⟨wB.heap.size, 3, none⟩ = some (.int .i64 n1) := KE.cell 3
            have t4 : wE.cell? ⟨wB.heap.size, 4, none⟩ = some (.int .i64 n2) := KE.cell 4
            have HD5 : Hid (Bd (b ++ F1.data.toList ++ (s.extract P Q).data.toList ++ F2.data.toList) (ws ++ [⟨K, X, N, n1, n2⟩])) := by
              have h := HD.out.step HF1.out.1 HTw.out HF2.out.1
              rw [HW.out, HN1.out, ← HL3.out] at h
              exact h
            have hl5 : (b ++ F1.data.toList ++ (s.extract P Q).data.toList ++ F2.data.toList).length ≤ 32 * (i + 1) + Q := by
              have h1 := HL1.out
              have h3 := HL3.out
              rw [List.length_append, HN2.out, ← Lib.size_eq]
              omega
            clear HA3 HBD KD r4 A4 B4 z4 k4 KE r5 A5 B5 hn4
            go_wp2_with (first | (at_builtin; have _t := R4; refine wpList_append_run rfl (.tmp 68) (.tmp 71) 40 9 rfl rfl rfl R4.out ?_; clear R4) | (at_builtin; have _t := R5; refine wpList_append_run rfl (.tmp 73) (.tmp 75) 23 23 rfl rfl rfl R5.out ?_; clear R5))
            go_roundw
            case rel => exact ⟨_, v5, i + 1, Q, _, _, rfl, rfl, by go_num, by omega, by omega, hl5, by simp; omega, HP2, HD5, HA5, HB5⟩
            case measure => simp [intOf]; omega
        · have hn1' : (0 : Int) < n := by omega
          have hmod : Int.tmod (i : Int) (n : Int) = ((i % n : Nat) : Int) := by rw [Int.tmod_eq_emod_of_nonneg (by omega)]; rfl
          have hmlt : ((i % n : Nat) : Int) < n := by have := Nat.mod_lt i (show 0 < n by omega); omega
          obtain ⟨mm, hmm⟩ : ∃ mm, i % n = mm := ⟨_, rfl⟩
          rw [hmm] at hmod hmlt
          obtain ⟨bH, oH, hHe, hbH, hcH⟩ := hr.out.open (by omega)
          have dH := (HB.out.cell (p := ⟨bH, oH + mm, none⟩) hbH).trans (hcH mm (by omega))
          subst hHe
          clear HRw hcH hmm
          generalize l.getD mm 0 = kv at *
          go_wp2_with fail
          refine (fill_any _ _).mono ?_; rintro e w' ⟨F1, rfl, HF1, rfl⟩
          have hf1 := HF1.out.2
          obtain ⟨a1, c1, wB, r1, A1, B1, z1, k1⟩ := HA.out.app F1 (by omega) (by omega)
          have hl1 : (b ++ F1.data.toList).length = b.length + F1.size := by rw [List.length_append, ← Lib.size_eq]
          obtain ⟨n1, hn1⟩ : ∃ n1, (b ++ F1.data.toList).length = n1 := ⟨_, rfl⟩
          rw [hn1] at r1 A1 hl1
          have HN1 := hide_ hn1
          have R1 := hide_ r1
          have HA1 := hide_ A1
          have HBB := hide_ (HB.out.trans (B1.mono HB2.out.size))
          clear r1 A1 B1 k1 HA hn1 z1 HB
          obtain ⟨b0, o0, ha0, hb0, hc0⟩ := HA1.out.tr.open (by omega)
          subst ha0
          obtain ⟨x0, x1, x2, x3, x4⟩ := hc0 i hlt
          rw [HGD.out] at x0 x1 x2 x3 x4
          simp only at x0 x1 x2 x3 x4
          clear hc0
          have hl2 : (n1 : Int) ≤ 3000000 := by omega
          have HL1 := hide_ hl1
          clear hl1
          obtain ⟨wA, hwA⟩ : ∃ wA, wA = wB.alloc (.cells #[.int .i64 K, .string X, .int .i64 N, .int .i64 n1, .int .i64 Q] 34) := ⟨_, rfl⟩
          have KA : Blk wA wB.heap.size 34 [.int .i64 K, .string X, .int .i64 N, .int .i64 n1, .int .i64 Q] := by rw [hwA]; exact Blk.newA wB _ 34
          have HAA : Hid (Ag w2.heap.size wA (.slice a1 n1 c1) vw (b ++ F1.data.toList) ws (some ⟨b0, o0, none⟩) ts) := by rw [hwA]; exact HA1.out.alloc _
          have HBA : Hid (Below w.heap.size w wA) := by rw [hwA]; exact HBB.out.alloc HBB.out.size _
          have y3 : wA.cell? ⟨b0, o0 + i * 5 + 3, none⟩ = some (.int .i64 P) := by rw [hwA]; exact (((Below.refl wB.heap.size wB).alloc (Nat.le_refl _) _).cell (p := ⟨b0, _, none⟩) hb0).trans x3
          have y4 : wA.cell? ⟨b0, o0 + i * 5 + 4, none⟩ = some (.int .i64 Q) := by rw [hwA]; exact (((Below.refl wB.heap.size wB).alloc (Nat.le_refl _) _).cell (p := ⟨b0, _, none⟩) hb0).trans x4
          have HVlt := hide_ HA1.out.vlt
          have hBB1 := HA1.out.hB
          clear HA1 HBB
          go_upto_region 17 with (at_builtin; have _t := R1; refine wpList_append_run rfl (.tmp 40) (.tmp 42) 40 9 rfl rfl rfl R1.out ?_; clear R1)
          rw [← hwA]
          clear hwA x0 x1 x2 x3 x4
          obtain ⟨a2, c2, wC, r2, A2, B2, z2, k2⟩ := HAA.out.drew.app (s.extract P Q) (by rw [HN1.out]; omega) (by omega)
          have hl3 : ((b ++ F1.data.toList) ++ (s.extract P Q).data.toList).length = n1 + m := by rw [List.length_append, HN1.out, ← Lib.size_eq, e5]
          obtain ⟨n2, hn2⟩ : ∃ n2, ((b ++ F1.data.toList) ++ (s.extract P Q).data.toList).length = n2 := ⟨_, rfl⟩
          rw [hn2] at r2 A2 hl3
          have HN2 := hide_ hn2
          have R2 := hide_ r2
          have HA2 := hide_ A2
          have KC := k2 wB.heap.size 34 _ (by decide) KA.drew
          have HBC := hide_ (HBA.out.drew.trans (B2.mono HB2.out.size))
          have hl4 : (n2 : Int) ≤ 4000000 := by omega
          have HL3 := hide_ hl3
          clear hl3
          clear r2 A2 B2 k2 HAA hn2 z2 HBA KA
          go_region_law (refine step_append_run rfl (.tmp 51) (.tmp 63) 40 9 rfl rfl rfl R2.out ?_)
          all_goals
            clear R2 y3 y4
            have u4 := KC.cell 4
            have f4 := KC.frozen 4
            simp at u4
            go_wp2_with fail
            refine (fill_any _ _).mono ?_; rintro e w' ⟨F2, rfl, HF2, rfl⟩
            have hf2 := HF2.out.2
            have KD := KC.set 4 (.int .i64 n2)
            have HA3 := hide_ (HA2.out.setb KC hBB1 HVlt.out 4 (.int .i64 n2))
            have HBD := hide_ (HBC.out.setCell (p := ⟨wB.heap.size, 4, none⟩) (Nat.le_trans HB2.out.size hBB1) (.int .i64 n2))
            obtain ⟨wD, hwD⟩ : ∃ wD, wD = wC.setCell ⟨wB.heap.size, 4, none⟩ (.int .i64 n2) := ⟨_, rfl⟩
            rw [← hwD] at KD HA3 HBD ⊢
            clear hwD KC HA2 HBC u4 f4
            obtain ⟨a4, c4, wE, r4, A4, B4, z4, k4⟩ := HA3.out.app F2 (by rw [HN2.out]; omega) (by omega)
            obtain ⟨n4, hn4⟩ : ∃ n4, (b ++ F1.data.toList ++ (s.extract P Q).data.toList ++ F2.data.toList).length = n4 := ⟨_, rfl⟩
            rw [hn4] at r4 A4
            have KE := k4 wB.heap.size 34 _ (by decide) KD
            obtain ⟨v5, w5, r5, A5, B5⟩ := A4.push ⟨K, X, N, n1, n2⟩ (by omega)
            have R4 := hide_ r4
            have R5 := hide_ r5
            have HA5 := hide_ A5
            have HB5 := hide_ ((HBD.out.trans (B4.mono HB2.out.size)).trans (B5.mono HB2.out.size))
            have t0 : wE.cell? ⟨wB.heap.size, 0, none⟩ = some (.int .i64 K) := KE.cell 0
            have t1 : wE.cell? ⟨wB.heap.size, 1, none⟩ = some (.string X) := KE.cell 1
            have t2 : wE.cell? ⟨wB.heap.size, 2, none⟩ = some (.int .i64 N) := KE.cell 2
            have t3 : wE.cell? ⟨wB.heap.size, 3, none⟩ = some (.int .i64 n1) := KE.cell 3
            have t4 : wE.cell? ⟨wB.heap.size, 4, none⟩ = some (.int .i64 n2) := KE.cell 4
            have HD5 : Hid (Bd (b ++ F1.data.toList ++ (s.extract P Q).data.toList ++ F2.data.toList) (ws ++ [⟨K, X, N, n1, n2⟩])) := by
              have h := HD.out.step HF1.out.1 HTw.out HF2.out.1
              rw [HW.out, HN1.out, ← HL3.out] at h
              exact h
            have hl5 : (b ++ F1.data.toList ++ (s.extract P Q).data.toList ++ F2.data.toList).length ≤ 32 * (i + 1) + Q := by
              have h1 := HL1.out
              have h3 := HL3.out
              rw [List.length_append, HN2.out, ← Lib.size_eq]
              omega
            clear HA3 HBD KD r4 A4 B4 z4 k4 KE r5 A5 B5 hn4
            go_wp2_with (first | (at_builtin; have _t := R4; refine wpList_append_run rfl (.tmp 68) (.tmp 71) 40 9 rfl rfl rfl R4.out ?_; clear R4) | (at_builtin; have _t := R5; refine wpList_append_run rfl (.tmp 73) (.tmp 75) 23 23 rfl rfl rfl R5.out ?_; clear R5))
            go_roundw
            case rel => exact ⟨_, v5, i + 1, Q, _, _, rfl, rfl, by go_num, by omega, by omega, hl5, by simp; omega, HP2, HD5, HA5, HB5⟩
            case measure => simp [intOf]; omega
      · obtain rfl : i = ts.length := by omega
        obtain ⟨aB, cB, rfl, hcv⟩ := HA.out.bb.conv
        by_cases hbig : (65536 : Int) < b.length
        · go_wp2
          go_ret
          exact ⟨rfl, HB.out⟩
        · have hwh := HD.out.whole
          have hcw : cutT ⟨b.toArray⟩ = (ws, 0, 0) := by
            have hz : (⟨b.toArray⟩ : ByteArray).size = b.length := by rw [Lib.size_eq]
            rw [cutT, if_neg (by omega)]
            exact hwh
          obtain ⟨x, hx⟩ : ∃ x : ByteArray, (⟨b.toArray⟩ : ByteArray) = x := ⟨_, rfl⟩
          rw [hx] at hcw hcv
          have hfw : ws.length ≤ 65536 := by omega
          have HC := hide_ hcw
          have HV := hide_ hcv
          clear hwh hcw hcv HD HP hx hwl
          obtain ⟨aW, cW, rfl, hcW, hTW, hWb⟩ := own_row HA.out.ww
          have HTW := hide_ hTW
          clear hTW hWb
          have hcv := HV.out
          go_wp2_with fail
          refine (cut_is HC.out wq).mono ?_; rintro e w5 ⟨a5, c5, rfl, hc5, HT5, -, HB5⟩
          have HB6 := hide_ (HB.out.trans (HB5.out.mono HB.out.size))
          have HB7 := hide_ (HB6.out.alloc HB6.out.size (.cells #[.int .i64 0, .int .i64 0] 26))
          have HS := hide_ (same_any a5 aW ws.length c5 cW ws (w5.alloc (.cells #[.int .i64 0, .int .i64 0] 26)) rfl (by omega) (HT5.out.later ((Below.refl _ w5).alloc (Nat.le_refl _) _)) (HTW.out.later ((HB5.out).trans (((Below.refl _ w5).alloc (Nat.le_refl _) (.cells #[.int .i64 0, .int .i64 0] 26)).mono HB5.out.size))))
          clear HT5 HB5 HB6 HTW HA hcv
          go_wp2_with fail
          refine HS.out.mono ?_; rintro e w8 ⟨rfl, hB8⟩
          go_wp2
          go_ret
          exact ⟨rfl, HB7.out.trans (hB8.mono HB7.out.size)⟩
  · have hE' : ((E : Int) == 0) = false := by simp; exact hE
    clear hc2
    go_wp2
    go_ret
    exact ⟨rfl, HB3.out⟩
end Go.Proofs.Ytoodafhljgdghaa
