/- SyntaxTokens: the other text is made. -/
import Derived.Test.YtokepgimjdalaaaVb
import Derived.Test.YtokepgimjdalaaaUe
namespace Go.Proofs.Ytokepgimjdalaaa
open Go.RowKit
set_option linter.unusedVariables false

def aL (ws : List Tk) : List Int := ws.map fun t => (t.a : Int)
set_option maxRecDepth 100000 in
set_option maxHeartbeats 8000000 in
theorem tokens_any (s : ByteArray) (aH : Option Addr) (n c : Nat) (l : List Int) (w : World) (hl : l.length = n) (hn : n ≤ 9223372036854775807) (hr : Hid (Row .i64 w aH l)) : Calls Try.prog 7 #[.string s, .slice aH n c] w fun e w' => e = .returned (.bool true) ∧ Below w.heap.size w w' := by
  have hfew := cut_few s
  obtain ⟨⟨ts, E, A⟩, hR⟩ : ∃ R, cutT s = R := ⟨_, rfl⟩
  rw [hR] at hfew
  have hfew : ts.length ≤ 65536 := hfew
  have HR := hide_ hR
  have hc2 : E = 0 → s.size ≤ 65536 ∧ PlOk ts s.data.toList 0 := by
    unfold cutT at hR
    by_cases hs : 65536 < s.size
    · rw [if_pos hs] at hR
      obtain ⟨rfl, rfl, rfl⟩ : [] = ts ∧ 4 = E ∧ 0 = A := by simpa using hR
      intro h; cases h
    · rw [if_neg hs] at hR
      have hp := places s.data.toList 0
      rw [hR] at hp
      exact fun h => ⟨by omega, hp h⟩
  have HBad : Hid (E ≠ 0 → prsT s = ([], E, A)) := fun h => by
    have h2 := prs_bad (s := s) (by rw [hR]; exact h)
    rw [hR] at h2
    exact h2
  clear hR
  go_enter Try.func7, Try.ntmps7
  go_wp2_with fail
  refine (first_any w).mono ?_; rintro e w1 ⟨rfl, hB1⟩
  have HB1 := hide_ hB1
  clear hB1
  go_wp2_with fail
  refine (cut_is HR.out w1).mono ?_; rintro e w2 ⟨a, cap, rfl, hcap, HT2, HO2, HB2⟩
  have HB2 := hide_ (HB1.out.trans (HB2.out.mono HB1.out.size))
  have HB3 := hide_ (HB2.out.alloc HB2.out.size (.cells #[.int .i64 E, .int .i64 A] 28))
  have HT3 := hide_ (HT2.out.later ((Below.refl _ w2).alloc (Nat.le_refl _) (.cells #[.int .i64 E, .int .i64 A] 28)))
  have HK3 := hide_ (Blk.newA w2 #[.int .i64 E, .int .i64 A] 28)
  have HLo : Hid (∀ x, a = some x → x.block < w2.heap.size) := fun x hx => by
    rcases HT2.out with ⟨h0, _⟩ | ⟨b, o, h0, hb, _⟩
    · rw [h0] at hx; cases hx
    · rw [h0] at hx; cases hx; exact hb
  have hwn := Nat.le_succ w2.heap.size
  clear HB1 HT2 HO2
  by_cases hE : E = 0
  · obtain ⟨hs, hP⟩ := hc2 hE
    subst hE
    have HP := hide_ hP
    have HA0 : Hid (Ag w2.heap.size (w2.alloc (.cells #[.int .i64 0, .int .i64 A] 28)) (.slice none 0 0) (.slice none 0 0) [] (aL []) a ts) := ⟨BR.nil _ _, World.ownsRow_nil _ _ _ _, HT3.out, HLo.out, by simp⟩
    clear hc2 hP HT3 HLo HBad HK3
    go_wp2_with fail
    go_loopw [9, 10, 11] (fun x9 x10 x11 wr => ∃ (vb vw : Value) (i q : Nat) (b : List UInt8) (ws : List Tk), vb = x9 ∧ vw = x10 ∧ x11 = .int .i64 (i : Int) ∧ i ≤ ts.length ∧ q ≤ s.size ∧ b.length ≤ 16 * i + q ∧ ws.length = i ∧ Hid (PlOk (ts.drop i) (s.data.toList.drop q) q) ∧ Hid (Bk b ws ∧ ws.map core = (ts.take i).map core) ∧ Hid (Ag w2.heap.size wr vb vw b (aL ws) a ts) ∧ Hid (Below w.heap.size w wr)) (fun _ _ x11 _ => ts.length - (intOf x11).toNat)
    case atStart => exact ⟨_, _, 0, 0, [], [], rfl, rfl, rfl, Nat.zero_le _, Nat.zero_le _, Nat.zero_le _, rfl, by rw [List.drop_zero, List.drop_zero]; exact HP, ⟨Bk.nil, rfl⟩, HA0, HB3⟩
    case round =>
      clear HP HA0 HB3
      obtain ⟨vb, vw, i, q, b, ws, rfl, rfl, rfl, hi, hq, hbl, hwl, HP, HD, HA, HB⟩ := hrel
      generalize wr = wq at *
      by_cases hlt : i < ts.length
      · have hlt' : (i : Int) < ts.length := by omega
        have hP := HP.out
        rw [getD_drop hlt] at hP
        obtain ⟨K, X, N, g, m, e1, hm, hle, -, -, e4, e5, e6, e7⟩ := pl_step hs hq hP
        have HP2 := hide_ e7
        have HTw := hide_ e4
        have HTk : Hid (∀ p, core (tkW (s.extract (q + g) (q + g + m)).data.toList p) = core (ts.getD i tk0)) := fun p => by
          have h1 := tkW_is e4 p
          have h2 := tkW_is e4 (q + g)
          rw [e6] at h2
          unfold core
          rw [h1.1, h1.2.1, h1.2.2.1, ← h2.1, ← h2.2.1, ← h2.2.2.1]
        have HTa : Hid (∀ p, (tkW (s.extract (q + g) (q + g + m)).data.toList p).a = p) := fun p => (tkW_is e4 p).2.2.2.1
        have HGD := hide_ e1
        clear hP e4 e6 e7 HP e1
        have i3 : ((q + g + m : Nat) : Int) ≤ s.size := by omega
        obtain ⟨P, hPe⟩ : ∃ P : Nat, q + g = P := ⟨_, rfl⟩
        rw [hPe] at i3 HTw HP2 HTk HTa hle HGD e5
        obtain ⟨Q, hQe⟩ : ∃ Q : Nat, P + m = Q := ⟨_, rfl⟩
        rw [hQe] at i3 HTw HP2 HTk HTa hle HGD e5
        have i1 : (P : Int) ≤ Q := by omega
        go_upto_if 44 with fail
        go_cut [12] from 42 to 51 (fun x12 wc => ∃ kv : Int, x12 = .int .i64 kv ∧ wq = wc)
        case first =>
          by_cases hn0 : n = 0
          · have hn1' : ¬ (0 : Int) < n := by omega
            clear hn0
            go_wp2
            go_meet
            case rel => exact ⟨0, rfl, rfl⟩
          · have hn1' : (0 : Int) < n := by omega
            have hmod : Int.tmod (i : Int) (n : Int) = ((i % n : Nat) : Int) := by rw [Int.tmod_eq_emod_of_nonneg (by omega)]; rfl
            have hmlt : ((i % n : Nat) : Int) < n := by have := Nat.mod_lt i (show 0 < n by omega); omega
            obtain ⟨mm, hmm⟩ : ∃ mm, i % n = mm := ⟨_, rfl⟩
            rw [hmm] at hmod hmlt
            obtain ⟨bH, oH, hHe, hbH, hcH⟩ := hr.out.open (by omega)
            have dH := (HB.out.cell (p := ⟨bH, oH + mm, none⟩) hbH).trans (hcH mm (by omega))
            subst hHe
            clear hcH hmm
            generalize l.getD mm 0 = kv at *
            go_wp2
            go_meet
            case rel => exact ⟨kv, rfl, rfl⟩
        case rest =>
          obtain ⟨kv, rfl, rfl⟩ := hcut
          go_wp2_with fail
          refine (fill_any _ _).mono ?_; rintro e w' ⟨F1, rfl, HF1, rfl⟩
          have hf1 := HF1.out.2
          obtain ⟨a1, c1, wB, r1, A1, B1⟩ := HA.out.app F1 (by omega) (by omega)
          have hl1 : (b ++ F1.data.toList).length = b.length + F1.size := by rw [List.length_append, ← Lib.size_eq]
          obtain ⟨n1, hn1⟩ : ∃ n1, (b ++ F1.data.toList).length = n1 := ⟨_, rfl⟩
          rw [hn1] at r1 A1 hl1
          have haw : (aL ws).length = i := by simp [aL, hwl]
          obtain ⟨g2, c2, wC, r2, A2, B2⟩ := A1.push (n1 : Int) (by omega)
          rw [haw] at r2 A2
          obtain ⟨a3, c3, wD, r3, A3, B3⟩ := A2.drew.app (s.extract P Q) (by rw [hn1]; omega) (by omega)
          have hl3 : ((b ++ F1.data.toList) ++ (s.extract P Q).data.toList).length = n1 + m := by rw [List.length_append, hn1, ← Lib.size_eq, e5]
          obtain ⟨n3, hn3⟩ : ∃ n3, ((b ++ F1.data.toList) ++ (s.extract P Q).data.toList).length = n3 := ⟨_, rfl⟩
          rw [hn3] at r3 A3 hl3
          have HL1 := hide_ hl1
          have HL3 := hide_ hl3
          have HN1 := hide_ hn1
          have HN3 := hide_ hn3
          have R1 := hide_ r1
          have R2 := hide_ r2
          have R3 := hide_ r3
          have HA3 : Hid (Ag w2.heap.size wD (.slice a3 n3 c3) (.slice (some ⟨g2, 0, none⟩) (i + 1) c2) (b ++ F1.data.toList ++ (s.extract P Q).data.toList) (aL (ws ++ [tkW (s.extract P Q).data.toList n1])) a ts) := by
            have h : aL (ws ++ [tkW (s.extract P Q).data.toList n1]) = aL ws ++ [(n1 : Int)] := by unfold aL; rw [List.map_append, List.map_cons, List.map_nil, HTa.out]
            rw [h]
            exact hide_ A3
          have HBD := hide_ ((((HB.out.trans (B1.mono HB2.out.size)).trans (B2.mono HB2.out.size)).drew).trans (B3.mono HB2.out.size))
          obtain ⟨b0, o0, ha0, hb0, hc0⟩ := A2.tr.open (by omega)
          subst ha0
          obtain ⟨x0, x1, x2, x3, x4⟩ := hc0 i hlt
          rw [HGD.out] at x3 x4
          simp only at x3 x4
          have hl2 : (n1 : Int) ≤ 3000000 := by omega
          have hl4 : (n3 : Int) ≤ 4000000 := by omega
          have HD5 : Hid (Bk (b ++ F1.data.toList ++ (s.extract P Q).data.toList) (ws ++ [tkW (s.extract P Q).data.toList n1]) ∧ (ws ++ [tkW (s.extract P Q).data.toList n1]).map core = (ts.take (i + 1)).map core) := by
            refine ⟨?_, ?_⟩
            · have h := HD.out.1.step HF1.out.1 HTw.out
              rw [HN1.out] at h
              exact h
            · rw [List.map_append, HD.out.2, List.take_add_one, List.getElem?_eq_getElem hlt, List.map_append]
              simp only [List.map_cons, List.map_nil, Option.toList]
              rw [HTk.out]
              simp [List.getD, hlt]
          have hl5 : (b ++ F1.data.toList ++ (s.extract P Q).data.toList).length ≤ 16 * (i + 1) + Q := by rw [hn3]; omega
          have hwl5 : (ws ++ [tkW (s.extract P Q).data.toList n1]).length = i + 1 := by simp [hwl]
          clear r1 A1 B1 r2 A2 B2 r3 A3 B3 hn1 hn3 hl1 hl3 HA HB hc0 x0 x1 x2 hf1 HF1 HTw HTk HTa HD
          go_upto_region 17 with (first | (at_builtin; have _t := R1; refine wpList_append_run rfl (.tmp 52) (.tmp 54) 54 9 rfl rfl rfl R1.out ?_; clear R1) | (at_builtin; have _t := R2; refine wpList_append_run rfl (.tmp 56) (.tmp 59) 53 53 rfl rfl rfl R2.out ?_; clear R2))
          go_region_law (refine step_append_run rfl (.tmp 61) (.tmp 73) 54 9 rfl rfl rfl R3.out ?_)
          all_goals
            go_wp2
            go_roundw
            case rel => exact ⟨_, _, i + 1, Q, _, _, rfl, rfl, by go_num, by omega, by omega, hl5, hwl5, HP2, HD5, HA3, HBD⟩
            case measure => simp [intOf]; omega
      · obtain rfl : i = ts.length := by omega
        rw [List.take_length] at HD
        go_wp2_with fail
        refine (fill_any _ _).mono ?_; rintro e w' ⟨F1, rfl, HF1, rfl⟩
        have hf1 := HF1.out.2
        obtain ⟨a1, c1, wB, r1, A1, B1⟩ := HA.out.app F1 (by omega) (by omega)
        have hl1 : (b ++ F1.data.toList).length = b.length + F1.size := by rw [List.length_append, ← Lib.size_eq]
        have hcut : cut (b ++ F1.data.toList) 0 = (ws, 0, 0) := HD.out.1.whole HF1.out.1
        obtain ⟨b1, hb1⟩ : ∃ b1, b ++ F1.data.toList = b1 := ⟨_, rfl⟩
        rw [hb1] at r1 A1 hl1 hcut
        have haw : (aL ws).length = ts.length := by simp [aL, hwl]
        obtain ⟨g2, c2, wC, r2, A2, B2⟩ := A1.push (b1.length : Int) (by omega)
        rw [haw] at r2 A2
        have HCt := hide_ hcut
        have R1 := hide_ r1
        have R2 := hide_ r2
        have HA2 := hide_ A2
        have HBC := hide_ ((HB.out.trans (B1.mono HB2.out.size)).trans (B2.mono HB2.out.size))
        have HCo := hide_ HD.out.2
        have hb1l : (b1.length : Int) ≤ 4000000 := by omega
        have HL1 := hide_ hl1
        clear hl1
        clear r1 A1 B1 r2 A2 B2 hb1 hcut HA HB HD HF1 hf1 HP
        go_upto_region 20 with (first | (at_builtin; have _t := R1; refine wpList_append_run rfl (.tmp 75) (.tmp 78) 54 9 rfl rfl rfl R1.out ?_; clear R1) | (at_builtin; have _t := R2; refine wpList_append_run rfl (.tmp 80) (.tmp 83) 53 53 rfl rfl rfl R2.out ?_; clear R2))
        by_cases hbig : (65536 : Int) < b1.length
        · go_wp2
          go_ret
          exact ⟨rfl, HBC.out⟩
        have hcw : cutT ⟨b1.toArray⟩ = (ws, 0, 0) := by
          have hz : (⟨b1.toArray⟩ : ByteArray).size = b1.length := by rw [Lib.size_eq]
          rw [cutT, if_neg (by omega)]
          exact HCt.out
        have hxs : (⟨b1.toArray⟩ : ByteArray).size = b1.length := by rw [Lib.size_eq]
        obtain ⟨a3, c3, hv3, hcv⟩ := HA2.out.bb.conv
        injection hv3 with h31 h32 h33
        subst h31 h33
        obtain ⟨x, hx⟩ : ∃ x : ByteArray, (⟨b1.toArray⟩ : ByteArray) = x := ⟨_, rfl⟩
        rw [hx] at hcw hcv hxs
        have hsame := prs_same (s := s) (x := x) (by rw [HR.out]) (by rw [hcw]) (by rw [hcw, HR.out]; exact HCo.out)
        have hfind : ∀ k, k ≤ ts.length → (∀ i, i < k → (ts.getD i tk0).a < plc ts s.size k) ∧ (k < ts.length → (ts.getD k tk0).a = plc ts s.size k) := fun k hk => by
          have h := plc_find (s := s) (by rw [HR.out]) (k := k) (by rw [HR.out]; exact hk)
          rw [HR.out] at h
          exact h
        rw [HR.out, hcw] at hsame
        obtain ⟨Ds, Es, As, hps⟩ : ∃ Ds Es As, prsT s = (Ds, Es, As) := ⟨_, _, _, rfl⟩
        obtain ⟨Dx, Ex, Ax, hpx⟩ : ∃ Dx Ex Ax, prsT x = (Dx, Ex, Ax) := ⟨_, _, _, rfl⟩
        rw [hps, hpx] at hsame
        obtain ⟨hEE, hDD, hKK⟩ := hsame
        have hEE : Es = Ex := hEE
        subst hEE
        have HPs := hide_ hps
        have HPx := hide_ hpx
        have HDD : Hid (Ds.map zDf = Dx.map zDf) := hDD
        have HKK : Hid (Es ≠ 0 → ∃ k, k ≤ ts.length ∧ As = plc ts s.size k ∧ Ax = plc ws x.size k) := hKK
        have HFi := hide_ hfind
        have HSs : Hid (Ds.length ≤ 256 → Small Ds) := fun h => by have h2 := prs_small (s := s) (by rw [hps]; exact h); rw [hps] at h2; exact h2
        have HSx : Hid (Dx.length ≤ 256 → Small Dx) := fun h => by have h2 := prs_small (s := x) (by rw [hpx]; exact h); rw [hpx] at h2; exact h2
        have HXs := hide_ hxs
        have HXe := hide_ hx
        clear hps hpx hDD hKK hfind hcw hx HCt HCo HR hxs
        go_wp2_with fail
        refine (parse_is HPs.out wC).mono ?_; rintro e w5 ⟨a5, c5, vs5, rfl, hc5, -, HD5, HB5⟩
        have k51 := Blk.newA w5 #[.slice a5 Ds.length c5] 25
        obtain ⟨q1, q2⟩ : Blk ((w5.alloc (.cells #[.slice a5 Ds.length c5] 25)).alloc (.cells #[.int .i64 (Es : Int), .int .i64 (As : Int)] 28)) w5.heap.size 25 [.slice a5 Ds.length c5] ∧ Blk ((w5.alloc (.cells #[.slice a5 Ds.length c5] 25)).alloc (.cells #[.int .i64 (Es : Int), .int .i64 (As : Int)] 28)) (w5.heap.size + 1) 28 [.int .i64 (Es : Int), .int .i64 (As : Int)] := ⟨k51.alloc _, by have h := Blk.newA (w5.alloc (.cells #[.slice a5 Ds.length c5] 25)) #[.int .i64 (Es : Int), .int .i64 (As : Int)] 28; simpa using h⟩
        have hB56 := below2 w5 (.cells #[.slice a5 Ds.length c5] 25) (.cells #[.int .i64 (Es : Int), .int .i64 (As : Int)] 28)
        obtain ⟨w6, hw6⟩ : ∃ w6, w6 = (w5.alloc (.cells #[.slice a5 Ds.length c5] 25)).alloc (.cells #[.int .i64 (Es : Int), .int .i64 (As : Int)] 28) := ⟨_, rfl⟩
        rw [← hw6] at q1 q2 hB56
        have hB6 := HB5.out.trans (hB56.mono HB5.out.size)
        have HA6 := hide_ (HA2.out.later hB6)
        have HBw := hide_ (HBC.out.trans (hB6.mono HBC.out.size))
        have HDs := hide_ (HD5.out.1.later hB56)
        have hds := HD5.out.2
        have Q1 := hide_ q1
        have Q2 := hide_ q2
        obtain ⟨a3', c3', hv3', hcv6⟩ := HA6.out.bb.conv
        injection hv3' with h31 h32 h33
        subst h31 h33
        rw [HXe.out] at hcv6
        clear q1 q2 hB56 hB6 HD5 HB5 HA2 HBC k51 hcv
        go_upto_region 23 with fail
        rw [← hw6]
        clear hw6
        go_wp2_with fail
        refine (parse_is HPx.out w6).mono ?_; rintro e w7 ⟨a7, c7, vs7, rfl, hc7, -, HD7, HB7⟩
        have k71 := Blk.newA w7 #[.slice a7 Dx.length c7] 25
        obtain ⟨q3, q4⟩ : Blk ((w7.alloc (.cells #[.slice a7 Dx.length c7] 25)).alloc (.cells #[.int .i64 (Es : Int), .int .i64 (Ax : Int)] 28)) w7.heap.size 25 [.slice a7 Dx.length c7] ∧ Blk ((w7.alloc (.cells #[.slice a7 Dx.length c7] 25)).alloc (.cells #[.int .i64 (Es : Int), .int .i64 (Ax : Int)] 28)) (w7.heap.size + 1) 28 [.int .i64 (Es : Int), .int .i64 (Ax : Int)] := ⟨k71.alloc _, by have h := Blk.newA (w7.alloc (.cells #[.slice a7 Dx.length c7] 25)) #[.int .i64 (Es : Int), .int .i64 (Ax : Int)] 28; simpa using h⟩
        have hB78 := below2 w7 (.cells #[.slice a7 Dx.length c7] 25) (.cells #[.int .i64 (Es : Int), .int .i64 (Ax : Int)] 28)
        obtain ⟨w8, hw8⟩ : ∃ w8, w8 = (w7.alloc (.cells #[.slice a7 Dx.length c7] 25)).alloc (.cells #[.int .i64 (Es : Int), .int .i64 (Ax : Int)] 28) := ⟨_, rfl⟩
        rw [← hw8] at q3 q4 hB78
        have hB8 := HB7.out.trans (hB78.mono HB7.out.size)
        have HA8 := hide_ (HA6.out.later hB8)
        have HB8 := hide_ (HBw.out.trans (hB8.mono HBw.out.size))
        have HDs8 := hide_ (HDs.out.later hB8)
        have HDx8 := hide_ (HD7.out.1.later hB78)
        have hdx := HD7.out.2
        have q1 := Q1.out.later hB8
        have q2 := Q2.out.later hB8
        have HQ2 := hide_ q2
        have HQ4 := hide_ q4
        have HSS : Hid (∀ w', Below w8.heap.size w8 w' → Below w8.heap.size w8 w' ∧ w'.cell? ⟨w5.heap.size + 1, 0, none⟩ = some (.int .i64 (Es : Int)) ∧ w'.cell? ⟨w7.heap.size + 1, 0, none⟩ = some (.int .i64 (Es : Int)) ∧ w'.cell? ⟨w5.heap.size, 0, none⟩ = some (.slice a5 Ds.length c5) ∧ w'.cell? ⟨w7.heap.size, 0, none⟩ = some (.slice a7 Dx.length c7)) := fun w' hB => ⟨hB, (q2.later hB).cell 0, (q4.later hB).cell 0, (q1.later hB).cell 0, (q3.later hB).cell 0⟩
        have HBs : Hid (∀ w', Below w8.heap.size w8 w' → Calls Try.prog 15 #[.agg #[.slice a5 Ds.length c5]] w' fun e w'' => ∃ vd vs, e = .returned (.agg #[vd]) ∧ Hid (Src w'' w'.heap.size vd (Ds.map zDf) vs) ∧ Hid (Below w'.heap.size w' w'')) := fun w' hB => bare_any a5 c5 Ds w' (HSs.out hds) hc5 (hide_ (HDs8.out.later hB))
        have HBx : Hid (∀ w', Below w8.heap.size w8 w' → Calls Try.prog 15 #[.agg #[.slice a7 Dx.length c7]] w' fun e w'' => ∃ vd vs, e = .returned (.agg #[vd]) ∧ Hid (Src w'' w'.heap.size vd (Ds.map zDf) vs) ∧ Hid (Below w'.heap.size w' w'')) := fun w' hB => by
          have h := bare_any a7 c7 Dx w' (HSx.out hdx) hc7 (hide_ (HDx8.out.later hB))
          rw [← HDD.out] at h
          exact h
        obtain ⟨Z, hZ⟩ : ∃ Z, Ds.map zDf = Z := ⟨_, rfl⟩
        rw [hZ] at HBs HBx
        clear hZ HDD
        clear q1 q2 q3 q4 hB78 hB8 HD7 HB7 HA6 HBw HDs HDs8 HDx8 Q1 Q2 k71 hcv6 HSs HSx
        go_upto_region 24 with fail
        rw [← hw8]
        clear hw8
        go_wp2_with fail
        go_region_held_law (fun w' => Below w8.heap.size w8 w' ∧ w'.cell? ⟨w5.heap.size + 1, 0, none⟩ = some (.int .i64 (Es : Int)) ∧ w'.cell? ⟨w7.heap.size + 1, 0, none⟩ = some (.int .i64 (Es : Int)) ∧ w'.cell? ⟨w5.heap.size, 0, none⟩ = some (.slice a5 Ds.length c5) ∧ w'.cell? ⟨w7.heap.size, 0, none⟩ = some (.slice a7 Dx.length c7)) (first | assumption | exact HSS.out _ ((Below.refl _ _).drew))
          (first
            | (go_at_call_of 15 (Value.agg #[Value.slice a5 Ds.length c5]); refine (HBs.out _ (by first | assumption | exact And.left (by assumption))).mono ?_; rintro e w9 ⟨vd1, vs1, rfl, HS1, HB9⟩; (have G9 := HSS.out w9 (below_to (by first | assumption | exact And.left (by assumption)) HB9.out)); (obtain ⟨r1, kc1, rfl, hkc1, hR1⟩ := HS1.out.row); (have HR1 := hide_ hR1); (have HL1s := hide_ HS1.out.lens); (clear hR1))
            | (go_at_call_of 15 (Value.agg #[Value.slice a7 Dx.length c7]); refine (HBx.out _ (by first | assumption | exact And.left (by assumption))).mono ?_; rintro e w10 ⟨vd2, vs2, rfl, HS2, HB10⟩; (have G10 := HSS.out w10 (below_to (by first | assumption | exact And.left (by assumption)) HB10.out)); (have HR1b := hide_ (HR1.out.later HB10.out)); (obtain ⟨r2, kc2, rfl, hkc2, hR2⟩ := HS2.out.row); (have HR2 := hide_ hR2); (clear hR2))
            | (go_at_call 14; refine (same_any r1 r2 kc1 kc2 Z _ HL1s HR1b HR2).mono ?_; rintro e w11 ⟨rfl, hB11⟩; (have G11 := HSS.out w11 (below_to (by first | assumption | exact And.left (by assumption)) hB11)); (clear hB11)))
        have hB11 := G11.1
        have HBf := hide_ (HB8.out.trans (hB11.mono HB8.out.size))
        have HQ2f := hide_ (HQ2.out.later hB11)
        have HQ4f := hide_ (HQ4.out.later hB11)
        have HAf := hide_ (HA8.out.later hB11)
        clear hB11 G9 G10 G11 HS1 HS2 HB9 HB10 HR1 HR1b HR2 HL1s HQ2 HQ4 HA8 HB8 HSS HBs HBx
        clear hcap hwn hbl hb1l hbig hc5 hc7 hds hdx hkc1 hkc2 hlt hi HL1 HXe HPs HPx hr hl hn hs hq haw
        have y0 := HQ2f.out.cell 0; have y1 := HQ2f.out.cell 1
        simp at y0 y1
        by_cases hEs : (Es : Int) = 0
        · have hEs' : ((Es : Int) == 0) = true := by simpa using hEs
          go_wp2
          go_ret
          exact ⟨rfl, HBf.out⟩
        have hEs' : ((Es : Int) == 0) = false := by simpa using hEs
        obtain ⟨k0, hk0, hAs, hAx⟩ := HKK.out (by omega)
        obtain ⟨hlow, htop⟩ := HFi.out k0 hk0
        have HAs := hide_ hAs
        have HAx := hide_ hAx
        have HLow := hide_ hlow
        have HTop := hide_ htop
        clear hAs hAx hlow htop HKK HFi y0 y1
        go_wp2_with fail
        go_loopw [17] (fun x17 wr => ∃ j : Nat, j ≤ k0 ∧ x17 = .int .i64 (j : Int) ∧ Hid (Below w11.heap.size w11 wr)) (fun x17 _ => ts.length + 1 - (intOf x17).toNat)
        case atStart => exact ⟨0, Nat.zero_le _, rfl, Below.refl _ _⟩
        case round =>
          obtain ⟨j, hj, rfl, HBj⟩ := hrel
          generalize wr = wj at *
          have y1 := (HQ2f.out.later HBj.out).cell 1
          simp at y1
          rcases Nat.lt_or_ge j k0 with hjk | hjk
          · have hjl : (j : Int) < ts.length := by omega
            obtain ⟨b0, o0, ha0, hb0, hc0⟩ := (HAf.out.tr.later HBj.out).open (by omega)
            subst ha0
            obtain ⟨x0, x1, x2, x3, x4⟩ := hc0 j (by omega)
            have hlt2 : ((ts.getD j tk0).a : Int) < As := by have := HLow.out j hjk; rw [← HAs.out] at this; omega
            generalize ts.getD j tk0 = tj at *
            clear hc0 x0 x1 x2 x4
            go_wp2_with fail
            go_quiet (fail)
            go_wp2
            go_roundw
            case rel => exact ⟨j + 1, by omega, by go_num, hide_ (below_drewN HBj.out _)⟩
            case measure => simp [intOf]; omega
          · obtain rfl : j = k0 := by omega
            have z1 := (HQ4f.out.later HBj.out).cell 1
            simp at z1
            obtain ⟨gi, ci, yi, hvi, hbi, hni, hmi, hli, hti, hKi⟩ := ownS_blk (HAf.out.ww) (by simp)
            injection hvi with e1 e2 e3
            injection e1 with e1
            injection e1 with e1
            subst e1 e3
            have hcell : wj.cell? ⟨g2, j, none⟩ = some (.int .i64 (Ax : Int)) := by
              have h1 : yi[j]? = (cellsL .i64 (aL ws ++ [(b1.length : Int)]))[j]? := by rw [← hti, List.getElem?_take, if_pos (by simp [aL, hwl]; omega)]
              rw [(hKi.later HBj.out).cell, h1, HAx.out]
              unfold plc tkAt
              by_cases hjl : j < ws.length
              · rw [if_pos hjl]
                simp [cellsL, aL, List.getElem?_append_left, hjl, List.getD]
              · rw [if_neg hjl, HXs.out]
                have : j = ws.length := by omega
                subst this
                simp [cellsL, aL]
            have hj2 : 0 ≤ (j : Int) ∧ (j : Int) < ((ts.length + 1 : Nat) : Int) := by omega
            have hj3 : (j : Int) < (ts.length : Int) + 1 := by omega
            have haL : (aL ws).length = ws.length := by simp [aL]
            have hj4 : (j : Int) < ((aL ws).length : Int) + 1 := by omega
            have hj5 : 0 ≤ (j : Int) ∧ (j : Int) < (((aL ws).length + 1 : Nat) : Int) := by omega
            clear haL
            clear hti hKi hli hbi
            by_cases hjl : j < ts.length
            · have hjl' : (j : Int) < ts.length := by omega
              obtain ⟨b0, o0, ha0, hb0, hc0⟩ := (HAf.out.tr.later HBj.out).open (by omega)
              subst ha0
              obtain ⟨x0, x1, x2, x3, x4⟩ := hc0 j (by omega)
              have hlt2 : ¬ ((ts.getD j tk0).a : Int) < As := by have := HTop.out hjl; rw [← HAs.out] at this; omega
              generalize ts.getD j tk0 = tj at *
              clear hc0 x0 x1 x2 x4
              go_wp2_with fail
              go_quiet (fail)
              go_wp2_with fail
              go_region
              go_wp2
              go_ret
              first
                | exact ⟨by simp, HBf.out.trans ((below_drewN HBj.out _).drew.mono HBf.out.size)⟩
                | exact ⟨by simp, HBf.out.trans ((below_drewN HBj.out _).mono HBf.out.size)⟩
            · have hjl' : ¬ (j : Int) < ts.length := by omega
              go_wp2_with fail
              go_quiet (fail)
              go_wp2_with fail
              go_region
              go_wp2
              go_ret
              first
                | exact ⟨by simp, HBf.out.trans ((below_drewN HBj.out _).drew.mono HBf.out.size)⟩
                | exact ⟨by simp, HBf.out.trans ((below_drewN HBj.out _).mono HBf.out.size)⟩
  · have hE' : ((E : Int) != 0) = true := by simpa using hE
    have HPb := hide_ (HBad.out hE)
    have c0 := HK3.out.cell 0
    simp at c0
    clear hc2 HBad
    go_wp2_with fail
    refine (parse_is HPb.out _).mono ?_; rintro e w5 ⟨a5, c5, vs5, rfl, hc5, -, HD5, HB5⟩
    have hB5 := HB5.out
    have k0 := (HK3.out.later hB5)
    have k2 : Blk ((w5.alloc (.cells #[.slice a5 0 c5] 25)).alloc (.cells #[.int .i64 (E : Int), .int .i64 (A : Int)] 28)) (w5.heap.size + 1) 28 [.int .i64 (E : Int), .int .i64 (A : Int)] := by have h := Blk.newA (w5.alloc (.cells #[.slice a5 0 c5] 25)) #[.int .i64 (E : Int), .int .i64 (A : Int)] 28; simpa using h
    have hB56 := below2 w5 (.cells #[.slice a5 0 c5] 25) (.cells #[.int .i64 (E : Int), .int .i64 (A : Int)] 28)
    have k1 := k0.later hB56
    have HBz := hide_ ((HB3.out.trans (hB5.mono HB3.out.size)).trans (hB56.mono (HB3.out.trans (hB5.mono HB3.out.size)).size))
    simp only [List.length_nil]
    obtain ⟨w6, hw6⟩ : ∃ w6, w6 = (w5.alloc (.cells #[.slice a5 0 c5] 25)).alloc (.cells #[.int .i64 (E : Int), .int .i64 (A : Int)] 28) := ⟨_, rfl⟩
    rw [← hw6] at k1 k2 HBz
    have d0 := k1.cell 0; have d1 := k1.cell 1; have e0 := k2.cell 0; have e1 := k2.cell 1
    simp at d0 d1 e0 e1
    clear hB5 hB56 k0 k1 k2 HD5 HB5 c0 HK3 HB3
    go_upto_region 6 with fail
    rw [← hw6]
    clear hw6
    go_wp2
    go_ret
    exact ⟨by simp, HBz.out⟩
end Go.Proofs.Ytokepgimjdalaaa
