/- VarintApart's walk. -/
import Derived.Test.YtgeabhnfkkkbgaaW
namespace Go.Proofs.Ytgeabhnfkkkbgaa
open Go.RowKit
set_option linter.unusedVariables false

set_option maxHeartbeats 8000000 in
set_option maxRecDepth 100000 in
theorem apart_any (n m : Nat) (w : World) (hn : n < 18446744073709551616) (hm : m < 18446744073709551616) :
    Calls Try.prog 6 #[.int .u64 n, .int .u64 m] w fun e w' => e = .returned (.bool true) ∧ Below w.heap.size w w' := by
  obtain ⟨s, hs⟩ : ∃ s, szN n = s := ⟨_, rfl⟩
  have Hs : Hid (szN n = s) := hs
  have HF : Hid ((form n).length = s) := by show _ = _; rw [form_len n hn, hs]
  obtain ⟨t0, ht0⟩ : ∃ t0, szN m = t0 := ⟨_, rfl⟩
  have Ht : Hid (szN m = t0) := ht0
  have HFm : Hid ((form m).length = t0) := by show _ = _; rw [form_len m hm, ht0]
  have hs10 : s ≤ 10 := by rw [← HF.out]; exact form_ten n hn
  have ht10 : t0 ≤ 10 := by rw [← HFm.out]; exact form_ten m hm
  clear hs ht0
  go_enter Try.func6, Try.ntmps6
  go_wp2_with fail
  refine (awake_any _).mono ?_; rintro e w1 ⟨rfl, hB1⟩
  go_wp2_with fail
  refine (put_at n s _ hn Hs.out).mono ?_; rintro e w2 ⟨g0, rfl, hg0, HK2, hB2⟩
  have hBw2 := below_to hB1 hB2
  go_wp2_with fail
  refine (load_form n s g0 _ hn HF.out HK2.out).mono ?_; rintro e w3 ⟨b, rfl, hb, HR3, HTk, hB3⟩
  have hBw3 := below_to hBw2 hB3
  have hbw : w.heap.size ≤ b := Nat.le_trans hBw2.size hb
  clear hB1 hB2 hB3 HK2 hg0 hb hBw2
  go_wp2_with fail
  refine (num_any _ _).mono ?_; rintro e w' ⟨rfl, rfl⟩
  go_wp2_with fail
  --1
  go_loopw [7, 8, 9] (fun x y i wr => ∃ (t : Nat) (vG vW : Value), t ≤ 3 ∧ i = .int .i64 t ∧ vG = x ∧ vW = y ∧ Hid (Turn n m w.heap.size w wr vG vW b t)) (fun _ _ i _ => 3 - (intOf i).toNat)
  case atStart => exact ⟨0, _, _, by omega, rfl, rfl, rfl, ⟨⟨_, _, _, ap_start n m _ _ b HR3.out hbw⟩, hBw3⟩⟩
  case round =>
    clear hBw3 HR3
    obtain ⟨t, vG, vW, ht, rfl, rfl, rfl, HT⟩ := hrel
    by_cases hlt : t < 3
    · have hlt' : (t : Int) < 3 := by omega
      obtain ⟨⟨g, h, c, hA⟩, hBr⟩ := HT.out
      have HA : Hid _ := hA
      clear hA HT
      go_wp2_with fail
      refine (put_at n s _ hn Hs.out).mono ?_; rintro e wa ⟨ga, rfl, hga, HKa, hBa⟩
      have HAa : Hid _ := HA.out.more hBa ga hga (Nat.le_refl _) rfl (by rw [cont_0]; exact HKa.out)
      have hBwa : Below w.heap.size w wa := hBr.trans (hBa.mono hBr.size)
      clear HA hBr hga HKa hBa
      go_wp2_with fail
      refine (put_at m t0 _ hm Ht.out).mono ?_; rintro e wb ⟨gb, rfl, hgb, HKb, hBb⟩
      have HAb : Hid _ := HAa.out.more hBb gb hgb (by omega) rfl (by rw [cont_m]; exact HKb.out)
      have hBwb : Below w.heap.size w wb := hBwa.trans (hBb.mono hBwa.size)
      clear HAa hBwa hgb HKb hBb
      go_wp2_with fail
      refine (read_at b (form n) true _ s HF.out HAb.out.rd hs10).mono ?_; rintro e wc ⟨gc, rfl, hgc, HKc, hBc⟩
      have HAc : Hid _ := HAb.out.more hBc gc hgc (by omega) rfl (by rw [cont_n n m t 2 (by omega) (by omega)]; exact HKc.out)
      have hBwc : Below w.heap.size w wc := hBwb.trans (hBc.mono hBwb.size)
      clear HAb hBwb hgc HKc hBc
      go_wp2_with fail
      refine (put_at n s _ hn Hs.out).mono ?_; rintro e wd ⟨gd, rfl, hgd, HKd, hBd⟩
      have HAd : Hid _ := HAc.out.more hBd gd hgd (by omega) rfl (by rw [cont_n n m t 3 (by omega) (by omega)]; exact HKd.out)
      have hBwd : Below w.heap.size w wd := hBwc.trans (hBd.mono hBwc.size)
      clear HAc hBwc hgd HKd hBd
      --2
      go_wp2_with fail
      obtain ⟨wl, hwl⟩ : ∃ wl, wl = wd.alloc (.cells #[.slice (some ⟨ga, 0, none⟩) s s, .slice (some ⟨gb, 0, none⟩) t0 t0, .slice (some ⟨gc, 0, none⟩) s s, .slice (some ⟨gd, 0, none⟩) s s] 23) := ⟨_, rfl⟩
      have HL4 := lit4_new n m s t0 t ga gb gc gd g wd HF.out HFm.out
      rw [← hwl] at HL4 ⊢
      have HT4 : Hid _ := turn_start HAd.out hBwd (by rw [hwl]; exact (Below.refl _ _).alloc (Nat.le_refl _) _) HL4 (by rw [hwl]; simp)
      clear hwl HL4 HAd hBwd
      obtain ⟨bl, hbl⟩ : ∃ bl, wd.heap.size = bl := ⟨_, rfl⟩
      rw [hbl] at HT4 ⊢
      clear hbl
      generalize ext (ext (ext (ext g (4 * t) ga) (4 * t + 1) gb) (4 * t + 1 + 1) gc) (4 * t + 1 + 1 + 1) gd = G at *
      --3
      go_loopw [7, 8, 11] (fun x y i wr => ∃ (k : Nat) (vG vW : Value), k ≤ 4 ∧ i = .int .i64 k ∧ vG = x ∧ vW = y ∧ Hid (Turn4 n m w.heap.size w wr vG vW b t k bl G)) (fun _ _ i _ => 4 - (intOf i).toNat)
      case atStart => exact ⟨0, _, _, by omega, rfl, rfl, rfl, HT4⟩
      case round =>
        clear HT4
        obtain ⟨k, vG', vW', hk, rfl, rfl, rfl, HT⟩ := hrel
        by_cases hk4 : k < 4
        · have hk4' : (k : Int) < 4 := by omega
          have hc := HT.out.2.1 k hk4
          obtain ⟨g1, c1, w1, x, cx, w2, g3, c3, w3, r1, hc1, r2, r3, T3⟩ := turn_push hn hm hk4 hlt HT.out
          have R1 : Hid _ := r1
          have R2 : Hid _ := r2
          have R3 : Hid _ := r3
          have HT3 : Hid _ := T3
          clear r1 r2 r3 T3 HT
          unfold slG at hc hc1 R1 R2
          generalize G (4 * t + k) = gj at *
          generalize czs n m (4 * t + k) = sj at *
          --4
          go_wp2_with (first | (at_builtin; have _t := R1; refine wpList_append_run rfl (.tmp 53) (.tmp 58) 44 44 rfl rfl rfl R1.out ?_; clear R1) | (at_builtin; have _t := R2; refine wpList_append_run rfl (.const (.slice none 0 0)) (.tmp 64) 23 23 rfl rfl rfl R2.out ?_; clear R2) | (at_builtin; have _t := R3; refine wpList_append_run rfl (.tmp 60) (.tmp 66) 44 44 rfl rfl rfl R3.out ?_; clear R3))
          go_roundw
          case rel => exact ⟨k + 1, _, _, by omega, by go_num, rfl, rfl, HT3⟩
          case measure => simp [intOf]; omega
        · have hk4' : ¬ (k : Int) < 4 := by omega
          obtain rfl : k = 4 := by omega
          go_wp2_with fail
          go_roundw
          case rel =>
            obtain ⟨⟨h', c', a'⟩, _, _, _, _, hB'⟩ := HT.out
            exact ⟨t + 1, vG', vW', by omega, by go_num, rfl, rfl, ⟨⟨G, h', c', a'⟩, hB'⟩⟩
          case measure => simp [intOf]; omega
    · have hlt' : ¬ (t : Int) < 3 := by omega
      obtain rfl : t = 3 := by omega
      --5
      obtain ⟨⟨g, h, c, hA⟩, hBr⟩ := HT.out
      have hA : Ap n m w.heap.size wr vG vW b 12 12 12 g h c (cont n m) := hA
      obtain ⟨qG, cG, rfl, hqG, hcG1, hcG2, -⟩ := hA.rG.open (by omega)
      obtain ⟨qW, cW, rfl, hqW, hcW1, hcW2, -⟩ := hA.rW.open (by omega)
      have HA : Hid _ := hA
      clear hA HT hcG1 hcG2 hcW1 hcW2
      go_wp2_with fail
      --6
      go_loopw [12] (fun i wx => ∃ k : Nat, k ≤ 12 ∧ i = .int .i64 k ∧ Hid (Ap n m w.heap.size wx (.slice (some ⟨qG, 0, none⟩) 12 cG) (.slice (some ⟨qW, 0, none⟩) 12 cW) b 12 12 12 g h c (cont n m)) ∧ Below w.heap.size w wx) (fun i _ => 12 - (intOf i).toNat)
      case atStart => exact ⟨0, by omega, rfl, HA, hBr⟩
      case round =>
        clear HA hBr
        obtain ⟨k, hk, rfl, HA, hBr⟩ := hrel
        by_cases hk12 : k < 12
        · have hk12' : (k : Int) < 12 := by omega
          have hcg : Hid (wr.cell? ⟨qG, k, none⟩ = some (slG n m g k)) := HA.out.rG.at k hk12
          have hcw : Hid (wr.cell? ⟨qW, k, none⟩ = some (slW n m h c k)) := HA.out.rW.at k hk12
          have HR1 : Hid (Row .u8 wr (some ⟨g k, 0, none⟩) (cont n m k)) := (HA.out.bG k hk12).row
          have HR2 : Hid (Row .u8 wr (some ⟨h k, 0, none⟩) (cont n m k)) := HA.out.rowW k hk12
          have HL : Hid ((cont n m k).length = czs n m k) := rfl
          unfold slG at hcg
          unfold slW at hcw
          generalize g k = gk at *
          generalize h k = hk2 at *
          generalize c k = ck at *
          generalize czs n m k = sk at *
          go_wp2_with fail
          go_region_held3 (fun w' => w'.cell? ⟨qG, k, none⟩ = some (.slice (some ⟨gk, 0, none⟩) sk sk) ∧ w'.cell? ⟨qW, k, none⟩ = some (.slice (some ⟨hk2, 0, none⟩) sk ck)) (first | assumption | exact ⟨hcg.out, hcw.out⟩)
            (first
              | (go_at_call 13; refine (same_yes _ sk _ _ sk _ (cont n m k) _ HL.out HL.out HR1.out.drew HR2.out.drew).mono ?_; rintro e w' ⟨rfl, rfl⟩))
          go_wp2
          go_roundw
          case rel => exact ⟨k + 1, by omega, by go_num, HA.out.drew, hBr.drew⟩
          case measure => simp [intOf]; omega
        · have hk12' : ¬ (k : Int) < 12 := by omega
          go_wp2_with fail
          --7
          have HFi : Hid _ := fill_start HA.out hBr
          clear HA hBr
          go_loopw [13] (fun i wx => ∃ k : Nat, k ≤ 12 ∧ i = .int .i64 k ∧ Hid (Fill n m w.heap.size w wx (.slice (some ⟨qG, 0, none⟩) 12 cG) (.slice (some ⟨qW, 0, none⟩) 12 cW) b k 0 g h c)) (fun i _ => 12 - (intOf i).toNat)
          case atStart => exact ⟨0, by omega, rfl, HFi⟩
          case round =>
            clear HFi hk12 hk12' hk
            obtain ⟨k, hk, rfl, HFi⟩ := hrel
            by_cases hk12 : k < 12
            · have hk12' : (k : Int) < 12 := by omega
              go_wp2_with fail
              --8
              go_loopw [14] (fun i wx => ∃ j : Nat, j ≤ czs n m k ∧ i = .int .i64 j ∧ Hid (Fill n m w.heap.size w wx (.slice (some ⟨qG, 0, none⟩) 12 cG) (.slice (some ⟨qW, 0, none⟩) 12 cW) b k j g h c)) (fun i _ => czs n m k - (intOf i).toNat)
              case atStart => exact ⟨0, Nat.zero_le _, rfl, HFi⟩
              case round =>
                clear HFi
                obtain ⟨j, hj, rfl, HFi⟩ := hrel
                have hj10 : j ≤ 10 := Nat.le_trans hj (czs_ten n m k hn hm)
                have hcg : wr.cell? ⟨qG, k, none⟩ = some (slG n m g k) := by
                  obtain ⟨⟨f, a, _⟩, _⟩ := HFi.out
                  exact a.rG.at k hk12
                unfold slG at hcg
                by_cases hjs : j < czs n m k
                · obtain ⟨⟨u, hu⟩, hz, F2⟩ := fill_step HFi.out hk12 hjs
                  have HF2 : Hid _ := F2
                  clear F2 HFi
                  obtain ⟨sk, hsk⟩ : ∃ sk, czs n m k = sk := ⟨_, rfl⟩
                  have Hsk : Hid (czs n m k = sk) := hsk
                  rw [hsk] at hcg hjs
                  clear hsk
                  have hjs' : (j : Int) < sk := by omega
                  generalize g k = gk at *
                  go_wp2
                  go_roundw
                  case rel => exact ⟨j + 1, by rw [Hsk.out]; omega, by go_num, HF2⟩
                  case measure => rw [Hsk.out]; simp [intOf]; omega
                · obtain rfl : j = czs n m k := by omega
                  have HF2 : Hid _ := fill_next HFi.out hk12
                  clear HFi
                  obtain ⟨sk, hsk⟩ : ∃ sk, czs n m k = sk := ⟨_, rfl⟩
                  rw [hsk] at hcg ⊢
                  clear hsk
                  generalize g k = gk at *
                  go_wp2
                  go_roundw
                  case rel => exact ⟨k + 1, by omega, by go_num, HF2⟩
                  case measure => simp [intOf]; omega
            · have hk12' : ¬ (k : Int) < 12 := by omega
              obtain rfl : k = 12 := by omega
              obtain ⟨aF, hBF⟩ := fill_end HFi.out
              have HM : Hid _ := more_start aF hBF
              clear aF hBF HFi
              go_wp2_with fail
              --9
              go_loopw [15, 16] (fun y i wx => ∃ (k : Nat) (vM : Value), k ≤ 12 ∧ i = .int .i64 k ∧ vM = y ∧ Hid (∃ q d, More n m w.heap.size w wx (.slice (some ⟨qG, 0, none⟩) 12 cG) (.slice (some ⟨qW, 0, none⟩) 12 cW) vM b k g h c q d)) (fun _ i _ => 12 - (intOf i).toNat)
              case atStart => exact ⟨0, _, by omega, rfl, rfl, ⟨_, _, HM.out⟩⟩
              case round =>
                clear HM hk12 hk12' hk
                obtain ⟨k, vM, hk, rfl, rfl, HM⟩ := hrel
                by_cases hk12 : k < 12
                · have hk12' : (k : Int) < 12 := by omega
                  obtain ⟨q, d, M⟩ := HM.out
                  have hcg := M.ap.rG.at k hk12
                  obtain ⟨x, dx, w1, g3, c3, w3, q', d', r1, r3, M3⟩ := more_push hn hm hk12 M
                  have R1 : Hid _ := r1
                  have R3 : Hid _ := r3
                  have HM3 : Hid (∃ q d, More n m w.heap.size w w3 (.slice (some ⟨qG, 0, none⟩) 12 cG) (.slice (some ⟨qW, 0, none⟩) 12 cW) (.slice (some ⟨g3, 0, none⟩) (k + 1) c3) b (k + 1) g h c q d) := ⟨q', d', M3⟩
                  clear r1 r3 M3 M HM
                  unfold slG at hcg R1
                  generalize g k = gk at *
                  generalize czs n m k = sk at *
                  go_wp2_with (first | (at_builtin; have _t := R1; refine wpList_append_run rfl (.tmp 118) (.tmp 122) 23 23 rfl rfl rfl R1.out ?_; clear R1) | (at_builtin; have _t := R3; refine wpList_append_run rfl (.tmp 114) (.tmp 124) 44 44 rfl rfl rfl R3.out ?_; clear R3))
                  go_roundw
                  case rel => exact ⟨k + 1, _, by omega, by go_num, rfl, HM3⟩
                  case measure => simp [intOf]; omega
                · have hk12' : ¬ (k : Int) < 12 := by omega
                  obtain rfl : k = 12 := by omega
                  obtain ⟨q, d, M⟩ := HM.out
                  obtain ⟨qM, cM, rfl, -, -, -, -⟩ := M.rM.open (by omega)
                  have HM2 : Hid _ := M
                  clear M HM
                  go_wp2_with fail
                  --10
                  go_loop [17] (fun i => ∃ k : Nat, k ≤ 12 ∧ i = .int .i64 k) (fun i => 12 - (intOf i).toNat)
                  case atStart => exact ⟨0, by omega, rfl⟩
                  case round =>
                    clear hk12 hk12' hk
                    obtain ⟨k, hk, rfl⟩ := hrel
                    by_cases hk12 : k < 12
                    · have hk12' : (k : Int) < 12 := by omega
                      have hcg : wr.cell? ⟨qG, k, none⟩ = some (slG n m g k) := HM2.out.ap.rG.at k hk12
                      have hcm : wr.cell? ⟨qM, k, none⟩ = some (slM n m q d k) := HM2.out.rM.at k hk12
                      have HCM : Hid (∀ i, i < czs n m k + 1 → wr.cell? ⟨q k, i, none⟩ = some (.int .u8 (100 + (k : Int)))) := fun i hi => HM2.out.cellM k i hk12 hi
                      have HCG : Hid (∀ i, i < czs n m k → wr.cell? ⟨g k, i, none⟩ = some (.int .u8 (100 + (k : Int)))) := fun i hi => HM2.out.cellG k i hk12 hi
                      have hs10 := czs_ten n m k hn hm
                      unfold slG at hcg
                      unfold slM at hcm
                      obtain ⟨sk, hsk⟩ : ∃ sk, czs n m k = sk := ⟨_, rfl⟩
                      obtain ⟨gk, hgk⟩ : ∃ gk, g k = gk := ⟨_, rfl⟩
                      obtain ⟨qk, hqk⟩ : ∃ qk, q k = qk := ⟨_, rfl⟩
                      obtain ⟨dk, hdk⟩ : ∃ dk, d k = dk := ⟨_, rfl⟩
                      rw [hsk] at hcg hcm HCM HCG hs10
                      rw [hgk] at hcg HCG
                      rw [hqk] at hcm HCM
                      rw [hdk] at hcm
                      clear hsk hgk hqk hdk
                      go_wp2_with fail
                      --11
                      go_loop [18] (fun i => ∃ j : Nat, j ≤ sk + 1 ∧ i = .int .i64 j) (fun i => sk + 1 - (intOf i).toNat)
                      case atStart => exact ⟨0, by omega, rfl⟩
                      case round =>
                        obtain ⟨j, hj, rfl⟩ := hrel
                        by_cases hjs : j < sk + 1
                        · have hjs' : (j : Int) < (sk : Int) + 1 := by omega
                          have c1 := HCM.out j hjs
                          by_cases hjs2 : j < sk
                          · have hjs2' : (j : Int) < sk := by omega
                            have c2 := HCG.out j hjs2
                            go_wp2
                            go_round
                            case rel => exact ⟨j + 1, by omega, by go_num⟩
                            case measure => simp [intOf]; omega
                          · have hjs2' : ¬ (j : Int) < sk := by omega
                            have hd2 : decide ((j : Int) < sk) = false := decide_eq_false hjs2'
                            go_wp2
                            go_round
                            case rel => exact ⟨j + 1, by omega, by go_num⟩
                            case measure => simp [intOf]; omega
                        · have hjs' : ¬ (j : Int) < (sk : Int) + 1 := by omega
                          go_wp2
                          go_round
                          case rel => exact ⟨k + 1, by omega, by go_num⟩
                          case measure => simp [intOf]; omega
                    · have hk12' : ¬ (k : Int) < 12 := by omega
                      --12
                      have hcw : Hid (wr.cell? ⟨qW, 1, none⟩ = some (slW n m h c 1)) := HM2.out.ap.rW.at 1 (by omega)
                      have HRW : Hid (Row .u8 wr (some ⟨h 1, 0, none⟩) (form m)) := by
                        have h1 := HM2.out.ap.rowW 1 (by omega)
                        rw [show cont n m 1 = form m from cont_m n m 0] at h1
                        exact h1
                      have HRd : Hid (Rdr wr b (form n) true) := HM2.out.ap.rd
                      have hqWl : qW < wr.heap.size := World.block_lt_of_cell? wr _ hcw.out
                      have hBel : Below w.heap.size w wr := HM2.out.bel
                      unfold slW at hcw
                      rw [show czs n m 1 = t0 from (czs_m n m 0).trans HFm.out] at hcw
                      obtain ⟨h1, hh1⟩ : ∃ h1, h 1 = h1 := ⟨_, rfl⟩
                      obtain ⟨c1, hc1⟩ : ∃ c1, c 1 = c1 := ⟨_, rfl⟩
                      rw [hh1] at hcw HRW
                      rw [hc1] at hcw
                      have CW : Hid (∀ w', Below wr.heap.size wr w' → w'.cell? ⟨qW, 1, none⟩ = some (.slice (some ⟨h1, 0, none⟩) t0 c1)) := fun w' hB => by
                        rw [hB.cell (p := ⟨qW, 1, none⟩) hqWl]; exact hcw.out
                      have hv : Hid (val (form n) = n) := form_val n
                      have hB0 := Below.refl wr.heap.size wr
                      clear hh1 hc1 hcw HM2
                      go_wp2_with fail
                      --13
                      go_region_held3 (fun w' => w'.cell? ⟨qW, 1, none⟩ = some (.slice (some ⟨h1, 0, none⟩) t0 c1) ∧ Below wr.heap.size wr w') (first | assumption | (refine ⟨CW.out _ ?_, ?_⟩ <;> first | assumption | exact hB0.drew | (refine Below.drew ?_; first | assumption | exact hB0.drew | exact And.right (by assumption))))
                        (first
                          | (go_at_call 17; refine (n_any b (form n) true _ (HRd.out.later (by first | assumption | exact And.right (by assumption))) HTk.out).mono ?_; rintro e w9 ⟨rfl, hw9⟩; subst hw9; rw [hv.out])
                          | (go_at_call 16; refine (read_at b (form n) true _ s HF.out (HRd.out.later (by first | assumption | exact And.right (by assumption))) hs10).mono ?_; rintro e w5 ⟨g5, rfl, hg5, HK5, hB5⟩; have hB45 := below_to (by first | assumption | exact And.right (by assumption) : Below wr.heap.size wr _) hB5; first | (have HK6b : Hid (Blk w5 g6 5 (cellsL .u8 (form n))) := HK6.out.later hB5) | skip)
                          | (go_at_call_of 9 (Value.int .u64 (n : Int)); refine (put_at n s _ hn Hs.out).mono ?_; rintro e w6 ⟨g6, rfl, hg6, HK6, hB6⟩; have hB46 := below_to (by first | assumption | exact And.right (by assumption) : Below wr.heap.size wr _) hB6; first | (have HK5b : Hid (Blk w6 g5 5 (cellsL .u8 (form n))) := HK5.out.later hB6) | skip)
                          | (go_at_call_of 13 (Value.slice (some ⟨g5, 0, none⟩) s s); refine (same_yes _ s _ _ s _ (form n) _ HF.out HF.out HK5b.out.row HK6.out.row).mono ?_; rintro e w' ⟨rfl, rfl⟩; clear hB5 hB6 HK5 HK6 HK5b)
                          | (go_at_call_of 13 (Value.slice (some ⟨g5, 0, none⟩) s s); refine (same_yes _ s _ _ s _ (form n) _ HF.out HF.out HK5.out.row HK6b.out.row).mono ?_; rintro e w' ⟨rfl, rfl⟩; clear hB5 hB6 HK5 HK6 HK6b)
                          | (go_at_call_of 9 (Value.int .u64 (m : Int)); refine (put_at m t0 _ hm Ht.out).mono ?_; rintro e w7 ⟨g7, rfl, hg7, HK7, hB7⟩; have hB47 := below_to (by first | assumption | exact And.right (by assumption) : Below wr.heap.size wr _) hB7)
                          | (go_at_call_of 13 (Value.slice (some ⟨g7, 0, none⟩) t0 t0); refine (same_yes _ t0 _ _ t0 _ (form m) _ HFm.out HFm.out HK7.out.row (HRW.out.later (by first | assumption | exact And.right (by assumption)))).mono ?_; rintro e w' ⟨rfl, rfl⟩))
                      all_goals
                        go_wp2
                        go_ret
                        exact ⟨rfl, below_to hBel (by first | assumption | exact And.right (by assumption))⟩
end Go.Proofs.Ytgeabhnfkkkbgaa
