/- VarintBack's walk. -/
import Derived.Test.YtgeabhnfkkkbgaaI
namespace Go.Proofs.Ytgeabhnfkkkbgaa
open Go.RowKit
set_option linter.unusedVariables false

theorem row_getD (l : List Int) (k : Nat) : l[k]?.getD 0 = l.getD k 0 := rfl
set_option maxHeartbeats 4000000 in
set_option maxRecDepth 100000 in
theorem back_any (n : Nat) (a : Option Addr) (len cap : Nat) (l : List Int) (w : World) (hn : n < 18446744073709551616) (hl : Hid (l.length = len)) (hlc : len ≤ cap) (hcm : cap ≤ 140737488351232) (hrow : Hid (Row .u8 w a l)) (hnil : Hid (a = none → cap = 0)) (hby : Hid (Bys l)) :
    Calls Try.prog 3 #[.int .u64 n, .slice a len cap] w fun e w' => e = .returned (.bool true) ∧ Below w.heap.size w w' := by
  obtain ⟨s, hs⟩ : ∃ s, szN n = s := ⟨_, rfl⟩
  have Hs : Hid (szN n = s) := hs
  have HF : Hid ((form n).length = s) := by show _ = _; rw [form_len n hn, hs]
  have hs1 : 1 ≤ s := by rw [← HF.out]; exact form_pos n
  have hs10 : s ≤ 10 := by rw [← HF.out]; exact form_ten n hn
  have hs1' : ¬ (s : Int) < 1 := by omega
  have hs10' : ¬ (s : Int) > 10 := by omega
  clear hs
  go_enter Try.func3, Try.ntmps3
  go_wp2_with fail
  refine (awake_any _).mono ?_; rintro e w1 ⟨rfl, hB1⟩
  go_wp2_with fail
  refine (put_at n s _ hn Hs.out).mono ?_; rintro e w2 ⟨g, rfl, hg, HK, hB2⟩
  have hBw2 := below_to hB1 hB2
  have hgw : w.heap.size ≤ g := Nat.le_trans hB1.size hg
  --1
  go_wp2_with fail
  refine (size_at n s _ hn Hs.out).mono ?_; rintro e w' ⟨rfl, rfl⟩
  obtain ⟨v1, w3, hr1, ho1, hg1⟩ := run_copy E23 w2 23 w2.heap.size (some ⟨g, 0, none⟩) s s (form n) HF.out HK.out.row (fun h => by cases h) (by unfold maxLen; omega) (by omega) (Nat.le_refl _)
  have hB23 : Below w2.heap.size w2 w3 := (Below.refl _ _).grown hg1 (Nat.le_refl _) (fun k hk => by cases hk)
  obtain ⟨v2, w4, hr2, ho2, hg2⟩ := run_app E23 w3 23 w2.heap.size v1 s (form n) ho1 a len cap l hl.out (hrow.out.later (below_to hBw2 hB23)) hnil.out (by unfold maxLen; omega) (by omega) hB23.size
  have hB24 : Below w2.heap.size w2 w4 := hB23.grown hg2 hB23.size (fun k hk => (ho1.lt k hk).1)
  obtain ⟨a4, c4, rfl, hrow4, _, _, _, _⟩ := own_open ho2 (by rw [List.length_append, HF.out, hl.out])
  have HR4 : Hid (Row .u8 w4 a4 (form n ++ l)) := hrow4
  have HL4 : Hid ((form n ++ l).length = s + len) := by show _ = _; rw [List.length_append, HF.out, hl.out]
  have R1 : Hid ((Builtin.append_ #[23, 23] 23 #[.slice none 0 0, .slice (some ⟨g, 0, none⟩) s s]).run Try.prog w2 = .ok v1 w3) := hr1
  have R2 : Hid ((Builtin.append_ #[23, 23] 23 #[v1, .slice a len cap]).run Try.prog w3 = .ok (.slice a4 (s + len) c4) w4) := hr2
  have HK4 : Hid (Blk w4 g 5 (cellsL .u8 (form n))) := HK.out.later hB24
  have hBw4 := below_to hBw2 hB24
  have HG4 : Hid (GetR (form n ++ l) n s 0) := by have h := get_form n hn l; rw [HF.out] at h; exact h
  have HBy4 : Hid (Bys (form n ++ l)) := (form_bys n).append hby.out
  clear hr1 hr2 ho1 ho2 hg1 hg2 hrow4 HK hB23 hB24 hB1 hB2 hBw2
  --2
  go_wp2_with (first | (at_builtin; have _t := R1; refine wpList_append_run rfl (.const (.slice none 0 0)) (.tmp 36) 23 23 rfl rfl rfl R1.out ?_; clear R1) | (at_builtin; have _t := R2; refine wpList_append_run rfl (.tmp 37) (.tmp 38) 23 23 rfl rfl rfl R2.out ?_; clear R2))
  --3
  refine (get_at a4 (s + len) c4 (form n ++ l) _ n s 0 HG4.out HL4.out (by unfold maxLen; omega) HR4.out HBy4.out).mono ?_; rintro e w' ⟨rfl, rfl⟩
  clear HR4 HL4 HG4 HBy4
  --4
  go_wp2_with fail
  refine (num_any _ _).mono ?_; rintro e w' ⟨rfl, rfl⟩
  go_wp2_with fail
  --5
  go_loop [9] (fun i => ∃ k : Nat, k ≤ s ∧ i = .int .i64 k) (fun i => s - (intOf i).toNat)
  case atStart => exact ⟨0, Nat.zero_le _, rfl⟩
  case round =>
    obtain ⟨k, hk, rfl⟩ := hrel
    by_cases hlt : k < s
    · have hlt' : (k : Int) < s := by omega
      have hc := HK4.out.cell k
      rw [cellsL_at _ _ _ (by rw [HF.out]; exact hlt)] at hc
      have hm := form_more n k (by rw [HF.out]; exact hlt)
      rw [HF.out] at hm
      have HG : Hid (GetR ((form n).take k) 0 k 20) := get_cut n hn k (by rw [HF.out]; exact hlt)
      have HL : Hid (((form n).take k).length = k) := by show _ = _; rw [List.length_take, HF.out]; omega
      have HR : Hid (Row .u8 w4 (some ⟨g, 0, none⟩) ((form n).take k)) := HK4.out.row.take k
      generalize (form n).getD k 0 = c at *
      have Hm : Hid (128 ≤ c ↔ k + 1 < s) := hm
      clear hm
      have hks : (k : Int) ≤ s := by omega
      go_wp2_with fail
      refine (get_at _ k _ ((form n).take k) _ 0 k 20 HG.out HL.out (by unfold maxLen; omega) HR.out ((form_bys n).take k)).mono ?_; rintro e w' ⟨rfl, rfl⟩
      go_wp2_with fail
      refine (num_any _ _).mono ?_; rintro e w' ⟨rfl, rfl⟩
      by_cases hks1 : k + 1 < s
      · have h1 : 128 ≤ c := Hm.out.2 hks1
        have h2 : (k : Int) + 1 < s := by omega
        go_wp2
        go_round
        case rel => exact ⟨k + 1, by omega, by go_num⟩
        case measure => simp [intOf]; omega
      · have h1 : ¬ 128 ≤ c := fun h => hks1 (Hm.out.1 h)
        have h2 : ¬ (k : Int) + 1 < s := by omega
        have d1 : decide (128 ≤ c) = false := by simpa using h1
        have d2 : decide ((k : Int) + 1 < s) = false := decide_eq_false h2
        go_wp2
        go_round
        case rel => exact ⟨k + 1, by omega, by go_num⟩
        case measure => simp [intOf]; omega
    · have hlt' : ¬ (k : Int) < s := by omega
      go_wp2_with fail
      refine (get_any a len cap l _ hl.out (by unfold maxLen; omega) (hrow.out.later hBw4) hby.out).mono ?_; rintro e w' ⟨x, u, r, HX, rfl, rfl⟩
      have HX : Hid (GetR l x u r) := HX
      go_wp2_with fail
      refine (num_any _ _).mono ?_; rintro e w' ⟨rfl, rfl⟩
      --6
      by_cases hr : r = 0
      · subst hr
        obtain ⟨b1, b2, b3, b4, b5⟩ := get_back HX.out hby.out rfl
        obtain ⟨X, rfl⟩ := Int.eq_ofNat_of_zero_le b3
        rw [Int.toNat_natCast] at b5
        rw [hl.out] at b2
        have HX5 : Hid (form X = l.take u) := b5
        have hX : X < 18446744073709551616 := by omega
        have HSX : Hid ((form X).length = u) := by show _ = _; rw [b5, List.length_take, hl.out]; omega
        have HSX2 : Hid (szN X = u) := by show _ = _; rw [← form_len X hX]; exact HSX.out
        have hu1 : (1 : Int) ≤ u := by omega
        have hul : (u : Int) ≤ len := by omega
        have huc : (u : Int) ≤ cap := by omega
        have hu0 : (0 : Int) ≤ u := by omega
        have hB0 := Below.refl w4.heap.size w4
        clear b1 b2 b3 b4 b5
        go_wp2_with fail
        go_region_held3 (fun w' => Below w4.heap.size w4 w') (first | assumption | exact hB0.drew)
          (first
            | (go_at_call 9; refine (put_at X u _ hX HSX2.out).mono ?_; rintro e w5 ⟨g5, rfl, hg5, HK5, hB5⟩; have hB45 := below_to (by assumption) hB5)
            | (go_at_call 13; refine (same_yes _ u _ _ u _ (form X) _ HSX.out HSX.out HK5.out.row (by rw [HX5.out]; exact ((hrow.out.later hBw4).later (by assumption)).take u)).mono ?_; rintro e w' ⟨rfl, rfl⟩))
        all_goals
          go_wp2
          go_ret
          exact ⟨rfl, below_to hBw4 (by assumption)⟩
      · have hxu : x = 0 ∧ u ≤ len := by
          rcases HX.out with ⟨_, h1, h2, _⟩ | ⟨k, h0, _, _, h1, h2, _⟩ | ⟨k, _, _, _, _, _, _, h⟩
          · exact ⟨h1, by rw [h2, hl.out]; exact Nat.le_refl _⟩
          · exact ⟨h1, by have := hl.out; omega⟩
          · exact absurd h hr
        obtain ⟨rfl, hul⟩ := hxu
        have hul' : (u : Int) ≤ len := by omega
        have hr' : (r == 0) = false := by simpa using hr
        go_wp2
        go_ret
        exact ⟨ret_bool (by simp), hBw4⟩
end Go.Proofs.Ytgeabhnfkkkbgaa
