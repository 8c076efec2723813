/- plays: Put. -/
import Derived.Test.YtmhcihccliakaaaO
namespace Go.Proofs.Ytmhcihccliakaaa
open Go.RowKit
set_option linter.unusedVariables false

theorem rowB_cells {w : World} {h n : Nat} {f : Nat → Nat} (r : RowB w (some ⟨h, 0, none⟩) n f) : ∀ i, i < n → w.cell? ⟨h, 0 + i, none⟩ = some (.int .u8 ((f i : Nat) : Int)) := by
  rcases r with ⟨e, _⟩ | ⟨x, e, hc⟩
  · cases e
  · intro i hi
    injection e with e
    subst e
    have hadd : (⟨h, 0, none⟩ : Addr).add i = ⟨h, 0 + i, none⟩ := by unfold Addr.add; split <;> simp_all
    rw [← hadd]
    exact hc i hi
theorem rowB_of {w : World} {h n : Nat} {f : Nat → Nat} (r : ∀ i, i < n → w.cell? ⟨h, 0 + i, none⟩ = some (.int .u8 ((f i : Nat) : Int))) : RowB w (some ⟨h, 0, none⟩) n f := by
  refine .inr ⟨_, rfl, fun i hi => ?_⟩
  have hadd : (⟨h, 0, none⟩ : Addr).add i = ⟨h, 0 + i, none⟩ := by unfold Addr.add; split <;> simp_all
  rw [hadd]
  exact r i hi
theorem put_mark (f : Nat → Nat) (p wd N n i : Nat) (h : p + wd ≤ n) : putF (markF f n) p wd N i = markF (putF f p wd N) n i := by
  unfold putF markF
  by_cases h1 : p ≤ i ∧ i < p + wd
  · rw [if_pos h1, if_pos (by omega)]; exact (if_pos h1).symm
  · rw [if_neg h1]
    by_cases h2 : i < n
    · rw [if_pos h2, if_pos h2]; exact (if_neg h1).symm
    · rw [if_neg h2, if_neg h2]
theorem put_both {w w4 w5 : World} {g h n p wd N : Nat} {f : Nat → Nat} (hw5 : w5 = putW w4.drew h (0 + p) N wd) (hgh : h ≠ g) (hBh : w.heap.size ≠ h) (hhB : w.heap.size ≤ h) (hpn : p + wd ≤ n)
    (HG : Hid (∀ i, i < n + 3 → w4.cell? ⟨g, 0 + i, none⟩ = some (.int .u8 ((markF (putF f p wd N) n i : Nat) : Int)))) (HW : Hid (∀ i, i < n → w4.cell? ⟨h, 0 + i, none⟩ = some (.int .u8 ((f i : Nat) : Int))))
    (b2 : w4.cell? ⟨w.heap.size, 2, none⟩ = some (.int .i64 p)) (b3 : w4.cell? ⟨w.heap.size, 3, none⟩ = some (.int .i64 wd)) (b4 : w4.cell? ⟨w.heap.size, 4, none⟩ = some (.int .u64 N))
    (sg : g < w4.heap.size) (sb : w.heap.size < w4.heap.size) (hB : Below w.heap.size w w4) :
    (w5.cell? ⟨w.heap.size, 2, none⟩ = some (.int .i64 p) ∧ w5.cell? ⟨w.heap.size, 3, none⟩ = some (.int .i64 wd) ∧ w5.cell? ⟨w.heap.size, 4, none⟩ = some (.int .u64 N)) ∧
      Hid (∀ i, i < n + 3 → w5.cell? ⟨g, 0 + i, none⟩ = some (.int .u8 ((markF (putF f p wd N) n i : Nat) : Int))) ∧ Hid (RowB w5 (some ⟨h, 0, none⟩) n (putF f p wd N)) ∧ g < w5.heap.size ∧ w.heap.size < w5.heap.size ∧ Below w.heap.size w w5 := by
  have hs : w5.heap.size = w4.heap.size := by rw [hw5, putW_size]; rfl
  refine ⟨⟨?_, ?_, ?_⟩, fun i hi => ?_, rowB_of (fun i hi => ?_), by omega, by omega, ?_⟩
  · rw [hw5, putW_other w4.drew h (0 + p) N wd _ (.inl hBh)]; exact b2
  · rw [hw5, putW_other w4.drew h (0 + p) N wd _ (.inl hBh)]; exact b3
  · rw [hw5, putW_other w4.drew h (0 + p) N wd _ (.inl hBh)]; exact b4
  · rw [hw5, putW_other w4.drew h (0 + p) N wd ⟨g, 0 + i, none⟩ (.inl (fun e => hgh e.symm))]; exact HG.out i hi
  · rw [hw5]; exact putW_cells w4.drew h 0 n p wd N f hpn HW.out i hi
  · rw [hw5]; exact hB.drew.trans (putW_below w4.drew h (0 + p) N wd _ hhB)
theorem keep_box {w w5 w6 : World} {pos wid : Int} {N : Nat} (hB : Below w5.heap.size w5 w6) (hb : w.heap.size < w5.heap.size)
    (h : w5.cell? ⟨w.heap.size, 2, none⟩ = some (.int .i64 pos) ∧ w5.cell? ⟨w.heap.size, 3, none⟩ = some (.int .i64 wid) ∧ w5.cell? ⟨w.heap.size, 4, none⟩ = some (.int .u64 N)) :
    w6.cell? ⟨w.heap.size, 2, none⟩ = some (.int .i64 pos) ∧ w6.cell? ⟨w.heap.size, 3, none⟩ = some (.int .i64 wid) ∧ w6.cell? ⟨w.heap.size, 4, none⟩ = some (.int .u64 N) :=
  ⟨(hB.cell (p := ⟨w.heap.size, 2, none⟩) hb).trans h.1, (hB.cell (p := ⟨w.heap.size, 3, none⟩) hb).trans h.2.1, (hB.cell (p := ⟨w.heap.size, 4, none⟩) hb).trans h.2.2⟩
theorem own_rowB {w : World} {base n : Nat} {v : Value} {f : Nat → Nat} (h : w.ownsRow base 5 1 v n (cellsF f n)) :
    ∃ a c, v = .slice a n c ∧ RowB w a n f ∧ (a = none → c = 0) ∧ (0 < n → ∃ g, a = some ⟨g, 0, none⟩ ∧ base ≤ g ∧ g < w.heap.size ∧ ∀ o, w.frozen? ⟨g, o, none⟩ = false) := by
  have hcells := @World.ownsRow.cells _ _ _ _ _ _ _ h
  rcases h.2 with ⟨rfl, rfl⟩ | ⟨g, cap, cur, rfl, hb, hg, _⟩
  · exact ⟨none, 0, rfl, .inl ⟨rfl, rfl⟩, fun _ => rfl, fun h => by omega⟩
  · refine ⟨_, _, rfl, .inr ⟨_, rfl, fun i hi => hcells rfl i _ (cellsF_at f n i hi)⟩, (fun h => by cases h), fun _ => ⟨g, rfl, hb, (h.lt g rfl).2, fun o => ?_⟩⟩
    simp [World.frozen?, hg]
set_option maxRecDepth 100000 in
set_option maxHeartbeats 4000000 in
theorem plays_2 (kind : Int) (a : Option Addr) (len cap : Nat) (pos wid : Int) (N : Nat) (a2 : Option Addr) (len2 cap2 : Nat) (w : World)
    (hlc : len ≤ cap) (hcm : cap ≤ maxLen) (hN : N < 18446744073709551616) (hkind : kind = 2) (f : Nat → Nat) (hrow : Hid (RowB w a len f)) (hnil : Hid (a = none → cap = 0)) (hf : Hid (∀ i, i < len → f i < 256)) :
    Calls Try.prog 14 #[.agg #[.int .i64 kind, .slice a len cap, .int .i64 pos, .int .i64 wid, .int .u64 N, .slice a2 len2 cap2]] w fun e w' => e = .returned (.bool true) ∧ Below w.heap.size w w' := by
  subst hkind
  unfold maxLen at hcm
  go_enter Try.func14, Try.ntmps14
  go_upto_if 14 with fail
  go_cut [13] (fun s wc => ∃ n, n ≤ 2000 ∧ n ≤ len ∧ wc = w.alloc (box 2 a n cap pos wid N a2 len2 cap2))
  case first =>
    by_cases h : 2000 < (len : Int)
    · have h2 : (2000 : Int) ≤ cap := by omega
      go_wp2
      go_meet
      case rel => exact ⟨2000, by omega, by omega, by unfold box; simp⟩
    · go_wp2
      go_meet
      case rel => exact ⟨len, by omega, by omega, rfl⟩
  case rest =>
    obtain ⟨n, hn1, hn2, rfl⟩ := hcut
    obtain ⟨wB, hwB⟩ : ∃ wB, wB = w.alloc (box 2 a n cap pos wid N a2 len2 cap2) := ⟨_, rfl⟩
    have hBB : Below w.heap.size w wB := by rw [hwB]; exact (Below.refl _ _).alloc (Nat.le_refl _) _
    have hsB : w.heap.size < wB.heap.size := by rw [hwB]; simp
    have hc0 : wB.cell? ⟨w.heap.size, 0, none⟩ = some (.int .i64 2) := by rw [hwB]; unfold box; simp [go_sem]
    have hc1 : wB.cell? ⟨w.heap.size, 1, none⟩ = some (.slice a n cap) := by rw [hwB]; unfold box; simp [go_sem]
    have hc2 : wB.cell? ⟨w.heap.size, 2, none⟩ = some (.int .i64 pos) := by rw [hwB]; unfold box; simp [go_sem]
    have hc3 : wB.cell? ⟨w.heap.size, 3, none⟩ = some (.int .i64 wid) := by rw [hwB]; unfold box; simp [go_sem]
    have hc4 : wB.cell? ⟨w.heap.size, 4, none⟩ = some (.int .u64 N) := by rw [hwB]; unfold box; simp [go_sem]
    rw [← hwB]
    clear hwB
    have HR : Hid (RowB wB a n f) := rowB_take (rowB_later2 hrow.out hBB) hn2
    have hnm : n ≤ maxLen := by unfold maxLen; omega
    go_wp2_with fail
    refine (lent_any a n cap f _ HR hnil (by omega)).mono ?_; rintro e w2 ⟨g, c, rfl, g1, g20, g3, g4, g5, g6, hB2⟩
    have HR2 : Hid (RowB w2 a n f) := rowB_later2 HR.out hB2
    obtain ⟨v3, w3, r3, o3, q3⟩ := run_copy w2 22 w2.heap.size a n cap f HR2.out hnil.out (by omega) (Nat.le_refl _)
    have hB3 : Below w2.heap.size w2 w3 := (Below.refl _ _).grown q3 (Nat.le_refl _) (fun k hk => by cases hk)
    obtain ⟨a3, c3, rfl, hr3, hn3', hz3⟩ := own_rowB o3
    have hn3 := hide_ hn3'
    have HR3 : Hid (RowB w3 a3 n f) := hr3
    have HG : Hid (∀ i, i < n + 3 → w3.cell? ⟨g, 0 + i, none⟩ = some (.int .u8 ((markF f n i : Nat) : Int))) := fun i hi => (hB3.cell (p := ⟨g, 0 + i, none⟩) g20).trans (g5 i hi)
    have HZ : Hid (∀ o, w3.frozen? ⟨g, o, none⟩ = false) := fun o => (hB3.frozen (p := ⟨g, o, none⟩) g20).trans (g6 o)
    have g2 : g < w3.heap.size := by have := hB3.size; omega
    have hBB3 : Below wB.heap.size wB w3 := hB2.trans (hB3.mono hB2.size)
    have e1 : w2.cell? ⟨w.heap.size, 1, none⟩ = some (.slice a n cap) := (hB2.cell (p := ⟨w.heap.size, 1, none⟩) hsB).trans hc1
    have d2 : w3.cell? ⟨w.heap.size, 2, none⟩ = some (.int .i64 pos) := (hBB3.cell (p := ⟨w.heap.size, 2, none⟩) hsB).trans hc2
    have d3 : w3.cell? ⟨w.heap.size, 3, none⟩ = some (.int .i64 wid) := (hBB3.cell (p := ⟨w.heap.size, 3, none⟩) hsB).trans hc3
    have d4 : w3.cell? ⟨w.heap.size, 4, none⟩ = some (.int .u64 N) := (hBB3.cell (p := ⟨w.heap.size, 4, none⟩) hsB).trans hc4
    have hBw3 : Below w.heap.size w w3 := hBB.trans (hBB3.mono hBB.size)
    have hbs : w.heap.size < w3.heap.size := by have := hBB3.size; omega
    have R3 := hide_ r3
    have HO := hide_ hz3
    clear hn3' r3 q3 g5 g6 hr3 hc0 hc1 hc2 hc3 hc4 HR HR2 hBB hBB3 hz3
    by_cases hw : wid < 1 ∨ 8 < wid
    · go_wp2_with (first | (at_builtin; refine wpList_append_run rfl (.const (.slice none 0 0)) (.tmp 40) 22 22 rfl rfl rfl R3.out ?_) | fail)
      refine (put_w _ _ _ _ _ _ _ hw).mono ?_; rintro e w' ⟨rfl, rfl⟩
      go_wp2_with fail
      · go_region_held3 (fun w' => w'.cell? ⟨w.heap.size, 2, none⟩ = some (.int .i64 pos) ∧ w'.cell? ⟨w.heap.size, 3, none⟩ = some (.int .i64 wid) ∧ w'.cell? ⟨w.heap.size, 4, none⟩ = some (.int .u64 N)) (first | assumption | exact ⟨d2, d3, d4⟩)
          (first
            | (go_at_call 10; refine (num_any _ _).mono ?_; rintro e w' ⟨rfl, rfl⟩)
            | (go_at_call 21; refine (rput_w _ _ _ _ _ _ _ hw).mono ?_; rintro e w' ⟨rfl, rfl⟩)
            | (go_at_call 22; refine (kept_yes g c _ a3 n c3 f w3.drew g2 g3 g4 HG HR3 hn3 (by omega)).mono ?_; rintro e w6 ⟨rfl, hB6⟩; have E6 := keep_box hB6 hbs (by assumption)))
        go_wp2
        go_ret
        exact ⟨rfl, below_to hBw3.drew hB6⟩
    · have w1 : 1 ≤ wid := by omega
      have w2' : wid ≤ 8 := by omega
      by_cases hp : pos < 0 ∨ (n : Int) - wid < pos
      · go_wp2_with (first | (at_builtin; refine wpList_append_run rfl (.const (.slice none 0 0)) (.tmp 40) 22 22 rfl rfl rfl R3.out ?_) | fail)
        refine (put_no _ _ _ _ _ _ _ w1 w2' hnm hp).mono ?_; rintro e w' ⟨rfl, rfl⟩
        go_wp2_with fail
        go_region_held3 (fun w' => w'.cell? ⟨w.heap.size, 2, none⟩ = some (.int .i64 pos) ∧ w'.cell? ⟨w.heap.size, 3, none⟩ = some (.int .i64 wid) ∧ w'.cell? ⟨w.heap.size, 4, none⟩ = some (.int .u64 N)) (first | assumption | exact ⟨d2, d3, d4⟩)
          (first
            | (go_at_call 10; refine (num_any _ _).mono ?_; rintro e w' ⟨rfl, rfl⟩)
            | (go_at_call 21; refine (rput_no _ _ _ _ _ _ _ w1 w2' (by omega) hp).mono ?_; rintro e w' ⟨rfl, rfl⟩)
            | (go_at_call 22; refine (kept_yes g c _ a3 n c3 f w3.drew g2 g3 g4 HG HR3 hn3 (by omega)).mono ?_; rintro e w6 ⟨rfl, hB6⟩; have E6 := keep_box hB6 hbs (by assumption)))
        go_wp2
        go_ret
        exact ⟨rfl, below_to hBw3.drew hB6⟩
      · obtain ⟨wd, rfl⟩ := Int.eq_ofNat_of_zero_le (show 0 ≤ wid by omega)
        obtain ⟨p, rfl⟩ := Int.eq_ofNat_of_zero_le (show 0 ≤ pos by omega)
        have hpn : p + wd ≤ n := by omega
        have hw1 : 1 ≤ wd := by omega
        have hw2 : wd ≤ 8 := by omega
        clear hw hp
        by_cases hfit : fitB N wd = true
        · obtain ⟨h, rfl, hh1, hh2, hhz⟩ := HO.out (show 0 < n by omega)
          have hgh : h ≠ g := by omega
          have hBg : w.heap.size ≠ g := by have := hB2.size; omega
          have hBh : w.heap.size ≠ h := by have := hB2.size; omega
          have hgB : w.heap.size ≤ g := by omega
          have hhB : w.heap.size ≤ h := by omega
          have HW : Hid (∀ i, i < n → w3.cell? ⟨h, 0 + i, none⟩ = some (.int .u8 ((f i : Nat) : Int))) := rowB_cells HR3.out
          have HHZ := hide_ hhz
          clear hhz HO
          go_wp2_with (first | (at_builtin; refine wpList_append_run rfl (.const (.slice none 0 0)) (.tmp 40) 22 22 rfl rfl rfl R3.out ?_) | fail)
          refine (put_ok g 0 n c p wd N _ hw1 hw2 hnm hpn hfit (fun i hi => ⟨_, HG.out i (by omega)⟩) (fun i hi => HZ.out _)).mono ?_; rintro e w4 ⟨rfl, hw4⟩
          have HG4 : Hid (∀ i, i < n + 3 → w4.cell? ⟨g, 0 + i, none⟩ = some (.int .u8 ((markF (putF f p wd N) n i : Nat) : Int))) := by
            intro i hi
            rw [hw4, putW_cells w3 g 0 (n + 3) p wd N (markF f n) (by omega) HG.out i hi, put_mark f p wd N n i hpn]
          have HW4 : Hid (∀ i, i < n → w4.cell? ⟨h, 0 + i, none⟩ = some (.int .u8 ((f i : Nat) : Int))) := by
            intro i hi
            rw [hw4, putW_other w3 g (0 + p) N wd ⟨h, 0 + i, none⟩ (.inl hgh)]; exact HW.out i hi
          have HHZ4 : Hid (∀ o, w4.frozen? ⟨h, o, none⟩ = false) := by
            intro o
            rw [hw4, putW_frozen]; exact HHZ.out o
          have b2 : w4.cell? ⟨w.heap.size, 2, none⟩ = some (.int .i64 p) := by rw [hw4, putW_other w3 g (0 + p) N wd _ (.inl hBg)]; exact d2
          have b3 : w4.cell? ⟨w.heap.size, 3, none⟩ = some (.int .i64 wd) := by rw [hw4, putW_other w3 g (0 + p) N wd _ (.inl hBg)]; exact d3
          have b4 : w4.cell? ⟨w.heap.size, 4, none⟩ = some (.int .u64 N) := by rw [hw4, putW_other w3 g (0 + p) N wd _ (.inl hBg)]; exact d4
          have hBw4 : Below w.heap.size w w4 := by rw [hw4]; exact hBw3.trans (putW_below w3 g (0 + p) N wd _ hgB)
          have s4 : w4.heap.size = w3.heap.size := by rw [hw4, putW_size]
          have sg4 : g < w4.heap.size := by omega
          have sb4 : w.heap.size < w4.heap.size := by omega
          clear hw4 s4 HG HZ HW HHZ d2 d3 d4 hBw3 R3 HR3 o3 hB2 hB3
          go_wp2_with fail
          go_region_held3 (fun w' => w'.cell? ⟨w.heap.size, 2, none⟩ = some (.int .i64 p) ∧ w'.cell? ⟨w.heap.size, 3, none⟩ = some (.int .i64 wd) ∧ w'.cell? ⟨w.heap.size, 4, none⟩ = some (.int .u64 N)) (first | assumption | exact ⟨b2, b3, b4⟩)
            (first
              | (go_at_call 10; refine (num_any _ _).mono ?_; rintro e w' ⟨rfl, rfl⟩)
              | (go_at_call 21; refine (rput_ok h 0 n c3 p wd N w4.drew hN hw1 hw2 (by omega) hpn hfit (fun i hi => ⟨_, HW4.out i hi⟩) (fun i hi => HHZ4.out _)).mono ?_; rintro e w5 ⟨rfl, hw5⟩; obtain ⟨E5, HG5, HR5, sg5, sb5, hBw5⟩ := put_both hw5 hgh hBh hhB hpn HG4 HW4 b2 b3 b4 sg4 sb4 hBw4; clear hw5)
              | (go_at_call 22; refine (kept_yes g c _ (some ⟨h, 0, none⟩) n c3 (putF f p wd N) w5 sg5 g3 g4 HG5 HR5 hn3 (by omega)).mono ?_; rintro e w6 ⟨rfl, hB6⟩; have E6 := keep_box hB6 sb5 E5))
          go_wp2
          go_ret
          exact ⟨rfl, below_to hBw5 hB6⟩
        · have hfit' : fitB N wd = false := by simpa using hfit
          clear hfit
          go_wp2_with (first | (at_builtin; refine wpList_append_run rfl (.const (.slice none 0 0)) (.tmp 40) 22 22 rfl rfl rfl R3.out ?_) | fail)
          refine (put_unfit _ _ _ _ _ _ _ w1 w2' hnm (by omega) (by omega) hfit').mono ?_; rintro e w' ⟨rfl, rfl⟩
          go_wp2_with fail
          · go_region_held3 (fun w' => w'.cell? ⟨w.heap.size, 2, none⟩ = some (.int .i64 p) ∧ w'.cell? ⟨w.heap.size, 3, none⟩ = some (.int .i64 wd) ∧ w'.cell? ⟨w.heap.size, 4, none⟩ = some (.int .u64 N)) (first | assumption | exact ⟨d2, d3, d4⟩)
              (first
                | (go_at_call 10; refine (num_any _ _).mono ?_; rintro e w' ⟨rfl, rfl⟩)
                | (go_at_call 21; refine (rput_unfit _ n _ p wd N _ hN hw1 hw2 (by omega) hpn hfit').mono ?_; rintro e w' ⟨rfl, rfl⟩)
                | (go_at_call 22; refine (kept_yes g c _ a3 n c3 f w3.drew g2 g3 g4 HG HR3 hn3 (by omega)).mono ?_; rintro e w6 ⟨rfl, hB6⟩; have E6 := keep_box hB6 hbs (by assumption)))
            go_wp2
            go_ret
            exact ⟨rfl, below_to hBw3.drew hB6⟩
end Go.Proofs.Ytmhcihccliakaaa
