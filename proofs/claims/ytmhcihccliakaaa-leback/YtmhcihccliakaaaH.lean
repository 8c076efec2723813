/- LeBack: the walk. -/
import Derived.Test.YtmhcihccliakaaaG
import Derived.Deep.DeepCutAuto
import Derived.Deep.LoopGhost
import Derived.Deep.DeepMust
import Derived.Deep.RegionHeld3
namespace Go.Proofs.Ytmhcihccliakaaa
open Go.RowKit
set_option linter.unusedVariables false

/-- Bytes that lie in memory, at least so many. -/
def BackB (w : World) (wd : Nat) (s : Value) (wc : World) : Prop := ∃ (b off n2 cap2 : Nat) (f2 : Nat → Nat), s = .slice (some ⟨b, off, none⟩) n2 cap2 ∧ wd ≤ n2 ∧ n2 ≤ 2008 ∧ n2 ≤ cap2 ∧ cap2 ≤ maxLen ∧ b < wc.heap.size ∧ Below w.heap.size w wc ∧ (∀ i, i < n2 → wc.cell? ⟨b, off + i, none⟩ = some (.int .u8 ((f2 i : Nat) : Int))) ∧ (∀ i, i < n2 → f2 i < 256)
theorem hide_ {p : Prop} (h : p) : Hid p := h
theorem rowB_later {w w' : World} {a : Option Addr} {len n : Nat} {f : Nat → Nat} (h : RowB w a len f) (hn : n ≤ len) (hB : Below w.heap.size w w') : RowB w' a n f := by
  rcases h with ⟨rfl, rfl⟩ | ⟨x, rfl, hc⟩
  · exact .inl ⟨rfl, by omega⟩
  · refine .inr ⟨x, rfl, fun i hi => ?_⟩
    have h1 := hc i (by omega)
    exact (hB.cell (World.block_lt_of_cell? w _ h1)).trans h1
theorem rowB_some {w : World} {b off n : Nat} {f : Nat → Nat} (h : ∀ i, i < n → w.cell? ⟨b, off + i, none⟩ = some (.int .u8 ((f i : Nat) : Int))) : RowB w (some ⟨b, off, none⟩) n f := by
  refine .inr ⟨_, rfl, fun i hi => ?_⟩
  have hadd : (⟨b, off, none⟩ : Addr).add i = ⟨b, off + i, none⟩ := by unfold Addr.add; split <;> simp_all
  rw [hadd]
  exact h i hi
theorem unfit_width {N wd : Nat} (hN : N < 18446744073709551616) (h : fitB N wd = false) : wd < 8 := by
  rcases Nat.lt_or_ge wd 8 with h1 | h1
  · exact h1
  · have h2 : N < 2 ^ (8 * wd) := Nat.lt_of_lt_of_le (show N < 2 ^ 64 from hN) (Nat.pow_le_pow_right (by omega) (by omega))
    rw [(fitB_iff N wd).2 h2] at h
    cases h
theorem unfit_high {N wd : Nat} (hN : N < 18446744073709551616) (h : fitB N wd = false) : 0 < (N : Int) / 2 ^ (8 * wd) := by
  have h2 : ¬ N < 2 ^ (8 * wd) := fun h2 => by rw [(fitB_iff N wd).2 h2] at h; cases h
  have e : (2 : Int) ^ (8 * wd) = ((2 ^ (8 * wd) : Nat) : Int) := by rw [Int.natCast_pow]; rfl
  have h3 : 0 < N / 2 ^ (8 * wd) := Nat.div_pos (by omega) (Nat.pow_pos (by omega))
  rw [e, ← Int.natCast_ediv]
  omega
theorem conv_all (w : World) (b off len cap : Nat) (f : Nat → Nat) (hc : ∀ i, i < len → w.cell? ⟨b, off + i, none⟩ = some (.int .u8 ((f i : Nat) : Int))) :
    (convert 22 9 (.slice (some ⟨b, off, none⟩) len cap)).run Try.prog w = .ok (.string (strSeg f 0 len)) w :=
  conv_seg w b off 0 len cap f (fun i hi => by rw [Nat.zero_add i]; exact hc i hi)
theorem conv_in {w w' : World} {b off n2 k cap : Nat} {f : Nat → Nat} (hk : k ≤ n2) (hb : b < w.heap.size) (hc : ∀ i, i < n2 → w.cell? ⟨b, off + i, none⟩ = some (.int .u8 ((f i : Nat) : Int))) (hB : Below w.heap.size w w') :
    (convert 22 9 (.slice (some ⟨b, off, none⟩) k cap)).run Try.prog w' = .ok (.string (strSeg f 0 k)) w' :=
  conv_all w' b off k cap f (fun i hi => (hB.cell (p := ⟨b, off + i, none⟩) hb).trans (hc i (by omega)))
theorem conv_put1 {w w' : World} {g n2 p wd N cap : Nat} {f : Nat → Nat} (hk : p ≤ n2) (hb : g < w.heap.size) (hc : ∀ i, i < n2 → w.cell? ⟨g, 0 + i, none⟩ = some (.int .u8 ((putF f p wd N i : Nat) : Int))) (hB : Below w.heap.size w w') :
    (convert 22 9 (.slice (some ⟨g, 0, none⟩) p cap)).run Try.prog w' = .ok (.string (strSeg f 0 p)) w' := by
  rw [conv_in hk hb hc hB, strSeg_congr (putF f p wd N) f 0 p (fun i hi => putF_out f p wd N _ (by omega))]
theorem conv_tail {w w' : World} {b off n2 k cap : Nat} {f : Nat → Nat} (hk : k ≤ n2) (hb : b < w.heap.size) (hc : ∀ i, i < n2 → w.cell? ⟨b, off + i, none⟩ = some (.int .u8 ((f i : Nat) : Int))) (hB : Below w.heap.size w w') :
    (convert 22 9 (.slice (some ⟨b, off + k, none⟩) (n2 - k) cap)).run Try.prog w' = .ok (.string (strSeg f k (n2 - k))) w' :=
  conv_seg w' b (off + k) k (n2 - k) cap f (fun i hi => by rw [hB.cell (p := ⟨b, off + k + i, none⟩) hb, Nat.add_assoc]; exact hc (k + i) (by omega))
theorem conv_put2 {w w' : World} {g n2 p wd N cap : Nat} {f : Nat → Nat} (hk : p + wd ≤ n2) (hb : g < w.heap.size) (hc : ∀ i, i < n2 → w.cell? ⟨g, 0 + i, none⟩ = some (.int .u8 ((putF f p wd N i : Nat) : Int))) (hB : Below w.heap.size w w') :
    (convert 22 9 (.slice (some ⟨g, p + wd, none⟩) (n2 - (p + wd)) cap)).run Try.prog w' = .ok (.string (strSeg f (p + wd) (n2 - (p + wd)))) w' := by
  have h := conv_tail (cap := cap) hk hb hc hB
  rw [Nat.zero_add] at h
  rw [h, strSeg_congr (putF f p wd N) f (p + wd) _ (fun i hi => putF_out f p wd N _ (by omega))]
theorem conv_none (w : World) (x : Addr) (cap : Nat) : (convert 22 9 (.slice (some ⟨x.block, x.off, none⟩) 0 cap)).run Try.prog w = .ok (.string (strOfNums [])) w :=
  run_convert_bytes_arg (P := Try.prog) w 22 5 Try.underlying22 Try.underlying5 x.block x.off 0 cap [] rfl (fun i hi => by omega) 9 Try.underlying9
theorem ret_bool {a : Bool} (h : a = true) : Ending.returned (.bool a) = .returned (.bool true) := by rw [h]
theorem halves {N wd low p Y Z : Nat} {f : Nat → Nat} (hN : N < 18446744073709551616) (hNf : N < 2 ^ (8 * wd)) (hl : low ≤ wd) (hY : getv (putF f p wd N) p low = Y) (hZ : getv (putF f p wd N) (p + low) (wd - low) = Z) :
    IntKind.u64.wrap ((Y : Int) + IntKind.u64.wrap ((Z : Int) * 2 ^ (8 * low))) = (N : Int) := by
  have h1 := getv_put f p wd N 0 low (by omega)
  rw [Nat.add_zero, Nat.mul_zero, Nat.pow_zero, Nat.div_one] at h1
  have h2 := getv_put f p wd N low (wd - low) (by omega)
  have h3 : N / 2 ^ (8 * low) < 2 ^ (8 * (wd - low)) := by
    rw [Nat.div_lt_iff_lt_mul (Nat.pow_pos (by omega)), ← Nat.pow_add, show 8 * (wd - low) + 8 * low = 8 * wd from by omega]
    exact hNf
  rw [Nat.mod_eq_of_lt h3] at h2
  rw [hY] at h1
  rw [hZ] at h2
  have h4 : 2 ^ (8 * low) * Z + Y = N := by rw [h1, h2]; exact Nat.div_add_mod N (2 ^ (8 * low))
  have e : (Z : Int) * 2 ^ (8 * low) = ((2 ^ (8 * low) * Z : Nat) : Int) := by
    rw [Int.natCast_mul, Int.natCast_pow, Int.mul_comm]; rfl
  rw [e]
  generalize 2 ^ (8 * low) * Z = t at *
  rw [IntKind.wrap_u64, IntKind.wrap_u64]
  omega
theorem back_keep {w wc : World} {a0 : Option Addr} {len cap n wd : Nat} {f : Nat → Nat} (hrow : RowB w a0 len f) (hlc : len ≤ cap) (hcm : cap ≤ maxLen) (hf : ∀ i, i < len → f i < 256) (hn : n ≤ len) (hn2 : n ≤ 2000) (hw : wd ≤ n) (hw1 : 1 ≤ wd) (hB : Below w.heap.size w wc) :
    BackB w wd (.slice a0 n cap) wc := by
  rcases hrow with ⟨rfl, rfl⟩ | ⟨x, rfl, hc⟩
  · omega
  · obtain ⟨b, off, spot⟩ := x
    have hc0 := hc 0 (by omega)
    have hspot : spot = none := by simpa [Addr.add] using World.cell?_spot hc0
    subst hspot
    have hb : b < w.heap.size := World.block_lt_of_cell? w _ hc0
    have hadd : ∀ i, (⟨b, off, none⟩ : Addr).add i = ⟨b, off + i, none⟩ := by intro i; unfold Addr.add; split <;> simp_all
    refine ⟨b, off, n, cap, f, rfl, hw, by omega, by omega, hcm, by have := hB.size; omega, hB, fun i hi => ?_, fun i hi => hf i (by omega)⟩
    rw [hB.cell (p := ⟨b, off + i, none⟩) hb, ← hadd i]
    exact hc i (by omega)
theorem back_pad {w wc : World} {n wd : Nat} {f : Nat → Nat} {v : Value} (h : wc.ownsRow w.heap.size 5 1 v (n + 8) (cellsF f n ++ zs8)) (hf : ∀ i, i < n → f i < 256) (hn : n ≤ 2000) (hw : wd ≤ 8) (hB : Below w.heap.size w wc) : BackB w wd v wc := by
  obtain ⟨g, c, rfl, h1, h2, h3, h4, h5, _⟩ := own_cells h (by omega)
  refine ⟨g, 0, n + 8, c, padF f n, rfl, by omega, by omega, h3, h4, h2, hB, fun i hi => h5 i _ (padF_at f n i hi), fun i hi => ?_⟩
  unfold padF
  split
  · exact hf i ‹_›
  · omega

set_option maxRecDepth 100000 in
set_option maxHeartbeats 8000000 in
theorem back_walk (a0 : Option Addr) (len cap : Nat) (f : Nat → Nat) (pos wid ct : Int) (N : Nat) (w : World) (hN : N < 18446744073709551616)
    (hrow : Hid (RowB w a0 len f)) (hnil : Hid (a0 = none → cap = 0)) (hlc : len ≤ cap) (hcm : cap ≤ maxLen) (hf : Hid (∀ i, i < len → f i < 256)) :
    Calls Try.prog 3 #[.slice a0 len cap, .int .i64 pos, .int .i64 wid, .int .u64 N, .int .i64 ct] w fun e w' => e = .returned (.bool true) ∧ Below w.heap.size w w' := by
  have hcm2 := hcm
  unfold maxLen at hcm
  go_enter Try.func3, Try.ntmps3
  go_wp2_with fail
  refine (awake_any w).mono ?_; rintro e w1 ⟨rfl, hB1⟩
  go_upto_if 24 with fail
  go_cut [0] (fun s wc => ∃ n, n ≤ 2000 ∧ n ≤ len ∧ s = .slice a0 n cap ∧ w1 = wc)
  case first =>
    by_cases h : 2000 < (len : Int)
    · have h2 : (2000 : Int) ≤ cap := by omega
      go_wp2
      go_meet
      case rel => exact ⟨2000, by omega, by omega, by simp, rfl⟩
    · go_wp2
      go_meet
      case rel => exact ⟨len, by omega, by omega, rfl, rfl⟩
  case rest =>
    obtain ⟨n, hn1, hn2, rfl, rfl⟩ := hcut
    go_wp2_with fail
    refine (rest_any _ _ _ _ (by omega) (by omega) (by omega)).mono ?_; rintro e w' ⟨⟨r, hr0, hr1, rfl⟩, rfl⟩
    obtain ⟨wd, rfl⟩ := Int.eq_ofNat_of_zero_le (show 0 ≤ r by omega)
    go_upto_if 32 with fail
    go_cut [0] (fun s wc => BackB w wd s wc)
    case first =>
      by_cases h : (n : Int) < wd
      · obtain ⟨v1, w2, hr1, ho1, hg1⟩ := run_copy w1 22 w.heap.size a0 n cap f (rowB_later hrow.out hn2 hB1) hnil.out (by omega) hB1.size
        have hB2 : Below w.heap.size w w2 := hB1.grown hg1 hB1.size (fun k hk => by cases hk)
        obtain ⟨v2, w3, hr2, ho2, hg2⟩ := run_zeros w2 22 w.heap.size v1 n (cellsF f n) ho1 (by omega) hB2.size
        have hB3 : Below w.heap.size w w3 := hB2.grown hg2 hB2.size (fun k hk => (ho1.lt k hk).1)
        have R : BackB w wd v2 w3 := back_pad ho2 (fun i hi => hf.out i (by omega)) (by omega) (by omega) hB3
        clear ho1 hg1 ho2 hg2 hB2 hB3
        have hr1' := hide_ hr1
        have hr2' := hide_ hr2
        clear hr1 hr2
        go_wp2_with (first | (at_builtin; refine wpList_append_run rfl _ _ 22 22 rfl rfl rfl hr1'.out ?_) | (at_builtin; refine wpList_append_run rfl _ _ 22 3 rfl rfl rfl hr2'.out ?_))
        go_meet
        case rel => exact R
      · have R : BackB w wd (.slice a0 n cap) w1 := back_keep hrow.out hlc hcm2 hf.out hn2 hn1 (by omega) (by omega) hB1
        have R' := hide_ R
        clear R
        go_wp2
        go_meet
        case rel => exact R'.out
    case rest =>
      obtain ⟨b, off, n2, cap2, f2, rfl, k1, k2, k3, k4, k5, hBc, hc2, hf2⟩ := hcut
      have HC2 : Hid (∀ i, i < n2 → wc.cell? ⟨b, off + i, none⟩ = some (.int .u8 ((f2 i : Nat) : Int))) := hc2
      have HF2 : Hid (∀ i, i < n2 → f2 i < 256) := hf2
      clear hc2 hf2 hrow hnil hf
      unfold maxLen at k4
      go_wp2_with fail
      refine (rest_any _ _ _ _ (by omega) (by omega) (by omega)).mono ?_; rintro e w' ⟨⟨r, hp0, hp1, rfl⟩, rfl⟩
      obtain ⟨p, rfl⟩ := Int.eq_ofNat_of_zero_le hp0
      obtain ⟨v3, w3, hr3, ho3, hg3⟩ := run_copy wc 22 wc.heap.size (some ⟨b, off, none⟩) n2 cap2 f2 (rowB_some HC2.out) (fun h => by cases h) (by omega) (Nat.le_refl _)
      have hB3 : Below wc.heap.size wc w3 := (Below.refl _ _).grown hg3 (Nat.le_refl _) (fun k hk => by cases hk)
      obtain ⟨g, c3, rfl, hg1, hg2, hc31, hc32, hg4, hfz⟩ := own_cells ho3 (by omega)
      have HG : Hid (∀ i, i < n2 → w3.cell? ⟨g, 0 + i, none⟩ = some (.int .u8 ((f2 i : Nat) : Int))) := fun i hi => hg4 i _ (cellsF_at f2 n2 i hi)
      have HZ : Hid (∀ o, w3.frozen? ⟨g, o, none⟩ = false) := hfz
      have HB : Hid (∀ i, i < n2 → w3.cell? ⟨b, off + i, none⟩ = some (.int .u8 ((f2 i : Nat) : Int))) := fun i hi => (hB3.cell (p := ⟨b, off + i, none⟩) k5).trans (HC2.out i hi)
      have hr3' := hide_ hr3
      clear hr3 ho3 hg3 hg4 hfz HC2
      have hn2m : n2 ≤ maxLen := by unfold maxLen; omega
      unfold maxLen at hc32
      have hBw : Below w.heap.size w w3 := hBc.trans (hB3.mono hBc.size)
      have g1 : (1 : Int) ≤ wd := by omega
      have g2 : (wd : Int) ≤ 8 := by omega
      have g3 : (0 : Int) ≤ p := by omega
      have g4 : (p : Int) ≤ (n2 : Int) - wd := by omega
      by_cases hfit : fitB N wd = true
      · have hNf := (fitB_iff N wd).1 hfit
        go_wp2_with (first | (at_builtin; refine wpList_append_run rfl _ _ 22 22 rfl rfl rfl hr3'.out ?_) | fail)
        refine (put_ok g 0 n2 c3 p wd N _ (by omega) (by omega) hn2m (by omega) hfit (fun i hi => ⟨_, HG.out i hi⟩) (fun i hi => HZ.out _)).mono ?_; rintro e w4 ⟨rfl, hw4⟩
        have HG4 : Hid (∀ i, i < n2 → w4.cell? ⟨g, 0 + i, none⟩ = some (.int .u8 ((putF f2 p wd N i : Nat) : Int))) := by rw [hw4]; exact putW_cells w3 g 0 n2 p wd N f2 (by omega) HG.out
        have HB4 : Hid (∀ i, i < n2 → w4.cell? ⟨b, off + i, none⟩ = some (.int .u8 ((f2 i : Nat) : Int))) := by rw [hw4]; exact fun i hi => (putW_other w3 g (0 + p) N wd _ (.inl (by show b ≠ g; omega))).trans (HB.out i hi)
        have hb4 : b < w4.heap.size := by rw [hw4, putW_size]; have := hB3.size; omega
        have hg4 : g < w4.heap.size := by rw [hw4, putW_size]; exact hg2
        have hBw4 : Below w.heap.size w w4 := by rw [hw4]; exact hBw.trans (putW_below w3 g (0 + p) N wd _ (by have := hBc.size; omega))
        clear hw4 hr3' HG HB HZ hB3 hBw hBc
        have HF4 : Hid (∀ i, i < n2 → putF f2 p wd N i < 256) := putF_lt f2 p wd N n2 HF2.out
        go_wp2_with fail
        refine (fits_in _ _ _ g1 g2).mono ?_; rintro e w' ⟨rfl, rfl⟩
        rw [hfit]
        go_wp2_with fail
        refine (get_ok g 0 n2 c3 p wd (putF f2 p wd N) _ (by omega) (by omega) hn2m (by omega) HG4.out HF4.out).mono ?_; rintro e w' ⟨rfl, rfl⟩
        have eN : getv (putF f2 p wd N) p wd = N := by
          have h := getv_put f2 p wd N 0 wd (by omega)
          rw [Nat.add_zero, Nat.mul_zero, Nat.pow_zero, Nat.div_one, Nat.mod_eq_of_lt hNf] at h
          exact h
        rw [eN]
        have hcv1 : ∀ w', Below w4.heap.size w4 w' → (convert 22 9 (.slice (some ⟨g, 0, none⟩) p c3)).run Try.prog w' = .ok (.string (strSeg f2 0 p)) w' := fun w' hB => conv_put1 (by omega) hg4 HG4.out hB
        have hcv2 : ∀ w', Below w4.heap.size w4 w' → (convert 22 9 (.slice (some ⟨b, off, none⟩) p cap2)).run Try.prog w' = .ok (.string (strSeg f2 0 p)) w' := fun w' hB => conv_in (by omega) hb4 HB4.out hB
        go_upto_region 14 with fail
        go_cut [119] (fun s wc => s = .bool false ∧ Below w4.heap.size w4 wc)
        case first =>
          have hpc : (p : Int) ≤ c3 := by omega
          have hpc2 : (p : Int) ≤ cap2 := by omega
          obtain ⟨q, hq⟩ : ∃ q, q = p + wd := ⟨_, rfl⟩
          have hqi : (p : Int) + wd = (q : Int) := by omega
          have hqn : (q : Int) ≤ n2 := by omega
          have hq0 : (0 : Int) ≤ (q : Int) := by omega
          have hwq : IntKind.i64.wrap (q : Int) = (q : Int) := by rw [IntKind.wrap_i64]; omega
          have hB0 := Below.refl w4.heap.size w4
          have hcv3 : ∀ w', Below w4.heap.size w4 w' → (convert 22 9 (.slice (some ⟨g, q, none⟩) (n2 - q) (c3 - q))).run Try.prog w' = .ok (.string (strSeg f2 q (n2 - q))) w' := by rw [hq]; exact fun w' hB => conv_put2 (by omega) hg4 HG4.out hB
          have hcv4 : ∀ w', Below w4.heap.size w4 w' → (convert 22 9 (.slice (some ⟨b, off + q, none⟩) (n2 - q) (cap2 - q))).run Try.prog w' = .ok (.string (strSeg f2 q (n2 - q))) w' := by rw [hq]; exact fun w' hB => conv_tail (by omega) hb4 HB4.out hB
          clear hq
          by_cases e1 : c3 = q
          · obtain rfl : n2 = q := by omega
            subst e1
            have hz3 : ∀ w', (convert 22 9 (.slice (some ⟨g, 0, none⟩) 0 0)).run Try.prog w' = .ok (.string (strOfNums [])) w' := fun w' => conv_none w' ⟨g, 0, none⟩ 0
            have hz4 : ∀ w' cp, (convert 22 9 (.slice (some ⟨b, off, none⟩) 0 cp)).run Try.prog w' = .ok (.string (strOfNums [])) w' := fun w' cp => conv_none w' ⟨b, off, none⟩ cp
            have hz5 : ∀ w' cp, (convert 22 9 (.slice (some ⟨b, off + c3, none⟩) 0 cp)).run Try.prog w' = .ok (.string (strOfNums [])) w' := fun w' cp => conv_none w' ⟨b, off + c3, none⟩ cp
            clear hcv3 hcv4
            by_cases e2 : cap2 = c3
            · subst e2
              go_region_held3 (fun w' => Below w4.heap.size w4 w') (first | assumption | exact hB0.drew)
                (first
                  | (go_at_call 10; refine (num_any _ _).mono ?_; rintro e w' ⟨rfl, rfl⟩))
              go_wp2_with fail
              go_meet
              case rel => exact ⟨rfl, by assumption⟩
            · go_region_held3 (fun w' => Below w4.heap.size w4 w') (first | assumption | exact hB0.drew)
                (first
                  | (go_at_call 10; refine (num_any _ _).mono ?_; rintro e w' ⟨rfl, rfl⟩))
              go_wp2_with fail
              go_meet
              case rel => exact ⟨rfl, by assumption⟩
          · by_cases e2 : cap2 = q
            · obtain rfl : n2 = q := by omega
              subst e2
              have hz3 : ∀ w' cp, (convert 22 9 (.slice (some ⟨g, cap2, none⟩) 0 cp)).run Try.prog w' = .ok (.string (strOfNums [])) w' := fun w' cp => conv_none w' ⟨g, cap2, none⟩ cp
              have hz4 : ∀ w', (convert 22 9 (.slice (some ⟨b, off, none⟩) 0 0)).run Try.prog w' = .ok (.string (strOfNums [])) w' := fun w' => conv_none w' ⟨b, off, none⟩ 0
              clear hcv3 hcv4
              go_region_held3 (fun w' => Below w4.heap.size w4 w') (first | assumption | exact hB0.drew)
                (first
                  | (go_at_call 10; refine (num_any _ _).mono ?_; rintro e w' ⟨rfl, rfl⟩))
              go_wp2_with fail
              go_meet
              case rel => exact ⟨rfl, by assumption⟩
            · go_region_held3 (fun w' => Below w4.heap.size w4 w') (first | assumption | exact hB0.drew)
                (first
                  | (go_at_call 10; refine (num_any _ _).mono ?_; rintro e w' ⟨rfl, rfl⟩))
              go_wp2_with fail
              go_meet
              case rel => exact ⟨rfl, by assumption⟩
        case rest =>
          obtain ⟨rfl, hB5⟩ := hcut
          have HG5 : Hid (∀ i, i < n2 → wc.cell? ⟨g, 0 + i, none⟩ = some (.int .u8 ((putF f2 p wd N i : Nat) : Int))) := fun i hi => (hB5.cell (p := ⟨g, 0 + i, none⟩) hg4).trans (HG4.out i hi)
          have hBf : Below w.heap.size w wc := hBw4.trans (hB5.mono hBw4.size)
          clear HG4 HB4 hB5 hcv1 hcv2 hBw4
          by_cases hw1 : wd = 1
          · have hb1 : ((wd : Int) == 1) = true := by simp; omega
            have hce : wc.cell? ⟨g, p, none⟩ = some (.int .u8 ((bytN N 0 : Nat) : Int)) := by
              have h := HG5.out p (by omega)
              rw [Nat.zero_add] at h
              rw [h]
              unfold putF
              rw [if_pos (by omega), Nat.sub_self]
            have hpi : (p : Int) < n2 := by omega
            clear hw1
            have HE : Hid (((bytN N 0 : Nat) : Int) = (N : Int) % 256) := by show _ = _; unfold bytN; rw [Nat.mul_zero, Nat.pow_zero, Nat.div_one]; omega
            go_wp2
            go_ret
            exact ⟨ret_bool (by rw [HE.out]; simp), hBf⟩
          · have hb1 : ((wd : Int) == 1) = false := by simp; omega
            go_wp2_with fail
            refine (rest_any _ _ _ _ (by omega) (by omega) (by omega)).mono ?_; rintro e w' ⟨⟨r, hlo0, hlo1, rfl⟩, rfl⟩
            obtain ⟨low, rfl⟩ := Int.eq_ofNat_of_zero_le (show 0 ≤ r by omega)
            clear hb1
            go_wp2_with fail
            refine (get_ok g 0 n2 c3 p low (putF f2 p wd N) _ (by omega) (by omega) hn2m (by omega) HG5.out HF4.out).mono ?_; rintro e w' ⟨rfl, rfl⟩
            go_wp2_with fail
            rw [show (p : Int) + low = ((p + low : Nat) : Int) from by omega, show (wd : Int) - low = ((wd - low : Nat) : Int) from by omega]
            refine (get_ok g 0 n2 c3 (p + low) (wd - low) (putF f2 p wd N) _ (by omega) (by omega) hn2m (by omega) HG5.out HF4.out).mono ?_; rintro e w' ⟨rfl, rfl⟩
            go_wp2_with fail
            refine (num_any _ _).mono ?_; rintro e w' ⟨rfl, rfl⟩
            go_wp2_with fail
            refine (num_any _ _).mono ?_; rintro e w' ⟨rfl, rfl⟩
            obtain ⟨Y, HY⟩ : ∃ Y, Hid (getv (putF f2 p wd N) p low = Y) := ⟨_, rfl⟩
            obtain ⟨Z, HZ⟩ : ∃ Z, Hid (getv (putF f2 p wd N) (p + low) (wd - low) = Z) := ⟨_, rfl⟩
            rw [HY.out, HZ.out]
            go_wp2
            go_ret
            exact ⟨ret_bool (by rw [halves hN hNf (show low ≤ wd by omega) HY.out HZ.out]; simp), hBf⟩
      · have hfit' : fitB N wd = false := by simpa using hfit
        clear hfit
        have hw8 := unfit_width hN hfit'
        have hwi : (wd : Int) < 8 := by omega
        have hqq := unfit_high hN hfit'
        have hcv1 := conv_all w3 g 0 n2 c3 f2 HG.out
        have hcv2 := conv_all w3 b off n2 cap2 f2 HB.out
        go_wp2_with (first | (at_builtin; refine wpList_append_run rfl _ _ 22 22 rfl rfl rfl hr3'.out ?_) | fail)
        refine (put_unfit _ _ _ _ _ _ _ g1 g2 hn2m g3 g4 hfit').mono ?_; rintro e w' ⟨rfl, rfl⟩
        go_wp2_with fail
        refine (fits_in _ _ _ g1 g2).mono ?_; rintro e w' ⟨rfl, rfl⟩
        rw [hfit']
        go_wp2_with fail
        refine (num_any _ _).mono ?_; rintro e w' ⟨rfl, rfl⟩
        go_wp2
        go_ret
        exact ⟨rfl, hBw⟩
end Go.Proofs.Ytmhcihccliakaaa
