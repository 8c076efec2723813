/- plays: Get. -/
import Derived.Test.YtmhcihccliakaaaN
namespace Go.Proofs.Ytmhcihccliakaaa
open Go.RowKit
set_option linter.unusedVariables false

theorem rowB_take {w : World} {a : Option Addr} {len n : Nat} {f : Nat → Nat} (h : RowB w a len f) (hn : n ≤ len) : RowB w a n f := by
  rcases h with ⟨rfl, rfl⟩ | ⟨x, rfl, hc⟩
  · exact .inl ⟨rfl, by omega⟩
  · exact .inr ⟨x, rfl, fun i hi => hc i (by omega)⟩
theorem rowB_open {w : World} {a : Option Addr} {n : Nat} {f : Nat → Nat} (h : RowB w a n f) (hn : 0 < n) : ∃ b off, a = some ⟨b, off, none⟩ ∧ ∀ i, i < n → w.cell? ⟨b, off + i, none⟩ = some (.int .u8 ((f i : Nat) : Int)) := by
  rcases h with ⟨rfl, rfl⟩ | ⟨x, rfl, hc⟩
  · omega
  · obtain ⟨b, off, spot⟩ := x
    have hc0 := hc 0 hn
    have hspot : spot = none := by simpa [Addr.add] using World.cell?_spot hc0
    subst hspot
    have hadd : ∀ i, (⟨b, off, none⟩ : Addr).add i = ⟨b, off + i, none⟩ := by intro i; unfold Addr.add; split <;> simp_all
    exact ⟨b, off, rfl, fun i hi => (hadd i) ▸ hc i hi⟩
theorem getv_congr (f h : Nat → Nat) (p k : Nat) (e : ∀ i, i < p + k → f i = h i) : getv f p k = getv h p k := by
  induction k with
  | zero => rfl
  | succ k ih => rw [getv, getv, ih (fun i hi => e i (by omega)), e (p + k) (by omega)]
set_option maxRecDepth 100000 in
set_option maxHeartbeats 4000000 in
theorem plays_3 (kind : Int) (a : Option Addr) (len cap : Nat) (pos wid : Int) (N : Nat) (a2 : Option Addr) (len2 cap2 : Nat) (w : World)
    (hlc : len ≤ cap) (hcm : cap ≤ maxLen) (hN : N < 18446744073709551616) (hkind : kind = 3) (f : Nat → Nat) (hrow : Hid (RowB w a len f)) (hnil : Hid (a = none → cap = 0)) (hf : Hid (∀ i, i < len → f i < 256)) :
    Calls Try.prog 14 #[.agg #[.int .i64 kind, .slice a len cap, .int .i64 pos, .int .i64 wid, .int .u64 N, .slice a2 len2 cap2]] w fun e w' => e = .returned (.bool true) ∧ Below w.heap.size w w' := by
  subst hkind
  unfold maxLen at hcm
  go_enter Try.func14, Try.ntmps14
  go_upto_if 14 with fail
  go_cut [13] (fun s wc => ∃ n, n ≤ 2000 ∧ n ≤ len ∧ wc = w.alloc (box 3 a n cap pos wid N a2 len2 cap2))
  case first =>
    by_cases h : 2000 < (len : Int)
    · have h2 : (2000 : Int) ≤ cap := by omega
      go_wp2
      go_meet
      case rel => exact ⟨2000, by omega, by omega, by unfold box; simp⟩
    · go_wp2
      go_meet
      case rel => exact ⟨len, by omega, by omega, rfl⟩
  case rest =>
    obtain ⟨n, hn1, hn2, rfl⟩ := hcut
    obtain ⟨wB, hwB⟩ : ∃ wB, wB = w.alloc (box 3 a n cap pos wid N a2 len2 cap2) := ⟨_, rfl⟩
    have hBB : Below w.heap.size w wB := by rw [hwB]; exact (Below.refl _ _).alloc (Nat.le_refl _) _
    have hsB : w.heap.size < wB.heap.size := by rw [hwB]; simp
    have hc0 : wB.cell? ⟨w.heap.size, 0, none⟩ = some (.int .i64 3) := by rw [hwB]; unfold box; simp [go_sem]
    have hc1 : wB.cell? ⟨w.heap.size, 1, none⟩ = some (.slice a n cap) := by rw [hwB]; unfold box; simp [go_sem]
    have hc2 : wB.cell? ⟨w.heap.size, 2, none⟩ = some (.int .i64 pos) := by rw [hwB]; unfold box; simp [go_sem]
    have hc3 : wB.cell? ⟨w.heap.size, 3, none⟩ = some (.int .i64 wid) := by rw [hwB]; unfold box; simp [go_sem]
    have hc4 : wB.cell? ⟨w.heap.size, 4, none⟩ = some (.int .u64 N) := by rw [hwB]; unfold box; simp [go_sem]
    rw [← hwB]
    clear hwB
    have HR : Hid (RowB wB a n f) := rowB_take (rowB_later2 hrow.out hBB) hn2
    have hnm : n ≤ maxLen := by unfold maxLen; omega
    go_wp2_with fail
    refine (lent_any a n cap f _ HR hnil (by omega)).mono ?_; rintro e w2 ⟨g, c, rfl, g1, g2, g3, g4, g5, g6, hB2⟩
    have HG : Hid (∀ i, i < n + 3 → w2.cell? ⟨g, 0 + i, none⟩ = some (.int .u8 ((markF f n i : Nat) : Int))) := g5
    have HR2 : Hid (RowB w2 a n f) := rowB_later2 HR.out hB2
    have d1 : w2.cell? ⟨w.heap.size, 1, none⟩ = some (.slice a n cap) := (hB2.cell (p := ⟨w.heap.size, 1, none⟩) hsB).trans hc1
    have d2 : w2.cell? ⟨w.heap.size, 2, none⟩ = some (.int .i64 pos) := (hB2.cell (p := ⟨w.heap.size, 2, none⟩) hsB).trans hc2
    have d3 : w2.cell? ⟨w.heap.size, 3, none⟩ = some (.int .i64 wid) := (hB2.cell (p := ⟨w.heap.size, 3, none⟩) hsB).trans hc3
    have hBw2 : Below w.heap.size w w2 := hBB.trans (hB2.mono hBB.size)
    clear g5 g6 hc0 hc1 hc2 hc3 hc4 HR hB2
    by_cases hw : wid < 1 ∨ 8 < wid
    · go_wp2_with fail
      refine (get_w _ _ _ _ _ _ hw).mono ?_; rintro e w' ⟨rfl, rfl⟩
      go_wp2_with fail
      refine (rget_w _ _ _ _ _ _ hw).mono ?_; rintro e w' ⟨rfl, rfl⟩
      go_wp2_with fail
      refine (num_any _ _).mono ?_; rintro e w' ⟨rfl, rfl⟩
      go_wp2_with fail
      refine (kept_yes g c _ a n cap f _ g2 g3 g4 HG HR2 hnil (by omega)).mono ?_; rintro e w5 ⟨rfl, hB5⟩
      go_wp2
      go_ret
      exact ⟨rfl, below_to hBw2 hB5⟩
    · have w1 : 1 ≤ wid := by omega
      have w2' : wid ≤ 8 := by omega
      by_cases hp : pos < 0 ∨ (n : Int) - wid < pos
      · go_wp2_with fail
        refine (get_no _ _ _ _ _ _ w1 w2' hnm hp).mono ?_; rintro e w' ⟨rfl, rfl⟩
        go_wp2_with fail
        refine (rget_no _ _ _ _ _ _ w1 w2' (by omega) hp).mono ?_; rintro e w' ⟨rfl, rfl⟩
        go_wp2_with fail
        refine (num_any _ _).mono ?_; rintro e w' ⟨rfl, rfl⟩
        go_wp2_with fail
        refine (kept_yes g c _ a n cap f _ g2 g3 g4 HG HR2 hnil (by omega)).mono ?_; rintro e w5 ⟨rfl, hB5⟩
        go_wp2
        go_ret
        exact ⟨rfl, below_to hBw2 hB5⟩
      · obtain ⟨wd, rfl⟩ := Int.eq_ofNat_of_zero_le (show 0 ≤ wid by omega)
        obtain ⟨p, rfl⟩ := Int.eq_ofNat_of_zero_le (show 0 ≤ pos by omega)
        obtain ⟨b, off, rfl, hcb⟩ := rowB_open HR2.out (show 0 < n by omega)
        have HCB := hide_ hcb
        clear hcb
        have HF : Hid (∀ i, i < n → f i < 256) := fun i hi => hf.out i (by omega)
        have eV : getv (markF f n) p wd = getv f p wd := getv_congr _ _ p wd (fun i hi => by unfold markF; rw [if_pos (by omega)])
        obtain ⟨V, HV⟩ : ∃ V, Hid (getv f p wd = V) := ⟨_, rfl⟩
        have HV2 : Hid (getv (markF f n) p wd = V) := eV.trans HV.out
        have hpn : p + wd ≤ n := by omega
        clear eV hw hp
        go_wp2_with fail
        refine (get_ok g 0 n c p wd (markF f n) _ (by omega) (by omega) hnm (by omega) (fun i hi => HG.out i (by omega)) (fun i hi => by unfold markF; rw [if_pos hi]; exact HF.out i hi)).mono ?_; rintro e w' ⟨rfl, rfl⟩
        rw [HV2.out]
        go_wp2_with fail
        refine (rget_ok b off n cap p wd f _ (by omega) (by omega) (by omega) (by omega) HCB.out HF.out).mono ?_; rintro e w' ⟨rfl, rfl⟩
        rw [HV.out]
        go_wp2_with fail
        refine (num_any _ _).mono ?_; rintro e w' ⟨rfl, rfl⟩
        go_wp2_with fail
        refine (kept_yes g c _ _ n cap f _ g2 g3 g4 HG HR2 hnil (by omega)).mono ?_; rintro e w5 ⟨rfl, hB5⟩
        go_wp2
        go_ret
        exact ⟨rfl, below_to hBw2 hB5⟩
end Go.Proofs.Ytmhcihccliakaaa
