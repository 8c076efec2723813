/- plays: sums, and Get. -/
import Derived.Test.YtmhcihccliakaaaM
namespace Go.Proofs.Ytmhcihccliakaaa
open Go.RowKit
set_option linter.unusedVariables false

theorem rowX_take {w : World} {a : Option Addr} {l : List Int} (h : RowX w a l) (m : Nat) : RowX w a (l.take m) := by
  rcases h with ⟨rfl, rfl⟩ | ⟨x, rfl, hc⟩
  · exact .inl ⟨rfl, by simp⟩
  · refine .inr ⟨x, rfl, fun i hi => ?_⟩
    have h1 : i < l.length ∧ i < m := by simp at hi; omega
    rw [hc i h1.1]
    simp [List.getD, h1.2]
set_option maxRecDepth 100000 in
set_option maxHeartbeats 4000000 in
theorem plays_4 (kind : Int) (a : Option Addr) (len cap : Nat) (pos wid : Int) (N : Nat) (a2 : Option Addr) (len2 cap2 : Nat) (w : World)
    (hlc : len ≤ cap) (hcm : cap ≤ maxLen) (hN : N < 18446744073709551616) (hkind : kind = 4) (hlc2 : len2 ≤ cap2) (hcm2 : cap2 ≤ maxLen) (L : List Int) (hL : Hid (L.length = len2)) (hrow2 : Hid (RowX w a2 L)) (hnil2 : Hid (a2 = none → cap2 = 0)) :
    Calls Try.prog 14 #[.agg #[.int .i64 kind, .slice a len cap, .int .i64 pos, .int .i64 wid, .int .u64 N, .slice a2 len2 cap2]] w fun e w' => e = .returned (.bool true) ∧ Below w.heap.size w w' := by
  subst hkind
  unfold maxLen at hcm2
  unfold maxLen at hcm
  go_enter Try.func14, Try.ntmps14
  go_upto_if 14 with fail
  go_cut [13] (fun s wc => ∃ n, n ≤ 2000 ∧ n ≤ len ∧ wc = w.alloc (box 4 a n cap pos wid N a2 len2 cap2))
  case first =>
    by_cases h : 2000 < (len : Int)
    · have h2 : (2000 : Int) ≤ cap := by omega
      go_wp2
      go_meet
      case rel => exact ⟨2000, by omega, by omega, by unfold box; simp⟩
    · go_wp2
      go_meet
      case rel => exact ⟨len, by omega, by omega, rfl⟩
  case rest =>
    obtain ⟨n, hn1, hn2, rfl⟩ := hcut
    unfold box
    go_upto_if 110 with fail
    go_cut [109] (fun s wc => ∃ m, m ≤ 2000 ∧ m ≤ len2 ∧ wc = w.alloc (box 4 a n cap pos wid N a2 m cap2))
    case first =>
      by_cases h : 2000 < (len2 : Int)
      · have h2 : (2000 : Int) ≤ cap2 := by omega
        go_wp2
        go_meet
        case rel => exact ⟨2000, by omega, by omega, by unfold box; simp⟩
      · go_wp2
        go_meet
        case rel => exact ⟨len2, by omega, by omega, rfl⟩
    case rest =>
      obtain ⟨m, hm1, hm2, rfl⟩ := hcut
      obtain ⟨wB, hwB⟩ : ∃ wB, wB = w.alloc (box 4 a n cap pos wid N a2 m cap2) := ⟨_, rfl⟩
      have hBB : Below w.heap.size w wB := by rw [hwB]; exact (Below.refl _ _).alloc (Nat.le_refl _) _
      have hc5 : wB.cell? ⟨w.heap.size, 5, none⟩ = some (.slice a2 m cap2) := by rw [hwB]; unfold box; simp [go_sem]
      rw [← hwB]
      clear hwB
      have HR : Hid (RowX wB a2 (L.take m)) := rowX_later (rowX_take hrow2.out m) hBB
      have HT : Hid ((L.take m).length = m) := by show (L.take m).length = m; have := hL.out; simp; omega
      go_wp2_with fail
      by_cases h0 : m = 0
      · subst h0
        refine (sums_none a2 cap2 _ (by rw [List.take_zero] at HR; exact HR) hnil2).mono ?_; rintro e w5 ⟨rfl, hB5⟩
        go_wp2
        go_ret
        exact ⟨rfl, below_to hBB hB5⟩
      · refine (sums_some a2 m cap2 (L.take m) _ HT HR hnil2 (by omega) (by omega)).mono ?_; rintro e w5 ⟨rfl, hB5⟩
        go_wp2
        go_ret
        exact ⟨rfl, below_to hBB hB5⟩
end Go.Proofs.Ytmhcihccliakaaa
