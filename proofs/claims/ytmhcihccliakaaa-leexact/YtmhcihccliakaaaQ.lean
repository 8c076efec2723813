/- LeExact: the walk. -/
import Derived.Test.YtmhcihccliakaaaP
namespace Go.Proofs.Ytmhcihccliakaaa
open Go.RowKit
set_option linter.unusedVariables false

/-- What one call is made of. -/
structure OpF (w : World) (a : Option Addr) (n cap : Nat) (N : Nat) (a2 : Option Addr) (n2 cap2 : Nat) (f : Nat → Nat) (L : List Int) : Prop where
  nc : n ≤ cap
  cm : cap ≤ maxLen
  nc2 : n2 ≤ cap2
  cm2 : cap2 ≤ maxLen
  N64 : N < 18446744073709551616
  rowB : RowB w a n f
  nilB : a = none → cap = 0
  byte : ∀ i, i < n → f i < 256
  len : L.length = n2
  rowX : RowX w a2 L
  nilX : a2 = none → cap2 = 0
theorem OpF.later {w w' : World} {a : Option Addr} {n cap N : Nat} {a2 : Option Addr} {n2 cap2 : Nat} {f : Nat → Nat} {L : List Int} (h : OpF w a n cap N a2 n2 cap2 f L) (hB : Below w.heap.size w w') : OpF w' a n cap N a2 n2 cap2 f L :=
  ⟨h.nc, h.cm, h.nc2, h.cm2, h.N64, rowB_later2 h.rowB hB, h.nilB, h.byte, h.len, rowX_later h.rowX hB, h.nilX⟩

theorem plays_any (kind : Int) (a : Option Addr) (len cap : Nat) (pos wid : Int) (N : Nat) (a2 : Option Addr) (len2 cap2 : Nat) (f : Nat → Nat) (L : List Int) (w : World) (h : OpF w a len cap N a2 len2 cap2 f L) :
    Calls Try.prog 14 #[.agg #[.int .i64 kind, .slice a len cap, .int .i64 pos, .int .i64 wid, .int .u64 N, .slice a2 len2 cap2]] w fun e w' => e = .returned (.bool true) ∧ Below w.heap.size w w' := by
  by_cases k1 : kind = 1
  · exact plays_1 kind a len cap pos wid N a2 len2 cap2 w h.nc h.cm h.N64 k1
  by_cases k2 : kind = 2
  · exact plays_2 kind a len cap pos wid N a2 len2 cap2 w h.nc h.cm h.N64 k2 f h.rowB h.nilB h.byte
  by_cases k3 : kind = 3
  · exact plays_3 kind a len cap pos wid N a2 len2 cap2 w h.nc h.cm h.N64 k3 f h.rowB h.nilB h.byte
  by_cases k4 : kind = 4
  · exact plays_4 kind a len cap pos wid N a2 len2 cap2 w h.nc h.cm h.N64 k4 h.nc2 h.cm2 L h.len h.rowX h.nilX
  by_cases k5 : kind = 5
  · exact plays_5 kind a len cap pos wid N a2 len2 cap2 w h.nc h.cm h.N64 k5
  exact plays_0 kind a len cap pos wid N a2 len2 cap2 w h.nc h.cm h.N64 (by simp [k1]) (by simp [k2]) (by simp [k3]) (by simp [k4]) (by simp [k5])

def OpR (w : World) (b off i : Nat) : Prop := ∃ (kind : Int) (a : Option Addr) (n cap : Nat) (pos wid : Int) (N : Nat) (a2 : Option Addr) (n2 cap2 : Nat) (f : Nat → Nat) (L : List Int),
  (w.cell? ⟨b, off + i * 6, none⟩ = some (.int .i64 kind) ∧ w.cell? ⟨b, off + i * 6 + 1, none⟩ = some (.slice a n cap) ∧ w.cell? ⟨b, off + i * 6 + 2, none⟩ = some (.int .i64 pos) ∧ w.cell? ⟨b, off + i * 6 + 3, none⟩ = some (.int .i64 wid) ∧
    w.cell? ⟨b, off + i * 6 + 4, none⟩ = some (.int .u64 N) ∧ w.cell? ⟨b, off + i * 6 + 5, none⟩ = some (.slice a2 n2 cap2)) ∧ OpF w a n cap N a2 n2 cap2 f L

set_option maxRecDepth 100000 in
set_option maxHeartbeats 1000000 in
theorem exact_some (b off len cap : Nat) (w : World) (hb : b < w.heap.size) (hl : len ≤ maxLen) (hops : Hid (∀ i, i < len → OpR w b off i)) :
    Calls Try.prog 5 #[.slice (some ⟨b, off, none⟩) len cap] w fun e w' => e = .returned (.bool true) ∧ Below w.heap.size w w' := by
  unfold maxLen at hl
  go_enter Try.func5, Try.ntmps5
  go_wp2_with fail
  refine (awake_any w).mono ?_; rintro e w1 ⟨rfl, hB1⟩
  go_wp2_with fail
  go_loopw [3] (fun i wr => ∃ k : Nat, k ≤ len ∧ k ≤ 200 ∧ i = .int .i64 k ∧ Below w.heap.size w wr) (fun i _ => len - (intOf i).toNat)
  case atStart => exact ⟨0, Nat.zero_le _, Nat.zero_le _, rfl, hB1⟩
  case round =>
    obtain ⟨k, hk, hk2, rfl, hBr⟩ := hrel
    by_cases hlt : k < len
    · by_cases hlt2 : k < 200
      · obtain ⟨kind, a, n, cp, pos, wid, N, a2, n2, cp2, f, L, ⟨c0, c1, c2, c3, c4, c5⟩, hF⟩ := hops.out k hlt
        have hlt' : (k : Int) < len := by omega
        have hlt2' : (k : Int) < 200 := by omega
        have later : ∀ {o : Nat} {v : Value}, w.cell? ⟨b, o, none⟩ = some v → wr.cell? ⟨b, o, none⟩ = some v := fun h => (hBr.cell (p := ⟨b, _, none⟩) hb).trans h
        have d0 := later c0; have d1 := later c1; have d2 := later c2; have d3 := later c3; have d4 := later c4; have d5 := later c5
        have HF : Hid (OpF wr a n cp N a2 n2 cp2 f L) := hF.later hBr
        clear later c0 c1 c2 c3 c4 c5 hF
        go_wp2_with fail
        refine (plays_any kind a n cp pos wid N a2 n2 cp2 f L _ HF.out).mono ?_; rintro e w5 ⟨rfl, hB5⟩
        have hBf : Below w.heap.size w w5 := below_to hBr hB5
        clear HF d0 d1 d2 d3 d4 d5 hB5
        go_wp2
        go_roundw
        case rel => exact ⟨k + 1, by omega, by omega, by go_num, hBf⟩
        case measure => simp [intOf]; omega
      · have hlt' : (k : Int) < len := by omega
        have hlt2' : ¬ (k : Int) < 200 := by omega
        go_wp2
        go_ret
        exact ⟨rfl, hBr⟩
    · have hlt' : ¬ (k : Int) < len := by omega
      go_wp2
      go_ret
      exact ⟨rfl, hBr⟩
set_option maxHeartbeats 1000000 in
theorem exact_none (a : Option Addr) (cap : Nat) (w : World) :
    Calls Try.prog 5 #[.slice a 0 cap] w fun e w' => e = .returned (.bool true) ∧ Below w.heap.size w w' := by
  go_enter Try.func5, Try.ntmps5
  go_wp2_with fail
  refine (awake_any w).mono ?_; rintro e w1 ⟨rfl, hB1⟩
  go_wp2_with fail
  go_loop [3] (fun i => i = .int .i64 0) (fun i => 1 - (intOf i).toNat)
  case atStart => exact rfl
  case round =>
    obtain rfl := hrel
    go_wp2
    go_ret
    exact ⟨rfl, hB1⟩
end Go.Proofs.Ytmhcihccliakaaa
