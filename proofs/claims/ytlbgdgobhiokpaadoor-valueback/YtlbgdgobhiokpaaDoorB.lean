/- boundsOf, right, Check, behind, checkPlace, Next, Kid. -/
import Derived.Test.YtlbgdgobhiokpaaDoorA
import Derived.Laws.ResultCell
import Derived.Laws.Rows
namespace Go.Proofs.YtlbgdgobhiokpaaDoor
open Go.RowKit
set_option linter.unusedVariables false

theorem results_cell_tmp_row {P : Program} {fn : Func} {p u : Tmp} {ty : TypeId} (h : fn.results = #[.cell p ty, .tmp u]) (tmps : Array Value) (w : World) (g : Nat) (t : TypeId) (cs : Array Value) (fr : Nat × Nat) (d : TypeDesc)
    (hp : tmps.getD p undef = .pointer (some ⟨g, 0, none⟩)) (hg : w.heap[g]? = some (.cells cs t fr))
    (hu : P.underlying ty = some d) (hd : (match d with | .struct _ | .array _ _ => true | _ => false) = true) (hi : (P.info? ty).map (·.size) = some cs.size) :
    (results fn tmps).run P w = .ok (.tuple #[.agg cs, tmps.getD u undef]) w := by
  have hp' : tmps[p]?.getD undef = .pointer (some ⟨g, 0, none⟩) := by simpa using hp
  rw [results_cell_tmp h]
  simp [hp', asAddr, Result.andThen, run_loadVar_row w g t ty cs fr d hg hu hd hi]
theorem results_tmp_cell_row {P : Program} {fn : Func} {p u : Tmp} {ty : TypeId} (h : fn.results = #[.tmp u, .cell p ty]) (tmps : Array Value) (w : World) (g : Nat) (t : TypeId) (cs : Array Value) (fr : Nat × Nat) (d : TypeDesc)
    (hp : tmps.getD p undef = .pointer (some ⟨g, 0, none⟩)) (hg : w.heap[g]? = some (.cells cs t fr))
    (hu : P.underlying ty = some d) (hd : (match d with | .struct _ | .array _ _ => true | _ => false) = true) (hi : (P.info? ty).map (·.size) = some cs.size) :
    (results fn tmps).run P w = .ok (.tuple #[tmps.getD u undef, .agg cs]) w := by
  have hp' : tmps[p]?.getD undef = .pointer (some ⟨g, 0, none⟩) := by simpa using hp
  simp only [results, h]
  simp [hp', asAddr, Result.andThen, run_loadVar_row w g t ty cs fr d hg hu hd hi]
theorem new_cells (w : World) (cs : Array Value) (t : TypeId) : (w.alloc (.cells cs t)).heap[w.heap.size]? = some (.cells cs t (0, 0)) := by
  have h := Blk.newA w cs t
  unfold Blk at h
  rwa [Array.toArray_toList] at h

def bnd (k : Int) : Value := .agg #[.int .u64 (mostN k), .int .i64 (leastK k), .int .i64 (mostK k)]
set_option maxRecDepth 100000 in
set_option maxHeartbeats 4000000 in
theorem bounds_any (k : Int) (w : World) : Calls Tryd.prog 44 #[.int .i64 k] w fun e w' => e = .returned (.tuple #[bnd k, .bool (isK k)]) ∧ Below w.heap.size w w' := by
  go_enter Tryd.func44, Tryd.ntmps44
  by_cases h1 : k = 1
  · subst h1; go_wp2; exact bodyPost_ret (results_cell_tmp_row rfl _ _ _ _ _ _ _ rfl (new_cells _ _ _) Tryd.underlying105 rfl (by kernel_rfl)) rfl ⟨rfl, (Below.refl _ _).alloc (Nat.le_refl _) _⟩
  by_cases h2 : k = 2
  · subst h2; go_wp2; exact bodyPost_ret (results_cell_tmp_row rfl _ _ _ _ _ _ _ rfl (new_cells _ _ _) Tryd.underlying105 rfl (by kernel_rfl)) rfl ⟨rfl, (Below.refl _ _).alloc (Nat.le_refl _) _⟩
  by_cases h3 : k = 3
  · subst h3; go_wp2; exact bodyPost_ret (results_cell_tmp_row rfl _ _ _ _ _ _ _ rfl (new_cells _ _ _) Tryd.underlying105 rfl (by kernel_rfl)) rfl ⟨rfl, (Below.refl _ _).alloc (Nat.le_refl _) _⟩
  by_cases h4 : k = 4
  · subst h4; go_wp2; exact bodyPost_ret (results_cell_tmp_row rfl _ _ _ _ _ _ _ rfl (new_cells _ _ _) Tryd.underlying105 rfl (by kernel_rfl)) rfl ⟨rfl, (Below.refl _ _).alloc (Nat.le_refl _) _⟩
  by_cases h5 : k = 5
  · subst h5; go_wp2; exact bodyPost_ret (results_cell_tmp_row rfl _ _ _ _ _ _ _ rfl (new_cells _ _ _) Tryd.underlying105 rfl (by kernel_rfl)) rfl ⟨rfl, (Below.refl _ _).alloc (Nat.le_refl _) _⟩
  by_cases h6 : k = 6
  · subst h6; go_wp2; exact bodyPost_ret (results_cell_tmp_row rfl _ _ _ _ _ _ _ rfl (new_cells _ _ _) Tryd.underlying105 rfl (by kernel_rfl)) rfl ⟨rfl, (Below.refl _ _).alloc (Nat.le_refl _) _⟩
  · have hk : isK k = false := by simp [isK]; omega
    have hb : bnd k = .agg #[.int .u64 0, .int .i64 0, .int .i64 0] := by simp [bnd, mostN, leastK, mostK, h1, h2, h3, h4, h5, h6]
    go_wp2
    exact bodyPost_ret (results_cell_tmp_row rfl _ _ _ _ _ _ _ rfl (new_cells _ _ _) Tryd.underlying105 rfl (by kernel_rfl)) rfl ⟨by rw [hb, hk]; rfl, (Below.refl _ _).alloc (Nat.le_refl _) _⟩
set_option maxRecDepth 100000 in
set_option maxHeartbeats 4000000 in
theorem right_any (x : Nd) (w : World) : Calls Tryd.prog 39 #[ndv x] w fun e w' => e = .returned (.bool (right x)) ∧ Below w.heap.size w w' := by
  obtain ⟨k, n, c⟩ := x
  unfold ndv
  go_enter Tryd.func39, Tryd.ntmps39
  go_wp2_with fail
  refine (bounds_any k _).mono ?_; rintro e w1 ⟨rfl, hB1⟩
  have hB : Below w.heap.size w w1 := ((Below.refl _ _).alloc (Nat.le_refl _) _).trans (hB1.mono (by simp))
  have K1 := (Blk.newA w #[.int .i64 k, .int .u64 n, .int .i64 c] 37).later hB1
  have c1 : ∀ o, (w1.alloc o).cell? ⟨w.heap.size, 1, none⟩ = some (.int .u64 n) := fun o => (K1.alloc o).cell 1
  have c2 : ∀ o, (w1.alloc o).cell? ⟨w.heap.size, 2, none⟩ = some (.int .i64 c) := fun o => (K1.alloc o).cell 2
  clear K1
  by_cases hk : isK k = true
  · have hk' : 1 ≤ k ∧ k ≤ 6 := by simpa [isK] using hk
    rw [hk]; unfold bnd
    by_cases hn : n ≤ mostN k
    · by_cases hl : leastK k ≤ c
      · by_cases hm : c ≤ mostK k
        · have hr : right (k, n, c) = true := (right_iff _).2 ⟨hk', hn, hl, hm⟩
          go_wp2
          go_ret
          exact ⟨by first | rfl | (rw [hr]; rfl) | (show Ending.returned (.bool (decide (c ≤ mostK k))) = _; simp [hm, hr]), hB.alloc (by have := hB.size; omega) _⟩
        · have hr : right (k, n, c) = false := by simp [right]; intros; omega
          go_wp2
          go_ret
          exact ⟨by first | rfl | (rw [hr]; rfl) | (show Ending.returned (.bool (decide (c ≤ mostK k))) = _; simp [hm, hr]), hB.alloc (by have := hB.size; omega) _⟩
      · have hr : right (k, n, c) = false := by simp [right]; intros; omega
        go_wp2
        go_ret
        exact ⟨by first | rfl | (rw [hr]; rfl) | (show Ending.returned (.bool (decide (c ≤ mostK k))) = _; simp [hm, hr]), hB.alloc (by have := hB.size; omega) _⟩
    · have hr : right (k, n, c) = false := by simp [right]; intros; omega
      go_wp2
      go_ret
      exact ⟨by first | rfl | (rw [hr]; rfl) | (show Ending.returned (.bool (decide (c ≤ mostK k))) = _; simp [hm, hr]), hB.alloc (by have := hB.size; omega) _⟩
  · have hk1 : isK k = false := by simpa using hk
    have hr : right (k, n, c) = false := by simp [isK] at hk1; simp [right]; intros; omega
    rw [hk1]
    unfold bnd
    go_wp2
    go_ret
    exact ⟨by first | rfl | (rw [hr]; rfl) | (show Ending.returned (.bool (decide (c ≤ mostK k))) = _; simp [hm, hr]), hB.alloc (by have := hB.size; omega) _⟩
end Go.Proofs.YtlbgdgobhiokpaaDoor
