/- rest; Made: plain. -/
import Derived.Test.YtlbgdgobhiokpaaDoorZi
namespace Go.Proofs.YtlbgdgobhiokpaaDoor
open Go.RowKit
set_option linter.unusedVariables false

set_option maxRecDepth 100000 in
set_option maxHeartbeats 4000000 in
theorem rest_any (n lo hi : Int) (w : World) (h0 : 0 ≤ lo) (h1 : lo ≤ hi) (h2 : hi ≤ 100000) (hn : -9223372036854775808 ≤ n ∧ n ≤ 9223372036854775807) :
    Calls Tryd.prog 18 #[.int .i64 n, .int .i64 lo, .int .i64 hi] w fun e w' => ∃ r, e = .returned (.int .i64 r) ∧ lo ≤ r ∧ r ≤ hi ∧ w = w' := by
  obtain ⟨m, hm⟩ : ∃ m, hi - lo + 1 = m := ⟨_, rfl⟩
  have hm1 : 1 ≤ m := by omega
  have hm2 : m ≤ 100001 := by omega
  have e1 : -m < n.tmod m ∧ n.tmod m < m := ⟨by have := Int.lt_tmod_of_pos n (show 0 < m by omega); omega, Int.tmod_lt_of_pos n (by omega)⟩
  obtain ⟨t, ht⟩ : ∃ t, n.tmod m = t := ⟨_, rfl⟩
  rw [ht] at e1
  have e2 : 0 ≤ (t + m).tmod m ∧ (t + m).tmod m < m := ⟨Int.tmod_nonneg _ (by omega), Int.tmod_lt_of_pos _ (by omega)⟩
  obtain ⟨u, hu⟩ : ∃ u, (t + m).tmod m = u := ⟨_, rfl⟩
  rw [hu] at e2
  have hm0 : ¬ m = 0 := by omega
  have hme : ¬ m = -1 := by omega
  go_enter Tryd.func18, Tryd.ntmps18
  go_wp2
  go_ret
  exact ⟨lo + u, rfl, by omega, by omega, rfl⟩
/-- So many values are still missing behind these nodes. -/
def Pre (L : List Nd) (m : Int) : Prop := ∀ R, chk 1 0 (L ++ R) = chk m L.length R
theorem Pre.nil : Pre [] 1 := fun R => by simp
theorem Pre.step {L : List Nd} {m : Int} (h : Pre L m) {x : Nd} (hm : 0 < m) (hx : right x = true) : Pre (L ++ [x]) (m - 1 + x.2.2) := fun R => by
  rw [List.append_assoc, h ([x] ++ R), List.singleton_append, chk, if_neg (by simp [hx]; omega), List.length_append]
  congr 1
  · omega
structure MadeOk (M : List Nd) : Prop where
  ok : (chk 1 0 M).1 = 0
  len : M.length ≤ 450
  pos : ∀ x ∈ M, 0 ≤ x.2.1
theorem Pre.done {L : List Nd} (h : Pre L 0) : (chk 1 0 L).1 = 0 := by
  have := h []
  rw [List.append_nil] at this
  rw [this]
  rfl
theorem push_nd' {B : Nat} {w : World} {v : Value} {N : List Nd} (h : w.ownsRow B 37 3 v N.length (cellsN N)) (x : Nd) (hN : N.length ≤ 2000000) (hB : B ≤ w.heap.size) :
    ∃ g cap w', (Builtin.append_ #[22, 22] 22 #[v, .slice (some ⟨w.heap.size, 0, none⟩) 1 1]).run Tryd.prog (w.alloc (.cells #[.int .i64 x.1, .int .u64 x.2.1, .int .i64 x.2.2] 37)) = .ok (.slice (some ⟨g, 0, none⟩) (N.length + 1) cap) w' ∧ w'.ownsRow B 37 3 (.slice (some ⟨g, 0, none⟩) (N.length + 1) cap) (N ++ [x]).length (cellsN (N ++ [x])) ∧ Below B w w' ∧ Upd (fun k => v.ownBlock = some k) w w' := by
  obtain ⟨g, cap, w', r1, o1, u1, l1⟩ := run_pushS (P := Tryd.prog) (t := 22) (e := 37) (z := .agg #[.int .i64 0, .int .u64 0, .int .i64 0]) (bytes := 24) Tryd.underlying22 (by kernel_rfl) rfl (by decide) w 22 h (ndc x) rfl (by intro u hu; simp [ndc] at hu; rcases hu with rfl | rfl | rfl <;> rfl) (by unfold maxLen; omega) (by omega) hB
  exact ⟨g, cap, w', r1, by rw [List.length_append, cellsN_append, show cellsN [x] = ndc x by simp [cellsN]]; exact o1, u1.below B hB (fun k hk => (h.lt k hk).1), u1⟩
end Go.Proofs.YtlbgdgobhiokpaaDoor
