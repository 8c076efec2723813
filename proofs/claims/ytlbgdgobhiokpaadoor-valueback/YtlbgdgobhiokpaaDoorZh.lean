/- awake: plain. -/
import Derived.Test.YtlbgdgobhiokpaaDoorZg
namespace Go.Proofs.YtlbgdgobhiokpaaDoor
open Go.RowKit
set_option linter.unusedVariables false

def V8 : List Nd := [(3, 0, 3), (4, 0, 2), (1, 1, 0), (5, 0, 0), (6, 5, 1), (2, 1, 0), (5, 0, 1), (1, 3, 0)]
def T8 : ByteArray := ⟨#[91, 123, 49, 44, 32, 110, 111, 110, 101, 125, 44, 32, 60, 53, 58, 116, 114, 117, 101, 62, 44, 32, 115, 111, 109, 101, 32, 51, 93]⟩
def T5 : ByteArray := ⟨#[91, 49, 44, 32, 93]⟩
theorem p8N : parseN (tx T8) = V8 := by kernel_rfl
theorem p8F : parseF (tx T8) = (0, 0) := by kernel_rfl
theorem p5F : parseF (tx T5) = (41, 4) := by kernel_rfl
theorem p5N : parseN (tx T5) = [] := by kernel_rfl
theorem v8c : chk 1 0 V8 = (0, 0) := by kernel_rfl
theorem v8p : printS V8 = T8 := by kernel_rfl
theorem v8n : nextR V8 1 = (4, 0) := by kernel_rfl
theorem v8k : kidR V8 0 2 = (6, 0) := by kernel_rfl
theorem v8w : pathR V8 3 = [0, 1] := by kernel_rfl
theorem v8q : place V8 3 = 0 := by kernel_rfl
theorem own_nrow {B : Nat} {w : World} {v : Value} {N : List Nd} (h : w.ownsRow B 37 3 v N.length (cellsN N)) : ∃ a c, v = .slice a N.length c ∧ NRow w a N ∧ N.length ≤ c ∧ c ≤ 9223372036854775807 ∧ (a = none → c = 0) := by
  rcases h.2 with ⟨rfl, h0⟩ | ⟨g, cap, cur, rfl, hb, hg, hn, hm, hs, ht⟩
  · exact ⟨none, 0, by rw [h0], .inl ⟨rfl, List.length_eq_zero_iff.1 h0⟩, by omega, by omega, fun _ => rfl⟩
  · have hK : Blk w g 37 cur.toList := by unfold Blk; rw [Array.toArray_toList]; exact hg
    have hat : ∀ i, i < N.length * 3 → cur.toList[i]? = (cellsN N)[i]? := fun i hi => by rw [← ht, List.getElem?_take, if_pos hi]
    unfold maxLen at hm
    refine ⟨_, _, rfl, .inr ⟨g, 0, rfl, hK.lt, fun i hi => ?_⟩, hn, hm, fun h => by cases h⟩
    obtain ⟨c0, c1, c2⟩ := cellsN_at N i hi
    rw [Nat.zero_add]
    exact ⟨by rw [hK.cell, hat _ (by omega), c0], by rw [hK.cell, hat _ (by omega), c1], by rw [hK.cell, hat _ (by omega), c2]⟩
end Go.Proofs.YtlbgdgobhiokpaaDoor
