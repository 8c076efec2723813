/- Code: the statement's small program; is, num. -/
import Derived.Test.YtjojbfendkodgaaDoorCdo
import Derived.Test.YtjojbfendkodgaaDoorCdr
import Derived.Test.YtjojbfendkodgaaDoorCdu
namespace Go.Proofs.YtjojbfendkodgaaDoor
open Go.RowKit
set_option linter.unusedVariables false

def smC : List In := [⟨1, -1, 2, 0⟩, ⟨20, 0, 0, 0⟩]
def smB : List In := [⟨1, -1, 3, 0⟩, ⟨20, 0, 0, 0⟩]
theorem sm_chk : chk false smC [0] = (0, 0) := by decide +kernel
theorem smB_chk : chk false smB [0] = (140, 0) := by decide +kernel
theorem sm_enc : encA false smC [0] = [109, 0, 1, 0, 2, 1, 0, 3, 20] := by
  unfold encA
  rw [if_pos sm_chk]
  decide +kernel
theorem sm_decF : decF [109, 0, 1, 0, 2, 1, 0, 3, 20] = (0, 0) := by decide +kernel
theorem sm_pgm : (pgm [109, 0, 1, 0, 2, 1, 0, 3, 20]).enc = false ∧ (pgm [109, 0, 1, 0, 2, 1, 0, 3, 20]).E = [0] := by decide +kernel
theorem sm_pgmC : eqL inEq (pgm [109, 0, 1, 0, 2, 1, 0, 3, 20]).C smC = true := by decide +kernel
theorem sm_dec : decE [109, 0, 1, 0, 2, 1, 0, 3, 20] = false ∧ decC [109, 0, 1, 0, 2, 1, 0, 3, 20] = smC ∧ decN [109, 0, 1, 0, 2, 1, 0, 3, 20] = [0] := by
  unfold decE decC decN
  rw [sm_decF]
  exact ⟨sm_pgm.1, (eqL_iff inEq_iff).1 sm_pgmC, sm_pgm.2⟩
def smT : List UInt8 := [100, 101, 99, 111, 100, 101, 114, 10, 116, 121, 112, 101, 32, 48, 32, 48, 10, 48, 32, 117, 105, 110, 116, 32, 45, 32, 50, 10, 49, 32, 114, 101, 116, 10]
theorem sm_prn : prnA false smC [0] = smT := by
  unfold prnA
  rw [if_pos sm_chk]
  decide +kernel
theorem sm_eq : eqP false false smC smC [0] [0] = true := by decide +kernel
theorem sm_ne : eqP false false smC smB [0] [0] = false := by decide +kernel
theorem num_any (n : Int) (w : World) : Calls Tryd.prog 16 #[.int .i64 n] w fun e w' => e = .returned (.int .i64 n) ∧ w = w' := by
  go_enter Tryd.func16, Tryd.ntmps16
  go_wp2
  go_ret
  exact ⟨rfl, rfl⟩
theorem is_any (e a x y : Int) (w : World) : Calls Tryd.prog 10 #[.agg #[.int .i64 e, .int .i64 a], .int .i64 x, .int .i64 y] w fun r w' => r = .returned (.bool (e == x && a == y)) ∧ Below w.heap.size w w' := by
  by_cases h : e = x
  · subst h
    go_enter Tryd.func10, Tryd.ntmps10
    go_wp2_with (go_at_call 16; refine (num_any _ _).mono ?_; rintro e w' ⟨rfl, rfl⟩)
    go_ret
    exact ⟨by simp, below1 _ _⟩
  · have hb : (e == x) = false := by simpa using h
    rw [hb]
    go_enter Tryd.func10, Tryd.ntmps10
    go_wp2_with (go_at_call 16; refine (num_any _ _).mono ?_; rintro e w' ⟨rfl, rfl⟩)
    go_ret
    exact ⟨rfl, below1 _ _⟩
/-- The small program lies here. -/
structure Sm (B : Nat) (w : World) (C : List In) (v u : Value) : Prop where
  ex : ∃ g g', v = .slice (some ⟨g, 0, none⟩) 2 2 ∧ u = .slice (some ⟨g', 0, none⟩) 1 1 ∧ B ≤ g ∧ B ≤ g' ∧ Blk w g 28 (cellsG inc C) ∧ Blk w g' 3 [.int .i64 0]
theorem small_any (w : World) : Calls Tryd.prog 20 #[] w fun e w' => (∃ v u, e = .returned (.agg #[.bool false, v, u]) ∧ Hid (Sm w.heap.size w' smC v u)) ∧ Below w.heap.size w w' := by
  go_enter Tryd.func20, Tryd.ntmps20
  go_wp2
  obtain ⟨k1, k2, k3⟩ := blk3 w #[.bool false, .slice (some ⟨w.heap.size + 1, 0, none⟩) 2 2, .slice (some ⟨w.heap.size + 1 + 1, 0, none⟩) 1 1] #[.int .i64 1, .int .i64 (-1), .int .i64 2, .int .i64 0, .int .i64 20, .int .i64 0, .int .i64 0, .int .i64 0] #[.int .i64 0] 26 28 3
  refine bodyPost_ret (results_cell_row rfl _ _ _ _ #[.bool false, .slice (some ⟨w.heap.size + 1, 0, none⟩) 2 2, .slice (some ⟨w.heap.size + 1 + 1, 0, none⟩) 1 1] _ _ rfl k1 Tryd.underlying26 rfl (by show _ = some 3; kernel_rfl)) rfl ?_
  exact ⟨⟨_, _, rfl, hide_ ⟨w.heap.size + 1, w.heap.size + 1 + 1, rfl, rfl, by omega, by omega, k2, k3⟩⟩, below3 _ _ _ _⟩
end Go.Proofs.YtjojbfendkodgaaDoor
