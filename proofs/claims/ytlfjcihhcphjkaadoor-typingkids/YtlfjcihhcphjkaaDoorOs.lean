/- awake: the chapter's example. -/
import Derived.Test.YtlfjcihhcphjkaaDoorOn
import Derived.Test.YtlfjcihhcphjkaaDoorOo
namespace Go.Proofs.YtlfjcihhcphjkaaDoor
open Go.RowKit
set_option linter.unusedVariables false

def exU : List Pt := [⟨⟨#[]⟩, 3, 3⟩, ⟨⟨#[]⟩, 5, 4⟩]
def exP : List Pt := [⟨⟨#[97]⟩, 0, 0⟩, ⟨⟨#[98]⟩, 0, 2⟩, ⟨⟨#[99]⟩, 0, 5⟩]
def exT : List Ty := [⟨1, 1, 0, []⟩, ⟨3, 0, 0, []⟩, ⟨5, 2, 1, []⟩, ⟨2, 0, 0, []⟩, ⟨1, 2, 0, []⟩, ⟨7, 0, 0, exU⟩, ⟨8, 0, 0, exP⟩]
def exTc (g h : Nat) : List Value := [.int .i64 1, .int .i64 1, .int .i64 0, .slice none 0 0, .int .i64 3, .int .i64 0, .int .i64 0, .slice none 0 0, .int .i64 5, .int .i64 2, .int .i64 1, .slice none 0 0, .int .i64 2, .int .i64 0, .int .i64 0, .slice none 0 0, .int .i64 1, .int .i64 2, .int .i64 0, .slice none 0 0, .int .i64 7, .int .i64 0, .int .i64 0, .slice (some ⟨g, 0, none⟩) 2 2, .int .i64 8, .int .i64 0, .int .i64 0, .slice (some ⟨h, 0, none⟩) 3 3]
theorem ex_row {w : World} {g h b : Nat} (hU : PRow w (some ⟨g, 0, none⟩) exU) (hP : PRow w (some ⟨h, 0, none⟩) exP) (hK : Blk w b 64 (exTc g h)) : TRow w (some ⟨b, 0, none⟩) exT := by
  refine .inr ⟨b, 0, rfl, hK.lt, fun i t ht => ?_⟩
  have key : ∀ (m : Nat) (u : Ty) (v : Value), (∀ j, j < 4 → (exTc g h)[m * 4 + j]? = (tyc u v)[j]?) → ∀ j, j < 4 → w.cell? ⟨b, 0 + m * 4 + j, none⟩ = (tyc u v)[j]? := fun m u v h j hj => by
    rw [hK.cell, Nat.zero_add]
    exact h j hj
  have nn : ∀ (m : Nat) (u : Ty), u.ps = [] → (∀ j, j < 4 → (exTc g h)[m * 4 + j]? = (tyc u (.slice none 0 0))[j]?) → ∃ va vc, (∀ j, j < 4 → w.cell? ⟨b, 0 + m * 4 + j, none⟩ = (tyc u (.slice va u.ps.length vc))[j]?) ∧ u.ps.length ≤ vc ∧ (va = none → vc = 0) ∧ PRow w va u.ps := fun m u hu h => by
    refine ⟨none, 0, ?_, by rw [hu]; exact Nat.le_refl _, fun _ => rfl, .inl hu⟩
    rw [hu]
    exact key m u _ h
  match i, ht with
  | 0, ht => injection ht with ht; subst ht; exact nn 0 _ rfl (fun j hj => match j, hj with | 0, _ => rfl | 1, _ => rfl | 2, _ => rfl | 3, _ => rfl)
  | 1, ht => injection ht with ht; subst ht; exact nn 1 _ rfl (fun j hj => match j, hj with | 0, _ => rfl | 1, _ => rfl | 2, _ => rfl | 3, _ => rfl)
  | 2, ht => injection ht with ht; subst ht; exact nn 2 _ rfl (fun j hj => match j, hj with | 0, _ => rfl | 1, _ => rfl | 2, _ => rfl | 3, _ => rfl)
  | 3, ht => injection ht with ht; subst ht; exact nn 3 _ rfl (fun j hj => match j, hj with | 0, _ => rfl | 1, _ => rfl | 2, _ => rfl | 3, _ => rfl)
  | 4, ht => injection ht with ht; subst ht; exact nn 4 _ rfl (fun j hj => match j, hj with | 0, _ => rfl | 1, _ => rfl | 2, _ => rfl | 3, _ => rfl)
  | 5, ht => injection ht with ht; subst ht; exact ⟨some ⟨g, 0, none⟩, 2, key 5 _ _ (fun j hj => match j, hj with | 0, _ => rfl | 1, _ => rfl | 2, _ => rfl | 3, _ => rfl), by decide, (fun h => by cases h), hU⟩
  | 6, ht => injection ht with ht; subst ht; exact ⟨some ⟨h, 0, none⟩, 3, key 6 _ _ (fun j hj => match j, hj with | 0, _ => rfl | 1, _ => rfl | 2, _ => rfl | 3, _ => rfl), by decide, (fun h => by cases h), hP⟩
  | n + 7, ht => cases ht
theorem ex_lens : LensT exT := ⟨by decide, fun t ht => by
  simp only [exT, List.mem_cons, List.not_mem_nil, or_false] at ht
  rcases ht with rfl | rfl | rfl | rfl | rfl | rfl | rfl <;> simp [exU, exP]⟩
def exV : List Nv := [⟨4, 0, 3⟩, ⟨1, 44, 0⟩, ⟨3, 0, 2⟩, ⟨1, 8, 0⟩, ⟨1, 18446744073709551615, 0⟩, ⟨6, 5, 1⟩, ⟨1, 1, 0⟩]
def exW : List Nv := [⟨4, 0, 3⟩, ⟨1, 256, 0⟩, ⟨3, 0, 2⟩, ⟨1, 8, 0⟩, ⟨1, 18446744073709551615, 0⟩, ⟨6, 5, 1⟩, ⟨1, 1, 0⟩]
def exPk : List Int := [9, 300, 5, 8, -1, 1, 65537]
theorem ex_some : someT exT [] 6 exPk = (exV, 0) := by kernel_rfl
theorem ex_types : tyV exT [] 6 exV = ([6, 0, 2, 1, 1, 5, 4], 0, 0) := by kernel_rfl
theorem ex_bad : tyV exT [] 6 exW = ([], 111, 1) := by kernel_rfl
theorem ex_place : tyV exT [] 7 exW = ([], 3, 0) := by kernel_rfl
/-- What example answers. -/
def ExTo (w : World) (e : Ending) (w' : World) : Prop := ∃ b, e = .returned (.tuple #[.agg #[.slice (some ⟨b, 0, none⟩) 7 7, .slice none 0 0], .int .i64 6]) ∧ Hid (TRow w' (some ⟨b, 0, none⟩) exT) ∧ Hid (Below w.heap.size w w')
theorem retST {fn : Func} {p u : Tmp} (h : fn.results = #[.cell p 25, .tmp u]) {R : Ending → World → Prop} {tmps : Array Value} {g : Nat} {w : World} {x y v : Value} (hu : tmps.getD u undef = v) (hp : tmps.getD p undef = .pointer (some ⟨g, 0, none⟩)) (hK : Blk w g 25 [x, y]) (hR : R (.returned (.tuple #[.agg #[x, y], v])) w) :
    bodyPost Tryd.prog fn R Exit.ret ⟨tmps, []⟩ w :=
  bodyPost_ret (results_cell_tmp_row h _ _ _ _ #[x, y] _ _ hp (show w.heap[g]? = some (.cells #[x, y] 25 (0, 0)) from hK) Tryd.underlying25 rfl (by show _ = some 2; kernel_rfl)) rfl (by rw [hu]; exact hR)
set_option maxRecDepth 100000 in
set_option maxHeartbeats 4000000 in
theorem example_any (w : World) : Calls Tryd.prog 27 #[] w fun e w' => ExTo w e w' := by
  obtain ⟨w1, hw1⟩ : ∃ wx, wx = w.alloc (.cells #[.slice (some ⟨w.heap.size + 1 + 1 + 1, 0, none⟩) 7 7, .slice none 0 0] 25) := ⟨_, rfl⟩
  have b1 : Below w.heap.size w w1 := by rw [hw1]; exact below1 _ _
  have k1 : Blk w1 w.heap.size 25 [.slice (some ⟨w.heap.size + 1 + 1 + 1, 0, none⟩) 7 7, .slice none 0 0] := by rw [hw1]; exact Blk.newA w _ _
  have s1 : w1.heap.size = w.heap.size + 1 := by rw [hw1]; simp
  obtain ⟨w2, hw2⟩ : ∃ wx, wx = w1.alloc (.cells #[.string ⟨#[]⟩, .int .i64 3, .int .i64 3, .string ⟨#[]⟩, .int .i64 5, .int .i64 4] 67) := ⟨_, rfl⟩
  have b2 : Below w1.heap.size w1 w2 := by rw [hw2]; exact below1 _ _
  have k2 : Blk w2 w1.heap.size 67 (cellsG ptc exU) := by rw [hw2]; exact Blk.newA w1 _ _
  have s2 : w2.heap.size = w.heap.size + 1 + 1 := by rw [hw2]; simp [s1]
  obtain ⟨w3, hw3⟩ : ∃ wx, wx = w2.alloc (.cells #[.string ⟨#[97]⟩, .int .i64 0, .int .i64 0, .string ⟨#[98]⟩, .int .i64 0, .int .i64 2, .string ⟨#[99]⟩, .int .i64 0, .int .i64 5] 67) := ⟨_, rfl⟩
  have b3 : Below w2.heap.size w2 w3 := by rw [hw3]; exact below1 _ _
  have k3 : Blk w3 w2.heap.size 67 (cellsG ptc exP) := by rw [hw3]; exact Blk.newA w2 _ _
  have s3 : w3.heap.size = w.heap.size + 1 + 1 + 1 := by rw [hw3]; simp [s2]
  obtain ⟨w4, hw4⟩ : ∃ wx, wx = w3.alloc (.cells (exTc (w.heap.size + 1) (w.heap.size + 1 + 1)).toArray 64) := ⟨_, rfl⟩
  have b4 : Below w3.heap.size w3 w4 := by rw [hw4]; exact below1 _ _
  have k4 : Blk w4 w3.heap.size 64 (exTc (w.heap.size + 1) (w.heap.size + 1 + 1)) := by rw [hw4]; exact Blk.new w3 _ _
  rw [s1] at k2
  rw [s2] at k3
  rw [s3] at k4
  have HT4 := hide_ (ex_row (blk_grow ptc_len ((k2.later b3).later b4)) (blk_grow ptc_len (k3.later b4)) k4)
  have K1 := hide_ (((k1.later b2).later b3).later b4)
  have HB4 := hide_ (below_to (below_to (below_to b1 b2) b3) b4)
  simp only [exTc] at hw4
  clear b1 b2 b3 b4 k1 k2 k3 k4 s1 s2 s3
  have H1 := hide_ hw1
  have H2 := hide_ hw2
  have H3 := hide_ hw3
  have H4 := hide_ hw4
  clear hw1 hw2 hw3 hw4
  go_enter Tryd.func27, Tryd.ntmps27
  go_wp2
  rw [← H1.out, ← H2.out, ← H3.out, ← H4.out]
  exact retST rfl rfl rfl K1.out ⟨_, rfl, HT4, HB4⟩
end Go.Proofs.YtlfjcihhcphjkaaDoor
