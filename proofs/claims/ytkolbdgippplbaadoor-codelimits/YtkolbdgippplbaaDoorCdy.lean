/- CodeLimits: plain; what lies in memory. -/
import Derived.Test.YtkolbdgippplbaaDoorCdw
import Derived.Test.YtkolbdgippplbaaDoorCdx
namespace Go.Proofs.YtkolbdgippplbaaDoor
open Go.RowKit
set_option linter.unusedVariables false

def ret0 : In := ⟨20, 0, 0, 0⟩
theorem mkC (n : Nat) (hn : n ≤ 1000000000) (w : World) : (Instr.makeSlice 23 (.int .i64 (n : Int)) (.int .i64 (n : Int))).run Tryd.prog w = .ok (.slice (some ⟨w.heap.size, 0, none⟩) n n) (w.alloc (.cells (madeCells #[.int .i64 0, .int .i64 0, .int .i64 0, .int .i64 0] (n * 4)) 28)) := by
  obtain ⟨i0, hi, hz0, hz1, hz2⟩ := info_parts infoIn
  have hb : (i0.bytes : Int) * (n : Int) ≤ 281474976710656 := by rw [hz2]; omega
  have hr := run_make (P := Tryd.prog) w 23 28 i0 (.agg #[.int .i64 0, .int .i64 0, .int .i64 0, .int .i64 0]) Tryd.underlying23 hi hz0 .i64 .i64 n n (by omega) (Int.le_refl _) hb (by omega)
  rw [Int.toNat_natCast, hz1] at hr
  exact hr
theorem mkE (n : Nat) (hn : n ≤ 1000000000) (w : World) : (Instr.makeSlice 24 (.int .i64 (n : Int)) (.int .i64 (n : Int))).run Tryd.prog w = .ok (.slice (some ⟨w.heap.size, 0, none⟩) n n) (w.alloc (.cells (madeCells #[.int .i64 0] n) 3)) := by
  obtain ⟨i0, hi, hz0, hz1, hz2⟩ := info_parts elI.info
  have hb : (i0.bytes : Int) * (n : Int) ≤ 281474976710656 := by rw [hz2]; omega
  have hr := run_make (P := Tryd.prog) w 24 3 i0 (.int .i64 0) Tryd.underlying24 hi hz0 .i64 .i64 n n (by omega) (Int.le_refl _) hb (by omega)
  rw [Int.toNat_natCast, hz1, Nat.mul_one] at hr
  exact hr
theorem madeE (n : Nat) : (madeCells #[.int .i64 0] n).toList = cellsL .i64 (List.replicate n 0) := by
  apply List.ext_getElem?
  intro i
  by_cases h : i < n <;> simp [madeCells, cellsL, Nat.mod_one, h]
theorem madeC (n : Nat) : (madeCells #[.int .i64 0, .int .i64 0, .int .i64 0, .int .i64 0] (n * 4)).toList = cellsG inc (List.replicate n in0) := by
  apply List.ext_getElem?
  intro i
  by_cases h : i < n * 4
  · have h1 : i / 4 < n := by omega
    have h2 := cellsG_at inc_len (List.replicate n in0) (i / 4) (i % 4) in0 (by simp [h1]) (by omega)
    rw [show i / 4 * 4 + i % 4 = i by omega] at h2
    rw [h2]
    have h4 : i % 4 < 4 := Nat.mod_lt _ (by omega)
    simp [madeCells, h]
    generalize i % 4 = m at *
    have : m = 0 ∨ m = 1 ∨ m = 2 ∨ m = 3 := by omega
    rcases this with rfl | rfl | rfl | rfl <;> rfl
  · have hl : (cellsG inc (List.replicate n in0)).length = n * 4 := by rw [cellsG_len inc_len]; simp
    rw [List.getElem?_eq_none (l := cellsG inc (List.replicate n in0)) (by omega)]
    simp [madeCells]
    omega
/-- What lies in memory: the great program. -/
structure LmM (w0 w : World) (g gc ge N : Nat) (L : List In) : Prop where
  p : Blk w g 26 [.bool false, .slice (some ⟨gc, 0, none⟩) N N, .slice (some ⟨ge, 0, none⟩) N N]
  c : Blk w gc 28 (cellsG inc L)
  e : Blk w ge 3 (cellsL .i64 (List.replicate N 0))
  b : Below w0.heap.size w0 w
  g1 : w0.heap.size ≤ gc
theorem LmM.later {w0 w w' : World} {g gc ge N : Nat} {L : List In} (h : LmM w0 w g gc ge N L) (hB : Below w.heap.size w w') : LmM w0 w' g gc ge N L :=
  ⟨h.p.later hB, h.c.later hB, h.e.later hB, below_to h.b hB, h.g1⟩
/-- So many are ret. -/
def retL (N j : Nat) : List In := List.replicate j ret0 ++ List.replicate (N - j) in0
theorem retL_len (N j : Nat) (h : j ≤ N) : (retL N j).length = N := by unfold retL; simp; omega
theorem retL_at (N j : Nat) (h : j < N) : (retL N j)[j]? = some in0 := by
  unfold retL
  rw [List.getElem?_append_right (by simp), List.length_replicate, Nat.sub_self, List.getElem?_replicate, if_pos (by omega)]
theorem retL_set (N j : Nat) (h : j < N) : (retL N j).set j ret0 = retL N (j + 1) := by
  apply List.ext_getElem?
  intro i
  rw [List.getElem?_set, retL_len N j (by omega)]
  unfold retL
  by_cases hij : j = i
  · subst hij
    rw [if_pos rfl, if_pos h, List.getElem?_append_left (by simp)]
    simp
  · rw [if_neg hij]
    by_cases hlt : i < j
    · rw [List.getElem?_append_left (by simpa using hlt), List.getElem?_append_left (by simp; omega)]
      rw [List.getElem?_replicate, List.getElem?_replicate, if_pos hlt, if_pos (by omega)]
    · rw [List.getElem?_append_right (by simp; omega), List.getElem?_append_right (by simp; omega)]
      simp only [List.length_replicate, List.getElem?_replicate]
      by_cases h2 : i < N
      · rw [if_pos (by omega), if_pos (by omega)]
      · rw [if_neg (by omega), if_neg (by omega)]
theorem retL_full (N : Nat) : retL N N = List.replicate N ret0 := by unfold retL; simp
/-- An instruction's number written over. -/
theorem op_set {l : List In} {j : Nat} {x : In} (hx : l[j]? = some x) (n : Int) : (cellsG inc l).set (j * 4) (.int .i64 n) = cellsG inc (l.set j ⟨n, x.a, x.b, x.c⟩) := by
  have hj := (List.getElem?_eq_some_iff.1 hx).1
  apply List.ext_getElem?
  intro i
  rw [cellsG_set inc_len l j _ hj, List.getElem?_set]
  have hl := cellsG_len inc_len l
  by_cases h : j * 4 = i
  · subst h
    rw [if_pos rfl, if_pos (by rw [hl]; omega), if_pos (by omega)]
    simp [inc]
  · rw [if_neg h]
    by_cases h2 : j * 4 ≤ i ∧ i < j * 4 + 4
    · rw [if_pos h2]
      obtain ⟨m, rfl⟩ : ∃ m, i = j * 4 + m := ⟨i - j * 4, by omega⟩
      rw [cellsG_at inc_len l j m x hx (by omega), Nat.add_sub_cancel_left]
      have : m = 1 ∨ m = 2 ∨ m = 3 := by omega
      rcases this with rfl | rfl | rfl <;> rfl
    · rw [if_neg h2]
theorem LmM.put {w0 w : World} {g gc ge N j : Nat} (h : LmM w0 w g gc ge N (retL N j)) (hj : j < N) : LmM w0 (w.setCell ⟨gc, j * 4, none⟩ (.int .i64 20)) g gc ge N (retL N (j + 1)) := by
  have hu : Upd (fun k => k = gc) w (w.setCell ⟨gc, j * 4, none⟩ (.int .i64 20)) := (Upd.refl _ w).set _ _ (.inl rfl)
  have hc := h.c.set (j * 4) (.int .i64 20)
  rw [op_set (retL_at N j hj)] at hc
  have e : (⟨20, in0.a, in0.b, in0.c⟩ : In) = ret0 := rfl
  rw [e, retL_set N j hj] at hc
  exact ⟨h.p.upd hu (fun e => by subst e; exact absurd (blk_type h.p h.c) (by decide)), hc, h.e.upd hu (fun e => by subst e; exact absurd (blk_type h.e h.c) (by decide)), h.b.trans (hu.below _ h.b.size (fun k e => by subst e; exact h.g1)), h.g1⟩
/-- Rets alone have their form. -/
theorem ret_chk (n m : Nat) (hn : 0 < n) (hn1 : n ≤ 1048576) (hm : m ≤ 1048576) : Chk false (List.replicate n ret0) (List.replicate m 0) := by
  refine ⟨by simpa using hn1, by simpa using hm, fun i hi => ?_, fun i hi => ?_⟩
  · rw [List.length_replicate] at hi
    unfold frm
    rw [List.getElem?_replicate, if_pos hi]
    simp only [List.length_replicate]
    have e1 : agr ret0 (List.drop (i + 1) (List.replicate n ret0)) = true := by
      unfold agr ret0
      simp
    rw [e1, Bool.and_true]
    unfold frmX
    have e2 : kin ret0.op = (0, 0, 0) := by decide
    have e3 : isOf ret0.op false = true := by decide
    have e4 : ∀ a b : Int, alw a b 0 0 = true := fun a b => by unfold alw bnd; simp
    rw [e2, e3]
    simp only [ret0, e4, Bool.and_true]
  · rw [List.length_replicate] at hi ⊢
    rw [List.getD, List.getElem?_replicate, if_pos hi]
    simp
    omega
theorem ret_len (n : Nat) : ((List.replicate n ret0).flatMap insB).length = n := by
  induction n with
  | zero => rfl
  | succ n ih =>
    rw [List.replicate_succ, List.flatMap_cons, List.length_append, ih]
    have : (insB ret0).length = 1 := by decide
    omega
theorem lim_dec1 : decF [109, 0, 129, 128, 64] = (4, 2) := by decide +kernel
theorem lim_dec2 : decF [109, 1, 0, 129, 128, 64] = (4, 3) := by decide +kernel
theorem lim_len : (encP false (List.replicate 1048576 ret0) (List.replicate 3 0)).length = 1048585 := by
  unfold encP
  rw [List.length_append, List.length_append, List.length_append, List.length_append, ret_len, List.length_replicate, List.length_replicate]
  have a : (form 1048576).length = 3 := by decide +kernel
  have b : (form 3).length = 1 := by decide +kernel
  have c : ((List.replicate 3 (0 : Int)).flatMap entB).length = 3 := by decide +kernel
  rw [a, b, c]
  rfl
end Go.Proofs.YtkolbdgippplbaaDoor
