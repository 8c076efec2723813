/- Code: kinds, operands, bounds, allows, isOf. -/
import Derived.Test.YteadmiikenpjeaaDoorCda
import Derived.Test.YteadmiikenpjeaaDoorCgr
namespace Go.Proofs.YteadmiikenpjeaaDoor
open Go.RowKit
set_option linter.unusedVariables false

def kv (k : Int × Int × Int) : Value := .agg #[.int .i64 k.1, .int .i64 k.2.1, .int .i64 k.2.2]
theorem retK {fn : Func} {p : Tmp} (h : fn.results = #[.cell p 80]) {R : Ending → World → Prop} {tmps : Array Value} {g : Nat} {w : World} {x y z : Value} (hp : tmps.getD p undef = .pointer (some ⟨g, 0, none⟩)) (hK : Blk w g 80 [x, y, z]) (hR : R (.returned (.agg #[x, y, z])) w) :
    bodyPost Tryd.prog fn R Exit.ret ⟨tmps, []⟩ w :=
  bodyPost_ret (results_cell_row h _ _ _ _ #[x, y, z] _ _ hp (show w.heap[g]? = some (.cells #[x, y, z] 80 (0, 0)) from hK) Tryd.underlying80 rfl (by show _ = some 3; kernel_rfl)) rfl hR
theorem retA {fn : Func} {p : Tmp} (h : fn.results = #[.cell p 79]) {R : Ending → World → Prop} {tmps : Array Value} {g : Nat} {w : World} {x y z : Value} (hp : tmps.getD p undef = .pointer (some ⟨g, 0, none⟩)) (hK : Blk w g 79 [x, y, z]) (hR : R (.returned (.agg #[x, y, z])) w) :
    bodyPost Tryd.prog fn R Exit.ret ⟨tmps, []⟩ w :=
  bodyPost_ret (results_cell_row h _ _ _ _ #[x, y, z] _ _ hp (show w.heap[g]? = some (.cells #[x, y, z] 79 (0, 0)) from hK) Tryd.underlying79 rfl (by show _ = some 3; kernel_rfl)) rfl hR
set_option maxRecDepth 100000 in
set_option maxHeartbeats 4000000 in
theorem dkinds_any (op : Int) (w : World) (h33 : op < 33) : Calls Tryd.prog 67 #[.int .i64 op] w fun e w' => e = .returned (kv (kin op)) ∧ Below w.heap.size w w' := by
  go_enter Tryd.func67, Tryd.ntmps67
  go_wp2
  all_goals
    refine retK rfl rfl (Blk.newA w _ _) ?_
    refine ⟨?_, below1 _ _⟩
    first
      | (rename_i h; have h := eq_of_beq h; subst h; rfl)
      | (simp only [beq_eq_false_iff_ne, ne_eq] at *
         have h : kin op = (0, 0, 0) := by
           unfold kin
           repeat rw [if_neg (by omega)]
         rw [h]; rfl)
set_option maxRecDepth 100000 in
set_option maxHeartbeats 4000000 in
theorem ekinds_any (op : Int) (w : World) (h33 : 33 ≤ op) : Calls Tryd.prog 68 #[.int .i64 op] w fun e w' => e = .returned (kv (kin op)) ∧ Below w.heap.size w w' := by
  go_enter Tryd.func68, Tryd.ntmps68
  go_wp2
  all_goals
    refine retK rfl rfl (Blk.newA w _ _) ?_
    refine ⟨?_, below1 _ _⟩
    first
      | (rename_i h; have h := eq_of_beq h; subst h; rfl)
      | (simp only [beq_eq_false_iff_ne, ne_eq] at *
         have h : kin op = (0, 0, 0) := by
           unfold kin
           repeat rw [if_neg (by omega)]
         rw [h]; rfl)
set_option maxRecDepth 100000 in
theorem kinds_any (op : Int) (w : World) : Calls Tryd.prog 49 #[.int .i64 op] w fun e w' => e = .returned (kv (kin op)) ∧ Below w.heap.size w w' := by
  obtain ⟨w0, hw0⟩ : ∃ wx, wx = w.alloc (.cells #[.int .i64 0, .int .i64 0, .int .i64 0] 80) := ⟨_, rfl⟩
  have hB : Below w.heap.size w w0 := by rw [hw0]; exact below1 _ _
  have K0 : Hid (Blk w0 w.heap.size 80 [.int .i64 0, .int .i64 0, .int .i64 0]) := hide_ (by rw [hw0]; exact Blk.newA w _ _)
  by_cases h : op < 33
  · have HC := hide_ (dkinds_any op w0 h)
    go_enter Tryd.func49, Tryd.ntmps49
    go_upto_region 1 with fail
    rw [← hw0]
    clear hw0
    go_wp2_with fail
    refine HC.out.mono ?_; rintro e w1 ⟨rfl, hB1⟩
    have K1 := K0.out.later hB1
    have fr := fun i => K1.frozen i
    have c0 := K1.cell 0; have c1 := K1.cell 1; have c2 := K1.cell 2
    simp at c0 c1 c2
    unfold kv
    go_wp2
    refine retK rfl rfl (((K1.set 0 _).set 1 _).set 2 _) ?_
    exact ⟨rfl, below_set (below_set (below_set (below_to hB hB1) _ _ _ (Nat.le_refl _)) _ _ _ (Nat.le_refl _)) _ _ _ (Nat.le_refl _)⟩
  · have HC := hide_ (ekinds_any op w0 (by omega))
    go_enter Tryd.func49, Tryd.ntmps49
    go_upto_region 1 with fail
    rw [← hw0]
    clear hw0
    go_wp2_with fail
    refine HC.out.mono ?_; rintro e w1 ⟨rfl, hB1⟩
    have K1 := K0.out.later hB1
    have fr := fun i => K1.frozen i
    have c0 := K1.cell 0; have c1 := K1.cell 1; have c2 := K1.cell 2
    simp at c0 c1 c2
    unfold kv
    go_wp2
    refine retK rfl rfl (((K1.set 0 _).set 1 _).set 2 _) ?_
    exact ⟨rfl, below_set (below_set (below_set (below_to hB hB1) _ _ _ (Nat.le_refl _)) _ _ _ (Nat.le_refl _)) _ _ _ (Nat.le_refl _)⟩
theorem operands_any (x : In) (w : World) : Calls Tryd.prog 50 #[.agg #[.int .i64 x.op, .int .i64 x.a, .int .i64 x.b, .int .i64 x.c]] w fun e w' => e = .returned (.agg #[.int .i64 x.a, .int .i64 x.b, .int .i64 x.c]) ∧ Below w.heap.size w w' := by
  go_enter Tryd.func50, Tryd.ntmps50
  go_wp2
  refine retA rfl rfl (blk2 w _ _ _ _).2 ?_
  exact ⟨rfl, below2 _ _ _⟩
set_option maxRecDepth 100000 in
set_option maxHeartbeats 4000000 in
theorem bounds_any (enc : Bool) (ac ae : Option Addr) (nc cc ne ce : Nat) (k : Int) (w : World) (hnc : nc ≤ 140737488355328) (hne : ne ≤ 140737488355328) : Calls Tryd.prog 63 #[.agg #[.bool enc, .slice ac nc cc, .slice ae ne ce], .int .i64 k] w fun e w' => e = .returned (.tuple #[.int .i64 (bnd nc ne k).1, .int .i64 (bnd nc ne k).2]) ∧ Below w.heap.size w w' := by
  by_cases h15 : k = 15
  · subst h15
    go_enter Tryd.func63, Tryd.ntmps63
    go_wp2
    go_region
    all_goals
      go_wp2
      go_ret2
      exact ⟨rfl, (below1 _ _).drew⟩
  by_cases h16 : k = 16
  · subst h16
    go_enter Tryd.func63, Tryd.ntmps63
    go_wp2
    go_region
    all_goals
      go_wp2
      go_ret2
      exact ⟨rfl, (below1 _ _).drew⟩
  have f15 : (k == 15) = false := by simpa using h15
  have f16 : (k == 16) = false := by simpa using h16
  go_enter Tryd.func63, Tryd.ntmps63
  go_wp2
  all_goals
    go_ret2
    refine ⟨?_, below1 _ _⟩
    first
      | (rename_i h; have h := eq_of_beq h; subst h; rfl)
      | (simp only [beq_eq_false_iff_ne, ne_eq] at *
         have h : bnd nc ne k = (0, 0) := by
           unfold bnd
           repeat rw [if_neg (by omega)]
         rw [h]; rfl)
theorem isOf_any (op : Int) (enc : Bool) (w : World) : Calls Tryd.prog 61 #[.int .i64 op, .bool enc] w fun e w' => e = .returned (.bool (isOf op enc)) ∧ w = w' := by
  by_cases h1 : op = 9
  · subst h1
    go_enter Tryd.func61, Tryd.ntmps61
    go_wp2
    go_ret
    exact ⟨rfl, rfl⟩
  by_cases h2 : op = 19
  · subst h2
    go_enter Tryd.func61, Tryd.ntmps61
    go_wp2
    go_ret
    exact ⟨rfl, rfl⟩
  by_cases h3 : op = 20
  · subst h3
    go_enter Tryd.func61, Tryd.ntmps61
    go_wp2
    go_ret
    exact ⟨rfl, rfl⟩
  have e1 : (op == 9) = false := by simpa using h1
  have e2 : (op == 19) = false := by simpa using h2
  have e3 : (op == 20) = false := by simpa using h3
  cases enc with
  | true =>
    by_cases h4 : 33 ≤ op
    · by_cases h5 : op ≤ 47
      · have e : isOf op true = true := by unfold isOf; simp [h4, h5]
        rw [e]
        go_enter Tryd.func61, Tryd.ntmps61
        go_wp2
        go_ret
        exact ⟨rfl, rfl⟩
      · have e : isOf op true = false := by unfold isOf; simp [e1, e2, e3, h4, h5]
        rw [e]
        go_enter Tryd.func61, Tryd.ntmps61
        go_wp2
        go_ret
        exact ⟨rfl, rfl⟩
    · have e : isOf op true = false := by unfold isOf; simp [e1, e2, e3, h4]
      rw [e]
      go_enter Tryd.func61, Tryd.ntmps61
      go_wp2
      go_ret
      exact ⟨rfl, rfl⟩
  | false =>
    by_cases h4 : 1 ≤ op
    · by_cases h5 : op ≤ 20
      · have e : isOf op false = true := by unfold isOf; simp [h4, h5]
        rw [e]
        go_enter Tryd.func61, Tryd.ntmps61
        go_wp2
        go_ret
        exact ⟨rfl, rfl⟩
      · have e : isOf op false = false := by unfold isOf; simp [e1, e2, e3, h4, h5]
        rw [e]
        go_enter Tryd.func61, Tryd.ntmps61
        go_wp2
        go_ret
        exact ⟨rfl, rfl⟩
    · have e : isOf op false = false := by unfold isOf; simp [e1, e2, e3, h4]
      rw [e]
      go_enter Tryd.func61, Tryd.ntmps61
      go_wp2
      go_ret
      exact ⟨rfl, rfl⟩
set_option maxRecDepth 100000 in
theorem allows_any (enc : Bool) (ac ae : Option Addr) (nc cc ne ce : Nat) (k n : Int) (w : World) (hnc : nc ≤ 140737488355328) (hne : ne ≤ 140737488355328) : Calls Tryd.prog 38 #[.agg #[.bool enc, .slice ac nc cc, .slice ae ne ce], .int .i64 k, .int .i64 n] w fun e w' => e = .returned (.bool (alw nc ne k n)) ∧ Below w.heap.size w w' := by
  have HC := hide_ (bounds_any enc ac ae nc cc ne ce k (w.alloc (.cells #[.bool enc, .slice ac nc cc, .slice ae ne ce] 25)) hnc hne)
  obtain ⟨lo, hlo⟩ : ∃ lo, (bnd nc ne k).1 = lo := ⟨_, rfl⟩
  obtain ⟨hi, hhi⟩ : ∃ hi, (bnd nc ne k).2 = hi := ⟨_, rfl⟩
  rw [hlo, hhi] at HC
  by_cases h1 : n < lo
  · have e : alw nc ne k n = false := by unfold alw; rw [hlo, hhi, decide_eq_false (by omega)]; rfl
    rw [e]
    go_enter Tryd.func38, Tryd.ntmps38
    go_wp2_with (go_at_call 63; refine HC.out.mono ?_; rintro e w1 ⟨rfl, hB1⟩)
    go_ret
    exact ⟨rfl, below_to (below1 _ _) hB1⟩
  by_cases h2 : hi < n
  · have e : alw nc ne k n = false := by unfold alw; rw [hlo, hhi, decide_eq_false (by omega)]; rfl
    rw [e]
    go_enter Tryd.func38, Tryd.ntmps38
    go_wp2_with (go_at_call 63; refine HC.out.mono ?_; rintro e w1 ⟨rfl, hB1⟩)
    go_ret
    exact ⟨rfl, below_to (below1 _ _) hB1⟩
  have e : alw nc ne k n = (if k = 3 then n == 1 || n == 2 || n == 4 || n == 8 else if k = 13 then n != 0 else true) := by unfold alw; rw [hlo, hhi, decide_eq_true (by omega)]; rfl
  rw [e]
  by_cases k3 : k = 3
  · subst k3
    have a1 : lo = 1 := hlo.symm.trans rfl
    have a2 : hi = 8 := hhi.symm.trans rfl
    subst a1 a2
    have h8 : n = 1 ∨ n = 2 ∨ n = 3 ∨ n = 4 ∨ n = 5 ∨ n = 6 ∨ n = 7 ∨ n = 8 := by omega
    rcases h8 with rfl | rfl | rfl | rfl | rfl | rfl | rfl | rfl
    all_goals
      go_enter Tryd.func38, Tryd.ntmps38
      go_wp2_with (go_at_call 63; refine HC.out.mono ?_; rintro e w1 ⟨rfl, hB1⟩)
      go_ret
      exact ⟨rfl, below_to (below1 _ _) hB1⟩
  · have f3 : (k == 3) = false := by simpa using k3
    rw [if_neg k3]
    by_cases k13 : k = 13
    · subst k13
      rw [if_pos rfl]
      go_enter Tryd.func38, Tryd.ntmps38
      go_wp2_with (go_at_call 63; refine HC.out.mono ?_; rintro e w1 ⟨rfl, hB1⟩)
      go_ret
      exact ⟨rfl, below_to (below1 _ _) hB1⟩
    · have f13 : (k == 13) = false := by simpa using k13
      rw [if_neg k13]
      go_enter Tryd.func38, Tryd.ntmps38
      go_wp2_with (go_at_call 63; refine HC.out.mono ?_; rintro e w1 ⟨rfl, hB1⟩)
      go_ret
      exact ⟨rfl, below_to (below1 _ _) hB1⟩
end Go.Proofs.YteadmiikenpjeaaDoor
