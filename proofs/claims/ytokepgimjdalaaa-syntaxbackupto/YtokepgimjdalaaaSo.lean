/- Parse. -/
import Derived.Test.YtokepgimjdalaaaSn
namespace Go.Proofs.Ytokepgimjdalaaa
open Go.RowKit
set_option linter.unusedVariables false

theorem results_cells {P : Program} {fn : Func} {p q : Tmp} {t1 t2 : TypeId} (h : fn.results = #[.cell p t1, .cell q t2]) (tmps : Array Value) (w : World) (g1 g2 : Nat) (c1 c2 : Array Value) (f1 f2 : Nat × Nat) (d1 d2 : TypeDesc)
    (hp : tmps.getD p undef = .pointer (some ⟨g1, 0, none⟩)) (hq : tmps.getD q undef = .pointer (some ⟨g2, 0, none⟩)) (hg1 : w.heap[g1]? = some (.cells c1 t1 f1)) (hg2 : w.heap[g2]? = some (.cells c2 t2 f2))
    (hu1 : P.underlying t1 = some d1) (hd1 : (match d1 with | .struct _ | .array _ _ => true | _ => false) = true) (hi1 : (P.info? t1).map (·.size) = some c1.size)
    (hu2 : P.underlying t2 = some d2) (hd2 : (match d2 with | .struct _ | .array _ _ => true | _ => false) = true) (hi2 : (P.info? t2).map (·.size) = some c2.size) :
    (results fn tmps).run P w = .ok (.tuple #[.agg c1, .agg c2]) w := by
  have hp' : tmps[p]?.getD undef = .pointer (some ⟨g1, 0, none⟩) := by simpa using hp
  have hq' : tmps[q]?.getD undef = .pointer (some ⟨g2, 0, none⟩) := by simpa using hq
  simp only [results, h]
  simp [hp', hq', asAddr, Result.andThen, run_loadVar_row w g1 t1 t1 c1 f1 d1 hg1 hu1 hd1 hi1, run_loadVar_row w g2 t2 t2 c2 f2 d2 hg2 hu2 hd2 hi2]
set_option maxRecDepth 100000 in
set_option maxHeartbeats 4000000 in
theorem catch_idle (a b : Addr) (w : World) :
    CallsD Try.prog 19 #[.pointer (some a), .pointer (some b)] .returning w fun e u' w' => e = .returned (.tuple #[]) ∧ u' = .returning ∧ w' = w := by
  refine callsD_of_wpS Try.func19 rfl fun c₀ cs hu => ?_
  simp only [Try.ntmps19, List.size_toArray, List.length_cons, List.length_nil, Nat.reduceAdd, Nat.reduceSub, Array.replicate_succ, Array.replicate_zero, List.push_toArray, List.append_toArray, List.nil_append, List.cons_append]
  apply wpS_seq
  apply wpS_region
  simp [wpOpsS, go_sem, recoverD, hu, Exit.thenS]
  refine wpS_of_wp ?_
  have hnil : ∀ w : World, (binOp BinOp.neq 20 .nilIface .nilIface).run Try.prog w = .ok (.bool false) w := fun _ => by kernel_rfl
  go_wp2
  cases c₀
  simp_all [bodyPostS, results, Try.results19]
set_option maxRecDepth 100000 in
set_option maxHeartbeats 4000000 in
theorem catch_panic (bs bf c a : Nat) (x y0 y1 : Value) (w : World) (hS : Blk w bs 25 [x]) (hF : Blk w bf 28 [y0, y1]) :
    CallsD Try.prog 19 #[.pointer (some ⟨bs, 0, none⟩), .pointer (some ⟨bf, 0, none⟩)] (.panicking [{ v := .iface 28 (.agg #[.int .i64 c, .int .i64 a]), recovered := false }]) w fun e u' w' => e = .returned (.tuple #[]) ∧ u' = .panicking [{ v := .iface 28 (.agg #[.int .i64 c, .int .i64 a]), recovered := true }] ∧ w' = (((w.setCell ⟨bs, 0, none⟩ (.slice none 0 0)).setCell ⟨bf, 0, none⟩ (.int .i64 c)).setCell ⟨bf, 1, none⟩ (.int .i64 a)).drew := by
  refine callsD_of_wpS Try.func19 rfl fun c₀ cs hu => ?_
  simp only [Try.ntmps19, List.size_toArray, List.length_cons, List.length_nil, Nat.reduceAdd, Nat.reduceSub, Array.replicate_succ, Array.replicate_zero, List.push_toArray, List.append_toArray, List.nil_append, List.cons_append]
  apply wpS_seq
  apply wpS_region
  simp [wpOpsS, go_sem, recoverD, hu, Exit.thenS]
  refine wpS_of_wp ?_
  have hnil : ∀ w : World, (binOp BinOp.neq 20 (.iface 28 (.agg #[.int .i64 c, .int .i64 a])) .nilIface).run Try.prog w = .ok (.bool true) w := fun _ => by kernel_rfl
  have hta : ∀ w : World, (Instr.typeAssert (.iface 28 (.agg #[.int .i64 c, .int .i64 a])) 20 28 false).run Try.prog w = .ok (.agg #[.int .i64 c, .int .i64 a]) w := fun _ => by kernel_rfl
  have hne : ¬ bs = bf := fun e => by subst e; exact absurd (blk_type hS hF) (by decide)
  have hne' : ¬ bf = bs := fun e => hne e.symm
  have s0 := hS.cell 0
  have f0 := hF.cell 0; have f1 := hF.cell 1
  have z0 := hS.frozen 0; have z1 := hF.frozen 0; have z2 := hF.frozen 1
  simp at s0 f0 f1
  go_wp2
  go_region
  go_wp2
  simp [bodyPostS, results, Try.results19]
end Go.Proofs.Ytokepgimjdalaaa
