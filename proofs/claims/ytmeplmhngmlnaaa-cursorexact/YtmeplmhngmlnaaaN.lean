/- b[T:E], by its run. -/
import Derived.Test.YtmeplmhngmlnaaaB
namespace Go.Proofs.Ytmeplmhngmlnaaa
open Go.RowKit
set_option linter.unusedVariables false

theorem i64w (n : Int) (h : -9223372036854775808 ≤ n ∧ n ≤ 9223372036854775807) : IntKind.i64.wrap n = n := by rw [IntKind.wrap_i64]; omega
theorem elem30 : Try.prog.underlying 30 = some (.slice (Try.prog.elem 30)) := by kernel_rfl
theorem size30 : (Try.prog.info? (Try.prog.elem 30)).map (·.size) = some 1 := by kernel_rfl
theorem slice_run (a : Option Addr) (L c T E m : Nat) (h : T + m = E) (hE : E ≤ c) (w' : World) :
    (Instr.slice 30 (.slice a L c) (some (.int .i64 (T : Int))) (some (.int .i64 (E : Int))) none).run Try.prog w' = .ok (.slice (if c = T then a else a.map (·.add T)) m (c - T)) w' := by
  rw [run_slice_lh (P := Try.prog) w' 30 a L c elem30 .i64 .i64 T E (by omega) (by omega) (by omega)]
  obtain ⟨i, hi, hsz⟩ : ∃ i, Try.prog.info? (Try.prog.elem 30) = some i ∧ i.size = 1 := by
    have := size30
    cases hh : Try.prog.info? (Try.prog.elem 30) with
    | none => rw [hh] at this; cases this
    | some i => rw [hh] at this; exact ⟨i, rfl, by simpa using this⟩
  simp [sizeOf, typeInfo, hi, hsz, sliced, Result.andThen]
  omega
theorem slice_lt (b off L c T E m : Nat) (h : T + m = E) (hE : E ≤ c) (hT : T < c) : ∀ w', (Instr.slice 30 (.slice (some ⟨b, off, none⟩) L c) (some (.int .i64 (T : Int))) (some (.int .i64 (E : Int))) none).run Try.prog w' = .ok (.slice (some ⟨b, off + T, none⟩) m (c - T)) w' := fun w' => by
  rw [slice_run _ L c T E m h hE w', if_neg (by omega), Option.map_some, add_none]
theorem slice_eq (a : Option Addr) (L T : Nat) : ∀ w', (Instr.slice 30 (.slice a L T) (some (.int .i64 (T : Int))) (some (.int .i64 (T : Int))) none).run Try.prog w' = .ok (.slice a 0 0) w' := fun w' => by
  rw [slice_run a L T T T 0 rfl (Nat.le_refl _) w', if_pos rfl, Nat.sub_self]
theorem slice_zero (a : Option Addr) (L c T : Nat) (hT : T ≤ c) : ∃ x, ∀ w', (Instr.slice 30 (.slice a L c) (some (.int .i64 (T : Int))) (some (.int .i64 (T : Int))) none).run Try.prog w' = .ok (.slice x 0 (c - T)) w' :=
  ⟨_, fun w' => slice_run a L c T T 0 rfl hT w'⟩
end Go.Proofs.Ytmeplmhngmlnaaa
