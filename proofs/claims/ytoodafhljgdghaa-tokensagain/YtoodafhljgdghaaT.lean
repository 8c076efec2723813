/- fill; bytes that grow. -/
import Derived.Test.YtoodafhljgdghaaRa
import Derived.Lib.AppendStr
namespace Go.Proofs.Ytoodafhljgdghaa
open Go.RowKit
set_option linter.unusedVariables false

set_option maxRecDepth 100000 in
set_option maxHeartbeats 4000000 in
theorem fill_any (k : Int) (w : World) : Calls Try.prog 14 #[.int .i64 k] w fun e w' => ∃ F : ByteArray, e = .returned (.string F) ∧ Hid (IsFill F.data.toList ∧ F.size ≤ 16) ∧ w = w' := by
  go_enter Try.func14, Try.ntmps14
  go_upto_region 2 with fail
  obtain ⟨y, hy⟩ : ∃ y, bits BinOp.and IntKind.i64 k 7 = y := ⟨_, rfl⟩
  rw [hy]
  clear hy
  by_cases h1 : y = 1
  · subst h1; go_wp2; go_ret; exact ⟨_, rfl, ⟨⟨by decide, _, _, rfl, by decide⟩, by decide⟩, rfl⟩
  by_cases h2 : y = 2
  · subst h2; go_wp2; go_ret; exact ⟨_, rfl, ⟨⟨by decide, _, _, rfl, by decide⟩, by decide⟩, rfl⟩
  by_cases h3 : y = 3
  · subst h3; go_wp2; go_ret; exact ⟨_, rfl, ⟨⟨by decide, _, _, rfl, by decide⟩, by decide⟩, rfl⟩
  by_cases h4 : y = 4
  · subst h4; go_wp2; go_ret; exact ⟨_, rfl, ⟨⟨by decide, _, _, rfl, by decide⟩, by decide⟩, rfl⟩
  by_cases h5 : y = 5
  · subst h5; go_wp2; go_ret; exact ⟨_, rfl, ⟨⟨by decide, _, _, rfl, by decide⟩, by decide⟩, rfl⟩
  go_wp2
  go_ret
  exact ⟨_, rfl, ⟨⟨by decide, _, _, rfl, by decide⟩, by decide⟩, rfl⟩
def BR (B : Nat) (w : World) (v : Value) (l : List UInt8) : Prop := w.ownsRow B 5 1 v l.length (Lib.byteCells l)
theorem byteCells_app (a b : List UInt8) : Lib.byteCells (a ++ b) = Lib.byteCells a ++ Lib.byteCells b := by simp [Lib.byteCells]
theorem E40 : Elem Try.prog 40 5 .u8 1 := ⟨Try.underlying40, Try.underlying5, by kernel_rfl⟩
section
variable {B : Nat} {w w' : World} {v : Value} {l : List UInt8}
theorem BR.nil (B : Nat) (w : World) : BR B w (.slice none 0 0) [] := World.ownsRow_nil _ _ _ _
theorem BR.form (h : BR B w v l) : ∃ a cap, v = .slice a l.length cap := by
  rcases h.2 with ⟨rfl, h0⟩ | ⟨g, cap, cur, rfl, _⟩
  · exact ⟨none, 0, by rw [h0]⟩
  · exact ⟨_, cap, rfl⟩
theorem BR.app (h : BR B w v l) (s : ByteArray) (hl : l.length ≤ 1000000000) (hs : s.size ≤ 1000000000) (hB : B ≤ w.heap.size) :
    ∃ v' w', (Builtin.append_ #[40, 9] 40 #[v, .string s]).run Try.prog w = .ok v' w' ∧ BR B w' v' (l ++ s.data.toList) ∧ Upd (fun k => v.ownBlock = some k) w w' := by
  obtain ⟨i0, hi, hz0, hz1, hz2⟩ := info_parts E40.info
  obtain ⟨v', w', h1, h2, h3, -⟩ := Lib.run_append_own_string (P := Try.prog) w B 40 9 40 5 i0 Try.underlying40 Try.underlying9 hi hz0 hz1 hz2 v l.length _ h s (by unfold maxLen; omega) (by omega) hB
  refine ⟨v', w', h1, ?_, (Upd.refl _ w).grown h3 (fun k hk => .inl hk)⟩
  unfold BR
  rw [byteCells_app, List.length_append, ← Lib.size_eq]
  exact h2
theorem cells_ints (l : List UInt8) : Lib.byteCells l = cellsL .u8 (l.map fun b => (b.toNat : Int)) := by simp [Lib.byteCells, cellsL]
theorem nums_back (l : List UInt8) : strOfNums (l.map fun b => (b.toNat : Int)) = ⟨l.toArray⟩ := by
  unfold strOfNums
  rw [List.map_map]
  have e : ((fun n : Int => UInt8.ofNat n.toNat) ∘ fun b : UInt8 => (b.toNat : Int)) = id := by funext b; simp
  rw [e, List.map_id]
theorem BR.conv (h : BR B w v l) : ∃ a cap, v = .slice a l.length cap ∧ (convert 40 9 (.slice a l.length cap)).run Try.prog w = .ok (.string ⟨l.toArray⟩) w := by
  have hr : ∃ a cap, v = .slice a l.length cap ∧ Row .u8 w a (l.map fun b => (b.toNat : Int)) := by
    rcases Nat.eq_zero_or_pos l.length with h0 | h0
    · obtain ⟨a, cap, rfl⟩ := h.form
      have : l = [] := List.eq_nil_of_length_eq_zero h0
      subst this
      refine ⟨a, cap, rfl, ?_⟩
      cases a with
      | none => exact .inl ⟨rfl, rfl⟩
      | some x => exact .inr ⟨x, rfl, fun i hi => by simp at hi⟩
    · obtain ⟨g, cap, ys, rfl, hb, hn, hm, hl, ht, hK⟩ := ownS_blk h h0
      refine ⟨_, cap, rfl, Row.mk fun i hi => ?_⟩
      rw [List.length_map] at hi
      rw [hK.cell, Nat.zero_add]
      have e : ys[i]? = (Lib.byteCells l)[i]? := by rw [← ht, List.getElem?_take, if_pos (by omega)]
      rw [e]
      simp [Lib.byteCells, List.getD, hi]
  obtain ⟨a, cap, rfl, hrow⟩ := hr
  refine ⟨a, cap, rfl, ?_⟩
  have := conv_row E40 Try.underlying9 w a l.length cap _ (by simp) hrow
  rw [nums_back] at this
  exact this
end
end Go.Proofs.Ytoodafhljgdghaa
