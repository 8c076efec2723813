import Derived.Test.YtcmkdkocponpiaaPart03
import Derived.Test.YtcmkdkocponpiaaPart05
import Derived.Test.YtcmkdkocponpiaaPart07
import Derived.Deep.OwnRows
import Derived.Test.YtcmkdkocponpiaaProg

/- Lists of integers of the call's own; whether two lists of integers are the same. -/
namespace Go.Proofs.Ytcmkdkocponpiaa
open Go.RowKit
set_option linter.unusedVariables false

theorem elI : Elem Try.prog 37 3 .i64 8 := ⟨Try.underlying37, Try.underlying3, by kernel_rfl⟩
/-- A list of integers of the call's own. -/
def IOwn (w : World) (B : Nat) (v : Value) (l : List Int) : Prop := w.ownsRow B 3 1 v l.length (cellsL .i64 l)
theorem IOwn.upd {w w' : World} {B : Nat} {v : Value} {l : List Int} {S : Nat → Prop} (h : IOwn w B v l) (hu : Upd S w w') (hs : ∀ k, v.ownBlock = some k → ¬ S k) : IOwn w' B v l := owns_upd h hu hs
theorem IOwn.later {w w' : World} {B : Nat} {v : Value} {l : List Int} (h : IOwn w B v l) (hB : Below w.heap.size w w') : IOwn w' B v l := h.upd (Upd.of_below (S := fun _ => False) hB) (fun _ _ h => h)
theorem IOwn.push {w : World} {B : Nat} {v : Value} {l : List Int} (h : IOwn w B v l) (x : Int) (hl : l.length ≤ 17592186044415) (hB : B ≤ w.heap.size) :
    ∃ g cap w', (Builtin.append_ #[37, 37] 37 #[v, .slice (some ⟨w.heap.size, 0, none⟩) 1 1]).run Try.prog (w.alloc (.cells #[.int .i64 x] 3)) = .ok (.slice (some ⟨g, 0, none⟩) (l.length + 1) cap) w' ∧
      IOwn w' B (.slice (some ⟨g, 0, none⟩) (l.length + 1) cap) (l ++ [x]) ∧ Upd (fun k => v.ownBlock = some k) w w' ∧ (v.ownBlock = some g ∨ w.heap.size ≤ g) := by
  obtain ⟨g, cap, w', h1, h2, h3, h4⟩ := run_push elI w 37 B v l.length l h x (by unfold maxLen; omega) (by omega) hB
  refine ⟨g, cap, w', h1, ?_, h3, h4⟩
  unfold IOwn
  rw [List.length_append, List.length_singleton]
  exact h2
theorem IOwn.slice {w : World} {B : Nat} {v : Value} {l : List Int} (h : IOwn w B v l) : ∃ a c, v = .slice a l.length c := by
  obtain ⟨a, c, e, _⟩ := own_open h rfl
  exact ⟨a, c, e⟩
theorem IOwn.row {w : World} {B : Nat} {v : Value} {l : List Int} (h : IOwn w B v l) : ∃ a c, v = .slice a l.length c ∧ Row .i64 w a l ∧ (a = none → c = 0) ∧ l.length ≤ c := by
  obtain ⟨a, c, e, h1, h2, h3, _⟩ := own_open h rfl
  exact ⟨a, c, e, h1, h2, h3⟩
theorem IOwn.nil (w : World) (B : Nat) : IOwn w B (.slice none 0 0) [] := World.ownsRow_nil _ _ _ _
theorem IOwn.lies {w : World} {B : Nat} {v : Value} {l : List Int} (h : IOwn w B v l) {k : Nat} (hk : v.ownBlock = some k) : B ≤ k ∧ k < w.heap.size := h.lt k hk
/-- A number written into a list of the call's own. -/
theorem IOwn.set {w : World} {B g n cap i : Nat} {l : List Int} (h : IOwn w B (.slice (some ⟨g, 0, none⟩) n cap) l) (hi : i < l.length) (x : Int) : IOwn (w.setCell ⟨g, i, none⟩ (.int .i64 x)) B (.slice (some ⟨g, 0, none⟩) n cap) (l.set i x) := by
  obtain ⟨g', cap', ys, e, hb, hn, hm, hys, ht, hk⟩ := ownS_blk h (by omega)
  injection e with e1 e2 e3
  injection e1 with e1
  injection e1 with e1 _ _
  subst e1 e2 e3
  have hk2 := hk.set i (.int .i64 x)
  have h2 := ownS_of_blk (B := B) (n := l.length) (c := 1) (cap := cap) hk2 hb (by simp [hys]) hn hm
  have e4 : (ys.set i (.int .i64 x)).take (l.length * 1) = cellsL .i64 (l.set i x) := by
    rw [List.take_set, ht]
    simp [cellsL, List.map_set]
  unfold IOwn
  rw [List.length_set, ← e4]
  exact h2
theorem makeI (n : Nat) (hn : n ≤ 17592186044415) (w : World) : (Instr.makeSlice 37 (.int .i64 0) (.int .i64 (n : Int))).run Try.prog w = .ok (.slice (some ⟨w.heap.size, 0, none⟩) 0 n) (w.alloc (.cells (madeCells #[.int .i64 0] n) 3)) := by
  obtain ⟨i0, hi, hz0, hz1, hz2⟩ := info_parts elI.info
  have hb : (i0.bytes : Int) * (n : Int) ≤ 281474976710656 := by rw [hz2]; omega
  have hr := run_make (P := Try.prog) w 37 3 i0 (.int .i64 0) Try.underlying37 hi hz0 .i64 .i64 0 n (by omega) (by omega) hb (by omega)
  rw [Int.toNat_natCast, hz1, Nat.mul_one] at hr
  exact hr
theorem IOwn.made (w : World) (n : Nat) (hn : n ≤ 17592186044415) : IOwn (w.alloc (.cells (madeCells #[.int .i64 0] n) 3)) w.heap.size (.slice (some ⟨w.heap.size, 0, none⟩) 0 n) [] := by
  have h := ownS_of_blk (c := 1) (n := 0) (cap := n) (Blk.newA w (madeCells #[.int .i64 0] n) 3) (Nat.le_refl _) (by simp [size_madeCells]) (Nat.zero_le _) (by unfold maxLen; omega)
  simpa [IOwn, cellsL] using h
theorem i64w (n : Int) (h : -9223372036854775808 ≤ n ∧ n ≤ 9223372036854775807) : IntKind.i64.wrap n = n := by rw [IntKind.wrap_i64]; omega
theorem belowN {w : World} : Below w.heap.size w w := Below.refl _ _
end Go.Proofs.Ytcmkdkocponpiaa
