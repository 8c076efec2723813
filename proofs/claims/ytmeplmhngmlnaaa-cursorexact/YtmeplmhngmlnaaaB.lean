/- The inputs' calls. -/
import Derived.Test.YtmeplmhngmlnaaaA
import Derived.Test.YtmeplmhngmlnaaaChecked
namespace Go.Proofs.Ytmeplmhngmlnaaa
open Go.RowKit
set_option linter.unusedVariables false

theorem E30 : Elem Try.prog 30 5 .u8 1 := ⟨Try.underlying30, Try.underlying5, by kernel_rfl⟩
theorem num_any (x : Int) (w : World) : Calls Try.prog 8 #[.int .i64 x] w fun e w' => e = .returned (.int .i64 x) ∧ w = w' := by
  go_enter Try.func8, Try.ntmps8
  go_wp2
  go_ret
  exact ⟨rfl, rfl⟩
/-- make([]byte, n). -/
theorem make_row (w : World) (n : Nat) (hn : n ≤ 140737488351232) :
    ∃ w1, (Instr.makeSlice 30 (.int .i64 (n : Int)) (.int .i64 (n : Int))).run Try.prog w = .ok (.slice (some ⟨w.heap.size, 0, none⟩) n n) w1 ∧ Blk w1 w.heap.size 5 (cellsL .u8 (List.replicate n 0)) ∧ Below w.heap.size w w1 := by
  obtain ⟨i0, hi, hz0, hz1, hz2⟩ := info_parts E30.info
  have hb : (i0.bytes : Int) * (n : Int) ≤ 281474976710656 := by rw [hz2]; omega
  have hr := run_make (P := Try.prog) w 30 5 i0 (.int .u8 0) E30.sl hi hz0 .i64 .i64 n n (by omega) (Int.le_refl _) hb (by omega)
  rw [Int.toNat_natCast, hz1, Nat.mul_one] at hr
  refine ⟨_, hr, ?_, (Below.refl _ _).alloc (Nat.le_refl _) _⟩
  have e : (madeCells (Value.cells (.int .u8 0)) n).toList = cellsL .u8 (List.replicate n 0) := by
    apply List.ext_getElem?
    intro i
    by_cases h : i < n <;> simp [madeCells, cellsL, Value.cells, Nat.mod_one, h]
  rw [← e]
  exact Blk.newA w _ _
theorem copy_row (w w1 : World) (ty g n cap : Nat) (a : Option Addr) (l z : List Int) (hl : l.length = n) (hz : z.length = n) (hb : Blk w1 g 5 (cellsL .u8 z)) (hr : Row .u8 w1 a l) (hB : Below w.heap.size w w1) (hg : w.heap.size ≤ g) :
    ∃ w2, (Builtin.copy_ #[30, 30] ty #[.slice (some ⟨g, 0, none⟩) n n, .slice a n cap]).run Try.prog w1 = .ok (.int .i64 n) w2 ∧ Blk w2 g 5 (cellsL .u8 l) ∧ Below w.heap.size w w2 := by
  subst hl
  by_cases h0 : l = []
  · subst h0
    obtain rfl : z = [] := List.length_eq_zero_iff.1 hz
    exact ⟨w1, run_copy_none (P := Try.prog) w1 30 30 ty 5 _ _ 0 0 0 cap E30.sl (by kernel_rfl) rfl, hb, hB⟩
  · obtain ⟨b, off, rfl, hbl, hc⟩ := hr.open (List.length_pos_iff.2 h0)
    have hcp := run_copy_row (P := Try.prog) w1 30 30 ty 5 g 0 l.length l.length ⟨b, off, none⟩ l.length cap (cellsL .u8 z).toArray 5 (cellsL .u8 l) E30.sl (by kernel_rfl) hb
      (by rw [cellsL_length]; exact (Nat.min_self _).symm)
      (fun j v hj => by
        obtain ⟨h1, rfl⟩ := cellsL_get _ _ _ _ hj
        rw [add_none]
        exact hc j h1)
      (by simp [cellsL_length, hz]) (cellsL_one _ _)
    have e : ((cellsL .u8 z).toArray.toList.take 0 ++ cellsL .u8 l ++ (cellsL .u8 z).toArray.toList.drop (0 + (cellsL .u8 l).length)).toArray = (cellsL .u8 l).toArray := by
      simp [cellsL, hz]
    rw [e, cellsL_length] at hcp
    exact ⟨_, hcp, setRow_heap w1 g _ _ 5 (0, 0) hb, hB.trans (below_setRow (Below.refl _ _) hg _)⟩

set_option maxHeartbeats 1000000 in
theorem copied_any (a : Option Addr) (n cap : Nat) (l : List Int) (w : World) (hl : Hid (l.length = n)) (hr : Hid (Row .u8 w a l)) (hn : n ≤ 140737488351232) :
    Calls Try.prog 27 #[.slice a n cap] w fun e w' => ∃ g, e = .returned (.slice (some ⟨g, 0, none⟩) n n) ∧ w.heap.size ≤ g ∧ Hid (Blk w' g 5 (cellsL .u8 l)) ∧ Below w.heap.size w w' := by
  obtain ⟨w1, hmk, hb1, hB1⟩ := make_row w n hn
  obtain ⟨w2, hcp, hb2, hB2⟩ := copy_row w w1 3 w.heap.size n cap a l _ hl.out (by simp) hb1 (hr.out.later hB1) hB1 (Nat.le_refl _)
  have HB2 : Hid _ := hb2
  clear hb1 hb2 hr hl
  obtain ⟨g, hg⟩ : ∃ g, w.heap.size = g := ⟨_, rfl⟩
  have hgg : w.heap.size ≤ g := by omega
  rw [hg] at hmk hcp HB2
  clear hg
  go_enter Try.func27, Try.ntmps27
  go_wp2
  go_ret
  exact ⟨g, rfl, hgg, HB2, hB2⟩

/-! ### An input -/
structure InAt (B : Nat) (w : World) (b : Nat) (v : Value) (h : List Int) (p : Int) (en : Bool) : Prop where
  blk : Blk w b 71 [v, .int .i64 p, .bool en]
  held : Tail B w 5 .u8 v h
  lo : B ≤ b
/-- Its blocks. -/
def FI (b : Nat) (v : Value) (k : Nat) : Prop := k = b ∨ v.ownBlock = some k
section
variable {B b : Nat} {w w' : World} {v : Value} {h : List Int} {p : Int} {en : Bool}
theorem InAt.upd {S : Nat → Prop} (i : InAt B w b v h p en) (hu : Upd S w w') (hs : ∀ k, FI b v k → ¬ S k) : InAt B w' b v h p en :=
  ⟨i.blk.upd hu (hs _ (.inl rfl)), i.held.upd hu (fun q hq => hs q (.inr hq)), i.lo⟩
theorem InAt.later (i : InAt B w b v h p en) (hB : Below w.heap.size w w') : InAt B w' b v h p en := i.upd (Upd.of_below (S := fun _ => False) hB) (fun _ _ h => h)
theorem InAt.fi (i : InAt B w b v h p en) (k : Nat) (hk : FI b v k) : B ≤ k ∧ k < w.heap.size := by
  rcases hk with rfl | hk
  · exact ⟨i.lo, i.blk.lt⟩
  · exact i.held.lt k hk
theorem InAt.sep (i : InAt B w b v h p en) : v.ownBlock ≠ some b := by
  intro e
  rcases i.held with ⟨rfl, _⟩ | ⟨g, cap, pre, post, rfl, _, h2, _⟩
  · cases e
  · injection e with e
    have e' : g = b := e
    subst e'
    exact blk_ne h2 i.blk (by decide) rfl
theorem InAt.c0 (i : InAt B w b v h p en) : w.cell? ⟨b, 0, none⟩ = some v := i.blk.cell 0
theorem InAt.c1 (i : InAt B w b v h p en) : w.cell? ⟨b, 1, none⟩ = some (.int .i64 p) := i.blk.cell 1
theorem InAt.c2 (i : InAt B w b v h p en) : w.cell? ⟨b, 2, none⟩ = some (.bool en) := i.blk.cell 2
/-- The fields are written. -/
theorem InAt.put (i : InAt B w b v h p en) {w2 : World} {v2 v' : Value} {h' : List Int} {p' : Int} {en' : Bool} (hu : Upd (fun q => v.ownBlock = some q) w w2) (hb : Blk w2 b 71 [v', .int .i64 p', .bool en']) (ht : Tail B w2 5 .u8 v' h') : InAt B w2 b v' h' p' en' := ⟨hb, ht, i.lo⟩
end

theorem at_any (B b : Nat) (v : Value) (h : List Int) (p : Int) (en : Bool) (w : World) (i : Hid (InAt B w b v h p en)) :
    Calls Try.prog 19 #[.pointer (some ⟨b, 0, none⟩)] w fun e w' => e = .returned (.int .i64 p) ∧ w = w' := by
  have c1 := i.out.c1
  go_enter Try.func19, Try.ntmps19
  go_wp2
  go_ret
  exact ⟨rfl, rfl⟩
theorem ended_any (B b : Nat) (v : Value) (h : List Int) (p : Int) (en : Bool) (w : World) (i : Hid (InAt B w b v h p en)) :
    Calls Try.prog 21 #[.pointer (some ⟨b, 0, none⟩)] w fun e w' => e = .returned (.bool en) ∧ w = w' := by
  have c1 := i.out.c2
  go_enter Try.func21, Try.ntmps21
  go_wp2
  go_ret
  exact ⟨rfl, rfl⟩
theorem held_any (B b : Nat) (v : Value) (h : List Int) (p : Int) (en : Bool) (w : World) (n : Nat) (hn : Hid (h.length = n)) (i : Hid (InAt B w b v h p en)) :
    Calls Try.prog 20 #[.pointer (some ⟨b, 0, none⟩)] w fun e w' => e = .returned (.int .i64 n) ∧ w = w' := by
  have c0 := i.out.c0
  obtain ⟨a, cap, rfl, -⟩ := i.out.held.open
  rw [hn.out] at c0
  go_enter Try.func20, Try.ntmps20
  go_wp2
  go_ret
  exact ⟨rfl, rfl⟩
theorem holds_any (B b : Nat) (v : Value) (h : List Int) (p : Int) (en : Bool) (m : Int) (w : World) (n : Nat) (hn : Hid (h.length = n)) (i : Hid (InAt B w b v h p en)) :
    Calls Try.prog 29 #[.pointer (some ⟨b, 0, none⟩), .int .i64 m] w fun e w' => e = .returned (.bool (decide (0 ≤ m ∧ m ≤ n))) ∧ w = w' := by
  have c0 := i.out.c0
  obtain ⟨a, cap, rfl, -⟩ := i.out.held.open
  rw [hn.out] at c0
  by_cases h0 : 0 ≤ m
  · go_enter Try.func29, Try.ntmps29
    go_wp2
    go_ret
    exact ⟨by simp [h0], rfl⟩
  · go_enter Try.func29, Try.ntmps29
    go_wp2
    go_ret
    exact ⟨by simp; omega, rfl⟩
theorem new_yes (m : Int) (w : World) (h0 : 0 ≤ m) (h1 : m ≤ 2147483647) :
    Calls Try.prog 13 #[.int .i64 m] w fun e w' => ∃ b, e = .returned (.tuple #[.pointer (some ⟨b, 0, none⟩), .int .i64 0]) ∧ w.heap.size ≤ b ∧ Hid (InAt w.heap.size w' b (.slice none 0 0) [] m false) ∧ Below w.heap.size w w' := by
  go_enter Try.func13, Try.ntmps13
  go_wp2
  go_ret2
  exact ⟨w.heap.size, rfl, Nat.le_refl _, ⟨Blk.newA w _ _, Tail.nil _ _ _ _, Nat.le_refl _⟩, (Below.refl _ _).alloc (Nat.le_refl _) _⟩
theorem new_no (m : Int) (w : World) (h : ¬ (0 ≤ m ∧ m ≤ 2147483647)) :
    Calls Try.prog 13 #[.int .i64 m] w fun e w' => e = .returned (.tuple #[.pointer none, .int .i64 3]) ∧ w = w' := by
  by_cases h0 : 0 ≤ m
  · have h1 : ¬ m ≤ 2147483647 := by omega
    clear h
    go_enter Try.func13, Try.ntmps13
    go_wp2
    go_ret2
    exact ⟨rfl, rfl⟩
  · clear h
    go_enter Try.func13, Try.ntmps13
    go_wp2
    go_ret2
    exact ⟨rfl, rfl⟩
theorem end_any (B b : Nat) (v : Value) (h : List Int) (p : Int) (en : Bool) (w : World) (i : Hid (InAt B w b v h p en)) :
    Calls Try.prog 22 #[.pointer (some ⟨b, 0, none⟩)] w fun e w' => e = .returned (.int .i64 (if en then 30 else 0)) ∧ Hid (InAt B w' b v h p true) ∧ Upd (FI b v) w w' := by
  have c2 := i.out.c2
  have z2 := i.out.blk.frozen 2
  cases en with
  | true =>
    go_enter Try.func22, Try.ntmps22
    go_wp2
    go_ret
    exact ⟨rfl, i, Upd.refl _ _⟩
  | false =>
    go_enter Try.func22, Try.ntmps22
    go_wp2
    go_ret
    have hu : Upd (FI b v) w (w.setCell ⟨b, 2, none⟩ (.bool true)) := (Upd.refl _ w).set _ _ (.inl (.inl rfl))
    refine ⟨rfl, ⟨i.out.blk.set 2 _, i.out.held.upd ((Upd.refl (fun q => q = b) w).set ⟨b, 2, none⟩ _ (.inl rfl)) (fun q hq e => i.out.sep (by rw [← e]; exact hq)), i.out.lo⟩, hu⟩
end Go.Proofs.Ytmeplmhngmlnaaa
