/- same, awake. -/
import Derived.Test.YtgeabhnfkkkbgaaF
namespace Go.Proofs.Ytgeabhnfkkkbgaa
open Go.RowKit
set_option linter.unusedVariables false

theorem same_yes (a : Option Addr) (m cap : Nat) (a2 : Option Addr) (m2 cap2 : Nat) (l : List Int) (w : World) (h1 : l.length = m) (h2 : l.length = m2) (r1 : Row .u8 w a l) (r2 : Row .u8 w a2 l) :
    Calls Try.prog 13 #[.slice a m cap, .slice a2 m2 cap2] w fun e w' => e = .returned (.bool true) ∧ w = w' := by
  have c1 := conv_row E23 Try.underlying9 w a m cap l h1 r1
  have c2 := conv_row E23 Try.underlying9 w a2 m2 cap2 l h2 r2
  generalize strOfNums l = s at *
  clear r1 r2 h1 h2
  go_enter Try.func13, Try.ntmps13
  go_wp2
  go_ret
  exact ⟨ret_bool (by simp), rfl⟩
/-- Bytes written out in the text. -/
theorem lit_row (w : World) (l : List Int) (xs : Array Value) (h : xs = (cellsL .u8 l).toArray) : Row .u8 (w.alloc (.cells xs 5)) (some ⟨w.heap.size, 0, none⟩) l := by
  subst h
  exact (Blk.new w _ 5).row
theorem form300 : form 300 = [172, 2] := by
  rw [form_big (by decide), form_small (by decide)]; rfl
theorem good1 (l : List Int) (h1 : 1 ≤ l.length) (h : 128 ≤ l.getD 0 0) : Good l 1 := by
  refine ⟨by decide, h1, fun j hj => ?_⟩
  obtain rfl : j = 0 := by omega
  exact h
theorem get_300 : GetR [172, 2, 255] 300 2 0 := .inr (.inr ⟨1, by decide, good1 _ (by decide) (by decide), by decide, by decide, by decide, rfl, rfl⟩)
theorem get_800 : GetR [128, 0] 0 1 21 := .inr (.inl ⟨1, by decide, good1 _ (by decide) (by decide), by decide, rfl, rfl, rfl⟩)
theorem bys_of (l : List Int) (h : (l.all fun x => decide (0 ≤ x) && decide (x ≤ 255)) = true) : Bys l := by
  intro x hx
  have := List.all_eq_true.1 h x hx
  simpa using this
theorem get_at (a : Option Addr) (m cap : Nat) (l : List Int) (w : World) (n : Int) (u : Nat) (r : Int) (hg : GetR l n u r) (hl : l.length = m) (hm : m ≤ maxLen) (hrow : Row .u8 w a l) (hb : Bys l) :
    Calls Try.prog 11 #[.slice a m cap] w fun e w' => e = .returned (.tuple #[.int .u64 n, .int .i64 u, .int .i64 r]) ∧ w = w' := by
  refine (get_any a m cap l w hl hm hrow hb).mono ?_
  rintro e w' ⟨n', u', r', h1, rfl, rfl⟩
  obtain ⟨rfl, rfl, rfl⟩ := hg.det h1
  exact ⟨rfl, rfl⟩
theorem get_300c (w : World) : Calls Try.prog 11 #[.slice (some ⟨w.heap.size, 0, none⟩) 3 3] (w.alloc (.cells #[.int .u8 172, .int .u8 2, .int .u8 255] 5)) fun e w' => e = .returned (.tuple #[.int .u64 300, .int .i64 2, .int .i64 0]) ∧ w.alloc (.cells #[.int .u8 172, .int .u8 2, .int .u8 255] 5) = w' :=
  get_at _ 3 3 [172, 2, 255] _ 300 2 0 get_300 rfl (by unfold maxLen; omega) (lit_row w [172, 2, 255] _ rfl) (bys_of _ (by decide))
theorem get_800c (w : World) : Calls Try.prog 11 #[.slice (some ⟨w.heap.size, 0, none⟩) 2 2] (w.alloc (.cells #[.int .u8 128, .int .u8 0] 5)) fun e w' => e = .returned (.tuple #[.int .u64 0, .int .i64 1, .int .i64 21]) ∧ w.alloc (.cells #[.int .u8 128, .int .u8 0] 5) = w' :=
  get_at _ 2 2 [128, 0] _ 0 1 21 get_800 rfl (by unfold maxLen; omega) (lit_row w [128, 0] _ rfl) (bys_of _ (by decide))
theorem size_300 (w : World) : Calls Try.prog 10 #[.int .u64 300] w fun e w' => e = .returned (.int .i64 2) ∧ w = w' := by
  have h := size_any 300 w (by omega)
  rwa [show szN 300 = 2 from by decide +kernel] at h
theorem size_63 (w : World) : Calls Try.prog 10 #[.int .u64 9223372036854775808] w fun e w' => e = .returned (.int .i64 10) ∧ w = w' := by
  have h := size_any 9223372036854775808 w (by omega)
  rwa [show szN 9223372036854775808 = 10 from by decide +kernel] at h
theorem put_300 (w : World) : Calls Try.prog 9 #[.int .u64 300] w fun e w' => ∃ g, e = .returned (.slice (some ⟨g, 0, none⟩) 2 2) ∧ w.heap.size ≤ g ∧ Blk w' g 5 (cellsL .u8 [172, 2]) ∧ Below w.heap.size w w' := by
  have h := put_any 300 w (by omega)
  rwa [form300] at h
theorem byte_at (b : Nat) (st : St) (c : Int) (w : World) (d : Bool) (r : Int) (st' : St) (hd : doneS st c = d) (hr : errS st c = r) (hs : nextS st c = st') (h : Rdr w b st.1 st.2) (ht : TkS st) :
    Calls Try.prog 18 #[.pointer (some ⟨b, 0, none⟩), .int .u8 c] w fun e w' => e = .returned (.tuple #[.bool d, .int .i64 r]) ∧ Rdr w' b st'.1 st'.2 ∧ w'.heap.size = w.heap.size ∧ Upd (fun k => k = b) w w' := by
  subst hd hr hs
  exact byte_any b st c w h ht
theorem tk1 : TkS ([172], false) := TkS.start.next 172 (by decide) (by decide)
theorem tk2 : TkS ([172, 2], true) := tk1.next 2 (by decide) (by decide)
theorem load_172 (w : World) : Calls Try.prog 15 #[.slice (some ⟨w.heap.size, 0, none⟩) 1 1] (w.alloc (.cells #[.int .u8 172] 5)) fun e w' => ∃ b, e = .returned (.tuple #[.pointer (some ⟨b, 0, none⟩), .int .i64 0]) ∧ w.heap.size ≤ b ∧ Rdr w' b [172] false ∧ Below w.heap.size w w' := by
  have hB0 : Below w.heap.size w (w.alloc (.cells #[.int .u8 172] 5)) := (Below.refl _ _).alloc (Nat.le_refl _) _
  refine (load_any _ 1 1 [172] _ rfl (by unfold maxLen; omega) (lit_row w [172] _ rfl) (bys_of _ (by decide))).mono ?_
  rintro e w' ⟨hB, ⟨b, st, h1, rfl, h2, h3, h4⟩ | ⟨st, r, h1, h2, rfl⟩⟩
  · rw [show ldS ([], false) [172] = (([172], false), 0) from by decide] at h1
    injection h1 with h1 _
    subst h1
    exact ⟨b, rfl, Nat.le_trans hB0.size h2, h3, below_to hB0 hB⟩
  · rw [show ldS ([], false) [172] = (([172], false), 0) from by decide] at h1
    injection h1 with _ h1
    exact absurd h1.symm h2
theorem same_172 (w : World) (g : Nat) (h : Blk w g 5 (cellsL .u8 [172, 2])) : Calls Try.prog 13 #[.slice (some ⟨g, 0, none⟩) 2 2, .slice (some ⟨w.heap.size, 0, none⟩) 2 2] (w.alloc (.cells #[.int .u8 172, .int .u8 2] 5)) fun e w' => e = .returned (.bool true) ∧ w.alloc (.cells #[.int .u8 172, .int .u8 2] 5) = w' :=
  same_yes _ 2 2 _ 2 2 [172, 2] _ rfl rfl (h.alloc _).row (lit_row w [172, 2] _ rfl)
theorem same_300 (w : World) (g g2 : Nat) (h : Blk w g 5 (cellsL .u8 [172, 2])) (h2 : Blk w g2 5 (cellsL .u8 [172, 2])) : Calls Try.prog 13 #[.slice (some ⟨g, 0, none⟩) 2 2, .slice (some ⟨g2, 0, none⟩) 2 2] w fun e w' => e = .returned (.bool true) ∧ w = w' :=
  same_yes _ 2 2 _ 2 2 [172, 2] w rfl rfl h.row h2.row
theorem n_172 (b : Nat) (w : World) (h : Rdr w b [172] false) : Calls Try.prog 17 #[.pointer (some ⟨b, 0, none⟩)] w fun e w' => e = .returned (.int .u64 44) ∧ w.drew = w' := n_any b [172] false w h tk1.1
theorem n_300 (b : Nat) (w : World) (h : Rdr w b [172, 2] true) : Calls Try.prog 17 #[.pointer (some ⟨b, 0, none⟩)] w fun e w' => e = .returned (.int .u64 300) ∧ w.drew = w' := n_any b [172, 2] true w h tk2.1
theorem read_300 (b : Nat) (w : World) (h : Rdr w b [172, 2] true) : Calls Try.prog 16 #[.pointer (some ⟨b, 0, none⟩)] w fun e w' => ∃ g, e = .returned (.slice (some ⟨g, 0, none⟩) 2 2) ∧ w.heap.size ≤ g ∧ Blk w' g 5 (cellsL .u8 [172, 2]) ∧ Below w.heap.size w w' := read_any b [172, 2] true w h (by decide)
theorem byte_1 (b : Nat) (w : World) (h : Rdr w b [] false) : Calls Try.prog 18 #[.pointer (some ⟨b, 0, none⟩), .int .u8 172] w fun e w' => e = .returned (.tuple #[.bool false, .int .i64 0]) ∧ Rdr w' b [172] false ∧ w'.heap.size = w.heap.size ∧ Upd (fun k => k = b) w w' :=
  byte_at b ([], false) 172 w false 0 ([172], false) (by decide) (by decide) (by decide) h TkS.start
theorem byte_2 (b : Nat) (w : World) (h : Rdr w b [172] false) : Calls Try.prog 18 #[.pointer (some ⟨b, 0, none⟩), .int .u8 2] w fun e w' => e = .returned (.tuple #[.bool true, .int .i64 0]) ∧ Rdr w' b [172, 2] true ∧ w'.heap.size = w.heap.size ∧ Upd (fun k => k = b) w w' :=
  byte_at b ([172], false) 2 w true 0 ([172, 2], true) (by decide) (by decide) (by decide) h tk1
theorem byte_3 (b : Nat) (w : World) (h : Rdr w b [172, 2] true) : Calls Try.prog 18 #[.pointer (some ⟨b, 0, none⟩), .int .u8 0] w fun e w' => e = .returned (.tuple #[.bool false, .int .i64 30]) ∧ Rdr w' b [172, 2] true ∧ w'.heap.size = w.heap.size ∧ Upd (fun k => k = b) w w' :=
  byte_at b ([172, 2], true) 0 w false 30 ([172, 2], true) (by decide) (by decide) (by decide) h tk2
end Go.Proofs.Ytgeabhnfkkkbgaa
