/- New and To on a table that is not whole yet. -/
import Derived.Test.YtmeplmhngmlnaaaZk
namespace Go.Proofs.Ytmeplmhngmlnaaa
open Go.RowKit
set_option linter.unusedVariables false

section
variable {w w' : World} {bt : Nat} {pre : List Value} {vL vM : Value}
theorem TabAt.cell (t : TabAt w bt pre vL vM) (j : Nat) (hj : j < 8) : w.cell? ⟨bt, j, none⟩ = pre[j]? := by
  rw [t.2.cell j, List.getElem?_append_left (by rw [t.1]; exact hj)]
theorem TabAt.setp (t : TabAt w bt pre vL vM) (j : Nat) (hj : j < 8) (v : Value) : TabAt (w.setCell ⟨bt, j, none⟩ v) bt (pre.set j v) vL vM := by
  refine ⟨by rw [List.length_set]; exact t.1, ?_⟩
  have h := t.2.set j v
  rw [List.set_append_left _ _ (by rw [t.1]; exact hj)] at h
  exact h
theorem TabAt.has (t : TabAt w bt pre vL vM) (j : Nat) (hj : j < 8) : ∃ u, w.cell? ⟨bt, j, none⟩ = some u := ⟨_, by rw [t.cell j hj]; exact List.getElem?_eq_getElem (by rw [t.1]; exact hj)⟩
end
set_option maxHeartbeats 4000000 in
set_option maxRecDepth 100000 in
theorem new_raw (bt : Nat) (pre : List Value) (vL vM : Value) (W : Nat) (w : World) (t : Hid (TabAt w bt pre vL vM)) (hW : W < 2) :
    Calls Try.prog 24 #[.pointer (some ⟨bt, 0, none⟩), .int .i64 W, .agg #[.int .i64 1, .bool false, .int .i64 0, .int .i64 0, .int .u64 0, .slice none 0 0]] w fun e w' => ∃ b1 b2, e = .returned (.bool true) ∧ w.heap.size ≤ b1 ∧ b1 < b2 ∧ Hid (InAt w.heap.size w' b1 (.slice none 0 0) [] 0 false) ∧ Hid (RinAt w.heap.size w' b2 (.slice none 0 0) [] 0 0 false) ∧
      Hid (TabAt w' bt ((pre.set W (ptr b1)).set (2 + W) (ptr b2)) vL vM) ∧ Upd (fun q => q = bt) w w' := by
  have hW' : (W : Int) < 2 := by omega
  go_enter Try.func24, Try.ntmps24
  go_wp2_with fail
  obtain ⟨wB, hwB⟩ : ∃ wB, wB = w.alloc (box 1 false 0 0 0 none 0 0) := ⟨_, rfl⟩
  have hBB : Below w.heap.size w wB := by rw [hwB]; exact (Below.refl _ _).alloc (Nat.le_refl _) _
  have KB : Hid (Blk wB w.heap.size 53 (boxL 1 false 0 0 0 none 0 0)) := by rw [hwB]; exact box_new w _ _ _ _ _ _ _ _
  unfold box at hwB
  have hwB' : wB = w.alloc (.cells #[.int .i64 1, .bool false, .int .i64 0, .int .i64 0, .int .u64 0, .slice none 0 0] 53) := hwB
  rw [← hwB']
  clear hwB hwB'
  refine (new_yes 0 _ (by omega) (by omega)).mono ?_; rintro e w1 ⟨b1, rfl, hb1, HI1, hB1⟩
  have c2 : w1.cell? ⟨w.heap.size, 2, none⟩ = some (.int .i64 0) := (KB.out.later hB1).cell 2
  go_wp2_with fail
  refine (rnew_yes 0 _ (by omega) (by omega)).mono ?_; rintro e w2 ⟨b2, rfl, hb2, HR2, hB2⟩
  have hBw := below_to (below_to hBB hB1) hB2
  have T2 : Hid (TabAt w2 bt pre vL vM) := t.out.later hBw
  obtain ⟨u3, c3⟩ := T2.out.has W (by omega)
  have z3 := T2.out.z W
  have T3 : Hid (TabAt (w2.setCell ⟨bt, W, none⟩ (.pointer (some ⟨b1, 0, none⟩))) bt (pre.set W (ptr b1)) vL vM) := T2.out.setp W (by omega) (.pointer (some ⟨b1, 0, none⟩))
  obtain ⟨u4, c4⟩ := T3.out.has (2 + W) (by omega)
  have z4 := T2.out.z (2 + W)
  have T4 : Hid (TabAt ((w2.setCell ⟨bt, W, none⟩ (.pointer (some ⟨b1, 0, none⟩))).setCell ⟨bt, 2 + W, none⟩ (.pointer (some ⟨b2, 0, none⟩))) bt ((pre.set W (ptr b1)).set (2 + W) (ptr b2)) vL vM) := T3.out.setp (2 + W) (by omega) (.pointer (some ⟨b2, 0, none⟩))
  have h12 : b1 < b2 := by have := HI1.out.blk.lt; omega
  have hw1 : w.heap.size ≤ b1 := Nat.le_trans hBB.size hb1
  have hbt := t.out.2.lt
  have hU : Upd (fun q => q = bt) w ((w2.setCell ⟨bt, W, none⟩ (.pointer (some ⟨b1, 0, none⟩))).setCell ⟨bt, 2 + W, none⟩ (.pointer (some ⟨b2, 0, none⟩))) := ((Upd.of_below (S := fun q => q = bt) hBw).set ⟨bt, W, none⟩ _ (.inl rfl)).set ⟨bt, 2 + W, none⟩ _ (.inl rfl)
  have hu2 : Upd (fun q => q = bt) w2 ((w2.setCell ⟨bt, W, none⟩ (.pointer (some ⟨b1, 0, none⟩))).setCell ⟨bt, 2 + W, none⟩ (.pointer (some ⟨b2, 0, none⟩))) := ((Upd.refl (fun q => q = bt) w2).set ⟨bt, W, none⟩ _ (.inl rfl)).set ⟨bt, 2 + W, none⟩ _ (.inl rfl)
  have HI4 : Hid _ := ((HI1.out.later hB2).mono hBB.size).upd hu2 (fun q hq e => by
    rcases hq with h | h
    · omega
    · cases h)
  have HR4 : Hid _ := (HR2.out.mono (Nat.le_trans hBB.size hB1.size)).upd hu2 (fun q hq e => by
    rcases hq with h | h
    · omega
    · cases h)
  clear hu2 HI1 HR2 hB1 hB2 hBw T2 T3 KB c2 hb1 hb2
  go_wp2_with (go_at_call 8; refine (num_any _ _).mono ?_; rintro e w' ⟨rfl, rfl⟩)
  go_ret
  exact ⟨b1, b2, rfl, hw1, h12, HI4, HR4, T4, hU⟩
set_option maxHeartbeats 4000000 in
set_option maxRecDepth 100000 in
theorem to_raw (bt : Nat) (pre : List Value) (vL vM : Value) (W : Nat) (M : Int) (w : World) (t : Hid (TabAt w bt pre vL vM)) (hW : W < 2) (hM : 0 ≤ M) :
    Calls Try.prog 25 #[.pointer (some ⟨bt, 0, none⟩), .int .i64 W, .agg #[.int .i64 7, .bool false, .int .i64 M, .int .i64 0, .int .u64 0, .slice none 0 0]] w fun e w' => ∃ b1 b2, e = .returned (.bool true) ∧ w.heap.size ≤ b1 ∧ b1 < b2 ∧ Hid (OutAt 67 w.heap.size w' b1 (.slice none 0 0) [] M) ∧ Hid (OutAt 84 w.heap.size w' b2 (.slice none 0 0) [] M) ∧
      Hid (TabAt w' bt ((pre.set (4 + W) (ptr b1)).set (6 + W) (ptr b2)) vL vM) ∧ Upd (fun q => q = bt) w w' := by
  have hW' : (W : Int) < 2 := by omega
  go_enter Try.func25, Try.ntmps25
  go_wp2_with fail
  obtain ⟨wB, hwB⟩ : ∃ wB, wB = w.alloc (box 7 false M 0 0 none 0 0) := ⟨_, rfl⟩
  have hBB : Below w.heap.size w wB := by rw [hwB]; exact (Below.refl _ _).alloc (Nat.le_refl _) _
  have KB : Hid (Blk wB w.heap.size 53 (boxL 7 false M 0 0 none 0 0)) := by rw [hwB]; exact box_new w _ _ _ _ _ _ _ _
  unfold box at hwB
  have hwB' : wB = w.alloc (.cells #[.int .i64 7, .bool false, .int .i64 M, .int .i64 0, .int .u64 0, .slice none 0 0] 53) := hwB
  rw [← hwB']
  clear hwB hwB'
  refine (to_yes M _ hM).mono ?_; rintro e w1 ⟨b1, rfl, hb1, HI1, hB1⟩
  have c2 : w1.cell? ⟨w.heap.size, 2, none⟩ = some (.int .i64 M) := (KB.out.later hB1).cell 2
  go_wp2_with fail
  refine (rto_yes M _ hM).mono ?_; rintro e w2 ⟨b2, rfl, hb2, HR2, hB2⟩
  have hBw := below_to (below_to hBB hB1) hB2
  have T2 : Hid (TabAt w2 bt pre vL vM) := t.out.later hBw
  obtain ⟨u3, c3⟩ := T2.out.has (4 + W) (by omega)
  have z3 := T2.out.z (4 + W)
  have T3 : Hid (TabAt (w2.setCell ⟨bt, 4 + W, none⟩ (.pointer (some ⟨b1, 0, none⟩))) bt (pre.set (4 + W) (ptr b1)) vL vM) := T2.out.setp (4 + W) (by omega) (.pointer (some ⟨b1, 0, none⟩))
  obtain ⟨u4, c4⟩ := T3.out.has (6 + W) (by omega)
  have z4 := T2.out.z (6 + W)
  have T4 : Hid (TabAt ((w2.setCell ⟨bt, 4 + W, none⟩ (.pointer (some ⟨b1, 0, none⟩))).setCell ⟨bt, 6 + W, none⟩ (.pointer (some ⟨b2, 0, none⟩))) bt ((pre.set (4 + W) (ptr b1)).set (6 + W) (ptr b2)) vL vM) := T3.out.setp (6 + W) (by omega) (.pointer (some ⟨b2, 0, none⟩))
  have h12 : b1 < b2 := by have := HI1.out.blk.lt; omega
  have hw1 : w.heap.size ≤ b1 := Nat.le_trans hBB.size hb1
  have hbt := t.out.2.lt
  have hU : Upd (fun q => q = bt) w ((w2.setCell ⟨bt, 4 + W, none⟩ (.pointer (some ⟨b1, 0, none⟩))).setCell ⟨bt, 6 + W, none⟩ (.pointer (some ⟨b2, 0, none⟩))) := ((Upd.of_below (S := fun q => q = bt) hBw).set ⟨bt, 4 + W, none⟩ _ (.inl rfl)).set ⟨bt, 6 + W, none⟩ _ (.inl rfl)
  have hu2 : Upd (fun q => q = bt) w2 ((w2.setCell ⟨bt, 4 + W, none⟩ (.pointer (some ⟨b1, 0, none⟩))).setCell ⟨bt, 6 + W, none⟩ (.pointer (some ⟨b2, 0, none⟩))) := ((Upd.refl (fun q => q = bt) w2).set ⟨bt, 4 + W, none⟩ _ (.inl rfl)).set ⟨bt, 6 + W, none⟩ _ (.inl rfl)
  have HI4 : Hid _ := ((HI1.out.later hB2).mono hBB.size).upd hu2 (fun q hq e => by
    rcases hq with h | h
    · omega
    · cases h)
  have HR4 : Hid _ := (HR2.out.mono (Nat.le_trans hBB.size hB1.size)).upd hu2 (fun q hq e => by
    rcases hq with h | h
    · omega
    · cases h)
  clear hu2 HI1 HR2 hB1 hB2 hBw T2 T3 KB c2 hb1 hb2
  go_wp2_with (go_at_call 8; refine (num_any _ _).mono ?_; rintro e w' ⟨rfl, rfl⟩)
  go_ret
  exact ⟨b1, b2, rfl, hw1, h12, HI4, HR4, T4, hU⟩
end Go.Proofs.Ytmeplmhngmlnaaa
