/- lent and kept: copies with two marks behind. -/
import Derived.Test.YtgeabhnfkkkbgaaM
namespace Go.Proofs.Ytgeabhnfkkkbgaa
open Go.RowKit
set_option linter.unusedVariables false

theorem marks_row (w : World) : Row .u8 (w.alloc (.cells #[.int .u8 90, .int .u8 128] 5)) (some ⟨w.heap.size, 0, none⟩) [90, 128] := lit_row w [90, 128] _ rfl
/-- A copy at block g, with the marks behind. -/
structure Lent (w : World) (g c : Nat) (l : List Int) : Prop where
  blk : ∃ ys, Blk w g 5 ys ∧ ys.length = c ∧ ys.take (l.length + 2) = cellsL .u8 (l ++ [90, 128])
  room : l.length + 2 ≤ c
  max : c ≤ maxLen
theorem Lent.upd {w w' : World} {g c : Nat} {l : List Int} {S : Nat → Prop} (h : Lent w g c l) (hu : Upd S w w') (hs : ¬ S g) : Lent w' g c l := by
  obtain ⟨ys, h1, h2⟩ := h.blk
  exact ⟨⟨ys, h1.upd hu hs, h2⟩, h.room, h.max⟩
theorem Lent.later {w w' : World} {g c : Nat} {l : List Int} (h : Lent w g c l) (hB : Below w.heap.size w w') : Lent w' g c l := h.upd (Upd.of_below (S := fun _ => False) hB) (fun h => h)
theorem Lent.cell {w : World} {g c : Nat} {l : List Int} (h : Lent w g c l) (i : Nat) (hi : i < l.length + 2) : w.cell? ⟨g, i, none⟩ = some (.int .u8 ((l ++ [90, 128]).getD i 0)) := by
  obtain ⟨ys, h1, h2, h3⟩ := h.blk
  rw [h1.cell i]
  have e : (ys.take (l.length + 2))[i]? = ys[i]? := by rw [List.getElem?_take, if_pos hi]
  rw [← e, h3, cellsL_at _ _ _ (by simpa using hi)]
theorem Lent.row {w : World} {g c : Nat} {l : List Int} (h : Lent w g c l) : Row .u8 w (some ⟨g, 0, none⟩) l := by
  refine Row.mk fun i hi => ?_
  rw [Nat.zero_add, h.cell i (by omega), getD_app_left _ _ _ hi]
theorem Lent.m0 {w : World} {g c : Nat} {l : List Int} (h : Lent w g c l) : w.cell? ⟨g, l.length, none⟩ = some (.int .u8 90) := by
  rw [h.cell l.length (by omega)]
  simp [List.getD]
theorem Lent.m1 {w : World} {g c : Nat} {l : List Int} (h : Lent w g c l) : w.cell? ⟨g, l.length + 1, none⟩ = some (.int .u8 128) := by
  rw [h.cell (l.length + 1) (by omega)]
  simp [List.getD]

set_option maxHeartbeats 1000000 in
theorem lent_any (a : Option Addr) (len cap : Nat) (l : List Int) (w : World) (hl : Hid (l.length = len)) (hrow : Hid (Row .u8 w a l)) (hnil : Hid (a = none → cap = 0)) (hr : len ≤ 140737488351232) :
    Calls Try.prog 28 #[.slice a len cap] w fun e w' => ∃ g c, e = .returned (.slice (some ⟨g, 0, none⟩) len c) ∧ w.heap.size ≤ g ∧ Hid (Lent w' g c l) ∧ Below w.heap.size w w' := by
  obtain ⟨v1, w2, hr1, ho1, hg1⟩ := run_copy E23 w 23 w.heap.size a len cap l hl.out hrow.out hnil.out (by unfold maxLen; omega) (by omega) (Nat.le_refl _)
  have hB2 : Below w.heap.size w w2 := (Below.refl _ _).grown hg1 (Nat.le_refl _) (fun k hk => by cases hk)
  obtain ⟨v2, w3, hr2, ho2, hg2⟩ := run_app E23 (w2.alloc (.cells #[.int .u8 90, .int .u8 128] 5)) 23 w.heap.size v1 len l (ho1.alloc _) (some ⟨w2.heap.size, 0, none⟩) 2 2 [90, 128] rfl (marks_row w2) (fun h => by cases h) (by unfold maxLen; omega) (by omega) (by have := hB2.size; simp; omega)
  have hB3 : Below w.heap.size w w3 := (hB2.alloc hB2.size _).grown hg2 (by have := hB2.size; simp; omega) (fun k hk => (ho1.lt k hk).1)
  obtain ⟨g, c, ys, rfl, h1, h2, h3, h4, h5, h6⟩ := own_blk ho2 (by omega)
  have HLe : Hid (Lent w3 g c l) := ⟨⟨ys, h6, h4, by rw [hl.out]; exact h5⟩, by rw [hl.out]; exact h2, h3⟩
  have R1 : Hid _ := hr1
  have R2 : Hid _ := hr2
  unfold maxLen at h3
  have hlc : (len : Int) ≤ c := by omega
  clear hr1 hr2 ho1 ho2 hg1 hg2 h5 h6 hB2 h4 hrow hnil hl
  go_enter Try.func28, Try.ntmps28
  go_wp2_with (first | (at_builtin; have _t := R1; refine wpList_append_run rfl (.const (.slice none 0 0)) (.tmp 3) 23 23 rfl rfl rfl R1.out ?_; clear R1) | (at_builtin; have _t := R2; refine wpList_append_run rfl (.tmp 4) (.tmp 5) 23 23 rfl rfl rfl R2.out ?_; clear R2))
  go_ret
  exact ⟨g, c, rfl, h1, HLe, hB3⟩

set_option maxHeartbeats 1000000 in
theorem kept_any (g c lenO : Nat) (a : Option Addr) (len cap : Nat) (l : List Int) (w : World) (hL : Hid (Lent w g c l)) (hl : Hid (l.length = len)) (hrow : Hid (Row .u8 w a l)) (hr : len ≤ 140737488351232) :
    Calls Try.prog 30 #[.slice (some ⟨g, 0, none⟩) lenO c, .slice a len cap] w fun e w' => e = .returned (.bool true) ∧ Upd (fun k => k = g) w w' := by
  have m0 := hL.out.m0
  have m1 := hL.out.m1
  rw [hl.out] at m0 m1
  have hroom := hL.out.room
  rw [hl.out] at hroom
  have hmax := hL.out.max
  unfold maxLen at hmax
  have hc2 : (len : Int) + 2 ≤ c := by omega
  have HB : Hid (∃ ys, Blk w g 5 ys ∧ ys.length = c) := by
    obtain ⟨ys, h1, h2, _⟩ := hL.out.blk
    exact ⟨ys, h1, h2⟩
  go_enter Try.func30, Try.ntmps30
  go_wp2_with fail
  refine (same_yes _ len _ _ len _ l _ hl.out hl.out hL.out.row hrow.out).mono ?_; rintro e w' ⟨rfl, rfl⟩
  go_wp2_with fail
  clear m0 m1
  go_loopw [7] (fun i wr => ∃ k : Nat, k ≤ len + 2 ∧ i = .int .i64 k ∧ Hid (∃ ys, Blk wr g 5 ys ∧ ys.length = c) ∧ Upd (fun k => k = g) w wr) (fun i _ => len + 2 - (intOf i).toNat)
  case atStart => exact ⟨0, Nat.zero_le _, rfl, HB, Upd.refl _ _⟩
  case round =>
    obtain ⟨k, hk, rfl, HBk, hUk⟩ := hrel
    by_cases hlt : k < len + 2
    · have hlt' : (k : Int) < (len : Int) + 2 := by omega
      obtain ⟨ys, hb, hys⟩ := HBk.out
      have hz := hb.frozen k
      obtain ⟨u, hu⟩ : ∃ u, wr.cell? ⟨g, k, none⟩ = some u := ⟨_, by rw [hb.cell k]; exact List.getElem?_eq_getElem (by omega)⟩
      have HB2 : Hid (∃ zs, Blk (wr.setCell ⟨g, k, none⟩ (.int .u8 51)) g 5 zs ∧ zs.length = c) := ⟨_, hb.set k (.int .u8 51), by rw [List.length_set]; exact hys⟩
      clear hb hys HBk
      go_wp2
      go_roundw
      case rel => exact ⟨k + 1, by omega, by go_num, HB2, hUk.set ⟨g, k, none⟩ _ (.inl rfl)⟩
      case measure => simp [intOf]; omega
    · have hlt' : ¬ (k : Int) < (len : Int) + 2 := by omega
      go_wp2
      go_ret
      exact ⟨rfl, hUk⟩
end Go.Proofs.Ytgeabhnfkkkbgaa
