/- lent and over: copies with a mark behind. -/
import Derived.Test.YtmeplmhngmlnaaaF
namespace Go.Proofs.Ytmeplmhngmlnaaa
open Go.RowKit
set_option linter.unusedVariables false

theorem mark_row (w : World) : Row .u8 (w.alloc (.cells #[.int .u8 90] 5)) (some ⟨w.heap.size, 0, none⟩) [90] := lit_row w [90] _ rfl
/-- A copy at block g, with the mark behind. -/
structure Lent (w : World) (g c : Nat) (l : List Int) : Prop where
  blk : ∃ ys, Blk w g 5 ys ∧ ys.length = c ∧ ys.take (l.length + 1) = cellsL .u8 (l ++ [90])
  room : l.length + 1 ≤ c
  max : c ≤ maxLen
section
variable {w w' : World} {g c : Nat} {l : List Int}
theorem Lent.upd {S : Nat → Prop} (h : Lent w g c l) (hu : Upd S w w') (hs : ¬ S g) : Lent w' g c l := by
  obtain ⟨ys, h1, h2⟩ := h.blk
  exact ⟨⟨ys, h1.upd hu hs, h2⟩, h.room, h.max⟩
theorem Lent.later (h : Lent w g c l) (hB : Below w.heap.size w w') : Lent w' g c l := h.upd (Upd.of_below (S := fun _ => False) hB) (fun h => h)
theorem Lent.cell (h : Lent w g c l) (i : Nat) (hi : i < l.length + 1) : w.cell? ⟨g, i, none⟩ = some (.int .u8 ((l ++ [90]).getD i 0)) := by
  obtain ⟨ys, h1, h2, h3⟩ := h.blk
  rw [h1.cell i]
  have e : (ys.take (l.length + 1))[i]? = ys[i]? := by rw [List.getElem?_take, if_pos hi]
  rw [← e, h3, cellsL_at _ _ _ (by simpa using hi)]
theorem Lent.row (h : Lent w g c l) : Row .u8 w (some ⟨g, 0, none⟩) l := by
  refine Row.mk fun i hi => ?_
  rw [Nat.zero_add, h.cell i (by omega)]
  simp [List.getD, hi, List.getElem?_append_left hi]
theorem Lent.m0 (h : Lent w g c l) : w.cell? ⟨g, l.length, none⟩ = some (.int .u8 90) := by
  rw [h.cell l.length (by omega)]
  simp [List.getD]
theorem Lent.lt (h : Lent w g c l) : g < w.heap.size := by
  obtain ⟨ys, h1, _⟩ := h.blk
  exact h1.lt
end

set_option maxHeartbeats 1000000 in
theorem lent_any (a : Option Addr) (len cap : Nat) (l : List Int) (w : World) (hl : Hid (l.length = len)) (hrow : Hid (Row .u8 w a l)) (hnil : Hid (a = none → cap = 0)) (hr : len ≤ 140737488351232) :
    Calls Try.prog 32 #[.slice a len cap] w fun e w' => ∃ g c, e = .returned (.slice (some ⟨g, 0, none⟩) len c) ∧ w.heap.size ≤ g ∧ Hid (Lent w' g c l) ∧ Below w.heap.size w w' := by
  obtain ⟨v1, w2, hr1, ho1, hg1⟩ := run_copy E30 w 30 w.heap.size a len cap l hl.out hrow.out hnil.out (by unfold maxLen; omega) (by omega) (Nat.le_refl _)
  have hB2 : Below w.heap.size w w2 := (Below.refl _ _).grown hg1 (Nat.le_refl _) (fun k hk => by cases hk)
  obtain ⟨v2, w3, hr2, ho2, hg2⟩ := run_app E30 (w2.alloc (.cells #[.int .u8 90] 5)) 30 w.heap.size v1 len l (ho1.alloc _) (some ⟨w2.heap.size, 0, none⟩) 1 1 [90] rfl (mark_row w2) (fun h => by cases h) (by unfold maxLen; omega) (by omega) (by have := hB2.size; simp; omega)
  have hB3 : Below w.heap.size w w3 := (hB2.alloc hB2.size _).grown hg2 (by have := hB2.size; simp; omega) (fun k hk => (ho1.lt k hk).1)
  obtain ⟨g, c, ys, rfl, h1, h2, h3, h4, h5, h6⟩ := own_blk ho2 (by omega)
  have HLe : Hid (Lent w3 g c l) := ⟨⟨ys, h6, h4, by rw [hl.out]; exact h5⟩, by rw [hl.out]; exact h2, h3⟩
  have R1 : Hid _ := hr1
  have R2 : Hid _ := hr2
  unfold maxLen at h3
  have hlc : (len : Int) ≤ c := by omega
  clear hr1 hr2 ho1 ho2 hg1 hg2 h5 h6 hB2 h4 hrow hnil hl
  go_enter Try.func32, Try.ntmps32
  go_wp2_with (first | (at_builtin; have _t := R1; refine wpList_append_run rfl (.const (.slice none 0 0)) (.tmp 3) 30 30 rfl rfl rfl R1.out ?_; clear R1) | (at_builtin; have _t := R2; refine wpList_append_run rfl (.tmp 4) (.tmp 5) 30 30 rfl rfl rfl R2.out ?_; clear R2))
  go_ret
  exact ⟨g, c, rfl, h1, HLe, hB3⟩

set_option maxHeartbeats 1000000 in
theorem over_any (g c : Nat) (a : Option Addr) (len cap : Nat) (l : List Int) (w : World) (hL : Hid (Lent w g c l)) (hl : Hid (l.length = len)) (hrow : Hid (Row .u8 w a l)) (hr : len ≤ 140737488351232) :
    Calls Try.prog 34 #[.slice (some ⟨g, 0, none⟩) len c, .slice a len cap] w fun e w' => e = .returned (.bool true) ∧ Upd (fun k => k = g) w w' := by
  have m0 := hL.out.m0
  rw [hl.out] at m0
  have hroom := hL.out.room
  rw [hl.out] at hroom
  have hmax := hL.out.max
  unfold maxLen at hmax
  have hc1 : (len : Int) + 1 ≤ c := by omega
  have cv1 := conv_row E30 Try.underlying9 w (some ⟨g, 0, none⟩) len c l hl.out hL.out.row
  have cv2 := conv_row E30 Try.underlying9 w a len cap l hl.out hrow.out
  have HB : Hid (∃ ys, Blk w g 5 ys ∧ ∀ j, j < len → ∃ x, ys[j]? = some (.int .u8 x)) := by
    obtain ⟨ys, h1, h2, h3⟩ := hL.out.blk
    refine ⟨ys, h1, fun j hj => ⟨(l ++ [90]).getD j 0, ?_⟩⟩
    rw [← h1.cell j]
    exact hL.out.cell j (by rw [hl.out]; omega)
  go_enter Try.func34, Try.ntmps34
  go_wp2_with fail
  clear m0 cv1 cv2
  go_loopw [6] (fun i wr => ∃ k : Nat, k ≤ len ∧ i = .int .i64 k ∧ Hid (∃ ys, Blk wr g 5 ys ∧ ∀ j, j < len → ∃ x, ys[j]? = some (.int .u8 x)) ∧ Upd (fun k => k = g) w wr) (fun i _ => len - (intOf i).toNat)
  case atStart => exact ⟨0, Nat.zero_le _, rfl, HB, Upd.refl _ _⟩
  case round =>
    obtain ⟨k, hk, rfl, HBk, hUk⟩ := hrel
    by_cases hlt : k < len
    · have hlt' : (k : Int) < (len : Int) := by omega
      obtain ⟨ys, hb, hys⟩ := HBk.out
      have hz := hb.frozen k
      obtain ⟨x, hx⟩ := hys k hlt
      have hu : wr.cell? ⟨g, k, none⟩ = some (.int .u8 x) := by rw [hb.cell k]; exact hx
      have HB2 : Hid (∀ y, ∃ zs, Blk (wr.setCell ⟨g, k, none⟩ (.int .u8 y)) g 5 zs ∧ ∀ j, j < len → ∃ x, zs[j]? = some (.int .u8 x)) := fun y => by
        refine ⟨_, hb.set k (.int .u8 y), fun j hj => ?_⟩
        by_cases e : k = j
        · subst e
          have := (List.getElem?_eq_some_iff.1 hx).1
          exact ⟨y, by rw [List.getElem?_set_self this]⟩
        · obtain ⟨x', hx'⟩ := hys j hj
          exact ⟨x', by rw [List.getElem?_set_ne e]; exact hx'⟩
      clear hb hys HBk hx
      go_wp2
      go_roundw
      case rel => exact ⟨k + 1, by omega, by go_num, HB2.out _, hUk.set ⟨g, k, none⟩ _ (.inl rfl)⟩
      case measure => simp [intOf]; omega
    · have hlt' : ¬ (k : Int) < (len : Int) := by omega
      go_wp2
      go_ret
      exact ⟨rfl, hUk⟩
end Go.Proofs.Ytmeplmhngmlnaaa
