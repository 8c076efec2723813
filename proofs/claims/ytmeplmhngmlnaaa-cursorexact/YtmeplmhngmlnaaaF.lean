/- awake. -/
import Derived.Test.YtmeplmhngmlnaaaE
namespace Go.Proofs.Ytmeplmhngmlnaaa
open Go.RowKit
set_option linter.unusedVariables false

section
variable {B b o : Nat} {w w' : World} {v u : Value} {h h' l l' : List Int} {p p' m : Int} {en en' : Bool} {t : TypeId}
theorem InAt.base (i : InAt B w b v h p en) : B ≤ w.heap.size := Nat.le_trans i.lo (Nat.le_of_lt i.blk.lt)
theorem OutAt.base (i : OutAt t B w b v l m) : B ≤ w.heap.size := Nat.le_trans i.lo (Nat.le_of_lt i.blk.lt)
theorem in_below (i : InAt B w b v h p en) (hu : Upd (FI b v) w w') : Below B w w' := hu.below B i.base (fun k hk => (i.fi k hk).1)
theorem out_below (i : OutAt t B w b v l m) (hu : Upd (FI b v) w w') : Below B w w' := hu.below B i.base (fun k hk => (i.fi k hk).1)
theorem in_step (i : InAt B w b v h p en) (s : InTo B w w' b v h' p' en') : ∃ v', InAt B w' b v' h' p' en' ∧ Below B w w' := by
  obtain ⟨v', h1, h2, _⟩ := s
  exact ⟨v', h1, in_below i h2⟩
theorem out_step (i : OutAt t B w b v l m) (s : OutTo t B w w' b v l' m) : ∃ v', OutAt t B w' b v' l' m ∧ Below B w w' := by
  obtain ⟨v', h1, h2, _⟩ := s
  exact ⟨v', h1, out_below i h2⟩
theorem tail_ne {x : Nat} {xs : List Value} (ht : Tail B w 5 .u8 v h) (hb : Blk w x t xs) (hn : t ≠ 5) : v.ownBlock ≠ some x := by
  intro e
  rcases ht with ⟨rfl, _⟩ | ⟨g, cap, pre, post, rfl, _, h2, _⟩
  · cases e
  · injection e with e
    have e' : g = x := e
    subst e'
    exact blk_ne h2 hb (fun e => hn e.symm) rfl
theorem out_stay (i : InAt B w b v h p en) (j : OutAt 67 B w o (.slice none 0 0) l m) (s : InTo B w w' b v h' p' en') : OutAt 67 B w' o (.slice none 0 0) l m := by
  obtain ⟨v', h1, h2, _⟩ := s
  refine j.upd h2 ?_
  rintro k (rfl | hk) (e | e)
  · exact blk_ne j.blk i.blk (by decide) e
  · exact tail_ne i.held j.blk (by decide) e
  · cases hk
  · cases hk
theorem OutAt.mono {B' : Nat} (i : OutAt t B w b v l m) (hb : B' ≤ B) : OutAt t B' w b v l m := ⟨i.blk, i.tail.mono hb, by have := i.lo; omega, i.ne⟩
theorem InAt.mono {B' : Nat} (i : InAt B w b v h p en) (hb : B' ≤ B) : InAt B' w b v h p en := ⟨i.blk, i.held.mono hb, by have := i.lo; omega⟩
end
theorem lit_row (w : World) (l : List Int) (xs : Array Value) (h : xs.toList = cellsL .u8 l) : Row .u8 (w.alloc (.cells xs 5)) (some ⟨w.heap.size, 0, none⟩) l := by
  have h1 := Blk.newA w xs 5
  rw [h] at h1
  exact h1.row

set_option maxHeartbeats 4000000 in
set_option maxRecDepth 100000 in
theorem awake_any (w : World) : Calls Try.prog 6 #[] w fun e w' => e = .returned (.bool true) ∧ Below w.heap.size w w' := by
  go_enter Try.func6, Try.ntmps6
  go_wp2_with fail
  refine (new_yes 7 _ (by omega) (by omega)).mono ?_; rintro e w1 ⟨b, rfl, hb, HI, hB1⟩
  go_wp2_with fail
  refine (new_no (-1) _ (by omega)).mono ?_; rintro e w' ⟨rfl, rfl⟩
  go_wp2_with fail
  refine (to_yes 3 _ (by omega)).mono ?_; rintro e w2 ⟨o, rfl, ho, HO0, hB2⟩
  have HO : Hid (OutAt 67 w.heap.size w2 o (.slice none 0 0) [] 3) := HO0.out.mono hB1.size
  have HI2 : Hid _ := HI.out.later hB2
  have hBw2 := below_to hB1 hB2
  clear HO0 HI hB1 hB2 hb ho
  go_wp2_with (go_at_call 8; refine (num_any _ _).mono ?_; rintro e w' ⟨rfl, rfl⟩)
  --1
  obtain ⟨w3, hw3⟩ : ∃ w3, w3 = w2.alloc (.cells #[.int .u8 1, .int .u8 2, .int .u8 3] 5) := ⟨_, rfl⟩
  have HR : Hid (Row .u8 w3 (some ⟨w2.heap.size, 0, none⟩) [1, 2, 3]) := by rw [hw3]; exact lit_row w2 [1, 2, 3] _ rfl
  have hB3 : Below w2.heap.size w2 w3 := by rw [hw3]; exact (Below.refl _ _).alloc (Nat.le_refl _) _
  rw [← hw3]
  clear hw3
  have HI3 : Hid _ := HI2.out.later hB3
  have HO3 : Hid _ := HO.out.later hB3
  have hBw3 := below_to hBw2 hB3
  clear HI2 HO hB3 hBw2
  refine (give_any w.heap.size b _ [] 7 false (some ⟨w2.heap.size, 0, none⟩) 3 3 [1, 2, 3] _ HI3 rfl HR (fun h => by cases h) (by show 0 + 3 ≤ _; omega)).mono ?_; rintro e w4 ⟨rfl, HT⟩
  have HT : Hid (InTo w.heap.size w3 w4 b _ [1, 2, 3] 7 false) := HT
  have HO4 : Hid _ := out_stay HI3.out HO3.out HT.out
  obtain ⟨v4, i4, hB4⟩ := in_step HI3.out HT.out
  have HI4 : Hid _ := i4
  have hBw4 := hBw3.trans hB4
  clear i4 hB4 hBw3 HT HI3 HO3 HR
  go_wp2_with fail
  --2
  refine (take_any w.heap.size b v4 [1, 2, 3] 7 false _ HI4 (by omega) (by simp)).mono ?_; rintro e w5 ⟨rfl, HT⟩
  have HT : Hid (InTo w.heap.size w4 w5 b _ [2, 3] 8 false) := HT
  have HO5 : Hid _ := out_stay HI4.out HO4.out HT.out
  obtain ⟨v5, i5, hB5⟩ := in_step HI4.out HT.out
  have HI5 : Hid _ := i5
  have hBw5 := hBw4.trans hB5
  clear i5 hB5 hBw4 HT HI4 HO4
  go_wp2_with fail
  --3
  refine (peek_yes w.heap.size b v5 [2, 3] 8 false 2 _ HI5 (by show 2 ≤ 2; omega) (by show 2 ≤ _; omega)).mono ?_; rintro e w6 ⟨g, rfl, hg, HK, hB6⟩
  have hcv := conv_row E30 Try.underlying9 w6 (some ⟨g, 0, none⟩) 2 2 [2, 3] rfl HK.out.row
  rw [show strOfNums [2, 3] = ⟨#[2, 3]⟩ from rfl] at hcv
  have HI6 : Hid _ := HI5.out.later hB6
  have HO6 : Hid _ := HO5.out.later hB6
  have hBw6 := hBw5.trans (hB6.mono hBw5.size)
  clear HI5 HO5 hBw5 hB6 HK hg
  go_wp2_with fail
  --4
  refine (skip_any w.heap.size b v5 [2, 3] 8 false 3 _ HI6 (by omega) (by simp)).mono ?_; rintro e w7 ⟨rfl, HT⟩
  have HT : Hid (InTo w.heap.size w6 w7 b _ [2, 3] 8 false) := HT
  have HO7 : Hid _ := out_stay HI6.out HO6.out HT.out
  obtain ⟨v7, i7, hB7⟩ := in_step HI6.out HT.out
  have HI7 : Hid _ := i7
  have hBw7 := hBw6.trans hB7
  clear i7 hB7 hBw6 HT HI6 HO6 hcv
  rw [if_neg (show ¬ (0 ≤ (3 : Int) ∧ (3 : Int) ≤ (([2, 3] : List Int).length : Nat)) by simp)]
  go_wp2_with (go_at_call 8; refine (num_any _ _).mono ?_; rintro e w' ⟨rfl, rfl⟩)
  --5
  refine (skip_any w.heap.size b v7 [2, 3] 8 false 2 _ HI7 (by omega) (by simp)).mono ?_; rintro e w8 ⟨rfl, HT⟩
  have HT : Hid (InTo w.heap.size w7 w8 b _ [] 10 false) := HT
  have HO8 : Hid _ := out_stay HI7.out HO7.out HT.out
  obtain ⟨v8, i8, hB8⟩ := in_step HI7.out HT.out
  have HI8 : Hid _ := i8
  have hBw8 := hBw7.trans hB8
  clear i8 hB8 hBw7 HT HI7 HO7
  rw [if_pos (show (0 ≤ (2 : Int) ∧ (2 : Int) ≤ (([2, 3] : List Int).length : Nat)) by simp)]
  go_wp2_with (first | (go_at_call 8; refine (num_any _ _).mono ?_; rintro e w' ⟨rfl, rfl⟩) | (go_at_call 19; refine (at_any w.heap.size b v8 [] 10 false _ HI8).mono ?_; rintro e w' ⟨rfl, rfl⟩) | (go_at_call 20; refine (held_any w.heap.size b v8 [] 10 false _ 0 rfl HI8).mono ?_; rintro e w' ⟨rfl, rfl⟩))
  --6
  refine (end_any w.heap.size b v8 [] 10 false _ HI8).mono ?_; rintro e w9 ⟨rfl, i9, hU9⟩
  have HO9 : Hid _ := out_stay HI8.out HO8.out ⟨v8, i9.out, hU9, fun q hq => .inl hq⟩
  have hBw9 := hBw8.trans (in_below HI8.out hU9)
  clear hU9 HI8 HO8 hBw8
  go_wp2_with (go_at_call 8; refine (num_any _ _).mono ?_; rintro e w' ⟨rfl, rfl⟩)
  --7
  refine (give_any w.heap.size b v8 [] 10 true none 0 0 [] _ i9 rfl (show Row .u8 w9 none [] from .inl ⟨rfl, rfl⟩) (fun _ => rfl) (by show 0 + 0 ≤ _; omega)).mono ?_; rintro e w10 ⟨rfl, HT⟩
  have HO10 : Hid _ := out_stay i9.out HO9.out HT.out
  obtain ⟨v10, i10, hB10⟩ := in_step i9.out HT.out
  have HI10 : Hid (InAt w.heap.size w10 b v10 [] 10 true) := i10
  have hBw10 := hBw9.trans hB10
  clear i10 hB10 hBw9 HT i9 HO9
  go_wp2_with (first | (go_at_call 8; refine (num_any _ _).mono ?_; rintro e w' ⟨rfl, rfl⟩) | (go_at_call 21; refine (ended_any w.heap.size b v10 [] 10 true _ HI10).mono ?_; rintro e w' ⟨rfl, rfl⟩))
  --8
  clear HI10
  obtain ⟨w11, hw11⟩ : ∃ w11, w11 = w10.alloc (.cells #[.int .u8 1, .int .u8 2] 5) := ⟨_, rfl⟩
  have HR : Hid (Row .u8 w11 (some ⟨w10.heap.size, 0, none⟩) [1, 2]) := by rw [hw11]; exact lit_row w10 [1, 2] _ rfl
  have hB11 : Below w10.heap.size w10 w11 := by rw [hw11]; exact (Below.refl _ _).alloc (Nat.le_refl _) _
  rw [← hw11]
  clear hw11
  have HO11 : Hid _ := HO10.out.later hB11
  have hBw11 := below_to hBw10 hB11
  clear HO10 hB11 hBw10
  refine (oput_any w.heap.size o _ [] 3 (some ⟨w10.heap.size, 0, none⟩) 2 2 [1, 2] _ HO11 rfl HR (fun h => by cases h) (by omega) (by omega) (by simp)).mono ?_; rintro e w12 ⟨rfl, HT⟩
  have HT : Hid (OutTo 67 w.heap.size w11 w12 o _ [1, 2] 3) := HT
  obtain ⟨v12, o12, hB12⟩ := out_step HO11.out HT.out
  have HO12 : Hid _ := o12
  have hBw12 := hBw11.trans hB12
  clear o12 hB12 hBw11 HT HO11 HR
  rw [if_pos (show (([] : List Int).length : Int) + (2 : Nat) ≤ 3 by simp)]
  go_wp2_with (go_at_call 8; refine (num_any _ _).mono ?_; rintro e w' ⟨rfl, rfl⟩)
  --9
  obtain ⟨w13, hw13⟩ : ∃ w13, w13 = w12.alloc (.cells #[.int .u8 1, .int .u8 2] 5) := ⟨_, rfl⟩
  have HR : Hid (Row .u8 w13 (some ⟨w12.heap.size, 0, none⟩) [1, 2]) := by rw [hw13]; exact lit_row w12 [1, 2] _ rfl
  have hB13 : Below w12.heap.size w12 w13 := by rw [hw13]; exact (Below.refl _ _).alloc (Nat.le_refl _) _
  rw [← hw13]
  clear hw13
  have HO13 : Hid _ := HO12.out.later hB13
  have hBw13 := below_to hBw12 hB13
  clear HO12 hB13 hBw12
  refine (oput_any w.heap.size o _ [1, 2] 3 (some ⟨w12.heap.size, 0, none⟩) 2 2 [1, 2] _ HO13 rfl HR (fun h => by cases h) (by omega) (by omega) (by simp)).mono ?_; rintro e w14 ⟨rfl, HT⟩
  have HT : Hid (OutTo 67 w.heap.size w13 w14 o _ [1, 2] 3) := HT
  obtain ⟨v14, o14, hB14⟩ := out_step HO13.out HT.out
  have HO14 : Hid _ := o14
  have hBw14 := hBw13.trans hB14
  clear o14 hB14 hBw13 HT HO13 HR
  rw [if_neg (show ¬ (([1, 2] : List Int).length : Int) + (2 : Nat) ≤ 3 by simp)]
  go_wp2_with (go_at_call 8; refine (num_any _ _).mono ?_; rintro e w' ⟨rfl, rfl⟩)
  --10
  refine (patch_any w.heap.size o v14 [1, 2] 3 0 2 513 _ HO14 (by show 2 ≤ _; omega) (by omega)).mono ?_; rintro e w15 ⟨rfl, HT⟩
  have HT : Hid (OutTo 67 w.heap.size w14 w15 o _ [1, 2] 3) := HT
  obtain ⟨v15, o15, hB15⟩ := out_step HO14.out HT.out
  have HO15 : Hid _ := o15
  have hBw15 := hBw14.trans hB15
  clear o15 hB15 hBw14 HT HO14
  rw [show putE ([1, 2] : List Int).length 0 2 (513 : Nat) = 0 from rfl]
  go_wp2_with (go_at_call 8; refine (num_any _ _).mono ?_; rintro e w' ⟨rfl, rfl⟩)
  --11
  refine (bytes_any w.heap.size o v15 [1, 2] 3 _ 2 rfl (by omega) HO15).mono ?_; rintro e w16 ⟨g2, rfl, hg2, HK, hB16⟩
  have hcv := conv_row E30 Try.underlying9 w16 (some ⟨g2, 0, none⟩) 2 2 [1, 2] rfl HK.out.row
  rw [show strOfNums [1, 2] = ⟨#[1, 2]⟩ from rfl] at hcv
  have HO16 : Hid _ := HO15.out.later hB16
  have hBw16 := hBw15.trans (hB16.mono hBw15.size)
  clear HO15 hBw15 hB16 HK hg2
  go_wp2_with (go_at_call 10; refine (len_any w.heap.size o v15 [1, 2] 3 _ 2 rfl HO16).mono ?_; rintro e w' ⟨rfl, rfl⟩)
  go_ret
  exact ⟨rfl, hBw16⟩
end Go.Proofs.Ytmeplmhngmlnaaa
