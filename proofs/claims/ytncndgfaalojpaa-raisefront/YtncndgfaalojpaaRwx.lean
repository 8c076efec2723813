/- mortiselaw17: awake. -/
import Derived.Test.YtncndgfaalojpaaRwg
namespace Go.Proofs.Ytncndgfaalojpaa
open Go.RowKit
set_option linter.unusedVariables false

theorem aw_a : zA [⟨1, 2, 0, []⟩] [] = 0 := by decide +kernel
theorem aw_x : zX [⟨1, 2, 0, []⟩] [] = [⟨33, 0, 2, 0⟩, ⟨20, 0, 0, 0⟩] := by
  unfold zX
  rw [if_pos aw_a]
  rfl
theorem aw_y : zY [⟨1, 2, 0, []⟩] [] = [0] := by
  unfold zY
  rw [if_pos aw_a]
  rfl
theorem aw_b : zA [⟨0, 0, 0, []⟩] [] = 92 := by decide +kernel
theorem one_lens (k n e : Int) : LensT [⟨k, n, e, []⟩] := ⟨by simp, fun t ht => by
  simp only [List.mem_cons, List.not_mem_nil, or_false] at ht
  subst ht
  simp⟩
theorem one_row {w : World} {g : Nat} {k n e : Int} (h : Blk w g 43 [.int .i64 k, .int .i64 n, .int .i64 e, .slice none 0 0]) : TRow w (some ⟨g, 0, none⟩) [⟨k, n, e, []⟩] := by
  refine .inr ⟨_, 0, rfl, h.lt, fun i t ht => ?_⟩
  have hi := (List.getElem?_eq_some_iff.1 ht).1
  obtain rfl : i = 0 := by simp at hi; omega
  simp at ht
  subst ht
  refine ⟨none, 0, fun j hj => ?_, Nat.le_refl _, fun _ => rfl, .inl rfl⟩
  rw [h.cell, Nat.zero_add]
  simp [tyc]
set_option maxRecDepth 100000 in
set_option maxHeartbeats 4000000 in
theorem awake_any (w : World) : Calls Try.prog 5 #[] w fun e w' => e = .returned (.bool true) ∧ Below w.heap.size w w' := by
  obtain ⟨w1, hw1⟩ : ∃ wx, wx = w.alloc (.cells #[.int .i64 1, .int .i64 2, .int .i64 0, .slice none 0 0] 43) := ⟨_, rfl⟩
  have hB1 : Below w.heap.size w w1 := by rw [hw1]; exact below1 _ _
  have k1 : Blk w1 w.heap.size 43 [.int .i64 1, .int .i64 2, .int .i64 0, .slice none 0 0] := by rw [hw1]; exact Blk.newA w _ _
  have hd := encoder_any (some ⟨w.heap.size, 0, none⟩) 1 [⟨1, 2, 0, []⟩] none 0 [] w1 (by decide) (by decide) (hide_ (one_lens _ _ _)) (hide_ (one_row k1)) (hide_ (.inl rfl))
  unfold EnTo at hd
  rw [aw_a, aw_x, aw_y] at hd
  simp only [List.length_cons, List.length_nil, Nat.zero_add] at hd
  have HD := hide_ hd
  have HB1 := hide_ hB1
  clear hd k1 hB1
  go_enter Try.func5, Try.ntmps5
  go_wp2_with fail
  rw [← hw1]
  refine HD.out.mono ?_
  rintro e w2 ⟨vC, vE, rfl, HC2, HE2, hB2⟩
  clear HD hw1
  obtain ⟨ac, cc, rfl, -, -, -⟩ := HC2.out.row
  obtain ⟨ae, ce, rfl, -, -, -⟩ := HE2.out.row
  simp only [List.length_cons, List.length_nil, Nat.zero_add] at HC2 HE2 ⊢
  obtain ⟨w3, hw3⟩ : ∃ wx, wx = w2.alloc (.cells #[.bool true, .slice ac 2 cc, .slice ae 1 ce] 30) := ⟨_, rfl⟩
  have hB3 : Below w2.heap.size w2 w3 := by rw [hw3]; exact below1 _ _
  have KP : Hid (Blk w3 w2.heap.size 30 [.bool true, .slice ac 2 cc, .slice ae 1 ce]) := hide_ (by rw [hw3]; exact Blk.newA w2 _ _)
  have HC3 := hide_ (HC2.out.later hB3)
  have HE3 := hide_ (HE2.out.later hB3)
  have HB3 := hide_ (below_to HB1.out (below_to hB2 hB3))
  clear hB2 hB3 HC2 HE2 HB1
  go_upto_region 2 with fail
  rw [← hw3]
  clear hw3
  obtain ⟨w4, hw4⟩ : ∃ wx, wx = w3.alloc (.cells #[.int .i64 0, .int .i64 0, .int .i64 0, .slice none 0 0] 43) := ⟨_, rfl⟩
  have hB4 : Below w3.heap.size w3 w4 := by rw [hw4]; exact below1 _ _
  have k4 : Blk w4 w3.heap.size 43 [.int .i64 0, .int .i64 0, .int .i64 0, .slice none 0 0] := by rw [hw4]; exact Blk.newA w3 _ _
  have hd := encoder_any (some ⟨w3.heap.size, 0, none⟩) 1 [⟨0, 0, 0, []⟩] none 0 [] w4 (by decide) (by decide) (hide_ (one_lens _ _ _)) (hide_ (one_row k4)) (hide_ (.inl rfl))
  unfold EnTo at hd
  rw [aw_b] at hd
  simp only [List.length_cons, List.length_nil, Nat.zero_add] at hd
  have HD := hide_ hd
  have HB4 := hide_ hB4
  clear hd k4 hB4
  go_wp2_with fail
  rw [← hw4]
  refine HD.out.mono ?_
  rintro e w5 ⟨vC5, vE5, rfl, HC5, HE5, hB5⟩
  obtain ⟨ac5, cc5, rfl, -, -, -⟩ := HC5.out.row
  obtain ⟨ae5, ce5, rfl, -, -, -⟩ := HE5.out.row
  have HB5 := hide_ (below_to HB4.out hB5)
  clear hw4 HD HB4 hB5 HC5 HE5
  generalize (zX [⟨0, 0, 0, []⟩] []).length = l5 at *
  generalize (zY [⟨0, 0, 0, []⟩] []).length = m5 at *
  generalize decide ((92 : Int) = 0) = d5 at *
  obtain ⟨w6, hw6⟩ : ∃ wx, wx = w5.alloc (.cells #[.bool d5, .slice ac5 l5 cc5, .slice ae5 m5 ce5] 30) := ⟨_, rfl⟩
  have hB6 := below_to HB5.out (show Below w5.heap.size w5 w6 by rw [hw6]; exact below1 _ _)
  have kp := KP.out.later hB6
  have q0 := kp.cell 0; have q1 := kp.cell 1; have q2 := kp.cell 2
  simp at q0 q1 q2
  obtain ⟨b1, o1, rfl, -, h1⟩ := (HC3.out.later hB6).rowS.open (by simp)
  obtain ⟨b2, o2, rfl, -, h2⟩ := (HE3.out.later hB6).rowS.open (by simp)
  have a0 := h1 0 _ rfl 0 (by decide); have a1 := h1 0 _ rfl 1 (by decide); have a2 := h1 0 _ rfl 2 (by decide); have a3 := h1 0 _ rfl 3 (by decide)
  have b0 := h1 1 _ rfl 0 (by decide); have b1' := h1 1 _ rfl 1 (by decide); have b2' := h1 1 _ rfl 2 (by decide); have b3 := h1 1 _ rfl 3 (by decide)
  have e0 := h2 0 (by simp)
  simp [inc] at a0 a1 a2 a3 b0 b1' b2' b3 e0
  have HBf := hide_ (below_to HB3.out hB6)
  clear HB5 hB6 kp h1 h2 HC3 HE3 KP HB3
  go_upto_region 3 with fail
  rw [← hw6]
  clear hw6
  go_wp2_with fail
  go_ret
  exact ⟨rfl, HBf.out⟩
end Go.Proofs.Ytncndgfaalojpaa
