/- awake. -/
import Derived.Test.YtgeabhnfkkkbgaaG
namespace Go.Proofs.Ytgeabhnfkkkbgaa
open Go.RowKit
set_option linter.unusedVariables false

set_option maxHeartbeats 4000000 in
set_option maxRecDepth 100000 in
theorem awake_any (w : World) :
    Calls Try.prog 8 #[] w fun e w' => e = .returned (.bool true) ∧ Below w.heap.size w w' := by
  go_enter Try.func8, Try.ntmps8
  go_wp2_with fail
  refine (size_300 _).mono ?_; rintro e w' ⟨rfl, rfl⟩
  --1
  go_wp2_with fail
  refine (get_300c w).mono ?_; rintro e w1 ⟨rfl, hw1⟩
  have hB1 : Below w.heap.size w w1 := by rw [← hw1]; exact (Below.refl _ _).alloc (Nat.le_refl _) _
  clear hw1
  --2
  go_wp2_with fail
  refine (get_800c w1).mono ?_; rintro e w2 ⟨rfl, hw2⟩
  have hB2 : Below w.heap.size w w2 := by rw [← hw2]; exact hB1.alloc hB1.size _
  clear hw2
  --3
  go_wp2_with fail
  refine (new_any _).mono ?_; rintro e w3 ⟨b, rfl, hb, hR3, hB3⟩
  have hb' : w.heap.size ≤ b := Nat.le_trans hB2.size hb
  have hBw3 := below_to hB2 hB3
  --4
  go_wp2_with fail
  refine (byte_1 b _ hR3).mono ?_; rintro e w4 ⟨rfl, hR4, -, hU4⟩
  have hBw4 := hBw3.trans (hU4.below _ hBw3.size (fun k h => by subst h; exact hb'))
  --5
  go_wp2_with fail
  refine (byte_2 b _ hR4).mono ?_; rintro e w5 ⟨rfl, hR5, -, hU5⟩
  have hBw5 := hBw4.trans (hU5.below _ hBw4.size (fun k h => by subst h; exact hb'))
  --6
  go_wp2_with fail
  refine (byte_3 b _ hR5).mono ?_; rintro e w6 ⟨rfl, hR6, -, hU6⟩
  have hBw6 := hBw5.trans (hU6.below _ hBw5.size (fun k h => by subst h; exact hb'))
  clear hR3 hR4 hR5 hU4 hU5 hU6 hB1 hB2 hB3 hBw3 hBw4 hBw5
  --7
  go_wp2_with fail
  refine (load_172 w6).mono ?_; rintro e w8 ⟨b2, rfl, hb2, hR8, hB8⟩
  have hR9 : Rdr w8 b [172, 2] true := hR6.later hB8
  have hB9 := below_to hBw6 hB8
  clear hR6 hB8 hBw6
  --8
  go_wp2_with fail
  refine (num_any _ _).mono ?_; rintro e w' ⟨rfl, rfl⟩
  go_wp2_with fail
  refine (n_172 b2 _ hR8).mono ?_; rintro e w9 ⟨rfl, hw9⟩
  have hR9 : Rdr w9 b [172, 2] true := by rw [← hw9]; exact hR9
  have hB9 : Below w.heap.size w w9 := by rw [← hw9]; exact hB9.drew
  clear hw9
  --9
  go_wp2_with fail
  refine (num_any _ _).mono ?_; rintro e w' ⟨rfl, rfl⟩
  go_wp2_with fail
  refine (num_any _ _).mono ?_; rintro e w' ⟨rfl, rfl⟩
  go_wp2_with fail
  refine (num_any _ _).mono ?_; rintro e w' ⟨rfl, rfl⟩
  go_wp2_with fail
  refine (num_any _ _).mono ?_; rintro e w' ⟨rfl, rfl⟩
  go_wp2_with fail
  refine (num_any _ _).mono ?_; rintro e w' ⟨rfl, rfl⟩
  --10
  go_wp2_with fail
  refine (n_300 b _ hR9).mono ?_; rintro e w10 ⟨rfl, hw10⟩
  have hR9 : Rdr w10 b [172, 2] true := by rw [← hw10]; exact hR9
  have hB9 : Below w.heap.size w w10 := by rw [← hw10]; exact hB9.drew
  clear hw10
  --11
  go_wp2_with fail
  refine (read_300 b _ hR9).mono ?_; rintro e w11 ⟨g, rfl, hg, hk, hB11⟩
  have hR11 := hR9.later hB11
  have hBw11 := below_to hB9 hB11
  go_wp2_with fail
  refine (same_172 w11 g hk).mono ?_; rintro e w12 ⟨rfl, hw12⟩
  have hR12 : Rdr w12 b [172, 2] true := by rw [← hw12]; exact hR11.alloc _
  have hB12 : Below w.heap.size w w12 := by rw [← hw12]; exact hBw11.alloc hBw11.size _
  clear hw12
  --12
  go_wp2_with fail
  refine (put_300 _).mono ?_; rintro e w13 ⟨g2, rfl, hg2, hk2, hB13⟩
  have hR13 := hR12.later hB13
  have hBw13 := below_to hB12 hB13
  go_wp2_with fail
  refine (read_300 b _ hR13).mono ?_; rintro e w14 ⟨g3, rfl, hg3, hk3, hB14⟩
  go_wp2_with fail
  refine (same_300 _ _ _ (hk2.later hB14) hk3).mono ?_; rintro e w' ⟨rfl, rfl⟩
  go_wp2_with fail
  refine (size_63 _).mono ?_; rintro e w' ⟨rfl, rfl⟩
  go_wp2
  go_ret
  exact ⟨rfl, below_to hBw13 hB14⟩
end Go.Proofs.Ytgeabhnfkkkbgaa
