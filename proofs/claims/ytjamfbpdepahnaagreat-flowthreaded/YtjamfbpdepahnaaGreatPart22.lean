import Derived.Test.YtjamfbpdepahnaaGreatPart20
namespace Go.Proofs.YtjamfbpdepahnaaGreat
open Go.RowKit
set_option linter.unusedVariables false
set_option linter.unusedSimpArgs false
set_option maxRecDepth 100000 in
set_option maxHeartbeats 8000000 in
theorem dst_1 (s : St) (x : In) (r : Int) (w : World) (hx : DOk x) (hs : s.ki < 18446744073709551616) (hop : x.op = 1) : Calls Tryz.prog 132 #[.agg #[], stv s, inv x, .int .i64 r] w fun e w' => e = .returned (.bool (dSt s x r)) ∧ Below w.heap.size w w' := by
  obtain ⟨B2, K1, KX, hz⟩ := box5_ok 94 w s x
  obtain ⟨w2, hw2⟩ : ∃ wx, box5 94 w s x = wx := ⟨_, rfl⟩
  rw [hw2] at B2 K1 KX hz
  have HB2 := hide_ B2
  obtain ⟨c0, c1, c2, c3, c4, c5, c6⟩ := K1.cs
  obtain ⟨i0, i1, i2, i3⟩ := KX.ci
  have fr1 := fun i => K1.frozen i
  unfold box5 at hw2
  have HF : Hid (∀ w, Calls Tryz.prog 133 #[stv s, .int .i64 x.a] w fun e w' => e = .returned (.tuple #[stv (fillP s x.a).1, .bool (fillP s x.a).2]) ∧ Below w.heap.size w w') := hide_ (fun w => fill_any s x.a w (hx.kid (by omega)) hs)
  obtain ⟨b, hb⟩ : ∃ b, dSt s x r = b := ⟨_, rfl⟩
  rw [hb]
  have Hb := hide_ hb
  have Hop := hide_ hop
  clear B2 K1 KX hx hs hb hop
  unfold stv inv
  go_enter Tryz.func132, Tryz.ntmps132
  go_upto_region 1 with fail
  try rw [hw2]
  clear hw2
  rw [Hop.out] at i0
  have E : Hid ((fillP s x.a).2 = b) := hide_ (by rw [← Hb.out]; unfold dSt; first | (simp [Hop.out]; done) | (have := Hop.out; repeat (first | rw [if_pos (by omega)] | rw [if_neg (by omega)])))
  go_wp2_with fail
  refine (HF.out _).mono ?_
  rintro e w3 ⟨rfl, hB3⟩
  have HB3 := hide_ (below_to HB2.out hB3)
  have hsz := hB3.size
  rw [E.out]
  clear hB3
  unfold stv
  go_wp2
  go_ret
  exact ⟨rfl, HB3.out.alloc (by have := HB3.out.size; omega) _⟩
set_option maxRecDepth 100000 in
set_option maxHeartbeats 8000000 in
theorem dst_3 (s : St) (x : In) (r : Int) (w : World) (hx : DOk x) (hs : s.ki < 18446744073709551616) (hop : x.op = 3) : Calls Tryz.prog 132 #[.agg #[], stv s, inv x, .int .i64 r] w fun e w' => e = .returned (.bool (dSt s x r)) ∧ Below w.heap.size w w' := by
  obtain ⟨B2, K1, KX, hz⟩ := box5_ok 94 w s x
  obtain ⟨w2, hw2⟩ : ∃ wx, box5 94 w s x = wx := ⟨_, rfl⟩
  rw [hw2] at B2 K1 KX hz
  have HB2 := hide_ B2
  obtain ⟨c0, c1, c2, c3, c4, c5, c6⟩ := K1.cs
  obtain ⟨i0, i1, i2, i3⟩ := KX.ci
  have fr1 := fun i => K1.frozen i
  unfold box5 at hw2
  have HF : Hid (∀ w, Calls Tryz.prog 133 #[stv s, .int .i64 x.a] w fun e w' => e = .returned (.tuple #[stv (fillP s x.a).1, .bool (fillP s x.a).2]) ∧ Below w.heap.size w w') := hide_ (fun w => fill_any s x.a w (hx.kid (by omega)) hs)
  obtain ⟨b, hb⟩ : ∃ b, dSt s x r = b := ⟨_, rfl⟩
  rw [hb]
  have Hb := hide_ hb
  have Hop := hide_ hop
  clear B2 K1 KX hx hs hb hop
  unfold stv inv
  go_enter Tryz.func132, Tryz.ntmps132
  go_upto_region 1 with fail
  try rw [hw2]
  clear hw2
  rw [Hop.out] at i0
  have E : Hid ((fillP s x.a).2 = b) := hide_ (by rw [← Hb.out]; unfold dSt; first | (simp [Hop.out]; done) | (have := Hop.out; repeat (first | rw [if_pos (by omega)] | rw [if_neg (by omega)])))
  go_wp2_with fail
  refine (HF.out _).mono ?_
  rintro e w3 ⟨rfl, hB3⟩
  have HB3 := hide_ (below_to HB2.out hB3)
  have hsz := hB3.size
  rw [E.out]
  clear hB3
  unfold stv
  go_wp2
  go_ret
  exact ⟨rfl, HB3.out.alloc (by have := HB3.out.size; omega) _⟩
set_option maxRecDepth 100000 in
set_option maxHeartbeats 8000000 in
theorem dst_4 (s : St) (x : In) (r : Int) (w : World) (hx : DOk x) (hs : s.ki < 18446744073709551616) (hop : x.op = 4) : Calls Tryz.prog 132 #[.agg #[], stv s, inv x, .int .i64 r] w fun e w' => e = .returned (.bool (dSt s x r)) ∧ Below w.heap.size w w' := by
  obtain ⟨B2, K1, KX, hz⟩ := box5_ok 94 w s x
  obtain ⟨w2, hw2⟩ : ∃ wx, box5 94 w s x = wx := ⟨_, rfl⟩
  rw [hw2] at B2 K1 KX hz
  have HB2 := hide_ B2
  obtain ⟨c0, c1, c2, c3, c4, c5, c6⟩ := K1.cs
  obtain ⟨i0, i1, i2, i3⟩ := KX.ci
  have fr1 := fun i => K1.frozen i
  unfold box5 at hw2
  have HF : Hid (∀ w, Calls Tryz.prog 133 #[stv s, .int .i64 x.a] w fun e w' => e = .returned (.tuple #[stv (fillP s x.a).1, .bool (fillP s x.a).2]) ∧ Below w.heap.size w w') := hide_ (fun w => fill_any s x.a w (hx.kid (by omega)) hs)
  obtain ⟨b, hb⟩ : ∃ b, dSt s x r = b := ⟨_, rfl⟩
  rw [hb]
  have Hb := hide_ hb
  have Hop := hide_ hop
  clear B2 K1 KX hx hs hb hop
  unfold stv inv
  go_enter Tryz.func132, Tryz.ntmps132
  go_upto_region 1 with fail
  try rw [hw2]
  clear hw2
  rw [Hop.out] at i0
  have E : Hid ((fillP s x.a).2 = b) := hide_ (by rw [← Hb.out]; unfold dSt; first | (simp [Hop.out]; done) | (have := Hop.out; repeat (first | rw [if_pos (by omega)] | rw [if_neg (by omega)])))
  go_wp2_with fail
  refine (HF.out _).mono ?_
  rintro e w3 ⟨rfl, hB3⟩
  have HB3 := hide_ (below_to HB2.out hB3)
  have hsz := hB3.size
  rw [E.out]
  clear hB3
  unfold stv
  go_wp2
  go_ret
  exact ⟨rfl, HB3.out.alloc (by have := HB3.out.size; omega) _⟩
set_option maxRecDepth 100000 in
set_option maxHeartbeats 8000000 in
theorem dst_2 (s : St) (x : In) (r : Int) (w : World) (hx : DOk x) (hs : s.ki < 18446744073709551616) (hop : x.op = 2) : Calls Tryz.prog 132 #[.agg #[], stv s, inv x, .int .i64 r] w fun e w' => e = .returned (.bool (dSt s x r)) ∧ Below w.heap.size w w' := by
  obtain ⟨B2, K1, KX, hz⟩ := box5_ok 94 w s x
  obtain ⟨w2, hw2⟩ : ∃ wx, box5 94 w s x = wx := ⟨_, rfl⟩
  rw [hw2] at B2 K1 KX hz
  have HB2 := hide_ B2
  obtain ⟨c0, c1, c2, c3, c4, c5, c6⟩ := K1.cs
  obtain ⟨i0, i1, i2, i3⟩ := KX.ci
  have fr1 := fun i => K1.frozen i
  unfold box5 at hw2
  have HF : Hid (∀ w, Calls Tryz.prog 134 #[stv s, .int .i64 x.a, .int .i64 x.b] w fun e w' => e = .returned (.tuple #[stv (fillR s x.a x.b.toNat).1, .bool (fillR s x.a x.b.toNat).2]) ∧ Below w.heap.size w w') := hide_ (fun w => by
    obtain ⟨h1, h2, h3⟩ := hx.run (by omega)
    have := fillR_any s x.a x.b.toNat w h1 (by omega) hs
    rw [show ((x.b.toNat : Nat) : Int) = x.b by omega] at this
    exact this)
  obtain ⟨b, hb⟩ : ∃ b, dSt s x r = b := ⟨_, rfl⟩
  rw [hb]
  have Hb := hide_ hb
  have Hop := hide_ hop
  clear B2 K1 KX hx hs hb hop
  unfold stv inv
  go_enter Tryz.func132, Tryz.ntmps132
  go_upto_region 1 with fail
  try rw [hw2]
  clear hw2
  rw [Hop.out] at i0
  have E : Hid ((fillR s x.a x.b.toNat).2 = b) := hide_ (by rw [← Hb.out]; unfold dSt; first | (simp [Hop.out]; done) | (have := Hop.out; repeat (first | rw [if_pos (by omega)] | rw [if_neg (by omega)])))
  go_wp2_with fail
  refine (HF.out _).mono ?_
  rintro e w3 ⟨rfl, hB3⟩
  have HB3 := hide_ (below_to HB2.out hB3)
  have hsz := hB3.size
  rw [E.out]
  clear hB3
  unfold stv
  go_wp2
  go_ret
  exact ⟨rfl, HB3.out.alloc (by have := HB3.out.size; omega) _⟩
set_option maxRecDepth 100000 in
set_option maxHeartbeats 8000000 in
theorem dst_16 (s : St) (x : In) (r : Int) (w : World) (hx : DOk x) (hs : s.ki < 18446744073709551616) (hop : x.op = 16) : Calls Tryz.prog 132 #[.agg #[], stv s, inv x, .int .i64 r] w fun e w' => e = .returned (.bool (dSt s x r)) ∧ Below w.heap.size w w' := by
  obtain ⟨B2, K1, KX, hz⟩ := box5_ok 94 w s x
  obtain ⟨w2, hw2⟩ : ∃ wx, box5 94 w s x = wx := ⟨_, rfl⟩
  rw [hw2] at B2 K1 KX hz
  have HB2 := hide_ B2
  obtain ⟨c0, c1, c2, c3, c4, c5, c6⟩ := K1.cs
  obtain ⟨i0, i1, i2, i3⟩ := KX.ci
  have fr1 := fun i => K1.frozen i
  unfold box5 at hw2
  have HF : Hid (∀ w, Calls Tryz.prog 133 #[stv s, .int .i64 x.a] w fun e w' => e = .returned (.tuple #[stv (fillP s x.a).1, .bool (fillP s x.a).2]) ∧ Below w.heap.size w w') := hide_ (fun w => fill_any s x.a w (hx.kid (by omega)) hs)
  obtain ⟨b, hb⟩ : ∃ b, dSt s x r = b := ⟨_, rfl⟩
  rw [hb]
  have Hb := hide_ hb
  have Hop := hide_ hop
  clear B2 K1 KX hx hs hb hop
  unfold stv inv
  go_enter Tryz.func132, Tryz.ntmps132
  go_upto_region 1 with fail
  try rw [hw2]
  clear hw2
  rw [Hop.out] at i0
  by_cases gc : r ≤ x.c
  · have E : Hid (false = b) := hide_ (by rw [← Hb.out]; unfold dSt; first | (simp [Hop.out, gc]; done) | (have := Hop.out; repeat (first | rw [if_pos (by omega)] | rw [if_neg (by omega)])))
    have f0 : (decide (r ≤ x.c)) = true := by first | (simp [gc]; done) | (simp; omega)
    have Hgc := hide_ gc
    clear gc
    go_wp2_with fail
    go_ret
    exact ⟨by rw [← E.out]; rfl, HB2.out⟩
  · have E : Hid ((fillP s x.a).2 = b) := hide_ (by rw [← Hb.out]; unfold dSt; first | (simp [Hop.out, gc]; done) | (have := Hop.out; repeat (first | rw [if_pos (by omega)] | rw [if_neg (by omega)])))
    have f0 : (decide (r ≤ x.c)) = false := by first | (simp [gc]; done) | (simp; omega)
    have Hgc := hide_ gc
    clear gc
    go_wp2_with fail
    refine (HF.out _).mono ?_
    rintro e w3 ⟨rfl, hB3⟩
    have HB3 := hide_ (below_to HB2.out hB3)
    have hsz := hB3.size
    rw [E.out]
    clear hB3
    unfold stv
    go_wp2
    go_ret
    exact ⟨rfl, HB3.out.alloc (by have := HB3.out.size; omega) _⟩
set_option maxRecDepth 100000 in
set_option maxHeartbeats 8000000 in
theorem dst_20 (s : St) (x : In) (r : Int) (w : World) (hx : DOk x) (hs : s.ki < 18446744073709551616) (hop : x.op = 20) : Calls Tryz.prog 132 #[.agg #[], stv s, inv x, .int .i64 r] w fun e w' => e = .returned (.bool (dSt s x r)) ∧ Below w.heap.size w w' := by
  obtain ⟨B2, K1, KX, hz⟩ := box5_ok 94 w s x
  obtain ⟨w2, hw2⟩ : ∃ wx, box5 94 w s x = wx := ⟨_, rfl⟩
  rw [hw2] at B2 K1 KX hz
  have HB2 := hide_ B2
  obtain ⟨c0, c1, c2, c3, c4, c5, c6⟩ := K1.cs
  obtain ⟨i0, i1, i2, i3⟩ := KX.ci
  have fr1 := fun i => K1.frozen i
  unfold box5 at hw2
  have HF : Hid (∀ w, Calls Tryz.prog 138 #[stv s] w fun e w' => e = .returned (.bool (wholeP s)) ∧ Below w.heap.size w w') := hide_ (fun w => wholeP_any s w hs)
  obtain ⟨b, hb⟩ : ∃ b, dSt s x r = b := ⟨_, rfl⟩
  rw [hb]
  have Hb := hide_ hb
  have Hop := hide_ hop
  clear B2 K1 KX hx hs hb hop
  unfold stv inv
  go_enter Tryz.func132, Tryz.ntmps132
  go_upto_region 1 with fail
  try rw [hw2]
  clear hw2
  rw [Hop.out] at i0
  have E : Hid (wholeP s = b) := hide_ (by rw [← Hb.out]; unfold dSt; first | (simp [Hop.out]; done) | (have := Hop.out; repeat (first | rw [if_pos (by omega)] | rw [if_neg (by omega)])))
  go_wp2_with fail
  refine (HF.out _).mono ?_
  rintro e w3 ⟨rfl, hB3⟩
  have HB3 := hide_ (below_to HB2.out hB3)
  rw [E.out]
  clear hB3
  go_wp2
  go_ret
  exact ⟨rfl, HB3.out⟩
set_option maxRecDepth 100000 in
set_option maxHeartbeats 8000000 in
theorem dst_17 (s : St) (x : In) (r : Int) (w : World) (hx : DOk x) (hs : s.ki < 18446744073709551616) (hop : x.op = 17) : Calls Tryz.prog 132 #[.agg #[], stv s, inv x, .int .i64 r] w fun e w' => e = .returned (.bool (dSt s x r)) ∧ Below w.heap.size w w' := by
  obtain ⟨B2, K1, KX, hz⟩ := box5_ok 94 w s x
  obtain ⟨w2, hw2⟩ : ∃ wx, box5 94 w s x = wx := ⟨_, rfl⟩
  rw [hw2] at B2 K1 KX hz
  have HB2 := hide_ B2
  obtain ⟨c0, c1, c2, c3, c4, c5, c6⟩ := K1.cs
  obtain ⟨i0, i1, i2, i3⟩ := KX.ci
  have fr1 := fun i => K1.frozen i
  unfold box5 at hw2
  have HF : Hid (∀ w, Calls Tryz.prog 133 #[stv s, .int .i64 x.a] w fun e w' => e = .returned (.tuple #[stv (fillP s x.a).1, .bool (fillP s x.a).2]) ∧ Below w.heap.size w w') := hide_ (fun w => fill_any s x.a w (hx.kid (by omega)) hs)
  obtain ⟨b, hb⟩ : ∃ b, dSt s x r = b := ⟨_, rfl⟩
  rw [hb]
  have Hb := hide_ hb
  have Hop := hide_ hop
  clear B2 K1 KX hx hs hb hop
  unfold stv inv
  go_enter Tryz.func132, Tryz.ntmps132
  go_upto_region 1 with fail
  try rw [hw2]
  clear hw2
  rw [Hop.out] at i0
  by_cases ga : x.a = -1
  · by_cases gp : s.pl = 1
    · by_cases gf : s.fr = 4
      · have E : Hid (decide (x.c < r) = b) := hide_ (by rw [← Hb.out]; unfold dSt; first | (simp [Hop.out, ga, gp, gf]; done) | (have := Hop.out; repeat (first | rw [if_pos (by omega)] | rw [if_neg (by omega)])))
        have f0 : (x.a == -1) = true := by first | (simp [ga, gp, gf]; done) | (simp; omega)
        have f1 : (s.pl == 1) = true := by first | (simp [ga, gp, gf]; done) | (simp; omega)
        have f2 : (s.fr == 4) = true := by first | (simp [ga, gp, gf]; done) | (simp; omega)
        have Hga := hide_ ga
        have Hgp := hide_ gp
        have Hgf := hide_ gf
        clear ga gp gf
        go_wp2_with fail
        go_ret
        exact ⟨by rw [← E.out]; rfl, HB2.out⟩
      · have E : Hid (false = b) := hide_ (by rw [← Hb.out]; unfold dSt; first | (simp [Hop.out, ga, gp, gf]; done) | (have := Hop.out; repeat (first | rw [if_pos (by omega)] | rw [if_neg (by omega)])))
        have f0 : (x.a == -1) = true := by first | (simp [ga, gp, gf]; done) | (simp; omega)
        have f1 : (s.pl == 1) = true := by first | (simp [ga, gp, gf]; done) | (simp; omega)
        have f2 : (s.fr == 4) = false := by first | (simp [ga, gp, gf]; done) | (simp; omega)
        have Hga := hide_ ga
        have Hgp := hide_ gp
        have Hgf := hide_ gf
        clear ga gp gf
        go_wp2_with fail
        go_ret
        exact ⟨by rw [← E.out]; rfl, HB2.out⟩
    · have E : Hid (false = b) := hide_ (by rw [← Hb.out]; unfold dSt; first | (simp [Hop.out, ga, gp]; done) | (have := Hop.out; repeat (first | rw [if_pos (by omega)] | rw [if_neg (by omega)])))
      have f0 : (x.a == -1) = true := by first | (simp [ga, gp]; done) | (simp; omega)
      have f1 : (s.pl == 1) = false := by first | (simp [ga, gp]; done) | (simp; omega)
      have Hga := hide_ ga
      have Hgp := hide_ gp
      clear ga gp
      go_wp2_with fail
      go_ret
      exact ⟨by rw [← E.out]; rfl, HB2.out⟩
  · by_cases gp : s.pl = 3
    · by_cases gb : x.b = s.pa
      · by_cases gt : s.tb ≤ x.b
        · have E : Hid (false = b) := hide_ (by rw [← Hb.out]; unfold dSt; first | (simp [Hop.out, ga, gp, gb, gt]; done) | (have := Hop.out; repeat (first | rw [if_pos (by omega)] | rw [if_neg (by omega)])))
          have f0 : (x.a == -1) = false := by first | (simp [ga, gp, gb, gt]; done) | (simp; omega)
          have f1 : (s.pl != 3) = false := by first | (simp [ga, gp, gb, gt]; done) | (simp; omega)
          have f2 : (x.b != s.pa) = false := by first | (simp [ga, gp, gb, gt]; done) | (simp; omega)
          have f3 : (decide (s.tb ≤ x.b)) = true := by first | (simp [ga, gp, gb, gt]; done) | (simp; omega)
          have Hga := hide_ ga
          have Hgp := hide_ gp
          have Hgb := hide_ gb
          have Hgt := hide_ gt
          clear ga gp gb gt
          go_wp2_with fail
          go_ret
          exact ⟨by rw [← E.out]; rfl, HB2.out⟩
        · by_cases gc : r ≤ x.c
          · have E : Hid (false = b) := hide_ (by rw [← Hb.out]; unfold dSt; first | (simp [Hop.out, ga, gp, gb, gt, gc]; done) | (have := Hop.out; repeat (first | rw [if_pos (by omega)] | rw [if_neg (by omega)])))
            have f0 : (x.a == -1) = false := by first | (simp [ga, gp, gb, gt, gc]; done) | (simp; omega)
            have f1 : (s.pl != 3) = false := by first | (simp [ga, gp, gb, gt, gc]; done) | (simp; omega)
            have f2 : (x.b != s.pa) = false := by first | (simp [ga, gp, gb, gt, gc]; done) | (simp; omega)
            have f3 : (decide (s.tb ≤ x.b)) = false := by first | (simp [ga, gp, gb, gt, gc]; done) | (simp; omega)
            have f4 : (decide (r ≤ x.c)) = true := by first | (simp [ga, gp, gb, gt, gc]; done) | (simp; omega)
            have Hga := hide_ ga
            have Hgp := hide_ gp
            have Hgb := hide_ gb
            have Hgt := hide_ gt
            have Hgc := hide_ gc
            clear ga gp gb gt gc
            go_wp2_with fail
            go_ret
            exact ⟨by rw [← E.out]; rfl, HB2.out⟩
          · have E : Hid ((fillP s x.a).2 = b) := hide_ (by rw [← Hb.out]; unfold dSt; first | (simp [Hop.out, ga, gp, gb, gt, gc]; done) | (have := Hop.out; repeat (first | rw [if_pos (by omega)] | rw [if_neg (by omega)])))
            have f0 : (x.a == -1) = false := by first | (simp [ga, gp, gb, gt, gc]; done) | (simp; omega)
            have f1 : (s.pl != 3) = false := by first | (simp [ga, gp, gb, gt, gc]; done) | (simp; omega)
            have f2 : (x.b != s.pa) = false := by first | (simp [ga, gp, gb, gt, gc]; done) | (simp; omega)
            have f3 : (decide (s.tb ≤ x.b)) = false := by first | (simp [ga, gp, gb, gt, gc]; done) | (simp; omega)
            have f4 : (decide (r ≤ x.c)) = false := by first | (simp [ga, gp, gb, gt, gc]; done) | (simp; omega)
            have Hga := hide_ ga
            have Hgp := hide_ gp
            have Hgb := hide_ gb
            have Hgt := hide_ gt
            have Hgc := hide_ gc
            clear ga gp gb gt gc
            go_wp2_with fail
            refine (HF.out _).mono ?_
            rintro e w3 ⟨rfl, hB3⟩
            have HB3 := hide_ (below_to HB2.out hB3)
            have hsz := hB3.size
            rw [E.out]
            clear hB3
            unfold stv
            go_wp2
            go_ret
            exact ⟨rfl, HB3.out.alloc (by have := HB3.out.size; omega) _⟩
      · have E : Hid (false = b) := hide_ (by rw [← Hb.out]; unfold dSt; first | (simp [Hop.out, ga, gp, gb]; done) | (have := Hop.out; repeat (first | rw [if_pos (by omega)] | rw [if_neg (by omega)])))
        have f0 : (x.a == -1) = false := by first | (simp [ga, gp, gb]; done) | (simp; omega)
        have f1 : (s.pl != 3) = false := by first | (simp [ga, gp, gb]; done) | (simp; omega)
        have f2 : (x.b != s.pa) = true := by first | (simp [ga, gp, gb]; done) | (simp; omega)
        have Hga := hide_ ga
        have Hgp := hide_ gp
        have Hgb := hide_ gb
        clear ga gp gb
        go_wp2_with fail
        go_ret
        exact ⟨by rw [← E.out]; rfl, HB2.out⟩
    · have E : Hid (false = b) := hide_ (by rw [← Hb.out]; unfold dSt; first | (simp [Hop.out, ga, gp]; done) | (have := Hop.out; repeat (first | rw [if_pos (by omega)] | rw [if_neg (by omega)])))
      have f0 : (x.a == -1) = false := by first | (simp [ga, gp]; done) | (simp; omega)
      have f1 : (s.pl != 3) = true := by first | (simp [ga, gp]; done) | (simp; omega)
      have Hga := hide_ ga
      have Hgp := hide_ gp
      clear ga gp
      go_wp2_with fail
      go_ret
      exact ⟨by rw [← E.out]; rfl, HB2.out⟩
set_option maxRecDepth 100000 in
set_option maxHeartbeats 8000000 in
theorem dst_5 (s : St) (x : In) (r : Int) (w : World) (hx : DOk x) (hs : s.ki < 18446744073709551616) (hop : x.op = 5) : Calls Tryz.prog 132 #[.agg #[], stv s, inv x, .int .i64 r] w fun e w' => e = .returned (.bool (dSt s x r)) ∧ Below w.heap.size w w' := by
  obtain ⟨B2, K1, KX, hz⟩ := box5_ok 94 w s x
  obtain ⟨w2, hw2⟩ : ∃ wx, box5 94 w s x = wx := ⟨_, rfl⟩
  rw [hw2] at B2 K1 KX hz
  have HB2 := hide_ B2
  obtain ⟨c0, c1, c2, c3, c4, c5, c6⟩ := K1.cs
  obtain ⟨i0, i1, i2, i3⟩ := KX.ci
  have fr1 := fun i => K1.frozen i
  unfold box5 at hw2
  obtain ⟨b, hb⟩ : ∃ b, dSt s x r = b := ⟨_, rfl⟩
  rw [hb]
  have Hb := hide_ hb
  have Hop := hide_ hop
  clear B2 K1 KX hx hs hb hop
  unfold stv inv
  go_enter Tryz.func132, Tryz.ntmps132
  go_upto_region 1 with fail
  try rw [hw2]
  clear hw2
  rw [Hop.out] at i0
  have E : Hid (decide (s.pl = 2) = b) := hide_ (by rw [← Hb.out]; unfold dSt; first | (simp [Hop.out]; done) | (have := Hop.out; repeat (first | rw [if_pos (by omega)] | rw [if_neg (by omega)])))
  go_wp2_with fail
  go_ret
  exact ⟨by rw [← E.out]; rfl, HB2.out⟩
set_option maxRecDepth 100000 in
set_option maxHeartbeats 8000000 in
theorem dst_6 (s : St) (x : In) (r : Int) (w : World) (hx : DOk x) (hs : s.ki < 18446744073709551616) (hop : x.op = 6) : Calls Tryz.prog 132 #[.agg #[], stv s, inv x, .int .i64 r] w fun e w' => e = .returned (.bool (dSt s x r)) ∧ Below w.heap.size w w' := by
  obtain ⟨B2, K1, KX, hz⟩ := box5_ok 94 w s x
  obtain ⟨w2, hw2⟩ : ∃ wx, box5 94 w s x = wx := ⟨_, rfl⟩
  rw [hw2] at B2 K1 KX hz
  have HB2 := hide_ B2
  obtain ⟨c0, c1, c2, c3, c4, c5, c6⟩ := K1.cs
  obtain ⟨i0, i1, i2, i3⟩ := KX.ci
  have fr1 := fun i => K1.frozen i
  unfold box5 at hw2
  obtain ⟨b, hb⟩ : ∃ b, dSt s x r = b := ⟨_, rfl⟩
  rw [hb]
  have Hb := hide_ hb
  have Hop := hide_ hop
  clear B2 K1 KX hx hs hb hop
  unfold stv inv
  go_enter Tryz.func132, Tryz.ntmps132
  go_upto_region 1 with fail
  try rw [hw2]
  clear hw2
  rw [Hop.out] at i0
  have E : Hid (decide (s.pl = 2) = b) := hide_ (by rw [← Hb.out]; unfold dSt; first | (simp [Hop.out]; done) | (have := Hop.out; repeat (first | rw [if_pos (by omega)] | rw [if_neg (by omega)])))
  go_wp2_with fail
  go_ret
  exact ⟨by rw [← E.out]; rfl, HB2.out⟩
set_option maxRecDepth 100000 in
set_option maxHeartbeats 8000000 in
theorem dst_7 (s : St) (x : In) (r : Int) (w : World) (hx : DOk x) (hs : s.ki < 18446744073709551616) (hop : x.op = 7) : Calls Tryz.prog 132 #[.agg #[], stv s, inv x, .int .i64 r] w fun e w' => e = .returned (.bool (dSt s x r)) ∧ Below w.heap.size w w' := by
  obtain ⟨B2, K1, KX, hz⟩ := box5_ok 94 w s x
  obtain ⟨w2, hw2⟩ : ∃ wx, box5 94 w s x = wx := ⟨_, rfl⟩
  rw [hw2] at B2 K1 KX hz
  have HB2 := hide_ B2
  obtain ⟨c0, c1, c2, c3, c4, c5, c6⟩ := K1.cs
  obtain ⟨i0, i1, i2, i3⟩ := KX.ci
  have fr1 := fun i => K1.frozen i
  unfold box5 at hw2
  obtain ⟨b, hb⟩ : ∃ b, dSt s x r = b := ⟨_, rfl⟩
  rw [hb]
  have Hb := hide_ hb
  have Hop := hide_ hop
  clear B2 K1 KX hx hs hb hop
  unfold stv inv
  go_enter Tryz.func132, Tryz.ntmps132
  go_upto_region 1 with fail
  try rw [hw2]
  clear hw2
  rw [Hop.out] at i0
  have E : Hid (decide (s.pl = 2) = b) := hide_ (by rw [← Hb.out]; unfold dSt; first | (simp [Hop.out]; done) | (have := Hop.out; repeat (first | rw [if_pos (by omega)] | rw [if_neg (by omega)])))
  go_wp2_with fail
  go_ret
  exact ⟨by rw [← E.out]; rfl, HB2.out⟩
set_option maxRecDepth 100000 in
set_option maxHeartbeats 8000000 in
theorem dst_8 (s : St) (x : In) (r : Int) (w : World) (hx : DOk x) (hs : s.ki < 18446744073709551616) (hop : x.op = 8) : Calls Tryz.prog 132 #[.agg #[], stv s, inv x, .int .i64 r] w fun e w' => e = .returned (.bool (dSt s x r)) ∧ Below w.heap.size w w' := by
  obtain ⟨B2, K1, KX, hz⟩ := box5_ok 94 w s x
  obtain ⟨w2, hw2⟩ : ∃ wx, box5 94 w s x = wx := ⟨_, rfl⟩
  rw [hw2] at B2 K1 KX hz
  have HB2 := hide_ B2
  obtain ⟨c0, c1, c2, c3, c4, c5, c6⟩ := K1.cs
  obtain ⟨i0, i1, i2, i3⟩ := KX.ci
  have fr1 := fun i => K1.frozen i
  unfold box5 at hw2
  obtain ⟨b, hb⟩ : ∃ b, dSt s x r = b := ⟨_, rfl⟩
  rw [hb]
  have Hb := hide_ hb
  have Hop := hide_ hop
  clear B2 K1 KX hx hs hb hop
  unfold stv inv
  go_enter Tryz.func132, Tryz.ntmps132
  go_upto_region 1 with fail
  try rw [hw2]
  clear hw2
  rw [Hop.out] at i0
  have E : Hid (decide (s.pl = 2) = b) := hide_ (by rw [← Hb.out]; unfold dSt; first | (simp [Hop.out]; done) | (have := Hop.out; repeat (first | rw [if_pos (by omega)] | rw [if_neg (by omega)])))
  go_wp2_with fail
  go_ret
  exact ⟨by rw [← E.out]; rfl, HB2.out⟩
set_option maxRecDepth 100000 in
set_option maxHeartbeats 8000000 in
theorem dst_10 (s : St) (x : In) (r : Int) (w : World) (hx : DOk x) (hs : s.ki < 18446744073709551616) (hop : x.op = 10) : Calls Tryz.prog 132 #[.agg #[], stv s, inv x, .int .i64 r] w fun e w' => e = .returned (.bool (dSt s x r)) ∧ Below w.heap.size w w' := by
  obtain ⟨B2, K1, KX, hz⟩ := box5_ok 94 w s x
  obtain ⟨w2, hw2⟩ : ∃ wx, box5 94 w s x = wx := ⟨_, rfl⟩
  rw [hw2] at B2 K1 KX hz
  have HB2 := hide_ B2
  obtain ⟨c0, c1, c2, c3, c4, c5, c6⟩ := K1.cs
  obtain ⟨i0, i1, i2, i3⟩ := KX.ci
  have fr1 := fun i => K1.frozen i
  unfold box5 at hw2
  have HF : Hid (∀ w, Calls Tryz.prog 137 #[stv s, .int .i64 x.a] w fun e w' => e = .returned (.bool (hasP s x.a)) ∧ Below w.heap.size w w') := hide_ (fun w => hasP_any s x.a w)
  obtain ⟨b, hb⟩ : ∃ b, dSt s x r = b := ⟨_, rfl⟩
  rw [hb]
  have Hb := hide_ hb
  have Hop := hide_ hop
  clear B2 K1 KX hx hs hb hop
  unfold stv inv
  go_enter Tryz.func132, Tryz.ntmps132
  go_upto_region 1 with fail
  try rw [hw2]
  clear hw2
  rw [Hop.out] at i0
  have E : Hid (hasP s x.a = b) := hide_ (by rw [← Hb.out]; unfold dSt; first | (simp [Hop.out]; done) | (have := Hop.out; repeat (first | rw [if_pos (by omega)] | rw [if_neg (by omega)])))
  go_wp2_with fail
  refine (HF.out _).mono ?_
  rintro e w3 ⟨rfl, hB3⟩
  have HB3 := hide_ (below_to HB2.out hB3)
  rw [E.out]
  clear hB3
  go_wp2
  go_ret
  exact ⟨rfl, HB3.out⟩
set_option maxRecDepth 100000 in
set_option maxHeartbeats 8000000 in
theorem dst_11 (s : St) (x : In) (r : Int) (w : World) (hx : DOk x) (hs : s.ki < 18446744073709551616) (hop : x.op = 11) : Calls Tryz.prog 132 #[.agg #[], stv s, inv x, .int .i64 r] w fun e w' => e = .returned (.bool (dSt s x r)) ∧ Below w.heap.size w w' := by
  obtain ⟨B2, K1, KX, hz⟩ := box5_ok 94 w s x
  obtain ⟨w2, hw2⟩ : ∃ wx, box5 94 w s x = wx := ⟨_, rfl⟩
  rw [hw2] at B2 K1 KX hz
  have HB2 := hide_ B2
  obtain ⟨c0, c1, c2, c3, c4, c5, c6⟩ := K1.cs
  obtain ⟨i0, i1, i2, i3⟩ := KX.ci
  have fr1 := fun i => K1.frozen i
  unfold box5 at hw2
  obtain ⟨b, hb⟩ : ∃ b, dSt s x r = b := ⟨_, rfl⟩
  rw [hb]
  have Hb := hide_ hb
  have Hop := hide_ hop
  clear B2 K1 KX hx hs hb hop
  unfold stv inv
  go_enter Tryz.func132, Tryz.ntmps132
  go_upto_region 1 with fail
  try rw [hw2]
  clear hw2
  rw [Hop.out] at i0
  by_cases gp : s.pl = 1
  · have E : Hid (decide (s.tb = 0) = b) := hide_ (by rw [← Hb.out]; unfold dSt; first | (simp [Hop.out, gp]; done) | (have := Hop.out; repeat (first | rw [if_pos (by omega)] | rw [if_neg (by omega)])))
    have f0 : (s.pl == 1) = true := by first | (simp [gp]; done) | (simp; omega)
    have Hgp := hide_ gp
    clear gp
    go_wp2_with fail
    go_ret
    exact ⟨by rw [← E.out]; rfl, HB2.out⟩
  · have E : Hid (false = b) := hide_ (by rw [← Hb.out]; unfold dSt; first | (simp [Hop.out, gp]; done) | (have := Hop.out; repeat (first | rw [if_pos (by omega)] | rw [if_neg (by omega)])))
    have f0 : (s.pl == 1) = false := by first | (simp [gp]; done) | (simp; omega)
    have Hgp := hide_ gp
    clear gp
    go_wp2_with fail
    go_ret
    exact ⟨by rw [← E.out]; rfl, HB2.out⟩
set_option maxRecDepth 100000 in
set_option maxHeartbeats 8000000 in
theorem dst_13 (s : St) (x : In) (r : Int) (w : World) (hx : DOk x) (hs : s.ki < 18446744073709551616) (hop : x.op = 13) : Calls Tryz.prog 132 #[.agg #[], stv s, inv x, .int .i64 r] w fun e w' => e = .returned (.bool (dSt s x r)) ∧ Below w.heap.size w w' := by
  obtain ⟨B2, K1, KX, hz⟩ := box5_ok 94 w s x
  obtain ⟨w2, hw2⟩ : ∃ wx, box5 94 w s x = wx := ⟨_, rfl⟩
  rw [hw2] at B2 K1 KX hz
  have HB2 := hide_ B2
  obtain ⟨c0, c1, c2, c3, c4, c5, c6⟩ := K1.cs
  obtain ⟨i0, i1, i2, i3⟩ := KX.ci
  have fr1 := fun i => K1.frozen i
  unfold box5 at hw2
  obtain ⟨b, hb⟩ : ∃ b, dSt s x r = b := ⟨_, rfl⟩
  rw [hb]
  have Hb := hide_ hb
  have Hop := hide_ hop
  clear B2 K1 KX hx hs hb hop
  unfold stv inv
  go_enter Tryz.func132, Tryz.ntmps132
  go_upto_region 1 with fail
  try rw [hw2]
  clear hw2
  rw [Hop.out] at i0
  have E : Hid (decide (s.pl = 1) = b) := hide_ (by rw [← Hb.out]; unfold dSt; first | (simp [Hop.out]; done) | (have := Hop.out; repeat (first | rw [if_pos (by omega)] | rw [if_neg (by omega)])))
  go_wp2_with fail
  go_ret
  exact ⟨by rw [← E.out]; rfl, HB2.out⟩
set_option maxRecDepth 100000 in
set_option maxHeartbeats 8000000 in
theorem dst_14 (s : St) (x : In) (r : Int) (w : World) (hx : DOk x) (hs : s.ki < 18446744073709551616) (hop : x.op = 14) : Calls Tryz.prog 132 #[.agg #[], stv s, inv x, .int .i64 r] w fun e w' => e = .returned (.bool (dSt s x r)) ∧ Below w.heap.size w w' := by
  obtain ⟨B2, K1, KX, hz⟩ := box5_ok 94 w s x
  obtain ⟨w2, hw2⟩ : ∃ wx, box5 94 w s x = wx := ⟨_, rfl⟩
  rw [hw2] at B2 K1 KX hz
  have HB2 := hide_ B2
  obtain ⟨c0, c1, c2, c3, c4, c5, c6⟩ := K1.cs
  obtain ⟨i0, i1, i2, i3⟩ := KX.ci
  have fr1 := fun i => K1.frozen i
  unfold box5 at hw2
  obtain ⟨b, hb⟩ : ∃ b, dSt s x r = b := ⟨_, rfl⟩
  rw [hb]
  have Hb := hide_ hb
  have Hop := hide_ hop
  clear B2 K1 KX hx hs hb hop
  unfold stv inv
  go_enter Tryz.func132, Tryz.ntmps132
  go_upto_region 1 with fail
  try rw [hw2]
  clear hw2
  rw [Hop.out] at i0
  have E : Hid (decide (s.pl = 1) = b) := hide_ (by rw [← Hb.out]; unfold dSt; first | (simp [Hop.out]; done) | (have := Hop.out; repeat (first | rw [if_pos (by omega)] | rw [if_neg (by omega)])))
  go_wp2_with fail
  go_ret
  exact ⟨by rw [← E.out]; rfl, HB2.out⟩
set_option maxRecDepth 100000 in
set_option maxHeartbeats 8000000 in
theorem dst_18 (s : St) (x : In) (r : Int) (w : World) (hx : DOk x) (hs : s.ki < 18446744073709551616) (hop : x.op = 18) : Calls Tryz.prog 132 #[.agg #[], stv s, inv x, .int .i64 r] w fun e w' => e = .returned (.bool (dSt s x r)) ∧ Below w.heap.size w w' := by
  obtain ⟨B2, K1, KX, hz⟩ := box5_ok 94 w s x
  obtain ⟨w2, hw2⟩ : ∃ wx, box5 94 w s x = wx := ⟨_, rfl⟩
  rw [hw2] at B2 K1 KX hz
  have HB2 := hide_ B2
  obtain ⟨c0, c1, c2, c3, c4, c5, c6⟩ := K1.cs
  obtain ⟨i0, i1, i2, i3⟩ := KX.ci
  have fr1 := fun i => K1.frozen i
  unfold box5 at hw2
  obtain ⟨b, hb⟩ : ∃ b, dSt s x r = b := ⟨_, rfl⟩
  rw [hb]
  have Hb := hide_ hb
  have Hop := hide_ hop
  clear B2 K1 KX hx hs hb hop
  unfold stv inv
  go_enter Tryz.func132, Tryz.ntmps132
  go_upto_region 1 with fail
  try rw [hw2]
  clear hw2
  rw [Hop.out] at i0
  by_cases ga : 0 ≤ x.a
  · by_cases gp : s.pl = 3
    · have E : Hid (decide (x.a < s.pa) = b) := hide_ (by rw [← Hb.out]; unfold dSt; first | (simp [Hop.out, ga, gp]; done) | (have := Hop.out; repeat (first | rw [if_pos (by omega)] | rw [if_neg (by omega)])))
      have f0 : (decide (0 ≤ x.a)) = true := by first | (simp [ga, gp]; done) | (simp; omega)
      have f1 : (s.pl == 3) = true := by first | (simp [ga, gp]; done) | (simp; omega)
      have Hga := hide_ ga
      have Hgp := hide_ gp
      clear ga gp
      go_wp2_with fail
      go_ret
      exact ⟨by rw [← E.out]; rfl, HB2.out⟩
    · have E : Hid (false = b) := hide_ (by rw [← Hb.out]; unfold dSt; first | (simp [Hop.out, ga, gp]; done) | (have := Hop.out; repeat (first | rw [if_pos (by omega)] | rw [if_neg (by omega)])))
      have f0 : (decide (0 ≤ x.a)) = true := by first | (simp [ga, gp]; done) | (simp; omega)
      have f1 : (s.pl == 3) = false := by first | (simp [ga, gp]; done) | (simp; omega)
      have Hga := hide_ ga
      have Hgp := hide_ gp
      clear ga gp
      go_wp2_with fail
      go_ret
      exact ⟨by rw [← E.out]; rfl, HB2.out⟩
  · by_cases gp : s.pl = 1
    · have E : Hid (decide (s.tb = -1) = b) := hide_ (by rw [← Hb.out]; unfold dSt; first | (simp [Hop.out, ga, gp]; done) | (have := Hop.out; repeat (first | rw [if_pos (by omega)] | rw [if_neg (by omega)])))
      have f0 : (decide (0 ≤ x.a)) = false := by first | (simp [ga, gp]; done) | (simp; omega)
      have f1 : (s.pl == 1) = true := by first | (simp [ga, gp]; done) | (simp; omega)
      have Hga := hide_ ga
      have Hgp := hide_ gp
      clear ga gp
      go_wp2_with fail
      go_ret
      exact ⟨by rw [← E.out]; rfl, HB2.out⟩
    · have E : Hid (false = b) := hide_ (by rw [← Hb.out]; unfold dSt; first | (simp [Hop.out, ga, gp]; done) | (have := Hop.out; repeat (first | rw [if_pos (by omega)] | rw [if_neg (by omega)])))
      have f0 : (decide (0 ≤ x.a)) = false := by first | (simp [ga, gp]; done) | (simp; omega)
      have f1 : (s.pl == 1) = false := by first | (simp [ga, gp]; done) | (simp; omega)
      have Hga := hide_ ga
      have Hgp := hide_ gp
      clear ga gp
      go_wp2_with fail
      go_ret
      exact ⟨by rw [← E.out]; rfl, HB2.out⟩
set_option maxRecDepth 100000 in
set_option maxHeartbeats 8000000 in
theorem dst_12 (s : St) (x : In) (r : Int) (w : World) (hx : DOk x) (hs : s.ki < 18446744073709551616) (hop : x.op = 12) : Calls Tryz.prog 132 #[.agg #[], stv s, inv x, .int .i64 r] w fun e w' => e = .returned (.bool (dSt s x r)) ∧ Below w.heap.size w w' := by
  obtain ⟨B2, K1, KX, hz⟩ := box5_ok 94 w s x
  obtain ⟨w2, hw2⟩ : ∃ wx, box5 94 w s x = wx := ⟨_, rfl⟩
  rw [hw2] at B2 K1 KX hz
  have HB2 := hide_ B2
  obtain ⟨c0, c1, c2, c3, c4, c5, c6⟩ := K1.cs
  obtain ⟨i0, i1, i2, i3⟩ := KX.ci
  have fr1 := fun i => K1.frozen i
  unfold box5 at hw2
  obtain ⟨b, hb⟩ : ∃ b, dSt s x r = b := ⟨_, rfl⟩
  rw [hb]
  have Hb := hide_ hb
  have Hop := hide_ hop
  clear B2 K1 KX hx hs hb hop
  unfold stv inv
  go_enter Tryz.func132, Tryz.ntmps132
  go_upto_region 1 with fail
  try rw [hw2]
  clear hw2
  rw [Hop.out] at i0
  by_cases gp : s.pl = 1
  · have E : Hid (decide (s.tb = -1) = b) := hide_ (by rw [← Hb.out]; unfold dSt; first | (simp [Hop.out, gp]; done) | (have := Hop.out; repeat (first | rw [if_pos (by omega)] | rw [if_neg (by omega)])))
    have f0 : (s.pl == 1) = true := by first | (simp [gp]; done) | (simp; omega)
    have Hgp := hide_ gp
    clear gp
    go_wp2_with fail
    go_ret
    exact ⟨by rw [← E.out]; rfl, HB2.out⟩
  · have E : Hid (false = b) := hide_ (by rw [← Hb.out]; unfold dSt; first | (simp [Hop.out, gp]; done) | (have := Hop.out; repeat (first | rw [if_pos (by omega)] | rw [if_neg (by omega)])))
    have f0 : (s.pl == 1) = false := by first | (simp [gp]; done) | (simp; omega)
    have Hgp := hide_ gp
    clear gp
    go_wp2_with fail
    go_ret
    exact ⟨by rw [← E.out]; rfl, HB2.out⟩
set_option maxRecDepth 100000 in
set_option maxHeartbeats 8000000 in
theorem dst_15 (s : St) (x : In) (r : Int) (w : World) (hx : DOk x) (hs : s.ki < 18446744073709551616) (hop : x.op = 15) : Calls Tryz.prog 132 #[.agg #[], stv s, inv x, .int .i64 r] w fun e w' => e = .returned (.bool (dSt s x r)) ∧ Below w.heap.size w w' := by
  obtain ⟨B2, K1, KX, hz⟩ := box5_ok 94 w s x
  obtain ⟨w2, hw2⟩ : ∃ wx, box5 94 w s x = wx := ⟨_, rfl⟩
  rw [hw2] at B2 K1 KX hz
  have HB2 := hide_ B2
  obtain ⟨c0, c1, c2, c3, c4, c5, c6⟩ := K1.cs
  obtain ⟨i0, i1, i2, i3⟩ := KX.ci
  have fr1 := fun i => K1.frozen i
  unfold box5 at hw2
  obtain ⟨b, hb⟩ : ∃ b, dSt s x r = b := ⟨_, rfl⟩
  rw [hb]
  have Hb := hide_ hb
  have Hop := hide_ hop
  clear B2 K1 KX hx hs hb hop
  unfold stv inv
  go_enter Tryz.func132, Tryz.ntmps132
  go_upto_region 1 with fail
  try rw [hw2]
  clear hw2
  rw [Hop.out] at i0
  by_cases gp : s.pl = 1
  · have E : Hid (decide (s.tb = -1) = b) := hide_ (by rw [← Hb.out]; unfold dSt; first | (simp [Hop.out, gp]; done) | (have := Hop.out; repeat (first | rw [if_pos (by omega)] | rw [if_neg (by omega)])))
    have f0 : (s.pl == 1) = true := by first | (simp [gp]; done) | (simp; omega)
    have Hgp := hide_ gp
    clear gp
    go_wp2_with fail
    go_ret
    exact ⟨by rw [← E.out]; rfl, HB2.out⟩
  · have E : Hid (false = b) := hide_ (by rw [← Hb.out]; unfold dSt; first | (simp [Hop.out, gp]; done) | (have := Hop.out; repeat (first | rw [if_pos (by omega)] | rw [if_neg (by omega)])))
    have f0 : (s.pl == 1) = false := by first | (simp [gp]; done) | (simp; omega)
    have Hgp := hide_ gp
    clear gp
    go_wp2_with fail
    go_ret
    exact ⟨by rw [← E.out]; rfl, HB2.out⟩
set_option maxRecDepth 100000 in
set_option maxHeartbeats 8000000 in
theorem dst_x (s : St) (x : In) (r : Int) (w : World) (hx : DOk x) (hs : s.ki < 18446744073709551616) (hop : x.op ≠ 17 ∧ x.op ≠ 16 ∧ x.op ≠ 1 ∧ x.op ≠ 3 ∧ x.op ≠ 4 ∧ x.op ≠ 2 ∧ x.op ≠ 5 ∧ x.op ≠ 6 ∧ x.op ≠ 7 ∧ x.op ≠ 8 ∧ x.op ≠ 10 ∧ x.op ≠ 11 ∧ x.op ≠ 13 ∧ x.op ≠ 14 ∧ x.op ≠ 18 ∧ x.op ≠ 12 ∧ x.op ≠ 15 ∧ x.op ≠ 20) : Calls Tryz.prog 132 #[.agg #[], stv s, inv x, .int .i64 r] w fun e w' => e = .returned (.bool (dSt s x r)) ∧ Below w.heap.size w w' := by
  obtain ⟨B2, K1, KX, hz⟩ := box5_ok 94 w s x
  obtain ⟨w2, hw2⟩ : ∃ wx, box5 94 w s x = wx := ⟨_, rfl⟩
  rw [hw2] at B2 K1 KX hz
  have HB2 := hide_ B2
  obtain ⟨c0, c1, c2, c3, c4, c5, c6⟩ := K1.cs
  obtain ⟨i0, i1, i2, i3⟩ := KX.ci
  have fr1 := fun i => K1.frozen i
  unfold box5 at hw2
  obtain ⟨b, hb⟩ : ∃ b, dSt s x r = b := ⟨_, rfl⟩
  rw [hb]
  have Hb := hide_ hb
  have Hop := hide_ hop
  clear B2 K1 KX hx hs hb hop
  unfold stv inv
  go_enter Tryz.func132, Tryz.ntmps132
  go_upto_region 1 with fail
  try rw [hw2]
  clear hw2
  have q17 : (x.op == 17) = false := by have := Hop.out; simp; omega
  have q16 : (x.op == 16) = false := by have := Hop.out; simp; omega
  have q1 : (x.op == 1) = false := by have := Hop.out; simp; omega
  have q3 : (x.op == 3) = false := by have := Hop.out; simp; omega
  have q4 : (x.op == 4) = false := by have := Hop.out; simp; omega
  have q2 : (x.op == 2) = false := by have := Hop.out; simp; omega
  have q5 : (x.op == 5) = false := by have := Hop.out; simp; omega
  have q6 : (x.op == 6) = false := by have := Hop.out; simp; omega
  have q7 : (x.op == 7) = false := by have := Hop.out; simp; omega
  have q8 : (x.op == 8) = false := by have := Hop.out; simp; omega
  have q10 : (x.op == 10) = false := by have := Hop.out; simp; omega
  have q11 : (x.op == 11) = false := by have := Hop.out; simp; omega
  have q13 : (x.op == 13) = false := by have := Hop.out; simp; omega
  have q14 : (x.op == 14) = false := by have := Hop.out; simp; omega
  have q18 : (x.op == 18) = false := by have := Hop.out; simp; omega
  have q12 : (x.op == 12) = false := by have := Hop.out; simp; omega
  have q15 : (x.op == 15) = false := by have := Hop.out; simp; omega
  have q20 : (x.op == 20) = false := by have := Hop.out; simp; omega
  have E : Hid (decide (x.op = 19) = b) := hide_ (by have := Hop.out; rw [← Hb.out]; unfold dSt; repeat (first | rw [if_pos (by omega)] | rw [if_neg (by omega)]))
  go_wp2_with fail
  go_ret
  exact ⟨by rw [← E.out]; rfl, HB2.out⟩
theorem dstands_any (s : St) (x : In) (r : Int) (w : World) (hx : DOk x) (hs : s.ki < 18446744073709551616) : Calls Tryz.prog 132 #[.agg #[], stv s, inv x, .int .i64 r] w fun e w' => e = .returned (.bool (dSt s x r)) ∧ Below w.heap.size w w' := by
  by_cases h17 : x.op = 17
  · exact dst_17 s x r w hx hs h17
  by_cases h16 : x.op = 16
  · exact dst_16 s x r w hx hs h16
  by_cases h1 : x.op = 1
  · exact dst_1 s x r w hx hs h1
  by_cases h3 : x.op = 3
  · exact dst_3 s x r w hx hs h3
  by_cases h4 : x.op = 4
  · exact dst_4 s x r w hx hs h4
  by_cases h2 : x.op = 2
  · exact dst_2 s x r w hx hs h2
  by_cases h5 : x.op = 5
  · exact dst_5 s x r w hx hs h5
  by_cases h6 : x.op = 6
  · exact dst_6 s x r w hx hs h6
  by_cases h7 : x.op = 7
  · exact dst_7 s x r w hx hs h7
  by_cases h8 : x.op = 8
  · exact dst_8 s x r w hx hs h8
  by_cases h10 : x.op = 10
  · exact dst_10 s x r w hx hs h10
  by_cases h11 : x.op = 11
  · exact dst_11 s x r w hx hs h11
  by_cases h13 : x.op = 13
  · exact dst_13 s x r w hx hs h13
  by_cases h14 : x.op = 14
  · exact dst_14 s x r w hx hs h14
  by_cases h18 : x.op = 18
  · exact dst_18 s x r w hx hs h18
  by_cases h12 : x.op = 12
  · exact dst_12 s x r w hx hs h12
  by_cases h15 : x.op = 15
  · exact dst_15 s x r w hx hs h15
  by_cases h20 : x.op = 20
  · exact dst_20 s x r w hx hs h20
  exact dst_x s x r w hx hs ⟨h17, h16, h1, h3, h4, h2, h5, h6, h7, h8, h10, h11, h13, h14, h18, h12, h15, h20⟩
end Go.Proofs.YtjamfbpdepahnaaGreat
