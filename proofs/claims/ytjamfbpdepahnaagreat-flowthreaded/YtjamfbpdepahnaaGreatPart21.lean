import Derived.Test.YtjamfbpdepahnaaGreatPart20
namespace Go.Proofs.YtjamfbpdepahnaaGreat
open Go.RowKit
set_option linter.unusedVariables false
set_option linter.unusedSimpArgs false
set_option maxRecDepth 100000 in
set_option maxHeartbeats 8000000 in
theorem dhd_1 (s : St) (x : In) (way : Int) (w : World) (hx : DOk x) (hs : s.ki < 18446744073709551616) (ht : -1 ≤ s.tb ∧ s.tb ≤ 100000000) (hp : 0 ≤ s.pa ∧ s.pa ≤ 100000000) (hop : x.op = 1) : Calls Tryz.prog 130 #[.agg #[], stv s, inv x, .int .i64 way] w fun e w' => e = .returned (stv (dHd s x way)) ∧ Below w.heap.size w w' := by
  obtain ⟨B2, K1, KX, K2, K3, hz⟩ := box6_ok w s x
  obtain ⟨w2, hw2⟩ : ∃ wx, box6 w s x = wx := ⟨_, rfl⟩
  rw [hw2] at B2 K1 KX K2 K3 hz
  have HB2 := hide_ B2
  have HK1 := hide_ K1
  have HK2 := hide_ K2
  have HK3 := hide_ K3
  obtain ⟨c0, c1, c2, c3, c4, c5, c6⟩ := K1.cs
  obtain ⟨i0, i1, i2, i3⟩ := KX.ci
  obtain ⟨d0, d1, d2, d3, d4, d5, d6⟩ := K2.cs
  obtain ⟨e0, e1, e2, e3, e4, e5, e6⟩ := K3.cs
  unfold noF at e0 e1 e2 e3 e4 e5 e6
  dsimp only at e0 e1 e2 e3 e4 e5 e6
  have fr1 := fun i => K1.frozen i
  have fr2 := fun i => K2.frozen i
  have fr3 := fun i => K3.frozen i
  unfold box6 box4 box3 at hw2
  have HF : Hid (∀ w, Calls Tryz.prog 133 #[stv s, .int .i64 x.a] w fun e w' => e = .returned (.tuple #[stv (fillP s x.a).1, .bool (fillP s x.a).2]) ∧ Below w.heap.size w w') := hide_ (fun w => fill_any s x.a w (hx.kid (by omega)) hs)
  obtain ⟨r, hr⟩ : ∃ r, dHd s x way = r := ⟨_, rfl⟩
  rw [hr]
  have Hr := hide_ hr
  obtain ⟨rs, hrs⟩ : ∃ y, stv r = y := ⟨_, rfl⟩
  rw [hrs]
  have Hrs := hide_ hrs
  have Hop := hide_ hop
  obtain ⟨hp1, hp2⟩ := hp
  clear B2 K1 KX K2 K3 hx hs hr hrs ht hop
  unfold stv inv
  go_enter Tryz.func130, Tryz.ntmps130
  go_upto_region 3 with fail
  try rw [hw2]
  clear hw2
  rw [Hop.out] at i0
  have E : Hid (r = (fillP s x.a).1) := hide_ (by rw [← Hr.out]; unfold dHd; first | (simp [noF, Hop.out]; done) | (have := Hop.out; repeat (first | rw [if_pos (by omega)] | rw [if_neg (by omega)])))
  go_wp2_with fail
  refine (HF.out _).mono ?_
  rintro e w3 ⟨rfl, hB3⟩
  have L2 := Blk.later (HK2.out) hB3
  have L3 := Blk.later (HK3.out) hB3
  have HB3 := hide_ (below_to HB2.out hB3)
  have hsz := hB3.size
  clear hB3 c0 c1 c2 c3 c4 c5 c6 d0 d1 d2 d3 d4 d5 d6 e0 e1 e2 e3 e4 e5 e6 fr1 fr2 fr3
  obtain ⟨d0, d1, d2, d3, d4, d5, d6⟩ := L2.cs
  obtain ⟨e0, e1, e2, e3, e4, e5, e6⟩ := L3.cs
  have fr2 := fun i => L2.frozen i
  have fr3 := fun i => L3.frozen i
  have HL2 := hide_ L2
  clear L2 L3
  obtain ⟨f, hf⟩ : ∃ f, (fillP s x.a).1 = f := ⟨_, rfl⟩
  rw [hf]
  have Hf := hide_ hf
  clear hf
  unfold stv
  go_wp2
  refine retSt rfl f rfl (Blk.putS (HL2.out.putO _ f (by omega)) f) ?_
  exact ⟨by (rw [← Hrs.out, E.out, Hf.out]; try rfl), below_putS (below_putS HB3.out _ f (by omega)) _ f (by omega)⟩
set_option maxRecDepth 100000 in
set_option maxHeartbeats 8000000 in
theorem dhd_3 (s : St) (x : In) (way : Int) (w : World) (hx : DOk x) (hs : s.ki < 18446744073709551616) (ht : -1 ≤ s.tb ∧ s.tb ≤ 100000000) (hp : 0 ≤ s.pa ∧ s.pa ≤ 100000000) (hop : x.op = 3) : Calls Tryz.prog 130 #[.agg #[], stv s, inv x, .int .i64 way] w fun e w' => e = .returned (stv (dHd s x way)) ∧ Below w.heap.size w w' := by
  obtain ⟨B2, K1, KX, K2, K3, hz⟩ := box6_ok w s x
  obtain ⟨w2, hw2⟩ : ∃ wx, box6 w s x = wx := ⟨_, rfl⟩
  rw [hw2] at B2 K1 KX K2 K3 hz
  have HB2 := hide_ B2
  have HK1 := hide_ K1
  have HK2 := hide_ K2
  have HK3 := hide_ K3
  obtain ⟨c0, c1, c2, c3, c4, c5, c6⟩ := K1.cs
  obtain ⟨i0, i1, i2, i3⟩ := KX.ci
  obtain ⟨d0, d1, d2, d3, d4, d5, d6⟩ := K2.cs
  obtain ⟨e0, e1, e2, e3, e4, e5, e6⟩ := K3.cs
  unfold noF at e0 e1 e2 e3 e4 e5 e6
  dsimp only at e0 e1 e2 e3 e4 e5 e6
  have fr1 := fun i => K1.frozen i
  have fr2 := fun i => K2.frozen i
  have fr3 := fun i => K3.frozen i
  unfold box6 box4 box3 at hw2
  have HF : Hid (∀ w, Calls Tryz.prog 133 #[stv s, .int .i64 x.a] w fun e w' => e = .returned (.tuple #[stv (fillP s x.a).1, .bool (fillP s x.a).2]) ∧ Below w.heap.size w w') := hide_ (fun w => fill_any s x.a w (hx.kid (by omega)) hs)
  obtain ⟨r, hr⟩ : ∃ r, dHd s x way = r := ⟨_, rfl⟩
  rw [hr]
  have Hr := hide_ hr
  obtain ⟨rs, hrs⟩ : ∃ y, stv r = y := ⟨_, rfl⟩
  rw [hrs]
  have Hrs := hide_ hrs
  have Hop := hide_ hop
  obtain ⟨hp1, hp2⟩ := hp
  clear B2 K1 KX K2 K3 hx hs hr hrs ht hop
  unfold stv inv
  go_enter Tryz.func130, Tryz.ntmps130
  go_upto_region 3 with fail
  try rw [hw2]
  clear hw2
  rw [Hop.out] at i0
  have E : Hid (r = (fillP s x.a).1) := hide_ (by rw [← Hr.out]; unfold dHd; first | (simp [noF, Hop.out]; done) | (have := Hop.out; repeat (first | rw [if_pos (by omega)] | rw [if_neg (by omega)])))
  go_wp2_with fail
  refine (HF.out _).mono ?_
  rintro e w3 ⟨rfl, hB3⟩
  have L2 := Blk.later (HK2.out) hB3
  have L3 := Blk.later (HK3.out) hB3
  have HB3 := hide_ (below_to HB2.out hB3)
  have hsz := hB3.size
  clear hB3 c0 c1 c2 c3 c4 c5 c6 d0 d1 d2 d3 d4 d5 d6 e0 e1 e2 e3 e4 e5 e6 fr1 fr2 fr3
  obtain ⟨d0, d1, d2, d3, d4, d5, d6⟩ := L2.cs
  obtain ⟨e0, e1, e2, e3, e4, e5, e6⟩ := L3.cs
  have fr2 := fun i => L2.frozen i
  have fr3 := fun i => L3.frozen i
  have HL2 := hide_ L2
  clear L2 L3
  obtain ⟨f, hf⟩ : ∃ f, (fillP s x.a).1 = f := ⟨_, rfl⟩
  rw [hf]
  have Hf := hide_ hf
  clear hf
  unfold stv
  go_wp2
  refine retSt rfl f rfl (Blk.putS (HL2.out.putO _ f (by omega)) f) ?_
  exact ⟨by (rw [← Hrs.out, E.out, Hf.out]; try rfl), below_putS (below_putS HB3.out _ f (by omega)) _ f (by omega)⟩
set_option maxRecDepth 100000 in
set_option maxHeartbeats 8000000 in
theorem dhd_6 (s : St) (x : In) (way : Int) (w : World) (hx : DOk x) (hs : s.ki < 18446744073709551616) (ht : -1 ≤ s.tb ∧ s.tb ≤ 100000000) (hp : 0 ≤ s.pa ∧ s.pa ≤ 100000000) (hop : x.op = 6) : Calls Tryz.prog 130 #[.agg #[], stv s, inv x, .int .i64 way] w fun e w' => e = .returned (stv (dHd s x way)) ∧ Below w.heap.size w w' := by
  obtain ⟨B2, K1, KX, K2, K3, hz⟩ := box6_ok w s x
  obtain ⟨w2, hw2⟩ : ∃ wx, box6 w s x = wx := ⟨_, rfl⟩
  rw [hw2] at B2 K1 KX K2 K3 hz
  have HB2 := hide_ B2
  have HK1 := hide_ K1
  have HK2 := hide_ K2
  have HK3 := hide_ K3
  obtain ⟨c0, c1, c2, c3, c4, c5, c6⟩ := K1.cs
  obtain ⟨i0, i1, i2, i3⟩ := KX.ci
  obtain ⟨d0, d1, d2, d3, d4, d5, d6⟩ := K2.cs
  obtain ⟨e0, e1, e2, e3, e4, e5, e6⟩ := K3.cs
  unfold noF at e0 e1 e2 e3 e4 e5 e6
  dsimp only at e0 e1 e2 e3 e4 e5 e6
  have fr1 := fun i => K1.frozen i
  have fr2 := fun i => K2.frozen i
  have fr3 := fun i => K3.frozen i
  unfold box6 box4 box3 at hw2
  obtain ⟨r, hr⟩ : ∃ r, dHd s x way = r := ⟨_, rfl⟩
  rw [hr]
  have Hr := hide_ hr
  obtain ⟨rs, hrs⟩ : ∃ y, stv r = y := ⟨_, rfl⟩
  rw [hrs]
  have Hrs := hide_ hrs
  have Hop := hide_ hop
  obtain ⟨hp1, hp2⟩ := hp
  clear B2 K1 KX K2 K3 hx hs hr hrs ht hop
  unfold stv inv
  go_enter Tryz.func130, Tryz.ntmps130
  go_upto_region 3 with fail
  try rw [hw2]
  clear hw2
  rw [Hop.out] at i0
  have E : Hid (r = ⟨3, 0, s.tb, s.pa, 0, s.le, s.su⟩) := hide_ (by rw [← Hr.out]; unfold dHd; first | (simp [noF, Hop.out]; done) | (have := Hop.out; repeat (first | rw [if_pos (by omega)] | rw [if_neg (by omega)])))
  go_wp2_with fail
  refine retSt rfl ⟨3, 0, s.tb, s.pa, 0, s.le, s.su⟩ rfl (Blk.putS ((HK2.out.other _ _ (by first | (simp; done) | (simp; omega))).other _ _ (by first | (simp; done) | (simp; omega))) ⟨3, 0, s.tb, s.pa, 0, s.le, s.su⟩) ?_
  exact ⟨by (rw [← Hrs.out, E.out]; try rfl), below_putS (below_set (below_set HB2.out _ _ _ (by omega)) _ _ _ (by omega)) _ ⟨3, 0, s.tb, s.pa, 0, s.le, s.su⟩ (by omega)⟩
set_option maxRecDepth 100000 in
set_option maxHeartbeats 8000000 in
theorem dhd_4 (s : St) (x : In) (way : Int) (w : World) (hx : DOk x) (hs : s.ki < 18446744073709551616) (ht : -1 ≤ s.tb ∧ s.tb ≤ 100000000) (hp : 0 ≤ s.pa ∧ s.pa ≤ 100000000) (hop : x.op = 4) : Calls Tryz.prog 130 #[.agg #[], stv s, inv x, .int .i64 way] w fun e w' => e = .returned (stv (dHd s x way)) ∧ Below w.heap.size w w' := by
  obtain ⟨B2, K1, KX, K2, K3, hz⟩ := box6_ok w s x
  obtain ⟨w2, hw2⟩ : ∃ wx, box6 w s x = wx := ⟨_, rfl⟩
  rw [hw2] at B2 K1 KX K2 K3 hz
  have HB2 := hide_ B2
  have HK1 := hide_ K1
  have HK2 := hide_ K2
  have HK3 := hide_ K3
  obtain ⟨c0, c1, c2, c3, c4, c5, c6⟩ := K1.cs
  obtain ⟨i0, i1, i2, i3⟩ := KX.ci
  obtain ⟨d0, d1, d2, d3, d4, d5, d6⟩ := K2.cs
  obtain ⟨e0, e1, e2, e3, e4, e5, e6⟩ := K3.cs
  unfold noF at e0 e1 e2 e3 e4 e5 e6
  dsimp only at e0 e1 e2 e3 e4 e5 e6
  have fr1 := fun i => K1.frozen i
  have fr2 := fun i => K2.frozen i
  have fr3 := fun i => K3.frozen i
  unfold box6 box4 box3 at hw2
  have HF : Hid (∀ w, Calls Tryz.prog 133 #[stv s, .int .i64 x.a] w fun e w' => e = .returned (.tuple #[stv (fillP s x.a).1, .bool (fillP s x.a).2]) ∧ Below w.heap.size w w') := hide_ (fun w => fill_any s x.a w (hx.kid (by omega)) hs)
  obtain ⟨r, hr⟩ : ∃ r, dHd s x way = r := ⟨_, rfl⟩
  rw [hr]
  have Hr := hide_ hr
  obtain ⟨rs, hrs⟩ : ∃ y, stv r = y := ⟨_, rfl⟩
  rw [hrs]
  have Hrs := hide_ hrs
  have Hop := hide_ hop
  obtain ⟨hp1, hp2⟩ := hp
  clear B2 K1 KX K2 K3 hx hs hr hrs ht hop
  unfold stv inv
  go_enter Tryz.func130, Tryz.ntmps130
  go_upto_region 3 with fail
  try rw [hw2]
  clear hw2
  rw [Hop.out] at i0
  have E : Hid (r = (fillP s x.a).1) := hide_ (by rw [← Hr.out]; unfold dHd; first | (simp [noF, Hop.out]; done) | (have := Hop.out; repeat (first | rw [if_pos (by omega)] | rw [if_neg (by omega)])))
  go_wp2_with fail
  refine (HF.out _).mono ?_
  rintro e w3 ⟨rfl, hB3⟩
  have L2 := Blk.later (HK2.out) hB3
  have L3 := Blk.later (HK3.out) hB3
  have HB3 := hide_ (below_to HB2.out hB3)
  have hsz := hB3.size
  clear hB3 c0 c1 c2 c3 c4 c5 c6 d0 d1 d2 d3 d4 d5 d6 e0 e1 e2 e3 e4 e5 e6 fr1 fr2 fr3
  obtain ⟨d0, d1, d2, d3, d4, d5, d6⟩ := L2.cs
  obtain ⟨e0, e1, e2, e3, e4, e5, e6⟩ := L3.cs
  have fr2 := fun i => L2.frozen i
  have fr3 := fun i => L3.frozen i
  have HL2 := hide_ L2
  clear L2 L3
  obtain ⟨f, hf⟩ : ∃ f, (fillP s x.a).1 = f := ⟨_, rfl⟩
  rw [hf]
  have Hf := hide_ hf
  clear hf
  unfold stv
  go_wp2
  refine retSt rfl f rfl (Blk.putS (HL2.out.putO _ f (by omega)) f) ?_
  exact ⟨by (rw [← Hrs.out, E.out, Hf.out]; try rfl), below_putS (below_putS HB3.out _ f (by omega)) _ f (by omega)⟩
set_option maxRecDepth 100000 in
set_option maxHeartbeats 8000000 in
theorem dhd_16 (s : St) (x : In) (way : Int) (w : World) (hx : DOk x) (hs : s.ki < 18446744073709551616) (ht : -1 ≤ s.tb ∧ s.tb ≤ 100000000) (hp : 0 ≤ s.pa ∧ s.pa ≤ 100000000) (hop : x.op = 16) : Calls Tryz.prog 130 #[.agg #[], stv s, inv x, .int .i64 way] w fun e w' => e = .returned (stv (dHd s x way)) ∧ Below w.heap.size w w' := by
  obtain ⟨B2, K1, KX, K2, K3, hz⟩ := box6_ok w s x
  obtain ⟨w2, hw2⟩ : ∃ wx, box6 w s x = wx := ⟨_, rfl⟩
  rw [hw2] at B2 K1 KX K2 K3 hz
  have HB2 := hide_ B2
  have HK1 := hide_ K1
  have HK2 := hide_ K2
  have HK3 := hide_ K3
  obtain ⟨c0, c1, c2, c3, c4, c5, c6⟩ := K1.cs
  obtain ⟨i0, i1, i2, i3⟩ := KX.ci
  obtain ⟨d0, d1, d2, d3, d4, d5, d6⟩ := K2.cs
  obtain ⟨e0, e1, e2, e3, e4, e5, e6⟩ := K3.cs
  unfold noF at e0 e1 e2 e3 e4 e5 e6
  dsimp only at e0 e1 e2 e3 e4 e5 e6
  have fr1 := fun i => K1.frozen i
  have fr2 := fun i => K2.frozen i
  have fr3 := fun i => K3.frozen i
  unfold box6 box4 box3 at hw2
  have HF : Hid (∀ w, Calls Tryz.prog 133 #[stv s, .int .i64 x.a] w fun e w' => e = .returned (.tuple #[stv (fillP s x.a).1, .bool (fillP s x.a).2]) ∧ Below w.heap.size w w') := hide_ (fun w => fill_any s x.a w (hx.kid (by omega)) hs)
  obtain ⟨r, hr⟩ : ∃ r, dHd s x way = r := ⟨_, rfl⟩
  rw [hr]
  have Hr := hide_ hr
  obtain ⟨rs, hrs⟩ : ∃ y, stv r = y := ⟨_, rfl⟩
  rw [hrs]
  have Hrs := hide_ hrs
  have Hop := hide_ hop
  obtain ⟨hp1, hp2⟩ := hp
  clear B2 K1 KX K2 K3 hx hs hr hrs ht hop
  unfold stv inv
  go_enter Tryz.func130, Tryz.ntmps130
  go_upto_region 3 with fail
  try rw [hw2]
  clear hw2
  rw [Hop.out] at i0
  have E : Hid (r = (fillP s x.a).1) := hide_ (by rw [← Hr.out]; unfold dHd; first | (simp [noF, Hop.out]; done) | (have := Hop.out; repeat (first | rw [if_pos (by omega)] | rw [if_neg (by omega)])))
  go_wp2_with fail
  refine (HF.out _).mono ?_
  rintro e w3 ⟨rfl, hB3⟩
  have L2 := Blk.later (HK2.out) hB3
  have L3 := Blk.later (HK3.out) hB3
  have HB3 := hide_ (below_to HB2.out hB3)
  have hsz := hB3.size
  clear hB3 c0 c1 c2 c3 c4 c5 c6 d0 d1 d2 d3 d4 d5 d6 e0 e1 e2 e3 e4 e5 e6 fr1 fr2 fr3
  obtain ⟨d0, d1, d2, d3, d4, d5, d6⟩ := L2.cs
  obtain ⟨e0, e1, e2, e3, e4, e5, e6⟩ := L3.cs
  have fr2 := fun i => L2.frozen i
  have fr3 := fun i => L3.frozen i
  have HL2 := hide_ L2
  clear L2 L3
  obtain ⟨f, hf⟩ : ∃ f, (fillP s x.a).1 = f := ⟨_, rfl⟩
  rw [hf]
  have Hf := hide_ hf
  clear hf
  unfold stv
  go_wp2
  refine retSt rfl f rfl (Blk.putS (HL2.out.putO _ f (by omega)) f) ?_
  exact ⟨by (rw [← Hrs.out, E.out, Hf.out]; try rfl), below_putS (below_putS HB3.out _ f (by omega)) _ f (by omega)⟩
set_option maxRecDepth 100000 in
set_option maxHeartbeats 8000000 in
theorem dhd_2 (s : St) (x : In) (way : Int) (w : World) (hx : DOk x) (hs : s.ki < 18446744073709551616) (ht : -1 ≤ s.tb ∧ s.tb ≤ 100000000) (hp : 0 ≤ s.pa ∧ s.pa ≤ 100000000) (hop : x.op = 2) : Calls Tryz.prog 130 #[.agg #[], stv s, inv x, .int .i64 way] w fun e w' => e = .returned (stv (dHd s x way)) ∧ Below w.heap.size w w' := by
  obtain ⟨B2, K1, KX, K2, K3, hz⟩ := box6_ok w s x
  obtain ⟨w2, hw2⟩ : ∃ wx, box6 w s x = wx := ⟨_, rfl⟩
  rw [hw2] at B2 K1 KX K2 K3 hz
  have HB2 := hide_ B2
  have HK1 := hide_ K1
  have HK2 := hide_ K2
  have HK3 := hide_ K3
  obtain ⟨c0, c1, c2, c3, c4, c5, c6⟩ := K1.cs
  obtain ⟨i0, i1, i2, i3⟩ := KX.ci
  obtain ⟨d0, d1, d2, d3, d4, d5, d6⟩ := K2.cs
  obtain ⟨e0, e1, e2, e3, e4, e5, e6⟩ := K3.cs
  unfold noF at e0 e1 e2 e3 e4 e5 e6
  dsimp only at e0 e1 e2 e3 e4 e5 e6
  have fr1 := fun i => K1.frozen i
  have fr2 := fun i => K2.frozen i
  have fr3 := fun i => K3.frozen i
  unfold box6 box4 box3 at hw2
  have HF : Hid (∀ w, Calls Tryz.prog 134 #[stv s, .int .i64 x.a, .int .i64 x.b] w fun e w' => e = .returned (.tuple #[stv (fillR s x.a x.b.toNat).1, .bool (fillR s x.a x.b.toNat).2]) ∧ Below w.heap.size w w') := hide_ (fun w => by
    obtain ⟨h1, h2, h3⟩ := hx.run (by omega)
    have := fillR_any s x.a x.b.toNat w h1 (by omega) hs
    rw [show ((x.b.toNat : Nat) : Int) = x.b by omega] at this
    exact this)
  obtain ⟨r, hr⟩ : ∃ r, dHd s x way = r := ⟨_, rfl⟩
  rw [hr]
  have Hr := hide_ hr
  obtain ⟨rs, hrs⟩ : ∃ y, stv r = y := ⟨_, rfl⟩
  rw [hrs]
  have Hrs := hide_ hrs
  have Hop := hide_ hop
  obtain ⟨hp1, hp2⟩ := hp
  clear B2 K1 KX K2 K3 hx hs hr hrs ht hop
  unfold stv inv
  go_enter Tryz.func130, Tryz.ntmps130
  go_upto_region 3 with fail
  try rw [hw2]
  clear hw2
  rw [Hop.out] at i0
  have E : Hid (r = (fillR s x.a x.b.toNat).1) := hide_ (by rw [← Hr.out]; unfold dHd; first | (simp [noF, Hop.out]; done) | (have := Hop.out; repeat (first | rw [if_pos (by omega)] | rw [if_neg (by omega)])))
  go_wp2_with fail
  refine (HF.out _).mono ?_
  rintro e w3 ⟨rfl, hB3⟩
  have L2 := Blk.later (HK2.out) hB3
  have L3 := Blk.later (HK3.out) hB3
  have HB3 := hide_ (below_to HB2.out hB3)
  have hsz := hB3.size
  clear hB3 c0 c1 c2 c3 c4 c5 c6 d0 d1 d2 d3 d4 d5 d6 e0 e1 e2 e3 e4 e5 e6 fr1 fr2 fr3
  obtain ⟨d0, d1, d2, d3, d4, d5, d6⟩ := L2.cs
  obtain ⟨e0, e1, e2, e3, e4, e5, e6⟩ := L3.cs
  have fr2 := fun i => L2.frozen i
  have fr3 := fun i => L3.frozen i
  have HL2 := hide_ L2
  clear L2 L3
  obtain ⟨f, hf⟩ : ∃ f, (fillR s x.a x.b.toNat).1 = f := ⟨_, rfl⟩
  rw [hf]
  have Hf := hide_ hf
  clear hf
  unfold stv
  go_wp2
  refine retSt rfl f rfl (Blk.putS (HL2.out.putO _ f (by omega)) f) ?_
  exact ⟨by (rw [← Hrs.out, E.out, Hf.out]; try rfl), below_putS (below_putS HB3.out _ f (by omega)) _ f (by omega)⟩
set_option maxRecDepth 100000 in
set_option maxHeartbeats 8000000 in
theorem dhd_7 (s : St) (x : In) (way : Int) (w : World) (hx : DOk x) (hs : s.ki < 18446744073709551616) (ht : -1 ≤ s.tb ∧ s.tb ≤ 100000000) (hp : 0 ≤ s.pa ∧ s.pa ≤ 100000000) (hop : x.op = 7) : Calls Tryz.prog 130 #[.agg #[], stv s, inv x, .int .i64 way] w fun e w' => e = .returned (stv (dHd s x way)) ∧ Below w.heap.size w w' := by
  obtain ⟨B2, K1, KX, K2, K3, hz⟩ := box6_ok w s x
  obtain ⟨w2, hw2⟩ : ∃ wx, box6 w s x = wx := ⟨_, rfl⟩
  rw [hw2] at B2 K1 KX K2 K3 hz
  have HB2 := hide_ B2
  have HK1 := hide_ K1
  have HK2 := hide_ K2
  have HK3 := hide_ K3
  obtain ⟨c0, c1, c2, c3, c4, c5, c6⟩ := K1.cs
  obtain ⟨i0, i1, i2, i3⟩ := KX.ci
  obtain ⟨d0, d1, d2, d3, d4, d5, d6⟩ := K2.cs
  obtain ⟨e0, e1, e2, e3, e4, e5, e6⟩ := K3.cs
  unfold noF at e0 e1 e2 e3 e4 e5 e6
  dsimp only at e0 e1 e2 e3 e4 e5 e6
  have fr1 := fun i => K1.frozen i
  have fr2 := fun i => K2.frozen i
  have fr3 := fun i => K3.frozen i
  unfold box6 box4 box3 at hw2
  obtain ⟨r, hr⟩ : ∃ r, dHd s x way = r := ⟨_, rfl⟩
  rw [hr]
  have Hr := hide_ hr
  obtain ⟨rs, hrs⟩ : ∃ y, stv r = y := ⟨_, rfl⟩
  rw [hrs]
  have Hrs := hide_ hrs
  have Hop := hide_ hop
  obtain ⟨hp1, hp2⟩ := hp
  clear B2 K1 KX K2 K3 hx hs hr hrs ht hop
  unfold stv inv
  go_enter Tryz.func130, Tryz.ntmps130
  go_upto_region 3 with fail
  try rw [hw2]
  clear hw2
  rw [Hop.out] at i0
  by_cases gw : way = 1
  · have E : Hid (r = ⟨5, 0, s.tb, s.pa, 0, s.le, s.su⟩) := hide_ (by rw [← Hr.out]; unfold dHd; first | (simp [noF, Hop.out, gw]; done) | (have := Hop.out; repeat (first | rw [if_pos (by omega)] | rw [if_neg (by omega)])))
    have g0 : (way == 1) = true := by first | (simp [gw]; done) | (simp; omega)
    have Hgw := hide_ gw
    clear gw
    go_wp2_with fail
    refine retSt rfl ⟨5, 0, s.tb, s.pa, 0, s.le, s.su⟩ rfl (Blk.putS (((HK2.out.other _ _ (by first | (simp; done) | (simp; omega))).other _ _ (by first | (simp; done) | (simp; omega))).other _ _ (by first | (simp; done) | (simp; omega))) ⟨5, 0, s.tb, s.pa, 0, s.le, s.su⟩) ?_
    exact ⟨by (rw [← Hrs.out, E.out]; try rfl), below_putS (below_set (below_set (below_set HB2.out _ _ _ (by omega)) _ _ _ (by omega)) _ _ _ (by omega)) _ ⟨5, 0, s.tb, s.pa, 0, s.le, s.su⟩ (by omega)⟩
  · have E : Hid (r = ⟨4, 0, s.tb, s.pa, 0, s.le, s.su⟩) := hide_ (by rw [← Hr.out]; unfold dHd; first | (simp [noF, Hop.out, gw]; done) | (have := Hop.out; repeat (first | rw [if_pos (by omega)] | rw [if_neg (by omega)])))
    have g0 : (way == 1) = false := by first | (simp [gw]; done) | (simp; omega)
    have Hgw := hide_ gw
    clear gw
    go_wp2_with fail
    refine retSt rfl ⟨4, 0, s.tb, s.pa, 0, s.le, s.su⟩ rfl (Blk.putS ((HK2.out.other _ _ (by first | (simp; done) | (simp; omega))).other _ _ (by first | (simp; done) | (simp; omega))) ⟨4, 0, s.tb, s.pa, 0, s.le, s.su⟩) ?_
    exact ⟨by (rw [← Hrs.out, E.out]; try rfl), below_putS (below_set (below_set HB2.out _ _ _ (by omega)) _ _ _ (by omega)) _ ⟨4, 0, s.tb, s.pa, 0, s.le, s.su⟩ (by omega)⟩
set_option maxRecDepth 100000 in
set_option maxHeartbeats 8000000 in
theorem dhd_8 (s : St) (x : In) (way : Int) (w : World) (hx : DOk x) (hs : s.ki < 18446744073709551616) (ht : -1 ≤ s.tb ∧ s.tb ≤ 100000000) (hp : 0 ≤ s.pa ∧ s.pa ≤ 100000000) (hop : x.op = 8) : Calls Tryz.prog 130 #[.agg #[], stv s, inv x, .int .i64 way] w fun e w' => e = .returned (stv (dHd s x way)) ∧ Below w.heap.size w w' := by
  obtain ⟨B2, K1, KX, K2, K3, hz⟩ := box6_ok w s x
  obtain ⟨w2, hw2⟩ : ∃ wx, box6 w s x = wx := ⟨_, rfl⟩
  rw [hw2] at B2 K1 KX K2 K3 hz
  have HB2 := hide_ B2
  have HK1 := hide_ K1
  have HK2 := hide_ K2
  have HK3 := hide_ K3
  obtain ⟨c0, c1, c2, c3, c4, c5, c6⟩ := K1.cs
  obtain ⟨i0, i1, i2, i3⟩ := KX.ci
  obtain ⟨d0, d1, d2, d3, d4, d5, d6⟩ := K2.cs
  obtain ⟨e0, e1, e2, e3, e4, e5, e6⟩ := K3.cs
  unfold noF at e0 e1 e2 e3 e4 e5 e6
  dsimp only at e0 e1 e2 e3 e4 e5 e6
  have fr1 := fun i => K1.frozen i
  have fr2 := fun i => K2.frozen i
  have fr3 := fun i => K3.frozen i
  unfold box6 box4 box3 at hw2
  obtain ⟨r, hr⟩ : ∃ r, dHd s x way = r := ⟨_, rfl⟩
  rw [hr]
  have Hr := hide_ hr
  obtain ⟨rs, hrs⟩ : ∃ y, stv r = y := ⟨_, rfl⟩
  rw [hrs]
  have Hrs := hide_ hrs
  have Hop := hide_ hop
  obtain ⟨hp1, hp2⟩ := hp
  clear B2 K1 KX K2 K3 hx hs hr hrs ht hop
  unfold stv inv
  go_enter Tryz.func130, Tryz.ntmps130
  go_upto_region 3 with fail
  try rw [hw2]
  clear hw2
  rw [Hop.out] at i0
  have E : Hid (r = ⟨4, 0, s.tb, s.pa, 0, s.le, s.su⟩) := hide_ (by rw [← Hr.out]; unfold dHd; first | (simp [noF, Hop.out]; done) | (have := Hop.out; repeat (first | rw [if_pos (by omega)] | rw [if_neg (by omega)])))
  go_wp2_with fail
  refine retSt rfl ⟨4, 0, s.tb, s.pa, 0, s.le, s.su⟩ rfl (Blk.putS ((HK2.out.other _ _ (by first | (simp; done) | (simp; omega))).other _ _ (by first | (simp; done) | (simp; omega))) ⟨4, 0, s.tb, s.pa, 0, s.le, s.su⟩) ?_
  exact ⟨by (rw [← Hrs.out, E.out]; try rfl), below_putS (below_set (below_set HB2.out _ _ _ (by omega)) _ _ _ (by omega)) _ ⟨4, 0, s.tb, s.pa, 0, s.le, s.su⟩ (by omega)⟩
set_option maxRecDepth 100000 in
set_option maxHeartbeats 8000000 in
theorem dhd_10 (s : St) (x : In) (way : Int) (w : World) (hx : DOk x) (hs : s.ki < 18446744073709551616) (ht : -1 ≤ s.tb ∧ s.tb ≤ 100000000) (hp : 0 ≤ s.pa ∧ s.pa ≤ 100000000) (hop : x.op = 10) : Calls Tryz.prog 130 #[.agg #[], stv s, inv x, .int .i64 way] w fun e w' => e = .returned (stv (dHd s x way)) ∧ Below w.heap.size w w' := by
  obtain ⟨B2, K1, KX, K2, K3, hz⟩ := box6_ok w s x
  obtain ⟨w2, hw2⟩ : ∃ wx, box6 w s x = wx := ⟨_, rfl⟩
  rw [hw2] at B2 K1 KX K2 K3 hz
  have HB2 := hide_ B2
  have HK1 := hide_ K1
  have HK2 := hide_ K2
  have HK3 := hide_ K3
  obtain ⟨c0, c1, c2, c3, c4, c5, c6⟩ := K1.cs
  obtain ⟨i0, i1, i2, i3⟩ := KX.ci
  obtain ⟨d0, d1, d2, d3, d4, d5, d6⟩ := K2.cs
  obtain ⟨e0, e1, e2, e3, e4, e5, e6⟩ := K3.cs
  unfold noF at e0 e1 e2 e3 e4 e5 e6
  dsimp only at e0 e1 e2 e3 e4 e5 e6
  have fr1 := fun i => K1.frozen i
  have fr2 := fun i => K2.frozen i
  have fr3 := fun i => K3.frozen i
  unfold box6 box4 box3 at hw2
  have HF : Hid (∀ w, Calls Tryz.prog 135 #[stv s, .agg #[.int .i64 10, .int .i64 x.a, .int .i64 x.b, .int .i64 x.c], .int .i64 way] w fun e w' => e = .returned (.int .i64 (tabP s x way)) ∧ Below w.heap.size w w') := hide_ (fun w => by have := tabP_any s x way w ht; unfold inv at this; rw [hop] at this; exact this)
  obtain ⟨r, hr⟩ : ∃ r, dHd s x way = r := ⟨_, rfl⟩
  rw [hr]
  have Hr := hide_ hr
  obtain ⟨rs, hrs⟩ : ∃ y, stv r = y := ⟨_, rfl⟩
  rw [hrs]
  have Hrs := hide_ hrs
  have Hop := hide_ hop
  obtain ⟨hp1, hp2⟩ := hp
  clear B2 K1 KX K2 K3 hx hs hr hrs ht hop
  unfold stv inv
  go_enter Tryz.func130, Tryz.ntmps130
  go_upto_region 3 with fail
  try rw [hw2]
  clear hw2
  rw [Hop.out] at i0
  have E : Hid (r = ⟨s.pl, s.ki, tabP s x way, s.pa, 0, s.le, s.su⟩) := hide_ (by rw [← Hr.out]; unfold dHd; first | (simp [noF, Hop.out]; done) | (have := Hop.out; repeat (first | rw [if_pos (by omega)] | rw [if_neg (by omega)])))
  go_wp2_with fail
  refine (HF.out _).mono ?_
  rintro e w3 ⟨rfl, hB3⟩
  have L2 := HK2.out.later hB3
  have L3 := HK3.out.later hB3
  have HB3 := hide_ (below_to HB2.out hB3)
  clear hB3 c0 c1 c2 c3 c4 c5 c6 d0 d1 d2 d3 d4 d5 d6 e0 e1 e2 e3 e4 e5 e6 fr1 fr2 fr3
  obtain ⟨d0, d1, d2, d3, d4, d5, d6⟩ := L2.cs
  obtain ⟨e0, e1, e2, e3, e4, e5, e6⟩ := L3.cs
  unfold noF at e0 e1 e2 e3 e4 e5 e6
  dsimp only at e0 e1 e2 e3 e4 e5 e6
  have fr2 := fun i => L2.frozen i
  have fr3 := fun i => L3.frozen i
  have HL2 := hide_ L2
  clear L2 L3
  obtain ⟨f, hf⟩ : ∃ f, tabP s x way = f := ⟨_, rfl⟩
  rw [hf]
  have Hf := hide_ hf
  clear hf
  go_wp2
  refine retSt rfl ⟨s.pl, s.ki, f, s.pa, 0, s.le, s.su⟩ rfl (Blk.putS (HL2.out.other _ _ (by first | (simp; done) | (simp; omega))) ⟨s.pl, s.ki, f, s.pa, 0, s.le, s.su⟩) ?_
  exact ⟨by (rw [← Hrs.out, E.out, Hf.out]; try rfl), below_putS (below_set HB3.out _ _ _ (by omega)) _ ⟨s.pl, s.ki, f, s.pa, 0, s.le, s.su⟩ (by omega)⟩
set_option maxRecDepth 100000 in
set_option maxHeartbeats 8000000 in
theorem dhd_11 (s : St) (x : In) (way : Int) (w : World) (hx : DOk x) (hs : s.ki < 18446744073709551616) (ht : -1 ≤ s.tb ∧ s.tb ≤ 100000000) (hp : 0 ≤ s.pa ∧ s.pa ≤ 100000000) (hop : x.op = 11) : Calls Tryz.prog 130 #[.agg #[], stv s, inv x, .int .i64 way] w fun e w' => e = .returned (stv (dHd s x way)) ∧ Below w.heap.size w w' := by
  obtain ⟨B2, K1, KX, K2, K3, hz⟩ := box6_ok w s x
  obtain ⟨w2, hw2⟩ : ∃ wx, box6 w s x = wx := ⟨_, rfl⟩
  rw [hw2] at B2 K1 KX K2 K3 hz
  have HB2 := hide_ B2
  have HK1 := hide_ K1
  have HK2 := hide_ K2
  have HK3 := hide_ K3
  obtain ⟨c0, c1, c2, c3, c4, c5, c6⟩ := K1.cs
  obtain ⟨i0, i1, i2, i3⟩ := KX.ci
  obtain ⟨d0, d1, d2, d3, d4, d5, d6⟩ := K2.cs
  obtain ⟨e0, e1, e2, e3, e4, e5, e6⟩ := K3.cs
  unfold noF at e0 e1 e2 e3 e4 e5 e6
  dsimp only at e0 e1 e2 e3 e4 e5 e6
  have fr1 := fun i => K1.frozen i
  have fr2 := fun i => K2.frozen i
  have fr3 := fun i => K3.frozen i
  unfold box6 box4 box3 at hw2
  have HF : Hid (∀ w, Calls Tryz.prog 135 #[stv s, .agg #[.int .i64 11, .int .i64 x.a, .int .i64 x.b, .int .i64 x.c], .int .i64 way] w fun e w' => e = .returned (.int .i64 (tabP s x way)) ∧ Below w.heap.size w w') := hide_ (fun w => by have := tabP_any s x way w ht; unfold inv at this; rw [hop] at this; exact this)
  obtain ⟨r, hr⟩ : ∃ r, dHd s x way = r := ⟨_, rfl⟩
  rw [hr]
  have Hr := hide_ hr
  obtain ⟨rs, hrs⟩ : ∃ y, stv r = y := ⟨_, rfl⟩
  rw [hrs]
  have Hrs := hide_ hrs
  have Hop := hide_ hop
  obtain ⟨hp1, hp2⟩ := hp
  clear B2 K1 KX K2 K3 hx hs hr hrs ht hop
  unfold stv inv
  go_enter Tryz.func130, Tryz.ntmps130
  go_upto_region 3 with fail
  try rw [hw2]
  clear hw2
  rw [Hop.out] at i0
  have E : Hid (r = ⟨s.pl, s.ki, tabP s x way, s.pa, 0, s.le, s.su⟩) := hide_ (by rw [← Hr.out]; unfold dHd; first | (simp [noF, Hop.out]; done) | (have := Hop.out; repeat (first | rw [if_pos (by omega)] | rw [if_neg (by omega)])))
  go_wp2_with fail
  refine (HF.out _).mono ?_
  rintro e w3 ⟨rfl, hB3⟩
  have L2 := HK2.out.later hB3
  have L3 := HK3.out.later hB3
  have HB3 := hide_ (below_to HB2.out hB3)
  clear hB3 c0 c1 c2 c3 c4 c5 c6 d0 d1 d2 d3 d4 d5 d6 e0 e1 e2 e3 e4 e5 e6 fr1 fr2 fr3
  obtain ⟨d0, d1, d2, d3, d4, d5, d6⟩ := L2.cs
  obtain ⟨e0, e1, e2, e3, e4, e5, e6⟩ := L3.cs
  unfold noF at e0 e1 e2 e3 e4 e5 e6
  dsimp only at e0 e1 e2 e3 e4 e5 e6
  have fr2 := fun i => L2.frozen i
  have fr3 := fun i => L3.frozen i
  have HL2 := hide_ L2
  clear L2 L3
  obtain ⟨f, hf⟩ : ∃ f, tabP s x way = f := ⟨_, rfl⟩
  rw [hf]
  have Hf := hide_ hf
  clear hf
  go_wp2
  refine retSt rfl ⟨s.pl, s.ki, f, s.pa, 0, s.le, s.su⟩ rfl (Blk.putS (HL2.out.other _ _ (by first | (simp; done) | (simp; omega))) ⟨s.pl, s.ki, f, s.pa, 0, s.le, s.su⟩) ?_
  exact ⟨by (rw [← Hrs.out, E.out, Hf.out]; try rfl), below_putS (below_set HB3.out _ _ _ (by omega)) _ ⟨s.pl, s.ki, f, s.pa, 0, s.le, s.su⟩ (by omega)⟩
set_option maxRecDepth 100000 in
set_option maxHeartbeats 8000000 in
theorem dhd_x (s : St) (x : In) (way : Int) (w : World) (hx : DOk x) (hs : s.ki < 18446744073709551616) (ht : -1 ≤ s.tb ∧ s.tb ≤ 100000000) (hp : 0 ≤ s.pa ∧ s.pa ≤ 100000000) (hop : x.op ≠ 19 ∧ x.op ≠ 17 ∧ x.op ≠ 1 ∧ x.op ≠ 3 ∧ x.op ≠ 4 ∧ x.op ≠ 16 ∧ x.op ≠ 2 ∧ x.op ≠ 5 ∧ x.op ≠ 6 ∧ x.op ≠ 7 ∧ x.op ≠ 8 ∧ x.op ≠ 10 ∧ x.op ≠ 11) : Calls Tryz.prog 130 #[.agg #[], stv s, inv x, .int .i64 way] w fun e w' => e = .returned (stv (dHd s x way)) ∧ Below w.heap.size w w' := by
  obtain ⟨B2, K1, KX, K2, K3, hz⟩ := box6_ok w s x
  obtain ⟨w2, hw2⟩ : ∃ wx, box6 w s x = wx := ⟨_, rfl⟩
  rw [hw2] at B2 K1 KX K2 K3 hz
  have HB2 := hide_ B2
  have HK1 := hide_ K1
  have HK2 := hide_ K2
  have HK3 := hide_ K3
  obtain ⟨c0, c1, c2, c3, c4, c5, c6⟩ := K1.cs
  obtain ⟨i0, i1, i2, i3⟩ := KX.ci
  obtain ⟨d0, d1, d2, d3, d4, d5, d6⟩ := K2.cs
  obtain ⟨e0, e1, e2, e3, e4, e5, e6⟩ := K3.cs
  unfold noF at e0 e1 e2 e3 e4 e5 e6
  dsimp only at e0 e1 e2 e3 e4 e5 e6
  have fr1 := fun i => K1.frozen i
  have fr2 := fun i => K2.frozen i
  have fr3 := fun i => K3.frozen i
  unfold box6 box4 box3 at hw2
  have HF : Hid (∀ w, Calls Tryz.prog 136 #[inv x, .int .i64 way] w fun e w' => e = .returned (.int .i64 (freeP x way)) ∧ Below w.heap.size w w') := hide_ (fun w => freeP_any x way w)
  obtain ⟨r, hr⟩ : ∃ r, dHd s x way = r := ⟨_, rfl⟩
  rw [hr]
  have Hr := hide_ hr
  obtain ⟨rs, hrs⟩ : ∃ y, stv r = y := ⟨_, rfl⟩
  rw [hrs]
  have Hrs := hide_ hrs
  have Hop := hide_ hop
  obtain ⟨hp1, hp2⟩ := hp
  clear B2 K1 KX K2 K3 hx hs hr hrs ht hop
  unfold stv inv
  go_enter Tryz.func130, Tryz.ntmps130
  go_upto_region 3 with fail
  try rw [hw2]
  clear hw2
  have q19 : (x.op == 19) = false := by have := Hop.out; simp; omega
  have q17 : (x.op == 17) = false := by have := Hop.out; simp; omega
  have q1 : (x.op == 1) = false := by have := Hop.out; simp; omega
  have q3 : (x.op == 3) = false := by have := Hop.out; simp; omega
  have q4 : (x.op == 4) = false := by have := Hop.out; simp; omega
  have q16 : (x.op == 16) = false := by have := Hop.out; simp; omega
  have q2 : (x.op == 2) = false := by have := Hop.out; simp; omega
  have q5 : (x.op == 5) = false := by have := Hop.out; simp; omega
  have q6 : (x.op == 6) = false := by have := Hop.out; simp; omega
  have q7 : (x.op == 7) = false := by have := Hop.out; simp; omega
  have q8 : (x.op == 8) = false := by have := Hop.out; simp; omega
  have q10 : (x.op == 10) = false := by have := Hop.out; simp; omega
  have q11 : (x.op == 11) = false := by have := Hop.out; simp; omega
  have E : Hid (r = ⟨s.pl, s.ki, s.tb, s.pa, freeP x way, s.le, s.su⟩) := hide_ (by rw [← Hr.out]; unfold dHd; first | (simp [noF, Hop.out]; done) | (have := Hop.out; repeat (first | rw [if_pos (by omega)] | rw [if_neg (by omega)])))
  go_wp2_with fail
  refine (HF.out _).mono ?_
  rintro e w3 ⟨rfl, hB3⟩
  have L2 := HK2.out.later hB3
  have L3 := HK3.out.later hB3
  have HB3 := hide_ (below_to HB2.out hB3)
  clear hB3 c0 c1 c2 c3 c4 c5 c6 d0 d1 d2 d3 d4 d5 d6 e0 e1 e2 e3 e4 e5 e6 fr1 fr2 fr3
  obtain ⟨d0, d1, d2, d3, d4, d5, d6⟩ := L2.cs
  obtain ⟨e0, e1, e2, e3, e4, e5, e6⟩ := L3.cs
  unfold noF at e0 e1 e2 e3 e4 e5 e6
  dsimp only at e0 e1 e2 e3 e4 e5 e6
  have fr2 := fun i => L2.frozen i
  have fr3 := fun i => L3.frozen i
  have HL2 := hide_ L2
  clear L2 L3
  obtain ⟨f, hf⟩ : ∃ f, freeP x way = f := ⟨_, rfl⟩
  rw [hf]
  have Hf := hide_ hf
  clear hf
  go_wp2
  refine retSt rfl ⟨s.pl, s.ki, s.tb, s.pa, f, s.le, s.su⟩ rfl (Blk.putS (HL2.out.other _ _ (by first | (simp; done) | (simp; omega))) ⟨s.pl, s.ki, s.tb, s.pa, f, s.le, s.su⟩) ?_
  exact ⟨by (rw [← Hrs.out, E.out, Hf.out]; try rfl), below_putS (below_set HB3.out _ _ _ (by omega)) _ ⟨s.pl, s.ki, s.tb, s.pa, f, s.le, s.su⟩ (by omega)⟩
theorem dhands_any (s : St) (x : In) (way : Int) (w : World) (hx : DOk x) (hs : s.ki < 18446744073709551616) (ht : -1 ≤ s.tb ∧ s.tb ≤ 100000000) (hp : 0 ≤ s.pa ∧ s.pa ≤ 100000000) : Calls Tryz.prog 130 #[.agg #[], stv s, inv x, .int .i64 way] w fun e w' => e = .returned (stv (dHd s x way)) ∧ Below w.heap.size w w' := by
  by_cases h19 : x.op = 19
  · exact dhd_19 s x way w hx hs ht hp h19
  by_cases h17 : x.op = 17
  · exact dhd_17 s x way w hx hs ht hp h17
  by_cases h1 : x.op = 1
  · exact dhd_1 s x way w hx hs ht hp h1
  by_cases h3 : x.op = 3
  · exact dhd_3 s x way w hx hs ht hp h3
  by_cases h4 : x.op = 4
  · exact dhd_4 s x way w hx hs ht hp h4
  by_cases h16 : x.op = 16
  · exact dhd_16 s x way w hx hs ht hp h16
  by_cases h2 : x.op = 2
  · exact dhd_2 s x way w hx hs ht hp h2
  by_cases h5 : x.op = 5
  · exact dhd_5 s x way w hx hs ht hp h5
  by_cases h6 : x.op = 6
  · exact dhd_6 s x way w hx hs ht hp h6
  by_cases h7 : x.op = 7
  · exact dhd_7 s x way w hx hs ht hp h7
  by_cases h8 : x.op = 8
  · exact dhd_8 s x way w hx hs ht hp h8
  by_cases h10 : x.op = 10
  · exact dhd_10 s x way w hx hs ht hp h10
  by_cases h11 : x.op = 11
  · exact dhd_11 s x way w hx hs ht hp h11
  exact dhd_x s x way w hx hs ht hp ⟨h19, h17, h1, h3, h4, h16, h2, h5, h6, h7, h8, h10, h11⟩
end Go.Proofs.YtjamfbpdepahnaaGreat
