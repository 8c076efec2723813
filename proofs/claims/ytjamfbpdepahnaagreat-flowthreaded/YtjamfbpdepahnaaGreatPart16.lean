import Derived.Test.YtjamfbpdepahnaaGreatPart15
namespace Go.Proofs.YtjamfbpdepahnaaGreat
open Go.RowKit
set_option linter.unusedVariables false
set_option linter.unusedSimpArgs false
def box4 (m : TypeId) (w : World) (s : St) (x : In) : World := box3 (w.alloc (.cells #[] m)) s x
theorem box4_ok (m : TypeId) (w : World) (s : St) (x : In) : Below w.heap.size w (box4 m w s x) ∧ Blk (box4 m w s x) (w.heap.size + 1) 101 (stc s) ∧ Blk (box4 m w s x) (w.heap.size + 1 + 1) 37 (inc x) ∧ Blk (box4 m w s x) (w.heap.size + 1 + 1 + 1) 101 (stc st0) ∧ w.heap.size + 4 ≤ (box4 m w s x).heap.size := by
  obtain ⟨h1, h2, h3, h4, h5⟩ := box3_ok (w.alloc (.cells #[] m)) s x
  have e : (w.alloc (.cells #[] m)).heap.size = w.heap.size + 1 := by simp
  rw [e] at h1 h2 h3 h4 h5
  refine ⟨?_, h2, h3, h4, by unfold box4; omega⟩
  have hb := below_to (below1 w (.cells #[] m)) (by rw [e]; exact h1)
  exact hb
set_option maxRecDepth 100000 in
set_option maxHeartbeats 8000000 in
theorem ehands_any (s : St) (x : In) (way : Int) (w : World) (hm : x.op = 34 → 0 ≤ x.b ∧ x.b ≤ 100000000) (hs : -100000000 ≤ s.le ∧ s.le ≤ 100000000) : Calls Tryz.prog 121 #[.agg #[], stv s, inv x, .int .i64 way] w fun e w' => e = .returned (stv (eHd s x way)) ∧ Below w.heap.size w w' := by
  obtain ⟨B2, K1, KX, K2, hz⟩ := box4_ok 93 w s x
  obtain ⟨w2, hw2⟩ : ∃ wx, box4 93 w s x = wx := ⟨_, rfl⟩
  rw [hw2] at B2 K1 KX K2 hz
  have HB2 := hide_ B2
  have HK1 := hide_ K1
  have HK2 := hide_ K2
  obtain ⟨c0, c1, c2, c3, c4, c5, c6⟩ := K1.cs
  obtain ⟨i0, i1, i2, i3⟩ := KX.ci
  obtain ⟨d0, d1, d2, d3, d4, d5, d6⟩ := K2.cs
  have fr1 := fun i => K1.frozen i
  have fr2 := fun i => K2.frozen i
  unfold box4 box3 at hw2
  clear B2 K1 KX K2
  have HT : Hid (∀ w, Calls Tryz.prog 124 #[stv s, inv x] w fun e w' => e = .returned (.tuple #[stv (takenP s x).1, .bool (takenP s x).2]) ∧ Below w.heap.size w w') := hide_ (fun w => taken_any s x w hm hs)
  have HL : Hid (∀ n w, Calls Tryz.prog 126 #[.int .i64 n] w fun e w' => e = .returned (stv (leftP n)) ∧ Below w.heap.size w w') := hide_ left_any
  have HS : Hid (∀ b w, Calls Tryz.prog 125 #[.bool b] w fun e w' => e = .returned (stv (seqP b)) ∧ Below w.heap.size w w') := hide_ seq_any
  obtain ⟨r, hr⟩ : ∃ r, eHd s x way = r := ⟨_, rfl⟩
  rw [hr]
  have Hr := hide_ hr
  clear hr hm hs
  obtain ⟨rs, hrs⟩ : ∃ y, stv r = y := ⟨_, rfl⟩
  rw [hrs]
  have Hrs := hide_ hrs
  clear hrs
  unfold stv inv
  go_enter Tryz.func121, Tryz.ntmps121
  go_upto_region 1 with fail
  try rw [hw2]
  clear hw2
  go_wp2_with fail
  · refine (HT.out _).mono ?_
    rintro e w3 ⟨rfl, hB3⟩
    have hr2 : (takenP s x).1 = r := by
      rw [← Hr.out]
      unfold eHd
      simp only [beq_iff_eq, beq_eq_false_iff_ne, bne_iff_ne, bne_eq_false_iff_eq, ne_eq, Bool.not_eq_true] at *
      repeat (first | rw [if_pos (by omega)] | rw [if_neg (by omega)])
      try (congr 1; simp; omega)
    rw [hr2]
    have K3 := HK2.out.later hB3
    have fr := fun i => K3.frozen i
    obtain ⟨e0, e1, e2, e3, e4, e5, e6⟩ := K3.cs
    obtain ⟨f0, f1, f2, f3, f4, f5, f6⟩ := (K3.alloc (.cells #[.int .i64 r.pl, .int .u64 (r.ki : Int), .int .i64 r.tb, .int .i64 r.pa, .int .i64 r.fr, .int .i64 r.le, .bool r.su] 101)).cs
    have fs := fun i => (K3.alloc (.cells #[.int .i64 r.pl, .int .u64 (r.ki : Int), .int .i64 r.tb, .int .i64 r.pa, .int .i64 r.fr, .int .i64 r.le, .bool r.su] 101)).frozen i
    have HB3 := hide_ hB3
    have HK3 := hide_ K3
    have hsz := hB3.size
    clear hB3 K3 hr2
    unfold stv
    go_wp2
    refine retSt rfl r rfl (Blk.putS (HK3.out.alloc _) r) ?_
    exact ⟨by (rw [← Hrs.out]; try rfl), below_putS ((below_to HB2.out HB3.out).alloc (by have := HB3.out.size; omega) _) _ r (by omega)⟩
  · refine (HT.out _).mono ?_
    rintro e w3 ⟨rfl, hB3⟩
    have hr2 : (takenP s x).1 = r := by
      rw [← Hr.out]
      unfold eHd
      simp only [beq_iff_eq, beq_eq_false_iff_ne, bne_iff_ne, bne_eq_false_iff_eq, ne_eq, Bool.not_eq_true] at *
      repeat (first | rw [if_pos (by omega)] | rw [if_neg (by omega)])
      try (congr 1; simp; omega)
    rw [hr2]
    have K3 := HK2.out.later hB3
    have fr := fun i => K3.frozen i
    obtain ⟨e0, e1, e2, e3, e4, e5, e6⟩ := K3.cs
    obtain ⟨f0, f1, f2, f3, f4, f5, f6⟩ := (K3.alloc (.cells #[.int .i64 r.pl, .int .u64 (r.ki : Int), .int .i64 r.tb, .int .i64 r.pa, .int .i64 r.fr, .int .i64 r.le, .bool r.su] 101)).cs
    have fs := fun i => (K3.alloc (.cells #[.int .i64 r.pl, .int .u64 (r.ki : Int), .int .i64 r.tb, .int .i64 r.pa, .int .i64 r.fr, .int .i64 r.le, .bool r.su] 101)).frozen i
    have HB3 := hide_ hB3
    have HK3 := hide_ K3
    have hsz := hB3.size
    clear hB3 K3 hr2
    unfold stv
    go_wp2
    refine retSt rfl r rfl (Blk.putS (HK3.out.alloc _) r) ?_
    exact ⟨by (rw [← Hrs.out]; try rfl), below_putS ((below_to HB2.out HB3.out).alloc (by have := HB3.out.size; omega) _) _ r (by omega)⟩
  · refine (HT.out _).mono ?_
    rintro e w3 ⟨rfl, hB3⟩
    have hr2 : (takenP s x).1 = r := by
      rw [← Hr.out]
      unfold eHd
      simp only [beq_iff_eq, beq_eq_false_iff_ne, bne_iff_ne, bne_eq_false_iff_eq, ne_eq, Bool.not_eq_true] at *
      repeat (first | rw [if_pos (by omega)] | rw [if_neg (by omega)])
      try (congr 1; simp; omega)
    rw [hr2]
    have K3 := HK2.out.later hB3
    have fr := fun i => K3.frozen i
    obtain ⟨e0, e1, e2, e3, e4, e5, e6⟩ := K3.cs
    obtain ⟨f0, f1, f2, f3, f4, f5, f6⟩ := (K3.alloc (.cells #[.int .i64 r.pl, .int .u64 (r.ki : Int), .int .i64 r.tb, .int .i64 r.pa, .int .i64 r.fr, .int .i64 r.le, .bool r.su] 101)).cs
    have fs := fun i => (K3.alloc (.cells #[.int .i64 r.pl, .int .u64 (r.ki : Int), .int .i64 r.tb, .int .i64 r.pa, .int .i64 r.fr, .int .i64 r.le, .bool r.su] 101)).frozen i
    have HB3 := hide_ hB3
    have HK3 := hide_ K3
    have hsz := hB3.size
    clear hB3 K3 hr2
    unfold stv
    go_wp2
    refine retSt rfl r rfl (Blk.putS (HK3.out.alloc _) r) ?_
    exact ⟨by (rw [← Hrs.out]; try rfl), below_putS ((below_to HB2.out HB3.out).alloc (by have := HB3.out.size; omega) _) _ r (by omega)⟩
  · refine (HT.out _).mono ?_
    rintro e w3 ⟨rfl, hB3⟩
    have hr2 : (takenP s x).1 = r := by
      rw [← Hr.out]
      unfold eHd
      simp only [beq_iff_eq, beq_eq_false_iff_ne, bne_iff_ne, bne_eq_false_iff_eq, ne_eq, Bool.not_eq_true] at *
      repeat (first | rw [if_pos (by omega)] | rw [if_neg (by omega)])
      try (congr 1; simp; omega)
    rw [hr2]
    have K3 := HK2.out.later hB3
    have fr := fun i => K3.frozen i
    obtain ⟨e0, e1, e2, e3, e4, e5, e6⟩ := K3.cs
    obtain ⟨f0, f1, f2, f3, f4, f5, f6⟩ := (K3.alloc (.cells #[.int .i64 r.pl, .int .u64 (r.ki : Int), .int .i64 r.tb, .int .i64 r.pa, .int .i64 r.fr, .int .i64 r.le, .bool r.su] 101)).cs
    have fs := fun i => (K3.alloc (.cells #[.int .i64 r.pl, .int .u64 (r.ki : Int), .int .i64 r.tb, .int .i64 r.pa, .int .i64 r.fr, .int .i64 r.le, .bool r.su] 101)).frozen i
    have HB3 := hide_ hB3
    have HK3 := hide_ K3
    have hsz := hB3.size
    clear hB3 K3 hr2
    unfold stv
    go_wp2
    refine retSt rfl r rfl (Blk.putS (HK3.out.alloc _) r) ?_
    exact ⟨by (rw [← Hrs.out]; try rfl), below_putS ((below_to HB2.out HB3.out).alloc (by have := HB3.out.size; omega) _) _ r (by omega)⟩
  · refine (HT.out _).mono ?_
    rintro e w3 ⟨rfl, hB3⟩
    have hr2 : (takenP s x).1 = r := by
      rw [← Hr.out]
      unfold eHd
      simp only [beq_iff_eq, beq_eq_false_iff_ne, bne_iff_ne, bne_eq_false_iff_eq, ne_eq, Bool.not_eq_true] at *
      repeat (first | rw [if_pos (by omega)] | rw [if_neg (by omega)])
      try (congr 1; simp; omega)
    rw [hr2]
    have K3 := HK2.out.later hB3
    have fr := fun i => K3.frozen i
    obtain ⟨e0, e1, e2, e3, e4, e5, e6⟩ := K3.cs
    obtain ⟨f0, f1, f2, f3, f4, f5, f6⟩ := (K3.alloc (.cells #[.int .i64 r.pl, .int .u64 (r.ki : Int), .int .i64 r.tb, .int .i64 r.pa, .int .i64 r.fr, .int .i64 r.le, .bool r.su] 101)).cs
    have fs := fun i => (K3.alloc (.cells #[.int .i64 r.pl, .int .u64 (r.ki : Int), .int .i64 r.tb, .int .i64 r.pa, .int .i64 r.fr, .int .i64 r.le, .bool r.su] 101)).frozen i
    have HB3 := hide_ hB3
    have HK3 := hide_ K3
    have hsz := hB3.size
    clear hB3 K3 hr2
    unfold stv
    go_wp2
    refine retSt rfl r rfl (Blk.putS (HK3.out.alloc _) r) ?_
    exact ⟨by (rw [← Hrs.out]; try rfl), below_putS ((below_to HB2.out HB3.out).alloc (by have := HB3.out.size; omega) _) _ r (by omega)⟩
  · refine (HT.out _).mono ?_
    rintro e w3 ⟨rfl, hB3⟩
    have hr2 : (takenP s x).1 = r := by
      rw [← Hr.out]
      unfold eHd
      simp only [beq_iff_eq, beq_eq_false_iff_ne, bne_iff_ne, bne_eq_false_iff_eq, ne_eq, Bool.not_eq_true] at *
      repeat (first | rw [if_pos (by omega)] | rw [if_neg (by omega)])
      try (congr 1; simp; omega)
    rw [hr2]
    have K3 := HK2.out.later hB3
    have fr := fun i => K3.frozen i
    obtain ⟨e0, e1, e2, e3, e4, e5, e6⟩ := K3.cs
    obtain ⟨f0, f1, f2, f3, f4, f5, f6⟩ := (K3.alloc (.cells #[.int .i64 r.pl, .int .u64 (r.ki : Int), .int .i64 r.tb, .int .i64 r.pa, .int .i64 r.fr, .int .i64 r.le, .bool r.su] 101)).cs
    have fs := fun i => (K3.alloc (.cells #[.int .i64 r.pl, .int .u64 (r.ki : Int), .int .i64 r.tb, .int .i64 r.pa, .int .i64 r.fr, .int .i64 r.le, .bool r.su] 101)).frozen i
    have HB3 := hide_ hB3
    have HK3 := hide_ K3
    have hsz := hB3.size
    clear hB3 K3 hr2
    unfold stv
    go_wp2
    refine retSt rfl r rfl (Blk.putS (HK3.out.alloc _) r) ?_
    exact ⟨by (rw [← Hrs.out]; try rfl), below_putS ((below_to HB2.out HB3.out).alloc (by have := HB3.out.size; omega) _) _ r (by omega)⟩
  · refine (HT.out _).mono ?_
    rintro e w3 ⟨rfl, hB3⟩
    have hr2 : (takenP s x).1 = r := by
      rw [← Hr.out]
      unfold eHd
      simp only [beq_iff_eq, beq_eq_false_iff_ne, bne_iff_ne, bne_eq_false_iff_eq, ne_eq, Bool.not_eq_true] at *
      repeat (first | rw [if_pos (by omega)] | rw [if_neg (by omega)])
      try (congr 1; simp; omega)
    rw [hr2]
    have K3 := HK2.out.later hB3
    have fr := fun i => K3.frozen i
    obtain ⟨e0, e1, e2, e3, e4, e5, e6⟩ := K3.cs
    obtain ⟨f0, f1, f2, f3, f4, f5, f6⟩ := (K3.alloc (.cells #[.int .i64 r.pl, .int .u64 (r.ki : Int), .int .i64 r.tb, .int .i64 r.pa, .int .i64 r.fr, .int .i64 r.le, .bool r.su] 101)).cs
    have fs := fun i => (K3.alloc (.cells #[.int .i64 r.pl, .int .u64 (r.ki : Int), .int .i64 r.tb, .int .i64 r.pa, .int .i64 r.fr, .int .i64 r.le, .bool r.su] 101)).frozen i
    have HB3 := hide_ hB3
    have HK3 := hide_ K3
    have hsz := hB3.size
    clear hB3 K3 hr2
    unfold stv
    go_wp2
    refine retSt rfl r rfl (Blk.putS (HK3.out.alloc _) r) ?_
    exact ⟨by (rw [← Hrs.out]; try rfl), below_putS ((below_to HB2.out HB3.out).alloc (by have := HB3.out.size; omega) _) _ r (by omega)⟩
  · refine (HS.out true _).mono ?_
    rintro e w3 ⟨rfl, hB3⟩
    have hr2 : seqP true = r := by
      rw [← Hr.out]
      unfold eHd
      simp only [beq_iff_eq, beq_eq_false_iff_ne, bne_iff_ne, bne_eq_false_iff_eq, ne_eq, Bool.not_eq_true] at *
      repeat (first | rw [if_pos (by omega)] | rw [if_neg (by omega)])
      try (congr 1; simp; omega)
    rw [hr2]
    have K3 := HK2.out.later hB3
    have fr := fun i => K3.frozen i
    obtain ⟨e0, e1, e2, e3, e4, e5, e6⟩ := K3.cs
    have HB3 := hide_ hB3
    have HK3 := hide_ K3
    have hsz := hB3.size
    clear hB3 K3 hr2
    unfold stv
    go_wp2
    refine retSt rfl r rfl (Blk.putS HK3.out r) ?_
    exact ⟨by (rw [← Hrs.out]; try rfl), below_putS (below_to HB2.out HB3.out) _ r (by omega)⟩
  · refine (HS.out false _).mono ?_
    rintro e w3 ⟨rfl, hB3⟩
    have hr2 : seqP false = r := by
      rw [← Hr.out]
      unfold eHd
      simp only [beq_iff_eq, beq_eq_false_iff_ne, bne_iff_ne, bne_eq_false_iff_eq, ne_eq, Bool.not_eq_true] at *
      repeat (first | rw [if_pos (by omega)] | rw [if_neg (by omega)])
      try (congr 1; simp; omega)
    rw [hr2]
    have K3 := HK2.out.later hB3
    have fr := fun i => K3.frozen i
    obtain ⟨e0, e1, e2, e3, e4, e5, e6⟩ := K3.cs
    have HB3 := hide_ hB3
    have HK3 := hide_ K3
    have hsz := hB3.size
    clear hB3 K3 hr2
    unfold stv
    go_wp2
    refine retSt rfl r rfl (Blk.putS HK3.out r) ?_
    exact ⟨by (rw [← Hrs.out]; try rfl), below_putS (below_to HB2.out HB3.out) _ r (by omega)⟩
  · refine (HL.out x.a _).mono ?_
    rintro e w3 ⟨rfl, hB3⟩
    have hr2 : leftP x.a = r := by
      rw [← Hr.out]
      unfold eHd
      simp only [beq_iff_eq, beq_eq_false_iff_ne, bne_iff_ne, bne_eq_false_iff_eq, ne_eq, Bool.not_eq_true] at *
      repeat (first | rw [if_pos (by omega)] | rw [if_neg (by omega)])
      try (congr 1; simp; omega)
    rw [hr2]
    have K3 := HK2.out.later hB3
    have fr := fun i => K3.frozen i
    obtain ⟨e0, e1, e2, e3, e4, e5, e6⟩ := K3.cs
    have HB3 := hide_ hB3
    have HK3 := hide_ K3
    have hsz := hB3.size
    clear hB3 K3 hr2
    unfold stv
    go_wp2
    refine retSt rfl r rfl (Blk.putS HK3.out r) ?_
    exact ⟨by (rw [← Hrs.out]; try rfl), below_putS (below_to HB2.out HB3.out) _ r (by omega)⟩
  · refine (HL.out 0 _).mono ?_
    rintro e w3 ⟨rfl, hB3⟩
    have hr2 : leftP 0 = r := by
      rw [← Hr.out]
      unfold eHd
      simp only [beq_iff_eq, beq_eq_false_iff_ne, bne_iff_ne, bne_eq_false_iff_eq, ne_eq, Bool.not_eq_true] at *
      repeat (first | rw [if_pos (by omega)] | rw [if_neg (by omega)])
      try (congr 1; simp; omega)
    rw [hr2]
    have K3 := HK2.out.later hB3
    have fr := fun i => K3.frozen i
    obtain ⟨e0, e1, e2, e3, e4, e5, e6⟩ := K3.cs
    have HB3 := hide_ hB3
    have HK3 := hide_ K3
    have hsz := hB3.size
    clear hB3 K3 hr2
    unfold stv
    go_wp2
    refine retSt rfl r rfl (Blk.putS HK3.out r) ?_
    exact ⟨by (rw [← Hrs.out]; try rfl), below_putS (below_to HB2.out HB3.out) _ r (by omega)⟩
  · refine (HL.out 1 _).mono ?_
    rintro e w3 ⟨rfl, hB3⟩
    have hr2 : leftP 1 = r := by
      rw [← Hr.out]
      unfold eHd
      simp only [beq_iff_eq, beq_eq_false_iff_ne, bne_iff_ne, bne_eq_false_iff_eq, ne_eq, Bool.not_eq_true] at *
      repeat (first | rw [if_pos (by omega)] | rw [if_neg (by omega)])
      try (congr 1; simp; omega)
    rw [hr2]
    have K3 := HK2.out.later hB3
    have fr := fun i => K3.frozen i
    obtain ⟨e0, e1, e2, e3, e4, e5, e6⟩ := K3.cs
    have HB3 := hide_ hB3
    have HK3 := hide_ K3
    have hsz := hB3.size
    clear hB3 K3 hr2
    unfold stv
    go_wp2
    refine retSt rfl r rfl (Blk.putS HK3.out r) ?_
    exact ⟨by (rw [← Hrs.out]; try rfl), below_putS (below_to HB2.out HB3.out) _ r (by omega)⟩
  · refine (HL.out 1 _).mono ?_
    rintro e w3 ⟨rfl, hB3⟩
    have hr2 : leftP 1 = r := by
      rw [← Hr.out]
      unfold eHd
      simp only [beq_iff_eq, beq_eq_false_iff_ne, bne_iff_ne, bne_eq_false_iff_eq, ne_eq, Bool.not_eq_true] at *
      repeat (first | rw [if_pos (by omega)] | rw [if_neg (by omega)])
      try (congr 1; simp; omega)
    rw [hr2]
    have K3 := HK2.out.later hB3
    have fr := fun i => K3.frozen i
    obtain ⟨e0, e1, e2, e3, e4, e5, e6⟩ := K3.cs
    have HB3 := hide_ hB3
    have HK3 := hide_ K3
    have hsz := hB3.size
    clear hB3 K3 hr2
    unfold stv
    go_wp2
    refine retSt rfl r rfl (Blk.putS HK3.out r) ?_
    exact ⟨by (rw [← Hrs.out]; try rfl), below_putS (below_to HB2.out HB3.out) _ r (by omega)⟩
  · refine (HS.out true _).mono ?_
    rintro e w3 ⟨rfl, hB3⟩
    have hr2 : seqP true = r := by
      rw [← Hr.out]
      unfold eHd
      simp only [beq_iff_eq, beq_eq_false_iff_ne, bne_iff_ne, bne_eq_false_iff_eq, ne_eq, Bool.not_eq_true] at *
      repeat (first | rw [if_pos (by omega)] | rw [if_neg (by omega)])
      try (congr 1; simp; omega)
    rw [hr2]
    have K3 := HK2.out.later hB3
    have fr := fun i => K3.frozen i
    obtain ⟨e0, e1, e2, e3, e4, e5, e6⟩ := K3.cs
    have HB3 := hide_ hB3
    have HK3 := hide_ K3
    have hsz := hB3.size
    clear hB3 K3 hr2
    unfold stv
    go_wp2
    refine retSt rfl r rfl (Blk.putS HK3.out r) ?_
    exact ⟨by (rw [← Hrs.out]; try rfl), below_putS (below_to HB2.out HB3.out) _ r (by omega)⟩
  · refine (HL.out 0 _).mono ?_
    rintro e w3 ⟨rfl, hB3⟩
    have hr2 : leftP 0 = r := by
      rw [← Hr.out]
      unfold eHd
      simp only [beq_iff_eq, beq_eq_false_iff_ne, bne_iff_ne, bne_eq_false_iff_eq, ne_eq, Bool.not_eq_true] at *
      repeat (first | rw [if_pos (by omega)] | rw [if_neg (by omega)])
      try (congr 1; simp; omega)
    rw [hr2]
    have K3 := HK2.out.later hB3
    have fr := fun i => K3.frozen i
    obtain ⟨e0, e1, e2, e3, e4, e5, e6⟩ := K3.cs
    have HB3 := hide_ hB3
    have HK3 := hide_ K3
    have hsz := hB3.size
    clear hB3 K3 hr2
    unfold stv
    go_wp2
    refine retSt rfl r rfl (Blk.putS HK3.out r) ?_
    exact ⟨by (rw [← Hrs.out]; try rfl), below_putS (below_to HB2.out HB3.out) _ r (by omega)⟩
  · have hr2 : s = r := by
      rw [← Hr.out]
      unfold eHd
      simp only [beq_iff_eq, beq_eq_false_iff_ne, bne_iff_ne, bne_eq_false_iff_eq, ne_eq, Bool.not_eq_true] at *
      repeat (first | rw [if_pos (by omega)] | rw [if_neg (by omega)])
    subst hr2
    refine retSt rfl s rfl (Blk.putS HK2.out s) ?_
    exact ⟨by (rw [← Hrs.out]; try rfl), below_putS HB2.out _ s (by omega)⟩
theorem eq7g (s t : St) : (s.pl == t.pl) = false ∧ stEq s t = false ∨
    (s.pl == t.pl) = true ∧ ((s.ki : Int) == (t.ki : Int)) = false ∧ stEq s t = false ∨
    (s.pl == t.pl) = true ∧ ((s.ki : Int) == (t.ki : Int)) = true ∧ (s.tb == t.tb) = false ∧ stEq s t = false ∨
    (s.pl == t.pl) = true ∧ ((s.ki : Int) == (t.ki : Int)) = true ∧ (s.tb == t.tb) = true ∧ (s.pa == t.pa) = false ∧ stEq s t = false ∨
    (s.pl == t.pl) = true ∧ ((s.ki : Int) == (t.ki : Int)) = true ∧ (s.tb == t.tb) = true ∧ (s.pa == t.pa) = true ∧ (s.fr == t.fr) = false ∧ stEq s t = false ∨
    (s.pl == t.pl) = true ∧ ((s.ki : Int) == (t.ki : Int)) = true ∧ (s.tb == t.tb) = true ∧ (s.pa == t.pa) = true ∧ (s.fr == t.fr) = true ∧ (s.le == t.le) = false ∧ stEq s t = false ∨
    (s.pl == t.pl) = true ∧ ((s.ki : Int) == (t.ki : Int)) = true ∧ (s.tb == t.tb) = true ∧ (s.pa == t.pa) = true ∧ (s.fr == t.fr) = true ∧ (s.le == t.le) = true ∧ (s.su == t.su) = true ∧ stEq s t = true ∨
    (s.pl == t.pl) = true ∧ ((s.ki : Int) == (t.ki : Int)) = true ∧ (s.tb == t.tb) = true ∧ (s.pa == t.pa) = true ∧ (s.fr == t.fr) = true ∧ (s.le == t.le) = true ∧ (s.su == t.su) = false ∧ stEq s t = false := by
  unfold stEq
  cases h0 : (s.pl == t.pl)
  · simp
  cases h1 : ((s.ki : Int) == (t.ki : Int))
  · simp
  cases h2 : (s.tb == t.tb)
  · simp
  cases h3 : (s.pa == t.pa)
  · simp
  cases h4 : (s.fr == t.fr)
  · simp
  cases h5 : (s.le == t.le)
  · simp
  cases h6 : (s.su == t.su) <;> simp
set_option maxHeartbeats 4000000 in
theorem eql_run (s t : St) (w : World) : Sem.run Tryz.prog (binOp .eql 101 (stv s) (stv t)) w = .ok (.bool (stEq s t)) w := by
  unfold stv
  rcases eq7g s t with h | h | h | h | h | h | h | h
  all_goals
    try obtain ⟨h0, h⟩ := h
    try obtain ⟨h1, h⟩ := h
    try obtain ⟨h2, h⟩ := h
    try obtain ⟨h3, h⟩ := h
    try obtain ⟨h4, h⟩ := h
    try obtain ⟨h5, h⟩ := h
    try obtain ⟨h6, h⟩ := h
    rw [h]
    go_simp
    try with_reducible rfl
set_option maxHeartbeats 4000000 in
theorem eql_ex (s t : St) (o : Oper) (ρ : Operand → Value) (x y : Operand) (w : World) (ho : o.op = .binOp .eql 101 x y 101) (hx : ρ x = stv s) (hy : ρ y = stv t) : (execOp ρ o).run Tryz.prog w = .ok (.value (.bool (stEq s t))) w := by
  unfold execOp
  rw [ho]
  simp only [hx, hy]
  have h1 := eql_run s t w
  have hg : Sem.run Tryz.prog (eqGuard BinOp.eql 101 x y (stv s) (stv t)) w = .ok () w := by
    unfold stv
    go_simp
  simp only [Sem.run_bind, hg, h1, Result.andThen, Sem.run_pure]
theorem neq_run (s t : St) (w : World) : Sem.run Tryz.prog (binOp .neq 101 (stv s) (stv t)) w = .ok (.bool (!stEq s t)) w := by
  have h := eql_run s t w
  have e1 : binOp .eql 101 (stv s) (stv t) = (do pure (.bool (← Op.equal 101 (stv s) (stv t)))) := rfl
  have e2 : binOp .neq 101 (stv s) (stv t) = (do pure (.bool (!(← Op.equal 101 (stv s) (stv t))))) := rfl
  rw [e1] at h
  rw [e2]
  simp only [Sem.run_bind, Sem.run_pure] at h ⊢
  cases hq : Sem.run Tryz.prog (Op.equal 101 (stv s) (stv t)) w with
  | ok b w' =>
    rw [hq] at h
    simp only [Result.andThen, Result.ok.injEq, Value.bool.injEq] at h ⊢
    rw [h.1, h.2]
    exact ⟨rfl, rfl⟩
  | _ => rw [hq] at h; simp [Result.andThen] at h
set_option maxHeartbeats 4000000 in
theorem neq_ex (s t : St) (o : Oper) (ρ : Operand → Value) (x y : Operand) (w : World) (ho : o.op = .binOp .neq 101 x y 101) (hx : ρ x = stv s) (hy : ρ y = stv t) : (execOp ρ o).run Tryz.prog w = .ok (.value (.bool (!stEq s t))) w := by
  unfold execOp
  rw [ho]
  simp only [hx, hy]
  have h1 := neq_run s t w
  have hg : Sem.run Tryz.prog (eqGuard BinOp.neq 101 x y (stv s) (stv t)) w = .ok () w := by
    unfold stv
    go_simp
  simp only [Sem.run_bind, hg, h1, Result.andThen, Sem.run_pure]
def box5 (m : TypeId) (w : World) (s : St) (x : In) : World := ((w.alloc (.cells #[] m)).alloc (.cells #[.int .i64 s.pl, .int .u64 (s.ki : Int), .int .i64 s.tb, .int .i64 s.pa, .int .i64 s.fr, .int .i64 s.le, .bool s.su] 101)).alloc (.cells #[.int .i64 x.op, .int .i64 x.a, .int .i64 x.b, .int .i64 x.c] 37)
theorem box5_ok (m : TypeId) (w : World) (s : St) (x : In) : Below w.heap.size w (box5 m w s x) ∧ Blk (box5 m w s x) (w.heap.size + 1) 101 (stc s) ∧ Blk (box5 m w s x) (w.heap.size + 1 + 1) 37 (inc x) ∧ w.heap.size + 3 ≤ (box5 m w s x).heap.size := by
  have e : (w.alloc (.cells #[] m)).heap.size = w.heap.size + 1 := by simp
  have h := blk2 (w.alloc (.cells #[] m)) #[.int .i64 s.pl, .int .u64 (s.ki : Int), .int .i64 s.tb, .int .i64 s.pa, .int .i64 s.fr, .int .i64 s.le, .bool s.su] #[.int .i64 x.op, .int .i64 x.a, .int .i64 x.b, .int .i64 x.c] 101 37
  rw [e] at h
  refine ⟨?_, h.1, h.2, by simp [box5]⟩
  have := below_to (below1 w (.cells #[] m)) (below2 (w.alloc (.cells #[] m)) (.cells #[.int .i64 s.pl, .int .u64 (s.ki : Int), .int .i64 s.tb, .int .i64 s.pa, .int .i64 s.fr, .int .i64 s.le, .bool s.su] 101) (.cells #[.int .i64 x.op, .int .i64 x.a, .int .i64 x.b, .int .i64 x.c] 37))
  exact this
set_option maxRecDepth 100000 in
set_option maxHeartbeats 4000000 in
theorem ebegin_any (w : World) : Calls Tryz.prog 120 #[.agg #[]] w fun e w' => e = .returned (stv (mBg true)) ∧ Below w.heap.size w w' := by
  go_enter Tryz.func120, Tryz.ntmps120
  go_wp2
  refine retSt rfl (mBg true) rfl (blk2 w _ _ _ _).2 ?_
  exact ⟨rfl, below2 _ _ _⟩
set_option maxRecDepth 100000 in
set_option maxHeartbeats 4000000 in
theorem dbegin_any (w : World) : Calls Tryz.prog 129 #[.agg #[]] w fun e w' => e = .returned (stv (mBg false)) ∧ Below w.heap.size w w' := by
  go_enter Tryz.func129, Tryz.ntmps129
  go_wp2
  refine retSt rfl (mBg false) rfl (blk2 w _ _ _ _).2 ?_
  exact ⟨rfl, below2 _ _ _⟩
def mTy (enc : Bool) : TypeId := if enc then 93 else 94
def mcV (enc : Bool) : Value := .iface (mTy enc) (.agg #[])
set_option maxRecDepth 100000 in
set_option maxHeartbeats 4000000 in
theorem machineOf_any (enc : Bool) (w : World) : Calls Tryz.prog 34 #[.bool enc] w fun e w' => e = .returned (mcV enc) ∧ w = w' := by
  cases enc
  · go_enter Tryz.func34, Tryz.ntmps34
    go_wp2
    go_ret
    exact ⟨rfl, rfl⟩
  · go_enter Tryz.func34, Tryz.ntmps34
    go_wp2
    go_ret
    exact ⟨rfl, rfl⟩
set_option maxRecDepth 100000 in
set_option maxHeartbeats 8000000 in
theorem estands_43 (s : St) (x : In) (r : Int) (w : World) (h43 : x.op = 43) (ha : x.a = -1) : Calls Tryz.prog 123 #[.agg #[], stv s, inv x, .int .i64 r] w fun e w' => e = .returned (.bool (stEq s (seqP true))) ∧ Below w.heap.size w w' := by
  obtain ⟨B2, K1, KX, hz⟩ := box5_ok 93 w s x
  obtain ⟨w2, hw2⟩ : ∃ wx, box5 93 w s x = wx := ⟨_, rfl⟩
  rw [hw2] at B2 K1 KX hz
  have HB2 := hide_ B2
  have HK1 := hide_ K1
  obtain ⟨c0, c1, c2, c3, c4, c5, c6⟩ := K1.cs
  obtain ⟨i0, i1, i2, i3⟩ := KX.ci
  have fr1 := fun i => K1.frozen i
  unfold box5 at hw2
  have HC : Hid (∀ w, Calls Tryz.prog 125 #[.bool true] w fun e w' => e = .returned (stv (seqP true)) ∧ Below w.heap.size w w') := hide_ (fun w => seq_any true w)
  have K1d := K1.drew.cs
  have H43 := hide_ h43
  have Ha := hide_ ha
  clear B2 K1 KX h43 ha
  unfold stv inv
  go_enter Tryz.func123, Tryz.ntmps123
  go_upto_region 1 with fail
  try rw [hw2]
  clear hw2
  rw [H43.out] at i0
  rw [Ha.out] at i1
  go_wp2_with fail
  refine wp_region_last 3 (fun w' => w'.cell? ⟨w.heap.size + 1, 0, none⟩ = some (.int .i64 s.pl) ∧ w'.cell? ⟨w.heap.size + 1, 1, none⟩ = some (.int .u64 (s.ki : Int)) ∧ w'.cell? ⟨w.heap.size + 1, 2, none⟩ = some (.int .i64 s.tb) ∧ w'.cell? ⟨w.heap.size + 1, 3, none⟩ = some (.int .i64 s.pa) ∧ w'.cell? ⟨w.heap.size + 1, 4, none⟩ = some (.int .i64 s.fr) ∧ w'.cell? ⟨w.heap.size + 1, 5, none⟩ = some (.int .i64 s.le) ∧ w'.cell? ⟨w.heap.size + 1, 6, none⟩ = some (.bool s.su)) (by kernel_rfl) (K1d) (fun hHeld => ?_)
  refine wpAnyF_take [3] (by kernel_rfl) (i := 0) (v := ?vp1) rfl (by kernel_rfl) (by kernel_rfl) (by kernel_rfl) (fun _ _ _ h => h) (Or.inl ⟨by kernel_rfl, ?hyp1⟩) hHeld ?restp1
  case hyp1 => intro w' hSw; (try dsimp only at hSw); go_simp; try with_reducible rfl
  simp only [Act.put]
  try dsimp only
  refine wpAnyF_ready (rs := [1]) (by kernel_rfl) (by simp) ?_
  refine AllReadyF.cons rfl (fun K hK => ?_) AllReadyF.nil
  go_simp
  go_at_call 125
  refine (HC.out _).mono ?_
  rintro e w3 ⟨rfl, hB3⟩
  have HB3 := hide_ (below_to HB2.out.drew hB3)
  have K3 := (HK1.out.drew.later hB3).cs
  go_simp
  refine hK.out _ _ (K3) (fun hHeld => ?_)
  clear hK K
  refine wpAnyF_take [3] (by kernel_rfl) (i := 2) (v := ?vp2) rfl (by kernel_rfl) (by kernel_rfl) (by kernel_rfl) (fun _ _ _ h => h) (Or.inl ⟨by kernel_rfl, ?hyp2⟩) hHeld ?restp2
  case hyp2 => intro w' hSw; (refine eql_ex s (seqP true) _ _ (.tmp 69) (.tmp 70) w' ?_ ?_ ?_ <;> first | rfl | kernel_rfl)
  simp only [Act.put]
  try dsimp only
  refine wpAnyF_ready (rs := [3]) (by kernel_rfl) (by simp) ?_
  refine AllReadyF.last rfl (fun K hK => ?_)
  go_simp
  refine hK.out _ _ ?_
  clear hK K
  refine wpAnyF_done (by kernel_rfl) ?_ _
  go_wp2
  go_ret
  exact ⟨rfl, HB3.out⟩
set_option maxRecDepth 100000 in
set_option maxHeartbeats 8000000 in
theorem estands_20 (s : St) (x : In) (r : Int) (w : World) (h20 : x.op = 20) : Calls Tryz.prog 123 #[.agg #[], stv s, inv x, .int .i64 r] w fun e w' => e = .returned (.bool (stEq s (leftP 0))) ∧ Below w.heap.size w w' := by
  obtain ⟨B2, K1, KX, hz⟩ := box5_ok 93 w s x
  obtain ⟨w2, hw2⟩ : ∃ wx, box5 93 w s x = wx := ⟨_, rfl⟩
  rw [hw2] at B2 K1 KX hz
  have HB2 := hide_ B2
  have HK1 := hide_ K1
  obtain ⟨c0, c1, c2, c3, c4, c5, c6⟩ := K1.cs
  obtain ⟨i0, i1, i2, i3⟩ := KX.ci
  have fr1 := fun i => K1.frozen i
  unfold box5 at hw2
  have HC : Hid (∀ w, Calls Tryz.prog 126 #[.int .i64 0] w fun e w' => e = .returned (stv (leftP 0)) ∧ Below w.heap.size w w') := hide_ (fun w => left_any 0 w)
  have K1d := K1.drew.cs
  have H20 := hide_ h20
  clear B2 K1 KX h20
  unfold stv inv
  go_enter Tryz.func123, Tryz.ntmps123
  go_upto_region 1 with fail
  try rw [hw2]
  clear hw2
  rw [H20.out] at i0
  go_wp2_with fail
  refine wp_region_last 3 (fun w' => w'.cell? ⟨w.heap.size + 1, 0, none⟩ = some (.int .i64 s.pl) ∧ w'.cell? ⟨w.heap.size + 1, 1, none⟩ = some (.int .u64 (s.ki : Int)) ∧ w'.cell? ⟨w.heap.size + 1, 2, none⟩ = some (.int .i64 s.tb) ∧ w'.cell? ⟨w.heap.size + 1, 3, none⟩ = some (.int .i64 s.pa) ∧ w'.cell? ⟨w.heap.size + 1, 4, none⟩ = some (.int .i64 s.fr) ∧ w'.cell? ⟨w.heap.size + 1, 5, none⟩ = some (.int .i64 s.le) ∧ w'.cell? ⟨w.heap.size + 1, 6, none⟩ = some (.bool s.su)) (by kernel_rfl) (K1d) (fun hHeld => ?_)
  refine wpAnyF_take [3] (by kernel_rfl) (i := 0) (v := ?vp1) rfl (by kernel_rfl) (by kernel_rfl) (by kernel_rfl) (fun _ _ _ h => h) (Or.inl ⟨by kernel_rfl, ?hyp1⟩) hHeld ?restp1
  case hyp1 => intro w' hSw; (try dsimp only at hSw); go_simp; try with_reducible rfl
  simp only [Act.put]
  try dsimp only
  refine wpAnyF_ready (rs := [1]) (by kernel_rfl) (by simp) ?_
  refine AllReadyF.cons rfl (fun K hK => ?_) AllReadyF.nil
  go_simp
  go_at_call 126
  refine (HC.out _).mono ?_
  rintro e w3 ⟨rfl, hB3⟩
  have HB3 := hide_ (below_to HB2.out.drew hB3)
  have K3 := (HK1.out.drew.later hB3).cs
  go_simp
  refine hK.out _ _ (K3) (fun hHeld => ?_)
  clear hK K
  refine wpAnyF_take [3] (by kernel_rfl) (i := 2) (v := ?vp2) rfl (by kernel_rfl) (by kernel_rfl) (by kernel_rfl) (fun _ _ _ h => h) (Or.inl ⟨by kernel_rfl, ?hyp2⟩) hHeld ?restp2
  case hyp2 => intro w' hSw; (refine eql_ex s (leftP 0) _ _ (.tmp 75) (.tmp 76) w' ?_ ?_ ?_ <;> first | rfl | kernel_rfl)
  simp only [Act.put]
  try dsimp only
  refine wpAnyF_ready (rs := [3]) (by kernel_rfl) (by simp) ?_
  refine AllReadyF.last rfl (fun K hK => ?_)
  go_simp
  refine hK.out _ _ ?_
  clear hK K
  refine wpAnyF_done (by kernel_rfl) ?_ _
  go_wp2
  go_ret
  exact ⟨rfl, HB3.out⟩
set_option maxRecDepth 100000 in
set_option maxHeartbeats 8000000 in
theorem estands_c (s : St) (x : In) (r : Int) (w : World) (h43 : x.op = 43 → x.a ≠ -1) (h20 : x.op ≠ 20) (hm : x.op = 34 → 0 ≤ x.b ∧ x.b ≤ 100000000) (hs : -100000000 ≤ s.le ∧ s.le ≤ 100000000) : Calls Tryz.prog 123 #[.agg #[], stv s, inv x, .int .i64 r] w fun e w' => e = .returned (.bool (eSt s x r)) ∧ Below w.heap.size w w' := by
  obtain ⟨B2, K1, KX, hz⟩ := box5_ok 93 w s x
  obtain ⟨w2, hw2⟩ : ∃ wx, box5 93 w s x = wx := ⟨_, rfl⟩
  rw [hw2] at B2 K1 KX hz
  have HB2 := hide_ B2
  have HK1 := hide_ K1
  obtain ⟨c0, c1, c2, c3, c4, c5, c6⟩ := K1.cs
  obtain ⟨i0, i1, i2, i3⟩ := KX.ci
  have fr1 := fun i => K1.frozen i
  unfold box5 at hw2
  have HT : Hid (∀ w, Calls Tryz.prog 124 #[stv s, inv x] w fun e w' => e = .returned (.tuple #[stv (takenP s x).1, .bool (takenP s x).2]) ∧ Below w.heap.size w w') := hide_ (fun w => taken_any s x w hm hs)
  have H43 := hide_ h43
  have g20 : (x.op == 20) = false := by simpa using h20
  obtain ⟨b, hb⟩ : ∃ b, eSt s x r = b := ⟨_, rfl⟩
  rw [hb]
  have Hb := hide_ hb
  clear B2 K1 KX h43 h20 hm hs hb
  obtain ⟨ts, hts⟩ : ∃ y, stv (takenP s x).1 = y := ⟨_, rfl⟩
  unfold stv inv
  go_enter Tryz.func123, Tryz.ntmps123
  go_upto_region 1 with fail
  try rw [hw2]
  clear hw2
  go_wp2_with fail
  all_goals
    first
      | (refine (HT.out _).mono ?_
         rintro e w3 ⟨rfl, hB3⟩
         have hr2 : (takenP s x).2 = b := by
           rw [← Hb.out]
           unfold eSt
           simp only [beq_iff_eq, beq_eq_false_iff_ne, bne_iff_ne, bne_eq_false_iff_eq, ne_eq, Bool.not_eq_true] at *
           repeat (first | rw [if_pos (by omega)] | rw [if_neg (by omega)])
         have HB3 := hide_ (below_to HB2.out hB3)
         have hsz := hB3.size
         rw [hr2]
         clear hB3 hr2
         unfold stv
         go_wp2
         go_ret
         exact ⟨rfl, HB3.out.alloc (by have := HB3.out.size; omega) _⟩)
      | (go_ret
         refine ⟨?_, HB2.out⟩
         rw [← Hb.out]
         unfold eSt
         simp only [beq_iff_eq, beq_eq_false_iff_ne, bne_iff_ne, bne_eq_false_iff_eq, ne_eq, Bool.not_eq_true] at *
         repeat (first | rw [if_pos (by omega)] | rw [if_neg (by omega)])
         first | rfl | (congr 2; simp_all; done) | (congr 2; simp; omega) | (by_cases hxa : x.a = -1 <;> simp_all <;> done))
      | (exfalso
         have := H43.out (by simp only [beq_iff_eq] at *; omega)
         simp only [beq_iff_eq, beq_eq_false_iff_ne, bne_iff_ne, bne_eq_false_iff_eq, ne_eq, Bool.not_eq_true] at *
         omega)
theorem estands_any (s : St) (x : In) (r : Int) (w : World) (hm : x.op = 34 → 0 ≤ x.b ∧ x.b ≤ 100000000) (hs : -100000000 ≤ s.le ∧ s.le ≤ 100000000) : Calls Tryz.prog 123 #[.agg #[], stv s, inv x, .int .i64 r] w fun e w' => e = .returned (.bool (eSt s x r)) ∧ Below w.heap.size w w' := by
  by_cases h20 : x.op = 20
  · have e : eSt s x r = stEq s (leftP 0) := by unfold eSt; simp [h20]
    rw [e]; exact estands_20 s x r w h20
  by_cases h43 : x.op = 43 ∧ x.a = -1
  · have e : eSt s x r = stEq s (seqP true) := by unfold eSt; simp [h43]
    rw [e]; exact estands_43 s x r w h43.1 h43.2
  · exact estands_c s x r w (fun h e => h43 ⟨h, e⟩) h20 hm hs
end Go.Proofs.YtjamfbpdepahnaaGreat
