import Derived.Test.YtjamfbpdepahnaaGreatPart16
import Derived.Laws.Bits64b
namespace Go.Proofs.YtjamfbpdepahnaaGreat
open Go.RowKit
set_option linter.unusedVariables false
set_option linter.unusedSimpArgs false
def box2f (w : World) (s : St) : World := (box2 w s).setCell ⟨w.heap.size, 4, none⟩ (.int .i64 0)
def noF (s : St) : St := ⟨s.pl, s.ki, s.tb, s.pa, 0, s.le, s.su⟩
theorem box2f_ok (w : World) (s : St) : Below w.heap.size w (box2f w s) ∧ Blk (box2f w s) w.heap.size 101 (stc (noF s)) ∧ Blk (box2f w s) (w.heap.size + 1) 101 (stc st0) ∧ w.heap.size + 2 ≤ (box2f w s).heap.size := by
  obtain ⟨h1, h2, h3, h4⟩ := box2_ok w s
  refine ⟨below_set h1 _ _ _ (Nat.le_refl _), h2.set 4 (.int .i64 0), h3.other _ _ (by simp), by simpa [box2f] using h4⟩
theorem bit_1 (n k : Nat) (hn : n < 18446744073709551616) : bits .and .u64 ((n : Int) / 2 ^ k) 1 = ((if n.testBit k then 1 else 0 : Nat) : Int) := by
  have e : ((n : Int) / 2 ^ k) = ((n / 2 ^ k : Nat) : Int) := by simp
  have h1 : n / 2 ^ k ≤ n := Nat.div_le_self _ _
  have h2 := bits_and_u64_nat (n / 2 ^ k) 1 (by omega) (by omega)
  rw [e]
  rw [show ((1 : Nat) : Int) = 1 from rfl] at h2
  rw [h2, Nat.and_one_is_mod, Nat.testBit_eq_decide_div_mod_eq]
  by_cases hb : n / 2 ^ k % 2 = 1
  · simp [hb]
  · have : n / 2 ^ k % 2 = 0 := by omega
    simp [this]
theorem or_lt (n k : Nat) (hn : n < 18446744073709551616) (hk : k ≤ 63) : n ||| 2 ^ k < 18446744073709551616 := by
  have h1 : 2 ^ k ≤ 2 ^ 63 := Nat.pow_le_pow_right (by omega) hk
  exact Nat.or_lt_two_pow (n := 64) (by omega) (by omega)
theorem bit_or (n k : Nat) (hn : n < 18446744073709551616) (hk : k ≤ 63) : bits .or .u64 (n : Int) (2 ^ k) = ((n ||| 2 ^ k : Nat) : Int) := by
  have h1 : 2 ^ k ≤ 2 ^ 63 := Nat.pow_le_pow_right (by omega) hk
  have h2 := bits_or_u64_nat n (2 ^ k) hn (by omega)
  rw [← h2]
  congr 1
theorem bit_orw (n k : Nat) (hn : n < 18446744073709551616) (hk : k ≤ 63) : bits .or .u64 (n : Int) (IntKind.u64.wrap (2 ^ k)) = ((n ||| 2 ^ k : Nat) : Int) := by
  have h1 : (2 : Nat) ^ k ≤ 2 ^ 63 := Nat.pow_le_pow_right (by omega) hk
  have h2 : ((2 ^ k : Nat) : Int) = (2 : Int) ^ k := by simp
  have h3 : IntKind.u64.wrap (2 ^ k) = 2 ^ k := by
    rw [IntKind.wrap_u64, ← h2]
    generalize (2 : Nat) ^ k = z at *
    omega
  rw [h3]
  exact bit_or n k hn hk
set_option maxRecDepth 100000 in
set_option maxHeartbeats 4000000 in
theorem fill_a (s : St) (kid : Int) (w : World) (hk : -1 ≤ kid ∧ kid ≤ 63) (h3 : (s.pl == 3) = true → (kid == -1) = true) : Calls Tryz.prog 133 #[stv s, .int .i64 kid] w fun e w' => e = .returned (.tuple #[stv (fillP s kid).1, .bool (fillP s kid).2]) ∧ Below w.heap.size w w' := by
  obtain ⟨B2, K1, K2, hz⟩ := box2f_ok w s
  obtain ⟨w2, hw2⟩ : ∃ wx, box2f w s = wx := ⟨_, rfl⟩
  rw [hw2] at B2 K1 K2 hz
  have HB2 := hide_ B2
  have HK1 := hide_ K1
  have HK2 := hide_ K2
  obtain ⟨c0, c1, c2, c3, c4, c5, c6⟩ := K1.cs
  obtain ⟨d0, d1, d2, d3, d4, d5, d6⟩ := K2.cs
  have fr1 := fun i => K1.frozen i
  have fr2 := fun i => K2.frozen i
  unfold noF at c0 c1 c2 c3 c4 c5 c6
  dsimp only at c0 c1 c2 c3 c4 c5 c6
  unfold box2f box2 at hw2
  obtain ⟨r, hr⟩ : ∃ r, fillP s kid = r := ⟨_, rfl⟩
  rw [hr]
  have Hr := hide_ hr
  clear hr B2 K1 K2
  obtain ⟨rs, hrs⟩ : ∃ y, stv r.1 = y := ⟨_, rfl⟩
  rw [hrs]
  have Hrs := hide_ hrs
  clear hrs
  have H3 := hide_ h3
  clear h3
  unfold stv
  go_enter Tryz.func133, Tryz.ntmps133
  go_upto_region 3 with fail
  try rw [hw2]
  clear hw2
  by_cases g2 : s.pl = 2
  · by_cases gk : kid = -1
    · have E : Hid (r = (⟨5, s.ki, s.tb, s.pa, 0, s.le, s.su⟩, true)) := hide_ (by rw [← Hr.out]; unfold fillP; simp [noF, g2, gk])
      have f0 : (s.pl == 2) = true := by simp [g2, gk]
      have f1 : (kid != -1) = false := by simp [g2, gk]
      clear g2 gk
      go_wp2_with fail
      refine retSb rfl ⟨5, s.ki, s.tb, s.pa, 0, s.le, s.su⟩ rfl rfl (Blk.putS (HK2.out.other _ _ (by simp)) ⟨5, s.ki, s.tb, s.pa, 0, s.le, s.su⟩) ?_
      exact ⟨by (rw [← Hrs.out, E.out]; rfl), below_putS (below_set HB2.out _ _ _ (Nat.le_refl _)) _ ⟨5, s.ki, s.tb, s.pa, 0, s.le, s.su⟩ (by omega)⟩
    · have E : Hid (r = (noF s, false)) := hide_ (by rw [← Hr.out]; unfold fillP; simp [noF, g2, gk])
      have f0 : (s.pl == 2) = true := by simp [g2, gk]
      have f1 : (kid != -1) = true := by simp [g2, gk]
      clear g2 gk
      go_wp2_with fail
      refine retSb rfl (noF s) rfl rfl (HK2.out.putS (noF s)) ?_
      exact ⟨by (rw [← Hrs.out, E.out]; rfl), below_putS HB2.out _ (noF s) (by omega)⟩
  by_cases g4 : s.pl = 4
  · by_cases gk : 0 < kid
    · have E : Hid (r = (noF s, false)) := hide_ (by rw [← Hr.out]; unfold fillP; simp [noF, g4, gk])
      have f0 : (s.pl == 2) = false := by simp [g4, gk]
      have f1 : (s.pl == 4) = true := by simp [g4, gk]
      have f2 : (decide (0 < kid)) = true := by simp [g4, gk]
      clear g4 gk
      go_wp2_with fail
      refine retSb rfl (noF s) rfl rfl (HK2.out.putS (noF s)) ?_
      exact ⟨by (rw [← Hrs.out, E.out]; rfl), below_putS HB2.out _ (noF s) (by omega)⟩
    · have E : Hid (r = (⟨5, s.ki, s.tb, s.pa, 0, s.le, s.su⟩, true)) := hide_ (by rw [← Hr.out]; unfold fillP; simp [noF, g4, gk])
      have f0 : (s.pl == 2) = false := by simp [g4, gk]
      have f1 : (s.pl == 4) = true := by simp [g4, gk]
      have f2 : (decide (0 < kid)) = false := by simp [g4, gk]
      clear g4 gk
      go_wp2_with fail
      refine retSb rfl ⟨5, s.ki, s.tb, s.pa, 0, s.le, s.su⟩ rfl rfl (Blk.putS (HK2.out.other _ _ (by simp)) ⟨5, s.ki, s.tb, s.pa, 0, s.le, s.su⟩) ?_
      exact ⟨by (rw [← Hrs.out, E.out]; rfl), below_putS (below_set HB2.out _ _ _ (Nat.le_refl _)) _ ⟨5, s.ki, s.tb, s.pa, 0, s.le, s.su⟩ (by omega)⟩
  by_cases g1 : s.pl = 1
  · by_cases gk : kid = -1
    · by_cases ga : s.fr = 1
      · have E : Hid (r = (noF s, true)) := hide_ (by rw [← Hr.out]; unfold fillP; simp [noF, g1, gk, ga])
        have f0 : (s.pl == 2) = false := by simp [g1, gk, ga]
        have f1 : (s.pl == 4) = false := by simp [g1, gk, ga]
        have f2 : (s.pl == 1) = true := by simp [g1, gk, ga]
        have f3 : (kid == -1) = true := by simp [g1, gk, ga]
        have f4 : (s.fr == 1) = true := by simp [g1, gk, ga]
        clear g1 gk ga
        go_wp2_with fail
        refine retSb rfl (noF s) rfl rfl (HK2.out.putS (noF s)) ?_
        exact ⟨by (rw [← Hrs.out, E.out]; rfl), below_putS HB2.out _ (noF s) (by omega)⟩
      by_cases gb : s.fr = 2
      · have E : Hid (r = (noF s, true)) := hide_ (by rw [← Hr.out]; unfold fillP; simp [noF, g1, gk, ga, gb])
        have f0 : (s.pl == 2) = false := by simp [g1, gk, ga, gb]
        have f1 : (s.pl == 4) = false := by simp [g1, gk, ga, gb]
        have f2 : (s.pl == 1) = true := by simp [g1, gk, ga, gb]
        have f3 : (kid == -1) = true := by simp [g1, gk, ga, gb]
        have f4 : (s.fr == 1) = false := by simp [g1, gk, ga, gb]
        have f5 : (s.fr == 2) = true := by simp [g1, gk, ga, gb]
        clear g1 gk ga gb
        go_wp2_with fail
        refine retSb rfl (noF s) rfl rfl (HK2.out.putS (noF s)) ?_
        exact ⟨by (rw [← Hrs.out, E.out]; rfl), below_putS HB2.out _ (noF s) (by omega)⟩
      · have E : Hid (r = (noF s, false)) := hide_ (by rw [← Hr.out]; unfold fillP; simp [noF, g1, gk, ga, gb])
        have f0 : (s.pl == 2) = false := by simp [g1, gk, ga, gb]
        have f1 : (s.pl == 4) = false := by simp [g1, gk, ga, gb]
        have f2 : (s.pl == 1) = true := by simp [g1, gk, ga, gb]
        have f3 : (kid == -1) = true := by simp [g1, gk, ga, gb]
        have f4 : (s.fr == 1) = false := by simp [g1, gk, ga, gb]
        have f5 : (s.fr == 2) = false := by simp [g1, gk, ga, gb]
        clear g1 gk ga gb
        go_wp2_with fail
        refine retSb rfl (noF s) rfl rfl (HK2.out.putS (noF s)) ?_
        exact ⟨by (rw [← Hrs.out, E.out]; rfl), below_putS HB2.out _ (noF s) (by omega)⟩
    · have E : Hid (r = (noF s, false)) := hide_ (by rw [← Hr.out]; unfold fillP; simp [noF, g1, gk])
      have f0 : (s.pl == 2) = false := by simp [g1, gk]
      have f1 : (s.pl == 4) = false := by simp [g1, gk]
      have f2 : (s.pl == 1) = true := by simp [g1, gk]
      have f3 : (kid == -1) = false := by simp [g1, gk]
      clear g1 gk
      go_wp2_with fail
      refine retSb rfl (noF s) rfl rfl (HK2.out.putS (noF s)) ?_
      exact ⟨by (rw [← Hrs.out, E.out]; rfl), below_putS HB2.out _ (noF s) (by omega)⟩
  by_cases g3 : s.pl = 3
  · have gk : kid = -1 := by have := H3.out (by simpa using g3); simpa using this
    have E : Hid (r = (noF s, false)) := hide_ (by rw [← Hr.out]; unfold fillP; simp [noF, g3, gk])
    have f0 : (s.pl == 2) = false := by simp [g3, gk]
    have f1 : (s.pl == 4) = false := by simp [g3, gk]
    have f2 : (s.pl == 1) = false := by simp [g3, gk]
    have f3 : (s.pl == 3) = true := by simp [g3, gk]
    have f4 : (kid == -1) = true := by simp [g3, gk]
    clear g3 gk
    go_wp2_with fail
    refine retSb rfl (noF s) rfl rfl (HK2.out.putS (noF s)) ?_
    exact ⟨by (rw [← Hrs.out, E.out]; rfl), below_putS HB2.out _ (noF s) (by omega)⟩
  · have E : Hid (r = (noF s, false)) := hide_ (by rw [← Hr.out]; unfold fillP; simp [noF, g2, g4, g1, g3])
    have f0 : (s.pl == 2) = false := by simp [g2, g4, g1, g3]
    have f1 : (s.pl == 4) = false := by simp [g2, g4, g1, g3]
    have f2 : (s.pl == 1) = false := by simp [g2, g4, g1, g3]
    have f3 : (s.pl == 3) = false := by simp [g2, g4, g1, g3]
    clear g2 g4 g1 g3
    go_wp2_with fail
    refine retSb rfl (noF s) rfl rfl (HK2.out.putS (noF s)) ?_
    exact ⟨by (rw [← Hrs.out, E.out]; rfl), below_putS HB2.out _ (noF s) (by omega)⟩
set_option maxRecDepth 100000 in
set_option maxHeartbeats 4000000 in
theorem fill_b (s : St) (k : Nat) (w : World) (hk : k ≤ 63) (h3 : s.pl = 3) (hs : s.ki < 18446744073709551616) : Calls Tryz.prog 133 #[stv s, .int .i64 (k : Int)] w fun e w' => e = .returned (.tuple #[stv (fillP s (k : Int)).1, .bool (fillP s (k : Int)).2]) ∧ Below w.heap.size w w' := by
  obtain ⟨kid, hkid⟩ : ∃ y : Int, (k : Int) = y := ⟨_, rfl⟩
  rw [hkid]
  obtain ⟨B2, K1, K2, hz⟩ := box2f_ok w s
  obtain ⟨w2, hw2⟩ : ∃ wx, box2f w s = wx := ⟨_, rfl⟩
  rw [hw2] at B2 K1 K2 hz
  have HB2 := hide_ B2
  have HK1 := hide_ K1
  have HK2 := hide_ K2
  obtain ⟨c0, c1, c2, c3, c4, c5, c6⟩ := K1.cs
  obtain ⟨d0, d1, d2, d3, d4, d5, d6⟩ := K2.cs
  have fr1 := fun i => K1.frozen i
  have fr2 := fun i => K2.frozen i
  unfold noF at c0 c1 c2 c3 c4 c5 c6
  dsimp only at c0 c1 c2 c3 c4 c5 c6
  unfold box2f box2 at hw2
  obtain ⟨r, hr⟩ : ∃ r, fillP s kid = r := ⟨_, rfl⟩
  rw [hr]
  have Hr := hide_ hr
  clear hr B2 K1 K2
  obtain ⟨rs, hrs⟩ : ∃ y, stv r.1 = y := ⟨_, rfl⟩
  rw [hrs]
  have Hrs := hide_ hrs
  clear hrs
  have hA := bit_1 s.ki k hs
  obtain ⟨n2, hn2⟩ : ∃ n2 : Nat, s.ki ||| 2 ^ k = n2 := ⟨_, rfl⟩
  have hO := bit_orw s.ki k hs hk
  rw [hn2] at hO
  have Hn2 := hide_ hn2
  clear hn2
  have htn : kid.toNat = k := by omega
  have Hkid := hide_ hkid
  have f2 : (s.pl == 2) = false := by simp [h3]
  have f4 : (s.pl == 4) = false := by simp [h3]
  have f1 : (s.pl == 1) = false := by simp [h3]
  have f3 : (s.pl == 3) = true := by simp [h3]
  have fk : (kid == -1) = false := by simp; omega
  have hk0 : 0 ≤ kid := by omega
  have hk63 : kid ≤ 63 := by omega
  have H3 := hide_ h3
  clear h3 hkid
  unfold stv
  go_enter Tryz.func133, Tryz.ntmps133
  go_upto_region 3 with fail
  try rw [hw2]
  clear hw2
  cases hb : s.ki.testBit k
  · rw [hb] at hA
    have hA : bits BinOp.and IntKind.u64 ((s.ki : Int) / 2 ^ k) 1 = 0 := by simpa using hA
    have e : r = (⟨3, n2, s.tb, s.pa, 0, s.le, s.su⟩, true) := by
      rw [← Hr.out, ← Hkid.out, ← Hn2.out]; unfold fillP; simp [H3.out, hb]
    have E := hide_ e
    clear e hb
    go_wp2_with fail
    go_region
    all_goals
      go_wp2
      refine retSb rfl ⟨s.pl, n2, s.tb, s.pa, 0, s.le, s.su⟩ rfl rfl (Blk.drew (Blk.putS (HK2.out.other _ _ (by simp)) ⟨s.pl, n2, s.tb, s.pa, 0, s.le, s.su⟩)) ?_
      exact ⟨by (rw [← Hrs.out, E.out, H3.out]; rfl), (below_putS (below_set HB2.out _ _ _ (Nat.le_refl _)) _ ⟨s.pl, n2, s.tb, s.pa, 0, s.le, s.su⟩ (by omega)).drew⟩
  · rw [hb] at hA
    have hA : bits BinOp.and IntKind.u64 ((s.ki : Int) / 2 ^ k) 1 = 1 := by simpa using hA
    have e : r = (⟨3, s.ki, s.tb, s.pa, 0, s.le, s.su⟩, false) := by
      rw [← Hr.out, ← Hkid.out]; unfold fillP; simp [H3.out, hb]
    have E := hide_ e
    clear e hb
    go_wp2_with fail
    refine retSb rfl (noF s) rfl rfl (HK2.out.putS (noF s)) ?_
    refine ⟨?_, below_putS HB2.out _ (noF s) (by omega)⟩
    rw [← Hrs.out, E.out]
    unfold noF
    rw [H3.out]
    rfl
theorem fill_any (s : St) (kid : Int) (w : World) (hk : -1 ≤ kid ∧ kid ≤ 63) (hs : s.ki < 18446744073709551616) : Calls Tryz.prog 133 #[stv s, .int .i64 kid] w fun e w' => e = .returned (.tuple #[stv (fillP s kid).1, .bool (fillP s kid).2]) ∧ Below w.heap.size w w' := by
  by_cases h3 : s.pl = 3
  · by_cases hm : kid = -1
    · exact fill_a s kid w hk (fun _ => by simpa using hm)
    · obtain ⟨k, rfl⟩ : ∃ k : Nat, kid = (k : Int) := ⟨kid.toNat, by omega⟩
      exact fill_b s k w (by omega) h3 hs
  · exact fill_a s kid w hk (fun h => absurd (by simpa using h) h3)
theorem fillP_ki (s : St) (kid : Int) (hk : -1 ≤ kid ∧ kid ≤ 63) (hs : s.ki < 18446744073709551616) : (fillP s kid).1.ki < 18446744073709551616 := by
  unfold fillP
  split
  · split <;> exact hs
  split
  · split <;> exact hs
  split
  · exact hs
  split
  · split
    · exact hs
    · exact or_lt _ _ hs (by omega)
  · exact hs
def box1 (w : World) (s : St) : World := w.alloc (.cells #[.int .i64 s.pl, .int .u64 (s.ki : Int), .int .i64 s.tb, .int .i64 s.pa, .int .i64 s.fr, .int .i64 s.le, .bool s.su] 101)
theorem box1_ok (w : World) (s : St) : Below w.heap.size w (box1 w s) ∧ Blk (box1 w s) w.heap.size 101 (stc s) := ⟨below1 _ _, Blk.newA w _ _⟩
set_option maxRecDepth 100000 in
set_option maxHeartbeats 4000000 in
theorem hasP_any (s : St) (f : Int) (w : World) : Calls Tryz.prog 137 #[stv s, .int .i64 f] w fun e w' => e = .returned (.bool (hasP s f)) ∧ Below w.heap.size w w' := by
  obtain ⟨B2, K1⟩ := box1_ok w s
  obtain ⟨w2, hw2⟩ : ∃ wx, box1 w s = wx := ⟨_, rfl⟩
  rw [hw2] at B2 K1
  have HB2 := hide_ B2
  obtain ⟨c0, c1, c2, c3, c4, c5, c6⟩ := K1.cs
  unfold box1 at hw2
  obtain ⟨b, hb⟩ : ∃ b, hasP s f = b := ⟨_, rfl⟩
  rw [hb]
  have Hb := hide_ hb
  clear B2 K1 hb
  unfold stv
  go_enter Tryz.func137, Tryz.ntmps137
  go_upto_region 1 with fail
  try rw [hw2]
  clear hw2
  go_wp2_with fail
  all_goals
    go_ret
    refine ⟨?_, HB2.out⟩
    rw [← Hb.out]
    unfold hasP
    simp only [beq_iff_eq, beq_eq_false_iff_ne, bne_iff_ne, bne_eq_false_iff_eq, ne_eq, Bool.not_eq_true] at *
    repeat (first | rw [if_pos (by omega)] | rw [if_neg (by omega)])
    first | rfl | (congr 2; simp; omega) | (congr 2; simp_all; done)
set_option maxRecDepth 100000 in
set_option maxHeartbeats 4000000 in
theorem wholeP_any (s : St) (w : World) (hs : s.ki < 18446744073709551616) : Calls Tryz.prog 138 #[stv s] w fun e w' => e = .returned (.bool (wholeP s)) ∧ Below w.heap.size w w' := by
  obtain ⟨B2, K1⟩ := box1_ok w s
  obtain ⟨w2, hw2⟩ : ∃ wx, box1 w s = wx := ⟨_, rfl⟩
  rw [hw2] at B2 K1
  have HB2 := hide_ B2
  obtain ⟨c0, c1, c2, c3, c4, c5, c6⟩ := K1.cs
  unfold box1 at hw2
  obtain ⟨m, hm⟩ : ∃ m : Nat, s.ki &&& (s.ki + 1) % 18446744073709551616 = m := ⟨_, rfl⟩
  have hA : bits .and .u64 (s.ki : Int) (IntKind.u64.wrap ((s.ki : Int) + 1)) = (m : Int) := by
    have h1 : IntKind.u64.wrap ((s.ki : Int) + 1) = (((s.ki + 1) % 18446744073709551616 : Nat) : Int) := by rw [IntKind.wrap_u64]; omega
    rw [h1, bits_and_u64_nat _ _ hs (by omega), hm]
  obtain ⟨b, hb⟩ : ∃ b, wholeP s = b := ⟨_, rfl⟩
  rw [hb]
  unfold wholeP at hb
  rw [hm] at hb
  have Hb := hide_ hb
  clear B2 K1 hb hm
  unfold stv
  go_enter Tryz.func138, Tryz.ntmps138
  go_upto_region 1 with fail
  try rw [hw2]
  clear hw2
  go_wp2_with fail
  all_goals
    go_ret
    refine ⟨?_, HB2.out⟩
    rw [← Hb.out]
    clear hA Hb HB2 c0 c1 c2 c3 c4 c5 c6
    simp only [beq_iff_eq, beq_eq_false_iff_ne, bne_iff_ne, bne_eq_false_iff_eq, ne_eq, Bool.not_eq_true] at *
    repeat (first | rw [if_pos (by omega)] | rw [if_neg (by omega)])
    first | rfl | (show Ending.returned (Value.bool (((s.ki : Int) != 0) && ((m : Int) == 0))) = _; congr 2; rw [Bool.eq_iff_iff]; simp; done) | (congr 2; simp; omega) | (congr 2; simp_all; done)
def box3b (w : World) (s : St) (x : In) : World := (w.alloc (.cells #[.int .i64 s.pl, .int .u64 (s.ki : Int), .int .i64 s.tb, .int .i64 s.pa, .int .i64 s.fr, .int .i64 s.le, .bool s.su] 101)).alloc (.cells #[.int .i64 x.op, .int .i64 x.a, .int .i64 x.b, .int .i64 x.c] 37)
theorem box3b_ok (w : World) (s : St) (x : In) : Below w.heap.size w (box3b w s x) ∧ Blk (box3b w s x) w.heap.size 101 (stc s) ∧ Blk (box3b w s x) (w.heap.size + 1) 37 (inc x) := ⟨below2 _ _ _, (blk2 w _ _ _ _).1, (blk2 w _ _ _ _).2⟩
set_option maxRecDepth 100000 in
set_option maxHeartbeats 4000000 in
theorem tabP_any (s : St) (x : In) (way : Int) (w : World) (hs : -1 ≤ s.tb ∧ s.tb ≤ 100000000) : Calls Tryz.prog 135 #[stv s, inv x, .int .i64 way] w fun e w' => e = .returned (.int .i64 (tabP s x way)) ∧ Below w.heap.size w w' := by
  obtain ⟨B2, K1, KX⟩ := box3b_ok w s x
  obtain ⟨w2, hw2⟩ : ∃ wx, box3b w s x = wx := ⟨_, rfl⟩
  rw [hw2] at B2 K1 KX
  have HB2 := hide_ B2
  obtain ⟨c0, c1, c2, c3, c4, c5, c6⟩ := K1.cs
  obtain ⟨i0, i1, i2, i3⟩ := KX.ci
  unfold box3b at hw2
  obtain ⟨b, hb⟩ : ∃ b, tabP s x way = b := ⟨_, rfl⟩
  rw [hb]
  have Hb := hide_ hb
  obtain ⟨hs1, hs2⟩ := hs
  clear B2 K1 KX hb
  unfold stv inv
  go_enter Tryz.func135, Tryz.ntmps135
  go_upto_region 1 with fail
  try rw [hw2]
  clear hw2
  go_wp2_with fail
  all_goals
    go_ret
    refine ⟨?_, HB2.out⟩
    rw [← Hb.out]
    unfold tabP
    simp only [beq_iff_eq, beq_eq_false_iff_ne, bne_iff_ne, bne_eq_false_iff_eq, ne_eq, Bool.not_eq_true] at *
    repeat (first | rw [if_pos (by omega)] | rw [if_neg (by omega)])
    first | rfl | trace_state
def box1i (w : World) (x : In) : World := w.alloc (.cells #[.int .i64 x.op, .int .i64 x.a, .int .i64 x.b, .int .i64 x.c] 37)
set_option maxRecDepth 100000 in
set_option maxHeartbeats 4000000 in
theorem freeP_any (x : In) (way : Int) (w : World) : Calls Tryz.prog 136 #[inv x, .int .i64 way] w fun e w' => e = .returned (.int .i64 (freeP x way)) ∧ Below w.heap.size w w' := by
  have B2 : Below w.heap.size w (box1i w x) := below1 _ _
  have KX : Blk (box1i w x) w.heap.size 37 (inc x) := Blk.newA w _ _
  obtain ⟨w2, hw2⟩ : ∃ wx, box1i w x = wx := ⟨_, rfl⟩
  rw [hw2] at B2 KX
  have HB2 := hide_ B2
  obtain ⟨i0, i1, i2, i3⟩ := KX.ci
  unfold box1i at hw2
  obtain ⟨b, hb⟩ : ∃ b, freeP x way = b := ⟨_, rfl⟩
  rw [hb]
  have Hb := hide_ hb
  clear B2 KX hb
  unfold inv
  go_enter Tryz.func136, Tryz.ntmps136
  go_upto_region 1 with fail
  try rw [hw2]
  clear hw2
  go_wp2_with fail
  all_goals
    go_ret
    refine ⟨?_, HB2.out⟩
    rw [← Hb.out]
    unfold freeP
    simp only [beq_iff_eq, beq_eq_false_iff_ne, bne_iff_ne, bne_eq_false_iff_eq, ne_eq, Bool.not_eq_true] at *
    repeat (first | rw [if_pos (by omega)] | rw [if_neg (by omega)])
    first | rfl | trace_state
theorem Blk.putO {w : World} {h : Nat} {t : TypeId} {xs : List Value} (k : Blk w h t xs) (g : Nat) (s : St) (e : h ≠ g) : Blk (Go.Proofs.YtjamfbpdepahnaaGreat.putS w g s) h t xs := by
  unfold Go.Proofs.YtjamfbpdepahnaaGreat.putS
  exact ((((((k.other _ _ e).other _ _ e).other _ _ e).other _ _ e).other _ _ e).other _ _ e).other _ _ e
theorem fillR_ki : ∀ (n : Nat) (s : St) (kid : Int), -1 ≤ kid → kid + n ≤ 64 → s.ki < 18446744073709551616 → (fillR s kid n).1.ki < 18446744073709551616
  | 0, s, kid, _, _, hs => hs
  | n + 1, s, kid, h1, h2, hs => by
    rw [fillR]
    have hf := fillP_ki s kid ⟨h1, by omega⟩ hs
    split
    · exact fillR_ki n _ _ (by omega) (by omega) hf
    · exact hf
set_option maxRecDepth 100000 in
set_option maxHeartbeats 4000000 in
theorem fillR_any (s : St) (kid : Int) (n : Nat) (w : World) (h1 : -1 ≤ kid) (h2 : kid + n ≤ 64) (hs : s.ki < 18446744073709551616) : Calls Tryz.prog 134 #[stv s, .int .i64 kid, .int .i64 (n : Int)] w fun e w' => e = .returned (.tuple #[stv (fillR s kid n).1, .bool (fillR s kid n).2]) ∧ Below w.heap.size w w' := by
  obtain ⟨B2, K1, K2, hz⟩ := box2_ok w s
  obtain ⟨w2, hw2⟩ : ∃ wx, box2 w s = wx := ⟨_, rfl⟩
  rw [hw2] at B2 K1 K2 hz
  have HB2 := hide_ B2
  have HK1 := hide_ K1
  have HK2 := hide_ K2
  unfold box2 at hw2
  obtain ⟨r, hr⟩ : ∃ r, fillR s kid n = r := ⟨_, rfl⟩
  rw [hr]
  have Hr := hide_ hr
  clear hr B2 K1 K2
  obtain ⟨rs, hrs⟩ : ∃ y, stv r.1 = y := ⟨_, rfl⟩
  rw [hrs]
  have Hrs := hide_ hrs
  have Hki := hide_ hs
  clear hrs hs
  unfold stv
  go_enter Tryz.func134, Tryz.ntmps134
  go_upto_region 1 with fail
  try rw [hw2]
  clear hw2
  go_wp2_with fail
  go_loopw [12] (fun x12 wr => ∃ (k : Nat) (t : St), k ≤ n ∧ x12 = .int .i64 (k : Int) ∧ Hid (t.ki < 18446744073709551616) ∧ Hid (fillR t (kid + k) (n - k) = r) ∧ Hid (Below w.heap.size w wr) ∧ Hid (Blk wr w.heap.size 101 (stc t)) ∧ Hid (Blk wr (w.heap.size + 1) 101 (stc st0)) ∧ w.heap.size + 2 ≤ wr.heap.size) (fun x12 _ => n - (intOf x12).toNat)
  case atStart => exact ⟨0, s, by omega, rfl, Hki, hide_ (by simpa using Hr.out), HB2, HK1, HK2, hz⟩
  case round =>
    clear Hr HB2 HK1 HK2 hz Hki
    obtain ⟨k, t, hkn, rfl, Hki, Hr, HB, HK1, HK2, hz⟩ := hrel
    generalize wr = wq at *
    obtain ⟨c0, c1, c2, c3, c4, c5, c6⟩ := HK1.out.cs
    by_cases hlt : k < n
    · obtain ⟨m, hm⟩ : ∃ m : Nat, n - k = m + 1 := ⟨n - k - 1, by omega⟩
      have hr := Hr.out
      rw [hm, fillR] at hr
      have HF : Hid (∀ w, Calls Tryz.prog 133 #[stv t, .int .i64 (kid + k)] w fun e w' => e = .returned (.tuple #[stv (fillP t (kid + k)).1, .bool (fillP t (kid + k)).2]) ∧ Below w.heap.size w w') := hide_ (fun w => fill_any t _ w ⟨by omega, by omega⟩ Hki.out)
      have Hki2 := hide_ (fillP_ki t (kid + k) ⟨by omega, by omega⟩ Hki.out)
      obtain ⟨t2, b2, hf⟩ : ∃ t2 b2, fillP t (kid + k) = (t2, b2) := ⟨_, _, rfl⟩
      rw [hf] at hr Hki2 HF
      have Hm := hide_ hm
      clear hf hm Hr
      go_wp2_with fail
      unfold stv at HF
      refine (HF.out _).mono ?_
      rintro e w3 ⟨rfl, hB3⟩
      have K1 := HK1.out.later hB3
      have K2 := HK2.out.later hB3
      have HB3 := hide_ (below_to HB.out hB3)
      have hz3 := hB3.size
      obtain ⟨a0, a1, a2, a3, a4, a5, a6⟩ := (K1.alloc (.cells #[.int .i64 t2.pl, .int .u64 (t2.ki : Int), .int .i64 t2.tb, .int .i64 t2.pa, .int .i64 t2.fr, .int .i64 t2.le, .bool t2.su] 101)).cs
      obtain ⟨e0, e1, e2, e3, e4, e5, e6⟩ := (K2.alloc (.cells #[.int .i64 t2.pl, .int .u64 (t2.ki : Int), .int .i64 t2.tb, .int .i64 t2.pa, .int .i64 t2.fr, .int .i64 t2.le, .bool t2.su] 101)).cs
      have z1 := fun i => (K1.alloc (.cells #[.int .i64 t2.pl, .int .u64 (t2.ki : Int), .int .i64 t2.tb, .int .i64 t2.pa, .int .i64 t2.fr, .int .i64 t2.le, .bool t2.su] 101)).frozen i
      have z2 := fun i => (K2.alloc (.cells #[.int .i64 t2.pl, .int .u64 (t2.ki : Int), .int .i64 t2.tb, .int .i64 t2.pa, .int .i64 t2.fr, .int .i64 t2.le, .bool t2.su] 101)).frozen i
      have HL1 := hide_ K1
      have HL2 := hide_ K2
      have HR := hide_ hr
      clear hB3 K1 K2 hr c0 c1 c2 c3 c4 c5 c6 HK1 HK2
      have hz4 : w.heap.size + 2 ≤ w3.heap.size := by omega
      clear hz hz3
      cases b2
      · go_wp2_with fail
        refine retSb rfl t2 rfl rfl (Blk.putS (HL2.out.alloc _) t2) ?_
        have hr := HR.out
        rw [if_neg (by simp)] at hr
        refine ⟨by rw [← Hrs.out, ← hr]; rfl, below_putS (HB3.out.alloc (by omega) _) _ t2 (by omega)⟩
      · have hr := HR.out
        rw [if_pos rfl] at hr
        have HR2 := hide_ hr
        clear HR hr
        go_wp2_with fail
        go_roundw
        case rel =>
          refine ⟨k + 1, t2, by omega, by go_num, Hki2, hide_ ?_, hide_ (below_putS (HB3.out.alloc (by omega) _) _ t2 (Nat.le_refl _)), hide_ (Blk.putS (HL1.out.alloc _) t2), hide_ ?_, ?_⟩
          · have e1 : n - (k + 1) = m := by have := Hm.out; omega
            have e2 : kid + ((k + 1 : Nat) : Int) = kid + k + 1 := by omega
            rw [e1, e2]; exact HR2.out
          · exact (HL2.out.alloc _).putO _ t2 (by omega)
          · simp [putS]; omega
        case measure => simp [intOf]; omega
    · have e0 : k = n := by omega
      have hr := Hr.out
      rw [show n - k = 0 by omega, fillR] at hr
      have HR := hide_ hr
      have hl : ¬ ((k : Int) < (n : Int)) := by omega
      obtain ⟨d0, d1, d2, d3, d4, d5, d6⟩ := HK2.out.cs
      have z2 := fun i => HK2.out.frozen i
      clear hr e0
      go_wp2_with fail
      refine retSb rfl t rfl rfl (HK2.out.putS t) ?_
      exact ⟨by (rw [← Hrs.out, ← HR.out]; rfl), below_putS HB.out _ t (by omega)⟩
structure DOk (x : In) : Prop where
  kid : x.op = 1 ∨ x.op = 3 ∨ x.op = 4 ∨ x.op = 16 ∨ x.op = 17 → -1 ≤ x.a ∧ x.a ≤ 63
  run : x.op = 2 → -1 ≤ x.a ∧ 0 ≤ x.b ∧ x.a + x.b ≤ 64
def box6 (w : World) (s : St) (x : In) : World := (box4 94 w s x).alloc (.cells #[.int .i64 s.pl, .int .u64 (s.ki : Int), .int .i64 s.tb, .int .i64 s.pa, .int .i64 0, .int .i64 s.le, .bool s.su] 101)
theorem box6_ok (w : World) (s : St) (x : In) : Below w.heap.size w (box6 w s x) ∧ Blk (box6 w s x) (w.heap.size + 1) 101 (stc s) ∧ Blk (box6 w s x) (w.heap.size + 1 + 1) 37 (inc x) ∧ Blk (box6 w s x) (w.heap.size + 1 + 1 + 1) 101 (stc st0) ∧ Blk (box6 w s x) (w.heap.size + 1 + 1 + 1 + 1) 101 (stc (noF s)) ∧ w.heap.size + 5 ≤ (box6 w s x).heap.size := by
  obtain ⟨h1, h2, h3, h4, h5⟩ := box4_ok 94 w s x
  have hsz : (box4 94 w s x).heap.size = w.heap.size + 1 + 1 + 1 + 1 := by simp [box4, box3]
  have h6 := Blk.newA (box4 94 w s x) #[.int .i64 s.pl, .int .u64 (s.ki : Int), .int .i64 s.tb, .int .i64 s.pa, .int .i64 0, .int .i64 s.le, .bool s.su] 101
  rw [hsz] at h6
  refine ⟨h1.alloc (by omega) _, h2.alloc _, h3.alloc _, h4.alloc _, h6, by simp [box6]; omega⟩
set_option maxRecDepth 100000 in
set_option maxHeartbeats 8000000 in
theorem dhd_19 (s : St) (x : In) (way : Int) (w : World) (hx : DOk x) (hs : s.ki < 18446744073709551616) (ht : -1 ≤ s.tb ∧ s.tb ≤ 100000000) (hp : 0 ≤ s.pa ∧ s.pa ≤ 100000000) (hop : x.op = 19) : Calls Tryz.prog 130 #[.agg #[], stv s, inv x, .int .i64 way] w fun e w' => e = .returned (stv (dHd s x way)) ∧ Below w.heap.size w w' := by
  obtain ⟨B2, K1, KX, K2, K3, hz⟩ := box6_ok w s x
  obtain ⟨w2, hw2⟩ : ∃ wx, box6 w s x = wx := ⟨_, rfl⟩
  rw [hw2] at B2 K1 KX K2 K3 hz
  have HB2 := hide_ B2
  have HK1 := hide_ K1
  have HK2 := hide_ K2
  have HK3 := hide_ K3
  obtain ⟨c0, c1, c2, c3, c4, c5, c6⟩ := K1.cs
  obtain ⟨i0, i1, i2, i3⟩ := KX.ci
  obtain ⟨d0, d1, d2, d3, d4, d5, d6⟩ := K2.cs
  obtain ⟨e0, e1, e2, e3, e4, e5, e6⟩ := K3.cs
  unfold noF at e0 e1 e2 e3 e4 e5 e6
  dsimp only at e0 e1 e2 e3 e4 e5 e6
  have fr1 := fun i => K1.frozen i
  have fr2 := fun i => K2.frozen i
  have fr3 := fun i => K3.frozen i
  unfold box6 box4 box3 at hw2
  obtain ⟨r, hr⟩ : ∃ r, dHd s x way = r := ⟨_, rfl⟩
  rw [hr]
  have Hr := hide_ hr
  obtain ⟨rs, hrs⟩ : ∃ y, stv r = y := ⟨_, rfl⟩
  rw [hrs]
  have Hrs := hide_ hrs
  have Hop := hide_ hop
  obtain ⟨hp1, hp2⟩ := hp
  clear B2 K1 KX K2 K3 hx hs hr hrs ht hop
  unfold stv inv
  go_enter Tryz.func130, Tryz.ntmps130
  go_upto_region 3 with fail
  try rw [hw2]
  clear hw2
  rw [Hop.out] at i0
  have E : Hid (r = s) := hide_ (by rw [← Hr.out]; unfold dHd; first | (simp [noF, Hop.out]; done) | (have := Hop.out; repeat (first | rw [if_pos (by omega)] | rw [if_neg (by omega)])))
  go_wp2_with fail
  refine retSt rfl s rfl (Blk.putS HK2.out s) ?_
  exact ⟨by (rw [← Hrs.out, E.out]; try rfl), below_putS HB2.out _ s (by omega)⟩
set_option maxRecDepth 100000 in
set_option maxHeartbeats 8000000 in
theorem dhd_17 (s : St) (x : In) (way : Int) (w : World) (hx : DOk x) (hs : s.ki < 18446744073709551616) (ht : -1 ≤ s.tb ∧ s.tb ≤ 100000000) (hp : 0 ≤ s.pa ∧ s.pa ≤ 100000000) (hop : x.op = 17) : Calls Tryz.prog 130 #[.agg #[], stv s, inv x, .int .i64 way] w fun e w' => e = .returned (stv (dHd s x way)) ∧ Below w.heap.size w w' := by
  obtain ⟨B2, K1, KX, K2, K3, hz⟩ := box6_ok w s x
  obtain ⟨w2, hw2⟩ : ∃ wx, box6 w s x = wx := ⟨_, rfl⟩
  rw [hw2] at B2 K1 KX K2 K3 hz
  have HB2 := hide_ B2
  have HK1 := hide_ K1
  have HK2 := hide_ K2
  have HK3 := hide_ K3
  obtain ⟨c0, c1, c2, c3, c4, c5, c6⟩ := K1.cs
  obtain ⟨i0, i1, i2, i3⟩ := KX.ci
  obtain ⟨d0, d1, d2, d3, d4, d5, d6⟩ := K2.cs
  obtain ⟨e0, e1, e2, e3, e4, e5, e6⟩ := K3.cs
  unfold noF at e0 e1 e2 e3 e4 e5 e6
  dsimp only at e0 e1 e2 e3 e4 e5 e6
  have fr1 := fun i => K1.frozen i
  have fr2 := fun i => K2.frozen i
  have fr3 := fun i => K3.frozen i
  unfold box6 box4 box3 at hw2
  have HF : Hid (∀ w, Calls Tryz.prog 133 #[stv ⟨s.pl, s.ki, s.tb, s.pa + 1, s.fr, s.le, s.su⟩, .int .i64 x.a] w fun e w' => e = .returned (.tuple #[stv (fillP ⟨s.pl, s.ki, s.tb, s.pa + 1, s.fr, s.le, s.su⟩ x.a).1, .bool (fillP ⟨s.pl, s.ki, s.tb, s.pa + 1, s.fr, s.le, s.su⟩ x.a).2]) ∧ Below w.heap.size w w') := hide_ (fun w => fill_any ⟨s.pl, s.ki, s.tb, s.pa + 1, s.fr, s.le, s.su⟩ x.a w (hx.kid (by omega)) hs)
  obtain ⟨r, hr⟩ : ∃ r, dHd s x way = r := ⟨_, rfl⟩
  rw [hr]
  have Hr := hide_ hr
  obtain ⟨rs, hrs⟩ : ∃ y, stv r = y := ⟨_, rfl⟩
  rw [hrs]
  have Hrs := hide_ hrs
  have Hop := hide_ hop
  obtain ⟨hp1, hp2⟩ := hp
  clear B2 K1 KX K2 K3 hx hs hr hrs ht hop
  unfold stv inv
  go_enter Tryz.func130, Tryz.ntmps130
  go_upto_region 3 with fail
  try rw [hw2]
  clear hw2
  rw [Hop.out] at i0
  by_cases ga : x.a = -1
  · have E : Hid (r = noF s) := hide_ (by rw [← Hr.out]; unfold dHd; first | (simp [noF, Hop.out, ga]; done) | (have := Hop.out; repeat (first | rw [if_pos (by omega)] | rw [if_neg (by omega)])))
    have g0 : (x.a == -1) = true := by first | (simp [ga]; done) | (simp; omega)
    have Hga := hide_ ga
    clear ga
    go_wp2_with fail
    refine retSt rfl (noF s) rfl (Blk.putS HK2.out (noF s)) ?_
    exact ⟨by (rw [← Hrs.out, E.out]; try rfl), below_putS HB2.out _ (noF s) (by omega)⟩
  · have E : Hid (r = (fillP ⟨s.pl, s.ki, s.tb, s.pa + 1, s.fr, s.le, s.su⟩ x.a).1) := hide_ (by rw [← Hr.out]; unfold dHd; first | (simp [noF, Hop.out, ga]; done) | (have := Hop.out; repeat (first | rw [if_pos (by omega)] | rw [if_neg (by omega)])))
    have g0 : (x.a == -1) = false := by first | (simp [ga]; done) | (simp; omega)
    have Hga := hide_ ga
    clear ga
    go_wp2_with fail
    refine (HF.out _).mono ?_
    rintro e w3 ⟨rfl, hB3⟩
    have L2 := Blk.later (HK2.out.other _ _ (by first | (simp; done) | (simp; omega))) hB3
    have L3 := Blk.later (HK3.out.other _ _ (by first | (simp; done) | (simp; omega))) hB3
    have HB3 := hide_ (below_to (below_set HB2.out _ _ _ (by omega)) hB3)
    have hsz := hB3.size
    clear hB3 c0 c1 c2 c3 c4 c5 c6 d0 d1 d2 d3 d4 d5 d6 e0 e1 e2 e3 e4 e5 e6 fr1 fr2 fr3
    obtain ⟨d0, d1, d2, d3, d4, d5, d6⟩ := L2.cs
    obtain ⟨e0, e1, e2, e3, e4, e5, e6⟩ := L3.cs
    have fr2 := fun i => L2.frozen i
    have fr3 := fun i => L3.frozen i
    have HL2 := hide_ L2
    clear L2 L3
    obtain ⟨f, hf⟩ : ∃ f, (fillP ⟨s.pl, s.ki, s.tb, s.pa + 1, s.fr, s.le, s.su⟩ x.a).1 = f := ⟨_, rfl⟩
    rw [hf]
    have Hf := hide_ hf
    clear hf
    unfold stv
    go_wp2
    refine retSt rfl f rfl (Blk.putS (HL2.out.putO _ f (by omega)) f) ?_
    exact ⟨by (rw [← Hrs.out, E.out, Hf.out]; try rfl), below_putS (below_putS HB3.out _ f (by omega)) _ f (by omega)⟩
set_option maxRecDepth 100000 in
set_option maxHeartbeats 8000000 in
theorem dhd_5 (s : St) (x : In) (way : Int) (w : World) (hx : DOk x) (hs : s.ki < 18446744073709551616) (ht : -1 ≤ s.tb ∧ s.tb ≤ 100000000) (hp : 0 ≤ s.pa ∧ s.pa ≤ 100000000) (hop : x.op = 5) : Calls Tryz.prog 130 #[.agg #[], stv s, inv x, .int .i64 way] w fun e w' => e = .returned (stv (dHd s x way)) ∧ Below w.heap.size w w' := by
  obtain ⟨B2, K1, KX, K2, K3, hz⟩ := box6_ok w s x
  obtain ⟨w2, hw2⟩ : ∃ wx, box6 w s x = wx := ⟨_, rfl⟩
  rw [hw2] at B2 K1 KX K2 K3 hz
  have HB2 := hide_ B2
  have HK1 := hide_ K1
  have HK2 := hide_ K2
  have HK3 := hide_ K3
  obtain ⟨c0, c1, c2, c3, c4, c5, c6⟩ := K1.cs
  obtain ⟨i0, i1, i2, i3⟩ := KX.ci
  obtain ⟨d0, d1, d2, d3, d4, d5, d6⟩ := K2.cs
  obtain ⟨e0, e1, e2, e3, e4, e5, e6⟩ := K3.cs
  unfold noF at e0 e1 e2 e3 e4 e5 e6
  dsimp only at e0 e1 e2 e3 e4 e5 e6
  have fr1 := fun i => K1.frozen i
  have fr2 := fun i => K2.frozen i
  have fr3 := fun i => K3.frozen i
  unfold box6 box4 box3 at hw2
  obtain ⟨r, hr⟩ : ∃ r, dHd s x way = r := ⟨_, rfl⟩
  rw [hr]
  have Hr := hide_ hr
  obtain ⟨rs, hrs⟩ : ∃ y, stv r = y := ⟨_, rfl⟩
  rw [hrs]
  have Hrs := hide_ hrs
  have Hop := hide_ hop
  obtain ⟨hp1, hp2⟩ := hp
  clear B2 K1 KX K2 K3 hx hs hr hrs ht hop
  unfold stv inv
  go_enter Tryz.func130, Tryz.ntmps130
  go_upto_region 3 with fail
  try rw [hw2]
  clear hw2
  rw [Hop.out] at i0
  have E : Hid (r = ⟨1, 0, s.tb, s.pa, 1, s.le, s.su⟩) := hide_ (by rw [← Hr.out]; unfold dHd; first | (simp [noF, Hop.out]; done) | (have := Hop.out; repeat (first | rw [if_pos (by omega)] | rw [if_neg (by omega)])))
  go_wp2_with fail
  refine retSt rfl ⟨1, 0, s.tb, s.pa, 1, s.le, s.su⟩ rfl (Blk.putS (((HK2.out.other _ _ (by first | (simp; done) | (simp; omega))).other _ _ (by first | (simp; done) | (simp; omega))).other _ _ (by first | (simp; done) | (simp; omega))) ⟨1, 0, s.tb, s.pa, 1, s.le, s.su⟩) ?_
  exact ⟨by (rw [← Hrs.out, E.out]; try rfl), below_putS (below_set (below_set (below_set HB2.out _ _ _ (by omega)) _ _ _ (by omega)) _ _ _ (by omega)) _ ⟨1, 0, s.tb, s.pa, 1, s.le, s.su⟩ (by omega)⟩
end Go.Proofs.YtjamfbpdepahnaaGreat
