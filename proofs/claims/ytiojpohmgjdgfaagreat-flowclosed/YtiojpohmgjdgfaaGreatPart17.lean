import Derived.Test.YtiojpohmgjdgfaaGreatPart14
import Derived.Laws.Bits64b
import Derived.Test.YtiojpohmgjdgfaaGreatPart15
import Derived.Test.YtiojpohmgjdgfaaGreatPart05

/- sound: fill. -/
namespace Go.Proofs.YtiojpohmgjdgfaaGreat
open Go.RowKit
set_option linter.unusedVariables false
set_option linter.unusedSimpArgs false

/-- A state in a box, whose free is nothing. -/
def box2f (w : World) (s : St) : World := (box2 w s).setCell ⟨w.heap.size, 4, none⟩ (.int .i64 0)
def noF (s : St) : St := ⟨s.pl, s.ki, s.tb, s.pa, 0, s.le, s.su⟩
theorem box2f_ok (w : World) (s : St) : Below w.heap.size w (box2f w s) ∧ Blk (box2f w s) w.heap.size 126 (stc (noF s)) ∧ Blk (box2f w s) (w.heap.size + 1) 126 (stc st0) ∧ w.heap.size + 2 ≤ (box2f w s).heap.size := by
  obtain ⟨h1, h2, h3, h4⟩ := box2_ok w s
  refine ⟨below_set h1 _ _ _ (Nat.le_refl _), h2.set 4 (.int .i64 0), h3.other _ _ (by simp), by simpa [box2f] using h4⟩
theorem bit_1 (n k : Nat) (hn : n < 18446744073709551616) : bits .and .u64 ((n : Int) / 2 ^ k) 1 = ((if n.testBit k then 1 else 0 : Nat) : Int) := by
  have e : ((n : Int) / 2 ^ k) = ((n / 2 ^ k : Nat) : Int) := by simp
  have h1 : n / 2 ^ k ≤ n := Nat.div_le_self _ _
  have h2 := bits_and_u64_nat (n / 2 ^ k) 1 (by omega) (by omega)
  rw [e]
  rw [show ((1 : Nat) : Int) = 1 from rfl] at h2
  rw [h2, Nat.and_one_is_mod, Nat.testBit_eq_decide_div_mod_eq]
  by_cases hb : n / 2 ^ k % 2 = 1
  · simp [hb]
  · have : n / 2 ^ k % 2 = 0 := by omega
    simp [this]
theorem or_lt (n k : Nat) (hn : n < 18446744073709551616) (hk : k ≤ 63) : n ||| 2 ^ k < 18446744073709551616 := by
  have h1 : 2 ^ k ≤ 2 ^ 63 := Nat.pow_le_pow_right (by omega) hk
  exact Nat.or_lt_two_pow (n := 64) (by omega) (by omega)
theorem bit_or (n k : Nat) (hn : n < 18446744073709551616) (hk : k ≤ 63) : bits .or .u64 (n : Int) (2 ^ k) = ((n ||| 2 ^ k : Nat) : Int) := by
  have h1 : 2 ^ k ≤ 2 ^ 63 := Nat.pow_le_pow_right (by omega) hk
  have h2 := bits_or_u64_nat n (2 ^ k) hn (by omega)
  rw [← h2]
  congr 1
theorem bit_orw (n k : Nat) (hn : n < 18446744073709551616) (hk : k ≤ 63) : bits .or .u64 (n : Int) (IntKind.u64.wrap (2 ^ k)) = ((n ||| 2 ^ k : Nat) : Int) := by
  have h1 : (2 : Nat) ^ k ≤ 2 ^ 63 := Nat.pow_le_pow_right (by omega) hk
  have h2 : ((2 ^ k : Nat) : Int) = (2 : Int) ^ k := by simp
  have h3 : IntKind.u64.wrap (2 ^ k) = 2 ^ k := by
    rw [IntKind.wrap_u64, ← h2]
    generalize (2 : Nat) ^ k = z at *
    omega
  rw [h3]
  exact bit_or n k hn hk
set_option maxRecDepth 100000 in
set_option maxHeartbeats 4000000 in
theorem fill_a (s : St) (kid : Int) (w : World) (hk : -1 ≤ kid ∧ kid ≤ 63) (h3 : (s.pl == 3) = true → (kid == -1) = true) : Calls Tryz.prog 217 #[stv s, .int .i64 kid] w fun e w' => e = .returned (.tuple #[stv (fillP s kid).1, .bool (fillP s kid).2]) ∧ Below w.heap.size w w' := by
  obtain ⟨B2, K1, K2, hz⟩ := box2f_ok w s
  obtain ⟨w2, hw2⟩ : ∃ wx, box2f w s = wx := ⟨_, rfl⟩
  rw [hw2] at B2 K1 K2 hz
  have HB2 := hide_ B2
  have HK1 := hide_ K1
  have HK2 := hide_ K2
  obtain ⟨c0, c1, c2, c3, c4, c5, c6⟩ := K1.cs
  obtain ⟨d0, d1, d2, d3, d4, d5, d6⟩ := K2.cs
  have fr1 := fun i => K1.frozen i
  have fr2 := fun i => K2.frozen i
  unfold noF at c0 c1 c2 c3 c4 c5 c6
  dsimp only at c0 c1 c2 c3 c4 c5 c6
  unfold box2f box2 at hw2
  obtain ⟨r, hr⟩ : ∃ r, fillP s kid = r := ⟨_, rfl⟩
  rw [hr]
  have Hr := hide_ hr
  clear hr B2 K1 K2
  obtain ⟨rs, hrs⟩ : ∃ y, stv r.1 = y := ⟨_, rfl⟩
  rw [hrs]
  have Hrs := hide_ hrs
  clear hrs
  have H3 := hide_ h3
  clear h3
  unfold stv
  go_enter Tryz.func217, Tryz.ntmps217
  go_upto_region 3 with fail
  try rw [hw2]
  clear hw2
  by_cases g2 : s.pl = 2
  · by_cases gk : kid = -1
    · have E : Hid (r = (⟨5, s.ki, s.tb, s.pa, 0, s.le, s.su⟩, true)) := hide_ (by rw [← Hr.out]; unfold fillP; simp [noF, g2, gk])
      have f0 : (s.pl == 2) = true := by simp [g2, gk]
      have f1 : (kid != -1) = false := by simp [g2, gk]
      clear g2 gk
      go_wp2_with fail
      refine retSb rfl ⟨5, s.ki, s.tb, s.pa, 0, s.le, s.su⟩ rfl rfl (Blk.putS (HK2.out.other _ _ (by simp)) ⟨5, s.ki, s.tb, s.pa, 0, s.le, s.su⟩) ?_
      exact ⟨by (rw [← Hrs.out, E.out]; rfl), below_putS (below_set HB2.out _ _ _ (Nat.le_refl _)) _ ⟨5, s.ki, s.tb, s.pa, 0, s.le, s.su⟩ (by omega)⟩
    · have E : Hid (r = (noF s, false)) := hide_ (by rw [← Hr.out]; unfold fillP; simp [noF, g2, gk])
      have f0 : (s.pl == 2) = true := by simp [g2, gk]
      have f1 : (kid != -1) = true := by simp [g2, gk]
      clear g2 gk
      go_wp2_with fail
      refine retSb rfl (noF s) rfl rfl (HK2.out.putS (noF s)) ?_
      exact ⟨by (rw [← Hrs.out, E.out]; rfl), below_putS HB2.out _ (noF s) (by omega)⟩
  by_cases g4 : s.pl = 4
  · by_cases gk : 0 < kid
    · have E : Hid (r = (noF s, false)) := hide_ (by rw [← Hr.out]; unfold fillP; simp [noF, g4, gk])
      have f0 : (s.pl == 2) = false := by simp [g4, gk]
      have f1 : (s.pl == 4) = true := by simp [g4, gk]
      have f2 : (decide (0 < kid)) = true := by simp [g4, gk]
      clear g4 gk
      go_wp2_with fail
      refine retSb rfl (noF s) rfl rfl (HK2.out.putS (noF s)) ?_
      exact ⟨by (rw [← Hrs.out, E.out]; rfl), below_putS HB2.out _ (noF s) (by omega)⟩
    · have E : Hid (r = (⟨5, s.ki, s.tb, s.pa, 0, s.le, s.su⟩, true)) := hide_ (by rw [← Hr.out]; unfold fillP; simp [noF, g4, gk])
      have f0 : (s.pl == 2) = false := by simp [g4, gk]
      have f1 : (s.pl == 4) = true := by simp [g4, gk]
      have f2 : (decide (0 < kid)) = false := by simp [g4, gk]
      clear g4 gk
      go_wp2_with fail
      refine retSb rfl ⟨5, s.ki, s.tb, s.pa, 0, s.le, s.su⟩ rfl rfl (Blk.putS (HK2.out.other _ _ (by simp)) ⟨5, s.ki, s.tb, s.pa, 0, s.le, s.su⟩) ?_
      exact ⟨by (rw [← Hrs.out, E.out]; rfl), below_putS (below_set HB2.out _ _ _ (Nat.le_refl _)) _ ⟨5, s.ki, s.tb, s.pa, 0, s.le, s.su⟩ (by omega)⟩
  by_cases g1 : s.pl = 1
  · by_cases gk : kid = -1
    · by_cases ga : s.fr = 1
      · have E : Hid (r = (noF s, true)) := hide_ (by rw [← Hr.out]; unfold fillP; simp [noF, g1, gk, ga])
        have f0 : (s.pl == 2) = false := by simp [g1, gk, ga]
        have f1 : (s.pl == 4) = false := by simp [g1, gk, ga]
        have f2 : (s.pl == 1) = true := by simp [g1, gk, ga]
        have f3 : (kid == -1) = true := by simp [g1, gk, ga]
        have f4 : (s.fr == 1) = true := by simp [g1, gk, ga]
        clear g1 gk ga
        go_wp2_with fail
        refine retSb rfl (noF s) rfl rfl (HK2.out.putS (noF s)) ?_
        exact ⟨by (rw [← Hrs.out, E.out]; rfl), below_putS HB2.out _ (noF s) (by omega)⟩
      by_cases gb : s.fr = 2
      · have E : Hid (r = (noF s, true)) := hide_ (by rw [← Hr.out]; unfold fillP; simp [noF, g1, gk, ga, gb])
        have f0 : (s.pl == 2) = false := by simp [g1, gk, ga, gb]
        have f1 : (s.pl == 4) = false := by simp [g1, gk, ga, gb]
        have f2 : (s.pl == 1) = true := by simp [g1, gk, ga, gb]
        have f3 : (kid == -1) = true := by simp [g1, gk, ga, gb]
        have f4 : (s.fr == 1) = false := by simp [g1, gk, ga, gb]
        have f5 : (s.fr == 2) = true := by simp [g1, gk, ga, gb]
        clear g1 gk ga gb
        go_wp2_with fail
        refine retSb rfl (noF s) rfl rfl (HK2.out.putS (noF s)) ?_
        exact ⟨by (rw [← Hrs.out, E.out]; rfl), below_putS HB2.out _ (noF s) (by omega)⟩
      · have E : Hid (r = (noF s, false)) := hide_ (by rw [← Hr.out]; unfold fillP; simp [noF, g1, gk, ga, gb])
        have f0 : (s.pl == 2) = false := by simp [g1, gk, ga, gb]
        have f1 : (s.pl == 4) = false := by simp [g1, gk, ga, gb]
        have f2 : (s.pl == 1) = true := by simp [g1, gk, ga, gb]
        have f3 : (kid == -1) = true := by simp [g1, gk, ga, gb]
        have f4 : (s.fr == 1) = false := by simp [g1, gk, ga, gb]
        have f5 : (s.fr == 2) = false := by simp [g1, gk, ga, gb]
        clear g1 gk ga gb
        go_wp2_with fail
        refine retSb rfl (noF s) rfl rfl (HK2.out.putS (noF s)) ?_
        exact ⟨by (rw [← Hrs.out, E.out]; rfl), below_putS HB2.out _ (noF s) (by omega)⟩
    · have E : Hid (r = (noF s, false)) := hide_ (by rw [← Hr.out]; unfold fillP; simp [noF, g1, gk])
      have f0 : (s.pl == 2) = false := by simp [g1, gk]
      have f1 : (s.pl == 4) = false := by simp [g1, gk]
      have f2 : (s.pl == 1) = true := by simp [g1, gk]
      have f3 : (kid == -1) = false := by simp [g1, gk]
      clear g1 gk
      go_wp2_with fail
      refine retSb rfl (noF s) rfl rfl (HK2.out.putS (noF s)) ?_
      exact ⟨by (rw [← Hrs.out, E.out]; rfl), below_putS HB2.out _ (noF s) (by omega)⟩
  by_cases g3 : s.pl = 3
  · have gk : kid = -1 := by have := H3.out (by simpa using g3); simpa using this
    have E : Hid (r = (noF s, false)) := hide_ (by rw [← Hr.out]; unfold fillP; simp [noF, g3, gk])
    have f0 : (s.pl == 2) = false := by simp [g3, gk]
    have f1 : (s.pl == 4) = false := by simp [g3, gk]
    have f2 : (s.pl == 1) = false := by simp [g3, gk]
    have f3 : (s.pl == 3) = true := by simp [g3, gk]
    have f4 : (kid == -1) = true := by simp [g3, gk]
    clear g3 gk
    go_wp2_with fail
    refine retSb rfl (noF s) rfl rfl (HK2.out.putS (noF s)) ?_
    exact ⟨by (rw [← Hrs.out, E.out]; rfl), below_putS HB2.out _ (noF s) (by omega)⟩
  · have E : Hid (r = (noF s, false)) := hide_ (by rw [← Hr.out]; unfold fillP; simp [noF, g2, g4, g1, g3])
    have f0 : (s.pl == 2) = false := by simp [g2, g4, g1, g3]
    have f1 : (s.pl == 4) = false := by simp [g2, g4, g1, g3]
    have f2 : (s.pl == 1) = false := by simp [g2, g4, g1, g3]
    have f3 : (s.pl == 3) = false := by simp [g2, g4, g1, g3]
    clear g2 g4 g1 g3
    go_wp2_with fail
    refine retSb rfl (noF s) rfl rfl (HK2.out.putS (noF s)) ?_
    exact ⟨by (rw [← Hrs.out, E.out]; rfl), below_putS HB2.out _ (noF s) (by omega)⟩
set_option maxRecDepth 100000 in
set_option maxHeartbeats 4000000 in
theorem fill_b (s : St) (k : Nat) (w : World) (hk : k ≤ 63) (h3 : s.pl = 3) (hs : s.ki < 18446744073709551616) : Calls Tryz.prog 217 #[stv s, .int .i64 (k : Int)] w fun e w' => e = .returned (.tuple #[stv (fillP s (k : Int)).1, .bool (fillP s (k : Int)).2]) ∧ Below w.heap.size w w' := by
  obtain ⟨kid, hkid⟩ : ∃ y : Int, (k : Int) = y := ⟨_, rfl⟩
  rw [hkid]
  obtain ⟨B2, K1, K2, hz⟩ := box2f_ok w s
  obtain ⟨w2, hw2⟩ : ∃ wx, box2f w s = wx := ⟨_, rfl⟩
  rw [hw2] at B2 K1 K2 hz
  have HB2 := hide_ B2
  have HK1 := hide_ K1
  have HK2 := hide_ K2
  obtain ⟨c0, c1, c2, c3, c4, c5, c6⟩ := K1.cs
  obtain ⟨d0, d1, d2, d3, d4, d5, d6⟩ := K2.cs
  have fr1 := fun i => K1.frozen i
  have fr2 := fun i => K2.frozen i
  unfold noF at c0 c1 c2 c3 c4 c5 c6
  dsimp only at c0 c1 c2 c3 c4 c5 c6
  unfold box2f box2 at hw2
  obtain ⟨r, hr⟩ : ∃ r, fillP s kid = r := ⟨_, rfl⟩
  rw [hr]
  have Hr := hide_ hr
  clear hr B2 K1 K2
  obtain ⟨rs, hrs⟩ : ∃ y, stv r.1 = y := ⟨_, rfl⟩
  rw [hrs]
  have Hrs := hide_ hrs
  clear hrs
  have hA := bit_1 s.ki k hs
  obtain ⟨n2, hn2⟩ : ∃ n2 : Nat, s.ki ||| 2 ^ k = n2 := ⟨_, rfl⟩
  have hO := bit_orw s.ki k hs hk
  rw [hn2] at hO
  have Hn2 := hide_ hn2
  clear hn2
  have htn : kid.toNat = k := by omega
  have Hkid := hide_ hkid
  have f2 : (s.pl == 2) = false := by simp [h3]
  have f4 : (s.pl == 4) = false := by simp [h3]
  have f1 : (s.pl == 1) = false := by simp [h3]
  have f3 : (s.pl == 3) = true := by simp [h3]
  have fk : (kid == -1) = false := by simp; omega
  have hk0 : 0 ≤ kid := by omega
  have hk63 : kid ≤ 63 := by omega
  have H3 := hide_ h3
  clear h3 hkid
  unfold stv
  go_enter Tryz.func217, Tryz.ntmps217
  go_upto_region 3 with fail
  try rw [hw2]
  clear hw2
  cases hb : s.ki.testBit k
  · rw [hb] at hA
    have hA : bits BinOp.and IntKind.u64 ((s.ki : Int) / 2 ^ k) 1 = 0 := by simpa using hA
    have e : r = (⟨3, n2, s.tb, s.pa, 0, s.le, s.su⟩, true) := by
      rw [← Hr.out, ← Hkid.out, ← Hn2.out]; unfold fillP; simp [H3.out, hb]
    have E := hide_ e
    clear e hb
    go_wp2_with fail
    go_region
    all_goals
      go_wp2
      refine retSb rfl ⟨s.pl, n2, s.tb, s.pa, 0, s.le, s.su⟩ rfl rfl (Blk.drew (Blk.putS (HK2.out.other _ _ (by simp)) ⟨s.pl, n2, s.tb, s.pa, 0, s.le, s.su⟩)) ?_
      exact ⟨by (rw [← Hrs.out, E.out, H3.out]; rfl), (below_putS (below_set HB2.out _ _ _ (Nat.le_refl _)) _ ⟨s.pl, n2, s.tb, s.pa, 0, s.le, s.su⟩ (by omega)).drew⟩
  · rw [hb] at hA
    have hA : bits BinOp.and IntKind.u64 ((s.ki : Int) / 2 ^ k) 1 = 1 := by simpa using hA
    have e : r = (⟨3, s.ki, s.tb, s.pa, 0, s.le, s.su⟩, false) := by
      rw [← Hr.out, ← Hkid.out]; unfold fillP; simp [H3.out, hb]
    have E := hide_ e
    clear e hb
    go_wp2_with fail
    refine retSb rfl (noF s) rfl rfl (HK2.out.putS (noF s)) ?_
    refine ⟨?_, below_putS HB2.out _ (noF s) (by omega)⟩
    rw [← Hrs.out, E.out]
    unfold noF
    rw [H3.out]
    rfl
theorem fill_any (s : St) (kid : Int) (w : World) (hk : -1 ≤ kid ∧ kid ≤ 63) (hs : s.ki < 18446744073709551616) : Calls Tryz.prog 217 #[stv s, .int .i64 kid] w fun e w' => e = .returned (.tuple #[stv (fillP s kid).1, .bool (fillP s kid).2]) ∧ Below w.heap.size w w' := by
  by_cases h3 : s.pl = 3
  · by_cases hm : kid = -1
    · exact fill_a s kid w hk (fun _ => by simpa using hm)
    · obtain ⟨k, rfl⟩ : ∃ k : Nat, kid = (k : Int) := ⟨kid.toNat, by omega⟩
      exact fill_b s k w (by omega) h3 hs
  · exact fill_a s kid w hk (fun h => absurd (by simpa using h) h3)
theorem fillP_ki (s : St) (kid : Int) (hk : -1 ≤ kid ∧ kid ≤ 63) (hs : s.ki < 18446744073709551616) : (fillP s kid).1.ki < 18446744073709551616 := by
  unfold fillP
  split
  · split <;> exact hs
  split
  · split <;> exact hs
  split
  · exact hs
  split
  · split
    · exact hs
    · exact or_lt _ _ hs (by omega)
  · exact hs
end Go.Proofs.YtiojpohmgjdgfaaGreat

/- sound: hasPosition, isWhole, tableBehind, foundFree. -/
namespace Go.Proofs.YtiojpohmgjdgfaaGreat
open Go.RowKit
set_option linter.unusedVariables false
set_option linter.unusedSimpArgs false

def box1 (w : World) (s : St) : World := w.alloc (.cells #[.int .i64 s.pl, .int .u64 (s.ki : Int), .int .i64 s.tb, .int .i64 s.pa, .int .i64 s.fr, .int .i64 s.le, .bool s.su] 126)
theorem box1_ok (w : World) (s : St) : Below w.heap.size w (box1 w s) ∧ Blk (box1 w s) w.heap.size 126 (stc s) := ⟨below1 _ _, Blk.newA w _ _⟩
set_option maxRecDepth 100000 in
set_option maxHeartbeats 4000000 in
theorem hasP_any (s : St) (f : Int) (w : World) : Calls Tryz.prog 222 #[stv s, .int .i64 f] w fun e w' => e = .returned (.bool (hasP s f)) ∧ Below w.heap.size w w' := by
  obtain ⟨B2, K1⟩ := box1_ok w s
  obtain ⟨w2, hw2⟩ : ∃ wx, box1 w s = wx := ⟨_, rfl⟩
  rw [hw2] at B2 K1
  have HB2 := hide_ B2
  obtain ⟨c0, c1, c2, c3, c4, c5, c6⟩ := K1.cs
  unfold box1 at hw2
  obtain ⟨b, hb⟩ : ∃ b, hasP s f = b := ⟨_, rfl⟩
  rw [hb]
  have Hb := hide_ hb
  clear B2 K1 hb
  unfold stv
  go_enter Tryz.func222, Tryz.ntmps222
  go_upto_region 1 with fail
  try rw [hw2]
  clear hw2
  go_wp2_with fail
  all_goals
    go_ret
    refine ⟨?_, HB2.out⟩
    rw [← Hb.out]
    unfold hasP
    simp only [beq_iff_eq, beq_eq_false_iff_ne, bne_iff_ne, bne_eq_false_iff_eq, ne_eq, Bool.not_eq_true] at *
    repeat (first | rw [if_pos (by omega)] | rw [if_neg (by omega)])
    first | rfl | (congr 2; simp; omega) | (congr 2; simp_all; done)
set_option maxRecDepth 100000 in
set_option maxHeartbeats 4000000 in
theorem wholeP_any (s : St) (w : World) (hs : s.ki < 18446744073709551616) : Calls Tryz.prog 223 #[stv s] w fun e w' => e = .returned (.bool (wholeP s)) ∧ Below w.heap.size w w' := by
  obtain ⟨B2, K1⟩ := box1_ok w s
  obtain ⟨w2, hw2⟩ : ∃ wx, box1 w s = wx := ⟨_, rfl⟩
  rw [hw2] at B2 K1
  have HB2 := hide_ B2
  obtain ⟨c0, c1, c2, c3, c4, c5, c6⟩ := K1.cs
  unfold box1 at hw2
  obtain ⟨m, hm⟩ : ∃ m : Nat, s.ki &&& (s.ki + 1) % 18446744073709551616 = m := ⟨_, rfl⟩
  have hA : bits .and .u64 (s.ki : Int) (IntKind.u64.wrap ((s.ki : Int) + 1)) = (m : Int) := by
    have h1 : IntKind.u64.wrap ((s.ki : Int) + 1) = (((s.ki + 1) % 18446744073709551616 : Nat) : Int) := by rw [IntKind.wrap_u64]; omega
    rw [h1, bits_and_u64_nat _ _ hs (by omega), hm]
  obtain ⟨b, hb⟩ : ∃ b, wholeP s = b := ⟨_, rfl⟩
  rw [hb]
  unfold wholeP at hb
  rw [hm] at hb
  have Hb := hide_ hb
  clear B2 K1 hb hm
  unfold stv
  go_enter Tryz.func223, Tryz.ntmps223
  go_upto_region 1 with fail
  try rw [hw2]
  clear hw2
  go_wp2_with fail
  all_goals
    go_ret
    refine ⟨?_, HB2.out⟩
    rw [← Hb.out]
    clear hA Hb HB2 c0 c1 c2 c3 c4 c5 c6
    simp only [beq_iff_eq, beq_eq_false_iff_ne, bne_iff_ne, bne_eq_false_iff_eq, ne_eq, Bool.not_eq_true] at *
    repeat (first | rw [if_pos (by omega)] | rw [if_neg (by omega)])
    first | rfl | (show Ending.returned (Value.bool (((s.ki : Int) != 0) && ((m : Int) == 0))) = _; congr 2; rw [Bool.eq_iff_iff]; simp; done) | (congr 2; simp; omega) | (congr 2; simp_all; done)
def box3b (w : World) (s : St) (x : In) : World := (w.alloc (.cells #[.int .i64 s.pl, .int .u64 (s.ki : Int), .int .i64 s.tb, .int .i64 s.pa, .int .i64 s.fr, .int .i64 s.le, .bool s.su] 126)).alloc (.cells #[.int .i64 x.op, .int .i64 x.a, .int .i64 x.b, .int .i64 x.c] 43)
theorem box3b_ok (w : World) (s : St) (x : In) : Below w.heap.size w (box3b w s x) ∧ Blk (box3b w s x) w.heap.size 126 (stc s) ∧ Blk (box3b w s x) (w.heap.size + 1) 43 (inc x) := ⟨below2 _ _ _, (blk2 w _ _ _ _).1, (blk2 w _ _ _ _).2⟩
set_option maxRecDepth 100000 in
set_option maxHeartbeats 4000000 in
theorem tabP_any (s : St) (x : In) (way : Int) (w : World) (hs : -1 ≤ s.tb ∧ s.tb ≤ 100000000) : Calls Tryz.prog 219 #[stv s, inv x, .int .i64 way] w fun e w' => e = .returned (.int .i64 (tabP s x way)) ∧ Below w.heap.size w w' := by
  obtain ⟨B2, K1, KX⟩ := box3b_ok w s x
  obtain ⟨w2, hw2⟩ : ∃ wx, box3b w s x = wx := ⟨_, rfl⟩
  rw [hw2] at B2 K1 KX
  have HB2 := hide_ B2
  obtain ⟨c0, c1, c2, c3, c4, c5, c6⟩ := K1.cs
  obtain ⟨i0, i1, i2, i3⟩ := KX.ci
  unfold box3b at hw2
  obtain ⟨b, hb⟩ : ∃ b, tabP s x way = b := ⟨_, rfl⟩
  rw [hb]
  have Hb := hide_ hb
  obtain ⟨hs1, hs2⟩ := hs
  clear B2 K1 KX hb
  unfold stv inv
  go_enter Tryz.func219, Tryz.ntmps219
  go_upto_region 1 with fail
  try rw [hw2]
  clear hw2
  go_wp2_with fail
  all_goals
    go_ret
    refine ⟨?_, HB2.out⟩
    rw [← Hb.out]
    unfold tabP
    simp only [beq_iff_eq, beq_eq_false_iff_ne, bne_iff_ne, bne_eq_false_iff_eq, ne_eq, Bool.not_eq_true] at *
    repeat (first | rw [if_pos (by omega)] | rw [if_neg (by omega)])
    first | rfl | trace_state
def box1i (w : World) (x : In) : World := w.alloc (.cells #[.int .i64 x.op, .int .i64 x.a, .int .i64 x.b, .int .i64 x.c] 43)
set_option maxRecDepth 100000 in
set_option maxHeartbeats 4000000 in
theorem freeP_any (x : In) (way : Int) (w : World) : Calls Tryz.prog 220 #[inv x, .int .i64 way] w fun e w' => e = .returned (.int .i64 (freeP x way)) ∧ Below w.heap.size w w' := by
  have B2 : Below w.heap.size w (box1i w x) := below1 _ _
  have KX : Blk (box1i w x) w.heap.size 43 (inc x) := Blk.newA w _ _
  obtain ⟨w2, hw2⟩ : ∃ wx, box1i w x = wx := ⟨_, rfl⟩
  rw [hw2] at B2 KX
  have HB2 := hide_ B2
  obtain ⟨i0, i1, i2, i3⟩ := KX.ci
  unfold box1i at hw2
  obtain ⟨b, hb⟩ : ∃ b, freeP x way = b := ⟨_, rfl⟩
  rw [hb]
  have Hb := hide_ hb
  clear B2 KX hb
  unfold inv
  go_enter Tryz.func220, Tryz.ntmps220
  go_upto_region 1 with fail
  try rw [hw2]
  clear hw2
  go_wp2_with fail
  all_goals
    go_ret
    refine ⟨?_, HB2.out⟩
    rw [← Hb.out]
    unfold freeP
    simp only [beq_iff_eq, beq_eq_false_iff_ne, bne_iff_ne, bne_eq_false_iff_eq, ne_eq, Bool.not_eq_true] at *
    repeat (first | rw [if_pos (by omega)] | rw [if_neg (by omega)])
    first | rfl | trace_state
end Go.Proofs.YtiojpohmgjdgfaaGreat

/- sound: fillRun. -/
namespace Go.Proofs.YtiojpohmgjdgfaaGreat
open Go.RowKit
set_option linter.unusedVariables false
set_option linter.unusedSimpArgs false

theorem Blk.putO {w : World} {h : Nat} {t : TypeId} {xs : List Value} (k : Blk w h t xs) (g : Nat) (s : St) (e : h ≠ g) : Blk (Go.Proofs.YtiojpohmgjdgfaaGreat.putS w g s) h t xs := by
  unfold Go.Proofs.YtiojpohmgjdgfaaGreat.putS
  exact ((((((k.other _ _ e).other _ _ e).other _ _ e).other _ _ e).other _ _ e).other _ _ e).other _ _ e
theorem fillR_ki : ∀ (n : Nat) (s : St) (kid : Int), -1 ≤ kid → kid + n ≤ 64 → s.ki < 18446744073709551616 → (fillR s kid n).1.ki < 18446744073709551616
  | 0, s, kid, _, _, hs => hs
  | n + 1, s, kid, h1, h2, hs => by
    rw [fillR]
    have hf := fillP_ki s kid ⟨h1, by omega⟩ hs
    split
    · exact fillR_ki n _ _ (by omega) (by omega) hf
    · exact hf
set_option maxRecDepth 100000 in
set_option maxHeartbeats 4000000 in
theorem fillR_any (s : St) (kid : Int) (n : Nat) (w : World) (h1 : -1 ≤ kid) (h2 : kid + n ≤ 64) (hs : s.ki < 18446744073709551616) : Calls Tryz.prog 218 #[stv s, .int .i64 kid, .int .i64 (n : Int)] w fun e w' => e = .returned (.tuple #[stv (fillR s kid n).1, .bool (fillR s kid n).2]) ∧ Below w.heap.size w w' := by
  obtain ⟨B2, K1, K2, hz⟩ := box2_ok w s
  obtain ⟨w2, hw2⟩ : ∃ wx, box2 w s = wx := ⟨_, rfl⟩
  rw [hw2] at B2 K1 K2 hz
  have HB2 := hide_ B2
  have HK1 := hide_ K1
  have HK2 := hide_ K2
  unfold box2 at hw2
  obtain ⟨r, hr⟩ : ∃ r, fillR s kid n = r := ⟨_, rfl⟩
  rw [hr]
  have Hr := hide_ hr
  clear hr B2 K1 K2
  obtain ⟨rs, hrs⟩ : ∃ y, stv r.1 = y := ⟨_, rfl⟩
  rw [hrs]
  have Hrs := hide_ hrs
  have Hki := hide_ hs
  clear hrs hs
  unfold stv
  go_enter Tryz.func218, Tryz.ntmps218
  go_upto_region 1 with fail
  try rw [hw2]
  clear hw2
  go_wp2_with fail
  go_loopw [12] (fun x12 wr => ∃ (k : Nat) (t : St), k ≤ n ∧ x12 = .int .i64 (k : Int) ∧ Hid (t.ki < 18446744073709551616) ∧ Hid (fillR t (kid + k) (n - k) = r) ∧ Hid (Below w.heap.size w wr) ∧ Hid (Blk wr w.heap.size 126 (stc t)) ∧ Hid (Blk wr (w.heap.size + 1) 126 (stc st0)) ∧ w.heap.size + 2 ≤ wr.heap.size) (fun x12 _ => n - (intOf x12).toNat)
  case atStart => exact ⟨0, s, by omega, rfl, Hki, hide_ (by simpa using Hr.out), HB2, HK1, HK2, hz⟩
  case round =>
    clear Hr HB2 HK1 HK2 hz Hki
    obtain ⟨k, t, hkn, rfl, Hki, Hr, HB, HK1, HK2, hz⟩ := hrel
    generalize wr = wq at *
    obtain ⟨c0, c1, c2, c3, c4, c5, c6⟩ := HK1.out.cs
    by_cases hlt : k < n
    · obtain ⟨m, hm⟩ : ∃ m : Nat, n - k = m + 1 := ⟨n - k - 1, by omega⟩
      have hr := Hr.out
      rw [hm, fillR] at hr
      have HF : Hid (∀ w, Calls Tryz.prog 217 #[stv t, .int .i64 (kid + k)] w fun e w' => e = .returned (.tuple #[stv (fillP t (kid + k)).1, .bool (fillP t (kid + k)).2]) ∧ Below w.heap.size w w') := hide_ (fun w => fill_any t _ w ⟨by omega, by omega⟩ Hki.out)
      have Hki2 := hide_ (fillP_ki t (kid + k) ⟨by omega, by omega⟩ Hki.out)
      obtain ⟨t2, b2, hf⟩ : ∃ t2 b2, fillP t (kid + k) = (t2, b2) := ⟨_, _, rfl⟩
      rw [hf] at hr Hki2 HF
      have Hm := hide_ hm
      clear hf hm Hr
      go_wp2_with fail
      unfold stv at HF
      refine (HF.out _).mono ?_
      rintro e w3 ⟨rfl, hB3⟩
      have K1 := HK1.out.later hB3
      have K2 := HK2.out.later hB3
      have HB3 := hide_ (below_to HB.out hB3)
      have hz3 := hB3.size
      obtain ⟨a0, a1, a2, a3, a4, a5, a6⟩ := (K1.alloc (.cells #[.int .i64 t2.pl, .int .u64 (t2.ki : Int), .int .i64 t2.tb, .int .i64 t2.pa, .int .i64 t2.fr, .int .i64 t2.le, .bool t2.su] 126)).cs
      obtain ⟨e0, e1, e2, e3, e4, e5, e6⟩ := (K2.alloc (.cells #[.int .i64 t2.pl, .int .u64 (t2.ki : Int), .int .i64 t2.tb, .int .i64 t2.pa, .int .i64 t2.fr, .int .i64 t2.le, .bool t2.su] 126)).cs
      have z1 := fun i => (K1.alloc (.cells #[.int .i64 t2.pl, .int .u64 (t2.ki : Int), .int .i64 t2.tb, .int .i64 t2.pa, .int .i64 t2.fr, .int .i64 t2.le, .bool t2.su] 126)).frozen i
      have z2 := fun i => (K2.alloc (.cells #[.int .i64 t2.pl, .int .u64 (t2.ki : Int), .int .i64 t2.tb, .int .i64 t2.pa, .int .i64 t2.fr, .int .i64 t2.le, .bool t2.su] 126)).frozen i
      have HL1 := hide_ K1
      have HL2 := hide_ K2
      have HR := hide_ hr
      clear hB3 K1 K2 hr c0 c1 c2 c3 c4 c5 c6 HK1 HK2
      have hz4 : w.heap.size + 2 ≤ w3.heap.size := by omega
      clear hz hz3
      cases b2
      · go_wp2_with fail
        refine retSb rfl t2 rfl rfl (Blk.putS (HL2.out.alloc _) t2) ?_
        have hr := HR.out
        rw [if_neg (by simp)] at hr
        refine ⟨by rw [← Hrs.out, ← hr]; rfl, below_putS (HB3.out.alloc (by omega) _) _ t2 (by omega)⟩
      · have hr := HR.out
        rw [if_pos rfl] at hr
        have HR2 := hide_ hr
        clear HR hr
        go_wp2_with fail
        go_roundw
        case rel =>
          refine ⟨k + 1, t2, by omega, by go_num, Hki2, hide_ ?_, hide_ (below_putS (HB3.out.alloc (by omega) _) _ t2 (Nat.le_refl _)), hide_ (Blk.putS (HL1.out.alloc _) t2), hide_ ?_, ?_⟩
          · have e1 : n - (k + 1) = m := by have := Hm.out; omega
            have e2 : kid + ((k + 1 : Nat) : Int) = kid + k + 1 := by omega
            rw [e1, e2]; exact HR2.out
          · exact (HL2.out.alloc _).putO _ t2 (by omega)
          · simp [putS]; omega
        case measure => simp [intOf]; omega
    · have e0 : k = n := by omega
      have hr := Hr.out
      rw [show n - k = 0 by omega, fillR] at hr
      have HR := hide_ hr
      have hl : ¬ ((k : Int) < (n : Int)) := by omega
      obtain ⟨d0, d1, d2, d3, d4, d5, d6⟩ := HK2.out.cs
      have z2 := fun i => HK2.out.frozen i
      clear hr e0
      go_wp2_with fail
      refine retSb rfl t rfl rfl (HK2.out.putS t) ?_
      exact ⟨by (rw [← Hrs.out, ← HR.out]; rfl), below_putS HB.out _ t (by omega)⟩
end Go.Proofs.YtiojpohmgjdgfaaGreat

/- sound: the decoder's stands: what is asked. -/
namespace Go.Proofs.YtiojpohmgjdgfaaGreat
open Go.RowKit
set_option linter.unusedVariables false
set_option linter.unusedSimpArgs false

/-- What the form says of an instruction's operands. -/
structure DOk (x : In) : Prop where
  kid : x.op = 1 ∨ x.op = 3 ∨ x.op = 4 ∨ x.op = 16 ∨ x.op = 17 → -1 ≤ x.a ∧ x.a ≤ 63
  run : x.op = 2 → -1 ≤ x.a ∧ 0 ≤ x.b ∧ x.a + x.b ≤ 64
end Go.Proofs.YtiojpohmgjdgfaaGreat

/- sound: the decoder's hands: boxes. -/
namespace Go.Proofs.YtiojpohmgjdgfaaGreat
open Go.RowKit
set_option linter.unusedVariables false
set_option linter.unusedSimpArgs false

/-- The boxes of a decoder's hands: the state, the instruction, the answer, what is handed on. -/
def box6 (w : World) (s : St) (x : In) : World := (box4 148 w s x).alloc (.cells #[.int .i64 s.pl, .int .u64 (s.ki : Int), .int .i64 s.tb, .int .i64 s.pa, .int .i64 0, .int .i64 s.le, .bool s.su] 126)
theorem box6_ok (w : World) (s : St) (x : In) : Below w.heap.size w (box6 w s x) ∧ Blk (box6 w s x) (w.heap.size + 1) 126 (stc s) ∧ Blk (box6 w s x) (w.heap.size + 1 + 1) 43 (inc x) ∧ Blk (box6 w s x) (w.heap.size + 1 + 1 + 1) 126 (stc st0) ∧ Blk (box6 w s x) (w.heap.size + 1 + 1 + 1 + 1) 126 (stc (noF s)) ∧ w.heap.size + 5 ≤ (box6 w s x).heap.size := by
  obtain ⟨h1, h2, h3, h4, h5⟩ := box4_ok 148 w s x
  have hsz : (box4 148 w s x).heap.size = w.heap.size + 1 + 1 + 1 + 1 := by simp [box4, box3]
  have h6 := Blk.newA (box4 148 w s x) #[.int .i64 s.pl, .int .u64 (s.ki : Int), .int .i64 s.tb, .int .i64 s.pa, .int .i64 0, .int .i64 s.le, .bool s.su] 126
  rw [hsz] at h6
  refine ⟨h1.alloc (by omega) _, h2.alloc _, h3.alloc _, h4.alloc _, h6, by simp [box6]; omega⟩
end Go.Proofs.YtiojpohmgjdgfaaGreat

/- sound: the decoder's hands. -/
namespace Go.Proofs.YtiojpohmgjdgfaaGreat
open Go.RowKit
set_option linter.unusedVariables false
set_option linter.unusedSimpArgs false

set_option maxRecDepth 100000 in
set_option maxHeartbeats 8000000 in
theorem dhd_19 (s : St) (x : In) (way : Int) (w : World) (hx : DOk x) (hs : s.ki < 18446744073709551616) (ht : -1 ≤ s.tb ∧ s.tb ≤ 100000000) (hp : 0 ≤ s.pa ∧ s.pa ≤ 100000000) (hop : x.op = 19) : Calls Tryz.prog 214 #[.agg #[], stv s, inv x, .int .i64 way] w fun e w' => e = .returned (stv (dHd s x way)) ∧ Below w.heap.size w w' := by
  obtain ⟨B2, K1, KX, K2, K3, hz⟩ := box6_ok w s x
  obtain ⟨w2, hw2⟩ : ∃ wx, box6 w s x = wx := ⟨_, rfl⟩
  rw [hw2] at B2 K1 KX K2 K3 hz
  have HB2 := hide_ B2
  have HK1 := hide_ K1
  have HK2 := hide_ K2
  have HK3 := hide_ K3
  obtain ⟨c0, c1, c2, c3, c4, c5, c6⟩ := K1.cs
  obtain ⟨i0, i1, i2, i3⟩ := KX.ci
  obtain ⟨d0, d1, d2, d3, d4, d5, d6⟩ := K2.cs
  obtain ⟨e0, e1, e2, e3, e4, e5, e6⟩ := K3.cs
  unfold noF at e0 e1 e2 e3 e4 e5 e6
  dsimp only at e0 e1 e2 e3 e4 e5 e6
  have fr1 := fun i => K1.frozen i
  have fr2 := fun i => K2.frozen i
  have fr3 := fun i => K3.frozen i
  unfold box6 box4 box3 at hw2
  obtain ⟨r, hr⟩ : ∃ r, dHd s x way = r := ⟨_, rfl⟩
  rw [hr]
  have Hr := hide_ hr
  obtain ⟨rs, hrs⟩ : ∃ y, stv r = y := ⟨_, rfl⟩
  rw [hrs]
  have Hrs := hide_ hrs
  have Hop := hide_ hop
  obtain ⟨hp1, hp2⟩ := hp
  clear B2 K1 KX K2 K3 hx hs hr hrs ht hop
  unfold stv inv
  go_enter Tryz.func214, Tryz.ntmps214
  go_upto_region 3 with fail
  try rw [hw2]
  clear hw2
  rw [Hop.out] at i0
  have E : Hid (r = s) := hide_ (by rw [← Hr.out]; unfold dHd; first | (simp [noF, Hop.out]; done) | (have := Hop.out; repeat (first | rw [if_pos (by omega)] | rw [if_neg (by omega)])))
  go_wp2_with fail
  refine retSt rfl s rfl (Blk.putS HK2.out s) ?_
  exact ⟨by (rw [← Hrs.out, E.out]; try rfl), below_putS HB2.out _ s (by omega)⟩
set_option maxRecDepth 100000 in
set_option maxHeartbeats 8000000 in
theorem dhd_17 (s : St) (x : In) (way : Int) (w : World) (hx : DOk x) (hs : s.ki < 18446744073709551616) (ht : -1 ≤ s.tb ∧ s.tb ≤ 100000000) (hp : 0 ≤ s.pa ∧ s.pa ≤ 100000000) (hop : x.op = 17) : Calls Tryz.prog 214 #[.agg #[], stv s, inv x, .int .i64 way] w fun e w' => e = .returned (stv (dHd s x way)) ∧ Below w.heap.size w w' := by
  obtain ⟨B2, K1, KX, K2, K3, hz⟩ := box6_ok w s x
  obtain ⟨w2, hw2⟩ : ∃ wx, box6 w s x = wx := ⟨_, rfl⟩
  rw [hw2] at B2 K1 KX K2 K3 hz
  have HB2 := hide_ B2
  have HK1 := hide_ K1
  have HK2 := hide_ K2
  have HK3 := hide_ K3
  obtain ⟨c0, c1, c2, c3, c4, c5, c6⟩ := K1.cs
  obtain ⟨i0, i1, i2, i3⟩ := KX.ci
  obtain ⟨d0, d1, d2, d3, d4, d5, d6⟩ := K2.cs
  obtain ⟨e0, e1, e2, e3, e4, e5, e6⟩ := K3.cs
  unfold noF at e0 e1 e2 e3 e4 e5 e6
  dsimp only at e0 e1 e2 e3 e4 e5 e6
  have fr1 := fun i => K1.frozen i
  have fr2 := fun i => K2.frozen i
  have fr3 := fun i => K3.frozen i
  unfold box6 box4 box3 at hw2
  have HF : Hid (∀ w, Calls Tryz.prog 217 #[stv ⟨s.pl, s.ki, s.tb, s.pa + 1, s.fr, s.le, s.su⟩, .int .i64 x.a] w fun e w' => e = .returned (.tuple #[stv (fillP ⟨s.pl, s.ki, s.tb, s.pa + 1, s.fr, s.le, s.su⟩ x.a).1, .bool (fillP ⟨s.pl, s.ki, s.tb, s.pa + 1, s.fr, s.le, s.su⟩ x.a).2]) ∧ Below w.heap.size w w') := hide_ (fun w => fill_any ⟨s.pl, s.ki, s.tb, s.pa + 1, s.fr, s.le, s.su⟩ x.a w (hx.kid (by omega)) hs)
  obtain ⟨r, hr⟩ : ∃ r, dHd s x way = r := ⟨_, rfl⟩
  rw [hr]
  have Hr := hide_ hr
  obtain ⟨rs, hrs⟩ : ∃ y, stv r = y := ⟨_, rfl⟩
  rw [hrs]
  have Hrs := hide_ hrs
  have Hop := hide_ hop
  obtain ⟨hp1, hp2⟩ := hp
  clear B2 K1 KX K2 K3 hx hs hr hrs ht hop
  unfold stv inv
  go_enter Tryz.func214, Tryz.ntmps214
  go_upto_region 3 with fail
  try rw [hw2]
  clear hw2
  rw [Hop.out] at i0
  by_cases ga : x.a = -1
  · have E : Hid (r = noF s) := hide_ (by rw [← Hr.out]; unfold dHd; first | (simp [noF, Hop.out, ga]; done) | (have := Hop.out; repeat (first | rw [if_pos (by omega)] | rw [if_neg (by omega)])))
    have g0 : (x.a == -1) = true := by first | (simp [ga]; done) | (simp; omega)
    have Hga := hide_ ga
    clear ga
    go_wp2_with fail
    refine retSt rfl (noF s) rfl (Blk.putS HK2.out (noF s)) ?_
    exact ⟨by (rw [← Hrs.out, E.out]; try rfl), below_putS HB2.out _ (noF s) (by omega)⟩
  · have E : Hid (r = (fillP ⟨s.pl, s.ki, s.tb, s.pa + 1, s.fr, s.le, s.su⟩ x.a).1) := hide_ (by rw [← Hr.out]; unfold dHd; first | (simp [noF, Hop.out, ga]; done) | (have := Hop.out; repeat (first | rw [if_pos (by omega)] | rw [if_neg (by omega)])))
    have g0 : (x.a == -1) = false := by first | (simp [ga]; done) | (simp; omega)
    have Hga := hide_ ga
    clear ga
    go_wp2_with fail
    refine (HF.out _).mono ?_
    rintro e w3 ⟨rfl, hB3⟩
    have L2 := Blk.later (HK2.out.other _ _ (by first | (simp; done) | (simp; omega))) hB3
    have L3 := Blk.later (HK3.out.other _ _ (by first | (simp; done) | (simp; omega))) hB3
    have HB3 := hide_ (below_to (below_set HB2.out _ _ _ (by omega)) hB3)
    have hsz := hB3.size
    clear hB3 c0 c1 c2 c3 c4 c5 c6 d0 d1 d2 d3 d4 d5 d6 e0 e1 e2 e3 e4 e5 e6 fr1 fr2 fr3
    obtain ⟨d0, d1, d2, d3, d4, d5, d6⟩ := L2.cs
    obtain ⟨e0, e1, e2, e3, e4, e5, e6⟩ := L3.cs
    have fr2 := fun i => L2.frozen i
    have fr3 := fun i => L3.frozen i
    have HL2 := hide_ L2
    clear L2 L3
    obtain ⟨f, hf⟩ : ∃ f, (fillP ⟨s.pl, s.ki, s.tb, s.pa + 1, s.fr, s.le, s.su⟩ x.a).1 = f := ⟨_, rfl⟩
    rw [hf]
    have Hf := hide_ hf
    clear hf
    unfold stv
    go_wp2
    refine retSt rfl f rfl (Blk.putS (HL2.out.putO _ f (by omega)) f) ?_
    exact ⟨by (rw [← Hrs.out, E.out, Hf.out]; try rfl), below_putS (below_putS HB3.out _ f (by omega)) _ f (by omega)⟩
set_option maxRecDepth 100000 in
set_option maxHeartbeats 8000000 in
theorem dhd_5 (s : St) (x : In) (way : Int) (w : World) (hx : DOk x) (hs : s.ki < 18446744073709551616) (ht : -1 ≤ s.tb ∧ s.tb ≤ 100000000) (hp : 0 ≤ s.pa ∧ s.pa ≤ 100000000) (hop : x.op = 5) : Calls Tryz.prog 214 #[.agg #[], stv s, inv x, .int .i64 way] w fun e w' => e = .returned (stv (dHd s x way)) ∧ Below w.heap.size w w' := by
  obtain ⟨B2, K1, KX, K2, K3, hz⟩ := box6_ok w s x
  obtain ⟨w2, hw2⟩ : ∃ wx, box6 w s x = wx := ⟨_, rfl⟩
  rw [hw2] at B2 K1 KX K2 K3 hz
  have HB2 := hide_ B2
  have HK1 := hide_ K1
  have HK2 := hide_ K2
  have HK3 := hide_ K3
  obtain ⟨c0, c1, c2, c3, c4, c5, c6⟩ := K1.cs
  obtain ⟨i0, i1, i2, i3⟩ := KX.ci
  obtain ⟨d0, d1, d2, d3, d4, d5, d6⟩ := K2.cs
  obtain ⟨e0, e1, e2, e3, e4, e5, e6⟩ := K3.cs
  unfold noF at e0 e1 e2 e3 e4 e5 e6
  dsimp only at e0 e1 e2 e3 e4 e5 e6
  have fr1 := fun i => K1.frozen i
  have fr2 := fun i => K2.frozen i
  have fr3 := fun i => K3.frozen i
  unfold box6 box4 box3 at hw2
  obtain ⟨r, hr⟩ : ∃ r, dHd s x way = r := ⟨_, rfl⟩
  rw [hr]
  have Hr := hide_ hr
  obtain ⟨rs, hrs⟩ : ∃ y, stv r = y := ⟨_, rfl⟩
  rw [hrs]
  have Hrs := hide_ hrs
  have Hop := hide_ hop
  obtain ⟨hp1, hp2⟩ := hp
  clear B2 K1 KX K2 K3 hx hs hr hrs ht hop
  unfold stv inv
  go_enter Tryz.func214, Tryz.ntmps214
  go_upto_region 3 with fail
  try rw [hw2]
  clear hw2
  rw [Hop.out] at i0
  have E : Hid (r = ⟨1, 0, s.tb, s.pa, 1, s.le, s.su⟩) := hide_ (by rw [← Hr.out]; unfold dHd; first | (simp [noF, Hop.out]; done) | (have := Hop.out; repeat (first | rw [if_pos (by omega)] | rw [if_neg (by omega)])))
  go_wp2_with fail
  refine retSt rfl ⟨1, 0, s.tb, s.pa, 1, s.le, s.su⟩ rfl (Blk.putS (((HK2.out.other _ _ (by first | (simp; done) | (simp; omega))).other _ _ (by first | (simp; done) | (simp; omega))).other _ _ (by first | (simp; done) | (simp; omega))) ⟨1, 0, s.tb, s.pa, 1, s.le, s.su⟩) ?_
  exact ⟨by (rw [← Hrs.out, E.out]; try rfl), below_putS (below_set (below_set (below_set HB2.out _ _ _ (by omega)) _ _ _ (by omega)) _ _ _ (by omega)) _ ⟨1, 0, s.tb, s.pa, 1, s.le, s.su⟩ (by omega)⟩
end Go.Proofs.YtiojpohmgjdgfaaGreat

/- sound: the decoder's hands. -/
namespace Go.Proofs.YtiojpohmgjdgfaaGreat
open Go.RowKit
set_option linter.unusedVariables false
set_option linter.unusedSimpArgs false

set_option maxRecDepth 100000 in
set_option maxHeartbeats 8000000 in
theorem dhd_1 (s : St) (x : In) (way : Int) (w : World) (hx : DOk x) (hs : s.ki < 18446744073709551616) (ht : -1 ≤ s.tb ∧ s.tb ≤ 100000000) (hp : 0 ≤ s.pa ∧ s.pa ≤ 100000000) (hop : x.op = 1) : Calls Tryz.prog 214 #[.agg #[], stv s, inv x, .int .i64 way] w fun e w' => e = .returned (stv (dHd s x way)) ∧ Below w.heap.size w w' := by
  obtain ⟨B2, K1, KX, K2, K3, hz⟩ := box6_ok w s x
  obtain ⟨w2, hw2⟩ : ∃ wx, box6 w s x = wx := ⟨_, rfl⟩
  rw [hw2] at B2 K1 KX K2 K3 hz
  have HB2 := hide_ B2
  have HK1 := hide_ K1
  have HK2 := hide_ K2
  have HK3 := hide_ K3
  obtain ⟨c0, c1, c2, c3, c4, c5, c6⟩ := K1.cs
  obtain ⟨i0, i1, i2, i3⟩ := KX.ci
  obtain ⟨d0, d1, d2, d3, d4, d5, d6⟩ := K2.cs
  obtain ⟨e0, e1, e2, e3, e4, e5, e6⟩ := K3.cs
  unfold noF at e0 e1 e2 e3 e4 e5 e6
  dsimp only at e0 e1 e2 e3 e4 e5 e6
  have fr1 := fun i => K1.frozen i
  have fr2 := fun i => K2.frozen i
  have fr3 := fun i => K3.frozen i
  unfold box6 box4 box3 at hw2
  have HF : Hid (∀ w, Calls Tryz.prog 217 #[stv s, .int .i64 x.a] w fun e w' => e = .returned (.tuple #[stv (fillP s x.a).1, .bool (fillP s x.a).2]) ∧ Below w.heap.size w w') := hide_ (fun w => fill_any s x.a w (hx.kid (by omega)) hs)
  obtain ⟨r, hr⟩ : ∃ r, dHd s x way = r := ⟨_, rfl⟩
  rw [hr]
  have Hr := hide_ hr
  obtain ⟨rs, hrs⟩ : ∃ y, stv r = y := ⟨_, rfl⟩
  rw [hrs]
  have Hrs := hide_ hrs
  have Hop := hide_ hop
  obtain ⟨hp1, hp2⟩ := hp
  clear B2 K1 KX K2 K3 hx hs hr hrs ht hop
  unfold stv inv
  go_enter Tryz.func214, Tryz.ntmps214
  go_upto_region 3 with fail
  try rw [hw2]
  clear hw2
  rw [Hop.out] at i0
  have E : Hid (r = (fillP s x.a).1) := hide_ (by rw [← Hr.out]; unfold dHd; first | (simp [noF, Hop.out]; done) | (have := Hop.out; repeat (first | rw [if_pos (by omega)] | rw [if_neg (by omega)])))
  go_wp2_with fail
  refine (HF.out _).mono ?_
  rintro e w3 ⟨rfl, hB3⟩
  have L2 := Blk.later (HK2.out) hB3
  have L3 := Blk.later (HK3.out) hB3
  have HB3 := hide_ (below_to HB2.out hB3)
  have hsz := hB3.size
  clear hB3 c0 c1 c2 c3 c4 c5 c6 d0 d1 d2 d3 d4 d5 d6 e0 e1 e2 e3 e4 e5 e6 fr1 fr2 fr3
  obtain ⟨d0, d1, d2, d3, d4, d5, d6⟩ := L2.cs
  obtain ⟨e0, e1, e2, e3, e4, e5, e6⟩ := L3.cs
  have fr2 := fun i => L2.frozen i
  have fr3 := fun i => L3.frozen i
  have HL2 := hide_ L2
  clear L2 L3
  obtain ⟨f, hf⟩ : ∃ f, (fillP s x.a).1 = f := ⟨_, rfl⟩
  rw [hf]
  have Hf := hide_ hf
  clear hf
  unfold stv
  go_wp2
  refine retSt rfl f rfl (Blk.putS (HL2.out.putO _ f (by omega)) f) ?_
  exact ⟨by (rw [← Hrs.out, E.out, Hf.out]; try rfl), below_putS (below_putS HB3.out _ f (by omega)) _ f (by omega)⟩
set_option maxRecDepth 100000 in
set_option maxHeartbeats 8000000 in
theorem dhd_3 (s : St) (x : In) (way : Int) (w : World) (hx : DOk x) (hs : s.ki < 18446744073709551616) (ht : -1 ≤ s.tb ∧ s.tb ≤ 100000000) (hp : 0 ≤ s.pa ∧ s.pa ≤ 100000000) (hop : x.op = 3) : Calls Tryz.prog 214 #[.agg #[], stv s, inv x, .int .i64 way] w fun e w' => e = .returned (stv (dHd s x way)) ∧ Below w.heap.size w w' := by
  obtain ⟨B2, K1, KX, K2, K3, hz⟩ := box6_ok w s x
  obtain ⟨w2, hw2⟩ : ∃ wx, box6 w s x = wx := ⟨_, rfl⟩
  rw [hw2] at B2 K1 KX K2 K3 hz
  have HB2 := hide_ B2
  have HK1 := hide_ K1
  have HK2 := hide_ K2
  have HK3 := hide_ K3
  obtain ⟨c0, c1, c2, c3, c4, c5, c6⟩ := K1.cs
  obtain ⟨i0, i1, i2, i3⟩ := KX.ci
  obtain ⟨d0, d1, d2, d3, d4, d5, d6⟩ := K2.cs
  obtain ⟨e0, e1, e2, e3, e4, e5, e6⟩ := K3.cs
  unfold noF at e0 e1 e2 e3 e4 e5 e6
  dsimp only at e0 e1 e2 e3 e4 e5 e6
  have fr1 := fun i => K1.frozen i
  have fr2 := fun i => K2.frozen i
  have fr3 := fun i => K3.frozen i
  unfold box6 box4 box3 at hw2
  have HF : Hid (∀ w, Calls Tryz.prog 217 #[stv s, .int .i64 x.a] w fun e w' => e = .returned (.tuple #[stv (fillP s x.a).1, .bool (fillP s x.a).2]) ∧ Below w.heap.size w w') := hide_ (fun w => fill_any s x.a w (hx.kid (by omega)) hs)
  obtain ⟨r, hr⟩ : ∃ r, dHd s x way = r := ⟨_, rfl⟩
  rw [hr]
  have Hr := hide_ hr
  obtain ⟨rs, hrs⟩ : ∃ y, stv r = y := ⟨_, rfl⟩
  rw [hrs]
  have Hrs := hide_ hrs
  have Hop := hide_ hop
  obtain ⟨hp1, hp2⟩ := hp
  clear B2 K1 KX K2 K3 hx hs hr hrs ht hop
  unfold stv inv
  go_enter Tryz.func214, Tryz.ntmps214
  go_upto_region 3 with fail
  try rw [hw2]
  clear hw2
  rw [Hop.out] at i0
  have E : Hid (r = (fillP s x.a).1) := hide_ (by rw [← Hr.out]; unfold dHd; first | (simp [noF, Hop.out]; done) | (have := Hop.out; repeat (first | rw [if_pos (by omega)] | rw [if_neg (by omega)])))
  go_wp2_with fail
  refine (HF.out _).mono ?_
  rintro e w3 ⟨rfl, hB3⟩
  have L2 := Blk.later (HK2.out) hB3
  have L3 := Blk.later (HK3.out) hB3
  have HB3 := hide_ (below_to HB2.out hB3)
  have hsz := hB3.size
  clear hB3 c0 c1 c2 c3 c4 c5 c6 d0 d1 d2 d3 d4 d5 d6 e0 e1 e2 e3 e4 e5 e6 fr1 fr2 fr3
  obtain ⟨d0, d1, d2, d3, d4, d5, d6⟩ := L2.cs
  obtain ⟨e0, e1, e2, e3, e4, e5, e6⟩ := L3.cs
  have fr2 := fun i => L2.frozen i
  have fr3 := fun i => L3.frozen i
  have HL2 := hide_ L2
  clear L2 L3
  obtain ⟨f, hf⟩ : ∃ f, (fillP s x.a).1 = f := ⟨_, rfl⟩
  rw [hf]
  have Hf := hide_ hf
  clear hf
  unfold stv
  go_wp2
  refine retSt rfl f rfl (Blk.putS (HL2.out.putO _ f (by omega)) f) ?_
  exact ⟨by (rw [← Hrs.out, E.out, Hf.out]; try rfl), below_putS (below_putS HB3.out _ f (by omega)) _ f (by omega)⟩
set_option maxRecDepth 100000 in
set_option maxHeartbeats 8000000 in
theorem dhd_6 (s : St) (x : In) (way : Int) (w : World) (hx : DOk x) (hs : s.ki < 18446744073709551616) (ht : -1 ≤ s.tb ∧ s.tb ≤ 100000000) (hp : 0 ≤ s.pa ∧ s.pa ≤ 100000000) (hop : x.op = 6) : Calls Tryz.prog 214 #[.agg #[], stv s, inv x, .int .i64 way] w fun e w' => e = .returned (stv (dHd s x way)) ∧ Below w.heap.size w w' := by
  obtain ⟨B2, K1, KX, K2, K3, hz⟩ := box6_ok w s x
  obtain ⟨w2, hw2⟩ : ∃ wx, box6 w s x = wx := ⟨_, rfl⟩
  rw [hw2] at B2 K1 KX K2 K3 hz
  have HB2 := hide_ B2
  have HK1 := hide_ K1
  have HK2 := hide_ K2
  have HK3 := hide_ K3
  obtain ⟨c0, c1, c2, c3, c4, c5, c6⟩ := K1.cs
  obtain ⟨i0, i1, i2, i3⟩ := KX.ci
  obtain ⟨d0, d1, d2, d3, d4, d5, d6⟩ := K2.cs
  obtain ⟨e0, e1, e2, e3, e4, e5, e6⟩ := K3.cs
  unfold noF at e0 e1 e2 e3 e4 e5 e6
  dsimp only at e0 e1 e2 e3 e4 e5 e6
  have fr1 := fun i => K1.frozen i
  have fr2 := fun i => K2.frozen i
  have fr3 := fun i => K3.frozen i
  unfold box6 box4 box3 at hw2
  obtain ⟨r, hr⟩ : ∃ r, dHd s x way = r := ⟨_, rfl⟩
  rw [hr]
  have Hr := hide_ hr
  obtain ⟨rs, hrs⟩ : ∃ y, stv r = y := ⟨_, rfl⟩
  rw [hrs]
  have Hrs := hide_ hrs
  have Hop := hide_ hop
  obtain ⟨hp1, hp2⟩ := hp
  clear B2 K1 KX K2 K3 hx hs hr hrs ht hop
  unfold stv inv
  go_enter Tryz.func214, Tryz.ntmps214
  go_upto_region 3 with fail
  try rw [hw2]
  clear hw2
  rw [Hop.out] at i0
  have E : Hid (r = ⟨3, 0, s.tb, s.pa, 0, s.le, s.su⟩) := hide_ (by rw [← Hr.out]; unfold dHd; first | (simp [noF, Hop.out]; done) | (have := Hop.out; repeat (first | rw [if_pos (by omega)] | rw [if_neg (by omega)])))
  go_wp2_with fail
  refine retSt rfl ⟨3, 0, s.tb, s.pa, 0, s.le, s.su⟩ rfl (Blk.putS ((HK2.out.other _ _ (by first | (simp; done) | (simp; omega))).other _ _ (by first | (simp; done) | (simp; omega))) ⟨3, 0, s.tb, s.pa, 0, s.le, s.su⟩) ?_
  exact ⟨by (rw [← Hrs.out, E.out]; try rfl), below_putS (below_set (below_set HB2.out _ _ _ (by omega)) _ _ _ (by omega)) _ ⟨3, 0, s.tb, s.pa, 0, s.le, s.su⟩ (by omega)⟩
end Go.Proofs.YtiojpohmgjdgfaaGreat

/- sound: the decoder's hands. -/
namespace Go.Proofs.YtiojpohmgjdgfaaGreat
open Go.RowKit
set_option linter.unusedVariables false
set_option linter.unusedSimpArgs false

set_option maxRecDepth 100000 in
set_option maxHeartbeats 8000000 in
theorem dhd_4 (s : St) (x : In) (way : Int) (w : World) (hx : DOk x) (hs : s.ki < 18446744073709551616) (ht : -1 ≤ s.tb ∧ s.tb ≤ 100000000) (hp : 0 ≤ s.pa ∧ s.pa ≤ 100000000) (hop : x.op = 4) : Calls Tryz.prog 214 #[.agg #[], stv s, inv x, .int .i64 way] w fun e w' => e = .returned (stv (dHd s x way)) ∧ Below w.heap.size w w' := by
  obtain ⟨B2, K1, KX, K2, K3, hz⟩ := box6_ok w s x
  obtain ⟨w2, hw2⟩ : ∃ wx, box6 w s x = wx := ⟨_, rfl⟩
  rw [hw2] at B2 K1 KX K2 K3 hz
  have HB2 := hide_ B2
  have HK1 := hide_ K1
  have HK2 := hide_ K2
  have HK3 := hide_ K3
  obtain ⟨c0, c1, c2, c3, c4, c5, c6⟩ := K1.cs
  obtain ⟨i0, i1, i2, i3⟩ := KX.ci
  obtain ⟨d0, d1, d2, d3, d4, d5, d6⟩ := K2.cs
  obtain ⟨e0, e1, e2, e3, e4, e5, e6⟩ := K3.cs
  unfold noF at e0 e1 e2 e3 e4 e5 e6
  dsimp only at e0 e1 e2 e3 e4 e5 e6
  have fr1 := fun i => K1.frozen i
  have fr2 := fun i => K2.frozen i
  have fr3 := fun i => K3.frozen i
  unfold box6 box4 box3 at hw2
  have HF : Hid (∀ w, Calls Tryz.prog 217 #[stv s, .int .i64 x.a] w fun e w' => e = .returned (.tuple #[stv (fillP s x.a).1, .bool (fillP s x.a).2]) ∧ Below w.heap.size w w') := hide_ (fun w => fill_any s x.a w (hx.kid (by omega)) hs)
  obtain ⟨r, hr⟩ : ∃ r, dHd s x way = r := ⟨_, rfl⟩
  rw [hr]
  have Hr := hide_ hr
  obtain ⟨rs, hrs⟩ : ∃ y, stv r = y := ⟨_, rfl⟩
  rw [hrs]
  have Hrs := hide_ hrs
  have Hop := hide_ hop
  obtain ⟨hp1, hp2⟩ := hp
  clear B2 K1 KX K2 K3 hx hs hr hrs ht hop
  unfold stv inv
  go_enter Tryz.func214, Tryz.ntmps214
  go_upto_region 3 with fail
  try rw [hw2]
  clear hw2
  rw [Hop.out] at i0
  have E : Hid (r = (fillP s x.a).1) := hide_ (by rw [← Hr.out]; unfold dHd; first | (simp [noF, Hop.out]; done) | (have := Hop.out; repeat (first | rw [if_pos (by omega)] | rw [if_neg (by omega)])))
  go_wp2_with fail
  refine (HF.out _).mono ?_
  rintro e w3 ⟨rfl, hB3⟩
  have L2 := Blk.later (HK2.out) hB3
  have L3 := Blk.later (HK3.out) hB3
  have HB3 := hide_ (below_to HB2.out hB3)
  have hsz := hB3.size
  clear hB3 c0 c1 c2 c3 c4 c5 c6 d0 d1 d2 d3 d4 d5 d6 e0 e1 e2 e3 e4 e5 e6 fr1 fr2 fr3
  obtain ⟨d0, d1, d2, d3, d4, d5, d6⟩ := L2.cs
  obtain ⟨e0, e1, e2, e3, e4, e5, e6⟩ := L3.cs
  have fr2 := fun i => L2.frozen i
  have fr3 := fun i => L3.frozen i
  have HL2 := hide_ L2
  clear L2 L3
  obtain ⟨f, hf⟩ : ∃ f, (fillP s x.a).1 = f := ⟨_, rfl⟩
  rw [hf]
  have Hf := hide_ hf
  clear hf
  unfold stv
  go_wp2
  refine retSt rfl f rfl (Blk.putS (HL2.out.putO _ f (by omega)) f) ?_
  exact ⟨by (rw [← Hrs.out, E.out, Hf.out]; try rfl), below_putS (below_putS HB3.out _ f (by omega)) _ f (by omega)⟩
set_option maxRecDepth 100000 in
set_option maxHeartbeats 8000000 in
theorem dhd_16 (s : St) (x : In) (way : Int) (w : World) (hx : DOk x) (hs : s.ki < 18446744073709551616) (ht : -1 ≤ s.tb ∧ s.tb ≤ 100000000) (hp : 0 ≤ s.pa ∧ s.pa ≤ 100000000) (hop : x.op = 16) : Calls Tryz.prog 214 #[.agg #[], stv s, inv x, .int .i64 way] w fun e w' => e = .returned (stv (dHd s x way)) ∧ Below w.heap.size w w' := by
  obtain ⟨B2, K1, KX, K2, K3, hz⟩ := box6_ok w s x
  obtain ⟨w2, hw2⟩ : ∃ wx, box6 w s x = wx := ⟨_, rfl⟩
  rw [hw2] at B2 K1 KX K2 K3 hz
  have HB2 := hide_ B2
  have HK1 := hide_ K1
  have HK2 := hide_ K2
  have HK3 := hide_ K3
  obtain ⟨c0, c1, c2, c3, c4, c5, c6⟩ := K1.cs
  obtain ⟨i0, i1, i2, i3⟩ := KX.ci
  obtain ⟨d0, d1, d2, d3, d4, d5, d6⟩ := K2.cs
  obtain ⟨e0, e1, e2, e3, e4, e5, e6⟩ := K3.cs
  unfold noF at e0 e1 e2 e3 e4 e5 e6
  dsimp only at e0 e1 e2 e3 e4 e5 e6
  have fr1 := fun i => K1.frozen i
  have fr2 := fun i => K2.frozen i
  have fr3 := fun i => K3.frozen i
  unfold box6 box4 box3 at hw2
  have HF : Hid (∀ w, Calls Tryz.prog 217 #[stv s, .int .i64 x.a] w fun e w' => e = .returned (.tuple #[stv (fillP s x.a).1, .bool (fillP s x.a).2]) ∧ Below w.heap.size w w') := hide_ (fun w => fill_any s x.a w (hx.kid (by omega)) hs)
  obtain ⟨r, hr⟩ : ∃ r, dHd s x way = r := ⟨_, rfl⟩
  rw [hr]
  have Hr := hide_ hr
  obtain ⟨rs, hrs⟩ : ∃ y, stv r = y := ⟨_, rfl⟩
  rw [hrs]
  have Hrs := hide_ hrs
  have Hop := hide_ hop
  obtain ⟨hp1, hp2⟩ := hp
  clear B2 K1 KX K2 K3 hx hs hr hrs ht hop
  unfold stv inv
  go_enter Tryz.func214, Tryz.ntmps214
  go_upto_region 3 with fail
  try rw [hw2]
  clear hw2
  rw [Hop.out] at i0
  have E : Hid (r = (fillP s x.a).1) := hide_ (by rw [← Hr.out]; unfold dHd; first | (simp [noF, Hop.out]; done) | (have := Hop.out; repeat (first | rw [if_pos (by omega)] | rw [if_neg (by omega)])))
  go_wp2_with fail
  refine (HF.out _).mono ?_
  rintro e w3 ⟨rfl, hB3⟩
  have L2 := Blk.later (HK2.out) hB3
  have L3 := Blk.later (HK3.out) hB3
  have HB3 := hide_ (below_to HB2.out hB3)
  have hsz := hB3.size
  clear hB3 c0 c1 c2 c3 c4 c5 c6 d0 d1 d2 d3 d4 d5 d6 e0 e1 e2 e3 e4 e5 e6 fr1 fr2 fr3
  obtain ⟨d0, d1, d2, d3, d4, d5, d6⟩ := L2.cs
  obtain ⟨e0, e1, e2, e3, e4, e5, e6⟩ := L3.cs
  have fr2 := fun i => L2.frozen i
  have fr3 := fun i => L3.frozen i
  have HL2 := hide_ L2
  clear L2 L3
  obtain ⟨f, hf⟩ : ∃ f, (fillP s x.a).1 = f := ⟨_, rfl⟩
  rw [hf]
  have Hf := hide_ hf
  clear hf
  unfold stv
  go_wp2
  refine retSt rfl f rfl (Blk.putS (HL2.out.putO _ f (by omega)) f) ?_
  exact ⟨by (rw [← Hrs.out, E.out, Hf.out]; try rfl), below_putS (below_putS HB3.out _ f (by omega)) _ f (by omega)⟩
set_option maxRecDepth 100000 in
set_option maxHeartbeats 8000000 in
theorem dhd_2 (s : St) (x : In) (way : Int) (w : World) (hx : DOk x) (hs : s.ki < 18446744073709551616) (ht : -1 ≤ s.tb ∧ s.tb ≤ 100000000) (hp : 0 ≤ s.pa ∧ s.pa ≤ 100000000) (hop : x.op = 2) : Calls Tryz.prog 214 #[.agg #[], stv s, inv x, .int .i64 way] w fun e w' => e = .returned (stv (dHd s x way)) ∧ Below w.heap.size w w' := by
  obtain ⟨B2, K1, KX, K2, K3, hz⟩ := box6_ok w s x
  obtain ⟨w2, hw2⟩ : ∃ wx, box6 w s x = wx := ⟨_, rfl⟩
  rw [hw2] at B2 K1 KX K2 K3 hz
  have HB2 := hide_ B2
  have HK1 := hide_ K1
  have HK2 := hide_ K2
  have HK3 := hide_ K3
  obtain ⟨c0, c1, c2, c3, c4, c5, c6⟩ := K1.cs
  obtain ⟨i0, i1, i2, i3⟩ := KX.ci
  obtain ⟨d0, d1, d2, d3, d4, d5, d6⟩ := K2.cs
  obtain ⟨e0, e1, e2, e3, e4, e5, e6⟩ := K3.cs
  unfold noF at e0 e1 e2 e3 e4 e5 e6
  dsimp only at e0 e1 e2 e3 e4 e5 e6
  have fr1 := fun i => K1.frozen i
  have fr2 := fun i => K2.frozen i
  have fr3 := fun i => K3.frozen i
  unfold box6 box4 box3 at hw2
  have HF : Hid (∀ w, Calls Tryz.prog 218 #[stv s, .int .i64 x.a, .int .i64 x.b] w fun e w' => e = .returned (.tuple #[stv (fillR s x.a x.b.toNat).1, .bool (fillR s x.a x.b.toNat).2]) ∧ Below w.heap.size w w') := hide_ (fun w => by
    obtain ⟨h1, h2, h3⟩ := hx.run (by omega)
    have := fillR_any s x.a x.b.toNat w h1 (by omega) hs
    rw [show ((x.b.toNat : Nat) : Int) = x.b by omega] at this
    exact this)
  obtain ⟨r, hr⟩ : ∃ r, dHd s x way = r := ⟨_, rfl⟩
  rw [hr]
  have Hr := hide_ hr
  obtain ⟨rs, hrs⟩ : ∃ y, stv r = y := ⟨_, rfl⟩
  rw [hrs]
  have Hrs := hide_ hrs
  have Hop := hide_ hop
  obtain ⟨hp1, hp2⟩ := hp
  clear B2 K1 KX K2 K3 hx hs hr hrs ht hop
  unfold stv inv
  go_enter Tryz.func214, Tryz.ntmps214
  go_upto_region 3 with fail
  try rw [hw2]
  clear hw2
  rw [Hop.out] at i0
  have E : Hid (r = (fillR s x.a x.b.toNat).1) := hide_ (by rw [← Hr.out]; unfold dHd; first | (simp [noF, Hop.out]; done) | (have := Hop.out; repeat (first | rw [if_pos (by omega)] | rw [if_neg (by omega)])))
  go_wp2_with fail
  refine (HF.out _).mono ?_
  rintro e w3 ⟨rfl, hB3⟩
  have L2 := Blk.later (HK2.out) hB3
  have L3 := Blk.later (HK3.out) hB3
  have HB3 := hide_ (below_to HB2.out hB3)
  have hsz := hB3.size
  clear hB3 c0 c1 c2 c3 c4 c5 c6 d0 d1 d2 d3 d4 d5 d6 e0 e1 e2 e3 e4 e5 e6 fr1 fr2 fr3
  obtain ⟨d0, d1, d2, d3, d4, d5, d6⟩ := L2.cs
  obtain ⟨e0, e1, e2, e3, e4, e5, e6⟩ := L3.cs
  have fr2 := fun i => L2.frozen i
  have fr3 := fun i => L3.frozen i
  have HL2 := hide_ L2
  clear L2 L3
  obtain ⟨f, hf⟩ : ∃ f, (fillR s x.a x.b.toNat).1 = f := ⟨_, rfl⟩
  rw [hf]
  have Hf := hide_ hf
  clear hf
  unfold stv
  go_wp2
  refine retSt rfl f rfl (Blk.putS (HL2.out.putO _ f (by omega)) f) ?_
  exact ⟨by (rw [← Hrs.out, E.out, Hf.out]; try rfl), below_putS (below_putS HB3.out _ f (by omega)) _ f (by omega)⟩
set_option maxRecDepth 100000 in
set_option maxHeartbeats 8000000 in
theorem dhd_7 (s : St) (x : In) (way : Int) (w : World) (hx : DOk x) (hs : s.ki < 18446744073709551616) (ht : -1 ≤ s.tb ∧ s.tb ≤ 100000000) (hp : 0 ≤ s.pa ∧ s.pa ≤ 100000000) (hop : x.op = 7) : Calls Tryz.prog 214 #[.agg #[], stv s, inv x, .int .i64 way] w fun e w' => e = .returned (stv (dHd s x way)) ∧ Below w.heap.size w w' := by
  obtain ⟨B2, K1, KX, K2, K3, hz⟩ := box6_ok w s x
  obtain ⟨w2, hw2⟩ : ∃ wx, box6 w s x = wx := ⟨_, rfl⟩
  rw [hw2] at B2 K1 KX K2 K3 hz
  have HB2 := hide_ B2
  have HK1 := hide_ K1
  have HK2 := hide_ K2
  have HK3 := hide_ K3
  obtain ⟨c0, c1, c2, c3, c4, c5, c6⟩ := K1.cs
  obtain ⟨i0, i1, i2, i3⟩ := KX.ci
  obtain ⟨d0, d1, d2, d3, d4, d5, d6⟩ := K2.cs
  obtain ⟨e0, e1, e2, e3, e4, e5, e6⟩ := K3.cs
  unfold noF at e0 e1 e2 e3 e4 e5 e6
  dsimp only at e0 e1 e2 e3 e4 e5 e6
  have fr1 := fun i => K1.frozen i
  have fr2 := fun i => K2.frozen i
  have fr3 := fun i => K3.frozen i
  unfold box6 box4 box3 at hw2
  obtain ⟨r, hr⟩ : ∃ r, dHd s x way = r := ⟨_, rfl⟩
  rw [hr]
  have Hr := hide_ hr
  obtain ⟨rs, hrs⟩ : ∃ y, stv r = y := ⟨_, rfl⟩
  rw [hrs]
  have Hrs := hide_ hrs
  have Hop := hide_ hop
  obtain ⟨hp1, hp2⟩ := hp
  clear B2 K1 KX K2 K3 hx hs hr hrs ht hop
  unfold stv inv
  go_enter Tryz.func214, Tryz.ntmps214
  go_upto_region 3 with fail
  try rw [hw2]
  clear hw2
  rw [Hop.out] at i0
  by_cases gw : way = 1
  · have E : Hid (r = ⟨5, 0, s.tb, s.pa, 0, s.le, s.su⟩) := hide_ (by rw [← Hr.out]; unfold dHd; first | (simp [noF, Hop.out, gw]; done) | (have := Hop.out; repeat (first | rw [if_pos (by omega)] | rw [if_neg (by omega)])))
    have g0 : (way == 1) = true := by first | (simp [gw]; done) | (simp; omega)
    have Hgw := hide_ gw
    clear gw
    go_wp2_with fail
    refine retSt rfl ⟨5, 0, s.tb, s.pa, 0, s.le, s.su⟩ rfl (Blk.putS (((HK2.out.other _ _ (by first | (simp; done) | (simp; omega))).other _ _ (by first | (simp; done) | (simp; omega))).other _ _ (by first | (simp; done) | (simp; omega))) ⟨5, 0, s.tb, s.pa, 0, s.le, s.su⟩) ?_
    exact ⟨by (rw [← Hrs.out, E.out]; try rfl), below_putS (below_set (below_set (below_set HB2.out _ _ _ (by omega)) _ _ _ (by omega)) _ _ _ (by omega)) _ ⟨5, 0, s.tb, s.pa, 0, s.le, s.su⟩ (by omega)⟩
  · have E : Hid (r = ⟨4, 0, s.tb, s.pa, 0, s.le, s.su⟩) := hide_ (by rw [← Hr.out]; unfold dHd; first | (simp [noF, Hop.out, gw]; done) | (have := Hop.out; repeat (first | rw [if_pos (by omega)] | rw [if_neg (by omega)])))
    have g0 : (way == 1) = false := by first | (simp [gw]; done) | (simp; omega)
    have Hgw := hide_ gw
    clear gw
    go_wp2_with fail
    refine retSt rfl ⟨4, 0, s.tb, s.pa, 0, s.le, s.su⟩ rfl (Blk.putS ((HK2.out.other _ _ (by first | (simp; done) | (simp; omega))).other _ _ (by first | (simp; done) | (simp; omega))) ⟨4, 0, s.tb, s.pa, 0, s.le, s.su⟩) ?_
    exact ⟨by (rw [← Hrs.out, E.out]; try rfl), below_putS (below_set (below_set HB2.out _ _ _ (by omega)) _ _ _ (by omega)) _ ⟨4, 0, s.tb, s.pa, 0, s.le, s.su⟩ (by omega)⟩
end Go.Proofs.YtiojpohmgjdgfaaGreat

/- sound: the decoder's hands. -/
namespace Go.Proofs.YtiojpohmgjdgfaaGreat
open Go.RowKit
set_option linter.unusedVariables false
set_option linter.unusedSimpArgs false

set_option maxRecDepth 100000 in
set_option maxHeartbeats 8000000 in
theorem dhd_8 (s : St) (x : In) (way : Int) (w : World) (hx : DOk x) (hs : s.ki < 18446744073709551616) (ht : -1 ≤ s.tb ∧ s.tb ≤ 100000000) (hp : 0 ≤ s.pa ∧ s.pa ≤ 100000000) (hop : x.op = 8) : Calls Tryz.prog 214 #[.agg #[], stv s, inv x, .int .i64 way] w fun e w' => e = .returned (stv (dHd s x way)) ∧ Below w.heap.size w w' := by
  obtain ⟨B2, K1, KX, K2, K3, hz⟩ := box6_ok w s x
  obtain ⟨w2, hw2⟩ : ∃ wx, box6 w s x = wx := ⟨_, rfl⟩
  rw [hw2] at B2 K1 KX K2 K3 hz
  have HB2 := hide_ B2
  have HK1 := hide_ K1
  have HK2 := hide_ K2
  have HK3 := hide_ K3
  obtain ⟨c0, c1, c2, c3, c4, c5, c6⟩ := K1.cs
  obtain ⟨i0, i1, i2, i3⟩ := KX.ci
  obtain ⟨d0, d1, d2, d3, d4, d5, d6⟩ := K2.cs
  obtain ⟨e0, e1, e2, e3, e4, e5, e6⟩ := K3.cs
  unfold noF at e0 e1 e2 e3 e4 e5 e6
  dsimp only at e0 e1 e2 e3 e4 e5 e6
  have fr1 := fun i => K1.frozen i
  have fr2 := fun i => K2.frozen i
  have fr3 := fun i => K3.frozen i
  unfold box6 box4 box3 at hw2
  obtain ⟨r, hr⟩ : ∃ r, dHd s x way = r := ⟨_, rfl⟩
  rw [hr]
  have Hr := hide_ hr
  obtain ⟨rs, hrs⟩ : ∃ y, stv r = y := ⟨_, rfl⟩
  rw [hrs]
  have Hrs := hide_ hrs
  have Hop := hide_ hop
  obtain ⟨hp1, hp2⟩ := hp
  clear B2 K1 KX K2 K3 hx hs hr hrs ht hop
  unfold stv inv
  go_enter Tryz.func214, Tryz.ntmps214
  go_upto_region 3 with fail
  try rw [hw2]
  clear hw2
  rw [Hop.out] at i0
  have E : Hid (r = ⟨4, 0, s.tb, s.pa, 0, s.le, s.su⟩) := hide_ (by rw [← Hr.out]; unfold dHd; first | (simp [noF, Hop.out]; done) | (have := Hop.out; repeat (first | rw [if_pos (by omega)] | rw [if_neg (by omega)])))
  go_wp2_with fail
  refine retSt rfl ⟨4, 0, s.tb, s.pa, 0, s.le, s.su⟩ rfl (Blk.putS ((HK2.out.other _ _ (by first | (simp; done) | (simp; omega))).other _ _ (by first | (simp; done) | (simp; omega))) ⟨4, 0, s.tb, s.pa, 0, s.le, s.su⟩) ?_
  exact ⟨by (rw [← Hrs.out, E.out]; try rfl), below_putS (below_set (below_set HB2.out _ _ _ (by omega)) _ _ _ (by omega)) _ ⟨4, 0, s.tb, s.pa, 0, s.le, s.su⟩ (by omega)⟩
set_option maxRecDepth 100000 in
set_option maxHeartbeats 8000000 in
theorem dhd_10 (s : St) (x : In) (way : Int) (w : World) (hx : DOk x) (hs : s.ki < 18446744073709551616) (ht : -1 ≤ s.tb ∧ s.tb ≤ 100000000) (hp : 0 ≤ s.pa ∧ s.pa ≤ 100000000) (hop : x.op = 10) : Calls Tryz.prog 214 #[.agg #[], stv s, inv x, .int .i64 way] w fun e w' => e = .returned (stv (dHd s x way)) ∧ Below w.heap.size w w' := by
  obtain ⟨B2, K1, KX, K2, K3, hz⟩ := box6_ok w s x
  obtain ⟨w2, hw2⟩ : ∃ wx, box6 w s x = wx := ⟨_, rfl⟩
  rw [hw2] at B2 K1 KX K2 K3 hz
  have HB2 := hide_ B2
  have HK1 := hide_ K1
  have HK2 := hide_ K2
  have HK3 := hide_ K3
  obtain ⟨c0, c1, c2, c3, c4, c5, c6⟩ := K1.cs
  obtain ⟨i0, i1, i2, i3⟩ := KX.ci
  obtain ⟨d0, d1, d2, d3, d4, d5, d6⟩ := K2.cs
  obtain ⟨e0, e1, e2, e3, e4, e5, e6⟩ := K3.cs
  unfold noF at e0 e1 e2 e3 e4 e5 e6
  dsimp only at e0 e1 e2 e3 e4 e5 e6
  have fr1 := fun i => K1.frozen i
  have fr2 := fun i => K2.frozen i
  have fr3 := fun i => K3.frozen i
  unfold box6 box4 box3 at hw2
  have HF : Hid (∀ w, Calls Tryz.prog 219 #[stv s, .agg #[.int .i64 10, .int .i64 x.a, .int .i64 x.b, .int .i64 x.c], .int .i64 way] w fun e w' => e = .returned (.int .i64 (tabP s x way)) ∧ Below w.heap.size w w') := hide_ (fun w => by have := tabP_any s x way w ht; unfold inv at this; rw [hop] at this; exact this)
  obtain ⟨r, hr⟩ : ∃ r, dHd s x way = r := ⟨_, rfl⟩
  rw [hr]
  have Hr := hide_ hr
  obtain ⟨rs, hrs⟩ : ∃ y, stv r = y := ⟨_, rfl⟩
  rw [hrs]
  have Hrs := hide_ hrs
  have Hop := hide_ hop
  obtain ⟨hp1, hp2⟩ := hp
  clear B2 K1 KX K2 K3 hx hs hr hrs ht hop
  unfold stv inv
  go_enter Tryz.func214, Tryz.ntmps214
  go_upto_region 3 with fail
  try rw [hw2]
  clear hw2
  rw [Hop.out] at i0
  have E : Hid (r = ⟨s.pl, s.ki, tabP s x way, s.pa, 0, s.le, s.su⟩) := hide_ (by rw [← Hr.out]; unfold dHd; first | (simp [noF, Hop.out]; done) | (have := Hop.out; repeat (first | rw [if_pos (by omega)] | rw [if_neg (by omega)])))
  go_wp2_with fail
  refine (HF.out _).mono ?_
  rintro e w3 ⟨rfl, hB3⟩
  have L2 := HK2.out.later hB3
  have L3 := HK3.out.later hB3
  have HB3 := hide_ (below_to HB2.out hB3)
  clear hB3 c0 c1 c2 c3 c4 c5 c6 d0 d1 d2 d3 d4 d5 d6 e0 e1 e2 e3 e4 e5 e6 fr1 fr2 fr3
  obtain ⟨d0, d1, d2, d3, d4, d5, d6⟩ := L2.cs
  obtain ⟨e0, e1, e2, e3, e4, e5, e6⟩ := L3.cs
  unfold noF at e0 e1 e2 e3 e4 e5 e6
  dsimp only at e0 e1 e2 e3 e4 e5 e6
  have fr2 := fun i => L2.frozen i
  have fr3 := fun i => L3.frozen i
  have HL2 := hide_ L2
  clear L2 L3
  obtain ⟨f, hf⟩ : ∃ f, tabP s x way = f := ⟨_, rfl⟩
  rw [hf]
  have Hf := hide_ hf
  clear hf
  go_wp2
  refine retSt rfl ⟨s.pl, s.ki, f, s.pa, 0, s.le, s.su⟩ rfl (Blk.putS (HL2.out.other _ _ (by first | (simp; done) | (simp; omega))) ⟨s.pl, s.ki, f, s.pa, 0, s.le, s.su⟩) ?_
  exact ⟨by (rw [← Hrs.out, E.out, Hf.out]; try rfl), below_putS (below_set HB3.out _ _ _ (by omega)) _ ⟨s.pl, s.ki, f, s.pa, 0, s.le, s.su⟩ (by omega)⟩
set_option maxRecDepth 100000 in
set_option maxHeartbeats 8000000 in
theorem dhd_11 (s : St) (x : In) (way : Int) (w : World) (hx : DOk x) (hs : s.ki < 18446744073709551616) (ht : -1 ≤ s.tb ∧ s.tb ≤ 100000000) (hp : 0 ≤ s.pa ∧ s.pa ≤ 100000000) (hop : x.op = 11) : Calls Tryz.prog 214 #[.agg #[], stv s, inv x, .int .i64 way] w fun e w' => e = .returned (stv (dHd s x way)) ∧ Below w.heap.size w w' := by
  obtain ⟨B2, K1, KX, K2, K3, hz⟩ := box6_ok w s x
  obtain ⟨w2, hw2⟩ : ∃ wx, box6 w s x = wx := ⟨_, rfl⟩
  rw [hw2] at B2 K1 KX K2 K3 hz
  have HB2 := hide_ B2
  have HK1 := hide_ K1
  have HK2 := hide_ K2
  have HK3 := hide_ K3
  obtain ⟨c0, c1, c2, c3, c4, c5, c6⟩ := K1.cs
  obtain ⟨i0, i1, i2, i3⟩ := KX.ci
  obtain ⟨d0, d1, d2, d3, d4, d5, d6⟩ := K2.cs
  obtain ⟨e0, e1, e2, e3, e4, e5, e6⟩ := K3.cs
  unfold noF at e0 e1 e2 e3 e4 e5 e6
  dsimp only at e0 e1 e2 e3 e4 e5 e6
  have fr1 := fun i => K1.frozen i
  have fr2 := fun i => K2.frozen i
  have fr3 := fun i => K3.frozen i
  unfold box6 box4 box3 at hw2
  have HF : Hid (∀ w, Calls Tryz.prog 219 #[stv s, .agg #[.int .i64 11, .int .i64 x.a, .int .i64 x.b, .int .i64 x.c], .int .i64 way] w fun e w' => e = .returned (.int .i64 (tabP s x way)) ∧ Below w.heap.size w w') := hide_ (fun w => by have := tabP_any s x way w ht; unfold inv at this; rw [hop] at this; exact this)
  obtain ⟨r, hr⟩ : ∃ r, dHd s x way = r := ⟨_, rfl⟩
  rw [hr]
  have Hr := hide_ hr
  obtain ⟨rs, hrs⟩ : ∃ y, stv r = y := ⟨_, rfl⟩
  rw [hrs]
  have Hrs := hide_ hrs
  have Hop := hide_ hop
  obtain ⟨hp1, hp2⟩ := hp
  clear B2 K1 KX K2 K3 hx hs hr hrs ht hop
  unfold stv inv
  go_enter Tryz.func214, Tryz.ntmps214
  go_upto_region 3 with fail
  try rw [hw2]
  clear hw2
  rw [Hop.out] at i0
  have E : Hid (r = ⟨s.pl, s.ki, tabP s x way, s.pa, 0, s.le, s.su⟩) := hide_ (by rw [← Hr.out]; unfold dHd; first | (simp [noF, Hop.out]; done) | (have := Hop.out; repeat (first | rw [if_pos (by omega)] | rw [if_neg (by omega)])))
  go_wp2_with fail
  refine (HF.out _).mono ?_
  rintro e w3 ⟨rfl, hB3⟩
  have L2 := HK2.out.later hB3
  have L3 := HK3.out.later hB3
  have HB3 := hide_ (below_to HB2.out hB3)
  clear hB3 c0 c1 c2 c3 c4 c5 c6 d0 d1 d2 d3 d4 d5 d6 e0 e1 e2 e3 e4 e5 e6 fr1 fr2 fr3
  obtain ⟨d0, d1, d2, d3, d4, d5, d6⟩ := L2.cs
  obtain ⟨e0, e1, e2, e3, e4, e5, e6⟩ := L3.cs
  unfold noF at e0 e1 e2 e3 e4 e5 e6
  dsimp only at e0 e1 e2 e3 e4 e5 e6
  have fr2 := fun i => L2.frozen i
  have fr3 := fun i => L3.frozen i
  have HL2 := hide_ L2
  clear L2 L3
  obtain ⟨f, hf⟩ : ∃ f, tabP s x way = f := ⟨_, rfl⟩
  rw [hf]
  have Hf := hide_ hf
  clear hf
  go_wp2
  refine retSt rfl ⟨s.pl, s.ki, f, s.pa, 0, s.le, s.su⟩ rfl (Blk.putS (HL2.out.other _ _ (by first | (simp; done) | (simp; omega))) ⟨s.pl, s.ki, f, s.pa, 0, s.le, s.su⟩) ?_
  exact ⟨by (rw [← Hrs.out, E.out, Hf.out]; try rfl), below_putS (below_set HB3.out _ _ _ (by omega)) _ ⟨s.pl, s.ki, f, s.pa, 0, s.le, s.su⟩ (by omega)⟩
set_option maxRecDepth 100000 in
set_option maxHeartbeats 8000000 in
theorem dhd_x (s : St) (x : In) (way : Int) (w : World) (hx : DOk x) (hs : s.ki < 18446744073709551616) (ht : -1 ≤ s.tb ∧ s.tb ≤ 100000000) (hp : 0 ≤ s.pa ∧ s.pa ≤ 100000000) (hop : x.op ≠ 19 ∧ x.op ≠ 17 ∧ x.op ≠ 1 ∧ x.op ≠ 3 ∧ x.op ≠ 4 ∧ x.op ≠ 16 ∧ x.op ≠ 2 ∧ x.op ≠ 5 ∧ x.op ≠ 6 ∧ x.op ≠ 7 ∧ x.op ≠ 8 ∧ x.op ≠ 10 ∧ x.op ≠ 11) : Calls Tryz.prog 214 #[.agg #[], stv s, inv x, .int .i64 way] w fun e w' => e = .returned (stv (dHd s x way)) ∧ Below w.heap.size w w' := by
  obtain ⟨B2, K1, KX, K2, K3, hz⟩ := box6_ok w s x
  obtain ⟨w2, hw2⟩ : ∃ wx, box6 w s x = wx := ⟨_, rfl⟩
  rw [hw2] at B2 K1 KX K2 K3 hz
  have HB2 := hide_ B2
  have HK1 := hide_ K1
  have HK2 := hide_ K2
  have HK3 := hide_ K3
  obtain ⟨c0, c1, c2, c3, c4, c5, c6⟩ := K1.cs
  obtain ⟨i0, i1, i2, i3⟩ := KX.ci
  obtain ⟨d0, d1, d2, d3, d4, d5, d6⟩ := K2.cs
  obtain ⟨e0, e1, e2, e3, e4, e5, e6⟩ := K3.cs
  unfold noF at e0 e1 e2 e3 e4 e5 e6
  dsimp only at e0 e1 e2 e3 e4 e5 e6
  have fr1 := fun i => K1.frozen i
  have fr2 := fun i => K2.frozen i
  have fr3 := fun i => K3.frozen i
  unfold box6 box4 box3 at hw2
  have HF : Hid (∀ w, Calls Tryz.prog 220 #[inv x, .int .i64 way] w fun e w' => e = .returned (.int .i64 (freeP x way)) ∧ Below w.heap.size w w') := hide_ (fun w => freeP_any x way w)
  obtain ⟨r, hr⟩ : ∃ r, dHd s x way = r := ⟨_, rfl⟩
  rw [hr]
  have Hr := hide_ hr
  obtain ⟨rs, hrs⟩ : ∃ y, stv r = y := ⟨_, rfl⟩
  rw [hrs]
  have Hrs := hide_ hrs
  have Hop := hide_ hop
  obtain ⟨hp1, hp2⟩ := hp
  clear B2 K1 KX K2 K3 hx hs hr hrs ht hop
  unfold stv inv
  go_enter Tryz.func214, Tryz.ntmps214
  go_upto_region 3 with fail
  try rw [hw2]
  clear hw2
  have q19 : (x.op == 19) = false := by have := Hop.out; simp; omega
  have q17 : (x.op == 17) = false := by have := Hop.out; simp; omega
  have q1 : (x.op == 1) = false := by have := Hop.out; simp; omega
  have q3 : (x.op == 3) = false := by have := Hop.out; simp; omega
  have q4 : (x.op == 4) = false := by have := Hop.out; simp; omega
  have q16 : (x.op == 16) = false := by have := Hop.out; simp; omega
  have q2 : (x.op == 2) = false := by have := Hop.out; simp; omega
  have q5 : (x.op == 5) = false := by have := Hop.out; simp; omega
  have q6 : (x.op == 6) = false := by have := Hop.out; simp; omega
  have q7 : (x.op == 7) = false := by have := Hop.out; simp; omega
  have q8 : (x.op == 8) = false := by have := Hop.out; simp; omega
  have q10 : (x.op == 10) = false := by have := Hop.out; simp; omega
  have q11 : (x.op == 11) = false := by have := Hop.out; simp; omega
  have E : Hid (r = ⟨s.pl, s.ki, s.tb, s.pa, freeP x way, s.le, s.su⟩) := hide_ (by rw [← Hr.out]; unfold dHd; first | (simp [noF, Hop.out]; done) | (have := Hop.out; repeat (first | rw [if_pos (by omega)] | rw [if_neg (by omega)])))
  go_wp2_with fail
  refine (HF.out _).mono ?_
  rintro e w3 ⟨rfl, hB3⟩
  have L2 := HK2.out.later hB3
  have L3 := HK3.out.later hB3
  have HB3 := hide_ (below_to HB2.out hB3)
  clear hB3 c0 c1 c2 c3 c4 c5 c6 d0 d1 d2 d3 d4 d5 d6 e0 e1 e2 e3 e4 e5 e6 fr1 fr2 fr3
  obtain ⟨d0, d1, d2, d3, d4, d5, d6⟩ := L2.cs
  obtain ⟨e0, e1, e2, e3, e4, e5, e6⟩ := L3.cs
  unfold noF at e0 e1 e2 e3 e4 e5 e6
  dsimp only at e0 e1 e2 e3 e4 e5 e6
  have fr2 := fun i => L2.frozen i
  have fr3 := fun i => L3.frozen i
  have HL2 := hide_ L2
  clear L2 L3
  obtain ⟨f, hf⟩ : ∃ f, freeP x way = f := ⟨_, rfl⟩
  rw [hf]
  have Hf := hide_ hf
  clear hf
  go_wp2
  refine retSt rfl ⟨s.pl, s.ki, s.tb, s.pa, f, s.le, s.su⟩ rfl (Blk.putS (HL2.out.other _ _ (by first | (simp; done) | (simp; omega))) ⟨s.pl, s.ki, s.tb, s.pa, f, s.le, s.su⟩) ?_
  exact ⟨by (rw [← Hrs.out, E.out, Hf.out]; try rfl), below_putS (below_set HB3.out _ _ _ (by omega)) _ ⟨s.pl, s.ki, s.tb, s.pa, f, s.le, s.su⟩ (by omega)⟩
end Go.Proofs.YtiojpohmgjdgfaaGreat

/- sound: the decoder's hands, whole. -/
namespace Go.Proofs.YtiojpohmgjdgfaaGreat
open Go.RowKit
set_option linter.unusedVariables false
set_option linter.unusedSimpArgs false

theorem dhands_any (s : St) (x : In) (way : Int) (w : World) (hx : DOk x) (hs : s.ki < 18446744073709551616) (ht : -1 ≤ s.tb ∧ s.tb ≤ 100000000) (hp : 0 ≤ s.pa ∧ s.pa ≤ 100000000) : Calls Tryz.prog 214 #[.agg #[], stv s, inv x, .int .i64 way] w fun e w' => e = .returned (stv (dHd s x way)) ∧ Below w.heap.size w w' := by
  by_cases h19 : x.op = 19
  · exact dhd_19 s x way w hx hs ht hp h19
  by_cases h17 : x.op = 17
  · exact dhd_17 s x way w hx hs ht hp h17
  by_cases h1 : x.op = 1
  · exact dhd_1 s x way w hx hs ht hp h1
  by_cases h3 : x.op = 3
  · exact dhd_3 s x way w hx hs ht hp h3
  by_cases h4 : x.op = 4
  · exact dhd_4 s x way w hx hs ht hp h4
  by_cases h16 : x.op = 16
  · exact dhd_16 s x way w hx hs ht hp h16
  by_cases h2 : x.op = 2
  · exact dhd_2 s x way w hx hs ht hp h2
  by_cases h5 : x.op = 5
  · exact dhd_5 s x way w hx hs ht hp h5
  by_cases h6 : x.op = 6
  · exact dhd_6 s x way w hx hs ht hp h6
  by_cases h7 : x.op = 7
  · exact dhd_7 s x way w hx hs ht hp h7
  by_cases h8 : x.op = 8
  · exact dhd_8 s x way w hx hs ht hp h8
  by_cases h10 : x.op = 10
  · exact dhd_10 s x way w hx hs ht hp h10
  by_cases h11 : x.op = 11
  · exact dhd_11 s x way w hx hs ht hp h11
  exact dhd_x s x way w hx hs ht hp ⟨h19, h17, h1, h3, h4, h16, h2, h5, h6, h7, h8, h10, h11⟩
end Go.Proofs.YtiojpohmgjdgfaaGreat

/- sound: the decoder's stands. -/
namespace Go.Proofs.YtiojpohmgjdgfaaGreat
open Go.RowKit
set_option linter.unusedVariables false
set_option linter.unusedSimpArgs false

set_option maxRecDepth 100000 in
set_option maxHeartbeats 8000000 in
theorem dst_1 (s : St) (x : In) (r : Int) (w : World) (hx : DOk x) (hs : s.ki < 18446744073709551616) (hop : x.op = 1) : Calls Tryz.prog 216 #[.agg #[], stv s, inv x, .int .i64 r] w fun e w' => e = .returned (.bool (dSt s x r)) ∧ Below w.heap.size w w' := by
  obtain ⟨B2, K1, KX, hz⟩ := box5_ok 148 w s x
  obtain ⟨w2, hw2⟩ : ∃ wx, box5 148 w s x = wx := ⟨_, rfl⟩
  rw [hw2] at B2 K1 KX hz
  have HB2 := hide_ B2
  obtain ⟨c0, c1, c2, c3, c4, c5, c6⟩ := K1.cs
  obtain ⟨i0, i1, i2, i3⟩ := KX.ci
  have fr1 := fun i => K1.frozen i
  unfold box5 at hw2
  have HF : Hid (∀ w, Calls Tryz.prog 217 #[stv s, .int .i64 x.a] w fun e w' => e = .returned (.tuple #[stv (fillP s x.a).1, .bool (fillP s x.a).2]) ∧ Below w.heap.size w w') := hide_ (fun w => fill_any s x.a w (hx.kid (by omega)) hs)
  obtain ⟨b, hb⟩ : ∃ b, dSt s x r = b := ⟨_, rfl⟩
  rw [hb]
  have Hb := hide_ hb
  have Hop := hide_ hop
  clear B2 K1 KX hx hs hb hop
  unfold stv inv
  go_enter Tryz.func216, Tryz.ntmps216
  go_upto_region 1 with fail
  try rw [hw2]
  clear hw2
  rw [Hop.out] at i0
  have E : Hid ((fillP s x.a).2 = b) := hide_ (by rw [← Hb.out]; unfold dSt; first | (simp [Hop.out]; done) | (have := Hop.out; repeat (first | rw [if_pos (by omega)] | rw [if_neg (by omega)])))
  go_wp2_with fail
  refine (HF.out _).mono ?_
  rintro e w3 ⟨rfl, hB3⟩
  have HB3 := hide_ (below_to HB2.out hB3)
  have hsz := hB3.size
  rw [E.out]
  clear hB3
  unfold stv
  go_wp2
  go_ret
  exact ⟨rfl, HB3.out.alloc (by have := HB3.out.size; omega) _⟩
set_option maxRecDepth 100000 in
set_option maxHeartbeats 8000000 in
theorem dst_3 (s : St) (x : In) (r : Int) (w : World) (hx : DOk x) (hs : s.ki < 18446744073709551616) (hop : x.op = 3) : Calls Tryz.prog 216 #[.agg #[], stv s, inv x, .int .i64 r] w fun e w' => e = .returned (.bool (dSt s x r)) ∧ Below w.heap.size w w' := by
  obtain ⟨B2, K1, KX, hz⟩ := box5_ok 148 w s x
  obtain ⟨w2, hw2⟩ : ∃ wx, box5 148 w s x = wx := ⟨_, rfl⟩
  rw [hw2] at B2 K1 KX hz
  have HB2 := hide_ B2
  obtain ⟨c0, c1, c2, c3, c4, c5, c6⟩ := K1.cs
  obtain ⟨i0, i1, i2, i3⟩ := KX.ci
  have fr1 := fun i => K1.frozen i
  unfold box5 at hw2
  have HF : Hid (∀ w, Calls Tryz.prog 217 #[stv s, .int .i64 x.a] w fun e w' => e = .returned (.tuple #[stv (fillP s x.a).1, .bool (fillP s x.a).2]) ∧ Below w.heap.size w w') := hide_ (fun w => fill_any s x.a w (hx.kid (by omega)) hs)
  obtain ⟨b, hb⟩ : ∃ b, dSt s x r = b := ⟨_, rfl⟩
  rw [hb]
  have Hb := hide_ hb
  have Hop := hide_ hop
  clear B2 K1 KX hx hs hb hop
  unfold stv inv
  go_enter Tryz.func216, Tryz.ntmps216
  go_upto_region 1 with fail
  try rw [hw2]
  clear hw2
  rw [Hop.out] at i0
  have E : Hid ((fillP s x.a).2 = b) := hide_ (by rw [← Hb.out]; unfold dSt; first | (simp [Hop.out]; done) | (have := Hop.out; repeat (first | rw [if_pos (by omega)] | rw [if_neg (by omega)])))
  go_wp2_with fail
  refine (HF.out _).mono ?_
  rintro e w3 ⟨rfl, hB3⟩
  have HB3 := hide_ (below_to HB2.out hB3)
  have hsz := hB3.size
  rw [E.out]
  clear hB3
  unfold stv
  go_wp2
  go_ret
  exact ⟨rfl, HB3.out.alloc (by have := HB3.out.size; omega) _⟩
set_option maxRecDepth 100000 in
set_option maxHeartbeats 8000000 in
theorem dst_4 (s : St) (x : In) (r : Int) (w : World) (hx : DOk x) (hs : s.ki < 18446744073709551616) (hop : x.op = 4) : Calls Tryz.prog 216 #[.agg #[], stv s, inv x, .int .i64 r] w fun e w' => e = .returned (.bool (dSt s x r)) ∧ Below w.heap.size w w' := by
  obtain ⟨B2, K1, KX, hz⟩ := box5_ok 148 w s x
  obtain ⟨w2, hw2⟩ : ∃ wx, box5 148 w s x = wx := ⟨_, rfl⟩
  rw [hw2] at B2 K1 KX hz
  have HB2 := hide_ B2
  obtain ⟨c0, c1, c2, c3, c4, c5, c6⟩ := K1.cs
  obtain ⟨i0, i1, i2, i3⟩ := KX.ci
  have fr1 := fun i => K1.frozen i
  unfold box5 at hw2
  have HF : Hid (∀ w, Calls Tryz.prog 217 #[stv s, .int .i64 x.a] w fun e w' => e = .returned (.tuple #[stv (fillP s x.a).1, .bool (fillP s x.a).2]) ∧ Below w.heap.size w w') := hide_ (fun w => fill_any s x.a w (hx.kid (by omega)) hs)
  obtain ⟨b, hb⟩ : ∃ b, dSt s x r = b := ⟨_, rfl⟩
  rw [hb]
  have Hb := hide_ hb
  have Hop := hide_ hop
  clear B2 K1 KX hx hs hb hop
  unfold stv inv
  go_enter Tryz.func216, Tryz.ntmps216
  go_upto_region 1 with fail
  try rw [hw2]
  clear hw2
  rw [Hop.out] at i0
  have E : Hid ((fillP s x.a).2 = b) := hide_ (by rw [← Hb.out]; unfold dSt; first | (simp [Hop.out]; done) | (have := Hop.out; repeat (first | rw [if_pos (by omega)] | rw [if_neg (by omega)])))
  go_wp2_with fail
  refine (HF.out _).mono ?_
  rintro e w3 ⟨rfl, hB3⟩
  have HB3 := hide_ (below_to HB2.out hB3)
  have hsz := hB3.size
  rw [E.out]
  clear hB3
  unfold stv
  go_wp2
  go_ret
  exact ⟨rfl, HB3.out.alloc (by have := HB3.out.size; omega) _⟩
set_option maxRecDepth 100000 in
set_option maxHeartbeats 8000000 in
theorem dst_2 (s : St) (x : In) (r : Int) (w : World) (hx : DOk x) (hs : s.ki < 18446744073709551616) (hop : x.op = 2) : Calls Tryz.prog 216 #[.agg #[], stv s, inv x, .int .i64 r] w fun e w' => e = .returned (.bool (dSt s x r)) ∧ Below w.heap.size w w' := by
  obtain ⟨B2, K1, KX, hz⟩ := box5_ok 148 w s x
  obtain ⟨w2, hw2⟩ : ∃ wx, box5 148 w s x = wx := ⟨_, rfl⟩
  rw [hw2] at B2 K1 KX hz
  have HB2 := hide_ B2
  obtain ⟨c0, c1, c2, c3, c4, c5, c6⟩ := K1.cs
  obtain ⟨i0, i1, i2, i3⟩ := KX.ci
  have fr1 := fun i => K1.frozen i
  unfold box5 at hw2
  have HF : Hid (∀ w, Calls Tryz.prog 218 #[stv s, .int .i64 x.a, .int .i64 x.b] w fun e w' => e = .returned (.tuple #[stv (fillR s x.a x.b.toNat).1, .bool (fillR s x.a x.b.toNat).2]) ∧ Below w.heap.size w w') := hide_ (fun w => by
    obtain ⟨h1, h2, h3⟩ := hx.run (by omega)
    have := fillR_any s x.a x.b.toNat w h1 (by omega) hs
    rw [show ((x.b.toNat : Nat) : Int) = x.b by omega] at this
    exact this)
  obtain ⟨b, hb⟩ : ∃ b, dSt s x r = b := ⟨_, rfl⟩
  rw [hb]
  have Hb := hide_ hb
  have Hop := hide_ hop
  clear B2 K1 KX hx hs hb hop
  unfold stv inv
  go_enter Tryz.func216, Tryz.ntmps216
  go_upto_region 1 with fail
  try rw [hw2]
  clear hw2
  rw [Hop.out] at i0
  have E : Hid ((fillR s x.a x.b.toNat).2 = b) := hide_ (by rw [← Hb.out]; unfold dSt; first | (simp [Hop.out]; done) | (have := Hop.out; repeat (first | rw [if_pos (by omega)] | rw [if_neg (by omega)])))
  go_wp2_with fail
  refine (HF.out _).mono ?_
  rintro e w3 ⟨rfl, hB3⟩
  have HB3 := hide_ (below_to HB2.out hB3)
  have hsz := hB3.size
  rw [E.out]
  clear hB3
  unfold stv
  go_wp2
  go_ret
  exact ⟨rfl, HB3.out.alloc (by have := HB3.out.size; omega) _⟩
set_option maxRecDepth 100000 in
set_option maxHeartbeats 8000000 in
theorem dst_16 (s : St) (x : In) (r : Int) (w : World) (hx : DOk x) (hs : s.ki < 18446744073709551616) (hop : x.op = 16) : Calls Tryz.prog 216 #[.agg #[], stv s, inv x, .int .i64 r] w fun e w' => e = .returned (.bool (dSt s x r)) ∧ Below w.heap.size w w' := by
  obtain ⟨B2, K1, KX, hz⟩ := box5_ok 148 w s x
  obtain ⟨w2, hw2⟩ : ∃ wx, box5 148 w s x = wx := ⟨_, rfl⟩
  rw [hw2] at B2 K1 KX hz
  have HB2 := hide_ B2
  obtain ⟨c0, c1, c2, c3, c4, c5, c6⟩ := K1.cs
  obtain ⟨i0, i1, i2, i3⟩ := KX.ci
  have fr1 := fun i => K1.frozen i
  unfold box5 at hw2
  have HF : Hid (∀ w, Calls Tryz.prog 217 #[stv s, .int .i64 x.a] w fun e w' => e = .returned (.tuple #[stv (fillP s x.a).1, .bool (fillP s x.a).2]) ∧ Below w.heap.size w w') := hide_ (fun w => fill_any s x.a w (hx.kid (by omega)) hs)
  obtain ⟨b, hb⟩ : ∃ b, dSt s x r = b := ⟨_, rfl⟩
  rw [hb]
  have Hb := hide_ hb
  have Hop := hide_ hop
  clear B2 K1 KX hx hs hb hop
  unfold stv inv
  go_enter Tryz.func216, Tryz.ntmps216
  go_upto_region 1 with fail
  try rw [hw2]
  clear hw2
  rw [Hop.out] at i0
  by_cases gc : r ≤ x.c
  · have E : Hid (false = b) := hide_ (by rw [← Hb.out]; unfold dSt; first | (simp [Hop.out, gc]; done) | (have := Hop.out; repeat (first | rw [if_pos (by omega)] | rw [if_neg (by omega)])))
    have f0 : (decide (r ≤ x.c)) = true := by first | (simp [gc]; done) | (simp; omega)
    have Hgc := hide_ gc
    clear gc
    go_wp2_with fail
    go_ret
    exact ⟨by rw [← E.out]; rfl, HB2.out⟩
  · have E : Hid ((fillP s x.a).2 = b) := hide_ (by rw [← Hb.out]; unfold dSt; first | (simp [Hop.out, gc]; done) | (have := Hop.out; repeat (first | rw [if_pos (by omega)] | rw [if_neg (by omega)])))
    have f0 : (decide (r ≤ x.c)) = false := by first | (simp [gc]; done) | (simp; omega)
    have Hgc := hide_ gc
    clear gc
    go_wp2_with fail
    refine (HF.out _).mono ?_
    rintro e w3 ⟨rfl, hB3⟩
    have HB3 := hide_ (below_to HB2.out hB3)
    have hsz := hB3.size
    rw [E.out]
    clear hB3
    unfold stv
    go_wp2
    go_ret
    exact ⟨rfl, HB3.out.alloc (by have := HB3.out.size; omega) _⟩
set_option maxRecDepth 100000 in
set_option maxHeartbeats 8000000 in
theorem dst_20 (s : St) (x : In) (r : Int) (w : World) (hx : DOk x) (hs : s.ki < 18446744073709551616) (hop : x.op = 20) : Calls Tryz.prog 216 #[.agg #[], stv s, inv x, .int .i64 r] w fun e w' => e = .returned (.bool (dSt s x r)) ∧ Below w.heap.size w w' := by
  obtain ⟨B2, K1, KX, hz⟩ := box5_ok 148 w s x
  obtain ⟨w2, hw2⟩ : ∃ wx, box5 148 w s x = wx := ⟨_, rfl⟩
  rw [hw2] at B2 K1 KX hz
  have HB2 := hide_ B2
  obtain ⟨c0, c1, c2, c3, c4, c5, c6⟩ := K1.cs
  obtain ⟨i0, i1, i2, i3⟩ := KX.ci
  have fr1 := fun i => K1.frozen i
  unfold box5 at hw2
  have HF : Hid (∀ w, Calls Tryz.prog 223 #[stv s] w fun e w' => e = .returned (.bool (wholeP s)) ∧ Below w.heap.size w w') := hide_ (fun w => wholeP_any s w hs)
  obtain ⟨b, hb⟩ : ∃ b, dSt s x r = b := ⟨_, rfl⟩
  rw [hb]
  have Hb := hide_ hb
  have Hop := hide_ hop
  clear B2 K1 KX hx hs hb hop
  unfold stv inv
  go_enter Tryz.func216, Tryz.ntmps216
  go_upto_region 1 with fail
  try rw [hw2]
  clear hw2
  rw [Hop.out] at i0
  have E : Hid (wholeP s = b) := hide_ (by rw [← Hb.out]; unfold dSt; first | (simp [Hop.out]; done) | (have := Hop.out; repeat (first | rw [if_pos (by omega)] | rw [if_neg (by omega)])))
  go_wp2_with fail
  refine (HF.out _).mono ?_
  rintro e w3 ⟨rfl, hB3⟩
  have HB3 := hide_ (below_to HB2.out hB3)
  rw [E.out]
  clear hB3
  go_wp2
  go_ret
  exact ⟨rfl, HB3.out⟩
end Go.Proofs.YtiojpohmgjdgfaaGreat

/- sound: the decoder's stands. -/
namespace Go.Proofs.YtiojpohmgjdgfaaGreat
open Go.RowKit
set_option linter.unusedVariables false
set_option linter.unusedSimpArgs false

set_option maxRecDepth 100000 in
set_option maxHeartbeats 8000000 in
theorem dst_17 (s : St) (x : In) (r : Int) (w : World) (hx : DOk x) (hs : s.ki < 18446744073709551616) (hop : x.op = 17) : Calls Tryz.prog 216 #[.agg #[], stv s, inv x, .int .i64 r] w fun e w' => e = .returned (.bool (dSt s x r)) ∧ Below w.heap.size w w' := by
  obtain ⟨B2, K1, KX, hz⟩ := box5_ok 148 w s x
  obtain ⟨w2, hw2⟩ : ∃ wx, box5 148 w s x = wx := ⟨_, rfl⟩
  rw [hw2] at B2 K1 KX hz
  have HB2 := hide_ B2
  obtain ⟨c0, c1, c2, c3, c4, c5, c6⟩ := K1.cs
  obtain ⟨i0, i1, i2, i3⟩ := KX.ci
  have fr1 := fun i => K1.frozen i
  unfold box5 at hw2
  have HF : Hid (∀ w, Calls Tryz.prog 217 #[stv s, .int .i64 x.a] w fun e w' => e = .returned (.tuple #[stv (fillP s x.a).1, .bool (fillP s x.a).2]) ∧ Below w.heap.size w w') := hide_ (fun w => fill_any s x.a w (hx.kid (by omega)) hs)
  obtain ⟨b, hb⟩ : ∃ b, dSt s x r = b := ⟨_, rfl⟩
  rw [hb]
  have Hb := hide_ hb
  have Hop := hide_ hop
  clear B2 K1 KX hx hs hb hop
  unfold stv inv
  go_enter Tryz.func216, Tryz.ntmps216
  go_upto_region 1 with fail
  try rw [hw2]
  clear hw2
  rw [Hop.out] at i0
  by_cases ga : x.a = -1
  · by_cases gp : s.pl = 1
    · by_cases gf : s.fr = 4
      · have E : Hid (decide (x.c < r) = b) := hide_ (by rw [← Hb.out]; unfold dSt; first | (simp [Hop.out, ga, gp, gf]; done) | (have := Hop.out; repeat (first | rw [if_pos (by omega)] | rw [if_neg (by omega)])))
        have f0 : (x.a == -1) = true := by first | (simp [ga, gp, gf]; done) | (simp; omega)
        have f1 : (s.pl == 1) = true := by first | (simp [ga, gp, gf]; done) | (simp; omega)
        have f2 : (s.fr == 4) = true := by first | (simp [ga, gp, gf]; done) | (simp; omega)
        have Hga := hide_ ga
        have Hgp := hide_ gp
        have Hgf := hide_ gf
        clear ga gp gf
        go_wp2_with fail
        go_ret
        exact ⟨by rw [← E.out]; rfl, HB2.out⟩
      · have E : Hid (false = b) := hide_ (by rw [← Hb.out]; unfold dSt; first | (simp [Hop.out, ga, gp, gf]; done) | (have := Hop.out; repeat (first | rw [if_pos (by omega)] | rw [if_neg (by omega)])))
        have f0 : (x.a == -1) = true := by first | (simp [ga, gp, gf]; done) | (simp; omega)
        have f1 : (s.pl == 1) = true := by first | (simp [ga, gp, gf]; done) | (simp; omega)
        have f2 : (s.fr == 4) = false := by first | (simp [ga, gp, gf]; done) | (simp; omega)
        have Hga := hide_ ga
        have Hgp := hide_ gp
        have Hgf := hide_ gf
        clear ga gp gf
        go_wp2_with fail
        go_ret
        exact ⟨by rw [← E.out]; rfl, HB2.out⟩
    · have E : Hid (false = b) := hide_ (by rw [← Hb.out]; unfold dSt; first | (simp [Hop.out, ga, gp]; done) | (have := Hop.out; repeat (first | rw [if_pos (by omega)] | rw [if_neg (by omega)])))
      have f0 : (x.a == -1) = true := by first | (simp [ga, gp]; done) | (simp; omega)
      have f1 : (s.pl == 1) = false := by first | (simp [ga, gp]; done) | (simp; omega)
      have Hga := hide_ ga
      have Hgp := hide_ gp
      clear ga gp
      go_wp2_with fail
      go_ret
      exact ⟨by rw [← E.out]; rfl, HB2.out⟩
  · by_cases gp : s.pl = 3
    · by_cases gb : x.b = s.pa
      · by_cases gt : s.tb ≤ x.b
        · have E : Hid (false = b) := hide_ (by rw [← Hb.out]; unfold dSt; first | (simp [Hop.out, ga, gp, gb, gt]; done) | (have := Hop.out; repeat (first | rw [if_pos (by omega)] | rw [if_neg (by omega)])))
          have f0 : (x.a == -1) = false := by first | (simp [ga, gp, gb, gt]; done) | (simp; omega)
          have f1 : (s.pl != 3) = false := by first | (simp [ga, gp, gb, gt]; done) | (simp; omega)
          have f2 : (x.b != s.pa) = false := by first | (simp [ga, gp, gb, gt]; done) | (simp; omega)
          have f3 : (decide (s.tb ≤ x.b)) = true := by first | (simp [ga, gp, gb, gt]; done) | (simp; omega)
          have Hga := hide_ ga
          have Hgp := hide_ gp
          have Hgb := hide_ gb
          have Hgt := hide_ gt
          clear ga gp gb gt
          go_wp2_with fail
          go_ret
          exact ⟨by rw [← E.out]; rfl, HB2.out⟩
        · by_cases gc : r ≤ x.c
          · have E : Hid (false = b) := hide_ (by rw [← Hb.out]; unfold dSt; first | (simp [Hop.out, ga, gp, gb, gt, gc]; done) | (have := Hop.out; repeat (first | rw [if_pos (by omega)] | rw [if_neg (by omega)])))
            have f0 : (x.a == -1) = false := by first | (simp [ga, gp, gb, gt, gc]; done) | (simp; omega)
            have f1 : (s.pl != 3) = false := by first | (simp [ga, gp, gb, gt, gc]; done) | (simp; omega)
            have f2 : (x.b != s.pa) = false := by first | (simp [ga, gp, gb, gt, gc]; done) | (simp; omega)
            have f3 : (decide (s.tb ≤ x.b)) = false := by first | (simp [ga, gp, gb, gt, gc]; done) | (simp; omega)
            have f4 : (decide (r ≤ x.c)) = true := by first | (simp [ga, gp, gb, gt, gc]; done) | (simp; omega)
            have Hga := hide_ ga
            have Hgp := hide_ gp
            have Hgb := hide_ gb
            have Hgt := hide_ gt
            have Hgc := hide_ gc
            clear ga gp gb gt gc
            go_wp2_with fail
            go_ret
            exact ⟨by rw [← E.out]; rfl, HB2.out⟩
          · have E : Hid ((fillP s x.a).2 = b) := hide_ (by rw [← Hb.out]; unfold dSt; first | (simp [Hop.out, ga, gp, gb, gt, gc]; done) | (have := Hop.out; repeat (first | rw [if_pos (by omega)] | rw [if_neg (by omega)])))
            have f0 : (x.a == -1) = false := by first | (simp [ga, gp, gb, gt, gc]; done) | (simp; omega)
            have f1 : (s.pl != 3) = false := by first | (simp [ga, gp, gb, gt, gc]; done) | (simp; omega)
            have f2 : (x.b != s.pa) = false := by first | (simp [ga, gp, gb, gt, gc]; done) | (simp; omega)
            have f3 : (decide (s.tb ≤ x.b)) = false := by first | (simp [ga, gp, gb, gt, gc]; done) | (simp; omega)
            have f4 : (decide (r ≤ x.c)) = false := by first | (simp [ga, gp, gb, gt, gc]; done) | (simp; omega)
            have Hga := hide_ ga
            have Hgp := hide_ gp
            have Hgb := hide_ gb
            have Hgt := hide_ gt
            have Hgc := hide_ gc
            clear ga gp gb gt gc
            go_wp2_with fail
            refine (HF.out _).mono ?_
            rintro e w3 ⟨rfl, hB3⟩
            have HB3 := hide_ (below_to HB2.out hB3)
            have hsz := hB3.size
            rw [E.out]
            clear hB3
            unfold stv
            go_wp2
            go_ret
            exact ⟨rfl, HB3.out.alloc (by have := HB3.out.size; omega) _⟩
      · have E : Hid (false = b) := hide_ (by rw [← Hb.out]; unfold dSt; first | (simp [Hop.out, ga, gp, gb]; done) | (have := Hop.out; repeat (first | rw [if_pos (by omega)] | rw [if_neg (by omega)])))
        have f0 : (x.a == -1) = false := by first | (simp [ga, gp, gb]; done) | (simp; omega)
        have f1 : (s.pl != 3) = false := by first | (simp [ga, gp, gb]; done) | (simp; omega)
        have f2 : (x.b != s.pa) = true := by first | (simp [ga, gp, gb]; done) | (simp; omega)
        have Hga := hide_ ga
        have Hgp := hide_ gp
        have Hgb := hide_ gb
        clear ga gp gb
        go_wp2_with fail
        go_ret
        exact ⟨by rw [← E.out]; rfl, HB2.out⟩
    · have E : Hid (false = b) := hide_ (by rw [← Hb.out]; unfold dSt; first | (simp [Hop.out, ga, gp]; done) | (have := Hop.out; repeat (first | rw [if_pos (by omega)] | rw [if_neg (by omega)])))
      have f0 : (x.a == -1) = false := by first | (simp [ga, gp]; done) | (simp; omega)
      have f1 : (s.pl != 3) = true := by first | (simp [ga, gp]; done) | (simp; omega)
      have Hga := hide_ ga
      have Hgp := hide_ gp
      clear ga gp
      go_wp2_with fail
      go_ret
      exact ⟨by rw [← E.out]; rfl, HB2.out⟩
end Go.Proofs.YtiojpohmgjdgfaaGreat

/- sound: the decoder's stands. -/
namespace Go.Proofs.YtiojpohmgjdgfaaGreat
open Go.RowKit
set_option linter.unusedVariables false
set_option linter.unusedSimpArgs false

set_option maxRecDepth 100000 in
set_option maxHeartbeats 8000000 in
theorem dst_5 (s : St) (x : In) (r : Int) (w : World) (hx : DOk x) (hs : s.ki < 18446744073709551616) (hop : x.op = 5) : Calls Tryz.prog 216 #[.agg #[], stv s, inv x, .int .i64 r] w fun e w' => e = .returned (.bool (dSt s x r)) ∧ Below w.heap.size w w' := by
  obtain ⟨B2, K1, KX, hz⟩ := box5_ok 148 w s x
  obtain ⟨w2, hw2⟩ : ∃ wx, box5 148 w s x = wx := ⟨_, rfl⟩
  rw [hw2] at B2 K1 KX hz
  have HB2 := hide_ B2
  obtain ⟨c0, c1, c2, c3, c4, c5, c6⟩ := K1.cs
  obtain ⟨i0, i1, i2, i3⟩ := KX.ci
  have fr1 := fun i => K1.frozen i
  unfold box5 at hw2
  obtain ⟨b, hb⟩ : ∃ b, dSt s x r = b := ⟨_, rfl⟩
  rw [hb]
  have Hb := hide_ hb
  have Hop := hide_ hop
  clear B2 K1 KX hx hs hb hop
  unfold stv inv
  go_enter Tryz.func216, Tryz.ntmps216
  go_upto_region 1 with fail
  try rw [hw2]
  clear hw2
  rw [Hop.out] at i0
  have E : Hid (decide (s.pl = 2) = b) := hide_ (by rw [← Hb.out]; unfold dSt; first | (simp [Hop.out]; done) | (have := Hop.out; repeat (first | rw [if_pos (by omega)] | rw [if_neg (by omega)])))
  go_wp2_with fail
  go_ret
  exact ⟨by rw [← E.out]; rfl, HB2.out⟩
set_option maxRecDepth 100000 in
set_option maxHeartbeats 8000000 in
theorem dst_6 (s : St) (x : In) (r : Int) (w : World) (hx : DOk x) (hs : s.ki < 18446744073709551616) (hop : x.op = 6) : Calls Tryz.prog 216 #[.agg #[], stv s, inv x, .int .i64 r] w fun e w' => e = .returned (.bool (dSt s x r)) ∧ Below w.heap.size w w' := by
  obtain ⟨B2, K1, KX, hz⟩ := box5_ok 148 w s x
  obtain ⟨w2, hw2⟩ : ∃ wx, box5 148 w s x = wx := ⟨_, rfl⟩
  rw [hw2] at B2 K1 KX hz
  have HB2 := hide_ B2
  obtain ⟨c0, c1, c2, c3, c4, c5, c6⟩ := K1.cs
  obtain ⟨i0, i1, i2, i3⟩ := KX.ci
  have fr1 := fun i => K1.frozen i
  unfold box5 at hw2
  obtain ⟨b, hb⟩ : ∃ b, dSt s x r = b := ⟨_, rfl⟩
  rw [hb]
  have Hb := hide_ hb
  have Hop := hide_ hop
  clear B2 K1 KX hx hs hb hop
  unfold stv inv
  go_enter Tryz.func216, Tryz.ntmps216
  go_upto_region 1 with fail
  try rw [hw2]
  clear hw2
  rw [Hop.out] at i0
  have E : Hid (decide (s.pl = 2) = b) := hide_ (by rw [← Hb.out]; unfold dSt; first | (simp [Hop.out]; done) | (have := Hop.out; repeat (first | rw [if_pos (by omega)] | rw [if_neg (by omega)])))
  go_wp2_with fail
  go_ret
  exact ⟨by rw [← E.out]; rfl, HB2.out⟩
set_option maxRecDepth 100000 in
set_option maxHeartbeats 8000000 in
theorem dst_7 (s : St) (x : In) (r : Int) (w : World) (hx : DOk x) (hs : s.ki < 18446744073709551616) (hop : x.op = 7) : Calls Tryz.prog 216 #[.agg #[], stv s, inv x, .int .i64 r] w fun e w' => e = .returned (.bool (dSt s x r)) ∧ Below w.heap.size w w' := by
  obtain ⟨B2, K1, KX, hz⟩ := box5_ok 148 w s x
  obtain ⟨w2, hw2⟩ : ∃ wx, box5 148 w s x = wx := ⟨_, rfl⟩
  rw [hw2] at B2 K1 KX hz
  have HB2 := hide_ B2
  obtain ⟨c0, c1, c2, c3, c4, c5, c6⟩ := K1.cs
  obtain ⟨i0, i1, i2, i3⟩ := KX.ci
  have fr1 := fun i => K1.frozen i
  unfold box5 at hw2
  obtain ⟨b, hb⟩ : ∃ b, dSt s x r = b := ⟨_, rfl⟩
  rw [hb]
  have Hb := hide_ hb
  have Hop := hide_ hop
  clear B2 K1 KX hx hs hb hop
  unfold stv inv
  go_enter Tryz.func216, Tryz.ntmps216
  go_upto_region 1 with fail
  try rw [hw2]
  clear hw2
  rw [Hop.out] at i0
  have E : Hid (decide (s.pl = 2) = b) := hide_ (by rw [← Hb.out]; unfold dSt; first | (simp [Hop.out]; done) | (have := Hop.out; repeat (first | rw [if_pos (by omega)] | rw [if_neg (by omega)])))
  go_wp2_with fail
  go_ret
  exact ⟨by rw [← E.out]; rfl, HB2.out⟩
set_option maxRecDepth 100000 in
set_option maxHeartbeats 8000000 in
theorem dst_8 (s : St) (x : In) (r : Int) (w : World) (hx : DOk x) (hs : s.ki < 18446744073709551616) (hop : x.op = 8) : Calls Tryz.prog 216 #[.agg #[], stv s, inv x, .int .i64 r] w fun e w' => e = .returned (.bool (dSt s x r)) ∧ Below w.heap.size w w' := by
  obtain ⟨B2, K1, KX, hz⟩ := box5_ok 148 w s x
  obtain ⟨w2, hw2⟩ : ∃ wx, box5 148 w s x = wx := ⟨_, rfl⟩
  rw [hw2] at B2 K1 KX hz
  have HB2 := hide_ B2
  obtain ⟨c0, c1, c2, c3, c4, c5, c6⟩ := K1.cs
  obtain ⟨i0, i1, i2, i3⟩ := KX.ci
  have fr1 := fun i => K1.frozen i
  unfold box5 at hw2
  obtain ⟨b, hb⟩ : ∃ b, dSt s x r = b := ⟨_, rfl⟩
  rw [hb]
  have Hb := hide_ hb
  have Hop := hide_ hop
  clear B2 K1 KX hx hs hb hop
  unfold stv inv
  go_enter Tryz.func216, Tryz.ntmps216
  go_upto_region 1 with fail
  try rw [hw2]
  clear hw2
  rw [Hop.out] at i0
  have E : Hid (decide (s.pl = 2) = b) := hide_ (by rw [← Hb.out]; unfold dSt; first | (simp [Hop.out]; done) | (have := Hop.out; repeat (first | rw [if_pos (by omega)] | rw [if_neg (by omega)])))
  go_wp2_with fail
  go_ret
  exact ⟨by rw [← E.out]; rfl, HB2.out⟩
set_option maxRecDepth 100000 in
set_option maxHeartbeats 8000000 in
theorem dst_10 (s : St) (x : In) (r : Int) (w : World) (hx : DOk x) (hs : s.ki < 18446744073709551616) (hop : x.op = 10) : Calls Tryz.prog 216 #[.agg #[], stv s, inv x, .int .i64 r] w fun e w' => e = .returned (.bool (dSt s x r)) ∧ Below w.heap.size w w' := by
  obtain ⟨B2, K1, KX, hz⟩ := box5_ok 148 w s x
  obtain ⟨w2, hw2⟩ : ∃ wx, box5 148 w s x = wx := ⟨_, rfl⟩
  rw [hw2] at B2 K1 KX hz
  have HB2 := hide_ B2
  obtain ⟨c0, c1, c2, c3, c4, c5, c6⟩ := K1.cs
  obtain ⟨i0, i1, i2, i3⟩ := KX.ci
  have fr1 := fun i => K1.frozen i
  unfold box5 at hw2
  have HF : Hid (∀ w, Calls Tryz.prog 222 #[stv s, .int .i64 x.a] w fun e w' => e = .returned (.bool (hasP s x.a)) ∧ Below w.heap.size w w') := hide_ (fun w => hasP_any s x.a w)
  obtain ⟨b, hb⟩ : ∃ b, dSt s x r = b := ⟨_, rfl⟩
  rw [hb]
  have Hb := hide_ hb
  have Hop := hide_ hop
  clear B2 K1 KX hx hs hb hop
  unfold stv inv
  go_enter Tryz.func216, Tryz.ntmps216
  go_upto_region 1 with fail
  try rw [hw2]
  clear hw2
  rw [Hop.out] at i0
  have E : Hid (hasP s x.a = b) := hide_ (by rw [← Hb.out]; unfold dSt; first | (simp [Hop.out]; done) | (have := Hop.out; repeat (first | rw [if_pos (by omega)] | rw [if_neg (by omega)])))
  go_wp2_with fail
  refine (HF.out _).mono ?_
  rintro e w3 ⟨rfl, hB3⟩
  have HB3 := hide_ (below_to HB2.out hB3)
  rw [E.out]
  clear hB3
  go_wp2
  go_ret
  exact ⟨rfl, HB3.out⟩
set_option maxRecDepth 100000 in
set_option maxHeartbeats 8000000 in
theorem dst_11 (s : St) (x : In) (r : Int) (w : World) (hx : DOk x) (hs : s.ki < 18446744073709551616) (hop : x.op = 11) : Calls Tryz.prog 216 #[.agg #[], stv s, inv x, .int .i64 r] w fun e w' => e = .returned (.bool (dSt s x r)) ∧ Below w.heap.size w w' := by
  obtain ⟨B2, K1, KX, hz⟩ := box5_ok 148 w s x
  obtain ⟨w2, hw2⟩ : ∃ wx, box5 148 w s x = wx := ⟨_, rfl⟩
  rw [hw2] at B2 K1 KX hz
  have HB2 := hide_ B2
  obtain ⟨c0, c1, c2, c3, c4, c5, c6⟩ := K1.cs
  obtain ⟨i0, i1, i2, i3⟩ := KX.ci
  have fr1 := fun i => K1.frozen i
  unfold box5 at hw2
  obtain ⟨b, hb⟩ : ∃ b, dSt s x r = b := ⟨_, rfl⟩
  rw [hb]
  have Hb := hide_ hb
  have Hop := hide_ hop
  clear B2 K1 KX hx hs hb hop
  unfold stv inv
  go_enter Tryz.func216, Tryz.ntmps216
  go_upto_region 1 with fail
  try rw [hw2]
  clear hw2
  rw [Hop.out] at i0
  by_cases gp : s.pl = 1
  · have E : Hid (decide (s.tb = 0) = b) := hide_ (by rw [← Hb.out]; unfold dSt; first | (simp [Hop.out, gp]; done) | (have := Hop.out; repeat (first | rw [if_pos (by omega)] | rw [if_neg (by omega)])))
    have f0 : (s.pl == 1) = true := by first | (simp [gp]; done) | (simp; omega)
    have Hgp := hide_ gp
    clear gp
    go_wp2_with fail
    go_ret
    exact ⟨by rw [← E.out]; rfl, HB2.out⟩
  · have E : Hid (false = b) := hide_ (by rw [← Hb.out]; unfold dSt; first | (simp [Hop.out, gp]; done) | (have := Hop.out; repeat (first | rw [if_pos (by omega)] | rw [if_neg (by omega)])))
    have f0 : (s.pl == 1) = false := by first | (simp [gp]; done) | (simp; omega)
    have Hgp := hide_ gp
    clear gp
    go_wp2_with fail
    go_ret
    exact ⟨by rw [← E.out]; rfl, HB2.out⟩
set_option maxRecDepth 100000 in
set_option maxHeartbeats 8000000 in
theorem dst_13 (s : St) (x : In) (r : Int) (w : World) (hx : DOk x) (hs : s.ki < 18446744073709551616) (hop : x.op = 13) : Calls Tryz.prog 216 #[.agg #[], stv s, inv x, .int .i64 r] w fun e w' => e = .returned (.bool (dSt s x r)) ∧ Below w.heap.size w w' := by
  obtain ⟨B2, K1, KX, hz⟩ := box5_ok 148 w s x
  obtain ⟨w2, hw2⟩ : ∃ wx, box5 148 w s x = wx := ⟨_, rfl⟩
  rw [hw2] at B2 K1 KX hz
  have HB2 := hide_ B2
  obtain ⟨c0, c1, c2, c3, c4, c5, c6⟩ := K1.cs
  obtain ⟨i0, i1, i2, i3⟩ := KX.ci
  have fr1 := fun i => K1.frozen i
  unfold box5 at hw2
  obtain ⟨b, hb⟩ : ∃ b, dSt s x r = b := ⟨_, rfl⟩
  rw [hb]
  have Hb := hide_ hb
  have Hop := hide_ hop
  clear B2 K1 KX hx hs hb hop
  unfold stv inv
  go_enter Tryz.func216, Tryz.ntmps216
  go_upto_region 1 with fail
  try rw [hw2]
  clear hw2
  rw [Hop.out] at i0
  have E : Hid (decide (s.pl = 1) = b) := hide_ (by rw [← Hb.out]; unfold dSt; first | (simp [Hop.out]; done) | (have := Hop.out; repeat (first | rw [if_pos (by omega)] | rw [if_neg (by omega)])))
  go_wp2_with fail
  go_ret
  exact ⟨by rw [← E.out]; rfl, HB2.out⟩
end Go.Proofs.YtiojpohmgjdgfaaGreat

/- sound: the decoder's stands. -/
namespace Go.Proofs.YtiojpohmgjdgfaaGreat
open Go.RowKit
set_option linter.unusedVariables false
set_option linter.unusedSimpArgs false

set_option maxRecDepth 100000 in
set_option maxHeartbeats 8000000 in
theorem dst_14 (s : St) (x : In) (r : Int) (w : World) (hx : DOk x) (hs : s.ki < 18446744073709551616) (hop : x.op = 14) : Calls Tryz.prog 216 #[.agg #[], stv s, inv x, .int .i64 r] w fun e w' => e = .returned (.bool (dSt s x r)) ∧ Below w.heap.size w w' := by
  obtain ⟨B2, K1, KX, hz⟩ := box5_ok 148 w s x
  obtain ⟨w2, hw2⟩ : ∃ wx, box5 148 w s x = wx := ⟨_, rfl⟩
  rw [hw2] at B2 K1 KX hz
  have HB2 := hide_ B2
  obtain ⟨c0, c1, c2, c3, c4, c5, c6⟩ := K1.cs
  obtain ⟨i0, i1, i2, i3⟩ := KX.ci
  have fr1 := fun i => K1.frozen i
  unfold box5 at hw2
  obtain ⟨b, hb⟩ : ∃ b, dSt s x r = b := ⟨_, rfl⟩
  rw [hb]
  have Hb := hide_ hb
  have Hop := hide_ hop
  clear B2 K1 KX hx hs hb hop
  unfold stv inv
  go_enter Tryz.func216, Tryz.ntmps216
  go_upto_region 1 with fail
  try rw [hw2]
  clear hw2
  rw [Hop.out] at i0
  have E : Hid (decide (s.pl = 1) = b) := hide_ (by rw [← Hb.out]; unfold dSt; first | (simp [Hop.out]; done) | (have := Hop.out; repeat (first | rw [if_pos (by omega)] | rw [if_neg (by omega)])))
  go_wp2_with fail
  go_ret
  exact ⟨by rw [← E.out]; rfl, HB2.out⟩
set_option maxRecDepth 100000 in
set_option maxHeartbeats 8000000 in
theorem dst_18 (s : St) (x : In) (r : Int) (w : World) (hx : DOk x) (hs : s.ki < 18446744073709551616) (hop : x.op = 18) : Calls Tryz.prog 216 #[.agg #[], stv s, inv x, .int .i64 r] w fun e w' => e = .returned (.bool (dSt s x r)) ∧ Below w.heap.size w w' := by
  obtain ⟨B2, K1, KX, hz⟩ := box5_ok 148 w s x
  obtain ⟨w2, hw2⟩ : ∃ wx, box5 148 w s x = wx := ⟨_, rfl⟩
  rw [hw2] at B2 K1 KX hz
  have HB2 := hide_ B2
  obtain ⟨c0, c1, c2, c3, c4, c5, c6⟩ := K1.cs
  obtain ⟨i0, i1, i2, i3⟩ := KX.ci
  have fr1 := fun i => K1.frozen i
  unfold box5 at hw2
  obtain ⟨b, hb⟩ : ∃ b, dSt s x r = b := ⟨_, rfl⟩
  rw [hb]
  have Hb := hide_ hb
  have Hop := hide_ hop
  clear B2 K1 KX hx hs hb hop
  unfold stv inv
  go_enter Tryz.func216, Tryz.ntmps216
  go_upto_region 1 with fail
  try rw [hw2]
  clear hw2
  rw [Hop.out] at i0
  by_cases ga : 0 ≤ x.a
  · by_cases gp : s.pl = 3
    · have E : Hid (decide (x.a < s.pa) = b) := hide_ (by rw [← Hb.out]; unfold dSt; first | (simp [Hop.out, ga, gp]; done) | (have := Hop.out; repeat (first | rw [if_pos (by omega)] | rw [if_neg (by omega)])))
      have f0 : (decide (0 ≤ x.a)) = true := by first | (simp [ga, gp]; done) | (simp; omega)
      have f1 : (s.pl == 3) = true := by first | (simp [ga, gp]; done) | (simp; omega)
      have Hga := hide_ ga
      have Hgp := hide_ gp
      clear ga gp
      go_wp2_with fail
      go_ret
      exact ⟨by rw [← E.out]; rfl, HB2.out⟩
    · have E : Hid (false = b) := hide_ (by rw [← Hb.out]; unfold dSt; first | (simp [Hop.out, ga, gp]; done) | (have := Hop.out; repeat (first | rw [if_pos (by omega)] | rw [if_neg (by omega)])))
      have f0 : (decide (0 ≤ x.a)) = true := by first | (simp [ga, gp]; done) | (simp; omega)
      have f1 : (s.pl == 3) = false := by first | (simp [ga, gp]; done) | (simp; omega)
      have Hga := hide_ ga
      have Hgp := hide_ gp
      clear ga gp
      go_wp2_with fail
      go_ret
      exact ⟨by rw [← E.out]; rfl, HB2.out⟩
  · by_cases gp : s.pl = 1
    · have E : Hid (decide (s.tb = -1) = b) := hide_ (by rw [← Hb.out]; unfold dSt; first | (simp [Hop.out, ga, gp]; done) | (have := Hop.out; repeat (first | rw [if_pos (by omega)] | rw [if_neg (by omega)])))
      have f0 : (decide (0 ≤ x.a)) = false := by first | (simp [ga, gp]; done) | (simp; omega)
      have f1 : (s.pl == 1) = true := by first | (simp [ga, gp]; done) | (simp; omega)
      have Hga := hide_ ga
      have Hgp := hide_ gp
      clear ga gp
      go_wp2_with fail
      go_ret
      exact ⟨by rw [← E.out]; rfl, HB2.out⟩
    · have E : Hid (false = b) := hide_ (by rw [← Hb.out]; unfold dSt; first | (simp [Hop.out, ga, gp]; done) | (have := Hop.out; repeat (first | rw [if_pos (by omega)] | rw [if_neg (by omega)])))
      have f0 : (decide (0 ≤ x.a)) = false := by first | (simp [ga, gp]; done) | (simp; omega)
      have f1 : (s.pl == 1) = false := by first | (simp [ga, gp]; done) | (simp; omega)
      have Hga := hide_ ga
      have Hgp := hide_ gp
      clear ga gp
      go_wp2_with fail
      go_ret
      exact ⟨by rw [← E.out]; rfl, HB2.out⟩
set_option maxRecDepth 100000 in
set_option maxHeartbeats 8000000 in
theorem dst_12 (s : St) (x : In) (r : Int) (w : World) (hx : DOk x) (hs : s.ki < 18446744073709551616) (hop : x.op = 12) : Calls Tryz.prog 216 #[.agg #[], stv s, inv x, .int .i64 r] w fun e w' => e = .returned (.bool (dSt s x r)) ∧ Below w.heap.size w w' := by
  obtain ⟨B2, K1, KX, hz⟩ := box5_ok 148 w s x
  obtain ⟨w2, hw2⟩ : ∃ wx, box5 148 w s x = wx := ⟨_, rfl⟩
  rw [hw2] at B2 K1 KX hz
  have HB2 := hide_ B2
  obtain ⟨c0, c1, c2, c3, c4, c5, c6⟩ := K1.cs
  obtain ⟨i0, i1, i2, i3⟩ := KX.ci
  have fr1 := fun i => K1.frozen i
  unfold box5 at hw2
  obtain ⟨b, hb⟩ : ∃ b, dSt s x r = b := ⟨_, rfl⟩
  rw [hb]
  have Hb := hide_ hb
  have Hop := hide_ hop
  clear B2 K1 KX hx hs hb hop
  unfold stv inv
  go_enter Tryz.func216, Tryz.ntmps216
  go_upto_region 1 with fail
  try rw [hw2]
  clear hw2
  rw [Hop.out] at i0
  by_cases gp : s.pl = 1
  · have E : Hid (decide (s.tb = -1) = b) := hide_ (by rw [← Hb.out]; unfold dSt; first | (simp [Hop.out, gp]; done) | (have := Hop.out; repeat (first | rw [if_pos (by omega)] | rw [if_neg (by omega)])))
    have f0 : (s.pl == 1) = true := by first | (simp [gp]; done) | (simp; omega)
    have Hgp := hide_ gp
    clear gp
    go_wp2_with fail
    go_ret
    exact ⟨by rw [← E.out]; rfl, HB2.out⟩
  · have E : Hid (false = b) := hide_ (by rw [← Hb.out]; unfold dSt; first | (simp [Hop.out, gp]; done) | (have := Hop.out; repeat (first | rw [if_pos (by omega)] | rw [if_neg (by omega)])))
    have f0 : (s.pl == 1) = false := by first | (simp [gp]; done) | (simp; omega)
    have Hgp := hide_ gp
    clear gp
    go_wp2_with fail
    go_ret
    exact ⟨by rw [← E.out]; rfl, HB2.out⟩
set_option maxRecDepth 100000 in
set_option maxHeartbeats 8000000 in
theorem dst_15 (s : St) (x : In) (r : Int) (w : World) (hx : DOk x) (hs : s.ki < 18446744073709551616) (hop : x.op = 15) : Calls Tryz.prog 216 #[.agg #[], stv s, inv x, .int .i64 r] w fun e w' => e = .returned (.bool (dSt s x r)) ∧ Below w.heap.size w w' := by
  obtain ⟨B2, K1, KX, hz⟩ := box5_ok 148 w s x
  obtain ⟨w2, hw2⟩ : ∃ wx, box5 148 w s x = wx := ⟨_, rfl⟩
  rw [hw2] at B2 K1 KX hz
  have HB2 := hide_ B2
  obtain ⟨c0, c1, c2, c3, c4, c5, c6⟩ := K1.cs
  obtain ⟨i0, i1, i2, i3⟩ := KX.ci
  have fr1 := fun i => K1.frozen i
  unfold box5 at hw2
  obtain ⟨b, hb⟩ : ∃ b, dSt s x r = b := ⟨_, rfl⟩
  rw [hb]
  have Hb := hide_ hb
  have Hop := hide_ hop
  clear B2 K1 KX hx hs hb hop
  unfold stv inv
  go_enter Tryz.func216, Tryz.ntmps216
  go_upto_region 1 with fail
  try rw [hw2]
  clear hw2
  rw [Hop.out] at i0
  by_cases gp : s.pl = 1
  · have E : Hid (decide (s.tb = -1) = b) := hide_ (by rw [← Hb.out]; unfold dSt; first | (simp [Hop.out, gp]; done) | (have := Hop.out; repeat (first | rw [if_pos (by omega)] | rw [if_neg (by omega)])))
    have f0 : (s.pl == 1) = true := by first | (simp [gp]; done) | (simp; omega)
    have Hgp := hide_ gp
    clear gp
    go_wp2_with fail
    go_ret
    exact ⟨by rw [← E.out]; rfl, HB2.out⟩
  · have E : Hid (false = b) := hide_ (by rw [← Hb.out]; unfold dSt; first | (simp [Hop.out, gp]; done) | (have := Hop.out; repeat (first | rw [if_pos (by omega)] | rw [if_neg (by omega)])))
    have f0 : (s.pl == 1) = false := by first | (simp [gp]; done) | (simp; omega)
    have Hgp := hide_ gp
    clear gp
    go_wp2_with fail
    go_ret
    exact ⟨by rw [← E.out]; rfl, HB2.out⟩
set_option maxRecDepth 100000 in
set_option maxHeartbeats 8000000 in
theorem dst_x (s : St) (x : In) (r : Int) (w : World) (hx : DOk x) (hs : s.ki < 18446744073709551616) (hop : x.op ≠ 17 ∧ x.op ≠ 16 ∧ x.op ≠ 1 ∧ x.op ≠ 3 ∧ x.op ≠ 4 ∧ x.op ≠ 2 ∧ x.op ≠ 5 ∧ x.op ≠ 6 ∧ x.op ≠ 7 ∧ x.op ≠ 8 ∧ x.op ≠ 10 ∧ x.op ≠ 11 ∧ x.op ≠ 13 ∧ x.op ≠ 14 ∧ x.op ≠ 18 ∧ x.op ≠ 12 ∧ x.op ≠ 15 ∧ x.op ≠ 20) : Calls Tryz.prog 216 #[.agg #[], stv s, inv x, .int .i64 r] w fun e w' => e = .returned (.bool (dSt s x r)) ∧ Below w.heap.size w w' := by
  obtain ⟨B2, K1, KX, hz⟩ := box5_ok 148 w s x
  obtain ⟨w2, hw2⟩ : ∃ wx, box5 148 w s x = wx := ⟨_, rfl⟩
  rw [hw2] at B2 K1 KX hz
  have HB2 := hide_ B2
  obtain ⟨c0, c1, c2, c3, c4, c5, c6⟩ := K1.cs
  obtain ⟨i0, i1, i2, i3⟩ := KX.ci
  have fr1 := fun i => K1.frozen i
  unfold box5 at hw2
  obtain ⟨b, hb⟩ : ∃ b, dSt s x r = b := ⟨_, rfl⟩
  rw [hb]
  have Hb := hide_ hb
  have Hop := hide_ hop
  clear B2 K1 KX hx hs hb hop
  unfold stv inv
  go_enter Tryz.func216, Tryz.ntmps216
  go_upto_region 1 with fail
  try rw [hw2]
  clear hw2
  have q17 : (x.op == 17) = false := by have := Hop.out; simp; omega
  have q16 : (x.op == 16) = false := by have := Hop.out; simp; omega
  have q1 : (x.op == 1) = false := by have := Hop.out; simp; omega
  have q3 : (x.op == 3) = false := by have := Hop.out; simp; omega
  have q4 : (x.op == 4) = false := by have := Hop.out; simp; omega
  have q2 : (x.op == 2) = false := by have := Hop.out; simp; omega
  have q5 : (x.op == 5) = false := by have := Hop.out; simp; omega
  have q6 : (x.op == 6) = false := by have := Hop.out; simp; omega
  have q7 : (x.op == 7) = false := by have := Hop.out; simp; omega
  have q8 : (x.op == 8) = false := by have := Hop.out; simp; omega
  have q10 : (x.op == 10) = false := by have := Hop.out; simp; omega
  have q11 : (x.op == 11) = false := by have := Hop.out; simp; omega
  have q13 : (x.op == 13) = false := by have := Hop.out; simp; omega
  have q14 : (x.op == 14) = false := by have := Hop.out; simp; omega
  have q18 : (x.op == 18) = false := by have := Hop.out; simp; omega
  have q12 : (x.op == 12) = false := by have := Hop.out; simp; omega
  have q15 : (x.op == 15) = false := by have := Hop.out; simp; omega
  have q20 : (x.op == 20) = false := by have := Hop.out; simp; omega
  have E : Hid (decide (x.op = 19) = b) := hide_ (by have := Hop.out; rw [← Hb.out]; unfold dSt; repeat (first | rw [if_pos (by omega)] | rw [if_neg (by omega)]))
  go_wp2_with fail
  go_ret
  exact ⟨by rw [← E.out]; rfl, HB2.out⟩
end Go.Proofs.YtiojpohmgjdgfaaGreat

/- sound: the decoder's stands, whole. -/
namespace Go.Proofs.YtiojpohmgjdgfaaGreat
open Go.RowKit
set_option linter.unusedVariables false
set_option linter.unusedSimpArgs false

theorem dstands_any (s : St) (x : In) (r : Int) (w : World) (hx : DOk x) (hs : s.ki < 18446744073709551616) : Calls Tryz.prog 216 #[.agg #[], stv s, inv x, .int .i64 r] w fun e w' => e = .returned (.bool (dSt s x r)) ∧ Below w.heap.size w w' := by
  by_cases h17 : x.op = 17
  · exact dst_17 s x r w hx hs h17
  by_cases h16 : x.op = 16
  · exact dst_16 s x r w hx hs h16
  by_cases h1 : x.op = 1
  · exact dst_1 s x r w hx hs h1
  by_cases h3 : x.op = 3
  · exact dst_3 s x r w hx hs h3
  by_cases h4 : x.op = 4
  · exact dst_4 s x r w hx hs h4
  by_cases h2 : x.op = 2
  · exact dst_2 s x r w hx hs h2
  by_cases h5 : x.op = 5
  · exact dst_5 s x r w hx hs h5
  by_cases h6 : x.op = 6
  · exact dst_6 s x r w hx hs h6
  by_cases h7 : x.op = 7
  · exact dst_7 s x r w hx hs h7
  by_cases h8 : x.op = 8
  · exact dst_8 s x r w hx hs h8
  by_cases h10 : x.op = 10
  · exact dst_10 s x r w hx hs h10
  by_cases h11 : x.op = 11
  · exact dst_11 s x r w hx hs h11
  by_cases h13 : x.op = 13
  · exact dst_13 s x r w hx hs h13
  by_cases h14 : x.op = 14
  · exact dst_14 s x r w hx hs h14
  by_cases h18 : x.op = 18
  · exact dst_18 s x r w hx hs h18
  by_cases h12 : x.op = 12
  · exact dst_12 s x r w hx hs h12
  by_cases h15 : x.op = 15
  · exact dst_15 s x r w hx hs h15
  by_cases h20 : x.op = 20
  · exact dst_20 s x r w hx hs h20
  exact dst_x s x r w hx hs ⟨h17, h16, h1, h3, h4, h2, h5, h6, h7, h8, h10, h11, h13, h14, h18, h12, h15, h20⟩
end Go.Proofs.YtiojpohmgjdgfaaGreat

/- sound: a machine's methods through the interface. -/
namespace Go.Proofs.YtiojpohmgjdgfaaGreat
open Go.RowKit
set_option linter.unusedVariables false

theorem me0 : Array.find? (fun x => x.name == "mortise/sound.begin") Tryz.t147.methods = Tryz.t147.methods[0]? := by kernel_rfl
theorem me1 : Array.find? (fun x => x.name == "mortise/sound.hands") Tryz.t147.methods = Tryz.t147.methods[1]? := by kernel_rfl
theorem me2 : Array.find? (fun x => x.name == "mortise/sound.shape") Tryz.t147.methods = Tryz.t147.methods[2]? := by kernel_rfl
theorem me3 : Array.find? (fun x => x.name == "mortise/sound.stands") Tryz.t147.methods = Tryz.t147.methods[3]? := by kernel_rfl
theorem fe0 : (Tryz.t147.methods[0]?).map (fun m => (m.func, m.path)) = some (some (204, false), #[]) := by kernel_rfl
theorem fe1 : (Tryz.t147.methods[1]?).map (fun m => (m.func, m.path)) = some (some (205, false), #[]) := by kernel_rfl
theorem fe2 : (Tryz.t147.methods[2]?).map (fun m => (m.func, m.path)) = some (some (206, false), #[]) := by kernel_rfl
theorem fe3 : (Tryz.t147.methods[3]?).map (fun m => (m.func, m.path)) = some (some (207, false), #[]) := by kernel_rfl
theorem md0 : Array.find? (fun x => x.name == "mortise/sound.begin") Tryz.t148.methods = Tryz.t148.methods[0]? := by kernel_rfl
theorem md1 : Array.find? (fun x => x.name == "mortise/sound.hands") Tryz.t148.methods = Tryz.t148.methods[1]? := by kernel_rfl
theorem md2 : Array.find? (fun x => x.name == "mortise/sound.shape") Tryz.t148.methods = Tryz.t148.methods[2]? := by kernel_rfl
theorem md3 : Array.find? (fun x => x.name == "mortise/sound.stands") Tryz.t148.methods = Tryz.t148.methods[3]? := by kernel_rfl
theorem fd0 : (Tryz.t148.methods[0]?).map (fun m => (m.func, m.path)) = some (some (213, false), #[]) := by kernel_rfl
theorem fd1 : (Tryz.t148.methods[1]?).map (fun m => (m.func, m.path)) = some (some (214, false), #[]) := by kernel_rfl
theorem fd2 : (Tryz.t148.methods[2]?).map (fun m => (m.func, m.path)) = some (some (215, false), #[]) := by kernel_rfl
theorem fd3 : (Tryz.t148.methods[3]?).map (fun m => (m.func, m.path)) = some (some (216, false), #[]) := by kernel_rfl
theorem mAgE {nm : String} {q f : Nat} (hm : Array.find? (fun x => x.name == nm) Tryz.t147.methods = Tryz.t147.methods[q]?) (hf : (Tryz.t147.methods[q]?).map (fun m => (m.func, m.path)) = some (some (f, false), #[])) (k : Nat) (w : World) :
    (method (k + 1) 147 (.agg #[]) nm).run Tryz.prog w = .ok (f, .agg #[]) w := by
  obtain ⟨m, h1, h2⟩ := Option.map_eq_some_iff.1 hf
  have h3 : Array.find? (fun x => x.name == nm) Tryz.t147.methods = some m := hm.trans h1
  have h4 : m.func = some (f, false) := congrArg Prod.fst h2
  have h5 : m.path = #[] := congrArg Prod.snd h2
  unfold method
  simp [h3, h4, h5, follow, receiverAt, Place.get, strVal, asAddr, loadVar, Result.andThen, go_sem]
theorem mAgD {nm : String} {q f : Nat} (hm : Array.find? (fun x => x.name == nm) Tryz.t148.methods = Tryz.t148.methods[q]?) (hf : (Tryz.t148.methods[q]?).map (fun m => (m.func, m.path)) = some (some (f, false), #[])) (k : Nat) (w : World) :
    (method (k + 1) 148 (.agg #[]) nm).run Tryz.prog w = .ok (f, .agg #[]) w := by
  obtain ⟨m, h1, h2⟩ := Option.map_eq_some_iff.1 hf
  have h3 : Array.find? (fun x => x.name == nm) Tryz.t148.methods = some m := hm.trans h1
  have h4 : m.func = some (f, false) := congrArg Prod.fst h2
  have h5 : m.path = #[] := congrArg Prod.snd h2
  unfold method
  simp [h3, h4, h5, follow, receiverAt, Place.get, strVal, asAddr, loadVar, Result.andThen, go_sem]
def fBg (enc : Bool) : Nat := if enc then 204 else 213
def fHd (enc : Bool) : Nat := if enc then 205 else 214
def fSt (enc : Bool) : Nat := if enc then 207 else 216
theorem mtBg (enc : Bool) (k : Nat) (w : World) : (method (k + 1) (mTy enc) (.agg #[]) "mortise/sound.begin").run Tryz.prog w = .ok (fBg enc, .agg #[]) w := by cases enc; exact mAgD md0 fd0 k w; exact mAgE me0 fe0 k w
theorem mtHd (enc : Bool) (k : Nat) (w : World) : (method (k + 1) (mTy enc) (.agg #[]) "mortise/sound.hands").run Tryz.prog w = .ok (fHd enc, .agg #[]) w := by cases enc; exact mAgD md1 fd1 k w; exact mAgE me1 fe1 k w
theorem mtSt (enc : Bool) (k : Nat) (w : World) : (method (k + 1) (mTy enc) (.agg #[]) "mortise/sound.stands").run Tryz.prog w = .ok (fSt enc, .agg #[]) w := by cases enc; exact mAgD md3 fd3 k w; exact mAgE me3 fe3 k w
theorem enBg (enc : Bool) (args : Array Value) (w : World) : (callFunc (fBg enc) args).run Tryz.prog w = .ok (.enter (fBg enc) args) w := by cases enc <;> kernel_rfl
theorem enHd (enc : Bool) (args : Array Value) (w : World) : (callFunc (fHd enc) args).run Tryz.prog w = .ok (.enter (fHd enc) args) w := by cases enc <;> kernel_rfl
theorem enSt (enc : Bool) (args : Array Value) (w : World) : (callFunc (fSt enc) args).run Tryz.prog w = .ok (.enter (fSt enc) args) w := by cases enc <;> kernel_rfl
/-- A state that is kept for an instruction. -/
structure SOk (s : St) : Prop where
  ki : s.ki < 18446744073709551616
  tb : -1 ≤ s.tb ∧ s.tb ≤ 64
  pa : 0 ≤ s.pa ∧ s.pa ≤ 64
  le : 0 ≤ s.le ∧ s.le ≤ 64
/-- What the form says of an instruction of a machine. -/
structure XOk (enc : Bool) (x : In) : Prop where
  d : enc = false → DOk x
  e : x.op = 34 → 0 ≤ x.b ∧ x.b ≤ 64
  f : x.op = 39 → 0 ≤ x.a ∧ x.a ≤ 64
theorem mbegin_any (enc : Bool) (w : World) : Calls Tryz.prog (fBg enc) #[.agg #[]] w fun e w' => e = .returned (stv (mBg enc)) ∧ Below w.heap.size w w' := by
  cases enc
  · exact dbegin_any w
  · exact ebegin_any w
theorem mstands_any (enc : Bool) (s : St) (x : In) (r : Int) (w : World) (hx : XOk enc x) (hs : SOk s) : Calls Tryz.prog (fSt enc) #[.agg #[], stv s, inv x, .int .i64 r] w fun e w' => e = .returned (.bool (mSt enc s x r)) ∧ Below w.heap.size w w' := by
  have := hs.le
  cases enc
  · exact dstands_any s x r w (hx.d rfl) hs.ki
  · exact estands_any s x r w (fun h => by have := hx.e h; omega) (by omega)
theorem mhands_any (enc : Bool) (s : St) (x : In) (way : Int) (w : World) (hx : XOk enc x) (hs : SOk s) : Calls Tryz.prog (fHd enc) #[.agg #[], stv s, inv x, .int .i64 way] w fun e w' => e = .returned (stv (mHd enc s x way)) ∧ Below w.heap.size w w' := by
  have := hs.le
  have := hs.tb
  have := hs.pa
  cases enc
  · exact dhands_any s x way w (hx.d rfl) hs.ki (by omega) (by omega)
  · exact ehands_any s x way w (fun h => by have := hx.e h; omega) (by omega)
end Go.Proofs.YtiojpohmgjdgfaaGreat
