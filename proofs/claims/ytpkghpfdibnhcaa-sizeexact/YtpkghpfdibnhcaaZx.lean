/- awake. -/
import Derived.Test.YtpkghpfdibnhcaaZw
namespace Go.Proofs.Ytpkghpfdibnhcaa
open Go.RowKit
set_option linter.unusedVariables false

theorem num_any (n : Int) (w : World) : Calls Try.prog 12 #[.int .i64 n] w fun e w' => e = .returned (.int .i64 n) ∧ w = w' := by
  go_enter Try.func12, Try.ntmps12
  go_wp2
  go_ret
  exact ⟨rfl, rfl⟩
set_option maxRecDepth 100000 in
set_option maxHeartbeats 4000000 in
theorem sameInts_yes (a b : Option Addr) (c d n : Nat) (l : List Int) (w : World) (hl : Hid (l.length = n)) (hn : n ≤ 9223372036854775806) (hr : Hid (Row .i64 w a l)) (hs : Hid (Row .i64 w b l)) :
    Calls Try.prog 23 #[.slice a n c, .slice b n d] w fun e w' => e = .returned (.bool true) ∧ Below w.heap.size w w' := by
  go_enter Try.func23, Try.ntmps23
  go_wp2_with fail
  go_loopw [5] (fun x5 wr => ∃ i : Nat, i ≤ n ∧ x5 = .int .i64 (i : Int) ∧ Hid (Below w.heap.size w wr)) (fun x5 _ => n - (intOf x5).toNat)
  case atStart => exact ⟨0, Nat.zero_le _, rfl, hide_ (Below.refl _ _)⟩
  case round =>
    obtain ⟨i, hi, rfl, HB⟩ := hrel
    generalize wr = wq at *
    by_cases hlt : i < n
    · have hlt' : (i : Int) < n := by omega
      have hil : i < l.length := by rw [hl.out]; exact hlt
      obtain ⟨ba, oa, rfl, -, ca⟩ := (hr.out.later HB.out).open (by omega)
      obtain ⟨bb, ob, rfl, -, cb⟩ := (hs.out.later HB.out).open (by omega)
      have x0 := ca i hil
      have y0 := cb i hil
      generalize l.getD i 0 = q at *
      clear ca cb hil
      go_wp2_with fail
      go_quiet (fail)
      have HBq := hide_ (below_drewN HB.out nq)
      go_wp2_with fail
      go_roundw
      case rel => exact ⟨i + 1, by omega, by go_num, HBq⟩
      case measure => simp [intOf]; omega
    · obtain rfl : i = n := by omega
      go_wp2
      go_ret
      exact ⟨rfl, HB.out⟩
def awTc (g : Nat) : List Value := [.int .i64 1, .int .i64 1, .int .i64 0, .slice none 0 0, .int .i64 3, .int .i64 0, .int .i64 0, .slice none 0 0, .int .i64 5, .int .i64 9, .int .i64 1, .slice none 0 0, .int .i64 1, .int .i64 2, .int .i64 0, .slice none 0 0, .int .i64 6, .int .i64 0, .int .i64 3, .slice none 0 0, .int .i64 8, .int .i64 0, .int .i64 0, .slice (some ⟨g, 0, none⟩) 3 3]
theorem aw_row {w : World} {g b : Nat} (hP : PRow w (some ⟨g, 0, none⟩) awP) (hK : Blk w b 43 (awTc g)) : TRow w (some ⟨b, 0, none⟩) awT := by
  refine .inr ⟨b, 0, rfl, hK.lt, fun i t ht => ?_⟩
  have key : ∀ (m : Nat) (u : Ty) (v : Value), (∀ j, j < 4 → (awTc g)[m * 4 + j]? = (tyc u v)[j]?) → ∀ j, j < 4 → w.cell? ⟨b, 0 + m * 4 + j, none⟩ = (tyc u v)[j]? := fun m u v h j hj => by
    rw [hK.cell, Nat.zero_add]
    exact h j hj
  have nn : ∀ (m : Nat) (u : Ty), u.ps = [] → (∀ j, j < 4 → (awTc g)[m * 4 + j]? = (tyc u (.slice none 0 0))[j]?) → ∃ va vc, (∀ j, j < 4 → w.cell? ⟨b, 0 + m * 4 + j, none⟩ = (tyc u (.slice va u.ps.length vc))[j]?) ∧ u.ps.length ≤ vc ∧ (va = none → vc = 0) ∧ PRow w va u.ps := fun m u hu h => by
    refine ⟨none, 0, ?_, by rw [hu]; exact Nat.le_refl _, fun _ => rfl, .inl hu⟩
    rw [hu]
    exact key m u _ h
  match i, ht with
  | 0, ht => injection ht with ht; subst ht; exact nn 0 _ rfl (fun j hj => match j, hj with | 0, _ => rfl | 1, _ => rfl | 2, _ => rfl | 3, _ => rfl)
  | 1, ht => injection ht with ht; subst ht; exact nn 1 _ rfl (fun j hj => match j, hj with | 0, _ => rfl | 1, _ => rfl | 2, _ => rfl | 3, _ => rfl)
  | 2, ht => injection ht with ht; subst ht; exact nn 2 _ rfl (fun j hj => match j, hj with | 0, _ => rfl | 1, _ => rfl | 2, _ => rfl | 3, _ => rfl)
  | 3, ht => injection ht with ht; subst ht; exact nn 3 _ rfl (fun j hj => match j, hj with | 0, _ => rfl | 1, _ => rfl | 2, _ => rfl | 3, _ => rfl)
  | 4, ht => injection ht with ht; subst ht; exact nn 4 _ rfl (fun j hj => match j, hj with | 0, _ => rfl | 1, _ => rfl | 2, _ => rfl | 3, _ => rfl)
  | 5, ht => injection ht with ht; subst ht; exact ⟨some ⟨g, 0, none⟩, 3, key 5 _ _ (fun j hj => match j, hj with | 0, _ => rfl | 1, _ => rfl | 2, _ => rfl | 3, _ => rfl), by decide, (fun h => by cases h), hP⟩
  | n + 6, ht => cases ht
theorem aw_lens : LensT awT := ⟨by decide, fun t ht => by
  simp only [awT, List.mem_cons, List.not_mem_nil, or_false] at ht
  rcases ht with rfl | rfl | rfl | rfl | rfl | rfl <;> simp [awP]⟩
theorem aw_ok : ∀ x ∈ awV, NvOk x := fun x hx => by
  simp only [awV, List.mem_cons, List.not_mem_nil, or_false] at hx
  rcases hx with rfl | rfl | rfl | rfl | rfl | rfl <;> (constructor <;> decide)
def awX : List Ex := [⟨true, 1, 1, 1⟩, ⟨false, 1, 10, 1⟩, ⟨false, 0, 126, 2⟩, ⟨true, 2, 2, 1⟩, ⟨false, 1, 3, 2⟩, ⟨false, 10, 138, 3⟩]
set_option maxRecDepth 100000 in
set_option maxHeartbeats 8000000 in
theorem awake_any (w : World) : Calls Try.prog 8 #[] w fun e w' => e = .returned (.bool true) ∧ Below w.heap.size w w' := by
  obtain ⟨w1, hw1⟩ : ∃ w1, w1 = w.alloc (.cells #[.string ⟨#[97]⟩, .int .i64 0, .int .i64 0, .string ⟨#[98]⟩, .int .i64 0, .int .i64 2, .string ⟨#[99]⟩, .int .i64 0, .int .i64 4] 45) := ⟨_, rfl⟩
  have hB1 : Below w.heap.size w w1 := by rw [hw1]; exact below1 _ _
  have k1 : Blk w1 w.heap.size 45 (cellsG ptc awP) := by rw [hw1]; exact Blk.newA w _ _
  obtain ⟨w2, hw2⟩ : ∃ w2, w2 = w1.alloc (.cells (awTc w.heap.size).toArray 43) := ⟨_, rfl⟩
  have hB2 : Below w1.heap.size w1 w2 := by rw [hw2]; exact below1 _ _
  have k2 : Blk w2 w1.heap.size 43 (awTc w.heap.size) := by rw [hw2]; exact Blk.new w1 _ _
  obtain ⟨w3, hw3⟩ : ∃ w3, w3 = w2.alloc (.cells #[.slice (some ⟨w1.heap.size, 0, none⟩) 6 6, .slice none 0 0] 31) := ⟨_, rfl⟩
  have hB3 : Below w2.heap.size w2 w3 := by rw [hw3]; exact below1 _ _
  have k3 : Blk w3 w2.heap.size 31 [.slice (some ⟨w1.heap.size, 0, none⟩) 6 6, .slice none 0 0] := by rw [hw3]; exact Blk.newA w2 _ _
  have hz1 : w1.heap.size = w.heap.size + 1 := by rw [hw1]; simp
  have hz2 : w2.heap.size = w.heap.size + 2 := by rw [hw2]; simp [hz1]
  have HTR := hide_ (aw_row (blk_grow ptc_len ((k1.later hB2).later hB3)) (k2.later hB3))
  have HRR : Hid (RRow w3 none []) := hide_ (.inl rfl)
  have HB03 := hide_ (below_to (below_to hB1 hB2) hB3)
  have K3 := hide_ k3
  rw [hz1] at HTR k3 K3 hw3
  rw [hz2] at K3 k3
  have HOf : Hid (Calls Try.prog 10 #[.agg #[.slice (some ⟨w.heap.size + 1, 0, none⟩) 6 6, .slice none 0 0]] w3 fun e w' => ∃ g cap, e = .returned (.tuple #[.slice (some ⟨g, 0, none⟩) 6 cap, .int .i64 0]) ∧ Hid (XRow w' (some ⟨g, 0, none⟩) awX) ∧ Hid (Below w3.heap.size w3 w')) := hide_ (by
    refine (of_any (some ⟨w.heap.size + 1, 0, none⟩) 6 awT none 0 [] w3 (by decide) (by decide) (hide_ aw_lens) HTR HRR).mono ?_
    rintro e w' (⟨hne, -, -⟩ | ⟨-, v, rfl, hX, hB⟩)
    · rw [aw_chk] at hne; exact absurd rfl hne
    · rw [aw_ext] at hX
      obtain ⟨g, cap, ys, rfl, -, -, -, -, -, hKK⟩ := ownS_blk hX (by decide)
      obtain ⟨a2, c2, e2, -, -, hrow⟩ := hX.row
      injection e2 with e2 _ _
      subst e2
      exact ⟨g, cap, rfl, hide_ hrow, hide_ hB⟩)
  have i0 := k3.cell 0; have i1 := k3.cell 1
  simp at i0 i1
  simp only [awTc] at hw2
  clear k1 k2 k3 hB1 hB2 hB3
  go_enter Try.func8, Try.ntmps8
  go_upto_region 2 with fail
  rw [← hw1, ← hw2, ← hw3]
  clear hw1 hw2 hw3 hz1 hz2
  go_wp2_with fail
  refine HOf.out.mono ?_
  rintro e w4 ⟨gx, cx, rfl, HX4, HB4⟩
  obtain ⟨w5, hw5⟩ : ∃ w5, w5 = w4.alloc (.cells #[.int .i64 4, .int .u64 0, .int .i64 3, .int .i64 1, .int .u64 7, .int .i64 0, .int .i64 3, .int .u64 0, .int .i64 2, .int .i64 1, .int .u64 5, .int .i64 0, .int .i64 1, .int .u64 300, .int .i64 0, .int .i64 5, .int .u64 0, .int .i64 0] 66) := ⟨_, rfl⟩
  have hB5 : Below w4.heap.size w4 w5 := by rw [hw5]; exact below1 _ _
  have k5 : Blk w5 w4.heap.size 66 (cellsG nvc awV) := by rw [hw5]; exact Blk.newA w4 _ _
  have HB5 := hide_ (below_to HB4.out hB5)
  have HV5 : Hid (VRow w5 (some ⟨w4.heap.size, 0, none⟩) awV) := hide_ (blk_grow nvc_len k5)
  have HX5 := hide_ (HX4.out.later hB5)
  have K5 := hide_ (K3.out.later HB5.out)
  have HTall : Hid (∀ w', Below w3.heap.size w3 w' → Hid (TRow w' (some ⟨w.heap.size + 1, 0, none⟩) awT)) := hide_ (fun w' hB => hide_ (HTR.out.later hB))
  have HL5 : Hid (∀ w', Below w5.heap.size w5 w' → Calls Try.prog 18 #[.agg #[.slice (some ⟨w.heap.size + 1, 0, none⟩) 6 6, .slice none 0 0], .int .i64 5, .slice (some ⟨w4.heap.size, 0, none⟩) 6 6] w' fun e w'' => ∃ a c, e = .returned (.tuple #[.slice a 6 c, .int .i64 0]) ∧ Hid (Row .i64 w'' a [21, 1, 11, 1, 2, 1]) ∧ Hid (Below w'.heap.size w' w'')) := hide_ (fun w' hB => by
    refine (lengths_any (some ⟨w.heap.size + 1, 0, none⟩) 6 awT none 0 [] 5 (some ⟨w4.heap.size, 0, none⟩) 6 awV w' (by decide) (by decide) (by decide) (hide_ aw_ok) (hide_ aw_lens) (HTall.out w' (below_to HB5.out hB)) (hide_ (.inl rfl)) (hide_ (HV5.out.later hB))).mono ?_
    rintro e w'' ⟨v, rfl, hO, hB2⟩
    rw [aw_len5] at hO ⊢
    obtain ⟨a, c, rfl, hr, -⟩ := own_open hO rfl
    exact ⟨a, c, rfl, hide_ hr, hide_ hB2⟩)
  have HLn : Hid (∀ (t q r : Int), (if (lenP awT [] t awV).1 = 0 then (lenP awT [] t awV).2.getD 0 0 else 0) = q → (lenP awT [] t awV).1 = r → ∀ w', Below w5.heap.size w5 w' → Calls Try.prog 19 #[.agg #[.slice (some ⟨w.heap.size + 1, 0, none⟩) 6 6, .slice none 0 0], .int .i64 t, .slice (some ⟨w4.heap.size, 0, none⟩) 6 6] w' fun e w'' => e = .returned (.tuple #[.int .i64 q, .int .i64 r]) ∧ Below w'.heap.size w' w'') := hide_ (fun t q r hq hr w' hB => by
    have h := length_any (some ⟨w.heap.size + 1, 0, none⟩) 6 awT none 0 [] t (some ⟨w4.heap.size, 0, none⟩) 6 awV w' (by decide) (by decide) (by decide) (hide_ aw_ok) (hide_ aw_lens) (HTall.out w' (below_to HB5.out hB)) (hide_ (.inl rfl)) (hide_ (HV5.out.later hB))
    rw [hq, hr] at h
    exact h)
  clear hB5 k5 i0 i1
  go_upto_region 6 with (go_at_call 12; refine (num_any _ _).mono ?_; rintro e w' ⟨rfl, rfl⟩)
  rw [← hw5]
  clear hw5
  have i0 := K5.out.cell 0; have i1 := K5.out.cell 1
  simp at i0 i1
  go_wp2_with fail
  refine (HL5.out _ (Below.refl _ _)).mono ?_
  rintro e w6 ⟨al, cl, rfl, HL6, HB6⟩
  have K6 := hide_ (K5.out.later HB6.out)
  clear i0 i1
  have i0 := K6.out.cell 0; have i1 := K6.out.cell 1
  simp at i0 i1
  go_wp2_with (go_at_call 12; refine (num_any _ _).mono ?_; rintro e w' ⟨rfl, rfl⟩)
  refine (HLn.out 5 21 0 (by rw [aw_len5]; rfl) (by rw [aw_len5]) _ HB6.out).mono ?_
  rintro e w7 ⟨rfl, hB7⟩
  have HB7 := hide_ (below_to HB6.out hB7)
  have K7 := hide_ (K6.out.later hB7)
  have HL7 := hide_ (HL6.out.later hB7)
  clear i0 i1 hB7
  have i0 := K7.out.cell 0; have i1 := K7.out.cell 1
  simp at i0 i1
  go_wp2_with fail
  refine (HLn.out 4 0 40 (by rw [aw_len4]; rfl) (by rw [aw_len4]) _ HB7.out).mono ?_
  rintro e w8 ⟨rfl, hB8⟩
  have HB8 := hide_ (below_to HB7.out hB8)
  have K8 := hide_ (K7.out.later hB8)
  have HL8 := hide_ (HL7.out.later hB8)
  clear i0 i1 hB8
  have i0 := K8.out.cell 0; have i1 := K8.out.cell 1
  simp at i0 i1
  go_wp2_with fail
  refine (HLn.out 6 0 3 (by rw [aw_len6]; rfl) (by rw [aw_len6]) _ HB8.out).mono ?_
  rintro e w9 ⟨rfl, hB9⟩
  have HB9 := hide_ (below_to HB8.out hB9)
  have HL9 := hide_ (HL8.out.later hB9)
  have HX9 := hide_ (HX5.out.later HB9.out)
  clear i0 i1 hB9
  obtain ⟨bx, ox, hax, -, hcx⟩ := HX9.out.open (by decide)
  injection hax with hax
  injection hax with e1 e2 _
  subst e1 e2
  have p0 := hcx 0 _ rfl 0 (by decide); have p1 := hcx 0 _ rfl 1 (by decide); have p2 := hcx 0 _ rfl 2 (by decide); have p3 := hcx 0 _ rfl 3 (by decide)
  have q0 := hcx 5 _ rfl 0 (by decide); have q1 := hcx 5 _ rfl 1 (by decide); have q2 := hcx 5 _ rfl 2 (by decide); have q3 := hcx 5 _ rfl 3 (by decide)
  simp [exc] at p0 p1 p2 p3 q0 q1 q2 q3
  clear hcx
  obtain ⟨wa, hwa⟩ : ∃ wa, wa = w9.alloc (.cells #[.int .i64 21, .int .i64 1, .int .i64 11, .int .i64 1, .int .i64 2, .int .i64 1] 3) := ⟨_, rfl⟩
  have hBa : Below w9.heap.size w9 wa := by rw [hwa]; exact below1 _ _
  have ka : Blk wa w9.heap.size 3 (cellsL .i64 [21, 1, 11, 1, 2, 1]) := by rw [hwa]; exact Blk.newA w9 _ _
  have HSm := hide_ (sameInts_yes al (some ⟨w9.heap.size, 0, none⟩) cl 6 6 [21, 1, 11, 1, 2, 1] wa (hide_ rfl) (by decide) (hide_ (HL9.out.later hBa)) (hide_ ka.row))
  have HBa := hide_ (below_to HB03.out (below_to HB5.out (below_to HB9.out hBa)))
  clear ka hBa
  go_wp2_with (first | (go_at_call 12; refine (num_any _ _).mono ?_; rintro e w' ⟨rfl, rfl⟩))
  rw [← hwa]
  refine HSm.out.mono ?_
  rintro e wb ⟨rfl, hBb⟩
  have HBb := hide_ (below_to HBa.out hBb)
  clear hwa hBb
  go_wp2
  go_ret
  exact ⟨rfl, HBb.out⟩
end Go.Proofs.Ytpkghpfdibnhcaa
