/- Code: Encode's closures over the operands; eachNamed. -/
import Derived.Test.YteadmiikenpjeaaDoorCdg
namespace Go.Proofs.YteadmiikenpjeaaDoor
open Go.RowKit
set_option linter.unusedVariables false

/-- The function that puts a number, in its box. -/
abbrev fnB (gb : Nat) : Value := .func (.func 24) #[] #[.pointer (some ⟨gb, 0, none⟩)]
set_option maxRecDepth 100000 in
set_option maxHeartbeats 4000000 in
theorem enc2_c (B gb gp : Nat) (l : List Int) (n : Int) (w : World) (hn : -1 ≤ n ∧ n ≤ 16777216) (hl : l.length ≤ 10000000000) (H : Hid (Bx w B gb l)) (HP : Hid (Blk w gp 60 [fnB gb])) :
    Calls Tryd.prog 27 #[.int .i64 n, .pointer (some ⟨gp, 0, none⟩)] w fun e w' => e = .returned (.tuple #[]) ∧ Hid (Bx w' B gb (l ++ opB n)) ∧ Hid (Kb B w w') := by
  obtain ⟨m, hm⟩ := Int.eq_ofNat_of_zero_le (show 0 ≤ n + 1 by omega)
  have HC := put_c B gb l m w (by omega) hl H
  rw [← hm] at HC
  have e : opB n = form m := by unfold opB; rw [hm]; rfl
  rw [← e] at HC
  have HCo := hide_ HC
  have h64 : wrap64 (n + 1) = n + 1 := w64 _ (by omega)
  have p0 := HP.out.cell 0
  simp [fnB] at p0
  clear HC hm e
  go_enter Tryd.func27, Tryd.ntmps27
  go_wp2_with (go_at_call 24; refine HCo.out.mono ?_; rintro e w' ⟨rfl, HX, HK⟩)
  exact bodyPost_end (results_none rfl _ _ _) rfl ⟨rfl, HX, HK⟩
set_option maxRecDepth 100000 in
set_option maxHeartbeats 4000000 in
theorem each_any (B gb gp : Nat) (l : List Int) (x : In) (w : World) (hx : InB x) (hl : l.length ≤ 9000000000) (H : Hid (Bx w B gb l)) (HP : Hid (Blk w gp 60 [fnB gb])) :
    Calls Tryd.prog 26 #[.agg #[.int .i64 x.op, .int .i64 x.a, .int .i64 x.b, .int .i64 x.c], .func (.func 27) #[] #[.pointer (some ⟨gp, 0, none⟩)]] w fun e w' => e = .returned (.tuple #[]) ∧ Hid (Bx w' B gb (l ++ (nmd x).flatMap opB)) ∧ Hid (Kb B w w') := by
  have hBw := H.out.size
  obtain ⟨w1, hw1⟩ : ∃ wx, wx = w.alloc (.cells #[.int .i64 x.op, .int .i64 x.a, .int .i64 x.b, .int .i64 x.c] 41) := ⟨_, rfl⟩
  have hB1 : Below w.heap.size w w1 := by rw [hw1]; exact below1 _ _
  have K1 : Hid (Blk w1 w.heap.size 41 (inc x)) := hide_ (by rw [hw1]; exact Blk.newA w _ _)
  have HB1 := hide_ hB1
  have q0 := K1.out.cell 0
  simp [inc] at q0
  have HKi := hide_ (kinds_any x.op w1)
  have HIn := hide_ hx
  have HNm : Hid (nmd x = nmj (kin x.op) x 3) := hide_ rfl
  generalize hkk : kin x.op = kk at *
  obtain ⟨k0, k1, k2⟩ := kk
  unfold kv at HKi
  simp only at HKi
  clear hkk hB1 hx
  go_enter Tryd.func26, Tryd.ntmps26
  go_upto_region 1 with fail
  rw [← hw1]
  clear hw1
  go_wp2_with fail
  refine HKi.out.mono ?_
  rintro e w2 ⟨rfl, hB2⟩
  obtain ⟨w3, hw3⟩ : ∃ wx, wx = w2.alloc (.cells #[.int .i64 k0, .int .i64 k1, .int .i64 k2] 80) := ⟨_, rfl⟩
  have hB3 : Below w2.heap.size w2 w3 := by rw [hw3]; exact below1 _ _
  have K3 : Hid (Blk w3 w2.heap.size 80 [.int .i64 k0, .int .i64 k1, .int .i64 k2]) := hide_ (by rw [hw3]; exact Blk.newA w2 _ _)
  have hB13 := below_to hB2 hB3
  have KI3 := hide_ (K1.out.later hB13)
  have HB3 := hide_ (below_to HB1.out hB13)
  have HOp := hide_ (operands_any x w3)
  clear q0
  have q0 := KI3.out.cell 0; have q1 := KI3.out.cell 1; have q2 := KI3.out.cell 2; have q3 := KI3.out.cell 3
  simp [inc] at q0 q1 q2 q3
  clear hB2 hB3 hB13 HKi
  go_upto_region 2 with fail
  rw [← hw3]
  clear hw3
  go_wp2_with fail
  refine HOp.out.mono ?_
  rintro e w4 ⟨rfl, hB4⟩
  have K4 := hide_ (K3.out.later hB4)
  have HB4 := hide_ (below_to HB3.out hB4)
  have HX4 := hide_ (H.out.later HB4.out)
  have HP4 := hide_ (HP.out.later HB4.out)
  have HK4 : Hid (Kb B w w4) := hide_ (Kb.of_below hBw HB4.out)
  generalize hg2 : w2.heap.size = g2 at *
  clear hB4 q0 q1 q2 q3 HOp K3 KI3 HB3 HB1 K1 hg2 H HP HB4
  go_wp2_with fail
  go_loopw [12] (fun x12 wr => ∃ j : Nat, j ≤ 3 ∧ x12 = .int .i64 (j : Int) ∧ Hid (Bx wr B gb (l ++ (nmj (k0, k1, k2) x j).flatMap opB)) ∧ Hid (Kb B w4 wr)) (fun x12 _ => 3 - (intOf x12).toNat)
  case atStart => exact ⟨0, by omega, rfl, hide_ (by have := HX4.out; simpa [nmj] using this), hide_ (Kb.refl _ _)⟩
  case round =>
    obtain ⟨j, hj, rfl, HX, HK⟩ := hrel
    generalize wr = wq at *
    by_cases hlt : j < 3
    · have KKq := hide_ (HK.out.2 g2 _ _ (by decide) (by decide) K4.out)
      have HPq := hide_ (HK.out.2 gp _ _ (by decide) (by decide) HP4.out)
      have hnj := nmj_len x (k0, k1, k2) j
      have hfl := flat_len (f := opB) (nmj (k0, k1, k2) x j) (fun n hn => opB_len (nmj_in HIn.out _ j (by omega) n hn).2)
      have HCj := hide_ (enc2_c B gb gp (l ++ (nmj (k0, k1, k2) x j).flatMap opB) (oat x j) wq (HIn.out.nm j hlt) (by rw [List.length_append]; omega) HX HPq)
      have HN1 : Hid (kat (k0, k1, k2) j ≠ 0 → l ++ (nmj (k0, k1, k2) x j).flatMap opB ++ opB (oat x j) = l ++ (nmj (k0, k1, k2) x (j + 1)).flatMap opB) := hide_ (fun h => by rw [nmj, if_pos h]; simp)
      have HN0 : Hid (kat (k0, k1, k2) j = 0 → l ++ (nmj (k0, k1, k2) x j).flatMap opB = l ++ (nmj (k0, k1, k2) x (j + 1)).flatMap opB) := hide_ (fun h => by rw [nmj, if_neg (by simp [h])]; simp)
      have c0 := KKq.out.cell 0; have c1 := KKq.out.cell 1; have c2 := KKq.out.cell 2
      simp at c0 c1 c2
      have ix0 := ix3_0 (.int .i64 x.a) (.int .i64 x.b) (.int .i64 x.c)
      have ix1 := ix3_1 (.int .i64 x.a) (.int .i64 x.b) (.int .i64 x.c)
      have ix2 := ix3_2 (.int .i64 x.a) (.int .i64 x.b) (.int .i64 x.c)
      clear hnj hfl
      have h3 : j = 0 ∨ j = 1 ∨ j = 2 := by omega
      rcases h3 with rfl | rfl | rfl
      · simp only [kat, oat] at HCj HN1 HN0
        by_cases hk : k0 = 0
        · have HX2 := HX.out
          rw [HN0.out hk] at HX2
          subst hk
          have HX3 := hide_ HX2
          clear HX2
          go_wp2_with fail
          go_roundw
          case rel => exact ⟨1, by omega, by go_num, HX3, HK⟩
          case measure => simp [intOf]
        · have hkb : (k0 != 0) = true := by simpa using hk
          rw [HN1.out hk] at HCj
          go_wp2_with (go_at_call 27; refine HCj.out.mono ?_; rintro e w' ⟨rfl, HX2, HK2⟩)
          go_roundw
          case rel => exact ⟨1, by omega, by go_num, HX2, hide_ (HK.out.trans HK2.out)⟩
          case measure => simp [intOf]
      · simp only [kat, oat] at HCj HN1 HN0
        by_cases hk : k1 = 0
        · have HX2 := HX.out
          rw [HN0.out hk] at HX2
          subst hk
          have HX3 := hide_ HX2
          clear HX2
          go_wp2_with fail
          go_roundw
          case rel => exact ⟨2, by omega, by go_num, HX3, HK⟩
          case measure => simp [intOf]
        · have hkb : (k1 != 0) = true := by simpa using hk
          rw [HN1.out hk] at HCj
          go_wp2_with (go_at_call 27; refine HCj.out.mono ?_; rintro e w' ⟨rfl, HX2, HK2⟩)
          go_roundw
          case rel => exact ⟨2, by omega, by go_num, HX2, hide_ (HK.out.trans HK2.out)⟩
          case measure => simp [intOf]
      · simp only [kat, oat] at HCj HN1 HN0
        by_cases hk : k2 = 0
        · have HX2 := HX.out
          rw [HN0.out hk] at HX2
          subst hk
          have HX3 := hide_ HX2
          clear HX2
          go_wp2_with fail
          go_roundw
          case rel => exact ⟨3, by omega, by go_num, HX3, HK⟩
          case measure => simp [intOf]
        · have hkb : (k2 != 0) = true := by simpa using hk
          rw [HN1.out hk] at HCj
          go_wp2_with (go_at_call 27; refine HCj.out.mono ?_; rintro e w' ⟨rfl, HX2, HK2⟩)
          go_roundw
          case rel => exact ⟨3, by omega, by go_num, HX2, hide_ (HK.out.trans HK2.out)⟩
          case measure => simp [intOf]
    · obtain rfl : j = 3 := by omega
      go_wp2
      refine bodyPost_end (results_none rfl _ _ _) rfl ⟨rfl, ?_, hide_ (HK4.out.trans HK.out)⟩
      rw [HNm.out]
      exact HX
end Go.Proofs.YteadmiikenpjeaaDoor
