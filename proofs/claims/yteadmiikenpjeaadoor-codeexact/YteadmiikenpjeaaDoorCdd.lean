/- Code: agree, hasForm. -/
import Derived.Test.YteadmiikenpjeaaDoorCdc
import Derived.Deep.RegionHeldLaw
import Derived.Test.YteadmiikenpjeaaDoorRgf
namespace Go.Proofs.YteadmiikenpjeaaDoor
open Go.RowKit
set_option linter.unusedVariables false

theorem alw_rng {nc ne k n : Int} (h : alw nc ne k n = true) : (bnd nc ne k).1 ≤ n ∧ n ≤ (bnd nc ne k).2 := by
  unfold alw at h
  rw [Bool.and_eq_true] at h
  exact of_decide_eq_true h.1
theorem frmX_parts {enc : Bool} {nc ne : Int} {x : In} (h : frmX enc nc ne x = true) : isOf x.op enc = true ∧ alw nc ne (kin x.op).1 x.a = true ∧ alw nc ne (kin x.op).2.1 x.b = true ∧ alw nc ne (kin x.op).2.2 x.c = true := by
  unfold frmX at h
  simp only [Bool.and_eq_true] at h
  exact h
/-- What agree asks of the operands' bounds. -/
structure AgB (x : In) : Prop where
  u : x.op = 2 → 0 ≤ x.a ∧ x.a ≤ 63 ∧ 2 ≤ x.b ∧ x.b ≤ 64
  n : x.op = 34 → 0 ≤ x.a ∧ x.a ≤ 16777215 ∧ 2 ≤ x.b ∧ x.b ≤ 64 ∧ 1 ≤ x.c ∧ x.c ≤ 8
  m : x.op = 8 ∨ x.op = 41 → 1 ≤ x.a ∧ x.a ≤ 64
theorem frmX_agB {enc : Bool} {nc ne : Int} {x : In} (h : frmX enc nc ne x = true) : AgB x := by
  obtain ⟨-, h1, h2, h3⟩ := frmX_parts h
  have h1 := alw_rng h1
  have h2 := alw_rng h2
  have h3 := alw_rng h3
  refine ⟨fun e => ?_, fun e => ?_, fun e => ?_⟩
  · rw [e] at h1 h2
    have a1 : bnd nc ne (kin 2).1 = (0, 63) := rfl
    have a2 : bnd nc ne (kin 2).2.1 = (2, 64) := rfl
    rw [a1] at h1; rw [a2] at h2
    simp at h1 h2
    omega
  · rw [e] at h1 h2 h3
    have a1 : bnd nc ne (kin 34).1 = (0, 16777215) := rfl
    have a2 : bnd nc ne (kin 34).2.1 = (2, 64) := rfl
    have a3 : bnd nc ne (kin 34).2.2 = (1, 8) := rfl
    rw [a1] at h1; rw [a2] at h2; rw [a3] at h3
    simp at h1 h2 h3
    omega
  · rcases e with e | e
    all_goals
      rw [e] at h1
      first
        | (have a1 : bnd nc ne (kin 8).1 = (1, 64) := rfl
           rw [a1] at h1; simp at h1; omega)
        | (have a1 : bnd nc ne (kin 41).1 = (1, 64) := rfl
           rw [a1] at h1; simp at h1; omega)
theorem mul_bnd {b c : Int} (hb : 2 ≤ b ∧ b ≤ 64) (hc : 1 ≤ c ∧ c ≤ 8) : 2 ≤ b * c ∧ b * c ≤ 512 := by
  have h : c = 1 ∨ c = 2 ∨ c = 3 ∨ c = 4 ∨ c = 5 ∨ c = 6 ∨ c = 7 ∨ c = 8 := by omega
  rcases h with rfl | rfl | rfl | rfl | rfl | rfl | rfl | rfl <;> omega
set_option maxRecDepth 100000 in
set_option maxHeartbeats 4000000 in
theorem agree_any (b off n c : Nat) (x : In) (R : List In) (w : World) (hn : R.length + 1 = n) (hc : n ≤ c) (hl : c ≤ 9223372036854775807) (hx : AgB x) (hr : Hid (IRow w (some ⟨b, off, none⟩) (x :: R))) :
    Calls Tryd.prog 62 #[.slice (some ⟨b, off, none⟩) n c] w fun e w' => e = .returned (.bool (agr x R)) ∧ Below w.heap.size w w' := by
  obtain ⟨i0, i1, i2, i3⟩ := hr.out.at (i := 0) (x := x) rfl
  simp only [Nat.zero_mul, Nat.add_zero] at i0 i1 i2 i3
  obtain ⟨w1, hw1⟩ : ∃ wx, wx = w.alloc (.cells #[.int .i64 x.op, .int .i64 x.a, .int .i64 x.b, .int .i64 x.c] 41) := ⟨_, rfl⟩
  have hB1 : Below w.heap.size w w1 := by rw [hw1]; exact below1 _ _
  have K1 : Hid (Blk w1 w.heap.size 41 (inc x)) := hide_ (by rw [hw1]; exact Blk.newA w _ _)
  have HB1 := hide_ hB1
  have hn1 : (1 : Int) ≤ n := by omega
  have k0 := K1.out.cell 0; have k1 := K1.out.cell 1; have k2 := K1.out.cell 2; have k3 := K1.out.cell 3
  simp [inc] at k0 k1 k2 k3
  clear hB1
  by_cases o2 : x.op = 2
  · obtain ⟨a1, a2, a3, a4⟩ := hx.u o2
    rw [o2] at k0
    have HE : Hid (agr x R = decide (x.a + x.b ≤ 64)) := hide_ (by unfold agr; rw [if_pos o2])
    clear o2
    have hw : wrap64 (x.a + x.b) = x.a + x.b := w64 _ (by omega)
    clear hx hr
    go_enter Tryd.func62, Tryd.ntmps62
    go_upto_region 2 with fail
    rw [← hw1]
    clear hw1
    go_wp2
    go_ret
    exact ⟨by rw [HE.out]; rfl, HB1.out⟩
  have f2 : (x.op == 2) = false := by simpa using o2
  by_cases o34 : x.op = 34
  · obtain ⟨a1, a2, a3, a4, a5, a6⟩ := hx.n o34
    have hmb := mul_bnd ⟨a3, a4⟩ ⟨a5, a6⟩
    rw [o34] at k0
    have HE : Hid (agr x R = decide (x.a + x.b * x.c ≤ 16777216)) := hide_ (by unfold agr; rw [if_neg o2, if_pos o34])
    clear o34
    obtain ⟨p, hp⟩ : ∃ p, x.b * x.c = p := ⟨_, rfl⟩
    rw [hp] at HE hmb
    have hw0 : wrap64 (x.b * x.c) = p := by rw [hp]; exact w64 _ (by omega)
    have hw : wrap64 (x.a + p) = x.a + p := w64 _ (by omega)
    clear hx hr hp
    go_enter Tryd.func62, Tryd.ntmps62
    go_upto_region 2 with fail
    rw [← hw1]
    clear hw1
    go_wp2
    go_ret
    exact ⟨by rw [HE.out]; rfl, HB1.out⟩
  have f34 : (x.op == 34) = false := by simpa using o34
  by_cases o17 : x.op = 17
  · rw [o17] at k0
    have HE : Hid (agr x R = ((x.a == -1) == (x.b == -1))) := hide_ (by unfold agr; rw [if_neg o2, if_neg o34, if_pos o17])
    clear o17
    clear hx hr
    go_enter Tryd.func62, Tryd.ntmps62
    go_upto_region 2 with fail
    rw [← hw1]
    clear hw1
    go_wp2
    go_ret
    exact ⟨by rw [HE.out]; rfl, HB1.out⟩
  have f17 : (x.op == 17) = false := by simpa using o17
  by_cases o8 : x.op = 8 ∨ x.op = 41
  · obtain ⟨a1, a2⟩ := hx.m o8
    obtain ⟨m, hm⟩ := Int.eq_ofNat_of_zero_le (show 0 ≤ x.a by omega)
    have HE : Hid (agr x R = arms R m) := hide_ (by unfold agr; rw [if_neg o2, if_neg o34, if_neg o17, if_pos o8, hm])
    rw [hm] at k1
    obtain ⟨aa, haa⟩ : ∃ aa, (if c = 1 then some (⟨b, off, none⟩ : Addr) else some ⟨b, off + 4, none⟩) = aa := ⟨_, rfl⟩
    have HCon : Hid (∀ (w' : World) (n' c' : Nat), Below w1.heap.size w1 w' → n' = R.length → n' ≤ c' → c' ≤ 9223372036854775807 → Calls Tryd.prog 75 #[.slice aa n' c', .int .i64 (m : Int)] w' fun e w'' => e = .returned (.bool (arms R m)) ∧ Below w'.heap.size w' w'') := hide_ (fun w' n' c' hb hn' hc' hl' => by
      subst hn'
      refine hasArms_any _ R.length c' R m w' rfl hc' hl' (by omega) (hide_ ?_)
      by_cases hc1 : c = 1
      · left; exact List.eq_nil_of_length_eq_zero (by omega)
      · rw [if_neg hc1] at haa
        have h := GRow.drop ((hr.out.later HB1.out).later hb) 1
        rw [Nat.one_mul, List.drop_succ_cons, List.drop_zero, haa] at h
        exact h)
    have HSS : Hid (∀ w', Below w1.heap.size w1 w' → (fun w' => w'.cell? ⟨w.heap.size, 1, none⟩ = some (.int .i64 (m : Int))) w') := hide_ (fun w' hB => ((K1.out.later hB).cell 1).trans (by rw [← hm]; rfl))
    have hnc : (n : Int) ≤ c := by omega
    have o8' : (x.op == 8) = true ∨ ((x.op == 8) = false ∧ (x.op == 41) = true) := by
      by_cases h : x.op = 8
      · left; simp [h]
      · right; exact ⟨by simpa using h, by simp; omega⟩
    clear hx hr hm
    go_enter Tryd.func62, Tryd.ntmps62
    go_upto_region 2 with fail
    rw [← hw1]
    clear hw1
    rcases o8' with h8 | ⟨h8, h41⟩
    · go_wp2_with fail
      --R11
      refine wp_region_last 5 (fun w' => w'.cell? ⟨w.heap.size, 1, none⟩ = some (.int .i64 (m : Int))) (by kernel_rfl) (HSS.out _ ((Below.refl w1.heap.size w1).drew)) (fun hHeld => ?_)
      refine wpAnyF_take [5] (by kernel_rfl) (i := 0) (v := ?vf1) rfl (by kernel_rfl) (by kernel_rfl) (by kernel_rfl) (fun _ _ _ h => h) (Or.inl ⟨by kernel_rfl, ?hyf1⟩) hHeld ?restf1
      case hyf1 => intro w' hSw; (try dsimp only at hSw); go_simp; try with_reducible rfl
      simp only [Act.put]
      refine wpAnyF_take [5] (by kernel_rfl) (i := 1) (v := ?vf2) rfl (by kernel_rfl) (by kernel_rfl) (by kernel_rfl) (fun _ _ _ h => h) (Or.inl ⟨by kernel_rfl, ?hyf2⟩) hHeld ?restf2
      case hyf2 => intro w' hSw; (try dsimp only at hSw); go_simp; try with_reducible rfl
      simp only [Act.put]
      refine wpAnyF_take [5] (by kernel_rfl) (i := 2) (v := ?vf3) rfl (by kernel_rfl) (by kernel_rfl) (by kernel_rfl) (fun _ _ _ h => h) (Or.inl ⟨by kernel_rfl, ?hyf3⟩) hHeld ?restf3
      case hyf3 => intro w' hSw; (try dsimp only at hSw); go_simp; try with_reducible rfl
      simp only [Act.put]
      refine wpAnyF_take [5] (by kernel_rfl) (i := 3) (v := ?vf4) rfl (by kernel_rfl) (by kernel_rfl) (by kernel_rfl) (fun _ _ _ h => h) (Or.inl ⟨by kernel_rfl, ?hyf4⟩) hHeld ?restf4
      case hyf4 => intro w' hSw; (try dsimp only at hSw); go_simp; try with_reducible rfl
      simp only [Act.put]
      refine wpAnyF_ready (rs := [4]) (by kernel_rfl) (by simp) ?_
      refine AllReadyF.cons rfl (fun K hK => ?_) AllReadyF.nil
      go_simp
      refine (HCon.out _ _ _ ((Below.refl w1.heap.size w1).drew) (by first | rfl | omega | (simp; omega)) (by first | omega | (simp; omega)) (by first | omega | (simp; omega))).mono ?_
      rintro e wC ⟨rfl, hbC⟩
      dsimp only
      have HBC := hide_ (below_to ((Below.refl w1.heap.size w1).drew) hbC)
      clear hbC
      refine hK.out _ _ (HSS.out _ HBC.out) (fun hHeld => ?_)
      clear hK K
      refine wpAnyF_ready (rs := [5]) (by kernel_rfl) (by simp) ?_
      refine AllReadyF.last rfl (fun K hK => ?_)
      go_simp
      refine hK.out _ _ ?_
      clear hK K
      refine wpAnyF_done (by kernel_rfl) ?_ _
      clear HSS
      go_wp2
      go_ret
      exact ⟨by rw [HE.out]; rfl, below_to HB1.out HBC.out⟩
      --/R11
    · go_wp2_with fail
      --R12
      refine wp_region_last 5 (fun w' => w'.cell? ⟨w.heap.size, 1, none⟩ = some (.int .i64 (m : Int))) (by kernel_rfl) (HSS.out _ ((Below.refl w1.heap.size w1).drew)) (fun hHeld => ?_)
      refine wpAnyF_take [5] (by kernel_rfl) (i := 0) (v := ?vg1) rfl (by kernel_rfl) (by kernel_rfl) (by kernel_rfl) (fun _ _ _ h => h) (Or.inl ⟨by kernel_rfl, ?hyg1⟩) hHeld ?restg1
      case hyg1 => intro w' hSw; (try dsimp only at hSw); go_simp; try with_reducible rfl
      simp only [Act.put]
      refine wpAnyF_take [5] (by kernel_rfl) (i := 1) (v := ?vg2) rfl (by kernel_rfl) (by kernel_rfl) (by kernel_rfl) (fun _ _ _ h => h) (Or.inl ⟨by kernel_rfl, ?hyg2⟩) hHeld ?restg2
      case hyg2 => intro w' hSw; (try dsimp only at hSw); go_simp; try with_reducible rfl
      simp only [Act.put]
      refine wpAnyF_take [5] (by kernel_rfl) (i := 2) (v := ?vg3) rfl (by kernel_rfl) (by kernel_rfl) (by kernel_rfl) (fun _ _ _ h => h) (Or.inl ⟨by kernel_rfl, ?hyg3⟩) hHeld ?restg3
      case hyg3 => intro w' hSw; (try dsimp only at hSw); go_simp; try with_reducible rfl
      simp only [Act.put]
      refine wpAnyF_take [5] (by kernel_rfl) (i := 3) (v := ?vg4) rfl (by kernel_rfl) (by kernel_rfl) (by kernel_rfl) (fun _ _ _ h => h) (Or.inl ⟨by kernel_rfl, ?hyg4⟩) hHeld ?restg4
      case hyg4 => intro w' hSw; (try dsimp only at hSw); go_simp; try with_reducible rfl
      simp only [Act.put]
      refine wpAnyF_ready (rs := [4]) (by kernel_rfl) (by simp) ?_
      refine AllReadyF.cons rfl (fun K hK => ?_) AllReadyF.nil
      go_simp
      refine (HCon.out _ _ _ ((Below.refl w1.heap.size w1).drew) (by first | rfl | omega | (simp; omega)) (by first | omega | (simp; omega)) (by first | omega | (simp; omega))).mono ?_
      rintro e wC ⟨rfl, hbC⟩
      dsimp only
      have HBC := hide_ (below_to ((Below.refl w1.heap.size w1).drew) hbC)
      clear hbC
      refine hK.out _ _ (HSS.out _ HBC.out) (fun hHeld => ?_)
      clear hK K
      refine wpAnyF_ready (rs := [5]) (by kernel_rfl) (by simp) ?_
      refine AllReadyF.last rfl (fun K hK => ?_)
      go_simp
      refine hK.out _ _ ?_
      clear hK K
      refine wpAnyF_done (by kernel_rfl) ?_ _
      clear HSS
      go_wp2
      go_ret
      exact ⟨by rw [HE.out]; rfl, below_to HB1.out HBC.out⟩
      --/R12
  have f8 : (x.op == 8) = false := by simp; omega
  have f41 : (x.op == 41) = false := by simp; omega
  have HE : Hid (agr x R = true) := hide_ (by unfold agr; rw [if_neg o2, if_neg o34, if_neg o17, if_neg o8])
  clear hx hr
  go_enter Tryd.func62, Tryd.ntmps62
  go_upto_region 2 with fail
  rw [← hw1]
  clear hw1
  go_wp2
  go_ret
  exact ⟨by rw [HE.out]; rfl, HB1.out⟩
end Go.Proofs.YteadmiikenpjeaaDoor
