import Derived.Test.YtbgjgbddpcofcaaGreatDoorPart26
import Derived.Test.YtbgjgbddpcofcaaGreatDoorPart22
import Derived.Test.YtbgjgbddpcofcaaGreatDoorPart28

/- types.Build: lookAtBounds. -/
namespace Go.Proofs.YtbgjgbddpcofcaaGreatDoor
open Go.RowKit
set_option linter.unusedVariables false

abbrev lbX (x : Nd) : Prop := ((x.k = 4 ∨ x.k = 5) ∧ ¬ (1 ≤ x.n ∧ x.n ≤ 1048576)) ∨ 255 < x.tag
theorem lbN_cons (x : Nd) (N : List Nd) : lbN (x :: N) = if lbX x then (90, x.a) else lbN N := rfl
theorem bldFb (a b : Int) (w : World) : (Instr.build 32 #[(0, .int .i64 a), (1, .int .i64 b)]).run Tryz.prog w = .ok (.agg #[.int .i64 a, .int .i64 b]) w := by kernel_rfl
set_option maxRecDepth 100000 in
set_option maxHeartbeats 8000000 in
theorem bounds_any (a : Option Addr) (c : Nat) (D : List Df) (w : World) (hL : Hid (Lens D)) (r : Hid (DRow w a D)) :
    Calls Tryz.prog 14 #[.agg #[.slice a D.length c]] w fun e w' => e = .returned (.agg #[.int .i64 (lbD D).1, .int .i64 (lbD D).2]) ∧ Hid (Below w.heap.size w w') := by
  obtain ⟨R, hR⟩ : ∃ R, lbD D = R := ⟨_, rfl⟩
  rw [hR]
  have hD : D.length ≤ 9223372036854775807 := hL.out.1
  obtain ⟨w1, hw1⟩ : ∃ wx, wx = (w.alloc (.cells #[.slice a D.length c] 24)).alloc (.cells #[.int .i64 0, .int .i64 0] 32) := ⟨_, rfl⟩
  have hB1 : Below w.heap.size w w1 := by rw [hw1]; exact ((Below.refl _ _).alloc (Nat.le_refl _) _).alloc (by simp) _
  have ks : Blk w1 w.heap.size 24 [.slice a D.length c] := by rw [hw1]; exact (Blk.newA w #[.slice a D.length c] 24).alloc _
  have kf : Blk w1 (w.heap.size + 1) 32 [.int .i64 0, .int .i64 0] := by
    have h := Blk.newA (w.alloc (.cells #[.slice a D.length c] 24)) #[.int .i64 0, .int .i64 0] 32
    rw [← hw1, World.size_alloc] at h
    exact h
  have HB1 := hide_ hB1
  have KF := hide_ kf
  have HR0 : Hid (lbD (D.drop 0) = R) := hide_ hR
  have s0 := ks.cell 0
  simp at s0
  clear hR hB1 ks kf
  go_enter Tryz.func14, Tryz.ntmps14
  go_upto_region 1 with fail
  rw [← hw1]
  clear hw1
  go_wp2_with fail
  go_loopw [11] (fun x11 wr => ∃ (i : Nat), i ≤ D.length ∧ x11 = .int .i64 (i : Int) ∧ Hid (lbD (D.drop i) = R) ∧ Hid (Below w1.heap.size w1 wr)) (fun x11 _ => D.length - (intOf x11).toNat)
  case atStart => exact ⟨0, Nat.zero_le _, rfl, HR0, hide_ (Below.refl _ _)⟩
  case round =>
    obtain ⟨i, hi, rfl, HRi, HB⟩ := hrel
    generalize wr = wq at *
    clear HR0 s0
    by_cases hlt : i < D.length
    · have hlt' : (i : Int) < (D.length : Int) := by omega
      obtain ⟨b, o, rfl, hb, hc⟩ := (r.out.later (below_to HB1.out HB.out)).open (by omega)
      have hx : D[i]? = some (D[i]'hlt) := List.getElem?_eq_getElem hlt
      obtain ⟨va, vc, hcx, hvc, -, hN⟩ := hc i _ hx
      have hdr : D.drop i = D[i]'hlt :: D.drop (i + 1) := List.drop_eq_getElem_cons hlt
      have hty : (D[i]'hlt).ty.length ≤ 9223372036854775807 := hL.out.2 _ (List.getElem_mem hlt)
      generalize D[i]'hlt = d at *
      have i0 := hcx 0 (by decide); have i1 := hcx 1 (by decide); have i2 := hcx 2 (by decide)
      simp [dfc] at i0 i1 i2
      clear hc hx hcx
      obtain ⟨w2, hw2⟩ : ∃ wx, wx = wq.alloc (.cells #[.string d.name, .int .i64 d.a, .slice va d.ty.length vc] 38) := ⟨_, rfl⟩
      have hB2 : Below wq.heap.size wq w2 := by rw [hw2]; exact (Below.refl _ _).alloc (Nat.le_refl _) _
      have kd : Blk w2 wq.heap.size 38 [.string d.name, .int .i64 d.a, .slice va d.ty.length vc] := by rw [hw2]; exact Blk.newA wq _ _
      have HN := hide_ (hN.later hB2)
      have HB2 := hide_ (below_to HB.out hB2)
      have d2 := kd.cell 2
      simp at d2
      have Hdr := hide_ hdr
      rw [hdr] at HRi
      have HRn : Hid ((if (lbN (d.ty.drop 0)).1 = 0 then lbD (D.drop (i + 1)) else lbN (d.ty.drop 0)) = R) := hide_ (by rw [← HRi.out]; rfl)
      clear kd hB2 hN hdr HRi HB
      go_upto_region 4 with fail
      rw [← hw2]
      clear hw2 i0 i1 i2
      go_wp2_with fail
      go_loopw [18] (fun x18 wr => ∃ (j : Nat), j ≤ d.ty.length ∧ x18 = .int .i64 (j : Int) ∧ Hid ((if (lbN (d.ty.drop j)).1 = 0 then lbD (D.drop (i + 1)) else lbN (d.ty.drop j)) = R) ∧ Hid (Below w2.heap.size w2 wr)) (fun x18 _ => d.ty.length - (intOf x18).toNat)
      case atStart => exact ⟨0, Nat.zero_le _, rfl, HRn, hide_ (Below.refl _ _)⟩
      case round =>
        obtain ⟨j, hj, rfl, HRj, HBj⟩ := hrel
        generalize wr = wp at *
        clear HRn d2
        by_cases hjt : j < d.ty.length
        · have hjt' : (j : Int) < (d.ty.length : Int) := by omega
          obtain ⟨b2, o2, rfl, hb2, hc2⟩ := (HN.out.later HBj.out).open (by omega)
          have hy : d.ty[j]? = some (d.ty[j]'hjt) := List.getElem?_eq_getElem hjt
          have hcy := hc2 j _ hy
          have hdj : d.ty.drop j = d.ty[j]'hjt :: d.ty.drop (j + 1) := List.drop_eq_getElem_cons hjt
          generalize d.ty[j]'hjt = x at *
          have j0 := hcy 0 (by decide); have j1 := hcy 1 (by decide); have j2 := hcy 2 (by decide); have j3 := hcy 3 (by decide); have j4 := hcy 4 (by decide); have j5 := hcy 5 (by decide); have j6 := hcy 6 (by decide)
          simp [ndc] at j0 j1 j2 j3 j4 j5 j6
          rw [hdj, lbN_cons] at HRj
          obtain ⟨w3, hw3⟩ : ∃ wx, wx = wp.alloc (.cells #[.int .i64 x.k, .int .i64 x.n, .string x.name, .string x.label, .int .i64 x.tag, .int .i64 x.kids, .int .i64 x.a] 40) := ⟨_, rfl⟩
          have hB3 : Below wp.heap.size wp w3 := by rw [hw3]; exact (Below.refl _ _).alloc (Nat.le_refl _) _
          have kx : Blk w3 wp.heap.size 40 (ndc x) := by rw [hw3]; exact Blk.newA wp _ _
          have HB3 := hide_ (below_to HBj.out hB3)
          have k0 := kx.cell 0; have k1 := kx.cell 1; have k4 := kx.cell 4; have k6 := kx.cell 6
          simp [ndc] at k0 k1 k4 k6
          have K3 := hide_ (KF.out.later (below_to HB2.out HB3.out))
          clear hc2 hy hcy hdj kx hB3 HBj
          go_upto_region 7 with fail
          rw [← hw3]
          clear hw3 j0 j1 j2 j3 j4 j5 j6
          have hic := isCount_any x.n w3
          have HBad : Hid (lbX x → R = (90, x.a)) := hide_ (fun h => by rw [← HRj.out, if_pos h]; rfl)
          have HGood : Hid (¬ lbX x → (if (lbN (d.ty.drop (j + 1))).1 = 0 then lbD (D.drop (i + 1)) else lbN (d.ty.drop (j + 1))) = R) := hide_ (fun h => by rw [← HRj.out, if_neg h])
          have hbf := bldFb
          have q0 := K3.out.cell 0; have q1 := K3.out.cell 1; have qz := fun i => K3.out.frozen i
          simp at q0 q1
          clear HRj
          cases hk4 : (x.k == 4) <;> cases hk5 : (x.k == 5) <;> cases hcn : isCnt x.n <;> by_cases htg : 255 < x.tag
          · have hX : lbX x := by unfold lbX; simp [isCnt] at hk4 hk5 hcn; omega
            go_wp2_with (go_at_call 28; refine hic.mono ?_; rintro e w' ⟨rfl, rfl⟩)
            exact retF (a := 90) (b := x.a) rfl rfl (wr2 K3.out _ _) ⟨by rw [HBad.out hX], hide_ (below_set2 (below_to HB1.out (below_to HB2.out HB3.out)) _ _ _ (by omega))⟩
          · have hX : ¬ lbX x := by unfold lbX; simp [isCnt] at hk4 hk5 hcn; omega
            have HNx := hide_ (HGood.out hX)
            go_wp2_with (go_at_call 28; refine hic.mono ?_; rintro e w' ⟨rfl, rfl⟩)
            go_roundw
            case rel => exact ⟨j + 1, by omega, by go_num, HNx, HB3⟩
            case measure => simp [intOf]; omega
          · have hX : lbX x := by unfold lbX; simp [isCnt] at hk4 hk5 hcn; omega
            go_wp2_with (go_at_call 28; refine hic.mono ?_; rintro e w' ⟨rfl, rfl⟩)
            exact retF (a := 90) (b := x.a) rfl rfl (wr2 K3.out _ _) ⟨by rw [HBad.out hX], hide_ (below_set2 (below_to HB1.out (below_to HB2.out HB3.out)) _ _ _ (by omega))⟩
          · have hX : ¬ lbX x := by unfold lbX; simp [isCnt] at hk4 hk5 hcn; omega
            have HNx := hide_ (HGood.out hX)
            go_wp2_with (go_at_call 28; refine hic.mono ?_; rintro e w' ⟨rfl, rfl⟩)
            go_roundw
            case rel => exact ⟨j + 1, by omega, by go_num, HNx, HB3⟩
            case measure => simp [intOf]; omega
          · have hX : lbX x := by unfold lbX; simp [isCnt] at hk4 hk5 hcn; omega
            go_wp2_with (go_at_call 28; refine hic.mono ?_; rintro e w' ⟨rfl, rfl⟩)
            exact retF (a := 90) (b := x.a) rfl rfl (wr2 K3.out _ _) ⟨by rw [HBad.out hX], hide_ (below_set2 (below_to HB1.out (below_to HB2.out HB3.out)) _ _ _ (by omega))⟩
          · have hX : lbX x := by unfold lbX; simp [isCnt] at hk4 hk5 hcn; omega
            go_wp2_with (go_at_call 28; refine hic.mono ?_; rintro e w' ⟨rfl, rfl⟩)
            exact retF (a := 90) (b := x.a) rfl rfl (wr2 K3.out _ _) ⟨by rw [HBad.out hX], hide_ (below_set2 (below_to HB1.out (below_to HB2.out HB3.out)) _ _ _ (by omega))⟩
          · have hX : lbX x := by unfold lbX; simp [isCnt] at hk4 hk5 hcn; omega
            go_wp2_with (go_at_call 28; refine hic.mono ?_; rintro e w' ⟨rfl, rfl⟩)
            exact retF (a := 90) (b := x.a) rfl rfl (wr2 K3.out _ _) ⟨by rw [HBad.out hX], hide_ (below_set2 (below_to HB1.out (below_to HB2.out HB3.out)) _ _ _ (by omega))⟩
          · have hX : ¬ lbX x := by unfold lbX; simp [isCnt] at hk4 hk5 hcn; omega
            have HNx := hide_ (HGood.out hX)
            go_wp2_with (go_at_call 28; refine hic.mono ?_; rintro e w' ⟨rfl, rfl⟩)
            go_roundw
            case rel => exact ⟨j + 1, by omega, by go_num, HNx, HB3⟩
            case measure => simp [intOf]; omega
          · have hX : lbX x := by unfold lbX; simp [isCnt] at hk4 hk5 hcn; omega
            go_wp2_with (go_at_call 28; refine hic.mono ?_; rintro e w' ⟨rfl, rfl⟩)
            exact retF (a := 90) (b := x.a) rfl rfl (wr2 K3.out _ _) ⟨by rw [HBad.out hX], hide_ (below_set2 (below_to HB1.out (below_to HB2.out HB3.out)) _ _ _ (by omega))⟩
          · have hX : lbX x := by unfold lbX; simp [isCnt] at hk4 hk5 hcn; omega
            go_wp2_with (go_at_call 28; refine hic.mono ?_; rintro e w' ⟨rfl, rfl⟩)
            exact retF (a := 90) (b := x.a) rfl rfl (wr2 K3.out _ _) ⟨by rw [HBad.out hX], hide_ (below_set2 (below_to HB1.out (below_to HB2.out HB3.out)) _ _ _ (by omega))⟩
          · have hX : lbX x := by unfold lbX; simp [isCnt] at hk4 hk5 hcn; omega
            go_wp2_with (go_at_call 28; refine hic.mono ?_; rintro e w' ⟨rfl, rfl⟩)
            exact retF (a := 90) (b := x.a) rfl rfl (wr2 K3.out _ _) ⟨by rw [HBad.out hX], hide_ (below_set2 (below_to HB1.out (below_to HB2.out HB3.out)) _ _ _ (by omega))⟩
          · have hX : ¬ lbX x := by unfold lbX; simp [isCnt] at hk4 hk5 hcn; omega
            have HNx := hide_ (HGood.out hX)
            go_wp2_with (go_at_call 28; refine hic.mono ?_; rintro e w' ⟨rfl, rfl⟩)
            go_roundw
            case rel => exact ⟨j + 1, by omega, by go_num, HNx, HB3⟩
            case measure => simp [intOf]; omega
          · simp at hk4 hk5; omega
          · simp at hk4 hk5; omega
          · simp at hk4 hk5; omega
          · simp at hk4 hk5; omega
        · obtain rfl : j = d.ty.length := by omega
          have hjt' : ¬ ((d.ty.length : Int) < (d.ty.length : Int)) := by omega
          have HRf : Hid (lbD (D.drop (i + 1)) = R) := hide_ (by
            have h := HRj.out
            rw [List.drop_length] at h
            exact h)
          have HBf := hide_ (below_to HB2.out HBj.out)
          clear HRj
          go_wp2_with fail
          go_roundw
          case rel => exact ⟨i + 1, by omega, by go_num, HRf, HBf⟩
          case measure => simp [intOf]; omega
    · obtain rfl : i = D.length := by omega
      have hlt' : ¬ ((D.length : Int) < (D.length : Int)) := by omega
      have hR : R = (0, 0) := by
        have h := HRi.out
        rw [List.drop_length] at h
        exact h.symm
      have f0 := bldF0
      have K3 := hide_ (KF.out.later HB.out)
      have q0 := K3.out.cell 0; have q1 := K3.out.cell 1; have qz := fun i => K3.out.frozen i
      simp at q0 q1
      have HR := hide_ hR
      clear hR
      go_wp2_with fail
      exact retF (a := 0) (b := 0) rfl rfl (wr2 K3.out _ _) ⟨by rw [HR.out], hide_ (below_set2 (below_to HB1.out HB.out) _ _ _ (by omega))⟩
end Go.Proofs.YtbgjgbddpcofcaaGreatDoor
