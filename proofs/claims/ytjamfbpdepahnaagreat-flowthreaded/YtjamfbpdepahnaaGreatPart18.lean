import Derived.Test.YtjamfbpdepahnaaGreatPart13
import Derived.Deep.RegionHeldLaw
import Derived.Test.YtjamfbpdepahnaaGreatPart01
import Derived.Test.YtjamfbpdepahnaaGreatPart10
namespace Go.Proofs.YtjamfbpdepahnaaGreat
open Go.RowKit
set_option linter.unusedVariables false
set_option linter.unusedSimpArgs false
theorem alw_rng {nc ne k n : Int} (h : alw nc ne k n = true) : (bnd nc ne k).1 ≤ n ∧ n ≤ (bnd nc ne k).2 := by
  unfold alw at h
  rw [Bool.and_eq_true] at h
  exact of_decide_eq_true h.1
theorem frmX_parts {enc : Bool} {nc ne : Int} {x : In} (h : frmX enc nc ne x = true) : isOf x.op enc = true ∧ alw nc ne (kin x.op).1 x.a = true ∧ alw nc ne (kin x.op).2.1 x.b = true ∧ alw nc ne (kin x.op).2.2 x.c = true := by
  unfold frmX at h
  simp only [Bool.and_eq_true] at h
  exact h
structure AgB (x : In) : Prop where
  u : x.op = 2 → 0 ≤ x.a ∧ x.a ≤ 63 ∧ 2 ≤ x.b ∧ x.b ≤ 64
  n : x.op = 34 → 0 ≤ x.a ∧ x.a ≤ 16777215 ∧ 2 ≤ x.b ∧ x.b ≤ 64 ∧ 1 ≤ x.c ∧ x.c ≤ 8
  m : x.op = 8 ∨ x.op = 41 → 1 ≤ x.a ∧ x.a ≤ 64
theorem frmX_agB {enc : Bool} {nc ne : Int} {x : In} (h : frmX enc nc ne x = true) : AgB x := by
  obtain ⟨-, h1, h2, h3⟩ := frmX_parts h
  have h1 := alw_rng h1
  have h2 := alw_rng h2
  have h3 := alw_rng h3
  refine ⟨fun e => ?_, fun e => ?_, fun e => ?_⟩
  · rw [e] at h1 h2
    have a1 : bnd nc ne (kin 2).1 = (0, 63) := rfl
    have a2 : bnd nc ne (kin 2).2.1 = (2, 64) := rfl
    rw [a1] at h1; rw [a2] at h2
    simp at h1 h2
    omega
  · rw [e] at h1 h2 h3
    have a1 : bnd nc ne (kin 34).1 = (0, 16777215) := rfl
    have a2 : bnd nc ne (kin 34).2.1 = (2, 64) := rfl
    have a3 : bnd nc ne (kin 34).2.2 = (1, 8) := rfl
    rw [a1] at h1; rw [a2] at h2; rw [a3] at h3
    simp at h1 h2 h3
    omega
  · rcases e with e | e
    all_goals
      rw [e] at h1
      first
        | (have a1 : bnd nc ne (kin 8).1 = (1, 64) := rfl
           rw [a1] at h1; simp at h1; omega)
        | (have a1 : bnd nc ne (kin 41).1 = (1, 64) := rfl
           rw [a1] at h1; simp at h1; omega)
theorem mul_bnd {b c : Int} (hb : 2 ≤ b ∧ b ≤ 64) (hc : 1 ≤ c ∧ c ≤ 8) : 2 ≤ b * c ∧ b * c ≤ 512 := by
  have h : c = 1 ∨ c = 2 ∨ c = 3 ∨ c = 4 ∨ c = 5 ∨ c = 6 ∨ c = 7 ∨ c = 8 := by omega
  rcases h with rfl | rfl | rfl | rfl | rfl | rfl | rfl | rfl <;> omega
set_option maxRecDepth 100000 in
set_option maxHeartbeats 4000000 in
theorem agree_any (b off n c : Nat) (x : In) (R : List In) (w : World) (hn : R.length + 1 = n) (hc : n ≤ c) (hl : c ≤ 9223372036854775807) (hx : AgB x) (hr : Hid (IRow w (some ⟨b, off, none⟩) (x :: R))) :
    Calls Tryz.prog 49 #[.slice (some ⟨b, off, none⟩) n c] w fun e w' => e = .returned (.bool (agr x R)) ∧ Below w.heap.size w w' := by
  obtain ⟨i0, i1, i2, i3⟩ := hr.out.at (i := 0) (x := x) rfl
  simp only [Nat.zero_mul, Nat.add_zero] at i0 i1 i2 i3
  obtain ⟨w1, hw1⟩ : ∃ wx, wx = w.alloc (.cells #[.int .i64 x.op, .int .i64 x.a, .int .i64 x.b, .int .i64 x.c] 37) := ⟨_, rfl⟩
  have hB1 : Below w.heap.size w w1 := by rw [hw1]; exact below1 _ _
  have K1 : Hid (Blk w1 w.heap.size 37 (inc x)) := hide_ (by rw [hw1]; exact Blk.newA w _ _)
  have HB1 := hide_ hB1
  have hn1 : (1 : Int) ≤ n := by omega
  have k0 := K1.out.cell 0; have k1 := K1.out.cell 1; have k2 := K1.out.cell 2; have k3 := K1.out.cell 3
  simp [inc] at k0 k1 k2 k3
  clear hB1
  by_cases o2 : x.op = 2
  · obtain ⟨a1, a2, a3, a4⟩ := hx.u o2
    rw [o2] at k0
    have HE : Hid (agr x R = decide (x.a + x.b ≤ 64)) := hide_ (by unfold agr; rw [if_pos o2])
    clear o2
    have hw : wrap64 (x.a + x.b) = x.a + x.b := w64 _ (by omega)
    clear hx hr
    go_enter Tryz.func49, Tryz.ntmps49
    go_upto_region 2 with fail
    rw [← hw1]
    clear hw1
    go_wp2
    go_ret
    exact ⟨by rw [HE.out]; rfl, HB1.out⟩
  have f2 : (x.op == 2) = false := by simpa using o2
  by_cases o34 : x.op = 34
  · obtain ⟨a1, a2, a3, a4, a5, a6⟩ := hx.n o34
    have hmb := mul_bnd ⟨a3, a4⟩ ⟨a5, a6⟩
    rw [o34] at k0
    have HE : Hid (agr x R = decide (x.a + x.b * x.c ≤ 16777216)) := hide_ (by unfold agr; rw [if_neg o2, if_pos o34])
    clear o34
    obtain ⟨p, hp⟩ : ∃ p, x.b * x.c = p := ⟨_, rfl⟩
    rw [hp] at HE hmb
    have hw0 : wrap64 (x.b * x.c) = p := by rw [hp]; exact w64 _ (by omega)
    have hw : wrap64 (x.a + p) = x.a + p := w64 _ (by omega)
    clear hx hr hp
    go_enter Tryz.func49, Tryz.ntmps49
    go_upto_region 2 with fail
    rw [← hw1]
    clear hw1
    go_wp2
    go_ret
    exact ⟨by rw [HE.out]; rfl, HB1.out⟩
  have f34 : (x.op == 34) = false := by simpa using o34
  by_cases o17 : x.op = 17
  · rw [o17] at k0
    have HE : Hid (agr x R = ((x.a == -1) == (x.b == -1))) := hide_ (by unfold agr; rw [if_neg o2, if_neg o34, if_pos o17])
    clear o17
    clear hx hr
    go_enter Tryz.func49, Tryz.ntmps49
    go_upto_region 2 with fail
    rw [← hw1]
    clear hw1
    go_wp2
    go_ret
    exact ⟨by rw [HE.out]; rfl, HB1.out⟩
  have f17 : (x.op == 17) = false := by simpa using o17
  by_cases o8 : x.op = 8 ∨ x.op = 41
  · obtain ⟨a1, a2⟩ := hx.m o8
    obtain ⟨m, hm⟩ := Int.eq_ofNat_of_zero_le (show 0 ≤ x.a by omega)
    have HE : Hid (agr x R = arms R m) := hide_ (by unfold agr; rw [if_neg o2, if_neg o34, if_neg o17, if_pos o8, hm])
    rw [hm] at k1
    obtain ⟨aa, haa⟩ : ∃ aa, (if c = 1 then some (⟨b, off, none⟩ : Addr) else some ⟨b, off + 4, none⟩) = aa := ⟨_, rfl⟩
    have HCon : Hid (∀ (w' : World) (n' c' : Nat), Below w1.heap.size w1 w' → n' = R.length → n' ≤ c' → c' ≤ 9223372036854775807 → Calls Tryz.prog 76 #[.slice aa n' c', .int .i64 (m : Int)] w' fun e w'' => e = .returned (.bool (arms R m)) ∧ Below w'.heap.size w' w'') := hide_ (fun w' n' c' hb hn' hc' hl' => by
      subst hn'
      refine hasArms_any _ R.length c' R m w' rfl hc' hl' (by omega) (hide_ ?_)
      by_cases hc1 : c = 1
      · left; exact List.eq_nil_of_length_eq_zero (by omega)
      · rw [if_neg hc1] at haa
        have h := GRow.drop ((hr.out.later HB1.out).later hb) 1
        rw [Nat.one_mul, List.drop_succ_cons, List.drop_zero, haa] at h
        exact h)
    have HSS : Hid (∀ w', Below w1.heap.size w1 w' → (fun w' => w'.cell? ⟨w.heap.size, 1, none⟩ = some (.int .i64 (m : Int))) w') := hide_ (fun w' hB => ((K1.out.later hB).cell 1).trans (by rw [← hm]; rfl))
    have hnc : (n : Int) ≤ c := by omega
    have o8' : (x.op == 8) = true ∨ ((x.op == 8) = false ∧ (x.op == 41) = true) := by
      by_cases h : x.op = 8
      · left; simp [h]
      · right; exact ⟨by simpa using h, by simp; omega⟩
    clear hx hr hm
    go_enter Tryz.func49, Tryz.ntmps49
    go_upto_region 2 with fail
    rw [← hw1]
    clear hw1
    rcases o8' with h8 | ⟨h8, h41⟩
    · go_wp2_with fail
      --R11
      refine wp_region_last 5 (fun w' => w'.cell? ⟨w.heap.size, 1, none⟩ = some (.int .i64 (m : Int))) (by kernel_rfl) (HSS.out _ ((Below.refl w1.heap.size w1).drew)) (fun hHeld => ?_)
      refine wpAnyF_take [5] (by kernel_rfl) (i := 0) (v := ?vf1) rfl (by kernel_rfl) (by kernel_rfl) (by kernel_rfl) (fun _ _ _ h => h) (Or.inl ⟨by kernel_rfl, ?hyf1⟩) hHeld ?restf1
      case hyf1 => intro w' hSw; (try dsimp only at hSw); go_simp; try with_reducible rfl
      simp only [Act.put]
      refine wpAnyF_take [5] (by kernel_rfl) (i := 1) (v := ?vf2) rfl (by kernel_rfl) (by kernel_rfl) (by kernel_rfl) (fun _ _ _ h => h) (Or.inl ⟨by kernel_rfl, ?hyf2⟩) hHeld ?restf2
      case hyf2 => intro w' hSw; (try dsimp only at hSw); go_simp; try with_reducible rfl
      simp only [Act.put]
      refine wpAnyF_take [5] (by kernel_rfl) (i := 2) (v := ?vf3) rfl (by kernel_rfl) (by kernel_rfl) (by kernel_rfl) (fun _ _ _ h => h) (Or.inl ⟨by kernel_rfl, ?hyf3⟩) hHeld ?restf3
      case hyf3 => intro w' hSw; (try dsimp only at hSw); go_simp; try with_reducible rfl
      simp only [Act.put]
      refine wpAnyF_take [5] (by kernel_rfl) (i := 3) (v := ?vf4) rfl (by kernel_rfl) (by kernel_rfl) (by kernel_rfl) (fun _ _ _ h => h) (Or.inl ⟨by kernel_rfl, ?hyf4⟩) hHeld ?restf4
      case hyf4 => intro w' hSw; (try dsimp only at hSw); go_simp; try with_reducible rfl
      simp only [Act.put]
      refine wpAnyF_ready (rs := [4]) (by kernel_rfl) (by simp) ?_
      refine AllReadyF.cons rfl (fun K hK => ?_) AllReadyF.nil
      go_simp
      refine (HCon.out _ _ _ ((Below.refl w1.heap.size w1).drew) (by first | rfl | omega | (simp; omega)) (by first | omega | (simp; omega)) (by first | omega | (simp; omega))).mono ?_
      rintro e wC ⟨rfl, hbC⟩
      dsimp only
      have HBC := hide_ (below_to ((Below.refl w1.heap.size w1).drew) hbC)
      clear hbC
      refine hK.out _ _ (HSS.out _ HBC.out) (fun hHeld => ?_)
      clear hK K
      refine wpAnyF_ready (rs := [5]) (by kernel_rfl) (by simp) ?_
      refine AllReadyF.last rfl (fun K hK => ?_)
      go_simp
      refine hK.out _ _ ?_
      clear hK K
      refine wpAnyF_done (by kernel_rfl) ?_ _
      clear HSS
      go_wp2
      go_ret
      exact ⟨by rw [HE.out]; rfl, below_to HB1.out HBC.out⟩
      --/R11
    · go_wp2_with fail
      --R12
      refine wp_region_last 5 (fun w' => w'.cell? ⟨w.heap.size, 1, none⟩ = some (.int .i64 (m : Int))) (by kernel_rfl) (HSS.out _ ((Below.refl w1.heap.size w1).drew)) (fun hHeld => ?_)
      refine wpAnyF_take [5] (by kernel_rfl) (i := 0) (v := ?vg1) rfl (by kernel_rfl) (by kernel_rfl) (by kernel_rfl) (fun _ _ _ h => h) (Or.inl ⟨by kernel_rfl, ?hyg1⟩) hHeld ?restg1
      case hyg1 => intro w' hSw; (try dsimp only at hSw); go_simp; try with_reducible rfl
      simp only [Act.put]
      refine wpAnyF_take [5] (by kernel_rfl) (i := 1) (v := ?vg2) rfl (by kernel_rfl) (by kernel_rfl) (by kernel_rfl) (fun _ _ _ h => h) (Or.inl ⟨by kernel_rfl, ?hyg2⟩) hHeld ?restg2
      case hyg2 => intro w' hSw; (try dsimp only at hSw); go_simp; try with_reducible rfl
      simp only [Act.put]
      refine wpAnyF_take [5] (by kernel_rfl) (i := 2) (v := ?vg3) rfl (by kernel_rfl) (by kernel_rfl) (by kernel_rfl) (fun _ _ _ h => h) (Or.inl ⟨by kernel_rfl, ?hyg3⟩) hHeld ?restg3
      case hyg3 => intro w' hSw; (try dsimp only at hSw); go_simp; try with_reducible rfl
      simp only [Act.put]
      refine wpAnyF_take [5] (by kernel_rfl) (i := 3) (v := ?vg4) rfl (by kernel_rfl) (by kernel_rfl) (by kernel_rfl) (fun _ _ _ h => h) (Or.inl ⟨by kernel_rfl, ?hyg4⟩) hHeld ?restg4
      case hyg4 => intro w' hSw; (try dsimp only at hSw); go_simp; try with_reducible rfl
      simp only [Act.put]
      refine wpAnyF_ready (rs := [4]) (by kernel_rfl) (by simp) ?_
      refine AllReadyF.cons rfl (fun K hK => ?_) AllReadyF.nil
      go_simp
      refine (HCon.out _ _ _ ((Below.refl w1.heap.size w1).drew) (by first | rfl | omega | (simp; omega)) (by first | omega | (simp; omega)) (by first | omega | (simp; omega))).mono ?_
      rintro e wC ⟨rfl, hbC⟩
      dsimp only
      have HBC := hide_ (below_to ((Below.refl w1.heap.size w1).drew) hbC)
      clear hbC
      refine hK.out _ _ (HSS.out _ HBC.out) (fun hHeld => ?_)
      clear hK K
      refine wpAnyF_ready (rs := [5]) (by kernel_rfl) (by simp) ?_
      refine AllReadyF.last rfl (fun K hK => ?_)
      go_simp
      refine hK.out _ _ ?_
      clear hK K
      refine wpAnyF_done (by kernel_rfl) ?_ _
      clear HSS
      go_wp2
      go_ret
      exact ⟨by rw [HE.out]; rfl, below_to HB1.out HBC.out⟩
      --/R12
  have f8 : (x.op == 8) = false := by simp; omega
  have f41 : (x.op == 41) = false := by simp; omega
  have HE : Hid (agr x R = true) := hide_ (by unfold agr; rw [if_neg o2, if_neg o34, if_neg o17, if_neg o8])
  clear hx hr
  go_enter Tryz.func49, Tryz.ntmps49
  go_upto_region 2 with fail
  rw [← hw1]
  clear hw1
  go_wp2
  go_ret
  exact ⟨by rw [HE.out]; rfl, HB1.out⟩
def oat (x : In) : Nat → Int
  | 0 => x.a
  | 1 => x.b
  | _ => x.c
def kat (k : Int × Int × Int) : Nat → Int
  | 0 => k.1
  | 1 => k.2.1
  | _ => k.2.2
def nmj (k : Int × Int × Int) (x : In) : Nat → List Int
  | 0 => []
  | j + 1 => nmj k x j ++ (if kat k j ≠ 0 then [oat x j] else [])
def nmd (x : In) : List Int := nmj (kin x.op) x 3
def opB (n : Int) : List Int := form (n + 1).toNat
def insB (x : In) : List Int := form x.op.toNat ++ (nmd x).flatMap opB
def entB (n : Int) : List Int := form n.toNat
def encP (enc : Bool) (C : List In) (E : List Int) : List Int := [109, if enc then 1 else 0] ++ form E.length ++ E.flatMap entB ++ form C.length ++ C.flatMap insB
structure InB (x : In) : Prop where
  op : 1 ≤ x.op ∧ x.op ≤ 47
  nm : ∀ j, j < 3 → -1 ≤ oat x j ∧ oat x j ≤ 16777216
theorem frm_at {enc : Bool} {C : List In} {ne i : Nat} {x : In} (h : C[i]? = some x) : frm enc C ne i = (frmX enc C.length ne x && agr x (C.drop (i + 1))) := by unfold frm; rw [h]
theorem frmX_of {enc : Bool} {nc ne : Int} {x : In} (h0 : isOf x.op enc = true) (h : ∀ j, j < 3 → alw nc ne (kat (kin x.op) j) (oat x j) = true) : frmX enc nc ne x = true := by
  have a := h 0 (by omega); have b := h 1 (by omega); have c := h 2 (by omega)
  simp only [kat, oat] at a b c
  unfold frmX
  rw [h0, a, b, c]
  rfl
theorem frmX_not {enc : Bool} {nc ne : Int} {x : In} {j : Nat} (hj : j < 3) (h : alw nc ne (kat (kin x.op) j) (oat x j) = false) : frmX enc nc ne x = false := by
  unfold frmX
  have : j = 0 ∨ j = 1 ∨ j = 2 := by omega
  rcases this with rfl | rfl | rfl
  all_goals
    simp only [kat, oat] at h
    rw [h]
    simp
theorem ix3_0 (x y z : Value) (w : World) : (Instr.index 85 (.agg #[x, y, z]) (.int .i64 0)).run Tryz.prog w = .ok x w := by kernel_rfl
theorem ix3_1 (x y z : Value) (w : World) : (Instr.index 85 (.agg #[x, y, z]) (.int .i64 1)).run Tryz.prog w = .ok y w := by kernel_rfl
theorem ix3_2 (x y z : Value) (w : World) : (Instr.index 85 (.agg #[x, y, z]) (.int .i64 2)).run Tryz.prog w = .ok z w := by kernel_rfl
set_option maxRecDepth 100000 in
set_option maxHeartbeats 4000000 in
theorem hasForm_any (enc : Bool) (ac ae : Option Addr) (cc ne ce : Nat) (C : List In) (i : Nat) (w : World) (hi : i < C.length) (hcc : C.length ≤ cc) (hcl : cc ≤ 9223372036854775807) (hCl : C.length ≤ 140737488355328) (hne : ne ≤ 140737488355328) (hr : Hid (IRow w ac C)) :
    Calls Tryz.prog 32 #[.agg #[.bool enc, .slice ac C.length cc, .slice ae ne ce], .int .i64 (i : Int)] w fun e w' => e = .returned (.bool (frm enc C ne i)) ∧ Below w.heap.size w w' := by
  obtain ⟨b, off, rfl, hb, -⟩ := hr.out.open (by omega)
  have hx : C[i]? = some (C[i]'hi) := List.getElem?_eq_getElem hi
  obtain ⟨i0, i1, i2, i3⟩ := hr.out.at hx
  have HFr := hide_ (frm_at (enc := enc) (ne := ne) hx)
  have HDr : Hid (C.drop i = C[i]'hi :: C.drop (i + 1)) := hide_ (List.drop_eq_getElem_cons hi)
  generalize C[i]'hi = x at *
  have hii : (i : Int) < C.length := by omega
  obtain ⟨w1, hw1⟩ : ∃ wx, wx = (w.alloc (.cells #[.bool enc, .slice (some ⟨b, off, none⟩) C.length cc, .slice ae ne ce] 25)).alloc (.cells #[.int .i64 x.op, .int .i64 x.a, .int .i64 x.b, .int .i64 x.c] 37) := ⟨_, rfl⟩
  have hB1 : Below w.heap.size w w1 := by rw [hw1]; exact below2 _ _ _
  obtain ⟨kp, ki⟩ := blk2 w #[.bool enc, .slice (some ⟨b, off, none⟩) C.length cc, .slice ae ne ce] #[.int .i64 x.op, .int .i64 x.a, .int .i64 x.b, .int .i64 x.c] 25 37
  rw [← hw1] at kp ki
  have KP := hide_ kp
  have KI := hide_ ki
  have HB1 := hide_ hB1
  have p0 := kp.cell 0; have p1 := kp.cell 1; have p2 := kp.cell 2
  have q0 := ki.cell 0; have q1 := ki.cell 1; have q2 := ki.cell 2; have q3 := ki.cell 3
  simp at p0 p1 p2 q0 q1 q2 q3
  have c0 : (w.alloc (.cells #[.bool enc, .slice (some ⟨b, off, none⟩) C.length cc, .slice ae ne ce] 25)).cell? ⟨b, off + i * 4, none⟩ = some (.int .i64 x.op) := by rw [cell_al _ _ _ _ hb]; exact i0
  have c1 : (w.alloc (.cells #[.bool enc, .slice (some ⟨b, off, none⟩) C.length cc, .slice ae ne ce] 25)).cell? ⟨b, off + i * 4 + 1, none⟩ = some (.int .i64 x.a) := by rw [cell_al _ _ _ _ hb]; exact i1
  have c2 : (w.alloc (.cells #[.bool enc, .slice (some ⟨b, off, none⟩) C.length cc, .slice ae ne ce] 25)).cell? ⟨b, off + i * 4 + 2, none⟩ = some (.int .i64 x.b) := by rw [cell_al _ _ _ _ hb]; exact i2
  have c3 : (w.alloc (.cells #[.bool enc, .slice (some ⟨b, off, none⟩) C.length cc, .slice ae ne ce] 25)).cell? ⟨b, off + i * 4 + 3, none⟩ = some (.int .i64 x.c) := by rw [cell_al _ _ _ _ hb]; exact i3
  have HIs := hide_ (isOf_any x.op enc w1)
  obtain ⟨o, ho⟩ : ∃ o, isOf x.op enc = o := ⟨_, rfl⟩
  rw [ho] at HIs
  have HO := hide_ ho
  clear i0 i1 i2 i3 kp ki hB1 ho
  go_enter Tryz.func32, Tryz.ntmps32
  go_upto_region 2 with fail
  rw [← hw1]
  clear hw1 c0 c1 c2 c3
  cases o with
  | false =>
    have HR : Hid (frm enc C ne i = false) := hide_ (by rw [HFr.out]; unfold frmX; rw [HO.out]; rfl)
    go_wp2_with (go_at_call 46; refine HIs.out.mono ?_; rintro e w' ⟨rfl, rfl⟩)
    go_ret
    exact ⟨by rw [HR.out]; rfl, HB1.out⟩
  | true =>
    go_upto_region 4 with (go_at_call 46; refine HIs.out.mono ?_; rintro e w' ⟨rfl, rfl⟩)
    have HKi := hide_ (kinds_any x.op w1)
    have HYes := hide_ (fun h => frmX_of (nc := C.length) (ne := ne) HO.out h)
    have HNo := hide_ (fun j hj h => frmX_not (enc := enc) (nc := C.length) (ne := ne) (x := x) (j := j) hj h)
    generalize hkk : kin x.op = kk at *
    obtain ⟨k0, k1, k2⟩ := kk
    unfold kv at HKi
    simp only at HKi
    clear hkk HO HIs
    go_wp2_with fail
    refine HKi.out.mono ?_
    rintro e w2 ⟨rfl, hB2⟩
    obtain ⟨w3, hw3⟩ : ∃ wx, wx = w2.alloc (.cells #[.int .i64 k0, .int .i64 k1, .int .i64 k2] 86) := ⟨_, rfl⟩
    have hB3 : Below w2.heap.size w2 w3 := by rw [hw3]; exact below1 _ _
    have K3 : Hid (Blk w3 w2.heap.size 86 [.int .i64 k0, .int .i64 k1, .int .i64 k2]) := hide_ (by rw [hw3]; exact Blk.newA w2 _ _)
    have hB13 := below_to hB2 hB3
    have KP3 := hide_ (KP.out.later hB13)
    have KI3 := hide_ (KI.out.later hB13)
    have HB3 := hide_ (below_to HB1.out hB13)
    have HOp := hide_ (operands_any x w3)
    clear q0 q1 q2 q3 p0 p1 p2
    have q0 := KI3.out.cell 0; have q1 := KI3.out.cell 1; have q2 := KI3.out.cell 2; have q3 := KI3.out.cell 3
    simp at q0 q1 q2 q3
    clear hB2 hB3 hB13 HKi
    go_upto_region 5 with fail
    rw [← hw3]
    clear hw3
    go_wp2_with fail
    refine HOp.out.mono ?_
    rintro e w4 ⟨rfl, hB4⟩
    have K4 := hide_ (K3.out.later hB4)
    have KP4 := hide_ (KP3.out.later hB4)
    have HB4 := hide_ (below_to HB3.out hB4)
    have HAl := hide_ (fun k n w' => allows_any enc (some ⟨b, off, none⟩) ae C.length cc ne ce k n w' (by omega) hne)
    generalize hg2 : w2.heap.size = g2 at *
    clear hB4 q0 q1 q2 q3 HOp K3 KP3 KI3 HB3 HB1 KI KP hg2
    go_wp2_with fail
    go_loopw [25] (fun x25 wr => ∃ j : Nat, j ≤ 3 ∧ x25 = .int .i64 (j : Int) ∧ Hid (∀ i, i < j → alw C.length ne (kat (k0, k1, k2) i) (oat x i) = true) ∧ Hid (Below w4.heap.size w4 wr)) (fun x25 _ => 3 - (intOf x25).toNat)
    case atStart => exact ⟨0, by omega, rfl, hide_ (fun i hi => by omega), hide_ (Below.refl _ _)⟩
    case round =>
      obtain ⟨j, hj, rfl, HA, HB⟩ := hrel
      generalize wr = wq at *
      by_cases hlt : j < 3
      · have KPq := hide_ (KP4.out.later HB.out)
        have KKq := hide_ (K4.out.later HB.out)
        obtain ⟨r, hrr⟩ : ∃ r, alw C.length ne (kat (k0, k1, k2) j) (oat x j) = r := ⟨_, rfl⟩
        have HAj : Hid (∀ w', Calls Tryz.prog 33 #[.agg #[.bool enc, .slice (some ⟨b, off, none⟩) C.length cc, .slice ae ne ce], .int .i64 (kat (k0, k1, k2) j), .int .i64 (oat x j)] w' fun e w'' => e = .returned (.bool r) ∧ Below w'.heap.size w' w'') := hide_ (fun w' => by rw [← hrr]; exact HAl.out _ _ w')
        have HSS : Hid (∀ w', Below wq.heap.size wq w' → Below wq.heap.size wq w' ∧ w'.cell? ⟨w.heap.size, 0, none⟩ = some (.bool enc) ∧ w'.cell? ⟨w.heap.size, 1, none⟩ = some (.slice (some ⟨b, off, none⟩) C.length cc) ∧ w'.cell? ⟨w.heap.size, 2, none⟩ = some (.slice ae ne ce) ∧ w'.cell? ⟨g2, 0, none⟩ = some (.int .i64 k0) ∧ w'.cell? ⟨g2, 1, none⟩ = some (.int .i64 k1) ∧ w'.cell? ⟨g2, 2, none⟩ = some (.int .i64 k2)) := hide_ (fun w' hB => ⟨hB, (KPq.out.later hB).cell 0, (KPq.out.later hB).cell 1, (KPq.out.later hB).cell 2, (KKq.out.later hB).cell 0, (KKq.out.later hB).cell 1, (KKq.out.later hB).cell 2⟩)
        have HRr := hide_ hrr
        clear hrr HAl
        have h3 : j = 0 ∨ j = 1 ∨ j = 2 := by omega
        cases r with
        | true =>
          have HA2 : Hid (∀ i, i < j + 1 → alw C.length ne (kat (k0, k1, k2) i) (oat x i) = true) := hide_ (fun i hi => by
            rcases Nat.lt_or_ge i j with h | h
            · exact HA.out i h
            · obtain rfl : i = j := by omega
              exact HRr.out)
          clear HA HRr
          rcases h3 with rfl | rfl | rfl
          all_goals
            simp only [kat, oat] at HAj
            have ix0 := ix3_0 (.int .i64 x.a) (.int .i64 x.b) (.int .i64 x.c)
            have ix1 := ix3_1 (.int .i64 x.a) (.int .i64 x.b) (.int .i64 x.c)
            have ix2 := ix3_2 (.int .i64 x.a) (.int .i64 x.b) (.int .i64 x.c)
            go_wp2_with fail
            go_region_held_law (fun w' => Below wq.heap.size wq w' ∧ w'.cell? ⟨w.heap.size, 0, none⟩ = some (.bool enc) ∧ w'.cell? ⟨w.heap.size, 1, none⟩ = some (.slice (some ⟨b, off, none⟩) C.length cc) ∧ w'.cell? ⟨w.heap.size, 2, none⟩ = some (.slice ae ne ce) ∧ w'.cell? ⟨g2, 0, none⟩ = some (.int .i64 k0) ∧ w'.cell? ⟨g2, 1, none⟩ = some (.int .i64 k1) ∧ w'.cell? ⟨g2, 2, none⟩ = some (.int .i64 k2)) (first | assumption | exact HSS.out _ (Below.drew (below_drewN (Below.refl _ _) _)) | exact HSS.out _ (below_drewN (Below.refl _ _) _) | exact HSS.out _ ((Below.refl _ _).drew) | exact HSS.out _ (Below.refl _ _))
              ((go_at_call 33; refine (HAj.out _).mono ?_; rintro e w5 ⟨rfl, hB5⟩; (have G5 := HSS.out w5 (below_to (by first | assumption | exact And.left (by assumption)) hB5)); (clear hB5)))
            have HBf := hide_ (below_to HB.out G5.1)
            clear G5 HSS HAj
            go_wp2_with fail
            go_roundw
            case rel => exact ⟨_, by omega, by go_num, HA2, HBf⟩
            case measure => simp [intOf]
        | false =>
          have HR : Hid (frm enc C ne i = false) := hide_ (by rw [HFr.out, HNo.out j hlt HRr.out]; rfl)
          clear HA HRr HYes
          rcases h3 with rfl | rfl | rfl
          all_goals
            simp only [kat, oat] at HAj
            have ix0 := ix3_0 (.int .i64 x.a) (.int .i64 x.b) (.int .i64 x.c)
            have ix1 := ix3_1 (.int .i64 x.a) (.int .i64 x.b) (.int .i64 x.c)
            have ix2 := ix3_2 (.int .i64 x.a) (.int .i64 x.b) (.int .i64 x.c)
            go_wp2_with fail
            go_region_held_law (fun w' => Below wq.heap.size wq w' ∧ w'.cell? ⟨w.heap.size, 0, none⟩ = some (.bool enc) ∧ w'.cell? ⟨w.heap.size, 1, none⟩ = some (.slice (some ⟨b, off, none⟩) C.length cc) ∧ w'.cell? ⟨w.heap.size, 2, none⟩ = some (.slice ae ne ce) ∧ w'.cell? ⟨g2, 0, none⟩ = some (.int .i64 k0) ∧ w'.cell? ⟨g2, 1, none⟩ = some (.int .i64 k1) ∧ w'.cell? ⟨g2, 2, none⟩ = some (.int .i64 k2)) (first | assumption | exact HSS.out _ (Below.drew (below_drewN (Below.refl _ _) _)) | exact HSS.out _ (below_drewN (Below.refl _ _) _) | exact HSS.out _ ((Below.refl _ _).drew) | exact HSS.out _ (Below.refl _ _))
              ((go_at_call 33; refine (HAj.out _).mono ?_; rintro e w5 ⟨rfl, hB5⟩; (have G5 := HSS.out w5 (below_to (by first | assumption | exact And.left (by assumption)) hB5)); (clear hB5)))
            have HBf := hide_ (below_to HB4.out (below_to HB.out G5.1))
            clear G5 HSS HAj
            go_wp2_with fail
            go_ret
            exact ⟨by rw [HR.out]; rfl, HBf.out⟩
      · obtain rfl : j = 3 := by omega
        have hfx := HYes.out HA.out
        have hag := frmX_agB hfx
        have KPq := hide_ (KP4.out.later HB.out)
        have HBq := hide_ (below_to HB4.out HB.out)
        obtain ⟨aa, haa⟩ : ∃ aa, (if cc = i then some (⟨b, off, none⟩ : Addr) else some ⟨b, off + i * 4, none⟩) = aa := ⟨_, rfl⟩
        rw [if_neg (by omega)] at haa
        have HAg : Hid (∀ (n' c' : Nat), n' = C.length - i → n' ≤ c' → c' ≤ 9223372036854775807 → Calls Tryz.prog 49 #[.slice (some ⟨b, off + i * 4, none⟩) n' c'] wq fun e w'' => e = .returned (.bool (agr x (C.drop (i + 1)))) ∧ Below wq.heap.size wq w'') := hide_ (fun n' c' hn' hc' hl' => by
          refine agree_any _ _ _ _ x (C.drop (i + 1)) _ (by rw [List.length_drop]; omega) hc' (by omega) hag (hide_ ?_)
          have h := GRow.drop (hr.out.later HBq.out) i
          rw [HDr.out] at h
          exact h)
        have HR : Hid (frm enc C ne i = agr x (C.drop (i + 1))) := hide_ (by rw [HFr.out, hfx]; rfl)
        have hic : ¬ cc = i := by omega
        have hicc : (i : Int) ≤ C.length := by omega
        have hccc : (C.length : Int) ≤ cc := by omega
        have p1 := KPq.out.cell 1
        simp at p1
        clear hfx hag HA HYes HNo HFr haa
        go_wp2_with (go_at_call 49; refine (HAg.out _ _ (by omega) (by omega) (by omega)).mono ?_; rintro e w' ⟨rfl, hB5⟩)
        go_ret
        exact ⟨by rw [HR.out]; rfl, below_to HBq.out hB5⟩
theorem retFt {fn : Func} {p : Tmp} (h : fn.results = #[.cell p 30]) {R : Ending → World → Prop} {tmps : Array Value} {g : Nat} {w : World} {x y : Value} (hp : tmps.getD p undef = .pointer (some ⟨g, 0, none⟩)) (hK : Blk w g 30 [x, y]) (hR : R (.returned (.agg #[x, y])) w) :
    bodyPost Tryz.prog fn R Exit.ret ⟨tmps, []⟩ w :=
  bodyPost_ret (results_cell_row h _ _ _ _ #[x, y] _ _ hp (show w.heap[g]? = some (.cells #[x, y] 30 (0, 0)) from hK) Tryz.underlying30 rfl (by show _ = some 2; kernel_rfl)) rfl hR
theorem chk_long {enc : Bool} {C : List In} {E : List Int} (h : 1048576 < C.length ∨ 1048576 < E.length) : chk enc C E = (4, 0) := by unfold chk; rw [if_pos h]
theorem chk_op {enc : Bool} {C : List In} {E : List Int} {i : Nat} (h : ¬ (1048576 < C.length ∨ 1048576 < E.length)) (hi : i < C.length) (h0 : frm enc C E.length i = false) (h1 : ∀ j, j < i → frm enc C E.length j = true) : chk enc C E = (140, (i : Int)) := by
  unfold chk; rw [if_neg h, fst0_some hi h0 h1]
theorem chk_place {enc : Bool} {C : List In} {E : List Int} {i : Nat} (h : ¬ (1048576 < C.length ∨ 1048576 < E.length)) (hf : ∀ j, j < C.length → frm enc C E.length j = true) (hi : i < E.length) (h0 : entOk C.length E i = false) (h1 : ∀ j, j < i → entOk C.length E j = true) : chk enc C E = (3, (i : Int)) := by
  unfold chk; rw [if_neg h, fst0_none.2 hf, fst0_some hi h0 h1]
theorem chk_yes {enc : Bool} {C : List In} {E : List Int} (h : ¬ (1048576 < C.length ∨ 1048576 < E.length)) (hf : ∀ j, j < C.length → frm enc C E.length j = true) (h1 : ∀ j, j < E.length → entOk C.length E j = true) : chk enc C E = (0, 0) := by
  unfold chk; rw [if_neg h, fst0_none.2 hf, fst0_none.2 h1]
theorem chk_zero {enc : Bool} {C : List In} {E : List Int} (h1 : (chk enc C E).1 = 0) : chk enc C E = (0, 0) := by
  by_cases h : chk enc C E = (0, 0)
  · exact h
  · exfalso
    unfold chk at h h1
    split at h1
    · cases h1
    · rename_i hl
      rw [if_neg hl] at h
      cases e1 : fst0 (frm enc C E.length) C.length with
      | some i => rw [e1] at h1; cases h1
      | none =>
        rw [e1] at h1 h
        cases e2 : fst0 (entOk C.length E) E.length with
        | some i => rw [e2] at h1; cases h1
        | none => rw [e2] at h; exact h rfl
theorem wr2f {w : World} {g : Nat} {x y : Value} (h : Blk w g 30 [x, y]) (u v : Value) : Blk ((w.setCell ⟨g, 0, none⟩ u).setCell ⟨g, 1, none⟩ v) g 30 [u, v] := by
  have := (h.set 0 u).set 1 v
  simpa using this
set_option maxRecDepth 100000 in
set_option maxHeartbeats 4000000 in
theorem check_any (enc : Bool) (ac ae : Option Addr) (cc ce : Nat) (C : List In) (E : List Int) (w : World) (hcc : C.length ≤ cc) (hcl : cc ≤ 9223372036854775807) (hCl : C.length ≤ 140737488355328) (hce : E.length ≤ ce) (hel : E.length ≤ 140737488355328) (hr : Hid (IRow w ac C)) (he : Hid (Row .i64 w ae E)) :
    Calls Tryz.prog 25 #[.agg #[.bool enc, .slice ac C.length cc, .slice ae E.length ce]] w fun e w' => e = .returned (.agg #[.int .i64 (chk enc C E).1, .int .i64 (chk enc C E).2]) ∧ Below w.heap.size w w' := by
  obtain ⟨w1, hw1⟩ : ∃ wx, wx = (w.alloc (.cells #[.bool enc, .slice ac C.length cc, .slice ae E.length ce] 25)).alloc (.cells #[.int .i64 0, .int .i64 0] 30) := ⟨_, rfl⟩
  have hB1 : Below w.heap.size w w1 := by rw [hw1]; exact below2 _ _ _
  obtain ⟨kp, kf⟩ := blk2 w #[.bool enc, .slice ac C.length cc, .slice ae E.length ce] #[.int .i64 0, .int .i64 0] 25 30
  rw [← hw1] at kp kf
  have KP := hide_ kp
  have KF := hide_ kf
  have HB1 := hide_ hB1
  have p0 := kp.cell 0; have p1 := kp.cell 1; have p2 := kp.cell 2
  have fz := fun i => kf.frozen i
  have f0 := kf.cell 0; have f1 := kf.cell 1
  simp at p0 p1 p2 f0 f1
  have Hgs : Hid (w.heap.size ≤ w.heap.size + 1) := hide_ (by omega)
  clear hB1 kp kf
  by_cases hlc : 1048576 < C.length
  · have HR := hide_ (chk_long (enc := enc) (C := C) (E := E) (.inl hlc))
    have hlc' : (1048576 : Int) < C.length := by omega
    go_enter Tryz.func25, Tryz.ntmps25
    go_upto_region 1 with fail
    rw [← hw1]
    clear hw1
    go_wp2
    refine retFt rfl rfl (wr2f KF.out _ _) ?_
    exact ⟨by rw [HR.out], below_set (below_set HB1.out _ _ _ Hgs.out) _ _ _ Hgs.out⟩
  have hlc' : ¬ (1048576 : Int) < C.length := by omega
  by_cases hle : 1048576 < E.length
  · have HR := hide_ (chk_long (enc := enc) (C := C) (E := E) (.inr hle))
    have hle' : (1048576 : Int) < E.length := by omega
    go_enter Tryz.func25, Tryz.ntmps25
    go_upto_region 1 with fail
    rw [← hw1]
    clear hw1
    go_wp2
    refine retFt rfl rfl (wr2f KF.out _ _) ?_
    exact ⟨by rw [HR.out], below_set (below_set HB1.out _ _ _ Hgs.out) _ _ _ Hgs.out⟩
  have hle' : ¬ (1048576 : Int) < E.length := by omega
  have HLn : Hid (¬ (1048576 < C.length ∨ 1048576 < E.length)) := hide_ (by omega)
  go_enter Tryz.func25, Tryz.ntmps25
  go_upto_region 1 with fail
  rw [← hw1]
  clear hw1
  go_wp2_with fail
  clear p0 p1 p2 f0 f1 fz
  go_loopw [20] (fun x20 wr => ∃ j : Nat, j ≤ C.length ∧ x20 = .int .i64 (j : Int) ∧ Hid (∀ i, i < j → frm enc C E.length i = true) ∧ Hid (Below w1.heap.size w1 wr)) (fun x20 _ => C.length - (intOf x20).toNat)
  case atStart => exact ⟨0, Nat.zero_le _, rfl, hide_ (fun i hi => by omega), hide_ (Below.refl _ _)⟩
  case round =>
    obtain ⟨j, hj, rfl, HA, HB⟩ := hrel
    generalize wr = wq at *
    have KPq := hide_ (KP.out.later HB.out)
    have KFq := hide_ (KF.out.later HB.out)
    have HBq := hide_ (below_to HB1.out HB.out)
    have p0 := KPq.out.cell 0; have p1 := KPq.out.cell 1; have p2 := KPq.out.cell 2
    simp at p0 p1 p2
    by_cases hlt : j < C.length
    · have hlt' : (j : Int) < C.length := by omega
      obtain ⟨r, hrr⟩ : ∃ r, frm enc C E.length j = r := ⟨_, rfl⟩
      have HF := hasForm_any enc ac ae cc E.length ce C j wq hlt hcc hcl hCl (by omega) (hide_ (hr.out.later HBq.out))
      rw [hrr] at HF
      have HFo := hide_ HF
      have HRr := hide_ hrr
      clear HF hrr
      cases r with
      | true =>
        have HA2 : Hid (∀ i, i < j + 1 → frm enc C E.length i = true) := hide_ (fun i hi => by
          rcases Nat.lt_or_ge i j with h | h
          · exact HA.out i h
          · obtain rfl : i = j := by omega
            exact HRr.out)
        go_wp2_with (go_at_call 32; refine HFo.out.mono ?_; rintro e w' ⟨rfl, hB2⟩; (have HB2 := hide_ (below_to HB.out hB2)); clear hB2)
        go_roundw
        case rel => exact ⟨j + 1, by omega, by go_num, HA2, HB2⟩
        case measure => simp [intOf]; omega
      | false =>
        have HR : Hid (chk enc C E = (140, (j : Int))) := hide_ (chk_op HLn.out hlt HRr.out HA.out)
        go_upto_region 7 with (go_at_call 32; refine HFo.out.mono ?_; rintro e w' ⟨rfl, hB2⟩)
        have HB2 := hide_ (below_to HBq.out hB2)
        have KF2 := hide_ (KFq.out.later hB2)
        have fz := fun i => KF2.out.frozen i
        have f0 := KF2.out.cell 0; have f1 := KF2.out.cell 1
        simp at f0 f1
        clear hB2
        go_wp2
        refine retFt rfl rfl (wr2f KF2.out _ _) ?_
        exact ⟨by rw [HR.out], below_set (below_set HB2.out _ _ _ Hgs.out) _ _ _ Hgs.out⟩
    · obtain rfl : j = C.length := by omega
      have HRow := hide_ (he.out.later HBq.out)
      generalize hwz : wq = wz at *
      clear hwz
      go_wp2_with fail
      clear p0 p1 p2
      go_loopw [33] (fun x33 wr => ∃ j : Nat, j ≤ E.length ∧ x33 = .int .i64 (j : Int) ∧ Hid (∀ i, i < j → entOk C.length E i = true) ∧ Hid (Below wz.heap.size wz wr)) (fun x33 _ => E.length - (intOf x33).toNat)
      case atStart => exact ⟨0, Nat.zero_le _, rfl, hide_ (fun i hi => by omega), hide_ (Below.refl _ _)⟩
      case round =>
        obtain ⟨j, hj, rfl, HA3, HB3⟩ := hrel
        generalize wr = wy at *
        have KPy := hide_ (KPq.out.later HB3.out)
        have KFy := hide_ (KFq.out.later HB3.out)
        have HBy := hide_ (below_to HBq.out HB3.out)
        have p0 := KPy.out.cell 0; have p1 := KPy.out.cell 1; have p2 := KPy.out.cell 2
        simp at p0 p1 p2
        by_cases hlt : j < E.length
        · have hlt' : (j : Int) < E.length := by omega
          obtain ⟨b, off, rfl, hb, hcs⟩ := (HRow.out.later HB3.out).open (by omega)
          have hc := hcs j hlt
          obtain ⟨r, hrr⟩ : ∃ r, entOk C.length E j = r := ⟨_, rfl⟩
          have HF := allows_any enc ac (some ⟨b, off, none⟩) C.length cc E.length ce 15 (E.getD j 0) wy (by omega) (by omega)
          rw [alw15 _ _ 0, show alw C.length 0 15 (E.getD j 0) = r from hrr] at HF
          have HFo := hide_ HF
          have HRr := hide_ hrr
          generalize E.getD j 0 = v at *
          clear HF hrr hcs
          cases r with
          | true =>
            have HA2 : Hid (∀ i, i < j + 1 → entOk C.length E i = true) := hide_ (fun i hi => by
              rcases Nat.lt_or_ge i j with h | h
              · exact HA3.out i h
              · obtain rfl : i = j := by omega
                exact HRr.out)
            go_wp2_with (go_at_call 33; refine HFo.out.mono ?_; rintro e w' ⟨rfl, hB2⟩; (have HB2 := hide_ (below_to HB3.out hB2)); clear hB2)
            go_roundw
            case rel => exact ⟨j + 1, by omega, by go_num, HA2, HB2⟩
            case measure => simp [intOf]; omega
          | false =>
            have HR : Hid (chk enc C E = (3, (j : Int))) := hide_ (chk_place HLn.out HA.out hlt HRr.out HA3.out)
            go_upto_region 13 with (go_at_call 33; refine HFo.out.mono ?_; rintro e w' ⟨rfl, hB2⟩)
            have HB2 := hide_ (below_to HBy.out hB2)
            have KF2 := hide_ (KFy.out.later hB2)
            have fz := fun i => KF2.out.frozen i
            have f0 := KF2.out.cell 0; have f1 := KF2.out.cell 1
            simp at f0 f1
            clear hB2
            go_wp2
            refine retFt rfl rfl (wr2f KF2.out _ _) ?_
            exact ⟨by rw [HR.out], below_set (below_set HB2.out _ _ _ Hgs.out) _ _ _ Hgs.out⟩
        · obtain rfl : j = E.length := by omega
          have HR : Hid (chk enc C E = (0, 0)) := hide_ (chk_yes HLn.out HA.out HA3.out)
          have fz := fun i => KFy.out.frozen i
          have f0 := KFy.out.cell 0; have f1 := KFy.out.cell 1
          simp at f0 f1
          go_wp2
          refine retFt rfl rfl (wr2f KFy.out _ _) ?_
          exact ⟨by rw [HR.out], below_set (below_set HBy.out _ _ _ Hgs.out) _ _ _ Hgs.out⟩
def nmT (op : Int) : List UInt8 :=
  if op = 1 then [117, 105, 110, 116] else if op = 2 then [117, 105, 110, 116, 115] else if op = 3 then [98, 111, 111, 108] else if op = 4 then [118, 97, 114, 105, 110, 116] else if op = 5 then [115, 101, 113] else if op = 6 then [115, 116, 114, 117, 99, 116] else if op = 7 then [111, 112, 116, 105, 111, 110] else if op = 8 then [117, 110, 105, 111, 110] else if op = 9 then [97, 114, 109] else if op = 10 then [111, 102, 102, 115, 101, 116] else if op = 11 then [102, 105, 114, 115, 116] else if op = 12 then [115, 108, 111, 116, 115] else if op = 13 then [105, 116, 101, 109] else if op = 14 then [108, 101, 115, 115] else if op = 15 then [112, 97, 114, 116, 115] else if op = 16 then [99, 97, 108, 108] else if op = 17 then [112, 97, 114, 116] else if op = 18 then [116, 97, 105, 108] else if op = 19 then [106, 117, 109, 112] else if op < 33 then [114, 101, 116] else if op = 33 then [110, 117, 109, 98, 101, 114] else if op = 34 then [110, 117, 109, 98, 101, 114, 115] else if op = 35 then [102, 108, 97, 103] else if op = 36 then [108, 101, 98] else if op = 37 then [109, 97, 110, 121] else if op = 38 then [117, 112, 116, 111] else if op = 39 then [102, 105, 101, 108, 100, 115] else if op = 40 then [109, 97, 121, 98, 101] else if op = 41 then [99, 104, 111, 105, 99, 101] else if op = 42 then [114, 111, 111, 109] else if op = 43 then [115, 108, 111, 116] else if op = 44 then [101, 110, 116, 101, 114] else if op = 45 then [101, 97, 99, 104] else if op = 46 then [97, 112, 112, 101, 110, 100] else [97, 103, 97, 105, 110]
def COwn (w : World) (B : Nat) (v : Value) (l : List In) : Prop := w.ownsRow B 37 4 v l.length (cellsG inc l)
theorem COwn.later {w w' : World} {B : Nat} {v : Value} {l : List In} (h : COwn w B v l) (hB : Below w.heap.size w w') : COwn w' B v l := ownS_upd h (Upd.of_below (S := fun _ => False) hB) (fun _ _ h => h)
theorem COwn.nil (w : World) (B : Nat) : COwn w B (.slice none 0 0) [] := World.ownsRow_nil _ _ _ _
theorem COwn.row {w : World} {B : Nat} {v : Value} {l : List In} (h : COwn w B v l) : ∃ a c, v = .slice a l.length c ∧ l.length ≤ c ∧ (a = none → c = 0) ∧ IRow w a l := own_grow inc_len h
theorem inc_one (x : In) : ∀ u ∈ inc x, u.oneCell' = true := fun u hu => by
  simp [inc] at hu
  rcases hu with rfl | rfl | rfl | rfl <;> rfl
theorem infoIn : (Tryz.prog.info? 37).map (fun i => (i.zero, i.size, i.bytes)) = some (some (.agg #[.int .i64 0, .int .i64 0, .int .i64 0, .int .i64 0]), 4, 32) := by kernel_rfl
theorem COwn.push {w : World} {B : Nat} {v : Value} {l : List In} (h : COwn w B v l) (x : In) (hl : l.length ≤ 1000000000) (hB : B ≤ w.heap.size) :
    ∃ g cap w', (Builtin.append_ #[22, 22] 22 #[v, .slice (some ⟨w.heap.size, 0, none⟩) 1 1]).run Tryz.prog (w.alloc (.cells #[.int .i64 x.op, .int .i64 x.a, .int .i64 x.b, .int .i64 x.c] 37)) = .ok (.slice (some ⟨g, 0, none⟩) (l.length + 1) cap) w' ∧
      COwn w' B (.slice (some ⟨g, 0, none⟩) (l.length + 1) cap) (l ++ [x]) ∧ Upd (fun k => v.ownBlock = some k) w w' ∧ (v.ownBlock = some g ∨ w.heap.size ≤ g) := by
  obtain ⟨g, cap, w', h1, h2, h3, h4⟩ := run_pushS (P := Tryz.prog) (t := 22) (e := 37) (c := 4) Tryz.underlying22 infoIn rfl (by decide) w 22 h (inc x) rfl (inc_one x) (by unfold maxLen; omega) (by omega) hB
  refine ⟨g, cap, w', h1, ?_, h3, h4⟩
  unfold COwn
  rw [cellsG_app, cellsG_one, List.length_append, List.length_singleton]
  exact h2
theorem notI {w : World} {B g : Nat} {u : Value} {l : List Int} {t : TypeId} {ys : List Value} (h : IOwn w B u l) (hb : Blk w g t ys) (ht : t ≠ 3) : ¬ u.ownBlock = some g := fun e => by
  obtain ⟨zs, hz⟩ := ownS_type h e
  exact ht (blk_type hb hz)
theorem notC {w : World} {B g : Nat} {u : Value} {l : List In} {t : TypeId} {ys : List Value} (h : COwn w B u l) (hb : Blk w g t ys) (ht : t ≠ 37) : ¬ u.ownBlock = some g := fun e => by
  obtain ⟨zs, hz⟩ := ownS_type h e
  exact ht (blk_type hb hz)
theorem notIC {w : World} {B B' : Nat} {u u' : Value} {l : List Int} {l' : List In} (h : IOwn w B u l) (h' : COwn w B' u' l') (k : Nat) (e : u.ownBlock = some k) : ¬ u'.ownBlock = some k := fun e' => by
  obtain ⟨zs, hz⟩ := ownS_type h e
  exact notC h' hz (by decide) e'
end Go.Proofs.YtjamfbpdepahnaaGreat
