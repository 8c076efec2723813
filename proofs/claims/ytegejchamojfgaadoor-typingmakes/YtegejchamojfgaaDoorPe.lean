/- The document's Types. -/
import Derived.Test.YtegejchamojfgaaDoorPd
import Derived.Test.YtegejchamojfgaaDoorZrd
namespace Go.Proofs.YtegejchamojfgaaDoor
open Go.RowKit
set_option linter.unusedVariables false

/-- What the document's Types answers. -/
def TyTo (A : List Int × Int × Int) (w : World) (e : Ending) (w' : World) : Prop := ∃ v, e = .returned (.tuple #[v, .agg #[.int .i64 A.2.1, .int .i64 A.2.2]]) ∧ Hid (IOwn w' w.heap.size v A.1) ∧ Hid (Below w.heap.size w w')
theorem wk_end {T : List Ty} {t : Int} {V : List Nv} {p : Nat} {nums : List Int} (h : WkI T t V p [] nums) : wkT T [t] V 0 = (nums, 0, 0) := by
  rw [h.ans]
  have e : wkT T [] (V.drop p) p = ([], 0, 0) := by unfold wkT; rfl
  rw [e]
  unfold apT
  simp
set_option maxRecDepth 100000 in
set_option maxHeartbeats 8000000 in
theorem typesR_any (aT : Option Addr) (cT : Nat) (T : List Ty) (aR : Option Addr) (cR : Nat) (R : List Rt) (t : Int) (aV : Option Addr) (cV : Nat) (V : List Nv) (w : World) (hn : T.length ≤ 1000000000) (hm : R.length ≤ 10000000000000) (hV : V.length ≤ 2000000) (hL : Hid (LensT T)) (hT : Hid (TRow w aT T)) (hRr : Hid (RRow w aR R)) (hVr : Hid (VRow w aV V)) (hNv : Hid (∀ x ∈ V, NvOk x)) :
    Calls Tryd.prog 40 #[.agg #[.slice aT T.length cT, .slice aR R.length cR], .int .i64 t, .slice aV V.length cV] w fun e w' => TyTo (tyV T R t V) w e w' := by
  have hB := below2 w (.cells #[.slice aT T.length cT, .slice aR R.length cR] 25) (.cells #[.int .i64 0, .int .i64 0] 40)
  obtain ⟨k1, k2⟩ := blk2 w #[.slice aT T.length cT, .slice aR R.length cR] #[.int .i64 0, .int .i64 0] 25 40
  obtain ⟨w0, hw0⟩ : ∃ wx, wx = (w.alloc (.cells #[.slice aT T.length cT, .slice aR R.length cR] 25)).alloc (.cells #[.int .i64 0, .int .i64 0] 40) := ⟨_, rfl⟩
  rw [← hw0] at hB k1 k2
  have HB0 := hide_ hB
  have K1 := hide_ k1
  have K2 := hide_ k2
  have hz0 : w.heap.size + 1 < w0.heap.size := k2.lt
  have i0 := k1.cell 0; have i1 := k1.cell 1
  simp at i0 i1
  have HCk := hide_ (checkR_any aT cT T aR cR R w0 (by omega) hm hL (hide_ (hT.out.later hB)) (hide_ (hRr.out.later hB)))
  obtain ⟨E, hE⟩ : ∃ E, (chk T R).1 = E := ⟨_, rfl⟩
  obtain ⟨A, hA⟩ : ∃ A, (chk T R).2 = A := ⟨_, rfl⟩
  rw [hE, hA] at HCk
  have HE : Hid (chk T R = (E, A)) := hide_ (by rw [← hE, ← hA])
  clear hB k1 k2 hE hA
  go_enter Tryd.func40, Tryd.ntmps40
  go_upto_region 1 with fail
  rw [← hw0]
  clear hw0
  go_wp2_with fail
  refine HCk.out.mono ?_; rintro e w1 ⟨rfl, hB1⟩
  obtain ⟨w2, hw2⟩ : ∃ wx, wx = w1.alloc (.cells #[.int .i64 E, .int .i64 A] 40) := ⟨_, rfl⟩
  have kf : Blk w2 w1.heap.size 40 [.int .i64 E, .int .i64 A] := by rw [hw2]; exact Blk.newA w1 _ _
  have hb2 : Below w1.heap.size w1 w2 := by rw [hw2]; exact below1 _ _
  have HB2 := hide_ (below_to hB1 hb2)
  have KF := hide_ kf
  have K12 := hide_ (K1.out.later HB2.out)
  have K22 := hide_ (K2.out.later HB2.out)
  have HBw := hide_ (below_to HB0.out HB2.out)
  have hz1 : w0.heap.size ≤ w1.heap.size := hB1.size
  have j0 := kf.cell 0; have j1 := kf.cell 1
  have n0 := K22.out.cell 0; have n1 := K22.out.cell 1
  have nf := fun i => K22.out.frozen i
  simp at j0 j1 n0 n1
  clear i0 i1
  have i0 := K12.out.cell 0; have i1 := K12.out.cell 1
  simp at i0 i1
  clear hB1 hb2 kf HCk
  go_upto_region 2 with fail
  rw [← hw2]
  clear hw2
  by_cases hE0 : E = 0
  · subst hE0
    have HOk := hide_ (okS_of (T := T) (R := R) (by rw [HE.out]))
    by_cases ht : t < 0 ∨ (T.length : Int) ≤ t
    · have HV : Hid (tyV T R t V = ([], 3, 0)) := hide_ (by unfold tyV; rw [HE.out, if_neg (by simp), if_pos ht])
      have HKz := hide_ (wr2 K22.out (.int .i64 3) (.int .i64 0))
      have HBz := hide_ (below_wr2 HBw.out (w.heap.size + 1) (by omega) (.int .i64 3) (.int .i64 0))
      by_cases ht0 : t < 0
      · have hd : decide (t < 0) = true := decide_eq_true ht0
        go_wp2
        exact retTF (x := 3) (y := 0) rfl rfl rfl HKz.out ⟨.slice none 0 0, by rw [HV.out]; rfl, hide_ (by rw [HV.out]; exact IOwn.nil _ _), HBz⟩
      · have hd : decide (t < 0) = false := decide_eq_false ht0
        have hd2 : (T.length : Int) ≤ t := by omega
        go_wp2
        exact retTF (x := 3) (y := 0) rfl rfl rfl HKz.out ⟨.slice none 0 0, by rw [HV.out]; rfl, hide_ (by rw [HV.out]; exact IOwn.nil _ _), HBz⟩
    · have hd : decide (t < 0) = false := decide_eq_false (by omega)
      have hd1 : ¬ t < 0 := by omega
      have hd2 : ¬ (T.length : Int) ≤ t := by omega
      obtain ⟨E2, hE2⟩ : ∃ E, (chkV 1 0 V).1 = E := ⟨_, rfl⟩
      obtain ⟨A2, hA2⟩ : ∃ A, (chkV 1 0 V).2 = A := ⟨_, rfl⟩
      have HCv : Hid (Calls Tryd.prog 27 #[.slice aV V.length cV] w2 fun e w' => e = .returned (.tuple #[.int .i64 E2, .int .i64 A2]) ∧ Below w2.heap.size w2 w') := hide_ (by
        rw [← hE2, ← hA2]
        exact checkN_any aV V.length cV V w2 rfl hV (hide_ (hVr.out.later HBw.out)) hNv)
      have HE2 : Hid (chkV 1 0 V = (E2, A2)) := hide_ (by rw [← hE2, ← hA2])
      clear hE2 hA2
      go_wp2_with fail
      refine HCv.out.mono ?_; rintro e w3 ⟨rfl, hB3⟩
      have HBw3 := hide_ (below_to HBw.out hB3)
      have K13 := hide_ (K12.out.later hB3)
      have K23 := hide_ (K22.out.later hB3)
      have KF3 := hide_ (KF.out.later hB3)
      have hz3 : w2.heap.size ≤ w3.heap.size := hB3.size
      clear i0 i1 j0 j1 n0 n1 nf hB3 HCv
      have n0 := K23.out.cell 0; have n1 := K23.out.cell 1
      have nf := fun i => K23.out.frozen i
      have i0 := K13.out.cell 0; have i1 := K13.out.cell 1
      simp at i0 i1 n0 n1
      by_cases hE20 : E2 = 0
      · subst hE20
        have hcv : (chkV 1 0 V).1 = 0 := by rw [HE2.out]
        have hVl : 0 < V.length := by
          have h1 := chkV_le V 1 0 (by omega) hcv
          omega
        have hTl : 0 < T.length := by omega
        have HWk : Hid (WkI T t V 0 (t :: []) []) := hide_ (WkI.start (by omega) (by omega) hcv)
        obtain ⟨bT, oT, eT, -, -⟩ := hT.out.open hTl
        subst eT
        obtain ⟨bV, oV, eV, -, -⟩ := hVr.out.open hVl
        subst eV
        have HWa := hide_ (walk_any w3 bT oT cT T aR cR R bV oV cV V t hV HOk hNv (hide_ (hT.out.later HBw3.out)) (hide_ (hVr.out.later HBw3.out)) V.length 0 t [] [] (.slice none 0 0) w3 (by omega) (hide_ (Below.refl _ _)) HWk (hide_ (IOwn.nil _ _)))
        have hzw : w.heap.size ≤ w3.heap.size := HBw3.out.size
        clear hcv
        go_wp2_with fail
        refine HWa.out.mono ?_
        rintro e w4 ⟨v2, p, E3, A3, rfl, HU4, HW4⟩
        have hb4 : Below w3.heap.size w3 w4 := HU4.out.below _ (Nat.le_refl _) (fun k hk => by cases hk)
        have HV : Hid (∃ nums, tyV T R t V = (nums, E3, A3) ∧ IOwn w4 w3.heap.size v2 nums) := hide_ (by
          have e1 : tyV T R t V = wkT T [t] V 0 := by unfold tyV; rw [HE.out, if_neg (by simp), if_neg ht, HE2.out, if_neg (by simp)]
          rcases HW4.out with ⟨h1, h2, h3⟩ | ⟨h1, h2, -, nums, h3, h4, -⟩
          · subst h3
            exact ⟨[], by rw [e1, h2], IOwn.nil _ _⟩
          · subst h1 h2
            exact ⟨nums, by rw [e1, wk_end h3], h4⟩)
        obtain ⟨nums, hty, ho⟩ := HV.out
        have HTy := hide_ hty
        have HO4 := hide_ ho
        have K24 := hide_ (K23.out.later hb4)
        have KF4 := hide_ (KF3.out.later hb4)
        have HB4 := hide_ (below_to HBw3.out hb4)
        clear hb4 HV HW4 HU4 hty ho HWa i0 i1 n0 n1 nf
        have j0 := KF4.out.cell 0; have j1 := KF4.out.cell 1
        have jf := fun i => KF4.out.frozen i
        simp at j0 j1
        have kf5 := wr2 KF4.out (.int .i64 E3) (.int .i64 A3)
        have hne : w.heap.size + 1 ≠ w1.heap.size := by omega
        have k25 := (K24.out.other ⟨w1.heap.size, 0, none⟩ (.int .i64 E3) hne).other ⟨w1.heap.size, 1, none⟩ (.int .i64 A3) hne
        have hB5 := below_wr2 HB4.out w1.heap.size (by omega) (.int .i64 E3) (.int .i64 A3)
        have ho5 := HO4.out.upd (((Upd.refl (fun b => b = w1.heap.size) w4).set ⟨w1.heap.size, 0, none⟩ (.int .i64 E3) (.inl rfl)).set ⟨w1.heap.size, 1, none⟩ (.int .i64 A3) (.inl rfl)) (fun b hb e => by
          obtain ⟨zs, hz⟩ := ownS_type HO4.out hb
          subst e
          exact absurd (blk_type KF4.out hz) (by decide))
        obtain ⟨w5, hw5⟩ : ∃ wx, wx = (w4.setCell ⟨w1.heap.size, 0, none⟩ (.int .i64 E3)).setCell ⟨w1.heap.size, 1, none⟩ (.int .i64 A3) := ⟨_, rfl⟩
        rw [← hw5] at kf5 k25 hB5 ho5
        have HKz := hide_ (wr2 k25 (.int .i64 E3) (.int .i64 A3))
        have HBz := hide_ (below_wr2 hB5 (w.heap.size + 1) (by omega) (.int .i64 E3) (.int .i64 A3))
        have HOz := hide_ (ho5.upd (((Upd.refl (fun b => b = w.heap.size + 1) w5).set ⟨w.heap.size + 1, 0, none⟩ (.int .i64 E3) (.inl rfl)).set ⟨w.heap.size + 1, 1, none⟩ (.int .i64 A3) (.inl rfl)) (fun b hb e => by
          obtain ⟨zs, hz⟩ := ownS_type ho5 hb
          subst e
          exact absurd (blk_type k25 hz) (by decide)))
        have m0 := kf5.cell 0; have m1 := kf5.cell 1
        have n0 := k25.cell 0; have n1 := k25.cell 1
        have nf := fun i => k25.frozen i
        simp at m0 m1 n0 n1
        clear kf5 k25 hB5 ho5 hne
        go_upto_region 10 with fail
        rw [← hw5]
        clear hw5 j0 j1 jf
        go_region
        all_goals
          go_wp2
          exact retTF (x := E3) (y := A3) rfl rfl rfl HKz.out ⟨v2, by rw [HTy.out]; rfl, hide_ (by rw [HTy.out]; exact (HOz.out.later ((Below.refl _ _).drew)).base hzw), hide_ (HBz.out.drew)⟩
      · have hE21 : (E2 != 0) = true := by simpa using hE20
        have HV : Hid (tyV T R t V = ([], E2, A2)) := hide_ (by unfold tyV; rw [HE.out, if_neg (by simp), if_neg ht, HE2.out, if_pos (by simpa using hE20)])
        have HKz := hide_ (wr2 K23.out (.int .i64 E2) (.int .i64 A2))
        have HBz := hide_ (below_wr2 HBw3.out (w.heap.size + 1) (by omega) (.int .i64 E2) (.int .i64 A2))
        go_wp2
        exact retTF (x := E2) (y := A2) rfl rfl rfl HKz.out ⟨.slice none 0 0, by rw [HV.out]; rfl, hide_ (by rw [HV.out]; exact IOwn.nil _ _), HBz⟩
  · have hE1 : (E != 0) = true := by simpa using hE0
    have HV : Hid (tyV T R t V = ([], E, A)) := hide_ (by unfold tyV; rw [HE.out, if_pos (by simpa using hE0)])
    have HKz := hide_ (wr2 K22.out (.int .i64 E) (.int .i64 A))
    have HBz := hide_ (below_wr2 HBw.out (w.heap.size + 1) (by omega) (.int .i64 E) (.int .i64 A))
    go_wp2_with fail
    go_region
    all_goals
      go_wp2
      exact retTF (x := E) (y := A) rfl rfl rfl HKz.out ⟨.slice none 0 0, by rw [HV.out]; rfl, hide_ (by rw [HV.out]; exact IOwn.nil _ _), hide_ (HBz.out.drew)⟩
end Go.Proofs.YtegejchamojfgaaDoor
