import Derived.Test.YtbgjgbddpcofcaaGreatDoorPart39
import Derived.Test.YtbgjgbddpcofcaaGreatDoorPart30

/- look. -/
namespace Go.Proofs.YtbgjgbddpcofcaaGreatDoor
open Go.RowKit
set_option linter.unusedVariables false

theorem results_two_cells {P : Program} {fn : Func} {p u : Tmp} {ty ty2 : TypeId} (h : fn.results = #[.cell p ty, .cell u ty2]) (tmps : Array Value) (w : World) (g g2 : Nat) (t t2 : TypeId) (cs cs2 : Array Value) (fr fr2 : Nat × Nat) (d d2 : TypeDesc)
    (hp : tmps.getD p undef = .pointer (some ⟨g, 0, none⟩)) (hg : w.heap[g]? = some (.cells cs t fr)) (hp2 : tmps.getD u undef = .pointer (some ⟨g2, 0, none⟩)) (hg2 : w.heap[g2]? = some (.cells cs2 t2 fr2))
    (hu : P.underlying ty = some d) (hd : (match d with | .struct _ | .array _ _ => true | _ => false) = true) (hi : (P.info? ty).map (·.size) = some cs.size)
    (hu2 : P.underlying ty2 = some d2) (hd2 : (match d2 with | .struct _ | .array _ _ => true | _ => false) = true) (hi2 : (P.info? ty2).map (·.size) = some cs2.size) :
    (results fn tmps).run P w = .ok (.tuple #[.agg cs, .agg cs2]) w := by
  have hp' : tmps[p]?.getD undef = .pointer (some ⟨g, 0, none⟩) := by simpa using hp
  have hp2' : tmps[u]?.getD undef = .pointer (some ⟨g2, 0, none⟩) := by simpa using hp2
  simp only [results, h]
  simp [hp', hp2', asAddr, Result.andThen, run_loadVar_row w g t ty cs fr d hg hu hd hi, run_loadVar_row w g2 t2 ty2 cs2 fr2 d2 hg2 hu2 hd2 hi2]
theorem retL {R : Ending → World → Prop} {tmps : Array Value} {g2 g3 : Nat} {w : World} {v0 v1 : Value} {a b : Int} (h2 : tmps.getD 2 undef = .pointer (some ⟨g2, 0, none⟩)) (h3 : tmps.getD 3 undef = .pointer (some ⟨g3, 0, none⟩)) (K2 : Blk w g2 84 [v0, v1]) (K3 : Blk w g3 32 [.int .i64 a, .int .i64 b]) (hR : R (.returned (.tuple #[.agg #[v0, v1], .agg #[.int .i64 a, .int .i64 b]])) w) :
    bodyPost Tryz.prog Tryz.f27 R Exit.ret ⟨tmps, []⟩ w :=
  bodyPost_ret (results_two_cells rfl _ _ _ _ _ _ #[v0, v1] #[.int .i64 a, .int .i64 b] _ _ _ _ h2 K2 h3 K3 Tryz.underlying84 rfl (by show _ = some 2; kernel_rfl) Tryz.underlying32 rfl (by show _ = some 2; kernel_rfl)) rfl hR
theorem bldK0 (w : World) : (Instr.build 84 #[]).run Tryz.prog w = .ok (.agg #[.slice none 0 0, .slice none 0 0]) w := by kernel_rfl
theorem bldK (x y : Option Addr) (n m c d : Nat) (w : World) : (Instr.build 84 #[(0, .slice x n c), (1, .slice y m d)]).run Tryz.prog w = .ok (.agg #[.slice x n c, .slice y m d]) w := by kernel_rfl
theorem bldFe (a : Int) (w : World) : (Instr.build 32 #[(0, .int .i64 a)]).run Tryz.prog w = .ok (.agg #[.int .i64 a, .int .i64 0]) w := by kernel_rfl
/-- Both of look's answers are written. -/
theorem wr22 {w : World} {g2 g3 : Nat} {x0 x1 y0 y1 : Value} (h2 : Blk w g2 84 [x0, x1]) (h3 : Blk w g3 32 [y0, y1]) (v0 v1 u0 u1 : Value) :
    Blk ((((w.setCell ⟨g2, 0, none⟩ v0).setCell ⟨g2, 1, none⟩ v1).setCell ⟨g3, 0, none⟩ u0).setCell ⟨g3, 1, none⟩ u1) g2 84 [v0, v1] ∧
    Blk ((((w.setCell ⟨g2, 0, none⟩ v0).setCell ⟨g2, 1, none⟩ v1).setCell ⟨g3, 0, none⟩ u0).setCell ⟨g3, 1, none⟩ u1) g3 32 [u0, u1] := by
  have hne : g2 ≠ g3 := fun e => absurd (blk_type h2 (e ▸ h3)) (by decide)
  exact ⟨((wr2 h2 v0 v1).other _ _ hne).other _ _ hne, wr2 ((h3.other _ _ hne.symm).other _ _ hne.symm) u0 u1⟩
/-- What look answers, and where. -/
def LookM (D : List Df) (B : Nat) (w' : World) (E A : Int) (vo vd : Value) : Prop :=
  ∃ o ds, LookTo D E A o ds ∧ w'.ownsRow B 3 1 vo o.length (cellsL .i64 (natI o)) ∧ w'.ownsRow B 3 1 vd ds.length (cellsL .i64 ds) ∧ (∀ k, vo.ownBlock = some k → vd.ownBlock ≠ some k) ∧ (∃ x n c, vo = .slice x n c) ∧ (∃ x n c, vd = .slice x n c)
theorem LookM.nil {D : List Df} {B : Nat} {w' : World} {E A : Int} (h : LookTo D E A [] []) : LookM D B w' E A (.slice none 0 0) (.slice none 0 0) :=
  ⟨[], [], h, World.ownsRow_nil _ _ _ _, World.ownsRow_nil _ _ _ _, fun k h => by simp [Value.ownBlock] at h, ⟨_, _, _, rfl⟩, ⟨_, _, _, rfl⟩⟩
theorem below_set4 {B : Nat} {w w' : World} (h : Below B w w') (b b2 : Nat) (u v x y : Value) (hb : B ≤ b) (hb2 : B ≤ b2) : Below B w ((((w'.setCell ⟨b, 0, none⟩ u).setCell ⟨b, 1, none⟩ v).setCell ⟨b2, 0, none⟩ x).setCell ⟨b2, 1, none⟩ y) := below_set2 (below_set2 h b u v hb) b2 x y hb2
theorem lookTo_src {D : List Df} (h : (ckP D).2.2 ≠ 0) : LookTo D 62 0 [] [] := by unfold LookTo; rw [if_neg h]; exact ⟨rfl, rfl, rfl, rfl⟩
theorem lookTo_names {D : List Df} (h : (ckP D).2.2 = 0) (h2 : (lkD D D 0).1 ≠ 0) : LookTo D (lkD D D 0).1 (lkD D D 0).2 [] [] := by unfold LookTo; rw [if_pos h, if_neg h2]; exact ⟨rfl, rfl, rfl, rfl⟩
theorem lookTo_ring {D : List Df} (h : (ckP D).2.2 = 0) (h2 : (lkD D D 0).1 = 0) {i : Nat} {d : Df} (hd : D[i]? = some d) (hl : Lead (usD D) i i) (hm : ∀ j, j < i → ¬ Lead (usD D) j j) : LookTo D 82 d.a [] [] := by
  unfold LookTo; rw [if_pos h, if_pos h2]; exact .inl ⟨i, d, hd, hl, hm, rfl, rfl, rfl, rfl⟩
theorem lookTo_deep {D : List Df} (h : (ckP D).2.2 = 0) (h2 : (lkD D D 0).1 = 0) (hA : Acy (usD D)) {o : List Nat} {ds : List Int} (hO : Ordr (usD D) o) (hl : o.length = D.length) (hds : DepR D ds) {i : Nat} {d : Df} (hd : D[i]? = some d) (hi : 64 < ds.getD i 0) (hm : ∀ j, j < i → ds.getD j 0 ≤ 64) : LookTo D 83 d.a [] [] := by
  unfold LookTo; rw [if_pos h, if_pos h2]; exact .inr ⟨hA, o, ds, hO, hl, hds, .inl ⟨i, d, hd, hi, hm, rfl, rfl, rfl, rfl⟩⟩
theorem lookTo_ok {D : List Df} (h : (ckP D).2.2 = 0) (h2 : (lkD D D 0).1 = 0) (hA : Acy (usD D)) {o : List Nat} {ds : List Int} (hO : Ordr (usD D) o) (hl : o.length = D.length) (hds : DepR D ds) (hm : ∀ j, ds.getD j 0 ≤ 64) : LookTo D 0 0 o ds := by
  unfold LookTo; rw [if_pos h, if_pos h2]; exact .inr ⟨hA, o, ds, hO, hl, hds, .inr ⟨hm, rfl, rfl, rfl, rfl⟩⟩
theorem us_small {D : List Df} (hok : ∀ d ∈ D, DfOk1 d) (a : Nat) : (us (usD D) a).length ≤ 10000000000000 := by
  rcases Nat.lt_or_ge a D.length with ha | ha
  · rw [us_usD (List.getElem?_eq_getElem ha)]
    have h1 := us_fold_len D (D[a]'ha).ty []
    have h2 := (hok _ (List.getElem_mem ha)).2.1
    unfold usT
    simp at h1
    omega
  · have e : us (usD D) a = [] := by unfold us; rw [List.getD_eq_getElem?_getD, List.getElem?_eq_none (by rw [usD_len]; exact ha)]; rfl
    rw [e]; simp
theorem acy_of {D : List Df} (h : ∀ i, i < (usD D).length → ¬ Lead (usD D) i i) : Acy (usD D) := fun i hl => h i hl.lt hl
set_option maxRecDepth 100000 in
set_option maxHeartbeats 8000000 in
theorem look_any (a : Option Addr) (c : Nat) (D : List Df) (w : World) (hW : Hid (Wt D)) (r : Hid (DRow w a D)) :
    Calls Tryz.prog 27 #[.agg #[.slice a D.length c]] w fun e w' => ∃ E A vo vd, e = .returned (.tuple #[.agg #[vo, vd], .agg #[.int .i64 E, .int .i64 A]]) ∧ Hid (LookM D w.heap.size w' E A vo vd) ∧ Hid (Below w.heap.size w w') := by
  obtain ⟨w1, hw1⟩ : ∃ w1, w1 = ((w.alloc (.cells #[.slice a D.length c] 24)).alloc (.cells #[.slice none 0 0, .slice none 0 0] 84)).alloc (.cells #[.int .i64 0, .int .i64 0] 32) := ⟨_, rfl⟩
  have HB1 : Hid (Below w.heap.size w w1) := by rw [hw1]; exact (((Below.refl _ _).alloc (Nat.le_refl _) _).alloc (by simp) _).alloc (by simp; omega) _
  have K1 : Hid (Blk w1 w.heap.size 24 [.slice a D.length c]) := by rw [hw1]; exact ((Blk.newA w #[.slice a D.length c] 24).alloc _).alloc _
  have K2 : Hid (Blk w1 (w.heap.size + 1) 84 [.slice none 0 0, .slice none 0 0]) := hide_ (by
    have h := (Blk.newA (w.alloc (.cells #[.slice a D.length c] 24)) #[.slice none 0 0, .slice none 0 0] 84).alloc (.cells #[.int .i64 0, .int .i64 0] 32)
    rw [← hw1, World.size_alloc] at h
    exact h)
  have K3 : Hid (Blk w1 (w.heap.size + 1 + 1) 32 [.int .i64 0, .int .i64 0]) := hide_ (by
    have h := Blk.newA ((w.alloc (.cells #[.slice a D.length c] 24)).alloc (.cells #[.slice none 0 0, .slice none 0 0] 84)) #[.int .i64 0, .int .i64 0] 32
    rw [← hw1, World.size_alloc, World.size_alloc] at h
    exact h)
  have e1 : ((w.alloc (.cells #[.slice a D.length c] 24)).alloc (.cells #[.slice none 0 0, .slice none 0 0] 84)).alloc (.cells #[.int .i64 0, .int .i64 0] 32) = w1 := hw1.symm
  clear hw1
  have HC := hide_ (check_any a c D w1 (hide_ (Wt.lens hW.out)) (hide_ (r.out.later HB1.out)))
  go_enter Tryz.func27, Tryz.ntmps27
  go_upto_region 1 with fail
  clear e1
  have c1 := K1.out.cell 0
  simp at c1
  go_upto_region 2 with (go_at_call 12; refine HC.out.mono ?_; rintro e w2 ⟨rfl, hB2⟩)
  clear c1 HC
  have HB2 := hide_ (below_to HB1.out hB2)
  have K1b := hide_ (K1.out.later hB2)
  have K2b := hide_ (K2.out.later hB2)
  have K3b := hide_ (K3.out.later hB2)
  clear hB2 HB1 K1 K2 K3
  have f0 := bldF0; have g0 := bldK0; have ge := bldFe
  by_cases hck : (ckP D).2.2 = 0
  · have he : ((ckP D).2.2 != 0) = false := by simp [hck]
    obtain ⟨hD, hok⟩ := df_ok hck hW.out
    have HOK := hide_ hok
    have HCK := hide_ hck
    have hnm : Hid (∀ d ∈ D, d.name.size ≤ 32) := hide_ (fun d hd => (hok d hd).1)
    clear hok hck
    have HC2 := hide_ (numbered_any a c D w2 hD hnm (hide_ (r.out.later HB2.out)))
    have c1 := K1b.out.cell 0
    simp at c1
    go_upto_region 5 with (go_at_call 49; refine HC2.out.mono ?_; rintro e w3 ⟨bn, rfl, hbn, HM, HB3⟩)
    clear c1 HC2 he
    have HB3' := hide_ (below_to HB2.out HB3.out)
    have K1c := hide_ (K1b.out.later HB3.out)
    have K2c := hide_ (K2b.out.later HB3.out)
    have K3c := hide_ (K3b.out.later HB3.out)
    have hbnw : w.heap.size < bn := by have := K1b.out.lt; omega
    clear HB2 HB3 K1b K2b K3b hnm
    obtain ⟨R, hR⟩ : ∃ R, lkD D D 0 = R := ⟨_, rfl⟩
    have HC3 := names1_any a c D bn w3 hD HOK (hide_ (r.out.later HB3'.out)) HM
    rw [hR] at HC3
    have HC3 := hide_ HC3
    have HR := hide_ hR
    clear hR
    obtain ⟨R1, R2⟩ := R
    dsimp only at HC3
    have c1 := K1c.out.cell 0
    simp at c1
    go_upto_region 6 with (go_at_call 50; refine HC3.out.mono ?_; rintro e w4 ⟨rfl, HB4⟩)
    clear c1 HC3
    have k8 := Blk.newA w4 #[.int .i64 R1, .int .i64 R2] 32
    have hB5 : Below w4.heap.size w4 (w4.alloc (.cells #[.int .i64 R1, .int .i64 R2] 32)) := (Below.refl _ _).alloc (Nat.le_refl _) _
    obtain ⟨w5, hw5⟩ : ∃ w5, w5 = w4.alloc (.cells #[.int .i64 R1, .int .i64 R2] 32) := ⟨_, rfl⟩
    rw [← hw5] at k8 hB5 ⊢
    clear hw5
    have hB35 := below_to HB4.out hB5
    have HB5 := hide_ (below_to HB3'.out hB35)
    have K1d := hide_ (K1c.out.later hB35)
    have K2d := hide_ (K2c.out.later hB35)
    have K3d := hide_ (K3c.out.later hB35)
    have HM5 := hide_ (HM.out.later hB35)
    have l0 := k8.cell 0; have l1 := k8.cell 1
    simp at l0 l1
    have hw4 : w.heap.size + 1 + 1 < w4.heap.size := Nat.lt_of_lt_of_le K3c.out.lt HB4.out.size
    clear k8 hB5 hB35 HB3' HB4 K1c K2c K3c HM
    by_cases hR1 : R1 = 0
    · have hne : (R1 != 0) = false := by simp [hR1]
      have HR1 : Hid ((lkD D D 0).1 = 0) := hide_ (by rw [HR.out]; exact hR1)
      clear hR1 HR
      have HC4 := hide_ (uses_any a c D bn w5 hD HOK (hide_ (r.out.later HB5.out)) HM5)
      have c1 := K1d.out.cell 0
      simp at c1
      go_upto_region 9 with (go_at_call 51; refine HC4.out.mono ?_; rintro e w6 ⟨gU, vs, rfl, hgU, HU, HB6⟩)
      clear c1 l0 l1 hne HC4
      have HB6' := hide_ (below_to HB5.out HB6.out)
      have K1e := hide_ (K1d.out.later HB6.out)
      have K2e := hide_ (K2d.out.later HB6.out)
      have K3e := hide_ (K3d.out.later HB6.out)
      have HM6 := hide_ (HM5.out.later HB6.out)
      have HUL : Hid ((usD D).length = D.length) := hide_ (usD_len D)
      have HSM : Hid (∀ a, (us (usD D) a).length ≤ 10000000000000) := hide_ (us_small HOK.out)
      have HRg : Hid (Rng (usD D)) := hide_ (usD_rng D)
      have HC5 := ring_any gU w5.heap.size vs (usD D) w6 (by rw [HUL.out]; exact hD) HRg HSM HU
      rw [HUL.out] at HC5
      have HC5 := hide_ HC5
      clear HB5 HB6 K1d K2d K3d HM5
      go_upto_region 10 with (go_at_call 52; refine HC5.out.mono ?_; rintro e w7 ⟨rr, rfl, HRR, HB7⟩)
      clear HC5
      have HB7' := hide_ (below_to HB6'.out HB7.out)
      have K1f := hide_ (K1e.out.later HB7.out)
      have K2f := hide_ (K2e.out.later HB7.out)
      have K3f := hide_ (K3e.out.later HB7.out)
      have HM7 := hide_ (HM6.out.later HB7.out)
      have HU7 := hide_ (HU.out.later HB7.out)
      clear HB6' HB7 K1e K2e K3e HM6 HU
      have c0 := K2f.out.cell 0; have c1 := K2f.out.cell 1; have d0 := K3f.out.cell 0; have d1 := K3f.out.cell 1; have s1 := K1f.out.cell 0
      have x0 := K2f.out.frozen 0; have x1 := K2f.out.frozen 1; have y0 := K3f.out.frozen 0; have y1 := K3f.out.frozen 1
      simp at c0 c1 d0 d1 s1
      rcases HRR.out with ⟨rfl, hNo⟩ | ⟨i, rfl, hi, hLd, hLs⟩
      · have hAc := acy_of hNo
        have HAc := hide_ hAc
        clear hNo hAc HRR c0 c1 d0 d1 s1 x0 x1 y0 y1
        have HC6 := ordered_any gU w5.heap.size vs (usD D) w7 (by rw [HUL.out]; exact hD) HRg HAc HSM HU7
        rw [HUL.out] at HC6
        have HC6 := hide_ HC6
        go_upto_region 13 with (go_at_call 53; refine HC6.out.mono ?_; rintro e w8 ⟨go, co, yo, o, rfl, hgo, HO, HOl, HSo, HB8⟩)
        clear HC6
        have HB8' := hide_ (below_to HB7'.out HB8.out)
        have K1g := hide_ (K1f.out.later HB8.out)
        have K2g := hide_ (K2f.out.later HB8.out)
        have K3g := hide_ (K3f.out.later HB8.out)
        have HM8 := hide_ (HM7.out.later HB8.out)
        have hgo' : w.heap.size ≤ go := Nat.le_trans HB7'.out.size hgo
        clear HB7' HB8 K1f K2f K3f HM7 HU7
        have HC7 := hide_ (depths_any a c D bn go co yo o w8 hD HOK (hide_ (r.out.later HB8'.out)) HM8 HO HOl HSo)
        have s1 := K1g.out.cell 0
        simp at s1
        go_upto_region 14 with (go_at_call 54; refine HC7.out.mono ?_; rintro e w9 ⟨gd, ds, rfl, hgd, HKd, HDep, HIn, HB9⟩)
        clear HC7 s1
        have HB9' := hide_ (below_to HB8'.out HB9.out)
        have K1h := hide_ (K1g.out.later HB9.out)
        have K2h := hide_ (K2g.out.later HB9.out)
        have K3h := hide_ (K3g.out.later HB9.out)
        have HSo9 := hide_ (HSo.out.later HB9.out)
        have hgd' : w.heap.size ≤ gd := Nat.le_trans HB8'.out.size hgd
        have hgne : go ≠ gd := by have := HSo.out.1.lt; omega
        have HDl : Hid (ds.length = D.length) := hide_ HDep.out.1
        clear HB8' HB9 K1g K2g K3g HM8 HSo
        go_wp2_with fail
        go_loop [58] (fun x58 => ∃ i : Nat, i ≤ D.length ∧ x58 = .int .i64 (i : Int) ∧ Hid (∀ j, j < i → ds.getD j 0 ≤ 64)) (fun x58 => D.length - (intOf x58).toNat)
        case atStart => exact ⟨0, Nat.zero_le _, rfl, hide_ (fun j h => by omega)⟩
        case round =>
          obtain ⟨i, hi, rfl, HN⟩ := hrel
          have c0 := K2h.out.cell 0; have c1 := K2h.out.cell 1; have d0 := K3h.out.cell 0; have d1 := K3h.out.cell 1; have s1 := K1h.out.cell 0
          have x0 := K2h.out.frozen 0; have x1 := K2h.out.frozen 1; have y0 := K3h.out.frozen 0; have y1 := K3h.out.frozen 1
          simp at c0 c1 d0 d1 s1
          by_cases hlt : i < D.length
          · have hlt' : (i : Int) < D.length := by omega
            have cd := (HKd.out.cell i).trans (cellsL_at .i64 ds i (by rw [HDl.out]; exact hlt))
            obtain ⟨v, hv⟩ : ∃ v, ds.getD i 0 = v := ⟨_, rfl⟩
            rw [hv] at cd
            have HV := hide_ hv
            clear hv
            by_cases h64 : 64 < v
            · obtain ⟨d, hd⟩ : ∃ d, D[i]? = some d := ⟨_, List.getElem?_eq_getElem hlt⟩
              obtain ⟨b, off, rfl, hb, hcl⟩ := r.out.open (by omega)
              obtain ⟨va, vc, hcx, -⟩ := hcl i d hd
              have h1 := (HB9'.out.cell (p := ⟨b, off + i * 3 + 1, none⟩) hb).trans (hcx 1 (by decide))
              simp [dfc] at h1
              have HL := hide_ (lookTo_deep HCK.out HR1.out HAc.out HO.out HOl.out HDep.out hd (by rw [HV.out]; exact h64) HN.out)
              obtain ⟨q2, q3⟩ := wr22 K2h.out K3h.out (.slice none 0 0) (.slice none 0 0) (.int .i64 83) (.int .i64 d.a)
              have hbf := bldF 83 d.a
              clear hcl hcx hd
              go_wp2_with fail
              go_region
              go_wp2
              exact retL rfl rfl q2 q3 ⟨83, d.a, _, _, rfl, hide_ (LookM.nil HL.out), hide_ (below_set4 HB9'.out _ _ _ _ _ _ (by omega) (by omega)).drew⟩
            · go_wp2_with fail
              go_round
              case rel => exact ⟨i + 1, by omega, by go_num, hide_ (fun j hj => by
                rcases Nat.lt_or_ge j i with h | h
                · exact HN.out j h
                · obtain rfl : j = i := by omega
                  rw [HV.out]; omega)⟩
              case measure => simp [intOf]; omega
          · obtain rfl : i = D.length := by omega
            have HL := hide_ (lookTo_ok HCK.out HR1.out HAc.out HO.out HOl.out HDep.out (fun j => by
              rcases Nat.lt_or_ge j D.length with h | h
              · exact HN.out j h
              · rw [List.getD_eq_getElem?_getD, List.getElem?_eq_none (by rw [HDl.out]; exact h)]; simp))
            have hbk := bldK (some ⟨go, 0, none⟩) (some ⟨gd, 0, none⟩) o.length D.length co D.length
            obtain ⟨q2, q3⟩ := wr22 K2h.out K3h.out (.slice (some ⟨go, 0, none⟩) o.length co) (.slice (some ⟨gd, 0, none⟩) D.length D.length) (.int .i64 0) (.int .i64 0)
            have HOw : Hid (∀ w', Upd (fun k => k = w.heap.size + 1 ∨ k = w.heap.size + 1 + 1) w9 w' → LookM D w.heap.size w' 0 0 (.slice (some ⟨go, 0, none⟩) o.length co) (.slice (some ⟨gd, 0, none⟩) D.length D.length)) := hide_ (fun w' hu => by
              have ho := HSo9.out.1.owns w.heap.size o.length co hgo' HSo9.out.2.1 (by have := HSo9.out.2.2.1; rwa [natI_len] at this) HSo9.out.2.2.2.1
              have ht := HSo9.out.2.2.2.2
              rw [natI_len] at ht
              rw [ht] at ho
              have hd := HKd.out.owns w.heap.size ds.length ds.length hgd' (cellsL_length _ _) (Nat.le_refl _) (by rw [HDl.out]; unfold maxLen; omega)
              rw [List.take_of_length_le (by rw [cellsL_length]; exact Nat.le_refl _)] at hd
              have e2 : (Value.slice (some ⟨gd, 0, none⟩) D.length D.length) = .slice (some ⟨gd, 0, none⟩) ds.length ds.length := by rw [HDl.out]
              have key : ∀ g ts, Blk w9 g 3 ts → ∀ k, g = k → ¬ (k = w.heap.size + 1 ∨ k = w.heap.size + 1 + 1) := fun g ts hb k hk e => by
                subst hk
                rcases e with e | e
                · exact absurd (blk_type hb (e ▸ K2h.out)) (by decide)
                · exact absurd (blk_type hb (e ▸ K3h.out)) (by decide)
              have ho2 := ownS_upd ho hu (fun k hk => key go _ HSo9.out.1 k (own_is hk))
              have hd2 := ownS_upd hd hu (fun k hk => key gd _ HKd.out k (own_is hk))
              refine ⟨o, ds, HL.out, ho2, by rw [e2]; exact hd2, fun k hk hk2 => ?_, ⟨_, _, _, rfl⟩, ⟨_, _, _, rfl⟩⟩
              have h1 := own_is hk
              have h2 := own_is hk2
              omega)
            go_wp2
            exact retL rfl rfl q2 q3 ⟨0, 0, _, _, rfl, hide_ (HOw.out _ (((((Upd.refl _ w9).set ⟨w.heap.size + 1, 0, none⟩ _ (.inl (.inl rfl))).set ⟨w.heap.size + 1, 1, none⟩ _ (.inl (.inl rfl))).set ⟨w.heap.size + 1 + 1, 0, none⟩ _ (.inl (.inr rfl))).set ⟨w.heap.size + 1 + 1, 1, none⟩ _ (.inl (.inr rfl)))), hide_ (below_set4 HB9'.out _ _ _ _ _ _ (by omega) (by omega))⟩
      · rw [HUL.out] at hi
        have hi' : (i : Int) < D.length := by omega
        obtain ⟨d, hd⟩ : ∃ d, D[i]? = some d := ⟨_, List.getElem?_eq_getElem hi⟩
        obtain ⟨b, off, rfl, hb, hcl⟩ := r.out.open (by omega)
        obtain ⟨va, vc, hcx, -⟩ := hcl i d hd
        have h1 := (HB7'.out.cell (p := ⟨b, off + i * 3 + 1, none⟩) hb).trans (hcx 1 (by decide))
        simp [dfc] at h1
        have HL := hide_ (lookTo_ring HCK.out HR1.out hd hLd hLs)
        obtain ⟨q2, q3⟩ := wr22 K2f.out K3f.out (.slice none 0 0) (.slice none 0 0) (.int .i64 82) (.int .i64 d.a)
        have hbf := bldF 82 d.a
        have h0i : (0 : Int) ≤ (i : Int) := by omega
        clear hcl hcx hd hLd hLs
        go_wp2_with fail
        go_region
        go_wp2
        exact retL rfl rfl q2 q3 ⟨82, d.a, _, _, rfl, hide_ (LookM.nil HL.out), hide_ (below_set4 HB7'.out _ _ _ _ _ _ (by omega) (by omega)).drew⟩
    · have hne : (R1 != 0) = true := by simpa using hR1
      have c0 := K2d.out.cell 0; have c1 := K2d.out.cell 1; have d0 := K3d.out.cell 0; have d1 := K3d.out.cell 1
      have x0 := K2d.out.frozen 0; have x1 := K2d.out.frozen 1; have y0 := K3d.out.frozen 0; have y1 := K3d.out.frozen 1
      simp at c0 c1 d0 d1
      obtain ⟨q2, q3⟩ := wr22 K2d.out K3d.out (.slice none 0 0) (.slice none 0 0) (.int .i64 R1) (.int .i64 R2)
      have HL := lookTo_names HCK.out (by rw [HR.out]; exact hR1)
      rw [HR.out] at HL
      have HL := hide_ HL
      go_wp2_with fail
      go_region
      go_wp2
      exact retL rfl rfl q2 q3 ⟨R1, R2, _, _, rfl, hide_ (LookM.nil HL.out), hide_ (below_set4 HB5.out _ _ _ _ _ _ (by omega) (by omega)).drew⟩
  · have he : ((ckP D).2.2 != 0) = true := by simpa using hck
    have c0 := K2b.out.cell 0; have c1 := K2b.out.cell 1; have d0 := K3b.out.cell 0; have d1 := K3b.out.cell 1
    have x0 := K2b.out.frozen 0; have x1 := K2b.out.frozen 1; have y0 := K3b.out.frozen 0; have y1 := K3b.out.frozen 1
    simp at c0 c1 d0 d1
    obtain ⟨q2, q3⟩ := wr22 K2b.out K3b.out (.slice none 0 0) (.slice none 0 0) (.int .i64 62) (.int .i64 0)
    have HL := hide_ (lookTo_src hck)
    go_wp2
    exact retL rfl rfl q2 q3 ⟨62, 0, _, _, rfl, hide_ (LookM.nil HL.out), hide_ (below_set4 HB2.out _ _ _ _ _ _ (by omega) (by omega))⟩
end Go.Proofs.YtbgjgbddpcofcaaGreatDoor

/- Check, Order, Depth, Find; ints. -/
namespace Go.Proofs.YtbgjgbddpcofcaaGreatDoor
open Go.RowKit
set_option linter.unusedVariables false

/-! ### There is an answer -/
theorem Ordr.ex {U : List (List Nat)} (hR : Rng U) (hA : Acy U) : ∀ k, k ≤ U.length → ∃ o, o.length = k ∧ Ordr U o
  | 0, _ => ⟨[], rfl, Ordr.nil U⟩
  | k + 1, hk => by
    obtain ⟨o, h1, h2⟩ := Ordr.ex hR hA k (by omega)
    obtain ⟨n0, h3, h4⟩ := h2.next hR hA (by omega)
    obtain ⟨n, h5, h6, h7⟩ := least (p := fun n => Rdy U o n) n0 h4
    exact ⟨o ++ [n], by simp [h1], h2.snoc (by omega) h6 h7⟩
theorem DepP.ex {D : List Df} {o : List Nat} (hO : Ordr (usD D) o) : ∀ i, i ≤ o.length → ∃ ds, DepP D o i ds
  | 0, _ => ⟨List.replicate D.length 0, by simp, fun k hk => by simp at hk⟩
  | i + 1, hi => by
    obtain ⟨ds, h⟩ := DepP.ex hO i (by omega)
    have hm : o[i]? = some (o[i]'(by omega)) := List.getElem?_eq_getElem _
    have hl := (hO i _ hm).1
    rw [usD_len] at hl
    exact ⟨_, h.step hO hm (List.getElem?_eq_getElem hl)⟩
theorem lookTo_ex (D : List Df) : ∃ E A o ds, LookTo D E A o ds := by
  classical
  by_cases h : (ckP D).2.2 = 0
  · by_cases h2 : (lkD D D 0).1 = 0
    · by_cases hA : ∃ i, Lead (usD D) i i
      · obtain ⟨i, hi⟩ := hA
        obtain ⟨m, _, h3, h4⟩ := least (p := fun i => Lead (usD D) i i) i hi
        have hm := h3.lt
        rw [usD_len] at hm
        exact ⟨_, _, _, _, lookTo_ring h h2 (List.getElem?_eq_getElem hm) h3 h4⟩
      · have hAc : Acy (usD D) := fun i hi => hA ⟨i, hi⟩
        obtain ⟨o, hl, hO⟩ := Ordr.ex (usD_rng D) hAc (usD D).length (Nat.le_refl _)
        rw [usD_len] at hl
        obtain ⟨ds, hd⟩ := DepP.ex hO o.length (Nat.le_refl _)
        have hds := hd.all hO hl
        by_cases hB : ∃ i, 64 < ds.getD i 0
        · obtain ⟨i, hi⟩ := hB
          obtain ⟨m, _, h3, h4⟩ := least (p := fun i => 64 < ds.getD i 0) i hi
          have hm : m < D.length := by
            rcases Nat.lt_or_ge m D.length with hh | hh
            · exact hh
            · rw [List.getD_eq_getElem?_getD, List.getElem?_eq_none (by rw [hds.1]; exact hh)] at h3
              simp at h3
          exact ⟨_, _, _, _, lookTo_deep h h2 hAc hO hl hds (List.getElem?_eq_getElem hm) h3 (fun j hj => by have := h4 j hj; omega)⟩
        · exact ⟨_, _, _, _, lookTo_ok h h2 hAc hO hl hds (fun j => by
            by_cases hh : 64 < ds.getD j 0
            · exact absurd ⟨j, hh⟩ hB
            · omega)⟩
    · exact ⟨_, _, _, _, lookTo_names h h2⟩
  · exact ⟨_, _, _, _, lookTo_src h⟩
/-! ### The calls -/
theorem look_is {D : List Df} {E A : Int} {o : List Nat} {ds : List Int} (h : LookTo D E A o ds) (a : Option Addr) (c : Nat) (w : World) (hW : Hid (Wt D)) (r : Hid (DRow w a D)) :
    Calls Tryz.prog 27 #[.agg #[.slice a D.length c]] w fun e w' => ∃ x n p y m q, e = .returned (.tuple #[.agg #[.slice x n p, .slice y m q], .agg #[.int .i64 E, .int .i64 A]]) ∧ Hid (w'.ownsRow w.heap.size 3 1 (.slice x n p) o.length (cellsL .i64 (natI o))) ∧ Hid (w'.ownsRow w.heap.size 3 1 (.slice y m q) ds.length (cellsL .i64 ds)) ∧ Hid (Below w.heap.size w w') :=
  (look_any a c D w hW r).mono fun e w' ⟨E', A', vo, vd, he, ⟨o', ds', h1, h2, h3, h4, ⟨x, n, p, e5⟩, ⟨y, m, q, e6⟩⟩, hB⟩ => by
    obtain ⟨rfl, rfl, rfl, rfl⟩ := h.det h1
    subst e5 e6
    exact ⟨x, n, p, y, m, q, he, h2, h3, hB⟩
theorem retO {fn : Func} (hfn : fn.results = #[.tmp 2, .cell 3 32]) {R : Ending → World → Prop} {tmps : Array Value} {g3 : Nat} {w : World} {v0 : Value} {a b : Int} (h2 : tmps.getD 2 undef = v0) (h3 : tmps.getD 3 undef = .pointer (some ⟨g3, 0, none⟩)) (K3 : Blk w g3 32 [.int .i64 a, .int .i64 b]) (hR : R (.returned (.tuple #[v0, .agg #[.int .i64 a, .int .i64 b]])) w) :
    bodyPost Tryz.prog fn R Exit.ret ⟨tmps, []⟩ w := by
  subst h2
  exact bodyPost_ret (results_tmp_cell_row hfn _ _ _ _ #[.int .i64 a, .int .i64 b] _ _ h3 K3 Tryz.underlying32 rfl (by show _ = some 2; kernel_rfl)) rfl hR
set_option maxRecDepth 100000 in
set_option maxHeartbeats 4000000 in
theorem nOrder_any {D : List Df} {E A : Int} {o : List Nat} {ds : List Int} (h : LookTo D E A o ds) (a : Option Addr) (c : Nat) (w : World) (hW : Hid (Wt D)) (r : Hid (DRow w a D)) :
    Calls Tryz.prog 13 #[.agg #[.slice a D.length c]] w fun e w' => ∃ x n p, e = .returned (.tuple #[.slice x n p, .agg #[.int .i64 E, .int .i64 A]]) ∧ Hid (w'.ownsRow w.heap.size 3 1 (.slice x n p) o.length (cellsL .i64 (natI o))) ∧ Hid (Below w.heap.size w w') := by
  obtain ⟨w1, hw1⟩ : ∃ w1, (w.alloc (.cells #[.slice a D.length c] 24)).alloc (.cells #[.int .i64 0, .int .i64 0] 32) = w1 := ⟨_, rfl⟩
  have HB1 : Hid (Below w.heap.size w w1) := by rw [← hw1]; exact ((Below.refl _ _).alloc (Nat.le_refl _) _).alloc (by simp) _
  have K1 : Hid (Blk w1 w.heap.size 24 [.slice a D.length c]) := by rw [← hw1]; exact (Blk.newA w #[.slice a D.length c] 24).alloc _
  have K2 : Hid (Blk w1 (w.heap.size + 1) 32 [.int .i64 0, .int .i64 0]) := hide_ (by
    have h := Blk.newA (w.alloc (.cells #[.slice a D.length c] 24)) #[.int .i64 0, .int .i64 0] 32
    rw [hw1, World.size_alloc] at h
    exact h)
  have HC := hide_ (look_is h a c w1 hW (hide_ (r.out.later HB1.out)))
  have c0 := K1.out.cell 0
  simp at c0
  go_enter Tryz.func13, Tryz.ntmps13
  go_upto_region 2 with (go_at_call 27; refine HC.out.mono ?_; rintro e w2 ⟨x, n, p, y, m, q, rfl, HX, HY, HB2⟩)
  have K2b := K2.out.later HB2.out
  have hs2 : w.heap.size + 1 < w2.heap.size := K2b.lt
  obtain ⟨w3, hw3⟩ : ∃ w3, (w2.alloc (.cells #[.slice x n p, .slice y m q] 84)).alloc (.cells #[.int .i64 E, .int .i64 A] 32) = w3 := ⟨_, rfl⟩
  have hB3 : Below w2.heap.size w2 w3 := by rw [← hw3]; exact ((Below.refl _ _).alloc (Nat.le_refl _) _).alloc (by simp) _
  have k3 : Blk w3 w2.heap.size 84 [.slice x n p, .slice y m q] := by
    have h := (Blk.newA w2 #[.slice x n p, .slice y m q] 84).alloc (.cells #[.int .i64 E, .int .i64 A] 32)
    rw [hw3] at h
    exact h
  have k4 : Blk w3 (w2.heap.size + 1) 32 [.int .i64 E, .int .i64 A] := by
    have h := Blk.newA (w2.alloc (.cells #[.slice x n p, .slice y m q] 84)) #[.int .i64 E, .int .i64 A] 32
    rw [hw3, World.size_alloc] at h
    exact h
  have K2c := hide_ (K2b.later hB3)
  have HB3 := hide_ (below_to HB1.out (below_to HB2.out hB3))
  have hO3 : w3.ownsRow w.heap.size 3 1 (.slice x n p) o.length (cellsL .i64 (natI o)) := ownS_upd (own_base HX.out HB1.out.size) (Upd.of_below (S := fun _ => False) hB3) (fun _ _ h => h)
  have HO3 : Hid (∀ w', Upd (fun k => k = w.heap.size + 1) w3 w' → w'.ownsRow w.heap.size 3 1 (.slice x n p) o.length (cellsL .i64 (natI o))) := hide_ (fun w' hu => ownS_upd hO3 hu (fun k hk e => by
    obtain ⟨ys, hy⟩ := ownS_type hO3 hk
    exact absurd (blk_type hy (e ▸ K2c.out)) (by decide)))
  rw [hw3]
  clear hw3 hw1 c0 K2b K1 K2 HB2 hO3
  have g0 := k3.cell 0
  have d0 := k4.cell 0; have d1 := k4.cell 1
  have e0 := K2c.out.cell 0; have e1 := K2c.out.cell 1
  have f0 := K2c.out.frozen 0; have f1 := K2c.out.frozen 1
  simp at g0 d0 d1 e0 e1
  go_wp2_with fail
  go_region
  all_goals go_wp2
  all_goals exact retO (a := E) (b := A) rfl rfl rfl (wr2 K2c.out _ _) ⟨_, _, _, rfl, hide_ (HO3.out _ ((((Upd.refl (fun k => k = w.heap.size + 1) w3).set ⟨w.heap.size + 1, 0, none⟩ _ (.inl rfl)).set ⟨w.heap.size + 1, 1, none⟩ _ (.inl rfl)).drew)), hide_ (below_set2 HB3.out _ _ _ (by omega)).drew⟩
end Go.Proofs.YtbgjgbddpcofcaaGreatDoor

/- What follows from an answer, plain. -/
namespace Go.Proofs.YtbgjgbddpcofcaaGreatDoor
open Go.RowKit
set_option linter.unusedVariables false

theorem lkN_ok {D : List Df} : ∀ (N : List Nd) (P : List Int) (met : List Pt), P.length = N.length → (lkN D N P met).1 = 0 → ∀ x ∈ N, x.k = 9 → ∃ j, numN D x.name = some j
  | [], P, met, _, _, x, hx, _ => by cases hx
  | y :: N, [], met, h, _, _, _, _ => by simp at h
  | y :: N, p :: P, met, hl, h, x, hx, h9 => by
    rw [lkN] at h
    by_cases h1 : hasP met (p, y.label, y.tag) = true
    · rw [if_pos h1] at h; simp at h
    rw [if_neg h1] at h
    by_cases h2 : y.k = 9 ∧ numN D y.name = none
    · rw [if_pos h2] at h; simp at h
    rw [if_neg h2] at h
    rcases List.mem_cons.1 hx with rfl | hx
    · cases e : numN D x.name with
      | none => exact absurd ⟨h9, e⟩ h2
      | some j => exact ⟨j, rfl⟩
    · exact lkN_ok N P _ (by simpa using hl) h x hx h9
theorem lkD_ok {D0 : List Df} : ∀ (D : List Df) (i : Nat), (lkD D0 D i).1 = 0 → ∀ (j : Nat) (d : Df), D[j]? = some d → numN D0 d.name = some (i + j) ∧ (lkT D0 d.ty).1 = 0
  | [], i, _, j, d, hd => by simp at hd
  | e :: D, i, h, j, d, hd => by
    rw [lkD] at h
    by_cases h1 : numN D0 e.name = some i
    · rw [if_pos h1] at h
      by_cases h2 : (lkT D0 e.ty).1 = 0
      · rw [if_pos h2] at h
        cases j with
        | zero => simp at hd; subst hd; exact ⟨h1, h2⟩
        | succ j =>
          have := lkD_ok D (i + 1) h j d (by simpa using hd)
          rw [show i + (j + 1) = i + 1 + j by omega]
          exact this
      · rw [if_neg h2] at h; exact absurd h h2
    · rw [if_neg h1] at h; simp at h
theorem known {D : List Df} (h : (lkD D D 0).1 = 0) {j : Nat} {d : Df} (hd : D[j]? = some d) {x : Nd} (hx : x ∈ d.ty) (h9 : x.k = 9) : ∃ u, numN D x.name = some u :=
  lkN_ok d.ty (parP d.ty) [] (parP_len _) (lkD_ok D 0 h j d hd).2 x hx h9
/-- An answer without an error. -/
structure Good (D : List Df) (o : List Nat) (ds : List Int) : Prop where
  ck : (ckP D).2.2 = 0
  lk : (lkD D D 0).1 = 0
  acy : Acy (usD D)
  ord : Ordr (usD D) o
  len : o.length = D.length
  dep : DepR D ds
  deep : ∀ j, ds.getD j 0 ≤ 64
theorem LookTo.zero {D : List Df} {A : Int} {o : List Nat} {ds : List Int} (h : LookTo D 0 A o ds) : Good D o ds ∧ A = 0 := by
  unfold LookTo at h
  by_cases h1 : (ckP D).2.2 = 0
  · rw [if_pos h1] at h
    by_cases h2 : (lkD D D 0).1 = 0
    · rw [if_pos h2] at h
      rcases h with ⟨_, _, _, _, _, h, _⟩ | ⟨hA, p, qs, e1, e2, e3, ⟨_, _, _, _, _, h, _⟩ | ⟨h3, _, h4, rfl, rfl⟩⟩
      · omega
      · omega
      · exact ⟨⟨h1, h2, hA, e1, e2, e3, h3⟩, h4⟩
    · rw [if_neg h2] at h; exact absurd h.1.symm h2
  · rw [if_neg h1] at h; have := h.1; omega
theorem LookTo.err {D : List Df} {E A : Int} {o : List Nat} {ds : List Int} (h : LookTo D E A o ds) (hE : E ≠ 0) : o = [] ∧ ds = [] := by
  unfold LookTo at h
  by_cases h1 : (ckP D).2.2 = 0
  · rw [if_pos h1] at h
    by_cases h2 : (lkD D D 0).1 = 0
    · rw [if_pos h2] at h
      rcases h with ⟨_, _, _, _, _, _, _, h3, h4⟩ | ⟨hA, p, qs, e1, e2, e3, ⟨_, _, _, _, _, _, _, h3, h4⟩ | ⟨h3, h, _⟩⟩
      · exact ⟨h3, h4⟩
      · exact ⟨h3, h4⟩
      · exact absurd h hE
    · rw [if_neg h2] at h; exact h.2.2
  · rw [if_neg h1] at h; exact h.2.2
theorem Good.look {D : List Df} {o : List Nat} {ds : List Int} (h : Good D o ds) : LookTo D 0 0 o ds := lookTo_ok h.ck h.lk h.acy h.ord h.len h.dep h.deep
/-- What uses only what is ahead of it stands so already. -/
theorem stands_id {U : List (List Nat)} {o : List Nat} (hO : Ordr U o) (hl : o.length = U.length) (h : ∀ m, m < U.length → ∀ u ∈ us U m, u < m) : ∀ i, i < U.length → o[i]? = some i := by
  intro i
  induction i using Nat.strongRecOn with
  | ind i ih =>
    intro hi
    have ho : o[i]? = some (o[i]'(by omega)) := List.getElem?_eq_getElem _
    obtain ⟨h1, h2, h3⟩ := hO i _ ho
    have htk : ∀ j, j ∈ o.take i ↔ j < i := by
      intro j
      constructor
      · intro hj
        obtain ⟨k, hk, e⟩ := List.getElem_of_mem hj
        rw [List.length_take] at hk
        rw [List.getElem_take] at e
        have := ih k (by omega) (by omega)
        rw [List.getElem?_eq_getElem (by omega)] at this
        simp only [Option.some.injEq] at this
        omega
      · intro hj
        refine List.mem_iff_getElem?.2 ⟨j, ?_⟩
        rw [List.getElem?_take, if_pos hj]
        exact ih j hj (by omega)
    have hr : Rdy U (o.take i) i := ⟨fun hh => by have := (htk i).1 hh; omega, fun u hu => (htk u).2 (h i hi u hu)⟩
    have h4 : ¬ (o[i]'(by omega)) < i := fun hh => h2.1 ((htk _).2 hh)
    have h5 : ¬ i < (o[i]'(by omega)) := fun hh => h3 i hh hr
    rw [ho]
    congr 1
    omega
theorem Good.depth {D : List Df} {o : List Nat} {ds : List Int} (h : Good D o ds) (hok : ∀ d ∈ D, DfOk1 d) {i : Nat} (hi : i < D.length) : 1 ≤ ds.getD i 0 := by
  rw [h.dep.2 i _ (List.getElem?_eq_getElem hi)]
  have := hok _ (List.getElem_mem hi)
  exact hgt_one this.2.2.1 this.2.2.2.1
theorem Good.use {D : List Df} {o : List Nat} {ds : List Int} (h : Good D o ds) (hok : ∀ d ∈ D, DfOk1 d) {i : Nat} {d : Df} (hd : D[i]? = some d) {x : Nd} (hx : x ∈ d.ty) (h9 : x.k = 9) : ds.getD (numZ D x.name) 0 ≤ ds.getD i 0 := by
  rw [h.dep.2 i d hd]
  have := hok d (List.mem_of_getElem? hd)
  exact hgt_name (f := depF D ds) this.2.2.1 this.2.2.2.1 hx h9
end Go.Proofs.YtbgjgbddpcofcaaGreatDoor
