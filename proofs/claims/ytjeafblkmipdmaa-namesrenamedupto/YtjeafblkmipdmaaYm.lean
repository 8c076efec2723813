/- look. -/
import Derived.Test.YtjeafblkmipdmaaYl
import Derived.Test.YtjeafblkmipdmaaRd
namespace Go.Proofs.Ytjeafblkmipdmaa
open Go.RowKit
set_option linter.unusedVariables false

theorem results_two_cells {P : Program} {fn : Func} {p u : Tmp} {ty ty2 : TypeId} (h : fn.results = #[.cell p ty, .cell u ty2]) (tmps : Array Value) (w : World) (g g2 : Nat) (t t2 : TypeId) (cs cs2 : Array Value) (fr fr2 : Nat × Nat) (d d2 : TypeDesc)
    (hp : tmps.getD p undef = .pointer (some ⟨g, 0, none⟩)) (hg : w.heap[g]? = some (.cells cs t fr)) (hp2 : tmps.getD u undef = .pointer (some ⟨g2, 0, none⟩)) (hg2 : w.heap[g2]? = some (.cells cs2 t2 fr2))
    (hu : P.underlying ty = some d) (hd : (match d with | .struct _ | .array _ _ => true | _ => false) = true) (hi : (P.info? ty).map (·.size) = some cs.size)
    (hu2 : P.underlying ty2 = some d2) (hd2 : (match d2 with | .struct _ | .array _ _ => true | _ => false) = true) (hi2 : (P.info? ty2).map (·.size) = some cs2.size) :
    (results fn tmps).run P w = .ok (.tuple #[.agg cs, .agg cs2]) w := by
  have hp' : tmps[p]?.getD undef = .pointer (some ⟨g, 0, none⟩) := by simpa using hp
  have hp2' : tmps[u]?.getD undef = .pointer (some ⟨g2, 0, none⟩) := by simpa using hp2
  simp only [results, h]
  simp [hp', hp2', asAddr, Result.andThen, run_loadVar_row w g t ty cs fr d hg hu hd hi, run_loadVar_row w g2 t2 ty2 cs2 fr2 d2 hg2 hu2 hd2 hi2]
theorem retL {R : Ending → World → Prop} {tmps : Array Value} {g2 g3 : Nat} {w : World} {v0 v1 : Value} {a b : Int} (h2 : tmps.getD 2 undef = .pointer (some ⟨g2, 0, none⟩)) (h3 : tmps.getD 3 undef = .pointer (some ⟨g3, 0, none⟩)) (K2 : Blk w g2 45 [v0, v1]) (K3 : Blk w g3 28 [.int .i64 a, .int .i64 b]) (hR : R (.returned (.tuple #[.agg #[v0, v1], .agg #[.int .i64 a, .int .i64 b]])) w) :
    bodyPost Try.prog Try.f11 R Exit.ret ⟨tmps, []⟩ w :=
  bodyPost_ret (results_two_cells rfl _ _ _ _ _ _ #[v0, v1] #[.int .i64 a, .int .i64 b] _ _ _ _ h2 K2 h3 K3 Try.underlying45 rfl (by show _ = some 2; kernel_rfl) Try.underlying28 rfl (by show _ = some 2; kernel_rfl)) rfl hR
theorem bldK0 (w : World) : (Instr.build 45 #[]).run Try.prog w = .ok (.agg #[.slice none 0 0, .slice none 0 0]) w := by kernel_rfl
theorem bldK (x y : Option Addr) (n m c d : Nat) (w : World) : (Instr.build 45 #[(0, .slice x n c), (1, .slice y m d)]).run Try.prog w = .ok (.agg #[.slice x n c, .slice y m d]) w := by kernel_rfl
theorem bldFe (a : Int) (w : World) : (Instr.build 28 #[(0, .int .i64 a)]).run Try.prog w = .ok (.agg #[.int .i64 a, .int .i64 0]) w := by kernel_rfl
/-- Both of look's answers are written. -/
theorem wr22 {w : World} {g2 g3 : Nat} {x0 x1 y0 y1 : Value} (h2 : Blk w g2 45 [x0, x1]) (h3 : Blk w g3 28 [y0, y1]) (v0 v1 u0 u1 : Value) :
    Blk ((((w.setCell ⟨g2, 0, none⟩ v0).setCell ⟨g2, 1, none⟩ v1).setCell ⟨g3, 0, none⟩ u0).setCell ⟨g3, 1, none⟩ u1) g2 45 [v0, v1] ∧
    Blk ((((w.setCell ⟨g2, 0, none⟩ v0).setCell ⟨g2, 1, none⟩ v1).setCell ⟨g3, 0, none⟩ u0).setCell ⟨g3, 1, none⟩ u1) g3 28 [u0, u1] := by
  have hne : g2 ≠ g3 := fun e => absurd (blk_type h2 (e ▸ h3)) (by decide)
  exact ⟨((wr2 h2 v0 v1).other _ _ hne).other _ _ hne, wr2 ((h3.other _ _ hne.symm).other _ _ hne.symm) u0 u1⟩
/-- What look answers, and where. -/
def LookM (D : List Df) (B : Nat) (w' : World) (E A : Int) (vo vd : Value) : Prop :=
  ∃ o ds, LookTo D E A o ds ∧ w'.ownsRow B 3 1 vo o.length (cellsL .i64 (natI o)) ∧ w'.ownsRow B 3 1 vd ds.length (cellsL .i64 ds) ∧ (∀ k, vo.ownBlock = some k → vd.ownBlock ≠ some k) ∧ (∃ x n c, vo = .slice x n c) ∧ (∃ x n c, vd = .slice x n c)
theorem LookM.nil {D : List Df} {B : Nat} {w' : World} {E A : Int} (h : LookTo D E A [] []) : LookM D B w' E A (.slice none 0 0) (.slice none 0 0) :=
  ⟨[], [], h, World.ownsRow_nil _ _ _ _, World.ownsRow_nil _ _ _ _, fun k h => by simp [Value.ownBlock] at h, ⟨_, _, _, rfl⟩, ⟨_, _, _, rfl⟩⟩
theorem below_set4 {B : Nat} {w w' : World} (h : Below B w w') (b b2 : Nat) (u v x y : Value) (hb : B ≤ b) (hb2 : B ≤ b2) : Below B w ((((w'.setCell ⟨b, 0, none⟩ u).setCell ⟨b, 1, none⟩ v).setCell ⟨b2, 0, none⟩ x).setCell ⟨b2, 1, none⟩ y) := below_set2 (below_set2 h b u v hb) b2 x y hb2
theorem lookTo_src {D : List Df} (h : (ckP D).2.2 ≠ 0) : LookTo D 62 0 [] [] := by unfold LookTo; rw [if_neg h]; exact ⟨rfl, rfl, rfl, rfl⟩
theorem lookTo_names {D : List Df} (h : (ckP D).2.2 = 0) (h2 : (lkD D D 0).1 ≠ 0) : LookTo D (lkD D D 0).1 (lkD D D 0).2 [] [] := by unfold LookTo; rw [if_pos h, if_neg h2]; exact ⟨rfl, rfl, rfl, rfl⟩
theorem lookTo_ring {D : List Df} (h : (ckP D).2.2 = 0) (h2 : (lkD D D 0).1 = 0) {i : Nat} {d : Df} (hd : D[i]? = some d) (hl : Lead (usD D) i i) (hm : ∀ j, j < i → ¬ Lead (usD D) j j) : LookTo D 82 d.a [] [] := by
  unfold LookTo; rw [if_pos h, if_pos h2]; exact .inl ⟨i, d, hd, hl, hm, rfl, rfl, rfl, rfl⟩
theorem lookTo_deep {D : List Df} (h : (ckP D).2.2 = 0) (h2 : (lkD D D 0).1 = 0) (hA : Acy (usD D)) {o : List Nat} {ds : List Int} (hO : Ordr (usD D) o) (hl : o.length = D.length) (hds : DepR D ds) {i : Nat} {d : Df} (hd : D[i]? = some d) (hi : 64 < ds.getD i 0) (hm : ∀ j, j < i → ds.getD j 0 ≤ 64) : LookTo D 83 d.a [] [] := by
  unfold LookTo; rw [if_pos h, if_pos h2]; exact .inr ⟨hA, o, ds, hO, hl, hds, .inl ⟨i, d, hd, hi, hm, rfl, rfl, rfl, rfl⟩⟩
theorem lookTo_ok {D : List Df} (h : (ckP D).2.2 = 0) (h2 : (lkD D D 0).1 = 0) (hA : Acy (usD D)) {o : List Nat} {ds : List Int} (hO : Ordr (usD D) o) (hl : o.length = D.length) (hds : DepR D ds) (hm : ∀ j, ds.getD j 0 ≤ 64) : LookTo D 0 0 o ds := by
  unfold LookTo; rw [if_pos h, if_pos h2]; exact .inr ⟨hA, o, ds, hO, hl, hds, .inr ⟨hm, rfl, rfl, rfl, rfl⟩⟩
theorem us_small {D : List Df} (hok : ∀ d ∈ D, DfOk1 d) (a : Nat) : (us (usD D) a).length ≤ 10000000000000 := by
  rcases Nat.lt_or_ge a D.length with ha | ha
  · rw [us_usD (List.getElem?_eq_getElem ha)]
    have h1 := us_fold_len D (D[a]'ha).ty []
    have h2 := (hok _ (List.getElem_mem ha)).2.1
    unfold usT
    simp at h1
    omega
  · have e : us (usD D) a = [] := by unfold us; rw [List.getD_eq_getElem?_getD, List.getElem?_eq_none (by rw [usD_len]; exact ha)]; rfl
    rw [e]; simp
theorem acy_of {D : List Df} (h : ∀ i, i < (usD D).length → ¬ Lead (usD D) i i) : Acy (usD D) := fun i hl => h i hl.lt hl
set_option maxRecDepth 100000 in
set_option maxHeartbeats 8000000 in
theorem look_any (a : Option Addr) (c : Nat) (D : List Df) (w : World) (hW : Hid (Wt D)) (r : Hid (DRow w a D)) :
    Calls Try.prog 11 #[.agg #[.slice a D.length c]] w fun e w' => ∃ E A vo vd, e = .returned (.tuple #[.agg #[vo, vd], .agg #[.int .i64 E, .int .i64 A]]) ∧ Hid (LookM D w.heap.size w' E A vo vd) ∧ Hid (Below w.heap.size w w') := by
  obtain ⟨w1, hw1⟩ : ∃ w1, w1 = ((w.alloc (.cells #[.slice a D.length c] 24)).alloc (.cells #[.slice none 0 0, .slice none 0 0] 45)).alloc (.cells #[.int .i64 0, .int .i64 0] 28) := ⟨_, rfl⟩
  have HB1 : Hid (Below w.heap.size w w1) := by rw [hw1]; exact (((Below.refl _ _).alloc (Nat.le_refl _) _).alloc (by simp) _).alloc (by simp; omega) _
  have K1 : Hid (Blk w1 w.heap.size 24 [.slice a D.length c]) := by rw [hw1]; exact ((Blk.newA w #[.slice a D.length c] 24).alloc _).alloc _
  have K2 : Hid (Blk w1 (w.heap.size + 1) 45 [.slice none 0 0, .slice none 0 0]) := hide_ (by
    have h := (Blk.newA (w.alloc (.cells #[.slice a D.length c] 24)) #[.slice none 0 0, .slice none 0 0] 45).alloc (.cells #[.int .i64 0, .int .i64 0] 28)
    rw [← hw1, World.size_alloc] at h
    exact h)
  have K3 : Hid (Blk w1 (w.heap.size + 1 + 1) 28 [.int .i64 0, .int .i64 0]) := hide_ (by
    have h := Blk.newA ((w.alloc (.cells #[.slice a D.length c] 24)).alloc (.cells #[.slice none 0 0, .slice none 0 0] 45)) #[.int .i64 0, .int .i64 0] 28
    rw [← hw1, World.size_alloc, World.size_alloc] at h
    exact h)
  have e1 : ((w.alloc (.cells #[.slice a D.length c] 24)).alloc (.cells #[.slice none 0 0, .slice none 0 0] 45)).alloc (.cells #[.int .i64 0, .int .i64 0] 28) = w1 := hw1.symm
  clear hw1
  have HC := hide_ (check_any a c D w1 (hide_ (Wt.lens hW.out)) (hide_ (r.out.later HB1.out)))
  go_enter Try.func11, Try.ntmps11
  go_upto_region 1 with fail
  clear e1
  have c1 := K1.out.cell 0
  simp at c1
  go_upto_region 2 with (go_at_call 16; refine HC.out.mono ?_; rintro e w2 ⟨rfl, hB2⟩)
  clear c1 HC
  have HB2 := hide_ (below_to HB1.out hB2)
  have K1b := hide_ (K1.out.later hB2)
  have K2b := hide_ (K2.out.later hB2)
  have K3b := hide_ (K3.out.later hB2)
  clear hB2 HB1 K1 K2 K3
  have f0 := bldF0; have g0 := bldK0; have ge := bldFe
  by_cases hck : (ckP D).2.2 = 0
  · have he : ((ckP D).2.2 != 0) = false := by simp [hck]
    obtain ⟨hD, hok⟩ := df_ok hck hW.out
    have HOK := hide_ hok
    have HCK := hide_ hck
    have hnm : Hid (∀ d ∈ D, d.name.size ≤ 32) := hide_ (fun d hd => (hok d hd).1)
    clear hok hck
    have HC2 := hide_ (numbered_any a c D w2 hD hnm (hide_ (r.out.later HB2.out)))
    have c1 := K1b.out.cell 0
    simp at c1
    go_upto_region 5 with (go_at_call 17; refine HC2.out.mono ?_; rintro e w3 ⟨bn, rfl, hbn, HM, HB3⟩)
    clear c1 HC2 he
    have HB3' := hide_ (below_to HB2.out HB3.out)
    have K1c := hide_ (K1b.out.later HB3.out)
    have K2c := hide_ (K2b.out.later HB3.out)
    have K3c := hide_ (K3b.out.later HB3.out)
    have hbnw : w.heap.size < bn := by have := K1b.out.lt; omega
    clear HB2 HB3 K1b K2b K3b hnm
    obtain ⟨R, hR⟩ : ∃ R, lkD D D 0 = R := ⟨_, rfl⟩
    have HC3 := names1_any a c D bn w3 hD HOK (hide_ (r.out.later HB3'.out)) HM
    rw [hR] at HC3
    have HC3 := hide_ HC3
    have HR := hide_ hR
    clear hR
    obtain ⟨R1, R2⟩ := R
    dsimp only at HC3
    have c1 := K1c.out.cell 0
    simp at c1
    go_upto_region 6 with (go_at_call 18; refine HC3.out.mono ?_; rintro e w4 ⟨rfl, HB4⟩)
    clear c1 HC3
    have k8 := Blk.newA w4 #[.int .i64 R1, .int .i64 R2] 28
    have hB5 : Below w4.heap.size w4 (w4.alloc (.cells #[.int .i64 R1, .int .i64 R2] 28)) := (Below.refl _ _).alloc (Nat.le_refl _) _
    obtain ⟨w5, hw5⟩ : ∃ w5, w5 = w4.alloc (.cells #[.int .i64 R1, .int .i64 R2] 28) := ⟨_, rfl⟩
    rw [← hw5] at k8 hB5 ⊢
    clear hw5
    have hB35 := below_to HB4.out hB5
    have HB5 := hide_ (below_to HB3'.out hB35)
    have K1d := hide_ (K1c.out.later hB35)
    have K2d := hide_ (K2c.out.later hB35)
    have K3d := hide_ (K3c.out.later hB35)
    have HM5 := hide_ (HM.out.later hB35)
    have l0 := k8.cell 0; have l1 := k8.cell 1
    simp at l0 l1
    have hw4 : w.heap.size + 1 + 1 < w4.heap.size := Nat.lt_of_lt_of_le K3c.out.lt HB4.out.size
    clear k8 hB5 hB35 HB3' HB4 K1c K2c K3c HM
    by_cases hR1 : R1 = 0
    · have hne : (R1 != 0) = false := by simp [hR1]
      have HR1 : Hid ((lkD D D 0).1 = 0) := hide_ (by rw [HR.out]; exact hR1)
      clear hR1 HR
      have HC4 := hide_ (uses_any a c D bn w5 hD HOK (hide_ (r.out.later HB5.out)) HM5)
      have c1 := K1d.out.cell 0
      simp at c1
      go_upto_region 9 with (go_at_call 19; refine HC4.out.mono ?_; rintro e w6 ⟨gU, vs, rfl, hgU, HU, HB6⟩)
      clear c1 l0 l1 hne HC4
      have HB6' := hide_ (below_to HB5.out HB6.out)
      have K1e := hide_ (K1d.out.later HB6.out)
      have K2e := hide_ (K2d.out.later HB6.out)
      have K3e := hide_ (K3d.out.later HB6.out)
      have HM6 := hide_ (HM5.out.later HB6.out)
      have HUL : Hid ((usD D).length = D.length) := hide_ (usD_len D)
      have HSM : Hid (∀ a, (us (usD D) a).length ≤ 10000000000000) := hide_ (us_small HOK.out)
      have HRg : Hid (Rng (usD D)) := hide_ (usD_rng D)
      have HC5 := ring_any gU w5.heap.size vs (usD D) w6 (by rw [HUL.out]; exact hD) HRg HSM HU
      rw [HUL.out] at HC5
      have HC5 := hide_ HC5
      clear HB5 HB6 K1d K2d K3d HM5
      go_upto_region 10 with (go_at_call 20; refine HC5.out.mono ?_; rintro e w7 ⟨rr, rfl, HRR, HB7⟩)
      clear HC5
      have HB7' := hide_ (below_to HB6'.out HB7.out)
      have K1f := hide_ (K1e.out.later HB7.out)
      have K2f := hide_ (K2e.out.later HB7.out)
      have K3f := hide_ (K3e.out.later HB7.out)
      have HM7 := hide_ (HM6.out.later HB7.out)
      have HU7 := hide_ (HU.out.later HB7.out)
      clear HB6' HB7 K1e K2e K3e HM6 HU
      have c0 := K2f.out.cell 0; have c1 := K2f.out.cell 1; have d0 := K3f.out.cell 0; have d1 := K3f.out.cell 1; have s1 := K1f.out.cell 0
      have x0 := K2f.out.frozen 0; have x1 := K2f.out.frozen 1; have y0 := K3f.out.frozen 0; have y1 := K3f.out.frozen 1
      simp at c0 c1 d0 d1 s1
      rcases HRR.out with ⟨rfl, hNo⟩ | ⟨i, rfl, hi, hLd, hLs⟩
      · have hAc := acy_of hNo
        have HAc := hide_ hAc
        clear hNo hAc HRR c0 c1 d0 d1 s1 x0 x1 y0 y1
        have HC6 := ordered_any gU w5.heap.size vs (usD D) w7 (by rw [HUL.out]; exact hD) HRg HAc HSM HU7
        rw [HUL.out] at HC6
        have HC6 := hide_ HC6
        go_upto_region 13 with (go_at_call 21; refine HC6.out.mono ?_; rintro e w8 ⟨go, co, yo, o, rfl, hgo, HO, HOl, HSo, HB8⟩)
        clear HC6
        have HB8' := hide_ (below_to HB7'.out HB8.out)
        have K1g := hide_ (K1f.out.later HB8.out)
        have K2g := hide_ (K2f.out.later HB8.out)
        have K3g := hide_ (K3f.out.later HB8.out)
        have HM8 := hide_ (HM7.out.later HB8.out)
        have hgo' : w.heap.size ≤ go := Nat.le_trans HB7'.out.size hgo
        clear HB7' HB8 K1f K2f K3f HM7 HU7
        have HC7 := hide_ (depths_any a c D bn go co yo o w8 hD HOK (hide_ (r.out.later HB8'.out)) HM8 HO HOl HSo)
        have s1 := K1g.out.cell 0
        simp at s1
        go_upto_region 14 with (go_at_call 22; refine HC7.out.mono ?_; rintro e w9 ⟨gd, ds, rfl, hgd, HKd, HDep, HIn, HB9⟩)
        clear HC7 s1
        have HB9' := hide_ (below_to HB8'.out HB9.out)
        have K1h := hide_ (K1g.out.later HB9.out)
        have K2h := hide_ (K2g.out.later HB9.out)
        have K3h := hide_ (K3g.out.later HB9.out)
        have HSo9 := hide_ (HSo.out.later HB9.out)
        have hgd' : w.heap.size ≤ gd := Nat.le_trans HB8'.out.size hgd
        have hgne : go ≠ gd := by have := HSo.out.1.lt; omega
        have HDl : Hid (ds.length = D.length) := hide_ HDep.out.1
        clear HB8' HB9 K1g K2g K3g HM8 HSo
        go_wp2_with fail
        go_loop [58] (fun x58 => ∃ i : Nat, i ≤ D.length ∧ x58 = .int .i64 (i : Int) ∧ Hid (∀ j, j < i → ds.getD j 0 ≤ 64)) (fun x58 => D.length - (intOf x58).toNat)
        case atStart => exact ⟨0, Nat.zero_le _, rfl, hide_ (fun j h => by omega)⟩
        case round =>
          obtain ⟨i, hi, rfl, HN⟩ := hrel
          have c0 := K2h.out.cell 0; have c1 := K2h.out.cell 1; have d0 := K3h.out.cell 0; have d1 := K3h.out.cell 1; have s1 := K1h.out.cell 0
          have x0 := K2h.out.frozen 0; have x1 := K2h.out.frozen 1; have y0 := K3h.out.frozen 0; have y1 := K3h.out.frozen 1
          simp at c0 c1 d0 d1 s1
          by_cases hlt : i < D.length
          · have hlt' : (i : Int) < D.length := by omega
            have cd := (HKd.out.cell i).trans (cellsL_at .i64 ds i (by rw [HDl.out]; exact hlt))
            obtain ⟨v, hv⟩ : ∃ v, ds.getD i 0 = v := ⟨_, rfl⟩
            rw [hv] at cd
            have HV := hide_ hv
            clear hv
            by_cases h64 : 64 < v
            · obtain ⟨d, hd⟩ : ∃ d, D[i]? = some d := ⟨_, List.getElem?_eq_getElem hlt⟩
              obtain ⟨b, off, rfl, hb, hcl⟩ := r.out.open (by omega)
              obtain ⟨va, vc, hcx, -⟩ := hcl i d hd
              have h1 := (HB9'.out.cell (p := ⟨b, off + i * 3 + 1, none⟩) hb).trans (hcx 1 (by decide))
              simp [dfc] at h1
              have HL := hide_ (lookTo_deep HCK.out HR1.out HAc.out HO.out HOl.out HDep.out hd (by rw [HV.out]; exact h64) HN.out)
              obtain ⟨q2, q3⟩ := wr22 K2h.out K3h.out (.slice none 0 0) (.slice none 0 0) (.int .i64 83) (.int .i64 d.a)
              have hbf := bldF 83 d.a
              clear hcl hcx hd
              go_wp2_with fail
              go_region
              go_wp2
              exact retL rfl rfl q2 q3 ⟨83, d.a, _, _, rfl, hide_ (LookM.nil HL.out), hide_ (below_set4 HB9'.out _ _ _ _ _ _ (by omega) (by omega)).drew⟩
            · go_wp2_with fail
              go_round
              case rel => exact ⟨i + 1, by omega, by go_num, hide_ (fun j hj => by
                rcases Nat.lt_or_ge j i with h | h
                · exact HN.out j h
                · obtain rfl : j = i := by omega
                  rw [HV.out]; omega)⟩
              case measure => simp [intOf]; omega
          · obtain rfl : i = D.length := by omega
            have HL := hide_ (lookTo_ok HCK.out HR1.out HAc.out HO.out HOl.out HDep.out (fun j => by
              rcases Nat.lt_or_ge j D.length with h | h
              · exact HN.out j h
              · rw [List.getD_eq_getElem?_getD, List.getElem?_eq_none (by rw [HDl.out]; exact h)]; simp))
            have hbk := bldK (some ⟨go, 0, none⟩) (some ⟨gd, 0, none⟩) o.length D.length co D.length
            obtain ⟨q2, q3⟩ := wr22 K2h.out K3h.out (.slice (some ⟨go, 0, none⟩) o.length co) (.slice (some ⟨gd, 0, none⟩) D.length D.length) (.int .i64 0) (.int .i64 0)
            have HOw : Hid (∀ w', Upd (fun k => k = w.heap.size + 1 ∨ k = w.heap.size + 1 + 1) w9 w' → LookM D w.heap.size w' 0 0 (.slice (some ⟨go, 0, none⟩) o.length co) (.slice (some ⟨gd, 0, none⟩) D.length D.length)) := hide_ (fun w' hu => by
              have ho := HSo9.out.1.owns w.heap.size o.length co hgo' HSo9.out.2.1 (by have := HSo9.out.2.2.1; rwa [natI_len] at this) HSo9.out.2.2.2.1
              have ht := HSo9.out.2.2.2.2
              rw [natI_len] at ht
              rw [ht] at ho
              have hd := HKd.out.owns w.heap.size ds.length ds.length hgd' (cellsL_length _ _) (Nat.le_refl _) (by rw [HDl.out]; unfold maxLen; omega)
              rw [List.take_of_length_le (by rw [cellsL_length]; exact Nat.le_refl _)] at hd
              have e2 : (Value.slice (some ⟨gd, 0, none⟩) D.length D.length) = .slice (some ⟨gd, 0, none⟩) ds.length ds.length := by rw [HDl.out]
              have key : ∀ g ts, Blk w9 g 3 ts → ∀ k, g = k → ¬ (k = w.heap.size + 1 ∨ k = w.heap.size + 1 + 1) := fun g ts hb k hk e => by
                subst hk
                rcases e with e | e
                · exact absurd (blk_type hb (e ▸ K2h.out)) (by decide)
                · exact absurd (blk_type hb (e ▸ K3h.out)) (by decide)
              have ho2 := ownS_upd ho hu (fun k hk => key go _ HSo9.out.1 k (own_is hk))
              have hd2 := ownS_upd hd hu (fun k hk => key gd _ HKd.out k (own_is hk))
              refine ⟨o, ds, HL.out, ho2, by rw [e2]; exact hd2, fun k hk hk2 => ?_, ⟨_, _, _, rfl⟩, ⟨_, _, _, rfl⟩⟩
              have h1 := own_is hk
              have h2 := own_is hk2
              omega)
            go_wp2
            exact retL rfl rfl q2 q3 ⟨0, 0, _, _, rfl, hide_ (HOw.out _ (((((Upd.refl _ w9).set ⟨w.heap.size + 1, 0, none⟩ _ (.inl (.inl rfl))).set ⟨w.heap.size + 1, 1, none⟩ _ (.inl (.inl rfl))).set ⟨w.heap.size + 1 + 1, 0, none⟩ _ (.inl (.inr rfl))).set ⟨w.heap.size + 1 + 1, 1, none⟩ _ (.inl (.inr rfl)))), hide_ (below_set4 HB9'.out _ _ _ _ _ _ (by omega) (by omega))⟩
      · rw [HUL.out] at hi
        have hi' : (i : Int) < D.length := by omega
        obtain ⟨d, hd⟩ : ∃ d, D[i]? = some d := ⟨_, List.getElem?_eq_getElem hi⟩
        obtain ⟨b, off, rfl, hb, hcl⟩ := r.out.open (by omega)
        obtain ⟨va, vc, hcx, -⟩ := hcl i d hd
        have h1 := (HB7'.out.cell (p := ⟨b, off + i * 3 + 1, none⟩) hb).trans (hcx 1 (by decide))
        simp [dfc] at h1
        have HL := hide_ (lookTo_ring HCK.out HR1.out hd hLd hLs)
        obtain ⟨q2, q3⟩ := wr22 K2f.out K3f.out (.slice none 0 0) (.slice none 0 0) (.int .i64 82) (.int .i64 d.a)
        have hbf := bldF 82 d.a
        have h0i : (0 : Int) ≤ (i : Int) := by omega
        clear hcl hcx hd hLd hLs
        go_wp2_with fail
        go_region
        go_wp2
        exact retL rfl rfl q2 q3 ⟨82, d.a, _, _, rfl, hide_ (LookM.nil HL.out), hide_ (below_set4 HB7'.out _ _ _ _ _ _ (by omega) (by omega)).drew⟩
    · have hne : (R1 != 0) = true := by simpa using hR1
      have c0 := K2d.out.cell 0; have c1 := K2d.out.cell 1; have d0 := K3d.out.cell 0; have d1 := K3d.out.cell 1
      have x0 := K2d.out.frozen 0; have x1 := K2d.out.frozen 1; have y0 := K3d.out.frozen 0; have y1 := K3d.out.frozen 1
      simp at c0 c1 d0 d1
      obtain ⟨q2, q3⟩ := wr22 K2d.out K3d.out (.slice none 0 0) (.slice none 0 0) (.int .i64 R1) (.int .i64 R2)
      have HL := lookTo_names HCK.out (by rw [HR.out]; exact hR1)
      rw [HR.out] at HL
      have HL := hide_ HL
      go_wp2_with fail
      go_region
      go_wp2
      exact retL rfl rfl q2 q3 ⟨R1, R2, _, _, rfl, hide_ (LookM.nil HL.out), hide_ (below_set4 HB5.out _ _ _ _ _ _ (by omega) (by omega)).drew⟩
  · have he : ((ckP D).2.2 != 0) = true := by simpa using hck
    have c0 := K2b.out.cell 0; have c1 := K2b.out.cell 1; have d0 := K3b.out.cell 0; have d1 := K3b.out.cell 1
    have x0 := K2b.out.frozen 0; have x1 := K2b.out.frozen 1; have y0 := K3b.out.frozen 0; have y1 := K3b.out.frozen 1
    simp at c0 c1 d0 d1
    obtain ⟨q2, q3⟩ := wr22 K2b.out K3b.out (.slice none 0 0) (.slice none 0 0) (.int .i64 62) (.int .i64 0)
    have HL := hide_ (lookTo_src hck)
    go_wp2
    exact retL rfl rfl q2 q3 ⟨62, 0, _, _, rfl, hide_ (LookM.nil HL.out), hide_ (below_set4 HB2.out _ _ _ _ _ _ (by omega) (by omega))⟩
end Go.Proofs.Ytjeafblkmipdmaa
