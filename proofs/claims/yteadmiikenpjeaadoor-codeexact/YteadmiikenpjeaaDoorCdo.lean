/- Code: Decode. -/
import Derived.Test.YteadmiikenpjeaaDoorCdn
namespace Go.Proofs.YteadmiikenpjeaaDoor
open Go.RowKit
set_option linter.unusedVariables false

theorem results_cells_row {P : Program} {fn : Func} {p q : Tmp} {ty ty' : TypeId} (h : fn.results = #[.cell p ty, .cell q ty']) (tmps : Array Value) (w : World) (g g' : Nat) (t t' : TypeId) (cs cs' : Array Value) (fr fr' : Nat × Nat) (d d' : TypeDesc)
    (hp : tmps.getD p undef = .pointer (some ⟨g, 0, none⟩)) (hg : w.heap[g]? = some (.cells cs t fr))
    (hu : P.underlying ty = some d) (hd : (match d with | .struct _ | .array _ _ => true | _ => false) = true) (hi : (P.info? ty).map (·.size) = some cs.size)
    (hp2 : tmps.getD q undef = .pointer (some ⟨g', 0, none⟩)) (hg2 : w.heap[g']? = some (.cells cs' t' fr'))
    (hu2 : P.underlying ty' = some d') (hd2 : (match d' with | .struct _ | .array _ _ => true | _ => false) = true) (hi2 : (P.info? ty').map (·.size) = some cs'.size) :
    (results fn tmps).run P w = .ok (.tuple #[.agg cs, .agg cs']) w := by
  have hp' : tmps[p]?.getD undef = .pointer (some ⟨g, 0, none⟩) := by simpa using hp
  have hp2' : tmps[q]?.getD undef = .pointer (some ⟨g', 0, none⟩) := by simpa using hp2
  simp only [results, h]
  simp [hp', hp2', asAddr, Result.andThen, run_loadVar_row w g t ty cs fr d hg hu hd hi, run_loadVar_row w g' t' ty' cs' fr' d' hg2 hu2 hd2 hi2]
theorem retPF {fn : Func} {p q : Tmp} (h : fn.results = #[.cell p 25, .cell q 33]) {R : Ending → World → Prop} {tmps : Array Value} {g g' : Nat} {w : World} {x y z u v : Value} (hp : tmps.getD p undef = .pointer (some ⟨g, 0, none⟩)) (hp2 : tmps.getD q undef = .pointer (some ⟨g', 0, none⟩)) (hK : Blk w g 25 [x, y, z]) (hK2 : Blk w g' 33 [u, v]) (hR : R (.returned (.tuple #[.agg #[x, y, z], .agg #[u, v]])) w) :
    bodyPost Tryd.prog fn R Exit.ret ⟨tmps, []⟩ w :=
  bodyPost_ret (results_cells_row h _ _ _ _ _ _ #[x, y, z] #[u, v] _ _ _ _ hp (show w.heap[g]? = some (.cells #[x, y, z] 25 (0, 0)) from hK) Tryd.underlying25 rfl (by show _ = some 3; kernel_rfl) hp2 (show w.heap[g']? = some (.cells #[u, v] 33 (0, 0)) from hK2) Tryd.underlying33 rfl (by show _ = some 2; kernel_rfl)) rfl hR
/-- Both results written, in either order. -/
structure SetR (w w' : World) (g g' : Nat) (x y z u v : Value) : Prop where
  p : Blk w' g 25 [x, y, z]
  f : Blk w' g' 33 [u, v]
  up : Upd (fun k => k = g ∨ k = g') w w'
theorem setAB {w : World} {g g' : Nat} {a b c d e : Value} (hP : Blk w g 25 [a, b, c]) (hF : Blk w g' 33 [d, e]) (x y z u v : Value) :
    SetR w (((((w.setCell ⟨g, 0, none⟩ x).setCell ⟨g, 1, none⟩ y).setCell ⟨g, 2, none⟩ z).setCell ⟨g', 0, none⟩ u).setCell ⟨g', 1, none⟩ v) g g' x y z u v := by
  have hne : g ≠ g' := blk_ne hP hF (by decide)
  refine ⟨?_, ?_, (((((Upd.refl _ w).set _ _ (.inl (.inl rfl))).set _ _ (.inl (.inl rfl))).set _ _ (.inl (.inl rfl))).set _ _ (.inl (.inr rfl))).set _ _ (.inl (.inr rfl))⟩
  · have := (((((hP.set 0 x).set 1 y).set 2 z).other ⟨g', 0, none⟩ u hne).other ⟨g', 1, none⟩ v hne)
    simpa using this
  · have := ((((hF.other ⟨g, 0, none⟩ x hne.symm).other ⟨g, 1, none⟩ y hne.symm).other ⟨g, 2, none⟩ z hne.symm).set 0 u).set 1 v
    simpa using this
theorem setBA {w : World} {g g' : Nat} {a b c d e : Value} (hP : Blk w g 25 [a, b, c]) (hF : Blk w g' 33 [d, e]) (x y z u v : Value) :
    SetR w (((((w.setCell ⟨g', 0, none⟩ u).setCell ⟨g', 1, none⟩ v).setCell ⟨g, 0, none⟩ x).setCell ⟨g, 1, none⟩ y).setCell ⟨g, 2, none⟩ z) g g' x y z u v := by
  have hne : g ≠ g' := blk_ne hP hF (by decide)
  refine ⟨?_, ?_, (((((Upd.refl _ w).set _ _ (.inl (.inr rfl))).set _ _ (.inl (.inr rfl))).set _ _ (.inl (.inl rfl))).set _ _ (.inl (.inl rfl))).set _ _ (.inl (.inl rfl))⟩
  · have := (((((hP.other ⟨g', 0, none⟩ u hne).other ⟨g', 1, none⟩ v hne).set 0 x).set 1 y).set 2 z)
    simpa using this
  · have := (((((hF.set 0 u).set 1 v).other ⟨g, 0, none⟩ x hne.symm).other ⟨g, 1, none⟩ y hne.symm).other ⟨g, 2, none⟩ z hne.symm)
    simpa using this
theorem SetR.drew {w w' : World} {g g' : Nat} {x y z u v : Value} (h : SetR w w' g g' x y z u v) : SetR w w'.drew g g' x y z u v := ⟨h.p.drew, h.f.drew, h.up.drew⟩
theorem rdM_len {α : Type} (f : Rs → α × Rs) : ∀ (n : Nat) (s : Rs), (rdM f n s).1.length = (rdM f n s).2.1.length ∧ (rdM f n s).1.length ≤ n
  | 0, s => ⟨rfl, Nat.le_refl _⟩
  | n + 1, s => by
    rw [rdM]
    split
    · have := rdM_len f n (f s).2
      simp
      omega
    · simp
theorem pgm_len (l : List Int) (hb : Bys l) : (pgm l).ea.length = (pgm l).E.length ∧ (pgm l).E.length ≤ 1048576 ∧ (pgm l).ca.length = (pgm l).C.length ∧ (pgm l).C.length ≤ 1048576 := by
  unfold pgm
  simp only
  generalize rdO l ⟨0, 0, 0⟩ 109 109 = o1
  generalize rdO l o1.2 0 1 = o2
  have h1 := rdV_rng l o2.2 4 mayC 1048576 (by omega) (fun n => mayC_rng) hb
  generalize rdV l o2.2 4 mayC = n at *
  have h2 := rdM_len (rdN l) n.1.toNat n.2
  generalize rdM (rdN l) n.1.toNat n.2 = es at *
  have h3 := rdV_rng l es.2.2 4 mayC 1048576 (by omega) (fun n => mayC_rng) hb
  generalize rdV l es.2.2 4 mayC = m at *
  have h4 := rdM_len (rdI l (o2.1 == 1)) m.1.toNat m.2
  refine ⟨h2.1, by omega, h4.1, by omega⟩
theorem chk_place_lt {enc : Bool} {C : List In} {E : List Int} (h : (chk enc C E).1 = 140) : ∃ i : Nat, (chk enc C E).2 = i ∧ i < C.length := by
  unfold chk at h ⊢
  split at h
  · cases h
  · rename_i hl
    rw [if_neg hl]
    cases e1 : fst0 (frm enc C E.length) C.length with
    | some i => exact ⟨i, rfl, (fst0_is e1).1⟩
    | none =>
      rw [e1] at h
      cases e2 : fst0 (entOk C.length E) E.length with
      | some i => rw [e2] at h; cases h
      | none => rw [e2] at h; cases h
theorem chk_place_lt3 {enc : Bool} {C : List In} {E : List Int} (hC : C.length ≤ 1048576) (hE : E.length ≤ 1048576) (h : (chk enc C E).1 ≠ 140) (h0 : (chk enc C E).1 ≠ 0) : (chk enc C E).1 = 3 ∧ ∃ i : Nat, (chk enc C E).2 = i ∧ i < E.length := by
  unfold chk at h h0 ⊢
  rw [if_neg (by omega)] at h h0 ⊢
  cases e1 : fst0 (frm enc C E.length) C.length with
  | some i => rw [e1] at h; exact absurd rfl h
  | none =>
    rw [e1] at h h0
    cases e2 : fst0 (entOk C.length E) E.length with
    | some i => exact ⟨rfl, i, rfl, (fst0_is e2).1⟩
    | none => rw [e2] at h0; exact absurd rfl h0
theorem COwn.cap {w : World} {B : Nat} {a : Option Addr} {n c : Nat} {l : List In} (h : w.ownsRow B 41 4 (.slice a n c) l.length (cellsG inc l)) : c ≤ maxLen := by
  rcases h.2 with ⟨h1, _⟩ | ⟨g, cap, cur, e, hb, hg, hn, hm, _⟩
  · injection h1 with _ _ h1; subst h1; exact Nat.zero_le _
  · injection e with _ _ e; subst e; exact hm
/-- The answer, out of what lies in memory. -/
theorem dec_fin {w wz W : World} {g2 g3 : Nat} {vX vN : Value} {X : List In} {N : List Int} {e a : Int} {b : Bool} (hB : Below w.heap.size w wz) (h2 : w.heap.size ≤ g2) (h3 : w.heap.size ≤ g3) (hs : SetR wz W g2 g3 (.bool b) vX vN (.int .i64 e) (.int .i64 a)) {x y z u v : Value} (k2 : Blk wz g2 25 [x, y, z]) (k3 : Blk wz g3 33 [u, v]) (hX : COwn wz w.heap.size vX X) (hN : IOwn wz w.heap.size vN N) :
    Hid (COwn W w.heap.size vX X) ∧ Hid (IOwn W w.heap.size vN N) ∧ Below w.heap.size w W := by
  refine ⟨ownS_upd hX hs.up (fun k e hk => ?_), hN.upd hs.up (fun k e hk => ?_), hB.trans (hs.up.below _ hB.size (fun k hk => by omega))⟩
  · rcases hk with rfl | rfl
    · exact notC hX k2 (by decide) e
    · exact notC hX k3 (by decide) e
  · rcases hk with rfl | rfl
    · exact notI hN k2 (by decide) e
    · exact notI hN k3 (by decide) e
theorem dec_ret {w wz W : World} {tmps : Array Value} {g2 g3 : Nat} {vX vN : Value} {X XX : List In} {N NN : List Int} {e a : Int} {b B : Bool} {D : Int × Int} {p q : Tmp} (hfn : Tryd.f9.results = #[.cell p 25, .cell q 33]) (hp : tmps.getD p undef = .pointer (some ⟨g2, 0, none⟩)) (hp2 : tmps.getD q undef = .pointer (some ⟨g3, 0, none⟩)) (hs : SetR wz W g2 g3 (.bool b) vX vN (.int .i64 e) (.int .i64 a)) (hB : Below w.heap.size w wz) (h2 : w.heap.size ≤ g2) (h3 : w.heap.size ≤ g3) {x y z u v : Value} (k2 : Blk wz g2 25 [x, y, z]) (k3 : Blk wz g3 33 [u, v]) (hX : COwn wz w.heap.size vX X) (hN : IOwn wz w.heap.size vN N) (eb : b = B) (eX : X = XX) (eN : N = NN) (eD : (e, a) = D) :
    bodyPost Tryd.prog Tryd.f9 (fun e w' => ∃ vX vN, e = .returned (.tuple #[.agg #[.bool B, vX, vN], .agg #[.int .i64 D.1, .int .i64 D.2]]) ∧ Hid (COwn w' w.heap.size vX XX) ∧ Hid (IOwn w' w.heap.size vN NN) ∧ Below w.heap.size w w') Exit.ret ⟨tmps, []⟩ W := by
  subst eb eX eN eD
  refine retPF hfn hp hp2 hs.p hs.f ?_
  obtain ⟨i1, i2, i3⟩ := dec_fin hB h2 h3 hs k2 k3 hX hN
  exact ⟨vX, vN, rfl, i1, i2, i3⟩
set_option maxRecDepth 100000 in
set_option maxHeartbeats 8000000 in
theorem decode_any (av : Option Addr) (cv : Nat) (l : List Int) (w : World) (hlc : l.length ≤ cv) (hcv : l.length ≤ 9223372036854775000) (hnil : av = none → cv = 0) (hby : Hid (Bys l)) (hrow : Hid (Row .u8 w av l)) (hlt : Hid (∀ x, av = some x → 0 < l.length → x.block < w.heap.size)) :
    Calls Tryd.prog 9 #[.slice av l.length cv] w fun e w' => ∃ vX vN, e = .returned (.tuple #[.agg #[.bool (decE l), vX, vN], .agg #[.int .i64 (decF l).1, .int .i64 (decF l).2]]) ∧ Hid (COwn w' w.heap.size vX (decC l)) ∧ Hid (IOwn w' w.heap.size vN (decN l)) ∧ Below w.heap.size w w' := by
  obtain ⟨w1, hw1⟩ : ∃ wx, wx = ((w.alloc (.cells #[.bool false, .slice none 0 0, .slice none 0 0] 25)).alloc (.cells #[.int .i64 0, .int .i64 0] 33)).alloc (.cells #[.slice av l.length cv, .int .i64 0, .int .i64 0, .int .i64 0, .slice none 0 0, .slice none 0 0] 63) := ⟨_, rfl⟩
  have hB1 : Below w.heap.size w w1 := by rw [hw1]; exact below3 _ _ _ _
  obtain ⟨kp, kf, kr⟩ := blk3 w #[.bool false, .slice none 0 0, .slice none 0 0] #[.int .i64 0, .int .i64 0] #[.slice av l.length cv, .int .i64 0, .int .i64 0, .int .i64 0, .slice none 0 0, .slice none 0 0] 25 33 63
  rw [← hw1] at kp kf kr
  have KP := hide_ kp
  have KF := hide_ kf
  have HB1 := hide_ hB1
  have kr' : Blk w1 (w.heap.size + 1 + 1) 63 (rdc (.slice av l.length cv) ⟨0, 0, 0⟩ (.slice none 0 0) (.slice none 0 0)) := kr
  have HPr := hide_ (program_any (w.heap.size + 1 + 1) av cv l w1 hlc hcv hnil hby (hide_ (hrow.out.later hB1)) (hide_ (fun x hx h0 e => by have := hlt.out x hx h0; omega)) (hide_ kr'))
  have hpl := pgm_len l hby.out
  have HDF : Hid (decF l = _) := hide_ rfl
  have HGs : Hid (w.heap.size ≤ w.heap.size + 1) := hide_ (by omega)
  have hde : decE l = if (decF l).1 = 0 then (pgm l).enc else false := rfl
  have hdc : decC l = if (decF l).1 = 0 then (pgm l).C else [] := rfl
  have hdn : decN l = if (decF l).1 = 0 then (pgm l).E else [] := rfl
  obtain ⟨D, hD⟩ : ∃ D, D = decF l := ⟨_, rfl⟩
  rw [← hD] at hde hdc hdn ⊢
  unfold decF at hD
  rw [hde, hdc, hdn]
  generalize pgm l = P at *
  have HD := hide_ hD
  clear hB1 kp kf kr kr' HDF hde hdc hdn hD
  obtain ⟨enc, ea, E, ca, C, s⟩ := P
  simp only at HPr HD hpl
  obtain ⟨dB, hdB⟩ : ∃ x, (if D.1 = 0 then enc else false) = x := ⟨_, rfl⟩
  obtain ⟨dC, hdC⟩ : ∃ x, (if D.1 = 0 then C else []) = x := ⟨_, rfl⟩
  obtain ⟨dN, hdN⟩ : ∃ x, (if D.1 = 0 then E else []) = x := ⟨_, rfl⟩
  obtain ⟨d1, hd1⟩ : ∃ x, D.1 = x := ⟨_, rfl⟩
  obtain ⟨d2, hd2⟩ : ∃ x, D.2 = x := ⟨_, rfl⟩
  rw [hdB, hdC, hdN, hd1, hd2]
  have HdB := hide_ hdB
  have HdC := hide_ hdC
  have HdN := hide_ hdN
  have Hd1 := hide_ hd1
  have Hd2 := hide_ hd2
  clear hdB hdC hdN hd1 hd2
  go_enter Tryd.func9, Tryd.ntmps9
  go_upto_region 2 with fail
  rw [← hw1]
  clear hw1
  go_wp2_with fail
  refine HPr.out.mono ?_
  rintro e w2 ⟨vE, vC, vX, vN, rfl, HP2⟩
  obtain ⟨aX, cX, hvX, hcX, hnX, -⟩ := HP2.out.oX.row
  obtain ⟨aN, cN, hvN, -, -, hcN⟩ := HP2.out.oN.row
  subst hvX hvN
  obtain ⟨w3, hw3⟩ : ∃ wx, wx = w2.alloc (.cells #[.bool enc, .slice aX C.length cX, .slice aN E.length cN] 25) := ⟨_, rfl⟩
  have hB3 : Below w2.heap.size w2 w3 := by rw [hw3]; exact below1 _ _
  have K5 : Hid (Blk w3 w2.heap.size 25 [.bool enc, .slice aX C.length cX, .slice aN E.length cN]) := hide_ (by rw [hw3]; exact Blk.newA w2 _ _)
  have HP3 := hide_ (HP2.out.later hB3)
  have hz := HB1.out.size
  have hlr := HP3.out.lr
  have KP3 := hide_ (KP.out.upd HP3.out.up (fun e => by omega))
  have KF3 := hide_ (KF.out.upd HP3.out.up (fun e => by omega))
  have HB3 : Hid (Below w.heap.size w w3) := hide_ (HB1.out.trans (HP3.out.up.below _ hz (fun k e => by omega)))
  have HoX := hide_ (own_base (B' := w.heap.size) HP3.out.oX hz)
  have HoN := hide_ (own_base (B' := w.heap.size) HP3.out.oN hz)
  have HZ3 : Hid (w.heap.size + 3 ≤ w2.heap.size) := hide_ (by have h1 := HP2.out.lr; have h2 := HP2.out.up.size; have h3 := HP2.out.pr.lt; omega)
  clear hB3 HP2 HPr KP KF
  go_upto_region 3 with fail
  rw [← hw3]
  clear hw3
  have r2 := HP3.out.rd.cell 2; have r3 := HP3.out.rd.cell 3
  simp [rdc] at r2 r3
  by_cases hse : s.e = 0
  case neg =>
    have hseb : (s.e != 0) = true := by simpa using hse
    rw [if_pos hse] at HD
    have y0 := KP3.out.cell 0; have y1 := KP3.out.cell 1; have y2 := KP3.out.cell 2
    have yz := fun i => KP3.out.frozen i
    have z0 := KF3.out.cell 0; have z1 := KF3.out.cell 1
    have zz := fun i => KF3.out.frozen i
    simp at y0 y1 y2 z0 z1
    go_wp2_with fail
    go_region
    all_goals go_wp2
    all_goals
      have hs := (setAB KP3.out KF3.out (.bool false) (.slice none 0 0) (.slice none 0 0) (.int .i64 s.e) (.int .i64 s.p)).drew
      refine retPF rfl rfl rfl hs.p hs.f ?_
      obtain ⟨i1, i2, i3⟩ := dec_fin HB3.out (Nat.le_refl _) HGs.out hs KP3.out KF3.out (COwn.nil _ _) (IOwn.nil _ _)
      refine ⟨_, _, ?_, by rw [← HdC.out, HD.out, if_neg hse]; exact i1, by rw [← HdN.out, HD.out, if_neg hse]; exact i2, i3⟩
      have hD := (show _ = D from HD.out.symm)
      rw [← Hd1.out, ← Hd2.out, ← hD, ← HdB.out, HD.out, if_neg hse]
  rw [if_neg (by simpa using hse)] at HD
  have HSe := hide_ hse
  have hseb : (s.e != 0) = false := by simpa using hse
  obtain ⟨aX', cX', hvX', hcX', -, hrX⟩ := (show COwn w3 w.heap.size (.slice aX C.length cX) C from HoX.out).row
  injection hvX' with e1 e2 e3
  subst e1 e3
  obtain ⟨aN', cN', hvN', hrN, -⟩ := (show IOwn w3 w.heap.size (.slice aN E.length cN) E from HoN.out).row
  injection hvN' with e1 e2 e3
  subst e1 e3
  have hcXb : cX ≤ 9223372036854775807 := by have h5 := COwn.cap HoX.out; unfold maxLen at h5; omega
  have HCk := hide_ (check_any enc aX aN cX cN C E w3 hcX hcXb (by omega) hcN (by omega) (hide_ hrX) (hide_ hrN))
  have hlt3 := fun h h0 => chk_place_lt3 (enc := enc) (C := C) (E := E) hpl.2.2.2 hpl.2.1 h h0
  have hlt140 := fun h => chk_place_lt (enc := enc) (C := C) (E := E) h
  have hz0 := fun h => chk_zero (enc := enc) (C := C) (E := E) h
  generalize chk enc C E = ck at *
  obtain ⟨fe, fa⟩ := ck
  simp only at HCk HD hlt3 hlt140 hz0
  have k0 := K5.out.cell 0; have k1 := K5.out.cell 1; have k2 := K5.out.cell 2
  simp at k0 k1 k2
  clear hse hrX hrN e2 hcX'
  go_upto_region 5 with fail
  go_wp2_with fail
  refine HCk.out.mono ?_
  rintro e w4 ⟨rfl, hB4⟩
  obtain ⟨w5, hw5⟩ : ∃ wx, wx = w4.alloc (.cells #[.int .i64 fe, .int .i64 fa] 33) := ⟨_, rfl⟩
  have hB5 : Below w4.heap.size w4 w5 := by rw [hw5]; exact below1 _ _
  have K6 : Hid (Blk w5 w4.heap.size 33 [.int .i64 fe, .int .i64 fa]) := hide_ (by rw [hw5]; exact Blk.newA w4 _ _)
  have hB35 := below_to hB4 hB5
  have HP5 := hide_ (HP3.out.later hB35)
  have KP5 := hide_ (KP3.out.later hB35)
  have KF5 := hide_ (KF3.out.later hB35)
  have K55 := hide_ (K5.out.later hB35)
  have HB5 := hide_ (below_to HB3.out hB35)
  have HoX5 : Hid (COwn w5 w.heap.size (.slice aX C.length cX) C) := hide_ (COwn.later HoX.out hB35)
  have HoN5 : Hid (IOwn w5 w.heap.size (.slice aN E.length cN) E) := hide_ (IOwn.later HoN.out hB35)
  have HG5 : w.heap.size + 2 < w2.heap.size + 1 ∧ w2.heap.size < w4.heap.size := by have h1 := K5.out.lt; have h2 := hB4.size; have h3 := HZ3.out; omega
  clear hB4 hB5 hB35 HP3 KP3 KF3 K5 HB3 HoX HoN HCk r2 r3 k0 k1 k2
  go_upto_region 6 with fail
  rw [← hw5]
  clear hw5
  have k0 := K55.out.cell 0; have k1 := K55.out.cell 1; have k2 := K55.out.cell 2
  have f0 := K6.out.cell 0; have f1 := K6.out.cell 1
  have y0 := KP5.out.cell 0; have y1 := KP5.out.cell 1; have y2 := KP5.out.cell 2
  have yz := fun i => KP5.out.frozen i
  have z0 := KF5.out.cell 0; have z1 := KF5.out.cell 1
  have zz := fun i => KF5.out.frozen i
  have q4 := HP5.out.rd.cell 4; have q5 := HP5.out.rd.cell 5
  simp [rdc] at k0 k1 k2 f0 f1 y0 y1 y2 z0 z1 q4 q5
  have hg5 : Hid (w.heap.size + 2 < w2.heap.size + 1 ∧ w2.heap.size < w4.heap.size) := hide_ HG5
  generalize hw2s : w2.heap.size = g5 at *
  generalize hw4s : w4.heap.size = g6 at *
  have n1 : ¬ g5 = w.heap.size := by have := hg5.out; omega
  have n2 : ¬ g5 = w.heap.size + 1 := by have := hg5.out; omega
  have n3 : ¬ g6 = w.heap.size := by have := hg5.out; omega
  have n4 : ¬ g6 = w.heap.size + 1 := by have := hg5.out; omega
  by_cases hfe : fe = 0
  · rw [if_pos hfe] at HD
    have hfa : (fe, fa) = D := (hz0 hfe).trans HD.out.symm
    subst hfe
    have HDx : Hid (D.1 = 0) := hide_ (by rw [HD.out])
    go_wp2_with fail
    go_region
    all_goals go_wp2
    all_goals
      have hs := (setAB KP5.out KF5.out (.bool enc) (.slice aX C.length cX) (.slice aN E.length cN) (.int .i64 0) (.int .i64 fa)).drew
      refine retPF rfl rfl rfl hs.p hs.f ?_
      obtain ⟨i1, i2, i3⟩ := dec_fin HB5.out (Nat.le_refl _) HGs.out hs KP5.out KF5.out HoX5.out HoN5.out
      refine ⟨_, _, ?_, by rw [← HdC.out, if_pos HDx.out]; exact i1, by rw [← HdN.out, if_pos HDx.out]; exact i2, i3⟩
      have hD := (show _ = D from hfa)
      rw [← Hd1.out, ← Hd2.out, ← hD, ← HdB.out, if_pos HDx.out]
  · have hfeb : (fe == 0) = false := by simpa using hfe
    rw [if_neg hfe] at HD
    by_cases h140 : fe = 140
    · obtain ⟨i, hi, hil⟩ := hlt140 h140
      rw [if_pos h140] at HD
      subst hi
      obtain ⟨aC, cC, hvC, -, -, -, -, hgC⟩ := own_open HP5.out.oC rfl
      subst hvC
      obtain ⟨b, rfl, hbb, hb, hcs, -⟩ := hgC (by omega)
      have hc := hcs i (by omega)
      have nb1 : ¬ b = w.heap.size := by omega
      have nb2 : ¬ b = w.heap.size + 1 := by omega
      have hii : (i : Int) < ca.length := by omega
      have HDx : Hid (D = (140, ca.getD i 0)) := hide_ (by rw [HD.out]; simp)
      have HDn : Hid (¬ D.1 = 0) := hide_ (by rw [HDx.out]; simp)
      generalize ca.getD i 0 = pl at *
      subst h140
      clear hcs hlt3 hlt140 hz0 HD hgC
      go_wp2_with fail
      go_region
      all_goals go_wp2
      all_goals
        have hs := (setAB KP5.out KF5.out (.bool false) (.slice none 0 0) (.slice none 0 0) (.int .i64 140) (.int .i64 pl)).drew
        refine retPF rfl rfl rfl hs.p hs.f ?_
        obtain ⟨i1, i2, i3⟩ := dec_fin HB5.out (Nat.le_refl _) HGs.out hs KP5.out KF5.out (COwn.nil _ _) (IOwn.nil _ _)
        refine ⟨_, _, ?_, by rw [← HdC.out, if_neg HDn.out]; exact i1, by rw [← HdN.out, if_neg HDn.out]; exact i2, i3⟩
        have hD := (show _ = D from HDx.out.symm)
        rw [← Hd1.out, ← Hd2.out, ← hD, ← HdB.out, if_neg HDn.out]
    · obtain ⟨h3, i, hi, hil⟩ := hlt3 h140 hfe
      rw [if_neg h140] at HD
      subst hi
      obtain ⟨aE, cE, hvE, -, -, -, -, hgE⟩ := own_open HP5.out.oE rfl
      subst hvE
      obtain ⟨b, rfl, hbb, hb, hcs, -⟩ := hgE (by omega)
      have hc := hcs i (by omega)
      have nb1 : ¬ b = w.heap.size := by omega
      have nb2 : ¬ b = w.heap.size + 1 := by omega
      have h140b : (fe == 140) = false := by simpa using h140
      have hii : (i : Int) < ea.length := by omega
      have HDx : Hid (D = (fe, ea.getD i 0)) := hide_ (by rw [HD.out]; simp)
      have HDn : Hid (¬ D.1 = 0) := hide_ (by rw [HDx.out]; exact hfe)
      generalize ea.getD i 0 = pl at *
      clear hcs hlt3 hlt140 hz0 h140 HD h3 hgE
      go_wp2_with fail
      go_region
      all_goals go_wp2
      all_goals
        have hs := (setAB KP5.out KF5.out (.bool false) (.slice none 0 0) (.slice none 0 0) (.int .i64 fe) (.int .i64 pl)).drew
        refine retPF rfl rfl rfl hs.p hs.f ?_
        obtain ⟨i1, i2, i3⟩ := dec_fin HB5.out (Nat.le_refl _) HGs.out hs KP5.out KF5.out (COwn.nil _ _) (IOwn.nil _ _)
        refine ⟨_, _, ?_, by rw [← HdC.out, if_neg HDn.out]; exact i1, by rw [← HdN.out, if_neg HDn.out]; exact i2, i3⟩
        have hD := (show _ = D from HDx.out.symm)
        rw [← Hd1.out, ← Hd2.out, ← hD, ← HdB.out, if_neg HDn.out]
end Go.Proofs.YteadmiikenpjeaaDoor
