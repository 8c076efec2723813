/- Lower: routine, by kinds. -/
import Derived.Test.YtepmgbfdmbogiaaLwf
import Derived.Test.YtepmgbfdmbogiaaLwi
namespace Go.Proofs.Ytepmgbfdmbogiaa
open Go.RowKit
set_option linter.unusedVariables false

theorem elem_at {T : List Ty} {n : Nat} {k nn el : Int} {ps : List Pt} (h : tyOk ⟨k, nn, el, ps⟩ (n : Int) = true) (hk : hasE k = true) (hn : n < T.length) : ∃ (en : Nat) (t2 : Ty), el = (en : Int) ∧ T[en]? = some t2 := by
  unfold tyOk at h
  simp only [Bool.and_eq_true] at h
  have h2 := h.1.2
  unfold elemOk at h2
  rw [if_pos hk] at h2
  unfold inB at h2
  have h3 := of_decide_eq_true h2
  refine ⟨el.toNat, T[el.toNat]'(by omega), by omega, List.getElem?_eq_getElem _⟩
theorem parts_n {n : Nat} {k nn el : Int} {ps : List Pt} (h : tyOk ⟨k, nn, el, ps⟩ (n : Int) = true) (hk : k = 7 ∨ k = 8) : 0 < ps.length ∧ ps.length ≤ 64 := by
  unfold tyOk at h
  simp only [Bool.and_eq_true] at h
  have h2 := h.2
  unfold partsOk at h2
  rcases hk with rfl | rfl
  · rw [if_neg (by decide), if_pos rfl] at h2
    unfold allP at h2
    rw [Bool.and_eq_true] at h2
    exact of_decide_eq_true h2.1
  · rw [if_pos rfl] at h2
    unfold allP at h2
    rw [Bool.and_eq_true] at h2
    exact of_decide_eq_true h2.1
theorem part_at {T : List Ty} {n : Nat} {t : Ty} (h : tyOk t (n : Int) = true) (hn : n < T.length) : ∀ (i : Nat) (p : Pt), t.ps[i]? = some p → ∃ (m : Nat) (t : Ty), p.ty = (m : Int) ∧ T[m]? = some t := fun i p hp => by
  obtain ⟨h0, h1⟩ := tyOk_part h hp
  exact ⟨p.ty.toNat, T[p.ty.toNat]'(by omega), by omega, List.getElem?_eq_getElem _⟩
set_option maxRecDepth 100000 in
set_option maxHeartbeats 8000000 in
theorem routine_1 (B gb : Nat) (aT aL : Option Addr) (cT nL cL : Nat) (T : List Ty) (X : List Ex) (C : List In) (E : List Int) (n : Nat) (nn el : Int) (ps : List Pt) (w : World) (hl : C.length ≤ 700000000) (hE : E.length ≤ 1000000000) (hnL : T.length = nL) (hn : T[n]? = some ⟨1, nn, el, ps⟩) (hok : Hid (tyOk ⟨1, nn, el, ps⟩ (n : Int) = true)) (HT : Hid (Tb B w aT T)) (HC : Hid (Tc B w aT T)) (HL : Hid (Lc B w aL (T.map (layP X)))) (h : Hid (Mb w B gb (.slice aT T.length cT) (.slice aL nL cL) C E [])) :
    Calls Try.prog 19 #[.pointer (some ⟨gb, 0, none⟩), .int .i64 (n : Int)] w fun e w' => e = .returned (.tuple #[]) ∧ Hid (Mb w' B gb (.slice aT T.length cT) (.slice aL nL cL) (C ++ rtnP T X ⟨1, nn, el, ps⟩ (n : Int) (C.length : Int)) (E ++ [(C.length : Int)]) []) ∧ Hid (Kp B w w') := by
  obtain ⟨a, c, vC, g, cap, w2, kb, ⟨ac, cc, hvc⟩, r1, kb2, hM, hK⟩ := (h.out.later ((Below.refl _ _).drew)).entry (C.length : Int) hE
  subst hvc
  have hbase := h.out.base
  have HSS : Hid (∀ w', Below w.heap.size w w' → (fun w' => w'.cell? ⟨gb, 2, none⟩ = some (.slice ac C.length cc) ∧ w'.cell? ⟨gb, 3, none⟩ = some (.slice a E.length c)) w') := hide_ (fun w' hb => by
    have x2 := (Blk.later (w := w) kb hb).cell 2; have x3 := (Blk.later (w := w) kb hb).cell 3
    simp at x2 x3
    exact ⟨x2, x3⟩)
  have HS2 : Hid ((fun w' => w'.cell? ⟨gb, 2, none⟩ = some (.slice ac C.length cc) ∧ w'.cell? ⟨gb, 3, none⟩ = some (.slice a E.length c)) w2) := hide_ (by
    have x2 := kb2.cell 2; have x3 := kb2.cell 3
    simp at x2 x3
    exact ⟨x2, x3⟩)
  have HFz := hide_ (fun o => kb2.frozen o)
  have HR := hide_ r1
  have HM := hide_ hM
  have HKp : Hid (Kp B w _) := hide_ ((Kp.later ((Below.refl w.heap.size w).drew)).trans hK)
  have HNL := hide_ hnL
  clear r1 hM hK kb kb2 h hnL
  go_enter Try.func19, Try.ntmps19
  go_upto_region 0 with fail
  refine wp_region_last 14 (fun w' => w'.cell? ⟨gb, 2, none⟩ = some (.slice ac C.length cc) ∧ w'.cell? ⟨gb, 3, none⟩ = some (.slice a E.length c)) (by kernel_rfl) (HSS.out _ ((Below.refl w.heap.size w).drew)) (fun hHeld => ?_)
  refine wpAnyF_take [14] (by kernel_rfl) (i := 0) (v := ?ve1) rfl (by kernel_rfl) (by kernel_rfl) (by kernel_rfl) (fun _ _ _ h => h) (Or.inl ⟨by kernel_rfl, ?hye1⟩) hHeld ?reste1
  case hye1 => intro w' hSw; (try dsimp only at hSw); go_simp; try with_reducible rfl
  simp only [Act.put]
  refine wpAnyF_take [14] (by kernel_rfl) (i := 1) (v := ?ve2) rfl (by kernel_rfl) (by kernel_rfl) (by kernel_rfl) (fun _ _ _ h => h) (Or.inl ⟨by kernel_rfl, ?hye2⟩) hHeld ?reste2
  case hye2 => intro w' hSw; (try dsimp only at hSw); go_simp; try with_reducible rfl
  simp only [Act.put]
  refine wpAnyF_take [14] (by kernel_rfl) (i := 2) (v := ?ve3) rfl (by kernel_rfl) (by kernel_rfl) (by kernel_rfl) (fun _ _ _ h => h) (Or.inl ⟨by kernel_rfl, ?hye3⟩) hHeld ?reste3
  case hye3 => intro w' hSw; (try dsimp only at hSw); go_simp; try with_reducible rfl
  simp only [Act.put]
  refine wpAnyF_take [14] (by kernel_rfl) (i := 3) (v := ?ve4) rfl (by kernel_rfl) (by kernel_rfl) (by kernel_rfl) (fun _ _ _ h => h) (Or.inl ⟨by kernel_rfl, ?hye4⟩) hHeld ?reste4
  case hye4 => intro w' hSw; (try dsimp only at hSw); go_simp; try with_reducible rfl
  simp only [Act.put]
  refine wpAnyF_take [14] (by kernel_rfl) (i := 4) (v := ?ve5) rfl (by kernel_rfl) (by kernel_rfl) (by kernel_rfl) (fun _ _ _ h => h) (Or.inl ⟨by kernel_rfl, ?hye5⟩) hHeld ?reste5
  case hye5 => intro w' hSw; (try dsimp only at hSw); go_simp; try with_reducible rfl
  simp only [Act.put]
  refine wpAnyF_take [14] (by kernel_rfl) (i := 5) (v := ?ve6) rfl (by kernel_rfl) (by kernel_rfl) (by kernel_rfl) (fun _ _ _ h => h) (Or.inl ⟨by kernel_rfl, ?hye6⟩) hHeld ?reste6
  case hye6 => intro w' hSw; (try dsimp only at hSw); go_simp; try with_reducible rfl
  simp only [Act.put]
  refine wpAnyF_take [14] (by kernel_rfl) (i := 6) (v := ?ve7) rfl (by kernel_rfl) (by kernel_rfl) (by kernel_rfl) (fun _ _ _ h => h) (Or.inl ⟨by kernel_rfl, ?hye7⟩) hHeld ?reste7
  case hye7 => intro w' hSw; (try dsimp only at hSw); go_simp; try with_reducible rfl
  simp only [Act.put]
  refine wpAnyF_take [14] (by kernel_rfl) (i := 7) (v := ?ve8) rfl (by kernel_rfl) (by kernel_rfl) (by kernel_rfl) (fun _ _ _ h => h) (Or.inl ⟨by kernel_rfl, ?hye8⟩) hHeld ?reste8
  case hye8 => intro w' hSw; (try dsimp only at hSw); go_simp; try with_reducible rfl
  simp only [Act.put]
  refine wpAnyF_take [14] (by kernel_rfl) (i := 8) (v := ?ve9) rfl (by kernel_rfl) (by kernel_rfl) (by kernel_rfl) (fun _ _ _ h => h) (Or.inl ⟨by kernel_rfl, ?hye9⟩) hHeld ?reste9
  case hye9 => intro w' hSw; (try dsimp only at hSw); go_simp; try with_reducible rfl
  simp only [Act.put]
  refine wpAnyF_take [14] (by kernel_rfl) (i := 9) (v := ?ve10) rfl (by kernel_rfl) (by kernel_rfl) (by kernel_rfl) (fun _ _ _ h => h) (Or.inl ⟨by kernel_rfl, ?hye10⟩) hHeld ?reste10
  case hye10 => intro w' hSw; (try dsimp only at hSw); go_simp; try with_reducible rfl
  simp only [Act.put]
  refine wpAnyF_ready (rs := [10]) (by kernel_rfl) (by simp) ?_
  refine AllReadyF.cons rfl (fun K hK => ?_) AllReadyF.nil
  go_simp
  refine hK.out _ _ (HSS.out _ (below_to ((Below.refl w.heap.size w).drew) (below1 w.drew _))) (fun hHeld => ?_)
  clear hK K
  refine wpAnyF_ready (rs := [11]) (by kernel_rfl) (by simp) ?_
  refine AllReadyF.cons rfl (fun K hK => ?_) AllReadyF.nil
  refine step_append_run rfl (.tmp 12) (.tmp 18) 29 29 rfl (v := .slice a E.length c) (u := .slice (some ⟨w.heap.size, 0, none⟩) 1 1) (by kernel_rfl) (by kernel_rfl) HR.out ?_
  simp only [Act.put]
  refine hK.out _ _ (HS2.out) (fun hHeld => ?_)
  clear hK K
  refine wpAnyF_take [14, 13] (by kernel_rfl) (i := 12) (v := ?ve11) rfl (by kernel_rfl) (by kernel_rfl) (by kernel_rfl) (fun _ _ _ h => h) (Or.inl ⟨by kernel_rfl, ?hye11⟩) hHeld ?reste11
  case hye11 => intro w' hSw; (try dsimp only at hSw); go_simp; try with_reducible rfl
  simp only [Act.put]
  refine wpAnyF_take [14] (by kernel_rfl) (i := 13) (v := ?ve12) rfl (by kernel_rfl) (by kernel_rfl) (by kernel_rfl) (fun _ _ _ h => h) (Or.inl ⟨by kernel_rfl, ?hye12⟩) hHeld ?reste12
  case hye12 => intro w' hSw; (try dsimp only at hSw); go_simp; try with_reducible rfl
  simp only [Act.put]
  refine wpAnyF_ready (rs := [14]) (by kernel_rfl) (by simp) ?_
  refine AllReadyF.last rfl (fun K hK => ?_)
  have q2 := HS2.out.2; have qz := HFz.out 3
  go_simp
  refine hK.out _ _ ?_
  clear hK K
  refine wpAnyF_done (by kernel_rfl) ?_ _
  clear HR HSS HS2 HFz
  generalize w2.setCell ⟨gb, 3, none⟩ (.slice (some ⟨g, 0, none⟩) (E.length + 1) cap) = w3 at *
  have hlt := (List.getElem?_eq_some_iff.1 hn).1
  have hlt' : (n : Int) < T.length := by omega
  have HT3 := hide_ (HT.out.kp hbase HKp.out)
  have HC3 := hide_ (HC.out.kp hbase HKp.out)
  have HL3 := hide_ (HL.out.kp hbase HKp.out)
  have hb3 : B ≤ w3.heap.size := Nat.le_trans hbase HKp.out.size
  obtain ⟨bT, oT, va, vc, rfl, hvc, -, htc⟩ := HC3.out n _ hn
  obtain ⟨hcc, -⟩ := htc w3 (Below.refl _ _)
  have i0 := hcc 0 (by decide); have i1 := hcc 1 (by decide); have i2 := hcc 2 (by decide); have i3 := hcc 3 (by decide)
  simp [tyc] at i0 i1 i2 i3
  obtain ⟨vC3, vE3, kb3, -, -, -⟩ := HM.out.bd
  have ib := kb3.cell 0
  simp at ib
  obtain ⟨w4, hw4⟩ : ∃ wx, wx = w3.alloc (.cells #[.int .i64 1, .int .i64 nn, .int .i64 el, .slice va ps.length vc] 54) := ⟨_, rfl⟩
  have hB4 : Below w3.heap.size w3 w4 := by rw [hw4]; exact below1 _ _
  have kt : Blk w4 w3.heap.size 54 [.int .i64 1, .int .i64 nn, .int .i64 el, .slice va ps.length vc] := by rw [hw4]; exact Blk.newA w3 _ _
  obtain ⟨w5, hw5⟩ : ∃ wx, wx = w4.alloc (.cells #[.bool false, .int .i64 0, .slice none 0 0] 83) := ⟨_, rfl⟩
  have hB5 : Below w4.heap.size w4 w5 := by rw [hw5]; exact below1 _ _
  obtain ⟨g4, hg4⟩ : ∃ g, g = w4.heap.size := ⟨_, rfl⟩
  have HM5 : Hid (Mb w5 B gb (.slice (some ⟨bT, oT, none⟩) T.length cT) (.slice aL nL cL) C (E ++ [(C.length : Int)]) [⟨g4, 0, false, 0, .slice none 0 0, []⟩]) := hide_ (by
    have := (HM.out.later hB4).new
    rw [← hw5, ← hg4] at this
    exact this)
  have HK45 : Hid (Kp B w3 w5) := hide_ ((Kp.later hB4).then hB5)
  have HK5 := hide_ (HKp.out.trans HK45.out)
  have HT5 := hide_ (HT3.out.kp hb3 HK45.out)
  have HC5 := hide_ (HC3.out.kp hb3 HK45.out)
  have HL5 := hide_ (HL3.out.kp hb3 HK45.out)
  have hb5 : B ≤ w5.heap.size := Nat.le_trans hb3 HK45.out.size
  have HKt := hide_ (kt.later hB5)
  clear htc hcc kb3 kt hB4 hB5 HM HKp HT3 HC3 HL3 HT HC HL HK45
  go_upto_region 2 with fail
  rw [← hw4]
  clear hw4 i0 i1 i2 i3 ib
  go_upto_region 4 with fail
  rw [← hw5, ← hg4]
  clear hw5 hg4
  have j0 := HKt.out.cell 0; have j2 := HKt.out.cell 2; have j3 := HKt.out.cell 3
  simp at j0 j2 j3
  have HBod : Hid (bodP T X ⟨1, nn, el, ps⟩ (n : Int) (C.length : Int) = [rdP T (-1) (n : Int)]) := hide_ (by simp [bodP])
  have HRd := hide_ (read_any B gb _ cT T _ C _ [⟨g4, 0, false, 0, .slice none 0 0, []⟩] (-1) n _ w5 (by omega) hn HT5 HM5)
  go_upto_region 19 with (go_at_call 31; refine HRd.out.mono ?_; rintro e w6 ⟨rfl, HM6a, HK6⟩)
  have HB6 : Hid (BodyTo B gb (.slice (some ⟨bT, oT, none⟩) T.length cT) (.slice aL nL cL) C (E ++ [(C.length : Int)]) ⟨g4, 0, false, 0, .slice none 0 0, []⟩ [rdP T (-1) (n : Int)] w6) := hide_ ⟨[rdP T (-1) (n : Int)], [], _, HM6a.out, by simp, fun k hk => (by cases hk), rfl, rfl⟩
  clear HRd HM6a HT5 HC5 HL5
  obtain ⟨U, W, v, hm6, hw1, hw2, hpat, hul⟩ := HB6.out
  have HM6 := hide_ hm6
  have HW2 := hide_ hw2
  have HPat := hide_ hpat
  have HUl := hide_ hul
  have hUn : U.length = 1 := by rw [hul]; rfl
  clear hm6 hw2 hpat hul
  have HSt := hide_ (set_any B gb _ _ (C ++ U) _ [] [] ⟨g4, 0, false, 0, v, W⟩ w6 (by rw [List.length_append]; omega) (by show W.length ≤ _; omega) (hide_ HW2.out) (hide_ HM6.out))
  go_upto_region 20 with (go_at_call 35; refine HSt.out.mono ?_; rintro e w7 ⟨rfl, HM7, HK7⟩)
  have hM7 := HM7.out
  have hpt := HPat.out
  rw [show patL ((C ++ U).length : Int) (⟨g4, 0, false, 0, v, W⟩ : Mk).W (C ++ U) = _ from hpt] at hM7
  have HLr := hide_ (lay_any B gb _ _ _ _ _ ⟨20, 0, 0, 0⟩ w7 (by rw [List.length_append, ← HUl.out]; omega) (hide_ hM7))
  clear HSt hM7 hpt HM7
  go_wp2_with (go_at_call 36; refine HLr.out.mono ?_; rintro e w8 ⟨rfl, HM8, HK8⟩)
  go_end0
  exact ⟨rfl, hide_ (by rw [rtnP, HBod.out, ← List.append_assoc]; exact HM8.out.sub (List.nil_sublist _)), hide_ (HK5.out.trans (HK6.out.trans (HK7.out.trans HK8.out)))⟩
set_option maxRecDepth 100000 in
set_option maxHeartbeats 8000000 in
theorem routine_2 (B gb : Nat) (aT aL : Option Addr) (cT nL cL : Nat) (T : List Ty) (X : List Ex) (C : List In) (E : List Int) (n : Nat) (nn el : Int) (ps : List Pt) (w : World) (hl : C.length ≤ 700000000) (hE : E.length ≤ 1000000000) (hnL : T.length = nL) (hn : T[n]? = some ⟨2, nn, el, ps⟩) (hok : Hid (tyOk ⟨2, nn, el, ps⟩ (n : Int) = true)) (HT : Hid (Tb B w aT T)) (HC : Hid (Tc B w aT T)) (HL : Hid (Lc B w aL (T.map (layP X)))) (h : Hid (Mb w B gb (.slice aT T.length cT) (.slice aL nL cL) C E [])) :
    Calls Try.prog 19 #[.pointer (some ⟨gb, 0, none⟩), .int .i64 (n : Int)] w fun e w' => e = .returned (.tuple #[]) ∧ Hid (Mb w' B gb (.slice aT T.length cT) (.slice aL nL cL) (C ++ rtnP T X ⟨2, nn, el, ps⟩ (n : Int) (C.length : Int)) (E ++ [(C.length : Int)]) []) ∧ Hid (Kp B w w') := by
  obtain ⟨a, c, vC, g, cap, w2, kb, ⟨ac, cc, hvc⟩, r1, kb2, hM, hK⟩ := (h.out.later ((Below.refl _ _).drew)).entry (C.length : Int) hE
  subst hvc
  have hbase := h.out.base
  have HSS : Hid (∀ w', Below w.heap.size w w' → (fun w' => w'.cell? ⟨gb, 2, none⟩ = some (.slice ac C.length cc) ∧ w'.cell? ⟨gb, 3, none⟩ = some (.slice a E.length c)) w') := hide_ (fun w' hb => by
    have x2 := (Blk.later (w := w) kb hb).cell 2; have x3 := (Blk.later (w := w) kb hb).cell 3
    simp at x2 x3
    exact ⟨x2, x3⟩)
  have HS2 : Hid ((fun w' => w'.cell? ⟨gb, 2, none⟩ = some (.slice ac C.length cc) ∧ w'.cell? ⟨gb, 3, none⟩ = some (.slice a E.length c)) w2) := hide_ (by
    have x2 := kb2.cell 2; have x3 := kb2.cell 3
    simp at x2 x3
    exact ⟨x2, x3⟩)
  have HFz := hide_ (fun o => kb2.frozen o)
  have HR := hide_ r1
  have HM := hide_ hM
  have HKp : Hid (Kp B w _) := hide_ ((Kp.later ((Below.refl w.heap.size w).drew)).trans hK)
  have HNL := hide_ hnL
  clear r1 hM hK kb kb2 h hnL
  go_enter Try.func19, Try.ntmps19
  go_upto_region 0 with fail
  refine wp_region_last 14 (fun w' => w'.cell? ⟨gb, 2, none⟩ = some (.slice ac C.length cc) ∧ w'.cell? ⟨gb, 3, none⟩ = some (.slice a E.length c)) (by kernel_rfl) (HSS.out _ ((Below.refl w.heap.size w).drew)) (fun hHeld => ?_)
  refine wpAnyF_take [14] (by kernel_rfl) (i := 0) (v := ?ve1) rfl (by kernel_rfl) (by kernel_rfl) (by kernel_rfl) (fun _ _ _ h => h) (Or.inl ⟨by kernel_rfl, ?hye1⟩) hHeld ?reste1
  case hye1 => intro w' hSw; (try dsimp only at hSw); go_simp; try with_reducible rfl
  simp only [Act.put]
  refine wpAnyF_take [14] (by kernel_rfl) (i := 1) (v := ?ve2) rfl (by kernel_rfl) (by kernel_rfl) (by kernel_rfl) (fun _ _ _ h => h) (Or.inl ⟨by kernel_rfl, ?hye2⟩) hHeld ?reste2
  case hye2 => intro w' hSw; (try dsimp only at hSw); go_simp; try with_reducible rfl
  simp only [Act.put]
  refine wpAnyF_take [14] (by kernel_rfl) (i := 2) (v := ?ve3) rfl (by kernel_rfl) (by kernel_rfl) (by kernel_rfl) (fun _ _ _ h => h) (Or.inl ⟨by kernel_rfl, ?hye3⟩) hHeld ?reste3
  case hye3 => intro w' hSw; (try dsimp only at hSw); go_simp; try with_reducible rfl
  simp only [Act.put]
  refine wpAnyF_take [14] (by kernel_rfl) (i := 3) (v := ?ve4) rfl (by kernel_rfl) (by kernel_rfl) (by kernel_rfl) (fun _ _ _ h => h) (Or.inl ⟨by kernel_rfl, ?hye4⟩) hHeld ?reste4
  case hye4 => intro w' hSw; (try dsimp only at hSw); go_simp; try with_reducible rfl
  simp only [Act.put]
  refine wpAnyF_take [14] (by kernel_rfl) (i := 4) (v := ?ve5) rfl (by kernel_rfl) (by kernel_rfl) (by kernel_rfl) (fun _ _ _ h => h) (Or.inl ⟨by kernel_rfl, ?hye5⟩) hHeld ?reste5
  case hye5 => intro w' hSw; (try dsimp only at hSw); go_simp; try with_reducible rfl
  simp only [Act.put]
  refine wpAnyF_take [14] (by kernel_rfl) (i := 5) (v := ?ve6) rfl (by kernel_rfl) (by kernel_rfl) (by kernel_rfl) (fun _ _ _ h => h) (Or.inl ⟨by kernel_rfl, ?hye6⟩) hHeld ?reste6
  case hye6 => intro w' hSw; (try dsimp only at hSw); go_simp; try with_reducible rfl
  simp only [Act.put]
  refine wpAnyF_take [14] (by kernel_rfl) (i := 6) (v := ?ve7) rfl (by kernel_rfl) (by kernel_rfl) (by kernel_rfl) (fun _ _ _ h => h) (Or.inl ⟨by kernel_rfl, ?hye7⟩) hHeld ?reste7
  case hye7 => intro w' hSw; (try dsimp only at hSw); go_simp; try with_reducible rfl
  simp only [Act.put]
  refine wpAnyF_take [14] (by kernel_rfl) (i := 7) (v := ?ve8) rfl (by kernel_rfl) (by kernel_rfl) (by kernel_rfl) (fun _ _ _ h => h) (Or.inl ⟨by kernel_rfl, ?hye8⟩) hHeld ?reste8
  case hye8 => intro w' hSw; (try dsimp only at hSw); go_simp; try with_reducible rfl
  simp only [Act.put]
  refine wpAnyF_take [14] (by kernel_rfl) (i := 8) (v := ?ve9) rfl (by kernel_rfl) (by kernel_rfl) (by kernel_rfl) (fun _ _ _ h => h) (Or.inl ⟨by kernel_rfl, ?hye9⟩) hHeld ?reste9
  case hye9 => intro w' hSw; (try dsimp only at hSw); go_simp; try with_reducible rfl
  simp only [Act.put]
  refine wpAnyF_take [14] (by kernel_rfl) (i := 9) (v := ?ve10) rfl (by kernel_rfl) (by kernel_rfl) (by kernel_rfl) (fun _ _ _ h => h) (Or.inl ⟨by kernel_rfl, ?hye10⟩) hHeld ?reste10
  case hye10 => intro w' hSw; (try dsimp only at hSw); go_simp; try with_reducible rfl
  simp only [Act.put]
  refine wpAnyF_ready (rs := [10]) (by kernel_rfl) (by simp) ?_
  refine AllReadyF.cons rfl (fun K hK => ?_) AllReadyF.nil
  go_simp
  refine hK.out _ _ (HSS.out _ (below_to ((Below.refl w.heap.size w).drew) (below1 w.drew _))) (fun hHeld => ?_)
  clear hK K
  refine wpAnyF_ready (rs := [11]) (by kernel_rfl) (by simp) ?_
  refine AllReadyF.cons rfl (fun K hK => ?_) AllReadyF.nil
  refine step_append_run rfl (.tmp 12) (.tmp 18) 29 29 rfl (v := .slice a E.length c) (u := .slice (some ⟨w.heap.size, 0, none⟩) 1 1) (by kernel_rfl) (by kernel_rfl) HR.out ?_
  simp only [Act.put]
  refine hK.out _ _ (HS2.out) (fun hHeld => ?_)
  clear hK K
  refine wpAnyF_take [14, 13] (by kernel_rfl) (i := 12) (v := ?ve11) rfl (by kernel_rfl) (by kernel_rfl) (by kernel_rfl) (fun _ _ _ h => h) (Or.inl ⟨by kernel_rfl, ?hye11⟩) hHeld ?reste11
  case hye11 => intro w' hSw; (try dsimp only at hSw); go_simp; try with_reducible rfl
  simp only [Act.put]
  refine wpAnyF_take [14] (by kernel_rfl) (i := 13) (v := ?ve12) rfl (by kernel_rfl) (by kernel_rfl) (by kernel_rfl) (fun _ _ _ h => h) (Or.inl ⟨by kernel_rfl, ?hye12⟩) hHeld ?reste12
  case hye12 => intro w' hSw; (try dsimp only at hSw); go_simp; try with_reducible rfl
  simp only [Act.put]
  refine wpAnyF_ready (rs := [14]) (by kernel_rfl) (by simp) ?_
  refine AllReadyF.last rfl (fun K hK => ?_)
  have q2 := HS2.out.2; have qz := HFz.out 3
  go_simp
  refine hK.out _ _ ?_
  clear hK K
  refine wpAnyF_done (by kernel_rfl) ?_ _
  clear HR HSS HS2 HFz
  generalize w2.setCell ⟨gb, 3, none⟩ (.slice (some ⟨g, 0, none⟩) (E.length + 1) cap) = w3 at *
  have hlt := (List.getElem?_eq_some_iff.1 hn).1
  have hlt' : (n : Int) < T.length := by omega
  have HT3 := hide_ (HT.out.kp hbase HKp.out)
  have HC3 := hide_ (HC.out.kp hbase HKp.out)
  have HL3 := hide_ (HL.out.kp hbase HKp.out)
  have hb3 : B ≤ w3.heap.size := Nat.le_trans hbase HKp.out.size
  obtain ⟨bT, oT, va, vc, rfl, hvc, -, htc⟩ := HC3.out n _ hn
  obtain ⟨hcc, -⟩ := htc w3 (Below.refl _ _)
  have i0 := hcc 0 (by decide); have i1 := hcc 1 (by decide); have i2 := hcc 2 (by decide); have i3 := hcc 3 (by decide)
  simp [tyc] at i0 i1 i2 i3
  obtain ⟨vC3, vE3, kb3, -, -, -⟩ := HM.out.bd
  have ib := kb3.cell 0
  simp at ib
  obtain ⟨w4, hw4⟩ : ∃ wx, wx = w3.alloc (.cells #[.int .i64 2, .int .i64 nn, .int .i64 el, .slice va ps.length vc] 54) := ⟨_, rfl⟩
  have hB4 : Below w3.heap.size w3 w4 := by rw [hw4]; exact below1 _ _
  have kt : Blk w4 w3.heap.size 54 [.int .i64 2, .int .i64 nn, .int .i64 el, .slice va ps.length vc] := by rw [hw4]; exact Blk.newA w3 _ _
  obtain ⟨w5, hw5⟩ : ∃ wx, wx = w4.alloc (.cells #[.bool false, .int .i64 0, .slice none 0 0] 83) := ⟨_, rfl⟩
  have hB5 : Below w4.heap.size w4 w5 := by rw [hw5]; exact below1 _ _
  obtain ⟨g4, hg4⟩ : ∃ g, g = w4.heap.size := ⟨_, rfl⟩
  have HM5 : Hid (Mb w5 B gb (.slice (some ⟨bT, oT, none⟩) T.length cT) (.slice aL nL cL) C (E ++ [(C.length : Int)]) [⟨g4, 0, false, 0, .slice none 0 0, []⟩]) := hide_ (by
    have := (HM.out.later hB4).new
    rw [← hw5, ← hg4] at this
    exact this)
  have HK45 : Hid (Kp B w3 w5) := hide_ ((Kp.later hB4).then hB5)
  have HK5 := hide_ (HKp.out.trans HK45.out)
  have HT5 := hide_ (HT3.out.kp hb3 HK45.out)
  have HC5 := hide_ (HC3.out.kp hb3 HK45.out)
  have HL5 := hide_ (HL3.out.kp hb3 HK45.out)
  have hb5 : B ≤ w5.heap.size := Nat.le_trans hb3 HK45.out.size
  have HKt := hide_ (kt.later hB5)
  clear htc hcc kb3 kt hB4 hB5 HM HKp HT3 HC3 HL3 HT HC HL HK45
  go_upto_region 2 with fail
  rw [← hw4]
  clear hw4 i0 i1 i2 i3 ib
  go_upto_region 4 with fail
  rw [← hw5, ← hg4]
  clear hw5 hg4
  have j0 := HKt.out.cell 0; have j2 := HKt.out.cell 2; have j3 := HKt.out.cell 3
  simp at j0 j2 j3
  have HBod : Hid (bodP T X ⟨2, nn, el, ps⟩ (n : Int) (C.length : Int) = [rdP T (-1) (n : Int)]) := hide_ (by simp [bodP])
  have HRd := hide_ (read_any B gb _ cT T _ C _ [⟨g4, 0, false, 0, .slice none 0 0, []⟩] (-1) n _ w5 (by omega) hn HT5 HM5)
  go_upto_region 19 with (go_at_call 31; refine HRd.out.mono ?_; rintro e w6 ⟨rfl, HM6a, HK6⟩)
  have HB6 : Hid (BodyTo B gb (.slice (some ⟨bT, oT, none⟩) T.length cT) (.slice aL nL cL) C (E ++ [(C.length : Int)]) ⟨g4, 0, false, 0, .slice none 0 0, []⟩ [rdP T (-1) (n : Int)] w6) := hide_ ⟨[rdP T (-1) (n : Int)], [], _, HM6a.out, by simp, fun k hk => (by cases hk), rfl, rfl⟩
  clear HRd HM6a HT5 HC5 HL5
  obtain ⟨U, W, v, hm6, hw1, hw2, hpat, hul⟩ := HB6.out
  have HM6 := hide_ hm6
  have HW2 := hide_ hw2
  have HPat := hide_ hpat
  have HUl := hide_ hul
  have hUn : U.length = 1 := by rw [hul]; rfl
  clear hm6 hw2 hpat hul
  have HSt := hide_ (set_any B gb _ _ (C ++ U) _ [] [] ⟨g4, 0, false, 0, v, W⟩ w6 (by rw [List.length_append]; omega) (by show W.length ≤ _; omega) (hide_ HW2.out) (hide_ HM6.out))
  go_upto_region 20 with (go_at_call 35; refine HSt.out.mono ?_; rintro e w7 ⟨rfl, HM7, HK7⟩)
  have hM7 := HM7.out
  have hpt := HPat.out
  rw [show patL ((C ++ U).length : Int) (⟨g4, 0, false, 0, v, W⟩ : Mk).W (C ++ U) = _ from hpt] at hM7
  have HLr := hide_ (lay_any B gb _ _ _ _ _ ⟨20, 0, 0, 0⟩ w7 (by rw [List.length_append, ← HUl.out]; omega) (hide_ hM7))
  clear HSt hM7 hpt HM7
  go_wp2_with (go_at_call 36; refine HLr.out.mono ?_; rintro e w8 ⟨rfl, HM8, HK8⟩)
  go_end0
  exact ⟨rfl, hide_ (by rw [rtnP, HBod.out, ← List.append_assoc]; exact HM8.out.sub (List.nil_sublist _)), hide_ (HK5.out.trans (HK6.out.trans (HK7.out.trans HK8.out)))⟩
set_option maxRecDepth 100000 in
set_option maxHeartbeats 8000000 in
theorem routine_3 (B gb : Nat) (aT aL : Option Addr) (cT nL cL : Nat) (T : List Ty) (X : List Ex) (C : List In) (E : List Int) (n : Nat) (nn el : Int) (ps : List Pt) (w : World) (hl : C.length ≤ 700000000) (hE : E.length ≤ 1000000000) (hnL : T.length = nL) (hn : T[n]? = some ⟨3, nn, el, ps⟩) (hok : Hid (tyOk ⟨3, nn, el, ps⟩ (n : Int) = true)) (HT : Hid (Tb B w aT T)) (HC : Hid (Tc B w aT T)) (HL : Hid (Lc B w aL (T.map (layP X)))) (h : Hid (Mb w B gb (.slice aT T.length cT) (.slice aL nL cL) C E [])) :
    Calls Try.prog 19 #[.pointer (some ⟨gb, 0, none⟩), .int .i64 (n : Int)] w fun e w' => e = .returned (.tuple #[]) ∧ Hid (Mb w' B gb (.slice aT T.length cT) (.slice aL nL cL) (C ++ rtnP T X ⟨3, nn, el, ps⟩ (n : Int) (C.length : Int)) (E ++ [(C.length : Int)]) []) ∧ Hid (Kp B w w') := by
  obtain ⟨a, c, vC, g, cap, w2, kb, ⟨ac, cc, hvc⟩, r1, kb2, hM, hK⟩ := (h.out.later ((Below.refl _ _).drew)).entry (C.length : Int) hE
  subst hvc
  have hbase := h.out.base
  have HSS : Hid (∀ w', Below w.heap.size w w' → (fun w' => w'.cell? ⟨gb, 2, none⟩ = some (.slice ac C.length cc) ∧ w'.cell? ⟨gb, 3, none⟩ = some (.slice a E.length c)) w') := hide_ (fun w' hb => by
    have x2 := (Blk.later (w := w) kb hb).cell 2; have x3 := (Blk.later (w := w) kb hb).cell 3
    simp at x2 x3
    exact ⟨x2, x3⟩)
  have HS2 : Hid ((fun w' => w'.cell? ⟨gb, 2, none⟩ = some (.slice ac C.length cc) ∧ w'.cell? ⟨gb, 3, none⟩ = some (.slice a E.length c)) w2) := hide_ (by
    have x2 := kb2.cell 2; have x3 := kb2.cell 3
    simp at x2 x3
    exact ⟨x2, x3⟩)
  have HFz := hide_ (fun o => kb2.frozen o)
  have HR := hide_ r1
  have HM := hide_ hM
  have HKp : Hid (Kp B w _) := hide_ ((Kp.later ((Below.refl w.heap.size w).drew)).trans hK)
  have HNL := hide_ hnL
  clear r1 hM hK kb kb2 h hnL
  go_enter Try.func19, Try.ntmps19
  go_upto_region 0 with fail
  refine wp_region_last 14 (fun w' => w'.cell? ⟨gb, 2, none⟩ = some (.slice ac C.length cc) ∧ w'.cell? ⟨gb, 3, none⟩ = some (.slice a E.length c)) (by kernel_rfl) (HSS.out _ ((Below.refl w.heap.size w).drew)) (fun hHeld => ?_)
  refine wpAnyF_take [14] (by kernel_rfl) (i := 0) (v := ?ve1) rfl (by kernel_rfl) (by kernel_rfl) (by kernel_rfl) (fun _ _ _ h => h) (Or.inl ⟨by kernel_rfl, ?hye1⟩) hHeld ?reste1
  case hye1 => intro w' hSw; (try dsimp only at hSw); go_simp; try with_reducible rfl
  simp only [Act.put]
  refine wpAnyF_take [14] (by kernel_rfl) (i := 1) (v := ?ve2) rfl (by kernel_rfl) (by kernel_rfl) (by kernel_rfl) (fun _ _ _ h => h) (Or.inl ⟨by kernel_rfl, ?hye2⟩) hHeld ?reste2
  case hye2 => intro w' hSw; (try dsimp only at hSw); go_simp; try with_reducible rfl
  simp only [Act.put]
  refine wpAnyF_take [14] (by kernel_rfl) (i := 2) (v := ?ve3) rfl (by kernel_rfl) (by kernel_rfl) (by kernel_rfl) (fun _ _ _ h => h) (Or.inl ⟨by kernel_rfl, ?hye3⟩) hHeld ?reste3
  case hye3 => intro w' hSw; (try dsimp only at hSw); go_simp; try with_reducible rfl
  simp only [Act.put]
  refine wpAnyF_take [14] (by kernel_rfl) (i := 3) (v := ?ve4) rfl (by kernel_rfl) (by kernel_rfl) (by kernel_rfl) (fun _ _ _ h => h) (Or.inl ⟨by kernel_rfl, ?hye4⟩) hHeld ?reste4
  case hye4 => intro w' hSw; (try dsimp only at hSw); go_simp; try with_reducible rfl
  simp only [Act.put]
  refine wpAnyF_take [14] (by kernel_rfl) (i := 4) (v := ?ve5) rfl (by kernel_rfl) (by kernel_rfl) (by kernel_rfl) (fun _ _ _ h => h) (Or.inl ⟨by kernel_rfl, ?hye5⟩) hHeld ?reste5
  case hye5 => intro w' hSw; (try dsimp only at hSw); go_simp; try with_reducible rfl
  simp only [Act.put]
  refine wpAnyF_take [14] (by kernel_rfl) (i := 5) (v := ?ve6) rfl (by kernel_rfl) (by kernel_rfl) (by kernel_rfl) (fun _ _ _ h => h) (Or.inl ⟨by kernel_rfl, ?hye6⟩) hHeld ?reste6
  case hye6 => intro w' hSw; (try dsimp only at hSw); go_simp; try with_reducible rfl
  simp only [Act.put]
  refine wpAnyF_take [14] (by kernel_rfl) (i := 6) (v := ?ve7) rfl (by kernel_rfl) (by kernel_rfl) (by kernel_rfl) (fun _ _ _ h => h) (Or.inl ⟨by kernel_rfl, ?hye7⟩) hHeld ?reste7
  case hye7 => intro w' hSw; (try dsimp only at hSw); go_simp; try with_reducible rfl
  simp only [Act.put]
  refine wpAnyF_take [14] (by kernel_rfl) (i := 7) (v := ?ve8) rfl (by kernel_rfl) (by kernel_rfl) (by kernel_rfl) (fun _ _ _ h => h) (Or.inl ⟨by kernel_rfl, ?hye8⟩) hHeld ?reste8
  case hye8 => intro w' hSw; (try dsimp only at hSw); go_simp; try with_reducible rfl
  simp only [Act.put]
  refine wpAnyF_take [14] (by kernel_rfl) (i := 8) (v := ?ve9) rfl (by kernel_rfl) (by kernel_rfl) (by kernel_rfl) (fun _ _ _ h => h) (Or.inl ⟨by kernel_rfl, ?hye9⟩) hHeld ?reste9
  case hye9 => intro w' hSw; (try dsimp only at hSw); go_simp; try with_reducible rfl
  simp only [Act.put]
  refine wpAnyF_take [14] (by kernel_rfl) (i := 9) (v := ?ve10) rfl (by kernel_rfl) (by kernel_rfl) (by kernel_rfl) (fun _ _ _ h => h) (Or.inl ⟨by kernel_rfl, ?hye10⟩) hHeld ?reste10
  case hye10 => intro w' hSw; (try dsimp only at hSw); go_simp; try with_reducible rfl
  simp only [Act.put]
  refine wpAnyF_ready (rs := [10]) (by kernel_rfl) (by simp) ?_
  refine AllReadyF.cons rfl (fun K hK => ?_) AllReadyF.nil
  go_simp
  refine hK.out _ _ (HSS.out _ (below_to ((Below.refl w.heap.size w).drew) (below1 w.drew _))) (fun hHeld => ?_)
  clear hK K
  refine wpAnyF_ready (rs := [11]) (by kernel_rfl) (by simp) ?_
  refine AllReadyF.cons rfl (fun K hK => ?_) AllReadyF.nil
  refine step_append_run rfl (.tmp 12) (.tmp 18) 29 29 rfl (v := .slice a E.length c) (u := .slice (some ⟨w.heap.size, 0, none⟩) 1 1) (by kernel_rfl) (by kernel_rfl) HR.out ?_
  simp only [Act.put]
  refine hK.out _ _ (HS2.out) (fun hHeld => ?_)
  clear hK K
  refine wpAnyF_take [14, 13] (by kernel_rfl) (i := 12) (v := ?ve11) rfl (by kernel_rfl) (by kernel_rfl) (by kernel_rfl) (fun _ _ _ h => h) (Or.inl ⟨by kernel_rfl, ?hye11⟩) hHeld ?reste11
  case hye11 => intro w' hSw; (try dsimp only at hSw); go_simp; try with_reducible rfl
  simp only [Act.put]
  refine wpAnyF_take [14] (by kernel_rfl) (i := 13) (v := ?ve12) rfl (by kernel_rfl) (by kernel_rfl) (by kernel_rfl) (fun _ _ _ h => h) (Or.inl ⟨by kernel_rfl, ?hye12⟩) hHeld ?reste12
  case hye12 => intro w' hSw; (try dsimp only at hSw); go_simp; try with_reducible rfl
  simp only [Act.put]
  refine wpAnyF_ready (rs := [14]) (by kernel_rfl) (by simp) ?_
  refine AllReadyF.last rfl (fun K hK => ?_)
  have q2 := HS2.out.2; have qz := HFz.out 3
  go_simp
  refine hK.out _ _ ?_
  clear hK K
  refine wpAnyF_done (by kernel_rfl) ?_ _
  clear HR HSS HS2 HFz
  generalize w2.setCell ⟨gb, 3, none⟩ (.slice (some ⟨g, 0, none⟩) (E.length + 1) cap) = w3 at *
  have hlt := (List.getElem?_eq_some_iff.1 hn).1
  have hlt' : (n : Int) < T.length := by omega
  have HT3 := hide_ (HT.out.kp hbase HKp.out)
  have HC3 := hide_ (HC.out.kp hbase HKp.out)
  have HL3 := hide_ (HL.out.kp hbase HKp.out)
  have hb3 : B ≤ w3.heap.size := Nat.le_trans hbase HKp.out.size
  obtain ⟨bT, oT, va, vc, rfl, hvc, -, htc⟩ := HC3.out n _ hn
  obtain ⟨hcc, -⟩ := htc w3 (Below.refl _ _)
  have i0 := hcc 0 (by decide); have i1 := hcc 1 (by decide); have i2 := hcc 2 (by decide); have i3 := hcc 3 (by decide)
  simp [tyc] at i0 i1 i2 i3
  obtain ⟨vC3, vE3, kb3, -, -, -⟩ := HM.out.bd
  have ib := kb3.cell 0
  simp at ib
  obtain ⟨w4, hw4⟩ : ∃ wx, wx = w3.alloc (.cells #[.int .i64 3, .int .i64 nn, .int .i64 el, .slice va ps.length vc] 54) := ⟨_, rfl⟩
  have hB4 : Below w3.heap.size w3 w4 := by rw [hw4]; exact below1 _ _
  have kt : Blk w4 w3.heap.size 54 [.int .i64 3, .int .i64 nn, .int .i64 el, .slice va ps.length vc] := by rw [hw4]; exact Blk.newA w3 _ _
  obtain ⟨w5, hw5⟩ : ∃ wx, wx = w4.alloc (.cells #[.bool false, .int .i64 0, .slice none 0 0] 83) := ⟨_, rfl⟩
  have hB5 : Below w4.heap.size w4 w5 := by rw [hw5]; exact below1 _ _
  obtain ⟨g4, hg4⟩ : ∃ g, g = w4.heap.size := ⟨_, rfl⟩
  have HM5 : Hid (Mb w5 B gb (.slice (some ⟨bT, oT, none⟩) T.length cT) (.slice aL nL cL) C (E ++ [(C.length : Int)]) [⟨g4, 0, false, 0, .slice none 0 0, []⟩]) := hide_ (by
    have := (HM.out.later hB4).new
    rw [← hw5, ← hg4] at this
    exact this)
  have HK45 : Hid (Kp B w3 w5) := hide_ ((Kp.later hB4).then hB5)
  have HK5 := hide_ (HKp.out.trans HK45.out)
  have HT5 := hide_ (HT3.out.kp hb3 HK45.out)
  have HC5 := hide_ (HC3.out.kp hb3 HK45.out)
  have HL5 := hide_ (HL3.out.kp hb3 HK45.out)
  have hb5 : B ≤ w5.heap.size := Nat.le_trans hb3 HK45.out.size
  have HKt := hide_ (kt.later hB5)
  clear htc hcc kb3 kt hB4 hB5 HM HKp HT3 HC3 HL3 HT HC HL HK45
  go_upto_region 2 with fail
  rw [← hw4]
  clear hw4 i0 i1 i2 i3 ib
  go_upto_region 4 with fail
  rw [← hw5, ← hg4]
  clear hw5 hg4
  have j0 := HKt.out.cell 0; have j2 := HKt.out.cell 2; have j3 := HKt.out.cell 3
  simp at j0 j2 j3
  have HBod : Hid (bodP T X ⟨3, nn, el, ps⟩ (n : Int) (C.length : Int) = [rdP T (-1) (n : Int)]) := hide_ (by simp [bodP])
  have HRd := hide_ (read_any B gb _ cT T _ C _ [⟨g4, 0, false, 0, .slice none 0 0, []⟩] (-1) n _ w5 (by omega) hn HT5 HM5)
  go_upto_region 19 with (go_at_call 31; refine HRd.out.mono ?_; rintro e w6 ⟨rfl, HM6a, HK6⟩)
  have HB6 : Hid (BodyTo B gb (.slice (some ⟨bT, oT, none⟩) T.length cT) (.slice aL nL cL) C (E ++ [(C.length : Int)]) ⟨g4, 0, false, 0, .slice none 0 0, []⟩ [rdP T (-1) (n : Int)] w6) := hide_ ⟨[rdP T (-1) (n : Int)], [], _, HM6a.out, by simp, fun k hk => (by cases hk), rfl, rfl⟩
  clear HRd HM6a HT5 HC5 HL5
  obtain ⟨U, W, v, hm6, hw1, hw2, hpat, hul⟩ := HB6.out
  have HM6 := hide_ hm6
  have HW2 := hide_ hw2
  have HPat := hide_ hpat
  have HUl := hide_ hul
  have hUn : U.length = 1 := by rw [hul]; rfl
  clear hm6 hw2 hpat hul
  have HSt := hide_ (set_any B gb _ _ (C ++ U) _ [] [] ⟨g4, 0, false, 0, v, W⟩ w6 (by rw [List.length_append]; omega) (by show W.length ≤ _; omega) (hide_ HW2.out) (hide_ HM6.out))
  go_upto_region 20 with (go_at_call 35; refine HSt.out.mono ?_; rintro e w7 ⟨rfl, HM7, HK7⟩)
  have hM7 := HM7.out
  have hpt := HPat.out
  rw [show patL ((C ++ U).length : Int) (⟨g4, 0, false, 0, v, W⟩ : Mk).W (C ++ U) = _ from hpt] at hM7
  have HLr := hide_ (lay_any B gb _ _ _ _ _ ⟨20, 0, 0, 0⟩ w7 (by rw [List.length_append, ← HUl.out]; omega) (hide_ hM7))
  clear HSt hM7 hpt HM7
  go_wp2_with (go_at_call 36; refine HLr.out.mono ?_; rintro e w8 ⟨rfl, HM8, HK8⟩)
  go_end0
  exact ⟨rfl, hide_ (by rw [rtnP, HBod.out, ← List.append_assoc]; exact HM8.out.sub (List.nil_sublist _)), hide_ (HK5.out.trans (HK6.out.trans (HK7.out.trans HK8.out)))⟩
set_option maxRecDepth 100000 in
set_option maxHeartbeats 8000000 in
theorem routine_6 (B gb : Nat) (aT aL : Option Addr) (cT nL cL : Nat) (T : List Ty) (X : List Ex) (C : List In) (E : List Int) (n : Nat) (nn el : Int) (ps : List Pt) (w : World) (hl : C.length ≤ 700000000) (hE : E.length ≤ 1000000000) (hnL : T.length = nL) (hn : T[n]? = some ⟨6, nn, el, ps⟩) (hok : Hid (tyOk ⟨6, nn, el, ps⟩ (n : Int) = true)) (HT : Hid (Tb B w aT T)) (HC : Hid (Tc B w aT T)) (HL : Hid (Lc B w aL (T.map (layP X)))) (h : Hid (Mb w B gb (.slice aT T.length cT) (.slice aL nL cL) C E [])) :
    Calls Try.prog 19 #[.pointer (some ⟨gb, 0, none⟩), .int .i64 (n : Int)] w fun e w' => e = .returned (.tuple #[]) ∧ Hid (Mb w' B gb (.slice aT T.length cT) (.slice aL nL cL) (C ++ rtnP T X ⟨6, nn, el, ps⟩ (n : Int) (C.length : Int)) (E ++ [(C.length : Int)]) []) ∧ Hid (Kp B w w') := by
  obtain ⟨a, c, vC, g, cap, w2, kb, ⟨ac, cc, hvc⟩, r1, kb2, hM, hK⟩ := (h.out.later ((Below.refl _ _).drew)).entry (C.length : Int) hE
  subst hvc
  have hbase := h.out.base
  have HSS : Hid (∀ w', Below w.heap.size w w' → (fun w' => w'.cell? ⟨gb, 2, none⟩ = some (.slice ac C.length cc) ∧ w'.cell? ⟨gb, 3, none⟩ = some (.slice a E.length c)) w') := hide_ (fun w' hb => by
    have x2 := (Blk.later (w := w) kb hb).cell 2; have x3 := (Blk.later (w := w) kb hb).cell 3
    simp at x2 x3
    exact ⟨x2, x3⟩)
  have HS2 : Hid ((fun w' => w'.cell? ⟨gb, 2, none⟩ = some (.slice ac C.length cc) ∧ w'.cell? ⟨gb, 3, none⟩ = some (.slice a E.length c)) w2) := hide_ (by
    have x2 := kb2.cell 2; have x3 := kb2.cell 3
    simp at x2 x3
    exact ⟨x2, x3⟩)
  have HFz := hide_ (fun o => kb2.frozen o)
  have HR := hide_ r1
  have HM := hide_ hM
  have HKp : Hid (Kp B w _) := hide_ ((Kp.later ((Below.refl w.heap.size w).drew)).trans hK)
  have HNL := hide_ hnL
  clear r1 hM hK kb kb2 h hnL
  go_enter Try.func19, Try.ntmps19
  go_upto_region 0 with fail
  refine wp_region_last 14 (fun w' => w'.cell? ⟨gb, 2, none⟩ = some (.slice ac C.length cc) ∧ w'.cell? ⟨gb, 3, none⟩ = some (.slice a E.length c)) (by kernel_rfl) (HSS.out _ ((Below.refl w.heap.size w).drew)) (fun hHeld => ?_)
  refine wpAnyF_take [14] (by kernel_rfl) (i := 0) (v := ?ve1) rfl (by kernel_rfl) (by kernel_rfl) (by kernel_rfl) (fun _ _ _ h => h) (Or.inl ⟨by kernel_rfl, ?hye1⟩) hHeld ?reste1
  case hye1 => intro w' hSw; (try dsimp only at hSw); go_simp; try with_reducible rfl
  simp only [Act.put]
  refine wpAnyF_take [14] (by kernel_rfl) (i := 1) (v := ?ve2) rfl (by kernel_rfl) (by kernel_rfl) (by kernel_rfl) (fun _ _ _ h => h) (Or.inl ⟨by kernel_rfl, ?hye2⟩) hHeld ?reste2
  case hye2 => intro w' hSw; (try dsimp only at hSw); go_simp; try with_reducible rfl
  simp only [Act.put]
  refine wpAnyF_take [14] (by kernel_rfl) (i := 2) (v := ?ve3) rfl (by kernel_rfl) (by kernel_rfl) (by kernel_rfl) (fun _ _ _ h => h) (Or.inl ⟨by kernel_rfl, ?hye3⟩) hHeld ?reste3
  case hye3 => intro w' hSw; (try dsimp only at hSw); go_simp; try with_reducible rfl
  simp only [Act.put]
  refine wpAnyF_take [14] (by kernel_rfl) (i := 3) (v := ?ve4) rfl (by kernel_rfl) (by kernel_rfl) (by kernel_rfl) (fun _ _ _ h => h) (Or.inl ⟨by kernel_rfl, ?hye4⟩) hHeld ?reste4
  case hye4 => intro w' hSw; (try dsimp only at hSw); go_simp; try with_reducible rfl
  simp only [Act.put]
  refine wpAnyF_take [14] (by kernel_rfl) (i := 4) (v := ?ve5) rfl (by kernel_rfl) (by kernel_rfl) (by kernel_rfl) (fun _ _ _ h => h) (Or.inl ⟨by kernel_rfl, ?hye5⟩) hHeld ?reste5
  case hye5 => intro w' hSw; (try dsimp only at hSw); go_simp; try with_reducible rfl
  simp only [Act.put]
  refine wpAnyF_take [14] (by kernel_rfl) (i := 5) (v := ?ve6) rfl (by kernel_rfl) (by kernel_rfl) (by kernel_rfl) (fun _ _ _ h => h) (Or.inl ⟨by kernel_rfl, ?hye6⟩) hHeld ?reste6
  case hye6 => intro w' hSw; (try dsimp only at hSw); go_simp; try with_reducible rfl
  simp only [Act.put]
  refine wpAnyF_take [14] (by kernel_rfl) (i := 6) (v := ?ve7) rfl (by kernel_rfl) (by kernel_rfl) (by kernel_rfl) (fun _ _ _ h => h) (Or.inl ⟨by kernel_rfl, ?hye7⟩) hHeld ?reste7
  case hye7 => intro w' hSw; (try dsimp only at hSw); go_simp; try with_reducible rfl
  simp only [Act.put]
  refine wpAnyF_take [14] (by kernel_rfl) (i := 7) (v := ?ve8) rfl (by kernel_rfl) (by kernel_rfl) (by kernel_rfl) (fun _ _ _ h => h) (Or.inl ⟨by kernel_rfl, ?hye8⟩) hHeld ?reste8
  case hye8 => intro w' hSw; (try dsimp only at hSw); go_simp; try with_reducible rfl
  simp only [Act.put]
  refine wpAnyF_take [14] (by kernel_rfl) (i := 8) (v := ?ve9) rfl (by kernel_rfl) (by kernel_rfl) (by kernel_rfl) (fun _ _ _ h => h) (Or.inl ⟨by kernel_rfl, ?hye9⟩) hHeld ?reste9
  case hye9 => intro w' hSw; (try dsimp only at hSw); go_simp; try with_reducible rfl
  simp only [Act.put]
  refine wpAnyF_take [14] (by kernel_rfl) (i := 9) (v := ?ve10) rfl (by kernel_rfl) (by kernel_rfl) (by kernel_rfl) (fun _ _ _ h => h) (Or.inl ⟨by kernel_rfl, ?hye10⟩) hHeld ?reste10
  case hye10 => intro w' hSw; (try dsimp only at hSw); go_simp; try with_reducible rfl
  simp only [Act.put]
  refine wpAnyF_ready (rs := [10]) (by kernel_rfl) (by simp) ?_
  refine AllReadyF.cons rfl (fun K hK => ?_) AllReadyF.nil
  go_simp
  refine hK.out _ _ (HSS.out _ (below_to ((Below.refl w.heap.size w).drew) (below1 w.drew _))) (fun hHeld => ?_)
  clear hK K
  refine wpAnyF_ready (rs := [11]) (by kernel_rfl) (by simp) ?_
  refine AllReadyF.cons rfl (fun K hK => ?_) AllReadyF.nil
  refine step_append_run rfl (.tmp 12) (.tmp 18) 29 29 rfl (v := .slice a E.length c) (u := .slice (some ⟨w.heap.size, 0, none⟩) 1 1) (by kernel_rfl) (by kernel_rfl) HR.out ?_
  simp only [Act.put]
  refine hK.out _ _ (HS2.out) (fun hHeld => ?_)
  clear hK K
  refine wpAnyF_take [14, 13] (by kernel_rfl) (i := 12) (v := ?ve11) rfl (by kernel_rfl) (by kernel_rfl) (by kernel_rfl) (fun _ _ _ h => h) (Or.inl ⟨by kernel_rfl, ?hye11⟩) hHeld ?reste11
  case hye11 => intro w' hSw; (try dsimp only at hSw); go_simp; try with_reducible rfl
  simp only [Act.put]
  refine wpAnyF_take [14] (by kernel_rfl) (i := 13) (v := ?ve12) rfl (by kernel_rfl) (by kernel_rfl) (by kernel_rfl) (fun _ _ _ h => h) (Or.inl ⟨by kernel_rfl, ?hye12⟩) hHeld ?reste12
  case hye12 => intro w' hSw; (try dsimp only at hSw); go_simp; try with_reducible rfl
  simp only [Act.put]
  refine wpAnyF_ready (rs := [14]) (by kernel_rfl) (by simp) ?_
  refine AllReadyF.last rfl (fun K hK => ?_)
  have q2 := HS2.out.2; have qz := HFz.out 3
  go_simp
  refine hK.out _ _ ?_
  clear hK K
  refine wpAnyF_done (by kernel_rfl) ?_ _
  clear HR HSS HS2 HFz
  generalize w2.setCell ⟨gb, 3, none⟩ (.slice (some ⟨g, 0, none⟩) (E.length + 1) cap) = w3 at *
  have hlt := (List.getElem?_eq_some_iff.1 hn).1
  have hlt' : (n : Int) < T.length := by omega
  have HT3 := hide_ (HT.out.kp hbase HKp.out)
  have HC3 := hide_ (HC.out.kp hbase HKp.out)
  have HL3 := hide_ (HL.out.kp hbase HKp.out)
  have hb3 : B ≤ w3.heap.size := Nat.le_trans hbase HKp.out.size
  obtain ⟨bT, oT, va, vc, rfl, hvc, -, htc⟩ := HC3.out n _ hn
  obtain ⟨hcc, -⟩ := htc w3 (Below.refl _ _)
  have i0 := hcc 0 (by decide); have i1 := hcc 1 (by decide); have i2 := hcc 2 (by decide); have i3 := hcc 3 (by decide)
  simp [tyc] at i0 i1 i2 i3
  obtain ⟨vC3, vE3, kb3, -, -, -⟩ := HM.out.bd
  have ib := kb3.cell 0
  simp at ib
  obtain ⟨w4, hw4⟩ : ∃ wx, wx = w3.alloc (.cells #[.int .i64 6, .int .i64 nn, .int .i64 el, .slice va ps.length vc] 54) := ⟨_, rfl⟩
  have hB4 : Below w3.heap.size w3 w4 := by rw [hw4]; exact below1 _ _
  have kt : Blk w4 w3.heap.size 54 [.int .i64 6, .int .i64 nn, .int .i64 el, .slice va ps.length vc] := by rw [hw4]; exact Blk.newA w3 _ _
  obtain ⟨w5, hw5⟩ : ∃ wx, wx = w4.alloc (.cells #[.bool false, .int .i64 0, .slice none 0 0] 83) := ⟨_, rfl⟩
  have hB5 : Below w4.heap.size w4 w5 := by rw [hw5]; exact below1 _ _
  obtain ⟨g4, hg4⟩ : ∃ g, g = w4.heap.size := ⟨_, rfl⟩
  have HM5 : Hid (Mb w5 B gb (.slice (some ⟨bT, oT, none⟩) T.length cT) (.slice aL nL cL) C (E ++ [(C.length : Int)]) [⟨g4, 0, false, 0, .slice none 0 0, []⟩]) := hide_ (by
    have := (HM.out.later hB4).new
    rw [← hw5, ← hg4] at this
    exact this)
  have HK45 : Hid (Kp B w3 w5) := hide_ ((Kp.later hB4).then hB5)
  have HK5 := hide_ (HKp.out.trans HK45.out)
  have HT5 := hide_ (HT3.out.kp hb3 HK45.out)
  have HC5 := hide_ (HC3.out.kp hb3 HK45.out)
  have HL5 := hide_ (HL3.out.kp hb3 HK45.out)
  have hb5 : B ≤ w5.heap.size := Nat.le_trans hb3 HK45.out.size
  have HKt := hide_ (kt.later hB5)
  clear htc hcc kb3 kt hB4 hB5 HM HKp HT3 HC3 HL3 HT HC HL HK45
  go_upto_region 2 with fail
  rw [← hw4]
  clear hw4 i0 i1 i2 i3 ib
  go_upto_region 4 with fail
  rw [← hw5, ← hg4]
  clear hw5 hg4
  have j0 := HKt.out.cell 0; have j2 := HKt.out.cell 2; have j3 := HKt.out.cell 3
  simp at j0 j2 j3
  have HBod : Hid (bodP T X ⟨6, nn, el, ps⟩ (n : Int) (C.length : Int) = [⟨7, 0, (C.length : Int) + 2, 0⟩, rdP T 0 el]) := hide_ (by simp [bodP])
  obtain ⟨en, t2, he1, he2⟩ : ∃ (en : Nat) (t2 : Ty), el = (en : Int) ∧ T[en]? = some t2 := elem_at hok.out (by decide) hlt
  subst he1
  have HL1 := hide_ (layTo_new B gb _ _ C _ [] [] ⟨g4, 0, false, 0, .slice none 0 0, []⟩ 7 0 w5 (by omega) (by simp) rfl HM5)
  go_upto_region 14 with (go_at_call 30; refine HL1.out.mono ?_; rintro e w5a ⟨rfl, HM5a, HK5a⟩)
  obtain ⟨v5, hM5a⟩ := HM5a.out
  have HT5a := hide_ (HT5.out.kp hb5 HK5a.out)
  have HRd := hide_ (fun w' (hb : Below w5a.heap.size w5a w') => read_any B gb _ cT T _ _ _ _ 0 en t2 w' (by simp; omega) he2 (hide_ (HT5a.out.kp (Nat.le_trans hb5 HK5a.out.size) (Kp.later hb))) (hide_ (hM5a.later hb)))
  have HKt6 := hide_ (HK5a.out.blk HKt.out (by unfold own4; decide))
  clear j0 j2 j3
  have j2 := HKt6.out.cell 2
  simp at j2
  have HSo : Hid (∀ w', Below w5a.heap.size w5a w' → w'.cell? ⟨w3.heap.size, 2, none⟩ = some (.int .i64 (en : Int))) := hide_ (fun w' hb => by have x2 := (HKt6.out.later hb).cell 2; simpa using x2)
  clear j2
  refine wp_region_last 3 (fun w' => w'.cell? ⟨w3.heap.size, 2, none⟩ = some (.int .i64 (en : Int))) (by kernel_rfl) (HSo.out _ ((Below.refl w5a.heap.size w5a).drew)) (fun hHeld => ?_)
  refine wpAnyF_take [3] (by kernel_rfl) (i := 0) (v := ?vo1) rfl (by kernel_rfl) (by kernel_rfl) (by kernel_rfl) (fun _ _ _ h => h) (Or.inl ⟨by kernel_rfl, ?hyo1⟩) hHeld ?resto1
  case hyo1 => intro w' hSw; (try dsimp only at hSw); go_simp; try with_reducible rfl
  simp only [Act.put]
  refine wpAnyF_take [3] (by kernel_rfl) (i := 1) (v := ?vo2) rfl (by kernel_rfl) (by kernel_rfl) (by kernel_rfl) (fun _ _ _ h => h) (Or.inl ⟨by kernel_rfl, ?hyo2⟩) hHeld ?resto2
  case hyo2 => intro w' hSw; (try dsimp only at hSw); go_simp; try with_reducible rfl
  simp only [Act.put]
  refine wpAnyF_ready (rs := [2]) (by kernel_rfl) (by simp) ?_
  refine AllReadyF.cons rfl (fun K hK => ?_) AllReadyF.nil
  go_simp
  refine hK.out _ _ (hHeld) (fun hHeld => ?_)
  clear hK K
  refine wpAnyF_ready (rs := [3]) (by kernel_rfl) (by simp) ?_
  refine AllReadyF.last rfl (fun K hK => ?_)
  go_simp
  refine hK.out _ _ ?_
  clear hK K
  refine wpAnyF_done (by kernel_rfl) ?_ _
  clear HSo
  go_upto_region 19 with (go_at_call 31; refine (HRd.out _ ((Below.refl w5a.heap.size w5a).drew)).mono ?_; rintro e w6 ⟨rfl, HM6a, HK6a⟩)
  have HK6 := hide_ (HK5a.out.trans ((Kp.later ((Below.refl w5a.heap.size w5a).drew)).trans HK6a.out))
  have HB6 : Hid (BodyTo B gb (.slice (some ⟨bT, oT, none⟩) T.length cT) (.slice aL nL cL) C (E ++ [(C.length : Int)]) ⟨g4, 0, false, 0, .slice none 0 0, []⟩ [⟨7, 0, (C.length : Int) + 2, 0⟩, rdP T 0 (en : Int)] w6) := hide_ (by
    refine ⟨[⟨7, 0, 0, 0⟩, rdP T 0 (en : Int)], [(C.length : Int)], v5, by have := HM6a.out; simpa using this, by simp, fun k hk => ?_, ?_, rfl⟩
    · simp only [List.mem_singleton] at hk
      subst hk
      simp
      omega
    · rw [len_off C [⟨7, 0, 0, 0⟩, rdP T 0 (en : Int)] 2 rfl]
      have := patL_off ((C.length : Int) + ((2 : Nat) : Int)) C [⟨7, 0, 0, 0⟩, rdP T 0 (en : Int)] [⟨7, 0, (C.length : Int) + ((2 : Nat) : Int), 0⟩, rdP T 0 (en : Int)] 0 ⟨7, 0, 0, 0⟩ rfl rfl
      simpa using this)
  clear HRd HM6a HT5 HC5 HL5 hM5a HM5a HL1 HK5a HK6a HT5a
  obtain ⟨U, W, v, hm6, hw1, hw2, hpat, hul⟩ := HB6.out
  have HM6 := hide_ hm6
  have HW2 := hide_ hw2
  have HPat := hide_ hpat
  have HUl := hide_ hul
  have hUn : U.length = 2 := by rw [hul]; rfl
  clear hm6 hw2 hpat hul
  have HSt := hide_ (set_any B gb _ _ (C ++ U) _ [] [] ⟨g4, 0, false, 0, v, W⟩ w6 (by rw [List.length_append]; omega) (by show W.length ≤ _; omega) (hide_ HW2.out) (hide_ HM6.out))
  go_upto_region 20 with (go_at_call 35; refine HSt.out.mono ?_; rintro e w7 ⟨rfl, HM7, HK7⟩)
  have hM7 := HM7.out
  have hpt := HPat.out
  rw [show patL ((C ++ U).length : Int) (⟨g4, 0, false, 0, v, W⟩ : Mk).W (C ++ U) = _ from hpt] at hM7
  have HLr := hide_ (lay_any B gb _ _ _ _ _ ⟨20, 0, 0, 0⟩ w7 (by rw [List.length_append, ← HUl.out]; omega) (hide_ hM7))
  clear HSt hM7 hpt HM7
  go_wp2_with (go_at_call 36; refine HLr.out.mono ?_; rintro e w8 ⟨rfl, HM8, HK8⟩)
  go_end0
  exact ⟨rfl, hide_ (by rw [rtnP, HBod.out, ← List.append_assoc]; exact HM8.out.sub (List.nil_sublist _)), hide_ (HK5.out.trans (HK6.out.trans (HK7.out.trans HK8.out)))⟩
set_option maxRecDepth 100000 in
set_option maxHeartbeats 8000000 in
theorem routine_4 (B gb : Nat) (aT aL : Option Addr) (cT nL cL : Nat) (T : List Ty) (X : List Ex) (C : List In) (E : List Int) (n : Nat) (nn el : Int) (ps : List Pt) (w : World) (hl : C.length ≤ 700000000) (hE : E.length ≤ 1000000000) (hnL : T.length = nL) (hn : T[n]? = some ⟨4, nn, el, ps⟩) (hok : Hid (tyOk ⟨4, nn, el, ps⟩ (n : Int) = true)) (HT : Hid (Tb B w aT T)) (HC : Hid (Tc B w aT T)) (HL : Hid (Lc B w aL (T.map (layP X)))) (h : Hid (Mb w B gb (.slice aT T.length cT) (.slice aL nL cL) C E [])) :
    Calls Try.prog 19 #[.pointer (some ⟨gb, 0, none⟩), .int .i64 (n : Int)] w fun e w' => e = .returned (.tuple #[]) ∧ Hid (Mb w' B gb (.slice aT T.length cT) (.slice aL nL cL) (C ++ rtnP T X ⟨4, nn, el, ps⟩ (n : Int) (C.length : Int)) (E ++ [(C.length : Int)]) []) ∧ Hid (Kp B w w') := by
  obtain ⟨a, c, vC, g, cap, w2, kb, ⟨ac, cc, hvc⟩, r1, kb2, hM, hK⟩ := (h.out.later ((Below.refl _ _).drew)).entry (C.length : Int) hE
  subst hvc
  have hbase := h.out.base
  have HSS : Hid (∀ w', Below w.heap.size w w' → (fun w' => w'.cell? ⟨gb, 2, none⟩ = some (.slice ac C.length cc) ∧ w'.cell? ⟨gb, 3, none⟩ = some (.slice a E.length c)) w') := hide_ (fun w' hb => by
    have x2 := (Blk.later (w := w) kb hb).cell 2; have x3 := (Blk.later (w := w) kb hb).cell 3
    simp at x2 x3
    exact ⟨x2, x3⟩)
  have HS2 : Hid ((fun w' => w'.cell? ⟨gb, 2, none⟩ = some (.slice ac C.length cc) ∧ w'.cell? ⟨gb, 3, none⟩ = some (.slice a E.length c)) w2) := hide_ (by
    have x2 := kb2.cell 2; have x3 := kb2.cell 3
    simp at x2 x3
    exact ⟨x2, x3⟩)
  have HFz := hide_ (fun o => kb2.frozen o)
  have HR := hide_ r1
  have HM := hide_ hM
  have HKp : Hid (Kp B w _) := hide_ ((Kp.later ((Below.refl w.heap.size w).drew)).trans hK)
  have HNL := hide_ hnL
  clear r1 hM hK kb kb2 h hnL
  go_enter Try.func19, Try.ntmps19
  go_upto_region 0 with fail
  refine wp_region_last 14 (fun w' => w'.cell? ⟨gb, 2, none⟩ = some (.slice ac C.length cc) ∧ w'.cell? ⟨gb, 3, none⟩ = some (.slice a E.length c)) (by kernel_rfl) (HSS.out _ ((Below.refl w.heap.size w).drew)) (fun hHeld => ?_)
  refine wpAnyF_take [14] (by kernel_rfl) (i := 0) (v := ?ve1) rfl (by kernel_rfl) (by kernel_rfl) (by kernel_rfl) (fun _ _ _ h => h) (Or.inl ⟨by kernel_rfl, ?hye1⟩) hHeld ?reste1
  case hye1 => intro w' hSw; (try dsimp only at hSw); go_simp; try with_reducible rfl
  simp only [Act.put]
  refine wpAnyF_take [14] (by kernel_rfl) (i := 1) (v := ?ve2) rfl (by kernel_rfl) (by kernel_rfl) (by kernel_rfl) (fun _ _ _ h => h) (Or.inl ⟨by kernel_rfl, ?hye2⟩) hHeld ?reste2
  case hye2 => intro w' hSw; (try dsimp only at hSw); go_simp; try with_reducible rfl
  simp only [Act.put]
  refine wpAnyF_take [14] (by kernel_rfl) (i := 2) (v := ?ve3) rfl (by kernel_rfl) (by kernel_rfl) (by kernel_rfl) (fun _ _ _ h => h) (Or.inl ⟨by kernel_rfl, ?hye3⟩) hHeld ?reste3
  case hye3 => intro w' hSw; (try dsimp only at hSw); go_simp; try with_reducible rfl
  simp only [Act.put]
  refine wpAnyF_take [14] (by kernel_rfl) (i := 3) (v := ?ve4) rfl (by kernel_rfl) (by kernel_rfl) (by kernel_rfl) (fun _ _ _ h => h) (Or.inl ⟨by kernel_rfl, ?hye4⟩) hHeld ?reste4
  case hye4 => intro w' hSw; (try dsimp only at hSw); go_simp; try with_reducible rfl
  simp only [Act.put]
  refine wpAnyF_take [14] (by kernel_rfl) (i := 4) (v := ?ve5) rfl (by kernel_rfl) (by kernel_rfl) (by kernel_rfl) (fun _ _ _ h => h) (Or.inl ⟨by kernel_rfl, ?hye5⟩) hHeld ?reste5
  case hye5 => intro w' hSw; (try dsimp only at hSw); go_simp; try with_reducible rfl
  simp only [Act.put]
  refine wpAnyF_take [14] (by kernel_rfl) (i := 5) (v := ?ve6) rfl (by kernel_rfl) (by kernel_rfl) (by kernel_rfl) (fun _ _ _ h => h) (Or.inl ⟨by kernel_rfl, ?hye6⟩) hHeld ?reste6
  case hye6 => intro w' hSw; (try dsimp only at hSw); go_simp; try with_reducible rfl
  simp only [Act.put]
  refine wpAnyF_take [14] (by kernel_rfl) (i := 6) (v := ?ve7) rfl (by kernel_rfl) (by kernel_rfl) (by kernel_rfl) (fun _ _ _ h => h) (Or.inl ⟨by kernel_rfl, ?hye7⟩) hHeld ?reste7
  case hye7 => intro w' hSw; (try dsimp only at hSw); go_simp; try with_reducible rfl
  simp only [Act.put]
  refine wpAnyF_take [14] (by kernel_rfl) (i := 7) (v := ?ve8) rfl (by kernel_rfl) (by kernel_rfl) (by kernel_rfl) (fun _ _ _ h => h) (Or.inl ⟨by kernel_rfl, ?hye8⟩) hHeld ?reste8
  case hye8 => intro w' hSw; (try dsimp only at hSw); go_simp; try with_reducible rfl
  simp only [Act.put]
  refine wpAnyF_take [14] (by kernel_rfl) (i := 8) (v := ?ve9) rfl (by kernel_rfl) (by kernel_rfl) (by kernel_rfl) (fun _ _ _ h => h) (Or.inl ⟨by kernel_rfl, ?hye9⟩) hHeld ?reste9
  case hye9 => intro w' hSw; (try dsimp only at hSw); go_simp; try with_reducible rfl
  simp only [Act.put]
  refine wpAnyF_take [14] (by kernel_rfl) (i := 9) (v := ?ve10) rfl (by kernel_rfl) (by kernel_rfl) (by kernel_rfl) (fun _ _ _ h => h) (Or.inl ⟨by kernel_rfl, ?hye10⟩) hHeld ?reste10
  case hye10 => intro w' hSw; (try dsimp only at hSw); go_simp; try with_reducible rfl
  simp only [Act.put]
  refine wpAnyF_ready (rs := [10]) (by kernel_rfl) (by simp) ?_
  refine AllReadyF.cons rfl (fun K hK => ?_) AllReadyF.nil
  go_simp
  refine hK.out _ _ (HSS.out _ (below_to ((Below.refl w.heap.size w).drew) (below1 w.drew _))) (fun hHeld => ?_)
  clear hK K
  refine wpAnyF_ready (rs := [11]) (by kernel_rfl) (by simp) ?_
  refine AllReadyF.cons rfl (fun K hK => ?_) AllReadyF.nil
  refine step_append_run rfl (.tmp 12) (.tmp 18) 29 29 rfl (v := .slice a E.length c) (u := .slice (some ⟨w.heap.size, 0, none⟩) 1 1) (by kernel_rfl) (by kernel_rfl) HR.out ?_
  simp only [Act.put]
  refine hK.out _ _ (HS2.out) (fun hHeld => ?_)
  clear hK K
  refine wpAnyF_take [14, 13] (by kernel_rfl) (i := 12) (v := ?ve11) rfl (by kernel_rfl) (by kernel_rfl) (by kernel_rfl) (fun _ _ _ h => h) (Or.inl ⟨by kernel_rfl, ?hye11⟩) hHeld ?reste11
  case hye11 => intro w' hSw; (try dsimp only at hSw); go_simp; try with_reducible rfl
  simp only [Act.put]
  refine wpAnyF_take [14] (by kernel_rfl) (i := 13) (v := ?ve12) rfl (by kernel_rfl) (by kernel_rfl) (by kernel_rfl) (fun _ _ _ h => h) (Or.inl ⟨by kernel_rfl, ?hye12⟩) hHeld ?reste12
  case hye12 => intro w' hSw; (try dsimp only at hSw); go_simp; try with_reducible rfl
  simp only [Act.put]
  refine wpAnyF_ready (rs := [14]) (by kernel_rfl) (by simp) ?_
  refine AllReadyF.last rfl (fun K hK => ?_)
  have q2 := HS2.out.2; have qz := HFz.out 3
  go_simp
  refine hK.out _ _ ?_
  clear hK K
  refine wpAnyF_done (by kernel_rfl) ?_ _
  clear HR HSS HS2 HFz
  generalize w2.setCell ⟨gb, 3, none⟩ (.slice (some ⟨g, 0, none⟩) (E.length + 1) cap) = w3 at *
  have hlt := (List.getElem?_eq_some_iff.1 hn).1
  have hlt' : (n : Int) < T.length := by omega
  have HT3 := hide_ (HT.out.kp hbase HKp.out)
  have HC3 := hide_ (HC.out.kp hbase HKp.out)
  have HL3 := hide_ (HL.out.kp hbase HKp.out)
  have hb3 : B ≤ w3.heap.size := Nat.le_trans hbase HKp.out.size
  obtain ⟨bT, oT, va, vc, rfl, hvc, -, htc⟩ := HC3.out n _ hn
  obtain ⟨hcc, -⟩ := htc w3 (Below.refl _ _)
  have i0 := hcc 0 (by decide); have i1 := hcc 1 (by decide); have i2 := hcc 2 (by decide); have i3 := hcc 3 (by decide)
  simp [tyc] at i0 i1 i2 i3
  obtain ⟨vC3, vE3, kb3, -, -, -⟩ := HM.out.bd
  have ib := kb3.cell 0
  simp at ib
  obtain ⟨w4, hw4⟩ : ∃ wx, wx = w3.alloc (.cells #[.int .i64 4, .int .i64 nn, .int .i64 el, .slice va ps.length vc] 54) := ⟨_, rfl⟩
  have hB4 : Below w3.heap.size w3 w4 := by rw [hw4]; exact below1 _ _
  have kt : Blk w4 w3.heap.size 54 [.int .i64 4, .int .i64 nn, .int .i64 el, .slice va ps.length vc] := by rw [hw4]; exact Blk.newA w3 _ _
  obtain ⟨w5, hw5⟩ : ∃ wx, wx = w4.alloc (.cells #[.bool false, .int .i64 0, .slice none 0 0] 83) := ⟨_, rfl⟩
  have hB5 : Below w4.heap.size w4 w5 := by rw [hw5]; exact below1 _ _
  obtain ⟨g4, hg4⟩ : ∃ g, g = w4.heap.size := ⟨_, rfl⟩
  have HM5 : Hid (Mb w5 B gb (.slice (some ⟨bT, oT, none⟩) T.length cT) (.slice aL nL cL) C (E ++ [(C.length : Int)]) [⟨g4, 0, false, 0, .slice none 0 0, []⟩]) := hide_ (by
    have := (HM.out.later hB4).new
    rw [← hw5, ← hg4] at this
    exact this)
  have HK45 : Hid (Kp B w3 w5) := hide_ ((Kp.later hB4).then hB5)
  have HK5 := hide_ (HKp.out.trans HK45.out)
  have HT5 := hide_ (HT3.out.kp hb3 HK45.out)
  have HC5 := hide_ (HC3.out.kp hb3 HK45.out)
  have HL5 := hide_ (HL3.out.kp hb3 HK45.out)
  have hb5 : B ≤ w5.heap.size := Nat.le_trans hb3 HK45.out.size
  have HKt := hide_ (kt.later hB5)
  clear htc hcc kb3 kt hB4 hB5 HM HKp HT3 HC3 HL3 HT HC HL HK45
  go_upto_region 2 with fail
  rw [← hw4]
  clear hw4 i0 i1 i2 i3 ib
  go_upto_region 4 with fail
  rw [← hw5, ← hg4]
  clear hw5 hg4
  have j0 := HKt.out.cell 0; have j2 := HKt.out.cell 2; have j3 := HKt.out.cell 3
  simp at j0 j2 j3
  have HBod : Hid (bodP T X ⟨4, nn, el, ps⟩ (n : Int) (C.length : Int) = ⟨5, 0, 0, 0⟩ :: (if (exAt X el).f then itF T ⟨4, nn, el, ps⟩ (C.length : Int) else itV ⟨4, nn, el, ps⟩ (layP X ⟨4, nn, el, ps⟩).sz (C.length : Int))) := hide_ (by simp [bodP])
  obtain ⟨en, t2, he1, he2⟩ : ∃ (en : Nat) (t2 : Ty), el = (en : Int) ∧ T[en]? = some t2 := elem_at hok.out (by decide) hlt
  subst he1
  have HIt := hide_ (items_any B gb _ aL cT nL cL T X (T.map (layP X)) C _ ⟨g4, 0, false, 0, .slice none 0 0, []⟩ n 4 nn en ps t2 (layP X ⟨4, nn, (en : Int), ps⟩) w5 (by omega) hn (by rw [List.length_map]; exact HNL.out) (by rw [List.getElem?_map, hn]; rfl) (by simp [layP]) he2 (by decide) rfl rfl rfl HT5 HC5 HL5 HM5)
  go_upto_region 19 with (go_at_call 32; refine HIt.out.mono ?_; rintro e w6 ⟨rfl, HB6, HK6⟩)
  clear HIt HT5 HC5 HL5
  obtain ⟨U, W, v, hm6, hw1, hw2, hpat, hul⟩ := HB6.out
  have HM6 := hide_ hm6
  have HW2 := hide_ hw2
  have HPat := hide_ hpat
  have HUl := hide_ hul
  have hUn : U.length ≤ 9 := by rw [hul]; simp only [List.length_cons]; split <;> simp [itF, itV]
  clear hm6 hw2 hpat hul
  have HSt := hide_ (set_any B gb _ _ (C ++ U) _ [] [] ⟨g4, 0, false, 0, v, W⟩ w6 (by rw [List.length_append]; omega) (by show W.length ≤ _; omega) (hide_ HW2.out) (hide_ HM6.out))
  go_upto_region 20 with (go_at_call 35; refine HSt.out.mono ?_; rintro e w7 ⟨rfl, HM7, HK7⟩)
  have hM7 := HM7.out
  have hpt := HPat.out
  rw [show patL ((C ++ U).length : Int) (⟨g4, 0, false, 0, v, W⟩ : Mk).W (C ++ U) = _ from hpt] at hM7
  have HLr := hide_ (lay_any B gb _ _ _ _ _ ⟨20, 0, 0, 0⟩ w7 (by rw [List.length_append, ← HUl.out]; omega) (hide_ hM7))
  clear HSt hM7 hpt HM7
  go_wp2_with (go_at_call 36; refine HLr.out.mono ?_; rintro e w8 ⟨rfl, HM8, HK8⟩)
  go_end0
  exact ⟨rfl, hide_ (by rw [rtnP, HBod.out, ← List.append_assoc]; exact HM8.out.sub (List.nil_sublist _)), hide_ (HK5.out.trans (HK6.out.trans (HK7.out.trans HK8.out)))⟩
set_option maxRecDepth 100000 in
set_option maxHeartbeats 8000000 in
theorem routine_5 (B gb : Nat) (aT aL : Option Addr) (cT nL cL : Nat) (T : List Ty) (X : List Ex) (C : List In) (E : List Int) (n : Nat) (nn el : Int) (ps : List Pt) (w : World) (hl : C.length ≤ 700000000) (hE : E.length ≤ 1000000000) (hnL : T.length = nL) (hn : T[n]? = some ⟨5, nn, el, ps⟩) (hok : Hid (tyOk ⟨5, nn, el, ps⟩ (n : Int) = true)) (HT : Hid (Tb B w aT T)) (HC : Hid (Tc B w aT T)) (HL : Hid (Lc B w aL (T.map (layP X)))) (h : Hid (Mb w B gb (.slice aT T.length cT) (.slice aL nL cL) C E [])) :
    Calls Try.prog 19 #[.pointer (some ⟨gb, 0, none⟩), .int .i64 (n : Int)] w fun e w' => e = .returned (.tuple #[]) ∧ Hid (Mb w' B gb (.slice aT T.length cT) (.slice aL nL cL) (C ++ rtnP T X ⟨5, nn, el, ps⟩ (n : Int) (C.length : Int)) (E ++ [(C.length : Int)]) []) ∧ Hid (Kp B w w') := by
  obtain ⟨a, c, vC, g, cap, w2, kb, ⟨ac, cc, hvc⟩, r1, kb2, hM, hK⟩ := (h.out.later ((Below.refl _ _).drew)).entry (C.length : Int) hE
  subst hvc
  have hbase := h.out.base
  have HSS : Hid (∀ w', Below w.heap.size w w' → (fun w' => w'.cell? ⟨gb, 2, none⟩ = some (.slice ac C.length cc) ∧ w'.cell? ⟨gb, 3, none⟩ = some (.slice a E.length c)) w') := hide_ (fun w' hb => by
    have x2 := (Blk.later (w := w) kb hb).cell 2; have x3 := (Blk.later (w := w) kb hb).cell 3
    simp at x2 x3
    exact ⟨x2, x3⟩)
  have HS2 : Hid ((fun w' => w'.cell? ⟨gb, 2, none⟩ = some (.slice ac C.length cc) ∧ w'.cell? ⟨gb, 3, none⟩ = some (.slice a E.length c)) w2) := hide_ (by
    have x2 := kb2.cell 2; have x3 := kb2.cell 3
    simp at x2 x3
    exact ⟨x2, x3⟩)
  have HFz := hide_ (fun o => kb2.frozen o)
  have HR := hide_ r1
  have HM := hide_ hM
  have HKp : Hid (Kp B w _) := hide_ ((Kp.later ((Below.refl w.heap.size w).drew)).trans hK)
  have HNL := hide_ hnL
  clear r1 hM hK kb kb2 h hnL
  go_enter Try.func19, Try.ntmps19
  go_upto_region 0 with fail
  refine wp_region_last 14 (fun w' => w'.cell? ⟨gb, 2, none⟩ = some (.slice ac C.length cc) ∧ w'.cell? ⟨gb, 3, none⟩ = some (.slice a E.length c)) (by kernel_rfl) (HSS.out _ ((Below.refl w.heap.size w).drew)) (fun hHeld => ?_)
  refine wpAnyF_take [14] (by kernel_rfl) (i := 0) (v := ?ve1) rfl (by kernel_rfl) (by kernel_rfl) (by kernel_rfl) (fun _ _ _ h => h) (Or.inl ⟨by kernel_rfl, ?hye1⟩) hHeld ?reste1
  case hye1 => intro w' hSw; (try dsimp only at hSw); go_simp; try with_reducible rfl
  simp only [Act.put]
  refine wpAnyF_take [14] (by kernel_rfl) (i := 1) (v := ?ve2) rfl (by kernel_rfl) (by kernel_rfl) (by kernel_rfl) (fun _ _ _ h => h) (Or.inl ⟨by kernel_rfl, ?hye2⟩) hHeld ?reste2
  case hye2 => intro w' hSw; (try dsimp only at hSw); go_simp; try with_reducible rfl
  simp only [Act.put]
  refine wpAnyF_take [14] (by kernel_rfl) (i := 2) (v := ?ve3) rfl (by kernel_rfl) (by kernel_rfl) (by kernel_rfl) (fun _ _ _ h => h) (Or.inl ⟨by kernel_rfl, ?hye3⟩) hHeld ?reste3
  case hye3 => intro w' hSw; (try dsimp only at hSw); go_simp; try with_reducible rfl
  simp only [Act.put]
  refine wpAnyF_take [14] (by kernel_rfl) (i := 3) (v := ?ve4) rfl (by kernel_rfl) (by kernel_rfl) (by kernel_rfl) (fun _ _ _ h => h) (Or.inl ⟨by kernel_rfl, ?hye4⟩) hHeld ?reste4
  case hye4 => intro w' hSw; (try dsimp only at hSw); go_simp; try with_reducible rfl
  simp only [Act.put]
  refine wpAnyF_take [14] (by kernel_rfl) (i := 4) (v := ?ve5) rfl (by kernel_rfl) (by kernel_rfl) (by kernel_rfl) (fun _ _ _ h => h) (Or.inl ⟨by kernel_rfl, ?hye5⟩) hHeld ?reste5
  case hye5 => intro w' hSw; (try dsimp only at hSw); go_simp; try with_reducible rfl
  simp only [Act.put]
  refine wpAnyF_take [14] (by kernel_rfl) (i := 5) (v := ?ve6) rfl (by kernel_rfl) (by kernel_rfl) (by kernel_rfl) (fun _ _ _ h => h) (Or.inl ⟨by kernel_rfl, ?hye6⟩) hHeld ?reste6
  case hye6 => intro w' hSw; (try dsimp only at hSw); go_simp; try with_reducible rfl
  simp only [Act.put]
  refine wpAnyF_take [14] (by kernel_rfl) (i := 6) (v := ?ve7) rfl (by kernel_rfl) (by kernel_rfl) (by kernel_rfl) (fun _ _ _ h => h) (Or.inl ⟨by kernel_rfl, ?hye7⟩) hHeld ?reste7
  case hye7 => intro w' hSw; (try dsimp only at hSw); go_simp; try with_reducible rfl
  simp only [Act.put]
  refine wpAnyF_take [14] (by kernel_rfl) (i := 7) (v := ?ve8) rfl (by kernel_rfl) (by kernel_rfl) (by kernel_rfl) (fun _ _ _ h => h) (Or.inl ⟨by kernel_rfl, ?hye8⟩) hHeld ?reste8
  case hye8 => intro w' hSw; (try dsimp only at hSw); go_simp; try with_reducible rfl
  simp only [Act.put]
  refine wpAnyF_take [14] (by kernel_rfl) (i := 8) (v := ?ve9) rfl (by kernel_rfl) (by kernel_rfl) (by kernel_rfl) (fun _ _ _ h => h) (Or.inl ⟨by kernel_rfl, ?hye9⟩) hHeld ?reste9
  case hye9 => intro w' hSw; (try dsimp only at hSw); go_simp; try with_reducible rfl
  simp only [Act.put]
  refine wpAnyF_take [14] (by kernel_rfl) (i := 9) (v := ?ve10) rfl (by kernel_rfl) (by kernel_rfl) (by kernel_rfl) (fun _ _ _ h => h) (Or.inl ⟨by kernel_rfl, ?hye10⟩) hHeld ?reste10
  case hye10 => intro w' hSw; (try dsimp only at hSw); go_simp; try with_reducible rfl
  simp only [Act.put]
  refine wpAnyF_ready (rs := [10]) (by kernel_rfl) (by simp) ?_
  refine AllReadyF.cons rfl (fun K hK => ?_) AllReadyF.nil
  go_simp
  refine hK.out _ _ (HSS.out _ (below_to ((Below.refl w.heap.size w).drew) (below1 w.drew _))) (fun hHeld => ?_)
  clear hK K
  refine wpAnyF_ready (rs := [11]) (by kernel_rfl) (by simp) ?_
  refine AllReadyF.cons rfl (fun K hK => ?_) AllReadyF.nil
  refine step_append_run rfl (.tmp 12) (.tmp 18) 29 29 rfl (v := .slice a E.length c) (u := .slice (some ⟨w.heap.size, 0, none⟩) 1 1) (by kernel_rfl) (by kernel_rfl) HR.out ?_
  simp only [Act.put]
  refine hK.out _ _ (HS2.out) (fun hHeld => ?_)
  clear hK K
  refine wpAnyF_take [14, 13] (by kernel_rfl) (i := 12) (v := ?ve11) rfl (by kernel_rfl) (by kernel_rfl) (by kernel_rfl) (fun _ _ _ h => h) (Or.inl ⟨by kernel_rfl, ?hye11⟩) hHeld ?reste11
  case hye11 => intro w' hSw; (try dsimp only at hSw); go_simp; try with_reducible rfl
  simp only [Act.put]
  refine wpAnyF_take [14] (by kernel_rfl) (i := 13) (v := ?ve12) rfl (by kernel_rfl) (by kernel_rfl) (by kernel_rfl) (fun _ _ _ h => h) (Or.inl ⟨by kernel_rfl, ?hye12⟩) hHeld ?reste12
  case hye12 => intro w' hSw; (try dsimp only at hSw); go_simp; try with_reducible rfl
  simp only [Act.put]
  refine wpAnyF_ready (rs := [14]) (by kernel_rfl) (by simp) ?_
  refine AllReadyF.last rfl (fun K hK => ?_)
  have q2 := HS2.out.2; have qz := HFz.out 3
  go_simp
  refine hK.out _ _ ?_
  clear hK K
  refine wpAnyF_done (by kernel_rfl) ?_ _
  clear HR HSS HS2 HFz
  generalize w2.setCell ⟨gb, 3, none⟩ (.slice (some ⟨g, 0, none⟩) (E.length + 1) cap) = w3 at *
  have hlt := (List.getElem?_eq_some_iff.1 hn).1
  have hlt' : (n : Int) < T.length := by omega
  have HT3 := hide_ (HT.out.kp hbase HKp.out)
  have HC3 := hide_ (HC.out.kp hbase HKp.out)
  have HL3 := hide_ (HL.out.kp hbase HKp.out)
  have hb3 : B ≤ w3.heap.size := Nat.le_trans hbase HKp.out.size
  obtain ⟨bT, oT, va, vc, rfl, hvc, -, htc⟩ := HC3.out n _ hn
  obtain ⟨hcc, -⟩ := htc w3 (Below.refl _ _)
  have i0 := hcc 0 (by decide); have i1 := hcc 1 (by decide); have i2 := hcc 2 (by decide); have i3 := hcc 3 (by decide)
  simp [tyc] at i0 i1 i2 i3
  obtain ⟨vC3, vE3, kb3, -, -, -⟩ := HM.out.bd
  have ib := kb3.cell 0
  simp at ib
  obtain ⟨w4, hw4⟩ : ∃ wx, wx = w3.alloc (.cells #[.int .i64 5, .int .i64 nn, .int .i64 el, .slice va ps.length vc] 54) := ⟨_, rfl⟩
  have hB4 : Below w3.heap.size w3 w4 := by rw [hw4]; exact below1 _ _
  have kt : Blk w4 w3.heap.size 54 [.int .i64 5, .int .i64 nn, .int .i64 el, .slice va ps.length vc] := by rw [hw4]; exact Blk.newA w3 _ _
  obtain ⟨w5, hw5⟩ : ∃ wx, wx = w4.alloc (.cells #[.bool false, .int .i64 0, .slice none 0 0] 83) := ⟨_, rfl⟩
  have hB5 : Below w4.heap.size w4 w5 := by rw [hw5]; exact below1 _ _
  obtain ⟨g4, hg4⟩ : ∃ g, g = w4.heap.size := ⟨_, rfl⟩
  have HM5 : Hid (Mb w5 B gb (.slice (some ⟨bT, oT, none⟩) T.length cT) (.slice aL nL cL) C (E ++ [(C.length : Int)]) [⟨g4, 0, false, 0, .slice none 0 0, []⟩]) := hide_ (by
    have := (HM.out.later hB4).new
    rw [← hw5, ← hg4] at this
    exact this)
  have HK45 : Hid (Kp B w3 w5) := hide_ ((Kp.later hB4).then hB5)
  have HK5 := hide_ (HKp.out.trans HK45.out)
  have HT5 := hide_ (HT3.out.kp hb3 HK45.out)
  have HC5 := hide_ (HC3.out.kp hb3 HK45.out)
  have HL5 := hide_ (HL3.out.kp hb3 HK45.out)
  have hb5 : B ≤ w5.heap.size := Nat.le_trans hb3 HK45.out.size
  have HKt := hide_ (kt.later hB5)
  clear htc hcc kb3 kt hB4 hB5 HM HKp HT3 HC3 HL3 HT HC HL HK45
  go_upto_region 2 with fail
  rw [← hw4]
  clear hw4 i0 i1 i2 i3 ib
  go_upto_region 4 with fail
  rw [← hw5, ← hg4]
  clear hw5 hg4
  have j0 := HKt.out.cell 0; have j2 := HKt.out.cell 2; have j3 := HKt.out.cell 3
  simp at j0 j2 j3
  have HBod : Hid (bodP T X ⟨5, nn, el, ps⟩ (n : Int) (C.length : Int) = ⟨5, 0, 0, 0⟩ :: (if (exAt X el).f then itF T ⟨5, nn, el, ps⟩ (C.length : Int) else itV ⟨5, nn, el, ps⟩ (layP X ⟨5, nn, el, ps⟩).sz (C.length : Int))) := hide_ (by simp [bodP])
  obtain ⟨en, t2, he1, he2⟩ : ∃ (en : Nat) (t2 : Ty), el = (en : Int) ∧ T[en]? = some t2 := elem_at hok.out (by decide) hlt
  subst he1
  have HIt := hide_ (items_any B gb _ aL cT nL cL T X (T.map (layP X)) C _ ⟨g4, 0, false, 0, .slice none 0 0, []⟩ n 5 nn en ps t2 (layP X ⟨5, nn, (en : Int), ps⟩) w5 (by omega) hn (by rw [List.length_map]; exact HNL.out) (by rw [List.getElem?_map, hn]; rfl) (by simp [layP]) he2 (by decide) rfl rfl rfl HT5 HC5 HL5 HM5)
  go_upto_region 19 with (go_at_call 32; refine HIt.out.mono ?_; rintro e w6 ⟨rfl, HB6, HK6⟩)
  clear HIt HT5 HC5 HL5
  obtain ⟨U, W, v, hm6, hw1, hw2, hpat, hul⟩ := HB6.out
  have HM6 := hide_ hm6
  have HW2 := hide_ hw2
  have HPat := hide_ hpat
  have HUl := hide_ hul
  have hUn : U.length ≤ 9 := by rw [hul]; simp only [List.length_cons]; split <;> simp [itF, itV]
  clear hm6 hw2 hpat hul
  have HSt := hide_ (set_any B gb _ _ (C ++ U) _ [] [] ⟨g4, 0, false, 0, v, W⟩ w6 (by rw [List.length_append]; omega) (by show W.length ≤ _; omega) (hide_ HW2.out) (hide_ HM6.out))
  go_upto_region 20 with (go_at_call 35; refine HSt.out.mono ?_; rintro e w7 ⟨rfl, HM7, HK7⟩)
  have hM7 := HM7.out
  have hpt := HPat.out
  rw [show patL ((C ++ U).length : Int) (⟨g4, 0, false, 0, v, W⟩ : Mk).W (C ++ U) = _ from hpt] at hM7
  have HLr := hide_ (lay_any B gb _ _ _ _ _ ⟨20, 0, 0, 0⟩ w7 (by rw [List.length_append, ← HUl.out]; omega) (hide_ hM7))
  clear HSt hM7 hpt HM7
  go_wp2_with (go_at_call 36; refine HLr.out.mono ?_; rintro e w8 ⟨rfl, HM8, HK8⟩)
  go_end0
  exact ⟨rfl, hide_ (by rw [rtnP, HBod.out, ← List.append_assoc]; exact HM8.out.sub (List.nil_sublist _)), hide_ (HK5.out.trans (HK6.out.trans (HK7.out.trans HK8.out)))⟩
set_option maxRecDepth 100000 in
set_option maxHeartbeats 8000000 in
theorem routine_7 (B gb : Nat) (aT aL : Option Addr) (cT nL cL : Nat) (T : List Ty) (X : List Ex) (C : List In) (E : List Int) (n : Nat) (nn el : Int) (ps : List Pt) (w : World) (hl : C.length ≤ 700000000) (hE : E.length ≤ 1000000000) (hnL : T.length = nL) (hn : T[n]? = some ⟨7, nn, el, ps⟩) (hok : Hid (tyOk ⟨7, nn, el, ps⟩ (n : Int) = true)) (HT : Hid (Tb B w aT T)) (HC : Hid (Tc B w aT T)) (HL : Hid (Lc B w aL (T.map (layP X)))) (h : Hid (Mb w B gb (.slice aT T.length cT) (.slice aL nL cL) C E [])) :
    Calls Try.prog 19 #[.pointer (some ⟨gb, 0, none⟩), .int .i64 (n : Int)] w fun e w' => e = .returned (.tuple #[]) ∧ Hid (Mb w' B gb (.slice aT T.length cT) (.slice aL nL cL) (C ++ rtnP T X ⟨7, nn, el, ps⟩ (n : Int) (C.length : Int)) (E ++ [(C.length : Int)]) []) ∧ Hid (Kp B w w') := by
  obtain ⟨a, c, vC, g, cap, w2, kb, ⟨ac, cc, hvc⟩, r1, kb2, hM, hK⟩ := (h.out.later ((Below.refl _ _).drew)).entry (C.length : Int) hE
  subst hvc
  have hbase := h.out.base
  have HSS : Hid (∀ w', Below w.heap.size w w' → (fun w' => w'.cell? ⟨gb, 2, none⟩ = some (.slice ac C.length cc) ∧ w'.cell? ⟨gb, 3, none⟩ = some (.slice a E.length c)) w') := hide_ (fun w' hb => by
    have x2 := (Blk.later (w := w) kb hb).cell 2; have x3 := (Blk.later (w := w) kb hb).cell 3
    simp at x2 x3
    exact ⟨x2, x3⟩)
  have HS2 : Hid ((fun w' => w'.cell? ⟨gb, 2, none⟩ = some (.slice ac C.length cc) ∧ w'.cell? ⟨gb, 3, none⟩ = some (.slice a E.length c)) w2) := hide_ (by
    have x2 := kb2.cell 2; have x3 := kb2.cell 3
    simp at x2 x3
    exact ⟨x2, x3⟩)
  have HFz := hide_ (fun o => kb2.frozen o)
  have HR := hide_ r1
  have HM := hide_ hM
  have HKp : Hid (Kp B w _) := hide_ ((Kp.later ((Below.refl w.heap.size w).drew)).trans hK)
  have HNL := hide_ hnL
  clear r1 hM hK kb kb2 h hnL
  go_enter Try.func19, Try.ntmps19
  go_upto_region 0 with fail
  refine wp_region_last 14 (fun w' => w'.cell? ⟨gb, 2, none⟩ = some (.slice ac C.length cc) ∧ w'.cell? ⟨gb, 3, none⟩ = some (.slice a E.length c)) (by kernel_rfl) (HSS.out _ ((Below.refl w.heap.size w).drew)) (fun hHeld => ?_)
  refine wpAnyF_take [14] (by kernel_rfl) (i := 0) (v := ?ve1) rfl (by kernel_rfl) (by kernel_rfl) (by kernel_rfl) (fun _ _ _ h => h) (Or.inl ⟨by kernel_rfl, ?hye1⟩) hHeld ?reste1
  case hye1 => intro w' hSw; (try dsimp only at hSw); go_simp; try with_reducible rfl
  simp only [Act.put]
  refine wpAnyF_take [14] (by kernel_rfl) (i := 1) (v := ?ve2) rfl (by kernel_rfl) (by kernel_rfl) (by kernel_rfl) (fun _ _ _ h => h) (Or.inl ⟨by kernel_rfl, ?hye2⟩) hHeld ?reste2
  case hye2 => intro w' hSw; (try dsimp only at hSw); go_simp; try with_reducible rfl
  simp only [Act.put]
  refine wpAnyF_take [14] (by kernel_rfl) (i := 2) (v := ?ve3) rfl (by kernel_rfl) (by kernel_rfl) (by kernel_rfl) (fun _ _ _ h => h) (Or.inl ⟨by kernel_rfl, ?hye3⟩) hHeld ?reste3
  case hye3 => intro w' hSw; (try dsimp only at hSw); go_simp; try with_reducible rfl
  simp only [Act.put]
  refine wpAnyF_take [14] (by kernel_rfl) (i := 3) (v := ?ve4) rfl (by kernel_rfl) (by kernel_rfl) (by kernel_rfl) (fun _ _ _ h => h) (Or.inl ⟨by kernel_rfl, ?hye4⟩) hHeld ?reste4
  case hye4 => intro w' hSw; (try dsimp only at hSw); go_simp; try with_reducible rfl
  simp only [Act.put]
  refine wpAnyF_take [14] (by kernel_rfl) (i := 4) (v := ?ve5) rfl (by kernel_rfl) (by kernel_rfl) (by kernel_rfl) (fun _ _ _ h => h) (Or.inl ⟨by kernel_rfl, ?hye5⟩) hHeld ?reste5
  case hye5 => intro w' hSw; (try dsimp only at hSw); go_simp; try with_reducible rfl
  simp only [Act.put]
  refine wpAnyF_take [14] (by kernel_rfl) (i := 5) (v := ?ve6) rfl (by kernel_rfl) (by kernel_rfl) (by kernel_rfl) (fun _ _ _ h => h) (Or.inl ⟨by kernel_rfl, ?hye6⟩) hHeld ?reste6
  case hye6 => intro w' hSw; (try dsimp only at hSw); go_simp; try with_reducible rfl
  simp only [Act.put]
  refine wpAnyF_take [14] (by kernel_rfl) (i := 6) (v := ?ve7) rfl (by kernel_rfl) (by kernel_rfl) (by kernel_rfl) (fun _ _ _ h => h) (Or.inl ⟨by kernel_rfl, ?hye7⟩) hHeld ?reste7
  case hye7 => intro w' hSw; (try dsimp only at hSw); go_simp; try with_reducible rfl
  simp only [Act.put]
  refine wpAnyF_take [14] (by kernel_rfl) (i := 7) (v := ?ve8) rfl (by kernel_rfl) (by kernel_rfl) (by kernel_rfl) (fun _ _ _ h => h) (Or.inl ⟨by kernel_rfl, ?hye8⟩) hHeld ?reste8
  case hye8 => intro w' hSw; (try dsimp only at hSw); go_simp; try with_reducible rfl
  simp only [Act.put]
  refine wpAnyF_take [14] (by kernel_rfl) (i := 8) (v := ?ve9) rfl (by kernel_rfl) (by kernel_rfl) (by kernel_rfl) (fun _ _ _ h => h) (Or.inl ⟨by kernel_rfl, ?hye9⟩) hHeld ?reste9
  case hye9 => intro w' hSw; (try dsimp only at hSw); go_simp; try with_reducible rfl
  simp only [Act.put]
  refine wpAnyF_take [14] (by kernel_rfl) (i := 9) (v := ?ve10) rfl (by kernel_rfl) (by kernel_rfl) (by kernel_rfl) (fun _ _ _ h => h) (Or.inl ⟨by kernel_rfl, ?hye10⟩) hHeld ?reste10
  case hye10 => intro w' hSw; (try dsimp only at hSw); go_simp; try with_reducible rfl
  simp only [Act.put]
  refine wpAnyF_ready (rs := [10]) (by kernel_rfl) (by simp) ?_
  refine AllReadyF.cons rfl (fun K hK => ?_) AllReadyF.nil
  go_simp
  refine hK.out _ _ (HSS.out _ (below_to ((Below.refl w.heap.size w).drew) (below1 w.drew _))) (fun hHeld => ?_)
  clear hK K
  refine wpAnyF_ready (rs := [11]) (by kernel_rfl) (by simp) ?_
  refine AllReadyF.cons rfl (fun K hK => ?_) AllReadyF.nil
  refine step_append_run rfl (.tmp 12) (.tmp 18) 29 29 rfl (v := .slice a E.length c) (u := .slice (some ⟨w.heap.size, 0, none⟩) 1 1) (by kernel_rfl) (by kernel_rfl) HR.out ?_
  simp only [Act.put]
  refine hK.out _ _ (HS2.out) (fun hHeld => ?_)
  clear hK K
  refine wpAnyF_take [14, 13] (by kernel_rfl) (i := 12) (v := ?ve11) rfl (by kernel_rfl) (by kernel_rfl) (by kernel_rfl) (fun _ _ _ h => h) (Or.inl ⟨by kernel_rfl, ?hye11⟩) hHeld ?reste11
  case hye11 => intro w' hSw; (try dsimp only at hSw); go_simp; try with_reducible rfl
  simp only [Act.put]
  refine wpAnyF_take [14] (by kernel_rfl) (i := 13) (v := ?ve12) rfl (by kernel_rfl) (by kernel_rfl) (by kernel_rfl) (fun _ _ _ h => h) (Or.inl ⟨by kernel_rfl, ?hye12⟩) hHeld ?reste12
  case hye12 => intro w' hSw; (try dsimp only at hSw); go_simp; try with_reducible rfl
  simp only [Act.put]
  refine wpAnyF_ready (rs := [14]) (by kernel_rfl) (by simp) ?_
  refine AllReadyF.last rfl (fun K hK => ?_)
  have q2 := HS2.out.2; have qz := HFz.out 3
  go_simp
  refine hK.out _ _ ?_
  clear hK K
  refine wpAnyF_done (by kernel_rfl) ?_ _
  clear HR HSS HS2 HFz
  generalize w2.setCell ⟨gb, 3, none⟩ (.slice (some ⟨g, 0, none⟩) (E.length + 1) cap) = w3 at *
  have hlt := (List.getElem?_eq_some_iff.1 hn).1
  have hlt' : (n : Int) < T.length := by omega
  have HT3 := hide_ (HT.out.kp hbase HKp.out)
  have HC3 := hide_ (HC.out.kp hbase HKp.out)
  have HL3 := hide_ (HL.out.kp hbase HKp.out)
  have hb3 : B ≤ w3.heap.size := Nat.le_trans hbase HKp.out.size
  obtain ⟨bT, oT, va, vc, rfl, hvc, -, htc⟩ := HC3.out n _ hn
  obtain ⟨hcc, -⟩ := htc w3 (Below.refl _ _)
  have HPr := hide_ (fun w' (hb : Below B w3 w') => (htc w' hb).2)
  have i0 := hcc 0 (by decide); have i1 := hcc 1 (by decide); have i2 := hcc 2 (by decide); have i3 := hcc 3 (by decide)
  simp [tyc] at i0 i1 i2 i3
  obtain ⟨vC3, vE3, kb3, -, -, -⟩ := HM.out.bd
  have ib := kb3.cell 0
  simp at ib
  obtain ⟨w4, hw4⟩ : ∃ wx, wx = w3.alloc (.cells #[.int .i64 7, .int .i64 nn, .int .i64 el, .slice va ps.length vc] 54) := ⟨_, rfl⟩
  have hB4 : Below w3.heap.size w3 w4 := by rw [hw4]; exact below1 _ _
  have kt : Blk w4 w3.heap.size 54 [.int .i64 7, .int .i64 nn, .int .i64 el, .slice va ps.length vc] := by rw [hw4]; exact Blk.newA w3 _ _
  obtain ⟨w5, hw5⟩ : ∃ wx, wx = w4.alloc (.cells #[.bool false, .int .i64 0, .slice none 0 0] 83) := ⟨_, rfl⟩
  have hB5 : Below w4.heap.size w4 w5 := by rw [hw5]; exact below1 _ _
  obtain ⟨g4, hg4⟩ : ∃ g, g = w4.heap.size := ⟨_, rfl⟩
  have HM5 : Hid (Mb w5 B gb (.slice (some ⟨bT, oT, none⟩) T.length cT) (.slice aL nL cL) C (E ++ [(C.length : Int)]) [⟨g4, 0, false, 0, .slice none 0 0, []⟩]) := hide_ (by
    have := (HM.out.later hB4).new
    rw [← hw5, ← hg4] at this
    exact this)
  have HK45 : Hid (Kp B w3 w5) := hide_ ((Kp.later hB4).then hB5)
  have HK5 := hide_ (HKp.out.trans HK45.out)
  have HT5 := hide_ (HT3.out.kp hb3 HK45.out)
  have HC5 := hide_ (HC3.out.kp hb3 HK45.out)
  have HL5 := hide_ (HL3.out.kp hb3 HK45.out)
  have hb5 : B ≤ w5.heap.size := Nat.le_trans hb3 HK45.out.size
  have HKt := hide_ (kt.later hB5)
  have HPr5 := hide_ (fun w' (hb : Below B w5 w') => HPr.out w' ((HK45.out.below hb3).trans hb))
  clear htc hcc kb3 HPr kt hB4 hB5 HM HKp HT3 HC3 HL3 HT HC HL HK45
  go_upto_region 2 with fail
  rw [← hw4]
  clear hw4 i0 i1 i2 i3 ib
  go_upto_region 4 with fail
  rw [← hw5, ← hg4]
  clear hw5 hg4
  have j0 := HKt.out.cell 0; have j2 := HKt.out.cell 2; have j3 := HKt.out.cell 3
  simp at j0 j2 j3
  have HBod : Hid (bodP T X ⟨7, nn, el, ps⟩ (n : Int) (C.length : Int) = armP T ps (C.length : Int)) := hide_ (by simp [bodP])
  obtain ⟨hp0, hpl⟩ := parts_n hok.out (.inl rfl)
  have HAr := hide_ (arms_any B gb _ cT _ T C _ ⟨g4, 0, false, 0, .slice none 0 0, []⟩ ps va vc w5 (by omega) (by omega) hp0 (hide_ (part_at hok.out hlt)) rfl rfl rfl HT5 HPr5 HM5)
  go_upto_region 19 with (go_at_call 33; refine HAr.out.mono ?_; rintro e w6 ⟨rfl, HB6, HK6⟩)
  clear HAr HT5 HC5 HL5
  obtain ⟨U, W, v, hm6, hw1, hw2, hpat, hul⟩ := HB6.out
  have HM6 := hide_ hm6
  have HW2 := hide_ hw2
  have HPat := hide_ hpat
  have HUl := hide_ hul
  have hUn : U.length ≤ 300 := by rw [hul]; simp [armP, hdP_len, bdP_all T ps _ hp0]; omega
  clear hm6 hw2 hpat hul
  have HSt := hide_ (set_any B gb _ _ (C ++ U) _ [] [] ⟨g4, 0, false, 0, v, W⟩ w6 (by rw [List.length_append]; omega) (by show W.length ≤ _; omega) (hide_ HW2.out) (hide_ HM6.out))
  go_upto_region 20 with (go_at_call 35; refine HSt.out.mono ?_; rintro e w7 ⟨rfl, HM7, HK7⟩)
  have hM7 := HM7.out
  have hpt := HPat.out
  rw [show patL ((C ++ U).length : Int) (⟨g4, 0, false, 0, v, W⟩ : Mk).W (C ++ U) = _ from hpt] at hM7
  have HLr := hide_ (lay_any B gb _ _ _ _ _ ⟨20, 0, 0, 0⟩ w7 (by rw [List.length_append, ← HUl.out]; omega) (hide_ hM7))
  clear HSt hM7 hpt HM7
  go_wp2_with (go_at_call 36; refine HLr.out.mono ?_; rintro e w8 ⟨rfl, HM8, HK8⟩)
  go_end0
  exact ⟨rfl, hide_ (by rw [rtnP, HBod.out, ← List.append_assoc]; exact HM8.out.sub (List.nil_sublist _)), hide_ (HK5.out.trans (HK6.out.trans (HK7.out.trans HK8.out)))⟩
theorem below_drew {B : Nat} {w w' : World} (h : Below B w.drew w') : Below B w w' := ⟨h.os, h.tape, h.output, h.size, h.block⟩
set_option maxRecDepth 100000 in
set_option maxHeartbeats 8000000 in
theorem routine_8 (B gb : Nat) (aT aL : Option Addr) (cT nL cL : Nat) (T : List Ty) (X : List Ex) (C : List In) (E : List Int) (n : Nat) (nn el : Int) (ps : List Pt) (w : World) (hl : C.length ≤ 700000000) (hE : E.length ≤ 1000000000) (hnL : T.length = nL) (hn : T[n]? = some ⟨8, nn, el, ps⟩) (hok : Hid (tyOk ⟨8, nn, el, ps⟩ (n : Int) = true)) (HT : Hid (Tb B w aT T)) (HC : Hid (Tc B w aT T)) (HL : Hid (Lc B w aL (T.map (layP X)))) (h : Hid (Mb w B gb (.slice aT T.length cT) (.slice aL nL cL) C E [])) :
    Calls Try.prog 19 #[.pointer (some ⟨gb, 0, none⟩), .int .i64 (n : Int)] w fun e w' => e = .returned (.tuple #[]) ∧ Hid (Mb w' B gb (.slice aT T.length cT) (.slice aL nL cL) (C ++ rtnP T X ⟨8, nn, el, ps⟩ (n : Int) (C.length : Int)) (E ++ [(C.length : Int)]) []) ∧ Hid (Kp B w w') := by
  obtain ⟨a, c, vC, g, cap, w2, kb, ⟨ac, cc, hvc⟩, r1, kb2, hM, hK⟩ := (h.out.later ((Below.refl _ _).drew)).entry (C.length : Int) hE
  subst hvc
  have hbase := h.out.base
  have HSS : Hid (∀ w', Below w.heap.size w w' → (fun w' => w'.cell? ⟨gb, 2, none⟩ = some (.slice ac C.length cc) ∧ w'.cell? ⟨gb, 3, none⟩ = some (.slice a E.length c)) w') := hide_ (fun w' hb => by
    have x2 := (Blk.later (w := w) kb hb).cell 2; have x3 := (Blk.later (w := w) kb hb).cell 3
    simp at x2 x3
    exact ⟨x2, x3⟩)
  have HS2 : Hid ((fun w' => w'.cell? ⟨gb, 2, none⟩ = some (.slice ac C.length cc) ∧ w'.cell? ⟨gb, 3, none⟩ = some (.slice a E.length c)) w2) := hide_ (by
    have x2 := kb2.cell 2; have x3 := kb2.cell 3
    simp at x2 x3
    exact ⟨x2, x3⟩)
  have HFz := hide_ (fun o => kb2.frozen o)
  have HR := hide_ r1
  have HM := hide_ hM
  have HKp : Hid (Kp B w _) := hide_ ((Kp.later ((Below.refl w.heap.size w).drew)).trans hK)
  have HNL := hide_ hnL
  clear r1 hM hK kb kb2 h hnL
  go_enter Try.func19, Try.ntmps19
  go_upto_region 0 with fail
  refine wp_region_last 14 (fun w' => w'.cell? ⟨gb, 2, none⟩ = some (.slice ac C.length cc) ∧ w'.cell? ⟨gb, 3, none⟩ = some (.slice a E.length c)) (by kernel_rfl) (HSS.out _ ((Below.refl w.heap.size w).drew)) (fun hHeld => ?_)
  refine wpAnyF_take [14] (by kernel_rfl) (i := 0) (v := ?ve1) rfl (by kernel_rfl) (by kernel_rfl) (by kernel_rfl) (fun _ _ _ h => h) (Or.inl ⟨by kernel_rfl, ?hye1⟩) hHeld ?reste1
  case hye1 => intro w' hSw; (try dsimp only at hSw); go_simp; try with_reducible rfl
  simp only [Act.put]
  refine wpAnyF_take [14] (by kernel_rfl) (i := 1) (v := ?ve2) rfl (by kernel_rfl) (by kernel_rfl) (by kernel_rfl) (fun _ _ _ h => h) (Or.inl ⟨by kernel_rfl, ?hye2⟩) hHeld ?reste2
  case hye2 => intro w' hSw; (try dsimp only at hSw); go_simp; try with_reducible rfl
  simp only [Act.put]
  refine wpAnyF_take [14] (by kernel_rfl) (i := 2) (v := ?ve3) rfl (by kernel_rfl) (by kernel_rfl) (by kernel_rfl) (fun _ _ _ h => h) (Or.inl ⟨by kernel_rfl, ?hye3⟩) hHeld ?reste3
  case hye3 => intro w' hSw; (try dsimp only at hSw); go_simp; try with_reducible rfl
  simp only [Act.put]
  refine wpAnyF_take [14] (by kernel_rfl) (i := 3) (v := ?ve4) rfl (by kernel_rfl) (by kernel_rfl) (by kernel_rfl) (fun _ _ _ h => h) (Or.inl ⟨by kernel_rfl, ?hye4⟩) hHeld ?reste4
  case hye4 => intro w' hSw; (try dsimp only at hSw); go_simp; try with_reducible rfl
  simp only [Act.put]
  refine wpAnyF_take [14] (by kernel_rfl) (i := 4) (v := ?ve5) rfl (by kernel_rfl) (by kernel_rfl) (by kernel_rfl) (fun _ _ _ h => h) (Or.inl ⟨by kernel_rfl, ?hye5⟩) hHeld ?reste5
  case hye5 => intro w' hSw; (try dsimp only at hSw); go_simp; try with_reducible rfl
  simp only [Act.put]
  refine wpAnyF_take [14] (by kernel_rfl) (i := 5) (v := ?ve6) rfl (by kernel_rfl) (by kernel_rfl) (by kernel_rfl) (fun _ _ _ h => h) (Or.inl ⟨by kernel_rfl, ?hye6⟩) hHeld ?reste6
  case hye6 => intro w' hSw; (try dsimp only at hSw); go_simp; try with_reducible rfl
  simp only [Act.put]
  refine wpAnyF_take [14] (by kernel_rfl) (i := 6) (v := ?ve7) rfl (by kernel_rfl) (by kernel_rfl) (by kernel_rfl) (fun _ _ _ h => h) (Or.inl ⟨by kernel_rfl, ?hye7⟩) hHeld ?reste7
  case hye7 => intro w' hSw; (try dsimp only at hSw); go_simp; try with_reducible rfl
  simp only [Act.put]
  refine wpAnyF_take [14] (by kernel_rfl) (i := 7) (v := ?ve8) rfl (by kernel_rfl) (by kernel_rfl) (by kernel_rfl) (fun _ _ _ h => h) (Or.inl ⟨by kernel_rfl, ?hye8⟩) hHeld ?reste8
  case hye8 => intro w' hSw; (try dsimp only at hSw); go_simp; try with_reducible rfl
  simp only [Act.put]
  refine wpAnyF_take [14] (by kernel_rfl) (i := 8) (v := ?ve9) rfl (by kernel_rfl) (by kernel_rfl) (by kernel_rfl) (fun _ _ _ h => h) (Or.inl ⟨by kernel_rfl, ?hye9⟩) hHeld ?reste9
  case hye9 => intro w' hSw; (try dsimp only at hSw); go_simp; try with_reducible rfl
  simp only [Act.put]
  refine wpAnyF_take [14] (by kernel_rfl) (i := 9) (v := ?ve10) rfl (by kernel_rfl) (by kernel_rfl) (by kernel_rfl) (fun _ _ _ h => h) (Or.inl ⟨by kernel_rfl, ?hye10⟩) hHeld ?reste10
  case hye10 => intro w' hSw; (try dsimp only at hSw); go_simp; try with_reducible rfl
  simp only [Act.put]
  refine wpAnyF_ready (rs := [10]) (by kernel_rfl) (by simp) ?_
  refine AllReadyF.cons rfl (fun K hK => ?_) AllReadyF.nil
  go_simp
  refine hK.out _ _ (HSS.out _ (below_to ((Below.refl w.heap.size w).drew) (below1 w.drew _))) (fun hHeld => ?_)
  clear hK K
  refine wpAnyF_ready (rs := [11]) (by kernel_rfl) (by simp) ?_
  refine AllReadyF.cons rfl (fun K hK => ?_) AllReadyF.nil
  refine step_append_run rfl (.tmp 12) (.tmp 18) 29 29 rfl (v := .slice a E.length c) (u := .slice (some ⟨w.heap.size, 0, none⟩) 1 1) (by kernel_rfl) (by kernel_rfl) HR.out ?_
  simp only [Act.put]
  refine hK.out _ _ (HS2.out) (fun hHeld => ?_)
  clear hK K
  refine wpAnyF_take [14, 13] (by kernel_rfl) (i := 12) (v := ?ve11) rfl (by kernel_rfl) (by kernel_rfl) (by kernel_rfl) (fun _ _ _ h => h) (Or.inl ⟨by kernel_rfl, ?hye11⟩) hHeld ?reste11
  case hye11 => intro w' hSw; (try dsimp only at hSw); go_simp; try with_reducible rfl
  simp only [Act.put]
  refine wpAnyF_take [14] (by kernel_rfl) (i := 13) (v := ?ve12) rfl (by kernel_rfl) (by kernel_rfl) (by kernel_rfl) (fun _ _ _ h => h) (Or.inl ⟨by kernel_rfl, ?hye12⟩) hHeld ?reste12
  case hye12 => intro w' hSw; (try dsimp only at hSw); go_simp; try with_reducible rfl
  simp only [Act.put]
  refine wpAnyF_ready (rs := [14]) (by kernel_rfl) (by simp) ?_
  refine AllReadyF.last rfl (fun K hK => ?_)
  have q2 := HS2.out.2; have qz := HFz.out 3
  go_simp
  refine hK.out _ _ ?_
  clear hK K
  refine wpAnyF_done (by kernel_rfl) ?_ _
  clear HR HSS HS2 HFz
  generalize w2.setCell ⟨gb, 3, none⟩ (.slice (some ⟨g, 0, none⟩) (E.length + 1) cap) = w3 at *
  have hlt := (List.getElem?_eq_some_iff.1 hn).1
  have hlt' : (n : Int) < T.length := by omega
  have HT3 := hide_ (HT.out.kp hbase HKp.out)
  have HC3 := hide_ (HC.out.kp hbase HKp.out)
  have HL3 := hide_ (HL.out.kp hbase HKp.out)
  have hb3 : B ≤ w3.heap.size := Nat.le_trans hbase HKp.out.size
  obtain ⟨bT, oT, va, vc, rfl, hvc, -, htc⟩ := HC3.out n _ hn
  obtain ⟨hcc, -⟩ := htc w3 (Below.refl _ _)
  have HPr := hide_ (fun w' (hb : Below B w3 w') => (htc w' hb).2)
  have i0 := hcc 0 (by decide); have i1 := hcc 1 (by decide); have i2 := hcc 2 (by decide); have i3 := hcc 3 (by decide)
  simp [tyc] at i0 i1 i2 i3
  obtain ⟨vC3, vE3, kb3, -, -, -⟩ := HM.out.bd
  have ib := kb3.cell 0
  simp at ib
  obtain ⟨w4, hw4⟩ : ∃ wx, wx = w3.alloc (.cells #[.int .i64 8, .int .i64 nn, .int .i64 el, .slice va ps.length vc] 54) := ⟨_, rfl⟩
  have hB4 : Below w3.heap.size w3 w4 := by rw [hw4]; exact below1 _ _
  have kt : Blk w4 w3.heap.size 54 [.int .i64 8, .int .i64 nn, .int .i64 el, .slice va ps.length vc] := by rw [hw4]; exact Blk.newA w3 _ _
  obtain ⟨w5, hw5⟩ : ∃ wx, wx = w4.alloc (.cells #[.bool false, .int .i64 0, .slice none 0 0] 83) := ⟨_, rfl⟩
  have hB5 : Below w4.heap.size w4 w5 := by rw [hw5]; exact below1 _ _
  obtain ⟨g4, hg4⟩ : ∃ g, g = w4.heap.size := ⟨_, rfl⟩
  have HM5 : Hid (Mb w5 B gb (.slice (some ⟨bT, oT, none⟩) T.length cT) (.slice aL nL cL) C (E ++ [(C.length : Int)]) [⟨g4, 0, false, 0, .slice none 0 0, []⟩]) := hide_ (by
    have := (HM.out.later hB4).new
    rw [← hw5, ← hg4] at this
    exact this)
  have HK45 : Hid (Kp B w3 w5) := hide_ ((Kp.later hB4).then hB5)
  have HK5 := hide_ (HKp.out.trans HK45.out)
  have HT5 := hide_ (HT3.out.kp hb3 HK45.out)
  have HC5 := hide_ (HC3.out.kp hb3 HK45.out)
  have HL5 := hide_ (HL3.out.kp hb3 HK45.out)
  have hb5 : B ≤ w5.heap.size := Nat.le_trans hb3 HK45.out.size
  have HKt := hide_ (kt.later hB5)
  have HPr5 := hide_ (fun w' (hb : Below B w5 w') => HPr.out w' ((HK45.out.below hb3).trans hb))
  clear htc hcc kb3 HPr kt hB4 hB5 HM HKp HT3 HC3 HL3 HT HC HL HK45
  go_upto_region 2 with fail
  rw [← hw4]
  clear hw4 i0 i1 i2 i3 ib
  go_upto_region 4 with fail
  rw [← hw5, ← hg4]
  clear hw5 hg4
  have j0 := HKt.out.cell 0; have j2 := HKt.out.cell 2; have j3 := HKt.out.cell 3
  simp at j0 j2 j3
  have HBod : Hid (bodP T X ⟨8, nn, el, ps⟩ (n : Int) (C.length : Int) = fldP T X ps (layP X ⟨8, nn, el, ps⟩).sz) := hide_ (by simp [bodP])
  obtain ⟨hp0, hpl⟩ := parts_n hok.out (.inr rfl)
  obtain ⟨bL, oL, sa, sc, rfl, hly⟩ := HL5.out n (layP X ⟨8, nn, el, ps⟩) (by rw [List.getElem?_map, hn]; rfl)
  have hnl' : (n : Int) < (nL : Int) := by rw [← HNL.out]; exact hlt'
  obtain ⟨vC5, vE5, kb5, -, -, -⟩ := HM5.out.bd
  have HSL : Hid (∀ w', Below w5.heap.size w5 w' → (fun w' => w'.cell? ⟨w3.heap.size, 3, none⟩ = some (.slice va ps.length vc) ∧ w'.cell? ⟨gb, 1, none⟩ = some (.slice (some ⟨bL, oL, none⟩) nL cL) ∧ w'.cell? ⟨bL, oL + n * 2, none⟩ = some (.int .i64 (layP X ⟨8, nn, el, ps⟩).sz) ∧ w'.cell? ⟨bL, oL + n * 2 + 1, none⟩ = some (.slice sa (layP X ⟨8, nn, el, ps⟩).sl.length sc)) w') := hide_ (fun w' hb => by
    have x3 := (HKt.out.later hb).cell 3; have x1 := (kb5.later hb).cell 1
    simp at x3 x1
    obtain ⟨l0, l1, -⟩ := hly w' (below_le hb hb5)
    exact ⟨x3, x1, l0, l1⟩)
  have hsln : (layP X ⟨8, nn, el, ps⟩).sl.length = ps.length := by simp [layP, rowP_len]
  have HFl := hide_ (fields_any B gb _ cT (.slice (some ⟨bL, oL, none⟩) nL cL) T X C _ ⟨g4, 0, false, 0, .slice none 0 0, []⟩ ps va sa vc sc (layP X ⟨8, nn, el, ps⟩).sz (layP X ⟨8, nn, el, ps⟩).sl w5.drew (by omega) (by omega) hsln (hide_ (fun i p hp => by have := rowP_v X ps i p hp; simpa [layP] using this)) (hide_ (part_at hok.out hlt)) rfl rfl (hide_ (HT5.out.kp hb5 (Kp.later ((Below.refl _ _).drew)))) (hide_ (fun w' hb => HPr5.out w' (below_drew hb))) (hide_ (fun w' hb => (hly w' (below_drew hb)).2.2)) (hide_ (HM5.out.later ((Below.refl _ _).drew))))
  clear hly kb5 hsln
  go_upto_region 18 with fail
  clear j0 j2 j3
  refine wp_region_last 10 (fun w' => w'.cell? ⟨w3.heap.size, 3, none⟩ = some (.slice va ps.length vc) ∧ w'.cell? ⟨gb, 1, none⟩ = some (.slice (some ⟨bL, oL, none⟩) nL cL) ∧ w'.cell? ⟨bL, oL + n * 2, none⟩ = some (.int .i64 (layP X ⟨8, nn, el, ps⟩).sz) ∧ w'.cell? ⟨bL, oL + n * 2 + 1, none⟩ = some (.slice sa (layP X ⟨8, nn, el, ps⟩).sl.length sc)) (by kernel_rfl) (HSL.out _ ((Below.refl w5.heap.size w5).drew)) (fun hHeld => ?_)
  refine wpAnyF_take [10] (by kernel_rfl) (i := 0) (v := ?vg1) rfl (by kernel_rfl) (by kernel_rfl) (by kernel_rfl) (fun _ _ _ h => h) (Or.inl ⟨by kernel_rfl, ?hyg1⟩) hHeld ?restg1
  case hyg1 => intro w' hSw; (try dsimp only at hSw); go_simp; try with_reducible rfl
  simp only [Act.put]
  refine wpAnyF_take [10, 2] (by kernel_rfl) (i := 1) (v := ?vg2) rfl (by kernel_rfl) (by kernel_rfl) (by kernel_rfl) (fun _ _ _ h => h) (Or.inl ⟨by kernel_rfl, ?hyg2⟩) hHeld ?restg2
  case hyg2 => intro w' hSw; (try dsimp only at hSw); go_simp; try with_reducible rfl
  simp only [Act.put]
  refine wpAnyF_take [10] (by kernel_rfl) (i := 2) (v := ?vg3) rfl (by kernel_rfl) (by kernel_rfl) (by kernel_rfl) (fun _ _ _ h => h) (Or.inl ⟨by kernel_rfl, ?hyg3⟩) hHeld ?restg3
  case hyg3 => intro w' hSw; (try dsimp only at hSw); go_simp; try with_reducible rfl
  simp only [Act.put]
  refine wpAnyF_take [10, 9, 8, 6, 5, 4] (by kernel_rfl) (i := 3) (v := ?vg4) rfl (by kernel_rfl) (by kernel_rfl) (by kernel_rfl) (fun _ _ _ h => h) (Or.inl ⟨by kernel_rfl, ?hyg4⟩) hHeld ?restg4
  case hyg4 => intro w' hSw; (try dsimp only at hSw); go_simp; try with_reducible rfl
  simp only [Act.put]
  refine wpAnyF_take [10, 9, 8, 6, 5] (by kernel_rfl) (i := 4) (v := ?vg5) rfl (by kernel_rfl) (by kernel_rfl) (by kernel_rfl) (fun _ _ _ h => h) (Or.inl ⟨by kernel_rfl, ?hyg5⟩) hHeld ?restg5
  case hyg5 => intro w' hSw; (try dsimp only at hSw); go_simp; try with_reducible rfl
  simp only [Act.put]
  refine wpAnyF_take [10, 9, 8, 6] (by kernel_rfl) (i := 5) (v := ?vg6) rfl (by kernel_rfl) (by kernel_rfl) (by kernel_rfl) (fun _ _ _ h => h) (Or.inl ⟨by kernel_rfl, ?hyg6⟩) hHeld ?restg6
  case hyg6 => intro w' hSw; (try dsimp only at hSw); go_simp; try with_reducible rfl
  simp only [Act.put]
  refine wpAnyF_take [10, 9, 8] (by kernel_rfl) (i := 6) (v := ?vg7) rfl (by kernel_rfl) (by kernel_rfl) (by kernel_rfl) (fun _ _ _ h => h) (Or.inl ⟨by kernel_rfl, ?hyg7⟩) hHeld ?restg7
  case hyg7 => intro w' hSw; (try dsimp only at hSw); go_simp; try with_reducible rfl
  simp only [Act.put]
  refine wpAnyF_take [10, 9, 8] (by kernel_rfl) (i := 7) (v := ?vg8) rfl (by kernel_rfl) (by kernel_rfl) (by kernel_rfl) (fun _ _ _ h => h) (Or.inl ⟨by kernel_rfl, ?hyg8⟩) hHeld ?restg8
  case hyg8 => intro w' hSw; (try dsimp only at hSw); go_simp; try with_reducible rfl
  simp only [Act.put]
  refine wpAnyF_take [10, 9] (by kernel_rfl) (i := 8) (v := ?vg9) rfl (by kernel_rfl) (by kernel_rfl) (by kernel_rfl) (fun _ _ _ h => h) (Or.inl ⟨by kernel_rfl, ?hyg9⟩) hHeld ?restg9
  case hyg9 => intro w' hSw; (try dsimp only at hSw); go_simp; try with_reducible rfl
  simp only [Act.put]
  refine wpAnyF_take [10] (by kernel_rfl) (i := 9) (v := ?vg10) rfl (by kernel_rfl) (by kernel_rfl) (by kernel_rfl) (fun _ _ _ h => h) (Or.inl ⟨by kernel_rfl, ?hyg10⟩) hHeld ?restg10
  case hyg10 => intro w' hSw; (try dsimp only at hSw); go_simp; try with_reducible rfl
  simp only [Act.put]
  refine wpAnyF_ready (rs := [10]) (by kernel_rfl) (by simp) ?_
  refine AllReadyF.last rfl (fun K hK => ?_)
  go_simp
  refine HFl.out.mono ?_
  rintro e w6 ⟨rfl, HB6, HK6a⟩
  dsimp only
  refine hK.out _ _ ?_
  clear hK K
  refine wpAnyF_done (by kernel_rfl) ?_ _
  clear HSL HFl HT5 HC5 HL5
  have HK6 := hide_ ((Kp.later ((Below.refl w5.heap.size w5).drew)).trans HK6a.out)
  obtain ⟨U, W, v, hm6, hw1, hw2, hpat, hul⟩ := HB6.out
  have HM6 := hide_ hm6
  have HW2 := hide_ hw2
  have HPat := hide_ hpat
  have HUl := hide_ hul
  have hUn : U.length ≤ 300 := by rw [hul]; have := vrN_le X ps ps.length; simp [fldP, fxP_len, vrP_len]; omega
  clear hm6 hw2 hpat hul
  have HSt := hide_ (set_any B gb _ _ (C ++ U) _ [] [] ⟨g4, 0, false, 0, v, W⟩ w6 (by rw [List.length_append]; omega) (by show W.length ≤ _; omega) (hide_ HW2.out) (hide_ HM6.out))
  go_upto_region 20 with (go_at_call 35; refine HSt.out.mono ?_; rintro e w7 ⟨rfl, HM7, HK7⟩)
  have hM7 := HM7.out
  have hpt := HPat.out
  rw [show patL ((C ++ U).length : Int) (⟨g4, 0, false, 0, v, W⟩ : Mk).W (C ++ U) = _ from hpt] at hM7
  have HLr := hide_ (lay_any B gb _ _ _ _ _ ⟨20, 0, 0, 0⟩ w7 (by rw [List.length_append, ← HUl.out]; omega) (hide_ hM7))
  clear HSt hM7 hpt HM7
  go_wp2_with (go_at_call 36; refine HLr.out.mono ?_; rintro e w8 ⟨rfl, HM8, HK8⟩)
  go_end0
  exact ⟨rfl, hide_ (by rw [rtnP, HBod.out, ← List.append_assoc]; exact HM8.out.sub (List.nil_sublist _)), hide_ (HK5.out.trans (HK6.out.trans (HK7.out.trans HK8.out)))⟩
end Go.Proofs.Ytepmgbfdmbogiaa
