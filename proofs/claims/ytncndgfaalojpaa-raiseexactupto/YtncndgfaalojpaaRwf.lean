/- Raise: routine. -/
import Derived.Test.YtncndgfaalojpaaRwe
namespace Go.Proofs.Ytncndgfaalojpaa
open Go.RowKit
set_option linter.unusedVariables false

theorem elem_at {T : List Ty} {n : Nat} {k nn el : Int} {ps : List Pt} (h : tyOk ⟨k, nn, el, ps⟩ (n : Int) = true) (hk : hasE k = true) (hn : n < T.length) : ∃ (en : Nat) (t2 : Ty), el = (en : Int) ∧ T[en]? = some t2 := by
  unfold tyOk at h
  simp only [Bool.and_eq_true] at h
  have h2 := h.1.2
  unfold elemOk at h2
  rw [if_pos hk] at h2
  unfold inB at h2
  have h3 := of_decide_eq_true h2
  refine ⟨el.toNat, T[el.toNat]'(by omega), by omega, List.getElem?_eq_getElem _⟩
theorem parts_n {n : Nat} {k nn el : Int} {ps : List Pt} (h : tyOk ⟨k, nn, el, ps⟩ (n : Int) = true) (hk : k = 7 ∨ k = 8) : 0 < ps.length ∧ ps.length ≤ 64 := by
  unfold tyOk at h
  simp only [Bool.and_eq_true] at h
  have h2 := h.2
  unfold partsOk at h2
  rcases hk with rfl | rfl
  · rw [if_neg (by decide), if_pos rfl] at h2
    unfold allP at h2
    rw [Bool.and_eq_true] at h2
    exact of_decide_eq_true h2.1
  · rw [if_pos rfl] at h2
    unfold allP at h2
    rw [Bool.and_eq_true] at h2
    exact of_decide_eq_true h2.1
theorem part_at {T : List Ty} {n : Nat} {t : Ty} (h : tyOk t (n : Int) = true) (hn : n < T.length) : ∀ (i : Nat) (p : Pt), t.ps[i]? = some p → ∃ (m : Nat) (t : Ty), p.ty = (m : Int) ∧ T[m]? = some t := fun i p hp => by
  obtain ⟨h0, h1⟩ := tyOk_part h hp
  exact ⟨p.ty.toNat, T[p.ty.toNat]'(by omega), by omega, List.getElem?_eq_getElem _⟩
theorem below_trB {B : Nat} {w w2 w' : World} (h : Below w.heap.size w w2) (hb : Below B w2 w') (hB : B ≤ w.heap.size) : Below B w w' := (below_le h hB).trans hb
set_option maxRecDepth 100000 in
set_option maxHeartbeats 8000000 in
theorem routine_any (B gr gp gb : Nat) (aT aL : Option Addr) (cT nL cL : Nat) (T : List Ty) (X : List Ex) (C : List In) (E : List Int) (n : Nat) (k nn el : Int) (ps : List Pt) (w : World) (hl : C.length ≤ 800000000) (hnL : T.length = nL) (hn : T[n]? = some ⟨k, nn, el, ps⟩) (hok : Hid (tyOk ⟨k, nn, el, ps⟩ (n : Int) = true)) (HT : Hid (Tc B w aT T)) (HL : Hid (Lc B w aL (T.map (layP X)))) (h : Hid (Rz w B gr gp gb (.slice aT T.length cT) (.slice aL nL cL) C E)) :
    Calls Try.prog 15 #[.pointer (some ⟨gr, 0, none⟩), .int .i64 (n : Int)] w fun e w' => e = .returned (.tuple #[]) ∧ Hid (Rz w' B gr gp gb (.slice aT T.length cT) (.slice aL nL cL) (C ++ zrP T X ⟨k, nn, el, ps⟩ (C.length : Int)) E) ∧ Hid (Kp B w w') := by
  have hnT : n < T.length := (List.getElem?_eq_some_iff.1 hn).1
  have hnt' : (n : Int) < T.length := by omega
  have hnl' : (n : Int) < (nL : Int) := by omega
  have hbase := h.out.base
  obtain ⟨y, hy⟩ : ∃ y, layP X ⟨k, nn, el, ps⟩ = y := ⟨_, rfl⟩
  have hyl : (T.map (layP X))[n]? = some y := by rw [List.getElem?_map, hn, ← hy]; rfl
  obtain ⟨bT, oT, va, vc, rfl, hvc, hvn, htc⟩ := HT.out n _ hn
  obtain ⟨bL, oL, sa, sc, rfl, hlc⟩ := HL.out n y hyl
  have HSS : Hid (∀ w', Below w.heap.size w w' → (fun w' => w'.cell? ⟨gr, 0, none⟩ = some (.slice (some ⟨bT, oT, none⟩) T.length cT) ∧ w'.cell? ⟨gr, 1, none⟩ = some (.slice (some ⟨bL, oL, none⟩) nL cL) ∧ w'.cell? ⟨bT, oT + n * 4, none⟩ = some (.int .i64 k) ∧ w'.cell? ⟨bT, oT + n * 4 + 1, none⟩ = some (.int .i64 nn) ∧ w'.cell? ⟨bT, oT + n * 4 + 2, none⟩ = some (.int .i64 el) ∧ w'.cell? ⟨bT, oT + n * 4 + 3, none⟩ = some (.slice va ps.length vc) ∧ w'.cell? ⟨bL, oL + n * 2, none⟩ = some (.int .i64 y.sz) ∧ w'.cell? ⟨bL, oL + n * 2 + 1, none⟩ = some (.slice sa y.sl.length sc)) w') := hide_ (fun w' hb => by
    obtain ⟨hcc, -⟩ := htc w' (below_le hb hbase)
    obtain ⟨l0, l1, -⟩ := hlc w' (below_le hb hbase)
    have i0 := hcc 0 (by decide); have i1 := hcc 1 (by decide); have i2 := hcc 2 (by decide); have i3 := hcc 3 (by decide)
    simp [tyc] at i0 i1 i2 i3
    have g0 := (h.out.later hb).br.cell 0; have g1 := (h.out.later hb).br.cell 1
    simp at g0 g1
    exact ⟨g0, g1, i0, i1, i2, i3, l0, l1⟩)
  have HNL := hide_ hnL
  clear hnL
  go_enter Try.func15, Try.ntmps15
  go_upto_region 0 with fail
  go_cut [4, 5] from 6 to 20 (fun x4 x5 wc => ∃ g4 g5 w2, w2 = wc ∧ x4 = .pointer (some ⟨g4, 0, none⟩) ∧ x5 = .pointer (some ⟨g5, 0, none⟩) ∧ Hid (Blk w2 g4 43 [.int .i64 k, .int .i64 nn, .int .i64 el, .slice va ps.length vc]) ∧ Hid (Blk w2 g5 70 [.int .i64 y.sz, .slice sa y.sl.length sc]) ∧ Hid (Below w.heap.size w w2))
  case first =>
    have HA : Hid (Hid (Blk ((w.alloc (.cells #[.int .i64 k, .int .i64 nn, .int .i64 el, .slice va ps.length vc] 43)).alloc (.cells #[.int .i64 y.sz, .slice sa y.sl.length sc] 70)).drew w.heap.size 43 [.int .i64 k, .int .i64 nn, .int .i64 el, .slice va ps.length vc]) ∧ Hid (Blk ((w.alloc (.cells #[.int .i64 k, .int .i64 nn, .int .i64 el, .slice va ps.length vc] 43)).alloc (.cells #[.int .i64 y.sz, .slice sa y.sl.length sc] 70)).drew (w.heap.size + 1) 70 [.int .i64 y.sz, .slice sa y.sl.length sc])) := hide_ (by
      obtain ⟨k1, k2⟩ := blk2 w #[.int .i64 k, .int .i64 nn, .int .i64 el, .slice va ps.length vc] #[.int .i64 y.sz, .slice sa y.sl.length sc] 43 70
      exact ⟨hide_ k1.drew, hide_ k2.drew⟩)
    have HB : Hid (Hid (Blk ((w.alloc (.cells #[.int .i64 y.sz, .slice sa y.sl.length sc] 70)).alloc (.cells #[.int .i64 k, .int .i64 nn, .int .i64 el, .slice va ps.length vc] 43)).drew w.heap.size 70 [.int .i64 y.sz, .slice sa y.sl.length sc]) ∧ Hid (Blk ((w.alloc (.cells #[.int .i64 y.sz, .slice sa y.sl.length sc] 70)).alloc (.cells #[.int .i64 k, .int .i64 nn, .int .i64 el, .slice va ps.length vc] 43)).drew (w.heap.size + 1) 43 [.int .i64 k, .int .i64 nn, .int .i64 el, .slice va ps.length vc])) := hide_ (by
      obtain ⟨k1, k2⟩ := blk2 w #[.int .i64 y.sz, .slice sa y.sl.length sc] #[.int .i64 k, .int .i64 nn, .int .i64 el, .slice va ps.length vc] 70 43
      exact ⟨hide_ k1.drew, hide_ k2.drew⟩)
    refine wp_region_last 17 (fun w' => w'.cell? ⟨gr, 0, none⟩ = some (.slice (some ⟨bT, oT, none⟩) T.length cT) ∧ w'.cell? ⟨gr, 1, none⟩ = some (.slice (some ⟨bL, oL, none⟩) nL cL) ∧ w'.cell? ⟨bT, oT + n * 4, none⟩ = some (.int .i64 k) ∧ w'.cell? ⟨bT, oT + n * 4 + 1, none⟩ = some (.int .i64 nn) ∧ w'.cell? ⟨bT, oT + n * 4 + 2, none⟩ = some (.int .i64 el) ∧ w'.cell? ⟨bT, oT + n * 4 + 3, none⟩ = some (.slice va ps.length vc) ∧ w'.cell? ⟨bL, oL + n * 2, none⟩ = some (.int .i64 y.sz) ∧ w'.cell? ⟨bL, oL + n * 2 + 1, none⟩ = some (.slice sa y.sl.length sc)) (by kernel_rfl) (HSS.out _ ((Below.refl w.heap.size w).drew)) (fun hHeld => ?_)
    refine wpAnyF_take [17] (by kernel_rfl) (i := 0) (v := ?vz1) rfl (by kernel_rfl) (by kernel_rfl) (by kernel_rfl) (fun _ _ _ h => h) (Or.inl ⟨by kernel_rfl, ?hyz1⟩) hHeld ?restz1
    case hyz1 => intro w' hSw; (try dsimp only at hSw); go_simp; try with_reducible rfl
    simp only [Act.put]
    refine wpAnyF_take [17] (by kernel_rfl) (i := 1) (v := ?vz2) rfl (by kernel_rfl) (by kernel_rfl) (by kernel_rfl) (fun _ _ _ h => h) (Or.inl ⟨by kernel_rfl, ?hyz2⟩) hHeld ?restz2
    case hyz2 => intro w' hSw; (try dsimp only at hSw); go_simp; try with_reducible rfl
    simp only [Act.put]
    refine wpAnyF_take [17] (by kernel_rfl) (i := 2) (v := ?vz3) rfl (by kernel_rfl) (by kernel_rfl) (by kernel_rfl) (fun _ _ _ h => h) (Or.inl ⟨by kernel_rfl, ?hyz3⟩) hHeld ?restz3
    case hyz3 => intro w' hSw; (try dsimp only at hSw); go_simp; try with_reducible rfl
    simp only [Act.put]
    refine wpAnyF_take [17] (by kernel_rfl) (i := 3) (v := ?vz4) rfl (by kernel_rfl) (by kernel_rfl) (by kernel_rfl) (fun _ _ _ h => h) (Or.inl ⟨by kernel_rfl, ?hyz4⟩) hHeld ?restz4
    case hyz4 => intro w' hSw; (try dsimp only at hSw); go_simp; try with_reducible rfl
    simp only [Act.put]
    refine wpAnyF_take [17] (by kernel_rfl) (i := 4) (v := ?vz5) rfl (by kernel_rfl) (by kernel_rfl) (by kernel_rfl) (fun _ _ _ h => h) (Or.inl ⟨by kernel_rfl, ?hyz5⟩) hHeld ?restz5
    case hyz5 => intro w' hSw; (try dsimp only at hSw); go_simp; try with_reducible rfl
    simp only [Act.put]
    refine wpAnyF_take [17] (by kernel_rfl) (i := 5) (v := ?vz6) rfl (by kernel_rfl) (by kernel_rfl) (by kernel_rfl) (fun _ _ _ h => h) (Or.inl ⟨by kernel_rfl, ?hyz6⟩) hHeld ?restz6
    case hyz6 => intro w' hSw; (try dsimp only at hSw); go_simp; try with_reducible rfl
    simp only [Act.put]
    refine wpAnyF_take [17] (by kernel_rfl) (i := 6) (v := ?vz7) rfl (by kernel_rfl) (by kernel_rfl) (by kernel_rfl) (fun _ _ _ h => h) (Or.inl ⟨by kernel_rfl, ?hyz7⟩) hHeld ?restz7
    case hyz7 => intro w' hSw; (try dsimp only at hSw); go_simp; try with_reducible rfl
    simp only [Act.put]
    refine wpAnyF_take [17] (by kernel_rfl) (i := 7) (v := ?vz8) rfl (by kernel_rfl) (by kernel_rfl) (by kernel_rfl) (fun _ _ _ h => h) (Or.inl ⟨by kernel_rfl, ?hyz8⟩) hHeld ?restz8
    case hyz8 => intro w' hSw; (try dsimp only at hSw); go_simp; try with_reducible rfl
    simp only [Act.put]
    refine wpAnyF_take [17] (by kernel_rfl) (i := 8) (v := ?vz9) rfl (by kernel_rfl) (by kernel_rfl) (by kernel_rfl) (fun _ _ _ h => h) (Or.inl ⟨by kernel_rfl, ?hyz9⟩) hHeld ?restz9
    case hyz9 => intro w' hSw; (try dsimp only at hSw); go_simp; try with_reducible rfl
    simp only [Act.put]
    refine wpAnyF_take [17] (by kernel_rfl) (i := 9) (v := ?vz10) rfl (by kernel_rfl) (by kernel_rfl) (by kernel_rfl) (fun _ _ _ h => h) (Or.inl ⟨by kernel_rfl, ?hyz10⟩) hHeld ?restz10
    case hyz10 => intro w' hSw; (try dsimp only at hSw); go_simp; try with_reducible rfl
    simp only [Act.put]
    refine wpAnyF_take [17] (by kernel_rfl) (i := 10) (v := ?vz11) rfl (by kernel_rfl) (by kernel_rfl) (by kernel_rfl) (fun _ _ _ h => h) (Or.inl ⟨by kernel_rfl, ?hyz11⟩) hHeld ?restz11
    case hyz11 => intro w' hSw; (try dsimp only at hSw); go_simp; try with_reducible rfl
    simp only [Act.put]
    refine wpAnyF_take [17] (by kernel_rfl) (i := 11) (v := ?vz12) rfl (by kernel_rfl) (by kernel_rfl) (by kernel_rfl) (fun _ _ _ h => h) (Or.inl ⟨by kernel_rfl, ?hyz12⟩) hHeld ?restz12
    case hyz12 => intro w' hSw; (try dsimp only at hSw); go_simp; try with_reducible rfl
    simp only [Act.put]
    refine wpAnyF_take [17] (by kernel_rfl) (i := 12) (v := ?vz13) rfl (by kernel_rfl) (by kernel_rfl) (by kernel_rfl) (fun _ _ _ h => h) (Or.inl ⟨by kernel_rfl, ?hyz13⟩) hHeld ?restz13
    case hyz13 => intro w' hSw; (try dsimp only at hSw); go_simp; try with_reducible rfl
    simp only [Act.put]
    refine wpAnyF_take [17] (by kernel_rfl) (i := 13) (v := ?vz14) rfl (by kernel_rfl) (by kernel_rfl) (by kernel_rfl) (fun _ _ _ h => h) (Or.inl ⟨by kernel_rfl, ?hyz14⟩) hHeld ?restz14
    case hyz14 => intro w' hSw; (try dsimp only at hSw); go_simp; try with_reducible rfl
    simp only [Act.put]
    refine wpAnyF_ready (rs := [14, 15]) (by kernel_rfl) (by simp) ?_
    refine AllReadyF.cons rfl (fun K hK => ?_) ?_
    · go_simp
      refine hK.out _ _ (HSS.out _ (below_to ((Below.refl w.heap.size w).drew) (below1 _ _))) (fun hHeld => ?_)
      clear hK K
      refine wpAnyF_ready (rs := [15]) (by kernel_rfl) (by simp) ?_
      refine AllReadyF.cons rfl (fun K hK => ?_) AllReadyF.nil
      go_simp
      refine hK.out _ _ (HSS.out _ (below_to (below_to ((Below.refl w.heap.size w).drew) (below1 _ _)) (below1 _ _))) (fun hHeld => ?_)
      clear hK K
      refine wpAnyF_ready (rs := [16]) (by kernel_rfl) (by simp) ?_
      refine AllReadyF.cons rfl (fun K hK => ?_) AllReadyF.nil
      go_simp
      refine hK.out _ _ (HSS.out _ (Below.drew (below2 w _ _))) (fun hHeld => ?_)
      clear hK K
      refine wpAnyF_ready (rs := [17]) (by kernel_rfl) (by simp) ?_
      refine AllReadyF.last rfl (fun K hK => ?_)
      go_simp
      refine hK.out _ _ ?_
      clear hK K
      refine wpAnyF_done (by kernel_rfl) ?_ _
      go_wp2_with fail
      go_meet
      case rel => first | exact ⟨_, _, _, rfl, rfl, rfl, HA.out.1, HA.out.2, hide_ (Below.drew (below2 w _ _))⟩ | exact ⟨_, _, _, rfl, rfl, rfl, HB.out.2, HB.out.1, hide_ (Below.drew (below2 w _ _))⟩
    refine AllReadyF.cons rfl (fun K hK => ?_) AllReadyF.nil
    go_simp
    refine hK.out _ _ (HSS.out _ (below_to ((Below.refl w.heap.size w).drew) (below1 _ _))) (fun hHeld => ?_)
    clear hK K
    refine wpAnyF_ready (rs := [14]) (by kernel_rfl) (by simp) ?_
    refine AllReadyF.cons rfl (fun K hK => ?_) AllReadyF.nil
    go_simp
    refine hK.out _ _ (HSS.out _ (below_to (below_to ((Below.refl w.heap.size w).drew) (below1 _ _)) (below1 _ _))) (fun hHeld => ?_)
    clear hK K
    refine wpAnyF_ready (rs := [16]) (by kernel_rfl) (by simp) ?_
    refine AllReadyF.cons rfl (fun K hK => ?_) AllReadyF.nil
    go_simp
    refine hK.out _ _ (HSS.out _ (Below.drew (below2 w _ _))) (fun hHeld => ?_)
    clear hK K
    refine wpAnyF_ready (rs := [17]) (by kernel_rfl) (by simp) ?_
    refine AllReadyF.last rfl (fun K hK => ?_)
    go_simp
    refine hK.out _ _ ?_
    clear hK K
    refine wpAnyF_done (by kernel_rfl) ?_ _
    go_wp2_with fail
    go_meet
    case rel => first | exact ⟨_, _, _, rfl, rfl, rfl, HA.out.1, HA.out.2, hide_ (Below.drew (below2 w _ _))⟩ | exact ⟨_, _, _, rfl, rfl, rfl, HB.out.2, HB.out.1, hide_ (Below.drew (below2 w _ _))⟩
  case rest =>
  clear HSS
  obtain ⟨g4, g5, w2, hw2, rfl, rfl, K4, K5, HB2⟩ := hcut
  subst hw2
  have HM2 := hide_ (h.out.later HB2.out)
  have HK2 : Hid (Kp B w w2) := hide_ (Kp.later HB2.out)
  have HT2 := hide_ (HT.out.kp hbase HK2.out)
  have hb2 : B ≤ w2.heap.size := Nat.le_trans hbase HK2.out.size
  have j0 := K4.out.cell 0; have j1 := K4.out.cell 1; have j2 := K4.out.cell 2; have j3 := K4.out.cell 3
  simp at j0 j1 j2 j3
  have hkk : k = 1 ∨ k = 2 ∨ k = 3 ∨ k = 4 ∨ k = 5 ∨ k = 6 ∨ k = 7 ∨ k = 8 := by
    have h1 := hok.out
    unfold tyOk at h1
    simp only [Bool.and_eq_true] at h1
    have h2 := of_decide_eq_true h1.1.1
    omega
  clear hn hvc hvn hnt' hnl' hyl
  rcases hkk with rfl | rfl | rfl | rfl | rfl | rfl | rfl | rfl
  ·
    have HLf := hide_ (leaf_any B gr gp gb _ _ C E 0 1 nn el ps va vc w2 (by omega) HM2)
    have HEq : Hid ((C ++ lfL ⟨1, nn, el, ps⟩ 0) ++ [⟨20, 0, 0, 0⟩] = C ++ zrP T X ⟨1, nn, el, ps⟩ (C.length : Int)) := hide_ (by simp [zrP, zbP, lfL, isLf, lfP])
    have hlx : (C ++ lfL ⟨1, nn, el, ps⟩ 0).length ≤ 900000000 := by have := lfL_len ⟨1, nn, el, ps⟩ 0; rw [List.length_append]; omega
    go_upto_region 20 with (go_at_call 25; refine HLf.out.mono ?_; rintro e w4 ⟨rfl, HM4, HK4⟩)
    have HKf := hide_ (HK2.out.trans HK4.out)
    clear HLf j0 j1 j2 j3
    have HLz := hide_ (lay_any B gr gp gb _ _ _ E ⟨20, 0, 0, 0⟩ w4 (by omega) (fun h => by cases h) HM4)
    have jf := HM4.out.fn
    clear HM4
    go_wp2_with (go_at_call 23; refine HLz.out.mono ?_; rintro e w6 ⟨rfl, HM6, HK6⟩)
    go_end0
    exact ⟨rfl, hide_ (by rw [← HEq.out]; exact HM6.out), hide_ (HKf.out.trans HK6.out)⟩
  ·
    have HLf := hide_ (leaf_any B gr gp gb _ _ C E 0 2 nn el ps va vc w2 (by omega) HM2)
    have HEq : Hid ((C ++ lfL ⟨2, nn, el, ps⟩ 0) ++ [⟨20, 0, 0, 0⟩] = C ++ zrP T X ⟨2, nn, el, ps⟩ (C.length : Int)) := hide_ (by simp [zrP, zbP, lfL, isLf, lfP])
    have hlx : (C ++ lfL ⟨2, nn, el, ps⟩ 0).length ≤ 900000000 := by have := lfL_len ⟨2, nn, el, ps⟩ 0; rw [List.length_append]; omega
    go_upto_region 20 with (go_at_call 25; refine HLf.out.mono ?_; rintro e w4 ⟨rfl, HM4, HK4⟩)
    have HKf := hide_ (HK2.out.trans HK4.out)
    clear HLf j0 j1 j2 j3
    have HLz := hide_ (lay_any B gr gp gb _ _ _ E ⟨20, 0, 0, 0⟩ w4 (by omega) (fun h => by cases h) HM4)
    have jf := HM4.out.fn
    clear HM4
    go_wp2_with (go_at_call 23; refine HLz.out.mono ?_; rintro e w6 ⟨rfl, HM6, HK6⟩)
    go_end0
    exact ⟨rfl, hide_ (by rw [← HEq.out]; exact HM6.out), hide_ (HKf.out.trans HK6.out)⟩
  ·
    have HLy := hide_ (lay_any B gr gp gb _ _ C E ⟨36, 0, 0, 0⟩ w2 (by omega) (fun h => by cases h) HM2)
    have HEq : Hid ((C ++ [⟨36, 0, 0, 0⟩]) ++ [⟨20, 0, 0, 0⟩] = C ++ zrP T X ⟨3, nn, el, ps⟩ (C.length : Int)) := hide_ (by simp [zrP, zbP])
    have hlx : (C ++ [(⟨36, 0, 0, 0⟩ : In)]).length ≤ 900000000 := by rw [List.length_append, List.length_singleton]; omega
    have jf0 := HM2.out.fn
    go_upto_region 20 with (go_at_call 23; refine HLy.out.mono ?_; rintro e w4 ⟨rfl, HM4, HK4⟩)
    have HKf := hide_ (HK2.out.trans HK4.out)
    clear HLy j0 j1 j2 j3 jf0
    have HM4 : Hid (Rz w4 B gr gp gb (.slice (some ⟨bT, oT, none⟩) T.length cT) (.slice (some ⟨bL, oL, none⟩) nL cL) (C ++ [⟨36, 0, 0, 0⟩]) E) := HM4
    have HLz := hide_ (lay_any B gr gp gb _ _ _ E ⟨20, 0, 0, 0⟩ w4 (by omega) (fun h => by cases h) HM4)
    have jf := HM4.out.fn
    clear HM4
    go_wp2_with (go_at_call 23; refine HLz.out.mono ?_; rintro e w6 ⟨rfl, HM6, HK6⟩)
    go_end0
    exact ⟨rfl, hide_ (by rw [← HEq.out]; exact HM6.out), hide_ (HKf.out.trans HK6.out)⟩
  ·
    obtain ⟨en, t2, rfl, hen⟩ := elem_at hok.out (by decide) hnT
    have hysl : y.sl = [slotP (exAt X (en : Int)) 0] := by rw [← hy]; rfl
    rw [hysl] at K5 hlc
    have HLy := hide_ (lay_any B gr gp gb _ _ C E ⟨37, nn, 0, 0⟩ w2.drew (by omega) (fun h => by cases h) (hide_ (HM2.out.later ((Below.refl _ _).drew))))
    have HSS : Hid (∀ w', Below w2.heap.size w2 w' → (fun w' => w'.cell? ⟨gr, 2, none⟩ = some (.func (.func 23) #[] #[.pointer (some ⟨gb, 0, none⟩)]) ∧ w'.cell? ⟨g4, 1, none⟩ = some (.int .i64 nn)) w') := hide_ (fun w' hb => ⟨(HM2.out.later hb).fn, by have := (K4.out.later hb).cell 1; simpa using this⟩)
    go_upto_region 8 with fail
    refine wp_region_last 7 (fun w' => w'.cell? ⟨gr, 2, none⟩ = some (.func (.func 23) #[] #[.pointer (some ⟨gb, 0, none⟩)]) ∧ w'.cell? ⟨g4, 1, none⟩ = some (.int .i64 nn)) (by kernel_rfl) (HSS.out _ ((Below.refl w2.heap.size w2).drew)) (fun hHeld => ?_)
    refine wpAnyF_take [7, 3, 2, 1] (by kernel_rfl) (i := 0) (v := ?vr4a1) rfl (by kernel_rfl) (by kernel_rfl) (by kernel_rfl) (fun _ _ _ h => h) (Or.inl ⟨by kernel_rfl, ?hyr4a1⟩) hHeld ?restr4a1
    case hyr4a1 => intro w' hSw; (try dsimp only at hSw); go_simp; try with_reducible rfl
    simp only [Act.put]
    refine wpAnyF_take [7, 3, 2] (by kernel_rfl) (i := 1) (v := ?vr4a2) rfl (by kernel_rfl) (by kernel_rfl) (by kernel_rfl) (fun _ _ _ h => h) (Or.inl ⟨by kernel_rfl, ?hyr4a2⟩) hHeld ?restr4a2
    case hyr4a2 => intro w' hSw; (try dsimp only at hSw); go_simp; try with_reducible rfl
    simp only [Act.put]
    refine wpAnyF_take [7, 3] (by kernel_rfl) (i := 2) (v := ?vr4a3) rfl (by kernel_rfl) (by kernel_rfl) (by kernel_rfl) (fun _ _ _ h => h) (Or.inl ⟨by kernel_rfl, ?hyr4a3⟩) hHeld ?restr4a3
    case hyr4a3 => intro w' hSw; (try dsimp only at hSw); go_simp; try with_reducible rfl
    simp only [Act.put]
    refine wpAnyF_take [7] (by kernel_rfl) (i := 3) (v := ?vr4a4) rfl (by kernel_rfl) (by kernel_rfl) (by kernel_rfl) (fun _ _ _ h => h) (Or.inl ⟨by kernel_rfl, ?hyr4a4⟩) hHeld ?restr4a4
    case hyr4a4 => intro w' hSw; (try dsimp only at hSw); go_simp; try with_reducible rfl
    simp only [Act.put]
    refine wpAnyF_take [7, 6, 5] (by kernel_rfl) (i := 4) (v := ?vr4a5) rfl (by kernel_rfl) (by kernel_rfl) (by kernel_rfl) (fun _ _ _ h => h) (Or.inl ⟨by kernel_rfl, ?hyr4a5⟩) hHeld ?restr4a5
    case hyr4a5 => intro w' hSw; (try dsimp only at hSw); go_simp; try with_reducible rfl
    simp only [Act.put]
    refine wpAnyF_take [7, 6] (by kernel_rfl) (i := 5) (v := ?vr4a6) rfl (by kernel_rfl) (by kernel_rfl) (by kernel_rfl) (fun _ _ _ h => h) (Or.inl ⟨by kernel_rfl, ?hyr4a6⟩) hHeld ?restr4a6
    case hyr4a6 => intro w' hSw; (try dsimp only at hSw); go_simp; try with_reducible rfl
    simp only [Act.put]
    refine wpAnyF_take [7] (by kernel_rfl) (i := 6) (v := ?vr4a7) rfl (by kernel_rfl) (by kernel_rfl) (by kernel_rfl) (fun _ _ _ h => h) (Or.inl ⟨by kernel_rfl, ?hyr4a7⟩) hHeld ?restr4a7
    case hyr4a7 => intro w' hSw; (try dsimp only at hSw); go_simp; try with_reducible rfl
    simp only [Act.put]
    refine wpAnyF_ready (rs := [7]) (by kernel_rfl) (by simp) ?_
    refine AllReadyF.last rfl (fun K hK => ?_)
    go_simp
    refine HLy.out.mono ?_
    rintro e w3 ⟨rfl, HM3, HK3⟩
    dsimp only
    refine hK.out _ _ ?_
    clear hK K
    refine wpAnyF_done (by kernel_rfl) ?_ _
    clear HSS HLy
    have hK3 := (Kp.later (B := B) ((Below.refl w2.heap.size w2).drew)).trans HK3.out
    have HKa := hide_ (HK2.out.trans hK3)
    have K43 := hide_ (hK3.bT K4.out)
    have K53 := hide_ (hK3.bL K5.out)
    have HT3 := hide_ (HT2.out.kp hb2 hK3)
    have HM3 : Hid (Rz w3 B gr gp gb (.slice (some ⟨bT, oT, none⟩) T.length cT) (.slice (some ⟨bL, oL, none⟩) nL cL) (C ++ [⟨37, nn, 0, 0⟩]) E) := HM3
    obtain ⟨-, -, hsr⟩ := hlc w3 (HKa.out.below hbase)
    obtain ⟨bS, oS, rfl, hbS, hsc⟩ := hsr.open (by simp)
    have hs0 := hsc 0 _ rfl 0 (by decide); have hs1 := hsc 0 _ rfl 1 (by decide); have hs2 := hsc 0 _ rfl 2 (by decide)
    have HIt := items_any B gr gp gb _ cT T (.slice (some ⟨bL, oL, none⟩) nL cL) (C ++ [⟨37, nn, 0, 0⟩]) E 4 nn en ps va vc t2 (exAt X (en : Int)) (C.length : Int) w3.drew (by rw [List.length_append, List.length_singleton]; omega) (by simp) hen (hide_ (HT3.out.kp (Nat.le_trans hbase HKa.out.size) (Kp.later ((Below.refl _ _).drew)))) (hide_ (HM3.out.later ((Below.refl _ _).drew)))
    have HEq : Hid (((C ++ [⟨37, nn, 0, 0⟩]) ++ (if (exAt X (en : Int)).f then zrF T ⟨4, nn, (en : Int), ps⟩ (exAt X (en : Int)).l (C.length : Int) else zrV ⟨4, nn, (en : Int), ps⟩ (C.length : Int))) ++ [⟨20, 0, 0, 0⟩] = C ++ zrP T X ⟨4, nn, (en : Int), ps⟩ (C.length : Int)) := hide_ (by simp [zrP, zbP, zrI])
    have hlx : ((C ++ [(⟨37, nn, 0, 0⟩ : In)]) ++ (if (exAt X (en : Int)).f then zrF T ⟨4, nn, (en : Int), ps⟩ (exAt X (en : Int)).l (C.length : Int) else zrV ⟨4, nn, (en : Int), ps⟩ (C.length : Int))).length ≤ 900000000 := by rw [List.length_append, List.length_append]; split <;> simp [zrF, zrV] <;> omega
    generalize slotP (exAt X (en : Int)) 0 = s at *
    have HIt := hide_ HIt
    simp [slc] at hs0 hs1 hs2
    have HSS : Hid (∀ w', Below w3.heap.size w3 w' → (fun w' => w'.cell? ⟨g4, 0, none⟩ = some (.int .i64 4) ∧ w'.cell? ⟨g4, 1, none⟩ = some (.int .i64 nn) ∧ w'.cell? ⟨g4, 2, none⟩ = some (.int .i64 (en : Int)) ∧ w'.cell? ⟨g4, 3, none⟩ = some (.slice va ps.length vc) ∧ w'.cell? ⟨g5, 1, none⟩ = some (.slice (some ⟨bS, oS, none⟩) 1 sc) ∧ w'.cell? ⟨bS, oS, none⟩ = some (.int .i64 s.at_) ∧ w'.cell? ⟨bS, oS + 1, none⟩ = some (.bool s.v) ∧ w'.cell? ⟨bS, oS + 2, none⟩ = some (.int .i64 s.sz)) w') := hide_ (fun w' hb => by
      have a0 := (K43.out.later hb).cell 0; have a1 := (K43.out.later hb).cell 1; have a2 := (K43.out.later hb).cell 2; have a3 := (K43.out.later hb).cell 3; have a4 := (K53.out.later hb).cell 1
      simp at a0 a1 a2 a3 a4
      exact ⟨a0, a1, a2, a3, a4, (hb.cell (p := ⟨bS, oS, none⟩) hbS).trans hs0, (hb.cell (p := ⟨bS, oS + 1, none⟩) hbS).trans hs1, (hb.cell (p := ⟨bS, oS + 2, none⟩) hbS).trans hs2⟩)
    clear hsr hsc hs0 hs1 hs2 hlc htc hK3 HK3 HT3 HT2 HM3 HM2 j0 j1 j2 j3
    go_upto_region 9 with fail
    refine wp_region_last 6 (fun w' => w'.cell? ⟨g4, 0, none⟩ = some (.int .i64 4) ∧ w'.cell? ⟨g4, 1, none⟩ = some (.int .i64 nn) ∧ w'.cell? ⟨g4, 2, none⟩ = some (.int .i64 (en : Int)) ∧ w'.cell? ⟨g4, 3, none⟩ = some (.slice va ps.length vc) ∧ w'.cell? ⟨g5, 1, none⟩ = some (.slice (some ⟨bS, oS, none⟩) 1 sc) ∧ w'.cell? ⟨bS, oS, none⟩ = some (.int .i64 s.at_) ∧ w'.cell? ⟨bS, oS + 1, none⟩ = some (.bool s.v) ∧ w'.cell? ⟨bS, oS + 2, none⟩ = some (.int .i64 s.sz)) (by kernel_rfl) (HSS.out _ ((Below.refl w3.heap.size w3).drew)) (fun hHeld => ?_)
    refine wpAnyF_take [6] (by kernel_rfl) (i := 0) (v := ?vr4b1) rfl (by kernel_rfl) (by kernel_rfl) (by kernel_rfl) (fun _ _ _ h => h) (Or.inl ⟨by kernel_rfl, ?hyr4b1⟩) hHeld ?restr4b1
    case hyr4b1 => intro w' hSw; (try dsimp only at hSw); go_simp; try with_reducible rfl
    simp only [Act.put]
    refine wpAnyF_take [6] (by kernel_rfl) (i := 1) (v := ?vr4b2) rfl (by kernel_rfl) (by kernel_rfl) (by kernel_rfl) (fun _ _ _ h => h) (Or.inl ⟨by kernel_rfl, ?hyr4b2⟩) hHeld ?restr4b2
    case hyr4b2 => intro w' hSw; (try dsimp only at hSw); go_simp; try with_reducible rfl
    simp only [Act.put]
    refine wpAnyF_take [6, 5, 4, 3] (by kernel_rfl) (i := 2) (v := ?vr4b3) rfl (by kernel_rfl) (by kernel_rfl) (by kernel_rfl) (fun _ _ _ h => h) (Or.inl ⟨by kernel_rfl, ?hyr4b3⟩) hHeld ?restr4b3
    case hyr4b3 => intro w' hSw; (try dsimp only at hSw); go_simp; try with_reducible rfl
    simp only [Act.put]
    refine wpAnyF_take [6, 5, 4] (by kernel_rfl) (i := 3) (v := ?vr4b4) rfl (by kernel_rfl) (by kernel_rfl) (by kernel_rfl) (fun _ _ _ h => h) (Or.inl ⟨by kernel_rfl, ?hyr4b4⟩) hHeld ?restr4b4
    case hyr4b4 => intro w' hSw; (try dsimp only at hSw); go_simp; try with_reducible rfl
    simp only [Act.put]
    refine wpAnyF_take [6, 5] (by kernel_rfl) (i := 4) (v := ?vr4b5) rfl (by kernel_rfl) (by kernel_rfl) (by kernel_rfl) (fun _ _ _ h => h) (Or.inl ⟨by kernel_rfl, ?hyr4b5⟩) hHeld ?restr4b5
    case hyr4b5 => intro w' hSw; (try dsimp only at hSw); go_simp; try with_reducible rfl
    simp only [Act.put]
    refine wpAnyF_take [6] (by kernel_rfl) (i := 5) (v := ?vr4b6) rfl (by kernel_rfl) (by kernel_rfl) (by kernel_rfl) (fun _ _ _ h => h) (Or.inl ⟨by kernel_rfl, ?hyr4b6⟩) hHeld ?restr4b6
    case hyr4b6 => intro w' hSw; (try dsimp only at hSw); go_simp; try with_reducible rfl
    simp only [Act.put]
    refine wpAnyF_ready (rs := [6]) (by kernel_rfl) (by simp) ?_
    refine AllReadyF.last rfl (fun K hK => ?_)
    go_simp
    refine HIt.out.mono ?_
    rintro e w4 ⟨rfl, HM4, HK4⟩
    dsimp only
    refine hK.out _ _ ?_
    clear hK K
    refine wpAnyF_done (by kernel_rfl) ?_ _
    clear HSS HIt
    have HKf := hide_ (HKa.out.trans ((Kp.later ((Below.refl w3.heap.size w3).drew)).trans HK4.out))
    go_upto_region 20 with fail
    have HLz := hide_ (lay_any B gr gp gb _ _ _ E ⟨20, 0, 0, 0⟩ w4 (by omega) (fun h => by cases h) HM4)
    have jf := HM4.out.fn
    clear HM4
    go_wp2_with (go_at_call 23; refine HLz.out.mono ?_; rintro e w6 ⟨rfl, HM6, HK6⟩)
    go_end0
    exact ⟨rfl, hide_ (by rw [← HEq.out]; exact HM6.out), hide_ (HKf.out.trans HK6.out)⟩
  ·
    obtain ⟨en, t2, rfl, hen⟩ := elem_at hok.out (by decide) hnT
    have hysl : y.sl = [slotP (exAt X (en : Int)) 0] := by rw [← hy]; rfl
    rw [hysl] at K5 hlc
    have HLy := hide_ (lay_any B gr gp gb _ _ C E ⟨38, nn, 0, 0⟩ w2.drew (by omega) (fun h => by cases h) (hide_ (HM2.out.later ((Below.refl _ _).drew))))
    have HSS : Hid (∀ w', Below w2.heap.size w2 w' → (fun w' => w'.cell? ⟨gr, 2, none⟩ = some (.func (.func 23) #[] #[.pointer (some ⟨gb, 0, none⟩)]) ∧ w'.cell? ⟨g4, 1, none⟩ = some (.int .i64 nn)) w') := hide_ (fun w' hb => ⟨(HM2.out.later hb).fn, by have := (K4.out.later hb).cell 1; simpa using this⟩)
    go_upto_region 11 with fail
    refine wp_region_last 7 (fun w' => w'.cell? ⟨gr, 2, none⟩ = some (.func (.func 23) #[] #[.pointer (some ⟨gb, 0, none⟩)]) ∧ w'.cell? ⟨g4, 1, none⟩ = some (.int .i64 nn)) (by kernel_rfl) (HSS.out _ ((Below.refl w2.heap.size w2).drew)) (fun hHeld => ?_)
    refine wpAnyF_take [7, 3, 2, 1] (by kernel_rfl) (i := 0) (v := ?vr5a1) rfl (by kernel_rfl) (by kernel_rfl) (by kernel_rfl) (fun _ _ _ h => h) (Or.inl ⟨by kernel_rfl, ?hyr5a1⟩) hHeld ?restr5a1
    case hyr5a1 => intro w' hSw; (try dsimp only at hSw); go_simp; try with_reducible rfl
    simp only [Act.put]
    refine wpAnyF_take [7, 3, 2] (by kernel_rfl) (i := 1) (v := ?vr5a2) rfl (by kernel_rfl) (by kernel_rfl) (by kernel_rfl) (fun _ _ _ h => h) (Or.inl ⟨by kernel_rfl, ?hyr5a2⟩) hHeld ?restr5a2
    case hyr5a2 => intro w' hSw; (try dsimp only at hSw); go_simp; try with_reducible rfl
    simp only [Act.put]
    refine wpAnyF_take [7, 3] (by kernel_rfl) (i := 2) (v := ?vr5a3) rfl (by kernel_rfl) (by kernel_rfl) (by kernel_rfl) (fun _ _ _ h => h) (Or.inl ⟨by kernel_rfl, ?hyr5a3⟩) hHeld ?restr5a3
    case hyr5a3 => intro w' hSw; (try dsimp only at hSw); go_simp; try with_reducible rfl
    simp only [Act.put]
    refine wpAnyF_take [7] (by kernel_rfl) (i := 3) (v := ?vr5a4) rfl (by kernel_rfl) (by kernel_rfl) (by kernel_rfl) (fun _ _ _ h => h) (Or.inl ⟨by kernel_rfl, ?hyr5a4⟩) hHeld ?restr5a4
    case hyr5a4 => intro w' hSw; (try dsimp only at hSw); go_simp; try with_reducible rfl
    simp only [Act.put]
    refine wpAnyF_take [7, 6, 5] (by kernel_rfl) (i := 4) (v := ?vr5a5) rfl (by kernel_rfl) (by kernel_rfl) (by kernel_rfl) (fun _ _ _ h => h) (Or.inl ⟨by kernel_rfl, ?hyr5a5⟩) hHeld ?restr5a5
    case hyr5a5 => intro w' hSw; (try dsimp only at hSw); go_simp; try with_reducible rfl
    simp only [Act.put]
    refine wpAnyF_take [7, 6] (by kernel_rfl) (i := 5) (v := ?vr5a6) rfl (by kernel_rfl) (by kernel_rfl) (by kernel_rfl) (fun _ _ _ h => h) (Or.inl ⟨by kernel_rfl, ?hyr5a6⟩) hHeld ?restr5a6
    case hyr5a6 => intro w' hSw; (try dsimp only at hSw); go_simp; try with_reducible rfl
    simp only [Act.put]
    refine wpAnyF_take [7] (by kernel_rfl) (i := 6) (v := ?vr5a7) rfl (by kernel_rfl) (by kernel_rfl) (by kernel_rfl) (fun _ _ _ h => h) (Or.inl ⟨by kernel_rfl, ?hyr5a7⟩) hHeld ?restr5a7
    case hyr5a7 => intro w' hSw; (try dsimp only at hSw); go_simp; try with_reducible rfl
    simp only [Act.put]
    refine wpAnyF_ready (rs := [7]) (by kernel_rfl) (by simp) ?_
    refine AllReadyF.last rfl (fun K hK => ?_)
    go_simp
    refine HLy.out.mono ?_
    rintro e w3 ⟨rfl, HM3, HK3⟩
    dsimp only
    refine hK.out _ _ ?_
    clear hK K
    refine wpAnyF_done (by kernel_rfl) ?_ _
    clear HSS HLy
    have hK3 := (Kp.later (B := B) ((Below.refl w2.heap.size w2).drew)).trans HK3.out
    have HKa := hide_ (HK2.out.trans hK3)
    have K43 := hide_ (hK3.bT K4.out)
    have K53 := hide_ (hK3.bL K5.out)
    have HT3 := hide_ (HT2.out.kp hb2 hK3)
    have HM3 : Hid (Rz w3 B gr gp gb (.slice (some ⟨bT, oT, none⟩) T.length cT) (.slice (some ⟨bL, oL, none⟩) nL cL) (C ++ [⟨38, nn, 0, 0⟩]) E) := HM3
    obtain ⟨-, -, hsr⟩ := hlc w3 (HKa.out.below hbase)
    obtain ⟨bS, oS, rfl, hbS, hsc⟩ := hsr.open (by simp)
    have hs0 := hsc 0 _ rfl 0 (by decide); have hs1 := hsc 0 _ rfl 1 (by decide); have hs2 := hsc 0 _ rfl 2 (by decide)
    have HIt := items_any B gr gp gb _ cT T (.slice (some ⟨bL, oL, none⟩) nL cL) (C ++ [⟨38, nn, 0, 0⟩]) E 5 nn en ps va vc t2 (exAt X (en : Int)) (C.length : Int) w3.drew (by rw [List.length_append, List.length_singleton]; omega) (by simp) hen (hide_ (HT3.out.kp (Nat.le_trans hbase HKa.out.size) (Kp.later ((Below.refl _ _).drew)))) (hide_ (HM3.out.later ((Below.refl _ _).drew)))
    have HEq : Hid (((C ++ [⟨38, nn, 0, 0⟩]) ++ (if (exAt X (en : Int)).f then zrF T ⟨5, nn, (en : Int), ps⟩ (exAt X (en : Int)).l (C.length : Int) else zrV ⟨5, nn, (en : Int), ps⟩ (C.length : Int))) ++ [⟨20, 0, 0, 0⟩] = C ++ zrP T X ⟨5, nn, (en : Int), ps⟩ (C.length : Int)) := hide_ (by simp [zrP, zbP, zrI])
    have hlx : ((C ++ [(⟨38, nn, 0, 0⟩ : In)]) ++ (if (exAt X (en : Int)).f then zrF T ⟨5, nn, (en : Int), ps⟩ (exAt X (en : Int)).l (C.length : Int) else zrV ⟨5, nn, (en : Int), ps⟩ (C.length : Int))).length ≤ 900000000 := by rw [List.length_append, List.length_append]; split <;> simp [zrF, zrV] <;> omega
    generalize slotP (exAt X (en : Int)) 0 = s at *
    have HIt := hide_ HIt
    simp [slc] at hs0 hs1 hs2
    have HSS : Hid (∀ w', Below w3.heap.size w3 w' → (fun w' => w'.cell? ⟨g4, 0, none⟩ = some (.int .i64 5) ∧ w'.cell? ⟨g4, 1, none⟩ = some (.int .i64 nn) ∧ w'.cell? ⟨g4, 2, none⟩ = some (.int .i64 (en : Int)) ∧ w'.cell? ⟨g4, 3, none⟩ = some (.slice va ps.length vc) ∧ w'.cell? ⟨g5, 1, none⟩ = some (.slice (some ⟨bS, oS, none⟩) 1 sc) ∧ w'.cell? ⟨bS, oS, none⟩ = some (.int .i64 s.at_) ∧ w'.cell? ⟨bS, oS + 1, none⟩ = some (.bool s.v) ∧ w'.cell? ⟨bS, oS + 2, none⟩ = some (.int .i64 s.sz)) w') := hide_ (fun w' hb => by
      have a0 := (K43.out.later hb).cell 0; have a1 := (K43.out.later hb).cell 1; have a2 := (K43.out.later hb).cell 2; have a3 := (K43.out.later hb).cell 3; have a4 := (K53.out.later hb).cell 1
      simp at a0 a1 a2 a3 a4
      exact ⟨a0, a1, a2, a3, a4, (hb.cell (p := ⟨bS, oS, none⟩) hbS).trans hs0, (hb.cell (p := ⟨bS, oS + 1, none⟩) hbS).trans hs1, (hb.cell (p := ⟨bS, oS + 2, none⟩) hbS).trans hs2⟩)
    clear hsr hsc hs0 hs1 hs2 hlc htc hK3 HK3 HT3 HT2 HM3 HM2 j0 j1 j2 j3
    go_upto_region 12 with fail
    refine wp_region_last 6 (fun w' => w'.cell? ⟨g4, 0, none⟩ = some (.int .i64 5) ∧ w'.cell? ⟨g4, 1, none⟩ = some (.int .i64 nn) ∧ w'.cell? ⟨g4, 2, none⟩ = some (.int .i64 (en : Int)) ∧ w'.cell? ⟨g4, 3, none⟩ = some (.slice va ps.length vc) ∧ w'.cell? ⟨g5, 1, none⟩ = some (.slice (some ⟨bS, oS, none⟩) 1 sc) ∧ w'.cell? ⟨bS, oS, none⟩ = some (.int .i64 s.at_) ∧ w'.cell? ⟨bS, oS + 1, none⟩ = some (.bool s.v) ∧ w'.cell? ⟨bS, oS + 2, none⟩ = some (.int .i64 s.sz)) (by kernel_rfl) (HSS.out _ ((Below.refl w3.heap.size w3).drew)) (fun hHeld => ?_)
    refine wpAnyF_take [6] (by kernel_rfl) (i := 0) (v := ?vr5b1) rfl (by kernel_rfl) (by kernel_rfl) (by kernel_rfl) (fun _ _ _ h => h) (Or.inl ⟨by kernel_rfl, ?hyr5b1⟩) hHeld ?restr5b1
    case hyr5b1 => intro w' hSw; (try dsimp only at hSw); go_simp; try with_reducible rfl
    simp only [Act.put]
    refine wpAnyF_take [6] (by kernel_rfl) (i := 1) (v := ?vr5b2) rfl (by kernel_rfl) (by kernel_rfl) (by kernel_rfl) (fun _ _ _ h => h) (Or.inl ⟨by kernel_rfl, ?hyr5b2⟩) hHeld ?restr5b2
    case hyr5b2 => intro w' hSw; (try dsimp only at hSw); go_simp; try with_reducible rfl
    simp only [Act.put]
    refine wpAnyF_take [6, 5, 4, 3] (by kernel_rfl) (i := 2) (v := ?vr5b3) rfl (by kernel_rfl) (by kernel_rfl) (by kernel_rfl) (fun _ _ _ h => h) (Or.inl ⟨by kernel_rfl, ?hyr5b3⟩) hHeld ?restr5b3
    case hyr5b3 => intro w' hSw; (try dsimp only at hSw); go_simp; try with_reducible rfl
    simp only [Act.put]
    refine wpAnyF_take [6, 5, 4] (by kernel_rfl) (i := 3) (v := ?vr5b4) rfl (by kernel_rfl) (by kernel_rfl) (by kernel_rfl) (fun _ _ _ h => h) (Or.inl ⟨by kernel_rfl, ?hyr5b4⟩) hHeld ?restr5b4
    case hyr5b4 => intro w' hSw; (try dsimp only at hSw); go_simp; try with_reducible rfl
    simp only [Act.put]
    refine wpAnyF_take [6, 5] (by kernel_rfl) (i := 4) (v := ?vr5b5) rfl (by kernel_rfl) (by kernel_rfl) (by kernel_rfl) (fun _ _ _ h => h) (Or.inl ⟨by kernel_rfl, ?hyr5b5⟩) hHeld ?restr5b5
    case hyr5b5 => intro w' hSw; (try dsimp only at hSw); go_simp; try with_reducible rfl
    simp only [Act.put]
    refine wpAnyF_take [6] (by kernel_rfl) (i := 5) (v := ?vr5b6) rfl (by kernel_rfl) (by kernel_rfl) (by kernel_rfl) (fun _ _ _ h => h) (Or.inl ⟨by kernel_rfl, ?hyr5b6⟩) hHeld ?restr5b6
    case hyr5b6 => intro w' hSw; (try dsimp only at hSw); go_simp; try with_reducible rfl
    simp only [Act.put]
    refine wpAnyF_ready (rs := [6]) (by kernel_rfl) (by simp) ?_
    refine AllReadyF.last rfl (fun K hK => ?_)
    go_simp
    refine HIt.out.mono ?_
    rintro e w4 ⟨rfl, HM4, HK4⟩
    dsimp only
    refine hK.out _ _ ?_
    clear hK K
    refine wpAnyF_done (by kernel_rfl) ?_ _
    clear HSS HIt
    have HKf := hide_ (HKa.out.trans ((Kp.later ((Below.refl w3.heap.size w3).drew)).trans HK4.out))
    go_upto_region 20 with fail
    have HLz := hide_ (lay_any B gr gp gb _ _ _ E ⟨20, 0, 0, 0⟩ w4 (by omega) (fun h => by cases h) HM4)
    have jf := HM4.out.fn
    clear HM4
    go_wp2_with (go_at_call 23; refine HLz.out.mono ?_; rintro e w6 ⟨rfl, HM6, HK6⟩)
    go_end0
    exact ⟨rfl, hide_ (by rw [← HEq.out]; exact HM6.out), hide_ (HKf.out.trans HK6.out)⟩
  ·
    have HL6 := hide_ (lay_any B gr gp gb _ _ C E ⟨40, 0, 2, 0⟩ w2 (by omega) (fun _ => ⟨by decide, by decide⟩) HM2)
    have jf0 := HM2.out.fn
    go_upto_region 15 with (go_at_call 23; refine HL6.out.mono ?_; rintro e w3 ⟨rfl, HM3, HK3⟩)
    have HM3 : Hid (Rz w3 B gr gp gb (.slice (some ⟨bT, oT, none⟩) T.length cT) (.slice (some ⟨bL, oL, none⟩) nL cL) (C ++ [⟨40, 0, 2 + (C.length : Int), 0⟩]) E) := HM3
    have K43 := hide_ (HK3.out.bT K4.out)
    have HKa := hide_ (HK2.out.trans HK3.out)
    have HLy := hide_ (lay_any B gr gp gb _ _ (C ++ [⟨40, 0, 2 + (C.length : Int), 0⟩]) E ⟨46, 0, 0, el⟩ w3.drew (by rw [List.length_append, List.length_singleton]; omega) (fun h => by cases h) (hide_ (HM3.out.later ((Below.refl _ _).drew))))
    have HSS : Hid (∀ w', Below w3.heap.size w3 w' → (fun w' => w'.cell? ⟨gr, 2, none⟩ = some (.func (.func 23) #[] #[.pointer (some ⟨gb, 0, none⟩)]) ∧ w'.cell? ⟨g4, 2, none⟩ = some (.int .i64 el)) w') := hide_ (fun w' hb => ⟨(HM3.out.later hb).fn, by have := (K43.out.later hb).cell 2; simpa using this⟩)
    have HEq : Hid (((C ++ [⟨40, 0, 2 + (C.length : Int), 0⟩]) ++ [⟨46, 0, 0, el⟩]) ++ [⟨20, 0, 0, 0⟩] = C ++ zrP T X ⟨6, nn, el, ps⟩ (C.length : Int)) := hide_ (by simp [zrP, zbP]; omega)
    have hlx : ((C ++ [(⟨40, 0, 2 + (C.length : Int), 0⟩ : In)]) ++ [(⟨46, 0, 0, el⟩ : In)]).length ≤ 900000000 := by rw [List.length_append, List.length_append, List.length_singleton, List.length_singleton]; omega
    clear HL6 jf0 HM2 HM3 j0 j1 j2 j3
    refine wp_region_last 7 (fun w' => w'.cell? ⟨gr, 2, none⟩ = some (.func (.func 23) #[] #[.pointer (some ⟨gb, 0, none⟩)]) ∧ w'.cell? ⟨g4, 2, none⟩ = some (.int .i64 el)) (by kernel_rfl) (HSS.out _ ((Below.refl w3.heap.size w3).drew)) (fun hHeld => ?_)
    refine wpAnyF_take [7, 3, 2, 1] (by kernel_rfl) (i := 0) (v := ?vs1) rfl (by kernel_rfl) (by kernel_rfl) (by kernel_rfl) (fun _ _ _ h => h) (Or.inl ⟨by kernel_rfl, ?hys1⟩) hHeld ?rests1
    case hys1 => intro w' hSw; (try dsimp only at hSw); go_simp; try with_reducible rfl
    simp only [Act.put]
    refine wpAnyF_take [7, 3, 2] (by kernel_rfl) (i := 1) (v := ?vs2) rfl (by kernel_rfl) (by kernel_rfl) (by kernel_rfl) (fun _ _ _ h => h) (Or.inl ⟨by kernel_rfl, ?hys2⟩) hHeld ?rests2
    case hys2 => intro w' hSw; (try dsimp only at hSw); go_simp; try with_reducible rfl
    simp only [Act.put]
    refine wpAnyF_take [7, 3] (by kernel_rfl) (i := 2) (v := ?vs3) rfl (by kernel_rfl) (by kernel_rfl) (by kernel_rfl) (fun _ _ _ h => h) (Or.inl ⟨by kernel_rfl, ?hys3⟩) hHeld ?rests3
    case hys3 => intro w' hSw; (try dsimp only at hSw); go_simp; try with_reducible rfl
    simp only [Act.put]
    refine wpAnyF_take [7] (by kernel_rfl) (i := 3) (v := ?vs4) rfl (by kernel_rfl) (by kernel_rfl) (by kernel_rfl) (fun _ _ _ h => h) (Or.inl ⟨by kernel_rfl, ?hys4⟩) hHeld ?rests4
    case hys4 => intro w' hSw; (try dsimp only at hSw); go_simp; try with_reducible rfl
    simp only [Act.put]
    refine wpAnyF_take [7, 6, 5] (by kernel_rfl) (i := 4) (v := ?vs5) rfl (by kernel_rfl) (by kernel_rfl) (by kernel_rfl) (fun _ _ _ h => h) (Or.inl ⟨by kernel_rfl, ?hys5⟩) hHeld ?rests5
    case hys5 => intro w' hSw; (try dsimp only at hSw); go_simp; try with_reducible rfl
    simp only [Act.put]
    refine wpAnyF_take [7, 6] (by kernel_rfl) (i := 5) (v := ?vs6) rfl (by kernel_rfl) (by kernel_rfl) (by kernel_rfl) (fun _ _ _ h => h) (Or.inl ⟨by kernel_rfl, ?hys6⟩) hHeld ?rests6
    case hys6 => intro w' hSw; (try dsimp only at hSw); go_simp; try with_reducible rfl
    simp only [Act.put]
    refine wpAnyF_take [7] (by kernel_rfl) (i := 6) (v := ?vs7) rfl (by kernel_rfl) (by kernel_rfl) (by kernel_rfl) (fun _ _ _ h => h) (Or.inl ⟨by kernel_rfl, ?hys7⟩) hHeld ?rests7
    case hys7 => intro w' hSw; (try dsimp only at hSw); go_simp; try with_reducible rfl
    simp only [Act.put]
    refine wpAnyF_ready (rs := [7]) (by kernel_rfl) (by simp) ?_
    refine AllReadyF.last rfl (fun K hK => ?_)
    go_simp
    refine HLy.out.mono ?_
    rintro e w4 ⟨rfl, HM4, HK4⟩
    dsimp only
    refine hK.out _ _ ?_
    clear hK K
    refine wpAnyF_done (by kernel_rfl) ?_ _
    clear HSS HLy
    have HKf := hide_ (HKa.out.trans ((Kp.later ((Below.refl w3.heap.size w3).drew)).trans HK4.out))
    have HM4 : Hid (Rz w4 B gr gp gb (.slice (some ⟨bT, oT, none⟩) T.length cT) (.slice (some ⟨bL, oL, none⟩) nL cL) ((C ++ [⟨40, 0, 2 + (C.length : Int), 0⟩]) ++ [⟨46, 0, 0, el⟩]) E) := HM4
    go_upto_region 20 with fail
    have HLz := hide_ (lay_any B gr gp gb _ _ _ E ⟨20, 0, 0, 0⟩ w4 (by omega) (fun h => by cases h) HM4)
    have jf := HM4.out.fn
    clear HM4
    go_wp2_with (go_at_call 23; refine HLz.out.mono ?_; rintro e w6 ⟨rfl, HM6, HK6⟩)
    go_end0
    exact ⟨rfl, hide_ (by rw [← HEq.out]; exact HM6.out), hide_ (HKf.out.trans HK6.out)⟩
  ·
    obtain ⟨hp0, hp1⟩ := parts_n hok.out (.inl rfl)
    have HAr := hide_ (arms_any B gr gp gb _ _ C E ps va vc w2 (by omega) (by omega) (hide_ (fun w' hb => (htc w' (below_trB HB2.out hb hbase)).2)) HM2)
    have HEq : Hid ((C ++ zaP ps (C.length : Int)) ++ [⟨20, 0, 0, 0⟩] = C ++ zrP T X ⟨7, nn, el, ps⟩ (C.length : Int)) := hide_ (by simp [zrP, zbP])
    have hlx : (C ++ zaP ps (C.length : Int)).length ≤ 900000000 := by simp [zaP, zaH_len, zaB_len]; omega
    go_upto_region 20 with (go_at_call 27; refine HAr.out.mono ?_; rintro e w4 ⟨rfl, HM4, HK4⟩)
    have HKf := hide_ (HK2.out.trans HK4.out)
    clear HAr j0 j1 j2 j3
    have HLz := hide_ (lay_any B gr gp gb _ _ _ E ⟨20, 0, 0, 0⟩ w4 (by omega) (fun h => by cases h) HM4)
    have jf := HM4.out.fn
    clear HM4
    go_wp2_with (go_at_call 23; refine HLz.out.mono ?_; rintro e w6 ⟨rfl, HM6, HK6⟩)
    go_end0
    exact ⟨rfl, hide_ (by rw [← HEq.out]; exact HM6.out), hide_ (HKf.out.trans HK6.out)⟩
  ·
    obtain ⟨hp0, hp1⟩ := parts_n hok.out (.inr rfl)
    have hyp : y = rowP X ps := by rw [← hy]; rfl
    have hyl2 : y.sl.length = ps.length := by rw [hyp]; exact rowP_len X ps
    have HFi := hide_ (fields_any B gr gp gb _ cT T (.slice (some ⟨bL, oL, none⟩) nL cL) C E ps va sa vc sc y.sz y.sl w2 (by omega) (by omega) hyl2 (hide_ (part_at hok.out hnT)) HT2 (hide_ (fun w' hb => (htc w' (below_trB HB2.out hb hbase)).2)) (hide_ (fun w' hb => (hlc w' (below_trB HB2.out hb hbase)).2.2)) HM2)
    have HEq : Hid ((C ++ zfP T ps ⟨y.sz, y.sl⟩) ++ [⟨20, 0, 0, 0⟩] = C ++ zrP T X ⟨8, nn, el, ps⟩ (C.length : Int)) := hide_ (by simp [zrP, zbP, hy])
    have hlx : (C ++ zfP T ps ⟨y.sz, y.sl⟩).length ≤ 900000000 := by
      have := (zfB_len T ps y.sl ps.length).2
      unfold zfP
      rw [List.length_append]
      split <;> simp <;> omega
    have c0 := K5.out.cell 0; have c1 := K5.out.cell 1
    simp at c0 c1
    clear hyp hy hyl2
    go_upto_region 20 with (go_at_call 28; refine HFi.out.mono ?_; rintro e w4 ⟨rfl, HM4, HK4⟩)
    have HKf := hide_ (HK2.out.trans HK4.out)
    clear HFi j0 j1 j2 j3 c0 c1
    have HLz := hide_ (lay_any B gr gp gb _ _ _ E ⟨20, 0, 0, 0⟩ w4 (by omega) (fun h => by cases h) HM4)
    have jf := HM4.out.fn
    clear HM4
    go_wp2_with (go_at_call 23; refine HLz.out.mono ?_; rintro e w6 ⟨rfl, HM6, HK6⟩)
    go_end0
    exact ⟨rfl, hide_ (by rw [← HEq.out]; exact HM6.out), hide_ (HKf.out.trans HK6.out)⟩
end Go.Proofs.Ytncndgfaalojpaa
