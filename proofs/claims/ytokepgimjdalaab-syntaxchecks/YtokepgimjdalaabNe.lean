/- SyntaxChecks. -/
import Derived.Test.YtokepgimjdalaabNd
import Derived.Test.YtokepgimjdalaabNc
import Derived.Test.YtokepgimjdalaabUd
namespace Go.Proofs.Ytokepgimjdalaab
open Go.RowKit
set_option linter.unusedVariables false

theorem blk_drew {w : World} {g : Nat} {t : TypeId} {xs : List Value} (h : Blk w g t xs) : Blk w.drew g t xs := h
theorem MkD.later {w w' : World} {vd : Value} {D : List Df} (h : MkD w vd D) (hB : Below w.heap.size w w') : MkD w' vd D := h.upd (Upd.of_below (S := fun _ => False) hB) (fun _ _ _ h => h)
theorem cellsN_put (x : Nd) : ∀ (N : List Nd) (m : Nat), m < N.length → (((((((cellsN N).set (m * 7) (.int .i64 x.k)).set (m * 7 + 1) (.int .i64 x.n)).set (m * 7 + 2) (.string x.name)).set (m * 7 + 3) (.string x.label)).set (m * 7 + 4) (.int .i64 x.tag)).set (m * 7 + 5) (.int .i64 x.kids)).set (m * 7 + 6) (.int .i64 x.a) = cellsN (N.set m x)
  | [], m, h => by simp at h
  | z :: N, 0, h => by
    have e : ∀ (z : Nd) (M : List Nd), cellsN (z :: M) = ndc z ++ cellsN M := fun z M => by simp [cellsN]
    rw [List.set_cons_zero, e, e]
    simp [ndc]
  | z :: N, m + 1, h => by
    have e : ∀ (z : Nd) (M : List Nd), cellsN (z :: M) = ndc z ++ cellsN M := fun z M => by simp [cellsN]
    have ih := cellsN_put x N m (by simpa using h)
    have q : ∀ (l : List Value) (j : Nat) (v : Value), (ndc z ++ l).set ((m + 1) * 7 + j) v = ndc z ++ l.set (m * 7 + j) v := fun l j v => by
      rw [List.set_append_right _ _ (by rw [ndc_len]; omega)]
      rw [show (m + 1) * 7 + j - (ndc z).length = m * 7 + j by rw [ndc_len]; omega]
    have q0 : ∀ (l : List Value) (v : Value), (ndc z ++ l).set ((m + 1) * 7) v = ndc z ++ l.set (m * 7) v := fun l v => q l 0 v
    rw [List.set_cons_succ, e, e, q0, q, q, q, q, q, q, ih]
/-- A list of nodes of a source is another one now. -/
theorem Src.putT {w : World} {B : Nat} {vd : Value} {D : List Df} {vs : List Value} (h : Src w B vd D vs) {i : Nat} {d : Df} (hd : D[i]? = some d) (hn : 0 < d.ty.length) :
    ∃ g cap gn cn ys, vd = .slice (some ⟨g, 0, none⟩) D.length cap ∧ w.cell? ⟨g, i * 3 + 2, none⟩ = some (.slice (some ⟨gn, 0, none⟩) d.ty.length cn) ∧ d.ty.length ≤ cn ∧ cn ≤ maxLen ∧ B ≤ gn ∧ Blk w gn 26 ys ∧ ys.length = cn * 7 ∧ ys.take (d.ty.length * 7) = cellsN d.ty ∧
      ∀ (w' : World) (N' : List Nd) (ys' : List Value), Upd (fun k => k = gn) w w' → N'.length = d.ty.length → Blk w' gn 26 ys' → ys'.length = cn * 7 → ys'.take (d.ty.length * 7) = cellsN N' → Src w' B vd (D.set i { d with ty := N' }) vs := by
  have hi := (List.getElem?_eq_some_iff.1 hd).1
  have hv : vs[i]? = some (vs[i]'(by rw [h.1]; exact hi)) := List.getElem?_eq_getElem _
  generalize vs[i]'(by rw [h.1]; exact hi) = v at hv
  obtain ⟨gn, cn, ys, hvv, hbn, hnc, hcm, hyl, hyt, hK⟩ := ownS_blk (h.2.2.1 i d v hd hv) hn
  obtain ⟨g, cap, zs, hvd, hb, hc, hm, hl, ht, hKd⟩ := ownS_blk h.2.1 (by omega)
  have hvo : v.ownBlock = some gn := by rw [hvv]; rfl
  refine ⟨g, cap, gn, cn, ys, hvd, ?_, hnc, hcm, hbn, hK, hyl, hyt, fun w' N' ys' hU hN hK' hyl' hyt' => ⟨by rw [List.length_set]; exact h.1, ?_, ?_, h.2.2.2⟩⟩
  · have hat := cellsD_at D vs i 2 d _ hd hv (by decide)
    have e2 : (dfc d v)[2]? = some v := rfl
    rw [e2] at hat
    rw [hKd.cell, ← hvv, ← hat, ← ht, List.getElem?_take, if_pos (by omega)]
  · rw [List.length_set, cellsD_ty D vs i d _ hd]
    exact ownS_upd h.2.1 hU (fun k hk e => by
      subst e
      obtain ⟨zs, hz2⟩ := ownS_type h.2.1 hk
      exact absurd (blk_type hK hz2) (by decide))
  · intro j e u he hu
    by_cases hij : i = j
    · subst hij
      rw [List.getElem?_set_self (by exact hi)] at he
      injection he with he
      subst he
      rw [hv] at hu
      injection hu with hu
      subst hu
      show w'.ownsRow B _ 7 v N'.length (cellsN N')
      have h2 := ownS_of_blk (B := B) (n := d.ty.length) (c := 7) (cap := cn) hK' hbn hyl' hnc hcm
      rw [hyt'] at h2
      rw [hN, hvv]
      exact h2
    · rw [List.getElem?_set_ne hij] at he
      exact ownS_upd (h.2.2.1 j e u he hu) hU (fun k hk e2 => by
        subst e2
        exact hij (h.2.2.2 i j v u k hv hu hvo hk))
set_option maxRecDepth 100000 in
set_option maxHeartbeats 8000000 in
theorem checks_any (a : Option Addr) (c : Nat) (D : List Df) (dd nn : Int) (x : Nd) (w : World) (hL : Hid (Wt D)) (hc : D.length ≤ c) (r : Hid (DRow w a D)) :
    Calls Try.prog 3 #[.agg #[.slice a D.length c], .int .i64 dd, .int .i64 nn, .agg #[.int .i64 x.k, .int .i64 x.n, .string x.name, .string x.label, .int .i64 x.tag, .int .i64 x.kids, .int .i64 x.a]] w fun e w' => e = .returned (.bool true) ∧ Below w.heap.size w w' := by
  have hD : D.length ≤ 2932031007401 := hL.out.1
  have HLn : Hid (Lens D) := hide_ ⟨by omega, fun d hd => by have := hL.out.2 d hd; omega⟩
  have k1 := (Blk.newA w #[.slice a D.length c] 24).alloc (.cells #[.int .i64 x.k, .int .i64 x.n, .string x.name, .string x.label, .int .i64 x.tag, .int .i64 x.kids, .int .i64 x.a] 26)
  have k2 : Blk ((w.alloc (.cells #[.slice a D.length c] 24)).alloc (.cells #[.int .i64 x.k, .int .i64 x.n, .string x.name, .string x.label, .int .i64 x.tag, .int .i64 x.kids, .int .i64 x.a] 26)) (w.heap.size + 1) 26 [.int .i64 x.k, .int .i64 x.n, .string x.name, .string x.label, .int .i64 x.tag, .int .i64 x.kids, .int .i64 x.a] := by
    have h := Blk.newA (w.alloc (.cells #[.slice a D.length c] 24)) #[.int .i64 x.k, .int .i64 x.n, .string x.name, .string x.label, .int .i64 x.tag, .int .i64 x.kids, .int .i64 x.a] 26; simpa using h
  have hBa := below2 w (.cells #[.slice a D.length c] 24) (.cells #[.int .i64 x.k, .int .i64 x.n, .string x.name, .string x.label, .int .i64 x.tag, .int .i64 x.kids, .int .i64 x.a] 26)
  obtain ⟨wa, hwa⟩ : ∃ wa, wa = (w.alloc (.cells #[.slice a D.length c] 24)).alloc (.cells #[.int .i64 x.k, .int .i64 x.n, .string x.name, .string x.label, .int .i64 x.tag, .int .i64 x.kids, .int .i64 x.a] 26) := ⟨_, rfl⟩
  rw [← hwa] at k1 k2 hBa
  have HK1 := hide_ k1
  have HK2 := hide_ k2
  have HBa := hide_ hBa
  have HR := hide_ (r.out.later hBa)
  clear k1 k2 hBa
  go_enter Try.func3, Try.ntmps3
  go_upto_region 1 with fail
  rw [← hwa]
  clear hwa
  go_wp2_with fail
  refine (first_any wa).mono ?_; rintro e w1 ⟨rfl, hB1⟩
  have HK1 := hide_ (HK1.out.later hB1)
  have HK2 := hide_ (HK2.out.later hB1)
  have HR := hide_ (HR.out.later hB1)
  have HB1 := hide_ (below_to HBa.out hB1)
  have c0 := HK1.out.cell 0
  simp at c0
  have HSz := hide_ HB1.out.size
  clear hB1 HBa
  go_wp2_with fail
  refine (lent_all a c D w1 hL hc HR).mono ?_; rintro e w2 ⟨vd, rfl, vs, HS, HB2, HM⟩
  obtain ⟨g, cap, rfl, hcp, hcm, -, hall⟩ := DRow.blk HS.out HM.out.1 HM.out.2
  have HAll := hide_ hall
  have k9 := Blk.newA w2 #[.slice (some ⟨g, 0, none⟩) D.length cap] 24
  have hB3 : Below w2.heap.size w2 (w2.alloc (.cells #[.slice (some ⟨g, 0, none⟩) D.length cap] 24)) := (Below.refl _ w2).alloc (Nat.le_refl _) _
  obtain ⟨w3, hw3⟩ : ∃ w3, w3 = w2.alloc (.cells #[.slice (some ⟨g, 0, none⟩) D.length cap] 24) := ⟨_, rfl⟩
  rw [← hw3] at k9 hB3
  have hB13 := below_to HB2.out hB3
  have HK9 := hide_ k9
  have HS := hide_ (HS.out.later hB3)
  have HM := hide_ (show MkN w3 D vs ∧ MkD w3 (.slice (some ⟨g, 0, none⟩) D.length cap) D from ⟨HM.out.1.later hB3, HM.out.2.later hB3⟩)
  have HK1 := hide_ (HK1.out.later hB13)
  have HK2 := hide_ (HK2.out.later hB13)
  have HR := hide_ (HR.out.later hB13)
  have HB3 := hide_ (below_to HB1.out hB13)
  obtain ⟨r1, k1', hv, hk1', hR1⟩ := HS.out.row
  injection hv with e1 e2 e3
  subst e1 e3
  have HR1 := hide_ hR1
  have d0 := k9.cell 0
  simp at d0
  clear k9 hB3 hB13 HB2 HB1 hR1 c0 hall HAll
  go_upto_region 4 with fail
  rw [← hw3]
  clear hw3
  obtain ⟨R, hR⟩ : ∃ R, ckP D = R := ⟨_, rfl⟩
  obtain ⟨q1, q2, q3⟩ := R
  have HC1 := check_any (some ⟨g, 0, none⟩) cap D w3 HLn HR1
  rw [hR] at HC1
  have HC1 := hide_ HC1
  go_wp2_with fail
  refine HC1.out.mono ?_; rintro e w4 ⟨rfl, hB4⟩
  have HK1 := hide_ (HK1.out.later hB4)
  have HK2 := hide_ (HK2.out.later hB4)
  have HK9 := hide_ (HK9.out.later hB4)
  have HR := hide_ (HR.out.later hB4)
  have HS := hide_ (HS.out.later hB4)
  have HM := hide_ (show MkN w4 D vs ∧ MkD w4 (.slice (some ⟨g, 0, none⟩) D.length cap) D from ⟨HM.out.1.later hB4, HM.out.2.later hB4⟩)
  have HB4 := hide_ (below_to HB3.out hB4)
  have HC2 := checkD_any a c D w4 hL HR
  rw [hR] at HC2
  have HC2 := hide_ HC2
  have c0 := HK1.out.cell 0
  simp at c0
  clear hB4 HB3 HC1 d0 hR HR1
  go_wp2_with fail
  refine HC2.out.mono ?_; rintro e w5 ⟨rfl, hB5⟩
  have HK1 := hide_ (HK1.out.later hB5)
  have HK2 := hide_ (HK2.out.later hB5)
  have HK9 := hide_ (HK9.out.later hB5)
  have HR := hide_ (HR.out.later hB5)
  have HS := hide_ (HS.out.later hB5)
  have HM := hide_ (show MkN w5 D vs ∧ MkD w5 (.slice (some ⟨g, 0, none⟩) D.length cap) D from ⟨HM.out.1.later hB5, HM.out.2.later hB5⟩)
  have HB5 := hide_ (below_to HB4.out hB5)
  have HKp := hide_ (kept_any (.slice (some ⟨g, 0, none⟩) D.length cap) vs w1.heap.size a c D w5 hL hc HS HM HR)
  have c0 := HK1.out.cell 0
  have d0 := HK9.out.cell 0
  simp at c0 d0
  clear hB5 HB4 HC2
  go_wp2_with fail
  refine HKp.out.mono ?_; rintro e w6 ⟨rfl, hB6⟩
  have HK2 := hide_ (HK2.out.later hB6)
  have HK9 := hide_ (HK9.out.later hB6)
  have HS := hide_ (HS.out.later hB6)
  have HM := hide_ (show MkN w6 D vs ∧ MkD w6 (.slice (some ⟨g, 0, none⟩) D.length cap) D from ⟨HM.out.1.later hB6, HM.out.2.later hB6⟩)
  have HB6 := hide_ (below_to HB5.out hB6)
  have d0 := HK9.out.cell 0
  simp at d0
  clear hB6 HB5 HKp c0 HK1 HR r
  by_cases h1 : dd < 0
  · go_wp2
    go_ret
    exact ⟨rfl, HB6.out⟩
  by_cases h2 : (D.length : Int) ≤ dd
  · go_wp2
    go_ret
    exact ⟨rfl, HB6.out⟩
  by_cases h3 : nn < 0
  · go_wp2
    go_ret
    exact ⟨rfl, HB6.out⟩
  obtain ⟨i, rfl⟩ : ∃ i : Nat, dd = (i : Int) := ⟨dd.toNat, by omega⟩
  obtain ⟨m, rfl⟩ : ∃ m : Nat, nn = (m : Int) := ⟨nn.toNat, by omega⟩
  have hi : i < D.length := by omega
  have hd : D[i]? = some (D[i]'hi) := List.getElem?_eq_getElem hi
  obtain ⟨r1, k1', hv1, hk1', hR1⟩ := HS.out.row
  obtain ⟨b, o, hrb, -, hcs⟩ := hR1.open (by omega)
  injection hv1 with e1 e2 e3
  subst e1
  injection hrb with hrb
  injection hrb with e1 e2
  subst e1 e2
  obtain ⟨va, vc, hcx, hvc, -, -⟩ := hcs i _ hd
  have hty : (D[i]'hi).ty.length ≤ 1954687338267 := hL.out.2 _ (List.getElem_mem hi)
  have Hd := hide_ hd
  have HWt : Hid (∀ N' : List Nd, N'.length = (D[i]'hi).ty.length → Wt (D.set i { (D[i]'hi) with ty := N' })) := hide_ (fun N' hN => ⟨by rw [List.length_set]; exact hL.out.1, fun e he => by
    obtain ⟨j, hj, rfl⟩ := List.getElem_of_mem he
    rw [List.length_set] at hj
    rw [List.getElem_set]
    split
    · show N'.length ≤ _; rw [hN]; exact hty
    · exact hL.out.2 _ (List.getElem_mem hj)⟩)
  generalize D[i]'hi = d at *
  have f2 := hcx 2 (by decide)
  simp [dfc] at f2
  have hi' : (i : Int) < D.length := by omega
  clear hcs hd hcx hR1
  by_cases h4 : (d.ty.length : Int) ≤ m
  · go_wp2
    go_ret
    exact ⟨rfl, HB6.out⟩
  have hm' : (m : Int) < d.ty.length := by omega
  obtain ⟨g2, cap2, gn, cn, ys, hvd2, hf2, hcn, hcm2, hBn, hK, hyl, hyt, hput⟩ := HS.out.putT Hd.out (by omega)
  injection hvd2 with e1 e2 e3
  injection e1 with e1
  injection e1 with e1
  subst e1
  rw [f2] at hf2
  injection hf2 with hf2
  injection hf2 with e1 e2 e3
  subst e1 e3
  have hmy : m * 7 + 6 < ys.length := by rw [hyl]; omega
  have y : ∀ j, j < 7 → ∃ v, w6.cell? ⟨gn, m * 7 + j, none⟩ = some v := fun j hj => ⟨_, by rw [hK.cell]; exact List.getElem?_eq_getElem (show m * 7 + j < ys.length by omega)⟩
  obtain ⟨v0, y0⟩ := y 0 (by decide); obtain ⟨v1, y1⟩ := y 1 (by decide); obtain ⟨v2, y2⟩ := y 2 (by decide); obtain ⟨v3, y3⟩ := y 3 (by decide); obtain ⟨v4, y4⟩ := y 4 (by decide); obtain ⟨v5, y5⟩ := y 5 (by decide); obtain ⟨v6, y6⟩ := y 6 (by decide)
  have z0 := hK.frozen (m * 7); have z1 := hK.frozen (m * 7 + 1); have z2 := hK.frozen (m * 7 + 2); have z3 := hK.frozen (m * 7 + 3); have z4 := hK.frozen (m * 7 + 4); have z5 := hK.frozen (m * 7 + 5); have z6 := hK.frozen (m * 7 + 6)
  simp at y0
  have HKn := hide_ hK
  have HPut := hide_ hput
  have HYl := hide_ hyl
  have HYt := hide_ hyt
  have hcn' : vc ≤ 9223372036854775807 := hcm2
  clear y hK hput hyl hyt hmy hcm2
  go_upto_region 10 with fail
  have x0 := HK2.out.cell 0; have x1 := HK2.out.cell 1; have x2 := HK2.out.cell 2; have x3 := HK2.out.cell 3; have x4 := HK2.out.cell 4; have x5 := HK2.out.cell 5; have x6 := HK2.out.cell 6
  simp at x0 x1 x2 x3 x4 x5 x6
  have hU : Upd (fun k => k = gn) w6 ((((((((w6.setCell ⟨gn, m * 7, none⟩ (.int .i64 x.k)).setCell ⟨gn, m * 7 + 1, none⟩ (.int .i64 x.n)).setCell ⟨gn, m * 7 + 2, none⟩ (.string x.name)).setCell ⟨gn, m * 7 + 3, none⟩ (.string x.label)).setCell ⟨gn, m * 7 + 4, none⟩ (.int .i64 x.tag)).setCell ⟨gn, m * 7 + 5, none⟩ (.int .i64 x.kids)).setCell ⟨gn, m * 7 + 6, none⟩ (.int .i64 x.a)).drew) := ((((((((Upd.refl (fun k => k = gn) w6).set ⟨gn, m * 7, none⟩ _ (.inl rfl)).set ⟨gn, m * 7 + 1, none⟩ _ (.inl rfl)).set ⟨gn, m * 7 + 2, none⟩ _ (.inl rfl)).set ⟨gn, m * 7 + 3, none⟩ _ (.inl rfl)).set ⟨gn, m * 7 + 4, none⟩ _ (.inl rfl)).set ⟨gn, m * 7 + 5, none⟩ _ (.inl rfl)).set ⟨gn, m * 7 + 6, none⟩ _ (.inl rfl)).drew
  have hK7 : Blk ((((((((w6.setCell ⟨gn, m * 7, none⟩ (.int .i64 x.k)).setCell ⟨gn, m * 7 + 1, none⟩ (.int .i64 x.n)).setCell ⟨gn, m * 7 + 2, none⟩ (.string x.name)).setCell ⟨gn, m * 7 + 3, none⟩ (.string x.label)).setCell ⟨gn, m * 7 + 4, none⟩ (.int .i64 x.tag)).setCell ⟨gn, m * 7 + 5, none⟩ (.int .i64 x.kids)).setCell ⟨gn, m * 7 + 6, none⟩ (.int .i64 x.a)).drew) gn 26 (((((((ys.set (m * 7) (.int .i64 x.k)).set (m * 7 + 1) (.int .i64 x.n)).set (m * 7 + 2) (.string x.name)).set (m * 7 + 3) (.string x.label)).set (m * 7 + 4) (.int .i64 x.tag)).set (m * 7 + 5) (.int .i64 x.kids)).set (m * 7 + 6) (.int .i64 x.a)) := by
    have q := HKn.out.set (m * 7) (.int .i64 x.k)
    have q := q.set (m * 7 + 1) (.int .i64 x.n)
    have q := q.set (m * 7 + 2) (.string x.name)
    have q := q.set (m * 7 + 3) (.string x.label)
    have q := q.set (m * 7 + 4) (.int .i64 x.tag)
    have q := q.set (m * 7 + 5) (.int .i64 x.kids)
    have q := q.set (m * 7 + 6) (.int .i64 x.a)
    exact blk_drew q
  obtain ⟨w7, hw7⟩ : ∃ w7, w7 = (((((((w6.setCell ⟨gn, m * 7, none⟩ (.int .i64 x.k)).setCell ⟨gn, m * 7 + 1, none⟩ (.int .i64 x.n)).setCell ⟨gn, m * 7 + 2, none⟩ (.string x.name)).setCell ⟨gn, m * 7 + 3, none⟩ (.string x.label)).setCell ⟨gn, m * 7 + 4, none⟩ (.int .i64 x.tag)).setCell ⟨gn, m * 7 + 5, none⟩ (.int .i64 x.kids)).setCell ⟨gn, m * 7 + 6, none⟩ (.int .i64 x.a)).drew := ⟨_, rfl⟩
  rw [← hw7] at hU hK7
  have hlm : (d.ty.set m x).length = d.ty.length := by simp
  have S7 := HPut.out w7 (d.ty.set m x) _ hU hlm hK7 (by simp only [List.length_set]; exact HYl.out) (by
    simp only [List.take_set]
    rw [HYt.out]
    exact cellsN_put x d.ty m (by omega))
  have W7 := HWt.out (d.ty.set m x) hlm
  have k7 := HK9.out.upd hU (fun e => by
    rw [e] at HK9
    exact absurd (blk_type HK9.out HKn.out) (by decide))
  have b7 : Below w.heap.size w w7 := HB6.out.trans (hU.below w.heap.size HB6.out.size (fun k hk => by subst hk; exact Nat.le_trans HSz.out hBn))
  have hlD : (D.set i { d with ty := d.ty.set m x }).length = D.length := List.length_set
  obtain ⟨D2, hD2⟩ : ∃ D2, D.set i { d with ty := d.ty.set m x } = D2 := ⟨_, rfl⟩
  rw [hD2] at S7 W7 hlD
  obtain ⟨r7, kc7, hv7, hkc7, hR7⟩ := S7.row
  rw [hlD] at hv7 hkc7
  injection hv7 with e1 e2 e3
  subst e1 e3
  have HW7 := hide_ W7
  have HLn7 : Hid (Lens D2) := hide_ ⟨by have := W7.1; omega, fun d hd => by have := W7.2 d hd; omega⟩
  have HR7 := hide_ hR7
  have HK7 := hide_ k7
  have HB7 := hide_ b7
  obtain ⟨R, hR⟩ : ∃ R, ckP D2 = R := ⟨_, rfl⟩
  obtain ⟨q4, q5, q6⟩ := R
  have HC7 := check_any (some ⟨g, 0, none⟩) k1' D2 w7 HLn7 HR7
  rw [hR, hlD] at HC7
  have HC7 := hide_ HC7
  have HRr := hide_ hR
  have HlD := hide_ hlD
  have HHw := hide_ hw7
  clear hU hK7 S7 W7 k7 b7 hD2 hR7 hR hlD hlm HPut HWt HYl HYt HKn hw7
  go_region
  rw [← HHw.out]
  clear x0 x1 x2 x3 x4 x5 x6 y0 y1 y2 y3 y4 y5 y6 z0 z1 z2 z3 z4 z5 z6 d0 f2 HHw HS HM HK2 HK9
  have d0 := HK7.out.cell 0
  simp at d0
  go_wp2_with fail
  refine HC7.out.mono ?_; rintro e w8 ⟨rfl, hB8⟩
  have HK8 := hide_ (HK7.out.later hB8)
  have HR8 := hide_ (HR7.out.later hB8)
  have HB8 := hide_ (below_to HB7.out hB8)
  have HLe := lent_all (some ⟨g, 0, none⟩) k1' D2 w8 HW7 (by rw [HlD.out]; first | exact hkc7 | exact hk1' | assumption) HR8
  rw [HlD.out] at HLe
  have HLe := hide_ HLe
  have d0 := HK8.out.cell 0
  simp at d0
  clear hB8 HC7 HR7 HB7 HK7
  go_wp2_with fail
  refine HLe.out.mono ?_; rintro e w9 ⟨vd2, rfl, vs2, HS9, HB9, -⟩
  obtain ⟨r9, kc9, rfl, hkc9, hR9⟩ := HS9.out.row
  have HC9 := checkD_any r9 kc9 D2 w9 HW7 (hide_ hR9)
  rw [HRr.out] at HC9
  have HC9 := hide_ HC9
  have HB9' := hide_ (below_to HB8.out HB9.out)
  clear hR9 HS9 HLe HB8 HR8 HK8
  go_wp2_with fail
  refine HC9.out.mono ?_; rintro e w10 ⟨rfl, hB10⟩
  have HBf := hide_ (below_to HB9'.out hB10)
  clear hB10 HC9 HB9' d0
  go_wp2
  go_ret
  exact ⟨by simp, HBf.out⟩
end Go.Proofs.Ytokepgimjdalaab
