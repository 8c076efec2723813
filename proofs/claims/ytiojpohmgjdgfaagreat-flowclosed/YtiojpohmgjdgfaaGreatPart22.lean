import Derived.Test.YtiojpohmgjdgfaaGreatPart21

/- sound: quietBy, bareBack. -/
namespace Go.Proofs.YtiojpohmgjdgfaaGreat
open Go.RowKit
set_option linter.unusedVariables false
set_option linter.unusedSimpArgs false

set_option maxRecDepth 100000 in
set_option maxHeartbeats 8000000 in
theorem quietBy_any (b cc ce gs gq : Nat) (ac ae : Option Addr) (enc : Bool) (C : List In) (E : List Int) (S : List St) (Q : List Bool) (vb : Value) (k : Nat) (w : World) (hk : k < C.length) (hcc : C.length ≤ cc) (hcl : cc ≤ 9223372036854775807) (hC : Hid (CeOk enc C E)) (h : Hid (PtS w b cc ce gs gq ac ae enc C E S Q vb)) :
    Calls Tryz.prog 117 #[.pointer (some ⟨b, 0, none⟩), .int .i64 (k : Int)] w fun e w' => ∃ v, e = .returned v ∧ Hid (IOwn w' w.heap.size v (qbyP C E k)) ∧ Hid (Below w.heap.size w w') := by
  obtain ⟨bc, oc, hac⟩ := h.out.adr hk
  subst hac
  obtain ⟨x, hx⟩ : ∃ x, C[k]? = some x := ⟨_, List.getElem?_eq_getElem hk⟩
  have hxA : inA C k = x := inA_at hx
  obtain ⟨w2, hw2⟩ : ∃ wx, w.alloc (.cells #[.int .i64 x.op, .int .i64 x.a, .int .i64 x.b, .int .i64 x.c] 43) = wx := ⟨_, rfl⟩
  have hB2 : Below w.heap.size w w2 := by rw [← hw2]; exact below1 _ _
  have KX : Blk w2 w.heap.size 43 (inc x) := by rw [← hw2]; exact Blk.newA w _ _
  have hzw : w.heap.size ≤ w2.heap.size := hB2.size
  have L2 := h.out.later hB2
  obtain ⟨-, c1, -, -, -, -⟩ := h.out.cells
  obtain ⟨j0, j1, j2, j3⟩ := h.out.code.at hx
  obtain ⟨i0, i1, i2, i3⟩ := KX.ci
  have hkc : (k : Int) < (C.length : Int) := by omega
  have HB2 := hide_ hB2
  have hwl := ways_len hC.out.cd hk
  have HWy := hide_ (fun w3 (hB : Below w2.heap.size w2 w3) => pways_any b cc ce gs gq _ ae enc C E S Q vb k w3 hk hcc hcl (hide_ hC.out.cd) (hide_ (L2.later hB)))
  by_cases ho : x.op = 16
  · have hcal := hC.out.cal k hk (by rw [hxA]; exact ho)
    rw [hxA] at hcal
    obtain ⟨m, hm⟩ := Int.eq_ofNat_of_zero_le hcal.1
    have hmE : m < E.length := by omega
    have hent := hC.out.ent m hmE
    obtain ⟨q, hq⟩ := Int.eq_ofNat_of_zero_le hent.1
    obtain ⟨be, oe, hae, hbe, hce⟩ := L2.ent.open (by omega)
    have eq := hce m hmE
    rw [hq] at eq
    have hmEi : (m : Int) < (E.length : Int) := by omega
    have HW : Hid (qbyP C E k = waysP C k ++ [(q : Int)]) := hide_ (by unfold qbyP enA; rw [hxA, if_pos ho, hm, Int.toNat_natCast, hq])
    have HS1 : Hid (∀ w3, Below w2.heap.size w2 w3 → (fun w' => w'.cell? ⟨b, 2, none⟩ = some (.slice (some ⟨be, oe, none⟩) E.length ce) ∧ w'.cell? ⟨w.heap.size, 3, none⟩ = some (.int .i64 (m : Int)) ∧ w'.cell? ⟨be, oe + m, none⟩ = some (.int .i64 (q : Int))) w3) := hide_ (fun w3 hB => by
      have a1 := (L2.later hB).cells.2.2.1
      have a2 := (KX.later hB).ci
      rw [hae] at a1
      rw [hm] at a2
      exact ⟨a1, a2.2.2.2, (hB.cell (p := ⟨be, oe + m, none⟩) hbe).trans eq⟩)
    have Ho := hide_ ho
    clear hq hent hcal hae hbe hce ho hm hB2 KX L2 hx hxA h eq
    go_enter Tryz.func117, Tryz.ntmps117
    go_upto_region 2 with fail
    try rw [hw2]
    clear hw2 c1 j0 j1 j2 j3
    rw [Ho.out] at i0
    go_wp2_with fail
    refine wp_region_last 14 (fun w' => w'.cell? ⟨b, 2, none⟩ = some (.slice (some ⟨be, oe, none⟩) E.length ce) ∧ w'.cell? ⟨w.heap.size, 3, none⟩ = some (.int .i64 (m : Int)) ∧ w'.cell? ⟨be, oe + m, none⟩ = some (.int .i64 (q : Int))) (by kernel_rfl) (HS1.out _ (Below.refl _ _).drew) (fun hHeld => ?_)
    obtain ⟨wz0, hz0⟩ : ∃ wx, w2.drew = wx := ⟨_, rfl⟩
    rw [hz0] at hHeld ⊢
    have HBz0 : Hid (Below w2.heap.size w2 wz0) := hide_ (by rw [← hz0]; exact (Below.refl _ _).drew)
    clear hz0
    refine wpAnyF_take [14] (by kernel_rfl) (i := 0) (v := ?vp1) rfl (by kernel_rfl) (by kernel_rfl) (by kernel_rfl) (fun _ _ _ h => h) (Or.inl ⟨by kernel_rfl, ?hyp1⟩) hHeld ?restp1
    case hyp1 => intro w' hSw; (try dsimp only at hSw); go_simp; try with_reducible rfl
    simp only [Act.put]
    try dsimp only
    refine wpAnyF_take [14] (by kernel_rfl) (i := 1) (v := ?vp2) rfl (by kernel_rfl) (by kernel_rfl) (by kernel_rfl) (fun _ _ _ h => h) (Or.inl ⟨by kernel_rfl, ?hyp2⟩) hHeld ?restp2
    case hyp2 => intro w' hSw; (try dsimp only at hSw); go_simp; try with_reducible rfl
    simp only [Act.put]
    try dsimp only
    refine wpAnyF_take [14] (by kernel_rfl) (i := 3) (v := ?vp3) rfl (by kernel_rfl) (by kernel_rfl) (by kernel_rfl) (fun _ _ _ h => h) (Or.inl ⟨by kernel_rfl, ?hyp3⟩) hHeld ?restp3
    case hyp3 => intro w' hSw; (try dsimp only at hSw); go_simp; try with_reducible rfl
    simp only [Act.put]
    try dsimp only
    refine wpAnyF_take [14] (by kernel_rfl) (i := 4) (v := ?vp4) rfl (by kernel_rfl) (by kernel_rfl) (by kernel_rfl) (fun _ _ _ h => h) (Or.inl ⟨by kernel_rfl, ?hyp4⟩) hHeld ?restp4
    case hyp4 => intro w' hSw; (try dsimp only at hSw); go_simp; try with_reducible rfl
    simp only [Act.put]
    try dsimp only
    refine wpAnyF_take [14] (by kernel_rfl) (i := 5) (v := ?vp5) rfl (by kernel_rfl) (by kernel_rfl) (by kernel_rfl) (fun _ _ _ h => h) (Or.inl ⟨by kernel_rfl, ?hyp5⟩) hHeld ?restp5
    case hyp5 => intro w' hSw; (try dsimp only at hSw); go_simp; try with_reducible rfl
    simp only [Act.put]
    try dsimp only
    refine wpAnyF_take [14] (by kernel_rfl) (i := 6) (v := ?vp6) rfl (by kernel_rfl) (by kernel_rfl) (by kernel_rfl) (fun _ _ _ h => h) (Or.inl ⟨by kernel_rfl, ?hyp6⟩) hHeld ?restp6
    case hyp6 => intro w' hSw; (try dsimp only at hSw); go_simp; try with_reducible rfl
    simp only [Act.put]
    try dsimp only
    refine wpAnyF_take [14] (by kernel_rfl) (i := 7) (v := ?vp7) rfl (by kernel_rfl) (by kernel_rfl) (by kernel_rfl) (fun _ _ _ h => h) (Or.inl ⟨by kernel_rfl, ?hyp7⟩) hHeld ?restp7
    case hyp7 => intro w' hSw; (try dsimp only at hSw); go_simp; try with_reducible rfl
    simp only [Act.put]
    try dsimp only
    refine wpAnyF_take [14] (by kernel_rfl) (i := 8) (v := ?vp8) rfl (by kernel_rfl) (by kernel_rfl) (by kernel_rfl) (fun _ _ _ h => h) (Or.inl ⟨by kernel_rfl, ?hyp8⟩) hHeld ?restp8
    case hyp8 => intro w' hSw; (try dsimp only at hSw); go_simp; try with_reducible rfl
    simp only [Act.put]
    try dsimp only
    refine wpAnyF_take [14] (by kernel_rfl) (i := 9) (v := ?vp9) rfl (by kernel_rfl) (by kernel_rfl) (by kernel_rfl) (fun _ _ _ h => h) (Or.inl ⟨by kernel_rfl, ?hyp9⟩) hHeld ?restp9
    case hyp9 => intro w' hSw; (try dsimp only at hSw); go_simp; try with_reducible rfl
    simp only [Act.put]
    try dsimp only
    refine wpAnyF_take [14] (by kernel_rfl) (i := 10) (v := ?vp10) rfl (by kernel_rfl) (by kernel_rfl) (by kernel_rfl) (fun _ _ _ h => h) (Or.inl ⟨by kernel_rfl, ?hyp10⟩) hHeld ?restp10
    case hyp10 => intro w' hSw; (try dsimp only at hSw); go_simp; try with_reducible rfl
    simp only [Act.put]
    try dsimp only
    refine wpAnyF_take [14] (by kernel_rfl) (i := 11) (v := ?vp11) rfl (by kernel_rfl) (by kernel_rfl) (by kernel_rfl) (fun _ _ _ h => h) (Or.inl ⟨by kernel_rfl, ?hyp11⟩) hHeld ?restp11
    case hyp11 => intro w' hSw; (try dsimp only at hSw); go_simp; try with_reducible rfl
    simp only [Act.put]
    try dsimp only
    refine wpAnyF_ready (rs := [2, 12]) (by kernel_rfl) (by simp) ?_
    refine AllReadyF.cons rfl (fun K hK => ?_) ?_
    · go_simp
      refine (HWy.out wz0 HBz0.out).mono ?_
      rintro e wz1 ⟨v, rfl, HO0, HBn⟩
      have hbz := HBn.out
      have HO_1 : Hid (IOwn wz1 w.heap.size v (waysP C k)) := hide_ (own_base HO0.out (Nat.le_trans hzw HBz0.out.size))
      have HLv_1 : Hid (∀ q, v.ownBlock = some q → w2.heap.size ≤ q) := hide_ (fun q e => Nat.le_trans HBz0.out.size (HO0.out.lies e).1)
      have HBz1 := hide_ (below_to HBz0.out hbz)
      have hSz1 := HS1.out wz1 HBz1.out
      clear hbz HBn HO0
      go_simp
      refine hK.out _ _ (hSz1) (fun hHeld => ?_)
      clear hK K
      refine wpAnyF_ready (rs := [12]) (by kernel_rfl) (by simp) ?_
      refine AllReadyF.cons rfl (fun K hK => ?_) AllReadyF.nil
      go_simp
      obtain ⟨wz2, hz⟩ : ∃ wx, wz1.alloc (.cells #[.int .i64 (q : Int)] 3) = wx := ⟨_, rfl⟩
      obtain ⟨gq2, ha⟩ : ∃ a, wz1.heap.size = a := ⟨_, rfl⟩
      have hbz : Below wz1.heap.size wz1 wz2 := by rw [← hz]; exact below1 _ _
      have KQ_2 : Hid (Blk wz2 gq2 3 (cellsL .i64 [(q : Int)])) := hide_ (by rw [← hz, ← ha]; exact Blk.newA _ _ _)
      have HBz2 := hide_ (below_to HBz1.out hbz)
      have HLv_2 := HLv_1
      have HO_2 : Hid (IOwn wz2 w.heap.size v (waysP C k)) := hide_ (HO_1.out.later hbz)
      have hSz2 := HS1.out wz2 HBz2.out
      rw [hz, ha]
      clear hbz hz ha
      refine hK.out _ _ (hSz2) (fun hHeld => ?_)
      clear hK K
      refine wpAnyF_ready (rs := [13]) (by kernel_rfl) (by simp) ?_
      refine AllReadyF.cons rfl (fun K hK => ?_) AllReadyF.nil
      obtain ⟨v5, w5, hr5, hW5, hU5, -⟩ := HO_2.out.app (r := [(q : Int)]) (cap := 1) (KQ_2.out.row) (fun e => by cases e) (by simp; omega) (Nat.le_trans hzw HBz2.out.size)
      have HRun := hide_ hr5
      have HW5 := hide_ hW5
      have HB5 : Hid (Below w.heap.size w w5) := hide_ (below_to2 (below_to HB2.out HBz2.out) hU5 (fun q e => (HO_2.out.lies e).1))
      have hS5 := HS1.out w5 (below_to2 HBz2.out hU5 (fun q e => HLv_2.out q e))
      refine step_append_run rfl (.tmp 19) (.tmp 29) 23 23 rfl (v := v) (u := .slice (some ⟨gq2, 0, none⟩) 1 1) (by kernel_rfl) (by kernel_rfl) HRun.out ?_
      simp only [Act.put]
      refine hK.out _ _ (hS5) (fun hHeld => ?_)
      clear hK K
      refine wpAnyF_ready (rs := [14]) (by kernel_rfl) (by simp) ?_
      refine AllReadyF.last rfl (fun K hK => ?_)
      go_simp
      refine hK.out _ _ ?_
      clear hK K
      refine wpAnyF_done (by kernel_rfl) ?_ _
      go_wp2_with fail
      go_ret
      exact ⟨v5, rfl, hide_ (by rw [HW.out]; exact HW5.out), HB5⟩
    refine AllReadyF.cons rfl (fun K hK => ?_) AllReadyF.nil
    go_simp
    obtain ⟨wz1, hz⟩ : ∃ wx, wz0.alloc (.cells #[.int .i64 (q : Int)] 3) = wx := ⟨_, rfl⟩
    obtain ⟨gq2, ha⟩ : ∃ a, wz0.heap.size = a := ⟨_, rfl⟩
    have hbz : Below wz0.heap.size wz0 wz1 := by rw [← hz]; exact below1 _ _
    have KQ_1 : Hid (Blk wz1 gq2 3 (cellsL .i64 [(q : Int)])) := hide_ (by rw [← hz, ← ha]; exact Blk.newA _ _ _)
    have HBz1 := hide_ (below_to HBz0.out hbz)
    have hSz1 := HS1.out wz1 HBz1.out
    rw [hz, ha]
    clear hbz hz ha
    refine hK.out _ _ (hSz1) (fun hHeld => ?_)
    clear hK K
    refine wpAnyF_ready (rs := [2]) (by kernel_rfl) (by simp) ?_
    refine AllReadyF.cons rfl (fun K hK => ?_) AllReadyF.nil
    go_simp
    refine (HWy.out wz1 HBz1.out).mono ?_
    rintro e wz2 ⟨v, rfl, HO0, HBn⟩
    have hbz := HBn.out
    have HO_2 : Hid (IOwn wz2 w.heap.size v (waysP C k)) := hide_ (own_base HO0.out (Nat.le_trans hzw HBz1.out.size))
    have HLv_2 : Hid (∀ q, v.ownBlock = some q → w2.heap.size ≤ q) := hide_ (fun q e => Nat.le_trans HBz1.out.size (HO0.out.lies e).1)
    have HBz2 := hide_ (below_to HBz1.out hbz)
    have KQ_2 := hide_ (KQ_1.out.later hbz)
    have hSz2 := HS1.out wz2 HBz2.out
    clear hbz HBn HO0
    go_simp
    refine hK.out _ _ (hSz2) (fun hHeld => ?_)
    clear hK K
    refine wpAnyF_ready (rs := [13]) (by kernel_rfl) (by simp) ?_
    refine AllReadyF.cons rfl (fun K hK => ?_) AllReadyF.nil
    obtain ⟨v5, w5, hr5, hW5, hU5, -⟩ := HO_2.out.app (r := [(q : Int)]) (cap := 1) (KQ_2.out.row) (fun e => by cases e) (by simp; omega) (Nat.le_trans hzw HBz2.out.size)
    have HRun := hide_ hr5
    have HW5 := hide_ hW5
    have HB5 : Hid (Below w.heap.size w w5) := hide_ (below_to2 (below_to HB2.out HBz2.out) hU5 (fun q e => (HO_2.out.lies e).1))
    have hS5 := HS1.out w5 (below_to2 HBz2.out hU5 (fun q e => HLv_2.out q e))
    refine step_append_run rfl (.tmp 19) (.tmp 29) 23 23 rfl (v := v) (u := .slice (some ⟨gq2, 0, none⟩) 1 1) (by kernel_rfl) (by kernel_rfl) HRun.out ?_
    simp only [Act.put]
    refine hK.out _ _ (hS5) (fun hHeld => ?_)
    clear hK K
    refine wpAnyF_ready (rs := [14]) (by kernel_rfl) (by simp) ?_
    refine AllReadyF.last rfl (fun K hK => ?_)
    go_simp
    refine hK.out _ _ ?_
    clear hK K
    refine wpAnyF_done (by kernel_rfl) ?_ _
    go_wp2_with fail
    go_ret
    exact ⟨v5, rfl, hide_ (by rw [HW.out]; exact HW5.out), HB5⟩
  · have f0 : (x.op == 16) = false := by simpa using ho
    have HW : Hid (qbyP C E k = waysP C k) := hide_ (by unfold qbyP; rw [hxA, if_neg ho])
    clear ho hB2 KX L2 hx hxA h
    go_enter Tryz.func117, Tryz.ntmps117
    go_upto_region 2 with fail
    try rw [hw2]
    clear hw2 c1 j0 j1 j2 j3
    go_wp2_with fail
    refine (HWy.out w2 (Below.refl _ _)).mono ?_
    rintro e w4 ⟨v, rfl, HO, HB4⟩
    go_wp2_with fail
    go_ret
    exact ⟨v, rfl, hide_ (by rw [HW.out]; exact own_base HO.out hzw), hide_ (below_to HB2.out HB4.out)⟩
set_option maxRecDepth 100000 in
set_option maxHeartbeats 4000000 in
theorem bareBack_any (b cc ce gs gq gb B n : Nat) (ac ae : Option Addr) (enc : Bool) (C : List In) (E : List Int) (S : List St) (Q : List Bool) (vs : List Value) (U : List (List Int)) (k : Nat) (w : World) (hk : k < n) (hn : U.length = n) (hK : Hid (BkR w B gb vs U)) (h : Hid (PtS w b cc ce gs gq ac ae enc C E S Q (.slice (some ⟨gb, 0, none⟩) n n))) :
    Calls Tryz.prog 122 #[.pointer (some ⟨b, 0, none⟩), .int .i64 (k : Int)] w fun e w' => (∃ a c, e = .returned (.slice a (uA U k).length c) ∧ Hid (a = none → c = 0) ∧ Hid (Row .i64 w' a (uA U k))) ∧ w = w' := by
  obtain ⟨c0, c1, c2, c3, c4, c5⟩ := h.out.cells
  have hkv : k < vs.length := by rw [hK.out.len]; omega
  obtain ⟨v, hv⟩ : ∃ v, vs[k]? = some v := ⟨_, List.getElem?_eq_getElem hkv⟩
  have cv := (hK.out.blk.cell k).trans hv
  obtain ⟨a, c, e, hr, hnil, -⟩ := (hK.out.own k v hv).row
  subst e
  have Hr := hide_ hr
  have Hnil := hide_ hnil
  have hkn : (k : Int) < (n : Int) := by omega
  clear hr hnil hv hkv
  go_enter Tryz.func122, Tryz.ntmps122
  go_wp2_with fail
  go_ret
  exact ⟨⟨a, c, rfl, Hnil, Hr⟩, rfl⟩
end Go.Proofs.YtiojpohmgjdgfaaGreat

/- sound, plain: what the reversed edges are: how many, and whose. -/
namespace Go.Proofs.YtiojpohmgjdgfaaGreat
open Go.RowKit
set_option linter.unusedVariables false
set_option linter.unusedSimpArgs false

def sumU : List (List Int) → Nat
  | [] => 0
  | l :: U => l.length + sumU U
theorem sum_set : ∀ (U : List (List Int)) (k : Nat) (x : Int), k < U.length → sumU (U.set k (uA U k ++ [x])) = sumU U + 1
  | [], k, x, h => by simp at h
  | l :: U, 0, x, h => by simp [sumU, uA]; omega
  | l :: U, k + 1, x, h => by
    have ih := sum_set U k x (by simpa using h)
    have e : uA (l :: U) (k + 1) = uA U k := by simp [uA]
    rw [e, List.set_cons_succ]
    simp only [sumU]
    omega
theorem uA_set (U : List (List Int)) (k : Nat) (l : List Int) (hk : k < U.length) (i : Nat) : uA (U.set k l) i = if i = k then l else uA U i := by
  unfold uA
  by_cases h : i = k
  · subst h; simp [List.getD, hk]
  · have : k ≠ i := fun e => h e.symm
    simp [List.getD, List.getElem?_set, this, h]
theorem addE_len (k : Nat) : ∀ (ys : List Int) (U : List (List Int)), (addE k ys U).length = U.length
  | [], U => rfl
  | y :: ys, U => by rw [addE, addE_len k ys, List.length_set]
theorem addE_sum (k : Nat) : ∀ (ys : List Int) (U : List (List Int)), Stn U.length ys → sumU (addE k ys U) = sumU U + ys.length
  | [], U, _ => rfl
  | y :: ys, U, h => by
    have h1 := h y (by simp)
    rw [addE, addE_sum k ys _ (by rw [List.length_set]; exact fun z hz => h z (by simp [hz])), sum_set U y.toNat _ (by omega), List.length_cons]
    omega
/-- Whose numbers stand in the lists. -/
def Usr (ed : Nat → List Int) (S : List St) (n : Nat) (U : List (List Int)) : Prop := ∀ (k : Nat) (y : Int), y ∈ uA U k → ∃ j : Nat, j < n ∧ y = (j : Int) ∧ cameP S j = true ∧ (k : Int) ∈ ed j
theorem addE_usr {ed : Nat → List Int} {S : List St} {n j : Nat} (hj : j < n) (hc : cameP S j = true) : ∀ (ys : List Int) (U : List (List Int)), (∀ y ∈ ys, y ∈ ed j) → Stn U.length ys → Usr ed S n U → Usr ed S n (addE j ys U)
  | [], U, _, _, h => h
  | y :: ys, U, hy, hs, h => by
    have h1 := hs y (by simp)
    rw [addE]
    refine addE_usr hj hc ys _ (fun z hz => hy z (by simp [hz])) (by rw [List.length_set]; exact fun z hz => hs z (by simp [hz])) ?_
    intro k z hz
    rw [uA_set U y.toNat _ (by omega) k] at hz
    by_cases hk : k = y.toNat
    · rw [if_pos hk] at hz
      rcases List.mem_append.1 hz with hz | hz
      · exact h k z (hk ▸ hz)
      · rw [List.mem_singleton] at hz
        exact ⟨j, hj, hz, hc, by rw [hk, show ((y.toNat : Nat) : Int) = y by omega]; exact hy y (by simp)⟩
    · rw [if_neg hk] at hz
      exact h k z hz
theorem revF_ok {ed : Nat → List Int} {S : List St} {n : Nat} (he : ∀ k, k < n → cameP S k = true → Stn n (ed k)) (hl : ∀ k, k < n → (ed k).length ≤ 65) : ∀ (f j : Nat) (U : List (List Int)), j + f ≤ n → U.length = n → Usr ed S n U → (revF ed S f j U).length = n ∧ sumU (revF ed S f j U) ≤ sumU U + 65 * f ∧ Usr ed S n (revF ed S f j U)
  | 0, j, U, _, hU, h => ⟨hU, by simp [revF], h⟩
  | f + 1, j, U, hj, hU, h => by
    rw [revF]
    by_cases hc : cameP S j = true
    · rw [if_pos hc]
      have hs : Stn U.length (ed j) := by rw [hU]; exact he j (by omega) hc
      have h1 := addE_sum j (ed j) U hs
      have h2 := hl j (by omega)
      obtain ⟨a1, a2, a3⟩ := revF_ok he hl f (j + 1) (addE j (ed j) U) (by omega) (by rw [addE_len]; exact hU) (addE_usr (by omega) hc (ed j) U (fun y hy => hy) hs h)
      exact ⟨a1, by omega, a3⟩
    · rw [if_neg hc]
      obtain ⟨a1, a2, a3⟩ := revF_ok he hl f (j + 1) U (by omega) hU h
      exact ⟨a1, by omega, a3⟩
theorem sum_new (n : Nat) : sumU (List.replicate n []) = 0 := by
  induction n with
  | zero => rfl
  | succ n ih => rw [List.replicate_succ, sumU, ih]; rfl
theorem usr_new (ed : Nat → List Int) (S : List St) (n : Nat) : Usr ed S n (List.replicate n []) := fun k y hy => by
  have : uA (List.replicate n []) k = [] := by
    unfold uA
    by_cases hi : k < n <;> simp [List.getD, hi]
  rw [this] at hy
  cases hy
theorem sum_app : ∀ (U V : List (List Int)), sumU (U ++ V) = sumU U + sumU V
  | [], V => by simp [sumU]
  | l :: U, V => by
    have := sum_app U V
    rw [List.cons_append]
    simp only [sumU]
    omega
theorem tot_sum (U : List (List Int)) (s : List Bool) : ∀ n, n ≤ U.length → tot (uA U) s n ≤ sumU (U.take n)
  | 0, _ => Nat.zero_le _
  | n + 1, h => by
    have ih := tot_sum U s n (by omega)
    rw [List.take_succ_eq_append_getElem (by omega), sum_app]
    unfold tot
    have e : uA U n = U[n] := by unfold uA; simp [List.getD, show n < U.length by omega]
    have e2 : sumU [U[n]] = U[n].length := by simp [sumU]
    rw [e2, e]
    split <;> omega
end Go.Proofs.YtiojpohmgjdgfaaGreat

/- sound, plain: what has a state behind the first look leads to instructions. -/
namespace Go.Proofs.YtiojpohmgjdgfaaGreat
open Go.RowKit
set_option linter.unusedVariables false
set_option linter.unusedSimpArgs false

/-- What has a state is pending, or its ways lead to instructions. -/
def Lkd (C : List In) (S : List St) (P : List Int) : Prop := ∀ k, k < C.length → (stA S k).pl ≠ 0 → (k : Int) ∈ P ∨ (C.length : Int) ∉ waysP C k
theorem handP_lkd {enc : Bool} {C : List In} {r : Int} {S : List St} {P : List Int} (hN : Pnd C.length S P) (h : Lkd C S P) {k : Nat} (hk : k < C.length) (s : St) : Lkd C (handP enc C r S P k s).2.1 (handP enc C r S P k s).2.2 := by
  unfold handP
  split
  · exact h
  split
  · intro j hj hp
    show (j : Int) ∈ pushH P (k : Int) ∨ _
    rw [push_mem hN.hp]
    have hp : (stA (S.set k s) j).pl ≠ 0 := hp
    rw [stA_set (by rw [hN.len]; exact hk)] at hp
    by_cases e : j = k
    · exact .inl (.inl (by rw [e]))
    · rw [if_neg e] at hp
      rcases h j hj hp with h1 | h1
      · exact .inl (.inr h1)
      · exact .inr h1
  · exact h
theorem handsP_lkd {enc : Bool} {C : List In} {r : Int} {s : St} (hs : s.pl ≠ 0) (x : In) : ∀ (ws : List Int) (way : Nat) {S : List St} {P : List Int}, Pnd C.length S P → (∀ y ∈ ws, 0 ≤ y ∧ y < (C.length : Int)) → Lkd C S P → Lkd C (handsP enc C r s x ws way S P).2.1 (handsP enc C r s x ws way S P).2.2
  | [], _, S, P, _, _, h => h
  | n :: ws, way, S, P, hN, hw, h => by
    rw [handsP]
    have h1 := hw n (by simp)
    have hk : n.toNat < C.length := by omega
    split
    · exact handsP_lkd hs x ws (way + 1) (handP_ok (enc := enc) (r := r) hN hk (mHd_pl enc hs x _)).1 (fun y hy => hw y (by simp [hy])) (handP_lkd hN h hk _)
    · exact h
theorem pop_rest {P : List Int} (h : Hp P P.length) (h0 : 0 < P.length) {x : Int} (hx : x ∈ P) : x = (popH P).1 ∨ x ∈ (popH P).2 := by
  obtain ⟨-, -, -, -, hc⟩ := popH_ok h h0
  by_cases e : (popH P).1 = x
  · exact .inl e.symm
  · right
    have h1 := hc x
    rw [if_neg e, Nat.add_zero] at h1
    by_cases hm : x ∈ (popH P).2
    · exact hm
    · exfalso
      have h2 : Cnt (popH P).2 x = 0 := by unfold Cnt; exact List.count_eq_zero.2 hm
      have h3 : Cnt P x ≠ 0 := by unfold Cnt; exact fun e => (List.count_eq_zero.1 e) hx
      omega
theorem goP_lkd {enc : Bool} {C : List In} {r : Int} (hW : WIn C) (hn : C.length ≤ 1048576) : ∀ (f : Nat) {S : List St} {P : List Int}, Pnd C.length S P → msr S P < f → Lkd C S P → (goP enc C r f S P).1 = 1048576 → Lkd C (goP enc C r f S P).2.1 []
  | 0, S, P, _, h, _, _ => by omega
  | f + 1, S, P, hN, hm, hL, h1 => by
    by_cases h0 : P = []
    · subst h0
      rw [goP_nil]
      exact hL
    · rw [goP] at h1 ⊢
      rw [if_neg h0] at h1 ⊢
      have hl0 : 0 < P.length := List.length_pos_iff.2 h0
      obtain ⟨q1, q2, q3, q4, q5⟩ := pop_ok hN h0
      have hk : (popH P).1.toNat < C.length := by omega
      have l1 := lookP_ok (enc := enc) (r := r) hW q1 hk q5
      by_cases hz : (lookP enc C r S (popH P).2 (popH P).1.toNat).1 = 1048576
      · rw [if_pos hz] at h1 ⊢
        refine goP_lkd hW hn f l1.1 (by omega) ?_ h1
        unfold lookP at hz ⊢
        by_cases hq : mSt enc (stA S (popH P).1.toNat) (inA C (popH P).1.toNat) r = false ∨ (C.length : Int) ∈ waysP C (popH P).1.toNat
        · rw [if_pos hq] at hz
          have hz : ((popH P).1.toNat : Int) = 1048576 := hz
          omega
        · rw [if_neg hq]
          have hq2 : (C.length : Int) ∉ waysP C (popH P).1.toNat := fun e => hq (.inr e)
          refine handsP_lkd q5 _ _ _ q1 (fun y hy => ?_) (fun j hj hp => ?_)
          · have h2 := hW _ hk y hy
            have h3 : y ≠ (C.length : Int) := fun e => hq2 (e ▸ hy)
            omega
          · rcases hL j hj hp with h2 | h2
            · rcases pop_rest hN.hp hl0 h2 with h3 | h3
              · right
                rw [← h3, Int.toNat_natCast] at hq2
                exact hq2
              · exact .inl h3
            · exact .inr h2
      · rw [if_neg hz] at h1
        exact absurd h1 hz
theorem thruP_lkd {enc : Bool} {C : List In} {r : Int} (hW : WIn C) (hC : CdOk enc C) {S : List St} (hl : S.length = C.length) (hN : Pnd C.length S []) (hL : Lkd C S []) {k : Nat} (hk : k < C.length) (h : (thruP enc C r S [] k).1 = 1048576) : Lkd C (thruP enc C r S [] k).2.1 [] := by
  unfold thruP at h ⊢
  by_cases hz : (handP enc C r S [] k (mBg enc)).1 = true
  · rw [if_pos hz] at h ⊢
    have h1 := handP_ok (enc := enc) (C := C) (r := r) hN hk (mBg_pl enc)
    refine goP_lkd hW hC.nc _ h1.1 ?_ (handP_lkd hN hL hk _) h
    have h2 : msr S [] ≤ 2 * C.length := by have := bare_le S; unfold msr; simp; omega
    have h3 := h1.2.1
    omega
  · rw [if_neg hz] at h
    have := hC.nc
    simp at h
    omega
theorem firstP_lkd {enc : Bool} {C : List In} (hW : WIn C) (hC : CdOk enc C) : ∀ (E : List Int) (r : Nat) {S : List St}, (∀ e ∈ E, 0 ≤ e ∧ e < (C.length : Int)) → S.length = C.length → Pnd C.length S [] → SAll S → Lkd C S [] → (firstP enc C E r S).1 = 1048576 → Lkd C (firstP enc C E r S).2 [] ∧ SAll (firstP enc C E r S).2 ∧ (firstP enc C E r S).2.length = C.length
  | [], r, S, _, hl, _, hS, hL, _ => ⟨hL, hS, hl⟩
  | e :: es, r, S, he, hl, hN, hS, hL, h => by
    have h1 := he e (by simp)
    have hk : e.toNat < C.length := by omega
    rw [firstP] at h ⊢
    by_cases hz : (thruP enc C (r : Int) S [] e.toNat).1 = 1048576
    · rw [if_pos hz] at h ⊢
      obtain ⟨f1, f2, f3⟩ := thruP_fin hW hC hl hN hS hk hz
      exact firstP_lkd hW hC es (r + 1) (fun y hy => he y (by simp [hy])) f2.len f2 f3 (thruP_lkd hW hC hl hN hL hk hz) h
    · rw [if_neg hz] at h
      exact absurd h hz
/-- Behind the first look: the ways of what was come to lead to instructions. -/
theorem firstP_inn {enc : Bool} {C : List In} {E : List Int} (hK : Chk enc C E) (h : (firstP enc C E 0 (List.replicate C.length st0)).1 = 1048576) : ∀ k, k < C.length → cameP (firstP enc C E 0 (List.replicate C.length st0)).2 k = true → Inn C k := by
  have h0 : Lkd C (List.replicate C.length st0) [] := fun k hk hp => by
    exfalso
    apply hp
    unfold stA
    simp [List.getD, hk, st0]
  obtain ⟨h1, -, -⟩ := firstP_lkd hK.win hK.cdok E 0 (fun e he => by
    obtain ⟨i, hi, rfl⟩ := List.mem_iff_getElem.1 he
    have := hK.ent i hi
    simpa [List.getD, hi] using this) (by simp) (pnd_new _ _ (by simp)) (SAll.new _) h0 h
  intro k hk hc y hy
  have h2 : (stA (firstP enc C E 0 (List.replicate C.length st0)).2 k).pl ≠ 0 := by
    unfold cameP at hc
    simpa using hc
  rcases h1 k hk h2 with h3 | h3
  · cases h3
  · have h4 := hK.win k hk y hy
    have h5 : y ≠ (C.length : Int) := fun e => h3 (e ▸ hy)
    omega
end Go.Proofs.YtiojpohmgjdgfaaGreat

/- sound: findQuiet: plain, and the paths in memory over an elder world. -/
namespace Go.Proofs.YtiojpohmgjdgfaaGreat
open Go.RowKit
set_option linter.unusedVariables false
set_option linter.unusedSimpArgs false

/-- The rets that were come to. -/
def retF (C : List In) (S : List St) : Nat → Nat → List Int → List Int
  | 0, _, W => W
  | f + 1, j, W => retF C S f (j + 1) (if (inA C j).op = 20 ∧ cameP S j = true then W ++ [(j : Int)] else W)
/-- A stack of instructions that were come to. -/
def StC (S : List St) (n : Nat) (wk : List Int) : Prop := ∀ y ∈ wk, 0 ≤ y ∧ y < (n : Int) ∧ cameP S y.toNat = true
theorem StC.stn {S : List St} {n : Nat} {wk : List Int} (h : StC S n wk) : Stn n wk := fun y hy => ⟨(h y hy).1, (h y hy).2.1⟩
theorem StC.app {S : List St} {n : Nat} {a c : List Int} (h : StC S n a) (k : StC S n c) : StC S n (a ++ c) := fun y hy => by
  rcases List.mem_append.1 hy with hy | hy
  · exact h y hy
  · exact k y hy
theorem StC.take {S : List St} {n : Nat} {a : List Int} (h : StC S n a) (m : Nat) : StC S n (a.take m) := fun y hy => h y (List.mem_of_mem_take hy)
theorem retF_ok {C : List In} {S : List St} {n : Nat} : ∀ (f j : Nat) (W : List Int), j + f ≤ n → StC S n W → W.length ≤ j → StC S n (retF C S f j W) ∧ (retF C S f j W).length ≤ j + f
  | 0, j, W, _, h, hl => ⟨h, by simpa [retF] using hl⟩
  | f + 1, j, W, hj, h, hl => by
    rw [retF]
    split
    · rename_i hc
      obtain ⟨a1, a2⟩ := retF_ok f (j + 1) (W ++ [(j : Int)]) (by omega) (h.app (fun y hy => by
        rw [List.mem_singleton] at hy
        rw [hy]
        exact ⟨by omega, by omega, by rw [Int.toNat_natCast]; exact hc.2⟩)) (by rw [List.length_append, List.length_singleton]; omega)
      exact ⟨a1, by omega⟩
    · obtain ⟨a1, a2⟩ := retF_ok (C := C) f (j + 1) W (by omega) h (by omega)
      exact ⟨a1, by omega⟩
/-- Backward from the rets: what is quiet. -/
def fqF (C : List In) (E : List Int) (S : List St) (us : Nat → List Int) : Nat → List Int → List Bool → List Bool
  | 0, _, Q => Q
  | f + 1, wk, Q => if wk = [] then Q else
    if (!qAt Q (hAt wk (wk.length - 1)).toNat && isqP C E S Q (hAt wk (wk.length - 1)).toNat) = true then fqF C E S us f (wk.take (wk.length - 1) ++ us (hAt wk (wk.length - 1)).toNat) (Q.set (hAt wk (wk.length - 1)).toNat true)
    else fqF C E S us f (wk.take (wk.length - 1)) Q
theorem fqF_fuel {C : List In} {E : List Int} {S : List St} {us : Nat → List Int} {n : Nat} (he : ∀ k, k < n → Stn n (us k)) : ∀ (f g : Nat) {wk : List Int} {Q : List Bool}, Stn n wk → Q.length = n → wk.length + tot us Q n < f → wk.length + tot us Q n < g → fqF C E S us f wk Q = fqF C E S us g wk Q
  | 0, g, wk, Q, _, _, h, _ => by omega
  | f + 1, 0, wk, Q, _, _, _, h => by omega
  | f + 1, g + 1, wk, Q, hw, hs, h1, h2 => by
    unfold fqF
    by_cases h0 : wk = []
    · rw [if_pos h0, if_pos h0]
    rw [if_neg h0, if_neg h0]
    have hl : 0 < wk.length := List.length_pos_iff.2 h0
    obtain ⟨a1, a2, a3⟩ := sp_pop hw h0
    have ht : (wk.take (wk.length - 1)).length = wk.length - 1 := by simp
    split
    · rename_i hq
      have hk : (hAt wk (wk.length - 1)).toNat < n := by omega
      rw [Bool.and_eq_true] at hq
      have hq : qAt Q (hAt wk (wk.length - 1)).toNat = false := by simpa using hq.1
      have h3 := tot_set us Q _ (by omega) hq n hk
      refine fqF_fuel he f g ?_ (by simp [hs]) (by rw [List.length_append]; omega) (by rw [List.length_append]; omega)
      intro y hy
      rcases List.mem_append.1 hy with hy | hy
      · exact a3 y hy
      · exact he _ hk y hy
    · exact fqF_fuel he f g a3 hs (by omega) (by omega)
theorem fqF_step {C : List In} {E : List Int} {S : List St} {us : Nat → List Int} {n : Nat} (he : ∀ k, k < n → Stn n (us k)) {G m k : Nat} {wk : List Int} {Q : List Bool} (hw : Stn n wk) (hs : Q.length = n) (h1 : wk.length + tot us Q n < G) (hm : wk.length = m + 1) (hk : hAt wk m = (k : Int)) :
    fqF C E S us G wk Q = if (!qAt Q k && isqP C E S Q k) = true then fqF C E S us G (wk.take m ++ us k) (Q.set k true) else fqF C E S us G (wk.take m) Q := by
  obtain ⟨G', rfl⟩ : ∃ G', G = G' + 1 := ⟨G - 1, by omega⟩
  have h0 : wk ≠ [] := fun e => by rw [e] at hm; simp at hm
  obtain ⟨a1, a2, a3⟩ := sp_pop hw h0
  have e1 : wk.length - 1 = m := by omega
  rw [e1, hk] at a1 a2
  rw [e1] at a3
  rw [fqF, if_neg h0, e1, hk, Int.toNat_natCast]
  have ht : (wk.take m).length = m := by simp; omega
  have hkn : k < n := by omega
  split
  · rename_i hq
    rw [Bool.and_eq_true] at hq
    have hq : qAt Q k = false := by simpa using hq.1
    have h3 := tot_set us Q k (by omega) hq n hkn
    refine fqF_fuel he G' (G' + 1) ?_ (by simp [hs]) (by rw [List.length_append]; omega) (by rw [List.length_append]; omega)
    intro y hy
    rcases List.mem_append.1 hy with hy | hy
    · exact a3 y hy
    · exact he k hkn y hy
  · exact fqF_fuel he G' (G' + 1) a3 hs (by omega) (by omega)
/-- The second look in memory, over an elder world in which the program lies. -/
structure PtX (w0 w : World) (b cc ce gs gq : Nat) (ac ae : Option Addr) (enc : Bool) (C : List In) (E : List Int) (S : List St) (Q : List Bool) (vb : Value) : Prop where
  p : PtS w b cc ce gs gq ac ae enc C E S Q vb
  old : Below w0.heap.size w0 w
  code0 : IRow w0 ac C
  ent0 : Row .i64 w0 ae E
  hq : w0.heap.size ≤ gq
  hb : w0.heap.size ≤ b
section
variable {w0 w w' : World} {b cc ce gs gq : Nat} {ac ae : Option Addr} {enc : Bool} {C : List In} {E : List Int} {S : List St} {Q : List Bool} {vb : Value}
theorem PtX.later (h : PtX w0 w b cc ce gs gq ac ae enc C E S Q vb) (hB : Below w.heap.size w w') : PtX w0 w' b cc ce gs gq ac ae enc C E S Q vb := ⟨h.p.later hB, below_to h.old hB, h.code0, h.ent0, h.hq, h.hb⟩
theorem PtX.upd {T : Nat → Prop} (h : PtX w0 w b cc ce gs gq ac ae enc C E S Q vb) (hu : Upd T w w') (h0 : ∀ q, T q → w0.heap.size ≤ q) (h1 : ¬ T b) (h2 : ¬ T gs) (h3 : ¬ T gq) : PtX w0 w' b cc ce gs gq ac ae enc C E S Q vb := by
  have ho := below_to2 h.old hu h0
  exact ⟨⟨h.p.blk.upd hu h1, h.code0.later ho, h.ent0.later ho, h.p.st.upd hu h2, h.p.len, h.p.qt.upd hu h3, h.p.qlen⟩, ho, h.code0, h.ent0, h.hq, h.hb⟩
theorem PtX.bq (h : PtX w0 w b cc ce gs gq ac ae enc C E S Q vb) : b ≠ gq := fun e => by
  have h1 := h.p.blk
  rw [e] at h1
  exact absurd (blk_type h1 h.p.qt) (by decide)
theorem PtX.sq (h : PtX w0 w b cc ce gs gq ac ae enc C E S Q vb) : gs ≠ gq := fun e => by
  have h1 := h.p.st
  rw [e] at h1
  exact absurd (blk_type h1 h.p.qt) (by decide)
theorem PtX.setQ (h : PtX w0 w b cc ce gs gq ac ae enc C E S Q vb) (k : Nat) : PtX w0 (w.setCell ⟨gq, k, none⟩ (.bool true)) b cc ce gs gq ac ae enc C E S (Q.set k true) vb ∧ Upd (fun q => q = gq) w (w.setCell ⟨gq, k, none⟩ (.bool true)) := by
  have hu : Upd (fun q => q = gq) w (w.setCell ⟨gq, k, none⟩ (.bool true)) := (Upd.refl _ w).set _ _ (.inl rfl)
  have ho := below_to2 h.old hu (fun q e => by rw [e]; exact h.hq)
  exact ⟨⟨⟨h.p.blk.upd hu h.bq, h.code0.later ho, h.ent0.later ho, h.p.st.upd hu h.sq, h.p.len, bset h.p.qt, by rw [List.length_set]; exact h.p.qlen⟩, ho, h.code0, h.ent0, h.hq, h.hb⟩, hu⟩
end
end Go.Proofs.YtiojpohmgjdgfaaGreat

/- sound: findQuiet, the walk. -/
namespace Go.Proofs.YtiojpohmgjdgfaaGreat
open Go.RowKit
set_option linter.unusedVariables false
set_option linter.unusedSimpArgs false

def usP (C : List In) (E : List Int) (S : List St) (n : Nat) (k : Nat) : List Int := uA (revF (qbyP C E) S n 0 (List.replicate n [])) k
def quietP (C : List In) (E : List Int) (S : List St) (n : Nat) (Q : List Bool) : List Bool := fqF C E S (usP C E S n) (n + tot (usP C E S n) Q n + 2) (retF C S n 0 []) Q
theorem qby_len {enc : Bool} {C : List In} {E : List Int} (hC : CeOk enc C E) {k : Nat} (hk : k < C.length) : (qbyP C E k).length ≤ 65 := by
  have := ways_len hC.cd hk
  unfold qbyP
  split
  · rw [List.length_append, List.length_singleton]; omega
  · omega
theorem qby_in {enc : Bool} {C : List In} {E : List Int} (hC : CeOk enc C E) {k : Nat} (hk : k < C.length) (h : Inn C k) : Stn C.length (qbyP C E k) := by
  unfold qbyP
  split
  · rename_i ho
    intro y hy
    rcases List.mem_append.1 hy with hy | hy
    · exact h y hy
    · rw [List.mem_singleton] at hy
      have h1 := hC.cal k hk ho
      have h2 := hC.ent (inA C k).c.toNat (by omega)
      rw [hy]
      exact h2
  · exact h
theorem enQby (args : Array Value) (w : World) : (callFunc 117 args).run Tryz.prog w = .ok (.enter 117 args) w := by kernel_rfl
/-- What findQuiet leaves. -/
def FqTo (w0 w : World) (b cc ce gs gq : Nat) (ac ae : Option Addr) (enc : Bool) (C : List In) (E : List Int) (S : List St) (Q : List Bool) (vb : Value) (e : Ending) (w' : World) : Prop := e = .returned (.tuple #[]) ∧ PtX w0 w' b cc ce gs gq ac ae enc C E S Q vb ∧ Upd (fun q => q = gq) w w'
set_option maxRecDepth 100000 in
set_option maxHeartbeats 16000000 in
theorem findQuiet_any (w0 : World) (b cc ce gs gq n : Nat) (ac ae : Option Addr) (enc : Bool) (C : List In) (E : List Int) (S : List St) (Q : List Bool) (vb : Value) (w : World) (hn : C.length = n) (hn9 : n ≤ 1048576) (hcc : C.length ≤ cc) (hcl : cc ≤ 9223372036854775807) (hC : Hid (CeOk enc C E)) (hI : Hid (∀ k, k < n → cameP S k = true → Inn C k)) (h : Hid (PtX w0 w b cc ce gs gq ac ae enc C E S Q vb)) :
    Calls Tryz.prog 81 #[.pointer (some ⟨b, 0, none⟩)] w fun e w' => FqTo w0 w b cc ce gs gq ac ae enc C E S (quietP C E S n Q) vb e w' := by
  obtain ⟨R, hR⟩ : ∃ R, quietP C E S n Q = R := ⟨_, rfl⟩
  rw [hR]
  unfold quietP at hR
  obtain ⟨U, hU⟩ : ∃ U, revF (qbyP C E) S n 0 (List.replicate n []) = U := ⟨_, rfl⟩
  have hus : usP C E S n = uA U := by funext k; unfold usP; rw [hU]
  rw [hus] at hR
  obtain ⟨rU, rS, rM⟩ := revF_ok (ed := qbyP C E) (S := S) (n := n) (fun k hk hc => by rw [← hn]; exact qby_in hC.out (by omega) (hI.out k hk hc)) (fun k hk => qby_len hC.out (by omega)) n 0 (List.replicate n []) (by omega) (by simp) (usr_new _ _ _)
  rw [hU] at rU rS rM
  rw [sum_new] at rS
  have hTot : ∀ q : List Bool, tot (uA U) q n ≤ 65 * n := fun q => by
    have h1 := tot_sum U q n (by omega)
    rw [List.take_of_length_le (by omega)] at h1
    omega
  have HTot := hide_ hTot
  have HUs : Hid (∀ k, StC S n (uA U k)) := hide_ (fun k y hy => by
    obtain ⟨j, hj, e, hc, -⟩ := rM k y hy
    rw [e]
    exact ⟨by omega, by omega, by rw [Int.toNat_natCast]; exact hc⟩)
  obtain ⟨rW, rL⟩ := retF_ok (C := C) (S := S) (n := n) n 0 [] (by omega) (fun y hy => by cases hy) (by simp)
  obtain ⟨W, hW⟩ : ∃ W, retF C S n 0 [] = W := ⟨_, rfl⟩
  rw [hW] at rW rL hR
  obtain ⟨G, hG⟩ : ∃ G, n + tot (uA U) Q n + 2 = G := ⟨_, rfl⟩
  rw [hG] at hR
  have HR := hide_ hR
  have HG := hide_ hG
  have HW := hide_ hW
  have HrW := hide_ rW
  have HrL := hide_ rL
  have HRev := hide_ (reversed_any 117 (.pointer (some ⟨b, 0, none⟩)) (qbyP C E) b cc ce gs gq n ac ae enc C E S Q vb w hn hn9 (hide_ h.out.p)
    (hide_ (fun k hk hc => by rw [← hn]; exact qby_in hC.out (by omega) (hI.out k hk hc))) (hide_ (fun k hk => qby_len hC.out (by omega)))
    (hide_ (fun k w' hk hc hB => quietBy_any b cc ce gs gq ac ae enc C E S Q vb k w' (by omega) hcc hcl hC (hide_ (h.out.p.later hB)))) enQby)
  rw [hU] at HRev
  have Hn := hide_ hn
  clear hR hU hus rU rS rM hTot rW rL hW hG
  go_enter Tryz.func81, Tryz.ntmps81
  go_wp2_with fail
  refine HRev.out.mono ?_
  rintro e w1 hT
  obtain ⟨gb, vs, rfl, hgb, hK1, hU1, hB1⟩ := hT
  have HK1 := hide_ hK1
  have HB1 := hide_ hB1
  have HUl := hide_ hU1
  have HP1 := hide_ (h.out.later hB1)
  have c1 := HP1.out.p.cells.2.1
  rw [hn] at c1
  have Hgq : Hid (gq < w.heap.size) := hide_ h.out.p.qt.lt
  have Hgb := hide_ hgb
  clear HRev hK1 hB1 hU1 hgb
  go_wp2_with fail
  clear c1
  go_loopw [3, 17] (fun x3 x17 wr => ∃ (j : Nat) (wk : List Int) (vw : Value), vw = x3 ∧ j ≤ n ∧ x17 = .int .i64 (j : Int) ∧ Hid (retF C S (n - j) j wk = W) ∧ Hid (wk.length ≤ j) ∧ Hid (IOwn wr w.heap.size vw wk) ∧ Hid (BkR wr w.heap.size gb vs U) ∧ Hid (∀ (i : Nat) (u : Value) (q : Nat), vs[i]? = some u → u.ownBlock = some q → vw.ownBlock ≠ some q) ∧ Hid (PtX w0 wr b cc ce gs gq ac ae enc C E S Q vb) ∧ Hid (Below w.heap.size w wr)) (fun _ x17 _ => n - (intOf x17).toNat)
  case atStart => exact ⟨0, [], _, rfl, by omega, rfl, hide_ (by rw [Nat.sub_zero]; exact HW.out), hide_ (by simp), hide_ (IOwn.nil _ _), HK1, hide_ (fun i u q _ _ e => by cases e), HP1, HB1⟩
  case round =>
    clear HW HK1 HP1 HB1
    obtain ⟨j, wk, vw, rfl, hj, rfl, HRj, HLj, HOj, HKj, HSj, HPj, HBj⟩ := hrel
    generalize wr = wq at *
    have Hz0 : Hid (w0.heap.size ≤ w.heap.size) := hide_ h.out.old.size
    by_cases hlt : j < n
    · have hlt' : (j : Int) < (n : Int) := by omega
      have hjC : j < C.length := by rw [Hn.out]; exact hlt
      obtain ⟨x, hx⟩ : ∃ x, C[j]? = some x := ⟨_, List.getElem?_eq_getElem hjC⟩
      have hxA : inA C j = x := inA_at hx
      have hrj := HRj.out
      rw [show n - j = (n - (j + 1)) + 1 by omega, retF, hxA] at hrj
      have HRj2 := hide_ hrj
      obtain ⟨bc, oc, hac⟩ := HPj.out.p.adr hjC
      subst hac
      obtain ⟨i0, i1, i2, i3⟩ := HPj.out.p.code.at hx
      obtain ⟨w2, hw2⟩ : ∃ wx, wq.alloc (.cells #[.int .i64 x.op, .int .i64 x.a, .int .i64 x.b, .int .i64 x.c] 43) = wx := ⟨_, rfl⟩
      have hB2 : Below wq.heap.size wq w2 := by rw [← hw2]; exact below1 _ _
      have KX : Blk w2 wq.heap.size 43 (inc x) := by rw [← hw2]; exact Blk.newA wq _ _
      obtain ⟨k0, k1, k2, k3⟩ := KX.ci
      have HO2 := hide_ (HOj.out.later hB2)
      have HK2 := hide_ (HKj.out.later hB2)
      have HP2 := hide_ (HPj.out.later hB2)
      have HB2 := hide_ (below_to HBj.out hB2)
      have HCa := hide_ (cameTo_any b cc ce gs gq _ ae enc C E S Q vb j w2 hjC (hide_ HP2.out.p))
      obtain ⟨d, hd⟩ : ∃ d, cameP S j = d := ⟨_, rfl⟩
      rw [hd] at HCa
      have Hd := hide_ hd
      clear hrj hx hxA hB2 KX HOj HKj HPj HBj HRj hd
      by_cases ho : x.op = 20
      · have f0 : (x.op == 20) = true := by simpa using ho
        cases d
        · have HR3 : Hid (retF C S (n - (j + 1)) (j + 1) wk = W) := hide_ (by
            have h1 := HRj2.out
            rw [if_neg (by rw [Hd.out]; simp)] at h1
            exact h1)
          clear HRj2 ho
          go_wp2_with fail
          refine HCa.out.mono ?_
          rintro e w3 ⟨rfl, rfl⟩
          go_wp2_with fail
          go_roundw
          case rel => exact ⟨j + 1, wk, vw, rfl, by omega, by go_num, HR3, hide_ (by have := HLj.out; omega), HO2, HK2, HSj, HP2, HB2⟩
          case measure => simp [intOf]; omega
        · have HR3 : Hid (retF C S (n - (j + 1)) (j + 1) (wk ++ [(j : Int)]) = W) := hide_ (by
            have h1 := HRj2.out
            rw [if_pos ⟨ho, Hd.out⟩] at h1
            exact h1)
          obtain ⟨g, cp, w3, hr3, hO3, hU3, hg3⟩ := HO2.out.push (j : Int) (by have := HLj.out; omega) (Nat.le_trans HB2.out.size (Nat.le_refl _))
          have HRun := hide_ hr3
          have HO3 := hide_ hO3
          have HK3 := hide_ (HK2.out.upd hU3 (fun e => HO2.out.neB HK2.out.blk (by decide) e) (fun i u q hu e e2 => HSj.out i u q hu e e2))
          have HP3 := hide_ (HP2.out.upd hU3 (fun q e => Nat.le_trans Hz0.out (HO2.out.lies e).1) (fun e => HO2.out.neB HP2.out.p.blk (by decide) e) (fun e => HO2.out.neB HP2.out.p.st (by decide) e) (fun e => HO2.out.neB HP2.out.p.qt (by decide) e))
          have HB3 := hide_ (below_to2 HB2.out hU3 (fun q e => (HO2.out.lies e).1))
          have HS3 : Hid (∀ (i : Nat) (u : Value) (q : Nat), vs[i]? = some u → u.ownBlock = some q → (Value.slice (some ⟨g, 0, none⟩) (wk.length + 1) cp).ownBlock ≠ some q) := hide_ (fun i u q hu e e2 => by
            have e3 : g = q := by injection e2
            rcases hg3 with h6 | h6
            · exact HSj.out i u q hu e (by rw [h6, e3])
            · have h7 := ((HK2.out.own i u hu).lies e).2
              omega)
          clear HRj2 ho hr3 hO3 hU3 hg3 HO2 HK2 HP2 HB2 HSj
          go_wp2_with fail
          refine HCa.out.mono ?_
          rintro e w4 ⟨rfl, rfl⟩
          go_wp2_with (first | (at_builtin; refine wpList_append_run rfl (.tmp 30) (.tmp 32) 23 23 rfl rfl rfl HRun.out ?_; clear HRun) | fail)
          go_roundw
          case rel => exact ⟨j + 1, _, _, rfl, by omega, by go_num, HR3, hide_ (by have := HLj.out; rw [List.length_append, List.length_singleton]; omega), HO3, HK3, HS3, HP3, HB3⟩
          case measure => simp [intOf]; omega
      · have f0 : (x.op == 20) = false := by simpa using ho
        have HR3 : Hid (retF C S (n - (j + 1)) (j + 1) wk = W) := hide_ (by
          have h1 := HRj2.out
          rw [if_neg (fun e => ho e.1)] at h1
          exact h1)
        clear HRj2 ho
        go_wp2_with fail
        go_roundw
        case rel => exact ⟨j + 1, wk, vw, rfl, by omega, by go_num, HR3, hide_ (by have := HLj.out; omega), HO2, HK2, HSj, HP2, HB2⟩
        case measure => simp [intOf]; omega
    · have hlt' : ¬ ((j : Int) < (n : Int)) := by omega
      have hwk : wk = W := by
        have h1 := HRj.out
        rw [show n - j = 0 by omega, retF] at h1
        exact h1
      subst hwk
      clear HRj HLj
      go_wp2_with fail
      go_loopg [3, 6] (wk.length + tot (uA U) Q n) (fun gk x3 x6 wr => ∃ (st : List Int) (Q' : List Bool) (vz : Value), vz = x3 ∧ Hid (st.length + tot (uA U) Q' n = gk) ∧ Hid (gk < G) ∧ Hid (fqF C E S (uA U) G st Q' = R) ∧ Hid (StC S n st) ∧ Hid (Q'.length = n) ∧ Hid (IOwn wr w.heap.size vz st) ∧ Hid (BkR wr w.heap.size gb vs U) ∧ Hid (∀ (i : Nat) (u : Value) (q : Nat), vs[i]? = some u → u.ownBlock = some q → vz.ownBlock ≠ some q) ∧ Hid (PtX w0 wr b cc ce gs gq ac ae enc C E S Q' vb) ∧ Hid (Upd (fun q => q = gq) w wr))
      case atStart => exact ⟨wk, Q, vw, rfl, hide_ rfl, hide_ (by have h1 := HrL.out; have h2 := HG.out; omega), HR, HrW, hide_ (by rw [HPj.out.p.qlen]; exact Hn.out), HOj, HKj, HSj, HPj, hide_ (Upd.of_below HBj.out)⟩
      case round =>
        clear HR HrW HOj HKj HSj HPj HBj
        obtain ⟨st, Q', vz, rfl, Hgk, HGb, HRj, HSt, HQl, HOz, HKz, HSz, HPz, HUz⟩ := hrel
        generalize wr = wp at *
        have HG9 : Hid (G ≤ 900000000) := hide_ (by have h1 := HG.out; have h2 := HTot.out Q; omega)
        by_cases h0 : st = []
        · subst h0
          obtain ⟨a, c, hv⟩ := HOz.out.slice
          have hv : vz = .slice a 0 c := hv
          subst hv
          have HX : Hid (FqTo w0 w b cc ce gs gq ac ae enc C E S R vb (.returned (.tuple #[])) wp) := hide_ (by
            have h1 := HRj.out
            obtain ⟨G', hG'⟩ : ∃ G', G = G' + 1 := ⟨G - 1, by have := HGb.out; omega⟩
            rw [hG', fqF, if_pos rfl] at h1
            rw [← h1]
            exact ⟨rfl, HPz.out, HUz.out⟩)
          go_wp2_with fail
          go_end0
          exact HX.out
        · have hl0 : 0 < st.length := List.length_pos_iff.2 h0
          obtain ⟨g, c, hv, hcv, hgB, hgL⟩ := HOz.out.open hl0
          obtain ⟨m, hm⟩ : ∃ m, st.length = m + 1 := ⟨st.length - 1, by omega⟩
          rw [hm] at hv hcv
          subst hv
          obtain ⟨a1, a2, -⟩ := sp_pop HSt.out.stn h0
          rw [show st.length - 1 = m by omega] at a1 a2
          have hcame := (HSt.out _ (hAt_mem (l := st) (i := m) (by omega))).2.2
          obtain ⟨k, hk⟩ := Int.eq_ofNat_of_zero_le a1
          rw [hk, Int.toNat_natCast] at hcame
          have hkn : k < n := by omega
          have hkC : k < C.length := by rw [Hn.out]; exact hkn
          obtain ⟨cy, -⟩ := HOz.out.cellH (i := m) (by omega)
          rw [hk] at cy
          have c4 := HPz.out.p.cells.2.2.2.2.1
          rw [Hn.out] at c4
          have cq := HPz.out.p.qtAt hkC
          have hst := fqF_step (C := C) (E := E) (S := S) (us := uA U) (G := G) (fun k _ => (HUs.out k).stn) HSt.out.stn HQl.out (by have := Hgk.out; have := HGb.out; omega) hm hk
          rw [HRj.out] at hst
          have Hst := hide_ hst
          have hmb : m < 1000000000 := by have := Hgk.out; have := HGb.out; have := HG9.out; omega
          have hw1 : IntKind.i64.wrap ((m : Int) + 1 - 1) = (m : Int) := by rw [i64w _ (by omega)]; omega
          have Hcut := hide_ (HOz.out.cutV (m := m) hm (by omega))
          have Ha3 := hide_ (HSt.out.take m)
          have Hm := hide_ hm
          have hcv' : (m : Int) + 1 ≤ (c : Int) := by omega
          have hkn' : (k : Int) < (n : Int) := by omega
          have Htk : Hid ((st.take m).length = m) := hide_ (by rw [List.length_take]; omega)
          have HIs := hide_ (isQuiet_any b cc ce gs gq ac ae enc C E S Q' vb k wp hkC hcc hcl hC (hide_ (hI.out k hkn hcame)) (hide_ HPz.out.p))
          obtain ⟨d, hd⟩ : ∃ d, qAt Q' k = d := ⟨_, rfl⟩
          rw [hd] at cq
          have Hd := hide_ hd
          obtain ⟨z, hz⟩ : ∃ z, isqP C E S Q' k = z := ⟨_, rfl⟩
          rw [hz] at HIs
          have Hz := hide_ hz
          have HM5 : Hid ((st.take m).length + tot (uA U) Q' n < gk) := hide_ (by
            have h1 := Hgk.out
            have h2 := Hm.out
            have h3 := Htk.out
            omega)
          clear hst a1 a2 hk hm hl0 h0 hd hz HRj hcame
          cases d
          · cases z
            · have HR5 : Hid (fqF C E S (uA U) G (st.take m) Q' = R) := hide_ (by
                have h1 := Hst.out
                rw [Hd.out, Hz.out, if_neg (by simp)] at h1
                exact h1.symm)
              clear Hst
              go_wp2_with fail
              refine HIs.out.mono ?_
              rintro e w3 ⟨rfl, hB3⟩
              have HO3 := hide_ (Hcut.out.later hB3)
              have HK3 := hide_ (HKz.out.later hB3)
              have HP3 := hide_ (HPz.out.later hB3)
              have HU3 := hide_ (HUz.out.then hB3)
              clear hB3
              go_wp2_with fail
              go_roundg ((st.take m).length + tot (uA U) Q' n)
              case measure => exact HM5.out
              case rel => exact ⟨st.take m, Q', _, rfl, hide_ rfl, hide_ (by have h1 := HM5.out; have h2 := HGb.out; omega), HR5, Ha3, HQl, HO3, HK3, hide_ (fun i u q hu e => HSz.out i u q hu e), HP3, HU3⟩
            · have HR5 : Hid (fqF C E S (uA U) G (st.take m ++ uA U k) (Q'.set k true) = R) := hide_ (by
                have h1 := Hst.out
                rw [Hd.out, Hz.out, if_pos (by simp)] at h1
                exact h1.symm)
              have h3 := tot_set (uA U) Q' k (by rw [HQl.out]; exact hkn) Hd.out n hkn
              have HM6 : Hid ((st.take m ++ uA U k).length + tot (uA U) (Q'.set k true) n < gk) := hide_ (by
                have h1 := HM5.out
                rw [List.length_append]
                omega)
              have Hel : Hid ((st.take m).length + (uA U k).length ≤ 1000000000) := hide_ (by have h1 := HM5.out; have h2 := HGb.out; have h4 := HG9.out; omega)
              clear Hst h3
              go_wp2_with fail
              refine HIs.out.mono ?_
              rintro e w3 ⟨rfl, hB3⟩
              have HO3 := hide_ (Hcut.out.later hB3)
              have HK3 := hide_ (HKz.out.later hB3)
              have HP3 := hide_ (HPz.out.later hB3)
              have HU3 := hide_ (HUz.out.then hB3)
              have d4 := HP3.out.p.cells.2.2.2.2.1
              rw [Hn.out] at d4
              have dq := HP3.out.p.qtAt hkC
              have zq := HP3.out.p.qt.frozen k
              obtain ⟨w4, hw4⟩ : ∃ wx, w3.setCell ⟨gq, k, none⟩ (.bool true) = wx := ⟨_, rfl⟩
              obtain ⟨hP4, hU4⟩ := HP3.out.setQ k
              rw [hw4] at hP4 hU4
              have hO4 := HO3.out.upd hU4 (fun q e e2 => HO3.out.neB HP3.out.p.qt (by decide) (e2 ▸ e))
              have hK4 := HK3.out.upd hU4 (fun e => absurd (blk_type (e ▸ HK3.out.blk) HP3.out.p.qt) (by decide)) (fun i u q hu e e2 => (HK3.out.own i u hu).neB HP3.out.p.qt (by decide) (e2 ▸ e))
              have hkv : k < vs.length := by rw [hK4.len, HUl.out]; exact hkn
              obtain ⟨u, hu⟩ : ∃ u, vs[k]? = some u := ⟨_, List.getElem?_eq_getElem hkv⟩
              have cu := (hK4.blk.cell k).trans hu
              obtain ⟨a4, c4', eu, hr4, hn4, -⟩ := (hK4.own k u hu).row
              obtain ⟨v5, w5, hr5, hO5, hU5, hg5⟩ := hO4.app hr4 hn4 Hel.out (Nat.le_trans (Nat.le_trans HUz.out.size (Nat.le_trans hB3.size hU4.size)) (Nat.le_refl _))
              have HRun := hide_ hr5
              have HO5 := hide_ hO5
              have HK5 := hide_ (hK4.upd hU5 (fun e => hO4.neB hK4.blk (by decide) e) (fun i t q ht e e2 => HSz.out i t q ht e e2))
              have HP5 := hide_ (hP4.upd hU5 (fun q e => Nat.le_trans Hz0.out (hO4.lies e).1) (fun e => hO4.neB hP4.p.blk (by decide) e) (fun e => hO4.neB hP4.p.st (by decide) e) (fun e => hO4.neB hP4.p.qt (by decide) e))
              have HU5 := hide_ ((HU3.out.to hU4).trans hU5 (fun q hq e => absurd hq (Nat.not_lt.2 (hO4.lies e).1)))
              have HS5 : Hid (∀ (i : Nat) (t : Value) (q : Nat), vs[i]? = some t → t.ownBlock = some q → v5.ownBlock ≠ some q) := hide_ (fun i t q ht e e2 => by
                rcases hg5 q e2 with h6 | h6
                · exact HSz.out i t q ht e h6
                · have h7 := ((hK4.own i t ht).lies e).2
                  omega)
              have HS6 : Hid (StC S n (st.take m ++ uA U k)) := hide_ (Ha3.out.app (HUs.out k))
              have HQ5 : Hid ((Q'.set k true).length = n) := hide_ (by rw [List.length_set]; exact HQl.out)
              subst eu
              clear hB3 hP4 hU4 hO4 hK4 hkv hu hr4 hn4 hr5 hO5 hU5 hg5 HO3 HK3 HP3 HU3
              go_wp2_with (first | (at_builtin; refine wpList_append_run rfl (.tmp 68) (.tmp 72) 23 23 rfl rfl rfl HRun.out ?_; clear HRun) | fail)
              go_roundg ((st.take m ++ uA U k).length + tot (uA U) (Q'.set k true) n)
              case measure => exact HM6.out
              case rel => exact ⟨_, _, v5, rfl, hide_ rfl, hide_ (by have h1 := HM6.out; have h2 := HGb.out; omega), HR5, HS6, HQ5, HO5, HK5, HS5, HP5, HU5⟩
          · have HR5 : Hid (fqF C E S (uA U) G (st.take m) Q' = R) := hide_ (by
              have h1 := Hst.out
              rw [Hd.out, if_neg (by simp)] at h1
              exact h1.symm)
            clear Hst HIs
            go_wp2_with fail
            go_roundg ((st.take m).length + tot (uA U) Q' n)
            case measure => exact HM5.out
            case rel => exact ⟨st.take m, Q', _, rfl, hide_ rfl, hide_ (by have h1 := HM5.out; have h2 := HGb.out; omega), HR5, Ha3, HQl, Hcut, HKz, hide_ (fun i u q hu e => HSz.out i u q hu e), HPz, HUz⟩
end Go.Proofs.YtiojpohmgjdgfaaGreat

/- sound, plain: finished. -/
namespace Go.Proofs.YtiojpohmgjdgfaaGreat
open Go.RowKit
set_option linter.unusedVariables false
set_option linter.unusedSimpArgs false

/-- Each behind all that it leads to: a stack of numbers and complements. -/
def fnF (ed : Nat → List Int) : Nat → List Int → List Bool → List Int → List Bool × List Int
  | 0, _, s, o => (s, o)
  | f + 1, wk, s, o => if wk = [] then (s, o) else
    if hAt wk (wk.length - 1) < 0 then fnF ed f (wk.take (wk.length - 1)) s (o ++ [-hAt wk (wk.length - 1) - 1]) else
    if qAt s (hAt wk (wk.length - 1)).toNat then fnF ed f (wk.take (wk.length - 1)) s o
    else fnF ed f (wk.take (wk.length - 1) ++ [-hAt wk (wk.length - 1) - 1] ++ ed (hAt wk (wk.length - 1)).toNat) (s.set (hAt wk (wk.length - 1)).toNat true) o
def ed1 (ed : Nat → List Int) (k : Nat) : List Int := 0 :: ed k
/-- Numbers and complements of numbers below n. -/
def Stm (n : Nat) (wk : List Int) : Prop := ∀ y ∈ wk, -(n : Int) ≤ y ∧ y < (n : Int)
theorem Stn.stm {n : Nat} {wk : List Int} (h : Stn n wk) : Stm n wk := fun y hy => by have := h y hy; omega
theorem Stm.app {n : Nat} {a c : List Int} (h : Stm n a) (k : Stm n c) : Stm n (a ++ c) := fun y hy => by
  rcases List.mem_append.1 hy with hy | hy
  · exact h y hy
  · exact k y hy
theorem Stm.take {n : Nat} {a : List Int} (h : Stm n a) (m : Nat) : Stm n (a.take m) := fun y hy => h y (List.mem_of_mem_take hy)
theorem fnF_fuel {ed : Nat → List Int} {n : Nat} (he : ∀ k, k < n → Stn n (ed k)) : ∀ (f g : Nat) {wk : List Int} {s : List Bool} {o : List Int}, Stm n wk → s.length = n → wk.length + tot (ed1 ed) s n < f → wk.length + tot (ed1 ed) s n < g → fnF ed f wk s o = fnF ed g wk s o
  | 0, g, wk, s, o, _, _, h, _ => by omega
  | f + 1, 0, wk, s, o, _, _, _, h => by omega
  | f + 1, g + 1, wk, s, o, hw, hs, h1, h2 => by
    unfold fnF
    by_cases h0 : wk = []
    · rw [if_pos h0, if_pos h0]
    rw [if_neg h0, if_neg h0]
    have hl : 0 < wk.length := List.length_pos_iff.2 h0
    have hb := hw _ (hAt_mem (l := wk) (i := wk.length - 1) (by omega))
    have ht : (wk.take (wk.length - 1)).length = wk.length - 1 := by simp
    split
    · exact fnF_fuel he f g (hw.take _) hs (by omega) (by omega)
    split
    · exact fnF_fuel he f g (hw.take _) hs (by omega) (by omega)
    · rename_i hneg hq
      have hk : (hAt wk (wk.length - 1)).toNat < n := by omega
      have hq : qAt s (hAt wk (wk.length - 1)).toNat = false := by simpa using hq
      have h3 := tot_set (ed1 ed) s _ (by omega) hq n hk
      have e1 : (ed1 ed (hAt wk (wk.length - 1)).toNat).length = (ed (hAt wk (wk.length - 1)).toNat).length + 1 := by simp [ed1]
      refine fnF_fuel he f g (((hw.take _).app (fun y hy => by rw [List.mem_singleton] at hy; omega)).app (he _ hk).stm) (by simp [hs]) ?_ ?_
      · rw [List.length_append, List.length_append, List.length_singleton]; omega
      · rw [List.length_append, List.length_append, List.length_singleton]; omega
theorem fnF_step {ed : Nat → List Int} {n : Nat} (he : ∀ k, k < n → Stn n (ed k)) {G m : Nat} {y : Int} {wk : List Int} {s : List Bool} {o : List Int} (hw : Stm n wk) (hs : s.length = n) (h1 : wk.length + tot (ed1 ed) s n < G) (hm : wk.length = m + 1) (hy : hAt wk m = y) :
    fnF ed G wk s o = if y < 0 then fnF ed G (wk.take m) s (o ++ [-y - 1]) else if qAt s y.toNat then fnF ed G (wk.take m) s o else fnF ed G (wk.take m ++ [-y - 1] ++ ed y.toNat) (s.set y.toNat true) o := by
  obtain ⟨G', rfl⟩ : ∃ G', G = G' + 1 := ⟨G - 1, by omega⟩
  have h0 : wk ≠ [] := fun e => by rw [e] at hm; simp at hm
  have e1 : wk.length - 1 = m := by omega
  have hb := hw _ (hAt_mem (l := wk) (i := m) (by omega))
  rw [hy] at hb
  rw [fnF, if_neg h0, e1, hy]
  have ht : (wk.take m).length = m := by simp; omega
  split
  · exact fnF_fuel he G' (G' + 1) (hw.take _) hs (by omega) (by omega)
  split
  · exact fnF_fuel he G' (G' + 1) (hw.take _) hs (by omega) (by omega)
  · rename_i hneg hq
    have hk : y.toNat < n := by omega
    have hq : qAt s y.toNat = false := by simpa using hq
    have h3 := tot_set (ed1 ed) s _ (by omega) hq n hk
    have e2 : (ed1 ed y.toNat).length = (ed y.toNat).length + 1 := by simp [ed1]
    refine fnF_fuel he G' (G' + 1) (((hw.take _).app (fun z hz => by rw [List.mem_singleton] at hz; omega)).app (he _ hk).stm) (by simp [hs]) ?_ ?_
    · rw [List.length_append, List.length_append, List.length_singleton]; omega
    · rw [List.length_append, List.length_append, List.length_singleton]; omega
end Go.Proofs.YtiojpohmgjdgfaaGreat

/- sound, plain: what was come to leads to what was come to; so do the entries. -/
namespace Go.Proofs.YtiojpohmgjdgfaaGreat
open Go.RowKit
set_option linter.unusedVariables false
set_option linter.unusedSimpArgs false

def Kpp (S S' : List St) : Prop := ∀ j, (stA S j).pl ≠ 0 → (stA S' j).pl ≠ 0
theorem Kpp.refl (S : List St) : Kpp S S := fun _ h => h
theorem Kpp.trans {S S' S'' : List St} (h : Kpp S S') (k : Kpp S' S'') : Kpp S S'' := fun j hj => k j (h j hj)
theorem handP_keep {enc : Bool} {C : List In} {r : Int} {S : List St} {P : List Int} {k : Nat} {s : St} (hk : k < S.length) (hs : s.pl ≠ 0) : Kpp S (handP enc C r S P k s).2.1 ∧ ((handP enc C r S P k s).1 = true → (stA (handP enc C r S P k s).2.1 k).pl ≠ 0) := by
  unfold handP
  split
  · rename_i he
    exact ⟨Kpp.refl _, fun _ => by rw [(stEq_iff _ _).1 he]; exact hs⟩
  split
  · refine ⟨fun j hj => ?_, fun _ => ?_⟩
    · show (stA (S.set k s) j).pl ≠ 0
      rw [stA_set hk]
      split
      · exact hs
      · exact hj
    · show (stA (S.set k s) k).pl ≠ 0
      rw [stA_set hk, if_pos rfl]
      exact hs
  · rename_i h1 h2
    exact ⟨Kpp.refl _, fun _ => h2⟩
theorem handsP_keep {enc : Bool} {C : List In} {r : Int} {s : St} (hn : C.length ≤ 1048576) (hs : s.pl ≠ 0) (x : In) : ∀ (ws : List Int) (way : Nat) {S : List St} {P : List Int}, Pnd C.length S P → (∀ y ∈ ws, 0 ≤ y ∧ y < (C.length : Int)) → Kpp S (handsP enc C r s x ws way S P).2.1 ∧ ((handsP enc C r s x ws way S P).1 = 1048576 → ∀ y ∈ ws, (stA (handsP enc C r s x ws way S P).2.1 y.toNat).pl ≠ 0)
  | [], _, S, P, _, _ => ⟨Kpp.refl _, fun _ y hy => by cases hy⟩
  | n :: ws, way, S, P, hN, hw => by
    rw [handsP]
    have h1 := hw n (by simp)
    have hk : n.toNat < C.length := by omega
    obtain ⟨a1, a2⟩ := handP_keep (enc := enc) (C := C) (r := r) (P := P) (s := mHd enc s x (way : Int)) (k := n.toNat) (by rw [hN.len]; exact hk) (mHd_pl enc hs x _)
    split
    · rename_i ht
      obtain ⟨b1, b2⟩ := handsP_keep hn hs x ws (way + 1) (handP_ok (enc := enc) (C := C) (r := r) hN hk (mHd_pl enc hs x (way : Int))).1 (fun y hy => hw y (by simp [hy]))
      refine ⟨a1.trans b1, fun h y hy => ?_⟩
      rcases List.mem_cons.1 hy with rfl | hy
      · exact b1 _ (a2 ht)
      · exact b2 h y hy
    · refine ⟨Kpp.refl _, fun h => ?_⟩
      have h : n = 1048576 := h
      omega
/-- What has a state is pending, or all its ways have states. -/
def Cls (C : List In) (S : List St) (P : List Int) : Prop := ∀ k, k < C.length → (stA S k).pl ≠ 0 → (k : Int) ∈ P ∨ ∀ y ∈ waysP C k, (stA S y.toNat).pl ≠ 0
theorem handP_cls {enc : Bool} {C : List In} {r : Int} {S : List St} {P : List Int} (hN : Pnd C.length S P) (h : Cls C S P) {k : Nat} (hk : k < C.length) {s : St} (hs : s.pl ≠ 0) : Cls C (handP enc C r S P k s).2.1 (handP enc C r S P k s).2.2 := by
  have hkp := (handP_keep (enc := enc) (C := C) (r := r) (P := P) (s := s) (k := k) (by rw [hN.len]; exact hk) hs).1
  revert hkp
  unfold handP
  split
  · exact fun _ => h
  split
  · intro hkp j hj hp
    show (j : Int) ∈ pushH P (k : Int) ∨ _
    rw [push_mem hN.hp]
    have hp : (stA (S.set k s) j).pl ≠ 0 := hp
    rw [stA_set (by rw [hN.len]; exact hk)] at hp
    by_cases e : j = k
    · exact .inl (.inl (by rw [e]))
    · rw [if_neg e] at hp
      rcases h j hj hp with h1 | h1
      · exact .inl (.inr h1)
      · exact .inr (fun y hy => hkp _ (h1 y hy))
  · exact fun _ => h
theorem handsP_cls {enc : Bool} {C : List In} {r : Int} {s : St} (hs : s.pl ≠ 0) (x : In) (q : Nat) : ∀ (ws : List Int) (way : Nat) {S : List St} {P : List Int}, Pnd C.length S P → (∀ y ∈ ws, 0 ≤ y ∧ y < (C.length : Int)) → (∀ k, k < C.length → k ≠ q → (stA S k).pl ≠ 0 → (k : Int) ∈ P ∨ ∀ y ∈ waysP C k, (stA S y.toNat).pl ≠ 0) → (∀ k, k < C.length → k ≠ q → (stA (handsP enc C r s x ws way S P).2.1 k).pl ≠ 0 → (k : Int) ∈ (handsP enc C r s x ws way S P).2.2 ∨ ∀ y ∈ waysP C k, (stA (handsP enc C r s x ws way S P).2.1 y.toNat).pl ≠ 0)
  | [], _, S, P, _, _, h => h
  | n :: ws, way, S, P, hN, hw, h => by
    rw [handsP]
    have h1 := hw n (by simp)
    have hk : n.toNat < C.length := by omega
    have hm := mHd_pl enc hs x (way : Int)
    have hkp := (handP_keep (enc := enc) (C := C) (r := r) (P := P) (s := mHd enc s x (way : Int)) (k := n.toNat) (by rw [hN.len]; exact hk) hm).1
    split
    · refine handsP_cls hs x q ws (way + 1) (handP_ok (enc := enc) (C := C) (r := r) hN hk hm).1 (fun y hy => hw y (by simp [hy])) ?_
      intro k hkC hkq
      revert hkp
      unfold handP
      split
      · exact fun _ => h k hkC hkq
      split
      · intro hkp hp
        show (k : Int) ∈ pushH P (n.toNat : Int) ∨ _
        rw [push_mem hN.hp]
        have hp : (stA (S.set n.toNat (mHd enc s x (way : Int))) k).pl ≠ 0 := hp
        rw [stA_set (by rw [hN.len]; exact hk)] at hp
        by_cases e : k = n.toNat
        · exact .inl (.inl (by rw [e]))
        · rw [if_neg e] at hp
          rcases h k hkC hkq hp with h1 | h1
          · exact .inl (.inr h1)
          · exact .inr (fun y hy => hkp _ (h1 y hy))
      · exact fun _ => h k hkC hkq
    · exact h
theorem goP_cls {enc : Bool} {C : List In} {r : Int} (hW : WIn C) (hn : C.length ≤ 1048576) : ∀ (f : Nat) {S : List St} {P : List Int}, Pnd C.length S P → msr S P < f → Cls C S P → (goP enc C r f S P).1 = 1048576 → Cls C (goP enc C r f S P).2.1 [] ∧ Kpp S (goP enc C r f S P).2.1
  | 0, S, P, _, h, _, _ => by omega
  | f + 1, S, P, hN, hm, hL, h1 => by
    by_cases h0 : P = []
    · subst h0
      rw [goP_nil]
      exact ⟨hL, Kpp.refl _⟩
    · rw [goP] at h1 ⊢
      rw [if_neg h0] at h1 ⊢
      have hl0 : 0 < P.length := List.length_pos_iff.2 h0
      obtain ⟨q1, q2, q3, q4, q5⟩ := pop_ok hN h0
      have hk : (popH P).1.toNat < C.length := by omega
      have l1 := lookP_ok (enc := enc) (r := r) hW q1 hk q5
      by_cases hz : (lookP enc C r S (popH P).2 (popH P).1.toNat).1 = 1048576
      · rw [if_pos hz] at h1 ⊢
        have hmid : Cls C (lookP enc C r S (popH P).2 (popH P).1.toNat).2.1 (lookP enc C r S (popH P).2 (popH P).1.toNat).2.2 ∧ Kpp S (lookP enc C r S (popH P).2 (popH P).1.toNat).2.1 := by
          unfold lookP at hz ⊢
          by_cases hq : mSt enc (stA S (popH P).1.toNat) (inA C (popH P).1.toNat) r = false ∨ (C.length : Int) ∈ waysP C (popH P).1.toNat
          · rw [if_pos hq] at hz
            have hz : ((popH P).1.toNat : Int) = 1048576 := hz
            omega
          · rw [if_neg hq] at hz ⊢
            have hq2 : (C.length : Int) ∉ waysP C (popH P).1.toNat := fun e => hq (.inr e)
            have hin : ∀ y ∈ waysP C (popH P).1.toNat, 0 ≤ y ∧ y < (C.length : Int) := fun y hy => by
              have h2 := hW _ hk y hy
              have h3 : y ≠ (C.length : Int) := fun e => hq2 (e ▸ hy)
              omega
            obtain ⟨k1, k2⟩ := handsP_keep (enc := enc) (r := r) hn q5 (inA C (popH P).1.toNat) (waysP C (popH P).1.toNat) 0 q1 hin
            refine ⟨fun j hj hp => ?_, k1⟩
            by_cases e : j = (popH P).1.toNat
            · right
              rw [e]
              exact k2 hz
            · refine handsP_cls q5 _ (popH P).1.toNat _ _ q1 hin (fun i hi hne hpi => ?_) j hj e hp
              rcases hL i hi hpi with h2 | h2
              · rcases pop_rest hN.hp hl0 h2 with h3 | h3
                · exact absurd (by rw [← h3, Int.toNat_natCast]) hne
                · exact .inl h3
              · exact .inr h2
        obtain ⟨g1, g2⟩ := goP_cls hW hn f l1.1 (by omega) hmid.1 h1
        exact ⟨g1, hmid.2.trans g2⟩
      · rw [if_neg hz] at h1
        exact absurd h1 hz
theorem thruP_cls {enc : Bool} {C : List In} {r : Int} (hW : WIn C) (hC : CdOk enc C) {S : List St} (hl : S.length = C.length) (hN : Pnd C.length S []) (hL : Cls C S []) {k : Nat} (hk : k < C.length) (h : (thruP enc C r S [] k).1 = 1048576) : Cls C (thruP enc C r S [] k).2.1 [] ∧ Kpp S (thruP enc C r S [] k).2.1 ∧ (stA (thruP enc C r S [] k).2.1 k).pl ≠ 0 := by
  unfold thruP at h ⊢
  obtain ⟨a1, a2⟩ := handP_keep (enc := enc) (C := C) (r := r) (P := []) (s := mBg enc) (k := k) (S := S) (by rw [hl]; exact hk) (mBg_pl enc)
  by_cases hz : (handP enc C r S [] k (mBg enc)).1 = true
  · rw [if_pos hz] at h ⊢
    have h1 := handP_ok (enc := enc) (C := C) (r := r) hN hk (mBg_pl enc)
    have h2 : msr S [] ≤ 2 * C.length := by have := bare_le S; unfold msr; simp; omega
    have h3 := h1.2.1
    obtain ⟨g1, g2⟩ := goP_cls (enc := enc) (r := r) hW hC.nc (2 * C.length + 2) h1.1 (by omega) (handP_cls hN hL hk (mBg_pl enc)) h
    exact ⟨g1, a1.trans g2, g2 k (a2 hz)⟩
  · rw [if_neg hz] at h
    have := hC.nc
    simp at h
    omega
theorem firstP_cls {enc : Bool} {C : List In} (hW : WIn C) (hC : CdOk enc C) : ∀ (E : List Int) (r : Nat) {S : List St}, (∀ e ∈ E, 0 ≤ e ∧ e < (C.length : Int)) → S.length = C.length → Pnd C.length S [] → SAll S → Cls C S [] → (firstP enc C E r S).1 = 1048576 → Cls C (firstP enc C E r S).2 [] ∧ Kpp S (firstP enc C E r S).2 ∧ ∀ e ∈ E, (stA (firstP enc C E r S).2 e.toNat).pl ≠ 0
  | [], r, S, _, hl, _, hS, hL, _ => ⟨hL, Kpp.refl _, fun e he => by cases he⟩
  | e :: es, r, S, he, hl, hN, hS, hL, h => by
    have h1 := he e (by simp)
    have hk : e.toNat < C.length := by omega
    rw [firstP] at h ⊢
    by_cases hz : (thruP enc C (r : Int) S [] e.toNat).1 = 1048576
    · rw [if_pos hz] at h ⊢
      obtain ⟨f1, f2, f3⟩ := thruP_fin hW hC hl hN hS hk hz
      obtain ⟨c1, c2, c3⟩ := thruP_cls hW hC hl hN hL hk hz
      obtain ⟨d1, d2, d3⟩ := firstP_cls hW hC es (r + 1) (fun y hy => he y (by simp [hy])) f2.len f2 f3 c1 h
      refine ⟨d1, c2.trans d2, fun y hy => ?_⟩
      rcases List.mem_cons.1 hy with rfl | hy
      · exact d2 _ c3
      · exact d3 y hy
    · rw [if_neg hz] at h
      exact absurd h hz
end Go.Proofs.YtiojpohmgjdgfaaGreat

/- sound: lists of bools that are made; how many edges there are at most; bare ways are ways. -/
namespace Go.Proofs.YtiojpohmgjdgfaaGreat
open Go.RowKit
set_option linter.unusedVariables false
set_option linter.unusedSimpArgs false

theorem infoBo : (Tryz.prog.info? 4).map (fun i => (i.zero, i.size, i.bytes)) = some (some (.bool false), 1, 1) := by kernel_rfl
theorem makeBo (n : Nat) (hn : n ≤ 1000000000) (w : World) : (Instr.makeSlice 28 (.int .i64 (n : Int)) (.int .i64 (n : Int))).run Tryz.prog w = .ok (.slice (some ⟨w.heap.size, 0, none⟩) n n) (w.alloc (.cells (madeCells #[.bool false] n) 4)) := by
  obtain ⟨i0, hi, hz0, hz1, hz2⟩ := info_parts infoBo
  have hb : (i0.bytes : Int) * (n : Int) ≤ 281474976710656 := by rw [hz2]; omega
  have hr := run_make (P := Tryz.prog) w 28 4 i0 (.bool false) Tryz.underlying28 hi hz0 .i64 .i64 n n (by omega) (Int.le_refl _) hb (by omega)
  rw [Int.toNat_natCast, hz1, Nat.mul_one] at hr
  exact hr
theorem madeBo0 (n : Nat) : (madeCells #[.bool false] n).toList = (List.replicate n false).map Value.bool := by
  apply List.ext_getElem?
  intro i
  by_cases h : i < n <;> simp [madeCells, Nat.mod_one, h]
theorem newBo (w : World) (n : Nat) : Blk (w.alloc (.cells (madeCells #[.bool false] n) 4)) w.heap.size 4 ((List.replicate n false).map Value.bool) := by
  rw [← madeBo0]
  exact Blk.newA w _ _
theorem qAt_new (n k : Nat) : qAt (List.replicate n false) k = false := by
  unfold qAt
  by_cases h : k < n <;> simp [List.getD, h]
theorem tot_bound {ed : Nat → List Int} {M : Nat} (s : List Bool) : ∀ n, (∀ k, k < n → (ed k).length ≤ M) → tot ed s n ≤ M * n
  | 0, _ => by simp [tot]
  | n + 1, h => by
    have ih := tot_bound (ed := ed) (M := M) s n (fun k hk => h k (by omega))
    have h1 := h n (by omega)
    unfold tot
    rw [Nat.mul_add, Nat.mul_one]
    split <;> omega
theorem bare_sub {C : List In} {E : List Int} {S : List St} {Q : List Bool} {k : Nat} {y : Int} (hy : y ∈ bareP C E S Q k) : y ∈ waysP C k := by
  unfold bareP at hy
  split at hy
  · cases hy
  split at hy
  · cases hy
  split at hy
  · rename_i ho
    rw [List.mem_singleton] at hy
    unfold waysP
    rw [if_neg (by omega), if_neg (by omega), if_neg (by omega), if_pos (by omega), hy]
    simp
  split at hy
  · cases hy
  split at hy
  · cases hy
  · exact hy
end Go.Proofs.YtiojpohmgjdgfaaGreat

/- sound: finished, the walk. -/
namespace Go.Proofs.YtiojpohmgjdgfaaGreat
open Go.RowKit
set_option linter.unusedVariables false
set_option linter.unusedSimpArgs false

def edB (C : List In) (E : List Int) (S : List St) (Q : List Bool) (k : Nat) : List Int := if cameP S k = true then bareP C E S Q k else []
def fnO (ed : Nat → List Int) (S : List St) (n : Nat) : Nat → Nat → List Bool → List Int → List Int
  | 0, _, _, o => o
  | f + 1, j, s, o => if cameP S j = true then fnO ed S n f (j + 1) (fnF ed (tot (ed1 ed) s n + 2) [(j : Int)] s o).1 (fnF ed (tot (ed1 ed) s n + 2) [(j : Int)] s o).2 else fnO ed S n f (j + 1) s o
/-- What was come to, or a complement. -/
def StK (S : List St) (n : Nat) (wk : List Int) : Prop := ∀ y ∈ wk, -(n : Int) ≤ y ∧ y < (n : Int) ∧ (0 ≤ y → cameP S y.toNat = true)
theorem StK.stm {S : List St} {n : Nat} {wk : List Int} (h : StK S n wk) : Stm n wk := fun y hy => ⟨(h y hy).1, (h y hy).2.1⟩
theorem StK.app {S : List St} {n : Nat} {a c : List Int} (h : StK S n a) (k : StK S n c) : StK S n (a ++ c) := fun y hy => by
  rcases List.mem_append.1 hy with hy | hy
  · exact h y hy
  · exact k y hy
theorem StK.take {S : List St} {n : Nat} {a : List Int} (h : StK S n a) (m : Nat) : StK S n (a.take m) := fun y hy => h y (List.mem_of_mem_take hy)
theorem xorI (y : Int) (h : -9223372036854775808 ≤ y ∧ y ≤ 9223372036854775807) : bits .xor .i64 (-1) y = -y - 1 := by
  show IntKind.i64.wrap ((BitVec.ofInt 64 (-1) ^^^ BitVec.ofInt 64 y).toNat : Int) = _
  have e : BitVec.ofInt 64 (-1) = BitVec.allOnes 64 := by decide
  rw [e, BitVec.allOnes_xor, BitVec.toNat_not, BitVec.toNat_ofInt, IntKind.wrap_i64]
  omega
/-- What finished answers. -/
def FnTo (w : World) (R : List Int) (e : Ending) (w' : World) : Prop := ∃ v, e = .returned v ∧ IOwn w' w.heap.size v R ∧ Below w.heap.size w w'
set_option maxRecDepth 100000 in
set_option maxHeartbeats 16000000 in
theorem finished_any (b cc ce gs gq n : Nat) (ac ae : Option Addr) (enc : Bool) (C : List In) (E : List Int) (S : List St) (Q : List Bool) (vb : Value) (w : World) (hn : C.length = n) (hn9 : n ≤ 1048576) (hcc : C.length ≤ cc) (hcl : cc ≤ 9223372036854775807) (hC : Hid (CeOk enc C E)) (hI : Hid (∀ k, k < n → cameP S k = true → Inn C k ∧ ∀ y ∈ waysP C k, cameP S y.toNat = true)) (h : Hid (PtS w b cc ce gs gq ac ae enc C E S Q vb)) :
    Calls Tryz.prog 121 #[.pointer (some ⟨b, 0, none⟩)] w fun e w' => FnTo w (fnO (edB C E S Q) S n n 0 (List.replicate n false) []) e w' := by
  obtain ⟨ed, hed⟩ : ∃ ed, edB C E S Q = ed := ⟨_, rfl⟩
  obtain ⟨R, hR⟩ : ∃ R, fnO (edB C E S Q) S n n 0 (List.replicate n false) [] = R := ⟨_, rfl⟩
  rw [hR]
  rw [hed] at hR
  have HR := hide_ hR
  have Hed : Hid (∀ k, k < n → cameP S k = true → bareP C E S Q k = ed k) := hide_ (fun k _ hc => by rw [← hed]; unfold edB; rw [if_pos hc])
  have HeS : Hid (∀ k, k < n → StK S n (ed k)) := hide_ (fun k hk y hy => by
    rw [← hed] at hy
    unfold edB at hy
    split at hy
    · rename_i hc
      have h1 := (hI.out k hk hc).1 y (bare_sub hy)
      have h2 := (hI.out k hk hc).2 y (bare_sub hy)
      rw [hn] at h1
      exact ⟨by omega, by omega, fun _ => h2⟩
    · cases hy)
  have HeN : Hid (∀ k, k < n → Stn n (ed k)) := hide_ (fun k hk y hy => by
    rw [← hed] at hy
    unfold edB at hy
    split at hy
    · rename_i hc
      have h1 := (hI.out k hk hc).1 y (bare_sub hy)
      rw [hn] at h1
      exact h1
    · cases hy)
  have HeL : Hid (∀ s : List Bool, tot (ed1 ed) s n ≤ 65 * n) := hide_ (fun s => tot_bound s n (fun k hk => by
    have h1 : (ed k).length ≤ 64 := by
      rw [← hed]
      unfold edB
      split
      · exact bare_len (E := E) hC.out.cd (by omega) S Q
      · simp
    simp [ed1]
    omega))
  have HCa : Hid (∀ (k : Nat) (w' : World), k < n → Below w.heap.size w w' → Calls Tryz.prog 118 #[.pointer (some ⟨b, 0, none⟩), .int .i64 (k : Int)] w' fun e w'' => e = .returned (.bool (cameP S k)) ∧ w' = w'') := hide_ (fun k w' hk hB => cameTo_any b cc ce gs gq ac ae enc C E S Q vb k w' (by omega) (hide_ (h.out.later hB)))
  have HBa : Hid (∀ (k : Nat) (w' : World), k < n → cameP S k = true → Below w.heap.size w w' → Calls Tryz.prog 83 #[.pointer (some ⟨b, 0, none⟩), .int .i64 (k : Int)] w' fun e w'' => ∃ v, e = .returned v ∧ Hid (IOwn w'' w'.heap.size v (ed k)) ∧ Hid (Below w'.heap.size w' w'')) := hide_ (fun k w' hk hc hB => by
    have h1 := bare_any b cc ce gs gq ac ae enc C E S Q vb k w' (by omega) hcc hcl hC (hide_ (h.out.later hB))
    rw [Hed.out k hk hc] at h1
    exact h1)
  obtain ⟨-, -, -, c3, -, -⟩ := h.out.cells
  rw [hn] at c3
  obtain ⟨w1, hmk, hK1, hB1⟩ : ∃ w1, (Instr.makeSlice 28 (.int .i64 (n : Int)) (.int .i64 (n : Int))).run Tryz.prog w = .ok (.slice (some ⟨w.heap.size, 0, none⟩) n n) w1 ∧ Blk w1 w.heap.size 4 ((List.replicate n false).map Value.bool) ∧ Below w.heap.size w w1 := ⟨_, makeBo n (by omega) w, newBo w n, below1 _ _⟩
  have c4 := (hB1.cell (p := ⟨b, 3, none⟩) h.out.blk.lt).trans c3
  have HK1 := hide_ hK1
  have HB1 := hide_ hB1
  clear hR hed hK1 hB1 h
  go_enter Tryz.func121, Tryz.ntmps121
  go_wp2_with fail
  clear hmk c3 c4
  go_loopw [3, 4, 19] (fun x3 x4 x19 wr => ∃ (j : Nat) (s : List Bool) (o : List Int) (vo vw : Value), vo = x3 ∧ vw = x4 ∧ j ≤ n ∧ x19 = .int .i64 (j : Int) ∧ Hid (fnO ed S n (n - j) j s o = R) ∧ Hid (s.length = n) ∧ Hid (o.length + tot (ed1 ed) s n ≤ 65 * n + j) ∧ Hid (Blk wr w.heap.size 4 (s.map Value.bool)) ∧ Hid (IOwn wr w.heap.size vo o) ∧ Hid (IOwn wr w.heap.size vw []) ∧ Hid (∀ q, vo.ownBlock = some q → vw.ownBlock ≠ some q) ∧ Hid (Below w.heap.size w wr)) (fun _ _ x19 _ => n - (intOf x19).toNat)
  case atStart => exact ⟨0, _, [], _, _, rfl, rfl, by omega, rfl, hide_ (by rw [Nat.sub_zero]; exact HR.out), hide_ (by simp), hide_ (by have h1 := HeL.out (List.replicate n false); simp; omega), HK1, hide_ (IOwn.nil _ _), hide_ (IOwn.nil _ _), hide_ (fun q e => by cases e), HB1⟩
  case round =>
    clear HR HK1 HB1
    obtain ⟨j, s, o, vo, vw, rfl, rfl, hj, rfl, HRj, Hsl, HTj, HKj, HOj, HWj, HSj, HBj⟩ := hrel
    generalize wr = wq at *
    by_cases hlt : j < n
    · have hlt' : (j : Int) < (n : Int) := by omega
      have hrj := HRj.out
      rw [show n - j = (n - (j + 1)) + 1 by omega, fnO] at hrj
      have HRj2 := hide_ hrj
      obtain ⟨d, hd⟩ : ∃ d, cameP S j = d := ⟨_, rfl⟩
      have HCj := hide_ (HCa.out j wq hlt HBj.out)
      rw [hd] at HCj
      have Hd := hide_ hd
      obtain ⟨aw, cw, hvw⟩ := HWj.out.slice
      have hvw : vw = .slice aw 0 cw := hvw
      subst hvw
      clear hrj HRj hd
      go_wp2_with fail
      refine HCj.out.mono ?_
      rintro e w2 ⟨rfl, rfl⟩
      cases d
      · have HR3 : Hid (fnO ed S n (n - (j + 1)) (j + 1) s o = R) := hide_ (by
          have h1 := HRj2.out
          rw [if_neg (by rw [Hd.out]; simp)] at h1
          exact h1)
        clear HRj2
        go_wp2_with fail
        go_loopw [3, 4] (fun x3 x4 wr => vo = x3 ∧ x4 = .slice aw 0 cw ∧ wq = wr) (fun _ _ _ => 0)
        case atStart => exact ⟨rfl, rfl, rfl⟩
        case round =>
          obtain ⟨rfl, rfl, rfl⟩ := hrel
          go_wp2_with fail
          go_roundw
          case rel => exact ⟨j + 1, s, o, vo, _, rfl, rfl, by omega, by go_num, HR3, Hsl, hide_ (by have := HTj.out; omega), HKj, HOj, HWj, HSj, HBj⟩
          case measure => simp [intOf]; omega
      · obtain ⟨RR, hRR⟩ : ∃ RR, fnF ed (tot (ed1 ed) s n + 2) [(j : Int)] s o = RR := ⟨_, rfl⟩
        have HR3 : Hid (fnO ed S n (n - (j + 1)) (j + 1) RR.1 RR.2 = R) := hide_ (by
          have h1 := HRj2.out
          rw [if_pos Hd.out, hRR] at h1
          exact h1)
        obtain ⟨G, hG⟩ : ∃ G, tot (ed1 ed) s n + 2 = G := ⟨_, rfl⟩
        rw [hG] at hRR
        have HRR := hide_ hRR
        have HG := hide_ hG
        have HG9 : Hid (G ≤ 900000000) := hide_ (by have h1 := HeL.out s; omega)
        obtain ⟨g3, cp3, w3, hr3, hO3, hU3, hg3⟩ := HWj.out.push (j : Int) (by simp) HBj.out.size
        obtain ⟨v3, hv3⟩ : ∃ v3, Value.slice (some ⟨g3, 0, none⟩) (List.length ([] : List Int) + 1) cp3 = v3 := ⟨_, rfl⟩
        rw [hv3] at hr3 hO3
        have HSp3 : Hid (∀ q, vo.ownBlock = some q → v3.ownBlock ≠ some q) := hide_ (fun q e e2 => by
          rw [← hv3] at e2
          have e3 : g3 = q := by injection e2
          rcases hg3 with h6 | h6
          · exact HSj.out q e (by rw [h6, e3])
          · have h7 := (HOj.out.lies e).2
            omega)
        have HRun := hide_ hr3
        have HWs : Hid (IOwn w3 w.heap.size v3 [(j : Int)]) := hide_ hO3
        have HOs := hide_ (HOj.out.upd hU3 (fun q e e2 => HSj.out q e e2))
        have HKs := hide_ (HKj.out.upd hU3 (fun e => HWj.out.neB HKj.out (by decide) e))
        have HBs := hide_ (below_to2 HBj.out hU3 (fun q e => (HWj.out.lies e).1))
        have HSt0 : Hid (StK S n [(j : Int)]) := hide_ (fun y hy => by
          rw [List.mem_singleton] at hy
          rw [hy]
          exact ⟨by omega, by omega, fun _ => by rw [Int.toNat_natCast]; exact Hd.out⟩)
        clear hRR hG hr3 hO3 hU3 hg3 hv3 HRj2 HWj HOj HKj HBj HSj
        go_wp2_with (first | (at_builtin; refine wpList_append_run rfl (.tmp 25) (.tmp 27) 23 23 rfl rfl rfl HRun.out ?_; clear HRun) | fail)
        go_loopg [3, 4] (1 + tot (ed1 ed) s n) (fun gk x3 x4 wr => ∃ (st : List Int) (t : List Bool) (oo : List Int) (vf vz : Value), vf = x3 ∧ vz = x4 ∧ Hid (st.length + tot (ed1 ed) t n = gk) ∧ Hid (gk < G) ∧ Hid (oo.length + gk ≤ 65 * n + j + 1) ∧ Hid (fnF ed G st t oo = RR) ∧ Hid (StK S n st) ∧ Hid (t.length = n) ∧ Hid (Blk wr w.heap.size 4 (t.map Value.bool)) ∧ Hid (IOwn wr w.heap.size vf oo) ∧ Hid (IOwn wr w.heap.size vz st) ∧ Hid (∀ q, vf.ownBlock = some q → vz.ownBlock ≠ some q) ∧ Hid (Below w.heap.size w wr))
        case atStart => exact ⟨[(j : Int)], s, o, vo, v3, rfl, rfl, hide_ rfl, hide_ (by have := HG.out; omega), hide_ (by have := HTj.out; omega), HRR, HSt0, Hsl, HKs, HOs, HWs, HSp3, HBs⟩
        case round =>
          clear HRR HSt0 Hsl HKs HOs HWs HSp3 HBs HTj
          obtain ⟨st, t, oo, vf, vz, rfl, rfl, Hgk, HGb, Hol, HRk, HSt, Htl, HKz, HFz, HWz, HSz, HBz⟩ := hrel
          generalize wr = wp at *
          by_cases h0 : st = []
          · subst h0
            obtain ⟨a, c, hv⟩ := HWz.out.slice
            have hv : vz = .slice a 0 c := hv
            subst hv
            have HR5 : Hid (fnO ed S n (n - (j + 1)) (j + 1) t oo = R) := hide_ (by
              have h1 := HRk.out
              obtain ⟨G', hG'⟩ : ∃ G', G = G' + 1 := ⟨G - 1, by have := HGb.out; omega⟩
              rw [hG', fnF, if_pos rfl] at h1
              have h2 := HR3.out
              rw [← h1] at h2
              exact h2)
            have HT5 : Hid (oo.length + tot (ed1 ed) t n ≤ 65 * n + (j + 1)) := hide_ (by have h1 := Hol.out; have h2 := Hgk.out; rw [List.length_nil] at h2; omega)
            clear HR3 HRk Hgk HGb Hol
            go_wp2_with fail
            go_roundw
            case rel => exact ⟨j + 1, t, oo, vf, _, rfl, rfl, by omega, by go_num, HR5, Htl, HT5, HKz, HFz, HWz, HSz, HBz⟩
            case measure => simp [intOf]; omega
          · have hl0 : 0 < st.length := List.length_pos_iff.2 h0
            obtain ⟨g, c, hv, hcv, hgB, hgL⟩ := HWz.out.open hl0
            obtain ⟨m, hm⟩ : ∃ m, st.length = m + 1 := ⟨st.length - 1, by omega⟩
            rw [hm] at hv hcv
            subst hv
            obtain ⟨y, hy⟩ : ∃ y, hAt st m = y := ⟨_, rfl⟩
            obtain ⟨y1, y2, y3⟩ := HSt.out _ (hAt_mem (l := st) (i := m) (by omega))
            rw [hy] at y1 y2 y3
            obtain ⟨cy, -⟩ := HWz.out.cellH (i := m) (by omega)
            rw [hy] at cy
            have hst := fnF_step (ed := ed) (G := G) (o := oo) HeN.out HSt.out.stm Htl.out (by have := Hgk.out; have := HGb.out; omega) hm hy
            rw [HRk.out] at hst
            have Hst := hide_ hst
            have hmb : m < 1000000000 := by have := Hgk.out; have := HGb.out; have := HG9.out; omega
            have hw1 : IntKind.i64.wrap ((m : Int) + 1 - 1) = (m : Int) := by rw [i64w _ (by omega)]; omega
            have Hcut := hide_ (HWz.out.cutV (m := m) hm (by omega))
            have Ha3 := hide_ (HSt.out.take m)
            have Hm := hide_ hm
            have hcv' : (m : Int) + 1 ≤ (c : Int) := by omega
            have Htk : Hid ((st.take m).length = m) := hide_ (by rw [List.length_take]; omega)
            have HM5 : Hid ((st.take m).length + tot (ed1 ed) t n < gk) := hide_ (by
              have h1 := Hgk.out
              have h2 := Hm.out
              have h3 := Htk.out
              omega)
            clear hst hm hl0 h0 HRk hy
            by_cases hy0 : y < 0
            · have HR5 : Hid (fnF ed G (st.take m) t (oo ++ [-y - 1]) = RR) := hide_ (by
                have h1 := Hst.out
                rw [if_pos hy0] at h1
                exact h1.symm)
              obtain ⟨g5, cp5, w5, hr5, hF5, hU5, hg5⟩ := HFz.out.push (-y - 1) (by have := Hol.out; omega) HBz.out.size
              have HRun := hide_ hr5
              have HF5 := hide_ hF5
              have HK5 := hide_ (HKz.out.upd hU5 (fun e => HFz.out.neB HKz.out (by decide) e))
              have HW5 := hide_ (Hcut.out.upd hU5 (fun q e e2 => HSz.out q e2 e))
              have HB5 := hide_ (below_to2 HBz.out hU5 (fun q e => (HFz.out.lies e).1))
              have HS5 : Hid (∀ q, (Value.slice (some ⟨g5, 0, none⟩) (oo.length + 1) cp5).ownBlock = some q → (Value.slice (some ⟨g, 0, none⟩) m c).ownBlock ≠ some q) := hide_ (fun q e e2 => by
                have e3 : g5 = q := by injection e
                rcases hg5 with h6 | h6
                · exact HSz.out q (by rw [h6, e3]) e2
                · have h7 := (Hcut.out.lies e2).2
                  omega)
              have HL5 : Hid ((oo ++ [-y - 1]).length + ((st.take m).length + tot (ed1 ed) t n) ≤ 65 * n + j + 1) := hide_ (by have h1 := Hol.out; have h2 := HM5.out; rw [List.length_append, List.length_singleton]; omega)
              have hsg : IntKind.i64.signed = true := rfl
              have hxo := xorI y (by omega)
              obtain ⟨af, cf, hvf⟩ := HFz.out.slice
              subst hvf
              clear Hst hr5 hF5 hU5 hg5 HFz HKz HWz HBz HSz Hcut y3
              go_wp2_with (first | (at_builtin; refine wpList_append_run rfl (.tmp 46) (.tmp 49) 23 23 rfl rfl rfl HRun.out ?_; clear HRun) | fail)
              go_roundg ((st.take m).length + tot (ed1 ed) t n)
              case measure => exact HM5.out
              case rel => exact ⟨st.take m, t, _, _, _, rfl, rfl, hide_ rfl, hide_ (by have h1 := HM5.out; have h2 := HGb.out; omega), HL5, HR5, Ha3, Htl, HK5, HF5, HW5, HS5, HB5⟩
            · obtain ⟨k, hk⟩ := Int.eq_ofNat_of_zero_le (show 0 ≤ y by omega)
              subst hk
              have hkn : k < n := by omega
              have hkc := y3 (by omega)
              rw [Int.toNat_natCast] at hkc
              have Hst2 := Hst.out
              rw [if_neg hy0, Int.toNat_natCast] at Hst2
              have Hst := hide_ Hst2
              have cq := bAt HKz.out (k := k) (by rw [Htl.out]; exact hkn)
              obtain ⟨d, hd⟩ : ∃ d, qAt t k = d := ⟨_, rfl⟩
              rw [hd] at cq
              have Hd2 := hide_ hd
              have Hkc := hide_ hkc
              clear Hst2 hd y1 y2 y3 hkc
              cases d
              · have zf := HKz.out.frozen k
                have HR5 : Hid (fnF ed G (st.take m ++ [-(k : Int) - 1] ++ ed k) (t.set k true) oo = RR) := hide_ (by
                  have h1 := Hst.out
                  rw [Hd2.out, if_neg (by simp)] at h1
                  exact h1.symm)
                obtain ⟨w2, hw2⟩ : ∃ wx, wp.setCell ⟨w.heap.size, k, none⟩ (.bool true) = wx := ⟨_, rfl⟩
                have hU2 : Upd (fun q => q = w.heap.size) wp w2 := by rw [← hw2]; exact (Upd.refl _ wp).set _ _ (.inl rfl)
                have hK2 : Blk w2 w.heap.size 4 ((t.set k true).map Value.bool) := by rw [← hw2]; exact bset HKz.out
                have hF2 := HFz.out.upd hU2 (fun q e e2 => HFz.out.neB HKz.out (by decide) (e2 ▸ e))
                have hC2 := Hcut.out.upd hU2 (fun q e e2 => Hcut.out.neB HKz.out (by decide) (e2 ▸ e))
                have hB2 : Below w.heap.size w w2 := below_to2 HBz.out hU2 (fun q e => by rw [e]; exact Nat.le_refl _)
                have h3 := tot_set (ed1 ed) t k (by rw [Htl.out]; exact hkn) Hd2.out n hkn
                have e1 : (ed1 ed k).length = (ed k).length + 1 := by simp [ed1]
                have HM6 : Hid ((st.take m ++ [-(k : Int) - 1] ++ ed k).length + tot (ed1 ed) (t.set k true) n < gk) := hide_ (by
                  have h1 := HM5.out
                  rw [List.length_append, List.length_append, List.length_singleton]
                  omega)
                have Hel : Hid ((st.take m ++ [-(k : Int) - 1]).length + (ed k).length ≤ 1000000000) := hide_ (by
                  have h1 := HM5.out; have h2 := HGb.out; have h4 := HG9.out
                  rw [List.length_append, List.length_singleton]
                  omega)
                obtain ⟨g3, cp3, w3, hr3, hC3, hU3, hg3⟩ := hC2.push (-(k : Int) - 1) (by rw [Htk.out]; omega) hB2.size
                obtain ⟨v4, hv4⟩ : ∃ v4, Value.slice (some ⟨g3, 0, none⟩) ((st.take m).length + 1) cp3 = v4 := ⟨_, rfl⟩
                rw [hv4] at hr3 hC3
                have hK3 := hK2.upd hU3 (fun e => hC2.neB hK2 (by decide) e)
                have hF3 := hF2.upd hU3 (fun q e e2 => HSz.out q e e2)
                have hB3 := below_to2 hB2 hU3 (fun q e => (hC2.lies e).1)
                have HSp3 : Hid (∀ q, vf.ownBlock = some q → v4.ownBlock ≠ some q) := hide_ (fun q e e2 => by
                  rw [← hv4] at e2
                  have e3 : g3 = q := by injection e2
                  rcases hg3 with h6 | h6
                  · exact HSz.out q e (by rw [← e3]; exact h6)
                  · have h7 := (hF2.lies e).2
                    omega)
                have HBr := hide_ (HBa.out k w3 hkn Hkc.out hB3)
                have HRun := hide_ hr3
                have HK3 := hide_ hK3
                have HC3 := hide_ hC3
                have HF3 := hide_ hF3
                have HB3 := hide_ hB3
                have HS5 : Hid (StK S n (st.take m ++ [-(k : Int) - 1] ++ ed k)) := hide_ ((Ha3.out.app (fun y hy => by
                  rw [List.mem_singleton] at hy
                  rw [hy]
                  exact ⟨by omega, by omega, fun h => by omega⟩)).app (HeS.out k hkn))
                have hsg : IntKind.i64.signed = true := rfl
                have hxo := xorI (k : Int) (by omega)
                have hkn' : (k : Int) < (n : Int) := by omega
                have Htl5 : Hid ((t.set k true).length = n) := hide_ (by rw [List.length_set]; exact Htl.out)
                clear Hst hU2 hK2 hF2 hC2 hB2 h3 e1 hr3 hC3 hU3 hg3 hv4 hK3 hF3 hB3 HKz HFz HWz HBz HSz Hcut Ha3 Htk Hm
                go_wp2_with (first | (at_builtin; refine wpList_append_run rfl (.tmp 60) (.tmp 63) 23 23 rfl rfl rfl HRun.out ?_; clear HRun) | fail)
                refine HBr.out.mono ?_
                rintro e w4 ⟨vb4, rfl, HO4, HB4⟩
                obtain ⟨a4, c4, ev4, hr4, hn4, -⟩ := HO4.out.row
                obtain ⟨v5, w5, hr5, hW5, hU5, hg5⟩ := (HC3.out.later HB4.out).app hr4 hn4 Hel.out (Nat.le_trans HB3.out.size HB4.out.size)
                have HRun := hide_ hr5
                have hF4 := HF3.out.later HB4.out
                have HF5 := hide_ (hF4.upd hU5 (fun q e e2 => HSp3.out q e e2))
                have HK5 := hide_ ((HK3.out.later HB4.out).upd hU5 (fun e => (HC3.out.later HB4.out).neB (HK3.out.later HB4.out) (by decide) e))
                have HB5 := hide_ (below_to2 (below_to HB3.out HB4.out) hU5 (fun q e => ((HC3.out.later HB4.out).lies e).1))
                have HSp5 : Hid (∀ q, vf.ownBlock = some q → v5.ownBlock ≠ some q) := hide_ (fun q e e2 => by
                  rcases hg5 q e2 with h | h
                  · exact HSp3.out q e h
                  · have := (hF4.lies e).2; omega)
                have HW5 := hide_ hW5
                subst ev4
                clear hr4 hn4 hr5 hW5 hU5 hg5 hF4 HC3 HF3 HK3 HB3 HBr HO4 HB4 HSp3
                go_wp2_with (first | (at_builtin; refine wpList_append_run rfl (.tmp 64) (.tmp 67) 23 23 rfl rfl rfl HRun.out ?_; clear HRun) | fail)
                go_roundg ((st.take m ++ [-(k : Int) - 1] ++ ed k).length + tot (ed1 ed) (t.set k true) n)
                case measure => exact HM6.out
                case rel => exact ⟨_, t.set k true, oo, vf, v5, rfl, rfl, hide_ rfl, hide_ (by have h1 := HM6.out; have h2 := HGb.out; omega), hide_ (by have h1 := Hol.out; have h2 := HM6.out; omega), HR5, HS5, Htl5, HK5, HF5, HW5, HSp5, HB5⟩
              · have HR5 : Hid (fnF ed G (st.take m) t oo = RR) := hide_ (by
                  have h1 := Hst.out
                  rw [Hd2.out, if_pos rfl] at h1
                  exact h1.symm)
                clear Hst
                go_wp2_with fail
                go_roundg ((st.take m).length + tot (ed1 ed) t n)
                case measure => exact HM5.out
                case rel => exact ⟨st.take m, t, oo, vf, _, rfl, rfl, hide_ rfl, hide_ (by have h1 := HM5.out; have h2 := HGb.out; omega), hide_ (by have h1 := Hol.out; have h2 := HM5.out; omega), HR5, Ha3, Htl, HKz, HFz, Hcut, hide_ (fun q e => HSz.out q e), HBz⟩
    · have hlt' : ¬ ((j : Int) < (n : Int)) := by omega
      have HX : Hid (FnTo w R (.returned vo) wq) := hide_ (by
        have h1 := HRj.out
        rw [show n - j = 0 by omega, fnO] at h1
        rw [← h1]
        exact ⟨vo, rfl, HOj.out, HBj.out⟩)
      go_wp2_with fail
      go_ret
      exact HX.out
end Go.Proofs.YtiojpohmgjdgfaaGreat
