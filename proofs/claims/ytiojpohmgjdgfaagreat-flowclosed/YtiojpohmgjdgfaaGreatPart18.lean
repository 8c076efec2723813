import Derived.Test.YtiojpohmgjdgfaaGreatPart17

/- sound: handsTheSame. -/
namespace Go.Proofs.YtiojpohmgjdgfaaGreat
open Go.RowKit
set_option linter.unusedVariables false
set_option linter.unusedSimpArgs false

/-- The last operation yields. -/
theorem wpAnyF_lastY {P : Program} {ops : Array Oper} {Q : Exit → Act → World → Prop} {md : Region.Mode} {S : World → Prop} {f fuel : Nat} {listed : Array Bool} {a : Act} {w : World} {o : Oper} {v : Value} (hr : Region.ready md ops listed = [f]) (ho : ops[f]? = some o) (hy : YieldsIf P ops S o v a) (hS : S w) (h : wpAnyF P md ops Q S f fuel (listed.setIfInBounds f true) (a.put o.dst v) w) : wpAnyF P md ops Q S f (fuel + 1) listed a w :=
  ⟨fun h0 => (by rw [h0] at hr; cases hr), fun i hi => by
    rw [hr, List.mem_singleton] at hi
    subst hi
    exact hy.wpOp ho hS ⟨fun h => absurd rfl h, h⟩⟩
/-- Code in whose form a look may trust. -/
structure CdOk (enc : Bool) (C : List In) : Prop where
  nc : C.length ≤ 1048576
  ok : ∀ k, k < C.length → XOk enc (inA C k)
  arm : ∀ k, k < C.length → (inA C k).op = 8 ∨ (inA C k).op = 41 → 1 ≤ (inA C k).a ∧ (inA C k).a ≤ 64 ∧ (k : Int) + 1 + (inA C k).a ≤ C.length
/-- What a look reads. -/
structure LkR (w : World) (b bc oc cc : Nat) (enc : Bool) (C : List In) : Prop where
  c0 : w.cell? ⟨b, 0, none⟩ = some (mcV enc)
  c1 : w.cell? ⟨b, 1, none⟩ = some (.slice (some ⟨bc, oc, none⟩) C.length cc)
  lt : b < w.heap.size
  code : IRow w (some ⟨bc, oc, none⟩) C
theorem LkR.later {w w' : World} {b bc oc cc : Nat} {enc : Bool} {C : List In} (h : LkR w b bc oc cc enc C) (hB : Below w.heap.size w w') : LkR w' b bc oc cc enc C :=
  ⟨(hB.cell (p := ⟨b, 0, none⟩) h.lt).trans h.c0, (hB.cell (p := ⟨b, 1, none⟩) h.lt).trans h.c1, Nat.lt_of_lt_of_le h.lt hB.size, h.code.later hB⟩
theorem sameH_true {enc : Bool} {C : List In} {k n : Nat} {s t : St} (hn : (waysP C k).length = n) (h : ∀ i, i < n → stEq (mHd enc s (inA C k) (i : Int)) (mHd enc t (inA C k) (i : Int)) = true) : sameH enc C k s t = true := by
  unfold sameH
  rw [hn, List.all_eq_true]
  intro i hi
  exact h i (by simpa using hi)
theorem sameH_false {enc : Bool} {C : List In} {k n j : Nat} {s t : St} (hn : (waysP C k).length = n) (hj : j < n) (h : stEq (mHd enc s (inA C k) (j : Int)) (mHd enc t (inA C k) (j : Int)) = false) : sameH enc C k s t = false := by
  unfold sameH
  rw [hn, List.all_eq_false]
  exact ⟨j, by simpa using hj, by simp [h]⟩
set_option maxRecDepth 100000 in
set_option maxHeartbeats 8000000 in
theorem sameH_any (b bc oc cc : Nat) (enc : Bool) (C : List In) (k : Nat) (s t : St) (w : World) (hk : k < C.length) (hcc : C.length ≤ cc) (hcl : cc ≤ 9223372036854775807) (hC : Hid (CdOk enc C)) (hs : Hid (SOk s)) (ht : Hid (SOk t)) (h : Hid (LkR w b bc oc cc enc C)) :
    Calls Tryz.prog 151 #[.pointer (some ⟨b, 0, none⟩), .int .i64 (k : Int), stv s, stv t] w fun e w' => e = .returned (.bool (sameH enc C k s t)) ∧ Below w.heap.size w w' := by
  obtain ⟨x, hx⟩ : ∃ x, C[k]? = some x := ⟨_, List.getElem?_eq_getElem hk⟩
  have hxA : inA C k = x := inA_at hx
  have HxA := hide_ hxA
  have Hx : Hid (XOk enc x) := hide_ (by have := hC.out.ok k hk; rw [hxA] at this; exact this)
  have HA : Hid (∀ (j : Nat) (w : World), Calls Tryz.prog (fHd enc) #[.agg #[], stv s, inv x, .int .i64 (j : Int)] w fun e w' => e = .returned (stv (mHd enc s x (j : Int))) ∧ Below w.heap.size w w') := hide_ (fun j w => mhands_any enc s x (j : Int) w Hx.out hs.out)
  have HO : Hid (∀ (j : Nat) (w : World), Calls Tryz.prog (fHd enc) #[.agg #[], stv t, inv x, .int .i64 (j : Int)] w fun e w' => e = .returned (stv (mHd enc t x (j : Int))) ∧ Below w.heap.size w w') := hide_ (fun j w => mhands_any enc t x (j : Int) w Hx.out ht.out)
  obtain ⟨w1, hw1⟩ : ∃ wx, (w.alloc (.cells #[.int .i64 s.pl, .int .u64 (s.ki : Int), .int .i64 s.tb, .int .i64 s.pa, .int .i64 s.fr, .int .i64 s.le, .bool s.su] 126)).alloc (.cells #[.int .i64 t.pl, .int .u64 (t.ki : Int), .int .i64 t.tb, .int .i64 t.pa, .int .i64 t.fr, .int .i64 t.le, .bool t.su] 126) = wx := ⟨_, rfl⟩
  have hB1 : Below w.heap.size w w1 := by rw [← hw1]; exact below2 _ _ _
  have hk12 := blk2 w #[.int .i64 s.pl, .int .u64 (s.ki : Int), .int .i64 s.tb, .int .i64 s.pa, .int .i64 s.fr, .int .i64 s.le, .bool s.su] #[.int .i64 t.pl, .int .u64 (t.ki : Int), .int .i64 t.tb, .int .i64 t.pa, .int .i64 t.fr, .int .i64 t.le, .bool t.su] 126 126
  have hz1 : w1.heap.size = w.heap.size + 1 + 1 := by rw [← hw1]; simp
  rw [hw1] at hk12
  obtain ⟨w2, hw2⟩ : ∃ wx, w1.alloc (.cells #[.int .i64 x.op, .int .i64 x.a, .int .i64 x.b, .int .i64 x.c] 43) = wx := ⟨_, rfl⟩
  have hB2 : Below w1.heap.size w1 w2 := by rw [← hw2]; exact below1 _ _
  have KX : Blk w2 w1.heap.size 43 (inc x) := by rw [← hw2]; exact Blk.newA w1 _ _
  have K1 : Blk w2 w.heap.size 126 (stc s) := Blk.later (t := 126) hk12.1 hB2
  have K2 : Blk w2 (w.heap.size + 1) 126 (stc t) := Blk.later (t := 126) hk12.2 hB2
  have R1 := h.out.later hB1
  have R2 := R1.later hB2
  obtain ⟨i0, i1, i2, i3⟩ := R1.code.at hx
  have l0 := R1.c0
  have l1 := R1.c1
  have m0 := R2.c0
  have m1 := R2.c1
  have HR2 := hide_ R2
  have HB2 := hide_ (below_to hB1 hB2)
  have HW := hide_ (ways_any bc oc cc C k w2 hk hcc hcl hC.out.nc (hide_ R2.code) (hC.out.arm k hk))
  have HS : Hid (∀ w3, Below w2.heap.size w2 w3 → (fun w' => w'.cell? ⟨b, 0, none⟩ = some (.iface (mTy enc) (.agg #[])) ∧ w'.cell? ⟨w.heap.size, 0, none⟩ = some (.int .i64 s.pl) ∧ w'.cell? ⟨w.heap.size, 1, none⟩ = some (.int .u64 (s.ki : Int)) ∧ w'.cell? ⟨w.heap.size, 2, none⟩ = some (.int .i64 s.tb) ∧ w'.cell? ⟨w.heap.size, 3, none⟩ = some (.int .i64 s.pa) ∧ w'.cell? ⟨w.heap.size, 4, none⟩ = some (.int .i64 s.fr) ∧ w'.cell? ⟨w.heap.size, 5, none⟩ = some (.int .i64 s.le) ∧ w'.cell? ⟨w.heap.size, 6, none⟩ = some (.bool s.su) ∧ w'.cell? ⟨w.heap.size + 1, 0, none⟩ = some (.int .i64 t.pl) ∧ w'.cell? ⟨w.heap.size + 1, 1, none⟩ = some (.int .u64 (t.ki : Int)) ∧ w'.cell? ⟨w.heap.size + 1, 2, none⟩ = some (.int .i64 t.tb) ∧ w'.cell? ⟨w.heap.size + 1, 3, none⟩ = some (.int .i64 t.pa) ∧ w'.cell? ⟨w.heap.size + 1, 4, none⟩ = some (.int .i64 t.fr) ∧ w'.cell? ⟨w.heap.size + 1, 5, none⟩ = some (.int .i64 t.le) ∧ w'.cell? ⟨w.heap.size + 1, 6, none⟩ = some (.bool t.su) ∧ w'.cell? ⟨w1.heap.size, 0, none⟩ = some (.int .i64 x.op) ∧ w'.cell? ⟨w1.heap.size, 1, none⟩ = some (.int .i64 x.a) ∧ w'.cell? ⟨w1.heap.size, 2, none⟩ = some (.int .i64 x.b) ∧ w'.cell? ⟨w1.heap.size, 3, none⟩ = some (.int .i64 x.c)) w3) := hide_ (fun w3 hB => by
    have a1 := (K1.later hB).cs
    have a2 := (K2.later hB).cs
    have a3 := (KX.later hB).ci
    have a4 := (R2.later hB).c0
    exact ⟨a4, a1.1, a1.2.1, a1.2.2.1, a1.2.2.2.1, a1.2.2.2.2.1, a1.2.2.2.2.2.1, a1.2.2.2.2.2.2, a2.1, a2.2.1, a2.2.2.1, a2.2.2.2.1, a2.2.2.2.2.1, a2.2.2.2.2.2.1, a2.2.2.2.2.2.2, a3.1, a3.2.1, a3.2.2.1, a3.2.2.2⟩)
  obtain ⟨n, hn⟩ : ∃ n, (waysP C k).length = n := ⟨_, rfl⟩
  have Hn := hide_ hn
  have hkc : (k : Int) < (C.length : Int) := by omega
  unfold mcV at l0 m0
  clear hB1 hk12 hz1 hB2 KX K1 K2 R1 R2 hx hxA h hn
  unfold stv
  go_enter Tryz.func151, Tryz.ntmps151
  go_upto_region 1 with fail
  try rw [hw1]
  clear hw1
  go_upto_region 2 with fail
  try rw [hw2]
  clear hw2 l0 l1 i0 i1 i2 i3
  go_wp2_with fail
  refine HW.out.mono ?_
  rintro e w3 ⟨v, rfl, HOw, HB3⟩
  obtain ⟨av, cv, hv, -, -, hvc⟩ := HOw.out.row
  rw [Hn.out] at hv
  have Hvc := hide_ hvc
  subst hv
  clear hvc
  go_wp2_with fail
  go_loopw [25] (fun x25 wr => ∃ (j : Nat), j ≤ n ∧ x25 = .int .i64 (j : Int) ∧ Hid (∀ i, i < j → stEq (mHd enc s x (i : Int)) (mHd enc t x (i : Int)) = true) ∧ Hid (Below w2.heap.size w2 wr)) (fun x25 _ => n - (intOf x25).toNat)
  case atStart => exact ⟨0, by omega, rfl, hide_ (fun i hi => by omega), HB3⟩
  case round =>
    clear HW HOw HB3 Hvc m0 m1
    obtain ⟨j, hj, rfl, HE, HBq⟩ := hrel
    generalize wr = wq at *
    by_cases hlt : j < n
    · have hlt' : (j : Int) < (n : Int) := by omega
      obtain ⟨d, hd⟩ : ∃ d, stEq (mHd enc s x (j : Int)) (mHd enc t x (j : Int)) = d := ⟨_, rfl⟩
      have Hd := hide_ hd
      have HA := hide_ (HA.out j)
      have HO := hide_ (HO.out j)
      have hj9 : (j : Int) ≤ 9223372036854775806 := by
        have := Hn.out
        have h2 : (waysP C k).length ≤ 1048576 := by
          unfold waysP
          have := hC.out.arm k hk
          repeat' split
          all_goals simp
          all_goals omega
        omega
      clear hd
      go_upto_region 5 with fail
      go_cut [44] from 28 to 44 (fun x44 wc => ∃ (w6 : World), w6 = wc ∧ x44 = .bool (!d) ∧ Hid (Below w2.heap.size w2 w6))
      case first =>
        refine wp_region_last 16 (fun w' => w'.cell? ⟨b, 0, none⟩ = some (.iface (mTy enc) (.agg #[])) ∧ w'.cell? ⟨w.heap.size, 0, none⟩ = some (.int .i64 s.pl) ∧ w'.cell? ⟨w.heap.size, 1, none⟩ = some (.int .u64 (s.ki : Int)) ∧ w'.cell? ⟨w.heap.size, 2, none⟩ = some (.int .i64 s.tb) ∧ w'.cell? ⟨w.heap.size, 3, none⟩ = some (.int .i64 s.pa) ∧ w'.cell? ⟨w.heap.size, 4, none⟩ = some (.int .i64 s.fr) ∧ w'.cell? ⟨w.heap.size, 5, none⟩ = some (.int .i64 s.le) ∧ w'.cell? ⟨w.heap.size, 6, none⟩ = some (.bool s.su) ∧ w'.cell? ⟨w.heap.size + 1, 0, none⟩ = some (.int .i64 t.pl) ∧ w'.cell? ⟨w.heap.size + 1, 1, none⟩ = some (.int .u64 (t.ki : Int)) ∧ w'.cell? ⟨w.heap.size + 1, 2, none⟩ = some (.int .i64 t.tb) ∧ w'.cell? ⟨w.heap.size + 1, 3, none⟩ = some (.int .i64 t.pa) ∧ w'.cell? ⟨w.heap.size + 1, 4, none⟩ = some (.int .i64 t.fr) ∧ w'.cell? ⟨w.heap.size + 1, 5, none⟩ = some (.int .i64 t.le) ∧ w'.cell? ⟨w.heap.size + 1, 6, none⟩ = some (.bool t.su) ∧ w'.cell? ⟨w1.heap.size, 0, none⟩ = some (.int .i64 x.op) ∧ w'.cell? ⟨w1.heap.size, 1, none⟩ = some (.int .i64 x.a) ∧ w'.cell? ⟨w1.heap.size, 2, none⟩ = some (.int .i64 x.b) ∧ w'.cell? ⟨w1.heap.size, 3, none⟩ = some (.int .i64 x.c)) (by kernel_rfl) (HS.out _ HBq.out.drew) (fun hHeld => ?_)
        refine wpAnyF_take [16, 7, 3, 2, 1] (by kernel_rfl) (i := 0) (v := ?vp1) rfl (by kernel_rfl) (by kernel_rfl) (by kernel_rfl) (fun _ _ _ h => h) (Or.inl ⟨by kernel_rfl, ?hyp1⟩) hHeld ?restp1
        case hyp1 => intro w' hSw; (try dsimp only at hSw); go_simp; try with_reducible rfl
        simp only [Act.put]
        try dsimp only
        refine wpAnyF_take [16, 7, 3, 2] (by kernel_rfl) (i := 1) (v := ?vp2) rfl (by kernel_rfl) (by kernel_rfl) (by kernel_rfl) (fun _ _ _ h => h) (Or.inl ⟨by kernel_rfl, ?hyp2⟩) hHeld ?restp2
        case hyp2 => intro w' hSw; (try dsimp only at hSw); go_simp; try with_reducible rfl
        simp only [Act.put]
        try dsimp only
        refine wpAnyF_take [16, 7, 3] (by kernel_rfl) (i := 2) (v := ?vp3) rfl (by kernel_rfl) (by kernel_rfl) (by kernel_rfl) (fun _ _ _ h => h) (Or.inl ⟨by kernel_rfl, ?hyp3⟩) hHeld ?restp3
        case hyp3 => intro w' hSw; (try dsimp only at hSw); go_simp; try with_reducible rfl
        simp only [Act.put]
        try dsimp only
        refine wpAnyF_take [16, 7] (by kernel_rfl) (i := 3) (v := ?vp4) rfl (by kernel_rfl) (by kernel_rfl) (by kernel_rfl) (fun _ _ _ h => h) (Or.inl ⟨by kernel_rfl, ?hyp4⟩) hHeld ?restp4
        case hyp4 => intro w' hSw; (try dsimp only at hSw); go_simp; try with_reducible rfl
        simp only [Act.put]
        try dsimp only
        refine wpAnyF_take [16, 7] (by kernel_rfl) (i := 4) (v := ?vp5) rfl (by kernel_rfl) (by kernel_rfl) (by kernel_rfl) (fun _ _ _ h => h) (Or.inl ⟨by kernel_rfl, ?hyp5⟩) hHeld ?restp5
        case hyp5 => intro w' hSw; (try dsimp only at hSw); go_simp; try with_reducible rfl
        simp only [Act.put]
        try dsimp only
        refine wpAnyF_take [16, 7] (by kernel_rfl) (i := 5) (v := ?vp6) rfl (by kernel_rfl) (by kernel_rfl) (by kernel_rfl) (fun _ _ _ h => h) (Or.inl ⟨by kernel_rfl, ?hyp6⟩) hHeld ?restp6
        case hyp6 => intro w' hSw; (try dsimp only at hSw); go_simp; try with_reducible rfl
        simp only [Act.put]
        try dsimp only
        refine wpAnyF_take [16, 7] (by kernel_rfl) (i := 6) (v := ?vp7) rfl (by kernel_rfl) (by kernel_rfl) (by kernel_rfl) (fun _ _ _ h => h) (Or.inl ⟨by kernel_rfl, ?hyp7⟩) hHeld ?restp7
        case hyp7 => intro w' hSw; (try dsimp only at hSw); go_simp; try with_reducible rfl
        simp only [Act.put]
        try dsimp only
        refine wpAnyF_take [16, 15, 11, 10, 9] (by kernel_rfl) (i := 8) (v := ?vp8) rfl (by kernel_rfl) (by kernel_rfl) (by kernel_rfl) (fun _ _ _ h => h) (Or.inl ⟨by kernel_rfl, ?hyp8⟩) hHeld ?restp8
        case hyp8 => intro w' hSw; (try dsimp only at hSw); go_simp; try with_reducible rfl
        simp only [Act.put]
        try dsimp only
        refine wpAnyF_take [16, 15, 11, 10] (by kernel_rfl) (i := 9) (v := ?vp9) rfl (by kernel_rfl) (by kernel_rfl) (by kernel_rfl) (fun _ _ _ h => h) (Or.inl ⟨by kernel_rfl, ?hyp9⟩) hHeld ?restp9
        case hyp9 => intro w' hSw; (try dsimp only at hSw); go_simp; try with_reducible rfl
        simp only [Act.put]
        try dsimp only
        refine wpAnyF_take [16, 15, 11] (by kernel_rfl) (i := 10) (v := ?vp10) rfl (by kernel_rfl) (by kernel_rfl) (by kernel_rfl) (fun _ _ _ h => h) (Or.inl ⟨by kernel_rfl, ?hyp10⟩) hHeld ?restp10
        case hyp10 => intro w' hSw; (try dsimp only at hSw); go_simp; try with_reducible rfl
        simp only [Act.put]
        try dsimp only
        refine wpAnyF_take [16, 15] (by kernel_rfl) (i := 11) (v := ?vp11) rfl (by kernel_rfl) (by kernel_rfl) (by kernel_rfl) (fun _ _ _ h => h) (Or.inl ⟨by kernel_rfl, ?hyp11⟩) hHeld ?restp11
        case hyp11 => intro w' hSw; (try dsimp only at hSw); go_simp; try with_reducible rfl
        simp only [Act.put]
        try dsimp only
        refine wpAnyF_take [16, 15] (by kernel_rfl) (i := 12) (v := ?vp12) rfl (by kernel_rfl) (by kernel_rfl) (by kernel_rfl) (fun _ _ _ h => h) (Or.inl ⟨by kernel_rfl, ?hyp12⟩) hHeld ?restp12
        case hyp12 => intro w' hSw; (try dsimp only at hSw); go_simp; try with_reducible rfl
        simp only [Act.put]
        try dsimp only
        refine wpAnyF_take [16, 15] (by kernel_rfl) (i := 13) (v := ?vp13) rfl (by kernel_rfl) (by kernel_rfl) (by kernel_rfl) (fun _ _ _ h => h) (Or.inl ⟨by kernel_rfl, ?hyp13⟩) hHeld ?restp13
        case hyp13 => intro w' hSw; (try dsimp only at hSw); go_simp; try with_reducible rfl
        simp only [Act.put]
        try dsimp only
        refine wpAnyF_take [16, 15] (by kernel_rfl) (i := 14) (v := ?vp14) rfl (by kernel_rfl) (by kernel_rfl) (by kernel_rfl) (fun _ _ _ h => h) (Or.inl ⟨by kernel_rfl, ?hyp14⟩) hHeld ?restp14
        case hyp14 => intro w' hSw; (try dsimp only at hSw); go_simp; try with_reducible rfl
        simp only [Act.put]
        try dsimp only
        refine wpAnyF_ready (rs := [7]) (by kernel_rfl) (by simp) ?_
        refine AllReadyF.cons rfl (fun K hK => ?_) AllReadyF.nil
        have mH := mtHd enc 343 wq.drew
        have eH := enHd enc
        go_simp
        refine (HA.out wq.drew).mono ?_
        rintro e w5 ⟨rfl, hB5⟩
        have HB5 := hide_ (below_to HBq.out.drew hB5)
        have hS5 := HS.out w5 HB5.out
        clear hB5 mH eH
        go_simp
        refine hK.out _ _ (hS5) (fun hHeld => ?_)
        clear hK K
        refine wpAnyF_ready (rs := [15]) (by kernel_rfl) (by simp) ?_
        refine AllReadyF.cons rfl (fun K hK => ?_) AllReadyF.nil
        have mH := mtHd enc 343 w5
        have eH := enHd enc
        go_simp
        refine (HO.out w5).mono ?_
        rintro e w6 ⟨rfl, hB6⟩
        have HB6 := hide_ (below_to HB5.out hB6)
        have hS6 := HS.out w6 HB6.out
        clear hB6 mH eH
        go_simp
        refine hK.out _ _ (hS6) (fun hHeld => ?_)
        clear hK K
        refine wpAnyF_lastY (v := ?vp15) (by kernel_rfl) rfl (Or.inl ⟨by kernel_rfl, ?hyp15⟩) hHeld ?restp15
        case hyp15 => intro w' hSw; (refine neq_ex (mHd enc s x (j : Int)) (mHd enc t x (j : Int)) _ _ (.tmp 35) (.tmp 43) w' ?_ ?_ ?_ <;> first | rfl | kernel_rfl)
        dsimp [Act.put]
        try simp only [List.setIfInBounds_toArray, List.set_cons_succ, List.set_cons_zero]
        refine wpAnyF_done (by kernel_rfl) ?_ _
        go_wp2_with fail
        go_meet
        case rel => exact ⟨_, rfl, by rw [Hd.out], HB6⟩
      case rest =>
        obtain ⟨w6, rfl, rfl, HB6⟩ := hcut
        cases d
        · have HT : Hid (sameH enc C k s t = false) := hide_ (sameH_false Hn.out hlt (by rw [HxA.out]; exact Hd.out))
          go_wp2_with fail
          go_ret
          exact ⟨by rw [HT.out]; rfl, below_to HB2.out HB6.out⟩
        · have HE2 : Hid (∀ i, i < j + 1 → stEq (mHd enc s x (i : Int)) (mHd enc t x (i : Int)) = true) := hide_ (fun i hi => by
            rcases Nat.lt_or_ge i j with h | h
            · exact HE.out i h
            · rw [show i = j by omega]; exact Hd.out)
          go_wp2_with fail
          go_roundw
          case rel => exact ⟨j + 1, by omega, by go_num, HE2, HB6⟩
          case measure => simp [intOf]; omega
    · have hlt' : ¬ ((j : Int) < (n : Int)) := by omega
      have HT : Hid (sameH enc C k s t = true) := hide_ (sameH_true Hn.out (fun i hi => by rw [HxA.out]; exact HE.out i (by omega)))
      go_wp2_with fail
      go_ret
      exact ⟨by rw [HT.out]; rfl, below_to HB2.out HBq.out⟩
end Go.Proofs.YtiojpohmgjdgfaaGreat

/- sound: the memory of the first look. -/
namespace Go.Proofs.YtiojpohmgjdgfaaGreat
open Go.RowKit
set_option linter.unusedVariables false
set_option linter.unusedSimpArgs false

theorem below_to2 {a b c : World} {S : Nat → Prop} (h : Below a.heap.size a b) (hu : Upd S b c) (hs : ∀ q, S q → a.heap.size ≤ q) : Below a.heap.size a c := h.trans (hu.below a.heap.size h.size hs)
/-- A state is written where number i of a list of states lies. -/
def putAt (w : World) (g o : Nat) (s : St) : World := ((((((w.setCell ⟨g, o, none⟩ (.int .i64 s.pl)).setCell ⟨g, o + 1, none⟩ (.int .u64 (s.ki : Int))).setCell ⟨g, o + 2, none⟩ (.int .i64 s.tb)).setCell ⟨g, o + 3, none⟩ (.int .i64 s.pa)).setCell ⟨g, o + 4, none⟩ (.int .i64 s.fr)).setCell ⟨g, o + 5, none⟩ (.int .i64 s.le)).setCell ⟨g, o + 6, none⟩ (.bool s.su)
theorem set7 (L : List Value) (o : Nat) (s : St) (m : Nat) (h : o + 7 ≤ L.length) : (((((((L.set o (.int .i64 s.pl)).set (o + 1) (.int .u64 (s.ki : Int))).set (o + 2) (.int .i64 s.tb)).set (o + 3) (.int .i64 s.pa)).set (o + 4) (.int .i64 s.fr)).set (o + 5) (.int .i64 s.le)).set (o + 6) (.bool s.su))[m]? = if o ≤ m ∧ m < o + 7 then (stc s)[m - o]? else L[m]? := by
  by_cases h1 : o ≤ m ∧ m < o + 7
  · rw [if_pos h1]
    obtain ⟨j, rfl⟩ : ∃ j, m = o + j := ⟨m - o, by omega⟩
    have hj : j < 7 := by omega
    rw [Nat.add_sub_cancel_left]
    have hj7 : j = 0 ∨ j = 1 ∨ j = 2 ∨ j = 3 ∨ j = 4 ∨ j = 5 ∨ j = 6 := by omega
    rcases hj7 with rfl | rfl | rfl | rfl | rfl | rfl | rfl
    all_goals
      simp only [List.getElem?_set, List.length_set, stc]
      repeat (first | rw [if_pos trivial] | rw [if_pos (by omega)] | rw [if_neg (by omega)])
      try rfl
  · rw [if_neg h1]
    simp only [List.getElem?_set, List.length_set]
    repeat rw [if_neg (by omega)]
theorem Blk.putAt {w : World} {g k : Nat} {S : List St} (h : Blk w g 126 (cellsG stc S)) (hk : k < S.length) (s : St) : Blk (Go.Proofs.YtiojpohmgjdgfaaGreat.putAt w g (k * 7) s) g 126 (cellsG stc (S.set k s)) := by
  have h1 := ((((((h.set (k * 7) (.int .i64 s.pl)).set (k * 7 + 1) (.int .u64 (s.ki : Int))).set (k * 7 + 2) (.int .i64 s.tb)).set (k * 7 + 3) (.int .i64 s.pa)).set (k * 7 + 4) (.int .i64 s.fr)).set (k * 7 + 5) (.int .i64 s.le)).set (k * 7 + 6) (.bool s.su)
  have hl := cellsG_len (f := stc) stc_len S
  have e : ((((((((cellsG stc S).set (k * 7) (.int .i64 s.pl)).set (k * 7 + 1) (.int .u64 (s.ki : Int))).set (k * 7 + 2) (.int .i64 s.tb)).set (k * 7 + 3) (.int .i64 s.pa)).set (k * 7 + 4) (.int .i64 s.fr)).set (k * 7 + 5) (.int .i64 s.le)).set (k * 7 + 6) (.bool s.su)) = cellsG stc (S.set k s) := by
    apply List.ext_getElem?
    intro m
    rw [set7 _ _ _ _ (by rw [hl]; omega), cellsG_set stc_len S k s hk m]
  rw [e] at h1
  exact h1
theorem putAt_upd {S : Nat → Prop} {a w : World} (h : Upd S a w) (g o : Nat) (s : St) (hg : S g ∨ a.heap.size ≤ g) : Upd S a (putAt w g o s) := by
  unfold putAt
  exact ((((((h.set _ _ hg).set _ _ hg).set _ _ hg).set _ _ hg).set _ _ hg).set _ _ hg).set _ _ hg
/-- The first look in memory. -/
structure LkS (w0 w : World) (b gs bc oc cc : Nat) (enc : Bool) (C : List In) (r : Int) (S : List St) (P : List Int) (vp : Value) : Prop where
  old : Below w0.heap.size w0 w
  hb : w0.heap.size ≤ b
  hgs : w0.heap.size ≤ gs
  code : IRow w0 (some ⟨bc, oc, none⟩) C
  blk : Blk w b 108 [mcV enc, .slice (some ⟨bc, oc, none⟩) C.length cc, .int .i64 r, .slice (some ⟨gs, 0, none⟩) C.length C.length, vp]
  st : Blk w gs 126 (cellsG stc S)
  len : S.length = C.length
  pend : IOwn w w0.heap.size vp P
section
variable {w0 w w' : World} {b gs bc oc cc : Nat} {enc : Bool} {C : List In} {r : Int} {S : List St} {P : List Int} {vp : Value}
theorem LkS.rd (h : LkS w0 w b gs bc oc cc enc C r S P vp) : LkR w b bc oc cc enc C :=
  ⟨by rw [h.blk.cell 0]; rfl, by rw [h.blk.cell 1]; rfl, h.blk.lt, h.code.later h.old⟩
theorem LkS.later (h : LkS w0 w b gs bc oc cc enc C r S P vp) (hB : Below w.heap.size w w') : LkS w0 w' b gs bc oc cc enc C r S P vp :=
  ⟨below_to h.old hB, h.hb, h.hgs, h.code, h.blk.later hB, h.st.later hB, h.len, h.pend.later hB⟩
theorem IOwn.neB {w : World} {B : Nat} {v : Value} {l : List Int} (h : IOwn w B v l) {k : Nat} {t : TypeId} {ys : List Value} (hb : Blk w k t ys) (ht : t ≠ 3) : ¬ v.ownBlock = some k := fun e => by
  obtain ⟨zs, hz⟩ := ownS_type h e
  exact ht (blk_type hb hz)
theorem LkS.bg (h : LkS w0 w b gs bc oc cc enc C r S P vp) : b ≠ gs := fun e => by
  have h1 := h.blk
  rw [e] at h1
  exact absurd (blk_type h1 h.st) (by decide)
theorem LkS.nm (h : LkS w0 w b gs bc oc cc enc C r S P vp) : NmS w b 4 w0.heap.size vp P :=
  ⟨by rw [h.blk.cell 4]; rfl, h.blk.frozen 4, h.pend, fun k e hk => h.pend.neB h.blk (by decide) (hk ▸ e), h.blk.lt⟩
theorem LkS.at (h : LkS w0 w b gs bc oc cc enc C r S P vp) {k : Nat} {s : St} (hs : S[k]? = some s) :
    w.cell? ⟨gs, k * 7, none⟩ = some (.int .i64 s.pl) ∧ w.cell? ⟨gs, k * 7 + 1, none⟩ = some (.int .u64 (s.ki : Int)) ∧ w.cell? ⟨gs, k * 7 + 2, none⟩ = some (.int .i64 s.tb) ∧ w.cell? ⟨gs, k * 7 + 3, none⟩ = some (.int .i64 s.pa) ∧ w.cell? ⟨gs, k * 7 + 4, none⟩ = some (.int .i64 s.fr) ∧ w.cell? ⟨gs, k * 7 + 5, none⟩ = some (.int .i64 s.le) ∧ w.cell? ⟨gs, k * 7 + 6, none⟩ = some (.bool s.su) := by
  have h7 := fun j hj => (h.st.cell (k * 7 + j)).trans (cellsG_at (f := stc) (c := 7) stc_len S k j s hs hj)
  exact ⟨h7 0 (by decide), h7 1 (by decide), h7 2 (by decide), h7 3 (by decide), h7 4 (by decide), h7 5 (by decide), h7 6 (by decide)⟩
theorem LkS.cells (h : LkS w0 w b gs bc oc cc enc C r S P vp) : w.cell? ⟨b, 0, none⟩ = some (.iface (mTy enc) (.agg #[])) ∧ w.cell? ⟨b, 1, none⟩ = some (.slice (some ⟨bc, oc, none⟩) C.length cc) ∧ w.cell? ⟨b, 2, none⟩ = some (.int .i64 r) ∧ w.cell? ⟨b, 3, none⟩ = some (.slice (some ⟨gs, 0, none⟩) C.length C.length) ∧ w.cell? ⟨b, 4, none⟩ = some vp :=
  ⟨by rw [h.blk.cell 0]; rfl, by rw [h.blk.cell 1]; rfl, by rw [h.blk.cell 2]; rfl, by rw [h.blk.cell 3]; rfl, by rw [h.blk.cell 4]; rfl⟩
theorem LkS.put (h : LkS w0 w b gs bc oc cc enc C r S P vp) {k : Nat} (hk : k < C.length) (s : St) : LkS w0 (putAt w gs (k * 7) s) b gs bc oc cc enc C r (S.set k s) P vp ∧ Upd (fun q => q = gs) w (putAt w gs (k * 7) s) := by
  have hu : Upd (fun q => q = gs) w (putAt w gs (k * 7) s) := putAt_upd (Upd.refl _ w) gs _ s (.inl rfl)
  exact ⟨⟨below_to2 h.old hu (fun q e => by rw [e]; exact h.hgs), h.hb, h.hgs, h.code, h.blk.upd hu h.bg, h.st.putAt (by rw [h.len]; exact hk) s, by rw [List.length_set]; exact h.len, h.pend.upd hu (fun q e e2 => h.pend.neB h.st (by decide) (e2 ▸ e))⟩, hu⟩
end
end Go.Proofs.YtiojpohmgjdgfaaGreat

/- sound: handed. -/
namespace Go.Proofs.YtiojpohmgjdgfaaGreat
open Go.RowKit
set_option linter.unusedVariables false
set_option linter.unusedSimpArgs false

/-- What a call may change of a look: its states, its box, its heap. -/
structure Fm (w w' : World) (gs b : Nat) (vp vp' : Value) : Prop where
  upd : Upd (fun q => q = gs ∨ q = b ∨ vp.ownBlock = some q) w w'
  own : ∀ q, vp'.ownBlock = some q → vp.ownBlock = some q ∨ w.heap.size ≤ q
theorem Fm.of_below {w w' : World} {gs b : Nat} {vp : Value} (h : Below w.heap.size w w') : Fm w w' gs b vp vp := ⟨Upd.of_below h, fun q e => .inl e⟩
theorem Fm.trans {w w1 w2 : World} {gs b : Nat} {vp vp1 vp2 : Value} (h : Fm w w1 gs b vp vp1) (k : Fm w1 w2 gs b vp1 vp2) : Fm w w2 gs b vp vp2 := by
  refine ⟨h.upd.trans k.upd (fun q hq e => ?_), fun q e => ?_⟩
  · rcases e with e | e | e
    · exact .inl e
    · exact .inr (.inl e)
    · rcases h.own q e with e | e
      · exact .inr (.inr e)
      · omega
  · rcases k.own q e with e | e
    · exact h.own q e
    · have := h.upd.size
      exact .inr (by omega)
section
variable {w0 w w' : World} {b gs bc oc cc : Nat} {enc : Bool} {C : List In} {r : Int} {S : List St} {P : List Int} {vp : Value}
theorem LkS.pushed (h : LkS w0 w b gs bc oc cc enc C r S P vp) {x : Int} {e : Ending} (hu : HuTo w b 4 w0.heap.size vp P x e w') : e = .returned (.tuple #[]) ∧ ∃ vp', LkS w0 w' b gs bc oc cc enc C r S (pushH P x) vp' ∧ Fm w w' gs b vp vp' := by
  obtain ⟨g, c, rfl, -, hg, hn, hU, hK⟩ := hu
  refine ⟨rfl, _, ⟨below_to2 h.old hU (fun q e => ?_), h.hb, h.hgs, h.code, ?_, h.st.upd hU (fun e => ?_), h.len, hn.own⟩, ⟨hU.mono (fun q _ e => ?_), fun q e => ?_⟩⟩
  · rcases e with e | e
    · exact (h.pend.lies e).1
    · rw [e]; exact h.hb
  · have := hK _ _ h.blk
    simpa using this
  · rcases e with e | e
    · exact h.pend.neB h.st (by decide) e
    · exact h.bg e.symm
  · rcases e with e | e
    · exact .inr (.inr e)
    · exact .inr (.inl e)
  · injection e with e
    subst e
    exact hg
theorem LkS.popped {g n c : Nat} {vp' : Value} {P' : List Int} (h : LkS w0 w b gs bc oc cc enc C r S P (.slice (some ⟨g, 0, none⟩) n c)) (hn : NmS w' b 4 w0.heap.size vp' P') (hU : Upd (fun k => k = g ∨ k = b) w w') (hK : Kps w w' b 4 vp') : LkS w0 w' b gs bc oc cc enc C r S P' vp' := by
  refine ⟨below_to2 h.old hU (fun q e => ?_), h.hb, h.hgs, h.code, ?_, h.st.upd hU (fun e => ?_), h.len, hn.own⟩
  · rcases e with e | e
    · rw [e]; exact (h.pend.lies rfl).1
    · rw [e]; exact h.hb
  · have := hK _ _ h.blk
    simpa using this
  · rcases e with e | e
    · exact h.pend.neB h.st (by decide) (by rw [e]; rfl)
    · exact h.bg e.symm
end
/-- What handed leaves. -/
def HdTo (w0 w : World) (vp : Value) (b gs bc oc cc : Nat) (enc : Bool) (C : List In) (r : Int) (S : List St) (P : List Int) (k : Nat) (s : St) (e : Ending) (w' : World) : Prop := ∃ vp', e = .returned (.bool (handP enc C r S P k s).1) ∧ LkS w0 w' b gs bc oc cc enc C r (handP enc C r S P k s).2.1 (handP enc C r S P k s).2.2 vp' ∧ Fm w w' gs b vp vp'
set_option maxRecDepth 100000 in
set_option maxHeartbeats 8000000 in
theorem handed_any (w0 : World) (b gs bc oc cc : Nat) (enc : Bool) (C : List In) (r : Int) (S : List St) (P : List Int) (vp : Value) (k : Nat) (s : St) (w : World) (hk : k < C.length) (hcc : C.length ≤ cc) (hcl : cc ≤ 9223372036854775807) (hC : Hid (CdOk enc C)) (hs : Hid (SOk s)) (hS : Hid (∀ j, j < C.length → SOk (stA S j))) (hP : P.length ≤ 3000000) (h : Hid (LkS w0 w b gs bc oc cc enc C r S P vp)) :
    Calls Tryz.prog 114 #[.pointer (some ⟨b, 0, none⟩), .int .i64 (k : Int), stv s] w fun e w' => HdTo w0 w vp b gs bc oc cc enc C r S P k s e w' := by
  obtain ⟨t, ht⟩ : ∃ t, S[k]? = some t := ⟨_, List.getElem?_eq_getElem (by rw [h.out.len]; exact hk)⟩
  have htA : stA S k = t := stA_at ht
  have HT : Hid (SOk t) := hide_ (by have := hS.out k hk; rw [htA] at this; exact this)
  have HtA := hide_ htA
  obtain ⟨x, hx⟩ : ∃ x, C[k]? = some x := ⟨_, List.getElem?_eq_getElem hk⟩
  have hxA : inA C k = x := inA_at hx
  have HxA := hide_ hxA
  have Hx : Hid (XOk enc x) := hide_ (by have := hC.out.ok k hk; rw [hxA] at this; exact this)
  obtain ⟨w1, hw1⟩ : ∃ wx, w.alloc (.cells #[.int .i64 s.pl, .int .u64 (s.ki : Int), .int .i64 s.tb, .int .i64 s.pa, .int .i64 s.fr, .int .i64 s.le, .bool s.su] 126) = wx := ⟨_, rfl⟩
  have hB1 : Below w.heap.size w w1 := by rw [← hw1]; exact below1 _ _
  have K1 : Blk w1 w.heap.size 126 (stc s) := by rw [← hw1]; exact Blk.newA w _ _
  obtain ⟨w2, hw2⟩ : ∃ wx, w1.alloc (.cells #[.int .i64 t.pl, .int .u64 (t.ki : Int), .int .i64 t.tb, .int .i64 t.pa, .int .i64 t.fr, .int .i64 t.le, .bool t.su] 126) = wx := ⟨_, rfl⟩
  have hB2 : Below w1.heap.size w1 w2 := by rw [← hw2]; exact below1 _ _
  have K2 : Blk w2 w1.heap.size 126 (stc t) := by rw [← hw2]; exact Blk.newA w1 _ _
  have K1' := K1.later hB2
  have L1 := h.out.later hB1
  have L2 := L1.later hB2
  obtain ⟨c0, c1, c2, c3, c4⟩ := L1.cells
  obtain ⟨t0, t1, t2, t3, t4, t5, t6⟩ := L1.at ht
  obtain ⟨d0, d1, d2, d3, d4, d5, d6⟩ := K1'.cs
  obtain ⟨e0, e1, e2, e3, e4, e5, e6⟩ := K2.cs
  have hkc : (k : Int) < (C.length : Int) := by omega
  have HL2 := hide_ L2
  have HB02 := hide_ (below_to hB1 hB2)
  have HK1 := hide_ K1'
  have HK2 := hide_ K2
  have hz : w0.heap.size ≤ w.heap.size := h.out.old.size
  have Hg1 : Hid (w.heap.size ≠ gs ∧ w1.heap.size ≠ gs) := hide_ (by
    have h1 := h.out.st.lt
    have h2 := hB1.size
    omega)
  clear hB1 K1 hB2 K2 K1' L1 L2 ht hx hxA htA h
  unfold stv
  go_enter Tryz.func114, Tryz.ntmps114
  go_upto_region 1 with fail
  try rw [hw1]
  clear hw1
  go_upto_region 2 with fail
  try rw [hw2]
  clear hw2 c0 c1 c2 c3 c4 t0 t1 t2 t3 t4 t5 t6
  obtain ⟨d, hd⟩ : ∃ d, stEq t s = d := ⟨_, rfl⟩
  have Hd := hide_ hd
  clear hd
  go_cut [17] from 15 to 17 (fun x17 wc => x17 = .bool d ∧ w2 = wc)
  case first =>
    rcases eq7g t s with q | q | q | q | q | q | q | q
    all_goals
      try obtain ⟨q0, q⟩ := q
      try obtain ⟨q1, q⟩ := q
      try obtain ⟨q2, q⟩ := q
      try obtain ⟨q3, q⟩ := q
      try obtain ⟨q4, q⟩ := q
      try obtain ⟨q5, q⟩ := q
      try obtain ⟨q6, q⟩ := q
      rw [Hd.out] at q
      have Hq := hide_ q
      clear q
      go_wp2_with fail
      go_meet
      case rel => exact ⟨by rw [Hq.out], rfl⟩
  case rest =>
  obtain ⟨rfl, rfl⟩ := hcut
  cases d
  · by_cases hp : t.pl = 0
    · have HH : Hid (handP enc C r S P k s = (true, S.set k s, pushH P (k : Int))) := hide_ (by unfold handP; rw [HtA.out, Hd.out]; simp [hp])
      have f0 : (t.pl == 0) = true := by simpa using hp
      clear hp
      obtain ⟨LP, UP⟩ := HL2.out.put hk s
      have HLP := hide_ LP
      have HFP : Hid (Fm w (putAt w2 gs (k * 7) s).drew gs b vp vp) := hide_ ((Fm.of_below HB02.out).trans ⟨(UP.mono (fun q _ e => .inl e)).then ((Below.refl _ _).drew), fun q e => .inl e⟩)
      obtain ⟨g0, g1, g2, g3, g4⟩ := HL2.out.cells
      have hst := fun i => HL2.out.st.frozen i
      obtain ⟨u0, u1, u2, u3, u4, u5, u6⟩ := HL2.out.at (k := k) (s := t) (by
        have := HtA.out
        have hl := HL2.out.len
        rw [List.getElem?_eq_getElem (by omega), ← this]; simp [stA, List.getD, show k < S.length by omega])
      have HS5 : Hid ((fun w' => w'.cell? ⟨b, 3, none⟩ = some (.slice (some ⟨gs, 0, none⟩) C.length C.length) ∧ w'.cell? ⟨w.heap.size, 0, none⟩ = some (.int .i64 s.pl) ∧ w'.cell? ⟨w.heap.size, 1, none⟩ = some (.int .u64 (s.ki : Int)) ∧ w'.cell? ⟨w.heap.size, 2, none⟩ = some (.int .i64 s.tb) ∧ w'.cell? ⟨w.heap.size, 3, none⟩ = some (.int .i64 s.pa) ∧ w'.cell? ⟨w.heap.size, 4, none⟩ = some (.int .i64 s.fr) ∧ w'.cell? ⟨w.heap.size, 5, none⟩ = some (.int .i64 s.le) ∧ w'.cell? ⟨w.heap.size, 6, none⟩ = some (.bool s.su)) w2.drew) := hide_ ⟨g3, d0, d1, d2, d3, d4, d5, d6⟩
      clear LP UP g0 g1 g2 g4
      go_wp2_with fail
      refine wp_region_last 7 (fun w' => w'.cell? ⟨b, 3, none⟩ = some (.slice (some ⟨gs, 0, none⟩) C.length C.length) ∧ w'.cell? ⟨w.heap.size, 0, none⟩ = some (.int .i64 s.pl) ∧ w'.cell? ⟨w.heap.size, 1, none⟩ = some (.int .u64 (s.ki : Int)) ∧ w'.cell? ⟨w.heap.size, 2, none⟩ = some (.int .i64 s.tb) ∧ w'.cell? ⟨w.heap.size, 3, none⟩ = some (.int .i64 s.pa) ∧ w'.cell? ⟨w.heap.size, 4, none⟩ = some (.int .i64 s.fr) ∧ w'.cell? ⟨w.heap.size, 5, none⟩ = some (.int .i64 s.le) ∧ w'.cell? ⟨w.heap.size, 6, none⟩ = some (.bool s.su)) (by kernel_rfl) (HS5.out) (fun hHeld => ?_)
      refine wpAnyF_take [7] (by kernel_rfl) (i := 0) (v := ?vp1) rfl (by kernel_rfl) (by kernel_rfl) (by kernel_rfl) (fun _ _ _ h => h) (Or.inl ⟨by kernel_rfl, ?hyp1⟩) hHeld ?restp1
      case hyp1 => intro w' hSw; (try dsimp only at hSw); go_simp; try with_reducible rfl
      simp only [Act.put]
      try dsimp only
      refine wpAnyF_take [7] (by kernel_rfl) (i := 1) (v := ?vp2) rfl (by kernel_rfl) (by kernel_rfl) (by kernel_rfl) (fun _ _ _ h => h) (Or.inl ⟨by kernel_rfl, ?hyp2⟩) hHeld ?restp2
      case hyp2 => intro w' hSw; (try dsimp only at hSw); go_simp; try with_reducible rfl
      simp only [Act.put]
      try dsimp only
      refine wpAnyF_take [7] (by kernel_rfl) (i := 2) (v := ?vp3) rfl (by kernel_rfl) (by kernel_rfl) (by kernel_rfl) (fun _ _ _ h => h) (Or.inl ⟨by kernel_rfl, ?hyp3⟩) hHeld ?restp3
      case hyp3 => intro w' hSw; (try dsimp only at hSw); go_simp; try with_reducible rfl
      simp only [Act.put]
      try dsimp only
      refine wpAnyF_take [7] (by kernel_rfl) (i := 3) (v := ?vp4) rfl (by kernel_rfl) (by kernel_rfl) (by kernel_rfl) (fun _ _ _ h => h) (Or.inl ⟨by kernel_rfl, ?hyp4⟩) hHeld ?restp4
      case hyp4 => intro w' hSw; (try dsimp only at hSw); go_simp; try with_reducible rfl
      simp only [Act.put]
      try dsimp only
      refine wpAnyF_take [7] (by kernel_rfl) (i := 4) (v := ?vp5) rfl (by kernel_rfl) (by kernel_rfl) (by kernel_rfl) (fun _ _ _ h => h) (Or.inl ⟨by kernel_rfl, ?hyp5⟩) hHeld ?restp5
      case hyp5 => intro w' hSw; (try dsimp only at hSw); go_simp; try with_reducible rfl
      simp only [Act.put]
      try dsimp only
      refine wpAnyF_take [7] (by kernel_rfl) (i := 5) (v := ?vp6) rfl (by kernel_rfl) (by kernel_rfl) (by kernel_rfl) (fun _ _ _ h => h) (Or.inl ⟨by kernel_rfl, ?hyp6⟩) hHeld ?restp6
      case hyp6 => intro w' hSw; (try dsimp only at hSw); go_simp; try with_reducible rfl
      simp only [Act.put]
      try dsimp only
      refine wpAnyF_take [7] (by kernel_rfl) (i := 6) (v := ?vp7) rfl (by kernel_rfl) (by kernel_rfl) (by kernel_rfl) (fun _ _ _ h => h) (Or.inl ⟨by kernel_rfl, ?hyp7⟩) hHeld ?restp7
      case hyp7 => intro w' hSw; (try dsimp only at hSw); go_simp; try with_reducible rfl
      simp only [Act.put]
      try dsimp only
      refine wpAnyF_ready (rs := [7]) (by kernel_rfl) (by simp) ?_
      refine AllReadyF.last rfl (fun K hK => ?_)
      go_simp
      refine hK.out _ _ ?_
      clear hK K
      refine wpAnyF_done (by kernel_rfl) ?_ _
      go_wp2_with fail
      have HLd := hide_ (HLP.out.later (w' := (putAt w2 gs (k * 7) s).drew) ((Below.refl _ _).drew))
      refine (hPush_any b 4 w0.heap.size vp P (k : Int) (putAt w2 gs (k * 7) s).drew (by omega) HLd.out.old.size (hide_ HLd.out.nm)).mono ?_
      rintro e w7 hu
      obtain ⟨rfl, vp', hL7, hF7⟩ := HLd.out.pushed hu
      have HL7 := hide_ hL7
      have HF7 := hide_ (HFP.out.trans hF7)
      clear hu hL7 hF7
      go_wp2_with fail
      go_ret
      unfold HdTo
      rw [HH.out]
      exact ⟨vp', rfl, HL7.out, HF7.out⟩
    · have f0 : (t.pl == 0) = false := by simpa using hp
      have HH : Hid (handP enc C r S P k s = (mSt enc s x r && sameH enc C k t s, S, P)) := hide_ (by unfold handP; rw [HtA.out, Hd.out, HxA.out]; simp [hp])
      clear hp
      have HSt : Hid (∀ w, Calls Tryz.prog (fSt enc) #[.agg #[], stv s, inv x, .int .i64 r] w fun e w' => e = .returned (.bool (mSt enc s x r)) ∧ Below w.heap.size w w') := hide_ (fun w => mstands_any enc s x r w Hx.out hs.out)
      have HSm : Hid (∀ w3, Below w2.heap.size w2 w3 → Calls Tryz.prog 151 #[.pointer (some ⟨b, 0, none⟩), .int .i64 (k : Int), stv t, stv s] w3 fun e w' => e = .returned (.bool (sameH enc C k t s)) ∧ Below w3.heap.size w3 w') := hide_ (fun w3 hB => sameH_any b bc oc cc enc C k t s w3 hk hcc hcl hC HT hs (hide_ (HL2.out.later hB).rd))
      have HS8 : Hid (∀ w3, Below w2.heap.size w2 w3 → (fun w' => w'.cell? ⟨b, 0, none⟩ = some (.iface (mTy enc) (.agg #[])) ∧ w'.cell? ⟨b, 1, none⟩ = some (.slice (some ⟨bc, oc, none⟩) C.length cc) ∧ w'.cell? ⟨b, 2, none⟩ = some (.int .i64 r) ∧ w'.cell? ⟨w.heap.size, 0, none⟩ = some (.int .i64 s.pl) ∧ w'.cell? ⟨w.heap.size, 1, none⟩ = some (.int .u64 (s.ki : Int)) ∧ w'.cell? ⟨w.heap.size, 2, none⟩ = some (.int .i64 s.tb) ∧ w'.cell? ⟨w.heap.size, 3, none⟩ = some (.int .i64 s.pa) ∧ w'.cell? ⟨w.heap.size, 4, none⟩ = some (.int .i64 s.fr) ∧ w'.cell? ⟨w.heap.size, 5, none⟩ = some (.int .i64 s.le) ∧ w'.cell? ⟨w.heap.size, 6, none⟩ = some (.bool s.su) ∧ w'.cell? ⟨w1.heap.size, 0, none⟩ = some (.int .i64 t.pl) ∧ w'.cell? ⟨w1.heap.size, 1, none⟩ = some (.int .u64 (t.ki : Int)) ∧ w'.cell? ⟨w1.heap.size, 2, none⟩ = some (.int .i64 t.tb) ∧ w'.cell? ⟨w1.heap.size, 3, none⟩ = some (.int .i64 t.pa) ∧ w'.cell? ⟨w1.heap.size, 4, none⟩ = some (.int .i64 t.fr) ∧ w'.cell? ⟨w1.heap.size, 5, none⟩ = some (.int .i64 t.le) ∧ w'.cell? ⟨w1.heap.size, 6, none⟩ = some (.bool t.su) ∧ w'.cell? ⟨bc, oc + k * 4, none⟩ = some (.int .i64 x.op) ∧ w'.cell? ⟨bc, oc + k * 4 + 1, none⟩ = some (.int .i64 x.a) ∧ w'.cell? ⟨bc, oc + k * 4 + 2, none⟩ = some (.int .i64 x.b) ∧ w'.cell? ⟨bc, oc + k * 4 + 3, none⟩ = some (.int .i64 x.c)) w3) := hide_ (fun w3 hB => by
        have a1 := (HK1.out.later hB).cs
        have a2 := (HK2.out.later hB).cs
        have a3 := (HL2.out.later hB).cells
        have a4 := (HL2.out.later hB).rd.code.at (i := k) (x := x) (by rw [List.getElem?_eq_getElem hk, ← HxA.out]; simp [inA, List.getD, hk])
        exact ⟨a3.1, a3.2.1, a3.2.2.1, a1.1, a1.2.1, a1.2.2.1, a1.2.2.2.1, a1.2.2.2.2.1, a1.2.2.2.2.2.1, a1.2.2.2.2.2.2, a2.1, a2.2.1, a2.2.2.1, a2.2.2.2.1, a2.2.2.2.2.1, a2.2.2.2.2.2.1, a2.2.2.2.2.2.2, a4⟩)
      obtain ⟨q, hq⟩ : ∃ q, mSt enc s x r = q := ⟨_, rfl⟩
      rw [hq] at HSt HH
      have HF : Hid (∀ e w', e = .returned (.bool (q && sameH enc C k t s)) → Below w2.heap.size w2 w' → HdTo w0 w vp b gs bc oc cc enc C r S P k s e w') := hide_ (fun e w' h1 hB => by
        rw [h1]
        unfold HdTo
        rw [HH.out]
        exact ⟨vp, rfl, HL2.out.later hB, Fm.of_below (below_to HB02.out hB)⟩)
      clear hq HH
      cases q
      · go_wp2_with fail
        refine wp_region_last 26 (fun w' => w'.cell? ⟨b, 0, none⟩ = some (.iface (mTy enc) (.agg #[])) ∧ w'.cell? ⟨b, 1, none⟩ = some (.slice (some ⟨bc, oc, none⟩) C.length cc) ∧ w'.cell? ⟨b, 2, none⟩ = some (.int .i64 r) ∧ w'.cell? ⟨w.heap.size, 0, none⟩ = some (.int .i64 s.pl) ∧ w'.cell? ⟨w.heap.size, 1, none⟩ = some (.int .u64 (s.ki : Int)) ∧ w'.cell? ⟨w.heap.size, 2, none⟩ = some (.int .i64 s.tb) ∧ w'.cell? ⟨w.heap.size, 3, none⟩ = some (.int .i64 s.pa) ∧ w'.cell? ⟨w.heap.size, 4, none⟩ = some (.int .i64 s.fr) ∧ w'.cell? ⟨w.heap.size, 5, none⟩ = some (.int .i64 s.le) ∧ w'.cell? ⟨w.heap.size, 6, none⟩ = some (.bool s.su) ∧ w'.cell? ⟨w1.heap.size, 0, none⟩ = some (.int .i64 t.pl) ∧ w'.cell? ⟨w1.heap.size, 1, none⟩ = some (.int .u64 (t.ki : Int)) ∧ w'.cell? ⟨w1.heap.size, 2, none⟩ = some (.int .i64 t.tb) ∧ w'.cell? ⟨w1.heap.size, 3, none⟩ = some (.int .i64 t.pa) ∧ w'.cell? ⟨w1.heap.size, 4, none⟩ = some (.int .i64 t.fr) ∧ w'.cell? ⟨w1.heap.size, 5, none⟩ = some (.int .i64 t.le) ∧ w'.cell? ⟨w1.heap.size, 6, none⟩ = some (.bool t.su) ∧ w'.cell? ⟨bc, oc + k * 4, none⟩ = some (.int .i64 x.op) ∧ w'.cell? ⟨bc, oc + k * 4 + 1, none⟩ = some (.int .i64 x.a) ∧ w'.cell? ⟨bc, oc + k * 4 + 2, none⟩ = some (.int .i64 x.b) ∧ w'.cell? ⟨bc, oc + k * 4 + 3, none⟩ = some (.int .i64 x.c)) (by kernel_rfl) (HS8.out _ ((Below.refl _ w2).drew)) (fun hHeld => ?_)
        refine wpAnyF_take [26] (by kernel_rfl) (i := 0) (v := ?vq1) rfl (by kernel_rfl) (by kernel_rfl) (by kernel_rfl) (fun _ _ _ h => h) (Or.inl ⟨by kernel_rfl, ?hyq1⟩) hHeld ?restq1
        case hyq1 => intro w' hSw; (try dsimp only at hSw); go_simp; try with_reducible rfl
        simp only [Act.put]
        try dsimp only
        refine wpAnyF_take [26] (by kernel_rfl) (i := 1) (v := ?vq2) rfl (by kernel_rfl) (by kernel_rfl) (by kernel_rfl) (fun _ _ _ h => h) (Or.inl ⟨by kernel_rfl, ?hyq2⟩) hHeld ?restq2
        case hyq2 => intro w' hSw; (try dsimp only at hSw); go_simp; try with_reducible rfl
        simp only [Act.put]
        try dsimp only
        refine wpAnyF_take [26] (by kernel_rfl) (i := 2) (v := ?vq3) rfl (by kernel_rfl) (by kernel_rfl) (by kernel_rfl) (fun _ _ _ h => h) (Or.inl ⟨by kernel_rfl, ?hyq3⟩) hHeld ?restq3
        case hyq3 => intro w' hSw; (try dsimp only at hSw); go_simp; try with_reducible rfl
        simp only [Act.put]
        try dsimp only
        refine wpAnyF_take [26] (by kernel_rfl) (i := 3) (v := ?vq4) rfl (by kernel_rfl) (by kernel_rfl) (by kernel_rfl) (fun _ _ _ h => h) (Or.inl ⟨by kernel_rfl, ?hyq4⟩) hHeld ?restq4
        case hyq4 => intro w' hSw; (try dsimp only at hSw); go_simp; try with_reducible rfl
        simp only [Act.put]
        try dsimp only
        refine wpAnyF_take [26] (by kernel_rfl) (i := 4) (v := ?vq5) rfl (by kernel_rfl) (by kernel_rfl) (by kernel_rfl) (fun _ _ _ h => h) (Or.inl ⟨by kernel_rfl, ?hyq5⟩) hHeld ?restq5
        case hyq5 => intro w' hSw; (try dsimp only at hSw); go_simp; try with_reducible rfl
        simp only [Act.put]
        try dsimp only
        refine wpAnyF_take [26] (by kernel_rfl) (i := 5) (v := ?vq6) rfl (by kernel_rfl) (by kernel_rfl) (by kernel_rfl) (fun _ _ _ h => h) (Or.inl ⟨by kernel_rfl, ?hyq6⟩) hHeld ?restq6
        case hyq6 => intro w' hSw; (try dsimp only at hSw); go_simp; try with_reducible rfl
        simp only [Act.put]
        try dsimp only
        refine wpAnyF_take [26] (by kernel_rfl) (i := 6) (v := ?vq7) rfl (by kernel_rfl) (by kernel_rfl) (by kernel_rfl) (fun _ _ _ h => h) (Or.inl ⟨by kernel_rfl, ?hyq7⟩) hHeld ?restq7
        case hyq7 => intro w' hSw; (try dsimp only at hSw); go_simp; try with_reducible rfl
        simp only [Act.put]
        try dsimp only
        refine wpAnyF_take [26] (by kernel_rfl) (i := 7) (v := ?vq8) rfl (by kernel_rfl) (by kernel_rfl) (by kernel_rfl) (fun _ _ _ h => h) (Or.inl ⟨by kernel_rfl, ?hyq8⟩) hHeld ?restq8
        case hyq8 => intro w' hSw; (try dsimp only at hSw); go_simp; try with_reducible rfl
        simp only [Act.put]
        try dsimp only
        refine wpAnyF_take [26] (by kernel_rfl) (i := 8) (v := ?vq9) rfl (by kernel_rfl) (by kernel_rfl) (by kernel_rfl) (fun _ _ _ h => h) (Or.inl ⟨by kernel_rfl, ?hyq9⟩) hHeld ?restq9
        case hyq9 => intro w' hSw; (try dsimp only at hSw); go_simp; try with_reducible rfl
        simp only [Act.put]
        try dsimp only
        refine wpAnyF_take [26] (by kernel_rfl) (i := 9) (v := ?vq10) rfl (by kernel_rfl) (by kernel_rfl) (by kernel_rfl) (fun _ _ _ h => h) (Or.inl ⟨by kernel_rfl, ?hyq10⟩) hHeld ?restq10
        case hyq10 => intro w' hSw; (try dsimp only at hSw); go_simp; try with_reducible rfl
        simp only [Act.put]
        try dsimp only
        refine wpAnyF_take [26] (by kernel_rfl) (i := 10) (v := ?vq11) rfl (by kernel_rfl) (by kernel_rfl) (by kernel_rfl) (fun _ _ _ h => h) (Or.inl ⟨by kernel_rfl, ?hyq11⟩) hHeld ?restq11
        case hyq11 => intro w' hSw; (try dsimp only at hSw); go_simp; try with_reducible rfl
        simp only [Act.put]
        try dsimp only
        refine wpAnyF_take [26] (by kernel_rfl) (i := 11) (v := ?vq12) rfl (by kernel_rfl) (by kernel_rfl) (by kernel_rfl) (fun _ _ _ h => h) (Or.inl ⟨by kernel_rfl, ?hyq12⟩) hHeld ?restq12
        case hyq12 => intro w' hSw; (try dsimp only at hSw); go_simp; try with_reducible rfl
        simp only [Act.put]
        try dsimp only
        refine wpAnyF_take [26] (by kernel_rfl) (i := 12) (v := ?vq13) rfl (by kernel_rfl) (by kernel_rfl) (by kernel_rfl) (fun _ _ _ h => h) (Or.inl ⟨by kernel_rfl, ?hyq13⟩) hHeld ?restq13
        case hyq13 => intro w' hSw; (try dsimp only at hSw); go_simp; try with_reducible rfl
        simp only [Act.put]
        try dsimp only
        refine wpAnyF_take [26] (by kernel_rfl) (i := 13) (v := ?vq14) rfl (by kernel_rfl) (by kernel_rfl) (by kernel_rfl) (fun _ _ _ h => h) (Or.inl ⟨by kernel_rfl, ?hyq14⟩) hHeld ?restq14
        case hyq14 => intro w' hSw; (try dsimp only at hSw); go_simp; try with_reducible rfl
        simp only [Act.put]
        try dsimp only
        refine wpAnyF_take [26] (by kernel_rfl) (i := 14) (v := ?vq15) rfl (by kernel_rfl) (by kernel_rfl) (by kernel_rfl) (fun _ _ _ h => h) (Or.inl ⟨by kernel_rfl, ?hyq15⟩) hHeld ?restq15
        case hyq15 => intro w' hSw; (try dsimp only at hSw); go_simp; try with_reducible rfl
        simp only [Act.put]
        try dsimp only
        refine wpAnyF_take [26] (by kernel_rfl) (i := 15) (v := ?vq16) rfl (by kernel_rfl) (by kernel_rfl) (by kernel_rfl) (fun _ _ _ h => h) (Or.inl ⟨by kernel_rfl, ?hyq16⟩) hHeld ?restq16
        case hyq16 => intro w' hSw; (try dsimp only at hSw); go_simp; try with_reducible rfl
        simp only [Act.put]
        try dsimp only
        refine wpAnyF_take [26] (by kernel_rfl) (i := 16) (v := ?vq17) rfl (by kernel_rfl) (by kernel_rfl) (by kernel_rfl) (fun _ _ _ h => h) (Or.inl ⟨by kernel_rfl, ?hyq17⟩) hHeld ?restq17
        case hyq17 => intro w' hSw; (try dsimp only at hSw); go_simp; try with_reducible rfl
        simp only [Act.put]
        try dsimp only
        refine wpAnyF_take [26] (by kernel_rfl) (i := 17) (v := ?vq18) rfl (by kernel_rfl) (by kernel_rfl) (by kernel_rfl) (fun _ _ _ h => h) (Or.inl ⟨by kernel_rfl, ?hyq18⟩) hHeld ?restq18
        case hyq18 => intro w' hSw; (try dsimp only at hSw); go_simp; try with_reducible rfl
        simp only [Act.put]
        try dsimp only
        refine wpAnyF_ready (rs := [18]) (by kernel_rfl) (by simp) ?_
        refine AllReadyF.cons rfl (fun K hK => ?_) AllReadyF.nil
        have mH := mtSt enc 343 w2.drew
        have eH := enSt enc
        go_simp
        refine (HSt.out w2.drew).mono ?_
        rintro e w3 ⟨rfl, hB3⟩
        have HB3 := hide_ (below_to ((Below.refl _ w2).drew) hB3)
        have hS3 := HS8.out w3 HB3.out
        clear hB3 mH eH
        go_simp
        refine hK.out _ _ (hS3) (fun hHeld => ?_)
        clear hK K
        refine wpAnyF_take [26] (by kernel_rfl) (i := 19) (v := ?vq19) rfl (by kernel_rfl) (by kernel_rfl) (by kernel_rfl) (fun _ _ _ h => h) (Or.inl ⟨by kernel_rfl, ?hyq19⟩) hHeld ?restq19
        case hyq19 => intro w' hSw; (try dsimp only at hSw); go_simp; try with_reducible rfl
        simp only [Act.put]
        try dsimp only
        refine wpAnyF_take [26] (by kernel_rfl) (i := 20) (v := undef) rfl (by kernel_rfl) (by kernel_rfl) (by kernel_rfl) (fun _ _ _ h => h) (Or.inr ⟨by rfl, rfl⟩) hHeld ?_
        simp only [Act.put]
        try dsimp only
        refine wpAnyF_take [26] (by kernel_rfl) (i := 21) (v := undef) rfl (by kernel_rfl) (by kernel_rfl) (by kernel_rfl) (fun _ _ _ h => h) (Or.inr ⟨by rfl, rfl⟩) hHeld ?_
        simp only [Act.put]
        try dsimp only
        refine wpAnyF_take [26] (by kernel_rfl) (i := 22) (v := undef) rfl (by kernel_rfl) (by kernel_rfl) (by kernel_rfl) (fun _ _ _ h => h) (Or.inr ⟨by rfl, rfl⟩) hHeld ?_
        simp only [Act.put]
        try dsimp only
        refine wpAnyF_take [26] (by kernel_rfl) (i := 23) (v := undef) rfl (by kernel_rfl) (by kernel_rfl) (by kernel_rfl) (fun _ _ _ h => h) (Or.inr ⟨by rfl, rfl⟩) hHeld ?_
        simp only [Act.put]
        try dsimp only
        refine wpAnyF_take [26] (by kernel_rfl) (i := 24) (v := undef) rfl (by kernel_rfl) (by kernel_rfl) (by kernel_rfl) (fun _ _ _ h => h) (Or.inr ⟨by rfl, rfl⟩) hHeld ?_
        simp only [Act.put]
        try dsimp only
        refine wpAnyF_take [26] (by kernel_rfl) (i := 25) (v := ?vq20) rfl (by kernel_rfl) (by kernel_rfl) (by kernel_rfl) (fun _ _ _ h => h) (Or.inl ⟨by kernel_rfl, ?hyq20⟩) hHeld ?restq20
        case hyq20 => intro w' hSw; (try dsimp only at hSw); go_simp; try with_reducible rfl
        simp only [Act.put]
        try dsimp only
        refine wpAnyF_ready (rs := [26]) (by kernel_rfl) (by simp) ?_
        refine AllReadyF.last rfl (fun K hK => ?_)
        go_simp
        refine hK.out _ _ ?_
        clear hK K
        refine wpAnyF_done (by kernel_rfl) ?_ _
        go_wp2_with fail
        go_ret
        exact HF.out _ _ rfl HB3.out
      · go_wp2_with fail
        refine wp_region_last 26 (fun w' => w'.cell? ⟨b, 0, none⟩ = some (.iface (mTy enc) (.agg #[])) ∧ w'.cell? ⟨b, 1, none⟩ = some (.slice (some ⟨bc, oc, none⟩) C.length cc) ∧ w'.cell? ⟨b, 2, none⟩ = some (.int .i64 r) ∧ w'.cell? ⟨w.heap.size, 0, none⟩ = some (.int .i64 s.pl) ∧ w'.cell? ⟨w.heap.size, 1, none⟩ = some (.int .u64 (s.ki : Int)) ∧ w'.cell? ⟨w.heap.size, 2, none⟩ = some (.int .i64 s.tb) ∧ w'.cell? ⟨w.heap.size, 3, none⟩ = some (.int .i64 s.pa) ∧ w'.cell? ⟨w.heap.size, 4, none⟩ = some (.int .i64 s.fr) ∧ w'.cell? ⟨w.heap.size, 5, none⟩ = some (.int .i64 s.le) ∧ w'.cell? ⟨w.heap.size, 6, none⟩ = some (.bool s.su) ∧ w'.cell? ⟨w1.heap.size, 0, none⟩ = some (.int .i64 t.pl) ∧ w'.cell? ⟨w1.heap.size, 1, none⟩ = some (.int .u64 (t.ki : Int)) ∧ w'.cell? ⟨w1.heap.size, 2, none⟩ = some (.int .i64 t.tb) ∧ w'.cell? ⟨w1.heap.size, 3, none⟩ = some (.int .i64 t.pa) ∧ w'.cell? ⟨w1.heap.size, 4, none⟩ = some (.int .i64 t.fr) ∧ w'.cell? ⟨w1.heap.size, 5, none⟩ = some (.int .i64 t.le) ∧ w'.cell? ⟨w1.heap.size, 6, none⟩ = some (.bool t.su) ∧ w'.cell? ⟨bc, oc + k * 4, none⟩ = some (.int .i64 x.op) ∧ w'.cell? ⟨bc, oc + k * 4 + 1, none⟩ = some (.int .i64 x.a) ∧ w'.cell? ⟨bc, oc + k * 4 + 2, none⟩ = some (.int .i64 x.b) ∧ w'.cell? ⟨bc, oc + k * 4 + 3, none⟩ = some (.int .i64 x.c)) (by kernel_rfl) (HS8.out _ ((Below.refl _ w2).drew)) (fun hHeld => ?_)
        refine wpAnyF_take [26] (by kernel_rfl) (i := 0) (v := ?vr1) rfl (by kernel_rfl) (by kernel_rfl) (by kernel_rfl) (fun _ _ _ h => h) (Or.inl ⟨by kernel_rfl, ?hyr1⟩) hHeld ?restr1
        case hyr1 => intro w' hSw; (try dsimp only at hSw); go_simp; try with_reducible rfl
        simp only [Act.put]
        try dsimp only
        refine wpAnyF_take [26] (by kernel_rfl) (i := 1) (v := ?vr2) rfl (by kernel_rfl) (by kernel_rfl) (by kernel_rfl) (fun _ _ _ h => h) (Or.inl ⟨by kernel_rfl, ?hyr2⟩) hHeld ?restr2
        case hyr2 => intro w' hSw; (try dsimp only at hSw); go_simp; try with_reducible rfl
        simp only [Act.put]
        try dsimp only
        refine wpAnyF_take [26] (by kernel_rfl) (i := 2) (v := ?vr3) rfl (by kernel_rfl) (by kernel_rfl) (by kernel_rfl) (fun _ _ _ h => h) (Or.inl ⟨by kernel_rfl, ?hyr3⟩) hHeld ?restr3
        case hyr3 => intro w' hSw; (try dsimp only at hSw); go_simp; try with_reducible rfl
        simp only [Act.put]
        try dsimp only
        refine wpAnyF_take [26] (by kernel_rfl) (i := 3) (v := ?vr4) rfl (by kernel_rfl) (by kernel_rfl) (by kernel_rfl) (fun _ _ _ h => h) (Or.inl ⟨by kernel_rfl, ?hyr4⟩) hHeld ?restr4
        case hyr4 => intro w' hSw; (try dsimp only at hSw); go_simp; try with_reducible rfl
        simp only [Act.put]
        try dsimp only
        refine wpAnyF_take [26] (by kernel_rfl) (i := 4) (v := ?vr5) rfl (by kernel_rfl) (by kernel_rfl) (by kernel_rfl) (fun _ _ _ h => h) (Or.inl ⟨by kernel_rfl, ?hyr5⟩) hHeld ?restr5
        case hyr5 => intro w' hSw; (try dsimp only at hSw); go_simp; try with_reducible rfl
        simp only [Act.put]
        try dsimp only
        refine wpAnyF_take [26] (by kernel_rfl) (i := 5) (v := ?vr6) rfl (by kernel_rfl) (by kernel_rfl) (by kernel_rfl) (fun _ _ _ h => h) (Or.inl ⟨by kernel_rfl, ?hyr6⟩) hHeld ?restr6
        case hyr6 => intro w' hSw; (try dsimp only at hSw); go_simp; try with_reducible rfl
        simp only [Act.put]
        try dsimp only
        refine wpAnyF_take [26] (by kernel_rfl) (i := 6) (v := ?vr7) rfl (by kernel_rfl) (by kernel_rfl) (by kernel_rfl) (fun _ _ _ h => h) (Or.inl ⟨by kernel_rfl, ?hyr7⟩) hHeld ?restr7
        case hyr7 => intro w' hSw; (try dsimp only at hSw); go_simp; try with_reducible rfl
        simp only [Act.put]
        try dsimp only
        refine wpAnyF_take [26] (by kernel_rfl) (i := 7) (v := ?vr8) rfl (by kernel_rfl) (by kernel_rfl) (by kernel_rfl) (fun _ _ _ h => h) (Or.inl ⟨by kernel_rfl, ?hyr8⟩) hHeld ?restr8
        case hyr8 => intro w' hSw; (try dsimp only at hSw); go_simp; try with_reducible rfl
        simp only [Act.put]
        try dsimp only
        refine wpAnyF_take [26] (by kernel_rfl) (i := 8) (v := ?vr9) rfl (by kernel_rfl) (by kernel_rfl) (by kernel_rfl) (fun _ _ _ h => h) (Or.inl ⟨by kernel_rfl, ?hyr9⟩) hHeld ?restr9
        case hyr9 => intro w' hSw; (try dsimp only at hSw); go_simp; try with_reducible rfl
        simp only [Act.put]
        try dsimp only
        refine wpAnyF_take [26] (by kernel_rfl) (i := 9) (v := ?vr10) rfl (by kernel_rfl) (by kernel_rfl) (by kernel_rfl) (fun _ _ _ h => h) (Or.inl ⟨by kernel_rfl, ?hyr10⟩) hHeld ?restr10
        case hyr10 => intro w' hSw; (try dsimp only at hSw); go_simp; try with_reducible rfl
        simp only [Act.put]
        try dsimp only
        refine wpAnyF_take [26] (by kernel_rfl) (i := 10) (v := ?vr11) rfl (by kernel_rfl) (by kernel_rfl) (by kernel_rfl) (fun _ _ _ h => h) (Or.inl ⟨by kernel_rfl, ?hyr11⟩) hHeld ?restr11
        case hyr11 => intro w' hSw; (try dsimp only at hSw); go_simp; try with_reducible rfl
        simp only [Act.put]
        try dsimp only
        refine wpAnyF_take [26] (by kernel_rfl) (i := 11) (v := ?vr12) rfl (by kernel_rfl) (by kernel_rfl) (by kernel_rfl) (fun _ _ _ h => h) (Or.inl ⟨by kernel_rfl, ?hyr12⟩) hHeld ?restr12
        case hyr12 => intro w' hSw; (try dsimp only at hSw); go_simp; try with_reducible rfl
        simp only [Act.put]
        try dsimp only
        refine wpAnyF_take [26] (by kernel_rfl) (i := 12) (v := ?vr13) rfl (by kernel_rfl) (by kernel_rfl) (by kernel_rfl) (fun _ _ _ h => h) (Or.inl ⟨by kernel_rfl, ?hyr13⟩) hHeld ?restr13
        case hyr13 => intro w' hSw; (try dsimp only at hSw); go_simp; try with_reducible rfl
        simp only [Act.put]
        try dsimp only
        refine wpAnyF_take [26] (by kernel_rfl) (i := 13) (v := ?vr14) rfl (by kernel_rfl) (by kernel_rfl) (by kernel_rfl) (fun _ _ _ h => h) (Or.inl ⟨by kernel_rfl, ?hyr14⟩) hHeld ?restr14
        case hyr14 => intro w' hSw; (try dsimp only at hSw); go_simp; try with_reducible rfl
        simp only [Act.put]
        try dsimp only
        refine wpAnyF_take [26] (by kernel_rfl) (i := 14) (v := ?vr15) rfl (by kernel_rfl) (by kernel_rfl) (by kernel_rfl) (fun _ _ _ h => h) (Or.inl ⟨by kernel_rfl, ?hyr15⟩) hHeld ?restr15
        case hyr15 => intro w' hSw; (try dsimp only at hSw); go_simp; try with_reducible rfl
        simp only [Act.put]
        try dsimp only
        refine wpAnyF_take [26] (by kernel_rfl) (i := 15) (v := ?vr16) rfl (by kernel_rfl) (by kernel_rfl) (by kernel_rfl) (fun _ _ _ h => h) (Or.inl ⟨by kernel_rfl, ?hyr16⟩) hHeld ?restr16
        case hyr16 => intro w' hSw; (try dsimp only at hSw); go_simp; try with_reducible rfl
        simp only [Act.put]
        try dsimp only
        refine wpAnyF_take [26] (by kernel_rfl) (i := 16) (v := ?vr17) rfl (by kernel_rfl) (by kernel_rfl) (by kernel_rfl) (fun _ _ _ h => h) (Or.inl ⟨by kernel_rfl, ?hyr17⟩) hHeld ?restr17
        case hyr17 => intro w' hSw; (try dsimp only at hSw); go_simp; try with_reducible rfl
        simp only [Act.put]
        try dsimp only
        refine wpAnyF_take [26] (by kernel_rfl) (i := 17) (v := ?vr18) rfl (by kernel_rfl) (by kernel_rfl) (by kernel_rfl) (fun _ _ _ h => h) (Or.inl ⟨by kernel_rfl, ?hyr18⟩) hHeld ?restr18
        case hyr18 => intro w' hSw; (try dsimp only at hSw); go_simp; try with_reducible rfl
        simp only [Act.put]
        try dsimp only
        refine wpAnyF_ready (rs := [18]) (by kernel_rfl) (by simp) ?_
        refine AllReadyF.cons rfl (fun K hK => ?_) AllReadyF.nil
        have mH := mtSt enc 343 w2.drew
        have eH := enSt enc
        go_simp
        refine (HSt.out w2.drew).mono ?_
        rintro e w3 ⟨rfl, hB3⟩
        have HB3 := hide_ (below_to ((Below.refl _ w2).drew) hB3)
        have hS3 := HS8.out w3 HB3.out
        clear hB3 mH eH
        go_simp
        refine hK.out _ _ (hS3) (fun hHeld => ?_)
        clear hK K
        refine wpAnyF_take [26] (by kernel_rfl) (i := 19) (v := ?vr19) rfl (by kernel_rfl) (by kernel_rfl) (by kernel_rfl) (fun _ _ _ h => h) (Or.inl ⟨by kernel_rfl, ?hyr19⟩) hHeld ?restr19
        case hyr19 => intro w' hSw; (try dsimp only at hSw); go_simp; try with_reducible rfl
        simp only [Act.put]
        try dsimp only
        refine wpAnyF_take [26] (by kernel_rfl) (i := 20) (v := ?vr20) rfl (by kernel_rfl) (by kernel_rfl) (by kernel_rfl) (fun _ _ _ h => h) (Or.inl ⟨by kernel_rfl, ?hyr20⟩) hHeld ?restr20
        case hyr20 => intro w' hSw; (try dsimp only at hSw); go_simp; try with_reducible rfl
        simp only [Act.put]
        try dsimp only
        refine wpAnyF_take [26] (by kernel_rfl) (i := 21) (v := ?vr21) rfl (by kernel_rfl) (by kernel_rfl) (by kernel_rfl) (fun _ _ _ h => h) (Or.inl ⟨by kernel_rfl, ?hyr21⟩) hHeld ?restr21
        case hyr21 => intro w' hSw; (try dsimp only at hSw); go_simp; try with_reducible rfl
        simp only [Act.put]
        try dsimp only
        refine wpAnyF_take [26] (by kernel_rfl) (i := 22) (v := ?vr22) rfl (by kernel_rfl) (by kernel_rfl) (by kernel_rfl) (fun _ _ _ h => h) (Or.inl ⟨by kernel_rfl, ?hyr22⟩) hHeld ?restr22
        case hyr22 => intro w' hSw; (try dsimp only at hSw); go_simp; try with_reducible rfl
        simp only [Act.put]
        try dsimp only
        refine wpAnyF_take [26] (by kernel_rfl) (i := 23) (v := ?vr23) rfl (by kernel_rfl) (by kernel_rfl) (by kernel_rfl) (fun _ _ _ h => h) (Or.inl ⟨by kernel_rfl, ?hyr23⟩) hHeld ?restr23
        case hyr23 => intro w' hSw; (try dsimp only at hSw); go_simp; try with_reducible rfl
        simp only [Act.put]
        try dsimp only
        refine wpAnyF_ready (rs := [24]) (by kernel_rfl) (by simp) ?_
        refine AllReadyF.cons rfl (fun K hK => ?_) AllReadyF.nil
        go_simp
        refine (HSm.out w3 HB3.out).mono ?_
        rintro e w4 ⟨rfl, hB4⟩
        have HB4 := hide_ (below_to HB3.out hB4)
        have hS4 := HS8.out w4 HB4.out
        clear hB4
        go_simp
        refine hK.out _ _ (hS4) (fun hHeld => ?_)
        clear hK K
        refine wpAnyF_take [26] (by kernel_rfl) (i := 25) (v := ?vr24) rfl (by kernel_rfl) (by kernel_rfl) (by kernel_rfl) (fun _ _ _ h => h) (Or.inl ⟨by kernel_rfl, ?hyr24⟩) hHeld ?restr24
        case hyr24 => intro w' hSw; (try dsimp only at hSw); go_simp; try with_reducible rfl
        simp only [Act.put]
        try dsimp only
        refine wpAnyF_ready (rs := [26]) (by kernel_rfl) (by simp) ?_
        refine AllReadyF.last rfl (fun K hK => ?_)
        go_simp
        refine hK.out _ _ ?_
        clear hK K
        refine wpAnyF_done (by kernel_rfl) ?_ _
        go_wp2_with fail
        go_ret
        exact HF.out _ _ rfl HB4.out
  · have HH : Hid (handP enc C r S P k s = (true, S, P)) := hide_ (by unfold handP; rw [HtA.out, Hd.out]; simp)
    go_wp2_with fail
    go_ret
    unfold HdTo
    rw [HH.out]
    exact ⟨vp, rfl, HL2.out, Fm.of_below HB02.out⟩
end Go.Proofs.YtiojpohmgjdgfaaGreat

/- sound, plain: the states that are handed on lie within bounds; what Check says of code. -/
namespace Go.Proofs.YtiojpohmgjdgfaaGreat
open Go.RowKit
set_option linter.unusedVariables false
set_option linter.unusedSimpArgs false

theorem fillP_tpl (s : St) (kid : Int) : (fillP s kid).1.tb = s.tb ∧ (fillP s kid).1.pa = s.pa ∧ (fillP s kid).1.le = s.le := by
  unfold fillP
  repeat' split
  all_goals exact ⟨rfl, rfl, rfl⟩
theorem fillR_tpl : ∀ (n : Nat) (s : St) (kid : Int), (fillR s kid n).1.tb = s.tb ∧ (fillR s kid n).1.pa = s.pa ∧ (fillR s kid n).1.le = s.le
  | 0, s, kid => ⟨rfl, rfl, rfl⟩
  | n + 1, s, kid => by
    have h := fillP_tpl s kid
    rw [fillR]
    split
    · have h2 := fillR_tpl n (fillP s kid).1 (kid + 1)
      exact ⟨h2.1.trans h.1, h2.2.1.trans h.2.1, h2.2.2.trans h.2.2⟩
    · exact h
theorem fill_sok {s : St} (hs : SOk s) {kid : Int} (hk : -1 ≤ kid ∧ kid ≤ 63) : SOk (fillP s kid).1 := by
  obtain ⟨h1, h2, h3⟩ := fillP_tpl s kid
  exact ⟨fillP_ki s kid hk hs.ki, by rw [h1]; exact hs.tb, by rw [h2]; exact hs.pa, by rw [h3]; exact hs.le⟩
theorem dHd_ok {s : St} {x : In} {r : Int} (hs : SOk s) (hx : DOk x) (h : dSt s x r = true) (way : Int) : SOk (dHd s x way) := by
  have hs1 := hs.ki; have hs2 := hs.tb; have hs3 := hs.pa; have hs4 := hs.le
  unfold dHd
  by_cases h19 : x.op = 19
  · rw [if_pos h19]; exact hs
  rw [if_neg h19]
  by_cases h17 : x.op = 17
  · rw [if_pos h17]
    by_cases ha : x.a = -1
    · rw [if_pos ha]; exact ⟨hs1, hs2, hs3, hs4⟩
    · rw [if_neg ha]
      have h2 : s.pl = 3 ∧ x.b = s.pa ∧ x.b < s.tb := by
        unfold dSt at h
        rw [if_pos h17, if_neg ha] at h
        by_cases hq : s.pl ≠ 3 ∨ x.b ≠ s.pa ∨ s.tb ≤ x.b
        · rw [if_pos hq] at h; cases h
        · omega
      exact fill_sok (s := ⟨s.pl, s.ki, s.tb, s.pa + 1, s.fr, s.le, s.su⟩) ⟨hs1, hs2, by show 0 ≤ s.pa + 1 ∧ s.pa + 1 ≤ 64; omega, hs4⟩ (hx.kid (by omega))
  rw [if_neg h17]
  by_cases h1 : x.op = 1 ∨ x.op = 3 ∨ x.op = 4 ∨ x.op = 16
  · rw [if_pos h1]; exact fill_sok hs (hx.kid (by omega))
  rw [if_neg h1]
  by_cases h2 : x.op = 2
  · rw [if_pos h2]
    obtain ⟨a1, a2, a3⟩ := hx.run h2
    obtain ⟨b1, b2, b3⟩ := fillR_tpl x.b.toNat s x.a
    exact ⟨fillR_ki x.b.toNat s x.a a1 (by omega) hs1, by rw [b1]; exact hs2, by rw [b2]; exact hs3, by rw [b3]; exact hs4⟩
  rw [if_neg h2]
  by_cases h5 : x.op = 5
  · rw [if_pos h5]; exact ⟨by show (0 : Nat) < _; omega, hs2, hs3, hs4⟩
  rw [if_neg h5]
  by_cases h6 : x.op = 6
  · rw [if_pos h6]; exact ⟨by show (0 : Nat) < _; omega, hs2, hs3, hs4⟩
  rw [if_neg h6]
  by_cases h7 : x.op = 7 ∨ x.op = 8
  · rw [if_pos h7]; exact ⟨by show (0 : Nat) < _; omega, hs2, hs3, hs4⟩
  rw [if_neg h7]
  by_cases h10 : x.op = 10 ∨ x.op = 11
  · rw [if_pos h10]
    refine ⟨hs1, ?_, hs3, hs4⟩
    show -1 ≤ tabP s x way ∧ tabP s x way ≤ 64
    unfold tabP
    split
    · exact hs2
    split
    · rename_i hq
      have h2 : s.tb < 64 := by
        unfold dSt at h
        rw [if_neg h17, if_neg (by omega), if_neg (by omega), if_neg h2, if_neg (by omega), if_pos hq.1] at h
        unfold hasP at h
        rw [if_pos hq.2] at h
        simp at h
        exact h.2
      omega
    · omega
  rw [if_neg h10]
  exact ⟨hs1, hs2, hs3, hs4⟩
theorem left_sok {n : Int} (h : 0 ≤ n ∧ n ≤ 64) : SOk (leftP n) := ⟨by show (0 : Nat) < _; omega, by show -1 ≤ (0 : Int) ∧ (0 : Int) ≤ 64; omega, by show (0 : Int) ≤ 0 ∧ (0 : Int) ≤ 64; omega, h⟩
theorem seq_sok (b : Bool) : SOk (seqP b) := ⟨by show (0 : Nat) < _; omega, by show -1 ≤ (0 : Int) ∧ (0 : Int) ≤ 64; omega, by show (0 : Int) ≤ 0 ∧ (0 : Int) ≤ 64; omega, by show (0 : Int) ≤ 0 ∧ (0 : Int) ≤ 64; omega⟩
theorem take_sok {s : St} (hs : SOk s) {m : Int} (hm : 0 ≤ m) (h : (takeP s m).2 = true) : SOk (takeP s m).1 := by
  have hs1 := hs.ki; have hs2 := hs.tb; have hs3 := hs.pa; have hs4 := hs.le
  unfold takeP at h ⊢
  split at h
  · rename_i hq; rw [if_pos hq]; exact left_sok (by omega)
  · rename_i hq
    rw [if_neg hq]
    split at h
    · rename_i hq2
      rw [if_pos hq2]
      have : 0 ≤ s.le - m := by simpa using h
      exact ⟨hs1, hs2, hs3, by show 0 ≤ s.le - m ∧ s.le - m ≤ 64; omega⟩
    · cases h
theorem turn_sok {s : St} (hs : SOk s) : SOk (turnP s).1 := ⟨hs.ki, hs.tb, hs.pa, hs.le⟩
theorem taken_sok {s : St} (hs : SOk s) {x : In} (hx : x.op = 34 → 0 ≤ x.b) (h : (takenP s x).2 = true) : SOk (takenP s x).1 := by
  unfold takenP at h ⊢
  split at h
  · rename_i hq; rw [if_pos hq]; exact take_sok hs (hx hq) h
  · rename_i hq; rw [if_neg hq]
    split at h
    · rename_i hq; rw [if_pos hq]
      split at h
      · rename_i hq; rw [if_pos hq]; exact turn_sok hs
      · rename_i hq; rw [if_neg hq]; exact take_sok hs (by omega) h
    · rename_i hq; rw [if_neg hq]
      split at h
      · rename_i hq; rw [if_pos hq]; exact turn_sok hs
      · rename_i hq; rw [if_neg hq]
        split at h
        · rename_i hq; rw [if_pos hq]; exact turn_sok hs
        · rename_i hq; rw [if_neg hq]; exact take_sok hs (by omega) h
theorem eHd_ok {s : St} {x : In} {r : Int} (hs : SOk s) (hx : XOk true x) (h : eSt s x r = true) (way : Int) : SOk (eHd s x way) := by
  unfold eHd
  by_cases h1 : x.op = 44 ∨ x.op = 45 ∨ x.op = 46 ∨ x.op = 33 ∨ x.op = 34 ∨ x.op = 35 ∨ x.op = 36
  · rw [if_pos h1]
    have h2 : (takenP s x).2 = true := by
      unfold eSt at h
      split at h
      · split at h
        · cases h
        · exact h
      · rw [if_pos (by omega)] at h; exact h
    exact taken_sok hs (fun e => (hx.e e).1) h2
  rw [if_neg h1]
  split
  · exact seq_sok _
  split
  · rename_i hq; exact left_sok (hx.f hq)
  split
  · split <;> exact left_sok (by omega)
  split
  · exact left_sok (by omega)
  split
  · split
    · exact seq_sok _
    · exact left_sok (by omega)
  · exact hs
theorem mHd_ok {enc : Bool} {s : St} {x : In} {r : Int} (hs : SOk s) (hx : XOk enc x) (h : mSt enc s x r = true) (way : Int) : SOk (mHd enc s x way) := by
  cases enc
  · exact dHd_ok hs (hx.d rfl) h way
  · exact eHd_ok hs hx h way
theorem mBg_ok (enc : Bool) : SOk (mBg enc) := by
  cases enc
  · exact ⟨by show (0 : Nat) < _; omega, by show -1 ≤ (0 : Int) ∧ (0 : Int) ≤ 64; omega, by show (0 : Int) ≤ 0 ∧ (0 : Int) ≤ 64; omega, by show (0 : Int) ≤ 0 ∧ (0 : Int) ≤ 64; omega⟩
  · exact ⟨by show (0 : Nat) < _; omega, by show -1 ≤ (0 : Int) ∧ (0 : Int) ≤ 64; omega, by show (0 : Int) ≤ 0 ∧ (0 : Int) ≤ 64; omega, by show (0 : Int) ≤ 0 ∧ (0 : Int) ≤ 64; omega⟩
theorem st0_ok : SOk st0 := ⟨by show (0 : Nat) < _; omega, by show -1 ≤ (0 : Int) ∧ (0 : Int) ≤ 64; omega, by show (0 : Int) ≤ 0 ∧ (0 : Int) ≤ 64; omega, by show (0 : Int) ≤ 0 ∧ (0 : Int) ≤ 64; omega⟩
def SAll (S : List St) : Prop := ∀ j, SOk (stA S j)
theorem SAll.set {S : List St} (h : SAll S) (k : Nat) {s : St} (hs : SOk s) : SAll (S.set k s) := fun j => by
  by_cases hk : k < S.length
  · rw [stA_set hk s j]
    split
    · exact hs
    · exact h j
  · rw [List.set_eq_of_length_le (by omega)]; exact h j
theorem handP_sok {enc : Bool} {C : List In} {r : Int} {S : List St} {P : List Int} (h : SAll S) (k : Nat) {s : St} (hs : SOk s) : SAll (handP enc C r S P k s).2.1 := by
  unfold handP
  split
  · exact h
  split
  · exact h.set k hs
  · exact h
/-! ### What Check says -/
theorem frm_inA {enc : Bool} {C : List In} {ne k : Nat} (hk : k < C.length) (h : frm enc C ne k = true) : frmX enc C.length ne (inA C k) = true ∧ agr (inA C k) (C.drop (k + 1)) = true := by
  have hx : C[k]? = some (C[k]) := List.getElem?_eq_getElem hk
  have hA := inA_at hx
  unfold frm at h
  rw [hx] at h
  simp only [Bool.and_eq_true] at h
  rw [hA]
  exact h
theorem alw_b {nc ne k n : Int} (h : alw nc ne k n = true) : (bnd nc ne k).1 ≤ n ∧ n ≤ (bnd nc ne k).2 := by
  unfold alw at h
  rw [Bool.and_eq_true] at h
  exact of_decide_eq_true h.1
theorem Chk.cdok {enc : Bool} {C : List In} {E : List Int} (h : Chk enc C E) : CdOk enc C := by
  refine ⟨h.nc, fun k hk => ?_, fun k hk ho => ?_⟩
  · obtain ⟨h1, h2⟩ := frm_inA hk (h.code k hk)
    unfold frmX at h1
    simp only [Bool.and_eq_true] at h1
    obtain ⟨-, ha, hb, hc⟩ := h1
    have ha := alw_b ha
    have hb := alw_b hb
    refine ⟨fun _ => ⟨fun ho => ?_, fun ho => ?_⟩, fun ho => ?_, fun ho => ?_⟩
    · rcases ho with ho | ho | ho | ho | ho <;> (rw [ho] at ha; exact ha)
    · rw [ho] at ha hb
      unfold agr at h2
      rw [if_pos ho] at h2
      have h2 := of_decide_eq_true h2
      have ha : 0 ≤ (inA C k).a ∧ (inA C k).a ≤ 63 := ha
      have hb : 2 ≤ (inA C k).b ∧ (inA C k).b ≤ 64 := hb
      omega
    · rw [ho] at hb
      have hb : 2 ≤ (inA C k).b ∧ (inA C k).b ≤ 64 := hb
      omega
    · rw [ho] at ha
      have ha : 1 ≤ (inA C k).a ∧ (inA C k).a ≤ 64 := ha
      omega
  · obtain ⟨h1, h2⟩ := frm_inA hk (h.code k hk)
    unfold frmX at h1
    simp only [Bool.and_eq_true] at h1
    have ha := alw_b h1.2.1
    have ha : 1 ≤ (inA C k).a ∧ (inA C k).a ≤ 64 := by rcases ho with ho | ho <;> (rw [ho] at ha; exact ha)
    have h3 : agr (inA C k) (C.drop (k + 1)) = arms (C.drop (k + 1)) (inA C k).a := by
      unfold agr
      rw [if_neg (by omega), if_neg (by omega), if_neg (by omega), if_pos ho]
    rw [h3] at h2
    unfold arms at h2
    rw [Bool.and_eq_true] at h2
    have h4 := of_decide_eq_true h2.1
    rw [List.length_drop] at h4
    omega
theorem Chk.win {enc : Bool} {C : List In} {E : List Int} (h : Chk enc C E) : WIn C := by
  intro k hk y hy
  have hT : ∀ j, j < C.length → (inA C j).op = 7 ∨ (inA C j).op = 9 ∨ (inA C j).op = 11 ∨ (inA C j).op = 12 ∨ (inA C j).op = 13 ∨ (inA C j).op = 14 ∨ (inA C j).op = 15 ∨ (inA C j).op = 19 ∨ (inA C j).op = 40 ∨ (inA C j).op = 47 → 0 ≤ (inA C j).b ∧ (inA C j).b < (C.length : Int) := by
    intro j hj ho
    obtain ⟨h1, h2⟩ := frm_inA hj (h.code j hj)
    unfold frmX at h1
    simp only [Bool.and_eq_true] at h1
    have hb := alw_b h1.2.2.1
    have hb : 0 ≤ (inA C j).b ∧ (inA C j).b ≤ (C.length : Int) - 1 := by
      rcases ho with ho | ho | ho | ho | ho | ho | ho | ho | ho | ho <;> (rw [ho] at hb; exact hb)
    omega
  unfold waysP at hy
  split at hy
  · rename_i ho
    rw [List.mem_singleton] at hy
    have := hT k hk (by omega)
    omega
  split at hy
  · cases hy
  split at hy
  · rename_i ho
    obtain ⟨j, hj, rfl⟩ := List.mem_map.1 hy
    rw [List.mem_range] at hj
    have ha := (h.cdok).arm k hk ho
    have hj2 : k + 1 + j < C.length := by omega
    have h9 : (inA C (k + 1 + j)).op = 9 := by
      obtain ⟨h1, h2⟩ := frm_inA hk (h.code k hk)
      have h3 : agr (inA C k) (C.drop (k + 1)) = arms (C.drop (k + 1)) (inA C k).a := by
        unfold agr
        rw [if_neg (by omega), if_neg (by omega), if_neg (by omega), if_pos ho]
      rw [h3] at h2
      unfold arms at h2
      rw [Bool.and_eq_true, List.all_eq_true] at h2
      have h4 := h2.2 j (List.mem_range.2 hj)
      unfold armOk at h4
      rw [List.getElem?_drop, List.getElem?_eq_getElem hj2] at h4
      simp only [Bool.and_eq_true, beq_iff_eq] at h4
      rw [inA_at (List.getElem?_eq_getElem hj2)]
      exact h4.1
    have := hT (k + 1 + j) hj2 (by omega)
    omega
  split at hy
  · rename_i ho
    simp only [List.mem_cons, List.not_mem_nil, or_false] at hy
    rcases hy with rfl | rfl
    · omega
    · have := hT k hk (by omega)
      omega
  · rw [List.mem_singleton] at hy
    omega
end Go.Proofs.YtiojpohmgjdgfaaGreat
