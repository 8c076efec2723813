import Derived.Test.YtjamfbpdepahnaaGreatPart28
namespace Go.Proofs.YtjamfbpdepahnaaGreat
open Go.RowKit
set_option linter.unusedVariables false
set_option linter.unusedSimpArgs false
def cameP (S : List St) (k : Nat) : Bool := (stA S k).pl != 0
def qAt (Q : List Bool) (k : Nat) : Bool := Q.getD k false
def enA (E : List Int) (c : Int) : Int := E.getD c.toNat 0
def idleP (C : List In) (E : List Int) (S : List St) (Q : List Bool) (k : Nat) : Bool := (inA C k).op == 16 && (cameP S k && qAt Q (enA E (inA C k).c).toNat)
def bareP (C : List In) (E : List Int) (S : List St) (Q : List Bool) (k : Nat) : List Int :=
  if (inA C k).op = 1 ∨ (inA C k).op = 2 ∨ (inA C k).op = 3 ∨ (inA C k).op = 4 ∨ (inA C k).op = 7 ∨ (inA C k).op = 8 ∨ (inA C k).op = 10 then [] else
  if (33 ≤ (inA C k).op ∧ (inA C k).op ≤ 41) ∨ (44 ≤ (inA C k).op ∧ (inA C k).op ≤ 46) then [] else
  if (inA C k).op = 11 then [(inA C k).b] else
  if (inA C k).op = 17 ∧ (inA C k).a = -1 then [] else
  if (inA C k).op = 16 ∧ idleP C E S Q k = false then [] else waysP C k
def qbyP (C : List In) (E : List Int) (k : Nat) : List Int := if (inA C k).op = 16 then waysP C k ++ [enA E (inA C k).c] else waysP C k
def isqP (C : List In) (E : List Int) (S : List St) (Q : List Bool) (k : Nat) : Bool := (inA C k).op == 20 || (if (inA C k).op = 17 then waysP C k else bareP C E S Q k).any (fun y => qAt Q y.toNat)
structure CeOk (enc : Bool) (C : List In) (E : List Int) : Prop where
  cd : CdOk enc C
  win : WIn C
  cal : ∀ k, k < C.length → (inA C k).op = 16 → 0 ≤ (inA C k).c ∧ (inA C k).c < (E.length : Int)
  ent : ∀ i, i < E.length → 0 ≤ E.getD i 0 ∧ E.getD i 0 < (C.length : Int)
  ne : E.length ≤ 1048576
theorem Chk.ceok {enc : Bool} {C : List In} {E : List Int} (h : Chk enc C E) : CeOk enc C E := by
  refine ⟨h.cdok, h.win, fun k hk ho => ?_, h.ent, h.ne⟩
  obtain ⟨h1, h2⟩ := frm_inA hk (h.code k hk)
  unfold frmX at h1
  simp only [Bool.and_eq_true] at h1
  have hc := alw_b h1.2.2.2
  rw [ho] at hc
  have hc : 0 ≤ (inA C k).c ∧ (inA C k).c ≤ (E.length : Int) - 1 := hc
  omega
structure PtS (w : World) (b cc ce gs gq : Nat) (ac ae : Option Addr) (enc : Bool) (C : List In) (E : List Int) (S : List St) (Q : List Bool) (vb : Value) : Prop where
  blk : Blk w b 75 [.bool enc, .slice ac C.length cc, .slice ae E.length ce, .slice (some ⟨gs, 0, none⟩) C.length C.length, .slice (some ⟨gq, 0, none⟩) C.length C.length, vb]
  code : IRow w ac C
  ent : Row .i64 w ae E
  st : Blk w gs 101 (cellsG stc S)
  len : S.length = C.length
  qt : Blk w gq 4 (Q.map Value.bool)
  qlen : Q.length = C.length
section
variable {w w' : World} {b cc ce gs gq : Nat} {ac ae : Option Addr} {enc : Bool} {C : List In} {E : List Int} {S : List St} {Q : List Bool} {vb : Value}
theorem PtS.later (h : PtS w b cc ce gs gq ac ae enc C E S Q vb) (hB : Below w.heap.size w w') : PtS w' b cc ce gs gq ac ae enc C E S Q vb :=
  ⟨h.blk.later hB, h.code.later hB, h.ent.later hB, h.st.later hB, h.len, h.qt.later hB, h.qlen⟩
theorem PtS.cells (h : PtS w b cc ce gs gq ac ae enc C E S Q vb) : w.cell? ⟨b, 0, none⟩ = some (.bool enc) ∧ w.cell? ⟨b, 1, none⟩ = some (.slice ac C.length cc) ∧ w.cell? ⟨b, 2, none⟩ = some (.slice ae E.length ce) ∧ w.cell? ⟨b, 3, none⟩ = some (.slice (some ⟨gs, 0, none⟩) C.length C.length) ∧ w.cell? ⟨b, 4, none⟩ = some (.slice (some ⟨gq, 0, none⟩) C.length C.length) ∧ w.cell? ⟨b, 5, none⟩ = some vb :=
  ⟨by rw [h.blk.cell 0]; rfl, by rw [h.blk.cell 1]; rfl, by rw [h.blk.cell 2]; rfl, by rw [h.blk.cell 3]; rfl, by rw [h.blk.cell 4]; rfl, by rw [h.blk.cell 5]; rfl⟩
theorem PtS.adr (h : PtS w b cc ce gs gq ac ae enc C E S Q vb) {k : Nat} (hk : k < C.length) : ∃ bc oc, ac = some ⟨bc, oc, none⟩ := by
  obtain ⟨bc, oc, e, _⟩ := h.code.open (by omega)
  exact ⟨bc, oc, e⟩
theorem PtS.plAt (h : PtS w b cc ce gs gq ac ae enc C E S Q vb) {k : Nat} (hk : k < C.length) : w.cell? ⟨gs, k * 7, none⟩ = some (.int .i64 (stA S k).pl) := by
  have hl := h.len
  have hs : S[k]? = some (stA S k) := by rw [List.getElem?_eq_getElem (by omega)]; simp [stA, List.getD, show k < S.length by omega]
  exact (h.st.cell (k * 7 + 0)).trans (cellsG_at (f := stc) (c := 7) stc_len S k 0 _ hs (by decide))
theorem PtS.qtAt (h : PtS w b cc ce gs gq ac ae enc C E S Q vb) {k : Nat} (hk : k < C.length) : w.cell? ⟨gq, k, none⟩ = some (.bool (qAt Q k)) := by
  have hl := h.qlen
  rw [h.qt.cell k]
  simp [qAt, List.getD, show k < Q.length by omega]
end
set_option maxRecDepth 100000 in
set_option maxHeartbeats 4000000 in
theorem cameTo_any (b cc ce gs gq : Nat) (ac ae : Option Addr) (enc : Bool) (C : List In) (E : List Int) (S : List St) (Q : List Bool) (vb : Value) (k : Nat) (w : World) (hk : k < C.length) (h : Hid (PtS w b cc ce gs gq ac ae enc C E S Q vb)) :
    Calls Tryz.prog 55 #[.pointer (some ⟨b, 0, none⟩), .int .i64 (k : Int)] w fun e w' => e = .returned (.bool (cameP S k)) ∧ w = w' := by
  obtain ⟨bc, oc, hac⟩ := h.out.adr hk
  subst hac
  obtain ⟨c0, c1, c2, c3, c4, c5⟩ := h.out.cells
  have p0 := h.out.plAt hk
  have hkc : (k : Int) < (C.length : Int) := by omega
  go_enter Tryz.func55, Tryz.ntmps55
  go_wp2_with fail
  go_ret
  exact ⟨rfl, rfl⟩
set_option maxRecDepth 100000 in
set_option maxHeartbeats 4000000 in
theorem pways_any (b cc ce gs gq : Nat) (ac ae : Option Addr) (enc : Bool) (C : List In) (E : List Int) (S : List St) (Q : List Bool) (vb : Value) (k : Nat) (w : World) (hk : k < C.length) (hcc : C.length ≤ cc) (hcl : cc ≤ 9223372036854775807) (hC : Hid (CdOk enc C)) (h : Hid (PtS w b cc ce gs gq ac ae enc C E S Q vb)) :
    Calls Tryz.prog 42 #[.pointer (some ⟨b, 0, none⟩), .int .i64 (k : Int)] w fun e w' => ∃ v, e = .returned v ∧ Hid (IOwn w' w.heap.size v (waysP C k)) ∧ Hid (Below w.heap.size w w') := by
  obtain ⟨bc, oc, hac⟩ := h.out.adr hk
  subst hac
  obtain ⟨c0, c1, c2, c3, c4, c5⟩ := h.out.cells
  have HW := hide_ (ways_any bc oc cc C k w hk hcc hcl hC.out.nc (hide_ h.out.code) (hC.out.arm k hk))
  go_enter Tryz.func42, Tryz.ntmps42
  go_wp2_with fail
  refine HW.out.mono ?_
  rintro e w3 ⟨v, rfl, HO, HB⟩
  go_wp2_with fail
  go_ret
  exact ⟨v, rfl, HO, HB⟩
set_option maxRecDepth 100000 in
set_option maxHeartbeats 8000000 in
theorem idle_any (b cc ce gs gq : Nat) (ac ae : Option Addr) (enc : Bool) (C : List In) (E : List Int) (S : List St) (Q : List Bool) (vb : Value) (k : Nat) (w : World) (hk : k < C.length) (hC : Hid (CeOk enc C E)) (h : Hid (PtS w b cc ce gs gq ac ae enc C E S Q vb)) :
    Calls Tryz.prog 43 #[.pointer (some ⟨b, 0, none⟩), .int .i64 (k : Int)] w fun e w' => e = .returned (.bool (idleP C E S Q k)) ∧ Below w.heap.size w w' := by
  obtain ⟨bc, oc, hac⟩ := h.out.adr hk
  subst hac
  obtain ⟨x, hx⟩ : ∃ x, C[k]? = some x := ⟨_, List.getElem?_eq_getElem hk⟩
  have hxA : inA C k = x := inA_at hx
  obtain ⟨w2, hw2⟩ : ∃ wx, w.alloc (.cells #[.int .i64 x.op, .int .i64 x.a, .int .i64 x.b, .int .i64 x.c] 37) = wx := ⟨_, rfl⟩
  have hB2 : Below w.heap.size w w2 := by rw [← hw2]; exact below1 _ _
  have KX : Blk w2 w.heap.size 37 (inc x) := by rw [← hw2]; exact Blk.newA w _ _
  have L2 := h.out.later hB2
  obtain ⟨-, c1, -, -, -, -⟩ := h.out.cells
  obtain ⟨-, -, c2, -, c4, -⟩ := L2.cells
  obtain ⟨j0, j1, j2, j3⟩ := h.out.code.at hx
  obtain ⟨i0, i1, i2, i3⟩ := KX.ci
  have hkc : (k : Int) < (C.length : Int) := by omega
  have HB2 := hide_ hB2
  have HBd : Hid (Below w2.heap.size w2 w2.drew) := hide_ ((Below.refl _ _).drew)
  have HCa : Hid (∀ w3, Below w2.heap.size w2 w3 → Calls Tryz.prog 55 #[.pointer (some ⟨b, 0, none⟩), .int .i64 (k : Int)] w3 fun e w' => e = .returned (.bool (cameP S k)) ∧ w3 = w') := hide_ (fun w3 hB => cameTo_any b cc ce gs gq _ ae enc C E S Q vb k w3 hk (hide_ (L2.later hB)))
  by_cases ho : x.op = 16
  · have hcal := hC.out.cal k hk (by rw [hxA]; exact ho)
    rw [hxA] at hcal
    obtain ⟨m, hm⟩ := Int.eq_ofNat_of_zero_le hcal.1
    have hmE : m < E.length := by omega
    have hent := hC.out.ent m hmE
    obtain ⟨q, hq⟩ := Int.eq_ofNat_of_zero_le hent.1
    have hqC : q < C.length := by omega
    obtain ⟨be, oe, hae, hbe, hce⟩ := L2.ent.open (by omega)
    have eq := hce m hmE
    rw [hq] at eq
    obtain ⟨z, hz⟩ : ∃ z, qAt Q q = z := ⟨_, rfl⟩
    have qq := L2.qtAt hqC
    rw [hz] at qq
    rw [hae] at c2
    have hmEi : (m : Int) < (E.length : Int) := by omega
    have hqCi : (q : Int) < (C.length : Int) := by omega
    obtain ⟨a, ha⟩ : ∃ a, cameP S k = a := ⟨_, rfl⟩
    have HE : Hid (idleP C E S Q k = (a && z)) := hide_ (by unfold idleP enA; rw [hxA, ho, hm, Int.toNat_natCast, hq, Int.toNat_natCast, hz, ha]; simp)
    rw [ha] at HCa
    have Ho := hide_ ho
    have Hm := hide_ hm
    clear ha hz hq hent hcal hae hbe hce ho hm hB2 KX L2 hx hxA h
    go_enter Tryz.func43, Tryz.ntmps43
    go_upto_region 2 with fail
    try rw [hw2]
    clear hw2 c1 j0 j1 j2 j3
    rw [Ho.out] at i0
    rw [Hm.out] at i3
    cases a
    · refine wp_region_last 25 (fun w' => w'.cell? ⟨w.heap.size, 0, none⟩ = some (.int .i64 16) ∧ w'.cell? ⟨w.heap.size, 3, none⟩ = some (.int .i64 (m : Int))) (by kernel_rfl) (⟨i0, i3⟩) (fun hHeld => ?_)
      refine wpAnyF_take [25] (by kernel_rfl) (i := 0) (v := ?vq1) rfl (by kernel_rfl) (by kernel_rfl) (by kernel_rfl) (fun _ _ _ h => h) (Or.inl ⟨by kernel_rfl, ?hyq1⟩) hHeld ?restq1
      case hyq1 => intro w' hSw; (try dsimp only at hSw); go_simp; try with_reducible rfl
      simp only [Act.put]
      try dsimp only
      refine wpAnyF_take [25] (by kernel_rfl) (i := 1) (v := ?vq2) rfl (by kernel_rfl) (by kernel_rfl) (by kernel_rfl) (fun _ _ _ h => h) (Or.inl ⟨by kernel_rfl, ?hyq2⟩) hHeld ?restq2
      case hyq2 => intro w' hSw; (try dsimp only at hSw); go_simp; try with_reducible rfl
      simp only [Act.put]
      try dsimp only
      refine wpAnyF_take [25] (by kernel_rfl) (i := 2) (v := ?vq3) rfl (by kernel_rfl) (by kernel_rfl) (by kernel_rfl) (fun _ _ _ h => h) (Or.inl ⟨by kernel_rfl, ?hyq3⟩) hHeld ?restq3
      case hyq3 => intro w' hSw; (try dsimp only at hSw); go_simp; try with_reducible rfl
      simp only [Act.put]
      try dsimp only
      refine wpAnyF_take [25] (by kernel_rfl) (i := 3) (v := ?vq4) rfl (by kernel_rfl) (by kernel_rfl) (by kernel_rfl) (fun _ _ _ h => h) (Or.inl ⟨by kernel_rfl, ?hyq4⟩) hHeld ?restq4
      case hyq4 => intro w' hSw; (try dsimp only at hSw); go_simp; try with_reducible rfl
      simp only [Act.put]
      try dsimp only
      refine wpAnyF_take [25] (by kernel_rfl) (i := 4) (v := ?vq5) rfl (by kernel_rfl) (by kernel_rfl) (by kernel_rfl) (fun _ _ _ h => h) (Or.inl ⟨by kernel_rfl, ?hyq5⟩) hHeld ?restq5
      case hyq5 => intro w' hSw; (try dsimp only at hSw); go_simp; try with_reducible rfl
      simp only [Act.put]
      try dsimp only
      refine wpAnyF_take [25] (by kernel_rfl) (i := 5) (v := ?vq6) rfl (by kernel_rfl) (by kernel_rfl) (by kernel_rfl) (fun _ _ _ h => h) (Or.inl ⟨by kernel_rfl, ?hyq6⟩) hHeld ?restq6
      case hyq6 => intro w' hSw; (try dsimp only at hSw); go_simp; try with_reducible rfl
      simp only [Act.put]
      try dsimp only
      refine wpAnyF_ready (rs := [6]) (by kernel_rfl) (by simp) ?_
      refine AllReadyF.cons rfl (fun K hK => ?_) AllReadyF.nil
      go_simp
      refine (HCa.out w2.drew HBd.out).mono ?_
      rintro e w3 ⟨rfl, rfl⟩
      go_simp
      refine hK.out _ _ (hHeld) (fun hHeld => ?_)
      clear hK K
      refine wpAnyF_take [25] (by kernel_rfl) (i := 7) (v := ?vq7) rfl (by kernel_rfl) (by kernel_rfl) (by kernel_rfl) (fun _ _ _ h => h) (Or.inl ⟨by kernel_rfl, ?hyq7⟩) hHeld ?restq7
      case hyq7 => intro w' hSw; (try dsimp only at hSw); go_simp; try with_reducible rfl
      simp only [Act.put]
      try dsimp only
      refine wpAnyF_take [25] (by kernel_rfl) (i := 8) (v := ?vq8) rfl (by kernel_rfl) (by kernel_rfl) (by kernel_rfl) (fun _ _ _ h => h) (Or.inl ⟨by kernel_rfl, ?hyq8⟩) hHeld ?restq8
      case hyq8 => intro w' hSw; (try dsimp only at hSw); go_simp; try with_reducible rfl
      simp only [Act.put]
      try dsimp only
      refine wpAnyF_take [25] (by kernel_rfl) (i := 9) (v := undef) rfl (by kernel_rfl) (by kernel_rfl) (by kernel_rfl) (fun _ _ _ h => h) (Or.inr ⟨by kernel_rfl, rfl⟩) hHeld ?_
      simp only [Act.put]
      try dsimp only
      refine wpAnyF_take [25] (by kernel_rfl) (i := 10) (v := undef) rfl (by kernel_rfl) (by kernel_rfl) (by kernel_rfl) (fun _ _ _ h => h) (Or.inr ⟨by kernel_rfl, rfl⟩) hHeld ?_
      simp only [Act.put]
      try dsimp only
      refine wpAnyF_take [25] (by kernel_rfl) (i := 11) (v := undef) rfl (by kernel_rfl) (by kernel_rfl) (by kernel_rfl) (fun _ _ _ h => h) (Or.inr ⟨by kernel_rfl, rfl⟩) hHeld ?_
      simp only [Act.put]
      try dsimp only
      refine wpAnyF_take [25] (by kernel_rfl) (i := 12) (v := undef) rfl (by kernel_rfl) (by kernel_rfl) (by kernel_rfl) (fun _ _ _ h => h) (Or.inr ⟨by kernel_rfl, rfl⟩) hHeld ?_
      simp only [Act.put]
      try dsimp only
      refine wpAnyF_take [25] (by kernel_rfl) (i := 13) (v := undef) rfl (by kernel_rfl) (by kernel_rfl) (by kernel_rfl) (fun _ _ _ h => h) (Or.inr ⟨by kernel_rfl, rfl⟩) hHeld ?_
      simp only [Act.put]
      try dsimp only
      refine wpAnyF_take [25] (by kernel_rfl) (i := 14) (v := undef) rfl (by kernel_rfl) (by kernel_rfl) (by kernel_rfl) (fun _ _ _ h => h) (Or.inr ⟨by kernel_rfl, rfl⟩) hHeld ?_
      simp only [Act.put]
      try dsimp only
      refine wpAnyF_take [25] (by kernel_rfl) (i := 15) (v := undef) rfl (by kernel_rfl) (by kernel_rfl) (by kernel_rfl) (fun _ _ _ h => h) (Or.inr ⟨by kernel_rfl, rfl⟩) hHeld ?_
      simp only [Act.put]
      try dsimp only
      refine wpAnyF_take [25] (by kernel_rfl) (i := 16) (v := undef) rfl (by kernel_rfl) (by kernel_rfl) (by kernel_rfl) (fun _ _ _ h => h) (Or.inr ⟨by kernel_rfl, rfl⟩) hHeld ?_
      simp only [Act.put]
      try dsimp only
      refine wpAnyF_take [25] (by kernel_rfl) (i := 17) (v := undef) rfl (by kernel_rfl) (by kernel_rfl) (by kernel_rfl) (fun _ _ _ h => h) (Or.inr ⟨by kernel_rfl, rfl⟩) hHeld ?_
      simp only [Act.put]
      try dsimp only
      refine wpAnyF_take [25] (by kernel_rfl) (i := 18) (v := undef) rfl (by kernel_rfl) (by kernel_rfl) (by kernel_rfl) (fun _ _ _ h => h) (Or.inr ⟨by kernel_rfl, rfl⟩) hHeld ?_
      simp only [Act.put]
      try dsimp only
      refine wpAnyF_take [25] (by kernel_rfl) (i := 19) (v := undef) rfl (by kernel_rfl) (by kernel_rfl) (by kernel_rfl) (fun _ _ _ h => h) (Or.inr ⟨by kernel_rfl, rfl⟩) hHeld ?_
      simp only [Act.put]
      try dsimp only
      refine wpAnyF_take [25] (by kernel_rfl) (i := 20) (v := undef) rfl (by kernel_rfl) (by kernel_rfl) (by kernel_rfl) (fun _ _ _ h => h) (Or.inr ⟨by kernel_rfl, rfl⟩) hHeld ?_
      simp only [Act.put]
      try dsimp only
      refine wpAnyF_take [25] (by kernel_rfl) (i := 21) (v := undef) rfl (by kernel_rfl) (by kernel_rfl) (by kernel_rfl) (fun _ _ _ h => h) (Or.inr ⟨by kernel_rfl, rfl⟩) hHeld ?_
      simp only [Act.put]
      try dsimp only
      refine wpAnyF_take [25] (by kernel_rfl) (i := 22) (v := undef) rfl (by kernel_rfl) (by kernel_rfl) (by kernel_rfl) (fun _ _ _ h => h) (Or.inr ⟨by kernel_rfl, rfl⟩) hHeld ?_
      simp only [Act.put]
      try dsimp only
      refine wpAnyF_take [25] (by kernel_rfl) (i := 23) (v := undef) rfl (by kernel_rfl) (by kernel_rfl) (by kernel_rfl) (fun _ _ _ h => h) (Or.inr ⟨by kernel_rfl, rfl⟩) hHeld ?_
      simp only [Act.put]
      try dsimp only
      refine wpAnyF_take [25] (by kernel_rfl) (i := 24) (v := ?vq9) rfl (by kernel_rfl) (by kernel_rfl) (by kernel_rfl) (fun _ _ _ h => h) (Or.inl ⟨by kernel_rfl, ?hyq9⟩) hHeld ?restq9
      case hyq9 => intro w' hSw; (try dsimp only at hSw); go_simp; try with_reducible rfl
      simp only [Act.put]
      try dsimp only
      refine wpAnyF_ready (rs := [25]) (by kernel_rfl) (by simp) ?_
      refine AllReadyF.last rfl (fun K hK => ?_)
      go_simp
      refine hK.out _ _ ?_
      clear hK K
      refine wpAnyF_done (by kernel_rfl) ?_ _
      go_wp2_with fail
      go_ret
      exact ⟨by rw [HE.out]; rfl, HB2.out.drew⟩
    · refine wp_region_last 25 (fun w' => w'.cell? ⟨w.heap.size, 0, none⟩ = some (.int .i64 16) ∧ w'.cell? ⟨w.heap.size, 3, none⟩ = some (.int .i64 (m : Int)) ∧ w'.cell? ⟨b, 2, none⟩ = some (.slice (some ⟨be, oe, none⟩) E.length ce) ∧ w'.cell? ⟨b, 4, none⟩ = some (.slice (some ⟨gq, 0, none⟩) C.length C.length) ∧ w'.cell? ⟨be, oe + m, none⟩ = some (.int .i64 (q : Int)) ∧ w'.cell? ⟨gq, q, none⟩ = some (.bool z)) (by kernel_rfl) (⟨i0, i3, c2, c4, eq, qq⟩) (fun hHeld => ?_)
      refine wpAnyF_take [25] (by kernel_rfl) (i := 0) (v := ?vr1) rfl (by kernel_rfl) (by kernel_rfl) (by kernel_rfl) (fun _ _ _ h => h) (Or.inl ⟨by kernel_rfl, ?hyr1⟩) hHeld ?restr1
      case hyr1 => intro w' hSw; (try dsimp only at hSw); go_simp; try with_reducible rfl
      simp only [Act.put]
      try dsimp only
      refine wpAnyF_take [25] (by kernel_rfl) (i := 1) (v := ?vr2) rfl (by kernel_rfl) (by kernel_rfl) (by kernel_rfl) (fun _ _ _ h => h) (Or.inl ⟨by kernel_rfl, ?hyr2⟩) hHeld ?restr2
      case hyr2 => intro w' hSw; (try dsimp only at hSw); go_simp; try with_reducible rfl
      simp only [Act.put]
      try dsimp only
      refine wpAnyF_take [25] (by kernel_rfl) (i := 2) (v := ?vr3) rfl (by kernel_rfl) (by kernel_rfl) (by kernel_rfl) (fun _ _ _ h => h) (Or.inl ⟨by kernel_rfl, ?hyr3⟩) hHeld ?restr3
      case hyr3 => intro w' hSw; (try dsimp only at hSw); go_simp; try with_reducible rfl
      simp only [Act.put]
      try dsimp only
      refine wpAnyF_take [25] (by kernel_rfl) (i := 3) (v := ?vr4) rfl (by kernel_rfl) (by kernel_rfl) (by kernel_rfl) (fun _ _ _ h => h) (Or.inl ⟨by kernel_rfl, ?hyr4⟩) hHeld ?restr4
      case hyr4 => intro w' hSw; (try dsimp only at hSw); go_simp; try with_reducible rfl
      simp only [Act.put]
      try dsimp only
      refine wpAnyF_take [25] (by kernel_rfl) (i := 4) (v := ?vr5) rfl (by kernel_rfl) (by kernel_rfl) (by kernel_rfl) (fun _ _ _ h => h) (Or.inl ⟨by kernel_rfl, ?hyr5⟩) hHeld ?restr5
      case hyr5 => intro w' hSw; (try dsimp only at hSw); go_simp; try with_reducible rfl
      simp only [Act.put]
      try dsimp only
      refine wpAnyF_take [25] (by kernel_rfl) (i := 5) (v := ?vr6) rfl (by kernel_rfl) (by kernel_rfl) (by kernel_rfl) (fun _ _ _ h => h) (Or.inl ⟨by kernel_rfl, ?hyr6⟩) hHeld ?restr6
      case hyr6 => intro w' hSw; (try dsimp only at hSw); go_simp; try with_reducible rfl
      simp only [Act.put]
      try dsimp only
      refine wpAnyF_ready (rs := [6]) (by kernel_rfl) (by simp) ?_
      refine AllReadyF.cons rfl (fun K hK => ?_) AllReadyF.nil
      go_simp
      refine (HCa.out w2.drew HBd.out).mono ?_
      rintro e w3 ⟨rfl, rfl⟩
      go_simp
      refine hK.out _ _ (hHeld) (fun hHeld => ?_)
      clear hK K
      refine wpAnyF_take [25] (by kernel_rfl) (i := 7) (v := ?vr7) rfl (by kernel_rfl) (by kernel_rfl) (by kernel_rfl) (fun _ _ _ h => h) (Or.inl ⟨by kernel_rfl, ?hyr7⟩) hHeld ?restr7
      case hyr7 => intro w' hSw; (try dsimp only at hSw); go_simp; try with_reducible rfl
      simp only [Act.put]
      try dsimp only
      refine wpAnyF_take [25] (by kernel_rfl) (i := 8) (v := ?vr8) rfl (by kernel_rfl) (by kernel_rfl) (by kernel_rfl) (fun _ _ _ h => h) (Or.inl ⟨by kernel_rfl, ?hyr8⟩) hHeld ?restr8
      case hyr8 => intro w' hSw; (try dsimp only at hSw); go_simp; try with_reducible rfl
      simp only [Act.put]
      try dsimp only
      refine wpAnyF_take [25] (by kernel_rfl) (i := 9) (v := ?vr9) rfl (by kernel_rfl) (by kernel_rfl) (by kernel_rfl) (fun _ _ _ h => h) (Or.inl ⟨by kernel_rfl, ?hyr9⟩) hHeld ?restr9
      case hyr9 => intro w' hSw; (try dsimp only at hSw); go_simp; try with_reducible rfl
      simp only [Act.put]
      try dsimp only
      refine wpAnyF_take [25] (by kernel_rfl) (i := 10) (v := ?vr10) rfl (by kernel_rfl) (by kernel_rfl) (by kernel_rfl) (fun _ _ _ h => h) (Or.inl ⟨by kernel_rfl, ?hyr10⟩) hHeld ?restr10
      case hyr10 => intro w' hSw; (try dsimp only at hSw); go_simp; try with_reducible rfl
      simp only [Act.put]
      try dsimp only
      refine wpAnyF_take [25] (by kernel_rfl) (i := 11) (v := ?vr11) rfl (by kernel_rfl) (by kernel_rfl) (by kernel_rfl) (fun _ _ _ h => h) (Or.inl ⟨by kernel_rfl, ?hyr11⟩) hHeld ?restr11
      case hyr11 => intro w' hSw; (try dsimp only at hSw); go_simp; try with_reducible rfl
      simp only [Act.put]
      try dsimp only
      refine wpAnyF_take [25] (by kernel_rfl) (i := 12) (v := ?vr12) rfl (by kernel_rfl) (by kernel_rfl) (by kernel_rfl) (fun _ _ _ h => h) (Or.inl ⟨by kernel_rfl, ?hyr12⟩) hHeld ?restr12
      case hyr12 => intro w' hSw; (try dsimp only at hSw); go_simp; try with_reducible rfl
      simp only [Act.put]
      try dsimp only
      refine wpAnyF_take [25] (by kernel_rfl) (i := 13) (v := ?vr13) rfl (by kernel_rfl) (by kernel_rfl) (by kernel_rfl) (fun _ _ _ h => h) (Or.inl ⟨by kernel_rfl, ?hyr13⟩) hHeld ?restr13
      case hyr13 => intro w' hSw; (try dsimp only at hSw); go_simp; try with_reducible rfl
      simp only [Act.put]
      try dsimp only
      refine wpAnyF_take [25] (by kernel_rfl) (i := 14) (v := ?vr14) rfl (by kernel_rfl) (by kernel_rfl) (by kernel_rfl) (fun _ _ _ h => h) (Or.inl ⟨by kernel_rfl, ?hyr14⟩) hHeld ?restr14
      case hyr14 => intro w' hSw; (try dsimp only at hSw); go_simp; try with_reducible rfl
      simp only [Act.put]
      try dsimp only
      refine wpAnyF_take [25] (by kernel_rfl) (i := 15) (v := ?vr15) rfl (by kernel_rfl) (by kernel_rfl) (by kernel_rfl) (fun _ _ _ h => h) (Or.inl ⟨by kernel_rfl, ?hyr15⟩) hHeld ?restr15
      case hyr15 => intro w' hSw; (try dsimp only at hSw); go_simp; try with_reducible rfl
      simp only [Act.put]
      try dsimp only
      refine wpAnyF_take [25] (by kernel_rfl) (i := 16) (v := ?vr16) rfl (by kernel_rfl) (by kernel_rfl) (by kernel_rfl) (fun _ _ _ h => h) (Or.inl ⟨by kernel_rfl, ?hyr16⟩) hHeld ?restr16
      case hyr16 => intro w' hSw; (try dsimp only at hSw); go_simp; try with_reducible rfl
      simp only [Act.put]
      try dsimp only
      refine wpAnyF_take [25] (by kernel_rfl) (i := 17) (v := ?vr17) rfl (by kernel_rfl) (by kernel_rfl) (by kernel_rfl) (fun _ _ _ h => h) (Or.inl ⟨by kernel_rfl, ?hyr17⟩) hHeld ?restr17
      case hyr17 => intro w' hSw; (try dsimp only at hSw); go_simp; try with_reducible rfl
      simp only [Act.put]
      try dsimp only
      refine wpAnyF_take [25] (by kernel_rfl) (i := 18) (v := ?vr18) rfl (by kernel_rfl) (by kernel_rfl) (by kernel_rfl) (fun _ _ _ h => h) (Or.inl ⟨by kernel_rfl, ?hyr18⟩) hHeld ?restr18
      case hyr18 => intro w' hSw; (try dsimp only at hSw); go_simp; try with_reducible rfl
      simp only [Act.put]
      try dsimp only
      refine wpAnyF_take [25] (by kernel_rfl) (i := 19) (v := ?vr19) rfl (by kernel_rfl) (by kernel_rfl) (by kernel_rfl) (fun _ _ _ h => h) (Or.inl ⟨by kernel_rfl, ?hyr19⟩) hHeld ?restr19
      case hyr19 => intro w' hSw; (try dsimp only at hSw); go_simp; try with_reducible rfl
      simp only [Act.put]
      try dsimp only
      refine wpAnyF_take [25] (by kernel_rfl) (i := 20) (v := ?vr20) rfl (by kernel_rfl) (by kernel_rfl) (by kernel_rfl) (fun _ _ _ h => h) (Or.inl ⟨by kernel_rfl, ?hyr20⟩) hHeld ?restr20
      case hyr20 => intro w' hSw; (try dsimp only at hSw); go_simp; try with_reducible rfl
      simp only [Act.put]
      try dsimp only
      refine wpAnyF_take [25] (by kernel_rfl) (i := 21) (v := ?vr21) rfl (by kernel_rfl) (by kernel_rfl) (by kernel_rfl) (fun _ _ _ h => h) (Or.inl ⟨by kernel_rfl, ?hyr21⟩) hHeld ?restr21
      case hyr21 => intro w' hSw; (try dsimp only at hSw); go_simp; try with_reducible rfl
      simp only [Act.put]
      try dsimp only
      refine wpAnyF_take [25] (by kernel_rfl) (i := 22) (v := ?vr22) rfl (by kernel_rfl) (by kernel_rfl) (by kernel_rfl) (fun _ _ _ h => h) (Or.inl ⟨by kernel_rfl, ?hyr22⟩) hHeld ?restr22
      case hyr22 => intro w' hSw; (try dsimp only at hSw); go_simp; try with_reducible rfl
      simp only [Act.put]
      try dsimp only
      refine wpAnyF_take [25] (by kernel_rfl) (i := 23) (v := ?vr23) rfl (by kernel_rfl) (by kernel_rfl) (by kernel_rfl) (fun _ _ _ h => h) (Or.inl ⟨by kernel_rfl, ?hyr23⟩) hHeld ?restr23
      case hyr23 => intro w' hSw; (try dsimp only at hSw); go_simp; try with_reducible rfl
      simp only [Act.put]
      try dsimp only
      refine wpAnyF_take [25] (by kernel_rfl) (i := 24) (v := ?vr24) rfl (by kernel_rfl) (by kernel_rfl) (by kernel_rfl) (fun _ _ _ h => h) (Or.inl ⟨by kernel_rfl, ?hyr24⟩) hHeld ?restr24
      case hyr24 => intro w' hSw; (try dsimp only at hSw); go_simp; try with_reducible rfl
      simp only [Act.put]
      try dsimp only
      refine wpAnyF_ready (rs := [25]) (by kernel_rfl) (by simp) ?_
      refine AllReadyF.last rfl (fun K hK => ?_)
      go_simp
      refine hK.out _ _ ?_
      clear hK K
      refine wpAnyF_done (by kernel_rfl) ?_ _
      go_wp2_with fail
      go_ret
      exact ⟨by rw [HE.out]; rfl, HB2.out.drew⟩
  · have f0 : (x.op == 16) = false := by simpa using ho
    have HE : Hid (idleP C E S Q k = false) := hide_ (by unfold idleP; rw [hxA, f0]; simp)
    clear ho hB2 KX L2 hx hxA h c2 c4
    go_enter Tryz.func43, Tryz.ntmps43
    go_upto_region 2 with fail
    try rw [hw2]
    clear hw2 c1 j0 j1 j2 j3
    refine wp_region_last 25 (fun w' => w'.cell? ⟨w.heap.size, 0, none⟩ = some (.int .i64 x.op) ∧ w'.cell? ⟨w.heap.size, 3, none⟩ = some (.int .i64 x.c)) (by kernel_rfl) (⟨i0, i3⟩) (fun hHeld => ?_)
    refine wpAnyF_take [25] (by kernel_rfl) (i := 0) (v := ?vp1) rfl (by kernel_rfl) (by kernel_rfl) (by kernel_rfl) (fun _ _ _ h => h) (Or.inl ⟨by kernel_rfl, ?hyp1⟩) hHeld ?restp1
    case hyp1 => intro w' hSw; (try dsimp only at hSw); go_simp; try with_reducible rfl
    simp only [Act.put]
    try dsimp only
    refine wpAnyF_take [25] (by kernel_rfl) (i := 1) (v := ?vp2) rfl (by kernel_rfl) (by kernel_rfl) (by kernel_rfl) (fun _ _ _ h => h) (Or.inl ⟨by kernel_rfl, ?hyp2⟩) hHeld ?restp2
    case hyp2 => intro w' hSw; (try dsimp only at hSw); go_simp; try with_reducible rfl
    simp only [Act.put]
    try dsimp only
    refine wpAnyF_take [25] (by kernel_rfl) (i := 2) (v := ?vp3) rfl (by kernel_rfl) (by kernel_rfl) (by kernel_rfl) (fun _ _ _ h => h) (Or.inl ⟨by kernel_rfl, ?hyp3⟩) hHeld ?restp3
    case hyp3 => intro w' hSw; (try dsimp only at hSw); go_simp; try with_reducible rfl
    simp only [Act.put]
    try dsimp only
    refine wpAnyF_take [25] (by kernel_rfl) (i := 3) (v := ?vp4) rfl (by kernel_rfl) (by kernel_rfl) (by kernel_rfl) (fun _ _ _ h => h) (Or.inl ⟨by kernel_rfl, ?hyp4⟩) hHeld ?restp4
    case hyp4 => intro w' hSw; (try dsimp only at hSw); go_simp; try with_reducible rfl
    simp only [Act.put]
    try dsimp only
    refine wpAnyF_take [25] (by kernel_rfl) (i := 4) (v := undef) rfl (by kernel_rfl) (by kernel_rfl) (by kernel_rfl) (fun _ _ _ h => h) (Or.inr ⟨by kernel_rfl, rfl⟩) hHeld ?_
    simp only [Act.put]
    try dsimp only
    refine wpAnyF_take [25] (by kernel_rfl) (i := 5) (v := undef) rfl (by kernel_rfl) (by kernel_rfl) (by kernel_rfl) (fun _ _ _ h => h) (Or.inr ⟨by kernel_rfl, rfl⟩) hHeld ?_
    simp only [Act.put]
    try dsimp only
    refine wpAnyF_take [25] (by kernel_rfl) (i := 6) (v := undef) rfl (by kernel_rfl) (by kernel_rfl) (by kernel_rfl) (fun _ _ _ h => h) (Or.inr ⟨by kernel_rfl, rfl⟩) hHeld ?_
    simp only [Act.put]
    try dsimp only
    refine wpAnyF_take [25] (by kernel_rfl) (i := 7) (v := ?vp5) rfl (by kernel_rfl) (by kernel_rfl) (by kernel_rfl) (fun _ _ _ h => h) (Or.inl ⟨by kernel_rfl, ?hyp5⟩) hHeld ?restp5
    case hyp5 => intro w' hSw; (try dsimp only at hSw); go_simp; try with_reducible rfl
    simp only [Act.put]
    try dsimp only
    refine wpAnyF_take [25] (by kernel_rfl) (i := 8) (v := ?vp6) rfl (by kernel_rfl) (by kernel_rfl) (by kernel_rfl) (fun _ _ _ h => h) (Or.inl ⟨by kernel_rfl, ?hyp6⟩) hHeld ?restp6
    case hyp6 => intro w' hSw; (try dsimp only at hSw); go_simp; try with_reducible rfl
    simp only [Act.put]
    try dsimp only
    refine wpAnyF_take [25] (by kernel_rfl) (i := 9) (v := undef) rfl (by kernel_rfl) (by kernel_rfl) (by kernel_rfl) (fun _ _ _ h => h) (Or.inr ⟨by kernel_rfl, rfl⟩) hHeld ?_
    simp only [Act.put]
    try dsimp only
    refine wpAnyF_take [25] (by kernel_rfl) (i := 10) (v := undef) rfl (by kernel_rfl) (by kernel_rfl) (by kernel_rfl) (fun _ _ _ h => h) (Or.inr ⟨by kernel_rfl, rfl⟩) hHeld ?_
    simp only [Act.put]
    try dsimp only
    refine wpAnyF_take [25] (by kernel_rfl) (i := 11) (v := undef) rfl (by kernel_rfl) (by kernel_rfl) (by kernel_rfl) (fun _ _ _ h => h) (Or.inr ⟨by kernel_rfl, rfl⟩) hHeld ?_
    simp only [Act.put]
    try dsimp only
    refine wpAnyF_take [25] (by kernel_rfl) (i := 12) (v := undef) rfl (by kernel_rfl) (by kernel_rfl) (by kernel_rfl) (fun _ _ _ h => h) (Or.inr ⟨by kernel_rfl, rfl⟩) hHeld ?_
    simp only [Act.put]
    try dsimp only
    refine wpAnyF_take [25] (by kernel_rfl) (i := 13) (v := undef) rfl (by kernel_rfl) (by kernel_rfl) (by kernel_rfl) (fun _ _ _ h => h) (Or.inr ⟨by kernel_rfl, rfl⟩) hHeld ?_
    simp only [Act.put]
    try dsimp only
    refine wpAnyF_take [25] (by kernel_rfl) (i := 14) (v := undef) rfl (by kernel_rfl) (by kernel_rfl) (by kernel_rfl) (fun _ _ _ h => h) (Or.inr ⟨by kernel_rfl, rfl⟩) hHeld ?_
    simp only [Act.put]
    try dsimp only
    refine wpAnyF_take [25] (by kernel_rfl) (i := 15) (v := undef) rfl (by kernel_rfl) (by kernel_rfl) (by kernel_rfl) (fun _ _ _ h => h) (Or.inr ⟨by kernel_rfl, rfl⟩) hHeld ?_
    simp only [Act.put]
    try dsimp only
    refine wpAnyF_take [25] (by kernel_rfl) (i := 16) (v := undef) rfl (by kernel_rfl) (by kernel_rfl) (by kernel_rfl) (fun _ _ _ h => h) (Or.inr ⟨by kernel_rfl, rfl⟩) hHeld ?_
    simp only [Act.put]
    try dsimp only
    refine wpAnyF_take [25] (by kernel_rfl) (i := 17) (v := undef) rfl (by kernel_rfl) (by kernel_rfl) (by kernel_rfl) (fun _ _ _ h => h) (Or.inr ⟨by kernel_rfl, rfl⟩) hHeld ?_
    simp only [Act.put]
    try dsimp only
    refine wpAnyF_take [25] (by kernel_rfl) (i := 18) (v := undef) rfl (by kernel_rfl) (by kernel_rfl) (by kernel_rfl) (fun _ _ _ h => h) (Or.inr ⟨by kernel_rfl, rfl⟩) hHeld ?_
    simp only [Act.put]
    try dsimp only
    refine wpAnyF_take [25] (by kernel_rfl) (i := 19) (v := undef) rfl (by kernel_rfl) (by kernel_rfl) (by kernel_rfl) (fun _ _ _ h => h) (Or.inr ⟨by kernel_rfl, rfl⟩) hHeld ?_
    simp only [Act.put]
    try dsimp only
    refine wpAnyF_take [25] (by kernel_rfl) (i := 20) (v := undef) rfl (by kernel_rfl) (by kernel_rfl) (by kernel_rfl) (fun _ _ _ h => h) (Or.inr ⟨by kernel_rfl, rfl⟩) hHeld ?_
    simp only [Act.put]
    try dsimp only
    refine wpAnyF_take [25] (by kernel_rfl) (i := 21) (v := undef) rfl (by kernel_rfl) (by kernel_rfl) (by kernel_rfl) (fun _ _ _ h => h) (Or.inr ⟨by kernel_rfl, rfl⟩) hHeld ?_
    simp only [Act.put]
    try dsimp only
    refine wpAnyF_take [25] (by kernel_rfl) (i := 22) (v := undef) rfl (by kernel_rfl) (by kernel_rfl) (by kernel_rfl) (fun _ _ _ h => h) (Or.inr ⟨by kernel_rfl, rfl⟩) hHeld ?_
    simp only [Act.put]
    try dsimp only
    refine wpAnyF_take [25] (by kernel_rfl) (i := 23) (v := undef) rfl (by kernel_rfl) (by kernel_rfl) (by kernel_rfl) (fun _ _ _ h => h) (Or.inr ⟨by kernel_rfl, rfl⟩) hHeld ?_
    simp only [Act.put]
    try dsimp only
    refine wpAnyF_take [25] (by kernel_rfl) (i := 24) (v := ?vp7) rfl (by kernel_rfl) (by kernel_rfl) (by kernel_rfl) (fun _ _ _ h => h) (Or.inl ⟨by kernel_rfl, ?hyp7⟩) hHeld ?restp7
    case hyp7 => intro w' hSw; (try dsimp only at hSw); go_simp; try with_reducible rfl
    simp only [Act.put]
    try dsimp only
    refine wpAnyF_ready (rs := [25]) (by kernel_rfl) (by simp) ?_
    refine AllReadyF.last rfl (fun K hK => ?_)
    go_simp
    refine hK.out _ _ ?_
    clear hK K
    refine wpAnyF_done (by kernel_rfl) ?_ _
    go_wp2_with fail
    go_ret
    exact ⟨by rw [HE.out]; rfl, HB2.out.drew⟩
end Go.Proofs.YtjamfbpdepahnaaGreat
