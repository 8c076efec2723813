import Derived.Test.YtjamfbpdepahnaaGreatPart27
namespace Go.Proofs.YtjamfbpdepahnaaGreat
open Go.RowKit
set_option linter.unusedVariables false
set_option linter.unusedSimpArgs false
theorem infoSt : (Tryz.prog.info? 101).map (fun i => (i.zero, i.size, i.bytes)) = some (some (.agg #[.int .i64 0, .int .u64 0, .int .i64 0, .int .i64 0, .int .i64 0, .int .i64 0, .bool false]), 7, 56) := by kernel_rfl
theorem makeS (n : Nat) (hn : n ≤ 1000000000) (w : World) : (Instr.makeSlice 52 (.int .i64 (n : Int)) (.int .i64 (n : Int))).run Tryz.prog w = .ok (.slice (some ⟨w.heap.size, 0, none⟩) n n) (w.alloc (.cells (madeCells #[.int .i64 0, .int .u64 0, .int .i64 0, .int .i64 0, .int .i64 0, .int .i64 0, .bool false] (n * 7)) 101)) := by
  obtain ⟨i0, hi, hz0, hz1, hz2⟩ := info_parts infoSt
  have hb : (i0.bytes : Int) * (n : Int) ≤ 281474976710656 := by rw [hz2]; omega
  have hr := run_make (P := Tryz.prog) w 52 101 i0 (.agg #[.int .i64 0, .int .u64 0, .int .i64 0, .int .i64 0, .int .i64 0, .int .i64 0, .bool false]) Tryz.underlying52 hi hz0 .i64 .i64 n n (by omega) (Int.le_refl _) hb (by omega)
  rw [Int.toNat_natCast, hz1] at hr
  exact hr
theorem madeS0 (n : Nat) : (madeCells #[.int .i64 0, .int .u64 0, .int .i64 0, .int .i64 0, .int .i64 0, .int .i64 0, .bool false] (n * 7)).toList = cellsG stc (List.replicate n st0) := by
  apply List.ext_getElem?
  intro i
  by_cases h : i < n * 7
  · have h1 : i / 7 < n := by omega
    have h2 := cellsG_at stc_len (List.replicate n st0) (i / 7) (i % 7) st0 (by simp [h1]) (by omega)
    rw [show i / 7 * 7 + i % 7 = i by omega] at h2
    rw [h2]
    have h7 : i % 7 = 0 ∨ i % 7 = 1 ∨ i % 7 = 2 ∨ i % 7 = 3 ∨ i % 7 = 4 ∨ i % 7 = 5 ∨ i % 7 = 6 := by omega
    rcases h7 with e | e | e | e | e | e | e <;> simp [madeCells, h, e, stc, st0]
  · rw [List.getElem?_eq_none (by rw [Array.length_toList, size_madeCells]; omega), List.getElem?_eq_none (by rw [cellsG_len stc_len]; simp; omega)]
def putL (w : World) (g : Nat) (v0 v1 v2 v3 v4 : Value) : World := ((((w.setCell ⟨g, 0, none⟩ v0).setCell ⟨g, 1, none⟩ v1).setCell ⟨g, 2, none⟩ v2).setCell ⟨g, 3, none⟩ v3).setCell ⟨g, 4, none⟩ v4
theorem Blk.putL {w : World} {g : Nat} {t : TypeId} {u0 u1 u2 u3 u4 : Value} (h : Blk w g t [u0, u1, u2, u3, u4]) (v0 v1 v2 v3 v4 : Value) : Blk (Go.Proofs.YtjamfbpdepahnaaGreat.putL w g v0 v1 v2 v3 v4) g t [v0, v1, v2, v3, v4] := by
  have := ((((h.set 0 v0).set 1 v1).set 2 v2).set 3 v3).set 4 v4
  simpa [Go.Proofs.YtjamfbpdepahnaaGreat.putL] using this
theorem Blk.putLo {w : World} {h : Nat} {t : TypeId} {xs : List Value} (k : Blk w h t xs) (g : Nat) (v0 v1 v2 v3 v4 : Value) (e : h ≠ g) : Blk (Go.Proofs.YtjamfbpdepahnaaGreat.putL w g v0 v1 v2 v3 v4) h t xs := by
  unfold Go.Proofs.YtjamfbpdepahnaaGreat.putL
  exact ((((k.other _ _ e).other _ _ e).other _ _ e).other _ _ e).other _ _ e
theorem below_putL {B : Nat} {w w' : World} (h : Below B w w') (g : Nat) (v0 v1 v2 v3 v4 : Value) (hb : B ≤ g) : Below B w (putL w' g v0 v1 v2 v3 v4) := by
  unfold putL
  exact below_set (below_set (below_set (below_set (below_set h _ _ _ hb) _ _ _ hb) _ _ _ hb) _ _ _ hb) _ _ _ hb
theorem SAll.new (n : Nat) : SAll (List.replicate n st0) := fun j => by
  unfold stA
  by_cases h : j < n
  · simp [List.getD, h]; exact st0_ok
  · simp [List.getD, h]; exact st0_ok
theorem pnd_new (n : Nat) (S : List St) (h : S.length = n) : Pnd n S [] := ⟨h, (by unfold Hp; simp), fun x hx => (by cases hx)⟩
theorem goP_fin {enc : Bool} {C : List In} {r : Int} (hW : WIn C) (hC : CdOk enc C) : ∀ (f : Nat) {S : List St} {P : List Int}, Pnd C.length S P → msr S P < f → SAll S → (goP enc C r f S P).1 = 1048576 → (goP enc C r f S P).2.2 = [] ∧ Pnd C.length (goP enc C r f S P).2.1 [] ∧ SAll (goP enc C r f S P).2.1
  | 0, S, P, _, h, _, _ => by omega
  | f + 1, S, P, hN, hm, hS, h1 => by
    by_cases h0 : P = []
    · subst h0
      rw [goP_nil] at h1 ⊢
      exact ⟨rfl, hN, hS⟩
    · rw [goP] at h1 ⊢
      rw [if_neg h0] at h1 ⊢
      obtain ⟨q1, q2, q3, q4, q5⟩ := pop_ok hN h0
      have hk : (popH P).1.toNat < C.length := by omega
      have l1 := lookP_ok (enc := enc) (r := r) hW q1 hk q5
      have l2 := lookP_sok (enc := enc) (C := C) (r := r) (P := (popH P).2) hC hS hk
      by_cases hz : (lookP enc C r S (popH P).2 (popH P).1.toNat).1 = 1048576
      · rw [if_pos hz] at h1 ⊢
        exact goP_fin hW hC f l1.1 (by omega) l2 h1
      · rw [if_neg hz] at h1
        exact absurd h1 hz
theorem thruP_fin {enc : Bool} {C : List In} {r : Int} (hW : WIn C) (hC : CdOk enc C) {S : List St} (hl : S.length = C.length) (hN : Pnd C.length S []) (hS : SAll S) {k : Nat} (hk : k < C.length) (h : (thruP enc C r S [] k).1 = 1048576) : (thruP enc C r S [] k).2.2 = [] ∧ Pnd C.length (thruP enc C r S [] k).2.1 [] ∧ SAll (thruP enc C r S [] k).2.1 := by
  unfold thruP at h ⊢
  by_cases hz : (handP enc C r S [] k (mBg enc)).1 = true
  · rw [if_pos hz] at h ⊢
    have h1 := handP_ok (enc := enc) (C := C) (r := r) hN hk (mBg_pl enc)
    refine goP_fin hW hC _ h1.1 ?_ (handP_sok hS k (mBg_ok enc)) h
    have h2 : msr S [] ≤ 2 * C.length := by have := bare_le S; unfold msr; simp; omega
    have h3 := h1.2.1
    omega
  · rw [if_neg hz] at h
    have := hC.nc
    simp at h
    omega
theorem LkS.setR {w0 w : World} {b gs bc oc cc : Nat} {enc : Bool} {C : List In} {r : Int} {S : List St} {P : List Int} {vp : Value} (h : LkS w0 w b gs bc oc cc enc C r S P vp) (r' : Int) : LkS w0 (w.setCell ⟨b, 2, none⟩ (.int .i64 r')) b gs bc oc cc enc C r' S P vp := by
  have hu : Upd (fun q => q = b) w (w.setCell ⟨b, 2, none⟩ (.int .i64 r')) := (Upd.refl _ w).set _ _ (.inl rfl)
  refine ⟨below_to2 h.old hu (fun q e => by rw [e]; exact h.hb), h.hb, h.hgs, h.code, ?_, h.st.upd hu (fun e => h.bg e.symm), h.len, h.pend.upd hu (fun q e e2 => h.pend.neB h.blk (by decide) (e2 ▸ e))⟩
  have := h.blk.set 2 (.int .i64 r')
  simpa using this
def FlTo (w : World) (n : Nat) (R : Int × List St) (e : Ending) (w' : World) : Prop :=
  Below w.heap.size w w' ∧ ((R.1 = 1048576 ∧ ∃ g, e = .returned (.tuple #[.slice (some ⟨g, 0, none⟩) n n, .int .i64 1048576]) ∧ w.heap.size ≤ g ∧ R.2.length = n ∧ Blk w' g 101 (cellsG stc R.2)) ∨ (R.1 ≠ 1048576 ∧ e = .returned (.tuple #[.slice none 0 0, .int .i64 R.1])))
set_option maxRecDepth 100000 in
set_option maxHeartbeats 16000000 in
theorem firstLook_any (enc : Bool) (ac ae : Option Addr) (cc ce : Nat) (C : List In) (E : List Int) (w : World) (hcc : C.length ≤ cc) (hcl : cc ≤ 9223372036854775807) (hce : E.length ≤ ce) (hK : Hid (Chk enc C E)) (hr : Hid (IRow w ac C)) (he : Hid (Row .i64 w ae E)) :
    Calls Tryz.prog 26 #[.agg #[.bool enc, .slice ac C.length cc, .slice ae E.length ce]] w fun e w' => FlTo w C.length (firstP enc C E 0 (List.replicate C.length st0)) e w' := by
  have hC : Hid (CdOk enc C) := hide_ hK.out.cdok
  have hW : Hid (WIn C) := hide_ hK.out.win
  obtain ⟨R, hR⟩ : ∃ R, firstP enc C E 0 (List.replicate C.length st0) = R := ⟨_, rfl⟩
  rw [hR]
  have HR := hide_ hR
  obtain ⟨n, hn⟩ : ∃ n, C.length = n := ⟨_, rfl⟩
  have Hn := hide_ hn
  have hn9 : n ≤ 1000000000 := by have := hC.out.nc; omega
  rw [hn] at hcc ⊢
  obtain ⟨w1, hw1⟩ : ∃ wx, w.alloc (.cells #[.bool enc, .slice ac n cc, .slice ae E.length ce] 25) = wx := ⟨_, rfl⟩
  have hB1 : Below w.heap.size w w1 := by rw [← hw1]; exact below1 _ _
  have K1 : Blk w1 w.heap.size 25 [.bool enc, .slice ac n cc, .slice ae E.length ce] := by rw [← hw1]; exact Blk.newA w _ _
  have HS1 : Hid (∀ w3, Below w1.heap.size w1 w3 → (fun w' => w'.cell? ⟨w.heap.size, 0, none⟩ = some (.bool enc) ∧ w'.cell? ⟨w.heap.size, 1, none⟩ = some (.slice ac n cc) ∧ w'.cell? ⟨w.heap.size, 2, none⟩ = some (.slice ae E.length ce)) w3) := hide_ (fun w3 hB => by
    have k := K1.later hB
    exact ⟨by rw [k.cell 0]; rfl, by rw [k.cell 1]; rfl, by rw [k.cell 2]; rfl⟩)
  have HB1 := hide_ hB1
  have HK1 := hide_ K1
  have hEl : (E.length : Int) ≤ 1048576 := by have := hK.out.ne; omega
  clear hR hn hB1 K1
  go_enter Tryz.func26, Tryz.ntmps26
  go_upto_region 1 with fail
  try rw [hw1]
  clear hw1
  go_cut [4] from 8 to 17 (fun x4 wc => ∃ (b gs : Nat) (w3 : World), w3 = wc ∧ x4 = .pointer (some ⟨b, 0, none⟩) ∧ Hid (Blk w3 b 72 [mcV enc, .slice ac n cc, .int .i64 0, .slice (some ⟨gs, 0, none⟩) n n, .slice none 0 0]) ∧ Hid (Blk w3 gs 101 (cellsG stc (List.replicate n st0))) ∧ Hid (Below w1.heap.size w1 w3) ∧ Hid (w1.heap.size ≤ b) ∧ Hid (w1.heap.size ≤ gs))
  case first =>
    refine wp_region_last 11 (fun w' => w'.cell? ⟨w.heap.size, 0, none⟩ = some (.bool enc) ∧ w'.cell? ⟨w.heap.size, 1, none⟩ = some (.slice ac n cc) ∧ w'.cell? ⟨w.heap.size, 2, none⟩ = some (.slice ae E.length ce)) (by kernel_rfl) (HS1.out _ (Below.refl _ _).drew) (fun hHeld => ?_)
    obtain ⟨wz0, hz0⟩ : ∃ wx, w1.drew = wx := ⟨_, rfl⟩
    rw [hz0] at hHeld ⊢
    have HBz0 : Hid (Below w1.heap.size w1 wz0) := hide_ (by rw [← hz0]; exact (Below.refl _ _).drew)
    have hSz0 := hHeld
    clear hz0
    refine wpAnyF_take [11] (by kernel_rfl) (i := 0) (v := ?vp1) rfl (by kernel_rfl) (by kernel_rfl) (by kernel_rfl) (fun _ _ _ h => h) (Or.inl ⟨by kernel_rfl, ?hyp1⟩) hHeld ?restp1
    case hyp1 => intro w' hSw; (try dsimp only at hSw); go_simp; try with_reducible rfl
    simp only [Act.put]
    try dsimp only
    refine wpAnyF_take [11] (by kernel_rfl) (i := 1) (v := ?vp2) rfl (by kernel_rfl) (by kernel_rfl) (by kernel_rfl) (fun _ _ _ h => h) (Or.inl ⟨by kernel_rfl, ?hyp2⟩) hHeld ?restp2
    case hyp2 => intro w' hSw; (try dsimp only at hSw); go_simp; try with_reducible rfl
    simp only [Act.put]
    try dsimp only
    refine wpAnyF_take [11] (by kernel_rfl) (i := 3) (v := ?vp3) rfl (by kernel_rfl) (by kernel_rfl) (by kernel_rfl) (fun _ _ _ h => h) (Or.inl ⟨by kernel_rfl, ?hyp3⟩) hHeld ?restp3
    case hyp3 => intro w' hSw; (try dsimp only at hSw); go_simp; try with_reducible rfl
    simp only [Act.put]
    try dsimp only
    refine wpAnyF_take [11] (by kernel_rfl) (i := 4) (v := ?vp4) rfl (by kernel_rfl) (by kernel_rfl) (by kernel_rfl) (fun _ _ _ h => h) (Or.inl ⟨by kernel_rfl, ?hyp4⟩) hHeld ?restp4
    case hyp4 => intro w' hSw; (try dsimp only at hSw); go_simp; try with_reducible rfl
    simp only [Act.put]
    try dsimp only
    refine wpAnyF_take [11] (by kernel_rfl) (i := 5) (v := ?vp5) rfl (by kernel_rfl) (by kernel_rfl) (by kernel_rfl) (fun _ _ _ h => h) (Or.inl ⟨by kernel_rfl, ?hyp5⟩) hHeld ?restp5
    case hyp5 => intro w' hSw; (try dsimp only at hSw); go_simp; try with_reducible rfl
    simp only [Act.put]
    try dsimp only
    refine wpAnyF_take [11] (by kernel_rfl) (i := 6) (v := ?vp6) rfl (by kernel_rfl) (by kernel_rfl) (by kernel_rfl) (fun _ _ _ h => h) (Or.inl ⟨by kernel_rfl, ?hyp6⟩) hHeld ?restp6
    case hyp6 => intro w' hSw; (try dsimp only at hSw); go_simp; try with_reducible rfl
    simp only [Act.put]
    try dsimp only
    refine wpAnyF_take [11] (by kernel_rfl) (i := 7) (v := ?vp7) rfl (by kernel_rfl) (by kernel_rfl) (by kernel_rfl) (fun _ _ _ h => h) (Or.inl ⟨by kernel_rfl, ?hyp7⟩) hHeld ?restp7
    case hyp7 => intro w' hSw; (try dsimp only at hSw); go_simp; try with_reducible rfl
    simp only [Act.put]
    try dsimp only
    refine wpAnyF_ready (rs := [2, 8, 10]) (by kernel_rfl) (by simp) ?_
    refine AllReadyF.cons rfl (fun K hK => ?_) ?_
    · go_simp
      refine (machineOf_any enc wz0).mono ?_
      rintro e w9 ⟨rfl, rfl⟩
      unfold mcV
      go_simp
      refine hK.out _ _ (hSz0) (fun hHeld => ?_)
      clear hK K
      refine wpAnyF_ready (rs := [8, 10]) (by kernel_rfl) (by simp) ?_
      refine AllReadyF.cons rfl (fun K hK => ?_) ?_
      · have hmk := makeS n hn9 wz0
        go_simp
        clear hmk
        obtain ⟨wz1, hz⟩ : ∃ wx, wz0.alloc (.cells (madeCells #[.int .i64 0, .int .u64 0, .int .i64 0, .int .i64 0, .int .i64 0, .int .i64 0, .bool false] (n * 7)) 101) = wx := ⟨_, rfl⟩
        obtain ⟨gs, ha⟩ : ∃ a, wz0.heap.size = a := ⟨_, rfl⟩
        have hbz : Below wz0.heap.size wz0 wz1 := by rw [← hz]; exact below1 _ _
        have KS_1 : Hid (Blk wz1 gs 101 (cellsG stc (List.replicate n st0))) := hide_ (by rw [← hz, ← ha, ← madeS0]; exact Blk.newA _ _ _)
        have HGs : Hid (w1.heap.size ≤ gs) := hide_ (by have := HBz0.out.size; omega)
        have HBz1 := hide_ (below_to HBz0.out hbz)
        have hSz1 := HS1.out wz1 HBz1.out
        rw [hz, ha]
        clear hbz hz ha
        refine hK.out _ _ (hSz1) (fun hHeld => ?_)
        clear hK K
        refine wpAnyF_take [11] (by kernel_rfl) (i := 9) (v := ?vp8) rfl (by kernel_rfl) (by kernel_rfl) (by kernel_rfl) (fun _ _ _ h => h) (Or.inl ⟨by kernel_rfl, ?hyp8⟩) hHeld ?restp8
        case hyp8 => intro w' hSw; (try dsimp only at hSw); go_simp; try with_reducible rfl
        simp only [Act.put]
        try dsimp only
        refine wpAnyF_ready (rs := [10]) (by kernel_rfl) (by simp) ?_
        refine AllReadyF.cons rfl (fun K hK => ?_) AllReadyF.nil
        go_simp
        obtain ⟨wz2, hz⟩ : ∃ wx, wz1.alloc (.cells #[.nilIface, .slice none 0 0, .int .i64 0, .slice none 0 0, .slice none 0 0] 72) = wx := ⟨_, rfl⟩
        obtain ⟨b, ha⟩ : ∃ a, wz1.heap.size = a := ⟨_, rfl⟩
        have hbz : Below wz1.heap.size wz1 wz2 := by rw [← hz]; exact below1 _ _
        have KB_2 : Hid (Blk wz2 b 72 [.nilIface, .slice none 0 0, .int .i64 0, .slice none 0 0, .slice none 0 0]) := hide_ (by rw [← hz, ← ha]; exact Blk.newA _ _ _)
        have HGb : Hid (w1.heap.size ≤ b) := hide_ (by have := HBz1.out.size; omega)
        have HBz2 := hide_ (below_to HBz1.out hbz)
        have KS_2 := hide_ (KS_1.out.later hbz)
        have hSz2 := HS1.out wz2 HBz2.out
        rw [hz, ha]
        clear hbz hz ha
        refine hK.out _ _ (hSz2) (fun hHeld => ?_)
        clear hK K
        refine wpAnyF_ready (rs := [11]) (by kernel_rfl) (by simp) ?_
        refine AllReadyF.last rfl (fun K hK => ?_)
        have pb := fun i => KB_2.out.cell i
        have p0 := pb 0; have p1 := pb 1; have p2 := pb 2; have p3 := pb 3; have p4 := pb 4
        simp at p0 p1 p2 p3 p4
        have zb := fun i => KB_2.out.frozen i
        clear pb
        go_simp
        refine hK.out _ _ ?_
        clear hK K
        refine wpAnyF_done (by kernel_rfl) ?_ _
        obtain ⟨w3, hz⟩ : ∃ wx, putL wz2 b (.iface (mTy enc) (.agg #[])) (.slice ac n cc) (.int .i64 0) (.slice (some ⟨gs, 0, none⟩) n n) (.slice none 0 0) = wx := ⟨_, rfl⟩
        have KB3 : Hid (Blk w3 b 72 [mcV enc, .slice ac n cc, .int .i64 0, .slice (some ⟨gs, 0, none⟩) n n, .slice none 0 0]) := hide_ (by rw [← hz]; exact KB_2.out.putL _ _ _ _ _)
        have KS3 : Hid (Blk w3 gs 101 (cellsG stc (List.replicate n st0))) := hide_ (by rw [← hz]; exact KS_2.out.putLo _ _ _ _ _ _ (fun e => absurd (blk_type (e ▸ KS_2.out) KB_2.out) (by decide)))
        have HB3 : Hid (Below w1.heap.size w1 w3) := hide_ (by rw [← hz]; exact below_putL HBz2.out _ _ _ _ _ _ HGb.out)
        unfold putL at hz
        rw [hz]
        clear hz
        go_wp2_with fail
        go_meet
        case rel => exact ⟨b, gs, _, rfl, rfl, KB3, KS3, HB3, HGb, HGs⟩
      refine AllReadyF.cons rfl (fun K hK => ?_) AllReadyF.nil
      go_simp
      obtain ⟨wz1, hz⟩ : ∃ wx, wz0.alloc (.cells #[.nilIface, .slice none 0 0, .int .i64 0, .slice none 0 0, .slice none 0 0] 72) = wx := ⟨_, rfl⟩
      obtain ⟨b, ha⟩ : ∃ a, wz0.heap.size = a := ⟨_, rfl⟩
      have hbz : Below wz0.heap.size wz0 wz1 := by rw [← hz]; exact below1 _ _
      have KB_1 : Hid (Blk wz1 b 72 [.nilIface, .slice none 0 0, .int .i64 0, .slice none 0 0, .slice none 0 0]) := hide_ (by rw [← hz, ← ha]; exact Blk.newA _ _ _)
      have HGb : Hid (w1.heap.size ≤ b) := hide_ (by have := HBz0.out.size; omega)
      have HBz1 := hide_ (below_to HBz0.out hbz)
      have hSz1 := HS1.out wz1 HBz1.out
      rw [hz, ha]
      clear hbz hz ha
      refine hK.out _ _ (hSz1) (fun hHeld => ?_)
      clear hK K
      refine wpAnyF_ready (rs := [8]) (by kernel_rfl) (by simp) ?_
      refine AllReadyF.cons rfl (fun K hK => ?_) AllReadyF.nil
      have hmk := makeS n hn9 wz1
      go_simp
      clear hmk
      obtain ⟨wz2, hz⟩ : ∃ wx, wz1.alloc (.cells (madeCells #[.int .i64 0, .int .u64 0, .int .i64 0, .int .i64 0, .int .i64 0, .int .i64 0, .bool false] (n * 7)) 101) = wx := ⟨_, rfl⟩
      obtain ⟨gs, ha⟩ : ∃ a, wz1.heap.size = a := ⟨_, rfl⟩
      have hbz : Below wz1.heap.size wz1 wz2 := by rw [← hz]; exact below1 _ _
      have KS_2 : Hid (Blk wz2 gs 101 (cellsG stc (List.replicate n st0))) := hide_ (by rw [← hz, ← ha, ← madeS0]; exact Blk.newA _ _ _)
      have HGs : Hid (w1.heap.size ≤ gs) := hide_ (by have := HBz1.out.size; omega)
      have HBz2 := hide_ (below_to HBz1.out hbz)
      have KB_2 := hide_ (KB_1.out.later hbz)
      have hSz2 := HS1.out wz2 HBz2.out
      rw [hz, ha]
      clear hbz hz ha
      refine hK.out _ _ (hSz2) (fun hHeld => ?_)
      clear hK K
      refine wpAnyF_take [11] (by kernel_rfl) (i := 9) (v := ?vp9) rfl (by kernel_rfl) (by kernel_rfl) (by kernel_rfl) (fun _ _ _ h => h) (Or.inl ⟨by kernel_rfl, ?hyp9⟩) hHeld ?restp9
      case hyp9 => intro w' hSw; (try dsimp only at hSw); go_simp; try with_reducible rfl
      simp only [Act.put]
      try dsimp only
      refine wpAnyF_ready (rs := [11]) (by kernel_rfl) (by simp) ?_
      refine AllReadyF.last rfl (fun K hK => ?_)
      have pb := fun i => KB_2.out.cell i
      have p0 := pb 0; have p1 := pb 1; have p2 := pb 2; have p3 := pb 3; have p4 := pb 4
      simp at p0 p1 p2 p3 p4
      have zb := fun i => KB_2.out.frozen i
      clear pb
      go_simp
      refine hK.out _ _ ?_
      clear hK K
      refine wpAnyF_done (by kernel_rfl) ?_ _
      obtain ⟨w3, hz⟩ : ∃ wx, putL wz2 b (.iface (mTy enc) (.agg #[])) (.slice ac n cc) (.int .i64 0) (.slice (some ⟨gs, 0, none⟩) n n) (.slice none 0 0) = wx := ⟨_, rfl⟩
      have KB3 : Hid (Blk w3 b 72 [mcV enc, .slice ac n cc, .int .i64 0, .slice (some ⟨gs, 0, none⟩) n n, .slice none 0 0]) := hide_ (by rw [← hz]; exact KB_2.out.putL _ _ _ _ _)
      have KS3 : Hid (Blk w3 gs 101 (cellsG stc (List.replicate n st0))) := hide_ (by rw [← hz]; exact KS_2.out.putLo _ _ _ _ _ _ (fun e => absurd (blk_type (e ▸ KS_2.out) KB_2.out) (by decide)))
      have HB3 : Hid (Below w1.heap.size w1 w3) := hide_ (by rw [← hz]; exact below_putL HBz2.out _ _ _ _ _ _ HGb.out)
      unfold putL at hz
      rw [hz]
      clear hz
      go_wp2_with fail
      go_meet
      case rel => exact ⟨b, gs, _, rfl, rfl, KB3, KS3, HB3, HGb, HGs⟩
    refine AllReadyF.cons rfl (fun K hK => ?_) ?_
    · have hmk := makeS n hn9 wz0
      go_simp
      clear hmk
      obtain ⟨wz1, hz⟩ : ∃ wx, wz0.alloc (.cells (madeCells #[.int .i64 0, .int .u64 0, .int .i64 0, .int .i64 0, .int .i64 0, .int .i64 0, .bool false] (n * 7)) 101) = wx := ⟨_, rfl⟩
      obtain ⟨gs, ha⟩ : ∃ a, wz0.heap.size = a := ⟨_, rfl⟩
      have hbz : Below wz0.heap.size wz0 wz1 := by rw [← hz]; exact below1 _ _
      have KS_1 : Hid (Blk wz1 gs 101 (cellsG stc (List.replicate n st0))) := hide_ (by rw [← hz, ← ha, ← madeS0]; exact Blk.newA _ _ _)
      have HGs : Hid (w1.heap.size ≤ gs) := hide_ (by have := HBz0.out.size; omega)
      have HBz1 := hide_ (below_to HBz0.out hbz)
      have hSz1 := HS1.out wz1 HBz1.out
      rw [hz, ha]
      clear hbz hz ha
      refine hK.out _ _ (hSz1) (fun hHeld => ?_)
      clear hK K
      refine wpAnyF_ready (rs := [2, 10]) (by kernel_rfl) (by simp) ?_
      refine AllReadyF.cons rfl (fun K hK => ?_) ?_
      · go_simp
        refine (machineOf_any enc wz1).mono ?_
        rintro e w9 ⟨rfl, rfl⟩
        unfold mcV
        go_simp
        refine hK.out _ _ (hSz1) (fun hHeld => ?_)
        clear hK K
        refine wpAnyF_take [11] (by kernel_rfl) (i := 9) (v := ?vp10) rfl (by kernel_rfl) (by kernel_rfl) (by kernel_rfl) (fun _ _ _ h => h) (Or.inl ⟨by kernel_rfl, ?hyp10⟩) hHeld ?restp10
        case hyp10 => intro w' hSw; (try dsimp only at hSw); go_simp; try with_reducible rfl
        simp only [Act.put]
        try dsimp only
        refine wpAnyF_ready (rs := [10]) (by kernel_rfl) (by simp) ?_
        refine AllReadyF.cons rfl (fun K hK => ?_) AllReadyF.nil
        go_simp
        obtain ⟨wz2, hz⟩ : ∃ wx, wz1.alloc (.cells #[.nilIface, .slice none 0 0, .int .i64 0, .slice none 0 0, .slice none 0 0] 72) = wx := ⟨_, rfl⟩
        obtain ⟨b, ha⟩ : ∃ a, wz1.heap.size = a := ⟨_, rfl⟩
        have hbz : Below wz1.heap.size wz1 wz2 := by rw [← hz]; exact below1 _ _
        have KB_2 : Hid (Blk wz2 b 72 [.nilIface, .slice none 0 0, .int .i64 0, .slice none 0 0, .slice none 0 0]) := hide_ (by rw [← hz, ← ha]; exact Blk.newA _ _ _)
        have HGb : Hid (w1.heap.size ≤ b) := hide_ (by have := HBz1.out.size; omega)
        have HBz2 := hide_ (below_to HBz1.out hbz)
        have KS_2 := hide_ (KS_1.out.later hbz)
        have hSz2 := HS1.out wz2 HBz2.out
        rw [hz, ha]
        clear hbz hz ha
        refine hK.out _ _ (hSz2) (fun hHeld => ?_)
        clear hK K
        refine wpAnyF_ready (rs := [11]) (by kernel_rfl) (by simp) ?_
        refine AllReadyF.last rfl (fun K hK => ?_)
        have pb := fun i => KB_2.out.cell i
        have p0 := pb 0; have p1 := pb 1; have p2 := pb 2; have p3 := pb 3; have p4 := pb 4
        simp at p0 p1 p2 p3 p4
        have zb := fun i => KB_2.out.frozen i
        clear pb
        go_simp
        refine hK.out _ _ ?_
        clear hK K
        refine wpAnyF_done (by kernel_rfl) ?_ _
        obtain ⟨w3, hz⟩ : ∃ wx, putL wz2 b (.iface (mTy enc) (.agg #[])) (.slice ac n cc) (.int .i64 0) (.slice (some ⟨gs, 0, none⟩) n n) (.slice none 0 0) = wx := ⟨_, rfl⟩
        have KB3 : Hid (Blk w3 b 72 [mcV enc, .slice ac n cc, .int .i64 0, .slice (some ⟨gs, 0, none⟩) n n, .slice none 0 0]) := hide_ (by rw [← hz]; exact KB_2.out.putL _ _ _ _ _)
        have KS3 : Hid (Blk w3 gs 101 (cellsG stc (List.replicate n st0))) := hide_ (by rw [← hz]; exact KS_2.out.putLo _ _ _ _ _ _ (fun e => absurd (blk_type (e ▸ KS_2.out) KB_2.out) (by decide)))
        have HB3 : Hid (Below w1.heap.size w1 w3) := hide_ (by rw [← hz]; exact below_putL HBz2.out _ _ _ _ _ _ HGb.out)
        unfold putL at hz
        rw [hz]
        clear hz
        go_wp2_with fail
        go_meet
        case rel => exact ⟨b, gs, _, rfl, rfl, KB3, KS3, HB3, HGb, HGs⟩
      refine AllReadyF.cons rfl (fun K hK => ?_) AllReadyF.nil
      go_simp
      obtain ⟨wz2, hz⟩ : ∃ wx, wz1.alloc (.cells #[.nilIface, .slice none 0 0, .int .i64 0, .slice none 0 0, .slice none 0 0] 72) = wx := ⟨_, rfl⟩
      obtain ⟨b, ha⟩ : ∃ a, wz1.heap.size = a := ⟨_, rfl⟩
      have hbz : Below wz1.heap.size wz1 wz2 := by rw [← hz]; exact below1 _ _
      have KB_2 : Hid (Blk wz2 b 72 [.nilIface, .slice none 0 0, .int .i64 0, .slice none 0 0, .slice none 0 0]) := hide_ (by rw [← hz, ← ha]; exact Blk.newA _ _ _)
      have HGb : Hid (w1.heap.size ≤ b) := hide_ (by have := HBz1.out.size; omega)
      have HBz2 := hide_ (below_to HBz1.out hbz)
      have KS_2 := hide_ (KS_1.out.later hbz)
      have hSz2 := HS1.out wz2 HBz2.out
      rw [hz, ha]
      clear hbz hz ha
      refine hK.out _ _ (hSz2) (fun hHeld => ?_)
      clear hK K
      refine wpAnyF_ready (rs := [2]) (by kernel_rfl) (by simp) ?_
      refine AllReadyF.cons rfl (fun K hK => ?_) AllReadyF.nil
      go_simp
      refine (machineOf_any enc wz2).mono ?_
      rintro e w9 ⟨rfl, rfl⟩
      unfold mcV
      go_simp
      refine hK.out _ _ (hSz2) (fun hHeld => ?_)
      clear hK K
      refine wpAnyF_take [11] (by kernel_rfl) (i := 9) (v := ?vp11) rfl (by kernel_rfl) (by kernel_rfl) (by kernel_rfl) (fun _ _ _ h => h) (Or.inl ⟨by kernel_rfl, ?hyp11⟩) hHeld ?restp11
      case hyp11 => intro w' hSw; (try dsimp only at hSw); go_simp; try with_reducible rfl
      simp only [Act.put]
      try dsimp only
      refine wpAnyF_ready (rs := [11]) (by kernel_rfl) (by simp) ?_
      refine AllReadyF.last rfl (fun K hK => ?_)
      have pb := fun i => KB_2.out.cell i
      have p0 := pb 0; have p1 := pb 1; have p2 := pb 2; have p3 := pb 3; have p4 := pb 4
      simp at p0 p1 p2 p3 p4
      have zb := fun i => KB_2.out.frozen i
      clear pb
      go_simp
      refine hK.out _ _ ?_
      clear hK K
      refine wpAnyF_done (by kernel_rfl) ?_ _
      obtain ⟨w3, hz⟩ : ∃ wx, putL wz2 b (.iface (mTy enc) (.agg #[])) (.slice ac n cc) (.int .i64 0) (.slice (some ⟨gs, 0, none⟩) n n) (.slice none 0 0) = wx := ⟨_, rfl⟩
      have KB3 : Hid (Blk w3 b 72 [mcV enc, .slice ac n cc, .int .i64 0, .slice (some ⟨gs, 0, none⟩) n n, .slice none 0 0]) := hide_ (by rw [← hz]; exact KB_2.out.putL _ _ _ _ _)
      have KS3 : Hid (Blk w3 gs 101 (cellsG stc (List.replicate n st0))) := hide_ (by rw [← hz]; exact KS_2.out.putLo _ _ _ _ _ _ (fun e => absurd (blk_type (e ▸ KS_2.out) KB_2.out) (by decide)))
      have HB3 : Hid (Below w1.heap.size w1 w3) := hide_ (by rw [← hz]; exact below_putL HBz2.out _ _ _ _ _ _ HGb.out)
      unfold putL at hz
      rw [hz]
      clear hz
      go_wp2_with fail
      go_meet
      case rel => exact ⟨b, gs, _, rfl, rfl, KB3, KS3, HB3, HGb, HGs⟩
    refine AllReadyF.cons rfl (fun K hK => ?_) AllReadyF.nil
    go_simp
    obtain ⟨wz1, hz⟩ : ∃ wx, wz0.alloc (.cells #[.nilIface, .slice none 0 0, .int .i64 0, .slice none 0 0, .slice none 0 0] 72) = wx := ⟨_, rfl⟩
    obtain ⟨b, ha⟩ : ∃ a, wz0.heap.size = a := ⟨_, rfl⟩
    have hbz : Below wz0.heap.size wz0 wz1 := by rw [← hz]; exact below1 _ _
    have KB_1 : Hid (Blk wz1 b 72 [.nilIface, .slice none 0 0, .int .i64 0, .slice none 0 0, .slice none 0 0]) := hide_ (by rw [← hz, ← ha]; exact Blk.newA _ _ _)
    have HGb : Hid (w1.heap.size ≤ b) := hide_ (by have := HBz0.out.size; omega)
    have HBz1 := hide_ (below_to HBz0.out hbz)
    have hSz1 := HS1.out wz1 HBz1.out
    rw [hz, ha]
    clear hbz hz ha
    refine hK.out _ _ (hSz1) (fun hHeld => ?_)
    clear hK K
    refine wpAnyF_ready (rs := [2, 8]) (by kernel_rfl) (by simp) ?_
    refine AllReadyF.cons rfl (fun K hK => ?_) ?_
    · go_simp
      refine (machineOf_any enc wz1).mono ?_
      rintro e w9 ⟨rfl, rfl⟩
      unfold mcV
      go_simp
      refine hK.out _ _ (hSz1) (fun hHeld => ?_)
      clear hK K
      refine wpAnyF_ready (rs := [8]) (by kernel_rfl) (by simp) ?_
      refine AllReadyF.cons rfl (fun K hK => ?_) AllReadyF.nil
      have hmk := makeS n hn9 wz1
      go_simp
      clear hmk
      obtain ⟨wz2, hz⟩ : ∃ wx, wz1.alloc (.cells (madeCells #[.int .i64 0, .int .u64 0, .int .i64 0, .int .i64 0, .int .i64 0, .int .i64 0, .bool false] (n * 7)) 101) = wx := ⟨_, rfl⟩
      obtain ⟨gs, ha⟩ : ∃ a, wz1.heap.size = a := ⟨_, rfl⟩
      have hbz : Below wz1.heap.size wz1 wz2 := by rw [← hz]; exact below1 _ _
      have KS_2 : Hid (Blk wz2 gs 101 (cellsG stc (List.replicate n st0))) := hide_ (by rw [← hz, ← ha, ← madeS0]; exact Blk.newA _ _ _)
      have HGs : Hid (w1.heap.size ≤ gs) := hide_ (by have := HBz1.out.size; omega)
      have HBz2 := hide_ (below_to HBz1.out hbz)
      have KB_2 := hide_ (KB_1.out.later hbz)
      have hSz2 := HS1.out wz2 HBz2.out
      rw [hz, ha]
      clear hbz hz ha
      refine hK.out _ _ (hSz2) (fun hHeld => ?_)
      clear hK K
      refine wpAnyF_take [11] (by kernel_rfl) (i := 9) (v := ?vp12) rfl (by kernel_rfl) (by kernel_rfl) (by kernel_rfl) (fun _ _ _ h => h) (Or.inl ⟨by kernel_rfl, ?hyp12⟩) hHeld ?restp12
      case hyp12 => intro w' hSw; (try dsimp only at hSw); go_simp; try with_reducible rfl
      simp only [Act.put]
      try dsimp only
      refine wpAnyF_ready (rs := [11]) (by kernel_rfl) (by simp) ?_
      refine AllReadyF.last rfl (fun K hK => ?_)
      have pb := fun i => KB_2.out.cell i
      have p0 := pb 0; have p1 := pb 1; have p2 := pb 2; have p3 := pb 3; have p4 := pb 4
      simp at p0 p1 p2 p3 p4
      have zb := fun i => KB_2.out.frozen i
      clear pb
      go_simp
      refine hK.out _ _ ?_
      clear hK K
      refine wpAnyF_done (by kernel_rfl) ?_ _
      obtain ⟨w3, hz⟩ : ∃ wx, putL wz2 b (.iface (mTy enc) (.agg #[])) (.slice ac n cc) (.int .i64 0) (.slice (some ⟨gs, 0, none⟩) n n) (.slice none 0 0) = wx := ⟨_, rfl⟩
      have KB3 : Hid (Blk w3 b 72 [mcV enc, .slice ac n cc, .int .i64 0, .slice (some ⟨gs, 0, none⟩) n n, .slice none 0 0]) := hide_ (by rw [← hz]; exact KB_2.out.putL _ _ _ _ _)
      have KS3 : Hid (Blk w3 gs 101 (cellsG stc (List.replicate n st0))) := hide_ (by rw [← hz]; exact KS_2.out.putLo _ _ _ _ _ _ (fun e => absurd (blk_type (e ▸ KS_2.out) KB_2.out) (by decide)))
      have HB3 : Hid (Below w1.heap.size w1 w3) := hide_ (by rw [← hz]; exact below_putL HBz2.out _ _ _ _ _ _ HGb.out)
      unfold putL at hz
      rw [hz]
      clear hz
      go_wp2_with fail
      go_meet
      case rel => exact ⟨b, gs, _, rfl, rfl, KB3, KS3, HB3, HGb, HGs⟩
    refine AllReadyF.cons rfl (fun K hK => ?_) AllReadyF.nil
    have hmk := makeS n hn9 wz1
    go_simp
    clear hmk
    obtain ⟨wz2, hz⟩ : ∃ wx, wz1.alloc (.cells (madeCells #[.int .i64 0, .int .u64 0, .int .i64 0, .int .i64 0, .int .i64 0, .int .i64 0, .bool false] (n * 7)) 101) = wx := ⟨_, rfl⟩
    obtain ⟨gs, ha⟩ : ∃ a, wz1.heap.size = a := ⟨_, rfl⟩
    have hbz : Below wz1.heap.size wz1 wz2 := by rw [← hz]; exact below1 _ _
    have KS_2 : Hid (Blk wz2 gs 101 (cellsG stc (List.replicate n st0))) := hide_ (by rw [← hz, ← ha, ← madeS0]; exact Blk.newA _ _ _)
    have HGs : Hid (w1.heap.size ≤ gs) := hide_ (by have := HBz1.out.size; omega)
    have HBz2 := hide_ (below_to HBz1.out hbz)
    have KB_2 := hide_ (KB_1.out.later hbz)
    have hSz2 := HS1.out wz2 HBz2.out
    rw [hz, ha]
    clear hbz hz ha
    refine hK.out _ _ (hSz2) (fun hHeld => ?_)
    clear hK K
    refine wpAnyF_ready (rs := [2]) (by kernel_rfl) (by simp) ?_
    refine AllReadyF.cons rfl (fun K hK => ?_) AllReadyF.nil
    go_simp
    refine (machineOf_any enc wz2).mono ?_
    rintro e w9 ⟨rfl, rfl⟩
    unfold mcV
    go_simp
    refine hK.out _ _ (hSz2) (fun hHeld => ?_)
    clear hK K
    refine wpAnyF_take [11] (by kernel_rfl) (i := 9) (v := ?vp13) rfl (by kernel_rfl) (by kernel_rfl) (by kernel_rfl) (fun _ _ _ h => h) (Or.inl ⟨by kernel_rfl, ?hyp13⟩) hHeld ?restp13
    case hyp13 => intro w' hSw; (try dsimp only at hSw); go_simp; try with_reducible rfl
    simp only [Act.put]
    try dsimp only
    refine wpAnyF_ready (rs := [11]) (by kernel_rfl) (by simp) ?_
    refine AllReadyF.last rfl (fun K hK => ?_)
    have pb := fun i => KB_2.out.cell i
    have p0 := pb 0; have p1 := pb 1; have p2 := pb 2; have p3 := pb 3; have p4 := pb 4
    simp at p0 p1 p2 p3 p4
    have zb := fun i => KB_2.out.frozen i
    clear pb
    go_simp
    refine hK.out _ _ ?_
    clear hK K
    refine wpAnyF_done (by kernel_rfl) ?_ _
    obtain ⟨w3, hz⟩ : ∃ wx, putL wz2 b (.iface (mTy enc) (.agg #[])) (.slice ac n cc) (.int .i64 0) (.slice (some ⟨gs, 0, none⟩) n n) (.slice none 0 0) = wx := ⟨_, rfl⟩
    have KB3 : Hid (Blk w3 b 72 [mcV enc, .slice ac n cc, .int .i64 0, .slice (some ⟨gs, 0, none⟩) n n, .slice none 0 0]) := hide_ (by rw [← hz]; exact KB_2.out.putL _ _ _ _ _)
    have KS3 : Hid (Blk w3 gs 101 (cellsG stc (List.replicate n st0))) := hide_ (by rw [← hz]; exact KS_2.out.putLo _ _ _ _ _ _ (fun e => absurd (blk_type (e ▸ KS_2.out) KB_2.out) (by decide)))
    have HB3 : Hid (Below w1.heap.size w1 w3) := hide_ (by rw [← hz]; exact below_putL HBz2.out _ _ _ _ _ _ HGb.out)
    unfold putL at hz
    rw [hz]
    clear hz
    go_wp2_with fail
    go_meet
    case rel => exact ⟨b, gs, _, rfl, rfl, KB3, KS3, HB3, HGb, HGs⟩
  case rest =>
  obtain ⟨b, gs, w3, rfl, rfl, KB, KS, HB3, HGb, HGs⟩ := hcut
  have g2 := (HK1.out.later HB3.out).cell 2
  simp at g2
  by_cases hE0 : E = []
  · subst hE0
    have c3 := KB.out.cell 3
    simp at c3
    have HX : Hid (FlTo w n R (.returned (.tuple #[.slice (some ⟨gs, 0, none⟩) n n, .int .i64 1048576])) w3) := hide_ (by
      have h1 := HR.out
      rw [firstP] at h1
      rw [← h1, Hn.out]
      exact ⟨below_to HB1.out HB3.out, .inl ⟨rfl, gs, rfl, Nat.le_trans HB1.out.size HGs.out, by simp, KS.out⟩⟩)
    go_wp2_with fail
    have hr0 : Row .i64 w3 ae [] := (he.out.later HB1.out).later HB3.out
    go_loopw [21] (fun x21 wr => x21 = .int .i64 0 ∧ w3 = wr) (fun _ _ => 0)
    case atStart => exact ⟨rfl, rfl⟩
    case round =>
      obtain ⟨rfl, rfl⟩ := hrel
      go_wp2_with fail
      go_ret2
      exact HX.out
  · have hE1 : 0 < E.length := List.length_pos_iff.2 hE0
    have he0 := hK.out.ent 0 hE1
    obtain ⟨bc, oc, rfl, -, -⟩ := (hr.out.later HB1.out).open (by omega)
    obtain ⟨be, oe, rfl, hbe, hce2⟩ := (he.out.later HB1.out).open hE1
    have HL3 : Hid (LkS w1 w3 b gs bc oc cc enc C 0 (List.replicate n st0) [] (.slice none 0 0)) := hide_ ⟨HB3.out, HGb.out, HGs.out, hr.out.later HB1.out, by rw [Hn.out]; exact KB.out, KS.out, by simp [Hn.out], IOwn.nil _ _⟩
    have HN3 : Hid (Pnd C.length (List.replicate n st0) []) := hide_ (pnd_new C.length _ (by simp [Hn.out]))
    have HE : Hid (∀ (w4 : World) (j : Nat), Below w1.heap.size w1 w4 → j < E.length → w4.cell? ⟨be, oe + j, none⟩ = some (.int .i64 (E.getD j 0))) := hide_ (fun w4 j hB hj => (hB.cell (p := ⟨be, oe + j, none⟩) hbe).trans (hce2 j hj))
    have HK : Hid (Chk enc C E) := hK
    have HR3 : Hid (firstP enc C (E.drop 0) 0 (List.replicate n st0) = R) := hide_ (by have h1 := HR.out; rw [Hn.out] at h1; exact h1)
    clear hE0 he0 hce2 KB KS HS1 HK1
    go_wp2_with fail
    clear g2
    go_loopw [21] (fun x21 wr => ∃ (j : Nat) (Sj : List St) (rj : Int) (vj : Value), j ≤ E.length ∧ x21 = .int .i64 (j : Int) ∧ Hid (firstP enc C (E.drop j) j Sj = R) ∧ Hid (LkS w1 wr b gs bc oc cc enc C rj Sj [] vj) ∧ Hid (SAll Sj) ∧ Hid (Pnd C.length Sj [])) (fun x21 _ => E.length - (intOf x21).toNat)
    case atStart => exact ⟨0, _, 0, _, by omega, rfl, HR3, HL3, hide_ (SAll.new n), HN3⟩
    case round =>
      clear HR3 HL3 HN3 HB3
      obtain ⟨j, Sj, rj, vj, hj, rfl, HRj, HLj, HSj, HNj⟩ := hrel
      generalize wr = wq at *
      by_cases hlt : j < E.length
      · have hlt' : (j : Int) < (E.length : Int) := by omega
        have ce := HE.out wq j HLj.out.old hlt
        have hent := HK.out.ent j hlt
        obtain ⟨y, hy⟩ : ∃ y, E.getD j 0 = y := ⟨_, rfl⟩
        rw [hy] at ce hent
        obtain ⟨en, rfl⟩ := Int.eq_ofNat_of_zero_le hent.1
        have hen : en < C.length := by omega
        have hdr : E.drop j = (en : Int) :: E.drop (j + 1) := by
          rw [List.drop_eq_getElem_cons hlt]
          congr 1
          rw [← hy]
          simp [List.getD, hlt]
        have hrj := HRj.out
        rw [hdr, firstP, Int.toNat_natCast] at hrj
        have HRj2 := hide_ hrj
        have c2 := HLj.out.blk.cell 2
        simp at c2
        have z2 := HLj.out.blk.frozen 2
        have HL4 := hide_ (HLj.out.setR (j : Int))
        have HTh := hide_ (through_any w1 b gs bc oc cc enc C (j : Int) Sj vj en (wq.setCell ⟨b, 2, none⟩ (.int .i64 (j : Int))) hen (by rw [Hn.out]; exact hcc) hcl hC hW HSj HNj HL4)
        have HFin := hide_ (fun h => thruP_fin (r := (j : Int)) hW.out hC.out HLj.out.len HNj.out HSj.out hen h)
        generalize thruP enc C (j : Int) Sj [] en = Z at *
        clear hrj hdr hy hent HRj
        go_wp2_with fail
        refine HTh.out.mono ?_
        rintro e w5 hT
        obtain ⟨v5, rfl, hL5⟩ := hT
        have HL5 := hide_ hL5
        clear hL5 HTh ce c2 z2
        obtain ⟨z, S5, P5⟩ := Z
        by_cases hz : z = 1048576
        · have f1 : (z != 1048576) = false := by simp [hz]
          have HF5 := hide_ (HFin.out hz)
          have HR5 : Hid (firstP enc C (E.drop (j + 1)) (j + 1) S5 = R) := hide_ (by
            have h1 := HRj2.out
            rw [if_pos hz] at h1
            exact h1)
          have HL6 : Hid (LkS w1 w5 b gs bc oc cc enc C (j : Int) S5 [] v5) := hide_ (by
            have h1 := HL5.out
            have h2 := HF5.out.1
            simp only at h1 h2
            rw [h2] at h1
            exact h1)
          have HN5 : Hid (Pnd C.length S5 []) := hide_ HF5.out.2.1
          have HS5 : Hid (SAll S5) := hide_ HF5.out.2.2
          clear hz HF5 HFin HRj2 HL5
          go_wp2_with fail
          go_roundw
          case rel => exact ⟨j + 1, S5, _, v5, by omega, by go_num, HR5, HL6, HS5, HN5⟩
          case measure => simp [intOf]; omega
        · have f1 : (z != 1048576) = true := by simp [hz]
          have HX : Hid (FlTo w n R (.returned (.tuple #[.slice none 0 0, .int .i64 z])) w5) := hide_ (by
            have h1 := HRj2.out
            rw [if_neg hz] at h1
            rw [← h1]
            exact ⟨below_to HB1.out HL5.out.old, .inr ⟨hz, rfl⟩⟩)
          clear hz HFin HRj2
          go_wp2_with fail
          go_ret2
          exact HX.out
      · have hlt' : ¬ ((j : Int) < (E.length : Int)) := by omega
        have c3 := HLj.out.cells.2.2.2.1
        rw [Hn.out] at c3
        have HX : Hid (FlTo w n R (.returned (.tuple #[.slice (some ⟨gs, 0, none⟩) n n, .int .i64 1048576])) wq) := hide_ (by
          have h1 := HRj.out
          rw [List.drop_of_length_le (by omega), firstP] at h1
          rw [← h1]
          exact ⟨below_to HB1.out HLj.out.old, .inl ⟨rfl, gs, rfl, Nat.le_trans HB1.out.size HGs.out, by rw [← Hn.out]; exact HLj.out.len, HLj.out.st⟩⟩)
        go_wp2_with fail
        go_ret2
        exact HX.out
end Go.Proofs.YtjamfbpdepahnaaGreat
