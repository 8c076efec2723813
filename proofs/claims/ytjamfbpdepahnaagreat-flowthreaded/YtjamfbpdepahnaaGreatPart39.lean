import Derived.Test.YtjamfbpdepahnaaGreatPart38
namespace Go.Proofs.YtjamfbpdepahnaaGreat
open Go.RowKit
set_option linter.unusedVariables false
set_option linter.unusedSimpArgs false
def stP (enc : Bool) (C : List In) (E : List Int) : List St := (firstP enc C E 0 (List.replicate C.length st0)).2
def vfP (enc : Bool) (C : List In) (E : List Int) : Int × Int :=
  if (chk enc C E).1 ≠ 0 then chk enc C E else
  if (firstP enc C E 0 (List.replicate C.length st0)).1 ≠ 1048576 then (150, (firstP enc C E 0 (List.replicate C.length st0)).1) else
  if secondP C E (stP enc C E) ≠ 1048576 then (150, secondP C E (stP enc C E)) else (0, 0)
theorem firstP_all {enc : Bool} {C : List In} {E : List Int} (hK : Chk enc C E) (h : (firstP enc C E 0 (List.replicate C.length st0)).1 = 1048576) : SAll (stP enc C E) ∧ (stP enc C E).length = C.length ∧ (∀ k, k < C.length → cameP (stP enc C E) k = true → Inn C k ∧ ∀ y ∈ waysP C k, cameP (stP enc C E) y.toNat = true) ∧ ∀ e ∈ E, cameP (stP enc C E) e.toNat = true := by
  have hz : ∀ k, (stA (List.replicate C.length st0) k).pl = 0 := fun k => by
    unfold stA
    by_cases hk : k < C.length <;> simp [List.getD, hk, st0]
  have hE : ∀ e ∈ E, 0 ≤ e ∧ e < (C.length : Int) := fun e he => by
    obtain ⟨i, hi, rfl⟩ := List.mem_iff_getElem.1 he
    have := hK.ent i hi
    simpa [List.getD, hi] using this
  obtain ⟨-, h2, h3⟩ := firstP_lkd hK.win hK.cdok E 0 hE (by simp) (pnd_new _ _ (by simp)) (SAll.new _) (fun k hk hp => absurd (hz k) hp) h
  obtain ⟨d1, -, d3⟩ := firstP_cls hK.win hK.cdok E 0 hE (by simp) (pnd_new _ _ (by simp)) (SAll.new _) (fun k hk hp => absurd (hz k) hp) h
  refine ⟨h2, h3, fun k hk hc => ⟨firstP_inn hK h k hk hc, fun y hy => ?_⟩, fun e he => ?_⟩
  · have h4 : (stA (stP enc C E) k).pl ≠ 0 := by
      unfold cameP at hc
      simpa using hc
    rcases d1 k hk h4 with h5 | h5
    · cases h5
    · unfold cameP stP
      simpa using h5 y hy
  · unfold cameP stP
    simpa using d3 e he
theorem retVS {fn : Func} {p u : Tmp} (h : fn.results = #[.tmp u, .cell p 30]) {R : Ending → World → Prop} {tmps : Array Value} {g : Nat} {w : World} {x y v : Value} (hu : tmps.getD u undef = v) (hp : tmps.getD p undef = .pointer (some ⟨g, 0, none⟩)) (hK : Blk w g 30 [x, y]) (hR : R (.returned (.tuple #[v, .agg #[x, y]])) w) :
    bodyPost Tryz.prog fn R Exit.ret ⟨tmps, []⟩ w :=
  bodyPost_ret (results_tmp_cell_row h _ _ _ _ #[x, y] _ _ hp (show w.heap[g]? = some (.cells #[x, y] 30 (0, 0)) from hK) Tryz.underlying30 rfl (by show _ = some 2; kernel_rfl)) rfl (by rw [hu]; exact hR)
def VfTo (w : World) (enc : Bool) (C : List In) (E : List Int) (e : Ending) (w' : World) : Prop :=
  Below w.heap.size w w' ∧ (((vfP enc C E).1 = 0 ∧ (vfP enc C E).2 = 0 ∧ Chk enc C E ∧ SAll (stP enc C E) ∧ (stP enc C E).length = C.length ∧ ∃ g, e = .returned (.tuple #[.slice (some ⟨g, 0, none⟩) C.length C.length, .agg #[.int .i64 0, .int .i64 0]]) ∧ w.heap.size ≤ g ∧ Blk w' g 101 (cellsG stc (stP enc C E))) ∨
    ((vfP enc C E).1 ≠ 0 ∧ e = .returned (.tuple #[.slice none 0 0, .agg #[.int .i64 (vfP enc C E).1, .int .i64 (vfP enc C E).2]])))
set_option maxRecDepth 100000 in
set_option maxHeartbeats 16000000 in
theorem verified_any (enc : Bool) (ac ae : Option Addr) (cc ce : Nat) (C : List In) (E : List Int) (w : World) (hcc : C.length ≤ cc) (hcl : cc ≤ 9223372036854775807) (hCl : C.length ≤ 140737488355328) (hce : E.length ≤ ce) (hel : E.length ≤ 140737488355328) (hr : Hid (IRow w ac C)) (he : Hid (Row .i64 w ae E)) :
    Calls Tryz.prog 19 #[.agg #[.bool enc, .slice ac C.length cc, .slice ae E.length ce]] w fun e w' => VfTo w enc C E e w' := by
  obtain ⟨w1, hw1⟩ : ∃ wx, (w.alloc (.cells #[.bool enc, .slice ac C.length cc, .slice ae E.length ce] 25)).alloc (.cells #[.int .i64 0, .int .i64 0] 30) = wx := ⟨_, rfl⟩
  have hB1 : Below w.heap.size w w1 := by rw [← hw1]; exact below2 _ _ _
  obtain ⟨kp, kf⟩ := blk2 w #[.bool enc, .slice ac C.length cc, .slice ae E.length ce] #[.int .i64 0, .int .i64 0] 25 30
  rw [hw1] at kp kf
  have hgf : w.heap.size ≤ w.heap.size + 1 := by omega
  have p0 := kp.cell 0; have p1 := kp.cell 1; have p2 := kp.cell 2
  simp at p0 p1 p2
  have HCk := hide_ (check_any enc ac ae cc ce C E w1 hcc hcl hCl hce hel (hide_ (hr.out.later hB1)) (hide_ (he.out.later hB1)))
  obtain ⟨K, hK⟩ : ∃ K, chk enc C E = K := ⟨_, rfl⟩
  rw [hK] at HCk
  have HKk := hide_ hK
  have KP := hide_ kp
  have KF := hide_ kf
  have HB1 := hide_ hB1
  clear kp kf hB1 hK
  go_enter Tryz.func19, Tryz.ntmps19
  go_upto_region 1 with fail
  try rw [hw1]
  clear hw1
  go_wp2_with fail
  refine HCk.out.mono ?_
  rintro e w2 ⟨rfl, hB2⟩
  obtain ⟨w3, hw3⟩ : ∃ wx, w2.alloc (.cells #[.int .i64 K.1, .int .i64 K.2] 30) = wx := ⟨_, rfl⟩
  have hB3 : Below w2.heap.size w2 w3 := by rw [← hw3]; exact below1 _ _
  have hK3 : Blk w3 w2.heap.size 30 [.int .i64 K.1, .int .i64 K.2] := by rw [← hw3]; exact Blk.newA _ _ _
  have HB3 := hide_ (below_to (below_to HB1.out hB2) hB3)
  have HP3 := hide_ ((KP.out.later hB2).later hB3)
  have HF3 := hide_ ((KF.out.later hB2).later hB3)
  have q0 := hK3.cell 0; have q1 := hK3.cell 1
  simp at q0 q1
  clear hB2 hB3 HCk p0 p1 p2 hK3 KP KF HB1
  by_cases h0 : K.1 = 0
  · have f0 : (K.1 == 0) = true := by simpa using h0
    have HK : Hid (Chk enc C E) := hide_ (chk_ok.1 (chk_zero (by rw [HKk.out]; exact h0)))
    have HFl := hide_ (firstLook_any enc ac ae cc ce C E w3 hcc hcl hce HK (hide_ (hr.out.later HB3.out)) (hide_ (he.out.later HB3.out)))
    have p0 := HP3.out.cell 0; have p1 := HP3.out.cell 1; have p2 := HP3.out.cell 2
    simp at p0 p1 p2
    have H0 := hide_ h0
    obtain ⟨F, hF⟩ : ∃ F, firstP enc C E 0 (List.replicate C.length st0) = F := ⟨_, rfl⟩
    rw [hF] at HFl
    have HFe := hide_ hF
    clear hF h0
    go_wp2_with fail
    try rw [hw3]
    clear hw3
    refine HFl.out.mono ?_
    rintro e w4 ⟨hB4, hT⟩
    have HB4 := hide_ (below_to HB3.out hB4)
    have HP4 := hide_ (HP3.out.later hB4)
    have HF4 := hide_ (HF3.out.later hB4)
    clear q0 q1 p0 p1 p2 HFl
    have z0 := HF4.out.cell 0; have z1 := HF4.out.cell 1
    have zf := fun i => HF4.out.frozen i
    simp at z0 z1
    rcases hT with ⟨hT1, g, rfl, hg, hTl, hTb⟩ | ⟨hT1, rfl⟩
    · obtain ⟨a1, a2, a3, a4⟩ := firstP_all HK.out (by rw [HFe.out]; exact hT1)
      have hSe : stP enc C E = F.2 := by unfold stP; rw [HFe.out]
      rw [hSe] at a1 a2 a3 a4
      have HSl := hide_ (secondLook_any enc ac ae cc ce g C E F.2 w4 hcc hcl hce HK (hide_ (hr.out.later HB4.out)) (hide_ (he.out.later HB4.out)) (hide_ hTb) a2 (hide_ a3) (hide_ a4))
      obtain ⟨s, hs⟩ : ∃ s, secondP C E F.2 = s := ⟨_, rfl⟩
      rw [hs] at HSl
      have p0 := HP4.out.cell 0; have p1 := HP4.out.cell 1; have p2 := HP4.out.cell 2
      simp at p0 p1 p2
      have HTb := hide_ hTb
      have Hg : Hid (w.heap.size ≤ g) := hide_ (Nat.le_trans HB3.out.size hg)
      have Hgf : Hid (g ≠ w.heap.size + 1) := hide_ (fun e => by have h1 := HF3.out.lt; omega)
      have HAl : Hid (SAll F.2 ∧ F.2.length = C.length) := hide_ ⟨a1, a2⟩
      have HVf : Hid (vfP enc C E = if s ≠ 1048576 then (150, s) else (0, 0)) := hide_ (by
        unfold vfP
        rw [HKk.out, HFe.out, if_neg (by simp [H0.out]), if_neg (by simp [hT1]), hSe, hs])
      have HSe := hide_ hSe
      clear hT1 hg hTl hTb a1 a2 a3 a4 hs hSe hB4 z0 z1 zf
      go_wp2_with fail
      refine HSl.out.mono ?_
      rintro e w5 ⟨rfl, hB5⟩
      have HB5 := hide_ (below_to HB4.out hB5)
      have HF5 := hide_ (HF4.out.later hB5)
      have HT5 := hide_ (HTb.out.later hB5)
      have z0 := HF5.out.cell 0; have z1 := HF5.out.cell 1
      have zf := fun i => HF5.out.frozen i
      simp at z0 z1
      clear hB5 HSl p0 p1 p2
      by_cases hsn : s = 1048576
      · have f1 : (s == 1048576) = true := by simpa using hsn
        have HX : Hid (∀ w', Below w.heap.size w w' → Blk w' g 101 (cellsG stc F.2) → VfTo w enc C E (.returned (.tuple #[.slice (some ⟨g, 0, none⟩) C.length C.length, .agg #[.int .i64 0, .int .i64 0]])) w') := hide_ (fun w' h1 h2 => by
          have h3 := HVf.out
          rw [if_neg (fun h => h hsn)] at h3
          refine ⟨h1, .inl ⟨by rw [h3], by rw [h3], HK.out, by rw [HSe.out]; exact HAl.out.1, by rw [HSe.out]; exact HAl.out.2, g, rfl, Hg.out, by rw [HSe.out]; exact h2⟩⟩)
        go_wp2_with fail
        refine retVS rfl rfl rfl (wr2f HF5.out _ _) ?_
        exact HX.out _ (below_set (below_set HB5.out _ _ _ hgf) _ _ _ hgf) ((HT5.out.other _ _ Hgf.out).other _ _ Hgf.out)
      · have f1 : (s == 1048576) = false := by simpa using hsn
        have HX : Hid (∀ w', Below w.heap.size w w' → VfTo w enc C E (.returned (.tuple #[.slice none 0 0, .agg #[.int .i64 150, .int .i64 s]])) w') := hide_ (fun w' h1 => by
          have h3 := HVf.out
          rw [if_pos hsn] at h3
          exact ⟨h1, .inr ⟨by rw [h3]; simp, by rw [h3]⟩⟩)
        go_wp2_with fail
        refine retVS rfl rfl rfl (wr2f HF5.out _ _) ?_
        exact HX.out _ (below_set (below_set HB5.out _ _ _ hgf) _ _ _ hgf)
    · have f1 : (F.1 == 1048576) = false := by simpa using hT1
      have HX : Hid (∀ w', Below w.heap.size w w' → VfTo w enc C E (.returned (.tuple #[.slice none 0 0, .agg #[.int .i64 150, .int .i64 F.1]])) w') := hide_ (fun w' h1 => by
        have h3 : vfP enc C E = (150, F.1) := by
          unfold vfP
          rw [HKk.out, HFe.out, if_neg (by simp [H0.out]), if_pos hT1]
        exact ⟨h1, .inr ⟨by rw [h3]; simp, by rw [h3]⟩⟩)
      clear hT1 hB4
      go_wp2_with fail
      refine retVS rfl rfl rfl (wr2f HF4.out _ _) ?_
      exact HX.out _ (below_set (below_set HB4.out _ _ _ hgf) _ _ _ hgf)
  · have f0 : (K.1 == 0) = false := by simpa using h0
    have HX : Hid (∀ w', Below w.heap.size w w' → VfTo w enc C E (.returned (.tuple #[.slice none 0 0, .agg #[.int .i64 K.1, .int .i64 K.2]])) w') := hide_ (fun w' h1 => by
      have h3 : vfP enc C E = K := by
        unfold vfP
        rw [HKk.out, if_pos h0]
      exact ⟨h1, .inr ⟨by rw [h3]; exact h0, by rw [h3]⟩⟩)
    have z0 := HF3.out.cell 0; have z1 := HF3.out.cell 1
    have zf := fun i => HF3.out.frozen i
    simp at z0 z1
    clear h0
    go_wp2_with fail
    try rw [hw3]
    clear hw3
    go_region
    go_wp2_with fail
    refine retVS rfl rfl rfl (wr2f HF3.out _ _).drew ?_
    exact HX.out _ (below_set (below_set HB3.out _ _ _ hgf) _ _ _ hgf).drew
set_option maxRecDepth 100000 in
set_option maxHeartbeats 16000000 in
theorem verify_any (enc : Bool) (ac ae : Option Addr) (cc ce : Nat) (C : List In) (E : List Int) (w : World) (hcc : C.length ≤ cc) (hcl : cc ≤ 9223372036854775807) (hCl : C.length ≤ 140737488355328) (hce : E.length ≤ ce) (hel : E.length ≤ 140737488355328) (hr : Hid (IRow w ac C)) (he : Hid (Row .i64 w ae E)) :
    Calls Tryz.prog 7 #[.agg #[.bool enc, .slice ac C.length cc, .slice ae E.length ce]] w fun e w' => e = .returned (.agg #[.int .i64 (vfP enc C E).1, .int .i64 (vfP enc C E).2]) ∧ Below w.heap.size w w' := by
  obtain ⟨w1, hw1⟩ : ∃ wx, (w.alloc (.cells #[.bool enc, .slice ac C.length cc, .slice ae E.length ce] 25)).alloc (.cells #[.int .i64 0, .int .i64 0] 30) = wx := ⟨_, rfl⟩
  have hB1 : Below w.heap.size w w1 := by rw [← hw1]; exact below2 _ _ _
  obtain ⟨kp, kf⟩ := blk2 w #[.bool enc, .slice ac C.length cc, .slice ae E.length ce] #[.int .i64 0, .int .i64 0] 25 30
  rw [hw1] at kp kf
  have hgf : w.heap.size ≤ w.heap.size + 1 := by omega
  have p0 := kp.cell 0; have p1 := kp.cell 1; have p2 := kp.cell 2
  simp at p0 p1 p2
  have HVf := hide_ (verified_any enc ac ae cc ce C E w1 hcc hcl hCl hce hel (hide_ (hr.out.later hB1)) (hide_ (he.out.later hB1)))
  obtain ⟨K, hK⟩ : ∃ K, vfP enc C E = K := ⟨_, rfl⟩
  have HV2 : Hid (Calls Tryz.prog 19 #[.agg #[.bool enc, .slice ac C.length cc, .slice ae E.length ce]] w1 fun e w' => ∃ v, e = .returned (.tuple #[v, .agg #[.int .i64 K.1, .int .i64 K.2]]) ∧ Hid (Below w1.heap.size w1 w')) := hide_ (by
    refine HVf.out.mono ?_
    rintro e w' ⟨h1, ⟨h2, h3, -, -, -, g, rfl, -, -⟩ | ⟨-, rfl⟩⟩
    · exact ⟨_, by rw [← hK, h2, h3], hide_ h1⟩
    · exact ⟨_, by rw [← hK], hide_ h1⟩)
  have KF := hide_ kf
  have HB1 := hide_ hB1
  rw [hK]
  clear kp kf hB1 hK HVf
  go_enter Tryz.func7, Tryz.ntmps7
  go_upto_region 1 with fail
  try rw [hw1]
  clear hw1
  go_wp2_with fail
  refine HV2.out.mono ?_
  rintro e w2 ⟨v2, rfl, HB2⟩
  obtain ⟨w3, hw3⟩ : ∃ wx, w2.alloc (.cells #[.int .i64 K.1, .int .i64 K.2] 30) = wx := ⟨_, rfl⟩
  have hB3 : Below w2.heap.size w2 w3 := by rw [← hw3]; exact below1 _ _
  have hK3 : Blk w3 w2.heap.size 30 [.int .i64 K.1, .int .i64 K.2] := by rw [← hw3]; exact Blk.newA _ _ _
  have HB3 := hide_ (below_to (below_to HB1.out HB2.out) hB3)
  have HF3 := hide_ ((KF.out.later HB2.out).later hB3)
  have q0 := hK3.cell 0; have q1 := hK3.cell 1
  have z0 := HF3.out.cell 0; have z1 := HF3.out.cell 1
  have zf := fun i => HF3.out.frozen i
  simp at q0 q1 z0 z1
  clear hB3 p0 p1 p2 hK3 KF HB1 HV2 HB2
  go_wp2_with fail
  try rw [hw3]
  clear hw3
  refine retFt rfl rfl (wr2f HF3.out _ _) ?_
  exact ⟨rfl, below_set (below_set HB3.out _ _ _ hgf) _ _ _ hgf⟩
def RN {α : Type} (R : α → α → Prop) : Nat → α → α → Prop
  | 0, a, b => a = b
  | k + 1, a, b => ∃ c, R a c ∧ RN R k c b
def Wy {α : Type} (R : α → α → Prop) (a b : α) : Prop := ∃ k, RN R k a b
def Wyp {α : Type} (R : α → α → Prop) (a b : α) : Prop := ∃ c, R a c ∧ Wy R c b
section
variable {α : Type} {R R' : α → α → Prop} {a b c : α}
theorem Wy.refl (R : α → α → Prop) (a : α) : Wy R a a := ⟨0, rfl⟩
theorem Wy.head (h : R a b) (k : Wy R b c) : Wy R a c := by obtain ⟨m, hm⟩ := k; exact ⟨m + 1, b, h, hm⟩
theorem RN.trans : ∀ (k : Nat) {a : α}, RN R k a b → Wy R b c → Wy R a c
  | 0, a, h, k => by cases h; exact k
  | m + 1, a, ⟨d, h1, h2⟩, k => Wy.head h1 (RN.trans m h2 k)
theorem Wy.trans (h : Wy R a b) (k : Wy R b c) : Wy R a c := by obtain ⟨m, hm⟩ := h; exact RN.trans m hm k
theorem Wy.one (h : R a b) : Wy R a b := Wy.head h (Wy.refl R b)
theorem Wy.snoc (h : Wy R a b) (k : R b c) : Wy R a c := h.trans (Wy.one k)
theorem Wy.cases (h : Wy R a b) : a = b ∨ Wyp R a b := by
  obtain ⟨m, hm⟩ := h
  cases m with
  | zero => exact .inl hm
  | succ m => obtain ⟨c, h1, h2⟩ := hm; exact .inr ⟨c, h1, m, h2⟩
theorem Wyp.rs (h : Wyp R a b) : Wy R a b := by obtain ⟨c, h1, h2⟩ := h; exact h2.head h1
theorem Wyp.trans_rs (h : Wyp R a b) (k : Wy R b c) : Wyp R a c := by obtain ⟨d, h1, h2⟩ := h; exact ⟨d, h1, h2.trans k⟩
theorem Wy.trans_rp (h : Wy R a b) (k : Wyp R b c) : Wyp R a c := by
  rcases h.cases with e | h
  · rw [e]; exact k
  · exact h.trans_rs k.rs
theorem RN.keep {Q : α → Prop} (hQ : ∀ a b, Q a → R a b → Q b) : ∀ (k : Nat) {a : α}, RN R k a b → Q a → Q b
  | 0, a, h, q => by cases h; exact q
  | m + 1, a, ⟨d, h1, h2⟩, q => RN.keep hQ m h2 (hQ _ _ q h1)
theorem Wy.keep {Q : α → Prop} (hQ : ∀ a b, Q a → R a b → Q b) (h : Wy R a b) (q : Q a) : Q b := by obtain ⟨m, hm⟩ := h; exact RN.keep hQ m hm q
theorem RN.map {β : Type} {T : β → β → Prop} (f : α → β) {Q : α → Prop} (hQ : ∀ a b, Q a → R a b → Q b) (hf : ∀ a b, Q a → R a b → Wy T (f a) (f b)) : ∀ (k : Nat) {a : α}, RN R k a b → Q a → Wy T (f a) (f b)
  | 0, a, h, q => by cases h; exact Wy.refl _ _
  | m + 1, a, ⟨d, h1, h2⟩, q => (hf _ _ q h1).trans (RN.map f hQ hf m h2 (hQ _ _ q h1))
theorem Wy.map {β : Type} {T : β → β → Prop} (f : α → β) {Q : α → Prop} (hQ : ∀ a b, Q a → R a b → Q b) (hf : ∀ a b, Q a → R a b → Wy T (f a) (f b)) (h : Wy R a b) (q : Q a) : Wy T (f a) (f b) := by obtain ⟨m, hm⟩ := h; exact RN.map f hQ hf m hm q
theorem Wy.mono (hf : ∀ a b, R a b → R' a b) (h : Wy R a b) : Wy R' a b := Wy.map id (Q := fun _ => True) (fun _ _ _ _ => trivial) (fun a b _ h => Wy.one (hf a b h)) h trivial
theorem RN.flip : ∀ (k : Nat) {a : α}, RN R k a b → Wy (fun x y => R y x) b a
  | 0, a, h => by cases h; exact Wy.refl _ _
  | m + 1, a, ⟨d, h1, h2⟩ => (RN.flip m h2).snoc h1
theorem Wy.flip (h : Wy R a b) : Wy (fun x y => R y x) b a := by obtain ⟨m, hm⟩ := h; exact RN.flip m hm
end
def eR (ed : Nat → List Int) (a b : Nat) : Prop := (b : Int) ∈ ed a
theorem eR_of {ed : Nat → List Int} {n a : Nat} {y : Int} (h : Stn n (ed a)) (hy : y ∈ ed a) : eR ed a y.toNat := by
  have := h y hy
  unfold eR
  rw [show ((y.toNat : Nat) : Int) = y by omega]
  exact hy
theorem eR_lt {ed : Nat → List Int} {n a b : Nat} (h : Stn n (ed a)) (hy : eR ed a b) : b < n := by
  have := h _ hy
  omega
theorem Wy.lt {ed : Nat → List Int} {n a b : Nat} (he : ∀ k, k < n → Stn n (ed k)) (h : Wy (eR ed) a b) (ha : a < n) : b < n :=
  h.keep (Q := fun k => k < n) (fun x y hx hy => eR_lt (he x hx) hy) ha
theorem take_lastS {l : List Int} (h0 : l ≠ []) : l.take (l.length - 1) ++ [hAt l (l.length - 1)] = l := by
  have hl : 0 < l.length := List.length_pos_iff.2 h0
  have e : hAt l (l.length - 1) = l[l.length - 1]'(by omega) := by unfold hAt; simp [List.getD, List.getElem?_eq_getElem (show l.length - 1 < l.length by omega)]
  rw [e]
  conv => rhs; rw [← List.take_append_drop (l.length - 1) l]
  congr 1
  rw [List.drop_eq_getElem_cons (by omega)]
  simp [show l.length - 1 + 1 = l.length by omega]
structure SpQ (ed : Nat → List Int) (n : Nat) (s0 : List Bool) (fd0 wk0 : List Int) (R : List Int × List Bool) : Prop where
  len : R.2.length = n
  mono : ∀ k, qAt s0 k = true → qAt R.2 k = true
  cl : ∀ k, k < n → qAt R.2 k = true → qAt s0 k = true ∨ ∀ y ∈ ed k, qAt R.2 y.toNat = true
  start : ∀ y ∈ wk0, qAt R.2 y.toNat = true
  lst : ∃ l, R.1 = fd0 ++ l ∧ l.Nodup ∧ (∀ x ∈ l, 0 ≤ x ∧ x < (n : Int) ∧ qAt s0 x.toNat = false ∧ qAt R.2 x.toNat = true ∧ ∃ y ∈ wk0, Wy (eR ed) y.toNat x.toNat) ∧ ∀ k, qAt R.2 k = true → qAt s0 k = true ∨ (k : Int) ∈ l
theorem sp_sem {ed : Nat → List Int} {n : Nat} (he : ∀ k, k < n → Stn n (ed k)) : ∀ (f : Nat) {wk : List Int} {s : List Bool} {fd : List Int}, Stn n wk → s.length = n → wk.length + tot ed s n < f → SpQ ed n s fd wk (spF ed f wk s fd)
  | 0, wk, s, fd, _, _, h => by omega
  | f + 1, wk, s, fd, hw, hs, h1 => by
    unfold spF
    by_cases h0 : wk = []
    · rw [if_pos h0]
      subst h0
      exact ⟨hs, fun _ h => h, fun k _ h => .inl h, fun y hy => (by cases hy), [], by simp, List.nodup_nil, fun x hx => (by cases hx), fun k h => .inl h⟩
    rw [if_neg h0]
    obtain ⟨p1, p2, p3⟩ := sp_pop hw h0
    have hl : 0 < wk.length := List.length_pos_iff.2 h0
    have ht : (wk.take (wk.length - 1)).length = wk.length - 1 := by simp
    have hT := take_lastS h0
    obtain ⟨y, hy⟩ : ∃ y, hAt wk (wk.length - 1) = y := ⟨_, rfl⟩
    rw [hy] at p1 p2 hT ⊢
    have hmem : ∀ z ∈ wk, z ∈ wk.take (wk.length - 1) ∨ z = y := fun z hz => by
      rw [← hT] at hz
      rcases List.mem_append.1 hz with h | h
      · exact .inl h
      · exact .inr (List.mem_singleton.1 h)
    have hyw : y ∈ wk := by rw [← hT]; simp
    have hyn : y.toNat < n := by omega
    by_cases hq : qAt s y.toNat = true
    · rw [if_pos hq]
      have ih := sp_sem he f (wk := wk.take (wk.length - 1)) (s := s) (fd := fd) p3 hs (by omega)
      refine ⟨ih.len, ih.mono, ih.cl, fun z hz => ?_, ?_⟩
      · rcases hmem z hz with h | h
        · exact ih.start z h
        · rw [h]; exact ih.mono _ hq
      · obtain ⟨l, l1, l2, l3, l4⟩ := ih.lst
        refine ⟨l, l1, l2, fun x hx => ?_, l4⟩
        obtain ⟨a1, a2, a3, a4, z, a5, a6⟩ := l3 x hx
        exact ⟨a1, a2, a3, a4, z, List.mem_of_mem_take a5, a6⟩
    · rw [if_neg hq]
      have hq : qAt s y.toNat = false := by simpa using hq
      have h3 := tot_set ed s _ (by omega) hq n hyn
      have hwk' : Stn n (wk.take (wk.length - 1) ++ ed y.toNat) := fun z hz => by
        rcases List.mem_append.1 hz with h | h
        · exact p3 z h
        · exact he _ hyn z h
      have ih := sp_sem he f (wk := wk.take (wk.length - 1) ++ ed y.toNat) (s := s.set y.toNat true) (fd := fd ++ [y]) hwk' (by simp [hs]) (by rw [List.length_append]; omega)
      have hset : ∀ j, qAt (s.set y.toNat true) j = if j = y.toNat then true else qAt s j := qAt_set s y.toNat (by omega)
      have hyR : qAt (spF ed f (wk.take (wk.length - 1) ++ ed y.toNat) (s.set y.toNat true) (fd ++ [y])).2 y.toNat = true := ih.mono _ (by rw [hset, if_pos rfl])
      refine ⟨ih.len, fun k hk => ih.mono k (by rw [hset]; split <;> simp_all), fun k hkn hk => ?_, fun z hz => ?_, ?_⟩
      · rcases ih.cl k hkn hk with h | h
        · rw [hset] at h
          by_cases e : k = y.toNat
          · right
            intro z hz
            exact ih.start z (List.mem_append.2 (.inr (e ▸ hz)))
          · rw [if_neg e] at h
            exact .inl h
        · exact .inr h
      · rcases hmem z hz with h | h
        · exact ih.start z (List.mem_append.2 (.inl h))
        · rw [h]; exact hyR
      · obtain ⟨l, l1, l2, l3, l4⟩ := ih.lst
        refine ⟨y :: l, by rw [l1]; simp, ?_, fun x hx => ?_, fun k hk => ?_⟩
        · rw [List.nodup_cons]
          refine ⟨fun hm => ?_, l2⟩
          have := (l3 y hm).2.2.1
          rw [hset, if_pos rfl] at this
          cases this
        · rcases List.mem_cons.1 hx with e | hx
          · rw [e]
            exact ⟨p1, p2, hq, hyR, y, hyw, Wy.refl _ _⟩
          · obtain ⟨a1, a2, a3, a4, z, a5, a6⟩ := l3 x hx
            rw [hset] at a3
            have a3' : qAt s x.toNat = false := by
              by_cases e : x.toNat = y.toNat
              · rw [if_pos e] at a3; cases a3
              · rw [if_neg e] at a3; exact a3
            refine ⟨a1, a2, a3', a4, ?_⟩
            rcases List.mem_append.1 a5 with h | h
            · exact ⟨z, List.mem_of_mem_take h, a6⟩
            · exact ⟨y, hyw, a6.head (eR_of (he _ hyn) h)⟩
        · rcases l4 k hk with h | h
          · rw [hset] at h
            by_cases e : k = y.toNat
            · right
              rw [e, show ((y.toNat : Nat) : Int) = y by omega]
              simp
            · rw [if_neg e] at h
              exact .inl h
          · exact .inr (List.mem_cons_of_mem _ h)
def ClB (ed : Nat → List Int) (n : Nat) (s : List Bool) : Prop := ∀ k, k < n → qAt s k = true → ∀ y ∈ ed k, qAt s y.toNat = true
theorem ClB.rs {ed : Nat → List Int} {n : Nat} {s : List Bool} (he : ∀ k, k < n → Stn n (ed k)) (h : ClB ed n s) {a b : Nat} (ha : a < n) (hq : qAt s a = true) (r : Wy (eR ed) a b) : qAt s b = true :=
  (r.keep (Q := fun k => k < n ∧ qAt s k = true) (fun x y hx hy => ⟨eR_lt (he x hx.1) hy, by have := h x hx.1 hx.2 _ hy; simpa using this⟩) ⟨ha, hq⟩).2
structure Sp1 (ed : Nat → List Int) (n : Nat) (s : List Bool) (x : Nat) (R : List Int × List Bool) : Prop where
  len : R.2.length = n
  seen : ∀ k, qAt R.2 k = true ↔ qAt s k = true ∨ Wy (eR ed) x k
  cl : ClB ed n R.2
  nod : R.1.Nodup
  mem : ∀ y, y ∈ R.1 ↔ 0 ≤ y ∧ qAt s y.toNat = false ∧ Wy (eR ed) x y.toNat
theorem sp_one {ed : Nat → List Int} {n : Nat} (he : ∀ k, k < n → Stn n (ed k)) {s : List Bool} (hs : s.length = n) (hc : ClB ed n s) {x : Nat} (hx : x < n) : Sp1 ed n s x (spF ed (tot ed s n + 2) [(x : Int)] s []) := by
  have h := sp_sem he (tot ed s n + 2) (wk := [(x : Int)]) (s := s) (fd := []) (fun y hy => by rw [List.mem_singleton] at hy; omega) hs (by simp only [List.length_singleton]; omega)
  obtain ⟨l, l1, l2, l3, l4⟩ := h.lst
  rw [List.nil_append] at l1
  have hcl : ClB ed n (spF ed (tot ed s n + 2) [(x : Int)] s []).2 := fun k hk hq y hy => by
    rcases h.cl k hk hq with h5 | h5
    · exact h.mono _ (hc k hk h5 y hy)
    · exact h5 y hy
  have hxs : qAt (spF ed (tot ed s n + 2) [(x : Int)] s []).2 x = true := by
    have := h.start (x : Int) (by simp)
    simpa using this
  have hwk : ∀ z ∈ l, Wy (eR ed) x z.toNat := fun z hz => by
    obtain ⟨-, -, -, -, y, a5, a6⟩ := l3 z hz
    rw [List.mem_singleton] at a5
    rw [a5] at a6
    simpa using a6
  refine ⟨h.len, fun k => ⟨fun hk => ?_, fun hk => ?_⟩, hcl, by rw [l1]; exact l2, fun y => ?_⟩
  · rcases l4 k hk with h5 | h5
    · exact .inl h5
    · right
      have := hwk _ h5
      simpa using this
  · rcases hk with hk | hk
    · exact h.mono _ hk
    · exact hcl.rs he hx hxs hk
  · rw [l1]
    refine ⟨fun hy => ?_, fun ⟨h1, h2, h3⟩ => ?_⟩
    · have h6 := l3 y hy
      exact ⟨h6.1, h6.2.2.1, hwk y hy⟩
    · rcases l4 y.toNat (hcl.rs he hx hxs h3) with h5 | h5
      · rw [h2] at h5; cases h5
      · rw [show ((y.toNat : Nat) : Int) = y by omega] at h5
        exact h5
theorem hAt_setS (L : List Int) (k : Nat) (x : Int) (hk : k < L.length) (j : Nat) : hAt (L.set k x) j = if j = k then x else hAt L j := by
  unfold hAt
  by_cases h : j = k
  · subst h; simp [List.getD, hk]
  · have : k ≠ j := fun e => h e.symm
    simp [List.getD, List.getElem?_set, this, h]
theorem setA_at (j : Nat) : ∀ (fd L : List Int) (k : Nat), (∀ x ∈ fd, 0 ≤ x ∧ x < (L.length : Int)) → hAt (setA L fd j) k = if (k : Int) ∈ fd then (j : Int) else hAt L k
  | [], L, k, _ => by simp [setA]
  | x :: fd, L, k, h => by
    have hx := h x (by simp)
    have ih := setA_at j fd (L.set x.toNat (j : Int)) k (fun y hy => by rw [List.length_set]; exact h y (by simp [hy]))
    have e : setA L (x :: fd) j = setA (L.set x.toNat (j : Int)) fd j := rfl
    rw [e, ih, hAt_setS _ _ _ (by omega)]
    by_cases h1 : (k : Int) ∈ fd
    · rw [if_pos h1, if_pos (List.mem_cons_of_mem _ h1)]
    · rw [if_neg h1]
      by_cases h2 : k = x.toNat
      · rw [if_pos h2, if_pos (by rw [h2, show ((x.toNat : Nat) : Int) = x by omega]; simp)]
      · rw [if_neg h2, if_neg (fun hm => by
          rcases List.mem_cons.1 hm with e | e
          · omega
          · exact h1 e)]
theorem ld_sem {ed : Nat → List Int} {n : Nat} (he : ∀ k, k < n → Stn n (ed k)) (hn9 : n ≤ 1048576) (ip : Nat → Bool) : ∀ (f j : Nat) {s : List Bool} {L : List Int}, j + f = n → s.length = n → L.length = n → ClB ed n s →
    (∀ k, k < n → (qAt s k = true ↔ ∃ i, i < j ∧ ip i = true ∧ Wy (eR ed) i k)) → (∀ k, k < n → (hAt L k ≤ 1048576 ∧ (hAt L k ≠ 1048576 ↔ qAt s k = true))) →
    (ldF ed ip n f j s L).length = n ∧ ∀ k, k < n → hAt (ldF ed ip n f j s L) k ≤ 1048576 ∧ (hAt (ldF ed ip n f j s L) k ≠ 1048576 ↔ ∃ i, i < n ∧ ip i = true ∧ Wy (eR ed) i k)
  | 0, j, s, L, hj, hs, hL, hc, hS, hH => by
    refine ⟨hL, fun k hk => ⟨(hH k hk).1, (hH k hk).2.trans ((hS k hk).trans ?_)⟩⟩
    rw [show j = n by omega]
  | f + 1, j, s, L, hj, hs, hL, hc, hS, hH => by
    rw [ldF]
    by_cases hp : ip j = true
    · rw [if_pos hp]
      have h1 := sp_one he hs hc (x := j) (by omega)
      generalize hR : spF ed (tot ed s n + 2) [(j : Int)] s [] = R at h1
      refine ld_sem he hn9 ip f (j + 1) (by omega) h1.len (by rw [setA_len]; exact hL) h1.cl (fun k hk => ?_) (fun k hk => ?_)
      · rw [h1.seen, hS k hk]
        constructor
        · rintro (⟨i, a, b, c⟩ | h)
          · exact ⟨i, by omega, b, c⟩
          · exact ⟨j, by omega, hp, h⟩
        · rintro ⟨i, a, b, c⟩
          by_cases e : i = j
          · subst e; exact .inr c
          · exact .inl ⟨i, by omega, b, c⟩
      · have hb : ∀ x ∈ R.1, 0 ≤ x ∧ x < (L.length : Int) := fun x hx => by
          have h2 := (h1.mem x).1 hx
          have := h2.2.2.lt he (by omega)
          omega
        rw [setA_at j R.1 L k hb]
        have h2 := h1.mem (k : Int)
        rw [Int.toNat_natCast] at h2
        by_cases hm : (k : Int) ∈ R.1
        · rw [if_pos hm]
          refine ⟨by omega, ⟨fun _ => (h1.seen k).2 (.inr (h2.1 hm).2.2), fun _ => by omega⟩⟩
        · rw [if_neg hm]
          refine ⟨(hH k hk).1, (hH k hk).2.trans ?_⟩
          rw [h1.seen]
          constructor
          · exact .inl
          · rintro (h | h)
            · exact h
            · by_cases hq : qAt s k = true
              · exact hq
              · exact absurd (h2.2 ⟨by omega, by simpa using hq, h⟩) hm
    · rw [if_neg hp]
      refine ld_sem he hn9 ip f (j + 1) (by omega) hs hL hc (fun k hk => (hS k hk).trans ?_) hH
      constructor
      · rintro ⟨i, a, b, c⟩; exact ⟨i, by omega, b, c⟩
      · rintro ⟨i, a, b, c⟩
        by_cases e : i = j
        · subst e; exact absurd b hp
        · exact ⟨i, by omega, b, c⟩
theorem fn_snoc (ed : Nat → List Int) (f : Nat) (a : List Int) (y : Int) (s : List Bool) (o : List Int) : fnF ed (f + 1) (a ++ [y]) s o = if y < 0 then fnF ed f a s (o ++ [-y - 1]) else if qAt s y.toNat then fnF ed f a s o else fnF ed f (a ++ [-y - 1] ++ ed y.toNat) (s.set y.toNat true) o := by
  have e1 : hAt (a ++ [y]) ((a ++ [y]).length - 1) = y := by unfold hAt; simp [List.getD]
  have e2 : (a ++ [y]).take ((a ++ [y]).length - 1) = a := by simp
  rw [fnF, if_neg (by simp), e1, e2]
structure FnI (n : Nat) (wk : List Int) (s : List Bool) (o : List Int) : Prop where
  len : s.length = n
  stm : Stm n wk
  ok : ∀ x ∈ o, 0 ≤ x ∧ x < (n : Int) ∧ qAt s x.toNat = true
  gr : ∀ y ∈ wk, y < 0 → qAt s (-y - 1).toNat = true
  al : ∀ k, qAt s k = true → (k : Int) ∈ o ∨ -(k : Int) - 1 ∈ wk
theorem fn_all {ed : Nat → List Int} {n : Nat} (he : ∀ k, k < n → Stn n (ed k)) : ∀ (f : Nat) {wk : List Int} {s : List Bool} {o : List Int}, FnI n wk s o → wk.length + tot (ed1 ed) s n < f →
    FnI n [] (fnF ed f wk s o).1 (fnF ed f wk s o).2 ∧ (∀ k, qAt s k = true → qAt (fnF ed f wk s o).1 k = true) ∧ ∀ y ∈ wk, 0 ≤ y → qAt (fnF ed f wk s o).1 y.toNat = true
  | 0, wk, s, o, _, h => by omega
  | f + 1, wk, s, o, hI, hf => by
    rcases List.eq_nil_or_concat wk with e | ⟨a, y, e⟩
    · subst e
      rw [fnF, if_pos rfl]
      exact ⟨hI, fun _ h => h, fun y hy => by cases hy⟩
    · rw [List.concat_eq_append] at e
      subst e
      have hy := hI.stm y (by simp)
      have hl : (a ++ [y]).length = a.length + 1 := by simp
      have ha : Stm n a := fun z hz => hI.stm z (by simp [hz])
      rw [fn_snoc]
      by_cases h0 : y < 0
      · rw [if_pos h0]
        obtain ⟨i1, i2, i3⟩ := fn_all he f (wk := a) (s := s) (o := o ++ [-y - 1]) ⟨hI.len, ha, fun x hx => by
          rcases List.mem_append.1 hx with h | h
          · exact hI.ok x h
          · rw [List.mem_singleton] at h
            rw [h]
            exact ⟨by omega, by omega, hI.gr y (by simp) h0⟩, fun z hz => hI.gr z (by simp [hz]), fun k hk => by
          rcases hI.al k hk with h | h
          · exact .inl (by simp [h])
          · rcases List.mem_append.1 h with h | h
            · exact .inr h
            · rw [List.mem_singleton] at h
              left
              rw [← h]
              simp
              right
              omega⟩ (by omega)
        refine ⟨i1, i2, fun z hz hz0 => ?_⟩
        rcases List.mem_append.1 hz with h | h
        · exact i3 z h hz0
        · rw [List.mem_singleton] at h; omega
      rw [if_neg h0]
      by_cases hq : qAt s y.toNat = true
      · rw [if_pos hq]
        obtain ⟨i1, i2, i3⟩ := fn_all he f (wk := a) (s := s) (o := o) ⟨hI.len, ha, hI.ok, fun z hz => hI.gr z (by simp [hz]), fun k hk => by
          rcases hI.al k hk with h | h
          · exact .inl h
          · rcases List.mem_append.1 h with h | h
            · exact .inr h
            · rw [List.mem_singleton] at h; omega⟩ (by omega)
        refine ⟨i1, i2, fun z hz hz0 => ?_⟩
        rcases List.mem_append.1 hz with h | h
        · exact i3 z h hz0
        · rw [List.mem_singleton] at h; rw [h]; exact i2 _ hq
      · rw [if_neg hq]
        have hq : qAt s y.toNat = false := by simpa using hq
        have hl2 := hI.len
        have h3 := tot_set (ed1 ed) s y.toNat (by omega) hq n (by omega)
        have e1 : (ed1 ed y.toNat).length = (ed y.toNat).length + 1 := by simp [ed1]
        have hset : ∀ j, qAt (s.set y.toNat true) j = if j = y.toNat then true else qAt s j := qAt_set s y.toNat (by omega)
        have hge : ∀ j, qAt s j = true → qAt (s.set y.toNat true) j = true := fun j hj => by rw [hset]; split <;> simp_all
        obtain ⟨i1, i2, i3⟩ := fn_all he f (wk := a ++ [-y - 1] ++ ed y.toNat) (s := s.set y.toNat true) (o := o) ⟨by simp [hl2], (ha.app (fun z hz => by rw [List.mem_singleton] at hz; omega)).app (he _ (by omega)).stm, fun x hx => by
          obtain ⟨b1, b2, b3⟩ := hI.ok x hx
          exact ⟨b1, b2, hge _ b3⟩, fun z hz hz0 => by
          rcases List.mem_append.1 hz with h | h
          · rcases List.mem_append.1 h with h | h
            · exact hge _ (hI.gr z (by simp [h]) hz0)
            · rw [List.mem_singleton] at h
              rw [h, hset, if_pos (by omega)]
          · have := he _ (show y.toNat < n by omega) z h
            omega, fun k hk => by
          rw [hset] at hk
          by_cases e : k = y.toNat
          · right
            rw [e, show -((y.toNat : Nat) : Int) - 1 = -y - 1 by omega]
            simp
          · rw [if_neg e] at hk
            rcases hI.al k hk with h | h
            · exact .inl h
            · rcases List.mem_append.1 h with h | h
              · exact .inr (by simp [h])
              · rw [List.mem_singleton] at h; omega⟩ (by rw [List.length_append, List.length_append, List.length_singleton]; omega)
        refine ⟨i1, fun k hk => i2 k (hge k hk), fun z hz hz0 => ?_⟩
        rcases List.mem_append.1 hz with h | h
        · exact i3 z (by simp [h]) hz0
        · rw [List.mem_singleton] at h
          rw [h]
          exact i2 _ (by rw [hset, if_pos rfl])
theorem fnO_all {ed : Nat → List Int} {n : Nat} (he : ∀ k, k < n → Stn n (ed k)) (S : List St) : ∀ (f j : Nat) {s : List Bool} {o : List Int}, j + f = n → FnI n [] s o → (∀ k, k < j → cameP S k = true → qAt s k = true) →
    (∀ k, k < n → cameP S k = true → (k : Int) ∈ fnO ed S n f j s o) ∧ ∀ x ∈ fnO ed S n f j s o, 0 ≤ x ∧ x < (n : Int)
  | 0, j, s, o, hj, hI, hd => by
    refine ⟨fun k hk hc => ?_, fun x hx => ⟨(hI.ok x hx).1, (hI.ok x hx).2.1⟩⟩
    rcases hI.al k (hd k (by omega) hc) with h | h
    · exact h
    · cases h
  | f + 1, j, s, o, hj, hI, hd => by
    rw [fnO]
    by_cases hc : cameP S j = true
    · rw [if_pos hc]
      obtain ⟨i1, i2, i3⟩ := fn_all he (tot (ed1 ed) s n + 2) (wk := [(j : Int)]) (s := s) (o := o) ⟨hI.len, fun y hy => by rw [List.mem_singleton] at hy; omega, hI.ok, fun y hy h0 => by rw [List.mem_singleton] at hy; omega, fun k hk => by
        rcases hI.al k hk with h | h
        · exact .inl h
        · cases h⟩ (by simp only [List.length_singleton]; omega)
      refine fnO_all he S f (j + 1) (by omega) i1 (fun k hk hck => ?_)
      by_cases e : k = j
      · subst e
        have := i3 (k : Int) (by simp) (by omega)
        simpa using this
      · exact i2 k (hd k (by omega) hck)
    · rw [if_neg hc]
      exact fnO_all he S f (j + 1) (by omega) hI (fun k hk hck => hd k (by
        by_cases e : k = j
        · subst e; exact absurd hck hc
        · omega) hck)
end Go.Proofs.YtjamfbpdepahnaaGreat
