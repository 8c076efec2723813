import Derived.Test.YtjamfbpdepahnaaGreatPart42
namespace Go.Proofs.YtjamfbpdepahnaaGreat
open Go.RowKit
set_option linter.unusedVariables false
set_option linter.unusedSimpArgs false
theorem tgN_iff (op : Int) : tgP op = true ↔ op = 7 ∨ op = 9 ∨ op = 11 ∨ op = 12 ∨ op = 13 ∨ op = 14 ∨ op = 15 ∨ op = 19 ∨ op = 40 ∨ op = 47 := by unfold tgP; simp
theorem mHd_tg {enc : Bool} {s : St} {x y : In} {w : Int} (ho : y.op = x.op) (ha : y.a = x.a) (hc : y.c = x.c) (hb : tgP x.op = false → y.b = x.b) : mHd enc s y w = mHd enc s x w := by
  cases ht : tgP x.op with
  | false => rw [In.ext' ho ha (hb ht) hc]
  | true =>
    rw [tgN_iff] at ht
    unfold mHd
    cases enc
    · simp only [Bool.false_eq_true, if_false]
      unfold dHd tabP freeP
      rw [ho]
      rcases ht with e | e | e | e | e | e | e | e | e | e <;> simp [e]
    · simp only [if_true]
      unfold eHd
      rw [ho]
      rcases ht with e | e | e | e | e | e | e | e | e | e <;> simp [e, ha]
theorem mSt_tg {enc : Bool} {s : St} {x y : In} {r : Int} (ho : y.op = x.op) (ha : y.a = x.a) (hc : y.c = x.c) (hb : tgP x.op = false → y.b = x.b) : mSt enc s y r = mSt enc s x r := by
  cases ht : tgP x.op with
  | false => rw [In.ext' ho ha (hb ht) hc]
  | true =>
    rw [tgN_iff] at ht
    unfold mSt
    cases enc
    · simp only [Bool.false_eq_true, if_false]
      unfold dSt
      rw [ho]
      rcases ht with e | e | e | e | e | e | e | e | e | e <;> simp [e, ha]
    · simp only [if_true]
      unfold eSt
      rw [ho]
      rcases ht with e | e | e | e | e | e | e | e | e | e <;> simp [e, ha]
theorem mHd_jp {enc : Bool} {s : St} {x : In} {w : Int} (ho : x.op = 19) : mHd enc s x w = s := by
  unfold mHd
  cases enc
  · simp only [Bool.false_eq_true, if_false]
    unfold dHd
    rw [if_pos ho]
  · simp only [if_true]
    unfold eHd
    simp [ho]
def JwR (C : List In) (M : Nat → Prop) (a b : Nat) : Prop := M a ∧ (inA C a).op = 19 ∧ 0 ≤ (inA C a).b ∧ b = (inA C a).b.toNat
theorem ways_jp {C : List In} {k : Nat} (ho : (inA C k).op = 19) : waysP C k = [(inA C k).b] := by unfold waysP; rw [if_pos ho]
theorem tkB_jp {x : In} (ho : x.op = 19) (b : Bool) (w : Nat) : tkB x b w = true := by unfold tkB; simp [ho]
theorem JwR.be {C : List In} {E : List Int} {M : Nat → Prop} {a b : Nat} (h : JwR C M a b) : beR C E M a b := by
  obtain ⟨h1, h2, h3, h4⟩ := h
  refine ⟨h1, beX_idx.2 ⟨0, ?_, .inl (tkB_jp h2 _ _)⟩⟩
  rw [ways_jp h2, h4]
  show some _ = some _
  congr 1
  omega
theorem JwR.qt {C : List In} {E : List Int} {M : Nat → Prop} {a b : Nat} (h : JwR C M a b) (hq : Qt C E M b) : Qt C E M a := by
  obtain ⟨h1, h2, h3, h4⟩ := h
  refine Qt.intro h1 (qtS_idx.2 (.inr ⟨0, (inA C a).b, by rw [ways_jp h2]; rfl, .inr ⟨by rw [h2]; decide, .inl (tkB_jp h2 _ _)⟩, ?_⟩))
  rw [← h4]
  exact hq
theorem Jw.qt {C : List In} {E : List Int} {M : Nat → Prop} {a b : Nat} (h : Wy (JwR C M) a b) (hq : Qt C E M b) : Qt C E M a := by
  have h2 := h.flip
  exact h2.keep (Q := fun k => Qt C E M k) (fun x y hx hxy => JwR.qt hxy hx) hq
theorem Jw.be {C : List In} {E : List Int} {M : Nat → Prop} {a b : Nat} (h : Wy (JwR C M) a b) : Wy (beR C E M) a b := h.mono fun _ _ h => h.be
structure Smi (C C' : List In) (E E' : List Int) (M M' : Nat → Prop) (ph : Nat → Nat) : Prop where
  m : ∀ k, M' k → M (ph k)
  op : ∀ k, M' k → (inA C' k).op = (inA C (ph k)).op ∧ (inA C' k).a = (inA C (ph k)).a ∧ (inA C' k).c = (inA C (ph k)).c ∧ (tgP (inA C (ph k)).op = false → (inA C' k).b = (inA C (ph k)).b)
  way : ∀ (k w : Nat) (z : Int), M' k → (waysP C' k)[w]? = some z → ∃ y, (waysP C (ph k))[w]? = some y ∧ Wy (JwR C M) y.toNat (ph z.toNat)
  pos : ∀ k, M' k → ∀ y ∈ waysP C (ph k), 0 ≤ y
  cal : ∀ k, M' k → (inA C' k).op = 16 → Wy (JwR C M) (enA E (inA C' k).c).toNat (ph (enA E' (inA C' k).c).toNat)
  ent : ∀ e' ∈ E', ∃ e ∈ E, Wy (JwR C M) e.toNat (ph e'.toNat)
section
variable {C C' : List In} {E E' : List Int} {M M' : Nat → Prop} {ph : Nat → Nat}
theorem Smi.qt (h : Smi C C' E E' M M' ph) {k : Nat} (hq : Qt C' E' M' k) : Qt C E M (ph k) := by
  refine hq (fun k => Qt C E M (ph k)) (fun j hj hs => Qt.intro (h.m j hj) (qtS_idx.2 ?_))
  obtain ⟨o1, o2, o3, -⟩ := h.op j hj
  rcases qtS_idx.1 hs with h1 | ⟨w, z, hw, ho, hz⟩
  · exact .inl (by rw [← o1]; exact h1)
  · obtain ⟨y, hy, hJ⟩ := h.way j w z hj hw
    refine .inr ⟨w, y, hy, ?_, Jw.qt hJ hz⟩
    rcases ho with ho | ⟨ho1, ho2⟩
    · exact .inl (by rw [← o1]; exact ho)
    · refine .inr ⟨by rw [← o1]; exact ho1, ?_⟩
      rcases ho2 with ho2 | ⟨ho2, ho3⟩
      · exact .inl (by rw [← tkB_congr o1 o2]; exact ho2)
      · exact .inr ⟨by rw [← o1]; exact ho2, by rw [← o3]; exact Jw.qt (h.cal j hj ho2) ho3⟩
theorem Smi.be (h : Smi C C' E E' M M' ph) {a b : Nat} (hab : beR C' E' M' a b) : Wyp (beR C E M) (ph a) (ph b) := by
  obtain ⟨w, hw, ho⟩ := beX_idx.1 hab.2
  obtain ⟨o1, o2, o3, -⟩ := h.op a hab.1
  obtain ⟨y, hy, hJ⟩ := h.way a w _ hab.1 hw
  rw [Int.toNat_natCast] at hJ
  have hy0 := h.pos a hab.1 y (List.mem_of_getElem? hy)
  have ho' : oke C E (Qt C E M) (ph a) w := by
    rcases ho with ho2 | ⟨ho2, ho3⟩
    · exact .inl (by rw [← tkB_congr o1 o2]; exact ho2)
    · exact .inr ⟨by rw [← o1]; exact ho2, by rw [← o3]; exact Jw.qt (h.cal a hab.1 ho2) (h.qt ho3)⟩
  refine ⟨y.toNat, ⟨h.m a hab.1, beX_idx.2 ⟨w, ?_, ho'⟩⟩, Jw.be hJ⟩
  rw [show ((y.toNat : Nat) : Int) = y by omega]
  exact hy
theorem Smi.wy (h : Smi C C' E E' M M' ph) {a b : Nat} (hab : Wy (beR C' E' M') a b) : Wy (beR C E M) (ph a) (ph b) :=
  Wy.map ph (Q := fun _ => True) (fun _ _ _ _ => trivial) (fun a b _ hab => (h.be hab).rs) hab trivial
theorem Smi.id (h : Smi C C' E E' M M' ph) {k : Nat} (hk : idR C' E' M' k) : idR C E M (ph k) := by
  obtain ⟨o1, o2, o3, -⟩ := h.op k hk.2.1
  exact ⟨by rw [← o1]; exact hk.1, h.m k hk.2.1, by rw [← o3]; exact Jw.qt (h.cal k hk.2.1 hk.1) (h.qt hk.2.2)⟩
theorem Smi.sec (h : Smi C C' E E' M M' ph) (hS : Sec C E M) : Sec C' E' M' := by
  refine ⟨fun k hk hr => ?_, fun e' he j hj hij => ?_, fun x hx j hj hij => ?_⟩
  · obtain ⟨c, h1, h2⟩ := hr
    exact hS.ring (ph k) (h.m k hk) ((h.be h1).trans_rs (h.wy h2))
  · obtain ⟨e, he1, hJ⟩ := h.ent e' he
    exact hS.ent e he1 (ph j) ((Jw.be hJ).trans (h.wy hj)) (h.id hij)
  · have hw : (waysP C' x)[0]? = some ((x : Int) + 1) := by
      unfold waysP
      simp [hx.1]
    obtain ⟨y, hy, hJ⟩ := h.way x 0 _ hx.2.1 hw
    have hi := h.id hx
    have hy2 : y = ((ph x : Nat) : Int) + 1 := by
      unfold waysP at hy
      simp [hi.1] at hy
      exact hy.symm
    rw [hy2, show ((x : Int) + 1).toNat = x + 1 by omega, show (((ph x : Nat) : Int) + 1).toNat = ph x + 1 by omega] at hJ
    exact hS.beh (ph x) hi (ph j) ((Jw.be hJ).trans (h.wy hj)) (h.id hij)
end
def JmR (C : List In) (a b : Nat) : Prop := (inA C a).op = 19 ∧ 0 ≤ (inA C a).b ∧ b = (inA C a).b.toNat
theorem JmR.with {C : List In} {M : Nat → Prop} (hM : ∀ k, M k → ∀ y ∈ waysP C k, M y.toNat) {a b : Nat} (h : Wy (JmR C) a b) (ha : M a) : Wy (JwR C M) a b ∧ M b := by
  have : Wy (JwR C M) a b ∧ M b := Wy.keep (R := JmR C) (Q := fun k => Wy (JwR C M) a k ∧ M k) (fun x y hx hxy => ⟨hx.1.snoc ⟨hx.2, hxy.1, hxy.2.1, hxy.2.2⟩, by
    have := hM x hx.2 (inA C x).b (by rw [ways_jp hxy.1]; simp)
    rw [hxy.2.2]
    exact this⟩) h ⟨Wy.refl _ _, ha⟩
  exact this
theorem Hd.jump {enc : Bool} {C : List In} {e : Int} {a b : Nat} {s : St} (h : Wy (JmR C) a b) (hd : Hd enc C e a s) : Hd enc C e b s :=
  h.keep (Q := fun k => Hd enc C e k s) (fun x y hx hxy => by
    have := hx.step (w := 0) (y := (inA C x).b) (by rw [ways_jp hxy.1]; rfl)
    rw [mHd_jp hxy.1, ← hxy.2.2] at this
    exact this) hd
structure Sm1 (C C' : List In) (E E' : List Int) (ph : Nat → Nat) : Prop where
  op : ∀ k, k < C'.length → (inA C' k).op = (inA C (ph k)).op ∧ (inA C' k).a = (inA C (ph k)).a ∧ (inA C' k).c = (inA C (ph k)).c ∧ (tgP (inA C (ph k)).op = false → (inA C' k).b = (inA C (ph k)).b)
  len : ∀ k, k < C'.length → (waysP C' k).length = (waysP C (ph k)).length
  way : ∀ (k w : Nat) (y z : Int), k < C'.length → Inn C (ph k) → (waysP C (ph k))[w]? = some y → (waysP C' k)[w]? = some z → 0 ≤ z ∧ z < (C'.length : Int) ∧ Wy (JmR C) y.toNat (ph z.toNat)
  el : E'.length ≤ E.length
  ent : ∀ r, r < E'.length → 0 ≤ E'.getD r 0 ∧ E'.getD r 0 < (C'.length : Int) ∧ Wy (JmR C) (E.getD r 0).toNat (ph (E'.getD r 0).toNat)
section
variable {enc : Bool} {C C' : List In} {E E' : List Int} {ph : Nat → Nat}
theorem Sm1.hd (h : Sm1 C C' E E' ph) {r : Nat} (hr : r < E'.length) (hin : ∀ k s, Hd enc C (E.getD r 0) k s → Inn C k) {k : Nat} {s : St} (hd : Hd enc C' (E'.getD r 0) k s) : k < C'.length ∧ Hd enc C (E.getD r 0) (ph k) s := by
  obtain ⟨e1, e2, e3⟩ := h.ent r hr
  refine Wy.keep (Q := fun p : Nat × St => p.1 < C'.length ∧ Hd enc C (E.getD r 0) (ph p.1) p.2) (fun p q hp hpq => ?_) hd ⟨by show (E'.getD r 0).toNat < C'.length; omega, Hd.jump e3 (Wy.refl _ _)⟩
  obtain ⟨w, z, hz, eq⟩ := hpq
  rw [eq]
  have hI := hin _ _ hp.2
  have hl := h.len p.1 hp.1
  have hwl := (List.getElem?_eq_some_iff.1 hz).1
  have hy : (waysP C (ph p.1))[w]? = some ((waysP C (ph p.1))[w]'(by omega)) := List.getElem?_eq_getElem (by omega)
  obtain ⟨z1, z2, z3⟩ := h.way p.1 w _ z hp.1 hI hy hz
  obtain ⟨o1, o2, o3, o4⟩ := h.op p.1 hp.1
  refine ⟨by show z.toNat < C'.length; omega, ?_⟩
  rw [mHd_tg o1 o2 o3 o4]
  exact Hd.jump z3 (hp.2.step hy)
theorem Sm1.all (h : Sm1 C C' E E' ph) (hE : ∀ i, i < E.length → 0 ≤ E.getD i 0 ∧ E.getD i 0 < (C.length : Int)) (hcal : ∀ k, k < C'.length → (inA C' k).op = 16 → 0 ≤ (inA C' k).c ∧ (inA C' k).c < (E'.length : Int)) (hF : FsOk enc C E) (hS : Sec C E (Hs enc C E)) : FsOk enc C' E' ∧ Sec C' E' (Hs enc C' E') ∧ ∀ k, Hs enc C' E' k → k < C'.length ∧ Hs enc C E (ph k) := by
  have hel := h.el
  have hhd : ∀ r, r < E'.length → ∀ k s, Hd enc C' (E'.getD r 0) k s → k < C'.length ∧ Hd enc C (E.getD r 0) (ph k) s := fun r hr k s hd => h.hd hr (fun k s hk => (hF.st r k s (by omega) hk).2) hd
  have hF' : FsOk enc C' E' := by
    refine ⟨fun r k s hr hd => ?_, fun q r k s t hq hr hs ht => ?_⟩
    · obtain ⟨h1, h2⟩ := hhd r hr k s hd
      obtain ⟨h3, h4⟩ := hF.st r _ _ (by omega) h2
      obtain ⟨o1, o2, o3, o4⟩ := h.op k h1
      refine ⟨by rw [mSt_tg o1 o2 o3 o4]; exact h3, fun z hz => ?_⟩
      obtain ⟨w, hw⟩ := mem_idx.1 hz
      have hl := h.len k h1
      have hwl := (List.getElem?_eq_some_iff.1 hw).1
      obtain ⟨z1, z2, -⟩ := h.way k w _ z h1 h4 (List.getElem?_eq_getElem (by omega)) hw
      exact ⟨z1, z2⟩
    · obtain ⟨h1, h2⟩ := hhd q hq k s hs
      obtain ⟨-, h3⟩ := hhd r hr k t ht
      have h4 := sameH_iff.1 (hF.sm q r _ _ _ (by omega) (by omega) h2 h3)
      obtain ⟨o1, o2, o3, o4⟩ := h.op k h1
      refine sameH_iff.2 (fun w hw => ?_)
      rw [mHd_tg o1 o2 o3 o4, mHd_tg o1 o2 o3 o4]
      exact h4 w (by rw [← h.len k h1]; exact hw)
  have hM : ∀ k, Hs enc C' E' k → k < C'.length ∧ Hs enc C E (ph k) := fun k ⟨r, s, hr, hd⟩ => by
    obtain ⟨h1, h2⟩ := hhd r hr k s hd
    exact ⟨h1, r, s, by omega, h2⟩
  have hMc : ∀ k, Hs enc C E k → ∀ y ∈ waysP C k, Hs enc C E y.toNat := fun k hk => fs_ways hk
  have hME : ∀ r, r < E.length → Hs enc C E (E.getD r 0).toNat := fun r hr => ⟨r, mBg enc, hr, Wy.refl _ _⟩
  have hsim : Smi C C' E E' (Hs enc C E) (Hs enc C' E') ph := by
    refine ⟨fun k hk => (hM k hk).2, fun k hk => h.op k (hM k hk).1, fun k w z hk hz => ?_, fun k hk y hy => ?_, fun k hk h16 => ?_, fun e' he => ?_⟩
    · obtain ⟨h1, h2⟩ := hM k hk
      have hI := fs_inn hF h2
      have hl := h.len k h1
      have hwl := (List.getElem?_eq_some_iff.1 hz).1
      have hy : (waysP C (ph k))[w]? = some ((waysP C (ph k))[w]'(by omega)) := List.getElem?_eq_getElem (by omega)
      obtain ⟨-, -, z3⟩ := h.way k w _ z h1 hI hy hz
      exact ⟨_, hy, (JmR.with hMc z3 (hMc _ h2 _ (List.mem_of_getElem? hy))).1⟩
    · exact (fs_inn hF (hM k hk).2 y hy).1
    · obtain ⟨c1, c2⟩ := hcal k (hM k hk).1 h16
      have h5 := h.ent (inA C' k).c.toNat (by omega)
      exact (JmR.with hMc h5.2.2 (hME _ (by omega))).1
    · obtain ⟨r, hr, e1⟩ := List.mem_iff_getElem.1 he
      have h5 := h.ent r hr
      rw [show E'.getD r 0 = e' by simp [List.getD, hr, e1]] at h5
      refine ⟨E.getD r 0, ?_, (JmR.with hMc h5.2.2 (hME r (by omega))).1⟩
      rw [show E.getD r 0 = E[r] by simp [List.getD, show r < E.length by omega]]
      exact List.getElem_mem _
  exact ⟨hF', hsim.sec hS, hM⟩
end
theorem alw_tg {nc ne v : Int} : alw nc ne 15 v = true ↔ 0 ≤ v ∧ v < nc := by
  unfold alw bnd
  simp
  omega
theorem kin_tg {op : Int} (h : tgP op = true) : (kin op).2.1 = 15 := by
  rw [tgN_iff] at h
  rcases h with e | e | e | e | e | e | e | e | e | e <;> (rw [e]; rfl)
theorem arms_cg {R R' : List In} {m : Int} (hl : R'.length = R.length) (h : ∀ j : Nat, (R'[j]?).map (fun x => (x.op, x.a)) = (R[j]?).map (fun x => (x.op, x.a))) : arms R' m = arms R m := by
  unfold arms
  rw [hl]
  congr 1
  have : armOk R' = armOk R := by
    funext i
    unfold armOk
    have h1 := h i
    have hany : ∀ a : Int, (R'.take i).any (fun y => y.a == a) = (R.take i).any (fun y => y.a == a) := fun a => by
      have e1 : ∀ L : List In, (L.take i).any (fun y => y.a == a) = ((L.map (fun x => (x.op, x.a))).take i).any (fun y => y.2 == a) := fun L => by
        rw [← List.map_take, List.any_map]
        rfl
      have e2 : R'.map (fun x => (x.op, x.a)) = R.map (fun x => (x.op, x.a)) := List.ext_getElem? fun j => by
        rw [List.getElem?_map, List.getElem?_map]
        exact h j
      rw [e1, e1, e2]
    cases hx : R[i]? with
    | none =>
      rw [hx] at h1
      cases hy : R'[i]? with
      | none => rfl
      | some y => rw [hy] at h1; simp at h1
    | some x =>
      rw [hx] at h1
      cases hy : R'[i]? with
      | none => rw [hy] at h1; simp at h1
      | some y =>
        rw [hy] at h1
        simp at h1
        simp only [h1.1, h1.2, hany]
  rw [this]
theorem chk_same {enc : Bool} {C C' : List In} {E E' : List Int} (hK : Chk enc C E) (hl : C'.length = C.length) (hop : ∀ k, k < C.length → (inA C' k).op = (inA C k).op ∧ (inA C' k).a = (inA C k).a ∧ (inA C' k).c = (inA C k).c ∧ (tgP (inA C k).op = false → (inA C' k).b = (inA C k).b) ∧ (tgP (inA C k).op = true → 0 ≤ (inA C' k).b ∧ (inA C' k).b < (C.length : Int))) (hel : E'.length = E.length) (hE : ∀ i, i < E.length → 0 ≤ E'.getD i 0 ∧ E'.getD i 0 < (C.length : Int)) : Chk enc C' E' := by
  refine ⟨by have := hK.nc; omega, by have := hK.ne; omega, fun k hk => ?_, fun i hi => by rw [hl]; exact hE i (by omega)⟩
  rw [hl] at hk
  obtain ⟨o1, o2, o3, o4, o5⟩ := hop k hk
  obtain ⟨g1, g2⟩ := frm_inA hk (hK.code k hk)
  rw [hel]
  have hx : C'[k]? = some (inA C' k) := by
    have h1 : C'[k]? = some (C'[k]'(by omega)) := List.getElem?_eq_getElem (by omega)
    rw [inA_at h1]
    exact h1
  unfold frm
  rw [hx, hl]
  simp only [Bool.and_eq_true]
  refine ⟨?_, ?_⟩
  · cases ht : tgP (inA C k).op with
    | false =>
      rw [In.ext' o1 o2 (o4 ht) o3]
      exact g1
    | true =>
      unfold frmX at g1 ⊢
      simp only [Bool.and_eq_true] at g1 ⊢
      rw [o1, o2, o3]
      refine ⟨g1.1, g1.2.1, ?_, g1.2.2.2⟩
      rw [kin_tg ht, alw_tg]
      exact o5 ht
  · by_cases ho : (inA C k).op = 8 ∨ (inA C k).op = 41
    · have g3 : ∀ R, agr (inA C k) R = arms R (inA C k).a := fun R => by
        unfold agr
        rw [if_neg (by omega), if_neg (by omega), if_neg (by omega), if_pos ho]
      have g4 : ∀ R, agr (inA C' k) R = arms R (inA C k).a := fun R => by
        unfold agr
        rw [o1, o2, if_neg (by omega), if_neg (by omega), if_neg (by omega), if_pos ho]
      rw [g3] at g2
      rw [g4, arms_cg (R := C.drop (k + 1)) (by rw [List.length_drop, List.length_drop, hl]) (fun j => ?_)]
      · exact g2
      · rw [List.getElem?_drop, List.getElem?_drop]
        by_cases hj : k + 1 + j < C.length
        · have h1 : C'[k + 1 + j]? = some (C'[k + 1 + j]'(by omega)) := List.getElem?_eq_getElem (by omega)
          have h2 : C[k + 1 + j]? = some (C[k + 1 + j]'hj) := List.getElem?_eq_getElem hj
          have h3 := hop (k + 1 + j) hj
          rw [inA_at h1, inA_at h2] at h3
          rw [h1, h2]
          simp only [Option.map_some, h3.1, h3.2.1]
        · rw [List.getElem?_eq_none (by omega), List.getElem?_eq_none (by omega)]
    · cases ht : tgP (inA C k).op with
      | false =>
        rw [In.ext' o1 o2 (o4 ht) o3]
        have g5 : ∀ R R', agr (inA C k) R = agr (inA C k) R' := fun R R' => by
          unfold agr
          rw [if_neg ho, if_neg ho]
        rw [g5 _ (C.drop (k + 1))]
        exact g2
      | true =>
        unfold agr
        rw [o1]
        rw [tgN_iff] at ht
        rw [if_neg (by omega), if_neg (by omega), if_neg (by omega), if_neg ho]
end Go.Proofs.YtjamfbpdepahnaaGreat
