import Derived.Test.YtiojpohmgjdgfaaPart27
namespace Go.Proofs.Ytiojpohmgjdgfaa
open Go.RowKit
set_option linter.unusedVariables false
set_option linter.unusedSimpArgs false
def tkB (x : In) (b : Bool) (w : Nat) : Bool :=
  if x.op = 1 ∨ x.op = 2 ∨ x.op = 3 ∨ x.op = 4 ∨ x.op = 7 ∨ x.op = 8 ∨ x.op = 10 then false else
  if (33 ≤ x.op ∧ x.op ≤ 41) ∨ (44 ≤ x.op ∧ x.op ≤ 46) then false else
  if x.op = 11 then w == 1 else
  if x.op = 17 ∧ x.a = -1 then false else
  if x.op = 16 ∧ b = false then false else true
theorem mem_idx {l : List Int} {y : Int} : y ∈ l ↔ ∃ w : Nat, l[w]? = some y := List.mem_iff_getElem?
theorem bareI_idx {C : List In} {b : Bool} {i : Nat} {y : Int} : y ∈ bareI C b i ↔ ∃ w : Nat, (waysP C i)[w]? = some y ∧ tkB (inA C i) b w = true := by
  unfold bareI tkB
  split
  · exact ⟨fun h => (by cases h), fun ⟨w, _, h⟩ => (by cases h)⟩
  split
  · exact ⟨fun h => (by cases h), fun ⟨w, _, h⟩ => (by cases h)⟩
  split
  · rename_i h11
    have hw : waysP C i = [(i : Int) + 1, (inA C i).b] := by unfold waysP; simp [h11]
    rw [hw]
    constructor
    · intro h
      rw [List.mem_singleton] at h
      exact ⟨1, by rw [h]; rfl, rfl⟩
    · rintro ⟨w, h1, h2⟩
      have : w = 1 := by simpa using h2
      subst this
      simp at h1
      rw [h1]; simp
  split
  · exact ⟨fun h => (by cases h), fun ⟨w, _, h⟩ => (by cases h)⟩
  split
  · exact ⟨fun h => (by cases h), fun ⟨w, _, h⟩ => (by cases h)⟩
  · rw [mem_idx]
    exact ⟨fun ⟨w, h⟩ => ⟨w, h, rfl⟩, fun ⟨w, h, _⟩ => ⟨w, h⟩⟩
def oke (C : List In) (E : List Int) (X : Nat → Prop) (i w : Nat) : Prop := tkB (inA C i) false w = true ∨ ((inA C i).op = 16 ∧ X (enA E (inA C i).c).toNat)
theorem beX_idx {C : List In} {E : List Int} {X : Nat → Prop} {i : Nat} {y : Int} : beX C E X i y ↔ ∃ w : Nat, (waysP C i)[w]? = some y ∧ oke C E X i w := by
  unfold beX oke
  rw [bareI_idx, mem_idx]
  constructor
  · rintro (⟨w, h1, h2⟩ | ⟨h1, h2, w, h3⟩)
    · exact ⟨w, h1, .inl h2⟩
    · exact ⟨w, h3, .inr ⟨h1, h2⟩⟩
  · rintro ⟨w, h1, h2 | ⟨h2, h3⟩⟩
    · exact .inl ⟨w, h1, h2⟩
    · exact .inr ⟨h2, h3, w, h1⟩
theorem qtS_idx {C : List In} {E : List Int} {X : Nat → Prop} {i : Nat} : qtStep C E X i ↔ (inA C i).op = 20 ∨ ∃ (w : Nat) (y : Int), (waysP C i)[w]? = some y ∧ ((inA C i).op = 17 ∨ ((inA C i).op ≠ 17 ∧ oke C E X i w)) ∧ X y.toNat := by
  unfold qtStep
  constructor
  · rintro (h | ⟨y, h1 | h1, h2⟩)
    · exact .inl h
    · obtain ⟨w, hw⟩ := mem_idx.1 h1.2
      exact .inr ⟨w, y, hw, .inl h1.1, h2⟩
    · obtain ⟨w, hw, ho⟩ := beX_idx.1 h1.2
      exact .inr ⟨w, y, hw, .inr ⟨h1.1, ho⟩, h2⟩
  · rintro (h | ⟨w, y, hw, h1 | h1, h2⟩)
    · exact .inl h
    · exact .inr ⟨y, .inl ⟨h1, mem_idx.2 ⟨w, hw⟩⟩, h2⟩
    · exact .inr ⟨y, .inr ⟨h1.1, beX_idx.2 ⟨w, hw, h1.2⟩⟩, h2⟩
theorem tkB_congr {x y : In} (h : x.op = y.op) (ha : x.a = y.a) (b : Bool) (w : Nat) : tkB x b w = tkB y b w := by unfold tkB; rw [h, ha]
theorem hs_lt {enc : Bool} {C : List In} {E : List Int} (hF : FsOk enc C E) (hE : ∀ i, i < E.length → 0 ≤ E.getD i 0 ∧ E.getD i 0 < (C.length : Int)) {i : Nat} (h : Hs enc C E i) : i < C.length := by
  obtain ⟨r, s, hr, hd⟩ := h
  have : i < C.length ∧ Hd enc C (E.getD r 0) i s := Wy.keep (Q := fun p : Nat × St => p.1 < C.length ∧ Hd enc C (E.getD r 0) p.1 p.2) (fun p q hp hpq => by
    obtain ⟨w, y, hw, e⟩ := hpq
    have h1 := (hF.st r _ _ hr hp.2).2 y (List.mem_of_getElem? hw)
    rw [e]
    exact ⟨by show y.toNat < C.length; omega, hp.2.step hw⟩) hd ⟨by have := hE r hr; show (E.getD r 0).toNat < C.length; omega, Wy.refl _ _⟩
  exact this.1
theorem fs_inn {enc : Bool} {C : List In} {E : List Int} (hF : FsOk enc C E) {i : Nat} (hs : Hs enc C E i) : Inn C i := by
  obtain ⟨r, s, hr, hd⟩ := hs
  exact (hF.st r i s hr hd).2
def phI (k j : Nat) : Nat := if j = k + 1 then k + 1 else if k < j then j - 1 else j
theorem ph_nw (k i : Nat) : phI k (nwI k i) = i := by
  unfold phI nwI
  by_cases h : k < i
  · rw [if_pos h, if_neg (by omega), if_pos (by omega)]; omega
  · rw [if_neg h, if_neg (by omega), if_neg h]
theorem ph_j (k : Nat) : phI k (k + 1) = k + 1 := by unfold phI; rw [if_pos rfl]
theorem ph_next (k x : Nat) : phI k (nwI k x + 1) = x + 1 := by
  unfold phI nwI
  by_cases h : k < x
  · rw [if_pos h, if_neg (by omega), if_pos (by omega)]; omega
  · rw [if_neg h]
    by_cases e : x = k
    · rw [if_pos (by omega)]; omega
    · rw [if_neg (by omega), if_neg (by omega)]
theorem ph_mv {k : Nat} {y : Int} (h : 0 ≤ y) : phI k (mvI k y).toNat = y.toNat := by
  rw [mv_nw h, Int.toNat_natCast, ph_nw]
structure Jmp (enc : Bool) (k : Nat) (C : List In) (E : List Int) : Prop where
  ap : Apt k C
  hE : ∀ i, i < E.length → 0 ≤ E.getD i 0 ∧ E.getD i 0 < (C.length : Int)
  cal : ∀ i, i < C.length → (inA C i).op = 16 → 0 ≤ (inA C i).c ∧ (inA C i).c < (E.length : Int)
  f0 : FsOk enc C E
  f1 : FsOk enc (jmC k C) (jmE k E)
section
variable {enc : Bool} {k : Nat} {C : List In} {E : List Int}
theorem Jmp.hk (h : Jmp enc k C E) : k < C.length := by have := h.ap.lt; omega
theorem Jmp.f (h : Jmp enc k C E) {i : Nat} (hi : Hs enc C E i) : Hs enc (jmC k C) (jmE k E) (nwI k i) := by
  obtain ⟨r, s, hr, hd⟩ := hi
  have hl : (jmE k E).length = E.length := by simp [jmE]
  refine ⟨r, s, by omega, ?_⟩
  rw [jme_get hr]
  refine (hd_fwd h.ap (h.hE r hr) (fun j t hj => ?_) hd).2
  rw [← jme_get hr] at hj
  exact (h.f1.st r j t (by omega) hj).2
theorem Jmp.b (h : Jmp enc k C E) {j : Nat} (hj : Hs enc (jmC k C) (jmE k E) j) : (∃ i, i < C.length ∧ j = nwI k i ∧ Hs enc C E i) ∨ (j = k + 1 ∧ nxT (inA C k).op = true ∧ Hs enc C E k) := by
  obtain ⟨r, s, hr, hd⟩ := hj
  have hl : (jmE k E).length = E.length := by simp [jmE]
  rw [jme_get (by omega)] at hd
  rcases hd_back h.ap (h.hE r (by omega)) (fun i t hi => (h.f0.st r i t (by omega) hi).2) hd with ⟨i, hi, e, hd⟩ | ⟨e, hn, s0, hd, -⟩
  · exact .inl ⟨i, hi, e, r, s, by omega, hd⟩
  · exact .inr ⟨e, hn, r, s0, by omega, hd⟩
theorem Jmp.nw (h : Jmp enc k C E) {i : Nat} (hj : Hs enc (jmC k C) (jmE k E) (nwI k i)) : i < C.length ∧ Hs enc C E i := by
  rcases h.b hj with ⟨i2, hi, e, hs⟩ | ⟨e, -⟩
  · have e := nw_inj e
    subst e
    exact ⟨hi, hs⟩
  · exact absurd e nw_not
theorem Jmp.j (h : Jmp enc k C E) (hs : Hs enc C E k) (hn : nxT (inA C k).op = true) : Hs enc (jmC k C) (jmE k E) (k + 1) := by
  have hw : (waysP C k)[0]? = some ((k : Int) + 1) := by
    unfold nxT at hn
    have hn := of_decide_eq_true hn
    unfold waysP
    rw [if_neg hn.1, if_neg hn.2.1, if_neg (by have := hn.2.2; omega)]
    split <;> rfl
  obtain ⟨z, hz, hc⟩ := cor_f h.ap h.hk hw
  rcases hc with ⟨-, e⟩ | ⟨-, -, -, -, e⟩
  · exact absurd ⟨rfl, rfl, hn⟩ e
  · have := fs_ways (h.f hs) z (List.mem_of_getElem? hz)
    rw [e, show ((k : Int) + 1).toNat = k + 1 by omega] at this
    exact this
theorem Jmp.enA (h : Jmp enc k C E) {i : Nat} (hi : i < C.length) (h16 : (inA C i).op = 16) : (Go.Proofs.Ytiojpohmgjdgfaa.enA (jmE k E) (inA C i).c).toNat = nwI k (Go.Proofs.Ytiojpohmgjdgfaa.enA E (inA C i).c).toNat ∧ 0 ≤ Go.Proofs.Ytiojpohmgjdgfaa.enA E (inA C i).c := by
  obtain ⟨h1, h2⟩ := h.cal i hi h16
  have h3 := h.hE (inA C i).c.toNat (by omega)
  have h4 : 0 ≤ Go.Proofs.Ytiojpohmgjdgfaa.enA E (inA C i).c := h3.1
  rw [jm_e h1 h2, mv_nw h4]
  exact ⟨by omega, h4⟩
theorem Jmp.opk (h : Jmp enc k C E) {i : Nat} (hi : i < C.length) : (inA (jmC k C) (nwI k i)).op = (inA C i).op ∧ (inA (jmC k C) (nwI k i)).a = (inA C i).a ∧ (inA (jmC k C) (nwI k i)).c = (inA C i).c := by
  rw [jm_at h.hk hi]
  exact jmI_op k _
theorem Jmp.oke_f (h : Jmp enc k C E) {i w : Nat} (hi : i < C.length) {X Y : Nat → Prop} (hXY : ∀ a, X a → Y (nwI k a)) (ho : oke C E X i w) : oke (jmC k C) (jmE k E) Y (nwI k i) w := by
  obtain ⟨o1, o2, o3⟩ := h.opk hi
  rcases ho with ho | ⟨h1, h2⟩
  · exact .inl (by rw [tkB_congr o1 o2]; exact ho)
  · exact .inr ⟨by rw [o1]; exact h1, by rw [o3, (h.enA hi h1).1]; exact hXY _ h2⟩
theorem Jmp.oke_b (h : Jmp enc k C E) {i w : Nat} (hi : i < C.length) {X Y : Nat → Prop} (hXY : ∀ a, Y (nwI k a) → X a) (ho : oke (jmC k C) (jmE k E) Y (nwI k i) w) : oke C E X i w := by
  obtain ⟨o1, o2, o3⟩ := h.opk hi
  rcases ho with ho | ⟨h1, h2⟩
  · exact .inl (by rw [← tkB_congr o1 o2]; exact ho)
  · rw [o1] at h1
    rw [o3, (h.enA hi h1).1] at h2
    exact .inr ⟨h1, hXY _ h2⟩
theorem Jmp.tkj (h : Jmp enc k C E) (X : Nat → Prop) : oke (jmC k C) (jmE k E) X (k + 1) 0 := by
  left
  rw [jm_j h.hk]
  rfl
theorem Jmp.way0 (h : Jmp enc k C E) : (waysP (jmC k C) (k + 1))[0]? = some ((nwI k (k + 1) : Nat) : Int) := by
  rw [ways_j h.hk]
  unfold nwI
  rw [if_pos (by omega)]
  show some ((k : Int) + 2) = some _
  congr 1
theorem Jmp.qf (h : Jmp enc k C E) {i : Nat} (hq : Qt C E (Hs enc C E) i) : Qt (jmC k C) (jmE k E) (Hs enc (jmC k C) (jmE k E)) (nwI k i) := by
  refine hq (fun i => Qt (jmC k C) (jmE k E) (Hs enc (jmC k C) (jmE k E)) (nwI k i)) (fun j hj hs => ?_)
  have hjl := hs_lt h.f0 h.hE hj
  obtain ⟨o1, o2, o3⟩ := h.opk hjl
  refine Qt.intro (h.f hj) (qtS_idx.2 ?_)
  rw [o1]
  rcases qtS_idx.1 hs with h1 | ⟨w, y, hw, ho, hy⟩
  · exact .inl h1
  · have hin := fs_inn h.f0 hj y (List.mem_of_getElem? hw)
    obtain ⟨z, hz, hc⟩ := cor_f h.ap hjl hw
    refine .inr ⟨w, z, hz, ?_, ?_⟩
    · rcases ho with ho | ⟨ho1, ho2⟩
      · exact .inl ho
      · exact .inr ⟨ho1, h.oke_f hjl (fun a ha => ha) ho2⟩
    · rcases hc with ⟨e, -⟩ | ⟨e1, e2, e3, e4, e5⟩
      · rw [e, mv_nw hin.1, Int.toNat_natCast]
        exact hy
      · rw [e5, show ((k : Int) + 1).toNat = k + 1 by omega]
        rw [e4, show ((k : Int) + 1).toNat = k + 1 by omega] at hy
        refine Qt.intro (h.j (e1 ▸ hj) e3) (qtS_idx.2 (.inr ⟨0, _, h.way0, .inr ⟨?_, h.tkj _⟩, ?_⟩))
        · rw [jm_j h.hk]; show (19 : Int) ≠ 17; decide
        · rw [Int.toNat_natCast]
          exact hy
theorem Jmp.qb (h : Jmp enc k C E) {j : Nat} (hq : Qt (jmC k C) (jmE k E) (Hs enc (jmC k C) (jmE k E)) j) : (∀ i, j = nwI k i → Qt C E (Hs enc C E) i) ∧ (j = k + 1 → Qt C E (Hs enc C E) (k + 1)) := by
  refine hq (fun j => (∀ i, j = nwI k i → Qt C E (Hs enc C E) i) ∧ (j = k + 1 → Qt C E (Hs enc C E) (k + 1))) (fun j hj hs => ⟨fun i e => ?_, fun e => ?_⟩)
  · subst e
    obtain ⟨hil, hi⟩ := h.nw hj
    obtain ⟨o1, o2, o3⟩ := h.opk hil
    refine Qt.intro hi (qtS_idx.2 ?_)
    rcases qtS_idx.1 hs with h1 | ⟨w, z, hw, ho, hz⟩
    · exact .inl (by rw [← o1]; exact h1)
    · obtain ⟨y, hy, hc⟩ := cor_b h.ap hil hw
      have hin := fs_inn h.f0 hi y (List.mem_of_getElem? hy)
      refine .inr ⟨w, y, hy, ?_, ?_⟩
      · rcases ho with ho | ⟨ho1, ho2⟩
        · exact .inl (by rw [← o1]; exact ho)
        · exact .inr ⟨by rw [← o1]; exact ho1, h.oke_b hil (fun a ha => ha.1 a rfl) ho2⟩
      · rcases hc with ⟨e, -⟩ | ⟨e1, e2, e3, e4, e5⟩
        · exact hz.1 _ (by rw [e, mv_nw hin.1]; omega)
        · rw [e4, show ((k : Int) + 1).toNat = k + 1 by omega]
          exact hz.2 (by omega)
  · subst e
    rcases qtS_idx.1 hs with h1 | ⟨w, z, hw, ho, hz⟩
    · rw [jm_j h.hk] at h1
      exact absurd h1 (show ¬ (19 : Int) = 20 by decide)
    · rw [ways_j h.hk] at hw
      cases w with
      | zero =>
        simp at hw
        refine hz.1 (k + 1) ?_
        unfold nwI
        rw [if_pos (by omega)]
        omega
      | succ w => simp at hw
theorem Jmp.ef (h : Jmp enc k C E) {a b : Nat} (hab : beR C E (Hs enc C E) a b) : Wyp (beR (jmC k C) (jmE k E) (Hs enc (jmC k C) (jmE k E))) (nwI k a) (nwI k b) := by
  have hal := hs_lt h.f0 h.hE hab.1
  obtain ⟨w, hw, ho⟩ := beX_idx.1 hab.2
  obtain ⟨z, hz, hc⟩ := cor_f h.ap hal hw
  have ho2 := h.oke_f hal (fun c hc => h.qf hc) ho
  rcases hc with ⟨e, -⟩ | ⟨e1, e2, e3, e4, e5⟩
  · rw [mv_nw (by omega), Int.toNat_natCast] at e
    rw [e] at hz
    exact ⟨_, ⟨h.f hab.1, beX_idx.2 ⟨w, hz, ho2⟩⟩, Wy.refl _ _⟩
  · have hb : b = k + 1 := by omega
    subst hb
    rw [e5] at hz
    refine ⟨k + 1, ⟨h.f hab.1, beX_idx.2 ⟨w, hz, ho2⟩⟩, Wy.one ⟨h.j (e1 ▸ hab.1) e3, beX_idx.2 ⟨0, h.way0, h.tkj _⟩⟩⟩
theorem Jmp.eb (h : Jmp enc k C E) {p q : Nat} (hpq : beR (jmC k C) (jmE k E) (Hs enc (jmC k C) (jmE k E)) p q) : (p = k + 1 ∧ q = nwI k (k + 1)) ∨ (p ≠ k + 1 ∧ beR C E (Hs enc C E) (phI k p) (phI k q)) := by
  by_cases e : p = k + 1
  · left
    subst e
    obtain ⟨w, hw, -⟩ := beX_idx.1 hpq.2
    rw [ways_j h.hk] at hw
    cases w with
    | zero =>
      simp at hw
      refine ⟨rfl, ?_⟩
      unfold nwI
      rw [if_pos (by omega)]
      omega
    | succ w => simp at hw
  · right
    refine ⟨e, ?_⟩
    obtain ⟨a, ha⟩ := nw_of e
    subst ha
    obtain ⟨hal, hM⟩ := h.nw hpq.1
    obtain ⟨w, hw, ho⟩ := beX_idx.1 hpq.2
    obtain ⟨y, hy, hc⟩ := cor_b h.ap hal hw
    have hin := fs_inn h.f0 hM y (List.mem_of_getElem? hy)
    have ho2 := h.oke_b hal (fun c hc => (h.qb hc).1 c rfl) ho
    rw [ph_nw]
    refine ⟨hM, beX_idx.2 ⟨w, ?_, ho2⟩⟩
    have hph : ((phI k q : Nat) : Int) = y := by
      rcases hc with ⟨e, -⟩ | ⟨e1, e2, e3, e4, e5⟩
      · have := ph_mv (k := k) hin.1
        rw [← e, Int.toNat_natCast] at this
        omega
      · rw [show q = k + 1 by omega, ph_j]
        omega
    rw [hph]
    exact hy
theorem Jmp.wb (h : Jmp enc k C E) {p q : Nat} (hpq : Wy (beR (jmC k C) (jmE k E) (Hs enc (jmC k C) (jmE k E))) p q) : Wy (beR C E (Hs enc C E)) (phI k p) (phI k q) := by
  refine Wy.map (phI k) (Q := fun _ => True) (fun _ _ _ _ => trivial) (fun a b _ hab => ?_) hpq trivial
  rcases h.eb hab with ⟨e1, e2⟩ | ⟨-, e⟩
  · rw [e1, e2, ph_j, ph_nw]
    exact Wy.refl _ _
  · exact Wy.one e
theorem Jmp.wf (h : Jmp enc k C E) {a b : Nat} (hab : Wy (beR C E (Hs enc C E)) a b) : Wy (beR (jmC k C) (jmE k E) (Hs enc (jmC k C) (jmE k E))) (nwI k a) (nwI k b) :=
  Wy.map (nwI k) (Q := fun _ => True) (fun _ _ _ _ => trivial) (fun a b _ hab => (h.ef hab).rs) hab trivial
theorem Jmp.idf (h : Jmp enc k C E) {x : Nat} (hx : idR C E (Hs enc C E) x) : idR (jmC k C) (jmE k E) (Hs enc (jmC k C) (jmE k E)) (nwI k x) := by
  have hl := hs_lt h.f0 h.hE hx.2.1
  obtain ⟨o1, o2, o3⟩ := h.opk hl
  exact ⟨by rw [o1]; exact hx.1, h.f hx.2.1, by rw [o3, (h.enA hl hx.1).1]; exact h.qf hx.2.2⟩
theorem Jmp.idb (h : Jmp enc k C E) {j : Nat} (hj : idR (jmC k C) (jmE k E) (Hs enc (jmC k C) (jmE k E)) j) : ∃ x, j = nwI k x ∧ idR C E (Hs enc C E) x := by
  by_cases e : j = k + 1
  · exfalso
    have := hj.1
    rw [e, jm_j h.hk] at this
    exact absurd this (show ¬ (19 : Int) = 16 by decide)
  · obtain ⟨x, hx⟩ := nw_of e
    subst hx
    obtain ⟨hl, hM⟩ := h.nw hj.2.1
    obtain ⟨o1, o2, o3⟩ := h.opk hl
    have h16 : (inA C x).op = 16 := by rw [← o1]; exact hj.1
    have hq := hj.2.2
    rw [o3, (h.enA hl h16).1] at hq
    exact ⟨x, rfl, h16, hM, (h.qb hq).1 _ rfl⟩
theorem Jmp.sec (h : Jmp enc k C E) : Sec (jmC k C) (jmE k E) (Hs enc (jmC k C) (jmE k E)) ↔ Sec C E (Hs enc C E) := by
  have hmem : ∀ e', e' ∈ jmE k E → ∃ e, e ∈ E ∧ e' = mvI k e ∧ 0 ≤ e := fun e' he => by
    unfold jmE at he
    obtain ⟨e, h1, h2⟩ := List.mem_map.1 he
    obtain ⟨i, hi, h3⟩ := List.mem_iff_getElem.1 h1
    have := (h.hE i hi).1
    rw [show E.getD i 0 = E[i] by simp [List.getD, hi], h3] at this
    exact ⟨e, h1, h2.symm, this⟩
  constructor
  · intro hS
    refine ⟨fun i hi hr => ?_, fun e he j hj hij => ?_, fun x hx j hj hij => ?_⟩
    · refine hS.ring (nwI k i) (h.f hi) ?_
      obtain ⟨c, h1, h2⟩ := hr
      exact (h.ef h1).trans_rs (h.wf h2)
    · have he0 : 0 ≤ e := by
        obtain ⟨i, hi, h3⟩ := List.mem_iff_getElem.1 he
        have := (h.hE i hi).1
        rw [show E.getD i 0 = E[i] by simp [List.getD, hi], h3] at this
        exact this
      have hm : mvI k e ∈ jmE k E := by unfold jmE; exact List.mem_map.2 ⟨e, he, rfl⟩
      refine hS.ent _ hm (nwI k j) ?_ (h.idf hij)
      rw [mv_nw he0, Int.toNat_natCast]
      exact h.wf hj
    · refine hS.beh (nwI k x) (h.idf hx) (nwI k j) ?_ (h.idf hij)
      have h1 := h.wf hj
      by_cases e : x = k
      · subst e
        have hnx : nxT (inA C x).op = true := by rw [hx.1]; rfl
        have e2 : nwI x x + 1 = x + 1 := by unfold nwI; rw [if_neg (by omega)]
        rw [e2]
        exact h1.head ⟨h.j hx.2.1 hnx, beX_idx.2 ⟨0, h.way0, h.tkj _⟩⟩
      · have e2 : nwI k x + 1 = nwI k (x + 1) := by unfold nwI; split <;> split <;> omega
        rw [e2]
        exact h1
  · intro hS
    have hring : ∀ i, Hs enc C E i → ¬ Wyp (beR (jmC k C) (jmE k E) (Hs enc (jmC k C) (jmE k E))) (nwI k i) (nwI k i) := fun i hi hr => by
      obtain ⟨c, h1, h2⟩ := hr
      rcases h.eb h1 with ⟨e, -⟩ | ⟨-, e⟩
      · exact absurd e nw_not
      · have h3 := h.wb h2
        rw [ph_nw] at e h3
        exact hS.ring i hi ⟨_, e, h3⟩
    refine ⟨fun j hj hr => ?_, fun e' he j hj hij => ?_, fun x' hx j hj hij => ?_⟩
    · rcases h.b hj with ⟨i, hi, e, hM⟩ | ⟨e, hn, hM⟩
      · subst e
        exact hring i hM hr
      · subst e
        obtain ⟨c, h1, h2⟩ := hr
        rcases h.eb h1 with ⟨-, e⟩ | ⟨e, -⟩
        · subst e
          have h3 : Hs enc C E (k + 1) := (h.nw (by
            have := fs_ways hj _ (List.mem_of_getElem? h.way0)
            rw [Int.toNat_natCast] at this
            exact this)).2
          refine hring (k + 1) h3 ?_
          rcases h2.cases with e | h4
          · exact absurd e nw_not
          · exact h4.trans_rs (Wy.one h1)
        · exact absurd rfl e
    · obtain ⟨e, he0, e1, e2⟩ := hmem e' he
      obtain ⟨x, e3, hx⟩ := h.idb hij
      have h1 := h.wb hj
      rw [e1, ph_mv e2, e3, ph_nw] at h1
      exact hS.ent e he0 x h1 hx
    · obtain ⟨x, e3, hx⟩ := h.idb hx
      obtain ⟨y, e4, hy⟩ := h.idb hij
      have h1 := h.wb hj
      rw [e3, ph_next, e4, ph_nw] at h1
      exact hS.beh x hx y h1 hy
end
theorem alw_nc {nc nc' ne kd v : Int} (h : kd ≠ 15) : alw nc ne kd v = alw nc' ne kd v := by
  have : bnd nc ne kd = bnd nc' ne kd := by
    unfold bnd
    simp only [h, if_false]
  unfold alw
  rw [this]
theorem alw_15 {nc ne v : Int} : alw nc ne 15 v = true ↔ 0 ≤ v ∧ v < nc := by
  unfold alw bnd
  simp
  omega
theorem kin_1 (op : Int) : (kin op).1 ≠ 15 := by
  unfold kin
  by_cases h0 : op = 1
  · rw [if_pos h0]; decide
  rw [if_neg h0]
  by_cases h1 : op = 2
  · rw [if_pos h1]; decide
  rw [if_neg h1]
  by_cases h2 : op = 3 ∨ op = 4
  · rw [if_pos h2]; decide
  rw [if_neg h2]
  by_cases h3 : op = 8
  · rw [if_pos h3]; decide
  rw [if_neg h3]
  by_cases h4 : op = 9
  · rw [if_pos h4]; decide
  rw [if_neg h4]
  by_cases h5 : op = 10
  · rw [if_pos h5]; decide
  rw [if_neg h5]
  by_cases h6 : op = 11 ∨ op = 13 ∨ op = 14
  · rw [if_pos h6]; decide
  rw [if_neg h6]
  by_cases h7 : op = 7 ∨ op = 12 ∨ op = 15 ∨ op = 19
  · rw [if_pos h7]; decide
  rw [if_neg h7]
  by_cases h8 : op = 16
  · rw [if_pos h8]; decide
  rw [if_neg h8]
  by_cases h9 : op = 17
  · rw [if_pos h9]; decide
  rw [if_neg h9]
  by_cases h10 : op = 18
  · rw [if_pos h10]; decide
  rw [if_neg h10]
  by_cases h11 : op = 33
  · rw [if_pos h11]; decide
  rw [if_neg h11]
  by_cases h12 : op = 34
  · rw [if_pos h12]; decide
  rw [if_neg h12]
  by_cases h13 : op = 35 ∨ op = 43
  · rw [if_pos h13]; decide
  rw [if_neg h13]
  by_cases h14 : op = 37 ∨ op = 38
  · rw [if_pos h14]; decide
  rw [if_neg h14]
  by_cases h15 : op = 39
  · rw [if_pos h15]; decide
  rw [if_neg h15]
  by_cases h16 : op = 40 ∨ op = 47
  · rw [if_pos h16]; decide
  rw [if_neg h16]
  by_cases h17 : op = 41
  · rw [if_pos h17]; decide
  rw [if_neg h17]
  by_cases h18 : op = 42
  · rw [if_pos h18]; decide
  rw [if_neg h18]
  by_cases h19 : op = 44
  · rw [if_pos h19]; decide
  rw [if_neg h19]
  by_cases h20 : op = 45
  · rw [if_pos h20]; decide
  rw [if_neg h20]
  by_cases h21 : op = 46
  · rw [if_pos h21]; decide
  rw [if_neg h21]
  decide
theorem kin_3 (op : Int) : (kin op).2.2 ≠ 15 := by
  unfold kin
  by_cases h0 : op = 1
  · rw [if_pos h0]; decide
  rw [if_neg h0]
  by_cases h1 : op = 2
  · rw [if_pos h1]; decide
  rw [if_neg h1]
  by_cases h2 : op = 3 ∨ op = 4
  · rw [if_pos h2]; decide
  rw [if_neg h2]
  by_cases h3 : op = 8
  · rw [if_pos h3]; decide
  rw [if_neg h3]
  by_cases h4 : op = 9
  · rw [if_pos h4]; decide
  rw [if_neg h4]
  by_cases h5 : op = 10
  · rw [if_pos h5]; decide
  rw [if_neg h5]
  by_cases h6 : op = 11 ∨ op = 13 ∨ op = 14
  · rw [if_pos h6]; decide
  rw [if_neg h6]
  by_cases h7 : op = 7 ∨ op = 12 ∨ op = 15 ∨ op = 19
  · rw [if_pos h7]; decide
  rw [if_neg h7]
  by_cases h8 : op = 16
  · rw [if_pos h8]; decide
  rw [if_neg h8]
  by_cases h9 : op = 17
  · rw [if_pos h9]; decide
  rw [if_neg h9]
  by_cases h10 : op = 18
  · rw [if_pos h10]; decide
  rw [if_neg h10]
  by_cases h11 : op = 33
  · rw [if_pos h11]; decide
  rw [if_neg h11]
  by_cases h12 : op = 34
  · rw [if_pos h12]; decide
  rw [if_neg h12]
  by_cases h13 : op = 35 ∨ op = 43
  · rw [if_pos h13]; decide
  rw [if_neg h13]
  by_cases h14 : op = 37 ∨ op = 38
  · rw [if_pos h14]; decide
  rw [if_neg h14]
  by_cases h15 : op = 39
  · rw [if_pos h15]; decide
  rw [if_neg h15]
  by_cases h16 : op = 40 ∨ op = 47
  · rw [if_pos h16]; decide
  rw [if_neg h16]
  by_cases h17 : op = 41
  · rw [if_pos h17]; decide
  rw [if_neg h17]
  by_cases h18 : op = 42
  · rw [if_pos h18]; decide
  rw [if_neg h18]
  by_cases h19 : op = 44
  · rw [if_pos h19]; decide
  rw [if_neg h19]
  by_cases h20 : op = 45
  · rw [if_pos h20]; decide
  rw [if_neg h20]
  by_cases h21 : op = 46
  · rw [if_pos h21]; decide
  rw [if_neg h21]
  decide
theorem kin_2 {op : Int} (h : tgP op = false) : (kin op).2.1 ≠ 15 := by
  have h' : ¬ tgP op = true := by rw [h]; decide
  rw [tgP_iff] at h'
  unfold kin
  by_cases h0 : op = 1
  · rw [if_pos h0]; first | decide | omega
  rw [if_neg h0]
  by_cases h1 : op = 2
  · rw [if_pos h1]; first | decide | omega
  rw [if_neg h1]
  by_cases h2 : op = 3 ∨ op = 4
  · rw [if_pos h2]; first | decide | omega
  rw [if_neg h2]
  by_cases h3 : op = 8
  · rw [if_pos h3]; first | decide | omega
  rw [if_neg h3]
  by_cases h4 : op = 9
  · rw [if_pos h4]; first | decide | omega
  rw [if_neg h4]
  by_cases h5 : op = 10
  · rw [if_pos h5]; first | decide | omega
  rw [if_neg h5]
  by_cases h6 : op = 11 ∨ op = 13 ∨ op = 14
  · rw [if_pos h6]; first | decide | omega
  rw [if_neg h6]
  by_cases h7 : op = 7 ∨ op = 12 ∨ op = 15 ∨ op = 19
  · rw [if_pos h7]; first | decide | omega
  rw [if_neg h7]
  by_cases h8 : op = 16
  · rw [if_pos h8]; first | decide | omega
  rw [if_neg h8]
  by_cases h9 : op = 17
  · rw [if_pos h9]; first | decide | omega
  rw [if_neg h9]
  by_cases h10 : op = 18
  · rw [if_pos h10]; first | decide | omega
  rw [if_neg h10]
  by_cases h11 : op = 33
  · rw [if_pos h11]; first | decide | omega
  rw [if_neg h11]
  by_cases h12 : op = 34
  · rw [if_pos h12]; first | decide | omega
  rw [if_neg h12]
  by_cases h13 : op = 35 ∨ op = 43
  · rw [if_pos h13]; first | decide | omega
  rw [if_neg h13]
  by_cases h14 : op = 37 ∨ op = 38
  · rw [if_pos h14]; first | decide | omega
  rw [if_neg h14]
  by_cases h15 : op = 39
  · rw [if_pos h15]; first | decide | omega
  rw [if_neg h15]
  by_cases h16 : op = 40 ∨ op = 47
  · rw [if_pos h16]; first | decide | omega
  rw [if_neg h16]
  by_cases h17 : op = 41
  · rw [if_pos h17]; first | decide | omega
  rw [if_neg h17]
  by_cases h18 : op = 42
  · rw [if_pos h18]; first | decide | omega
  rw [if_neg h18]
  by_cases h19 : op = 44
  · rw [if_pos h19]; first | decide | omega
  rw [if_neg h19]
  by_cases h20 : op = 45
  · rw [if_pos h20]; first | decide | omega
  rw [if_neg h20]
  by_cases h21 : op = 46
  · rw [if_pos h21]; first | decide | omega
  rw [if_neg h21]
  first | decide | omega
theorem kin_t {op : Int} (h : tgP op = true) : (kin op).2.1 = 15 := by
  rw [tgP_iff] at h
  rcases h with e | e | e | e | e | e | e | e | e | e <;> (rw [e]; rfl)
section
variable {enc : Bool} {k : Nat} {C : List In} {E : List Int}
theorem frmX_jm {ne : Int} {x : In} (h : frmX enc (C.length : Int) ne x = true) : frmX enc ((C.length : Int) + 1) ne (jmI k x) = true := by
  obtain ⟨x1, x2, x3⟩ := jmI_op k x
  unfold frmX at h ⊢
  simp only [Bool.and_eq_true] at h ⊢
  rw [x1, x2, x3]
  refine ⟨h.1, by rw [alw_nc (kin_1 _) (nc' := (C.length : Int))]; exact h.2.1, ?_, by rw [alw_nc (kin_3 _) (nc' := (C.length : Int))]; exact h.2.2.2⟩
  have hb := h.2.2.1
  cases ht : tgP x.op with
  | true =>
    rw [jmI_b ht]
    rw [kin_t ht, alw_15] at hb ⊢
    unfold mvI
    split <;> omega
  | false =>
    rw [jmI_n ht, alw_nc (kin_2 ht) (nc' := (C.length : Int))]
    exact hb
theorem arms_jm {R R' : List In} {m : Int} (hm : (R'.take m.toNat) = (R.take m.toNat).map (jmI k)) (hl : R'.length ≥ R.length) (h : arms R m = true) : arms R' m = true := by
  unfold arms at h ⊢
  rw [Bool.and_eq_true] at h ⊢
  have h0 := of_decide_eq_true h.1
  refine ⟨decide_eq_true (by omega), ?_⟩
  rw [List.all_eq_true] at h ⊢
  intro j hj
  have hjm := List.mem_range.1 hj
  have h1 := h.2 j hj
  have hat : R'[j]? = (R[j]?).map (jmI k) := by
    have := congrArg (fun l => l[j]?) hm
    simp only [List.getElem?_take, hjm, if_true, List.getElem?_map] at this
    exact this
  have htk : R'.take j = (R.take j).map (jmI k) := by
    have := congrArg (fun l => l.take j) hm
    simp only [List.take_take, ← List.map_take] at this
    rw [Nat.min_eq_left (by omega)] at this
    exact this
  unfold armOk at h1 ⊢
  rw [hat]
  cases hx : R[j]? with
  | none => rw [hx] at h1; cases h1
  | some x =>
    rw [hx] at h1
    simp only [Option.map_some, Bool.and_eq_true] at h1 ⊢
    obtain ⟨x1, x2, x3⟩ := jmI_op k x
    rw [x1]
    refine ⟨h1.1, ?_⟩
    rw [htk, List.any_map, x2]
    have : (R.take j).any ((fun y => y.a == x.a) ∘ jmI k) = (R.take j).any (fun y => y.a == x.a) := by
      congr 1
      funext y
      show ((jmI k y).a == x.a) = _
      rw [(jmI_op k y).2.1]
    rw [this]
    exact h1.2
theorem Chk.apt (hK : Chk enc C E) (h1 : k + 1 < C.length) (h2 : (inA C k).op ≠ 8 ∧ (inA C k).op ≠ 41) (h3 : (inA C (k + 1)).op ≠ 9) : Apt k C := by
  refine ⟨h1, h2, h3, fun i hi ho => ?_⟩
  have ha := hK.cdok.arm i hi ho
  refine ⟨ha.1, ha.2.2, fun j hj => ?_⟩
  obtain ⟨g1, g2⟩ := frm_inA hi (hK.code i hi)
  have g3 : agr (inA C i) (C.drop (i + 1)) = arms (C.drop (i + 1)) (inA C i).a := by
    unfold agr
    rw [if_neg (by omega), if_neg (by omega), if_neg (by omega), if_pos ho]
  rw [g3] at g2
  unfold arms at g2
  rw [Bool.and_eq_true, List.all_eq_true] at g2
  have h4 := g2.2 j (List.mem_range.2 (by omega))
  have hj2 : i + 1 + j < C.length := by omega
  unfold armOk at h4
  rw [List.getElem?_drop, List.getElem?_eq_getElem hj2] at h4
  simp only [Bool.and_eq_true, beq_iff_eq] at h4
  rw [inA_at (List.getElem?_eq_getElem hj2)]
  exact h4.1
theorem jm_drop (h : Apt k C) {i : Nat} (hi : i < C.length) (ho : (inA C i).op = 8 ∨ (inA C i).op = 41) : ((jmC k C).drop (nwI k i + 1)).take (inA C i).a.toNat = ((C.drop (i + 1)).take (inA C i).a.toNat).map (jmI k) := by
  have hk : k < C.length := by have := h.lt; omega
  have ha := h.arms i hi ho
  refine List.ext_getElem? fun j => ?_
  rw [List.getElem?_take, List.getElem?_map, List.getElem?_take]
  by_cases hj : j < (inA C i).a.toNat
  · rw [if_pos hj, if_pos hj, List.getElem?_drop, List.getElem?_drop]
    have h1 := h.side hi ho (show (j : Int) < (inA C i).a by omega)
    have hjl : i + 1 + j < C.length := by omega
    have h2 := jm_at hk hjl
    have h3 : nwI k (i + 1 + j) < (jmC k C).length := by rw [jm_len hk]; exact (nw_lt hk).2 hjl
    rw [← h1, List.getElem?_eq_getElem h3, List.getElem?_eq_getElem hjl, Option.map_some]
    rw [inA_at (List.getElem?_eq_getElem h3), inA_at (List.getElem?_eq_getElem hjl)] at h2
    rw [h2]
  · rw [if_neg hj, if_neg hj]
    rfl
theorem chk_jm (hK : Chk enc C E) (h : Apt k C) (hl : C.length + 1 ≤ 1048576) : Chk enc (jmC k C) (jmE k E) := by
  have hk : k < C.length := by have := h.lt; omega
  have hel : (jmE k E).length = E.length := by simp [jmE]
  have hlen := jm_len hk
  refine ⟨by omega, by rw [hel]; exact hK.ne, fun j hj => ?_, fun i hi => ?_⟩
  · rw [hel]
    have hjx := inA_at (List.getElem?_eq_getElem hj)
    unfold frm
    rw [List.getElem?_eq_getElem hj]
    simp only [Bool.and_eq_true]
    rw [← hjx, hlen, show ((C.length + 1 : Nat) : Int) = (C.length : Int) + 1 by omega]
    by_cases e : j = k + 1
    · subst e
      rw [jm_j hk]
      refine ⟨?_, ?_⟩
      · unfold frmX jmJ
        simp only [Bool.and_eq_true]
        refine ⟨by unfold isOf; simp, ?_, ?_, ?_⟩
        · show alw _ _ 0 0 = true
          rfl
        · show alw _ _ 15 _ = true
          rw [alw_15]
          have := h.lt
          omega
        · show alw _ _ 0 0 = true
          rfl
      · unfold agr jmJ
        simp
    · obtain ⟨i, rfl⟩ := nw_of e
      rw [hlen, nw_lt hk] at hj
      obtain ⟨g1, g2⟩ := frm_inA hj (hK.code i hj)
      rw [jm_at hk hj]
      refine ⟨frmX_jm g1, ?_⟩
      obtain ⟨x1, x2, x3⟩ := jmI_op k (inA C i)
      by_cases ho : (inA C i).op = 8 ∨ (inA C i).op = 41
      · have g3 : ∀ R, agr (inA C i) R = arms R (inA C i).a := fun R => by
          unfold agr
          rw [if_neg (by omega), if_neg (by omega), if_neg (by omega), if_pos ho]
        have g4 : ∀ R, agr (jmI k (inA C i)) R = arms R (inA C i).a := fun R => by
          unfold agr
          rw [x1, x2, if_neg (by omega), if_neg (by omega), if_neg (by omega), if_pos ho]
        rw [g3] at g2
        rw [g4]
        refine arms_jm (jm_drop h hj ho) ?_ g2
        rw [List.length_drop, List.length_drop, hlen]
        unfold nwI
        split <;> omega
      · cases ht : tgP (inA C i).op with
        | false =>
          rw [jmI_n ht]
          have g5 : ∀ R R', agr (inA C i) R = agr (inA C i) R' := fun R R' => by
            unfold agr
            rw [if_neg ho, if_neg ho]
          rw [g5 _ (C.drop (i + 1))]
          exact g2
        | true =>
          unfold agr
          rw [x1]
          rw [tgP_iff] at ht
          rw [if_neg (by omega), if_neg (by omega), if_neg (by omega), if_neg ho]
  · rw [hel] at hi
    rw [jme_get hi, hlen]
    have := hK.ent i hi
    unfold mvI
    split <;> omega
theorem vf_code (hK : Chk enc C E) : (vfP enc C E).1 = 0 ∨ (vfP enc C E).1 = 150 := by
  unfold vfP
  rw [chk_ok.2 hK, if_neg (by simp)]
  split
  · exact .inr rfl
  split
  · exact .inr rfl
  · exact .inl rfl
theorem jump_ok (hK : Chk enc C E) (h1 : k + 1 < C.length) (h2 : (inA C k).op ≠ 8 ∧ (inA C k).op ≠ 41) (h3 : (inA C (k + 1)).op ≠ 9) (hl : C.length + 1 ≤ 1048576) : ((vfP enc C E).1 = 0 ↔ (vfP enc (jmC k C) (jmE k E)).1 = 0) ∧ ((vfP enc (jmC k C) (jmE k E)).1 = 0 ∨ (vfP enc (jmC k C) (jmE k E)).1 = 150) := by
  have hA := hK.apt h1 h2 h3
  have hK' := chk_jm hK hA hl
  have hfs := fs_jm (enc := enc) hA hK.ent
  refine ⟨?_, vf_code hK'⟩
  rw [(vf_sem hK).1, (vf_sem hK').1, hfs]
  constructor
  · rintro ⟨a, b⟩
    exact ⟨a, (Jmp.sec ⟨hA, hK.ent, fun i hi h16 => hK.ceok.cal i hi h16, a, hfs.2 a⟩).2 b⟩
  · rintro ⟨a, b⟩
    exact ⟨a, (Jmp.sec ⟨hA, hK.ent, fun i hi h16 => hK.ceok.cal i hi h16, a, hfs.2 a⟩).1 b⟩
end
def shL (f : St → Int) (S : List St) (n j : Nat) : List Int := (S.take j).map f ++ List.replicate (n - j) 0
theorem shL_len (f : St → Int) (S : List St) (n j : Nat) (hS : S.length = n) (hj : j ≤ n) : (shL f S n j).length = n := by
  unfold shL
  rw [List.length_append, List.length_map, List.length_take, List.length_replicate]
  omega
theorem shL_set (f : St → Int) (S : List St) (n j : Nat) (s : St) (hS : S.length = n) (hj : j < n) (hs : S[j]? = some s) : (shL f S n j).set j (f s) = shL f S n (j + 1) := by
  apply List.ext_getElem?
  intro i
  by_cases hi : i < n
  · rw [List.getElem?_set]
    have hl := shL_len f S n j hS (by omega)
    unfold shL
    by_cases h1 : j = i
    · subst h1
      rw [if_pos rfl, if_pos (by unfold shL at hl; omega), List.getElem?_append_left (by rw [List.length_map, List.length_take]; omega), List.getElem?_map, List.getElem?_take_of_lt (by omega), hs]
      rfl
    · rw [if_neg h1]
      by_cases h2 : i < j
      · rw [List.getElem?_append_left (by rw [List.length_map, List.length_take]; omega), List.getElem?_append_left (by rw [List.length_map, List.length_take]; omega), List.getElem?_map, List.getElem?_map, List.getElem?_take_of_lt h2, List.getElem?_take_of_lt (by omega)]
      · rw [List.getElem?_append_right (by rw [List.length_map, List.length_take]; omega), List.getElem?_append_right (by rw [List.length_map, List.length_take]; omega), List.getElem?_replicate, List.getElem?_replicate, List.length_map, List.length_take, List.length_map, List.length_take, if_pos (by omega), if_pos (by omega)]
  · rw [List.getElem?_eq_none (by rw [List.length_set, shL_len f S n j hS (by omega)]; omega), List.getElem?_eq_none (by rw [shL_len f S n (j + 1) hS (by omega)]; omega)]
theorem shL_all (f : St → Int) (S : List St) (n : Nat) (hS : S.length = n) : shL f S n n = S.map f := by
  unfold shL
  rw [List.take_of_length_le (by omega)]
  simp
theorem shL_zero (f : St → Int) (S : List St) (n : Nat) : shL f S n 0 = List.replicate n 0 := by
  unfold shL
  simp
def shP (enc : Bool) (C : List In) (E : List Int) : List Int := (stP enc C E).map (mShp enc)
def ShTo (w : World) (enc : Bool) (C : List In) (E : List Int) (e : Ending) (w' : World) : Prop :=
  Below w.heap.size w w' ∧ (((vfP enc C E).1 = 0 ∧ (vfP enc C E).2 = 0 ∧ Chk enc C E ∧ (shP enc C E).length = C.length ∧ ∃ g, e = .returned (.tuple #[.slice (some ⟨g, 0, none⟩) C.length C.length, .agg #[.int .i64 0, .int .i64 0]]) ∧ w.heap.size ≤ g ∧ Blk w' g 3 (cellsL .i64 (shP enc C E))) ∨
    ((vfP enc C E).1 ≠ 0 ∧ e = .returned (.tuple #[.slice none 0 0, .agg #[.int .i64 (vfP enc C E).1, .int .i64 (vfP enc C E).2]])))
set_option maxRecDepth 100000 in
set_option maxHeartbeats 16000000 in
theorem shape_any (enc : Bool) (ac ae : Option Addr) (cc ce : Nat) (C : List In) (E : List Int) (w : World) (hcc : C.length ≤ cc) (hcl : cc ≤ 9223372036854775807) (hCl : C.length ≤ 140737488355328) (hce : E.length ≤ ce) (hel : E.length ≤ 140737488355328) (hr : Hid (IRow w ac C)) (he : Hid (Row .i64 w ae E)) :
    Calls Try.prog 7 #[.agg #[.bool enc, .slice ac C.length cc, .slice ae E.length ce]] w fun e w' => ShTo w enc C E e w' := by
  obtain ⟨w1, hw1⟩ : ∃ wx, (w.alloc (.cells #[.bool enc, .slice ac C.length cc, .slice ae E.length ce] 25)).alloc (.cells #[.int .i64 0, .int .i64 0] 30) = wx := ⟨_, rfl⟩
  have hB1 : Below w.heap.size w w1 := by rw [← hw1]; exact below2 _ _ _
  obtain ⟨kp, kf⟩ := blk2 w #[.bool enc, .slice ac C.length cc, .slice ae E.length ce] #[.int .i64 0, .int .i64 0] 25 30
  rw [hw1] at kp kf
  have hgf : w.heap.size ≤ w.heap.size + 1 := by omega
  have p0 := kp.cell 0; have p1 := kp.cell 1; have p2 := kp.cell 2
  simp at p0 p1 p2
  have HVf := hide_ (verified_any enc ac ae cc ce C E w1 hcc hcl hCl hce hel (hide_ (hr.out.later hB1)) (hide_ (he.out.later hB1)))
  have KP := hide_ kp
  have KF := hide_ kf
  have HB1 := hide_ hB1
  clear kp kf hB1 hr he
  go_enter Try.func7, Try.ntmps7
  go_upto_region 1 with fail
  try rw [hw1]
  clear hw1
  go_wp2_with fail
  refine HVf.out.mono ?_
  rintro e w2 ⟨hB2, hT⟩
  clear HVf p0 p1 p2
  rcases hT with ⟨h1, h2, hK, hA, hl, g, rfl, hg, hT2⟩ | ⟨h1, rfl⟩
  · go_upto_region 2 with fail
    obtain ⟨w3, hw3⟩ : ∃ wx, w2.alloc (.cells #[.int .i64 0, .int .i64 0] 30) = wx := ⟨_, rfl⟩
    have hB3 : Below w2.heap.size w2 w3 := by rw [← hw3]; exact below1 _ _
    have hK3 : Blk w3 w2.heap.size 30 [.int .i64 0, .int .i64 0] := by rw [← hw3]; exact Blk.newA _ _ _
    have q0 := hK3.cell 0; have q1 := hK3.cell 1
    simp at q0 q1
    have hn9 : C.length ≤ 1048576 := hK.nc
    have HB3 := hide_ (below_to (below_to HB1.out hB2) hB3)
    have HF3 := hide_ ((KF.out.later hB2).later hB3)
    have HP3 := hide_ ((KP.out.later hB2).later hB3)
    have HT3 := hide_ (hT2.later hB3)
    have HVf : Hid ((vfP enc C E).1 = 0 ∧ (vfP enc C E).2 = 0 ∧ Chk enc C E) := hide_ ⟨h1, h2, hK⟩
    obtain ⟨S, hS⟩ : ∃ S, stP enc C E = S := ⟨_, rfl⟩
    rw [hS] at hA hl HT3
    have HSe := hide_ hS
    obtain ⟨n, hn⟩ : ∃ n, C.length = n := ⟨_, rfl⟩
    rw [hn] at hl hn9
    have Hn := hide_ hn
    have HSl := hide_ hl
    have HSA := hide_ hA
    obtain ⟨w4, hmk, hK4, hB4⟩ : ∃ wx, (Instr.makeSlice 23 (.int .i64 (n : Int)) (.int .i64 (n : Int))).run Try.prog w3 = .ok (.slice (some ⟨w3.heap.size, 0, none⟩) n n) wx ∧ Blk wx w3.heap.size 3 (cellsL .i64 (List.replicate n 0)) ∧ Below w3.heap.size w3 wx := ⟨_, makeIn n (by omega) w3, newI0 w3 n, below1 _ _⟩
    obtain ⟨gl, hgl⟩ : ∃ gl, w3.heap.size = gl := ⟨_, rfl⟩
    rw [hgl] at hmk hK4
    have HK4 : Hid (Blk w4 gl 3 (cellsL .i64 (shL (mShp enc) S n 0))) := hide_ (by rw [shL_zero]; exact hK4)
    have HT4 := hide_ (HT3.out.later hB4)
    have HF4 := hide_ (HF3.out.later hB4)
    have HP4 := hide_ (HP3.out.later hB4)
    have HB4 := hide_ (below_to HB3.out hB4)
    have Hgl : Hid (w.heap.size ≤ gl ∧ gl ≠ g ∧ gl ≠ w.heap.size ∧ gl ≠ w.heap.size + 1) := hide_ (by
      have e1 := HT3.out.lt
      have e2 := HF3.out.lt
      have e3 := HB3.out.size
      omega)
    try rw [hw3]
    try rw [hn]
    clear hw3 h1 h2 hK hA hl hT2 hS hn hB2 hB3 hB4 hK3 hK4 hgl hg HT3 HF3 HP3 HB3 KP KF HB1
    go_wp2_with fail
    clear hmk q0 q1
    go_loopw [23] (fun x23 wr => ∃ (j : Nat), j ≤ n ∧ x23 = .int .i64 (j : Int) ∧ Hid (Blk wr gl 3 (cellsL .i64 (shL (mShp enc) S n j))) ∧ Hid (Upd (fun q => q = gl) w4 wr)) (fun x23 _ => n - (intOf x23).toNat)
    case atStart => exact ⟨0, by omega, rfl, HK4, hide_ (Upd.refl _ _)⟩
    case round =>
      clear HK4
      obtain ⟨j, hj, rfl, HKj, HUj⟩ := hrel
      generalize wr = wq at *
      by_cases hlt : j < n
      · have hlt' : (j : Int) < (n : Int) := by omega
        obtain ⟨s, hs⟩ : ∃ s, S[j]? = some s := ⟨_, List.getElem?_eq_getElem (by rw [HSl.out]; exact hlt)⟩
        have hsA : stA S j = s := by unfold stA; simp [List.getD, hs]
        have HSo : Hid (SOk s) := hide_ (by rw [← hsA]; exact HSA.out j)
        have hTq := HT4.out.upd HUj.out (fun e => Hgl.out.2.1 e.symm)
        have hP := HP4.out.upd HUj.out (fun e => Hgl.out.2.2.1 e.symm)
        have t := fun i (hi : i < 7) => (hTq.cell (j * 7 + i)).trans (cellsG_at (f := stc) (c := 7) stc_len S j i _ hs hi)
        have t0 := t 0 (by decide); have t1 := t 1 (by decide); have t2 := t 2 (by decide); have t3 := t 3 (by decide); have t4 := t 4 (by decide); have t5 := t 5 (by decide); have t6 := t 6 (by decide)
        simp [stc] at t0 t1 t2 t3 t4 t5 t6
        obtain ⟨w5, hw5⟩ : ∃ wx, wq.alloc (.cells #[.int .i64 s.pl, .int .u64 (s.ki : Int), .int .i64 s.tb, .int .i64 s.pa, .int .i64 s.fr, .int .i64 s.le, .bool s.su] 46) = wx := ⟨_, rfl⟩
        have hB5 : Below wq.heap.size wq w5 := by rw [← hw5]; exact below1 _ _
        have hK5 : Blk w5 wq.heap.size 46 (stc s) := by rw [← hw5]; exact Blk.newA _ _ _
        obtain ⟨q5, hq5⟩ : ∃ q5, wq.heap.size = q5 := ⟨_, rfl⟩
        rw [hq5] at hK5
        have hP5 := hP.later hB5
        have HK5l := hide_ (HKj.out.later hB5)
        have HU5 := hide_ (HUj.out.then hB5)
        have HS8 : Hid (∀ w3, Below w5.heap.size w5 w3 → (fun w' => w'.cell? ⟨w.heap.size, 0, none⟩ = some (.bool enc) ∧ w'.cell? ⟨q5, 0, none⟩ = some (.int .i64 s.pl) ∧ w'.cell? ⟨q5, 1, none⟩ = some (.int .u64 (s.ki : Int)) ∧ w'.cell? ⟨q5, 2, none⟩ = some (.int .i64 s.tb) ∧ w'.cell? ⟨q5, 3, none⟩ = some (.int .i64 s.pa) ∧ w'.cell? ⟨q5, 4, none⟩ = some (.int .i64 s.fr) ∧ w'.cell? ⟨q5, 5, none⟩ = some (.int .i64 s.le) ∧ w'.cell? ⟨q5, 6, none⟩ = some (.bool s.su)) w3) := hide_ (fun w3 hB => by
          have k := hP5.later hB
          have k2 := hK5.later hB
          exact ⟨by rw [k.cell 0]; rfl, by rw [k2.cell 0]; rfl, by rw [k2.cell 1]; rfl, by rw [k2.cell 2]; rfl, by rw [k2.cell 3]; rfl, by rw [k2.cell 4]; rfl, by rw [k2.cell 5]; rfl, by rw [k2.cell 6]; rfl⟩)
        have HMs : Hid (∀ wx, Calls Try.prog (fSh enc) #[.agg #[], .agg #[.int .i64 s.pl, .int .u64 (s.ki : Int), .int .i64 s.tb, .int .i64 s.pa, .int .i64 s.fr, .int .i64 s.le, .bool s.su]] wx fun e w' => e = .returned (.int .i64 (mShp enc s)) ∧ Below wx.heap.size wx w') := hide_ (fun wx => mshape_any enc s wx HSo.out)
        obtain ⟨r, hr⟩ : ∃ r, mShp enc s = r := ⟨_, rfl⟩
        rw [hr] at HMs
        have Hr := hide_ hr
        have Hs := hide_ hs
        have hgl5 : (gl : Nat) < w5.heap.size := HK5l.out.lt
        clear hs hsA hTq hP t hB5 hK5 hP5 HKj HUj hr
        go_upto_region 8 with fail
        try rw [hw5]
        try rw [hq5]
        clear hw5 hq5 t0 t1 t2 t3 t4 t5 t6
        refine wp_region_last 8 (fun w' => w'.cell? ⟨w.heap.size, 0, none⟩ = some (.bool enc) ∧ w'.cell? ⟨q5, 0, none⟩ = some (.int .i64 s.pl) ∧ w'.cell? ⟨q5, 1, none⟩ = some (.int .u64 (s.ki : Int)) ∧ w'.cell? ⟨q5, 2, none⟩ = some (.int .i64 s.tb) ∧ w'.cell? ⟨q5, 3, none⟩ = some (.int .i64 s.pa) ∧ w'.cell? ⟨q5, 4, none⟩ = some (.int .i64 s.fr) ∧ w'.cell? ⟨q5, 5, none⟩ = some (.int .i64 s.le) ∧ w'.cell? ⟨q5, 6, none⟩ = some (.bool s.su)) (by kernel_rfl) (HS8.out _ (Below.refl _ _).drew) (fun hHeld => ?_)
        obtain ⟨wz0, hz0⟩ : ∃ wx, w5.drew = wx := ⟨_, rfl⟩
        rw [hz0] at hHeld ⊢
        have HBz0 : Hid (Below w5.heap.size w5 wz0) := hide_ (by rw [← hz0]; exact (Below.refl _ _).drew)
        have hSz0 := hHeld
        clear hz0
        refine wpAnyF_take [8] (by kernel_rfl) (i := 0) (v := ?vp1) rfl (by kernel_rfl) (by kernel_rfl) (by kernel_rfl) (fun _ _ _ h => h) (Or.inl ⟨by kernel_rfl, ?hyp1⟩) hHeld ?restp1
        case hyp1 => intro w' hSw; (try dsimp only at hSw); go_simp; try with_reducible rfl
        simp only [Act.put]
        try dsimp only
        refine wpAnyF_take [8] (by kernel_rfl) (i := 1) (v := ?vp2) rfl (by kernel_rfl) (by kernel_rfl) (by kernel_rfl) (fun _ _ _ h => h) (Or.inl ⟨by kernel_rfl, ?hyp2⟩) hHeld ?restp2
        case hyp2 => intro w' hSw; (try dsimp only at hSw); go_simp; try with_reducible rfl
        simp only [Act.put]
        try dsimp only
        refine wpAnyF_take [8] (by kernel_rfl) (i := 2) (v := ?vp3) rfl (by kernel_rfl) (by kernel_rfl) (by kernel_rfl) (fun _ _ _ h => h) (Or.inl ⟨by kernel_rfl, ?hyp3⟩) hHeld ?restp3
        case hyp3 => intro w' hSw; (try dsimp only at hSw); go_simp; try with_reducible rfl
        simp only [Act.put]
        try dsimp only
        refine wpAnyF_take [8] (by kernel_rfl) (i := 3) (v := ?vp4) rfl (by kernel_rfl) (by kernel_rfl) (by kernel_rfl) (fun _ _ _ h => h) (Or.inl ⟨by kernel_rfl, ?hyp4⟩) hHeld ?restp4
        case hyp4 => intro w' hSw; (try dsimp only at hSw); go_simp; try with_reducible rfl
        simp only [Act.put]
        try dsimp only
        refine wpAnyF_take [8] (by kernel_rfl) (i := 5) (v := ?vp5) rfl (by kernel_rfl) (by kernel_rfl) (by kernel_rfl) (fun _ _ _ h => h) (Or.inl ⟨by kernel_rfl, ?hyp5⟩) hHeld ?restp5
        case hyp5 => intro w' hSw; (try dsimp only at hSw); go_simp; try with_reducible rfl
        simp only [Act.put]
        try dsimp only
        refine wpAnyF_ready (rs := [4]) (by kernel_rfl) (by simp) ?_
        refine AllReadyF.cons rfl (fun K hK => ?_) AllReadyF.nil
        go_simp
        refine (machineOf_any enc wz0).mono ?_
        rintro e w9 ⟨rfl, rfl⟩
        unfold mcV
        go_simp
        refine hK.out _ _ (hSz0) (fun hHeld => ?_)
        clear hK K
        refine wpAnyF_ready (rs := [6]) (by kernel_rfl) (by simp) ?_
        refine AllReadyF.cons rfl (fun K hK => ?_) AllReadyF.nil
        have mH := mtSh enc 256 wz0
        have eH := enSh enc
        go_simp
        refine (HMs.out wz0).mono ?_
        rintro e w6 ⟨rfl, hB6⟩
        have HB6 := hide_ (below_to HBz0.out hB6)
        have hS6 := HS8.out w6 HB6.out
        clear hB6 mH eH
        go_simp
        refine hK.out _ _ (hS6) (fun hHeld => ?_)
        clear hK K
        refine wpAnyF_take [8] (by kernel_rfl) (i := 7) (v := ?vp6) rfl (by kernel_rfl) (by kernel_rfl) (by kernel_rfl) (fun _ _ _ h => h) (Or.inl ⟨by kernel_rfl, ?hyp6⟩) hHeld ?restp6
        case hyp6 => intro w' hSw; (try dsimp only at hSw); go_simp; try with_reducible rfl
        simp only [Act.put]
        try dsimp only
        refine wpAnyF_ready (rs := [8]) (by kernel_rfl) (by simp) ?_
        refine AllReadyF.last rfl (fun K hK => ?_)
        have HL6 := hide_ (HK5l.out.later HB6.out)
        obtain ⟨x0, cx⟩ := fault_in HL6.out (k := j) (by rw [shL_len _ _ _ _ HSl.out (by omega)]; exact hlt)
        have zx := HL6.out.frozen j
        go_simp
        refine hK.out _ _ ?_
        clear hK K
        refine wpAnyF_done (by kernel_rfl) ?_ _
        obtain ⟨w7, hw7⟩ : ∃ wx, w6.setCell ⟨gl, j, none⟩ (.int .i64 r) = wx := ⟨_, rfl⟩
        have HL7 : Hid (Blk w7 gl 3 (cellsL .i64 (shL (mShp enc) S n (j + 1)))) := hide_ (by
          have h1 := HL6.out.set j (.int .i64 r)
          rw [cellsL_set, ← Hr.out, shL_set _ _ _ _ _ HSl.out hlt Hs.out, Hr.out, hw7] at h1
          exact h1)
        have HU7 : Hid (Upd (fun q => q = gl) w4 w7) := hide_ (by rw [← hw7]; exact (HU5.out.then HB6.out).set _ _ (.inl rfl))
        rw [hw7]
        clear hw7 HL6 cx zx
        go_wp2_with fail
        go_roundw
        case rel => exact ⟨j + 1, by omega, by go_num, HL7, HU7⟩
        case measure => simp [intOf]; omega
      · have hlt' : ¬ ((j : Int) < (n : Int)) := by omega
        have hF := HF4.out.upd HUj.out (fun e => Hgl.out.2.2.2 e.symm)
        have HX : Hid (∀ w', Below w.heap.size w w' → Blk w' gl 3 (cellsL .i64 (shL (mShp enc) S n j)) → ShTo w enc C E (.returned (.tuple #[.slice (some ⟨gl, 0, none⟩) n n, .agg #[.int .i64 0, .int .i64 0]])) w') := hide_ (fun w' h1 h2 => by
          obtain rfl : j = n := by omega
          rw [shL_all _ _ _ HSl.out] at h2
          have e1 : shP enc C E = S.map (mShp enc) := by unfold shP; rw [HSe.out]
          refine ⟨h1, .inl ⟨HVf.out.1, HVf.out.2.1, HVf.out.2.2, by rw [e1, List.length_map, HSl.out, Hn.out], gl, by rw [Hn.out], Hgl.out.1, by rw [e1]; exact h2⟩⟩)
        have z0 := hF.cell 0; have z1 := hF.cell 1
        have zf := fun i => hF.frozen i
        simp at z0 z1
        have HFh := hide_ hF
        have HBq : Hid (Below w.heap.size w wq) := hide_ (below_to2 HB4.out HUj.out (fun q e => by rw [e]; exact Hgl.out.1))
        clear hF
        go_wp2_with fail
        refine retVS rfl rfl rfl (wr2f HFh.out _ _) ?_
        exact HX.out _ (below_set (below_set HBq.out _ _ _ hgf) _ _ _ hgf) ((HKj.out.other _ _ Hgl.out.2.2.2).other _ _ Hgl.out.2.2.2)
  · obtain ⟨K, hK⟩ : ∃ K, vfP enc C E = K := ⟨_, rfl⟩
    rw [hK] at h1 ⊢
    have HKe := hide_ hK
    obtain ⟨w3, hw3⟩ : ∃ wx, w2.alloc (.cells #[.int .i64 K.1, .int .i64 K.2] 30) = wx := ⟨_, rfl⟩
    have hB3 : Below w2.heap.size w2 w3 := by rw [← hw3]; exact below1 _ _
    have hK3 : Blk w3 w2.heap.size 30 [.int .i64 K.1, .int .i64 K.2] := by rw [← hw3]; exact Blk.newA _ _ _
    have q0 := hK3.cell 0; have q1 := hK3.cell 1
    simp at q0 q1
    have HB3 := hide_ (below_to (below_to HB1.out hB2) hB3)
    have HF3 := hide_ ((KF.out.later hB2).later hB3)
    have z0 := HF3.out.cell 0; have z1 := HF3.out.cell 1
    have zf := fun i => HF3.out.frozen i
    simp at z0 z1
    have f0 : (K.1 == 0) = false := by simpa using h1
    have HX : Hid (∀ w', Below w.heap.size w w' → ShTo w enc C E (.returned (.tuple #[.slice none 0 0, .agg #[.int .i64 K.1, .int .i64 K.2]])) w') := hide_ (fun w' h2 => ⟨h2, .inr ⟨by rw [HKe.out]; exact h1, by rw [HKe.out]⟩⟩)
    clear h1 hK hB2 hB3 hK3 KP KF HB1
    go_wp2_with fail
    try rw [hw3]
    clear hw3
    go_region
    go_wp2_with fail
    refine retVS rfl rfl rfl (wr2f HF3.out _ _).drew ?_
    exact HX.out _ (below_set (below_set HB3.out _ _ _ hgf) _ _ _ hgf).drew
set_option maxRecDepth 100000 in
set_option maxHeartbeats 4000000 in
theorem ints_any (a1 a2 : Option Addr) (c1 c2 : Nat) (l1 l2 : List Int) (w : World) (h1 : l1.length ≤ 9223372036854775807) (h2 : l2.length ≤ 9223372036854775807) (r1 : Hid (Row .i64 w a1 l1)) (r2 : Hid (Row .i64 w a2 l2)) :
    Calls Try.prog 11 #[.slice a1 l1.length c1, .slice a2 l2.length c2] w fun e w' => e = .returned (.bool (decide (l1 = l2))) ∧ Below w.heap.size w w' := by
  obtain ⟨R, hR⟩ : ∃ R, decide (l1 = l2) = R := ⟨_, rfl⟩
  rw [hR]
  have HR := hide_ hR
  clear hR
  by_cases hl : l1.length = l2.length
  · have hl' : ((l1.length : Int) != (l2.length : Int)) = false := by simp; omega
    have HL := hide_ hl
    go_enter Try.func11, Try.ntmps11
    go_wp2_with fail
    go_loopw [5] (fun x5 wr => ∃ i : Nat, i ≤ l1.length ∧ x5 = .int .i64 (i : Int) ∧ Hid (l1.take i = l2.take i) ∧ Hid (Below w.heap.size w wr)) (fun x5 _ => l1.length - (intOf x5).toNat)
    case atStart => exact ⟨0, Nat.zero_le _, rfl, hide_ rfl, hide_ (Below.refl _ _)⟩
    case round =>
      obtain ⟨i, hi, rfl, HT, HB⟩ := hrel
      generalize wr = wq at *
      by_cases hlt : i < l1.length
      · have hlt' : (i : Int) < l1.length := by omega
        have hlt2 : i < l2.length := by have := HL.out; omega
        have hlt2' : (i : Int) < l2.length := by omega
        obtain ⟨b1, o1, rfl, hb1, hc1⟩ := (r1.out.later HB.out).open (by omega)
        obtain ⟨b2, o2, rfl, hb2, hc2⟩ := (r2.out.later HB.out).open (by omega)
        have d1 := hc1 i hlt
        have d2 := hc2 i hlt2
        have e1 : l1.getD i 0 = l1[i]'hlt := by simp [List.getD, hlt]
        have e2 : l2.getD i 0 = l2[i]'hlt2 := by simp [List.getD, hlt2]
        have ht1 : l1.take (i + 1) = l1.take i ++ [l1[i]'hlt] := List.take_succ_eq_append_getElem hlt
        have ht2 : l2.take (i + 1) = l2.take i ++ [l2[i]'hlt2] := List.take_succ_eq_append_getElem hlt2
        rw [← e1] at ht1
        rw [← e2] at ht2
        generalize l1.getD i 0 = x at *
        generalize l2.getD i 0 = y at *
        have HT1 := hide_ ht1
        have HT2 := hide_ ht2
        clear hc1 hc2 ht1 ht2 e1 e2 hl
        have hdr : Hid (Below w.heap.size w wq.drew) := hide_ HB.out.drew
        by_cases he : x = y
        · have he' : (x != y) = false := by simp [he]
          have HT3 : Hid (l1.take (i + 1) = l2.take (i + 1)) := hide_ (by rw [HT1.out, HT2.out, HT.out, he])
          clear he
          go_wp2_with fail
          go_region
          go_wp2_with fail
          go_roundw
          case rel => exact ⟨i + 1, by omega, by go_num, HT3, hdr⟩
          case measure => simp [intOf]; omega
        · have he' : (x != y) = true := by simpa using he
          have HV : Hid (R = false) := hide_ (by
            rw [← HR.out]
            refine decide_eq_false fun e => he ?_
            have h1 := HT1.out
            rw [e, HT2.out, ← e, HT.out] at h1
            simpa using h1.symm)
          clear he
          go_wp2_with fail
          go_region
          go_wp2
          go_ret
          exact ⟨by rw [HV.out]; rfl, hdr.out⟩
      · obtain rfl : i = l1.length := by omega
        have HV : Hid (R = true) := hide_ (by
          rw [← HR.out]
          have h := HT.out
          rw [List.take_length, HL.out, List.take_length] at h
          exact decide_eq_true h)
        clear hl
        go_wp2
        go_ret
        exact ⟨by rw [HV.out]; rfl, HB.out⟩
  · have hl' : ((l1.length : Int) != (l2.length : Int)) = true := by simp; omega
    have HV : Hid (R = false) := hide_ (by rw [← HR.out]; exact decide_eq_false (fun e => hl (by rw [e])))
    go_enter Try.func11, Try.ntmps11
    go_wp2
    go_ret
    exact ⟨by rw [HV.out]; rfl, Below.refl _ _⟩
def pC1 : List In := [⟨6, 0, 0, 0⟩, ⟨1, 1, 1, 0⟩, ⟨1, 0, 1, 0⟩, ⟨20, 0, 0, 0⟩]
def pC2 : List In := [⟨1, -1, 2, 0⟩, ⟨1, -1, 2, 0⟩, ⟨20, 0, 0, 0⟩]
def pC3 : List In := [⟨38, 3, 0, 0⟩, ⟨33, -1, 1, 0⟩, ⟨47, 0, 1, 0⟩, ⟨20, 0, 0, 0⟩]
theorem vf1 : vfP false pC1 [0] = (0, 0) := by decide +kernel
theorem sh1 : shP false pC1 [0] = [0, 2, 3, 4] := by decide +kernel
theorem vf2 : vfP false pC2 [0] = (150, 1) := by decide +kernel
theorem vf3 : vfP true pC3 [0] = (150, 1) := by decide +kernel
theorem first_shape (gc ge : Nat) (w : World) (hc : Blk w gc 37 (cellsG inc pC1)) (he : Blk w ge 3 [.int .i64 0]) :
    Calls Try.prog 7 #[.agg #[.bool false, .slice (some ⟨gc, 0, none⟩) 4 4, .slice (some ⟨ge, 0, none⟩) 1 1]] w fun e w' => ∃ g, e = .returned (.tuple #[.slice (some ⟨g, 0, none⟩) 4 4, .agg #[.int .i64 0, .int .i64 0]]) ∧ Hid (Blk w' g 3 (cellsL .i64 [0, 2, 3, 4])) ∧ Hid (Below w.heap.size w w') := by
  have h := shape_any false (some ⟨gc, 0, none⟩) (some ⟨ge, 0, none⟩) 4 1 pC1 [0] w (by decide) (by decide) (by decide) (by decide) (by decide) (hide_ (blk_grow inc_len hc)) (hide_ (Blk.row (k := .i64) (l := [0]) he))
  refine Calls.mono h ?_
  rintro e w' ⟨h1, ⟨-, -, -, -, g, rfl, -, hb⟩ | ⟨hv, -⟩⟩
  · rw [sh1] at hb
    exact ⟨g, rfl, hide_ hb, hide_ h1⟩
  · rw [vf1] at hv
    exact absurd rfl hv
theorem first_p (gc ge : Nat) (w : World) (hc : Blk w gc 37 (cellsG inc pC1)) (he : Blk w ge 3 [.int .i64 0]) :
    Calls Try.prog 8 #[.agg #[.bool false, .slice (some ⟨gc, 0, none⟩) 4 4, .slice (some ⟨ge, 0, none⟩) 1 1]] w fun e w' => e = .returned (.agg #[.int .i64 0, .int .i64 0]) ∧ Below w.heap.size w w' := by
  have h := verify_any false (some ⟨gc, 0, none⟩) (some ⟨ge, 0, none⟩) 4 1 pC1 [0] w (by decide) (by decide) (by decide) (by decide) (by decide) (hide_ (blk_grow inc_len hc)) (hide_ (Blk.row (k := .i64) (l := [0]) he))
  rw [vf1] at h
  exact h
theorem first_q (gc ge : Nat) (w : World) (hc : Blk w gc 37 (cellsG inc pC2)) (he : Blk w ge 3 [.int .i64 0]) :
    Calls Try.prog 8 #[.agg #[.bool false, .slice (some ⟨gc, 0, none⟩) 3 3, .slice (some ⟨ge, 0, none⟩) 1 1]] w fun e w' => e = .returned (.agg #[.int .i64 150, .int .i64 1]) ∧ Below w.heap.size w w' := by
  have h := verify_any false (some ⟨gc, 0, none⟩) (some ⟨ge, 0, none⟩) 3 1 pC2 [0] w (by decide) (by decide) (by decide) (by decide) (by decide) (hide_ (blk_grow inc_len hc)) (hide_ (Blk.row (k := .i64) (l := [0]) he))
  rw [vf2] at h
  exact h
theorem first_e (gc ge : Nat) (w : World) (hc : Blk w gc 37 (cellsG inc pC3)) (he : Blk w ge 3 [.int .i64 0]) :
    Calls Try.prog 8 #[.agg #[.bool true, .slice (some ⟨gc, 0, none⟩) 4 4, .slice (some ⟨ge, 0, none⟩) 1 1]] w fun e w' => e = .returned (.agg #[.int .i64 150, .int .i64 1]) ∧ Below w.heap.size w w' := by
  have h := verify_any true (some ⟨gc, 0, none⟩) (some ⟨ge, 0, none⟩) 4 1 pC3 [0] w (by decide) (by decide) (by decide) (by decide) (by decide) (hide_ (blk_grow inc_len hc)) (hide_ (Blk.row (k := .i64) (l := [0]) he))
  rw [vf3] at h
  exact h
theorem blk3w (w : World) (xs ys zs : Array Value) (t t' t'' : TypeId) {w' : World} (h : ((w.alloc (.cells xs t)).alloc (.cells ys t')).alloc (.cells zs t'') = w') : Blk w' w.heap.size t xs.toList ∧ Blk w' (w.heap.size + 1) t' ys.toList ∧ Blk w' (w.heap.size + 1 + 1) t'' zs.toList ∧ Below w.heap.size w w' := by
  obtain ⟨a, b⟩ := blk2 w xs ys t t'
  rw [← h]
  refine ⟨a.alloc _, b.alloc _, ?_, (below2 _ _ _).alloc (by simp; omega) _⟩
  have := Blk.newA ((w.alloc (.cells xs t)).alloc (.cells ys t')) zs t''
  simpa using this
set_option maxRecDepth 100000 in
set_option maxHeartbeats 16000000 in
theorem first15_any (w : World) : Calls Try.prog 5 #[] w fun e w' => e = .returned (.bool true) ∧ Below w.heap.size w w' := by
  obtain ⟨w1, hw1⟩ : ∃ wx, ((w.alloc (.cells #[.int .i64 6, .int .i64 0, .int .i64 0, .int .i64 0, .int .i64 1, .int .i64 1, .int .i64 1, .int .i64 0, .int .i64 1, .int .i64 0, .int .i64 1, .int .i64 0, .int .i64 20, .int .i64 0, .int .i64 0, .int .i64 0] 37)).alloc (.cells #[.int .i64 0] 3)).alloc (.cells #[.bool false, .slice (some ⟨w.heap.size, 0, none⟩) 4 4, .slice (some ⟨w.heap.size + 1, 0, none⟩) 1 1] 25) = wx := ⟨_, rfl⟩
  obtain ⟨a1, a2, a3, a4⟩ := blk3w _ _ _ _ _ _ _ hw1
  have p0 := a3.cell 0; have p1 := a3.cell 1; have p2 := a3.cell 2
  simp at p0 p1 p2
  have HSh := hide_ (first_shape w.heap.size (w.heap.size + 1) w1 a1 a2)
  have HA1 := hide_ a1
  have HA2 := hide_ a2
  have HA3 := hide_ a3
  have HB1 := hide_ a4
  clear a1 a2 a3 a4
  go_enter Try.func5, Try.ntmps5
  go_upto_region 2 with fail
  try rw [hw1]
  clear hw1
  go_wp2_with fail
  refine HSh.out.mono ?_
  rintro e w2 ⟨g, rfl, HG2, HB2⟩
  clear HSh p0 p1 p2
  go_upto_region 3 with fail
  obtain ⟨w3, hw3⟩ : ∃ wx, w2.alloc (.cells #[.int .i64 0, .int .i64 0] 30) = wx := ⟨_, rfl⟩
  have hB3 : Below w2.heap.size w2 w3 := by rw [← hw3]; exact below1 _ _
  have hK3 : Blk w3 w2.heap.size 30 [.int .i64 0, .int .i64 0] := by rw [← hw3]; exact Blk.newA _ _ _
  try rw [hw3]
  clear hw3
  have HK3 := hide_ hK3
  have HG3 := hide_ (HG2.out.later hB3)
  have HA13 := hide_ ((HA1.out.later HB2.out).later hB3)
  have HA23 := hide_ ((HA2.out.later HB2.out).later hB3)
  have HA33 := hide_ ((HA3.out.later HB2.out).later hB3)
  have HB3 := hide_ (below_to (below_to HB1.out HB2.out) hB3)
  obtain ⟨qf, hqf⟩ : ∃ qf, w2.heap.size = qf := ⟨_, rfl⟩
  rw [hqf] at HK3 ⊢
  clear hK3 hB3 hqf HG2 HA1 HA2 HA3 HB1 HB2
  go_upto_region 4 with fail
  obtain ⟨w4, hw4⟩ : ∃ wx, ((w3.alloc (.cells #[.int .i64 1, .int .i64 (-1), .int .i64 2, .int .i64 0, .int .i64 1, .int .i64 (-1), .int .i64 2, .int .i64 0, .int .i64 20, .int .i64 0, .int .i64 0, .int .i64 0] 37)).alloc (.cells #[.int .i64 0] 3)).alloc (.cells #[.bool false, .slice (some ⟨w3.heap.size, 0, none⟩) 3 3, .slice (some ⟨w3.heap.size + 1, 0, none⟩) 1 1] 25) = wx := ⟨_, rfl⟩
  obtain ⟨b1, b2, b3, b4⟩ := blk3w _ _ _ _ _ _ _ hw4
  try rw [hw4]
  clear hw4
  obtain ⟨q3, hq3⟩ : ∃ q3, w3.heap.size = q3 := ⟨_, rfl⟩
  rw [hq3] at b1 b2 b3 ⊢
  have HK4 := hide_ (HK3.out.later b4)
  have HG4 := hide_ (HG3.out.later b4)
  have HA14 := hide_ (HA13.out.later b4)
  have HA24 := hide_ (HA23.out.later b4)
  have HA34 := hide_ (HA33.out.later b4)
  have HB4 := hide_ (below_to HB3.out b4)
  have Hb1 := hide_ b1
  have Hb2 := hide_ b2
  have Hb3 := hide_ b3
  clear b1 b2 b3 b4 hq3 HK3 HG3 HA13 HA23 HA33 HB3
  go_upto_region 5 with fail
  obtain ⟨w5, hw5⟩ : ∃ wx, ((w4.alloc (.cells #[.int .i64 38, .int .i64 3, .int .i64 0, .int .i64 0, .int .i64 33, .int .i64 (-1), .int .i64 1, .int .i64 0, .int .i64 47, .int .i64 0, .int .i64 1, .int .i64 0, .int .i64 20, .int .i64 0, .int .i64 0, .int .i64 0] 37)).alloc (.cells #[.int .i64 0] 3)).alloc (.cells #[.bool true, .slice (some ⟨w4.heap.size, 0, none⟩) 4 4, .slice (some ⟨w4.heap.size + 1, 0, none⟩) 1 1] 25) = wx := ⟨_, rfl⟩
  obtain ⟨b1, b2, b3, b4⟩ := blk3w _ _ _ _ _ _ _ hw5
  try rw [hw5]
  clear hw5
  obtain ⟨q4, hq4⟩ : ∃ q4, w4.heap.size = q4 := ⟨_, rfl⟩
  rw [hq4] at b1 b2 b3 ⊢
  have f0 := (HK4.out.later b4).cell 0
  have f1 := (HK4.out.later b4).cell 1
  simp at f0 f1
  obtain ⟨w6, hw6⟩ : ∃ wx, w5.alloc (.cells #[.int .i64 0, .int .i64 2, .int .i64 3, .int .i64 4] 3) = wx := ⟨_, rfl⟩
  have hB6 : Below w5.heap.size w5 w6 := by rw [← hw6]; exact below1 _ _
  have hK6 : Blk w6 w5.heap.size 3 (cellsL .i64 [0, 2, 3, 4]) := by rw [← hw6]; exact Blk.newA _ _ _
  have hBA := below_to b4 hB6
  have HIn := hide_ (ints_any (some ⟨g, 0, none⟩) (some ⟨w5.heap.size, 0, none⟩) 4 4 [0, 2, 3, 4] [0, 2, 3, 4] w6 (by decide) (by decide) (hide_ ((HG4.out.later hBA).row)) (hide_ hK6.row))
  have HB6 := hide_ (below_to HB4.out hBA)
  have HA16 := hide_ (HA14.out.later hBA)
  have HA26 := hide_ (HA24.out.later hBA)
  have HA36 := hide_ (HA34.out.later hBA)
  have HC1 := hide_ (Hb1.out.later hBA)
  have HC2 := hide_ (Hb2.out.later hBA)
  have HC3 := hide_ (Hb3.out.later hBA)
  have HD1 := hide_ (b1.later hB6)
  have HD2 := hide_ (b2.later hB6)
  have HD3 := hide_ (b3.later hB6)
  clear b1 b2 b3 b4 hq4 hB6 hK6 hBA HK4 HG4 HA14 HA24 HA34 HB4 Hb1 Hb2 Hb3
  go_wp2_with fail
  try rw [hw6]
  clear hw6 f0 f1
  refine HIn.out.mono ?_
  rintro e w7 ⟨rfl, hB7⟩
  have p0 := (HA36.out.later hB7).cell 0; have p1 := (HA36.out.later hB7).cell 1; have p2 := (HA36.out.later hB7).cell 2
  simp at p0 p1 p2
  have HV1 := hide_ (first_p w.heap.size (w.heap.size + 1) w7 (HA16.out.later hB7) (HA26.out.later hB7))
  have HB7 := hide_ (below_to HB6.out hB7)
  have HE1 := hide_ (HC1.out.later hB7)
  have HE2 := hide_ (HC2.out.later hB7)
  have HE3 := hide_ (HC3.out.later hB7)
  have HF1 := hide_ (HD1.out.later hB7)
  have HF2 := hide_ (HD2.out.later hB7)
  have HF3 := hide_ (HD3.out.later hB7)
  clear hB7 HIn HA16 HA26 HA36 HB6 HC1 HC2 HC3 HD1 HD2 HD3
  go_wp2_with fail
  refine HV1.out.mono ?_
  rintro e w8 ⟨rfl, hB8⟩
  clear p0 p1 p2
  have p0 := (HE3.out.later hB8).cell 0; have p1 := (HE3.out.later hB8).cell 1; have p2 := (HE3.out.later hB8).cell 2
  simp at p0 p1 p2
  have HV2 := hide_ (first_q q3 (q3 + 1) w8 (HE1.out.later hB8) (HE2.out.later hB8))
  have HB8 := hide_ (below_to HB7.out hB8)
  have HH1 := hide_ (HF1.out.later hB8)
  have HH2 := hide_ (HF2.out.later hB8)
  have HH3 := hide_ (HF3.out.later hB8)
  clear hB8 HV1 HE1 HE2 HE3 HF1 HF2 HF3 HB7
  go_wp2_with fail
  refine HV2.out.mono ?_
  rintro e w9 ⟨rfl, hB9⟩
  clear p0 p1 p2
  have p0 := (HH3.out.later hB9).cell 0; have p1 := (HH3.out.later hB9).cell 1; have p2 := (HH3.out.later hB9).cell 2
  simp at p0 p1 p2
  have HV3 := hide_ (first_e q4 (q4 + 1) w9 (HH1.out.later hB9) (HH2.out.later hB9))
  have HB9 := hide_ (below_to HB8.out hB9)
  clear hB9 HV2 HH1 HH2 HH3 HB8
  go_wp2_with fail
  refine HV3.out.mono ?_
  rintro e w10 ⟨rfl, hB10⟩
  have HB10 := hide_ (below_to HB9.out hB10)
  clear hB10 p0 p1 p2
  go_wp2_with fail
  go_ret
  exact ⟨rfl, HB10.out⟩
end Go.Proofs.Ytiojpohmgjdgfaa
