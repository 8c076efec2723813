import Derived.Test.YtjamfbpdepahnaaGreatPart41
import Derived.Test.YtjamfbpdepahnaaGreatPart39
namespace Go.Proofs.YtjamfbpdepahnaaGreat
open Go.RowKit
set_option linter.unusedVariables false
set_option linter.unusedSimpArgs false
def HR (enc : Bool) (C : List In) (a b : Nat × St) : Prop := ∃ (w : Nat) (y : Int), (waysP C a.1)[w]? = some y ∧ b = (y.toNat, mHd enc a.2 (inA C a.1) (w : Int))
def Hd (enc : Bool) (C : List In) (e : Int) (k : Nat) (s : St) : Prop := Wy (HR enc C) (e.toNat, mBg enc) (k, s)
structure FsOk (enc : Bool) (C : List In) (E : List Int) : Prop where
  st : ∀ r k s, r < E.length → Hd enc C (E.getD r 0) k s → mSt enc s (inA C k) (r : Int) = true ∧ Inn C k
  sm : ∀ q r k s t, q < E.length → r < E.length → Hd enc C (E.getD q 0) k s → Hd enc C (E.getD r 0) k t → sameH enc C k s t = true
theorem Hd.step {enc : Bool} {C : List In} {e : Int} {k w : Nat} {y : Int} {s : St} (h : Hd enc C e k s) (hw : (waysP C k)[w]? = some y) : Hd enc C e y.toNat (mHd enc s (inA C k) (w : Int)) :=
  Wy.snoc h ⟨w, y, hw, rfl⟩
theorem sameH_iff {enc : Bool} {C : List In} {k : Nat} {s t : St} : sameH enc C k s t = true ↔ ∀ w, w < (waysP C k).length → mHd enc s (inA C k) (w : Int) = mHd enc t (inA C k) (w : Int) := by
  unfold sameH
  rw [List.all_eq_true]
  constructor
  · intro h w hw
    exact (stEq_iff _ _).1 (h w (List.mem_range.2 hw))
  · intro h w hw
    exact (stEq_iff _ _).2 (h w (List.mem_range.1 hw))
theorem sameH.refl (enc : Bool) (C : List In) (k : Nat) (s : St) : sameH enc C k s s = true := sameH_iff.2 fun _ _ => rfl
theorem sameH.symm {enc : Bool} {C : List In} {k : Nat} {s t : St} (h : sameH enc C k s t = true) : sameH enc C k t s = true := sameH_iff.2 fun w hw => (sameH_iff.1 h w hw).symm
theorem sameH.trans {enc : Bool} {C : List In} {k : Nat} {s t u : St} (h : sameH enc C k s t = true) (h2 : sameH enc C k t u = true) : sameH enc C k s u = true := sameH_iff.2 fun w hw => (sameH_iff.1 h w hw).trans (sameH_iff.1 h2 w hw)
theorem mSt_mono {enc : Bool} {s : St} {x : In} {r q : Int} (hr : r ≤ q) (h : mSt enc s x r = true) : mSt enc s x q = true := by
  unfold mSt at *
  cases enc
  · simp only [Bool.false_eq_true, if_false] at *
    unfold dSt at *
    repeat' split
    all_goals simp_all
    all_goals omega
  · simp only [if_true] at *
    unfold eSt at *
    repeat' split
    all_goals simp_all
    all_goals omega
structure LkI (enc : Bool) (C : List In) (E : List Int) (r : Nat) (S : List St) (P : List Int) : Prop where
  pnd : Pnd C.length S P
  own : ∀ k, (stA S k).pl ≠ 0 → ∃ q, q ≤ r ∧ Hd enc C (E.getD q 0) k (stA S k)
  pen : ∀ x ∈ P, Hd enc C (E.getD r 0) x.toNat (stA S x.toNat)
section
variable {enc : Bool} {C : List In} {E : List Int} {r : Nat}
theorem handP_lki {S : List St} {P : List Int} (h : LkI enc C E r S P) {k : Nat} (hk : k < C.length) {s : St} (hs : s.pl ≠ 0) (hh : Hd enc C (E.getD r 0) k s) :
    LkI enc C E r (handP enc C (r : Int) S P k s).2.1 (handP enc C (r : Int) S P k s).2.2 := by
  have h1 := handP_ok (enc := enc) (C := C) (r := (r : Int)) h.pnd hk hs
  refine ⟨h1.1, ?_, ?_⟩
  · unfold handP
    split
    · exact h.own
    split
    · intro j hj
      have hj : (stA (S.set k s) j).pl ≠ 0 := hj
      show ∃ q, q ≤ r ∧ Hd enc C (E.getD q 0) j (stA (S.set k s) j)
      rw [stA_set (by rw [h.pnd.len]; exact hk)] at hj ⊢
      by_cases e : j = k
      · rw [if_pos e, e]
        exact ⟨r, Nat.le_refl _, hh⟩
      · rw [if_neg e] at hj ⊢
        exact h.own j hj
    · exact h.own
  · unfold handP
    split
    · exact h.pen
    split
    · rename_i hz
      intro x hx
      have hx : x ∈ pushH P (k : Int) := hx
      show Hd enc C (E.getD r 0) x.toNat (stA (S.set k s) x.toNat)
      rw [stA_set (by rw [h.pnd.len]; exact hk)]
      rcases (push_mem h.pnd.hp _ _).1 hx with e | hx
      · rw [e, Int.toNat_natCast, if_pos rfl]
        exact hh
      · by_cases e : x.toNat = k
        · rw [if_pos e, e]
          exact hh
        · rw [if_neg e]
          exact h.pen x hx
    · exact h.pen
theorem handP_yes (hF : FsOk enc C E) (hr : r < E.length) {S : List St} {P : List Int} (h : LkI enc C E r S P) {k : Nat} {s : St} (hh : Hd enc C (E.getD r 0) k s) : (handP enc C (r : Int) S P k s).1 = true := by
  unfold handP
  split
  · rfl
  split
  · rfl
  · rename_i h1 h2
    show (mSt enc s (inA C k) (r : Int) && sameH enc C k (stA S k) s) = true
    rw [Bool.and_eq_true]
    refine ⟨(hF.st r k s hr hh).1, ?_⟩
    obtain ⟨q, hq, ho⟩ := h.own k h2
    exact hF.sm q r k _ _ (by omega) hr ho hh
theorem handsP_yes (hF : FsOk enc C E) (hr : r < E.length) {k : Nat} {s : St} (hs : s.pl ≠ 0) (hh : Hd enc C (E.getD r 0) k s) (hI : Inn C k) : ∀ (ws : List Int) (way : Nat) {S : List St} {P : List Int}, LkI enc C E r S P → (∀ i y, ws[i]? = some y → (waysP C k)[way + i]? = some y) →
    (handsP enc C (r : Int) s (inA C k) ws way S P).1 = 1048576 ∧ LkI enc C E r (handsP enc C (r : Int) s (inA C k) ws way S P).2.1 (handsP enc C (r : Int) s (inA C k) ws way S P).2.2
  | [], _, S, P, h, _ => ⟨rfl, h⟩
  | n :: ws, way, S, P, h, hw => by
    have h0 := hw 0 n rfl
    have h1 := hI n (List.mem_of_getElem? h0)
    rw [Nat.add_zero] at h0
    have hh2 := hh.step h0
    have hp := mHd_pl enc hs (inA C k) (way : Int)
    rw [handsP, if_pos (handP_yes hF hr h hh2)]
    exact handsP_yes hF hr hs hh hI ws (way + 1) (handP_lki h (by omega) hp hh2) (fun i y hy => by
      have := hw (i + 1) y (by simpa using hy)
      rw [show way + 1 + i = way + (i + 1) by omega]
      exact this)
theorem goP_yes (hW : WIn C) (hF : FsOk enc C E) (hr : r < E.length) : ∀ (f : Nat) {S : List St} {P : List Int}, LkI enc C E r S P → msr S P < f → (goP enc C (r : Int) f S P).1 = 1048576 ∧ LkI enc C E r (goP enc C (r : Int) f S P).2.1 []
  | 0, S, P, _, h => by omega
  | f + 1, S, P, h, hm => by
    by_cases h0 : P = []
    · subst h0
      rw [goP_nil]
      exact ⟨rfl, h⟩
    · rw [goP, if_neg h0]
      have hl0 : 0 < P.length := List.length_pos_iff.2 h0
      obtain ⟨q1, q2, q3, q4, q5⟩ := pop_ok h.pnd h0
      have hmm := pop_mem h.pnd.hp hl0
      have hk : (popH P).1.toNat < C.length := by omega
      have hh := h.pen _ hmm.1
      have hst := hF.st r _ _ hr hh
      have hLI : LkI enc C E r S (popH P).2 := ⟨q1, h.own, fun x hx => h.pen x (hmm.2 x hx)⟩
      have hlook : lookP enc C (r : Int) S (popH P).2 (popH P).1.toNat = handsP enc C (r : Int) (stA S (popH P).1.toNat) (inA C (popH P).1.toNat) (waysP C (popH P).1.toNat) 0 S (popH P).2 := by
        unfold lookP
        rw [if_neg]
        rintro (e | e)
        · rw [hst.1] at e; cases e
        · have := hst.2 _ e; omega
      have hh2 := handsP_yes hF hr q5 hh hst.2 (waysP C (popH P).1.toNat) 0 hLI (fun i y hy => by rw [Nat.zero_add]; exact hy)
      have l1 := lookP_ok (enc := enc) (r := (r : Int)) hW q1 hk q5
      rw [hlook] at l1 ⊢
      rw [if_pos hh2.1]
      exact goP_yes hW hF hr f hh2.2 (by omega)
theorem thruP_yes (hW : WIn C) (hn : C.length ≤ 1048576) (hF : FsOk enc C E) (hr : r < E.length) {S : List St} (h : LkI enc C E r S []) (he : 0 ≤ E.getD r 0 ∧ E.getD r 0 < (C.length : Int)) : (thruP enc C (r : Int) S [] (E.getD r 0).toNat).1 = 1048576 ∧ LkI enc C E r (thruP enc C (r : Int) S [] (E.getD r 0).toNat).2.1 [] := by
  have hh : Hd enc C (E.getD r 0) (E.getD r 0).toNat (mBg enc) := Wy.refl _ _
  unfold thruP
  rw [if_pos (handP_yes hF hr h hh)]
  have h1 := handP_ok (enc := enc) (C := C) (r := (r : Int)) h.pnd (k := (E.getD r 0).toNat) (by omega) (mBg_pl enc)
  refine goP_yes hW hF hr _ (handP_lki h (by omega) (mBg_pl enc) hh) ?_
  have h2 : msr S [] ≤ 2 * C.length := by have := bare_le S; have := h.pnd.len; unfold msr; simp; omega
  have h3 := h1.2.1
  omega
theorem firstP_yes (hW : WIn C) (hn : C.length ≤ 1048576) (hF : FsOk enc C E) (hE : ∀ i, i < E.length → 0 ≤ E.getD i 0 ∧ E.getD i 0 < (C.length : Int)) : ∀ (es : List Int) (r : Nat) {S : List St}, r + es.length = E.length → (∀ i, i < es.length → es.getD i 0 = E.getD (r + i) 0) → Pnd C.length S [] → (∀ k, (stA S k).pl ≠ 0 → ∃ q, q < r ∧ Hd enc C (E.getD q 0) k (stA S k)) → (firstP enc C es r S).1 = 1048576
  | [], r, S, _, _, _, _ => rfl
  | e :: es, r, S, hl, hg, hP, ho => by
    have hlt : r < E.length := by simp at hl; omega
    have he : e = E.getD r 0 := by have := hg 0 (by simp); simpa using this
    have hL : LkI enc C E r S [] := ⟨hP, fun k hk => by obtain ⟨q, a, b⟩ := ho k hk; exact ⟨q, by omega, b⟩, fun x hx => by cases hx⟩
    obtain ⟨t1, t2⟩ := thruP_yes hW hn hF hlt hL (hE r hlt)
    rw [firstP, he, if_pos t1]
    refine firstP_yes hW hn hF hE es (r + 1) (by simp at hl; omega) (fun i hi => ?_) t2.pnd (fun k hk => ?_)
    · have := hg (i + 1) (by simp; omega)
      rw [show r + 1 + i = r + (i + 1) by omega, ← this]
      simp
    · obtain ⟨q, a, b⟩ := t2.own k hk
      exact ⟨q, by omega, b⟩
def Acc (enc : Bool) (C : List In) (S : List St) (r : Nat) (y : Nat) (s : St) : Prop := (stA S y).pl ≠ 0 ∧ (stA S y = s ∨ (mSt enc s (inA C y) (r : Int) = true ∧ sameH enc C y (stA S y) s = true))
def Lked (enc : Bool) (C : List In) (S : List St) (r : Nat) (k : Nat) : Prop := mSt enc (stA S k) (inA C k) (r : Int) = true ∧ Inn C k ∧ ∀ (w : Nat) (y : Int), (waysP C k)[w]? = some y → Acc enc C S r y.toNat (mHd enc (stA S k) (inA C k) (w : Int))
def Kp2 (S S' : List St) : Prop := ∀ j, (stA S j).pl ≠ 0 → stA S' j = stA S j
theorem Acc.kp {S S' : List St} {y : Nat} {s : St} (h : Acc enc C S r y s) (k : Kp2 S S') : Acc enc C S' r y s := by
  unfold Acc at *
  rw [k y h.1]
  exact h
theorem Lked.kp {S S' : List St} {y : Nat} (h : Lked enc C S r y) (k : Kp2 S S') (hy : (stA S y).pl ≠ 0) : Lked enc C S' r y := by
  refine ⟨by rw [k y hy]; exact h.1, h.2.1, fun w z hz => ?_⟩
  rw [k y hy]
  exact (h.2.2 w z hz).kp k
theorem Acc.up {S : List St} {y q : Nat} {s : St} (hq : r ≤ q) (h : Acc enc C S r y s) : Acc enc C S q y s := by
  refine ⟨h.1, ?_⟩
  rcases h.2 with h | ⟨h, h2⟩
  · exact .inl h
  · exact .inr ⟨mSt_mono (by omega) h, h2⟩
theorem Lked.up {S : List St} {y q : Nat} (hq : r ≤ q) (h : Lked enc C S r y) : Lked enc C S q y :=
  ⟨mSt_mono (by omega) h.1, h.2.1, fun w z hz => (h.2.2 w z hz).up hq⟩
theorem handP_acc {S : List St} {P : List Int} (h : Pnd C.length S P) {k : Nat} (hk : k < C.length) {s : St} (hs : s.pl ≠ 0) (ht : (handP enc C (r : Int) S P k s).1 = true) :
    Kp2 S (handP enc C (r : Int) S P k s).2.1 ∧ Acc enc C (handP enc C (r : Int) S P k s).2.1 r k s ∧ (∀ x ∈ P, x ∈ (handP enc C (r : Int) S P k s).2.2) ∧ ∀ j, (stA (handP enc C (r : Int) S P k s).2.1 j).pl ≠ 0 → (stA S j).pl ≠ 0 ∨ (j : Int) ∈ (handP enc C (r : Int) S P k s).2.2 := by
  have h4 := (handP_ok (enc := enc) (C := C) (r := (r : Int)) h hk hs).2.2.2
  refine ⟨h4, ?_⟩
  clear h4
  revert ht
  unfold handP
  split
  · rename_i he
    intro _
    have he := (stEq_iff _ _).1 he
    exact ⟨⟨by rw [he]; exact hs, .inl he⟩, fun x hx => hx, fun j hj => .inl hj⟩
  split
  · intro _
    refine ⟨?_, fun x hx => (push_mem h.hp _ _).2 (.inr hx), fun j hj => ?_⟩
    · show (stA (S.set k s) k).pl ≠ 0 ∧ (stA (S.set k s) k = s ∨ _)
      rw [stA_set (by rw [h.len]; exact hk), if_pos rfl]
      exact ⟨hs, .inl rfl⟩
    · have hj : (stA (S.set k s) j).pl ≠ 0 := hj
      rw [stA_set (by rw [h.len]; exact hk)] at hj
      by_cases e : j = k
      · right
        exact (push_mem h.hp _ _).2 (.inl (by rw [e]))
      · rw [if_neg e] at hj
        exact .inl hj
  · rename_i h1 h2
    intro ht
    have ht : (mSt enc s (inA C k) (r : Int) && sameH enc C k (stA S k) s) = true := ht
    rw [Bool.and_eq_true] at ht
    exact ⟨⟨h2, .inr ht⟩, fun x hx => hx, fun j hj => .inl hj⟩
theorem handsP_acc (hn : C.length ≤ 1048576) {s : St} (hs : s.pl ≠ 0) (x : In) : ∀ (ws : List Int) (way : Nat) {S : List St} {P : List Int}, Pnd C.length S P → (∀ y ∈ ws, 0 ≤ y ∧ y < (C.length : Int)) → (handsP enc C (r : Int) s x ws way S P).1 = 1048576 →
    Kp2 S (handsP enc C (r : Int) s x ws way S P).2.1 ∧ (∀ (i : Nat) (y : Int), ws[i]? = some y → Acc enc C (handsP enc C (r : Int) s x ws way S P).2.1 r y.toNat (mHd enc s x ((way + i : Nat) : Int))) ∧ (∀ z ∈ P, z ∈ (handsP enc C (r : Int) s x ws way S P).2.2) ∧ ∀ j, (stA (handsP enc C (r : Int) s x ws way S P).2.1 j).pl ≠ 0 → (stA S j).pl ≠ 0 ∨ (j : Int) ∈ (handsP enc C (r : Int) s x ws way S P).2.2
  | [], _, S, P, _, _, _ => ⟨fun _ _ => rfl, fun i y h => by simp at h, fun z hz => hz, fun j hj => .inl hj⟩
  | n :: ws, way, S, P, hP, hw, hz => by
    have h1 := hw n (by simp)
    have hk : n.toNat < C.length := by omega
    have hp := mHd_pl enc hs x (way : Int)
    rw [handsP] at hz ⊢
    by_cases ht : (handP enc C (r : Int) S P n.toNat (mHd enc s x (way : Int))).1 = true
    · rw [if_pos ht] at hz ⊢
      obtain ⟨a1, a2, a3, a4⟩ := handP_acc hP hk hp ht
      obtain ⟨b1, b2, b3, b4⟩ := handsP_acc hn hs x ws (way + 1) (handP_ok (enc := enc) (C := C) (r := (r : Int)) hP hk hp).1 (fun y hy => hw y (by simp [hy])) hz
      refine ⟨fun j hj => ?_, fun i y hy => ?_, fun z hz => b3 z (a3 z hz), fun j hj => ?_⟩
      · rw [b1 j (by rw [a1 j hj]; exact hj), a1 j hj]
      · cases i with
        | zero =>
          have : n = y := by simpa using hy
          subst this
          exact a2.kp b1
        | succ i =>
          have := b2 i y (by simpa using hy)
          rw [show way + (i + 1) = way + 1 + i by omega]
          exact this
      · rcases b4 j hj with h | h
        · rcases a4 j h with h | h
          · exact .inl h
          · exact .inr (b3 _ h)
        · exact .inr h
    · rw [if_neg ht] at hz
      have hz : n = 1048576 := hz
      omega
def Dne (enc : Bool) (C : List In) (r : Nat) (S : List St) (P : List Int) : Prop := ∀ k, (stA S k).pl ≠ 0 → (k : Int) ∈ P ∨ Lked enc C S r k
theorem handsP_lki {k : Nat} {s : St} (hs : s.pl ≠ 0) (hh : Hd enc C (E.getD r 0) k s) (hI : Inn C k) : ∀ (ws : List Int) (way : Nat) {S : List St} {P : List Int}, LkI enc C E r S P → (∀ i y, ws[i]? = some y → (waysP C k)[way + i]? = some y) → LkI enc C E r (handsP enc C (r : Int) s (inA C k) ws way S P).2.1 (handsP enc C (r : Int) s (inA C k) ws way S P).2.2
  | [], _, S, P, h, _ => h
  | n :: ws, way, S, P, h, hw => by
    have h0 := hw 0 n rfl
    have h1 := hI n (List.mem_of_getElem? h0)
    rw [Nat.add_zero] at h0
    rw [handsP]
    split
    · exact handsP_lki hs hh hI ws (way + 1) (handP_lki h (by omega) (mHd_pl enc hs (inA C k) (way : Int)) (hh.step h0)) (fun i y hy => by
        have := hw (i + 1) y (by simpa using hy)
        rw [show way + 1 + i = way + (i + 1) by omega]
        exact this)
    · exact h
theorem goP_acc (hW : WIn C) (hn : C.length ≤ 1048576) : ∀ (f : Nat) {S : List St} {P : List Int}, Pnd C.length S P → msr S P < f → Dne enc C r S P → LkI enc C E r S P → (goP enc C (r : Int) f S P).1 = 1048576 →
    Kp2 S (goP enc C (r : Int) f S P).2.1 ∧ Pnd C.length (goP enc C (r : Int) f S P).2.1 [] ∧ Dne enc C r (goP enc C (r : Int) f S P).2.1 [] ∧ LkI enc C E r (goP enc C (r : Int) f S P).2.1 []
  | 0, S, P, _, h, _, _, _ => by omega
  | f + 1, S, P, hN, hm, hD, hL, hz => by
    by_cases h0 : P = []
    · subst h0
      rw [goP_nil]
      exact ⟨fun _ _ => rfl, hN, hD, hL⟩
    · rw [goP, if_neg h0] at hz ⊢
      have hl0 : 0 < P.length := List.length_pos_iff.2 h0
      obtain ⟨q1, q2, q3, q4, q5⟩ := pop_ok hN h0
      have hmm := pop_mem hN.hp hl0
      have hk : (popH P).1.toNat < C.length := by omega
      have l1 := lookP_ok (enc := enc) (r := (r : Int)) hW q1 hk q5
      by_cases hy : (lookP enc C (r : Int) S (popH P).2 (popH P).1.toNat).1 = 1048576
      · rw [if_pos hy] at hz ⊢
        have hlook : mSt enc (stA S (popH P).1.toNat) (inA C (popH P).1.toNat) (r : Int) = true ∧ Inn C (popH P).1.toNat ∧ lookP enc C (r : Int) S (popH P).2 (popH P).1.toNat = handsP enc C (r : Int) (stA S (popH P).1.toNat) (inA C (popH P).1.toNat) (waysP C (popH P).1.toNat) 0 S (popH P).2 := by
          unfold lookP at hy ⊢
          by_cases hq : mSt enc (stA S (popH P).1.toNat) (inA C (popH P).1.toNat) (r : Int) = false ∨ (C.length : Int) ∈ waysP C (popH P).1.toNat
          · rw [if_pos hq] at hy
            have hy : ((popH P).1.toNat : Int) = 1048576 := hy
            omega
          · rw [if_neg hq]
            refine ⟨?_, fun y hy => ?_, rfl⟩
            · cases h : mSt enc (stA S (popH P).1.toNat) (inA C (popH P).1.toNat) (r : Int) with
              | true => rfl
              | false => exact absurd (.inl h) hq
            · have h2 := hW _ hk y hy
              have h3 : y ≠ (C.length : Int) := fun e => hq (.inr (e ▸ hy))
              omega
        obtain ⟨m1, m2, m3⟩ := hlook
        rw [m3] at hy l1 hz ⊢
        obtain ⟨b1, b2, b3, b4⟩ := handsP_acc hn q5 (inA C (popH P).1.toNat) _ 0 q1 m2 hy
        have hLI : LkI enc C E r S (popH P).2 := ⟨q1, hL.own, fun x hx => hL.pen x (hmm.2 x hx)⟩
        have hLI2 : LkI enc C E r (handsP enc C (r : Int) (stA S (popH P).1.toNat) (inA C (popH P).1.toNat) (waysP C (popH P).1.toNat) 0 S (popH P).2).2.1 (handsP enc C (r : Int) (stA S (popH P).1.toNat) (inA C (popH P).1.toNat) (waysP C (popH P).1.toNat) 0 S (popH P).2).2.2 :=
          handsP_lki q5 (hL.pen _ hmm.1) m2 _ 0 hLI (fun i y hy => by rw [Nat.zero_add]; exact hy)
        have hDn : Dne enc C r (handsP enc C (r : Int) (stA S (popH P).1.toNat) (inA C (popH P).1.toNat) (waysP C (popH P).1.toNat) 0 S (popH P).2).2.1 (handsP enc C (r : Int) (stA S (popH P).1.toNat) (inA C (popH P).1.toNat) (waysP C (popH P).1.toNat) 0 S (popH P).2).2.2 := fun j hj => by
          rcases b4 j hj with h | h
          · by_cases e : j = (popH P).1.toNat
            · right
              rw [e]
              refine ⟨by rw [b1 _ q5]; exact m1, m2, fun w y hy => ?_⟩
              rw [b1 _ q5]
              have := b2 w y hy
              rw [Nat.zero_add] at this
              exact this
            · rcases hD j h with h2 | h2
              · rcases pop_rest hN.hp hl0 h2 with h3 | h3
                · omega
                · exact .inl (b3 _ h3)
              · exact .inr (h2.kp b1 h)
          · exact .inl h
        obtain ⟨g1, g2, g3, g4⟩ := goP_acc hW hn f l1.1 (by omega) hDn hLI2 hz
        refine ⟨fun j hj => ?_, g2, g3, g4⟩
        rw [g1 j (by rw [b1 j hj]; exact hj), b1 j hj]
      · rw [if_neg hy] at hz
        exact absurd hz hy
def Res (enc : Bool) (C : List In) (E : List Int) (S : List St) (q : Nat) : Prop := ∀ k s, Hd enc C (E.getD q 0) k s → mSt enc s (inA C k) (q : Int) = true ∧ Inn C k ∧ (stA S k).pl ≠ 0 ∧ sameH enc C k (stA S k) s = true
theorem Res.kp {S S' : List St} {q : Nat} (h : Res enc C E S q) (k : Kp2 S S') : Res enc C E S' q := fun j s hj => by
  obtain ⟨a, b, c, d⟩ := h j s hj
  rw [k j c]
  exact ⟨a, b, c, d⟩
theorem thruP_acc (hW : WIn C) (hn : C.length ≤ 1048576) {S : List St} (hP : Pnd C.length S []) (hD : Dne enc C r S []) (hL : LkI enc C E r S []) (he : 0 ≤ E.getD r 0 ∧ E.getD r 0 < (C.length : Int)) (hz : (thruP enc C (r : Int) S [] (E.getD r 0).toNat).1 = 1048576) :
    Kp2 S (thruP enc C (r : Int) S [] (E.getD r 0).toNat).2.1 ∧ Pnd C.length (thruP enc C (r : Int) S [] (E.getD r 0).toNat).2.1 [] ∧ Dne enc C r (thruP enc C (r : Int) S [] (E.getD r 0).toNat).2.1 [] ∧ LkI enc C E r (thruP enc C (r : Int) S [] (E.getD r 0).toNat).2.1 [] ∧ Res enc C E (thruP enc C (r : Int) S [] (E.getD r 0).toNat).2.1 r := by
  have hh : Hd enc C (E.getD r 0) (E.getD r 0).toNat (mBg enc) := Wy.refl _ _
  have hk : (E.getD r 0).toNat < C.length := by omega
  unfold thruP at hz ⊢
  by_cases ht : (handP enc C (r : Int) S [] (E.getD r 0).toNat (mBg enc)).1 = true
  · rw [if_pos ht] at hz ⊢
    obtain ⟨a1, a2, a3, a4⟩ := handP_acc hP hk (mBg_pl enc) ht
    have h1 := handP_ok (enc := enc) (C := C) (r := (r : Int)) hP hk (mBg_pl enc)
    have h2 : msr S [] ≤ 2 * C.length := by have := bare_le S; have := hP.len; unfold msr; simp; omega
    have h3 := h1.2.1
    obtain ⟨g1, g2, g3, g4⟩ := goP_acc (E := E) hW hn (2 * C.length + 2) h1.1 (by omega) (fun j hj => by
      rcases a4 j hj with h | h
      · rcases hD j h with h2 | h2
        · cases h2
        · exact .inr (h2.kp a1 h)
      · exact .inl h) (handP_lki hL hk (mBg_pl enc) hh) hz
    refine ⟨fun j hj => by rw [g1 j (by rw [a1 j hj]; exact hj), a1 j hj], g2, g3, g4, fun k s hks => ?_⟩
    generalize hSe : (goP enc C (r : Int) (2 * C.length + 2) (handP enc C (r : Int) S [] (E.getD r 0).toNat (mBg enc)).2.1 (handP enc C (r : Int) S [] (E.getD r 0).toNat (mBg enc)).2.2).2.1 = S' at g1 g2 g3 g4
    have hA : Acc enc C S' r k s := by
      refine Wy.keep (Q := fun p : Nat × St => Acc enc C S' r p.1 p.2) (fun p q hp hpq => ?_) hks (a2.kp g1)
      obtain ⟨w, y, hw, e⟩ := hpq
      rw [e]
      have hLk : Lked enc C S' r p.1 := by
        rcases g3 p.1 hp.1 with h | h
        · cases h
        · exact h
      have := hLk.2.2 w y hw
      have he : mHd enc (stA S' p.1) (inA C p.1) (w : Int) = mHd enc p.2 (inA C p.1) (w : Int) := by
        rcases hp.2 with h | ⟨-, h⟩
        · rw [h]
        · exact sameH_iff.1 h w (List.getElem?_eq_some_iff.1 hw).1
      rw [he] at this
      exact this
    have hLk : Lked enc C S' r k := by
      rcases g3 k hA.1 with h | h
      · cases h
      · exact h
    refine ⟨?_, hLk.2.1, hA.1, ?_⟩
    · rcases hA.2 with h | ⟨h, -⟩
      · rw [← h]; exact hLk.1
      · exact h
    · rcases hA.2 with h | ⟨-, h⟩
      · rw [h]; exact sameH.refl _ _ _ _
      · exact h
  · rw [if_neg ht] at hz
    have hz : (((E.getD r 0).toNat : Nat) : Int) = 1048576 := hz
    omega
theorem firstP_acc (hW : WIn C) (hn : C.length ≤ 1048576) (hE : ∀ i, i < E.length → 0 ≤ E.getD i 0 ∧ E.getD i 0 < (C.length : Int)) : ∀ (es : List Int) (r : Nat) {S : List St}, r + es.length = E.length → (∀ i, i < es.length → es.getD i 0 = E.getD (r + i) 0) → Pnd C.length S [] → Dne enc C r S [] → (∀ k, (stA S k).pl ≠ 0 → ∃ q, q < r ∧ Hd enc C (E.getD q 0) k (stA S k)) → (∀ q, q < r → Res enc C E S q) → (firstP enc C es r S).1 = 1048576 →
    (∀ q, q < E.length → Res enc C E (firstP enc C es r S).2 q) ∧ (∀ k, (stA (firstP enc C es r S).2 k).pl ≠ 0 → ∃ q, q < E.length ∧ Hd enc C (E.getD q 0) k (stA (firstP enc C es r S).2 k)) ∧ (firstP enc C es r S).2.length = C.length ∧ Kp2 S (firstP enc C es r S).2
  | [], r, S, hl, _, hP, _, ho, hR, _ => by
    have : r = E.length := by simpa using hl
    subst this
    exact ⟨hR, ho, hP.len, fun _ _ => rfl⟩
  | e :: es, r, S, hl, hg, hP, hD, ho, hR, hz => by
    have hlt : r < E.length := by simp at hl; omega
    have he : e = E.getD r 0 := by have := hg 0 (by simp); simpa using this
    have hL : LkI enc C E r S [] := ⟨hP, fun k hk => by obtain ⟨q, a, b⟩ := ho k hk; exact ⟨q, by omega, b⟩, fun x hx => by cases hx⟩
    rw [firstP, he] at hz ⊢
    by_cases ht : (thruP enc C (r : Int) S [] (E.getD r 0).toNat).1 = 1048576
    · rw [if_pos ht] at hz ⊢
      obtain ⟨a1, a2, a3, a4, a5⟩ := thruP_acc hW hn hP hD hL (hE r hlt) ht
      obtain ⟨b1, b2, b3, b4⟩ := firstP_acc hW hn hE es (r + 1) (by simp at hl; omega) (fun i hi => by
        have := hg (i + 1) (by simp; omega)
        rw [show r + 1 + i = r + (i + 1) by omega, ← this]
        simp) a2 (fun j hj => by
          rcases a3 j hj with h | h
          · cases h
          · exact .inr (h.up (by omega))) (fun k hk => by
            obtain ⟨q, a, b⟩ := a4.own k hk
            exact ⟨q, by omega, b⟩) (fun q hq => by
              by_cases e : q = r
              · subst e; exact a5
              · exact (hR q (by omega)).kp a1) hz
      refine ⟨b1, b2, b3, fun j hj => ?_⟩
      rw [b4 j (by rw [a1 j hj]; exact hj), a1 j hj]
    · rw [if_neg ht] at hz
      exact absurd hz ht
theorem stA_rep (n k : Nat) : (stA (List.replicate n st0) k).pl = 0 := by
  unfold stA
  by_cases hk : k < n <;> simp [List.getD, hk, st0]
theorem first_sem (hW : WIn C) (hn : C.length ≤ 1048576) (hE : ∀ i, i < E.length → 0 ≤ E.getD i 0 ∧ E.getD i 0 < (C.length : Int)) :
    ((firstP enc C E 0 (List.replicate C.length st0)).1 = 1048576 ↔ FsOk enc C E) ∧ ((firstP enc C E 0 (List.replicate C.length st0)).1 = 1048576 →
      (firstP enc C E 0 (List.replicate C.length st0)).2.length = C.length ∧ (∀ k, (stA (firstP enc C E 0 (List.replicate C.length st0)).2 k).pl ≠ 0 → ∃ q, q < E.length ∧ Hd enc C (E.getD q 0) k (stA (firstP enc C E 0 (List.replicate C.length st0)).2 k)) ∧
      ∀ q k s, q < E.length → Hd enc C (E.getD q 0) k s → (stA (firstP enc C E 0 (List.replicate C.length st0)).2 k).pl ≠ 0) := by
  have hP : Pnd C.length (List.replicate C.length st0) [] := ⟨by simp, by unfold Hp; simp, fun x hx => (by cases hx)⟩
  have h0 : ∀ k, ¬ (stA (List.replicate C.length st0) k).pl ≠ 0 := fun k h => h (stA_rep _ _)
  have hA := fun hz => firstP_acc (enc := enc) hW hn hE E 0 (S := List.replicate C.length st0) (by omega) (fun i _ => by rw [Nat.zero_add]) hP (fun k hk => absurd hk (h0 k)) (fun k hk => absurd hk (h0 k)) (fun q hq => by omega) hz
  refine ⟨⟨fun hz => ?_, fun hF => ?_⟩, fun hz => ?_⟩
  · obtain ⟨a, b, c, d⟩ := hA hz
    refine ⟨fun r k s hr hh => ?_, fun q r k s t hq hr hs ht => ?_⟩
    · obtain ⟨x, y, -, -⟩ := a r hr k s hh
      exact ⟨x, y⟩
    · exact sameH.trans (sameH.symm (a q hq k s hs).2.2.2) (a r hr k t ht).2.2.2
  · exact firstP_yes hW hn hF hE E 0 (by omega) (fun i _ => by rw [Nat.zero_add]) hP (fun k hk => absurd hk (h0 k))
  · obtain ⟨a, b, c, d⟩ := hA hz
    exact ⟨c, b, fun q k s hq hh => (a q hq k s hh).2.2.1⟩
end
theorem Wyp.mono {α : Type} {R R' : α → α → Prop} {a b : α} (hf : ∀ a b, R a b → R' a b) (h : Wyp R a b) : Wyp R' a b := by
  obtain ⟨c, h1, h2⟩ := h
  exact ⟨c, hf _ _ h1, h2.mono hf⟩
theorem Wyp.flip {α : Type} {R : α → α → Prop} {a b : α} (h : Wyp R a b) : Wyp (fun x y => R y x) b a := by
  obtain ⟨c, h1, h2⟩ := h
  exact h2.flip.trans_rp ⟨a, h1, Wy.refl _ _⟩
structure Sec (C : List In) (E : List Int) (M : Nat → Prop) : Prop where
  ring : ∀ k, M k → ¬ Wyp (beR C E M) k k
  ent : ∀ e ∈ E, ∀ j, Wy (beR C E M) e.toNat j → ¬ idR C E M j
  beh : ∀ x, idR C E M x → ∀ j, Wy (beR C E M) (x + 1) j → ¬ idR C E M j
theorem second_sem {C : List In} {E : List Int} {S : List St} (h : SlH C E S) : secondP C E S = 1048576 ↔ Sec C E (cmP S) := by
  have n9 := h.n9
  have hqu := qu_sem h
  have hbX : ∀ k y, beX C E (fun j => qAt (quP C E S) j = true) k y ↔ beX C E (Qt C E (cmP S)) k y := fun k y => ⟨fun a => a.mono fun j => (hqu j).1, fun a => a.mono fun j => (hqu j).2⟩
  have hbare : ∀ a, cameP S a = true → Stn C.length (bareP C E S (quP C E S) a) := fun a ha y hy => by
    refine (h.in_ a (came_ltS h ha) ha).1 y ?_
    exact beX_way ((bareP_mem ha y).1 hy)
  have hed : ∀ a b, eR (edB C E S (quP C E S)) a b ↔ beR C E (cmP S) a b := fun a b => by
    unfold eR edB beR
    by_cases hc : cameP S a = true
    · rw [if_pos hc, bareP_mem hc, hbX]
      exact ⟨fun x => ⟨hc, x⟩, fun x => x.2⟩
    · rw [if_neg hc]
      exact ⟨fun x => (by cases x), fun x => absurd x.1 hc⟩
  have heS : ∀ k, k < C.length → Stn C.length (edB C E S (quP C E S) k) := fun k _ y hy => by
    unfold edB at hy
    split at hy
    · rename_i hc; exact hbare k hc y hy
    · cases hy
  have hbm : ∀ i z, z ∈ uA (bkP C E S) i ↔ ∃ q : Nat, z = (q : Int) ∧ q < C.length ∧ cameP S q = true ∧ (i : Int) ∈ bareP C E S (quP C E S) q := fun i z => rev_mem (fun k _ hc => hbare k hc) i z
  have hbk : ∀ a b, eR (uA (bkP C E S)) a b ↔ beR C E (cmP S) b a := fun a b => by
    unfold eR
    rw [hbm]
    constructor
    · rintro ⟨q, e, h1, h2, h3⟩
      have e : b = q := by omega
      subst e
      exact ⟨h2, (hbX _ _).1 ((bareP_mem h2 _).1 h3)⟩
    · rintro ⟨h2, h3⟩
      exact ⟨b, rfl, came_ltS h h2, h2, (bareP_mem h2 _).2 ((hbX _ _).2 h3)⟩
  have hbS : ∀ k, k < C.length → Stn C.length (uA (bkP C E S) k) := fun k _ y hy => by
    obtain ⟨q, e, h1, -⟩ := (hbm k y).1 hy
    omega
  have hid : ∀ k, idleP C E S (quP C E S) k = true ↔ idR C E (cmP S) k := fun k => by
    unfold idleP idR cmP
    rw [Bool.and_eq_true, Bool.and_eq_true, beq_iff_eq, hqu]
    rfl
  have hfnI : FnI C.length [] (List.replicate C.length false) [] := (FnA.new (edB C E S (quP C E S)) C.length).i
  obtain ⟨o1, o2⟩ := fnO_all heS S C.length 0 (by omega) hfnI (fun k hk => by omega)
  have hrgT : rgP C E S = (rgT (uA (bkP C E S)) C.length (fnO (edB C E S (quP C E S)) S C.length C.length 0 (List.replicate C.length false) [])).1 := rfl
  have hacy : (∀ k, cmP S k → ¬ Wyp (beR C E (cmP S)) k k) → ∀ x, qAt (rgP C E S) x = false := fun hr x => by
    have hac : ∀ k, k < C.length → ¬ Wyp (eR (edB C E S (quP C E S))) k k := fun k _ hk => by
      have h2 := hk.mono (R' := beR C E (cmP S)) (fun a b => (hed a b).1)
      obtain ⟨c, h3, -⟩ := h2
      exact hr k h3.1 (hk.mono fun a b => (hed a b).1)
    obtain ⟨p1, p2⟩ := fnO_acy heS hac S C.length 0 (by omega) (FnA.new (edB C E S (quP C E S)) C.length)
    have h3 := rg_acy heS hbS (fun a b ha => by rw [hbk, hed]; exact ⟨fun x => ⟨came_ltS h x.1, x⟩, fun x => x.2⟩) hac p1 p2 o2 (fun a ha hne => by
      refine o1 a ha ?_
      unfold edB at hne
      by_cases hc : cameP S a = true
      · exact hc
      · rw [if_neg hc] at hne; exact absurd rfl hne) _ [] rfl
    rw [hrgT, h3.1, qAt_rep]
  have hring : ∀ k, cmP S k → Wyp (beR C E (cmP S)) k k → qAt (rgP C E S) k = true := fun k hk hr => by
    have h3 := rg_ring hbS _ o2
    have hkn := came_ltS h hk
    rw [hrgT]
    refine h3.2.2.2.1 k hkn ?_ ?_
    · have := h3.2.2.2.2 _ (o1 k hkn hk)
      simpa using this
    · exact hr.flip.mono fun a b x => (hbk a b).2 x
  obtain ⟨l1, l2⟩ := ld_sem hbS n9 (idleP C E S (quP C E S)) C.length 0 (s := List.replicate C.length false) (L := List.replicate C.length 1048576) (by omega) (by simp) (by simp) (fun k _ hq => by rw [qAt_rep] at hq; cases hq) (fun k _ => by
    rw [qAt_rep]
    constructor
    · intro x; cases x
    · rintro ⟨i, hi, -⟩; omega) (fun k hk => by
    rw [qAt_rep]
    have : hAt (List.replicate C.length 1048576) k = 1048576 := by unfold hAt; simp [List.getD, hk]
    rw [this]
    simp)
  have hldP : ldF (uA (bkP C E S)) (idleP C E S (quP C E S)) C.length C.length 0 (List.replicate C.length false) (List.replicate C.length 1048576) = ldP C E S := rfl
  rw [hldP] at l1 l2
  have hld : ∀ k, hAt (ldP C E S) k ≤ 1048576 := fun k => by
    by_cases hk : k < C.length
    · exact (l2 k hk).1
    · unfold hAt
      simp [List.getD, List.getElem?_eq_none (by omega : (ldP C E S).length ≤ k)]
  have hlead : ∀ k, k < C.length → (hAt (ldP C E S) k = 1048576 ↔ ∀ j, Wy (beR C E (cmP S)) k j → ¬ idR C E (cmP S) j) := fun k hk => by
    have h3 := (l2 k hk).2
    constructor
    · intro he j hj hi
      refine h3.2 ⟨j, came_ltS h hi.2.1, (hid j).2 hi, ?_⟩ he
      exact hj.flip.mono fun a b x => (hbk a b).2 x
    · intro hj
      by_cases he : hAt (ldP C E S) k = 1048576
      · exact he
      · exfalso
        obtain ⟨i, i1, i2, i3⟩ := h3.1 he
        exact hj i (i3.flip.mono fun a b x => (hbk b a).1 x) ((hid i).1 i2)
  have hWe : ∀ k, k < C.length → Stn C.length (edW C S k) := fun k hk y hy => by
    unfold edW at hy
    split at hy
    · rename_i hc; exact (h.in_ k hk hc).1 y hy
    · cases hy
  unfold secondP
  rw [se_sem hWe n9 (rgP C E S) (ldP C E S) (idleP C E S (quP C E S)) hld E (fun e he => ⟨(h.ent e he).1, (h.ent e he).2.1⟩) (by simp) (fun k _ hq => by rw [qAt_rep] at hq; cases hq)]
  constructor
  · rintro ⟨a, b⟩
    refine ⟨fun k hk hr => ?_, fun e he => ?_, fun x hx => ?_⟩
    · have := (b k (qAt_rep _ _) (h.src k hk)).1
      rw [hring k hk hr] at this
      cases this
    · have h5 := h.ent e he
      exact (hlead e.toNat (by omega)).1 (a e he)
    · have h5 := (b x (qAt_rep _ _) (h.src x hx.2.1)).2 ((hid x).2 hx)
      refine (hlead (x + 1) ?_).1 h5
      have h6 := (h.in_ x (came_ltS h hx.2.1) hx.2.1).1 ((x : Int) + 1) (by unfold waysP; simp [hx.1])
      omega
  · rintro ⟨a, b, c⟩
    refine ⟨fun e he => ?_, fun x _ hx => ⟨hacy a x, fun hi => ?_⟩⟩
    · have h5 := h.ent e he
      exact (hlead e.toNat (by omega)).2 (b e he)
    · have hi := (hid x).1 hi
      refine (hlead (x + 1) ?_).2 (c x hi)
      have h6 := (h.in_ x (came_ltS h hi.2.1) hi.2.1).1 ((x : Int) + 1) (by unfold waysP; simp [hi.1])
      omega
def Hs (enc : Bool) (C : List In) (E : List Int) (k : Nat) : Prop := ∃ r s, r < E.length ∧ Hd enc C (E.getD r 0) k s
theorem came_iff {S : List St} {k : Nat} : cameP S k = true ↔ (stA S k).pl ≠ 0 := by
  unfold cameP
  simp
theorem Chk.sec {enc : Bool} {C : List In} {E : List Int} (hK : Chk enc C E) (h : (firstP enc C E 0 (List.replicate C.length st0)).1 = 1048576) : SlH C E (stP enc C E) ∧ cmP (stP enc C E) = Hs enc C E := by
  have hE : ∀ i, i < E.length → 0 ≤ E.getD i 0 ∧ E.getD i 0 < (C.length : Int) := hK.ent
  obtain ⟨f1, f2⟩ := first_sem (enc := enc) hK.win hK.nc hE
  obtain ⟨g1, g2, g3⟩ := f2 h
  obtain ⟨-, a1, a2, a3⟩ := firstP_all hK h
  have hM : ∀ k, cmP (stP enc C E) k ↔ Hs enc C E k := fun k => by
    unfold cmP
    rw [came_iff]
    constructor
    · intro hk
      obtain ⟨q, b1, b2⟩ := g2 k hk
      exact ⟨q, _, b1, b2⟩
    · rintro ⟨q, s, b1, b2⟩
      exact g3 q k s b1 b2
  refine ⟨⟨hK.nc, a1, fun k hk hc => ⟨(a2 k hk hc).1, (a2 k hk hc).2⟩, fun k hk hc h16 => ?_, fun e he => ?_, fun k hk => ?_⟩, funext fun k => propext (hM k)⟩
  · have h1 := hK.ceok.cal k hk h16
    unfold enA
    exact hE _ (by omega)
  · obtain ⟨i, hi, rfl⟩ := List.mem_iff_getElem.1 he
    have h1 := hE i hi
    rw [show E.getD i 0 = E[i] by simp [List.getD, hi]] at h1
    exact ⟨h1.1, h1.2, a3 _ he⟩
  · obtain ⟨q, s, hq, hd⟩ := (hM k).1 hk
    have h1 := hE q hq
    refine ⟨E.getD q 0, ?_, ?_⟩
    · rw [show E.getD q 0 = E[q] by simp [List.getD, hq]]
      exact List.getElem_mem hq
    · have hc0 : cameP (stP enc C E) (E.getD q 0).toNat = true := (hM _).2 ⟨q, mBg enc, hq, Wy.refl _ _⟩
      refine Wy.map (T := eR (edW C (stP enc C E))) Prod.fst (Q := fun p : Nat × St => p.1 < C.length ∧ cameP (stP enc C E) p.1 = true) (fun p r hp hpr => ?_) (fun p r hp hpr => ?_) hd ⟨by show (E.getD q 0).toNat < C.length; omega, hc0⟩
      · obtain ⟨w, y, hw, e⟩ := hpr
        have hy := List.mem_of_getElem? hw
        have h5 := a2 p.1 hp.1 hp.2
        have h6 := h5.1 y hy
        rw [e]
        exact ⟨by show y.toNat < C.length; omega, h5.2 y hy⟩
      · obtain ⟨w, y, hw, e⟩ := hpr
        have hy := List.mem_of_getElem? hw
        have h5 := a2 p.1 hp.1 hp.2
        rw [e]
        refine Wy.one (eR_of (n := C.length) ?_ ?_)
        · unfold edW
          rw [if_pos hp.2]
          exact h5.1
        · unfold edW
          rw [if_pos hp.2]
          exact hy
theorem vf_sem {enc : Bool} {C : List In} {E : List Int} (hK : Chk enc C E) : ((vfP enc C E).1 = 0 ↔ FsOk enc C E ∧ Sec C E (Hs enc C E)) ∧ ((vfP enc C E).1 = 0 → ∀ k, (stA (stP enc C E) k).pl ≠ 0 ↔ Hs enc C E k) := by
  have hE : ∀ i, i < E.length → 0 ≤ E.getD i 0 ∧ E.getD i 0 < (C.length : Int) := hK.ent
  obtain ⟨f1, f2⟩ := first_sem (enc := enc) hK.win hK.nc hE
  unfold vfP
  rw [chk_ok.2 hK, if_neg (by simp)]
  by_cases hz : (firstP enc C E 0 (List.replicate C.length st0)).1 = 1048576
  · rw [if_neg (by simpa using hz)]
    obtain ⟨s1, s2⟩ := hK.sec hz
    have s3 := second_sem s1
    rw [s2] at s3
    have hF := f1.1 hz
    refine ⟨?_, fun _ k => ?_⟩
    · by_cases h2 : secondP C E (stP enc C E) = 1048576
      · rw [if_neg (by simpa using h2)]
        exact ⟨fun _ => ⟨hF, s3.1 h2⟩, fun _ => rfl⟩
      · rw [if_pos h2]
        exact ⟨fun h => by simp at h, fun h => absurd (s3.2 h.2) h2⟩
    · rw [← came_iff]
      have := congrFun s2 k
      unfold cmP at this
      rw [this]
  · rw [if_pos hz]
    exact ⟨⟨fun h => by simp at h, fun h => absurd (f1.2 h.1) hz⟩, fun h => by simp at h⟩
theorem fs_ways {enc : Bool} {C : List In} {E : List Int} {k : Nat} (h : Hs enc C E k) : ∀ y ∈ waysP C k, Hs enc C E y.toNat := fun y hy => by
  obtain ⟨r, s, hr, hd⟩ := h
  obtain ⟨w, hw⟩ := List.mem_iff_getElem?.1 hy
  exact ⟨r, _, hr, hd.step hw⟩
def tkB (x : In) (b : Bool) (w : Nat) : Bool :=
  if x.op = 1 ∨ x.op = 2 ∨ x.op = 3 ∨ x.op = 4 ∨ x.op = 7 ∨ x.op = 8 ∨ x.op = 10 then false else
  if (33 ≤ x.op ∧ x.op ≤ 41) ∨ (44 ≤ x.op ∧ x.op ≤ 46) then false else
  if x.op = 11 then w == 1 else
  if x.op = 17 ∧ x.a = -1 then false else
  if x.op = 16 ∧ b = false then false else true
theorem mem_idx {l : List Int} {y : Int} : y ∈ l ↔ ∃ w : Nat, l[w]? = some y := List.mem_iff_getElem?
theorem bareI_idx {C : List In} {b : Bool} {i : Nat} {y : Int} : y ∈ bareI C b i ↔ ∃ w : Nat, (waysP C i)[w]? = some y ∧ tkB (inA C i) b w = true := by
  unfold bareI tkB
  split
  · exact ⟨fun h => (by cases h), fun ⟨w, _, h⟩ => (by cases h)⟩
  split
  · exact ⟨fun h => (by cases h), fun ⟨w, _, h⟩ => (by cases h)⟩
  split
  · rename_i h11
    have hw : waysP C i = [(i : Int) + 1, (inA C i).b] := by unfold waysP; simp [h11]
    rw [hw]
    constructor
    · intro h
      rw [List.mem_singleton] at h
      exact ⟨1, by rw [h]; rfl, rfl⟩
    · rintro ⟨w, h1, h2⟩
      have : w = 1 := by simpa using h2
      subst this
      simp at h1
      rw [h1]; simp
  split
  · exact ⟨fun h => (by cases h), fun ⟨w, _, h⟩ => (by cases h)⟩
  split
  · exact ⟨fun h => (by cases h), fun ⟨w, _, h⟩ => (by cases h)⟩
  · rw [mem_idx]
    exact ⟨fun ⟨w, h⟩ => ⟨w, h, rfl⟩, fun ⟨w, h, _⟩ => ⟨w, h⟩⟩
def oke (C : List In) (E : List Int) (X : Nat → Prop) (i w : Nat) : Prop := tkB (inA C i) false w = true ∨ ((inA C i).op = 16 ∧ X (enA E (inA C i).c).toNat)
theorem beX_idx {C : List In} {E : List Int} {X : Nat → Prop} {i : Nat} {y : Int} : beX C E X i y ↔ ∃ w : Nat, (waysP C i)[w]? = some y ∧ oke C E X i w := by
  unfold beX oke
  rw [bareI_idx, mem_idx]
  constructor
  · rintro (⟨w, h1, h2⟩ | ⟨h1, h2, w, h3⟩)
    · exact ⟨w, h1, .inl h2⟩
    · exact ⟨w, h3, .inr ⟨h1, h2⟩⟩
  · rintro ⟨w, h1, h2 | ⟨h2, h3⟩⟩
    · exact .inl ⟨w, h1, h2⟩
    · exact .inr ⟨h2, h3, w, h1⟩
theorem qtS_idx {C : List In} {E : List Int} {X : Nat → Prop} {i : Nat} : qtStep C E X i ↔ (inA C i).op = 20 ∨ ∃ (w : Nat) (y : Int), (waysP C i)[w]? = some y ∧ ((inA C i).op = 17 ∨ ((inA C i).op ≠ 17 ∧ oke C E X i w)) ∧ X y.toNat := by
  unfold qtStep
  constructor
  · rintro (h | ⟨y, h1 | h1, h2⟩)
    · exact .inl h
    · obtain ⟨w, hw⟩ := mem_idx.1 h1.2
      exact .inr ⟨w, y, hw, .inl h1.1, h2⟩
    · obtain ⟨w, hw, ho⟩ := beX_idx.1 h1.2
      exact .inr ⟨w, y, hw, .inr ⟨h1.1, ho⟩, h2⟩
  · rintro (h | ⟨w, y, hw, h1 | h1, h2⟩)
    · exact .inl h
    · exact .inr ⟨y, .inl ⟨h1, mem_idx.2 ⟨w, hw⟩⟩, h2⟩
    · exact .inr ⟨y, .inr ⟨h1.1, beX_idx.2 ⟨w, hw, h1.2⟩⟩, h2⟩
theorem tkB_congr {x y : In} (h : x.op = y.op) (ha : x.a = y.a) (b : Bool) (w : Nat) : tkB x b w = tkB y b w := by unfold tkB; rw [h, ha]
theorem fs_inn {enc : Bool} {C : List In} {E : List Int} (hF : FsOk enc C E) {i : Nat} (hs : Hs enc C E i) : Inn C i := by
  obtain ⟨r, s, hr, hd⟩ := hs
  exact (hF.st r i s hr hd).2
def tgP (op : Int) : Bool := decide (op = 7 ∨ op = 9 ∨ op = 11 ∨ op = 12 ∨ op = 13 ∨ op = 14 ∨ op = 15 ∨ op = 19 ∨ op = 40 ∨ op = 47)
end Go.Proofs.YtjamfbpdepahnaaGreat
