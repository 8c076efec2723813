/- Code, plain: what is encoded is decoded to the same. -/
import Derived.Test.YteadmiikenpjeaaDoorCdn
namespace Go.Proofs.YteadmiikenpjeaaDoor
open Go.RowKit
set_option linter.unusedVariables false

/-- The reader stands ahead of these bytes, without a fault. -/
structure At (l : List Int) (s : Rs) (r : List Int) : Prop where
  e : s.e = 0
  p : s.p = 0
  d : l.drop s.at_ = r
theorem At.num {l : List Int} {s : Rs} {r : List Int} {n : Nat} (h : At l s (form n ++ r)) (hn : n < 18446744073709551616) {er : Int} {may : Int → Bool} (hm : may (n : Int) = true) : ∃ s', rdV l s er may = ((n : Int), s') ∧ At l s' r := by
  refine ⟨⟨s.at_ + (form n).length, 0, s.p⟩, ?_, rfl, h.p, ?_⟩
  · unfold rdV
    rw [if_pos h.e, h.d, (get_form n hn r).getF]
    simp only
    rw [if_pos trivial, if_pos hm]
  · show l.drop (s.at_ + (form n).length) = r
    rw [← List.drop_drop, h.d]
    simp
theorem At.byte {l : List Int} {s : Rs} {r : List Int} {c : Int} (h : At l s (c :: r)) {lo hi : Int} (h1 : lo ≤ c) (h2 : c ≤ hi) : ∃ s', rdO l s lo hi = (c, s') ∧ At l s' r := by
  have hlt : s.at_ < l.length := by
    rcases Nat.lt_or_ge s.at_ l.length with h' | h'
    · exact h'
    · have := h.d
      rw [List.drop_eq_nil_of_le h'] at this
      cases this
  have hg : l.getD s.at_ 0 = c := by
    have := drop_cons l s.at_ hlt
    rw [h.d] at this
    injection this with this _
    exact this.symm
  refine ⟨⟨s.at_ + 1, 0, s.p⟩, ?_, rfl, h.p, ?_⟩
  · unfold rdO
    rw [if_pos h.e, if_neg (by omega), hg, if_neg (by omega)]
  · show l.drop (s.at_ + 1) = r
    have := drop_cons l s.at_ hlt
    rw [h.d] at this
    injection this with _ this
    exact this.symm
theorem At.ents {l r : List Int} : ∀ (E : List Int) (s : Rs), (∀ e ∈ E, 0 ≤ e ∧ e ≤ 2147483648) → At l s (E.flatMap entB ++ r) → ∃ ea s', rdM (rdN l) E.length s = (ea, E, s') ∧ At l s' r
  | [], s, _, h => ⟨[], s, rfl, by simpa using h⟩
  | e :: E, s, hE, h => by
    obtain ⟨h0, h1⟩ := hE e (by simp)
    obtain ⟨n, rfl⟩ := Int.eq_ofNat_of_zero_le h0
    have h' : At l s (form n ++ (E.flatMap entB ++ r)) := by
      have := h
      rw [List.flatMap_cons, List.append_assoc] at this
      exact this
    obtain ⟨s1, e1, a1⟩ := h'.num (er := 3) (may := mayN) (by omega) (decide_eq_true (by omega))
    obtain ⟨ea, s2, e2, a2⟩ := At.ents E s1 (fun x hx => hE x (by simp [hx])) a1
    refine ⟨s.at_ :: ea, s2, ?_, a2⟩
    have e3 : rdN l s = ((n : Int), s1) := e1
    rw [List.length_cons, rdM, if_pos h.e, e3]
    simp only [e2]
theorem rd1_form {l r : List Int} {s : Rs} {k a : Int} (ha : -1 ≤ a ∧ a ≤ 16777216) (hz : k = 0 → a = 0) (h : At l s ((if k ≠ 0 then opB a else []) ++ r)) : ∃ s', rd1 l k s = (a, s') ∧ At l s' r := by
  by_cases hk : k = 0
  · rw [if_neg (by simp [hk])] at h
    refine ⟨s, ?_, by simpa using h⟩
    unfold rd1
    rw [if_pos hk, hz hk]
  · rw [if_pos hk] at h
    obtain ⟨m, hm⟩ := Int.eq_ofNat_of_zero_le (show 0 ≤ a + 1 by omega)
    have h' : At l s (form m ++ r) := by
      have := h
      unfold opB at this
      rw [hm] at this
      exact this
    obtain ⟨s1, e1, a1⟩ := h'.num (er := 3) (may := mayN) (by omega) (decide_eq_true (by omega))
    refine ⟨s1, ?_, a1⟩
    have e3 : rdN l s = ((m : Int), s1) := e1
    unfold rd1
    rw [if_neg hk, e3]
    simp only
    congr 1
    omega
theorem alw_zero {nc ne n : Int} (h : alw nc ne 0 n = true) : n = 0 := by
  have := alw_rng h
  have e : bnd nc ne 0 = (0, 0) := rfl
  rw [e] at this
  simp only at this
  omega
theorem At.ins {l r : List Int} {s : Rs} {enc : Bool} {nc ne : Int} {x : In} (h1 : nc ≤ 1048576) (h2 : ne ≤ 1048576) (hx : frmX enc nc ne x = true) (h : At l s (insB x ++ r)) : ∃ s', rdI l enc s = (x, s') ∧ At l s' r := by
  have hin := frmX_inB h1 h2 hx
  obtain ⟨p0, p1, p2, p3⟩ := frmX_parts hx
  obtain ⟨n, hn⟩ := Int.eq_ofNat_of_zero_le (show 0 ≤ x.op by have := hin.op; omega)
  have hn47 : n ≤ 47 := by have := hin.op; omega
  have h' : At l s (form n ++ ((if (kin x.op).1 ≠ 0 then opB x.a else []) ++ ((if (kin x.op).2.1 ≠ 0 then opB x.b else []) ++ ((if (kin x.op).2.2 ≠ 0 then opB x.c else []) ++ r)))) := by
    have := h
    unfold insB nmd at this
    rw [hn] at this
    rw [hn]
    simp only [nmj, kat, oat, List.nil_append, Int.toNat_natCast] at this
    generalize kin (n : Int) = k at *
    obtain ⟨k0, k1, k2⟩ := k
    simp only at this ⊢
    have e : ∀ (c : Prop) [Decidable c] (a : Int), (if c then [a] else ([] : List Int)).flatMap opB = if c then opB a else [] := fun c _ a => by split <;> simp
    rw [List.flatMap_append, List.flatMap_append, e, e, e] at this
    simpa [List.append_assoc] using this
  have hmay : mayI enc (n : Int) = true := by unfold mayI; rw [decide_eq_true (by omega), ← hn, p0]; rfl
  obtain ⟨s1, e1, a1⟩ := h'.num (er := 140) (may := mayI enc) (by omega) hmay
  rw [← hn] at e1
  have q := hin.nm
  obtain ⟨s2, e2, a2⟩ := rd1_form (q 0 (by omega)) (fun hk => alw_zero (by rw [hk] at p1; exact p1)) a1
  obtain ⟨s3, e3, a3⟩ := rd1_form (q 1 (by omega)) (fun hk => alw_zero (by rw [hk] at p2; exact p2)) a2
  obtain ⟨s4, e4, a4⟩ := rd1_form (q 2 (by omega)) (fun hk => alw_zero (by rw [hk] at p3; exact p3)) a3
  refine ⟨s4, ?_, a4⟩
  unfold rdI
  simp only [e1]
  have e2' : rd1 l (kin x.op).1 s1 = (x.a, s2) := e2
  have e3' : rd1 l (kin x.op).2.1 s2 = (x.b, s3) := e3
  have e4' : rd1 l (kin x.op).2.2 s3 = (x.c, s4) := e4
  simp only [e2', e3', e4']
theorem At.code {l r : List Int} {enc : Bool} {nc ne : Int} (h1 : nc ≤ 1048576) (h2 : ne ≤ 1048576) : ∀ (C : List In) (s : Rs), (∀ x ∈ C, frmX enc nc ne x = true) → At l s (C.flatMap insB ++ r) → ∃ ca s', rdM (rdI l enc) C.length s = (ca, C, s') ∧ At l s' r
  | [], s, _, h => ⟨[], s, rfl, by simpa using h⟩
  | x :: C, s, hC, h => by
    have h' : At l s (insB x ++ (C.flatMap insB ++ r)) := by
      have := h
      rw [List.flatMap_cons, List.append_assoc] at this
      exact this
    obtain ⟨s1, e1, a1⟩ := h'.ins h1 h2 (hC x (by simp))
    obtain ⟨ca, s2, e2, a2⟩ := At.code h1 h2 C s1 (fun y hy => hC y (by simp [hy])) a1
    refine ⟨s.at_ :: ca, s2, ?_, a2⟩
    rw [List.length_cons, rdM, if_pos h.e, e1]
    simp only [e2]
/-- What is encoded is read to the same. -/
theorem pgm_enc {enc : Bool} {C : List In} {E : List Int} (h : Chk enc C E) : (pgm (encP enc C E)).enc = enc ∧ (pgm (encP enc C E)).E = E ∧ (pgm (encP enc C E)).C = C ∧ (pgm (encP enc C E)).s.e = 0 := by
  have hnc := h.nc
  have hne := h.ne
  obtain ⟨l, hl⟩ : ∃ l, encP enc C E = l := ⟨_, rfl⟩
  rw [hl]
  have a0 : At l ⟨0, 0, 0⟩ (109 :: (if enc then 1 else 0) :: (form E.length ++ (E.flatMap entB ++ (form C.length ++ (C.flatMap insB ++ []))))) := ⟨rfl, rfl, by
    show l.drop 0 = _
    rw [← hl]
    unfold encP
    simp [List.append_assoc]⟩
  obtain ⟨s1, e1, a1⟩ := a0.byte (lo := 109) (hi := 109) (by omega) (by omega)
  obtain ⟨s2, e2, a2⟩ := a1.byte (lo := 0) (hi := 1) (by split <;> omega) (by split <;> omega)
  obtain ⟨s3, e3, a3⟩ := a2.num (er := 4) (may := mayC) (by omega) (decide_eq_true (by omega))
  obtain ⟨ea, s4, e4, a4⟩ := At.ents E s3 (fun e he => by
    obtain ⟨i, hi, rfl⟩ := List.mem_iff_getElem.1 he
    have := h.ent i hi
    rw [List.getD, List.getElem?_eq_getElem hi, Option.getD_some] at this
    omega) a3
  obtain ⟨s5, e5, a5⟩ := a4.num (er := 4) (may := mayC) (by omega) (decide_eq_true (by omega))
  obtain ⟨ca, s6, e6, a6⟩ := At.code (enc := enc) (nc := C.length) (ne := E.length) (by omega) (by omega) C s5 (fun x hx => by
    obtain ⟨i, hi, rfl⟩ := List.mem_iff_getElem.1 hx
    have := h.code i hi
    unfold frm at this
    rw [List.getElem?_eq_getElem hi] at this
    simp only [Bool.and_eq_true] at this
    exact this.1) a5
  have hend : ¬ s6.at_ < l.length := by
    intro hlt
    have := a6.d
    have h2 := congrArg List.length this
    rw [List.length_drop] at h2
    simp at h2
    omega
  have hb : (((if enc = true then (1 : Int) else 0)) == 1) = enc := by cases enc <;> rfl
  unfold pgm
  simp only [e1, e2, e3, e4, e5, hb, e6, Int.toNat_natCast]
  rw [if_neg hend]
  exact ⟨trivial, trivial, trivial, a6.e⟩
theorem dec_enc {enc : Bool} {C : List In} {E : List Int} (h : Chk enc C E) : decF (encP enc C E) = (0, 0) ∧ decE (encP enc C E) = enc ∧ decC (encP enc C E) = C ∧ decN (encP enc C E) = E := by
  obtain ⟨h1, h2, h3, h4⟩ := pgm_enc h
  have hd : decF (encP enc C E) = (0, 0) := by
    unfold decF
    rw [if_neg (by simpa using h4), h1, h2, h3, chk_ok.2 h]
    rfl
  refine ⟨hd, ?_, ?_, ?_⟩
  · unfold decE; rw [hd, if_pos rfl, h1]
  · unfold decC; rw [hd, if_pos rfl, h3]
  · unfold decN; rw [hd, if_pos rfl, h2]
end Go.Proofs.YteadmiikenpjeaaDoor
