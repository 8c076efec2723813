/- Code, plain: texts of two programs are the same just if the programs are. -/
import Derived.Test.YteadmiikenpjeaaDoorCdu
import Derived.Test.YteadmiikenpjeaaDoorCdx
namespace Go.Proofs.YteadmiikenpjeaaDoor
open Go.RowKit
set_option linter.unusedVariables false

/-- A word: no blank, no line's end. -/
def Wd (a : List UInt8) : Prop := ∀ c ∈ a, c ≠ 10 ∧ c ≠ 32
theorem wd_split : ∀ {a b : List UInt8} {c d : UInt8} {r s : List UInt8}, Wd a → Wd b → (c = 10 ∨ c = 32) → (d = 10 ∨ d = 32) → a ++ c :: r = b ++ d :: s → a = b ∧ c = d ∧ r = s
  | [], [], c, d, r, s, _, _, _, _, h => by
    simp only [List.nil_append] at h
    injection h with h1 h2
    exact ⟨rfl, h1, h2⟩
  | [], y :: b, c, d, r, s, _, hb, hc, _, h => by
    simp only [List.nil_append, List.cons_append] at h
    injection h with h1 h2
    have := hb y (by simp)
    rw [← h1] at this
    rcases hc with rfl | rfl
    · exact absurd rfl this.1
    · exact absurd rfl this.2
  | x :: a, [], c, d, r, s, ha, _, _, hd, h => by
    simp only [List.nil_append, List.cons_append] at h
    injection h with h1 h2
    have := ha x (by simp)
    rw [h1] at this
    rcases hd with rfl | rfl
    · exact absurd rfl this.1
    · exact absurd rfl this.2
  | x :: a, y :: b, c, d, r, s, ha, hb, hc, hd, h => by
    simp only [List.cons_append] at h
    injection h with h1 h2
    obtain ⟨e1, e2, e3⟩ := wd_split (fun z hz => ha z (by simp [hz])) (fun z hz => hb z (by simp [hz])) hc hd h2
    exact ⟨by rw [h1, e1], e2, e3⟩
def dval (l : List UInt8) : Nat := l.foldl (fun a c => 10 * a + (c.toNat - 48)) 0
theorem dg_toNat (d : Nat) (h : d < 10) : (UInt8.ofNat (48 + d)).toNat = 48 + d := by
  rw [UInt8.toNat_ofNat']
  omega
theorem dec_step (u : Nat) (h : ¬ u < 10) : Lib.decDigits u = Lib.decDigits (u / 10) ++ [UInt8.ofNat (48 + u % 10)] := by
  rw [Lib.decDigits, dif_neg h]
theorem dval_dec (u : Nat) : dval (Lib.decDigits u) = u := by
  induction u using Nat.strongRecOn with
  | _ u ih =>
    by_cases h : u < 10
    · rw [Lib.decDigits_one h]
      simp only [dval, List.foldl_cons, List.foldl_nil, dg_toNat u h]
      omega
    · rw [dec_step u h]
      have := ih (u / 10) (by omega)
      unfold dval at this ⊢
      rw [List.foldl_append, this]
      simp only [List.foldl_cons, List.foldl_nil, dg_toNat (u % 10) (by omega)]
      omega
theorem dec_dig (u : Nat) : ∀ c ∈ Lib.decDigits u, 48 ≤ c.toNat ∧ c.toNat ≤ 57 := by
  induction u using Nat.strongRecOn with
  | _ u ih =>
    intro c hc
    by_cases h : u < 10
    · rw [Lib.decDigits_one h] at hc
      rw [List.mem_singleton.1 hc, dg_toNat u h]
      omega
    · rw [dec_step u h] at hc
      rcases List.mem_append.1 hc with hc | hc
      · exact ih (u / 10) (by omega) c hc
      · rw [List.mem_singleton.1 hc, dg_toNat (u % 10) (by omega)]
        omega
theorem dec_cons (u : Nat) : ∃ c r, Lib.decDigits u = c :: r ∧ 48 ≤ c.toNat ∧ c.toNat ≤ 57 := by
  cases h : Lib.decDigits u with
  | nil =>
    exfalso
    by_cases h1 : u < 10
    · rw [Lib.decDigits_one h1] at h; cases h
    · rw [dec_step u h1] at h; simp at h
  | cons c r => exact ⟨c, r, rfl, dec_dig u c (by rw [h]; simp)⟩
theorem dec_wd (u : Nat) : Wd (Lib.decDigits u) := by
  intro c hc
  have := dec_dig u c hc
  refine ⟨fun h => ?_, fun h => ?_⟩ <;> (rw [h] at this; exact absurd this (by decide))
theorem opT_wd {n : Int} (h : -1 ≤ n) : Wd (opT n) := by
  unfold opT
  by_cases h1 : n = -1
  · rw [if_pos h1]
    intro c hc
    rw [List.mem_singleton.1 hc]
    decide
  · rw [if_neg h1]
    obtain ⟨m, rfl⟩ := Int.eq_ofNat_of_zero_le (show 0 ≤ n by omega)
    rw [Lib.itoa_nonneg]
    exact dec_wd m
theorem opT_one {n m : Int} (hn : -1 ≤ n) (hm : -1 ≤ m) (h : opT n = opT m) : n = m := by
  have key : ∀ (k : Nat), ¬ ([45] : List UInt8) = Lib.decDigits k := fun k hk => by
    have := dec_dig k 45 (by rw [← hk]; simp)
    exact absurd this (by decide)
  unfold opT at h
  by_cases h1 : n = -1
  · by_cases h2 : m = -1
    · rw [h1, h2]
    · rw [if_pos h1, if_neg h2] at h
      obtain ⟨k, rfl⟩ := Int.eq_ofNat_of_zero_le (show 0 ≤ m by omega)
      rw [Lib.itoa_nonneg] at h
      exact absurd h (key k)
  · obtain ⟨j, rfl⟩ := Int.eq_ofNat_of_zero_le (show 0 ≤ n by omega)
    rw [if_neg h1, Lib.itoa_nonneg] at h
    by_cases h2 : m = -1
    · rw [if_pos h2] at h
      exact absurd h.symm (key j)
    · obtain ⟨k, rfl⟩ := Int.eq_ofNat_of_zero_le (show 0 ≤ m by omega)
      rw [if_neg h2, Lib.itoa_nonneg] at h
      have := congrArg dval h
      rw [dval_dec, dval_dec] at this
      rw [this]
theorem ops_next (l : List Int) (r : List UInt8) : ∃ c s, l.flatMap opS ++ 10 :: r = c :: s ∧ (c = 10 ∨ c = 32) := by
  cases l with
  | nil => exact ⟨10, r, rfl, Or.inl rfl⟩
  | cons n l => exact ⟨32, _, by rw [List.flatMap_cons]; unfold opS; rfl, Or.inr rfl⟩
theorem ops_one : ∀ (l m : List Int) (r s : List UInt8), (∀ n ∈ l, -1 ≤ n) → (∀ n ∈ m, -1 ≤ n) → l.flatMap opS ++ 10 :: r = m.flatMap opS ++ 10 :: s → l = m ∧ r = s
  | [], [], r, s, _, _, h => by
    simp only [List.flatMap_nil, List.nil_append] at h
    injection h with _ h
    exact ⟨rfl, h⟩
  | [], n :: m, r, s, _, _, h => by
    rw [List.flatMap_cons] at h
    unfold opS at h
    simp only [List.flatMap_nil, List.nil_append, List.cons_append] at h
    injection h with h _
    exact absurd h (by decide)
  | n :: l, [], r, s, _, _, h => by
    rw [List.flatMap_cons] at h
    unfold opS at h
    simp only [List.flatMap_nil, List.nil_append, List.cons_append] at h
    injection h with h _
    exact absurd h (by decide)
  | a :: l, b :: m, r, s, hl, hm, h => by
    rw [List.flatMap_cons, List.flatMap_cons, List.append_assoc, List.append_assoc] at h
    obtain ⟨c, r', e1, c1⟩ := ops_next l r
    obtain ⟨d, s', e2, d1⟩ := ops_next m s
    have h2 : opT a ++ (l.flatMap opS ++ 10 :: r) = opT b ++ (m.flatMap opS ++ 10 :: s) := by
      have h' : 32 :: (opT a ++ (l.flatMap opS ++ 10 :: r)) = 32 :: (opT b ++ (m.flatMap opS ++ 10 :: s)) := h
      injection h'
    have h3 := h2
    rw [e1, e2] at h3
    obtain ⟨t1, t2, t3⟩ := wd_split (opT_wd (hl a (by simp))) (opT_wd (hm b (by simp))) c1 d1 h3
    rw [t1] at h2
    have h4 := List.append_cancel_left h2
    obtain ⟨u1, u2⟩ := ops_one l m r s (fun n hn => hl n (by simp [hn])) (fun n hn => hm n (by simp [hn])) h4
    exact ⟨by rw [u1, opT_one (hl a (by simp)) (hm b (by simp)) t1], u2⟩
set_option maxRecDepth 100000 in
theorem nmT_all : ∀ n : Fin 48, (nmT ((n.val : Nat) : Int)).all (fun c => c != 10 && c != 32) = true := by decide +kernel
set_option maxRecDepth 100000 in
theorem nmT_two : ∀ (e : Bool) (n m : Fin 48), isOf ((n.val : Nat) : Int) e = true → isOf ((m.val : Nat) : Int) e = true → nmT ((n.val : Nat) : Int) = nmT ((m.val : Nat) : Int) → n = m := by decide +kernel
theorem isOf_fin {op : Int} {e : Bool} (h : isOf op e = true) : ∃ n : Fin 48, op = ((n.val : Nat) : Int) := by
  have := isOf_rng h
  exact ⟨⟨op.toNat, by omega⟩, by simp only; omega⟩
theorem nmT_wd {op : Int} {e : Bool} (h : isOf op e = true) : Wd (nmT op) := by
  obtain ⟨n, rfl⟩ := isOf_fin h
  intro c hc
  have := List.all_eq_true.1 (nmT_all n) c hc
  simpa using this
theorem nmT_one {op oq : Int} {e : Bool} (h : isOf op e = true) (g : isOf oq e = true) (hn : nmT op = nmT oq) : op = oq := by
  obtain ⟨n, rfl⟩ := isOf_fin h
  obtain ⟨m, rfl⟩ := isOf_fin g
  rw [nmT_two e n m h g hn]
theorem nmd_one {enc : Bool} {nc ne nc' ne' : Int} {x y : In} (hx : frmX enc nc ne x = true) (hy : frmX enc nc' ne' y = true) (ho : x.op = y.op) (h : nmd x = nmd y) : x = y := by
  obtain ⟨_, p1, p2, p3⟩ := frmX_parts hx
  obtain ⟨_, q1, q2, q3⟩ := frmX_parts hy
  obtain ⟨o, a, b, c⟩ := x
  obtain ⟨o', a', b', c'⟩ := y
  simp only at ho
  subst ho
  unfold nmd at h
  simp only at h p1 p2 p3 q1 q2 q3
  generalize kin o = k at *
  obtain ⟨k0, k1, k2⟩ := k
  simp only [nmj, kat, oat, List.nil_append] at h p1 p2 p3 q1 q2 q3
  have z : ∀ {k n m : Int} {nc ne nc' ne' : Int}, k = 0 → alw nc ne k n = true → alw nc' ne' k m = true → n = m := fun hk h g => by
    subst hk
    rw [alw_zero h, alw_zero g]
  by_cases h0 : k0 = 0 <;> by_cases h1 : k1 = 0 <;> by_cases h2 : k2 = 0 <;> simp [h0, h1, h2] at h
  · rw [z h0 p1 q1, z h1 p2 q2, z h2 p3 q3]
  · rw [z h0 p1 q1, z h1 p2 q2, h]
  · rw [z h0 p1 q1, z h2 p3 q3, h]
  · rw [z h0 p1 q1, h.1, h.2]
  · rw [z h1 p2 q2, z h2 p3 q3, h]
  · rw [z h1 p2 q2, h.1, h.2]
  · rw [z h2 p3 q3, h.1, h.2]
  · rw [h.1, h.2.1, h.2.2]
def entsF : Nat → List Int → List UInt8
  | _, [] => []
  | i, e :: E => entT i e ++ entsF (i + 1) E
def codeF : Nat → List In → List UInt8
  | _, [] => []
  | i, x :: C => insT i x ++ codeF (i + 1) C
theorem entsT_F (E : List Int) : ∀ j, j ≤ E.length → entsT E j ++ entsF j (E.drop j) = entsF 0 E
  | 0, _ => rfl
  | j + 1, h => by
    rw [← entsT_F E j (by omega), drop_cons E j (by omega), entsT, entsF, List.append_assoc]
theorem codeT_F (C : List In) : ∀ j, j ≤ C.length → codeT C j ++ codeF j (C.drop j) = codeF 0 C
  | 0, _ => rfl
  | j + 1, h => by
    have e : C.getD j in0 = C[j]'(by omega) := by
      rw [List.getD, List.getElem?_eq_getElem (by omega), Option.getD_some]
    have d : C.drop j = C[j]'(by omega) :: C.drop (j + 1) := List.drop_eq_getElem_cons (by omega)
    rw [← codeT_F C j (by omega), d, codeT, codeF, List.append_assoc, e]
theorem code_one {enc : Bool} {nc ne nc' ne' : Int} (b1 : nc ≤ 1048576) (b2 : ne ≤ 1048576) (b3 : nc' ≤ 1048576) (b4 : ne' ≤ 1048576) : ∀ (i : Nat) (C D : List In), (∀ x ∈ C, frmX enc nc ne x = true) → (∀ x ∈ D, frmX enc nc' ne' x = true) → codeF i C = codeF i D → C = D
  | _, [], [], _, _, _ => rfl
  | i, [], y :: D, _, _, h => by
    rw [codeF, codeF] at h
    unfold insT at h
    simp at h
  | i, x :: C, [], _, _, h => by
    rw [codeF, codeF] at h
    unfold insT at h
    simp at h
  | i, x :: C, y :: D, hC, hD, h => by
    have fx := hC x (by simp)
    have fy := hD y (by simp)
    have ix := (frmX_inB b1 b2 fx)
    have iy := (frmX_inB b3 b4 fy)
    obtain ⟨p0, -⟩ := frmX_parts fx
    obtain ⟨q0, -⟩ := frmX_parts fy
    rw [codeF, codeF] at h
    unfold insT at h
    simp only [List.append_assoc, List.cons_append, List.nil_append] at h
    have h1 := List.append_cancel_left h
    injection h1 with _ h2
    obtain ⟨c, r', e1, c1⟩ := ops_next (nmd x) (codeF (i + 1) C)
    obtain ⟨d, s', e2, d1⟩ := ops_next (nmd y) (codeF (i + 1) D)
    have h3 := h2
    rw [e1, e2] at h3
    obtain ⟨t1, t2, t3⟩ := wd_split (nmT_wd p0) (nmT_wd q0) c1 d1 h3
    rw [t1] at h2
    have h4 := List.append_cancel_left h2
    obtain ⟨u1, u2⟩ := ops_one _ _ _ _ (fun n hn => (nmj_in ix _ 3 (by omega) n hn).1) (fun n hn => (nmj_in iy _ 3 (by omega) n hn).1) h4
    rw [nmd_one fx fy (nmT_one p0 q0 t1) u1, code_one b1 b2 b3 b4 (i + 1) C D (fun z hz => hC z (by simp [hz])) (fun z hz => hD z (by simp [hz])) u2]
theorem code_head (C : List In) (r : List UInt8) : ¬ 116 :: r = codeF 0 C := by
  cases C with
  | nil => rw [codeF]; simp
  | cons x C =>
    intro h
    rw [codeF] at h
    unfold insT at h
    obtain ⟨c, s, e, h1, h2⟩ := dec_cons 0
    have e' : Lib.itoa ((0 : Nat) : Int) = c :: s := by rw [Lib.itoa_nonneg, e]
    rw [e'] at h
    simp only [List.cons_append] at h
    injection h with h _
    rw [← h] at h2
    exact absurd h2 (by decide)
theorem ents_one {C D : List In} : ∀ (i : Nat) (E F : List Int), (∀ e ∈ E, 0 ≤ e) → (∀ e ∈ F, 0 ≤ e) → entsF i E ++ codeF 0 C = entsF i F ++ codeF 0 D → E = F ∧ codeF 0 C = codeF 0 D
  | _, [], [], _, _, h => ⟨rfl, h⟩
  | i, [], f :: F, _, _, h => by
    rw [entsF, entsF] at h
    unfold entT at h
    simp only [List.nil_append, List.cons_append, List.append_assoc] at h
    exact absurd h.symm (code_head C _)
  | i, e :: E, [], _, _, h => by
    rw [entsF, entsF] at h
    unfold entT at h
    simp only [List.nil_append, List.cons_append, List.append_assoc] at h
    exact absurd h (code_head D _)
  | i, e :: E, f :: F, hE, hF, h => by
    have he := hE e (by simp)
    have hf := hF f (by simp)
    rw [entsF, entsF] at h
    unfold entT at h
    simp only [List.append_assoc] at h
    have h1 := List.append_cancel_left (List.append_cancel_left (List.append_cancel_left h))
    obtain ⟨n, rfl⟩ := Int.eq_ofNat_of_zero_le he
    obtain ⟨m, rfl⟩ := Int.eq_ofNat_of_zero_le hf
    rw [Lib.itoa_nonneg, Lib.itoa_nonneg] at h1
    obtain ⟨t1, t2, t3⟩ := wd_split (dec_wd n) (dec_wd m) (Or.inl rfl) (Or.inl rfl) h1
    have hnm := congrArg dval t1
    rw [dval_dec, dval_dec] at hnm
    obtain ⟨u1, u2⟩ := ents_one (i + 1) E F (fun z hz => hE z (by simp [hz])) (fun z hz => hF z (by simp [hz])) t3
    exact ⟨by rw [hnm, u1], u2⟩
/-- The same text: the same program. -/
theorem prn_one {enc enc' : Bool} {C C' : List In} {E E' : List Int} (h : Chk enc C E) (h' : Chk enc' C' E') (ht : prnP enc C E = prnP enc' C' E') : enc = enc' ∧ C = C' ∧ E = E' := by
  have f : ∀ {enc : Bool} {C : List In} {E : List Int}, Chk enc C E → (∀ x ∈ C, frmX enc C.length E.length x = true) ∧ (∀ e ∈ E, 0 ≤ e) := fun {enc C E} h => by
    constructor
    · intro x hx
      obtain ⟨i, hi, rfl⟩ := List.mem_iff_getElem.1 hx
      have := h.code i hi
      unfold frm at this
      rw [List.getElem?_eq_getElem hi] at this
      simp only [Bool.and_eq_true] at this
      exact this.1
    · intro e he
      obtain ⟨i, hi, rfl⟩ := List.mem_iff_getElem.1 he
      have := h.ent i hi
      rw [List.getD, List.getElem?_eq_getElem hi, Option.getD_some] at this
      exact this.1
  have a1 := h.nc
  have a2 := h.ne
  have a3 := h'.nc
  have a4 := h'.ne
  have e0 : ∀ {C : List In} {E : List Int}, entsT E E.length = entsF 0 E ∧ codeT C C.length = codeF 0 C := fun {C E} => by
    have x1 := entsT_F E E.length (Nat.le_refl _)
    have x2 := codeT_F C C.length (Nat.le_refl _)
    rw [List.drop_length, entsF, List.append_nil] at x1
    rw [List.drop_length, codeF, List.append_nil] at x2
    exact ⟨x1, x2⟩
  unfold prnP at ht
  rw [(e0 (C := C)).1, (e0 (E := E)).2, (e0 (C := C')).1, (e0 (E := E')).2] at ht
  have hen : enc = enc' := by
    cases enc <;> cases enc' <;> first | rfl | (simp [mchT] at ht)
  subst hen
  simp only [List.append_assoc] at ht
  have h1 := List.append_cancel_left (List.append_cancel_left ht)
  obtain ⟨u1, u2⟩ := ents_one 0 E E' (f h).2 (f h').2 h1
  exact ⟨rfl, code_one (by omega) (by omega) (by omega) (by omega) 0 C C' (f h).1 (f h').1 u2, u1⟩
/-- The same bytes: the same program. -/
theorem enc_one {enc enc' : Bool} {C C' : List In} {E E' : List Int} (h : Chk enc C E) (h' : Chk enc' C' E') (ht : encP enc C E = encP enc' C' E') : enc = enc' ∧ C = C' ∧ E = E' := by
  obtain ⟨_, x1, x2, x3⟩ := dec_enc h
  obtain ⟨_, y1, y2, y3⟩ := dec_enc h'
  rw [ht] at x1 x2 x3
  exact ⟨x1.symm.trans y1, x2.symm.trans y2, x3.symm.trans y3⟩
end Go.Proofs.YteadmiikenpjeaaDoor
