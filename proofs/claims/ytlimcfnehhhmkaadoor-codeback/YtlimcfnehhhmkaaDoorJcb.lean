import Derived.Test.YtlimcfnehhhmkaaDoorCdx
import Derived.Test.YtlimcfnehhhmkaaDoorWeigh
import Derived.Test.YtlimcfnehhhmkaaDoorCdc
import Derived.Test.YtlimcfnehhhmkaaDoorRows
import Derived.Test.YtlimcfnehhhmkaaDoorCds
import Derived.WalkKit
import Derived.ProofKit
import Derived.OpenShut
import Derived.Deep.DeepHandedRow
import Derived.Lib.LaidTab
import Derived.Stop.LaidErr
import Derived.Test.YtlimcfnehhhmkaaDoorCmf
import Derived.Test.YtlimcfnehhhmkaaDoorCme
import Derived.Test.YtlimcfnehhhmkaaDoorCdw
import Derived.Test.YtlimcfnehhhmkaaDoorCed
import Derived.Test.YtlimcfnehhhmkaaDoorCmg
import Derived.Test.YtlimcfnehhhmkaaDoorCards
import Derived.Test.YtlimcfnehhhmkaaDoorTie
import Derived.Test.YtlimcfnehhhmkaaDoorRead
import Derived.SizedLaws
import Derived.ChangeMaps5
import Derived.Below
import Derived.ShutString
/- Code, plain: what is decoded is encoded to the same bytes. -/
namespace Go.Proofs.YtlimcfnehhhmkaaDoor
open Go.RowKit
set_option linter.unusedVariables false

theorem rdV_back {l : List Int} (hb : Bys l) {s : Rs} {er : Int} {may : Int → Bool} (her : er ≠ 0) (h : (rdV l s er may).2.e = 0) : s.e = 0 ∧ 0 ≤ (rdV l s er may).1 ∧ may (rdV l s er may).1 = true ∧ l.drop s.at_ = form (rdV l s er may).1.toNat ++ l.drop (rdV l s er may).2.at_ := by
  unfold rdV at h ⊢
  by_cases h0 : s.e = 0
  · rw [if_pos h0] at h ⊢
    by_cases h1 : (getF (l.drop s.at_)).2.2 = 0
    · rw [if_pos h1] at h ⊢
      by_cases h2 : may (getF (l.drop s.at_)).1 = true
      · rw [if_pos h2] at h ⊢
        obtain ⟨b1, b2, b3, b4, b5⟩ := get_back (getF_R (l.drop s.at_)) (hb.drop _) h1
        refine ⟨h0, b3, h2, ?_⟩
        simp only
        rw [b5, ← List.drop_drop, List.take_append_drop]
      · rw [if_neg h2] at h
        exact absurd h her
    · rw [if_neg h1] at h
      exact absurd h h1
  · rw [if_neg h0] at h
    exact absurd h h0
theorem rdO_back {l : List Int} {s : Rs} {lo hi : Int} (hs : s.at_ ≤ l.length) (h : (rdO l s lo hi).2.e = 0) : s.e = 0 ∧ lo ≤ (rdO l s lo hi).1 ∧ (rdO l s lo hi).1 ≤ hi ∧ l.drop s.at_ = (rdO l s lo hi).1 :: l.drop (rdO l s lo hi).2.at_ ∧ (rdO l s lo hi).2.at_ ≤ l.length := by
  unfold rdO at h ⊢
  by_cases h0 : s.e = 0
  · rw [if_pos h0] at h ⊢
    by_cases h1 : s.at_ = l.length
    · rw [if_pos h1] at h
      exact absurd h (by simp)
    · rw [if_neg h1] at h ⊢
      by_cases h2 : l.getD s.at_ 0 < lo ∨ hi < l.getD s.at_ 0
      · rw [if_pos h2] at h
        exact absurd h (by simp)
      · rw [if_neg h2] at h ⊢
        refine ⟨h0, ?_, ?_, drop_cons l s.at_ (by omega), ?_⟩
        · simp only; omega
        · simp only; omega
        · simp only; omega
  · rw [if_neg h0] at h
    exact absurd h h0
theorem rd1_back {l : List Int} (hb : Bys l) {k : Int} {s : Rs} (h : (rd1 l k s).2.e = 0) : s.e = 0 ∧ l.drop s.at_ = (if k ≠ 0 then opB (rd1 l k s).1 else []) ++ l.drop (rd1 l k s).2.at_ := by
  unfold rd1 at h ⊢
  by_cases hk : k = 0
  · rw [if_pos hk] at h ⊢
    rw [if_neg (by simp [hk])]
    exact ⟨h, rfl⟩
  · rw [if_neg hk] at h ⊢
    rw [if_pos hk]
    obtain ⟨h1, h2, h3, h4⟩ := rdV_back hb (er := 3) (may := mayN) (by decide) h
    refine ⟨h1, ?_⟩
    unfold opB
    simp only
    have e : (rdN l s).1 - 1 + 1 = (rdN l s).1 := by omega
    rw [e]
    exact h4
theorem insB_eq (x : In) : insB x = form x.op.toNat ++ ((if (kin x.op).1 ≠ 0 then opB x.a else []) ++ ((if (kin x.op).2.1 ≠ 0 then opB x.b else []) ++ (if (kin x.op).2.2 ≠ 0 then opB x.c else []))) := by
  unfold insB nmd
  generalize kin x.op = k
  obtain ⟨k0, k1, k2⟩ := k
  simp only [nmj, kat, oat, List.nil_append]
  have e : ∀ (c : Prop) [Decidable c] (a : Int), (if c then [a] else ([] : List Int)).flatMap opB = if c then opB a else [] := fun c _ a => by split <;> simp
  rw [List.flatMap_append, List.flatMap_append, e, e, e, List.append_assoc]
theorem rdI_back {l : List Int} (hb : Bys l) {enc : Bool} {s : Rs} (h : (rdI l enc s).2.e = 0) : s.e = 0 ∧ l.drop s.at_ = insB (rdI l enc s).1 ++ l.drop (rdI l enc s).2.at_ := by
  rw [insB_eq]
  unfold rdI at h ⊢
  simp only at h ⊢
  obtain ⟨c1, c2⟩ := rd1_back hb h
  obtain ⟨b1, b2⟩ := rd1_back hb c1
  obtain ⟨a1, a2⟩ := rd1_back hb b1
  obtain ⟨o1, o2, o3, o4⟩ := rdV_back hb (by decide) a1
  refine ⟨o1, ?_⟩
  rw [List.append_assoc, List.append_assoc, List.append_assoc, ← c2, ← b2, ← a2, ← o4]
theorem rdM_back {α : Type} {l : List Int} {f : Rs → α × Rs} {g : α → List Int} (hf : ∀ s, (f s).2.e = 0 → s.e = 0 ∧ l.drop s.at_ = g (f s).1 ++ l.drop (f s).2.at_) : ∀ (n : Nat) (s : Rs), (rdM f n s).2.2.e = 0 → s.e = 0 ∧ (rdM f n s).2.1.length = n ∧ l.drop s.at_ = (rdM f n s).2.1.flatMap g ++ l.drop (rdM f n s).2.2.at_
  | 0, s, h => ⟨h, rfl, rfl⟩
  | n + 1, s, h => by
    by_cases h0 : s.e = 0
    · rw [rdM, if_pos h0] at h ⊢
      simp only at h ⊢
      obtain ⟨r1, r2, r3⟩ := rdM_back hf n (f s).2 h
      obtain ⟨f1, f2⟩ := hf s r1
      refine ⟨h0, by rw [List.length_cons, r2], ?_⟩
      rw [List.flatMap_cons, List.append_assoc, ← r3, ← f2]
    · rw [rdM_stop f (n + 1) s h0] at h
      exact absurd h h0
theorem pgm_back {l : List Int} (hb : Bys l) (h : (pgm l).s.e = 0) : encP (pgm l).enc (pgm l).C (pgm l).E = l := by
  unfold pgm at h ⊢
  simp only at h ⊢
  generalize ho1 : rdO l ⟨0, 0, 0⟩ 109 109 = o1 at h ⊢
  generalize ho2 : rdO l o1.2 0 1 = o2 at h ⊢
  generalize hn : rdV l o2.2 4 mayC = n at h ⊢
  generalize hes : rdM (rdN l) n.1.toNat n.2 = es at h ⊢
  generalize hm : rdV l es.2.2 4 mayC = m at h ⊢
  generalize hcs : rdM (rdI l (o2.1 == 1)) m.1.toNat m.2 = cs at h ⊢
  have hend : cs.2.2.e = 0 ∧ ¬ cs.2.2.at_ < l.length := by
    by_cases hl : cs.2.2.at_ < l.length
    · rw [if_pos hl] at h
      unfold rfs at h
      by_cases he : cs.2.2.e = 0
      · rw [if_pos he] at h; exact absurd h (by simp)
      · rw [if_neg he] at h; exact absurd h he
    · rw [if_neg hl] at h; exact ⟨h, hl⟩
  obtain ⟨he, hl⟩ := hend
  obtain ⟨c1, c2, c3⟩ := rdM_back (l := l) (g := insB) (fun s hs => rdI_back hb hs) m.1.toNat m.2 (by rw [hcs]; exact he)
  rw [hcs] at c2 c3
  obtain ⟨m1, m2, m3, m4⟩ := rdV_back hb (s := es.2.2) (er := 4) (may := mayC) (by decide) (by rw [hm]; exact c1)
  rw [hm] at m2 m3 m4
  obtain ⟨e1, e2, e3⟩ := rdM_back (l := l) (f := rdN l) (g := entB) (fun s hs => by
    obtain ⟨q1, q2, q3, q4⟩ := rdV_back hb (er := 3) (may := mayN) (by decide) hs
    exact ⟨q1, q4⟩) n.1.toNat n.2 (by rw [hes]; exact m1)
  rw [hes] at e2 e3
  obtain ⟨n1, n2, n3, n4⟩ := rdV_back hb (s := o2.2) (er := 4) (may := mayC) (by decide) (by rw [hn]; exact e1)
  rw [hn] at n2 n3 n4
  have k1 : o1.2.e = 0 ∧ o1.2.at_ ≤ l.length := by
    have q : o2.2.e = 0 := n1
    by_cases hq : o1.2.e = 0
    · have := rdO_back (l := l) (s := ⟨0, 0, 0⟩) (lo := 109) (hi := 109) (Nat.zero_le _) (by rw [ho1]; exact hq)
      rw [ho1] at this
      exact ⟨hq, this.2.2.2.2⟩
    · rw [← ho2] at q
      unfold rdO at q
      rw [if_neg hq] at q
      exact absurd q hq
  obtain ⟨p1, p2, p3, p4, p5⟩ := rdO_back (l := l) (s := o1.2) (lo := 0) (hi := 1) k1.2 (by rw [ho2]; exact n1)
  rw [ho2] at p2 p3 p4
  obtain ⟨t1, t2, t3, t4, t5⟩ := rdO_back (l := l) (s := ⟨0, 0, 0⟩) (lo := 109) (hi := 109) (Nat.zero_le _) (by rw [ho1]; exact k1.1)
  rw [ho1] at t2 t3 t4
  have e109 : o1.1 = 109 := by omega
  have ebit : (if (o2.1 == 1) = true then (1 : Int) else 0) = o2.1 := by
    have : o2.1 = 0 ∨ o2.1 = 1 := by omega
    rcases this with h | h <;> rw [h] <;> rfl
  unfold encP
  rw [ebit, e2, c2]
  have hd : l.drop cs.2.2.at_ = [] := List.drop_eq_nil_of_le (by omega)
  rw [hd, List.append_nil] at c3
  have t4' : l = o1.1 :: l.drop o1.2.at_ := t4
  conv => rhs; rw [t4', e109, p4, n4, e3, m4, c3]
  simp [List.append_assoc]
/-- What is decoded is encoded to the same bytes. -/
theorem enc_dec {l : List Int} (hb : Bys l) (h : (decF l).1 = 0) : encP (decE l) (decC l) (decN l) = l := by
  have hp : (pgm l).s.e = 0 := by
    by_cases hq : (pgm l).s.e = 0
    · exact hq
    · unfold decF at h
      rw [if_pos hq] at h
      exact absurd h hq
  unfold decE decC decN
  rw [if_pos h, if_pos h, if_pos h]
  exact pgm_back hb hp
end Go.Proofs.YtlimcfnehhhmkaaDoor
/- Code, plain: bytes that are cut are short, at the cut; bytes with more behind have a tail, at the end. -/
namespace Go.Proofs.YtlimcfnehhhmkaaDoor
open Go.RowKit
set_option linter.unusedVariables false

/-- The reader stands ahead of the front of these bytes, not of all. -/
structure CutAt (l : List Int) (s : Rs) (r : List Int) : Prop where
  e : s.e = 0
  p : s.p = 0
  d : ∃ k, l.drop s.at_ = r.take k ∧ k < r.length ∧ s.at_ + k = l.length
/-- The bytes were short. -/
def Sh (l : List Int) (s : Rs) : Prop := s.e = 20 ∧ s.p = l.length
theorem Sh.ne {l : List Int} {s : Rs} (h : Sh l s) : s.e ≠ 0 := by rw [h.1]; decide
theorem Sh.rdV {l : List Int} {s : Rs} (h : Sh l s) (er : Int) (may : Int → Bool) : Sh l (rdV l s er may).2 := by
  unfold Go.Proofs.YtlimcfnehhhmkaaDoor.rdV
  rw [if_neg h.ne]
  exact h
theorem Sh.rdO {l : List Int} {s : Rs} (h : Sh l s) (lo hi : Int) : Sh l (rdO l s lo hi).2 := by
  unfold Go.Proofs.YtlimcfnehhhmkaaDoor.rdO
  rw [if_neg h.ne]
  exact h
theorem Sh.rd1 {l : List Int} {s : Rs} (h : Sh l s) (k : Int) : Sh l (rd1 l k s).2 := by
  unfold Go.Proofs.YtlimcfnehhhmkaaDoor.rd1
  split
  · exact h
  · exact h.rdV 3 mayN
theorem Sh.rdM {α : Type} {l : List Int} {s : Rs} (h : Sh l s) (f : Rs → α × Rs) (n : Nat) : Sh l (rdM f n s).2.2 := by
  rw [rdM_stop f n s h.ne]
  exact h
theorem CutAt.num {l : List Int} {s : Rs} {r : List Int} {n : Nat} (h : CutAt l s (form n ++ r)) (hn : n < 18446744073709551616) {er : Int} {may : Int → Bool} (hm : may (n : Int) = true) : (∃ s', rdV l s er may = ((n : Int), s') ∧ CutAt l s' r) ∨ Sh l (rdV l s er may).2 := by
  obtain ⟨k, d1, d2, d3⟩ := h.d
  rw [List.length_append] at d2
  by_cases hk : (form n).length ≤ k
  · left
    have d4 : l.drop s.at_ = form n ++ r.take (k - (form n).length) := by
      rw [d1, List.take_append, List.take_of_length_le hk]
    refine ⟨⟨s.at_ + (form n).length, 0, s.p⟩, ?_, rfl, h.p, k - (form n).length, ?_, by omega, ?_⟩
    · unfold rdV
      rw [if_pos h.e, d4, (get_form n hn _).getF]
      simp only
      rw [if_pos trivial, if_pos hm]
    · show l.drop (s.at_ + (form n).length) = _
      rw [← List.drop_drop, d4]
      simp
    · show s.at_ + (form n).length + (k - (form n).length) = l.length
      omega
  · right
    have d4 : l.drop s.at_ = (form n).take k := by
      rw [d1, List.take_append_of_le_length (by omega)]
    unfold rdV
    rw [if_pos h.e, d4, (get_cut n hn k (by omega)).getF]
    simp only
    rw [if_neg (by decide)]
    exact ⟨rfl, by simp only; rw [d3]⟩
theorem CutAt.byte {l : List Int} {s : Rs} {r : List Int} {c : Int} (h : CutAt l s (c :: r)) {lo hi : Int} (h1 : lo ≤ c) (h2 : c ≤ hi) : (∃ s', rdO l s lo hi = (c, s') ∧ CutAt l s' r) ∨ Sh l (rdO l s lo hi).2 := by
  obtain ⟨k, d1, d2, d3⟩ := h.d
  cases k with
  | zero =>
    right
    unfold rdO
    rw [if_pos h.e, if_pos (by omega)]
    exact ⟨rfl, by simp only; congr 1⟩
  | succ k =>
    left
    rw [List.take_succ_cons] at d1
    have hlt : s.at_ < l.length := by omega
    have hc := drop_cons l s.at_ hlt
    rw [d1] at hc
    injection hc with hg hd
    rw [List.length_cons] at d2
    refine ⟨⟨s.at_ + 1, 0, s.p⟩, ?_, rfl, h.p, k, hd.symm, by omega, ?_⟩
    · unfold rdO
      rw [if_pos h.e, if_neg (by omega), ← hg, if_neg (by omega)]
    · show s.at_ + 1 + k = l.length
      omega
theorem CutAt.ents {l r : List Int} : ∀ (E : List Int) (s : Rs), (∀ e ∈ E, 0 ≤ e ∧ e ≤ 2147483648) → CutAt l s (E.flatMap entB ++ r) → CutAt l (rdM (rdN l) E.length s).2.2 r ∨ Sh l (rdM (rdN l) E.length s).2.2
  | [], s, _, h => Or.inl (by simpa [rdM] using h)
  | e :: E, s, hE, h => by
    obtain ⟨h0, h1⟩ := hE e (by simp)
    obtain ⟨n, rfl⟩ := Int.eq_ofNat_of_zero_le h0
    have h' : CutAt l s (form n ++ (E.flatMap entB ++ r)) := by
      have := h
      rw [List.flatMap_cons, List.append_assoc] at this
      exact this
    rw [List.length_cons, rdM, if_pos h.e]
    simp only
    rcases h'.num (er := 3) (may := mayN) (by omega) (decide_eq_true (by omega)) with ⟨s1, e1, a1⟩ | hs
    · have e3 : rdN l s = ((n : Int), s1) := e1
      rw [e3]
      exact CutAt.ents E s1 (fun x hx => hE x (by simp [hx])) a1
    · exact Or.inr (Sh.rdM hs _ _)
theorem CutAt.op {l r : List Int} {s : Rs} {k a : Int} (ha : -1 ≤ a ∧ a ≤ 16777216) (h : CutAt l s ((if k ≠ 0 then opB a else []) ++ r)) : CutAt l (rd1 l k s).2 r ∨ Sh l (rd1 l k s).2 := by
  by_cases hk : k = 0
  · rw [if_neg (by simp [hk])] at h
    unfold rd1
    rw [if_pos hk]
    exact Or.inl (by simpa using h)
  · rw [if_pos hk] at h
    obtain ⟨m, hm⟩ := Int.eq_ofNat_of_zero_le (show 0 ≤ a + 1 by omega)
    have h' : CutAt l s (form m ++ r) := by
      have := h
      unfold opB at this
      rw [hm] at this
      exact this
    unfold rd1
    rw [if_neg hk]
    simp only
    rcases h'.num (er := 3) (may := mayN) (by omega) (decide_eq_true (by omega)) with ⟨s1, e1, a1⟩ | hs
    · have e3 : rdN l s = ((m : Int), s1) := e1
      rw [e3]
      exact Or.inl a1
    · exact Or.inr hs
theorem CutAt.ins {l r : List Int} {s : Rs} {enc : Bool} {nc ne : Int} {x : In} (h1 : nc ≤ 1048576) (h2 : ne ≤ 1048576) (hx : frmX enc nc ne x = true) (h : CutAt l s (insB x ++ r)) : CutAt l (rdI l enc s).2 r ∨ Sh l (rdI l enc s).2 := by
  have hin := frmX_inB h1 h2 hx
  obtain ⟨p0, p1, p2, p3⟩ := frmX_parts hx
  obtain ⟨n, hn⟩ := Int.eq_ofNat_of_zero_le (show 0 ≤ x.op by have := hin.op; omega)
  have hn47 : n ≤ 47 := by have := hin.op; omega
  rw [insB_eq, hn, Int.toNat_natCast, List.append_assoc, List.append_assoc, List.append_assoc] at h
  have hmay : mayI enc (n : Int) = true := by unfold mayI; rw [decide_eq_true (by omega), ← hn, p0]; rfl
  have q := hin.nm
  unfold rdI
  simp only
  rcases h.num (er := 140) (may := mayI enc) (by omega) hmay with ⟨s1, e1, a1⟩ | hs
  · rw [e1]
    simp only
    rcases CutAt.op (q 0 (by omega)) a1 with a2 | hs
    · rcases CutAt.op (q 1 (by omega)) a2 with a3 | hs
      · exact CutAt.op (q 2 (by omega)) a3
      · exact Or.inr (hs.rd1 _)
    · exact Or.inr ((hs.rd1 _).rd1 _)
  · exact Or.inr (((hs.rd1 _).rd1 _).rd1 _)
theorem CutAt.code {l r : List Int} {enc : Bool} {nc ne : Int} (h1 : nc ≤ 1048576) (h2 : ne ≤ 1048576) : ∀ (C : List In) (s : Rs), (∀ x ∈ C, frmX enc nc ne x = true) → CutAt l s (C.flatMap insB ++ r) → CutAt l (rdM (rdI l enc) C.length s).2.2 r ∨ Sh l (rdM (rdI l enc) C.length s).2.2
  | [], s, _, h => Or.inl (by simpa [rdM] using h)
  | x :: C, s, hC, h => by
    have h' : CutAt l s (insB x ++ (C.flatMap insB ++ r)) := by
      have := h
      rw [List.flatMap_cons, List.append_assoc] at this
      exact this
    rw [List.length_cons, rdM, if_pos h.e]
    simp only
    rcases h'.ins h1 h2 (hC x (by simp)) with a1 | hs
    · exact CutAt.code h1 h2 C _ (fun y hy => hC y (by simp [hy])) a1
    · exact Or.inr (Sh.rdM hs _ _)
theorem Chk.ents {enc : Bool} {C : List In} {E : List Int} (h : Chk enc C E) : ∀ e ∈ E, 0 ≤ e ∧ e ≤ 2147483648 := by
  intro e he
  have := h.nc
  obtain ⟨i, hi, rfl⟩ := List.mem_iff_getElem.1 he
  have := h.ent i hi
  rw [List.getD, List.getElem?_eq_getElem hi, Option.getD_some] at this
  omega
theorem Chk.frms {enc : Bool} {C : List In} {E : List Int} (h : Chk enc C E) : ∀ x ∈ C, frmX enc C.length E.length x = true := by
  intro x hx
  obtain ⟨i, hi, rfl⟩ := List.mem_iff_getElem.1 hx
  have := h.code i hi
  unfold frm at this
  rw [List.getElem?_eq_getElem hi] at this
  simp only [Bool.and_eq_true] at this
  exact this.1
/-- Cut anywhere it is short, at the cut. -/
theorem dec_cut {enc : Bool} {C : List In} {E : List Int} (h : Chk enc C E) {i : Nat} (hi : i < (encP enc C E).length) : decF ((encP enc C E).take i) = (20, (i : Int)) := by
  have hnc := h.nc
  have hne := h.ne
  obtain ⟨l, hl⟩ : ∃ l, (encP enc C E).take i = l := ⟨_, rfl⟩
  have hll : l.length = i := by rw [← hl, List.length_take]; omega
  rw [hl]
  have a0 : CutAt l ⟨0, 0, 0⟩ (109 :: (if enc then 1 else 0) :: (form E.length ++ (E.flatMap entB ++ (form C.length ++ (C.flatMap insB ++ []))))) := by
    have e : (109 :: (if enc then 1 else 0) :: (form E.length ++ (E.flatMap entB ++ (form C.length ++ (C.flatMap insB ++ []))))) = encP enc C E := by
      unfold encP
      simp [List.append_assoc]
    rw [e]
    exact ⟨rfl, rfl, i, by rw [← hl]; rfl, hi, by simp only; omega⟩
  have hb : (((if enc = true then (1 : Int) else 0)) == 1) = enc := by cases enc <;> rfl
  have hs : Sh l (pgm l).s := by
    suffices hcs : Sh l (rdM (rdI l ((rdO l (rdO l ⟨0, 0, 0⟩ 109 109).2 0 1).1 == 1)) (rdV l (rdM (rdN l) (rdV l (rdO l (rdO l ⟨0, 0, 0⟩ 109 109).2 0 1).2 4 mayC).1.toNat (rdV l (rdO l (rdO l ⟨0, 0, 0⟩ 109 109).2 0 1).2 4 mayC).2).2.2 4 mayC).1.toNat (rdV l (rdM (rdN l) (rdV l (rdO l (rdO l ⟨0, 0, 0⟩ 109 109).2 0 1).2 4 mayC).1.toNat (rdV l (rdO l (rdO l ⟨0, 0, 0⟩ 109 109).2 0 1).2 4 mayC).2).2.2 4 mayC).2).2.2 by
      unfold pgm
      simp only
      split
      · unfold rfs
        rw [if_neg hcs.ne]
        exact hcs
      · exact hcs
    rcases a0.byte (lo := 109) (hi := 109) (by omega) (by omega) with ⟨s1, e1, a1⟩ | hs
    · rw [e1]
      simp only
      rcases a1.byte (lo := 0) (hi := 1) (by split <;> omega) (by split <;> omega) with ⟨s2, e2, a2⟩ | hs
      · rw [e2]
        simp only [hb]
        rcases a2.num (er := 4) (may := mayC) (by omega) (decide_eq_true (by omega)) with ⟨s3, e3, a3⟩ | hs
        · rw [e3]
          simp only [Int.toNat_natCast]
          rcases CutAt.ents E s3 h.ents a3 with a4 | hs
          · rcases a4.num (er := 4) (may := mayC) (by omega) (decide_eq_true (by omega)) with ⟨s5, e5, a5⟩ | hs
            · rw [e5]
              simp only [Int.toNat_natCast]
              rcases CutAt.code (enc := enc) (nc := C.length) (ne := E.length) (by omega) (by omega) C s5 h.frms a5 with a6 | hs
              · obtain ⟨k, _, hk, _⟩ := a6.d
                exact absurd hk (by simp)
              · exact hs
            · exact Sh.rdM hs _ _
          · exact Sh.rdM (hs.rdV _ _) _ _
        · exact Sh.rdM ((Sh.rdM hs _ _).rdV _ _) _ _
      · exact Sh.rdM ((Sh.rdM (hs.rdV _ _) _ _).rdV _ _) _ _
    · exact Sh.rdM ((Sh.rdM ((hs.rdO _ _).rdV _ _) _ _).rdV _ _) _ _
  unfold decF
  rw [if_pos hs.ne, hs.1, hs.2, hll]
/-- With bytes behind there is a tail, at the end. -/
theorem dec_tail {enc : Bool} {C : List In} {E : List Int} (h : Chk enc C E) {more : List Int} (hm : more ≠ []) : decF (encP enc C E ++ more) = (124, ((encP enc C E).length : Int)) := by
  have hnc := h.nc
  have hne := h.ne
  have hml : 0 < more.length := List.length_pos_iff.2 hm
  obtain ⟨l, hl⟩ : ∃ l, encP enc C E ++ more = l := ⟨_, rfl⟩
  have hll : l.length = (encP enc C E).length + more.length := by rw [← hl, List.length_append]
  rw [hl]
  have a0 : At l ⟨0, 0, 0⟩ (109 :: (if enc then 1 else 0) :: (form E.length ++ (E.flatMap entB ++ (form C.length ++ (C.flatMap insB ++ more))))) := ⟨rfl, rfl, by
    show l.drop 0 = _
    rw [← hl]
    unfold encP
    simp [List.append_assoc]⟩
  obtain ⟨s1, e1, a1⟩ := a0.byte (lo := 109) (hi := 109) (by omega) (by omega)
  obtain ⟨s2, e2, a2⟩ := a1.byte (lo := 0) (hi := 1) (by split <;> omega) (by split <;> omega)
  obtain ⟨s3, e3, a3⟩ := a2.num (er := 4) (may := mayC) (by omega) (decide_eq_true (by omega))
  obtain ⟨ea, s4, e4, a4⟩ := At.ents E s3 h.ents a3
  obtain ⟨s5, e5, a5⟩ := a4.num (er := 4) (may := mayC) (by omega) (decide_eq_true (by omega))
  obtain ⟨ca, s6, e6, a6⟩ := At.code (enc := enc) (nc := C.length) (ne := E.length) (by omega) (by omega) C s5 h.frms a5
  have h6 := congrArg List.length a6.d
  rw [List.length_drop] at h6
  have hat : s6.at_ = (encP enc C E).length := by omega
  have hb : (((if enc = true then (1 : Int) else 0)) == 1) = enc := by cases enc <;> rfl
  have hs : (pgm l).s = ⟨s6.at_, 124, s6.at_⟩ := by
    unfold pgm
    simp only [e1, e2, e3, e4, e5, hb, e6, Int.toNat_natCast]
    rw [if_pos (by omega)]
    unfold rfs
    rw [if_pos a6.e]
  unfold decF
  rw [hs]
  simp only
  rw [if_pos (by decide), hat]
end Go.Proofs.YtlimcfnehhhmkaaDoor
/- What the reading of a program says of memory. -/
namespace Go.Proofs.YtlimcfnehhhmkaaDoor
open Go.ChangeShapes Go.WideShapes Go.ChangeAt Go.RowKit
set_option linter.unusedVariables false

variable {H : Type} {enc : TypeId × Value → H} {w : World} {base : Nat} {held : Bool}
theorem len3P {cs : List Value} (h : cs.length = 3) : ∃ c0 c1 c2, cs = [c0, c1, c2] := by
  match cs, h with
  | [c0, c1, c2], _ => exact ⟨c0, c1, c2, rfl⟩
theorem len4P {cs : List Value} (h : cs.length = 4) : ∃ c0 c1 c2 c3, cs = [c0, c1, c2, c3] := by
  match cs, h with
  | [c0, c1, c2, c3], _ => exact ⟨c0, c1, c2, c3, rfl⟩
theorem cellsIn : Tryd.prog.cellsOf 28 = 4 := by kernel_rfl
theorem cellsPg : Tryd.prog.cellsOf 26 = 3 := by kernel_rfl
theorem cellsIt : Tryd.prog.cellsOf 3 = 1 := by kernel_rfl
theorem bytesIn : Tryd.prog.bytesOf 28 = 32 := by kernel_rfl
theorem bytesIt : Tryd.prog.bytesOf 3 = 8 := by kernel_rfl
theorem slice_weightP {P : Program} {t e : TypeId} (ht : P.underlying t = some (.slice e)) {fuel : Nat} {a0 : Option Addr} {len cap : Nat} {y : DataW H × List MemPlace} (h : DataW.trod enc P w base (fun _ => true) held fuel t [.slice a0 len cap] = some y) : len = 0 ∨ ∃ k, len ≤ k ∧ k * P.bytesOf e ∈ y.1.weights P t := by
  rcases Go.Deep.open_slice ht h with ⟨hcs, _⟩ | ⟨x, l, c, m, n, D, Pl, hcs, _, hl, hm, hmm, hy, hel⟩
  · left
    simp at hcs
    exact hcs.2.1
  · simp at hcs
    obtain ⟨rfl, rfl, rfl⟩ := hcs
    right
    subst hy
    simp only [DataW.weights, ht]
    refine ⟨_, ?_, List.mem_cons_self⟩
    simp
theorem slice_formP {P : Program} {t e : TypeId} (ht : P.underlying t = some (.slice e)) {fuel : Nat} {c : Value} {y : DataW H × List MemPlace} (h : DataW.trod enc P w base (fun _ => true) held fuel t [c] = some y) : ∃ a n cap, c = .slice a n cap ∧ n ≤ cap ∧ (a = none → cap = 0) ∧ n ≤ maxLen ∧ cap ≤ maxLen := by
  rcases Go.Deep.open_slice ht h with ⟨hcs, _⟩ | ⟨x, l, c', m, n, D, Pl, hcs, _, hl, hm, _⟩
  · simp at hcs
    exact ⟨none, 0, 0, hcs, Nat.le_refl _, fun _ => rfl, Nat.zero_le _, Nat.zero_le _⟩
  · simp at hcs
    exact ⟨some x, l, c', hcs, hl, (fun h => by cases h), Nat.le_trans hl hm, hm⟩
theorem list_ofP {α : Type} (n : Nat) (Q : Nat → α → Prop) (h : ∀ i, i < n → ∃ x, Q i x) : ∃ l : List α, l.length = n ∧ ∀ i x, l[i]? = some x → Q i x := by
  induction n with
  | zero => exact ⟨[], rfl, fun i x h => by simp at h⟩
  | succ n ih =>
    obtain ⟨l, h1, h2⟩ := ih (fun i hi => h i (by omega))
    obtain ⟨x, hx⟩ := h n (by omega)
    refine ⟨l ++ [x], by simp [h1], fun i y hy => ?_⟩
    rcases Nat.lt_or_ge i l.length with hi | hi
    · rw [List.getElem?_append_left hi] at hy; exact h2 i y hy
    · rw [List.getElem?_append_right hi] at hy
      have h0 : i - l.length = 0 := by have := (List.getElem?_eq_some_iff.1 hy).1; simpa using this
      rw [h0] at hy
      simp at hy
      subst hy
      obtain rfl : i = n := by omega
      exact hx
theorem instr_open {fuel : Nat} {cs : List Value} {y : DataW H × List MemPlace} (h : DataW.trod enc Tryd.prog w base (fun _ => true) held fuel 28 cs = some y) : ∃ x : In, cs = inc x := by
  obtain ⟨hl, m, hf⟩ := field_read Tryd.underlying28 h
  rw [cellsIn] at hl
  obtain ⟨c0, c1, c2, c3, rfl⟩ := len4P hl
  obtain ⟨y0, t0⟩ := hf 0 _ c0 rfl (by kernel_rfl) rfl
  obtain ⟨y1, t1⟩ := hf 1 _ c1 rfl (by kernel_rfl) rfl
  obtain ⟨y2, t2⟩ := hf 2 _ c2 rfl (by kernel_rfl) rfl
  obtain ⟨y3, t3⟩ := hf 3 _ c3 rfl (by kernel_rfl) rfl
  obtain ⟨a0, k0, _, _⟩ := DataW.trod_int Tryd.underlying3 t0
  obtain ⟨a1, k1, _, _⟩ := DataW.trod_int Tryd.underlying3 t1
  obtain ⟨a2, k2, _, _⟩ := DataW.trod_int Tryd.underlying3 t2
  obtain ⟨a3, k3, _, _⟩ := DataW.trod_int Tryd.underlying3 t3
  simp at k0 k1 k2 k3
  subst k0 k1 k2 k3
  exact ⟨⟨a0, a1, a2, a3⟩, rfl⟩
theorem instrs_open {fuel : Nat} {c : Value} {y : DataW H × List MemPlace} (h : DataW.trod enc Tryd.prog w base (fun _ => true) held fuel 23 [c] = some y) (hw : ∀ k ∈ y.1.weights Tryd.prog 23, k ≤ 140737488351232) :
    ∃ a cap l, c = .slice a l.length cap ∧ l.length ≤ cap ∧ (a = none → cap = 0) ∧ IRow w a l ∧ l.length ≤ 4398046510976 ∧ cap ≤ 9223372036854775807 := by
  obtain ⟨a, n, cap, rfl, hc, hz, _, hmx⟩ := slice_formP Tryd.underlying23 h
  unfold maxLen at hmx
  have hb : n ≤ 4398046510976 := by
    rcases slice_weightP Tryd.underlying23 h with h0 | ⟨k, h1, h2⟩
    · omega
    · have := hw _ h2
      rw [bytesIn] at this
      omega
  rcases structs_read Tryd.underlying23 (by rw [cellsIn]; omega) h with h0 | ⟨b, off, m, rfl, hbl, hlc, hcm, hel⟩
  · subst h0
    exact ⟨a, cap, [], rfl, hc, hz, .inl rfl, by simp, by omega⟩
  · rw [cellsIn] at hel
    obtain ⟨N, hN, hQ⟩ := list_ofP n (fun i (x : In) => ∀ j, j < 4 → w.cell? ⟨b, off + i * 4 + j, none⟩ = (inc x)[j]?) (fun i hi => by
      obtain ⟨cs, z, _, hcell, ht⟩ := hel i hi
      obtain ⟨x, rfl⟩ := instr_open ht
      exact ⟨x, hcell⟩)
    subst hN
    exact ⟨some ⟨b, off, none⟩, cap, N, rfl, hc, hz, .inr ⟨b, off, rfl, hbl, fun i x hx => hQ i x hx⟩, hb, by omega⟩
theorem prog_open {fuel : Nat} {cs : List Value} {y : DataW H × List MemPlace} (h : DataW.trod enc Tryd.prog w base (fun _ => true) held fuel 26 cs = some y) (hw : ∀ k ∈ y.1.weights Tryd.prog 26, k ≤ 140737488351232) :
    ∃ en ac cc C ae ce E, cs = [.bool en, .slice ac C.length cc, .slice ae E.length ce] ∧ C.length ≤ cc ∧ (ac = none → cc = 0) ∧ IRow w ac C ∧ C.length ≤ 4398046510976 ∧ cc ≤ 9223372036854775807 ∧ E.length ≤ ce ∧ (ae = none → ce = 0) ∧ Row .i64 w ae E ∧ E.length ≤ 17592186043904 := by
  obtain ⟨hl, m, hf⟩ := field_weigh Tryd.underlying26 h
  rw [cellsPg] at hl
  obtain ⟨c0, c1, c2, rfl⟩ := len3P hl
  obtain ⟨y0, t0, u0⟩ := hf 0 _ c0 rfl (by kernel_rfl) rfl
  obtain ⟨y1, t1, u1⟩ := hf 1 _ c1 rfl (by kernel_rfl) rfl
  obtain ⟨y2, t2, u2⟩ := hf 2 _ c2 rfl (by kernel_rfl) rfl
  obtain ⟨en, k0, _⟩ := DataW.trod_bool Tryd.underlying4 t0
  obtain ⟨ac, cc, C, rfl, e1, e2, e3, e4, e5⟩ := instrs_open t1 (fun k hk => hw k (u1 k hk))
  obtain ⟨ae, n, ce, E, rfl, f1, f2, f3, f4, f5, -, f6⟩ := row_weigh Tryd.underlying24 Tryd.underlying3 cellsIt t2
  simp at k0
  subst k0 f3
  refine ⟨en, ac, cc, C, ae, ce, E, rfl, e1, e2, e3, e4, e5, f1, f5, f4, ?_⟩
  rcases f6 with h | h
  · omega
  · have := hw _ (u2 _ h)
    rw [bytesIt] at this
    omega
end Go.Proofs.YtlimcfnehhhmkaaDoor
/- What the rows' lists of laid variables give, and a world in which they hold. -/
namespace Go.Proofs.YtlimcfnehhhmkaaDoor
open Go.RowKit
set_option linter.unusedVariables false

theorem own : ownKnob Tryd.prog.godebug = none := by kernel_rfl
theorem laidOut : laidOutB Tryd.prog = true := by kernel_rfl
theorem gPow : Tryd.prog.globalNamed "internal/strconv.uint64pow10" = some 0 := by kernel_rfl
theorem gPowT : (Tryd.prog.globals[0]?).map (·.type) = some 123 := by kernel_rfl
theorem cellsPow : Tryd.prog.cellsOf 123 = 20 := by kernel_rfl
theorem laid_pow : (Rows.laid_internal_strconv_uint64pow10 : DataW Unit) = Lib.tabData .u64 Lib.pow10Tab := by kernel_rfl
theorem tab_of {W : World} (h : laidMetH Tryd.prog Rows.codeLimitsRow.laid W) : TabB W.heap.size W := by
  have h1 : laidMet Tryd.prog Rows.codeLimitsRow.laid W := h
  have h2 : laidMet Tryd.prog [("internal/strconv.uint64pow10", Rows.laid_internal_strconv_uint64pow10)] W := laidMet.tail (laidMet.tail h1)
  rw [laid_pow] at h2
  have h3 := Lib.tabIs_of_head (e := 59) gPow gPowT (by kernel_rfl) (by kernel_rfl) (by kernel_rfl) cellsPow h2
  have h4 := World.block_lt_of_cell? W _ (h3.cell gPow 0 (by decide))
  intro w' hB
  unfold Lib.TabIs World.var? at *
  rw [gPow] at h3 ⊢
  simp only [Option.bind_some] at h3 ⊢
  rw [hB.block 0 h4]
  exact h3
/-- The settled world w, the tables (blocks 0, 1, 2) holding what their initialisers lay. -/
def laidIn (w : World) : World :=
  { w with heap := ((w.heap.modify 0 fun
      | .cells _ t frozen => .cells (Lib.pow10Tab.map fun z => Value.int .u64 z).toArray t frozen
      | o => o).modify 1 fun
      | .cells _ t frozen => .cells #[.int .u8 0, .int .u8 1, .int .u8 28, .int .u8 2, .int .u8 29, .int .u8 14, .int .u8 24, .int .u8 3, .int .u8 30, .int .u8 22, .int .u8 20, .int .u8 15, .int .u8 25, .int .u8 17, .int .u8 4, .int .u8 8, .int .u8 31, .int .u8 27, .int .u8 13, .int .u8 23, .int .u8 21, .int .u8 19, .int .u8 16, .int .u8 7, .int .u8 26, .int .u8 12, .int .u8 18, .int .u8 6, .int .u8 11, .int .u8 5, .int .u8 10, .int .u8 9] t frozen
      | o => o).modify 2 fun
      | .cells _ t frozen => .cells #[.int .u8 0, .int .u8 1, .int .u8 56, .int .u8 2, .int .u8 57, .int .u8 49, .int .u8 28, .int .u8 3, .int .u8 61, .int .u8 58, .int .u8 42, .int .u8 50, .int .u8 38, .int .u8 29, .int .u8 17, .int .u8 4, .int .u8 62, .int .u8 47, .int .u8 59, .int .u8 36, .int .u8 45, .int .u8 43, .int .u8 51, .int .u8 22, .int .u8 53, .int .u8 39, .int .u8 33, .int .u8 30, .int .u8 24, .int .u8 18, .int .u8 12, .int .u8 5, .int .u8 63, .int .u8 55, .int .u8 48, .int .u8 27, .int .u8 60, .int .u8 41, .int .u8 37, .int .u8 16, .int .u8 46, .int .u8 35, .int .u8 44, .int .u8 21, .int .u8 52, .int .u8 32, .int .u8 23, .int .u8 11, .int .u8 54, .int .u8 26, .int .u8 40, .int .u8 15, .int .u8 34, .int .u8 20, .int .u8 31, .int .u8 10, .int .u8 25, .int .u8 14, .int .u8 19, .int .u8 9, .int .u8 13, .int .u8 8, .int .u8 7, .int .u8 6] t frozen
      | o => o }
end Go.Proofs.YtlimcfnehhhmkaaDoor
/- Code: programs that are made, as the outright statements use them. -/
namespace Go.Proofs.YtlimcfnehhhmkaaDoor
open Go.RowKit
set_option linter.unusedVariables false

theorem elU8 : Elem Tryd.prog 34 5 .u8 1 := ⟨Tryd.underlying34, Tryd.underlying5, by kernel_rfl⟩
theorem fbys {α : Type} {f : α → List Int} {l : List α} (h : ∀ x, Bys (f x)) : Bys (l.flatMap f) := fun x hx => by
  obtain ⟨a, _, ha⟩ := List.mem_flatMap.1 hx
  exact h a x ha
theorem encB_bys (enc : Bool) (C : List In) (E : List Int) : Bys (encP enc C E) := by
  unfold encP
  refine (((((?_ : Bys [109, if enc then 1 else 0]).append (form_bys _)).append (fbys (fun x => form_bys _))).append (form_bys _)).append (fbys (fun x => ?_)))
  · intro x hx
    cases enc <;> simp at hx <;> omega
  · unfold insB
    exact (form_bys _).append (fbys (fun n => form_bys _))
/-- A program of the call's own that has its form. -/
structure PrO (w : World) (B : Nat) (enc : Bool) (gC cC gE cE : Nat) (C : List In) (E : List Int) : Prop where
  c : COwn w B (.slice (some ⟨gC, 0, none⟩) C.length cC) C
  e : IOwn w B (.slice (some ⟨gE, 0, none⟩) E.length cE) E
  k : Chk enc C E
  c0 : 0 < C.length
  e0 : 0 < E.length
section
variable {w w' : World} {B : Nat} {enc : Bool} {gC cC gE cE : Nat} {C : List In} {E : List Int}
theorem PrO.later (h : PrO w B enc gC cC gE cE C E) (hB : Below w.heap.size w w') : PrO w' B enc gC cC gE cE C E := ⟨h.c.later hB, h.e.later hB, h.k, h.c0, h.e0⟩
theorem PrO.upd {S : Nat → Prop} {g : Nat} {ys : List Value} (h : PrO w B enc gC cC gE cE C E) (hb : Blk w g 26 ys) (hu : Upd (fun k => k = g) w w') : PrO w' B enc gC cC gE cE C E :=
  ⟨ownS_upd h.c hu (fun k e hk => by subst hk; exact notC h.c hb (by decide) e), h.e.upd hu (fun k e hk => by subst hk; exact notI h.e hb (by decide) e), h.k, h.c0, h.e0⟩
theorem PrO.crow (h : PrO w B enc gC cC gE cE C E) : IRow w (some ⟨gC, 0, none⟩) C ∧ C.length ≤ cC ∧ cC ≤ 9223372036854775807 := by
  obtain ⟨a, c, e1, e2, -, e3⟩ := h.c.row
  injection e1 with e4 _ e5
  subst e4 e5
  have := COwn.cap h.c
  unfold maxLen at this
  exact ⟨e3, e2, by omega⟩
theorem PrO.erow (h : PrO w B enc gC cC gE cE C E) : Row .i64 w (some ⟨gE, 0, none⟩) E ∧ E.length ≤ cE := by
  obtain ⟨a, c, e1, e2, -, e3⟩ := h.e.row
  injection e1 with e4 _ e5
  subst e4 e5
  exact ⟨e2, e3⟩
theorem PrO.encode (h : PrO w B enc gC cC gE cE C E) : Calls Tryd.prog 12 #[.agg #[.bool enc, .slice (some ⟨gC, 0, none⟩) C.length cC, .slice (some ⟨gE, 0, none⟩) E.length cE]] w fun e w' => (∃ v, e = .returned (.tuple #[v, .agg #[.int .i64 0, .int .i64 0]]) ∧ Hid (BOwn w' w.heap.size v (encP enc C E))) ∧ Below w.heap.size w w' := by
  obtain ⟨r1, r2, r3⟩ := h.crow
  obtain ⟨s1, s2⟩ := h.erow
  have k := h.k
  have k1 := k.nc; have k2 := k.ne
  have q := encode_any enc (some ⟨gC, 0, none⟩) (some ⟨gE, 0, none⟩) cC cE C E w r2 r3 (by omega) s2 (by omega) (hide_ r1) (hide_ s1)
  unfold encA at q
  rw [if_pos (chk_ok.2 k), chk_ok.2 k] at q
  exact q
end
theorem made_open {enc : Bool} {most : Nat} {w w' : World} {e : Ending} (h : MadeTo enc most w e w') : ∃ gC cC gE cE C E, e = .returned (.agg #[.bool enc, .slice (some ⟨gC, 0, none⟩) C.length cC, .slice (some ⟨gE, 0, none⟩) E.length cE]) ∧ PrO w' w.heap.size enc gC cC gE cE C E ∧ C.length ≤ most + 1 ∧ Below w.heap.size w w' := by
  obtain ⟨vC, vE, C, E, rfl, hk, h0, hm, hE, hoC, hoE, hB⟩ := h
  obtain ⟨gC, cC, yC, rfl, -⟩ := ownS_blk hoC h0
  obtain ⟨gE, cE, yE, rfl, -⟩ := ownS_blk hoE hE
  exact ⟨gC, cC, gE, cE, C, E, rfl, ⟨hoC, hoE, hk, h0, hE⟩, hm, hB⟩
/-- Bytes of the call's own, that are not none. -/
theorem bown_open {w : World} {B : Nat} {v : Value} {l : List Int} (h : BOwn w B v l) (h0 : 0 < l.length) : ∃ g c, v = .slice (some ⟨g, 0, none⟩) l.length c ∧ Row .u8 w (some ⟨g, 0, none⟩) l ∧ l.length ≤ c ∧ c ≤ 9223372036854775807 ∧ B ≤ g ∧ g < w.heap.size := by
  obtain ⟨a, c, rfl, h1, h2, h3, h4, h5⟩ := own_open h rfl
  obtain ⟨g, rfl, a1, a2, -, -⟩ := h5 h0
  exact ⟨g, c, rfl, h1, h3, by unfold maxLen at h4; omega, a1, a2⟩
theorem encP_pos (enc : Bool) (C : List In) (E : List Int) : 2 ≤ (encP enc C E).length := by unfold encP; simp
theorem chk_lim {enc : Bool} {C : List In} {E : List Int} (h : Chk enc C E) : (encP enc C E).length ≤ 60000000 := by
  have a := ent_len E (fun i hi => by have := h.ent i hi; have := h.nc; omega) E.length (Nat.le_refl _)
  have b := code_len C (fun i x hx => h.inB hx) C.length (Nat.le_refl _)
  rw [List.take_length] at a b
  have c := form_ten E.length (by have := h.ne; omega)
  have d := form_ten C.length (by have := h.nc; omega)
  have := h.nc; have := h.ne
  unfold encP
  simp only [List.length_append, List.length_cons, List.length_nil]
  omega
theorem dec_chk {l : List Int} (h : (decF l).1 = 0) : Chk (decE l) (decC l) (decN l) := by
  have hp : (pgm l).s.e = 0 := by
    by_cases hq : (pgm l).s.e = 0
    · exact hq
    · unfold decF at h
      rw [if_pos hq] at h
      exact absurd h hq
  have hc : (chk (pgm l).enc (pgm l).C (pgm l).E).1 = 0 := by
    by_cases hq : (chk (pgm l).enc (pgm l).C (pgm l).E).1 = 0
    · exact hq
    · unfold decF at h
      rw [if_neg (by omega), if_neg hq] at h
      split at h
      · cases h
      · exact absurd h hq
  unfold decE decC decN
  rw [if_pos h, if_pos h, if_pos h]
  exact chk_ok.1 (chk_zero hc)
theorem dec_none {l : List Int} (h : (decF l).1 ≠ 0) : decE l = false ∧ decC l = [] ∧ decN l = [] := by
  unfold decE decC decN
  rw [if_neg h, if_neg h, if_neg h]
  exact ⟨rfl, rfl, rfl⟩
end Go.Proofs.YtlimcfnehhhmkaaDoor
/- CodeBack: its walk. -/
namespace Go.Proofs.YtlimcfnehhhmkaaDoor
open Go.RowKit
set_option linter.unusedVariables false

set_option maxRecDepth 100000 in
set_option maxHeartbeats 16000000 in
theorem back_any (enc : Bool) (ac ae ab : Option Addr) (cc ce cb : Nat) (C0 : List In) (E0 lb : List Int) (w : World) (hCl : C0.length ≤ 4398046511104) (hel : E0.length ≤ 17592186044415) (hcn : ac = none → cc = 0) (hen : ae = none → ce = 0) (hr : Hid (IRow w ac C0)) (he : Hid (Row .i64 w ae E0)) (hbn : ab = none → cb = 0) (hlb : lb.length ≤ cb) (hcb : cb ≤ 9223372036854775000) (hbr : Hid (Row .u8 w ab lb)) (hby : Hid (Bys lb)) (hblt : Hid (∀ x, ab = some x → 0 < lb.length → x.block < w.heap.size)) (HT : Hid (TabB w.heap.size w)) :
    Calls Tryd.prog 5 #[.agg #[.bool enc, .slice ac C0.length cc, .slice ae E0.length ce], .slice ab lb.length cb] w fun e w' => e = .returned (.bool true) ∧ Below w.heap.size w w' := by
  obtain ⟨w1, hw1⟩ : ∃ wx, wx = w.alloc (.cells #[.bool enc, .slice ac C0.length cc, .slice ae E0.length ce] 26) := ⟨_, rfl⟩
  have hB1 : Below w.heap.size w w1 := by rw [hw1]; exact below1 _ _
  have KP1 : Hid (Blk w1 w.heap.size 26 [.bool enc, .slice ac C0.length cc, .slice ae E0.length ce]) := hide_ (by rw [hw1]; exact Blk.newA w _ _)
  have HAw := hide_ (awake_any w1 (hide_ (HT.out.at hB1)))
  have HB1 := hide_ hB1
  clear hB1
  go_enter Tryd.func5, Tryd.ntmps5
  go_upto_region 1 with fail
  rw [← hw1]
  clear hw1
  go_upto_region 3 with (go_at_call 9; refine HAw.out.mono ?_; rintro e w2 ⟨rfl, hB2⟩)
  have HB2 := hide_ (below_to HB1.out hB2)
  have KP2 := hide_ (KP1.out.later hB2)
  have HMd := hide_ (rmade_any enc ac ae cc ce C0 E0 400 w2 (by omega) hCl hel hcn hen (hide_ (hr.out.later HB2.out)) (hide_ (he.out.later HB2.out)))
  have p0 := KP2.out.cell 0; have p1 := KP2.out.cell 1; have p2 := KP2.out.cell 2
  simp at p0 p1 p2
  clear hB2 HAw HB1 KP1
  go_wp2_with fail
  refine HMd.out.mono ?_
  intro e w3 hmt
  obtain ⟨gC, cC, gE, cE, C, E, rfl, hpo, -, hB3⟩ := made_open hmt
  clear hmt
  have KP3 := hide_ (KP2.out.later hB3)
  have q0 := KP3.out.cell 0; have q1 := KP3.out.cell 1; have q2 := KP3.out.cell 2
  have qf := fun i => KP3.out.frozen i
  simp at q0 q1 q2
  obtain ⟨w4, hw4⟩ : ∃ wx, wx = ((w3.setCell ⟨w.heap.size, 0, none⟩ (.bool enc)).setCell ⟨w.heap.size, 1, none⟩ (.slice (some ⟨gC, 0, none⟩) C.length cC)).setCell ⟨w.heap.size, 2, none⟩ (.slice (some ⟨gE, 0, none⟩) E.length cE) := ⟨_, rfl⟩
  have KP4 : Hid (Blk w4 w.heap.size 26 [.bool enc, .slice (some ⟨gC, 0, none⟩) C.length cC, .slice (some ⟨gE, 0, none⟩) E.length cE]) := hide_ (by rw [hw4]; exact setP KP3.out _ _ _)
  have hU4 : Upd (fun k => k = w.heap.size) w3 w4 := by rw [hw4]; exact upd3 _ _ _ _ _
  have HPO : Hid (PrO w4 w2.heap.size enc gC cC gE cE C E) := hide_ (hpo.upd (S := fun _ => False) KP3.out hU4)
  have HB4 : Hid (Below w.heap.size w w4) := hide_ ((below_to HB2.out hB3).trans (hU4.below _ (below_to HB2.out hB3).size (fun k hk => by omega)))
  clear hU4 hpo hB3 HMd p0 p1 p2 KP2
  go_upto_region 4 with fail
  rw [← hw4]
  clear hw4 q0 q1 q2 qf KP3
  have p0 := KP4.out.cell 0; have p1 := KP4.out.cell 1; have p2 := KP4.out.cell 2
  simp at p0 p1 p2
  have HEn := hide_ HPO.out.encode
  have hl2 := encP_pos enc C E
  have hl6 := chk_lim HPO.out.k
  obtain ⟨d1, d2, d3, d4⟩ := dec_enc HPO.out.k
  have HBy := hide_ (encB_bys enc C E)
  generalize encP enc C E = lc at *
  go_wp2_with fail
  refine HEn.out.mono ?_
  rintro e w5 ⟨⟨vb, rfl, HOb⟩, hB5⟩
  obtain ⟨gb, cb5, rfl, hrb, hlc5, hcb5, -, hgb2⟩ := bown_open HOb.out (by omega)
  obtain ⟨w6, hw6⟩ : ∃ wx, wx = w5.alloc (.cells #[.int .i64 0, .int .i64 0] 32) := ⟨_, rfl⟩
  have hB6 : Below w5.heap.size w5 w6 := by rw [hw6]; exact below1 _ _
  have KA : Hid (Blk w6 w5.heap.size 32 [.int .i64 0, .int .i64 0]) := hide_ (by rw [hw6]; exact Blk.newA w5 _ _)
  have HDb := hide_ (decode_any (some ⟨gb, 0, none⟩) cb5 lc w6 hlc5 (by omega) (fun h => by cases h) HBy (hide_ (Row.later hrb hB6)) (hide_ (fun x hx _ => by injection hx with hx; subst hx; exact Nat.lt_of_lt_of_le hgb2 hB6.size)))
  rw [d1, d2, d3, d4] at HDb
  have HB46 := hide_ (below_to hB5 hB6)
  generalize lc.length = nb at *
  clear d1 d2 d3 d4 hB5 hB6 HEn p0 p1 p2 HOb hrb HBy hlc5 hcb5 hgb2 hl2 hl6
  go_upto_region 5 with fail
  rw [← hw6]
  clear hw6
  go_wp2_with fail
  refine HDb.out.mono ?_
  rintro e w7 ⟨vX, vN, rfl, HoX, HoN, hB7⟩
  obtain ⟨aX, cX, rfl, hcX, -, hrX⟩ := HoX.out.row
  obtain ⟨aN, cN, rfl, hrN, -, hcN⟩ := HoN.out.row
  obtain ⟨w8, hw8⟩ : ∃ wx, wx = (w7.alloc (.cells #[.bool enc, .slice aX C.length cX, .slice aN E.length cN] 26)).alloc (.cells #[.int .i64 0, .int .i64 0] 32) := ⟨_, rfl⟩
  have hB8 : Below w7.heap.size w7 w8 := by rw [hw8]; exact below2 _ _ _
  obtain ⟨kR, kF⟩ := blk2 w7 #[.bool enc, .slice aX C.length cX, .slice aN E.length cN] #[.int .i64 0, .int .i64 0] 26 32
  rw [← hw8] at kR kF
  have KR := hide_ kR
  have KB := hide_ kF
  have HRX := hide_ (GRow.later hrX hB8)
  have HRN := hide_ (Row.later hrN hB8)
  have HB68 := hide_ (below_to hB7 hB8)
  have HB48 := hide_ (below_to HB46.out HB68.out)
  have KA8 := hide_ (KA.out.later HB68.out)
  have KP8 := hide_ (KP4.out.later HB48.out)
  have HPO8 := hide_ (HPO.out.later HB48.out)
  have HB8 := hide_ (below_to HB4.out HB48.out)
  clear kR kF hrX hrN hB7 hB8 HoX HoN HDb KA KP4 HPO HB4 HB48 HB46 HB68 hcX hcN
  go_upto_region 6 with fail
  rw [← hw8]
  clear hw8
  have HEq : Hid (∀ w', Below w8.heap.size w8 w' → Calls Tryd.prog 14 #[.agg #[.bool enc, .slice (some ⟨gC, 0, none⟩) C.length cC, .slice (some ⟨gE, 0, none⟩) E.length cE], .agg #[.bool enc, .slice aX C.length cX, .slice aN E.length cN]] w' fun e w'' => e = .returned (.bool true) ∧ Below w'.heap.size w' w'') := hide_ (fun w' hb => by
    have k := HPO8.out.k; have k1 := k.nc; have k2 := k.ne
    have h := equal_any enc enc (some ⟨gC, 0, none⟩) aX (some ⟨gE, 0, none⟩) aN cC cX cE cN C C E E w' (by omega) (by omega) (by omega) (by omega) (hide_ (HPO8.out.later hb).crow.1) (hide_ (HRX.out.later hb)) (hide_ (HPO8.out.later hb).erow.1) (hide_ (HRN.out.later hb))
    rw [eqP_iff.2 ⟨rfl, rfl, rfl⟩] at h
    exact h)
  have HRq : Hid (∀ w', Below w8.heap.size w8 w' → Calls Tryd.prog 17 #[.agg #[.bool enc, .slice (some ⟨gC, 0, none⟩) C.length cC, .slice (some ⟨gE, 0, none⟩) E.length cE], .agg #[.bool enc, .slice aX C.length cX, .slice aN E.length cN]] w' fun e w'' => e = .returned (.bool true) ∧ Below w'.heap.size w' w'') := hide_ (fun w' hb => by
    have k := HPO8.out.k; have k1 := k.nc; have k2 := k.ne
    have h := requal_any enc enc (some ⟨gC, 0, none⟩) aX (some ⟨gE, 0, none⟩) aN cC cX cE cN C C E E w' (by omega) (by omega) (by omega) (by omega) (hide_ (HPO8.out.later hb).crow.1) (hide_ (HRX.out.later hb)) (hide_ (HPO8.out.later hb).erow.1) (hide_ (HRN.out.later hb))
    rw [eqP_iff.2 ⟨rfl, rfl, rfl⟩] at h
    exact h)
  have HCl : Hid (∀ w', Below w8.heap.size w8 w' → (w'.cell? ⟨w.heap.size, 0, none⟩ = some (.bool enc) ∧ w'.cell? ⟨w.heap.size, 1, none⟩ = some (.slice (some ⟨gC, 0, none⟩) C.length cC) ∧ w'.cell? ⟨w.heap.size, 2, none⟩ = some (.slice (some ⟨gE, 0, none⟩) E.length cE)) ∧ (w'.cell? ⟨w7.heap.size, 0, none⟩ = some (.bool enc) ∧ w'.cell? ⟨w7.heap.size, 1, none⟩ = some (.slice aX C.length cX) ∧ w'.cell? ⟨w7.heap.size, 2, none⟩ = some (.slice aN E.length cN))) := hide_ (fun w' hb => ⟨⟨(KP8.out.later hb).cell 0, (KP8.out.later hb).cell 1, (KP8.out.later hb).cell 2⟩, ⟨(KR.out.later hb).cell 0, (KR.out.later hb).cell 1, (KR.out.later hb).cell 2⟩⟩)
  have a0 := KA8.out.cell 0; have b0 := KB.out.cell 0
  obtain ⟨⟨s0, s1, s2⟩, ⟨t0, t1, t2⟩⟩ := HCl.out _ (Below.refl _ _)
  simp at a0 b0
  have HNu := hide_ (fun n w' => num_any n w')
  go_upto_region 8 with (first
    | (go_at_call 16; refine (HNu.out _ _).mono ?_; rintro e w' ⟨rfl, rfl⟩)
    | (go_at_call 14; refine (HEq.out _ (Below.refl _ _)).mono ?_; rintro e w9 ⟨rfl, hB9⟩; (have HB9 := hide_ hB9); clear hB9 s0 s1 s2 t0 t1 t2; obtain ⟨⟨s0, s1, s2⟩, ⟨t0, t1, t2⟩⟩ := HCl.out _ HB9.out)
    | (go_at_call 17; refine (HRq.out _ HB9.out).mono ?_; rintro e wa ⟨rfl, hBa⟩; (have HBa := hide_ (below_to HB9.out hBa)); clear hBa))
  have HBx := hide_ (below_to HB8.out HBa.out)
  clear s0 s1 s2 t0 t1 t2 a0 b0 HCl HEq HRq KP8 KR KA8 KB HPO8 HRX HRN HB8 HB9 HBa
  obtain ⟨n, hn⟩ : ∃ n, n = min lb.length 3000 := ⟨_, rfl⟩
  have hmn : min (lb.length : Int) 3000 = (n : Int) := by omega
  have hnl : n ≤ lb.length := by omega
  have hn3 : n ≤ 3000 := by omega
  have hnc : (n : Int) ≤ (cb : Int) := by omega
  have hlt' : (lb.take n).length = n := by rw [List.length_take]; omega
  have HLt := hide_ hlt'
  have hrow : Row .u8 wa ab (lb.take n) := (hbr.out.later HBx.out).take n
  have HD := decode_any ab cb (lb.take n) wa (by rw [hlt']; omega) (by rw [hlt']; omega) hbn (hide_ (hby.out.take n)) (hide_ hrow) (hide_ (fun x hx h0 => Nat.lt_of_lt_of_le (hblt.out x hx (by rw [hlt'] at h0; omega)) HBx.out.size))
  have HBt := hide_ (hby.out.take n)
  have HRt := hide_ hrow
  rw [hlt'] at HD
  have HDd := hide_ HD
  generalize lb.take n = lt at *
  have HLb := hide_ (And.intro hlb (And.intro hn hnl))
  clear HD hlt' hrow hn hlb
  go_upto_region 9 with fail
  go_wp2_with fail
  refine HDd.out.mono ?_
  rintro e wc ⟨vX, vN, rfl, HoX, HoN, hBc⟩
  obtain ⟨aY, cY, rfl, hcY, -, hrY⟩ := HoX.out.row
  obtain ⟨aM, cM, rfl, hrM, -, hcM⟩ := HoN.out.row
  have hcap := COwn.cap HoX.out
  unfold maxLen at hcap
  obtain ⟨wd, hwd⟩ : ∃ wx, wx = (wc.alloc (.cells #[.bool (decE lt), .slice aY (decC lt).length cY, .slice aM (decN lt).length cM] 26)).alloc (.cells #[.int .i64 (decF lt).1, .int .i64 (decF lt).2] 32) := ⟨_, rfl⟩
  have hBd : Below wc.heap.size wc wd := by rw [hwd]; exact below2 _ _ _
  obtain ⟨kS, kG⟩ := blk2 wc #[.bool (decE lt), .slice aY (decC lt).length cY, .slice aM (decN lt).length cM] #[.int .i64 (decF lt).1, .int .i64 (decF lt).2] 26 32
  rw [← hwd] at kS kG
  have HRY := hide_ (GRow.later hrY hBd)
  have HRM := hide_ (Row.later hrM hBd)
  have HBd := hide_ (below_to hBc hBd)
  have HRt2 := hide_ (HRt.out.later HBd.out)
  have HBz := hide_ (below_to HBx.out HBd.out)
  have g0 := kG.cell 0
  have s0 := kS.cell 0; have s1 := kS.cell 1; have s2 := kS.cell 2
  simp at g0 s0 s1 s2
  clear kS kG hrY hrM hBc hBd HoX HoN HDd
  go_upto_region 10 with fail
  rw [← hwd]
  clear hwd
  by_cases hz : (decF lt).1 = 0
  case neg =>
    obtain ⟨z1, z2, z3⟩ := dec_none hz
    rw [z1] at s0
    rw [z2] at s1
    rw [z3] at s2
    simp at s1 s2
    have hzb : ((decF lt).1 != 0) = true := by simpa using hz
    generalize (decF lt).1 = k1 at *
    generalize (decF lt).2 = k2 at *
    generalize decE lt = de at *
    generalize decC lt = dc at *
    generalize decN lt = dn at *
    subst z1 z2 z3
    clear hz
    go_wp2_with (go_at_call 16; refine (HNu.out _ _).mono ?_; rintro e w' ⟨rfl, rfl⟩)
    go_ret
    exact ⟨rfl, HBz.out⟩
  have hck := dec_chk hz
  have hed := enc_dec HBt.out hz
  have HEc := encode_any (decE lt) aY aM cY cM (decC lt) (decN lt) wd hcY (by omega) (by have := hck.nc; omega) hcM (by have := hck.ne; omega) HRY HRM
  unfold encA at HEc
  rw [if_pos (chk_ok.2 hck), chk_ok.2 hck, hed] at HEc
  have HEn := hide_ HEc
  have hzb : ((decF lt).1 != 0) = false := by simpa using hz
  clear HEc hck hed
  rw [hz] at g0
  clear hz hzb
  generalize (decF lt).1 = k1 at *
  generalize (decF lt).2 = k2 at *
  generalize decE lt = de at *
  generalize decC lt = dc at *
  generalize decN lt = dn at *
  go_upto_region 12 with (go_at_call 16; refine (HNu.out _ _).mono ?_; rintro e w' ⟨rfl, rfl⟩)
  go_wp2_with fail
  refine HEn.out.mono ?_
  rintro e we ⟨⟨vb, rfl, HOb⟩, hBe⟩
  obtain ⟨ag, cg, rfl, hrg, -, -, -⟩ := HOb.out.row
  obtain ⟨wf, hwf⟩ : ∃ wx, wx = we.alloc (.cells #[.int .i64 0, .int .i64 0] 32) := ⟨_, rfl⟩
  have hBf : Below we.heap.size we wf := by rw [hwf]; exact below1 _ _
  have kf : Blk wf we.heap.size 32 [.int .i64 0, .int .i64 0] := by rw [hwf]; exact Blk.newA we _ _
  have f0 := kf.cell 0
  simp at f0
  have cv1 := conv_row elU8 Tryd.underlying9 wf ag lt.length cg lt rfl (Row.later hrg hBf)
  have cv2 := conv_row elU8 Tryd.underlying9 wf ab n cb lt HLt.out (HRt2.out.later (below_to hBe hBf))
  have HBg := hide_ (below_to HBz.out (below_to hBe hBf))
  clear hBe hBf kf hrg HOb HEn g0 s0 s1 s2
  go_upto_region 13 with fail
  rw [← hwf]
  clear hwf
  go_wp2_with (go_at_call 16; refine (HNu.out _ _).mono ?_; rintro e w' ⟨rfl, rfl⟩)
  go_ret
  exact ⟨by simp, HBg.out⟩
end Go.Proofs.YtlimcfnehhhmkaaDoor
/- CodeBack, out of its walk. The frame round the walk is that of the tool proof-skeleton. -/
namespace Go.Proofs.YtlimcfnehhhmkaaDoor.codeBack
open Go.ChangeMaps Go.ChangeShapes Go.WideShapes Go.ChangeAt Go.RowKit
set_option linter.unusedVariables false

theorem tab_here {W : World} (h : laidMetH Tryd.prog Rows.codeBackRow.laid W) : TabB W.heap.size W := tab_of h
set_option maxRecDepth 100000 in
theorem contract (H : Type) (enc : TypeId × Value → H) (W : World) (base : Nat) (args : Array Value) (ds gs : List (DataW H)) (before : List MemPlace)
    (hval : ∀ (j : Nat) t v, Tryd.f5.params[j]? = some t → args[j]? = some v → Value.okWide Tryd.prog W .any base t v)
    (hW : DataW.Whole enc Tryd.prog Tryd.f5.params.toList Rows.codeBackSpec.vars false W args.toList ds gs before) (hsz0 : (DataW.weightsEach Tryd.prog (Tryd.f5.params.toList ++ Rows.codeBackSpec.plain.varTypes Tryd.prog) (ds ++ gs)).all (· ≤ reachBytes) = true) (hL : laidMetH Tryd.prog Rows.codeBackRow.laid W) :
    Calls Tryd.prog 5 args W fun e W' => ∃ v, e = .returned v ∧ Rows.codeBackSpec.post enc Tryd.prog Tryd.f5 false true false false W args v W' := by
  have hsz := hsz0
  have hW' := hW
  obtain ⟨p, q, hA0, hV, rfl, hfz, hnd⟩ := hW
  have hA : DataW.TrodAll enc Tryd.prog W 0 (fun _ => true) true Tryd.f5.params.toList args.toList ds p := hA0
  rw [Tryd.params5] at hA hval hsz
  obtain ⟨v0, vs0, d0, ds0, p0, q0, hargs, rfl, rfl, h0, r0⟩ := trodAll_cons hA
  obtain ⟨v1, vs1, d1, ds1, p1, q1, rfl, rfl, rfl, h1, r1⟩ := trodAll_cons r0
  obtain ⟨rfl, rfl, rfl⟩ := trodAll_nil r1
  obtain rfl : args = #[v0, v1] := by cases args; simp_all
  obtain ⟨rfl, rfl⟩ := trodVars_none hV
  obtain ⟨cs0, rfl, _⟩ := okWide_struct Tryd.underlying26 (hval 0 26 v0 rfl rfl)
  have k0 := h0
  have lt0 : ∀ x ∈ p0, x.block < W.heap.size := by obtain ⟨m, hm⟩ := k0; exact DataW.trod_lt m _ _ _ hm
  obtain ⟨a1, len1, cap1, rfl⟩ := okWide_slice Tryd.underlying34 (hval 1 34 v1 rfl rfl)
  have k1 := h1
  have lt1 : ∀ x ∈ p1, x.block < W.heap.size := by obtain ⟨m, hm⟩ := k1; exact DataW.trod_lt m _ _ _ hm
  have walk : Calls Tryd.prog 5 #[.agg cs0, .slice a1 len1 cap1] W fun e w' => e = .returned (.bool true) ∧ Below W.heap.size W w' := by
    have reach : ∀ (n : Nat), decide (n ≤ reachBytes) = true → n ≤ 140737488351232 := fun n hm => by
      have hm2 : n ≤ reachBytes := of_decide_eq_true hm
      rw [show reachBytes = 140737488351232 from rfl] at hm2
      exact hm2
    obtain ⟨fuel0, hf0⟩ := h0
    obtain ⟨en0, ac0, cc0, C0, ae0, ce0, E0, hcs0, hcC0, hnC0, hC0, hlC0, hmC0, hcE0, hnE0, hE0, hlE0⟩ := prog_open hf0 (fun n hn => reach n (List.all_eq_true.1 hsz _ (DataW.weights_mem_each (j := 0) rfl rfl _ hn)))
    have e0 : cs0 = #[.bool en0, .slice ac0 C0.length cc0, .slice ae0 E0.length ce0] := by
      have : cs0.toList = [.bool en0, .slice ac0 C0.length cc0, .slice ae0 E0.length ce0] := hcs0
      exact Array.toList_inj.1 this
    subst e0
    obtain ⟨fuel1, hf1⟩ := h1
    have hwt1 : ∀ n ∈ d1.weights Tryd.prog 34, n ≤ 140737488351232 := (fun n hn => reach n (List.all_eq_true.1 hsz _ (DataW.weights_mem_each (j := 1) rfl rfl _ hn)))
    obtain ⟨b1, m1, c1, l1, e1, hnc1, hcm1, hl1, hrow1, hnil1, hwf1, hw1⟩ := row_weigh Tryd.underlying34 Tryd.underlying5 (by kernel_rfl) hf1
    injection e1 with e11 e12 e13
    subst e11 e12 e13
    have hbd1 : cap1 ≤ 140737488351232 := by
      rcases hw1 with h | h
      · omega
      · have := hwt1 _ h
        rw [show Tryd.prog.bytesOf 5 = 1 by kernel_rfl] at this
        omega
    have hby1 : Bys l1 := fun x hx => bounds_u8 (hwf1 x hx)
    have hlt1 : ∀ x, a1 = some x → 0 < l1.length → x.block < W.heap.size := fun x hx h0 => by
      rcases hrow1 with ⟨h1, h2⟩ | ⟨y, h1, h2⟩
      · rw [h1] at hx; cases hx
      · rw [h1] at hx
        injection hx with hx
        subst hx
        exact World.block_lt_of_cell? W _ (h2 0 h0)
    subst hl1
    exact back_any en0 ac0 ae0 a1 cc0 ce0 cap1 C0 E0 l1 W (by omega) (by omega) hnC0 hnE0 (hide_ hC0) (hide_ hE0) hnil1 hnc1 (by omega) (hide_ hrow1) (hide_ hby1) (hide_ hlt1) (hide_ (tab_here hL))
  clear hA0
  refine walk.mono fun e W' ⟨he, bel⟩ => ?_
  subst he
  exact ⟨_, rfl, _, _, _, [], _, [], hW', trodAll_mk1 (shut_bool Tryd.underlying4 _), (trodAll_cons_mk (Below.trod laidOut (by kernel_rfl) (of_decide_eq_true (by kernel_rfl)) k0 bel lt0) (trodAll_cons_mk (Below.trod laidOut (by kernel_rfl) (of_decide_eq_true (by kernel_rfl)) k1 bel lt1) trodAll_mk0)), rfl, bel.frame _, fun h => by cases h⟩

def wit : Array Value := #[.agg #[.bool false, .slice none 0 0, .slice none 0 0], .slice none 0 0]
theorem laid_met (os : Os) : laidMet Tryd.prog Rows.codeBackRow.laid ((laidIn (World.holding Tryd.prog os ⟨#[], #[], []⟩)).forCall (fun _ _ => 0) ⟨#[], wit, []⟩).memory :=
  laidMet_of_run' 8 (by kernel_rfl) (by kernel_rfl)
theorem reads (os : Os) {H : Type} (enc : TypeId × Value → H) : ∃ ds places, DataW.whole enc Tryd.prog ((laidIn (World.holding Tryd.prog os ⟨#[], #[], []⟩)).forCall (fun _ _ => 0) ⟨#[], wit, []⟩).memory Tryd.f5.params.toList Rows.codeBackSpec.vars false wit.toList 8 = some (ds, [], places) :=
  ⟨[.agg [.lit (.bool false), .nil, .nil], .nil], [], by kernel_rfl⟩

set_option maxRecDepth 100000 in
theorem lifted (os : Os) (started : os.Started) (H : Type) (enc : TypeId × Value → H) (F : Stop.Interp) :
    ReturnsInHanded {} Tryd.checked os 5 .any ((OpenSpec.ofChange Rows.codeBackSpec).preRow enc Tryd.prog Tryd.f5 Rows.codeBackRow.domain false Rows.codeBackRow.laid) (((OpenSpec.ofChange Rows.codeBackSpec).at F).post enc Tryd.prog Tryd.f5 false true false false) := by
  obtain ⟨ds, places, hx⟩ := reads os enc
  refine returnsInHanded_of_row (C := Tryd.checked) (s := OpenSpec.ofChange Rows.codeBackSpec) own started (by kernel_rfl) Tryd.func5
    (witness_row_at (enc := enc) (C := Tryd.checked) false (laidIn (World.holding Tryd.prog os ⟨#[], #[], []⟩)) wit rfl (by kernel_rfl) (by kernel_rfl) (by kernel_rfl)
      (OpenSpec.preRow_of_cond 8 hx (by kernel_rfl) (fun k hk => by cases hk) (by kernel_rfl) (laid_met os))) ?_
  intro W base args ds gs before hval hW _ _ hsz hL _ _
  exact contract H enc W base args ds gs before hval hW hsz hL

theorem said : Rows.CodeBackSaid :=
  OpenClaim.holds_of_cond 5 Tryd.f5 rfl rfl rfl rfl rfl rfl rfl ⟨rfl, rfl, rfl, rfl, rfl⟩ rfl rfl rfl rfl rfl (by kernel_rfl) Tryd.func5 (by kernel_rfl)
    (of_decide_eq_true (by kernel_rfl)) (by unfold Func.isWrapper; first | (rw [if_pos (by decide +kernel)]; kernel_rfl) | (rw [if_neg (by decide +kernel)]; exact ⟨rfl, rfl⟩))
    (fun os started H enc _ F => by rw [OpenClaim.pre_eq_preRow]; exact lifted os started H enc F)

theorem plain (f : FuncId) (fn : Func) (hf : Tryd.pinned.checked.prog.funcNamed "mortise/mortiselaw14.CodeBack" = some f) (hfn : Tryd.pinned.checked.prog.funcs[f]? = some fn) :
    false = Tryd.pinned.checked.prog.looks [] ∧ ∀ (j : Nat) t, fn.params[j]? = some t → Tryd.pinned.checked.prog.wantsStandIn t = false := by
  obtain rfl : f = 5 := Option.some.inj ((show Tryd.prog.funcNamed "mortise/mortiselaw14.CodeBack" = some 5 by kernel_rfl).symm.trans hf) |>.symm
  obtain rfl : fn = Tryd.f5 := (Option.some.inj (Tryd.func5.symm.trans hfn)).symm
  refine ⟨by kernel_rfl, fun j t ht => ?_⟩
  rw [Tryd.params5] at ht
  have hm := Array.mem_of_getElem? ht
  simp only [List.mem_toArray, List.mem_cons, List.not_mem_nil, or_false] at hm
  rcases hm with rfl | rfl <;> (show Tryd.prog.wantsStandIn _ = false; kernel_rfl)

theorem card : Rows.CodeBackCardSaid :=
  Claim7.holds_tied_plain_at .later [] _ _ _ _ said (fun _ h => by cases h) (by kernel_rfl) (fun _ h => by cases h) codeBack_row_tie rfl ⟨rfl, rfl⟩ (by kernel_rfl) rfl plain (by kernel_rfl)
end Go.Proofs.YtlimcfnehhhmkaaDoor.codeBack
namespace Go.Proofs.YtlimcfnehhhmkaaDoor
theorem codeBack_holds : Rows.CodeBackCardSaid := codeBack.card
#print axioms codeBack_holds
end Go.Proofs.YtlimcfnehhhmkaaDoor
