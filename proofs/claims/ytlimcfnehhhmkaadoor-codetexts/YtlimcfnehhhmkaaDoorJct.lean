import Derived.Test.YtlimcfnehhhmkaaDoorCdx
import Derived.Test.YtlimcfnehhhmkaaDoorWeigh
import Derived.Test.YtlimcfnehhhmkaaDoorCdc
import Derived.Test.YtlimcfnehhhmkaaDoorRows
import Derived.Test.YtlimcfnehhhmkaaDoorCds
import Derived.WalkKit
import Derived.ProofKit
import Derived.OpenShut
import Derived.Deep.DeepHandedRow
import Derived.Lib.LaidTab
import Derived.Stop.LaidErr
import Derived.Test.YtlimcfnehhhmkaaDoorCmf
import Derived.Test.YtlimcfnehhhmkaaDoorCme
import Derived.Test.YtlimcfnehhhmkaaDoorCdw
import Derived.Test.YtlimcfnehhhmkaaDoorCed
import Derived.Test.YtlimcfnehhhmkaaDoorCmg
import Derived.Test.YtlimcfnehhhmkaaDoorRgf
import Derived.Test.YtlimcfnehhhmkaaDoorCards
import Derived.Test.YtlimcfnehhhmkaaDoorTie
import Derived.Test.YtlimcfnehhhmkaaDoorRead
import Derived.SizedLaws
import Derived.ChangeMaps5
import Derived.Below
import Derived.ShutString
/- Code, plain: what is decoded is encoded to the same bytes. -/
namespace Go.Proofs.YtlimcfnehhhmkaaDoor
open Go.RowKit
set_option linter.unusedVariables false

theorem rdV_back {l : List Int} (hb : Bys l) {s : Rs} {er : Int} {may : Int → Bool} (her : er ≠ 0) (h : (rdV l s er may).2.e = 0) : s.e = 0 ∧ 0 ≤ (rdV l s er may).1 ∧ may (rdV l s er may).1 = true ∧ l.drop s.at_ = form (rdV l s er may).1.toNat ++ l.drop (rdV l s er may).2.at_ := by
  unfold rdV at h ⊢
  by_cases h0 : s.e = 0
  · rw [if_pos h0] at h ⊢
    by_cases h1 : (getF (l.drop s.at_)).2.2 = 0
    · rw [if_pos h1] at h ⊢
      by_cases h2 : may (getF (l.drop s.at_)).1 = true
      · rw [if_pos h2] at h ⊢
        obtain ⟨b1, b2, b3, b4, b5⟩ := get_back (getF_R (l.drop s.at_)) (hb.drop _) h1
        refine ⟨h0, b3, h2, ?_⟩
        simp only
        rw [b5, ← List.drop_drop, List.take_append_drop]
      · rw [if_neg h2] at h
        exact absurd h her
    · rw [if_neg h1] at h
      exact absurd h h1
  · rw [if_neg h0] at h
    exact absurd h h0
theorem rdO_back {l : List Int} {s : Rs} {lo hi : Int} (hs : s.at_ ≤ l.length) (h : (rdO l s lo hi).2.e = 0) : s.e = 0 ∧ lo ≤ (rdO l s lo hi).1 ∧ (rdO l s lo hi).1 ≤ hi ∧ l.drop s.at_ = (rdO l s lo hi).1 :: l.drop (rdO l s lo hi).2.at_ ∧ (rdO l s lo hi).2.at_ ≤ l.length := by
  unfold rdO at h ⊢
  by_cases h0 : s.e = 0
  · rw [if_pos h0] at h ⊢
    by_cases h1 : s.at_ = l.length
    · rw [if_pos h1] at h
      exact absurd h (by simp)
    · rw [if_neg h1] at h ⊢
      by_cases h2 : l.getD s.at_ 0 < lo ∨ hi < l.getD s.at_ 0
      · rw [if_pos h2] at h
        exact absurd h (by simp)
      · rw [if_neg h2] at h ⊢
        refine ⟨h0, ?_, ?_, drop_cons l s.at_ (by omega), ?_⟩
        · simp only; omega
        · simp only; omega
        · simp only; omega
  · rw [if_neg h0] at h
    exact absurd h h0
theorem rd1_back {l : List Int} (hb : Bys l) {k : Int} {s : Rs} (h : (rd1 l k s).2.e = 0) : s.e = 0 ∧ l.drop s.at_ = (if k ≠ 0 then opB (rd1 l k s).1 else []) ++ l.drop (rd1 l k s).2.at_ := by
  unfold rd1 at h ⊢
  by_cases hk : k = 0
  · rw [if_pos hk] at h ⊢
    rw [if_neg (by simp [hk])]
    exact ⟨h, rfl⟩
  · rw [if_neg hk] at h ⊢
    rw [if_pos hk]
    obtain ⟨h1, h2, h3, h4⟩ := rdV_back hb (er := 3) (may := mayN) (by decide) h
    refine ⟨h1, ?_⟩
    unfold opB
    simp only
    have e : (rdN l s).1 - 1 + 1 = (rdN l s).1 := by omega
    rw [e]
    exact h4
theorem insB_eq (x : In) : insB x = form x.op.toNat ++ ((if (kin x.op).1 ≠ 0 then opB x.a else []) ++ ((if (kin x.op).2.1 ≠ 0 then opB x.b else []) ++ (if (kin x.op).2.2 ≠ 0 then opB x.c else []))) := by
  unfold insB nmd
  generalize kin x.op = k
  obtain ⟨k0, k1, k2⟩ := k
  simp only [nmj, kat, oat, List.nil_append]
  have e : ∀ (c : Prop) [Decidable c] (a : Int), (if c then [a] else ([] : List Int)).flatMap opB = if c then opB a else [] := fun c _ a => by split <;> simp
  rw [List.flatMap_append, List.flatMap_append, e, e, e, List.append_assoc]
theorem rdI_back {l : List Int} (hb : Bys l) {enc : Bool} {s : Rs} (h : (rdI l enc s).2.e = 0) : s.e = 0 ∧ l.drop s.at_ = insB (rdI l enc s).1 ++ l.drop (rdI l enc s).2.at_ := by
  rw [insB_eq]
  unfold rdI at h ⊢
  simp only at h ⊢
  obtain ⟨c1, c2⟩ := rd1_back hb h
  obtain ⟨b1, b2⟩ := rd1_back hb c1
  obtain ⟨a1, a2⟩ := rd1_back hb b1
  obtain ⟨o1, o2, o3, o4⟩ := rdV_back hb (by decide) a1
  refine ⟨o1, ?_⟩
  rw [List.append_assoc, List.append_assoc, List.append_assoc, ← c2, ← b2, ← a2, ← o4]
theorem rdM_back {α : Type} {l : List Int} {f : Rs → α × Rs} {g : α → List Int} (hf : ∀ s, (f s).2.e = 0 → s.e = 0 ∧ l.drop s.at_ = g (f s).1 ++ l.drop (f s).2.at_) : ∀ (n : Nat) (s : Rs), (rdM f n s).2.2.e = 0 → s.e = 0 ∧ (rdM f n s).2.1.length = n ∧ l.drop s.at_ = (rdM f n s).2.1.flatMap g ++ l.drop (rdM f n s).2.2.at_
  | 0, s, h => ⟨h, rfl, rfl⟩
  | n + 1, s, h => by
    by_cases h0 : s.e = 0
    · rw [rdM, if_pos h0] at h ⊢
      simp only at h ⊢
      obtain ⟨r1, r2, r3⟩ := rdM_back hf n (f s).2 h
      obtain ⟨f1, f2⟩ := hf s r1
      refine ⟨h0, by rw [List.length_cons, r2], ?_⟩
      rw [List.flatMap_cons, List.append_assoc, ← r3, ← f2]
    · rw [rdM_stop f (n + 1) s h0] at h
      exact absurd h h0
theorem pgm_back {l : List Int} (hb : Bys l) (h : (pgm l).s.e = 0) : encP (pgm l).enc (pgm l).C (pgm l).E = l := by
  unfold pgm at h ⊢
  simp only at h ⊢
  generalize ho1 : rdO l ⟨0, 0, 0⟩ 109 109 = o1 at h ⊢
  generalize ho2 : rdO l o1.2 0 1 = o2 at h ⊢
  generalize hn : rdV l o2.2 4 mayC = n at h ⊢
  generalize hes : rdM (rdN l) n.1.toNat n.2 = es at h ⊢
  generalize hm : rdV l es.2.2 4 mayC = m at h ⊢
  generalize hcs : rdM (rdI l (o2.1 == 1)) m.1.toNat m.2 = cs at h ⊢
  have hend : cs.2.2.e = 0 ∧ ¬ cs.2.2.at_ < l.length := by
    by_cases hl : cs.2.2.at_ < l.length
    · rw [if_pos hl] at h
      unfold rfs at h
      by_cases he : cs.2.2.e = 0
      · rw [if_pos he] at h; exact absurd h (by simp)
      · rw [if_neg he] at h; exact absurd h he
    · rw [if_neg hl] at h; exact ⟨h, hl⟩
  obtain ⟨he, hl⟩ := hend
  obtain ⟨c1, c2, c3⟩ := rdM_back (l := l) (g := insB) (fun s hs => rdI_back hb hs) m.1.toNat m.2 (by rw [hcs]; exact he)
  rw [hcs] at c2 c3
  obtain ⟨m1, m2, m3, m4⟩ := rdV_back hb (s := es.2.2) (er := 4) (may := mayC) (by decide) (by rw [hm]; exact c1)
  rw [hm] at m2 m3 m4
  obtain ⟨e1, e2, e3⟩ := rdM_back (l := l) (f := rdN l) (g := entB) (fun s hs => by
    obtain ⟨q1, q2, q3, q4⟩ := rdV_back hb (er := 3) (may := mayN) (by decide) hs
    exact ⟨q1, q4⟩) n.1.toNat n.2 (by rw [hes]; exact m1)
  rw [hes] at e2 e3
  obtain ⟨n1, n2, n3, n4⟩ := rdV_back hb (s := o2.2) (er := 4) (may := mayC) (by decide) (by rw [hn]; exact e1)
  rw [hn] at n2 n3 n4
  have k1 : o1.2.e = 0 ∧ o1.2.at_ ≤ l.length := by
    have q : o2.2.e = 0 := n1
    by_cases hq : o1.2.e = 0
    · have := rdO_back (l := l) (s := ⟨0, 0, 0⟩) (lo := 109) (hi := 109) (Nat.zero_le _) (by rw [ho1]; exact hq)
      rw [ho1] at this
      exact ⟨hq, this.2.2.2.2⟩
    · rw [← ho2] at q
      unfold rdO at q
      rw [if_neg hq] at q
      exact absurd q hq
  obtain ⟨p1, p2, p3, p4, p5⟩ := rdO_back (l := l) (s := o1.2) (lo := 0) (hi := 1) k1.2 (by rw [ho2]; exact n1)
  rw [ho2] at p2 p3 p4
  obtain ⟨t1, t2, t3, t4, t5⟩ := rdO_back (l := l) (s := ⟨0, 0, 0⟩) (lo := 109) (hi := 109) (Nat.zero_le _) (by rw [ho1]; exact k1.1)
  rw [ho1] at t2 t3 t4
  have e109 : o1.1 = 109 := by omega
  have ebit : (if (o2.1 == 1) = true then (1 : Int) else 0) = o2.1 := by
    have : o2.1 = 0 ∨ o2.1 = 1 := by omega
    rcases this with h | h <;> rw [h] <;> rfl
  unfold encP
  rw [ebit, e2, c2]
  have hd : l.drop cs.2.2.at_ = [] := List.drop_eq_nil_of_le (by omega)
  rw [hd, List.append_nil] at c3
  have t4' : l = o1.1 :: l.drop o1.2.at_ := t4
  conv => rhs; rw [t4', e109, p4, n4, e3, m4, c3]
  simp [List.append_assoc]
/-- What is decoded is encoded to the same bytes. -/
theorem enc_dec {l : List Int} (hb : Bys l) (h : (decF l).1 = 0) : encP (decE l) (decC l) (decN l) = l := by
  have hp : (pgm l).s.e = 0 := by
    by_cases hq : (pgm l).s.e = 0
    · exact hq
    · unfold decF at h
      rw [if_pos hq] at h
      exact absurd h hq
  unfold decE decC decN
  rw [if_pos h, if_pos h, if_pos h]
  exact pgm_back hb hp
end Go.Proofs.YtlimcfnehhhmkaaDoor
/- Code, plain: bytes that are cut are short, at the cut; bytes with more behind have a tail, at the end. -/
namespace Go.Proofs.YtlimcfnehhhmkaaDoor
open Go.RowKit
set_option linter.unusedVariables false

/-- The reader stands ahead of the front of these bytes, not of all. -/
structure CutAt (l : List Int) (s : Rs) (r : List Int) : Prop where
  e : s.e = 0
  p : s.p = 0
  d : ∃ k, l.drop s.at_ = r.take k ∧ k < r.length ∧ s.at_ + k = l.length
/-- The bytes were short. -/
def Sh (l : List Int) (s : Rs) : Prop := s.e = 20 ∧ s.p = l.length
theorem Sh.ne {l : List Int} {s : Rs} (h : Sh l s) : s.e ≠ 0 := by rw [h.1]; decide
theorem Sh.rdV {l : List Int} {s : Rs} (h : Sh l s) (er : Int) (may : Int → Bool) : Sh l (rdV l s er may).2 := by
  unfold Go.Proofs.YtlimcfnehhhmkaaDoor.rdV
  rw [if_neg h.ne]
  exact h
theorem Sh.rdO {l : List Int} {s : Rs} (h : Sh l s) (lo hi : Int) : Sh l (rdO l s lo hi).2 := by
  unfold Go.Proofs.YtlimcfnehhhmkaaDoor.rdO
  rw [if_neg h.ne]
  exact h
theorem Sh.rd1 {l : List Int} {s : Rs} (h : Sh l s) (k : Int) : Sh l (rd1 l k s).2 := by
  unfold Go.Proofs.YtlimcfnehhhmkaaDoor.rd1
  split
  · exact h
  · exact h.rdV 3 mayN
theorem Sh.rdM {α : Type} {l : List Int} {s : Rs} (h : Sh l s) (f : Rs → α × Rs) (n : Nat) : Sh l (rdM f n s).2.2 := by
  rw [rdM_stop f n s h.ne]
  exact h
theorem CutAt.num {l : List Int} {s : Rs} {r : List Int} {n : Nat} (h : CutAt l s (form n ++ r)) (hn : n < 18446744073709551616) {er : Int} {may : Int → Bool} (hm : may (n : Int) = true) : (∃ s', rdV l s er may = ((n : Int), s') ∧ CutAt l s' r) ∨ Sh l (rdV l s er may).2 := by
  obtain ⟨k, d1, d2, d3⟩ := h.d
  rw [List.length_append] at d2
  by_cases hk : (form n).length ≤ k
  · left
    have d4 : l.drop s.at_ = form n ++ r.take (k - (form n).length) := by
      rw [d1, List.take_append, List.take_of_length_le hk]
    refine ⟨⟨s.at_ + (form n).length, 0, s.p⟩, ?_, rfl, h.p, k - (form n).length, ?_, by omega, ?_⟩
    · unfold rdV
      rw [if_pos h.e, d4, (get_form n hn _).getF]
      simp only
      rw [if_pos trivial, if_pos hm]
    · show l.drop (s.at_ + (form n).length) = _
      rw [← List.drop_drop, d4]
      simp
    · show s.at_ + (form n).length + (k - (form n).length) = l.length
      omega
  · right
    have d4 : l.drop s.at_ = (form n).take k := by
      rw [d1, List.take_append_of_le_length (by omega)]
    unfold rdV
    rw [if_pos h.e, d4, (get_cut n hn k (by omega)).getF]
    simp only
    rw [if_neg (by decide)]
    exact ⟨rfl, by simp only; rw [d3]⟩
theorem CutAt.byte {l : List Int} {s : Rs} {r : List Int} {c : Int} (h : CutAt l s (c :: r)) {lo hi : Int} (h1 : lo ≤ c) (h2 : c ≤ hi) : (∃ s', rdO l s lo hi = (c, s') ∧ CutAt l s' r) ∨ Sh l (rdO l s lo hi).2 := by
  obtain ⟨k, d1, d2, d3⟩ := h.d
  cases k with
  | zero =>
    right
    unfold rdO
    rw [if_pos h.e, if_pos (by omega)]
    exact ⟨rfl, by simp only; congr 1⟩
  | succ k =>
    left
    rw [List.take_succ_cons] at d1
    have hlt : s.at_ < l.length := by omega
    have hc := drop_cons l s.at_ hlt
    rw [d1] at hc
    injection hc with hg hd
    rw [List.length_cons] at d2
    refine ⟨⟨s.at_ + 1, 0, s.p⟩, ?_, rfl, h.p, k, hd.symm, by omega, ?_⟩
    · unfold rdO
      rw [if_pos h.e, if_neg (by omega), ← hg, if_neg (by omega)]
    · show s.at_ + 1 + k = l.length
      omega
theorem CutAt.ents {l r : List Int} : ∀ (E : List Int) (s : Rs), (∀ e ∈ E, 0 ≤ e ∧ e ≤ 2147483648) → CutAt l s (E.flatMap entB ++ r) → CutAt l (rdM (rdN l) E.length s).2.2 r ∨ Sh l (rdM (rdN l) E.length s).2.2
  | [], s, _, h => Or.inl (by simpa [rdM] using h)
  | e :: E, s, hE, h => by
    obtain ⟨h0, h1⟩ := hE e (by simp)
    obtain ⟨n, rfl⟩ := Int.eq_ofNat_of_zero_le h0
    have h' : CutAt l s (form n ++ (E.flatMap entB ++ r)) := by
      have := h
      rw [List.flatMap_cons, List.append_assoc] at this
      exact this
    rw [List.length_cons, rdM, if_pos h.e]
    simp only
    rcases h'.num (er := 3) (may := mayN) (by omega) (decide_eq_true (by omega)) with ⟨s1, e1, a1⟩ | hs
    · have e3 : rdN l s = ((n : Int), s1) := e1
      rw [e3]
      exact CutAt.ents E s1 (fun x hx => hE x (by simp [hx])) a1
    · exact Or.inr (Sh.rdM hs _ _)
theorem CutAt.op {l r : List Int} {s : Rs} {k a : Int} (ha : -1 ≤ a ∧ a ≤ 16777216) (h : CutAt l s ((if k ≠ 0 then opB a else []) ++ r)) : CutAt l (rd1 l k s).2 r ∨ Sh l (rd1 l k s).2 := by
  by_cases hk : k = 0
  · rw [if_neg (by simp [hk])] at h
    unfold rd1
    rw [if_pos hk]
    exact Or.inl (by simpa using h)
  · rw [if_pos hk] at h
    obtain ⟨m, hm⟩ := Int.eq_ofNat_of_zero_le (show 0 ≤ a + 1 by omega)
    have h' : CutAt l s (form m ++ r) := by
      have := h
      unfold opB at this
      rw [hm] at this
      exact this
    unfold rd1
    rw [if_neg hk]
    simp only
    rcases h'.num (er := 3) (may := mayN) (by omega) (decide_eq_true (by omega)) with ⟨s1, e1, a1⟩ | hs
    · have e3 : rdN l s = ((m : Int), s1) := e1
      rw [e3]
      exact Or.inl a1
    · exact Or.inr hs
theorem CutAt.ins {l r : List Int} {s : Rs} {enc : Bool} {nc ne : Int} {x : In} (h1 : nc ≤ 1048576) (h2 : ne ≤ 1048576) (hx : frmX enc nc ne x = true) (h : CutAt l s (insB x ++ r)) : CutAt l (rdI l enc s).2 r ∨ Sh l (rdI l enc s).2 := by
  have hin := frmX_inB h1 h2 hx
  obtain ⟨p0, p1, p2, p3⟩ := frmX_parts hx
  obtain ⟨n, hn⟩ := Int.eq_ofNat_of_zero_le (show 0 ≤ x.op by have := hin.op; omega)
  have hn47 : n ≤ 47 := by have := hin.op; omega
  rw [insB_eq, hn, Int.toNat_natCast, List.append_assoc, List.append_assoc, List.append_assoc] at h
  have hmay : mayI enc (n : Int) = true := by unfold mayI; rw [decide_eq_true (by omega), ← hn, p0]; rfl
  have q := hin.nm
  unfold rdI
  simp only
  rcases h.num (er := 140) (may := mayI enc) (by omega) hmay with ⟨s1, e1, a1⟩ | hs
  · rw [e1]
    simp only
    rcases CutAt.op (q 0 (by omega)) a1 with a2 | hs
    · rcases CutAt.op (q 1 (by omega)) a2 with a3 | hs
      · exact CutAt.op (q 2 (by omega)) a3
      · exact Or.inr (hs.rd1 _)
    · exact Or.inr ((hs.rd1 _).rd1 _)
  · exact Or.inr (((hs.rd1 _).rd1 _).rd1 _)
theorem CutAt.code {l r : List Int} {enc : Bool} {nc ne : Int} (h1 : nc ≤ 1048576) (h2 : ne ≤ 1048576) : ∀ (C : List In) (s : Rs), (∀ x ∈ C, frmX enc nc ne x = true) → CutAt l s (C.flatMap insB ++ r) → CutAt l (rdM (rdI l enc) C.length s).2.2 r ∨ Sh l (rdM (rdI l enc) C.length s).2.2
  | [], s, _, h => Or.inl (by simpa [rdM] using h)
  | x :: C, s, hC, h => by
    have h' : CutAt l s (insB x ++ (C.flatMap insB ++ r)) := by
      have := h
      rw [List.flatMap_cons, List.append_assoc] at this
      exact this
    rw [List.length_cons, rdM, if_pos h.e]
    simp only
    rcases h'.ins h1 h2 (hC x (by simp)) with a1 | hs
    · exact CutAt.code h1 h2 C _ (fun y hy => hC y (by simp [hy])) a1
    · exact Or.inr (Sh.rdM hs _ _)
theorem Chk.ents {enc : Bool} {C : List In} {E : List Int} (h : Chk enc C E) : ∀ e ∈ E, 0 ≤ e ∧ e ≤ 2147483648 := by
  intro e he
  have := h.nc
  obtain ⟨i, hi, rfl⟩ := List.mem_iff_getElem.1 he
  have := h.ent i hi
  rw [List.getD, List.getElem?_eq_getElem hi, Option.getD_some] at this
  omega
theorem Chk.frms {enc : Bool} {C : List In} {E : List Int} (h : Chk enc C E) : ∀ x ∈ C, frmX enc C.length E.length x = true := by
  intro x hx
  obtain ⟨i, hi, rfl⟩ := List.mem_iff_getElem.1 hx
  have := h.code i hi
  unfold frm at this
  rw [List.getElem?_eq_getElem hi] at this
  simp only [Bool.and_eq_true] at this
  exact this.1
/-- Cut anywhere it is short, at the cut. -/
theorem dec_cut {enc : Bool} {C : List In} {E : List Int} (h : Chk enc C E) {i : Nat} (hi : i < (encP enc C E).length) : decF ((encP enc C E).take i) = (20, (i : Int)) := by
  have hnc := h.nc
  have hne := h.ne
  obtain ⟨l, hl⟩ : ∃ l, (encP enc C E).take i = l := ⟨_, rfl⟩
  have hll : l.length = i := by rw [← hl, List.length_take]; omega
  rw [hl]
  have a0 : CutAt l ⟨0, 0, 0⟩ (109 :: (if enc then 1 else 0) :: (form E.length ++ (E.flatMap entB ++ (form C.length ++ (C.flatMap insB ++ []))))) := by
    have e : (109 :: (if enc then 1 else 0) :: (form E.length ++ (E.flatMap entB ++ (form C.length ++ (C.flatMap insB ++ []))))) = encP enc C E := by
      unfold encP
      simp [List.append_assoc]
    rw [e]
    exact ⟨rfl, rfl, i, by rw [← hl]; rfl, hi, by simp only; omega⟩
  have hb : (((if enc = true then (1 : Int) else 0)) == 1) = enc := by cases enc <;> rfl
  have hs : Sh l (pgm l).s := by
    suffices hcs : Sh l (rdM (rdI l ((rdO l (rdO l ⟨0, 0, 0⟩ 109 109).2 0 1).1 == 1)) (rdV l (rdM (rdN l) (rdV l (rdO l (rdO l ⟨0, 0, 0⟩ 109 109).2 0 1).2 4 mayC).1.toNat (rdV l (rdO l (rdO l ⟨0, 0, 0⟩ 109 109).2 0 1).2 4 mayC).2).2.2 4 mayC).1.toNat (rdV l (rdM (rdN l) (rdV l (rdO l (rdO l ⟨0, 0, 0⟩ 109 109).2 0 1).2 4 mayC).1.toNat (rdV l (rdO l (rdO l ⟨0, 0, 0⟩ 109 109).2 0 1).2 4 mayC).2).2.2 4 mayC).2).2.2 by
      unfold pgm
      simp only
      split
      · unfold rfs
        rw [if_neg hcs.ne]
        exact hcs
      · exact hcs
    rcases a0.byte (lo := 109) (hi := 109) (by omega) (by omega) with ⟨s1, e1, a1⟩ | hs
    · rw [e1]
      simp only
      rcases a1.byte (lo := 0) (hi := 1) (by split <;> omega) (by split <;> omega) with ⟨s2, e2, a2⟩ | hs
      · rw [e2]
        simp only [hb]
        rcases a2.num (er := 4) (may := mayC) (by omega) (decide_eq_true (by omega)) with ⟨s3, e3, a3⟩ | hs
        · rw [e3]
          simp only [Int.toNat_natCast]
          rcases CutAt.ents E s3 h.ents a3 with a4 | hs
          · rcases a4.num (er := 4) (may := mayC) (by omega) (decide_eq_true (by omega)) with ⟨s5, e5, a5⟩ | hs
            · rw [e5]
              simp only [Int.toNat_natCast]
              rcases CutAt.code (enc := enc) (nc := C.length) (ne := E.length) (by omega) (by omega) C s5 h.frms a5 with a6 | hs
              · obtain ⟨k, _, hk, _⟩ := a6.d
                exact absurd hk (by simp)
              · exact hs
            · exact Sh.rdM hs _ _
          · exact Sh.rdM (hs.rdV _ _) _ _
        · exact Sh.rdM ((Sh.rdM hs _ _).rdV _ _) _ _
      · exact Sh.rdM ((Sh.rdM (hs.rdV _ _) _ _).rdV _ _) _ _
    · exact Sh.rdM ((Sh.rdM ((hs.rdO _ _).rdV _ _) _ _).rdV _ _) _ _
  unfold decF
  rw [if_pos hs.ne, hs.1, hs.2, hll]
/-- With bytes behind there is a tail, at the end. -/
theorem dec_tail {enc : Bool} {C : List In} {E : List Int} (h : Chk enc C E) {more : List Int} (hm : more ≠ []) : decF (encP enc C E ++ more) = (124, ((encP enc C E).length : Int)) := by
  have hnc := h.nc
  have hne := h.ne
  have hml : 0 < more.length := List.length_pos_iff.2 hm
  obtain ⟨l, hl⟩ : ∃ l, encP enc C E ++ more = l := ⟨_, rfl⟩
  have hll : l.length = (encP enc C E).length + more.length := by rw [← hl, List.length_append]
  rw [hl]
  have a0 : At l ⟨0, 0, 0⟩ (109 :: (if enc then 1 else 0) :: (form E.length ++ (E.flatMap entB ++ (form C.length ++ (C.flatMap insB ++ more))))) := ⟨rfl, rfl, by
    show l.drop 0 = _
    rw [← hl]
    unfold encP
    simp [List.append_assoc]⟩
  obtain ⟨s1, e1, a1⟩ := a0.byte (lo := 109) (hi := 109) (by omega) (by omega)
  obtain ⟨s2, e2, a2⟩ := a1.byte (lo := 0) (hi := 1) (by split <;> omega) (by split <;> omega)
  obtain ⟨s3, e3, a3⟩ := a2.num (er := 4) (may := mayC) (by omega) (decide_eq_true (by omega))
  obtain ⟨ea, s4, e4, a4⟩ := At.ents E s3 h.ents a3
  obtain ⟨s5, e5, a5⟩ := a4.num (er := 4) (may := mayC) (by omega) (decide_eq_true (by omega))
  obtain ⟨ca, s6, e6, a6⟩ := At.code (enc := enc) (nc := C.length) (ne := E.length) (by omega) (by omega) C s5 h.frms a5
  have h6 := congrArg List.length a6.d
  rw [List.length_drop] at h6
  have hat : s6.at_ = (encP enc C E).length := by omega
  have hb : (((if enc = true then (1 : Int) else 0)) == 1) = enc := by cases enc <;> rfl
  have hs : (pgm l).s = ⟨s6.at_, 124, s6.at_⟩ := by
    unfold pgm
    simp only [e1, e2, e3, e4, e5, hb, e6, Int.toNat_natCast]
    rw [if_pos (by omega)]
    unfold rfs
    rw [if_pos a6.e]
  unfold decF
  rw [hs]
  simp only
  rw [if_pos (by decide), hat]
end Go.Proofs.YtlimcfnehhhmkaaDoor
/- What the reading of a program says of memory. -/
namespace Go.Proofs.YtlimcfnehhhmkaaDoor
open Go.ChangeShapes Go.WideShapes Go.ChangeAt Go.RowKit
set_option linter.unusedVariables false

variable {H : Type} {enc : TypeId × Value → H} {w : World} {base : Nat} {held : Bool}
theorem len3P {cs : List Value} (h : cs.length = 3) : ∃ c0 c1 c2, cs = [c0, c1, c2] := by
  match cs, h with
  | [c0, c1, c2], _ => exact ⟨c0, c1, c2, rfl⟩
theorem len4P {cs : List Value} (h : cs.length = 4) : ∃ c0 c1 c2 c3, cs = [c0, c1, c2, c3] := by
  match cs, h with
  | [c0, c1, c2, c3], _ => exact ⟨c0, c1, c2, c3, rfl⟩
theorem cellsIn : Tryd.prog.cellsOf 28 = 4 := by kernel_rfl
theorem cellsPg : Tryd.prog.cellsOf 26 = 3 := by kernel_rfl
theorem cellsIt : Tryd.prog.cellsOf 3 = 1 := by kernel_rfl
theorem bytesIn : Tryd.prog.bytesOf 28 = 32 := by kernel_rfl
theorem bytesIt : Tryd.prog.bytesOf 3 = 8 := by kernel_rfl
theorem slice_weightP {P : Program} {t e : TypeId} (ht : P.underlying t = some (.slice e)) {fuel : Nat} {a0 : Option Addr} {len cap : Nat} {y : DataW H × List MemPlace} (h : DataW.trod enc P w base (fun _ => true) held fuel t [.slice a0 len cap] = some y) : len = 0 ∨ ∃ k, len ≤ k ∧ k * P.bytesOf e ∈ y.1.weights P t := by
  rcases Go.Deep.open_slice ht h with ⟨hcs, _⟩ | ⟨x, l, c, m, n, D, Pl, hcs, _, hl, hm, hmm, hy, hel⟩
  · left
    simp at hcs
    exact hcs.2.1
  · simp at hcs
    obtain ⟨rfl, rfl, rfl⟩ := hcs
    right
    subst hy
    simp only [DataW.weights, ht]
    refine ⟨_, ?_, List.mem_cons_self⟩
    simp
theorem slice_formP {P : Program} {t e : TypeId} (ht : P.underlying t = some (.slice e)) {fuel : Nat} {c : Value} {y : DataW H × List MemPlace} (h : DataW.trod enc P w base (fun _ => true) held fuel t [c] = some y) : ∃ a n cap, c = .slice a n cap ∧ n ≤ cap ∧ (a = none → cap = 0) ∧ n ≤ maxLen ∧ cap ≤ maxLen := by
  rcases Go.Deep.open_slice ht h with ⟨hcs, _⟩ | ⟨x, l, c', m, n, D, Pl, hcs, _, hl, hm, _⟩
  · simp at hcs
    exact ⟨none, 0, 0, hcs, Nat.le_refl _, fun _ => rfl, Nat.zero_le _, Nat.zero_le _⟩
  · simp at hcs
    exact ⟨some x, l, c', hcs, hl, (fun h => by cases h), Nat.le_trans hl hm, hm⟩
theorem list_ofP {α : Type} (n : Nat) (Q : Nat → α → Prop) (h : ∀ i, i < n → ∃ x, Q i x) : ∃ l : List α, l.length = n ∧ ∀ i x, l[i]? = some x → Q i x := by
  induction n with
  | zero => exact ⟨[], rfl, fun i x h => by simp at h⟩
  | succ n ih =>
    obtain ⟨l, h1, h2⟩ := ih (fun i hi => h i (by omega))
    obtain ⟨x, hx⟩ := h n (by omega)
    refine ⟨l ++ [x], by simp [h1], fun i y hy => ?_⟩
    rcases Nat.lt_or_ge i l.length with hi | hi
    · rw [List.getElem?_append_left hi] at hy; exact h2 i y hy
    · rw [List.getElem?_append_right hi] at hy
      have h0 : i - l.length = 0 := by have := (List.getElem?_eq_some_iff.1 hy).1; simpa using this
      rw [h0] at hy
      simp at hy
      subst hy
      obtain rfl : i = n := by omega
      exact hx
theorem instr_open {fuel : Nat} {cs : List Value} {y : DataW H × List MemPlace} (h : DataW.trod enc Tryd.prog w base (fun _ => true) held fuel 28 cs = some y) : ∃ x : In, cs = inc x := by
  obtain ⟨hl, m, hf⟩ := field_read Tryd.underlying28 h
  rw [cellsIn] at hl
  obtain ⟨c0, c1, c2, c3, rfl⟩ := len4P hl
  obtain ⟨y0, t0⟩ := hf 0 _ c0 rfl (by kernel_rfl) rfl
  obtain ⟨y1, t1⟩ := hf 1 _ c1 rfl (by kernel_rfl) rfl
  obtain ⟨y2, t2⟩ := hf 2 _ c2 rfl (by kernel_rfl) rfl
  obtain ⟨y3, t3⟩ := hf 3 _ c3 rfl (by kernel_rfl) rfl
  obtain ⟨a0, k0, _, _⟩ := DataW.trod_int Tryd.underlying3 t0
  obtain ⟨a1, k1, _, _⟩ := DataW.trod_int Tryd.underlying3 t1
  obtain ⟨a2, k2, _, _⟩ := DataW.trod_int Tryd.underlying3 t2
  obtain ⟨a3, k3, _, _⟩ := DataW.trod_int Tryd.underlying3 t3
  simp at k0 k1 k2 k3
  subst k0 k1 k2 k3
  exact ⟨⟨a0, a1, a2, a3⟩, rfl⟩
theorem instrs_open {fuel : Nat} {c : Value} {y : DataW H × List MemPlace} (h : DataW.trod enc Tryd.prog w base (fun _ => true) held fuel 23 [c] = some y) (hw : ∀ k ∈ y.1.weights Tryd.prog 23, k ≤ 140737488351232) :
    ∃ a cap l, c = .slice a l.length cap ∧ l.length ≤ cap ∧ (a = none → cap = 0) ∧ IRow w a l ∧ l.length ≤ 4398046510976 ∧ cap ≤ 9223372036854775807 := by
  obtain ⟨a, n, cap, rfl, hc, hz, _, hmx⟩ := slice_formP Tryd.underlying23 h
  unfold maxLen at hmx
  have hb : n ≤ 4398046510976 := by
    rcases slice_weightP Tryd.underlying23 h with h0 | ⟨k, h1, h2⟩
    · omega
    · have := hw _ h2
      rw [bytesIn] at this
      omega
  rcases structs_read Tryd.underlying23 (by rw [cellsIn]; omega) h with h0 | ⟨b, off, m, rfl, hbl, hlc, hcm, hel⟩
  · subst h0
    exact ⟨a, cap, [], rfl, hc, hz, .inl rfl, by simp, by omega⟩
  · rw [cellsIn] at hel
    obtain ⟨N, hN, hQ⟩ := list_ofP n (fun i (x : In) => ∀ j, j < 4 → w.cell? ⟨b, off + i * 4 + j, none⟩ = (inc x)[j]?) (fun i hi => by
      obtain ⟨cs, z, _, hcell, ht⟩ := hel i hi
      obtain ⟨x, rfl⟩ := instr_open ht
      exact ⟨x, hcell⟩)
    subst hN
    exact ⟨some ⟨b, off, none⟩, cap, N, rfl, hc, hz, .inr ⟨b, off, rfl, hbl, fun i x hx => hQ i x hx⟩, hb, by omega⟩
theorem prog_open {fuel : Nat} {cs : List Value} {y : DataW H × List MemPlace} (h : DataW.trod enc Tryd.prog w base (fun _ => true) held fuel 26 cs = some y) (hw : ∀ k ∈ y.1.weights Tryd.prog 26, k ≤ 140737488351232) :
    ∃ en ac cc C ae ce E, cs = [.bool en, .slice ac C.length cc, .slice ae E.length ce] ∧ C.length ≤ cc ∧ (ac = none → cc = 0) ∧ IRow w ac C ∧ C.length ≤ 4398046510976 ∧ cc ≤ 9223372036854775807 ∧ E.length ≤ ce ∧ (ae = none → ce = 0) ∧ Row .i64 w ae E ∧ E.length ≤ 17592186043904 := by
  obtain ⟨hl, m, hf⟩ := field_weigh Tryd.underlying26 h
  rw [cellsPg] at hl
  obtain ⟨c0, c1, c2, rfl⟩ := len3P hl
  obtain ⟨y0, t0, u0⟩ := hf 0 _ c0 rfl (by kernel_rfl) rfl
  obtain ⟨y1, t1, u1⟩ := hf 1 _ c1 rfl (by kernel_rfl) rfl
  obtain ⟨y2, t2, u2⟩ := hf 2 _ c2 rfl (by kernel_rfl) rfl
  obtain ⟨en, k0, _⟩ := DataW.trod_bool Tryd.underlying4 t0
  obtain ⟨ac, cc, C, rfl, e1, e2, e3, e4, e5⟩ := instrs_open t1 (fun k hk => hw k (u1 k hk))
  obtain ⟨ae, n, ce, E, rfl, f1, f2, f3, f4, f5, -, f6⟩ := row_weigh Tryd.underlying24 Tryd.underlying3 cellsIt t2
  simp at k0
  subst k0 f3
  refine ⟨en, ac, cc, C, ae, ce, E, rfl, e1, e2, e3, e4, e5, f1, f5, f4, ?_⟩
  rcases f6 with h | h
  · omega
  · have := hw _ (u2 _ h)
    rw [bytesIt] at this
    omega
end Go.Proofs.YtlimcfnehhhmkaaDoor
/- What the rows' lists of laid variables give, and a world in which they hold. -/
namespace Go.Proofs.YtlimcfnehhhmkaaDoor
open Go.RowKit
set_option linter.unusedVariables false

theorem own : ownKnob Tryd.prog.godebug = none := by kernel_rfl
theorem laidOut : laidOutB Tryd.prog = true := by kernel_rfl
theorem gPow : Tryd.prog.globalNamed "internal/strconv.uint64pow10" = some 0 := by kernel_rfl
theorem gPowT : (Tryd.prog.globals[0]?).map (·.type) = some 123 := by kernel_rfl
theorem cellsPow : Tryd.prog.cellsOf 123 = 20 := by kernel_rfl
theorem laid_pow : (Rows.laid_internal_strconv_uint64pow10 : DataW Unit) = Lib.tabData .u64 Lib.pow10Tab := by kernel_rfl
theorem tab_of {W : World} (h : laidMetH Tryd.prog Rows.codeLimitsRow.laid W) : TabB W.heap.size W := by
  have h1 : laidMet Tryd.prog Rows.codeLimitsRow.laid W := h
  have h2 : laidMet Tryd.prog [("internal/strconv.uint64pow10", Rows.laid_internal_strconv_uint64pow10)] W := laidMet.tail (laidMet.tail h1)
  rw [laid_pow] at h2
  have h3 := Lib.tabIs_of_head (e := 59) gPow gPowT (by kernel_rfl) (by kernel_rfl) (by kernel_rfl) cellsPow h2
  have h4 := World.block_lt_of_cell? W _ (h3.cell gPow 0 (by decide))
  intro w' hB
  unfold Lib.TabIs World.var? at *
  rw [gPow] at h3 ⊢
  simp only [Option.bind_some] at h3 ⊢
  rw [hB.block 0 h4]
  exact h3
/-- The settled world w, the tables (blocks 0, 1, 2) holding what their initialisers lay. -/
def laidIn (w : World) : World :=
  { w with heap := ((w.heap.modify 0 fun
      | .cells _ t frozen => .cells (Lib.pow10Tab.map fun z => Value.int .u64 z).toArray t frozen
      | o => o).modify 1 fun
      | .cells _ t frozen => .cells #[.int .u8 0, .int .u8 1, .int .u8 28, .int .u8 2, .int .u8 29, .int .u8 14, .int .u8 24, .int .u8 3, .int .u8 30, .int .u8 22, .int .u8 20, .int .u8 15, .int .u8 25, .int .u8 17, .int .u8 4, .int .u8 8, .int .u8 31, .int .u8 27, .int .u8 13, .int .u8 23, .int .u8 21, .int .u8 19, .int .u8 16, .int .u8 7, .int .u8 26, .int .u8 12, .int .u8 18, .int .u8 6, .int .u8 11, .int .u8 5, .int .u8 10, .int .u8 9] t frozen
      | o => o).modify 2 fun
      | .cells _ t frozen => .cells #[.int .u8 0, .int .u8 1, .int .u8 56, .int .u8 2, .int .u8 57, .int .u8 49, .int .u8 28, .int .u8 3, .int .u8 61, .int .u8 58, .int .u8 42, .int .u8 50, .int .u8 38, .int .u8 29, .int .u8 17, .int .u8 4, .int .u8 62, .int .u8 47, .int .u8 59, .int .u8 36, .int .u8 45, .int .u8 43, .int .u8 51, .int .u8 22, .int .u8 53, .int .u8 39, .int .u8 33, .int .u8 30, .int .u8 24, .int .u8 18, .int .u8 12, .int .u8 5, .int .u8 63, .int .u8 55, .int .u8 48, .int .u8 27, .int .u8 60, .int .u8 41, .int .u8 37, .int .u8 16, .int .u8 46, .int .u8 35, .int .u8 44, .int .u8 21, .int .u8 52, .int .u8 32, .int .u8 23, .int .u8 11, .int .u8 54, .int .u8 26, .int .u8 40, .int .u8 15, .int .u8 34, .int .u8 20, .int .u8 31, .int .u8 10, .int .u8 25, .int .u8 14, .int .u8 19, .int .u8 9, .int .u8 13, .int .u8 8, .int .u8 7, .int .u8 6] t frozen
      | o => o }
end Go.Proofs.YtlimcfnehhhmkaaDoor
/- Code: programs that are made, as the outright statements use them. -/
namespace Go.Proofs.YtlimcfnehhhmkaaDoor
open Go.RowKit
set_option linter.unusedVariables false

theorem elU8 : Elem Tryd.prog 34 5 .u8 1 := ⟨Tryd.underlying34, Tryd.underlying5, by kernel_rfl⟩
theorem fbys {α : Type} {f : α → List Int} {l : List α} (h : ∀ x, Bys (f x)) : Bys (l.flatMap f) := fun x hx => by
  obtain ⟨a, _, ha⟩ := List.mem_flatMap.1 hx
  exact h a x ha
theorem encB_bys (enc : Bool) (C : List In) (E : List Int) : Bys (encP enc C E) := by
  unfold encP
  refine (((((?_ : Bys [109, if enc then 1 else 0]).append (form_bys _)).append (fbys (fun x => form_bys _))).append (form_bys _)).append (fbys (fun x => ?_)))
  · intro x hx
    cases enc <;> simp at hx <;> omega
  · unfold insB
    exact (form_bys _).append (fbys (fun n => form_bys _))
/-- A program of the call's own that has its form. -/
structure PrO (w : World) (B : Nat) (enc : Bool) (gC cC gE cE : Nat) (C : List In) (E : List Int) : Prop where
  c : COwn w B (.slice (some ⟨gC, 0, none⟩) C.length cC) C
  e : IOwn w B (.slice (some ⟨gE, 0, none⟩) E.length cE) E
  k : Chk enc C E
  c0 : 0 < C.length
  e0 : 0 < E.length
section
variable {w w' : World} {B : Nat} {enc : Bool} {gC cC gE cE : Nat} {C : List In} {E : List Int}
theorem PrO.later (h : PrO w B enc gC cC gE cE C E) (hB : Below w.heap.size w w') : PrO w' B enc gC cC gE cE C E := ⟨h.c.later hB, h.e.later hB, h.k, h.c0, h.e0⟩
theorem PrO.upd {S : Nat → Prop} {g : Nat} {ys : List Value} (h : PrO w B enc gC cC gE cE C E) (hb : Blk w g 26 ys) (hu : Upd (fun k => k = g) w w') : PrO w' B enc gC cC gE cE C E :=
  ⟨ownS_upd h.c hu (fun k e hk => by subst hk; exact notC h.c hb (by decide) e), h.e.upd hu (fun k e hk => by subst hk; exact notI h.e hb (by decide) e), h.k, h.c0, h.e0⟩
theorem PrO.crow (h : PrO w B enc gC cC gE cE C E) : IRow w (some ⟨gC, 0, none⟩) C ∧ C.length ≤ cC ∧ cC ≤ 9223372036854775807 := by
  obtain ⟨a, c, e1, e2, -, e3⟩ := h.c.row
  injection e1 with e4 _ e5
  subst e4 e5
  have := COwn.cap h.c
  unfold maxLen at this
  exact ⟨e3, e2, by omega⟩
theorem PrO.erow (h : PrO w B enc gC cC gE cE C E) : Row .i64 w (some ⟨gE, 0, none⟩) E ∧ E.length ≤ cE := by
  obtain ⟨a, c, e1, e2, -, e3⟩ := h.e.row
  injection e1 with e4 _ e5
  subst e4 e5
  exact ⟨e2, e3⟩
theorem PrO.encode (h : PrO w B enc gC cC gE cE C E) : Calls Tryd.prog 12 #[.agg #[.bool enc, .slice (some ⟨gC, 0, none⟩) C.length cC, .slice (some ⟨gE, 0, none⟩) E.length cE]] w fun e w' => (∃ v, e = .returned (.tuple #[v, .agg #[.int .i64 0, .int .i64 0]]) ∧ Hid (BOwn w' w.heap.size v (encP enc C E))) ∧ Below w.heap.size w w' := by
  obtain ⟨r1, r2, r3⟩ := h.crow
  obtain ⟨s1, s2⟩ := h.erow
  have k := h.k
  have k1 := k.nc; have k2 := k.ne
  have q := encode_any enc (some ⟨gC, 0, none⟩) (some ⟨gE, 0, none⟩) cC cE C E w r2 r3 (by omega) s2 (by omega) (hide_ r1) (hide_ s1)
  unfold encA at q
  rw [if_pos (chk_ok.2 k), chk_ok.2 k] at q
  exact q
end
theorem made_open {enc : Bool} {most : Nat} {w w' : World} {e : Ending} (h : MadeTo enc most w e w') : ∃ gC cC gE cE C E, e = .returned (.agg #[.bool enc, .slice (some ⟨gC, 0, none⟩) C.length cC, .slice (some ⟨gE, 0, none⟩) E.length cE]) ∧ PrO w' w.heap.size enc gC cC gE cE C E ∧ C.length ≤ most + 1 ∧ Below w.heap.size w w' := by
  obtain ⟨vC, vE, C, E, rfl, hk, h0, hm, hE, hoC, hoE, hB⟩ := h
  obtain ⟨gC, cC, yC, rfl, -⟩ := ownS_blk hoC h0
  obtain ⟨gE, cE, yE, rfl, -⟩ := ownS_blk hoE hE
  exact ⟨gC, cC, gE, cE, C, E, rfl, ⟨hoC, hoE, hk, h0, hE⟩, hm, hB⟩
/-- Bytes of the call's own, that are not none. -/
theorem bown_open {w : World} {B : Nat} {v : Value} {l : List Int} (h : BOwn w B v l) (h0 : 0 < l.length) : ∃ g c, v = .slice (some ⟨g, 0, none⟩) l.length c ∧ Row .u8 w (some ⟨g, 0, none⟩) l ∧ l.length ≤ c ∧ c ≤ 9223372036854775807 ∧ B ≤ g ∧ g < w.heap.size := by
  obtain ⟨a, c, rfl, h1, h2, h3, h4, h5⟩ := own_open h rfl
  obtain ⟨g, rfl, a1, a2, -, -⟩ := h5 h0
  exact ⟨g, c, rfl, h1, h3, by unfold maxLen at h4; omega, a1, a2⟩
theorem encP_pos (enc : Bool) (C : List In) (E : List Int) : 2 ≤ (encP enc C E).length := by unfold encP; simp
theorem chk_lim {enc : Bool} {C : List In} {E : List Int} (h : Chk enc C E) : (encP enc C E).length ≤ 60000000 := by
  have a := ent_len E (fun i hi => by have := h.ent i hi; have := h.nc; omega) E.length (Nat.le_refl _)
  have b := code_len C (fun i x hx => h.inB hx) C.length (Nat.le_refl _)
  rw [List.take_length] at a b
  have c := form_ten E.length (by have := h.ne; omega)
  have d := form_ten C.length (by have := h.nc; omega)
  have := h.nc; have := h.ne
  unfold encP
  simp only [List.length_append, List.length_cons, List.length_nil]
  omega
theorem dec_chk {l : List Int} (h : (decF l).1 = 0) : Chk (decE l) (decC l) (decN l) := by
  have hp : (pgm l).s.e = 0 := by
    by_cases hq : (pgm l).s.e = 0
    · exact hq
    · unfold decF at h
      rw [if_pos hq] at h
      exact absurd h hq
  have hc : (chk (pgm l).enc (pgm l).C (pgm l).E).1 = 0 := by
    by_cases hq : (chk (pgm l).enc (pgm l).C (pgm l).E).1 = 0
    · exact hq
    · unfold decF at h
      rw [if_neg (by omega), if_neg hq] at h
      split at h
      · cases h
      · exact absurd h hq
  unfold decE decC decN
  rw [if_pos h, if_pos h, if_pos h]
  exact chk_ok.1 (chk_zero hc)
theorem dec_none {l : List Int} (h : (decF l).1 ≠ 0) : decE l = false ∧ decC l = [] ∧ decN l = [] := by
  unfold decE decC decN
  rw [if_neg h, if_neg h, if_neg h]
  exact ⟨rfl, rfl, rfl⟩
end Go.Proofs.YtlimcfnehhhmkaaDoor
/- CodeTexts: pair. -/
namespace Go.Proofs.YtlimcfnehhhmkaaDoor
open Go.RowKit
set_option linter.unusedVariables false

theorem PrO.print {w : World} {B : Nat} {enc : Bool} {gC cC gE cE : Nat} {C : List In} {E : List Int} (h : PrO w B enc gC cC gE cE C E) (HT : Hid (TabB w.heap.size w)) : Calls Tryd.prog 21 #[.agg #[.bool enc, .slice (some ⟨gC, 0, none⟩) C.length cC, .slice (some ⟨gE, 0, none⟩) E.length cE]] w fun e w' => e = .returned (.tuple #[.string ⟨(prnP enc C E).toArray⟩, .agg #[.int .i64 0, .int .i64 0]]) ∧ Below w.heap.size w w' := by
  obtain ⟨r1, r2, r3⟩ := h.crow
  obtain ⟨s1, s2⟩ := h.erow
  have k := h.k
  have k1 := k.nc; have k2 := k.ne
  have q := print_any enc (some ⟨gC, 0, none⟩) (some ⟨gE, 0, none⟩) cC cE C E w r2 r3 (by omega) s2 (by omega) (hide_ r1) (hide_ s1) HT
  unfold prnA at q
  rw [if_pos (chk_ok.2 k), chk_ok.2 k] at q
  exact q
theorem eqP_sym (a b : Bool) (C C' : List In) (E E' : List Int) : eqP a b C C' E E' = eqP b a C' C E' E := by
  rw [Bool.eq_iff_iff, eqP_iff, eqP_iff]
  exact ⟨fun h => ⟨h.1.symm, h.2.1.symm, h.2.2.symm⟩, fun h => ⟨h.1.symm, h.2.1.symm, h.2.2.symm⟩⟩
theorem str_enc {a b : Bool} {C C' : List In} {E E' : List Int} (h : Chk a C E) (h' : Chk b C' E') : ((strOfNums (encP a C E)).toList == (strOfNums (encP b C' E')).toList) = eqP a b C C' E E' := by
  rw [Bool.eq_iff_iff, eqP_iff, beq_iff_eq, ByteArray.toList_eq, ByteArray.toList_eq]
  constructor
  · intro e
    have e2 : strOfNums (encP a C E) = strOfNums (encP b C' E') := ByteArray.ext (Array.toList_inj.1 e)
    obtain ⟨x, y, z⟩ := enc_one h h' (strOfNums_inj (encB_bys _ _ _) (encB_bys _ _ _) e2)
    exact ⟨x, z, y⟩
  · rintro ⟨rfl, rfl, rfl⟩
    rfl
theorem str_prn {a b : Bool} {C C' : List In} {E E' : List Int} (h : Chk a C E) (h' : Chk b C' E') : ((⟨(prnP a C E).toArray⟩ : ByteArray).toList == (⟨(prnP b C' E').toArray⟩ : ByteArray).toList) = eqP a b C C' E E' := by
  rw [Bool.eq_iff_iff, eqP_iff, beq_iff_eq, ByteArray.toList_mk, ByteArray.toList_mk]
  constructor
  · intro e
    obtain ⟨x, y, z⟩ := prn_one h h' e
    exact ⟨x, z, y⟩
  · rintro ⟨rfl, rfl, rfl⟩
    rfl
set_option maxRecDepth 100000 in
set_option maxHeartbeats 16000000 in
theorem pair_any (a b : Bool) (B B' gC cC gE cE hC dC hE dE : Nat) (C D : List In) (E F : List Int) (w : World) (h1 : Hid (PrO w B a gC cC gE cE C E)) (h2 : Hid (PrO w B' b hC dC hE dE D F)) (HT : Hid (TabB w.heap.size w)) :
    Calls Tryd.prog 18 #[.agg #[.bool a, .slice (some ⟨gC, 0, none⟩) C.length cC, .slice (some ⟨gE, 0, none⟩) E.length cE], .agg #[.bool b, .slice (some ⟨hC, 0, none⟩) D.length dC, .slice (some ⟨hE, 0, none⟩) F.length dE]] w fun e w' => e = .returned (.bool true) ∧ Below w.heap.size w w' := by
  obtain ⟨w1, hw1⟩ : ∃ wx, wx = (w.alloc (.cells #[.bool a, .slice (some ⟨gC, 0, none⟩) C.length cC, .slice (some ⟨gE, 0, none⟩) E.length cE] 26)).alloc (.cells #[.bool b, .slice (some ⟨hC, 0, none⟩) D.length dC, .slice (some ⟨hE, 0, none⟩) F.length dE] 26) := ⟨_, rfl⟩
  have hB1 : Below w.heap.size w w1 := by rw [hw1]; exact below2 _ _ _
  obtain ⟨kp, kq⟩ := blk2 w #[.bool a, .slice (some ⟨gC, 0, none⟩) C.length cC, .slice (some ⟨gE, 0, none⟩) E.length cE] #[.bool b, .slice (some ⟨hC, 0, none⟩) D.length dC, .slice (some ⟨hE, 0, none⟩) F.length dE] 26 26
  rw [← hw1] at kp kq
  have KP := hide_ kp
  have KQ := hide_ kq
  have HB1 := hide_ hB1
  have H1 := hide_ (h1.out.later hB1)
  have H2 := hide_ (h2.out.later hB1)
  have HTq := hide_ (HT.out.at hB1)
  have HCl : Hid (∀ w', Below w1.heap.size w1 w' → (w'.cell? ⟨w.heap.size, 0, none⟩ = some (.bool a) ∧ w'.cell? ⟨w.heap.size, 1, none⟩ = some (.slice (some ⟨gC, 0, none⟩) C.length cC) ∧ w'.cell? ⟨w.heap.size, 2, none⟩ = some (.slice (some ⟨gE, 0, none⟩) E.length cE)) ∧ (w'.cell? ⟨w.heap.size + 1, 0, none⟩ = some (.bool b) ∧ w'.cell? ⟨w.heap.size + 1, 1, none⟩ = some (.slice (some ⟨hC, 0, none⟩) D.length dC) ∧ w'.cell? ⟨w.heap.size + 1, 2, none⟩ = some (.slice (some ⟨hE, 0, none⟩) F.length dE))) := hide_ (fun w' hb => ⟨⟨(KP.out.later hb).cell 0, (KP.out.later hb).cell 1, (KP.out.later hb).cell 2⟩, ⟨(KQ.out.later hb).cell 0, (KQ.out.later hb).cell 1, (KQ.out.later hb).cell 2⟩⟩)
  have HSE := hide_ (str_enc h1.out.k h2.out.k)
  have HSP := hide_ (str_prn h1.out.k h2.out.k)
  obtain ⟨R, hR⟩ : ∃ R, eqP a b C D E F = R := ⟨_, rfl⟩
  rw [hR] at HSE HSP
  have HEq : Hid (∀ w', Below w1.heap.size w1 w' → Calls Tryd.prog 14 #[.agg #[.bool a, .slice (some ⟨gC, 0, none⟩) C.length cC, .slice (some ⟨gE, 0, none⟩) E.length cE], .agg #[.bool b, .slice (some ⟨hC, 0, none⟩) D.length dC, .slice (some ⟨hE, 0, none⟩) F.length dE]] w' fun e w'' => e = .returned (.bool R) ∧ Below w'.heap.size w' w'') := hide_ (fun w' hb => by
    have k := H1.out.k; have k1 := k.nc; have k2 := k.ne
    have l := H2.out.k; have l1 := l.nc; have l2 := l.ne
    have h := equal_any a b (some ⟨gC, 0, none⟩) (some ⟨hC, 0, none⟩) (some ⟨gE, 0, none⟩) (some ⟨hE, 0, none⟩) cC dC cE dE C D E F w' (by omega) (by omega) (by omega) (by omega) (hide_ (H1.out.later hb).crow.1) (hide_ (H2.out.later hb).crow.1) (hide_ (H1.out.later hb).erow.1) (hide_ (H2.out.later hb).erow.1)
    rw [hR] at h
    exact h)
  have HEr : Hid (∀ w', Below w1.heap.size w1 w' → Calls Tryd.prog 14 #[.agg #[.bool b, .slice (some ⟨hC, 0, none⟩) D.length dC, .slice (some ⟨hE, 0, none⟩) F.length dE], .agg #[.bool a, .slice (some ⟨gC, 0, none⟩) C.length cC, .slice (some ⟨gE, 0, none⟩) E.length cE]] w' fun e w'' => e = .returned (.bool R) ∧ Below w'.heap.size w' w'') := hide_ (fun w' hb => by
    have k := H1.out.k; have k1 := k.nc; have k2 := k.ne
    have l := H2.out.k; have l1 := l.nc; have l2 := l.ne
    have h := equal_any b a (some ⟨hC, 0, none⟩) (some ⟨gC, 0, none⟩) (some ⟨hE, 0, none⟩) (some ⟨gE, 0, none⟩) dC cC dE cE D C F E w' (by omega) (by omega) (by omega) (by omega) (hide_ (H2.out.later hb).crow.1) (hide_ (H1.out.later hb).crow.1) (hide_ (H2.out.later hb).erow.1) (hide_ (H1.out.later hb).erow.1)
    rw [← eqP_sym, hR] at h
    exact h)
  have HRq : Hid (∀ w', Below w1.heap.size w1 w' → Calls Tryd.prog 17 #[.agg #[.bool a, .slice (some ⟨gC, 0, none⟩) C.length cC, .slice (some ⟨gE, 0, none⟩) E.length cE], .agg #[.bool b, .slice (some ⟨hC, 0, none⟩) D.length dC, .slice (some ⟨hE, 0, none⟩) F.length dE]] w' fun e w'' => e = .returned (.bool R) ∧ Below w'.heap.size w' w'') := hide_ (fun w' hb => by
    have k := H1.out.k; have k1 := k.nc; have k2 := k.ne
    have l := H2.out.k; have l1 := l.nc; have l2 := l.ne
    have h := requal_any a b (some ⟨gC, 0, none⟩) (some ⟨hC, 0, none⟩) (some ⟨gE, 0, none⟩) (some ⟨hE, 0, none⟩) cC dC cE dE C D E F w' (by omega) (by omega) (by omega) (by omega) (hide_ (H1.out.later hb).crow.1) (hide_ (H2.out.later hb).crow.1) (hide_ (H1.out.later hb).erow.1) (hide_ (H2.out.later hb).erow.1)
    rw [hR] at h
    exact h)
  have HE1 := hide_ (fun w' (hb : Below w1.heap.size w1 w') => (H1.out.later hb).encode)
  have HE2 := hide_ (fun w' (hb : Below w1.heap.size w1 w') => (H2.out.later hb).encode)
  have HP1 := hide_ (fun w' (hb : Below w1.heap.size w1 w') => (H1.out.later hb).print (hide_ (HTq.out.at hb)))
  have HP2 := hide_ (fun w' (hb : Below w1.heap.size w1 w') => (H2.out.later hb).print (hide_ (HTq.out.at hb)))
  generalize encP a C E = l1 at *
  generalize encP b D F = l2 at *
  generalize (⟨(prnP a C E).toArray⟩ : ByteArray) = s1 at *
  generalize (⟨(prnP b D F).toArray⟩ : ByteArray) = s2 at *
  clear hB1 kp kq hR
  go_enter Tryd.func18, Tryd.ntmps18
  go_upto_region 1 with fail
  rw [← hw1]
  clear hw1
  obtain ⟨⟨p0, p1, p2⟩, ⟨q0, q1, q2⟩⟩ := HCl.out _ (Below.refl _ _)
  go_wp2_with fail
  refine (HE1.out _ (Below.refl _ _)).mono ?_
  rintro e wa1 ⟨⟨v1, rfl, HO1⟩, hBa1⟩
  obtain ⟨a1, c1, rfl, hr1, -, -, -⟩ := HO1.out.row
  obtain ⟨wb1, hwb1⟩ : ∃ wx, wx = wa1.alloc (.cells #[.int .i64 0, .int .i64 0] 32) := ⟨_, rfl⟩
  have hBb1 : Below wa1.heap.size wa1 wb1 := by rw [hwb1]; exact below1 _ _
  have K1 : Hid (Blk wb1 wa1.heap.size 32 [.int .i64 0, .int .i64 0]) := hide_ (by rw [hwb1]; exact Blk.newA wa1 _ _)
  have HW1 := hide_ (below_to (Below.refl _ _) (below_to hBa1 hBb1))
  have HR1 := hide_ (Row.later hr1 hBb1)
  have HX1 := hide_ (below_to hBa1 hBb1)
  clear p0 p1 p2 q0 q1 q2 hr1 HO1 hBa1 hBb1
  go_upto_region 2 with fail
  rw [← hwb1]
  clear hwb1
  obtain ⟨⟨p0, p1, p2⟩, ⟨q0, q1, q2⟩⟩ := HCl.out _ HW1.out
  go_wp2_with fail
  refine (HE2.out _ HW1.out).mono ?_
  rintro e wa2 ⟨⟨v2, rfl, HO2⟩, hBa2⟩
  obtain ⟨a2, c2, rfl, hr2, -, -, -⟩ := HO2.out.row
  obtain ⟨wb2, hwb2⟩ : ∃ wx, wx = wa2.alloc (.cells #[.int .i64 0, .int .i64 0] 32) := ⟨_, rfl⟩
  have hBb2 : Below wa2.heap.size wa2 wb2 := by rw [hwb2]; exact below1 _ _
  have K2 : Hid (Blk wb2 wa2.heap.size 32 [.int .i64 0, .int .i64 0]) := hide_ (by rw [hwb2]; exact Blk.newA wa2 _ _)
  have HW2 := hide_ (below_to HW1.out (below_to hBa2 hBb2))
  have HR2 := hide_ (Row.later hr2 hBb2)
  have HX2 := hide_ (below_to hBa2 hBb2)
  clear p0 p1 p2 q0 q1 q2 hr2 HO2 hBa2 hBb2
  go_upto_region 3 with fail
  rw [← hwb2]
  clear hwb2
  obtain ⟨⟨p0, p1, p2⟩, ⟨q0, q1, q2⟩⟩ := HCl.out _ HW2.out
  go_wp2_with fail
  refine (HP1.out _ HW2.out).mono ?_
  rintro e wa3 ⟨rfl, hBa3⟩
  obtain ⟨wb3, hwb3⟩ : ∃ wx, wx = wa3.alloc (.cells #[.int .i64 0, .int .i64 0] 32) := ⟨_, rfl⟩
  have hBb3 : Below wa3.heap.size wa3 wb3 := by rw [hwb3]; exact below1 _ _
  have K3 : Hid (Blk wb3 wa3.heap.size 32 [.int .i64 0, .int .i64 0]) := hide_ (by rw [hwb3]; exact Blk.newA wa3 _ _)
  have HW3 := hide_ (below_to HW2.out (below_to hBa3 hBb3))
  have HX3 := hide_ (below_to hBa3 hBb3)
  clear p0 p1 p2 q0 q1 q2 hBa3 hBb3
  go_upto_region 4 with fail
  rw [← hwb3]
  clear hwb3
  obtain ⟨⟨p0, p1, p2⟩, ⟨q0, q1, q2⟩⟩ := HCl.out _ HW3.out
  go_wp2_with fail
  refine (HP2.out _ HW3.out).mono ?_
  rintro e wa4 ⟨rfl, hBa4⟩
  obtain ⟨wb4, hwb4⟩ : ∃ wx, wx = wa4.alloc (.cells #[.int .i64 0, .int .i64 0] 32) := ⟨_, rfl⟩
  have hBb4 : Below wa4.heap.size wa4 wb4 := by rw [hwb4]; exact below1 _ _
  have K4 : Hid (Blk wb4 wa4.heap.size 32 [.int .i64 0, .int .i64 0]) := hide_ (by rw [hwb4]; exact Blk.newA wa4 _ _)
  have HW4 := hide_ (below_to HW3.out (below_to hBa4 hBb4))
  have HX4 := hide_ (below_to hBa4 hBb4)
  clear p0 p1 p2 q0 q1 q2 hBa4 hBb4
  go_upto_region 5 with fail
  rw [← hwb4]
  clear hwb4
  have f1 := (K1.out.later (below_to HX2.out (below_to HX3.out HX4.out))).cell 0
  have f2 := (K2.out.later (below_to HX3.out HX4.out)).cell 0
  have f3 := (K3.out.later HX4.out).cell 0
  have f4 := K4.out.cell 0
  simp at f1 f2 f3 f4
  have HNu := hide_ (fun n w' => num_any n w')
  go_upto_region 7 with (go_at_call 16; refine (HNu.out _ _).mono ?_; rintro e w' ⟨rfl, rfl⟩)
  clear f1 f2 f3 f4
  obtain ⟨⟨p0, p1, p2⟩, ⟨q0, q1, q2⟩⟩ := HCl.out _ HW4.out
  go_wp2_with fail
  refine (HRq.out _ HW4.out).mono ?_
  rintro e wc ⟨rfl, hBc⟩
  have HWc := hide_ (below_to HW4.out hBc)
  have HXc := hide_ hBc
  clear p0 p1 p2 q0 q1 q2 hBc
  obtain ⟨⟨p0, p1, p2⟩, ⟨q0, q1, q2⟩⟩ := HCl.out _ HWc.out
  go_wp2_with fail
  refine (HEq.out _ HWc.out).mono ?_
  rintro e wd ⟨rfl, hBd⟩
  have HWd := hide_ (below_to HWc.out hBd)
  have HXd := hide_ (below_to HXc.out hBd)
  clear p0 p1 p2 q0 q1 q2 hBd
  obtain ⟨⟨p0, p1, p2⟩, ⟨q0, q1, q2⟩⟩ := HCl.out _ HWd.out
  have heq : (R == R) = true := by simp
  go_wp2_with fail
  refine (HEr.out _ HWd.out).mono ?_
  rintro e we ⟨rfl, hBe⟩
  have hXe := below_to HXd.out hBe
  have cv1 := conv_row elU8 Tryd.underlying9 we a1 l1.length c1 l1 rfl (HR1.out.later (below_to HX2.out (below_to HX3.out (below_to HX4.out hXe))))
  have cv2 := conv_row elU8 Tryd.underlying9 we a2 l2.length c2 l2 rfl (HR2.out.later (below_to HX3.out (below_to HX4.out hXe)))
  have HWe := hide_ (below_to HWd.out hBe)
  have hs1 := HSE.out
  have hs2 := HSP.out
  clear p0 p1 p2 q0 q1 q2 hBe hXe
  go_wp2_with fail
  go_ret
  exact ⟨by simp, below_to HB1.out HWe.out⟩
end Go.Proofs.YtlimcfnehhhmkaaDoor
/- CodeTexts: its walk. -/
namespace Go.Proofs.YtlimcfnehhhmkaaDoor
open Go.RowKit
set_option linter.unusedVariables false

theorem PrO.copyC {w : World} {B : Nat} {enc : Bool} {gC cC gE cE : Nat} {C : List In} {E : List Int} (h : PrO w B enc gC cC gE cE C E) : ∃ g cap w', (Builtin.append_ #[23, 23] 23 #[.slice none 0 0, .slice (some ⟨gC, 0, none⟩) C.length cC]).run Tryd.prog w = .ok (.slice (some ⟨g, 0, none⟩) C.length cap) w' ∧ COwn w' w.heap.size (.slice (some ⟨g, 0, none⟩) C.length cap) C ∧ Below w.heap.size w w' := by
  have k := h.k; have k1 := k.nc
  obtain ⟨v, w', h1, h2, h3⟩ := run_copyG (P := Tryd.prog) (t := 23) (e := 28) inc_len inc_one Tryd.underlying23 infoIn rfl (by decide) w (some ⟨gC, 0, none⟩) C.length cC C rfl h.crow.1 (fun h => by cases h) (by unfold maxLen; omega) (by omega)
  obtain ⟨g, cap, ys, rfl, -⟩ := ownS_blk h2 h.c0
  exact ⟨g, cap, w', h1, h2, h3⟩
theorem PrO.copyE {w : World} {B : Nat} {enc : Bool} {gC cC gE cE : Nat} {C : List In} {E : List Int} (h : PrO w B enc gC cC gE cE C E) : ∃ g cap w', (Builtin.append_ #[24, 24] 24 #[.slice none 0 0, .slice (some ⟨gE, 0, none⟩) E.length cE]).run Tryd.prog w = .ok (.slice (some ⟨g, 0, none⟩) E.length cap) w' ∧ IOwn w' w.heap.size (.slice (some ⟨g, 0, none⟩) E.length cap) E ∧ Below w.heap.size w w' := by
  have k := h.k; have k1 := k.ne
  obtain ⟨v, w', h1, h2, h3⟩ := run_copy elI w 24 w.heap.size (some ⟨gE, 0, none⟩) E.length cE E rfl h.erow.1 (fun h => by cases h) (by unfold maxLen; omega) (by omega) (Nat.le_refl _)
  obtain ⟨g, cap, ys, rfl, -⟩ := ownS_blk h2 h.e0
  exact ⟨g, cap, w', h1, h2, ((Upd.refl (fun _ => False) w).grown h3 (fun k hk => by cases hk)).below _ (Nat.le_refl _) (fun k hk => hk.elim)⟩
theorem upd4 (w : World) (g i j k l : Nat) (x y z u : Value) : Upd (fun n => n = g) w ((((w.setCell ⟨g, i, none⟩ x).setCell ⟨g, j, none⟩ y).setCell ⟨g, k, none⟩ z).setCell ⟨g, l, none⟩ u) := by
  have h1 : Upd (fun n => n = g) w (w.setCell ⟨g, i, none⟩ x) := (Upd.refl (fun n => n = g) w).set ⟨g, i, none⟩ x (.inl rfl)
  have h2 := h1.set ⟨g, j, none⟩ y (.inl rfl)
  have h3 := h2.set ⟨g, k, none⟩ z (.inl rfl)
  exact h3.set ⟨g, l, none⟩ u (.inl rfl)
theorem COwn.cellAt {w : World} {B g n cap i : Nat} {l : List In} {x : In} (h : COwn w B (.slice (some ⟨g, 0, none⟩) n cap) l) (hx : l[i]? = some x) : w.cell? ⟨g, i * 4, none⟩ = some (.int .i64 x.op) ∧ w.cell? ⟨g, i * 4 + 1, none⟩ = some (.int .i64 x.a) ∧ w.cell? ⟨g, i * 4 + 2, none⟩ = some (.int .i64 x.b) ∧ w.cell? ⟨g, i * 4 + 3, none⟩ = some (.int .i64 x.c) := by
  obtain ⟨a, c, e, -, -, hr⟩ := h.row
  injection e with e _ _
  subst e
  have := IRow.at hr hx
  simpa using this
theorem blk_ne3 {w : World} {g g' : Nat} {t : TypeId} {xs ys : List Value} (h : Blk w g t xs) (h' : g' < g) : g ≠ g' := by omega
set_option maxRecDepth 100000 in
set_option maxHeartbeats 16000000 in
theorem texts_any (a b : Bool) (ac ae ad af : Option Addr) (cc ce cd cf : Nat) (C0 D0 : List In) (E0 F0 : List Int) (at_ : Int) (x : In) (w : World) (hCl : C0.length ≤ 4398046511104) (hel : E0.length ≤ 17592186044415) (hcn : ac = none → cc = 0) (hen : ae = none → ce = 0) (hr : Hid (IRow w ac C0)) (he : Hid (Row .i64 w ae E0)) (hDl : D0.length ≤ 4398046511104) (hfl : F0.length ≤ 17592186044415) (hdn : ad = none → cd = 0) (hfn : af = none → cf = 0) (hr2 : Hid (IRow w ad D0)) (he2 : Hid (Row .i64 w af F0)) (HT : Hid (TabB w.heap.size w)) :
    Calls Tryd.prog 7 #[.agg #[.bool a, .slice ac C0.length cc, .slice ae E0.length ce], .agg #[.bool b, .slice ad D0.length cd, .slice af F0.length cf], .int .i64 at_, .agg #[.int .i64 x.op, .int .i64 x.a, .int .i64 x.b, .int .i64 x.c]] w fun e w' => e = .returned (.bool true) ∧ Below w.heap.size w w' := by
  obtain ⟨w1, hw1⟩ : ∃ wx, wx = ((w.alloc (.cells #[.bool a, .slice ac C0.length cc, .slice ae E0.length ce] 26)).alloc (.cells #[.bool b, .slice ad D0.length cd, .slice af F0.length cf] 26)).alloc (.cells #[.int .i64 x.op, .int .i64 x.a, .int .i64 x.b, .int .i64 x.c] 28) := ⟨_, rfl⟩
  have hB1 : Below w.heap.size w w1 := by rw [hw1]; exact below3 _ _ _ _
  obtain ⟨kp, kq, kx⟩ := blk3 w #[.bool a, .slice ac C0.length cc, .slice ae E0.length ce] #[.bool b, .slice ad D0.length cd, .slice af F0.length cf] #[.int .i64 x.op, .int .i64 x.a, .int .i64 x.b, .int .i64 x.c] 26 26 28
  rw [← hw1] at kp kq kx
  have KP1 := hide_ kp
  have KQ1 := hide_ kq
  have KX1 := hide_ kx
  have HAw := hide_ (awake_any w1 (hide_ (HT.out.at hB1)))
  have HB1 := hide_ hB1
  have HSz : Hid (w.heap.size + 1 < w1.heap.size) := hide_ kq.lt
  clear hB1 kp kq kx
  go_enter Tryd.func7, Tryd.ntmps7
  go_upto_region 1 with fail
  rw [← hw1]
  clear hw1
  go_upto_region 3 with (go_at_call 9; refine HAw.out.mono ?_; rintro e w2 ⟨rfl, hB2⟩)
  have HB2 := hide_ (below_to HB1.out hB2)
  have KP2 := hide_ (KP1.out.later hB2)
  have KQ2 := hide_ (KQ1.out.later hB2)
  have KX2 := hide_ (KX1.out.later hB2)
  have HMd := hide_ (rmade_any a ac ae cc ce C0 E0 60 w2 (by omega) hCl hel hcn hen (hide_ (hr.out.later HB2.out)) (hide_ (he.out.later HB2.out)))
  have p0 := KP2.out.cell 0; have p1 := KP2.out.cell 1; have p2 := KP2.out.cell 2
  simp at p0 p1 p2
  clear hB2 HAw HB1 KP1 KQ1 KX1
  go_wp2_with fail
  refine HMd.out.mono ?_
  intro e w3 hmt
  obtain ⟨gC, cC, gE, cE, C, E, rfl, hpo, hC61, hB3⟩ := made_open hmt
  clear hmt
  have KP3 := hide_ (KP2.out.later hB3)
  have q0 := KP3.out.cell 0; have q1 := KP3.out.cell 1; have q2 := KP3.out.cell 2
  have qf := fun i => KP3.out.frozen i
  simp at q0 q1 q2
  obtain ⟨w4, hw4⟩ : ∃ wx, wx = ((w3.setCell ⟨w.heap.size, 0, none⟩ (.bool a)).setCell ⟨w.heap.size, 1, none⟩ (.slice (some ⟨gC, 0, none⟩) C.length cC)).setCell ⟨w.heap.size, 2, none⟩ (.slice (some ⟨gE, 0, none⟩) E.length cE) := ⟨_, rfl⟩
  have hU4 : Upd (fun k => k = w.heap.size) w3 w4 := by rw [hw4]; exact upd3 _ _ _ _ _
  have KP4 : Hid (Blk w4 w.heap.size 26 [.bool a, .slice (some ⟨gC, 0, none⟩) C.length cC, .slice (some ⟨gE, 0, none⟩) E.length cE]) := hide_ (by rw [hw4]; exact setP KP3.out _ _ _)
  have KQ4 := hide_ ((KQ2.out.later hB3).upd hU4 (by omega))
  have KX4 := hide_ ((KX2.out.later hB3).upd hU4 (by omega))
  have HP4 : Hid (PrO w4 w2.heap.size a gC cC gE cE C E) := hide_ (hpo.upd (S := fun _ => False) KP3.out hU4)
  have HB4 : Hid (Below w.heap.size w w4) := hide_ ((below_to HB2.out hB3).trans (hU4.below _ (below_to HB2.out hB3).size (fun k hk => by omega)))
  clear hU4 hpo hB3 HMd p0 p1 p2 KP2 KQ2 KX2
  go_upto_region 4 with fail
  rw [← hw4]
  clear hw4 q0 q1 q2 qf KP3
  have HMe := hide_ (rmade_any b ad af cd cf D0 F0 60 w4 (by omega) hDl hfl hdn hfn (hide_ (hr2.out.later HB4.out)) (hide_ (he2.out.later HB4.out)))
  have p0 := KQ4.out.cell 0; have p1 := KQ4.out.cell 1; have p2 := KQ4.out.cell 2
  simp at p0 p1 p2
  go_wp2_with fail
  refine HMe.out.mono ?_
  intro e w5 hmt
  obtain ⟨hC, dC, hE, dE, D, F, rfl, hpo, -, hB5⟩ := made_open hmt
  clear hmt
  have KQ5 := hide_ (KQ4.out.later hB5)
  have q0 := KQ5.out.cell 0; have q1 := KQ5.out.cell 1; have q2 := KQ5.out.cell 2
  have qf := fun i => KQ5.out.frozen i
  simp at q0 q1 q2
  obtain ⟨w6, hw6⟩ : ∃ wx, wx = ((w5.setCell ⟨w.heap.size + 1, 0, none⟩ (.bool b)).setCell ⟨w.heap.size + 1, 1, none⟩ (.slice (some ⟨hC, 0, none⟩) D.length dC)).setCell ⟨w.heap.size + 1, 2, none⟩ (.slice (some ⟨hE, 0, none⟩) F.length dE) := ⟨_, rfl⟩
  have hU6 : Upd (fun k => k = w.heap.size + 1) w5 w6 := by rw [hw6]; exact upd3 _ _ _ _ _
  have KQ6 : Hid (Blk w6 (w.heap.size + 1) 26 [.bool b, .slice (some ⟨hC, 0, none⟩) D.length dC, .slice (some ⟨hE, 0, none⟩) F.length dE]) := hide_ (by rw [hw6]; exact setP KQ5.out _ _ _)
  have KP6 := hide_ ((KP4.out.later hB5).upd hU6 (by omega))
  have KX6 := hide_ ((KX4.out.later hB5).upd hU6 (by omega))
  have HPO := hide_ ((HP4.out.later hB5).upd (S := fun _ => False) KQ5.out hU6)
  have HQO : Hid (PrO w6 w4.heap.size b hC dC hE dE D F) := hide_ (hpo.upd (S := fun _ => False) KQ5.out hU6)
  have HS6 : Hid (w.heap.size + 1 < w6.heap.size) := hide_ KQ6.out.lt
  have HB6 : Hid (Below w.heap.size w w6) := hide_ ((below_to HB4.out hB5).trans (hU6.below _ (below_to HB4.out hB5).size (fun k hk => by omega)))
  clear hU6 hpo hB5 HMe p0 p1 p2 KP4 KQ4 KX4 HP4 HB2 HB4
  go_upto_region 5 with fail
  rw [← hw6]
  clear hw6 q0 q1 q2 qf KQ5
  have HSS : Hid (∀ w', Below w6.heap.size w6 w' → (fun w' => w'.cell? ⟨w.heap.size, 0, none⟩ = some (.bool a) ∧ w'.cell? ⟨w.heap.size, 1, none⟩ = some (.slice (some ⟨gC, 0, none⟩) C.length cC) ∧ w'.cell? ⟨w.heap.size, 2, none⟩ = some (.slice (some ⟨gE, 0, none⟩) E.length cE)) w') := hide_ (fun w' hb => ⟨(KP6.out.later hb).cell 0, (KP6.out.later hb).cell 1, (KP6.out.later hb).cell 2⟩)
  go_cut [9] from 17 to 25 (fun x9 wc => ∃ (gR ga ka gb kb : Nat) (wf : World), wf = wc ∧ x9 = .pointer (some ⟨gR, 0, none⟩) ∧ Hid (Blk wf gR 26 [.bool a, .slice (some ⟨ga, 0, none⟩) C.length ka, .slice (some ⟨gb, 0, none⟩) E.length kb]) ∧ Hid (COwn wf w6.heap.size (.slice (some ⟨ga, 0, none⟩) C.length ka) C) ∧ Hid (IOwn wf w6.heap.size (.slice (some ⟨gb, 0, none⟩) E.length kb) E) ∧ Hid (w6.heap.size ≤ gR) ∧ Hid (Below w6.heap.size w6 wf))
  case first =>
    refine wp_region_last 10 (fun w' => w'.cell? ⟨w.heap.size, 0, none⟩ = some (.bool a) ∧ w'.cell? ⟨w.heap.size, 1, none⟩ = some (.slice (some ⟨gC, 0, none⟩) C.length cC) ∧ w'.cell? ⟨w.heap.size, 2, none⟩ = some (.slice (some ⟨gE, 0, none⟩) E.length cE)) (by kernel_rfl) (HSS.out _ ((Below.refl w6.heap.size w6).drew)) (fun hHeld => ?_)
    refine wpAnyF_take [10] (by kernel_rfl) (i := 0) (v := ?vt1) rfl (by kernel_rfl) (by kernel_rfl) (by kernel_rfl) (fun _ _ _ h => h) (Or.inl ⟨by kernel_rfl, ?hyt1⟩) hHeld ?restt1
    case hyt1 => intro w' hSw; (try dsimp only at hSw); go_simp; try with_reducible rfl
    simp only [Act.put]
    refine wpAnyF_take [10] (by kernel_rfl) (i := 1) (v := ?vt2) rfl (by kernel_rfl) (by kernel_rfl) (by kernel_rfl) (fun _ _ _ h => h) (Or.inl ⟨by kernel_rfl, ?hyt2⟩) hHeld ?restt2
    case hyt2 => intro w' hSw; (try dsimp only at hSw); go_simp; try with_reducible rfl
    simp only [Act.put]
    refine wpAnyF_take [10] (by kernel_rfl) (i := 2) (v := ?vt3) rfl (by kernel_rfl) (by kernel_rfl) (by kernel_rfl) (fun _ _ _ h => h) (Or.inl ⟨by kernel_rfl, ?hyt3⟩) hHeld ?restt3
    case hyt3 => intro w' hSw; (try dsimp only at hSw); go_simp; try with_reducible rfl
    simp only [Act.put]
    refine wpAnyF_take [10] (by kernel_rfl) (i := 3) (v := ?vt4) rfl (by kernel_rfl) (by kernel_rfl) (by kernel_rfl) (fun _ _ _ h => h) (Or.inl ⟨by kernel_rfl, ?hyt4⟩) hHeld ?restt4
    case hyt4 => intro w' hSw; (try dsimp only at hSw); go_simp; try with_reducible rfl
    simp only [Act.put]
    refine wpAnyF_take [10] (by kernel_rfl) (i := 5) (v := ?vt5) rfl (by kernel_rfl) (by kernel_rfl) (by kernel_rfl) (fun _ _ _ h => h) (Or.inl ⟨by kernel_rfl, ?hyt5⟩) hHeld ?restt5
    case hyt5 => intro w' hSw; (try dsimp only at hSw); go_simp; try with_reducible rfl
    simp only [Act.put]
    refine wpAnyF_take [10] (by kernel_rfl) (i := 6) (v := ?vt6) rfl (by kernel_rfl) (by kernel_rfl) (by kernel_rfl) (fun _ _ _ h => h) (Or.inl ⟨by kernel_rfl, ?hyt6⟩) hHeld ?restt6
    case hyt6 => intro w' hSw; (try dsimp only at hSw); go_simp; try with_reducible rfl
    simp only [Act.put]
    refine wpAnyF_ready (rs := [4, 9]) (by kernel_rfl) (by simp) ?_
    refine AllReadyF.cons rfl (fun K hK => ?_) ?_
    · obtain ⟨ga, ka, wa, hra, hoa, hba⟩ := (HPO.out.later ((Below.refl w6.heap.size w6).drew)).copyC
      have HOa : Hid (COwn wa w6.heap.size (.slice (some ⟨ga, 0, none⟩) C.length ka) C) := hide_ (own_base hoa (Below.size ((Below.refl w6.heap.size w6).drew)))
      have HX := hide_ (below_to ((Below.refl w6.heap.size w6).drew) hba)
      clear hoa hba
      refine step_append_run rfl (.const (.slice none 0 0)) (.tmp 20) 23 23 rfl (v := .slice none 0 0) (u := .slice (some ⟨gC, 0, none⟩) C.length cC) (by kernel_rfl) (by kernel_rfl) hra ?_
      clear hra
      refine hK.out _ _ (HSS.out _ HX.out) (fun hHeld => ?_)
      clear hK K
      refine wpAnyF_ready (rs := [7, 9]) (by kernel_rfl) (by simp) ?_
      refine AllReadyF.cons rfl (fun K hK => ?_) ?_
      · obtain ⟨gb, kb, wb, hrb, hob, hbb⟩ := (HPO.out.later (HX.out)).copyE
        have HOa := hide_ (HOa.out.later hbb)
        have HOb : Hid (IOwn wb w6.heap.size (.slice (some ⟨gb, 0, none⟩) E.length kb) E) := hide_ (own_base hob (Below.size (HX.out)))
        have HX := hide_ (below_to (HX.out) hbb)
        clear hob hbb
        refine step_append_run rfl (.const (.slice none 0 0)) (.tmp 23) 24 24 rfl (v := .slice none 0 0) (u := .slice (some ⟨gE, 0, none⟩) E.length cE) (by kernel_rfl) (by kernel_rfl) hrb ?_
        clear hrb
        refine hK.out _ _ (HSS.out _ HX.out) (fun hHeld => ?_)
        clear hK K
        refine wpAnyF_take [10] (by kernel_rfl) (i := 8) (v := ?vt7) rfl (by kernel_rfl) (by kernel_rfl) (by kernel_rfl) (fun _ _ _ h => h) (Or.inl ⟨by kernel_rfl, ?hyt7⟩) hHeld ?restt7
        case hyt7 => intro w' hSw; (try dsimp only at hSw); go_simp; try with_reducible rfl
        simp only [Act.put]
        refine wpAnyF_ready (rs := [9]) (by kernel_rfl) (by simp) ?_
        refine AllReadyF.cons rfl (fun K hK => ?_) AllReadyF.nil
        go_simp
        obtain ⟨wA, hwA⟩ : ∃ wx, wx = (World.alloc wb (.cells #[.bool false, .slice none 0 0, .slice none 0 0] 26)) := ⟨_, rfl⟩
        have KA : Hid (Blk wA (World.heap wb).size 26 [.bool false, .slice none 0 0, .slice none 0 0]) := hide_ (by rw [hwA]; exact Blk.newA _ _ _)
        have hbA : Below (World.heap wb).size wb wA := by rw [hwA]; exact below1 _ _
        have HGA : Hid (w6.heap.size ≤ (World.heap wb).size) := hide_ (Below.size (HX.out))
        have HOa := hide_ (HOa.out.later hbA)
        have HOb := hide_ (HOb.out.later hbA)
        have HX := hide_ (below_to (HX.out) hbA)
        try rw [← hwA]
        clear hwA hbA
        refine hK.out _ _ (HSS.out _ HX.out) (fun hHeld => ?_)
        clear hK K
        refine wpAnyF_ready (rs := [10]) (by kernel_rfl) (by simp) ?_
        refine AllReadyF.last rfl (fun K hK => ?_)
        have z0 := KA.out.cell 0; have z1 := KA.out.cell 1; have z2 := KA.out.cell 2
        have zf := fun i => KA.out.frozen i
        simp at z0 z1 z2
        go_simp
        refine hK.out _ _ ?_
        clear hK K
        refine wpAnyF_done (by kernel_rfl) ?_ _
        go_wp2_with fail
        go_meet
        case rel => exact ⟨_, ga, ka, gb, kb, _, rfl, rfl, hide_ (setP KA.out _ _ _), hide_ (ownS_upd HOa.out (upd3 _ _ _ _ _) (fun k e hk => by subst hk; exact notC HOa.out KA.out (by decide) e)), hide_ (IOwn.upd HOb.out (upd3 _ _ _ _ _) (fun k e hk => by subst hk; exact notI HOb.out KA.out (by decide) e)), HGA, hide_ (below_wr3 HX.out HGA.out _ _ _)⟩
      refine AllReadyF.cons rfl (fun K hK => ?_) AllReadyF.nil
      go_simp
      obtain ⟨wA, hwA⟩ : ∃ wx, wx = (World.alloc wa (.cells #[.bool false, .slice none 0 0, .slice none 0 0] 26)) := ⟨_, rfl⟩
      have KA : Hid (Blk wA (World.heap wa).size 26 [.bool false, .slice none 0 0, .slice none 0 0]) := hide_ (by rw [hwA]; exact Blk.newA _ _ _)
      have hbA : Below (World.heap wa).size wa wA := by rw [hwA]; exact below1 _ _
      have HGA : Hid (w6.heap.size ≤ (World.heap wa).size) := hide_ (Below.size (HX.out))
      have HOa := hide_ (HOa.out.later hbA)
      have HX := hide_ (below_to (HX.out) hbA)
      try rw [← hwA]
      clear hwA hbA
      refine hK.out _ _ (HSS.out _ HX.out) (fun hHeld => ?_)
      clear hK K
      refine wpAnyF_ready (rs := [7]) (by kernel_rfl) (by simp) ?_
      refine AllReadyF.cons rfl (fun K hK => ?_) AllReadyF.nil
      obtain ⟨gb, kb, wb, hrb, hob, hbb⟩ := (HPO.out.later (HX.out)).copyE
      have KA := hide_ (KA.out.later hbb)
      have HOa := hide_ (HOa.out.later hbb)
      have HOb : Hid (IOwn wb w6.heap.size (.slice (some ⟨gb, 0, none⟩) E.length kb) E) := hide_ (own_base hob (Below.size (HX.out)))
      have HX := hide_ (below_to (HX.out) hbb)
      clear hob hbb
      refine step_append_run rfl (.const (.slice none 0 0)) (.tmp 23) 24 24 rfl (v := .slice none 0 0) (u := .slice (some ⟨gE, 0, none⟩) E.length cE) (by kernel_rfl) (by kernel_rfl) hrb ?_
      clear hrb
      refine hK.out _ _ (HSS.out _ HX.out) (fun hHeld => ?_)
      clear hK K
      refine wpAnyF_take [10] (by kernel_rfl) (i := 8) (v := ?vt8) rfl (by kernel_rfl) (by kernel_rfl) (by kernel_rfl) (fun _ _ _ h => h) (Or.inl ⟨by kernel_rfl, ?hyt8⟩) hHeld ?restt8
      case hyt8 => intro w' hSw; (try dsimp only at hSw); go_simp; try with_reducible rfl
      simp only [Act.put]
      refine wpAnyF_ready (rs := [10]) (by kernel_rfl) (by simp) ?_
      refine AllReadyF.last rfl (fun K hK => ?_)
      have z0 := KA.out.cell 0; have z1 := KA.out.cell 1; have z2 := KA.out.cell 2
      have zf := fun i => KA.out.frozen i
      simp at z0 z1 z2
      go_simp
      refine hK.out _ _ ?_
      clear hK K
      refine wpAnyF_done (by kernel_rfl) ?_ _
      go_wp2_with fail
      go_meet
      case rel => exact ⟨_, ga, ka, gb, kb, _, rfl, rfl, hide_ (setP KA.out _ _ _), hide_ (ownS_upd HOa.out (upd3 _ _ _ _ _) (fun k e hk => by subst hk; exact notC HOa.out KA.out (by decide) e)), hide_ (IOwn.upd HOb.out (upd3 _ _ _ _ _) (fun k e hk => by subst hk; exact notI HOb.out KA.out (by decide) e)), HGA, hide_ (below_wr3 HX.out HGA.out _ _ _)⟩
    refine AllReadyF.cons rfl (fun K hK => ?_) AllReadyF.nil
    go_simp
    obtain ⟨wA, hwA⟩ : ∃ wx, wx = (World.alloc w6 (.cells #[.bool false, .slice none 0 0, .slice none 0 0] 26)).drew := ⟨_, rfl⟩
    have KA : Hid (Blk wA (World.heap w6).size 26 [.bool false, .slice none 0 0, .slice none 0 0]) := hide_ (by rw [hwA]; exact Blk.newA _ _ _)
    have hbA : Below (World.heap w6).size w6 wA := by rw [hwA]; exact (below1 _ _).drew
    have HGA : Hid (w6.heap.size ≤ (World.heap w6).size) := hide_ (Below.size (Below.refl w6.heap.size w6))
    have HX := hide_ (below_to (Below.refl w6.heap.size w6) hbA)
    try rw [← hwA]
    clear hwA hbA
    refine hK.out _ _ (HSS.out _ HX.out) (fun hHeld => ?_)
    clear hK K
    refine wpAnyF_ready (rs := [4]) (by kernel_rfl) (by simp) ?_
    refine AllReadyF.cons rfl (fun K hK => ?_) AllReadyF.nil
    obtain ⟨ga, ka, wa, hra, hoa, hba⟩ := (HPO.out.later (HX.out)).copyC
    have KA := hide_ (KA.out.later hba)
    have HOa : Hid (COwn wa w6.heap.size (.slice (some ⟨ga, 0, none⟩) C.length ka) C) := hide_ (own_base hoa (Below.size (HX.out)))
    have HX := hide_ (below_to (HX.out) hba)
    clear hoa hba
    refine step_append_run rfl (.const (.slice none 0 0)) (.tmp 20) 23 23 rfl (v := .slice none 0 0) (u := .slice (some ⟨gC, 0, none⟩) C.length cC) (by kernel_rfl) (by kernel_rfl) hra ?_
    clear hra
    refine hK.out _ _ (HSS.out _ HX.out) (fun hHeld => ?_)
    clear hK K
    refine wpAnyF_ready (rs := [7]) (by kernel_rfl) (by simp) ?_
    refine AllReadyF.cons rfl (fun K hK => ?_) AllReadyF.nil
    obtain ⟨gb, kb, wb, hrb, hob, hbb⟩ := (HPO.out.later (HX.out)).copyE
    have KA := hide_ (KA.out.later hbb)
    have HOa := hide_ (HOa.out.later hbb)
    have HOb : Hid (IOwn wb w6.heap.size (.slice (some ⟨gb, 0, none⟩) E.length kb) E) := hide_ (own_base hob (Below.size (HX.out)))
    have HX := hide_ (below_to (HX.out) hbb)
    clear hob hbb
    refine step_append_run rfl (.const (.slice none 0 0)) (.tmp 23) 24 24 rfl (v := .slice none 0 0) (u := .slice (some ⟨gE, 0, none⟩) E.length cE) (by kernel_rfl) (by kernel_rfl) hrb ?_
    clear hrb
    refine hK.out _ _ (HSS.out _ HX.out) (fun hHeld => ?_)
    clear hK K
    refine wpAnyF_take [10] (by kernel_rfl) (i := 8) (v := ?vt9) rfl (by kernel_rfl) (by kernel_rfl) (by kernel_rfl) (fun _ _ _ h => h) (Or.inl ⟨by kernel_rfl, ?hyt9⟩) hHeld ?restt9
    case hyt9 => intro w' hSw; (try dsimp only at hSw); go_simp; try with_reducible rfl
    simp only [Act.put]
    refine wpAnyF_ready (rs := [10]) (by kernel_rfl) (by simp) ?_
    refine AllReadyF.last rfl (fun K hK => ?_)
    have z0 := KA.out.cell 0; have z1 := KA.out.cell 1; have z2 := KA.out.cell 2
    have zf := fun i => KA.out.frozen i
    simp at z0 z1 z2
    go_simp
    refine hK.out _ _ ?_
    clear hK K
    refine wpAnyF_done (by kernel_rfl) ?_ _
    go_wp2_with fail
    go_meet
    case rel => exact ⟨_, ga, ka, gb, kb, _, rfl, rfl, hide_ (setP KA.out _ _ _), hide_ (ownS_upd HOa.out (upd3 _ _ _ _ _) (fun k e hk => by subst hk; exact notC HOa.out KA.out (by decide) e)), hide_ (IOwn.upd HOb.out (upd3 _ _ _ _ _) (fun k e hk => by subst hk; exact notI HOb.out KA.out (by decide) e)), HGA, hide_ (below_wr3 HX.out HGA.out _ _ _)⟩
  case rest =>
  obtain ⟨gR, ga, ka, gb, kb, w7, rfl, rfl, KR7, HC7, HE7, HGR, HB67⟩ := hcut
  have hc0 := HPO.out.c0
  have he0 := HPO.out.e0
  have KP7 := hide_ (KP6.out.later HB67.out)
  have KQ7 := hide_ (KQ6.out.later HB67.out)
  have KX7 := hide_ (KX6.out.later HB67.out)
  have HPO7 := hide_ (HPO.out.later HB67.out)
  have HQO7 := hide_ (HQO.out.later HB67.out)
  have HB7 := hide_ (below_to HB6.out HB67.out)
  clear HSS KP6 KQ6 KX6
  have r1 := KR7.out.cell 1
  simp at r1
  obtain ⟨q1, q2⟩ := tmod_in at_ (C.length : Int) (by omega)
  have hz : ((C.length : Int) == 0) = false := by rw [beq_eq_false_iff_ne]; omega
  obtain ⟨tq, htq⟩ : ∃ tq, at_.tmod (C.length : Int) = tq := ⟨_, rfl⟩
  rw [htq] at q1 q2
  go_upto_region 7 with fail
  go_upto_if 32 with fail
  go_cut [10] from 33 to 37 (fun x10 wc => ∃ k : Nat, x10 = .int .i64 (k : Int) ∧ k < C.length ∧ w7 = wc)
  case first =>
    by_cases hn : tq < 0
    · obtain ⟨k, hk⟩ : ∃ k : Nat, tq + (C.length : Int) = (k : Int) := ⟨(tq + (C.length : Int)).toNat, by omega⟩
      have hkl : k < C.length := by omega
      go_wp2_with fail
      go_meet
      case rel => exact ⟨k, rfl, hkl, rfl⟩
    · obtain ⟨k, hk⟩ : ∃ k : Nat, tq = (k : Int) := ⟨tq.toNat, by omega⟩
      have hkl : k < C.length := by omega
      subst hk
      go_wp2_with fail
      go_meet
      case rel => exact ⟨k, rfl, hkl, rfl⟩
  case rest =>
  obtain ⟨k, rfl, hkl, rfl⟩ := hcut
  have hkl' : (k : Int) < C.length := by omega
  clear htq q1 q2 hz
  obtain ⟨ga', cap', ys, hv, hga, hcap, hmx, hys, hyt, hyk⟩ := ownS_blk HC7.out hc0
  injection hv with hv1 _ hv3
  injection hv1 with hv1
  injection hv1 with hv1 _ _
  subst hv1 hv3
  have c0 := (HC7.out.cellAt (List.getElem?_eq_getElem hkl)).1
  have c1 := (HC7.out.cellAt (List.getElem?_eq_getElem hkl)).2.1
  have c2 := (HC7.out.cellAt (List.getElem?_eq_getElem hkl)).2.2.1
  have c3 := (HC7.out.cellAt (List.getElem?_eq_getElem hkl)).2.2.2
  have cz := fun i => hyk.frozen i
  have x0 := KX7.out.cell 0; have x1 := KX7.out.cell 1; have x2 := KX7.out.cell 2; have x3 := KX7.out.cell 3
  simp at x0 x1 x2 x3
  obtain ⟨w8, hw8⟩ : ∃ wx, wx = (((w7.setCell ⟨ga, k * 4, none⟩ (.int .i64 x.op)).setCell ⟨ga, k * 4 + 1, none⟩ (.int .i64 x.a)).setCell ⟨ga, k * 4 + 2, none⟩ (.int .i64 x.b)).setCell ⟨ga, k * 4 + 3, none⟩ (.int .i64 x.c) := ⟨_, rfl⟩
  have HC8 : Hid (COwn w8 w6.heap.size (.slice (some ⟨ga, 0, none⟩) C.length ka) (C.set k x)) := hide_ (by rw [hw8]; exact row_set4 inc_len HC7.out hkl x _ _ _ _ rfl)
  have hU8 : Upd (fun j => j = ga) w7 w8 := by rw [hw8]; exact upd4 _ _ _ _ _ _ _ _ _ _
  have KR8 := hide_ (KR7.out.upd hU8 (blk_nt KR7.out hyk (by decide)))
  have HE8 : Hid (IOwn w8 w6.heap.size (.slice (some ⟨gb, 0, none⟩) E.length kb) E) := hide_ (HE7.out.upd hU8 (fun j e hj => by
    subst hj
    obtain ⟨zs, hzs⟩ := ownS_type HE7.out e
    exact absurd (blk_type hyk hzs) (by decide)))
  have hga6 : w6.heap.size ≤ ga := hga
  have hB68 : Below w6.heap.size w6 w8 := HB67.out.trans (hU8.below _ HB67.out.size (fun j hj => by omega))
  have HB8 := hide_ (below_to HB6.out hB68)
  have KP8 := hide_ (KP7.out.upd hU8 (blk_nt KP7.out hyk (by decide)))
  have KQ8 := hide_ (KQ7.out.upd hU8 (blk_nt KQ7.out hyk (by decide)))
  have HPO8 := hide_ (HPO.out.later hB68)
  have HQO8 := hide_ (HQO.out.later hB68)
  have hKRl := HGR.out
  clear hU8 hyk hys hyt hga hga6 hcap hmx
  go_upto_region 10 with fail
  rw [← hw8]
  clear hw8 c0 c1 c2 c3 cz x0 x1 x2 x3 r1
  obtain ⟨ar, cr, er1, er2, er3, er4⟩ := HC8.out.row
  obtain ⟨as1, cs1, es1, es2, es3, es4⟩ := HE8.out.row
  rw [List.length_set] at er1
  injection er1 with er1 _ er5
  injection es1 with es1 _ es5
  subst er1 er5 es1 es5
  have HMf := rmade_any a (some ⟨ga, 0, none⟩) (some ⟨gb, 0, none⟩) ka kb (C.set k x) E 60 w8 (by omega) (by rw [List.length_set]; omega) (by have := HPO8.out.k.ne; omega) (fun h => by cases h) (fun h => by cases h) (hide_ er4) (hide_ es2)
  rw [List.length_set] at HMf
  have HMg := hide_ HMf
  clear HMf er2 er3 er4 es2 es3 es4
  have r0 := KR8.out.cell 0; have r1 := KR8.out.cell 1; have r2 := KR8.out.cell 2
  simp at r0 r1 r2
  go_wp2_with fail
  refine HMg.out.mono ?_
  intro e w9 hmt
  obtain ⟨iC, eC, iE, eE, G, I, rfl, hpo, -, hB9⟩ := made_open hmt
  clear hmt
  have KR9 := hide_ (KR8.out.later hB9)
  have q0 := KR9.out.cell 0; have q1 := KR9.out.cell 1; have q2 := KR9.out.cell 2
  have qf := fun i => KR9.out.frozen i
  simp at q0 q1 q2
  obtain ⟨wA, hwA⟩ : ∃ wx, wx = ((w9.setCell ⟨gR, 0, none⟩ (.bool a)).setCell ⟨gR, 1, none⟩ (.slice (some ⟨iC, 0, none⟩) G.length eC)).setCell ⟨gR, 2, none⟩ (.slice (some ⟨iE, 0, none⟩) I.length eE) := ⟨_, rfl⟩
  have hUA : Upd (fun j => j = gR) w9 wA := by rw [hwA]; exact upd3 _ _ _ _ _
  have KRA : Hid (Blk wA gR 26 [.bool a, .slice (some ⟨iC, 0, none⟩) G.length eC, .slice (some ⟨iE, 0, none⟩) I.length eE]) := hide_ (by rw [hwA]; exact setP KR9.out _ _ _)
  have hls : w.heap.size + 1 < w6.heap.size := HS6.out
  have KPA := hide_ ((KP8.out.later hB9).upd hUA (by omega))
  have KQA := hide_ ((KQ8.out.later hB9).upd hUA (by omega))
  have HPA := hide_ ((HPO8.out.later hB9).upd (S := fun _ => False) KR9.out hUA)
  have HQA := hide_ ((HQO8.out.later hB9).upd (S := fun _ => False) KR9.out hUA)
  have HRA : Hid (PrO wA w8.heap.size a iC eC iE eE G I) := hide_ (hpo.upd (S := fun _ => False) KR9.out hUA)
  have HBA : Hid (Below w.heap.size w wA) := hide_ ((below_to HB8.out hB9).trans (hUA.below _ (below_to HB8.out hB9).size (fun j hj => by omega)))
  have HTA := hide_ (HT.out.at HBA.out)
  clear hUA hpo hB9 HMg r0 r1 r2 KR8 KP8 KQ8 HPO8 HQO8
  go_upto_region 11 with fail
  rw [← hwA]
  clear hwA q0 q1 q2 qf KR9
  have HCl : Hid (∀ w', Below wA.heap.size wA w' → (w'.cell? ⟨w.heap.size, 0, none⟩ = some (.bool a) ∧ w'.cell? ⟨w.heap.size, 1, none⟩ = some (.slice (some ⟨gC, 0, none⟩) C.length cC) ∧ w'.cell? ⟨w.heap.size, 2, none⟩ = some (.slice (some ⟨gE, 0, none⟩) E.length cE)) ∧ (w'.cell? ⟨w.heap.size + 1, 0, none⟩ = some (.bool b) ∧ w'.cell? ⟨w.heap.size + 1, 1, none⟩ = some (.slice (some ⟨hC, 0, none⟩) D.length dC) ∧ w'.cell? ⟨w.heap.size + 1, 2, none⟩ = some (.slice (some ⟨hE, 0, none⟩) F.length dE)) ∧ (w'.cell? ⟨gR, 0, none⟩ = some (.bool a) ∧ w'.cell? ⟨gR, 1, none⟩ = some (.slice (some ⟨iC, 0, none⟩) G.length eC) ∧ w'.cell? ⟨gR, 2, none⟩ = some (.slice (some ⟨iE, 0, none⟩) I.length eE))) := hide_ (fun w' hb => ⟨⟨(KPA.out.later hb).cell 0, (KPA.out.later hb).cell 1, (KPA.out.later hb).cell 2⟩, ⟨(KQA.out.later hb).cell 0, (KQA.out.later hb).cell 1, (KQA.out.later hb).cell 2⟩, ⟨(KRA.out.later hb).cell 0, (KRA.out.later hb).cell 1, (KRA.out.later hb).cell 2⟩⟩)
  have HQ1 := hide_ (fun w' (hb : Below wA.heap.size wA w') => pair_any a b _ _ gC cC gE cE hC dC hE dE C D E F w' (hide_ (HPA.out.later hb)) (hide_ (HQA.out.later hb)) (hide_ (HTA.out.at hb)))
  have HQ2 := hide_ (fun w' (hb : Below wA.heap.size wA w') => pair_any a a _ _ gC cC gE cE iC eC iE eE C G E I w' (hide_ (HPA.out.later hb)) (hide_ (HRA.out.later hb)) (hide_ (HTA.out.at hb)))
  have HQ3 := hide_ (fun w' (hb : Below wA.heap.size wA w') => pair_any b a _ _ hC dC hE dE iC eC iE eE D G F I w' (hide_ (HQA.out.later hb)) (hide_ (HRA.out.later hb)) (hide_ (HTA.out.at hb)))
  have HQ4 := hide_ (fun w' (hb : Below wA.heap.size wA w') => pair_any a a _ _ gC cC gE cE gC cC gE cE C C E E w' (hide_ (HPA.out.later hb)) (hide_ (HPA.out.later hb)) (hide_ (HTA.out.at hb)))
  obtain ⟨⟨s0, s1, s2⟩, ⟨t0, t1, t2⟩, ⟨u0, u1, u2⟩⟩ := HCl.out _ (Below.refl _ _)
  go_wp2_with fail
  refine (HQ1.out _ (Below.refl _ _)).mono ?_
  rintro e x1 ⟨rfl, hy1⟩
  have HY1 := hide_ hy1
  clear hy1 s0 s1 s2 t0 t1 t2 u0 u1 u2
  obtain ⟨⟨s0, s1, s2⟩, ⟨t0, t1, t2⟩, ⟨u0, u1, u2⟩⟩ := HCl.out _ HY1.out
  go_wp2_with fail
  refine (HQ2.out _ HY1.out).mono ?_
  rintro e x2 ⟨rfl, hy2⟩
  have HY2 := hide_ (below_to HY1.out hy2)
  clear hy2 s0 s1 s2 t0 t1 t2 u0 u1 u2
  obtain ⟨⟨s0, s1, s2⟩, ⟨t0, t1, t2⟩, ⟨u0, u1, u2⟩⟩ := HCl.out _ HY2.out
  go_wp2_with fail
  refine (HQ3.out _ HY2.out).mono ?_
  rintro e x3 ⟨rfl, hy3⟩
  have HY3 := hide_ (below_to HY2.out hy3)
  clear hy3 s0 s1 s2 t0 t1 t2 u0 u1 u2
  obtain ⟨⟨s0, s1, s2⟩, ⟨t0, t1, t2⟩, ⟨u0, u1, u2⟩⟩ := HCl.out _ HY3.out
  go_wp2_with (go_at_call 18; refine (HQ4.out _ HY3.out).mono ?_; rintro e x4 ⟨rfl, hy4⟩)
  go_ret
  exact ⟨rfl, below_to HBA.out (below_to HY3.out hy4)⟩
end Go.Proofs.YtlimcfnehhhmkaaDoor
/- CodeTexts, out of its walk. The frame round the walk is that of the tool proof-skeleton. -/
namespace Go.Proofs.YtlimcfnehhhmkaaDoor.codeTexts
open Go.ChangeMaps Go.ChangeShapes Go.WideShapes Go.ChangeAt Go.RowKit
set_option linter.unusedVariables false

theorem tab_here {W : World} (h : laidMetH Tryd.prog Rows.codeTextsRow.laid W) : TabB W.heap.size W := tab_of h
set_option maxRecDepth 100000 in
theorem contract (H : Type) (enc : TypeId × Value → H) (W : World) (base : Nat) (args : Array Value) (ds gs : List (DataW H)) (before : List MemPlace)
    (hval : ∀ (j : Nat) t v, Tryd.f7.params[j]? = some t → args[j]? = some v → Value.okWide Tryd.prog W .any base t v)
    (hW : DataW.Whole enc Tryd.prog Tryd.f7.params.toList Rows.codeTextsSpec.vars false W args.toList ds gs before) (hsz0 : (DataW.weightsEach Tryd.prog (Tryd.f7.params.toList ++ Rows.codeTextsSpec.plain.varTypes Tryd.prog) (ds ++ gs)).all (· ≤ reachBytes) = true) (hL : laidMetH Tryd.prog Rows.codeTextsRow.laid W) :
    Calls Tryd.prog 7 args W fun e W' => ∃ v, e = .returned v ∧ Rows.codeTextsSpec.post enc Tryd.prog Tryd.f7 false true false false W args v W' := by
  have hsz := hsz0
  have hW' := hW
  obtain ⟨p, q, hA0, hV, rfl, hfz, hnd⟩ := hW
  have hA : DataW.TrodAll enc Tryd.prog W 0 (fun _ => true) true Tryd.f7.params.toList args.toList ds p := hA0
  rw [Tryd.params7] at hA hval hsz
  obtain ⟨v0, vs0, d0, ds0, p0, q0, hargs, rfl, rfl, h0, r0⟩ := trodAll_cons hA
  obtain ⟨v1, vs1, d1, ds1, p1, q1, rfl, rfl, rfl, h1, r1⟩ := trodAll_cons r0
  obtain ⟨v2, vs2, d2, ds2, p2, q2, rfl, rfl, rfl, h2, r2⟩ := trodAll_cons r1
  obtain ⟨v3, vs3, d3, ds3, p3, q3, rfl, rfl, rfl, h3, r3⟩ := trodAll_cons r2
  obtain ⟨rfl, rfl, rfl⟩ := trodAll_nil r3
  obtain rfl : args = #[v0, v1, v2, v3] := by cases args; simp_all
  obtain ⟨rfl, rfl⟩ := trodVars_none hV
  obtain ⟨cs0, rfl, _⟩ := okWide_struct Tryd.underlying26 (hval 0 26 v0 rfl rfl)
  have k0 := h0
  have lt0 : ∀ x ∈ p0, x.block < W.heap.size := by obtain ⟨m, hm⟩ := k0; exact DataW.trod_lt m _ _ _ hm
  obtain ⟨cs1, rfl, _⟩ := okWide_struct Tryd.underlying26 (hval 1 26 v1 rfl rfl)
  have k1 := h1
  have lt1 : ∀ x ∈ p1, x.block < W.heap.size := by obtain ⟨m, hm⟩ := k1; exact DataW.trod_lt m _ _ _ hm
  obtain ⟨n2, rfl, rfl, rfl, w2⟩ := open_int Tryd.underlying3 (hval 2 3 v2 rfl rfl) h2
  have hN2 := bounds_i64 w2
  obtain ⟨cs3, rfl, _⟩ := okWide_struct Tryd.underlying28 (hval 3 28 v3 rfl rfl)
  have k3 := h3
  have lt3 : ∀ x ∈ p3, x.block < W.heap.size := by obtain ⟨m, hm⟩ := k3; exact DataW.trod_lt m _ _ _ hm
  have walk : Calls Tryd.prog 7 #[.agg cs0, .agg cs1, .int .i64 n2, .agg cs3] W fun e w' => e = .returned (.bool true) ∧ Below W.heap.size W w' := by
    have reach : ∀ (n : Nat), decide (n ≤ reachBytes) = true → n ≤ 140737488351232 := fun n hm => by
      have hm2 : n ≤ reachBytes := of_decide_eq_true hm
      rw [show reachBytes = 140737488351232 from rfl] at hm2
      exact hm2
    obtain ⟨fuel0, hf0⟩ := h0
    obtain ⟨en0, ac0, cc0, C0, ae0, ce0, E0, hcs0, hcC0, hnC0, hC0, hlC0, hmC0, hcE0, hnE0, hE0, hlE0⟩ := prog_open hf0 (fun n hn => reach n (List.all_eq_true.1 hsz _ (DataW.weights_mem_each (j := 0) rfl rfl _ hn)))
    have e0 : cs0 = #[.bool en0, .slice ac0 C0.length cc0, .slice ae0 E0.length ce0] := by
      have : cs0.toList = [.bool en0, .slice ac0 C0.length cc0, .slice ae0 E0.length ce0] := hcs0
      exact Array.toList_inj.1 this
    subst e0
    obtain ⟨fuel1, hf1⟩ := h1
    obtain ⟨en1, ac1, cc1, C1, ae1, ce1, E1, hcs1, hcC1, hnC1, hC1, hlC1, hmC1, hcE1, hnE1, hE1, hlE1⟩ := prog_open hf1 (fun n hn => reach n (List.all_eq_true.1 hsz _ (DataW.weights_mem_each (j := 1) rfl rfl _ hn)))
    have e1 : cs1 = #[.bool en1, .slice ac1 C1.length cc1, .slice ae1 E1.length ce1] := by
      have : cs1.toList = [.bool en1, .slice ac1 C1.length cc1, .slice ae1 E1.length ce1] := hcs1
      exact Array.toList_inj.1 this
    subst e1
    obtain ⟨fuel3, hf3⟩ := h3
    obtain ⟨x3, hcs3⟩ := instr_open hf3
    have e3 : cs3 = #[.int .i64 x3.op, .int .i64 x3.a, .int .i64 x3.b, .int .i64 x3.c] := by
      have : cs3.toList = [.int .i64 x3.op, .int .i64 x3.a, .int .i64 x3.b, .int .i64 x3.c] := hcs3
      exact Array.toList_inj.1 this
    subst e3
    exact texts_any en0 en1 ac0 ae0 ac1 ae1 cc0 ce0 cc1 ce1 C0 C1 E0 E1 n2 x3 W (by omega) (by omega) hnC0 hnE0 (hide_ hC0) (hide_ hE0) (by omega) (by omega) hnC1 hnE1 (hide_ hC1) (hide_ hE1) (hide_ (tab_here hL))
  clear hA0
  refine walk.mono fun e W' ⟨he, bel⟩ => ?_
  subst he
  exact ⟨_, rfl, _, _, _, [], _, [], hW', trodAll_mk1 (shut_bool Tryd.underlying4 _), (trodAll_cons_mk (Below.trod laidOut (by kernel_rfl) (of_decide_eq_true (by kernel_rfl)) k0 bel lt0) (trodAll_cons_mk (Below.trod laidOut (by kernel_rfl) (of_decide_eq_true (by kernel_rfl)) k1 bel lt1) (trodAll_cons_mk (shut_int Tryd.underlying3 w2) (trodAll_cons_mk (Below.trod laidOut (by kernel_rfl) (of_decide_eq_true (by kernel_rfl)) k3 bel lt3) trodAll_mk0)))), rfl, bel.frame _, fun h => by cases h⟩

def wit : Array Value := #[.agg #[.bool false, .slice none 0 0, .slice none 0 0], .agg #[.bool false, .slice none 0 0, .slice none 0 0], .int .i64 0, .agg #[.int .i64 0, .int .i64 0, .int .i64 0, .int .i64 0]]
theorem laid_met (os : Os) : laidMet Tryd.prog Rows.codeTextsRow.laid ((laidIn (World.holding Tryd.prog os ⟨#[], #[], []⟩)).forCall (fun _ _ => 0) ⟨#[], wit, []⟩).memory :=
  laidMet_of_run' 8 (by kernel_rfl) (by kernel_rfl)
theorem reads (os : Os) {H : Type} (enc : TypeId × Value → H) : ∃ ds places, DataW.whole enc Tryd.prog ((laidIn (World.holding Tryd.prog os ⟨#[], #[], []⟩)).forCall (fun _ _ => 0) ⟨#[], wit, []⟩).memory Tryd.f7.params.toList Rows.codeTextsSpec.vars false wit.toList 8 = some (ds, [], places) :=
  ⟨[.agg [.lit (.bool false), .nil, .nil], .agg [.lit (.bool false), .nil, .nil], .lit (.int .i64 0), .agg [.lit (.int .i64 0), .lit (.int .i64 0), .lit (.int .i64 0), .lit (.int .i64 0)]], [], by kernel_rfl⟩

set_option maxRecDepth 100000 in
theorem lifted (os : Os) (started : os.Started) (H : Type) (enc : TypeId × Value → H) (F : Stop.Interp) :
    ReturnsInHanded {} Tryd.checked os 7 .any ((OpenSpec.ofChange Rows.codeTextsSpec).preRow enc Tryd.prog Tryd.f7 Rows.codeTextsRow.domain false Rows.codeTextsRow.laid) (((OpenSpec.ofChange Rows.codeTextsSpec).at F).post enc Tryd.prog Tryd.f7 false true false false) := by
  obtain ⟨ds, places, hx⟩ := reads os enc
  refine returnsInHanded_of_row (C := Tryd.checked) (s := OpenSpec.ofChange Rows.codeTextsSpec) own started (by kernel_rfl) Tryd.func7
    (witness_row_at (enc := enc) (C := Tryd.checked) false (laidIn (World.holding Tryd.prog os ⟨#[], #[], []⟩)) wit rfl (by kernel_rfl) (by kernel_rfl) (by kernel_rfl)
      (OpenSpec.preRow_of_cond 8 hx (by kernel_rfl) (fun k hk => by cases hk) (by kernel_rfl) (laid_met os))) ?_
  intro W base args ds gs before hval hW _ _ hsz hL _ _
  exact contract H enc W base args ds gs before hval hW hsz hL

theorem said : Rows.CodeTextsSaid :=
  OpenClaim.holds_of_cond 7 Tryd.f7 rfl rfl rfl rfl rfl rfl rfl ⟨rfl, rfl, rfl, rfl, rfl⟩ rfl rfl rfl rfl rfl (by kernel_rfl) Tryd.func7 (by kernel_rfl)
    (of_decide_eq_true (by kernel_rfl)) (by unfold Func.isWrapper; first | (rw [if_pos (by decide +kernel)]; kernel_rfl) | (rw [if_neg (by decide +kernel)]; exact ⟨rfl, rfl⟩))
    (fun os started H enc _ F => by rw [OpenClaim.pre_eq_preRow]; exact lifted os started H enc F)

theorem plain (f : FuncId) (fn : Func) (hf : Tryd.pinned.checked.prog.funcNamed "mortise/mortiselaw14.CodeTexts" = some f) (hfn : Tryd.pinned.checked.prog.funcs[f]? = some fn) :
    false = Tryd.pinned.checked.prog.looks [] ∧ ∀ (j : Nat) t, fn.params[j]? = some t → Tryd.pinned.checked.prog.wantsStandIn t = false := by
  obtain rfl : f = 7 := Option.some.inj ((show Tryd.prog.funcNamed "mortise/mortiselaw14.CodeTexts" = some 7 by kernel_rfl).symm.trans hf) |>.symm
  obtain rfl : fn = Tryd.f7 := (Option.some.inj (Tryd.func7.symm.trans hfn)).symm
  refine ⟨by kernel_rfl, fun j t ht => ?_⟩
  rw [Tryd.params7] at ht
  have hm := Array.mem_of_getElem? ht
  simp only [List.mem_toArray, List.mem_cons, List.not_mem_nil, or_false] at hm
  rcases hm with rfl | rfl | rfl | rfl <;> (show Tryd.prog.wantsStandIn _ = false; kernel_rfl)

theorem card : Rows.CodeTextsCardSaid :=
  Claim7.holds_tied_plain_at .later [] _ _ _ _ said (fun _ h => by cases h) (by kernel_rfl) (fun _ h => by cases h) codeTexts_row_tie rfl ⟨rfl, rfl⟩ (by kernel_rfl) rfl plain (by kernel_rfl)
end Go.Proofs.YtlimcfnehhhmkaaDoor.codeTexts
namespace Go.Proofs.YtlimcfnehhhmkaaDoor
theorem codeTexts_holds : Rows.CodeTextsCardSaid := codeTexts.card
#print axioms codeTexts_holds
end Go.Proofs.YtlimcfnehhhmkaaDoor
