import Derived.Test.YtjojbfendkodgaaDoorCdx
import Derived.Test.YtjojbfendkodgaaDoorCmf
import Derived.Test.YtjojbfendkodgaaDoorCme
import Derived.Test.YtjojbfendkodgaaDoorCdw
import Derived.Test.YtjojbfendkodgaaDoorCed
import Derived.Test.YtjojbfendkodgaaDoorCgr
import Derived.Laws.IdiomStrings
import Derived.Test.YtjojbfendkodgaaDoorCmg
import Derived.Test.YtjojbfendkodgaaDoorRgf
import Derived.BigQuiet
import Derived.Test.YtjojbfendkodgaaDoorWeigh
import Derived.Test.YtjojbfendkodgaaDoorCdc
import Derived.Test.YtjojbfendkodgaaDoorRows
import Derived.Test.YtjojbfendkodgaaDoorCds
import Derived.WalkKit
import Derived.ProofKit
import Derived.OpenShut
import Derived.Deep.DeepHandedRow
import Derived.Lib.LaidTab
import Derived.Stop.LaidErr
import Derived.Test.YtjojbfendkodgaaDoorCards
import Derived.Test.YtjojbfendkodgaaDoorTie
import Derived.Test.YtjojbfendkodgaaDoorRead
import Derived.SizedLaws
import Derived.ChangeMaps5
import Derived.Below
import Derived.ShutString
/- Code, plain: what is decoded is encoded to the same bytes. -/
namespace Go.Proofs.YtjojbfendkodgaaDoor
open Go.RowKit
set_option linter.unusedVariables false

theorem rdV_back {l : List Int} (hb : Bys l) {s : Rs} {er : Int} {may : Int → Bool} (her : er ≠ 0) (h : (rdV l s er may).2.e = 0) : s.e = 0 ∧ 0 ≤ (rdV l s er may).1 ∧ may (rdV l s er may).1 = true ∧ l.drop s.at_ = form (rdV l s er may).1.toNat ++ l.drop (rdV l s er may).2.at_ := by
  unfold rdV at h ⊢
  by_cases h0 : s.e = 0
  · rw [if_pos h0] at h ⊢
    by_cases h1 : (getF (l.drop s.at_)).2.2 = 0
    · rw [if_pos h1] at h ⊢
      by_cases h2 : may (getF (l.drop s.at_)).1 = true
      · rw [if_pos h2] at h ⊢
        obtain ⟨b1, b2, b3, b4, b5⟩ := get_back (getF_R (l.drop s.at_)) (hb.drop _) h1
        refine ⟨h0, b3, h2, ?_⟩
        simp only
        rw [b5, ← List.drop_drop, List.take_append_drop]
      · rw [if_neg h2] at h
        exact absurd h her
    · rw [if_neg h1] at h
      exact absurd h h1
  · rw [if_neg h0] at h
    exact absurd h h0
theorem rdO_back {l : List Int} {s : Rs} {lo hi : Int} (hs : s.at_ ≤ l.length) (h : (rdO l s lo hi).2.e = 0) : s.e = 0 ∧ lo ≤ (rdO l s lo hi).1 ∧ (rdO l s lo hi).1 ≤ hi ∧ l.drop s.at_ = (rdO l s lo hi).1 :: l.drop (rdO l s lo hi).2.at_ ∧ (rdO l s lo hi).2.at_ ≤ l.length := by
  unfold rdO at h ⊢
  by_cases h0 : s.e = 0
  · rw [if_pos h0] at h ⊢
    by_cases h1 : s.at_ = l.length
    · rw [if_pos h1] at h
      exact absurd h (by simp)
    · rw [if_neg h1] at h ⊢
      by_cases h2 : l.getD s.at_ 0 < lo ∨ hi < l.getD s.at_ 0
      · rw [if_pos h2] at h
        exact absurd h (by simp)
      · rw [if_neg h2] at h ⊢
        refine ⟨h0, ?_, ?_, drop_cons l s.at_ (by omega), ?_⟩
        · simp only; omega
        · simp only; omega
        · simp only; omega
  · rw [if_neg h0] at h
    exact absurd h h0
theorem rd1_back {l : List Int} (hb : Bys l) {k : Int} {s : Rs} (h : (rd1 l k s).2.e = 0) : s.e = 0 ∧ l.drop s.at_ = (if k ≠ 0 then opB (rd1 l k s).1 else []) ++ l.drop (rd1 l k s).2.at_ := by
  unfold rd1 at h ⊢
  by_cases hk : k = 0
  · rw [if_pos hk] at h ⊢
    rw [if_neg (by simp [hk])]
    exact ⟨h, rfl⟩
  · rw [if_neg hk] at h ⊢
    rw [if_pos hk]
    obtain ⟨h1, h2, h3, h4⟩ := rdV_back hb (er := 3) (may := mayN) (by decide) h
    refine ⟨h1, ?_⟩
    unfold opB
    simp only
    have e : (rdN l s).1 - 1 + 1 = (rdN l s).1 := by omega
    rw [e]
    exact h4
theorem insB_eq (x : In) : insB x = form x.op.toNat ++ ((if (kin x.op).1 ≠ 0 then opB x.a else []) ++ ((if (kin x.op).2.1 ≠ 0 then opB x.b else []) ++ (if (kin x.op).2.2 ≠ 0 then opB x.c else []))) := by
  unfold insB nmd
  generalize kin x.op = k
  obtain ⟨k0, k1, k2⟩ := k
  simp only [nmj, kat, oat, List.nil_append]
  have e : ∀ (c : Prop) [Decidable c] (a : Int), (if c then [a] else ([] : List Int)).flatMap opB = if c then opB a else [] := fun c _ a => by split <;> simp
  rw [List.flatMap_append, List.flatMap_append, e, e, e, List.append_assoc]
theorem rdI_back {l : List Int} (hb : Bys l) {enc : Bool} {s : Rs} (h : (rdI l enc s).2.e = 0) : s.e = 0 ∧ l.drop s.at_ = insB (rdI l enc s).1 ++ l.drop (rdI l enc s).2.at_ := by
  rw [insB_eq]
  unfold rdI at h ⊢
  simp only at h ⊢
  obtain ⟨c1, c2⟩ := rd1_back hb h
  obtain ⟨b1, b2⟩ := rd1_back hb c1
  obtain ⟨a1, a2⟩ := rd1_back hb b1
  obtain ⟨o1, o2, o3, o4⟩ := rdV_back hb (by decide) a1
  refine ⟨o1, ?_⟩
  rw [List.append_assoc, List.append_assoc, List.append_assoc, ← c2, ← b2, ← a2, ← o4]
theorem rdM_back {α : Type} {l : List Int} {f : Rs → α × Rs} {g : α → List Int} (hf : ∀ s, (f s).2.e = 0 → s.e = 0 ∧ l.drop s.at_ = g (f s).1 ++ l.drop (f s).2.at_) : ∀ (n : Nat) (s : Rs), (rdM f n s).2.2.e = 0 → s.e = 0 ∧ (rdM f n s).2.1.length = n ∧ l.drop s.at_ = (rdM f n s).2.1.flatMap g ++ l.drop (rdM f n s).2.2.at_
  | 0, s, h => ⟨h, rfl, rfl⟩
  | n + 1, s, h => by
    by_cases h0 : s.e = 0
    · rw [rdM, if_pos h0] at h ⊢
      simp only at h ⊢
      obtain ⟨r1, r2, r3⟩ := rdM_back hf n (f s).2 h
      obtain ⟨f1, f2⟩ := hf s r1
      refine ⟨h0, by rw [List.length_cons, r2], ?_⟩
      rw [List.flatMap_cons, List.append_assoc, ← r3, ← f2]
    · rw [rdM_stop f (n + 1) s h0] at h
      exact absurd h h0
theorem pgm_back {l : List Int} (hb : Bys l) (h : (pgm l).s.e = 0) : encP (pgm l).enc (pgm l).C (pgm l).E = l := by
  unfold pgm at h ⊢
  simp only at h ⊢
  generalize ho1 : rdO l ⟨0, 0, 0⟩ 109 109 = o1 at h ⊢
  generalize ho2 : rdO l o1.2 0 1 = o2 at h ⊢
  generalize hn : rdV l o2.2 4 mayC = n at h ⊢
  generalize hes : rdM (rdN l) n.1.toNat n.2 = es at h ⊢
  generalize hm : rdV l es.2.2 4 mayC = m at h ⊢
  generalize hcs : rdM (rdI l (o2.1 == 1)) m.1.toNat m.2 = cs at h ⊢
  have hend : cs.2.2.e = 0 ∧ ¬ cs.2.2.at_ < l.length := by
    by_cases hl : cs.2.2.at_ < l.length
    · rw [if_pos hl] at h
      unfold rfs at h
      by_cases he : cs.2.2.e = 0
      · rw [if_pos he] at h; exact absurd h (by simp)
      · rw [if_neg he] at h; exact absurd h he
    · rw [if_neg hl] at h; exact ⟨h, hl⟩
  obtain ⟨he, hl⟩ := hend
  obtain ⟨c1, c2, c3⟩ := rdM_back (l := l) (g := insB) (fun s hs => rdI_back hb hs) m.1.toNat m.2 (by rw [hcs]; exact he)
  rw [hcs] at c2 c3
  obtain ⟨m1, m2, m3, m4⟩ := rdV_back hb (s := es.2.2) (er := 4) (may := mayC) (by decide) (by rw [hm]; exact c1)
  rw [hm] at m2 m3 m4
  obtain ⟨e1, e2, e3⟩ := rdM_back (l := l) (f := rdN l) (g := entB) (fun s hs => by
    obtain ⟨q1, q2, q3, q4⟩ := rdV_back hb (er := 3) (may := mayN) (by decide) hs
    exact ⟨q1, q4⟩) n.1.toNat n.2 (by rw [hes]; exact m1)
  rw [hes] at e2 e3
  obtain ⟨n1, n2, n3, n4⟩ := rdV_back hb (s := o2.2) (er := 4) (may := mayC) (by decide) (by rw [hn]; exact e1)
  rw [hn] at n2 n3 n4
  have k1 : o1.2.e = 0 ∧ o1.2.at_ ≤ l.length := by
    have q : o2.2.e = 0 := n1
    by_cases hq : o1.2.e = 0
    · have := rdO_back (l := l) (s := ⟨0, 0, 0⟩) (lo := 109) (hi := 109) (Nat.zero_le _) (by rw [ho1]; exact hq)
      rw [ho1] at this
      exact ⟨hq, this.2.2.2.2⟩
    · rw [← ho2] at q
      unfold rdO at q
      rw [if_neg hq] at q
      exact absurd q hq
  obtain ⟨p1, p2, p3, p4, p5⟩ := rdO_back (l := l) (s := o1.2) (lo := 0) (hi := 1) k1.2 (by rw [ho2]; exact n1)
  rw [ho2] at p2 p3 p4
  obtain ⟨t1, t2, t3, t4, t5⟩ := rdO_back (l := l) (s := ⟨0, 0, 0⟩) (lo := 109) (hi := 109) (Nat.zero_le _) (by rw [ho1]; exact k1.1)
  rw [ho1] at t2 t3 t4
  have e109 : o1.1 = 109 := by omega
  have ebit : (if (o2.1 == 1) = true then (1 : Int) else 0) = o2.1 := by
    have : o2.1 = 0 ∨ o2.1 = 1 := by omega
    rcases this with h | h <;> rw [h] <;> rfl
  unfold encP
  rw [ebit, e2, c2]
  have hd : l.drop cs.2.2.at_ = [] := List.drop_eq_nil_of_le (by omega)
  rw [hd, List.append_nil] at c3
  have t4' : l = o1.1 :: l.drop o1.2.at_ := t4
  conv => rhs; rw [t4', e109, p4, n4, e3, m4, c3]
  simp [List.append_assoc]
/-- What is decoded is encoded to the same bytes. -/
theorem enc_dec {l : List Int} (hb : Bys l) (h : (decF l).1 = 0) : encP (decE l) (decC l) (decN l) = l := by
  have hp : (pgm l).s.e = 0 := by
    by_cases hq : (pgm l).s.e = 0
    · exact hq
    · unfold decF at h
      rw [if_pos hq] at h
      exact absurd h hq
  unfold decE decC decN
  rw [if_pos h, if_pos h, if_pos h]
  exact pgm_back hb hp
end Go.Proofs.YtjojbfendkodgaaDoor
/- Code, plain: bytes that are cut are short, at the cut; bytes with more behind have a tail, at the end. -/
namespace Go.Proofs.YtjojbfendkodgaaDoor
open Go.RowKit
set_option linter.unusedVariables false

/-- The reader stands ahead of the front of these bytes, not of all. -/
structure CutAt (l : List Int) (s : Rs) (r : List Int) : Prop where
  e : s.e = 0
  p : s.p = 0
  d : ∃ k, l.drop s.at_ = r.take k ∧ k < r.length ∧ s.at_ + k = l.length
/-- The bytes were short. -/
def Sh (l : List Int) (s : Rs) : Prop := s.e = 20 ∧ s.p = l.length
theorem Sh.ne {l : List Int} {s : Rs} (h : Sh l s) : s.e ≠ 0 := by rw [h.1]; decide
theorem Sh.rdV {l : List Int} {s : Rs} (h : Sh l s) (er : Int) (may : Int → Bool) : Sh l (rdV l s er may).2 := by
  unfold Go.Proofs.YtjojbfendkodgaaDoor.rdV
  rw [if_neg h.ne]
  exact h
theorem Sh.rdO {l : List Int} {s : Rs} (h : Sh l s) (lo hi : Int) : Sh l (rdO l s lo hi).2 := by
  unfold Go.Proofs.YtjojbfendkodgaaDoor.rdO
  rw [if_neg h.ne]
  exact h
theorem Sh.rd1 {l : List Int} {s : Rs} (h : Sh l s) (k : Int) : Sh l (rd1 l k s).2 := by
  unfold Go.Proofs.YtjojbfendkodgaaDoor.rd1
  split
  · exact h
  · exact h.rdV 3 mayN
theorem Sh.rdM {α : Type} {l : List Int} {s : Rs} (h : Sh l s) (f : Rs → α × Rs) (n : Nat) : Sh l (rdM f n s).2.2 := by
  rw [rdM_stop f n s h.ne]
  exact h
theorem CutAt.num {l : List Int} {s : Rs} {r : List Int} {n : Nat} (h : CutAt l s (form n ++ r)) (hn : n < 18446744073709551616) {er : Int} {may : Int → Bool} (hm : may (n : Int) = true) : (∃ s', rdV l s er may = ((n : Int), s') ∧ CutAt l s' r) ∨ Sh l (rdV l s er may).2 := by
  obtain ⟨k, d1, d2, d3⟩ := h.d
  rw [List.length_append] at d2
  by_cases hk : (form n).length ≤ k
  · left
    have d4 : l.drop s.at_ = form n ++ r.take (k - (form n).length) := by
      rw [d1, List.take_append, List.take_of_length_le hk]
    refine ⟨⟨s.at_ + (form n).length, 0, s.p⟩, ?_, rfl, h.p, k - (form n).length, ?_, by omega, ?_⟩
    · unfold rdV
      rw [if_pos h.e, d4, (get_form n hn _).getF]
      simp only
      rw [if_pos trivial, if_pos hm]
    · show l.drop (s.at_ + (form n).length) = _
      rw [← List.drop_drop, d4]
      simp
    · show s.at_ + (form n).length + (k - (form n).length) = l.length
      omega
  · right
    have d4 : l.drop s.at_ = (form n).take k := by
      rw [d1, List.take_append_of_le_length (by omega)]
    unfold rdV
    rw [if_pos h.e, d4, (get_cut n hn k (by omega)).getF]
    simp only
    rw [if_neg (by decide)]
    exact ⟨rfl, by simp only; rw [d3]⟩
theorem CutAt.byte {l : List Int} {s : Rs} {r : List Int} {c : Int} (h : CutAt l s (c :: r)) {lo hi : Int} (h1 : lo ≤ c) (h2 : c ≤ hi) : (∃ s', rdO l s lo hi = (c, s') ∧ CutAt l s' r) ∨ Sh l (rdO l s lo hi).2 := by
  obtain ⟨k, d1, d2, d3⟩ := h.d
  cases k with
  | zero =>
    right
    unfold rdO
    rw [if_pos h.e, if_pos (by omega)]
    exact ⟨rfl, by simp only; congr 1⟩
  | succ k =>
    left
    rw [List.take_succ_cons] at d1
    have hlt : s.at_ < l.length := by omega
    have hc := drop_cons l s.at_ hlt
    rw [d1] at hc
    injection hc with hg hd
    rw [List.length_cons] at d2
    refine ⟨⟨s.at_ + 1, 0, s.p⟩, ?_, rfl, h.p, k, hd.symm, by omega, ?_⟩
    · unfold rdO
      rw [if_pos h.e, if_neg (by omega), ← hg, if_neg (by omega)]
    · show s.at_ + 1 + k = l.length
      omega
theorem CutAt.ents {l r : List Int} : ∀ (E : List Int) (s : Rs), (∀ e ∈ E, 0 ≤ e ∧ e ≤ 2147483648) → CutAt l s (E.flatMap entB ++ r) → CutAt l (rdM (rdN l) E.length s).2.2 r ∨ Sh l (rdM (rdN l) E.length s).2.2
  | [], s, _, h => Or.inl (by simpa [rdM] using h)
  | e :: E, s, hE, h => by
    obtain ⟨h0, h1⟩ := hE e (by simp)
    obtain ⟨n, rfl⟩ := Int.eq_ofNat_of_zero_le h0
    have h' : CutAt l s (form n ++ (E.flatMap entB ++ r)) := by
      have := h
      rw [List.flatMap_cons, List.append_assoc] at this
      exact this
    rw [List.length_cons, rdM, if_pos h.e]
    simp only
    rcases h'.num (er := 3) (may := mayN) (by omega) (decide_eq_true (by omega)) with ⟨s1, e1, a1⟩ | hs
    · have e3 : rdN l s = ((n : Int), s1) := e1
      rw [e3]
      exact CutAt.ents E s1 (fun x hx => hE x (by simp [hx])) a1
    · exact Or.inr (Sh.rdM hs _ _)
theorem CutAt.op {l r : List Int} {s : Rs} {k a : Int} (ha : -1 ≤ a ∧ a ≤ 16777216) (h : CutAt l s ((if k ≠ 0 then opB a else []) ++ r)) : CutAt l (rd1 l k s).2 r ∨ Sh l (rd1 l k s).2 := by
  by_cases hk : k = 0
  · rw [if_neg (by simp [hk])] at h
    unfold rd1
    rw [if_pos hk]
    exact Or.inl (by simpa using h)
  · rw [if_pos hk] at h
    obtain ⟨m, hm⟩ := Int.eq_ofNat_of_zero_le (show 0 ≤ a + 1 by omega)
    have h' : CutAt l s (form m ++ r) := by
      have := h
      unfold opB at this
      rw [hm] at this
      exact this
    unfold rd1
    rw [if_neg hk]
    simp only
    rcases h'.num (er := 3) (may := mayN) (by omega) (decide_eq_true (by omega)) with ⟨s1, e1, a1⟩ | hs
    · have e3 : rdN l s = ((m : Int), s1) := e1
      rw [e3]
      exact Or.inl a1
    · exact Or.inr hs
theorem CutAt.ins {l r : List Int} {s : Rs} {enc : Bool} {nc ne : Int} {x : In} (h1 : nc ≤ 1048576) (h2 : ne ≤ 1048576) (hx : frmX enc nc ne x = true) (h : CutAt l s (insB x ++ r)) : CutAt l (rdI l enc s).2 r ∨ Sh l (rdI l enc s).2 := by
  have hin := frmX_inB h1 h2 hx
  obtain ⟨p0, p1, p2, p3⟩ := frmX_parts hx
  obtain ⟨n, hn⟩ := Int.eq_ofNat_of_zero_le (show 0 ≤ x.op by have := hin.op; omega)
  have hn47 : n ≤ 47 := by have := hin.op; omega
  rw [insB_eq, hn, Int.toNat_natCast, List.append_assoc, List.append_assoc, List.append_assoc] at h
  have hmay : mayI enc (n : Int) = true := by unfold mayI; rw [decide_eq_true (by omega), ← hn, p0]; rfl
  have q := hin.nm
  unfold rdI
  simp only
  rcases h.num (er := 140) (may := mayI enc) (by omega) hmay with ⟨s1, e1, a1⟩ | hs
  · rw [e1]
    simp only
    rcases CutAt.op (q 0 (by omega)) a1 with a2 | hs
    · rcases CutAt.op (q 1 (by omega)) a2 with a3 | hs
      · exact CutAt.op (q 2 (by omega)) a3
      · exact Or.inr (hs.rd1 _)
    · exact Or.inr ((hs.rd1 _).rd1 _)
  · exact Or.inr (((hs.rd1 _).rd1 _).rd1 _)
theorem CutAt.code {l r : List Int} {enc : Bool} {nc ne : Int} (h1 : nc ≤ 1048576) (h2 : ne ≤ 1048576) : ∀ (C : List In) (s : Rs), (∀ x ∈ C, frmX enc nc ne x = true) → CutAt l s (C.flatMap insB ++ r) → CutAt l (rdM (rdI l enc) C.length s).2.2 r ∨ Sh l (rdM (rdI l enc) C.length s).2.2
  | [], s, _, h => Or.inl (by simpa [rdM] using h)
  | x :: C, s, hC, h => by
    have h' : CutAt l s (insB x ++ (C.flatMap insB ++ r)) := by
      have := h
      rw [List.flatMap_cons, List.append_assoc] at this
      exact this
    rw [List.length_cons, rdM, if_pos h.e]
    simp only
    rcases h'.ins h1 h2 (hC x (by simp)) with a1 | hs
    · exact CutAt.code h1 h2 C _ (fun y hy => hC y (by simp [hy])) a1
    · exact Or.inr (Sh.rdM hs _ _)
theorem Chk.ents {enc : Bool} {C : List In} {E : List Int} (h : Chk enc C E) : ∀ e ∈ E, 0 ≤ e ∧ e ≤ 2147483648 := by
  intro e he
  have := h.nc
  obtain ⟨i, hi, rfl⟩ := List.mem_iff_getElem.1 he
  have := h.ent i hi
  rw [List.getD, List.getElem?_eq_getElem hi, Option.getD_some] at this
  omega
theorem Chk.frms {enc : Bool} {C : List In} {E : List Int} (h : Chk enc C E) : ∀ x ∈ C, frmX enc C.length E.length x = true := by
  intro x hx
  obtain ⟨i, hi, rfl⟩ := List.mem_iff_getElem.1 hx
  have := h.code i hi
  unfold frm at this
  rw [List.getElem?_eq_getElem hi] at this
  simp only [Bool.and_eq_true] at this
  exact this.1
/-- Cut anywhere it is short, at the cut. -/
theorem dec_cut {enc : Bool} {C : List In} {E : List Int} (h : Chk enc C E) {i : Nat} (hi : i < (encP enc C E).length) : decF ((encP enc C E).take i) = (20, (i : Int)) := by
  have hnc := h.nc
  have hne := h.ne
  obtain ⟨l, hl⟩ : ∃ l, (encP enc C E).take i = l := ⟨_, rfl⟩
  have hll : l.length = i := by rw [← hl, List.length_take]; omega
  rw [hl]
  have a0 : CutAt l ⟨0, 0, 0⟩ (109 :: (if enc then 1 else 0) :: (form E.length ++ (E.flatMap entB ++ (form C.length ++ (C.flatMap insB ++ []))))) := by
    have e : (109 :: (if enc then 1 else 0) :: (form E.length ++ (E.flatMap entB ++ (form C.length ++ (C.flatMap insB ++ []))))) = encP enc C E := by
      unfold encP
      simp [List.append_assoc]
    rw [e]
    exact ⟨rfl, rfl, i, by rw [← hl]; rfl, hi, by simp only; omega⟩
  have hb : (((if enc = true then (1 : Int) else 0)) == 1) = enc := by cases enc <;> rfl
  have hs : Sh l (pgm l).s := by
    suffices hcs : Sh l (rdM (rdI l ((rdO l (rdO l ⟨0, 0, 0⟩ 109 109).2 0 1).1 == 1)) (rdV l (rdM (rdN l) (rdV l (rdO l (rdO l ⟨0, 0, 0⟩ 109 109).2 0 1).2 4 mayC).1.toNat (rdV l (rdO l (rdO l ⟨0, 0, 0⟩ 109 109).2 0 1).2 4 mayC).2).2.2 4 mayC).1.toNat (rdV l (rdM (rdN l) (rdV l (rdO l (rdO l ⟨0, 0, 0⟩ 109 109).2 0 1).2 4 mayC).1.toNat (rdV l (rdO l (rdO l ⟨0, 0, 0⟩ 109 109).2 0 1).2 4 mayC).2).2.2 4 mayC).2).2.2 by
      unfold pgm
      simp only
      split
      · unfold rfs
        rw [if_neg hcs.ne]
        exact hcs
      · exact hcs
    rcases a0.byte (lo := 109) (hi := 109) (by omega) (by omega) with ⟨s1, e1, a1⟩ | hs
    · rw [e1]
      simp only
      rcases a1.byte (lo := 0) (hi := 1) (by split <;> omega) (by split <;> omega) with ⟨s2, e2, a2⟩ | hs
      · rw [e2]
        simp only [hb]
        rcases a2.num (er := 4) (may := mayC) (by omega) (decide_eq_true (by omega)) with ⟨s3, e3, a3⟩ | hs
        · rw [e3]
          simp only [Int.toNat_natCast]
          rcases CutAt.ents E s3 h.ents a3 with a4 | hs
          · rcases a4.num (er := 4) (may := mayC) (by omega) (decide_eq_true (by omega)) with ⟨s5, e5, a5⟩ | hs
            · rw [e5]
              simp only [Int.toNat_natCast]
              rcases CutAt.code (enc := enc) (nc := C.length) (ne := E.length) (by omega) (by omega) C s5 h.frms a5 with a6 | hs
              · obtain ⟨k, _, hk, _⟩ := a6.d
                exact absurd hk (by simp)
              · exact hs
            · exact Sh.rdM hs _ _
          · exact Sh.rdM (hs.rdV _ _) _ _
        · exact Sh.rdM ((Sh.rdM hs _ _).rdV _ _) _ _
      · exact Sh.rdM ((Sh.rdM (hs.rdV _ _) _ _).rdV _ _) _ _
    · exact Sh.rdM ((Sh.rdM ((hs.rdO _ _).rdV _ _) _ _).rdV _ _) _ _
  unfold decF
  rw [if_pos hs.ne, hs.1, hs.2, hll]
/-- With bytes behind there is a tail, at the end. -/
theorem dec_tail {enc : Bool} {C : List In} {E : List Int} (h : Chk enc C E) {more : List Int} (hm : more ≠ []) : decF (encP enc C E ++ more) = (124, ((encP enc C E).length : Int)) := by
  have hnc := h.nc
  have hne := h.ne
  have hml : 0 < more.length := List.length_pos_iff.2 hm
  obtain ⟨l, hl⟩ : ∃ l, encP enc C E ++ more = l := ⟨_, rfl⟩
  have hll : l.length = (encP enc C E).length + more.length := by rw [← hl, List.length_append]
  rw [hl]
  have a0 : At l ⟨0, 0, 0⟩ (109 :: (if enc then 1 else 0) :: (form E.length ++ (E.flatMap entB ++ (form C.length ++ (C.flatMap insB ++ more))))) := ⟨rfl, rfl, by
    show l.drop 0 = _
    rw [← hl]
    unfold encP
    simp [List.append_assoc]⟩
  obtain ⟨s1, e1, a1⟩ := a0.byte (lo := 109) (hi := 109) (by omega) (by omega)
  obtain ⟨s2, e2, a2⟩ := a1.byte (lo := 0) (hi := 1) (by split <;> omega) (by split <;> omega)
  obtain ⟨s3, e3, a3⟩ := a2.num (er := 4) (may := mayC) (by omega) (decide_eq_true (by omega))
  obtain ⟨ea, s4, e4, a4⟩ := At.ents E s3 h.ents a3
  obtain ⟨s5, e5, a5⟩ := a4.num (er := 4) (may := mayC) (by omega) (decide_eq_true (by omega))
  obtain ⟨ca, s6, e6, a6⟩ := At.code (enc := enc) (nc := C.length) (ne := E.length) (by omega) (by omega) C s5 h.frms a5
  have h6 := congrArg List.length a6.d
  rw [List.length_drop] at h6
  have hat : s6.at_ = (encP enc C E).length := by omega
  have hb : (((if enc = true then (1 : Int) else 0)) == 1) = enc := by cases enc <;> rfl
  have hs : (pgm l).s = ⟨s6.at_, 124, s6.at_⟩ := by
    unfold pgm
    simp only [e1, e2, e3, e4, e5, hb, e6, Int.toNat_natCast]
    rw [if_pos (by omega)]
    unfold rfs
    rw [if_pos a6.e]
  unfold decF
  rw [hs]
  simp only
  rw [if_pos (by decide), hat]
end Go.Proofs.YtjojbfendkodgaaDoor
/- Code: programs that are made, as the outright statements use them. -/
namespace Go.Proofs.YtjojbfendkodgaaDoor
open Go.RowKit
set_option linter.unusedVariables false

theorem elU8 : Elem Tryd.prog 34 5 .u8 1 := ⟨Tryd.underlying34, Tryd.underlying5, by kernel_rfl⟩
theorem fbys {α : Type} {f : α → List Int} {l : List α} (h : ∀ x, Bys (f x)) : Bys (l.flatMap f) := fun x hx => by
  obtain ⟨a, _, ha⟩ := List.mem_flatMap.1 hx
  exact h a x ha
theorem encB_bys (enc : Bool) (C : List In) (E : List Int) : Bys (encP enc C E) := by
  unfold encP
  refine (((((?_ : Bys [109, if enc then 1 else 0]).append (form_bys _)).append (fbys (fun x => form_bys _))).append (form_bys _)).append (fbys (fun x => ?_)))
  · intro x hx
    cases enc <;> simp at hx <;> omega
  · unfold insB
    exact (form_bys _).append (fbys (fun n => form_bys _))
/-- A program of the call's own that has its form. -/
structure PrO (w : World) (B : Nat) (enc : Bool) (gC cC gE cE : Nat) (C : List In) (E : List Int) : Prop where
  c : COwn w B (.slice (some ⟨gC, 0, none⟩) C.length cC) C
  e : IOwn w B (.slice (some ⟨gE, 0, none⟩) E.length cE) E
  k : Chk enc C E
  c0 : 0 < C.length
  e0 : 0 < E.length
section
variable {w w' : World} {B : Nat} {enc : Bool} {gC cC gE cE : Nat} {C : List In} {E : List Int}
theorem PrO.later (h : PrO w B enc gC cC gE cE C E) (hB : Below w.heap.size w w') : PrO w' B enc gC cC gE cE C E := ⟨h.c.later hB, h.e.later hB, h.k, h.c0, h.e0⟩
theorem PrO.upd {S : Nat → Prop} {g : Nat} {ys : List Value} (h : PrO w B enc gC cC gE cE C E) (hb : Blk w g 26 ys) (hu : Upd (fun k => k = g) w w') : PrO w' B enc gC cC gE cE C E :=
  ⟨ownS_upd h.c hu (fun k e hk => by subst hk; exact notC h.c hb (by decide) e), h.e.upd hu (fun k e hk => by subst hk; exact notI h.e hb (by decide) e), h.k, h.c0, h.e0⟩
theorem PrO.crow (h : PrO w B enc gC cC gE cE C E) : IRow w (some ⟨gC, 0, none⟩) C ∧ C.length ≤ cC ∧ cC ≤ 9223372036854775807 := by
  obtain ⟨a, c, e1, e2, -, e3⟩ := h.c.row
  injection e1 with e4 _ e5
  subst e4 e5
  have := COwn.cap h.c
  unfold maxLen at this
  exact ⟨e3, e2, by omega⟩
theorem PrO.erow (h : PrO w B enc gC cC gE cE C E) : Row .i64 w (some ⟨gE, 0, none⟩) E ∧ E.length ≤ cE := by
  obtain ⟨a, c, e1, e2, -, e3⟩ := h.e.row
  injection e1 with e4 _ e5
  subst e4 e5
  exact ⟨e2, e3⟩
theorem PrO.encode (h : PrO w B enc gC cC gE cE C E) : Calls Tryd.prog 12 #[.agg #[.bool enc, .slice (some ⟨gC, 0, none⟩) C.length cC, .slice (some ⟨gE, 0, none⟩) E.length cE]] w fun e w' => (∃ v, e = .returned (.tuple #[v, .agg #[.int .i64 0, .int .i64 0]]) ∧ Hid (BOwn w' w.heap.size v (encP enc C E))) ∧ Below w.heap.size w w' := by
  obtain ⟨r1, r2, r3⟩ := h.crow
  obtain ⟨s1, s2⟩ := h.erow
  have k := h.k
  have k1 := k.nc; have k2 := k.ne
  have q := encode_any enc (some ⟨gC, 0, none⟩) (some ⟨gE, 0, none⟩) cC cE C E w r2 r3 (by omega) s2 (by omega) (hide_ r1) (hide_ s1)
  unfold encA at q
  rw [if_pos (chk_ok.2 k), chk_ok.2 k] at q
  exact q
end
theorem made_open {enc : Bool} {most : Nat} {w w' : World} {e : Ending} (h : MadeTo enc most w e w') : ∃ gC cC gE cE C E, e = .returned (.agg #[.bool enc, .slice (some ⟨gC, 0, none⟩) C.length cC, .slice (some ⟨gE, 0, none⟩) E.length cE]) ∧ PrO w' w.heap.size enc gC cC gE cE C E ∧ C.length ≤ most + 1 ∧ Below w.heap.size w w' := by
  obtain ⟨vC, vE, C, E, rfl, hk, h0, hm, hE, hoC, hoE, hB⟩ := h
  obtain ⟨gC, cC, yC, rfl, -⟩ := ownS_blk hoC h0
  obtain ⟨gE, cE, yE, rfl, -⟩ := ownS_blk hoE hE
  exact ⟨gC, cC, gE, cE, C, E, rfl, ⟨hoC, hoE, hk, h0, hE⟩, hm, hB⟩
/-- Bytes of the call's own, that are not none. -/
theorem bown_open {w : World} {B : Nat} {v : Value} {l : List Int} (h : BOwn w B v l) (h0 : 0 < l.length) : ∃ g c, v = .slice (some ⟨g, 0, none⟩) l.length c ∧ Row .u8 w (some ⟨g, 0, none⟩) l ∧ l.length ≤ c ∧ c ≤ 9223372036854775807 ∧ B ≤ g ∧ g < w.heap.size := by
  obtain ⟨a, c, rfl, h1, h2, h3, h4, h5⟩ := own_open h rfl
  obtain ⟨g, rfl, a1, a2, -, -⟩ := h5 h0
  exact ⟨g, c, rfl, h1, h3, by unfold maxLen at h4; omega, a1, a2⟩
theorem encP_pos (enc : Bool) (C : List In) (E : List Int) : 2 ≤ (encP enc C E).length := by unfold encP; simp
theorem chk_lim {enc : Bool} {C : List In} {E : List Int} (h : Chk enc C E) : (encP enc C E).length ≤ 60000000 := by
  have a := ent_len E (fun i hi => by have := h.ent i hi; have := h.nc; omega) E.length (Nat.le_refl _)
  have b := code_len C (fun i x hx => h.inB hx) C.length (Nat.le_refl _)
  rw [List.take_length] at a b
  have c := form_ten E.length (by have := h.ne; omega)
  have d := form_ten C.length (by have := h.nc; omega)
  have := h.nc; have := h.ne
  unfold encP
  simp only [List.length_append, List.length_cons, List.length_nil]
  omega
theorem dec_chk {l : List Int} (h : (decF l).1 = 0) : Chk (decE l) (decC l) (decN l) := by
  have hp : (pgm l).s.e = 0 := by
    by_cases hq : (pgm l).s.e = 0
    · exact hq
    · unfold decF at h
      rw [if_pos hq] at h
      exact absurd h hq
  have hc : (chk (pgm l).enc (pgm l).C (pgm l).E).1 = 0 := by
    by_cases hq : (chk (pgm l).enc (pgm l).C (pgm l).E).1 = 0
    · exact hq
    · unfold decF at h
      rw [if_neg (by omega), if_neg hq] at h
      split at h
      · cases h
      · exact absurd h hq
  unfold decE decC decN
  rw [if_pos h, if_pos h, if_pos h]
  exact chk_ok.1 (chk_zero hc)
theorem dec_none {l : List Int} (h : (decF l).1 ≠ 0) : decE l = false ∧ decC l = [] ∧ decN l = [] := by
  unfold decE decC decN
  rw [if_neg h, if_neg h, if_neg h]
  exact ⟨rfl, rfl, rfl⟩
end Go.Proofs.YtjojbfendkodgaaDoor
/- Programs handed out, kept apart: written over, and grown. -/
namespace Go.Proofs.YtjojbfendkodgaaDoor
open Go.RowKit
set_option linter.unusedVariables false

theorem COwn.upd {w w' : World} {B : Nat} {v : Value} {l : List In} {S : Nat → Prop} (h : COwn w B v l) (hu : Upd S w w') (hs : ∀ k, v.ownBlock = some k → ¬ S k) : COwn w' B v l := ownS_upd h hu hs
theorem COwn.lies {w : World} {B : Nat} {v : Value} {l : List In} (h : COwn w B v l) {k : Nat} (hk : v.ownBlock = some k) : B ≤ k ∧ k < w.heap.size := h.lt k hk
theorem IOwn.rowS {w : World} {l : List Int} {B n c : Nat} {a : Option Addr} (h : IOwn w B (.slice a n c) l) : Row .i64 w a l := by
  obtain ⟨a', c', e, hr, -, -⟩ := h.row
  injection e with e _ _
  subst e
  exact hr
theorem COwn.rowS {w : World} {l : List In} {B n c : Nat} {a : Option Addr} (h : COwn w B (.slice a n c) l) : IRow w a l := by
  obtain ⟨a', c', e, -, -, hr⟩ := h.row
  injection e with e _ _
  subst e
  exact hr

/-- A program of the call's own; its lists made longer. -/
structure Pgx where
  v : Value
  u : Value
  C : List In
  E : List Int
  v2 : Value
  u2 : Value
  C2 : List In
  E2 : List Int
def Dj (a b c d : Value) : Prop := ∀ k, (a.ownBlock = some k ∨ b.ownBlock = some k) → ¬ (c.ownBlock = some k ∨ d.ownBlock = some k)
def PgOk (w : World) (B : Nat) (p : Pgx) : Prop := COwn w B p.v p.C ∧ IOwn w B p.u p.E ∧ COwn w B p.v2 p.C2 ∧ IOwn w B p.u2 p.E2
def PgAp (p q : Pgx) : Prop := Dj p.v p.v2 q.v q.v2 ∧ Dj p.u p.u2 q.u q.u2
structure PAll (w : World) (B : Nat) (L : List Pgx) : Prop where
  ok : ∀ p ∈ L, PgOk w B p
  ap : L.Pairwise PgAp
theorem PgOk.upd {w w' : World} {B : Nat} {p : Pgx} {S : Nat → Prop} (h : PgOk w B p) (hu : Upd S w w') (hv : ∀ k, (p.v.ownBlock = some k ∨ p.v2.ownBlock = some k) → ¬ S k) (hu2 : ∀ k, (p.u.ownBlock = some k ∨ p.u2.ownBlock = some k) → ¬ S k) : PgOk w' B p :=
  ⟨h.1.upd hu (fun k e => hv k (.inl e)), h.2.1.upd hu (fun k e => hu2 k (.inl e)), h.2.2.1.upd hu (fun k e => hv k (.inr e)), h.2.2.2.upd hu (fun k e => hu2 k (.inr e))⟩
theorem PAll.later {w w' : World} {B : Nat} {L : List Pgx} (h : PAll w B L) (hB : Below w.heap.size w w') : PAll w' B L :=
  ⟨fun p hp => (h.ok p hp).upd (Upd.of_below (S := fun _ => False) hB) (fun _ _ h => h) (fun _ _ h => h), h.ap⟩
/-- Blocks that hold neither instructions nor integers may change. -/
theorem PAll.updT {w w' : World} {B : Nat} {L : List Pgx} {S : Nat → Prop} (h : PAll w B L) (hu : Upd S w w') (h1 : ∀ k ys, S k → Blk w k 28 ys → False) (h2 : ∀ k ys, S k → Blk w k 3 ys → False) : PAll w' B L :=
  ⟨fun p hp => by
    obtain ⟨a, b, c, d⟩ := h.ok p hp
    refine (h.ok p hp).upd hu (fun k e hS => ?_) (fun k e hS => ?_)
    · rcases e with e | e
      · obtain ⟨ys, hy⟩ := ownS_type a e; exact h1 k ys hS hy
      · obtain ⟨ys, hy⟩ := ownS_type c e; exact h1 k ys hS hy
    · rcases e with e | e
      · obtain ⟨ys, hy⟩ := ownS_type b e; exact h2 k ys hS hy
      · obtain ⟨ys, hy⟩ := ownS_type d e; exact h2 k ys hS hy, h.ap⟩
theorem PAll.nil (w : World) (B : Nat) : PAll w B [] := ⟨fun p hp => (by cases hp), List.Pairwise.nil⟩
theorem own_nil : (Value.slice none 0 0).ownBlock = none := rfl
/-- One program more, of new memory. -/
theorem PAll.add {w w' : World} {B : Nat} {L : List Pgx} {v u : Value} {C : List In} {E : List Int} (h : PAll w B L) (hB : Below w.heap.size w w') (hb : B ≤ w.heap.size) (hc : COwn w' w.heap.size v C) (he : IOwn w' w.heap.size u E) : PAll w' B (L ++ [⟨v, u, C, E, .slice none 0 0, .slice none 0 0, [], []⟩]) := by
  refine ⟨fun p hp => ?_, ?_⟩
  · rcases List.mem_append.1 hp with hp | hp
    · exact (h.later hB).ok p hp
    · simp only [List.mem_singleton] at hp
      subst hp
      exact ⟨own_base hc hb, own_base he hb, COwn.nil _ _, IOwn.nil _ _⟩
  · rw [List.pairwise_append]
    refine ⟨h.ap, List.pairwise_singleton _ _, fun p hp q hq => ?_⟩
    simp only [List.mem_singleton] at hq
    subst hq
    obtain ⟨a, b, c, d⟩ := h.ok p hp
    refine ⟨fun k e e2 => ?_, fun k e e2 => ?_⟩
    · have h1 : k < w.heap.size := by
        rcases e with e | e
        · exact (a.lies e).2
        · exact (c.lies e).2
      rcases e2 with e2 | e2
      · have := (hc.lies e2).1; omega
      · cases e2
    · have h1 : k < w.heap.size := by
        rcases e with e | e
        · exact (b.lies e).2
        · exact (d.lies e).2
      rcases e2 with e2 | e2
      · have := (he.lies e2).1; omega
      · cases e2
/-- One of them turns: its code's blocks alone may change. -/
theorem PAll.turn {w w' : World} {B : Nat} {L : List Pgx} {k : Nat} {p p' : Pgx} {S : Nat → Prop} (h : PAll w B L) (hk : L[k]? = some p) (hu : Upd S w w') (hok : PgOk w' B p')
    (hS : ∀ j, S j → (p.v.ownBlock = some j ∨ p.v2.ownBlock = some j) ∨ (p.u.ownBlock = some j ∨ p.u2.ownBlock = some j))
    (hv : ∀ j, (p'.v.ownBlock = some j ∨ p'.v2.ownBlock = some j) → (p.v.ownBlock = some j ∨ p.v2.ownBlock = some j) ∨ w.heap.size ≤ j)
    (hu' : ∀ j, (p'.u.ownBlock = some j ∨ p'.u2.ownBlock = some j) → (p.u.ownBlock = some j ∨ p.u2.ownBlock = some j) ∨ w.heap.size ≤ j) : PAll w' B (L.set k p') := by
  have hkl := (List.getElem?_eq_some_iff.1 hk).1
  have hpe := (List.getElem?_eq_some_iff.1 hk).2
  have hap := List.pairwise_iff_getElem.1 h.ap
  have hpp : PgOk w B p := h.ok p (List.mem_of_getElem? hk)
  -- two programs of the list that are not one
  have hne : ∀ j (hj : j < L.length), j ≠ k → PgAp L[j] p ∨ PgAp p L[j] := fun j hj hjk => by
    rcases Nat.lt_or_gt_of_ne hjk with hlt | hlt
    · exact .inl (by have := hap j k hj hkl hlt; rw [hpe] at this; exact this)
    · exact .inr (by have := hap k j hkl hj hlt; rw [hpe] at this; exact this)
  have disV : ∀ j (hj : j < L.length), j ≠ k → ∀ m, (L[j].v.ownBlock = some m ∨ L[j].v2.ownBlock = some m) → ¬ (p.v.ownBlock = some m ∨ p.v2.ownBlock = some m) := fun j hj hjk m e e2 => by
    rcases hne j hj hjk with h1 | h1
    · exact h1.1 m e e2
    · exact h1.1 m e2 e
  have disU : ∀ j (hj : j < L.length), j ≠ k → ∀ m, (L[j].u.ownBlock = some m ∨ L[j].u2.ownBlock = some m) → ¬ (p.u.ownBlock = some m ∨ p.u2.ownBlock = some m) := fun j hj hjk m e e2 => by
    rcases hne j hj hjk with h1 | h1
    · exact h1.2 m e e2
    · exact h1.2 m e2 e
  have isI : ∀ (q : Pgx), PgOk w B q → ∀ m, (q.v.ownBlock = some m ∨ q.v2.ownBlock = some m) → ∃ ys, Blk w m 28 ys := fun q hq m e => by
    rcases e with e | e
    · exact ownS_type hq.1 e
    · exact ownS_type hq.2.2.1 e
  have isN : ∀ (q : Pgx), PgOk w B q → ∀ m, (q.u.ownBlock = some m ∨ q.u2.ownBlock = some m) → ∃ ys, Blk w m 3 ys := fun q hq m e => by
    rcases e with e | e
    · exact ownS_type hq.2.1 e
    · exact ownS_type hq.2.2.2 e
  have mix : ∀ {q r : Pgx}, PgOk w B q → PgOk w B r → ∀ m, (q.v.ownBlock = some m ∨ q.v2.ownBlock = some m) → ¬ (r.u.ownBlock = some m ∨ r.u2.ownBlock = some m) := fun {q r} hq hr m e e2 => by
    obtain ⟨ys, hy⟩ := isI q hq m e
    obtain ⟨zs, hz⟩ := isN r hr m e2
    exact absurd (blk_type hy hz) (by decide)
  refine ⟨fun q hq => ?_, ?_⟩
  · obtain ⟨j, hj, rfl⟩ := List.getElem_of_mem hq
    rw [List.length_set] at hj
    by_cases hjk : j = k
    · subst hjk
      rw [List.getElem_set_self]
      exact hok
    · rw [List.getElem_set_ne (fun h => hjk h.symm)]
      have hq := h.ok _ (List.getElem_mem hj)
      refine hq.upd hu (fun m e hs => ?_) (fun m e hs => ?_)
      · rcases hS m hs with h1 | h1
        · exact disV j hj hjk m e h1
        · exact mix hq hpp m e h1
      · rcases hS m hs with h1 | h1
        · exact mix hpp hq m h1 e
        · exact disU j hj hjk m e h1
  · rw [List.pairwise_iff_getElem]
    have ltV : ∀ j (hj : j < L.length) m, (L[j].v.ownBlock = some m ∨ L[j].v2.ownBlock = some m) → m < w.heap.size := fun j hj m e => by
      obtain ⟨ys, hy⟩ := isI _ (h.ok _ (List.getElem_mem hj)) m e
      exact hy.lt
    have ltU : ∀ j (hj : j < L.length) m, (L[j].u.ownBlock = some m ∨ L[j].u2.ownBlock = some m) → m < w.heap.size := fun j hj m e => by
      obtain ⟨ys, hy⟩ := isN _ (h.ok _ (List.getElem_mem hj)) m e
      exact hy.lt
    intro i j hi hj hij
    have hi2 : i < L.length := by rw [List.length_set] at hi; exact hi
    have hj2 : j < L.length := by rw [List.length_set] at hj; exact hj
    by_cases hik : i = k
    · subst hik
      rw [List.getElem_set_self, List.getElem_set_ne (by omega)]
      refine ⟨fun m e e2 => ?_, fun m e e2 => ?_⟩
      · rcases hv m e with h1 | h1
        · exact disV j hj2 (by omega) m e2 h1
        · have := ltV j hj2 m e2; omega
      · rcases hu' m e with h1 | h1
        · exact disU j hj2 (by omega) m e2 h1
        · have := ltU j hj2 m e2; omega
    · by_cases hjk : j = k
      · subst hjk
        rw [List.getElem_set_self, List.getElem_set_ne (by omega)]
        refine ⟨fun m e e2 => ?_, fun m e e2 => ?_⟩
        · rcases hv m e2 with h1 | h1
          · exact disV i hi2 hik m e h1
          · have := ltV i hi2 m e; omega
        · rcases hu' m e2 with h1 | h1
          · exact disU i hi2 hik m e h1
          · have := ltU i hi2 m e; omega
      · rw [List.getElem_set_ne (fun h => hik h.symm), List.getElem_set_ne (fun h => hjk h.symm)]
        exact hap i j hi2 hj2 hij
theorem upd4 (w : World) (g i j k l : Nat) (x y z u : Value) : Upd (fun n => n = g) w ((((w.setCell ⟨g, i, none⟩ x).setCell ⟨g, j, none⟩ y).setCell ⟨g, k, none⟩ z).setCell ⟨g, l, none⟩ u) := by
  have h1 : Upd (fun n => n = g) w (w.setCell ⟨g, i, none⟩ x) := (Upd.refl (fun n => n = g) w).set ⟨g, i, none⟩ x (.inl rfl)
  have h2 := h1.set ⟨g, j, none⟩ y (.inl rfl)
  have h3 := h2.set ⟨g, k, none⟩ z (.inl rfl)
  exact h3.set ⟨g, l, none⟩ u (.inl rfl)
section
variable {w : World} {B : Nat} {L : List Pgx} {k : Nat} {p : Pgx}
/-- An instruction is written over. -/
theorem PAll.setC (h : PAll w B L) (hk : L[k]? = some p) (h2 : p.v2 = .slice none 0 0) {g n c i : Nat} (hv : p.v = .slice (some ⟨g, 0, none⟩) n c) (hi : i < p.C.length) (x : In) :
    PAll ((((w.setCell ⟨g, i * 4, none⟩ (.int .i64 x.op)).setCell ⟨g, i * 4 + 1, none⟩ (.int .i64 x.a)).setCell ⟨g, i * 4 + 2, none⟩ (.int .i64 x.b)).setCell ⟨g, i * 4 + 3, none⟩ (.int .i64 x.c)) B (L.set k { p with C := p.C.set i x }) ∧ B ≤ g ∧ (∃ ys, Blk w g 28 ys) := by
  obtain ⟨a, b, c', d⟩ := h.ok p (List.mem_of_getElem? hk)
  have hu := upd4 w g (i * 4) (i * 4 + 1) (i * 4 + 2) (i * 4 + 3) (.int .i64 x.op) (.int .i64 x.a) (.int .i64 x.b) (.int .i64 x.c)
  have hg : p.v.ownBlock = some g := by rw [hv]; rfl
  have hty := ownS_type a hg
  refine ⟨h.turn hk hu ⟨?_, ?_, ?_, ?_⟩ (fun j hj => .inl (.inl (by rw [hj]; exact hg))) (fun j e => .inl e) (fun j e => .inl e), (a.lies hg).1, hty⟩
  · show COwn _ B p.v (p.C.set i x)
    rw [hv]
    rw [hv] at a
    exact row_set4 inc_len a hi x _ _ _ _ rfl
  · show IOwn _ B p.u p.E
    exact b.upd hu (fun j e hj => by subst hj; obtain ⟨ys, hy⟩ := hty; exact notI b hy (by decide) e)
  · show COwn _ B p.v2 p.C2
    exact c'.upd hu (fun j e hj => by rw [h2] at e; cases e)
  · show IOwn _ B p.u2 p.E2
    exact d.upd hu (fun j e hj => by subst hj; obtain ⟨ys, hy⟩ := hty; exact notI d hy (by decide) e)
/-- An entry is written over. -/
theorem PAll.setE (h : PAll w B L) (hk : L[k]? = some p) (h2 : p.u2 = .slice none 0 0) {g n c i : Nat} (hv : p.u = .slice (some ⟨g, 0, none⟩) n c) (hi : i < p.E.length) (x : Int) :
    PAll (w.setCell ⟨g, i, none⟩ (.int .i64 x)) B (L.set k { p with E := p.E.set i x }) ∧ B ≤ g ∧ (∃ ys, Blk w g 3 ys) := by
  obtain ⟨a, b, c', d⟩ := h.ok p (List.mem_of_getElem? hk)
  have hu : Upd (fun n => n = g) w (w.setCell ⟨g, i, none⟩ (.int .i64 x)) := (Upd.refl (fun n => n = g) w).set ⟨g, i, none⟩ _ (.inl rfl)
  have hg : p.u.ownBlock = some g := by rw [hv]; rfl
  have hty := ownS_type b hg
  refine ⟨h.turn hk hu ⟨?_, ?_, ?_, ?_⟩ (fun j hj => .inr (.inl (by rw [hj]; exact hg))) (fun j e => .inl e) (fun j e => .inl e), (b.lies hg).1, hty⟩
  · show COwn _ B p.v p.C
    exact a.upd hu (fun j e hj => by subst hj; obtain ⟨ys, hy⟩ := hty; exact notC a hy (by decide) e)
  · show IOwn _ B p.u (p.E.set i x)
    rw [hv]
    rw [hv] at b
    exact b.set hi x
  · show COwn _ B p.v2 p.C2
    exact c'.upd hu (fun j e hj => by subst hj; obtain ⟨ys, hy⟩ := hty; exact notC c' hy (by decide) e)
  · show IOwn _ B p.u2 p.E2
    exact d.upd hu (fun j e hj => by rw [h2] at e; cases e)
/-- Its code is made longer. -/
theorem PAll.growC (h : PAll w B L) (hk : L[k]? = some p) (h2 : p.v2 = .slice none 0 0) (x : In) (hl : p.C.length ≤ 1000000000) (hB : B ≤ w.heap.size) :
    ∃ g cap w', (Builtin.append_ #[23, 23] 23 #[p.v, .slice (some ⟨w.heap.size, 0, none⟩) 1 1]).run Tryd.prog (w.alloc (.cells #[.int .i64 x.op, .int .i64 x.a, .int .i64 x.b, .int .i64 x.c] 28)) = .ok (.slice (some ⟨g, 0, none⟩) (p.C.length + 1) cap) w' ∧ PAll w' B (L.set k { p with v2 := .slice (some ⟨g, 0, none⟩) (p.C.length + 1) cap, C2 := p.C ++ [x] }) ∧ Upd (fun k => p.v.ownBlock = some k) w w' ∧ (∀ j, p.v.ownBlock = some j → B ≤ j ∧ ∃ ys, Blk w j 28 ys) := by
  obtain ⟨a, b, c', d⟩ := h.ok p (List.mem_of_getElem? hk)
  obtain ⟨g, cap, w', h1, h2', h3, h4, h5⟩ := run_pushK (P := Tryd.prog) (t := 23) (e := 28) (c := 4) Tryd.underlying23 infoIn rfl (by decide) w 23 a (inc x) rfl (inc_one x) (by unfold maxLen; omega) (by omega) hB
  have hty : ∀ j, p.v.ownBlock = some j → ∃ ys, Blk w j 28 ys := fun j e => ownS_type a e
  refine ⟨g, cap, w', h1, h.turn hk h4 ⟨h3, ?_, ?_, ?_⟩ (fun j hj => .inl (.inl hj)) (fun j e => ?_) (fun j e => .inl e), h4, fun j e => ⟨(a.lies e).1, hty j e⟩⟩
  · show IOwn _ B p.u p.E
    exact b.upd h4 (fun j e hj => by obtain ⟨ys, hy⟩ := hty j hj; exact notI b hy (by decide) e)
  · show COwn w' B (.slice (some ⟨g, 0, none⟩) (p.C.length + 1) cap) (p.C ++ [x])
    unfold COwn
    rw [cellsG_app, cellsG_one, List.length_append, List.length_singleton]
    exact h2'
  · show IOwn _ B p.u2 p.E2
    exact d.upd h4 (fun j e hj => by obtain ⟨ys, hy⟩ := hty j hj; exact notI d hy (by decide) e)
  · rcases e with e | e
    · exact .inl (.inl e)
    · have : g = j := own_is e
      subst this
      rcases h5 with h5 | h5
      · exact .inl (.inl h5)
      · exact .inr h5
/-- Its entries are made longer. -/
theorem PAll.growE (h : PAll w B L) (hk : L[k]? = some p) (h2 : p.u2 = .slice none 0 0) (x : Int) (hl : p.E.length ≤ 1000000000) (hB : B ≤ w.heap.size) :
    ∃ g cap w', (Builtin.append_ #[24, 24] 24 #[p.u, .slice (some ⟨w.heap.size, 0, none⟩) 1 1]).run Tryd.prog (w.alloc (.cells #[.int .i64 x] 3)) = .ok (.slice (some ⟨g, 0, none⟩) (p.E.length + 1) cap) w' ∧ PAll w' B (L.set k { p with u2 := .slice (some ⟨g, 0, none⟩) (p.E.length + 1) cap, E2 := p.E ++ [x] }) ∧ Upd (fun k => p.u.ownBlock = some k) w w' ∧ (∀ j, p.u.ownBlock = some j → B ≤ j ∧ ∃ ys, Blk w j 3 ys) := by
  obtain ⟨a, b, c', d⟩ := h.ok p (List.mem_of_getElem? hk)
  obtain ⟨g, cap, w', h1, h2', h3, h4, h5⟩ := run_pushK (P := Tryd.prog) (t := 24) (e := 3) (c := 1) elI.sl elI.info rfl (by decide) w 24 b [.int .i64 x] rfl (fun u hu => by simp only [List.mem_singleton] at hu; subst hu; rfl) (by unfold maxLen; omega) (by omega) hB
  have hty : ∀ j, p.u.ownBlock = some j → ∃ ys, Blk w j 3 ys := fun j e => ownS_type b e
  refine ⟨g, cap, w', h1, h.turn hk h4 ⟨?_, h3, ?_, ?_⟩ (fun j hj => .inr (.inl hj)) (fun j e => .inl e) (fun j e => ?_), h4, fun j e => ⟨(b.lies e).1, hty j e⟩⟩
  · show COwn _ B p.v p.C
    exact a.upd h4 (fun j e hj => by obtain ⟨ys, hy⟩ := hty j hj; exact notC a hy (by decide) e)
  · show COwn _ B p.v2 p.C2
    exact c'.upd h4 (fun j e hj => by obtain ⟨ys, hy⟩ := hty j hj; exact notC c' hy (by decide) e)
  · show IOwn w' B (.slice (some ⟨g, 0, none⟩) (p.E.length + 1) cap) (p.E ++ [x])
    unfold IOwn
    rw [cellsL_append, List.length_append, List.length_singleton]
    exact h2'
  · rcases e with e | e
    · exact .inl (.inl e)
    · have : g = j := own_is e
      subst this
      rcases h5 with h5 | h5
      · exact .inl (.inl h5)
      · exact .inr h5
end
end Go.Proofs.YtjojbfendkodgaaDoor
/- Bytes handed out, kept apart: written over, and grown; beside programs. -/
namespace Go.Proofs.YtjojbfendkodgaaDoor
open Go.RowKit
set_option linter.unusedVariables false

structure Bg where
  v : Value
  l : List Int
  v2 : Value
  l2 : List Int
def BgOk (w : World) (B : Nat) (p : Bg) : Prop := BOwn w B p.v p.l ∧ BOwn w B p.v2 p.l2
def BgAp (p q : Bg) : Prop := Dj p.v p.v2 q.v q.v2
structure BAll (w : World) (B : Nat) (L : List Bg) : Prop where
  ok : ∀ p ∈ L, BgOk w B p
  ap : L.Pairwise BgAp
theorem BOwn.upd {w w' : World} {B : Nat} {v : Value} {l : List Int} {S : Nat → Prop} (h : BOwn w B v l) (hu : Upd S w w') (hs : ∀ k, v.ownBlock = some k → ¬ S k) : BOwn w' B v l := ownS_upd h hu hs
theorem BOwn.lies {w : World} {B : Nat} {v : Value} {l : List Int} (h : BOwn w B v l) {k : Nat} (hk : v.ownBlock = some k) : B ≤ k ∧ k < w.heap.size := h.lt k hk
theorem BgOk.upd {w w' : World} {B : Nat} {p : Bg} {S : Nat → Prop} (h : BgOk w B p) (hu : Upd S w w') (hv : ∀ k, (p.v.ownBlock = some k ∨ p.v2.ownBlock = some k) → ¬ S k) : BgOk w' B p :=
  ⟨h.1.upd hu (fun k e => hv k (.inl e)), h.2.upd hu (fun k e => hv k (.inr e))⟩
theorem BgOk.ty {w : World} {B : Nat} {p : Bg} (h : BgOk w B p) {k : Nat} (e : p.v.ownBlock = some k ∨ p.v2.ownBlock = some k) : ∃ ys, Blk w k 5 ys := by
  rcases e with e | e
  · exact ownS_type h.1 e
  · exact ownS_type h.2 e
theorem BAll.updT {w w' : World} {B : Nat} {L : List Bg} {S : Nat → Prop} (h : BAll w B L) (hu : Upd S w w') (h1 : ∀ k ys, S k → Blk w k 5 ys → False) : BAll w' B L :=
  ⟨fun p hp => (h.ok p hp).upd hu (fun k e hS => by obtain ⟨ys, hy⟩ := (h.ok p hp).ty e; exact h1 k ys hS hy), h.ap⟩
theorem BAll.later {w w' : World} {B : Nat} {L : List Bg} (h : BAll w B L) (hB : Below w.heap.size w w') : BAll w' B L := h.updT (Upd.of_below (S := fun _ => False) hB) (fun _ _ h => h.elim)
theorem BAll.nil (w : World) (B : Nat) : BAll w B [] := ⟨fun p hp => (by cases hp), List.Pairwise.nil⟩
theorem BAll.add {w w' : World} {B : Nat} {L : List Bg} {v : Value} {l : List Int} (h : BAll w B L) (hB : Below w.heap.size w w') (hb : B ≤ w.heap.size) (hc : BOwn w' w.heap.size v l) : BAll w' B (L ++ [⟨v, l, .slice none 0 0, []⟩]) := by
  refine ⟨fun p hp => ?_, ?_⟩
  · rcases List.mem_append.1 hp with hp | hp
    · exact (h.later hB).ok p hp
    · simp only [List.mem_singleton] at hp
      subst hp
      exact ⟨own_base hc hb, BOwn.nil _ _⟩
  · rw [List.pairwise_append]
    refine ⟨h.ap, List.pairwise_singleton _ _, fun p hp q hq => ?_⟩
    simp only [List.mem_singleton] at hq
    subst hq
    intro k e e2
    obtain ⟨ys, hy⟩ := (h.ok p hp).ty e
    have h1 := hy.lt
    rcases e2 with e2 | e2
    · have := (hc.lies e2).1; omega
    · cases e2
theorem BAll.turn {w w' : World} {B : Nat} {L : List Bg} {k : Nat} {p p' : Bg} {S : Nat → Prop} (h : BAll w B L) (hk : L[k]? = some p) (hu : Upd S w w') (hok : BgOk w' B p')
    (hS : ∀ j, S j → (p.v.ownBlock = some j ∨ p.v2.ownBlock = some j))
    (hv : ∀ j, (p'.v.ownBlock = some j ∨ p'.v2.ownBlock = some j) → (p.v.ownBlock = some j ∨ p.v2.ownBlock = some j) ∨ w.heap.size ≤ j) : BAll w' B (L.set k p') := by
  have hkl := (List.getElem?_eq_some_iff.1 hk).1
  have hpe := (List.getElem?_eq_some_iff.1 hk).2
  have hap := List.pairwise_iff_getElem.1 h.ap
  have dis : ∀ j (hj : j < L.length), j ≠ k → ∀ m, (L[j].v.ownBlock = some m ∨ L[j].v2.ownBlock = some m) → ¬ (p.v.ownBlock = some m ∨ p.v2.ownBlock = some m) := fun j hj hjk m e e2 => by
    rcases Nat.lt_or_gt_of_ne hjk with hlt | hlt
    · have := hap j k hj hkl hlt
      rw [hpe] at this
      exact this m e e2
    · have := hap k j hkl hj hlt
      rw [hpe] at this
      exact this m e2 e
  have lt : ∀ j (hj : j < L.length) m, (L[j].v.ownBlock = some m ∨ L[j].v2.ownBlock = some m) → m < w.heap.size := fun j hj m e => by
    obtain ⟨ys, hy⟩ := (h.ok _ (List.getElem_mem hj)).ty e
    exact hy.lt
  refine ⟨fun q hq => ?_, ?_⟩
  · obtain ⟨j, hj, rfl⟩ := List.getElem_of_mem hq
    have hj2 : j < L.length := by rw [List.length_set] at hj; exact hj
    by_cases hjk : j = k
    · subst hjk
      rw [List.getElem_set_self]
      exact hok
    · rw [List.getElem_set_ne (fun h => hjk h.symm)]
      exact (h.ok _ (List.getElem_mem hj2)).upd hu (fun m e hs => dis j hj2 hjk m e (hS m hs))
  · rw [List.pairwise_iff_getElem]
    intro i j hi hj hij
    have hi2 : i < L.length := by rw [List.length_set] at hi; exact hi
    have hj2 : j < L.length := by rw [List.length_set] at hj; exact hj
    by_cases hik : i = k
    · subst hik
      rw [List.getElem_set_self, List.getElem_set_ne (by omega)]
      intro m e e2
      rcases hv m e with h1 | h1
      · exact dis j hj2 (by omega) m e2 h1
      · have := lt j hj2 m e2; omega
    · by_cases hjk : j = k
      · subst hjk
        rw [List.getElem_set_self, List.getElem_set_ne (by omega)]
        intro m e e2
        rcases hv m e2 with h1 | h1
        · exact dis i hi2 hik m e h1
        · have := lt i hi2 m e; omega
      · rw [List.getElem_set_ne (fun h => hik h.symm), List.getElem_set_ne (fun h => hjk h.symm)]
        exact hap i j hi2 hj2 hij
section
variable {w : World} {B : Nat} {L : List Bg} {k : Nat} {p : Bg}
theorem own_set1 {w : World} {B g n cap i : Nat} {e : TypeId} {k : IntKind} {l : List Int} (h : w.ownsRow B e 1 (.slice (some ⟨g, 0, none⟩) n cap) n (cellsL k l)) (hi : i < n) (x : Int) : (w.setCell ⟨g, i, none⟩ (.int k x)).ownsRow B e 1 (.slice (some ⟨g, 0, none⟩) n cap) n (cellsL k (l.set i x)) := by
  obtain ⟨g', cap', ys, e, hb, hn, hm, hys, ht, hk⟩ := ownS_blk h (by omega)
  injection e with e1 e2 e3
  injection e1 with e1
  injection e1 with e1 _ _
  subst e1 e3
  have hk2 := hk.set i (.int k x)
  have h2 := ownS_of_blk (B := B) (n := n) (c := 1) (cap := cap) hk2 hb (by simp [hys]) hn hm
  have e4 : (ys.set i (.int k x)).take (n * 1) = cellsL k (l.set i x) := by
    rw [List.take_set, ht]
    simp [cellsL, List.map_set]
  rw [← e4]
  exact h2
/-- A byte is written over. -/
theorem BAll.setB (h : BAll w B L) (hk : L[k]? = some p) (h2 : p.v2 = .slice none 0 0) {g c i : Nat} (hv : p.v = .slice (some ⟨g, 0, none⟩) p.l.length c) (hi : i < p.l.length) (x : Int) :
    BAll (w.setCell ⟨g, i, none⟩ (.int .u8 x)) B (L.set k { p with l := p.l.set i x }) ∧ B ≤ g ∧ (∃ ys, Blk w g 5 ys) := by
  obtain ⟨a, b⟩ := h.ok p (List.mem_of_getElem? hk)
  have hu : Upd (fun n => n = g) w (w.setCell ⟨g, i, none⟩ (.int .u8 x)) := (Upd.refl (fun n => n = g) w).set ⟨g, i, none⟩ _ (.inl rfl)
  have hg : p.v.ownBlock = some g := by rw [hv]; rfl
  refine ⟨h.turn hk hu ⟨?_, ?_⟩ (fun j hj => .inl (by rw [hj]; exact hg)) (fun j e => .inl e), (a.lies hg).1, ownS_type a hg⟩
  · show BOwn _ B p.v (p.l.set i x)
    rw [hv]
    rw [hv] at a
    unfold BOwn
    rw [List.length_set]
    exact own_set1 a hi x
  · show BOwn _ B p.v2 p.l2
    exact b.upd hu (fun j e hj => by rw [h2] at e; cases e)
/-- Bytes are made longer. -/
theorem BAll.growB (h : BAll w B L) (hk : L[k]? = some p) (x : Int) (hl : p.l.length ≤ 1000000000) (hB : B ≤ w.heap.size) :
    ∃ g cap w', (Builtin.append_ #[34, 34] 34 #[p.v, .slice (some ⟨w.heap.size, 0, none⟩) 1 1]).run Tryd.prog (w.alloc (.cells #[.int .u8 x] 5)) = .ok (.slice (some ⟨g, 0, none⟩) (p.l.length + 1) cap) w' ∧ BAll w' B (L.set k { p with v2 := .slice (some ⟨g, 0, none⟩) (p.l.length + 1) cap, l2 := p.l ++ [x] }) ∧ Upd (fun k => p.v.ownBlock = some k) w w' ∧ (∀ j, p.v.ownBlock = some j → B ≤ j ∧ ∃ ys, Blk w j 5 ys) := by
  obtain ⟨a, b⟩ := h.ok p (List.mem_of_getElem? hk)
  obtain ⟨g, cap, w', h1, h2', h3, h4, h5⟩ := run_pushK (P := Tryd.prog) (t := 34) (e := 5) (c := 1) elU8.sl elU8.info rfl (by decide) w 34 a [.int .u8 x] rfl (fun u hu => by simp only [List.mem_singleton] at hu; subst hu; rfl) (by unfold maxLen; omega) (by omega) hB
  refine ⟨g, cap, w', h1, h.turn hk h4 ⟨h3, ?_⟩ (fun j hj => .inl hj) (fun j e => ?_), h4, fun j e => ⟨(a.lies e).1, ownS_type a e⟩⟩
  · show BOwn w' B (.slice (some ⟨g, 0, none⟩) (p.l.length + 1) cap) (p.l ++ [x])
    unfold BOwn
    rw [cellsL_append, List.length_append, List.length_singleton]
    exact h2'
  · rcases e with e | e
    · exact .inl (.inl e)
    · have : g = j := own_is e
      subst this
      rcases h5 with h5 | h5
      · exact .inl (.inl h5)
      · exact .inr h5
end
end Go.Proofs.YtjojbfendkodgaaDoor
/- CodeApart: programs in a list, bytes in a list, their lists grown, in lists: what lies in memory. -/
namespace Go.Proofs.YtjojbfendkodgaaDoor
open Go.RowKit
set_option linter.unusedVariables false

def prx (en : Bool) (p : Value × Value) : List Value := [.bool en, p.1, p.2]
theorem prx_len (en : Bool) (p : Value × Value) : (prx en p).length = 3 := rfl
def one1 (v : Value) : List Value := [v]
theorem one1_len (v : Value) : (one1 v).length = 1 := rfl
theorem infoPg : (Tryd.prog.info? 26).map (fun i => (i.zero, i.size, i.bytes)) = some (some (.agg #[.bool false, .slice none 0 0, .slice none 0 0]), 3, 56) := by kernel_rfl
theorem infoSI : (Tryd.prog.info? 23).map (fun i => (i.zero, i.size, i.bytes)) = some (some (.slice none 0 0), 1, 24) := by kernel_rfl
theorem infoSN : (Tryd.prog.info? 24).map (fun i => (i.zero, i.size, i.bytes)) = some (some (.slice none 0 0), 1, 24) := by kernel_rfl
theorem infoSB : (Tryd.prog.info? 34).map (fun i => (i.zero, i.size, i.bytes)) = some (some (.slice none 0 0), 1, 24) := by kernel_rfl
theorem own_ne {w : World} {B B' t t' c c' n n' : Nat} {v v' : Value} {xs xs' : List Value} (h : w.ownsRow B t c v n xs) (h' : w.ownsRow B' t' c' v' n' xs') (hne : t ≠ t') : ∀ k, v.ownBlock = some k → v'.ownBlock = some k → False := fun k e e' => by
  obtain ⟨ys, hy⟩ := ownS_type h e
  obtain ⟨zs, hz⟩ := ownS_type h' e'
  exact hne (blk_type hy hz)
structure ApC (en : Bool) (w6 wr : World) (vL : Value) (VL : List (Value × Value)) (vB : Value) (BL : List Value) (vI : Value) (IL : List Value) (vN : Value) (NL : List Value) (vG : Value) (GL : List Value) (L : List Pgx) (M : List Bg) : Prop where
  all : PAll wr w6.heap.size L
  ball : BAll wr w6.heap.size M
  row : wr.ownsRow w6.heap.size 26 3 vL VL.length (cellsG (prx en) VL)
  rb : wr.ownsRow w6.heap.size 34 1 vB BL.length (cellsG one1 BL)
  ri : wr.ownsRow w6.heap.size 23 1 vI IL.length (cellsG one1 IL)
  rn : wr.ownsRow w6.heap.size 24 1 vN NL.length (cellsG one1 NL)
  rg : wr.ownsRow w6.heap.size 34 1 vG GL.length (cellsG one1 GL)
  bg : ∀ k, vB.ownBlock = some k → vG.ownBlock = some k → False
  bel : Below w6.heap.size w6 wr
section
variable {en : Bool} {w6 w w' : World} {vL : Value} {VL : List (Value × Value)} {vB : Value} {BL : List Value} {vI : Value} {IL : List Value} {vN : Value} {NL : List Value} {vG : Value} {GL : List Value} {L : List Pgx} {M : List Bg}
theorem ApC.nil (en : Bool) (w6 : World) : ApC en w6 w6 (.slice none 0 0) [] (.slice none 0 0) [] (.slice none 0 0) [] (.slice none 0 0) [] (.slice none 0 0) [] [] [] :=
  ⟨PAll.nil _ _, BAll.nil _ _, World.ownsRow_nil _ _ _ _, World.ownsRow_nil _ _ _ _, World.ownsRow_nil _ _ _ _, World.ownsRow_nil _ _ _ _, World.ownsRow_nil _ _ _ _, fun k h => (by cases h), Below.refl _ _⟩
theorem ApC.later (h : ApC en w6 w vL VL vB BL vI IL vN NL vG GL L M) (hB : Below w.heap.size w w') : ApC en w6 w' vL VL vB BL vI IL vN NL vG GL L M :=
  ⟨h.all.later hB, h.ball.later hB, ownS_upd h.row (Upd.of_below (S := fun _ => False) hB) (fun _ _ h => h), ownS_upd h.rb (Upd.of_below (S := fun _ => False) hB) (fun _ _ h => h), ownS_upd h.ri (Upd.of_below (S := fun _ => False) hB) (fun _ _ h => h), ownS_upd h.rn (Upd.of_below (S := fun _ => False) hB) (fun _ _ h => h), ownS_upd h.rg (Upd.of_below (S := fun _ => False) hB) (fun _ _ h => h), h.bg, below_to h.bel hB⟩
theorem ApC.addP {v u : Value} {C : List In} {E : List Int} (h : ApC en w6 w vL VL vB BL vI IL vN NL vG GL L M) (hB : Below w.heap.size w w') (hc : COwn w' w.heap.size v C) (he : IOwn w' w.heap.size u E) : ApC en w6 w' vL VL vB BL vI IL vN NL vG GL (L ++ [⟨v, u, C, E, .slice none 0 0, .slice none 0 0, [], []⟩]) M :=
  { h.later hB with all := h.all.add hB h.bel.size hc he }
theorem ApC.addB {v : Value} {l : List Int} (h : ApC en w6 w vL VL vB BL vI IL vN NL vG GL L M) (hB : Below w.heap.size w w') (hc : BOwn w' w.heap.size v l) : ApC en w6 w' vL VL vB BL vI IL vN NL vG GL L (M ++ [⟨v, l, .slice none 0 0, []⟩]) :=
  { h.later hB with ball := h.ball.add hB h.bel.size hc }
/-- Instructions or integers of the programs may change. -/
theorem ApC.turnP {L' : List Pgx} {S : Nat → Prop} (h : ApC en w6 w vL VL vB BL vI IL vN NL vG GL L M) (hu : Upd S w w') (hS : ∀ k, S k → w6.heap.size ≤ k ∧ ((∃ ys, Blk w k 28 ys) ∨ ∃ ys, Blk w k 3 ys)) (hp : PAll w' w6.heap.size L') : ApC en w6 w' vL VL vB BL vI IL vN NL vG GL L' M := by
  have hn : ∀ {v : Value} {n c : Nat} {t : TypeId} {xs : List Value}, w.ownsRow w6.heap.size t c v n xs → t ≠ 28 → t ≠ 3 → ∀ k, v.ownBlock = some k → ¬ S k := fun ho h1 h2 k e hs => by
    obtain ⟨ys, hy⟩ := ownS_type ho e
    rcases (hS k hs).2 with ⟨zs, hz⟩ | ⟨zs, hz⟩
    · exact h1 (blk_type hy hz)
    · exact h2 (blk_type hy hz)
  exact ⟨hp, h.ball.updT hu (fun k ys hs hb => by
    rcases (hS k hs).2 with ⟨zs, hz⟩ | ⟨zs, hz⟩
    · exact absurd (blk_type hb hz) (by decide)
    · exact absurd (blk_type hb hz) (by decide)), ownS_upd h.row hu (hn h.row (by decide) (by decide)), ownS_upd h.rb hu (hn h.rb (by decide) (by decide)), ownS_upd h.ri hu (hn h.ri (by decide) (by decide)), ownS_upd h.rn hu (hn h.rn (by decide) (by decide)), ownS_upd h.rg hu (hn h.rg (by decide) (by decide)), h.bg, h.bel.trans (hu.below _ h.bel.size (fun k hk => (hS k hk).1))⟩
/-- Bytes may change. -/
theorem ApC.turnB {M' : List Bg} {S : Nat → Prop} (h : ApC en w6 w vL VL vB BL vI IL vN NL vG GL L M) (hu : Upd S w w') (hS : ∀ k, S k → w6.heap.size ≤ k ∧ (∃ ys, Blk w k 5 ys)) (hp : BAll w' w6.heap.size M') : ApC en w6 w' vL VL vB BL vI IL vN NL vG GL L M' := by
  have hn : ∀ {v : Value} {n c : Nat} {t : TypeId} {xs : List Value}, w.ownsRow w6.heap.size t c v n xs → t ≠ 5 → ∀ k, v.ownBlock = some k → ¬ S k := fun ho h1 k e hs => by
    obtain ⟨ys, hy⟩ := ownS_type ho e
    obtain ⟨zs, hz⟩ := (hS k hs).2
    exact h1 (blk_type hy hz)
  exact ⟨h.all.updT hu (fun k ys hs hb => by obtain ⟨zs, hz⟩ := (hS k hs).2; exact absurd (blk_type hb hz) (by decide)) (fun k ys hs hb => by obtain ⟨zs, hz⟩ := (hS k hs).2; exact absurd (blk_type hb hz) (by decide)), hp, ownS_upd h.row hu (hn h.row (by decide)), ownS_upd h.rb hu (hn h.rb (by decide)), ownS_upd h.ri hu (hn h.ri (by decide)), ownS_upd h.rn hu (hn h.rn (by decide)), ownS_upd h.rg hu (hn h.rg (by decide)), h.bg, h.bel.trans (hu.below _ h.bel.size (fun k hk => (hS k hk).1))⟩
theorem ApC.pushL {a b : Option Addr} {n m c d : Nat} (h : ApC en w6 w vL VL vB BL vI IL vN NL vG GL L M) (hl : VL.length ≤ 1000) : ∃ g cap w', (Builtin.append_ #[44, 44] 44 #[vL, .slice (some ⟨w.heap.size, 0, none⟩) 1 1]).run Tryd.prog (w.alloc (.cells #[.bool en, .slice a n c, .slice b m d] 26)) = .ok (.slice (some ⟨g, 0, none⟩) (VL.length + 1) cap) w' ∧ ApC en w6 w' (.slice (some ⟨g, 0, none⟩) (VL.length + 1) cap) (VL ++ [(.slice a n c, .slice b m d)]) vB BL vI IL vN NL vG GL L M ∧ Upd (fun k => vL.ownBlock = some k) w w' := by
  obtain ⟨g, cap, w', h1, h2, h3, h4⟩ := run_pushS (P := Tryd.prog) (t := 44) (e := 26) (c := 3) Tryd.underlying44 infoPg rfl (by decide) w 44 h.row (prx en (.slice a n c, .slice b m d)) rfl (fun u hu => by simp [prx] at hu; rcases hu with rfl | rfl | rfl <;> rfl) (by unfold maxLen; omega) (by omega) h.bel.size
  have hty : ∀ k, vL.ownBlock = some k → ∃ ys, Blk w k 26 ys := fun k e => ownS_type h.row e
  have hno : ∀ {t : TypeId}, 26 ≠ t → ∀ k ys, vL.ownBlock = some k → Blk w k t ys → False := fun hne k ys e hb => by
    obtain ⟨zs, hz⟩ := hty k e
    exact hne (blk_type hz hb)
  refine ⟨g, cap, w', h1, ⟨h.all.updT h3 (hno (by decide)) (hno (by decide)), h.ball.updT h3 (hno (by decide)), ?_, ownS_upd h.rb h3 (own_ne h.rb h.row (by decide)), ownS_upd h.ri h3 (own_ne h.ri h.row (by decide)), ownS_upd h.rn h3 (own_ne h.rn h.row (by decide)), ownS_upd h.rg h3 (own_ne h.rg h.row (by decide)), h.bg, h.bel.trans (h3.below _ h.bel.size (fun k e => (h.row.lt k e).1))⟩, h3⟩
  rw [cellsG_app, cellsG_one, List.length_append, List.length_singleton]
  exact h2
theorem ApC.pushB {a : Option Addr} {n c : Nat} (h : ApC en w6 w vL VL vB BL vI IL vN NL vG GL L M) (hG : vG = .slice none 0 0) (hl : BL.length ≤ 1000) : ∃ g cap w', (Builtin.append_ #[43, 43] 43 #[vB, .slice (some ⟨w.heap.size, 0, none⟩) 1 1]).run Tryd.prog (w.alloc (.cells #[.slice a n c] 34)) = .ok (.slice (some ⟨g, 0, none⟩) (BL.length + 1) cap) w' ∧ ApC en w6 w' vL VL (.slice (some ⟨g, 0, none⟩) (BL.length + 1) cap) (BL ++ [.slice a n c]) vI IL vN NL vG GL L M ∧ Upd (fun k => vB.ownBlock = some k) w w' := by
  obtain ⟨g, cap, w', h1, h2, h3, h4⟩ := run_pushS (P := Tryd.prog) (t := 43) (e := 34) (c := 1) Tryd.underlying43 infoSB rfl (by decide) w 43 h.rb (one1 (.slice a n c)) rfl (fun u hu => by simp [one1] at hu; subst hu; rfl) (by unfold maxLen; omega) (by omega) h.bel.size
  have hty : ∀ k, vB.ownBlock = some k → ∃ ys, Blk w k 34 ys := fun k e => ownS_type h.rb e
  have hno : ∀ {t : TypeId}, 34 ≠ t → ∀ k ys, vB.ownBlock = some k → Blk w k t ys → False := fun hne k ys e hb => by
    obtain ⟨zs, hz⟩ := hty k e
    exact hne (blk_type hz hb)
  refine ⟨g, cap, w', h1, ⟨h.all.updT h3 (hno (by decide)) (hno (by decide)), h.ball.updT h3 (hno (by decide)), ownS_upd h.row h3 (own_ne h.row h.rb (by decide)), ?_, ownS_upd h.ri h3 (own_ne h.ri h.rb (by decide)), ownS_upd h.rn h3 (own_ne h.rn h.rb (by decide)), ownS_upd h.rg h3 (fun k e e2 => (by rw [hG] at e; cases e)), (fun k e e2 => (by rw [hG] at e2; cases e2)), h.bel.trans (h3.below _ h.bel.size (fun k e => (h.rb.lt k e).1))⟩, h3⟩
  rw [cellsG_app, cellsG_one, List.length_append, List.length_singleton]
  exact h2
theorem ApC.pushI {a : Option Addr} {n c : Nat} (h : ApC en w6 w vL VL vB BL vI IL vN NL vG GL L M) (hl : IL.length ≤ 1000) : ∃ g cap w', (Builtin.append_ #[45, 45] 45 #[vI, .slice (some ⟨w.heap.size, 0, none⟩) 1 1]).run Tryd.prog (w.alloc (.cells #[.slice a n c] 23)) = .ok (.slice (some ⟨g, 0, none⟩) (IL.length + 1) cap) w' ∧ ApC en w6 w' vL VL vB BL (.slice (some ⟨g, 0, none⟩) (IL.length + 1) cap) (IL ++ [.slice a n c]) vN NL vG GL L M ∧ Upd (fun k => vI.ownBlock = some k) w w' := by
  obtain ⟨g, cap, w', h1, h2, h3, h4⟩ := run_pushS (P := Tryd.prog) (t := 45) (e := 23) (c := 1) Tryd.underlying45 infoSI rfl (by decide) w 45 h.ri (one1 (.slice a n c)) rfl (fun u hu => by simp [one1] at hu; subst hu; rfl) (by unfold maxLen; omega) (by omega) h.bel.size
  have hty : ∀ k, vI.ownBlock = some k → ∃ ys, Blk w k 23 ys := fun k e => ownS_type h.ri e
  have hno : ∀ {t : TypeId}, 23 ≠ t → ∀ k ys, vI.ownBlock = some k → Blk w k t ys → False := fun hne k ys e hb => by
    obtain ⟨zs, hz⟩ := hty k e
    exact hne (blk_type hz hb)
  refine ⟨g, cap, w', h1, ⟨h.all.updT h3 (hno (by decide)) (hno (by decide)), h.ball.updT h3 (hno (by decide)), ownS_upd h.row h3 (own_ne h.row h.ri (by decide)), ownS_upd h.rb h3 (own_ne h.rb h.ri (by decide)), ?_, ownS_upd h.rn h3 (own_ne h.rn h.ri (by decide)), ownS_upd h.rg h3 (own_ne h.rg h.ri (by decide)), h.bg, h.bel.trans (h3.below _ h.bel.size (fun k e => (h.ri.lt k e).1))⟩, h3⟩
  rw [cellsG_app, cellsG_one, List.length_append, List.length_singleton]
  exact h2
theorem ApC.pushN {a : Option Addr} {n c : Nat} (h : ApC en w6 w vL VL vB BL vI IL vN NL vG GL L M) (hl : NL.length ≤ 1000) : ∃ g cap w', (Builtin.append_ #[46, 46] 46 #[vN, .slice (some ⟨w.heap.size, 0, none⟩) 1 1]).run Tryd.prog (w.alloc (.cells #[.slice a n c] 24)) = .ok (.slice (some ⟨g, 0, none⟩) (NL.length + 1) cap) w' ∧ ApC en w6 w' vL VL vB BL vI IL (.slice (some ⟨g, 0, none⟩) (NL.length + 1) cap) (NL ++ [.slice a n c]) vG GL L M ∧ Upd (fun k => vN.ownBlock = some k) w w' := by
  obtain ⟨g, cap, w', h1, h2, h3, h4⟩ := run_pushS (P := Tryd.prog) (t := 46) (e := 24) (c := 1) Tryd.underlying46 infoSN rfl (by decide) w 46 h.rn (one1 (.slice a n c)) rfl (fun u hu => by simp [one1] at hu; subst hu; rfl) (by unfold maxLen; omega) (by omega) h.bel.size
  have hty : ∀ k, vN.ownBlock = some k → ∃ ys, Blk w k 24 ys := fun k e => ownS_type h.rn e
  have hno : ∀ {t : TypeId}, 24 ≠ t → ∀ k ys, vN.ownBlock = some k → Blk w k t ys → False := fun hne k ys e hb => by
    obtain ⟨zs, hz⟩ := hty k e
    exact hne (blk_type hz hb)
  refine ⟨g, cap, w', h1, ⟨h.all.updT h3 (hno (by decide)) (hno (by decide)), h.ball.updT h3 (hno (by decide)), ownS_upd h.row h3 (own_ne h.row h.rn (by decide)), ownS_upd h.rb h3 (own_ne h.rb h.rn (by decide)), ownS_upd h.ri h3 (own_ne h.ri h.rn (by decide)), ?_, ownS_upd h.rg h3 (own_ne h.rg h.rn (by decide)), h.bg, h.bel.trans (h3.below _ h.bel.size (fun k e => (h.rn.lt k e).1))⟩, h3⟩
  rw [cellsG_app, cellsG_one, List.length_append, List.length_singleton]
  exact h2
theorem ApC.pushG {a : Option Addr} {n c : Nat} (h : ApC en w6 w vL VL vB BL vI IL vN NL vG GL L M) (hl : GL.length ≤ 1000) : ∃ g cap w', (Builtin.append_ #[43, 43] 43 #[vG, .slice (some ⟨w.heap.size, 0, none⟩) 1 1]).run Tryd.prog (w.alloc (.cells #[.slice a n c] 34)) = .ok (.slice (some ⟨g, 0, none⟩) (GL.length + 1) cap) w' ∧ ApC en w6 w' vL VL vB BL vI IL vN NL (.slice (some ⟨g, 0, none⟩) (GL.length + 1) cap) (GL ++ [.slice a n c]) L M ∧ Upd (fun k => vG.ownBlock = some k) w w' := by
  obtain ⟨g, cap, w', h1, h2, h3, h4⟩ := run_pushS (P := Tryd.prog) (t := 43) (e := 34) (c := 1) Tryd.underlying43 infoSB rfl (by decide) w 43 h.rg (one1 (.slice a n c)) rfl (fun u hu => by simp [one1] at hu; subst hu; rfl) (by unfold maxLen; omega) (by omega) h.bel.size
  have hty : ∀ k, vG.ownBlock = some k → ∃ ys, Blk w k 34 ys := fun k e => ownS_type h.rg e
  have hno : ∀ {t : TypeId}, 34 ≠ t → ∀ k ys, vG.ownBlock = some k → Blk w k t ys → False := fun hne k ys e hb => by
    obtain ⟨zs, hz⟩ := hty k e
    exact hne (blk_type hz hb)
  refine ⟨g, cap, w', h1, ⟨h.all.updT h3 (hno (by decide)) (hno (by decide)), h.ball.updT h3 (hno (by decide)), ownS_upd h.row h3 (own_ne h.row h.rg (by decide)), ownS_upd h.rb h3 (fun k e e2 => h.bg k e e2), ownS_upd h.ri h3 (own_ne h.ri h.rg (by decide)), ownS_upd h.rn h3 (own_ne h.rn h.rg (by decide)), ?_, ?_, h.bel.trans (h3.below _ h.bel.size (fun k e => (h.rg.lt k e).1))⟩, h3⟩
  · rw [cellsG_app, cellsG_one, List.length_append, List.length_singleton]
    exact h2
  · intro k e e2
    have : g = k := own_is e2
    subst this
    rcases h4 with h4 | h4
    · exact h.bg g e h4
    · have := (h.rb.lt g e).2
      omega
theorem ApC.atL {k : Nat} {x : Value × Value} (h : ApC en w6 w vL VL vB BL vI IL vN NL vG GL L M) (hk : VL[k]? = some x) : ∃ g c, vL = .slice (some ⟨g, 0, none⟩) VL.length c ∧ w.cell? ⟨g, k * 3, none⟩ = some (.bool en) ∧ w.cell? ⟨g, k * 3 + 1, none⟩ = some x.1 ∧ w.cell? ⟨g, k * 3 + 2, none⟩ = some x.2 := by
  have hl := (List.getElem?_eq_some_iff.1 hk).1
  obtain ⟨g, c, ys, rfl, _⟩ := ownS_blk h.row (by omega)
  obtain ⟨a, c', e, -, -, hr⟩ := own_grow (prx_len en) h.row
  injection e with e _ _
  subst e
  obtain ⟨b, o, e, -, hc⟩ := hr.open (by omega)
  injection e with e
  injection e with e1 e2 _
  subst e1 e2
  have c0 := hc k x hk 0 (by decide); have c1 := hc k x hk 1 (by decide); have c2 := hc k x hk 2 (by decide)
  simp [prx] at c0 c1 c2
  exact ⟨_, _, rfl, c0, c1, c2⟩
theorem ApC.atL2 {k g n c : Nat} {x : Value × Value} (h : ApC en w6 w (.slice (some ⟨g, 0, none⟩) n c) VL vB BL vI IL vN NL vG GL L M) (hk : VL[k]? = some x) : w.cell? ⟨g, k * 3, none⟩ = some (.bool en) ∧ w.cell? ⟨g, k * 3 + 1, none⟩ = some x.1 ∧ w.cell? ⟨g, k * 3 + 2, none⟩ = some x.2 := by
  obtain ⟨g2, c2, e, h1⟩ := h.atL hk
  injection e with e _ _
  injection e with e
  injection e with e _ _
  subst e
  exact h1
theorem ApC.atB {k : Nat} {x : Value} (h : ApC en w6 w vL VL vB BL vI IL vN NL vG GL L M) (hk : BL[k]? = some x) : ∃ g c, vB = .slice (some ⟨g, 0, none⟩) BL.length c ∧ w.cell? ⟨g, k, none⟩ = some x := by
  have hl := (List.getElem?_eq_some_iff.1 hk).1
  obtain ⟨g, c, ys, rfl, _⟩ := ownS_blk h.rb (by omega)
  obtain ⟨a, c', e, -, -, hr⟩ := own_grow one1_len h.rb
  injection e with e _ _
  subst e
  obtain ⟨b, o, e, -, hc⟩ := hr.open (by omega)
  injection e with e
  injection e with e1 e2 _
  subst e1 e2
  have c0 := hc k x hk 0 (by decide)
  simp [one1] at c0
  exact ⟨_, _, rfl, c0⟩
theorem ApC.atB2 {k g n c : Nat} {x : Value} (h : ApC en w6 w vL VL (.slice (some ⟨g, 0, none⟩) n c) BL vI IL vN NL vG GL L M) (hk : BL[k]? = some x) : w.cell? ⟨g, k, none⟩ = some x := by
  obtain ⟨g2, c2, e, h1⟩ := h.atB hk
  injection e with e _ _
  injection e with e
  injection e with e _ _
  subst e
  exact h1
theorem ApC.atI {k : Nat} {x : Value} (h : ApC en w6 w vL VL vB BL vI IL vN NL vG GL L M) (hk : IL[k]? = some x) : ∃ g c, vI = .slice (some ⟨g, 0, none⟩) IL.length c ∧ w.cell? ⟨g, k, none⟩ = some x := by
  have hl := (List.getElem?_eq_some_iff.1 hk).1
  obtain ⟨g, c, ys, rfl, _⟩ := ownS_blk h.ri (by omega)
  obtain ⟨a, c', e, -, -, hr⟩ := own_grow one1_len h.ri
  injection e with e _ _
  subst e
  obtain ⟨b, o, e, -, hc⟩ := hr.open (by omega)
  injection e with e
  injection e with e1 e2 _
  subst e1 e2
  have c0 := hc k x hk 0 (by decide)
  simp [one1] at c0
  exact ⟨_, _, rfl, c0⟩
theorem ApC.atI2 {k g n c : Nat} {x : Value} (h : ApC en w6 w vL VL vB BL (.slice (some ⟨g, 0, none⟩) n c) IL vN NL vG GL L M) (hk : IL[k]? = some x) : w.cell? ⟨g, k, none⟩ = some x := by
  obtain ⟨g2, c2, e, h1⟩ := h.atI hk
  injection e with e _ _
  injection e with e
  injection e with e _ _
  subst e
  exact h1
theorem ApC.atN {k : Nat} {x : Value} (h : ApC en w6 w vL VL vB BL vI IL vN NL vG GL L M) (hk : NL[k]? = some x) : ∃ g c, vN = .slice (some ⟨g, 0, none⟩) NL.length c ∧ w.cell? ⟨g, k, none⟩ = some x := by
  have hl := (List.getElem?_eq_some_iff.1 hk).1
  obtain ⟨g, c, ys, rfl, _⟩ := ownS_blk h.rn (by omega)
  obtain ⟨a, c', e, -, -, hr⟩ := own_grow one1_len h.rn
  injection e with e _ _
  subst e
  obtain ⟨b, o, e, -, hc⟩ := hr.open (by omega)
  injection e with e
  injection e with e1 e2 _
  subst e1 e2
  have c0 := hc k x hk 0 (by decide)
  simp [one1] at c0
  exact ⟨_, _, rfl, c0⟩
theorem ApC.atN2 {k g n c : Nat} {x : Value} (h : ApC en w6 w vL VL vB BL vI IL (.slice (some ⟨g, 0, none⟩) n c) NL vG GL L M) (hk : NL[k]? = some x) : w.cell? ⟨g, k, none⟩ = some x := by
  obtain ⟨g2, c2, e, h1⟩ := h.atN hk
  injection e with e _ _
  injection e with e
  injection e with e _ _
  subst e
  exact h1
theorem ApC.atG {k : Nat} {x : Value} (h : ApC en w6 w vL VL vB BL vI IL vN NL vG GL L M) (hk : GL[k]? = some x) : ∃ g c, vG = .slice (some ⟨g, 0, none⟩) GL.length c ∧ w.cell? ⟨g, k, none⟩ = some x := by
  have hl := (List.getElem?_eq_some_iff.1 hk).1
  obtain ⟨g, c, ys, rfl, _⟩ := ownS_blk h.rg (by omega)
  obtain ⟨a, c', e, -, -, hr⟩ := own_grow one1_len h.rg
  injection e with e _ _
  subst e
  obtain ⟨b, o, e, -, hc⟩ := hr.open (by omega)
  injection e with e
  injection e with e1 e2 _
  subst e1 e2
  have c0 := hc k x hk 0 (by decide)
  simp [one1] at c0
  exact ⟨_, _, rfl, c0⟩
theorem ApC.atG2 {k g n c : Nat} {x : Value} (h : ApC en w6 w vL VL vB BL vI IL vN NL (.slice (some ⟨g, 0, none⟩) n c) GL L M) (hk : GL[k]? = some x) : w.cell? ⟨g, k, none⟩ = some x := by
  obtain ⟨g2, c2, e, h1⟩ := h.atG hk
  injection e with e _ _
  injection e with e
  injection e with e _ _
  subst e
  exact h1
end
/-- []byte(s), s the string of bytes. -/
theorem conv_back (w : World) (l : List Int) (hb : Bys l) : ∃ cap w', (convert 9 34 (.string (strOfNums l))).run Tryd.prog w = .ok (.slice (some ⟨w.heap.size, 0, none⟩) l.length cap) w' ∧ l.length ≤ cap ∧ Row .u8 w' (some ⟨w.heap.size, 0, none⟩) l ∧ Below w.heap.size w w' ∧ w.heap.size < w'.heap.size := by
  have hsz : (strOfNums l).size = l.length := by simp [strOfNums, ByteArray.size]
  have h := run_bytes_of_string (P := Tryd.prog) w 9 34 5 (strOfNums l) Tryd.underlying9 Tryd.underlying34 Tryd.underlying5
  rw [hsz] at h
  refine ⟨_, _, h, ?_, .inr ⟨_, rfl, fun i hi => ?_⟩, ?_, ?_⟩
  · exact grownCap_ge w l.length 0 5
  · rw [add_none, Nat.zero_add]
    have h1 : (w.drew.alloc (.cells (bytesRow (strOfNums l) (grownCap w l.length 0 5)) 5 ((bytesRow (strOfNums l) (grownCap w l.length 0 5)).size, (bytesRow (strOfNums l) (grownCap w l.length 0 5)).size + 1))).cell? ⟨w.heap.size, i, none⟩ = _ := World.cell?_alloc_mark w.drew _ _ _ i
    rw [h1, bytesRow_at _ _ _ (by simp [strOfNums]; omega)]
    have hx := hb (l.getD i 0) (by rw [List.getD_eq_getElem?_getD, List.getElem?_eq_getElem hi]; simp)
    have : ((strOfNums l).data[i]'(by simp [strOfNums]; omega)).toNat = (l.getD i 0).toNat % 256 := by
      simp [strOfNums, List.getD_eq_getElem?_getD, List.getElem?_eq_getElem hi]
    rw [this, show (((l.getD i 0).toNat % 256 : Nat) : Int) = l.getD i 0 from by omega]
  · exact below_to ((Below.refl w.heap.size w).drew) (below1 w.drew _)
  · simp
end Go.Proofs.YtjojbfendkodgaaDoor
/- CodeApart, plain: what is written over, and made longer. -/
namespace Go.Proofs.YtjojbfendkodgaaDoor
open Go.RowKit
set_option linter.unusedVariables false

/-- The first i are written over with marks of their own. -/
def MkC (n k i : Nat) (C : List In) : Prop := C.length = n ∧ ∀ j, j < i → C[j]? = some ⟨-(k : Int) - 1, (j : Int), 0, 0⟩
def MkE (m k i : Nat) (E : List Int) : Prop := E.length = m ∧ ∀ j, j < i → E[j]? = some (-(k : Int) - 1)
def MkB (m k i : Nat) (E : List Int) : Prop := E.length = m ∧ ∀ j, j < i → E[j]? = some ((k : Int) + 1)
theorem MkC.set {n k i : Nat} {C : List In} (h : MkC n k i C) (hi : i < n) : MkC n k (i + 1) (C.set i ⟨-(k : Int) - 1, (i : Int), 0, 0⟩) := by
  refine ⟨by rw [List.length_set]; exact h.1, fun j hj => ?_⟩
  by_cases e : j = i
  · subst e; rw [List.getElem?_set_self (by rw [h.1]; exact hi)]
  · rw [List.getElem?_set_ne (fun h => e h.symm)]; exact h.2 j (by omega)
theorem MkC.app {n k : Nat} {C : List In} (h : MkC n k n C) : MkC (n + 1) k (n + 1) (C ++ [⟨-(k : Int) - 1, (n : Int), 0, 0⟩]) := by
  refine ⟨by simp [h.1], fun j hj => ?_⟩
  by_cases e : j = n
  · subst e; rw [List.getElem?_append_right (by rw [h.1]; exact Nat.le_refl _), h.1]; simp
  · rw [List.getElem?_append_left (by rw [h.1]; omega)]; exact h.2 j (by omega)
theorem MkE.set {m k i : Nat} {E : List Int} (h : MkE m k i E) (hi : i < m) : MkE m k (i + 1) (E.set i (-(k : Int) - 1)) := by
  refine ⟨by rw [List.length_set]; exact h.1, fun j hj => ?_⟩
  by_cases e : j = i
  · subst e; rw [List.getElem?_set_self (by rw [h.1]; exact hi)]
  · rw [List.getElem?_set_ne (fun h => e h.symm)]; exact h.2 j (by omega)
theorem MkE.app {m k : Nat} {E : List Int} (h : MkE m k m E) : MkE (m + 1) k (m + 1) (E ++ [-(k : Int) - 1]) := by
  refine ⟨by simp [h.1], fun j hj => ?_⟩
  by_cases e : j = m
  · subst e; rw [List.getElem?_append_right (by rw [h.1]; exact Nat.le_refl _), h.1]; simp
  · rw [List.getElem?_append_left (by rw [h.1]; omega)]; exact h.2 j (by omega)
theorem MkB.set {m k i : Nat} {E : List Int} (h : MkB m k i E) (hi : i < m) : MkB m k (i + 1) (E.set i ((k : Int) + 1)) := by
  refine ⟨by rw [List.length_set]; exact h.1, fun j hj => ?_⟩
  by_cases e : j = i
  · subst e; rw [List.getElem?_set_self (by rw [h.1]; exact hi)]
  · rw [List.getElem?_set_ne (fun h => e h.symm)]; exact h.2 j (by omega)
theorem MkB.app {m k : Nat} {E : List Int} (h : MkB m k m E) : MkB (m + 1) k (m + 1) (E ++ [(k : Int) + 1]) := by
  refine ⟨by simp [h.1], fun j hj => ?_⟩
  by_cases e : j = m
  · subst e; rw [List.getElem?_append_right (by rw [h.1]; exact Nat.le_refl _), h.1]; simp
  · rw [List.getElem?_append_left (by rw [h.1]; omega)]; exact h.2 j (by omega)
def vuP (p : Pgx) : Value × Value := (p.v, p.u)
/-- The programs while they are written over: those below k whole, number k up to i and i'. -/
def LkA (n m k i i' : Nat) (L : List Pgx) : Prop := ∀ j p, L[j]? = some p → p.v2 = .slice none 0 0 ∧ p.u2 = .slice none 0 0 ∧ p.C.length = n ∧ p.E.length = m ∧ (j < k → MkC n j n p.C ∧ MkE m j m p.E) ∧ (j = k → MkC n j i p.C ∧ MkE m j i' p.E)
def BkA (n k i : Nat) (M : List Bg) : Prop := ∀ j p, M[j]? = some p → p.v2 = .slice none 0 0 ∧ p.l.length = n ∧ (j < k → MkB n j n p.l) ∧ (j = k → MkB n j i p.l)
/-- The programs while they are made longer: those below k are. -/
def LkB (n m k : Nat) (IL NL : List Value) (L : List Pgx) : Prop := (∀ j p, L[j]? = some p → MkC n j n p.C ∧ MkE m j m p.E ∧ (k ≤ j → p.v2 = .slice none 0 0 ∧ p.u2 = .slice none 0 0) ∧ (j < k → IL[j]? = some p.v2 ∧ NL[j]? = some p.u2 ∧ MkC (n + 1) j (n + 1) p.C2 ∧ MkE (m + 1) j (m + 1) p.E2))
def BkB (n k : Nat) (GL : List Value) (M : List Bg) : Prop := (∀ j p, M[j]? = some p → MkB n j n p.l ∧ (j < k → GL[j]? = some p.v2 ∧ MkB (n + 1) j (n + 1) p.l2))
theorem vu_at {L : List Pgx} {VL : List (Value × Value)} {k : Nat} {p : Pgx} (h : L.map vuP = VL) (hk : L[k]? = some p) : VL[k]? = some (p.v, p.u) := by
  rw [← h, List.getElem?_map, hk]; rfl
theorem bv_at {M : List Bg} {BL : List Value} {k : Nat} {p : Bg} (h : M.map Bg.v = BL) (hk : M[k]? = some p) : BL[k]? = some p.v := by
  rw [← h, List.getElem?_map, hk]; rfl
theorem map_set_same {α β : Type} {f : α → β} {L : List α} {VL : List β} {k : Nat} {p p' : α} (h : L.map f = VL) (hk : L[k]? = some p) (h1 : f p' = f p) : (L.set k p').map f = VL := by
  rw [List.map_set, ← h]
  apply List.ext_getElem?
  intro j
  have hkl := (List.getElem?_eq_some_iff.1 hk).1
  by_cases e : j = k
  · subst e
    rw [List.getElem?_set_self (by rw [List.length_map]; exact hkl), List.getElem?_map, hk, h1]
    rfl
  · rw [List.getElem?_set_ne (fun h => e h.symm)]
theorem at_set {α : Type} {L : List α} {k : Nat} {p' : α} (hk : k < L.length) {j : Nat} {q : α} (h : (L.set k p')[j]? = some q) : (j = k ∧ q = p') ∨ (j ≠ k ∧ L[j]? = some q) := by
  by_cases e : j = k
  · subst e
    rw [List.getElem?_set_self hk] at h
    injection h with h
    exact .inl ⟨rfl, h.symm⟩
  · rw [List.getElem?_set_ne (fun h => e h.symm)] at h
    exact .inr ⟨e, h⟩
theorem row_get {k : IntKind} {w : World} {g i : Nat} {l : List Int} (h : Row k w (some ⟨g, 0, none⟩) l) (hi : i < l.length) : w.cell? ⟨g, i, none⟩ = some (.int k (l.getD i 0)) := by
  rcases h with ⟨h, _⟩ | ⟨x, hx, hc⟩
  · cases h
  · injection hx with hx
    subst hx
    have := hc i hi
    rw [add_none, Nat.zero_add] at this
    exact this
theorem BOwn.rowS {w : World} {B n c : Nat} {a : Option Addr} {l : List Int} (h : BOwn w B (.slice a n c) l) : Row .u8 w a l := by
  obtain ⟨a', c', e, h1, -⟩ := own_open h rfl
  injection e with e _ _
  subst e
  exact h1
def WkA (VL : List (Value × Value)) (BL : List Value) (nb nc ne k ib ic ie : Nat) (L : List Pgx) (M : List Bg) : Prop := L.length = 3 ∧ L.map vuP = VL ∧ LkA nc ne k ic ie L ∧ M.length = 3 ∧ M.map Bg.v = BL ∧ BkA nb k ib M
def WkB (VL : List (Value × Value)) (BL : List Value) (nb nc ne k : Nat) (IL NL GL : List Value) (L : List Pgx) (M : List Bg) : Prop := (IL.length = k ∧ NL.length = k ∧ GL.length = k) ∧ L.length = 3 ∧ L.map vuP = VL ∧ LkB nc ne k IL NL L ∧ M.length = 3 ∧ M.map Bg.v = BL ∧ BkB nb k GL M
section
variable {VL : List (Value × Value)} {BL : List Value} {nb nc ne k ib ic ie : Nat} {IL NL GL : List Value} {L : List Pgx} {M : List Bg}
theorem WkA.getP (h : WkA VL BL nb nc ne k ib ic ie L M) (hk : k < 3) : ∃ p, L[k]? = some p ∧ p.v2 = .slice none 0 0 ∧ p.u2 = .slice none 0 0 ∧ p.C.length = nc ∧ p.E.length = ne ∧ VL[k]? = some (p.v, p.u) := by
  obtain ⟨p, hp⟩ : ∃ p, L[k]? = some p := ⟨_, List.getElem?_eq_getElem (by rw [h.1]; exact hk)⟩
  obtain ⟨e1, e2, e3, e4, -, -⟩ := h.2.2.1 k p hp
  exact ⟨p, hp, e1, e2, e3, e4, vu_at h.2.1 hp⟩
theorem WkA.getB (h : WkA VL BL nb nc ne k ib ic ie L M) (hk : k < 3) : ∃ p, M[k]? = some p ∧ p.v2 = .slice none 0 0 ∧ p.l.length = nb ∧ BL[k]? = some p.v := by
  obtain ⟨p, hp⟩ : ∃ p, M[k]? = some p := ⟨_, List.getElem?_eq_getElem (by rw [h.2.2.2.1]; exact hk)⟩
  obtain ⟨e1, e2, -, -⟩ := h.2.2.2.2.2 k p hp
  exact ⟨p, hp, e1, e2, bv_at h.2.2.2.2.1 hp⟩
theorem WkA.setB {p : Bg} (h : WkA VL BL nb nc ne k ib ic ie L M) (hk : k < 3) (hp : M[k]? = some p) (hi : ib < nb) : WkA VL BL nb nc ne k (ib + 1) ic ie L (M.set k { p with l := p.l.set ib ((k : Int) + 1) }) :=
  ⟨h.1, h.2.1, h.2.2.1, by rw [List.length_set]; exact h.2.2.2.1, map_set_same h.2.2.2.2.1 hp rfl, fun j q hq => by
    obtain ⟨e1, e2, -, e4⟩ := h.2.2.2.2.2 k p hp
    rcases at_set (by rw [h.2.2.2.1]; exact hk) hq with ⟨rfl, rfl⟩ | ⟨hne, hq⟩
    · exact ⟨e1, by simp only [List.length_set]; exact e2, fun h => absurd h (by omega), fun _ => (e4 rfl).set hi⟩
    · obtain ⟨f1, f2, f3, f4⟩ := h.2.2.2.2.2 j q hq
      exact ⟨f1, f2, f3, fun h => absurd h hne⟩⟩
theorem WkA.setC {p : Pgx} (h : WkA VL BL nb nc ne k ib ic ie L M) (hk : k < 3) (hp : L[k]? = some p) (hi : ic < nc) : WkA VL BL nb nc ne k ib (ic + 1) ie (L.set k { p with C := p.C.set ic ⟨-(k : Int) - 1, (ic : Int), 0, 0⟩ }) M :=
  ⟨by rw [List.length_set]; exact h.1, map_set_same h.2.1 hp rfl, fun j q hq => by
    obtain ⟨e1, e2, e3, e4, -, e6⟩ := h.2.2.1 k p hp
    rcases at_set (by rw [h.1]; exact hk) hq with ⟨rfl, rfl⟩ | ⟨hne, hq⟩
    · exact ⟨e1, e2, by simp only [List.length_set]; exact e3, e4, fun h => absurd h (by omega), fun _ => ⟨(e6 rfl).1.set hi, (e6 rfl).2⟩⟩
    · obtain ⟨f1, f2, f3, f4, f5, f6⟩ := h.2.2.1 j q hq
      exact ⟨f1, f2, f3, f4, f5, fun h => absurd h hne⟩, h.2.2.2⟩
theorem WkA.setE {p : Pgx} (h : WkA VL BL nb nc ne k ib ic ie L M) (hk : k < 3) (hp : L[k]? = some p) (hi : ie < ne) : WkA VL BL nb nc ne k ib ic (ie + 1) (L.set k { p with E := p.E.set ie (-(k : Int) - 1) }) M :=
  ⟨by rw [List.length_set]; exact h.1, map_set_same h.2.1 hp rfl, fun j q hq => by
    obtain ⟨e1, e2, e3, e4, -, e6⟩ := h.2.2.1 k p hp
    rcases at_set (by rw [h.1]; exact hk) hq with ⟨rfl, rfl⟩ | ⟨hne, hq⟩
    · exact ⟨e1, e2, e3, by simp only [List.length_set]; exact e4, fun h => absurd h (by omega), fun _ => ⟨(e6 rfl).1, (e6 rfl).2.set hi⟩⟩
    · obtain ⟨f1, f2, f3, f4, f5, f6⟩ := h.2.2.1 j q hq
      exact ⟨f1, f2, f3, f4, f5, fun h => absurd h hne⟩, h.2.2.2⟩
theorem WkA.next (h : WkA VL BL nb nc ne k nb nc ne L M) : WkA VL BL nb nc ne (k + 1) 0 0 0 L M :=
  ⟨h.1, h.2.1, fun j q hq => by
    obtain ⟨f1, f2, f3, f4, f5, f6⟩ := h.2.2.1 j q hq
    refine ⟨f1, f2, f3, f4, fun h => ?_, fun h => ⟨⟨f3, fun i hi => absurd hi (by omega)⟩, ⟨f4, fun i hi => absurd hi (by omega)⟩⟩⟩
    by_cases hj : j = k
    · exact f6 hj
    · exact f5 (by omega), h.2.2.2.1, h.2.2.2.2.1, fun j q hq => by
    obtain ⟨f1, f2, f3, f4⟩ := h.2.2.2.2.2 j q hq
    refine ⟨f1, f2, fun h => ?_, fun h => ⟨f2, fun i hi => absurd hi (by omega)⟩⟩
    by_cases hj : j = k
    · exact f4 hj
    · exact f3 (by omega)⟩
theorem WkA.start (h1 : L.length = 3) (h2 : L.map vuP = VL) (h3 : M.length = 3) (h4 : M.map Bg.v = BL) (hL : ∀ p ∈ L, p.C.length = nc ∧ p.E.length = ne ∧ p.v2 = .slice none 0 0 ∧ p.u2 = .slice none 0 0) (hM : ∀ p ∈ M, p.l.length = nb ∧ p.v2 = .slice none 0 0) : WkA VL BL nb nc ne 0 0 0 0 L M :=
  ⟨h1, h2, fun j p hp => by
    obtain ⟨e1, e2, e3, e4⟩ := hL p (List.mem_of_getElem? hp)
    exact ⟨e3, e4, e1, e2, fun h => absurd h (by omega), fun h => ⟨⟨e1, fun j hj => absurd hj (by omega)⟩, ⟨e2, fun j hj => absurd hj (by omega)⟩⟩⟩, h3, h4, fun j p hp => by
    obtain ⟨e1, e2⟩ := hM p (List.mem_of_getElem? hp)
    exact ⟨e2, e1, fun h => absurd h (by omega), fun h => ⟨e1, fun j hj => absurd hj (by omega)⟩⟩⟩
theorem WkA.done (h : WkA VL BL nb nc ne k ib ic ie L M) (hk : 3 ≤ k) : WkB VL BL nb nc ne 0 [] [] [] L M :=
  ⟨⟨rfl, rfl, rfl⟩, h.1, h.2.1, fun j p hp => by
    obtain ⟨f1, f2, f3, f4, f5, f6⟩ := h.2.2.1 j p hp
    have hj : j < k := by have := (List.getElem?_eq_some_iff.1 hp).1; rw [h.1] at this; omega
    exact ⟨(f5 hj).1, (f5 hj).2, fun _ => ⟨f1, f2⟩, fun h => absurd h (by omega)⟩, h.2.2.2.1, h.2.2.2.2.1, fun j p hp => by
    obtain ⟨f1, f2, f3, f4⟩ := h.2.2.2.2.2 j p hp
    have hj : j < k := by have := (List.getElem?_eq_some_iff.1 hp).1; rw [h.2.2.2.1] at this; omega
    exact ⟨f3 hj, fun h => absurd h (by omega)⟩⟩
theorem WkB.next {p p1 : Pgx} {b : Bg} {vb vi vn : Value} {lb : List Int} {C2 : List In} {E2 : List Int} (h : WkB VL BL nb nc ne k IL NL GL L M) (hk : k < 3) (hp : L[k]? = some p) (hb : M[k]? = some b) (h1 : p1 = { p with v2 := vi, C2 := C2 }) (hl : lb = b.l ++ [(k : Int) + 1]) (hC : C2 = p.C ++ [⟨-(k : Int) - 1, (nc : Int), 0, 0⟩]) (hE : E2 = p.E ++ [-(k : Int) - 1]) :
    WkB VL BL nb nc ne (k + 1) (IL ++ [vi]) (NL ++ [vn]) (GL ++ [vb]) ((L.set k p1).set k { p1 with E := p.E, u2 := vn, E2 := E2 }) (M.set k { b with v2 := vb, l2 := lb }) := by
  subst h1 hl hC hE
  obtain ⟨⟨i1, i2, i3⟩, l1, l2, l3, m1, m2, m3⟩ := h
  have hkL : k < L.length := by rw [l1]; exact hk
  have hkM : k < M.length := by rw [m1]; exact hk
  have hL1 : (L.set k { p with v2 := vi, C2 := p.C ++ [⟨-(k : Int) - 1, (nc : Int), 0, 0⟩] })[k]? = some { p with v2 := vi, C2 := p.C ++ [⟨-(k : Int) - 1, (nc : Int), 0, 0⟩] } := by rw [List.getElem?_set_self hkL]
  refine ⟨⟨by simp [i1], by simp [i2], by simp [i3]⟩, by rw [List.length_set, List.length_set]; exact l1, map_set_same (map_set_same l2 hp rfl) hL1 rfl, ?_, by rw [List.length_set]; exact m1, map_set_same m2 hb rfl, ?_⟩
  · intro j q hq
    obtain ⟨a1, a2, -, -⟩ := l3 k p hp
    rcases at_set (by rw [List.length_set]; exact hkL) hq with ⟨rfl, rfl⟩ | ⟨hne, hq⟩
    · refine ⟨a1, a2, fun h => absurd h (by omega), fun _ => ⟨?_, ?_, a1.app, a2.app⟩⟩
      · rw [List.getElem?_append_right (by rw [i1]; exact Nat.le_refl _), i1]; simp
      · rw [List.getElem?_append_right (by rw [i2]; exact Nat.le_refl _), i2]; simp
    · rcases at_set hkL hq with ⟨h, _⟩ | ⟨_, hq⟩
      · exact absurd h hne
      · obtain ⟨n1, n2, n3', n4⟩ := l3 j q hq
        refine ⟨n1, n2, fun h => n3' (by omega), fun h => ?_⟩
        obtain ⟨z1, z2, z3, z4⟩ := n4 (by omega)
        exact ⟨by rw [List.getElem?_append_left (by rw [i1]; omega)]; exact z1, by rw [List.getElem?_append_left (by rw [i2]; omega)]; exact z2, z3, z4⟩
  · intro j q hq
    obtain ⟨a1, -⟩ := m3 k b hb
    rcases at_set hkM hq with ⟨rfl, rfl⟩ | ⟨hne, hq⟩
    · refine ⟨a1, fun _ => ⟨?_, a1.app⟩⟩
      rw [List.getElem?_append_right (by rw [i3]; exact Nat.le_refl _), i3]; simp
    · obtain ⟨n1, n2⟩ := m3 j q hq
      refine ⟨n1, fun h => ?_⟩
      obtain ⟨z1, z2⟩ := n2 (by omega)
      exact ⟨by rw [List.getElem?_append_left (by rw [i3]; omega)]; exact z1, z2⟩
end
end Go.Proofs.YtjojbfendkodgaaDoor
/- CodeApart: its walk. -/
namespace Go.Proofs.YtjojbfendkodgaaDoor
open Go.RowKit
set_option linter.unusedVariables false

set_option maxRecDepth 100000 in
set_option maxHeartbeats 16000000 in
theorem apart_any (enc : Bool) (ac ae : Option Addr) (cc ce : Nat) (C0 : List In) (E0 : List Int) (w : World) (hCl : C0.length ≤ 4398046511104) (hel : E0.length ≤ 17592186044415) (hcn : ac = none → cc = 0) (hen : ae = none → ce = 0) (hr : Hid (IRow w ac C0)) (he : Hid (Row .i64 w ae E0)) (HT : Hid (TabB w.heap.size w)) :
    Calls Tryd.prog 6 #[.agg #[.bool enc, .slice ac C0.length cc, .slice ae E0.length ce]] w fun e w' => e = .returned (.bool true) ∧ Below w.heap.size w w' := by
  obtain ⟨w1, hw1⟩ : ∃ wx, wx = w.alloc (.cells #[.bool enc, .slice ac C0.length cc, .slice ae E0.length ce] 26) := ⟨_, rfl⟩
  have hB1 : Below w.heap.size w w1 := by rw [hw1]; exact below1 _ _
  have KP1 : Hid (Blk w1 w.heap.size 26 [.bool enc, .slice ac C0.length cc, .slice ae E0.length ce]) := hide_ (by rw [hw1]; exact Blk.newA w _ _)
  have HAw := hide_ (awake_any w1 (hide_ (HT.out.at hB1)))
  have HB1 := hide_ hB1
  clear hB1
  go_enter Tryd.func6, Tryd.ntmps6
  go_upto_region 1 with fail
  rw [← hw1]
  clear hw1
  go_upto_region 3 with (go_at_call 9; refine HAw.out.mono ?_; rintro e w2 ⟨rfl, hB2⟩)
  have HB2 := hide_ (below_to HB1.out hB2)
  have KP2 := hide_ (KP1.out.later hB2)
  have HMd := hide_ (rmade_any enc ac ae cc ce C0 E0 40 w2 (by omega) hCl hel hcn hen (hide_ (hr.out.later HB2.out)) (hide_ (he.out.later HB2.out)))
  have p0 := KP2.out.cell 0; have p1 := KP2.out.cell 1; have p2 := KP2.out.cell 2
  simp at p0 p1 p2
  clear hB2 HAw HB1 KP1
  go_wp2_with fail
  refine HMd.out.mono ?_
  intro e w3 hmt
  obtain ⟨gC, cC, gE, cE, C, E, rfl, hpo, -, hB3⟩ := made_open hmt
  clear hmt
  have KP3 := hide_ (KP2.out.later hB3)
  have q0 := KP3.out.cell 0; have q1 := KP3.out.cell 1; have q2 := KP3.out.cell 2
  have qf := fun i => KP3.out.frozen i
  simp at q0 q1 q2
  obtain ⟨w4, hw4⟩ : ∃ wx, wx = ((w3.setCell ⟨w.heap.size, 0, none⟩ (.bool enc)).setCell ⟨w.heap.size, 1, none⟩ (.slice (some ⟨gC, 0, none⟩) C.length cC)).setCell ⟨w.heap.size, 2, none⟩ (.slice (some ⟨gE, 0, none⟩) E.length cE) := ⟨_, rfl⟩
  have KP4 : Hid (Blk w4 w.heap.size 26 [.bool enc, .slice (some ⟨gC, 0, none⟩) C.length cC, .slice (some ⟨gE, 0, none⟩) E.length cE]) := hide_ (by rw [hw4]; exact setP KP3.out _ _ _)
  have hU4 : Upd (fun k => k = w.heap.size) w3 w4 := by rw [hw4]; exact upd3 _ _ _ _ _
  have HPO : Hid (PrO w4 w2.heap.size enc gC cC gE cE C E) := hide_ (hpo.upd (S := fun _ => False) KP3.out hU4)
  have HB4 : Hid (Below w.heap.size w w4) := hide_ ((below_to HB2.out hB3).trans (hU4.below _ (below_to HB2.out hB3).size (fun k hk => by omega)))
  clear hU4 hpo hB3 HMd p0 p1 p2 KP2
  go_upto_region 4 with fail
  rw [← hw4]
  clear hw4 q0 q1 q2 qf KP3
  have p0 := KP4.out.cell 0; have p1 := KP4.out.cell 1; have p2 := KP4.out.cell 2
  simp at p0 p1 p2
  have hl2 := encP_pos enc C E
  have hl6 := chk_lim HPO.out.k
  obtain ⟨d1, d2, d3, d4⟩ := dec_enc HPO.out.k
  have HBy := hide_ (encB_bys enc C E)
  have HEA : Hid (∀ w', Below w4.heap.size w4 w' → Calls Tryd.prog 12 #[.agg #[.bool enc, .slice (some ⟨gC, 0, none⟩) C.length cC, .slice (some ⟨gE, 0, none⟩) E.length cE]] w' fun e w'' => (∃ v, e = .returned (.tuple #[v, .agg #[.int .i64 0, .int .i64 0]]) ∧ Hid (BOwn w'' w'.heap.size v (encP enc C E))) ∧ Below w'.heap.size w' w'') := hide_ (fun w' hb => (HPO.out.later hb).encode)
  have HDA : Hid (∀ (w' : World) (g cap : Nat), Row .u8 w' (some ⟨g, 0, none⟩) (encP enc C E) → (encP enc C E).length ≤ cap → g < w'.heap.size → Calls Tryd.prog 13 #[.slice (some ⟨g, 0, none⟩) (encP enc C E).length cap] w' fun e w'' => ∃ vX vN, e = .returned (.tuple #[.agg #[.bool enc, vX, vN], .agg #[.int .i64 0, .int .i64 0]]) ∧ Hid (COwn w'' w'.heap.size vX C) ∧ Hid (IOwn w'' w'.heap.size vN E) ∧ Below w'.heap.size w' w'') := hide_ (fun w' g cap hr hc hg => by
    have h := decode_any (some ⟨g, 0, none⟩) cap (encP enc C E) w' hc (by omega) (fun h => by cases h) HBy (hide_ hr) (hide_ (fun x hx _ => by injection hx with hx; subst hx; exact hg))
    rw [d1, d2, d3, d4] at h
    exact h)
  have HQA : Hid (∀ w' a b c d, Below w4.heap.size w4 w' → IRow w' a C → Row .i64 w' b E → Calls Tryd.prog 17 #[.agg #[.bool enc, .slice a C.length c, .slice b E.length d], .agg #[.bool enc, .slice (some ⟨gC, 0, none⟩) C.length cC, .slice (some ⟨gE, 0, none⟩) E.length cE]] w' fun e w'' => e = .returned (.bool true) ∧ Below w'.heap.size w' w'') := hide_ (fun w' a b c d hb h1 h2 => by
    have k := HPO.out.k; have k1 := k.nc; have k2 := k.ne
    have h := requal_any enc enc a (some ⟨gC, 0, none⟩) b (some ⟨gE, 0, none⟩) c cC d cE C C E E w' (by omega) (by omega) (by omega) (by omega) (hide_ h1) (hide_ (HPO.out.later hb).crow.1) (hide_ h2) (hide_ (HPO.out.later hb).erow.1)
    rw [eqP_iff.2 ⟨rfl, rfl, rfl⟩] at h
    exact h)
  have HCn : Hid (C.length ≤ 100000000 ∧ E.length ≤ 100000000) := hide_ (by have k := HPO.out.k; have k1 := k.nc; have k2 := k.ne; omega)
  have HC0 := hide_ (And.intro HPO.out.c0 HPO.out.e0)
  have HCB : Hid (∀ w : World, ∃ cap w', (convert 9 34 (.string (strOfNums (encP enc C E)))).run Tryd.prog w = .ok (.slice (some ⟨w.heap.size, 0, none⟩) (encP enc C E).length cap) w' ∧ (encP enc C E).length ≤ cap ∧ Row .u8 w' (some ⟨w.heap.size, 0, none⟩) (encP enc C E) ∧ Below w.heap.size w w' ∧ w.heap.size < w'.heap.size) := hide_ (fun w => conv_back w _ HBy.out)
  have HCv : Hid (∀ (w' : World) (g c : Nat), Row .u8 w' (some ⟨g, 0, none⟩) (encP enc C E) → (convert 34 9 (.slice (some ⟨g, 0, none⟩) (encP enc C E).length c)).run Tryd.prog w' = .ok (.string (strOfNums (encP enc C E))) w') := hide_ (fun w' g c h => conv_row elU8 Tryd.underlying9 w' (some ⟨g, 0, none⟩) _ c _ rfl h)
  generalize encP enc C E = lc at *
  generalize strOfNums lc = st at *
  clear d1 d2 d3 d4 HBy
  go_wp2_with fail
  refine (HEA.out _ (Below.refl _ _)).mono ?_
  rintro e w5 ⟨⟨vb, rfl, HOb⟩, hB5⟩
  obtain ⟨gb, cb5, rfl, hrb, -, -, -, -⟩ := bown_open HOb.out (by omega)
  obtain ⟨w6, hw6⟩ : ∃ wx, wx = w5.alloc (.cells #[.int .i64 0, .int .i64 0] 32) := ⟨_, rfl⟩
  have hB6 : Below w5.heap.size w5 w6 := by rw [hw6]; exact below1 _ _
  have kA : Blk w6 w5.heap.size 32 [.int .i64 0, .int .i64 0] := by rw [hw6]; exact Blk.newA w5 _ _
  have a0 := kA.cell 0
  simp at a0
  have cv := HCv.out w6 gb cb5 (Row.later hrb hB6)
  have HB46 := hide_ (below_to hB5 hB6)
  have HB6 := hide_ (below_to HB4.out HB46.out)
  have KS := hide_ (KP4.out.later HB46.out)
  have HE6 : Hid (∀ w', Below w6.heap.size w6 w' → Calls Tryd.prog 12 #[.agg #[.bool enc, .slice (some ⟨gC, 0, none⟩) C.length cC, .slice (some ⟨gE, 0, none⟩) E.length cE]] w' fun e w'' => (∃ v, e = .returned (.tuple #[v, .agg #[.int .i64 0, .int .i64 0]]) ∧ Hid (BOwn w'' w'.heap.size v lc)) ∧ Below w'.heap.size w' w'') := hide_ (fun w' hb => HEA.out w' (below_to HB46.out hb))
  have HQ6 : Hid (∀ w' a b c d, Below w6.heap.size w6 w' → IRow w' a C → Row .i64 w' b E → Calls Tryd.prog 17 #[.agg #[.bool enc, .slice a C.length c, .slice b E.length d], .agg #[.bool enc, .slice (some ⟨gC, 0, none⟩) C.length cC, .slice (some ⟨gE, 0, none⟩) E.length cE]] w' fun e w'' => e = .returned (.bool true) ∧ Below w'.heap.size w' w'') := hide_ (fun w' a b c d hb h1 h2 => HQA.out w' a b c d (below_to HB46.out hb) h1 h2)
  have HNu := hide_ (fun n w' => num_any n w')
  clear hB5 hB6 HOb hrb kA p0 p1 p2 HEA HQA HPO KP4 HB4 HB46
  go_upto_region 5 with fail
  rw [← hw6]
  clear hw6
  have HS0 : Hid (ApC enc w6 w6 (.slice none 0 0) [] (.slice none 0 0) [] (.slice none 0 0) [] (.slice none 0 0) [] (.slice none 0 0) [] [] []) := hide_ (ApC.nil enc w6)
  obtain ⟨gP, hgP⟩ : ∃ g, g = w.heap.size := ⟨_, rfl⟩
  rw [← hgP] at KS ⊢
  have HgP := hide_ hgP
  clear hgP
  go_upto_region 11 with (go_at_call 16; refine (HNu.out _ _).mono ?_; rintro e w' ⟨rfl, rfl⟩)
  clear a0 cv
  go_loopw [6, 7, 8] (fun x6 x7 x8 wr => ∃ (i : Nat) (vL vB : Value) (VL : List (Value × Value)) (BL : List Value) (L : List Pgx) (M : List Bg), i ≤ 3 ∧ x8 = .int .i64 (i : Int) ∧ vL = x7 ∧ vB = x6 ∧ Hid ((L.length = i ∧ L.map vuP = VL ∧ M.length = i ∧ M.map Bg.v = BL) ∧ (∀ p ∈ L, p.C = C ∧ p.E = E ∧ p.v2 = .slice none 0 0 ∧ p.u2 = .slice none 0 0) ∧ ∀ p ∈ M, p.l = lc ∧ p.v2 = .slice none 0 0) ∧ Hid (ApC enc w6 wr vL VL vB BL (.slice none 0 0) [] (.slice none 0 0) [] (.slice none 0 0) [] L M)) (fun _ _ x8 _ => 3 - (intOf x8).toNat)
  case atStart => exact ⟨0, _, _, [], [], [], [], by omega, rfl, rfl, rfl, hide_ ⟨⟨rfl, rfl, rfl, rfl⟩, fun p hp => (by cases hp), fun p hp => (by cases hp)⟩, HS0⟩
  case round =>
    obtain ⟨i, vL, vB, VL, BL, L, M, hi, rfl, rfl, rfl, HLk, HS⟩ := hrel
    generalize wr = wq at *
    clear HS0
    by_cases hlt : i < 3
    · have hlt' : (i : Int) < 3 := by omega
      have s0 := (KS.out.later HS.out.bel).cell 0; have s1 := (KS.out.later HS.out.bel).cell 1; have s2 := (KS.out.later HS.out.bel).cell 2
      simp at s0 s1 s2
      go_wp2_with fail
      refine (HE6.out _ HS.out.bel).mono ?_
      rintro e w7 ⟨⟨vb7, rfl, HO7⟩, hB7⟩
      obtain ⟨g7, c7, hv7, -⟩ := bown_open HO7.out (by omega)
      subst hv7
      obtain ⟨w8, hw8⟩ : ∃ wx, wx = w7.alloc (.cells #[.int .i64 0, .int .i64 0] 32) := ⟨_, rfl⟩
      have hB8 : Below w7.heap.size w7 w8 := by rw [hw8]; exact below1 _ _
      have k8 : Blk w8 w7.heap.size 32 [.int .i64 0, .int .i64 0] := by rw [hw8]; exact Blk.newA w7 _ _
      obtain ⟨c9, w9, hcv9, hlc9, hr9, hB9, hg9⟩ := HCB.out w8
      have HHB8 := hide_ (And.intro hB7 (And.intro hB8 (And.intro hB9 (And.intro hlc9 (And.intro hr9 hg9)))))
      have HK8 := hide_ k8
      clear s0 s1 s2 hB7 hB8 hB9 hlc9 hr9 hg9 k8
      go_upto_region 14 with fail
      rw [← hw8]
      clear hw8
      go_wp2_with fail
      refine (HDA.out _ _ _ HHB8.out.2.2.2.2.1 HHB8.out.2.2.2.1 HHB8.out.2.2.2.2.2).mono ?_
      clear hcv9
      rintro e w10 ⟨vX, vN, rfl, HoX, HoN, hB10⟩
      obtain ⟨hB7, hB8, hB9, -⟩ := HHB8.out
      obtain ⟨aX, cX, rfl, -, -, -⟩ := HoX.out.row
      obtain ⟨aN, cN, rfl, -, -, -⟩ := HoN.out.row
      obtain ⟨w11, hw11⟩ : ∃ wx, wx = (w10.alloc (.cells #[.bool enc, .slice aX C.length cX, .slice aN E.length cN] 26)).alloc (.cells #[.int .i64 0, .int .i64 0] 32) := ⟨_, rfl⟩
      have hB11 : Below w10.heap.size w10 w11 := by rw [hw11]; exact below2 _ _ _
      obtain ⟨kR, kF⟩ := blk2 w10 #[.bool enc, .slice aX C.length cX, .slice aN E.length cN] #[.int .i64 0, .int .i64 0] 26 32
      rw [← hw11] at kR kF
      have hSb := HS.out.addB (below_to (below_to hB7 hB8) hB9) (ownS_upd HO7.out (Upd.of_below (S := fun _ => False) (below_to hB8 hB9)) (fun _ _ h => h))
      have hSp := hSb.addP (below_to hB10 hB11) (HoX.out.later hB11) (HoN.out.later hB11)
      have hvl : VL.length = i := by rw [← HLk.out.1.2.1, List.length_map]; exact HLk.out.1.1
      have hbl : BL.length = i := by rw [← HLk.out.1.2.2.2, List.length_map]; exact HLk.out.1.2.2.1
      obtain ⟨gB, cB, wB, hr1, hSB, hUB⟩ := hSp.pushB (a := some ⟨g7, 0, none⟩) (n := lc.length) (c := c7) rfl (by omega)
      obtain ⟨gL, cL, wL, hr2, hSL, -⟩ := hSB.pushL (a := aX) (b := aN) (n := C.length) (m := E.length) (c := cX) (d := cN) (by omega)
      have kRB := kR.upd hUB (fun e => by obtain ⟨ys, hy⟩ := ownS_type hSp.rb e; exact absurd (blk_type kR hy) (by decide))
      have a0 := (HK8.out.later (below_to hB9 (below_to hB10 hB11))).cell 0
      have f0 := kF.cell 0
      have p0 := kRB.cell 0; have p1 := kRB.cell 1; have p2 := kRB.cell 2
      simp at a0 f0 p0 p1 p2
      obtain ⟨av, cv, hav, -, -, -⟩ := own_grow (prx_len enc) HS.out.row
      obtain ⟨ab, cb, hab, -, -, -⟩ := own_grow one1_len HS.out.rb
      subst hav hab
      have HR1 := hide_ hr1
      have HR2 := hide_ hr2
      have HSn := hide_ hSL
      have HLn : Hid (((L ++ [(⟨.slice aX C.length cX, .slice aN E.length cN, C, E, .slice none 0 0, .slice none 0 0, [], []⟩ : Pgx)]).length = i + 1 ∧ (L ++ [(⟨.slice aX C.length cX, .slice aN E.length cN, C, E, .slice none 0 0, .slice none 0 0, [], []⟩ : Pgx)]).map vuP = VL ++ [(.slice aX C.length cX, .slice aN E.length cN)] ∧ (M ++ [(⟨.slice (some ⟨g7, 0, none⟩) lc.length c7, lc, .slice none 0 0, []⟩ : Bg)]).length = i + 1 ∧ (M ++ [(⟨.slice (some ⟨g7, 0, none⟩) lc.length c7, lc, .slice none 0 0, []⟩ : Bg)]).map Bg.v = BL ++ [.slice (some ⟨g7, 0, none⟩) lc.length c7]) ∧ (∀ p ∈ L ++ [(⟨.slice aX C.length cX, .slice aN E.length cN, C, E, .slice none 0 0, .slice none 0 0, [], []⟩ : Pgx)], p.C = C ∧ p.E = E ∧ p.v2 = .slice none 0 0 ∧ p.u2 = .slice none 0 0) ∧ ∀ p ∈ M ++ [(⟨.slice (some ⟨g7, 0, none⟩) lc.length c7, lc, .slice none 0 0, []⟩ : Bg)], p.l = lc ∧ p.v2 = .slice none 0 0) := hide_ (by
        refine ⟨⟨by simp [HLk.out.1.1], by rw [List.map_append, HLk.out.1.2.1]; rfl, by simp [HLk.out.1.2.2.1], by rw [List.map_append, HLk.out.1.2.2.2]; rfl⟩, fun p hp => ?_, fun p hp => ?_⟩
        · rcases List.mem_append.1 hp with hp | hp
          · exact HLk.out.2.1 p hp
          · simp only [List.mem_singleton] at hp
            subst hp
            exact ⟨rfl, rfl, rfl, rfl⟩
        · rcases List.mem_append.1 hp with hp | hp
          · exact HLk.out.2.2 p hp
          · simp only [List.mem_singleton] at hp
            subst hp
            exact ⟨rfl, rfl⟩)
      clear hB7 hB8 hB9 hB10 hB11 kR kF hSb hSp hvl hbl hr1 hSB hUB hr2 hSL kRB HoX HoN HO7 HS HLk HHB8 HK8
      go_upto_region 15 with fail
      rw [← hw11]
      clear hw11
      go_wp2_with (first
        | (go_at_call 16; refine (HNu.out _ _).mono ?_; rintro e w' ⟨rfl, rfl⟩)
        | (at_builtin; have _t := HR1; refine wpList_append_run rfl (.tmp 68) (.tmp 70) 43 43 rfl rfl rfl HR1.out ?_; clear HR1 a0 f0)
        | (at_builtin; have _t := HR2; refine wpList_append_run rfl (.tmp 72) (.tmp 74) 44 44 rfl rfl rfl HR2.out ?_; clear HR2 p0 p1 p2))
      go_roundw
      case rel => exact ⟨i + 1, _, _, _, _, _, _, by omega, by go_num, rfl, rfl, HLn, HSn⟩
      case measure => simp [intOf]; omega
    · have Hi3 : Hid (i = 3) := hide_ (by omega)
      have hni : ¬ (i : Int) < 3 := by omega
      clear hlt hi
      go_upto_region 20 with fail
      go_loopw [13] (fun x13 wr => ∃ (k : Nat), k ≤ 3 ∧ x13 = .int .i64 (k : Int) ∧ Hid (Below wq.heap.size wq wr)) (fun x13 _ => 3 - (intOf x13).toNat)
      case atStart => exact ⟨0, by omega, rfl, hide_ (Below.refl _ _)⟩
      case round =>
        obtain ⟨k, hk, rfl, HBz⟩ := hrel
        generalize wr = wz at *
        have HSz := hide_ (HS.out.later HBz.out)
        by_cases hlt : k < 3
        · have hlt' : (k : Int) < 3 := by omega
          obtain ⟨p, hp⟩ : ∃ p, L[k]? = some p := ⟨_, List.getElem?_eq_getElem (by rw [HLk.out.1.1, Hi3.out]; exact hlt)⟩
          obtain ⟨b, hb⟩ : ∃ b, M[k]? = some b := ⟨_, List.getElem?_eq_getElem (by rw [HLk.out.1.2.2.1, Hi3.out]; exact hlt)⟩
          have hpm := List.mem_of_getElem? hp
          have hbm := List.mem_of_getElem? hb
          obtain ⟨e1, e2, -, -⟩ := HLk.out.2.1 p hpm
          obtain ⟨e3, -⟩ := HLk.out.2.2 b hbm
          obtain ⟨o1, o2, -, -⟩ := HSz.out.all.ok p hpm
          obtain ⟨o3, -⟩ := HSz.out.ball.ok b hbm
          rw [e1] at o1
          rw [e2] at o2
          rw [e3] at o3
          obtain ⟨a, c, hv, -, -, hra⟩ := o1.row
          obtain ⟨a2, d, hu, hrb, -, -⟩ := o2.row
          obtain ⟨gy, cy, hy, hry, -⟩ := bown_open o3 (by omega)
          have hvk := vu_at HLk.out.1.2.1 hp
          rw [hv, hu] at hvk
          have hbk := bv_at HLk.out.1.2.2.2 hb
          rw [hy] at hbk
          obtain ⟨gl, cl, rfl, -⟩ := HSz.out.atL hvk
          obtain ⟨gm, cm, rfl, -⟩ := HSz.out.atB hbk
          have hvl : VL.length = i := by rw [← HLk.out.1.2.1, List.length_map]; exact HLk.out.1.1
          have hbl : BL.length = i := by rw [← HLk.out.1.2.2.2, List.length_map]; exact HLk.out.1.2.2.1
          have HEk := hide_ (HQ6.out wz.drew a a2 c d (HSz.out.bel.drew) (hra.later ((Below.refl _ _).drew)) (hrb.later ((Below.refl _ _).drew)))
          have HSS : Hid (∀ w', Below wz.heap.size wz w' → (fun w' => w'.cell? ⟨gm, k, none⟩ = some (.slice (some ⟨gy, 0, none⟩) lc.length cy) ∧ (convert 34 9 (.slice (some ⟨gy, 0, none⟩) lc.length cy)).run Tryd.prog w' = .ok (.string st) w' ∧ w'.cell? ⟨gl, k * 3, none⟩ = some (.bool enc) ∧ w'.cell? ⟨gl, k * 3 + 1, none⟩ = some (.slice a C.length c) ∧ w'.cell? ⟨gl, k * 3 + 2, none⟩ = some (.slice a2 E.length d) ∧ w'.cell? ⟨gP, 0, none⟩ = some (.bool enc) ∧ w'.cell? ⟨gP, 1, none⟩ = some (.slice (some ⟨gC, 0, none⟩) C.length cC) ∧ w'.cell? ⟨gP, 2, none⟩ = some (.slice (some ⟨gE, 0, none⟩) E.length cE)) w') := hide_ (fun w' hb => by
            obtain ⟨y0, y1, y2⟩ := (HSz.out.later hb).atL2 hvk
            exact ⟨(HSz.out.later hb).atB2 hbk, HCv.out w' gy cy (hry.later hb), y0, y1, y2, (KS.out.later (below_to HSz.out.bel hb)).cell 0, (KS.out.later (below_to HSz.out.bel hb)).cell 1, (KS.out.later (below_to HSz.out.bel hb)).cell 2⟩)
          clear hp hb hpm hbm e1 e2 e3 o1 o2 o3 hv hu hy hra hrb hry hvk hbk HSz
          rw [hvl, hbl]
          clear hvl hbl
          have hk3 : (k : Int) < (i : Int) := by rw [Hi3.out]; exact hlt'
          go_upto_region 22 with fail
          refine wp_region_held_drew (S := (fun w' => w'.cell? ⟨gm, k, none⟩ = some (.slice (some ⟨gy, 0, none⟩) lc.length cy) ∧ (convert 34 9 (.slice (some ⟨gy, 0, none⟩) lc.length cy)).run Tryd.prog w' = .ok (.string st) w' ∧ w'.cell? ⟨gl, k * 3, none⟩ = some (.bool enc) ∧ w'.cell? ⟨gl, k * 3 + 1, none⟩ = some (.slice a C.length c) ∧ w'.cell? ⟨gl, k * 3 + 2, none⟩ = some (.slice a2 E.length d) ∧ w'.cell? ⟨gP, 0, none⟩ = some (.bool enc) ∧ w'.cell? ⟨gP, 1, none⟩ = some (.slice (some ⟨gC, 0, none⟩) C.length cC) ∧ w'.cell? ⟨gP, 2, none⟩ = some (.slice (some ⟨gE, 0, none⟩) E.length cE))) (by kernel_rfl) (HSS.out _ ((Below.refl wz.heap.size wz).drew)) (fun hHeld => ?_)
          refine wpAnyH_take (i := 0) (v := ?vg1) rfl (by kernel_rfl) (by kernel_rfl) (by kernel_rfl) (fun _ _ _ h => h) (Or.inl ⟨by kernel_rfl, ?hyg1⟩) hHeld ?restg1
          case hyg1 => intro w' hSw; (try dsimp only at hSw); go_simp; try with_reducible rfl
          simp only [Act.put]
          refine wpAnyH_take (i := 1) (v := ?vg2) rfl (by kernel_rfl) (by kernel_rfl) (by kernel_rfl) (fun _ _ _ h => h) (Or.inl ⟨by kernel_rfl, ?hyg2⟩) hHeld ?restg2
          case hyg2 => intro w' hSw; (try dsimp only at hSw); go_simp; try with_reducible rfl
          simp only [Act.put]
          refine wpAnyH_take (i := 2) (v := ?vg3) rfl (by kernel_rfl) (by kernel_rfl) (by kernel_rfl) (fun _ _ _ h => h) (Or.inl ⟨by kernel_rfl, ?hyg3⟩) hHeld ?restg3
          case hyg3 => intro w' hSw; (try dsimp only at hSw); go_simp; try with_reducible rfl
          simp only [Act.put]
          refine wpAnyH_take (i := 3) (v := ?vg4) rfl (by kernel_rfl) (by kernel_rfl) (by kernel_rfl) (fun _ _ _ h => h) (Or.inl ⟨by kernel_rfl, ?hyg4⟩) hHeld ?restg4
          case hyg4 => intro w' hSw; (try dsimp only at hSw); go_simp; try with_reducible rfl
          simp only [Act.put]
          refine wpAnyH_take (i := 5) (v := ?vg5) rfl (by kernel_rfl) (by kernel_rfl) (by kernel_rfl) (fun _ _ _ h => h) (Or.inl ⟨by kernel_rfl, ?hyg5⟩) hHeld ?restg5
          case hyg5 => intro w' hSw; (try dsimp only at hSw); go_simp; try with_reducible rfl
          simp only [Act.put]
          refine wpAnyH_ready (rs := [4]) (by kernel_rfl) (by simp) ?_
          refine AllReadyH.cons rfl (fun K hK => ?_) AllReadyH.nil
          go_simp
          refine hK.out _ _ (hHeld) (fun hHeld => ?_)
          clear hK K
          refine wpAnyH_take (i := 6) (v := ?vg6) rfl (by kernel_rfl) (by kernel_rfl) (by kernel_rfl) (fun _ _ _ h => h) (Or.inl ⟨by kernel_rfl, ?hyg6⟩) hHeld ?restg6
          case hyg6 => intro w' hSw; (try dsimp only at hSw); go_simp; try with_reducible rfl
          simp only [Act.put]
          refine wpAnyH_take (i := 7) (v := ?vg7) rfl (by kernel_rfl) (by kernel_rfl) (by kernel_rfl) (fun _ _ _ h => h) (Or.inl ⟨by kernel_rfl, ?hyg7⟩) hHeld ?restg7
          case hyg7 => intro w' hSw; (try dsimp only at hSw); go_simp; try with_reducible rfl
          simp only [Act.put]
          refine wpAnyH_take (i := 8) (v := ?vg8) rfl (by kernel_rfl) (by kernel_rfl) (by kernel_rfl) (fun _ _ _ h => h) (Or.inl ⟨by kernel_rfl, ?hyg8⟩) hHeld ?restg8
          case hyg8 => intro w' hSw; (try dsimp only at hSw); go_simp; try with_reducible rfl
          simp only [Act.put]
          refine wpAnyH_take (i := 9) (v := ?vg9) rfl (by kernel_rfl) (by kernel_rfl) (by kernel_rfl) (fun _ _ _ h => h) (Or.inl ⟨by kernel_rfl, ?hyg9⟩) hHeld ?restg9
          case hyg9 => intro w' hSw; (try dsimp only at hSw); go_simp; try with_reducible rfl
          simp only [Act.put]
          refine wpAnyH_take (i := 10) (v := ?vg10) rfl (by kernel_rfl) (by kernel_rfl) (by kernel_rfl) (fun _ _ _ h => h) (Or.inl ⟨by kernel_rfl, ?hyg10⟩) hHeld ?restg10
          case hyg10 => intro w' hSw; (try dsimp only at hSw); go_simp; try with_reducible rfl
          simp only [Act.put]
          refine wpAnyH_take (i := 11) (v := ?vg11) rfl (by kernel_rfl) (by kernel_rfl) (by kernel_rfl) (fun _ _ _ h => h) (Or.inl ⟨by kernel_rfl, ?hyg11⟩) hHeld ?restg11
          case hyg11 => intro w' hSw; (try dsimp only at hSw); go_simp; try with_reducible rfl
          simp only [Act.put]
          refine wpAnyH_take (i := 12) (v := ?vg12) rfl (by kernel_rfl) (by kernel_rfl) (by kernel_rfl) (fun _ _ _ h => h) (Or.inl ⟨by kernel_rfl, ?hyg12⟩) hHeld ?restg12
          case hyg12 => intro w' hSw; (try dsimp only at hSw); go_simp; try with_reducible rfl
          simp only [Act.put]
          refine wpAnyH_ready (rs := [13]) (by kernel_rfl) (by simp) ?_
          refine AllReadyH.cons rfl (fun K hK => ?_) AllReadyH.nil
          go_simp
          refine HEk.out.mono ?_
          rintro e w9 ⟨rfl, hB9⟩
          dsimp only
          have HB9 := hide_ (below_to ((Below.refl wz.heap.size wz).drew) hB9)
          clear hB9
          refine hK.out _ _ (HSS.out _ HB9.out) (fun hHeld => ?_)
          clear hK K
          refine wpAnyH_take (i := 14) (v := ?vg13) rfl (by kernel_rfl) (by kernel_rfl) (by kernel_rfl) (fun _ _ _ h => h) (Or.inl ⟨by kernel_rfl, ?hyg13⟩) hHeld ?restg13
          case hyg13 => intro w' hSw; (try dsimp only at hSw); go_simp; try with_reducible rfl
          simp only [Act.put]
          refine wpAnyH_take (i := 15) (v := ?vg14) rfl (by kernel_rfl) (by kernel_rfl) (by kernel_rfl) (fun _ _ _ h => h) (Or.inl ⟨by kernel_rfl, ?hyg14⟩) hHeld ?restg14
          case hyg14 => intro w' hSw; (try dsimp only at hSw); go_simp; try with_reducible rfl
          simp only [Act.put]
          refine wpAnyH_done (by kernel_rfl) ?_ _
          clear HSS HEk
          go_wp2_with fail
          go_roundw
          case rel => exact ⟨k + 1, by omega, by go_num, hide_ (below_to HBz.out HB9.out)⟩
          case measure => simp [intOf]; omega
        · have hnk : ¬ (k : Int) < 3 := by omega
          clear hlt hk HS
          have HLA : Hid (WkA VL BL lc.length C.length E.length 0 0 0 0 L M) := hide_ (WkA.start (by rw [HLk.out.1.1, Hi3.out]) HLk.out.1.2.1 (by rw [HLk.out.1.2.2.1, Hi3.out]) HLk.out.1.2.2.2 (fun p hp => by
            obtain ⟨e1, e2, e3, e4⟩ := HLk.out.2.1 p hp
            exact ⟨by rw [e1], by rw [e2], e3, e4⟩) (fun p hp => by
            obtain ⟨e1, e2⟩ := HLk.out.2.2 p hp
            exact ⟨by rw [e1], e2⟩))
          clear HLk HBz
          obtain ⟨gl, cl, hvl⟩ : ∃ gl cl, vL = .slice (some ⟨gl, 0, none⟩) VL.length cl := by
            obtain ⟨p, -, -, -, -, -, hp⟩ := HLA.out.getP (by omega)
            obtain ⟨gl, cl, e, -⟩ := HSz.out.atL hp
            exact ⟨gl, cl, e⟩
          obtain ⟨gm, cm, hvm⟩ : ∃ gm cm, vB = .slice (some ⟨gm, 0, none⟩) BL.length cm := by
            obtain ⟨p, -, -, -, hp⟩ := HLA.out.getB (by omega)
            obtain ⟨gl, cl, e, -⟩ := HSz.out.atB hp
            exact ⟨gl, cl, e⟩
          subst hvl hvm
          have HV3 : Hid (VL.length = 3) := hide_ (by rw [← HLA.out.2.1, List.length_map]; exact HLA.out.1)
          have HM3 : Hid (BL.length = 3) := hide_ (by rw [← HLA.out.2.2.2.2.1, List.length_map]; exact HLA.out.2.2.2.1)
          obtain ⟨n3, hn3⟩ : ∃ n, VL.length = n := ⟨_, rfl⟩
          obtain ⟨m3, hm3⟩ : ∃ n, BL.length = n := ⟨_, rfl⟩
          rw [hn3] at HSz HV3 ⊢
          rw [hm3] at HSz HM3 ⊢
          clear hn3 hm3
          go_upto_region 28 with fail
          go_loopw [17] (fun x17 wr => ∃ (k : Nat) (L : List Pgx) (M : List Bg), k ≤ 3 ∧ x17 = .int .i64 (k : Int) ∧ Hid (WkA VL BL lc.length C.length E.length k 0 0 0 L M) ∧ Hid (ApC enc w6 wr (.slice (some ⟨gl, 0, none⟩) n3 cl) VL (.slice (some ⟨gm, 0, none⟩) m3 cm) BL (.slice none 0 0) [] (.slice none 0 0) [] (.slice none 0 0) [] L M)) (fun x17 _ => 3 - (intOf x17).toNat)
          case atStart => exact ⟨0, L, M, by omega, rfl, HLA, HSz⟩
          case round =>
            obtain ⟨k3, L3, M3, hk3, rfl, HL3, HS3⟩ := hrel
            generalize wr = wy at *
            clear HLA HSz
            by_cases hlt : k3 < 3
            · have hlt' : (k3 : Int) < 3 := by omega
              have hkn : (k3 : Int) < (n3 : Int) := by rw [HV3.out]; exact hlt'
              have hkm : (k3 : Int) < (m3 : Int) := by rw [HM3.out]; exact hlt'
              go_upto_region 31 with fail
              go_loopw [18] (fun x18 wr => ∃ (i : Nat) (L : List Pgx) (M : List Bg), i ≤ lc.length ∧ x18 = .int .i64 (i : Int) ∧ Hid (WkA VL BL lc.length C.length E.length k3 i 0 0 L M) ∧ Hid (ApC enc w6 wr (.slice (some ⟨gl, 0, none⟩) n3 cl) VL (.slice (some ⟨gm, 0, none⟩) m3 cm) BL (.slice none 0 0) [] (.slice none 0 0) [] (.slice none 0 0) [] L M)) (fun x18 _ => lc.length - (intOf x18).toNat)
              case atStart => exact ⟨0, L3, M3, Nat.zero_le _, rfl, HL3, HS3⟩
              case round =>
                obtain ⟨i4, L4, M4, hi4, rfl, HL4, HS4⟩ := hrel
                generalize wr = wx at *
                clear HL3 HS3
                obtain ⟨p, hp, e1, e2, hbk⟩ := HL4.out.getB hlt
                obtain ⟨o1, -⟩ := HS4.out.ball.ok p (List.mem_of_getElem? hp)
                obtain ⟨g, c, hv, hrw, -⟩ := bown_open o1 (by omega)
                have x0 := HS4.out.atB2 hbk
                rw [hv, e2] at x0
                by_cases hlt4 : i4 < lc.length
                · have hlt4' : (i4 : Int) < lc.length := by omega
                  obtain ⟨g2, c2, ys, hv2, -, -, -, -, -, hyk⟩ := ownS_blk o1 (by omega)
                  have hgg : g = g2 := by
                    rw [hv] at hv2
                    injection hv2 with h1 _ _
                    injection h1 with h1
                    injection h1
                  subst hgg
                  obtain ⟨hPA, hgB, hgt⟩ := HS4.out.ball.setB hp e1 hv (i := i4) (by omega) ((k3 : Int) + 1)
                  have HSn := hide_ (HS4.out.turnB ((Upd.refl (fun n => n = g) wx).set ⟨g, i4, none⟩ (.int .u8 ((k3 : Int) + 1)) (.inl rfl)) (fun k hk => by subst hk; exact ⟨hgB, hgt⟩) hPA)
                  have y0 := row_get hrw (i := i4) (by omega)
                  have yz := fun i => hyk.frozen i
                  have HLn := hide_ (HL4.out.setB hlt hp hlt4)
                  have hw1 : IntKind.i64.wrap ((k3 : Int) + 1) = (k3 : Int) + 1 := by rw [IntKind.wrap_i64]; omega
                  have hw2 : IntKind.u8.wrap ((k3 : Int) + 1) = (k3 : Int) + 1 := by rw [IntKind.wrap_u8]; omega
                  clear hPA hgB hgt hyk hv2 hbk hrw o1 e1 e2 hp HL4 HS4 hv
                  go_wp2_with fail
                  go_roundw
                  case rel => exact ⟨i4 + 1, _, _, by omega, by go_num, HLn, HSn⟩
                  case measure => simp [intOf]; omega
                · have hlt4' : ¬ (i4 : Int) < lc.length := by omega
                  obtain rfl : i4 = lc.length := by omega
                  clear hlt4 hi4 hrw o1 hv hbk hp e1 e2
                  go_upto_region 35 with fail
                  clear x0
                  obtain ⟨hcb, heb⟩ := HCn.out
                  go_loopw [19] (fun x19 wr => ∃ (i : Nat) (L : List Pgx) (M : List Bg), i ≤ C.length ∧ x19 = .int .i64 (i : Int) ∧ Hid (WkA VL BL lc.length C.length E.length k3 lc.length i 0 L M) ∧ Hid (ApC enc w6 wr (.slice (some ⟨gl, 0, none⟩) n3 cl) VL (.slice (some ⟨gm, 0, none⟩) m3 cm) BL (.slice none 0 0) [] (.slice none 0 0) [] (.slice none 0 0) [] L M)) (fun x19 _ => C.length - (intOf x19).toNat)
                  case atStart => exact ⟨0, L4, M4, Nat.zero_le _, rfl, HL4, HS4⟩
                  case round =>
                    obtain ⟨i5, L5, M5, hi5, rfl, HL5, HS5⟩ := hrel
                    generalize wr = wv at *
                    clear HL4 HS4
                    obtain ⟨p, hp, e1, e2, e3, e4, hvk⟩ := HL5.out.getP hlt
                    obtain ⟨o1, o2, -, -⟩ := HS5.out.all.ok p (List.mem_of_getElem? hp)
                    obtain ⟨a, c, hv, -, -, hra⟩ := o1.row
                    rw [e3] at hv
                    obtain ⟨-, x1, -⟩ := HS5.out.atL2 hvk
                    simp only at x1
                    rw [hv] at x1
                    by_cases hlt5 : i5 < C.length
                    · have hlt5' : (i5 : Int) < C.length := by omega
                      obtain ⟨g, c2, ys, hv2, -, -, -, -, -, hyk⟩ := ownS_blk o1 (by omega)
                      rw [hv] at hv2
                      obtain ⟨rfl, rfl⟩ : a = some ⟨g, 0, none⟩ ∧ c = c2 := by
                        injection hv2 with h1 _ h3
                        exact ⟨h1, h3⟩
                      obtain ⟨hPA, hgB, hgt⟩ := HS5.out.all.setC hp e1 hv (i := i5) (by omega) ⟨-(k3 : Int) - 1, (i5 : Int), 0, 0⟩
                      have HSn := hide_ (HS5.out.turnP (upd4 wv g (i5 * 4) (i5 * 4 + 1) (i5 * 4 + 2) (i5 * 4 + 3) _ _ _ _) (fun k hk => by subst hk; exact ⟨hgB, .inl hgt⟩) hPA)
                      obtain ⟨x, hxe⟩ : ∃ x, p.C[i5]? = some x := ⟨_, List.getElem?_eq_getElem (by omega)⟩
                      have hx := hra.at hxe
                      have y0 := hx.1; have y1 := hx.2.1; have y2 := hx.2.2.1; have y3 := hx.2.2.2
                      simp only [Nat.zero_add] at y0 y1 y2 y3
                      have yz := fun i => hyk.frozen i
                      have HLn := hide_ (HL5.out.setC hlt hp hlt5)
                      clear hPA hgB hgt hx hxe hyk hv2 hvk hra o1 o2 e1 e2 e3 e4 hp HL5 HS5 hv
                      go_wp2_with fail
                      go_roundw
                      case rel => exact ⟨i5 + 1, _, _, by omega, by go_num, HLn, HSn⟩
                      case measure => simp [intOf]; omega
                    · have hlt5' : ¬ (i5 : Int) < C.length := by omega
                      obtain rfl : i5 = C.length := by omega
                      clear hlt5 hi5 hra o1 o2 hv hvk e1 e2 e3 e4 hp
                      go_upto_region 39 with fail
                      clear x1
                      go_loopw [20] (fun x20 wr => ∃ (i : Nat) (L : List Pgx) (M : List Bg), i ≤ E.length ∧ x20 = .int .i64 (i : Int) ∧ Hid (WkA VL BL lc.length C.length E.length k3 lc.length C.length i L M) ∧ Hid (ApC enc w6 wr (.slice (some ⟨gl, 0, none⟩) n3 cl) VL (.slice (some ⟨gm, 0, none⟩) m3 cm) BL (.slice none 0 0) [] (.slice none 0 0) [] (.slice none 0 0) [] L M)) (fun x20 _ => E.length - (intOf x20).toNat)
                      case atStart => exact ⟨0, L5, M5, Nat.zero_le _, rfl, HL5, HS5⟩
                      case round =>
                        obtain ⟨i6, L6, M6, hi6, rfl, HL6, HS6⟩ := hrel
                        generalize wr = wu at *
                        clear HL5 HS5
                        obtain ⟨p, hp, e1, e2, e3, e4, hvk⟩ := HL6.out.getP hlt
                        obtain ⟨o1, o2, -, -⟩ := HS6.out.all.ok p (List.mem_of_getElem? hp)
                        obtain ⟨a, c, hv, hra, -, -⟩ := o2.row
                        rw [e4] at hv
                        obtain ⟨-, -, x2⟩ := HS6.out.atL2 hvk
                        simp only at x2
                        rw [hv] at x2
                        by_cases hlt6 : i6 < E.length
                        · have hlt6' : (i6 : Int) < E.length := by omega
                          obtain ⟨g, c2, ys, hv2, -, -, -, -, -, hyk⟩ := ownS_blk o2 (by omega)
                          rw [hv] at hv2
                          obtain ⟨rfl, rfl⟩ : a = some ⟨g, 0, none⟩ ∧ c = c2 := by
                            injection hv2 with h1 _ h3
                            exact ⟨h1, h3⟩
                          obtain ⟨hPA, hgB, hgt⟩ := HS6.out.all.setE hp e2 hv (i := i6) (by omega) (-(k3 : Int) - 1)
                          have HSn := hide_ (HS6.out.turnP ((Upd.refl (fun n => n = g) wu).set ⟨g, i6, none⟩ (.int .i64 (-(k3 : Int) - 1)) (.inl rfl)) (fun k hk => by subst hk; exact ⟨hgB, .inr hgt⟩) hPA)
                          have y0 := row_get hra (i := i6) (by omega)
                          have yz := fun i => hyk.frozen i
                          have HLn := hide_ (HL6.out.setE hlt hp hlt6)
                          clear hPA hgB hgt hyk hv2 hvk hra o1 o2 e1 e2 e3 e4 hp HL6 HS6 hv
                          go_wp2_with fail
                          go_roundw
                          case rel => exact ⟨i6 + 1, _, _, by omega, by go_num, HLn, HSn⟩
                          case measure => simp [intOf]; omega
                        · have hlt6' : ¬ (i6 : Int) < E.length := by omega
                          obtain rfl : i6 = E.length := by omega
                          have HLn := hide_ HL6.out.next
                          clear hlt6 hi6 hra o1 o2 e1 e2 e3 e4 hp hvk HL6 hv
                          go_wp2_with fail
                          go_roundw
                          case rel => exact ⟨k3 + 1, L6, M6, by omega, by go_num, HLn, HS6⟩
                          case measure => simp [intOf]; omega
            · have hnk3 : ¬ (k3 : Int) < 3 := by omega
              have HL6 := hide_ (HL3.out.done (by omega))
              clear hlt hk3 HL3
              go_upto_region 43 with fail
              go_loopw [14, 15, 16, 21] (fun x14 x15 x16 x21 wr => ∃ (k : Nat) (vI vN vG : Value) (IL NL GL : List Value) (L : List Pgx) (M : List Bg), k ≤ 3 ∧ x21 = .int .i64 (k : Int) ∧ vI = x14 ∧ vN = x15 ∧ vG = x16 ∧ Hid (WkB VL BL lc.length C.length E.length k IL NL GL L M) ∧ Hid (ApC enc w6 wr (.slice (some ⟨gl, 0, none⟩) n3 cl) VL (.slice (some ⟨gm, 0, none⟩) m3 cm) BL vI IL vN NL vG GL L M)) (fun _ _ _ x21 _ => 3 - (intOf x21).toNat)
              case atStart => exact ⟨0, _, _, _, [], [], [], L3, M3, by omega, rfl, rfl, rfl, rfl, HL6, HS3⟩
              case round =>
                obtain ⟨k, vI, vN, vG, IL, NL, GL, L, M, hk, rfl, rfl, rfl, rfl, HL7, HS7⟩ := hrel
                generalize wr = wz at *
                clear HL6 HS3
                by_cases hlt : k < 3
                · have hlt' : (k : Int) < 3 := by omega
                  have hkn : (k : Int) < (n3 : Int) := by rw [HV3.out]; exact hlt'
                  have hkm : (k : Int) < (m3 : Int) := by rw [HM3.out]; exact hlt'
                  obtain ⟨⟨hIL, hNL, hGL⟩, hLl, hvu, hLB, hMl, hbv, hMB⟩ := HL7.out
                  obtain ⟨p, hp⟩ : ∃ p, L[k]? = some p := ⟨_, List.getElem?_eq_getElem (by rw [hLl]; exact hlt)⟩
                  obtain ⟨b, hb⟩ : ∃ b, M[k]? = some b := ⟨_, List.getElem?_eq_getElem (by rw [hMl]; exact hlt)⟩
                  obtain ⟨m1, m2, m4, -⟩ := hLB k p hp
                  obtain ⟨m4, m5⟩ := m4 (Nat.le_refl _)
                  obtain ⟨n1, -⟩ := hMB k b hb
                  obtain ⟨o1, o2, -, -⟩ := HS7.out.all.ok p (List.mem_of_getElem? hp)
                  obtain ⟨o3, -⟩ := HS7.out.ball.ok b (List.mem_of_getElem? hb)
                  obtain ⟨a, c, hv, -, -, -⟩ := o1.row
                  obtain ⟨a2, d, hu, -, -, -⟩ := o2.row
                  obtain ⟨gy, cy, hy, -⟩ := bown_open o3 (by rw [n1.1]; omega)
                  have hvk := vu_at hvu hp
                  have hbk := bv_at hbv hb
                  obtain ⟨gb, capb, wb, hr1, hPb, hUb, hbt⟩ := HS7.out.ball.growB hb ((k : Int) + 1) (by rw [n1.1]; omega) HS7.out.bel.size
                  rw [n1.1] at hr1 hPb hy
                  rw [hy] at hr1
                  have hSb := HS7.out.turnB hUb (fun j hj => hbt j hj) hPb
                  obtain ⟨gg, cg, wg, hr2, hSg, -⟩ := hSb.pushG (a := some ⟨gb, 0, none⟩) (n := lc.length + 1) (c := capb) (by omega)
                  obtain ⟨g, cap, wc, hr3, hPc, hUc, hct⟩ := (hSg.later ((Below.refl _ _).drew)).all.growC hp m4 ⟨-(k : Int) - 1, (C.length : Int), 0, 0⟩ (by rw [m1.1]; have := HCn.out; omega) (Nat.le_trans hSg.bel.size (Nat.le_refl _))
                  rw [m1.1] at hr3 hPc hv
                  rw [hv] at hr3
                  have hSc := (hSg.later ((Below.refl _ _).drew)).turnP hUc (fun j hj => ⟨(hct j hj).1, .inl (hct j hj).2⟩) hPc
                  obtain ⟨p1, hp1⟩ : ∃ p1 : Pgx, p1 = { p with v2 := .slice (some ⟨g, 0, none⟩) (C.length + 1) cap, C2 := p.C ++ [⟨-(k : Int) - 1, (C.length : Int), 0, 0⟩] } := ⟨_, rfl⟩
                  rw [← hp1] at hSc
                  obtain ⟨gi, ci, wi, hr4, hSi, -⟩ := hSc.pushI (a := some ⟨g, 0, none⟩) (n := C.length + 1) (c := cap) (by omega)
                  have hL1 : (L.set k p1)[k]? = some p1 := by rw [List.getElem?_set_self (by rw [hLl]; exact hlt)]
                  have hu1 : p1.u2 = .slice none 0 0 := by rw [hp1]; exact m5
                  have hE1 : p1.E = p.E := by rw [hp1]
                  have hU1 : p1.u = p.u := by rw [hp1]
                  obtain ⟨g4, cap4, we, hr5, hPe, hUe, hge⟩ := hSi.all.growE hL1 hu1 (-(k : Int) - 1) (by rw [hE1, m2.1]; have := HCn.out; omega) hSi.bel.size
                  rw [hE1, m2.1] at hr5 hPe
                  rw [m2.1] at hu
                  rw [hU1, hu] at hr5
                  have hSe := hSi.turnP hUe (fun j hj => ⟨(hge j hj).1, .inr (hge j hj).2⟩) hPe
                  obtain ⟨gn, cn, wn, hr6, hSn, -⟩ := hSe.pushN (a := some ⟨g4, 0, none⟩) (n := E.length + 1) (c := cap4) (by omega)
                  obtain ⟨ai, cai, hai, -, -, -⟩ := own_grow one1_len HS7.out.ri
                  obtain ⟨an, can, han, -, -, -⟩ := own_grow one1_len HS7.out.rn
                  obtain ⟨ag, cag, hag, -, -, -⟩ := own_grow one1_len HS7.out.rg
                  subst hai han hag
                  rw [hv, hu] at hvk
                  rw [hy] at hbk
                  have xb := HS7.out.atB2 hbk
                  have HSS : Hid (∀ w', Below wg.heap.size wg w' → (fun w' => w'.cell? ⟨gl, k * 3 + 1, none⟩ = some (.slice a C.length c)) w') := hide_ (fun w' hb => ((hSg.later hb).atL2 hvk).2.1)
                  have HSc : Hid ((fun w' => w'.cell? ⟨gl, k * 3 + 1, none⟩ = some (.slice a C.length c)) wc) := hide_ (hSc.atL2 hvk).2.1
                  have HSh : Hid ((fun w' => w'.cell? ⟨gl, k * 3 + 1, none⟩ = some (.slice a C.length c)) (wc.alloc (.cells #[.slice (some ⟨g, 0, none⟩) (C.length + 1) cap] 23))) := hide_ ((hSc.later (below1 _ _)).atL2 hvk).2.1
                  have HSi : Hid ((fun w' => w'.cell? ⟨gl, k * 3 + 1, none⟩ = some (.slice a C.length c)) wi) := hide_ (hSi.atL2 hvk).2.1
                  have xi := (hSi.atL2 hvk).2.2
                  simp only at xi
                  have HR1 := hide_ hr1
                  have HR2 := hide_ hr2
                  have HR3 := hide_ hr3
                  have HR4 := hide_ hr4
                  have HR5 := hide_ hr5
                  have HR6 := hide_ hr6
                  have HSn := hide_ hSn
                  have HLn := hide_ (HL7.out.next (vb := .slice (some ⟨gb, 0, none⟩) (lc.length + 1) capb) (vi := .slice (some ⟨g, 0, none⟩) (C.length + 1) cap) (vn := .slice (some ⟨g4, 0, none⟩) (E.length + 1) cap4) hlt hp hb hp1 rfl rfl rfl)
                  have HpE : Hid (p.E = p1.E) := hide_ hE1.symm
                  clear hIL hNL hGL hLl hvu hLB hMl hbv hMB hp hb m1 m2 m4 m5 n1 o1 o2 o3 hv hu hy hvk hbk hr1 hPb hUb hbt hSb hr2 hSg hr3 hPc hUc hct hSc hp1 hr4 hSi hL1 hu1 hE1 hU1 hr5 hPe hUe hge hSe hr6 hSn HL7 HS7
                  have hw1 : IntKind.i64.wrap (-(k : Int)) = -(k : Int) := by rw [IntKind.wrap_i64]; omega
                  have hw2 : IntKind.i64.wrap (-(k : Int) - 1) = -(k : Int) - 1 := by rw [IntKind.wrap_i64]; omega
                  have hw3 : IntKind.i64.wrap ((k : Int) + 1) = (k : Int) + 1 := by rw [IntKind.wrap_i64]; omega
                  have hw4 : IntKind.u8.wrap ((k : Int) + 1) = (k : Int) + 1 := by rw [IntKind.wrap_u8]; omega
                  go_upto_region 46 with (first
                    | (at_builtin; have _t := HR1; refine wpList_append_run rfl (.tmp 168) (.tmp 172) 34 34 rfl rfl rfl HR1.out ?_; clear HR1)
                    | (at_builtin; have _t := HR2; refine wpList_append_run rfl (.tmp 164) (.tmp 174) 43 43 rfl rfl rfl HR2.out ?_; clear HR2))
                  clear xb hw3 hw4
                  refine wp_region_last 20 (fun w' => w'.cell? ⟨gl, k * 3 + 1, none⟩ = some (.slice a C.length c)) (by kernel_rfl) (HSS.out _ ((Below.refl wg.heap.size wg).drew)) (fun hHeld => ?_)
                  refine wpAnyF_take [20] (by kernel_rfl) (i := 0) (v := ?vh1) rfl (by kernel_rfl) (by kernel_rfl) (by kernel_rfl) (fun _ _ _ h => h) (Or.inl ⟨by kernel_rfl, ?hyh1⟩) hHeld ?resth1
                  case hyh1 => intro w' hSw; (try dsimp only at hSw); go_simp; try with_reducible rfl
                  simp only [Act.put]
                  refine wpAnyF_take [20] (by kernel_rfl) (i := 1) (v := ?vh2) rfl (by kernel_rfl) (by kernel_rfl) (by kernel_rfl) (fun _ _ _ h => h) (Or.inl ⟨by kernel_rfl, ?hyh2⟩) hHeld ?resth2
                  case hyh2 => intro w' hSw; (try dsimp only at hSw); go_simp; try with_reducible rfl
                  simp only [Act.put]
                  refine wpAnyF_take [20] (by kernel_rfl) (i := 2) (v := ?vh3) rfl (by kernel_rfl) (by kernel_rfl) (by kernel_rfl) (fun _ _ _ h => h) (Or.inl ⟨by kernel_rfl, ?hyh3⟩) hHeld ?resth3
                  case hyh3 => intro w' hSw; (try dsimp only at hSw); go_simp; try with_reducible rfl
                  simp only [Act.put]
                  refine wpAnyF_take [20] (by kernel_rfl) (i := 3) (v := ?vh4) rfl (by kernel_rfl) (by kernel_rfl) (by kernel_rfl) (fun _ _ _ h => h) (Or.inl ⟨by kernel_rfl, ?hyh4⟩) hHeld ?resth4
                  case hyh4 => intro w' hSw; (try dsimp only at hSw); go_simp; try with_reducible rfl
                  simp only [Act.put]
                  refine wpAnyF_take [20] (by kernel_rfl) (i := 4) (v := ?vh5) rfl (by kernel_rfl) (by kernel_rfl) (by kernel_rfl) (fun _ _ _ h => h) (Or.inl ⟨by kernel_rfl, ?hyh5⟩) hHeld ?resth5
                  case hyh5 => intro w' hSw; (try dsimp only at hSw); go_simp; try with_reducible rfl
                  simp only [Act.put]
                  refine wpAnyF_take [20] (by kernel_rfl) (i := 5) (v := ?vh6) rfl (by kernel_rfl) (by kernel_rfl) (by kernel_rfl) (fun _ _ _ h => h) (Or.inl ⟨by kernel_rfl, ?hyh6⟩) hHeld ?resth6
                  case hyh6 => intro w' hSw; (try dsimp only at hSw); go_simp; try with_reducible rfl
                  simp only [Act.put]
                  refine wpAnyF_take [20] (by kernel_rfl) (i := 6) (v := ?vh7) rfl (by kernel_rfl) (by kernel_rfl) (by kernel_rfl) (fun _ _ _ h => h) (Or.inl ⟨by kernel_rfl, ?hyh7⟩) hHeld ?resth7
                  case hyh7 => intro w' hSw; (try dsimp only at hSw); go_simp; try with_reducible rfl
                  simp only [Act.put]
                  refine wpAnyF_take [20] (by kernel_rfl) (i := 7) (v := ?vh8) rfl (by kernel_rfl) (by kernel_rfl) (by kernel_rfl) (fun _ _ _ h => h) (Or.inl ⟨by kernel_rfl, ?hyh8⟩) hHeld ?resth8
                  case hyh8 => intro w' hSw; (try dsimp only at hSw); go_simp; try with_reducible rfl
                  simp only [Act.put]
                  refine wpAnyF_take [20] (by kernel_rfl) (i := 8) (v := ?vh9) rfl (by kernel_rfl) (by kernel_rfl) (by kernel_rfl) (fun _ _ _ h => h) (Or.inl ⟨by kernel_rfl, ?hyh9⟩) hHeld ?resth9
                  case hyh9 => intro w' hSw; (try dsimp only at hSw); go_simp; try with_reducible rfl
                  simp only [Act.put]
                  refine wpAnyF_take [20] (by kernel_rfl) (i := 9) (v := ?vh10) rfl (by kernel_rfl) (by kernel_rfl) (by kernel_rfl) (fun _ _ _ h => h) (Or.inl ⟨by kernel_rfl, ?hyh10⟩) hHeld ?resth10
                  case hyh10 => intro w' hSw; (try dsimp only at hSw); go_simp; try with_reducible rfl
                  simp only [Act.put]
                  refine wpAnyF_take [20] (by kernel_rfl) (i := 10) (v := ?vh11) rfl (by kernel_rfl) (by kernel_rfl) (by kernel_rfl) (fun _ _ _ h => h) (Or.inl ⟨by kernel_rfl, ?hyh11⟩) hHeld ?resth11
                  case hyh11 => intro w' hSw; (try dsimp only at hSw); go_simp; try with_reducible rfl
                  simp only [Act.put]
                  refine wpAnyF_take [20] (by kernel_rfl) (i := 11) (v := ?vh12) rfl (by kernel_rfl) (by kernel_rfl) (by kernel_rfl) (fun _ _ _ h => h) (Or.inl ⟨by kernel_rfl, ?hyh12⟩) hHeld ?resth12
                  case hyh12 => intro w' hSw; (try dsimp only at hSw); go_simp; try with_reducible rfl
                  simp only [Act.put]
                  refine wpAnyF_take [20] (by kernel_rfl) (i := 12) (v := ?vh13) rfl (by kernel_rfl) (by kernel_rfl) (by kernel_rfl) (fun _ _ _ h => h) (Or.inl ⟨by kernel_rfl, ?hyh13⟩) hHeld ?resth13
                  case hyh13 => intro w' hSw; (try dsimp only at hSw); go_simp; try with_reducible rfl
                  simp only [Act.put]
                  refine wpAnyF_take [20] (by kernel_rfl) (i := 13) (v := ?vh14) rfl (by kernel_rfl) (by kernel_rfl) (by kernel_rfl) (fun _ _ _ h => h) (Or.inl ⟨by kernel_rfl, ?hyh14⟩) hHeld ?resth14
                  case hyh14 => intro w' hSw; (try dsimp only at hSw); go_simp; try with_reducible rfl
                  simp only [Act.put]
                  refine wpAnyF_take [20] (by kernel_rfl) (i := 14) (v := ?vh15) rfl (by kernel_rfl) (by kernel_rfl) (by kernel_rfl) (fun _ _ _ h => h) (Or.inl ⟨by kernel_rfl, ?hyh15⟩) hHeld ?resth15
                  case hyh15 => intro w' hSw; (try dsimp only at hSw); go_simp; try with_reducible rfl
                  simp only [Act.put]
                  refine wpAnyF_take [20] (by kernel_rfl) (i := 15) (v := ?vh16) rfl (by kernel_rfl) (by kernel_rfl) (by kernel_rfl) (fun _ _ _ h => h) (Or.inl ⟨by kernel_rfl, ?hyh16⟩) hHeld ?resth16
                  case hyh16 => intro w' hSw; (try dsimp only at hSw); go_simp; try with_reducible rfl
                  simp only [Act.put]
                  refine wpAnyF_ready (rs := [16]) (by kernel_rfl) (by simp) ?_
                  refine AllReadyF.cons rfl (fun K hK => ?_) AllReadyF.nil
                  go_simp
                  refine hK.out _ _ (HSS.out _ (below_to ((Below.refl wg.heap.size wg).drew) (below1 wg.drew _))) (fun hHeld => ?_)
                  clear hK K
                  refine wpAnyF_ready (rs := [17]) (by kernel_rfl) (by simp) ?_
                  refine AllReadyF.cons rfl (fun K hK => ?_) AllReadyF.nil
                  refine step_append_run rfl (.tmp 181) (.tmp 192) 23 23 rfl (v := .slice a C.length c) (u := .slice (some ⟨wg.heap.size, 0, none⟩) 1 1) (by kernel_rfl) (by kernel_rfl) HR3.out ?_
                  simp only [Act.put]
                  refine hK.out _ _ (HSc.out) (fun hHeld => ?_)
                  clear hK K
                  refine wpAnyF_ready (rs := [18]) (by kernel_rfl) (by simp) ?_
                  refine AllReadyF.cons rfl (fun K hK => ?_) AllReadyF.nil
                  go_simp
                  refine hK.out _ _ (HSh.out) (fun hHeld => ?_)
                  clear hK K
                  refine wpAnyF_ready (rs := [19]) (by kernel_rfl) (by simp) ?_
                  refine AllReadyF.cons rfl (fun K hK => ?_) AllReadyF.nil
                  refine step_append_run rfl (.tmp 176) (.tmp 194) 45 45 rfl (v := .slice ai IL.length cai) (u := .slice (some ⟨wc.heap.size, 0, none⟩) 1 1) (by kernel_rfl) (by kernel_rfl) HR4.out ?_
                  simp only [Act.put]
                  refine hK.out _ _ (HSi.out) (fun hHeld => ?_)
                  clear hK K
                  refine wpAnyF_ready (rs := [20]) (by kernel_rfl) (by simp) ?_
                  refine AllReadyF.last rfl (fun K hK => ?_)
                  go_simp
                  refine hK.out _ _ ?_
                  clear hK K
                  refine wpAnyF_done (by kernel_rfl) ?_ _
                  clear HSS HSc HSh HSi HR3 HR4 hw1 hw2
                  go_wp2_with (first
                    | (at_builtin; have _t := HR5; refine wpList_append_run rfl (.tmp 201) (.tmp 205) 24 24 rfl rfl rfl HR5.out ?_; clear HR5)
                    | (at_builtin; have _t := HR6; refine wpList_append_run rfl (.tmp 196) (.tmp 207) 46 46 rfl rfl rfl HR6.out ?_; clear HR6))
                  go_roundw
                  case rel => exact ⟨k + 1, _, _, _, _, _, _, _, _, by omega, by go_num, rfl, rfl, rfl, HLn, HSn⟩
                  case measure => simp [intOf]; omega
                · have hnk7 : ¬ (k : Int) < 3 := by omega
                  have Hk3 : Hid (k = 3) := hide_ (by omega)
                  obtain ⟨⟨hIL, hNL, hGL⟩, hLl, hvu, hLB, hMl, hbv, hMB⟩ := HL7.out
                  have HLB := hide_ hLB
                  have HLl := hide_ hLl
                  have HVu := hide_ hvu
                  have HMB := hide_ hMB
                  have HMl := hide_ hMl
                  have HBv := hide_ hbv
                  obtain ⟨gi, ci, hai⟩ : ∃ gi ci, vI = .slice (some ⟨gi, 0, none⟩) IL.length ci := by
                    obtain ⟨x, hx⟩ : ∃ x, IL[0]? = some x := ⟨_, List.getElem?_eq_getElem (by omega)⟩
                    obtain ⟨gi, ci, e, -⟩ := HS7.out.atI hx
                    exact ⟨gi, ci, e⟩
                  obtain ⟨gn, cn, han⟩ : ∃ gn cn, vN = .slice (some ⟨gn, 0, none⟩) NL.length cn := by
                    obtain ⟨x, hx⟩ : ∃ x, NL[0]? = some x := ⟨_, List.getElem?_eq_getElem (by omega)⟩
                    obtain ⟨gn, cn, e, -⟩ := HS7.out.atN hx
                    exact ⟨gn, cn, e⟩
                  obtain ⟨gg, cg, hag⟩ : ∃ gn cn, vG = .slice (some ⟨gn, 0, none⟩) GL.length cn := by
                    obtain ⟨x, hx⟩ : ∃ x, GL[0]? = some x := ⟨_, List.getElem?_eq_getElem (by omega)⟩
                    obtain ⟨gn, cn, e, -⟩ := HS7.out.atG hx
                    exact ⟨gn, cn, e⟩
                  subst hai han hag
                  rw [hIL, hNL, hGL] at HS7 ⊢
                  have HBe := hide_ HS7.out.bel
                  clear hlt hk hIL hNL hGL hLl hvu hLB hMl hbv hMB HL7
                  go_upto_region 49 with fail
                  go_loopw [22] (fun x22 wr => ∃ (q : Nat), q ≤ 3 ∧ x22 = .int .i64 (q : Int) ∧ Hid (Below wz.heap.size wz wr)) (fun x22 _ => 3 - (intOf x22).toNat)
                  case atStart => exact ⟨0, by omega, rfl, hide_ (Below.refl _ _)⟩
                  case round =>
                    obtain ⟨q, hq, rfl, HBq⟩ := hrel
                    generalize wr = wa at *
                    by_cases hlt : q < 3
                    · have hlt' : (q : Int) < 3 := by omega
                      have hqn : (q : Int) < (n3 : Int) := by rw [HV3.out]; exact hlt'
                      have hqm : (q : Int) < (m3 : Int) := by rw [HM3.out]; exact hlt'
                      have hqk : (q : Int) < (k : Int) := by rw [Hk3.out]; exact hlt'
                      obtain ⟨p, hp⟩ : ∃ p, L[q]? = some p := ⟨_, List.getElem?_eq_getElem (by rw [HLl.out]; exact hlt)⟩
                      obtain ⟨b, hb⟩ : ∃ b, M[q]? = some b := ⟨_, List.getElem?_eq_getElem (by rw [HMl.out]; exact hlt)⟩
                      obtain ⟨m1, m2, -, m4⟩ := HLB.out q p hp
                      obtain ⟨z1, z2, z3, z4⟩ := m4 (by rw [Hk3.out]; exact hlt)
                      obtain ⟨m5, m6⟩ := HMB.out q b hb
                      obtain ⟨z5, z6⟩ := m6 (by rw [Hk3.out]; exact hlt)
                      have HOk := hide_ (HS7.out.all.ok p (List.mem_of_getElem? hp))
                      have HOb := hide_ (HS7.out.ball.ok b (List.mem_of_getElem? hb))
                      have hvk := vu_at HVu.out hp
                      have hbk := bv_at HBv.out hb
                      obtain ⟨a, c, hv, -, -, -⟩ := HOk.out.1.row
                      obtain ⟨b0, d, hu, -, -, -⟩ := HOk.out.2.1.row
                      obtain ⟨a2, c2, hv2, -, -, -⟩ := HOk.out.2.2.1.row
                      obtain ⟨b2, d2, hu2, -, -, -⟩ := HOk.out.2.2.2.row
                      obtain ⟨a3, c3, hy, -⟩ := bown_open HOb.out.1 (by rw [m5.1]; omega)
                      obtain ⟨a4, c4, hy2, -⟩ := bown_open HOb.out.2 (by rw [z6.1]; omega)
                      rw [m1.1] at hv
                      rw [m2.1] at hu
                      rw [z3.1] at hv2
                      rw [z4.1] at hu2
                      rw [m5.1] at hy
                      rw [z6.1] at hy2
                      rw [hv, hu] at hvk
                      rw [hy] at hbk
                      rw [hv2] at z1
                      rw [hu2] at z2
                      rw [hy2] at z5
                      have HCl : Hid (∀ w', Below wz.heap.size wz w' → ((w'.cell? ⟨gl, q * 3 + 1, none⟩ = some (.slice a C.length c) ∧ w'.cell? ⟨gl, q * 3 + 2, none⟩ = some (.slice b0 E.length d)) ∧ w'.cell? ⟨gi, q, none⟩ = some (.slice a2 (C.length + 1) c2) ∧ w'.cell? ⟨gn, q, none⟩ = some (.slice b2 (E.length + 1) d2)) ∧ w'.cell? ⟨gm, q, none⟩ = some (.slice (some ⟨a3, 0, none⟩) lc.length c3) ∧ w'.cell? ⟨gg, q, none⟩ = some (.slice (some ⟨a4, 0, none⟩) (lc.length + 1) c4)) := hide_ (fun w' hb => ⟨⟨⟨((HS7.out.later hb).atL2 hvk).2.1, ((HS7.out.later hb).atL2 hvk).2.2⟩, (HS7.out.later hb).atI2 z1, (HS7.out.later hb).atN2 z2⟩, (HS7.out.later hb).atB2 hbk, (HS7.out.later hb).atG2 z5⟩)
                      have HRw : Hid (∀ w', Below wz.heap.size wz w' → (IRow w' a p.C ∧ IRow w' a2 p.C2 ∧ Row .i64 w' b0 p.E ∧ Row .i64 w' b2 p.E2) ∧ Row .u8 w' (some ⟨a3, 0, none⟩) b.l ∧ Row .u8 w' (some ⟨a4, 0, none⟩) b.l2) := hide_ (fun w' hb => by
                        obtain ⟨o1, o2, o3, o4⟩ := HOk.out
                        obtain ⟨o5, o6⟩ := HOb.out
                        rw [hv] at o1
                        rw [hu] at o2
                        rw [hv2] at o3
                        rw [hu2] at o4
                        rw [hy] at o5
                        rw [hy2] at o6
                        exact ⟨⟨(o1.later hb).rowS, (o3.later hb).rowS, (o2.later hb).rowS, (o4.later hb).rowS⟩, o5.rowS.later hb, o6.rowS.later hb⟩)
                      have HMk := hide_ (And.intro m1 (And.intro m2 (And.intro z3 z4)))
                      have HMb := hide_ (And.intro m5 z6)
                      clear hp hb m1 m2 m4 m5 m6 z1 z2 z3 z4 z5 z6 HOk HOb hvk hbk hv hu hv2 hu2 hy hy2
                      go_upto_region 52 with fail
                      go_loopw [23] (fun x23 wr => ∃ (i : Nat), i ≤ lc.length + 1 ∧ x23 = .int .i64 (i : Int) ∧ Hid (Below wz.heap.size wz wr)) (fun x23 _ => lc.length + 1 - (intOf x23).toNat)
                      case atStart => exact ⟨0, Nat.zero_le _, rfl, HBq⟩
                      case round =>
                        obtain ⟨i, hi, rfl, HBi⟩ := hrel
                        generalize wr = wb at *
                        clear HBq
                        obtain ⟨-, y5, y6⟩ := HCl.out _ HBi.out
                        by_cases hlt8 : i < lc.length + 1
                        · have hlt8' : (i : Int) < (lc.length : Int) + 1 := by omega
                          have hx2 := HMb.out.2.2 i hlt8
                          obtain ⟨-, r1, r2⟩ := HRw.out _ HBi.out
                          have c0 := row_get r2 (i := i) (by rw [HMb.out.2.1]; exact hlt8)
                          rw [List.getD, hx2] at c0
                          simp only [Option.getD_some] at c0
                          have hw1 : IntKind.i64.wrap ((q : Int) + 1) = (q : Int) + 1 := by rw [IntKind.wrap_i64]; omega
                          have hw2 : IntKind.u8.wrap ((q : Int) + 1) = (q : Int) + 1 := by rw [IntKind.wrap_u8]; omega
                          clear hx2
                          by_cases hin : i < lc.length
                          · have hin' : (i : Int) < (lc.length : Int) := by omega
                            have hx1 := HMb.out.1.2 i hin
                            have d0 := row_get r1 (i := i) (by rw [HMb.out.1.1]; exact hin)
                            rw [List.getD, hx1] at d0
                            simp only [Option.getD_some] at d0
                            clear hx1 r1 r2
                            go_wp2_with fail
                            go_roundw
                            case rel => exact ⟨i + 1, by omega, by go_num, HBi⟩
                            case measure => simp [intOf]; omega
                          · have hin' : ¬ (i : Int) < (lc.length : Int) := by omega
                            clear r1 r2
                            go_wp2_with fail
                            go_roundw
                            case rel => exact ⟨i + 1, by omega, by go_num, HBi⟩
                            case measure => simp [intOf]; omega
                        · have hlt8' : ¬ (i : Int) < (lc.length : Int) + 1 := by omega
                          clear hlt8 hi y5
                          as_aux_lemma =>
                          go_upto_region 57 with fail
                          clear y6
                          go_loopw [24] (fun x24 wr => ∃ (i : Nat), i ≤ C.length + 1 ∧ x24 = .int .i64 (i : Int) ∧ Hid (Below wz.heap.size wz wr)) (fun x24 _ => C.length + 1 - (intOf x24).toNat)
                          case atStart => exact ⟨0, Nat.zero_le _, rfl, HBi⟩
                          case round =>
                            obtain ⟨j, hj, rfl, HBj⟩ := hrel
                            generalize wr = wc at *
                            clear HBi
                            obtain ⟨⟨⟨y1, y2⟩, y3, y4⟩, -, -⟩ := HCl.out _ HBj.out
                            obtain ⟨hcb, heb⟩ := HCn.out
                            by_cases hlt9 : j < C.length + 1
                            · have hlt9' : (j : Int) < (C.length : Int) + 1 := by omega
                              have hx2 := HMk.out.2.2.1.2 j hlt9
                              obtain ⟨⟨r1, r2, -, -⟩, -, -⟩ := HRw.out _ HBj.out
                              obtain ⟨ba, oa, rfl, -, h2⟩ := r2.open (by rw [HMk.out.2.2.1.1]; omega)
                              have c0 := h2 j _ hx2 0 (by decide); have c1 := h2 j _ hx2 1 (by decide); have c2' := h2 j _ hx2 2 (by decide); have c3 := h2 j _ hx2 3 (by decide)
                              simp [inc] at c0 c1 c2' c3
                              have hw1 : IntKind.i64.wrap (-(q : Int)) = -(q : Int) := by rw [IntKind.wrap_i64]; omega
                              have hw2 : IntKind.i64.wrap (-(q : Int) - 1) = -(q : Int) - 1 := by rw [IntKind.wrap_i64]; omega
                              have HBn : ∀ k, Hid (Below wz.heap.size wz (wc.drewN k)) := fun k => hide_ (below_drewN HBj.out k)
                              clear h2 hx2
                              by_cases hin : j < C.length
                              · have hin' : (j : Int) < (C.length : Int) := by omega
                                have hx1 := HMk.out.1.2 j hin
                                obtain ⟨bb, ob, rfl, -, h1⟩ := r1.open (by rw [HMk.out.1.1]; omega)
                                have d0 := h1 j _ hx1 0 (by decide); have d1 := h1 j _ hx1 1 (by decide); have d2' := h1 j _ hx1 2 (by decide); have d3 := h1 j _ hx1 3 (by decide)
                                simp [inc] at d0 d1 d2' d3
                                clear h1 hx1 r2 y2 y4
                                go_upto_region 59 with fail
                                go_quiet (fail)
                                clear hw1 hw2
                                go_wp2_with fail
                                go_roundw
                                case rel => exact ⟨j + 1, by omega, by go_num, HBn _⟩
                                case measure => simp [intOf]; omega
                              · have hin' : ¬ (j : Int) < (C.length : Int) := by omega
                                clear r1 r2 y2 y4
                                go_upto_region 59 with fail
                                go_quiet (fail)
                                clear hw1 hw2
                                go_wp2_with fail
                                go_roundw
                                case rel => exact ⟨j + 1, by omega, by go_num, HBn _⟩
                                case measure => simp [intOf]; omega
                            · have hlt9' : ¬ (j : Int) < (C.length : Int) + 1 := by omega
                              clear hlt9 hj y1 y2 y4
                              go_upto_region 62 with fail
                              clear y3
                              go_loopw [25] (fun x25 wr => ∃ (j : Nat), j ≤ E.length + 1 ∧ x25 = .int .i64 (j : Int) ∧ Hid (Below wz.heap.size wz wr)) (fun x25 _ => E.length + 1 - (intOf x25).toNat)
                              case atStart => exact ⟨0, Nat.zero_le _, rfl, HBj⟩
                              case round =>
                                obtain ⟨j, hj, rfl, HBl⟩ := hrel
                                generalize wr = wl at *
                                clear HBj
                                obtain ⟨⟨⟨y1, y2⟩, y3, y4⟩, -, -⟩ := HCl.out _ HBl.out
                                by_cases hlt9 : j < E.length + 1
                                · have hlt9' : (j : Int) < (E.length : Int) + 1 := by omega
                                  have hx2 := HMk.out.2.2.2.2 j hlt9
                                  obtain ⟨⟨-, -, r1, r2⟩, -, -⟩ := HRw.out _ HBl.out
                                  obtain ⟨ba, oa, rfl, -, h2⟩ := r2.open (by rw [HMk.out.2.2.2.1]; omega)
                                  have c0 := h2 j (by rw [HMk.out.2.2.2.1]; omega)
                                  rw [List.getD, hx2] at c0
                                  simp only [Option.getD_some] at c0
                                  clear h2 hx2
                                  by_cases hin : j < E.length
                                  · have hin' : (j : Int) < (E.length : Int) := by omega
                                    have hx1 := HMk.out.2.1.2 j hin
                                    obtain ⟨bb, ob, rfl, -, h1⟩ := r1.open (by rw [HMk.out.2.1.1]; omega)
                                    have d0 := h1 j (by rw [HMk.out.2.1.1]; omega)
                                    rw [List.getD, hx1] at d0
                                    simp only [Option.getD_some] at d0
                                    clear h1 hx1 r2 y1 y3
                                    go_wp2_with fail
                                    go_roundw
                                    case rel => exact ⟨j + 1, by omega, by go_num, HBl⟩
                                    case measure => simp [intOf]; omega
                                  · have hin' : ¬ (j : Int) < (E.length : Int) := by omega
                                    clear r1 r2 y1 y3
                                    go_wp2_with fail
                                    go_roundw
                                    case rel => exact ⟨j + 1, by omega, by go_num, HBl⟩
                                    case measure => simp [intOf]; omega
                                · have hlt9' : ¬ (j : Int) < (E.length : Int) + 1 := by omega
                                  clear hlt9 hj y1 y2 y3
                                  go_wp2_with fail
                                  go_roundw
                                  case rel => exact ⟨q + 1, by omega, by go_num, HBl⟩
                                  case measure => simp [intOf]; omega
                    · have hnq : ¬ (q : Int) < 3 := by omega
                      have hBa := below_to HBe.out HBq.out
                      have s0 := (KS.out.later hBa).cell 0; have s1 := (KS.out.later hBa).cell 1; have s2 := (KS.out.later hBa).cell 2
                      simp at s0 s1 s2
                      have HBa := hide_ hBa
                      clear hlt hq hBa
                      go_wp2_with fail
                      refine (HE6.out _ HBa.out).mono ?_
                      rintro e wd ⟨⟨vbd, rfl, HOd⟩, hBd⟩
                      obtain ⟨gd, cd, hvd, hrd, -⟩ := bown_open HOd.out (by omega)
                      subst hvd
                      obtain ⟨we, hwe⟩ : ∃ wx, wx = wd.alloc (.cells #[.int .i64 0, .int .i64 0] 32) := ⟨_, rfl⟩
                      have hBe : Below wd.heap.size wd we := by rw [hwe]; exact below1 _ _
                      have ke : Blk we wd.heap.size 32 [.int .i64 0, .int .i64 0] := by rw [hwe]; exact Blk.newA wd _ _
                      have f0 := ke.cell 0
                      simp at f0
                      have cvd := HCv.out we gd cd (Row.later hrd hBe)
                      have HBf := hide_ (below_to HB6.out (below_to HBa.out (below_to hBd hBe)))
                      clear s0 s1 s2 hBd hBe ke hrd HOd
                      go_upto_region 67 with fail
                      rw [← hwe]
                      clear hwe
                      go_wp2_with (go_at_call 16; refine (HNu.out _ _).mono ?_; rintro e w' ⟨rfl, rfl⟩)
                      go_ret
                      exact ⟨by simp, by rw [← HgP.out] at HBf; first | exact HBf.out | (rw [HgP.out] at HBf; exact HBf.out)⟩
end Go.Proofs.YtjojbfendkodgaaDoor
/- What the reading of a program says of memory. -/
namespace Go.Proofs.YtjojbfendkodgaaDoor
open Go.ChangeShapes Go.WideShapes Go.ChangeAt Go.RowKit
set_option linter.unusedVariables false

variable {H : Type} {enc : TypeId × Value → H} {w : World} {base : Nat} {held : Bool}
theorem len3P {cs : List Value} (h : cs.length = 3) : ∃ c0 c1 c2, cs = [c0, c1, c2] := by
  match cs, h with
  | [c0, c1, c2], _ => exact ⟨c0, c1, c2, rfl⟩
theorem len4P {cs : List Value} (h : cs.length = 4) : ∃ c0 c1 c2 c3, cs = [c0, c1, c2, c3] := by
  match cs, h with
  | [c0, c1, c2, c3], _ => exact ⟨c0, c1, c2, c3, rfl⟩
theorem cellsIn : Tryd.prog.cellsOf 28 = 4 := by kernel_rfl
theorem cellsPg : Tryd.prog.cellsOf 26 = 3 := by kernel_rfl
theorem cellsIt : Tryd.prog.cellsOf 3 = 1 := by kernel_rfl
theorem bytesIn : Tryd.prog.bytesOf 28 = 32 := by kernel_rfl
theorem bytesIt : Tryd.prog.bytesOf 3 = 8 := by kernel_rfl
theorem slice_weightP {P : Program} {t e : TypeId} (ht : P.underlying t = some (.slice e)) {fuel : Nat} {a0 : Option Addr} {len cap : Nat} {y : DataW H × List MemPlace} (h : DataW.trod enc P w base (fun _ => true) held fuel t [.slice a0 len cap] = some y) : len = 0 ∨ ∃ k, len ≤ k ∧ k * P.bytesOf e ∈ y.1.weights P t := by
  rcases Go.Deep.open_slice ht h with ⟨hcs, _⟩ | ⟨x, l, c, m, n, D, Pl, hcs, _, hl, hm, hmm, hy, hel⟩
  · left
    simp at hcs
    exact hcs.2.1
  · simp at hcs
    obtain ⟨rfl, rfl, rfl⟩ := hcs
    right
    subst hy
    simp only [DataW.weights, ht]
    refine ⟨_, ?_, List.mem_cons_self⟩
    simp
theorem slice_formP {P : Program} {t e : TypeId} (ht : P.underlying t = some (.slice e)) {fuel : Nat} {c : Value} {y : DataW H × List MemPlace} (h : DataW.trod enc P w base (fun _ => true) held fuel t [c] = some y) : ∃ a n cap, c = .slice a n cap ∧ n ≤ cap ∧ (a = none → cap = 0) ∧ n ≤ maxLen ∧ cap ≤ maxLen := by
  rcases Go.Deep.open_slice ht h with ⟨hcs, _⟩ | ⟨x, l, c', m, n, D, Pl, hcs, _, hl, hm, _⟩
  · simp at hcs
    exact ⟨none, 0, 0, hcs, Nat.le_refl _, fun _ => rfl, Nat.zero_le _, Nat.zero_le _⟩
  · simp at hcs
    exact ⟨some x, l, c', hcs, hl, (fun h => by cases h), Nat.le_trans hl hm, hm⟩
theorem list_ofP {α : Type} (n : Nat) (Q : Nat → α → Prop) (h : ∀ i, i < n → ∃ x, Q i x) : ∃ l : List α, l.length = n ∧ ∀ i x, l[i]? = some x → Q i x := by
  induction n with
  | zero => exact ⟨[], rfl, fun i x h => by simp at h⟩
  | succ n ih =>
    obtain ⟨l, h1, h2⟩ := ih (fun i hi => h i (by omega))
    obtain ⟨x, hx⟩ := h n (by omega)
    refine ⟨l ++ [x], by simp [h1], fun i y hy => ?_⟩
    rcases Nat.lt_or_ge i l.length with hi | hi
    · rw [List.getElem?_append_left hi] at hy; exact h2 i y hy
    · rw [List.getElem?_append_right hi] at hy
      have h0 : i - l.length = 0 := by have := (List.getElem?_eq_some_iff.1 hy).1; simpa using this
      rw [h0] at hy
      simp at hy
      subst hy
      obtain rfl : i = n := by omega
      exact hx
theorem instr_open {fuel : Nat} {cs : List Value} {y : DataW H × List MemPlace} (h : DataW.trod enc Tryd.prog w base (fun _ => true) held fuel 28 cs = some y) : ∃ x : In, cs = inc x := by
  obtain ⟨hl, m, hf⟩ := field_read Tryd.underlying28 h
  rw [cellsIn] at hl
  obtain ⟨c0, c1, c2, c3, rfl⟩ := len4P hl
  obtain ⟨y0, t0⟩ := hf 0 _ c0 rfl (by kernel_rfl) rfl
  obtain ⟨y1, t1⟩ := hf 1 _ c1 rfl (by kernel_rfl) rfl
  obtain ⟨y2, t2⟩ := hf 2 _ c2 rfl (by kernel_rfl) rfl
  obtain ⟨y3, t3⟩ := hf 3 _ c3 rfl (by kernel_rfl) rfl
  obtain ⟨a0, k0, _, _⟩ := DataW.trod_int Tryd.underlying3 t0
  obtain ⟨a1, k1, _, _⟩ := DataW.trod_int Tryd.underlying3 t1
  obtain ⟨a2, k2, _, _⟩ := DataW.trod_int Tryd.underlying3 t2
  obtain ⟨a3, k3, _, _⟩ := DataW.trod_int Tryd.underlying3 t3
  simp at k0 k1 k2 k3
  subst k0 k1 k2 k3
  exact ⟨⟨a0, a1, a2, a3⟩, rfl⟩
theorem instrs_open {fuel : Nat} {c : Value} {y : DataW H × List MemPlace} (h : DataW.trod enc Tryd.prog w base (fun _ => true) held fuel 23 [c] = some y) (hw : ∀ k ∈ y.1.weights Tryd.prog 23, k ≤ 140737488351232) :
    ∃ a cap l, c = .slice a l.length cap ∧ l.length ≤ cap ∧ (a = none → cap = 0) ∧ IRow w a l ∧ l.length ≤ 4398046510976 ∧ cap ≤ 9223372036854775807 := by
  obtain ⟨a, n, cap, rfl, hc, hz, _, hmx⟩ := slice_formP Tryd.underlying23 h
  unfold maxLen at hmx
  have hb : n ≤ 4398046510976 := by
    rcases slice_weightP Tryd.underlying23 h with h0 | ⟨k, h1, h2⟩
    · omega
    · have := hw _ h2
      rw [bytesIn] at this
      omega
  rcases structs_read Tryd.underlying23 (by rw [cellsIn]; omega) h with h0 | ⟨b, off, m, rfl, hbl, hlc, hcm, hel⟩
  · subst h0
    exact ⟨a, cap, [], rfl, hc, hz, .inl rfl, by simp, by omega⟩
  · rw [cellsIn] at hel
    obtain ⟨N, hN, hQ⟩ := list_ofP n (fun i (x : In) => ∀ j, j < 4 → w.cell? ⟨b, off + i * 4 + j, none⟩ = (inc x)[j]?) (fun i hi => by
      obtain ⟨cs, z, _, hcell, ht⟩ := hel i hi
      obtain ⟨x, rfl⟩ := instr_open ht
      exact ⟨x, hcell⟩)
    subst hN
    exact ⟨some ⟨b, off, none⟩, cap, N, rfl, hc, hz, .inr ⟨b, off, rfl, hbl, fun i x hx => hQ i x hx⟩, hb, by omega⟩
theorem prog_open {fuel : Nat} {cs : List Value} {y : DataW H × List MemPlace} (h : DataW.trod enc Tryd.prog w base (fun _ => true) held fuel 26 cs = some y) (hw : ∀ k ∈ y.1.weights Tryd.prog 26, k ≤ 140737488351232) :
    ∃ en ac cc C ae ce E, cs = [.bool en, .slice ac C.length cc, .slice ae E.length ce] ∧ C.length ≤ cc ∧ (ac = none → cc = 0) ∧ IRow w ac C ∧ C.length ≤ 4398046510976 ∧ cc ≤ 9223372036854775807 ∧ E.length ≤ ce ∧ (ae = none → ce = 0) ∧ Row .i64 w ae E ∧ E.length ≤ 17592186043904 := by
  obtain ⟨hl, m, hf⟩ := field_weigh Tryd.underlying26 h
  rw [cellsPg] at hl
  obtain ⟨c0, c1, c2, rfl⟩ := len3P hl
  obtain ⟨y0, t0, u0⟩ := hf 0 _ c0 rfl (by kernel_rfl) rfl
  obtain ⟨y1, t1, u1⟩ := hf 1 _ c1 rfl (by kernel_rfl) rfl
  obtain ⟨y2, t2, u2⟩ := hf 2 _ c2 rfl (by kernel_rfl) rfl
  obtain ⟨en, k0, _⟩ := DataW.trod_bool Tryd.underlying4 t0
  obtain ⟨ac, cc, C, rfl, e1, e2, e3, e4, e5⟩ := instrs_open t1 (fun k hk => hw k (u1 k hk))
  obtain ⟨ae, n, ce, E, rfl, f1, f2, f3, f4, f5, -, f6⟩ := row_weigh Tryd.underlying24 Tryd.underlying3 cellsIt t2
  simp at k0
  subst k0 f3
  refine ⟨en, ac, cc, C, ae, ce, E, rfl, e1, e2, e3, e4, e5, f1, f5, f4, ?_⟩
  rcases f6 with h | h
  · omega
  · have := hw _ (u2 _ h)
    rw [bytesIt] at this
    omega
end Go.Proofs.YtjojbfendkodgaaDoor
/- What the rows' lists of laid variables give, and a world in which they hold. -/
namespace Go.Proofs.YtjojbfendkodgaaDoor
open Go.RowKit
set_option linter.unusedVariables false

theorem own : ownKnob Tryd.prog.godebug = none := by kernel_rfl
theorem laidOut : laidOutB Tryd.prog = true := by kernel_rfl
theorem gPow : Tryd.prog.globalNamed "internal/strconv.uint64pow10" = some 0 := by kernel_rfl
theorem gPowT : (Tryd.prog.globals[0]?).map (·.type) = some 123 := by kernel_rfl
theorem cellsPow : Tryd.prog.cellsOf 123 = 20 := by kernel_rfl
theorem laid_pow : (Rows.laid_internal_strconv_uint64pow10 : DataW Unit) = Lib.tabData .u64 Lib.pow10Tab := by kernel_rfl
theorem tab_of {W : World} (h : laidMetH Tryd.prog Rows.codeLimitsRow.laid W) : TabB W.heap.size W := by
  have h1 : laidMet Tryd.prog Rows.codeLimitsRow.laid W := h
  have h2 : laidMet Tryd.prog [("internal/strconv.uint64pow10", Rows.laid_internal_strconv_uint64pow10)] W := laidMet.tail (laidMet.tail h1)
  rw [laid_pow] at h2
  have h3 := Lib.tabIs_of_head (e := 59) gPow gPowT (by kernel_rfl) (by kernel_rfl) (by kernel_rfl) cellsPow h2
  have h4 := World.block_lt_of_cell? W _ (h3.cell gPow 0 (by decide))
  intro w' hB
  unfold Lib.TabIs World.var? at *
  rw [gPow] at h3 ⊢
  simp only [Option.bind_some] at h3 ⊢
  rw [hB.block 0 h4]
  exact h3
/-- The settled world w, the tables (blocks 0, 1, 2) holding what their initialisers lay. -/
def laidIn (w : World) : World :=
  { w with heap := ((w.heap.modify 0 fun
      | .cells _ t frozen => .cells (Lib.pow10Tab.map fun z => Value.int .u64 z).toArray t frozen
      | o => o).modify 1 fun
      | .cells _ t frozen => .cells #[.int .u8 0, .int .u8 1, .int .u8 28, .int .u8 2, .int .u8 29, .int .u8 14, .int .u8 24, .int .u8 3, .int .u8 30, .int .u8 22, .int .u8 20, .int .u8 15, .int .u8 25, .int .u8 17, .int .u8 4, .int .u8 8, .int .u8 31, .int .u8 27, .int .u8 13, .int .u8 23, .int .u8 21, .int .u8 19, .int .u8 16, .int .u8 7, .int .u8 26, .int .u8 12, .int .u8 18, .int .u8 6, .int .u8 11, .int .u8 5, .int .u8 10, .int .u8 9] t frozen
      | o => o).modify 2 fun
      | .cells _ t frozen => .cells #[.int .u8 0, .int .u8 1, .int .u8 56, .int .u8 2, .int .u8 57, .int .u8 49, .int .u8 28, .int .u8 3, .int .u8 61, .int .u8 58, .int .u8 42, .int .u8 50, .int .u8 38, .int .u8 29, .int .u8 17, .int .u8 4, .int .u8 62, .int .u8 47, .int .u8 59, .int .u8 36, .int .u8 45, .int .u8 43, .int .u8 51, .int .u8 22, .int .u8 53, .int .u8 39, .int .u8 33, .int .u8 30, .int .u8 24, .int .u8 18, .int .u8 12, .int .u8 5, .int .u8 63, .int .u8 55, .int .u8 48, .int .u8 27, .int .u8 60, .int .u8 41, .int .u8 37, .int .u8 16, .int .u8 46, .int .u8 35, .int .u8 44, .int .u8 21, .int .u8 52, .int .u8 32, .int .u8 23, .int .u8 11, .int .u8 54, .int .u8 26, .int .u8 40, .int .u8 15, .int .u8 34, .int .u8 20, .int .u8 31, .int .u8 10, .int .u8 25, .int .u8 14, .int .u8 19, .int .u8 9, .int .u8 13, .int .u8 8, .int .u8 7, .int .u8 6] t frozen
      | o => o }
end Go.Proofs.YtjojbfendkodgaaDoor
/- CodeApart, out of its walk. The frame round the walk is that of the tool proof-skeleton. -/
namespace Go.Proofs.YtjojbfendkodgaaDoor.codeApart
open Go.ChangeMaps Go.ChangeShapes Go.WideShapes Go.ChangeAt Go.RowKit
set_option linter.unusedVariables false

theorem tab_here {W : World} (h : laidMetH Tryd.prog Rows.codeApartRow.laid W) : TabB W.heap.size W := tab_of h
set_option maxRecDepth 100000 in
theorem contract (H : Type) (enc : TypeId × Value → H) (W : World) (base : Nat) (args : Array Value) (ds gs : List (DataW H)) (before : List MemPlace)
    (hval : ∀ (j : Nat) t v, Tryd.f6.params[j]? = some t → args[j]? = some v → Value.okWide Tryd.prog W .any base t v)
    (hW : DataW.Whole enc Tryd.prog Tryd.f6.params.toList Rows.codeApartSpec.vars false W args.toList ds gs before) (hsz0 : (DataW.weightsEach Tryd.prog (Tryd.f6.params.toList ++ Rows.codeApartSpec.plain.varTypes Tryd.prog) (ds ++ gs)).all (· ≤ reachBytes) = true) (hL : laidMetH Tryd.prog Rows.codeApartRow.laid W) :
    Calls Tryd.prog 6 args W fun e W' => ∃ v, e = .returned v ∧ Rows.codeApartSpec.post enc Tryd.prog Tryd.f6 false true false false W args v W' := by
  have hsz := hsz0
  have hW' := hW
  obtain ⟨p, q, hA0, hV, rfl, hfz, hnd⟩ := hW
  have hA : DataW.TrodAll enc Tryd.prog W 0 (fun _ => true) true Tryd.f6.params.toList args.toList ds p := hA0
  rw [Tryd.params6] at hA hval hsz
  obtain ⟨v0, vs0, d0, ds0, p0, q0, hargs, rfl, rfl, h0, r0⟩ := trodAll_cons hA
  obtain ⟨rfl, rfl, rfl⟩ := trodAll_nil r0
  obtain rfl : args = #[v0] := by cases args; simp_all
  obtain ⟨rfl, rfl⟩ := trodVars_none hV
  obtain ⟨cs0, rfl, _⟩ := okWide_struct Tryd.underlying26 (hval 0 26 v0 rfl rfl)
  have k0 := h0
  have lt0 : ∀ x ∈ p0, x.block < W.heap.size := by obtain ⟨m, hm⟩ := k0; exact DataW.trod_lt m _ _ _ hm
  have walk : Calls Tryd.prog 6 #[.agg cs0] W fun e w' => e = .returned (.bool true) ∧ Below W.heap.size W w' := by
    have reach : ∀ (n : Nat), decide (n ≤ reachBytes) = true → n ≤ 140737488351232 := fun n hm => by
      have hm2 : n ≤ reachBytes := of_decide_eq_true hm
      rw [show reachBytes = 140737488351232 from rfl] at hm2
      exact hm2
    obtain ⟨fuel0, hf0⟩ := h0
    obtain ⟨en0, ac0, cc0, C0, ae0, ce0, E0, hcs0, hcC0, hnC0, hC0, hlC0, hmC0, hcE0, hnE0, hE0, hlE0⟩ := prog_open hf0 (fun n hn => reach n (List.all_eq_true.1 hsz _ (DataW.weights_mem_each (j := 0) rfl rfl _ hn)))
    have e0 : cs0 = #[.bool en0, .slice ac0 C0.length cc0, .slice ae0 E0.length ce0] := by
      have : cs0.toList = [.bool en0, .slice ac0 C0.length cc0, .slice ae0 E0.length ce0] := hcs0
      exact Array.toList_inj.1 this
    subst e0
    exact apart_any en0 ac0 ae0 cc0 ce0 C0 E0 W (by omega) (by omega) hnC0 hnE0 (hide_ hC0) (hide_ hE0) (hide_ (tab_here hL))
  clear hA0
  refine walk.mono fun e W' ⟨he, bel⟩ => ?_
  subst he
  exact ⟨_, rfl, _, _, _, [], _, [], hW', trodAll_mk1 (shut_bool Tryd.underlying4 _), (trodAll_cons_mk (Below.trod laidOut (by kernel_rfl) (of_decide_eq_true (by kernel_rfl)) k0 bel lt0) trodAll_mk0), rfl, bel.frame _, fun h => by cases h⟩

def wit : Array Value := #[.agg #[.bool false, .slice none 0 0, .slice none 0 0]]
theorem laid_met (os : Os) : laidMet Tryd.prog Rows.codeApartRow.laid ((laidIn (World.holding Tryd.prog os ⟨#[], #[], []⟩)).forCall (fun _ _ => 0) ⟨#[], wit, []⟩).memory :=
  laidMet_of_run' 8 (by kernel_rfl) (by kernel_rfl)
theorem reads (os : Os) {H : Type} (enc : TypeId × Value → H) : ∃ ds places, DataW.whole enc Tryd.prog ((laidIn (World.holding Tryd.prog os ⟨#[], #[], []⟩)).forCall (fun _ _ => 0) ⟨#[], wit, []⟩).memory Tryd.f6.params.toList Rows.codeApartSpec.vars false wit.toList 8 = some (ds, [], places) :=
  ⟨[.agg [.lit (.bool false), .nil, .nil]], [], by kernel_rfl⟩

set_option maxRecDepth 100000 in
theorem lifted (os : Os) (started : os.Started) (H : Type) (enc : TypeId × Value → H) (F : Stop.Interp) :
    ReturnsInHanded {} Tryd.checked os 6 .any ((OpenSpec.ofChange Rows.codeApartSpec).preRow enc Tryd.prog Tryd.f6 Rows.codeApartRow.domain false Rows.codeApartRow.laid) (((OpenSpec.ofChange Rows.codeApartSpec).at F).post enc Tryd.prog Tryd.f6 false true false false) := by
  obtain ⟨ds, places, hx⟩ := reads os enc
  refine returnsInHanded_of_row (C := Tryd.checked) (s := OpenSpec.ofChange Rows.codeApartSpec) own started (by kernel_rfl) Tryd.func6
    (witness_row_at (enc := enc) (C := Tryd.checked) false (laidIn (World.holding Tryd.prog os ⟨#[], #[], []⟩)) wit rfl (by kernel_rfl) (by kernel_rfl) (by kernel_rfl)
      (OpenSpec.preRow_of_cond 8 hx (by kernel_rfl) (fun k hk => by cases hk) (by kernel_rfl) (laid_met os))) ?_
  intro W base args ds gs before hval hW _ _ hsz hL _ _
  exact contract H enc W base args ds gs before hval hW hsz hL

theorem said : Rows.CodeApartSaid :=
  OpenClaim.holds_of_cond 6 Tryd.f6 rfl rfl rfl rfl rfl rfl rfl ⟨rfl, rfl, rfl, rfl, rfl⟩ rfl rfl rfl rfl rfl (by kernel_rfl) Tryd.func6 (by kernel_rfl)
    (of_decide_eq_true (by kernel_rfl)) (by unfold Func.isWrapper; first | (rw [if_pos (by decide +kernel)]; kernel_rfl) | (rw [if_neg (by decide +kernel)]; exact ⟨rfl, rfl⟩))
    (fun os started H enc _ F => by rw [OpenClaim.pre_eq_preRow]; exact lifted os started H enc F)

theorem plain (f : FuncId) (fn : Func) (hf : Tryd.pinned.checked.prog.funcNamed "mortise/mortiselaw14.CodeApart" = some f) (hfn : Tryd.pinned.checked.prog.funcs[f]? = some fn) :
    false = Tryd.pinned.checked.prog.looks [] ∧ ∀ (j : Nat) t, fn.params[j]? = some t → Tryd.pinned.checked.prog.wantsStandIn t = false := by
  obtain rfl : f = 6 := Option.some.inj ((show Tryd.prog.funcNamed "mortise/mortiselaw14.CodeApart" = some 6 by kernel_rfl).symm.trans hf) |>.symm
  obtain rfl : fn = Tryd.f6 := (Option.some.inj (Tryd.func6.symm.trans hfn)).symm
  refine ⟨by kernel_rfl, fun j t ht => ?_⟩
  rw [Tryd.params6] at ht
  have hm := Array.mem_of_getElem? ht
  simp only [List.mem_toArray, List.mem_cons, List.not_mem_nil, or_false] at hm
  rcases hm with rfl <;> (show Tryd.prog.wantsStandIn _ = false; kernel_rfl)

theorem card : Rows.CodeApartCardSaid :=
  Claim7.holds_tied_plain_at .later [] _ _ _ _ said (fun _ h => by cases h) (by kernel_rfl) (fun _ h => by cases h) codeApart_row_tie rfl ⟨rfl, rfl⟩ (by kernel_rfl) rfl plain (by kernel_rfl)
end Go.Proofs.YtjojbfendkodgaaDoor.codeApart
namespace Go.Proofs.YtjojbfendkodgaaDoor
theorem codeApart_holds : Rows.CodeApartCardSaid := codeApart.card
#print axioms codeApart_holds
end Go.Proofs.YtjojbfendkodgaaDoor
