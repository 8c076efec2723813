import Derived.Test.YtbgjgbddpcofcaaGreatDoorPart19
import Derived.Test.YtbgjgbddpcofcaaGreatDoorPart22

/- Types of a source, plain: what Build makes. -/
namespace Go.Proofs.YtbgjgbddpcofcaaGreatDoor
open Go.RowKit
set_option linter.unusedVariables false

/-- The type that a node makes, its kids being made. -/
def mdT (x : Nd) (ps : List Ptz) : Ty := ⟨x.k, x.n, if x.k = 4 ∨ x.k = 5 ∨ x.k = 6 then (ps.headD pt0).ty else 0, if x.k = 7 ∨ x.k = 8 then ps else []⟩
/-- The types of n trees, one behind the other: a part for each, what is left of the nodes, all types so far. -/
def bF (kn : ByteArray → Option Nat) : Nat → Nat → List Nd → List Ty → List Ptz × List Nd × List Ty
  | 0, _, N, T => ([], N, T)
  | _ + 1, 0, N, T => ([], N, T)
  | _ + 1, _ + 1, [], T => ([], [], T)
  | fu + 1, n + 1, x :: N, T =>
    let a := bF kn fu x.kids.toNat N T
    let b := bF kn fu n a.2.1 (if x.k = 9 then a.2.2 else a.2.2 ++ [mdT x a.1])
    (⟨x.label, x.tag, if x.k = 9 then (((kn x.name).getD 0 : Nat) : Int) else (a.2.2.length : Int)⟩ :: b.1, b.2)
theorem bF_zero (kn : ByteArray → Option Nat) (fu : Nat) (N : List Nd) (T : List Ty) : bF kn fu 0 N T = ([], N, T) := by cases fu <;> rfl
theorem bF_cons (kn : ByteArray → Option Nat) (fu n : Nat) (x : Nd) (N : List Nd) (T : List Ty) :
    bF kn (fu + 1) (n + 1) (x :: N) T = ((bF kn (fu + 1) 1 (x :: N) T).1 ++ (bF kn fu n (bF kn (fu + 1) 1 (x :: N) T).2.1 (bF kn (fu + 1) 1 (x :: N) T).2.2).1, (bF kn fu n (bF kn (fu + 1) 1 (x :: N) T).2.1 (bF kn (fu + 1) 1 (x :: N) T).2.2).2) := by
  simp only [bF, bF_zero, List.singleton_append]
theorem bF_rest (kn : ByteArray → Option Nat) : ∀ (fu d : Nat) (k : Int) (n : Nat) (N : List Nd), Forest fu d k n N → ∀ (M : List Nd) (T : List Ty), (bF kn fu n (N ++ M) T).2.1 = M
  | 0, d, k, n, N, h, M, T => by
    obtain ⟨rfl, rfl⟩ := h
    rfl
  | fu + 1, d, k, 0, N, h, M, T => by
    have h : N = [] := h
    subst h
    rfl
  | fu + 1, d, k, n + 1, N, h, M, T => by
    obtain ⟨x, A, B, rfl, h1, h2, h3⟩ := h
    have e1 := bF_rest kn fu (d + 1) x.k x.kids.toNat A h2 (B ++ M) T
    have e : x :: (A ++ B) ++ M = x :: (A ++ (B ++ M)) := by simp
    rw [e]
    simp only [bF, e1]
    exact bF_rest kn fu d k n B h3 M _
theorem bF_len (kn : ByteArray → Option Nat) : ∀ (fu d : Nat) (k : Int) (n : Nat) (N : List Nd), Forest fu d k n N → ∀ (M : List Nd) (T : List Ty), T.length ≤ (bF kn fu n (N ++ M) T).2.2.length ∧ (bF kn fu n (N ++ M) T).2.2.length ≤ T.length + N.length ∧ (bF kn fu n (N ++ M) T).1.length = n
  | 0, d, k, n, N, h, M, T => by
    obtain ⟨rfl, rfl⟩ := h
    exact ⟨Nat.le_refl _, Nat.le_refl _, rfl⟩
  | fu + 1, d, k, 0, N, h, M, T => by
    have h : N = [] := h
    subst h
    exact ⟨Nat.le_refl _, Nat.le_refl _, rfl⟩
  | fu + 1, d, k, n + 1, N, h, M, T => by
    obtain ⟨x, A, B, rfl, h1, h2, h3⟩ := h
    have e1 := bF_rest kn fu (d + 1) x.k x.kids.toNat A h2 (B ++ M) T
    obtain ⟨l1, l2, -⟩ := bF_len kn fu (d + 1) x.k x.kids.toNat A h2 (B ++ M) T
    have e : x :: (A ++ B) ++ M = x :: (A ++ (B ++ M)) := by simp
    rw [e]
    simp only [bF, e1]
    obtain ⟨m1, m2, m3⟩ := bF_len kn fu d k n B h3 M (if x.k = 9 then (bF kn fu x.kids.toNat (A ++ (B ++ M)) T).2.2 else (bF kn fu x.kids.toNat (A ++ (B ++ M)) T).2.2 ++ [mdT x (bF kn fu x.kids.toNat (A ++ (B ++ M)) T).1])
    simp only [List.length_cons, List.length_append] at m1 m2 m3 ⊢
    by_cases h9 : x.k = 9
    · simp only [h9, if_true] at m1 m2 m3 ⊢
      exact ⟨by omega, by omega, by omega⟩
    · simp only [h9, if_false, List.length_append, List.length_singleton] at m1 m2 m3 ⊢
      exact ⟨by omega, by omega, by omega⟩
/-- The first number or tag out of its bounds. -/
def lbN : List Nd → Int × Int
  | [] => (0, 0)
  | x :: N => if ((x.k = 4 ∨ x.k = 5) ∧ ¬ (1 ≤ x.n ∧ x.n ≤ 1048576)) ∨ 255 < x.tag then (90, x.a) else lbN N
def lbD : List Df → Int × Int
  | [] => (0, 0)
  | d :: D => if (lbN d.ty).1 = 0 then lbD D else lbN d.ty
theorem lbN_zero : ∀ N : List Nd, (lbN N).1 = 0 → lbN N = (0, 0)
  | [], _ => rfl
  | x :: N, h => by
    unfold lbN at h ⊢
    split at h
    · cases h
    · rename_i h0
      rw [if_neg h0]
      exact lbN_zero N h
theorem lbD_zero : ∀ D : List Df, (lbD D).1 = 0 → lbD D = (0, 0)
  | [], _ => rfl
  | d :: D, h => by
    unfold lbD at h ⊢
    split at h
    · rename_i h0
      rw [if_pos h0]
      exact lbD_zero D h
    · rename_i h0
      exact absurd h h0
/-- One definition more is made. -/
def bD (kn : ByteArray → Option Nat) (T : List Ty) (d : Df) : (ByteArray → Option Nat) × List Ty :=
  let r := bF kn d.ty.length 1 d.ty T
  (fun t => if t = d.name then some ((r.1.headD pt0).ty.toNat) else kn t, r.2.2)
def bO (D : List Df) : List Nat → (ByteArray → Option Nat) → List Ty → (ByteArray → Option Nat) × List Ty
  | [], kn, T => (kn, T)
  | i :: o, kn, T => let r := bD kn T (D.getD i ⟨⟨#[]⟩, 0, []⟩); bO D o r.1 r.2
theorem bO_snoc (D : List Df) (i : Nat) : ∀ (o : List Nat) (kn : ByteArray → Option Nat) (T : List Ty), bO D (o ++ [i]) kn T = bD (bO D o kn T).1 (bO D o kn T).2 (D.getD i ⟨⟨#[]⟩, 0, []⟩)
  | [], kn, T => rfl
  | j :: o, kn, T => by
    rw [List.cons_append, bO, bO]
    exact bO_snoc D i o _ _
def rtsP (D : List Df) (kn : ByteArray → Option Nat) : List Rt := D.map (fun d => ⟨d.name, (((kn d.name).getD 0 : Nat) : Int)⟩)
/-- What Build answers. -/
def BlTo (D : List Df) (T : List Ty) (R : List Rt) (E A : Int) : Prop :=
  if (ckP D).2.2 = 0 then
    ∃ E1 A1 o ds, LookTo D E1 A1 o ds ∧
      (if E1 = 0 ∧ A1 = 0 then
        (if (lbD D).1 = 0 then T = (bO D o (fun _ => none) []).2 ∧ R = rtsP D (bO D o (fun _ => none) []).1 ∧ E = 0 ∧ A = 0
        else T = [] ∧ R = [] ∧ E = (lbD D).1 ∧ A = (lbD D).2)
      else T = [] ∧ R = [] ∧ E = E1 ∧ A = A1)
  else T = [] ∧ R = [] ∧ E = (ckP D).2.2 ∧ A = 0
end Go.Proofs.YtbgjgbddpcofcaaGreatDoor

/- What is built is a schema, plain: types, numbers, uses. -/
namespace Go.Proofs.YtbgjgbddpcofcaaGreatDoor
open Go.RowKit
set_option linter.unusedVariables false

theorem nd_fine {x : Nd} {of : Int} {dp : Nat} (h : ndE x of dp = 0) :
    kindOk x.k x.n x.kids = true ∧ nameOk x.label (decide (of = 8)) = true ∧ (x.tag = 0 ∨ of = 7 ∧ numB x.tag = true) ∧ ((x.k = 8 ∨ x.k = 7) → x.kids ≤ 64) := by
  unfold ndE nodeE at h
  by_cases h1 : 16 < dp
  · rw [if_pos h1] at h; omega
  rw [if_neg h1] at h
  by_cases h2 : (x.k = 8 ∨ x.k = 7) ∧ 64 < x.kids
  · rw [if_pos h2] at h; omega
  rw [if_neg h2] at h
  by_cases h3 : kindOk x.k x.n x.kids = false ∨ nameOk x.name (decide (x.k = 9)) = false ∨ nameOk x.label (decide (of = 8)) = false
  · rw [if_pos h3] at h; omega
  rw [if_neg h3] at h
  by_cases h4 : x.tag ≠ 0 ∧ (of ≠ 7 ∨ numB x.tag = false)
  · rw [if_pos h4] at h; omega
  refine ⟨?_, ?_, ?_, fun hk => by
    rcases Int.lt_or_le 64 x.kids with h5 | h5
    · exact absurd ⟨hk, h5⟩ h2
    · exact h5⟩
  · cases e : kindOk x.k x.n x.kids with
    | false => exact absurd (.inl e) h3
    | true => rfl
  · cases e : nameOk x.label (decide (of = 8)) with
    | false => exact absurd (.inr (.inr e)) h3
    | true => rfl
  · by_cases e : x.tag = 0
    · exact .inl e
    · right
      by_cases e2 : of = 7
      · refine ⟨e2, ?_⟩
        cases e3 : numB x.tag with
        | false => exact absurd ⟨e, .inr e3⟩ h4
        | true => rfl
      · exact absurd ⟨e, .inl e2⟩ h4
theorem kind_cases {k n kids : Int} (h : kindOk k n kids = true) : (k = 1 ∧ (n = 1 ∨ n = 2 ∨ n = 4 ∨ n = 8) ∧ kids = 0) ∨ ((k = 2 ∨ k = 3 ∨ k = 9) ∧ n = 0 ∧ kids = 0) ∨ ((k = 4 ∨ k = 5) ∧ kids = 1) ∨ (k = 6 ∧ n = 0 ∧ kids = 1) ∨ ((k = 7 ∨ k = 8) ∧ n = 0 ∧ 0 < kids) := by
  unfold kindOk at h
  by_cases e1 : k = 1
  · rw [if_pos e1] at h; have := of_decide_eq_true h; omega
  rw [if_neg e1] at h
  by_cases e2 : k = 2 ∨ k = 3 ∨ k = 9
  · rw [if_pos e2] at h; have := of_decide_eq_true h; omega
  rw [if_neg e2] at h
  by_cases e3 : k = 4 ∨ k = 5
  · rw [if_pos e3, Bool.and_eq_true] at h
    have := of_decide_eq_true h.2; omega
  rw [if_neg e3] at h
  by_cases e4 : k = 6
  · rw [if_pos e4] at h; have := of_decide_eq_true h; omega
  rw [if_neg e4] at h
  by_cases e5 : k = 7 ∨ k = 8
  · rw [if_pos e5] at h; have := of_decide_eq_true h; omega
  · rw [if_neg e5] at h; cases h
/-- A number or a tag out of its bounds. -/
def badX (x : Nd) : Prop := ((x.k = 4 ∨ x.k = 5) ∧ ¬ (1 ≤ x.n ∧ x.n ≤ 1048576)) ∨ 255 < x.tag
theorem lbN_all : ∀ (N : List Nd), (lbN N).1 = 0 → ∀ x ∈ N, ¬ badX x
  | [], _, x, hx => by cases hx
  | y :: N, h, x, hx => by
    unfold lbN at h
    split at h
    · cases h
    · rename_i h0
      rcases List.mem_cons.1 hx with rfl | hx
      · exact h0
      · exact lbN_all N h x hx
theorem lbD_all : ∀ (D : List Df), (lbD D).1 = 0 → ∀ d ∈ D, (lbN d.ty).1 = 0
  | [], _, x, hx => by cases hx
  | e :: D, h, d, hd => by
    unfold lbD at h
    split at h
    · rename_i h0
      rcases List.mem_cons.1 hd with rfl | hd
      · exact h0
      · exact lbD_all D h d hd
    · rename_i h0
      exact absurd h h0
/-- A part stands rightly in a type of kind k. -/
def ptOk (k : Int) (q : Ptz) : Prop := nameOk q.label (decide (k = 8)) = true ∧ (q.tag = 0 ∨ k = 7 ∧ numB q.tag = true) ∧ q.tag ≤ 255
theorem allP_md {r : Ptz → Bool} {ps : List Ptz} {i : Int} (h0 : 0 < ps.length) (h64 : ps.length ≤ 64) (hr : ∀ p ∈ ps, r p = true ∧ 0 ≤ p.ty ∧ p.ty < i) (hn : (ps.map fun p => (p.label, p.tag)).Nodup) : allP r ps i = true := by
  unfold allP
  rw [Bool.and_eq_true, decide_eq_true_eq, List.all_eq_true]
  refine ⟨⟨h0, h64⟩, fun j hj => ?_⟩
  have hj := List.mem_range.1 hj
  have e : ps.getD j pt0 = ps[j]'hj := by simp [List.getD, hj]
  obtain ⟨h1, h2, h3⟩ := hr _ (List.getElem_mem hj)
  unfold okP
  rw [e, h1]
  have h4 : thereP (ps.take j) (ps[j]'hj) = false := by
    unfold thereP
    rw [List.any_eq_false]
    intro q hq hl
    obtain ⟨i', hi', e'⟩ := List.getElem_of_mem hq
    rw [List.length_take] at hi'
    rw [List.getElem_take] at e'
    have hp : ps.Pairwise (fun a b => (a.label, a.tag) ≠ (b.label, b.tag)) := List.pairwise_map.1 hn
    have := List.pairwise_iff_getElem.1 hp i' j (by omega) hj (by omega)
    unfold likeP at hl
    rw [Bool.and_eq_true, decide_eq_true_eq, decide_eq_true_eq] at hl
    rw [e'] at this
    exact this (by rw [hl.1, hl.2])
  rw [h4]
  unfold inB
  rw [decide_eq_true ⟨h2, h3⟩]
  rfl
theorem md_ok {x : Nd} {of : Int} {dp : Nat} {ps : List Ptz} {i : Nat} (hx : ndE x of dp = 0) (h9 : x.k ≠ 9) (hb : ¬ badX x) (hl : ps.length = x.kids.toNat) (hp : ∀ p ∈ ps, ptOk x.k p ∧ 0 ≤ p.ty ∧ p.ty < i) (hn : (ps.map fun p => (p.label, p.tag)).Nodup) : tyOk (mdT x ps) i = true := by
  obtain ⟨hk, -, -, h64⟩ := nd_fine hx
  have hc := kind_cases hk
  have hb1 : (x.k = 4 ∨ x.k = 5) → 1 ≤ x.n ∧ x.n ≤ 1048576 := fun h => by
    by_cases h0 : 1 ≤ x.n ∧ x.n ≤ 1048576
    · exact h0
    · exact absurd (.inl ⟨h, h0⟩) hb
  have e1 : nOk x.k x.n = true := by
    unfold nOk
    refine decide_eq_true ?_
    by_cases h4 : x.k = 4 ∨ x.k = 5
    · exact .inr (.inl ⟨h4, hb1 h4⟩)
    · omega
  have e2 : elemOk x.k (mdT x ps).e i = true := by
    unfold elemOk hasE
    by_cases h4 : x.k = 4 ∨ x.k = 5 ∨ x.k = 6
    · rw [if_pos (decide_eq_true h4)]
      have hk1 : x.kids = 1 := by omega
      rw [hk1] at hl
      obtain ⟨q, rfl⟩ : ∃ q, ps = [q] := List.length_eq_one_iff.1 hl
      have e : (mdT x [q]).e = q.ty := by unfold mdT; simp [h4]
      rw [e]
      have := (hp q (by simp)).2
      unfold inB
      exact decide_eq_true this
    · rw [if_neg (by simpa using h4)]
      have e : (mdT x ps).e = 0 := by unfold mdT; simp [h4]
      rw [e]
      rfl
  have e3 : partsOk x.k (mdT x ps).ps i = true := by
    unfold partsOk
    by_cases h8 : x.k = 8
    · have e : (mdT x ps).ps = ps := by unfold mdT; simp [h8]
      rw [if_pos h8, e]
      refine allP_md (by omega) (by have := h64 (.inl h8); omega) (fun p hpp => ?_) hn
      obtain ⟨⟨p1, p2, p3⟩, p4⟩ := hp p hpp
      refine ⟨?_, p4⟩
      unfold fieldOk
      rw [h8] at p1 p2
      have q1 : isName p.label = true := by simpa [nameOk] using p1
      rw [q1, decide_eq_true (by omega)]
      rfl
    · rw [if_neg h8]
      by_cases h7 : x.k = 7
      · have e : (mdT x ps).ps = ps := by unfold mdT; simp [h7]
        rw [if_pos h7, e]
        refine allP_md (by omega) (by have := h64 (.inr h7); omega) (fun p hpp => ?_) hn
        obtain ⟨⟨p1, p2, p3⟩, p4⟩ := hp p hpp
        refine ⟨?_, p4⟩
        unfold armOk
        rw [h7] at p1 p2
        have q1 : p.label.size = 0 := by simpa [nameOk] using p1
        have q2 : p.label = ⟨#[]⟩ := by
          have : p.label.data.size = 0 := q1
          cases hh : p.label with
          | mk dd => rw [hh] at this; congr 1; exact Array.size_eq_zero_iff.1 this
        have q3 : 0 ≤ p.tag := by
          rcases p2 with p2 | ⟨-, p2⟩
          · omega
          · unfold numB at p2; have := of_decide_eq_true p2; omega
        exact decide_eq_true ⟨q2, q3, p3⟩
      · have e : (mdT x ps).ps = [] := by unfold mdT; simp [h7, h8]
        rw [if_neg h7, e]
        rfl
  unfold tyOk
  have k1 : (mdT x ps).k = x.k := rfl
  have k2 : (mdT x ps).n = x.n := rfl
  rw [k1, k2, e1, e2, e3]
  rfl
def AllOk (T : List Ty) : Prop := ∀ j, j < T.length → tyOk (T.getD j ty0) j = true
theorem AllOk.snoc {T : List Ty} {t : Ty} (h : AllOk T) (ht : tyOk t T.length = true) : AllOk (T ++ [t]) := fun j hj => by
  rw [List.length_append, List.length_singleton] at hj
  by_cases e : j = T.length
  · subst e
    have : (T ++ [t]).getD T.length ty0 = t := by simp [List.getD]
    rw [this]
    exact ht
  · have : (T ++ [t]).getD j ty0 = T.getD j ty0 := by simp only [List.getD, List.getElem?_append_left (show j < T.length by omega)]
    rw [this]
    exact h j (by omega)
theorem bF_pre (kn : ByteArray → Option Nat) : ∀ (fu n : Nat) (N : List Nd) (T : List Ty), ∃ X, (bF kn fu n N T).2.2 = T ++ X
  | 0, n, N, T => ⟨[], by simp [bF]⟩
  | fu + 1, 0, N, T => ⟨[], by simp [bF]⟩
  | fu + 1, n + 1, [], T => ⟨[], by simp [bF]⟩
  | fu + 1, n + 1, x :: N, T => by
    obtain ⟨X, hX⟩ := bF_pre kn fu x.kids.toNat N T
    simp only [bF]
    by_cases h9 : x.k = 9
    · simp only [h9, if_true]
      obtain ⟨Y, hY⟩ := bF_pre kn fu n (bF kn fu x.kids.toNat N T).2.1 (bF kn fu x.kids.toNat N T).2.2
      exact ⟨X ++ Y, by rw [hY, hX, List.append_assoc]⟩
    · simp only [h9, if_false]
      obtain ⟨Y, hY⟩ := bF_pre kn fu n (bF kn fu x.kids.toNat N T).2.1 ((bF kn fu x.kids.toNat N T).2.2 ++ [mdT x (bF kn fu x.kids.toNat N T).1])
      exact ⟨X ++ ([mdT x (bF kn fu x.kids.toNat N T).1] ++ Y), by rw [hY]; generalize mdT x (bF kn fu x.kids.toNat N T).1 = z; rw [hX]; simp⟩
/-- The places of nodes among their parents' kids. -/
def trp (N : List Nd) (P : List Int) : List Pt := List.zipWith (fun x p => (p, x.label, x.tag)) N P
theorem par_app : ∀ (fu d : Nat) (k : Int) (n : Nat) (A : List Nd), Forest fu d k n A → ∀ (M : List Nd) (i : Nat) (p : Int) (st : List Int), ∃ Q, Q.length = A.length ∧ par (A ++ M) i (List.replicate n p ++ st) = Q ++ par M (i + A.length) st
  | 0, d, k, n, A, h, M, i, p, st => by
    obtain ⟨rfl, rfl⟩ := h
    exact ⟨[], rfl, by simp⟩
  | fu + 1, d, k, 0, A, h, M, i, p, st => by
    have h : A = [] := h
    subst h
    exact ⟨[], rfl, by simp⟩
  | fu + 1, d, k, n + 1, A, h, M, i, p, st => by
    obtain ⟨x, A1, B1, rfl, h1, h2, h3⟩ := h
    obtain ⟨Q1, l1, e1⟩ := par_app fu (d + 1) x.k x.kids.toNat A1 h2 (B1 ++ M) (i + 1) (i : Int) (List.replicate n p ++ st)
    obtain ⟨Q2, l2, e2⟩ := par_app fu d k n B1 h3 M (i + 1 + A1.length) p st
    refine ⟨p :: (Q1 ++ Q2), by simp [l1, l2], ?_⟩
    have e : x :: (A1 ++ B1) ++ M = x :: (A1 ++ (B1 ++ M)) := by simp
    rw [e, par, List.replicate_succ]
    simp only [List.cons_append, List.headD_cons, List.tail_cons]
    rw [e1, e2]
    simp only [List.length_cons, List.length_append, List.append_assoc]
    rw [show i + (A1.length + B1.length + 1) = i + 1 + A1.length + B1.length by omega]
theorem trp_app {A M : List Nd} {Q P : List Int} (h : Q.length = A.length) : trp (A ++ M) (Q ++ P) = trp A Q ++ trp M P := List.zipWith_append h.symm
theorem trp_roots (kn : ByteArray → Option Nat) : ∀ (fu d : Nat) (k : Int) (n : Nat) (A : List Nd), Forest fu d k n A → ∀ (M : List Nd) (i : Nat) (p : Int) (st : List Int) (T : List Ty), ((bF kn fu n (A ++ M) T).1.map (fun q => (p, q.label, q.tag))).Sublist (trp (A ++ M) (par (A ++ M) i (List.replicate n p ++ st)))
  | 0, d, k, n, A, h, M, i, p, st, T => by simp [bF]
  | fu + 1, d, k, 0, A, h, M, i, p, st, T => by simp [bF]
  | fu + 1, d, k, n + 1, A, h, M, i, p, st, T => by
    obtain ⟨x, A1, B1, rfl, h1, h2, h3⟩ := h
    obtain ⟨Q1, l1, e1⟩ := par_app fu (d + 1) x.k x.kids.toNat A1 h2 (B1 ++ M) (i + 1) (i : Int) (List.replicate n p ++ st)
    have r1 := bF_rest kn fu (d + 1) x.k x.kids.toNat A1 h2 (B1 ++ M) T
    have e : x :: (A1 ++ B1) ++ M = x :: (A1 ++ (B1 ++ M)) := by simp
    rw [e, par, List.replicate_succ]
    simp only [List.cons_append, List.headD_cons, List.tail_cons, bF, r1, List.map_cons]
    rw [e1]
    have ih := trp_roots kn fu d k n B1 h3 M (i + 1 + A1.length) p st (if x.k = 9 then (bF kn fu x.kids.toNat (A1 ++ (B1 ++ M)) T).2.2 else (bF kn fu x.kids.toNat (A1 ++ (B1 ++ M)) T).2.2 ++ [mdT x (bF kn fu x.kids.toNat (A1 ++ (B1 ++ M)) T).1])
    have e2 : trp (x :: (A1 ++ (B1 ++ M))) (p :: (Q1 ++ par (B1 ++ M) (i + 1 + A1.length) (List.replicate n p ++ st))) = (p, x.label, x.tag) :: (trp A1 Q1 ++ trp (B1 ++ M) (par (B1 ++ M) (i + 1 + A1.length) (List.replicate n p ++ st))) := by
      rw [← trp_app l1]
      rfl
    rw [e2]
    exact (ih.trans (List.sublist_append_right _ _)).cons_cons _
theorem bF_ok (kn : ByteArray → Option Nat) : ∀ (fu d : Nat) (k : Int) (n : Nat) (A : List Nd), Forest fu d k n A → ∀ (M : List Nd) (i : Nat) (p : Int) (st : List Int) (T : List Ty), (∀ x ∈ A, ¬ badX x) → (trp (A ++ M) (par (A ++ M) i (List.replicate n p ++ st))).Nodup → AllOk T →
    (∀ x ∈ A, x.k = 9 → ∃ t, kn x.name = some t ∧ t < T.length) → AllOk (bF kn fu n (A ++ M) T).2.2 ∧ ∀ q ∈ (bF kn fu n (A ++ M) T).1, ptOk k q ∧ 0 ≤ q.ty ∧ q.ty < (bF kn fu n (A ++ M) T).2.2.length
  | 0, d, k, n, A, h, M, i, p, st, T, hb, hn, hT, hk => ⟨by simpa [bF] using hT, fun q hq => by simp [bF] at hq⟩
  | fu + 1, d, k, 0, A, h, M, i, p, st, T, hb, hn, hT, hk => ⟨by simpa [bF] using hT, fun q hq => by simp [bF] at hq⟩
  | fu + 1, d, k, n + 1, A, h, M, i, p, st, T, hb, hn, hT, hk => by
    obtain ⟨x, A1, B1, rfl, h1, h2, h3⟩ := h
    obtain ⟨Q1, l1, e1⟩ := par_app fu (d + 1) x.k x.kids.toNat A1 h2 (B1 ++ M) (i + 1) (i : Int) (List.replicate n p ++ st)
    have r1 := bF_rest kn fu (d + 1) x.k x.kids.toNat A1 h2 (B1 ++ M) T
    obtain ⟨m1, -, m3⟩ := bF_len kn fu (d + 1) x.k x.kids.toNat A1 h2 (B1 ++ M) T
    have e : x :: (A1 ++ B1) ++ M = x :: (A1 ++ (B1 ++ M)) := by simp
    rw [e, par, List.replicate_succ] at hn
    simp only [List.cons_append, List.headD_cons, List.tail_cons] at hn
    have hn1 : (trp (A1 ++ (B1 ++ M)) (par (A1 ++ (B1 ++ M)) (i + 1) (List.replicate x.kids.toNat (i : Int) ++ (List.replicate n p ++ st)))).Nodup := (List.nodup_cons.1 hn).2
    have hb1 : ∀ y ∈ A1, ¬ badX y := fun y hy => hb y (by simp [hy])
    have hb2 : ∀ y ∈ B1, ¬ badX y := fun y hy => hb y (by simp [hy])
    obtain ⟨o1, o2⟩ := bF_ok kn fu (d + 1) x.k x.kids.toNat A1 h2 (B1 ++ M) (i + 1) (i : Int) (List.replicate n p ++ st) T hb1 hn1 hT (fun y hy => hk y (by simp [hy]))
    have hs := (trp_roots kn fu (d + 1) x.k x.kids.toNat A1 h2 (B1 ++ M) (i + 1) (i : Int) (List.replicate n p ++ st) T).nodup hn1
    have hs2 : ((bF kn fu x.kids.toNat (A1 ++ (B1 ++ M)) T).1.map (fun q => (q.label, q.tag))).Nodup := List.pairwise_map.2 ((List.pairwise_map.1 hs).imp (fun {a b} hab he => hab (by rw [Prod.mk.injEq] at he; rw [he.1, he.2])))
    have hn2 : (trp (B1 ++ M) (par (B1 ++ M) (i + 1 + A1.length) (List.replicate n p ++ st))).Nodup := by
      rw [e1, trp_app l1] at hn1
      exact (List.nodup_append.1 hn1).2.1
    rw [e]
    simp only [bF, r1]
    obtain ⟨-, c2, c3, -⟩ := nd_fine h1
    have c4 : x.tag ≤ 255 := by
      have := hb x (by simp)
      rcases Int.lt_or_le 255 x.tag with h5 | h5
      · exact absurd (.inr h5) this
      · exact h5
    generalize hX : bF kn fu x.kids.toNat (A1 ++ (B1 ++ M)) T = X at *
    by_cases h9 : x.k = 9
    · simp only [h9, if_true]
      obtain ⟨t, ht1, ht2⟩ := hk x (by simp) h9
      obtain ⟨p1, p2⟩ := bF_ok kn fu d k n B1 h3 M (i + 1 + A1.length) p st X.2.2 hb2 hn2 o1 (fun y hy y9 => by obtain ⟨t, q1, q2⟩ := hk y (by simp [hy]) y9; exact ⟨t, q1, by omega⟩)
      obtain ⟨Y, hY⟩ := bF_pre kn fu n (B1 ++ M) X.2.2
      have hlY : X.2.2.length ≤ (bF kn fu n (B1 ++ M) X.2.2).2.2.length := by rw [hY]; simp
      refine ⟨p1, fun q hq => ?_⟩
      rcases List.mem_cons.1 hq with rfl | hq
      · refine ⟨⟨c2, c3, c4⟩, ?_⟩
        rw [ht1]
        simp only [Option.getD_some]
        omega
      · exact p2 q hq
    · simp only [h9, if_false]
      have hmd := md_ok (i := X.2.2.length) h1 h9 (hb x (by simp)) m3 o2 hs2
      obtain ⟨p1, p2⟩ := bF_ok kn fu d k n B1 h3 M (i + 1 + A1.length) p st (X.2.2 ++ [mdT x X.1]) hb2 hn2 (o1.snoc hmd) (fun y hy y9 => by obtain ⟨t, q1, q2⟩ := hk y (by simp [hy]) y9; exact ⟨t, q1, by rw [List.length_append]; omega⟩)
      obtain ⟨Y, hY⟩ := bF_pre kn fu n (B1 ++ M) (X.2.2 ++ [mdT x X.1])
      have hlY : X.2.2.length + 1 ≤ (bF kn fu n (B1 ++ M) (X.2.2 ++ [mdT x X.1])).2.2.length := by rw [hY]; simp
      refine ⟨p1, fun q hq => ?_⟩
      rcases List.mem_cons.1 hq with rfl | hq
      · refine ⟨⟨c2, c3, c4⟩, ?_⟩
        simp only
        omega
      · exact p2 q hq
def cntX (N : List Nd) : Nat := N.countP (fun x => decide (x.k ≠ 9))
theorem bF_cnt (kn : ByteArray → Option Nat) : ∀ (fu d : Nat) (k : Int) (n : Nat) (A : List Nd), Forest fu d k n A → ∀ (M : List Nd) (T : List Ty), (bF kn fu n (A ++ M) T).2.2.length = T.length + cntX A
  | 0, d, k, n, A, h, M, T => by obtain ⟨rfl, rfl⟩ := h; rfl
  | fu + 1, d, k, 0, A, h, M, T => by have h : A = [] := h; subst h; rfl
  | fu + 1, d, k, n + 1, A, h, M, T => by
    obtain ⟨x, A1, B1, rfl, h1, h2, h3⟩ := h
    have r1 := bF_rest kn fu (d + 1) x.k x.kids.toNat A1 h2 (B1 ++ M) T
    have e : x :: (A1 ++ B1) ++ M = x :: (A1 ++ (B1 ++ M)) := by simp
    rw [e]
    simp only [bF, r1]
    rw [bF_cnt kn fu d k n B1 h3 M]
    have i1 := bF_cnt kn fu (d + 1) x.k x.kids.toNat A1 h2 (B1 ++ M) T
    have e2 : cntX (x :: (A1 ++ B1)) = cntX A1 + cntX B1 + if x.k = 9 then 0 else 1 := by
      unfold cntX
      rw [List.countP_cons, List.countP_append]
      by_cases h9 : x.k = 9 <;> simp [h9]
    rw [e2]
    by_cases h9 : x.k = 9
    · simp only [h9, if_true]; omega
    · simp only [h9, if_false, List.length_append, List.length_singleton]; omega
/-- A type is used by a type. -/
def UsedIn (T : List Ty) (j : Int) : Prop := ∃ t ∈ T, (hasE t.k = true ∧ t.e = j) ∨ ∃ q ∈ t.ps, q.ty = j
theorem UsedIn.app {T X : List Ty} {j : Int} (h : UsedIn T j) : UsedIn (T ++ X) j := by
  obtain ⟨t, ht, h⟩ := h
  exact ⟨t, List.mem_append_left _ ht, h⟩
theorem bF_used (kn : ByteArray → Option Nat) : ∀ (fu d : Nat) (k : Int) (n : Nat) (A : List Nd), Forest fu d k n A → ∀ (M : List Nd) (T : List Ty) (j : Nat), T.length ≤ j → j < (bF kn fu n (A ++ M) T).2.2.length → (∃ q ∈ (bF kn fu n (A ++ M) T).1, q.ty = j) ∨ UsedIn (bF kn fu n (A ++ M) T).2.2 j
  | 0, d, k, n, A, h, M, T, j, hj, hj2 => by simp [bF] at hj2; omega
  | fu + 1, d, k, 0, A, h, M, T, j, hj, hj2 => by simp [bF] at hj2; omega
  | fu + 1, d, k, n + 1, A, h, M, T, j, hj, hj2 => by
    obtain ⟨x, A1, B1, rfl, h1, h2, h3⟩ := h
    have r1 := bF_rest kn fu (d + 1) x.k x.kids.toNat A1 h2 (B1 ++ M) T
    obtain ⟨m1, -, m3⟩ := bF_len kn fu (d + 1) x.k x.kids.toNat A1 h2 (B1 ++ M) T
    have i1 := bF_used kn fu (d + 1) x.k x.kids.toNat A1 h2 (B1 ++ M) T j hj
    have c1 := bF_cnt kn fu (d + 1) x.k x.kids.toNat A1 h2 (B1 ++ M) T
    have e : x :: (A1 ++ B1) ++ M = x :: (A1 ++ (B1 ++ M)) := by simp
    rw [e] at hj2 ⊢
    simp only [bF, r1] at hj2 ⊢
    obtain ⟨hkd, -, -, -⟩ := nd_fine h1
    have hc := kind_cases hkd
    generalize hX : bF kn fu x.kids.toNat (A1 ++ (B1 ++ M)) T = X at *
    by_cases h9 : x.k = 9
    · simp only [h9, if_true] at hj2 ⊢
      have hA : A1 = [] := by
        have : x.kids.toNat = 0 := by omega
        rw [this] at h2
        cases fu with
        | zero => exact h2.2
        | succ f => exact h2
      have hl : X.2.2.length = T.length := by rw [c1, hA]; rfl
      have i2 := bF_used kn fu d k n B1 h3 M X.2.2 j (by omega) hj2
      rcases i2 with ⟨q, hq, e⟩ | i2
      · exact .inl ⟨q, List.mem_cons_of_mem _ hq, e⟩
      · exact .inr i2
    · simp only [h9, if_false] at hj2 ⊢
      have i2 := bF_used kn fu d k n B1 h3 M (X.2.2 ++ [mdT x X.1]) j
      obtain ⟨Y, hY⟩ := bF_pre kn fu n (B1 ++ M) (X.2.2 ++ [mdT x X.1])
      rcases Nat.lt_or_ge j X.2.2.length with hlt | hge
      · right
        rw [hY]
        refine UsedIn.app ?_
        rcases i1 hlt with ⟨q, hq, e⟩ | i1
        · refine ⟨mdT x X.1, by simp, ?_⟩
          by_cases h78 : x.k = 7 ∨ x.k = 8
          · right
            have e2 : (mdT x X.1).ps = X.1 := by unfold mdT; simp [h78]
            exact ⟨q, by rw [e2]; exact hq, e⟩
          · left
            have hpos : 0 < X.1.length := List.length_pos_of_mem hq
            have h456 : x.k = 4 ∨ x.k = 5 ∨ x.k = 6 := by clear i1 i2; omega
            have hk1 : X.1.length = 1 := by clear i1 i2; omega
            obtain ⟨q', hq'⟩ := List.length_eq_one_iff.1 hk1
            refine ⟨?_, ?_⟩
            · unfold hasE; exact decide_eq_true h456
            · have e2 : (mdT x X.1).e = (X.1.headD pt0).ty := by unfold mdT; simp [h456]
              rw [e2, hq']
              rw [hq'] at hq
              simp at hq
              rw [← hq]
              exact e
        · exact i1.app
      · by_cases he : j = X.2.2.length
        · exact .inl ⟨_, List.mem_cons_self, by simp [he]⟩
        · rcases i2 (by simp; omega) hj2 with ⟨q, hq, e⟩ | i2
          · exact .inl ⟨q, List.mem_cons_of_mem _ hq, e⟩
          · exact .inr i2
end Go.Proofs.YtbgjgbddpcofcaaGreatDoor
