import Derived.Test.YtokepgimjdalaaaWf
import Derived.Test.YtokepgimjdalaaaUd
import Derived.Test.YtokepgimjdalaaaVp

/- What Check takes is a tree; plain. -/
namespace Go.Proofs.Ytokepgimjdalaaa
open Go.RowKit
set_option linter.unusedVariables false

/-- n trees, one behind the other, kids of a node of kind k, d deep; fu: fuel. -/
def Forest : Nat → Nat → Int → Nat → List Nd → Prop
  | 0, _, _, n, N => n = 0 ∧ N = []
  | _ + 1, _, _, 0, N => N = []
  | fu + 1, d, k, n + 1, N => ∃ x A B, N = x :: (A ++ B) ∧ ndE x k d = 0 ∧ Forest fu (d + 1) x.k x.kids.toNat A ∧ Forest fu d k n B
theorem Forest.none (fu d : Nat) (k : Int) : Forest fu d k 0 [] := by
  cases fu with
  | zero => exact ⟨rfl, rfl⟩
  | succ f => exact rfl
theorem ct_cons {x : Nd} {N : List Nd} {i : Nat} {L : List (Int × Int)} (h : ct (x :: N) i L = (0, 0)) : ctE L x = 0 ∧ ct N (i + 1) (ctS L x) = (0, 0) := by
  unfold ct at h
  by_cases h0 : ctE L x = 0
  · rw [if_pos h0] at h; exact ⟨h0, h⟩
  · rw [if_neg h0] at h
    injection h with _ h
    exact absurd h h0
theorem forest_of : ∀ (m : Nat) (N : List Nd), N.length ≤ m → ∀ (i : Nat) (M : List (Int × Int)) (p : Int × Int), 0 < p.2 → ct N i (M ++ [p]) = (0, 0) →
    ∃ A B, N = A ++ B ∧ Forest m M.length p.1 p.2.toNat A ∧ ct B (i + A.length) (wo M) = (0, 0) := by
  intro m
  induction m with
  | zero =>
    intro N hN i M p hp h
    obtain rfl : N = [] := List.eq_nil_of_length_eq_zero (by omega)
    unfold ct at h
    rw [if_neg (by simp)] at h
    injection h with _ h
    cases h
  | succ m ih =>
    intro N hN i M p hp h
    cases N with
    | nil =>
      unfold ct at h
      rw [if_neg (by simp)] at h
      injection h with _ h
      cases h
    | cons x N =>
      obtain ⟨h0, h1⟩ := ct_cons h
      have hE : ctE (M ++ [p]) x = ndE x p.1 M.length := by unfold ctE; simp
      have hS : ctS (M ++ [p]) x = wo (M ++ [(p.1, p.2 - 1)] ++ [(x.k, x.kids)]) := by unfold ctS; simp
      rw [hE] at h0
      rw [hS] at h1
      have hk := ndE_kids h0
      simp only [List.length_cons] at hN
      have key : ∃ A1 B1, N = A1 ++ B1 ∧ Forest m (M.length + 1) x.k x.kids.toNat A1 ∧ ct B1 (i + 1 + A1.length) (wo (M ++ [(p.1, p.2 - 1)])) = (0, 0) := by
        by_cases hk0 : x.kids = 0
        · rw [wo_zero _ _ hk0] at h1
          exact ⟨[], N, rfl, by rw [hk0]; exact Forest.none _ _ _, h1⟩
        · rw [wo_more _ _ hk0] at h1
          obtain ⟨A, B, e1, e2, e3⟩ := ih N (by omega) (i + 1) (M ++ [(p.1, p.2 - 1)]) (x.k, x.kids) (by show 0 < x.kids; omega) h1
          rw [List.length_append] at e2
          exact ⟨A, B, e1, e2, e3⟩
      obtain ⟨A1, B1, rfl, e2, e3⟩ := key
      have hn : p.2.toNat = (p.2 - 1).toNat + 1 := by omega
      by_cases hp1 : p.2 - 1 = 0
      · rw [wo_zero _ _ hp1] at e3
        refine ⟨x :: A1, B1, rfl, ?_, by rw [List.length_cons]; rw [show i + (A1.length + 1) = i + 1 + A1.length by omega]; exact e3⟩
        rw [hn, hp1]
        exact ⟨x, A1, [], by simp, h0, e2, Forest.none _ _ _⟩
      · rw [wo_more _ _ hp1] at e3
        simp only [List.length_append] at hN
        obtain ⟨A2, B2, rfl, e5, e6⟩ := ih B1 (by omega) (i + 1 + A1.length) M (p.1, p.2 - 1) (by show 0 < p.2 - 1; omega) e3
        refine ⟨x :: (A1 ++ A2), B2, by simp, ?_, ?_⟩
        · rw [hn]
          exact ⟨x, A1, A2, rfl, h0, e2, e5⟩
        · rw [List.length_cons, List.length_append, show i + (A1.length + A2.length + 1) = i + 1 + A1.length + A2.length by omega]
          exact e6
theorem tree_of {N : List Nd} (h : ct N 0 [(0, 1)] = (0, 0)) : Forest N.length 0 0 1 N := by
  obtain ⟨A, B, rfl, h2, h3⟩ := forest_of N.length N (Nat.le_refl _) 0 [] (0, 1) (by decide) h
  cases B with
  | nil => rw [List.append_nil] at h2 ⊢; exact h2
  | cons x B =>
    obtain ⟨h4, _⟩ := ct_cons h3
    have : ctE (wo []) x = 62 := rfl
    rw [this] at h4
    cases h4
/-- A source that Check takes. -/
theorem ck_all : ∀ (D : List Df) (i : Nat), (ckL D i).2.2 = 0 → ∀ d ∈ D, isName d.name = true ∧ ct d.ty 0 [(0, 1)] = (0, 0)
  | [], i, h, d, hd => by cases hd
  | e :: D, i, h, d, hd => by
    unfold ckL at h
    by_cases hn : isName e.name = false
    · rw [if_pos hn] at h; cases h
    rw [if_neg hn] at h
    by_cases ht : (ct e.ty 0 [(0, 1)]).2 = 0
    · rw [if_pos ht] at h
      rcases List.mem_cons.1 hd with rfl | hd
      · refine ⟨by simpa using hn, ?_⟩
        have key : ∀ (N : List Nd) (i : Nat) (L : List (Int × Int)), (ct N i L).2 = 0 → ct N i L = (0, 0) := by
          intro N
          induction N with
          | nil =>
            intro i L h
            unfold ct at h ⊢
            by_cases hL : L = []
            · rw [if_pos hL]
            · rw [if_neg hL] at h; cases h
          | cons x N ih =>
            intro i L h
            unfold ct at h ⊢
            by_cases h0 : ctE L x = 0
            · rw [if_pos h0] at h ⊢; exact ih _ _ h
            · rw [if_neg h0] at h; exact absurd h h0
        exact key _ _ _ ht
      · exact ck_all D (i + 1) h d hd
    · rw [if_neg ht] at h; exact absurd h ht
theorem ckP_all {D : List Df} (h : (ckP D).2.2 = 0) : D.length ≤ 256 ∧ ∀ d ∈ D, isName d.name = true ∧ Forest d.ty.length 0 0 1 d.ty := by
  unfold ckP at h
  by_cases hl : 256 < D.length
  · rw [if_pos hl] at h; cases h
  · rw [if_neg hl] at h
    exact ⟨by omega, fun d hd => ⟨(ck_all D 0 h d hd).1, tree_of (ck_all D 0 h d hd).2⟩⟩
end Go.Proofs.Ytokepgimjdalaaa

/- A tree written as tokens is parsed back; plain. -/
namespace Go.Proofs.Ytokepgimjdalaaa
open Go.RowKit
set_option linter.unusedVariables false

def qw (s : ByteArray) : Q := ⟨1, s, 0⟩
def qm (b : UInt8) : Q := ⟨3, ⟨#[b]⟩, 0⟩
def qn (n : Int) : Q := ⟨2, ⟨#[]⟩, n⟩
def wordN (n : Int) : ByteArray := if n = 1 then ⟨#[117, 56]⟩ else if n = 2 then ⟨#[117, 49, 54]⟩ else if n = 4 then ⟨#[117, 51, 50]⟩ else ⟨#[117, 54, 52]⟩
def wordT (x : Nd) : ByteArray :=
  if x.k = 1 then wordN x.n else if x.k = 2 then ⟨#[98, 111, 111, 108]⟩ else if x.k = 3 then ⟨#[118, 97, 114, 105, 110, 116]⟩ else if x.k = 4 then ⟨#[118, 101, 99, 116, 111, 114]⟩
  else if x.k = 5 then ⟨#[108, 105, 115, 116]⟩ else if x.k = 6 then ⟨#[111, 112, 116, 105, 111, 110]⟩ else if x.k = 7 then ⟨#[117, 110, 105, 111, 110]⟩ else if x.k = 8 then ⟨#[115, 116, 114, 117, 99, 116]⟩ else x.name
/-- What stands ahead of a kid; what opens and closes a type; what stands between two kids. -/
def hdT (k : Int) (x : Nd) : List Q := if k = 7 then [qn x.tag, qm 58] else if k = 8 then [qw x.label, qm 58] else []
def opnT (x : Nd) : List Q := if x.k = 4 ∨ x.k = 5 ∨ x.k = 6 then [qw (wordT x), qm 60] else if x.k = 7 ∨ x.k = 8 then [qw (wordT x), qm 123] else [qw (wordT x)]
def clsT (x : Nd) : List Q := if x.k = 4 ∨ x.k = 5 then [qm 44, qn x.n, qm 62] else if x.k = 6 then [qm 62] else if x.k = 7 ∨ x.k = 8 then [qm 125] else []
def sepT (k : Int) (n : Nat) : List Q := if (k = 7 ∨ k = 8) ∧ 0 < n then [qm 44] else []
/-- n trees written from token number b on: their tokens, and the nodes with their tokens' numbers. -/
def WP : Nat → Nat → Int → Nat → List Nd → Nat → List Q → List Nd → Prop
  | 0, _, _, n, N, _, T, N' => n = 0 ∧ N = [] ∧ T = [] ∧ N' = []
  | _ + 1, _, _, 0, N, _, T, N' => N = [] ∧ T = [] ∧ N' = []
  | fu + 1, d, k, n + 1, N, b, T, N' => ∃ x A B TA TB A' B', N = x :: (A ++ B) ∧ ndE x k d = 0 ∧
      WP fu (d + 1) x.k x.kids.toNat A (b + (hdT k x).length + (opnT x).length) TA A' ∧
      WP fu d k n B (b + (hdT k x).length + (opnT x).length + TA.length + (clsT x).length + (sepT k n).length) TB B' ∧
      T = hdT k x ++ (opnT x ++ (TA ++ (clsT x ++ (sepT k n ++ TB)))) ∧ N' = { x with a := (b : Int) } :: (A' ++ B')
theorem wp_of : ∀ (fu d : Nat) (k : Int) (n : Nat) (N : List Nd), Forest fu d k n N → ∀ b, ∃ T N', WP fu d k n N b T N'
  | 0, d, k, n, N, h, b => ⟨[], [], h.1, h.2, rfl, rfl⟩
  | fu + 1, d, k, 0, N, h, b => ⟨[], [], h, rfl, rfl⟩
  | fu + 1, d, k, n + 1, N, h, b => by
    obtain ⟨x, A, B, h1, h2, h3, h4⟩ := h
    obtain ⟨TA, A', hA⟩ := wp_of fu (d + 1) x.k x.kids.toNat A h3 (b + (hdT k x).length + (opnT x).length)
    obtain ⟨TB, B', hB⟩ := wp_of fu d k n B h4 (b + (hdT k x).length + (opnT x).length + TA.length + (clsT x).length + (sepT k n).length)
    exact ⟨_, _, x, A, B, TA, TB, A', B', h1, h2, hA, hB, rfl, rfl⟩
theorem WP.zero {fu d : Nat} {k : Int} {N : List Nd} {b : Nat} {T : List Q} {N' : List Nd} (h : WP fu d k 0 N b T N') : N = [] ∧ T = [] ∧ N' = [] := by
  cases fu with
  | zero => exact h.2
  | succ f => exact h
/-! ### Tokens at a place -/
def AtT (qs : List Q) (i : Nat) (T : List Q) : Prop := ∃ R, qs.drop i = T ++ R
theorem AtT.head {qs : List Q} {i : Nat} {q : Q} {T : List Q} (h : AtT qs i (q :: T)) : qAt qs i = q ∧ AtT qs (i + 1) T := by
  obtain ⟨R, h⟩ := h
  refine ⟨?_, R, ?_⟩
  · have h2 := congrArg (fun l => l[0]?) h
    simp only [List.getElem?_drop, Nat.add_zero, List.cons_append, List.getElem?_cons_zero] at h2
    unfold qAt
    rw [List.getD_eq_getElem?_getD, h2]
    rfl
  · rw [← List.drop_drop, h]
    rfl
theorem AtT.app {qs : List Q} {i : Nat} {T U : List Q} (h : AtT qs i (T ++ U)) : AtT qs i T ∧ AtT qs (i + T.length) U := by
  obtain ⟨R, h⟩ := h
  refine ⟨⟨U ++ R, by rw [h, List.append_assoc]⟩, R, ?_⟩
  rw [← List.drop_drop, h, List.append_assoc, List.drop_left' rfl]
theorem txt_at {qs : List Q} {i : Nat} {b : UInt8} (h : qAt qs i = qm b) : txt qs ⟨#[b]⟩ i = .ok (i + 1) := by
  unfold txt tak
  rw [h, if_pos (by simp [isT, qm])]
theorem num_at {qs : List Q} {i : Nat} {n : Int} (h : qAt qs i = qn n) : tak qs isNum i = .ok (i + 1) := by
  unfold tak
  rw [h, if_pos (by simp [isNum, qn])]
/-! ### What a good node is -/
theorem nd_ok {x : Nd} {of : Int} {dp : Nat} (h : ndE x of dp = 0) : dp ≤ 16 ∧ kindOk x.k x.n x.kids = true ∧ nameOk x.name (decide (x.k = 9)) = true ∧ nameOk x.label (decide (of = 8)) = true ∧ (of ≠ 7 → x.tag = 0) ∧ x.kids ≤ 64 := by
  have hk := ndE_kids h
  unfold ndE nodeE at h
  by_cases h1 : 16 < dp
  · rw [if_pos h1] at h; cases h
  rw [if_neg h1] at h
  by_cases h2 : (x.k = 8 ∨ x.k = 7) ∧ 64 < x.kids
  · rw [if_pos h2] at h; cases h
  rw [if_neg h2] at h
  cases h3 : kindOk x.k x.n x.kids with
  | false => rw [if_pos (.inl h3)] at h; cases h
  | true =>
  cases h4 : nameOk x.name (decide (x.k = 9)) with
  | false => rw [if_pos (.inr (.inl h4))] at h; cases h
  | true =>
  cases h5 : nameOk x.label (decide (of = 8)) with
  | false => rw [if_pos (.inr (.inr h5))] at h; cases h
  | true =>
  rw [if_neg (by rw [h3, h4, h5]; simp)] at h
  refine ⟨by omega, rfl, rfl, rfl, fun h7 => ?_, hk.2.2⟩
  by_cases ht : x.tag = 0
  · exact ht
  · rw [if_pos ⟨ht, .inl h7⟩] at h; cases h
theorem empty_nm {s : ByteArray} (h : nameOk s false = true) : s = ⟨#[]⟩ := by
  have h0 : s.size = 0 := of_decide_eq_true h
  apply ByteArray.ext
  exact Array.eq_empty_of_size_eq_zero h0
theorem beg_name {t : ByteArray} (h : isName t = true) : beg t = (9, 0) := by
  have key : ∀ s : ByteArray, isName s = false → t ≠ s := fun s hs e => by rw [e, hs] at h; cases h
  unfold beg
  rw [if_neg (key _ (by decide)), if_neg (key _ (by decide)), if_neg (key _ (by decide)), if_neg (key _ (by decide)), if_neg (key _ (by decide)), if_neg (key _ (by decide)), if_neg (key _ (by decide)), if_neg (key _ (by decide)), if_neg (key _ (by decide)), if_neg (key _ (by decide)), if_neg (key _ (by decide)), if_pos h]
/-- The kinds. -/
theorem kinds {x : Nd} {of : Int} {dp : Nat} (h : ndE x of dp = 0) :
    (x.k = 9 ∧ x.n = 0 ∧ x.kids = 0 ∧ isName x.name = true) ∨ (x.k ≠ 9 ∧ x.name = ⟨#[]⟩ ∧
      (((x.k = 1 ∨ x.k = 2 ∨ x.k = 3) ∧ x.kids = 0 ∧ beg (wordT x) = (x.k, x.n)) ∨ ((x.k = 4 ∨ x.k = 5) ∧ x.kids = 1 ∧ beg (wordT x) = (x.k, 0)) ∨ (x.k = 6 ∧ x.kids = 1 ∧ x.n = 0 ∧ beg (wordT x) = (x.k, 0)) ∨ ((x.k = 7 ∨ x.k = 8) ∧ 0 < x.kids ∧ x.n = 0 ∧ beg (wordT x) = (x.k, 0)))) := by
  obtain ⟨_, h1, h2, _, _, _⟩ := nd_ok h
  obtain ⟨k, n, nm, lb, tg, kd, a⟩ := x
  simp only at h1 h2 ⊢
  by_cases h9 : k = 9
  · subst h9
    left
    unfold kindOk at h1
    rw [if_neg (by decide), if_pos (by decide)] at h1
    have := of_decide_eq_true h1
    exact ⟨rfl, this.1, this.2, h2⟩
  right
  rw [decide_eq_false h9] at h2
  refine ⟨h9, empty_nm h2, ?_⟩
  unfold kindOk at h1
  by_cases e1 : k = 1
  · subst e1
    rw [if_pos rfl] at h1
    have h3 := of_decide_eq_true h1
    refine .inl ⟨.inl rfl, h3.2, ?_⟩
    rcases h3.1 with rfl | rfl | rfl | rfl <;> rfl
  rw [if_neg e1] at h1
  by_cases e2 : k = 2 ∨ k = 3 ∨ k = 9
  · rw [if_pos e2] at h1
    have h3 := of_decide_eq_true h1
    obtain ⟨rfl, hk⟩ := h3
    rcases e2 with rfl | rfl | rfl
    · exact .inl ⟨.inr (.inl rfl), hk, rfl⟩
    · exact .inl ⟨.inr (.inr rfl), hk, rfl⟩
    · exact absurd rfl h9
  rw [if_neg e2] at h1
  by_cases e3 : k = 4 ∨ k = 5
  · rw [if_pos e3, Bool.and_eq_true] at h1
    have h3 := of_decide_eq_true h1.2
    refine .inr (.inl ⟨e3, h3, ?_⟩)
    rcases e3 with rfl | rfl <;> rfl
  rw [if_neg e3] at h1
  by_cases e4 : k = 6
  · subst e4
    rw [if_pos rfl] at h1
    have h3 := of_decide_eq_true h1
    exact .inr (.inr (.inl ⟨rfl, h3.2, h3.1, rfl⟩))
  rw [if_neg e4] at h1
  by_cases e5 : k = 7 ∨ k = 8
  · rw [if_pos e5] at h1
    have h3 := of_decide_eq_true h1
    refine .inr (.inr (.inr ⟨e5, h3.2, h3.1, ?_⟩))
    rcases e5 with rfl | rfl <;> rfl
  · rw [if_neg e5] at h1; cases h1
/-! ### Parsed back -/
section
variable {qs : List Q}
def NodeB (qs : List Q) (fu : Nat) : Prop := ∀ (d : Nat) (k : Int) (x : Nd) (A : List Nd) (b c : Nat) (TA : List Q) (A' : List Nd), ndE x k d = 0 → WP fu (d + 1) x.k x.kids.toNat A (c + (opnT x).length) TA A' →
    AtT qs c (opnT x ++ (TA ++ clsT x)) → nodeP qs (17 - d) { nd0 with label := x.label, tag := x.tag, a := (b : Int) } c = .ok ({ x with a := (b : Int) } :: A', c + (opnT x).length + TA.length + (clsT x).length)
/-- One kid of a node that takes no label and no tag. -/
theorem one_plain {F fu d : Nat} (H : ∀ f, f < F → NodeB qs f) (hF : fu ≤ F) {k : Int} (h7 : k ≠ 7) (h8 : k ≠ 8) {A : List Nd} {c : Nat} {T : List Q} {A' : List Nd} (h : WP fu d k 1 A c T A') (ht : AtT qs c T) :
    nodeP qs (17 - d) { nd0 with a := (c : Int) } c = .ok (A', c + T.length) := by
  cases fu with
  | zero => exact absurd h.1 (by decide)
  | succ f =>
    obtain ⟨x, A1, B, TA, TB, A1', B', rfl, h2, h3, h4, rfl, rfl⟩ := h
    obtain ⟨rfl, rfl, rfl⟩ := h4.zero
    have hh : hdT k x = [] := by unfold hdT; rw [if_neg h7, if_neg h8]
    have hs : sepT k 0 = [] := by unfold sepT; rw [if_neg (by omega)]
    rw [hh] at h3 ht ⊢
    rw [hs] at ht ⊢
    simp only [List.length_nil, Nat.add_zero, List.nil_append, List.append_nil] at h3 ht ⊢
    obtain ⟨_, _, _, hl, htg, _⟩ := nd_ok h2
    have hlb : x.label = ⟨#[]⟩ := empty_nm (by rw [decide_eq_false h8] at hl; exact hl)
    have htag := htg h7
    have := H f (by omega) d k x A1 c c TA A1' h2 h3 ht
    have e : ({ nd0 with label := x.label, tag := x.tag, a := (c : Int) } : Nd) = { nd0 with a := (c : Int) } := by rw [hlb, htag]; rfl
    rw [e] at this
    rw [this]
    simp only [List.length_append]
    rw [show c + (opnT x).length + TA.length + (clsT x).length = c + ((opnT x).length + (TA.length + (clsT x).length)) by omega]
/-- One arm or field. -/
theorem one_part {f d : Nat} (H : NodeB qs f) {k : Int} (hk : k = 7 ∨ k = 8) {x : Nd} {A : List Nd} {b cnt : Nat} {TA : List Q} {A' : List Nd} (hc : cnt < 64) (h2 : ndE x k d = 0) (h3 : WP f (d + 1) x.k x.kids.toNat A (b + (hdT k x).length + (opnT x).length) TA A')
    (ht : AtT qs b (hdT k x ++ (opnT x ++ (TA ++ clsT x)))) :
    (if k = 7 then armP qs (nodeP qs (17 - d)) cnt b else fieldP qs (nodeP qs (17 - d)) cnt b) = .ok ({ x with a := (b : Int) } :: A', b + (hdT k x).length + (opnT x).length + TA.length + (clsT x).length) := by
  obtain ⟨_, _, _, hl, htg, _⟩ := nd_ok h2
  rcases hk with rfl | rfl
  · rw [if_pos rfl]
    have hh : hdT 7 x = [qn x.tag, qm 58] := rfl
    have hlb : x.label = ⟨#[]⟩ := empty_nm hl
    rw [hh] at ht h3 ⊢
    obtain ⟨t0, ht⟩ := AtT.head (show AtT qs b (qn x.tag :: (qm 58 :: (opnT x ++ (TA ++ clsT x)))) from ht)
    obtain ⟨t1, ht⟩ := AtT.head ht
    have := H d 7 x A b (b + 1 + 1) TA A' h2 h3 ht
    unfold armP
    rw [num_at t0, bnd_ok]
    unfold partP
    rw [decide_eq_true hc, if_pos rfl, txt_at t1, bnd_ok, t0]
    have e : ({ nd0 with label := x.label, tag := x.tag, a := (b : Int) } : Nd) = { nd0 with tag := x.tag, a := (b : Int) } := by rw [hlb]; rfl
    rw [e] at this
    exact this
  · rw [if_neg (by decide)]
    have hh : hdT 8 x = [qw x.label, qm 58] := rfl
    have htag : x.tag = 0 := htg (by decide)
    have hlb : isName x.label = true := hl
    rw [hh] at ht h3 ⊢
    obtain ⟨t0, ht⟩ := AtT.head (show AtT qs b (qw x.label :: (qm 58 :: (opnT x ++ (TA ++ clsT x)))) from ht)
    obtain ⟨t1, ht⟩ := AtT.head ht
    have := H d 8 x A b (b + 1 + 1) TA A' h2 h3 ht
    unfold fieldP
    have tk : tak qs isNm b = .ok (b + 1) := by unfold tak; rw [t0, if_pos (by exact hlb)]
    rw [tk, bnd_ok]
    unfold partP
    rw [decide_eq_true hc, if_pos rfl, txt_at t1, bnd_ok, t0]
    have e : ({ nd0 with label := x.label, tag := x.tag, a := (b : Int) } : Nd) = { nd0 with label := x.label, a := (b : Int) } := by rw [htag]; rfl
    rw [e] at this
    exact this
/-- Further arms or fields. -/
theorem more_part {F d : Nat} (H : ∀ f, f < F → NodeB qs f) {k : Int} (hk : k = 7 ∨ k = 8) : ∀ (fu : Nat), fu ≤ F → ∀ (n : Nat) (B : List Nd) (i cnt g : Nat) (TB : List Q) (B' Na : List Nd), n < g → cnt + n ≤ 64 →
    WP fu d k n B (i + (sepT k n).length) TB B' → AtT qs i (sepT k n ++ (TB ++ [qm 125])) →
    moreP qs (fun c j => if k = 7 then armP qs (nodeP qs (17 - d)) c j else fieldP qs (nodeP qs (17 - d)) c j) g cnt Na i = .ok (Na ++ B', cnt + n, i + (sepT k n).length + TB.length + 1) := by
  have hend : ∀ (i cnt g : Nat) (Na : List Nd), 0 < g → AtT qs i [qm 125] → moreP qs (fun c j => if k = 7 then armP qs (nodeP qs (17 - d)) c j else fieldP qs (nodeP qs (17 - d)) c j) g cnt Na i = .ok (Na ++ [], cnt + 0, i + 0 + 0 + 1) := by
    intro i cnt g Na hg ht
    obtain ⟨t0, _⟩ := ht.head
    cases g with
    | zero => omega
    | succ g =>
      unfold moreP
      rw [t0, if_neg (by decide), txt_at t0, bnd_ok]
      simp
  intro fu
  induction fu with
  | zero =>
    intro hF n B i cnt g TB B' Na hg hc h ht
    obtain ⟨rfl, rfl, rfl, rfl⟩ := h
    have hs : sepT k 0 = [] := by unfold sepT; rw [if_neg (by omega)]
    rw [hs] at ht ⊢
    exact hend i cnt g Na (by omega) ht
  | succ f ih =>
    intro hF n B i cnt g TB B' Na hg hc h ht
    cases n with
    | zero =>
      obtain ⟨rfl, rfl, rfl⟩ := h
      have hs : sepT k 0 = [] := by unfold sepT; rw [if_neg (by omega)]
      rw [hs] at ht ⊢
      exact hend i cnt g Na (by omega) ht
    | succ n =>
      obtain ⟨x, A, B2, TA, TB2, A', B2', rfl, h2, h3, h4, rfl, rfl⟩ := h
      have hs : sepT k (n + 1) = [qm 44] := by unfold sepT; rw [if_pos ⟨hk, by omega⟩]
      rw [hs] at ht h3 h4 ⊢
      obtain ⟨t0, ht⟩ := AtT.head (show AtT qs i (qm 44 :: _) from ht)
      simp only [List.append_assoc, List.length_singleton] at ht h3 h4 ⊢
      have ht1 : AtT qs (i + 1) ((hdT k x ++ (opnT x ++ (TA ++ clsT x))) ++ (sepT k n ++ (TB2 ++ [qm 125]))) := by simpa [List.append_assoc] using ht
      obtain ⟨ta, tb⟩ := ht1.app
      cases g with
      | zero => omega
      | succ g =>
        unfold moreP
        rw [t0, if_pos (by decide)]
        rw [one_part (H f (by omega)) hk (by omega) h2 h3 ta, bnd_ok]
        simp only [List.length_append] at tb
        have e1 : i + 1 + ((hdT k x).length + ((opnT x).length + (TA.length + (clsT x).length))) = i + 1 + (hdT k x).length + (opnT x).length + TA.length + (clsT x).length := by omega
        rw [e1] at tb
        rw [ih (by omega) n B2 _ (cnt + 1) g TB2 B2' (Na ++ ({ x with a := ((i + 1 : Nat) : Int) } :: A')) (by omega) (by omega) h4 tb]
        simp only [List.length_append, List.append_assoc, List.cons_append]
        congr 2
        congr 1 <;> omega
theorem node_b : ∀ fu, NodeB qs fu := by
  intro fu
  induction fu using Nat.strongRecOn with
  | _ fu H =>
  intro d k x A b c TA A' h2 hA ht
  obtain ⟨hd, _, _, hl, htg, hk64⟩ := nd_ok h2
  have hf : 17 - d = (17 - (d + 1)) + 1 := by omega
  have hw : ∃ W, opnT x = qw (wordT x) :: W := by
    unfold opnT
    split
    · exact ⟨_, rfl⟩
    · split
      · exact ⟨_, rfl⟩
      · exact ⟨_, rfl⟩
  obtain ⟨W, hW⟩ := hw
  have t0 : qAt qs c = qw (wordT x) := by
    rw [hW] at ht
    exact (AtT.head (show AtT qs c (qw (wordT x) :: _) from ht)).1
  have hqt : (qw (wordT x)).t = wordT x := rfl
  rw [hf, nodeP, t0, hqt]
  rcases kinds h2 with ⟨k9, n0, kd0, hnm⟩ | ⟨k9, hnm, h4⟩
  · have hwt : wordT x = x.name := by unfold wordT; rw [if_neg (by omega), if_neg (by omega), if_neg (by omega), if_neg (by omega), if_neg (by omega), if_neg (by omega), if_neg (by omega), if_neg (by omega)]
    have ho : opnT x = [qw (wordT x)] := by unfold opnT; rw [if_neg (by omega), if_neg (by omega)]
    have hc : clsT x = [] := by unfold clsT; rw [if_neg (by omega), if_neg (by omega), if_neg (by omega)]
    rw [kd0] at hA
    obtain ⟨rfl, rfl, rfl⟩ := hA.zero
    rw [hwt, beg_name hnm, if_neg (by decide), ho, hc]
    unfold bodyP
    rw [if_pos rfl, t0, hqt, hwt]
    obtain ⟨xk, xn, xnm, xlb, xtg, xkd, xa⟩ := x
    simp only at k9 n0 kd0
    subst k9 n0 kd0
    rfl
  · rcases h4 with ⟨hk, kd0, hb⟩ | ⟨hk, kd1, hb⟩ | ⟨hk, kd1, n0, hb⟩ | ⟨hk, kdp, n0, hb⟩
    · have ho : opnT x = [qw (wordT x)] := by unfold opnT; rw [if_neg (by omega), if_neg (by omega)]
      have hc : clsT x = [] := by unfold clsT; rw [if_neg (by omega), if_neg (by omega), if_neg (by omega)]
      rw [kd0] at hA
      obtain ⟨rfl, rfl, rfl⟩ := hA.zero
      rw [hb]
      simp only
      rw [if_neg (by omega), ho, hc]
      unfold bodyP
      simp only
      rw [if_neg k9, if_neg (by omega), if_neg (by omega), if_neg (by omega), if_neg (by omega)]
      obtain ⟨xk, xn, xnm, xlb, xtg, xkd, xa⟩ := x
      simp only at kd0 hnm
      subst kd0 hnm
      rfl
    · have ho : opnT x = [qw (wordT x), qm 60] := by unfold opnT; rw [if_pos (by omega)]
      have hc : clsT x = [qm 44, qn x.n, qm 62] := by unfold clsT; rw [if_pos hk]
      rw [kd1] at hA
      rw [ho, hc] at ht ⊢
      rw [ho] at hA
      rw [hb]
      simp only
      rw [if_neg (by omega)]
      unfold bodyP
      simp only
      rw [if_neg k9, if_pos hk]
      obtain ⟨_, ht⟩ := AtT.head (show AtT qs c (qw (wordT x) :: (qm 60 :: (TA ++ [qm 44, qn x.n, qm 62]))) from ht)
      obtain ⟨t1, ht⟩ := AtT.head ht
      obtain ⟨ta, ht⟩ := AtT.app ht
      obtain ⟨t2, ht⟩ := AtT.head ht
      obtain ⟨t3, ht⟩ := AtT.head ht
      obtain ⟨t4, ht⟩ := AtT.head ht
      have hsub := one_plain (d := d + 1) H (Nat.le_refl _) (by omega) (by omega) hA ta
      unfold itemsP
      rw [txt_at t1, bnd_ok]
      have el : c + [qw (wordT x), qm 60].length = c + 1 + 1 := rfl
      rw [el] at hsub
      rw [hsub, bnd_ok]
      simp only
      rw [txt_at t2, bnd_ok, num_at t3, bnd_ok, txt_at t4, bnd_ok, bnd_ok, t3]
      obtain ⟨xk, xn, xnm, xlb, xtg, xkd, xa⟩ := x
      simp only at kd1 hnm
      subst kd1 hnm
      simp only [List.length_cons, List.length_nil, qn]
      congr 2
    · have ho : opnT x = [qw (wordT x), qm 60] := by unfold opnT; rw [if_pos (by omega)]
      have hc : clsT x = [qm 62] := by unfold clsT; rw [if_neg (by omega), if_pos hk]
      rw [kd1] at hA
      rw [ho, hc] at ht ⊢
      rw [ho] at hA
      rw [hb]
      simp only
      rw [if_neg (by omega)]
      unfold bodyP
      simp only
      rw [if_neg k9, if_neg (by omega), if_pos hk]
      obtain ⟨_, ht⟩ := AtT.head (show AtT qs c (qw (wordT x) :: (qm 60 :: (TA ++ [qm 62]))) from ht)
      obtain ⟨t1, ht⟩ := AtT.head ht
      obtain ⟨ta, ht⟩ := AtT.app ht
      obtain ⟨t2, ht⟩ := AtT.head ht
      have hsub := one_plain (d := d + 1) H (Nat.le_refl _) (by omega) (by omega) hA ta
      unfold optionP
      rw [txt_at t1, bnd_ok]
      have el : c + [qw (wordT x), qm 60].length = c + 1 + 1 := rfl
      rw [el] at hsub
      rw [hsub, bnd_ok]
      simp only
      rw [txt_at t2, bnd_ok, bnd_ok]
      obtain ⟨xk, xn, xnm, xlb, xtg, xkd, xa⟩ := x
      simp only at kd1 hnm n0
      subst kd1 hnm n0
      simp only [List.length_cons, List.length_nil]
      congr 2
    · have ho : opnT x = [qw (wordT x), qm 123] := by unfold opnT; rw [if_neg (by omega), if_pos hk]
      have hc : clsT x = [qm 125] := by unfold clsT; rw [if_neg (by omega), if_neg (by omega), if_pos hk]
      obtain ⟨n, hn⟩ : ∃ n, x.kids.toNat = n + 1 := ⟨x.kids.toNat - 1, by omega⟩
      rw [hn] at hA
      rw [ho, hc] at ht ⊢
      rw [ho] at hA
      cases fu with
      | zero => exact absurd hA.1 (by omega)
      | succ f =>
      obtain ⟨z, A1, B2, TA1, TB2, A1', B2', rfl, g2, g3, g4, rfl, rfl⟩ := hA
      obtain ⟨_, ht⟩ := AtT.head (show AtT qs c (qw (wordT x) :: (qm 123 :: _)) from ht)
      obtain ⟨t1, ht⟩ := AtT.head ht
      have ht1 : AtT qs (c + 1 + 1) ((hdT x.k z ++ (opnT z ++ (TA1 ++ clsT z))) ++ (sepT x.k n ++ (TB2 ++ [qm 125]))) := by simpa [List.append_assoc] using ht
      obtain ⟨ta, tb⟩ := ht1.app
      simp only [List.length_cons, List.length_nil] at g3 g4
      rw [show c + (0 + 1 + 1) = c + 1 + 1 by omega] at g3 g4
      have hone := one_part (H f (by omega)) hk (cnt := 0) (by omega) g2 g3 ta
      simp only [List.length_append] at tb
      have e1 : c + 1 + 1 + ((hdT x.k z).length + ((opnT z).length + (TA1.length + (clsT z).length))) = c + 1 + 1 + (hdT x.k z).length + (opnT z).length + TA1.length + (clsT z).length := by omega
      rw [e1] at tb
      have hmore := more_part (d := d + 1) (F := f + 1) H hk f (by omega) n B2 _ 1 64 TB2 B2' ({ z with a := ((c + 1 + 1 : Nat) : Int) } :: A1') (by omega) (by omega) g4 tb
      rw [hb]
      simp only
      rw [if_neg (by omega)]
      unfold bodyP
      simp only
      rw [if_neg k9, if_neg (by omega), if_neg (by omega)]
      have hkids : ((1 + n : Nat) : Int) = x.kids := by omega
      rcases hk with hk | hk
      · rw [hk] at hone hmore
        simp only [if_pos] at hone hmore
        rw [if_pos hk]
        unfold partsP
        rw [txt_at t1, bnd_ok]
        rw [hone, bnd_ok]
        simp only
        rw [hmore, bnd_ok]
        simp only
        rw [hkids]
        obtain ⟨xk, xn, xnm, xlb, xtg, xkd, xa⟩ := x
        simp only at hnm n0 hk
        subst hnm n0 hk
        simp only [List.length_append, List.length_cons, List.length_nil, List.cons_append]
        congr 2
        omega
      · rw [hk] at hone hmore
        simp only [show ((8 : Int) = 7) = False by simp, if_false] at hone hmore
        rw [if_neg (by omega), if_pos hk]
        unfold partsP
        rw [txt_at t1, bnd_ok]
        rw [hone, bnd_ok]
        simp only
        rw [hmore, bnd_ok]
        simp only
        rw [hkids]
        obtain ⟨xk, xn, xnm, xlb, xtg, xkd, xa⟩ := x
        simp only at hnm n0 hk
        subst hnm n0 hk
        simp only [List.length_append, List.length_cons, List.length_nil, List.cons_append]
        congr 2
        omega
end
end Go.Proofs.Ytokepgimjdalaaa

/- A source that Check takes, written as tokens, is parsed back; plain. -/
namespace Go.Proofs.Ytokepgimjdalaaa
open Go.RowKit
set_option linter.unusedVariables false

theorem wp_z : ∀ (fu d : Nat) (k : Int) (n : Nat) (N : List Nd) (b : Nat) (T : List Q) (N' : List Nd), WP fu d k n N b T N' → N'.map zNd = N.map zNd
  | 0, d, k, n, N, b, T, N', h => by obtain ⟨_, rfl, _, rfl⟩ := h; rfl
  | fu + 1, d, k, 0, N, b, T, N', h => by obtain ⟨rfl, _, rfl⟩ := h; rfl
  | fu + 1, d, k, n + 1, N, b, T, N', h => by
    obtain ⟨x, A, B, TA, TB, A', B', rfl, _, hA, hB, _, rfl⟩ := h
    have e1 := wp_z fu _ _ _ _ _ _ _ hA
    have e2 := wp_z fu _ _ _ _ _ _ _ hB
    simp only [List.map_cons, List.map_append, e1, e2]
    rfl
/-- The definitions written from token number b on. -/
def WD : List Df → Nat → List Q → List Df → Prop
  | [], _, T, D' => T = [] ∧ D' = []
  | d :: D, b, T, D' => ∃ TN N' TD E', WP d.ty.length 0 0 1 d.ty (b + 3) TN N' ∧ WD D (b + 3 + TN.length + 1) TD E' ∧ T = qw ⟨#[116, 121, 112, 101]⟩ :: qw d.name :: qm 61 :: (TN ++ (qm 59 :: TD)) ∧ D' = ⟨d.name, ((b + 1 : Nat) : Int), N'⟩ :: E'
theorem wd_of : ∀ (D : List Df), (∀ d ∈ D, isName d.name = true ∧ Forest d.ty.length 0 0 1 d.ty) → ∀ b, ∃ T D', WD D b T D'
  | [], _, b => ⟨[], [], rfl, rfl⟩
  | d :: D, h, b => by
    obtain ⟨TN, N', hN⟩ := wp_of _ _ _ _ _ (h d (by simp)).2 (b + 3)
    obtain ⟨TD, E', hD⟩ := wd_of D (fun e he => h e (by simp [he])) (b + 3 + TN.length + 1)
    exact ⟨_, _, TN, N', TD, E', hN, hD, rfl, rfl⟩
theorem wd_z : ∀ (D : List Df) (b : Nat) (T : List Q) (D' : List Df), WD D b T D' → D'.map zDf = D.map zDf ∧ D'.length = D.length
  | [], b, T, D', h => by obtain ⟨_, rfl⟩ := h; exact ⟨rfl, rfl⟩
  | d :: D, b, T, D', h => by
    obtain ⟨TN, N', TD, E', hN, hD, _, rfl⟩ := h
    obtain ⟨e1, e2⟩ := wd_z D _ _ _ hD
    have e3 := wp_z _ _ _ _ _ _ _ _ hN
    refine ⟨?_, by simp [e2]⟩
    simp only [List.map_cons, e1]
    congr 1
    unfold zDf
    simp only [e3]
section
variable {qs : List Q}
theorem nm_at {i : Nat} {s : ByteArray} (h : qAt qs i = qw s) (hn : isName s = true) : tak qs isNm i = .ok (i + 1) := by
  unfold tak
  rw [h, if_pos (by exact hn)]
theorem src_b : ∀ (D : List Df) (i : Nat) (T : List Q) (D' : List Df) (f : Nat) (Da : List Df), WD D i T D' → (∀ d ∈ D, isName d.name = true) → qs.drop i = T → D.length < f → srcP qs f Da i = .ok (Da ++ D')
  | [], i, T, D', f, Da, h, hn, ht, hf => by
    obtain ⟨rfl, rfl⟩ := h
    cases f with
    | zero => omega
    | succ f =>
      unfold srcP
      have : qs.length ≤ i := by
        have := congrArg List.length ht
        simp at this
        omega
      rw [if_neg (by omega), List.append_nil]
  | d :: D, i, T, D', f, Da, h, hn, ht, hf => by
    obtain ⟨TN, N', TD, E', hN, hD, rfl, rfl⟩ := h
    cases f with
    | zero => omega
    | succ f =>
      simp only [List.length_cons] at hf
      have hi : i < qs.length := by
        have := congrArg List.length ht
        simp at this
        omega
      have h0 : AtT qs i (qw ⟨#[116, 121, 112, 101]⟩ :: qw d.name :: qm 61 :: (TN ++ (qm 59 :: TD))) := ⟨[], by rw [ht]; simp⟩
      obtain ⟨t0, h0⟩ := h0.head
      obtain ⟨t1, h0⟩ := h0.head
      obtain ⟨t2, h0⟩ := h0.head
      obtain ⟨tn, h0⟩ := h0.app
      obtain ⟨t3, h0⟩ := h0.head
      have hsub := one_plain (qs := qs) (d := 0) (F := d.ty.length) (fun f _ => node_b f) (Nat.le_refl _) (by decide) (by decide) hN tn
      have hdf : defP qs (i + 1) = .ok (⟨d.name, ((i + 1 : Nat) : Int), N'⟩, i + 3 + TN.length + 1) := by
        unfold defP
        rw [nm_at t1 (hn d (by simp)), bnd_ok, txt_at t2, bnd_ok]
        rw [show i + 1 + 1 + 1 = i + 3 by omega] at t3 ⊢
        rw [hsub, bnd_ok]
        simp only
        rw [txt_at t3, bnd_ok, t1]
        rfl
      have htd : qs.drop (i + 3 + TN.length + 1) = TD := by
        have e : i + 3 + TN.length + 1 = i + (3 + TN.length + 1) := by omega
        rw [e, ← List.drop_drop, ht]
        have e2 : (qw ⟨#[116, 121, 112, 101]⟩ :: qw d.name :: qm 61 :: (TN ++ (qm 59 :: TD))) = (qw ⟨#[116, 121, 112, 101]⟩ :: qw d.name :: qm 61 :: (TN ++ [qm 59])) ++ TD := by simp
        rw [e2]
        exact List.drop_left' (by simp; omega)
      unfold srcP
      have tt : txt qs ⟨#[116, 121, 112, 101]⟩ i = .ok (i + 1) := by unfold txt tak; rw [t0, if_pos (by simp [isT, qw])]
      rw [if_pos hi, tt, bnd_ok, if_neg (by omega), hdf, bnd_ok]
      simp only
      rw [src_b D _ TD E' f _ hD (fun e he => hn e (by simp [he])) htd (by omega)]
      simp
end
/-- What Check takes, written down, is parsed back. -/
theorem back_tok {D : List Df} (h : (ckP D).2.2 = 0) : ∃ T D', WD D 0 T D' ∧ srcP T 257 [] 0 = .ok D' ∧ D'.map zDf = D.map zDf := by
  obtain ⟨hl, hall⟩ := ckP_all h
  obtain ⟨T, D', hW⟩ := wd_of D hall 0
  refine ⟨T, D', hW, ?_, (wd_z D 0 T D' hW).1⟩
  have := src_b (qs := T) D 0 T D' 257 [] hW (fun d hd => (hall d hd).1) rfl (by omega)
  rw [List.nil_append] at this
  exact this
end Go.Proofs.Ytokepgimjdalaaa

/- Tokens with what stands behind each, as a text; plain. -/
namespace Go.Proofs.Ytokepgimjdalaaa
open Go.RowKit
set_option linter.unusedVariables false

/-! ### Numbers -/
def decF : Nat → Nat → List UInt8
  | 0, _ => []
  | f + 1, n => if n < 10 then [UInt8.ofNat (48 + n)] else decF f (n / 10) ++ [UInt8.ofNat (48 + n % 10)]
def dec (n : Nat) : List UInt8 := decF 20 n
theorem dig_nat {n : Nat} (h : n < 10) : (UInt8.ofNat (48 + n)).toNat = 48 + n := by
  rw [UInt8.toNat_ofNat']
  omega
theorem decF_ok : ∀ (f n : Nat), n < 10 ^ (f + 1) → decF (f + 1) n ≠ [] ∧ (∀ c ∈ decF (f + 1) n, digit c = true) ∧ num (decF (f + 1) n) = n ∧ (1 < (decF (f + 1) n).length → ∀ c, (decF (f + 1) n).head? = some c → c.toNat ≠ 48) := by
  intro f
  induction f with
  | zero =>
    intro n hn
    have hn' : n < 10 := by simpa using hn
    unfold decF
    rw [if_pos hn']
    refine ⟨by simp, fun c hc => ?_, ?_, fun h => by simp at h⟩
    · obtain rfl := List.mem_singleton.1 hc
      unfold digit
      rw [dig_nat hn']
      exact decide_eq_true (by omega)
    · simp only [num, List.foldl]
      rw [dig_nat hn']
      omega
  | succ f ih =>
    intro n hn
    by_cases h10 : n < 10
    · unfold decF
      rw [if_pos h10]
      refine ⟨by simp, fun c hc => ?_, ?_, fun h => by simp at h⟩
      · obtain rfl := List.mem_singleton.1 hc
        unfold digit
        rw [dig_nat h10]
        exact decide_eq_true (by omega)
      · simp only [num, List.foldl]
        rw [dig_nat h10]
        omega
    · have hd : n / 10 < 10 ^ (f + 1) := by
        rw [Nat.pow_succ] at hn
        exact Nat.div_lt_of_lt_mul (by rw [Nat.mul_comm]; exact hn)
      obtain ⟨h1, h2, h3, h4⟩ := ih (n / 10) hd
      have e : decF (f + 1 + 1) n = decF (f + 1) (n / 10) ++ [UInt8.ofNat (48 + n % 10)] := by
        rw [decF, if_neg h10]
      rw [e]
      have hm : n % 10 < 10 := Nat.mod_lt _ (by decide)
      refine ⟨by simp, fun c hc => ?_, ?_, fun hl c hc => ?_⟩
      · rcases List.mem_append.1 hc with hc | hc
        · exact h2 c hc
        · obtain rfl := List.mem_singleton.1 hc
          unfold digit
          rw [dig_nat hm]
          exact decide_eq_true (by omega)
      · rw [num_snoc, h3, dig_nat hm]
        omega
      · cases hL : decF (f + 1) (n / 10) with
        | nil => exact absurd hL h1
        | cons a L =>
          rw [hL] at hc h3 h4
          simp at hc
          subst hc
          by_cases hl1 : 1 < (a :: L).length
          · exact h4 hl1 a rfl
          · have : L = [] := by cases L with | nil => rfl | cons b L => simp at hl1
            subst this
            intro e2
            simp only [num, List.foldl] at h3
            omega
theorem dec_ok {n : Nat} (h : n ≤ 2147483647) : ∃ c r, dec n = c :: r ∧ digit c = true ∧ (∀ x ∈ r, digit x = true) ∧ num (dec n) = n ∧ erW (dec n) = 0 := by
  obtain ⟨h1, h2, h3, h4⟩ := decF_ok 19 n (Nat.lt_of_le_of_lt h (by decide))
  have e : dec n = decF (19 + 1) n := rfl
  rw [← e] at h1 h2 h3 h4
  cases hD : dec n with
  | nil => exact absurd hD h1
  | cons c r =>
    rw [hD] at h2 h3 h4
    have hc := h2 c (by simp)
    refine ⟨c, r, rfl, hc, fun x hx => h2 x (by simp [hx]), h3, ?_⟩
    have hlet : letter c = false := by
      unfold letter digit at *
      have := of_decide_eq_true hc
      exact decide_eq_false (by omega)
    have hok : numOk (c :: r) = true := by
      unfold numOk
      refine decide_eq_true ⟨fun ⟨h5, y, h6, h7⟩ => h4 h5 y h6 h7, by rw [h3]; exact h⟩
    show (if letter c then (if r.length < 32 then 0 else 52) else if digit c then (if numOk (c :: r) then 0 else 51) else 0) = 0
    rw [hlet, hc, hok]
    rfl
/-! ### A token's bytes -/
def wb (q : Q) : List UInt8 := if q.k = 2 then dec q.n.toNat else q.t.data.toList
def GoodQ (q : Q) : Prop := (q.k = 1 ∧ q.n = 0 ∧ Tw q.t.data.toList ∧ ∀ c r, q.t.data.toList = c :: r → letter c = true) ∨ (q.k = 2 ∧ q.t = ⟨#[]⟩ ∧ 0 ≤ q.n ∧ q.n ≤ 2147483647) ∨ (q.k = 3 ∧ q.n = 0 ∧ ∃ b, q.t = ⟨#[b]⟩ ∧ mark b = true)
theorem mark_not {b : UInt8} (h : mark b = true) : letter b = false ∧ digit b = false ∧ goes b = false := by
  simp [mark, letter, digit, goes] at *
  omega
theorem dig_not {c : UInt8} (h : digit c = true) : letter c = false := by
  simp [letter, digit] at *
  omega
theorem good_tw {q : Q} (h : GoodQ q) : Tw (wb q) ∧ ∀ p, tkW (wb q) p = ⟨q.k, q.t, q.n, p, p + (wb q).length⟩ := by
  obtain ⟨k, t, n⟩ := q
  rcases h with ⟨h1, h2, h3, h4⟩ | ⟨h1, h2, h3, h4⟩ | ⟨h1, h2, b, h3, h4⟩
  · simp only at h1 h2 h3 h4
    subst h1 h2
    have hw : wb ⟨1, t, 0⟩ = t.data.toList := by unfold wb; rw [if_neg (by simp)]
    rw [hw]
    refine ⟨h3, fun p => ?_⟩
    obtain ⟨c, r, hc, _⟩ := h3
    have hl := h4 c r hc
    rw [hc]
    unfold tkW
    simp only
    rw [hl, if_pos rfl]
    have : (⟨(c :: r).toArray⟩ : ByteArray) = t := by rw [← hc]
    rw [this]
  · simp only at h1 h2 h3 h4
    subst h1 h2
    have hw : wb ⟨2, ⟨#[]⟩, n⟩ = dec n.toNat := by unfold wb; rw [if_pos rfl]
    rw [hw]
    obtain ⟨c, r, e, hc, hr, hn, her⟩ := dec_ok (n := n.toNat) (by omega)
    have hl := dig_not hc
    refine ⟨⟨c, r, e, by rw [hc]; simp, fun x hx => by unfold follows; rw [hl, hc]; exact hr x hx, her⟩, fun p => ?_⟩
    rw [e] at hn ⊢
    unfold tkW
    simp only
    rw [hl, hc, hn]
    have : ((n.toNat : Nat) : Int) = n := by omega
    rw [this]
    rfl
  · simp only at h1 h2 h3 h4
    subst h1 h2 h3
    obtain ⟨m1, m2, _⟩ := mark_not h4
    have hw : wb ⟨3, ⟨#[b]⟩, 0⟩ = [b] := by unfold wb; rw [if_neg (by simp)]
    rw [hw]
    refine ⟨⟨b, [], rfl, by rw [h4]; simp, fun x hx => (by cases hx), ?_⟩, fun p => ?_⟩
    · show (if letter b then _ else if digit b then _ else 0) = 0
      rw [m1, m2]; rfl
    · unfold tkW
      simp only
      rw [m1, m2]
      rfl
theorem good_num {n : Int} (h : numB n = true) : GoodQ (qn n) := by
  have := of_decide_eq_true h
  exact .inr (.inl ⟨rfl, rfl, this.1, this.2⟩)
theorem good_mark {b : UInt8} (h : mark b = true) : GoodQ (qm b) := .inr (.inr ⟨rfl, rfl, b, rfl, h⟩)
theorem good_name {s : ByteArray} (h : isName s = true) : GoodQ (qw s) := by
  obtain ⟨h1, h2, h3, h4, _⟩ := of_decide_eq_true h
  refine .inl ⟨rfl, rfl, ?_, ?_⟩
  · show Tw s.data.toList
    have hsz := Lib.size_eq s
    cases hl : s.data.toList with
    | nil => rw [hl] at hsz; simp only [List.length_nil] at hsz; omega
    | cons c r =>
      have e0 : s[0]'h1 = c := by
        have := at_list s 0 h1
        rw [hl] at this
        simpa using this.symm
      have hc := h3 h1
      rw [e0] at hc
      refine ⟨c, r, rfl, by rw [hc]; simp, fun x hx => ?_, ?_⟩
      · unfold follows
        rw [hc, if_pos rfl]
        obtain ⟨i, hi, rfl⟩ := List.getElem_of_mem hx
        have hi2 : i + 1 < s.size := by rw [hsz, hl]; simp; omega
        have := at_list s (i + 1) hi2
        rw [hl] at this
        have e1 : r[i] = s[i + 1]'hi2 := by
          rw [List.getElem?_cons_succ, List.getElem?_eq_getElem hi] at this
          exact Option.some.inj this
        rw [e1]
        exact h4 (i + 1) hi2
      · show (if letter c then (if r.length < 32 then 0 else 52) else _) = 0
        rw [hc, if_pos rfl, if_pos (by rw [hl] at hsz; simp at hsz; omega)]
  · intro c r e
    have e0 : s[0]'h1 = c := by
      have := at_list s 0 h1
      have e' : s.data.toList = c :: r := e
      rw [e'] at this
      simpa using this.symm
    have hc := h3 h1
    rw [e0] at hc
    exact hc
theorem good_key (s : ByteArray) (h : s ∈ [(⟨#[117, 56]⟩ : ByteArray), ⟨#[117, 49, 54]⟩, ⟨#[117, 51, 50]⟩, ⟨#[117, 54, 52]⟩, ⟨#[98, 111, 111, 108]⟩, ⟨#[118, 97, 114, 105, 110, 116]⟩, ⟨#[118, 101, 99, 116, 111, 114]⟩, ⟨#[108, 105, 115, 116]⟩, ⟨#[111, 112, 116, 105, 111, 110]⟩, ⟨#[117, 110, 105, 111, 110]⟩, ⟨#[115, 116, 114, 117, 99, 116]⟩, ⟨#[116, 121, 112, 101]⟩]) : GoodQ (qw s) := by
  simp only [List.mem_cons, List.mem_nil_iff, or_false] at h
  rcases h with rfl | rfl | rfl | rfl | rfl | rfl | rfl | rfl | rfl | rfl | rfl | rfl
  all_goals exact .inl ⟨rfl, rfl, ⟨_, _, rfl, by decide, by decide, by decide⟩, fun c r e => by injection e with e _; subst e; decide⟩
theorem good_word {x : Nd} {of : Int} {dp : Nat} (h : ndE x of dp = 0) : GoodQ (qw (wordT x)) := by
  rcases kinds h with ⟨k9, _, _, hn⟩ | ⟨k9, _, h4⟩
  · have hwt : wordT x = x.name := by unfold wordT; rw [if_neg (by omega), if_neg (by omega), if_neg (by omega), if_neg (by omega), if_neg (by omega), if_neg (by omega), if_neg (by omega), if_neg (by omega)]
    rw [hwt]
    exact good_name hn
  · have hk : x.k = 1 ∨ x.k = 2 ∨ x.k = 3 ∨ x.k = 4 ∨ x.k = 5 ∨ x.k = 6 ∨ x.k = 7 ∨ x.k = 8 := by omega
    apply good_key
    unfold wordT wordN
    rcases hk with e | e | e | e | e | e | e | e <;> rw [e]
    · simp only [if_pos]
      split
      · simp
      · split
        · simp
        · split <;> simp
    all_goals simp
/-! ### Pieces -/
def txtP : List (Q × List UInt8) → List UInt8
  | [] => []
  | p :: P => wb p.1 ++ (p.2 ++ txtP P)
def tksP : List (Q × List UInt8) → Nat → List Tk
  | [], _ => []
  | p :: P, n => ⟨p.1.k, p.1.t, p.1.n, n, n + (wb p.1).length⟩ :: tksP P (n + (wb p.1).length + p.2.length)
def OkS : List (Q × List UInt8) → List UInt8 → Prop
  | [], _ => True
  | p :: P, S => GoodQ p.1 ∧ gp false p.2 false = true ∧ Off (wb p.1) (p.2 ++ (txtP P ++ S)) ∧ OkS P S
theorem txtP_app : ∀ (P R : List (Q × List UInt8)), txtP (P ++ R) = txtP P ++ txtP R
  | [], R => rfl
  | p :: P, R => by simp [txtP, txtP_app P R]
theorem tks_core : ∀ (P : List (Q × List UInt8)) (n : Nat), (tksP P n).map core = P.map Prod.fst
  | [], n => rfl
  | p :: P, n => by simp [tksP, tks_core P, core]
theorem cut_pcs : ∀ (P : List (Q × List UInt8)) (n : Nat), OkS P [] → cut (txtP P) n = (tksP P n, 0, 0)
  | [], n, _ => rfl
  | p :: P, n, h => by
    obtain ⟨h1, h2, h3, h4⟩ := h
    rw [List.append_nil] at h3
    obtain ⟨g1, g2⟩ := good_tw h1
    rw [txtP, cut_word g1 h3, cut_gap _ _ h2, cut_pcs P _ h4, g2]
    rfl
theorem OkS.app : ∀ {P R : List (Q × List UInt8)} {S : List UInt8}, OkS P (txtP R ++ S) → OkS R S → OkS (P ++ R) S
  | [], R, S, _, h => h
  | p :: P, R, S, h, k => by
    obtain ⟨h1, h2, h3, h4⟩ := h
    refine ⟨h1, h2, ?_, OkS.app h4 k⟩
    show Off (wb p.1) (p.2 ++ (txtP (P ++ R) ++ S))
    rw [txtP_app, List.append_assoc]
    exact h3
/-- What follows begins with no letter, digit or underscore. -/
def Stop (S : List UInt8) : Prop := ∀ x y, S = x :: y → goes x = false
theorem Stop.off {S : List UInt8} (h : Stop S) (w : List UInt8) : Off w S := fun c r x y _ e => follows_goes (h x y e)
theorem Stop.app {F S : List UInt8} (h : Stop F) (k : Stop S) : Stop (F ++ S) := by
  cases F with
  | nil => exact k
  | cons a F => intro x y e; injection e with e _; subst e; exact h a F rfl
theorem Stop.nil : Stop [] := fun x y e => by cases e
theorem stop_mark {b : UInt8} (h : mark b = true) (F : List UInt8) (P : List (Q × List UInt8)) (S : List UInt8) : Stop (txtP ((qm b, F) :: P) ++ S) := by
  intro x y e
  have : wb (qm b) = [b] := by unfold wb qm; rw [if_neg (by simp)]
  simp only [txtP, this, List.cons_append, List.nil_append] at e
  injection e with e _
  subst e
  exact (mark_not h).2.2
def FillOk (F : List UInt8) : Prop := gp false F false = true ∧ Stop F
theorem OkS.cons {q : Q} {F : List UInt8} {P : List (Q × List UInt8)} {S : List UInt8} (h : GoodQ q) (hF : FillOk F) (hs : Stop (txtP P ++ S)) (k : OkS P S) : OkS ((q, F) :: P) S := ⟨h, hF.1, (hF.2.app hs).off _, k⟩
theorem OkS.mark {b : UInt8} {F : List UInt8} {P : List (Q × List UInt8)} {S : List UInt8} (h : Go.Proofs.Ytokepgimjdalaaa.mark b = true) (hF : FillOk F) (k : OkS P S) : OkS ((qm b, F) :: P) S := by
  refine ⟨good_mark h, hF.1, ?_, k⟩
  have hw : wb (qm b) = [b] := by unfold wb qm; rw [if_neg (by simp)]
  rw [hw]
  intro c r x y e _
  injection e with e _
  subst e
  obtain ⟨m1, m2, _⟩ := mark_not h
  unfold follows
  rw [m1, m2]
  rfl
theorem FillOk.nil : FillOk [] := ⟨rfl, Stop.nil⟩
end Go.Proofs.Ytokepgimjdalaaa

/- A source that Check takes, written as a text in a style, is parsed back; plain. -/
namespace Go.Proofs.Ytokepgimjdalaaa
open Go.RowKit
set_option linter.unusedVariables false

/-- What stands behind some of the tokens. -/
structure Sty where
  arm : List UInt8
  field : List UInt8
  lst : List UInt8
  strc : List UInt8
  num : List UInt8
  eq1 : List UInt8
  eq2 : List UInt8
  semi : List UInt8
def StyOk (st : Sty) : Prop := FillOk st.arm ∧ FillOk st.field ∧ FillOk st.lst ∧ FillOk st.strc ∧ FillOk st.num ∧ FillOk st.eq1 ∧ FillOk st.eq2 ∧ FillOk st.semi
def hdS (st : Sty) (k : Int) (x : Nd) : List (Q × List UInt8) := if k = 7 then [(qn x.tag, []), (qm 58, st.arm)] else if k = 8 then [(qw x.label, []), (qm 58, st.field)] else []
def opnS (st : Sty) (x : Nd) : List (Q × List UInt8) := if x.k = 4 ∨ x.k = 5 ∨ x.k = 6 then [(qw (wordT x), if x.k = 5 then st.lst else []), (qm 60, [])] else if x.k = 7 ∨ x.k = 8 then [(qw (wordT x), if x.k = 8 then st.strc else []), (qm 123, [])] else [(qw (wordT x), [])]
def clsS (st : Sty) (x : Nd) : List (Q × List UInt8) := if x.k = 4 ∨ x.k = 5 then [(qm 44, st.num), (qn x.n, []), (qm 62, [])] else if x.k = 6 then [(qm 62, [])] else if x.k = 7 ∨ x.k = 8 then [(qm 125, [])] else []
def sepS (k : Int) (n : Nat) : List (Q × List UInt8) := if (k = 7 ∨ k = 8) ∧ 0 < n then [(qm 44, [])] else []
theorem hdS_fst (st : Sty) (k : Int) (x : Nd) : (hdS st k x).map Prod.fst = hdT k x := by
  unfold hdS hdT
  split
  · rfl
  · split <;> rfl
theorem opnS_fst (st : Sty) (x : Nd) : (opnS st x).map Prod.fst = opnT x := by
  unfold opnS opnT
  split
  · rfl
  · split <;> rfl
theorem clsS_fst (st : Sty) (x : Nd) : (clsS st x).map Prod.fst = clsT x := by
  unfold clsS clsT
  split
  · rfl
  · split
    · rfl
    · split <;> rfl
theorem sepS_fst (k : Int) (n : Nat) : (sepS k n).map Prod.fst = sepT k n := by
  unfold sepS sepT
  split <;> rfl
def WS (st : Sty) : Nat → Nat → Int → Nat → List Nd → List (Q × List UInt8) → Prop
  | 0, _, _, n, N, P => n = 0 ∧ N = [] ∧ P = []
  | _ + 1, _, _, 0, N, P => N = [] ∧ P = []
  | fu + 1, d, k, n + 1, N, P => ∃ x A B PA PB, N = x :: (A ++ B) ∧ ndE x k d = 0 ∧ WS st fu (d + 1) x.k x.kids.toNat A PA ∧ WS st fu d k n B PB ∧ P = hdS st k x ++ (opnS st x ++ (PA ++ (clsS st x ++ (sepS k n ++ PB))))
theorem WS.zero {st : Sty} {fu d : Nat} {k : Int} {N : List Nd} {P : List (Q × List UInt8)} (h : WS st fu d k 0 N P) : N = [] ∧ P = [] := by
  cases fu with
  | zero => exact h.2
  | succ f => exact h
theorem ws_of (st : Sty) : ∀ (fu d : Nat) (k : Int) (n : Nat) (N : List Nd), Forest fu d k n N → ∃ P, WS st fu d k n N P
  | 0, d, k, n, N, h => ⟨[], h.1, h.2, rfl⟩
  | fu + 1, d, k, 0, N, h => ⟨[], h, rfl⟩
  | fu + 1, d, k, n + 1, N, h => by
    obtain ⟨x, A, B, h1, h2, h3, h4⟩ := h
    obtain ⟨PA, hA⟩ := ws_of st fu (d + 1) x.k x.kids.toNat A h3
    obtain ⟨PB, hB⟩ := ws_of st fu d k n B h4
    exact ⟨_, x, A, B, PA, PB, h1, h2, hA, hB, rfl⟩
theorem ws_wp {st : Sty} : ∀ (fu d : Nat) (k : Int) (n : Nat) (N : List Nd) (P : List (Q × List UInt8)), WS st fu d k n N P → ∀ b, ∃ N', WP fu d k n N b (P.map Prod.fst) N'
  | 0, d, k, n, N, P, h, b => by obtain ⟨h1, h2, rfl⟩ := h; exact ⟨[], h1, h2, rfl, rfl⟩
  | fu + 1, d, k, 0, N, P, h, b => by obtain ⟨h1, rfl⟩ := h; exact ⟨[], h1, rfl, rfl⟩
  | fu + 1, d, k, n + 1, N, P, h, b => by
    obtain ⟨x, A, B, PA, PB, h1, h2, hA, hB, rfl⟩ := h
    obtain ⟨A', wA⟩ := ws_wp fu _ _ _ _ _ hA (b + (hdT k x).length + (opnT x).length)
    obtain ⟨B', wB⟩ := ws_wp fu _ _ _ _ _ hB (b + (hdT k x).length + (opnT x).length + (PA.map Prod.fst).length + (clsT x).length + (sepT k n).length)
    refine ⟨_, x, A, B, _, _, A', B', h1, h2, wA, wB, ?_, rfl⟩
    simp only [List.map_append, hdS_fst, opnS_fst, clsS_fst, sepS_fst]
theorem nd_tag {x : Nd} {dp : Nat} (h : ndE x 7 dp = 0) : numB x.tag = true := by
  unfold ndE nodeE at h
  by_cases h1 : 16 < dp
  · rw [if_pos h1] at h; cases h
  rw [if_neg h1] at h
  split at h
  · cases h
  · split at h
    · cases h
    · split at h
      · cases h
      · rename_i h4
        by_cases ht : x.tag = 0
        · rw [ht]; rfl
        · cases hb : numB x.tag with
          | true => rfl
          | false => exact absurd ⟨ht, .inr hb⟩ h4
theorem nd_num {x : Nd} {of : Int} {dp : Nat} (h : ndE x of dp = 0) (hk : x.k = 4 ∨ x.k = 5) : numB x.n = true := by
  obtain ⟨_, h1, _⟩ := nd_ok h
  unfold kindOk at h1
  rw [if_neg (by omega), if_neg (by omega), if_pos hk, Bool.and_eq_true] at h1
  exact h1.1
theorem hd_ok {st : Sty} (hst : StyOk st) {k : Int} {x : Nd} {d : Nat} (h : ndE x k d = 0) (S : List UInt8) : OkS (hdS st k x) S := by
  unfold hdS
  by_cases h7 : k = 7
  · subst h7
    rw [if_pos rfl]
    exact OkS.cons (good_num (nd_tag h)) FillOk.nil (stop_mark (by decide) _ _ _) (OkS.mark (by decide) hst.1 trivial)
  · rw [if_neg h7]
    by_cases h8 : k = 8
    · subst h8
      rw [if_pos rfl]
      exact OkS.cons (good_name (nd_ok h).2.2.2.1) FillOk.nil (stop_mark (by decide) _ _ _) (OkS.mark (by decide) hst.2.1 trivial)
    · rw [if_neg h8]; trivial
theorem opn_ok {st : Sty} (hst : StyOk st) {k : Int} {x : Nd} {d : Nat} (h : ndE x k d = 0) (S : List UInt8) (hS : (x.k = 1 ∨ x.k = 2 ∨ x.k = 3 ∨ x.k = 9) → Stop S) : OkS (opnS st x) S := by
  have hw := good_word h
  unfold opnS
  by_cases h4 : x.k = 4 ∨ x.k = 5 ∨ x.k = 6
  · rw [if_pos h4]
    refine OkS.cons hw ?_ (stop_mark (by decide) _ _ _) (OkS.mark (by decide) FillOk.nil trivial)
    split
    · exact hst.2.2.1
    · exact FillOk.nil
  · rw [if_neg h4]
    by_cases h7 : x.k = 7 ∨ x.k = 8
    · rw [if_pos h7]
      refine OkS.cons hw ?_ (stop_mark (by decide) _ _ _) (OkS.mark (by decide) FillOk.nil trivial)
      split
      · exact hst.2.2.2.1
      · exact FillOk.nil
    · rw [if_neg h7]
      refine OkS.cons hw FillOk.nil ?_ trivial
      refine hS ?_
      rcases kinds h with ⟨e, _⟩ | ⟨_, _, ⟨e, _⟩ | ⟨e, _⟩ | ⟨e, _⟩ | ⟨e, _⟩⟩ <;> omega
theorem cls_ok {st : Sty} (hst : StyOk st) {k : Int} {x : Nd} {d : Nat} (h : ndE x k d = 0) (S : List UInt8) : OkS (clsS st x) S := by
  unfold clsS
  by_cases h4 : x.k = 4 ∨ x.k = 5
  · rw [if_pos h4]
    exact OkS.mark (by decide) hst.2.2.2.2.1 (OkS.cons (good_num (nd_num h h4)) FillOk.nil (stop_mark (by decide) _ _ _) (OkS.mark (by decide) FillOk.nil trivial))
  · rw [if_neg h4]
    split
    · exact OkS.mark (by decide) FillOk.nil trivial
    · split
      · exact OkS.mark (by decide) FillOk.nil trivial
      · trivial
theorem ws_ok {st : Sty} (hst : StyOk st) : ∀ (fu d : Nat) (k : Int) (n : Nat) (N : List Nd) (P : List (Q × List UInt8)) (S : List UInt8), WS st fu d k n N P → (n ≤ 1 ∨ k = 7 ∨ k = 8) → Stop S → OkS P S
  | 0, d, k, n, N, P, S, h, hk, hS => by obtain ⟨_, _, rfl⟩ := h; trivial
  | fu + 1, d, k, 0, N, P, S, h, hk, hS => by obtain ⟨_, rfl⟩ := h; trivial
  | fu + 1, d, k, n + 1, N, P, S, h, hk, hS => by
    obtain ⟨x, A, B, PA, PB, h1, h2, hA, hB, rfl⟩ := h
    have hBk := ws_ok hst fu d k n B PB S hB (by omega) hS
    have hsep : OkS (sepS k n) (txtP PB ++ S) := by
      unfold sepS
      split
      · exact OkS.mark (by decide) FillOk.nil trivial
      · trivial
    have htail : Stop (txtP (sepS k n ++ PB) ++ S) := by
      rcases Nat.eq_zero_or_pos n with h0 | h0
      · subst h0
        obtain ⟨_, rfl⟩ := hB.zero
        have : sepS k 0 = [] := by unfold sepS; rw [if_neg (by omega)]
        rw [this]
        exact hS
      · have : sepS k n = [(qm 44, [])] := by unfold sepS; rw [if_pos ⟨by omega, h0⟩]
        rw [this]
        exact stop_mark (by decide) _ _ _
    have h5 := OkS.app hsep hBk
    have h6 := OkS.app (cls_ok hst h2 (txtP (sepS k n ++ PB) ++ S)) h5
    have hcl : (x.k = 4 ∨ x.k = 5 ∨ x.k = 6 ∨ x.k = 7 ∨ x.k = 8) → Stop (txtP (clsS st x ++ (sepS k n ++ PB)) ++ S) := fun hx => by
      unfold clsS
      by_cases e1 : x.k = 4 ∨ x.k = 5
      · rw [if_pos e1]; exact stop_mark (by decide) _ _ _
      · rw [if_neg e1]
        by_cases e2 : x.k = 6
        · rw [if_pos e2]; exact stop_mark (by decide) _ _ _
        · rw [if_neg e2, if_pos (by omega)]; exact stop_mark (by decide) _ _ _
    have hPA : OkS PA (txtP (clsS st x ++ (sepS k n ++ PB)) ++ S) := by
      rcases kinds h2 with ⟨_, _, e, _⟩ | ⟨_, _, ⟨_, e, _⟩ | ⟨e1, e, _⟩ | ⟨e1, e, _⟩ | ⟨e1, _⟩⟩
      · rw [e] at hA; obtain ⟨_, rfl⟩ := hA.zero; trivial
      · rw [e] at hA; obtain ⟨_, rfl⟩ := hA.zero; trivial
      · exact ws_ok hst fu _ _ _ _ _ _ hA (by omega) (hcl (by omega))
      · exact ws_ok hst fu _ _ _ _ _ _ hA (by omega) (hcl (by omega))
      · exact ws_ok hst fu _ _ _ _ _ _ hA (by omega) (hcl (by omega))
    have h7 := OkS.app hPA h6
    have hop : OkS (opnS st x) (txtP (PA ++ (clsS st x ++ (sepS k n ++ PB))) ++ S) := opn_ok hst h2 _ (fun hx => by
      have hkd : x.kids = 0 := by
        rcases kinds h2 with ⟨_, _, e, _⟩ | ⟨_, _, ⟨_, e, _⟩ | ⟨e1, e, _⟩ | ⟨e1, e, _⟩ | ⟨e1, _⟩⟩ <;> omega
      rw [hkd] at hA
      obtain ⟨_, rfl⟩ := hA.zero
      have : clsS st x = [] := by unfold clsS; rw [if_neg (by omega), if_neg (by omega), if_neg (by omega)]
      rw [this]
      exact htail)
    have h8 := OkS.app hop h7
    exact OkS.app (hd_ok hst h2 _) h8
/-! ### Definitions -/
def WDS (st : Sty) : List Df → List (Q × List UInt8) → Prop
  | [], P => P = []
  | d :: D, P => ∃ PN PD, WS st d.ty.length 0 0 1 d.ty PN ∧ WDS st D PD ∧ P = (qw ⟨#[116, 121, 112, 101]⟩, [32]) :: (qw d.name, st.eq1) :: (qm 61, st.eq2) :: (PN ++ ((qm 59, st.semi) :: PD))
theorem wds_of (st : Sty) : ∀ (D : List Df), (∀ d ∈ D, isName d.name = true ∧ Forest d.ty.length 0 0 1 d.ty) → ∃ P, WDS st D P
  | [], _ => ⟨[], rfl⟩
  | d :: D, h => by
    obtain ⟨PN, hN⟩ := ws_of st _ _ _ _ _ (h d (by simp)).2
    obtain ⟨PD, hD⟩ := wds_of st D (fun e he => h e (by simp [he]))
    exact ⟨_, PN, PD, hN, hD, rfl⟩
theorem wds_wd {st : Sty} : ∀ (D : List Df) (P : List (Q × List UInt8)), WDS st D P → ∀ b, ∃ D', WD D b (P.map Prod.fst) D'
  | [], P, h, b => by have h' : P = [] := h; subst h'; exact ⟨[], rfl, rfl⟩
  | d :: D, P, h, b => by
    obtain ⟨PN, PD, hN, hD, rfl⟩ := h
    obtain ⟨N', wN⟩ := ws_wp _ _ _ _ _ _ hN (b + 3)
    obtain ⟨E', wD⟩ := wds_wd D PD hD (b + 3 + (PN.map Prod.fst).length + 1)
    exact ⟨_, _, N', _, E', wN, wD, by simp, rfl⟩
theorem wds_ok {st : Sty} (hst : StyOk st) : ∀ (D : List Df) (P : List (Q × List UInt8)), WDS st D P → (∀ d ∈ D, isName d.name = true) → OkS P []
  | [], P, h, _ => by have h' : P = [] := h; subst h'; trivial
  | d :: D, P, h, hn => by
    obtain ⟨PN, PD, hN, hD, rfl⟩ := h
    have hD' := wds_ok hst D PD hD (fun e he => hn e (by simp [he]))
    have h1 : OkS ((qm 59, st.semi) :: PD) [] := OkS.mark (by decide) hst.2.2.2.2.2.2.2 hD'
    have h2 : OkS PN (txtP ((qm 59, st.semi) :: PD) ++ []) := ws_ok hst _ _ _ _ _ _ _ hN (by omega) (stop_mark (by decide) _ _ _)
    have h3 := OkS.app h2 h1
    have h4 : OkS ((qm 61, st.eq2) :: (PN ++ ((qm 59, st.semi) :: PD))) [] := OkS.mark (by decide) hst.2.2.2.2.2.2.1 h3
    have h5 := OkS.cons (good_name (hn d (by simp))) hst.2.2.2.2.2.1 (stop_mark (by decide) _ _ _) h4
    refine ⟨good_key _ (by simp), by decide, ?_, h5⟩
    exact Stop.off (fun x y e => by injection e with e _; subst e; decide) _
theorem tks_pos : ∀ (P : List (Q × List UInt8)) (n j : Nat), j < P.length → ((tksP P n).getD j tk0).a = n + (txtP (P.take j)).length
  | [], n, j, h => by simp at h
  | p :: P, n, 0, h => by simp [tksP, txtP]
  | p :: P, n, j + 1, h => by
    have ih := tks_pos P (n + (wb p.1).length + p.2.length) j (by simpa using h)
    simp only [tksP, List.getD_cons_succ, List.take_succ_cons, txtP, List.length_append]
    rw [ih]
    omega
theorem tks_len : ∀ (P : List (Q × List UInt8)) (n : Nat), (tksP P n).length = P.length
  | [], n => rfl
  | p :: P, n => by simp [tksP, tks_len P]
/-- The text is parsed back: each node at the place of its token. -/
theorem text_back {st : Sty} (hst : StyOk st) {D : List Df} (h : (ckP D).2.2 = 0) : ∃ P D', WDS st D P ∧ WD D 0 (P.map Prod.fst) D' ∧ D'.map zDf = D.map zDf ∧
    ∀ s : ByteArray, s.data.toList = txtP P → s.size ≤ 65536 → cutT s = (tksP P 0, 0, 0) ∧ prsT s = (D'.map (dfP (tksP P 0) s.size), 0, 0) := by
  obtain ⟨hl, hall⟩ := ckP_all h
  obtain ⟨P, hP⟩ := wds_of st D hall
  obtain ⟨D', hW⟩ := wds_wd D P hP 0
  refine ⟨P, D', hP, hW, (wd_z D 0 _ D' hW).1, fun s hs hz => ?_⟩
  have hc : cutT s = (tksP P 0, 0, 0) := by
    unfold cutT
    rw [if_neg (by omega), hs]
    exact cut_pcs P 0 (wds_ok hst D P hP (fun d hd => (hall d hd).1))
  refine ⟨hc, ?_⟩
  have hr := src_b (qs := P.map Prod.fst) D 0 _ D' 257 [] hW (fun d hd => (hall d hd).1) rfl (by omega)
  rw [List.nil_append] at hr
  have := prs_ok (s := s) (by rw [hc]) (D := D') (by rw [hc]; simp only; rw [tks_core]; exact hr)
  rw [hc] at this
  exact this
end Go.Proofs.Ytokepgimjdalaaa

/- The places of a text that is written: plain. -/
namespace Go.Proofs.Ytokepgimjdalaaa
open Go.RowKit
set_option linter.unusedVariables false

/-- n trees written from byte number p on: their pieces, and the nodes with their places. -/
def WQ (st : Sty) : Nat → Nat → Int → Nat → List Nd → Nat → List (Q × List UInt8) → List Nd → Prop
  | 0, _, _, n, N, _, P, N' => n = 0 ∧ N = [] ∧ P = [] ∧ N' = []
  | _ + 1, _, _, 0, N, _, P, N' => N = [] ∧ P = [] ∧ N' = []
  | fu + 1, d, k, n + 1, N, p, P, N' => ∃ x A B PA PB A' B', N = x :: (A ++ B) ∧ ndE x k d = 0 ∧
      WQ st fu (d + 1) x.k x.kids.toNat A (p + (txtP (hdS st k x ++ opnS st x)).length) PA A' ∧
      WQ st fu d k n B (p + (txtP (hdS st k x ++ (opnS st x ++ (PA ++ (clsS st x ++ sepS k n))))).length) PB B' ∧
      P = hdS st k x ++ (opnS st x ++ (PA ++ (clsS st x ++ (sepS k n ++ PB)))) ∧ N' = { x with a := (p : Int) } :: (A' ++ B')
theorem wq_of (st : Sty) : ∀ (fu d : Nat) (k : Int) (n : Nat) (N : List Nd), Forest fu d k n N → ∀ p, ∃ P N', WQ st fu d k n N p P N'
  | 0, d, k, n, N, h, p => ⟨[], [], h.1, h.2, rfl, rfl⟩
  | fu + 1, d, k, 0, N, h, p => ⟨[], [], h, rfl, rfl⟩
  | fu + 1, d, k, n + 1, N, h, p => by
    obtain ⟨x, A, B, h1, h2, h3, h4⟩ := h
    obtain ⟨PA, A', hA⟩ := wq_of st fu (d + 1) x.k x.kids.toNat A h3 (p + (txtP (hdS st k x ++ opnS st x)).length)
    obtain ⟨PB, B', hB⟩ := wq_of st fu d k n B h4 (p + (txtP (hdS st k x ++ (opnS st x ++ (PA ++ (clsS st x ++ sepS k n))))).length)
    exact ⟨_, _, x, A, B, PA, PB, A', B', h1, h2, hA, hB, rfl, rfl⟩
theorem WQ.zero {st : Sty} {fu d : Nat} {k : Int} {N : List Nd} {p : Nat} {P : List (Q × List UInt8)} {N' : List Nd} (h : WQ st fu d k 0 N p P N') : N = [] ∧ P = [] ∧ N' = [] := by
  cases fu with
  | zero => exact h.2
  | succ f => exact h
theorem wq_ws {st : Sty} : ∀ (fu d : Nat) (k : Int) (n : Nat) (N : List Nd) (p : Nat) (P : List (Q × List UInt8)) (N' : List Nd), WQ st fu d k n N p P N' → WS st fu d k n N P
  | 0, d, k, n, N, p, P, N', h => ⟨h.1, h.2.1, h.2.2.1⟩
  | fu + 1, d, k, 0, N, p, P, N', h => ⟨h.1, h.2.1⟩
  | fu + 1, d, k, n + 1, N, p, P, N', h => by
    obtain ⟨x, A, B, PA, PB, A', B', h1, h2, hA, hB, h5, _⟩ := h
    exact ⟨x, A, B, PA, PB, h1, h2, wq_ws fu _ _ _ _ _ _ _ hA, wq_ws fu _ _ _ _ _ _ _ hB, h5⟩
theorem opn_pos (st : Sty) (x : Nd) : 0 < (opnS st x).length := by
  unfold opnS
  split
  · simp
  · split <;> simp
theorem plc_pcs {pre post : List (Q × List UInt8)} {p : Q × List UInt8} (L : Nat) : plc (tksP (pre ++ p :: post) 0) L pre.length = (txtP pre).length := by
  have hl : pre.length < (tksP (pre ++ p :: post) 0).length := by rw [tks_len]; simp
  unfold plc tkAt
  rw [if_pos hl, tks_pos _ _ _ (by simp), List.take_left' rfl, Nat.zero_add]
theorem wq_wp {st : Sty} (L : Nat) : ∀ (fu d : Nat) (k : Int) (n : Nat) (N : List Nd) (p : Nat) (P : List (Q × List UInt8)) (N' : List Nd), WQ st fu d k n N p P N' → ∀ (pre post : List (Q × List UInt8)), (txtP pre).length = p →
    ∃ M, WP fu d k n N pre.length (P.map Prod.fst) M ∧ M.map (ndP (tksP (pre ++ (P ++ post)) 0) L) = N'
  | 0, d, k, n, N, p, P, N', h, pre, post, hp => by obtain ⟨h1, h2, rfl, rfl⟩ := h; exact ⟨[], ⟨h1, h2, rfl, rfl⟩, rfl⟩
  | fu + 1, d, k, 0, N, p, P, N', h, pre, post, hp => by obtain ⟨h1, rfl, rfl⟩ := h; exact ⟨[], ⟨h1, rfl, rfl⟩, rfl⟩
  | fu + 1, d, k, n + 1, N, p, P, N', h, pre, post, hp => by
    obtain ⟨x, A, B, PA, PB, A', B', h1, h2, hA, hB, rfl, rfl⟩ := h
    obtain ⟨MA, wA, eA⟩ := wq_wp L fu _ _ _ _ _ _ _ hA (pre ++ (hdS st k x ++ opnS st x)) (clsS st x ++ (sepS k n ++ (PB ++ post))) (by rw [txtP_app, List.length_append, hp])
    obtain ⟨MB, wB, eB⟩ := wq_wp L fu _ _ _ _ _ _ _ hB (pre ++ (hdS st k x ++ (opnS st x ++ (PA ++ (clsS st x ++ sepS k n))))) post (by rw [txtP_app, List.length_append, hp])
    have l1 : (hdS st k x).length = (hdT k x).length := by rw [← hdS_fst st, List.length_map]
    have l2 : (opnS st x).length = (opnT x).length := by rw [← opnS_fst st, List.length_map]
    have l3 : (clsS st x).length = (clsT x).length := by rw [← clsS_fst st, List.length_map]
    have l4 : (sepS k n).length = (sepT k n).length := by rw [← sepS_fst, List.length_map]
    have i1 : (pre ++ (hdS st k x ++ opnS st x)).length = pre.length + (hdT k x).length + (opnT x).length := by simp only [List.length_append, l1, l2]; omega
    have i2 : (pre ++ (hdS st k x ++ (opnS st x ++ (PA ++ (clsS st x ++ sepS k n))))).length = pre.length + (hdT k x).length + (opnT x).length + (PA.map Prod.fst).length + (clsT x).length + (sepT k n).length := by
      simp only [List.length_append, l1, l2, l3, l4, List.length_map]; omega
    rw [i1] at wA
    rw [i2] at wB
    refine ⟨{ x with a := (pre.length : Int) } :: (MA ++ MB), ⟨x, A, B, _, _, MA, MB, h1, h2, wA, wB, ?_, rfl⟩, ?_⟩
    · simp only [List.map_append, hdS_fst, opnS_fst, clsS_fst, sepS_fst]
    · have q1 : pre ++ (hdS st k x ++ opnS st x) ++ (PA ++ (clsS st x ++ (sepS k n ++ (PB ++ post)))) = pre ++ ((hdS st k x ++ (opnS st x ++ (PA ++ (clsS st x ++ (sepS k n ++ PB))))) ++ post) := by simp
      have q2 : pre ++ (hdS st k x ++ (opnS st x ++ (PA ++ (clsS st x ++ sepS k n)))) ++ (PB ++ post) = pre ++ ((hdS st k x ++ (opnS st x ++ (PA ++ (clsS st x ++ (sepS k n ++ PB))))) ++ post) := by simp
      rw [q1] at eA
      rw [q2] at eB
      rw [List.map_cons, List.map_append, eA, eB]
      congr 1
      have hne : ∃ z zs, (hdS st k x ++ (opnS st x ++ (PA ++ (clsS st x ++ (sepS k n ++ PB))))) ++ post = z :: zs := by
        have := opn_pos st x
        cases hh : (hdS st k x ++ (opnS st x ++ (PA ++ (clsS st x ++ (sepS k n ++ PB))))) ++ post with
        | nil =>
          have := congrArg List.length hh
          simp only [List.length_append, List.length_nil] at this
          omega
        | cons z zs => exact ⟨z, zs, rfl⟩
      obtain ⟨z, zs, hz⟩ := hne
      rw [hz]
      unfold ndP
      simp only [Int.toNat_natCast]
      rw [plc_pcs, hp]
/-! ### Definitions -/
def WDQ (st : Sty) : List Df → Nat → List (Q × List UInt8) → List Df → Prop
  | [], _, P, D' => P = [] ∧ D' = []
  | d :: D, p, P, D' => ∃ PN N' PD E', WQ st d.ty.length 0 0 1 d.ty (p + (txtP [(qw ⟨#[116, 121, 112, 101]⟩, [32]), (qw d.name, st.eq1), (qm 61, st.eq2)]).length) PN N' ∧
      WDQ st D (p + (txtP ((qw ⟨#[116, 121, 112, 101]⟩, [32]) :: (qw d.name, st.eq1) :: (qm 61, st.eq2) :: (PN ++ [(qm 59, st.semi)]))).length) PD E' ∧
      P = (qw ⟨#[116, 121, 112, 101]⟩, [32]) :: (qw d.name, st.eq1) :: (qm 61, st.eq2) :: (PN ++ ((qm 59, st.semi) :: PD)) ∧ D' = ⟨d.name, ((p + (txtP [(qw ⟨#[116, 121, 112, 101]⟩, [32])]).length : Nat) : Int), N'⟩ :: E'
theorem wdq_of (st : Sty) : ∀ (D : List Df), (∀ d ∈ D, isName d.name = true ∧ Forest d.ty.length 0 0 1 d.ty) → ∀ p, ∃ P D', WDQ st D p P D'
  | [], _, p => ⟨[], [], rfl, rfl⟩
  | d :: D, h, p => by
    obtain ⟨PN, N', hN⟩ := wq_of st _ _ _ _ _ (h d (by simp)).2 (p + (txtP [(qw ⟨#[116, 121, 112, 101]⟩, [32]), (qw d.name, st.eq1), (qm 61, st.eq2)]).length)
    obtain ⟨PD, E', hD⟩ := wdq_of st D (fun e he => h e (by simp [he])) (p + (txtP ((qw ⟨#[116, 121, 112, 101]⟩, [32]) :: (qw d.name, st.eq1) :: (qm 61, st.eq2) :: (PN ++ [(qm 59, st.semi)]))).length)
    exact ⟨_, _, PN, N', PD, E', hN, hD, rfl, rfl⟩
theorem wdq_wds {st : Sty} : ∀ (D : List Df) (p : Nat) (P : List (Q × List UInt8)) (D' : List Df), WDQ st D p P D' → WDS st D P
  | [], p, P, D', h => h.1
  | d :: D, p, P, D', h => by
    obtain ⟨PN, N', PD, E', hN, hD, h3, _⟩ := h
    exact ⟨PN, PD, wq_ws _ _ _ _ _ _ _ _ hN, wdq_wds D _ _ _ hD, h3⟩
theorem wdq_wd {st : Sty} (L : Nat) : ∀ (D : List Df) (p : Nat) (P : List (Q × List UInt8)) (D' : List Df), WDQ st D p P D' → ∀ (pre : List (Q × List UInt8)), (txtP pre).length = p → ∃ E, WD D pre.length (P.map Prod.fst) E ∧ E.map (dfP (tksP (pre ++ P) 0) L) = D'
  | [], p, P, D', h, pre, hp => by obtain ⟨rfl, rfl⟩ := h; exact ⟨[], ⟨rfl, rfl⟩, rfl⟩
  | d :: D, p, P, D', h, pre, hp => by
    obtain ⟨PN, N', PD, E', hN, hD, rfl, rfl⟩ := h
    obtain ⟨M, wM, eM⟩ := wq_wp L _ _ _ _ _ _ _ _ hN (pre ++ [(qw ⟨#[116, 121, 112, 101]⟩, [32]), (qw d.name, st.eq1), (qm 61, st.eq2)]) ((qm 59, st.semi) :: PD) (by rw [txtP_app, List.length_append, hp])
    obtain ⟨E, wE, eE⟩ := wdq_wd L D _ _ _ hD (pre ++ ((qw ⟨#[116, 121, 112, 101]⟩, [32]) :: (qw d.name, st.eq1) :: (qm 61, st.eq2) :: (PN ++ [(qm 59, st.semi)]))) (by rw [txtP_app, List.length_append, hp])
    have i1 : (pre ++ [(qw ⟨#[116, 121, 112, 101]⟩, [32]), (qw d.name, st.eq1), (qm 61, st.eq2)]).length = pre.length + 3 := by simp
    have i2 : (pre ++ ((qw ⟨#[116, 121, 112, 101]⟩, [32]) :: (qw d.name, st.eq1) :: (qm 61, st.eq2) :: (PN ++ [(qm 59, st.semi)]))).length = pre.length + 3 + (PN.map Prod.fst).length + 1 := by simp; omega
    rw [i1] at wM
    rw [i2] at wE
    refine ⟨⟨d.name, ((pre.length + 1 : Nat) : Int), M⟩ :: E, ⟨_, M, _, E, wM, wE, by simp, rfl⟩, ?_⟩
    have q1 : pre ++ [(qw ⟨#[116, 121, 112, 101]⟩, [32]), (qw d.name, st.eq1), (qm 61, st.eq2)] ++ (PN ++ ((qm 59, st.semi) :: PD)) = pre ++ ((qw ⟨#[116, 121, 112, 101]⟩, [32]) :: (qw d.name, st.eq1) :: (qm 61, st.eq2) :: (PN ++ ((qm 59, st.semi) :: PD))) := by simp
    have q2 : pre ++ ((qw ⟨#[116, 121, 112, 101]⟩, [32]) :: (qw d.name, st.eq1) :: (qm 61, st.eq2) :: (PN ++ [(qm 59, st.semi)])) ++ PD = pre ++ ((qw ⟨#[116, 121, 112, 101]⟩, [32]) :: (qw d.name, st.eq1) :: (qm 61, st.eq2) :: (PN ++ ((qm 59, st.semi) :: PD))) := by simp
    rw [q1] at eM
    rw [q2] at eE
    rw [List.map_cons, eE]
    congr 1
    unfold dfP
    simp only [Int.toNat_natCast, eM]
    have q3 : pre ++ ((qw ⟨#[116, 121, 112, 101]⟩, [32]) :: (qw d.name, st.eq1) :: (qm 61, st.eq2) :: (PN ++ ((qm 59, st.semi) :: PD))) = (pre ++ [(qw ⟨#[116, 121, 112, 101]⟩, [32])]) ++ (qw d.name, st.eq1) :: ((qm 61, st.eq2) :: (PN ++ ((qm 59, st.semi) :: PD))) := by simp
    have hpl := plc_pcs (pre := pre ++ [(qw ⟨#[116, 121, 112, 101]⟩, [32])]) (p := (qw d.name, st.eq1)) (post := (qm 61, st.eq2) :: (PN ++ ((qm 59, st.semi) :: PD))) L
    rw [← q3] at hpl
    have q4 : (pre ++ [(qw ⟨#[116, 121, 112, 101]⟩, ([32] : List UInt8))]).length = pre.length + 1 := by simp
    rw [q4, txtP_app, List.length_append, hp] at hpl
    rw [hpl]
/-- A source that Check takes, written down, is parsed back, each node at the place where it was written. -/
theorem text_back2 {st : Sty} (hst : StyOk st) {D : List Df} (h : (ckP D).2.2 = 0) {P : List (Q × List UInt8)} {D' : List Df} (hW : WDQ st D 0 P D') (s : ByteArray) (hs : s.data.toList = txtP P) (hz : s.size ≤ 65536) : prsT s = (D', 0, 0) := by
  obtain ⟨hl, hall⟩ := ckP_all h
  obtain ⟨E, wE, eE⟩ := wdq_wd s.size D 0 P D' hW [] rfl
  have hS := wdq_wds D 0 P D' hW
  have hc : cutT s = (tksP P 0, 0, 0) := by
    unfold cutT
    rw [if_neg (by omega), hs]
    exact cut_pcs P 0 (wds_ok hst D P hS (fun d hd => (hall d hd).1))
  have hr := src_b (qs := P.map Prod.fst) D 0 _ E 257 [] wE (fun d hd => (hall d hd).1) rfl (by omega)
  rw [List.nil_append] at hr
  have := prs_ok (s := s) (by rw [hc]) (D := E) (by rw [hc]; simp only; rw [tks_core]; exact hr)
  rw [hc] at this
  rw [this]
  simp only
  rw [List.nil_append] at eE
  rw [eE]
end Go.Proofs.Ytokepgimjdalaaa
