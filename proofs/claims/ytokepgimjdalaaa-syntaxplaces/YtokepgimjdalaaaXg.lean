import Derived.Test.YtokepgimjdalaaaWf
import Derived.Test.YtokepgimjdalaaaUb
import Derived.Test.YtokepgimjdalaaaVa
import Derived.Test.YtokepgimjdalaaaVb

/- What is parsed, Check takes; plain. -/
namespace Go.Proofs.Ytokepgimjdalaaa
open Go.RowKit
set_option linter.unusedVariables false

/-- These nodes are c kids of one of kind o, that may hold f deep. -/
def Eats (M : List Nd) (o : Int) (f c : Nat) : Prop := ∀ (L : List (Int × Int)) (left : Int) (rest : List Nd) (i : Nat), L.length + f = 17 → (c : Int) ≤ left → ct (M ++ rest) i (L ++ [(o, left)]) = ct rest (i + M.length) (wo (L ++ [(o, left - c)]))
theorem Eats.app {M1 M2 : List Nd} {o : Int} {f c1 c2 : Nat} (h1 : Eats M1 o f c1) (h2 : Eats M2 o f c2) (hc : 0 < c2) : Eats (M1 ++ M2) o f (c1 + c2) := fun L left rest i hL hl => by
  rw [List.append_assoc, h1 L left _ i hL (by omega), wo_more _ _ (by show left - (c1 : Int) ≠ 0; omega), h2 L _ rest _ hL (by omega), List.length_append, Nat.add_assoc]
  congr 4
  show ((o, left - (c1 : Int) - c2) : Int × Int) = (o, left - ((c1 + c2 : Nat) : Int))
  congr 1
  omega
theorem ct_step {x : Nd} {L : List (Int × Int)} {o left : Int} (rest : List Nd) (i : Nat) (h : ndE x o L.length = 0) : ct (x :: rest) i (L ++ [(o, left)]) = ct rest (i + 1) (wo (L ++ [(o, left - 1), (x.k, x.kids)])) := by
  have e1 : ctE (L ++ [(o, left)]) x = 0 := by unfold ctE; simpa using h
  rw [ct, if_pos e1]
  unfold ctS
  simp
theorem Eats.leaf {x : Nd} {o : Int} {f : Nat} (hk : x.kids = 0) (h : ∀ dp, dp + f = 17 → ndE x o dp = 0) : Eats [x] o f 1 := fun L left rest i hL hl => by
  rw [List.singleton_append, ct_step rest i (h _ hL)]
  have e : L ++ [(o, left - 1), (x.k, x.kids)] = (L ++ [(o, left - 1)]) ++ [(x.k, x.kids)] := by simp
  rw [e, wo_zero _ _ hk]
  rfl
theorem Eats.over {x : Nd} {M : List Nd} {o : Int} {f c : Nat} (hk : x.kids = c) (h0 : 0 < c) (h : ∀ dp, dp + (f + 1) = 17 → ndE x o dp = 0) (hM : Eats M x.k f c) : Eats (x :: M) o (f + 1) 1 := fun L left rest i hL hl => by
  rw [List.cons_append, ct_step _ i (h _ hL)]
  have e : L ++ [(o, left - 1), (x.k, x.kids)] = (L ++ [(o, left - 1)]) ++ [(x.k, x.kids)] := by simp
  rw [e, wo_more _ _ (by show x.kids ≠ 0; omega), hM (L ++ [(o, left - 1)]) x.kids rest _ (by simp; omega) (by omega), wo_zero _ _ (by show x.kids - (c : Int) = 0; omega), List.length_cons]
  congr 1
  omega
section
variable (qs : List Q)
/-- What a part's or an expression's first node may be. -/
def Fresh (x : Nd) (o : Int) : Prop := x.name = ⟨#[]⟩ ∧ x.kids = 0 ∧ nameOk x.label (decide (o = 8)) = true ∧ (x.tag = 0 ∨ (o = 7 ∧ numB x.tag = true))
def NodeC (f : Nat) : Prop := ∀ x i M j o, nodeP qs f x i = .ok (M, j) → Fresh x o → Eats M o f 1
theorem nde_ok {k n : Int} {nm lb : ByteArray} {tg kd a o : Int} {dp : Nat} (hd : dp ≤ 16) (hm : kd ≤ 64) (hk : kindOk k n kd = true) (hn : nameOk nm (decide (k = 9)) = true) (hl : nameOk lb (decide (o = 8)) = true) (ht : tg = 0 ∨ (o = 7 ∧ numB tg = true)) : ndE ⟨k, n, nm, lb, tg, kd, a⟩ o dp = 0 := by
  unfold ndE nodeE
  simp only
  rw [if_neg (by omega), if_neg (by omega), if_neg (by rw [hk, hn, hl]; simp), if_neg]
  rintro ⟨h1, h2⟩
  rcases ht with ht | ⟨h3, h4⟩
  · exact h1 ht
  · rcases h2 with h2 | h2
    · exact h2 h3
    · rw [h4] at h2; cases h2
theorem bnd_inv {α β : Type} {r : PR α} {f : α → PR β} {b : β} (h : bnd r f = .ok b) : ∃ a, r = .ok a ∧ f a = .ok b := by
  cases r with
  | error e => cases h
  | ok a => exact ⟨a, rfl, h⟩
theorem tak_inv {may : Q → Bool} {i j : Nat} (h : tak qs may i = .ok j) : may (qAt qs i) = true ∧ j = i + 1 := by
  unfold tak at h
  by_cases hm : may (qAt qs i) = true
  · rw [if_pos hm] at h
    injection h with h
    exact ⟨hm, h.symm⟩
  · rw [if_neg hm] at h
    cases h
theorem more_c {one : Nat → Nat → PR (List Nd × Nat)} {o : Int} {f : Nat} (h : ∀ c i M j, one c i = .ok (M, j) → c < 64 ∧ Eats M o f 1) :
    ∀ (fu c : Nat) (N : List Nd) (i : Nat) (N' : List Nd) (c' j : Nat), moreP qs one fu c N i = .ok (N', c', j) → c ≤ 64 → Eats N o f c → c' ≤ 64 ∧ c ≤ c' ∧ Eats N' o f c'
  | 0, c, N, i, N', c', j, e, hc, hN => by cases e
  | fu + 1, c, N, i, N', c', j, e, hc, hN => by
    unfold moreP at e
    by_cases ht : isT ⟨#[44]⟩ (qAt qs i) = true
    · rw [if_pos ht] at e
      obtain ⟨⟨M, k⟩, e1, e2⟩ := bnd_inv e
      obtain ⟨h1, h2⟩ := h _ _ _ _ e1
      obtain ⟨a, b, d⟩ := more_c h fu (c + 1) (N ++ M) k N' c' j e2 (by omega) (hN.app h2 (by omega))
      exact ⟨a, by omega, d⟩
    · rw [if_neg ht] at e
      obtain ⟨k, e1, e2⟩ := bnd_inv e
      injection e2 with e2
      injection e2 with e3 e4
      injection e4 with e4 e5
      subst e3 e4
      exact ⟨hc, Nat.le_refl _, hN⟩
theorem parts_c {one : Nat → Nat → PR (List Nd × Nat)} {o : Int} {f : Nat} (h : ∀ c i M j, one c i = .ok (M, j) → c < 64 ∧ Eats M o f 1) {i : Nat} {N : List Nd} {c j : Nat} (e : partsP qs one i = .ok (N, c, j)) : c ≤ 64 ∧ 1 ≤ c ∧ Eats N o f c := by
  unfold partsP at e
  obtain ⟨i1, e1, e⟩ := bnd_inv e
  obtain ⟨⟨M, k⟩, e2, e⟩ := bnd_inv e
  obtain ⟨h1, h2⟩ := h _ _ _ _ e2
  exact more_c qs h _ _ _ _ _ _ _ e (by decide) h2
end
end Go.Proofs.Ytokepgimjdalaaa

/- What is parsed, Check takes; plain: nodes. -/
namespace Go.Proofs.Ytokepgimjdalaaa
open Go.RowKit
set_option linter.unusedVariables false

theorem beg_cases (t : ByteArray) : (beg t).1 = 0 ∨ ((beg t).1 = 1 ∧ ((beg t).2 = 1 ∨ (beg t).2 = 2 ∨ (beg t).2 = 4 ∨ (beg t).2 = 8)) ∨ ((beg t).2 = 0 ∧ ((beg t).1 = 2 ∨ (beg t).1 = 3 ∨ (beg t).1 = 4 ∨ (beg t).1 = 5 ∨ (beg t).1 = 6 ∨ (beg t).1 = 7 ∨ (beg t).1 = 8)) ∨ ((beg t).2 = 0 ∧ (beg t).1 = 9 ∧ isName t = true) := by
  unfold beg
  by_cases h0 : t = ⟨#[117, 56]⟩
  · rw [if_pos h0]; exact .inr (.inl ⟨rfl, by decide⟩)
  rw [if_neg h0]
  by_cases h1 : t = ⟨#[117, 49, 54]⟩
  · rw [if_pos h1]; exact .inr (.inl ⟨rfl, by decide⟩)
  rw [if_neg h1]
  by_cases h2 : t = ⟨#[117, 51, 50]⟩
  · rw [if_pos h2]; exact .inr (.inl ⟨rfl, by decide⟩)
  rw [if_neg h2]
  by_cases h3 : t = ⟨#[117, 54, 52]⟩
  · rw [if_pos h3]; exact .inr (.inl ⟨rfl, by decide⟩)
  rw [if_neg h3]
  by_cases h4 : t = ⟨#[98, 111, 111, 108]⟩
  · rw [if_pos h4]; exact .inr (.inr (.inl ⟨rfl, by decide⟩))
  rw [if_neg h4]
  by_cases h5 : t = ⟨#[118, 97, 114, 105, 110, 116]⟩
  · rw [if_pos h5]; exact .inr (.inr (.inl ⟨rfl, by decide⟩))
  rw [if_neg h5]
  by_cases h6 : t = ⟨#[118, 101, 99, 116, 111, 114]⟩
  · rw [if_pos h6]; exact .inr (.inr (.inl ⟨rfl, by decide⟩))
  rw [if_neg h6]
  by_cases h7 : t = ⟨#[108, 105, 115, 116]⟩
  · rw [if_pos h7]; exact .inr (.inr (.inl ⟨rfl, by decide⟩))
  rw [if_neg h7]
  by_cases h8 : t = ⟨#[111, 112, 116, 105, 111, 110]⟩
  · rw [if_pos h8]; exact .inr (.inr (.inl ⟨rfl, by decide⟩))
  rw [if_neg h8]
  by_cases h9 : t = ⟨#[117, 110, 105, 111, 110]⟩
  · rw [if_pos h9]; exact .inr (.inr (.inl ⟨rfl, by decide⟩))
  rw [if_neg h9]
  by_cases h10 : t = ⟨#[115, 116, 114, 117, 99, 116]⟩
  · rw [if_pos h10]; exact .inr (.inr (.inl ⟨rfl, by decide⟩))
  rw [if_neg h10]
  by_cases hn : isName t = true
  · rw [if_pos hn]; exact .inr (.inr (.inr ⟨rfl, rfl, hn⟩))
  · rw [if_neg hn]; exact .inl rfl
section
variable (qs : List Q)
theorem part_inv {sub : Nd → Nat → PR (List Nd × Nat)} {x : Nd} {c i : Nat} {r : List Nd × Nat} (h : partP qs sub x (decide (c < 64)) i = .ok r) : c < 64 ∧ ∃ i1, sub x i1 = .ok r := by
  unfold partP at h
  by_cases hc : c < 64
  · rw [if_pos (by simpa using hc)] at h
    obtain ⟨i1, -, e⟩ := bnd_inv h
    exact ⟨hc, i1, e⟩
  · rw [if_neg (by simpa using hc)] at h
    cases h
theorem arm_c {f : Nat} (HQ : ∀ i, isNum (qAt qs i) = true → numB (qAt qs i).n = true) (ih : NodeC qs f) (c i : Nat) (M : List Nd) (j : Nat) (h : armP qs (nodeP qs f) c i = .ok (M, j)) : c < 64 ∧ Eats M 7 f 1 := by
  unfold armP at h
  obtain ⟨i1, e1, e⟩ := bnd_inv h
  obtain ⟨hn, -⟩ := tak_inv qs e1
  obtain ⟨hc, i2, e2⟩ := part_inv qs e
  exact ⟨hc, ih _ _ _ _ 7 e2 ⟨rfl, rfl, by show nameOk ⟨#[]⟩ false = true; decide, .inr ⟨rfl, HQ i hn⟩⟩⟩
theorem field_c {f : Nat} (ih : NodeC qs f) (c i : Nat) (M : List Nd) (j : Nat) (h : fieldP qs (nodeP qs f) c i = .ok (M, j)) : c < 64 ∧ Eats M 8 f 1 := by
  unfold fieldP at h
  obtain ⟨i1, e1, e⟩ := bnd_inv h
  obtain ⟨hn, -⟩ := tak_inv qs e1
  obtain ⟨hc, i2, e2⟩ := part_inv qs e
  exact ⟨hc, ih _ _ _ _ 8 e2 ⟨rfl, rfl, hn, .inl rfl⟩⟩
theorem ok_pair {α β : Type} {a c : α} {b d : β} (h : (Except.ok (a, b) : PR (α × β)) = .ok (c, d)) : a = c ∧ b = d := by
  injection h with h
  injection h with h1 h2
  exact ⟨h1, h2⟩
theorem node_c (HQ : ∀ i, isNum (qAt qs i) = true → numB (qAt qs i).n = true) : ∀ f, NodeC qs f := by
  intro f
  induction f with
  | zero =>
    intro x i M j o h hx
    unfold nodeP at h
    split at h <;> cases h
  | succ f ih =>
    rintro ⟨xk, xn, xnm, xl, xt, xkd, xa⟩ i M j o h ⟨hnm, hkd, hl, ht⟩
    simp only at hnm hkd hl ht
    subst hnm hkd
    unfold nodeP at h
    have hb := beg_cases (qAt qs i).t
    generalize hB : beg (qAt qs i).t = B at h hb
    obtain ⟨k, n⟩ := B
    simp only at h hb
    have hk0 : ¬ k = 0 := fun e => by rw [if_pos e] at h; cases h
    rw [if_neg hk0] at h
    unfold bodyP at h
    simp only at h
    rcases hb with hb | ⟨rfl, hn⟩ | ⟨rfl, hk⟩ | ⟨rfl, rfl, hnm⟩
    · exact absurd hb hk0
    · simp at h
      obtain ⟨rfl, -⟩ := h
      refine Eats.leaf rfl (fun dp hd => nde_ok (by omega) (by decide) ?_ (by decide) hl ht)
      rcases hn with rfl | rfl | rfl | rfl <;> decide
    · rcases hk with rfl | rfl | rfl | rfl | rfl | rfl | rfl
      · simp at h
        obtain ⟨rfl, -⟩ := h
        exact Eats.leaf rfl (fun dp hd => nde_ok (by omega) (by decide) (by decide) (by decide) hl ht)
      · simp at h
        obtain ⟨rfl, -⟩ := h
        exact Eats.leaf rfl (fun dp hd => nde_ok (by omega) (by decide) (by decide) (by decide) hl ht)
      · rw [if_neg (by decide), if_pos (by decide)] at h
        obtain ⟨⟨M', num, j'⟩, e1, e2⟩ := bnd_inv h
        obtain ⟨rfl, -⟩ := ok_pair e2
        unfold itemsP at e1
        obtain ⟨i1, -, e1⟩ := bnd_inv e1
        obtain ⟨⟨M2, j2⟩, g2, e1⟩ := bnd_inv e1
        obtain ⟨i3, -, e1⟩ := bnd_inv e1
        obtain ⟨i4, g4, e1⟩ := bnd_inv e1
        obtain ⟨i5, -, e1⟩ := bnd_inv e1
        obtain ⟨q1, q2⟩ := ok_pair e1
        obtain ⟨q3, -⟩ := Prod.mk.inj q2
        subst q1 q3
        have hq := HQ _ (tak_inv qs g4).1
        exact Eats.over (c := 1) rfl (by decide) (fun dp hd => nde_ok (by omega) (by decide) (by unfold kindOk; simp [hq]) (by decide) hl ht) (ih _ _ _ _ _ g2 ⟨rfl, rfl, by show nameOk ⟨#[]⟩ false = true; decide, .inl rfl⟩)
      · rw [if_neg (by decide), if_pos (by decide)] at h
        obtain ⟨⟨M', num, j'⟩, e1, e2⟩ := bnd_inv h
        obtain ⟨rfl, -⟩ := ok_pair e2
        unfold itemsP at e1
        obtain ⟨i1, -, e1⟩ := bnd_inv e1
        obtain ⟨⟨M2, j2⟩, g2, e1⟩ := bnd_inv e1
        obtain ⟨i3, -, e1⟩ := bnd_inv e1
        obtain ⟨i4, g4, e1⟩ := bnd_inv e1
        obtain ⟨i5, -, e1⟩ := bnd_inv e1
        obtain ⟨q1, q2⟩ := ok_pair e1
        obtain ⟨q3, -⟩ := Prod.mk.inj q2
        subst q1 q3
        have hq := HQ _ (tak_inv qs g4).1
        exact Eats.over (c := 1) rfl (by decide) (fun dp hd => nde_ok (by omega) (by decide) (by unfold kindOk; simp [hq]) (by decide) hl ht) (ih _ _ _ _ _ g2 ⟨rfl, rfl, by show nameOk ⟨#[]⟩ false = true; decide, .inl rfl⟩)
      · rw [if_neg (by decide), if_neg (by decide), if_pos (by decide)] at h
        obtain ⟨⟨M', j'⟩, e1, e2⟩ := bnd_inv h
        obtain ⟨rfl, -⟩ := ok_pair e2
        unfold optionP at e1
        obtain ⟨i1, -, e1⟩ := bnd_inv e1
        obtain ⟨⟨M2, j2⟩, g2, e1⟩ := bnd_inv e1
        obtain ⟨i3, -, e1⟩ := bnd_inv e1
        obtain ⟨rfl, -⟩ := ok_pair e1
        exact Eats.over (c := 1) rfl (by decide) (fun dp hd => nde_ok (by omega) (by decide) (by decide) (by decide) hl ht) (ih _ _ _ _ _ g2 ⟨rfl, rfl, by show nameOk ⟨#[]⟩ false = true; decide, .inl rfl⟩)
      · rw [if_neg (by decide), if_neg (by decide), if_neg (by decide), if_pos (by decide)] at h
        obtain ⟨⟨M', c, j'⟩, e1, e2⟩ := bnd_inv h
        obtain ⟨rfl, -⟩ := ok_pair e2
        obtain ⟨h1, h2, h3⟩ := parts_c qs (arm_c qs HQ ih) e1
        exact Eats.over (x := ⟨7, 0, ⟨#[]⟩, xl, xt, (c : Int), xa⟩) (c := c) rfl (by omega) (fun dp hd => nde_ok (by omega) (by omega) (by unfold kindOk; simp; omega) (by decide) hl ht) h3
      · rw [if_neg (by decide), if_neg (by decide), if_neg (by decide), if_neg (by decide), if_pos (by decide)] at h
        obtain ⟨⟨M', c, j'⟩, e1, e2⟩ := bnd_inv h
        obtain ⟨rfl, -⟩ := ok_pair e2
        obtain ⟨h1, h2, h3⟩ := parts_c qs (field_c qs ih) e1
        exact Eats.over (x := ⟨8, 0, ⟨#[]⟩, xl, xt, (c : Int), xa⟩) (c := c) rfl (by omega) (fun dp hd => nde_ok (by omega) (by omega) (by unfold kindOk; simp; omega) (by decide) hl ht) h3
    · rw [if_pos (by decide)] at h
      obtain ⟨rfl, -⟩ := ok_pair h
      exact Eats.leaf rfl (fun dp hd => nde_ok (by omega) (by decide) (by decide) hnm hl ht)
theorem def_c (HQ : ∀ i, isNum (qAt qs i) = true → numB (qAt qs i).n = true) {i j : Nat} {d : Df} (h : defP qs i = .ok (d, j)) : isName d.name = true ∧ ct d.ty 0 [(0, 1)] = (0, 0) := by
  unfold defP at h
  obtain ⟨i1, g1, h⟩ := bnd_inv h
  obtain ⟨i2, -, h⟩ := bnd_inv h
  obtain ⟨⟨M, j3⟩, g3, h⟩ := bnd_inv h
  obtain ⟨i4, -, h⟩ := bnd_inv h
  obtain ⟨rfl, -⟩ := ok_pair h
  refine ⟨(tak_inv qs g1).1, ?_⟩
  have h := node_c qs HQ 17 _ _ _ _ 0 g3 ⟨rfl, rfl, by show nameOk ⟨#[]⟩ false = true; decide, .inl rfl⟩ [] 1 [] 0 (by decide) (by decide)
  rw [List.append_nil] at h
  exact h
theorem src_c (HQ : ∀ i, isNum (qAt qs i) = true → numB (qAt qs i).n = true) : ∀ (f : Nat) (D : List Df) (i : Nat) (D' : List Df), srcP qs f D i = .ok D' → (∀ d ∈ D, isName d.name = true ∧ ct d.ty 0 [(0, 1)] = (0, 0)) → f + D.length = 257 → D.length ≤ 256 → D'.length ≤ 256 ∧ ∀ d ∈ D', isName d.name = true ∧ ct d.ty 0 [(0, 1)] = (0, 0)
  | 0, D, i, D', h, _, _, _ => by cases h
  | f + 1, D, i, D', h, hD, hf, hl => by
    unfold srcP at h
    by_cases hi : i < qs.length
    · rw [if_pos hi] at h
      obtain ⟨i1, -, h⟩ := bnd_inv h
      by_cases h0 : f = 0
      · rw [if_pos h0] at h; cases h
      rw [if_neg h0] at h
      obtain ⟨⟨d, j⟩, g, h⟩ := bnd_inv h
      refine src_c HQ f _ _ _ h (fun e he => ?_) (by simp; omega) (by simp; omega)
      rcases List.mem_append.1 he with he | he
      · exact hD e he
      · simp at he
        subst he
        exact def_c qs HQ g
    · rw [if_neg hi] at h
      injection h with h
      subst h
      exact ⟨hl, hD⟩
end
theorem ckL_ok : ∀ (D : List Df) (i : Nat), (∀ d ∈ D, isName d.name = true ∧ ct d.ty 0 [(0, 1)] = (0, 0)) → ckL D i = (0, 0, 0)
  | [], i, h => rfl
  | d :: D, i, h => by
    obtain ⟨h1, h2⟩ := h d (.head _)
    rw [ckL, if_neg (by rw [h1]; decide), h2, if_pos rfl]
    exact ckL_ok D (i + 1) (fun e he => h e (.tail _ he))
end Go.Proofs.Ytokepgimjdalaaa

/- What is parsed, Check takes; plain: sources. -/
namespace Go.Proofs.Ytokepgimjdalaaa
open Go.RowKit
set_option linter.unusedVariables false

theorem tkW_num {w : List UInt8} (h : Tw w) (p : Nat) (hk : (tkW w p).k = 2) : numB (tkW w p).n = true := by
  obtain ⟨c, r, rfl, hc, hr, he⟩ := h
  unfold tkW at hk ⊢
  simp only at hk ⊢
  cases hl : letter c with
  | true => rw [hl] at hk; simp at hk
  | false =>
    cases hd : digit c with
    | false => rw [hl, hd] at hk; simp at hk
    | true =>
      unfold erW at he
      simp only at he
      rw [hl, hd] at he
      have h1 : numOk (c :: r) = true := by
        cases h : numOk (c :: r) with
        | true => rfl
        | false => rw [h] at he; simp at he
      have h2 := (of_decide_eq_true h1).2
      simp only [Bool.false_eq_true, if_false, if_true]
      exact decide_eq_true ⟨by omega, by omega⟩
theorem cut_nums (l : List UInt8) (p : Nat) : ∀ t ∈ (cut l p).1, t.k = 2 → numB t.n = true := by
  refine cut_ind (fun l p => ∀ t ∈ (cut l p).1, t.k = 2 → numB t.n = true) ?_ ?_ ?_ ?_ ?_ ?_ l p
  · intro p; simp [cut_nil]
  · intro c r p hb ih; rw [cut_blank r p hb]; exact ih
  · intro c r p hs h2; rw [cut_end p hs h2]; simp
  · intro c r d s p hs h2 h3 ih; rw [cut_rem p hs h2 h3]; exact ih
  · intro c r p hb hs he; rw [cut_bad r p hb hs he]; simp
  · intro w s p hw ho ih
    rw [cut_word hw ho p]
    unfold app
    split
    · intro t ht
      simp only [List.mem_cons] at ht
      rcases ht with rfl | ht
      · exact tkW_num hw p
      · exact ih t ht
    · exact ih
theorem cutT_nums (s : ByteArray) : ∀ t ∈ (cutT s).1, t.k = 2 → numB t.n = true := by
  unfold cutT
  split
  · intro t ht; cases ht
  · exact cut_nums _ _
theorem cutT_hq (s : ByteArray) (i : Nat) (h : isNum (qAt ((cutT s).1.map core) i) = true) : numB (qAt ((cutT s).1.map core) i).n = true := by
  unfold qAt at h ⊢
  by_cases hi : i < ((cutT s).1.map core).length
  · have e : ((cutT s).1.map core).getD i q0 = core ((cutT s).1[i]'(by simpa using hi)) := by simp [List.getD, List.getElem?_map, List.getElem?_eq_getElem (show i < (cutT s).1.length by simpa using hi)]
    rw [e] at h ⊢
    exact cutT_nums s _ (List.getElem_mem _) (of_decide_eq_true h)
  · have e : ((cutT s).1.map core).getD i q0 = q0 := by simp [List.getD, List.getElem?_eq_none (show ((cutT s).1.map core).length ≤ i by omega)]
    rw [e] at h
    cases h
theorem ct_places (ts : List Tk) (L : Nat) : ∀ (N : List Nd) (i : Nat) (S : List (Int × Int)), ct (N.map (ndP ts L)) i S = ct N i S
  | [], i, S => rfl
  | x :: N, i, S => by
    have e1 : ctE S (ndP ts L x) = ctE S x := rfl
    have e2 : ctS S (ndP ts L x) = ctS S x := rfl
    rw [List.map_cons, ct, ct, e1, e2, ct_places ts L N]
theorem prs_check {s : ByteArray} (h : (prsT s).2.1 = 0) : ckP (prsT s).1 = (0, 0, 0) := by
  unfold prsT at h ⊢
  by_cases h0 : (cutT s).2.1 = 0
  · rw [if_pos h0] at h ⊢
    unfold prsP at h ⊢
    cases hs : srcP ((cutT s).1.map core) 257 [] 0 with
    | error e => rw [hs] at h; unfold ckP; simp [ckL]
    | ok D =>
      simp only
      obtain ⟨h1, h2⟩ := src_c _ (cutT_hq s) 257 [] 0 D hs (fun d hd => by cases hd) (by decide) (by decide)
      unfold ckP
      rw [if_neg (by rw [List.length_map]; omega)]
      refine ckL_ok _ _ (fun d hd => ?_)
      obtain ⟨e, he, rfl⟩ := List.mem_map.1 hd
      obtain ⟨g1, g2⟩ := h2 e he
      exact ⟨g1, by show ct (e.ty.map _) 0 _ = _; rw [ct_places]; exact g2⟩
  · rw [if_neg h0] at h
    exact absurd h h0
end Go.Proofs.Ytokepgimjdalaaa

/- The places of what is parsed rise; plain, in numbers of tokens. -/
namespace Go.Proofs.Ytokepgimjdalaaa
open Go.RowKit
set_option linter.unusedVariables false

section
variable (qs : List Q)
def NTok (x : Nd) (a : Nat) : Prop := a < qs.length ∧ (x.label.size ≠ 0 → (qAt qs a).t = x.label) ∧ (x.label.size = 0 → x.k = 9 → (qAt qs a).k = 1 → (qAt qs a).t = x.name)
def RiseN : Nat → List Nd → Nat → Prop
  | lo, [], hi => lo ≤ hi
  | lo, x :: M, hi => ∃ a : Nat, x.a = (a : Int) ∧ lo ≤ a ∧ NTok qs x a ∧ RiseN (a + 1) M hi
def RiseD : Nat → List Df → Nat → Prop
  | lo, [], hi => lo ≤ hi
  | lo, d :: D, hi => ∃ a m : Nat, d.a = (a : Int) ∧ lo ≤ a ∧ a < qs.length ∧ (qAt qs a).t = d.name ∧ isName d.name = true ∧ RiseN qs (a + 1) d.ty m ∧ RiseD m D hi
theorem RiseN.le : ∀ {M : List Nd} {lo hi : Nat}, RiseN qs lo M hi → lo ≤ hi
  | [], lo, hi, h => h
  | x :: M, lo, hi, h => by
    obtain ⟨a, h1, h2, h3, h4⟩ := h
    have := RiseN.le h4
    omega
theorem RiseN.low : ∀ {M : List Nd} {lo lo' hi : Nat}, RiseN qs lo M hi → lo' ≤ lo → RiseN qs lo' M hi
  | [], lo, lo', hi, h, k => Nat.le_trans k h
  | x :: M, lo, lo', hi, h, k => by
    obtain ⟨a, h1, h2, h3, h4⟩ := h
    exact ⟨a, h1, by omega, h3, h4⟩
theorem RiseN.app : ∀ {M N : List Nd} {lo m hi : Nat}, RiseN qs lo M m → RiseN qs m N hi → RiseN qs lo (M ++ N) hi
  | [], N, lo, m, hi, h, k => k.low qs h
  | x :: M, N, lo, m, hi, h, k => by
    obtain ⟨a, h1, h2, h3, h4⟩ := h
    exact ⟨a, h1, h2, h3, RiseN.app h4 k⟩
theorem RiseN.high {M : List Nd} {lo hi hi' : Nat} (h : RiseN qs lo M hi) (k : hi ≤ hi') : RiseN qs lo M hi' := by
  have := RiseN.app qs (N := []) h k
  rwa [List.append_nil] at this
theorem RiseD.app : ∀ {D E : List Df} {lo m hi : Nat}, RiseD qs lo D m → (∀ lo', lo' ≤ m → RiseD qs lo' E hi) → RiseD qs lo (D ++ E) hi
  | [], E, lo, m, hi, h, k => k lo h
  | d :: D, E, lo, m, hi, h, k => by
    obtain ⟨a, m', h1, h2, h3, h4, h5, h6, h7⟩ := h
    exact ⟨a, m', h1, h2, h3, h4, h5, h6, RiseD.app h7 k⟩
theorem beg_lt {i : Nat} (h : ¬ (beg (qAt qs i).t).1 = 0) : i < qs.length := by
  rcases Nat.lt_or_ge i qs.length with k | k
  · exact k
  · refine absurd ?_ h
    have e : qAt qs i = q0 := by unfold qAt; simp [List.getD, List.getElem?_eq_none k]
    rw [e]
    decide
def NodeR (f : Nat) : Prop := ∀ x i M j (a : Nat), nodeP qs f x i = .ok (M, j) → x.a = (a : Int) → a ≤ i → (x.label.size ≠ 0 → (qAt qs a).t = x.label) → (x.label.size = 0 → a = i ∨ (qAt qs a).k ≠ 1) → RiseN qs a M j
theorem part_inv2 {sub : Nd → Nat → PR (List Nd × Nat)} {x : Nd} {b : Bool} {i : Nat} {r : List Nd × Nat} (h : partP qs sub x b i = .ok r) : sub x (i + 1) = .ok r := by
  unfold partP at h
  split at h
  · obtain ⟨i1, e1, e⟩ := bnd_inv h
    rw [(tak_inv qs e1).2] at e
    exact e
  · cases h
theorem name_pos {s : ByteArray} (h : isName s = true) : 0 < s.size := (of_decide_eq_true h).1
theorem arm_r {f : Nat} (ih : NodeR qs f) (c i : Nat) (M : List Nd) (j : Nat) (h : armP qs (nodeP qs f) c i = .ok (M, j)) : RiseN qs i M j := by
  unfold armP at h
  obtain ⟨i1, e1, e⟩ := bnd_inv h
  obtain ⟨hn, rfl⟩ := tak_inv qs e1
  have e2 := part_inv2 qs e
  exact ih _ _ _ _ i e2 rfl (by omega) (fun hh => absurd rfl hh) (fun _ => .inr (by have := of_decide_eq_true hn; omega))
theorem field_r {f : Nat} (ih : NodeR qs f) (c i : Nat) (M : List Nd) (j : Nat) (h : fieldP qs (nodeP qs f) c i = .ok (M, j)) : RiseN qs i M j := by
  unfold fieldP at h
  obtain ⟨i1, e1, e⟩ := bnd_inv h
  obtain ⟨hn, rfl⟩ := tak_inv qs e1
  have e2 := part_inv2 qs e
  have hp := name_pos hn
  exact ih _ _ _ _ i e2 rfl (by omega) (fun hh => rfl) (fun hh => absurd hh (by show (qAt qs i).t.size ≠ 0; omega))
theorem more_r {one : Nat → Nat → PR (List Nd × Nat)} (h : ∀ c i M j, one c i = .ok (M, j) → RiseN qs i M j) (lo : Nat) :
    ∀ (fu c : Nat) (N : List Nd) (i : Nat) (N' : List Nd) (c' j : Nat), moreP qs one fu c N i = .ok (N', c', j) → RiseN qs lo N i → RiseN qs lo N' j
  | 0, c, N, i, N', c', j, e, hN => by cases e
  | fu + 1, c, N, i, N', c', j, e, hN => by
    unfold moreP at e
    by_cases ht : isT ⟨#[44]⟩ (qAt qs i) = true
    · rw [if_pos ht] at e
      obtain ⟨⟨M, k⟩, e1, e2⟩ := bnd_inv e
      exact more_r h lo fu (c + 1) (N ++ M) k N' c' j e2 (hN.app qs ((h _ _ _ _ e1).low qs (Nat.le_succ i)))
    · rw [if_neg ht] at e
      obtain ⟨k, e1, e2⟩ := bnd_inv e
      obtain ⟨q1, q2⟩ := ok_pair e2
      obtain ⟨q3, q4⟩ := Prod.mk.inj q2
      subst q1 q4
      exact hN.high qs (by rw [(tak_inv qs e1).2]; exact Nat.le_succ _)
theorem parts_r {one : Nat → Nat → PR (List Nd × Nat)} (h : ∀ c i M j, one c i = .ok (M, j) → RiseN qs i M j) {i : Nat} {N : List Nd} {c j : Nat} (e : partsP qs one i = .ok (N, c, j)) : RiseN qs i N j := by
  unfold partsP at e
  obtain ⟨i1, e1, e⟩ := bnd_inv e
  obtain ⟨⟨M, k⟩, e2, e⟩ := bnd_inv e
  have h1 := (tak_inv qs e1).2
  exact more_r qs h _ _ _ _ _ _ _ _ e ((h _ _ _ _ e2).low qs (by omega))
theorem node_r : ∀ f, NodeR qs f := by
  intro f
  induction f with
  | zero =>
    intro x i M j a h
    unfold nodeP at h
    split at h <;> cases h
  | succ f ih =>
    rintro ⟨xk, xn, xnm, xl, xt, xkd, xa⟩ i M j a h ha hai hl hs
    simp only at ha hl hs
    unfold nodeP at h
    have hk0 : ¬ (beg (qAt qs i).t).1 = 0 := fun e => by rw [if_pos e] at h; cases h
    have hi := beg_lt qs hk0
    rw [if_neg hk0] at h
    generalize beg (qAt qs i).t = B at h hk0
    obtain ⟨k, n⟩ := B
    unfold bodyP at h
    simp only at h
    have hsub : ∀ i1 M2 j2, nodeP qs f { nd0 with a := (i1 : Nat) } i1 = .ok (M2, j2) → RiseN qs i1 M2 j2 := fun i1 M2 j2 e => ih _ _ _ _ i1 e rfl (Nat.le_refl _) (fun hh => absurd rfl hh) (fun _ => .inl rfl)
    by_cases h9 : k = 9
    · rw [if_pos h9] at h
      obtain ⟨q1, q2⟩ := ok_pair h
      subst q1 q2
      refine ⟨a, ha, Nat.le_refl _, ⟨by omega, hl, fun hz _ hq => ?_⟩, by show a + 1 ≤ i + 1; omega⟩
      rcases hs hz with e | e
      · rw [e]
      · exact absurd hq e
    rw [if_neg h9] at h
    have hnt : ∀ n' kd', NTok qs ⟨k, n', xnm, xl, xt, kd', xa⟩ a := fun n' kd' => ⟨by omega, hl, fun _ e => absurd e h9⟩
    split at h
    · obtain ⟨⟨M', num, j'⟩, e1, e2⟩ := bnd_inv h
      obtain ⟨q1, q2⟩ := ok_pair e2
      subst q1 q2
      unfold itemsP at e1
      obtain ⟨i1, g1, e1⟩ := bnd_inv e1
      obtain ⟨⟨M2, j2⟩, g2, e1⟩ := bnd_inv e1
      obtain ⟨i3, g3, e1⟩ := bnd_inv e1
      obtain ⟨i4, g4, e1⟩ := bnd_inv e1
      obtain ⟨i5, g5, e1⟩ := bnd_inv e1
      obtain ⟨q1, q2⟩ := ok_pair e1
      obtain ⟨q3, q4⟩ := Prod.mk.inj q2
      have h1 := (tak_inv qs g1).2
      have h3 := (tak_inv qs g3).2
      have h4 := (tak_inv qs g4).2
      have h5 := (tak_inv qs g5).2
      simp only at q1 h3 q4
      refine ⟨a, ha, Nat.le_refl _, hnt _ _, ?_⟩
      show RiseN qs (a + 1) M' j'
      rw [← q1, ← q4]
      exact ((hsub _ _ _ g2).low qs (by omega)).high qs (by omega)
    · split at h
      · obtain ⟨⟨M', j'⟩, e1, e2⟩ := bnd_inv h
        obtain ⟨q1, q2⟩ := ok_pair e2
        subst q1 q2
        unfold optionP at e1
        obtain ⟨i1, g1, e1⟩ := bnd_inv e1
        obtain ⟨⟨M2, j2⟩, g2, e1⟩ := bnd_inv e1
        obtain ⟨i3, g3, e1⟩ := bnd_inv e1
        obtain ⟨q1, q2⟩ := ok_pair e1
        have h1 := (tak_inv qs g1).2
        have h3 := (tak_inv qs g3).2
        simp only at q1 h3 q2
        refine ⟨a, ha, Nat.le_refl _, hnt _ _, ?_⟩
        show RiseN qs (a + 1) M' j'
        rw [← q1, ← q2]
        exact ((hsub _ _ _ g2).low qs (by omega)).high qs (by omega)
      · split at h
        · obtain ⟨⟨M', c, j'⟩, e1, e2⟩ := bnd_inv h
          obtain ⟨q1, q2⟩ := ok_pair e2
          subst q1 q2
          exact ⟨a, ha, Nat.le_refl _, hnt _ _, (parts_r qs (arm_r qs ih) e1).low qs (by omega)⟩
        · split at h
          · obtain ⟨⟨M', c, j'⟩, e1, e2⟩ := bnd_inv h
            obtain ⟨q1, q2⟩ := ok_pair e2
            subst q1 q2
            exact ⟨a, ha, Nat.le_refl _, hnt _ _, (parts_r qs (field_r qs ih) e1).low qs (by omega)⟩
          · obtain ⟨q1, q2⟩ := ok_pair h
            subst q1 q2
            exact ⟨a, ha, Nat.le_refl _, hnt _ _, by show a + 1 ≤ i + 1; omega⟩
theorem src_r : ∀ (f : Nat) (D : List Df) (i : Nat) (D' : List Df), srcP qs f D i = .ok D' → RiseD qs 0 D i → ∃ hi, RiseD qs 0 D' hi
  | 0, D, i, D', h, _ => by cases h
  | f + 1, D, i, D', h, hD => by
    unfold srcP at h
    by_cases hi : i < qs.length
    · rw [if_pos hi] at h
      obtain ⟨i1, g0, h⟩ := bnd_inv h
      by_cases h0 : f = 0
      · rw [if_pos h0] at h; cases h
      rw [if_neg h0] at h
      obtain ⟨⟨d, j⟩, g, h⟩ := bnd_inv h
      refine src_r f _ _ _ h (hD.app qs (fun lo' hlo => ?_))
      unfold defP at g
      obtain ⟨j1, g1, g⟩ := bnd_inv g
      obtain ⟨j2, g2, g⟩ := bnd_inv g
      obtain ⟨⟨M, j3⟩, g3, g⟩ := bnd_inv g
      obtain ⟨j4, g4, g⟩ := bnd_inv g
      obtain ⟨q1, q2⟩ := ok_pair g
      subst q1 q2
      obtain ⟨n1, h1⟩ := tak_inv qs g1
      have h2 := (tak_inv qs g2).2
      have h4 := (tak_inv qs g4).2
      have h00 := (tak_inv qs g0).2
      have hnl : i1 < qs.length := tak_lt (m := isNm) (by decide) g1
      refine ⟨i1, j3, rfl, by omega, hnl, rfl, n1, ?_, by show j3 ≤ j4; simp only at h4; omega⟩
      exact (node_r qs 17 _ _ _ _ j2 g3 rfl (Nat.le_refl _) (fun hh => absurd rfl hh) (fun _ => .inl rfl)).low qs (by omega)
    · rw [if_neg hi] at h
      injection h with h
      subst h
      exact ⟨i, hD⟩
end
end Go.Proofs.Ytokepgimjdalaaa

/- The places of what is parsed, plain: what stands there. -/
namespace Go.Proofs.Ytokepgimjdalaaa
open Go.RowKit
set_option linter.unusedVariables false

theorem tkW_text {w : List UInt8} (h : Tw w) (p : Nat) : (tkW w p).t.size = 0 ∨ (tkW w p).t = ⟨w.toArray⟩ := by
  obtain ⟨c, r, rfl, hc, hr, he⟩ := h
  unfold tkW
  simp only
  cases letter c with
  | true => exact .inr rfl
  | false =>
    cases digit c with
    | true => exact .inl rfl
    | false => exact .inr rfl
theorem pl_text : ∀ (ts : List Tk) (l : List UInt8) (p : Nat), PlOk ts l p → ∀ (j : Nat) (t : Tk), ts[j]? = some t → p ≤ t.a ∧ t.a < p + l.length ∧ t.a + t.t.size ≤ p + l.length ∧ (l.drop (t.a - p)).take t.t.size = t.t.data.toList
  | [], l, p, h, j, t, e => by simp at e
  | u :: ts, l, p, h, j, t, e => by
    obtain ⟨G, w, s, rfl, hG, hw, rfl, h5⟩ := h
    have hpos := hw.pos
    cases j with
    | zero =>
      simp at e
      subst e
      have ha := (tkW_is hw (p + G.length)).2.2.2.1
      rw [ha]
      have e1 : p + G.length - p = G.length := by omega
      rw [e1, List.drop_left']
      · rcases tkW_text hw (p + G.length) with h0 | h0
        · rw [h0]
          refine ⟨by omega, by simp; omega, by simp, ?_⟩
          have : (tkW w (p + G.length)).t.data.toList.length = 0 := by rw [← Lib.size_eq]; exact h0
          rw [List.length_eq_zero_iff.1 this]
          rfl
        · rw [h0]
          have e2 : (⟨w.toArray⟩ : ByteArray).size = w.length := by rw [Lib.size_eq]
          rw [e2]
          refine ⟨by omega, by simp; omega, by simp; omega, ?_⟩
          simp
      · rfl
    | succ j =>
      have ih := pl_text ts s _ h5 j t (by simpa using e)
      obtain ⟨i1, i2, i3, i4⟩ := ih
      refine ⟨by omega, by simp; omega, by simp; omega, ?_⟩
      rw [← i4]
      congr 1
      have e1 : t.a - p = G.length + (w.length + (t.a - (p + G.length + w.length))) := by omega
      rw [e1, ← List.drop_drop, List.drop_left' rfl, ← List.drop_drop, List.drop_left' rfl]
theorem cutT_text {s : ByteArray} (h : (cutT s).2.1 = 0) (j : Nat) (t : Tk) (e : (cutT s).1[j]? = some t) : t.a < s.size ∧ t.a + t.t.size ≤ s.size ∧ s.extract t.a (t.a + t.t.size) = t.t := by
  have hp : PlOk (cutT s).1 s.data.toList 0 := by
    unfold cutT at h ⊢
    split at h
    · rw [if_pos (by assumption)]; trivial
    · rw [if_neg (by assumption)]; exact places _ _ h
  obtain ⟨h1, h2, h3, h4⟩ := pl_text _ _ _ hp j t e
  rw [Nat.zero_add, ← Lib.size_eq] at h2 h3
  refine ⟨h2, h3, ?_⟩
  apply ByteArray.ext
  apply Array.toList_inj.1
  rw [Lib.extract_data, ← h4]
  congr 1
  omega
/-- A source in places: what each definition and node says of the text. -/
def pl (ts : List Tk) (a : Nat) : Nat := (ts.getD a tk0).a
theorem plc_pl {ts : List Tk} {L a : Nat} (h : a < ts.length) : plc ts L a = pl ts a := by unfold plc tkAt pl; rw [if_pos h]
theorem pl_rise {s : ByteArray} {a b : Nat} (h : a < b) (hb : b < (cutT s).1.length) : pl (cutT s).1 a < pl (cutT s).1 b := by
  have hr := List.pairwise_iff_getElem.1 (cutT_rise s) a b (by omega) hb h
  unfold pl
  simp only [List.getD, List.getElem?_eq_getElem hb, List.getElem?_eq_getElem (show a < (cutT s).1.length by omega)]
  exact hr
theorem pl_text2 {s : ByteArray} (h : (cutT s).2.1 = 0) {a : Nat} (ha : a < (cutT s).1.length) : pl (cutT s).1 a < s.size ∧ pl (cutT s).1 a + ((cutT s).1.getD a tk0).t.size ≤ s.size ∧ s.extract (pl (cutT s).1 a) (pl (cutT s).1 a + ((cutT s).1.getD a tk0).t.size) = ((cutT s).1.getD a tk0).t :=
  cutT_text h a _ (by simp [List.getD, List.getElem?_eq_getElem ha])
theorem qAt_core {ts : List Tk} {a : Nat} (h : a < ts.length) : qAt (ts.map core) a = core (ts.getD a tk0) := by
  unfold qAt
  simp [List.getD, List.getElem?_map, List.getElem?_eq_getElem h]
/-- An error of the parser is 5, 60 or 61. -/
def PE (r : PR St) : Prop := ∀ e, r = .error e → e.1 ≠ 0
theorem PE.ite {c : Prop} [Decidable c] {a b : PR St} (ha : PE a) (hb : PE b) : PE (if c then a else b) := by
  split
  · exact ha
  · exact hb
theorem PE.ok (t : St) : PE (.ok t) := fun e h => by cases h
theorem PE.err {n i : Nat} (h : n ≠ 0) : PE (.error (n, i)) := fun e k => by injection k with k; rw [← k]; exact h
theorem step_err {qs : List Q} {t : St} {e : Nat × Nat} (h : stepM qs t = .error e) : e.1 ≠ 0 := by
  have hp : PE (stepM qs t) := by
    unfold stepM
    split
    · exact PE.ok _
    · repeat' (first | exact PE.ok _ | exact PE.err (by decide) | apply PE.ite)
  exact hp e h
theorem src_err0 {qs : List Q} {e : Nat × Nat} (h : srcP qs 257 [] 0 = .error e) : e.1 ≠ 0 := by
  obtain ⟨n, hn⟩ := src_err h
  obtain ⟨m, u, _, hu⟩ := run_err n _ e hn
  exact step_err hu
/-- Parse's source by its token numbers. -/
theorem prs_rise {s : ByteArray} (h : (prsT s).2.1 = 0) : (cutT s).2.1 = 0 ∧ (prsT s).2.2 = 0 ∧ ∃ D hi, (prsT s).1 = D.map (dfP (cutT s).1 s.size) ∧ RiseD ((cutT s).1.map core) 0 D hi := by
  unfold prsT at h ⊢
  by_cases h0 : (cutT s).2.1 = 0
  · rw [if_pos h0] at h ⊢
    unfold prsP at h ⊢
    cases hs : srcP ((cutT s).1.map core) 257 [] 0 with
    | error e =>
      rw [hs] at h
      have he : e.1 ≠ 0 := src_err0 hs
      exact absurd h he
    | ok D =>
      obtain ⟨hi, hr⟩ := src_r _ 257 [] 0 D hs (Nat.le_refl 0)
      exact ⟨h0, rfl, D, hi, rfl, hr⟩
  · rw [if_neg h0] at h
    exact absurd h h0
end Go.Proofs.Ytokepgimjdalaaa
