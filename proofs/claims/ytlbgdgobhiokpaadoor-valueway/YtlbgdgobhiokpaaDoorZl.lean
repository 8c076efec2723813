/- The way: plain. -/
import Derived.Test.YtlbgdgobhiokpaaDoorZk
namespace Go.Proofs.YtlbgdgobhiokpaaDoor
open Go.RowKit
set_option linter.unusedVariables false

/-- The node that the kids of a way lead to, from the root on. -/
def lead (M : List Nd) : Stk → Nat
  | [] => 0
  | (j, _) :: T => lead M T + 1 + bh j.toNat (M.drop (lead M T + 1))
/-- Each one's kids: those ahead, the one that it is in, those behind. -/
def Ways (M : List Nd) : Stk → Prop
  | [] => True
  | (j, f) :: T => 0 ≤ j ∧ 0 ≤ f ∧ (M.getD (lead M T) nil0).2.2 = j + f + 1 ∧ Ways M T
/-- Where the value at a place ends. -/
def endOf (M : List Nd) (p : Nat) : Nat := p + bh 1 (M.drop p)
theorem endOf_node (M : List Nd) (p : Nat) (hp : p < M.length) (c : Nat) (hc : (M.getD p nil0).2.2 = c) : endOf M p = p + 1 + bh c (M.drop (p + 1)) := by
  unfold endOf
  rw [drop_at M p hp, bh, hc]
  simp
  omega
theorem endOf_kid (M : List Nd) (p j : Nat) : p + 1 + bh (j + 1) (M.drop (p + 1)) = endOf M (p + 1 + bh j (M.drop (p + 1))) := by
  unfold endOf
  rw [bh_add, List.drop_drop]
  omega
theorem lead_lt (M : List Nd) (j f : Int) (T : Stk) : lead M T < lead M ((j, f) :: T) := by simp only [lead]; omega
theorem lead_le (M : List Nd) : ∀ (Z T : Stk), lead M T ≤ lead M (Z ++ T)
  | [], T => Nat.le_refl _
  | (j, f) :: Z, T => Nat.le_trans (lead_le M Z T) (Nat.le_of_lt (lead_lt M j f (Z ++ T)))
theorem Ways.tail {M : List Nd} : ∀ {Z T : Stk}, Ways M (Z ++ T) → Ways M T
  | [], _, h => h
  | (j, f) :: Z, T, h => Ways.tail (Z := Z) h.2.2.2
/-- What ends with the innermost one. -/
theorem ways_end (M : List Nd) (e : Nat) : ∀ (Z T : Stk) (j f : Int), Ways M (Z ++ (j, f) :: T) → (∀ x ∈ Z, x.2 = 0) → lead M (Z ++ (j, f) :: T) < M.length → endOf M (lead M (Z ++ (j, f) :: T)) = e → endOf M (lead M ((j, f) :: T)) = e
  | [], T, j, f, _, _, _, h => h
  | (k, g) :: Z, T, j, f, hw, hz, hl, h => by
    have hg : g = 0 := hz (k, g) (by simp)
    subst hg
    obtain ⟨h0, h1, h2, h3⟩ : 0 ≤ k ∧ (0 : Int) ≤ 0 ∧ (M.getD (lead M (Z ++ (j, f) :: T)) nil0).2.2 = k + 0 + 1 ∧ Ways M (Z ++ (j, f) :: T) := hw
    have hlt := lead_lt M k 0 (Z ++ (j, f) :: T)
    refine ways_end M e Z T j f h3 (fun x hx => hz x (by simp [hx])) (Nat.lt_trans hlt hl) ?_
    have hP : lead M (Z ++ (j, f) :: T) < M.length := Nat.lt_trans hlt hl
    obtain ⟨kn, rfl⟩ := Int.eq_ofNat_of_zero_le h0
    rw [endOf_node M _ hP (kn + 1) (by rw [h2]; push_cast; omega), endOf_kid]
    simpa [lead] using h
theorem way_inv (M : List Nd) (hM : (chk 1 0 M).1 = 0) : ∀ (q : Nat), q < M.length → WOK M q (way (M.take q) []) ∧ Ways M (way (M.take q) []) ∧ lead M (way (M.take q) []) = q
  | 0, _ => ⟨WOK.begin hM, trivial, rfl⟩
  | q + 1, hq => by
    obtain ⟨h1, h2, h3⟩ := way_inv M hM q (by omega)
    obtain ⟨s1, s2, s3, s4⟩ := h1.step hq
    have hs : way (M.take (q + 1)) [] = wstep (way (M.take q) []) (M.getD q nil0) := by rw [take_snoc M q (by omega), way_snoc]
    rw [hs]
    refine ⟨s1, ?_⟩
    generalize hS : way (M.take q) [] = S at *
    by_cases hc : 0 < (M.getD q nil0).2.2
    · rw [wstep, if_pos hc]
      refine ⟨⟨by omega, by omega, by rw [h3]; omega, h2⟩, ?_⟩
      simp only [lead, h3]
      rw [show (0 : Int).toNat = 0 from rfl, bh_zero]
    · have hc0 : (M.getD q nil0).2.2 = 0 := by omega
      obtain ⟨Z, j, f, T, rfl, hz, hf, hw⟩ := s4 hc0
      rw [hw]
      have hend : endOf M (lead M (Z ++ (j, f) :: T)) = q + 1 := by
        rw [h3, endOf_node M q (by omega) 0 hc0, bh_zero]
      have he := ways_end M (q + 1) Z T j f h2 hz (by rw [h3]; omega) hend
      obtain ⟨h0, h1', h2', h3'⟩ := h2.tail
      obtain ⟨jn, rfl⟩ := Int.eq_ofNat_of_zero_le h0
      refine ⟨⟨by omega, by omega, by rw [h2']; omega, h3'⟩, ?_⟩
      have e1 : lead M (((jn : Int) + 1, f - 1) :: T) = lead M T + 1 + bh (jn + 1) (M.drop (lead M T + 1)) := by
        simp only [lead]
        rw [show ((jn : Int) + 1).toNat = jn + 1 by omega]
      rw [e1, endOf_kid]
      simpa [lead] using he
theorem place_zero {M : List Nd} (hM : (chk 1 0 M).1 = 0) {p : Nat} (hp : p < M.length) : place M (p : Int) = 0 := by
  rw [place, if_pos hM, if_neg (by omega)]
theorem next_is {M : List Nd} (hM : (chk 1 0 M).1 = 0) {p : Nat} (hp : p < M.length) : nextR M (p : Int) = ((endOf M p : Int), 0) := by
  rw [nextR, if_pos (place_zero hM hp), Int.toNat_natCast, endOf]
  simp
theorem kid_is {M : List Nd} (hM : (chk 1 0 M).1 = 0) {p k : Nat} (hp : p < M.length) (hk : (k : Int) < (M.getD p nil0).2.2) : kidR M (p : Int) (k : Int) = (((p + 1 + bh k (M.drop (p + 1)) : Nat) : Int), 0) := by
  rw [kidR, if_pos (place_zero hM hp), Int.toNat_natCast, if_neg (by omega), Int.toNat_natCast]
  simp
theorem kid_none {M : List Nd} (hM : (chk 1 0 M).1 = 0) {p : Nat} (hp : p < M.length) : kidR M (p : Int) (M.getD p nil0).2.2 = (0, 3) := by
  rw [kidR, if_pos (place_zero hM hp), Int.toNat_natCast, if_pos (.inr (Int.le_refl _))]
/-- A node's kids begin within the list. -/
theorem kid_lt {M : List Nd} (hM : (chk 1 0 M).1 = 0) {p k : Nat} (hp : p < M.length) (hk : (k : Int) < (M.getD p nil0).2.2) : p + 1 + bh k (M.drop (p + 1)) < M.length := by
  have h1 := chk_at M 1 0 p hM hp
  rw [drop_at M p hp] at h1
  obtain ⟨h0, -, h2⟩ := h1
  have h3 : Enough (k + 1) (M.drop (p + 1)) := h2.mono (by omega)
  have h4 := h3.drop
  rw [List.drop_drop] at h4
  rcases Nat.lt_or_ge (p + 1 + bh k (M.drop (p + 1))) M.length with h | h
  · exact h
  · rw [List.drop_eq_nil_of_le h] at h4
    exact h4.elim
theorem chk_take : ∀ (l : List Nd) (m : Nat) (a : Int) (k : Nat), (chk m a l).1 = 0 → k < l.length → chk m a (l.take k) = (40, a + k)
  | [], _, _, k, _, hk => by simp at hk
  | x :: l, m, a, 0, h, _ => by
    unfold chk at h
    split at h
    · simp at h
    · rename_i hn
      rw [not_or] at hn
      rw [List.take_zero, chk, if_pos (by omega)]
      simp
  | x :: l, m, a, k + 1, h, hk => by
    rw [List.take_succ_cons]
    unfold chk at h ⊢
    split at h
    · simp at h
    · rename_i hn
      rw [if_neg hn]
      rw [not_or] at hn
      have hc := right_kids (x := x) (by simpa using hn.2)
      obtain ⟨m', rfl⟩ : ∃ m', m = m' + 1 := ⟨m - 1, by omega⟩
      rw [show ((m' + 1 : Nat) : Int) + (x.2.2 - 1) = ((m' + x.2.2.toNat : Nat) : Int) by omega] at h ⊢
      rw [chk_take l _ _ k h (by simpa using hk)]
      congr 1
      push_cast
      omega
end Go.Proofs.YtlbgdgobhiokpaaDoor
