/- Code, plain: what Made makes has its form. -/
import Derived.Test.YteadmiikenpjeaaDoorCer
import Derived.Test.YteadmiikenpjeaaDoorCdx
namespace Go.Proofs.YteadmiikenpjeaaDoor
open Go.RowKit
set_option linter.unusedVariables false

/-- What brought answers. -/
def Brg (lo hi r : Int) : Prop := lo ≤ r ∧ r ≤ hi
/-- What made answers, by the kind. -/
structure Mdo (nc ne k r : Int) : Prop where
  no : k = 8 → r = 0
  ok : k ≠ 8 → alw nc ne k r = true
  kd : k = 2 → r ≤ 61
  mn : k = 4 → r = 2
  pl : k = 11 → r ≤ 300
/-- An instruction that is made, a union or choice without its arms. -/
structure Pre (enc : Bool) (nc ne : Int) (x : In) : Prop where
  of : isOf x.op enc = true
  frm : x.op ≠ 8 → x.op ≠ 41 → frmX enc nc ne x = true ∧ agr x [] = true
  un : x.op = 8 ∨ x.op = 41 → x.a = 0 ∧ x.b = 0 ∧ x.c = 0
theorem agr_any {x : In} (h8 : x.op ≠ 8) (h41 : x.op ≠ 41) (R S : List In) : agr x R = agr x S := by
  unfold agr
  split
  · rfl
  · split
    · rfl
    · split
      · rfl
      · rw [if_neg (by omega), if_neg (by omega)]
theorem kin_un {op : Int} (h : op = 8 ∨ op = 41) : kin op = (8, 0, 0) := by rcases h with rfl | rfl <;> rfl
set_option maxRecDepth 100000 in
theorem kin_fin : ∀ (e : Bool) (n : Fin 48), isOf ((n.val : Nat) : Int) e = true → (kin ((n.val : Nat) : Int)).1 = 8 ∨ (kin ((n.val : Nat) : Int)).2.1 = 8 ∨ (kin ((n.val : Nat) : Int)).2.2 = 8 → n.val = 8 ∨ n.val = 41 := by decide +kernel
theorem kin_no8 {op : Int} {e : Bool} (h : isOf op e = true) (h8 : op ≠ 8) (h41 : op ≠ 41) : (kin op).1 ≠ 8 ∧ (kin op).2.1 ≠ 8 ∧ (kin op).2.2 ≠ 8 := by
  have := isOf_rng h
  obtain ⟨n, rfl⟩ : ∃ n : Fin 48, op = ((n.val : Nat) : Int) := ⟨⟨op.toNat, by omega⟩, by simp only; omega⟩
  have hk := kin_fin e n h
  refine ⟨fun h => ?_, fun h => ?_, fun h => ?_⟩
  · have := hk (.inl h); omega
  · have := hk (.inr (.inl h)); omega
  · have := hk (.inr (.inr h)); omega
theorem alw_m1 (nc ne : Int) : alw nc ne 1 (-1) = true ∧ alw nc ne 10 (-1) = true := ⟨rfl, rfl⟩
/-- What the first loop lays. -/
theorem pre_of {enc : Bool} {nc ne op a b c : Int} (h : isOf op enc = true) (ha : Mdo nc ne (kin op).1 a) (hb : Mdo nc ne (kin op).2.1 b) (hc : Mdo nc ne (kin op).2.2 c) (h17 : op ≠ 17) : Pre enc nc ne ⟨op, a, b, c⟩ := by
  refine ⟨h, fun h8 h41 => ?_, fun h8 => ?_⟩
  · simp only at h8 h41
    obtain ⟨k1, k2, k3⟩ := kin_no8 h h8 h41
    refine ⟨?_, ?_⟩
    · unfold frmX
      simp only
      rw [h, ha.ok k1, hb.ok k2, hc.ok k3]
      rfl
    · unfold agr
      simp only
      by_cases e2 : op = 2
      · subst e2
        have := ha.kd rfl
        have := hb.mn rfl
        rw [if_pos rfl]
        simp
        omega
      rw [if_neg e2]
      by_cases e34 : op = 34
      · subst e34
        have := ha.pl rfl
        have h2 := hb.mn rfl
        have := alw_rng (hc.ok (by decide))
        have hb3 : bnd nc ne (kin 34).2.2 = (1, 8) := rfl
        rw [hb3] at this
        simp only at this
        rw [if_pos rfl, h2]
        simp
        omega
      rw [if_neg e34, if_neg h17, if_neg (by omega)]
  · simp only at h8
    rw [kin_un h8] at ha hb hc
    exact ⟨ha.no rfl, alw_zero (hb.ok (by decide)), alw_zero (hc.ok (by decide))⟩
theorem pre_part {enc : Bool} {nc ne a b c : Int} (h : isOf 17 enc = true) (ha : Mdo nc ne (kin 17).1 a) (hb : Mdo nc ne (kin 17).2.1 b) (hc : Mdo nc ne (kin 17).2.2 c) (hs : a = -1 ∧ b = -1 ∨ a ≠ -1 ∧ b ≠ -1) : Pre enc nc ne ⟨17, a, b, c⟩ := by
  refine ⟨h, fun h8 h41 => ⟨?_, ?_⟩, fun h8 => by simp only at h8; omega⟩
  · unfold frmX
    simp only
    rw [h, ha.ok (by decide), hb.ok (by decide), hc.ok (by decide)]
    rfl
  · unfold agr
    simp only
    rw [if_neg (by decide), if_neg (by decide), if_pos trivial]
    rcases hs with ⟨rfl, rfl⟩ | ⟨h1, h2⟩
    · rfl
    · have e1 : (a == -1) = false := by simpa using h1
      have e2 : (b == -1) = false := by simpa using h2
      rw [e1, e2]
      rfl
theorem mdo_m1 (nc ne : Int) : Mdo nc ne (kin 17).1 (-1) ∧ Mdo nc ne (kin 17).2.1 (-1) :=
  ⟨⟨fun h => (by cases h), fun _ => rfl, fun h => (by cases h), fun h => (by cases h), fun h => (by cases h)⟩, ⟨fun h => (by cases h), fun _ => rfl, fun h => (by cases h), fun h => (by cases h), fun h => (by cases h)⟩⟩
theorem preI_frm {enc : Bool} {ne : Nat} {C : List In} {i : Nat} {x : In} (h : Pre enc C.length ne x) (hx : C[i]? = some x) (h8 : x.op ≠ 8) (h41 : x.op ≠ 41) : frm enc C ne i = true := by
  obtain ⟨a, b⟩ := h.frm h8 h41
  rw [frm_at hx, a, agr_any h8 h41 _ [], b]
  rfl
/-- Another instruction, no arm, is written over. -/
theorem armOk_set {l : List In} {i j : Nat} {y z : In} (hj : l[j]? = some z) (hz : z.op ≠ 9) (h : ∀ k, k ≤ i → armOk l k = true) : armOk (l.set j y) i = true := by
  have hij : i < j := by
    rcases Nat.lt_or_ge i j with h' | h'
    · exact h'
    · have := h j h'
      rw [armOk_at hj] at this
      simp at this
      exact absurd this.1 hz
  have hi := h i (Nat.le_refl _)
  unfold armOk at hi ⊢
  rw [List.getElem?_set_ne (by omega), List.take_set_of_le (by omega)]
  exact hi
theorem arms_set {l : List In} {m j : Nat} {y z : In} (hj : l[j]? = some z) (hz : z.op ≠ 9) (h : arms l m = true) : arms (l.set j y) m = true := by
  have hm : m ≤ l.length := by
    unfold arms at h
    simp at h
    exact h.1
  rw [arms_iff (by simpa using hm)]
  exact fun i hi => armOk_set hj hz (fun k hk => (arms_iff hm).1 h k (by omega))
theorem frm_set {enc : Bool} {C : List In} {ne i j : Nat} {y z : In} (hj : C[j]? = some z) (hz : z.op ≠ 9) (hij : i ≠ j) (h : frm enc C ne i = true) : frm enc (C.set j y) ne i = true := by
  unfold frm at h ⊢
  rw [List.getElem?_set_ne (by omega), List.length_set]
  cases hx : C[i]? with
  | none => rw [hx] at h; cases h
  | some x =>
    rw [hx] at h
    simp only [Bool.and_eq_true] at h ⊢
    refine ⟨h.1, ?_⟩
    by_cases hu : x.op = 8 ∨ x.op = 41
    · have ha := h.2
      have hal : alw C.length ne 8 x.a = true := by
        have := (frmX_parts h.1).2.1
        rw [kin_un hu] at this
        exact this
      have hr := alw_rng hal
      have hb8 : bnd C.length ne 8 = (1, 64) := rfl
      rw [hb8] at hr
      simp only at hr
      obtain ⟨m, hm⟩ := Int.eq_ofNat_of_zero_le (show 0 ≤ x.a by omega)
      unfold agr at ha ⊢
      rw [if_neg (by omega), if_neg (by omega), if_neg (by omega), if_pos hu, hm] at ha ⊢
      rcases Nat.lt_or_ge j (i + 1) with hlt | hge
      · rw [List.drop_set_of_lt hlt]
        exact ha
      · rw [List.drop_set, if_neg (by omega)]
        refine arms_set (z := z) ?_ hz ha
        rw [List.getElem?_drop, ← hj]
        congr 1
        omega
    · rw [← agr_any (by omega) (by omega) (C.drop (i + 1)) _]
      exact h.2
/-- A union that has its arms. -/
theorem frm_un {enc : Bool} {C : List In} {ne i k : Nat} {op : Int} (hx : C[i]? = some ⟨op, (k : Int), 0, 0⟩) (hop : op = 8 ∨ op = 41) (h : isOf op enc = true) (h1 : 1 ≤ k) (h64 : k ≤ 64) (ha : arms (C.drop (i + 1)) k = true) : frm enc C ne i = true := by
  rw [frm_at hx]
  have e1 : alw C.length ne 8 (k : Int) = true := by
    rw [alw_in (lo := 1) (hi := 64) rfl (by decide) (by decide)]
    simp
    omega
  unfold frmX agr
  simp only
  rw [h, kin_un hop, if_neg (by omega), if_neg (by omega), if_neg (by omega), if_pos hop, ha, e1]
  rfl
theorem frm_ret {enc : Bool} {C : List In} {ne i : Nat} (hx : C[i]? = some ⟨20, 0, 0, 0⟩) : frm enc C ne i = true := by
  rw [frm_at hx]
  cases enc <;> rfl
end Go.Proofs.YteadmiikenpjeaaDoor
