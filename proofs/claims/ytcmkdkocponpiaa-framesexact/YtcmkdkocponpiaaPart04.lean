import Derived.Test.YtcmkdkocponpiaaPart02
import Derived.Lib.BitFns

/- Plain: numbers, their forms, what Get finds; nothing of the program. -/
namespace Go.Proofs.Ytcmkdkocponpiaa
open Go.RowKit
set_option linter.unusedVariables false

/-! ### The number of groups -/
def val : List Int → Int
  | [] => 0
  | c :: l => c % 128 + 128 * val l
theorem val_nonneg : ∀ l, 0 ≤ val l
  | [] => Int.le_refl _
  | c :: l => by have := val_nonneg l; unfold val; omega
theorem val_lt : ∀ l, val l < 128 ^ l.length
  | [] => by decide
  | c :: l => by
    have h := val_lt l
    unfold val
    rw [List.length_cons, Int.pow_succ]
    omega
theorem val_snoc : ∀ (l : List Int) (c : Int), val (l ++ [c]) = val l + c % 128 * 128 ^ l.length
  | [], c => by simp [val]
  | d :: l, c => by
    rw [List.cons_append, val, val_snoc l c, val, List.length_cons, Int.pow_succ, Int.mul_add, Int.mul_comm _ (128 : Int), ← Int.mul_assoc, Int.mul_comm 128 (c % 128), Int.mul_assoc, Int.mul_comm 128 (_ ^ _)]
    omega
theorem take_snoc (l : List Int) (k : Nat) (h : k < l.length) : l.take (k + 1) = l.take k ++ [l.getD k 0] := by
  rw [List.take_add_one, List.getElem?_eq_getElem h]
  simp [List.getD, h]
theorem drop_cons (l : List Int) (k : Nat) (h : k < l.length) : l.drop k = l.getD k 0 :: l.drop (k + 1) := by
  rw [List.drop_eq_getElem_cons h]
  simp [List.getD, h]
theorem val_take (l : List Int) (k : Nat) (h : k < l.length) : val (l.take (k + 1)) = val (l.take k) + l.getD k 0 % 128 * 128 ^ k := by
  rw [take_snoc l k h, val_snoc, List.length_take, Nat.min_eq_left (by omega)]
theorem val_take_lt (l : List Int) (k : Nat) (h : k ≤ l.length) : val (l.take k) < 128 ^ k := by
  have := val_lt (l.take k)
  rwa [List.length_take, Nat.min_eq_left h] at this
theorem getD_mem (l : List Int) (k : Nat) (h : k < l.length) : l.getD k 0 ∈ l := by
  simp [List.getD, h]

/-! ### Bytes -/
def Bys (l : List Int) : Prop := ∀ x ∈ l, 0 ≤ x ∧ x ≤ 255
theorem Bys.at {l : List Int} (h : Bys l) (k : Nat) : 0 ≤ l.getD k 0 ∧ l.getD k 0 ≤ 255 := by
  by_cases hk : k < l.length
  · exact h _ (getD_mem l k hk)
  · simp [List.getD, hk]
theorem Bys.take {l : List Int} (h : Bys l) (k : Nat) : Bys (l.take k) := fun x hx => h x (List.mem_of_mem_take hx)
theorem Bys.drop {l : List Int} (h : Bys l) (k : Nat) : Bys (l.drop k) := fun x hx => h x (List.mem_of_mem_drop hx)
theorem Bys.append {l r : List Int} (h : Bys l) (g : Bys r) : Bys (l ++ r) := fun x hx => (List.mem_append.1 hx).elim (h x) (g x)
theorem getD_take (l : List Int) (k j : Nat) (h : j < k) : (l.take k).getD j 0 = l.getD j 0 := by simp [List.getD, h]
theorem getD_app_left (l r : List Int) (j : Nat) (h : j < l.length) : (l ++ r).getD j 0 = l.getD j 0 := by rw [List.getD, List.getD, List.getElem?_append_left h]

/-! ### What Get finds -/
def flt (k : Nat) (c : Int) : Bool := (decide (0 < k) && (c == 0)) || (k == 9 && decide (1 < c))
theorem flt_iff (k : Nat) (c : Int) : flt k c = true ↔ (0 < k ∧ c = 0) ∨ (k = 9 ∧ 1 < c) := by simp [flt]
theorem flt_no (k : Nat) (c : Int) : flt k c = false ↔ ¬ (0 < k ∧ c = 0) ∧ ¬ (k = 9 ∧ 1 < c) := by
  rw [← not_or, ← flt_iff]; simp
/-- The first k bytes go on, and show no fault. -/
def Good (l : List Int) (k : Nat) : Prop := k ≤ 9 ∧ k ≤ l.length ∧ ∀ j, j < k → 128 ≤ l.getD j 0
def GetR (l : List Int) (n : Int) (u : Nat) (e : Int) : Prop :=
  (Good l l.length ∧ n = 0 ∧ u = l.length ∧ e = 20) ∨
  (∃ k, k < l.length ∧ Good l k ∧ flt k (l.getD k 0) = true ∧ n = 0 ∧ u = k ∧ e = 21) ∨
  (∃ k, k < l.length ∧ Good l k ∧ flt k (l.getD k 0) = false ∧ l.getD k 0 < 128 ∧ n = val (l.take (k + 1)) ∧ u = k + 1 ∧ e = 0)
theorem Good.zero (l : List Int) : Good l 0 := ⟨by omega, by omega, fun j hj => by omega⟩
theorem Good.next {l : List Int} {k : Nat} (h : Good l k) (hk : k < l.length) (hf : flt k (l.getD k 0) = false) (h2 : 128 ≤ l.getD k 0) : Good l (k + 1) := by
  rw [flt_no] at hf
  refine ⟨?_, by omega, fun j hj => ?_⟩
  · have := h.1; omega
  · rcases Nat.lt_succ_iff_lt_or_eq.1 hj with h1 | rfl
    · exact h.2.2 j h1
    · exact h2
theorem Good.le {l : List Int} {k i : Nat} (h : Good l k) (hi : i ≤ k) : Good l i := ⟨by have := h.1; omega, by have := h.2.1; omega, fun j hj => h.2.2 j (by omega)⟩
theorem GetR.det {l : List Int} {n m e f : Int} {u v : Nat} (h : GetR l n u e) (g : GetR l m v f) : n = m ∧ u = v ∧ e = f := by
  have key : ∀ k k' : Nat, k < l.length → Good l k → (flt k (l.getD k 0) = true ∨ l.getD k 0 < 128) → Good l k' → k' ≤ k := by
    intro k k' hk hg hx hg'
    rcases Nat.lt_or_ge k k' with h1 | h1
    · have := hg'.2.2 k h1
      have h9 := hg'.1
      rcases hx with hx | hx
      · rw [flt_iff] at hx; omega
      · omega
    · exact h1
  rcases h with ⟨a1, rfl, rfl, rfl⟩ | ⟨k, a1, a2, a3, rfl, rfl, rfl⟩ | ⟨k, a1, a2, a3, a4, rfl, rfl, rfl⟩ <;> rcases g with ⟨b1, rfl, rfl, rfl⟩ | ⟨k', b1, b2, b3, rfl, rfl, rfl⟩ | ⟨k', b1, b2, b3, b4, rfl, rfl, rfl⟩
  · exact ⟨rfl, rfl, rfl⟩
  · have := key _ _ b1 b2 (.inl b3) a1; omega
  · have := key k' _ b1 b2 (.inr b4) a1; omega
  · have := key _ _ a1 a2 (.inl a3) b1; omega
  · have h1 := key _ _ a1 a2 (.inl a3) b2
    have h2 := key _ _ b1 b2 (.inl b3) a2
    obtain rfl : u = v := by omega
    exact ⟨rfl, rfl, rfl⟩
  · have h1 := key _ _ a1 a2 (.inl a3) b2
    have h2 := key _ _ b1 b2 (.inr b4) a2
    obtain rfl : u = k' := by omega
    rw [a3] at b3; cases b3
  · have := key _ _ a1 a2 (.inr a4) b1; omega
  · have h1 := key _ _ a1 a2 (.inr a4) b2
    have h2 := key _ _ b1 b2 (.inl b3) a2
    obtain rfl : k = v := by omega
    rw [a3] at b3; cases b3
  · have h1 := key _ _ a1 a2 (.inr a4) b2
    have h2 := key _ _ b1 b2 (.inr b4) a2
    obtain rfl : k = k' := by omega
    exact ⟨rfl, rfl, rfl⟩

/-! ### How many bytes -/
def Sz (n s : Nat) : Prop := 1 ≤ s ∧ n < 128 ^ s ∧ (s = 1 ∨ 128 ^ (s - 1) ≤ n)
theorem Sz.le {n m s t : Nat} (h : Sz n s) (g : Sz m t) (hnm : n ≤ m) : s ≤ t := by
  obtain ⟨h1, h2, h3⟩ := h
  obtain ⟨g1, g2, g3⟩ := g
  rcases Nat.lt_or_ge t s with hlt | hge
  · rcases h3 with rfl | h3
    · omega
    · have : 128 ^ t ≤ 128 ^ (s - 1) := Nat.pow_le_pow_right (by omega) (by omega)
      omega
  · exact hge
theorem Sz.det {n s t : Nat} (h : Sz n s) (g : Sz n t) : s = t := Nat.le_antisymm (h.le g (Nat.le_refl _)) (g.le h (Nat.le_refl _))
theorem Sz.ten {n s : Nat} (h : Sz n s) (hn : n < 18446744073709551616) : s ≤ 10 := by
  rcases Nat.lt_or_ge 10 s with hlt | hge
  · rcases h.2.2 with rfl | h3
    · omega
    · have : 128 ^ 10 ≤ 128 ^ (s - 1) := Nat.pow_le_pow_right (by omega) (by omega)
      omega
  · exact hge
theorem bitLen_hi : ∀ (f x : Nat), x < 2 ^ f → x < 2 ^ Lib.bitLenAux f x
  | 0, x, h => by simpa [Lib.bitLenAux] using h
  | f + 1, x, h => by
    unfold Lib.bitLenAux
    split
    · rename_i h0; subst h0; simp
    · have := bitLen_hi f (x / 2) (by rw [Nat.pow_succ] at h; omega)
      rw [Nat.add_comm, Nat.pow_succ]; omega
theorem bitLen_lo : ∀ (f x : Nat), x ≠ 0 → x < 2 ^ f → 1 ≤ Lib.bitLenAux f x ∧ 2 ^ (Lib.bitLenAux f x - 1) ≤ x
  | 0, x, h0, h => by simp at h; omega
  | f + 1, x, h0, h => by
    unfold Lib.bitLenAux
    rw [if_neg h0]
    refine ⟨by omega, ?_⟩
    rw [Nat.add_sub_cancel_left]
    by_cases h2 : x / 2 = 0
    · rw [h2]
      have : Lib.bitLenAux f 0 = 0 := by cases f <;> simp [Lib.bitLenAux]
      rw [this]; simp; omega
    · obtain ⟨h3, h4⟩ := bitLen_lo f (x / 2) h2 (by rw [Nat.pow_succ] at h; omega)
      obtain ⟨q, hq⟩ : ∃ q, Lib.bitLenAux f (x / 2) = q + 1 := ⟨_, (Nat.sub_add_cancel h3).symm⟩
      rw [hq] at h4 ⊢
      rw [Nat.add_sub_cancel] at h4
      rw [Nat.pow_succ]; omega
def szN (n : Nat) : Nat := max 1 ((Lib.bitLen n + 6) / 7)
theorem pow128 (k : Nat) : 128 ^ k = 2 ^ (7 * k) := by rw [Nat.pow_mul]
theorem szN_ok (n : Nat) (h : n < 18446744073709551616) : Sz n (szN n) := by
  unfold szN
  have h1 := bitLen_hi 64 n (by omega)
  by_cases h0 : n = 0
  · subst h0
    have : Lib.bitLen 0 = 0 := by decide
    rw [this]
    exact ⟨by decide, by decide, .inl (by decide)⟩
  obtain ⟨h2, h3⟩ := bitLen_lo 64 n h0 (by omega)
  change n < 2 ^ Lib.bitLen n at h1
  change 1 ≤ Lib.bitLen n at h2
  change 2 ^ (Lib.bitLen n - 1) ≤ n at h3
  generalize Lib.bitLen n = q at *
  rw [show max 1 ((q + 6) / 7) = (q + 6) / 7 from by omega]
  refine ⟨by omega, ?_, ?_⟩
  · rw [pow128]
    have : 2 ^ q ≤ 2 ^ (7 * ((q + 6) / 7)) := Nat.pow_le_pow_right (by omega) (by omega)
    omega
  · right
    rw [pow128]
    have : 2 ^ (7 * ((q + 6) / 7 - 1)) ≤ 2 ^ (q - 1) := Nat.pow_le_pow_right (by omega) (by omega)
    omega

/-! ### The form -/
def formF : Nat → Nat → List Int
  | 0, n => [(n : Int)]
  | k + 1, n => if n < 128 then [(n : Int)] else ((n % 128 + 128 : Nat) : Int) :: formF k (n / 128)
theorem formF_fuel : ∀ (k n j : Nat), n ≤ k → n ≤ j → formF k n = formF j n
  | 0, n, j, hk, hj => by
    obtain rfl : n = 0 := by omega
    cases j with
    | zero => rfl
    | succ j => rw [formF, formF, if_pos (by omega)]
  | k + 1, n, j, hk, hj => by
    cases j with
    | zero =>
      obtain rfl : n = 0 := by omega
      rw [formF, formF, if_pos (by omega)]
    | succ j =>
      rw [formF, formF]
      by_cases h : n < 128
      · rw [if_pos h, if_pos h]
      · rw [if_neg h, if_neg h, formF_fuel k (n / 128) j (by omega) (by omega)]
def form (n : Nat) : List Int := formF n n
theorem form_small {n : Nat} (h : n < 128) : form n = [(n : Int)] := by
  unfold form
  cases n with
  | zero => rfl
  | succ n => rw [formF, if_pos h]
theorem form_big {n : Nat} (h : ¬ n < 128) : form n = ((n % 128 + 128 : Nat) : Int) :: form (n / 128) := by
  unfold form
  obtain ⟨k, rfl⟩ : ∃ k, n = k + 1 := ⟨n - 1, by omega⟩
  rw [formF, if_neg h, formF_fuel k ((k + 1) / 128) ((k + 1) / 128) (by omega) (Nat.le_refl _)]
theorem form_sz (n : Nat) : Sz n (form n).length := by
  induction n using Nat.strongRecOn with
  | _ n ih =>
  by_cases h : n < 128
  · rw [form_small h]; exact ⟨Nat.le_refl _, by simpa using h, .inl rfl⟩
  · have ih := ih (n / 128) (by omega)
    rw [form_big h, List.length_cons]
    obtain ⟨h1, h2, h3⟩ := ih
    refine ⟨by omega, by rw [Nat.pow_succ]; omega, .inr ?_⟩
    rw [Nat.add_sub_cancel]
    rcases h3 with h3 | h3
    · rw [h3]; omega
    · obtain ⟨q, hq⟩ : ∃ q, (form (n / 128)).length = q + 1 := ⟨_, (Nat.sub_add_cancel h1).symm⟩
      rw [hq] at h3 ⊢
      rw [Nat.add_sub_cancel] at h3
      rw [Nat.pow_succ]; omega
theorem form_len (n : Nat) (h : n < 18446744073709551616) : (form n).length = szN n := (form_sz n).det (szN_ok n h)
theorem form_pos (n : Nat) : 1 ≤ (form n).length := (form_sz n).1
theorem form_ten (n : Nat) (h : n < 18446744073709551616) : (form n).length ≤ 10 := (form_sz n).ten h
theorem form_at (n : Nat) : ∀ i, i < (form n).length → (form n).getD i 0 = ((n / 128 ^ i % 128 + if i + 1 < (form n).length then 128 else 0 : Nat) : Int) := by
  induction n using Nat.strongRecOn with
  | _ n ih =>
  intro i hi
  by_cases h : n < 128
  · rw [form_small h] at hi ⊢
    have : i = 0 := by simpa using hi
    subst this
    simp [Nat.mod_eq_of_lt h]
  · have ih := ih (n / 128) (by omega)
    rw [form_big h, List.length_cons] at hi ⊢
    cases i with
    | zero =>
      have := form_pos (n / 128)
      rw [if_pos (by omega)]
      simp
    | succ i =>
      have e := ih i (by omega)
      rw [List.getD_cons_succ, e, Nat.div_div_eq_div_mul, Nat.pow_succ, Nat.mul_comm 128]
      congr 2
      by_cases h2 : i + 1 < (form (n / 128)).length
      · rw [if_pos h2, if_pos (by omega)]
      · rw [if_neg h2, if_neg (by omega)]
theorem form_bys (n : Nat) : Bys (form n) := by
  intro x hx
  obtain ⟨i, hi, rfl⟩ := List.mem_iff_getElem.1 hx
  have e := form_at n i hi
  rw [show (form n).getD i 0 = (form n)[i] from by simp [List.getD, hi]] at e
  rw [e]
  split <;> omega
theorem form_val (n : Nat) : val (form n) = n := by
  induction n using Nat.strongRecOn with
  | _ n ih =>
  by_cases h : n < 128
  · rw [form_small h]; simp [val]; omega
  · rw [form_big h, val, ih (n / 128) (by omega)]; omega
theorem form_good (n : Nat) (hn : n < 18446744073709551616) (i : Nat) (h : i < (form n).length) : Good (form n) i := by
  have h10 := form_ten n hn
  refine ⟨by omega, by omega, fun j hj => ?_⟩
  rw [form_at n j (by omega), if_pos (by omega)]
  omega
theorem form_last (n : Nat) (hn : n < 18446744073709551616) : (form n).getD ((form n).length - 1) 0 < 128 ∧ flt ((form n).length - 1) ((form n).getD ((form n).length - 1) 0) = false := by
  have h10 := form_ten n hn
  have h1 := form_pos n
  have e := form_at n ((form n).length - 1) (by omega)
  rw [if_neg (by omega), Nat.add_zero] at e
  obtain ⟨_, s2, s3⟩ := form_sz n
  generalize (form n).length = s at *
  rw [e]
  refine ⟨by omega, ?_⟩
  rw [flt_no]
  have hd : n / 128 ^ (s - 1) < 128 := by
    refine Nat.div_lt_of_lt_mul ?_
    rw [← Nat.pow_succ, show (s - 1).succ = s from by omega]
    exact s2
  rw [Nat.mod_eq_of_lt hd]
  refine ⟨fun ⟨k1, k2⟩ => ?_, fun ⟨k1, k2⟩ => ?_⟩
  · rcases s3 with rfl | s3
    · omega
    · have : 1 ≤ n / 128 ^ (s - 1) := (Nat.le_div_iff_mul_le (Nat.pow_pos (by omega))).2 (by omega)
      omega
  · rw [k1] at k2
    have : n / 128 ^ 9 < 2 := by omega
    omega
/-- Put, then Get: whatever stands behind. -/
theorem get_form (n : Nat) (hn : n < 18446744073709551616) (r : List Int) : GetR (form n ++ r) n (form n).length 0 := by
  have h1 := form_pos n
  obtain ⟨k1, k2⟩ := form_last n hn
  have hg := form_good n hn ((form n).length - 1) (by omega)
  refine .inr (.inr ⟨(form n).length - 1, by simp; omega, ⟨hg.1, by simp; omega, fun j hj => ?_⟩, ?_, ?_, ?_, by omega, rfl⟩)
  · rw [getD_app_left _ _ _ (by omega)]; exact hg.2.2 j hj
  · rw [getD_app_left _ _ _ (by omega)]; exact k2
  · rw [getD_app_left _ _ _ (by omega)]; exact k1
  · rw [show (form n).length - 1 + 1 = (form n).length from by omega, List.take_left', form_val]; rfl
/-- A form that is cut is short. -/
theorem get_cut (n : Nat) (hn : n < 18446744073709551616) (i : Nat) (h : i < (form n).length) : GetR ((form n).take i) 0 i 20 := by
  have hl : ((form n).take i).length = i := by simp; omega
  have hg := form_good n hn i h
  refine .inl ⟨?_, rfl, hl.symm, rfl⟩
  rw [hl]
  exact ⟨hg.1, by omega, fun j hj => by rw [getD_take _ _ _ hj]; exact hg.2.2 j hj⟩
theorem form_more (n : Nat) (i : Nat) (h : i < (form n).length) : (128 ≤ (form n).getD i 0) ↔ i + 1 < (form n).length := by
  rw [form_at n i h]
  split <;> omega

/-! ### What is got is put again -/
theorem can_form : ∀ (l : List Int), l ≠ [] → Bys l → (∀ j, j + 1 < l.length → 128 ≤ l.getD j 0) → l.getD (l.length - 1) 0 < 128 → (l.length = 1 ∨ l.getD (l.length - 1) 0 ≠ 0) → form (val l).toNat = l ∧ (l.getD (l.length - 1) 0 ≠ 0 → 0 < val l)
  | [], h, _, _, _, _ => absurd rfl h
  | [c], _, hb, _, hl, _ => by
    have hc := hb c (by simp)
    have hl' : c < 128 := by simpa using hl
    have e : val [c] = c := by simp [val]; omega
    rw [e, form_small (by omega)]
    refine ⟨by rw [Int.toNat_of_nonneg hc.1], fun h => ?_⟩
    have : c ≠ 0 := by simpa using h
    omega
  | c :: d :: l, _, hb, hg, hl, hz => by
    have hc := hb c (by simp)
    have h0 : 128 ≤ c := by simpa using hg 0 (by simp)
    have hlast : (d :: l).getD ((d :: l).length - 1) 0 = (c :: d :: l).getD ((c :: d :: l).length - 1) 0 := by simp
    have hne : (d :: l).getD ((d :: l).length - 1) 0 ≠ 0 := by
      rw [hlast]
      rcases hz with hz | hz
      · simp at hz
      · exact hz
    obtain ⟨e, hp⟩ := can_form (d :: l) (by simp) (fun x hx => hb x (by simp at hx ⊢; exact .inr hx)) (fun j hj => by simpa using hg (j + 1) (by simpa using hj)) (by rw [hlast]; exact hl) (.inr hne)
    have hpos := hp hne
    rw [val]
    generalize hv : val (d :: l) = v at *
    refine ⟨?_, fun _ => by omega⟩
    rw [form_big (by omega), show (c % 128 + 128 * v).toNat / 128 = v.toNat from by omega, e]
    congr 1
    omega
theorem val_u64 (l : List Int) (k : Nat) (hk : k < l.length) (h9 : k ≤ 9) (hf : flt k (l.getD k 0) = false) (hb : Bys l) : val (l.take (k + 1)) < 18446744073709551616 := by
  have h1 := val_take l k hk
  have h2 := val_take_lt l k (by omega)
  have hc := hb.at k
  rw [flt_no] at hf
  by_cases hk9 : k = 9
  · subst hk9
    rw [h1]
    have : l.getD 9 0 ≤ 1 := by omega
    generalize l.getD 9 0 = c at *
    generalize val (l.take 9) = v at *
    have e : c % 128 = c := by omega
    rw [e]
    have h5 : (128 : Int) ^ 9 = 9223372036854775808 := by decide
    rw [h5] at h2 ⊢
    omega
  · have h3 := val_take_lt l (k + 1) (by omega)
    have h4 : (128 : Int) ^ (k + 1) ≤ 128 ^ 9 := by
      have : (128 : Nat) ^ (k + 1) ≤ 128 ^ 9 := Nat.pow_le_pow_right (by omega) (by omega)
      exact_mod_cast this
    have h5 : (128 : Int) ^ 9 = 9223372036854775808 := by decide
    omega
theorem get_back {l : List Int} {n e : Int} {u : Nat} (h : GetR l n u e) (hb : Bys l) (he : e = 0) : 1 ≤ u ∧ u ≤ l.length ∧ 0 ≤ n ∧ n < 18446744073709551616 ∧ form n.toNat = l.take u := by
  rcases h with ⟨_, _, _, rfl⟩ | ⟨k, _, _, _, _, _, rfl⟩ | ⟨k, a1, a2, a3, a4, rfl, rfl, _⟩
  · cases he
  · cases he
  have hl : (l.take (k + 1)).length = k + 1 := by simp; omega
  refine ⟨by omega, by omega, val_nonneg _, val_u64 l k a1 a2.1 a3 hb, ?_⟩
  refine (can_form (l.take (k + 1)) (by intro h0; rw [h0] at hl; simp at hl) (hb.take _) (fun j hj => ?_) ?_ ?_).1
  · rw [hl] at hj; rw [getD_take _ _ _ (by omega)]; exact a2.2.2 j (by omega)
  · rw [hl, Nat.add_sub_cancel, getD_take _ _ _ (by omega)]; exact a4
  · rw [hl, Nat.add_sub_cancel, getD_take _ _ _ (by omega)]
    rw [flt_no] at a3
    omega
theorem get_u64 {l : List Int} {n e : Int} {u : Nat} (h : GetR l n u e) (hb : Bys l) : 0 ≤ n ∧ n < 18446744073709551616 ∧ u ≤ l.length ∧ u ≤ 10 := by
  rcases h with ⟨a1, rfl, rfl, _⟩ | ⟨k, a1, a2, _, rfl, rfl, _⟩ | ⟨k, a1, a2, a3, a4, rfl, rfl, _⟩
  · exact ⟨by omega, by omega, by omega, by have := a1.1; omega⟩
  · exact ⟨by omega, by omega, by omega, by have := a2.1; omega⟩
  · exact ⟨val_nonneg _, val_u64 l k a1 a2.1 a3 hb, by omega, by have := a2.1; omega⟩
end Go.Proofs.Ytcmkdkocponpiaa
