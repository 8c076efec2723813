import Derived.Test.YtjamfbpdepahnaaGreatPart39
import Derived.Lib.SlicesCompact
namespace Go.Proofs.YtjamfbpdepahnaaGreat
open Go.RowKit
set_option linter.unusedVariables false
set_option linter.unusedSimpArgs false
def htP (op : Int) : Bool := decide (op = 7 ∨ op = 9 ∨ op = 11 ∨ op = 12 ∨ op = 13 ∨ op = 14 ∨ op = 15 ∨ op = 19 ∨ op = 40 ∨ op = 47)
def folP (x : In) : Int := if x.op = 20 ∨ x.op = 19 ∨ x.op = 9 then 0 else if x.op = 8 ∨ x.op = 41 then x.a else 1
def flP (n k : Nat) : Nat → List Int
  | 0 => []
  | m + 1 => flP n k m ++ if k + m + 1 < n then [((k + m + 1 : Nat) : Int)] else []
def rawP (C : List In) (k : Nat) : List Int := (if htP (inA C k).op = true then [(inA C k).b] else []) ++ flP C.length k (folP (inA C k)).toNat
def sucP (C : List In) (k : Nat) : List Int :=
  if htP (inA C k).op = true ∧ folP (inA C k) = 1 ∧ k + 1 < C.length then
    (if (inA C k).b < (k : Int) + 1 then [(inA C k).b, (k : Int) + 1] else if (inA C k).b = (k : Int) + 1 then [(k : Int) + 1] else [(k : Int) + 1, (inA C k).b])
  else rawP C k
theorem fl_mem {n k : Nat} : ∀ {m : Nat} {y : Int}, y ∈ flP n k m ↔ ∃ j, j < m ∧ k + j + 1 < n ∧ y = ((k + j + 1 : Nat) : Int)
  | 0, y => by simp [flP]
  | m + 1, y => by
    rw [flP, List.mem_append, fl_mem]
    constructor
    · rintro (⟨j, h1, h2, h3⟩ | h)
      · exact ⟨j, by omega, h2, h3⟩
      · split at h
        · rename_i hq
          exact ⟨m, by omega, hq, List.mem_singleton.1 h⟩
        · cases h
    · rintro ⟨j, h1, h2, h3⟩
      by_cases e : j = m
      · subst e
        rw [if_pos h2]
        exact .inr (by rw [h3]; exact List.mem_singleton.2 rfl)
      · exact .inl ⟨j, by omega, h2, h3⟩
theorem fl_len {n k : Nat} : ∀ (m : Nat), (flP n k m).length ≤ m
  | 0 => Nat.le_refl _
  | m + 1 => by
    have := fl_len (n := n) (k := k) m
    rw [flP, List.length_append]
    split <;> simp <;> omega
theorem fl_inc {n k : Nat} : ∀ (m : Nat), (flP n k m).Pairwise (· < ·)
  | 0 => List.Pairwise.nil
  | m + 1 => by
    rw [flP, List.pairwise_append]
    refine ⟨fl_inc m, ?_, ?_⟩
    · split
      · exact List.pairwise_singleton _ _
      · exact List.Pairwise.nil
    · intro y hy z hz
      obtain ⟨j, h1, h2, rfl⟩ := fl_mem.1 hy
      split at hz
      · rw [List.mem_singleton.1 hz]
        omega
      · cases hz
theorem ht_fol {x : In} (h : htP x.op = true) : folP x = 0 ∨ folP x = 1 := by
  unfold htP at h
  have h := of_decide_eq_true h
  unfold folP
  by_cases h1 : x.op = 20 ∨ x.op = 19 ∨ x.op = 9
  · rw [if_pos h1]; exact .inl rfl
  · rw [if_neg h1, if_neg (by omega)]; exact .inr rfl
theorem sort_inc {l : List Int} (h : l.Pairwise (· < ·)) : (l.mergeSort fun x y => decide (x ≤ y)) = l :=
  List.mergeSort_of_pairwise (h.imp (fun hxy => by simp; omega))
theorem compact_inc {l : List Int} (h : l.Pairwise (· < ·)) : Go.Lib.compact l = l := by
  refine Go.Lib.compact_all l (fun j hj => ?_)
  by_cases h0 : j = 0
  · simp [Go.Lib.keeps, h0]
  · refine Go.Lib.keeps_pos ?_
    have h1 : l[j - 1] < l[j] := List.pairwise_iff_getElem.1 h (j - 1) j (by omega) hj (by omega)
    have e1 : l.toArray[j]! = l[j] := by simp [hj]
    have e2 : l.toArray[j - 1]! = l[j - 1] := by
      have : j - 1 < l.length := by omega
      simp [this]
    rw [e1, e2]
    omega
theorem sort2 {a b : Int} (h : b < a) : ([a, b].mergeSort fun x y => decide (x ≤ y)) = [b, a] := by
  have hp : List.Perm ([a, b].mergeSort fun x y => decide (x ≤ y)) [b, a] := (List.mergeSort_perm _ _).trans (List.Perm.swap b a [])
  have hs := List.pairwise_mergeSort (le := fun (x y : Int) => decide (x ≤ y)) (fun x y z h1 h2 => by simp at h1 h2 ⊢; omega) (fun x y => by simp; omega) [a, b]
  refine hp.eq_of_pairwise ?_ hs ?_
  · intro x y _ _ h1 h2
    simp at h1 h2
    omega
  · simp
    omega
theorem suc_is (C : List In) (k : Nat) : Go.Lib.compact ((rawP C k).mergeSort fun x y => decide (x ≤ y)) = sucP C k := by
  unfold sucP
  by_cases h : htP (inA C k).op = true ∧ folP (inA C k) = 1 ∧ k + 1 < C.length
  · rw [if_pos h]
    have e : rawP C k = [(inA C k).b, (k : Int) + 1] := by
      unfold rawP
      rw [if_pos h.1, h.2.1]
      show _ ++ flP C.length k 1 = _
      rw [flP, flP, if_pos (by omega)]
      simp
    rw [e]
    by_cases h1 : (inA C k).b < (k : Int) + 1
    · have hp : [(inA C k).b, (k : Int) + 1].Pairwise (· < ·) := by simpa using h1
      rw [if_pos h1, sort_inc hp, compact_inc hp]
    · rw [if_neg h1]
      by_cases h2 : (inA C k).b = (k : Int) + 1
      · rw [if_pos h2, h2]
        have e2 : ([(k : Int) + 1, (k : Int) + 1].mergeSort fun x y => decide (x ≤ y)) = [(k : Int) + 1, (k : Int) + 1] := List.mergeSort_of_pairwise (by simp)
        rw [e2]
        unfold Go.Lib.compact Go.Lib.compactUpTo
        simp [List.range_succ, Go.Lib.keeps]
      · rw [if_neg h2, sort2 (by omega)]
        exact compact_inc (by simp; omega)
  · rw [if_neg h]
    have hp : (rawP C k).Pairwise (· < ·) := by
      unfold rawP
      by_cases h1 : htP (inA C k).op = true
      · rw [if_pos h1]
        have e : flP C.length k (folP (inA C k)).toNat = [] := by
          rcases ht_fol h1 with h2 | h2
          · rw [h2]; rfl
          · rw [h2]
            show flP C.length k 1 = []
            rw [flP, flP, if_neg (fun hq => h ⟨h1, h2, by omega⟩)]
            rfl
        rw [e]
        simp
      · rw [if_neg h1]
        exact fl_inc _
    rw [sort_inc hp, compact_inc hp]
theorem suc_mem {C : List In} {k : Nat} {y : Int} : y ∈ sucP C k ↔ y ∈ rawP C k := by
  unfold sucP
  by_cases h : htP (inA C k).op = true ∧ folP (inA C k) = 1 ∧ k + 1 < C.length
  · rw [if_pos h]
    have e : rawP C k = [(inA C k).b, (k : Int) + 1] := by
      unfold rawP
      rw [if_pos h.1, h.2.1]
      show _ ++ flP C.length k 1 = _
      rw [flP, flP, if_pos (by omega)]
      simp
    rw [e]
    split
    · exact Iff.rfl
    split
    · rename_i h2; rw [h2]; simp
    · simp only [List.mem_cons, List.not_mem_nil, or_false]
      exact or_comm
  · rw [if_neg h]
theorem raw_len {C : List In} {k : Nat} : (rawP C k).length ≤ 1 + (folP (inA C k)).toNat := by
  unfold rawP
  rw [List.length_append]
  have := fl_len (n := C.length) (k := k) (folP (inA C k)).toNat
  split <;> simp <;> omega
theorem suc_len {C : List In} {k : Nat} : (sucP C k).length ≤ (rawP C k).length := by
  unfold sucP
  by_cases h : htP (inA C k).op = true ∧ folP (inA C k) = 1 ∧ k + 1 < C.length
  · have e : (rawP C k).length = 2 := by
      unfold rawP
      rw [if_pos h.1, h.2.1]
      show (_ ++ flP C.length k 1).length = _
      rw [flP, flP, if_pos (by omega)]
      rfl
    rw [if_pos h, e]
    split
    · simp
    split <;> simp
  · rw [if_neg h]; exact Nat.le_refl _
theorem chk_tgt {enc : Bool} {C : List In} {E : List Int} (hK : Chk enc C E) {k : Nat} (hk : k < C.length) (h : htP (inA C k).op = true) : 0 ≤ (inA C k).b ∧ (inA C k).b < (C.length : Int) := by
  have h1 := hK.code k hk
  unfold frm at h1
  have e : C[k]? = some (inA C k) := by simp [inA, List.getD, hk]
  rw [e] at h1
  have h1 := (Bool.and_eq_true_iff.1 h1).1
  unfold frmX at h1
  have h2 := (Bool.and_eq_true_iff.1 (Bool.and_eq_true_iff.1 (Bool.and_eq_true_iff.1 h1).2).2).1
  unfold htP at h
  have h := of_decide_eq_true h
  have hk : (kin (inA C k).op).2.1 = 15 := by
    rcases h with h | h | h | h | h | h | h | h | h | h <;> rw [h] <;> rfl
  rw [hk] at h2
  unfold alw bnd at h2
  simp at h2
  omega
theorem chk_fol {enc : Bool} {C : List In} {E : List Int} (hK : Chk enc C E) {k : Nat} (hk : k < C.length) : 0 ≤ folP (inA C k) ∧ folP (inA C k) ≤ 64 := by
  unfold folP
  split
  · omega
  split
  · rename_i h
    have h1 := hK.code k hk
    unfold frm at h1
    have e : C[k]? = some (inA C k) := by simp [inA, List.getD, hk]
    rw [e] at h1
    have h1 := (Bool.and_eq_true_iff.1 h1).1
    unfold frmX at h1
    have h2 := (Bool.and_eq_true_iff.1 (Bool.and_eq_true_iff.1 h1).2).1
    have hk : (kin (inA C k).op).1 = 8 := by
      rcases h with h | h <;> rw [h] <;> rfl
    rw [hk] at h2
    unfold alw bnd at h2
    simp at h2
    omega
  · omega
theorem suc_stn {enc : Bool} {C : List In} {E : List Int} (hK : Chk enc C E) {k : Nat} (hk : k < C.length) : Stn C.length (sucP C k) := by
  intro y hy
  rw [suc_mem] at hy
  unfold rawP at hy
  rcases List.mem_append.1 hy with hy | hy
  · split at hy
    · rename_i h
      rw [List.mem_singleton.1 hy]
      exact chk_tgt hK hk h
    · cases hy
  · obtain ⟨j, h1, h2, rfl⟩ := fl_mem.1 hy
    omega
theorem suc_le {enc : Bool} {C : List In} {E : List Int} (hK : Chk enc C E) {k : Nat} (hk : k < C.length) : (sucP C k).length ≤ 65 := by
  have h1 := suc_len (C := C) (k := k)
  have h2 := raw_len (C := C) (k := k)
  have h3 := chk_fol hK hk
  omega
def RchN (C : List In) (E : List Int) : Nat → Nat → Prop
  | 0, k => (k : Int) ∈ E
  | m + 1, k => ∃ j, RchN C E m j ∧ (k : Int) ∈ sucP C j
def Rch (C : List In) (E : List Int) (k : Nat) : Prop := ∃ m, RchN C E m k
theorem Rch.ent {C : List In} {E : List Int} {k : Nat} (h : (k : Int) ∈ E) : Rch C E k := ⟨0, h⟩
theorem Rch.step {C : List In} {E : List Int} {j k : Nat} (h : Rch C E j) (hk : (k : Int) ∈ sucP C j) : Rch C E k := by
  obtain ⟨m, hm⟩ := h
  exact ⟨m + 1, j, hm, hk⟩
theorem Rch.cases {C : List In} {E : List Int} {k : Nat} (h : Rch C E k) : (k : Int) ∈ E ∨ ∃ j, Rch C E j ∧ (k : Int) ∈ sucP C j := by
  obtain ⟨m, hm⟩ := h
  cases m with
  | zero => exact .inl hm
  | succ m => obtain ⟨j, h1, h2⟩ := hm; exact .inr ⟨j, ⟨m, h1⟩, h2⟩
theorem Rch.all {C : List In} {E : List Int} {P : Nat → Prop} (h0 : ∀ k : Nat, (k : Int) ∈ E → P k) (h1 : ∀ j k : Nat, P j → (k : Int) ∈ sucP C j → P k) : ∀ {k : Nat}, Rch C E k → P k := by
  rintro k ⟨m, hm⟩
  induction m generalizing k with
  | zero => exact h0 k hm
  | succ m ih => obtain ⟨j, h2, h3⟩ := hm; exact h1 j k (ih h2) h3
def nf (s : List Bool) : Nat → Nat
  | 0 => 0
  | n + 1 => nf s n + if qAt s n then 0 else 1
theorem nf_other (s : List Bool) (k : Nat) (hk : k < s.length) : ∀ n, n ≤ k → nf (s.set k true) n = nf s n
  | 0, _ => rfl
  | n + 1, h => by
    rw [nf, nf, nf_other s k hk n (by omega), qAt_set s k hk n, if_neg (show ¬ n = k by omega)]
theorem nf_set (s : List Bool) (k : Nat) (hk : k < s.length) (h0 : qAt s k = false) : ∀ n, k < n → nf (s.set k true) n + 1 = nf s n
  | 0, h => by omega
  | n + 1, h => by
    rw [nf, nf, qAt_set s k hk n]
    by_cases e : n = k
    · subst e
      rw [nf_other s n hk n (Nat.le_refl _), h0]
      simp
    · have ih := nf_set s k hk h0 n (by omega)
      rw [if_neg e]
      omega
theorem nf_zero {s : List Bool} : ∀ {n}, nf s n = 0 → ∀ k, k < n → qAt s k = true
  | 0, _, k, hk => by omega
  | n + 1, h, k, hk => by
    rw [nf] at h
    by_cases e : k = n
    · subst e
      cases hq : qAt s k
      · rw [hq] at h; simp at h
      · rfl
    · exact nf_zero (n := n) (by omega) k (by omega)
theorem nf_new (n : Nat) : nf (List.replicate n false) n = n := by
  have : ∀ m, nf (List.replicate n false) m = m := by
    intro m
    induction m with
    | zero => rfl
    | succ m ih => rw [nf, ih, qAt_new]; simp
  exact this n
theorem nf_le (s : List Bool) : ∀ n, nf s n ≤ n
  | 0 => Nat.le_refl _
  | n + 1 => by have := nf_le s n; rw [nf]; split <;> omega
structure ReOk (C : List In) (E : List Int) (R : List Bool) : Prop where
  len : R.length = C.length
  is : ∀ k, k < C.length → (qAt R k = true ↔ Rch C E k)
theorem ReOk.one {C : List In} {E : List Int} {R R' : List Bool} (h : ReOk C E R) (h' : ReOk C E R') : R = R' := by
  apply List.ext_getElem
  · rw [h.len, h'.len]
  · intro i h1 h2
    have e1 : qAt R i = R[i] := by simp [qAt, List.getD, h1]
    have e2 : qAt R' i = R'[i] := by simp [qAt, List.getD, h2]
    rw [← e1, ← e2, Bool.eq_iff_iff, h.is i (by rw [← h.len]; exact h1), h'.is i (by rw [← h.len]; exact h1)]
structure ReI (C : List In) (E : List Int) (F : List Bool) (W : List Int) : Prop where
  len : F.length = C.length
  stn : Stn C.length W
  snd : ∀ k, k < C.length → qAt F k = true → Rch C E k
  top : ∀ y ∈ W, Rch C E y.toNat
  ent : ∀ e ∈ E, qAt F e.toNat = true ∨ e ∈ W
  cls : ∀ k, k < C.length → qAt F k = true → ∀ y ∈ sucP C k, qAt F y.toNat = true ∨ y ∈ W
theorem ReI.new {enc : Bool} {C : List In} {E : List Int} (hK : Chk enc C E) : ReI C E (List.replicate C.length false) E := by
  have hE : ∀ e ∈ E, 0 ≤ e ∧ e < (C.length : Int) := fun e he => by
    obtain ⟨i, hi, rfl⟩ := List.mem_iff_getElem.1 he
    have := hK.ent i hi
    simpa [List.getD, hi] using this
  refine ⟨by simp, hE, fun k _ h => ?_, fun y hy => Rch.ent (by rw [Int.toNat_of_nonneg (hE y hy).1]; exact hy), fun e he => .inr he, fun k _ h => ?_⟩
  · rw [qAt_new] at h; cases h
  · rw [qAt_new] at h; cases h
theorem ReI.fin {enc : Bool} {C : List In} {E : List Int} {F : List Bool} (hK : Chk enc C E) (h : ReI C E F []) : ReOk C E F := by
  refine ⟨h.len, fun k hk => ⟨h.snd k hk, fun hr => ?_⟩⟩
  have h1 : ∀ {k : Nat}, Rch C E k → k < C.length ∧ qAt F k = true := by
    refine Rch.all (P := fun k => k < C.length ∧ qAt F k = true) ?_ ?_
    · intro k hk
      obtain ⟨i, hi, e⟩ := List.mem_iff_getElem.1 hk
      have h2 := hK.ent i hi
      have e2 : E.getD i 0 = (k : Int) := by simp [List.getD, hi, e]
      rw [e2] at h2
      rcases h.ent _ hk with h3 | h3
      · rw [Int.toNat_natCast] at h3; exact ⟨by omega, h3⟩
      · cases h3
    · intro j k hj hk
      have h2 := suc_stn hK hj.1 _ hk
      rcases h.cls j hj.1 hj.2 _ hk with h3 | h3
      · rw [Int.toNat_natCast] at h3; exact ⟨by omega, h3⟩
      · cases h3
  exact (h1 hr).2
theorem ReI.full {C : List In} {E : List Int} {F : List Bool} (hl : F.length = C.length) (hs : ∀ k, k < C.length → qAt F k = true → Rch C E k) (h0 : nf F C.length = 0) : ReOk C E F :=
  ⟨hl, fun k hk => ⟨hs k hk, fun _ => nf_zero h0 k hk⟩⟩
theorem take_last {W : List Int} {m : Nat} (hm : W.length = m + 1) : W = W.take m ++ [hAt W m] := by
  have h1 : W.drop m = [hAt W m] := by
    apply List.ext_getElem
    · simp; omega
    · intro i h1 h2
      have : i = 0 := by simp at h2; omega
      subst this
      simp [hAt, List.getD, show m < W.length by omega]
  have := List.take_append_drop m W
  rw [h1] at this
  exact this.symm
theorem ReI.skip {C : List In} {E : List Int} {F : List Bool} {W : List Int} {a : Nat} (h : ReI C E F (W ++ [(a : Int)])) (hf : qAt F a = true) : ReI C E F W := by
  have hm : ∀ y ∈ W, y ∈ W ++ [(a : Int)] := fun y hy => List.mem_append_left _ hy
  refine ⟨h.len, fun y hy => h.stn y (hm y hy), h.snd, fun y hy => h.top y (hm y hy), fun e he => ?_, fun k hk hq y hy => ?_⟩
  · rcases h.ent e he with h1 | h1
    · exact .inl h1
    · rcases List.mem_append.1 h1 with h2 | h2
      · exact .inr h2
      · rw [List.mem_singleton.1 h2, Int.toNat_natCast]; exact .inl hf
  · rcases h.cls k hk hq y hy with h1 | h1
    · exact .inl h1
    · rcases List.mem_append.1 h1 with h2 | h2
      · exact .inr h2
      · rw [List.mem_singleton.1 h2, Int.toNat_natCast]; exact .inl hf
theorem ReI.find {enc : Bool} {C : List In} {E : List Int} {F : List Bool} {W W' : List Int} {a : Nat} (hK : Chk enc C E) (h : ReI C E F (W ++ [(a : Int)])) (hw : ∀ y, y ∈ W' ↔ y ∈ W ∨ y ∈ sucP C a) : ReI C E (F.set a true) W' := by
  have ha := h.stn a (List.mem_append_right _ (List.mem_singleton.2 rfl))
  have han : a < C.length := by omega
  have hal : a < F.length := by rw [h.len]; exact han
  have hra : Rch C E a := by
    have := h.top a (List.mem_append_right _ (List.mem_singleton.2 rfl))
    rwa [Int.toNat_natCast] at this
  have hs := suc_stn hK han
  have hq : ∀ j, qAt (F.set a true) j = true ↔ j = a ∨ qAt F j = true := fun j => by
    rw [qAt_set F a hal j]
    by_cases e : j = a
    · simp [e]
    · simp [e]
  refine ⟨by simp [h.len], fun y hy => ?_, fun k hk hk2 => ?_, fun y hy => ?_, fun e he => ?_, fun k hk hk2 y hy => ?_⟩
  · rcases (hw y).1 hy with h1 | h1
    · exact h.stn y (List.mem_append_left _ h1)
    · exact hs y h1
  · rcases (hq k).1 hk2 with rfl | h1
    · exact hra
    · exact h.snd k hk h1
  · rcases (hw y).1 hy with h1 | h1
    · exact h.top y (List.mem_append_left _ h1)
    · exact hra.step (by rw [Int.toNat_of_nonneg (hs y h1).1]; exact h1)
  · rcases h.ent e he with h1 | h1
    · exact .inl ((hq _).2 (.inr h1))
    · rcases List.mem_append.1 h1 with h2 | h2
      · exact .inr ((hw e).2 (.inl h2))
      · rw [List.mem_singleton.1 h2, Int.toNat_natCast]; exact .inl ((hq _).2 (.inl rfl))
  · rcases (hq k).1 hk2 with rfl | h1
    · exact .inr ((hw y).2 (.inr hy))
    · rcases h.cls k hk h1 y hy with h2 | h2
      · exact .inl ((hq _).2 (.inr h2))
      · rcases List.mem_append.1 h2 with h3 | h3
        · exact .inr ((hw y).2 (.inl h3))
        · rw [List.mem_singleton.1 h3, Int.toNat_natCast]; exact .inl ((hq _).2 (.inl rfl))
structure BgOk (C : List In) (E : List Int) (R G : List Bool) : Prop where
  len : G.length = C.length
  is : ∀ k, k < C.length → (qAt G k = true ↔ (k : Int) ∈ E ∨ ∃ i, i < C.length ∧ qAt R i = true ∧ (k : Int) ∈ sucP C i ∧ (k ≠ i + 1 ∨ 1 < (sucP C i).length))
def blF (G : List Bool) : Nat → List Int
  | 0 => []
  | n + 1 => blF G n ++ if qAt G n then [(n : Int)] else []
theorem bl_len (G : List Bool) : ∀ n, (blF G n).length ≤ n
  | 0 => Nat.le_refl _
  | n + 1 => by
    have := bl_len G n
    rw [blF, List.length_append]
    split <;> simp <;> omega
theorem nodup_len' : ∀ (n : Nat) (l : List Nat), l.Nodup → (∀ x ∈ l, x < n) → l.length ≤ n
  | 0, l, hd, h => by
    cases l with
    | nil => simp
    | cons x l => exact absurd (h x (by simp)) (by omega)
  | n + 1, l, hd, h => by
    have h1 := nodup_len' n (l.erase n) (hd.erase n) (fun x hx => by
      have h2 := h x (List.mem_of_mem_erase hx)
      have h3 : x ≠ n := fun e => by subst e; exact (List.Nodup.mem_erase_iff hd).1 hx |>.1 rfl
      omega)
    by_cases hn : n ∈ l
    · rw [List.length_erase_of_mem hn] at h1; omega
    · rw [List.erase_of_not_mem hn] at h1; omega
theorem inj_le {n m : Nat} {f : Nat → Nat} (h : ∀ i, i < m → f i < n) (hd : ∀ i j, i < j → j < m → f i ≠ f j) : m ≤ n := by
  have h1 : ((List.range m).map f).Nodup := by
    rw [List.Nodup, List.pairwise_map]
    refine List.pairwise_iff_getElem.2 (fun i j hi hj hij => ?_)
    simp at hi hj
    simpa using hd i j hij hj
  have := nodup_len' n _ h1 (fun x hx => by
    obtain ⟨i, hi, rfl⟩ := List.mem_map.1 hx
    exact h i (List.mem_range.1 hi))
  simpa using this
def jmp (C : List In) (k : Nat) : Bool := decide ((inA C k).op = 19)
def nxJ (C : List In) (k : Nat) : Nat := (inA C k).b.toNat
def itJ (C : List In) : Nat → Nat → Nat
  | 0, k => k
  | m + 1, k => itJ C m (nxJ C k)
theorem itJ_add (C : List In) : ∀ (i j k : Nat), itJ C (i + j) k = itJ C j (itJ C i k)
  | 0, j, k => by rw [Nat.zero_add]; rfl
  | i + 1, j, k => by rw [show i + 1 + j = (i + j) + 1 by omega, itJ, itJ_add C i j, itJ]
theorem itJ_succ (C : List In) (m k : Nat) : itJ C (m + 1) k = nxJ C (itJ C m k) := by rw [itJ_add C m 1 k]; rfl
def endF (C : List In) : Nat → Nat → Option Nat
  | 0, k => if jmp C k then none else some k
  | f + 1, k => if jmp C k then endF C f (nxJ C k) else some k
def endP (C : List In) (k : Nat) : Nat := (endF C C.length k).getD k
def Lds (C : List In) (k m e : Nat) : Prop := (∀ i, i < m → jmp C (itJ C i k) = true) ∧ itJ C m k = e ∧ jmp C e = false
theorem endF_lds {C : List In} : ∀ {f k e : Nat}, endF C f k = some e → ∃ m, m ≤ f ∧ Lds C k m e
  | 0, k, e, h => by
    rw [endF] at h
    split at h
    · cases h
    · injection h with h
      subst h
      rename_i hq
      exact ⟨0, Nat.le_refl _, fun i hi => by omega, rfl, by simpa using hq⟩
  | f + 1, k, e, h => by
    rw [endF] at h
    split at h
    · rename_i hq
      obtain ⟨m, h1, h2, h3, h4⟩ := endF_lds h
      refine ⟨m + 1, by omega, fun i hi => ?_, h3, h4⟩
      cases i with
      | zero => exact hq
      | succ i => exact h2 i (by omega)
    · injection h with h
      subst h
      rename_i hq
      exact ⟨0, Nat.zero_le _, fun i hi => by omega, rfl, by simpa using hq⟩
theorem lds_endF {C : List In} : ∀ {f m k e : Nat}, m ≤ f → Lds C k m e → endF C f k = some e
  | 0, m, k, e, h, h2 => by
    have : m = 0 := by omega
    subst this
    obtain ⟨-, h3, h4⟩ := h2
    have h3 : k = e := h3
    subst h3
    rw [endF, if_neg (by rw [h4]; simp)]
  | f + 1, 0, k, e, h, h2 => by
    obtain ⟨-, h3, h4⟩ := h2
    have h3 : k = e := h3
    subst h3
    rw [endF, if_neg (by rw [h4]; simp)]
  | f + 1, m + 1, k, e, h, h2 => by
    obtain ⟨h5, h3, h4⟩ := h2
    rw [endF, if_pos (show jmp C k = true from h5 0 (by omega))]
    exact lds_endF (m := m) (by omega) ⟨fun i hi => h5 (i + 1) (by omega), h3, h4⟩
def JIn (C : List In) : Prop := ∀ k, k < C.length → jmp C k = true → nxJ C k < C.length
theorem it_in {C : List In} (hJ : JIn C) {k : Nat} (hk : k < C.length) : ∀ {m : Nat}, (∀ i, i < m → jmp C (itJ C i k) = true) → itJ C m k < C.length
  | 0, _ => hk
  | m + 1, h => by
    rw [itJ_succ]
    exact hJ _ (it_in hJ hk (fun i hi => h i (by omega))) (h m (by omega))
theorem lds_short {C : List In} (hJ : JIn C) {k m e : Nat} (hk : k < C.length) (h : Lds C k m e) : m ≤ C.length := by
  obtain ⟨h1, h2, h3⟩ := h
  refine inj_le (f := fun i => itJ C i k) (fun i hi => it_in hJ hk (fun j hj => h1 j (by omega))) (fun i j hij hj he => ?_)
  have he : itJ C i k = itJ C j k := he
  have e1 : itJ C (i + (m - j)) k = e := by
    rw [itJ_add, he, ← itJ_add, show j + (m - j) = m by omega, h2]
  have := h1 (i + (m - j)) (by omega)
  rw [e1, h3] at this
  cases this
theorem end_lds {C : List In} (hJ : JIn C) {k m e : Nat} (hk : k < C.length) (h : Lds C k m e) : endP C k = e := by
  unfold endP
  rw [lds_endF (lds_short hJ hk h) h]
  rfl
theorem end_ring {C : List In} {k : Nat} (h : ∀ m, jmp C (itJ C m k) = true) : endP C k = k := by
  unfold endP
  cases h1 : endF C C.length k with
  | none => rfl
  | some e =>
    obtain ⟨m, -, -, h2, h3⟩ := endF_lds h1
    have := h m
    rw [h2, h3] at this
    cases this
theorem end_not {C : List In} {k : Nat} (h : jmp C k = false) : endP C k = k := by
  unfold endP
  rw [lds_endF (Nat.zero_le _) (show Lds C k 0 k from ⟨fun i hi => by omega, rfl, h⟩)]
  rfl
theorem end_cases {C : List In} (hJ : JIn C) {k : Nat} (hk : k < C.length) : (∃ m, Lds C k m (endP C k)) ∨ (endP C k = k ∧ ∀ m, jmp C (itJ C m k) = true) := by
  cases h1 : endF C C.length k with
  | some e =>
    obtain ⟨m, -, h2⟩ := endF_lds h1
    rw [end_lds hJ hk h2]
    exact .inl ⟨m, h2⟩
  | none =>
    have hr : ∀ m, (∀ i, i < m → jmp C (itJ C i k) = true) ∧ jmp C (itJ C m k) = true := by
      intro m
      induction m with
      | zero =>
        refine ⟨fun i hi => by omega, ?_⟩
        cases hq : jmp C (itJ C 0 k)
        · rw [lds_endF (Nat.zero_le _) (show Lds C k 0 k from ⟨fun i hi => by omega, rfl, hq⟩)] at h1
          cases h1
        · rfl
      | succ m ih =>
        have h2 : ∀ i, i < m + 1 → jmp C (itJ C i k) = true := fun i hi => by
          by_cases e : i = m
          · subst e; exact ih.2
          · exact ih.1 i (by omega)
        refine ⟨h2, ?_⟩
        cases hq : jmp C (itJ C (m + 1) k)
        · have h3 : Lds C k (m + 1) (itJ C (m + 1) k) := ⟨h2, rfl, hq⟩
          rw [lds_endF (lds_short hJ hk h3) h3] at h1
          cases h1
        · rfl
    exact .inr ⟨end_ring (fun m => (hr m).2), fun m => (hr m).2⟩
theorem end_in {C : List In} (hJ : JIn C) {k : Nat} (hk : k < C.length) : endP C k < C.length := by
  rcases end_cases hJ hk with ⟨m, h⟩ | h
  · rw [← h.2.1]
    exact it_in hJ hk h.1
  · rw [h.1]; exact hk
theorem end_on {C : List In} (hJ : JIn C) {k : Nat} (hk : k < C.length) : ∃ m, (∀ i, i < m → jmp C (itJ C i k) = true) ∧ itJ C m k = endP C k := by
  rcases end_cases hJ hk with ⟨m, h⟩ | h
  · exact ⟨m, h.1, h.2.1⟩
  · exact ⟨0, fun i hi => by omega, by rw [h.1]; rfl⟩
theorem chk_jin {enc : Bool} {C : List In} {E : List Int} (hK : Chk enc C E) : JIn C := by
  intro k hk h
  unfold jmp at h
  have h := of_decide_eq_true h
  have h1 := chk_tgt hK hk (by unfold htP; rw [h]; rfl)
  unfold nxJ
  omega
structure EnI (C : List In) (L : List Int) : Prop where
  len : L.length = C.length
  is : ∀ k, k < C.length → hAt L k = (endP C k : Int) ∨ (hAt L k = -1 ∧ jmp C k = true)
structure Se1 (C : List In) (L : List Int) (a m : Nat) (Lc : List Int) : Prop where
  len : Lc.length = C.length
  at_ : itJ C m a < C.length
  jm : ∀ i, i < m → jmp C (itJ C i a) = true
  nd : ∀ i j, i < j → j < m → itJ C i a ≠ itJ C j a
  opn : ∀ i, i < m → hAt Lc (itJ C i a) = -2
  old : ∀ k, k < C.length → (∀ i, i < m → itJ C i a ≠ k) → hAt Lc k = hAt L k
theorem hAt_set (l : List Int) (k : Nat) (hk : k < l.length) (x : Int) (j : Nat) : hAt (l.set k x) j = if j = k then x else hAt l j := by
  unfold hAt
  by_cases h : j = k
  · subst h; simp [List.getD, hk]
  · have : k ≠ j := fun e => h e.symm
    simp [List.getD, List.getElem?_set, this, h]
theorem Se1.new {C : List In} {L : List Int} {a : Nat} (hl : L.length = C.length) (ha : a < C.length) : Se1 C L a 0 L :=
  ⟨hl, ha, fun i hi => by omega, fun i j _ hj => by omega, fun i hi => by omega, fun k _ _ => rfl⟩
theorem Se1.short {C : List In} (hJ : JIn C) {L Lc : List Int} {a m : Nat} (h : Se1 C L a m Lc) : m ≤ C.length := by
  cases m with
  | zero => omega
  | succ m =>
    have ha : a < C.length := by
      cases Nat.lt_or_ge a C.length with
      | inl h1 => exact h1
      | inr h1 =>
        have h2 := h.jm 0 (by omega)
        have e : inA C a = ⟨0, 0, 0, 0⟩ := by simp [inA, List.getD, List.getElem?_eq_none h1]
        unfold jmp at h2
        rw [show itJ C 0 a = a from rfl, e] at h2
        cases of_decide_eq_true h2
    exact inj_le (f := fun i => itJ C i a) (fun i hi => it_in hJ ha (fun j hj => h.jm j (by omega))) h.nd
theorem Se1.step {C : List In} (hJ : JIn C) {L Lc : List Int} {a m : Nat} (hE : EnI C L) (h : Se1 C L a m Lc) (hu : hAt Lc (itJ C m a) = -1) : jmp C (itJ C m a) = true ∧ Se1 C L a (m + 1) (Lc.set (itJ C m a) (-2)) := by
  have hn : ∀ i, i < m → itJ C i a ≠ itJ C m a := fun i hi e => by
    have := h.opn i hi
    rw [e, hu] at this
    cases this
  have hj : jmp C (itJ C m a) = true := by
    have h1 := h.old _ h.at_ hn
    rw [hu] at h1
    rcases hE.is _ h.at_ with h2 | h2
    · omega
    · exact h2.2
  have hjm : ∀ i, i < m + 1 → jmp C (itJ C i a) = true := fun i hi => by
    by_cases e : i = m
    · subst e; exact hj
    · exact h.jm i (by omega)
  refine ⟨hj, by simp [h.len], ?_, hjm, fun i j hij hjm => ?_, fun i hi => ?_, fun k hk hk2 => ?_⟩
  · rw [itJ_succ]
    exact hJ _ h.at_ hj
  · by_cases e : j = m
    · subst e; exact hn i hij
    · exact h.nd i j hij (by omega)
  · rw [hAt_set _ _ (by rw [h.len]; exact h.at_)]
    by_cases e : i = m
    · subst e; rw [if_pos rfl]
    · rw [if_neg (hn i (by omega)), h.opn i (by omega)]
  · rw [hAt_set _ _ (by rw [h.len]; exact h.at_), if_neg (fun e => hk2 m (by omega) e.symm)]
    exact h.old k hk (fun i hi => hk2 i (by omega))
def seV (C : List In) (en : Int) (k : Nat) : Int := if en = -2 ∨ jmp C en.toNat = true then (k : Int) else en
structure Se2 (C : List In) (L : List Int) (a m m' : Nat) (en : Int) (Lc : List Int) : Prop where
  len : Lc.length = C.length
  new : ∀ i, m' ≤ i → i < m → hAt Lc (itJ C i a) = seV C en (itJ C i a)
  old : ∀ k, k < C.length → (∀ i, i < m → itJ C i a ≠ k) → hAt Lc k = hAt L k
theorem Se2.new0 {C : List In} {L Lc : List Int} {a m : Nat} (h : Se1 C L a m Lc) (en : Int) : Se2 C L a m m en Lc := ⟨h.len, fun i h1 h2 => by omega, h.old⟩
theorem Se2.step {C : List In} {L Lc : List Int} {a m m' : Nat} {en : Int} (h : Se2 C L a m (m' + 1) en Lc) (hm : m' < m) (hk : itJ C m' a < C.length) : Se2 C L a m m' en (Lc.set (itJ C m' a) (seV C en (itJ C m' a))) := by
  have hl : itJ C m' a < Lc.length := by rw [h.len]; exact hk
  refine ⟨by simp [h.len], fun i h1 h2 => ?_, fun k hk hk2 => ?_⟩
  · rw [hAt_set _ _ hl]
    by_cases e : itJ C i a = itJ C m' a
    · rw [if_pos e, e]
    · rw [if_neg e]
      exact h.new i (by cases Nat.lt_or_ge m' i with | inl h => exact h | inr h3 => exact absurd (by rw [show i = m' by omega]) e) h2
  · rw [hAt_set _ _ hl, if_neg (fun e => hk2 m' hm e.symm)]
    exact h.old k hk hk2
structure SeTo (C : List In) (L : List Int) (a : Nat) (L' : List Int) : Prop where
  ok : EnI C L'
  at_ : hAt L' a = (endP C a : Int)
  keep : ∀ k, k < C.length → hAt L k = (endP C k : Int) → hAt L' k = (endP C k : Int)
theorem Se2.fin {C : List In} (hJ : JIn C) {L L1 L' : List Int} {a m : Nat} {en : Int} (ha : a < C.length) (hE : EnI C L) (h1 : Se1 C L a m L1) (hen : hAt L1 (itJ C m a) = en) (h0 : en ≠ -1) (h : Se2 C L a m 0 en L') : SeTo C L a L' := by
  -- each of those that were open gets its end
  have key : ∀ j, j < m → seV C en (itJ C j a) = (endP C (itJ C j a) : Int) := by
    intro j hj
    by_cases hr : ∃ i, i < m ∧ itJ C i a = itJ C m a
    · obtain ⟨i, hi, he⟩ := hr
      have e2 : en = -2 := by rw [← hen, ← he]; exact h1.opn i hi
      have hin : ∀ t, ∃ i, i < m ∧ itJ C t a = itJ C i a := by
        intro t
        induction t with
        | zero => exact ⟨0, by omega, rfl⟩
        | succ t ih =>
          obtain ⟨i', h2, h3⟩ := ih
          have h4 : itJ C (t + 1) a = itJ C (i' + 1) a := by rw [itJ_succ, h3, ← itJ_succ]
          by_cases e : i' + 1 = m
          · exact ⟨i, hi, by rw [h4, e, he]⟩
          · exact ⟨i' + 1, by omega, h4⟩
      have hring : endP C (itJ C j a) = itJ C j a := end_ring (fun t => by
        rw [← itJ_add]
        obtain ⟨i', h2, h3⟩ := hin (j + t)
        rw [h3]
        exact h1.jm i' h2)
      unfold seV
      rw [if_pos (.inl e2), hring]
    · have hk := h1.old _ h1.at_ (fun i hi e => hr ⟨i, hi, e⟩)
      rw [hen] at hk
      have hend : en = (endP C (itJ C m a) : Int) := by
        rcases hE.is _ h1.at_ with h2 | h2
        · rw [hk]; exact h2
        · exact absurd (by rw [hk]; exact h2.1) h0
      have hjin : itJ C j a < C.length := it_in hJ ha (fun i hi => h1.jm i (by omega))
      rcases end_cases hJ h1.at_ with ⟨t, h2⟩ | ⟨h2, h3⟩
      · have h4 : Lds C (itJ C j a) ((m - j) + t) (endP C (itJ C m a)) := by
          refine ⟨fun i hi => ?_, ?_, h2.2.2⟩
          · rw [← itJ_add]
            by_cases e : j + i < m
            · exact h1.jm _ e
            · have := h2.1 (j + i - m) (by omega)
              rw [← itJ_add, show m + (j + i - m) = j + i by omega] at this
              exact this
          · rw [← itJ_add, show j + (m - j + t) = m + t by omega, itJ_add, h2.2.1]
        rw [end_lds hJ hjin h4]
        unfold seV
        rw [if_neg, hend]
        rw [hend, Int.toNat_natCast, h2.2.2]
        simp
      · have hring : endP C (itJ C j a) = itJ C j a := end_ring (fun t => by
          rw [← itJ_add]
          by_cases e : j + t < m
          · exact h1.jm _ e
          · have := h3 (j + t - m)
            rw [← itJ_add, show m + (j + t - m) = j + t by omega] at this
            exact this)
        unfold seV
        rw [if_pos, hring]
        rw [hend, Int.toNat_natCast, h2]
        exact .inr (h3 0)
  have hk : ∀ k, k < C.length → (∃ j, j < m ∧ itJ C j a = k ∧ hAt L' k = (endP C k : Int)) ∨ ((∀ i, i < m → itJ C i a ≠ k) ∧ hAt L' k = hAt L k) := by
    intro k hk
    by_cases hr : ∃ i, i < m ∧ itJ C i a = k
    · obtain ⟨i, hi, rfl⟩ := hr
      exact .inl ⟨i, hi, rfl, by rw [h.new i (Nat.zero_le _) hi, key i hi]⟩
    · have h2 : ∀ i, i < m → itJ C i a ≠ k := fun i hi e => hr ⟨i, hi, e⟩
      exact .inr ⟨h2, h.old k hk h2⟩
  refine ⟨⟨h.len, fun k hkn => ?_⟩, ?_, fun k hkn hke => ?_⟩
  · rcases hk k hkn with ⟨-, -, -, h2⟩ | ⟨-, h2⟩
    · exact .inl h2
    · rw [h2]; exact hE.is k hkn
  · rcases hk a ha with ⟨-, -, -, h2⟩ | ⟨h3, h2⟩
    · exact h2
    · have hm0 : m = 0 := by
        cases m with
        | zero => rfl
        | succ m => exact absurd rfl (h3 0 (by omega))
      subst hm0
      rw [h2]
      have h4 := h1.old a ha (fun i hi => by omega)
      rcases hE.is a ha with h5 | h5
      · exact h5
      · exact absurd (by rw [← hen, show itJ C 0 a = a from rfl, h4]; exact h5.1) h0
  · rcases hk k hkn with ⟨-, -, -, h2⟩ | ⟨-, h2⟩
    · exact h2
    · rw [h2]; exact hke
theorem EnI.at_in {C : List In} (hJ : JIn C) {L : List Int} (h : EnI C L) {k : Nat} (hk : k < C.length) : hAt L k = -1 ∨ (0 ≤ hAt L k ∧ hAt L k < (C.length : Int)) := by
  rcases h.is k hk with h1 | h1
  · have := end_in hJ hk
    omega
  · exact .inl h1.1
def thI (C : List In) (x : In) : In := if htP x.op = true then ⟨x.op, x.a, (endP C x.b.toNat : Int), x.c⟩ else x
def thC (C : List In) : List In := C.map (thI C)
def thE (C : List In) (E : List Int) : List Int := E.map fun e => (endP C e.toNat : Int)
theorem thC_len (C : List In) : (thC C).length = C.length := by simp [thC]
theorem thC_at {C : List In} {k : Nat} (hk : k < C.length) : inA (thC C) k = thI C (inA C k) := by
  simp [inA, thC, List.getD, hk]
end Go.Proofs.YtjamfbpdepahnaaGreat
