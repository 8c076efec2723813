/- A value's text and its reading, plain: numbers, words; the text that is left at a reader's state. -/
import Derived.Test.YtlbgdgobhiokpaaDoorV
namespace Go.Proofs.YtlbgdgobhiokpaaDoor
open Go.RowKit
set_option linter.unusedVariables false
set_option linter.unusedSimpArgs false

/-! ### Numbers -/
theorem digF_fuel (f g u : Nat) (hf : u < 10 ^ (f + 1)) (hg : u < 10 ^ (g + 1)) : digF f u = digF g u := by
  rw [digF_eq f u hf, digF_eq g u hg]
theorem digs_small (n : Int) (h : 0 ≤ n ∧ n ≤ 9) : digs n = [48 + n] := by
  rw [digs, digF, if_pos (by omega)]
  congr 2
  omega
theorem digs_snoc (n d : Int) (hn : 0 < n) (hm : n ≤ 18446744073709551615) (hd : 0 ≤ d ∧ d ≤ 9) : digs (n * 10 + d) = digs n ++ [48 + d] := by
  rw [digs, digF, if_neg (by omega), show (n * 10 + d).toNat / 10 = n.toNat by omega, digF_fuel 19 20 n.toNat (by omega) (by omega), digs]
  congr 2
  omega
theorem numL_one {most c : Int} (l : List Int) {f : Bool} {n : Int} (hd : 48 ≤ c ∧ c ≤ 57) (hn : ¬ (f = false ∧ n = 0)) (h0 : 0 ≤ n) (hm : n * 10 + (c - 48) ≤ most) :
    numL most (c :: l) f n = ((numL most l false (n * 10 + (c - 48))).1, (numL most l false (n * 10 + (c - 48))).2 + 1) := by
  rw [numL, if_pos hd, if_neg]
  rintro (h | h)
  · exact hn h
  · omega
theorem numL_digF (most : Int) : ∀ (f u : Nat) (r : List Int), u < 10 ^ (f + 1) → (u : Int) ≤ most →
    numL most (digF f u ++ r) true 0 = ((numL most r false u).1, (numL most r false u).2 + (digF f u).length)
  | f, u, r, hf, hm => by
    by_cases hu : u < 10
    · have e : digF f u = [48 + (u : Int)] := by cases f <;> simp [digF, hu]
      rw [e, List.cons_append, List.nil_append, numL_one r (by omega) (by simp) (by omega) (by omega)]
      rw [show (0 : Int) * 10 + (48 + (u : Int) - 48) = u by omega]
      rfl
    · cases f with
      | zero => simp at hf; omega
      | succ f =>
        have e : digF (f + 1) u = digF f (u / 10) ++ [48 + ((u % 10 : Nat) : Int)] := by rw [digF, if_neg hu]
        have hlt : u / 10 < 10 ^ (f + 1) := by rw [Nat.div_lt_iff_lt_mul (by decide)]; rw [Nat.pow_succ] at hf; exact hf
        rw [e, List.append_assoc, numL_digF most f (u / 10) _ hlt (by omega), List.cons_append, List.nil_append, numL_one r (by omega) (by omega) (by omega) (by omega)]
        rw [show (((u / 10 : Nat) : Int)) * 10 + (48 + ((u % 10 : Nat) : Int) - 48) = u by omega]
        simp only [List.length_append, List.length_cons, List.length_nil, Prod.mk.injEq, true_and]
        omega
theorem numL_stop {most : Int} {r : List Int} {f : Bool} {n : Int} (h : ∀ c, r.head? = some c → ¬ (48 ≤ c ∧ c ≤ 57)) : numL most r f n = (n, 0) := by
  cases r with
  | nil => rfl
  | cons c r => rw [numL, if_neg (h c rfl)]
theorem numL_digs {most n : Int} {r : List Int} (h0 : 0 ≤ n) (hn : n ≤ most) (hm : most ≤ 18446744073709551615) (hr : ∀ c, r.head? = some c → ¬ (48 ≤ c ∧ c ≤ 57)) : numL most (digs n ++ r) true 0 = (n, (digs n).length) := by
  rw [digs, numL_digF most 20 n.toNat r (by omega) (by omega), numL_stop hr]
  simp
  omega
theorem numL_back {most : Int} (hm : most ≤ 18446744073709551615) : ∀ (l : List Int) (n : Int), 0 < n → n ≤ most → digs (numL most l false n).1 = digs n ++ l.take (numL most l false n).2 ∧ (numL most l false n).1 ≤ most ∧ 0 < (numL most l false n).1
  | [], n, h0, h1 => by simp [numL, h0, h1]
  | c :: l, n, h0, h1 => by
    by_cases hd : 48 ≤ c ∧ c ≤ 57
    · by_cases hs : (most - (c - 48)) / 10 < n
      · rw [numL, if_pos hd, if_pos (.inr hs)]; simp [h0, h1]
      · have e := numL_one (most := most) l (f := false) (n := n) hd (by omega) (by omega) (by omega)
        obtain ⟨i1, i2, i3⟩ := numL_back hm l (n * 10 + (c - 48)) (by omega) (by omega)
        rw [e]
        simp only
        refine ⟨?_, i2, i3⟩
        rw [i1, digs_snoc n (c - 48) h0 (by omega) (by omega), List.take_succ_cons, List.append_assoc]
        simp
        omega
    · rw [numL, if_neg hd]; simp [h0, h1]
theorem numL_back0 {most : Int} (hm : most ≤ 18446744073709551615) (hm0 : 9 ≤ most) (l : List Int) (h : 0 < (numL most l true 0).2) : l.take (numL most l true 0).2 = digs (numL most l true 0).1 ∧ 0 ≤ (numL most l true 0).1 ∧ (numL most l true 0).1 ≤ most := by
  cases l with
  | nil => simp [numL] at h
  | cons c l =>
    by_cases hd : 48 ≤ c ∧ c ≤ 57
    · have e := numL_one (most := most) l (f := true) (n := 0) hd (by simp) (by omega) (by omega)
      rw [e]
      simp only
      rw [List.take_succ_cons]
      by_cases h0 : c = 48
      · subst h0
        have e2 : numL most l false (0 * 10 + (48 - 48)) = (0, 0) := by
          cases l with
          | nil => rfl
          | cons c l => rw [numL]; split; (rw [if_pos]; rfl; exact .inl ⟨rfl, by omega⟩); rfl
        rw [e2]
        exact ⟨by rw [digs_small 0 (by omega)]; rfl, by simp; omega⟩
      · obtain ⟨i1, i2, i3⟩ := numL_back hm l (0 * 10 + (c - 48)) (by omega) (by omega)
        refine ⟨?_, by omega, i2⟩
        rw [i1, digs_small _ (by omega)]
        simp
        omega
    · rw [numL, if_neg hd] at h; simp at h
theorem digF_head : ∀ (f u : Nat), u < 10 ^ (f + 1) → ∃ c r, digF f u = c :: r ∧ 48 ≤ c ∧ c ≤ 57
  | 0, u, h => ⟨48 + (u : Int), [], rfl, by simp at h; omega⟩
  | f + 1, u, h => by
    by_cases hu : u < 10
    · exact ⟨48 + (u : Int), [], by rw [digF, if_pos hu], by omega⟩
    · obtain ⟨c, r, e, h1⟩ := digF_head f (u / 10) (by rw [Nat.div_lt_iff_lt_mul (by decide)]; rw [Nat.pow_succ] at h; exact h)
      exact ⟨c, _, by rw [digF, if_neg hu, e, List.cons_append], h1⟩
theorem digs_head (n : Int) (h : n ≤ 18446744073709551615) : ∃ c r, digs n = c :: r ∧ 48 ≤ c ∧ c ≤ 57 := digF_head 20 n.toNat (by omega)
theorem digF_bytes : ∀ (f u : Nat), u < 10 ^ (f + 1) → ∀ c ∈ digF f u, 48 ≤ c ∧ c ≤ 57
  | 0, u, h, c, hc => by simp [digF] at hc; simp at h; omega
  | f + 1, u, h, c, hc => by
    rw [digF] at hc
    split at hc
    · simp at hc; omega
    · rcases List.mem_append.1 hc with hc | hc
      · exact digF_bytes f (u / 10) (by rw [Nat.div_lt_iff_lt_mul (by decide)]; rw [Nat.pow_succ] at h; exact h) c hc
      · simp at hc; omega

/-! ### Words -/
theorem drop_of {t : List Int} {p : Nat} {c : Int} (h : t[p]? = some c) : t.drop p = c :: t.drop (p + 1) := by
  have hp := at_lt h
  rw [List.drop_eq_getElem_cons hp]
  rw [List.getElem?_eq_getElem hp] at h
  simp at h
  rw [h]
theorem of_drop {t r : List Int} {p : Nat} {c : Int} (h : t.drop p = c :: r) : t[p]? = some c ∧ t.drop (p + 1) = r := by
  have h1 : (t.drop p)[0]? = some c := by rw [h]; rfl
  refine ⟨by simpa using h1, ?_⟩
  rw [← List.drop_drop, h]; rfl
theorem takeW_ok (t : List Int) : ∀ (r : List Int) (p : Nat), (takeW t p r).2 = true → t.drop p = r ++ t.drop (p + r.length) ∧ (takeW t p r).1 = p + r.length
  | [], p, _ => by simp [takeW]
  | c :: r, p, h => by
    unfold takeW at h ⊢
    split at h
    · rename_i hc
      obtain ⟨h1, h2⟩ := takeW_ok t r (p + 1) h
      rw [if_pos hc, drop_of hc, h1, h2, List.length_cons, show p + 1 + r.length = p + (r.length + 1) by omega]
      exact ⟨rfl, rfl⟩
    · cases h
theorem takeW_of (t : List Int) : ∀ (r s : List Int) (p : Nat), t.drop p = r ++ s → takeW t p r = (p + r.length, true)
  | [], s, p, _ => by simp [takeW]
  | c :: r, s, p, h => by
    obtain ⟨h1, h2⟩ := of_drop h
    rw [takeW, if_pos h1, takeW_of t r s (p + 1) h2, List.length_cons, show p + 1 + r.length = p + (r.length + 1) by omega]
theorem drop_append {t r s : List Int} {p : Nat} (h : t.drop p = r ++ s) : t.drop (p + r.length) = s := by
  rw [← List.drop_drop, h]; simp

/-! ### The text that is left -/
def kd (N : List Nd) (o : Nat) : Int := (N.getD o nil0).2.2
def kk (N : List Nd) (o : Nat) : Int := (N.getD o nil0).1
def nn (N : List Nd) (o : Nat) : Int := (N.getD o nil0).2.1
def kst (M N : List Nd) (O : List Nat) : Stk := O.map fun o => (kd M o - kd N o + 1, kk M o)
def cl (f k : Int) (K : Stk) (r : List Nd) : List Int := (closeM f k K).1 ++ printM r (closeM f k K).2
/-- The text that is left when N is read, O is open, M is what comes of it. -/
def Fm (M N : List Nd) (O : List Nat) (en : Bool) : List Int := match O with
  | [] => printM (M.drop N.length) []
  | o :: O => (if en = true ∧ 0 < kd M o - kd N o then [44, 32] else []) ++ cl (kd M o - kd N o) (kk M o) (kst M N O) (M.drop N.length)
theorem cl_pos {f k : Int} {K : Stk} {r : List Nd} (h : f ≠ 0) : cl f k K r = printM r ((f, k) :: K) := by
  cases K with
  | nil => simp [cl, closeM, h]
  | cons e T => obtain ⟨g, k2⟩ := e; simp [cl, closeM, h]
theorem cl_end (M N : List Nd) (O : List Nat) (k : Int) : cl 0 k (kst M N O) (M.drop N.length) = endT k ++ Fm M N O true := by
  cases O with
  | nil => simp [cl, kst, closeM, Fm]
  | cons o O => simp [kst, Fm, cl, closeM, Int.add_sub_cancel]
theorem Fm_close {M N : List Nd} {o : Nat} {O : List Nat} {en : Bool} (h : kd N o = kd M o) : Fm M N (o :: O) en = endT (kk M o) ++ Fm M N O true := by
  rw [Fm, h, Int.sub_self, if_neg (by simp), cl_end]; rfl
theorem Fm_comma {M N : List Nd} {o : Nat} {O : List Nat} (h : kd N o < kd M o) : Fm M N (o :: O) true = [44, 32] ++ Fm M N (o :: O) false := by
  rw [Fm, Fm, if_pos ⟨rfl, by omega⟩, if_neg (by simp)]; rfl
theorem kd_add {N : List Nd} {O : List Nat} (k n : Int) {j : Nat} (hO : ∀ x ∈ O, x < N.length) (hj : j < N.length) : kd (addN N O k n) j = kd N j + (if O.head? = some j then 1 else 0) ∧ kk (addN N O k n) j = kk N j ∧ nn (addN N O k n) j = nn N j := by
  unfold kd kk nn
  rw [addN_getD N O k n j hO, if_neg (by omega)]
  split <;> simp
theorem nd_add {N : List Nd} {O : List Nat} (k n : Int) (hO : ∀ x ∈ O, x < N.length) : kd (addN N O k n) N.length = 0 ∧ kk (addN N O k n) N.length = k ∧ nn (addN N O k n) N.length = n := by
  unfold kd kk nn
  rw [addN_getD N O k n _ hO, if_pos rfl]
  simp
theorem kst_add {M N : List Nd} {o : Nat} {O : List Nat} (k n : Int) (hO : ∀ x ∈ o :: O, x < N.length) (hn : o ∉ O) : kst M (addN N (o :: O) k n) O = kst M N O := by
  unfold kst
  refine List.map_congr_left fun j hj => ?_
  have hne : ¬ (some o = some j) := fun h => hn (by injection h with h; rw [h]; exact hj)
  rw [(kd_add k n hO (hO j (by simp [hj]))).1, List.head?_cons, if_neg hne, Int.add_zero]
theorem drop_nd {M : List Nd} {i : Nat} (h : i < M.length) : M.drop i = M.getD i nil0 :: M.drop (i + 1) := by
  rw [List.drop_eq_getElem_cons h, List.getD, List.getElem?_eq_getElem h]; rfl
theorem printM_cons (x : Nd) (l : List Nd) (K : Stk) : printM (x :: l) K = beginT x ++ cl x.2.2 x.1 K l := by simp [printM, cl]
theorem Fm_begin {M N : List Nd} {O : List Nat} (k n : Int) (hl : N.length < M.length) (hO : ∀ x ∈ O, x < N.length) (hn : O.Nodup) (hf : ∀ o, O.head? = some o → kd N o < kd M o) :
    Fm M N O false = beginT (M.getD N.length nil0) ++ Fm M (addN N O k n) (N.length :: O) false := by
  have hx := (nd_add k n hO).1
  cases O with
  | nil =>
    rw [Fm, Fm, drop_nd hl, printM_cons, addN_len, hx]
    simp [kst, kd, kk]
  | cons o O =>
    have h1 := hf o rfl
    have h2 : o ∉ O := (List.nodup_cons.1 hn).1
    have h3 : kst M (addN N (o :: O) k n) (o :: O) = (kd M o - kd N o, kk M o) :: kst M N O := by
      rw [← kst_add k n hO h2]
      simp only [kst, List.map_cons]
      rw [(kd_add k n hO (hO o (by simp))).1, if_pos (by simp)]
      congr 2
      omega
    rw [Fm, Fm, cl_pos (by omega), drop_nd hl, printM_cons, addN_len, hx, h3]
    simp [kd, kk]
theorem popO_suffix (N : List Nd) : ∀ (O : List Nat), popO N O <:+ O
  | [] => List.suffix_rfl
  | o :: O => by
    unfold popO
    split
    · exact (popO_suffix N O).trans (List.suffix_cons o O)
    · exact List.suffix_rfl
theorem popO_head (N : List Nd) : ∀ (O : List Nat) (o : Nat), (popO N O).head? = some o → kk N o ≠ 5
  | [], o, h => by simp [popO] at h
  | q :: O, o, h => by
    unfold popO at h
    split at h
    · exact popO_head N O o h
    · rename_i hq
      simp at h
      subst h
      exact hq
theorem popO_mem (N : List Nd) : ∀ (O : List Nat) (o : Nat), o ∈ O → o ∈ popO N O ∨ kk N o = 5
  | q :: O, o, h => by
    unfold popO
    split
    · rename_i hq
      rcases List.mem_cons.1 h with rfl | h
      · exact .inr hq
      · exact popO_mem N O o h
    · exact .inl h
theorem Fm_pop {M N : List Nd} : ∀ {O : List Nat}, O.Nodup → (∀ o ∈ O, kk N o = kk M o) → (∀ o ∈ O, o ∉ popO N O → kd N o = kd M o) → Fm M N O true = Fm M N (popO N O) true
  | [], _, _, _ => rfl
  | o :: O, hn, hk, hd => by
    obtain ⟨h1, h2⟩ := List.nodup_cons.1 hn
    by_cases h5 : kk N o = 5
    · have e : popO N (o :: O) = popO N O := by rw [popO]; exact if_pos h5
      rw [e] at hd ⊢
      have h3 : o ∉ popO N O := fun h => h1 ((popO_suffix N O).mem h)
      rw [Fm_close (hd o (by simp) h3), ← hk o (by simp), h5, ← Fm_pop h2 (fun q hq => hk q (by simp [hq])) (fun q hq h => hd q (by simp [hq]) h)]
      simp [endT]
    · have e : popO N (o :: O) = o :: O := by rw [popO]; exact if_neg h5
      rw [e]
def sm (M N : List Nd) : List Nat → Int
  | [] => 0
  | o :: O => kd M o - kd N o + sm M N O
theorem sm_pop {M N : List Nd} : ∀ {O : List Nat}, O.Nodup → (∀ o ∈ O, o ∉ popO N O → kd N o = kd M o) → sm M N (popO N O) = sm M N O
  | [], _, _ => rfl
  | o :: O, hn, hd => by
    obtain ⟨h1, h2⟩ := List.nodup_cons.1 hn
    by_cases h5 : kk N o = 5
    · have e : popO N (o :: O) = popO N O := by rw [popO]; exact if_pos h5
      rw [e] at hd ⊢
      have h3 : o ∉ popO N O := fun h => h1 ((popO_suffix N O).mem h)
      rw [sm, hd o (by simp) h3, sm_pop h2 (fun q hq h => hd q (by simp [hq]) h)]
      omega
    · have e : popO N (o :: O) = o :: O := by rw [popO]; exact if_neg h5
      rw [e]
theorem sm_congr {M N N' : List Nd} : ∀ {O : List Nat}, (∀ o ∈ O, kd N' o = kd N o) → sm M N' O = sm M N O
  | [], _ => rfl
  | o :: O, h => by rw [sm, sm, h o (by simp), sm_congr fun q hq => h q (by simp [hq])]
theorem sm_add {M N : List Nd} {O : List Nat} (k n : Int) (hO : ∀ x ∈ O, x < N.length) (hn : O.Nodup) : sm M (addN N O k n) O = sm M N O - (if O = [] then 0 else 1) := by
  cases O with
  | nil => rfl
  | cons o O =>
    have h2 : o ∉ O := (List.nodup_cons.1 hn).1
    rw [sm, sm, (kd_add k n hO (hO o (by simp))).1, if_pos (by simp), if_neg (by simp), sm_congr (N := N)]
    · omega
    · intro j hj
      have hne : ¬ (some o = some j) := fun h => h2 (by injection h with h; rw [h]; exact hj)
      rw [(kd_add k n hO (hO j (by simp [hj]))).1, List.head?_cons, if_neg hne, Int.add_zero]
theorem sm_nonneg {M N : List Nd} : ∀ {O : List Nat}, (∀ o ∈ O, kd N o ≤ kd M o) → 0 ≤ sm M N O
  | [], _ => Int.le_refl _
  | o :: O, h => by
    have h1 := h o (by simp)
    have h2 := sm_nonneg (M := M) (N := N) (O := O) fun q hq => h q (by simp [hq])
    rw [sm]; omega
/-- How many values are missing. -/
def Cn (M N : List Nd) (O : List Nat) (en : Bool) : Int := sm M N O + (if O = [] ∧ en = false then 1 else 0)
theorem chk_shift : ∀ (l : List Nd) (m a b : Int), (chk m a l).1 = (chk m b l).1
  | [], m, a, b => by unfold chk; split <;> rfl
  | x :: l, m, a, b => by
    unfold chk; split
    · rfl
    · exact chk_shift l _ _ _
theorem chk_zero : ∀ (l : List Nd) (m a : Int), (chk m a l).1 = 0 → chk m a l = (0, 0)
  | [], m, a, h => by unfold chk at h ⊢; split <;> simp_all
  | x :: l, m, a, h => by
    unfold chk at h ⊢; split
    · simp_all
    · rename_i h2
      rw [if_neg h2] at h
      exact chk_zero l _ _ h
def Ck (m : Int) (l : List Nd) : Prop := (chk m 0 l).1 = 0
theorem Ck_cons {m : Int} {x : Nd} {l : List Nd} : Ck m (x :: l) ↔ m ≠ 0 ∧ right x = true ∧ Ck (m + (x.2.2 - 1)) l := by
  unfold Ck
  rw [chk]
  by_cases h : m = 0 ∨ right x = false
  · rw [if_pos h]
    simp
    intro h1 h2
    rcases h with h | h
    · exact absurd h h1
    · rw [h] at h2; cases h2
  · rw [if_neg h, chk_shift l _ _ 0]
    simp at h
    exact ⟨fun h1 => ⟨h.1, h.2, h1⟩, fun h1 => h1.2.2⟩
theorem Ck_nil {m : Int} : Ck m [] ↔ m ≤ 0 := by
  unfold Ck; rw [chk]; split <;> simp <;> omega
end Go.Proofs.YtlbgdgobhiokpaaDoor
