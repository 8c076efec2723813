/- Plain: what extents are, and how they grow. -/
import Derived.Test.YtncndgfaalojpaaZo
namespace Go.Proofs.Ytncndgfaalojpaa
set_option linter.unusedVariables false

theorem plus2_eq (a b : Int) : plus2 a b = capH (sz a + sz b) := by unfold plus2; simp [tot]
theorem sz_mono {a b : Int} (h : a ≤ b) : sz a ≤ sz b := by
  unfold sz
  repeat' split
  all_goals omega
theorem capH_mono {a b : Int} (h : a ≤ b) : capH a ≤ capH b := by
  unfold capH
  repeat' split
  all_goals omega
theorem sz_id {a : Int} (h0 : 0 ≤ a) (h1 : a ≤ 4611686018427387904) : sz a = a := by
  unfold sz
  rw [if_neg (by omega), if_pos h1]
theorem plus2_mono {a b c d : Int} (h : a ≤ c) (k : b ≤ d) : plus2 a b ≤ plus2 c d := by
  rw [plus2_eq, plus2_eq]
  exact capH_mono (Int.add_le_add (sz_mono h) (sz_mono k))
theorem times2_mono {a b c d : Int} (h : a ≤ c) (k : b ≤ d) : times2 a b ≤ times2 c d := by
  unfold times2
  exact capH_mono (Int.mul_le_mul (sz_mono h) (sz_mono k) (sz_bd b).1 (sz_bd c).1)
theorem times2_bd (a b : Int) : 0 ≤ times2 a b ∧ times2 a b ≤ 4611686018427387904 := by
  have := Int.mul_nonneg (sz_bd a).1 (sz_bd b).1
  unfold times2 capH
  split <;> omega
theorem plus2_l {a : Int} (b : Int) (h0 : 0 ≤ a) (h1 : a ≤ 4611686018427387904) : a ≤ plus2 a b := by
  have := (sz_bd b).1
  rw [plus2_eq, sz_id h0 h1]
  unfold capH
  split <;> omega
theorem plus2_r {a : Int} (b : Int) (h0 : 0 ≤ a) (h1 : a ≤ 4611686018427387904) : a ≤ plus2 b a := by
  have := (sz_bd b).1
  rw [plus2_eq, sz_id h0 h1]
  unfold capH
  split <;> omega
/-- What an extent is. -/
structure XOk (x : Ex) : Prop where
  l0 : 0 ≤ x.l
  lm : x.l ≤ x.m
  mh : x.m ≤ 4611686018427387904
  d0 : 0 ≤ x.d
  fx : x.f = true → x.l = x.m
theorem XOk.zero : XOk ex0 := ⟨by decide, by decide, by decide, by decide, fun _ => rfl⟩
theorem XOk.at {X : List Ex} (h : ∀ x ∈ X, XOk x) (i : Int) : XOk (exAt X i) := by
  unfold exAt
  rcases Nat.lt_or_ge i.toNat X.length with hi | hi
  · rw [show X.getD i.toNat ex0 = X[i.toNat]'hi by simp [List.getD, hi]]
    exact h _ (List.getElem_mem hi)
  · rw [show X.getD i.toNat ex0 = ex0 by simp [List.getD, List.getElem?_eq_none hi]]
    exact XOk.zero
theorem XOk.off {x : Ex} (h : XOk x) : XOk (offX x) := by
  unfold offX
  split
  · exact h
  · exact ⟨(plus2_bd 4 x.l).1, plus2_mono (Int.le_refl 4) h.lm, (plus2_bd 4 x.m).2, h.d0, fun e => absurd e (by assumption)⟩
theorem off_m {x : Ex} (h : XOk x) : x.m ≤ (offX x).m := by
  unfold offX
  split
  · exact Int.le_refl _
  · exact plus2_r 4 (Int.le_trans h.l0 h.lm) h.mh
theorem off_f (x : Ex) : (offX x).f = x.f := by
  unfold offX
  split <;> rfl
theorem rowX_snoc (l : List Ex) (x : Ex) : rowX (l ++ [x]) = ((rowX l).1 && (offX x).f, plus2 (rowX l).2.1 (offX x).l, plus2 (rowX l).2.2 (offX x).m) := by simp [rowX]
theorem chX_snoc (l : List Ex) (x : Ex) : chX (l ++ [x]) = (min (chX l).1 x.l, max (chX l).2 x.m) := by simp [chX]
theorem deepX_snoc (l : List Ex) (x : Ex) : deepX (l ++ [x]) = max (deepX l) x.d := by simp [deepX]
theorem rowX_ok (l : List Ex) : (∀ x ∈ l, XOk x) → 0 ≤ (rowX l).2.1 ∧ (rowX l).2.1 ≤ (rowX l).2.2 ∧ (rowX l).2.2 ≤ 4611686018427387904 ∧ ((rowX l).1 = true → (rowX l).2.1 = (rowX l).2.2) := by
  refine snoc_ind (P := fun l => (∀ x ∈ l, XOk x) → 0 ≤ (rowX l).2.1 ∧ (rowX l).2.1 ≤ (rowX l).2.2 ∧ (rowX l).2.2 ≤ 4611686018427387904 ∧ ((rowX l).1 = true → (rowX l).2.1 = (rowX l).2.2)) (fun _ => by simp [rowX]) (fun l x ih h => ?_) l
  have h1 := ih (fun y hy => h y (by simp [hy]))
  have hx := (h x (by simp)).off
  rw [rowX_snoc]
  refine ⟨(plus2_bd _ _).1, plus2_mono h1.2.1 hx.lm, (plus2_bd _ _).2, fun hf => ?_⟩
  simp only [Bool.and_eq_true] at hf
  simp only
  rw [h1.2.2.2 hf.1, hx.fx hf.2]
theorem chX_ok (l : List Ex) : (∀ x ∈ l, XOk x) → 0 ≤ (chX l).1 ∧ (chX l).1 ≤ 4611686018427387904 ∧ 0 ≤ (chX l).2 ∧ (chX l).2 ≤ 4611686018427387904 ∧ (l ≠ [] → (chX l).1 ≤ (chX l).2) := by
  refine snoc_ind (P := fun l => (∀ x ∈ l, XOk x) → 0 ≤ (chX l).1 ∧ (chX l).1 ≤ 4611686018427387904 ∧ 0 ≤ (chX l).2 ∧ (chX l).2 ≤ 4611686018427387904 ∧ (l ≠ [] → (chX l).1 ≤ (chX l).2)) (fun _ => by simp [chX]) (fun l x ih h => ?_) l
  have h1 := ih (fun y hy => h y (by simp [hy]))
  have hx := h x (by simp)
  have := hx.l0; have := hx.lm; have := hx.mh
  rw [chX_snoc]
  simp only
  refine ⟨by omega, by omega, by omega, by omega, fun _ => by omega⟩
theorem deepX_nn (l : List Ex) : 0 ≤ deepX l := by
  refine snoc_ind (P := fun l => 0 ≤ deepX l) (by simp [deepX]) (fun l x ih => ?_) l
  rw [deepX_snoc]
  omega
theorem deepX_ge (l : List Ex) : ∀ x ∈ l, x.d ≤ deepX l := by
  refine snoc_ind (P := fun l => ∀ x ∈ l, x.d ≤ deepX l) (fun x hx => by cases hx) (fun l y ih x hx => ?_) l
  rw [deepX_snoc]
  rcases List.mem_append.1 hx with hx | hx
  · have := ih x hx; omega
  · simp at hx; subst hx; omega
theorem chX_ge (l : List Ex) : ∀ x ∈ l, (chX l).1 ≤ x.l ∧ x.m ≤ (chX l).2 := by
  refine snoc_ind (P := fun l => ∀ x ∈ l, (chX l).1 ≤ x.l ∧ x.m ≤ (chX l).2) (fun x hx => by cases hx) (fun l y ih x hx => ?_) l
  rw [chX_snoc]
  simp only
  rcases List.mem_append.1 hx with hx | hx
  · have := ih x hx; omega
  · simp at hx; subst hx; omega
theorem rowX_ge (l : List Ex) : (∀ x ∈ l, XOk x) → ∀ x ∈ l, x.m ≤ (rowX l).2.2 ∧ ((rowX l).1 = true → x.f = true) := by
  refine snoc_ind (P := fun l => (∀ x ∈ l, XOk x) → ∀ x ∈ l, x.m ≤ (rowX l).2.2 ∧ ((rowX l).1 = true → x.f = true)) (fun _ x hx => by cases hx) (fun l y ih h x hx => ?_) l
  have hl : ∀ x ∈ l, XOk x := fun z hz => h z (by simp [hz])
  have h1 := rowX_ok l hl
  rw [rowX_snoc]
  simp only
  rcases List.mem_append.1 hx with hx | hx
  · have h2 := ih hl x hx
    have h3 := plus2_l (offX y).m (a := (rowX l).2.2) (by omega) h1.2.2.1
    exact ⟨by omega, fun hf => h2.2 (by simp only [Bool.and_eq_true] at hf; exact hf.1)⟩
  · simp at hx
    subst hx
    have hx := h x (by simp)
    have h3 := plus2_r (rowX l).2.2 (Int.le_trans hx.off.l0 hx.off.lm) hx.off.mh
    have h4 := off_m hx
    exact ⟨by omega, fun hf => by simp only [Bool.and_eq_true] at hf; rw [← off_f]; exact hf.2⟩
theorem kidL_ok {X : List Ex} (h : ∀ x ∈ X, XOk x) (k el : Int) (ps : List Pt) : ∀ x ∈ kidL X k el ps, XOk x := fun x hx => by
  unfold kidL at hx
  rcases List.mem_append.1 hx with hx | hx
  · split at hx
    · simp at hx; subst hx; exact XOk.at h el
    · cases hx
  · simp only [List.mem_map] at hx
    obtain ⟨p, _, rfl⟩ := hx
    exact XOk.at h p.ty
theorem tyOk_pos {t : Ty} {i : Int} (h : tyOk t i = true) (hk : t.k = 7 ∨ t.k = 8) : 0 < t.ps.length := by
  have h1 := (tyOk_parts h).2.2
  have key : ∀ r, allP r t.ps i = true → 0 < t.ps.length := fun r hr => by
    unfold allP at hr
    rw [Bool.and_eq_true, decide_eq_true_eq] at hr
    exact hr.1.1
  unfold partsOk at h1
  split at h1
  · exact key _ h1
  · rw [if_pos (by omega)] at h1
    exact key _ h1
theorem tyOk_none {t : Ty} {i : Int} (h : tyOk t i = true) (hk : t.k ≠ 7) (hk8 : t.k ≠ 8) : t.ps = [] := by
  have h1 := (tyOk_parts h).2.2
  unfold partsOk at h1
  rw [if_neg hk8, if_neg hk] at h1
  exact List.eq_nil_of_length_eq_zero (of_decide_eq_true h1)
theorem nOk_n {t : Ty} {i : Int} (h : tyOk t i = true) : (t.k = 1 ∧ 0 ≤ t.n ∧ t.n ≤ 8) ∨ ((t.k = 4 ∨ t.k = 5) ∧ 1 ≤ t.n ∧ t.n ≤ 1048576) ∨ ((t.k = 2 ∨ t.k = 3 ∨ t.k = 6 ∨ t.k = 7 ∨ t.k = 8) ∧ t.n = 0) := by
  have h1 := of_decide_eq_true (tyOk_parts h).1
  omega
theorem ext1_ok {X : List Ex} {t : Ty} {i : Int} (h : ∀ x ∈ X, XOk x) (ht : tyOk t i = true) : XOk (ext1 X t) ∧ 1 ≤ (ext1 X t).d := by
  have hn := nOk_n ht
  have hd := deepX_nn (kidL X t.k t.e t.ps)
  have hK := kidL_ok h t.k t.e t.ps
  have hE := (XOk.at h t.e).off
  refine ⟨?_, by rw [ext1_d]; omega⟩
  unfold ext1
  split
  · exact ⟨by simp only; omega, Int.le_refl _, by simp only; omega, by simp only; omega, fun _ => rfl⟩
  split
  · exact ⟨by simp only; omega, Int.le_refl _, by simp only; omega, by simp only; omega, fun _ => rfl⟩
  split
  · exact ⟨by simp only; omega, by simp only; omega, by simp only; omega, by simp only; omega, fun e => by cases e⟩
  split
  · refine ⟨(times2_bd _ _).1, times2_mono (Int.le_refl _) hE.lm, (times2_bd _ _).2, by simp only; omega, fun e => ?_⟩
    simp only at e ⊢
    rw [hE.fx e]
  split
  · refine ⟨(times2_bd _ _).1, ?_, (times2_bd _ _).2, by simp only; omega, fun e => by cases e⟩
    exact times2_mono (by omega) hE.lm
  split
  · have hK6 : ∀ x ∈ kidL X t.k t.e t.ps ++ [ex0], XOk x := fun x hx => by
      rcases List.mem_append.1 hx with hx | hx
      · exact hK x hx
      · simp at hx; subst hx; exact XOk.zero
    have hc := chX_ok _ hK6
    exact ⟨(plus2_bd _ _).1, plus2_mono (Int.le_refl 1) (hc.2.2.2.2 (by simp)), (plus2_bd _ _).2, by simp only; omega, fun e => by cases e⟩
  split
  · have hc := chX_ok _ hK
    have hp := tyOk_pos ht (by omega)
    have hne : kidL X t.k t.e t.ps ≠ [] := fun e => by
      have : (kidL X t.k t.e t.ps).length = 0 := by rw [e]; rfl
      unfold kidL at this
      rw [List.length_append, List.length_map] at this
      omega
    exact ⟨(plus2_bd _ _).1, plus2_mono (Int.le_refl 1) (hc.2.2.2.2 hne), (plus2_bd _ _).2, by simp only; omega, fun e => by cases e⟩
  · have hr := rowX_ok _ hK
    exact ⟨hr.1, hr.2.1, hr.2.2.1, by simp only; omega, hr.2.2.2⟩
/-- All extents of a right schema. -/
theorem extL_ok {T : List Ty} {R : List Rt} (hS : OkS T R) : ∀ m, m ≤ T.length → ∀ x ∈ extL (T.take m), XOk x ∧ 1 ≤ x.d
  | 0, _ => fun x hx => by simp [extL] at hx
  | m + 1, hm => fun x hx => by
    rw [List.take_succ_eq_append_getElem (by omega : m < T.length), extL_snoc] at hx
    have ih := extL_ok hS m (by omega)
    rcases List.mem_append.1 hx with hx | hx
    · exact ih x hx
    · simp only [List.mem_singleton] at hx
      subst hx
      have ht := hS.ty m (by omega)
      rw [show T.getD m ty0 = T[m]'(by omega) by simp [List.getD, (by omega : m < T.length)]] at ht
      exact ext1_ok (fun y hy => (ih y hy).1) ht
theorem extL_at {T : List Ty} {i : Nat} {t : Ty} (h : T[i]? = some t) : (extL T)[i]? = some (ext1 (extL (T.take i)) t) := by
  have hi := (List.getElem?_eq_some_iff.1 h).1
  have e : extL (T.take (i + 1)) = extL (T.take i) ++ [ext1 (extL (T.take i)) t] := by rw [List.take_succ_eq_append_getElem hi, (List.getElem?_eq_some_iff.1 h).2, extL_snoc]
  have hl : (extL (T.take i)).length = i := by rw [extL_len]; simp; omega
  have e2 := extL_take T (i + 1) hi
  have e3 : (extL T)[i]? = (extL (T.take (i + 1)))[i]? := by rw [e2, List.getElem?_take, if_pos (by omega)]
  rw [e3, e, List.getElem?_append_right (by omega), hl]
  simp
theorem exAt_take {T : List Ty} {i : Nat} {j : Int} (hi : i ≤ T.length) (h0 : 0 ≤ j) (h1 : j < i) : exAt (extL (T.take i)) j = exAt (extL T) j := by
  unfold exAt
  rw [extL_take T i hi]
  have : j.toNat < i := by omega
  simp only [List.getD, List.getElem?_take, if_pos this]
theorem exAt_ext {T : List Ty} {i : Nat} {t : Ty} (h : T[i]? = some t) : exAt (extL T) (i : Int) = ext1 (extL (T.take i)) t := by
  unfold exAt
  rw [Int.toNat_natCast]
  simp [List.getD, extL_at h]
/-- What a type's extent is beside its parts'. -/
theorem part_ext {T : List Ty} {R : List Rt} (hS : OkS T R) {i k : Nat} {t : Ty} {p : Pt} (ht : T[i]? = some t) (hp : t.ps[k]? = some p) :
    0 ≤ p.ty ∧ p.ty < i ∧ (exAt (extL T) p.ty).d < (exAt (extL T) (i : Int)).d ∧ (exAt (extL T) p.ty).m ≤ (exAt (extL T) (i : Int)).m ∧ ((exAt (extL T) (i : Int)).f = true → (exAt (extL T) p.ty).f = true) := by
  have hi := (List.getElem?_eq_some_iff.1 ht).1
  have hok := hS.ty i hi
  rw [show T.getD i ty0 = t by simp [List.getD, ht]] at hok
  obtain ⟨a0, a1⟩ := tyOk_part hok hp
  refine ⟨a0, a1, ?_⟩
  rw [exAt_ext ht, ← exAt_take (Nat.le_of_lt hi) a0 a1]
  have hX := extL_ok hS i (Nat.le_of_lt hi)
  generalize extL (T.take i) = X at *
  have hXo : ∀ x ∈ X, XOk x := fun x hx => (hX x hx).1
  have hK := kidL_ok hXo t.k t.e t.ps
  have hm : exAt X p.ty ∈ kidL X t.k t.e t.ps := by
    unfold kidL
    exact List.mem_append.2 (.inr (List.mem_map.2 ⟨p, List.mem_of_getElem? hp, rfl⟩))
  have hd := deepX_ge _ _ hm
  have h78 : t.k = 7 ∨ t.k = 8 := by
    by_cases h7 : t.k = 7
    · exact .inl h7
    · by_cases h8 : t.k = 8
      · exact .inr h8
      · rw [tyOk_none hok h7 h8] at hp; simp at hp
  refine ⟨by rw [ext1_d]; omega, ?_⟩
  unfold ext1
  rcases h78 with h7 | h8
  · rw [if_neg (by omega), if_neg (by omega), if_neg (by omega), if_neg (by omega), if_neg (by omega), if_neg (by omega), if_pos h7]
    have hc := chX_ok _ hK
    have hg := (chX_ge _ _ hm).2
    have := plus2_r 1 hc.2.2.1 hc.2.2.2.1
    simp only
    exact ⟨by omega, fun e => by cases e⟩
  · rw [if_neg (by omega), if_neg (by omega), if_neg (by omega), if_neg (by omega), if_neg (by omega), if_neg (by omega), if_neg (by omega)]
    exact rowX_ge _ hK _ hm
/-- A greater number. -/
theorem more_n {X : List Ex} {t : Ty} {n : Int} (hk : t.k = 4 ∨ t.k = 5) (hn : t.n ≤ n) : (ext1 X t).m ≤ (ext1 X ⟨t.k, n, t.e, t.ps⟩).m ∧ (ext1 X t).l ≤ (ext1 X ⟨t.k, n, t.e, t.ps⟩).l ∧ ((ext1 X ⟨t.k, n, t.e, t.ps⟩).f = true → (ext1 X t).f = true) := by
  unfold ext1
  simp only
  rcases hk with hk | hk
  · simp only [hk]
    exact ⟨times2_mono hn (Int.le_refl _), times2_mono hn (Int.le_refl _), fun h => h⟩
  · simp only [hk]
    exact ⟨times2_mono hn (Int.le_refl _), Int.le_refl _, fun h => by cases h⟩
theorem ext1_8 {t : Ty} (X : List Ex) (hk : t.k = 8) : ext1 X t = ⟨(rowX (kidL X t.k t.e t.ps)).1, (rowX (kidL X t.k t.e t.ps)).2.1, (rowX (kidL X t.k t.e t.ps)).2.2, 1 + deepX (kidL X t.k t.e t.ps)⟩ := by
  unfold ext1
  rw [if_neg (by omega), if_neg (by omega), if_neg (by omega), if_neg (by omega), if_neg (by omega), if_neg (by omega), if_neg (by omega)]
/-- A field more. -/
theorem more_p {X : List Ex} {t : Ty} {p : Pt} (h : ∀ x ∈ X, XOk x) (hk : t.k = 8) : (ext1 X t).m ≤ (ext1 X ⟨t.k, t.n, t.e, t.ps ++ [p]⟩).m ∧ (ext1 X t).l ≤ (ext1 X ⟨t.k, t.n, t.e, t.ps ++ [p]⟩).l ∧ ((ext1 X ⟨t.k, t.n, t.e, t.ps ++ [p]⟩).f = true → (ext1 X t).f = true) := by
  have e : kidL X t.k t.e (t.ps ++ [p]) = kidL X t.k t.e t.ps ++ [exAt X p.ty] := by unfold kidL; rw [List.map_append, ← List.append_assoc]; rfl
  have hr := rowX_ok _ (kidL_ok h t.k t.e t.ps)
  rw [ext1_8 (t := ⟨t.k, t.n, t.e, t.ps ++ [p]⟩) X hk, ext1_8 X hk]
  simp only
  rw [e, rowX_snoc]
  simp only
  refine ⟨plus2_l _ (Int.le_trans hr.1 hr.2.1) hr.2.2.1, plus2_l _ hr.1 (Int.le_trans hr.2.1 hr.2.2.1), fun hf => ?_⟩
  simp only [Bool.and_eq_true] at hf
  exact hf.1
theorem set_take {α : Type} (T : List α) (k : Nat) (y : α) : (T.set k y).take k = T.take k := by
  apply List.ext_getElem?
  intro j
  rw [List.getElem?_take, List.getElem?_take]
  split
  · rw [List.getElem?_set_ne (by omega)]
  · rfl
theorem set_ext {T : List Ty} {k : Nat} (y : Ty) (h : k < T.length) : exAt (extL (T.set k y)) (k : Int) = ext1 (extL (T.take k)) y := by
  rw [exAt_ext (t := y) (by rw [List.getElem?_set_self h]), set_take]
/-- The cells of an extent in a list of the call's own. -/
theorem XOwn.at4 {w : World} {B g n cap i : Nat} {X : List Ex} (h : XOwn w B (.slice (some ⟨g, 0, none⟩) n cap) X) (hi : i < X.length) : w.cell? ⟨g, i * 4, none⟩ = some (.bool (exAt X (i : Int)).f) ∧ w.cell? ⟨g, i * 4 + 1, none⟩ = some (.int .i64 (exAt X (i : Int)).l) ∧ w.cell? ⟨g, i * 4 + 2, none⟩ = some (.int .i64 (exAt X (i : Int)).m) ∧ w.cell? ⟨g, i * 4 + 3, none⟩ = some (.int .i64 (exAt X (i : Int)).d) := by
  obtain ⟨a, c, e, -, -, hr⟩ := h.row
  injection e with e1 _ _
  subst e1
  obtain ⟨b, off, e2, -, hc⟩ := hr.open (by omega)
  injection e2 with e2
  injection e2 with e3 e4 _
  subst e3 e4
  have hx := exAt_at hi
  have h0 := hc i _ hx 0 (by decide); have h1 := hc i _ hx 1 (by decide); have h2 := hc i _ hx 2 (by decide); have h3 := hc i _ hx 3 (by decide)
  simp only [Nat.zero_add, Nat.add_zero] at h0 h1 h2 h3
  exact ⟨h0, h1, h2, h3⟩
end Go.Proofs.Ytncndgfaalojpaa
