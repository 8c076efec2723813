/- Raise, plain: a routine hangs on the types that it is made of alone; of fewer types a front. -/
import Derived.Test.YtncndgfaalojpaaRwp
import Derived.Test.YtncndgfaalojpaaZo
import Derived.Test.YtncndgfaalojpaaZba
namespace Go.Proofs.Ytncndgfaalojpaa
open Go.RowKit
set_option linter.unusedVariables false

theorem rowP_congr {X X' : List Ex} {ps : List Pt} (h : ∀ p ∈ ps, exAt X p.ty = exAt X' p.ty) : rowP X ps = rowP X' ps := by
  have key : ∀ (ps : List Pt) (y : Ly), (∀ p ∈ ps, exAt X p.ty = exAt X' p.ty) → ps.foldl (addF X) y = ps.foldl (addF X') y := fun ps => by
    induction ps with
    | nil => intro y _; rfl
    | cons p ps ih =>
      intro y h
      rw [List.foldl_cons, List.foldl_cons]
      have e : addF X y p = addF X' y p := by unfold addF; rw [h p (List.mem_cons_self ..)]
      rw [e]
      exact ih _ (fun q hq => h q (List.mem_cons_of_mem _ hq))
  exact key ps _ h
theorem ptA_mem {ps : List Pt} {j : Nat} (h : j < ps.length) : ptA ps j ∈ ps := by
  unfold ptA
  rw [List.getD_eq_getElem?_getD, List.getElem?_eq_getElem h]
  exact List.getElem_mem h
theorem zfB_congr {T T' : List Ty} {ps : List Pt} (l : List Sl) (h : ∀ p ∈ ps, tyA T p.ty = tyA T' p.ty) : ∀ m, m ≤ ps.length → zfB T ps l m = zfB T' ps l m
  | 0, _ => rfl
  | m + 1, hm => by
    rw [zfB_succ, zfB_succ, zfB_congr l h m (by omega)]
    unfold zfO
    rw [h _ (ptA_mem (by omega))]
theorem zrP_congr {T T' : List Ty} {X X' : List Ex} {t : Ty} {i : Nat} (b : Int) (hok : tyOk t (i : Int) = true) (h : ∀ e : Int, 0 ≤ e → e < (i : Int) → tyA T e = tyA T' e ∧ exAt X e = exAt X' e) : zrP T X t b = zrP T' X' t b := by
  have hel : hasE t.k = true → 0 ≤ t.e ∧ t.e < (i : Int) := fun hk => by
    have := (tyOk_parts hok).2.1
    unfold elemOk at this
    rw [if_pos hk] at this
    exact of_decide_eq_true this
  have hpt : ∀ p ∈ t.ps, tyA T p.ty = tyA T' p.ty ∧ exAt X p.ty = exAt X' p.ty := fun p hp => by
    obtain ⟨j, hj, rfl⟩ := List.getElem_of_mem hp
    obtain ⟨h0, h1⟩ := tyOk_part hok (List.getElem?_eq_getElem hj)
    exact h _ h0 h1
  have hrow : hasE t.k = true → zrI T X t b = zrI T' X' t b := fun hk => by
    obtain ⟨e0, e1⟩ := hel hk
    obtain ⟨a1, a2⟩ := h _ e0 e1
    unfold zrI zrF
    rw [a1, a2]
  unfold zrP
  congr 1
  unfold zbP
  by_cases h1 : t.k = 1
  · rw [if_pos h1, if_pos h1]
  rw [if_neg h1, if_neg h1]
  by_cases h2 : t.k = 2
  · rw [if_pos h2, if_pos h2]
  rw [if_neg h2, if_neg h2]
  by_cases h3 : t.k = 3
  · rw [if_pos h3, if_pos h3]
  rw [if_neg h3, if_neg h3]
  by_cases h4 : t.k = 4
  · rw [if_pos h4, if_pos h4, hrow (by unfold hasE; rw [h4]; decide)]
  rw [if_neg h4, if_neg h4]
  by_cases h5 : t.k = 5
  · rw [if_pos h5, if_pos h5, hrow (by unfold hasE; rw [h5]; decide)]
  rw [if_neg h5, if_neg h5]
  by_cases h6 : t.k = 6
  · rw [if_pos h6, if_pos h6]
  rw [if_neg h6, if_neg h6]
  by_cases h7 : t.k = 7
  · rw [if_pos h7, if_pos h7]
  rw [if_neg h7, if_neg h7]
  by_cases h8 : t.k = 8
  · rw [if_pos h8, if_pos h8]
    have hl : layP X t = layP X' t := by unfold layP; rw [if_pos h8, if_pos h8, rowP_congr (fun p hp => (hpt p hp).2)]
    rw [hl]
    unfold zfP
    rw [zfB_congr _ (fun p hp => (hpt p hp).1) _ (Nat.le_refl _)]
  rw [if_neg h8, if_neg h8]
theorem tyA_take {T : List Ty} {n : Nat} {e : Int} (h0 : 0 ≤ e) (h1 : e < (n : Int)) : tyA (T.take n) e = tyA T e := by
  unfold tyA
  rw [List.getD_eq_getElem?_getD, List.getD_eq_getElem?_getD, List.getElem?_take, if_pos (by omega)]
theorem getD_take {T : List Ty} {n j : Nat} (h : j < n) : (T.take n).getD j ty0 = T.getD j ty0 := by
  rw [List.getD_eq_getElem?_getD, List.getD_eq_getElem?_getD, List.getElem?_take, if_pos h]
theorem zC_take {T : List Ty} {R : List Rt} (hS : OkS T R) {n : Nat} (hn : n ≤ T.length) : ∀ i, i ≤ n → zC (T.take n) (extL (T.take n)) i = zC T (extL T) i
  | 0, _ => rfl
  | i + 1, hi => by
    have ih := zC_take hS hn i (by omega)
    show zC (T.take n) _ i ++ _ = zC T _ i ++ _
    rw [ih, tyA_take (by omega) (by omega)]
    have hok := hS.ty i (by omega)
    have e : tyA T (i : Int) = T.getD i ty0 := by unfold tyA; rw [Int.toNat_natCast]
    rw [e]
    rw [zrP_congr _ hok (fun e h0 h1 => ⟨tyA_take h0 (by omega), exAt_take hn h0 (by omega)⟩)]
theorem okS_cut {T : List Ty} {R : List Rt} (hS : OkS T R) {n : Nat} (hn : n ≤ T.length) : OkS (T.take n) [] := by
  have hl : (T.take n).length = n := by rw [List.length_take]; omega
  refine ⟨fun j hj => ?_, fun j hj => ?_, fun j hj => (by cases hj)⟩
  · rw [hl] at hj
    rw [getD_take hj]
    exact hS.ty j (by omega)
  · rw [hl] at hj
    rw [depL_take T hj hn]
    exact hS.dep j (by omega)
theorem zA_ok {T : List Ty} {R : List Rt} (h : zA T R = 0) : OkS T R ∧ bigX (extL T) = false ∧ (zC T (extL T) T.length).length ≤ 1048576 := by
  unfold zA at h
  by_cases h1 : (chk T R).1 ≠ 0
  · rw [if_pos h1] at h; cases h
  rw [if_neg h1] at h
  by_cases h2 : bigX (extL T) = true
  · rw [if_pos h2] at h; cases h
  rw [if_neg h2] at h
  by_cases h3 : 1048576 < (zC T (extL T) T.length).length
  · rw [if_pos h3] at h; cases h
  exact ⟨okS_of (by omega), by simpa using h2, by omega⟩
theorem zA_of {T : List Ty} {R : List Rt} (h1 : OkS T R) (h2 : bigX (extL T) = false) (h3 : (zC T (extL T) T.length).length ≤ 1048576) : zA T R = 0 := by
  unfold zA
  rw [if_neg (by rw [h1.chk]; simp), if_neg (by rw [h2]; decide), if_neg (by omega)]
/-- Of fewer types the program is a front. -/
theorem z_front {T : List Ty} {R : List Rt} (h : zA T R = 0) {n : Nat} (hn : n ≤ T.length) : zA (T.take n) [] = 0 ∧ zX (T.take n) [] = zC T (extL T) n ∧ zY (T.take n) [] = zE T (extL T) n := by
  obtain ⟨hS, hb, hl⟩ := zA_ok h
  have hS2 := okS_cut hS hn
  have hln : (T.take n).length = n := by rw [List.length_take]; omega
  have hc := zC_take hS hn
  have hm := zC_mono T (extL T) n (T.length - n)
  rw [show n + (T.length - n) = T.length by omega] at hm
  have hA : zA (T.take n) [] = 0 := zA_of hS2 (by
    rw [extL_take T n hn]
    unfold bigX at hb ⊢
    rw [List.any_eq_false] at hb ⊢
    exact fun x hx => hb x (List.mem_of_mem_take hx)) (by rw [hln, hc n (Nat.le_refl _)]; omega)
  refine ⟨hA, ?_, ?_⟩
  · unfold zX
    rw [if_pos hA, hln, hc n (Nat.le_refl _)]
  · unfold zY
    rw [if_pos hA, hln]
    unfold zE
    refine List.map_congr_left (fun j hj => ?_)
    rw [hc j (by have := List.mem_range.1 hj; omega)]
theorem zE_at {T : List Ty} {X : List Ex} {n i : Nat} (h : i < n) : (zE T X n)[i]? = some ((zC T X i).length : Int) := by
  unfold zE
  rw [List.getElem?_map, List.getElem?_range h]
  rfl
theorem zC_at {T : List Ty} {X : List Ex} {m i : Nat} (h1 : 1 ≤ i) (hm : i ≤ m) : (zC T X m)[(zC T X i).length - 1]? = some ⟨20, 0, 0, 0⟩ ∧ 1 ≤ (zC T X i).length := by
  obtain ⟨j, rfl⟩ : ∃ j, i = j + 1 := ⟨i - 1, by omega⟩
  have h2 := zC_lt T X j
  obtain ⟨u, hu⟩ := zC_front T X (j + 1) (m - (j + 1))
  rw [show j + 1 + (m - (j + 1)) = m by omega] at hu
  refine ⟨?_, by omega⟩
  rw [← hu, List.getElem?_append_left (by omega)]
  exact zC_last T X j
end Go.Proofs.Ytncndgfaalojpaa
