/- What NamesShuffled holds in memory: what is left, the order so far, and the source that is made. -/
import Derived.Test.YteopgffgimkgmaaYs
import Derived.Test.YteopgffgimkgmaaYv
namespace Go.Proofs.Yteopgffgimkgmaa
open Go.RowKit
set_option linter.unusedVariables false

def pickD (D : List Df) (on : List Nat) : List Df := on.map (fun m => D.getD m ⟨⟨#[]⟩, 0, []⟩)
theorem pickD_len (D : List Df) (on : List Nat) : (pickD D on).length = on.length := by simp [pickD]
theorem pickD_snoc (D : List Df) (on : List Nat) {m : Nat} {d : Df} (hd : D[m]? = some d) : pickD D (on ++ [m]) = pickD D on ++ [d] := by simp [pickD, List.getD, hd]
/-- A definition's nodes lie here. -/
def TyAt (w : World) (d : Df) (v : Value) : Prop := ∃ va vc, v = .slice va d.ty.length vc ∧ d.ty.length ≤ vc ∧ (va = none → vc = 0) ∧ NRow w va d.ty
structure Sh (w wr : World) (sv : Value) (D : List Df) (bt : Nat) (vL vO vT : Value) (ln on tn : List Nat) (vs : List Value) : Prop where
  kS : Blk wr w.heap.size 24 [sv]
  kT : Blk wr bt 24 [vT]
  ht : w.heap.size < bt
  oL : wr.ownsRow w.heap.size 3 1 vL ln.length (cellsL .i64 (natI ln))
  oO : wr.ownsRow w.heap.size 3 1 vO on.length (cellsL .i64 (natI on))
  ne : ∀ k, vO.ownBlock = some k → vL.ownBlock ≠ some k
  oT : wr.ownsRow w.heap.size 36 3 vT tn.length (cellsD (pickD D tn) vs)
  vl : vs.length = tn.length
  ty : ∀ (i : Nat) (d : Df) (v : Value), (pickD D tn)[i]? = some d → vs[i]? = some v → TyAt w d v
  bel : Below w.heap.size w wr
theorem natI_app (a b : List Nat) : natI (a ++ b) = natI a ++ natI b := by simp [natI]
theorem natI_take (a : List Nat) (k : Nat) : natI (a.take k) = (natI a).take k := by simp [natI]
theorem natI_drop (a : List Nat) (k : Nat) : natI (a.drop k) = (natI a).drop k := by simp [natI]
theorem perm_pick {on ln : List Nat} {k m : Nat} (hk : ln[k]? = some m) : ((on ++ [m]) ++ (ln.take k ++ ln.drop (k + 1))).Perm (on ++ ln) := by
  have hl := (List.getElem?_eq_some_iff.1 hk).1
  have e : ln = ln.take k ++ (m :: ln.drop (k + 1)) := by
    have := (List.getElem?_eq_some_iff.1 hk).2
    rw [← this, ← List.drop_eq_getElem_cons hl, List.take_append_drop]
  rw [List.append_assoc]
  refine List.Perm.append_left on ?_
  have h2 := (List.perm_middle (a := m) (l₁ := ln.take k) (l₂ := ln.drop (k + 1))).symm
  rw [← e] at h2
  exact h2
theorem Row.part {w : World} {g n : Nat} {l : List Int} (hc : ∀ i, i < n → w.cell? ⟨g, i, none⟩ = some (.int .i64 (l.getD i 0))) (p q : Nat) (h : p + q ≤ n) (hl : l.length = n) : Row .i64 w (some ⟨g, p, none⟩) ((l.drop p).take q) := by
  refine .inr ⟨_, rfl, fun i hi => ?_⟩
  simp only [List.length_take, List.length_drop] at hi
  rw [add_none, hc _ (by omega)]
  simp only [List.getD_eq_getElem?_getD, List.getElem?_take, List.getElem?_drop]
  rw [if_pos (by omega)]
section
variable {w wr : World} {sv : Value} {D : List Df} {bt : Nat} {vL vO vT : Value} {ln on tn : List Nat} {vs : List Value}
theorem Sh.later {w' : World} (h : Sh w wr sv D bt vL vO vT ln on tn vs) (hB : Below wr.heap.size wr w') : Sh w w' sv D bt vL vO vT ln on tn vs :=
  ⟨h.kS.later hB, h.kT.later hB, h.ht, ownS_upd h.oL (Upd.of_below (S := fun _ => False) hB) (fun _ _ h => h), ownS_upd h.oO (Upd.of_below (S := fun _ => False) hB) (fun _ _ h => h), h.ne, ownS_upd h.oT (Upd.of_below (S := fun _ => False) hB) (fun _ _ h => h), h.vl, h.ty, below_to h.bel hB⟩
/-- order = append(order, m). -/
theorem Sh.pushO (h : Sh w wr sv D bt vL vO vT ln on tn vs) (m : Nat) (hn : on.length ≤ 2932031007401) :
    ∃ g1 c1 w1, (Builtin.append_ #[26, 26] 26 #[vO, .slice (some ⟨wr.heap.size, 0, none⟩) 1 1]).run Try.prog (wr.alloc (.cells #[.int .i64 (m : Int)] 3)) = .ok (.slice (some ⟨g1, 0, none⟩) (on.length + 1) c1) w1 ∧ Sh w w1 sv D bt vL (.slice (some ⟨g1, 0, none⟩) (on.length + 1) c1) vT ln (on ++ [m]) tn vs := by
  obtain ⟨g1, c1, w1, r1, o1, u1, l1⟩ := run_push EInt wr 26 w.heap.size vO on.length (natI on) h.oO (m : Int) (by unfold maxLen; omega) (by omega) h.bel.size
  have hne : ∀ {q : Nat} {t : TypeId} {xs : List Value}, t ≠ 3 → Blk wr q t xs → Blk w1 q t xs := fun ht hq => hq.upd u1 fun e => by
    obtain ⟨zs, hz⟩ := ownS_type h.oO e
    exact ht (blk_type hq hz)
  refine ⟨g1, c1, w1, r1, hne (by decide) h.kS, hne (by decide) h.kT, h.ht, ownS_upd h.oL u1 (fun k hk e => h.ne k e hk), ?_, fun k hk hk2 => ?_, ?_, h.vl, h.ty, h.bel.trans (u1.below _ h.bel.size (fun k hk => (h.oO.lt k hk).1))⟩
  · rw [natI_app, List.length_append]
    exact o1
  · have e : g1 = k := own_is hk
    rcases l1 with l1 | l1
    · exact h.ne k (by rw [l1, e]) hk2
    · have := (h.oL.lt k hk2).2; omega
  · refine ownS_upd h.oT u1 fun k hk e => ?_
    obtain ⟨zs, hz⟩ := ownS_type h.oO e
    obtain ⟨ys, hy⟩ := ownS_type h.oT hk
    exact absurd (blk_type hy hz) (by decide)
/-- t.Defs = append(t.Defs, d). -/
theorem Sh.pushT (h : Sh w wr sv D bt vL vO vT ln on tn vs) {m : Nat} {d : Df} (hd : D[m]? = some d) {v : Value} (hv : TyAt w d v) (hn : tn.length + 1 ≤ 2932031007401) :
    ∃ g2 c2 w2, (Builtin.append_ #[22, 22] 22 #[vT, .slice (some ⟨wr.heap.size, 0, none⟩) 1 1]).run Try.prog (wr.alloc (.cells #[.string d.name, .int .i64 d.a, v] 36)) = .ok (.slice (some ⟨g2, 0, none⟩) (tn.length + 1) c2) w2 ∧ Blk w2 bt 24 [vT] ∧ Blk w2 w.heap.size 24 [sv] ∧ Below w.heap.size w w2 ∧ w2.ownsRow w.heap.size 3 1 vL ln.length (cellsL .i64 (natI ln)) ∧
      Sh w (w2.setCell ⟨bt, 0, none⟩ (.slice (some ⟨g2, 0, none⟩) (tn.length + 1) c2)) sv D bt vL vO (.slice (some ⟨g2, 0, none⟩) (tn.length + 1) c2) ln on (tn ++ [m]) (vs ++ [v]) := by
  have hv1 : v.oneCell' = true := by obtain ⟨va, vc, rfl, _⟩ := hv; rfl
  obtain ⟨g2, c2, w2, r2, o2, u2, l2⟩ := run_pushS (P := Try.prog) (t := 22) (e := 36) (c := 3) (z := .agg #[.string ⟨#[]⟩, .int .i64 0, .slice none 0 0]) (bytes := 48) Try.underlying22 (by kernel_rfl) rfl (by decide) wr 22 h.oT (dfc d v) rfl (by intro u hu; simp [dfc] at hu; rcases hu with rfl | rfl | rfl <;> first | rfl | exact hv1) (by unfold maxLen; omega) (by omega) h.bel.size
  have hne : ∀ {q : Nat} {t : TypeId} {xs : List Value}, t ≠ 36 → Blk wr q t xs → Blk w2 q t xs := fun ht hq => hq.upd u2 fun e => by
    obtain ⟨zs, hz⟩ := ownS_type h.oT e
    exact ht (blk_type hq hz)
  have hno : ∀ {x : Value} {n : Nat} {xs : List Value}, wr.ownsRow w.heap.size 3 1 x n xs → w2.ownsRow w.heap.size 3 1 x n xs := fun ho => ownS_upd ho u2 fun k hk e => by
    obtain ⟨zs, hz⟩ := ownS_type h.oT e
    obtain ⟨ys, hy⟩ := ownS_type ho hk
    exact absurd (blk_type hy hz) (by decide)
  have kT2 := hne (by decide) h.kT
  have kS2 := hne (by decide) h.kS
  have b2 := h.bel.trans (u2.below _ h.bel.size (fun k hk => (h.oT.lt k hk).1))
  have u3 := (Upd.refl (fun q => q = bt) w2).set ⟨bt, 0, none⟩ (.slice (some ⟨g2, 0, none⟩) (tn.length + 1) c2) (.inl rfl)
  have hn3 : ∀ {x : Value} {n c : Nat} {e : TypeId} {xs : List Value}, e ≠ 24 → w2.ownsRow w.heap.size e c x n xs → (w2.setCell ⟨bt, 0, none⟩ (.slice (some ⟨g2, 0, none⟩) (tn.length + 1) c2)).ownsRow w.heap.size e c x n xs := fun he ho => ownS_upd ho u3 fun k hk e => by
    subst e
    obtain ⟨ys, hy⟩ := ownS_type ho hk
    exact he (blk_type hy kT2)
  refine ⟨g2, c2, w2, r2, kT2, kS2, b2, hno h.oL, kS2.upd u3 (fun e => by have := h.ht; omega), kT2.set 0 _, h.ht, hn3 (by decide) (hno h.oL), hn3 (by decide) (hno h.oO), h.ne, ?_, by simp [h.vl], ?_, b2.trans (u3.below _ b2.size (fun k hk => by have := h.ht; omega))⟩
  · have o3 := hn3 (by decide) o2
    rw [pickD_snoc D tn hd, cellsD_snoc _ _ _ _ (by rw [pickD_len]; exact h.vl), List.length_append]
    exact o3
  · intro i d' v' hd' hv'
    rw [pickD_snoc D tn hd] at hd'
    rcases Nat.lt_or_ge i tn.length with hi | hi
    · rw [List.getElem?_append_left (by rw [pickD_len]; exact hi)] at hd'
      rw [List.getElem?_append_left (by rw [h.vl]; exact hi)] at hv'
      exact h.ty i d' v' hd' hv'
    · rw [List.getElem?_append_right (by rw [pickD_len]; exact hi), pickD_len] at hd'
      rw [List.getElem?_append_right (by rw [h.vl]; exact hi), h.vl] at hv'
      have h0 : i - tn.length = 0 := by
        have := (List.getElem?_eq_some_iff.1 hd').1
        simp at this; omega
      rw [h0] at hd' hv'
      simp at hd' hv'
      subst hd' hv'
      exact hv
/-- left = append(append(nil, left[:k]...), left[k+1:]...). -/
theorem Sh.less {gL cL : Nat} (h : Sh w wr sv D bt (.slice (some ⟨gL, 0, none⟩) ln.length cL) vO vT ln on tn vs) (hn : ln.length ≤ 2932031007401) {k : Nat} (hk : k < ln.length) (c6 : Nat) (a6 : Option Addr) (h6 : a6 = some ⟨gL, k + 1, none⟩ ∨ (ln.length = k + 1 ∧ ∃ x, a6 = some x)) :
    ∃ a4 c4 w4, (Builtin.append_ #[26, 26] 26 #[.slice none 0 0, .slice (some ⟨gL, 0, none⟩) k cL]).run Try.prog wr = .ok (.slice a4 k c4) w4 ∧
      ∃ a5 c5 w5, (Builtin.append_ #[26, 26] 26 #[.slice a4 k c4, .slice a6 (ln.length - (k + 1)) c6]).run Try.prog w4 = .ok (.slice a5 (ln.length - 1) c5) w5 ∧
        Sh w w5 sv D bt (.slice a5 (ln.length - 1) c5) vO vT (ln.take k ++ ln.drop (k + 1)) on tn vs := by
  obtain ⟨a, c, e, -, -, -, -, hg⟩ := own_open h.oL (natI_len ln)
  obtain ⟨g, rfl, -, hgl, hc, -⟩ := hg (by omega)
  injection e with e _ _
  injection e with e
  injection e with e _ _
  subst e
  have r1 : Row .i64 wr (some ⟨gL, 0, none⟩) (natI (ln.take k)) := by
    have := Row.part hc 0 k (by omega) (natI_len ln)
    rw [List.drop_zero, ← natI_take] at this
    exact this
  obtain ⟨v4, w4, q4, o4, gr4⟩ := run_copy EInt wr 26 wr.heap.size (some ⟨gL, 0, none⟩) k cL (natI (ln.take k)) (by rw [natI_len, List.length_take]; omega) r1 (fun h => by cases h) (by unfold maxLen; omega) (by omega) (Nat.le_refl _)
  obtain ⟨a4, c4, rfl⟩ := own_form o4
  have hB4 : Below wr.heap.size wr w4 := ((Upd.refl (fun _ => False) wr).grown gr4 (fun k hk => by cases hk)).below _ (Nat.le_refl _) (fun _ h => h.elim)
  have r2 : Row .i64 w4 a6 (natI (ln.drop (k + 1))) := by
    rcases h6 with rfl | ⟨h7, x, rfl⟩
    case inr =>
      rw [List.drop_eq_nil_of_le (by omega)]
      exact .inr ⟨x, rfl, fun i hi => by simp [natI] at hi⟩
    have := Row.part (n := ln.length) (l := natI ln) (w := w4) (fun i hi => (hB4.cell (p := ⟨gL, i, none⟩) hgl).trans (hc i hi)) (k + 1) (ln.length - (k + 1)) (by omega) (natI_len ln)
    rw [List.take_of_length_le (by rw [List.length_drop, natI_len]; exact Nat.le_refl _), ← natI_drop] at this
    exact this
  obtain ⟨v5, w5, q5, o5, gr5⟩ := run_app EInt w4 26 wr.heap.size (.slice a4 k c4) k (natI (ln.take k)) o4 a6 (ln.length - (k + 1)) c6 (natI (ln.drop (k + 1))) (by rw [natI_len, List.length_drop]) r2 (fun h => by rcases h6 with h7 | ⟨_, x, h7⟩ <;> rw [h7] at h <;> cases h) (by unfold maxLen; omega) (by omega) hB4.size
  rw [show k + (ln.length - (k + 1)) = ln.length - 1 by omega, ← natI_app] at o5
  obtain ⟨a5, c5, rfl⟩ := own_form o5
  have u5 : Upd (fun q => (Value.slice a4 k c4).ownBlock = some q) w4 w5 := (Upd.refl _ w4).grown gr5 (fun k hk => .inl hk)
  have hB5 : Below wr.heap.size wr w5 := hB4.trans (u5.below _ hB4.size (fun q hq => (o4.lt q hq).1))
  have h5 := h.later hB5
  refine ⟨a4, c4, w4, q4, a5, c5, w5, q5, h5.kS, h5.kT, h5.ht, ?_, h5.oO, fun q hq hq2 => ?_, h5.oT, h5.vl, h5.ty, h5.bel⟩
  · have e : (ln.take k ++ ln.drop (k + 1)).length = ln.length - 1 := by simp; omega
    rw [e]
    exact own_mono o5 h.bel.size
  · have h1 := (h.oO.lt q hq).2
    have h2 := (o5.lt q hq2).1
    omega
end
/-- What was made lies there as a source. -/
theorem Sh.row {w wr : World} {sv : Value} {D : List Df} {bt : Nat} {vL vO vT : Value} {ln on tn : List Nat} {vs : List Value} (h : Sh w wr sv D bt vL vO vT ln on tn vs) : ∃ a c, vT = .slice a (pickD D tn).length c ∧ DRow wr a (pickD D tn) := by
  rw [pickD_len]
  obtain ⟨a, c, rfl⟩ := own_form h.oT
  refine ⟨a, c, rfl, ?_⟩
  rcases Nat.eq_zero_or_pos tn.length with h0 | h0
  · left
    exact List.eq_nil_of_length_eq_zero (by rw [pickD_len]; exact h0)
  · right
    obtain ⟨g, cap, ys, e, hb, hnc, hcm, hyl, hyt, hK⟩ := ownS_blk h.oT h0
    injection e with e1 _ e3
    subst e1 e3
    refine ⟨g, 0, rfl, hK.lt, fun i d hd => ?_⟩
    have hi : i < tn.length := by rw [← pickD_len D]; exact (List.getElem?_eq_some_iff.1 hd).1
    obtain ⟨v, hv⟩ : ∃ v, vs[i]? = some v := ⟨_, List.getElem?_eq_getElem (by rw [h.vl]; exact hi)⟩
    obtain ⟨va, vc, rfl, h1, h2, h3⟩ := h.ty i d v hd hv
    refine ⟨va, vc, fun j hj => ?_, h1, h2, h3.later h.bel⟩
    rw [hK.cell, Nat.zero_add, ← cellsD_at (pickD D tn) vs i j d _ hd hv hj, ← hyt, List.getElem?_take, if_pos (by omega)]
theorem own_cell {w : World} {B g n cap k m : Nat} {l : List Nat} (h : w.ownsRow B 3 1 (.slice (some ⟨g, 0, none⟩) n cap) l.length (cellsL .i64 (natI l))) (hk : l[k]? = some m) : w.cell? ⟨g, k, none⟩ = some (.int .i64 (m : Int)) := by
  have hl := (List.getElem?_eq_some_iff.1 hk).1
  obtain ⟨a, c, e, -, -, -, -, hg⟩ := own_open h (natI_len l)
  obtain ⟨g', rfl, -, -, hc, -⟩ := hg (by omega)
  injection e with e _ _
  injection e with e
  injection e with e _ _
  subst e
  rw [hc k hl, natI_at _ _ _ hk]
/-- What was taken one by one is the source in another order. -/
theorem shuf_of {D : List Df} {on : List Nat} (h : on.Perm (List.range D.length)) : ∃ g, Shuf D (pickD D on) (fun i => on.getD i 0) g := by
  have hl : on.length = D.length := by simpa using h.length_eq
  have hnd : on.Nodup := h.nodup_iff.2 List.nodup_range
  have hm : ∀ m, m ∈ on ↔ m < D.length := fun m => by rw [h.mem_iff]; exact List.mem_range
  have hat : ∀ i, i < D.length → ∃ m, on[i]? = some m ∧ on.getD i 0 = m ∧ m < D.length := fun i hi => by
    have hi' : i < on.length := by omega
    refine ⟨on[i], List.getElem?_eq_getElem hi', by simp [List.getD, hi'], (hm _).1 (List.getElem_mem hi')⟩
  have hin : ∀ i j m : Nat, on[i]? = some m → on[j]? = some m → i = j := fun i j m hi hj => by
    have h1 := (List.getElem?_eq_some_iff.1 hi)
    have h2 := (List.getElem?_eq_some_iff.1 hj)
    obtain ⟨a1, b1⟩ := h1
    obtain ⟨a2, b2⟩ := h2
    have hp := List.pairwise_iff_getElem.1 hnd
    rcases Nat.lt_trichotomy i j with hlt | he | hlt
    · exact absurd (b1.trans b2.symm) (hp i j a1 a2 hlt)
    · exact he
    · exact absurd (b2.trans b1.symm) (hp j i a2 a1 hlt)
  have hex : ∀ m, ∃ i, m < D.length → on[i]? = some m := fun m => by
    by_cases hlt : m < D.length
    · obtain ⟨i, hi⟩ := List.mem_iff_getElem?.1 ((hm m).2 hlt)
      exact ⟨i, fun _ => hi⟩
    · exact ⟨0, fun h => absurd h hlt⟩
  obtain ⟨g, hg⟩ := Classical.axiomOfChoice hex
  refine ⟨g, by rw [pickD_len]; exact hl, fun i hi => ?_, fun i hi => ?_, fun i hi => ?_⟩
  · obtain ⟨m, h1, h2, h3⟩ := hat i hi
    rw [h2]
    exact ⟨h3, hin _ _ m (hg m h3) h1⟩
  · have h1 := hg i hi
    have h2 := (List.getElem?_eq_some_iff.1 h1).1
    exact ⟨by omega, by simp [List.getD, h1]⟩
  · obtain ⟨m, h1, h2, h3⟩ := hat i hi
    rw [h2]
    unfold pickD
    rw [List.getElem?_map, h1, List.getElem?_eq_getElem h3]
    simp [List.getD, h3]
end Go.Proofs.Yteopgffgimkgmaa
