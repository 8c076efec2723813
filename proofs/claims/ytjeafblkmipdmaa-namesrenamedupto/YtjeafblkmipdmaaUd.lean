/- A source is written over, cell by cell. -/
import Derived.Test.YtjeafblkmipdmaaLt
namespace Go.Proofs.Ytjeafblkmipdmaa
open Go.RowKit
set_option linter.unusedVariables false

theorem cellsD_ty : ∀ (D : List Df) (vs : List Value) (i : Nat) (d : Df) (N : List Nd), D[i]? = some d → cellsD (D.set i { d with ty := N }) vs = cellsD D vs
  | [], vs, i, d, N, h => by simp at h
  | x :: D, [], i, d, N, h => by cases i <;> rfl
  | x :: D, u :: vs, 0, d, N, h => by
    simp at h
    subst h
    rfl
  | x :: D, u :: vs, i + 1, d, N, h => by
    have ih := cellsD_ty D vs i d N (by simpa using h)
    show dfc x u ++ cellsD (D.set i _) vs = dfc x u ++ cellsD D vs
    rw [ih]
theorem cellsD_a : ∀ (D : List Df) (vs : List Value) (i : Nat) (d : Df) (x : Int), D[i]? = some d → vs.length = D.length → (cellsD D vs).set (i * 3 + 1) (.int .i64 x) = cellsD (D.set i { d with a := x }) vs
  | [], vs, i, d, x, h, _ => by simp at h
  | y :: D, [], i, d, x, h, hl => by simp at hl
  | y :: D, u :: vs, 0, d, x, h, hl => by
    simp at h
    subst h
    rfl
  | y :: D, u :: vs, i + 1, d, x, h, hl => by
    have ih := cellsD_a D vs i d x (by simpa using h) (by simpa using hl)
    show (dfc y u ++ cellsD D vs).set ((i + 1) * 3 + 1) _ = dfc y u ++ cellsD (D.set i _) vs
    rw [List.set_append_right _ _ (by simp [dfc]; omega)]
    rw [show (i + 1) * 3 + 1 - (dfc y u).length = i * 3 + 1 by simp [dfc]; omega, ih]
theorem cellsN_a : ∀ (N : List Nd) (m : Nat) (y : Nd) (x : Int), N[m]? = some y → (cellsN N).set (m * 7 + 6) (.int .i64 x) = cellsN (N.set m { y with a := x })
  | [], m, y, x, h => by simp at h
  | z :: N, 0, y, x, h => by
    simp at h
    subst h
    have e : cellsN (z :: N) = ndc z ++ cellsN N := by simp [cellsN]
    rw [e]
    rfl
  | z :: N, m + 1, y, x, h => by
    have ih := cellsN_a N m y x (by simpa using h)
    have e : ∀ M, cellsN (z :: M) = ndc z ++ cellsN M := fun M => by simp [cellsN]
    rw [e, List.set_cons_succ, e, List.set_append_right _ _ (by rw [ndc_len]; omega)]
    rw [show (m + 1) * 7 + 6 - (ndc z).length = m * 7 + 6 by rw [ndc_len]; omega, ih]
/-- A cell of a row of the call's own is written. -/
theorem own_set {w : World} {B e c n i : Nat} {v u : Value} {xs : List Value} (h : w.ownsRow B e c v n xs) (hi : i < n * c) (hn : 0 < n) :
    ∃ g cap, v = .slice (some ⟨g, 0, none⟩) n cap ∧ n ≤ cap ∧ cap ≤ 9223372036854775807 ∧ B ≤ g ∧ w.cell? ⟨g, i, none⟩ = xs[i]? ∧ w.frozen? ⟨g, i, none⟩ = false ∧ (w.setCell ⟨g, i, none⟩ u).ownsRow B e c v n (xs.set i u) := by
  obtain ⟨g, cap, ys, rfl, hb, hc, hm, hl, ht, hK⟩ := ownS_blk h hn
  refine ⟨g, cap, rfl, hc, by unfold maxLen at hm; exact hm, hb, ?_, hK.frozen i, ?_⟩
  · rw [hK.cell, ← ht, List.getElem?_take, if_pos hi]
  · have h2 := ownS_of_blk (B := B) (n := n) (c := c) (cap := cap) (hK.set i u) hb (by simpa using hl) hc hm
    rw [List.take_set, ht] at h2
    exact h2
theorem Src.setA {w : World} {B : Nat} {vd : Value} {D : List Df} {vs : List Value} (h : Src w B vd D vs) {i : Nat} {d : Df} (hd : D[i]? = some d) (x : Int) :
    ∃ g cap, vd = .slice (some ⟨g, 0, none⟩) D.length cap ∧ D.length ≤ cap ∧ B ≤ g ∧ w.cell? ⟨g, i * 3 + 1, none⟩ = some (.int .i64 d.a) ∧ w.frozen? ⟨g, i * 3 + 1, none⟩ = false ∧ Src (w.setCell ⟨g, i * 3 + 1, none⟩ (.int .i64 x)) B vd (D.set i { d with a := x }) vs := by
  have hi := (List.getElem?_eq_some_iff.1 hd).1
  have hv : vs[i]? = some (vs[i]'(by rw [h.1]; exact hi)) := List.getElem?_eq_getElem _
  obtain ⟨g, cap, hvd, hc, _, hb, h1, h2, h3⟩ := own_set (u := .int .i64 x) h.2.1 (i := i * 3 + 1) (by omega) (by omega)
  have hat := cellsD_at D vs i 1 d _ hd hv (by decide)
  rw [hat] at h1
  refine ⟨g, cap, hvd, hc, hb, h1, h2, by rw [List.length_set]; exact h.1, ?_, ?_, h.2.2.2⟩
  · rw [List.length_set, ← cellsD_a D vs i d x hd h.1]
    exact h3
  · intro j e u he hu
    have hU : Upd (fun k => k = g) w (w.setCell ⟨g, i * 3 + 1, none⟩ (.int .i64 x)) := (Upd.refl _ w).set _ _ (.inl rfl)
    have hvo : vd.ownBlock = some g := by rw [hvd]; rfl
    have key : ∀ (d' : Df), D[j]? = some d' → (w.setCell ⟨g, i * 3 + 1, none⟩ (.int .i64 x)).ownsRow B 38 7 u d'.ty.length (cellsN d'.ty) := fun d' hd' => ownS_upd (h.2.2.1 j d' u hd' hu) hU (fun k hk e => by
      subst e
      obtain ⟨ys, hy⟩ := ownS_type (h.2.2.1 j d' u hd' hu) hk
      obtain ⟨zs, hz⟩ := ownS_type h.2.1 hvo
      exact absurd (blk_type hy hz) (by decide))
    by_cases hij : i = j
    · subst hij
      rw [List.getElem?_set_self (by exact hi)] at he
      injection he with he
      subst he
      exact key d hd
    · rw [List.getElem?_set_ne hij] at he
      exact key e he
theorem Src.setN {w : World} {B : Nat} {vd : Value} {D : List Df} {vs : List Value} (h : Src w B vd D vs) {i m : Nat} {d : Df} {v : Value} {y : Nd} (hd : D[i]? = some d) (hv : vs[i]? = some v) (hy : d.ty[m]? = some y) (x : Int) :
    ∃ g cap, v = .slice (some ⟨g, 0, none⟩) d.ty.length cap ∧ d.ty.length ≤ cap ∧ B ≤ g ∧ w.cell? ⟨g, m * 7 + 6, none⟩ = some (.int .i64 y.a) ∧ w.frozen? ⟨g, m * 7 + 6, none⟩ = false ∧ Src (w.setCell ⟨g, m * 7 + 6, none⟩ (.int .i64 x)) B vd (D.set i { d with ty := d.ty.set m { y with a := x } }) vs := by
  have hi := (List.getElem?_eq_some_iff.1 hd).1
  have hm := (List.getElem?_eq_some_iff.1 hy).1
  obtain ⟨g, cap, hvv, hc, _, hb, h1, h2, h3⟩ := own_set (u := .int .i64 x) (h.2.2.1 i d v hd hv) (i := m * 7 + 6) (by omega) (by omega)
  have hat := cellsN_at d.ty m 6 y hy (by decide)
  rw [hat] at h1
  have hU : Upd (fun k => k = g) w (w.setCell ⟨g, m * 7 + 6, none⟩ (.int .i64 x)) := (Upd.refl _ w).set _ _ (.inl rfl)
  have hvo : v.ownBlock = some g := by rw [hvv]; rfl
  refine ⟨g, cap, hvv, hc, hb, h1, h2, by rw [List.length_set]; exact h.1, ?_, ?_, h.2.2.2⟩
  · rw [List.length_set, cellsD_ty D vs i d _ hd]
    exact ownS_upd h.2.1 hU (fun k hk e => by
      subst e
      obtain ⟨ys, hz⟩ := ownS_type (h.2.2.1 i d v hd hv) hvo
      obtain ⟨zs, hz2⟩ := ownS_type h.2.1 hk
      exact absurd (blk_type hz hz2) (by decide))
  · intro j e u he hu
    by_cases hij : i = j
    · subst hij
      rw [List.getElem?_set_self (by exact hi)] at he
      injection he with he
      subst he
      rw [hv] at hu
      injection hu with hu
      subst hu
      show (w.setCell _ _).ownsRow B _ 7 v (d.ty.set m _).length (cellsN (d.ty.set m _))
      rw [List.length_set, ← cellsN_a d.ty m y x hy]
      exact h3
    · rw [List.getElem?_set_ne hij] at he
      exact ownS_upd (h.2.2.1 j e u he hu) hU (fun k hk e2 => by
        subst e2
        exact hij (h.2.2.2 i j v u k hv hu hvo hk))
def zNd (x : Nd) : Nd := { x with a := 0 }
def zDf (d : Df) : Df := ⟨d.name, 0, d.ty.map zNd⟩
end Go.Proofs.Ytjeafblkmipdmaa
