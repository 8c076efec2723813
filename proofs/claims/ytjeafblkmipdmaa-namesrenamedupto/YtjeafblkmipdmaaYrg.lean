/- A use in a source of the call's own gets another name. -/
import Derived.Test.YtjeafblkmipdmaaUd
namespace Go.Proofs.Ytjeafblkmipdmaa
open Go.RowKit
set_option linter.unusedVariables false

theorem cellsN_nm : ∀ (N : List Nd) (m : Nat) (y : Nd) (x : ByteArray), N[m]? = some y → (cellsN N).set (m * 7 + 2) (.string x) = cellsN (N.set m { y with name := x })
  | [], m, y, x, h => by simp at h
  | z :: N, 0, y, x, h => by
    simp at h
    subst h
    have e : cellsN (z :: N) = ndc z ++ cellsN N := by simp [cellsN]
    rw [e]
    rfl
  | z :: N, m + 1, y, x, h => by
    have ih := cellsN_nm N m y x (by simpa using h)
    have e : ∀ M, cellsN (z :: M) = ndc z ++ cellsN M := fun M => by simp [cellsN]
    rw [e, List.set_cons_succ, e, List.set_append_right _ _ (by rw [ndc_len]; omega)]
    rw [show (m + 1) * 7 + 2 - (ndc z).length = m * 7 + 2 by rw [ndc_len]; omega, ih]
/-- A cell of a row of the call's own is written. -/
theorem Src.setU {w : World} {B : Nat} {vd : Value} {D : List Df} {vs : List Value} (h : Src w B vd D vs) {i m : Nat} {d : Df} {v : Value} {y : Nd} (hd : D[i]? = some d) (hv : vs[i]? = some v) (hy : d.ty[m]? = some y) (x : ByteArray) :
    ∃ g cap, v = .slice (some ⟨g, 0, none⟩) d.ty.length cap ∧ d.ty.length ≤ cap ∧ B ≤ g ∧ w.cell? ⟨g, m * 7 + 2, none⟩ = some (.string y.name) ∧ w.frozen? ⟨g, m * 7 + 2, none⟩ = false ∧ Src (w.setCell ⟨g, m * 7 + 2, none⟩ (.string x)) B vd (D.set i { d with ty := d.ty.set m { y with name := x } }) vs := by
  have hi := (List.getElem?_eq_some_iff.1 hd).1
  have hm := (List.getElem?_eq_some_iff.1 hy).1
  obtain ⟨g, cap, hvv, hc, _, hb, h1, h2, h3⟩ := own_set (u := .string x) (h.2.2.1 i d v hd hv) (i := m * 7 + 2) (by omega) (by omega)
  have hat := cellsN_at d.ty m 2 y hy (by decide)
  rw [hat] at h1
  have hU : Upd (fun k => k = g) w (w.setCell ⟨g, m * 7 + 2, none⟩ (.string x)) := (Upd.refl _ w).set _ _ (.inl rfl)
  have hvo : v.ownBlock = some g := by rw [hvv]; rfl
  refine ⟨g, cap, hvv, hc, hb, h1, h2, by rw [List.length_set]; exact h.1, ?_, ?_, h.2.2.2⟩
  · rw [List.length_set, cellsD_ty D vs i d _ hd]
    exact ownS_upd h.2.1 hU (fun k hk e => by
      subst e
      obtain ⟨ys, hz⟩ := ownS_type (h.2.2.1 i d v hd hv) hvo
      obtain ⟨zs, hz2⟩ := ownS_type h.2.1 hk
      exact absurd (blk_type hz hz2) (by decide))
  · intro j e u he hu
    by_cases hij : i = j
    · subst hij
      rw [List.getElem?_set_self (by exact hi)] at he
      injection he with he
      subst he
      rw [hv] at hu
      injection hu with hu
      subst hu
      show (w.setCell _ _).ownsRow B _ 7 v (d.ty.set m _).length (cellsN (d.ty.set m _))
      rw [List.length_set, ← cellsN_nm d.ty m y x hy]
      exact h3
    · rw [List.getElem?_set_ne hij] at he
      exact ownS_upd (h.2.2.1 j e u he hu) hU (fun k hk e2 => by
        subst e2
        exact hij (h.2.2.2 i j v u k hv hu hvo hk))
section
variable {w : World} {B : Nat} {vd : Value} {D : List Df} {vs : List Value}
theorem Src.at0 (h : Src w B vd D vs) {i : Nat} {d : Df} (hd : D[i]? = some d) : ∃ g cap v, vd = .slice (some ⟨g, 0, none⟩) D.length cap ∧ D.length ≤ cap ∧ vs[i]? = some v ∧ w.cell? ⟨g, i * 3, none⟩ = some (.string d.name) ∧ w.cell? ⟨g, i * 3 + 2, none⟩ = some v := by
  have hi := (List.getElem?_eq_some_iff.1 hd).1
  have hv : vs[i]? = some (vs[i]'(by rw [h.1]; exact hi)) := List.getElem?_eq_getElem _
  obtain ⟨g, cap, ys, hvd, hb, hc, hm, hl, ht, hK⟩ := ownS_blk h.2.1 (by omega)
  have hat : ∀ j, j < 3 → w.cell? ⟨g, i * 3 + j, none⟩ = (dfc d (vs[i]'(by rw [h.1]; exact hi)))[j]? := fun j hj => by
    rw [← cellsD_at D vs i j d _ hd hv hj, hK.cell, ← ht, List.getElem?_take, if_pos (by omega)]
  exact ⟨g, cap, _, hvd, hc, hv, hat 0 (by decide), hat 2 (by decide)⟩
end
end Go.Proofs.Ytjeafblkmipdmaa
