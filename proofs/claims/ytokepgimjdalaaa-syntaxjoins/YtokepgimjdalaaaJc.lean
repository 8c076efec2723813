/- Two texts one behind the other: rows of definitions joined. -/
import Derived.Test.YtokepgimjdalaaaJb
import Derived.Test.YtokepgimjdalaaaVb
namespace Go.Proofs.Ytokepgimjdalaaa
open Go.RowKit
set_option linter.unusedVariables false

theorem jn_is (a b : ByteArray) : a ++ ⟨#[10]⟩ ++ b = jn a b := by
  have e : (a ++ ⟨#[10]⟩ ++ b).data.toList = a.data.toList ++ 10 :: b.data.toList := by simp
  rw [jn, ← e]
theorem cellsD_app : ∀ (D : List Df) (vs : List Value) (E : List Df) (us : List Value), vs.length = D.length → cellsD (D ++ E) (vs ++ us) = cellsD D vs ++ cellsD E us
  | [], [], E, us, _ => by simp [cellsD]
  | [], _ :: _, _, _, h => by simp at h
  | _ :: _, [], _, _, h => by simp at h
  | a :: D, b :: vs, E, us, h => by
    have ih := cellsD_app D vs E us (by simpa using h)
    simp [cellsD, ih]
theorem cellsD_size : ∀ (D : List Df) (vs : List Value), vs.length = D.length → (cellsD D vs).length = D.length * 3
  | [], [], _ => by simp [cellsD]
  | [], _ :: _, h => by simp at h
  | _ :: _, [], h => by simp at h
  | a :: D, b :: vs, h => by
    have ih := cellsD_size D vs (by simpa using h)
    simp [cellsD, dfc, ih]; omega
theorem cellsD_one : ∀ (D : List Df) (vs : List Value), (∀ v ∈ vs, v.oneCell' = true) → ∀ u ∈ cellsD D vs, u.oneCell' = true
  | [], _, _, u, hu => by simp [cellsD] at hu
  | _ :: _, [], _, u, hu => by simp [cellsD] at hu
  | a :: D, b :: vs, h, u, hu => by
    rw [cellsD, List.mem_append] at hu
    rcases hu with hu | hu
    · simp [dfc] at hu
      rcases hu with rfl | rfl | rfl
      · rfl
      · rfl
      · exact h _ (by simp)
    · exact cellsD_one D vs (fun v hv => h v (by simp [hv])) u hu
theorem Src.one' {w : World} {B : Nat} {vd : Value} {D : List Df} {vs : List Value} (h : Src w B vd D vs) : ∀ v ∈ vs, v.oneCell' = true := by
  intro v hv
  obtain ⟨i, hi, rfl⟩ := List.getElem_of_mem hv
  have hi2 : i < D.length := by rw [← h.1]; exact hi
  obtain ⟨a, cap, e, _⟩ := own_nrow (h.2.2.1 i _ _ (List.getElem?_eq_getElem hi2) (List.getElem?_eq_getElem hi))
  rw [e]
  rfl
/-- append(v, x...), x the definitions of a source. -/
theorem run_appD (w : World) (B C : Nat) (v : Value) (n : Nat) (xs : List Value) (hown : w.ownsRow B 38 3 v n xs) (vd : Value) (D : List Df) (vs : List Value) (h : Src w C vd D vs) (hn : n ≤ 1000000) (hl : D.length ≤ 1000000) (hB : B ≤ w.heap.size) :
    ∃ v' w', (Builtin.append_ #[23, 23] 23 #[v, vd]).run Try.prog w = .ok v' w' ∧ w'.ownsRow B 38 3 v' (n + D.length) (xs ++ cellsD D vs) ∧ Upd (fun k => v.ownBlock = some k) w w' := by
  have hinfo : (Try.prog.info? 38).map (fun i => (i.zero, i.size, i.bytes)) = some (some (.agg #[.string ⟨#[]⟩, .int .i64 0, .slice none 0 0]), 3, 48) := by kernel_rfl
  obtain ⟨i0, hi, hz0, hz1, hz2⟩ := info_parts hinfo
  rcases h.2.1.2 with ⟨rfl, h0⟩ | ⟨g, cap, cur, rfl, hb, hg, hnc, hcm, hs, ht⟩
  · have hD : D = [] := List.eq_nil_of_length_eq_zero h0
    subst hD
    refine ⟨_, w, run_append_owned_none (P := Try.prog) w B 23 23 38 i0 3 Try.underlying23 hi v n xs hown, ?_, Upd.refl _ _⟩
    simpa [cellsD] using hown
  · have hcell : ∀ j u, (cellsD D vs)[j]? = some u → w.cell? ((⟨g, 0, none⟩ : Addr).add j) = some u := fun j u hj => by
      have hK : Blk w g 38 cur.toList := by unfold Blk; rw [Array.toArray_toList]; exact hg
      rw [add_none, Nat.zero_add, hK.cell]
      have hlt := (List.getElem?_eq_some_iff.1 hj).1
      rw [cellsD_size D vs h.1] at hlt
      rw [← ht, List.getElem?_take, if_pos hlt] at hj
      exact hj
    obtain ⟨v', w', hrun, h2, h3, h4, h5⟩ := run_append_own_at (P := Try.prog) w B 23 23 38 i0 _ 3 48 Try.underlying23 hi hz0 hz1 hz2 rfl (by decide) v n xs hown ⟨g, 0, none⟩ D.length cap (cellsD D vs) (cellsD_size D vs h.1) hcell (cellsD_one D vs h.one') (by unfold maxLen; omega) (by omega) hB
    exact ⟨v', w', hrun, h2, (Upd.refl _ w).grown h3 (fun k hk => .inl hk)⟩
theorem own_drow {w : World} {B : Nat} {v : Value} {D : List Df} {vs : List Value} (hl : vs.length = D.length) (h : w.ownsRow B 38 3 v D.length (cellsD D vs)) (hN : ∀ (i : Nat) (d : Df) (u : Value), D[i]? = some d → vs[i]? = some u → ∃ a cap, u = .slice a d.ty.length cap ∧ d.ty.length ≤ cap ∧ (a = none → cap = 0) ∧ NRow w a d.ty) :
    ∃ a cap, v = .slice a D.length cap ∧ D.length ≤ cap ∧ DRow w a D := by
  rcases Nat.eq_zero_or_pos D.length with h0 | h0
  · have hN : D = [] := List.eq_nil_of_length_eq_zero h0
    subst hN
    rcases h.2 with ⟨rfl, _⟩ | ⟨g, cap, cur, rfl, hb, hg, hnc, _⟩
    · exact ⟨none, 0, rfl, Nat.le_refl _, .inl ⟨rfl, rfl⟩⟩
    · exact ⟨_, cap, rfl, by simp, .inr ⟨g, 0, rfl, (Array.getElem?_eq_some_iff.1 hg).1, fun i x hx => by simp at hx⟩⟩
  · obtain ⟨g, cap, ys, rfl, hb, hn, hm, hl2, ht, hK⟩ := ownS_blk h h0
    refine ⟨_, cap, rfl, hn, .inr ⟨g, 0, rfl, hK.lt, fun i d hd => ?_⟩⟩
    have hi := (List.getElem?_eq_some_iff.1 hd).1
    have hv : vs[i]? = some (vs[i]'(by rw [hl]; exact hi)) := List.getElem?_eq_getElem _
    obtain ⟨va, vc, hva, hvc, hvn, hr⟩ := hN i d _ hd hv
    refine ⟨va, vc, fun j hj => ?_, hvc, hvn, hr⟩
    rw [hva] at hv
    rw [hK.cell, ← cellsD_at D vs i j d _ hd hv hj, ← ht, List.getElem?_take, if_pos (by omega), Nat.zero_add]
/-- The definitions of two sources, in a row of their own. -/
theorem join_row {w : World} {B1 B2 : Nat} {v1 v2 : Value} {D1 D2 : List Df} {s1 s2 : List Value} (h1 : Src w B1 v1 D1 s1) (h2 : Src w B2 v2 D2 s2) (l1 : D1.length ≤ 256) (l2 : D2.length ≤ 256) {g : Nat} {x0 : Value} (hg : Blk w g 25 [x0]) :
    ∃ u wa r cap wb, (Builtin.append_ #[23, 23] 23 #[.slice (some ⟨w.heap.size, 0, none⟩) 0 0, v1]).run Try.prog (w.alloc (.cells #[] 38)) = .ok u wa ∧
      (Builtin.append_ #[23, 23] 23 #[u, v2]).run Try.prog wa = .ok (.slice r (D1 ++ D2).length cap) wb ∧ (D1 ++ D2).length ≤ cap ∧ Below w.heap.size w wb ∧ Below w.heap.size w wa ∧ ∀ y, DRow (wb.setCell ⟨g, 0, none⟩ y) r (D1 ++ D2) := by
  have hB0 : Below w.heap.size w (w.alloc (.cells #[] 38)) := (Below.refl _ w).alloc (Nat.le_refl _) _
  have hK := Blk.newA w #[] 38
  have hown0 : (w.alloc (.cells #[] 38)).ownsRow w.heap.size 38 3 (.slice (some ⟨w.heap.size, 0, none⟩) 0 0) 0 [] := by
    have := ownS_of_blk (B := w.heap.size) (c := 3) (n := 0) (cap := 0) hK (Nat.le_refl _) (by simp) (Nat.le_refl _) (by unfold maxLen; omega)
    simpa using this
  obtain ⟨u, wa, ra, oa, ua⟩ := run_appD (w.alloc (.cells #[] 38)) w.heap.size B1 _ 0 [] hown0 v1 D1 s1 (h1.later hB0) (by omega) (by omega) (by simp)
  have hBa : Below w.heap.size w wa := hB0.trans (ua.below _ (by simp) (fun k hk => by simp [Value.ownBlock] at hk; omega))
  rw [List.nil_append, Nat.zero_add] at oa
  have hlow : ∀ k, u.ownBlock = some k → w.heap.size ≤ k := fun k hk => (oa.lt k hk).1
  obtain ⟨v', wb, rb, ob, ub⟩ := run_appD wa w.heap.size B2 u D1.length _ oa v2 D2 s2 (h2.later hBa) (by omega) (by omega) hBa.size
  have hBb : Below w.heap.size w wb := hBa.trans (ub.below _ hBa.size (fun k hk => hlow k hk))
  rw [← cellsD_app D1 s1 D2 s2 h1.1, ← List.length_append] at ob
  have hgb := hg.later hBb
  have key : ∀ y, ∃ r cap, v' = .slice r (D1 ++ D2).length cap ∧ (D1 ++ D2).length ≤ cap ∧ DRow (wb.setCell ⟨g, 0, none⟩ y) r (D1 ++ D2) := fun y => by
    have hU : Upd (fun k => k = g) wb (wb.setCell ⟨g, 0, none⟩ y) := (Upd.refl _ wb).set _ _ (.inl rfl)
    have ob' := ownS_upd ob hU (fun k hk e => by
      subst e
      obtain ⟨zs, hz⟩ := ownS_type ob hk
      exact absurd (blk_type hgb hz) (by decide))
    have s1' := (h1.later hBb).other hU hgb (by decide) (by decide)
    have s2' := (h2.later hBb).other hU hgb (by decide) (by decide)
    exact own_drow (by rw [List.length_append, List.length_append, h1.1, h2.1]) ob' (fun i d x hd hx => by
      rcases Nat.lt_or_ge i D1.length with hi | hi
      · rw [List.getElem?_append_left hi] at hd
        rw [List.getElem?_append_left (by rw [h1.1]; exact hi)] at hx
        exact own_nrow (s1'.2.2.1 i d x hd hx)
      · rw [List.getElem?_append_right hi] at hd
        rw [List.getElem?_append_right (by rw [h1.1]; exact hi), h1.1] at hx
        exact own_nrow (s2'.2.2.1 _ d x hd hx))
  obtain ⟨r, cap, hv, hc, _⟩ := key x0
  subst hv
  refine ⟨u, wa, r, cap, wb, ra, rb, hc, hBb, hBa, fun y => ?_⟩
  obtain ⟨r', cap', hv, _, hD⟩ := key y
  injection hv with e1 e2 e3
  subst e1
  exact hD
/-- The boxes behind a parse. -/
theorem boxes2 (w : World) (v x y : Value) : Blk ((w.alloc (.cells #[v] 25)).alloc (.cells #[x, y] 28)) w.heap.size 25 [v] ∧ Blk ((w.alloc (.cells #[v] 25)).alloc (.cells #[x, y] 28)) (w.heap.size + 1) 28 [x, y] ∧ Below w.heap.size w ((w.alloc (.cells #[v] 25)).alloc (.cells #[x, y] 28)) :=
  ⟨(Blk.newA w #[v] 25).alloc _, by have h := Blk.newA (w.alloc (.cells #[v] 25)) #[x, y] 28; simpa using h, below2 w _ _⟩
end Go.Proofs.Ytokepgimjdalaaa
