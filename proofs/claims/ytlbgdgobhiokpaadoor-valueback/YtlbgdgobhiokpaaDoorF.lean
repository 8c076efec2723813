/- Path. -/
import Derived.Test.YtlbgdgobhiokpaaDoorE
namespace Go.Proofs.YtlbgdgobhiokpaaDoor
open Go.RowKit
set_option linter.unusedVariables false

theorem E43 : Elem Tryd.prog 43 3 .i64 8 := ⟨Tryd.underlying43, Tryd.underlying3, by kernel_rfl⟩
/-- Two rows of numbers, apart from one another: which kid, how many behind it. -/
structure W2 (B : Nat) (w : World) (vp vf : Value) (S : Stk) : Prop where
  p : w.ownsRow B 3 1 vp S.length (cellsL .i64 (pathL S))
  f : w.ownsRow B 3 1 vf S.length (cellsL .i64 (leftL S))
  sep : ∀ g, vp.ownBlock = some g → vf.ownBlock = some g → False
section
variable {B : Nat} {w w' : World} {vp vf : Value} {S : Stk}
theorem W2.later (h : W2 B w vp vf S) (hB : Below w.heap.size w w') : W2 B w' vp vf S := by
  have hu : Upd (fun _ => False) w w' := Upd.of_below hB
  exact ⟨owns_upd h.p hu (fun _ _ h => h), owns_upd h.f hu (fun _ _ h => h), h.sep⟩
theorem pathL_cons (k c : Int) (S : Stk) : pathL ((k, c) :: S) = pathL S ++ [k] := by simp [pathL]
theorem leftL_cons (k c : Int) (S : Stk) : leftL ((k, c) :: S) = leftL S ++ [c] := by simp [leftL]
theorem W2.push (h : W2 B w vp vf S) (c : Int) (hn : S.length ≤ 1000000) (hB : B ≤ w.heap.size) :
    ∃ gp cp w1 gf cf w2, (Builtin.append_ #[43, 43] 43 #[vp, .slice (some ⟨w.heap.size, 0, none⟩) 1 1]).run Tryd.prog (w.alloc (.cells #[.int .i64 0] 3)) = .ok (.slice (some ⟨gp, 0, none⟩) (S.length + 1) cp) w1 ∧
      (Builtin.append_ #[43, 43] 43 #[vf, .slice (some ⟨w1.heap.size, 0, none⟩) 1 1]).run Tryd.prog (w1.alloc (.cells #[.int .i64 c] 3)) = .ok (.slice (some ⟨gf, 0, none⟩) (S.length + 1) cf) w2 ∧
      W2 B w2 (.slice (some ⟨gp, 0, none⟩) (S.length + 1) cp) (.slice (some ⟨gf, 0, none⟩) (S.length + 1) cf) ((0, c) :: S) ∧ Below B w w1 ∧ Below B w w2 ∧ ∀ q t xs, t ≠ 3 → Blk w q t xs → Blk w1 q t xs := by
  obtain ⟨gp, cp, w1, r1, o1, u1, l1⟩ := run_push E43 w 43 B vp S.length (pathL S) h.p 0 (by unfold maxLen; omega) (by omega) hB
  have hf1 : w1.ownsRow B 3 1 vf S.length (cellsL .i64 (leftL S)) := owns_upd h.f u1 (fun k hk hp => h.sep k hp hk)
  have hs1 : w.heap.size ≤ w1.heap.size := u1.size
  obtain ⟨gf, cf, w2, r2, o2, u2, l2⟩ := run_push E43 w1 43 B vf S.length (leftL S) hf1 c (by unfold maxLen; omega) (by omega) (by omega)
  have bp : ∀ k, vp.ownBlock = some k → B ≤ k ∧ k < w.heap.size := fun k hk => h.p.lt k hk
  have bf : ∀ k, vf.ownBlock = some k → B ≤ k ∧ k < w.heap.size := fun k hk => h.f.lt k hk
  have hne : gp ≠ gf := by
    have hg1 := (o1.lt gp rfl).2
    rintro rfl
    rcases l1 with l1 | l1 <;> rcases l2 with l2 | l2
    · exact h.sep _ l1 l2
    · have := (bp _ l1).2; omega
    · have := (bf _ l2).2; omega
    · omega
  refine ⟨gp, cp, w1, gf, cf, w2, r1, r2, ⟨?_, ?_, ?_⟩, u1.below B hB (fun k hk => (bp k hk).1), ?_, ?_⟩
  · rw [pathL_cons]
    exact owns_upd o1 u2 (fun k hk hv => by
      have hk' : gp = k := by simpa [Value.ownBlock] using hk
      subst hk'
      rcases l1 with l1 | l1
      · exact h.sep _ l1 hv
      · have := (bf _ hv).2; omega)
  · rw [leftL_cons]; exact o2
  · intro g hg hg2
    have e1 : gp = g := by simpa [Value.ownBlock] using hg
    have e2 : gf = g := by simpa [Value.ownBlock] using hg2
    exact hne (e1.trans e2.symm)
  · exact (u1.below B hB (fun k hk => (bp k hk).1)).trans (u2.below B (by omega) (fun k hk => (bf k hk).1))
  · intro q t xs ht hq
    refine hq.upd u1 fun hk => ?_
    rcases h.p.2 with ⟨e, _⟩ | ⟨g, cap, cur, e, _, hg, _⟩
    · rw [e] at hk; simp [Value.ownBlock] at hk
    · rw [e] at hk
      have e1 : g = q := by simpa [Value.ownBlock] using hk
      subst e1
      unfold Blk at hq
      rw [hg] at hq
      injection hq with hq
      injection hq with _ hq
      exact ht hq.symm
theorem own_is {g n c k : Nat} (h : (Value.slice (some ⟨g, 0, none⟩) n c).ownBlock = some k) : g = k := by simpa [Value.ownBlock] using h
/-- Cut back to so many, and the last ones set. -/
theorem own_back {e : TypeId} {v : Value} {n : Nat} {xs : List Value} (h : w.ownsRow B e 1 v n xs) (m : Nat) (hm : m < n) (u : Value) :
    ∃ g cap, v = .slice (some ⟨g, 0, none⟩) n cap ∧ B ≤ g ∧ n ≤ cap ∧ cap ≤ maxLen ∧ (∀ i, w.frozen? ⟨g, i, none⟩ = false) ∧ (∀ i, i < n → w.cell? ⟨g, i, none⟩ = xs[i]?) ∧ (w.setCell ⟨g, m, none⟩ u).ownsRow B e 1 (.slice (some ⟨g, 0, none⟩) (m + 1) cap) (m + 1) (xs.take m ++ [u]) := by
  obtain ⟨g, cap, ys, rfl, hb, hnc, hcm, hlen, htake, hK⟩ := own_blk h (by omega)
  refine ⟨g, cap, rfl, hb, hnc, hcm, fun i => hK.frozen i, fun i hi => ?_, ?_⟩
  · rw [hK.cell, ← htake, List.getElem?_take, if_pos hi]
  · have h2 := (hK.set m u).owns B (m + 1) cap hb (by simp [hlen]) (by omega) hcm
    have e1 : (ys.set m u).take (m + 1) = xs.take m ++ [u] := by
      rw [← htake, List.take_take, Nat.min_eq_left (by omega), List.take_add_one, List.take_set_of_le (Nat.le_refl _)]
      simp [List.getElem?_set, hlen]
      omega
    rw [e1] at h2
    exact h2
theorem leftL_cut (Z T : Stk) (j f : Int) : leftL (Z ++ (j, f) :: T) = leftL T ++ [f] ++ leftL Z := by simp [leftL]
theorem pathL_cut (Z T : Stk) (j f : Int) : pathL (Z ++ (j, f) :: T) = pathL T ++ [j] ++ pathL Z := by simp [pathL]
theorem leftL_len (T : Stk) : (leftL T).length = T.length := by simp [leftL]
theorem pathL_len (T : Stk) : (pathL T).length = T.length := by simp [pathL]
theorem left_zero (Z T : Stk) (j f : Int) (hZ : ∀ e ∈ Z, e.2 = 0) (i : Nat) (hi : T.length < i) (hn : i < Z.length + T.length + 1) : (leftL (Z ++ (j, f) :: T)).getD i 0 = 0 := by
  rw [leftL_cut, List.getD, List.getElem?_append_right (by simp [leftL_len]; omega)]
  simp only [List.length_append, leftL_len, List.length_singleton]
  have hlt : i - (T.length + 1) < (leftL Z).length := by rw [leftL_len]; omega
  rw [List.getElem?_eq_getElem hlt]
  have hm : (leftL Z)[i - (T.length + 1)] ∈ leftL Z := List.getElem_mem hlt
  simp only [leftL, List.mem_reverse, List.mem_map] at hm
  obtain ⟨e, he, h1⟩ := hm
  rw [Option.getD_some]
  exact h1.symm.trans (hZ e he)
theorem left_at (Z T : Stk) (j f : Int) : (leftL (Z ++ (j, f) :: T)).getD T.length 0 = f := by
  rw [leftL_cut, List.getD, List.getElem?_append_left (by simp [leftL_len]), List.getElem?_append_right (by simp [leftL_len])]
  simp [leftL_len]
theorem path_at (Z T : Stk) (j f : Int) : (pathL (Z ++ (j, f) :: T)).getD T.length 0 = j := by
  rw [pathL_cut, List.getD, List.getElem?_append_left (by simp [pathL_len]), List.getElem?_append_right (by simp [pathL_len])]
  simp [pathL_len]
theorem W2.back {Z T : Stk} {j f : Int} (h : W2 B w vp vf (Z ++ (j, f) :: T)) :
    ∃ gp cp gf cf, vp = .slice (some ⟨gp, 0, none⟩) (Z.length + T.length + 1) cp ∧ vf = .slice (some ⟨gf, 0, none⟩) (Z.length + T.length + 1) cf ∧ B ≤ gp ∧ B ≤ gf ∧ gp ≠ gf ∧ Z.length + T.length + 1 ≤ cp ∧ Z.length + T.length + 1 ≤ cf ∧ cp ≤ maxLen ∧ cf ≤ maxLen ∧
      w.frozen? ⟨gp, T.length, none⟩ = false ∧ w.frozen? ⟨gf, T.length, none⟩ = false ∧ w.cell? ⟨gp, T.length, none⟩ = some (.int .i64 j) ∧
      (∀ i, i < Z.length + T.length + 1 → w.cell? ⟨gf, i, none⟩ = some (.int .i64 ((leftL (Z ++ (j, f) :: T)).getD i 0))) ∧
      W2 B ((w.setCell ⟨gp, T.length, none⟩ (.int .i64 (j + 1))).setCell ⟨gf, T.length, none⟩ (.int .i64 (f - 1))) (.slice (some ⟨gp, 0, none⟩) (T.length + 1) cp) (.slice (some ⟨gf, 0, none⟩) (T.length + 1) cf) ((j + 1, f - 1) :: T) := by
  have hlen : (Z ++ (j, f) :: T).length = Z.length + T.length + 1 := by simp; omega
  have hp := h.p
  have hf := h.f
  have hsep := h.sep
  rw [hlen] at hp hf
  obtain ⟨gp, cp, rfl, bp, np, mp, zp, kp, op⟩ := own_back hp T.length (by omega) (.int .i64 (j + 1))
  obtain ⟨gf, cf, rfl, bf, nf, mf, zf, kf, -⟩ := own_back hf T.length (by omega) (.int .i64 (f - 1))
  have hne : gp ≠ gf := fun e => hsep gp rfl (by rw [e]; rfl)
  have hf2 : (w.setCell ⟨gp, T.length, none⟩ (.int .i64 (j + 1))).ownsRow B 3 1 (.slice (some ⟨gf, 0, none⟩) (Z.length + T.length + 1) cf) (Z.length + T.length + 1) (cellsL .i64 (leftL (Z ++ (j, f) :: T))) :=
    owns_upd hf ((Upd.refl (fun k => k = gp) w).set _ _ (.inl rfl)) (fun k hk e => hne ((own_is hk).trans e).symm)
  obtain ⟨gf', cf', e1, -, -, -, -, -, o2⟩ := own_back hf2 T.length (by omega) (.int .i64 (f - 1))
  have e2 : gf = gf' ∧ cf = cf' := by simpa using e1
  obtain ⟨rfl, rfl⟩ := e2
  refine ⟨gp, cp, gf, cf, rfl, rfl, bp, bf, hne, np, nf, mp, mf, zp _, zf _, ?_, ?_, ?_, ?_, ?_⟩
  · rw [kp _ (by omega), cellsL_at _ _ _ (by rw [pathL_len, hlen]; omega), path_at]
  · intro i hi
    rw [kf i hi, cellsL_at _ _ _ (by rw [leftL_len, hlen]; exact hi)]
  · have e3 : cellsL .i64 (pathL ((j + 1, f - 1) :: T)) = (cellsL .i64 (pathL (Z ++ (j, f) :: T))).take T.length ++ [.int .i64 (j + 1)] := by
      rw [pathL_cons, cellsL_append, pathL_cut]
      congr 1
      rw [List.append_assoc, cellsL_append, List.take_left' (by rw [cellsL_length, pathL_len])]
    rw [e3]
    exact owns_upd op ((Upd.refl (fun k => k = gf) _).set _ _ (.inl rfl)) (fun k hk e => hne ((own_is hk).trans e))
  · have e3 : cellsL .i64 (leftL ((j + 1, f - 1) :: T)) = (cellsL .i64 (leftL (Z ++ (j, f) :: T))).take T.length ++ [.int .i64 (f - 1)] := by
      rw [leftL_cons, cellsL_append, leftL_cut]
      congr 1
      rw [List.append_assoc, cellsL_append, List.take_left' (by rw [cellsL_length, leftL_len])]
    rw [e3]
    exact o2
  · intro g h1 h2
    have e1 : gp = g := by simpa [Value.ownBlock] using h1
    have e2 : gf = g := by simpa [Value.ownBlock] using h2
    exact hne (e1.trans e2.symm)
end
end Go.Proofs.YtlbgdgobhiokpaaDoor
