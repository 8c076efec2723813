/- NamesOwn: the lists are written over, and grow. -/
import Derived.Test.YteopgffgimkgmaaYs
namespace Go.Proofs.Yteopgffgimkgmaa
open Go.RowKit
set_option linter.unusedVariables false

def mks (i n : Nat) : List Int := List.replicate n (-1 - (i : Int))
theorem mks_len (i n : Nat) : (mks i n).length = n := by simp [mks]
theorem mks_succ (i n : Nat) : mks i (n + 1) = mks i n ++ [-1 - (i : Int)] := by simp [mks, List.replicate_succ']
theorem mks_at (i n k : Nat) (h : k < n) : (mks i n).getD k 0 = -1 - (i : Int) := by simp [mks, List.getD, h]
theorem put_own {B n cap g : Nat} {w : World} {N : List Int} (h : w.ownsRow B 3 1 (.slice (some ⟨g, 0, none⟩) n cap) N.length (cellsL .i64 N)) (k : Nat) (hk : k < N.length) (t : Int) : (w.setCell ⟨g, k, none⟩ (.int .i64 t)).ownsRow B 3 1 (.slice (some ⟨g, 0, none⟩) n cap) (N.set k t).length (cellsL .i64 (N.set k t)) := by
  obtain ⟨g', cap', ys, e, hb, hn, hm, hl, ht, hK⟩ := ownS_blk h (by omega)
  have e0 : g = g' ∧ n = N.length ∧ cap = cap' := by simpa using e
  obtain ⟨rfl, rfl, rfl⟩ := e0
  have h9 := ownS_of_blk (n := N.length) (c := 1) (hK.set k (.int .i64 t)) hb (by rw [List.length_set]; exact hl) hn hm
  rw [List.take_set, ht, cellsL_set] at h9
  rw [List.length_set]
  exact h9
/-- Lists of the call's own, apart from one another. -/
structure Gm (B : Nat) (w : World) (vG : Value) (N : Nat) (F : Nat → Value) (C : Nat → List Int) : Prop where
  rG : RowE 26 B w vG N F
  o : ∀ j, j < N → w.ownsRow B 3 1 (F j) (C j).length (cellsL .i64 (C j))
  d : ∀ i j k, i < N → j < N → i ≠ j → (F i).ownBlock = some k → (F j).ownBlock ≠ some k
  few : ∀ j, j < N → (C j).length ≤ 65536
  hB : B ≤ w.heap.size
section
variable {B : Nat} {w w' : World} {vG : Value} {N : Nat} {F : Nat → Value} {C : Nat → List Int}
theorem Gs.gm {vW : Value} {nW NW : Nat} {H : Nat → Value} (h : Gs B w vG vW N N nW NW F H C) : Gm B w vG N F C := ⟨h.rG, h.oG, h.dG, h.few, h.hB⟩
theorem Gm.later (h : Gm B w vG N F C) (hB : Below w.heap.size w w') : Gm B w' vG N F C :=
  ⟨h.rG.later hB, fun j hj => ownS_upd (h.o j hj) (Upd.of_below (S := fun _ => False) hB) (fun _ _ h => h), h.d, h.few, Nat.le_trans h.hB hB.size⟩
theorem Gm.mark (h : Gm B w vG N F C) {i k g n cap : Nat} (hi : i < N) (hF : F i = .slice (some ⟨g, 0, none⟩) n cap) (hk : k < (C i).length) (t : Int) : Gm B (w.setCell ⟨g, k, none⟩ (.int .i64 t)) vG N F (ext C i ((C i).set k t)) := by
  have hu := (Upd.refl (fun q => q = g) w).set ⟨g, k, none⟩ (.int .i64 t) (.inl rfl)
  have hob : (F i).ownBlock = some g := by rw [hF]; rfl
  refine ⟨h.rG.upd hu fun q hq e => ?_, fun j hj => ?_, h.d, fun j hj => ?_, Nat.le_trans h.hB hu.size⟩
  · subst e
    obtain ⟨zs, hz⟩ := ownS_type h.rG hq
    obtain ⟨ys, hy⟩ := ownS_type (h.o i hi) hob
    exact absurd (blk_type hy hz) (by decide)
  · by_cases hj2 : j = i
    · subst hj2
      rw [ext_at]
      have := h.o j hi
      rw [hF] at this ⊢
      exact put_own this k hk t
    · rw [ext_ne _ _ _ _ hj2]
      exact ownS_upd (h.o j hj) hu fun q hq e => by
        subst e
        exact h.d i j q hi hj (fun e => hj2 e.symm) hob hq
  · by_cases hj2 : j = i
    · subst hj2; rw [ext_at, List.length_set]; exact h.few j hi
    · rw [ext_ne _ _ _ _ hj2]; exact h.few j hj
theorem Gm.congr {D : Nat → List Int} (h : Gm B w vG N F C) (e : ∀ j, j < N → C j = D j) : Gm B w vG N F D :=
  ⟨h.rG, fun j hj => by rw [← e j hj]; exact h.o j hj, h.d, fun j hj => by rw [← e j hj]; exact h.few j hj, h.hB⟩
end
/-- Lists with their marks, and the first p of them, longer by one. -/
structure Gx (B : Nat) (w : World) (vG vM : Value) (N p : Nat) (F M : Nat → Value) (n : Nat → Nat) : Prop where
  g : Gm B w vG N F (fun j => mks j (n j))
  rM : RowE 26 B w vM p M
  oM : ∀ j, j < p → w.ownsRow B 3 1 (M j) (n j + 1) (cellsL .i64 (mks j (n j + 1)))
  dM : ∀ i j k, i < p → j < N → i ≠ j → (M i).ownBlock = some k → (F j).ownBlock ≠ some k
  ne : ∀ k, vG.ownBlock = some k → vM.ownBlock ≠ some k
section
variable {B : Nat} {w w' : World} {vG vM : Value} {N p : Nat} {F M : Nat → Value} {n : Nat → Nat}
theorem Gx.later (h : Gx B w vG vM N p F M n) (hB : Below w.heap.size w w') : Gx B w' vG vM N p F M n :=
  ⟨h.g.later hB, h.rM.later hB, fun j hj => ownS_upd (h.oM j hj) (Upd.of_below (S := fun _ => False) hB) (fun _ _ h => h), h.dM, h.ne⟩
theorem Gx.begin (h : Gm B w vG N F (fun j => mks j (n j))) : Gx B w vG (.slice none 0 0) N 0 F M n :=
  ⟨h, RowE.nil _ _ _ _, fun j hj => by omega, fun i j k hi => by omega, fun k _ hk => by simp [Value.ownBlock] at hk⟩
end
/-- append(v, x), x a struct written out: what v itself holds stays. -/
theorem run_pushK {P : Program} {t B e c n : Nat} {z v : Value} {bytes : Nat} {xs : List Value} (ht : P.underlying t = some (.slice e)) (hinfo : (P.info? e).map (fun i => (i.zero, i.size, i.bytes)) = some (some z, c, bytes)) (hzs : z.cells.size = c) (hc : 0 < c)
    (w : World) (ty : Nat) (hown : w.ownsRow B e c v n xs) (news : List Value) (hl : news.length = c) (hx : ∀ u ∈ news, u.oneCell' = true) (h63 : n + 1 ≤ maxLen) (hb : (n + 1) * bytes ≤ 140737488355328) (hbase : B ≤ w.heap.size) :
    ∃ g cap w', (Builtin.append_ #[t, t] ty #[v, .slice (some ⟨w.heap.size, 0, none⟩) 1 1]).run P (w.alloc (.cells news.toArray e)) = .ok (.slice (some ⟨g, 0, none⟩) (n + 1) cap) w' ∧
      w'.ownsRow B e c (.slice (some ⟨g, 0, none⟩) (n + 1) cap) (n + 1) (xs ++ news) ∧ w'.ownsRow B e c v n xs ∧ Upd (fun k => v.ownBlock = some k) w w' ∧ (v.ownBlock = some g ∨ w.heap.size ≤ g) := by
  rcases hown.2 with ⟨hv, h0⟩ | ⟨g, cap, cur, hv, hbg, hg, hnc, hcm, hcs, htake⟩
  · obtain ⟨g, cap, w', h1, h2, h3, h4⟩ := run_pushS ht hinfo hzs hc w ty hown news hl hx h63 hb hbase
    refine ⟨g, cap, w', h1, h2, ?_, h3, h4⟩
    refine ⟨hown.1, .inl ⟨hv, h0⟩⟩
  · subst hv
    obtain ⟨i0, hi, hz0, hz1, hz2⟩ := info_parts hinfo
    have hsz : (w.alloc (.cells news.toArray e)).heap.size = w.heap.size + 1 := by simp
    have hnew : ∀ j u, news[j]? = some u → (w.alloc (.cells news.toArray e)).cell? ((⟨w.heap.size, 0, none⟩ : Addr).add j) = some u := fun j u hj => by rw [add_none, Nat.zero_add, (Blk.new w news e).cell]; exact hj
    by_cases hr : n + 1 ≤ cap
    · obtain ⟨w', h1, h2, h3⟩ := run_append_fits (P := P) (w.alloc (.cells news.toArray e)) B t ty e i0 c ht hi hz1 g n cap xs (hown.alloc _) ⟨w.heap.size, 0, none⟩ 1 1 news (by omega) hnew hx hr
      refine ⟨g, cap, w', h1, h2, ?_, ((Upd.refl _ w).alloc _).grown h3 (fun k hk => .inl (by rw [← hk]; rfl)), .inl rfl⟩
      obtain ⟨g', cap', ys, e5, q1, q2, q3, q4, q5, q6⟩ := ownS_blk h2 (by omega)
      have e6 : g = g' ∧ cap = cap' := by simpa using e5
      obtain ⟨rfl, rfl⟩ := e6
      have h9 := ownS_of_blk (n := n) (c := c) q6 q1 q4 hnc q3
      have : ys.take (n * c) = xs := by
        have e9 : ys.take (n * c) = (ys.take ((n + 1) * c)).take (n * c) := by rw [List.take_take, Nat.min_eq_left (Nat.mul_le_mul_right _ (by omega))]
        rw [e9, q5, List.take_append_of_le_length (by rw [hown.1]; exact Nat.le_refl _), List.take_of_length_le (by rw [hown.1]; exact Nat.le_refl _)]
      rw [this] at h9
      exact h9
    · have hbk : Blk w g e cur.toList := by unfold Blk; rw [Array.toArray_toList]; exact hg
      have hold : ∀ j u, xs[j]? = some u → (w.alloc (.cells news.toArray e)).cell? ((⟨g, 0, none⟩ : Addr).add j) = some u := fun j u hj => by
        rw [add_none, Nat.zero_add, (hbk.alloc _).cell]
        rw [← htake, List.getElem?_take] at hj
        split at hj
        · exact hj
        · cases hj
      obtain ⟨v', w', h1, h2, h3⟩ := run_append_arg_grows (P := P) (w.alloc (.cells news.toArray e)) t ty e i0 z c bytes ht hi hz0 hz1 hz2 hzs hc ⟨g, 0, none⟩ n cap xs hown.1 hold ⟨w.heap.size, 0, none⟩ 1 1 news (by omega) hnew (by omega) h63 hb
      obtain ⟨g', cap', ys, rfl, q1, q2, q3, q4, q5, q6⟩ := ownS_blk h2 (by omega)
      have hu0 : Upd (fun _ => False) w w' := ((Upd.refl _ w).alloc _).grown h3 (fun k hk => by cases hk)
      refine ⟨g', cap', w', h1, own_mono h2 (by omega), ownS_upd hown hu0 (fun _ _ h => h), hu0.mono (fun _ _ h => h.elim), .inr (by omega)⟩
section
variable {B : Nat} {w w' : World} {vG vM : Value} {N p : Nat} {F M : Nat → Value} {n : Nat → Nat}
/-- more = append(more, append(got[p], mark)). -/
theorem Gx.step (h : Gx B w vG vM N p F M n) (hp : p < N) (hN : N ≤ 1000) :
    ∃ g1 c1 w1, (Builtin.append_ #[26, 26] 26 #[F p, .slice (some ⟨w.heap.size, 0, none⟩) 1 1]).run Try.prog (w.alloc (.cells #[.int .i64 (-1 - (p : Int))] 3)) = .ok (.slice (some ⟨g1, 0, none⟩) (n p + 1) c1) w1 ∧
      ∃ g2 c2 w2, (Builtin.append_ #[43, 43] 43 #[vM, .slice (some ⟨w1.heap.size, 0, none⟩) 1 1]).run Try.prog (w1.alloc (.cells #[.slice (some ⟨g1, 0, none⟩) (n p + 1) c1] 26)) = .ok (.slice (some ⟨g2, 0, none⟩) (p + 1) c2) w2 ∧
        Gx B w2 vG (.slice (some ⟨g2, 0, none⟩) (p + 1) c2) N (p + 1) F (ext M p (.slice (some ⟨g1, 0, none⟩) (n p + 1) c1)) n ∧ Below B w w2 := by
  have hn := h.g.few p hp
  simp only [mks_len] at hn
  have ho := h.g.o p hp
  simp only [mks_len] at ho
  obtain ⟨g1, c1, w1, r1, o1, o2, u1, l1⟩ := run_pushK (P := Try.prog) (t := 26) (e := 3) (z := .int .i64 0) (bytes := 8) Try.underlying26 (by kernel_rfl) rfl (by decide) w 26 ho [.int .i64 (-1 - (p : Int))] rfl (by intro u hu; simp at hu; subst hu; rfl) (by unfold maxLen; omega) (by omega) h.g.hB
  have hB1 : B ≤ w1.heap.size := Nat.le_trans h.g.hB u1.size
  have hne1 : ∀ {v : Value} {e : TypeId} {c m : Nat} {xs : List Value}, e ≠ 3 → w.ownsRow B e c v m xs → w1.ownsRow B e c v m xs := fun he hh => ownS_upd hh u1 fun k hk e2 => by
    obtain ⟨zs, hz⟩ := ownS_type ho e2
    obtain ⟨ys, hy⟩ := ownS_type hh hk
    exact he (blk_type hy hz)
  have rM1 : RowE 26 B w1 vM p (ext M p (.slice (some ⟨g1, 0, none⟩) (n p + 1) c1)) := RowE.congr (hne1 (by decide) h.rM) (fun j hj => by rw [ext_ne _ _ _ _ (by omega)])
  obtain ⟨g2, c2, w2, r2, q2, u2, l2⟩ := rM1.push (P := Try.prog) (t := 43) (bytes := 24) Try.underlying43 infoI rfl (by rw [ext_at]; rfl) (by unfold maxLen; omega) (by omega) hB1 43
  rw [ext_at] at r2
  have hne2 : ∀ {v : Value} {m : Nat} {xs : List Value}, w1.ownsRow B 3 1 v m xs → w2.ownsRow B 3 1 v m xs := fun hh => ownS_upd hh u2 fun k hk e2 => by
    obtain ⟨zs, hz⟩ := ownS_type rM1 e2
    obtain ⟨ys, hy⟩ := ownS_type hh hk
    exact absurd (blk_type hy hz) (by decide)
  have hbel : Below B w w2 := (u1.below B h.g.hB (fun k hk => (ho.lt k hk).1)).trans (u2.below B hB1 (fun k hk => (rM1.lt k hk).1))
  have hMlt : ∀ i, i < p → ∀ k, (M i).ownBlock = some k → k < w.heap.size := fun i hi k hk => ((h.oM i hi).lt k hk).2
  refine ⟨g1, c1, w1, r1, g2, c2, w2, r2, ⟨⟨?_, fun j hj => ?_, h.g.d, h.g.few, Nat.le_trans hB1 u2.size⟩, q2, fun j hj => ?_, fun i j k hi hj hij hk hk2 => ?_, fun k hk hk2 => ?_⟩, hbel⟩
  · exact (RowE.upd (hne1 (by decide) h.g.rG) u2 (fun k hk e => h.ne k hk e))
  · refine hne2 ?_
    by_cases hj2 : j = p
    · subst hj2; simp only [mks_len]; exact o2
    · exact ownS_upd (h.g.o j hj) u1 fun k hk e => h.g.d p j k hp hj (fun e => hj2 e.symm) e hk
  · refine hne2 ?_
    by_cases hj2 : j = p
    · subst hj2
      rw [ext_at, mks_succ, cellsL_append]
      exact o1
    · rw [ext_ne _ _ _ _ hj2]
      exact ownS_upd (h.oM j (by omega)) u1 fun k hk e => h.dM j p k (by omega) hp hj2 hk e
  · by_cases hi2 : i = p
    · rw [hi2, ext_at] at hk
      have e : g1 = k := own_is hk
      rcases l1 with l1 | l1
      · exact h.g.d p j k hp hj (by omega) (by rw [l1, e]) hk2
      · have := ((h.g.o j hj).lt k hk2).2; omega
    · rw [ext_ne _ _ _ _ hi2] at hk
      exact h.dM i j k (by omega) hj hij hk hk2
  · have e : g2 = k := own_is hk2
    rcases l2 with l2 | l2
    · exact h.ne k hk (by rw [l2, e])
    · have h1 := (h.g.rG.lt k hk).2
      have h2 := u1.size
      omega
end
end Go.Proofs.Yteopgffgimkgmaa
