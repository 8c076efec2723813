import Derived.Test.YtlbgdgobhiokpaaDoorPart01
import Derived.Shelf.Strconv.Itoa0
import Derived.Shelf.Strconv.Itoa1
import Derived.Shelf.LaysM
import Derived.Shelf.Strconv.Itoa2
import Derived.Shelf.Strconv.AppendUint10
import Derived.Test.YtlbgdgobhiokpaaDoorProg
import Derived.Lib.AppendStr

/- Path, plain: the open nodes, the innermost first: which kid the walk is in, how many come behind it. -/
namespace Go.Proofs.YtlbgdgobhiokpaaDoor
open Go.RowKit
set_option linter.unusedVariables false

abbrev Stk := List (Int × Int)
def nextUp : Stk → Stk
  | [] => []
  | (k, f) :: T => if f = 0 then nextUp T else (k + 1, f - 1) :: T
def wstep (S : Stk) (x : Nd) : Stk := if 0 < x.2.2 then (0, x.2.2 - 1) :: S else nextUp S
def way : List Nd → Stk → Stk
  | [], S => S
  | x :: l, S => way l (wstep S x)
def sumL : Stk → Int
  | [] => 0
  | (_, f) :: T => f + sumL T
theorem way_snoc : ∀ (l : List Nd) (x : Nd) (S : Stk), way (l ++ [x]) S = wstep (way l S) x
  | [], x, S => rfl
  | y :: l, x, S => way_snoc l x _
theorem nextUp_spec : ∀ (S : Stk), (∀ e ∈ S, 0 ≤ e.2) → 0 < sumL S → ∃ Z k f T, S = Z ++ (k, f) :: T ∧ (∀ e ∈ Z, e.2 = 0) ∧ 0 < f ∧ nextUp S = (k + 1, f - 1) :: T ∧ sumL (nextUp S) = sumL S - 1
  | [], _, h => by simp [sumL] at h
  | (k, f) :: T, hS, h => by
    have h0 : 0 ≤ f := hS (k, f) (by simp)
    by_cases hf : f = 0
    · subst hf
      obtain ⟨Z, k', f', T', h1, h2, h3, h4, h5⟩ := nextUp_spec T (fun e he => hS e (by simp [he])) (by simpa [sumL] using h)
      refine ⟨(k, 0) :: Z, k', f', T', by simp [h1], by simpa using h2, h3, by simpa [nextUp] using h4, by simpa [nextUp, sumL] using h5⟩
    · refine ⟨[], k, f, T, rfl, by simp, by omega, by simp [nextUp, hf], by simp [nextUp, hf, sumL]; omega⟩
/-- The walk's state at a place of a list that Check takes. -/
structure WOK (l : List Nd) (k : Nat) (S : Stk) : Prop where
  pos : ∀ e ∈ S, 0 ≤ e.2
  ok : (chk (1 + sumL S) k (l.drop k)).1 = 0
  len : S.length ≤ k
  bd : ∀ e ∈ S, 0 ≤ e.1 ∧ e.1 + e.2 < 1048576
theorem WOK.begin {l : List Nd} (h : (chk 1 0 l).1 = 0) : WOK l 0 [] := ⟨by simp, by simpa [sumL] using h, Nat.le_refl _, by simp⟩
theorem sumL_pos : ∀ (S : Stk), (∀ e ∈ S, 0 ≤ e.2) → 0 ≤ sumL S
  | [], _ => by simp [sumL]
  | (k, f) :: T, h => by
    have := sumL_pos T (fun e he => h e (by simp [he]))
    have h0 : 0 ≤ f := h (k, f) (by simp)
    simp only [sumL]
    omega
theorem nextUp_len : ∀ (S : Stk), (nextUp S).length ≤ S.length
  | [] => Nat.le_refl _
  | (k, f) :: T => by
    unfold nextUp
    split
    · exact Nat.le_trans (nextUp_len T) (by simp)
    · simp
theorem WOK.step {l : List Nd} {k : Nat} {S : Stk} (h : WOK l k S) (hk : k + 1 < l.length) :
    WOK l (k + 1) (wstep S (l.getD k nil0)) ∧ 0 ≤ (l.getD k nil0).2.2 ∧ (l.getD k nil0).2.2 ≤ 1048576 ∧ ((l.getD k nil0).2.2 = 0 → ∃ Z j f T, S = Z ++ (j, f) :: T ∧ (∀ e ∈ Z, e.2 = 0) ∧ 0 < f ∧ wstep S (l.getD k nil0) = (j + 1, f - 1) :: T) := by
  have h1 := h.ok
  rw [drop_at l k (by omega), chk] at h1
  generalize l.getD k nil0 = x at *
  split at h1
  · simp at h1
  · rename_i hn
    rw [not_or] at hn
    have hx : right x = true := by simpa using hn.2
    have hc := right_kids hx
    refine ⟨?_, hc.1, hc.2, ?_⟩
    · by_cases h0 : 0 < x.2.2
      · refine ⟨?_, ?_, by simp [wstep, h0]; exact h.len, ?_⟩
        · simp only [wstep, if_pos h0, List.mem_cons]
          rintro e (rfl | he)
          · simp; omega
          · exact h.pos e he
        · rw [wstep, if_pos h0, sumL, show (1 : Int) + (x.2.2 - 1 + sumL S) = 1 + sumL S + (x.2.2 - 1) by omega]
          exact_mod_cast h1
        · simp only [wstep, if_pos h0, List.mem_cons]
          rintro e (rfl | he)
          · simp; omega
          · exact h.bd e he
      · have hx0 : x.2.2 = 0 := by omega
        rw [hx0, show (1 : Int) + sumL S + (0 - 1) = sumL S by omega] at h1
        have hpos : 0 < sumL S := by
          have := sumL_pos S h.pos
          rcases Int.lt_or_eq_of_le this with hh | hh
          · exact hh
          · rw [← hh, drop_at l (k + 1) hk, chk, if_pos (.inl rfl)] at h1
            simp at h1
        obtain ⟨Z, j, f, T, e1, e2, e3, e4, e5⟩ := nextUp_spec S h.pos hpos
        refine ⟨?_, ?_, ?_, ?_⟩
        · rw [wstep, if_neg h0, e4]
          intro e he
          rcases List.mem_cons.1 he with rfl | he
          · simp; omega
          · exact h.pos e (by rw [e1]; simp [he])
        · rw [wstep, if_neg h0, e5, show (1 : Int) + (sumL S - 1) = sumL S by omega]
          exact_mod_cast h1
        · rw [wstep, if_neg h0]
          exact Nat.le_trans (nextUp_len S) (Nat.le_trans h.len (by omega))
        · rw [wstep, if_neg h0, e4]
          intro e he
          rcases List.mem_cons.1 he with rfl | he
          · have := h.bd (j, f) (by rw [e1]; simp)
            simp at this ⊢; omega
          · exact h.bd e (by rw [e1]; simp [he])
    · intro hx0
      rw [hx0, show (1 : Int) + sumL S + (0 - 1) = sumL S by omega] at h1
      have hpos : 0 < sumL S := by
        have := sumL_pos S h.pos
        rcases Int.lt_or_eq_of_le this with hh | hh
        · exact hh
        · rw [← hh, drop_at l (k + 1) hk, chk, if_pos (.inl rfl)] at h1
          simp at h1
      obtain ⟨Z, j, f, T, e1, e2, e3, e4, e5⟩ := nextUp_spec S h.pos hpos
      exact ⟨Z, j, f, T, e1, e2, e3, by rw [wstep, if_neg (by omega)]; exact e4⟩
def pathL (S : Stk) : List Int := (S.map Prod.fst).reverse
def leftL (S : Stk) : List Int := (S.map Prod.snd).reverse
def pathR (l : List Nd) (p : Int) : List Int := if place l p = 0 then pathL (way (l.take p.toNat) []) else []
end Go.Proofs.YtlbgdgobhiokpaaDoor

/- Path. -/
namespace Go.Proofs.YtlbgdgobhiokpaaDoor
open Go.RowKit
set_option linter.unusedVariables false

theorem E43 : Elem Tryd.prog 43 3 .i64 8 := ⟨Tryd.underlying43, Tryd.underlying3, by kernel_rfl⟩
/-- Two rows of numbers, apart from one another: which kid, how many behind it. -/
structure W2 (B : Nat) (w : World) (vp vf : Value) (S : Stk) : Prop where
  p : w.ownsRow B 3 1 vp S.length (cellsL .i64 (pathL S))
  f : w.ownsRow B 3 1 vf S.length (cellsL .i64 (leftL S))
  sep : ∀ g, vp.ownBlock = some g → vf.ownBlock = some g → False
section
variable {B : Nat} {w w' : World} {vp vf : Value} {S : Stk}
theorem W2.later (h : W2 B w vp vf S) (hB : Below w.heap.size w w') : W2 B w' vp vf S := by
  have hu : Upd (fun _ => False) w w' := Upd.of_below hB
  exact ⟨owns_upd h.p hu (fun _ _ h => h), owns_upd h.f hu (fun _ _ h => h), h.sep⟩
theorem pathL_cons (k c : Int) (S : Stk) : pathL ((k, c) :: S) = pathL S ++ [k] := by simp [pathL]
theorem leftL_cons (k c : Int) (S : Stk) : leftL ((k, c) :: S) = leftL S ++ [c] := by simp [leftL]
theorem W2.push (h : W2 B w vp vf S) (c : Int) (hn : S.length ≤ 1000000) (hB : B ≤ w.heap.size) :
    ∃ gp cp w1 gf cf w2, (Builtin.append_ #[43, 43] 43 #[vp, .slice (some ⟨w.heap.size, 0, none⟩) 1 1]).run Tryd.prog (w.alloc (.cells #[.int .i64 0] 3)) = .ok (.slice (some ⟨gp, 0, none⟩) (S.length + 1) cp) w1 ∧
      (Builtin.append_ #[43, 43] 43 #[vf, .slice (some ⟨w1.heap.size, 0, none⟩) 1 1]).run Tryd.prog (w1.alloc (.cells #[.int .i64 c] 3)) = .ok (.slice (some ⟨gf, 0, none⟩) (S.length + 1) cf) w2 ∧
      W2 B w2 (.slice (some ⟨gp, 0, none⟩) (S.length + 1) cp) (.slice (some ⟨gf, 0, none⟩) (S.length + 1) cf) ((0, c) :: S) ∧ Below B w w1 ∧ Below B w w2 ∧ ∀ q t xs, t ≠ 3 → Blk w q t xs → Blk w1 q t xs := by
  obtain ⟨gp, cp, w1, r1, o1, u1, l1⟩ := run_push E43 w 43 B vp S.length (pathL S) h.p 0 (by unfold maxLen; omega) (by omega) hB
  have hf1 : w1.ownsRow B 3 1 vf S.length (cellsL .i64 (leftL S)) := owns_upd h.f u1 (fun k hk hp => h.sep k hp hk)
  have hs1 : w.heap.size ≤ w1.heap.size := u1.size
  obtain ⟨gf, cf, w2, r2, o2, u2, l2⟩ := run_push E43 w1 43 B vf S.length (leftL S) hf1 c (by unfold maxLen; omega) (by omega) (by omega)
  have bp : ∀ k, vp.ownBlock = some k → B ≤ k ∧ k < w.heap.size := fun k hk => h.p.lt k hk
  have bf : ∀ k, vf.ownBlock = some k → B ≤ k ∧ k < w.heap.size := fun k hk => h.f.lt k hk
  have hne : gp ≠ gf := by
    have hg1 := (o1.lt gp rfl).2
    rintro rfl
    rcases l1 with l1 | l1 <;> rcases l2 with l2 | l2
    · exact h.sep _ l1 l2
    · have := (bp _ l1).2; omega
    · have := (bf _ l2).2; omega
    · omega
  refine ⟨gp, cp, w1, gf, cf, w2, r1, r2, ⟨?_, ?_, ?_⟩, u1.below B hB (fun k hk => (bp k hk).1), ?_, ?_⟩
  · rw [pathL_cons]
    exact owns_upd o1 u2 (fun k hk hv => by
      have hk' : gp = k := by simpa [Value.ownBlock] using hk
      subst hk'
      rcases l1 with l1 | l1
      · exact h.sep _ l1 hv
      · have := (bf _ hv).2; omega)
  · rw [leftL_cons]; exact o2
  · intro g hg hg2
    have e1 : gp = g := by simpa [Value.ownBlock] using hg
    have e2 : gf = g := by simpa [Value.ownBlock] using hg2
    exact hne (e1.trans e2.symm)
  · exact (u1.below B hB (fun k hk => (bp k hk).1)).trans (u2.below B (by omega) (fun k hk => (bf k hk).1))
  · intro q t xs ht hq
    refine hq.upd u1 fun hk => ?_
    rcases h.p.2 with ⟨e, _⟩ | ⟨g, cap, cur, e, _, hg, _⟩
    · rw [e] at hk; simp [Value.ownBlock] at hk
    · rw [e] at hk
      have e1 : g = q := by simpa [Value.ownBlock] using hk
      subst e1
      unfold Blk at hq
      rw [hg] at hq
      injection hq with hq
      injection hq with _ hq
      exact ht hq.symm
theorem own_is {g n c k : Nat} (h : (Value.slice (some ⟨g, 0, none⟩) n c).ownBlock = some k) : g = k := by simpa [Value.ownBlock] using h
/-- Cut back to so many, and the last ones set. -/
theorem own_back {e : TypeId} {v : Value} {n : Nat} {xs : List Value} (h : w.ownsRow B e 1 v n xs) (m : Nat) (hm : m < n) (u : Value) :
    ∃ g cap, v = .slice (some ⟨g, 0, none⟩) n cap ∧ B ≤ g ∧ n ≤ cap ∧ cap ≤ maxLen ∧ (∀ i, w.frozen? ⟨g, i, none⟩ = false) ∧ (∀ i, i < n → w.cell? ⟨g, i, none⟩ = xs[i]?) ∧ (w.setCell ⟨g, m, none⟩ u).ownsRow B e 1 (.slice (some ⟨g, 0, none⟩) (m + 1) cap) (m + 1) (xs.take m ++ [u]) := by
  obtain ⟨g, cap, ys, rfl, hb, hnc, hcm, hlen, htake, hK⟩ := own_blk h (by omega)
  refine ⟨g, cap, rfl, hb, hnc, hcm, fun i => hK.frozen i, fun i hi => ?_, ?_⟩
  · rw [hK.cell, ← htake, List.getElem?_take, if_pos hi]
  · have h2 := (hK.set m u).owns B (m + 1) cap hb (by simp [hlen]) (by omega) hcm
    have e1 : (ys.set m u).take (m + 1) = xs.take m ++ [u] := by
      rw [← htake, List.take_take, Nat.min_eq_left (by omega), List.take_add_one, List.take_set_of_le (Nat.le_refl _)]
      simp [List.getElem?_set, hlen]
      omega
    rw [e1] at h2
    exact h2
theorem leftL_cut (Z T : Stk) (j f : Int) : leftL (Z ++ (j, f) :: T) = leftL T ++ [f] ++ leftL Z := by simp [leftL]
theorem pathL_cut (Z T : Stk) (j f : Int) : pathL (Z ++ (j, f) :: T) = pathL T ++ [j] ++ pathL Z := by simp [pathL]
theorem leftL_len (T : Stk) : (leftL T).length = T.length := by simp [leftL]
theorem pathL_len (T : Stk) : (pathL T).length = T.length := by simp [pathL]
theorem left_zero (Z T : Stk) (j f : Int) (hZ : ∀ e ∈ Z, e.2 = 0) (i : Nat) (hi : T.length < i) (hn : i < Z.length + T.length + 1) : (leftL (Z ++ (j, f) :: T)).getD i 0 = 0 := by
  rw [leftL_cut, List.getD, List.getElem?_append_right (by simp [leftL_len]; omega)]
  simp only [List.length_append, leftL_len, List.length_singleton]
  have hlt : i - (T.length + 1) < (leftL Z).length := by rw [leftL_len]; omega
  rw [List.getElem?_eq_getElem hlt]
  have hm : (leftL Z)[i - (T.length + 1)] ∈ leftL Z := List.getElem_mem hlt
  simp only [leftL, List.mem_reverse, List.mem_map] at hm
  obtain ⟨e, he, h1⟩ := hm
  rw [Option.getD_some]
  exact h1.symm.trans (hZ e he)
theorem left_at (Z T : Stk) (j f : Int) : (leftL (Z ++ (j, f) :: T)).getD T.length 0 = f := by
  rw [leftL_cut, List.getD, List.getElem?_append_left (by simp [leftL_len]), List.getElem?_append_right (by simp [leftL_len])]
  simp [leftL_len]
theorem path_at (Z T : Stk) (j f : Int) : (pathL (Z ++ (j, f) :: T)).getD T.length 0 = j := by
  rw [pathL_cut, List.getD, List.getElem?_append_left (by simp [pathL_len]), List.getElem?_append_right (by simp [pathL_len])]
  simp [pathL_len]
theorem W2.back {Z T : Stk} {j f : Int} (h : W2 B w vp vf (Z ++ (j, f) :: T)) :
    ∃ gp cp gf cf, vp = .slice (some ⟨gp, 0, none⟩) (Z.length + T.length + 1) cp ∧ vf = .slice (some ⟨gf, 0, none⟩) (Z.length + T.length + 1) cf ∧ B ≤ gp ∧ B ≤ gf ∧ gp ≠ gf ∧ Z.length + T.length + 1 ≤ cp ∧ Z.length + T.length + 1 ≤ cf ∧ cp ≤ maxLen ∧ cf ≤ maxLen ∧
      w.frozen? ⟨gp, T.length, none⟩ = false ∧ w.frozen? ⟨gf, T.length, none⟩ = false ∧ w.cell? ⟨gp, T.length, none⟩ = some (.int .i64 j) ∧
      (∀ i, i < Z.length + T.length + 1 → w.cell? ⟨gf, i, none⟩ = some (.int .i64 ((leftL (Z ++ (j, f) :: T)).getD i 0))) ∧
      W2 B ((w.setCell ⟨gp, T.length, none⟩ (.int .i64 (j + 1))).setCell ⟨gf, T.length, none⟩ (.int .i64 (f - 1))) (.slice (some ⟨gp, 0, none⟩) (T.length + 1) cp) (.slice (some ⟨gf, 0, none⟩) (T.length + 1) cf) ((j + 1, f - 1) :: T) := by
  have hlen : (Z ++ (j, f) :: T).length = Z.length + T.length + 1 := by simp; omega
  have hp := h.p
  have hf := h.f
  have hsep := h.sep
  rw [hlen] at hp hf
  obtain ⟨gp, cp, rfl, bp, np, mp, zp, kp, op⟩ := own_back hp T.length (by omega) (.int .i64 (j + 1))
  obtain ⟨gf, cf, rfl, bf, nf, mf, zf, kf, -⟩ := own_back hf T.length (by omega) (.int .i64 (f - 1))
  have hne : gp ≠ gf := fun e => hsep gp rfl (by rw [e]; rfl)
  have hf2 : (w.setCell ⟨gp, T.length, none⟩ (.int .i64 (j + 1))).ownsRow B 3 1 (.slice (some ⟨gf, 0, none⟩) (Z.length + T.length + 1) cf) (Z.length + T.length + 1) (cellsL .i64 (leftL (Z ++ (j, f) :: T))) :=
    owns_upd hf ((Upd.refl (fun k => k = gp) w).set _ _ (.inl rfl)) (fun k hk e => hne ((own_is hk).trans e).symm)
  obtain ⟨gf', cf', e1, -, -, -, -, -, o2⟩ := own_back hf2 T.length (by omega) (.int .i64 (f - 1))
  have e2 : gf = gf' ∧ cf = cf' := by simpa using e1
  obtain ⟨rfl, rfl⟩ := e2
  refine ⟨gp, cp, gf, cf, rfl, rfl, bp, bf, hne, np, nf, mp, mf, zp _, zf _, ?_, ?_, ?_, ?_, ?_⟩
  · rw [kp _ (by omega), cellsL_at _ _ _ (by rw [pathL_len, hlen]; omega), path_at]
  · intro i hi
    rw [kf i hi, cellsL_at _ _ _ (by rw [leftL_len, hlen]; exact hi)]
  · have e3 : cellsL .i64 (pathL ((j + 1, f - 1) :: T)) = (cellsL .i64 (pathL (Z ++ (j, f) :: T))).take T.length ++ [.int .i64 (j + 1)] := by
      rw [pathL_cons, cellsL_append, pathL_cut]
      congr 1
      rw [List.append_assoc, cellsL_append, List.take_left' (by rw [cellsL_length, pathL_len])]
    rw [e3]
    exact owns_upd op ((Upd.refl (fun k => k = gf) _).set _ _ (.inl rfl)) (fun k hk e => hne ((own_is hk).trans e))
  · have e3 : cellsL .i64 (leftL ((j + 1, f - 1) :: T)) = (cellsL .i64 (leftL (Z ++ (j, f) :: T))).take T.length ++ [.int .i64 (f - 1)] := by
      rw [leftL_cons, cellsL_append, leftL_cut]
      congr 1
      rw [List.append_assoc, cellsL_append, List.take_left' (by rw [cellsL_length, leftL_len])]
    rw [e3]
    exact o2
  · intro g h1 h2
    have e1 : gp = g := by simpa [Value.ownBlock] using h1
    have e2 : gf = g := by simpa [Value.ownBlock] using h2
    exact hne (e1.trans e2.symm)
end
end Go.Proofs.YtlbgdgobhiokpaaDoor

/- Path. -/
namespace Go.Proofs.YtlbgdgobhiokpaaDoor
open Go.RowKit
set_option linter.unusedVariables false

theorem own_base {w : World} {B B' n : Nat} {e : TypeId} {c : Nat} {v : Value} {xs : List Value} (h : w.ownsRow B e c v n xs) (hb : B' ≤ B) : w.ownsRow B' e c v n xs := by
  refine ⟨h.1, ?_⟩
  rcases h.2 with hn | ⟨g, cap, cur, e1, hg, rest⟩
  · exact .inl hn
  · exact .inr ⟨g, cap, cur, e1, Nat.le_trans hb hg, rest⟩
theorem take_snoc (l : List Nd) (k : Nat) (h : k < l.length) : l.take (k + 1) = l.take k ++ [l.getD k nil0] := by
  rw [List.take_add_one]; simp [List.getD, List.getElem?_eq_getElem h]
set_option maxRecDepth 100000 in
set_option maxHeartbeats 4000000 in
theorem path_any (a : Option Addr) (len cap : Nat) (p : Int) (l : List Nd) (w : World) (hl : l.length = len) (hcap : len ≤ cap) (hs : len ≤ 1000000) (hcm : cap ≤ 9223372036854775807) (hr : Hid (NRow w a l)) :
    Calls Tryd.prog 19 #[.slice a len cap, .int .i64 p] w fun e w' => ∃ v, e = .returned (.tuple #[v, .int .i64 (place l p)]) ∧ Hid (w'.ownsRow w.heap.size 3 1 v (pathR l p).length (cellsL .i64 (pathR l p))) ∧ Below w.heap.size w w' := by
  go_enter Tryd.func19, Tryd.ntmps19
  go_wp2_with fail
  refine (place_any a len cap p l w hl hs hr).mono ?_; rintro e w1 ⟨rfl, hB1⟩
  by_cases h : place l p = 0
  · obtain ⟨h0, h1, h2⟩ := place_ok h
    obtain ⟨q, rfl⟩ := Int.eq_ofNat_of_zero_le h1
    have hr1 : Hid (NRow w1 a l) := hr.out.later hB1
    obtain ⟨b, off, rfl, hb, hc⟩ := hr1.out.open (by omega)
    have HC : Hid (∀ i, i < l.length → w1.cell? ⟨b, off + i * 3, none⟩ = some (.int .i64 (l.getD i nil0).1) ∧ w1.cell? ⟨b, off + i * 3 + 1, none⟩ = some (.int .u64 (l.getD i nil0).2.1) ∧ w1.cell? ⟨b, off + i * 3 + 2, none⟩ = some (.int .i64 (l.getD i nil0).2.2)) := hc
    have HR : Hid (pathR l (q : Int) = pathL (way (l.take q) [])) := by show _ = _; rw [pathR, if_pos h]; rfl
    have HP : Hid (place l (q : Int) = 0) := h
    have hbw : Hid (b < w1.heap.size) := hb
    have hq : q < len := by omega
    have HW0 : Hid (WOK l 0 []) := WOK.begin h0
    clear hc hr1 h0
    rw [h]
    clear h
    have hql : (q : Int) ≤ cap := by omega
    go_wp2_with fail
    go_loopw [7, 8, 22] (fun xp xf i wr => ∃ (k : Nat) (vp vf : Value), vp = xp ∧ vf = xf ∧ k ≤ q ∧ i = .int .i64 k ∧ Hid (WOK l k (way (l.take k) [])) ∧ Hid (W2 w1.heap.size wr vp vf (way (l.take k) [])) ∧ Hid (Below w1.heap.size w1 wr)) (fun _ _ i _ => q - (intOf i).toNat)
    case atStart => exact ⟨0, _, _, rfl, rfl, Nat.zero_le _, rfl, HW0, ⟨World.ownsRow_nil _ _ _ _, World.ownsRow_nil _ _ _ _, fun g h => by simp [Value.ownBlock] at h⟩, Below.refl _ _⟩
    case round =>
      clear HW0
      obtain ⟨k, vp, vf, rfl, rfl, hk, rfl, HW, HV, HB⟩ := hrel
      by_cases hlt : k < q
      · obtain ⟨c0, c1, c2⟩ := HC.out k (by omega)
        have d0 := (HB.out.cell (p := ⟨b, off + k * 3, none⟩) hbw.out).trans c0
        have d1 := (HB.out.cell (p := ⟨b, off + k * 3 + 1, none⟩) hbw.out).trans c1
        have d2 := (HB.out.cell (p := ⟨b, off + k * 3 + 2, none⟩) hbw.out).trans c2
        obtain ⟨HW1, x0, x1, HX⟩ := HW.out.step (by omega)
        have HS : Hid (way (l.take (k + 1)) [] = wstep (way (l.take k) []) (l.getD k nil0)) := by show _ = _; rw [take_snoc l k (by omega), way_snoc]
        have HW2 : Hid (WOK l (k + 1) (wstep (way (l.take k) []) (l.getD k nil0))) := HW1
        have HX2 : Hid ((l.getD k nil0).2.2 = 0 → ∃ Z j f T, way (l.take k) [] = Z ++ (j, f) :: T ∧ (∀ e ∈ Z, e.2 = 0) ∧ 0 < f ∧ wstep (way (l.take k) []) (l.getD k nil0) = (j + 1, f - 1) :: T) := HX
        have HBD : Hid (∀ e ∈ way (l.take k) [], 0 ≤ e.1 ∧ e.1 + e.2 < 1048576) := HW.out.bd
        have hlen : (way (l.take k) []).length ≤ 1000000 := by have := HW.out.len; omega
        clear c0 c1 c2 HW1 HX HW
        generalize l.getD k nil0 = x at *
        generalize way (l.take k) [] = S at *
        obtain ⟨xk, xn, xc⟩ := x
        simp only at d0 d1 d2 x0 x1
        have hBsz : w1.heap.size ≤ wr.heap.size := HB.out.size
        obtain ⟨wB, hwB⟩ : ∃ wB, wB = wr.alloc (.cells #[.int .i64 xk, .int .u64 xn, .int .i64 xc] 37) := ⟨_, rfl⟩
        have HBB : Hid (Below wr.heap.size wr wB) := by rw [hwB]; exact (Below.refl _ _).alloc (Nat.le_refl _) _
        have KB : Hid (Blk wB wr.heap.size 37 [.int .i64 xk, .int .u64 xn, .int .i64 xc]) := by rw [hwB]; exact Blk.newA wr _ 37
        have HVB : Hid (W2 w1.heap.size wB vp vf S) := HV.out.later HBB.out
        have hBs2 : w1.heap.size ≤ wB.heap.size := Nat.le_trans hBsz HBB.out.size
        have HB2 : Hid (Below w1.heap.size w1 wB) := HB.out.trans (HBB.out.mono HB.out.size)
        clear HV HB HBB
        go_upto_region 9 with fail
        rw [← hwB]
        clear hwB d0 d1 d2
        have c2 : wB.cell? ⟨wr.heap.size, 2, none⟩ = some (.int .i64 xc) := KB.out.cell 2
        by_cases hx : 0 < xc
        · obtain ⟨gp, cp, w2, gf, cf, w3, r1, r2, HV3, HB3, HB4, hkeep⟩ := HVB.out.push (xc - 1) hlen hBs2
          have d2 : w2.cell? ⟨wr.heap.size, 2, none⟩ = some (.int .i64 xc) := (hkeep _ _ _ (by decide) KB.out).cell 2
          have HV4 : Hid _ := HV3
          have HB5 : Hid (Below w1.heap.size w1 w3) := HB2.out.trans HB4
          have HS2 : Hid (way (l.take (k + 1)) [] = (0, xc - 1) :: S) := by have := HS.out; rw [wstep, if_pos hx] at this; exact this
          have HW3 : Hid (WOK l (k + 1) (way (l.take (k + 1)) [])) := by rw [HS.out]; exact HW2.out
          have R1 : Hid _ := r1
          have R2 : Hid _ := r2
          clear HV3 HB3 HB4 hkeep HVB HX2 KB HB2 HW2 HS r1 r2
          go_wp2_with (first | (at_builtin; have _t := R1; refine wpList_append_run rfl (.tmp 29) (.tmp 30) 43 43 rfl rfl rfl R1.out ?_; clear R1) | (at_builtin; have _t := R2; refine wpList_append_run rfl (.tmp 32) (.tmp 36) 43 43 rfl rfl rfl R2.out ?_; clear R2))
          go_roundw
          case rel => exact ⟨k + 1, _, _, rfl, rfl, by omega, by go_num, HW3, by rw [HS2.out]; exact HV4.out, HB5⟩
          case measure => simp [intOf]; omega
        · obtain ⟨Z, j, f, T, rfl, hZ, hf, hS⟩ := HX2.out (by show xc = 0; omega)
          obtain ⟨gp, cp, gf, cf, rfl, rfl, bp, bf, hne, np, nf, mp, mf, zp, zf, kp, kf, HV3⟩ := HVB.out.back
          have HV4 : Hid _ := HV3
          have HS2 : Hid (way (l.take (k + 1)) [] = (j + 1, f - 1) :: T) := by have := HS.out; rw [hS] at this; exact this
          have HW3 : Hid (WOK l (k + 1) (way (l.take (k + 1)) [])) := by rw [HS.out]; exact HW2.out
          have HF : Hid (∀ i, i < Z.length + T.length + 1 → wB.cell? ⟨gf, i, none⟩ = some (.int .i64 ((leftL (Z ++ (j, f) :: T)).getD i 0))) := kf
          have HB5 : Hid (Below w1.heap.size w1 ((wB.setCell ⟨gp, T.length, none⟩ (.int .i64 (j + 1))).setCell ⟨gf, T.length, none⟩ (.int .i64 (f - 1)))) := (HB2.out.setCell bp _).setCell bf _
          have hzt : Z.length + T.length + 1 ≤ 1000000 := by simp at hlen; omega
          unfold maxLen at mp mf
          have hjb := HBD.out (j, f) (by simp)
          simp only at hjb
          clear HV3 HVB HX2 KB HW2 HS hS kf HB2 hlen
          go_wp2_with fail
          go_loopw [11] (fun i wx => ∃ (y : Nat), T.length ≤ y ∧ y < Z.length + T.length + 1 ∧ i = .int .i64 y ∧ wB = wx) (fun i _ => (intOf i).toNat)
          case atStart => exact ⟨Z.length + T.length, by omega, by omega, by go_num, rfl⟩
          case round =>
            obtain ⟨y, hy0, hy1, rfl, rfl⟩ := hrel
            have ky := HF.out y hy1
            by_cases hy : y = T.length
            · subst hy
              rw [left_at] at ky
              have hf0 : ¬ f = 0 := by omega
              clear HF
              have k2 : (wB.setCell ⟨gp, T.length, none⟩ (.int .i64 (j + 1))).cell? ⟨gf, T.length, none⟩ = some (.int .i64 f) := by
                rw [World.cell?_setCell_far _ _ _ _ hne]; exact ky
              have z2 : (wB.setCell ⟨gp, T.length, none⟩ (.int .i64 (j + 1))).frozen? ⟨gf, T.length, none⟩ = false := by rw [World.frozen?_setCell]; exact zf
              go_wp2_with fail
              go_region
              go_wp2
              go_roundw
              case rel => exact ⟨k + 1, _, _, rfl, rfl, by omega, by go_num, HW3, by rw [HS2.out]; exact HV4.out.later (Below.refl _ _).drew, HB5.out.drew⟩
              case measure => simp [intOf]; omega
            · rw [left_zero Z T j f hZ y (by omega) hy1] at ky
              have hy2 : (1 : Int) ≤ y := by omega
              go_wp2
              go_roundw
              case rel => exact ⟨y - 1, by omega, by omega, by go_num, trivial⟩
              case measure => simp [intOf]; omega
      · obtain rfl : k = q := by omega
        go_wp2
        go_ret2
        exact ⟨_, by rw [HP.out]; rfl, by rw [HR.out, pathL_len]; exact own_base HV.out.p hB1.size, hB1.trans (HB.out.mono hB1.size)⟩
  · go_wp2
    go_ret2
    exact ⟨_, rfl, by rw [pathR, if_neg h]; exact World.ownsRow_nil _ _ _ _, hB1⟩
end Go.Proofs.YtlbgdgobhiokpaaDoor

/-
  DERIVED: THE SHELF's CONTRACTS AT THIS DUMP, IN PLAIN WORDS (tools/lay-plain.mjs out of 'TrydShelf.lean', which tools/lay-shelf.mjs wrote): THE SAME DECLARATIONS UNDER THE SAME NAMES: 'import', 'namespace', 'open', 'def', 'theorem' AND NOTHING ELSE: no command of the shelf's: FOR A HAND-IN. Each laying: the table of numbers ('.._ren') and one theorem, a field a fact of the dump's own or the kernel's comparison; each contract: ONE APPLICATION.
-/
namespace Go.Proofs
open Go.Shelf
def Tryd.lays129_ren : Go.Shelf.Ren := ⟨fun | 129 => 89 | n => n, fun | 53 => 35 | 3 => 3 | 4 => 4 | 46 => 158 | 5 => 5 | 9 => 9 | n => n, fun | n => n⟩
theorem Tryd.lays129 : Go.Proofs.Lays.n129 Tryd.prog Tryd.lays129_ren := {
  mixed := by kernel_rfl
  f129 := Tryd.func89.trans (congrArg some (by kernel_rfl))
  t3 := Tryd.underlying3
  a3 := Tryd.isAgg3
  z3 := Tryd.sizeOf3
  v3 := Tryd.zeroValue3
  t4 := Tryd.underlying4
  a4 := Tryd.isAgg4
  z4 := Tryd.sizeOf4
  v4 := Tryd.zeroValue4
  t5 := Tryd.underlying5
  a5 := Tryd.isAgg5
  z5 := Tryd.sizeOf5
  v5 := Tryd.zeroValue5
  t9 := Tryd.underlying9
  a9 := Tryd.isAgg9
  z9 := Tryd.sizeOf9
  v9 := Tryd.zeroValue9
  t46 := Tryd.underlying158
  a46 := Tryd.isAgg158
  z46 := Tryd.sizeOf158
  v46 := Tryd.zeroValue158
  t53 := Tryd.underlying35
  a53 := Tryd.isAgg35
  z53 := Tryd.sizeOf35
  v53 := Tryd.zeroValue35 }
/-- bits.Len64: "Len64 returns the minimum number of bits required to represent x; the result is 0 for x == 0.": IT RETURNS 'Lib.bitLen x'; the world is as it was. ('h0', 'h1': x is a uint64.) (LAID: no walk: one application.) -/
theorem Tryd.bits_Len64 (x : Int) (w : World) (h0 : 0 ≤ x) (h1 : x ≤ 18446744073709551615) :
    Calls Tryd.prog 89 #[.int .u64 x] w fun e w' => e = .returned (.int .i64 (Lib.bitLen x.toNat)) ∧ w' = w := Any.bits_Len64 Tryd.lays129 x w h0 h1
def Tryd.lays317_ren : Go.Shelf.Ren := ⟨fun | 317 => 88 | n => n, fun | 3 => 3 | 46 => 158 | n => n, fun | n => n⟩
theorem Tryd.lays317 : Go.Proofs.Lays.n317 Tryd.prog Tryd.lays317_ren := {
  mixed := by kernel_rfl
  f317 := Tryd.func88.trans (congrArg some (by kernel_rfl))
  t3 := Tryd.underlying3
  a3 := Tryd.isAgg3
  z3 := Tryd.sizeOf3
  v3 := Tryd.zeroValue3
  t46 := Tryd.underlying158
  a46 := Tryd.isAgg158
  z46 := Tryd.sizeOf158
  v46 := Tryd.zeroValue158 }
open Go.Lib in
/-- internal/strconv.log10Pow2: "log10Pow2(x) returns ⌊log₁₀ 2**x⌋ = ⌊x * log₁₀ 2⌋.": '(x * 78913) >> 18', at an x up to 64 (a length in bits). The world is as it was. (LAID: no walk: one application.) -/
theorem Tryd.internal_strconv_log10Pow2 (x : Nat) (h : x ≤ 64) (w : World) :
    Calls Tryd.prog 88 #[.int .i64 x] w fun e w' => e = .returned (.int .i64 (Lib.l10 x)) ∧ w' = w := Any.internal_strconv_log10Pow2 Tryd.lays317 x h w
def Tryd.lays318_ren : Go.Shelf.Ren := ⟨fun | 318 => 90 | n => n, fun | 3 => 3 | 4 => 4 | n => n, fun | n => n⟩
theorem Tryd.lays318 : Go.Proofs.Lays.n318 Tryd.prog Tryd.lays318_ren := {
  mixed := by kernel_rfl
  f318 := Tryd.func90.trans (congrArg some (by kernel_rfl))
  t3 := Tryd.underlying3
  a3 := Tryd.isAgg3
  z3 := Tryd.sizeOf3
  v3 := Tryd.zeroValue3
  t4 := Tryd.underlying4
  a4 := Tryd.isAgg4
  z4 := Tryd.sizeOf4
  v4 := Tryd.zeroValue4 }
open Go.Lib in
/-- internal/strconv.bool2: "bool2 converts b to an integer: 1 for true, 0 for false." The world is as it was. (LAID: no walk: one application.) -/
theorem Tryd.internal_strconv_bool2_int (b : Bool) (w : World) :
    Calls Tryd.prog 90 #[.bool b] w fun e w' => e = .returned (.int .i64 (if b then 1 else 0)) ∧ w' = w := Any.internal_strconv_bool2_int Tryd.lays318 b w
def Tryd.lays283_ren : Go.Shelf.Ren := ⟨fun | 283 => 78 | n => n, fun | 3 => 3 | 9 => 9 | 4 => 4 | n => n, fun | n => n⟩
theorem Tryd.lays283 : Go.Proofs.Lays.n283 Tryd.prog Tryd.lays283_ren := {
  mixed := by kernel_rfl
  f283 := Tryd.func78.trans (congrArg some (by kernel_rfl))
  t3 := Tryd.underlying3
  a3 := Tryd.isAgg3
  z3 := Tryd.sizeOf3
  v3 := Tryd.zeroValue3
  t4 := Tryd.underlying4
  a4 := Tryd.isAgg4
  z4 := Tryd.sizeOf4
  v4 := Tryd.zeroValue4
  t9 := Tryd.underlying9
  a9 := Tryd.isAgg9
  z9 := Tryd.sizeOf9
  v9 := Tryd.zeroValue9 }
open Go.Lib in
/-- internal/strconv.small: "small returns the string for an i with 0 <= i < nSmalls.": i's decimal numeral. The world is as it was. (LAID: no walk: one application.) -/
theorem Tryd.internal_strconv_small (i : Nat) (h : i < 100) (w : World) :
    Calls Tryd.prog 78 #[.int .i64 i] w fun e w' => e = .returned (.string ⟨(Lib.decDigits i).toArray⟩) ∧ w' = w := Any.internal_strconv_small Tryd.lays283 i h w
def Tryd.laysM284_ren : Go.Shelf.Ren := ⟨fun | 284 => 79 | 129 => 89 | 317 => 88 | 318 => 90 | n => n, fun | 53 => 35 | 3 => 3 | 212 => 154 | 0 => 0 | 4 => 4 | 46 => 158 | 5 => 5 | 9 => 9 | n => n, fun | 17 => 0 | n => n⟩
theorem Tryd.laysM284 : Go.Proofs.LaysM.n284 Tryd.prog Tryd.laysM284_ren := {
  mixed := by kernel_rfl
  f129 := Tryd.func89.trans (congrArg some (by kernel_rfl))
  f284 := Tryd.func79.trans (congrArg some (by kernel_rfl))
  f317 := Tryd.func88.trans (congrArg some (by kernel_rfl))
  f318 := Tryd.func90.trans (congrArg some (by kernel_rfl))
  t0 := Tryd.underlying0
  a0 := Tryd.isAgg0
  z0 := Tryd.sizeOf0
  v0 := Tryd.zeroValue0
  t3 := Tryd.underlying3
  a3 := Tryd.isAgg3
  z3 := Tryd.sizeOf3
  v3 := Tryd.zeroValue3
  t4 := Tryd.underlying4
  a4 := Tryd.isAgg4
  z4 := Tryd.sizeOf4
  v4 := Tryd.zeroValue4
  t5 := Tryd.underlying5
  a5 := Tryd.isAgg5
  z5 := Tryd.sizeOf5
  v5 := Tryd.zeroValue5
  t9 := Tryd.underlying9
  a9 := Tryd.isAgg9
  z9 := Tryd.sizeOf9
  v9 := Tryd.zeroValue9
  t46 := Tryd.underlying158
  a46 := Tryd.isAgg158
  z46 := Tryd.sizeOf158
  v46 := Tryd.zeroValue158
  t53 := Tryd.underlying35
  a53 := Tryd.isAgg35
  z53 := Tryd.sizeOf35
  v53 := Tryd.zeroValue35
  t212 := Tryd.underlying154
  a212 := Tryd.isAgg154
  z212 := Tryd.sizeOf154
  v212 := Tryd.zeroValue154
  g17 := by kernel_rfl
  i0 := by kernel_rfl
  i3 := by kernel_rfl
  i4 := by kernel_rfl
  i5 := by kernel_rfl
  i9 := by kernel_rfl
  i46 := by kernel_rfl
  i53 := by kernel_rfl
  i212 := by kernel_rfl
  m17 := by kernel_rfl }
open Go.Lib in
/-- internal/strconv.numDigits, at a d that is not 0: THE NUMBER OF d's DECIMAL DIGITS. The world is as it was. (LAID: no walk: one application.) -/
theorem Tryd.internal_strconv_numDigits (u : Nat) (h1 : 1 ≤ u) (h2 : u < 18446744073709551616) (w : World) (htab : Lib.TabIs Tryd.prog w "internal/strconv.uint64pow10" .u64 Lib.pow10Tab) :
    Calls Tryd.prog 79 #[.int .u64 u] w fun e w' => e = .returned (.int .i64 (Lib.nDigits u)) ∧ w' = w := Any.internal_strconv_numDigits Tryd.laysM284 u h1 h2 w htab
def Tryd.lays285_ren : Go.Shelf.Ren := ⟨fun | 285 => 80 | n => n, fun | 37 => 41 | 53 => 35 | 3 => 3 | 4 => 4 | 51 => 155 | 9 => 9 | 5 => 5 | 0 => 0 | n => n, fun | n => n⟩
theorem Tryd.lays285 : Go.Proofs.Lays.n285 Tryd.prog Tryd.lays285_ren := {
  mixed := by kernel_rfl
  f285 := Tryd.func80.trans (congrArg some (by kernel_rfl))
  t0 := Tryd.underlying0
  a0 := Tryd.isAgg0
  z0 := Tryd.sizeOf0
  v0 := Tryd.zeroValue0
  t3 := Tryd.underlying3
  a3 := Tryd.isAgg3
  z3 := Tryd.sizeOf3
  v3 := Tryd.zeroValue3
  t4 := Tryd.underlying4
  a4 := Tryd.isAgg4
  z4 := Tryd.sizeOf4
  v4 := Tryd.zeroValue4
  t5 := Tryd.underlying5
  a5 := Tryd.isAgg5
  z5 := Tryd.sizeOf5
  v5 := Tryd.zeroValue5
  t9 := Tryd.underlying9
  a9 := Tryd.isAgg9
  z9 := Tryd.sizeOf9
  v9 := Tryd.zeroValue9
  t37 := Tryd.underlying41
  a37 := Tryd.isAgg41
  z37 := Tryd.sizeOf41
  v37 := Tryd.zeroValue41
  t51 := Tryd.underlying155
  a51 := Tryd.isAgg155
  z51 := Tryd.sizeOf155
  v51 := Tryd.zeroValue155
  t53 := Tryd.underlying35
  a53 := Tryd.isAgg35
  z53 := Tryd.sizeOf35
  v53 := Tryd.zeroValue35 }
open Go.RowKit Go.Sort Go.Lib in
/-- internal/strconv.formatBase10: "formatBase10 formats the decimal representation of u into a. The caller is responsible for ensuring that a is big enough to hold u. If a is too big, leading zeros will be filled in as needed.": THE ROW HOLDS u's DIGITS ('FmtInv .. 0 ..': every place t holds 'dg u (len - 1 - t)'); all else is as it was but for the count of draws. (LAID: no walk: one application.) -/
theorem Tryd.internal_strconv_formatBase10 (blk off cap : Nat) (u : Nat) (d : Array UInt8) (w : World) (hH : Holds (fun (b : UInt8) => Value.int .u8 (b.toNat : Int)) w blk off d) (hu : u < 10 ^ d.size) (hu64 : u < 18446744073709551616) (hsz : d.size < 4611686018427387904) :
    Calls Tryd.prog 80 #[.slice (some ⟨blk, off, none⟩) d.size cap, .int .u64 u] w fun e w' =>
      e = .returned (.tuple #[]) ∧ ∃ (n v' : Nat) (dk : Array UInt8), w' = (putRow (fun (b : UInt8) => Value.int .u8 (b.toNat : Int)) w blk off dk).drewN n ∧ FmtInv d.size u 0 v' dk := Any.internal_strconv_formatBase10 Tryd.lays285 blk off cap u d w hH hu hu64 hsz
def Tryd.laysM288_ren : Go.Shelf.Ren := ⟨fun | 288 => 71 | 283 => 78 | 284 => 79 | 285 => 80 | 286 => 81 | 129 => 89 | 317 => 88 | 318 => 90 | 319 => 91 | 320 => 92 | 337 => 94 | 338 => 95 | n => n, fun | 37 => 41 | 53 => 35 | 3 => 3 | 4 => 4 | 9 => 9 | 171 => 144 | 0 => 0 | 173 => 147 | 212 => 154 | 51 => 155 | 5 => 5 | 20 => 20 | 213 => 156 | 46 => 158 | 232 => 161 | 233 => 162 | n => n, fun | 17 => 0 | 18 => 1 | 19 => 2 | n => n⟩
theorem Tryd.laysM288 : Go.Proofs.LaysM.n288 Tryd.prog Tryd.laysM288_ren := {
  mixed := by kernel_rfl
  f129 := Tryd.func89.trans (congrArg some (by kernel_rfl))
  f283 := Tryd.func78.trans (congrArg some (by kernel_rfl))
  f284 := Tryd.func79.trans (congrArg some (by kernel_rfl))
  f285 := Tryd.func80.trans (congrArg some (by kernel_rfl))
  f286 := Tryd.func81.trans (congrArg some (by kernel_rfl))
  f288 := Tryd.func71.trans (congrArg some (by kernel_rfl))
  f317 := Tryd.func88.trans (congrArg some (by kernel_rfl))
  f318 := Tryd.func90.trans (congrArg some (by kernel_rfl))
  f319 := Tryd.func91.trans (congrArg some (by kernel_rfl))
  f320 := Tryd.func92.trans (congrArg some (by kernel_rfl))
  f337 := Tryd.func94.trans (congrArg some (by kernel_rfl))
  f338 := Tryd.func95.trans (congrArg some (by kernel_rfl))
  t0 := Tryd.underlying0
  a0 := Tryd.isAgg0
  z0 := Tryd.sizeOf0
  v0 := Tryd.zeroValue0
  t3 := Tryd.underlying3
  a3 := Tryd.isAgg3
  z3 := Tryd.sizeOf3
  v3 := Tryd.zeroValue3
  t4 := Tryd.underlying4
  a4 := Tryd.isAgg4
  z4 := Tryd.sizeOf4
  v4 := Tryd.zeroValue4
  t5 := Tryd.underlying5
  a5 := Tryd.isAgg5
  z5 := Tryd.sizeOf5
  v5 := Tryd.zeroValue5
  t9 := Tryd.underlying9
  a9 := Tryd.isAgg9
  z9 := Tryd.sizeOf9
  v9 := Tryd.zeroValue9
  t20 := Tryd.underlying20
  a20 := Tryd.isAgg20
  z20 := Tryd.sizeOf20
  v20 := Tryd.zeroValue20
  t37 := Tryd.underlying41
  a37 := Tryd.isAgg41
  z37 := Tryd.sizeOf41
  v37 := Tryd.zeroValue41
  t46 := Tryd.underlying158
  a46 := Tryd.isAgg158
  z46 := Tryd.sizeOf158
  v46 := Tryd.zeroValue158
  t51 := Tryd.underlying155
  a51 := Tryd.isAgg155
  z51 := Tryd.sizeOf155
  v51 := Tryd.zeroValue155
  t53 := Tryd.underlying35
  a53 := Tryd.isAgg35
  z53 := Tryd.sizeOf35
  v53 := Tryd.zeroValue35
  t171 := Tryd.underlying144
  a171 := Tryd.isAgg144
  z171 := Tryd.sizeOf144
  v171 := Tryd.zeroValue144
  t173 := Tryd.underlying147
  a173 := Tryd.isAgg147
  z173 := Tryd.sizeOf147
  v173 := Tryd.zeroValue147
  t212 := Tryd.underlying154
  a212 := Tryd.isAgg154
  z212 := Tryd.sizeOf154
  v212 := Tryd.zeroValue154
  t213 := Tryd.underlying156
  a213 := Tryd.isAgg156
  z213 := Tryd.sizeOf156
  t232 := Tryd.underlying161
  a232 := Tryd.isAgg161
  z232 := Tryd.sizeOf161
  v232 := Tryd.zeroValue161
  t233 := Tryd.underlying162
  a233 := Tryd.isAgg162
  z233 := Tryd.sizeOf162
  v233 := Tryd.zeroValue162
  g17 := by kernel_rfl
  g18 := by kernel_rfl
  g19 := by kernel_rfl
  i0 := by kernel_rfl
  i3 := by kernel_rfl
  i4 := by kernel_rfl
  i5 := by kernel_rfl
  i9 := by kernel_rfl
  i20 := by kernel_rfl
  i37 := by kernel_rfl
  i46 := by kernel_rfl
  i51 := by kernel_rfl
  i53 := by kernel_rfl
  i171 := by kernel_rfl
  i173 := by kernel_rfl
  i212 := by kernel_rfl
  i232 := by kernel_rfl
  i233 := by kernel_rfl
  m17 := by kernel_rfl
  m18 := by kernel_rfl
  m19 := by kernel_rfl }
open Go.RowKit Go.Sort Go.Lib in
/-- internal/strconv.AppendUint(dst, i, 10), i BELOW 100: WHAT COMES BACK OWNS dst's CELLS AND, BEHIND THEM, i's DECIMAL NUMERAL. No table is read. Below the call's own blocks nothing has turned. (LAID: no walk: one application.) -/
theorem Tryd.internal_strconv_AppendUint_10_small (B n u : Nat) (hu : u < 100) (sv : Value) (xs : List Value) (w : World) (hown : w.ownsRow B 5 1 sv n xs) (hBw : B ≤ w.heap.size) (hlim : n + 20 ≤ 140737488355328) :
    Calls Tryd.prog 71 #[sv, .int .u64 u, .int .i64 10] w fun e w' => ∃ v', e = .returned v' ∧ w'.ownsRow B 5 1 v' (n + (Lib.decDigits u).length) (xs ++ Lib.byteCells (Lib.decDigits u)) ∧ Below B w w' ∧ Lib.OthersKept 5 none w w' := Any.internal_strconv_AppendUint_10_small Tryd.laysM288 B n u hu sv xs w hown hBw hlim
open Go.RowKit Go.Sort Go.Lib in
/-- internal/strconv.AppendUint(dst, i, 10), i FROM 100 ON: likewise; the digits are laid in an array of the call's own and appended. (LAID: no walk: one application.) -/
theorem Tryd.internal_strconv_AppendUint_10_big (B n u : Nat) (hu : 100 ≤ u) (hu64 : u < 18446744073709551616) (sv : Value) (xs : List Value) (w : World) (hown : w.ownsRow B 5 1 sv n xs) (hBw : B ≤ w.heap.size) (hlim : n + 20 ≤ 140737488355328) (htab : Lib.TabIs Tryd.prog w "internal/strconv.uint64pow10" .u64 Lib.pow10Tab) :
    Calls Tryd.prog 71 #[sv, .int .u64 u, .int .i64 10] w fun e w' => ∃ v', e = .returned v' ∧ w'.ownsRow B 5 1 v' (n + (Lib.decDigits u).length) (xs ++ Lib.byteCells (Lib.decDigits u)) ∧ Below B w w' ∧ Lib.OthersKept 5 none w w' := Any.internal_strconv_AppendUint_10_big Tryd.laysM288 B n u hu hu64 sv xs w hown hBw hlim htab
end Go.Proofs

/- Rows of structs; texts that grow; a node's text up to its first kid's. -/
namespace Go.Proofs.YtlbgdgobhiokpaaDoor
open Go.RowKit
set_option linter.unusedVariables false

section
variable {w w' : World} {B n c : Nat} {e : TypeId} {v : Value} {xs : List Value}
theorem ownS_blk (h : w.ownsRow B e c v n xs) (hn : 0 < n) :
    ∃ g cap ys, v = .slice (some ⟨g, 0, none⟩) n cap ∧ B ≤ g ∧ n ≤ cap ∧ cap ≤ maxLen ∧ ys.length = cap * c ∧ ys.take (n * c) = xs ∧ Blk w g e ys := by
  rcases h.2 with ⟨_, h0⟩ | ⟨g, cap, cur, rfl, hb, hg, hnc, hcm, hs, ht⟩
  · omega
  · exact ⟨g, cap, cur.toList, rfl, hb, hnc, hcm, by simpa using hs, by simpa using ht, by unfold Blk; rw [Array.toArray_toList]; exact hg⟩
theorem ownS_of_blk {g cap : Nat} {ys : List Value} (h : Blk w g e ys) (hb : B ≤ g) (hl : ys.length = cap * c) (hn : n ≤ cap) (hm : cap ≤ maxLen) : w.ownsRow B e c (.slice (some ⟨g, 0, none⟩) n cap) n (ys.take (n * c)) :=
  ⟨by rw [List.length_take, hl]; exact Nat.min_eq_left (Nat.mul_le_mul_right c hn), .inr ⟨g, cap, ys.toArray, rfl, hb, h, hn, hm, by simp [hl], by simp⟩⟩
theorem ownS_upd {S : Nat → Prop} (h : w.ownsRow B e c v n xs) (hu : Upd S w w') (hs : ∀ k, v.ownBlock = some k → ¬ S k) : w'.ownsRow B e c v n xs := by
  refine ⟨h.1, ?_⟩
  rcases h.2 with hn | ⟨g, cap, cur, rfl, hb, hg, rest⟩
  · exact .inl hn
  · exact .inr ⟨g, cap, cur, rfl, hb, (hu.block g (Array.getElem?_eq_some_iff.1 hg).1 (hs g rfl)).trans hg, rest⟩
theorem ownS_type (h : w.ownsRow B e c v n xs) {k : Nat} (hk : v.ownBlock = some k) : ∃ ys, Blk w k e ys := by
  rcases h.2 with ⟨rfl, _⟩ | ⟨g, cap, cur, rfl, hb, hg, _⟩
  · simp [Value.ownBlock] at hk
  · obtain rfl : g = k := own_is hk
    exact ⟨cur.toList, by unfold Blk; rw [Array.toArray_toList]; exact hg⟩
theorem blk_type {g : Nat} {t t' : TypeId} {xs ys : List Value} (h : Blk w g t xs) (k : Blk w g t' ys) : t = t' := by
  unfold Blk at h k
  rw [h] at k
  injection k with k
  injection k with _ k
/-- append(v, x), x a struct written out. -/
theorem run_pushS {P : Program} {t : TypeId} {z : Value} {bytes : Nat} (ht : P.underlying t = some (.slice e)) (hinfo : (P.info? e).map (fun i => (i.zero, i.size, i.bytes)) = some (some z, c, bytes)) (hzs : z.cells.size = c) (hc : 0 < c)
    (w : World) (ty : Nat) (hown : w.ownsRow B e c v n xs) (news : List Value) (hl : news.length = c) (hx : ∀ u ∈ news, u.oneCell' = true) (h63 : n + 1 ≤ maxLen) (hb : (n + 1) * bytes ≤ 140737488355328) (hbase : B ≤ w.heap.size) :
    ∃ g cap w', (Builtin.append_ #[t, t] ty #[v, .slice (some ⟨w.heap.size, 0, none⟩) 1 1]).run P (w.alloc (.cells news.toArray e)) = .ok (.slice (some ⟨g, 0, none⟩) (n + 1) cap) w' ∧
      w'.ownsRow B e c (.slice (some ⟨g, 0, none⟩) (n + 1) cap) (n + 1) (xs ++ news) ∧ Upd (fun k => v.ownBlock = some k) w w' ∧ (v.ownBlock = some g ∨ w.heap.size ≤ g) := by
  obtain ⟨i0, hi, hz0, hz1, hz2⟩ := info_parts hinfo
  have hsz : (w.alloc (.cells news.toArray e)).heap.size = w.heap.size + 1 := by simp
  obtain ⟨g, cap, w', h1, h2, h3, h4, h5⟩ := run_append_lies (P := P) (w.alloc (.cells news.toArray e)) t ty B e i0 z c bytes ht hi hz0 hz1 hz2 hzs hc v n xs (hown.alloc _) ⟨w.heap.size, 0, none⟩ 1 1 news (by omega)
    (fun j u hj => by rw [add_none, Nat.zero_add, (Blk.new w news e).cell]; exact hj)
    hx (by decide) h63 hb (by omega) _ rfl
  refine ⟨g, cap, w', h1, h2, ((Upd.refl _ w).alloc _).grown h3 (fun k hk => .inl hk), ?_⟩
  rcases h4 with h4 | h4
  · exact .inl h4
  · exact .inr (by omega)
end

/-! ### Texts -/
/-- Below B nothing has turned, above it nothing but bytes. -/
structure Kept (B : Nat) (w w' : World) : Prop where
  bel : Below B w w'
  oth : ∀ g t xs, t ≠ 5 → Blk w g t xs → Blk w' g t xs
section
variable {B : Nat} {w w' w1 : World} {v : Value} {l r : List Int}
theorem Kept.refl (B : Nat) (w : World) : Kept B w w := ⟨Below.refl _ _, fun _ _ _ _ h => h⟩
theorem Kept.trans (h : Kept B w w1) (k : Kept B w1 w') : Kept B w w' := ⟨h.bel.trans k.bel, fun g t xs ht hb => k.oth g t xs ht (h.oth g t xs ht hb)⟩
theorem Kept.alloc (h : Kept B w w1) (hB : B ≤ w1.heap.size) (o : Obj) : Kept B w (w1.alloc o) := ⟨h.bel.alloc hB o, fun g t xs ht hb => (h.oth g t xs ht hb).alloc o⟩
theorem Kept.drew (h : Kept B w w1) : Kept B w w1.drew := ⟨h.bel.drew, h.oth⟩
theorem Kept.of_below (hB : B ≤ w.heap.size) (h : Below w.heap.size w w') : Kept B w w' := ⟨h.mono hB, fun g t xs ht hb => hb.later h⟩
/-- A text of the call's own. -/
def Txt (B : Nat) (w : World) (v : Value) (l : List Int) : Prop := w.ownsRow B 5 1 v l.length (cellsL .u8 l)
theorem Txt.nil (B : Nat) (w : World) : Txt B w (.slice none 0 0) [] := World.ownsRow_nil _ _ _ _
theorem Txt.alloc (h : Txt B w v l) (o : Obj) : Txt B (w.alloc o) v l := World.ownsRow.alloc h o
theorem Txt.later (h : Txt B w v l) (hB : Below w.heap.size w w') : Txt B w' v l := ownS_upd h (Upd.of_below (S := fun _ => False) hB) (fun _ _ h => h)
theorem E41 : Elem Tryd.prog 41 5 .u8 1 := ⟨Tryd.underlying41, Tryd.underlying5, by kernel_rfl⟩
theorem kept_upd (h : Txt B w v l) (hB : B ≤ w.heap.size) (hu : Upd (fun k => v.ownBlock = some k) w w') : Kept B w w' := by
  refine ⟨hu.below B hB (fun k hk => (h.lt k hk).1), fun g t xs ht hb => hb.upd hu fun hk => ?_⟩
  obtain ⟨ys, hy⟩ := ownS_type h hk
  exact ht (blk_type hb hy)
theorem run_byte (h : Txt B w v l) (x : Int) (hl : l.length ≤ 1000000000) (hB : B ≤ w.heap.size) :
    ∃ v' w', (Builtin.append_ #[41, 41] 41 #[v, .slice (some ⟨w.heap.size, 0, none⟩) 1 1]).run Tryd.prog (w.alloc (.cells #[.int .u8 x] 5)) = .ok v' w' ∧ Txt B w' v' (l ++ [x]) ∧ Kept B w w' := by
  obtain ⟨g, cap, w', r1, o1, u1, l1⟩ := run_push E41 w 41 B v l.length l h x (by unfold maxLen; omega) (by omega) hB
  exact ⟨_, w', r1, by unfold Txt; rw [List.length_append]; exact o1, kept_upd h hB u1⟩
theorem run_str (h : Txt B w v l) (s : ByteArray) (r : List Int) (hs : Lib.strCells s = cellsL .u8 r) (hr : r.length ≤ 1000) (hl : l.length ≤ 1000000000) (hB : B ≤ w.heap.size) :
    ∃ v' w', (Builtin.append_ #[41, 9] 41 #[v, .string s]).run Tryd.prog w = .ok v' w' ∧ Txt B w' v' (l ++ r) ∧ Kept B w w' := by
  have hsz : s.size = r.length := by have := congrArg List.length hs; rw [Lib.strCells_length, cellsL_length] at this; exact this
  obtain ⟨i0, hi, hz0, hz1, hz2⟩ := info_parts E41.info
  obtain ⟨v', w', h1, h2, h3, -⟩ := Lib.run_append_own_string (P := Tryd.prog) w B 41 9 41 5 i0 Tryd.underlying41 Tryd.underlying9 hi hz0 hz1 hz2 v l.length _ h s (by rw [hsz]; unfold maxLen; omega) (by rw [hsz]; omega) hB
  refine ⟨v', w', h1, ?_, kept_upd h hB ((Upd.refl _ w).grown h3 (fun k hk => .inl hk))⟩
  rw [hs, ← cellsL_append, hsz] at h2
  unfold Txt
  rw [List.length_append]
  exact h2
end

/-! ### Digits -/
def digF : Nat → Nat → List Int
  | 0, u => [48 + (u : Int)]
  | f + 1, u => if u < 10 then [48 + (u : Int)] else digF f (u / 10) ++ [48 + ((u % 10 : Nat) : Int)]
def digs (n : Int) : List Int := digF 20 n.toNat
theorem digF_eq : ∀ (f u : Nat), u < 10 ^ (f + 1) → digF f u = (Lib.decDigits u).map fun b => (b.toNat : Int)
  | 0, u, h => by
    have h : u < 10 := by simpa using h
    have h2 : (48 + u) % 256 = 48 + u := by omega
    rw [Lib.decDigits_one h, digF]
    simp [h2]
  | f + 1, u, h => by
    by_cases hu : u < 10
    · have h2 : (48 + u) % 256 = 48 + u := by omega
      rw [Lib.decDigits_one hu, digF, if_pos hu]
      simp [h2]
    · have h2 : (48 + u % 10) % 256 = 48 + u % 10 := by omega
      rw [digF, if_neg hu, digF_eq f (u / 10) (by rw [Nat.div_lt_iff_lt_mul (by decide)]; rw [Nat.pow_succ] at h; exact h)]
      have h3 : Lib.decDigits u = Lib.decDigits (u / 10) ++ [UInt8.ofNat (48 + u % 10)] := by rw [Lib.decDigits, dif_neg hu]
      rw [h3]
      simp [h2]
theorem digs_cells (u : Nat) (h : u < 18446744073709551616) : Lib.byteCells (Lib.decDigits u) = cellsL .u8 (digs u) := by
  rw [digs, Int.toNat_natCast, digF_eq 20 u (by omega)]
  simp [Lib.byteCells, cellsL]
theorem digs_len (n : Int) : (digs n).length ≤ 21 := by
  have : ∀ f u, (digF f u).length ≤ f + 1 := by
    intro f
    induction f with
    | zero => intro u; simp [digF]
    | succ f ih => intro u; unfold digF; split <;> simp; exact ih _
  exact this 20 _

/-- The library's table of powers lies where it lay, below B. -/
structure Tab (B : Nat) (w : World) : Prop where
  is : Lib.TabIs Tryd.prog w "internal/strconv.uint64pow10" .u64 Lib.pow10Tab
  lt : ∀ g, Tryd.prog.globalNamed "internal/strconv.uint64pow10" = some g → g < B
theorem Tab.below {B : Nat} {w w' : World} (h : Tab B w) (hB : Below B w w') : Tab B w' := by
  refine ⟨?_, h.lt⟩
  have h1 := h.is
  unfold Lib.TabIs World.var? at *
  cases hg : Tryd.prog.globalNamed "internal/strconv.uint64pow10" with
  | none => rw [hg] at h1; simp at h1
  | some g =>
    rw [hg] at h1
    simp only [Option.bind_some] at h1 ⊢
    rw [hB.block g (h.lt g hg)]
    exact h1
theorem Tab.mono {B B' : Nat} {w : World} (h : Tab B w) (hB : B ≤ B') : Tab B' w := ⟨h.is, fun g hg => Nat.lt_of_lt_of_le (h.lt g hg) hB⟩
set_option maxRecDepth 100000 in
set_option maxHeartbeats 4000000 in
/-- strconv.AppendUint(dst, n, 10). -/
theorem uint_any (B n : Nat) (v : Value) (l : List Int) (w : World) (hn : n < 18446744073709551616) (h : Hid (Txt B w v l)) (hl : l.length ≤ 1000000000) (hB : B ≤ w.heap.size) (ht : Hid (Tab B w)) :
    Calls Tryd.prog 58 #[v, .int .u64 n, .int .i64 10] w fun e w' => ∃ v', e = .returned v' ∧ Hid (Txt B w' v' (l ++ digs n)) ∧ Hid (Kept B w w') := by
  have key : Calls Tryd.prog 71 #[v, .int .u64 n, .int .i64 10] w fun e w' => ∃ v', e = .returned v' ∧ Hid (Txt B w' v' (l ++ digs n)) ∧ Hid (Kept B w w') := by
    have fin : ∀ (e : Ending) (w' : World), (∃ v', e = .returned v' ∧ w'.ownsRow B 5 1 v' (l.length + (Lib.decDigits n).length) (cellsL .u8 l ++ Lib.byteCells (Lib.decDigits n)) ∧ Below B w w' ∧ Lib.OthersKept 5 none w w') → ∃ v', e = .returned v' ∧ Hid (Txt B w' v' (l ++ digs n)) ∧ Hid (Kept B w w') := by
      rintro e w' ⟨v', rfl, h1, h2, h3⟩
      refine ⟨v', rfl, ?_, ⟨h2, fun g t xs htt hb => h3 g _ hb (by simp) (fun c fz hh => by injection hh with _ hh; exact htt hh)⟩⟩
      have hlen : (Lib.decDigits n).length = (digs n).length := by
        have := congrArg List.length (digs_cells n hn)
        rwa [Lib.byteCells_length, cellsL_length] at this
      rw [digs_cells n hn, ← cellsL_append, hlen] at h1
      show Txt B w' v' (l ++ digs n)
      unfold Txt
      rw [List.length_append]
      exact h1
    by_cases hs : n < 100
    · exact (Tryd.internal_strconv_AppendUint_10_small B l.length n hs v _ w h.out hB (by omega)).mono fin
    · exact (Tryd.internal_strconv_AppendUint_10_big B l.length n (by omega) hn v _ w h.out hB (by omega) ht.out.is).mono fin
  go_enter Tryd.func58, Tryd.ntmps58
  go_wp2_with fail
  refine key.mono ?_; rintro e w1 ⟨v', rfl, h1, h2⟩
  go_wp2
  go_ret
  exact ⟨v', rfl, h1, h2⟩
end Go.Proofs.YtlbgdgobhiokpaaDoor

/- A node's text up to its first kid's; what closes it. -/
namespace Go.Proofs.YtlbgdgobhiokpaaDoor
open Go.RowKit
set_option linter.unusedVariables false

def beginT (x : Nd) : List Int :=
  if x.1 = 1 then digs x.2.1 else if x.1 = 2 then (if x.2.1 = 1 then [116, 114, 117, 101] else [102, 97, 108, 115, 101]) else if x.1 = 3 then [91] else if x.1 = 4 then [123] else if x.1 = 6 then [60] ++ digs x.2.1 ++ [58]
  else if x.2.2 = 0 then [110, 111, 110, 101] else [115, 111, 109, 101, 32]
def boolT (b : Bool) : List Int := if b = true then [116, 114, 117, 101] else [102, 97, 108, 115, 101]
def endT (k : Int) : List Int := if k = 3 then [93] else if k = 4 then [125] else if k = 6 then [62] else []
def endS (k : Int) : ByteArray := strOfNums (endT k)
theorem beginT_len (x : Nd) : (beginT x).length ≤ 23 := by
  have := digs_len x.2.1
  unfold beginT
  split <;> (try split) <;> (try split) <;> (try split) <;> (try split) <;> (try split) <;> simp <;> omega
theorem endT_len (k : Int) : (endT k).length ≤ 1 := by
  unfold endT
  split <;> (try split) <;> (try split) <;> simp
theorem ending_any (k : Int) (w : World) : Calls Tryd.prog 35 #[.int .i64 k] w fun e w' => e = .returned (.string (endS k)) ∧ w = w' := by
  go_enter Tryd.func35, Tryd.ntmps35
  by_cases h3 : k = 3
  · subst h3; go_wp2; go_ret; exact ⟨rfl, rfl⟩
  by_cases h4 : k = 4
  · subst h4; go_wp2; go_ret; exact ⟨rfl, rfl⟩
  by_cases h6 : k = 6
  · subst h6; go_wp2; go_ret; exact ⟨rfl, rfl⟩
  · have h : Hid (endS k = ByteArray.mk #[]) := by show _ = _; rw [endS, endT, if_neg h3, if_neg h4, if_neg h6]; rfl
    go_wp2
    go_ret
    exact ⟨by rw [h.out]; rfl, rfl⟩
set_option maxRecDepth 100000 in
set_option maxHeartbeats 4000000 in
theorem bool_any (B : Nat) (b : Bool) (v : Value) (l : List Int) (w : World) (h : Hid (Txt B w v l)) (hl : l.length ≤ 1000000000) (hB : B ≤ w.heap.size) :
    Calls Tryd.prog 59 #[v, .bool b] w fun e w' => ∃ v', e = .returned v' ∧ Hid (Txt B w' v' (l ++ boolT b)) ∧ Hid (Kept B w w') := by
  have key : Calls Tryd.prog 72 #[v, .bool b] w fun e w' => ∃ v', e = .returned v' ∧ Hid (Txt B w' v' (l ++ boolT b)) ∧ Hid (Kept B w w') := by
    go_enter Tryd.func72, Tryd.ntmps72
    cases b with
    | true =>
      obtain ⟨v', w', r1, o1, k1⟩ := run_str h.out ⟨#[116, 114, 117, 101]⟩ [116, 114, 117, 101] rfl (by simp) hl hB
      have R1 : Hid _ := r1
      have O1 : Hid _ := o1
      have K1 : Hid _ := k1
      clear r1 o1 k1
      go_wp2_with (at_builtin; have _t := R1; refine wpList_append_run rfl (.tmp 6) (.const (.string ⟨#[116, 114, 117, 101]⟩)) 41 9 rfl rfl rfl R1.out ?_; clear R1)
      go_ret
      exact ⟨v', rfl, O1, K1⟩
    | false =>
      obtain ⟨v', w', r1, o1, k1⟩ := run_str h.out ⟨#[102, 97, 108, 115, 101]⟩ [102, 97, 108, 115, 101] rfl (by simp) hl hB
      have R1 : Hid _ := r1
      have O1 : Hid _ := o1
      have K1 : Hid _ := k1
      clear r1 o1 k1
      go_wp2_with (at_builtin; have _t := R1; refine wpList_append_run rfl (.tmp 8) (.const (.string ⟨#[102, 97, 108, 115, 101]⟩)) 41 9 rfl rfl rfl R1.out ?_; clear R1)
      go_ret
      exact ⟨v', rfl, O1, K1⟩
  go_enter Tryd.func59, Tryd.ntmps59
  go_wp2_with fail
  refine key.mono ?_; rintro e w1 ⟨v', rfl, h1, h2⟩
  go_wp2
  go_ret
  exact ⟨v', rfl, h1, h2⟩
set_option maxRecDepth 100000 in
set_option maxHeartbeats 8000000 in
theorem begin_any (B : Nat) (x : Nd) (v : Value) (l : List Int) (w : World) (hx : right x = true) (hx0 : 0 ≤ x.2.1) (h : Hid (Txt B w v l)) (hl : l.length ≤ 100000000) (hB : B ≤ w.heap.size) (ht : Hid (Tab B w)) :
    Calls Tryd.prog 34 #[v, ndv x] w fun e w' => ∃ v', e = .returned v' ∧ Hid (Txt B w' v' (l ++ beginT x)) ∧ Hid (Kept B w w') := by
  obtain ⟨k, n, c⟩ := x
  have hr := (right_iff _).1 hx
  simp only at hr hx0
  clear hx
  obtain ⟨hk, hn, hc1, hc2⟩ := hr
  have hn2 : n < 18446744073709551616 := by unfold mostN at hn; split at hn <;> (try split at hn) <;> (try split at hn) <;> omega
  obtain ⟨n, rfl⟩ := Int.eq_ofNat_of_zero_le hx0
  clear hn hc1 hc2
  unfold ndv
  obtain ⟨wB, hwB⟩ : ∃ wB, wB = w.alloc (.cells #[.int .i64 k, .int .u64 n, .int .i64 c] 37) := ⟨_, rfl⟩
  have HBB : Hid (Below w.heap.size w wB) := by rw [hwB]; exact (Below.refl _ _).alloc (Nat.le_refl _) _
  have KB : Hid (Blk wB w.heap.size 37 [.int .i64 k, .int .u64 n, .int .i64 c]) := by rw [hwB]; exact Blk.newA w _ 37
  have HT : Hid (Txt B wB v l) := h.out.later HBB.out
  have HTab : Hid (Tab B wB) := ht.out.below (HBB.out.mono hB)
  have hBs : B ≤ wB.heap.size := Nat.le_trans hB HBB.out.size
  have HK : Hid (Kept B w wB) := Kept.of_below hB HBB.out
  have c0 : wB.cell? ⟨w.heap.size, 0, none⟩ = some (.int .i64 k) := KB.out.cell 0
  have c1 : wB.cell? ⟨w.heap.size, 1, none⟩ = some (.int .u64 n) := KB.out.cell 1
  have c2 : wB.cell? ⟨w.heap.size, 2, none⟩ = some (.int .i64 c) := KB.out.cell 2
  go_enter Tryd.func34, Tryd.ntmps34
  go_upto_region 1 with fail
  rw [← hwB]
  clear hwB h ht
  by_cases h1 : k = 1
  · subst h1
    go_wp2_with fail
    refine (uint_any B n v l wB (by omega) HT (by omega) hBs HTab).mono ?_; rintro e w1 ⟨v', rfl, H1, H2⟩
    go_wp2
    go_ret
    exact ⟨v', rfl, H1, HK.out.trans H2.out⟩
  by_cases h2 : k = 2
  · subst h2
    go_wp2_with fail
    refine (bool_any B (decide ((n : Int) = 1)) v l wB HT (by omega) hBs).mono ?_; rintro e w1 ⟨v', rfl, H1, H2⟩
    go_wp2
    go_ret
    have e : beginT (2, (n : Int), c) = boolT (decide ((n : Int) = 1)) := by simp [beginT, boolT]
    exact ⟨v', rfl, e ▸ H1, HK.out.trans H2.out⟩
  by_cases h3 : k = 3
  · subst h3
    obtain ⟨v', w', r1, o1, k1⟩ := run_byte HT.out 91 (by omega) hBs
    have R1 : Hid _ := r1
    have O1 : Hid _ := o1
    have K1 : Hid _ := k1
    clear r1 o1 k1
    go_wp2_with (at_builtin; have _t := R1; refine wpList_append_run rfl (.tmp 22) (.tmp 23) 41 41 rfl rfl rfl R1.out ?_; clear R1)
    go_ret
    exact ⟨v', rfl, O1, HK.out.trans K1.out⟩
  by_cases h4 : k = 4
  · subst h4
    obtain ⟨v', w', r1, o1, k1⟩ := run_byte HT.out 123 (by omega) hBs
    have R1 : Hid _ := r1
    have O1 : Hid _ := o1
    have K1 : Hid _ := k1
    clear r1 o1 k1
    go_wp2_with (at_builtin; have _t := R1; refine wpList_append_run rfl (.tmp 27) (.tmp 28) 41 41 rfl rfl rfl R1.out ?_; clear R1)
    go_ret
    exact ⟨v', rfl, O1, HK.out.trans K1.out⟩
  by_cases h6 : k = 6
  · subst h6
    obtain ⟨v1, w1, r1, o1, k1⟩ := run_byte HT.out 60 (by omega) hBs
    have R1 : Hid _ := r1
    have O1 : Hid _ := o1
    have K1 : Hid _ := k1
    have d1 : w1.cell? ⟨w.heap.size, 1, none⟩ = some (.int .u64 n) := (k1.oth _ _ _ (by decide) KB.out).cell 1
    have HTab1 : Hid (Tab B w1) := HTab.out.below k1.bel
    have hB1 : B ≤ w1.heap.size := Nat.le_trans hBs k1.bel.size
    clear r1 o1 k1
    go_wp2_with (first | (at_builtin; have _t := R1; refine wpList_append_run rfl (.tmp 32) (.tmp 33) 41 41 rfl rfl rfl R1.out ?_; clear R1) | (go_at_call 58; fail))
    refine (uint_any B n v1 (l ++ [60]) w1 (by omega) O1 (by simp; omega) hB1 HTab1).mono ?_; rintro e w2 ⟨v2, rfl, H1, H2⟩
    obtain ⟨v3, w3, r3, o3, k3⟩ := run_byte H1.out 58 (by have := digs_len n; simp; omega) (Nat.le_trans hB1 H2.out.bel.size)
    have R3 : Hid _ := r3
    have O3 : Hid _ := o3
    have K3 : Hid _ := k3
    clear r3 o3 k3
    go_wp2_with (at_builtin; have _t := R3; refine wpList_append_run rfl (.tmp 39) (.tmp 40) 41 41 rfl rfl rfl R3.out ?_; clear R3)
    go_ret
    have e : l ++ beginT (6, (n : Int), c) = l ++ [60] ++ digs n ++ [58] := by simp [beginT]
    exact ⟨v3, rfl, e ▸ O3, ((HK.out.trans K1.out).trans H2.out).trans K3.out⟩
  · obtain rfl : k = 5 := by omega
    by_cases h0 : c = 0
    · subst h0
      obtain ⟨v', w', r1, o1, k1⟩ := run_str HT.out ⟨#[110, 111, 110, 101]⟩ [110, 111, 110, 101] rfl (by simp) (by omega) hBs
      have R1 : Hid _ := r1
      have O1 : Hid _ := o1
      have K1 : Hid _ := k1
      clear r1 o1 k1
      go_wp2_with (at_builtin; have _t := R1; refine wpList_append_run rfl (.tmp 45) (.const (.string ⟨#[110, 111, 110, 101]⟩)) 41 9 rfl rfl rfl R1.out ?_; clear R1)
      go_ret
      exact ⟨v', rfl, O1, HK.out.trans K1.out⟩
    · obtain ⟨v', w', r1, o1, k1⟩ := run_str HT.out ⟨#[115, 111, 109, 101, 32]⟩ [115, 111, 109, 101, 32] rfl (by simp) (by omega) hBs
      have R1 : Hid _ := r1
      have O1 : Hid _ := o1
      have K1 : Hid _ := k1
      have e : Hid (beginT (5, (n : Int), c) = [115, 111, 109, 101, 32]) := by show _ = _; simp [beginT, h0]
      have hb : (c == 0) = false := by simpa using h0
      clear r1 o1 k1 h1 h2 h3 h4 h6 hk c1 HT HTab KB HBB h0
      go_wp2_with (at_builtin; have _t := R1; refine wpList_append_run rfl (.tmp 47) (.const (.string ⟨#[115, 111, 109, 101, 32]⟩)) 41 9 rfl rfl rfl R1.out ?_; clear R1)
      go_ret
      exact ⟨v', rfl, e.out ▸ O1, HK.out.trans K1.out⟩
end Go.Proofs.YtlbgdgobhiokpaaDoor
