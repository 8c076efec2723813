/- LayoutExact: lists of layouts written over, and grown. -/
import Derived.Test.YtnpkpmbpapekbaaEn
namespace Go.Proofs.Ytnpkpmbpapekbaa
open Go.RowKit
set_option linter.unusedVariables false

/-- append(v, x), x a struct written out: what v itself holds stays. -/
theorem run_pushK {P : Program} {t B e c n : Nat} {z v : Value} {bytes : Nat} {xs : List Value} (ht : P.underlying t = some (.slice e)) (hinfo : (P.info? e).map (fun i => (i.zero, i.size, i.bytes)) = some (some z, c, bytes)) (hzs : z.cells.size = c) (hc : 0 < c)
    (w : World) (ty : Nat) (hown : w.ownsRow B e c v n xs) (news : List Value) (hl : news.length = c) (hx : ∀ u ∈ news, u.oneCell' = true) (h63 : n + 1 ≤ maxLen) (hb : (n + 1) * bytes ≤ 140737488355328) (hbase : B ≤ w.heap.size) :
    ∃ g cap w', (Builtin.append_ #[t, t] ty #[v, .slice (some ⟨w.heap.size, 0, none⟩) 1 1]).run P (w.alloc (.cells news.toArray e)) = .ok (.slice (some ⟨g, 0, none⟩) (n + 1) cap) w' ∧
      w'.ownsRow B e c (.slice (some ⟨g, 0, none⟩) (n + 1) cap) (n + 1) (xs ++ news) ∧ w'.ownsRow B e c v n xs ∧ Upd (fun k => v.ownBlock = some k) w w' ∧ (v.ownBlock = some g ∨ w.heap.size ≤ g) := by
  rcases hown.2 with ⟨hv, h0⟩ | ⟨g, cap, cur, hv, hbg, hg, hnc, hcm, hcs, htake⟩
  · obtain ⟨g, cap, w', h1, h2, h3, h4⟩ := run_pushS ht hinfo hzs hc w ty hown news hl hx h63 hb hbase
    refine ⟨g, cap, w', h1, h2, ?_, h3, h4⟩
    refine ⟨hown.1, .inl ⟨hv, h0⟩⟩
  · subst hv
    obtain ⟨i0, hi, hz0, hz1, hz2⟩ := info_parts hinfo
    have hsz : (w.alloc (.cells news.toArray e)).heap.size = w.heap.size + 1 := by simp
    have hnew : ∀ j u, news[j]? = some u → (w.alloc (.cells news.toArray e)).cell? ((⟨w.heap.size, 0, none⟩ : Addr).add j) = some u := fun j u hj => by rw [add_none, Nat.zero_add, (Blk.new w news e).cell]; exact hj
    by_cases hr : n + 1 ≤ cap
    · obtain ⟨w', h1, h2, h3⟩ := run_append_fits (P := P) (w.alloc (.cells news.toArray e)) B t ty e i0 c ht hi hz1 g n cap xs (hown.alloc _) ⟨w.heap.size, 0, none⟩ 1 1 news (by omega) hnew hx hr
      refine ⟨g, cap, w', h1, h2, ?_, ((Upd.refl _ w).alloc _).grown h3 (fun k hk => .inl (by rw [← hk]; rfl)), .inl rfl⟩
      obtain ⟨g', cap', ys, e5, q1, q2, q3, q4, q5, q6⟩ := ownS_blk h2 (by omega)
      have e6 : g = g' ∧ cap = cap' := by simpa using e5
      obtain ⟨rfl, rfl⟩ := e6
      have h9 := ownS_of_blk (n := n) (c := c) q6 q1 q4 hnc q3
      have : ys.take (n * c) = xs := by
        have e9 : ys.take (n * c) = (ys.take ((n + 1) * c)).take (n * c) := by rw [List.take_take, Nat.min_eq_left (Nat.mul_le_mul_right _ (by omega))]
        rw [e9, q5, List.take_append_of_le_length (by rw [hown.1]; exact Nat.le_refl _), List.take_of_length_le (by rw [hown.1]; exact Nat.le_refl _)]
      rw [this] at h9
      exact h9
    · have hbk : Blk w g e cur.toList := by unfold Blk; rw [Array.toArray_toList]; exact hg
      have hold : ∀ j u, xs[j]? = some u → (w.alloc (.cells news.toArray e)).cell? ((⟨g, 0, none⟩ : Addr).add j) = some u := fun j u hj => by
        rw [add_none, Nat.zero_add, (hbk.alloc _).cell]
        rw [← htake, List.getElem?_take] at hj
        split at hj
        · exact hj
        · cases hj
      obtain ⟨v', w', h1, h2, h3⟩ := run_append_arg_grows (P := P) (w.alloc (.cells news.toArray e)) t ty e i0 z c bytes ht hi hz0 hz1 hz2 hzs hc ⟨g, 0, none⟩ n cap xs hown.1 hold ⟨w.heap.size, 0, none⟩ 1 1 news (by omega) hnew (by omega) h63 hb
      obtain ⟨g', cap', ys, rfl, q1, q2, q3, q4, q5, q6⟩ := ownS_blk h2 (by omega)
      have hu0 : Upd (fun _ => False) w w' := ((Upd.refl _ w).alloc _).grown h3 (fun k hk => by cases hk)
      refine ⟨g', cap', w', h1, own_base h2 (by omega), ownS_upd hown hu0 (fun _ _ h => h), hu0.mono (fun _ _ h => h.elim), .inr (by omega)⟩
def sm1 : Sl := ⟨-1, false, 0⟩
def sm2 (j : Nat) : Sl := ⟨-2, false, (j : Int)⟩
theorem cellsG_set {α : Type} {c : Nat} {f : α → List Value} (hf : ∀ x, (f x).length = c) : ∀ (l : List α) (i : Nat) (x : α), i < l.length → ∀ m, (cellsG f (l.set i x))[m]? = if i * c ≤ m ∧ m < i * c + c then (f x)[m - i * c]? else (cellsG f l)[m]?
  | [], i, x, h, _ => by simp at h
  | y :: l, 0, x, _, m => by
    have e1 : cellsG f ((y :: l).set 0 x) = f x ++ cellsG f l := by simp [cellsG]
    have e2 : cellsG f (y :: l) = f y ++ cellsG f l := by simp [cellsG]
    rw [e1, e2]
    rcases Nat.lt_or_ge m c with hm | hm
    · rw [if_pos (by omega), List.getElem?_append_left (by rw [hf]; exact hm)]
      simp
    · rw [if_neg (by omega), List.getElem?_append_right (by rw [hf]; exact hm), List.getElem?_append_right (by rw [hf]; exact hm), hf, hf]
  | y :: l, i + 1, x, h, m => by
    have ih := cellsG_set hf l i x (by simpa using h) (m - c)
    have e1 : cellsG f ((y :: l).set (i + 1) x) = f y ++ cellsG f (l.set i x) := by simp [cellsG]
    have e2 : cellsG f (y :: l) = f y ++ cellsG f l := by simp [cellsG]
    rw [e1, e2, Nat.add_mul, Nat.one_mul]
    rcases Nat.lt_or_ge m c with hm | hm
    · rw [if_neg (by omega), List.getElem?_append_left (by rw [hf]; exact hm), List.getElem?_append_left (by rw [hf]; exact hm)]
    · rw [List.getElem?_append_right (by rw [hf]; exact hm), List.getElem?_append_right (by rw [hf]; exact hm), hf, ih]
      by_cases hc : i * c + c ≤ m ∧ m < i * c + c + c
      · rw [if_pos hc, if_pos (by omega), show m - c - i * c = m - (i * c + c) by omega]
      · rw [if_neg hc, if_neg (by omega)]
/-- Three cells of a row of slots written over. -/
theorem SOwn.put {w : World} {B g n cap k : Nat} {l : List Sl} (h : SOwn w B (.slice (some ⟨g, 0, none⟩) n cap) l) (hk : k < l.length) (s : Sl) :
    SOwn (((w.setCell ⟨g, k * 3, none⟩ (.int .i64 s.at_)).setCell ⟨g, k * 3 + 1, none⟩ (.bool s.v)).setCell ⟨g, k * 3 + 2, none⟩ (.int .i64 s.sz)) B (.slice (some ⟨g, 0, none⟩) n cap) (l.set k s) := by
  obtain ⟨g', cap', ys, e, hb, hn, hm, hl, ht, hK⟩ := ownS_blk h (by omega)
  have e0 : g = g' ∧ n = l.length ∧ cap = cap' := by simpa using e
  obtain ⟨rfl, rfl, rfl⟩ := e0
  have hK2 := ((hK.set (k * 3) (.int .i64 s.at_)).set (k * 3 + 1) (.bool s.v)).set (k * 3 + 2) (.int .i64 s.sz)
  have h9 := ownS_of_blk (n := l.length) (c := 3) hK2 hb (by simp only [List.length_set]; exact hl) hn hm
  unfold SOwn
  rw [List.length_set]
  have hkl : k * 3 + 3 ≤ l.length * 3 := by omega
  have hyl : l.length * 3 ≤ ys.length := by rw [hl]; exact Nat.mul_le_mul_right _ hn
  have e1 : (((ys.set (k * 3) (.int .i64 s.at_)).set (k * 3 + 1) (.bool s.v)).set (k * 3 + 2) (.int .i64 s.sz)).take (l.length * 3) = cellsG slc (l.set k s) := by
    refine List.ext_getElem? (fun m => ?_)
    rw [cellsG_set slc_len l k s hk m]
    have hys : (ys.take (l.length * 3))[m]? = (cellsG slc l)[m]? := by rw [ht]
    rw [List.getElem?_take] at hys ⊢
    by_cases hmm : m < l.length * 3
    · rw [if_pos hmm] at hys ⊢
      by_cases hr : k * 3 ≤ m ∧ m < k * 3 + 3
      · rw [if_pos hr]
        obtain ⟨d, rfl⟩ : ∃ d, m = k * 3 + d := ⟨m - k * 3, by omega⟩
        have hd : d = 0 ∨ d = 1 ∨ d = 2 := by omega
        rcases hd with rfl | rfl | rfl
        · rw [List.getElem?_set_ne (by omega), List.getElem?_set_ne (by omega), Nat.add_zero, List.getElem?_set_self (by omega), Nat.sub_self]
          rfl
        · rw [List.getElem?_set_ne (by omega), List.getElem?_set_self (by rw [List.length_set]; omega), Nat.add_sub_cancel_left]
          rfl
        · rw [List.getElem?_set_self (by simp only [List.length_set]; omega), Nat.add_sub_cancel_left]
          rfl
      · rw [if_neg hr, List.getElem?_set_ne (by omega), List.getElem?_set_ne (by omega), List.getElem?_set_ne (by omega)]
        exact hys
    · rw [if_neg hmm, if_neg (by omega)]
      rw [if_neg hmm] at hys
      exact hys
  rw [e1] at h9
  exact h9
theorem upd_put3 (w : World) (g a b c : Nat) (x y z : Value) : Upd (fun k => k = g) w (((w.setCell ⟨g, a, none⟩ x).setCell ⟨g, b, none⟩ y).setCell ⟨g, c, none⟩ z) :=
  (((Upd.refl (fun k => k = g) w).set _ _ (.inl rfl)).set _ _ (.inl rfl)).set _ _ (.inl rfl)
theorem pair_at {P : List (Ly × Value)} (h : P.Pairwise (fun p q => ∀ k, p.2.ownBlock = some k → q.2.ownBlock = some k → False)) {i j : Nat} {p q : Ly × Value} (hi : P[i]? = some p) (hj : P[j]? = some q) (hij : i ≠ j) {k : Nat} (h1 : p.2.ownBlock = some k) (h2 : q.2.ownBlock = some k) : False := by
  obtain ⟨li, ei⟩ := List.getElem?_eq_some_iff.1 hi
  obtain ⟨lj, ej⟩ := List.getElem?_eq_some_iff.1 hj
  rw [List.pairwise_iff_getElem] at h
  rcases Nat.lt_or_gt_of_ne hij with hl | hl
  · exact h i j li lj hl k (by rw [ei]; exact h1) (by rw [ej]; exact h2)
  · exact h j i lj li hl k (by rw [ej]; exact h2) (by rw [ei]; exact h1)
/-- A list of layouts whose blocks lie between lo and hi. -/
structure LotL (w : World) (v : Value) (P : List (Ly × Value)) (lo hi : Nat) : Prop where
  own : LOwn w lo v P
  r : ∀ k, v.ownBlock = some k → k < hi
  s : ∀ p ∈ P, ∀ k, p.2.ownBlock = some k → k < hi
theorem LotL.of {w : World} {v : Value} {P : List (Ly × Value)} {lo : Nat} (h : LOwn w lo v P) : LotL w v P lo w.heap.size := ⟨h, fun k hk => (h.lies hk).2, fun p hp k hk => ((h.sl p hp).lies hk).2⟩
theorem LotL.upd {w w' : World} {v : Value} {P : List (Ly × Value)} {lo hi : Nat} {S : Nat → Prop} (h : LotL w v P lo hi) (hu : Upd S w w') (hs : ∀ k, lo ≤ k → k < hi → ¬ S k) : LotL w' v P lo hi :=
  ⟨h.own.upd hu (fun k hk => hs k (h.own.lies hk).1 (h.r k hk)) (fun p hp k hk => hs k ((h.own.sl p hp).lies hk).1 (h.s p hp k hk)), h.r, h.s⟩
theorem LotL.later {w w' : World} {v : Value} {P : List (Ly × Value)} {lo hi : Nat} (h : LotL w v P lo hi) (hB : Below w.heap.size w w') : LotL w' v P lo hi := ⟨h.own.later hB, h.r, h.s⟩
/-- One slot of one list written over. -/
theorem LotL.put {w : World} {v : Value} {P : List (Ly × Value)} {lo hi i k g n cap : Nat} {y : Ly} (h : LotL w v P lo hi) (hi_ : P[i]? = some (y, .slice (some ⟨g, 0, none⟩) n cap)) (hk : k < y.sl.length) (s : Sl) :
    LotL (((w.setCell ⟨g, k * 3, none⟩ (.int .i64 s.at_)).setCell ⟨g, k * 3 + 1, none⟩ (.bool s.v)).setCell ⟨g, k * 3 + 2, none⟩ (.int .i64 s.sz)) v (P.set i (⟨y.sz, y.sl.set k s⟩, .slice (some ⟨g, 0, none⟩) n cap)) lo hi ∧ (lo ≤ g ∧ g < hi) := by
  have hm := List.mem_of_getElem? hi_
  have hil := (List.getElem?_eq_some_iff.1 hi_).1
  have hso := h.own.sl _ hm
  have hu := upd_put3 w g (k * 3) (k * 3 + 1) (k * 3 + 2) (.int .i64 s.at_) (.bool s.v) (.int .i64 s.sz)
  have hgb : (Value.slice (some ⟨g, 0, none⟩) n cap).ownBlock = some g := rfl
  refine ⟨⟨⟨?_, ?_, ?_⟩, h.r, ?_⟩, (hso.lies hgb).1, h.s _ hm g hgb⟩
  · have h1 := ownS_upd h.own.row hu (fun q hq e => h.own.ne hm (e ▸ hgb) hq)
    have e : cellsG lyc (P.set i (⟨y.sz, y.sl.set k s⟩, .slice (some ⟨g, 0, none⟩) n cap)) = cellsG lyc P := by
      refine List.ext_getElem? (fun m => ?_)
      rw [cellsG_set lyc_len P i _ hil m]
      split
      · rename_i hr
        rw [show m = i * 2 + (m - i * 2) by omega, cellsG_at lyc_len P i (m - i * 2) _ hi_ (by omega)]
        simp only [Nat.add_sub_cancel_left]
        rfl
      · rfl
    rw [List.length_set, e]
    exact h1
  · intro p hp
    obtain ⟨j, hj⟩ := List.mem_iff_getElem?.1 hp
    by_cases hji : i = j
    · subst hji
      rw [List.getElem?_set_self hil] at hj
      injection hj with hj
      subst hj
      exact hso.put hk s
    · rw [List.getElem?_set_ne hji] at hj
      refine (h.own.sl p (List.mem_of_getElem? hj)).upd hu (fun q hq e => ?_)
      subst e
      exact pair_at h.own.ap hi_ hj hji hgb hq
  · rw [List.pairwise_iff_getElem]
    intro i1 j1 l1 l2 hlt q h1 h2
    have key : ∀ (m : Nat) (hm : m < (P.set i (⟨y.sz, y.sl.set k s⟩, .slice (some ⟨g, 0, none⟩) n cap)).length), ∃ p, P[m]? = some p ∧ p.2 = ((P.set i (⟨y.sz, y.sl.set k s⟩, .slice (some ⟨g, 0, none⟩) n cap))[m]'hm).2 := fun m hm => by
      by_cases hmi : i = m
      · subst hmi
        exact ⟨_, hi_, by simp⟩
      · rw [List.length_set] at hm
        exact ⟨P[m], List.getElem?_eq_getElem hm, by rw [List.getElem_set_ne hmi]⟩
    obtain ⟨p1, a1, b1⟩ := key i1 l1
    obtain ⟨p2, a2, b2⟩ := key j1 l2
    exact pair_at h.own.ap a1 a2 (by omega) (by rw [b1]; exact h1) (by rw [b2]; exact h2)
  · intro p hp q hq
    obtain ⟨j, hj⟩ := List.mem_iff_getElem?.1 hp
    by_cases hji : i = j
    · subst hji
      rw [List.getElem?_set_self hil] at hj
      injection hj with hj
      subst hj
      exact h.s _ hm q hq
    · rw [List.getElem?_set_ne hji] at hj
      exact h.s p (List.mem_of_getElem? hj) q hq
/-! ### Written over, one by one -/
structure Mk (P Q : List (Ly × Value)) (i : Nat) : Prop where
  len : Q.length = P.length
  at_ : ∀ j p q, P[j]? = some p → Q[j]? = some q → q.2 = p.2 ∧ q.1.sl.length = p.1.sl.length ∧ (j < i → q.1.sl = List.replicate p.1.sl.length sm1)
theorem Mk.refl (P : List (Ly × Value)) : Mk P P 0 := ⟨rfl, fun j p q hp hq => by rw [hp] at hq; injection hq with hq; subst hq; exact ⟨rfl, rfl, fun h => by omega⟩⟩
theorem take_set_succ {α : Type} (l : List α) (k : Nat) (s : α) (hk : k < l.length) : (l.set k s).take (k + 1) = l.take k ++ [s] := by
  have h1 : k < (l.set k s).length := by rw [List.length_set]; exact hk
  rw [List.take_succ_eq_append_getElem h1, List.getElem_set_self, List.take_set_of_le (Nat.le_refl k)]
theorem Mk.put {P Q : List (Ly × Value)} {i k : Nat} {y : Ly} {u : Value} (h : Mk P Q i) (hq : Q[i]? = some (y, u)) (hk : k < y.sl.length) (ht : y.sl.take k = List.replicate k sm1) :
    Mk P (Q.set i (⟨y.sz, y.sl.set k sm1⟩, u)) i ∧ (Q.set i (⟨y.sz, y.sl.set k sm1⟩, u))[i]? = some (⟨y.sz, y.sl.set k sm1⟩, u) ∧ (y.sl.set k sm1).take (k + 1) = List.replicate (k + 1) sm1 := by
  have hil := (List.getElem?_eq_some_iff.1 hq).1
  refine ⟨⟨by rw [List.length_set]; exact h.len, fun j p q hp hj => ?_⟩, List.getElem?_set_self hil, ?_⟩
  · by_cases hji : i = j
    · subst hji
      rw [List.getElem?_set_self hil] at hj
      injection hj with hj
      subst hj
      obtain ⟨h1, h2, h3⟩ := h.at_ i p _ hp hq
      exact ⟨h1, by simp only [List.length_set]; exact h2, fun h => by omega⟩
    · rw [List.getElem?_set_ne hji] at hj
      exact h.at_ j p q hp hj
  · rw [take_set_succ _ _ _ hk, ht, List.replicate_succ']
theorem Mk.next {P Q : List (Ly × Value)} {i : Nat} {y : Ly} {u : Value} (h : Mk P Q i) (hq : Q[i]? = some (y, u)) (ht : y.sl.take y.sl.length = List.replicate y.sl.length sm1) : Mk P Q (i + 1) :=
  ⟨h.len, fun j p q hp hj => by
    obtain ⟨h1, h2, h3⟩ := h.at_ j p q hp hj
    refine ⟨h1, h2, fun hlt => ?_⟩
    by_cases hji : j = i
    · subst hji
      rw [hq] at hj
      injection hj with hj
      subst hj
      rw [List.take_length] at ht
      rw [ht, h2]
    · exact h3 (by omega)⟩
/-! ### Grown -/
theorem infoSS : (Try.prog.info? 47).map (fun i => (i.zero, i.size, i.bytes)) = some (some (.slice none 0 0), 1, 24) := by kernel_rfl
structure Gw (w : World) (va vM : Value) (Q : List (Ly × Value)) (lo hi s6 p : Nat) (M : Nat → Value) : Prop where
  a : LotL w va Q lo hi
  rM : RowE 47 s6 w vM p M
  oM : ∀ j q, j < p → Q[j]? = some q → SOwn w lo (M j) (q.1.sl ++ [sm2 j])
  dM : ∀ i j q k, i < p → Q[j]? = some q → i ≠ j → (M i).ownBlock = some k → q.2.ownBlock = some k → False
theorem Gw.begin {w : World} {va : Value} {Q : List (Ly × Value)} {lo hi s6 : Nat} (M : Nat → Value) (h : LotL w va Q lo hi) : Gw w va (.slice none 0 0) Q lo hi s6 0 M :=
  ⟨h, RowE.nil _ _ _ _, fun j q hj => by omega, fun i j q k hi => by omega⟩
theorem RowE.ne {w : World} {B N b : Nat} {v : Value} {F : Nat → Value} {t : TypeId} {e : TypeId} {ys : List Value} (h : RowE e B w v N F) (hb : Blk w b t ys) (ht : t ≠ e) : ¬ v.ownBlock = some b := fun e2 => by
  obtain ⟨zs, hz⟩ := ownS_type h e2
  exact ht (blk_type hb hz)
/-- grown = append(grown, append(a[p].Slots, mark)). -/
theorem Gw.step {w : World} {va vM : Value} {Q : List (Ly × Value)} {lo hi s6 p : Nat} {M : Nat → Value} (h : Gw w va vM Q lo hi s6 p M) {y : Ly} {u : Value} (hq : Q[p]? = some (y, u)) (hn : y.sl.length ≤ 64) (hp : p ≤ 4000000000000) (hlo : lo ≤ w.heap.size) (hs6 : s6 ≤ w.heap.size) :
    ∃ g1 c1 w1, (Builtin.append_ #[47, 47] 47 #[u, .slice (some ⟨w.heap.size, 0, none⟩) 1 1]).run Try.prog (w.alloc (.cells #[.int .i64 (-2), .bool false, .int .i64 (p : Int)] 51)) = .ok (.slice (some ⟨g1, 0, none⟩) (y.sl.length + 1) c1) w1 ∧
      ∃ g2 c2 w2, (Builtin.append_ #[57, 57] 57 #[vM, .slice (some ⟨w1.heap.size, 0, none⟩) 1 1]).run Try.prog (w1.alloc (.cells #[.slice (some ⟨g1, 0, none⟩) (y.sl.length + 1) c1] 47)) = .ok (.slice (some ⟨g2, 0, none⟩) (p + 1) c2) w2 ∧
        Gw w2 va (.slice (some ⟨g2, 0, none⟩) (p + 1) c2) Q lo hi s6 (p + 1) (ext M p (.slice (some ⟨g1, 0, none⟩) (y.sl.length + 1) c1)) ∧ Upd (fun k => (lo ≤ k ∧ k < hi) ∨ s6 ≤ k) w w2 := by
  have hm := List.mem_of_getElem? hq
  have hso : SOwn w lo u y.sl := h.a.own.sl _ hm
  obtain ⟨g1, c1, w1, r1, o1, o2, u1, l1⟩ := run_pushK (P := Try.prog) (t := 47) (e := 51) (c := 3) Try.underlying47 infoS rfl (by decide) w 47 hso (slc (sm2 p)) rfl (fun x hx => by simp [slc] at hx; rcases hx with rfl | rfl | rfl <;> rfl) (by unfold maxLen; omega) (by omega) hlo
  have o1' : SOwn w1 lo (.slice (some ⟨g1, 0, none⟩) (y.sl.length + 1) c1) (y.sl ++ [sm2 p]) := by
    unfold SOwn
    rw [cellsG_app, cellsG_one, List.length_append, List.length_singleton]
    exact o1
  have o2' : SOwn w1 lo u y.sl := o2
  have nt : ∀ {v : Value} {e c n : Nat} {xs : List Value} {B : Nat}, w.ownsRow B e c v n xs → e ≠ 51 → ∀ k, v.ownBlock = some k → ¬ u.ownBlock = some k := fun hh he k hk e2 => by
    obtain ⟨zs, hz⟩ := ownS_type hh hk
    exact hso.ne hz he e2
  have a1 : LotL w1 va Q lo hi := by
    refine ⟨⟨ownS_upd h.a.own.row u1 (fun k hk => nt h.a.own.row (by decide) k hk), fun r hr => ?_, h.a.own.ap⟩, h.a.r, h.a.s⟩
    obtain ⟨j, hj⟩ := List.mem_iff_getElem?.1 hr
    by_cases hjp : j = p
    · subst hjp
      rw [hq] at hj
      injection hj with hj
      subst hj
      exact o2'
    · exact (h.a.own.sl r hr).upd u1 (fun k hk e2 => pair_at h.a.own.ap hj hq hjp hk e2)
  have m1 : ∀ j q, j < p → Q[j]? = some q → SOwn w1 lo (M j) (q.1.sl ++ [sm2 j]) := fun j q hj hqj => (h.oM j q hj hqj).upd u1 (fun k hk e2 => h.dM j p _ k hj hq (by omega) hk e2)
  have rM1 : RowE 47 s6 w1 vM p M := h.rM.upd u1 (fun k hk => nt h.rM (by decide) k hk)
  have hz1 : w.heap.size ≤ w1.heap.size := u1.size
  have rM2 : RowE 47 s6 w1 vM p (ext M p (.slice (some ⟨g1, 0, none⟩) (y.sl.length + 1) c1)) := rM1.congr (fun j hj => (ext_ne _ _ _ _ (by omega)).symm)
  obtain ⟨g2, c2, w2, r2, o3, u2, l2⟩ := rM2.push (P := Try.prog) (t := 57) Try.underlying57 infoSS rfl (by rw [ext_at]; rfl) (by unfold maxLen; omega) (by omega) (by omega) 57
  rw [ext_at] at r2
  have nt2 : ∀ {v : Value} {e c n : Nat} {xs : List Value} {B : Nat}, w1.ownsRow B e c v n xs → e ≠ 47 → ∀ k, v.ownBlock = some k → ¬ vM.ownBlock = some k := fun hh he k hk e2 => by
    obtain ⟨zs, hz⟩ := ownS_type hh hk
    exact rM1.ne hz he e2
  refine ⟨g1, c1, w1, r1, g2, c2, w2, r2, ⟨?_, o3, ?_, ?_⟩, ?_⟩
  · exact ⟨⟨ownS_upd a1.own.row u2 (fun k hk => nt2 a1.own.row (by decide) k hk), fun r hr => (a1.own.sl r hr).upd u2 (fun k hk => nt2 (a1.own.sl r hr) (by decide) k hk), a1.own.ap⟩, a1.r, a1.s⟩
  · intro j q hj hqj
    by_cases hjp : j = p
    · subst hjp
      rw [ext_at]
      rw [hq] at hqj
      injection hqj with hqj
      subst hqj
      exact o1'.upd u2 (fun k hk => nt2 o1' (by decide) k hk)
    · rw [ext_ne _ _ _ _ hjp]
      have := m1 j q (by omega) hqj
      exact this.upd u2 (fun k hk => nt2 this (by decide) k hk)
  · intro i j q k hi2 hqj hij h1 h2
    by_cases hip : i = p
    · subst hip
      rw [ext_at] at h1
      have hg := own_is h1
      subst hg
      rcases l1 with l1 | l1
      · exact pair_at h.a.own.ap hq hqj hij l1 h2
      · have := ((h.a.own.sl q (List.mem_of_getElem? hqj)).lies h2).2
        omega
    · rw [ext_ne _ _ _ _ hip] at h1
      exact h.dM i j q k (by omega) hqj hij h1 h2
  · refine (u1.mono (T := fun k => (lo ≤ k ∧ k < hi) ∨ s6 ≤ k) (fun k _ hk => .inl ⟨(hso.lies hk).1, h.a.s _ hm k hk⟩)).trans u2 (fun k _ hk => .inr (rM1.lt k hk).1)
/-! ### A list of layouts whose rows are written over -/
def z3 : Ly × Value := (⟨-3, []⟩, .slice none 0 0)
theorem row_put {w : World} {B g n cap i : Nat} {Z : List (Ly × Value)} (h : w.ownsRow B 49 2 (.slice (some ⟨g, 0, none⟩) n cap) Z.length (cellsG lyc Z)) (hi : i < Z.length) (p : Ly × Value) :
    ((w.setCell ⟨g, i * 2, none⟩ (.int .i64 p.1.sz)).setCell ⟨g, i * 2 + 1, none⟩ p.2).ownsRow B 49 2 (.slice (some ⟨g, 0, none⟩) n cap) (Z.set i p).length (cellsG lyc (Z.set i p)) := by
  obtain ⟨g', cap', ys, e, hb, hn, hm, hl, ht, hK⟩ := ownS_blk h (by omega)
  have e0 : g = g' ∧ n = Z.length ∧ cap = cap' := by simpa using e
  obtain ⟨rfl, rfl, rfl⟩ := e0
  have hK2 := (hK.set (i * 2) (.int .i64 p.1.sz)).set (i * 2 + 1) p.2
  have h9 := ownS_of_blk (n := Z.length) (c := 2) hK2 hb (by simp only [List.length_set]; exact hl) hn hm
  rw [List.length_set]
  have hyl : Z.length * 2 ≤ ys.length := by rw [hl]; exact Nat.mul_le_mul_right _ hn
  have e1 : ((ys.set (i * 2) (.int .i64 p.1.sz)).set (i * 2 + 1) p.2).take (Z.length * 2) = cellsG lyc (Z.set i p) := by
    refine List.ext_getElem? (fun m => ?_)
    rw [cellsG_set lyc_len Z i p hi m]
    have hys : (ys.take (Z.length * 2))[m]? = (cellsG lyc Z)[m]? := by rw [ht]
    rw [List.getElem?_take] at hys ⊢
    by_cases hmm : m < Z.length * 2
    · rw [if_pos hmm] at hys ⊢
      by_cases hr : i * 2 ≤ m ∧ m < i * 2 + 2
      · rw [if_pos hr]
        obtain ⟨d, rfl⟩ : ∃ d, m = i * 2 + d := ⟨m - i * 2, by omega⟩
        have hd : d = 0 ∨ d = 1 := by omega
        rcases hd with rfl | rfl
        · rw [List.getElem?_set_ne (by omega), Nat.add_zero, List.getElem?_set_self (by omega), Nat.sub_self]
          rfl
        · rw [List.getElem?_set_self (by rw [List.length_set]; omega), Nat.add_sub_cancel_left]
          rfl
      · rw [if_neg hr, List.getElem?_set_ne (by omega), List.getElem?_set_ne (by omega)]
        exact hys
    · rw [if_neg hmm, if_neg (by omega)]
      rw [if_neg hmm] at hys
      exact hys
  rw [e1] at h9
  exact h9
end Go.Proofs.Ytnpkpmbpapekbaa
