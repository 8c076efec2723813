import Derived.Test.YtlbgdgobhiokpaaDoorPart07
import Derived.Laws.OwnMore
import Derived.ArgAppend
import Derived.Deep.RegionLaw

/- A half of the book: lists that were handed out, each with a mark of its own, and longer by one. -/
namespace Go.Proofs.YtlbgdgobhiokpaaDoor
open Go.RowKit
set_option linter.unusedVariables false

/-- append(v, x), x a struct written out: what v itself holds stays. -/
theorem run_pushK {P : Program} {t B e c n : Nat} {z v : Value} {bytes : Nat} {xs : List Value} (ht : P.underlying t = some (.slice e)) (hinfo : (P.info? e).map (fun i => (i.zero, i.size, i.bytes)) = some (some z, c, bytes)) (hzs : z.cells.size = c) (hc : 0 < c)
    (w : World) (ty : Nat) (hown : w.ownsRow B e c v n xs) (news : List Value) (hl : news.length = c) (hx : ∀ u ∈ news, u.oneCell' = true) (h63 : n + 1 ≤ maxLen) (hb : (n + 1) * bytes ≤ 140737488355328) (hbase : B ≤ w.heap.size) :
    ∃ g cap w', (Builtin.append_ #[t, t] ty #[v, .slice (some ⟨w.heap.size, 0, none⟩) 1 1]).run P (w.alloc (.cells news.toArray e)) = .ok (.slice (some ⟨g, 0, none⟩) (n + 1) cap) w' ∧
      w'.ownsRow B e c (.slice (some ⟨g, 0, none⟩) (n + 1) cap) (n + 1) (xs ++ news) ∧ w'.ownsRow B e c v n xs ∧ Upd (fun k => v.ownBlock = some k) w w' ∧ (v.ownBlock = some g ∨ w.heap.size ≤ g) := by
  rcases hown.2 with ⟨hv, h0⟩ | ⟨g, cap, cur, hv, hbg, hg, hnc, hcm, hcs, htake⟩
  · obtain ⟨g, cap, w', h1, h2, h3, h4⟩ := run_pushS ht hinfo hzs hc w ty hown news hl hx h63 hb hbase
    refine ⟨g, cap, w', h1, h2, ?_, h3, h4⟩
    refine ⟨hown.1, .inl ⟨hv, h0⟩⟩
  · subst hv
    obtain ⟨i0, hi, hz0, hz1, hz2⟩ := info_parts hinfo
    have hsz : (w.alloc (.cells news.toArray e)).heap.size = w.heap.size + 1 := by simp
    have hnew : ∀ j u, news[j]? = some u → (w.alloc (.cells news.toArray e)).cell? ((⟨w.heap.size, 0, none⟩ : Addr).add j) = some u := fun j u hj => by rw [add_none, Nat.zero_add, (Blk.new w news e).cell]; exact hj
    by_cases hr : n + 1 ≤ cap
    · obtain ⟨w', h1, h2, h3⟩ := run_append_fits (P := P) (w.alloc (.cells news.toArray e)) B t ty e i0 c ht hi hz1 g n cap xs (hown.alloc _) ⟨w.heap.size, 0, none⟩ 1 1 news (by omega) hnew hx hr
      refine ⟨g, cap, w', h1, h2, ?_, ((Upd.refl _ w).alloc _).grown h3 (fun k hk => .inl (by rw [← hk]; rfl)), .inl rfl⟩
      obtain ⟨g', cap', ys, e5, q1, q2, q3, q4, q5, q6⟩ := ownS_blk h2 (by omega)
      have e6 : g = g' ∧ cap = cap' := by simpa using e5
      obtain ⟨rfl, rfl⟩ := e6
      have h9 := ownS_of_blk (n := n) (c := c) q6 q1 q4 hnc q3
      have : ys.take (n * c) = xs := by
        have e9 : ys.take (n * c) = (ys.take ((n + 1) * c)).take (n * c) := by rw [List.take_take, Nat.min_eq_left (Nat.mul_le_mul_right _ (by omega))]
        rw [e9, q5, List.take_append_of_le_length (by rw [hown.1]; exact Nat.le_refl _), List.take_of_length_le (by rw [hown.1]; exact Nat.le_refl _)]
      rw [this] at h9
      exact h9
    · have hbk : Blk w g e cur.toList := by unfold Blk; rw [Array.toArray_toList]; exact hg
      have hold : ∀ j u, xs[j]? = some u → (w.alloc (.cells news.toArray e)).cell? ((⟨g, 0, none⟩ : Addr).add j) = some u := fun j u hj => by
        rw [add_none, Nat.zero_add, (hbk.alloc _).cell]
        rw [← htake, List.getElem?_take] at hj
        split at hj
        · exact hj
        · cases hj
      obtain ⟨v', w', h1, h2, h3⟩ := run_append_arg_grows (P := P) (w.alloc (.cells news.toArray e)) t ty e i0 z c bytes ht hi hz0 hz1 hz2 hzs hc ⟨g, 0, none⟩ n cap xs hown.1 hold ⟨w.heap.size, 0, none⟩ 1 1 news (by omega) hnew (by omega) h63 hb
      obtain ⟨g', cap', ys, rfl, q1, q2, q3, q4, q5, q6⟩ := ownS_blk h2 (by omega)
      have hu0 : Upd (fun _ => False) w w' := ((Upd.refl _ w).alloc _).grown h3 (fun k hk => by cases hk)
      refine ⟨g', cap', w', h1, own_mono h2 (by omega), ownS_upd hown hu0 (fun _ _ h => h), hu0.mono (fun _ _ h => h.elim), .inr (by omega)⟩
/-- e, c: the lists' elements, their cells; te: the lists' own type. -/
structure Half (te e c : Nat) (mk : Nat → Nat → List Value) (B : Nat) (w : World) (vL vM : Value) (N : Nat) (F G : Nat → Value) (s : Nat → Nat) : Prop where
  rL : RowE te B w vL N F
  rM : RowE te B w vM N G
  l : ∀ j, j < N → w.ownsRow B e c (F j) (s j) (mk (s j) j)
  m : ∀ j, j < N → w.ownsRow B e c (G j) (s j + 1) (mk (s j + 1) j)
  ne : ∀ q, vL.ownBlock = some q → vM.ownBlock ≠ some q
  small : ∀ j, j < N → s j ≤ 1000000
def FK (vL vM : Value) (N : Nat) (F G : Nat → Value) (q : Nat) : Prop := vL.ownBlock = some q ∨ vM.ownBlock = some q ∨ ∃ j, j < N ∧ ((F j).ownBlock = some q ∨ (G j).ownBlock = some q)
section
variable {te e c B : Nat} {mk : Nat → Nat → List Value} {w w' : World} {vL vM : Value} {N : Nat} {F G : Nat → Value} {s : Nat → Nat}
theorem Half.upd {S : Nat → Prop} (b : Half te e c mk B w vL vM N F G s) (hu : Upd S w w') (hs : ∀ q, FK vL vM N F G q → ¬ S q) : Half te e c mk B w' vL vM N F G s :=
  ⟨b.rL.upd hu (fun q hq => hs q (.inl hq)), b.rM.upd hu (fun q hq => hs q (.inr (.inl hq))), fun j hj => ownS_upd (b.l j hj) hu (fun q hq => hs q (.inr (.inr ⟨j, hj, .inl hq⟩))), fun j hj => ownS_upd (b.m j hj) hu (fun q hq => hs q (.inr (.inr ⟨j, hj, .inr hq⟩))), b.ne, b.small⟩
theorem Half.later (b : Half te e c mk B w vL vM N F G s) (hB : Below w.heap.size w w') : Half te e c mk B w' vL vM N F G s := b.upd (Upd.of_below (S := fun _ => False) hB) (fun _ _ h => h)
theorem Half.lt (b : Half te e c mk B w vL vM N F G s) (q : Nat) (hq : FK vL vM N F G q) : B ≤ q ∧ q < w.heap.size := by
  rcases hq with hq | hq | ⟨j, hj, hq | hq⟩
  · exact b.rL.lt q hq
  · exact b.rM.lt q hq
  · exact (b.l j hj).lt q hq
  · exact (b.m j hj).lt q hq
theorem Half.none (te e c : Nat) (mk : Nat → Nat → List Value) (B : Nat) (w : World) : Half te e c mk B w (.slice none 0 0) (.slice none 0 0) 0 (fun _ => .slice none 0 0) (fun _ => .slice none 0 0) (fun _ => 0) :=
  ⟨RowE.nil _ _ _ _, RowE.nil _ _ _ _, fun j hj => by omega, fun j hj => by omega, (fun q hq => by cases hq), fun j hj => by omega⟩
/-- Its blocks are of two types. -/
theorem Half.type (b : Half te e c mk B w vL vM N F G s) {q : Nat} (hq : FK vL vM N F G q) : ∃ ys, Blk w q te ys ∨ Blk w q e ys := by
  rcases hq with hq | hq | ⟨j, hj, hq | hq⟩
  · obtain ⟨ys, h⟩ := ownS_type b.rL hq; exact ⟨ys, .inl h⟩
  · obtain ⟨ys, h⟩ := ownS_type b.rM hq; exact ⟨ys, .inl h⟩
  · obtain ⟨ys, h⟩ := ownS_type (b.l j hj) hq; exact ⟨ys, .inr h⟩
  · obtain ⟨ys, h⟩ := ownS_type (b.m j hj) hq; exact ⟨ys, .inr h⟩
theorem Half.off (b : Half te e c mk B w vL vM N F G s) {q : Nat} {t : TypeId} {xs : List Value} (hq : Blk w q t xs) (h1 : t ≠ te) (h2 : t ≠ e) : ¬ FK vL vM N F G q := fun h => by
  obtain ⟨ys, h3 | h3⟩ := b.type h
  · exact h1 (blk_type hq h3)
  · exact h2 (blk_type hq h3)
theorem Half.is (b : Half te e c mk B w vL vM N F G s) : (∃ a k, vL = .slice a N k) ∧ ∃ a k, vM = .slice a N k := by
  constructor
  · rcases b.rL.2 with ⟨rfl, h0⟩ | ⟨g, cap, cur, rfl, _⟩
    · exact ⟨Option.none, 0, by rw [h0]⟩
    · exact ⟨_, _, rfl⟩
  · rcases b.rM.2 with ⟨rfl, h0⟩ | ⟨g, cap, cur, rfl, _⟩
    · exact ⟨Option.none, 0, by rw [h0]⟩
    · exact ⟨_, _, rfl⟩
end
/-- One list more: the first row. -/
theorem half_one {te e c B t2 : Nat} {mk : Nat → Nat → List Value} {w : World} {vL vM : Value} {N : Nat} {F G : Nat → Value} {s : Nat → Nat} (b : Half te e c mk B w vL vM N F G s) (hne : te ≠ e) (ht2 : Tryd.prog.underlying t2 = some (.slice te)) (hi2 : (Tryd.prog.info? te).map (fun i => (i.zero, i.size, i.bytes)) = some (some (.slice none 0 0), 1, 24))
    (hB : B ≤ w.heap.size) (hN : N ≤ 10000) (v : Value) (k : Nat) (hv : w.ownsRow B e c v k (mk k N)) (hone : v.oneCell' = true) :
    ∃ g1 c1 w1, (Builtin.append_ #[t2, t2] t2 #[vL, .slice (some ⟨w.heap.size, 0, none⟩) 1 1]).run Tryd.prog (w.alloc (.cells #[v] te)) = .ok (.slice (some ⟨g1, 0, none⟩) (N + 1) c1) w1 ∧
      Upd (fun q => vL.ownBlock = some q) w w1 ∧ (vL.ownBlock = some g1 ∨ w.heap.size ≤ g1) ∧ RowE te B w1 (.slice (some ⟨g1, 0, none⟩) (N + 1) c1) (N + 1) (ext F N v) ∧ RowE te B w1 vM N G ∧ (∀ j, j < N → w1.ownsRow B e c (F j) (s j) (mk (s j) j)) ∧ (∀ j, j < N → w1.ownsRow B e c (G j) (s j + 1) (mk (s j + 1) j)) ∧ w1.ownsRow B e c v k (mk k N) ∧ vM.ownBlock ≠ some g1 := by
  have f1 : RowE te B w vL N (ext F N v) := b.rL.congr (fun j hj => (ext_ne _ _ _ _ (by omega)).symm)
  obtain ⟨g1, c1, w1, r1, p1, u1, l1⟩ := f1.push ht2 (z := .slice none 0 0) (bytes := 24) hi2 rfl (by rw [ext_at]; exact hone) (by unfold maxLen; omega) (by omega) hB t2
  rw [ext_at] at r1
  have far : ∀ {x : Value} {n : Nat} {xs : List Value}, w.ownsRow B e c x n xs → w1.ownsRow B e c x n xs := fun h => ownS_upd h u1 fun q hq e1 => by
    obtain ⟨ys, h1⟩ := ownS_type h hq
    obtain ⟨zs, h2⟩ := ownS_type f1 e1
    exact hne (blk_type h2 h1)
  refine ⟨g1, c1, w1, r1, u1, l1, p1, b.rM.upd u1 (fun q hq e1 => b.ne q e1 hq), fun j hj => far (b.l j hj), fun j hj => far (b.m j hj), far hv, fun e1 => ?_⟩
  rcases l1 with h | h
  · exact b.ne g1 h e1
  · have := (b.rM.lt g1 e1).2; omega
/-- The list, longer by one; the second row. -/
theorem half_two {te e c B t2 g1 c1 bytes : Nat} {z : Value} {mk : Nat → Nat → List Value} {w : World} {vM : Value} {N : Nat} {F G : Nat → Value} {s : Nat → Nat} (hne : te ≠ e) (ht2 : Tryd.prog.underlying t2 = some (.slice te)) (hi2 : (Tryd.prog.info? te).map (fun i => (i.zero, i.size, i.bytes)) = some (some (.slice none 0 0), 1, 24))
    (ht : Tryd.prog.underlying te = some (.slice e)) (hi : (Tryd.prog.info? e).map (fun i => (i.zero, i.size, i.bytes)) = some (some z, c, bytes)) (hzs : z.cells.size = c) (hc : 0 < c) (hby : bytes ≤ 100) (hB : B ≤ w.heap.size) (hN : N ≤ 10000) (v : Value) (k : Nat) (hk : k ≤ 1000000)
    (rL : RowE te B w (.slice (some ⟨g1, 0, none⟩) (N + 1) c1) (N + 1) (ext F N v)) (rM : RowE te B w vM N G) (hl : ∀ j, j < N → w.ownsRow B e c (F j) (s j) (mk (s j) j)) (hm : ∀ j, j < N → w.ownsRow B e c (G j) (s j + 1) (mk (s j + 1) j)) (hv : w.ownsRow B e c v k (mk k N)) (hvn : vM.ownBlock ≠ some g1) (hsm : ∀ j, j < N → s j ≤ 1000000)
    (hap : ∀ j, j < N → ∀ q, v.ownBlock = some q → (F j).ownBlock ≠ some q ∧ (G j).ownBlock ≠ some q) (x : List Value) (hx : x.length = c) (hx1 : ∀ u ∈ x, u.oneCell' = true) (hmk : mk k N ++ x = mk (k + 1) N) :
    ∃ g3 c3 w3 g4 c4 w4, (Builtin.append_ #[te, te] te #[v, .slice (some ⟨w.heap.size, 0, none⟩) 1 1]).run Tryd.prog (w.alloc (.cells x.toArray e)) = .ok (.slice (some ⟨g3, 0, none⟩) (k + 1) c3) w3 ∧ Upd (fun q => v.ownBlock = some q) w w3 ∧
      (Builtin.append_ #[t2, t2] t2 #[vM, .slice (some ⟨w3.heap.size, 0, none⟩) 1 1]).run Tryd.prog (w3.alloc (.cells #[.slice (some ⟨g3, 0, none⟩) (k + 1) c3] te)) = .ok (.slice (some ⟨g4, 0, none⟩) (N + 1) c4) w4 ∧
      Half te e c mk B w4 (.slice (some ⟨g1, 0, none⟩) (N + 1) c1) (.slice (some ⟨g4, 0, none⟩) (N + 1) c4) (N + 1) (ext F N v) (ext G N (.slice (some ⟨g3, 0, none⟩) (k + 1) c3)) (ext s N k) ∧ Upd (fun q => v.ownBlock = some q ∨ vM.ownBlock = some q) w w4 ∧ (vM.ownBlock = some g4 ∨ w.heap.size ≤ g4) ∧ (v.ownBlock = some g3 ∨ w.heap.size ≤ g3) := by
  obtain ⟨g3, c3, w3, r3, o3, hv3, u3, l3⟩ := run_pushK (P := Tryd.prog) (t := te) (e := e) (z := z) (bytes := bytes) ht hi hzs hc w te hv x hx hx1 (by unfold maxLen; omega) (by have : (k + 1) * bytes ≤ (k + 1) * 100 := Nat.mul_le_mul_left _ hby; omega) hB
  rw [hmk] at o3
  have hB3 : B ≤ w3.heap.size := Nat.le_trans hB u3.size
  have offt : ∀ {y : Value} {n : Nat} {xs : List Value}, w.ownsRow B te 1 y n xs → ∀ q, y.ownBlock = some q → ¬ v.ownBlock = some q := fun h q hq e1 => by
    obtain ⟨ys, h1⟩ := ownS_type h hq
    obtain ⟨zs, h2⟩ := ownS_type hv e1
    exact hne (blk_type h1 h2)
  have f3 : RowE te B w3 vM N (ext G N (.slice (some ⟨g3, 0, none⟩) (k + 1) c3)) := (rM.upd u3 (offt rM)).congr (fun j hj => (ext_ne _ _ _ _ (by omega)).symm)
  obtain ⟨g4, c4, w4, r4, p4, u4, l4⟩ := f3.push ht2 (z := .slice none 0 0) (bytes := 24) hi2 rfl (by rw [ext_at]; rfl) (by unfold maxLen; omega) (by omega) hB3 t2
  rw [ext_at] at r4
  have offe : ∀ {y : Value} {n : Nat} {xs : List Value}, w3.ownsRow B e c y n xs → ∀ q, y.ownBlock = some q → ¬ vM.ownBlock = some q := fun h q hq e1 => by
    obtain ⟨ys, h1⟩ := ownS_type h hq
    obtain ⟨zs, h2⟩ := ownS_type f3 e1
    exact hne (blk_type h2 h1)
  have rL3 : RowE te B w3 (.slice (some ⟨g1, 0, none⟩) (N + 1) c1) (N + 1) (ext F N v) := rL.upd u3 (offt rL)
  have far : ∀ j, j < N → w3.ownsRow B e c (F j) (s j) (mk (s j) j) ∧ w3.ownsRow B e c (G j) (s j + 1) (mk (s j + 1) j) := fun j hj =>
    ⟨ownS_upd (hl j hj) u3 fun q hq e1 => (hap j hj q e1).1 hq, ownS_upd (hm j hj) u3 fun q hq e1 => (hap j hj q e1).2 hq⟩
  have hl4 : vM.ownBlock = some g4 ∨ w.heap.size ≤ g4 := l4.imp id fun h => Nat.le_trans u3.size h
  refine ⟨g3, c3, w3, g4, c4, w4, r3, u3, r4, ⟨?_, p4, fun j hj => ?_, fun j hj => ?_, fun q hq hq2 => ?_, fun j hj => ?_⟩, ?_, hl4, l3⟩
  · exact rL3.upd u4 fun q hq e1 => by
      injection hq with hq
      have e2 : g1 = q := hq
      subst e2
      exact hvn e1
  · by_cases ej : j = N
    · subst ej
      rw [ext_at, ext_at]
      exact ownS_upd hv3 u4 (offe hv3)
    · rw [ext_ne _ _ _ _ ej, ext_ne _ _ _ _ ej]
      exact ownS_upd (far j (by omega)).1 u4 (offe (far j (by omega)).1)
  · by_cases ej : j = N
    · subst ej
      rw [ext_at, ext_at]
      exact ownS_upd o3 u4 (offe o3)
    · rw [ext_ne _ _ _ _ ej, ext_ne _ _ _ _ ej]
      exact ownS_upd (far j (by omega)).2 u4 (offe (far j (by omega)).2)
  · injection hq with hq
    have e1 : g1 = q := hq
    subst e1
    injection hq2 with hq2
    have e2 : g4 = g1 := hq2
    subst e2
    rcases l4 with h | h
    · exact hvn h
    · have := (rL3.lt g4 rfl).2; omega
  · by_cases ej : j = N
    · subst ej; rw [ext_at]; exact hk
    · rw [ext_ne _ _ _ _ ej]; exact hsm j (by omega)
  · exact (u3.mono fun q _ h => .inl h).trans u4 fun q _ h => .inr h
end Go.Proofs.YtlbgdgobhiokpaaDoor

/- The book's nodes. -/
namespace Go.Proofs.YtlbgdgobhiokpaaDoor
open Go.RowKit
set_option linter.unusedVariables false

def mark (j : Nat) : Nd := (1000 + (j : Int), 0, 0)
def mkN (k j : Nat) : List Value := cellsN (List.replicate k (mark j))
theorem cellsN_set3 : ∀ (N : List Nd) (i : Nat) (x : Nd), i < N.length → (((cellsN N).set (i * 3) (.int .i64 x.1)).set (i * 3 + 1) (.int .u64 x.2.1)).set (i * 3 + 2) (.int .i64 x.2.2) = cellsN (N.set i x)
  | [], i, x, h => by simp at h
  | y :: N, 0, x, h => by simp [cellsN, ndc]
  | y :: N, i + 1, x, h => by
    have e : ∀ M : List Nd, cellsN (y :: M) = ndc y ++ cellsN M := fun M => by simp [cellsN]
    have hl : (ndc y).length = 3 := rfl
    rw [List.set_cons_succ, e, e, ← cellsN_set3 N i x (by simpa using h)]
    rw [List.set_append_right _ _ (by rw [hl]; omega), List.set_append_right _ _ (by rw [hl]; omega), List.set_append_right _ _ (by rw [hl]; omega), hl]
    rw [show (i + 1) * 3 - 3 = i * 3 by omega, show (i + 1) * 3 + 1 - 3 = i * 3 + 1 by omega, show (i + 1) * 3 + 2 - 3 = i * 3 + 2 by omega]
structure BkSt (B : Nat) (w : World) (bt : Nat) (vL vM pL pM : Value) (N : Nat) (F G : Nat → Value) (s : Nat → Nat) : Prop where
  h : Half 22 37 3 mkN B w vL vM N F G s
  t : Blk w bt 70 [vL, vM, pL, pM]
  hb : B ≤ bt
section
variable {B : Nat} {w w' w0 : World} {bt : Nat} {vL vM pL pM v : Value} {N : Nat} {F G : Nat → Value} {s : Nat → Nat} {bm g cap k i : Nat}
theorem BkSt.upd {S : Nat → Prop} (b : BkSt B w bt vL vM pL pM N F G s) (hu : Upd S w w') (hs : ∀ q, q = bt ∨ FK vL vM N F G q → ¬ S q) : BkSt B w' bt vL vM pL pM N F G s :=
  ⟨b.h.upd hu (fun q hq => hs q (.inr hq)), b.t.upd hu (hs bt (.inl rfl)), b.hb⟩
theorem BkSt.later (b : BkSt B w bt vL vM pL pM N F G s) (hB : Below w.heap.size w w') : BkSt B w' bt vL vM pL pM N F G s := b.upd (Upd.of_below (S := fun _ => False) hB) (fun _ _ h => h)
theorem BkSt.base (b : BkSt B w bt vL vM pL pM N F G s) : B ≤ w.heap.size := Nat.le_trans b.hb (Nat.le_of_lt b.t.lt)
structure FillN (B : Nat) (w0 w : World) (bt : Nat) (vL vM pL pM : Value) (N : Nat) (F G : Nat → Value) (s : Nat → Nat) (bm g cap k i : Nat) : Prop where
  bk : BkSt B w bt vL vM pL pM N F G s
  row : ∃ l : List Nd, w.ownsRow B 37 3 (.slice (some ⟨g, 0, none⟩) k cap) k (cellsN l) ∧ l.length = k ∧ ∀ j, j < i → l.getD j nil0 = mark N
  mb : Blk w bm 37 [.int .i64 (1000 + (N : Int)), .int .u64 0, .int .i64 0]
  ne : bm ≠ g
  off : ¬ FK vL vM N F G g
  upd : Upd (fun q => q = g) w0 w
theorem FillN.step (f : FillN B w0 w bt vL vM pL pM N F G s bm g cap k i) (hi : i < k) : (∃ u, w.cell? ⟨g, i * 3, none⟩ = some u) ∧ (∃ u, w.cell? ⟨g, i * 3 + 1, none⟩ = some u) ∧ (∃ u, w.cell? ⟨g, i * 3 + 2, none⟩ = some u) ∧ (∀ j, w.frozen? ⟨g, j, none⟩ = false) ∧
    FillN B w0 (((w.setCell ⟨g, i * 3, none⟩ (.int .i64 (1000 + (N : Int)))).setCell ⟨g, i * 3 + 1, none⟩ (.int .u64 0)).setCell ⟨g, i * 3 + 2, none⟩ (.int .i64 0)) bt vL vM pL pM N F G s bm g cap k (i + 1) := by
  obtain ⟨l, h1, h2, h3⟩ := f.row
  obtain ⟨g', cap', ys, e, hb, hn, hm, hl, ht, hK⟩ := ownS_blk h1 (by omega)
  have e1 : g = g' ∧ cap = cap' := by simpa using e
  obtain ⟨rfl, rfl⟩ := e1
  have hat : ∀ j, j < k * 3 → ys[j]? = (cellsN l)[j]? := fun j hj => by rw [← ht, List.getElem?_take, if_pos hj]
  obtain ⟨c0, c1, c2⟩ := cellsN_at l i (by omega)
  have hu : Upd (fun q => q = g) w (((w.setCell ⟨g, i * 3, none⟩ (.int .i64 (1000 + (N : Int)))).setCell ⟨g, i * 3 + 1, none⟩ (.int .u64 0)).setCell ⟨g, i * 3 + 2, none⟩ (.int .i64 0)) :=
    (((Upd.refl (fun q => q = g) w).set ⟨g, i * 3, none⟩ (.int .i64 (1000 + (N : Int))) (.inl rfl)).set ⟨g, i * 3 + 1, none⟩ (.int .u64 0) (.inl rfl)).set ⟨g, i * 3 + 2, none⟩ (.int .i64 0) (.inl rfl)
  refine ⟨⟨_, by rw [hK.cell, hat _ (by omega), c0]⟩, ⟨_, by rw [hK.cell, hat _ (by omega), c1]⟩, ⟨_, by rw [hK.cell, hat _ (by omega), c2]⟩, fun j => hK.frozen j, ⟨f.bk.upd hu ?_, ⟨l.set i (mark N), ?_, by rw [List.length_set]; exact h2, fun j hj => ?_⟩, f.mb.upd hu f.ne, f.ne, f.off, f.upd.to hu⟩⟩
  · rintro q (rfl | hq) e2
    · subst e2; exact absurd (blk_type f.bk.t hK) (by decide)
    · subst e2; exact f.off hq
  · have h9 := ownS_of_blk (n := k) (c := 3) (((hK.set (i * 3) (.int .i64 (1000 + (N : Int)))).set (i * 3 + 1) (.int .u64 0)).set (i * 3 + 2) (.int .i64 0)) hb (by simpa using hl) hn hm
    rw [List.take_set, List.take_set, List.take_set, ht] at h9
    have h10 := cellsN_set3 l i (mark N) (by omega)
    unfold mark at h10
    simp only at h10
    rw [h10] at h9
    exact h9
  · rw [List.getD_eq_getElem?_getD]
    by_cases e2 : j = i
    · subst e2; rw [List.getElem?_set_self (by omega)]; rfl
    · rw [List.getElem?_set_ne (by omega), ← List.getD_eq_getElem?_getD]
      exact h3 j (by omega)
theorem FillN.full (f : FillN B w0 w bt vL vM pL pM N F G s bm g cap k k) : w.ownsRow B 37 3 (.slice (some ⟨g, 0, none⟩) k cap) k (mkN k N) := by
  obtain ⟨l, h1, h2, h3⟩ := f.row
  have e : l = List.replicate k (mark N) := by
    apply List.ext_getElem?
    intro j
    by_cases hj : j < k
    · have e := h3 j hj
      rw [List.getElem?_replicate, if_pos hj, List.getElem?_eq_getElem (by omega), ← e]
      simp [List.getD, show j < l.length by omega]
    · rw [List.getElem?_eq_none (by omega), List.getElem?_replicate, if_neg hj]
  rw [e] at h1
  exact h1
/-- What a list more leaves. -/
def KeepN (B : Nat) (w w' : World) (bt : Nat) (vL vM pL pM : Value) (N : Nat) (F G : Nat → Value) (v : Value) : Prop :=
  ∃ vL' vM' F' G' s', BkSt B w' bt vL' vM' pL pM (N + 1) F' G' s' ∧ Upd (fun q => q = bt ∨ v.ownBlock = some q ∨ FK vL vM N F G q) w w' ∧ ∀ q, FK vL' vM' (N + 1) F' G' q → FK vL vM N F G q ∨ v.ownBlock = some q ∨ w.heap.size ≤ q
theorem nodes_end (b : BkSt B w bt vL vM pL pM N F G s) (hN : N ≤ 1000) (hk : k ≤ 100000) (hv : w.ownsRow B 37 3 v k (mkN k N)) (hone : v.oneCell' = true) (hap : ∀ q, v.ownBlock = some q → ¬ FK vL vM N F G q) (hmb : Blk w bm 37 [.int .i64 (1000 + (N : Int)), .int .u64 0, .int .i64 0]) (h0 : Upd (fun q => v.ownBlock = some q) w0 w) (h0f : ∀ q, v.ownBlock = some q → q < w0.heap.size) :
    ∃ g1 c1 w1 g3 c3 w3 g4 c4 w4, (Builtin.append_ #[67, 67] 67 #[vL, .slice (some ⟨w.heap.size, 0, none⟩) 1 1]).run Tryd.prog (w.alloc (.cells #[v] 22)) = .ok (.slice (some ⟨g1, 0, none⟩) (N + 1) c1) w1 ∧
      (∃ u, w1.cell? ⟨bt, 0, none⟩ = some u) ∧ w1.frozen? ⟨bt, 0, none⟩ = false ∧ ∃ w2, w2 = w1.setCell ⟨bt, 0, none⟩ (.slice (some ⟨g1, 0, none⟩) (N + 1) c1) ∧
      (w2.cell? ⟨bm, 0, none⟩ = some (.int .i64 (1000 + (N : Int))) ∧ w2.cell? ⟨bm, 1, none⟩ = some (.int .u64 0) ∧ w2.cell? ⟨bm, 2, none⟩ = some (.int .i64 0)) ∧ (w2.cell? ⟨bt, 1, none⟩ = some vM ∧ (∀ ob, (w2.alloc ob).cell? ⟨bt, 1, none⟩ = some vM) ∧ w3.cell? ⟨bt, 1, none⟩ = some vM ∧ (∀ ob, (w3.alloc ob).cell? ⟨bt, 1, none⟩ = some vM)) ∧
      (Builtin.append_ #[22, 22] 22 #[v, .slice (some ⟨w2.heap.size, 0, none⟩) 1 1]).run Tryd.prog (w2.drew.alloc (.cells #[.int .i64 (1000 + (N : Int)), .int .u64 0, .int .i64 0] 37)) = .ok (.slice (some ⟨g3, 0, none⟩) (k + 1) c3) w3 ∧
      (Builtin.append_ #[67, 67] 67 #[vM, .slice (some ⟨w3.heap.size, 0, none⟩) 1 1]).run Tryd.prog (w3.alloc (.cells #[.slice (some ⟨g3, 0, none⟩) (k + 1) c3] 22)) = .ok (.slice (some ⟨g4, 0, none⟩) (N + 1) c4) w4 ∧
      (∃ u, w4.cell? ⟨bt, 1, none⟩ = some u) ∧ w4.frozen? ⟨bt, 1, none⟩ = false ∧ KeepN B w0 (w4.setCell ⟨bt, 1, none⟩ (.slice (some ⟨g4, 0, none⟩) (N + 1) c4)) bt vL vM pL pM N F G v := by
  obtain ⟨g1, c1, w1, r1, u1, l1, p1, rM1, hl1, hm1, hv1, hvn⟩ := half_one (t2 := 67) b.h (by decide) Tryd.underlying67 (by kernel_rfl) b.base (by omega) v k hv hone
  have offL : ∀ {q t : Nat} {xs : List Value}, Blk w q t xs → t ≠ 22 → ¬ vL.ownBlock = some q := fun hq ht e1 => by
    obtain ⟨ys, h2⟩ := ownS_type b.h.rL e1
    exact ht (blk_type hq h2)
  have t1 : Blk w1 bt 70 [vL, vM, pL, pM] := b.t.upd u1 (offL b.t (by decide))
  have m1 := hmb.upd u1 (offL hmb (by decide))
  obtain ⟨w2, hw2⟩ : ∃ w2, w2 = w1.setCell ⟨bt, 0, none⟩ (.slice (some ⟨g1, 0, none⟩) (N + 1) c1) := ⟨_, rfl⟩
  have u2 : Upd (fun q => q = bt) w1 w2 := by rw [hw2]; exact (Upd.refl _ w1).set _ _ (.inl rfl)
  have t2 : Blk w2 bt 70 [.slice (some ⟨g1, 0, none⟩) (N + 1) c1, vM, pL, pM] := by rw [hw2]; exact t1.set 0 _
  have off2 : ∀ {y : Value} {n e c : Nat} {xs : List Value}, w1.ownsRow B e c y n xs → e ≠ 70 → ∀ q, y.ownBlock = some q → ¬ q = bt := fun h he q hq e1 => by
    subst e1
    obtain ⟨ys, h2⟩ := ownS_type h hq
    exact he (blk_type h2 t1)
  have hd : Upd (fun q => q = bt) w1 w2.drew := u2.drew
  have m2 := m1.upd u2 (fun e1 => by subst e1; exact absurd (blk_type m1 t1) (by decide))
  have hsz : w.heap.size ≤ w2.heap.size := Nat.le_trans u1.size u2.size
  obtain ⟨g3, c3, w3, g4, c4, w4, r3, u3, r4, H4, u4, l4, l3⟩ := half_two (te := 22) (e := 37) (c := 3) (t2 := 67) (bytes := 24) (z := .agg #[.int .i64 0, .int .u64 0, .int .i64 0]) (w := w2.drew) (mk := mkN) (s := s) (by decide) Tryd.underlying67 (by kernel_rfl) Tryd.underlying22 (by kernel_rfl) rfl (by decide) (by decide) (Nat.le_trans b.base hsz) (by omega) v k (by omega)
    (p1.upd hd (off2 p1 (by decide))) (rM1.upd hd (off2 rM1 (by decide))) (fun j hj => ownS_upd (hl1 j hj) hd (off2 (hl1 j hj) (by decide))) (fun j hj => ownS_upd (hm1 j hj) hd (off2 (hm1 j hj) (by decide))) (ownS_upd hv1 hd (off2 hv1 (by decide))) hvn b.h.small
    (fun j hj q hq => ⟨fun e1 => hap q hq (.inr (.inr ⟨j, hj, .inl e1⟩)), fun e1 => hap q hq (.inr (.inr ⟨j, hj, .inr e1⟩))⟩) [.int .i64 (1000 + (N : Int)), .int .u64 0, .int .i64 0] rfl (by intro u hu; simp at hu; rcases hu with rfl | rfl | rfl <;> rfl) (by unfold mkN; rw [List.replicate_succ', cellsN_append]; rfl)
  have offv : ¬ v.ownBlock = some bt := fun e1 => by
    obtain ⟨ys, h2⟩ := ownS_type hv1 e1
    exact absurd (blk_type h2 t1) (by decide)
  have offM : ¬ vM.ownBlock = some bt := fun e1 => by
    obtain ⟨ys, h2⟩ := ownS_type rM1 e1
    exact absurd (blk_type h2 t1) (by decide)
  have t3 : Blk w3 bt 70 [.slice (some ⟨g1, 0, none⟩) (N + 1) c1, vM, pL, pM] := t2.drew.upd u3 offv
  have t4 : Blk w4 bt 70 [.slice (some ⟨g1, 0, none⟩) (N + 1) c1, vM, pL, pM] := t2.drew.upd u4 (fun h => h.elim offv offM)
  refine ⟨g1, c1, w1, g3, c3, w3, g4, c4, w4, r1, ⟨_, t1.cell 0⟩, t1.frozen 0, w2, hw2, ⟨m2.cell 0, m2.cell 1, m2.cell 2⟩, ⟨t2.cell 1, fun ob => (t2.alloc ob).cell 1, t3.cell 1, fun ob => (t3.alloc ob).cell 1⟩, r3, r4, ⟨_, t4.cell 1⟩, t4.frozen 1, ?_⟩
  have u5 : Upd (fun q => q = bt) w4 (w4.setCell ⟨bt, 1, none⟩ (.slice (some ⟨g4, 0, none⟩) (N + 1) c4)) := (Upd.refl _ w4).set _ _ (.inl rfl)
  have hbt4 := H4.off t4 (by decide) (by decide)
  refine ⟨_, _, _, _, _, ⟨H4.upd u5 (fun q hq e1 => by subst e1; exact hbt4 hq), t4.set 1 _, b.hb⟩, ?_, ?_⟩
  · have a1 : Upd (fun q => q = bt ∨ v.ownBlock = some q ∨ FK vL vM N F G q) w0 w1 := (h0.mono fun q _ h => .inr (.inl h)).trans u1 fun q _ h => .inr (.inr (.inl h))
    have a2 := a1.trans hd fun q _ h => .inl h
    have a3 := a2.trans u4 fun q _ h => h.elim (fun h => .inr (.inl h)) fun h => .inr (.inr (.inr (.inl h)))
    exact a3.trans u5 fun q _ h => .inl h
  · have hw0 : w0.heap.size ≤ w.heap.size := h0.size
    rintro q (e1 | e1 | ⟨j, hj, e1⟩)
    · injection e1 with e1
      have e2 : g1 = q := e1
      subst e2
      rcases l1 with h | h
      · exact .inl (.inl h)
      · exact .inr (.inr (by omega))
    · injection e1 with e1
      have e2 : g4 = q := e1
      subst e2
      rcases l4 with h | h
      · exact .inl (.inr (.inl h))
      · have h' : w2.heap.size ≤ g4 := h
        exact .inr (.inr (by omega))
    · by_cases ej : j = N
      · subst ej
        rw [ext_at, ext_at] at e1
        rcases e1 with e1 | e1
        · exact .inr (.inl e1)
        · injection e1 with e1
          have e2 : g3 = q := e1
          subst e2
          rcases l3 with h | h
          · exact .inr (.inl h)
          · have h' : w2.heap.size ≤ g3 := h
            exact .inr (.inr (by omega))
      · rw [ext_ne _ _ _ _ ej, ext_ne _ _ _ _ ej] at e1
        exact .inl (.inr (.inr ⟨j, by omega, e1⟩))
end
end Go.Proofs.YtlbgdgobhiokpaaDoor

/- The book's holds. -/
namespace Go.Proofs.YtlbgdgobhiokpaaDoor
open Go.RowKit
set_option linter.unusedVariables false

def mkP (k j : Nat) : List Value := cellsL .i64 (List.replicate k (-1 - (j : Int)))
/-- Row number k of a half, and the longer one. -/
theorem half_at {te e c B : Nat} {mk : Nat → Nat → List Value} {w : World} {vL vM : Value} {N : Nat} {F G : Nat → Value} {s : Nat → Nat} (b : Half te e c mk B w vL vM N F G s) (k : Nat) (hk : k < N) :
    ∃ qL cL qM cM aF cF gM cG, vL = .slice (some ⟨qL, 0, none⟩) N cL ∧ vM = .slice (some ⟨qM, 0, none⟩) N cM ∧ w.cell? ⟨qL, k, none⟩ = some (.slice aF (s k) cF) ∧ w.cell? ⟨qM, k, none⟩ = some (.slice (some ⟨gM, 0, none⟩) (s k + 1) cG) ∧
      (∀ j, j < (s k + 1) * c → w.cell? ⟨gM, j, none⟩ = (mk (s k + 1) k)[j]?) ∧ (0 < s k → ∃ gL, aF = some ⟨gL, 0, none⟩ ∧ ∀ j, j < s k * c → w.cell? ⟨gL, j, none⟩ = (mk (s k) k)[j]?) ∧ N ≤ cL ∧ N ≤ cM ∧ s k ≤ cF ∧ s k + 1 ≤ cG := by
  obtain ⟨qL, cL, rfl, _, h1, _, hL⟩ := b.rL.open (by omega)
  obtain ⟨qM, cM, rfl, _, h2, _, hM⟩ := b.rM.open (by omega)
  have d1 := hL k hk
  have d2 := hM k hk
  obtain ⟨gM, cG, ys, e1, q1, q2, q3, q4, q5, q6⟩ := ownS_blk (b.m k hk) (by omega)
  rw [e1] at d2
  have hat : ∀ j, j < (s k + 1) * c → w.cell? ⟨gM, j, none⟩ = (mk (s k + 1) k)[j]? := fun j hj => by
    rw [q6.cell, ← q5, List.getElem?_take, if_pos hj]
  rcases (b.l k hk).2 with ⟨e2, h0⟩ | ⟨g, cap, cur, e2, p1, p2, p3, p4, p5, p6⟩
  · rw [e2] at d1
    rw [h0] at d2 hat q2 ⊢
    exact ⟨qL, cL, qM, cM, none, 0, gM, cG, rfl, rfl, d1, d2, hat, fun h => by omega, h1, h2, Nat.le_refl _, q2⟩
  · rw [e2] at d1
    have hK : Blk w g e cur.toList := by unfold Blk; rw [Array.toArray_toList]; exact p2
    exact ⟨qL, cL, qM, cM, _, _, gM, cG, rfl, rfl, d1, d2, hat, fun _ => ⟨g, rfl, fun j hj => by rw [hK.cell, ← p6, List.getElem?_take, if_pos hj]⟩, h1, h2, p3, q2⟩
theorem mkN_at (k j i : Nat) (hi : i < k) : (mkN k j)[i * 3]? = some (.int .i64 (1000 + (j : Int))) := by
  unfold mkN
  rw [(cellsN_at _ i (by simpa using hi)).1]
  simp [List.getD, hi, mark]
theorem mkP_at (k j i : Nat) (hi : i < k) : (mkP k j)[i]? = some (.int .i64 (-1 - (j : Int))) := by
  unfold mkP
  rw [cellsL_at _ _ i (by simpa using hi)]
  simp [List.getD, hi]
set_option maxHeartbeats 4000000 in
set_option maxRecDepth 100000 in
theorem holds_any (B bt : Nat) (vL vM pL pM : Value) (N Np : Nat) (F G Fp Gp : Nat → Value) (s sp : Nat → Nat) (w : World) (hb : Hid (BkSt B w bt vL vM pL pM N F G s)) (hp : Hid (Half 43 3 1 mkP B w pL pM Np Fp Gp sp)) (hN : N ≤ 1000) (hNp : Np ≤ 1000) :
    Calls Tryd.prog 31 #[.pointer (some ⟨bt, 0, none⟩)] w fun e w' => e = .returned (.bool true) ∧ w = w' := by
  obtain ⟨⟨aL, cL, rfl⟩, ⟨aM, cM, rfl⟩⟩ := hb.out.h.is
  obtain ⟨⟨aP, cP, rfl⟩, ⟨aQ, cQ, rfl⟩⟩ := hp.out.is
  have c0 := hb.out.t.cell 0
  have c1 := hb.out.t.cell 1
  have c2 := hb.out.t.cell 2
  have c3 := hb.out.t.cell 3
  simp only [List.getElem?_cons_zero, List.getElem?_cons_succ] at c0 c1 c2 c3
  go_enter Tryd.func31, Tryd.ntmps31
  go_wp2_with fail
  go_loopw [3] (fun xk wr => ∃ k : Nat, k ≤ N ∧ xk = .int .i64 k ∧ w = wr) (fun xk _ => N - (intOf xk).toNat)
  case atStart => exact ⟨0, Nat.zero_le _, rfl, rfl⟩
  case round =>
    obtain ⟨k, hk, rfl, rfl⟩ := hrel
    by_cases hkN : k < N
    · have hkN' : (k : Int) < N := by omega
      obtain ⟨qL, cL', qM, cM', aF, cF, gM, cG, e1, e2, dL, dM, dm, dl, n1, n2, n3, n4⟩ := half_at hb.out.h k hkN
      have e1' : aL = some ⟨qL, 0, none⟩ ∧ cL = cL' := by simpa using e1
      have e2' : aM = some ⟨qM, 0, none⟩ ∧ cM = cM' := by simpa using e2
      obtain ⟨rfl, rfl⟩ := e1'
      obtain ⟨rfl, rfl⟩ := e2'
      have hsm := hb.out.h.small k hkN
      obtain ⟨sk, hsk⟩ : ∃ sk, s k = sk := ⟨_, rfl⟩
      rw [hsk] at dL dM dm dl n3 n4 hsm
      clear e1 e2 hsk
      have Dm := hide_ dm
      have Dl := hide_ dl
      clear dm dl
      go_wp2_with fail
      go_loopw [4] (fun xi wx => ∃ i : Nat, i ≤ sk + 1 ∧ xi = .int .i64 i ∧ w = wx) (fun xi _ => sk + 1 - (intOf xi).toNat)
      case atStart => exact ⟨0, Nat.zero_le _, rfl, rfl⟩
      case round =>
        obtain ⟨i, hi, rfl, rfl⟩ := hrel
        by_cases his : i < sk
        · have his' : (i : Int) < sk := by omega
          have his2 : (i : Int) < (sk : Int) + 1 := by omega
          obtain ⟨gL, rfl, dl2⟩ := Dl.out (by omega)
          have x1 := Dm.out (i * 3) (by omega)
          rw [mkN_at _ _ _ (by omega)] at x1
          have x2 := dl2 (i * 3) (by omega)
          rw [mkN_at _ _ _ his] at x2
          clear dl2
          go_wp2
          go_roundw
          case rel => exact ⟨i + 1, by omega, by go_num, trivial⟩
          case measure => simp [intOf]; omega
        · by_cases hie : i = sk
          · subst hie
            have hdf : ¬ ((i : Int) < (i : Int)) := by omega
            have his2 : (i : Int) < (i : Int) + 1 := by omega
            have x1 := Dm.out (i * 3) (by omega)
            rw [mkN_at _ _ _ (by omega)] at x1
            go_wp2
            go_roundw
            case rel => exact ⟨i + 1, by omega, by go_num, trivial⟩
            case measure => simp [intOf]
          · obtain rfl : i = sk + 1 := by omega
            have his2 : ¬ ((sk + 1 : Nat) : Int) < (sk : Int) + 1 := by omega
            clear hie his
            go_wp2
            go_roundw
            case rel => exact ⟨k + 1, by omega, by go_num, trivial⟩
            case measure => simp [intOf]; omega
    · obtain rfl : k = N := by omega
      have hnl : ¬ ((k : Int) < (k : Int)) := by omega
      go_wp2_with fail
      go_loopw [5] (fun xk wr => ∃ k : Nat, k ≤ Np ∧ xk = .int .i64 k ∧ w = wr) (fun xk _ => Np - (intOf xk).toNat)
      case atStart => exact ⟨0, Nat.zero_le _, rfl, rfl⟩
      case round =>
        clear hnl hkN
        obtain ⟨j, hj, rfl, rfl⟩ := hrel
        by_cases hjN : j < Np
        · have hjN' : (j : Int) < Np := by omega
          obtain ⟨qL, cL', qM, cM', aF, cF, gM, cG, e1, e2, dL, dM, dm, dl, n1, n2, n3, n4⟩ := half_at hp.out j hjN
          have e1' : aP = some ⟨qL, 0, none⟩ ∧ cP = cL' := by simpa using e1
          have e2' : aQ = some ⟨qM, 0, none⟩ ∧ cQ = cM' := by simpa using e2
          obtain ⟨rfl, rfl⟩ := e1'
          obtain ⟨rfl, rfl⟩ := e2'
          have hsm := hp.out.small j hjN
          obtain ⟨sk, hsk⟩ : ∃ sk, sp j = sk := ⟨_, rfl⟩
          rw [hsk] at dL dM dm dl n3 n4 hsm
          clear e1 e2 hsk
          have Dm := hide_ dm
          have Dl := hide_ dl
          clear dm dl
          go_wp2_with fail
          go_loopw [6] (fun xi wx => ∃ i : Nat, i ≤ sk + 1 ∧ xi = .int .i64 i ∧ w = wx) (fun xi _ => sk + 1 - (intOf xi).toNat)
          case atStart => exact ⟨0, Nat.zero_le _, rfl, rfl⟩
          case round =>
            obtain ⟨i, hi, rfl, rfl⟩ := hrel
            by_cases his : i < sk
            · have his' : (i : Int) < sk := by omega
              have his2 : (i : Int) < (sk : Int) + 1 := by omega
              obtain ⟨gL, rfl, dl2⟩ := Dl.out (by omega)
              have x1 := Dm.out i (by omega)
              rw [mkP_at _ _ _ (by omega)] at x1
              have x2 := dl2 i (by omega)
              rw [mkP_at _ _ _ his] at x2
              clear dl2
              go_wp2
              go_roundw
              case rel => exact ⟨i + 1, by omega, by go_num, trivial⟩
              case measure => simp [intOf]; omega
            · by_cases hie : i = sk
              · subst hie
                have hdf : ¬ ((i : Int) < (i : Int)) := by omega
                have his2 : (i : Int) < (i : Int) + 1 := by omega
                have x1 := Dm.out i (by omega)
                rw [mkP_at _ _ _ (by omega)] at x1
                go_wp2
                go_roundw
                case rel => exact ⟨i + 1, by omega, by go_num, trivial⟩
                case measure => simp [intOf]
              · obtain rfl : i = sk + 1 := by omega
                have his2 : ¬ ((sk + 1 : Nat) : Int) < (sk : Int) + 1 := by omega
                clear hie his
                go_wp2
                go_roundw
                case rel => exact ⟨j + 1, by omega, by go_num, trivial⟩
                case measure => simp [intOf]; omega
        · obtain rfl : j = Np := by omega
          have hnl : ¬ ((j : Int) < (j : Int)) := by omega
          go_wp2
          go_ret
          exact ⟨rfl, rfl⟩
end Go.Proofs.YtlbgdgobhiokpaaDoor

/- The book's ints: what lies in memory. -/
namespace Go.Proofs.YtlbgdgobhiokpaaDoor
open Go.RowKit
set_option linter.unusedVariables false

structure PkSt (B : Nat) (w : World) (bt : Nat) (vL vM pL pM : Value) (N : Nat) (F G : Nat → Value) (s : Nat → Nat) : Prop where
  h : Half 43 3 1 mkP B w pL pM N F G s
  t : Blk w bt 70 [vL, vM, pL, pM]
  hb : B ≤ bt
section
variable {B : Nat} {w w' w0 : World} {bt : Nat} {vL vM pL pM v : Value} {N : Nat} {F G : Nat → Value} {s : Nat → Nat} {g cap k i : Nat}
theorem PkSt.upd {S : Nat → Prop} (b : PkSt B w bt vL vM pL pM N F G s) (hu : Upd S w w') (hs : ∀ q, q = bt ∨ FK pL pM N F G q → ¬ S q) : PkSt B w' bt vL vM pL pM N F G s :=
  ⟨b.h.upd hu (fun q hq => hs q (.inr hq)), b.t.upd hu (hs bt (.inl rfl)), b.hb⟩
theorem PkSt.later (b : PkSt B w bt vL vM pL pM N F G s) (hB : Below w.heap.size w w') : PkSt B w' bt vL vM pL pM N F G s := b.upd (Upd.of_below (S := fun _ => False) hB) (fun _ _ h => h)
theorem PkSt.base (b : PkSt B w bt vL vM pL pM N F G s) : B ≤ w.heap.size := Nat.le_trans b.hb (Nat.le_of_lt b.t.lt)
structure FillP (B : Nat) (w0 w : World) (bt : Nat) (vL vM pL pM : Value) (N : Nat) (F G : Nat → Value) (s : Nat → Nat) (g cap k i : Nat) : Prop where
  bk : PkSt B w bt vL vM pL pM N F G s
  row : ∃ l : List Int, w.ownsRow B 3 1 (.slice (some ⟨g, 0, none⟩) k cap) k (cellsL .i64 l) ∧ l.length = k ∧ ∀ j, j < i → l.getD j 0 = -1 - (N : Int)
  off : ¬ FK pL pM N F G g
  upd : Upd (fun q => q = g) w0 w
theorem FillP.step (f : FillP B w0 w bt vL vM pL pM N F G s g cap k i) (hi : i < k) : (∃ u, w.cell? ⟨g, i, none⟩ = some u) ∧ (∀ j, w.frozen? ⟨g, j, none⟩ = false) ∧
    FillP B w0 (w.setCell ⟨g, i, none⟩ (.int .i64 (-1 - (N : Int)))) bt vL vM pL pM N F G s g cap k (i + 1) := by
  obtain ⟨l, h1, h2, h3⟩ := f.row
  obtain ⟨g', cap', ys, e, hb, hn, hm, hl, ht, hK⟩ := ownS_blk h1 (by omega)
  have e1 : g = g' ∧ cap = cap' := by simpa using e
  obtain ⟨rfl, rfl⟩ := e1
  have hyl : i < ys.length := by rw [hl]; omega
  have hu : Upd (fun q => q = g) w (w.setCell ⟨g, i, none⟩ (.int .i64 (-1 - (N : Int)))) := (Upd.refl (fun q => q = g) w).set ⟨g, i, none⟩ _ (.inl rfl)
  refine ⟨⟨_, by rw [hK.cell, List.getElem?_eq_getElem hyl]⟩, fun j => hK.frozen j, ⟨f.bk.upd hu ?_, ⟨l.set i (-1 - (N : Int)), ?_, by rw [List.length_set]; exact h2, fun j hj => ?_⟩, f.off, f.upd.to hu⟩⟩
  · rintro q (rfl | hq) e2
    · subst e2; exact absurd (blk_type f.bk.t hK) (by decide)
    · subst e2; exact f.off hq
  · have h9 := ownS_of_blk (n := k) (c := 1) (hK.set i (.int .i64 (-1 - (N : Int)))) hb (by simpa using hl) hn hm
    rw [List.take_set, ht] at h9
    have h10 : (cellsL .i64 l).set i (.int .i64 (-1 - (N : Int))) = cellsL .i64 (l.set i (-1 - (N : Int))) := by
      unfold cellsL
      rw [List.map_set]
    rw [h10] at h9
    exact h9
  · rw [List.getD_eq_getElem?_getD]
    by_cases e2 : j = i
    · subst e2; rw [List.getElem?_set_self (by omega)]; rfl
    · rw [List.getElem?_set_ne (by omega), ← List.getD_eq_getElem?_getD]
      exact h3 j (by omega)
theorem FillP.full (f : FillP B w0 w bt vL vM pL pM N F G s g cap k k) : w.ownsRow B 3 1 (.slice (some ⟨g, 0, none⟩) k cap) k (mkP k N) := by
  obtain ⟨l, h1, h2, h3⟩ := f.row
  have e : l = List.replicate k (-1 - (N : Int)) := by
    apply List.ext_getElem?
    intro j
    by_cases hj : j < k
    · have e := h3 j hj
      rw [List.getElem?_replicate, if_pos hj, List.getElem?_eq_getElem (by omega), ← e]
      simp [List.getD, show j < l.length by omega]
    · rw [List.getElem?_eq_none (by omega), List.getElem?_replicate, if_neg hj]
  rw [e] at h1
  exact h1
/-- What a list more leaves. -/
def KeepP (B : Nat) (w w' : World) (bt : Nat) (vL vM pL pM : Value) (N : Nat) (F G : Nat → Value) (v : Value) : Prop :=
  ∃ pL' pM' F' G' s', PkSt B w' bt vL vM pL' pM' (N + 1) F' G' s' ∧ Upd (fun q => q = bt ∨ v.ownBlock = some q ∨ FK pL pM N F G q) w w' ∧ ∀ q, FK pL' pM' (N + 1) F' G' q → FK pL pM N F G q ∨ v.ownBlock = some q ∨ w.heap.size ≤ q
theorem ints_end (b : PkSt B w bt vL vM pL pM N F G s) (hN : N ≤ 1000) (hk : k ≤ 100000) (hv : w.ownsRow B 3 1 v k (mkP k N)) (hone : v.oneCell' = true) (hap : ∀ q, v.ownBlock = some q → ¬ FK pL pM N F G q) (h0 : Upd (fun q => v.ownBlock = some q) w0 w) (h0f : ∀ q, v.ownBlock = some q → q < w0.heap.size) :
    ∃ g1 c1 w1 g3 c3 w3 g4 c4 w4, (Builtin.append_ #[68, 68] 68 #[pL, .slice (some ⟨w.heap.size, 0, none⟩) 1 1]).run Tryd.prog (w.alloc (.cells #[v] 43)) = .ok (.slice (some ⟨g1, 0, none⟩) (N + 1) c1) w1 ∧
      (∃ u, w1.cell? ⟨bt, 2, none⟩ = some u) ∧ w1.frozen? ⟨bt, 2, none⟩ = false ∧ ∃ w2, w2 = w1.setCell ⟨bt, 2, none⟩ (.slice (some ⟨g1, 0, none⟩) (N + 1) c1) ∧
      (w2.cell? ⟨bt, 3, none⟩ = some pM ∧ (∀ ob, (w2.alloc ob).cell? ⟨bt, 3, none⟩ = some pM) ∧ w3.cell? ⟨bt, 3, none⟩ = some pM ∧ (∀ ob, (w3.alloc ob).cell? ⟨bt, 3, none⟩ = some pM)) ∧
      (Builtin.append_ #[43, 43] 43 #[v, .slice (some ⟨w2.heap.size, 0, none⟩) 1 1]).run Tryd.prog (w2.drew.alloc (.cells #[.int .i64 (-1 - (N : Int))] 3)) = .ok (.slice (some ⟨g3, 0, none⟩) (k + 1) c3) w3 ∧
      (Builtin.append_ #[68, 68] 68 #[pM, .slice (some ⟨w3.heap.size, 0, none⟩) 1 1]).run Tryd.prog (w3.alloc (.cells #[.slice (some ⟨g3, 0, none⟩) (k + 1) c3] 43)) = .ok (.slice (some ⟨g4, 0, none⟩) (N + 1) c4) w4 ∧
      (∃ u, w4.cell? ⟨bt, 3, none⟩ = some u) ∧ w4.frozen? ⟨bt, 3, none⟩ = false ∧ KeepP B w0 (w4.setCell ⟨bt, 3, none⟩ (.slice (some ⟨g4, 0, none⟩) (N + 1) c4)) bt vL vM pL pM N F G v := by
  obtain ⟨g1, c1, w1, r1, u1, l1, p1, rM1, hl1, hm1, hv1, hvn⟩ := half_one (t2 := 68) b.h (by decide) Tryd.underlying68 (by kernel_rfl) b.base (by omega) v k hv hone
  have offL : ∀ {q t : Nat} {xs : List Value}, Blk w q t xs → t ≠ 43 → ¬ pL.ownBlock = some q := fun hq ht e1 => by
    obtain ⟨ys, h2⟩ := ownS_type b.h.rL e1
    exact ht (blk_type hq h2)
  have t1 : Blk w1 bt 70 [vL, vM, pL, pM] := b.t.upd u1 (offL b.t (by decide))
  obtain ⟨w2, hw2⟩ : ∃ w2, w2 = w1.setCell ⟨bt, 2, none⟩ (.slice (some ⟨g1, 0, none⟩) (N + 1) c1) := ⟨_, rfl⟩
  have u2 : Upd (fun q => q = bt) w1 w2 := by rw [hw2]; exact (Upd.refl _ w1).set _ _ (.inl rfl)
  have t2 : Blk w2 bt 70 [vL, vM, .slice (some ⟨g1, 0, none⟩) (N + 1) c1, pM] := by rw [hw2]; exact t1.set 2 _
  have off2 : ∀ {y : Value} {n e c : Nat} {xs : List Value}, w1.ownsRow B e c y n xs → e ≠ 70 → ∀ q, y.ownBlock = some q → ¬ q = bt := fun h he q hq e1 => by
    subst e1
    obtain ⟨ys, h2⟩ := ownS_type h hq
    exact he (blk_type h2 t1)
  have hd : Upd (fun q => q = bt) w1 w2.drew := u2.drew
  have hsz : w.heap.size ≤ w2.heap.size := Nat.le_trans u1.size u2.size
  obtain ⟨g3, c3, w3, g4, c4, w4, r3, u3, r4, H4, u4, l4, l3⟩ := half_two (te := 43) (e := 3) (c := 1) (t2 := 68) (bytes := 8) (z := .int .i64 0) (w := w2.drew) (mk := mkP) (s := s) (by decide) Tryd.underlying68 (by kernel_rfl) Tryd.underlying43 (by kernel_rfl) rfl (by decide) (by decide) (Nat.le_trans b.base hsz) (by omega) v k (by omega)
    (p1.upd hd (off2 p1 (by decide))) (rM1.upd hd (off2 rM1 (by decide))) (fun j hj => ownS_upd (hl1 j hj) hd (off2 (hl1 j hj) (by decide))) (fun j hj => ownS_upd (hm1 j hj) hd (off2 (hm1 j hj) (by decide))) (ownS_upd hv1 hd (off2 hv1 (by decide))) hvn b.h.small
    (fun j hj q hq => ⟨fun e1 => hap q hq (.inr (.inr ⟨j, hj, .inl e1⟩)), fun e1 => hap q hq (.inr (.inr ⟨j, hj, .inr e1⟩))⟩) [.int .i64 (-1 - (N : Int))] rfl (by intro u hu; simp at hu; subst hu; rfl) (by unfold mkP; rw [List.replicate_succ', cellsL_append]; rfl)
  have offv : ¬ v.ownBlock = some bt := fun e1 => by
    obtain ⟨ys, h2⟩ := ownS_type hv1 e1
    exact absurd (blk_type h2 t1) (by decide)
  have offM : ¬ pM.ownBlock = some bt := fun e1 => by
    obtain ⟨ys, h2⟩ := ownS_type rM1 e1
    exact absurd (blk_type h2 t1) (by decide)
  have t3 : Blk w3 bt 70 [vL, vM, .slice (some ⟨g1, 0, none⟩) (N + 1) c1, pM] := t2.drew.upd u3 offv
  have t4 : Blk w4 bt 70 [vL, vM, .slice (some ⟨g1, 0, none⟩) (N + 1) c1, pM] := t2.drew.upd u4 (fun h => h.elim offv offM)
  refine ⟨g1, c1, w1, g3, c3, w3, g4, c4, w4, r1, ⟨_, t1.cell 2⟩, t1.frozen 2, w2, hw2, ⟨t2.cell 3, fun ob => (t2.alloc ob).cell 3, t3.cell 3, fun ob => (t3.alloc ob).cell 3⟩, r3, r4, ⟨_, t4.cell 3⟩, t4.frozen 3, ?_⟩
  have u5 : Upd (fun q => q = bt) w4 (w4.setCell ⟨bt, 3, none⟩ (.slice (some ⟨g4, 0, none⟩) (N + 1) c4)) := (Upd.refl _ w4).set _ _ (.inl rfl)
  have hbt4 := H4.off t4 (by decide) (by decide)
  refine ⟨_, _, _, _, _, ⟨H4.upd u5 (fun q hq e1 => by subst e1; exact hbt4 hq), t4.set 3 _, b.hb⟩, ?_, ?_⟩
  · have a1 : Upd (fun q => q = bt ∨ v.ownBlock = some q ∨ FK pL pM N F G q) w0 w1 := (h0.mono fun q _ h => .inr (.inl h)).trans u1 fun q _ h => .inr (.inr (.inl h))
    have a2 := a1.trans hd fun q _ h => .inl h
    have a3 := a2.trans u4 fun q _ h => h.elim (fun h => .inr (.inl h)) fun h => .inr (.inr (.inr (.inl h)))
    exact a3.trans u5 fun q _ h => .inl h
  · have hw0 : w0.heap.size ≤ w.heap.size := h0.size
    rintro q (e1 | e1 | ⟨j, hj, e1⟩)
    · injection e1 with e1
      have e2 : g1 = q := e1
      subst e2
      rcases l1 with h | h
      · exact .inl (.inl h)
      · exact .inr (.inr (by omega))
    · injection e1 with e1
      have e2 : g4 = q := e1
      subst e2
      rcases l4 with h | h
      · exact .inl (.inr (.inl h))
      · have h' : w2.heap.size ≤ g4 := h
        exact .inr (.inr (by omega))
    · by_cases ej : j = N
      · subst ej
        rw [ext_at, ext_at] at e1
        rcases e1 with e1 | e1
        · exact .inr (.inl e1)
        · injection e1 with e1
          have e2 : g3 = q := e1
          subst e2
          rcases l3 with h | h
          · exact .inr (.inl h)
          · have h' : w2.heap.size ≤ g3 := h
            exact .inr (.inr (by omega))
      · rw [ext_ne _ _ _ _ ej, ext_ne _ _ _ _ ej] at e1
        exact .inl (.inr (.inr ⟨j, by omega, e1⟩))
end
end Go.Proofs.YtlbgdgobhiokpaaDoor

/- The book's ints: the walk. -/
namespace Go.Proofs.YtlbgdgobhiokpaaDoor
open Go.RowKit
set_option linter.unusedVariables false

set_option maxRecDepth 100000 in
set_option maxHeartbeats 4000000 in
theorem ints_any (B bt : Nat) (vL vM pL pM : Value) (N : Nat) (F G : Nat → Value) (s : Nat → Nat) (v : Value) (D : List Int) (w : World) (hb : Hid (PkSt B w bt vL vM pL pM N F G s)) (hv : Hid (w.ownsRow B 3 1 v D.length (cellsL .i64 D))) (hap : Hid (∀ q, v.ownBlock = some q → ¬ FK pL pM N F G q)) (hN : N ≤ 1000) (hk : D.length ≤ 100000) :
    Calls Tryd.prog 69 #[.pointer (some ⟨bt, 0, none⟩), v] w fun e w' => e = .returned (.tuple #[]) ∧ Hid (KeepP B w w' bt vL vM pL pM N F G v) := by
  obtain ⟨⟨aL, cL, rfl⟩, ⟨aM, cM, rfl⟩⟩ := hb.out.h.is
  have c2 := hb.out.t.cell 2
  simp only [List.getElem?_cons_zero, List.getElem?_cons_succ] at c2
  have hlt : ∀ q, v.ownBlock = some q → q < w.heap.size := fun q hq => (hv.out.lt q hq).2
  have hwm : IntKind.i64.wrap (-1 - (N : Int)) = -1 - (N : Int) := i64w _ (by omega)
  rcases hv.out.2 with ⟨rfl, h0⟩ | ⟨g, cap, cur, rfl, _⟩
  · have hD : D = [] := List.length_eq_zero_iff.1 h0
    subst hD
    obtain ⟨g1, c1, w1, g3, c3, w3, g4, c4, w4, r1, ⟨u0, d0⟩, z0, w2, hw2, ⟨k0, k1, k2, k3⟩, r3, r4, ⟨u1, d1⟩, z1, KT⟩ := ints_end (k := 0) hb.out hN (Nat.zero_le _) hv.out rfl hap.out (Upd.refl _ w) (fun q hq => hlt q hq)
    have R1 := hide_ r1
    have R3 := hide_ r3
    have R4 := hide_ r4
    have HKT := hide_ KT
    clear r1 r3 r4 KT hv hb hap hlt
    go_enter Tryd.func69, Tryd.ntmps69
    go_wp2_with fail
    go_loop [5] (fun i => i = .int .i64 0) (fun _ => 0)
    case atStart => rfl
    case round =>
      subst hrel
      go_upto_region 6 with (first | (at_builtin; have _t := R1; refine wpList_append_run rfl (.tmp 26) (.tmp 28) 68 68 rfl rfl rfl R1.out ?_; clear R1))
      rw [← hw2]
      clear hw2 d0 z0
      go_region_law (first
        | (refine step_append_run rfl (.tmp 37) (.tmp 39) 43 43 rfl rfl rfl R3.out ?_)
        | (refine step_append_run rfl (.tmp 36) (.tmp 41) 68 68 rfl rfl rfl R4.out ?_))
      all_goals
        go_wp2
        go_end0
        exact ⟨rfl, HKT⟩
  · have hgf := hap.out g rfl
    have hgw := hlt g rfl
    have HF0 : Hid (FillP B w w bt vL vM (.slice aL N cL) (.slice aM N cM) N F G s g cap D.length 0) := ⟨hb.out, ⟨D, hv.out, rfl, fun j hj => by omega⟩, hgf, Upd.refl _ _⟩
    obtain ⟨k, hkD⟩ : ∃ k, D.length = k := ⟨_, rfl⟩
    rw [hkD] at HF0 hk ⊢
    have hone : (Value.slice (some ⟨g, 0, none⟩) k cap).oneCell' = true := rfl
    clear hv hb hlt
    go_enter Tryd.func69, Tryd.ntmps69
    go_wp2_with fail
    go_loopw [5] (fun xi wr => ∃ i : Nat, i ≤ k ∧ xi = .int .i64 i ∧ Hid (FillP B w wr bt vL vM (.slice aL N cL) (.slice aM N cM) N F G s g cap k i)) (fun xi _ => k - (intOf xi).toNat)
    case atStart => exact ⟨0, Nat.zero_le _, rfl, HF0⟩
    case round =>
      clear HF0
      obtain ⟨i, hi, rfl, HF⟩ := hrel
      by_cases hik : i < k
      · have hik' : (i : Int) < k := by omega
        obtain ⟨⟨x0, b0⟩, hz, f2⟩ := HF.out.step hik
        have HF2 := hide_ f2
        clear f2 HF
        go_wp2
        go_roundw
        case rel => exact ⟨i + 1, by omega, by go_num, HF2⟩
        case measure => simp [intOf]; omega
      · obtain rfl : i = k := by omega
        have hnl : ¬ ((i : Int) < (i : Int)) := by omega
        obtain ⟨g1, c1, w1, g3, c3, w3, g4, c4, w4, r1, ⟨u0, d0⟩, z0, w2, hw2, ⟨k0, k1, k2, k3⟩, r3, r4, ⟨u1, d1⟩, z1, KT⟩ := ints_end (w0 := w) (v := .slice (some ⟨g, 0, none⟩) i cap) HF.out.bk hN hk HF.out.full rfl (fun q hq => by injection hq with hq; have e : g = q := hq; subst e; exact hgf) (HF.out.upd.mono fun q _ h => by subst h; rfl) (fun q hq => by injection hq with hq; have e : g = q := hq; subst e; exact hgw)
        have R1 := hide_ r1
        have R3 := hide_ r3
        have R4 := hide_ r4
        have HKT := hide_ KT
        have e0 := HF.out.bk.t.cell 2
        simp only [List.getElem?_cons_zero, List.getElem?_cons_succ] at e0
        clear r1 r3 r4 KT HF hap
        go_upto_region 6 with (first | (at_builtin; have _t := R1; refine wpList_append_run rfl (.tmp 26) (.tmp 28) 68 68 rfl rfl rfl R1.out ?_; clear R1))
        rw [← hw2]
        clear hw2 d0 z0
        go_region_law (first
          | (refine step_append_run rfl (.tmp 37) (.tmp 39) 43 43 rfl rfl rfl R3.out ?_)
          | (refine step_append_run rfl (.tmp 36) (.tmp 41) 68 68 rfl rfl rfl R4.out ?_))
        all_goals
          go_wp2
          go_end0
          exact ⟨rfl, HKT⟩
end Go.Proofs.YtlbgdgobhiokpaaDoor

/- The book's nodes: the walk. -/
namespace Go.Proofs.YtlbgdgobhiokpaaDoor
open Go.RowKit
set_option linter.unusedVariables false

set_option maxRecDepth 100000 in
set_option maxHeartbeats 4000000 in
theorem nodes_any (B bt : Nat) (vL vM pL pM : Value) (N : Nat) (F G : Nat → Value) (s : Nat → Nat) (v : Value) (D : List Nd) (w : World) (hb : Hid (BkSt B w bt vL vM pL pM N F G s)) (hv : Hid (w.ownsRow B 37 3 v D.length (cellsN D))) (hap : Hid (∀ q, v.ownBlock = some q → ¬ FK vL vM N F G q)) (hN : N ≤ 1000) (hk : D.length ≤ 100000) :
    Calls Tryd.prog 30 #[.pointer (some ⟨bt, 0, none⟩), v] w fun e w' => e = .returned (.tuple #[]) ∧ Hid (KeepN B w w' bt vL vM pL pM N F G v) := by
  obtain ⟨⟨aL, cL, rfl⟩, ⟨aM, cM, rfl⟩⟩ := hb.out.h.is
  have c0 := hb.out.t.cell 0
  simp only [List.getElem?_cons_zero] at c0
  obtain ⟨wA, hwA⟩ : ∃ wA, wA = w.alloc (.cells #[.int .i64 (1000 + (N : Int)), .int .u64 0, .int .i64 0] 37) := ⟨_, rfl⟩
  have K := Blk.newA w #[.int .i64 (1000 + (N : Int)), .int .u64 0, .int .i64 0] 37
  rw [← hwA] at K
  have hBA : Below w.heap.size w wA := by rw [hwA]; exact (Below.refl _ _).alloc (Nat.le_refl _) _
  have HbA := hide_ (hb.out.later hBA)
  have HvA := hide_ (ownS_upd hv.out (Upd.of_below (S := fun _ => False) hBA) (fun _ _ h => h))
  have hlt : ∀ q, v.ownBlock = some q → q < w.heap.size := fun q hq => (hv.out.lt q hq).2
  have HU : Hid (Upd (fun q => v.ownBlock = some q) w wA) := Upd.of_below hBA
  have HK := hide_ K
  rcases hv.out.2 with ⟨rfl, h0⟩ | ⟨g, cap, cur, rfl, _⟩
  · have hD : D = [] := List.length_eq_zero_iff.1 h0
    subst hD
    obtain ⟨g1, c1, w1, g3, c3, w3, g4, c4, w4, r1, ⟨u0, d0⟩, z0, w2, hw2, ⟨m0, m1, m2⟩, ⟨k0, k1, k2, k3⟩, r3, r4, ⟨u1, d1⟩, z1, KT⟩ := nodes_end (k := 0) HbA.out hN (Nat.zero_le _) HvA.out rfl hap.out HK.out HU.out (fun q hq => hlt q hq)
    have R1 := hide_ r1
    have R3 := hide_ r3
    have R4 := hide_ r4
    have HKT := hide_ KT
    have e0 := HbA.out.t.cell 0
    simp only [List.getElem?_cons_zero] at e0
    clear r1 r3 r4 KT hv hb hap HbA HvA HU HK K hBA hlt
    go_enter Tryd.func30, Tryd.ntmps30
    go_upto_region 1 with fail
    rw [← hwA]
    clear hwA c0
    go_wp2_with fail
    go_loop [5] (fun i => i = .int .i64 0) (fun _ => 0)
    case atStart => rfl
    case round =>
      subst hrel
      go_upto_region 6 with (first | (at_builtin; have _t := R1; refine wpList_append_run rfl (.tmp 27) (.tmp 29) 67 67 rfl rfl rfl R1.out ?_; clear R1))
      rw [← hw2]
      clear hw2 e0 d0 z0
      go_region_law (first
        | (refine step_append_run rfl (.tmp 38) (.tmp 40) 22 22 rfl rfl rfl R3.out ?_)
        | (refine step_append_run rfl (.tmp 37) (.tmp 42) 67 67 rfl rfl rfl R4.out ?_))
      all_goals
        go_wp2
        go_end0
        exact ⟨rfl, HKT⟩
  · have hgf := hap.out g rfl
    have hgw := hlt g rfl
    have HF0 : Hid (FillN B wA wA bt (.slice aL N cL) (.slice aM N cM) pL pM N F G s w.heap.size g cap D.length 0) := ⟨HbA.out, ⟨D, HvA.out, rfl, fun j hj => by omega⟩, HK.out, by omega, hgf, Upd.refl _ _⟩
    obtain ⟨k, hkD⟩ : ∃ k, D.length = k := ⟨_, rfl⟩
    rw [hkD] at HF0 hk ⊢
    have hone : (Value.slice (some ⟨g, 0, none⟩) k cap).oneCell' = true := rfl
    have HB0 := hide_ hBA
    clear hv hb HbA HvA HU HK K hBA hlt
    go_enter Tryd.func30, Tryd.ntmps30
    go_upto_region 1 with fail
    rw [← hwA]
    clear hwA c0
    go_wp2_with fail
    go_loopw [5] (fun xi wr => ∃ i : Nat, i ≤ k ∧ xi = .int .i64 i ∧ Hid (FillN B wA wr bt (.slice aL N cL) (.slice aM N cM) pL pM N F G s w.heap.size g cap k i)) (fun xi _ => k - (intOf xi).toNat)
    case atStart => exact ⟨0, Nat.zero_le _, rfl, HF0⟩
    case round =>
      clear HF0
      obtain ⟨i, hi, rfl, HF⟩ := hrel
      by_cases hik : i < k
      · have hik' : (i : Int) < k := by omega
        obtain ⟨⟨x0, b0⟩, ⟨x1, b1⟩, ⟨x2, b2⟩, hz, f2⟩ := HF.out.step hik
        have a0 := HF.out.mb.cell 0
        have a1 := HF.out.mb.cell 1
        have a2 := HF.out.mb.cell 2
        simp only [List.getElem?_cons_zero, List.getElem?_cons_succ] at a0 a1 a2
        have HF2 := hide_ f2
        clear f2 HF
        go_wp2
        go_roundw
        case rel => exact ⟨i + 1, by omega, by go_num, HF2⟩
        case measure => simp [intOf]; omega
      · obtain rfl : i = k := by omega
        have hnl : ¬ ((i : Int) < (i : Int)) := by omega
        obtain ⟨g1, c1, w1, g3, c3, w3, g4, c4, w4, r1, ⟨u0, d0⟩, z0, w2, hw2, ⟨m0, m1, m2⟩, ⟨k0, k1, k2, k3⟩, r3, r4, ⟨u1, d1⟩, z1, KT⟩ := nodes_end (w0 := w) (v := .slice (some ⟨g, 0, none⟩) i cap) HF.out.bk hN hk HF.out.full rfl (fun q hq => by injection hq with hq; have e : g = q := hq; subst e; exact hgf) HF.out.mb (((Upd.of_below HB0.out : Upd (fun q => (Value.slice (some ⟨g, 0, none⟩) i cap).ownBlock = some q) w wA)).trans HF.out.upd fun q _ h => by subst h; rfl) (fun q hq => by injection hq with hq; have e : g = q := hq; subst e; exact hgw)
        have R1 := hide_ r1
        have R3 := hide_ r3
        have R4 := hide_ r4
        have HKT := hide_ KT
        have e0 := HF.out.bk.t.cell 0
        simp only [List.getElem?_cons_zero] at e0
        clear r1 r3 r4 KT HF hap
        go_upto_region 6 with (first | (at_builtin; have _t := R1; refine wpList_append_run rfl (.tmp 27) (.tmp 29) 67 67 rfl rfl rfl R1.out ?_; clear R1))
        rw [← hw2]
        clear hw2 e0 d0 z0
        go_region_law (first
          | (refine step_append_run rfl (.tmp 38) (.tmp 40) 22 22 rfl rfl rfl R3.out ?_)
          | (refine step_append_run rfl (.tmp 37) (.tmp 42) 67 67 rfl rfl rfl R4.out ?_))
        all_goals
          go_wp2
          go_end0
          exact ⟨rfl, HKT⟩
end Go.Proofs.YtlbgdgobhiokpaaDoor
