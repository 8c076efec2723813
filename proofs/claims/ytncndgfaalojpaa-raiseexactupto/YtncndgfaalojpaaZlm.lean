/- Lists lent with a mark behind them: what lies in memory. -/
import Derived.Test.YtncndgfaalojpaaZcp
namespace Go.Proofs.Ytncndgfaalojpaa
open Go.RowKit
set_option linter.unusedVariables false

set_option maxRecDepth 100000 in
/-- append(v, x...), x a row of structs of any kind, v a row of the call's own. -/
theorem run_appG {α : Type} {c : Nat} {f : α → List Value} {P : Program} {t e : TypeId} {z : Value} {bytes : Nat} (hf : ∀ x, (f x).length = c) (hone : ∀ x, ∀ u ∈ f x, u.oneCell' = true) (ht : P.underlying t = some (.slice e)) (hinfo : (P.info? e).map (fun i => (i.zero, i.size, i.bytes)) = some (some z, c, bytes)) (hzs : z.cells.size = c) (hc : 0 < c)
    (w : World) {B : Nat} {v : Value} {l : List α} (hown : w.ownsRow B e c v l.length (cellsG f l)) (b off cap : Nat) (r : List α) (hr : ∀ (i : Nat) (x : α), r[i]? = some x → ∀ j, j < c → w.cell? ⟨b, off + i * c + j, none⟩ = (f x)[j]?) (h63 : l.length + r.length ≤ maxLen) (hl : (l.length + r.length) * bytes ≤ 140737488355328) (hB : B ≤ w.heap.size) :
    ∃ v' w', (Builtin.append_ #[t, t] t #[v, .slice (some ⟨b, off, none⟩) r.length cap]).run P w = .ok v' w' ∧ w'.ownsRow B e c v' (l.length + r.length) (cellsG f (l ++ r)) ∧ Upd (fun k => v.ownBlock = some k) w w' ∧ (v'.ownBlock = v.ownBlock ∨ v'.ownBlock = some w.heap.size) := by
  have hall : ∀ u ∈ cellsG f r, u.oneCell' = true := fun u hu => by
    simp only [cellsG, List.mem_flatMap] at hu
    obtain ⟨x, _, hx⟩ := hu
    exact hone x u hx
  obtain ⟨i0, hi, hz0, hz1, hz2⟩ := info_parts hinfo
  have hcell : ∀ j u, (cellsG f r)[j]? = some u → w.cell? ((⟨b, off, none⟩ : Addr).add j) = some u := fun j u hj => by
    have hlt := (List.getElem?_eq_some_iff.1 hj).1
    rw [cellsG_len hf] at hlt
    have hi : j / c < r.length := Nat.div_lt_of_lt_mul (by rw [Nat.mul_comm]; exact hlt)
    have hx : r[j / c]? = some (r[j / c]'hi) := List.getElem?_eq_getElem hi
    have h1 := hr (j / c) _ hx (j % c) (Nat.mod_lt _ hc)
    have h2 := cellsG_at hf r (j / c) (j % c) _ hx (Nat.mod_lt _ hc)
    have e : j / c * c + j % c = j := by rw [Nat.mul_comm]; exact Nat.div_add_mod j c
    rw [e] at h2
    rw [add_none, ← hj, h2, ← h1]
    congr 2
    omega
  obtain ⟨v', w', hrun, h2, h3, h4, h5⟩ := run_append_own_at (P := P) w B t t e i0 z c bytes ht hi hz0 hz1 hz2 hzs hc v l.length (cellsG f l) hown ⟨b, off, none⟩ r.length cap (cellsG f r) (cellsG_len hf r) hcell hall h63 hl hB
  refine ⟨v', w', hrun, by rw [cellsG_app]; exact h2, (Upd.refl _ w).grown h3 (fun k hk => .inl hk), h5⟩
/-- append(v, x), x lies in a block of its own. -/
theorem run_app1 {α : Type} {c : Nat} {f : α → List Value} {P : Program} {t e : TypeId} {z : Value} {bytes : Nat} (hf : ∀ x, (f x).length = c) (hone : ∀ x, ∀ u ∈ f x, u.oneCell' = true) (ht : P.underlying t = some (.slice e)) (hinfo : (P.info? e).map (fun i => (i.zero, i.size, i.bytes)) = some (some z, c, bytes)) (hzs : z.cells.size = c) (hc : 0 < c)
    (w : World) {B : Nat} {v : Value} {l : List α} (hown : w.ownsRow B e c v l.length (cellsG f l)) (b : Nat) (x : α) (hb : Blk w b e (f x)) (h63 : l.length + 1 ≤ maxLen) (hl : (l.length + 1) * bytes ≤ 140737488355328) (hB : B ≤ w.heap.size) :
    ∃ g cap w', (Builtin.append_ #[t, t] t #[v, .slice (some ⟨b, 0, none⟩) 1 1]).run P w = .ok (.slice (some ⟨g, 0, none⟩) (l.length + 1) cap) w' ∧ w'.ownsRow B e c (.slice (some ⟨g, 0, none⟩) (l.length + 1) cap) (l ++ [x]).length (cellsG f (l ++ [x])) ∧ Upd (fun k => v.ownBlock = some k) w w' ∧ B ≤ g ∧ l.length + 1 ≤ cap ∧ (v.ownBlock = some g ∨ w.heap.size ≤ g) := by
  obtain ⟨v', w', h1, h2, h3, h4⟩ := run_appG (P := P) hf hone ht hinfo hzs hc w hown b 0 1 [x] (fun i y hy j hj => by
    have hi := (List.getElem?_eq_some_iff.1 hy).1
    obtain rfl : i = 0 := by simp at hi; omega
    simp at hy
    subst hy
    rw [hb.cell]
    congr 1
    omega) h63 hl hB
  have hlen : l.length + [x].length = (l ++ [x]).length := by simp
  rw [hlen] at h2
  obtain ⟨g, cap, ys, e1, hg, hn, -, -, -, -⟩ := ownS_blk h2 (by simp)
  rw [List.length_append, List.length_singleton] at e1 hn
  subst e1
  refine ⟨g, cap, w', h1, h2, h3, hg, hn, ?_⟩
  rcases h4 with h4 | h4
  · exact .inl (by rw [← h4]; rfl)
  · have : g = w.heap.size := own_is h4
    exact .inr (by omega)
theorem rtc_one1 (r : Rt) : ∀ u ∈ rtc r, u.oneCell' = true := fun u hu => by
  simp [rtc] at hu
  rcases hu with rfl | rfl <;> rfl
/-- A type's parts, of the call's own, with a mark behind them. -/
def MkIn (w : World) (B : Nat) (q : Pt) (ps : List Pt) (u : Value) : Prop := ∃ g c, u = .slice (some ⟨g, 0, none⟩) ps.length c ∧ ps.length + 1 ≤ c ∧ PRow w (some ⟨g, 0, none⟩) (ps ++ [q]) ∧ B ≤ g ∧ ∃ ys, Blk w g 58 ys
theorem MkIn.upd {w w' : World} {B : Nat} {q : Pt} {ps : List Pt} {u : Value} {S : Nat → Prop} (h : MkIn w B q ps u) (hu : Upd S w w') (hn : ∀ k ys, S k → Blk w k 58 ys → False) : MkIn w' B q ps u := by
  obtain ⟨g, c, e, h1, h2, h3, ys, h4⟩ := h
  have hg : ¬ S g := fun hS => hn g ys hS h4
  exact ⟨g, c, e, h1, h2.upd hu (fun x hx => by cases hx; exact hg), h3, ys, h4.upd hu hg⟩
theorem MkIn.later {w w' : World} {B : Nat} {q : Pt} {ps : List Pt} {u : Value} (h : MkIn w B q ps u) (hB : Below w.heap.size w w') : MkIn w' B q ps u := h.upd (Upd.of_below (S := fun _ => False) hB) (fun _ _ h => h.elim)
theorem MkIn.ptIn {w : World} {B : Nat} {q : Pt} {ps : List Pt} {u : Value} (h : MkIn w B q ps u) (B' : Nat) : PtIn w B' ps u := by
  obtain ⟨g, c, rfl, h1, h2, h3, ys, h4⟩ := h
  refine ⟨_, c, rfl, by omega, (fun h => by cases h), ?_, .inr (fun x hx => by cases hx; exact .inr ⟨ys, h4⟩)⟩
  have := h2.take ps.length
  rwa [List.take_left] at this
theorem POwn.mkIn {w : World} {B : Nat} {q : Pt} {ps : List Pt} {g c : Nat} (h : POwn w B (.slice (some ⟨g, 0, none⟩) (ps.length + 1) c) (ps ++ [q])) : MkIn w B q ps (.slice (some ⟨g, 0, none⟩) ps.length c) := by
  obtain ⟨a, c', e, h1, -, h3⟩ := own_grow ptc_len h
  injection e with e1 e2 e3
  subst e1 e3
  obtain ⟨ys, hy⟩ := ownS_type h (k := g) rfl
  exact ⟨g, c, rfl, by simpa using h1, h3, (World.ownsRow.lt h g rfl).1, ys, hy⟩
/-- A schema that is lent: its types with a mark behind, their parts with marks, its roots with a mark. -/
structure LtS (w : World) (B : Nat) (gT cT : Nat) (Q : List (Ty × Value)) (gR cR : Nat) (R : List Rt) (q : Pt) (tq : Ty) (rq : Rt) : Prop where
  ty : TOwn w B (.slice (some ⟨gT, 0, none⟩) (Q.length + 1) cT) (Q ++ [(tq, .slice none 0 0)])
  mks : ∀ p ∈ Q, MkIn w B q p.1.ps p.2
  rt : ROwn w B (.slice (some ⟨gR, 0, none⟩) (R.length + 1) cR) (R ++ [rq])
theorem LtS.later {w w' : World} {B gT cT gR cR : Nat} {Q : List (Ty × Value)} {R : List Rt} {q : Pt} {tq : Ty} {rq : Rt} (h : LtS w B gT cT Q gR cR R q tq rq) (hB : Below w.heap.size w w') : LtS w' B gT cT Q gR cR R q tq rq :=
  ⟨h.ty.later hB, fun p hp => (h.mks p hp).later hB, h.rt.later hB⟩
/-- A store into a block of another type. -/
theorem LtS.other {w : World} {B gT cT gR cR : Nat} {Q : List (Ty × Value)} {R : List Rt} {q : Pt} {tq : Ty} {rq : Rt} (h : LtS w B gT cT Q gR cR R q tq rq) {g : Nat} {t : TypeId} {ys : List Value} (hb : Blk w g t ys) (hg : B ≤ g) (h1 : t ≠ 43) (h2 : t ≠ 58) (h3 : t ≠ 84) (i : Nat) (u : Value) : LtS (w.setCell ⟨g, i, none⟩ u) B gT cT Q gR cR R q tq rq :=
  ⟨h.ty.other hb hg h1 h2 i u, fun p hp => (h.mks p hp).upd ((Upd.refl (fun k => k = g) w).set ⟨g, i, none⟩ u (.inl rfl)) (fun k zs e hz => by subst e; exact h2 (blk_type hb hz)), h.rt.other hb h3 i u⟩
theorem LtS.row {w : World} {B gT cT gR cR : Nat} {Q : List (Ty × Value)} {R : List Rt} {q : Pt} {tq : Ty} {rq : Rt} (h : LtS w B gT cT Q gR cR R q tq rq) : TRow w (some ⟨gT, 0, none⟩) (Q.map (·.1)) ∧ RRow w (some ⟨gR, 0, none⟩) R := by
  have h1 := town_row h.ty rfl
  have h2 := rown_row h.rt
  have h3 := h1.take Q.length
  have h4 := h2.take R.length
  have e3 : (Q.map (·.1)).length = Q.length := by simp
  rw [List.map_append, ← e3, List.take_left] at h3
  rw [List.take_left] at h4
  exact ⟨h3, h4⟩
theorem LtS.caps {w : World} {B gT cT gR cR : Nat} {Q : List (Ty × Value)} {R : List Rt} {q : Pt} {tq : Ty} {rq : Rt} (h : LtS w B gT cT Q gR cR R q tq rq) : Q.length + 1 ≤ cT ∧ R.length + 1 ≤ cR ∧ B ≤ gT ∧ B ≤ gR ∧ w.cell? ⟨gT, Q.length * 4, none⟩ = some (.int .i64 tq.k) ∧ w.cell? ⟨gR, R.length * 2 + 1, none⟩ = some (.int .i64 rq.ty) := by
  obtain ⟨_, _, e, h1, -, -⟩ := own_grow tyq_len h.ty.1
  injection e with _ e2 e3
  obtain ⟨a', _, e', h2, -, h3⟩ := own_grow rtc_len h.rt
  injection e' with e1 e2' e3'
  subst e1
  obtain ⟨b, off, e4, -, hc⟩ := h3.open (by simp)
  injection e4 with e4
  injection e4 with e5 e6 _
  have hk := (h.ty.at4 (i := Q.length) (p := (tq, .slice none 0 0)) (by simp)).1
  have hr := hc R.length rq (by simp) 1 (by decide)
  rw [← e5, ← e6] at hr
  simp only [Nat.zero_add] at hr
  refine ⟨by rw [e3]; simpa using h1, by rw [e3']; simpa using h2, (World.ownsRow.lt h.ty.1 gT rfl).1, (World.ownsRow.lt h.rt gR rfl).1, hk, hr⟩
end Go.Proofs.Ytncndgfaalojpaa
