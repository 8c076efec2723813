/- The light base, for seats without the parser: nodes, definitions, sources in memory. Made by tools/gen_lt.py out of Sa, Sb, Sc, G, Sh, Sl, Sm, Sp, Sq, Ua, Ub. -/
import Derived.Test.YtjeafblkmipdmaaK
import Derived.Test.YtjeafblkmipdmaaOwn
import Derived.Maps.AppendAt
import Derived.Laws.OwnMore
namespace Go.Proofs.Ytjeafblkmipdmaa
open Go.RowKit
set_option linter.unusedVariables false

/-- A node of a type expression. -/
structure Nd where
  k : Int
  n : Int
  name : ByteArray
  label : ByteArray
  tag : Int
  kids : Int
  a : Int
def nd0 : Nd := ⟨0, 0, ⟨#[]⟩, ⟨#[]⟩, 0, 0, 0⟩
/-- A definition. -/
structure Df where
  name : ByteArray
  a : Int
  ty : List Nd
theorem results_cell_row {P : Program} {fn : Func} {p : Tmp} {ty : TypeId} (h : fn.results = #[.cell p ty]) (tmps : Array Value) (w : World) (g : Nat) (t : TypeId) (cs : Array Value) (fr : Nat × Nat) (d : TypeDesc)
    (hp : tmps.getD p undef = .pointer (some ⟨g, 0, none⟩)) (hg : w.heap[g]? = some (.cells cs t fr))
    (hu : P.underlying ty = some d) (hd : (match d with | .struct _ | .array _ _ => true | _ => false) = true) (hi : (P.info? ty).map (·.size) = some cs.size) :
    (results fn tmps).run P w = .ok (.agg cs) w := by
  have hp' : tmps[p]?.getD undef = .pointer (some ⟨g, 0, none⟩) := by simpa using hp
  simp only [results, h]
  simp [hp', asAddr, run_loadVar_row w g t ty cs fr d hg hu hd hi]
def ndc (x : Nd) : List Value := [.int .i64 x.k, .int .i64 x.n, .string x.name, .string x.label, .int .i64 x.tag, .int .i64 x.kids, .int .i64 x.a]
def ndv (x : Nd) : Value := .agg #[.int .i64 x.k, .int .i64 x.n, .string x.name, .string x.label, .int .i64 x.tag, .int .i64 x.kids, .int .i64 x.a]
def cellsN (N : List Nd) : List Value := N.flatMap ndc
theorem cellsN_app (a b : List Nd) : cellsN (a ++ b) = cellsN a ++ cellsN b := by simp [cellsN]
theorem cellsN_one (t : Nd) : cellsN [t] = ndc t := by simp [cellsN]
theorem cellsN_len (ts : List Nd) : (cellsN ts).length = ts.length * 7 := by
  induction ts with
  | nil => rfl
  | cons x N ih => rw [cellsN, List.flatMap_cons, List.length_append]; rw [cellsN] at ih; rw [ih]; simp [ndc]; omega
theorem below_drewN {B : Nat} {w w' : World} (h : Below B w w') (q : Nat) : Below B w (w'.drewN q) := ⟨h.os, h.tape, h.output, h.size, h.block⟩
theorem Blk.drewN {w : World} {g : Nat} {t : TypeId} {xs : List Value} (h : Blk w g t xs) (q : Nat) : Blk (w.drewN q) g t xs := h
theorem upd_drewN {S : Nat → Prop} {a w : World} (h : Upd S a w) (q : Nat) : Upd S a (w.drewN q) := ⟨h.os, h.tape, h.output, h.size, h.block⟩
theorem str_eq (a b : ByteArray) : (a.toList == b.toList) = decide (a = b) := by
  by_cases h : a = b
  · subst h; simp
  · rw [decide_eq_false h]
    have hb : (⟨b.toList.toArray⟩ : ByteArray) = b := by rw [Lib.toList_data]
    exact str_ne a b.toList (by rw [hb]; exact h)
theorem blk2 (w : World) (xs ys : Array Value) (t : TypeId) : Blk ((w.alloc (.cells xs t)).alloc (.cells ys t)) w.heap.size t xs.toList ∧ Blk ((w.alloc (.cells xs t)).alloc (.cells ys t)) (w.heap.size + 1) t ys.toList := by
  refine ⟨(Blk.newA w xs t).alloc _, ?_⟩
  have := Blk.newA (w.alloc (.cells xs t)) ys t
  simpa using this
theorem below2 (w : World) (o o' : Obj) : Below w.heap.size w ((w.alloc o).alloc o') := ((Below.refl _ _).alloc (Nat.le_refl _) _).alloc (by simp) _
theorem cell_al (w : World) (o : Obj) (b i : Nat) (h : b < w.heap.size) : (w.alloc o).cell? ⟨b, i, none⟩ = w.cell? ⟨b, i, none⟩ := World.cell?_of_block (Below.heap_alloc w o b h)
theorem ndc_len (x : Nd) : (ndc x).length = 7 := rfl
def dfc (d : Df) (v : Value) : List Value := [.string d.name, .int .i64 d.a, v]
def dfv (d : Df) (v : Value) : Value := .agg #[.string d.name, .int .i64 d.a, v]
theorem wr3 {w : World} {g : Nat} {t : TypeId} {x0 x1 x2 : Value} (h : Blk w g t [x0, x1, x2]) (y0 y1 y2 : Value) :
    Blk (((w.setCell ⟨g, 0, none⟩ y0).setCell ⟨g, 1, none⟩ y1).setCell ⟨g, 2, none⟩ y2) g t [y0, y1, y2] := by
  have := ((h.set 0 y0).set 1 y1).set 2 y2
  simpa using this
theorem retD {fn : Func} {p : Tmp} (h : fn.results = #[.cell p 41]) {R : Ending → World → Prop} {tmps : Array Value} {g : Nat} {w : World} {d : Df} {v : Value} (hp : tmps.getD p undef = .pointer (some ⟨g, 0, none⟩)) (hK : Blk w g 41 (dfc d v)) (hR : R (.returned (dfv d v)) w) :
    bodyPost Try.prog fn R Exit.ret ⟨tmps, []⟩ w :=
  bodyPost_ret (results_cell_row h _ _ _ _ (dfc d v).toArray _ _ hp hK Try.underlying41 rfl (by show _ = some 3; kernel_rfl)) rfl hR
def cellsD : List Df → List Value → List Value
  | d :: D, v :: vs => dfc d v ++ cellsD D vs
  | _, _ => []
theorem cellsD_snoc : ∀ (D : List Df) (vs : List Value) (d : Df) (v : Value), vs.length = D.length → cellsD (D ++ [d]) (vs ++ [v]) = cellsD D vs ++ dfc d v
  | [], [], d, v, _ => by simp [cellsD]
  | [], _ :: _, _, _, h => by simp at h
  | _ :: _, [], _, _, h => by simp at h
  | a :: D, b :: vs, d, v, h => by
    have ih := cellsD_snoc D vs d v (by simpa using h)
    simp [cellsD, ih]
/-- A source's definitions lie here: the lists of their nodes are apart from one another. -/
def Src (w : World) (B : Nat) (vd : Value) (D : List Df) (vs : List Value) : Prop :=
  vs.length = D.length ∧ w.ownsRow B 41 3 vd D.length (cellsD D vs) ∧ (∀ (i : Nat) (d : Df) (v : Value), D[i]? = some d → vs[i]? = some v → w.ownsRow B 38 7 v d.ty.length (cellsN d.ty)) ∧
    (∀ (i j : Nat) (v u : Value) (k : Nat), vs[i]? = some v → vs[j]? = some u → v.ownBlock = some k → u.ownBlock = some k → i = j)
theorem Src.nil (w : World) (B : Nat) : Src w B (.slice none 0 0) [] [] := ⟨rfl, World.ownsRow_nil _ _ _ _, fun i d v h => by simp at h, fun i j v u k h => by simp at h⟩
theorem Src.upd {S : Nat → Prop} {w w' : World} {B : Nat} {vd : Value} {D : List Df} {vs : List Value} (h : Src w B vd D vs) (hu : Upd S w w') (h1 : ∀ k, vd.ownBlock = some k → ¬ S k) (h2 : ∀ (i : Nat) (v : Value) (k : Nat), vs[i]? = some v → v.ownBlock = some k → ¬ S k) : Src w' B vd D vs :=
  ⟨h.1, ownS_upd h.2.1 hu h1, fun i d v hd hv => ownS_upd (h.2.2.1 i d v hd hv) hu (fun k hk => h2 i v k hv hk), h.2.2.2⟩
theorem Src.later {w w' : World} {B : Nat} {vd : Value} {D : List Df} {vs : List Value} (h : Src w B vd D vs) (hB : Below w.heap.size w w') : Src w' B vd D vs := h.upd (Upd.of_below (S := fun _ => False) hB) (fun _ _ h => h) (fun _ _ _ _ _ h => h)
theorem Src.d {w : World} {B : Nat} {vd : Value} {D : List Df} {vs : List Value} (h : Src w B vd D vs) {i : Nat} {v : Value} (hv : vs[i]? = some v) : ∃ d, D[i]? = some d := by
  have hi := (List.getElem?_eq_some_iff.1 hv).1
  rw [h.1] at hi
  exact ⟨_, List.getElem?_eq_getElem hi⟩
/-- A block of another type is changed. -/
theorem Src.other {w w' : World} {B g : Nat} {vd : Value} {D : List Df} {vs : List Value} {t : TypeId} {ys : List Value} (h : Src w B vd D vs) (hu : Upd (fun k => k = g) w w') (hg : Blk w g t ys) (h1 : t ≠ 41) (h2 : t ≠ 38) : Src w' B vd D vs := by
  refine h.upd hu (fun k hk e => ?_) (fun i v k hv hk e => ?_)
  · subst e
    obtain ⟨zs, hz⟩ := ownS_type h.2.1 hk
    exact h1 (blk_type hg hz)
  · subst e
    obtain ⟨d, hd⟩ := h.d hv
    obtain ⟨zs, hz⟩ := ownS_type (h.2.2.1 i d v hd hv) hk
    exact h2 (blk_type hg hz)
/-- One definition more. -/
theorem Src.push {w : World} {B : Nat} {vd : Value} {D : List Df} {vs : List Value} (h : Src w B vd D vs) (d : Df) (v : Value) (hv : w.ownsRow B 38 7 v d.ty.length (cellsN d.ty)) (hn : ∀ (i : Nat) (u : Value) (k : Nat), vs[i]? = some u → u.ownBlock = some k → v.ownBlock ≠ some k) (hl : D.length ≤ 2932031007401) (hB : B ≤ w.heap.size) (hone : v.oneCell' = true) :
    ∃ gn cap w', (Builtin.append_ #[22, 22] 22 #[vd, .slice (some ⟨w.heap.size, 0, none⟩) 1 1]).run Try.prog (w.alloc (.cells #[.string d.name, .int .i64 d.a, v] 41)) = .ok (.slice (some ⟨gn, 0, none⟩) (D.length + 1) cap) w' ∧
      Src w' B (.slice (some ⟨gn, 0, none⟩) (D.length + 1) cap) (D ++ [d]) (vs ++ [v]) ∧ Upd (fun k => vd.ownBlock = some k) w w' ∧ (vd.ownBlock = some gn ∨ w.heap.size ≤ gn) := by
  obtain ⟨gn, cap, w', r1, o1, u1, c1⟩ := run_pushS (P := Try.prog) (t := 22) (e := 41) (z := .agg #[.string ⟨#[]⟩, .int .i64 0, .slice none 0 0]) (bytes := 48) Try.underlying22 (by kernel_rfl) rfl (by decide) w 22 h.2.1 (dfc d v) rfl (by intro u hu; simp [dfc] at hu; rcases hu with rfl | rfl | rfl; rfl; rfl; exact hone) (by unfold maxLen; omega) (by omega) hB
  have hne : ∀ (x : Value) (n : Nat) (xs : List Value), w.ownsRow B 38 7 x n xs → ∀ k, x.ownBlock = some k → ¬ vd.ownBlock = some k := fun x n xs hx k hk e => by
    obtain ⟨ys, hy⟩ := ownS_type hx hk
    obtain ⟨zs, hz⟩ := ownS_type h.2.1 e
    exact absurd (blk_type hy hz) (by decide)
  refine ⟨gn, cap, w', r1, ⟨by simp [h.1], ?_, ?_, ?_⟩, u1, c1⟩
  · rw [cellsD_snoc D vs d v h.1, List.length_append]
    exact o1
  · intro i e x he hx
    rcases Nat.lt_or_ge i D.length with hi | hi
    · rw [List.getElem?_append_left hi] at he
      rw [List.getElem?_append_left (by rw [h.1]; exact hi)] at hx
      exact ownS_upd (h.2.2.1 i e x he hx) u1 (hne _ _ _ (h.2.2.1 i e x he hx))
    · rw [List.getElem?_append_right hi] at he
      rw [List.getElem?_append_right (by rw [h.1]; exact hi)] at hx
      have h0 : i - D.length = 0 := by
        have := (List.getElem?_eq_some_iff.1 he).1
        simpa using this
      rw [h0] at he
      rw [h.1, h0] at hx
      simp at he hx
      subst he hx
      exact ownS_upd hv u1 (hne _ _ _ hv)
  · intro i j x y k hx hy hk1 hk2
    rcases Nat.lt_or_ge i vs.length with hi | hi <;> rcases Nat.lt_or_ge j vs.length with hj | hj
    · rw [List.getElem?_append_left hi] at hx
      rw [List.getElem?_append_left hj] at hy
      exact h.2.2.2 i j x y k hx hy hk1 hk2
    · rw [List.getElem?_append_left hi] at hx
      rw [List.getElem?_append_right hj] at hy
      have h0 : j - vs.length = 0 := by
        have := (List.getElem?_eq_some_iff.1 hy).1
        simpa using this
      rw [h0] at hy
      simp at hy
      subst hy
      exact absurd hk2 (hn i x k hx hk1)
    · rw [List.getElem?_append_right hi] at hx
      rw [List.getElem?_append_left hj] at hy
      have h0 : i - vs.length = 0 := by
        have := (List.getElem?_eq_some_iff.1 hx).1
        simpa using this
      rw [h0] at hx
      simp at hx
      subst hx
      exact absurd hk1 (hn j y k hy hk2)
    · have e1 := (List.getElem?_eq_some_iff.1 hx).1
      have e2 := (List.getElem?_eq_some_iff.1 hy).1
      simp at e1 e2
      omega
theorem own_base {w : World} {B B' n c : Nat} {e : TypeId} {v : Value} {xs : List Value} (h : w.ownsRow B e c v n xs) (hb : B' ≤ B) : w.ownsRow B' e c v n xs := by
  refine ⟨h.1, ?_⟩
  rcases h.2 with h | ⟨g, cap, cur, rfl, hg, rest⟩
  · exact .inl h
  · exact .inr ⟨g, cap, cur, rfl, Nat.le_trans hb hg, rest⟩
theorem below_set {B : Nat} {w w' : World} (h : Below B w w') (b i : Nat) (v : Value) (hb : B ≤ b) : Below B w (w'.setCell ⟨b, i, none⟩ v) := h.setCell hb v
theorem cellsN_at : ∀ (N : List Nd) (i j : Nat) (x : Nd), N[i]? = some x → j < 7 → (cellsN N)[i * 7 + j]? = (ndc x)[j]?
  | [], i, j, x, h, _ => by simp at h
  | y :: N, 0, j, x, h, hj => by
    simp at h
    subst h
    have e : cellsN (y :: N) = ndc y ++ cellsN N := by simp [cellsN]
    rw [e, List.getElem?_append_left (by rw [ndc_len]; omega)]
    simp
  | y :: N, i + 1, j, x, h, hj => by
    have ih := cellsN_at N i j x (by simpa using h) hj
    have e : cellsN (y :: N) = ndc y ++ cellsN N := by simp [cellsN]
    rw [e, List.getElem?_append_right (by rw [ndc_len]; omega)]
    rw [show (i + 1) * 7 + j - (ndc y).length = i * 7 + j by rw [ndc_len]; omega, ih]
theorem cellsD_at : ∀ (D : List Df) (vs : List Value) (i j : Nat) (d : Df) (v : Value), D[i]? = some d → vs[i]? = some v → j < 3 → (cellsD D vs)[i * 3 + j]? = (dfc d v)[j]?
  | [], _, i, j, d, v, h, _, _ => by simp at h
  | _ :: _, [], i, j, d, v, _, h, _ => by simp at h
  | y :: D, u :: vs, 0, j, d, v, h, hv, hj => by
    simp at h hv
    subst h hv
    rw [cellsD, List.getElem?_append_left (by simp [dfc]; omega)]
    simp
  | y :: D, u :: vs, i + 1, j, d, v, h, hv, hj => by
    have ih := cellsD_at D vs i j d v (by simpa using h) (by simpa using hv) hj
    rw [cellsD, List.getElem?_append_right (by simp [dfc]; omega)]
    rw [show (i + 1) * 3 + j - (dfc y u).length = i * 3 + j by simp [dfc]; omega, ih]
/-- A row of nodes lies here. -/
def NRow (w : World) (a : Option Addr) (N : List Nd) : Prop :=
  N = [] ∨ ∃ b off, a = some ⟨b, off, none⟩ ∧ b < w.heap.size ∧ ∀ (i : Nat) (x : Nd), N[i]? = some x → ∀ j, j < 7 → w.cell? ⟨b, off + i * 7 + j, none⟩ = (ndc x)[j]?
/-- A row of definitions lies here, with their nodes. -/
def DRow (w : World) (a : Option Addr) (D : List Df) : Prop :=
  D = [] ∨ ∃ b off, a = some ⟨b, off, none⟩ ∧ b < w.heap.size ∧ ∀ (i : Nat) (d : Df), D[i]? = some d → ∃ va vc, (∀ j, j < 3 → w.cell? ⟨b, off + i * 3 + j, none⟩ = (dfc d (.slice va d.ty.length vc))[j]?) ∧ d.ty.length ≤ vc ∧ (va = none → vc = 0) ∧ NRow w va d.ty
theorem NRow.later {w w' : World} {a : Option Addr} {N : List Nd} (h : NRow w a N) (hB : Below w.heap.size w w') : NRow w' a N := by
  rcases h with h | ⟨b, off, rfl, hb, hc⟩
  · exact .inl h
  · exact .inr ⟨b, off, rfl, Nat.lt_of_lt_of_le hb hB.size, fun i x hx j hj => (hB.cell (p := ⟨b, off + i * 7 + j, none⟩) hb).trans (hc i x hx j hj)⟩
theorem DRow.later {w w' : World} {a : Option Addr} {D : List Df} (h : DRow w a D) (hB : Below w.heap.size w w') : DRow w' a D := by
  rcases h with h | ⟨b, off, rfl, hb, hc⟩
  · exact .inl h
  · refine .inr ⟨b, off, rfl, Nat.lt_of_lt_of_le hb hB.size, fun i d hd => ?_⟩
    obtain ⟨va, vc, h1, h2, h4, h3⟩ := hc i d hd
    exact ⟨va, vc, fun j hj => (hB.cell (p := ⟨b, off + i * 3 + j, none⟩) hb).trans (h1 j hj), h2, h4, h3.later hB⟩
theorem NRow.open {w : World} {a : Option Addr} {N : List Nd} (h : NRow w a N) (hl : 0 < N.length) : ∃ b off, a = some ⟨b, off, none⟩ ∧ b < w.heap.size ∧ ∀ (i : Nat) (x : Nd), N[i]? = some x → ∀ j, j < 7 → w.cell? ⟨b, off + i * 7 + j, none⟩ = (ndc x)[j]? := by
  rcases h with rfl | h
  · simp at hl
  · exact h
theorem DRow.open {w : World} {a : Option Addr} {D : List Df} (h : DRow w a D) (hl : 0 < D.length) : ∃ b off, a = some ⟨b, off, none⟩ ∧ b < w.heap.size ∧ ∀ (i : Nat) (d : Df), D[i]? = some d → ∃ va vc, (∀ j, j < 3 → w.cell? ⟨b, off + i * 3 + j, none⟩ = (dfc d (.slice va d.ty.length vc))[j]?) ∧ d.ty.length ≤ vc ∧ (va = none → vc = 0) ∧ NRow w va d.ty := by
  rcases h with rfl | h
  · simp at hl
  · exact h
theorem own_nrow {w : World} {B : Nat} {v : Value} {N : List Nd} (h : w.ownsRow B 38 7 v N.length (cellsN N)) : ∃ a cap, v = .slice a N.length cap ∧ N.length ≤ cap ∧ (a = none → cap = 0) ∧ NRow w a N := by
  rcases Nat.eq_zero_or_pos N.length with h0 | h0
  · have hN : N = [] := List.eq_nil_of_length_eq_zero h0
    subst hN
    rcases h.2 with ⟨rfl, _⟩ | ⟨g, cap, cur, rfl, hb, hg, hnc, _⟩
    · exact ⟨none, 0, rfl, Nat.le_refl _, fun _ => rfl, .inl rfl⟩
    · exact ⟨_, cap, rfl, by simp, fun h => (by cases h), .inr ⟨g, 0, rfl, (Array.getElem?_eq_some_iff.1 hg).1, fun i x hx => by simp at hx⟩⟩
  · obtain ⟨g, cap, ys, rfl, hb, hn, hm, hl, ht, hK⟩ := ownS_blk h h0
    refine ⟨_, cap, rfl, hn, fun h => (by cases h), .inr ⟨g, 0, rfl, hK.lt, fun i x hx j hj => ?_⟩⟩
    have hi := (List.getElem?_eq_some_iff.1 hx).1
    rw [hK.cell, ← cellsN_at N i j x hx hj, ← ht, List.getElem?_take, if_pos (by omega), Nat.zero_add]
theorem Src.row {w : World} {B : Nat} {vd : Value} {D : List Df} {vs : List Value} (h : Src w B vd D vs) : ∃ a cap, vd = .slice a D.length cap ∧ D.length ≤ cap ∧ DRow w a D := by
  rcases Nat.eq_zero_or_pos D.length with h0 | h0
  · have hN : D = [] := List.eq_nil_of_length_eq_zero h0
    subst hN
    rcases h.2.1.2 with ⟨rfl, _⟩ | ⟨g, cap, cur, rfl, hb, hg, hnc, _⟩
    · exact ⟨none, 0, rfl, Nat.le_refl _, .inl rfl⟩
    · exact ⟨_, cap, rfl, by simp, .inr ⟨g, 0, rfl, (Array.getElem?_eq_some_iff.1 hg).1, fun i x hx => by simp at hx⟩⟩
  · obtain ⟨g, cap, ys, rfl, hb, hn, hm, hl, ht, hK⟩ := ownS_blk h.2.1 h0
    refine ⟨_, cap, rfl, hn, .inr ⟨g, 0, rfl, hK.lt, fun i d hd => ?_⟩⟩
    have hi := (List.getElem?_eq_some_iff.1 hd).1
    have hv : vs[i]? = some (vs[i]'(by rw [h.1]; exact hi)) := List.getElem?_eq_getElem _
    obtain ⟨va, vc, hva, hvc, hvn, hr⟩ := own_nrow (h.2.2.1 i d _ hd hv)
    refine ⟨va, vc, fun j hj => ?_, hvc, hvn, hr⟩
    rw [hva] at hv
    rw [hK.cell, ← cellsD_at D vs i j d _ hd hv hj, ← ht, List.getElem?_take, if_pos (by omega), Nat.zero_add]
def Lens (D : List Df) : Prop := D.length ≤ 9223372036854775807 ∧ ∀ d ∈ D, d.ty.length ≤ 9223372036854775807
theorem own_len {w : World} {B n c : Nat} {e : TypeId} {v : Value} {xs : List Value} (h : w.ownsRow B e c v n xs) : n ≤ 9223372036854775807 := by
  rcases h.2 with ⟨_, h0⟩ | ⟨g, cap, cur, _, _, _, hn, hm, _⟩
  · omega
  · unfold maxLen at hm; omega
theorem Src.lens {w : World} {B : Nat} {vd : Value} {D : List Df} {vs : List Value} (h : Src w B vd D vs) : Lens D := by
  refine ⟨own_len h.2.1, fun d hd => ?_⟩
  obtain ⟨i, hi, rfl⟩ := List.getElem_of_mem hd
  exact own_len (h.2.2.1 i _ _ (List.getElem?_eq_getElem hi) (List.getElem?_eq_getElem (by rw [h.1]; exact hi)))
/-- Not too many of them. -/
def Small (D : List Df) : Prop := D.length ≤ 1000000 ∧ ∀ d ∈ D, d.ty.length ≤ 1000000
/-- What may be copied. -/
def Wt (D : List Df) : Prop := D.length ≤ 2932031007401 ∧ ∀ d ∈ D, d.ty.length ≤ 1954687338267
theorem Small.wt {D : List Df} (h : Small D) : Wt D := ⟨by have := h.1; omega, fun d hd => by have := h.2 d hd; omega⟩
theorem cellsN_one' (N : List Nd) : ∀ u ∈ cellsN N, u.oneCell' = true := by
  intro u hu
  simp only [cellsN, List.mem_flatMap] at hu
  obtain ⟨x, _, hx⟩ := hu
  simp [ndc] at hx
  rcases hx with rfl | rfl | rfl | rfl | rfl | rfl | rfl <;> rfl
set_option maxRecDepth 100000 in
/-- append(nil, x...), x a row of nodes. -/
theorem run_copyN (w : World) (B : Nat) (a : Option Addr) (cap : Nat) (N : List Nd) (hr : NRow w a N) (hnil : a = none → cap = 0) (hl : N.length ≤ 1954687338268) (hB : B ≤ w.heap.size) :
    ∃ v' w', (Builtin.append_ #[39, 39] 39 #[.slice none 0 0, .slice a N.length cap]).run Try.prog w = .ok v' w' ∧ w'.ownsRow B 38 7 v' N.length (cellsN N) ∧ Below w.heap.size w w' ∧ (∀ k, v'.ownBlock = some k → w.heap.size ≤ k) := by
  have hinfo : (Try.prog.info? 38).map (fun i => (i.zero, i.size, i.bytes)) = some (some (.agg #[.int .i64 0, .int .i64 0, .string ⟨#[]⟩, .string ⟨#[]⟩, .int .i64 0, .int .i64 0, .int .i64 0]), 7, 72) := by kernel_rfl
  obtain ⟨i0, hi, hz0, hz1, hz2⟩ := info_parts hinfo
  rcases hr with rfl | ⟨b, off, rfl, hb, hc⟩
  · cases a with
    | none =>
      obtain rfl := hnil rfl
      exact ⟨_, w, run_append_owned_none (P := Try.prog) w w.heap.size 39 39 38 i0 7 Try.underlying39 hi (.slice none 0 0) 0 [] (World.ownsRow_nil _ _ _ _), World.ownsRow_nil _ _ _ _, Below.refl _ _, fun k hk => by cases hk⟩
    | some x =>
      obtain ⟨v', w', hrun, h2, h3, h4, h5⟩ := run_append_own_at (P := Try.prog) w w.heap.size 39 39 38 i0 _ 7 72 Try.underlying39 hi hz0 hz1 hz2 rfl (by decide) (.slice none 0 0) 0 [] (World.ownsRow_nil _ _ _ _) x 0 cap [] rfl (fun j u hj => by simp at hj) (fun u hu => by cases hu) (by unfold maxLen; omega) (by omega) (Nat.le_refl _)
      have hg := (Upd.refl (fun _ => False) w).grown h3 (fun k hk => by cases hk)
      simp only [List.append_nil, Nat.add_zero] at h2
      have h6 := own_base h2 hB
      have h7 := hg.below w.heap.size (Nat.le_refl _) (fun k hk => hk.elim)
      have h8 : ∀ k, v'.ownBlock = some k → w.heap.size ≤ k := fun k hk => (h2.lt k hk).1
      refine ⟨v', w', ?_, ?_, h7, h8⟩
      · simpa using hrun
      · simpa [cellsN] using h6
  · have hcell : ∀ j u, (cellsN N)[j]? = some u → w.cell? ((⟨b, off, none⟩ : Addr).add j) = some u := fun j u hj => by
      have hlt := (List.getElem?_eq_some_iff.1 hj).1
      rw [cellsN_len] at hlt
      have hi : j / 7 < N.length := by omega
      have hx : N[j / 7]? = some (N[j / 7]'hi) := List.getElem?_eq_getElem hi
      have h1 := hc (j / 7) _ hx (j % 7) (Nat.mod_lt _ (by decide))
      have h2 := cellsN_at N (j / 7) (j % 7) _ hx (Nat.mod_lt _ (by decide))
      have e : j / 7 * 7 + j % 7 = j := by omega
      rw [e] at h2
      rw [add_none, ← hj, h2, ← h1]
      congr 2
      omega
    obtain ⟨v', w', hrun, h2, h3, h4, h5⟩ := run_append_own_at (P := Try.prog) w w.heap.size 39 39 38 i0 _ 7 72 Try.underlying39 hi hz0 hz1 hz2 rfl (by decide) (.slice none 0 0) 0 [] (World.ownsRow_nil _ _ _ _) ⟨b, off, none⟩ N.length cap (cellsN N) (cellsN_len N) hcell (cellsN_one' N) (by unfold maxLen; omega) (by omega) (Nat.le_refl _)
    rw [Nat.zero_add, List.nil_append] at h2
    have hg := (Upd.refl (fun _ => False) w).grown h3 (fun k hk => by cases hk)
    exact ⟨v', w', hrun, own_base h2 hB, hg.below _ (Nat.le_refl _) (fun k hk => hk.elim), fun k hk => (h2.lt k hk).1⟩
end Go.Proofs.Ytjeafblkmipdmaa
