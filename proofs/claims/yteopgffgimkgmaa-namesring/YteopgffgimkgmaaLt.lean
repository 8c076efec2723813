/- The light base, for seats without the parser: nodes, definitions, sources in memory. Made by tools/gen_lt.py out of Sa, Sb, Sc, G, Sh, Sl, Sm, Sp, Sq, Ua, Ub. -/
import Derived.Test.YteopgffgimkgmaaK
import Derived.Test.YteopgffgimkgmaaOwn
import Derived.Maps.AppendAt
import Derived.Laws.OwnMore
namespace Go.Proofs.Yteopgffgimkgmaa
open Go.RowKit
set_option linter.unusedVariables false

/-- A node of a type expression. -/
structure Nd where
  k : Int
  n : Int
  name : ByteArray
  label : ByteArray
  tag : Int
  kids : Int
  a : Int
def nd0 : Nd := ⟨0, 0, ⟨#[]⟩, ⟨#[]⟩, 0, 0, 0⟩
/-- A definition. -/
structure Df where
  name : ByteArray
  a : Int
  ty : List Nd
theorem results_cell_row {P : Program} {fn : Func} {p : Tmp} {ty : TypeId} (h : fn.results = #[.cell p ty]) (tmps : Array Value) (w : World) (g : Nat) (t : TypeId) (cs : Array Value) (fr : Nat × Nat) (d : TypeDesc)
    (hp : tmps.getD p undef = .pointer (some ⟨g, 0, none⟩)) (hg : w.heap[g]? = some (.cells cs t fr))
    (hu : P.underlying ty = some d) (hd : (match d with | .struct _ | .array _ _ => true | _ => false) = true) (hi : (P.info? ty).map (·.size) = some cs.size) :
    (results fn tmps).run P w = .ok (.agg cs) w := by
  have hp' : tmps[p]?.getD undef = .pointer (some ⟨g, 0, none⟩) := by simpa using hp
  simp only [results, h]
  simp [hp', asAddr, run_loadVar_row w g t ty cs fr d hg hu hd hi]
def ndc (x : Nd) : List Value := [.int .i64 x.k, .int .i64 x.n, .string x.name, .string x.label, .int .i64 x.tag, .int .i64 x.kids, .int .i64 x.a]
def ndv (x : Nd) : Value := .agg #[.int .i64 x.k, .int .i64 x.n, .string x.name, .string x.label, .int .i64 x.tag, .int .i64 x.kids, .int .i64 x.a]
def cellsN (N : List Nd) : List Value := N.flatMap ndc
theorem cellsN_app (a b : List Nd) : cellsN (a ++ b) = cellsN a ++ cellsN b := by simp [cellsN]
theorem cellsN_one (t : Nd) : cellsN [t] = ndc t := by simp [cellsN]
theorem cellsN_len (ts : List Nd) : (cellsN ts).length = ts.length * 7 := by
  induction ts with
  | nil => rfl
  | cons x N ih => rw [cellsN, List.flatMap_cons, List.length_append]; rw [cellsN] at ih; rw [ih]; simp [ndc]; omega
theorem below_drewN {B : Nat} {w w' : World} (h : Below B w w') (q : Nat) : Below B w (w'.drewN q) := ⟨h.os, h.tape, h.output, h.size, h.block⟩
theorem Blk.drewN {w : World} {g : Nat} {t : TypeId} {xs : List Value} (h : Blk w g t xs) (q : Nat) : Blk (w.drewN q) g t xs := h
theorem upd_drewN {S : Nat → Prop} {a w : World} (h : Upd S a w) (q : Nat) : Upd S a (w.drewN q) := ⟨h.os, h.tape, h.output, h.size, h.block⟩
theorem str_eq (a b : ByteArray) : (a.toList == b.toList) = decide (a = b) := by
  by_cases h : a = b
  · subst h; simp
  · rw [decide_eq_false h]
    have hb : (⟨b.toList.toArray⟩ : ByteArray) = b := by rw [Lib.toList_data]
    exact str_ne a b.toList (by rw [hb]; exact h)
theorem blk2 (w : World) (xs ys : Array Value) (t : TypeId) : Blk ((w.alloc (.cells xs t)).alloc (.cells ys t)) w.heap.size t xs.toList ∧ Blk ((w.alloc (.cells xs t)).alloc (.cells ys t)) (w.heap.size + 1) t ys.toList := by
  refine ⟨(Blk.newA w xs t).alloc _, ?_⟩
  have := Blk.newA (w.alloc (.cells xs t)) ys t
  simpa using this
theorem below2 (w : World) (o o' : Obj) : Below w.heap.size w ((w.alloc o).alloc o') := ((Below.refl _ _).alloc (Nat.le_refl _) _).alloc (by simp) _
theorem cell_al (w : World) (o : Obj) (b i : Nat) (h : b < w.heap.size) : (w.alloc o).cell? ⟨b, i, none⟩ = w.cell? ⟨b, i, none⟩ := World.cell?_of_block (Below.heap_alloc w o b h)
theorem ndc_len (x : Nd) : (ndc x).length = 7 := rfl
def dfc (d : Df) (v : Value) : List Value := [.string d.name, .int .i64 d.a, v]
def dfv (d : Df) (v : Value) : Value := .agg #[.string d.name, .int .i64 d.a, v]
theorem wr3 {w : World} {g : Nat} {t : TypeId} {x0 x1 x2 : Value} (h : Blk w g t [x0, x1, x2]) (y0 y1 y2 : Value) :
    Blk (((w.setCell ⟨g, 0, none⟩ y0).setCell ⟨g, 1, none⟩ y1).setCell ⟨g, 2, none⟩ y2) g t [y0, y1, y2] := by
  have := ((h.set 0 y0).set 1 y1).set 2 y2
  simpa using this
theorem retD {fn : Func} {p : Tmp} (h : fn.results = #[.cell p 36]) {R : Ending → World → Prop} {tmps : Array Value} {g : Nat} {w : World} {d : Df} {v : Value} (hp : tmps.getD p undef = .pointer (some ⟨g, 0, none⟩)) (hK : Blk w g 36 (dfc d v)) (hR : R (.returned (dfv d v)) w) :
    bodyPost Try.prog fn R Exit.ret ⟨tmps, []⟩ w :=
  bodyPost_ret (results_cell_row h _ _ _ _ (dfc d v).toArray _ _ hp hK Try.underlying36 rfl (by show _ = some 3; kernel_rfl)) rfl hR
def cellsD : List Df → List Value → List Value
  | d :: D, v :: vs => dfc d v ++ cellsD D vs
  | _, _ => []
theorem cellsD_snoc : ∀ (D : List Df) (vs : List Value) (d : Df) (v : Value), vs.length = D.length → cellsD (D ++ [d]) (vs ++ [v]) = cellsD D vs ++ dfc d v
  | [], [], d, v, _ => by simp [cellsD]
  | [], _ :: _, _, _, h => by simp at h
  | _ :: _, [], _, _, h => by simp at h
  | a :: D, b :: vs, d, v, h => by
    have ih := cellsD_snoc D vs d v (by simpa using h)
    simp [cellsD, ih]
/-- A source's definitions lie here: the lists of their nodes are apart from one another. -/
def Src (w : World) (B : Nat) (vd : Value) (D : List Df) (vs : List Value) : Prop :=
  vs.length = D.length ∧ w.ownsRow B 36 3 vd D.length (cellsD D vs) ∧ (∀ (i : Nat) (d : Df) (v : Value), D[i]? = some d → vs[i]? = some v → w.ownsRow B 38 7 v d.ty.length (cellsN d.ty)) ∧
    (∀ (i j : Nat) (v u : Value) (k : Nat), vs[i]? = some v → vs[j]? = some u → v.ownBlock = some k → u.ownBlock = some k → i = j)
theorem Src.nil (w : World) (B : Nat) : Src w B (.slice none 0 0) [] [] := ⟨rfl, World.ownsRow_nil _ _ _ _, fun i d v h => by simp at h, fun i j v u k h => by simp at h⟩
theorem Src.upd {S : Nat → Prop} {w w' : World} {B : Nat} {vd : Value} {D : List Df} {vs : List Value} (h : Src w B vd D vs) (hu : Upd S w w') (h1 : ∀ k, vd.ownBlock = some k → ¬ S k) (h2 : ∀ (i : Nat) (v : Value) (k : Nat), vs[i]? = some v → v.ownBlock = some k → ¬ S k) : Src w' B vd D vs :=
  ⟨h.1, ownS_upd h.2.1 hu h1, fun i d v hd hv => ownS_upd (h.2.2.1 i d v hd hv) hu (fun k hk => h2 i v k hv hk), h.2.2.2⟩
theorem Src.later {w w' : World} {B : Nat} {vd : Value} {D : List Df} {vs : List Value} (h : Src w B vd D vs) (hB : Below w.heap.size w w') : Src w' B vd D vs := h.upd (Upd.of_below (S := fun _ => False) hB) (fun _ _ h => h) (fun _ _ _ _ _ h => h)
theorem Src.d {w : World} {B : Nat} {vd : Value} {D : List Df} {vs : List Value} (h : Src w B vd D vs) {i : Nat} {v : Value} (hv : vs[i]? = some v) : ∃ d, D[i]? = some d := by
  have hi := (List.getElem?_eq_some_iff.1 hv).1
  rw [h.1] at hi
  exact ⟨_, List.getElem?_eq_getElem hi⟩
/-- A block of another type is changed. -/
theorem Src.other {w w' : World} {B g : Nat} {vd : Value} {D : List Df} {vs : List Value} {t : TypeId} {ys : List Value} (h : Src w B vd D vs) (hu : Upd (fun k => k = g) w w') (hg : Blk w g t ys) (h1 : t ≠ 36) (h2 : t ≠ 38) : Src w' B vd D vs := by
  refine h.upd hu (fun k hk e => ?_) (fun i v k hv hk e => ?_)
  · subst e
    obtain ⟨zs, hz⟩ := ownS_type h.2.1 hk
    exact h1 (blk_type hg hz)
  · subst e
    obtain ⟨d, hd⟩ := h.d hv
    obtain ⟨zs, hz⟩ := ownS_type (h.2.2.1 i d v hd hv) hk
    exact h2 (blk_type hg hz)
/-- One definition more. -/
theorem Src.push {w : World} {B : Nat} {vd : Value} {D : List Df} {vs : List Value} (h : Src w B vd D vs) (d : Df) (v : Value) (hv : w.ownsRow B 38 7 v d.ty.length (cellsN d.ty)) (hn : ∀ (i : Nat) (u : Value) (k : Nat), vs[i]? = some u → u.ownBlock = some k → v.ownBlock ≠ some k) (hl : D.length ≤ 2932031007401) (hB : B ≤ w.heap.size) (hone : v.oneCell' = true) :
    ∃ gn cap w', (Builtin.append_ #[22, 22] 22 #[vd, .slice (some ⟨w.heap.size, 0, none⟩) 1 1]).run Try.prog (w.alloc (.cells #[.string d.name, .int .i64 d.a, v] 36)) = .ok (.slice (some ⟨gn, 0, none⟩) (D.length + 1) cap) w' ∧
      Src w' B (.slice (some ⟨gn, 0, none⟩) (D.length + 1) cap) (D ++ [d]) (vs ++ [v]) ∧ Upd (fun k => vd.ownBlock = some k) w w' ∧ (vd.ownBlock = some gn ∨ w.heap.size ≤ gn) := by
  obtain ⟨gn, cap, w', r1, o1, u1, c1⟩ := run_pushS (P := Try.prog) (t := 22) (e := 36) (z := .agg #[.string ⟨#[]⟩, .int .i64 0, .slice none 0 0]) (bytes := 48) Try.underlying22 (by kernel_rfl) rfl (by decide) w 22 h.2.1 (dfc d v) rfl (by intro u hu; simp [dfc] at hu; rcases hu with rfl | rfl | rfl; rfl; rfl; exact hone) (by unfold maxLen; omega) (by omega) hB
  have hne : ∀ (x : Value) (n : Nat) (xs : List Value), w.ownsRow B 38 7 x n xs → ∀ k, x.ownBlock = some k → ¬ vd.ownBlock = some k := fun x n xs hx k hk e => by
    obtain ⟨ys, hy⟩ := ownS_type hx hk
    obtain ⟨zs, hz⟩ := ownS_type h.2.1 e
    exact absurd (blk_type hy hz) (by decide)
  refine ⟨gn, cap, w', r1, ⟨by simp [h.1], ?_, ?_, ?_⟩, u1, c1⟩
  · rw [cellsD_snoc D vs d v h.1, List.length_append]
    exact o1
  · intro i e x he hx
    rcases Nat.lt_or_ge i D.length with hi | hi
    · rw [List.getElem?_append_left hi] at he
      rw [List.getElem?_append_left (by rw [h.1]; exact hi)] at hx
      exact ownS_upd (h.2.2.1 i e x he hx) u1 (hne _ _ _ (h.2.2.1 i e x he hx))
    · rw [List.getElem?_append_right hi] at he
      rw [List.getElem?_append_right (by rw [h.1]; exact hi)] at hx
      have h0 : i - D.length = 0 := by
        have := (List.getElem?_eq_some_iff.1 he).1
        simpa using this
      rw [h0] at he
      rw [h.1, h0] at hx
      simp at he hx
      subst he hx
      exact ownS_upd hv u1 (hne _ _ _ hv)
  · intro i j x y k hx hy hk1 hk2
    rcases Nat.lt_or_ge i vs.length with hi | hi <;> rcases Nat.lt_or_ge j vs.length with hj | hj
    · rw [List.getElem?_append_left hi] at hx
      rw [List.getElem?_append_left hj] at hy
      exact h.2.2.2 i j x y k hx hy hk1 hk2
    · rw [List.getElem?_append_left hi] at hx
      rw [List.getElem?_append_right hj] at hy
      have h0 : j - vs.length = 0 := by
        have := (List.getElem?_eq_some_iff.1 hy).1
        simpa using this
      rw [h0] at hy
      simp at hy
      subst hy
      exact absurd hk2 (hn i x k hx hk1)
    · rw [List.getElem?_append_right hi] at hx
      rw [List.getElem?_append_left hj] at hy
      have h0 : i - vs.length = 0 := by
        have := (List.getElem?_eq_some_iff.1 hx).1
        simpa using this
      rw [h0] at hx
      simp at hx
      subst hx
      exact absurd hk1 (hn j y k hy hk2)
    · have e1 := (List.getElem?_eq_some_iff.1 hx).1
      have e2 := (List.getElem?_eq_some_iff.1 hy).1
      simp at e1 e2
      omega
theorem own_base {w : World} {B B' n c : Nat} {e : TypeId} {v : Value} {xs : List Value} (h : w.ownsRow B e c v n xs) (hb : B' ≤ B) : w.ownsRow B' e c v n xs := by
  refine ⟨h.1, ?_⟩
  rcases h.2 with h | ⟨g, cap, cur, rfl, hg, rest⟩
  · exact .inl h
  · exact .inr ⟨g, cap, cur, rfl, Nat.le_trans hb hg, rest⟩
theorem below_set {B : Nat} {w w' : World} (h : Below B w w') (b i : Nat) (v : Value) (hb : B ≤ b) : Below B w (w'.setCell ⟨b, i, none⟩ v) := h.setCell hb v
theorem cellsN_at : ∀ (N : List Nd) (i j : Nat) (x : Nd), N[i]? = some x → j < 7 → (cellsN N)[i * 7 + j]? = (ndc x)[j]?
  | [], i, j, x, h, _ => by simp at h
  | y :: N, 0, j, x, h, hj => by
    simp at h
    subst h
    have e : cellsN (y :: N) = ndc y ++ cellsN N := by simp [cellsN]
    rw [e, List.getElem?_append_left (by rw [ndc_len]; omega)]
    simp
  | y :: N, i + 1, j, x, h, hj => by
    have ih := cellsN_at N i j x (by simpa using h) hj
    have e : cellsN (y :: N) = ndc y ++ cellsN N := by simp [cellsN]
    rw [e, List.getElem?_append_right (by rw [ndc_len]; omega)]
    rw [show (i + 1) * 7 + j - (ndc y).length = i * 7 + j by rw [ndc_len]; omega, ih]
theorem cellsD_at : ∀ (D : List Df) (vs : List Value) (i j : Nat) (d : Df) (v : Value), D[i]? = some d → vs[i]? = some v → j < 3 → (cellsD D vs)[i * 3 + j]? = (dfc d v)[j]?
  | [], _, i, j, d, v, h, _, _ => by simp at h
  | _ :: _, [], i, j, d, v, _, h, _ => by simp at h
  | y :: D, u :: vs, 0, j, d, v, h, hv, hj => by
    simp at h hv
    subst h hv
    rw [cellsD, List.getElem?_append_left (by simp [dfc]; omega)]
    simp
  | y :: D, u :: vs, i + 1, j, d, v, h, hv, hj => by
    have ih := cellsD_at D vs i j d v (by simpa using h) (by simpa using hv) hj
    rw [cellsD, List.getElem?_append_right (by simp [dfc]; omega)]
    rw [show (i + 1) * 3 + j - (dfc y u).length = i * 3 + j by simp [dfc]; omega, ih]
/-- A row of nodes lies here. -/
def NRow (w : World) (a : Option Addr) (N : List Nd) : Prop :=
  N = [] ∨ ∃ b off, a = some ⟨b, off, none⟩ ∧ b < w.heap.size ∧ ∀ (i : Nat) (x : Nd), N[i]? = some x → ∀ j, j < 7 → w.cell? ⟨b, off + i * 7 + j, none⟩ = (ndc x)[j]?
/-- A row of definitions lies here, with their nodes. -/
def DRow (w : World) (a : Option Addr) (D : List Df) : Prop :=
  D = [] ∨ ∃ b off, a = some ⟨b, off, none⟩ ∧ b < w.heap.size ∧ ∀ (i : Nat) (d : Df), D[i]? = some d → ∃ va vc, (∀ j, j < 3 → w.cell? ⟨b, off + i * 3 + j, none⟩ = (dfc d (.slice va d.ty.length vc))[j]?) ∧ d.ty.length ≤ vc ∧ (va = none → vc = 0) ∧ NRow w va d.ty
theorem NRow.later {w w' : World} {a : Option Addr} {N : List Nd} (h : NRow w a N) (hB : Below w.heap.size w w') : NRow w' a N := by
  rcases h with h | ⟨b, off, rfl, hb, hc⟩
  · exact .inl h
  · exact .inr ⟨b, off, rfl, Nat.lt_of_lt_of_le hb hB.size, fun i x hx j hj => (hB.cell (p := ⟨b, off + i * 7 + j, none⟩) hb).trans (hc i x hx j hj)⟩
theorem DRow.later {w w' : World} {a : Option Addr} {D : List Df} (h : DRow w a D) (hB : Below w.heap.size w w') : DRow w' a D := by
  rcases h with h | ⟨b, off, rfl, hb, hc⟩
  · exact .inl h
  · refine .inr ⟨b, off, rfl, Nat.lt_of_lt_of_le hb hB.size, fun i d hd => ?_⟩
    obtain ⟨va, vc, h1, h2, h4, h3⟩ := hc i d hd
    exact ⟨va, vc, fun j hj => (hB.cell (p := ⟨b, off + i * 3 + j, none⟩) hb).trans (h1 j hj), h2, h4, h3.later hB⟩
theorem NRow.open {w : World} {a : Option Addr} {N : List Nd} (h : NRow w a N) (hl : 0 < N.length) : ∃ b off, a = some ⟨b, off, none⟩ ∧ b < w.heap.size ∧ ∀ (i : Nat) (x : Nd), N[i]? = some x → ∀ j, j < 7 → w.cell? ⟨b, off + i * 7 + j, none⟩ = (ndc x)[j]? := by
  rcases h with rfl | h
  · simp at hl
  · exact h
theorem DRow.open {w : World} {a : Option Addr} {D : List Df} (h : DRow w a D) (hl : 0 < D.length) : ∃ b off, a = some ⟨b, off, none⟩ ∧ b < w.heap.size ∧ ∀ (i : Nat) (d : Df), D[i]? = some d → ∃ va vc, (∀ j, j < 3 → w.cell? ⟨b, off + i * 3 + j, none⟩ = (dfc d (.slice va d.ty.length vc))[j]?) ∧ d.ty.length ≤ vc ∧ (va = none → vc = 0) ∧ NRow w va d.ty := by
  rcases h with rfl | h
  · simp at hl
  · exact h
theorem own_nrow {w : World} {B : Nat} {v : Value} {N : List Nd} (h : w.ownsRow B 38 7 v N.length (cellsN N)) : ∃ a cap, v = .slice a N.length cap ∧ N.length ≤ cap ∧ (a = none → cap = 0) ∧ NRow w a N := by
  rcases Nat.eq_zero_or_pos N.length with h0 | h0
  · have hN : N = [] := List.eq_nil_of_length_eq_zero h0
    subst hN
    rcases h.2 with ⟨rfl, _⟩ | ⟨g, cap, cur, rfl, hb, hg, hnc, _⟩
    · exact ⟨none, 0, rfl, Nat.le_refl _, fun _ => rfl, .inl rfl⟩
    · exact ⟨_, cap, rfl, by simp, fun h => (by cases h), .inr ⟨g, 0, rfl, (Array.getElem?_eq_some_iff.1 hg).1, fun i x hx => by simp at hx⟩⟩
  · obtain ⟨g, cap, ys, rfl, hb, hn, hm, hl, ht, hK⟩ := ownS_blk h h0
    refine ⟨_, cap, rfl, hn, fun h => (by cases h), .inr ⟨g, 0, rfl, hK.lt, fun i x hx j hj => ?_⟩⟩
    have hi := (List.getElem?_eq_some_iff.1 hx).1
    rw [hK.cell, ← cellsN_at N i j x hx hj, ← ht, List.getElem?_take, if_pos (by omega), Nat.zero_add]
theorem Src.row {w : World} {B : Nat} {vd : Value} {D : List Df} {vs : List Value} (h : Src w B vd D vs) : ∃ a cap, vd = .slice a D.length cap ∧ D.length ≤ cap ∧ DRow w a D := by
  rcases Nat.eq_zero_or_pos D.length with h0 | h0
  · have hN : D = [] := List.eq_nil_of_length_eq_zero h0
    subst hN
    rcases h.2.1.2 with ⟨rfl, _⟩ | ⟨g, cap, cur, rfl, hb, hg, hnc, _⟩
    · exact ⟨none, 0, rfl, Nat.le_refl _, .inl rfl⟩
    · exact ⟨_, cap, rfl, by simp, .inr ⟨g, 0, rfl, (Array.getElem?_eq_some_iff.1 hg).1, fun i x hx => by simp at hx⟩⟩
  · obtain ⟨g, cap, ys, rfl, hb, hn, hm, hl, ht, hK⟩ := ownS_blk h.2.1 h0
    refine ⟨_, cap, rfl, hn, .inr ⟨g, 0, rfl, hK.lt, fun i d hd => ?_⟩⟩
    have hi := (List.getElem?_eq_some_iff.1 hd).1
    have hv : vs[i]? = some (vs[i]'(by rw [h.1]; exact hi)) := List.getElem?_eq_getElem _
    obtain ⟨va, vc, hva, hvc, hvn, hr⟩ := own_nrow (h.2.2.1 i d _ hd hv)
    refine ⟨va, vc, fun j hj => ?_, hvc, hvn, hr⟩
    rw [hva] at hv
    rw [hK.cell, ← cellsD_at D vs i j d _ hd hv hj, ← ht, List.getElem?_take, if_pos (by omega), Nat.zero_add]
def Lens (D : List Df) : Prop := D.length ≤ 9223372036854775807 ∧ ∀ d ∈ D, d.ty.length ≤ 9223372036854775807
theorem own_len {w : World} {B n c : Nat} {e : TypeId} {v : Value} {xs : List Value} (h : w.ownsRow B e c v n xs) : n ≤ 9223372036854775807 := by
  rcases h.2 with ⟨_, h0⟩ | ⟨g, cap, cur, _, _, _, hn, hm, _⟩
  · omega
  · unfold maxLen at hm; omega
theorem Src.lens {w : World} {B : Nat} {vd : Value} {D : List Df} {vs : List Value} (h : Src w B vd D vs) : Lens D := by
  refine ⟨own_len h.2.1, fun d hd => ?_⟩
  obtain ⟨i, hi, rfl⟩ := List.getElem_of_mem hd
  exact own_len (h.2.2.1 i _ _ (List.getElem?_eq_getElem hi) (List.getElem?_eq_getElem (by rw [h.1]; exact hi)))
set_option maxRecDepth 100000 in
set_option maxHeartbeats 8000000 in
theorem same_any (a1 a2 : Option Addr) (c1 c2 : Nat) (D : List Df) (w : World) (hL : Hid (Lens D)) (r1 : Hid (DRow w a1 D)) (r2 : Hid (DRow w a2 D)) :
    Calls Try.prog 40 #[.agg #[.slice a1 D.length c1], .agg #[.slice a2 D.length c2], .bool true] w fun e w' => e = .returned (.bool true) ∧ Below w.heap.size w w' := by
  have hD : D.length ≤ 9223372036854775807 := hL.out.1
  obtain ⟨wa, hwa⟩ : ∃ wa, wa = (w.alloc (.cells #[.slice a1 D.length c1] 24)).alloc (.cells #[.slice a2 D.length c2] 24) := ⟨_, rfl⟩
  obtain ⟨k1, k2⟩ := blk2 w #[.slice a1 D.length c1] #[.slice a2 D.length c2] 24
  have HK1 := hide_ k1
  have HK2 := hide_ k2
  have HBa := hide_ (below2 w (.cells #[.slice a1 D.length c1] 24) (.cells #[.slice a2 D.length c2] 24))
  rw [← hwa] at HK1 HK2 HBa
  clear k1 k2
  go_enter Try.func40, Try.ntmps40
  go_upto_region 1 with fail
  rw [← hwa]
  clear hwa
  have x0 := HK1.out.cell 0; have x1 := HK2.out.cell 0
  simp at x0 x1
  go_wp2_with fail
  clear x0 x1
  go_loopw [7] (fun i wr => ∃ k : Nat, k ≤ D.length ∧ i = .int .i64 (k : Int) ∧ Hid (Below wa.heap.size wa wr)) (fun i _ => D.length - (intOf i).toNat)
  case atStart => exact ⟨0, Nat.zero_le _, rfl, Below.refl _ _⟩
  case round =>
    obtain ⟨k, hk, rfl, HB⟩ := hrel
    generalize wr = wq at *
    have x0 := (HK1.out.later HB.out).cell 0; have x1 := (HK2.out.later HB.out).cell 0
    simp at x0 x1
    by_cases hlt : k < D.length
    · have hlt' : (k : Int) < D.length := by omega
      have HB0 := hide_ (HBa.out.trans (HB.out.mono HBa.out.size))
      obtain ⟨b1, o1, rfl, hb1, hc1⟩ := (r1.out.later HB0.out).open (by omega)
      obtain ⟨b2, o2, rfl, hb2, hc2⟩ := (r2.out.later HB0.out).open (by omega)
      have hd : D[k]? = some (D[k]'hlt) := List.getElem?_eq_getElem hlt
      obtain ⟨va1, vc1, h1, hv1, -, hN1⟩ := hc1 k _ hd
      obtain ⟨va2, vc2, h2, hv2, -, hN2⟩ := hc2 k _ hd
      have hty : (D[k]'hlt).ty.length ≤ 9223372036854775807 := hL.out.2 _ (List.getElem_mem hlt)
      generalize D[k]'hlt = d at *
      have p0 := h1 0 (by decide); have p1 := h1 1 (by decide); have p2 := h1 2 (by decide)
      have q0' := h2 0 (by decide); have q1 := h2 1 (by decide); have q2 := h2 2 (by decide)
      simp [dfc] at p0 p1 p2 q0' q1 q2
      have HN1 := hide_ hN1
      have HN2 := hide_ hN2
      clear hc1 hc2 hd h1 h2 hN1 hN2
      have HBz := hide_ (below2 wq (.cells #[.string d.name, .int .i64 d.a, .slice va1 d.ty.length vc1] 36) (.cells #[.string d.name, .int .i64 d.a, .slice va2 d.ty.length vc2] 36))
      obtain ⟨kz1, kz2⟩ := blk2 wq #[.string d.name, .int .i64 d.a, .slice va1 d.ty.length vc1] #[.string d.name, .int .i64 d.a, .slice va2 d.ty.length vc2] 36
      have KZ1 := hide_ kz1
      have KZ2 := hide_ kz2
      clear kz1 kz2
      have x1a : ∀ ob, (wq.alloc ob).cell? ⟨w.heap.size + 1, 0, none⟩ = some (.slice (some ⟨b2, o2, none⟩) D.length c2) := fun ob => (cell_al wq ob _ _ (HK2.out.later HB.out).lt).trans x1
      have q0a : ∀ ob, (wq.alloc ob).cell? ⟨b2, o2 + k * 3, none⟩ = some (.string d.name) := fun ob => (cell_al wq ob _ _ hb2).trans q0'
      have q1a : ∀ ob, (wq.alloc ob).cell? ⟨b2, o2 + k * 3 + 1, none⟩ = some (.int .i64 d.a) := fun ob => (cell_al wq ob _ _ hb2).trans q1
      have q2a : ∀ ob, (wq.alloc ob).cell? ⟨b2, o2 + k * 3 + 2, none⟩ = some (.slice va2 d.ty.length vc2) := fun ob => (cell_al wq ob _ _ hb2).trans q2
      obtain ⟨wz, hwz⟩ : ∃ wz, wz = (wq.alloc (.cells #[.string d.name, .int .i64 d.a, .slice va1 d.ty.length vc1] 36)).alloc (.cells #[.string d.name, .int .i64 d.a, .slice va2 d.ty.length vc2] 36) := ⟨_, rfl⟩
      rw [← hwz] at HBz KZ1 KZ2
      go_upto_region 8 with fail
      rw [← hwz]
      clear hwz x0 x1 p0 p1 p2 q0' q1 q2 x1a q0a q1a q2a
      have u0 := KZ1.out.cell 0; have u1 := KZ1.out.cell 1; have u2 := KZ1.out.cell 2
      have v0 := KZ2.out.cell 0; have v1 := KZ2.out.cell 1; have v2 := KZ2.out.cell 2
      simp at u0 u1 u2 v0 v1 v2
      go_wp2_with fail
      clear u0 u1 u2 v0 v1 v2
      go_loopw [10] (fun i wr => ∃ m : Nat, m ≤ d.ty.length ∧ i = .int .i64 (m : Int) ∧ Hid (Below wz.heap.size wz wr)) (fun i _ => d.ty.length - (intOf i).toNat)
      case atStart => exact ⟨0, Nat.zero_le _, rfl, Below.refl _ _⟩
      case round =>
        obtain ⟨m, hm, rfl, HBy⟩ := hrel
        generalize wr = wy at *
        have u2 := (KZ1.out.later HBy.out).cell 2
        have v2 := (KZ2.out.later HBy.out).cell 2
        simp at u2 v2
        by_cases hlm : m < d.ty.length
        · have hlm' : (m : Int) < d.ty.length := by omega
          have HB1 := hide_ (HBz.out.trans (HBy.out.mono HBz.out.size))
          obtain ⟨e1, f1, rfl, he1, hx1⟩ := (HN1.out.later HB1.out).open (by omega)
          obtain ⟨e2, f2, rfl, he2, hx2⟩ := (HN2.out.later HB1.out).open (by omega)
          have hx : d.ty[m]? = some (d.ty[m]'hlm) := List.getElem?_eq_getElem hlm
          have g1 := hx1 m _ hx
          have g2 := hx2 m _ hx
          generalize d.ty[m]'hlm = x at *
          have i0 := g1 0 (by decide); have i1 := g1 1 (by decide); have i2 := g1 2 (by decide); have i3 := g1 3 (by decide); have i4 := g1 4 (by decide); have i5 := g1 5 (by decide); have i6 := g1 6 (by decide)
          have j0 := g2 0 (by decide); have j1 := g2 1 (by decide); have j2 := g2 2 (by decide); have j3 := g2 3 (by decide); have j4 := g2 4 (by decide); have j5 := g2 5 (by decide); have j6 := g2 6 (by decide)
          simp [ndc] at i0 i1 i2 i3 i4 i5 i6 j0 j1 j2 j3 j4 j5 j6
          clear hx1 hx2 hx g1 g2
          have v2a : ∀ ob, (wy.alloc ob).cell? ⟨wq.heap.size + 1, 2, none⟩ = some (.slice (some ⟨e2, f2, none⟩) d.ty.length vc2) := fun ob => (cell_al wy ob _ _ (KZ2.out.later HBy.out).lt).trans v2
          have j0a : ∀ ob, (wy.alloc ob).cell? ⟨e2, f2 + m * 7, none⟩ = _ := fun ob => (cell_al wy ob _ _ he2).trans j0
          have j1a : ∀ ob, (wy.alloc ob).cell? ⟨e2, f2 + m * 7 + 1, none⟩ = _ := fun ob => (cell_al wy ob _ _ he2).trans j1
          have j2a : ∀ ob, (wy.alloc ob).cell? ⟨e2, f2 + m * 7 + 2, none⟩ = _ := fun ob => (cell_al wy ob _ _ he2).trans j2
          have j3a : ∀ ob, (wy.alloc ob).cell? ⟨e2, f2 + m * 7 + 3, none⟩ = _ := fun ob => (cell_al wy ob _ _ he2).trans j3
          have j4a : ∀ ob, (wy.alloc ob).cell? ⟨e2, f2 + m * 7 + 4, none⟩ = _ := fun ob => (cell_al wy ob _ _ he2).trans j4
          have j5a : ∀ ob, (wy.alloc ob).cell? ⟨e2, f2 + m * 7 + 5, none⟩ = _ := fun ob => (cell_al wy ob _ _ he2).trans j5
          have j6a : ∀ ob, (wy.alloc ob).cell? ⟨e2, f2 + m * 7 + 6, none⟩ = _ := fun ob => (cell_al wy ob _ _ he2).trans j6
          have HBx := hide_ (HBy.out.trans ((below2 wy (.cells #[.int .i64 x.k, .int .i64 x.n, .string x.name, .string x.label, .int .i64 x.tag, .int .i64 x.kids, .int .i64 x.a] 38) (.cells #[.int .i64 x.k, .int .i64 x.n, .string x.name, .string x.label, .int .i64 x.tag, .int .i64 x.kids, .int .i64 x.a] 38)).mono HBy.out.size))
          obtain ⟨kx1, kx2⟩ := blk2 wy #[.int .i64 x.k, .int .i64 x.n, .string x.name, .string x.label, .int .i64 x.tag, .int .i64 x.kids, .int .i64 x.a] #[.int .i64 x.k, .int .i64 x.n, .string x.name, .string x.label, .int .i64 x.tag, .int .i64 x.kids, .int .i64 x.a] 38
          obtain ⟨wx, hwx⟩ : ∃ wx, wx = (wy.alloc (.cells #[.int .i64 x.k, .int .i64 x.n, .string x.name, .string x.label, .int .i64 x.tag, .int .i64 x.kids, .int .i64 x.a] 38)).alloc (.cells #[.int .i64 x.k, .int .i64 x.n, .string x.name, .string x.label, .int .i64 x.tag, .int .i64 x.kids, .int .i64 x.a] 38) := ⟨_, rfl⟩
          rw [← hwx] at HBx kx1 kx2
          have KX1 := hide_ kx1
          have KX2 := hide_ kx2
          clear kx1 kx2
          go_upto_region 15 with fail
          rw [← hwx]
          clear hwx i0 i1 i2 i3 i4 i5 i6 j0 j1 j2 j3 j4 j5 j6 j0a j1a j2a j3a j4a j5a j6a v2a u2 v2
          have i0 := KX1.out.cell 0; have i1 := KX1.out.cell 1; have i2 := KX1.out.cell 2; have i3 := KX1.out.cell 3; have i4 := KX1.out.cell 4; have i5 := KX1.out.cell 5; have i6 := KX1.out.cell 6
          have j0 := KX2.out.cell 0; have j1 := KX2.out.cell 1; have j2 := KX2.out.cell 2; have j3 := KX2.out.cell 3; have j4 := KX2.out.cell 4; have j5 := KX2.out.cell 5; have j6 := KX2.out.cell 6
          simp at i0 i1 i2 i3 i4 i5 i6 j0 j1 j2 j3 j4 j5 j6
          go_wp2
          go_roundw
          case rel => exact ⟨m + 1, by omega, by go_num, HBx⟩
          case measure => simp [intOf]; omega
        · obtain rfl : m = d.ty.length := by omega
          go_wp2
          go_roundw
          case rel => exact ⟨k + 1, by omega, by go_num, hide_ (HB.out.trans ((HBz.out.trans (HBy.out.mono HBz.out.size)).mono HB.out.size))⟩
          case measure => simp [intOf]; omega
    · obtain rfl : k = D.length := by omega
      go_wp2
      go_ret
      exact ⟨rfl, HBa.out.trans (HB.out.mono HBa.out.size)⟩
/-- Not too many of them. -/
def Small (D : List Df) : Prop := D.length ≤ 1000000 ∧ ∀ d ∈ D, d.ty.length ≤ 1000000
/-- What may be copied. -/
def Wt (D : List Df) : Prop := D.length ≤ 2932031007401 ∧ ∀ d ∈ D, d.ty.length ≤ 1954687338267
theorem Small.wt {D : List Df} (h : Small D) : Wt D := ⟨by have := h.1; omega, fun d hd => by have := h.2 d hd; omega⟩
theorem cellsN_one' (N : List Nd) : ∀ u ∈ cellsN N, u.oneCell' = true := by
  intro u hu
  simp only [cellsN, List.mem_flatMap] at hu
  obtain ⟨x, _, hx⟩ := hu
  simp [ndc] at hx
  rcases hx with rfl | rfl | rfl | rfl | rfl | rfl | rfl <;> rfl
set_option maxRecDepth 100000 in
/-- append(nil, x...), x a row of nodes. -/
theorem run_copyN (w : World) (B : Nat) (a : Option Addr) (cap : Nat) (N : List Nd) (hr : NRow w a N) (hnil : a = none → cap = 0) (hl : N.length ≤ 1954687338268) (hB : B ≤ w.heap.size) :
    ∃ v' w', (Builtin.append_ #[34, 34] 34 #[.slice none 0 0, .slice a N.length cap]).run Try.prog w = .ok v' w' ∧ w'.ownsRow B 38 7 v' N.length (cellsN N) ∧ Below w.heap.size w w' ∧ (∀ k, v'.ownBlock = some k → w.heap.size ≤ k) := by
  have hinfo : (Try.prog.info? 38).map (fun i => (i.zero, i.size, i.bytes)) = some (some (.agg #[.int .i64 0, .int .i64 0, .string ⟨#[]⟩, .string ⟨#[]⟩, .int .i64 0, .int .i64 0, .int .i64 0]), 7, 72) := by kernel_rfl
  obtain ⟨i0, hi, hz0, hz1, hz2⟩ := info_parts hinfo
  rcases hr with rfl | ⟨b, off, rfl, hb, hc⟩
  · cases a with
    | none =>
      obtain rfl := hnil rfl
      exact ⟨_, w, run_append_owned_none (P := Try.prog) w w.heap.size 34 34 38 i0 7 Try.underlying34 hi (.slice none 0 0) 0 [] (World.ownsRow_nil _ _ _ _), World.ownsRow_nil _ _ _ _, Below.refl _ _, fun k hk => by cases hk⟩
    | some x =>
      obtain ⟨v', w', hrun, h2, h3, h4, h5⟩ := run_append_own_at (P := Try.prog) w w.heap.size 34 34 38 i0 _ 7 72 Try.underlying34 hi hz0 hz1 hz2 rfl (by decide) (.slice none 0 0) 0 [] (World.ownsRow_nil _ _ _ _) x 0 cap [] rfl (fun j u hj => by simp at hj) (fun u hu => by cases hu) (by unfold maxLen; omega) (by omega) (Nat.le_refl _)
      have hg := (Upd.refl (fun _ => False) w).grown h3 (fun k hk => by cases hk)
      simp only [List.append_nil, Nat.add_zero] at h2
      have h6 := own_base h2 hB
      have h7 := hg.below w.heap.size (Nat.le_refl _) (fun k hk => hk.elim)
      have h8 : ∀ k, v'.ownBlock = some k → w.heap.size ≤ k := fun k hk => (h2.lt k hk).1
      refine ⟨v', w', ?_, ?_, h7, h8⟩
      · simpa using hrun
      · simpa [cellsN] using h6
  · have hcell : ∀ j u, (cellsN N)[j]? = some u → w.cell? ((⟨b, off, none⟩ : Addr).add j) = some u := fun j u hj => by
      have hlt := (List.getElem?_eq_some_iff.1 hj).1
      rw [cellsN_len] at hlt
      have hi : j / 7 < N.length := by omega
      have hx : N[j / 7]? = some (N[j / 7]'hi) := List.getElem?_eq_getElem hi
      have h1 := hc (j / 7) _ hx (j % 7) (Nat.mod_lt _ (by decide))
      have h2 := cellsN_at N (j / 7) (j % 7) _ hx (Nat.mod_lt _ (by decide))
      have e : j / 7 * 7 + j % 7 = j := by omega
      rw [e] at h2
      rw [add_none, ← hj, h2, ← h1]
      congr 2
      omega
    obtain ⟨v', w', hrun, h2, h3, h4, h5⟩ := run_append_own_at (P := Try.prog) w w.heap.size 34 34 38 i0 _ 7 72 Try.underlying34 hi hz0 hz1 hz2 rfl (by decide) (.slice none 0 0) 0 [] (World.ownsRow_nil _ _ _ _) ⟨b, off, none⟩ N.length cap (cellsN N) (cellsN_len N) hcell (cellsN_one' N) (by unfold maxLen; omega) (by omega) (Nat.le_refl _)
    rw [Nat.zero_add, List.nil_append] at h2
    have hg := (Upd.refl (fun _ => False) w).grown h3 (fun k hk => by cases hk)
    exact ⟨v', w', hrun, own_base h2 hB, hg.below _ (Nat.le_refl _) (fun k hk => hk.elim), fun k hk => (h2.lt k hk).1⟩
end Go.Proofs.Yteopgffgimkgmaa
