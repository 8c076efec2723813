/- Rows of structs over any encoding; schemas in memory. -/
import Derived.Test.YtncndgfaalojpaaK
import Derived.Test.YtncndgfaalojpaaOwn
import Derived.Test.YtncndgfaalojpaaZa
import Derived.Maps.AppendAt
import Derived.Laws.OwnMore
namespace Go.Proofs.Ytncndgfaalojpaa
open Go.RowKit
set_option linter.unusedVariables false

theorem results_cell_row {P : Program} {fn : Func} {p : Tmp} {ty : TypeId} (h : fn.results = #[.cell p ty]) (tmps : Array Value) (w : World) (g : Nat) (t : TypeId) (cs : Array Value) (fr : Nat × Nat) (d : TypeDesc)
    (hp : tmps.getD p undef = .pointer (some ⟨g, 0, none⟩)) (hg : w.heap[g]? = some (.cells cs t fr))
    (hu : P.underlying ty = some d) (hd : (match d with | .struct _ | .array _ _ => true | _ => false) = true) (hi : (P.info? ty).map (·.size) = some cs.size) :
    (results fn tmps).run P w = .ok (.agg cs) w := by
  have hp' : tmps[p]?.getD undef = .pointer (some ⟨g, 0, none⟩) := by simpa using hp
  simp only [results, h]
  simp [hp', asAddr, run_loadVar_row w g t ty cs fr d hg hu hd hi]
theorem below_drewN {B : Nat} {w w' : World} (h : Below B w w') (q : Nat) : Below B w (w'.drewN q) := ⟨h.os, h.tape, h.output, h.size, h.block⟩
theorem Blk.drewN {w : World} {g : Nat} {t : TypeId} {xs : List Value} (h : Blk w g t xs) (q : Nat) : Blk (w.drewN q) g t xs := h
theorem upd_drewN {S : Nat → Prop} {a w : World} (h : Upd S a w) (q : Nat) : Upd S a (w.drewN q) := ⟨h.os, h.tape, h.output, h.size, h.block⟩
theorem str_eq (a b : ByteArray) : (a.toList == b.toList) = decide (a = b) := by
  by_cases h : a = b
  · subst h; simp
  · rw [decide_eq_false h]
    have hb : (⟨b.toList.toArray⟩ : ByteArray) = b := by rw [Lib.toList_data]
    exact str_ne a b.toList (by rw [hb]; exact h)
theorem blk2 (w : World) (xs ys : Array Value) (t t' : TypeId) : Blk ((w.alloc (.cells xs t)).alloc (.cells ys t')) w.heap.size t xs.toList ∧ Blk ((w.alloc (.cells xs t)).alloc (.cells ys t')) (w.heap.size + 1) t' ys.toList := by
  refine ⟨(Blk.newA w xs t).alloc _, ?_⟩
  have := Blk.newA (w.alloc (.cells xs t)) ys t'
  simpa using this
theorem below1 (w : World) (o : Obj) : Below w.heap.size w (w.alloc o) := (Below.refl _ _).alloc (Nat.le_refl _) _
theorem below2 (w : World) (o o' : Obj) : Below w.heap.size w ((w.alloc o).alloc o') := ((Below.refl _ _).alloc (Nat.le_refl _) _).alloc (by simp) _
theorem cell_al (w : World) (o : Obj) (b i : Nat) (h : b < w.heap.size) : (w.alloc o).cell? ⟨b, i, none⟩ = w.cell? ⟨b, i, none⟩ := World.cell?_of_block (Below.heap_alloc w o b h)
theorem own_base {w : World} {B B' n c : Nat} {e : TypeId} {v : Value} {xs : List Value} (h : w.ownsRow B e c v n xs) (hb : B' ≤ B) : w.ownsRow B' e c v n xs := by
  refine ⟨h.1, ?_⟩
  rcases h.2 with h | ⟨g, cap, cur, rfl, hg, rest⟩
  · exact .inl h
  · exact .inr ⟨g, cap, cur, rfl, Nat.le_trans hb hg, rest⟩
theorem below_set {B : Nat} {w w' : World} (h : Below B w w') (b i : Nat) (v : Value) (hb : B ≤ b) : Below B w (w'.setCell ⟨b, i, none⟩ v) := h.setCell hb v
theorem own_len {w : World} {B n c : Nat} {e : TypeId} {v : Value} {xs : List Value} (h : w.ownsRow B e c v n xs) : n ≤ 9223372036854775807 := by
  rcases h.2 with ⟨_, h0⟩ | ⟨g, cap, cur, _, _, _, hn, hm, _⟩
  · omega
  · unfold maxLen at hm; omega
/-! ### Rows of things of c cells each -/
section
variable {α : Type} {c : Nat} {f : α → List Value}
def cellsG (f : α → List Value) (l : List α) : List Value := l.flatMap f
theorem cellsG_app (l r : List α) : cellsG f (l ++ r) = cellsG f l ++ cellsG f r := by simp [cellsG]
theorem cellsG_one (x : α) : cellsG f [x] = f x := by simp [cellsG]
theorem cellsG_len (hf : ∀ x, (f x).length = c) (l : List α) : (cellsG f l).length = l.length * c := by
  induction l with
  | nil => simp [cellsG]
  | cons x l ih =>
    have e : cellsG f (x :: l) = f x ++ cellsG f l := by simp [cellsG]
    rw [e, List.length_append, ih, hf, List.length_cons, Nat.add_mul]
    omega
theorem cellsG_at (hf : ∀ x, (f x).length = c) : ∀ (l : List α) (i j : Nat) (x : α), l[i]? = some x → j < c → (cellsG f l)[i * c + j]? = (f x)[j]?
  | [], i, j, x, h, _ => by simp at h
  | y :: N, 0, j, x, h, hj => by
    simp at h
    subst h
    have e : cellsG f (y :: N) = f y ++ cellsG f N := by simp [cellsG]
    rw [e, List.getElem?_append_left (by rw [hf]; omega)]
    simp
  | y :: N, i + 1, j, x, h, hj => by
    have ih := cellsG_at hf N i j x (by simpa using h) hj
    have e : cellsG f (y :: N) = f y ++ cellsG f N := by simp [cellsG]
    have e2 : (i + 1) * c + j - (f y).length = i * c + j := by rw [hf, Nat.add_mul]; omega
    rw [e, List.getElem?_append_right (by rw [hf, Nat.add_mul]; omega), e2, ih]
/-- A row of things lies here. -/
def GRow (c : Nat) (f : α → List Value) (w : World) (a : Option Addr) (l : List α) : Prop :=
  l = [] ∨ ∃ b off, a = some ⟨b, off, none⟩ ∧ b < w.heap.size ∧ ∀ (i : Nat) (x : α), l[i]? = some x → ∀ j, j < c → w.cell? ⟨b, off + i * c + j, none⟩ = (f x)[j]?
theorem GRow.nil (w : World) (a : Option Addr) : GRow c f w a [] := .inl rfl
theorem GRow.later {w w' : World} {a : Option Addr} {l : List α} (h : GRow c f w a l) (hB : Below w.heap.size w w') : GRow c f w' a l := by
  rcases h with h | ⟨b, off, rfl, hb, hc⟩
  · exact .inl h
  · exact .inr ⟨b, off, rfl, Nat.lt_of_lt_of_le hb hB.size, fun i x hx j hj => (hB.cell (p := ⟨b, off + i * c + j, none⟩) hb).trans (hc i x hx j hj)⟩
theorem GRow.upd {w w' : World} {a : Option Addr} {l : List α} {S : Nat → Prop} (h : GRow c f w a l) (hu : Upd S w w') (hs : ∀ x, a = some x → ¬ S x.block) : GRow c f w' a l := by
  rcases h with h | ⟨b, off, rfl, hb, hc⟩
  · exact .inl h
  · exact .inr ⟨b, off, rfl, Nat.lt_of_lt_of_le hb hu.size, fun i x hx j hj => by rw [World.cell?_of_block (w := w) (hu.block b hb (hs _ rfl))]; exact hc i x hx j hj⟩
theorem GRow.open {w : World} {a : Option Addr} {l : List α} (h : GRow c f w a l) (hl : 0 < l.length) : ∃ b off, a = some ⟨b, off, none⟩ ∧ b < w.heap.size ∧ ∀ (i : Nat) (x : α), l[i]? = some x → ∀ j, j < c → w.cell? ⟨b, off + i * c + j, none⟩ = (f x)[j]? := by
  rcases h with rfl | h
  · simp at hl
  · exact h
theorem GRow.take {w : World} {a : Option Addr} {l : List α} (h : GRow c f w a l) (m : Nat) : GRow c f w a (l.take m) := by
  rcases h with rfl | ⟨b, off, rfl, hb, hc⟩
  · exact .inl (by simp)
  · refine .inr ⟨b, off, rfl, hb, fun i x hx => ?_⟩
    rw [List.getElem?_take] at hx
    split at hx
    · exact hc i x hx
    · cases hx
theorem own_grow {e : TypeId} {w : World} {B : Nat} {v : Value} {l : List α} (hf : ∀ x, (f x).length = c) (h : w.ownsRow B e c v l.length (cellsG f l)) : ∃ a cap, v = .slice a l.length cap ∧ l.length ≤ cap ∧ (a = none → cap = 0) ∧ GRow c f w a l := by
  rcases Nat.eq_zero_or_pos l.length with h0 | h0
  · have hN : l = [] := List.eq_nil_of_length_eq_zero h0
    subst hN
    rcases h.2 with ⟨rfl, _⟩ | ⟨g, cap, cur, rfl, hb, hg, hnc, _⟩
    · exact ⟨none, 0, rfl, Nat.le_refl _, fun _ => rfl, .inl rfl⟩
    · exact ⟨_, cap, rfl, by simp, fun h => (by cases h), .inl rfl⟩
  · obtain ⟨g, cap, ys, rfl, hb, hn, hm, hl, ht, hK⟩ := ownS_blk h h0
    refine ⟨_, cap, rfl, hn, fun h => (by cases h), .inr ⟨g, 0, rfl, hK.lt, fun i x hx j hj => ?_⟩⟩
    have hi := (List.getElem?_eq_some_iff.1 hx).1
    have hlt : i * c + j < l.length * c := by
      have h1 : i * c + c ≤ l.length * c := by rw [← Nat.succ_mul]; exact Nat.mul_le_mul_right c hi
      omega
    rw [hK.cell, ← cellsG_at hf l i j x hx hj, ← ht, List.getElem?_take, if_pos hlt, Nat.zero_add]
theorem blk_grow {e : TypeId} {w : World} {g : Nat} {l : List α} (hf : ∀ x, (f x).length = c) (h : Blk w g e (cellsG f l)) : GRow c f w (some ⟨g, 0, none⟩) l := by
  refine .inr ⟨g, 0, rfl, h.lt, fun i x hx j hj => ?_⟩
  rw [h.cell, ← cellsG_at hf l i j x hx hj, Nat.zero_add]
end
/-! ### Parts, types, roots, extents -/
structure Pt where
  label : ByteArray
  tag : Int
  ty : Int
structure Ty where
  k : Int
  n : Int
  e : Int
  ps : List Pt
structure Rt where
  name : ByteArray
  ty : Int
structure Ex where
  f : Bool
  l : Int
  m : Int
  d : Int
def pt0 : Pt := ⟨⟨#[]⟩, 0, 0⟩
def ty0 : Ty := ⟨0, 0, 0, []⟩
def rt0 : Rt := ⟨⟨#[]⟩, 0⟩
def ex0 : Ex := ⟨false, 0, 0, 0⟩
def ptc (p : Pt) : List Value := [.string p.label, .int .i64 p.tag, .int .i64 p.ty]
def ptv (p : Pt) : Value := .agg #[.string p.label, .int .i64 p.tag, .int .i64 p.ty]
def tyc (t : Ty) (v : Value) : List Value := [.int .i64 t.k, .int .i64 t.n, .int .i64 t.e, v]
def tyv (t : Ty) (v : Value) : Value := .agg #[.int .i64 t.k, .int .i64 t.n, .int .i64 t.e, v]
def rtc (r : Rt) : List Value := [.string r.name, .int .i64 r.ty]
def rtv (r : Rt) : Value := .agg #[.string r.name, .int .i64 r.ty]
def exc (x : Ex) : List Value := [.bool x.f, .int .i64 x.l, .int .i64 x.m, .int .i64 x.d]
def exv (x : Ex) : Value := .agg #[.bool x.f, .int .i64 x.l, .int .i64 x.m, .int .i64 x.d]
theorem ptc_len (p : Pt) : (ptc p).length = 3 := rfl
theorem rtc_len (r : Rt) : (rtc r).length = 2 := rfl
theorem exc_len (x : Ex) : (exc x).length = 4 := rfl
abbrev PRow (w : World) (a : Option Addr) (l : List Pt) : Prop := GRow 3 ptc w a l
abbrev RRow (w : World) (a : Option Addr) (l : List Rt) : Prop := GRow 2 rtc w a l
abbrev XRow (w : World) (a : Option Addr) (l : List Ex) : Prop := GRow 4 exc w a l
/-- A row of types lies here, with their parts. -/
def TRow (w : World) (a : Option Addr) (T : List Ty) : Prop :=
  T = [] ∨ ∃ b off, a = some ⟨b, off, none⟩ ∧ b < w.heap.size ∧ ∀ (i : Nat) (t : Ty), T[i]? = some t → ∃ va vc, (∀ j, j < 4 → w.cell? ⟨b, off + i * 4 + j, none⟩ = (tyc t (.slice va t.ps.length vc))[j]?) ∧ t.ps.length ≤ vc ∧ (va = none → vc = 0) ∧ PRow w va t.ps
theorem TRow.later {w w' : World} {a : Option Addr} {T : List Ty} (h : TRow w a T) (hB : Below w.heap.size w w') : TRow w' a T := by
  rcases h with h | ⟨b, off, rfl, hb, hc⟩
  · exact .inl h
  · refine .inr ⟨b, off, rfl, Nat.lt_of_lt_of_le hb hB.size, fun i d hd => ?_⟩
    obtain ⟨va, vc, h1, h2, h4, h3⟩ := hc i d hd
    exact ⟨va, vc, fun j hj => (hB.cell (p := ⟨b, off + i * 4 + j, none⟩) hb).trans (h1 j hj), h2, h4, h3.later hB⟩
theorem TRow.open {w : World} {a : Option Addr} {T : List Ty} (h : TRow w a T) (hl : 0 < T.length) : ∃ b off, a = some ⟨b, off, none⟩ ∧ b < w.heap.size ∧ ∀ (i : Nat) (t : Ty), T[i]? = some t → ∃ va vc, (∀ j, j < 4 → w.cell? ⟨b, off + i * 4 + j, none⟩ = (tyc t (.slice va t.ps.length vc))[j]?) ∧ t.ps.length ≤ vc ∧ (va = none → vc = 0) ∧ PRow w va t.ps := by
  rcases h with rfl | h
  · simp at hl
  · exact h
theorem TRow.take {w : World} {a : Option Addr} {T : List Ty} (h : TRow w a T) (m : Nat) : TRow w a (T.take m) := by
  rcases h with rfl | ⟨b, off, rfl, hb, hc⟩
  · exact .inl (by simp)
  · refine .inr ⟨b, off, rfl, hb, fun i x hx => ?_⟩
    rw [List.getElem?_take] at hx
    split at hx
    · exact hc i x hx
    · cases hx
/-- Lists that an index can walk through. -/
def LensT (T : List Ty) : Prop := T.length ≤ 9223372036854775806 ∧ ∀ t ∈ T, t.ps.length ≤ 9223372036854775806
theorem LensT.at {T : List Ty} (h : LensT T) {i : Nat} {t : Ty} (ht : T[i]? = some t) : t.ps.length ≤ 9223372036854775806 := h.2 t (List.mem_of_getElem? ht)
end Go.Proofs.Ytncndgfaalojpaa
