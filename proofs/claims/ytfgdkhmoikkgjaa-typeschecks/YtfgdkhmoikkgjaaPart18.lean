import Derived.Test.YtfgdkhmoikkgjaaPart15
import Derived.Test.YtfgdkhmoikkgjaaPart07
import Derived.Test.YtfgdkhmoikkgjaaPart12
import Derived.Maps.AppendAt
import Derived.Laws.OwnMore

/- Rows of structs over any encoding; schemas in memory. -/
namespace Go.Proofs.Ytfgdkhmoikkgjaa
open Go.RowKit
set_option linter.unusedVariables false

theorem results_cell_rowz {P : Program} {fn : Func} {p : Tmp} {ty : TypeId} (h : fn.results = #[.cell p ty]) (tmps : Array Value) (w : World) (g : Nat) (t : TypeId) (cs : Array Value) (fr : Nat × Nat) (d : TypeDesc)
    (hp : tmps.getD p undef = .pointer (some ⟨g, 0, none⟩)) (hg : w.heap[g]? = some (.cells cs t fr))
    (hu : P.underlying ty = some d) (hd : (match d with | .struct _ | .array _ _ => true | _ => false) = true) (hi : (P.info? ty).map (·.size) = some cs.size) :
    (results fn tmps).run P w = .ok (.agg cs) w := by
  have hp' : tmps[p]?.getD undef = .pointer (some ⟨g, 0, none⟩) := by simpa using hp
  simp only [results, h]
  simp [hp', asAddr, run_loadVar_row w g t ty cs fr d hg hu hd hi]
theorem below_drewNz {B : Nat} {w w' : World} (h : Below B w w') (q : Nat) : Below B w (w'.drewN q) := ⟨h.os, h.tape, h.output, h.size, h.block⟩
theorem upd_drewNz {S : Nat → Prop} {a w : World} (h : Upd S a w) (q : Nat) : Upd S a (w.drewN q) := ⟨h.os, h.tape, h.output, h.size, h.block⟩
theorem str_eqz (a b : ByteArray) : (a.toList == b.toList) = decide (a = b) := by
  by_cases h : a = b
  · subst h; simp
  · rw [decide_eq_false h]
    have hb : (⟨b.toList.toArray⟩ : ByteArray) = b := by rw [Lib.toList_data]
    exact str_ne a b.toList (by rw [hb]; exact h)
theorem blk2z (w : World) (xs ys : Array Value) (t t' : TypeId) : Blk ((w.alloc (.cells xs t)).alloc (.cells ys t')) w.heap.size t xs.toList ∧ Blk ((w.alloc (.cells xs t)).alloc (.cells ys t')) (w.heap.size + 1) t' ys.toList := by
  refine ⟨(Blk.newA w xs t).alloc _, ?_⟩
  have := Blk.newA (w.alloc (.cells xs t)) ys t'
  simpa using this
theorem below1 (w : World) (o : Obj) : Below w.heap.size w (w.alloc o) := (Below.refl _ _).alloc (Nat.le_refl _) _
theorem below2z (w : World) (o o' : Obj) : Below w.heap.size w ((w.alloc o).alloc o') := ((Below.refl _ _).alloc (Nat.le_refl _) _).alloc (by simp) _
theorem cell_alz (w : World) (o : Obj) (b i : Nat) (h : b < w.heap.size) : (w.alloc o).cell? ⟨b, i, none⟩ = w.cell? ⟨b, i, none⟩ := World.cell?_of_block (Below.heap_alloc w o b h)
theorem own_basez {w : World} {B B' n c : Nat} {e : TypeId} {v : Value} {xs : List Value} (h : w.ownsRow B e c v n xs) (hb : B' ≤ B) : w.ownsRow B' e c v n xs := by
  refine ⟨h.1, ?_⟩
  rcases h.2 with h | ⟨g, cap, cur, rfl, hg, rest⟩
  · exact .inl h
  · exact .inr ⟨g, cap, cur, rfl, Nat.le_trans hb hg, rest⟩
theorem below_setz {B : Nat} {w w' : World} (h : Below B w w') (b i : Nat) (v : Value) (hb : B ≤ b) : Below B w (w'.setCell ⟨b, i, none⟩ v) := h.setCell hb v
theorem own_lenz {w : World} {B n c : Nat} {e : TypeId} {v : Value} {xs : List Value} (h : w.ownsRow B e c v n xs) : n ≤ 9223372036854775807 := by
  rcases h.2 with ⟨_, h0⟩ | ⟨g, cap, cur, _, _, _, hn, hm, _⟩
  · omega
  · unfold maxLen at hm; omega
/-! ### Rows of things of c cells each -/
section
variable {α : Type} {c : Nat} {f : α → List Value}
def cellsG (f : α → List Value) (l : List α) : List Value := l.flatMap f
theorem cellsG_app (l r : List α) : cellsG f (l ++ r) = cellsG f l ++ cellsG f r := by simp [cellsG]
theorem cellsG_one (x : α) : cellsG f [x] = f x := by simp [cellsG]
theorem cellsG_len (hf : ∀ x, (f x).length = c) (l : List α) : (cellsG f l).length = l.length * c := by
  induction l with
  | nil => simp [cellsG]
  | cons x l ih =>
    have e : cellsG f (x :: l) = f x ++ cellsG f l := by simp [cellsG]
    rw [e, List.length_append, ih, hf, List.length_cons, Nat.add_mul]
    omega
theorem cellsG_at (hf : ∀ x, (f x).length = c) : ∀ (l : List α) (i j : Nat) (x : α), l[i]? = some x → j < c → (cellsG f l)[i * c + j]? = (f x)[j]?
  | [], i, j, x, h, _ => by simp at h
  | y :: N, 0, j, x, h, hj => by
    simp at h
    subst h
    have e : cellsG f (y :: N) = f y ++ cellsG f N := by simp [cellsG]
    rw [e, List.getElem?_append_left (by rw [hf]; omega)]
    simp
  | y :: N, i + 1, j, x, h, hj => by
    have ih := cellsG_at hf N i j x (by simpa using h) hj
    have e : cellsG f (y :: N) = f y ++ cellsG f N := by simp [cellsG]
    have e2 : (i + 1) * c + j - (f y).length = i * c + j := by rw [hf, Nat.add_mul]; omega
    rw [e, List.getElem?_append_right (by rw [hf, Nat.add_mul]; omega), e2, ih]
/-- A row of things lies here. -/
def GRow (c : Nat) (f : α → List Value) (w : World) (a : Option Addr) (l : List α) : Prop :=
  l = [] ∨ ∃ b off, a = some ⟨b, off, none⟩ ∧ b < w.heap.size ∧ ∀ (i : Nat) (x : α), l[i]? = some x → ∀ j, j < c → w.cell? ⟨b, off + i * c + j, none⟩ = (f x)[j]?
theorem GRow.nil (w : World) (a : Option Addr) : GRow c f w a [] := .inl rfl
theorem GRow.later {w w' : World} {a : Option Addr} {l : List α} (h : GRow c f w a l) (hB : Below w.heap.size w w') : GRow c f w' a l := by
  rcases h with h | ⟨b, off, rfl, hb, hc⟩
  · exact .inl h
  · exact .inr ⟨b, off, rfl, Nat.lt_of_lt_of_le hb hB.size, fun i x hx j hj => (hB.cell (p := ⟨b, off + i * c + j, none⟩) hb).trans (hc i x hx j hj)⟩
theorem GRow.upd {w w' : World} {a : Option Addr} {l : List α} {S : Nat → Prop} (h : GRow c f w a l) (hu : Upd S w w') (hs : ∀ x, a = some x → ¬ S x.block) : GRow c f w' a l := by
  rcases h with h | ⟨b, off, rfl, hb, hc⟩
  · exact .inl h
  · exact .inr ⟨b, off, rfl, Nat.lt_of_lt_of_le hb hu.size, fun i x hx j hj => by rw [World.cell?_of_block (w := w) (hu.block b hb (hs _ rfl))]; exact hc i x hx j hj⟩
theorem GRow.open {w : World} {a : Option Addr} {l : List α} (h : GRow c f w a l) (hl : 0 < l.length) : ∃ b off, a = some ⟨b, off, none⟩ ∧ b < w.heap.size ∧ ∀ (i : Nat) (x : α), l[i]? = some x → ∀ j, j < c → w.cell? ⟨b, off + i * c + j, none⟩ = (f x)[j]? := by
  rcases h with rfl | h
  · simp at hl
  · exact h
theorem GRow.take {w : World} {a : Option Addr} {l : List α} (h : GRow c f w a l) (m : Nat) : GRow c f w a (l.take m) := by
  rcases h with rfl | ⟨b, off, rfl, hb, hc⟩
  · exact .inl (by simp)
  · refine .inr ⟨b, off, rfl, hb, fun i x hx => ?_⟩
    rw [List.getElem?_take] at hx
    split at hx
    · exact hc i x hx
    · cases hx
theorem own_grow {e : TypeId} {w : World} {B : Nat} {v : Value} {l : List α} (hf : ∀ x, (f x).length = c) (h : w.ownsRow B e c v l.length (cellsG f l)) : ∃ a cap, v = .slice a l.length cap ∧ l.length ≤ cap ∧ (a = none → cap = 0) ∧ GRow c f w a l := by
  rcases Nat.eq_zero_or_pos l.length with h0 | h0
  · have hN : l = [] := List.eq_nil_of_length_eq_zero h0
    subst hN
    rcases h.2 with ⟨rfl, _⟩ | ⟨g, cap, cur, rfl, hb, hg, hnc, _⟩
    · exact ⟨none, 0, rfl, Nat.le_refl _, fun _ => rfl, .inl rfl⟩
    · exact ⟨_, cap, rfl, by simp, fun h => (by cases h), .inl rfl⟩
  · obtain ⟨g, cap, ys, rfl, hb, hn, hm, hl, ht, hK⟩ := ownS_blk h h0
    refine ⟨_, cap, rfl, hn, fun h => (by cases h), .inr ⟨g, 0, rfl, hK.lt, fun i x hx j hj => ?_⟩⟩
    have hi := (List.getElem?_eq_some_iff.1 hx).1
    have hlt : i * c + j < l.length * c := by
      have h1 : i * c + c ≤ l.length * c := by rw [← Nat.succ_mul]; exact Nat.mul_le_mul_right c hi
      omega
    rw [hK.cell, ← cellsG_at hf l i j x hx hj, ← ht, List.getElem?_take, if_pos hlt, Nat.zero_add]
theorem blk_grow {e : TypeId} {w : World} {g : Nat} {l : List α} (hf : ∀ x, (f x).length = c) (h : Blk w g e (cellsG f l)) : GRow c f w (some ⟨g, 0, none⟩) l := by
  refine .inr ⟨g, 0, rfl, h.lt, fun i x hx j hj => ?_⟩
  rw [h.cell, ← cellsG_at hf l i j x hx hj, Nat.zero_add]
end
/-! ### Parts, types, roots, extents -/
structure Ptz where
  label : ByteArray
  tag : Int
  ty : Int
structure Ty where
  k : Int
  n : Int
  e : Int
  ps : List Ptz
structure Rt where
  name : ByteArray
  ty : Int
structure Ex where
  f : Bool
  l : Int
  m : Int
  d : Int
def pt0 : Ptz := ⟨⟨#[]⟩, 0, 0⟩
def ty0 : Ty := ⟨0, 0, 0, []⟩
def rt0 : Rt := ⟨⟨#[]⟩, 0⟩
def ex0 : Ex := ⟨false, 0, 0, 0⟩
def ptc (p : Ptz) : List Value := [.string p.label, .int .i64 p.tag, .int .i64 p.ty]
def ptvz (p : Ptz) : Value := .agg #[.string p.label, .int .i64 p.tag, .int .i64 p.ty]
def tyc (t : Ty) (v : Value) : List Value := [.int .i64 t.k, .int .i64 t.n, .int .i64 t.e, v]
def tyv (t : Ty) (v : Value) : Value := .agg #[.int .i64 t.k, .int .i64 t.n, .int .i64 t.e, v]
def rtc (r : Rt) : List Value := [.string r.name, .int .i64 r.ty]
def rtv (r : Rt) : Value := .agg #[.string r.name, .int .i64 r.ty]
def exc (x : Ex) : List Value := [.bool x.f, .int .i64 x.l, .int .i64 x.m, .int .i64 x.d]
def exv (x : Ex) : Value := .agg #[.bool x.f, .int .i64 x.l, .int .i64 x.m, .int .i64 x.d]
theorem ptc_len (p : Ptz) : (ptc p).length = 3 := rfl
theorem rtc_len (r : Rt) : (rtc r).length = 2 := rfl
theorem exc_len (x : Ex) : (exc x).length = 4 := rfl
abbrev PRow (w : World) (a : Option Addr) (l : List Ptz) : Prop := GRow 3 ptc w a l
abbrev RRow (w : World) (a : Option Addr) (l : List Rt) : Prop := GRow 2 rtc w a l
abbrev XRow (w : World) (a : Option Addr) (l : List Ex) : Prop := GRow 4 exc w a l
/-- A row of types lies here, with their parts. -/
def TRowz (w : World) (a : Option Addr) (T : List Ty) : Prop :=
  T = [] ∨ ∃ b off, a = some ⟨b, off, none⟩ ∧ b < w.heap.size ∧ ∀ (i : Nat) (t : Ty), T[i]? = some t → ∃ va vc, (∀ j, j < 4 → w.cell? ⟨b, off + i * 4 + j, none⟩ = (tyc t (.slice va t.ps.length vc))[j]?) ∧ t.ps.length ≤ vc ∧ (va = none → vc = 0) ∧ PRow w va t.ps
theorem TRowz.later {w w' : World} {a : Option Addr} {T : List Ty} (h : TRowz w a T) (hB : Below w.heap.size w w') : TRowz w' a T := by
  rcases h with h | ⟨b, off, rfl, hb, hc⟩
  · exact .inl h
  · refine .inr ⟨b, off, rfl, Nat.lt_of_lt_of_le hb hB.size, fun i d hd => ?_⟩
    obtain ⟨va, vc, h1, h2, h4, h3⟩ := hc i d hd
    exact ⟨va, vc, fun j hj => (hB.cell (p := ⟨b, off + i * 4 + j, none⟩) hb).trans (h1 j hj), h2, h4, h3.later hB⟩
theorem TRowz.open {w : World} {a : Option Addr} {T : List Ty} (h : TRowz w a T) (hl : 0 < T.length) : ∃ b off, a = some ⟨b, off, none⟩ ∧ b < w.heap.size ∧ ∀ (i : Nat) (t : Ty), T[i]? = some t → ∃ va vc, (∀ j, j < 4 → w.cell? ⟨b, off + i * 4 + j, none⟩ = (tyc t (.slice va t.ps.length vc))[j]?) ∧ t.ps.length ≤ vc ∧ (va = none → vc = 0) ∧ PRow w va t.ps := by
  rcases h with rfl | h
  · simp at hl
  · exact h
theorem TRowz.take {w : World} {a : Option Addr} {T : List Ty} (h : TRowz w a T) (m : Nat) : TRowz w a (T.take m) := by
  rcases h with rfl | ⟨b, off, rfl, hb, hc⟩
  · exact .inl (by simp)
  · refine .inr ⟨b, off, rfl, hb, fun i x hx => ?_⟩
    rw [List.getElem?_take] at hx
    split at hx
    · exact hc i x hx
    · cases hx
/-- Lists that an index can walk through. -/
def LensT (T : List Ty) : Prop := T.length ≤ 9223372036854775806 ∧ ∀ t ∈ T, t.ps.length ≤ 9223372036854775806
theorem LensT.at {T : List Ty} (h : LensT T) {i : Nat} {t : Ty} (ht : T[i]? = some t) : t.ps.length ≤ 9223372036854775806 := h.2 t (List.mem_of_getElem? ht)
end Go.Proofs.Ytfgdkhmoikkgjaa

/- Plain: which schemas may be one: what types.Check answers. -/
namespace Go.Proofs.Ytfgdkhmoikkgjaa
set_option linter.unusedVariables false

def hasE (k : Int) : Bool := decide (k = 4 ∨ k = 5 ∨ k = 6)
def inB (n e : Int) : Bool := decide (0 ≤ n ∧ n < e)
def isCnt (n : Int) : Bool := decide (1 ≤ n ∧ n ≤ 1048576)
def nOk (k n : Int) : Bool := decide ((k = 1 ∧ (n = 1 ∨ n = 2 ∨ n = 4 ∨ n = 8)) ∨ ((k = 4 ∨ k = 5) ∧ 1 ≤ n ∧ n ≤ 1048576) ∨ ((k = 2 ∨ k = 3 ∨ k = 6 ∨ k = 7 ∨ k = 8) ∧ n = 0))
def elemOk (k e i : Int) : Bool := if hasE k then inB e i else decide (e = 0)
def fieldOk (p : Ptz) : Bool := isName p.label && decide (p.tag = 0)
def armOk (p : Ptz) : Bool := decide (p.label = ⟨#[]⟩ ∧ 0 ≤ p.tag ∧ p.tag ≤ 255)
def likeP (q p : Ptz) : Bool := decide (q.label = p.label) && decide (q.tag = p.tag)
def thereP (l : List Ptz) (p : Ptz) : Bool := l.any (fun q => likeP q p)
def okP (r : Ptz → Bool) (ps : List Ptz) (i : Int) (j : Nat) : Bool := r (ps.getD j pt0) && !thereP (ps.take j) (ps.getD j pt0) && inB (ps.getD j pt0).ty i
def allP (r : Ptz → Bool) (ps : List Ptz) (i : Int) : Bool := decide (0 < ps.length ∧ ps.length ≤ 64) && (List.range ps.length).all (okP r ps i)
def partsOk (k : Int) (ps : List Ptz) (i : Int) : Bool := if k = 8 then allP fieldOk ps i else if k = 7 then allP armOk ps i else decide (ps.length = 0)
def tyOk (t : Ty) (i : Int) : Bool := nOk t.k t.n && elemOk t.k t.e i && partsOk t.k t.ps i
/-- The first number that it is true of. -/
def firstI (n : Nat) (p : Nat → Bool) : Option Nat := (List.range n).find? p
theorem firstI_none {n : Nat} {p : Nat → Bool} (h : ∀ j, j < n → p j = false) : firstI n p = none := by
  unfold firstI
  rw [List.find?_eq_none]
  intro x hx
  rw [h x (List.mem_range.1 hx)]
  decide
theorem firstI_some {n i : Nat} {p : Nat → Bool} (hi : i < n) (h1 : p i = true) (h : ∀ j, j < i → p j = false) : firstI n p = some i := by
  unfold firstI
  rw [List.find?_eq_some_iff_append]
  refine ⟨h1, List.range i, (List.range' (i + 1) (n - i - 1)), ?_, fun a ha => by rw [h a (List.mem_range.1 ha)]; rfl⟩
  have e : List.range n = List.range' 0 n := by rw [List.range_eq_range']
  have e2 : List.range i = List.range' 0 i := by rw [List.range_eq_range']
  rw [e, e2]
  have e3 : i :: List.range' (i + 1) (n - i - 1) = List.range' i (n - i) := by
    rw [show n - i = (n - i - 1) + 1 by omega, List.range'_succ]
    simp
  rw [e3]
  have := @List.range'_append_1 0 i (n - i)
  rw [Nat.zero_add, show i + (n - i) = n by omega] at this
  exact this.symm
theorem firstI_none' {n : Nat} {p : Nat → Bool} (h : firstI n p = none) : ∀ j, j < n → p j = false := fun j hj => by
  unfold firstI at h
  rw [List.find?_eq_none] at h
  have := h j (List.mem_range.2 hj)
  simpa using this
theorem snoc_ind {α : Type} {P : List α → Prop} (h0 : P []) (h1 : ∀ l x, P l → P (l ++ [x])) (l : List α) : P l := by
  have key : ∀ r : List α, P r.reverse := fun r => by
    induction r with
    | nil => exact h0
    | cons x r ih => rw [List.reverse_cons]; exact h1 _ _ ih
  have := key l.reverse
  rwa [List.reverse_reverse] at this
/-- Depths. -/
def kidD (l : List Int) (ps : List Ptz) (d : Int) : Int := ps.foldl (fun d p => max d (l.getD p.ty.toNat 0)) d
def dep1 (l : List Int) (t : Ty) : Int := kidD l t.ps (if hasE t.k then l.getD t.e.toNat 0 else 0) + 1
def depL (T : List Ty) : List Int := T.foldl (fun l t => l ++ [dep1 l t]) []
theorem depL_snoc (T : List Ty) (t : Ty) : depL (T ++ [t]) = depL T ++ [dep1 (depL T) t] := by simp [depL]
theorem depL_len (T : List Ty) : (depL T).length = T.length := by
  refine snoc_ind (P := fun T => (depL T).length = T.length) rfl (fun T t ih => ?_) T
  rw [depL_snoc]
  simp [ih]
theorem getD_app {α : Type} {l r : List α} {i : Nat} {d : α} (h : i < l.length) : (l ++ r).getD i d = l.getD i d := by
  simp only [List.getD, List.getElem?_append_left h]
theorem depL_pre (T R : List Ty) {i : Nat} (h : i < T.length) : (depL (T ++ R)).getD i 0 = (depL T).getD i 0 := by
  refine snoc_ind (P := fun R => (depL (T ++ R)).getD i 0 = (depL T).getD i 0) (by rw [List.append_nil]) (fun R t ih => ?_) R
  rw [← List.append_assoc, depL_snoc, getD_app (by rw [depL_len]; simp; omega)]
  exact ih
theorem depL_take (T : List Ty) {i m : Nat} (h : i < m) (hm : m ≤ T.length) : (depL (T.take m)).getD i 0 = (depL T).getD i 0 := by
  have := depL_pre (T.take m) (T.drop m) (i := i) (by simp; omega)
  rw [List.take_append_drop] at this
  exact this.symm
/-- Roots. -/
def findR (R : List Rt) (nm : ByteArray) : Nat := R.findIdx (fun q => decide (q.name = nm))
def rootOk (n : Nat) (R : List Rt) (i : Nat) : Bool := decide (i < 256) && isName (R.getD i rt0).name && inB (R.getD i rt0).ty n && decide (findR R (R.getD i rt0).name = i)
/-- What Check answers. -/
def chkR (n : Nat) (R : List Rt) : Int × Int := match firstI R.length (fun i => !rootOk n R i) with
  | some i => (92, (n : Int) + i)
  | none => (0, 0)
def chkD (T : List Ty) (R : List Rt) : Int × Int := match firstI T.length (fun i => decide (64 < (depL T).getD i 0)) with
  | some i => (83, (i : Int))
  | none => chkR T.length R
def chk (T : List Ty) (R : List Rt) : Int × Int := match firstI T.length (fun i => !tyOk (T.getD i ty0) i) with
  | some i => (92, (i : Int))
  | none => chkD T R
theorem chk_ty {T : List Ty} {R : List Rt} {i : Nat} (hi : i < T.length) (h1 : tyOk (T.getD i ty0) i = false) (h : ∀ j, j < i → tyOk (T.getD j ty0) j = true) : chk T R = (92, (i : Int)) := by
  have e := firstI_some (p := fun i => !tyOk (T.getD i ty0) i) hi (by simp only [h1]; rfl) (fun j hj => by simp only [h j hj]; rfl)
  unfold chk
  rw [e]
theorem chk_deep {T : List Ty} {R : List Rt} (h : ∀ j, j < T.length → tyOk (T.getD j ty0) j = true) : chk T R = chkD T R := by
  have e := firstI_none (n := T.length) (p := fun i => !tyOk (T.getD i ty0) i) (fun j hj => by simp only [h j hj]; rfl)
  unfold chk
  rw [e]
theorem chkD_at {T : List Ty} {R : List Rt} {i : Nat} (hi : i < T.length) (h1 : 64 < (depL T).getD i 0) (h : ∀ j, j < i → (depL T).getD j 0 ≤ 64) : chkD T R = (83, (i : Int)) := by
  have e := firstI_some (p := fun i => decide (64 < (depL T).getD i 0)) hi (decide_eq_true h1) (fun j hj => decide_eq_false (by have := h j hj; omega))
  unfold chkD
  rw [e]
theorem chkD_none {T : List Ty} {R : List Rt} (h : ∀ j, j < T.length → (depL T).getD j 0 ≤ 64) : chkD T R = chkR T.length R := by
  have e := firstI_none (p := fun i => decide (64 < (depL T).getD i 0)) (fun j hj => decide_eq_false (by have := h j hj; omega))
  unfold chkD
  rw [e]
theorem chkR_at {n : Nat} {R : List Rt} {i : Nat} (hi : i < R.length) (h1 : rootOk n R i = false) (h : ∀ j, j < i → rootOk n R j = true) : chkR n R = (92, (n : Int) + i) := by
  have e := firstI_some (p := fun i => !rootOk n R i) hi (by simp only [h1]; rfl) (fun j hj => by simp only [h j hj]; rfl)
  unfold chkR
  rw [e]
theorem chkR_none {n : Nat} {R : List Rt} (h : ∀ j, j < R.length → rootOk n R j = true) : chkR n R = (0, 0) := by
  have e := firstI_none (n := R.length) (p := fun i => !rootOk n R i) (fun j hj => by simp only [h j hj]; rfl)
  unfold chkR
  rw [e]
/-- What a schema that may be one is. -/
structure OkSz (T : List Ty) (R : List Rt) : Prop where
  ty : ∀ j, j < T.length → tyOk (T.getD j ty0) j = true
  dep : ∀ j, j < T.length → (depL T).getD j 0 ≤ 64
  root : ∀ j, j < R.length → rootOk T.length R j = true
theorem OkSz.chk {T : List Ty} {R : List Rt} (h : OkSz T R) : chk T R = (0, 0) := by rw [chk_deep h.ty, chkD_none h.dep, chkR_none h.root]
theorem okS_of {T : List Ty} {R : List Rt} (h : (chk T R).1 = 0) : OkSz T R := by
  unfold Go.Proofs.Ytfgdkhmoikkgjaa.chk at h
  cases h1 : firstI T.length (fun i => !tyOk (T.getD i ty0) i) with
  | some i => rw [h1] at h; simp at h
  | none =>
    rw [h1] at h
    simp only at h
    unfold chkD at h
    cases h2 : firstI T.length (fun i => decide (64 < (depL T).getD i 0)) with
    | some i => rw [h2] at h; simp at h
    | none =>
      rw [h2] at h
      simp only at h
      unfold chkR at h
      cases h3 : firstI R.length (fun i => !rootOk T.length R i) with
      | some i => rw [h3] at h; simp at h
      | none =>
        refine ⟨fun j hj => ?_, fun j hj => ?_, fun j hj => ?_⟩
        · have := firstI_none' h1 j hj; simpa using this
        · have := firstI_none' h2 j hj; simp at this; simpa using this
        · have := firstI_none' h3 j hj; simpa using this
theorem tyOk_parts {t : Ty} {i : Int} (h : tyOk t i = true) : nOk t.k t.n = true ∧ elemOk t.k t.e i = true ∧ partsOk t.k t.ps i = true := by
  unfold tyOk at h
  simp only [Bool.and_eq_true] at h
  exact ⟨h.1.1, h.1.2, h.2⟩
theorem tyOk_elem {t : Ty} {i : Int} (h : tyOk t i = true) (hk : hasE t.k = true) : 0 ≤ t.e ∧ t.e < i := by
  have := (tyOk_parts h).2.1
  unfold elemOk at this
  rw [if_pos hk] at this
  exact of_decide_eq_true this
theorem allP_at {r : Ptz → Bool} {ps : List Ptz} {i : Int} (h : allP r ps i = true) {j : Nat} {p : Ptz} (hp : ps[j]? = some p) : r p = true ∧ thereP (ps.take j) p = false ∧ 0 ≤ p.ty ∧ p.ty < i := by
  unfold allP at h
  rw [Bool.and_eq_true, List.all_eq_true] at h
  have hj := (List.getElem?_eq_some_iff.1 hp).1
  have := h.2 j (List.mem_range.2 hj)
  have e : ps.getD j pt0 = p := by simp [List.getD, hp]
  unfold okP at this
  rw [e] at this
  simp only [Bool.and_eq_true, Bool.not_eq_true', inB, decide_eq_true_eq] at this
  exact ⟨this.1.1, this.1.2, this.2⟩
theorem tyOk_part {t : Ty} {i : Int} (h : tyOk t i = true) {j : Nat} {p : Ptz} (hp : t.ps[j]? = some p) : 0 ≤ p.ty ∧ p.ty < i := by
  have := (tyOk_parts h).2.2
  unfold partsOk at this
  split at this
  · exact (allP_at this hp).2.2
  · split at this
    · exact (allP_at this hp).2.2
    · have hj := (List.getElem?_eq_some_iff.1 hp).1
      simp at this
      rw [this] at hj
      simp at hj
theorem tyOk_len {t : Ty} {i : Int} (h : tyOk t i = true) : t.ps.length ≤ 64 := by
  have := (tyOk_parts h).2.2
  unfold partsOk at this
  have key : ∀ r, allP r t.ps i = true → t.ps.length ≤ 64 := fun r hr => by
    unfold allP at hr
    rw [Bool.and_eq_true, decide_eq_true_eq] at hr
    omega
  split at this
  · exact key _ this
  · split at this
    · exact key _ this
    · simp at this
      simp [this]
end Go.Proofs.Ytfgdkhmoikkgjaa
