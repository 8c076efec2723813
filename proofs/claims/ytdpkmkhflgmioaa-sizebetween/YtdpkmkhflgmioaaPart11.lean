import Derived.Test.YtdpkmkhflgmioaaPart10
import Derived.Test.YtdpkmkhflgmioaaPart05
import Derived.Test.YtdpkmkhflgmioaaPart09
import Derived.Maps.AppendAt
import Derived.Laws.OwnMore

/- Rows of structs over any encoding; schemas in memory. -/
namespace Go.Proofs.Ytdpkmkhflgmioaa
open Go.RowKit
set_option linter.unusedVariables false

theorem results_cell_row {P : Program} {fn : Func} {p : Tmp} {ty : TypeId} (h : fn.results = #[.cell p ty]) (tmps : Array Value) (w : World) (g : Nat) (t : TypeId) (cs : Array Value) (fr : Nat × Nat) (d : TypeDesc)
    (hp : tmps.getD p undef = .pointer (some ⟨g, 0, none⟩)) (hg : w.heap[g]? = some (.cells cs t fr))
    (hu : P.underlying ty = some d) (hd : (match d with | .struct _ | .array _ _ => true | _ => false) = true) (hi : (P.info? ty).map (·.size) = some cs.size) :
    (results fn tmps).run P w = .ok (.agg cs) w := by
  have hp' : tmps[p]?.getD undef = .pointer (some ⟨g, 0, none⟩) := by simpa using hp
  simp only [results, h]
  simp [hp', asAddr, run_loadVar_row w g t ty cs fr d hg hu hd hi]
theorem below_drewN {B : Nat} {w w' : World} (h : Below B w w') (q : Nat) : Below B w (w'.drewN q) := ⟨h.os, h.tape, h.output, h.size, h.block⟩
theorem Blk.drewN {w : World} {g : Nat} {t : TypeId} {xs : List Value} (h : Blk w g t xs) (q : Nat) : Blk (w.drewN q) g t xs := h
theorem upd_drewN {S : Nat → Prop} {a w : World} (h : Upd S a w) (q : Nat) : Upd S a (w.drewN q) := ⟨h.os, h.tape, h.output, h.size, h.block⟩
theorem str_eq (a b : ByteArray) : (a.toList == b.toList) = decide (a = b) := by
  by_cases h : a = b
  · subst h; simp
  · rw [decide_eq_false h]
    have hb : (⟨b.toList.toArray⟩ : ByteArray) = b := by rw [Lib.toList_data]
    exact str_ne a b.toList (by rw [hb]; exact h)
theorem blk2 (w : World) (xs ys : Array Value) (t t' : TypeId) : Blk ((w.alloc (.cells xs t)).alloc (.cells ys t')) w.heap.size t xs.toList ∧ Blk ((w.alloc (.cells xs t)).alloc (.cells ys t')) (w.heap.size + 1) t' ys.toList := by
  refine ⟨(Blk.newA w xs t).alloc _, ?_⟩
  have := Blk.newA (w.alloc (.cells xs t)) ys t'
  simpa using this
theorem below1 (w : World) (o : Obj) : Below w.heap.size w (w.alloc o) := (Below.refl _ _).alloc (Nat.le_refl _) _
theorem below2 (w : World) (o o' : Obj) : Below w.heap.size w ((w.alloc o).alloc o') := ((Below.refl _ _).alloc (Nat.le_refl _) _).alloc (by simp) _
theorem cell_al (w : World) (o : Obj) (b i : Nat) (h : b < w.heap.size) : (w.alloc o).cell? ⟨b, i, none⟩ = w.cell? ⟨b, i, none⟩ := World.cell?_of_block (Below.heap_alloc w o b h)
theorem own_base {w : World} {B B' n c : Nat} {e : TypeId} {v : Value} {xs : List Value} (h : w.ownsRow B e c v n xs) (hb : B' ≤ B) : w.ownsRow B' e c v n xs := by
  refine ⟨h.1, ?_⟩
  rcases h.2 with h | ⟨g, cap, cur, rfl, hg, rest⟩
  · exact .inl h
  · exact .inr ⟨g, cap, cur, rfl, Nat.le_trans hb hg, rest⟩
theorem below_set {B : Nat} {w w' : World} (h : Below B w w') (b i : Nat) (v : Value) (hb : B ≤ b) : Below B w (w'.setCell ⟨b, i, none⟩ v) := h.setCell hb v
theorem own_len {w : World} {B n c : Nat} {e : TypeId} {v : Value} {xs : List Value} (h : w.ownsRow B e c v n xs) : n ≤ 9223372036854775807 := by
  rcases h.2 with ⟨_, h0⟩ | ⟨g, cap, cur, _, _, _, hn, hm, _⟩
  · omega
  · unfold maxLen at hm; omega
/-! ### Rows of things of c cells each -/
section
variable {α : Type} {c : Nat} {f : α → List Value}
def cellsG (f : α → List Value) (l : List α) : List Value := l.flatMap f
theorem cellsG_app (l r : List α) : cellsG f (l ++ r) = cellsG f l ++ cellsG f r := by simp [cellsG]
theorem cellsG_one (x : α) : cellsG f [x] = f x := by simp [cellsG]
theorem cellsG_len (hf : ∀ x, (f x).length = c) (l : List α) : (cellsG f l).length = l.length * c := by
  induction l with
  | nil => simp [cellsG]
  | cons x l ih =>
    have e : cellsG f (x :: l) = f x ++ cellsG f l := by simp [cellsG]
    rw [e, List.length_append, ih, hf, List.length_cons, Nat.add_mul]
    omega
theorem cellsG_at (hf : ∀ x, (f x).length = c) : ∀ (l : List α) (i j : Nat) (x : α), l[i]? = some x → j < c → (cellsG f l)[i * c + j]? = (f x)[j]?
  | [], i, j, x, h, _ => by simp at h
  | y :: N, 0, j, x, h, hj => by
    simp at h
    subst h
    have e : cellsG f (y :: N) = f y ++ cellsG f N := by simp [cellsG]
    rw [e, List.getElem?_append_left (by rw [hf]; omega)]
    simp
  | y :: N, i + 1, j, x, h, hj => by
    have ih := cellsG_at hf N i j x (by simpa using h) hj
    have e : cellsG f (y :: N) = f y ++ cellsG f N := by simp [cellsG]
    have e2 : (i + 1) * c + j - (f y).length = i * c + j := by rw [hf, Nat.add_mul]; omega
    rw [e, List.getElem?_append_right (by rw [hf, Nat.add_mul]; omega), e2, ih]
/-- A row of things lies here. -/
def GRow (c : Nat) (f : α → List Value) (w : World) (a : Option Addr) (l : List α) : Prop :=
  l = [] ∨ ∃ b off, a = some ⟨b, off, none⟩ ∧ b < w.heap.size ∧ ∀ (i : Nat) (x : α), l[i]? = some x → ∀ j, j < c → w.cell? ⟨b, off + i * c + j, none⟩ = (f x)[j]?
theorem GRow.nil (w : World) (a : Option Addr) : GRow c f w a [] := .inl rfl
theorem GRow.later {w w' : World} {a : Option Addr} {l : List α} (h : GRow c f w a l) (hB : Below w.heap.size w w') : GRow c f w' a l := by
  rcases h with h | ⟨b, off, rfl, hb, hc⟩
  · exact .inl h
  · exact .inr ⟨b, off, rfl, Nat.lt_of_lt_of_le hb hB.size, fun i x hx j hj => (hB.cell (p := ⟨b, off + i * c + j, none⟩) hb).trans (hc i x hx j hj)⟩
theorem GRow.upd {w w' : World} {a : Option Addr} {l : List α} {S : Nat → Prop} (h : GRow c f w a l) (hu : Upd S w w') (hs : ∀ x, a = some x → ¬ S x.block) : GRow c f w' a l := by
  rcases h with h | ⟨b, off, rfl, hb, hc⟩
  · exact .inl h
  · exact .inr ⟨b, off, rfl, Nat.lt_of_lt_of_le hb hu.size, fun i x hx j hj => by rw [World.cell?_of_block (w := w) (hu.block b hb (hs _ rfl))]; exact hc i x hx j hj⟩
theorem GRow.open {w : World} {a : Option Addr} {l : List α} (h : GRow c f w a l) (hl : 0 < l.length) : ∃ b off, a = some ⟨b, off, none⟩ ∧ b < w.heap.size ∧ ∀ (i : Nat) (x : α), l[i]? = some x → ∀ j, j < c → w.cell? ⟨b, off + i * c + j, none⟩ = (f x)[j]? := by
  rcases h with rfl | h
  · simp at hl
  · exact h
theorem GRow.take {w : World} {a : Option Addr} {l : List α} (h : GRow c f w a l) (m : Nat) : GRow c f w a (l.take m) := by
  rcases h with rfl | ⟨b, off, rfl, hb, hc⟩
  · exact .inl (by simp)
  · refine .inr ⟨b, off, rfl, hb, fun i x hx => ?_⟩
    rw [List.getElem?_take] at hx
    split at hx
    · exact hc i x hx
    · cases hx
theorem own_grow {e : TypeId} {w : World} {B : Nat} {v : Value} {l : List α} (hf : ∀ x, (f x).length = c) (h : w.ownsRow B e c v l.length (cellsG f l)) : ∃ a cap, v = .slice a l.length cap ∧ l.length ≤ cap ∧ (a = none → cap = 0) ∧ GRow c f w a l := by
  rcases Nat.eq_zero_or_pos l.length with h0 | h0
  · have hN : l = [] := List.eq_nil_of_length_eq_zero h0
    subst hN
    rcases h.2 with ⟨rfl, _⟩ | ⟨g, cap, cur, rfl, hb, hg, hnc, _⟩
    · exact ⟨none, 0, rfl, Nat.le_refl _, fun _ => rfl, .inl rfl⟩
    · exact ⟨_, cap, rfl, by simp, fun h => (by cases h), .inl rfl⟩
  · obtain ⟨g, cap, ys, rfl, hb, hn, hm, hl, ht, hK⟩ := ownS_blk h h0
    refine ⟨_, cap, rfl, hn, fun h => (by cases h), .inr ⟨g, 0, rfl, hK.lt, fun i x hx j hj => ?_⟩⟩
    have hi := (List.getElem?_eq_some_iff.1 hx).1
    have hlt : i * c + j < l.length * c := by
      have h1 : i * c + c ≤ l.length * c := by rw [← Nat.succ_mul]; exact Nat.mul_le_mul_right c hi
      omega
    rw [hK.cell, ← cellsG_at hf l i j x hx hj, ← ht, List.getElem?_take, if_pos hlt, Nat.zero_add]
theorem blk_grow {e : TypeId} {w : World} {g : Nat} {l : List α} (hf : ∀ x, (f x).length = c) (h : Blk w g e (cellsG f l)) : GRow c f w (some ⟨g, 0, none⟩) l := by
  refine .inr ⟨g, 0, rfl, h.lt, fun i x hx j hj => ?_⟩
  rw [h.cell, ← cellsG_at hf l i j x hx hj, Nat.zero_add]
end
/-! ### Parts, types, roots, extents -/
structure Pt where
  label : ByteArray
  tag : Int
  ty : Int
structure Ty where
  k : Int
  n : Int
  e : Int
  ps : List Pt
structure Rt where
  name : ByteArray
  ty : Int
structure Ex where
  f : Bool
  l : Int
  m : Int
  d : Int
def pt0 : Pt := ⟨⟨#[]⟩, 0, 0⟩
def ty0 : Ty := ⟨0, 0, 0, []⟩
def rt0 : Rt := ⟨⟨#[]⟩, 0⟩
def ex0 : Ex := ⟨false, 0, 0, 0⟩
def ptc (p : Pt) : List Value := [.string p.label, .int .i64 p.tag, .int .i64 p.ty]
def ptv (p : Pt) : Value := .agg #[.string p.label, .int .i64 p.tag, .int .i64 p.ty]
def tyc (t : Ty) (v : Value) : List Value := [.int .i64 t.k, .int .i64 t.n, .int .i64 t.e, v]
def tyv (t : Ty) (v : Value) : Value := .agg #[.int .i64 t.k, .int .i64 t.n, .int .i64 t.e, v]
def rtc (r : Rt) : List Value := [.string r.name, .int .i64 r.ty]
def rtv (r : Rt) : Value := .agg #[.string r.name, .int .i64 r.ty]
def exc (x : Ex) : List Value := [.bool x.f, .int .i64 x.l, .int .i64 x.m, .int .i64 x.d]
def exv (x : Ex) : Value := .agg #[.bool x.f, .int .i64 x.l, .int .i64 x.m, .int .i64 x.d]
theorem ptc_len (p : Pt) : (ptc p).length = 3 := rfl
theorem rtc_len (r : Rt) : (rtc r).length = 2 := rfl
theorem exc_len (x : Ex) : (exc x).length = 4 := rfl
abbrev PRow (w : World) (a : Option Addr) (l : List Pt) : Prop := GRow 3 ptc w a l
abbrev RRow (w : World) (a : Option Addr) (l : List Rt) : Prop := GRow 2 rtc w a l
abbrev XRow (w : World) (a : Option Addr) (l : List Ex) : Prop := GRow 4 exc w a l
/-- A row of types lies here, with their parts. -/
def TRow (w : World) (a : Option Addr) (T : List Ty) : Prop :=
  T = [] ∨ ∃ b off, a = some ⟨b, off, none⟩ ∧ b < w.heap.size ∧ ∀ (i : Nat) (t : Ty), T[i]? = some t → ∃ va vc, (∀ j, j < 4 → w.cell? ⟨b, off + i * 4 + j, none⟩ = (tyc t (.slice va t.ps.length vc))[j]?) ∧ t.ps.length ≤ vc ∧ (va = none → vc = 0) ∧ PRow w va t.ps
theorem TRow.later {w w' : World} {a : Option Addr} {T : List Ty} (h : TRow w a T) (hB : Below w.heap.size w w') : TRow w' a T := by
  rcases h with h | ⟨b, off, rfl, hb, hc⟩
  · exact .inl h
  · refine .inr ⟨b, off, rfl, Nat.lt_of_lt_of_le hb hB.size, fun i d hd => ?_⟩
    obtain ⟨va, vc, h1, h2, h4, h3⟩ := hc i d hd
    exact ⟨va, vc, fun j hj => (hB.cell (p := ⟨b, off + i * 4 + j, none⟩) hb).trans (h1 j hj), h2, h4, h3.later hB⟩
theorem TRow.open {w : World} {a : Option Addr} {T : List Ty} (h : TRow w a T) (hl : 0 < T.length) : ∃ b off, a = some ⟨b, off, none⟩ ∧ b < w.heap.size ∧ ∀ (i : Nat) (t : Ty), T[i]? = some t → ∃ va vc, (∀ j, j < 4 → w.cell? ⟨b, off + i * 4 + j, none⟩ = (tyc t (.slice va t.ps.length vc))[j]?) ∧ t.ps.length ≤ vc ∧ (va = none → vc = 0) ∧ PRow w va t.ps := by
  rcases h with rfl | h
  · simp at hl
  · exact h
theorem TRow.take {w : World} {a : Option Addr} {T : List Ty} (h : TRow w a T) (m : Nat) : TRow w a (T.take m) := by
  rcases h with rfl | ⟨b, off, rfl, hb, hc⟩
  · exact .inl (by simp)
  · refine .inr ⟨b, off, rfl, hb, fun i x hx => ?_⟩
    rw [List.getElem?_take] at hx
    split at hx
    · exact hc i x hx
    · cases hx
/-- Lists that an index can walk through. -/
def LensT (T : List Ty) : Prop := T.length ≤ 9223372036854775806 ∧ ∀ t ∈ T, t.ps.length ≤ 9223372036854775806
theorem LensT.at {T : List Ty} (h : LensT T) {i : Nat} {t : Ty} (ht : T[i]? = some t) : t.ps.length ≤ 9223372036854775806 := h.2 t (List.mem_of_getElem? ht)
end Go.Proofs.Ytdpkmkhflgmioaa

/- Plain: which schemas may be one: what types.Check answers. -/
namespace Go.Proofs.Ytdpkmkhflgmioaa
set_option linter.unusedVariables false

def hasE (k : Int) : Bool := decide (k = 4 ∨ k = 5 ∨ k = 6)
def inB (n e : Int) : Bool := decide (0 ≤ n ∧ n < e)
def isCnt (n : Int) : Bool := decide (1 ≤ n ∧ n ≤ 1048576)
def nOk (k n : Int) : Bool := decide ((k = 1 ∧ (n = 1 ∨ n = 2 ∨ n = 4 ∨ n = 8)) ∨ ((k = 4 ∨ k = 5) ∧ 1 ≤ n ∧ n ≤ 1048576) ∨ ((k = 2 ∨ k = 3 ∨ k = 6 ∨ k = 7 ∨ k = 8) ∧ n = 0))
def elemOk (k e i : Int) : Bool := if hasE k then inB e i else decide (e = 0)
def fieldOk (p : Pt) : Bool := isName p.label && decide (p.tag = 0)
def armOk (p : Pt) : Bool := decide (p.label = ⟨#[]⟩ ∧ 0 ≤ p.tag ∧ p.tag ≤ 255)
def likeP (q p : Pt) : Bool := decide (q.label = p.label) && decide (q.tag = p.tag)
def thereP (l : List Pt) (p : Pt) : Bool := l.any (fun q => likeP q p)
def okP (r : Pt → Bool) (ps : List Pt) (i : Int) (j : Nat) : Bool := r (ps.getD j pt0) && !thereP (ps.take j) (ps.getD j pt0) && inB (ps.getD j pt0).ty i
def allP (r : Pt → Bool) (ps : List Pt) (i : Int) : Bool := decide (0 < ps.length ∧ ps.length ≤ 64) && (List.range ps.length).all (okP r ps i)
def partsOk (k : Int) (ps : List Pt) (i : Int) : Bool := if k = 8 then allP fieldOk ps i else if k = 7 then allP armOk ps i else decide (ps.length = 0)
def tyOk (t : Ty) (i : Int) : Bool := nOk t.k t.n && elemOk t.k t.e i && partsOk t.k t.ps i
/-- The first number that it is true of. -/
def firstI (n : Nat) (p : Nat → Bool) : Option Nat := (List.range n).find? p
theorem firstI_none {n : Nat} {p : Nat → Bool} (h : ∀ j, j < n → p j = false) : firstI n p = none := by
  unfold firstI
  rw [List.find?_eq_none]
  intro x hx
  rw [h x (List.mem_range.1 hx)]
  decide
theorem firstI_some {n i : Nat} {p : Nat → Bool} (hi : i < n) (h1 : p i = true) (h : ∀ j, j < i → p j = false) : firstI n p = some i := by
  unfold firstI
  rw [List.find?_eq_some_iff_append]
  refine ⟨h1, List.range i, (List.range' (i + 1) (n - i - 1)), ?_, fun a ha => by rw [h a (List.mem_range.1 ha)]; rfl⟩
  have e : List.range n = List.range' 0 n := by rw [List.range_eq_range']
  have e2 : List.range i = List.range' 0 i := by rw [List.range_eq_range']
  rw [e, e2]
  have e3 : i :: List.range' (i + 1) (n - i - 1) = List.range' i (n - i) := by
    rw [show n - i = (n - i - 1) + 1 by omega, List.range'_succ]
    simp
  rw [e3]
  have := @List.range'_append_1 0 i (n - i)
  rw [Nat.zero_add, show i + (n - i) = n by omega] at this
  exact this.symm
theorem firstI_none' {n : Nat} {p : Nat → Bool} (h : firstI n p = none) : ∀ j, j < n → p j = false := fun j hj => by
  unfold firstI at h
  rw [List.find?_eq_none] at h
  have := h j (List.mem_range.2 hj)
  simpa using this
theorem snoc_ind {α : Type} {P : List α → Prop} (h0 : P []) (h1 : ∀ l x, P l → P (l ++ [x])) (l : List α) : P l := by
  have key : ∀ r : List α, P r.reverse := fun r => by
    induction r with
    | nil => exact h0
    | cons x r ih => rw [List.reverse_cons]; exact h1 _ _ ih
  have := key l.reverse
  rwa [List.reverse_reverse] at this
/-- Depths. -/
def kidD (l : List Int) (ps : List Pt) (d : Int) : Int := ps.foldl (fun d p => max d (l.getD p.ty.toNat 0)) d
def dep1 (l : List Int) (t : Ty) : Int := kidD l t.ps (if hasE t.k then l.getD t.e.toNat 0 else 0) + 1
def depL (T : List Ty) : List Int := T.foldl (fun l t => l ++ [dep1 l t]) []
theorem depL_snoc (T : List Ty) (t : Ty) : depL (T ++ [t]) = depL T ++ [dep1 (depL T) t] := by simp [depL]
theorem depL_len (T : List Ty) : (depL T).length = T.length := by
  refine snoc_ind (P := fun T => (depL T).length = T.length) rfl (fun T t ih => ?_) T
  rw [depL_snoc]
  simp [ih]
theorem getD_app {α : Type} {l r : List α} {i : Nat} {d : α} (h : i < l.length) : (l ++ r).getD i d = l.getD i d := by
  simp only [List.getD, List.getElem?_append_left h]
theorem depL_pre (T R : List Ty) {i : Nat} (h : i < T.length) : (depL (T ++ R)).getD i 0 = (depL T).getD i 0 := by
  refine snoc_ind (P := fun R => (depL (T ++ R)).getD i 0 = (depL T).getD i 0) (by rw [List.append_nil]) (fun R t ih => ?_) R
  rw [← List.append_assoc, depL_snoc, getD_app (by rw [depL_len]; simp; omega)]
  exact ih
theorem depL_take (T : List Ty) {i m : Nat} (h : i < m) (hm : m ≤ T.length) : (depL (T.take m)).getD i 0 = (depL T).getD i 0 := by
  have := depL_pre (T.take m) (T.drop m) (i := i) (by simp; omega)
  rw [List.take_append_drop] at this
  exact this.symm
/-- Roots. -/
def findR (R : List Rt) (nm : ByteArray) : Nat := R.findIdx (fun q => decide (q.name = nm))
def rootOk (n : Nat) (R : List Rt) (i : Nat) : Bool := decide (i < 256) && isName (R.getD i rt0).name && inB (R.getD i rt0).ty n && decide (findR R (R.getD i rt0).name = i)
/-- What Check answers. -/
def chkR (n : Nat) (R : List Rt) : Int × Int := match firstI R.length (fun i => !rootOk n R i) with
  | some i => (92, (n : Int) + i)
  | none => (0, 0)
def chkD (T : List Ty) (R : List Rt) : Int × Int := match firstI T.length (fun i => decide (64 < (depL T).getD i 0)) with
  | some i => (83, (i : Int))
  | none => chkR T.length R
def chk (T : List Ty) (R : List Rt) : Int × Int := match firstI T.length (fun i => !tyOk (T.getD i ty0) i) with
  | some i => (92, (i : Int))
  | none => chkD T R
theorem chk_ty {T : List Ty} {R : List Rt} {i : Nat} (hi : i < T.length) (h1 : tyOk (T.getD i ty0) i = false) (h : ∀ j, j < i → tyOk (T.getD j ty0) j = true) : chk T R = (92, (i : Int)) := by
  have e := firstI_some (p := fun i => !tyOk (T.getD i ty0) i) hi (by simp only [h1]; rfl) (fun j hj => by simp only [h j hj]; rfl)
  unfold chk
  rw [e]
theorem chk_deep {T : List Ty} {R : List Rt} (h : ∀ j, j < T.length → tyOk (T.getD j ty0) j = true) : chk T R = chkD T R := by
  have e := firstI_none (n := T.length) (p := fun i => !tyOk (T.getD i ty0) i) (fun j hj => by simp only [h j hj]; rfl)
  unfold chk
  rw [e]
theorem chkD_at {T : List Ty} {R : List Rt} {i : Nat} (hi : i < T.length) (h1 : 64 < (depL T).getD i 0) (h : ∀ j, j < i → (depL T).getD j 0 ≤ 64) : chkD T R = (83, (i : Int)) := by
  have e := firstI_some (p := fun i => decide (64 < (depL T).getD i 0)) hi (decide_eq_true h1) (fun j hj => decide_eq_false (by have := h j hj; omega))
  unfold chkD
  rw [e]
theorem chkD_none {T : List Ty} {R : List Rt} (h : ∀ j, j < T.length → (depL T).getD j 0 ≤ 64) : chkD T R = chkR T.length R := by
  have e := firstI_none (p := fun i => decide (64 < (depL T).getD i 0)) (fun j hj => decide_eq_false (by have := h j hj; omega))
  unfold chkD
  rw [e]
theorem chkR_at {n : Nat} {R : List Rt} {i : Nat} (hi : i < R.length) (h1 : rootOk n R i = false) (h : ∀ j, j < i → rootOk n R j = true) : chkR n R = (92, (n : Int) + i) := by
  have e := firstI_some (p := fun i => !rootOk n R i) hi (by simp only [h1]; rfl) (fun j hj => by simp only [h j hj]; rfl)
  unfold chkR
  rw [e]
theorem chkR_none {n : Nat} {R : List Rt} (h : ∀ j, j < R.length → rootOk n R j = true) : chkR n R = (0, 0) := by
  have e := firstI_none (n := R.length) (p := fun i => !rootOk n R i) (fun j hj => by simp only [h j hj]; rfl)
  unfold chkR
  rw [e]
/-- What a schema that may be one is. -/
structure OkS (T : List Ty) (R : List Rt) : Prop where
  ty : ∀ j, j < T.length → tyOk (T.getD j ty0) j = true
  dep : ∀ j, j < T.length → (depL T).getD j 0 ≤ 64
  root : ∀ j, j < R.length → rootOk T.length R j = true
theorem OkS.chk {T : List Ty} {R : List Rt} (h : OkS T R) : chk T R = (0, 0) := by rw [chk_deep h.ty, chkD_none h.dep, chkR_none h.root]
theorem okS_of {T : List Ty} {R : List Rt} (h : (chk T R).1 = 0) : OkS T R := by
  unfold Go.Proofs.Ytdpkmkhflgmioaa.chk at h
  cases h1 : firstI T.length (fun i => !tyOk (T.getD i ty0) i) with
  | some i => rw [h1] at h; simp at h
  | none =>
    rw [h1] at h
    simp only at h
    unfold chkD at h
    cases h2 : firstI T.length (fun i => decide (64 < (depL T).getD i 0)) with
    | some i => rw [h2] at h; simp at h
    | none =>
      rw [h2] at h
      simp only at h
      unfold chkR at h
      cases h3 : firstI R.length (fun i => !rootOk T.length R i) with
      | some i => rw [h3] at h; simp at h
      | none =>
        refine ⟨fun j hj => ?_, fun j hj => ?_, fun j hj => ?_⟩
        · have := firstI_none' h1 j hj; simpa using this
        · have := firstI_none' h2 j hj; simp at this; simpa using this
        · have := firstI_none' h3 j hj; simpa using this
theorem tyOk_parts {t : Ty} {i : Int} (h : tyOk t i = true) : nOk t.k t.n = true ∧ elemOk t.k t.e i = true ∧ partsOk t.k t.ps i = true := by
  unfold tyOk at h
  simp only [Bool.and_eq_true] at h
  exact ⟨h.1.1, h.1.2, h.2⟩
theorem tyOk_elem {t : Ty} {i : Int} (h : tyOk t i = true) (hk : hasE t.k = true) : 0 ≤ t.e ∧ t.e < i := by
  have := (tyOk_parts h).2.1
  unfold elemOk at this
  rw [if_pos hk] at this
  exact of_decide_eq_true this
theorem allP_at {r : Pt → Bool} {ps : List Pt} {i : Int} (h : allP r ps i = true) {j : Nat} {p : Pt} (hp : ps[j]? = some p) : r p = true ∧ thereP (ps.take j) p = false ∧ 0 ≤ p.ty ∧ p.ty < i := by
  unfold allP at h
  rw [Bool.and_eq_true, List.all_eq_true] at h
  have hj := (List.getElem?_eq_some_iff.1 hp).1
  have := h.2 j (List.mem_range.2 hj)
  have e : ps.getD j pt0 = p := by simp [List.getD, hp]
  unfold okP at this
  rw [e] at this
  simp only [Bool.and_eq_true, Bool.not_eq_true', inB, decide_eq_true_eq] at this
  exact ⟨this.1.1, this.1.2, this.2⟩
theorem tyOk_part {t : Ty} {i : Int} (h : tyOk t i = true) {j : Nat} {p : Pt} (hp : t.ps[j]? = some p) : 0 ≤ p.ty ∧ p.ty < i := by
  have := (tyOk_parts h).2.2
  unfold partsOk at this
  split at this
  · exact (allP_at this hp).2.2
  · split at this
    · exact (allP_at this hp).2.2
    · have hj := (List.getElem?_eq_some_iff.1 hp).1
      simp at this
      rw [this] at hj
      simp at hj
theorem tyOk_len {t : Ty} {i : Int} (h : tyOk t i = true) : t.ps.length ≤ 64 := by
  have := (tyOk_parts h).2.2
  unfold partsOk at this
  have key : ∀ r, allP r t.ps i = true → t.ps.length ≤ 64 := fun r hr => by
    unfold allP at hr
    rw [Bool.and_eq_true, decide_eq_true_eq] at hr
    omega
  split at this
  · exact key _ this
  · split at this
    · exact key _ this
    · simp at this
      simp [this]
end Go.Proofs.Ytdpkmkhflgmioaa

/- types.Check: the small functions. -/
namespace Go.Proofs.Ytdpkmkhflgmioaa
open Go.RowKit
set_option linter.unusedVariables false

set_option maxRecDepth 100000 in
set_option maxHeartbeats 4000000 in
theorem hasElem_any (k : Int) (w : World) : Calls Try.prog 65 #[.int .i64 k] w fun e w' => e = .returned (.bool (hasE k)) ∧ w = w' := by
  unfold hasE
  go_enter Try.func65, Try.ntmps65
  by_cases h0 : k = 4
  · subst h0; go_wp2; go_ret; exact ⟨by simp, rfl⟩
  by_cases h1 : k = 5
  · subst h1; go_wp2; go_ret; exact ⟨by simp, rfl⟩
  by_cases h2 : k = 6
  · subst h2; go_wp2; go_ret; exact ⟨by simp, rfl⟩
  go_wp2
  go_ret
  exact ⟨by simp [h0, h1, h2], rfl⟩
set_option maxRecDepth 100000 in
set_option maxHeartbeats 4000000 in
theorem isBelow_any (n m : Int) (w : World) : Calls Try.prog 67 #[.int .i64 n, .int .i64 m] w fun e w' => e = .returned (.bool (inB n m)) ∧ w = w' := by
  unfold inB
  go_enter Try.func67, Try.ntmps67
  by_cases h0 : 0 ≤ n
  · by_cases h1 : n < m
    · go_wp2; go_ret; exact ⟨by simp [h0, h1], rfl⟩
    · go_wp2; go_ret; exact ⟨by simp [h1], rfl⟩
  · go_wp2; go_ret; exact ⟨by simp; omega, rfl⟩
set_option maxRecDepth 100000 in
set_option maxHeartbeats 4000000 in
theorem isCount_any (n : Int) (w : World) : Calls Try.prog 81 #[.int .i64 n] w fun e w' => e = .returned (.bool (isCnt n)) ∧ w = w' := by
  unfold isCnt
  go_enter Try.func81, Try.ntmps81
  by_cases h0 : 1 ≤ n
  · by_cases h1 : n ≤ 1048576
    · go_wp2; go_ret; exact ⟨by simp [h0, h1], rfl⟩
    · go_wp2; go_ret; exact ⟨by simp [h1], rfl⟩
  · go_wp2; go_ret; exact ⟨by simp; omega, rfl⟩
set_option maxRecDepth 100000 in
set_option maxHeartbeats 4000000 in
theorem rightNumber_any (t : Ty) (v : Value) (w : World) : Calls Try.prog 62 #[.agg #[.int .i64 t.k, .int .i64 t.n, .int .i64 t.e, v]] w fun e w' => e = .returned (.bool (nOk t.k t.n)) ∧ Below w.heap.size w w' := by
  obtain ⟨k, n, el, ps⟩ := t
  have hB := below1 w (.cells #[.int .i64 k, .int .i64 n, .int .i64 el, v] 62)
  have kx := Blk.newA w #[.int .i64 k, .int .i64 n, .int .i64 el, v] 62
  obtain ⟨wx, hwx⟩ : ∃ wx, wx = w.alloc (.cells #[.int .i64 k, .int .i64 n, .int .i64 el, v] 62) := ⟨_, rfl⟩
  rw [← hwx] at hB kx
  have HB := hide_ hB
  have i0 := kx.cell 0; have i1 := kx.cell 1; have i2 := kx.cell 2; have i3 := kx.cell 3
  simp at i0 i1 i2 i3
  clear hB kx
  go_enter Try.func62, Try.ntmps62
  go_upto_region 1 with fail
  rw [← hwx]
  clear hwx
  by_cases h1 : k = 1
  · subst h1
    by_cases n1 : n = 1
    · subst n1; go_wp2; go_ret; exact ⟨by simp [nOk], HB.out⟩
    by_cases n2 : n = 2
    · subst n2; go_wp2; go_ret; exact ⟨by simp [nOk], HB.out⟩
    by_cases n4 : n = 4
    · subst n4; go_wp2; go_ret; exact ⟨by simp [nOk], HB.out⟩
    by_cases n8 : n = 8
    · subst n8; go_wp2; go_ret; exact ⟨by simp [nOk], HB.out⟩
    have b1 : (n == 1) = false := by simpa using n1
    have b2 : (n == 2) = false := by simpa using n2
    have b4 : (n == 4) = false := by simpa using n4
    have b8 : (n == 8) = false := by simpa using n8
    go_wp2; go_ret; exact ⟨by simp [nOk, n1, n2, n4, n8], HB.out⟩
  have c1 : (k == 1) = false := by simpa using h1
  have HQ : Hid (∀ n, nOk 4 n = isCnt n ∧ nOk 5 n = isCnt n) := hide_ (fun n => by simp [nOk, isCnt])
  by_cases h4 : k = 4
  · subst h4
    go_wp2_with (go_at_call 81; refine (isCount_any n _).mono ?_; rintro e w' ⟨rfl, rfl⟩)
    go_ret; exact ⟨by rw [(HQ.out n).1]; rfl, HB.out⟩
  have c4 : (k == 4) = false := by simpa using h4
  by_cases h5 : k = 5
  · subst h5
    go_wp2_with (go_at_call 81; refine (isCount_any n _).mono ?_; rintro e w' ⟨rfl, rfl⟩)
    go_ret; exact ⟨by rw [(HQ.out n).2]; rfl, HB.out⟩
  have c5 : (k == 5) = false := by simpa using h5
  have HZ : Hid (∀ k, (k = 2 ∨ k = 3 ∨ k = 6 ∨ k = 7 ∨ k = 8) → nOk k n = (n == 0)) := hide_ (fun k h => by
    by_cases hn : n = 0
    · subst hn; rcases h with rfl | rfl | rfl | rfl | rfl <;> simp [nOk]
    · have hb : (n == 0) = false := by simpa using hn
      rw [hb]
      unfold nOk
      rw [decide_eq_false]
      omega)
  by_cases h2 : k = 2
  · subst h2; go_wp2; go_ret; exact ⟨by rw [HZ.out _ (by omega)]; rfl, HB.out⟩
  have c2 : (k == 2) = false := by simpa using h2
  by_cases h3 : k = 3
  · subst h3; go_wp2; go_ret; exact ⟨by rw [HZ.out _ (by omega)]; rfl, HB.out⟩
  have c3 : (k == 3) = false := by simpa using h3
  by_cases h6 : k = 6
  · subst h6; go_wp2; go_ret; exact ⟨by rw [HZ.out _ (by omega)]; rfl, HB.out⟩
  have c6 : (k == 6) = false := by simpa using h6
  by_cases h7 : k = 7
  · subst h7; go_wp2; go_ret; exact ⟨by rw [HZ.out _ (by omega)]; rfl, HB.out⟩
  have c7 : (k == 7) = false := by simpa using h7
  by_cases h8 : k = 8
  · subst h8; go_wp2; go_ret; exact ⟨by rw [HZ.out _ (by omega)]; rfl, HB.out⟩
  have c8 : (k == 8) = false := by simpa using h8
  go_wp2; go_ret; exact ⟨by simp [nOk, h1, h2, h3, h4, h5, h6, h7, h8], HB.out⟩
set_option maxRecDepth 100000 in
set_option maxHeartbeats 4000000 in
theorem rightElem_any (t : Ty) (v : Value) (m : Int) (w : World) : Calls Try.prog 63 #[.agg #[.int .i64 t.k, .int .i64 t.n, .int .i64 t.e, v], .int .i64 m] w fun e w' => e = .returned (.bool (elemOk t.k t.e m)) ∧ Below w.heap.size w w' := by
  obtain ⟨k, n, el, ps⟩ := t
  have hB := below1 w (.cells #[.int .i64 k, .int .i64 n, .int .i64 el, v] 62)
  have kx := Blk.newA w #[.int .i64 k, .int .i64 n, .int .i64 el, v] 62
  obtain ⟨wx, hwx⟩ : ∃ wx, wx = w.alloc (.cells #[.int .i64 k, .int .i64 n, .int .i64 el, v] 62) := ⟨_, rfl⟩
  rw [← hwx] at hB kx
  have HB := hide_ hB
  have i0 := kx.cell 0; have i1 := kx.cell 1; have i2 := kx.cell 2; have i3 := kx.cell 3
  simp at i0 i1 i2 i3
  clear hB kx
  cases hk : hasE k with
  | true =>
    have HE : Hid (elemOk k el m = inB el m) := hide_ (by unfold elemOk; rw [if_pos hk])
    have HCon : Hid (∀ w, Calls Try.prog 65 #[.int .i64 k] w fun e w' => e = .returned (.bool true) ∧ w = w') := hide_ (fun w => by have := hasElem_any k w; rwa [hk] at this)
    clear hk
    go_enter Try.func63, Try.ntmps63
    go_upto_region 1 with fail
    rw [← hwx]
    clear hwx
    go_wp2_with (first | (go_at_call 65; refine (HCon.out _).mono ?_; rintro e w' ⟨rfl, rfl⟩) | (go_at_call 67; refine (isBelow_any el m _).mono ?_; rintro e w' ⟨rfl, rfl⟩))
    go_ret; exact ⟨by rw [HE.out]; rfl, HB.out⟩
  | false =>
    have HE : Hid (elemOk k el m = (el == 0)) := hide_ (by
      unfold elemOk
      rw [if_neg (by rw [hk]; decide)]
      by_cases h : el = 0
      · subst h; rfl
      · simp [h])
    have HCon : Hid (∀ w, Calls Try.prog 65 #[.int .i64 k] w fun e w' => e = .returned (.bool false) ∧ w = w') := hide_ (fun w => by have := hasElem_any k w; rwa [hk] at this)
    clear hk
    go_enter Try.func63, Try.ntmps63
    go_upto_region 1 with fail
    rw [← hwx]
    clear hwx
    go_wp2_with (first | (go_at_call 65; refine (HCon.out _).mono ?_; rintro e w' ⟨rfl, rfl⟩))
    go_ret; exact ⟨by rw [HE.out]; rfl, HB.out⟩
set_option maxRecDepth 100000 in
set_option maxHeartbeats 4000000 in
theorem isField_any (p : Pt) (w : World) : Calls Try.prog 82 #[.agg #[.string p.label, .int .i64 p.tag, .int .i64 p.ty]] w fun e w' => e = .returned (.bool (fieldOk p)) ∧ Below w.heap.size w w' := by
  obtain ⟨lb, tg, ty⟩ := p
  have hB := below1 w (.cells #[.string lb, .int .i64 tg, .int .i64 ty] 64)
  have kx := Blk.newA w #[.string lb, .int .i64 tg, .int .i64 ty] 64
  obtain ⟨wx, hwx⟩ : ∃ wx, wx = w.alloc (.cells #[.string lb, .int .i64 tg, .int .i64 ty] 64) := ⟨_, rfl⟩
  rw [← hwx] at hB kx
  have HB := hide_ hB
  have i0 := kx.cell 0; have i1 := kx.cell 1; have i2 := kx.cell 2
  simp at i0 i1 i2
  clear hB kx
  cases hk : isName lb with
  | true =>
    have HE : Hid (fieldOk ⟨lb, tg, ty⟩ = (tg == 0)) := hide_ (by
      unfold fieldOk
      rw [hk]
      by_cases h : tg = 0
      · subst h; rfl
      · simp [h])
    have HCon : Hid (∀ w, Calls Try.prog 66 #[.string lb] w fun e w' => e = .returned (.bool true) ∧ w = w') := hide_ (fun w => by have := name_any lb w; rwa [hk] at this)
    clear hk
    go_enter Try.func82, Try.ntmps82
    go_upto_region 1 with fail
    rw [← hwx]
    clear hwx
    go_wp2_with (go_at_call 66; refine (HCon.out _).mono ?_; rintro e w' ⟨rfl, rfl⟩)
    go_ret; exact ⟨by rw [HE.out]; rfl, HB.out⟩
  | false =>
    have HE : Hid (fieldOk ⟨lb, tg, ty⟩ = false) := hide_ (by unfold fieldOk; rw [hk]; rfl)
    have HCon : Hid (∀ w, Calls Try.prog 66 #[.string lb] w fun e w' => e = .returned (.bool false) ∧ w = w') := hide_ (fun w => by have := name_any lb w; rwa [hk] at this)
    clear hk
    go_enter Try.func82, Try.ntmps82
    go_upto_region 1 with fail
    rw [← hwx]
    clear hwx
    go_wp2_with (go_at_call 66; refine (HCon.out _).mono ?_; rintro e w' ⟨rfl, rfl⟩)
    go_ret; exact ⟨by rw [HE.out]; rfl, HB.out⟩
theorem isEmpty_dec (s : ByteArray) : (s.toList == []) = decide (s = ⟨#[]⟩) := by
  by_cases h : s = ⟨#[]⟩
  · subst h; simp
  · rw [decide_eq_false h]; exact str_ne s [] h
set_option maxRecDepth 100000 in
set_option maxHeartbeats 4000000 in
theorem isArm_any (p : Pt) (w : World) : Calls Try.prog 83 #[.agg #[.string p.label, .int .i64 p.tag, .int .i64 p.ty]] w fun e w' => e = .returned (.bool (armOk p)) ∧ Below w.heap.size w w' := by
  obtain ⟨lb, tg, ty⟩ := p
  have hB := below1 w (.cells #[.string lb, .int .i64 tg, .int .i64 ty] 64)
  have kx := Blk.newA w #[.string lb, .int .i64 tg, .int .i64 ty] 64
  obtain ⟨wx, hwx⟩ : ∃ wx, wx = w.alloc (.cells #[.string lb, .int .i64 tg, .int .i64 ty] 64) := ⟨_, rfl⟩
  rw [← hwx] at hB kx
  have HB := hide_ hB
  have i0 := kx.cell 0; have i1 := kx.cell 1; have i2 := kx.cell 2
  simp at i0 i1 i2
  clear hB kx
  unfold armOk
  go_enter Try.func83, Try.ntmps83
  go_upto_region 1 with fail
  rw [← hwx]
  clear hwx
  by_cases h0 : lb = ⟨#[]⟩
  · subst h0
    by_cases h1 : 0 ≤ tg
    · by_cases h2 : tg ≤ 255
      · go_wp2; go_ret; exact ⟨by simp, HB.out⟩
      · go_wp2; go_ret; exact ⟨by simp; omega, HB.out⟩
    · go_wp2; go_ret; exact ⟨by simp; omega, HB.out⟩
  · have k0 := str_ne lb [] h0
    go_wp2; go_ret; exact ⟨by simp [h0], HB.out⟩
end Go.Proofs.Ytdpkmkhflgmioaa

/- types.Check: parts. -/
namespace Go.Proofs.Ytdpkmkhflgmioaa
open Go.RowKit
set_option linter.unusedVariables false

set_option maxRecDepth 100000 in
set_option maxHeartbeats 4000000 in
theorem like_any (q p : Pt) (bp : Nat) (w : World) (hp : Hid (Blk w bp 64 (ptc p))) :
    Calls Try.prog 94 #[.agg #[.string q.label, .int .i64 q.tag, .int .i64 q.ty], .pointer (some ⟨bp, 0, none⟩)] w fun e w' => e = .returned (.bool (likeP q p)) ∧ Below w.heap.size w w' := by
  obtain ⟨lb, tg, ty⟩ := q
  obtain ⟨lb', tg', ty'⟩ := p
  have hB := below1 w (.cells #[.string lb, .int .i64 tg, .int .i64 ty] 64)
  have kx := Blk.newA w #[.string lb, .int .i64 tg, .int .i64 ty] 64
  have ky := hp.out.alloc (.cells #[.string lb, .int .i64 tg, .int .i64 ty] 64)
  obtain ⟨wx, hwx⟩ : ∃ wx, wx = w.alloc (.cells #[.string lb, .int .i64 tg, .int .i64 ty] 64) := ⟨_, rfl⟩
  rw [← hwx] at hB kx ky
  have HB := hide_ hB
  have i0 := kx.cell 0; have i1 := kx.cell 1
  have j0 := ky.cell 0; have j1 := ky.cell 1
  simp [ptc] at i0 i1 j0 j1
  clear hB kx ky
  unfold likeP
  go_enter Try.func94, Try.ntmps94
  go_upto_region 1 with fail
  rw [← hwx]
  clear hwx
  by_cases he : lb = lb'
  · subst he
    by_cases ht : tg = tg'
    · subst ht; go_wp2; go_ret; exact ⟨by simp, HB.out⟩
    · have hb : (tg == tg') = false := by simpa using ht
      go_wp2; go_ret; exact ⟨by simp, HB.out⟩
  · have hs : (lb.toList == lb'.toList) = false := by rw [str_eq]; exact decide_eq_false he
    go_wp2; go_ret; exact ⟨by simp [he], HB.out⟩
theorem any_take_succ {α : Type} {l : List α} {j : Nat} {x : α} (f : α → Bool) (h : l[j]? = some x) : (l.take (j + 1)).any f = ((l.take j).any f || f x) := by
  have hj := (List.getElem?_eq_some_iff.1 h).1
  rw [List.take_succ_eq_append_getElem hj, (List.getElem?_eq_some_iff.1 h).2]
  simp
set_option maxRecDepth 100000 in
set_option maxHeartbeats 4000000 in
theorem indexL_any (bp : Nat) (p : Pt) (a : Option Addr) (c : Nat) (l : List Pt) (w : World) (hl : l.length ≤ 9223372036854775806) (hr : Hid (PRow w a l)) (hp : Hid (Blk w bp 64 (ptc p))) :
    Calls Try.prog 91 #[.slice a l.length c, .func (.func 94) #[] #[.pointer (some ⟨bp, 0, none⟩)]] w fun e w' => ∃ r : Int, e = .returned (.int .i64 r) ∧ Hid (decide (0 ≤ r) = thereP l p) ∧ Below w.heap.size w w' := by
  go_enter Try.func91, Try.ntmps91
  go_wp2_with fail
  go_loopw [8] (fun x8 wr => ∃ j : Nat, j ≤ l.length ∧ x8 = .int .i64 (j : Int) ∧ Hid ((l.take j).any (fun q => likeP q p) = false) ∧ Hid (Below w.heap.size w wr)) (fun x8 _ => l.length - (intOf x8).toNat)
  case atStart => exact ⟨0, Nat.zero_le _, rfl, hide_ rfl, hide_ (Below.refl _ _)⟩
  case round =>
    obtain ⟨j, hj, rfl, HA, HB⟩ := hrel
    generalize wr = wq at *
    by_cases hlt : j < l.length
    · have hlt' : (j : Int) < l.length := by omega
      obtain ⟨b, off, rfl, hb, hc⟩ := (hr.out.later HB.out).open (by omega)
      have hx : l[j]? = some (l[j]'hlt) := List.getElem?_eq_getElem hlt
      have hcx := hc j _ hx
      have HX := hide_ hx
      have HP := hide_ (hp.out.later HB.out)
      generalize l[j]'hlt = q at *
      have i0 := hcx 0 (by decide); have i1 := hcx 1 (by decide); have i2 := hcx 2 (by decide)
      simp [ptc] at i0 i1 i2
      clear hc hx hcx
      cases hm : likeP q p with
      | true =>
        have HL : Hid (thereP l p = true) := hide_ (by
          unfold thereP
          rw [List.any_eq_true]
          exact ⟨q, List.mem_of_getElem? HX.out, hm⟩)
        have HCon : Hid (Calls Try.prog 94 #[.agg #[.string q.label, .int .i64 q.tag, .int .i64 q.ty], .pointer (some ⟨bp, 0, none⟩)] wq fun e w' => e = .returned (.bool true) ∧ Below wq.heap.size wq w') := hide_ (by
          have := like_any q p bp wq HP
          rwa [hm] at this)
        clear hm
        go_wp2_with (go_at_call 94; refine HCon.out.mono ?_; rintro e w' ⟨rfl, hB1⟩; (have HB1 := hide_ hB1); clear hB1)
        go_ret
        exact ⟨(j : Int), rfl, hide_ (by rw [HL.out]; simp), below_to HB.out HB1.out⟩
      | false =>
        have HA2 : Hid ((l.take (j + 1)).any (fun q => likeP q p) = false) := hide_ (by rw [any_take_succ _ HX.out, HA.out, hm]; rfl)
        have HCon : Hid (Calls Try.prog 94 #[.agg #[.string q.label, .int .i64 q.tag, .int .i64 q.ty], .pointer (some ⟨bp, 0, none⟩)] wq fun e w' => e = .returned (.bool false) ∧ Below wq.heap.size wq w') := hide_ (by
          have := like_any q p bp wq HP
          rwa [hm] at this)
        clear hm
        go_wp2_with (go_at_call 94; refine HCon.out.mono ?_; rintro e w' ⟨rfl, hB1⟩; (have HB1 := hide_ (below_to HB.out hB1)); clear hB1)
        go_roundw
        case rel => exact ⟨j + 1, by omega, by go_num, HA2, HB1⟩
        case measure => simp [intOf]; omega
    · obtain rfl : j = l.length := by omega
      have HL : Hid (thereP l p = false) := hide_ (by have h := HA.out; rw [List.take_length] at h; exact h)
      go_wp2
      go_ret
      exact ⟨-1, rfl, hide_ (by rw [HL.out]; decide), HB.out⟩
set_option maxRecDepth 100000 in
set_option maxHeartbeats 4000000 in
theorem isThere_any (p : Pt) (a : Option Addr) (c : Nat) (l : List Pt) (n : Nat) (w : World) (hn : Hid (l.length = n)) (hl : n ≤ 9223372036854775806) (hr : Hid (PRow w a l)) :
    Calls Try.prog 84 #[.slice a n c, .agg #[.string p.label, .int .i64 p.tag, .int .i64 p.ty]] w fun e w' => e = .returned (.bool (thereP l p)) ∧ Below w.heap.size w w' := by
  have hmf : ∀ (fn : Fn) (first cap : Array Value) (w : World), (Instr.makeFunc fn first cap).run Try.prog w = .ok (.func fn first cap) w := fun _ _ _ _ => rfl
  obtain rfl := hn.out
  have hB := below1 w (.cells #[.string p.label, .int .i64 p.tag, .int .i64 p.ty] 64)
  have kx := Blk.newA w #[.string p.label, .int .i64 p.tag, .int .i64 p.ty] 64
  obtain ⟨wx, hwx⟩ : ∃ wx, wx = w.alloc (.cells #[.string p.label, .int .i64 p.tag, .int .i64 p.ty] 64) := ⟨_, rfl⟩
  rw [← hwx] at hB kx
  have HCon : Hid (Calls Try.prog 93 #[.slice a l.length c, .func (.func 94) #[] #[.pointer (some ⟨w.heap.size, 0, none⟩)]] wx fun e w' => e = .returned (.bool (thereP l p)) ∧ Below wx.heap.size wx w') := hide_ (by
    have HI := hide_ (indexL_any w.heap.size p a c l wx hl (hide_ (hr.out.later hB)) (hide_ kx))
    clear hwx hB kx hr
    go_enter Try.func93, Try.ntmps93
    go_wp2_with (go_at_call 91; refine HI.out.mono ?_; rintro e w' ⟨r, rfl, HR, hB⟩; (have HB := hide_ hB); clear hB)
    go_ret
    exact ⟨by rw [← HR.out]; rfl, HB.out⟩)
  have HB := hide_ hB
  clear hB kx
  go_enter Try.func84, Try.ntmps84
  go_upto_region 1 with fail
  rw [← hwx]
  clear hwx
  go_wp2_with (go_at_call 93; refine HCon.out.mono ?_; rintro e w' ⟨rfl, hB1⟩; (have HB1 := hide_ hB1); clear hB1)
  go_ret
  exact ⟨rfl, below_to HB.out HB1.out⟩
theorem allP_of {r : Pt → Bool} {ps : List Pt} {m : Int} (h0 : 0 < ps.length) (h1 : ps.length ≤ 64) (h : ∀ j, j < ps.length → okP r ps m j = true) : allP r ps m = true := by
  unfold allP
  rw [Bool.and_eq_true, List.all_eq_true]
  exact ⟨decide_eq_true ⟨h0, h1⟩, fun j hj => h j (List.mem_range.1 hj)⟩
theorem allP_not {r : Pt → Bool} {ps : List Pt} {m : Int} {j : Nat} (hj : j < ps.length) (h : okP r ps m j = false) : allP r ps m = false := by
  unfold allP
  rw [Bool.and_eq_false_iff]
  right
  rw [List.all_eq_false]
  exact ⟨j, List.mem_range.2 hj, by rw [h]; decide⟩
theorem allP_len {r : Pt → Bool} {ps : List Pt} {m : Int} (h : ¬ (0 < ps.length ∧ ps.length ≤ 64)) : allP r ps m = false := by
  unfold allP
  rw [decide_eq_false h]
  rfl
theorem okP_at {r : Pt → Bool} {ps : List Pt} {m : Int} {j : Nat} {p : Pt} (h : ps[j]? = some p) : okP r ps m j = (r p && !thereP (ps.take j) p && inB p.ty m) := by
  have e : ps.getD j pt0 = p := by simp [List.getD, h]
  unfold okP
  rw [e]
end Go.Proofs.Ytdpkmkhflgmioaa

/- types.Check: rightParts, isType. -/
namespace Go.Proofs.Ytdpkmkhflgmioaa
open Go.RowKit
set_option linter.unusedVariables false

set_option maxRecDepth 100000 in
set_option maxHeartbeats 8000000 in
theorem parts8_any (n el : Int) (ps : List Pt) (va : Option Addr) (vc : Nat) (m : Int) (w : World) (hvc : ps.length ≤ vc) (hr : Hid (PRow w va ps)) :
    Calls Try.prog 64 #[.agg #[.int .i64 8, .int .i64 n, .int .i64 el, .slice va ps.length vc], .int .i64 m] w fun e w' => e = .returned (.bool (allP fieldOk ps m)) ∧ Below w.heap.size w w' := by
  have hB := below1 w (.cells #[.int .i64 8, .int .i64 n, .int .i64 el, .slice va ps.length vc] 62)
  have kx := Blk.newA w #[.int .i64 8, .int .i64 n, .int .i64 el, .slice va ps.length vc] 62
  obtain ⟨w0, hw0⟩ : ∃ wx, wx = w.alloc (.cells #[.int .i64 8, .int .i64 n, .int .i64 el, .slice va ps.length vc] 62) := ⟨_, rfl⟩
  rw [← hw0] at hB kx
  have HB0 := hide_ hB
  have KX := hide_ kx
  have hz0 : w.heap.size < w0.heap.size := kx.lt
  have HR0 := hide_ (hr.out.later hB)
  have i0 := kx.cell 0; have i3 := kx.cell 3
  simp at i0 i3
  clear hB kx hr
  go_enter Try.func64, Try.ntmps64
  go_upto_region 1 with fail
  rw [← hw0]
  clear hw0
  by_cases hl0 : ps.length = 0
  · have HV : Hid (allP fieldOk ps m = false) := hide_ (allP_len (by omega))
    have hl0' : ((ps.length : Int) == 0) = true := by simp [hl0]
    go_wp2
    go_ret
    exact ⟨by rw [HV.out]; rfl, HB0.out⟩
  have hl0' : ((ps.length : Int) == 0) = false := by
    have h : ¬ (ps.length : Int) = 0 := by omega
    simpa using h
  by_cases hl1 : 64 < ps.length
  · have HV : Hid (allP fieldOk ps m = false) := hide_ (allP_len (by omega))
    have hl1' : (64 : Int) < ps.length := by omega
    go_wp2
    go_ret
    exact ⟨by rw [HV.out]; rfl, HB0.out⟩
  have hl1' : (ps.length : Int) ≤ 64 := by omega
  go_wp2_with fail
  go_loopw [33] (fun x33 wr => ∃ j : Nat, j ≤ ps.length ∧ x33 = .int .i64 (j : Int) ∧ Hid (∀ i, i < j → okP fieldOk ps m i = true) ∧ Hid (Below w0.heap.size w0 wr)) (fun x33 _ => ps.length - (intOf x33).toNat)
  case atStart => exact ⟨0, Nat.zero_le _, rfl, hide_ (fun i hi => by omega), hide_ (Below.refl _ _)⟩
  case round =>
    obtain ⟨j, hj, rfl, HA, HB⟩ := hrel
    generalize wr = wq at *
    clear i0 i3
    by_cases hlt : j < ps.length
    · have hlt' : (j : Int) < ps.length := by omega
      have hjc : (j : Int) ≤ vc := by omega
      have hRq := HR0.out.later HB.out
      obtain ⟨b, off, rfl, hb, hc⟩ := hRq.open (by omega)
      have hx : ps[j]? = some (ps[j]'hlt) := List.getElem?_eq_getElem hlt
      have hcx := hc j _ hx
      have HX := hide_ hx
      generalize ps[j]'hlt = p at *
      have i0 := hcx 0 (by decide); have i1 := hcx 1 (by decide); have i2 := hcx 2 (by decide)
      simp [ptc] at i0 i1 i2
      clear hc hx hcx
      have HOK := hide_ (okP_at (r := fieldOk) (m := m) HX.out)
      have kp := Blk.newA wq #[.string p.label, .int .i64 p.tag, .int .i64 p.ty] 64
      have hBx := below1 wq (.cells #[.string p.label, .int .i64 p.tag, .int .i64 p.ty] 64)
      obtain ⟨wx, hwx⟩ : ∃ wx, wx = wq.alloc (.cells #[.string p.label, .int .i64 p.tag, .int .i64 p.ty] 64) := ⟨_, rfl⟩
      rw [← hwx] at kp hBx
      have HBx := hide_ (below_to HB.out hBx)
      have KP := hide_ kp
      have HRx := hide_ ((hRq.later hBx).take j)
      have KXx := hide_ (KX.out.later HBx.out)
      clear kp hBx hRq hb
      go_upto_region 12 with fail
      rw [← hwx]
      clear hwx i0 i1 i2
      have HSS : Hid (∀ w', Below wx.heap.size wx w' → Below wx.heap.size wx w' ∧ w'.cell? ⟨wq.heap.size, 0, none⟩ = some (.string p.label) ∧ w'.cell? ⟨wq.heap.size, 1, none⟩ = some (.int .i64 p.tag) ∧ w'.cell? ⟨wq.heap.size, 2, none⟩ = some (.int .i64 p.ty) ∧ w'.cell? ⟨w.heap.size, 3, none⟩ = some (.slice (some ⟨b, off, none⟩) ps.length vc)) := fun w' hB => by
        have h := KP.out.later hB
        exact ⟨hB, h.cell 0, h.cell 1, h.cell 2, (KXx.out.later hB).cell 3⟩
      obtain ⟨b1, hb1⟩ : ∃ x, fieldOk p = x := ⟨_, rfl⟩
      obtain ⟨b2, hb2⟩ : ∃ x, thereP (ps.take j) p = x := ⟨_, rfl⟩
      obtain ⟨b3, hb3⟩ : ∃ x, inB p.ty m = x := ⟨_, rfl⟩
      rw [hb1, hb2, hb3] at HOK
      have HC1 : Hid (∀ w', Calls Try.prog 82 #[.agg #[.string p.label, .int .i64 p.tag, .int .i64 p.ty]] w' fun e w'' => e = .returned (.bool b1) ∧ Below w'.heap.size w' w'') := hide_ (fun w' => by have h := isField_any p w'; rwa [hb1] at h)
      have HC2 : Hid (∀ w', Below wx.heap.size wx w' → Calls Try.prog 84 #[.slice (some ⟨b, off, none⟩) j vc, .agg #[.string p.label, .int .i64 p.tag, .int .i64 p.ty]] w' fun e w'' => e = .returned (.bool b2) ∧ Below w'.heap.size w' w'') := hide_ (fun w' hB => by
        have h := isThere_any p (some ⟨b, off, none⟩) vc (ps.take j) j w' (hide_ (by simp; omega)) (by omega) (hide_ (HRx.out.later hB))
        rwa [hb2] at h)
      have HC3 : Hid (∀ w', Calls Try.prog 67 #[.int .i64 p.ty, .int .i64 m] w' fun e w'' => e = .returned (.bool b3) ∧ w' = w'') := hide_ (fun w' => by have h := isBelow_any p.ty m w'; rwa [hb3] at h)
      clear hb1 hb2 hb3
      cases b1 with
      | false =>
        have HV : Hid (allP fieldOk ps m = false) := hide_ (allP_not hlt (by rw [HOK.out]; rfl))
        have y0 := KP.out.cell 0; have y1 := KP.out.cell 1; have y2 := KP.out.cell 2; have y3 := KXx.out.cell 3
        simp at y0 y1 y2 y3
        go_wp2_with fail
        first
        | (go_region_with (go_at_call 82; refine (HC1.out _).mono ?_; rintro e w2 ⟨rfl, hB2⟩; (have G2 := hide_ (below_to ((Below.refl _ _).drew) hB2)); (clear hB2)))
        | fail
        all_goals
          have HBf := hide_ (below_to HB0.out (below_to HBx.out G2.out))
          clear G2
          go_wp2
          go_ret
          exact ⟨by rw [HV.out]; rfl, HBf.out⟩
      | true =>
      cases b2 with
      | true =>
        have HV : Hid (allP fieldOk ps m = false) := hide_ (allP_not hlt (by rw [HOK.out]; rfl))
        have y0 := KP.out.cell 0; have y1 := KP.out.cell 1; have y2 := KP.out.cell 2; have y3 := KXx.out.cell 3
        simp at y0 y1 y2 y3
        go_wp2_with fail
        first
        | (go_region_with (first
            | (go_at_call 82; refine (HC1.out _).mono ?_; rintro e w2 ⟨rfl, hB2⟩; (obtain ⟨g2, z0, z1, z2, z3⟩ := HSS.out w2 (below_to ((Below.refl _ _).drew) hB2)); (have G2 := hide_ g2); (clear hB2 g2))
            | (go_at_call 84; refine (HC2.out _ G2.out).mono ?_; rintro e w3 ⟨rfl, hB3⟩; (have G3 := hide_ (below_to G2.out hB3)); (clear hB3))))
        | fail
        all_goals
          have HBf := hide_ (below_to HB0.out (below_to HBx.out G3.out))
          clear G2 G3
          go_wp2
          go_ret
          exact ⟨by rw [HV.out]; rfl, HBf.out⟩
      | false =>
      cases b3 with
      | false =>
        have HV : Hid (allP fieldOk ps m = false) := hide_ (allP_not hlt (by rw [HOK.out]; rfl))
        go_wp2_with fail
        go_region_held_law (fun w' => Below wx.heap.size wx w' ∧ w'.cell? ⟨wq.heap.size, 0, none⟩ = some (.string p.label) ∧ w'.cell? ⟨wq.heap.size, 1, none⟩ = some (.int .i64 p.tag) ∧ w'.cell? ⟨wq.heap.size, 2, none⟩ = some (.int .i64 p.ty) ∧ w'.cell? ⟨w.heap.size, 3, none⟩ = some (.slice (some ⟨b, off, none⟩) ps.length vc)) (first | assumption | exact HSS.out _ ((Below.refl _ _).drew) | exact HSS.out _ (Below.refl _ _))
          (first
            | (go_at_call 82; refine (HC1.out _).mono ?_; rintro e w2 ⟨rfl, hB2⟩; (have G2 := HSS.out w2 (below_to (by first | assumption | exact And.left (by assumption)) hB2)); (clear hB2))
            | (go_at_call 84; refine (HC2.out _ (by first | assumption | exact And.left (by assumption))).mono ?_; rintro e w3 ⟨rfl, hB3⟩; (have G3 := HSS.out w3 (below_to (by first | assumption | exact And.left (by assumption)) hB3)); (clear hB3))
            | (go_at_call 67; refine (HC3.out _).mono ?_; rintro e w4 ⟨rfl, rfl⟩))
        have HBf := hide_ (below_to HB0.out (below_to HBx.out G3.1))
        clear G2 G3 HSS HC1 HC2 HC3
        go_wp2
        go_ret
        exact ⟨by rw [HV.out]; rfl, HBf.out⟩
      | true =>
        have HA2 : Hid (∀ i, i < j + 1 → okP fieldOk ps m i = true) := hide_ (fun i hi => by
          rcases Nat.lt_or_ge i j with h | h
          · exact HA.out i h
          · obtain rfl : i = j := by omega
            rw [HOK.out]; rfl)
        go_wp2_with fail
        go_region_held_law (fun w' => Below wx.heap.size wx w' ∧ w'.cell? ⟨wq.heap.size, 0, none⟩ = some (.string p.label) ∧ w'.cell? ⟨wq.heap.size, 1, none⟩ = some (.int .i64 p.tag) ∧ w'.cell? ⟨wq.heap.size, 2, none⟩ = some (.int .i64 p.ty) ∧ w'.cell? ⟨w.heap.size, 3, none⟩ = some (.slice (some ⟨b, off, none⟩) ps.length vc)) (first | assumption | exact HSS.out _ ((Below.refl _ _).drew) | exact HSS.out _ (Below.refl _ _))
          (first
            | (go_at_call 82; refine (HC1.out _).mono ?_; rintro e w2 ⟨rfl, hB2⟩; (have G2 := HSS.out w2 (below_to (by first | assumption | exact And.left (by assumption)) hB2)); (clear hB2))
            | (go_at_call 84; refine (HC2.out _ (by first | assumption | exact And.left (by assumption))).mono ?_; rintro e w3 ⟨rfl, hB3⟩; (have G3 := HSS.out w3 (below_to (by first | assumption | exact And.left (by assumption)) hB3)); (clear hB3))
            | (go_at_call 67; refine (HC3.out _).mono ?_; rintro e w4 ⟨rfl, rfl⟩))
        have HBf := hide_ (below_to HBx.out G3.1)
        clear G2 G3 HSS HC1 HC2 HC3
        go_wp2_with fail
        go_roundw
        case rel => exact ⟨j + 1, by omega, by go_num, HA2, HBf⟩
        case measure => simp [intOf]; omega
    · obtain rfl : j = ps.length := by omega
      have HV : Hid (allP fieldOk ps m = true) := hide_ (allP_of (by omega) (by omega) HA.out)
      go_wp2
      go_ret
      exact ⟨by rw [HV.out]; rfl, below_to HB0.out HB.out⟩
end Go.Proofs.Ytdpkmkhflgmioaa

/- types.Check: rightParts of a union. -/
namespace Go.Proofs.Ytdpkmkhflgmioaa
open Go.RowKit
set_option linter.unusedVariables false

set_option maxRecDepth 100000 in
set_option maxHeartbeats 8000000 in
theorem parts7_any (n el : Int) (ps : List Pt) (va : Option Addr) (vc : Nat) (m : Int) (w : World) (hvc : ps.length ≤ vc) (hr : Hid (PRow w va ps)) :
    Calls Try.prog 64 #[.agg #[.int .i64 7, .int .i64 n, .int .i64 el, .slice va ps.length vc], .int .i64 m] w fun e w' => e = .returned (.bool (allP armOk ps m)) ∧ Below w.heap.size w w' := by
  have hB := below1 w (.cells #[.int .i64 7, .int .i64 n, .int .i64 el, .slice va ps.length vc] 62)
  have kx := Blk.newA w #[.int .i64 7, .int .i64 n, .int .i64 el, .slice va ps.length vc] 62
  obtain ⟨w0, hw0⟩ : ∃ wx, wx = w.alloc (.cells #[.int .i64 7, .int .i64 n, .int .i64 el, .slice va ps.length vc] 62) := ⟨_, rfl⟩
  rw [← hw0] at hB kx
  have HB0 := hide_ hB
  have KX := hide_ kx
  have hz0 : w.heap.size < w0.heap.size := kx.lt
  have HR0 := hide_ (hr.out.later hB)
  have i0 := kx.cell 0; have i3 := kx.cell 3
  simp at i0 i3
  clear hB kx hr
  go_enter Try.func64, Try.ntmps64
  go_upto_region 1 with fail
  rw [← hw0]
  clear hw0
  by_cases hl0 : ps.length = 0
  · have HV : Hid (allP armOk ps m = false) := hide_ (allP_len (by omega))
    have hl0' : ((ps.length : Int) == 0) = true := by simp [hl0]
    go_wp2
    go_ret
    exact ⟨by rw [HV.out]; rfl, HB0.out⟩
  have hl0' : ((ps.length : Int) == 0) = false := by
    have h : ¬ (ps.length : Int) = 0 := by omega
    simpa using h
  by_cases hl1 : 64 < ps.length
  · have HV : Hid (allP armOk ps m = false) := hide_ (allP_len (by omega))
    have hl1' : (64 : Int) < ps.length := by omega
    go_wp2
    go_ret
    exact ⟨by rw [HV.out]; rfl, HB0.out⟩
  have hl1' : (ps.length : Int) ≤ 64 := by omega
  go_wp2_with fail
  go_loopw [33] (fun x33 wr => ∃ j : Nat, j ≤ ps.length ∧ x33 = .int .i64 (j : Int) ∧ Hid (∀ i, i < j → okP armOk ps m i = true) ∧ Hid (Below w0.heap.size w0 wr)) (fun x33 _ => ps.length - (intOf x33).toNat)
  case atStart => exact ⟨0, Nat.zero_le _, rfl, hide_ (fun i hi => by omega), hide_ (Below.refl _ _)⟩
  case round =>
    obtain ⟨j, hj, rfl, HA, HB⟩ := hrel
    generalize wr = wq at *
    clear i0 i3
    by_cases hlt : j < ps.length
    · have hlt' : (j : Int) < ps.length := by omega
      have hjc : (j : Int) ≤ vc := by omega
      have hRq := HR0.out.later HB.out
      obtain ⟨b, off, rfl, hb, hc⟩ := hRq.open (by omega)
      have hx : ps[j]? = some (ps[j]'hlt) := List.getElem?_eq_getElem hlt
      have hcx := hc j _ hx
      have HX := hide_ hx
      generalize ps[j]'hlt = p at *
      have i0 := hcx 0 (by decide); have i1 := hcx 1 (by decide); have i2 := hcx 2 (by decide)
      simp [ptc] at i0 i1 i2
      clear hc hx hcx
      have HOK := hide_ (okP_at (r := armOk) (m := m) HX.out)
      have kp := Blk.newA wq #[.string p.label, .int .i64 p.tag, .int .i64 p.ty] 64
      have hBx := below1 wq (.cells #[.string p.label, .int .i64 p.tag, .int .i64 p.ty] 64)
      obtain ⟨wx, hwx⟩ : ∃ wx, wx = wq.alloc (.cells #[.string p.label, .int .i64 p.tag, .int .i64 p.ty] 64) := ⟨_, rfl⟩
      rw [← hwx] at kp hBx
      have HBx := hide_ (below_to HB.out hBx)
      have KP := hide_ kp
      have HRx := hide_ ((hRq.later hBx).take j)
      have KXx := hide_ (KX.out.later HBx.out)
      clear kp hBx hRq hb
      go_upto_region 12 with fail
      rw [← hwx]
      clear hwx i0 i1 i2
      have HSS : Hid (∀ w', Below wx.heap.size wx w' → Below wx.heap.size wx w' ∧ w'.cell? ⟨wq.heap.size, 0, none⟩ = some (.string p.label) ∧ w'.cell? ⟨wq.heap.size, 1, none⟩ = some (.int .i64 p.tag) ∧ w'.cell? ⟨wq.heap.size, 2, none⟩ = some (.int .i64 p.ty) ∧ w'.cell? ⟨w.heap.size, 3, none⟩ = some (.slice (some ⟨b, off, none⟩) ps.length vc)) := fun w' hB => by
        have h := KP.out.later hB
        exact ⟨hB, h.cell 0, h.cell 1, h.cell 2, (KXx.out.later hB).cell 3⟩
      obtain ⟨b1, hb1⟩ : ∃ x, armOk p = x := ⟨_, rfl⟩
      obtain ⟨b2, hb2⟩ : ∃ x, thereP (ps.take j) p = x := ⟨_, rfl⟩
      obtain ⟨b3, hb3⟩ : ∃ x, inB p.ty m = x := ⟨_, rfl⟩
      rw [hb1, hb2, hb3] at HOK
      have HC1 : Hid (∀ w', Calls Try.prog 83 #[.agg #[.string p.label, .int .i64 p.tag, .int .i64 p.ty]] w' fun e w'' => e = .returned (.bool b1) ∧ Below w'.heap.size w' w'') := hide_ (fun w' => by have h := isArm_any p w'; rwa [hb1] at h)
      have HC2 : Hid (∀ w', Below wx.heap.size wx w' → Calls Try.prog 84 #[.slice (some ⟨b, off, none⟩) j vc, .agg #[.string p.label, .int .i64 p.tag, .int .i64 p.ty]] w' fun e w'' => e = .returned (.bool b2) ∧ Below w'.heap.size w' w'') := hide_ (fun w' hB => by
        have h := isThere_any p (some ⟨b, off, none⟩) vc (ps.take j) j w' (hide_ (by simp; omega)) (by omega) (hide_ (HRx.out.later hB))
        rwa [hb2] at h)
      have HC3 : Hid (∀ w', Calls Try.prog 67 #[.int .i64 p.ty, .int .i64 m] w' fun e w'' => e = .returned (.bool b3) ∧ w' = w'') := hide_ (fun w' => by have h := isBelow_any p.ty m w'; rwa [hb3] at h)
      clear hb1 hb2 hb3
      cases b1 with
      | false =>
        have HV : Hid (allP armOk ps m = false) := hide_ (allP_not hlt (by rw [HOK.out]; rfl))
        have y0 := KP.out.cell 0; have y1 := KP.out.cell 1; have y2 := KP.out.cell 2; have y3 := KXx.out.cell 3
        simp at y0 y1 y2 y3
        go_wp2_with fail
        first
        | (go_region_with (go_at_call 83; refine (HC1.out _).mono ?_; rintro e w2 ⟨rfl, hB2⟩; (have G2 := hide_ (below_to ((Below.refl _ _).drew) hB2)); (clear hB2)))
        | fail
        all_goals
          have HBf := hide_ (below_to HB0.out (below_to HBx.out G2.out))
          clear G2
          go_wp2
          go_ret
          exact ⟨by rw [HV.out]; rfl, HBf.out⟩
      | true =>
      cases b2 with
      | true =>
        have HV : Hid (allP armOk ps m = false) := hide_ (allP_not hlt (by rw [HOK.out]; rfl))
        have y0 := KP.out.cell 0; have y1 := KP.out.cell 1; have y2 := KP.out.cell 2; have y3 := KXx.out.cell 3
        simp at y0 y1 y2 y3
        go_wp2_with fail
        first
        | (go_region_with (first
            | (go_at_call 83; refine (HC1.out _).mono ?_; rintro e w2 ⟨rfl, hB2⟩; (obtain ⟨g2, z0, z1, z2, z3⟩ := HSS.out w2 (below_to ((Below.refl _ _).drew) hB2)); (have G2 := hide_ g2); (clear hB2 g2))
            | (go_at_call 84; refine (HC2.out _ G2.out).mono ?_; rintro e w3 ⟨rfl, hB3⟩; (have G3 := hide_ (below_to G2.out hB3)); (clear hB3))))
        | fail
        all_goals
          have HBf := hide_ (below_to HB0.out (below_to HBx.out G3.out))
          clear G2 G3
          go_wp2
          go_ret
          exact ⟨by rw [HV.out]; rfl, HBf.out⟩
      | false =>
      cases b3 with
      | false =>
        have HV : Hid (allP armOk ps m = false) := hide_ (allP_not hlt (by rw [HOK.out]; rfl))
        go_wp2_with fail
        go_region_held_law (fun w' => Below wx.heap.size wx w' ∧ w'.cell? ⟨wq.heap.size, 0, none⟩ = some (.string p.label) ∧ w'.cell? ⟨wq.heap.size, 1, none⟩ = some (.int .i64 p.tag) ∧ w'.cell? ⟨wq.heap.size, 2, none⟩ = some (.int .i64 p.ty) ∧ w'.cell? ⟨w.heap.size, 3, none⟩ = some (.slice (some ⟨b, off, none⟩) ps.length vc)) (first | assumption | exact HSS.out _ ((Below.refl _ _).drew) | exact HSS.out _ (Below.refl _ _))
          (first
            | (go_at_call 83; refine (HC1.out _).mono ?_; rintro e w2 ⟨rfl, hB2⟩; (have G2 := HSS.out w2 (below_to (by first | assumption | exact And.left (by assumption)) hB2)); (clear hB2))
            | (go_at_call 84; refine (HC2.out _ (by first | assumption | exact And.left (by assumption))).mono ?_; rintro e w3 ⟨rfl, hB3⟩; (have G3 := HSS.out w3 (below_to (by first | assumption | exact And.left (by assumption)) hB3)); (clear hB3))
            | (go_at_call 67; refine (HC3.out _).mono ?_; rintro e w4 ⟨rfl, rfl⟩))
        have HBf := hide_ (below_to HB0.out (below_to HBx.out G3.1))
        clear G2 G3 HSS HC1 HC2 HC3
        go_wp2
        go_ret
        exact ⟨by rw [HV.out]; rfl, HBf.out⟩
      | true =>
        have HA2 : Hid (∀ i, i < j + 1 → okP armOk ps m i = true) := hide_ (fun i hi => by
          rcases Nat.lt_or_ge i j with h | h
          · exact HA.out i h
          · obtain rfl : i = j := by omega
            rw [HOK.out]; rfl)
        go_wp2_with fail
        go_region_held_law (fun w' => Below wx.heap.size wx w' ∧ w'.cell? ⟨wq.heap.size, 0, none⟩ = some (.string p.label) ∧ w'.cell? ⟨wq.heap.size, 1, none⟩ = some (.int .i64 p.tag) ∧ w'.cell? ⟨wq.heap.size, 2, none⟩ = some (.int .i64 p.ty) ∧ w'.cell? ⟨w.heap.size, 3, none⟩ = some (.slice (some ⟨b, off, none⟩) ps.length vc)) (first | assumption | exact HSS.out _ ((Below.refl _ _).drew) | exact HSS.out _ (Below.refl _ _))
          (first
            | (go_at_call 83; refine (HC1.out _).mono ?_; rintro e w2 ⟨rfl, hB2⟩; (have G2 := HSS.out w2 (below_to (by first | assumption | exact And.left (by assumption)) hB2)); (clear hB2))
            | (go_at_call 84; refine (HC2.out _ (by first | assumption | exact And.left (by assumption))).mono ?_; rintro e w3 ⟨rfl, hB3⟩; (have G3 := HSS.out w3 (below_to (by first | assumption | exact And.left (by assumption)) hB3)); (clear hB3))
            | (go_at_call 67; refine (HC3.out _).mono ?_; rintro e w4 ⟨rfl, rfl⟩))
        have HBf := hide_ (below_to HBx.out G3.1)
        clear G2 G3 HSS HC1 HC2 HC3
        go_wp2_with fail
        go_roundw
        case rel => exact ⟨j + 1, by omega, by go_num, HA2, HBf⟩
        case measure => simp [intOf]; omega
    · obtain rfl : j = ps.length := by omega
      have HV : Hid (allP armOk ps m = true) := hide_ (allP_of (by omega) (by omega) HA.out)
      go_wp2
      go_ret
      exact ⟨by rw [HV.out]; rfl, below_to HB0.out HB.out⟩
end Go.Proofs.Ytdpkmkhflgmioaa

/- types.Check: isType, Find, isRoot. -/
namespace Go.Proofs.Ytdpkmkhflgmioaa
open Go.RowKit
set_option linter.unusedVariables false

set_option maxRecDepth 100000 in
set_option maxHeartbeats 4000000 in
theorem partsO_any (k n el : Int) (ps : List Pt) (va : Option Addr) (vc : Nat) (m : Int) (w : World) (h8 : ¬ k = 8) (h7 : ¬ k = 7) :
    Calls Try.prog 64 #[.agg #[.int .i64 k, .int .i64 n, .int .i64 el, .slice va ps.length vc], .int .i64 m] w fun e w' => e = .returned (.bool (decide (ps.length = 0))) ∧ Below w.heap.size w w' := by
  have hB := below1 w (.cells #[.int .i64 k, .int .i64 n, .int .i64 el, .slice va ps.length vc] 62)
  have kx := Blk.newA w #[.int .i64 k, .int .i64 n, .int .i64 el, .slice va ps.length vc] 62
  obtain ⟨w0, hw0⟩ : ∃ wx, wx = w.alloc (.cells #[.int .i64 k, .int .i64 n, .int .i64 el, .slice va ps.length vc] 62) := ⟨_, rfl⟩
  rw [← hw0] at hB kx
  have HB0 := hide_ hB
  have i0 := kx.cell 0; have i3 := kx.cell 3
  simp at i0 i3
  clear hB kx
  have h8' : (k == 8) = false := by simpa using h8
  have h7' : (k == 7) = false := by simpa using h7
  have HV : Hid (((ps.length : Int) == 0) = decide (ps.length = 0)) := hide_ (by
    by_cases h : ps.length = 0
    · simp [h]
    · have h2 : ((ps.length : Int) == 0) = false := by
        have h : ¬ (ps.length : Int) = 0 := by omega
        simpa using h
      rw [h2, decide_eq_false h])
  go_enter Try.func64, Try.ntmps64
  go_upto_region 1 with fail
  rw [← hw0]
  clear hw0
  go_wp2
  go_ret
  exact ⟨by rw [← HV.out]; rfl, HB0.out⟩
theorem rightParts_any (t : Ty) (va : Option Addr) (vc : Nat) (m : Int) (w : World) (hvc : t.ps.length ≤ vc) (hr : Hid (PRow w va t.ps)) :
    Calls Try.prog 64 #[.agg #[.int .i64 t.k, .int .i64 t.n, .int .i64 t.e, .slice va t.ps.length vc], .int .i64 m] w fun e w' => e = .returned (.bool (partsOk t.k t.ps m)) ∧ Below w.heap.size w w' := by
  obtain ⟨k, n, el, ps⟩ := t
  unfold partsOk
  by_cases h8 : k = 8
  · subst h8
    rw [if_pos rfl]
    exact parts8_any n el ps va vc m w hvc hr
  · rw [if_neg h8]
    by_cases h7 : k = 7
    · subst h7
      rw [if_pos rfl]
      exact parts7_any n el ps va vc m w hvc hr
    · rw [if_neg h7]
      exact partsO_any k n el ps va vc m w h8 h7
set_option maxRecDepth 100000 in
set_option maxHeartbeats 4000000 in
theorem isType_any (t : Ty) (va : Option Addr) (vc : Nat) (m : Int) (w : World) (hvc : t.ps.length ≤ vc) (hr : Hid (PRow w va t.ps)) :
    Calls Try.prog 38 #[.agg #[.int .i64 t.k, .int .i64 t.n, .int .i64 t.e, .slice va t.ps.length vc], .int .i64 m] w fun e w' => e = .returned (.bool (tyOk t m)) ∧ Below w.heap.size w w' := by
  obtain ⟨b1, hb1⟩ : ∃ x, nOk t.k t.n = x := ⟨_, rfl⟩
  obtain ⟨b2, hb2⟩ : ∃ x, elemOk t.k t.e m = x := ⟨_, rfl⟩
  obtain ⟨b3, hb3⟩ : ∃ x, partsOk t.k t.ps m = x := ⟨_, rfl⟩
  have hV : tyOk t m = (b1 && b2 && b3) := by unfold tyOk; rw [hb1, hb2, hb3]
  rw [hV]
  have hB := below1 w (.cells #[.int .i64 t.k, .int .i64 t.n, .int .i64 t.e, .slice va t.ps.length vc] 62)
  have kx := Blk.newA w #[.int .i64 t.k, .int .i64 t.n, .int .i64 t.e, .slice va t.ps.length vc] 62
  obtain ⟨w0, hw0⟩ : ∃ wx, wx = w.alloc (.cells #[.int .i64 t.k, .int .i64 t.n, .int .i64 t.e, .slice va t.ps.length vc] 62) := ⟨_, rfl⟩
  rw [← hw0] at hB kx
  have HB0 := hide_ hB
  have KX := hide_ kx
  have HR0 := hide_ (hr.out.later hB)
  have HC1 : Hid (∀ w', Calls Try.prog 62 #[.agg #[.int .i64 t.k, .int .i64 t.n, .int .i64 t.e, .slice va t.ps.length vc]] w' fun e w'' => e = .returned (.bool b1) ∧ Below w'.heap.size w' w'') := hide_ (fun w' => by have h := rightNumber_any t (.slice va t.ps.length vc) w'; rwa [hb1] at h)
  have HC2 : Hid (∀ w', Calls Try.prog 63 #[.agg #[.int .i64 t.k, .int .i64 t.n, .int .i64 t.e, .slice va t.ps.length vc], .int .i64 m] w' fun e w'' => e = .returned (.bool b2) ∧ Below w'.heap.size w' w'') := hide_ (fun w' => by have h := rightElem_any t (.slice va t.ps.length vc) m w'; rwa [hb2] at h)
  have HC3 : Hid (∀ w', Below w0.heap.size w0 w' → Calls Try.prog 64 #[.agg #[.int .i64 t.k, .int .i64 t.n, .int .i64 t.e, .slice va t.ps.length vc], .int .i64 m] w' fun e w'' => e = .returned (.bool b3) ∧ Below w'.heap.size w' w'') := hide_ (fun w' hB => by have h := rightParts_any t va vc m w' hvc (hide_ (HR0.out.later hB)); rwa [hb3] at h)
  obtain ⟨k, n, el, ps⟩ := t
  simp only at *
  have i0 := kx.cell 0; have i1 := kx.cell 1; have i2 := kx.cell 2; have i3 := kx.cell 3
  simp at i0 i1 i2 i3
  clear hB kx hb1 hb2 hb3 hV hr
  go_enter Try.func38, Try.ntmps38
  go_upto_region 1 with fail
  rw [← hw0]
  clear hw0
  go_wp2_with fail
  refine (HC1.out _).mono ?_; rintro e w1 ⟨rfl, hB1⟩
  have HB1 := hide_ hB1
  have K1 := hide_ (KX.out.later hB1)
  have j0 := K1.out.cell 0; have j1 := K1.out.cell 1; have j2 := K1.out.cell 2; have j3 := K1.out.cell 3
  simp at j0 j1 j2 j3
  clear hB1 i0 i1 i2 i3
  cases b1 with
  | false =>
    go_wp2
    go_ret
    exact ⟨rfl, below_to HB0.out HB1.out⟩
  | true =>
  go_wp2_with fail
  refine (HC2.out _).mono ?_; rintro e w2 ⟨rfl, hB2⟩
  have HB2 := hide_ (below_to HB1.out hB2)
  have K2 := hide_ (K1.out.later hB2)
  have i0 := K2.out.cell 0; have i1 := K2.out.cell 1; have i2 := K2.out.cell 2; have i3 := K2.out.cell 3
  simp at i0 i1 i2 i3
  clear hB2 j0 j1 j2 j3
  cases b2 with
  | false =>
    go_wp2
    go_ret
    exact ⟨rfl, below_to HB0.out HB2.out⟩
  | true =>
  go_wp2_with fail
  refine (HC3.out _ HB2.out).mono ?_; rintro e w3 ⟨rfl, hB3⟩
  have HB3 := hide_ (below_to HB2.out hB3)
  clear hB3
  go_wp2
  go_ret
  exact ⟨by cases b3 <;> rfl, below_to HB0.out HB3.out⟩
theorem findR_at {R : List Rt} {nm : ByteArray} {i : Nat} {r : Rt} (h : R[i]? = some r) (hn : r.name = nm) (hb : ∀ (j : Nat) (q : Rt), j < i → R[j]? = some q → ¬ q.name = nm) : findR R nm = i := by
  have hi := (List.getElem?_eq_some_iff.1 h).1
  unfold findR
  rw [List.findIdx_eq hi]
  refine ⟨?_, fun j hj => ?_⟩
  · rw [(List.getElem?_eq_some_iff.1 h).2]
    exact decide_eq_true hn
  · exact decide_eq_false (hb j _ hj (List.getElem?_eq_getElem (by omega)))
theorem findR_none {R : List Rt} {nm : ByteArray} (hb : ∀ (j : Nat) (q : Rt), R[j]? = some q → ¬ q.name = nm) : findR R nm = R.length := by
  unfold findR
  rw [List.findIdx_eq_length]
  intro x hx
  obtain ⟨j, hj⟩ := List.getElem?_of_mem hx
  exact decide_eq_false (hb j x hj)
def fndN (R : List Rt) (nm : ByteArray) : Int := if findR R nm = R.length then 0 else findR R nm
def fndE (R : List Rt) (nm : ByteArray) : Int := if findR R nm = R.length then 93 else 0
set_option maxRecDepth 100000 in
set_option maxHeartbeats 4000000 in
theorem find_any (vt : Value) (a : Option Addr) (c : Nat) (R : List Rt) (s : ByteArray) (w : World) (hD : R.length ≤ 9223372036854775806) (r : Hid (RRow w a R)) :
    Calls Try.prog 68 #[.agg #[vt, .slice a R.length c], .string s] w fun e w' => e = .returned (.tuple #[.int .i64 (fndN R s), .int .i64 (fndE R s)]) ∧ Below w.heap.size w w' := by
  have hB := below1 w (.cells #[vt, .slice a R.length c] 25)
  have kx := Blk.newA w #[vt, .slice a R.length c] 25
  obtain ⟨w0, hw0⟩ : ∃ wx, wx = w.alloc (.cells #[vt, .slice a R.length c] 25) := ⟨_, rfl⟩
  rw [← hw0] at hB kx
  have HB0 := hide_ hB
  have i1 := kx.cell 1
  simp at i1
  clear hB kx
  go_enter Try.func68, Try.ntmps68
  go_upto_region 1 with fail
  rw [← hw0]
  clear hw0
  go_wp2_with fail
  go_loopw [11] (fun x11 wr => ∃ i : Nat, i ≤ R.length ∧ x11 = .int .i64 (i : Int) ∧ Hid (∀ (j : Nat) (q : Rt), j < i → R[j]? = some q → ¬ q.name = s) ∧ Hid (Below w.heap.size w wr)) (fun x11 _ => R.length - (intOf x11).toNat)
  case atStart => exact ⟨0, Nat.zero_le _, rfl, hide_ (fun j q hj => by omega), HB0⟩
  case round =>
    obtain ⟨i, hi, rfl, HN, HB⟩ := hrel
    generalize wr = wq at *
    clear HB0 i1
    by_cases hlt : i < R.length
    · have hlt' : (i : Int) < R.length := by omega
      obtain ⟨b, o, rfl, hb, hc⟩ := (r.out.later HB.out).open (by omega)
      have hx : R[i]? = some (R[i]'hlt) := List.getElem?_eq_getElem hlt
      have hcx := hc i _ hx
      have HX := hide_ hx
      generalize R[i]'hlt = d at *
      have i0 := hcx 0 (by decide); have i1 := hcx 1 (by decide)
      simp [rtc] at i0 i1
      clear hc hx hcx
      have kx := Blk.newA wq #[.string d.name, .int .i64 d.ty] 70
      have hBx := below1 wq (.cells #[.string d.name, .int .i64 d.ty] 70)
      obtain ⟨wx, hwx⟩ : ∃ wx, wx = wq.alloc (.cells #[.string d.name, .int .i64 d.ty] 70) := ⟨_, rfl⟩
      rw [← hwx] at kx hBx
      have HBx := hide_ (below_to HB.out hBx)
      have j0 := kx.cell 0
      simp at j0
      clear kx hBx
      go_upto_region 4 with fail
      rw [← hwx]
      clear hwx i0 i1
      by_cases he : d.name = s
      · have hs : (d.name.toList == s.toList) = true := by rw [he]; simp
        have HV : Hid (findR R s = i) := hide_ (findR_at HX.out he HN.out)
        clear he
        go_wp2
        go_ret2
        exact ⟨by rw [show fndN R s = i by unfold fndN; rw [HV.out, if_neg (by omega)], show fndE R s = 0 by unfold fndE; rw [HV.out, if_neg (by omega)]]; rfl, HBx.out⟩
      · have hs : (d.name.toList == s.toList) = false := by rw [str_eq]; exact decide_eq_false he
        have HN2 : Hid (∀ (j : Nat) (q : Rt), j < i + 1 → R[j]? = some q → ¬ q.name = s) := hide_ (fun j q hj hq => by
          rcases Nat.lt_or_ge j i with h | h
          · exact HN.out j q h hq
          · obtain rfl : j = i := by omega
            rw [HX.out] at hq
            injection hq with hq
            subst hq
            exact he)
        clear he
        go_wp2_with fail
        go_roundw
        case rel => exact ⟨i + 1, by omega, by go_num, HN2, HBx⟩
        case measure => simp [intOf]; omega
    · obtain rfl : i = R.length := by omega
      have HV : Hid (findR R s = R.length) := hide_ (findR_none (fun j q hq => HN.out j q (List.getElem?_eq_some_iff.1 hq).1 hq))
      go_wp2
      go_ret2
      exact ⟨by rw [show fndN R s = 0 by unfold fndN; rw [HV.out, if_pos rfl], show fndE R s = 93 by unfold fndE; rw [HV.out, if_pos rfl]]; rfl, HB.out⟩
set_option maxRecDepth 100000 in
set_option maxHeartbeats 4000000 in
theorem isRoot_any (av : Option Addr) (n : Nat) (cv : Nat) (a : Option Addr) (c : Nat) (R : List Rt) (i : Nat) (w : World) (hn : n ≤ 9223372036854775806) (hD : R.length ≤ 9223372036854775806) (hi : i < R.length) (r : Hid (RRow w a R)) :
    Calls Try.prog 40 #[.agg #[.slice av n cv, .slice a R.length c], .int .i64 (i : Int)] w fun e w' => e = .returned (.bool (rootOk n R i)) ∧ Below w.heap.size w w' := by
  have hi' : (i : Int) < R.length := by omega
  have hx : R[i]? = some (R[i]'hi) := List.getElem?_eq_getElem hi
  have hgd : R.getD i rt0 = R[i]'hi := by simp [List.getD, hi]
  obtain ⟨b, o, rfl, hb, hc⟩ := r.out.open (by omega)
  have hB := below1 w (.cells #[.slice av n cv, .slice (some ⟨b, o, none⟩) R.length c] 25)
  have kx := Blk.newA w #[.slice av n cv, .slice (some ⟨b, o, none⟩) R.length c] 25
  obtain ⟨w0, hw0⟩ : ∃ wx, wx = w.alloc (.cells #[.slice av n cv, .slice (some ⟨b, o, none⟩) R.length c] 25) := ⟨_, rfl⟩
  rw [← hw0] at hB kx
  have hcx := fun j (hj : j < 2) => (hB.cell (p := ⟨b, o + i * 2 + j, none⟩) hb).trans (hc i _ hx j hj)
  have hlen : findR R (R[i]'hi).name < R.length := by
    unfold findR
    exact List.findIdx_lt_length_of_exists ⟨_, List.getElem_mem hi, by simp⟩
  have hV : rootOk n R i = (decide (i < 256) && isName (R[i]'hi).name && inB (R[i]'hi).ty n && decide (findR R (R[i]'hi).name = i)) := by unfold rootOk; rw [hgd]
  have hNm : fndN R (R[i]'hi).name = (findR R (R[i]'hi).name : Int) := by unfold fndN; rw [if_neg (by omega)]
  generalize R[i]'hi = d at *
  obtain ⟨nm, ty⟩ := d
  simp only at *
  have i0 := hcx 0 (by decide); have i1 := hcx 1 (by decide)
  have i2 := kx.cell 1
  simp [rtc] at i0 i1 i2
  have kr := Blk.newA w0 #[.string nm, .int .i64 ty] 70
  have hBx := below1 w0 (.cells #[.string nm, .int .i64 ty] 70)
  obtain ⟨w1, hw1⟩ : ∃ wx, wx = w0.alloc (.cells #[.string nm, .int .i64 ty] 70) := ⟨_, rfl⟩
  rw [← hw1] at kr hBx
  have HB1 := hide_ (below_to hB hBx)
  have k1 := kx.later hBx
  have HR1 := hide_ (r.out.later HB1.out)
  have j0 := kr.cell 0; have j1 := kr.cell 1; have l0 := k1.cell 0; have l1 := k1.cell 1
  simp at j0 j1 l0 l1
  have HF := hide_ (find_any (.slice av n cv) (some ⟨b, o, none⟩) c R nm w1 hD HR1)
  rw [hNm] at HF
  obtain ⟨fi, hfi⟩ : ∃ fi, findR R nm = fi := ⟨_, rfl⟩
  rw [hfi] at HF hlen
  obtain ⟨b2, hb2⟩ : ∃ x, isName nm = x := ⟨_, rfl⟩
  obtain ⟨b3, hb3⟩ : ∃ x, inB ty n = x := ⟨_, rfl⟩
  rw [hfi, hb2, hb3] at hV
  have HV := hide_ hV
  have HC2 : Hid (∀ w', Calls Try.prog 66 #[.string nm] w' fun e w'' => e = .returned (.bool b2) ∧ w' = w'') := hide_ (fun w' => by have h := name_any nm w'; rwa [hb2] at h)
  have HC3 : Hid (∀ w', Calls Try.prog 67 #[.int .i64 ty, .int .i64 (n : Int)] w' fun e w'' => e = .returned (.bool b3) ∧ w' = w'') := hide_ (fun w' => by have h := isBelow_any ty n w'; rwa [hb3] at h)
  clear hV hNm hgd hx hc hcx kx kr k1 hB hBx hfi hb2 hb3 r
  go_enter Try.func40, Try.ntmps40
  go_upto_region 1 with fail
  rw [← hw0]
  clear hw0
  go_upto_region 2 with fail
  rw [← hw1]
  clear hw1 i0 i1 i2
  by_cases h256 : i < 256
  · have h256' : (i : Int) < 256 := by omega
    rw [decide_eq_true h256] at HV
    cases b2 with
    | false =>
      go_wp2_with (first | (go_at_call 66; refine (HC2.out _).mono ?_; rintro e w' ⟨rfl, rfl⟩))
      go_ret
      exact ⟨by rw [HV.out]; rfl, HB1.out⟩
    | true =>
    cases b3 with
    | false =>
      go_wp2_with (first | (go_at_call 66; refine (HC2.out _).mono ?_; rintro e w' ⟨rfl, rfl⟩) | (go_at_call 67; refine (HC3.out _).mono ?_; rintro e w' ⟨rfl, rfl⟩))
      go_ret
      exact ⟨by rw [HV.out]; rfl, HB1.out⟩
    | true =>
      go_wp2_with (first | (go_at_call 66; refine (HC2.out _).mono ?_; rintro e w' ⟨rfl, rfl⟩) | (go_at_call 67; refine (HC3.out _).mono ?_; rintro e w' ⟨rfl, rfl⟩) | (go_at_call 68; refine HF.out.mono ?_; rintro e w' ⟨rfl, hB2⟩; (have HB2 := hide_ hB2); clear hB2))
      go_ret
      refine ⟨?_, below_to HB1.out HB2.out⟩
      rw [HV.out]
      by_cases hq : fi = i
      · subst hq; simp
      · have hq' : ((fi : Int) == (i : Int)) = false := by
          have : ¬ (fi : Int) = (i : Int) := by omega
          simpa using this
        rw [decide_eq_false hq]
        simp [hq']
  · have h256' : (256 : Int) ≤ i := by omega
    rw [decide_eq_false h256] at HV
    go_wp2
    go_ret
    exact ⟨by rw [HV.out]; rfl, HB1.out⟩
end Go.Proofs.Ytdpkmkhflgmioaa

/- Nodes of values; arms. -/
namespace Go.Proofs.Ytdpkmkhflgmioaa
open Go.RowKit
set_option linter.unusedVariables false

/-! ### Nodes of values -/
structure Nv where
  k : Int
  n : Int
  kids : Int
def nv0 : Nv := ⟨0, 0, 0⟩
def nvc (x : Nv) : List Value := [.int .i64 x.k, .int .u64 x.n, .int .i64 x.kids]
theorem nvc_len (x : Nv) : (nvc x).length = 3 := rfl
abbrev VRow (w : World) (a : Option Addr) (l : List Nv) : Prop := GRow 3 nvc w a l
def NvOk (x : Nv) : Prop := 0 ≤ x.n ∧ x.n < 18446744073709551616
def armI (ps : List Pt) (n : Int) : Option Nat := ps.findIdx? (fun p => decide (p.tag = n))
def armZ (ps : List Pt) (n : Int) : Int := match armI ps n with | some i => (i : Int) | none => -1
theorem armI_at {ps : List Pt} {n : Int} {j : Nat} {p : Pt} (h : ps[j]? = some p) (hn : p.tag = n) (hb : ∀ (i : Nat) (q : Pt), i < j → ps[i]? = some q → ¬ q.tag = n) : armI ps n = some j := by
  have hj := (List.getElem?_eq_some_iff.1 h).1
  unfold armI
  rw [List.findIdx?_eq_some_iff_getElem]
  refine ⟨hj, ?_, fun i hi => ?_⟩
  · rw [(List.getElem?_eq_some_iff.1 h).2]; exact decide_eq_true hn
  · have := hb i _ hi (List.getElem?_eq_getElem (by omega))
    simpa using this
theorem armI_none {ps : List Pt} {n : Int} (hb : ∀ (i : Nat) (q : Pt), ps[i]? = some q → ¬ q.tag = n) : armI ps n = none := by
  unfold armI
  rw [List.findIdx?_eq_none_iff]
  intro x hx
  obtain ⟨j, hj⟩ := List.getElem?_of_mem hx
  exact decide_eq_false (hb j x hj)
theorem armI_some {ps : List Pt} {n : Int} {j : Nat} (h : armI ps n = some j) : ∃ p, ps[j]? = some p ∧ p.tag = n := by
  unfold armI at h
  rw [List.findIdx?_eq_some_iff_getElem] at h
  obtain ⟨hj, h1, -⟩ := h
  exact ⟨_, List.getElem?_eq_getElem hj, of_decide_eq_true h1⟩
theorem tyOk_kind {t : Ty} {i : Int} (h : tyOk t i = true) : t.k = 1 ∨ t.k = 2 ∨ t.k = 3 ∨ t.k = 4 ∨ t.k = 5 ∨ t.k = 6 ∨ t.k = 7 ∨ t.k = 8 := by
  have h1 := (tyOk_parts h).1
  simp only [nOk] at h1
  have h2 := of_decide_eq_true h1
  omega
theorem tyOk_tags {n el : Int} {ps : List Pt} {i : Int} (h : tyOk ⟨7, n, el, ps⟩ i = true) : ∀ p ∈ ps, 0 ≤ p.tag ∧ p.tag ≤ 255 := by
  have h1 := (tyOk_parts h).2.2
  simp only [partsOk] at h1
  intro p hp
  obtain ⟨j, hj⟩ := List.getElem?_of_mem hp
  have h2 := (allP_at (by simpa using h1) hj).1
  simp only [armOk] at h2
  exact (of_decide_eq_true h2).2
end Go.Proofs.Ytdpkmkhflgmioaa

/- typing, plain: which nodes fit, the kids' types, the walk through a value; the table of kinds. -/
namespace Go.Proofs.Ytdpkmkhflgmioaa
open Go.RowKit
set_option linter.unusedVariables false

def nkT : List Int := [0, 1, 2, 1, 3, 3, 5, 6, 4]
/-- The kind of a type's nodes. -/
def nkind (k : Int) : Int := nkT.getD k.toNat 0
/-- The table of kinds lies in block 0. -/
structure Tab (w : World) : Prop where
  lt : 0 < w.heap.size
  is : ∀ i, i < 9 → w.cell? ⟨0, i, none⟩ = some (.int .i64 (nkT.getD i 0))
theorem Tab.later {w w' : World} (h : Tab w) (hB : Below w.heap.size w w') : Tab w' :=
  ⟨Nat.lt_of_lt_of_le h.lt hB.size, fun i hi => (hB.cell (p := ⟨0, i, none⟩) h.lt).trans (h.is i hi)⟩
theorem Tab.upd {w w' : World} {S : Nat → Prop} (h : Tab w) (hu : Upd S w w') (hs : ¬ S 0) : Tab w' :=
  ⟨Nat.lt_of_lt_of_le h.lt hu.size, fun i hi => by rw [World.cell?_of_block (w := w) (hu.block 0 h.lt hs)]; exact h.is i hi⟩
/-- The greatest number of so many bytes. -/
def gr (n : Int) : Int := 2 ^ (8 * n).toNat - 1
/-- Why a node does not fit. -/
def misP (t : Ty) (x : Nv) : Int :=
  if x.k ≠ nkind t.k then 110 else
  if t.k = 1 then (if gr t.n < x.n then 111 else 0) else
  if t.k = 4 then (if x.kids < t.n ∨ t.n < x.kids then 112 else 0) else
  if t.k = 5 then (if x.kids < 0 ∨ t.n < x.kids then 112 else 0) else
  if t.k = 8 then (if x.kids < t.ps.length ∨ t.ps.length < x.kids then 112 else 0) else
  if t.k = 7 then (if (armI t.ps x.n).isSome then 0 else 113) else 0
/-- The types of the kids, in order. -/
def kidsT (t : Ty) (x : Nv) : List Int :=
  if t.k = 7 then [(t.ps.getD ((armI t.ps x.n).getD 0) pt0).ty] else
  if t.k = 8 then t.ps.map (·.ty) else List.replicate x.kids.toNat t.e
/-- The walk: the types that are still to come (the next one first), the nodes, the place: the types, the error, its place. -/
def wkT (T : List Ty) : List Int → List Nv → Nat → List Int × Int × Int
  | t :: st, x :: v, i =>
    if misP (T.getD t.toNat ty0) x ≠ 0 then ([], misP (T.getD t.toNat ty0) x, (i : Int)) else
    let r := wkT T (kidsT (T.getD t.toNat ty0) x ++ st) v (i + 1)
    if r.2.1 ≠ 0 then r else (t :: r.1, 0, 0)
  | _, _, _ => ([], 0, 0)
/-! ### value.Check -/
def mostN (k : Int) : Int := if k = 1 then 18446744073709551615 else if k = 2 then 1 else if k = 6 then 255 else 0
def leastK (k : Int) : Int := if k = 4 then 1 else if k = 6 then 1 else 0
def mostK (k : Int) : Int := if k = 3 then 1048576 else if k = 4 then 64 else if k = 5 then 1 else if k = 6 then 1 else 0
def isK (k : Int) : Bool := decide (1 ≤ k ∧ k ≤ 6)
def rightV (x : Nv) : Bool := decide ((1 ≤ x.k ∧ x.k ≤ 6) ∧ x.n ≤ mostN x.k ∧ leastK x.k ≤ x.kids ∧ x.kids ≤ mostK x.k)
theorem rightV_iff (x : Nv) : rightV x = true ↔ (1 ≤ x.k ∧ x.k ≤ 6) ∧ x.n ≤ mostN x.k ∧ leastK x.k ≤ x.kids ∧ x.kids ≤ mostK x.k := by simp [rightV]
theorem rightV_kids {x : Nv} (h : rightV x = true) : 0 ≤ x.kids ∧ x.kids ≤ 1048576 := by
  have h := (rightV_iff x).1 h
  unfold leastK mostK at h
  split at h <;> (try split at h) <;> (try split at h) <;> (try split at h) <;> omega
/-- value.Check: so many values are still missing, so many nodes are ahead. -/
def chkV (m a : Int) : List Nv → Int × Int
  | [] => if 0 < m then (40, a) else (0, 0)
  | x :: l => if m = 0 ∨ rightV x = false then (40, a) else chkV (m + (x.kids - 1)) (a + 1) l
/-- What Types answers. -/
def tyV (T : List Ty) (R : List Rt) (t : Int) (v : List Nv) : List Int × Int × Int :=
  if (chk T R).1 ≠ 0 then ([], chk T R) else
  if t < 0 ∨ (T.length : Int) ≤ t then ([], 3, 0) else
  if (chkV 1 0 v).1 ≠ 0 then ([], chkV 1 0 v) else wkT T [t] v 0
/-! ### Some -/
def pickP (t : Ty) (p : Int) : Nv :=
  if t.k = 1 then ⟨1, p % 2 ^ (8 * t.n).toNat, 0⟩ else
  if t.k = 2 then ⟨2, p % 2, 0⟩ else
  if t.k = 3 then ⟨1, p, 0⟩ else
  if t.k = 4 then ⟨3, 0, t.n⟩ else
  if t.k = 5 then ⟨3, 0, p % (t.n + 1)⟩ else
  if t.k = 6 then ⟨5, 0, p % 2⟩ else
  if t.k = 7 then ⟨6, (t.ps.getD (p % t.ps.length).toNat pt0).tag, 1⟩ else ⟨4, 0, t.ps.length⟩
def pickA (p : List Int) (i : Nat) : Int := if i < p.length then p.getD i 0 % 18446744073709551616 else 0
/-- The making of a value: what is still to come, what is made; none: too many nodes. -/
def mkT (T : List Ty) (p : List Int) : Nat → List Int → List Nv → Option (List Nv)
  | 0, _, _ => none
  | _ + 1, [], v => some v
  | f + 1, t :: st, v =>
    let x := pickP (T.getD t.toNat ty0) (pickA p v.length)
    if (v.length : Int) + (st.length + 1) + x.kids > 1048576 then none else mkT T p f (kidsT (T.getD t.toNat ty0) x ++ st) (v ++ [x])
def someT (T : List Ty) (R : List Rt) (t : Int) (p : List Int) : List Nv × Int :=
  if (chk T R).1 ≠ 0 then ([], (chk T R).1) else
  if t < 0 ∨ (T.length : Int) ≤ t then ([], 3) else
  match mkT T p 1048578 [t] [] with
  | some v => (v, 0)
  | none => ([], 5)
end Go.Proofs.Ytdpkmkhflgmioaa

/- typing.Types, plain: the walk round by round. -/
namespace Go.Proofs.Ytdpkmkhflgmioaa
open Go.RowKit
set_option linter.unusedVariables false

theorem chkV_step {M a : Int} {x : Nv} {l : List Nv} (h : (chkV M a (x :: l)).1 = 0) : M ≠ 0 ∧ rightV x = true ∧ (chkV (M + (x.kids - 1)) (a + 1) l).1 = 0 := by
  rw [chkV] at h
  split at h
  · cases h
  · rename_i hn
    exact ⟨fun e => hn (.inl e), by cases hx : rightV x with | true => rfl | false => exact absurd (.inr hx) hn, h⟩
theorem chkV_le : ∀ (l : List Nv) (M a : Int), 0 ≤ M → (chkV M a l).1 = 0 → M ≤ l.length
  | [], M, a, h0, h => by
    rw [chkV] at h
    split at h
    · cases h
    · simp; omega
  | x :: l, M, a, h0, h => by
    obtain ⟨h1, h2, h3⟩ := chkV_step h
    have hk := rightV_kids h2
    have := chkV_le l _ _ (by omega) h3
    simp
    omega
theorem chkV_ok : ∀ (l : List Nv) (M a : Int), (chkV M a l).1 = 0 → chkV M a l = (0, 0)
  | [], M, a, h => by
    rw [chkV] at h ⊢
    split at h
    · cases h
    · rename_i hn; rw [if_neg hn]
  | x :: l, M, a, h => by
    obtain ⟨h1, h2, h3⟩ := chkV_step h
    rw [chkV, if_neg (by simp [h1, h2])]
    exact chkV_ok l _ _ h3
theorem wkT_ok (T : List Ty) : ∀ (v : List Nv) (st : List Int) (i : Nat), (wkT T st v i).2.1 = 0 → (wkT T st v i).2.2 = 0
  | [], [], i, h => rfl
  | [], s :: st, i, h => rfl
  | x :: v, [], i, h => rfl
  | x :: v, s :: st, i, h => by
    rw [wkT] at h ⊢
    split at h
    · rename_i hn; exact absurd h hn
    · rename_i hn
      rw [if_neg hn]
      dsimp only at h ⊢
      split at h
      · rename_i hm; exact absurd h hm
      · rename_i hm; rw [if_neg hm]
/-- What has been found, ahead of what is still found. -/
def apT (nums : List Int) (r : List Int × Int × Int) : List Int × Int × Int := if r.2.1 ≠ 0 then r else (nums ++ r.1, 0, 0)
theorem misP_kind {t : Ty} {x : Nv} (h : misP t x = 0) : x.k = nkind t.k := by
  unfold misP at h
  split at h
  · cases h
  · rename_i hn; exact Decidable.of_not_not hn
theorem kid0 {x : Nv} (h : rightV x = true) (hk : x.k = 1 ∨ x.k = 2) : x.kids = 0 := by
  have := (rightV_iff x).1 h
  unfold leastK mostK at this
  rcases hk with e | e <;> rw [e] at this <;> simp at this <;> omega
theorem kid1 {x : Nv} (h : rightV x = true) (hk : x.k = 6) : x.kids = 1 := by
  have := (rightV_iff x).1 h
  unfold leastK mostK at this
  rw [hk] at this
  simp at this
  omega
theorem misP_arm {t : Ty} {x : Nv} (h : misP t x = 0) (hk : t.k = 7) : ∃ m p, armI t.ps x.n = some m ∧ t.ps[m]? = some p ∧ p.tag = x.n := by
  unfold misP at h
  split at h
  · cases h
  · simp [hk] at h
    obtain ⟨m, hm⟩ := Option.isSome_iff_exists.1 (Option.isSome_iff_ne_none.2 h)
    obtain ⟨p, hp, hpt⟩ := armI_some hm
    exact ⟨m, p, hm, hp, hpt⟩
theorem misP_struct {t : Ty} {x : Nv} (h : misP t x = 0) (hk : t.k = 8) : x.kids = t.ps.length := by
  unfold misP at h
  split at h
  · cases h
  · simp [hk] at h
    omega
theorem kidsT_len {t : Ty} {x : Nv} {i : Int} (hok : tyOk t i = true) (hf : misP t x = 0) (hr : rightV x = true) : ((kidsT t x).length : Int) = x.kids := by
  have hk := misP_kind hf
  unfold kidsT
  by_cases h7 : t.k = 7
  · rw [if_pos h7]
    rw [h7] at hk
    simp [kid1 hr hk]
  rw [if_neg h7]
  by_cases h8 : t.k = 8
  · rw [if_pos h8, misP_struct hf h8]
    simp
  rw [if_neg h8]
  have := rightV_kids hr
  simp
  omega
theorem kidsT_in {t : Ty} {x : Nv} {i : Int} (hok : tyOk t i = true) (hf : misP t x = 0) (hr : rightV x = true) : ∀ s ∈ kidsT t x, 0 ≤ s ∧ s < i := by
  have hk := misP_kind hf
  intro s hs
  unfold kidsT at hs
  by_cases h7 : t.k = 7
  · rw [if_pos h7] at hs
    obtain ⟨m, p, hm, hp, -⟩ := misP_arm hf h7
    simp [hm, List.getD, hp] at hs
    rw [hs]
    exact tyOk_part hok hp
  rw [if_neg h7] at hs
  by_cases h8 : t.k = 8
  · rw [if_pos h8] at hs
    obtain ⟨p, hp, rfl⟩ := List.mem_map.1 hs
    obtain ⟨m, hm⟩ := List.getElem?_of_mem hp
    exact tyOk_part hok hm
  rw [if_neg h8] at hs
  obtain ⟨h0, rfl⟩ := List.mem_replicate.1 hs
  have hE : hasE t.k = true := by
    have h := tyOk_kind hok
    unfold hasE
    refine decide_eq_true ?_
    rcases h with h | h | h | h | h | h | h | h
    · rw [h] at hk; have := kid0 hr (.inl hk); omega
    · rw [h] at hk; have := kid0 hr (.inr hk); omega
    · rw [h] at hk; have := kid0 hr (.inl hk); omega
    · omega
    · omega
    · omega
    · exact absurd h h7
    · exact absurd h h8
  exact tyOk_elem hok hE
/-- The walk has come to node number i. -/
structure WkI (T : List Ty) (t : Int) (V : List Nv) (i : Nat) (st nums : List Int) : Prop where
  inT : ∀ s ∈ st, 0 ≤ s ∧ s < T.length
  chk : (chkV (st.length : Int) (i : Int) (V.drop i)).1 = 0
  ans : wkT T [t] V 0 = apT nums (wkT T st (V.drop i) i)
  len : nums.length = i
theorem WkI.start {T : List Ty} {t : Int} {V : List Nv} (h0 : 0 ≤ t) (h1 : t < T.length) (hc : (chkV 1 0 V).1 = 0) : WkI T t V 0 [t] [] := by
  refine ⟨fun s hs => by simp at hs; omega, by simpa using hc, ?_, rfl⟩
  unfold apT
  by_cases h : (wkT T [t] V 0).2.1 = 0
  · have h2 := wkT_ok T V [t] 0 h
    simp only [List.drop_zero]
    rw [if_neg (by simp [h])]
    simp only [List.nil_append]
    generalize wkT T [t] V 0 = r at *
    obtain ⟨r1, r2, r3⟩ := r
    simp only at h h2
    subst h h2
    rfl
  · simp only [List.drop_zero]
    rw [if_pos h]
theorem WkI.small {T : List Ty} {t : Int} {V : List Nv} {i : Nat} {st nums : List Int} (h : WkI T t V i st nums) : st.length ≤ V.length := by
  have := chkV_le _ _ _ (by omega) h.chk
  simp at this
  omega
theorem WkI.next {T : List Ty} {R : List Rt} {t : Int} {V : List Nv} {i : Nat} {st nums : List Int} {x : Nv} (h : WkI T t V i st nums) (hS : OkS T R) (hx : V[i]? = some x) :
    ∃ s r, st = s :: r ∧ 0 ≤ s ∧ s < T.length ∧ rightV x = true ∧ (misP (T.getD s.toNat ty0) x ≠ 0 → wkT T [t] V 0 = ([], misP (T.getD s.toNat ty0) x, (i : Int))) ∧
      (misP (T.getD s.toNat ty0) x = 0 → WkI T t V (i + 1) (kidsT (T.getD s.toNat ty0) x ++ r) (nums ++ [s])) := by
  have hi := (List.getElem?_eq_some_iff.1 hx).1
  have hd : V.drop i = x :: V.drop (i + 1) := by rw [List.drop_eq_getElem_cons hi, (List.getElem?_eq_some_iff.1 hx).2]
  have hc := h.chk
  rw [hd] at hc
  obtain ⟨h1, h2, h3⟩ := chkV_step hc
  cases st with
  | nil => exact absurd rfl h1
  | cons s r =>
    obtain ⟨hs0, hs1⟩ := h.inT s (by simp)
    have hans := h.ans
    rw [hd, wkT] at hans
    have hok := hS.ty s.toNat (by omega)
    rw [show ((s.toNat : Nat) : Int) = s by omega] at hok
    refine ⟨s, r, rfl, hs0, hs1, h2, fun hm => ?_, fun hm => ?_⟩
    · rw [if_pos hm] at hans
      rw [hans]
      unfold apT
      rw [if_pos hm]
    · have hl := kidsT_len hok hm h2
      refine ⟨fun s' hs' => ?_, ?_, ?_, by simp [h.len]⟩
      · rcases List.mem_append.1 hs' with hs' | hs'
        · have := kidsT_in hok hm h2 s' hs'; omega
        · exact h.inT s' (by simp [hs'])
      · have e : (((kidsT (T.getD s.toNat ty0) x ++ r).length : Nat) : Int) = (((s :: r).length : Nat) : Int) + (x.kids - 1) := by
          rw [List.length_append, List.length_cons]
          omega
        rw [e]
        exact h3
      · rw [if_neg (by simpa using hm)] at hans
        rw [hans]
        generalize wkT T (kidsT (T.getD s.toNat ty0) x ++ r) (V.drop (i + 1)) (i + 1) = q
        unfold apT
        by_cases hz : q.2.1 = 0
        · simp only [hz, ne_eq, not_true_eq_false, if_false]
          simp
        · simp only [hz, ne_eq, not_false_eq_true, if_true]
theorem WkI.done {T : List Ty} {t : Int} {V : List Nv} {st nums : List Int} (h : WkI T t V V.length st nums) : st = [] ∧ wkT T [t] V 0 = (nums, 0, 0) := by
  have hc := h.chk
  have ha := h.ans
  rw [List.drop_length] at hc ha
  have h0 : (st.length : Int) ≤ ([] : List Nv).length := chkV_le _ _ _ (by omega) hc
  have h1 : (([] : List Nv).length : Int) = 0 := rfl
  have hst : st = [] := List.eq_nil_of_length_eq_zero (by omega)
  subst hst
  refine ⟨rfl, ?_⟩
  rw [ha]
  simp [apT, wkT]

theorem pickA_in (p : List Int) (i : Nat) : 0 ≤ pickA p i ∧ pickA p i < 18446744073709551616 := by
  unfold pickA
  split
  · exact ⟨Int.emod_nonneg _ (by decide), Int.emod_lt_of_pos _ (by decide)⟩
  · decide
theorem nOk_of {t : Ty} {i : Int} (h : tyOk t i = true) : (t.k = 1 ∧ (t.n = 1 ∨ t.n = 2 ∨ t.n = 4 ∨ t.n = 8)) ∨ ((t.k = 4 ∨ t.k = 5) ∧ 1 ≤ t.n ∧ t.n ≤ 1048576) ∨ ((t.k = 2 ∨ t.k = 3 ∨ t.k = 6 ∨ t.k = 7 ∨ t.k = 8) ∧ t.n = 0) := by
  have h1 := (tyOk_parts h).1
  unfold nOk at h1
  exact of_decide_eq_true h1
theorem tyOk_some' {t : Ty} {i : Int} (h : tyOk t i = true) (hk : t.k = 7 ∨ t.k = 8) : 0 < t.ps.length := by
  have h3 := (tyOk_parts h).2.2
  have key : ∀ r, allP r t.ps i = true → 0 < t.ps.length := fun r hr => by
    unfold allP at hr
    rw [Bool.and_eq_true, decide_eq_true_eq] at hr
    omega
  unfold partsOk at h3
  split at h3
  · exact key _ h3
  · rw [if_pos (by omega)] at h3
    exact key _ h3
theorem armI_isSome {ps : List Pt} {m : Nat} {p : Pt} (h : ps[m]? = some p) : (armI ps p.tag).isSome = true := by
  unfold armI
  rw [List.findIdx?_isSome]
  rw [List.any_eq_true]
  exact ⟨p, List.mem_of_getElem? h, by simp⟩
/-- What a pick leads to is a right node, and fits. -/
theorem pick_fits {t : Ty} {i p : Int} (hok : tyOk t i = true) (hp : 0 ≤ p ∧ p < 18446744073709551616) : misP t (pickP t p) = 0 ∧ rightV (pickP t p) = true ∧ NvOk (pickP t p) := by
  have hk := tyOk_kind hok
  have hn := nOk_of hok
  have hl := tyOk_len hok
  rcases hk with h | h | h | h | h | h | h | h
  · have e : pickP t p = ⟨1, p % 2 ^ (8 * t.n).toNat, 0⟩ := by simp [pickP, h]
    rw [e]
    have hb : 0 ≤ p % 2 ^ (8 * t.n).toNat ∧ p % 2 ^ (8 * t.n).toNat < 2 ^ (8 * t.n).toNat ∧ (2 : Int) ^ (8 * t.n).toNat ≤ 18446744073709551616 := by
      have hn2 : t.n = 1 ∨ t.n = 2 ∨ t.n = 4 ∨ t.n = 8 := by omega
      rcases hn2 with e | e | e | e <;> rw [e] <;> simp <;> omega
    refine ⟨?_, ?_, ⟨hb.1, by show p % _ < _; omega⟩⟩
    · simp only [misP, h, gr]
      simp [nkind, nkT]
      omega
    · rw [rightV_iff]
      simp [mostN, leastK, mostK]
      omega
  · have e : pickP t p = ⟨2, p % 2, 0⟩ := by simp [pickP, h]
    rw [e]
    refine ⟨by simp [misP, h, nkind, nkT], ?_, ⟨by show 0 ≤ p % 2; omega, by show p % 2 < _; omega⟩⟩
    rw [rightV_iff]
    simp [mostN, leastK, mostK]
    omega
  · have e : pickP t p = ⟨1, p, 0⟩ := by simp [pickP, h]
    rw [e]
    refine ⟨by simp [misP, h, nkind, nkT], ?_, hp⟩
    rw [rightV_iff]
    simp [mostN, leastK, mostK]
    omega
  · have e : pickP t p = ⟨3, 0, t.n⟩ := by simp [pickP, h]
    rw [e]
    refine ⟨by simp [misP, h, nkind, nkT], ?_, ⟨by show (0 : Int) ≤ 0; decide, by show (0 : Int) < 18446744073709551616; decide⟩⟩
    rw [rightV_iff]
    simp [mostN, leastK, mostK]
    omega
  · have e : pickP t p = ⟨3, 0, p % (t.n + 1)⟩ := by simp [pickP, h]
    have h1 : 0 ≤ p % (t.n + 1) := Int.emod_nonneg _ (by omega)
    have h2 : p % (t.n + 1) < t.n + 1 := Int.emod_lt_of_pos _ (by omega)
    rw [e]
    refine ⟨?_, ?_, ⟨by show (0 : Int) ≤ 0; decide, by show (0 : Int) < 18446744073709551616; decide⟩⟩
    · simp [misP, h, nkind, nkT]; omega
    · rw [rightV_iff]
      simp [mostN, leastK, mostK]
      omega
  · have e : pickP t p = ⟨5, 0, p % 2⟩ := by simp [pickP, h]
    rw [e]
    refine ⟨by simp [misP, h, nkind, nkT], ?_, ⟨by show (0 : Int) ≤ 0; decide, by show (0 : Int) < 18446744073709551616; decide⟩⟩
    rw [rightV_iff]
    simp [mostN, leastK, mostK]
    omega
  · have e : pickP t p = ⟨6, (t.ps.getD (p % t.ps.length).toNat pt0).tag, 1⟩ := by simp [pickP, h]
    have h0 := tyOk_some' hok (.inl h)
    have h1 : 0 ≤ p % (t.ps.length : Int) := Int.emod_nonneg _ (by omega)
    have h2 : p % (t.ps.length : Int) < t.ps.length := Int.emod_lt_of_pos _ (by omega)
    obtain ⟨m, hm⟩ := Int.eq_ofNat_of_zero_le h1
    have hml : m < t.ps.length := by omega
    have hx : t.ps[m]? = some (t.ps[m]'hml) := List.getElem?_eq_getElem hml
    have hxe : t.ps.getD m pt0 = t.ps[m]'hml := by simp [List.getD, hml]
    have htg : 0 ≤ (t.ps[m]'hml).tag ∧ (t.ps[m]'hml).tag ≤ 255 := by
      obtain ⟨k, n, el, ps⟩ := t
      simp only at h
      subst h
      exact tyOk_tags hok _ (List.getElem_mem hml)
    have har := armI_isSome hx
    rw [hm, Int.toNat_natCast, hxe] at e
    rw [e]
    refine ⟨?_, ?_, ⟨by show 0 ≤ (t.ps[m]'hml).tag; omega, by show (t.ps[m]'hml).tag < _; omega⟩⟩
    · simp only [misP, h]
      simp [nkind, nkT]
      exact Option.isSome_iff_ne_none.1 har
    · rw [rightV_iff]
      simp [mostN, leastK, mostK]
      omega
  · have e : pickP t p = ⟨4, 0, t.ps.length⟩ := by simp [pickP, h]
    have h0 := tyOk_some' hok (.inr h)
    rw [e]
    refine ⟨by simp [misP, h, nkind, nkT], ?_, ⟨by show (0 : Int) ≤ 0; decide, by show (0 : Int) < 18446744073709551616; decide⟩⟩
    rw [rightV_iff]
    simp [mostN, leastK, mostK]
    omega
/-- The making has come so far. -/
structure MkI (T : List Ty) (t : Int) (p : List Int) (st : List Int) (V : List Nv) : Prop where
  inT : ∀ s ∈ st, 0 ≤ s ∧ s < T.length
  ans : mkT T p 1048578 [t] [] = mkT T p (1048578 - V.length) st V
  len : V.length + st.length ≤ 1048576
  ok : ∀ x ∈ V, NvOk x
theorem MkI.start {T : List Ty} {t : Int} {p : List Int} (h0 : 0 ≤ t) (h1 : t < T.length) : MkI T t p [t] [] :=
  ⟨fun s hs => by simp at hs; omega, rfl, by simp, fun x hx => by cases hx⟩
theorem MkI.done {T : List Ty} {t : Int} {p : List Int} {V : List Nv} (h : MkI T t p [] V) : mkT T p 1048578 [t] [] = some V := by
  have hl := h.len
  simp at hl
  rw [h.ans, show 1048578 - V.length = (1048577 - V.length) + 1 by omega, mkT]
theorem MkI.next {T : List Ty} {R : List Rt} {t : Int} {p : List Int} {s : Int} {st : List Int} {V : List Nv} (h : MkI T t p (s :: st) V) (hS : OkS T R) :
    0 ≤ s ∧ s < T.length ∧ misP (T.getD s.toNat ty0) (pickP (T.getD s.toNat ty0) (pickA p V.length)) = 0 ∧ rightV (pickP (T.getD s.toNat ty0) (pickA p V.length)) = true ∧
    ((V.length : Int) + (st.length + 1) + (pickP (T.getD s.toNat ty0) (pickA p V.length)).kids > 1048576 → mkT T p 1048578 [t] [] = none) ∧
    (¬ (V.length : Int) + (st.length + 1) + (pickP (T.getD s.toNat ty0) (pickA p V.length)).kids > 1048576 → MkI T t p (kidsT (T.getD s.toNat ty0) (pickP (T.getD s.toNat ty0) (pickA p V.length)) ++ st) (V ++ [pickP (T.getD s.toNat ty0) (pickA p V.length)])) := by
  obtain ⟨hs0, hs1⟩ := h.inT s (by simp)
  have hok := hS.ty s.toNat (by omega)
  rw [show ((s.toNat : Nat) : Int) = s by omega] at hok
  obtain ⟨hf, hr, hv⟩ := pick_fits hok (pickA_in p V.length)
  have hl := h.len
  simp only [List.length_cons] at hl
  have hans := h.ans
  obtain ⟨A, hA⟩ : ∃ A, mkT T p 1048578 [t] [] = A := ⟨_, rfl⟩
  rw [hA] at hans
  rw [show 1048578 - V.length = (1048577 - V.length) + 1 by omega, mkT] at hans
  refine ⟨hs0, hs1, hf, hr, fun hg => ?_, fun hg => ?_⟩
  · rw [if_pos hg] at hans
    rw [hA]
    exact hans
  · rw [if_neg hg] at hans
    have hlen := kidsT_len hok hf hr
    refine ⟨fun s' hs' => ?_, ?_, ?_, fun x hx => ?_⟩
    · rcases List.mem_append.1 hs' with hs' | hs'
      · have := kidsT_in hok hf hr s' hs'; omega
      · exact h.inT s' (by simp [hs'])
    · rw [hA, hans, List.length_append, List.length_singleton, show 1048578 - (V.length + 1) = 1048577 - V.length by omega]
    · rw [List.length_append, List.length_append, List.length_singleton]
      omega
    · rcases List.mem_append.1 hx with hx | hx
      · exact h.ok x hx
      · simp at hx
        rw [hx]
        exact hv

/-- A fault lies at a place that the walk has come to. -/
theorem wkT_at (T : List Ty) : ∀ (v : List Nv) (st : List Int) (i : Nat), (wkT T st v i).2.1 ≠ 0 → (i : Int) ≤ (wkT T st v i).2.2 ∧ (wkT T st v i).2.2 < i + v.length
  | [], [], i, h => absurd rfl h
  | [], s :: st, i, h => absurd rfl h
  | x :: v, [], i, h => absurd rfl h
  | x :: v, s :: st, i, h => by
    rw [wkT] at h ⊢
    by_cases hm : misP (T.getD s.toNat ty0) x ≠ 0
    · rw [if_pos hm]
      simp
      omega
    · rw [if_neg hm] at h ⊢
      have hr : (wkT T (kidsT (T.getD s.toNat ty0) x ++ st) v (i + 1)).2.1 ≠ 0 := by
        intro e
        dsimp only at h
        rw [e] at h
        simp at h
      dsimp only
      rw [if_pos hr]
      have := wkT_at T v (kidsT (T.getD s.toNat ty0) x ++ st) (i + 1) hr
      have e : ((x :: v).length : Int) = v.length + 1 := by simp
      rw [e]
      omega
/-- The walk reads no node behind its fault. -/
theorem wkT_front (T : List Ty) : ∀ (v v' : List Nv) (st : List Int) (i f : Nat), v'.length = v.length → (wkT T st v i).2.1 ≠ 0 → (wkT T st v i).2.2 = (f : Int) → (∀ j, j + i ≤ f → v'[j]? = v[j]?) → wkT T st v' i = wkT T st v i
  | [], v', [], i, f, hl, h, _, _ => absurd rfl h
  | [], v', s :: st, i, f, hl, h, _, _ => absurd rfl h
  | x :: v, v', [], i, f, hl, h, _, _ => absurd rfl h
  | x :: v, [], s :: st, i, f, hl, h, _, _ => by cases hl
  | x :: v, x' :: v', s :: st, i, f, hl, h, hf, hs => by
    have hl' : v'.length = v.length := by simpa using hl
    rw [wkT] at h hf ⊢
    rw [wkT]
    by_cases hm : misP (T.getD s.toNat ty0) x ≠ 0
    · rw [if_pos hm] at hf h
      have hif : (i : Int) = f := hf
      have hx : x' = x := by
        have := hs 0 (by omega)
        simpa using this
      rw [hx, if_pos hm, if_pos hm]
    · rw [if_neg hm] at hf h ⊢
      have hr : (wkT T (kidsT (T.getD s.toNat ty0) x ++ st) v (i + 1)).2.1 ≠ 0 := by
        intro e
        dsimp only at h
        rw [e] at h
        simp at h
      have hge : (i : Int) < f := by
        dsimp only at hf
        rw [if_pos hr] at hf
        have := wkT_at T v (kidsT (T.getD s.toNat ty0) x ++ st) (i + 1) hr
        omega
      have hx : x' = x := by
        have := hs 0 (by omega)
        simpa using this
      rw [hx, if_neg hm]
      dsimp only at hf ⊢
      rw [if_pos hr] at hf
      have ih := wkT_front T v v' (kidsT (T.getD s.toNat ty0) x ++ st) (i + 1) f hl' hr hf (fun j hj => by
        have := hs (j + 1) (by omega)
        simpa using this)
      rw [ih]
/-- A node of another number that is right as well leaves value.Check's word. -/
theorem chkV_same : ∀ (v v' : List Nv) (m a : Int), v'.length = v.length → (∀ (j : Nat) (x x' : Nv), v[j]? = some x → v'[j]? = some x' → rightV x' = rightV x ∧ x'.kids = x.kids) → chkV m a v' = chkV m a v
  | [], [], m, a, _, _ => rfl
  | [], x' :: v', m, a, hl, _ => by cases hl
  | x :: v, [], m, a, hl, _ => by cases hl
  | x :: v, x' :: v', m, a, hl, h => by
    obtain ⟨h1, h2⟩ := h 0 x x' rfl rfl
    rw [chkV, chkV, h1, h2]
    split
    · rfl
    · exact chkV_same v v' _ _ (by simpa using hl) (fun j y y' hy hy' => h (j + 1) y y' (by simpa using hy) (by simpa using hy'))
/-- All of a list that value.Check takes are right. -/
theorem chkV_right : ∀ (v : List Nv) (m a : Int), (chkV m a v).1 = 0 → ∀ x ∈ v, rightV x = true
  | [], m, a, _, x, hx => by cases hx
  | y :: v, m, a, h, x, hx => by
    obtain ⟨h1, h2, h3⟩ := chkV_step h
    rcases List.mem_cons.1 hx with rfl | hx
    · exact h2
    · exact chkV_right v _ _ h3 x hx
/-- What TypingFirst puts in a node's place. -/
def turnN (x : Nv) (m : Int) : Nv :=
  if x.k = 1 then ⟨x.k, IntKind.u64.wrap (x.n + IntKind.u64.wrap m), x.kids⟩ else if x.k = 2 then ⟨x.k, IntKind.u64.wrap (1 - x.n), x.kids⟩ else if x.k = 6 then ⟨x.k, (IntKind.u64.wrap (x.n + 1)) % 256, x.kids⟩ else x
theorem turnN_right {x : Nv} (m : Int) (h : rightV x = true) (hx : NvOk x) : rightV (turnN x m) = true ∧ (turnN x m).kids = x.kids ∧ NvOk (turnN x m) := by
  obtain ⟨k, n, c⟩ := x
  have hr := (rightV_iff _).1 h
  obtain ⟨h0, h1⟩ := hx
  simp only at hr h0 h1
  unfold turnN
  by_cases h1k : k = 1
  · subst h1k
    simp only [if_true]
    refine ⟨?_, by first | rfl | trivial, ?_⟩
    · rw [rightV_iff]
      simp only [IntKind.wrap_u64] 
      refine ⟨hr.1, ?_, hr.2.2⟩
      simp [mostN]
      omega
    · exact ⟨by simp only [IntKind.wrap_u64]; omega, by simp only [IntKind.wrap_u64]; omega⟩
  by_cases h2k : k = 2
  · subst h2k
    simp only [h1k, if_false, if_true]
    have hn : n ≤ 1 := by simpa [mostN] using hr.2.1
    refine ⟨?_, by first | rfl | trivial, ?_⟩
    · rw [rightV_iff]
      refine ⟨hr.1, ?_, hr.2.2⟩
      simp only [IntKind.wrap_u64]
      simp [mostN]
      omega
    · exact ⟨by simp only [IntKind.wrap_u64]; omega, by simp only [IntKind.wrap_u64]; omega⟩
  by_cases h6k : k = 6
  · subst h6k
    simp only [h1k, h2k, if_false, if_true]
    refine ⟨?_, by first | rfl | trivial, ?_⟩
    · rw [rightV_iff]
      refine ⟨hr.1, ?_, hr.2.2⟩
      simp only [IntKind.wrap_u64]
      simp [mostN]
      omega
    · exact ⟨by simp only [IntKind.wrap_u64]; omega, by simp only [IntKind.wrap_u64]; omega⟩
  · simp only [h1k, h2k, h6k, if_false]
    exact ⟨h, by first | rfl | trivial, h0, h1⟩
/-- Where such a fault lies. -/
theorem first_at {T : List Ty} {R : List Rt} {t : Int} {V : List Nv} (hS : OkS T R) (h0 : 0 ≤ t) (h1 : t < T.length) (he : (tyV T R t V).2.1 ≠ 0) (he40 : (tyV T R t V).2.1 ≠ 40) : ∃ f : Nat, (tyV T R t V).2.2 = (f : Int) ∧ f < V.length := by
  have hc0 : (chk T R).1 = 0 := by rw [hS.chk]
  have hcV : (chkV 1 0 V).1 = 0 := by
    have key : ∀ (l : List Nv) (m a : Int), (chkV m a l).1 = 0 ∨ (chkV m a l).1 = 40 := by
      intro l
      induction l with
      | nil => intro m a; rw [chkV]; split <;> simp
      | cons y l ih => intro m a; rw [chkV]; split; · simp
                       · exact ih _ _
    rcases key V 1 0 with h | h
    · exact h
    · exfalso
      apply he40
      unfold tyV
      rw [if_neg (by simp [hc0]), if_neg (by omega), if_pos (by rw [h]; decide)]
      exact h
  have e1 : tyV T R t V = wkT T [t] V 0 := by
    unfold tyV
    rw [if_neg (by simp [hc0]), if_neg (by omega), if_neg (by simp [hcV])]
  rw [e1] at he ⊢
  have h := wkT_at T V [t] 0 he
  obtain ⟨f, hf⟩ := Int.eq_ofNat_of_zero_le (show 0 ≤ (wkT T [t] V 0).2.2 by omega)
  exact ⟨f, hf, by omega⟩
/-- The fault of a value that value.Check takes stays, however a node behind it is turned. -/
theorem first_stays {T : List Ty} {R : List Rt} {t : Int} {V : List Nv} {x : Nv} {j f : Nat} (hS : OkS T R) (h0 : 0 ≤ t) (h1 : t < T.length) (hV : ∀ x ∈ V, NvOk x) (he : (tyV T R t V).2.1 ≠ 0) (he40 : (tyV T R t V).2.1 ≠ 40) (hf : (tyV T R t V).2.2 = (f : Int)) (hx : V[j]? = some x) (hj : f < j) (m : Int) : tyV T R t (V.set j (turnN x m)) = tyV T R t V ∧ ∀ y ∈ V.set j (turnN x m), NvOk y := by
  have hc0 : (chk T R).1 = 0 := by rw [hS.chk]
  have hjl := (List.getElem?_eq_some_iff.1 hx).1
  have hcV : (chkV 1 0 V).1 = 0 := by
    have key : ∀ (l : List Nv) (m a : Int), (chkV m a l).1 = 0 ∨ (chkV m a l).1 = 40 := by
      intro l
      induction l with
      | nil => intro m a; rw [chkV]; split <;> simp
      | cons y l ih => intro m a; rw [chkV]; split; · simp
                       · exact ih _ _
    rcases key V 1 0 with h | h
    · exact h
    · exfalso
      apply he40
      unfold tyV
      rw [if_neg (by simp [hc0]), if_neg (by omega), if_pos (by rw [h]; decide)]
      exact h
  have hxr := chkV_right V 1 0 hcV x (List.mem_of_getElem? hx)
  obtain ⟨t1, t2, t3⟩ := turnN_right m hxr (hV x (List.mem_of_getElem? hx))
  have hsame : chkV 1 0 (V.set j (turnN x m)) = chkV 1 0 V := chkV_same V _ 1 0 (by simp) (fun i y y' hy hy' => by
    by_cases hij : j = i
    · subst hij
      rw [List.getElem?_set_self hjl] at hy'
      rw [hx] at hy
      injection hy with hy
      injection hy' with hy'
      subst hy hy'
      exact ⟨by rw [t1, hxr], t2⟩
    · rw [List.getElem?_set_ne hij, hy] at hy'
      injection hy' with hy'
      subst hy'
      exact ⟨rfl, rfl⟩)
  have e1 : ∀ W, (chkV 1 0 W).1 = 0 → tyV T R t W = wkT T [t] W 0 := fun W hW => by
    unfold tyV
    rw [if_neg (by simp [hc0]), if_neg (by omega), if_neg (by simp [hW])]
  refine ⟨?_, fun y hy => ?_⟩
  · rw [e1 _ (by rw [hsame]; exact hcV), e1 V hcV]
    rw [e1 V hcV] at he hf
    exact wkT_front T V _ [t] 0 f (by simp) he hf (fun i hi => List.getElem?_set_ne (by omega))
  · rcases List.mem_or_eq_of_mem_set hy with h | h
    · exact hV y h
    · rw [h]; exact t3
end Go.Proofs.Ytdpkmkhflgmioaa

/- Plain: what Some makes is of the type, and the picks that stand in it lead to it again. -/
namespace Go.Proofs.Ytdpkmkhflgmioaa
set_option linter.unusedVariables false

/-- What is made so far, as the walk and value.Check see it. -/
structure PkI (T : List Ty) (t : Int) (p : List Int) (st : List Int) (V : List Nv) (nums : List Int) : Prop where
  wk : ∀ rest, wkT T [t] (V ++ rest) 0 = apT nums (wkT T st rest V.length)
  ck : ∀ rest, chkV 1 0 (V ++ rest) = chkV (st.length : Int) (V.length : Int) rest
  len : nums.length = V.length
  pk : ∀ (i : Nat) (s : Int), nums[i]? = some s → V[i]? = some (pickP (T.getD s.toNat ty0) (pickA p i))
  hd : nums.head? = some t ∨ (nums = [] ∧ st = [t])
theorem apT_nil {r : List Int × Int × Int} (h : r.2.1 = 0 → r.2.2 = 0) : apT [] r = r := by
  unfold apT
  split
  · rfl
  · rename_i h1
    have h1 : r.2.1 = 0 := by simpa using h1
    obtain ⟨a, b, c⟩ := r
    simp only at h h1
    subst h1
    rw [h rfl]
    simp
theorem PkI.start {T : List Ty} {t : Int} {p : List Int} : PkI T t p [t] [] [] := by
  refine ⟨fun rest => ?_, fun rest => by simp, rfl, fun i s h => by simp at h, .inr ⟨rfl, rfl⟩⟩
  rw [List.nil_append]
  exact (apT_nil (fun h => wkT_ok T rest [t] 0 h)).symm
theorem PkI.step {T : List Ty} {R : List Rt} {t : Int} {p : List Int} {s : Int} {st : List Int} {V : List Nv} {nums : List Int} (h : PkI T t p (s :: st) V nums) (hS : OkS T R) (hs0 : 0 ≤ s) (hs1 : s < T.length)
    (hf : misP (T.getD s.toNat ty0) (pickP (T.getD s.toNat ty0) (pickA p V.length)) = 0) (hr : rightV (pickP (T.getD s.toNat ty0) (pickA p V.length)) = true) :
    PkI T t p (kidsT (T.getD s.toNat ty0) (pickP (T.getD s.toNat ty0) (pickA p V.length)) ++ st) (V ++ [pickP (T.getD s.toNat ty0) (pickA p V.length)]) (nums ++ [s]) := by
  have hok := hS.ty s.toNat (by omega)
  rw [show ((s.toNat : Nat) : Int) = s by omega] at hok
  have hl := kidsT_len hok hf hr
  obtain ⟨x, hx⟩ : ∃ x, pickP (T.getD s.toNat ty0) (pickA p V.length) = x := ⟨_, rfl⟩
  rw [hx] at hf hr hl ⊢
  refine ⟨fun rest => ?_, fun rest => ?_, by simp [h.len], fun i s' hi => ?_, ?_⟩
  · have h1 := h.wk (x :: rest)
    rw [List.append_assoc, List.singleton_append, h1, wkT, if_neg (by simpa using hf), List.length_append, List.length_singleton]
    generalize wkT T (kidsT (T.getD s.toNat ty0) x ++ st) rest (V.length + 1) = q
    unfold apT
    by_cases hz : q.2.1 = 0
    · simp only [hz, ne_eq, not_true_eq_false, if_false]
      simp
    · simp only [hz, ne_eq, not_false_eq_true, if_true]
  · have h1 := h.ck (x :: rest)
    rw [List.append_assoc, List.singleton_append, h1, chkV, if_neg (by simp [hr]; omega)]
    congr 1
    · rw [List.length_append, List.length_cons]
      push_cast
      omega
    · rw [List.length_append, List.length_singleton]
      push_cast
      rfl
  · rcases Nat.lt_or_ge i nums.length with hlt | hge
    · rw [List.getElem?_append_left hlt] at hi
      rw [List.getElem?_append_left (by rw [← h.len]; exact hlt)]
      exact h.pk i s' hi
    · rw [List.getElem?_append_right hge] at hi
      have hi0 : i - nums.length = 0 := by
        have := (List.getElem?_eq_some_iff.1 hi).1
        simp at this
        omega
      rw [hi0] at hi
      simp at hi
      subst hi
      obtain rfl : i = V.length := by have := h.len; omega
      rw [List.getElem?_append_right (Nat.le_refl _), Nat.sub_self, hx]
      rfl
  · rcases h.hd with h1 | ⟨h1, h2⟩
    · left
      rw [List.head?_append, h1]
      rfl
    · injection h2 with h2 _
      left
      rw [h1, h2]
      rfl
theorem mk_all {T : List Ty} {R : List Rt} {t : Int} {p : List Int} (hS : OkS T R) : ∀ (f : Nat) (st : List Int) (V W : List Nv) (nums : List Int), MkI T t p st V → PkI T t p st V nums → mkT T p f st V = some W →
    ∃ nums2, PkI T t p [] W nums2 ∧ (∃ r, nums2 = nums ++ r) ∧ (∃ r, W = V ++ r) ∧ ∀ q, (∀ (i : Nat) (s : Int) (x : Nv), V.length ≤ i → nums2[i]? = some s → W[i]? = some x → pickP (T.getD s.toNat ty0) (pickA q i) = x) → mkT T q f st V = some W
  | 0, _, _, _, _, _, _, h => by simp [mkT] at h
  | f + 1, [], V, W, nums, hM, hP, h => by
    simp [mkT] at h
    subst h
    exact ⟨nums, hP, ⟨[], by simp⟩, ⟨[], by simp⟩, fun q _ => by simp [mkT]⟩
  | f + 1, s :: st, V, W, nums, hM, hP, h => by
    obtain ⟨hs0, hs1, hf, hr, -, hgo⟩ := hM.next hS
    rw [mkT] at h
    by_cases hg : (V.length : Int) + (st.length + 1) + (pickP (T.getD s.toNat ty0) (pickA p V.length)).kids > 1048576
    · rw [if_pos hg] at h
      cases h
    · rw [if_neg hg] at h
      obtain ⟨nums2, h1, ⟨r1, hr1⟩, ⟨r2, hr2⟩, h4⟩ := mk_all hS f _ _ W _ (hgo hg) (hP.step hS hs0 hs1 hf hr) h
      refine ⟨nums2, h1, ⟨s :: r1, by rw [hr1]; simp⟩, ⟨pickP (T.getD s.toNat ty0) (pickA p V.length) :: r2, by rw [hr2]; simp⟩, fun q hq => ?_⟩
      have hx : pickP (T.getD s.toNat ty0) (pickA q V.length) = pickP (T.getD s.toNat ty0) (pickA p V.length) := hq V.length s _ (Nat.le_refl _) (by rw [hr1, List.append_assoc, List.getElem?_append_right (by rw [hP.len]; exact Nat.le_refl _), hP.len]; simp) (by rw [hr2, List.append_assoc, List.getElem?_append_right (Nat.le_refl _)]; simp)
      rw [mkT, hx, if_neg hg]
      exact h4 q (fun i s' x hi => hq i s' x (by simp at hi; omega))
/-- The pick that stands in a node. -/
def pickOf (t : Ty) (x : Nv) : Int :=
  if t.k = 1 ∨ t.k = 2 ∨ t.k = 3 then IntKind.i64.wrap x.n else
  if t.k = 5 ∨ t.k = 6 then x.kids else
  if t.k = 7 then (((armI t.ps x.n).getD 0 : Nat) : Int) else 0
theorem pickOf_back {t : Ty} {i q : Int} (hok : tyOk t i = true) (hq : 0 ≤ q ∧ q < 18446744073709551616) : pickP t (pickOf t (pickP t q) % 18446744073709551616) = pickP t q := by
  obtain ⟨hm, hr, hv⟩ := pick_fits hok hq
  have hk := tyOk_kind hok
  have hn := nOk_of hok
  have hkd := rightV_kids hr
  obtain ⟨x, hx⟩ : ∃ x, pickP t q = x := ⟨_, rfl⟩
  have hw : IntKind.i64.wrap x.n % 18446744073709551616 = x.n := by
    have h1 := hv.1; have h2 := hv.2
    rw [hx] at h1 h2
    rw [IntKind.wrap_i64]
    omega
  rw [hx] at hkd ⊢
  rcases hk with h | h | h | h | h | h | h | h
  · have e : pickOf t x = IntKind.i64.wrap x.n := by simp [pickOf, h]
    rw [e, hw, ← hx]
    simp only [pickP, h]
    simp
  · have e : pickOf t x = IntKind.i64.wrap x.n := by simp [pickOf, h]
    rw [e, hw, ← hx]
    simp only [pickP, h]
    simp
  · have e : pickOf t x = IntKind.i64.wrap x.n := by simp [pickOf, h]
    rw [e, hw, ← hx]
    simp only [pickP, h]
    simp
  · rw [← hx]
    simp [pickP, h]
  · have e : pickOf t x = x.kids := by simp [pickOf, h]
    have e2 : x.kids = q % (t.n + 1) := by rw [← hx]; simp [pickP, h]
    have h0 : 0 ≤ q % (t.n + 1) := Int.emod_nonneg _ (by omega)
    have h1 : q % (t.n + 1) < t.n + 1 := Int.emod_lt_of_pos _ (by omega)
    rw [e, ← hx]
    simp only [pickP, h]
    simp
    rw [Int.emod_eq_of_lt (b := 18446744073709551616) h0 (by omega), Int.emod_eq_of_lt h0 h1]
  · have e : pickOf t x = x.kids := by simp [pickOf, h]
    have e2 : x.kids = q % 2 := by rw [← hx]; simp [pickP, h]
    rw [e, ← hx]
    simp only [pickP, h]
    simp
  · have e1 : x = ⟨6, (t.ps.getD (q % t.ps.length).toNat pt0).tag, 1⟩ := by rw [← hx]; simp [pickP, h]
    have hpos := tyOk_some' hok (.inl h)
    have hlt : (q % t.ps.length).toNat < t.ps.length := by
      have h0 : 0 ≤ q % (t.ps.length : Int) := Int.emod_nonneg _ (by omega)
      have h1 : q % (t.ps.length : Int) < t.ps.length := Int.emod_lt_of_pos _ (by omega)
      omega
    rw [hx] at hm
    obtain ⟨m, p, ha, hp, htag⟩ := misP_arm hm h
    have hml := (List.getElem?_eq_some_iff.1 hp).1
    have hpl := tyOk_len hok
    have e : pickOf t x = (m : Int) := by simp [pickOf, h, ha]
    have e3 : (m : Int) % 18446744073709551616 = m := Int.emod_eq_of_lt (by omega) (by omega)
    have e4 : (m : Int) % (t.ps.length : Int) = m := Int.emod_eq_of_lt (by omega) (by omega)
    rw [e, e3]
    have e5 : pickP t (m : Int) = ⟨6, p.tag, 1⟩ := by
      simp only [pickP, h]
      simp [e4, List.getD, hp]
    rw [e5, htag, e1]
  · rw [← hx]
    simp [pickP, h]
/-- What Some makes. -/
theorem some_back {T : List Ty} {R : List Rt} {t : Int} {p : List Int} {V : List Nv} (hS : OkS T R) (h0 : 0 ≤ t) (h1 : t < T.length) (hm : mkT T p 1048578 [t] [] = some V) :
    ∃ nums, wkT T [t] V 0 = (nums, 0, 0) ∧ chkV 1 0 V = (0, 0) ∧ nums.length = V.length ∧ (V ≠ [] → nums.head? = some t) ∧ (∀ s ∈ nums, 0 ≤ s ∧ s < T.length) ∧
      ∀ q : List Int, q.length = V.length → (∀ (i : Nat) (s : Int) (x : Nv), nums[i]? = some s → V[i]? = some x → q[i]? = some (pickOf (T.getD s.toNat ty0) x)) → mkT T q 1048578 [t] [] = some V := by
  obtain ⟨nums, hP, -, -, h4⟩ := mk_all hS 1048578 [t] [] V [] (MkI.start h0 h1) PkI.start hm
  have hw := hP.wk []
  have hc := hP.ck []
  rw [List.append_nil] at hw hc
  have e : wkT T [] [] V.length = ([], 0, 0) := by unfold wkT; rfl
  rw [e] at hw
  have hw' : wkT T [t] V 0 = (nums, 0, 0) := by rw [hw]; unfold apT; simp
  have hc' : chkV 1 0 V = (0, 0) := by rw [hc]; simp [chkV]
  have hin : ∀ s ∈ nums, 0 ≤ s ∧ s < T.length := by
    have key : ∀ (k : Nat), k ≤ V.length → ∃ st ns, WkI T t V k st ns ∧ ∀ s ∈ ns, 0 ≤ s ∧ s < T.length := fun k => by
      induction k with
      | zero => exact fun _ => ⟨[t], [], WkI.start h0 h1 (by rw [hc']), fun s hs => by cases hs⟩
      | succ k ih =>
        intro hk
        obtain ⟨st, ns, hwk, hns⟩ := ih (by omega)
        obtain ⟨s, r, rfl, a0, a1, -, hbad, hgood⟩ := hwk.next hS (List.getElem?_eq_getElem (by omega : k < V.length))
        by_cases hm0 : misP (T.getD s.toNat ty0) (V[k]'(by omega)) = 0
        · refine ⟨_, _, hgood hm0, fun s' hs' => ?_⟩
          rcases List.mem_append.1 hs' with hs' | hs'
          · exact hns s' hs'
          · simp at hs'; subst hs'; exact ⟨a0, a1⟩
        · have := hbad hm0
          rw [hw'] at this
          simp at this
          exact absurd this.2.1.symm hm0
    obtain ⟨st, ns, hwk, hns⟩ := key V.length (Nat.le_refl _)
    have hd := (hwk.done).2
    rw [hw'] at hd
    have : nums = ns := (Prod.mk.inj hd).1
    rw [this]
    exact hns
  refine ⟨nums, hw', hc', hP.len, fun hne => ?_, hin, fun q hql hq => h4 q (fun i s x _ hs hx => ?_)⟩
  · rcases hP.hd with h | ⟨h, -⟩
    · exact h
    · have := hP.len
      rw [h] at this
      exact absurd (List.eq_nil_of_length_eq_zero this.symm) hne
  · have hi := hq i s x hs hx
    have hpk := hP.pk i s hs
    rw [hx] at hpk
    injection hpk with hpk
    have hsT := hin s (List.mem_of_getElem? hs)
    have hok := hS.ty s.toNat (by omega)
    rw [show ((s.toNat : Nat) : Int) = s by omega] at hok
    have hlt := (List.getElem?_eq_some_iff.1 hi).1
    have e2 : pickA q i = pickOf (T.getD s.toNat ty0) x % 18446744073709551616 := by
      unfold pickA
      rw [if_pos hlt]
      simp [List.getD, hi]
    rw [e2, hpk]
    exact pickOf_back hok (pickA_in p i)
end Go.Proofs.Ytdpkmkhflgmioaa
