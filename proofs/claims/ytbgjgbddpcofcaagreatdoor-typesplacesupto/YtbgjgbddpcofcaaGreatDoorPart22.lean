import Derived.Test.YtbgjgbddpcofcaaGreatDoorPart16
import Derived.Test.YtbgjgbddpcofcaaGreatDoorPart07
import Derived.Test.YtbgjgbddpcofcaaGreatDoorPart12
import Derived.Maps.AppendAt
import Derived.Laws.OwnMore
import Derived.BigQuiet

/- Rows of structs over any encoding; schemas in memory. -/
namespace Go.Proofs.YtbgjgbddpcofcaaGreatDoor
open Go.RowKit
set_option linter.unusedVariables false

theorem results_cell_rowz {P : Program} {fn : Func} {p : Tmp} {ty : TypeId} (h : fn.results = #[.cell p ty]) (tmps : Array Value) (w : World) (g : Nat) (t : TypeId) (cs : Array Value) (fr : Nat × Nat) (d : TypeDesc)
    (hp : tmps.getD p undef = .pointer (some ⟨g, 0, none⟩)) (hg : w.heap[g]? = some (.cells cs t fr))
    (hu : P.underlying ty = some d) (hd : (match d with | .struct _ | .array _ _ => true | _ => false) = true) (hi : (P.info? ty).map (·.size) = some cs.size) :
    (results fn tmps).run P w = .ok (.agg cs) w := by
  have hp' : tmps[p]?.getD undef = .pointer (some ⟨g, 0, none⟩) := by simpa using hp
  simp only [results, h]
  simp [hp', asAddr, run_loadVar_row w g t ty cs fr d hg hu hd hi]
theorem below_drewNz {B : Nat} {w w' : World} (h : Below B w w') (q : Nat) : Below B w (w'.drewN q) := ⟨h.os, h.tape, h.output, h.size, h.block⟩
theorem upd_drewNz {S : Nat → Prop} {a w : World} (h : Upd S a w) (q : Nat) : Upd S a (w.drewN q) := ⟨h.os, h.tape, h.output, h.size, h.block⟩
theorem str_eqz (a b : ByteArray) : (a.toList == b.toList) = decide (a = b) := by
  by_cases h : a = b
  · subst h; simp
  · rw [decide_eq_false h]
    have hb : (⟨b.toList.toArray⟩ : ByteArray) = b := by rw [Lib.toList_data]
    exact str_ne a b.toList (by rw [hb]; exact h)
theorem blk2z (w : World) (xs ys : Array Value) (t t' : TypeId) : Blk ((w.alloc (.cells xs t)).alloc (.cells ys t')) w.heap.size t xs.toList ∧ Blk ((w.alloc (.cells xs t)).alloc (.cells ys t')) (w.heap.size + 1) t' ys.toList := by
  refine ⟨(Blk.newA w xs t).alloc _, ?_⟩
  have := Blk.newA (w.alloc (.cells xs t)) ys t'
  simpa using this
theorem below1 (w : World) (o : Obj) : Below w.heap.size w (w.alloc o) := (Below.refl _ _).alloc (Nat.le_refl _) _
theorem below2z (w : World) (o o' : Obj) : Below w.heap.size w ((w.alloc o).alloc o') := ((Below.refl _ _).alloc (Nat.le_refl _) _).alloc (by simp) _
theorem cell_alz (w : World) (o : Obj) (b i : Nat) (h : b < w.heap.size) : (w.alloc o).cell? ⟨b, i, none⟩ = w.cell? ⟨b, i, none⟩ := World.cell?_of_block (Below.heap_alloc w o b h)
theorem own_basez {w : World} {B B' n c : Nat} {e : TypeId} {v : Value} {xs : List Value} (h : w.ownsRow B e c v n xs) (hb : B' ≤ B) : w.ownsRow B' e c v n xs := by
  refine ⟨h.1, ?_⟩
  rcases h.2 with h | ⟨g, cap, cur, rfl, hg, rest⟩
  · exact .inl h
  · exact .inr ⟨g, cap, cur, rfl, Nat.le_trans hb hg, rest⟩
theorem below_setz {B : Nat} {w w' : World} (h : Below B w w') (b i : Nat) (v : Value) (hb : B ≤ b) : Below B w (w'.setCell ⟨b, i, none⟩ v) := h.setCell hb v
theorem own_lenz {w : World} {B n c : Nat} {e : TypeId} {v : Value} {xs : List Value} (h : w.ownsRow B e c v n xs) : n ≤ 9223372036854775807 := by
  rcases h.2 with ⟨_, h0⟩ | ⟨g, cap, cur, _, _, _, hn, hm, _⟩
  · omega
  · unfold maxLen at hm; omega
/-! ### Rows of things of c cells each -/
section
variable {α : Type} {c : Nat} {f : α → List Value}
def cellsG (f : α → List Value) (l : List α) : List Value := l.flatMap f
theorem cellsG_app (l r : List α) : cellsG f (l ++ r) = cellsG f l ++ cellsG f r := by simp [cellsG]
theorem cellsG_one (x : α) : cellsG f [x] = f x := by simp [cellsG]
theorem cellsG_len (hf : ∀ x, (f x).length = c) (l : List α) : (cellsG f l).length = l.length * c := by
  induction l with
  | nil => simp [cellsG]
  | cons x l ih =>
    have e : cellsG f (x :: l) = f x ++ cellsG f l := by simp [cellsG]
    rw [e, List.length_append, ih, hf, List.length_cons, Nat.add_mul]
    omega
theorem cellsG_at (hf : ∀ x, (f x).length = c) : ∀ (l : List α) (i j : Nat) (x : α), l[i]? = some x → j < c → (cellsG f l)[i * c + j]? = (f x)[j]?
  | [], i, j, x, h, _ => by simp at h
  | y :: N, 0, j, x, h, hj => by
    simp at h
    subst h
    have e : cellsG f (y :: N) = f y ++ cellsG f N := by simp [cellsG]
    rw [e, List.getElem?_append_left (by rw [hf]; omega)]
    simp
  | y :: N, i + 1, j, x, h, hj => by
    have ih := cellsG_at hf N i j x (by simpa using h) hj
    have e : cellsG f (y :: N) = f y ++ cellsG f N := by simp [cellsG]
    have e2 : (i + 1) * c + j - (f y).length = i * c + j := by rw [hf, Nat.add_mul]; omega
    rw [e, List.getElem?_append_right (by rw [hf, Nat.add_mul]; omega), e2, ih]
/-- A row of things lies here. -/
def GRow (c : Nat) (f : α → List Value) (w : World) (a : Option Addr) (l : List α) : Prop :=
  l = [] ∨ ∃ b off, a = some ⟨b, off, none⟩ ∧ b < w.heap.size ∧ ∀ (i : Nat) (x : α), l[i]? = some x → ∀ j, j < c → w.cell? ⟨b, off + i * c + j, none⟩ = (f x)[j]?
theorem GRow.nil (w : World) (a : Option Addr) : GRow c f w a [] := .inl rfl
theorem GRow.later {w w' : World} {a : Option Addr} {l : List α} (h : GRow c f w a l) (hB : Below w.heap.size w w') : GRow c f w' a l := by
  rcases h with h | ⟨b, off, rfl, hb, hc⟩
  · exact .inl h
  · exact .inr ⟨b, off, rfl, Nat.lt_of_lt_of_le hb hB.size, fun i x hx j hj => (hB.cell (p := ⟨b, off + i * c + j, none⟩) hb).trans (hc i x hx j hj)⟩
theorem GRow.upd {w w' : World} {a : Option Addr} {l : List α} {S : Nat → Prop} (h : GRow c f w a l) (hu : Upd S w w') (hs : ∀ x, a = some x → ¬ S x.block) : GRow c f w' a l := by
  rcases h with h | ⟨b, off, rfl, hb, hc⟩
  · exact .inl h
  · exact .inr ⟨b, off, rfl, Nat.lt_of_lt_of_le hb hu.size, fun i x hx j hj => by rw [World.cell?_of_block (w := w) (hu.block b hb (hs _ rfl))]; exact hc i x hx j hj⟩
theorem GRow.open {w : World} {a : Option Addr} {l : List α} (h : GRow c f w a l) (hl : 0 < l.length) : ∃ b off, a = some ⟨b, off, none⟩ ∧ b < w.heap.size ∧ ∀ (i : Nat) (x : α), l[i]? = some x → ∀ j, j < c → w.cell? ⟨b, off + i * c + j, none⟩ = (f x)[j]? := by
  rcases h with rfl | h
  · simp at hl
  · exact h
theorem GRow.take {w : World} {a : Option Addr} {l : List α} (h : GRow c f w a l) (m : Nat) : GRow c f w a (l.take m) := by
  rcases h with rfl | ⟨b, off, rfl, hb, hc⟩
  · exact .inl (by simp)
  · refine .inr ⟨b, off, rfl, hb, fun i x hx => ?_⟩
    rw [List.getElem?_take] at hx
    split at hx
    · exact hc i x hx
    · cases hx
theorem own_grow {e : TypeId} {w : World} {B : Nat} {v : Value} {l : List α} (hf : ∀ x, (f x).length = c) (h : w.ownsRow B e c v l.length (cellsG f l)) : ∃ a cap, v = .slice a l.length cap ∧ l.length ≤ cap ∧ (a = none → cap = 0) ∧ GRow c f w a l := by
  rcases Nat.eq_zero_or_pos l.length with h0 | h0
  · have hN : l = [] := List.eq_nil_of_length_eq_zero h0
    subst hN
    rcases h.2 with ⟨rfl, _⟩ | ⟨g, cap, cur, rfl, hb, hg, hnc, _⟩
    · exact ⟨none, 0, rfl, Nat.le_refl _, fun _ => rfl, .inl rfl⟩
    · exact ⟨_, cap, rfl, by simp, fun h => (by cases h), .inl rfl⟩
  · obtain ⟨g, cap, ys, rfl, hb, hn, hm, hl, ht, hK⟩ := ownS_blk h h0
    refine ⟨_, cap, rfl, hn, fun h => (by cases h), .inr ⟨g, 0, rfl, hK.lt, fun i x hx j hj => ?_⟩⟩
    have hi := (List.getElem?_eq_some_iff.1 hx).1
    have hlt : i * c + j < l.length * c := by
      have h1 : i * c + c ≤ l.length * c := by rw [← Nat.succ_mul]; exact Nat.mul_le_mul_right c hi
      omega
    rw [hK.cell, ← cellsG_at hf l i j x hx hj, ← ht, List.getElem?_take, if_pos hlt, Nat.zero_add]
theorem blk_grow {e : TypeId} {w : World} {g : Nat} {l : List α} (hf : ∀ x, (f x).length = c) (h : Blk w g e (cellsG f l)) : GRow c f w (some ⟨g, 0, none⟩) l := by
  refine .inr ⟨g, 0, rfl, h.lt, fun i x hx j hj => ?_⟩
  rw [h.cell, ← cellsG_at hf l i j x hx hj, Nat.zero_add]
end
/-! ### Parts, types, roots, extents -/
structure Ptz where
  label : ByteArray
  tag : Int
  ty : Int
structure Ty where
  k : Int
  n : Int
  e : Int
  ps : List Ptz
structure Rt where
  name : ByteArray
  ty : Int
structure Ex where
  f : Bool
  l : Int
  m : Int
  d : Int
def pt0 : Ptz := ⟨⟨#[]⟩, 0, 0⟩
def ty0 : Ty := ⟨0, 0, 0, []⟩
def rt0 : Rt := ⟨⟨#[]⟩, 0⟩
def ex0 : Ex := ⟨false, 0, 0, 0⟩
def ptc (p : Ptz) : List Value := [.string p.label, .int .i64 p.tag, .int .i64 p.ty]
def ptvz (p : Ptz) : Value := .agg #[.string p.label, .int .i64 p.tag, .int .i64 p.ty]
def tyc (t : Ty) (v : Value) : List Value := [.int .i64 t.k, .int .i64 t.n, .int .i64 t.e, v]
def tyv (t : Ty) (v : Value) : Value := .agg #[.int .i64 t.k, .int .i64 t.n, .int .i64 t.e, v]
def rtc (r : Rt) : List Value := [.string r.name, .int .i64 r.ty]
def rtv (r : Rt) : Value := .agg #[.string r.name, .int .i64 r.ty]
def exc (x : Ex) : List Value := [.bool x.f, .int .i64 x.l, .int .i64 x.m, .int .i64 x.d]
def exv (x : Ex) : Value := .agg #[.bool x.f, .int .i64 x.l, .int .i64 x.m, .int .i64 x.d]
theorem ptc_len (p : Ptz) : (ptc p).length = 3 := rfl
theorem rtc_len (r : Rt) : (rtc r).length = 2 := rfl
theorem exc_len (x : Ex) : (exc x).length = 4 := rfl
abbrev PRow (w : World) (a : Option Addr) (l : List Ptz) : Prop := GRow 3 ptc w a l
abbrev RRow (w : World) (a : Option Addr) (l : List Rt) : Prop := GRow 2 rtc w a l
abbrev XRow (w : World) (a : Option Addr) (l : List Ex) : Prop := GRow 4 exc w a l
/-- A row of types lies here, with their parts. -/
def TRowz (w : World) (a : Option Addr) (T : List Ty) : Prop :=
  T = [] ∨ ∃ b off, a = some ⟨b, off, none⟩ ∧ b < w.heap.size ∧ ∀ (i : Nat) (t : Ty), T[i]? = some t → ∃ va vc, (∀ j, j < 4 → w.cell? ⟨b, off + i * 4 + j, none⟩ = (tyc t (.slice va t.ps.length vc))[j]?) ∧ t.ps.length ≤ vc ∧ (va = none → vc = 0) ∧ PRow w va t.ps
theorem TRowz.later {w w' : World} {a : Option Addr} {T : List Ty} (h : TRowz w a T) (hB : Below w.heap.size w w') : TRowz w' a T := by
  rcases h with h | ⟨b, off, rfl, hb, hc⟩
  · exact .inl h
  · refine .inr ⟨b, off, rfl, Nat.lt_of_lt_of_le hb hB.size, fun i d hd => ?_⟩
    obtain ⟨va, vc, h1, h2, h4, h3⟩ := hc i d hd
    exact ⟨va, vc, fun j hj => (hB.cell (p := ⟨b, off + i * 4 + j, none⟩) hb).trans (h1 j hj), h2, h4, h3.later hB⟩
theorem TRowz.open {w : World} {a : Option Addr} {T : List Ty} (h : TRowz w a T) (hl : 0 < T.length) : ∃ b off, a = some ⟨b, off, none⟩ ∧ b < w.heap.size ∧ ∀ (i : Nat) (t : Ty), T[i]? = some t → ∃ va vc, (∀ j, j < 4 → w.cell? ⟨b, off + i * 4 + j, none⟩ = (tyc t (.slice va t.ps.length vc))[j]?) ∧ t.ps.length ≤ vc ∧ (va = none → vc = 0) ∧ PRow w va t.ps := by
  rcases h with rfl | h
  · simp at hl
  · exact h
theorem TRowz.take {w : World} {a : Option Addr} {T : List Ty} (h : TRowz w a T) (m : Nat) : TRowz w a (T.take m) := by
  rcases h with rfl | ⟨b, off, rfl, hb, hc⟩
  · exact .inl (by simp)
  · refine .inr ⟨b, off, rfl, hb, fun i x hx => ?_⟩
    rw [List.getElem?_take] at hx
    split at hx
    · exact hc i x hx
    · cases hx
/-- Lists that an index can walk through. -/
def LensT (T : List Ty) : Prop := T.length ≤ 9223372036854775806 ∧ ∀ t ∈ T, t.ps.length ≤ 9223372036854775806
theorem LensT.at {T : List Ty} (h : LensT T) {i : Nat} {t : Ty} (ht : T[i]? = some t) : t.ps.length ≤ 9223372036854775806 := h.2 t (List.mem_of_getElem? ht)
end Go.Proofs.YtbgjgbddpcofcaaGreatDoor

/- Plain: which schemas may be one: what types.Check answers. -/
namespace Go.Proofs.YtbgjgbddpcofcaaGreatDoor
set_option linter.unusedVariables false

def hasE (k : Int) : Bool := decide (k = 4 ∨ k = 5 ∨ k = 6)
def inB (n e : Int) : Bool := decide (0 ≤ n ∧ n < e)
def isCnt (n : Int) : Bool := decide (1 ≤ n ∧ n ≤ 1048576)
def nOk (k n : Int) : Bool := decide ((k = 1 ∧ (n = 1 ∨ n = 2 ∨ n = 4 ∨ n = 8)) ∨ ((k = 4 ∨ k = 5) ∧ 1 ≤ n ∧ n ≤ 1048576) ∨ ((k = 2 ∨ k = 3 ∨ k = 6 ∨ k = 7 ∨ k = 8) ∧ n = 0))
def elemOk (k e i : Int) : Bool := if hasE k then inB e i else decide (e = 0)
def fieldOk (p : Ptz) : Bool := isName p.label && decide (p.tag = 0)
def armOk (p : Ptz) : Bool := decide (p.label = ⟨#[]⟩ ∧ 0 ≤ p.tag ∧ p.tag ≤ 255)
def likeP (q p : Ptz) : Bool := decide (q.label = p.label) && decide (q.tag = p.tag)
def thereP (l : List Ptz) (p : Ptz) : Bool := l.any (fun q => likeP q p)
def okP (r : Ptz → Bool) (ps : List Ptz) (i : Int) (j : Nat) : Bool := r (ps.getD j pt0) && !thereP (ps.take j) (ps.getD j pt0) && inB (ps.getD j pt0).ty i
def allP (r : Ptz → Bool) (ps : List Ptz) (i : Int) : Bool := decide (0 < ps.length ∧ ps.length ≤ 64) && (List.range ps.length).all (okP r ps i)
def partsOk (k : Int) (ps : List Ptz) (i : Int) : Bool := if k = 8 then allP fieldOk ps i else if k = 7 then allP armOk ps i else decide (ps.length = 0)
def tyOk (t : Ty) (i : Int) : Bool := nOk t.k t.n && elemOk t.k t.e i && partsOk t.k t.ps i
/-- The first number that it is true of. -/
def firstI (n : Nat) (p : Nat → Bool) : Option Nat := (List.range n).find? p
theorem firstI_none {n : Nat} {p : Nat → Bool} (h : ∀ j, j < n → p j = false) : firstI n p = none := by
  unfold firstI
  rw [List.find?_eq_none]
  intro x hx
  rw [h x (List.mem_range.1 hx)]
  decide
theorem firstI_some {n i : Nat} {p : Nat → Bool} (hi : i < n) (h1 : p i = true) (h : ∀ j, j < i → p j = false) : firstI n p = some i := by
  unfold firstI
  rw [List.find?_eq_some_iff_append]
  refine ⟨h1, List.range i, (List.range' (i + 1) (n - i - 1)), ?_, fun a ha => by rw [h a (List.mem_range.1 ha)]; rfl⟩
  have e : List.range n = List.range' 0 n := by rw [List.range_eq_range']
  have e2 : List.range i = List.range' 0 i := by rw [List.range_eq_range']
  rw [e, e2]
  have e3 : i :: List.range' (i + 1) (n - i - 1) = List.range' i (n - i) := by
    rw [show n - i = (n - i - 1) + 1 by omega, List.range'_succ]
    simp
  rw [e3]
  have := @List.range'_append_1 0 i (n - i)
  rw [Nat.zero_add, show i + (n - i) = n by omega] at this
  exact this.symm
theorem firstI_none' {n : Nat} {p : Nat → Bool} (h : firstI n p = none) : ∀ j, j < n → p j = false := fun j hj => by
  unfold firstI at h
  rw [List.find?_eq_none] at h
  have := h j (List.mem_range.2 hj)
  simpa using this
theorem snoc_ind {α : Type} {P : List α → Prop} (h0 : P []) (h1 : ∀ l x, P l → P (l ++ [x])) (l : List α) : P l := by
  have key : ∀ r : List α, P r.reverse := fun r => by
    induction r with
    | nil => exact h0
    | cons x r ih => rw [List.reverse_cons]; exact h1 _ _ ih
  have := key l.reverse
  rwa [List.reverse_reverse] at this
/-- Depths. -/
def kidD (l : List Int) (ps : List Ptz) (d : Int) : Int := ps.foldl (fun d p => max d (l.getD p.ty.toNat 0)) d
def dep1 (l : List Int) (t : Ty) : Int := kidD l t.ps (if hasE t.k then l.getD t.e.toNat 0 else 0) + 1
def depL (T : List Ty) : List Int := T.foldl (fun l t => l ++ [dep1 l t]) []
theorem depL_snoc (T : List Ty) (t : Ty) : depL (T ++ [t]) = depL T ++ [dep1 (depL T) t] := by simp [depL]
theorem depL_len (T : List Ty) : (depL T).length = T.length := by
  refine snoc_ind (P := fun T => (depL T).length = T.length) rfl (fun T t ih => ?_) T
  rw [depL_snoc]
  simp [ih]
theorem getD_app {α : Type} {l r : List α} {i : Nat} {d : α} (h : i < l.length) : (l ++ r).getD i d = l.getD i d := by
  simp only [List.getD, List.getElem?_append_left h]
theorem depL_pre (T R : List Ty) {i : Nat} (h : i < T.length) : (depL (T ++ R)).getD i 0 = (depL T).getD i 0 := by
  refine snoc_ind (P := fun R => (depL (T ++ R)).getD i 0 = (depL T).getD i 0) (by rw [List.append_nil]) (fun R t ih => ?_) R
  rw [← List.append_assoc, depL_snoc, getD_app (by rw [depL_len]; simp; omega)]
  exact ih
theorem depL_take (T : List Ty) {i m : Nat} (h : i < m) (hm : m ≤ T.length) : (depL (T.take m)).getD i 0 = (depL T).getD i 0 := by
  have := depL_pre (T.take m) (T.drop m) (i := i) (by simp; omega)
  rw [List.take_append_drop] at this
  exact this.symm
/-- Roots. -/
def findR (R : List Rt) (nm : ByteArray) : Nat := R.findIdx (fun q => decide (q.name = nm))
def rootOk (n : Nat) (R : List Rt) (i : Nat) : Bool := decide (i < 256) && isName (R.getD i rt0).name && inB (R.getD i rt0).ty n && decide (findR R (R.getD i rt0).name = i)
/-- What Check answers. -/
def chkR (n : Nat) (R : List Rt) : Int × Int := match firstI R.length (fun i => !rootOk n R i) with
  | some i => (92, (n : Int) + i)
  | none => (0, 0)
def chkD (T : List Ty) (R : List Rt) : Int × Int := match firstI T.length (fun i => decide (64 < (depL T).getD i 0)) with
  | some i => (83, (i : Int))
  | none => chkR T.length R
def chk (T : List Ty) (R : List Rt) : Int × Int := match firstI T.length (fun i => !tyOk (T.getD i ty0) i) with
  | some i => (92, (i : Int))
  | none => chkD T R
theorem chk_ty {T : List Ty} {R : List Rt} {i : Nat} (hi : i < T.length) (h1 : tyOk (T.getD i ty0) i = false) (h : ∀ j, j < i → tyOk (T.getD j ty0) j = true) : chk T R = (92, (i : Int)) := by
  have e := firstI_some (p := fun i => !tyOk (T.getD i ty0) i) hi (by simp only [h1]; rfl) (fun j hj => by simp only [h j hj]; rfl)
  unfold chk
  rw [e]
theorem chk_deep {T : List Ty} {R : List Rt} (h : ∀ j, j < T.length → tyOk (T.getD j ty0) j = true) : chk T R = chkD T R := by
  have e := firstI_none (n := T.length) (p := fun i => !tyOk (T.getD i ty0) i) (fun j hj => by simp only [h j hj]; rfl)
  unfold chk
  rw [e]
theorem chkD_at {T : List Ty} {R : List Rt} {i : Nat} (hi : i < T.length) (h1 : 64 < (depL T).getD i 0) (h : ∀ j, j < i → (depL T).getD j 0 ≤ 64) : chkD T R = (83, (i : Int)) := by
  have e := firstI_some (p := fun i => decide (64 < (depL T).getD i 0)) hi (decide_eq_true h1) (fun j hj => decide_eq_false (by have := h j hj; omega))
  unfold chkD
  rw [e]
theorem chkD_none {T : List Ty} {R : List Rt} (h : ∀ j, j < T.length → (depL T).getD j 0 ≤ 64) : chkD T R = chkR T.length R := by
  have e := firstI_none (p := fun i => decide (64 < (depL T).getD i 0)) (fun j hj => decide_eq_false (by have := h j hj; omega))
  unfold chkD
  rw [e]
theorem chkR_at {n : Nat} {R : List Rt} {i : Nat} (hi : i < R.length) (h1 : rootOk n R i = false) (h : ∀ j, j < i → rootOk n R j = true) : chkR n R = (92, (n : Int) + i) := by
  have e := firstI_some (p := fun i => !rootOk n R i) hi (by simp only [h1]; rfl) (fun j hj => by simp only [h j hj]; rfl)
  unfold chkR
  rw [e]
theorem chkR_none {n : Nat} {R : List Rt} (h : ∀ j, j < R.length → rootOk n R j = true) : chkR n R = (0, 0) := by
  have e := firstI_none (n := R.length) (p := fun i => !rootOk n R i) (fun j hj => by simp only [h j hj]; rfl)
  unfold chkR
  rw [e]
/-- What a schema that may be one is. -/
structure OkSz (T : List Ty) (R : List Rt) : Prop where
  ty : ∀ j, j < T.length → tyOk (T.getD j ty0) j = true
  dep : ∀ j, j < T.length → (depL T).getD j 0 ≤ 64
  root : ∀ j, j < R.length → rootOk T.length R j = true
theorem OkSz.chk {T : List Ty} {R : List Rt} (h : OkSz T R) : chk T R = (0, 0) := by rw [chk_deep h.ty, chkD_none h.dep, chkR_none h.root]
theorem okS_of {T : List Ty} {R : List Rt} (h : (chk T R).1 = 0) : OkSz T R := by
  unfold Go.Proofs.YtbgjgbddpcofcaaGreatDoor.chk at h
  cases h1 : firstI T.length (fun i => !tyOk (T.getD i ty0) i) with
  | some i => rw [h1] at h; simp at h
  | none =>
    rw [h1] at h
    simp only at h
    unfold chkD at h
    cases h2 : firstI T.length (fun i => decide (64 < (depL T).getD i 0)) with
    | some i => rw [h2] at h; simp at h
    | none =>
      rw [h2] at h
      simp only at h
      unfold chkR at h
      cases h3 : firstI R.length (fun i => !rootOk T.length R i) with
      | some i => rw [h3] at h; simp at h
      | none =>
        refine ⟨fun j hj => ?_, fun j hj => ?_, fun j hj => ?_⟩
        · have := firstI_none' h1 j hj; simpa using this
        · have := firstI_none' h2 j hj; simp at this; simpa using this
        · have := firstI_none' h3 j hj; simpa using this
theorem tyOk_parts {t : Ty} {i : Int} (h : tyOk t i = true) : nOk t.k t.n = true ∧ elemOk t.k t.e i = true ∧ partsOk t.k t.ps i = true := by
  unfold tyOk at h
  simp only [Bool.and_eq_true] at h
  exact ⟨h.1.1, h.1.2, h.2⟩
theorem tyOk_elem {t : Ty} {i : Int} (h : tyOk t i = true) (hk : hasE t.k = true) : 0 ≤ t.e ∧ t.e < i := by
  have := (tyOk_parts h).2.1
  unfold elemOk at this
  rw [if_pos hk] at this
  exact of_decide_eq_true this
theorem allP_at {r : Ptz → Bool} {ps : List Ptz} {i : Int} (h : allP r ps i = true) {j : Nat} {p : Ptz} (hp : ps[j]? = some p) : r p = true ∧ thereP (ps.take j) p = false ∧ 0 ≤ p.ty ∧ p.ty < i := by
  unfold allP at h
  rw [Bool.and_eq_true, List.all_eq_true] at h
  have hj := (List.getElem?_eq_some_iff.1 hp).1
  have := h.2 j (List.mem_range.2 hj)
  have e : ps.getD j pt0 = p := by simp [List.getD, hp]
  unfold okP at this
  rw [e] at this
  simp only [Bool.and_eq_true, Bool.not_eq_true', inB, decide_eq_true_eq] at this
  exact ⟨this.1.1, this.1.2, this.2⟩
theorem tyOk_part {t : Ty} {i : Int} (h : tyOk t i = true) {j : Nat} {p : Ptz} (hp : t.ps[j]? = some p) : 0 ≤ p.ty ∧ p.ty < i := by
  have := (tyOk_parts h).2.2
  unfold partsOk at this
  split at this
  · exact (allP_at this hp).2.2
  · split at this
    · exact (allP_at this hp).2.2
    · have hj := (List.getElem?_eq_some_iff.1 hp).1
      simp at this
      rw [this] at hj
      simp at hj
theorem tyOk_len {t : Ty} {i : Int} (h : tyOk t i = true) : t.ps.length ≤ 64 := by
  have := (tyOk_parts h).2.2
  unfold partsOk at this
  have key : ∀ r, allP r t.ps i = true → t.ps.length ≤ 64 := fun r hr => by
    unfold allP at hr
    rw [Bool.and_eq_true, decide_eq_true_eq] at hr
    omega
  split at this
  · exact key _ this
  · split at this
    · exact key _ this
    · simp at this
      simp [this]
end Go.Proofs.YtbgjgbddpcofcaaGreatDoor

/- Lists of types of the call's own. -/
namespace Go.Proofs.YtbgjgbddpcofcaaGreatDoor
open Go.RowKit
set_option linter.unusedVariables false

/-! ### Lists of types of the call's own: each type with the slice of its parts -/
def tyq (p : Ty × Value) : List Value := tyc p.1 p.2
theorem tyq_len (p : Ty × Value) : (tyq p).length = 4 := rfl
/-- A type's parts lie in older memory, or in a block of parts. -/
def PtIn (w : World) (B : Nat) (ps : List Ptz) (u : Value) : Prop := ∃ va vc, u = .slice va ps.length vc ∧ ps.length ≤ vc ∧ (va = none → vc = 0) ∧ PRow w va ps ∧ (ps = [] ∨ ∀ x, va = some x → x.block < B ∨ ∃ ys, Blk w x.block 67 ys)
def TOwn (w : World) (B : Nat) (v : Value) (Q : List (Ty × Value)) : Prop := w.ownsRow B 49 4 v Q.length (cellsG tyq Q) ∧ ∀ p ∈ Q, PtIn w B p.1.ps p.2
theorem PtIn.upd {w w' : World} {B : Nat} {ps : List Ptz} {u : Value} {S : Nat → Prop} (h : PtIn w B ps u) (hu : Upd S w w') (hs : ∀ k, S k → B ≤ k) (hn : ∀ k ys, S k → Blk w k 67 ys → False) : PtIn w' B ps u := by
  obtain ⟨va, vc, e, h1, h2, h3, h4⟩ := h
  rcases h4 with h4 | h4
  · exact ⟨va, vc, e, h1, h2, .inl h4, .inl h4⟩
  have key : ∀ x, va = some x → ¬ S x.block := fun x hx hS => by
    rcases h4 x hx with h | ⟨ys, h⟩
    · have := hs _ hS; omega
    · exact hn _ ys hS h
  refine ⟨va, vc, e, h1, h2, h3.upd hu key, .inr (fun x hx => ?_)⟩
  rcases h4 x hx with h | ⟨ys, h⟩
  · exact .inl h
  · exact .inr ⟨ys, h.upd hu (key x hx)⟩
theorem TOwn.later {w w' : World} {B : Nat} {v : Value} {Q : List (Ty × Value)} (h : TOwn w B v Q) (hB : Below w.heap.size w w') : TOwn w' B v Q :=
  ⟨ownS_upd h.1 (Upd.of_below (S := fun _ => False) hB) (fun _ _ h => h), fun p hp => (h.2 p hp).upd (Upd.of_below (S := fun _ => False) hB) (fun _ h => h.elim) (fun _ _ h => h.elim)⟩
/-- A store into a block of another type. -/
theorem TOwn.other {w : World} {B : Nat} {v : Value} {Q : List (Ty × Value)} (h : TOwn w B v Q) {g : Nat} {t : TypeId} {ys : List Value} (hb : Blk w g t ys) (hg : B ≤ g) (h1 : t ≠ 49) (h2 : t ≠ 67) (i : Nat) (u : Value) : TOwn (w.setCell ⟨g, i, none⟩ u) B v Q := by
  have hu : Upd (fun k => k = g) w (w.setCell ⟨g, i, none⟩ u) := (Upd.refl _ w).set _ _ (.inl rfl)
  refine ⟨ownS_upd h.1 hu (fun k hk e => ?_), fun p hp => (h.2 p hp).upd hu (fun k e => by omega) (fun k zs e hz => ?_)⟩
  · obtain ⟨zs, hz⟩ := ownS_type h.1 hk
    subst e
    exact h1 (blk_type hb hz)
  · subst e
    exact h2 (blk_type hb hz)
theorem infoT : (Tryz.prog.info? 49).map (fun i => (i.zero, i.size, i.bytes)) = some (some (.agg #[.int .i64 0, .int .i64 0, .int .i64 0, .slice none 0 0]), 4, 48) := by kernel_rfl
theorem TOwn.push {w : World} {B : Nat} {v : Value} {Q : List (Ty × Value)} (h : TOwn w B v Q) (t : Ty) (u : Value) (hu1 : u.oneCell' = true) (ht : PtIn w B t.ps u) (hl : Q.length ≤ 1000000000) (hB : B ≤ w.heap.size) :
    ∃ v' w', (Builtin.append_ #[26, 26] 26 #[v, .slice (some ⟨w.heap.size, 0, none⟩) 1 1]).run Tryz.prog (w.alloc (.cells #[.int .i64 t.k, .int .i64 t.n, .int .i64 t.e, u] 49)) = .ok v' w' ∧ TOwn w' B v' (Q ++ [(t, u)]) ∧ Upd (fun k => v.ownBlock = some k) w w' ∧ ∃ g c, v' = .slice (some ⟨g, 0, none⟩) (Q.length + 1) c := by
  obtain ⟨g, cap, w', h1, h2, h3, h4⟩ := run_pushS (P := Tryz.prog) (t := 26) (e := 49) (c := 4) Tryz.underlying26 infoT rfl (by decide) w 26 h.1 (tyc t u) rfl (fun x hx => by simp [tyc] at hx; rcases hx with rfl | rfl | rfl | rfl; rfl; rfl; rfl; exact hu1) (by unfold maxLen; omega) (by omega) hB
  have hs : ∀ k, v.ownBlock = some k → B ≤ k := fun k hk => (h.1.lt k hk).1
  have hn : ∀ k ys, v.ownBlock = some k → Blk w k 67 ys → False := fun k ys hk hb => by
    obtain ⟨zs, hz⟩ := ownS_type h.1 hk
    exact absurd (blk_type hz hb) (by decide)
  refine ⟨_, w', h1, ⟨?_, fun p hp => ?_⟩, h3, g, cap, rfl⟩
  · rw [cellsG_app, cellsG_one, List.length_append, List.length_singleton]
    exact h2
  · rcases List.mem_append.1 hp with hp | hp
    · exact (h.2 p hp).upd h3 hs hn
    · simp at hp
      subst hp
      exact ht.upd h3 hs hn
theorem TOwn.row {w : World} {B : Nat} {v : Value} {Q : List (Ty × Value)} (h : TOwn w B v Q) : ∃ a cap, v = .slice a (Q.map (·.1)).length cap ∧ TRowz w a (Q.map (·.1)) := by
  obtain ⟨a, cap, rfl, -, -, hr⟩ := own_grow tyq_len h.1
  refine ⟨a, cap, by rw [List.length_map], ?_⟩
  rcases hr with rfl | ⟨b, off, rfl, hb, hc⟩
  · exact .inl rfl
  · refine .inr ⟨b, off, rfl, hb, fun i t ht => ?_⟩
    rw [List.getElem?_map, Option.map_eq_some_iff] at ht
    obtain ⟨p, hp, rfl⟩ := ht
    obtain ⟨va, vc, e, h1, h2, h3, -⟩ := h.2 p (List.mem_of_getElem? hp)
    refine ⟨va, vc, fun j hj => ?_, h1, h2, h3⟩
    rw [← e]
    exact hc i p hp j hj
theorem retSc {fn : Func} {p : Tmp} (h : fn.results = #[.cell p 29]) {R : Ending → World → Prop} {tmps : Array Value} {g : Nat} {w : World} {x y : Value} (hp : tmps.getD p undef = .pointer (some ⟨g, 0, none⟩)) (hK : Blk w g 29 [x, y]) (hR : R (.returned (.agg #[x, y])) w) :
    bodyPost Tryz.prog fn R Exit.ret ⟨tmps, []⟩ w :=
  bodyPost_ret (results_cell_rowz h _ _ _ _ #[x, y] _ _ hp (show w.heap[g]? = some (.cells #[x, y] 29 (0, 0)) from hK) Tryz.underlying29 rfl (by show _ = some 2; kernel_rfl)) rfl hR

def cut1z (t : Ty) : Ty := ⟨t.k, t.n, t.e, t.ps.take 70⟩
def cutTz (T : List Ty) : List Ty := (T.take 120).map cut1z
theorem cutT_succ {T : List Ty} {i : Nat} {t : Ty} (h : T[i]? = some t) : (T.take (i + 1)).map cut1z = (T.take i).map cut1z ++ [cut1z t] := by
  have hi := (List.getElem?_eq_some_iff.1 h).1
  rw [List.take_succ_eq_append_getElem hi, (List.getElem?_eq_some_iff.1 h).2, List.map_append]
  rfl
theorem cut1_len (t : Ty) : (cut1z t).ps.length = min 70 t.ps.length := by simp [cut1z]
theorem infoR : (Tryz.prog.info? 51).map (fun i => (i.zero, i.size, i.bytes)) = some (some (.agg #[.string ⟨#[]⟩, .int .i64 0]), 2, 24) := by kernel_rfl
/-- A list of roots of the call's own. -/
def ROwn (w : World) (B : Nat) (v : Value) (l : List Rt) : Prop := w.ownsRow B 51 2 v l.length (cellsG rtc l)
theorem rtc_one (l : List Rt) : ∀ u ∈ cellsG rtc l, u.oneCell' = true := by
  intro u hu
  simp only [cellsG, List.mem_flatMap] at hu
  obtain ⟨x, _, hx⟩ := hu
  simp [rtc] at hx
  rcases hx with rfl | rfl <;> rfl
set_option maxRecDepth 100000 in
/-- append(nil, x...), x a row of roots. -/
theorem run_copyR (w : World) (B : Nat) (a : Option Addr) (n cap : Nat) (l : List Rt) (hn : l.length = n) (hr : RRow w a l) (hnil : a = none → cap = 0) (hl : n ≤ 1000000) (hB : B ≤ w.heap.size) :
    ∃ v' w', (Builtin.append_ #[27, 27] 27 #[.slice none 0 0, .slice a n cap]).run Tryz.prog w = .ok v' w' ∧ ROwn w' B v' l ∧ Below w.heap.size w w' ∧ (∃ a' c', v' = .slice a' n c') := by
  subst hn
  obtain ⟨i0, hi, hz0, hz1, hz2⟩ := info_parts infoR
  rcases hr with rfl | ⟨b, off, rfl, hb, hc⟩
  · cases a with
    | none =>
      obtain rfl := hnil rfl
      exact ⟨_, w, run_append_owned_none (P := Tryz.prog) w w.heap.size 27 27 51 i0 2 Tryz.underlying27 hi (.slice none 0 0) 0 [] (World.ownsRow_nil _ _ _ _), World.ownsRow_nil _ _ _ _, Below.refl _ _, _, _, rfl⟩
    | some x =>
      obtain ⟨v', w', hrun, h2, h3, h4, h5⟩ := run_append_own_at (P := Tryz.prog) w w.heap.size 27 27 51 i0 _ 2 24 Tryz.underlying27 hi hz0 hz1 hz2 rfl (by decide) (.slice none 0 0) 0 [] (World.ownsRow_nil _ _ _ _) x 0 cap [] rfl (fun j u hj => by simp at hj) (fun u hu => by cases hu) (by unfold maxLen; omega) (by omega) (Nat.le_refl _)
      have hg := (Upd.refl (fun _ => False) w).grown h3 (fun k hk => by cases hk)
      simp only [List.append_nil, Nat.add_zero] at h2
      have h6 : ROwn w' B v' [] := by have h := own_basez h2 hB; simpa [ROwn, cellsG] using h
      refine ⟨v', w', by simpa using hrun, h6, hg.below w.heap.size (Nat.le_refl _) (fun k hk => hk.elim), ?_⟩
      obtain ⟨a', c', e, _⟩ := own_grow rtc_len h6
      exact ⟨a', c', e⟩
  · have hcell : ∀ j u, (cellsG rtc l)[j]? = some u → w.cell? ((⟨b, off, none⟩ : Addr).add j) = some u := fun j u hj => by
      have hlt := (List.getElem?_eq_some_iff.1 hj).1
      rw [cellsG_len rtc_len] at hlt
      have hi : j / 2 < l.length := by omega
      have hx : l[j / 2]? = some (l[j / 2]'hi) := List.getElem?_eq_getElem hi
      have h1 := hc (j / 2) _ hx (j % 2) (Nat.mod_lt _ (by decide))
      have h2 := cellsG_at rtc_len l (j / 2) (j % 2) _ hx (Nat.mod_lt _ (by decide))
      have e : j / 2 * 2 + j % 2 = j := by omega
      rw [e] at h2
      rw [add_none, ← hj, h2, ← h1]
      congr 2
      omega
    obtain ⟨v', w', hrun, h2, h3, h4, h5⟩ := run_append_own_at (P := Tryz.prog) w w.heap.size 27 27 51 i0 _ 2 24 Tryz.underlying27 hi hz0 hz1 hz2 rfl (by decide) (.slice none 0 0) 0 [] (World.ownsRow_nil _ _ _ _) ⟨b, off, none⟩ l.length cap (cellsG rtc l) (cellsG_len rtc_len l) hcell (rtc_one l) (by unfold maxLen; omega) (by omega) (Nat.le_refl _)
    rw [Nat.zero_add, List.nil_append] at h2
    have hg := (Upd.refl (fun _ => False) w).grown h3 (fun k hk => by cases hk)
    have h6 : ROwn w' B v' l := own_basez h2 hB
    refine ⟨v', w', hrun, h6, hg.below _ (Nat.le_refl _) (fun k hk => hk.elim), ?_⟩
    obtain ⟨a', c', e, _⟩ := own_grow rtc_len h6
    exact ⟨a', c', e⟩
end Go.Proofs.YtbgjgbddpcofcaaGreatDoor

/- Rows of structs of any kind: copied by append, written over; parts of the call's own. -/
namespace Go.Proofs.YtbgjgbddpcofcaaGreatDoor
open Go.RowKit
set_option linter.unusedVariables false

theorem row_set_at {α : Type} {c : Nat} {f : α → List Value} (hf : ∀ x, (f x).length = c) (l : List α) (i : Nat) (y : α) (hi : i < l.length) (j : Nat) (hj : j < l.length * c) : (cellsG f (l.set i y))[j]? = if i * c ≤ j ∧ j < i * c + c then (f y)[j - i * c]? else (cellsG f l)[j]? := by
  rcases Nat.eq_zero_or_pos c with h0 | h0
  · subst h0; simp at hj
  have hq : j / c < l.length := Nat.div_lt_of_lt_mul (by rw [Nat.mul_comm]; exact hj)
  have hjm : j = j / c * c + j % c := by rw [Nat.mul_comm]; exact (Nat.div_add_mod j c).symm
  have hml := Nat.mod_lt j h0
  by_cases he : j / c = i
  · have hx : (l.set i y)[j / c]? = some y := by rw [he, List.getElem?_set_self hi]
    have h := cellsG_at hf (l.set i y) (j / c) (j % c) y hx hml
    rw [← hjm] at h
    rw [h, if_pos (by rw [← he]; omega)]
    congr 1
    rw [← he]
    omega
  · have hx : (l.set i y)[j / c]? = some (l[j / c]'hq) := by rw [List.getElem?_set_ne (fun h => he h.symm)]; exact List.getElem?_eq_getElem hq
    have h := cellsG_at hf (l.set i y) (j / c) (j % c) _ hx hml
    have h2 := cellsG_at hf l (j / c) (j % c) _ (List.getElem?_eq_getElem hq) hml
    rw [← hjm] at h h2
    rw [h, h2, if_neg]
    intro ⟨h3, h4⟩
    apply he
    refine Nat.div_eq_of_lt_le h3 ?_
    rw [Nat.add_mul, Nat.one_mul]
    exact h4
/-- The cells of an element of four cells written over. -/
theorem row_set4 {α : Type} {f : α → List Value} (hf : ∀ x, (f x).length = 4) {w : World} {B g n cap i : Nat} {e : TypeId} {l : List α} (h : w.ownsRow B e 4 (.slice (some ⟨g, 0, none⟩) n cap) l.length (cellsG f l)) (hi : i < l.length) (y : α) (y0 y1 y2 y3 : Value) (hy : f y = [y0, y1, y2, y3]) :
    ((((w.setCell ⟨g, i * 4, none⟩ y0).setCell ⟨g, i * 4 + 1, none⟩ y1).setCell ⟨g, i * 4 + 2, none⟩ y2).setCell ⟨g, i * 4 + 3, none⟩ y3).ownsRow B e 4 (.slice (some ⟨g, 0, none⟩) n cap) (l.set i y).length (cellsG f (l.set i y)) := by
  obtain ⟨g', cap', ys, e, hb, hn, hm, hys, ht, hk⟩ := ownS_blk h (by omega)
  injection e with e1 e2 e3
  injection e1 with e1
  injection e1 with e1 _ _
  subst e1 e2 e3
  have hk2 := (((hk.set (i * 4) y0).set (i * 4 + 1) y1).set (i * 4 + 2) y2).set (i * 4 + 3) y3
  have h2 := ownS_of_blk (B := B) (n := l.length) (c := 4) (cap := cap) hk2 hb (by simp [hys]) hn hm
  have e4 : ((((ys.set (i * 4) y0).set (i * 4 + 1) y1).set (i * 4 + 2) y2).set (i * 4 + 3) y3).take (l.length * 4) = cellsG f (l.set i y) := by
    apply List.ext_getElem?
    intro j
    by_cases hj : j < l.length * 4
    · rw [row_set_at hf l i y hi j hj, List.getElem?_take, if_pos hj, ← ht]
      have hjy : j < ys.length := by rw [hys]; have := Nat.mul_le_mul_right 4 hn; omega
      by_cases h0 : j = i * 4
      · subst h0
        rw [if_pos (by omega), List.getElem?_set_ne (by omega), List.getElem?_set_ne (by omega), List.getElem?_set_ne (by omega), List.getElem?_set_self hjy, hy]
        simp
      · by_cases h1 : j = i * 4 + 1
        · subst h1
          rw [if_pos (by omega), List.getElem?_set_ne (by omega), List.getElem?_set_ne (by omega), List.getElem?_set_self (by simpa using hjy), hy]
          simp
        · by_cases h2 : j = i * 4 + 2
          · subst h2
            rw [if_pos (by omega), List.getElem?_set_ne (by omega), List.getElem?_set_self (by simpa using hjy), hy]
            simp
          · by_cases h3 : j = i * 4 + 3
            · subst h3
              rw [if_pos (by omega), List.getElem?_set_self (by simpa using hjy), hy]
              simp
            · rw [if_neg (by omega), List.getElem?_set_ne (by omega), List.getElem?_set_ne (by omega), List.getElem?_set_ne (by omega), List.getElem?_set_ne (by omega), List.getElem?_take, if_pos hj]
    · rw [List.getElem?_eq_none (by simp; omega), List.getElem?_eq_none (by rw [cellsG_len hf]; simp; omega)]
  rw [List.length_set, ← e4]
  exact h2
set_option maxRecDepth 100000 in
/-- append(nil, x...), x a row of structs of any kind: new memory. -/
theorem run_copyG {α : Type} {c : Nat} {f : α → List Value} {P : Program} {t e : TypeId} {z : Value} {bytes : Nat} (hf : ∀ x, (f x).length = c) (hone : ∀ x, ∀ u ∈ f x, u.oneCell' = true) (ht : P.underlying t = some (.slice e)) (hinfo : (P.info? e).map (fun i => (i.zero, i.size, i.bytes)) = some (some z, c, bytes)) (hzs : z.cells.size = c) (hc : 0 < c)
    (w : World) (a : Option Addr) (n cap : Nat) (l : List α) (hn : l.length = n) (hr : GRow c f w a l) (hnil : a = none → cap = 0) (h63 : n ≤ maxLen) (hl : n * bytes ≤ 140737488355328) :
    ∃ v' w', (Builtin.append_ #[t, t] t #[.slice none 0 0, .slice a n cap]).run P w = .ok v' w' ∧ w'.ownsRow w.heap.size e c v' n (cellsG f l) ∧ Below w.heap.size w w' := by
  subst hn
  have hall : ∀ u ∈ cellsG f l, u.oneCell' = true := fun u hu => by
    simp only [cellsG, List.mem_flatMap] at hu
    obtain ⟨x, _, hx⟩ := hu
    exact hone x u hx
  obtain ⟨i0, hi, hz0, hz1, hz2⟩ := info_parts hinfo
  rcases hr with rfl | ⟨b, off, rfl, hb, hcl⟩
  · cases a with
    | none =>
      obtain rfl := hnil rfl
      exact ⟨_, w, run_append_owned_none (P := P) w w.heap.size t t e i0 c ht hi (.slice none 0 0) 0 [] (World.ownsRow_nil _ _ _ _), World.ownsRow_nil _ _ _ _, Below.refl _ _⟩
    | some x =>
      obtain ⟨v', w', hrun, h2, h3, h4, h5⟩ := run_append_own_at (P := P) w w.heap.size t t e i0 z c bytes ht hi hz0 hz1 hz2 hzs hc (.slice none 0 0) 0 [] (World.ownsRow_nil _ _ _ _) x 0 cap [] (by simp) (fun j u hj => by simp at hj) (fun u hu => by cases hu) (by unfold maxLen; omega) (by omega) (Nat.le_refl _)
      have hg := (Upd.refl (fun _ => False) w).grown h3 (fun k hk => by cases hk)
      simp only [List.append_nil, Nat.add_zero] at h2
      exact ⟨v', w', by simpa using hrun, by simpa [cellsG] using h2, hg.below w.heap.size (Nat.le_refl _) (fun k hk => hk.elim)⟩
  · have hcell : ∀ j u, (cellsG f l)[j]? = some u → w.cell? ((⟨b, off, none⟩ : Addr).add j) = some u := fun j u hj => by
      have hlt := (List.getElem?_eq_some_iff.1 hj).1
      rw [cellsG_len hf] at hlt
      have hi : j / c < l.length := Nat.div_lt_of_lt_mul (by rw [Nat.mul_comm]; exact hlt)
      have hx : l[j / c]? = some (l[j / c]'hi) := List.getElem?_eq_getElem hi
      have h1 := hcl (j / c) _ hx (j % c) (Nat.mod_lt _ hc)
      have h2 := cellsG_at hf l (j / c) (j % c) _ hx (Nat.mod_lt _ hc)
      have e : j / c * c + j % c = j := by rw [Nat.mul_comm]; exact Nat.div_add_mod j c
      rw [e] at h2
      rw [add_none, ← hj, h2, ← h1]
      congr 2
      omega
    obtain ⟨v', w', hrun, h2, h3, h4, h5⟩ := run_append_own_at (P := P) w w.heap.size t t e i0 z c bytes ht hi hz0 hz1 hz2 hzs hc (.slice none 0 0) 0 [] (World.ownsRow_nil _ _ _ _) ⟨b, off, none⟩ l.length cap (cellsG f l) (cellsG_len hf l) hcell hall (by omega) (by rw [Nat.zero_add]; exact hl) (Nat.le_refl _)
    rw [Nat.zero_add, List.nil_append] at h2
    have hg := (Upd.refl (fun _ => False) w).grown h3 (fun k hk => by cases hk)
    exact ⟨v', w', hrun, h2, hg.below _ (Nat.le_refl _) (fun k hk => hk.elim)⟩
/-! ### Parts of the call's own -/
theorem infoP : (Tryz.prog.info? 67).map (fun i => (i.zero, i.size, i.bytes)) = some (some (.agg #[.string ⟨#[]⟩, .int .i64 0, .int .i64 0]), 3, 32) := by kernel_rfl
def POwn (w : World) (B : Nat) (v : Value) (l : List Ptz) : Prop := w.ownsRow B 67 3 v l.length (cellsG ptc l)
theorem ptc_one (p : Ptz) : ∀ u ∈ ptc p, u.oneCell' = true := fun u hu => by
  simp [ptc] at hu
  rcases hu with rfl | rfl | rfl <;> rfl
theorem POwn.later {w w' : World} {B : Nat} {v : Value} {l : List Ptz} (h : POwn w B v l) (hB : Below w.heap.size w w') : POwn w' B v l := ownS_upd h (Upd.of_below (S := fun _ => False) hB) (fun _ _ h => h)
/-- append(nil, parts...). -/
theorem copyP (w : World) (a : Option Addr) (cap : Nat) (l : List Ptz) (hr : PRow w a l) (hnil : a = none → cap = 0) (hl : l.length ≤ 1000000) :
    ∃ v' w', (Builtin.append_ #[47, 47] 47 #[.slice none 0 0, .slice a l.length cap]).run Tryz.prog w = .ok v' w' ∧ POwn w' w.heap.size v' l ∧ Below w.heap.size w w' :=
  run_copyG (P := Tryz.prog) ptc_len ptc_one Tryz.underlying47 infoP rfl (by decide) w a l.length cap l rfl hr hnil (by unfold maxLen; omega) (by omega)
/-- append(v, part). -/
theorem POwn.push {w : World} {B : Nat} {v : Value} {l : List Ptz} (h : POwn w B v l) (p : Ptz) (hl : l.length ≤ 1000000) (hB : B ≤ w.heap.size) :
    ∃ g cap w', (Builtin.append_ #[47, 47] 47 #[v, .slice (some ⟨w.heap.size, 0, none⟩) 1 1]).run Tryz.prog (w.alloc (.cells #[.string p.label, .int .i64 p.tag, .int .i64 p.ty] 67)) = .ok (.slice (some ⟨g, 0, none⟩) (l.length + 1) cap) w' ∧ POwn w' B (.slice (some ⟨g, 0, none⟩) (l.length + 1) cap) (l ++ [p]) ∧ Below B w w' := by
  obtain ⟨g, cap, w', h1, h2, h3, h4⟩ := run_pushS (P := Tryz.prog) (t := 47) (e := 67) (c := 3) Tryz.underlying47 infoP rfl (by decide) w 47 h (ptc p) rfl (ptc_one p) (by unfold maxLen; omega) (by omega) hB
  refine ⟨g, cap, w', h1, ?_, h3.below B hB (fun k hk => (h.lt k hk).1)⟩
  unfold POwn
  rw [cellsG_app, cellsG_one, List.length_append, List.length_singleton]
  exact h2
/-- As a type's parts. -/
theorem POwn.ptIn {w : World} {B B' : Nat} {v : Value} {l : List Ptz} (h : POwn w B v l) : PtIn w B' l v := by
  obtain ⟨a, cap, rfl, h1, h2, h3⟩ := own_grow ptc_len h
  refine ⟨a, cap, rfl, h1, h2, h3, .inr (fun x hx => ?_)⟩
  subst hx
  rcases h.2 with ⟨e, _⟩ | ⟨g, cap', cur, e, _⟩
  · cases e
  · injection e with e1 _ _
    injection e1 with e1
    subst e1
    obtain ⟨ys, hy⟩ := ownS_type h (k := g) rfl
    exact .inr ⟨ys, hy⟩
/-! ### A type written over in a list of the call's own -/
theorem TOwn.set4 {w : World} {B g n cap i : Nat} {Q : List (Ty × Value)} (h : TOwn w B (.slice (some ⟨g, 0, none⟩) n cap) Q) (hi : i < Q.length) (t : Ty) (u : Value) (ht : PtIn w B t.ps u) :
    TOwn ((((w.setCell ⟨g, i * 4, none⟩ (.int .i64 t.k)).setCell ⟨g, i * 4 + 1, none⟩ (.int .i64 t.n)).setCell ⟨g, i * 4 + 2, none⟩ (.int .i64 t.e)).setCell ⟨g, i * 4 + 3, none⟩ u) B (.slice (some ⟨g, 0, none⟩) n cap) (Q.set i (t, u)) ∧
    Upd (fun k => k = g) w ((((w.setCell ⟨g, i * 4, none⟩ (.int .i64 t.k)).setCell ⟨g, i * 4 + 1, none⟩ (.int .i64 t.n)).setCell ⟨g, i * 4 + 2, none⟩ (.int .i64 t.e)).setCell ⟨g, i * 4 + 3, none⟩ u) := by
  have hu : Upd (fun k => k = g) w ((((w.setCell ⟨g, i * 4, none⟩ (.int .i64 t.k)).setCell ⟨g, i * 4 + 1, none⟩ (.int .i64 t.n)).setCell ⟨g, i * 4 + 2, none⟩ (.int .i64 t.e)).setCell ⟨g, i * 4 + 3, none⟩ u) :=
    ((((Upd.refl (fun k => k = g) w).set ⟨g, i * 4, none⟩ (.int .i64 t.k) (.inl rfl)).set ⟨g, i * 4 + 1, none⟩ (.int .i64 t.n) (.inl rfl)).set ⟨g, i * 4 + 2, none⟩ (.int .i64 t.e) (.inl rfl)).set ⟨g, i * 4 + 3, none⟩ u (.inl rfl)
  obtain ⟨zs, hz⟩ := ownS_type h.1 (k := g) rfl
  have hg := (World.ownsRow.lt h.1 g rfl).1
  have hn : ∀ k ys, k = g → Blk w k 67 ys → False := fun k ys e hb => by
    subst e
    exact absurd (blk_type hz hb) (by decide)
  refine ⟨⟨row_set4 tyq_len h.1 hi (t, u) _ _ _ _ rfl, fun p hp => ?_⟩, hu⟩
  rcases List.mem_or_eq_of_mem_set hp with hp | rfl
  · exact (h.2 p hp).upd hu (fun k e => by omega) hn
  · exact ht.upd hu (fun k e => by omega) hn
theorem TOwn.at4 {w : World} {B g n cap i : Nat} {Q : List (Ty × Value)} {p : Ty × Value} (h : TOwn w B (.slice (some ⟨g, 0, none⟩) n cap) Q) (hx : Q[i]? = some p) : w.cell? ⟨g, i * 4, none⟩ = some (.int .i64 p.1.k) ∧ w.cell? ⟨g, i * 4 + 1, none⟩ = some (.int .i64 p.1.n) ∧ w.cell? ⟨g, i * 4 + 2, none⟩ = some (.int .i64 p.1.e) ∧ w.cell? ⟨g, i * 4 + 3, none⟩ = some p.2 := by
  obtain ⟨a, c, e, -, -, hr⟩ := own_grow tyq_len h.1
  injection e with e1 _ _
  subst e1
  obtain ⟨b, off, e2, -, hc⟩ := hr.open (by have := (List.getElem?_eq_some_iff.1 hx).1; omega)
  injection e2 with e2
  injection e2 with e3 e4 _
  subst e3 e4
  have h0 := hc i p hx 0 (by decide); have h1 := hc i p hx 1 (by decide); have h2 := hc i p hx 2 (by decide); have h3 := hc i p hx 3 (by decide)
  simp only [Nat.zero_add, Nat.add_zero] at h0 h1 h2 h3
  exact ⟨h0, h1, h2, h3⟩
theorem TOwn.fr {w : World} {B g n cap : Nat} {Q : List (Ty × Value)} (h : TOwn w B (.slice (some ⟨g, 0, none⟩) n cap) Q) (i : Nat) : w.frozen? ⟨g, i, none⟩ = false := by
  obtain ⟨ys, hy⟩ := ownS_type h.1 (k := g) rfl
  exact hy.frozen i
/-! ### Lists of types and roots: read, kept -/
theorem town_row {w : World} {B n cap : Nat} {a : Option Addr} {Q : List (Ty × Value)} {U : List Ty} (h : TOwn w B (.slice a n cap) Q) (hQ : Q.map (·.1) = U) : TRowz w a U := by
  obtain ⟨a', cap', e, hr⟩ := h.row
  injection e with e1 _ _
  subst e1
  rw [hQ] at hr
  exact hr
theorem rown_row {w : World} {B n cap : Nat} {a : Option Addr} {l : List Rt} (h : ROwn w B (.slice a n cap) l) : RRow w a l := by
  obtain ⟨a', cap', e, -, -, hr⟩ := own_grow rtc_len h
  injection e with e1 _ _
  subst e1
  exact hr
theorem ROwn.later {w w' : World} {B : Nat} {v : Value} {l : List Rt} (h : ROwn w B v l) (hB : Below w.heap.size w w') : ROwn w' B v l := ownS_upd h (Upd.of_below (S := fun _ => False) hB) (fun _ _ h => h)
theorem ROwn.other {w : World} {B : Nat} {v : Value} {l : List Rt} (h : ROwn w B v l) {g : Nat} {t : TypeId} {ys : List Value} (hb : Blk w g t ys) (ht : t ≠ 51) (i : Nat) (u : Value) : ROwn (w.setCell ⟨g, i, none⟩ u) B v l :=
  ownS_upd h ((Upd.refl (fun k => k = g) w).set _ _ (.inl rfl)) (fun k hk e => by
    obtain ⟨zs, hz⟩ := ownS_type h hk
    subst e
    exact ht (blk_type hb hz))
theorem st2 {w : World} {B g : Nat} {v vR : Value} {Q : List (Ty × Value)} {l : List Rt} {x0 x1 : Value} (hT : TOwn w B v Q) (hR : ROwn w B vR l) (hK : Blk w g 29 [x0, x1]) (hg : B ≤ g) (y0 y1 : Value) : TOwn ((w.setCell ⟨g, 0, none⟩ y0).setCell ⟨g, 1, none⟩ y1) B v Q ∧ ROwn ((w.setCell ⟨g, 0, none⟩ y0).setCell ⟨g, 1, none⟩ y1) B vR l := by
  have k1 := hK.set 0 y0
  exact ⟨(hT.other hK hg (by decide) (by decide) 0 y0).other k1 hg (by decide) (by decide) 1 y1, (hR.other hK (by decide) 0 y0).other k1 (by decide) 1 y1⟩
theorem cutT_lens (T : List Ty) : LensT (cutTz T) := ⟨by simp [cutTz]; omega, fun t ht => by
  simp only [cutTz, List.mem_map] at ht
  obtain ⟨u, -, rfl⟩ := ht
  rw [cut1_len]
  omega⟩
theorem TOwn.updN {w w' : World} {B : Nat} {v : Value} {Q : List (Ty × Value)} (h : TOwn w B v Q) {g : Nat} {t : TypeId} {ys : List Value} (hu : Upd (fun k => k = g) w w') (hb : Blk w g t ys) (hg : B ≤ g) (h1 : t ≠ 49) (h2 : t ≠ 67) : TOwn w' B v Q := by
  refine ⟨ownS_upd h.1 hu (fun k hk e => ?_), fun p hp => (h.2 p hp).upd hu (fun k e => by omega) (fun k zs e hz => ?_)⟩
  · obtain ⟨zs, hz⟩ := ownS_type h.1 hk
    subst e
    exact h1 (blk_type hb hz)
  · subst e
    exact h2 (blk_type hb hz)
theorem ROwn.updN {w w' : World} {B : Nat} {v : Value} {l : List Rt} (h : ROwn w B v l) {g : Nat} {t : TypeId} {ys : List Value} (hu : Upd (fun k => k = g) w w') (hb : Blk w g t ys) (h1 : t ≠ 51) : ROwn w' B v l :=
  ownS_upd h hu (fun k hk e => by
    obtain ⟨zs, hz⟩ := ownS_type h hk
    subst e
    exact h1 (blk_type hb hz))
end Go.Proofs.YtbgjgbddpcofcaaGreatDoor

/- Lists lent with a mark behind them: what lies in memory. -/
namespace Go.Proofs.YtbgjgbddpcofcaaGreatDoor
open Go.RowKit
set_option linter.unusedVariables false

set_option maxRecDepth 100000 in
/-- append(v, x...), x a row of structs of any kind, v a row of the call's own. -/
theorem run_appG {α : Type} {c : Nat} {f : α → List Value} {P : Program} {t e : TypeId} {z : Value} {bytes : Nat} (hf : ∀ x, (f x).length = c) (hone : ∀ x, ∀ u ∈ f x, u.oneCell' = true) (ht : P.underlying t = some (.slice e)) (hinfo : (P.info? e).map (fun i => (i.zero, i.size, i.bytes)) = some (some z, c, bytes)) (hzs : z.cells.size = c) (hc : 0 < c)
    (w : World) {B : Nat} {v : Value} {l : List α} (hown : w.ownsRow B e c v l.length (cellsG f l)) (b off cap : Nat) (r : List α) (hr : ∀ (i : Nat) (x : α), r[i]? = some x → ∀ j, j < c → w.cell? ⟨b, off + i * c + j, none⟩ = (f x)[j]?) (h63 : l.length + r.length ≤ maxLen) (hl : (l.length + r.length) * bytes ≤ 140737488355328) (hB : B ≤ w.heap.size) :
    ∃ v' w', (Builtin.append_ #[t, t] t #[v, .slice (some ⟨b, off, none⟩) r.length cap]).run P w = .ok v' w' ∧ w'.ownsRow B e c v' (l.length + r.length) (cellsG f (l ++ r)) ∧ Upd (fun k => v.ownBlock = some k) w w' ∧ (v'.ownBlock = v.ownBlock ∨ v'.ownBlock = some w.heap.size) := by
  have hall : ∀ u ∈ cellsG f r, u.oneCell' = true := fun u hu => by
    simp only [cellsG, List.mem_flatMap] at hu
    obtain ⟨x, _, hx⟩ := hu
    exact hone x u hx
  obtain ⟨i0, hi, hz0, hz1, hz2⟩ := info_parts hinfo
  have hcell : ∀ j u, (cellsG f r)[j]? = some u → w.cell? ((⟨b, off, none⟩ : Addr).add j) = some u := fun j u hj => by
    have hlt := (List.getElem?_eq_some_iff.1 hj).1
    rw [cellsG_len hf] at hlt
    have hi : j / c < r.length := Nat.div_lt_of_lt_mul (by rw [Nat.mul_comm]; exact hlt)
    have hx : r[j / c]? = some (r[j / c]'hi) := List.getElem?_eq_getElem hi
    have h1 := hr (j / c) _ hx (j % c) (Nat.mod_lt _ hc)
    have h2 := cellsG_at hf r (j / c) (j % c) _ hx (Nat.mod_lt _ hc)
    have e : j / c * c + j % c = j := by rw [Nat.mul_comm]; exact Nat.div_add_mod j c
    rw [e] at h2
    rw [add_none, ← hj, h2, ← h1]
    congr 2
    omega
  obtain ⟨v', w', hrun, h2, h3, h4, h5⟩ := run_append_own_at (P := P) w B t t e i0 z c bytes ht hi hz0 hz1 hz2 hzs hc v l.length (cellsG f l) hown ⟨b, off, none⟩ r.length cap (cellsG f r) (cellsG_len hf r) hcell hall h63 hl hB
  refine ⟨v', w', hrun, by rw [cellsG_app]; exact h2, (Upd.refl _ w).grown h3 (fun k hk => .inl hk), h5⟩
/-- append(v, x), x lies in a block of its own. -/
theorem run_app1 {α : Type} {c : Nat} {f : α → List Value} {P : Program} {t e : TypeId} {z : Value} {bytes : Nat} (hf : ∀ x, (f x).length = c) (hone : ∀ x, ∀ u ∈ f x, u.oneCell' = true) (ht : P.underlying t = some (.slice e)) (hinfo : (P.info? e).map (fun i => (i.zero, i.size, i.bytes)) = some (some z, c, bytes)) (hzs : z.cells.size = c) (hc : 0 < c)
    (w : World) {B : Nat} {v : Value} {l : List α} (hown : w.ownsRow B e c v l.length (cellsG f l)) (b : Nat) (x : α) (hb : Blk w b e (f x)) (h63 : l.length + 1 ≤ maxLen) (hl : (l.length + 1) * bytes ≤ 140737488355328) (hB : B ≤ w.heap.size) :
    ∃ g cap w', (Builtin.append_ #[t, t] t #[v, .slice (some ⟨b, 0, none⟩) 1 1]).run P w = .ok (.slice (some ⟨g, 0, none⟩) (l.length + 1) cap) w' ∧ w'.ownsRow B e c (.slice (some ⟨g, 0, none⟩) (l.length + 1) cap) (l ++ [x]).length (cellsG f (l ++ [x])) ∧ Upd (fun k => v.ownBlock = some k) w w' ∧ B ≤ g ∧ l.length + 1 ≤ cap ∧ (v.ownBlock = some g ∨ w.heap.size ≤ g) := by
  obtain ⟨v', w', h1, h2, h3, h4⟩ := run_appG (P := P) hf hone ht hinfo hzs hc w hown b 0 1 [x] (fun i y hy j hj => by
    have hi := (List.getElem?_eq_some_iff.1 hy).1
    obtain rfl : i = 0 := by simp at hi; omega
    simp at hy
    subst hy
    rw [hb.cell]
    congr 1
    omega) h63 hl hB
  have hlen : l.length + [x].length = (l ++ [x]).length := by simp
  rw [hlen] at h2
  obtain ⟨g, cap, ys, e1, hg, hn, -, -, -, -⟩ := ownS_blk h2 (by simp)
  rw [List.length_append, List.length_singleton] at e1 hn
  subst e1
  refine ⟨g, cap, w', h1, h2, h3, hg, hn, ?_⟩
  rcases h4 with h4 | h4
  · exact .inl (by rw [← h4]; rfl)
  · have : g = w.heap.size := own_is h4
    exact .inr (by omega)
theorem rtc_one1 (r : Rt) : ∀ u ∈ rtc r, u.oneCell' = true := fun u hu => by
  simp [rtc] at hu
  rcases hu with rfl | rfl <;> rfl
/-- A type's parts, of the call's own, with a mark behind them. -/
def MkIn (w : World) (B : Nat) (q : Ptz) (ps : List Ptz) (u : Value) : Prop := ∃ g c, u = .slice (some ⟨g, 0, none⟩) ps.length c ∧ ps.length + 1 ≤ c ∧ PRow w (some ⟨g, 0, none⟩) (ps ++ [q]) ∧ B ≤ g ∧ ∃ ys, Blk w g 67 ys
theorem MkIn.upd {w w' : World} {B : Nat} {q : Ptz} {ps : List Ptz} {u : Value} {S : Nat → Prop} (h : MkIn w B q ps u) (hu : Upd S w w') (hn : ∀ k ys, S k → Blk w k 67 ys → False) : MkIn w' B q ps u := by
  obtain ⟨g, c, e, h1, h2, h3, ys, h4⟩ := h
  have hg : ¬ S g := fun hS => hn g ys hS h4
  exact ⟨g, c, e, h1, h2.upd hu (fun x hx => by cases hx; exact hg), h3, ys, h4.upd hu hg⟩
theorem MkIn.later {w w' : World} {B : Nat} {q : Ptz} {ps : List Ptz} {u : Value} (h : MkIn w B q ps u) (hB : Below w.heap.size w w') : MkIn w' B q ps u := h.upd (Upd.of_below (S := fun _ => False) hB) (fun _ _ h => h.elim)
theorem MkIn.ptIn {w : World} {B : Nat} {q : Ptz} {ps : List Ptz} {u : Value} (h : MkIn w B q ps u) (B' : Nat) : PtIn w B' ps u := by
  obtain ⟨g, c, rfl, h1, h2, h3, ys, h4⟩ := h
  refine ⟨_, c, rfl, by omega, (fun h => by cases h), ?_, .inr (fun x hx => by cases hx; exact .inr ⟨ys, h4⟩)⟩
  have := h2.take ps.length
  rwa [List.take_left] at this
theorem POwn.mkIn {w : World} {B : Nat} {q : Ptz} {ps : List Ptz} {g c : Nat} (h : POwn w B (.slice (some ⟨g, 0, none⟩) (ps.length + 1) c) (ps ++ [q])) : MkIn w B q ps (.slice (some ⟨g, 0, none⟩) ps.length c) := by
  obtain ⟨a, c', e, h1, -, h3⟩ := own_grow ptc_len h
  injection e with e1 e2 e3
  subst e1 e3
  obtain ⟨ys, hy⟩ := ownS_type h (k := g) rfl
  exact ⟨g, c, rfl, by simpa using h1, h3, (World.ownsRow.lt h g rfl).1, ys, hy⟩
/-- A schema that is lent: its types with a mark behind, their parts with marks, its roots with a mark. -/
structure LtS (w : World) (B : Nat) (gT cT : Nat) (Q : List (Ty × Value)) (gR cR : Nat) (R : List Rt) (q : Ptz) (tq : Ty) (rq : Rt) : Prop where
  ty : TOwn w B (.slice (some ⟨gT, 0, none⟩) (Q.length + 1) cT) (Q ++ [(tq, .slice none 0 0)])
  mks : ∀ p ∈ Q, MkIn w B q p.1.ps p.2
  rt : ROwn w B (.slice (some ⟨gR, 0, none⟩) (R.length + 1) cR) (R ++ [rq])
theorem LtS.later {w w' : World} {B gT cT gR cR : Nat} {Q : List (Ty × Value)} {R : List Rt} {q : Ptz} {tq : Ty} {rq : Rt} (h : LtS w B gT cT Q gR cR R q tq rq) (hB : Below w.heap.size w w') : LtS w' B gT cT Q gR cR R q tq rq :=
  ⟨h.ty.later hB, fun p hp => (h.mks p hp).later hB, h.rt.later hB⟩
/-- A store into a block of another type. -/
theorem LtS.other {w : World} {B gT cT gR cR : Nat} {Q : List (Ty × Value)} {R : List Rt} {q : Ptz} {tq : Ty} {rq : Rt} (h : LtS w B gT cT Q gR cR R q tq rq) {g : Nat} {t : TypeId} {ys : List Value} (hb : Blk w g t ys) (hg : B ≤ g) (h1 : t ≠ 49) (h2 : t ≠ 67) (h3 : t ≠ 51) (i : Nat) (u : Value) : LtS (w.setCell ⟨g, i, none⟩ u) B gT cT Q gR cR R q tq rq :=
  ⟨h.ty.other hb hg h1 h2 i u, fun p hp => (h.mks p hp).upd ((Upd.refl (fun k => k = g) w).set ⟨g, i, none⟩ u (.inl rfl)) (fun k zs e hz => by subst e; exact h2 (blk_type hb hz)), h.rt.other hb h3 i u⟩
theorem LtS.row {w : World} {B gT cT gR cR : Nat} {Q : List (Ty × Value)} {R : List Rt} {q : Ptz} {tq : Ty} {rq : Rt} (h : LtS w B gT cT Q gR cR R q tq rq) : TRowz w (some ⟨gT, 0, none⟩) (Q.map (·.1)) ∧ RRow w (some ⟨gR, 0, none⟩) R := by
  have h1 := town_row h.ty rfl
  have h2 := rown_row h.rt
  have h3 := h1.take Q.length
  have h4 := h2.take R.length
  have e3 : (Q.map (·.1)).length = Q.length := by simp
  rw [List.map_append, ← e3, List.take_left] at h3
  rw [List.take_left] at h4
  exact ⟨h3, h4⟩
theorem LtS.caps {w : World} {B gT cT gR cR : Nat} {Q : List (Ty × Value)} {R : List Rt} {q : Ptz} {tq : Ty} {rq : Rt} (h : LtS w B gT cT Q gR cR R q tq rq) : Q.length + 1 ≤ cT ∧ R.length + 1 ≤ cR ∧ B ≤ gT ∧ B ≤ gR ∧ w.cell? ⟨gT, Q.length * 4, none⟩ = some (.int .i64 tq.k) ∧ w.cell? ⟨gR, R.length * 2 + 1, none⟩ = some (.int .i64 rq.ty) := by
  obtain ⟨_, _, e, h1, -, -⟩ := own_grow tyq_len h.ty.1
  injection e with _ e2 e3
  obtain ⟨a', _, e', h2, -, h3⟩ := own_grow rtc_len h.rt
  injection e' with e1 e2' e3'
  subst e1
  obtain ⟨b, off, e4, -, hc⟩ := h3.open (by simp)
  injection e4 with e4
  injection e4 with e5 e6 _
  have hk := (h.ty.at4 (i := Q.length) (p := (tq, .slice none 0 0)) (by simp)).1
  have hr := hc R.length rq (by simp) 1 (by decide)
  rw [← e5, ← e6] at hr
  simp only [Nat.zero_add] at hr
  refine ⟨by rw [e3]; simpa using h1, by rw [e3']; simpa using h2, (World.ownsRow.lt h.ty.1 gT rfl).1, (World.ownsRow.lt h.rt gR rfl).1, hk, hr⟩
end Go.Proofs.YtbgjgbddpcofcaaGreatDoor

/- types.Check: the small functions. -/
namespace Go.Proofs.YtbgjgbddpcofcaaGreatDoor
open Go.RowKit
set_option linter.unusedVariables false

set_option maxRecDepth 100000 in
set_option maxHeartbeats 4000000 in
theorem hasElem_any (k : Int) (w : World) : Calls Tryz.prog 42 #[.int .i64 k] w fun e w' => e = .returned (.bool (hasE k)) ∧ w = w' := by
  unfold hasE
  go_enter Tryz.func42, Tryz.ntmps42
  by_cases h0 : k = 4
  · subst h0; go_wp2; go_ret; exact ⟨by simp, rfl⟩
  by_cases h1 : k = 5
  · subst h1; go_wp2; go_ret; exact ⟨by simp, rfl⟩
  by_cases h2 : k = 6
  · subst h2; go_wp2; go_ret; exact ⟨by simp, rfl⟩
  go_wp2
  go_ret
  exact ⟨by simp [h0, h1, h2], rfl⟩
set_option maxRecDepth 100000 in
set_option maxHeartbeats 4000000 in
theorem isBelow_any (n m : Int) (w : World) : Calls Tryz.prog 43 #[.int .i64 n, .int .i64 m] w fun e w' => e = .returned (.bool (inB n m)) ∧ w = w' := by
  unfold inB
  go_enter Tryz.func43, Tryz.ntmps43
  by_cases h0 : 0 ≤ n
  · by_cases h1 : n < m
    · go_wp2; go_ret; exact ⟨by simp [h0, h1], rfl⟩
    · go_wp2; go_ret; exact ⟨by simp [h1], rfl⟩
  · go_wp2; go_ret; exact ⟨by simp; omega, rfl⟩
set_option maxRecDepth 100000 in
set_option maxHeartbeats 4000000 in
theorem isCount_any (n : Int) (w : World) : Calls Tryz.prog 28 #[.int .i64 n] w fun e w' => e = .returned (.bool (isCnt n)) ∧ w = w' := by
  unfold isCnt
  go_enter Tryz.func28, Tryz.ntmps28
  by_cases h0 : 1 ≤ n
  · by_cases h1 : n ≤ 1048576
    · go_wp2; go_ret; exact ⟨by simp [h0, h1], rfl⟩
    · go_wp2; go_ret; exact ⟨by simp [h1], rfl⟩
  · go_wp2; go_ret; exact ⟨by simp; omega, rfl⟩
set_option maxRecDepth 100000 in
set_option maxHeartbeats 4000000 in
theorem rightNumber_any (t : Ty) (v : Value) (w : World) : Calls Tryz.prog 39 #[.agg #[.int .i64 t.k, .int .i64 t.n, .int .i64 t.e, v]] w fun e w' => e = .returned (.bool (nOk t.k t.n)) ∧ Below w.heap.size w w' := by
  obtain ⟨k, n, el, ps⟩ := t
  have hB := below1 w (.cells #[.int .i64 k, .int .i64 n, .int .i64 el, v] 49)
  have kx := Blk.newA w #[.int .i64 k, .int .i64 n, .int .i64 el, v] 49
  obtain ⟨wx, hwx⟩ : ∃ wx, wx = w.alloc (.cells #[.int .i64 k, .int .i64 n, .int .i64 el, v] 49) := ⟨_, rfl⟩
  rw [← hwx] at hB kx
  have HB := hide_ hB
  have i0 := kx.cell 0; have i1 := kx.cell 1; have i2 := kx.cell 2; have i3 := kx.cell 3
  simp at i0 i1 i2 i3
  clear hB kx
  go_enter Tryz.func39, Tryz.ntmps39
  go_upto_region 1 with fail
  rw [← hwx]
  clear hwx
  by_cases h1 : k = 1
  · subst h1
    by_cases n1 : n = 1
    · subst n1; go_wp2; go_ret; exact ⟨by simp [nOk], HB.out⟩
    by_cases n2 : n = 2
    · subst n2; go_wp2; go_ret; exact ⟨by simp [nOk], HB.out⟩
    by_cases n4 : n = 4
    · subst n4; go_wp2; go_ret; exact ⟨by simp [nOk], HB.out⟩
    by_cases n8 : n = 8
    · subst n8; go_wp2; go_ret; exact ⟨by simp [nOk], HB.out⟩
    have b1 : (n == 1) = false := by simpa using n1
    have b2 : (n == 2) = false := by simpa using n2
    have b4 : (n == 4) = false := by simpa using n4
    have b8 : (n == 8) = false := by simpa using n8
    go_wp2; go_ret; exact ⟨by simp [nOk, n1, n2, n4, n8], HB.out⟩
  have c1 : (k == 1) = false := by simpa using h1
  have HQ : Hid (∀ n, nOk 4 n = isCnt n ∧ nOk 5 n = isCnt n) := hide_ (fun n => by simp [nOk, isCnt])
  by_cases h4 : k = 4
  · subst h4
    go_wp2_with (go_at_call 28; refine (isCount_any n _).mono ?_; rintro e w' ⟨rfl, rfl⟩)
    go_ret; exact ⟨by rw [(HQ.out n).1]; rfl, HB.out⟩
  have c4 : (k == 4) = false := by simpa using h4
  by_cases h5 : k = 5
  · subst h5
    go_wp2_with (go_at_call 28; refine (isCount_any n _).mono ?_; rintro e w' ⟨rfl, rfl⟩)
    go_ret; exact ⟨by rw [(HQ.out n).2]; rfl, HB.out⟩
  have c5 : (k == 5) = false := by simpa using h5
  have HZ : Hid (∀ k, (k = 2 ∨ k = 3 ∨ k = 6 ∨ k = 7 ∨ k = 8) → nOk k n = (n == 0)) := hide_ (fun k h => by
    by_cases hn : n = 0
    · subst hn; rcases h with rfl | rfl | rfl | rfl | rfl <;> simp [nOk]
    · have hb : (n == 0) = false := by simpa using hn
      rw [hb]
      unfold nOk
      rw [decide_eq_false]
      omega)
  by_cases h2 : k = 2
  · subst h2; go_wp2; go_ret; exact ⟨by rw [HZ.out _ (by omega)]; rfl, HB.out⟩
  have c2 : (k == 2) = false := by simpa using h2
  by_cases h3 : k = 3
  · subst h3; go_wp2; go_ret; exact ⟨by rw [HZ.out _ (by omega)]; rfl, HB.out⟩
  have c3 : (k == 3) = false := by simpa using h3
  by_cases h6 : k = 6
  · subst h6; go_wp2; go_ret; exact ⟨by rw [HZ.out _ (by omega)]; rfl, HB.out⟩
  have c6 : (k == 6) = false := by simpa using h6
  by_cases h7 : k = 7
  · subst h7; go_wp2; go_ret; exact ⟨by rw [HZ.out _ (by omega)]; rfl, HB.out⟩
  have c7 : (k == 7) = false := by simpa using h7
  by_cases h8 : k = 8
  · subst h8; go_wp2; go_ret; exact ⟨by rw [HZ.out _ (by omega)]; rfl, HB.out⟩
  have c8 : (k == 8) = false := by simpa using h8
  go_wp2; go_ret; exact ⟨by simp [nOk, h1, h2, h3, h4, h5, h6, h7, h8], HB.out⟩
set_option maxRecDepth 100000 in
set_option maxHeartbeats 4000000 in
theorem rightElem_any (t : Ty) (v : Value) (m : Int) (w : World) : Calls Tryz.prog 40 #[.agg #[.int .i64 t.k, .int .i64 t.n, .int .i64 t.e, v], .int .i64 m] w fun e w' => e = .returned (.bool (elemOk t.k t.e m)) ∧ Below w.heap.size w w' := by
  obtain ⟨k, n, el, ps⟩ := t
  have hB := below1 w (.cells #[.int .i64 k, .int .i64 n, .int .i64 el, v] 49)
  have kx := Blk.newA w #[.int .i64 k, .int .i64 n, .int .i64 el, v] 49
  obtain ⟨wx, hwx⟩ : ∃ wx, wx = w.alloc (.cells #[.int .i64 k, .int .i64 n, .int .i64 el, v] 49) := ⟨_, rfl⟩
  rw [← hwx] at hB kx
  have HB := hide_ hB
  have i0 := kx.cell 0; have i1 := kx.cell 1; have i2 := kx.cell 2; have i3 := kx.cell 3
  simp at i0 i1 i2 i3
  clear hB kx
  cases hk : hasE k with
  | true =>
    have HE : Hid (elemOk k el m = inB el m) := hide_ (by unfold elemOk; rw [if_pos hk])
    have HCon : Hid (∀ w, Calls Tryz.prog 42 #[.int .i64 k] w fun e w' => e = .returned (.bool true) ∧ w = w') := hide_ (fun w => by have := hasElem_any k w; rwa [hk] at this)
    clear hk
    go_enter Tryz.func40, Tryz.ntmps40
    go_upto_region 1 with fail
    rw [← hwx]
    clear hwx
    go_wp2_with (first | (go_at_call 42; refine (HCon.out _).mono ?_; rintro e w' ⟨rfl, rfl⟩) | (go_at_call 43; refine (isBelow_any el m _).mono ?_; rintro e w' ⟨rfl, rfl⟩))
    go_ret; exact ⟨by rw [HE.out]; rfl, HB.out⟩
  | false =>
    have HE : Hid (elemOk k el m = (el == 0)) := hide_ (by
      unfold elemOk
      rw [if_neg (by rw [hk]; decide)]
      by_cases h : el = 0
      · subst h; rfl
      · simp [h])
    have HCon : Hid (∀ w, Calls Tryz.prog 42 #[.int .i64 k] w fun e w' => e = .returned (.bool false) ∧ w = w') := hide_ (fun w => by have := hasElem_any k w; rwa [hk] at this)
    clear hk
    go_enter Tryz.func40, Tryz.ntmps40
    go_upto_region 1 with fail
    rw [← hwx]
    clear hwx
    go_wp2_with (first | (go_at_call 42; refine (HCon.out _).mono ?_; rintro e w' ⟨rfl, rfl⟩))
    go_ret; exact ⟨by rw [HE.out]; rfl, HB.out⟩
set_option maxRecDepth 100000 in
set_option maxHeartbeats 4000000 in
theorem isField_any (p : Ptz) (w : World) : Calls Tryz.prog 67 #[.agg #[.string p.label, .int .i64 p.tag, .int .i64 p.ty]] w fun e w' => e = .returned (.bool (fieldOk p)) ∧ Below w.heap.size w w' := by
  obtain ⟨lb, tg, ty⟩ := p
  have hB := below1 w (.cells #[.string lb, .int .i64 tg, .int .i64 ty] 67)
  have kx := Blk.newA w #[.string lb, .int .i64 tg, .int .i64 ty] 67
  obtain ⟨wx, hwx⟩ : ∃ wx, wx = w.alloc (.cells #[.string lb, .int .i64 tg, .int .i64 ty] 67) := ⟨_, rfl⟩
  rw [← hwx] at hB kx
  have HB := hide_ hB
  have i0 := kx.cell 0; have i1 := kx.cell 1; have i2 := kx.cell 2
  simp at i0 i1 i2
  clear hB kx
  cases hk : isName lb with
  | true =>
    have HE : Hid (fieldOk ⟨lb, tg, ty⟩ = (tg == 0)) := hide_ (by
      unfold fieldOk
      rw [hk]
      by_cases h : tg = 0
      · subst h; rfl
      · simp [h])
    have HCon : Hid (∀ w, Calls Tryz.prog 25 #[.string lb] w fun e w' => e = .returned (.bool true) ∧ w = w') := hide_ (fun w => by have := name_any lb w; rwa [hk] at this)
    clear hk
    go_enter Tryz.func67, Tryz.ntmps67
    go_upto_region 1 with fail
    rw [← hwx]
    clear hwx
    go_wp2_with (go_at_call 25; refine (HCon.out _).mono ?_; rintro e w' ⟨rfl, rfl⟩)
    go_ret; exact ⟨by rw [HE.out]; rfl, HB.out⟩
  | false =>
    have HE : Hid (fieldOk ⟨lb, tg, ty⟩ = false) := hide_ (by unfold fieldOk; rw [hk]; rfl)
    have HCon : Hid (∀ w, Calls Tryz.prog 25 #[.string lb] w fun e w' => e = .returned (.bool false) ∧ w = w') := hide_ (fun w => by have := name_any lb w; rwa [hk] at this)
    clear hk
    go_enter Tryz.func67, Tryz.ntmps67
    go_upto_region 1 with fail
    rw [← hwx]
    clear hwx
    go_wp2_with (go_at_call 25; refine (HCon.out _).mono ?_; rintro e w' ⟨rfl, rfl⟩)
    go_ret; exact ⟨by rw [HE.out]; rfl, HB.out⟩
theorem isEmpty_dec (s : ByteArray) : (s.toList == []) = decide (s = ⟨#[]⟩) := by
  by_cases h : s = ⟨#[]⟩
  · subst h; simp
  · rw [decide_eq_false h]; exact str_ne s [] h
set_option maxRecDepth 100000 in
set_option maxHeartbeats 4000000 in
theorem isArm_any (p : Ptz) (w : World) : Calls Tryz.prog 68 #[.agg #[.string p.label, .int .i64 p.tag, .int .i64 p.ty]] w fun e w' => e = .returned (.bool (armOk p)) ∧ Below w.heap.size w w' := by
  obtain ⟨lb, tg, ty⟩ := p
  have hB := below1 w (.cells #[.string lb, .int .i64 tg, .int .i64 ty] 67)
  have kx := Blk.newA w #[.string lb, .int .i64 tg, .int .i64 ty] 67
  obtain ⟨wx, hwx⟩ : ∃ wx, wx = w.alloc (.cells #[.string lb, .int .i64 tg, .int .i64 ty] 67) := ⟨_, rfl⟩
  rw [← hwx] at hB kx
  have HB := hide_ hB
  have i0 := kx.cell 0; have i1 := kx.cell 1; have i2 := kx.cell 2
  simp at i0 i1 i2
  clear hB kx
  unfold armOk
  go_enter Tryz.func68, Tryz.ntmps68
  go_upto_region 1 with fail
  rw [← hwx]
  clear hwx
  by_cases h0 : lb = ⟨#[]⟩
  · subst h0
    by_cases h1 : 0 ≤ tg
    · by_cases h2 : tg ≤ 255
      · go_wp2; go_ret; exact ⟨by simp, HB.out⟩
      · go_wp2; go_ret; exact ⟨by simp; omega, HB.out⟩
    · go_wp2; go_ret; exact ⟨by simp; omega, HB.out⟩
  · have k0 := str_ne lb [] h0
    go_wp2; go_ret; exact ⟨by simp [h0], HB.out⟩
end Go.Proofs.YtbgjgbddpcofcaaGreatDoor

/- types.Check: parts. -/
namespace Go.Proofs.YtbgjgbddpcofcaaGreatDoor
open Go.RowKit
set_option linter.unusedVariables false

set_option maxRecDepth 100000 in
set_option maxHeartbeats 4000000 in
theorem like_any (q p : Ptz) (bp : Nat) (w : World) (hp : Hid (Blk w bp 67 (ptc p))) :
    Calls Tryz.prog 84 #[.agg #[.string q.label, .int .i64 q.tag, .int .i64 q.ty], .pointer (some ⟨bp, 0, none⟩)] w fun e w' => e = .returned (.bool (likeP q p)) ∧ Below w.heap.size w w' := by
  obtain ⟨lb, tg, ty⟩ := q
  obtain ⟨lb', tg', ty'⟩ := p
  have hB := below1 w (.cells #[.string lb, .int .i64 tg, .int .i64 ty] 67)
  have kx := Blk.newA w #[.string lb, .int .i64 tg, .int .i64 ty] 67
  have ky := hp.out.alloc (.cells #[.string lb, .int .i64 tg, .int .i64 ty] 67)
  obtain ⟨wx, hwx⟩ : ∃ wx, wx = w.alloc (.cells #[.string lb, .int .i64 tg, .int .i64 ty] 67) := ⟨_, rfl⟩
  rw [← hwx] at hB kx ky
  have HB := hide_ hB
  have i0 := kx.cell 0; have i1 := kx.cell 1
  have j0 := ky.cell 0; have j1 := ky.cell 1
  simp [ptc] at i0 i1 j0 j1
  clear hB kx ky
  unfold likeP
  go_enter Tryz.func84, Tryz.ntmps84
  go_upto_region 1 with fail
  rw [← hwx]
  clear hwx
  by_cases he : lb = lb'
  · subst he
    by_cases ht : tg = tg'
    · subst ht; go_wp2; go_ret; exact ⟨by simp, HB.out⟩
    · have hb : (tg == tg') = false := by simpa using ht
      go_wp2; go_ret; exact ⟨by simp, HB.out⟩
  · have hs : (lb.toList == lb'.toList) = false := by rw [str_eqz]; exact decide_eq_false he
    go_wp2; go_ret; exact ⟨by simp [he], HB.out⟩
theorem any_take_succ {α : Type} {l : List α} {j : Nat} {x : α} (f : α → Bool) (h : l[j]? = some x) : (l.take (j + 1)).any f = ((l.take j).any f || f x) := by
  have hj := (List.getElem?_eq_some_iff.1 h).1
  rw [List.take_succ_eq_append_getElem hj, (List.getElem?_eq_some_iff.1 h).2]
  simp
set_option maxRecDepth 100000 in
set_option maxHeartbeats 4000000 in
theorem indexL_any (bp : Nat) (p : Ptz) (a : Option Addr) (c : Nat) (l : List Ptz) (w : World) (hl : l.length ≤ 9223372036854775806) (hr : Hid (PRow w a l)) (hp : Hid (Blk w bp 67 (ptc p))) :
    Calls Tryz.prog 101 #[.slice a l.length c, .func (.func 84) #[] #[.pointer (some ⟨bp, 0, none⟩)]] w fun e w' => ∃ r : Int, e = .returned (.int .i64 r) ∧ Hid (decide (0 ≤ r) = thereP l p) ∧ Below w.heap.size w w' := by
  go_enter Tryz.func101, Tryz.ntmps101
  go_wp2_with fail
  go_loopw [8] (fun x8 wr => ∃ j : Nat, j ≤ l.length ∧ x8 = .int .i64 (j : Int) ∧ Hid ((l.take j).any (fun q => likeP q p) = false) ∧ Hid (Below w.heap.size w wr)) (fun x8 _ => l.length - (intOf x8).toNat)
  case atStart => exact ⟨0, Nat.zero_le _, rfl, hide_ rfl, hide_ (Below.refl _ _)⟩
  case round =>
    obtain ⟨j, hj, rfl, HA, HB⟩ := hrel
    generalize wr = wq at *
    by_cases hlt : j < l.length
    · have hlt' : (j : Int) < l.length := by omega
      obtain ⟨b, off, rfl, hb, hc⟩ := (hr.out.later HB.out).open (by omega)
      have hx : l[j]? = some (l[j]'hlt) := List.getElem?_eq_getElem hlt
      have hcx := hc j _ hx
      have HX := hide_ hx
      have HP := hide_ (hp.out.later HB.out)
      generalize l[j]'hlt = q at *
      have i0 := hcx 0 (by decide); have i1 := hcx 1 (by decide); have i2 := hcx 2 (by decide)
      simp [ptc] at i0 i1 i2
      clear hc hx hcx
      cases hm : likeP q p with
      | true =>
        have HL : Hid (thereP l p = true) := hide_ (by
          unfold thereP
          rw [List.any_eq_true]
          exact ⟨q, List.mem_of_getElem? HX.out, hm⟩)
        have HCon : Hid (Calls Tryz.prog 84 #[.agg #[.string q.label, .int .i64 q.tag, .int .i64 q.ty], .pointer (some ⟨bp, 0, none⟩)] wq fun e w' => e = .returned (.bool true) ∧ Below wq.heap.size wq w') := hide_ (by
          have := like_any q p bp wq HP
          rwa [hm] at this)
        clear hm
        go_wp2_with (go_at_call 84; refine HCon.out.mono ?_; rintro e w' ⟨rfl, hB1⟩; (have HB1 := hide_ hB1); clear hB1)
        go_ret
        exact ⟨(j : Int), rfl, hide_ (by rw [HL.out]; simp), below_to HB.out HB1.out⟩
      | false =>
        have HA2 : Hid ((l.take (j + 1)).any (fun q => likeP q p) = false) := hide_ (by rw [any_take_succ _ HX.out, HA.out, hm]; rfl)
        have HCon : Hid (Calls Tryz.prog 84 #[.agg #[.string q.label, .int .i64 q.tag, .int .i64 q.ty], .pointer (some ⟨bp, 0, none⟩)] wq fun e w' => e = .returned (.bool false) ∧ Below wq.heap.size wq w') := hide_ (by
          have := like_any q p bp wq HP
          rwa [hm] at this)
        clear hm
        go_wp2_with (go_at_call 84; refine HCon.out.mono ?_; rintro e w' ⟨rfl, hB1⟩; (have HB1 := hide_ (below_to HB.out hB1)); clear hB1)
        go_roundw
        case rel => exact ⟨j + 1, by omega, by go_num, HA2, HB1⟩
        case measure => simp [intOf]; omega
    · obtain rfl : j = l.length := by omega
      have HL : Hid (thereP l p = false) := hide_ (by have h := HA.out; rw [List.take_length] at h; exact h)
      go_wp2
      go_ret
      exact ⟨-1, rfl, hide_ (by rw [HL.out]; decide), HB.out⟩
set_option maxRecDepth 100000 in
set_option maxHeartbeats 4000000 in
theorem isThere_any (p : Ptz) (a : Option Addr) (c : Nat) (l : List Ptz) (n : Nat) (w : World) (hn : Hid (l.length = n)) (hl : n ≤ 9223372036854775806) (hr : Hid (PRow w a l)) :
    Calls Tryz.prog 69 #[.slice a n c, .agg #[.string p.label, .int .i64 p.tag, .int .i64 p.ty]] w fun e w' => e = .returned (.bool (thereP l p)) ∧ Below w.heap.size w w' := by
  have hmf : ∀ (fn : Fn) (first cap : Array Value) (w : World), (Instr.makeFunc fn first cap).run Tryz.prog w = .ok (.func fn first cap) w := fun _ _ _ _ => rfl
  obtain rfl := hn.out
  have hB := below1 w (.cells #[.string p.label, .int .i64 p.tag, .int .i64 p.ty] 67)
  have kx := Blk.newA w #[.string p.label, .int .i64 p.tag, .int .i64 p.ty] 67
  obtain ⟨wx, hwx⟩ : ∃ wx, wx = w.alloc (.cells #[.string p.label, .int .i64 p.tag, .int .i64 p.ty] 67) := ⟨_, rfl⟩
  rw [← hwx] at hB kx
  have HCon : Hid (Calls Tryz.prog 83 #[.slice a l.length c, .func (.func 84) #[] #[.pointer (some ⟨w.heap.size, 0, none⟩)]] wx fun e w' => e = .returned (.bool (thereP l p)) ∧ Below wx.heap.size wx w') := hide_ (by
    have HI := hide_ (indexL_any w.heap.size p a c l wx hl (hide_ (hr.out.later hB)) (hide_ kx))
    clear hwx hB kx hr
    go_enter Tryz.func83, Tryz.ntmps83
    go_wp2_with (go_at_call 101; refine HI.out.mono ?_; rintro e w' ⟨r, rfl, HR, hB⟩; (have HB := hide_ hB); clear hB)
    go_ret
    exact ⟨by rw [← HR.out]; rfl, HB.out⟩)
  have HB := hide_ hB
  clear hB kx
  go_enter Tryz.func69, Tryz.ntmps69
  go_upto_region 1 with fail
  rw [← hwx]
  clear hwx
  go_wp2_with (go_at_call 83; refine HCon.out.mono ?_; rintro e w' ⟨rfl, hB1⟩; (have HB1 := hide_ hB1); clear hB1)
  go_ret
  exact ⟨rfl, below_to HB.out HB1.out⟩
theorem allP_of {r : Ptz → Bool} {ps : List Ptz} {m : Int} (h0 : 0 < ps.length) (h1 : ps.length ≤ 64) (h : ∀ j, j < ps.length → okP r ps m j = true) : allP r ps m = true := by
  unfold allP
  rw [Bool.and_eq_true, List.all_eq_true]
  exact ⟨decide_eq_true ⟨h0, h1⟩, fun j hj => h j (List.mem_range.1 hj)⟩
theorem allP_not {r : Ptz → Bool} {ps : List Ptz} {m : Int} {j : Nat} (hj : j < ps.length) (h : okP r ps m j = false) : allP r ps m = false := by
  unfold allP
  rw [Bool.and_eq_false_iff]
  right
  rw [List.all_eq_false]
  exact ⟨j, List.mem_range.2 hj, by rw [h]; decide⟩
theorem allP_len {r : Ptz → Bool} {ps : List Ptz} {m : Int} (h : ¬ (0 < ps.length ∧ ps.length ≤ 64)) : allP r ps m = false := by
  unfold allP
  rw [decide_eq_false h]
  rfl
theorem okP_at {r : Ptz → Bool} {ps : List Ptz} {m : Int} {j : Nat} {p : Ptz} (h : ps[j]? = some p) : okP r ps m j = (r p && !thereP (ps.take j) p && inB p.ty m) := by
  have e : ps.getD j pt0 = p := by simp [List.getD, h]
  unfold okP
  rw [e]
end Go.Proofs.YtbgjgbddpcofcaaGreatDoor

/- types.Check: rightParts, isType. -/
namespace Go.Proofs.YtbgjgbddpcofcaaGreatDoor
open Go.RowKit
set_option linter.unusedVariables false

set_option maxRecDepth 100000 in
set_option maxHeartbeats 8000000 in
theorem parts8_any (n el : Int) (ps : List Ptz) (va : Option Addr) (vc : Nat) (m : Int) (w : World) (hvc : ps.length ≤ vc) (hr : Hid (PRow w va ps)) :
    Calls Tryz.prog 41 #[.agg #[.int .i64 8, .int .i64 n, .int .i64 el, .slice va ps.length vc], .int .i64 m] w fun e w' => e = .returned (.bool (allP fieldOk ps m)) ∧ Below w.heap.size w w' := by
  have hB := below1 w (.cells #[.int .i64 8, .int .i64 n, .int .i64 el, .slice va ps.length vc] 49)
  have kx := Blk.newA w #[.int .i64 8, .int .i64 n, .int .i64 el, .slice va ps.length vc] 49
  obtain ⟨w0, hw0⟩ : ∃ wx, wx = w.alloc (.cells #[.int .i64 8, .int .i64 n, .int .i64 el, .slice va ps.length vc] 49) := ⟨_, rfl⟩
  rw [← hw0] at hB kx
  have HB0 := hide_ hB
  have KX := hide_ kx
  have hz0 : w.heap.size < w0.heap.size := kx.lt
  have HR0 := hide_ (hr.out.later hB)
  have i0 := kx.cell 0; have i3 := kx.cell 3
  simp at i0 i3
  clear hB kx hr
  go_enter Tryz.func41, Tryz.ntmps41
  go_upto_region 1 with fail
  rw [← hw0]
  clear hw0
  by_cases hl0 : ps.length = 0
  · have HV : Hid (allP fieldOk ps m = false) := hide_ (allP_len (by omega))
    have hl0' : ((ps.length : Int) == 0) = true := by simp [hl0]
    go_wp2
    go_ret
    exact ⟨by rw [HV.out]; rfl, HB0.out⟩
  have hl0' : ((ps.length : Int) == 0) = false := by
    have h : ¬ (ps.length : Int) = 0 := by omega
    simpa using h
  by_cases hl1 : 64 < ps.length
  · have HV : Hid (allP fieldOk ps m = false) := hide_ (allP_len (by omega))
    have hl1' : (64 : Int) < ps.length := by omega
    go_wp2
    go_ret
    exact ⟨by rw [HV.out]; rfl, HB0.out⟩
  have hl1' : (ps.length : Int) ≤ 64 := by omega
  go_wp2_with fail
  go_loopw [33] (fun x33 wr => ∃ j : Nat, j ≤ ps.length ∧ x33 = .int .i64 (j : Int) ∧ Hid (∀ i, i < j → okP fieldOk ps m i = true) ∧ Hid (Below w0.heap.size w0 wr)) (fun x33 _ => ps.length - (intOf x33).toNat)
  case atStart => exact ⟨0, Nat.zero_le _, rfl, hide_ (fun i hi => by omega), hide_ (Below.refl _ _)⟩
  case round =>
    obtain ⟨j, hj, rfl, HA, HB⟩ := hrel
    generalize wr = wq at *
    clear i0 i3
    by_cases hlt : j < ps.length
    · have hlt' : (j : Int) < ps.length := by omega
      have hjc : (j : Int) ≤ vc := by omega
      have hRq := HR0.out.later HB.out
      obtain ⟨b, off, rfl, hb, hc⟩ := hRq.open (by omega)
      have hx : ps[j]? = some (ps[j]'hlt) := List.getElem?_eq_getElem hlt
      have hcx := hc j _ hx
      have HX := hide_ hx
      generalize ps[j]'hlt = p at *
      have i0 := hcx 0 (by decide); have i1 := hcx 1 (by decide); have i2 := hcx 2 (by decide)
      simp [ptc] at i0 i1 i2
      clear hc hx hcx
      have HOK := hide_ (okP_at (r := fieldOk) (m := m) HX.out)
      have kp := Blk.newA wq #[.string p.label, .int .i64 p.tag, .int .i64 p.ty] 67
      have hBx := below1 wq (.cells #[.string p.label, .int .i64 p.tag, .int .i64 p.ty] 67)
      obtain ⟨wx, hwx⟩ : ∃ wx, wx = wq.alloc (.cells #[.string p.label, .int .i64 p.tag, .int .i64 p.ty] 67) := ⟨_, rfl⟩
      rw [← hwx] at kp hBx
      have HBx := hide_ (below_to HB.out hBx)
      have KP := hide_ kp
      have HRx := hide_ ((hRq.later hBx).take j)
      have KXx := hide_ (KX.out.later HBx.out)
      clear kp hBx hRq hb
      go_upto_region 12 with fail
      rw [← hwx]
      clear hwx i0 i1 i2
      have HSS : Hid (∀ w', Below wx.heap.size wx w' → Below wx.heap.size wx w' ∧ w'.cell? ⟨wq.heap.size, 0, none⟩ = some (.string p.label) ∧ w'.cell? ⟨wq.heap.size, 1, none⟩ = some (.int .i64 p.tag) ∧ w'.cell? ⟨wq.heap.size, 2, none⟩ = some (.int .i64 p.ty) ∧ w'.cell? ⟨w.heap.size, 3, none⟩ = some (.slice (some ⟨b, off, none⟩) ps.length vc)) := fun w' hB => by
        have h := KP.out.later hB
        exact ⟨hB, h.cell 0, h.cell 1, h.cell 2, (KXx.out.later hB).cell 3⟩
      obtain ⟨b1, hb1⟩ : ∃ x, fieldOk p = x := ⟨_, rfl⟩
      obtain ⟨b2, hb2⟩ : ∃ x, thereP (ps.take j) p = x := ⟨_, rfl⟩
      obtain ⟨b3, hb3⟩ : ∃ x, inB p.ty m = x := ⟨_, rfl⟩
      rw [hb1, hb2, hb3] at HOK
      have HC1 : Hid (∀ w', Calls Tryz.prog 67 #[.agg #[.string p.label, .int .i64 p.tag, .int .i64 p.ty]] w' fun e w'' => e = .returned (.bool b1) ∧ Below w'.heap.size w' w'') := hide_ (fun w' => by have h := isField_any p w'; rwa [hb1] at h)
      have HC2 : Hid (∀ w', Below wx.heap.size wx w' → Calls Tryz.prog 69 #[.slice (some ⟨b, off, none⟩) j vc, .agg #[.string p.label, .int .i64 p.tag, .int .i64 p.ty]] w' fun e w'' => e = .returned (.bool b2) ∧ Below w'.heap.size w' w'') := hide_ (fun w' hB => by
        have h := isThere_any p (some ⟨b, off, none⟩) vc (ps.take j) j w' (hide_ (by simp; omega)) (by omega) (hide_ (HRx.out.later hB))
        rwa [hb2] at h)
      have HC3 : Hid (∀ w', Calls Tryz.prog 43 #[.int .i64 p.ty, .int .i64 m] w' fun e w'' => e = .returned (.bool b3) ∧ w' = w'') := hide_ (fun w' => by have h := isBelow_any p.ty m w'; rwa [hb3] at h)
      clear hb1 hb2 hb3
      cases b1 with
      | false =>
        have HV : Hid (allP fieldOk ps m = false) := hide_ (allP_not hlt (by rw [HOK.out]; rfl))
        have y0 := KP.out.cell 0; have y1 := KP.out.cell 1; have y2 := KP.out.cell 2; have y3 := KXx.out.cell 3
        simp at y0 y1 y2 y3
        go_wp2_with fail
        first
        | (go_region_with (go_at_call 67; refine (HC1.out _).mono ?_; rintro e w2 ⟨rfl, hB2⟩; (have G2 := hide_ (below_to ((Below.refl _ _).drew) hB2)); (clear hB2)))
        | fail
        all_goals
          have HBf := hide_ (below_to HB0.out (below_to HBx.out G2.out))
          clear G2
          go_wp2
          go_ret
          exact ⟨by rw [HV.out]; rfl, HBf.out⟩
      | true =>
      cases b2 with
      | true =>
        have HV : Hid (allP fieldOk ps m = false) := hide_ (allP_not hlt (by rw [HOK.out]; rfl))
        have y0 := KP.out.cell 0; have y1 := KP.out.cell 1; have y2 := KP.out.cell 2; have y3 := KXx.out.cell 3
        simp at y0 y1 y2 y3
        go_wp2_with fail
        first
        | (go_region_with (first
            | (go_at_call 67; refine (HC1.out _).mono ?_; rintro e w2 ⟨rfl, hB2⟩; (obtain ⟨g2, z0, z1, z2, z3⟩ := HSS.out w2 (below_to ((Below.refl _ _).drew) hB2)); (have G2 := hide_ g2); (clear hB2 g2))
            | (go_at_call 69; refine (HC2.out _ G2.out).mono ?_; rintro e w3 ⟨rfl, hB3⟩; (have G3 := hide_ (below_to G2.out hB3)); (clear hB3))))
        | fail
        all_goals
          have HBf := hide_ (below_to HB0.out (below_to HBx.out G3.out))
          clear G2 G3
          go_wp2
          go_ret
          exact ⟨by rw [HV.out]; rfl, HBf.out⟩
      | false =>
      cases b3 with
      | false =>
        have HV : Hid (allP fieldOk ps m = false) := hide_ (allP_not hlt (by rw [HOK.out]; rfl))
        go_wp2_with fail
        go_region_held_law (fun w' => Below wx.heap.size wx w' ∧ w'.cell? ⟨wq.heap.size, 0, none⟩ = some (.string p.label) ∧ w'.cell? ⟨wq.heap.size, 1, none⟩ = some (.int .i64 p.tag) ∧ w'.cell? ⟨wq.heap.size, 2, none⟩ = some (.int .i64 p.ty) ∧ w'.cell? ⟨w.heap.size, 3, none⟩ = some (.slice (some ⟨b, off, none⟩) ps.length vc)) (first | assumption | exact HSS.out _ ((Below.refl _ _).drew) | exact HSS.out _ (Below.refl _ _))
          (first
            | (go_at_call 67; refine (HC1.out _).mono ?_; rintro e w2 ⟨rfl, hB2⟩; (have G2 := HSS.out w2 (below_to (by first | assumption | exact And.left (by assumption)) hB2)); (clear hB2))
            | (go_at_call 69; refine (HC2.out _ (by first | assumption | exact And.left (by assumption))).mono ?_; rintro e w3 ⟨rfl, hB3⟩; (have G3 := HSS.out w3 (below_to (by first | assumption | exact And.left (by assumption)) hB3)); (clear hB3))
            | (go_at_call 43; refine (HC3.out _).mono ?_; rintro e w4 ⟨rfl, rfl⟩))
        have HBf := hide_ (below_to HB0.out (below_to HBx.out G3.1))
        clear G2 G3 HSS HC1 HC2 HC3
        go_wp2
        go_ret
        exact ⟨by rw [HV.out]; rfl, HBf.out⟩
      | true =>
        have HA2 : Hid (∀ i, i < j + 1 → okP fieldOk ps m i = true) := hide_ (fun i hi => by
          rcases Nat.lt_or_ge i j with h | h
          · exact HA.out i h
          · obtain rfl : i = j := by omega
            rw [HOK.out]; rfl)
        go_wp2_with fail
        go_region_held_law (fun w' => Below wx.heap.size wx w' ∧ w'.cell? ⟨wq.heap.size, 0, none⟩ = some (.string p.label) ∧ w'.cell? ⟨wq.heap.size, 1, none⟩ = some (.int .i64 p.tag) ∧ w'.cell? ⟨wq.heap.size, 2, none⟩ = some (.int .i64 p.ty) ∧ w'.cell? ⟨w.heap.size, 3, none⟩ = some (.slice (some ⟨b, off, none⟩) ps.length vc)) (first | assumption | exact HSS.out _ ((Below.refl _ _).drew) | exact HSS.out _ (Below.refl _ _))
          (first
            | (go_at_call 67; refine (HC1.out _).mono ?_; rintro e w2 ⟨rfl, hB2⟩; (have G2 := HSS.out w2 (below_to (by first | assumption | exact And.left (by assumption)) hB2)); (clear hB2))
            | (go_at_call 69; refine (HC2.out _ (by first | assumption | exact And.left (by assumption))).mono ?_; rintro e w3 ⟨rfl, hB3⟩; (have G3 := HSS.out w3 (below_to (by first | assumption | exact And.left (by assumption)) hB3)); (clear hB3))
            | (go_at_call 43; refine (HC3.out _).mono ?_; rintro e w4 ⟨rfl, rfl⟩))
        have HBf := hide_ (below_to HBx.out G3.1)
        clear G2 G3 HSS HC1 HC2 HC3
        go_wp2_with fail
        go_roundw
        case rel => exact ⟨j + 1, by omega, by go_num, HA2, HBf⟩
        case measure => simp [intOf]; omega
    · obtain rfl : j = ps.length := by omega
      have HV : Hid (allP fieldOk ps m = true) := hide_ (allP_of (by omega) (by omega) HA.out)
      go_wp2
      go_ret
      exact ⟨by rw [HV.out]; rfl, below_to HB0.out HB.out⟩
end Go.Proofs.YtbgjgbddpcofcaaGreatDoor

/- types.Check: rightParts of a union. -/
namespace Go.Proofs.YtbgjgbddpcofcaaGreatDoor
open Go.RowKit
set_option linter.unusedVariables false

set_option maxRecDepth 100000 in
set_option maxHeartbeats 8000000 in
theorem parts7_any (n el : Int) (ps : List Ptz) (va : Option Addr) (vc : Nat) (m : Int) (w : World) (hvc : ps.length ≤ vc) (hr : Hid (PRow w va ps)) :
    Calls Tryz.prog 41 #[.agg #[.int .i64 7, .int .i64 n, .int .i64 el, .slice va ps.length vc], .int .i64 m] w fun e w' => e = .returned (.bool (allP armOk ps m)) ∧ Below w.heap.size w w' := by
  have hB := below1 w (.cells #[.int .i64 7, .int .i64 n, .int .i64 el, .slice va ps.length vc] 49)
  have kx := Blk.newA w #[.int .i64 7, .int .i64 n, .int .i64 el, .slice va ps.length vc] 49
  obtain ⟨w0, hw0⟩ : ∃ wx, wx = w.alloc (.cells #[.int .i64 7, .int .i64 n, .int .i64 el, .slice va ps.length vc] 49) := ⟨_, rfl⟩
  rw [← hw0] at hB kx
  have HB0 := hide_ hB
  have KX := hide_ kx
  have hz0 : w.heap.size < w0.heap.size := kx.lt
  have HR0 := hide_ (hr.out.later hB)
  have i0 := kx.cell 0; have i3 := kx.cell 3
  simp at i0 i3
  clear hB kx hr
  go_enter Tryz.func41, Tryz.ntmps41
  go_upto_region 1 with fail
  rw [← hw0]
  clear hw0
  by_cases hl0 : ps.length = 0
  · have HV : Hid (allP armOk ps m = false) := hide_ (allP_len (by omega))
    have hl0' : ((ps.length : Int) == 0) = true := by simp [hl0]
    go_wp2
    go_ret
    exact ⟨by rw [HV.out]; rfl, HB0.out⟩
  have hl0' : ((ps.length : Int) == 0) = false := by
    have h : ¬ (ps.length : Int) = 0 := by omega
    simpa using h
  by_cases hl1 : 64 < ps.length
  · have HV : Hid (allP armOk ps m = false) := hide_ (allP_len (by omega))
    have hl1' : (64 : Int) < ps.length := by omega
    go_wp2
    go_ret
    exact ⟨by rw [HV.out]; rfl, HB0.out⟩
  have hl1' : (ps.length : Int) ≤ 64 := by omega
  go_wp2_with fail
  go_loopw [33] (fun x33 wr => ∃ j : Nat, j ≤ ps.length ∧ x33 = .int .i64 (j : Int) ∧ Hid (∀ i, i < j → okP armOk ps m i = true) ∧ Hid (Below w0.heap.size w0 wr)) (fun x33 _ => ps.length - (intOf x33).toNat)
  case atStart => exact ⟨0, Nat.zero_le _, rfl, hide_ (fun i hi => by omega), hide_ (Below.refl _ _)⟩
  case round =>
    obtain ⟨j, hj, rfl, HA, HB⟩ := hrel
    generalize wr = wq at *
    clear i0 i3
    by_cases hlt : j < ps.length
    · have hlt' : (j : Int) < ps.length := by omega
      have hjc : (j : Int) ≤ vc := by omega
      have hRq := HR0.out.later HB.out
      obtain ⟨b, off, rfl, hb, hc⟩ := hRq.open (by omega)
      have hx : ps[j]? = some (ps[j]'hlt) := List.getElem?_eq_getElem hlt
      have hcx := hc j _ hx
      have HX := hide_ hx
      generalize ps[j]'hlt = p at *
      have i0 := hcx 0 (by decide); have i1 := hcx 1 (by decide); have i2 := hcx 2 (by decide)
      simp [ptc] at i0 i1 i2
      clear hc hx hcx
      have HOK := hide_ (okP_at (r := armOk) (m := m) HX.out)
      have kp := Blk.newA wq #[.string p.label, .int .i64 p.tag, .int .i64 p.ty] 67
      have hBx := below1 wq (.cells #[.string p.label, .int .i64 p.tag, .int .i64 p.ty] 67)
      obtain ⟨wx, hwx⟩ : ∃ wx, wx = wq.alloc (.cells #[.string p.label, .int .i64 p.tag, .int .i64 p.ty] 67) := ⟨_, rfl⟩
      rw [← hwx] at kp hBx
      have HBx := hide_ (below_to HB.out hBx)
      have KP := hide_ kp
      have HRx := hide_ ((hRq.later hBx).take j)
      have KXx := hide_ (KX.out.later HBx.out)
      clear kp hBx hRq hb
      go_upto_region 12 with fail
      rw [← hwx]
      clear hwx i0 i1 i2
      have HSS : Hid (∀ w', Below wx.heap.size wx w' → Below wx.heap.size wx w' ∧ w'.cell? ⟨wq.heap.size, 0, none⟩ = some (.string p.label) ∧ w'.cell? ⟨wq.heap.size, 1, none⟩ = some (.int .i64 p.tag) ∧ w'.cell? ⟨wq.heap.size, 2, none⟩ = some (.int .i64 p.ty) ∧ w'.cell? ⟨w.heap.size, 3, none⟩ = some (.slice (some ⟨b, off, none⟩) ps.length vc)) := fun w' hB => by
        have h := KP.out.later hB
        exact ⟨hB, h.cell 0, h.cell 1, h.cell 2, (KXx.out.later hB).cell 3⟩
      obtain ⟨b1, hb1⟩ : ∃ x, armOk p = x := ⟨_, rfl⟩
      obtain ⟨b2, hb2⟩ : ∃ x, thereP (ps.take j) p = x := ⟨_, rfl⟩
      obtain ⟨b3, hb3⟩ : ∃ x, inB p.ty m = x := ⟨_, rfl⟩
      rw [hb1, hb2, hb3] at HOK
      have HC1 : Hid (∀ w', Calls Tryz.prog 68 #[.agg #[.string p.label, .int .i64 p.tag, .int .i64 p.ty]] w' fun e w'' => e = .returned (.bool b1) ∧ Below w'.heap.size w' w'') := hide_ (fun w' => by have h := isArm_any p w'; rwa [hb1] at h)
      have HC2 : Hid (∀ w', Below wx.heap.size wx w' → Calls Tryz.prog 69 #[.slice (some ⟨b, off, none⟩) j vc, .agg #[.string p.label, .int .i64 p.tag, .int .i64 p.ty]] w' fun e w'' => e = .returned (.bool b2) ∧ Below w'.heap.size w' w'') := hide_ (fun w' hB => by
        have h := isThere_any p (some ⟨b, off, none⟩) vc (ps.take j) j w' (hide_ (by simp; omega)) (by omega) (hide_ (HRx.out.later hB))
        rwa [hb2] at h)
      have HC3 : Hid (∀ w', Calls Tryz.prog 43 #[.int .i64 p.ty, .int .i64 m] w' fun e w'' => e = .returned (.bool b3) ∧ w' = w'') := hide_ (fun w' => by have h := isBelow_any p.ty m w'; rwa [hb3] at h)
      clear hb1 hb2 hb3
      cases b1 with
      | false =>
        have HV : Hid (allP armOk ps m = false) := hide_ (allP_not hlt (by rw [HOK.out]; rfl))
        have y0 := KP.out.cell 0; have y1 := KP.out.cell 1; have y2 := KP.out.cell 2; have y3 := KXx.out.cell 3
        simp at y0 y1 y2 y3
        go_wp2_with fail
        first
        | (go_region_with (go_at_call 68; refine (HC1.out _).mono ?_; rintro e w2 ⟨rfl, hB2⟩; (have G2 := hide_ (below_to ((Below.refl _ _).drew) hB2)); (clear hB2)))
        | fail
        all_goals
          have HBf := hide_ (below_to HB0.out (below_to HBx.out G2.out))
          clear G2
          go_wp2
          go_ret
          exact ⟨by rw [HV.out]; rfl, HBf.out⟩
      | true =>
      cases b2 with
      | true =>
        have HV : Hid (allP armOk ps m = false) := hide_ (allP_not hlt (by rw [HOK.out]; rfl))
        have y0 := KP.out.cell 0; have y1 := KP.out.cell 1; have y2 := KP.out.cell 2; have y3 := KXx.out.cell 3
        simp at y0 y1 y2 y3
        go_wp2_with fail
        first
        | (go_region_with (first
            | (go_at_call 68; refine (HC1.out _).mono ?_; rintro e w2 ⟨rfl, hB2⟩; (obtain ⟨g2, z0, z1, z2, z3⟩ := HSS.out w2 (below_to ((Below.refl _ _).drew) hB2)); (have G2 := hide_ g2); (clear hB2 g2))
            | (go_at_call 69; refine (HC2.out _ G2.out).mono ?_; rintro e w3 ⟨rfl, hB3⟩; (have G3 := hide_ (below_to G2.out hB3)); (clear hB3))))
        | fail
        all_goals
          have HBf := hide_ (below_to HB0.out (below_to HBx.out G3.out))
          clear G2 G3
          go_wp2
          go_ret
          exact ⟨by rw [HV.out]; rfl, HBf.out⟩
      | false =>
      cases b3 with
      | false =>
        have HV : Hid (allP armOk ps m = false) := hide_ (allP_not hlt (by rw [HOK.out]; rfl))
        go_wp2_with fail
        go_region_held_law (fun w' => Below wx.heap.size wx w' ∧ w'.cell? ⟨wq.heap.size, 0, none⟩ = some (.string p.label) ∧ w'.cell? ⟨wq.heap.size, 1, none⟩ = some (.int .i64 p.tag) ∧ w'.cell? ⟨wq.heap.size, 2, none⟩ = some (.int .i64 p.ty) ∧ w'.cell? ⟨w.heap.size, 3, none⟩ = some (.slice (some ⟨b, off, none⟩) ps.length vc)) (first | assumption | exact HSS.out _ ((Below.refl _ _).drew) | exact HSS.out _ (Below.refl _ _))
          (first
            | (go_at_call 68; refine (HC1.out _).mono ?_; rintro e w2 ⟨rfl, hB2⟩; (have G2 := HSS.out w2 (below_to (by first | assumption | exact And.left (by assumption)) hB2)); (clear hB2))
            | (go_at_call 69; refine (HC2.out _ (by first | assumption | exact And.left (by assumption))).mono ?_; rintro e w3 ⟨rfl, hB3⟩; (have G3 := HSS.out w3 (below_to (by first | assumption | exact And.left (by assumption)) hB3)); (clear hB3))
            | (go_at_call 43; refine (HC3.out _).mono ?_; rintro e w4 ⟨rfl, rfl⟩))
        have HBf := hide_ (below_to HB0.out (below_to HBx.out G3.1))
        clear G2 G3 HSS HC1 HC2 HC3
        go_wp2
        go_ret
        exact ⟨by rw [HV.out]; rfl, HBf.out⟩
      | true =>
        have HA2 : Hid (∀ i, i < j + 1 → okP armOk ps m i = true) := hide_ (fun i hi => by
          rcases Nat.lt_or_ge i j with h | h
          · exact HA.out i h
          · obtain rfl : i = j := by omega
            rw [HOK.out]; rfl)
        go_wp2_with fail
        go_region_held_law (fun w' => Below wx.heap.size wx w' ∧ w'.cell? ⟨wq.heap.size, 0, none⟩ = some (.string p.label) ∧ w'.cell? ⟨wq.heap.size, 1, none⟩ = some (.int .i64 p.tag) ∧ w'.cell? ⟨wq.heap.size, 2, none⟩ = some (.int .i64 p.ty) ∧ w'.cell? ⟨w.heap.size, 3, none⟩ = some (.slice (some ⟨b, off, none⟩) ps.length vc)) (first | assumption | exact HSS.out _ ((Below.refl _ _).drew) | exact HSS.out _ (Below.refl _ _))
          (first
            | (go_at_call 68; refine (HC1.out _).mono ?_; rintro e w2 ⟨rfl, hB2⟩; (have G2 := HSS.out w2 (below_to (by first | assumption | exact And.left (by assumption)) hB2)); (clear hB2))
            | (go_at_call 69; refine (HC2.out _ (by first | assumption | exact And.left (by assumption))).mono ?_; rintro e w3 ⟨rfl, hB3⟩; (have G3 := HSS.out w3 (below_to (by first | assumption | exact And.left (by assumption)) hB3)); (clear hB3))
            | (go_at_call 43; refine (HC3.out _).mono ?_; rintro e w4 ⟨rfl, rfl⟩))
        have HBf := hide_ (below_to HBx.out G3.1)
        clear G2 G3 HSS HC1 HC2 HC3
        go_wp2_with fail
        go_roundw
        case rel => exact ⟨j + 1, by omega, by go_num, HA2, HBf⟩
        case measure => simp [intOf]; omega
    · obtain rfl : j = ps.length := by omega
      have HV : Hid (allP armOk ps m = true) := hide_ (allP_of (by omega) (by omega) HA.out)
      go_wp2
      go_ret
      exact ⟨by rw [HV.out]; rfl, below_to HB0.out HB.out⟩
end Go.Proofs.YtbgjgbddpcofcaaGreatDoor

/- types.Check: isType, Find, isRoot. -/
namespace Go.Proofs.YtbgjgbddpcofcaaGreatDoor
open Go.RowKit
set_option linter.unusedVariables false

set_option maxRecDepth 100000 in
set_option maxHeartbeats 4000000 in
theorem partsO_any (k n el : Int) (ps : List Ptz) (va : Option Addr) (vc : Nat) (m : Int) (w : World) (h8 : ¬ k = 8) (h7 : ¬ k = 7) :
    Calls Tryz.prog 41 #[.agg #[.int .i64 k, .int .i64 n, .int .i64 el, .slice va ps.length vc], .int .i64 m] w fun e w' => e = .returned (.bool (decide (ps.length = 0))) ∧ Below w.heap.size w w' := by
  have hB := below1 w (.cells #[.int .i64 k, .int .i64 n, .int .i64 el, .slice va ps.length vc] 49)
  have kx := Blk.newA w #[.int .i64 k, .int .i64 n, .int .i64 el, .slice va ps.length vc] 49
  obtain ⟨w0, hw0⟩ : ∃ wx, wx = w.alloc (.cells #[.int .i64 k, .int .i64 n, .int .i64 el, .slice va ps.length vc] 49) := ⟨_, rfl⟩
  rw [← hw0] at hB kx
  have HB0 := hide_ hB
  have i0 := kx.cell 0; have i3 := kx.cell 3
  simp at i0 i3
  clear hB kx
  have h8' : (k == 8) = false := by simpa using h8
  have h7' : (k == 7) = false := by simpa using h7
  have HV : Hid (((ps.length : Int) == 0) = decide (ps.length = 0)) := hide_ (by
    by_cases h : ps.length = 0
    · simp [h]
    · have h2 : ((ps.length : Int) == 0) = false := by
        have h : ¬ (ps.length : Int) = 0 := by omega
        simpa using h
      rw [h2, decide_eq_false h])
  go_enter Tryz.func41, Tryz.ntmps41
  go_upto_region 1 with fail
  rw [← hw0]
  clear hw0
  go_wp2
  go_ret
  exact ⟨by rw [← HV.out]; rfl, HB0.out⟩
theorem rightParts_any (t : Ty) (va : Option Addr) (vc : Nat) (m : Int) (w : World) (hvc : t.ps.length ≤ vc) (hr : Hid (PRow w va t.ps)) :
    Calls Tryz.prog 41 #[.agg #[.int .i64 t.k, .int .i64 t.n, .int .i64 t.e, .slice va t.ps.length vc], .int .i64 m] w fun e w' => e = .returned (.bool (partsOk t.k t.ps m)) ∧ Below w.heap.size w w' := by
  obtain ⟨k, n, el, ps⟩ := t
  unfold partsOk
  by_cases h8 : k = 8
  · subst h8
    rw [if_pos rfl]
    exact parts8_any n el ps va vc m w hvc hr
  · rw [if_neg h8]
    by_cases h7 : k = 7
    · subst h7
      rw [if_pos rfl]
      exact parts7_any n el ps va vc m w hvc hr
    · rw [if_neg h7]
      exact partsO_any k n el ps va vc m w h8 h7
set_option maxRecDepth 100000 in
set_option maxHeartbeats 4000000 in
theorem isType_any (t : Ty) (va : Option Addr) (vc : Nat) (m : Int) (w : World) (hvc : t.ps.length ≤ vc) (hr : Hid (PRow w va t.ps)) :
    Calls Tryz.prog 22 #[.agg #[.int .i64 t.k, .int .i64 t.n, .int .i64 t.e, .slice va t.ps.length vc], .int .i64 m] w fun e w' => e = .returned (.bool (tyOk t m)) ∧ Below w.heap.size w w' := by
  obtain ⟨b1, hb1⟩ : ∃ x, nOk t.k t.n = x := ⟨_, rfl⟩
  obtain ⟨b2, hb2⟩ : ∃ x, elemOk t.k t.e m = x := ⟨_, rfl⟩
  obtain ⟨b3, hb3⟩ : ∃ x, partsOk t.k t.ps m = x := ⟨_, rfl⟩
  have hV : tyOk t m = (b1 && b2 && b3) := by unfold tyOk; rw [hb1, hb2, hb3]
  rw [hV]
  have hB := below1 w (.cells #[.int .i64 t.k, .int .i64 t.n, .int .i64 t.e, .slice va t.ps.length vc] 49)
  have kx := Blk.newA w #[.int .i64 t.k, .int .i64 t.n, .int .i64 t.e, .slice va t.ps.length vc] 49
  obtain ⟨w0, hw0⟩ : ∃ wx, wx = w.alloc (.cells #[.int .i64 t.k, .int .i64 t.n, .int .i64 t.e, .slice va t.ps.length vc] 49) := ⟨_, rfl⟩
  rw [← hw0] at hB kx
  have HB0 := hide_ hB
  have KX := hide_ kx
  have HR0 := hide_ (hr.out.later hB)
  have HC1 : Hid (∀ w', Calls Tryz.prog 39 #[.agg #[.int .i64 t.k, .int .i64 t.n, .int .i64 t.e, .slice va t.ps.length vc]] w' fun e w'' => e = .returned (.bool b1) ∧ Below w'.heap.size w' w'') := hide_ (fun w' => by have h := rightNumber_any t (.slice va t.ps.length vc) w'; rwa [hb1] at h)
  have HC2 : Hid (∀ w', Calls Tryz.prog 40 #[.agg #[.int .i64 t.k, .int .i64 t.n, .int .i64 t.e, .slice va t.ps.length vc], .int .i64 m] w' fun e w'' => e = .returned (.bool b2) ∧ Below w'.heap.size w' w'') := hide_ (fun w' => by have h := rightElem_any t (.slice va t.ps.length vc) m w'; rwa [hb2] at h)
  have HC3 : Hid (∀ w', Below w0.heap.size w0 w' → Calls Tryz.prog 41 #[.agg #[.int .i64 t.k, .int .i64 t.n, .int .i64 t.e, .slice va t.ps.length vc], .int .i64 m] w' fun e w'' => e = .returned (.bool b3) ∧ Below w'.heap.size w' w'') := hide_ (fun w' hB => by have h := rightParts_any t va vc m w' hvc (hide_ (HR0.out.later hB)); rwa [hb3] at h)
  obtain ⟨k, n, el, ps⟩ := t
  simp only at *
  have i0 := kx.cell 0; have i1 := kx.cell 1; have i2 := kx.cell 2; have i3 := kx.cell 3
  simp at i0 i1 i2 i3
  clear hB kx hb1 hb2 hb3 hV hr
  go_enter Tryz.func22, Tryz.ntmps22
  go_upto_region 1 with fail
  rw [← hw0]
  clear hw0
  go_wp2_with fail
  refine (HC1.out _).mono ?_; rintro e w1 ⟨rfl, hB1⟩
  have HB1 := hide_ hB1
  have K1 := hide_ (KX.out.later hB1)
  have j0 := K1.out.cell 0; have j1 := K1.out.cell 1; have j2 := K1.out.cell 2; have j3 := K1.out.cell 3
  simp at j0 j1 j2 j3
  clear hB1 i0 i1 i2 i3
  cases b1 with
  | false =>
    go_wp2
    go_ret
    exact ⟨rfl, below_to HB0.out HB1.out⟩
  | true =>
  go_wp2_with fail
  refine (HC2.out _).mono ?_; rintro e w2 ⟨rfl, hB2⟩
  have HB2 := hide_ (below_to HB1.out hB2)
  have K2 := hide_ (K1.out.later hB2)
  have i0 := K2.out.cell 0; have i1 := K2.out.cell 1; have i2 := K2.out.cell 2; have i3 := K2.out.cell 3
  simp at i0 i1 i2 i3
  clear hB2 j0 j1 j2 j3
  cases b2 with
  | false =>
    go_wp2
    go_ret
    exact ⟨rfl, below_to HB0.out HB2.out⟩
  | true =>
  go_wp2_with fail
  refine (HC3.out _ HB2.out).mono ?_; rintro e w3 ⟨rfl, hB3⟩
  have HB3 := hide_ (below_to HB2.out hB3)
  clear hB3
  go_wp2
  go_ret
  exact ⟨by cases b3 <;> rfl, below_to HB0.out HB3.out⟩
theorem findR_at {R : List Rt} {nm : ByteArray} {i : Nat} {r : Rt} (h : R[i]? = some r) (hn : r.name = nm) (hb : ∀ (j : Nat) (q : Rt), j < i → R[j]? = some q → ¬ q.name = nm) : findR R nm = i := by
  have hi := (List.getElem?_eq_some_iff.1 h).1
  unfold findR
  rw [List.findIdx_eq hi]
  refine ⟨?_, fun j hj => ?_⟩
  · rw [(List.getElem?_eq_some_iff.1 h).2]
    exact decide_eq_true hn
  · exact decide_eq_false (hb j _ hj (List.getElem?_eq_getElem (by omega)))
theorem findR_none {R : List Rt} {nm : ByteArray} (hb : ∀ (j : Nat) (q : Rt), R[j]? = some q → ¬ q.name = nm) : findR R nm = R.length := by
  unfold findR
  rw [List.findIdx_eq_length]
  intro x hx
  obtain ⟨j, hj⟩ := List.getElem?_of_mem hx
  exact decide_eq_false (hb j x hj)
def fndN (R : List Rt) (nm : ByteArray) : Int := if findR R nm = R.length then 0 else findR R nm
def fndEz (R : List Rt) (nm : ByteArray) : Int := if findR R nm = R.length then 93 else 0
set_option maxRecDepth 100000 in
set_option maxHeartbeats 4000000 in
theorem find_anyz (vt : Value) (a : Option Addr) (c : Nat) (R : List Rt) (s : ByteArray) (w : World) (hD : R.length ≤ 9223372036854775806) (r : Hid (RRow w a R)) :
    Calls Tryz.prog 10 #[.agg #[vt, .slice a R.length c], .string s] w fun e w' => e = .returned (.tuple #[.int .i64 (fndN R s), .int .i64 (fndEz R s)]) ∧ Below w.heap.size w w' := by
  have hB := below1 w (.cells #[vt, .slice a R.length c] 29)
  have kx := Blk.newA w #[vt, .slice a R.length c] 29
  obtain ⟨w0, hw0⟩ : ∃ wx, wx = w.alloc (.cells #[vt, .slice a R.length c] 29) := ⟨_, rfl⟩
  rw [← hw0] at hB kx
  have HB0 := hide_ hB
  have i1 := kx.cell 1
  simp at i1
  clear hB kx
  go_enter Tryz.func10, Tryz.ntmps10
  go_upto_region 1 with fail
  rw [← hw0]
  clear hw0
  go_wp2_with fail
  go_loopw [11] (fun x11 wr => ∃ i : Nat, i ≤ R.length ∧ x11 = .int .i64 (i : Int) ∧ Hid (∀ (j : Nat) (q : Rt), j < i → R[j]? = some q → ¬ q.name = s) ∧ Hid (Below w.heap.size w wr)) (fun x11 _ => R.length - (intOf x11).toNat)
  case atStart => exact ⟨0, Nat.zero_le _, rfl, hide_ (fun j q hj => by omega), HB0⟩
  case round =>
    obtain ⟨i, hi, rfl, HN, HB⟩ := hrel
    generalize wr = wq at *
    clear HB0 i1
    by_cases hlt : i < R.length
    · have hlt' : (i : Int) < R.length := by omega
      obtain ⟨b, o, rfl, hb, hc⟩ := (r.out.later HB.out).open (by omega)
      have hx : R[i]? = some (R[i]'hlt) := List.getElem?_eq_getElem hlt
      have hcx := hc i _ hx
      have HX := hide_ hx
      generalize R[i]'hlt = d at *
      have i0 := hcx 0 (by decide); have i1 := hcx 1 (by decide)
      simp [rtc] at i0 i1
      clear hc hx hcx
      have kx := Blk.newA wq #[.string d.name, .int .i64 d.ty] 51
      have hBx := below1 wq (.cells #[.string d.name, .int .i64 d.ty] 51)
      obtain ⟨wx, hwx⟩ : ∃ wx, wx = wq.alloc (.cells #[.string d.name, .int .i64 d.ty] 51) := ⟨_, rfl⟩
      rw [← hwx] at kx hBx
      have HBx := hide_ (below_to HB.out hBx)
      have j0 := kx.cell 0
      simp at j0
      clear kx hBx
      go_upto_region 4 with fail
      rw [← hwx]
      clear hwx i0 i1
      by_cases he : d.name = s
      · have hs : (d.name.toList == s.toList) = true := by rw [he]; simp
        have HV : Hid (findR R s = i) := hide_ (findR_at HX.out he HN.out)
        clear he
        go_wp2
        go_ret2
        exact ⟨by rw [show fndN R s = i by unfold fndN; rw [HV.out, if_neg (by omega)], show fndEz R s = 0 by unfold fndEz; rw [HV.out, if_neg (by omega)]]; rfl, HBx.out⟩
      · have hs : (d.name.toList == s.toList) = false := by rw [str_eqz]; exact decide_eq_false he
        have HN2 : Hid (∀ (j : Nat) (q : Rt), j < i + 1 → R[j]? = some q → ¬ q.name = s) := hide_ (fun j q hj hq => by
          rcases Nat.lt_or_ge j i with h | h
          · exact HN.out j q h hq
          · obtain rfl : j = i := by omega
            rw [HX.out] at hq
            injection hq with hq
            subst hq
            exact he)
        clear he
        go_wp2_with fail
        go_roundw
        case rel => exact ⟨i + 1, by omega, by go_num, HN2, HBx⟩
        case measure => simp [intOf]; omega
    · obtain rfl : i = R.length := by omega
      have HV : Hid (findR R s = R.length) := hide_ (findR_none (fun j q hq => HN.out j q (List.getElem?_eq_some_iff.1 hq).1 hq))
      go_wp2
      go_ret2
      exact ⟨by rw [show fndN R s = 0 by unfold fndN; rw [HV.out, if_pos rfl], show fndEz R s = 93 by unfold fndEz; rw [HV.out, if_pos rfl]]; rfl, HB.out⟩
set_option maxRecDepth 100000 in
set_option maxHeartbeats 4000000 in
theorem isRoot_any (av : Option Addr) (n : Nat) (cv : Nat) (a : Option Addr) (c : Nat) (R : List Rt) (i : Nat) (w : World) (hn : n ≤ 9223372036854775806) (hD : R.length ≤ 9223372036854775806) (hi : i < R.length) (r : Hid (RRow w a R)) :
    Calls Tryz.prog 24 #[.agg #[.slice av n cv, .slice a R.length c], .int .i64 (i : Int)] w fun e w' => e = .returned (.bool (rootOk n R i)) ∧ Below w.heap.size w w' := by
  have hi' : (i : Int) < R.length := by omega
  have hx : R[i]? = some (R[i]'hi) := List.getElem?_eq_getElem hi
  have hgd : R.getD i rt0 = R[i]'hi := by simp [List.getD, hi]
  obtain ⟨b, o, rfl, hb, hc⟩ := r.out.open (by omega)
  have hB := below1 w (.cells #[.slice av n cv, .slice (some ⟨b, o, none⟩) R.length c] 29)
  have kx := Blk.newA w #[.slice av n cv, .slice (some ⟨b, o, none⟩) R.length c] 29
  obtain ⟨w0, hw0⟩ : ∃ wx, wx = w.alloc (.cells #[.slice av n cv, .slice (some ⟨b, o, none⟩) R.length c] 29) := ⟨_, rfl⟩
  rw [← hw0] at hB kx
  have hcx := fun j (hj : j < 2) => (hB.cell (p := ⟨b, o + i * 2 + j, none⟩) hb).trans (hc i _ hx j hj)
  have hlen : findR R (R[i]'hi).name < R.length := by
    unfold findR
    exact List.findIdx_lt_length_of_exists ⟨_, List.getElem_mem hi, by simp⟩
  have hV : rootOk n R i = (decide (i < 256) && isName (R[i]'hi).name && inB (R[i]'hi).ty n && decide (findR R (R[i]'hi).name = i)) := by unfold rootOk; rw [hgd]
  have hNm : fndN R (R[i]'hi).name = (findR R (R[i]'hi).name : Int) := by unfold fndN; rw [if_neg (by omega)]
  generalize R[i]'hi = d at *
  obtain ⟨nm, ty⟩ := d
  simp only at *
  have i0 := hcx 0 (by decide); have i1 := hcx 1 (by decide)
  have i2 := kx.cell 1
  simp [rtc] at i0 i1 i2
  have kr := Blk.newA w0 #[.string nm, .int .i64 ty] 51
  have hBx := below1 w0 (.cells #[.string nm, .int .i64 ty] 51)
  obtain ⟨w1, hw1⟩ : ∃ wx, wx = w0.alloc (.cells #[.string nm, .int .i64 ty] 51) := ⟨_, rfl⟩
  rw [← hw1] at kr hBx
  have HB1 := hide_ (below_to hB hBx)
  have k1 := kx.later hBx
  have HR1 := hide_ (r.out.later HB1.out)
  have j0 := kr.cell 0; have j1 := kr.cell 1; have l0 := k1.cell 0; have l1 := k1.cell 1
  simp at j0 j1 l0 l1
  have HF := hide_ (find_anyz (.slice av n cv) (some ⟨b, o, none⟩) c R nm w1 hD HR1)
  rw [hNm] at HF
  obtain ⟨fi, hfi⟩ : ∃ fi, findR R nm = fi := ⟨_, rfl⟩
  rw [hfi] at HF hlen
  obtain ⟨b2, hb2⟩ : ∃ x, isName nm = x := ⟨_, rfl⟩
  obtain ⟨b3, hb3⟩ : ∃ x, inB ty n = x := ⟨_, rfl⟩
  rw [hfi, hb2, hb3] at hV
  have HV := hide_ hV
  have HC2 : Hid (∀ w', Calls Tryz.prog 25 #[.string nm] w' fun e w'' => e = .returned (.bool b2) ∧ w' = w'') := hide_ (fun w' => by have h := name_any nm w'; rwa [hb2] at h)
  have HC3 : Hid (∀ w', Calls Tryz.prog 43 #[.int .i64 ty, .int .i64 (n : Int)] w' fun e w'' => e = .returned (.bool b3) ∧ w' = w'') := hide_ (fun w' => by have h := isBelow_any ty n w'; rwa [hb3] at h)
  clear hV hNm hgd hx hc hcx kx kr k1 hB hBx hfi hb2 hb3 r
  go_enter Tryz.func24, Tryz.ntmps24
  go_upto_region 1 with fail
  rw [← hw0]
  clear hw0
  go_upto_region 2 with fail
  rw [← hw1]
  clear hw1 i0 i1 i2
  by_cases h256 : i < 256
  · have h256' : (i : Int) < 256 := by omega
    rw [decide_eq_true h256] at HV
    cases b2 with
    | false =>
      go_wp2_with (first | (go_at_call 25; refine (HC2.out _).mono ?_; rintro e w' ⟨rfl, rfl⟩))
      go_ret
      exact ⟨by rw [HV.out]; rfl, HB1.out⟩
    | true =>
    cases b3 with
    | false =>
      go_wp2_with (first | (go_at_call 25; refine (HC2.out _).mono ?_; rintro e w' ⟨rfl, rfl⟩) | (go_at_call 43; refine (HC3.out _).mono ?_; rintro e w' ⟨rfl, rfl⟩))
      go_ret
      exact ⟨by rw [HV.out]; rfl, HB1.out⟩
    | true =>
      go_wp2_with (first | (go_at_call 25; refine (HC2.out _).mono ?_; rintro e w' ⟨rfl, rfl⟩) | (go_at_call 43; refine (HC3.out _).mono ?_; rintro e w' ⟨rfl, rfl⟩) | (go_at_call 10; refine HF.out.mono ?_; rintro e w' ⟨rfl, hB2⟩; (have HB2 := hide_ hB2); clear hB2))
      go_ret
      refine ⟨?_, below_to HB1.out HB2.out⟩
      rw [HV.out]
      by_cases hq : fi = i
      · subst hq; simp
      · have hq' : ((fi : Int) == (i : Int)) = false := by
          have : ¬ (fi : Int) = (i : Int) := by omega
          simpa using this
        rw [decide_eq_false hq]
        simp [hq']
  · have h256' : (256 : Int) ≤ i := by omega
    rw [decide_eq_false h256] at HV
    go_wp2
    go_ret
    exact ⟨by rw [HV.out]; rfl, HB1.out⟩
end Go.Proofs.YtbgjgbddpcofcaaGreatDoor

/- The document's Same, of two schemas that are alike. -/
namespace Go.Proofs.YtbgjgbddpcofcaaGreatDoor
open Go.RowKit
set_option linter.unusedVariables false

set_option maxRecDepth 100000 in
set_option maxHeartbeats 8000000 in
theorem same_yes (a1 : Option Addr) (c1 : Nat) (r1 : Option Addr) (d1 : Nat) (a2 : Option Addr) (c2 : Nat) (r2 : Option Addr) (d2 : Nat) (T : List Ty) (R : List Rt) (w : World) (hn : T.length ≤ 9223372036854775806) (hm : R.length ≤ 9223372036854775806) (hL : Hid (LensT T)) (hT1 : Hid (TRowz w a1 T)) (hR1 : Hid (RRow w r1 R)) (hT2 : Hid (TRowz w a2 T)) (hR2 : Hid (RRow w r2 R)) :
    Calls Tryz.prog 7 #[.agg #[.slice a1 T.length c1, .slice r1 R.length d1], .agg #[.slice a2 T.length c2, .slice r2 R.length d2]] w fun e w' => e = .returned (.bool true) ∧ Below w.heap.size w w' := by
  have hB := below2z w (.cells #[.slice a1 T.length c1, .slice r1 R.length d1] 29) (.cells #[.slice a2 T.length c2, .slice r2 R.length d2] 29)
  obtain ⟨k1, k2⟩ := blk2z w #[.slice a1 T.length c1, .slice r1 R.length d1] #[.slice a2 T.length c2, .slice r2 R.length d2] 29 29
  obtain ⟨w0, hw0⟩ : ∃ wx, wx = (w.alloc (.cells #[.slice a1 T.length c1, .slice r1 R.length d1] 29)).alloc (.cells #[.slice a2 T.length c2, .slice r2 R.length d2] 29) := ⟨_, rfl⟩
  rw [← hw0] at hB k1 k2
  have HB0 := hide_ hB
  have K1 := hide_ k1
  have K2 := hide_ k2
  have i0 := k1.cell 0; have i1 := k1.cell 1; have j0 := k2.cell 0; have j1 := k2.cell 1
  simp at i0 i1 j0 j1
  clear hB k1 k2
  go_enter Tryz.func7, Tryz.ntmps7
  go_upto_region 1 with fail
  rw [← hw0]
  clear hw0
  go_wp2_with fail
  go_loopw [5] (fun x5 wr => ∃ (i : Nat), i ≤ T.length ∧ x5 = .int .i64 (i : Int) ∧ Hid (Below w0.heap.size w0 wr)) (fun x5 _ => T.length - (intOf x5).toNat)
  case atStart => exact ⟨0, Nat.zero_le _, rfl, hide_ (Below.refl _ _)⟩
  case round =>
    obtain ⟨i, hi, rfl, HB⟩ := hrel
    generalize wr = wq at *
    clear i0 i1 j0 j1
    have i0 := (K1.out.later HB.out).cell 0; have i1 := (K1.out.later HB.out).cell 1; have j0 := (K2.out.later HB.out).cell 0; have j1 := (K2.out.later HB.out).cell 1
    simp at i0 i1 j0 j1
    by_cases hlt : i < T.length
    · have hlt' : (i : Int) < T.length := by omega
      have hx : T[i]? = some (T[i]'hlt) := List.getElem?_eq_getElem hlt
      have hB' := below_to HB0.out HB.out
      obtain ⟨b1, o1, rfl, hb1, h1⟩ := (hT1.out.later hB').open (by omega)
      obtain ⟨b2, o2, rfl, hb2, h2⟩ := (hT2.out.later hB').open (by omega)
      obtain ⟨va, vc, hc1, hv1, -, hP1⟩ := h1 i _ hx
      obtain ⟨ua, uc, hc2, hv2, -, hP2⟩ := h2 i _ hx
      have hpl := hL.out.at hx
      generalize T[i]'hlt = t at *
      obtain ⟨k, n, el, ps⟩ := t
      simp only at hv1 hv2 hP1 hP2 hpl
      have p0 := hc1 0 (by decide); have p1 := hc1 1 (by decide); have p2 := hc1 2 (by decide); have p3 := hc1 3 (by decide)
      have q0 := hc2 0 (by decide); have q1 := hc2 1 (by decide); have q2 := hc2 2 (by decide); have q3 := hc2 3 (by decide)
      simp [tyc] at p0 p1 p2 p3 q0 q1 q2 q3
      obtain ⟨wa, hwa⟩ : ∃ wx, wx = wq.alloc (.cells #[.int .i64 k, .int .i64 n, .int .i64 el, .slice va ps.length vc] 49) := ⟨_, rfl⟩
      have ba : Below wq.heap.size wq wa := by rw [hwa]; exact below1 _ _
      have ka : Blk wa wq.heap.size 49 [.int .i64 k, .int .i64 n, .int .i64 el, .slice va ps.length vc] := by rw [hwa]; exact Blk.newA wq _ _
      obtain ⟨wb, hwb⟩ : ∃ wx, wx = wa.alloc (.cells #[.int .i64 k, .int .i64 n, .int .i64 el, .slice ua ps.length uc] 49) := ⟨_, rfl⟩
      have bb : Below wa.heap.size wa wb := by rw [hwb]; exact below1 _ _
      have kb : Blk wb wa.heap.size 49 [.int .i64 k, .int .i64 n, .int .i64 el, .slice ua ps.length uc] := by rw [hwb]; exact Blk.newA wa _ _
      have x0 := (hc2 0 (by decide)); 
      have y0 := (ba.cell (p := ⟨b2, o2 + i * 4 + 0, none⟩) hb2).trans (hc2 0 (by decide))
      have y1 := (ba.cell (p := ⟨b2, o2 + i * 4 + 1, none⟩) hb2).trans (hc2 1 (by decide))
      have y2 := (ba.cell (p := ⟨b2, o2 + i * 4 + 2, none⟩) hb2).trans (hc2 2 (by decide))
      have y3 := (ba.cell (p := ⟨b2, o2 + i * 4 + 3, none⟩) hb2).trans (hc2 3 (by decide))
      have s0 := ((K2.out.later HB.out).later ba).cell 0
      simp [tyc] at y0 y1 y2 y3 s0
      have KA := hide_ (ka.later bb)
      have KB := hide_ kb
      have HBb := hide_ (below_to (below_to HB.out ba) bb)
      have HPa := hide_ ((hP1.later ba).later bb)
      have HPb := hide_ ((hP2.later ba).later bb)
      clear hx hB' h1 h2 hc1 hc2 hP1 hP2 x0 q0 q1 q2 q3 bb ba ka kb
      go_upto_region 7 with fail
      rw [← hwa]
      clear hwa p0 p1 p2 p3 i0 i1 j0 j1
      go_upto_region 8 with fail
      rw [← hwb]
      clear hwb y0 y1 y2 y3 s0
      have a0 := KA.out.cell 0; have a1 := KA.out.cell 1; have a2 := KA.out.cell 2; have a3 := KA.out.cell 3
      have b0 := KB.out.cell 0; have b1' := KB.out.cell 1; have b2' := KB.out.cell 2; have b3 := KB.out.cell 3
      simp at a0 a1 a2 a3 b0 b1' b2' b3
      go_wp2_with fail
      clear a0 a1 a2 a3 b0 b1' b2' b3
      go_loopw [8] (fun x8 wr => ∃ (j : Nat), j ≤ ps.length ∧ x8 = .int .i64 (j : Int) ∧ Hid (Below wb.heap.size wb wr)) (fun x8 _ => ps.length - (intOf x8).toNat)
      case atStart => exact ⟨0, Nat.zero_le _, rfl, hide_ (Below.refl _ _)⟩
      case round =>
        obtain ⟨j, hj, rfl, HC⟩ := hrel
        generalize wr = wp at *
        have a3 := (KA.out.later HC.out).cell 3; have b3 := (KB.out.later HC.out).cell 3
        simp at a3 b3
        by_cases hjl : j < ps.length
        · have hjl' : (j : Int) < ps.length := by omega
          have hq : ps[j]? = some (ps[j]'hjl) := List.getElem?_eq_getElem hjl
          obtain ⟨g1, f1, rfl, -, z1⟩ := (HPa.out.later HC.out).open (by omega)
          obtain ⟨g2, f2, rfl, -, z2⟩ := (HPb.out.later HC.out).open (by omega)
          have e0 := z1 j _ hq 0 (by decide); have e1 := z1 j _ hq 1 (by decide); have e2 := z1 j _ hq 2 (by decide)
          have m0 := z2 j _ hq 0 (by decide); have m1 := z2 j _ hq 1 (by decide); have m2 := z2 j _ hq 2 (by decide)
          simp [ptc] at e0 e1 e2 m0 m1 m2
          generalize ps[j]'hjl = pp at *
          have hse := str_eqz pp.label pp.label
          simp at hse
          clear hq z1 z2
          go_wp2_with fail
          go_quiet (fail)
          have HCq : ∀ q, Hid (Below wb.heap.size wb (wp.drewN q)) := fun q => hide_ (below_drewNz HC.out q)
          go_wp2_with fail
          go_roundw
          case rel => exact ⟨j + 1, by omega, by go_num, HCq _⟩
          case measure => simp [intOf]; omega
        · have hjl' : ¬ (j : Int) < ps.length := by omega
          have HBn := hide_ (below_to HBb.out HC.out)
          go_wp2_with fail
          go_roundw
          case rel => exact ⟨i + 1, by omega, by go_num, HBn⟩
          case measure => simp [intOf]; omega
    · have hlt' : ¬ (i : Int) < T.length := by omega
      have HBr := HB
      go_wp2_with fail
      go_loopw [9] (fun x9 wr => ∃ (j : Nat), j ≤ R.length ∧ x9 = .int .i64 (j : Int) ∧ Hid (Below w0.heap.size w0 wr)) (fun x9 _ => R.length - (intOf x9).toNat)
      case atStart => exact ⟨0, Nat.zero_le _, rfl, HB⟩
      case round =>
        obtain ⟨j, hj, rfl, HC⟩ := hrel
        generalize wr = wp at *
        clear i0 i1 j0 j1
        have i1 := (K1.out.later HC.out).cell 1; have j1 := (K2.out.later HC.out).cell 1
        simp at i1 j1
        by_cases hjl : j < R.length
        · have hjl' : (j : Int) < R.length := by omega
          have hq : R[j]? = some (R[j]'hjl) := List.getElem?_eq_getElem hjl
          obtain ⟨g1, f1, rfl, -, z1⟩ := (hR1.out.later (below_to HB0.out HC.out)).open (by omega)
          obtain ⟨g2, f2, rfl, -, z2⟩ := (hR2.out.later (below_to HB0.out HC.out)).open (by omega)
          have e0 := z1 j _ hq 0 (by decide); have e1 := z1 j _ hq 1 (by decide)
          have m0 := z2 j _ hq 0 (by decide); have m1 := z2 j _ hq 1 (by decide)
          simp [rtc] at e0 e1 m0 m1
          generalize R[j]'hjl = rr at *
          have hse := str_eqz rr.name rr.name
          simp at hse
          clear hq z1 z2
          go_wp2_with fail
          go_quiet (fail)
          have HCq : ∀ q, Hid (Below w0.heap.size w0 (wp.drewN q)) := fun q => hide_ (below_drewNz HC.out q)
          go_wp2_with fail
          go_roundw
          case rel => exact ⟨j + 1, by omega, by go_num, HCq _⟩
          case measure => simp [intOf]; omega
        · have hjl' : ¬ (j : Int) < R.length := by omega
          have HBn := hide_ (below_to HB0.out HC.out)
          go_wp2
          go_ret
          exact ⟨rfl, HBn.out⟩
end Go.Proofs.YtbgjgbddpcofcaaGreatDoor
