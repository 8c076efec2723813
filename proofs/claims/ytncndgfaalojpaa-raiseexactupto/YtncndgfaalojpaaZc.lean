/- Plain: which schemas may be one: what types.Check answers. -/
import Derived.Test.YtncndgfaalojpaaZb
namespace Go.Proofs.Ytncndgfaalojpaa
set_option linter.unusedVariables false

def hasE (k : Int) : Bool := decide (k = 4 ∨ k = 5 ∨ k = 6)
def inB (n e : Int) : Bool := decide (0 ≤ n ∧ n < e)
def isCnt (n : Int) : Bool := decide (1 ≤ n ∧ n ≤ 1048576)
def nOk (k n : Int) : Bool := decide ((k = 1 ∧ (n = 1 ∨ n = 2 ∨ n = 4 ∨ n = 8)) ∨ ((k = 4 ∨ k = 5) ∧ 1 ≤ n ∧ n ≤ 1048576) ∨ ((k = 2 ∨ k = 3 ∨ k = 6 ∨ k = 7 ∨ k = 8) ∧ n = 0))
def elemOk (k e i : Int) : Bool := if hasE k then inB e i else decide (e = 0)
def fieldOk (p : Pt) : Bool := isName p.label && decide (p.tag = 0)
def armOk (p : Pt) : Bool := decide (p.label = ⟨#[]⟩ ∧ 0 ≤ p.tag ∧ p.tag ≤ 255)
def likeP (q p : Pt) : Bool := decide (q.label = p.label) && decide (q.tag = p.tag)
def thereP (l : List Pt) (p : Pt) : Bool := l.any (fun q => likeP q p)
def okP (r : Pt → Bool) (ps : List Pt) (i : Int) (j : Nat) : Bool := r (ps.getD j pt0) && !thereP (ps.take j) (ps.getD j pt0) && inB (ps.getD j pt0).ty i
def allP (r : Pt → Bool) (ps : List Pt) (i : Int) : Bool := decide (0 < ps.length ∧ ps.length ≤ 64) && (List.range ps.length).all (okP r ps i)
def partsOk (k : Int) (ps : List Pt) (i : Int) : Bool := if k = 8 then allP fieldOk ps i else if k = 7 then allP armOk ps i else decide (ps.length = 0)
def tyOk (t : Ty) (i : Int) : Bool := nOk t.k t.n && elemOk t.k t.e i && partsOk t.k t.ps i
/-- The first number that it is true of. -/
def firstI (n : Nat) (p : Nat → Bool) : Option Nat := (List.range n).find? p
theorem firstI_none {n : Nat} {p : Nat → Bool} (h : ∀ j, j < n → p j = false) : firstI n p = none := by
  unfold firstI
  rw [List.find?_eq_none]
  intro x hx
  rw [h x (List.mem_range.1 hx)]
  decide
theorem firstI_some {n i : Nat} {p : Nat → Bool} (hi : i < n) (h1 : p i = true) (h : ∀ j, j < i → p j = false) : firstI n p = some i := by
  unfold firstI
  rw [List.find?_eq_some_iff_append]
  refine ⟨h1, List.range i, (List.range' (i + 1) (n - i - 1)), ?_, fun a ha => by rw [h a (List.mem_range.1 ha)]; rfl⟩
  have e : List.range n = List.range' 0 n := by rw [List.range_eq_range']
  have e2 : List.range i = List.range' 0 i := by rw [List.range_eq_range']
  rw [e, e2]
  have e3 : i :: List.range' (i + 1) (n - i - 1) = List.range' i (n - i) := by
    rw [show n - i = (n - i - 1) + 1 by omega, List.range'_succ]
    simp
  rw [e3]
  have := @List.range'_append_1 0 i (n - i)
  rw [Nat.zero_add, show i + (n - i) = n by omega] at this
  exact this.symm
theorem firstI_none' {n : Nat} {p : Nat → Bool} (h : firstI n p = none) : ∀ j, j < n → p j = false := fun j hj => by
  unfold firstI at h
  rw [List.find?_eq_none] at h
  have := h j (List.mem_range.2 hj)
  simpa using this
theorem snoc_ind {α : Type} {P : List α → Prop} (h0 : P []) (h1 : ∀ l x, P l → P (l ++ [x])) (l : List α) : P l := by
  have key : ∀ r : List α, P r.reverse := fun r => by
    induction r with
    | nil => exact h0
    | cons x r ih => rw [List.reverse_cons]; exact h1 _ _ ih
  have := key l.reverse
  rwa [List.reverse_reverse] at this
/-- Depths. -/
def kidD (l : List Int) (ps : List Pt) (d : Int) : Int := ps.foldl (fun d p => max d (l.getD p.ty.toNat 0)) d
def dep1 (l : List Int) (t : Ty) : Int := kidD l t.ps (if hasE t.k then l.getD t.e.toNat 0 else 0) + 1
def depL (T : List Ty) : List Int := T.foldl (fun l t => l ++ [dep1 l t]) []
theorem depL_snoc (T : List Ty) (t : Ty) : depL (T ++ [t]) = depL T ++ [dep1 (depL T) t] := by simp [depL]
theorem depL_len (T : List Ty) : (depL T).length = T.length := by
  refine snoc_ind (P := fun T => (depL T).length = T.length) rfl (fun T t ih => ?_) T
  rw [depL_snoc]
  simp [ih]
theorem getD_app {α : Type} {l r : List α} {i : Nat} {d : α} (h : i < l.length) : (l ++ r).getD i d = l.getD i d := by
  simp only [List.getD, List.getElem?_append_left h]
theorem depL_pre (T R : List Ty) {i : Nat} (h : i < T.length) : (depL (T ++ R)).getD i 0 = (depL T).getD i 0 := by
  refine snoc_ind (P := fun R => (depL (T ++ R)).getD i 0 = (depL T).getD i 0) (by rw [List.append_nil]) (fun R t ih => ?_) R
  rw [← List.append_assoc, depL_snoc, getD_app (by rw [depL_len]; simp; omega)]
  exact ih
theorem depL_take (T : List Ty) {i m : Nat} (h : i < m) (hm : m ≤ T.length) : (depL (T.take m)).getD i 0 = (depL T).getD i 0 := by
  have := depL_pre (T.take m) (T.drop m) (i := i) (by simp; omega)
  rw [List.take_append_drop] at this
  exact this.symm
/-- Roots. -/
def findR (R : List Rt) (nm : ByteArray) : Nat := R.findIdx (fun q => decide (q.name = nm))
def rootOk (n : Nat) (R : List Rt) (i : Nat) : Bool := decide (i < 256) && isName (R.getD i rt0).name && inB (R.getD i rt0).ty n && decide (findR R (R.getD i rt0).name = i)
/-- What Check answers. -/
def chkR (n : Nat) (R : List Rt) : Int × Int := match firstI R.length (fun i => !rootOk n R i) with
  | some i => (92, (n : Int) + i)
  | none => (0, 0)
def chkD (T : List Ty) (R : List Rt) : Int × Int := match firstI T.length (fun i => decide (64 < (depL T).getD i 0)) with
  | some i => (83, (i : Int))
  | none => chkR T.length R
def chk (T : List Ty) (R : List Rt) : Int × Int := match firstI T.length (fun i => !tyOk (T.getD i ty0) i) with
  | some i => (92, (i : Int))
  | none => chkD T R
theorem chk_ty {T : List Ty} {R : List Rt} {i : Nat} (hi : i < T.length) (h1 : tyOk (T.getD i ty0) i = false) (h : ∀ j, j < i → tyOk (T.getD j ty0) j = true) : chk T R = (92, (i : Int)) := by
  have e := firstI_some (p := fun i => !tyOk (T.getD i ty0) i) hi (by simp only [h1]; rfl) (fun j hj => by simp only [h j hj]; rfl)
  unfold chk
  rw [e]
theorem chk_deep {T : List Ty} {R : List Rt} (h : ∀ j, j < T.length → tyOk (T.getD j ty0) j = true) : chk T R = chkD T R := by
  have e := firstI_none (n := T.length) (p := fun i => !tyOk (T.getD i ty0) i) (fun j hj => by simp only [h j hj]; rfl)
  unfold chk
  rw [e]
theorem chkD_at {T : List Ty} {R : List Rt} {i : Nat} (hi : i < T.length) (h1 : 64 < (depL T).getD i 0) (h : ∀ j, j < i → (depL T).getD j 0 ≤ 64) : chkD T R = (83, (i : Int)) := by
  have e := firstI_some (p := fun i => decide (64 < (depL T).getD i 0)) hi (decide_eq_true h1) (fun j hj => decide_eq_false (by have := h j hj; omega))
  unfold chkD
  rw [e]
theorem chkD_none {T : List Ty} {R : List Rt} (h : ∀ j, j < T.length → (depL T).getD j 0 ≤ 64) : chkD T R = chkR T.length R := by
  have e := firstI_none (p := fun i => decide (64 < (depL T).getD i 0)) (fun j hj => decide_eq_false (by have := h j hj; omega))
  unfold chkD
  rw [e]
theorem chkR_at {n : Nat} {R : List Rt} {i : Nat} (hi : i < R.length) (h1 : rootOk n R i = false) (h : ∀ j, j < i → rootOk n R j = true) : chkR n R = (92, (n : Int) + i) := by
  have e := firstI_some (p := fun i => !rootOk n R i) hi (by simp only [h1]; rfl) (fun j hj => by simp only [h j hj]; rfl)
  unfold chkR
  rw [e]
theorem chkR_none {n : Nat} {R : List Rt} (h : ∀ j, j < R.length → rootOk n R j = true) : chkR n R = (0, 0) := by
  have e := firstI_none (n := R.length) (p := fun i => !rootOk n R i) (fun j hj => by simp only [h j hj]; rfl)
  unfold chkR
  rw [e]
/-- What a schema that may be one is. -/
structure OkS (T : List Ty) (R : List Rt) : Prop where
  ty : ∀ j, j < T.length → tyOk (T.getD j ty0) j = true
  dep : ∀ j, j < T.length → (depL T).getD j 0 ≤ 64
  root : ∀ j, j < R.length → rootOk T.length R j = true
theorem OkS.chk {T : List Ty} {R : List Rt} (h : OkS T R) : chk T R = (0, 0) := by rw [chk_deep h.ty, chkD_none h.dep, chkR_none h.root]
theorem okS_of {T : List Ty} {R : List Rt} (h : (chk T R).1 = 0) : OkS T R := by
  unfold Go.Proofs.Ytncndgfaalojpaa.chk at h
  cases h1 : firstI T.length (fun i => !tyOk (T.getD i ty0) i) with
  | some i => rw [h1] at h; simp at h
  | none =>
    rw [h1] at h
    simp only at h
    unfold chkD at h
    cases h2 : firstI T.length (fun i => decide (64 < (depL T).getD i 0)) with
    | some i => rw [h2] at h; simp at h
    | none =>
      rw [h2] at h
      simp only at h
      unfold chkR at h
      cases h3 : firstI R.length (fun i => !rootOk T.length R i) with
      | some i => rw [h3] at h; simp at h
      | none =>
        refine ⟨fun j hj => ?_, fun j hj => ?_, fun j hj => ?_⟩
        · have := firstI_none' h1 j hj; simpa using this
        · have := firstI_none' h2 j hj; simp at this; simpa using this
        · have := firstI_none' h3 j hj; simpa using this
theorem tyOk_parts {t : Ty} {i : Int} (h : tyOk t i = true) : nOk t.k t.n = true ∧ elemOk t.k t.e i = true ∧ partsOk t.k t.ps i = true := by
  unfold tyOk at h
  simp only [Bool.and_eq_true] at h
  exact ⟨h.1.1, h.1.2, h.2⟩
theorem tyOk_elem {t : Ty} {i : Int} (h : tyOk t i = true) (hk : hasE t.k = true) : 0 ≤ t.e ∧ t.e < i := by
  have := (tyOk_parts h).2.1
  unfold elemOk at this
  rw [if_pos hk] at this
  exact of_decide_eq_true this
theorem allP_at {r : Pt → Bool} {ps : List Pt} {i : Int} (h : allP r ps i = true) {j : Nat} {p : Pt} (hp : ps[j]? = some p) : r p = true ∧ thereP (ps.take j) p = false ∧ 0 ≤ p.ty ∧ p.ty < i := by
  unfold allP at h
  rw [Bool.and_eq_true, List.all_eq_true] at h
  have hj := (List.getElem?_eq_some_iff.1 hp).1
  have := h.2 j (List.mem_range.2 hj)
  have e : ps.getD j pt0 = p := by simp [List.getD, hp]
  unfold okP at this
  rw [e] at this
  simp only [Bool.and_eq_true, Bool.not_eq_true', inB, decide_eq_true_eq] at this
  exact ⟨this.1.1, this.1.2, this.2⟩
theorem tyOk_part {t : Ty} {i : Int} (h : tyOk t i = true) {j : Nat} {p : Pt} (hp : t.ps[j]? = some p) : 0 ≤ p.ty ∧ p.ty < i := by
  have := (tyOk_parts h).2.2
  unfold partsOk at this
  split at this
  · exact (allP_at this hp).2.2
  · split at this
    · exact (allP_at this hp).2.2
    · have hj := (List.getElem?_eq_some_iff.1 hp).1
      simp at this
      rw [this] at hj
      simp at hj
theorem tyOk_len {t : Ty} {i : Int} (h : tyOk t i = true) : t.ps.length ≤ 64 := by
  have := (tyOk_parts h).2.2
  unfold partsOk at this
  have key : ∀ r, allP r t.ps i = true → t.ps.length ≤ 64 := fun r hr => by
    unfold allP at hr
    rw [Bool.and_eq_true, decide_eq_true_eq] at hr
    omega
  split at this
  · exact key _ this
  · split at this
    · exact key _ this
    · simp at this
      simp [this]
end Go.Proofs.Ytncndgfaalojpaa
