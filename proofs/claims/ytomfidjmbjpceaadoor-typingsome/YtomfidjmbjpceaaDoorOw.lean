/- TypingFirst: what Some answers; nodes written over. -/
import Derived.Test.YtomfidjmbjpceaaDoorOn
import Derived.Test.YtomfidjmbjpceaaDoorOk
namespace Go.Proofs.YtomfidjmbjpceaaDoor
open Go.RowKit
set_option linter.unusedVariables false

theorem mkT_ok {T : List Ty} {R : List Rt} {t : Int} {p : List Int} (hS : OkS T R) : ∀ (f : Nat) (st : List Int) (V W : List Nv), MkI T t p st V → mkT T p f st V = some W → W.length ≤ 1048576 ∧ (∀ x ∈ W, NvOk x) ∧ V.length ≤ W.length ∧ (st ≠ [] → V.length < W.length)
  | 0, st, V, W, h, e => by rw [mkT] at e; cases e
  | f + 1, [], V, W, h, e => by
    rw [mkT] at e
    injection e with e
    subst e
    have := h.len
    simp at this
    exact ⟨this, h.ok, Nat.le_refl _, fun hn => absurd rfl hn⟩
  | f + 1, s :: st, V, W, h, e => by
    rw [mkT] at e
    obtain ⟨-, -, -, -, -, hn⟩ := h.next hS
    split at e
    · cases e
    · rename_i hg
      obtain ⟨h1, h2, h3, h4⟩ := mkT_ok hS f _ _ W (hn hg) e
      simp only [List.length_append, List.length_singleton] at h3
      exact ⟨h1, h2, by omega, fun _ => by omega⟩
theorem someT_ok {T : List Ty} {R : List Rt} {t : Int} {p : List Int} (hS : OkS T R) (h0 : 0 ≤ t) (h1 : t < T.length) : someT T R t p = ([], 5) ∨ ∃ V, someT T R t p = (V, 0) ∧ 0 < V.length ∧ V.length ≤ 1048576 ∧ ∀ x ∈ V, NvOk x := by
  have hc : (chk T R).1 = 0 := by rw [hS.chk]
  have e : someT T R t p = match mkT T p 1048578 [t] [] with | some v => (v, 0) | none => ([], 5) := by
    unfold someT
    rw [if_neg (by simp [hc]), if_neg (by omega)]
    generalize mkT T p 1048578 [t] [] = z
    cases z <;> rfl
  cases hm : mkT T p 1048578 [t] [] with
  | none => rw [hm] at e; exact .inl e
  | some V =>
    rw [hm] at e
    obtain ⟨h1, h2, h3, h4⟩ := mkT_ok hS 1048578 [t] [] V (MkI.start h0 h1) hm
    exact .inr ⟨V, e, h4 (by simp), h1, h2⟩
theorem cellsG_set {α : Type} {c : Nat} {f : α → List Value} (hf : ∀ x, (f x).length = c) (l : List α) (i : Nat) (y : α) (hi : i < l.length) (j : Nat) (hj : j < l.length * c) : (cellsG f (l.set i y))[j]? = if i * c ≤ j ∧ j < i * c + c then (f y)[j - i * c]? else (cellsG f l)[j]? := by
  rcases Nat.eq_zero_or_pos c with h0 | h0
  · subst h0; simp at hj
  have hq : j / c < l.length := Nat.div_lt_of_lt_mul (by rw [Nat.mul_comm]; exact hj)
  have hjm : j = j / c * c + j % c := by rw [Nat.mul_comm]; exact (Nat.div_add_mod j c).symm
  have hml := Nat.mod_lt j h0
  by_cases he : j / c = i
  · have hx : (l.set i y)[j / c]? = some y := by rw [he, List.getElem?_set_self hi]
    have h := cellsG_at hf (l.set i y) (j / c) (j % c) y hx hml
    rw [← hjm] at h
    rw [h, if_pos (by rw [← he]; omega)]
    congr 1
    rw [← he]
    omega
  · have hx : (l.set i y)[j / c]? = some (l[j / c]'hq) := by rw [List.getElem?_set_ne (fun h => he h.symm)]; exact List.getElem?_eq_getElem hq
    have h := cellsG_at hf (l.set i y) (j / c) (j % c) _ hx hml
    have h2 := cellsG_at hf l (j / c) (j % c) _ (List.getElem?_eq_getElem hq) hml
    rw [← hjm] at h h2
    rw [h, h2, if_neg]
    intro ⟨h3, h4⟩
    apply he
    refine Nat.div_eq_of_lt_le h3 ?_
    rw [Nat.add_mul, Nat.one_mul]
    exact h4
/-- A node written over in a list of the call's own. -/
theorem NOwn.set3 {w : World} {B g n cap i : Nat} {l : List Nv} (h : NOwn w B (.slice (some ⟨g, 0, none⟩) n cap) l) (hi : i < l.length) (y : Nv) : NOwn (((w.setCell ⟨g, i * 3, none⟩ (.int .i64 y.k)).setCell ⟨g, i * 3 + 1, none⟩ (.int .u64 y.n)).setCell ⟨g, i * 3 + 2, none⟩ (.int .i64 y.kids)) B (.slice (some ⟨g, 0, none⟩) n cap) (l.set i y) := by
  obtain ⟨g', cap', ys, e, hb, hn, hm, hys, ht, hk⟩ := ownS_blk h (by omega)
  injection e with e1 e2 e3
  injection e1 with e1
  injection e1 with e1 _ _
  subst e1 e2 e3
  have hk2 := ((hk.set (i * 3) (.int .i64 y.k)).set (i * 3 + 1) (.int .u64 y.n)).set (i * 3 + 2) (.int .i64 y.kids)
  have h2 := ownS_of_blk (B := B) (n := l.length) (c := 3) (cap := cap) hk2 hb (by simp [hys]) hn hm
  have e4 : (((ys.set (i * 3) (.int .i64 y.k)).set (i * 3 + 1) (.int .u64 y.n)).set (i * 3 + 2) (.int .i64 y.kids)).take (l.length * 3) = cellsG nvc (l.set i y) := by
    apply List.ext_getElem?
    intro j
    by_cases hj : j < l.length * 3
    · rw [cellsG_set nvc_len l i y hi j hj, List.getElem?_take, if_pos hj, ← ht]
      have hjy : j < ys.length := by rw [hys]; have := Nat.mul_le_mul_right 3 hn; omega
      by_cases h0 : j = i * 3
      · subst h0
        rw [if_pos (by omega), List.getElem?_set_ne (by omega), List.getElem?_set_ne (by omega), List.getElem?_set_self hjy]
        simp [nvc]
      · by_cases h1 : j = i * 3 + 1
        · subst h1
          rw [if_pos (by omega), List.getElem?_set_ne (by omega), List.getElem?_set_self (by simpa using hjy)]
          simp [nvc]
        · by_cases h2 : j = i * 3 + 2
          · subst h2
            rw [if_pos (by omega), List.getElem?_set_self (by simpa using hjy)]
            simp [nvc]
          · rw [if_neg (by omega), List.getElem?_set_ne (by omega), List.getElem?_set_ne (by omega), List.getElem?_set_ne (by omega), List.getElem?_take, if_pos hj]
    · rw [List.getElem?_eq_none (by simp; omega), List.getElem?_eq_none (by rw [cellsG_len nvc_len]; simp; omega)]
  unfold NOwn
  rw [List.length_set, ← e4]
  exact h2
theorem NOwn.at3 {w : World} {B g n cap i : Nat} {l : List Nv} {x : Nv} (h : NOwn w B (.slice (some ⟨g, 0, none⟩) n cap) l) (hx : l[i]? = some x) : w.cell? ⟨g, i * 3, none⟩ = some (.int .i64 x.k) ∧ w.cell? ⟨g, i * 3 + 1, none⟩ = some (.int .u64 x.n) ∧ w.cell? ⟨g, i * 3 + 2, none⟩ = some (.int .i64 x.kids) := by
  obtain ⟨a, c, e, -, -, hr⟩ := own_grow nvc_len h
  injection e with e1 _ _
  subst e1
  obtain ⟨b, off, e2, -, hc⟩ := hr.open (by have := (List.getElem?_eq_some_iff.1 hx).1; omega)
  injection e2 with e2
  injection e2 with e3 e4 _
  subst e3 e4
  have h0 := hc i x hx 0 (by decide); have h1 := hc i x hx 1 (by decide); have h2 := hc i x hx 2 (by decide)
  simp only [Nat.zero_add, Nat.add_zero] at h0 h1 h2
  exact ⟨h0, h1, h2⟩
/-- A node's number written over in a list of the call's own. -/
theorem NOwn.setN {w : World} {B g n cap i : Nat} {l : List Nv} {x : Nv} (h : NOwn w B (.slice (some ⟨g, 0, none⟩) n cap) l) (hx : l[i]? = some x) (n' : Int) : NOwn (w.setCell ⟨g, i * 3 + 1, none⟩ (.int .u64 n')) B (.slice (some ⟨g, 0, none⟩) n cap) (l.set i ⟨x.k, n', x.kids⟩) := by
  have hi := (List.getElem?_eq_some_iff.1 hx).1
  obtain ⟨g', cap', ys, e, hb, hn, hm, hys, ht, hk⟩ := ownS_blk h (by omega)
  injection e with e1 e2 e3
  injection e1 with e1
  injection e1 with e1 _ _
  subst e1 e2 e3
  have hk2 := hk.set (i * 3 + 1) (.int .u64 n')
  have h2 := ownS_of_blk (B := B) (n := l.length) (c := 3) (cap := cap) hk2 hb (by simp [hys]) hn hm
  have c0 := cellsG_at nvc_len l i 0 x hx (by decide)
  have c2 := cellsG_at nvc_len l i 2 x hx (by decide)
  have e4 : (ys.set (i * 3 + 1) (.int .u64 n')).take (l.length * 3) = cellsG nvc (l.set i ⟨x.k, n', x.kids⟩) := by
    apply List.ext_getElem?
    intro j
    by_cases hj : j < l.length * 3
    · rw [cellsG_set nvc_len l i _ hi j hj, List.getElem?_take, if_pos hj]
      have hjy : j < ys.length := by rw [hys]; have := Nat.mul_le_mul_right 3 hn; omega
      have hyj : ys[j]? = (cellsG nvc l)[j]? := by rw [← ht, List.getElem?_take, if_pos hj]
      by_cases h1 : j = i * 3 + 1
      · subst h1
        rw [if_pos (by omega), List.getElem?_set_self hjy]
        simp [nvc]
      · rw [List.getElem?_set_ne (by omega), hyj]
        by_cases h0 : j = i * 3
        · subst h0
          rw [if_pos (by omega)]
          simp only [Nat.add_zero] at c0
          rw [c0]
          simp [nvc]
        · by_cases h2 : j = i * 3 + 2
          · subst h2
            rw [if_pos (by omega), c2]
            simp [nvc]
          · rw [if_neg (by omega)]
    · rw [List.getElem?_eq_none (by simp; omega), List.getElem?_eq_none (by rw [cellsG_len nvc_len]; simp; omega)]
  unfold NOwn
  rw [List.length_set, ← e4]
  exact h2
theorem NOwn.fr {w : World} {B g n cap : Nat} {l : List Nv} (h : NOwn w B (.slice (some ⟨g, 0, none⟩) n cap) l) (i : Nat) : w.frozen? ⟨g, i, none⟩ = false := by
  obtain ⟨zs, hz⟩ := ownS_type h (k := g) rfl
  exact hz.frozen i
end Go.Proofs.YtomfidjmbjpceaaDoor
