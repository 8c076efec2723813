import Derived.Test.YtiojpohmgjdgfaaGreatPart08
import Derived.Test.YtiojpohmgjdgfaaGreatPart07
import Derived.Test.YtiojpohmgjdgfaaGreatPart10
import Derived.Maps.AppendAt
import Derived.Laws.OwnMore

/- Rows of structs over any encoding, over any program (out of Zb, Zcp, Zlm, Eo). -/
namespace Go.Proofs.YtiojpohmgjdgfaaGreat
open Go.RowKit
set_option linter.unusedVariables false
theorem results_cell_row {P : Program} {fn : Func} {p : Tmp} {ty : TypeId} (h : fn.results = #[.cell p ty]) (tmps : Array Value) (w : World) (g : Nat) (t : TypeId) (cs : Array Value) (fr : Nat × Nat) (d : TypeDesc)
    (hp : tmps.getD p undef = .pointer (some ⟨g, 0, none⟩)) (hg : w.heap[g]? = some (.cells cs t fr))
    (hu : P.underlying ty = some d) (hd : (match d with | .struct _ | .array _ _ => true | _ => false) = true) (hi : (P.info? ty).map (·.size) = some cs.size) :
    (results fn tmps).run P w = .ok (.agg cs) w := by
  have hp' : tmps[p]?.getD undef = .pointer (some ⟨g, 0, none⟩) := by simpa using hp
  simp only [results, h]
  simp [hp', asAddr, run_loadVar_row w g t ty cs fr d hg hu hd hi]
theorem below_drewN {B : Nat} {w w' : World} (h : Below B w w') (q : Nat) : Below B w (w'.drewN q) := ⟨h.os, h.tape, h.output, h.size, h.block⟩
theorem Blk.drewN {w : World} {g : Nat} {t : TypeId} {xs : List Value} (h : Blk w g t xs) (q : Nat) : Blk (w.drewN q) g t xs := h
theorem upd_drewN {S : Nat → Prop} {a w : World} (h : Upd S a w) (q : Nat) : Upd S a (w.drewN q) := ⟨h.os, h.tape, h.output, h.size, h.block⟩
theorem blk2 (w : World) (xs ys : Array Value) (t t' : TypeId) : Blk ((w.alloc (.cells xs t)).alloc (.cells ys t')) w.heap.size t xs.toList ∧ Blk ((w.alloc (.cells xs t)).alloc (.cells ys t')) (w.heap.size + 1) t' ys.toList := by
  refine ⟨(Blk.newA w xs t).alloc _, ?_⟩
  have := Blk.newA (w.alloc (.cells xs t)) ys t'
  simpa using this
theorem below1 (w : World) (o : Obj) : Below w.heap.size w (w.alloc o) := (Below.refl _ _).alloc (Nat.le_refl _) _
theorem below2 (w : World) (o o' : Obj) : Below w.heap.size w ((w.alloc o).alloc o') := ((Below.refl _ _).alloc (Nat.le_refl _) _).alloc (by simp) _
theorem cell_al (w : World) (o : Obj) (b i : Nat) (h : b < w.heap.size) : (w.alloc o).cell? ⟨b, i, none⟩ = w.cell? ⟨b, i, none⟩ := World.cell?_of_block (Below.heap_alloc w o b h)
theorem own_base {w : World} {B B' n c : Nat} {e : TypeId} {v : Value} {xs : List Value} (h : w.ownsRow B e c v n xs) (hb : B' ≤ B) : w.ownsRow B' e c v n xs := by
  refine ⟨h.1, ?_⟩
  rcases h.2 with h | ⟨g, cap, cur, rfl, hg, rest⟩
  · exact .inl h
  · exact .inr ⟨g, cap, cur, rfl, Nat.le_trans hb hg, rest⟩
theorem below_set {B : Nat} {w w' : World} (h : Below B w w') (b i : Nat) (v : Value) (hb : B ≤ b) : Below B w (w'.setCell ⟨b, i, none⟩ v) := h.setCell hb v
theorem own_len {w : World} {B n c : Nat} {e : TypeId} {v : Value} {xs : List Value} (h : w.ownsRow B e c v n xs) : n ≤ 9223372036854775807 := by
  rcases h.2 with ⟨_, h0⟩ | ⟨g, cap, cur, _, _, _, hn, hm, _⟩
  · omega
  · unfold maxLen at hm; omega
/-! ### Rows of things of c cells each -/
section
variable {α : Type} {c : Nat} {f : α → List Value}
def cellsG (f : α → List Value) (l : List α) : List Value := l.flatMap f
theorem cellsG_app (l r : List α) : cellsG f (l ++ r) = cellsG f l ++ cellsG f r := by simp [cellsG]
theorem cellsG_one (x : α) : cellsG f [x] = f x := by simp [cellsG]
theorem cellsG_len (hf : ∀ x, (f x).length = c) (l : List α) : (cellsG f l).length = l.length * c := by
  induction l with
  | nil => simp [cellsG]
  | cons x l ih =>
    have e : cellsG f (x :: l) = f x ++ cellsG f l := by simp [cellsG]
    rw [e, List.length_append, ih, hf, List.length_cons, Nat.add_mul]
    omega
theorem cellsG_at (hf : ∀ x, (f x).length = c) : ∀ (l : List α) (i j : Nat) (x : α), l[i]? = some x → j < c → (cellsG f l)[i * c + j]? = (f x)[j]?
  | [], i, j, x, h, _ => by simp at h
  | y :: N, 0, j, x, h, hj => by
    simp at h
    subst h
    have e : cellsG f (y :: N) = f y ++ cellsG f N := by simp [cellsG]
    rw [e, List.getElem?_append_left (by rw [hf]; omega)]
    simp
  | y :: N, i + 1, j, x, h, hj => by
    have ih := cellsG_at hf N i j x (by simpa using h) hj
    have e : cellsG f (y :: N) = f y ++ cellsG f N := by simp [cellsG]
    have e2 : (i + 1) * c + j - (f y).length = i * c + j := by rw [hf, Nat.add_mul]; omega
    rw [e, List.getElem?_append_right (by rw [hf, Nat.add_mul]; omega), e2, ih]
/-- A row of things lies here. -/
def GRow (c : Nat) (f : α → List Value) (w : World) (a : Option Addr) (l : List α) : Prop :=
  l = [] ∨ ∃ b off, a = some ⟨b, off, none⟩ ∧ b < w.heap.size ∧ ∀ (i : Nat) (x : α), l[i]? = some x → ∀ j, j < c → w.cell? ⟨b, off + i * c + j, none⟩ = (f x)[j]?
theorem GRow.nil (w : World) (a : Option Addr) : GRow c f w a [] := .inl rfl
theorem GRow.later {w w' : World} {a : Option Addr} {l : List α} (h : GRow c f w a l) (hB : Below w.heap.size w w') : GRow c f w' a l := by
  rcases h with h | ⟨b, off, rfl, hb, hc⟩
  · exact .inl h
  · exact .inr ⟨b, off, rfl, Nat.lt_of_lt_of_le hb hB.size, fun i x hx j hj => (hB.cell (p := ⟨b, off + i * c + j, none⟩) hb).trans (hc i x hx j hj)⟩
theorem GRow.upd {w w' : World} {a : Option Addr} {l : List α} {S : Nat → Prop} (h : GRow c f w a l) (hu : Upd S w w') (hs : ∀ x, a = some x → ¬ S x.block) : GRow c f w' a l := by
  rcases h with h | ⟨b, off, rfl, hb, hc⟩
  · exact .inl h
  · exact .inr ⟨b, off, rfl, Nat.lt_of_lt_of_le hb hu.size, fun i x hx j hj => by rw [World.cell?_of_block (w := w) (hu.block b hb (hs _ rfl))]; exact hc i x hx j hj⟩
theorem GRow.open {w : World} {a : Option Addr} {l : List α} (h : GRow c f w a l) (hl : 0 < l.length) : ∃ b off, a = some ⟨b, off, none⟩ ∧ b < w.heap.size ∧ ∀ (i : Nat) (x : α), l[i]? = some x → ∀ j, j < c → w.cell? ⟨b, off + i * c + j, none⟩ = (f x)[j]? := by
  rcases h with rfl | h
  · simp at hl
  · exact h
theorem GRow.take {w : World} {a : Option Addr} {l : List α} (h : GRow c f w a l) (m : Nat) : GRow c f w a (l.take m) := by
  rcases h with rfl | ⟨b, off, rfl, hb, hc⟩
  · exact .inl (by simp)
  · refine .inr ⟨b, off, rfl, hb, fun i x hx => ?_⟩
    rw [List.getElem?_take] at hx
    split at hx
    · exact hc i x hx
    · cases hx
theorem own_grow {e : TypeId} {w : World} {B : Nat} {v : Value} {l : List α} (hf : ∀ x, (f x).length = c) (h : w.ownsRow B e c v l.length (cellsG f l)) : ∃ a cap, v = .slice a l.length cap ∧ l.length ≤ cap ∧ (a = none → cap = 0) ∧ GRow c f w a l := by
  rcases Nat.eq_zero_or_pos l.length with h0 | h0
  · have hN : l = [] := List.eq_nil_of_length_eq_zero h0
    subst hN
    rcases h.2 with ⟨rfl, _⟩ | ⟨g, cap, cur, rfl, hb, hg, hnc, _⟩
    · exact ⟨none, 0, rfl, Nat.le_refl _, fun _ => rfl, .inl rfl⟩
    · exact ⟨_, cap, rfl, by simp, fun h => (by cases h), .inl rfl⟩
  · obtain ⟨g, cap, ys, rfl, hb, hn, hm, hl, ht, hK⟩ := ownS_blk h h0
    refine ⟨_, cap, rfl, hn, fun h => (by cases h), .inr ⟨g, 0, rfl, hK.lt, fun i x hx j hj => ?_⟩⟩
    have hi := (List.getElem?_eq_some_iff.1 hx).1
    have hlt : i * c + j < l.length * c := by
      have h1 : i * c + c ≤ l.length * c := by rw [← Nat.succ_mul]; exact Nat.mul_le_mul_right c hi
      omega
    rw [hK.cell, ← cellsG_at hf l i j x hx hj, ← ht, List.getElem?_take, if_pos hlt, Nat.zero_add]
theorem blk_grow {e : TypeId} {w : World} {g : Nat} {l : List α} (hf : ∀ x, (f x).length = c) (h : Blk w g e (cellsG f l)) : GRow c f w (some ⟨g, 0, none⟩) l := by
  refine .inr ⟨g, 0, rfl, h.lt, fun i x hx j hj => ?_⟩
  rw [h.cell, ← cellsG_at hf l i j x hx hj, Nat.zero_add]
end
theorem row_set_at {α : Type} {c : Nat} {f : α → List Value} (hf : ∀ x, (f x).length = c) (l : List α) (i : Nat) (y : α) (hi : i < l.length) (j : Nat) (hj : j < l.length * c) : (cellsG f (l.set i y))[j]? = if i * c ≤ j ∧ j < i * c + c then (f y)[j - i * c]? else (cellsG f l)[j]? := by
  rcases Nat.eq_zero_or_pos c with h0 | h0
  · subst h0; simp at hj
  have hq : j / c < l.length := Nat.div_lt_of_lt_mul (by rw [Nat.mul_comm]; exact hj)
  have hjm : j = j / c * c + j % c := by rw [Nat.mul_comm]; exact (Nat.div_add_mod j c).symm
  have hml := Nat.mod_lt j h0
  by_cases he : j / c = i
  · have hx : (l.set i y)[j / c]? = some y := by rw [he, List.getElem?_set_self hi]
    have h := cellsG_at hf (l.set i y) (j / c) (j % c) y hx hml
    rw [← hjm] at h
    rw [h, if_pos (by rw [← he]; omega)]
    congr 1
    rw [← he]
    omega
  · have hx : (l.set i y)[j / c]? = some (l[j / c]'hq) := by rw [List.getElem?_set_ne (fun h => he h.symm)]; exact List.getElem?_eq_getElem hq
    have h := cellsG_at hf (l.set i y) (j / c) (j % c) _ hx hml
    have h2 := cellsG_at hf l (j / c) (j % c) _ (List.getElem?_eq_getElem hq) hml
    rw [← hjm] at h h2
    rw [h, h2, if_neg]
    intro ⟨h3, h4⟩
    apply he
    refine Nat.div_eq_of_lt_le h3 ?_
    rw [Nat.add_mul, Nat.one_mul]
    exact h4
/-- The cells of an element of four cells written over. -/
theorem row_set4 {α : Type} {f : α → List Value} (hf : ∀ x, (f x).length = 4) {w : World} {B g n cap i : Nat} {e : TypeId} {l : List α} (h : w.ownsRow B e 4 (.slice (some ⟨g, 0, none⟩) n cap) l.length (cellsG f l)) (hi : i < l.length) (y : α) (y0 y1 y2 y3 : Value) (hy : f y = [y0, y1, y2, y3]) :
    ((((w.setCell ⟨g, i * 4, none⟩ y0).setCell ⟨g, i * 4 + 1, none⟩ y1).setCell ⟨g, i * 4 + 2, none⟩ y2).setCell ⟨g, i * 4 + 3, none⟩ y3).ownsRow B e 4 (.slice (some ⟨g, 0, none⟩) n cap) (l.set i y).length (cellsG f (l.set i y)) := by
  obtain ⟨g', cap', ys, e, hb, hn, hm, hys, ht, hk⟩ := ownS_blk h (by omega)
  injection e with e1 e2 e3
  injection e1 with e1
  injection e1 with e1 _ _
  subst e1 e2 e3
  have hk2 := (((hk.set (i * 4) y0).set (i * 4 + 1) y1).set (i * 4 + 2) y2).set (i * 4 + 3) y3
  have h2 := ownS_of_blk (B := B) (n := l.length) (c := 4) (cap := cap) hk2 hb (by simp [hys]) hn hm
  have e4 : ((((ys.set (i * 4) y0).set (i * 4 + 1) y1).set (i * 4 + 2) y2).set (i * 4 + 3) y3).take (l.length * 4) = cellsG f (l.set i y) := by
    apply List.ext_getElem?
    intro j
    by_cases hj : j < l.length * 4
    · rw [row_set_at hf l i y hi j hj, List.getElem?_take, if_pos hj, ← ht]
      have hjy : j < ys.length := by rw [hys]; have := Nat.mul_le_mul_right 4 hn; omega
      by_cases h0 : j = i * 4
      · subst h0
        rw [if_pos (by omega), List.getElem?_set_ne (by omega), List.getElem?_set_ne (by omega), List.getElem?_set_ne (by omega), List.getElem?_set_self hjy, hy]
        simp
      · by_cases h1 : j = i * 4 + 1
        · subst h1
          rw [if_pos (by omega), List.getElem?_set_ne (by omega), List.getElem?_set_ne (by omega), List.getElem?_set_self (by simpa using hjy), hy]
          simp
        · by_cases h2 : j = i * 4 + 2
          · subst h2
            rw [if_pos (by omega), List.getElem?_set_ne (by omega), List.getElem?_set_self (by simpa using hjy), hy]
            simp
          · by_cases h3 : j = i * 4 + 3
            · subst h3
              rw [if_pos (by omega), List.getElem?_set_self (by simpa using hjy), hy]
              simp
            · rw [if_neg (by omega), List.getElem?_set_ne (by omega), List.getElem?_set_ne (by omega), List.getElem?_set_ne (by omega), List.getElem?_set_ne (by omega), List.getElem?_take, if_pos hj]
    · rw [List.getElem?_eq_none (by simp; omega), List.getElem?_eq_none (by rw [cellsG_len hf]; simp; omega)]
  rw [List.length_set, ← e4]
  exact h2
set_option maxRecDepth 100000 in
/-- append(nil, x...), x a row of structs of any kind: new memory. -/
theorem run_copyG {α : Type} {c : Nat} {f : α → List Value} {P : Program} {t e : TypeId} {z : Value} {bytes : Nat} (hf : ∀ x, (f x).length = c) (hone : ∀ x, ∀ u ∈ f x, u.oneCell' = true) (ht : P.underlying t = some (.slice e)) (hinfo : (P.info? e).map (fun i => (i.zero, i.size, i.bytes)) = some (some z, c, bytes)) (hzs : z.cells.size = c) (hc : 0 < c)
    (w : World) (a : Option Addr) (n cap : Nat) (l : List α) (hn : l.length = n) (hr : GRow c f w a l) (hnil : a = none → cap = 0) (h63 : n ≤ maxLen) (hl : n * bytes ≤ 140737488355328) :
    ∃ v' w', (Builtin.append_ #[t, t] t #[.slice none 0 0, .slice a n cap]).run P w = .ok v' w' ∧ w'.ownsRow w.heap.size e c v' n (cellsG f l) ∧ Below w.heap.size w w' := by
  subst hn
  have hall : ∀ u ∈ cellsG f l, u.oneCell' = true := fun u hu => by
    simp only [cellsG, List.mem_flatMap] at hu
    obtain ⟨x, _, hx⟩ := hu
    exact hone x u hx
  obtain ⟨i0, hi, hz0, hz1, hz2⟩ := info_parts hinfo
  rcases hr with rfl | ⟨b, off, rfl, hb, hcl⟩
  · cases a with
    | none =>
      obtain rfl := hnil rfl
      exact ⟨_, w, run_append_owned_none (P := P) w w.heap.size t t e i0 c ht hi (.slice none 0 0) 0 [] (World.ownsRow_nil _ _ _ _), World.ownsRow_nil _ _ _ _, Below.refl _ _⟩
    | some x =>
      obtain ⟨v', w', hrun, h2, h3, h4, h5⟩ := run_append_own_at (P := P) w w.heap.size t t e i0 z c bytes ht hi hz0 hz1 hz2 hzs hc (.slice none 0 0) 0 [] (World.ownsRow_nil _ _ _ _) x 0 cap [] (by simp) (fun j u hj => by simp at hj) (fun u hu => by cases hu) (by unfold maxLen; omega) (by omega) (Nat.le_refl _)
      have hg := (Upd.refl (fun _ => False) w).grown h3 (fun k hk => by cases hk)
      simp only [List.append_nil, Nat.add_zero] at h2
      exact ⟨v', w', by simpa using hrun, by simpa [cellsG] using h2, hg.below w.heap.size (Nat.le_refl _) (fun k hk => hk.elim)⟩
  · have hcell : ∀ j u, (cellsG f l)[j]? = some u → w.cell? ((⟨b, off, none⟩ : Addr).add j) = some u := fun j u hj => by
      have hlt := (List.getElem?_eq_some_iff.1 hj).1
      rw [cellsG_len hf] at hlt
      have hi : j / c < l.length := Nat.div_lt_of_lt_mul (by rw [Nat.mul_comm]; exact hlt)
      have hx : l[j / c]? = some (l[j / c]'hi) := List.getElem?_eq_getElem hi
      have h1 := hcl (j / c) _ hx (j % c) (Nat.mod_lt _ hc)
      have h2 := cellsG_at hf l (j / c) (j % c) _ hx (Nat.mod_lt _ hc)
      have e : j / c * c + j % c = j := by rw [Nat.mul_comm]; exact Nat.div_add_mod j c
      rw [e] at h2
      rw [add_none, ← hj, h2, ← h1]
      congr 2
      omega
    obtain ⟨v', w', hrun, h2, h3, h4, h5⟩ := run_append_own_at (P := P) w w.heap.size t t e i0 z c bytes ht hi hz0 hz1 hz2 hzs hc (.slice none 0 0) 0 [] (World.ownsRow_nil _ _ _ _) ⟨b, off, none⟩ l.length cap (cellsG f l) (cellsG_len hf l) hcell hall (by omega) (by rw [Nat.zero_add]; exact hl) (Nat.le_refl _)
    rw [Nat.zero_add, List.nil_append] at h2
    have hg := (Upd.refl (fun _ => False) w).grown h3 (fun k hk => by cases hk)
    exact ⟨v', w', hrun, h2, hg.below _ (Nat.le_refl _) (fun k hk => hk.elim)⟩
/-! ### Parts of the call's own -/
theorem run_appG {α : Type} {c : Nat} {f : α → List Value} {P : Program} {t e : TypeId} {z : Value} {bytes : Nat} (hf : ∀ x, (f x).length = c) (hone : ∀ x, ∀ u ∈ f x, u.oneCell' = true) (ht : P.underlying t = some (.slice e)) (hinfo : (P.info? e).map (fun i => (i.zero, i.size, i.bytes)) = some (some z, c, bytes)) (hzs : z.cells.size = c) (hc : 0 < c)
    (w : World) {B : Nat} {v : Value} {l : List α} (hown : w.ownsRow B e c v l.length (cellsG f l)) (b off cap : Nat) (r : List α) (hr : ∀ (i : Nat) (x : α), r[i]? = some x → ∀ j, j < c → w.cell? ⟨b, off + i * c + j, none⟩ = (f x)[j]?) (h63 : l.length + r.length ≤ maxLen) (hl : (l.length + r.length) * bytes ≤ 140737488355328) (hB : B ≤ w.heap.size) :
    ∃ v' w', (Builtin.append_ #[t, t] t #[v, .slice (some ⟨b, off, none⟩) r.length cap]).run P w = .ok v' w' ∧ w'.ownsRow B e c v' (l.length + r.length) (cellsG f (l ++ r)) ∧ Upd (fun k => v.ownBlock = some k) w w' ∧ (v'.ownBlock = v.ownBlock ∨ v'.ownBlock = some w.heap.size) := by
  have hall : ∀ u ∈ cellsG f r, u.oneCell' = true := fun u hu => by
    simp only [cellsG, List.mem_flatMap] at hu
    obtain ⟨x, _, hx⟩ := hu
    exact hone x u hx
  obtain ⟨i0, hi, hz0, hz1, hz2⟩ := info_parts hinfo
  have hcell : ∀ j u, (cellsG f r)[j]? = some u → w.cell? ((⟨b, off, none⟩ : Addr).add j) = some u := fun j u hj => by
    have hlt := (List.getElem?_eq_some_iff.1 hj).1
    rw [cellsG_len hf] at hlt
    have hi : j / c < r.length := Nat.div_lt_of_lt_mul (by rw [Nat.mul_comm]; exact hlt)
    have hx : r[j / c]? = some (r[j / c]'hi) := List.getElem?_eq_getElem hi
    have h1 := hr (j / c) _ hx (j % c) (Nat.mod_lt _ hc)
    have h2 := cellsG_at hf r (j / c) (j % c) _ hx (Nat.mod_lt _ hc)
    have e : j / c * c + j % c = j := by rw [Nat.mul_comm]; exact Nat.div_add_mod j c
    rw [e] at h2
    rw [add_none, ← hj, h2, ← h1]
    congr 2
    omega
  obtain ⟨v', w', hrun, h2, h3, h4, h5⟩ := run_append_own_at (P := P) w B t t e i0 z c bytes ht hi hz0 hz1 hz2 hzs hc v l.length (cellsG f l) hown ⟨b, off, none⟩ r.length cap (cellsG f r) (cellsG_len hf r) hcell hall h63 hl hB
  refine ⟨v', w', hrun, by rw [cellsG_app]; exact h2, (Upd.refl _ w).grown h3 (fun k hk => .inl hk), h5⟩
/-- append(v, x), x lies in a block of its own. -/
theorem run_app1 {α : Type} {c : Nat} {f : α → List Value} {P : Program} {t e : TypeId} {z : Value} {bytes : Nat} (hf : ∀ x, (f x).length = c) (hone : ∀ x, ∀ u ∈ f x, u.oneCell' = true) (ht : P.underlying t = some (.slice e)) (hinfo : (P.info? e).map (fun i => (i.zero, i.size, i.bytes)) = some (some z, c, bytes)) (hzs : z.cells.size = c) (hc : 0 < c)
    (w : World) {B : Nat} {v : Value} {l : List α} (hown : w.ownsRow B e c v l.length (cellsG f l)) (b : Nat) (x : α) (hb : Blk w b e (f x)) (h63 : l.length + 1 ≤ maxLen) (hl : (l.length + 1) * bytes ≤ 140737488355328) (hB : B ≤ w.heap.size) :
    ∃ g cap w', (Builtin.append_ #[t, t] t #[v, .slice (some ⟨b, 0, none⟩) 1 1]).run P w = .ok (.slice (some ⟨g, 0, none⟩) (l.length + 1) cap) w' ∧ w'.ownsRow B e c (.slice (some ⟨g, 0, none⟩) (l.length + 1) cap) (l ++ [x]).length (cellsG f (l ++ [x])) ∧ Upd (fun k => v.ownBlock = some k) w w' ∧ B ≤ g ∧ l.length + 1 ≤ cap ∧ (v.ownBlock = some g ∨ w.heap.size ≤ g) := by
  obtain ⟨v', w', h1, h2, h3, h4⟩ := run_appG (P := P) hf hone ht hinfo hzs hc w hown b 0 1 [x] (fun i y hy j hj => by
    have hi := (List.getElem?_eq_some_iff.1 hy).1
    obtain rfl : i = 0 := by simp at hi; omega
    simp at hy
    subst hy
    rw [hb.cell]
    congr 1
    omega) h63 hl hB
  have hlen : l.length + [x].length = (l ++ [x]).length := by simp
  rw [hlen] at h2
  obtain ⟨g, cap, ys, e1, hg, hn, -, -, -, -⟩ := ownS_blk h2 (by simp)
  rw [List.length_append, List.length_singleton] at e1 hn
  subst e1
  refine ⟨g, cap, w', h1, h2, h3, hg, hn, ?_⟩
  rcases h4 with h4 | h4
  · exact .inl (by rw [← h4]; rfl)
  · have : g = w.heap.size := own_is h4
    exact .inr (by omega)
theorem run_pushK {P : Program} {t B e c n : Nat} {z v : Value} {bytes : Nat} {xs : List Value} (ht : P.underlying t = some (.slice e)) (hinfo : (P.info? e).map (fun i => (i.zero, i.size, i.bytes)) = some (some z, c, bytes)) (hzs : z.cells.size = c) (hc : 0 < c)
    (w : World) (ty : Nat) (hown : w.ownsRow B e c v n xs) (news : List Value) (hl : news.length = c) (hx : ∀ u ∈ news, u.oneCell' = true) (h63 : n + 1 ≤ maxLen) (hb : (n + 1) * bytes ≤ 140737488355328) (hbase : B ≤ w.heap.size) :
    ∃ g cap w', (Builtin.append_ #[t, t] ty #[v, .slice (some ⟨w.heap.size, 0, none⟩) 1 1]).run P (w.alloc (.cells news.toArray e)) = .ok (.slice (some ⟨g, 0, none⟩) (n + 1) cap) w' ∧
      w'.ownsRow B e c (.slice (some ⟨g, 0, none⟩) (n + 1) cap) (n + 1) (xs ++ news) ∧ w'.ownsRow B e c v n xs ∧ Upd (fun k => v.ownBlock = some k) w w' ∧ (v.ownBlock = some g ∨ w.heap.size ≤ g) := by
  rcases hown.2 with ⟨hv, h0⟩ | ⟨g, cap, cur, hv, hbg, hg, hnc, hcm, hcs, htake⟩
  · obtain ⟨g, cap, w', h1, h2, h3, h4⟩ := run_pushS ht hinfo hzs hc w ty hown news hl hx h63 hb hbase
    refine ⟨g, cap, w', h1, h2, ?_, h3, h4⟩
    refine ⟨hown.1, .inl ⟨hv, h0⟩⟩
  · subst hv
    obtain ⟨i0, hi, hz0, hz1, hz2⟩ := info_parts hinfo
    have hsz : (w.alloc (.cells news.toArray e)).heap.size = w.heap.size + 1 := by simp
    have hnew : ∀ j u, news[j]? = some u → (w.alloc (.cells news.toArray e)).cell? ((⟨w.heap.size, 0, none⟩ : Addr).add j) = some u := fun j u hj => by rw [add_none, Nat.zero_add, (Blk.new w news e).cell]; exact hj
    by_cases hr : n + 1 ≤ cap
    · obtain ⟨w', h1, h2, h3⟩ := run_append_fits (P := P) (w.alloc (.cells news.toArray e)) B t ty e i0 c ht hi hz1 g n cap xs (hown.alloc _) ⟨w.heap.size, 0, none⟩ 1 1 news (by omega) hnew hx hr
      refine ⟨g, cap, w', h1, h2, ?_, ((Upd.refl _ w).alloc _).grown h3 (fun k hk => .inl (by rw [← hk]; rfl)), .inl rfl⟩
      obtain ⟨g', cap', ys, e5, q1, q2, q3, q4, q5, q6⟩ := ownS_blk h2 (by omega)
      have e6 : g = g' ∧ cap = cap' := by simpa using e5
      obtain ⟨rfl, rfl⟩ := e6
      have h9 := ownS_of_blk (n := n) (c := c) q6 q1 q4 hnc q3
      have : ys.take (n * c) = xs := by
        have e9 : ys.take (n * c) = (ys.take ((n + 1) * c)).take (n * c) := by rw [List.take_take, Nat.min_eq_left (Nat.mul_le_mul_right _ (by omega))]
        rw [e9, q5, List.take_append_of_le_length (by rw [hown.1]; exact Nat.le_refl _), List.take_of_length_le (by rw [hown.1]; exact Nat.le_refl _)]
      rw [this] at h9
      exact h9
    · have hbk : Blk w g e cur.toList := by unfold Blk; rw [Array.toArray_toList]; exact hg
      have hold : ∀ j u, xs[j]? = some u → (w.alloc (.cells news.toArray e)).cell? ((⟨g, 0, none⟩ : Addr).add j) = some u := fun j u hj => by
        rw [add_none, Nat.zero_add, (hbk.alloc _).cell]
        rw [← htake, List.getElem?_take] at hj
        split at hj
        · exact hj
        · cases hj
      obtain ⟨v', w', h1, h2, h3⟩ := run_append_arg_grows (P := P) (w.alloc (.cells news.toArray e)) t ty e i0 z c bytes ht hi hz0 hz1 hz2 hzs hc ⟨g, 0, none⟩ n cap xs hown.1 hold ⟨w.heap.size, 0, none⟩ 1 1 news (by omega) hnew (by omega) h63 hb
      obtain ⟨g', cap', ys, rfl, q1, q2, q3, q4, q5, q6⟩ := ownS_blk h2 (by omega)
      have hu0 : Upd (fun _ => False) w w' := ((Upd.refl _ w).alloc _).grown h3 (fun k hk => by cases hk)
      refine ⟨g', cap', w', h1, own_base h2 (by omega), ownS_upd hown hu0 (fun _ _ h => h), hu0.mono (fun _ _ h => h.elim), .inr (by omega)⟩
theorem cellsG_set {α : Type} {c : Nat} {f : α → List Value} (hf : ∀ x, (f x).length = c) : ∀ (l : List α) (i : Nat) (x : α), i < l.length → ∀ m, (cellsG f (l.set i x))[m]? = if i * c ≤ m ∧ m < i * c + c then (f x)[m - i * c]? else (cellsG f l)[m]?
  | [], i, x, h, _ => by simp at h
  | y :: l, 0, x, _, m => by
    have e1 : cellsG f ((y :: l).set 0 x) = f x ++ cellsG f l := by simp [cellsG]
    have e2 : cellsG f (y :: l) = f y ++ cellsG f l := by simp [cellsG]
    rw [e1, e2]
    rcases Nat.lt_or_ge m c with hm | hm
    · rw [if_pos (by omega), List.getElem?_append_left (by rw [hf]; exact hm)]
      simp
    · rw [if_neg (by omega), List.getElem?_append_right (by rw [hf]; exact hm), List.getElem?_append_right (by rw [hf]; exact hm), hf, hf]
  | y :: l, i + 1, x, h, m => by
    have ih := cellsG_set hf l i x (by simpa using h) (m - c)
    have e1 : cellsG f ((y :: l).set (i + 1) x) = f y ++ cellsG f (l.set i x) := by simp [cellsG]
    have e2 : cellsG f (y :: l) = f y ++ cellsG f l := by simp [cellsG]
    rw [e1, e2, Nat.add_mul, Nat.one_mul]
    rcases Nat.lt_or_ge m c with hm | hm
    · rw [if_neg (by omega), List.getElem?_append_left (by rw [hf]; exact hm), List.getElem?_append_left (by rw [hf]; exact hm)]
    · rw [List.getElem?_append_right (by rw [hf]; exact hm), List.getElem?_append_right (by rw [hf]; exact hm), hf, ih]
      by_cases hc : i * c + c ≤ m ∧ m < i * c + c + c
      · rw [if_pos hc, if_pos (by omega), show m - c - i * c = m - (i * c + c) by omega]
      · rw [if_neg hc, if_neg (by omega)]
end Go.Proofs.YtiojpohmgjdgfaaGreat
