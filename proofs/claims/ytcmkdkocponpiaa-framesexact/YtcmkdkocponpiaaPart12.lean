import Derived.Test.YtcmkdkocponpiaaPart07
import Derived.Test.YtcmkdkocponpiaaPart06
import Derived.Test.YtcmkdkocponpiaaPart09
import Derived.Maps.AppendAt
import Derived.Laws.OwnMore

/- Rows of structs over any encoding, over any program (out of Zb, Zcp, Zlm, Eo). -/
namespace Go.Proofs.Ytcmkdkocponpiaa
open Go.RowKit
set_option linter.unusedVariables false
theorem results_cell_row {P : Program} {fn : Func} {p : Tmp} {ty : TypeId} (h : fn.results = #[.cell p ty]) (tmps : Array Value) (w : World) (g : Nat) (t : TypeId) (cs : Array Value) (fr : Nat × Nat) (d : TypeDesc)
    (hp : tmps.getD p undef = .pointer (some ⟨g, 0, none⟩)) (hg : w.heap[g]? = some (.cells cs t fr))
    (hu : P.underlying ty = some d) (hd : (match d with | .struct _ | .array _ _ => true | _ => false) = true) (hi : (P.info? ty).map (·.size) = some cs.size) :
    (results fn tmps).run P w = .ok (.agg cs) w := by
  have hp' : tmps[p]?.getD undef = .pointer (some ⟨g, 0, none⟩) := by simpa using hp
  simp only [results, h]
  simp [hp', asAddr, run_loadVar_row w g t ty cs fr d hg hu hd hi]
theorem below_drewN {B : Nat} {w w' : World} (h : Below B w w') (q : Nat) : Below B w (w'.drewN q) := ⟨h.os, h.tape, h.output, h.size, h.block⟩
theorem Blk.drewN {w : World} {g : Nat} {t : TypeId} {xs : List Value} (h : Blk w g t xs) (q : Nat) : Blk (w.drewN q) g t xs := h
theorem upd_drewN {S : Nat → Prop} {a w : World} (h : Upd S a w) (q : Nat) : Upd S a (w.drewN q) := ⟨h.os, h.tape, h.output, h.size, h.block⟩
theorem blk2 (w : World) (xs ys : Array Value) (t t' : TypeId) : Blk ((w.alloc (.cells xs t)).alloc (.cells ys t')) w.heap.size t xs.toList ∧ Blk ((w.alloc (.cells xs t)).alloc (.cells ys t')) (w.heap.size + 1) t' ys.toList := by
  refine ⟨(Blk.newA w xs t).alloc _, ?_⟩
  have := Blk.newA (w.alloc (.cells xs t)) ys t'
  simpa using this
theorem below1 (w : World) (o : Obj) : Below w.heap.size w (w.alloc o) := (Below.refl _ _).alloc (Nat.le_refl _) _
theorem below2 (w : World) (o o' : Obj) : Below w.heap.size w ((w.alloc o).alloc o') := ((Below.refl _ _).alloc (Nat.le_refl _) _).alloc (by simp) _
theorem cell_al (w : World) (o : Obj) (b i : Nat) (h : b < w.heap.size) : (w.alloc o).cell? ⟨b, i, none⟩ = w.cell? ⟨b, i, none⟩ := World.cell?_of_block (Below.heap_alloc w o b h)
theorem own_base {w : World} {B B' n c : Nat} {e : TypeId} {v : Value} {xs : List Value} (h : w.ownsRow B e c v n xs) (hb : B' ≤ B) : w.ownsRow B' e c v n xs := by
  refine ⟨h.1, ?_⟩
  rcases h.2 with h | ⟨g, cap, cur, rfl, hg, rest⟩
  · exact .inl h
  · exact .inr ⟨g, cap, cur, rfl, Nat.le_trans hb hg, rest⟩
theorem below_set {B : Nat} {w w' : World} (h : Below B w w') (b i : Nat) (v : Value) (hb : B ≤ b) : Below B w (w'.setCell ⟨b, i, none⟩ v) := h.setCell hb v
theorem own_len {w : World} {B n c : Nat} {e : TypeId} {v : Value} {xs : List Value} (h : w.ownsRow B e c v n xs) : n ≤ 9223372036854775807 := by
  rcases h.2 with ⟨_, h0⟩ | ⟨g, cap, cur, _, _, _, hn, hm, _⟩
  · omega
  · unfold maxLen at hm; omega
/-! ### Rows of things of c cells each -/
section
variable {α : Type} {c : Nat} {f : α → List Value}
def cellsG (f : α → List Value) (l : List α) : List Value := l.flatMap f
theorem cellsG_app (l r : List α) : cellsG f (l ++ r) = cellsG f l ++ cellsG f r := by simp [cellsG]
theorem cellsG_one (x : α) : cellsG f [x] = f x := by simp [cellsG]
theorem cellsG_len (hf : ∀ x, (f x).length = c) (l : List α) : (cellsG f l).length = l.length * c := by
  induction l with
  | nil => simp [cellsG]
  | cons x l ih =>
    have e : cellsG f (x :: l) = f x ++ cellsG f l := by simp [cellsG]
    rw [e, List.length_append, ih, hf, List.length_cons, Nat.add_mul]
    omega
theorem cellsG_at (hf : ∀ x, (f x).length = c) : ∀ (l : List α) (i j : Nat) (x : α), l[i]? = some x → j < c → (cellsG f l)[i * c + j]? = (f x)[j]?
  | [], i, j, x, h, _ => by simp at h
  | y :: N, 0, j, x, h, hj => by
    simp at h
    subst h
    have e : cellsG f (y :: N) = f y ++ cellsG f N := by simp [cellsG]
    rw [e, List.getElem?_append_left (by rw [hf]; omega)]
    simp
  | y :: N, i + 1, j, x, h, hj => by
    have ih := cellsG_at hf N i j x (by simpa using h) hj
    have e : cellsG f (y :: N) = f y ++ cellsG f N := by simp [cellsG]
    have e2 : (i + 1) * c + j - (f y).length = i * c + j := by rw [hf, Nat.add_mul]; omega
    rw [e, List.getElem?_append_right (by rw [hf, Nat.add_mul]; omega), e2, ih]
/-- A row of things lies here. -/
def GRow (c : Nat) (f : α → List Value) (w : World) (a : Option Addr) (l : List α) : Prop :=
  l = [] ∨ ∃ b off, a = some ⟨b, off, none⟩ ∧ b < w.heap.size ∧ ∀ (i : Nat) (x : α), l[i]? = some x → ∀ j, j < c → w.cell? ⟨b, off + i * c + j, none⟩ = (f x)[j]?
theorem GRow.nil (w : World) (a : Option Addr) : GRow c f w a [] := .inl rfl
theorem GRow.later {w w' : World} {a : Option Addr} {l : List α} (h : GRow c f w a l) (hB : Below w.heap.size w w') : GRow c f w' a l := by
  rcases h with h | ⟨b, off, rfl, hb, hc⟩
  · exact .inl h
  · exact .inr ⟨b, off, rfl, Nat.lt_of_lt_of_le hb hB.size, fun i x hx j hj => (hB.cell (p := ⟨b, off + i * c + j, none⟩) hb).trans (hc i x hx j hj)⟩
theorem GRow.upd {w w' : World} {a : Option Addr} {l : List α} {S : Nat → Prop} (h : GRow c f w a l) (hu : Upd S w w') (hs : ∀ x, a = some x → ¬ S x.block) : GRow c f w' a l := by
  rcases h with h | ⟨b, off, rfl, hb, hc⟩
  · exact .inl h
  · exact .inr ⟨b, off, rfl, Nat.lt_of_lt_of_le hb hu.size, fun i x hx j hj => by rw [World.cell?_of_block (w := w) (hu.block b hb (hs _ rfl))]; exact hc i x hx j hj⟩
theorem GRow.open {w : World} {a : Option Addr} {l : List α} (h : GRow c f w a l) (hl : 0 < l.length) : ∃ b off, a = some ⟨b, off, none⟩ ∧ b < w.heap.size ∧ ∀ (i : Nat) (x : α), l[i]? = some x → ∀ j, j < c → w.cell? ⟨b, off + i * c + j, none⟩ = (f x)[j]? := by
  rcases h with rfl | h
  · simp at hl
  · exact h
theorem GRow.take {w : World} {a : Option Addr} {l : List α} (h : GRow c f w a l) (m : Nat) : GRow c f w a (l.take m) := by
  rcases h with rfl | ⟨b, off, rfl, hb, hc⟩
  · exact .inl (by simp)
  · refine .inr ⟨b, off, rfl, hb, fun i x hx => ?_⟩
    rw [List.getElem?_take] at hx
    split at hx
    · exact hc i x hx
    · cases hx
theorem own_grow {e : TypeId} {w : World} {B : Nat} {v : Value} {l : List α} (hf : ∀ x, (f x).length = c) (h : w.ownsRow B e c v l.length (cellsG f l)) : ∃ a cap, v = .slice a l.length cap ∧ l.length ≤ cap ∧ (a = none → cap = 0) ∧ GRow c f w a l := by
  rcases Nat.eq_zero_or_pos l.length with h0 | h0
  · have hN : l = [] := List.eq_nil_of_length_eq_zero h0
    subst hN
    rcases h.2 with ⟨rfl, _⟩ | ⟨g, cap, cur, rfl, hb, hg, hnc, _⟩
    · exact ⟨none, 0, rfl, Nat.le_refl _, fun _ => rfl, .inl rfl⟩
    · exact ⟨_, cap, rfl, by simp, fun h => (by cases h), .inl rfl⟩
  · obtain ⟨g, cap, ys, rfl, hb, hn, hm, hl, ht, hK⟩ := ownS_blk h h0
    refine ⟨_, cap, rfl, hn, fun h => (by cases h), .inr ⟨g, 0, rfl, hK.lt, fun i x hx j hj => ?_⟩⟩
    have hi := (List.getElem?_eq_some_iff.1 hx).1
    have hlt : i * c + j < l.length * c := by
      have h1 : i * c + c ≤ l.length * c := by rw [← Nat.succ_mul]; exact Nat.mul_le_mul_right c hi
      omega
    rw [hK.cell, ← cellsG_at hf l i j x hx hj, ← ht, List.getElem?_take, if_pos hlt, Nat.zero_add]
theorem blk_grow {e : TypeId} {w : World} {g : Nat} {l : List α} (hf : ∀ x, (f x).length = c) (h : Blk w g e (cellsG f l)) : GRow c f w (some ⟨g, 0, none⟩) l := by
  refine .inr ⟨g, 0, rfl, h.lt, fun i x hx j hj => ?_⟩
  rw [h.cell, ← cellsG_at hf l i j x hx hj, Nat.zero_add]
end
theorem row_set_at {α : Type} {c : Nat} {f : α → List Value} (hf : ∀ x, (f x).length = c) (l : List α) (i : Nat) (y : α) (hi : i < l.length) (j : Nat) (hj : j < l.length * c) : (cellsG f (l.set i y))[j]? = if i * c ≤ j ∧ j < i * c + c then (f y)[j - i * c]? else (cellsG f l)[j]? := by
  rcases Nat.eq_zero_or_pos c with h0 | h0
  · subst h0; simp at hj
  have hq : j / c < l.length := Nat.div_lt_of_lt_mul (by rw [Nat.mul_comm]; exact hj)
  have hjm : j = j / c * c + j % c := by rw [Nat.mul_comm]; exact (Nat.div_add_mod j c).symm
  have hml := Nat.mod_lt j h0
  by_cases he : j / c = i
  · have hx : (l.set i y)[j / c]? = some y := by rw [he, List.getElem?_set_self hi]
    have h := cellsG_at hf (l.set i y) (j / c) (j % c) y hx hml
    rw [← hjm] at h
    rw [h, if_pos (by rw [← he]; omega)]
    congr 1
    rw [← he]
    omega
  · have hx : (l.set i y)[j / c]? = some (l[j / c]'hq) := by rw [List.getElem?_set_ne (fun h => he h.symm)]; exact List.getElem?_eq_getElem hq
    have h := cellsG_at hf (l.set i y) (j / c) (j % c) _ hx hml
    have h2 := cellsG_at hf l (j / c) (j % c) _ (List.getElem?_eq_getElem hq) hml
    rw [← hjm] at h h2
    rw [h, h2, if_neg]
    intro ⟨h3, h4⟩
    apply he
    refine Nat.div_eq_of_lt_le h3 ?_
    rw [Nat.add_mul, Nat.one_mul]
    exact h4
/-- The cells of an element of four cells written over. -/
theorem row_set4 {α : Type} {f : α → List Value} (hf : ∀ x, (f x).length = 4) {w : World} {B g n cap i : Nat} {e : TypeId} {l : List α} (h : w.ownsRow B e 4 (.slice (some ⟨g, 0, none⟩) n cap) l.length (cellsG f l)) (hi : i < l.length) (y : α) (y0 y1 y2 y3 : Value) (hy : f y = [y0, y1, y2, y3]) :
    ((((w.setCell ⟨g, i * 4, none⟩ y0).setCell ⟨g, i * 4 + 1, none⟩ y1).setCell ⟨g, i * 4 + 2, none⟩ y2).setCell ⟨g, i * 4 + 3, none⟩ y3).ownsRow B e 4 (.slice (some ⟨g, 0, none⟩) n cap) (l.set i y).length (cellsG f (l.set i y)) := by
  obtain ⟨g', cap', ys, e, hb, hn, hm, hys, ht, hk⟩ := ownS_blk h (by omega)
  injection e with e1 e2 e3
  injection e1 with e1
  injection e1 with e1 _ _
  subst e1 e2 e3
  have hk2 := (((hk.set (i * 4) y0).set (i * 4 + 1) y1).set (i * 4 + 2) y2).set (i * 4 + 3) y3
  have h2 := ownS_of_blk (B := B) (n := l.length) (c := 4) (cap := cap) hk2 hb (by simp [hys]) hn hm
  have e4 : ((((ys.set (i * 4) y0).set (i * 4 + 1) y1).set (i * 4 + 2) y2).set (i * 4 + 3) y3).take (l.length * 4) = cellsG f (l.set i y) := by
    apply List.ext_getElem?
    intro j
    by_cases hj : j < l.length * 4
    · rw [row_set_at hf l i y hi j hj, List.getElem?_take, if_pos hj, ← ht]
      have hjy : j < ys.length := by rw [hys]; have := Nat.mul_le_mul_right 4 hn; omega
      by_cases h0 : j = i * 4
      · subst h0
        rw [if_pos (by omega), List.getElem?_set_ne (by omega), List.getElem?_set_ne (by omega), List.getElem?_set_ne (by omega), List.getElem?_set_self hjy, hy]
        simp
      · by_cases h1 : j = i * 4 + 1
        · subst h1
          rw [if_pos (by omega), List.getElem?_set_ne (by omega), List.getElem?_set_ne (by omega), List.getElem?_set_self (by simpa using hjy), hy]
          simp
        · by_cases h2 : j = i * 4 + 2
          · subst h2
            rw [if_pos (by omega), List.getElem?_set_ne (by omega), List.getElem?_set_self (by simpa using hjy), hy]
            simp
          · by_cases h3 : j = i * 4 + 3
            · subst h3
              rw [if_pos (by omega), List.getElem?_set_self (by simpa using hjy), hy]
              simp
            · rw [if_neg (by omega), List.getElem?_set_ne (by omega), List.getElem?_set_ne (by omega), List.getElem?_set_ne (by omega), List.getElem?_set_ne (by omega), List.getElem?_take, if_pos hj]
    · rw [List.getElem?_eq_none (by simp; omega), List.getElem?_eq_none (by rw [cellsG_len hf]; simp; omega)]
  rw [List.length_set, ← e4]
  exact h2
set_option maxRecDepth 100000 in
/-- append(nil, x...), x a row of structs of any kind: new memory. -/
theorem run_copyG {α : Type} {c : Nat} {f : α → List Value} {P : Program} {t e : TypeId} {z : Value} {bytes : Nat} (hf : ∀ x, (f x).length = c) (hone : ∀ x, ∀ u ∈ f x, u.oneCell' = true) (ht : P.underlying t = some (.slice e)) (hinfo : (P.info? e).map (fun i => (i.zero, i.size, i.bytes)) = some (some z, c, bytes)) (hzs : z.cells.size = c) (hc : 0 < c)
    (w : World) (a : Option Addr) (n cap : Nat) (l : List α) (hn : l.length = n) (hr : GRow c f w a l) (hnil : a = none → cap = 0) (h63 : n ≤ maxLen) (hl : n * bytes ≤ 140737488355328) :
    ∃ v' w', (Builtin.append_ #[t, t] t #[.slice none 0 0, .slice a n cap]).run P w = .ok v' w' ∧ w'.ownsRow w.heap.size e c v' n (cellsG f l) ∧ Below w.heap.size w w' := by
  subst hn
  have hall : ∀ u ∈ cellsG f l, u.oneCell' = true := fun u hu => by
    simp only [cellsG, List.mem_flatMap] at hu
    obtain ⟨x, _, hx⟩ := hu
    exact hone x u hx
  obtain ⟨i0, hi, hz0, hz1, hz2⟩ := info_parts hinfo
  rcases hr with rfl | ⟨b, off, rfl, hb, hcl⟩
  · cases a with
    | none =>
      obtain rfl := hnil rfl
      exact ⟨_, w, run_append_owned_none (P := P) w w.heap.size t t e i0 c ht hi (.slice none 0 0) 0 [] (World.ownsRow_nil _ _ _ _), World.ownsRow_nil _ _ _ _, Below.refl _ _⟩
    | some x =>
      obtain ⟨v', w', hrun, h2, h3, h4, h5⟩ := run_append_own_at (P := P) w w.heap.size t t e i0 z c bytes ht hi hz0 hz1 hz2 hzs hc (.slice none 0 0) 0 [] (World.ownsRow_nil _ _ _ _) x 0 cap [] (by simp) (fun j u hj => by simp at hj) (fun u hu => by cases hu) (by unfold maxLen; omega) (by omega) (Nat.le_refl _)
      have hg := (Upd.refl (fun _ => False) w).grown h3 (fun k hk => by cases hk)
      simp only [List.append_nil, Nat.add_zero] at h2
      exact ⟨v', w', by simpa using hrun, by simpa [cellsG] using h2, hg.below w.heap.size (Nat.le_refl _) (fun k hk => hk.elim)⟩
  · have hcell : ∀ j u, (cellsG f l)[j]? = some u → w.cell? ((⟨b, off, none⟩ : Addr).add j) = some u := fun j u hj => by
      have hlt := (List.getElem?_eq_some_iff.1 hj).1
      rw [cellsG_len hf] at hlt
      have hi : j / c < l.length := Nat.div_lt_of_lt_mul (by rw [Nat.mul_comm]; exact hlt)
      have hx : l[j / c]? = some (l[j / c]'hi) := List.getElem?_eq_getElem hi
      have h1 := hcl (j / c) _ hx (j % c) (Nat.mod_lt _ hc)
      have h2 := cellsG_at hf l (j / c) (j % c) _ hx (Nat.mod_lt _ hc)
      have e : j / c * c + j % c = j := by rw [Nat.mul_comm]; exact Nat.div_add_mod j c
      rw [e] at h2
      rw [add_none, ← hj, h2, ← h1]
      congr 2
      omega
    obtain ⟨v', w', hrun, h2, h3, h4, h5⟩ := run_append_own_at (P := P) w w.heap.size t t e i0 z c bytes ht hi hz0 hz1 hz2 hzs hc (.slice none 0 0) 0 [] (World.ownsRow_nil _ _ _ _) ⟨b, off, none⟩ l.length cap (cellsG f l) (cellsG_len hf l) hcell hall (by omega) (by rw [Nat.zero_add]; exact hl) (Nat.le_refl _)
    rw [Nat.zero_add, List.nil_append] at h2
    have hg := (Upd.refl (fun _ => False) w).grown h3 (fun k hk => by cases hk)
    exact ⟨v', w', hrun, h2, hg.below _ (Nat.le_refl _) (fun k hk => hk.elim)⟩
/-! ### Parts of the call's own -/
theorem run_appG {α : Type} {c : Nat} {f : α → List Value} {P : Program} {t e : TypeId} {z : Value} {bytes : Nat} (hf : ∀ x, (f x).length = c) (hone : ∀ x, ∀ u ∈ f x, u.oneCell' = true) (ht : P.underlying t = some (.slice e)) (hinfo : (P.info? e).map (fun i => (i.zero, i.size, i.bytes)) = some (some z, c, bytes)) (hzs : z.cells.size = c) (hc : 0 < c)
    (w : World) {B : Nat} {v : Value} {l : List α} (hown : w.ownsRow B e c v l.length (cellsG f l)) (b off cap : Nat) (r : List α) (hr : ∀ (i : Nat) (x : α), r[i]? = some x → ∀ j, j < c → w.cell? ⟨b, off + i * c + j, none⟩ = (f x)[j]?) (h63 : l.length + r.length ≤ maxLen) (hl : (l.length + r.length) * bytes ≤ 140737488355328) (hB : B ≤ w.heap.size) :
    ∃ v' w', (Builtin.append_ #[t, t] t #[v, .slice (some ⟨b, off, none⟩) r.length cap]).run P w = .ok v' w' ∧ w'.ownsRow B e c v' (l.length + r.length) (cellsG f (l ++ r)) ∧ Upd (fun k => v.ownBlock = some k) w w' ∧ (v'.ownBlock = v.ownBlock ∨ v'.ownBlock = some w.heap.size) := by
  have hall : ∀ u ∈ cellsG f r, u.oneCell' = true := fun u hu => by
    simp only [cellsG, List.mem_flatMap] at hu
    obtain ⟨x, _, hx⟩ := hu
    exact hone x u hx
  obtain ⟨i0, hi, hz0, hz1, hz2⟩ := info_parts hinfo
  have hcell : ∀ j u, (cellsG f r)[j]? = some u → w.cell? ((⟨b, off, none⟩ : Addr).add j) = some u := fun j u hj => by
    have hlt := (List.getElem?_eq_some_iff.1 hj).1
    rw [cellsG_len hf] at hlt
    have hi : j / c < r.length := Nat.div_lt_of_lt_mul (by rw [Nat.mul_comm]; exact hlt)
    have hx : r[j / c]? = some (r[j / c]'hi) := List.getElem?_eq_getElem hi
    have h1 := hr (j / c) _ hx (j % c) (Nat.mod_lt _ hc)
    have h2 := cellsG_at hf r (j / c) (j % c) _ hx (Nat.mod_lt _ hc)
    have e : j / c * c + j % c = j := by rw [Nat.mul_comm]; exact Nat.div_add_mod j c
    rw [e] at h2
    rw [add_none, ← hj, h2, ← h1]
    congr 2
    omega
  obtain ⟨v', w', hrun, h2, h3, h4, h5⟩ := run_append_own_at (P := P) w B t t e i0 z c bytes ht hi hz0 hz1 hz2 hzs hc v l.length (cellsG f l) hown ⟨b, off, none⟩ r.length cap (cellsG f r) (cellsG_len hf r) hcell hall h63 hl hB
  refine ⟨v', w', hrun, by rw [cellsG_app]; exact h2, (Upd.refl _ w).grown h3 (fun k hk => .inl hk), h5⟩
/-- append(v, x), x lies in a block of its own. -/
theorem run_app1 {α : Type} {c : Nat} {f : α → List Value} {P : Program} {t e : TypeId} {z : Value} {bytes : Nat} (hf : ∀ x, (f x).length = c) (hone : ∀ x, ∀ u ∈ f x, u.oneCell' = true) (ht : P.underlying t = some (.slice e)) (hinfo : (P.info? e).map (fun i => (i.zero, i.size, i.bytes)) = some (some z, c, bytes)) (hzs : z.cells.size = c) (hc : 0 < c)
    (w : World) {B : Nat} {v : Value} {l : List α} (hown : w.ownsRow B e c v l.length (cellsG f l)) (b : Nat) (x : α) (hb : Blk w b e (f x)) (h63 : l.length + 1 ≤ maxLen) (hl : (l.length + 1) * bytes ≤ 140737488355328) (hB : B ≤ w.heap.size) :
    ∃ g cap w', (Builtin.append_ #[t, t] t #[v, .slice (some ⟨b, 0, none⟩) 1 1]).run P w = .ok (.slice (some ⟨g, 0, none⟩) (l.length + 1) cap) w' ∧ w'.ownsRow B e c (.slice (some ⟨g, 0, none⟩) (l.length + 1) cap) (l ++ [x]).length (cellsG f (l ++ [x])) ∧ Upd (fun k => v.ownBlock = some k) w w' ∧ B ≤ g ∧ l.length + 1 ≤ cap ∧ (v.ownBlock = some g ∨ w.heap.size ≤ g) := by
  obtain ⟨v', w', h1, h2, h3, h4⟩ := run_appG (P := P) hf hone ht hinfo hzs hc w hown b 0 1 [x] (fun i y hy j hj => by
    have hi := (List.getElem?_eq_some_iff.1 hy).1
    obtain rfl : i = 0 := by simp at hi; omega
    simp at hy
    subst hy
    rw [hb.cell]
    congr 1
    omega) h63 hl hB
  have hlen : l.length + [x].length = (l ++ [x]).length := by simp
  rw [hlen] at h2
  obtain ⟨g, cap, ys, e1, hg, hn, -, -, -, -⟩ := ownS_blk h2 (by simp)
  rw [List.length_append, List.length_singleton] at e1 hn
  subst e1
  refine ⟨g, cap, w', h1, h2, h3, hg, hn, ?_⟩
  rcases h4 with h4 | h4
  · exact .inl (by rw [← h4]; rfl)
  · have : g = w.heap.size := own_is h4
    exact .inr (by omega)
theorem run_pushK {P : Program} {t B e c n : Nat} {z v : Value} {bytes : Nat} {xs : List Value} (ht : P.underlying t = some (.slice e)) (hinfo : (P.info? e).map (fun i => (i.zero, i.size, i.bytes)) = some (some z, c, bytes)) (hzs : z.cells.size = c) (hc : 0 < c)
    (w : World) (ty : Nat) (hown : w.ownsRow B e c v n xs) (news : List Value) (hl : news.length = c) (hx : ∀ u ∈ news, u.oneCell' = true) (h63 : n + 1 ≤ maxLen) (hb : (n + 1) * bytes ≤ 140737488355328) (hbase : B ≤ w.heap.size) :
    ∃ g cap w', (Builtin.append_ #[t, t] ty #[v, .slice (some ⟨w.heap.size, 0, none⟩) 1 1]).run P (w.alloc (.cells news.toArray e)) = .ok (.slice (some ⟨g, 0, none⟩) (n + 1) cap) w' ∧
      w'.ownsRow B e c (.slice (some ⟨g, 0, none⟩) (n + 1) cap) (n + 1) (xs ++ news) ∧ w'.ownsRow B e c v n xs ∧ Upd (fun k => v.ownBlock = some k) w w' ∧ (v.ownBlock = some g ∨ w.heap.size ≤ g) := by
  rcases hown.2 with ⟨hv, h0⟩ | ⟨g, cap, cur, hv, hbg, hg, hnc, hcm, hcs, htake⟩
  · obtain ⟨g, cap, w', h1, h2, h3, h4⟩ := run_pushS ht hinfo hzs hc w ty hown news hl hx h63 hb hbase
    refine ⟨g, cap, w', h1, h2, ?_, h3, h4⟩
    refine ⟨hown.1, .inl ⟨hv, h0⟩⟩
  · subst hv
    obtain ⟨i0, hi, hz0, hz1, hz2⟩ := info_parts hinfo
    have hsz : (w.alloc (.cells news.toArray e)).heap.size = w.heap.size + 1 := by simp
    have hnew : ∀ j u, news[j]? = some u → (w.alloc (.cells news.toArray e)).cell? ((⟨w.heap.size, 0, none⟩ : Addr).add j) = some u := fun j u hj => by rw [add_none, Nat.zero_add, (Blk.new w news e).cell]; exact hj
    by_cases hr : n + 1 ≤ cap
    · obtain ⟨w', h1, h2, h3⟩ := run_append_fits (P := P) (w.alloc (.cells news.toArray e)) B t ty e i0 c ht hi hz1 g n cap xs (hown.alloc _) ⟨w.heap.size, 0, none⟩ 1 1 news (by omega) hnew hx hr
      refine ⟨g, cap, w', h1, h2, ?_, ((Upd.refl _ w).alloc _).grown h3 (fun k hk => .inl (by rw [← hk]; rfl)), .inl rfl⟩
      obtain ⟨g', cap', ys, e5, q1, q2, q3, q4, q5, q6⟩ := ownS_blk h2 (by omega)
      have e6 : g = g' ∧ cap = cap' := by simpa using e5
      obtain ⟨rfl, rfl⟩ := e6
      have h9 := ownS_of_blk (n := n) (c := c) q6 q1 q4 hnc q3
      have : ys.take (n * c) = xs := by
        have e9 : ys.take (n * c) = (ys.take ((n + 1) * c)).take (n * c) := by rw [List.take_take, Nat.min_eq_left (Nat.mul_le_mul_right _ (by omega))]
        rw [e9, q5, List.take_append_of_le_length (by rw [hown.1]; exact Nat.le_refl _), List.take_of_length_le (by rw [hown.1]; exact Nat.le_refl _)]
      rw [this] at h9
      exact h9
    · have hbk : Blk w g e cur.toList := by unfold Blk; rw [Array.toArray_toList]; exact hg
      have hold : ∀ j u, xs[j]? = some u → (w.alloc (.cells news.toArray e)).cell? ((⟨g, 0, none⟩ : Addr).add j) = some u := fun j u hj => by
        rw [add_none, Nat.zero_add, (hbk.alloc _).cell]
        rw [← htake, List.getElem?_take] at hj
        split at hj
        · exact hj
        · cases hj
      obtain ⟨v', w', h1, h2, h3⟩ := run_append_arg_grows (P := P) (w.alloc (.cells news.toArray e)) t ty e i0 z c bytes ht hi hz0 hz1 hz2 hzs hc ⟨g, 0, none⟩ n cap xs hown.1 hold ⟨w.heap.size, 0, none⟩ 1 1 news (by omega) hnew (by omega) h63 hb
      obtain ⟨g', cap', ys, rfl, q1, q2, q3, q4, q5, q6⟩ := ownS_blk h2 (by omega)
      have hu0 : Upd (fun _ => False) w w' := ((Upd.refl _ w).alloc _).grown h3 (fun k hk => by cases hk)
      refine ⟨g', cap', w', h1, own_base h2 (by omega), ownS_upd hown hu0 (fun _ _ h => h), hu0.mono (fun _ _ h => h.elim), .inr (by omega)⟩
theorem cellsG_set {α : Type} {c : Nat} {f : α → List Value} (hf : ∀ x, (f x).length = c) : ∀ (l : List α) (i : Nat) (x : α), i < l.length → ∀ m, (cellsG f (l.set i x))[m]? = if i * c ≤ m ∧ m < i * c + c then (f x)[m - i * c]? else (cellsG f l)[m]?
  | [], i, x, h, _ => by simp at h
  | y :: l, 0, x, _, m => by
    have e1 : cellsG f ((y :: l).set 0 x) = f x ++ cellsG f l := by simp [cellsG]
    have e2 : cellsG f (y :: l) = f y ++ cellsG f l := by simp [cellsG]
    rw [e1, e2]
    rcases Nat.lt_or_ge m c with hm | hm
    · rw [if_pos (by omega), List.getElem?_append_left (by rw [hf]; exact hm)]
      simp
    · rw [if_neg (by omega), List.getElem?_append_right (by rw [hf]; exact hm), List.getElem?_append_right (by rw [hf]; exact hm), hf, hf]
  | y :: l, i + 1, x, h, m => by
    have ih := cellsG_set hf l i x (by simpa using h) (m - c)
    have e1 : cellsG f ((y :: l).set (i + 1) x) = f y ++ cellsG f (l.set i x) := by simp [cellsG]
    have e2 : cellsG f (y :: l) = f y ++ cellsG f l := by simp [cellsG]
    rw [e1, e2, Nat.add_mul, Nat.one_mul]
    rcases Nat.lt_or_ge m c with hm | hm
    · rw [if_neg (by omega), List.getElem?_append_left (by rw [hf]; exact hm), List.getElem?_append_left (by rw [hf]; exact hm)]
    · rw [List.getElem?_append_right (by rw [hf]; exact hm), List.getElem?_append_right (by rw [hf]; exact hm), hf, ih]
      by_cases hc : i * c + c ≤ m ∧ m < i * c + c + c
      · rw [if_pos hc, if_pos (by omega), show m - c - i * c = m - (i * c + c) by omega]
      · rw [if_neg hc, if_neg (by omega)]
end Go.Proofs.Ytcmkdkocponpiaa

/- Frames: frames in memory, stacks in memory; what may lie on a stack. -/
namespace Go.Proofs.Ytcmkdkocponpiaa
open Go.RowKit
set_option linter.unusedVariables false

structure Fr where
  r : Int
  a : Int
  b : Int
  e : Int
  n : Int
  x : Int
  T : List Int
def fr0 : Fr := ⟨0, 0, 0, 0, 0, 0, []⟩
def posB (n : Int) : Bool := decide (0 ≤ n) && decide (n ≤ 4611686018427387904)
def ponB (n : Int) : Bool := (n == -1) || posB n
def hdB (f : Fr) : Bool := posB f.r && posB f.a && posB f.b && ponB f.e && ponB f.n && posB f.x
def frB (f : Fr) : Bool := decide (f.T.length ≤ 1048576) && f.T.all posB && hdB f
theorem posB_is {n : Int} (h : posB n = true) : 0 ≤ n ∧ n ≤ 4611686018427387904 := by simpa [posB] using h
theorem posB_of {n : Int} (h : 0 ≤ n) (g : n ≤ 4611686018427387904) : posB n = true := by simp [posB, h, g]
theorem ponB_is {n : Int} (h : ponB n = true) : -1 ≤ n ∧ n ≤ 4611686018427387904 := by
  unfold ponB at h
  rcases Bool.or_eq_true _ _ ▸ h with h | h
  · have : n = -1 := by simpa using h
    omega
  · have := posB_is h; omega
theorem ponB_of {n : Int} (h : -1 ≤ n) (g : n ≤ 4611686018427387904) : ponB n = true := by
  unfold ponB
  by_cases h1 : n = -1
  · simp [h1]
  · rw [posB_of (by omega) g]; simp
theorem hdB_is {f : Fr} (h : hdB f = true) : posB f.r = true ∧ posB f.a = true ∧ posB f.b = true ∧ ponB f.e = true ∧ ponB f.n = true ∧ posB f.x = true := by
  unfold hdB at h
  simp only [Bool.and_eq_true] at h
  obtain ⟨⟨⟨⟨⟨h1, h2⟩, h3⟩, h4⟩, h5⟩, h6⟩ := h
  exact ⟨h1, h2, h3, h4, h5, h6⟩
theorem frB_is {f : Fr} (h : frB f = true) : f.T.length ≤ 1048576 ∧ (∀ y ∈ f.T, posB y = true) ∧ hdB f = true := by
  unfold frB at h
  simp only [Bool.and_eq_true, decide_eq_true_eq, List.all_eq_true] at h
  exact ⟨h.1.1, h.1.2, h.2⟩
theorem frB_of {f : Fr} (h1 : f.T.length ≤ 1048576) (h2 : ∀ y ∈ f.T, posB y = true) (h3 : hdB f = true) : frB f = true := by
  unfold frB
  simp only [Bool.and_eq_true, decide_eq_true_eq, List.all_eq_true]
  exact ⟨⟨h1, h2⟩, h3⟩
/-! ### Frames as values, in rows -/
def fcv (f : Fr) (v : Value) : Array Value := #[.int .i64 f.r, .int .i64 f.a, .int .i64 f.b, .int .i64 f.e, .int .i64 f.n, .int .i64 f.x, v]
def frc (p : Fr × Value) : List Value := [.int .i64 p.1.r, .int .i64 p.1.a, .int .i64 p.1.b, .int .i64 p.1.e, .int .i64 p.1.n, .int .i64 p.1.x, p.2]
theorem frc_len (p : Fr × Value) : (frc p).length = 7 := rfl
theorem infoF : (Try.prog.info? 39).map (fun i => (i.zero, i.size, i.bytes)) = some (some (.agg #[.int .i64 0, .int .i64 0, .int .i64 0, .int .i64 0, .int .i64 0, .int .i64 0, .slice none 0 0]), 7, 72) := by kernel_rfl
theorem frc_one (f : Fr) (a : Option Addr) (n c : Nat) : ∀ u ∈ frc (f, .slice a n c), u.oneCell' = true := fun u hu => by
  simp [frc] at hu
  rcases hu with rfl | rfl | rfl | rfl | rfl | rfl | rfl <;> rfl
/-- Frames of the call's own, each with a table of its own, apart. -/
structure FOwn (w : World) (B : Nat) (v : Value) (P : List (Fr × Value)) : Prop where
  row : w.ownsRow B 39 7 v P.length (cellsG frc P)
  tb : ∀ p ∈ P, IOwn w B p.2 p.1.T
  ap : P.Pairwise (fun p q => ∀ k, p.2.ownBlock = some k → q.2.ownBlock = some k → False)
theorem FOwn.nil (w : World) (B : Nat) : FOwn w B (.slice none 0 0) [] := ⟨World.ownsRow_nil _ _ _ _, fun p hp => (by cases hp), List.Pairwise.nil⟩
theorem FOwn.upd {w w' : World} {B : Nat} {v : Value} {P : List (Fr × Value)} {S : Nat → Prop} (h : FOwn w B v P) (hu : Upd S w w') (hs : ∀ k, v.ownBlock = some k → ¬ S k) (hp : ∀ p ∈ P, ∀ k, p.2.ownBlock = some k → ¬ S k) : FOwn w' B v P :=
  ⟨ownS_upd h.row hu hs, fun p hm => (h.tb p hm).upd hu (hp p hm), h.ap⟩
theorem FOwn.later {w w' : World} {B : Nat} {v : Value} {P : List (Fr × Value)} (h : FOwn w B v P) (hB : Below w.heap.size w w') : FOwn w' B v P := h.upd (Upd.of_below (S := fun _ => False) hB) (fun _ _ h => h) (fun _ _ _ _ h => h)
theorem FOwn.slice {w : World} {B : Nat} {v : Value} {P : List (Fr × Value)} (h : FOwn w B v P) : ∃ a c, v = .slice a P.length c ∧ P.length ≤ c ∧ (a = none → c = 0) ∧ GRow 7 frc w a P := by
  obtain ⟨a, c, e, h1, h2, h3⟩ := own_grow frc_len h.row
  exact ⟨a, c, e, h1, h2, h3⟩
theorem IOwn.notF {w : World} {B g : Nat} {u : Value} {l : List Int} {t : TypeId} {ys : List Value} (h : IOwn w B u l) (hb : Blk w g t ys) (ht : t ≠ 3) : ¬ u.ownBlock = some g := fun e => by
  obtain ⟨zs, hz⟩ := ownS_type h e
  exact ht (blk_type hb hz)
theorem FOwn.ne {w : World} {B : Nat} {v : Value} {P : List (Fr × Value)} (h : FOwn w B v P) {p : Fr × Value} (hp : p ∈ P) {k : Nat} (hk : p.2.ownBlock = some k) : ¬ v.ownBlock = some k := fun e => by
  obtain ⟨ys, hy⟩ := ownS_type h.row e
  exact (h.tb p hp).notF hy (by decide) hk
theorem FOwn.rowNe {w : World} {B g : Nat} {v : Value} {P : List (Fr × Value)} (h : FOwn w B v P) {t : TypeId} {ys : List Value} (hb : Blk w g t ys) (ht : t ≠ 39) : ¬ v.ownBlock = some g := fun e => by
  obtain ⟨zs, hz⟩ := ownS_type h.row e
  exact ht (blk_type hb hz)
theorem FOwn.tbNe {w : World} {B g : Nat} {v : Value} {P : List (Fr × Value)} (h : FOwn w B v P) {t : TypeId} {ys : List Value} (hb : Blk w g t ys) (ht : t ≠ 3) : ∀ p ∈ P, ¬ p.2.ownBlock = some g := fun p hp => (h.tb p hp).notF hb ht
/-- append(v, f), the frame's table new or apart. -/
theorem FOwn.push {w : World} {B : Nat} {v : Value} {P : List (Fr × Value)} (h : FOwn w B v P) (y : Fr) {a : Option Addr} {n c : Nat} (ho : IOwn w B (.slice a n c) y.T) (hap : ∀ p ∈ P, ∀ k, p.2.ownBlock = some k → (Value.slice a n c).ownBlock = some k → False) (hl : P.length ≤ 1000000000000) (hB : B ≤ w.heap.size) :
    ∃ g cap w', (Builtin.append_ #[22, 22] 22 #[v, .slice (some ⟨w.heap.size, 0, none⟩) 1 1]).run Try.prog (w.alloc (.cells #[.int .i64 y.r, .int .i64 y.a, .int .i64 y.b, .int .i64 y.e, .int .i64 y.n, .int .i64 y.x, .slice a n c] 39)) = .ok (.slice (some ⟨g, 0, none⟩) (P.length + 1) cap) w' ∧ FOwn w' B (.slice (some ⟨g, 0, none⟩) (P.length + 1) cap) (P ++ [(y, .slice a n c)]) ∧ Upd (fun k => v.ownBlock = some k) w w' ∧ (v.ownBlock = some g ∨ w.heap.size ≤ g) := by
  obtain ⟨g, cap, w', h1, h2, h3, h4⟩ := run_pushS (P := Try.prog) (t := 22) (e := 39) (c := 7) Try.underlying22 infoF rfl (by decide) w 22 h.row (frc (y, .slice a n c)) rfl (frc_one y a n c) (by unfold maxLen; omega) (by omega) hB
  refine ⟨g, cap, w', h1, ⟨?_, ?_, ?_⟩, h3, h4⟩
  · rw [cellsG_app, cellsG_one, List.length_append, List.length_singleton]
    exact h2
  · intro p hp
    rcases List.mem_append.1 hp with hp | hp
    · exact (h.tb p hp).upd h3 (fun k hk e => h.ne hp hk e)
    · simp only [List.mem_singleton] at hp
      subst hp
      refine ho.upd h3 (fun k hk e => ?_)
      obtain ⟨ys, hy⟩ := ownS_type h.row e
      exact ho.notF hy (by decide) hk
  · rw [List.pairwise_append]
    refine ⟨h.ap, List.pairwise_singleton _ _, fun p hp q hq => ?_⟩
    simp only [List.mem_singleton] at hq
    subst hq
    exact hap p hp
/-! ### A frame written over in its place -/
theorem row_setc {α : Type} {c : Nat} {f : α → List Value} (hf : ∀ x, (f x).length = c) {w : World} {B g n cap i j : Nat} {e : TypeId} {l : List α} {x : α} (h : w.ownsRow B e c (.slice (some ⟨g, 0, none⟩) n cap) l.length (cellsG f l)) (hx : l[i]? = some x) (y : α) (u : Value) (hj : j < c) (hy : f y = (f x).set j u) :
    (w.setCell ⟨g, i * c + j, none⟩ u).ownsRow B e c (.slice (some ⟨g, 0, none⟩) n cap) (l.set i y).length (cellsG f (l.set i y)) := by
  have hi := (List.getElem?_eq_some_iff.1 hx).1
  obtain ⟨g', cap', ys, e, hb, hn, hm, hys, ht, hk⟩ := ownS_blk h (by omega)
  injection e with e1 e2 e3
  injection e1 with e1
  injection e1 with e1 _ _
  subst e1 e2 e3
  have hk2 := hk.set (i * c + j) u
  have h2 := ownS_of_blk (B := B) (n := l.length) (c := c) (cap := cap) hk2 hb (by simp [hys]) hn hm
  have hic : i * c + c ≤ l.length * c := by rw [← Nat.succ_mul]; exact Nat.mul_le_mul_right c hi
  have e4 : (ys.set (i * c + j) u).take (l.length * c) = cellsG f (l.set i y) := by
    apply List.ext_getElem?
    intro q
    by_cases hq : q < l.length * c
    · rw [row_set_at hf l i y hi q hq, List.getElem?_take, if_pos hq, ← ht]
      have hqy : q < ys.length := by rw [hys]; exact Nat.lt_of_lt_of_le hq (Nat.mul_le_mul_right c hn)
      by_cases h0 : q = i * c + j
      · subst h0
        rw [if_pos (by omega), List.getElem?_set_self hqy, hy, Nat.add_sub_cancel_left, List.getElem?_set_self (by rw [hf]; exact hj)]
      · rw [List.getElem?_set_ne (fun h => h0 h.symm)]
        by_cases h1 : i * c ≤ q ∧ q < i * c + c
        · rw [if_pos h1, hy, List.getElem?_set_ne (by omega)]
          have h3 := cellsG_at hf l i (q - i * c) x hx (by omega)
          rw [show i * c + (q - i * c) = q by omega] at h3
          rw [← h3, ← ht, List.getElem?_take, if_pos hq]
        · rw [if_neg h1, List.getElem?_take, if_pos hq]
    · rw [List.getElem?_eq_none (by simp; omega), List.getElem?_eq_none (by rw [cellsG_len hf]; simp; omega)]
  rw [List.length_set, ← e4]
  exact h2
/-- Seven cells written, one behind the other. -/
def set7 (w : World) (g o : Nat) (f : Fr) (v : Value) : World :=
  ((((((w.setCell ⟨g, o, none⟩ (.int .i64 f.r)).setCell ⟨g, o + 1, none⟩ (.int .i64 f.a)).setCell ⟨g, o + 2, none⟩ (.int .i64 f.b)).setCell ⟨g, o + 3, none⟩ (.int .i64 f.e)).setCell ⟨g, o + 4, none⟩ (.int .i64 f.n)).setCell ⟨g, o + 5, none⟩ (.int .i64 f.x)).setCell ⟨g, o + 6, none⟩ v
theorem upd7 (w : World) (g o : Nat) (f : Fr) (v : Value) : Upd (fun k => k = g) w (set7 w g o f v) := by
  unfold set7
  have h1 := (Upd.refl (fun k => k = g) w).set ⟨g, o, none⟩ (.int .i64 f.r) (.inl rfl)
  have h2 := h1.set ⟨g, o + 1, none⟩ (.int .i64 f.a) (.inl rfl)
  have h3 := h2.set ⟨g, o + 2, none⟩ (.int .i64 f.b) (.inl rfl)
  have h4 := h3.set ⟨g, o + 3, none⟩ (.int .i64 f.e) (.inl rfl)
  have h5 := h4.set ⟨g, o + 4, none⟩ (.int .i64 f.n) (.inl rfl)
  have h6 := h5.set ⟨g, o + 5, none⟩ (.int .i64 f.x) (.inl rfl)
  exact h6.set ⟨g, o + 6, none⟩ v (.inl rfl)
theorem row_set7 {w : World} {B g n cap i : Nat} {P : List (Fr × Value)} {p : Fr × Value} (h : w.ownsRow B 39 7 (.slice (some ⟨g, 0, none⟩) n cap) P.length (cellsG frc P)) (hx : P[i]? = some p) (f : Fr) (v : Value) :
    (set7 w g (i * 7) f v).ownsRow B 39 7 (.slice (some ⟨g, 0, none⟩) n cap) (P.set i (f, v)).length (cellsG frc (P.set i (f, v))) := by
  have hi := (List.getElem?_eq_some_iff.1 hx).1
  have at_ : ∀ q : Fr × Value, (P.set i q)[i]? = some q := fun q => by rw [List.getElem?_set_self hi]
  have h1 := row_setc (j := 0) frc_len h hx (⟨f.r, p.1.a, p.1.b, p.1.e, p.1.n, p.1.x, p.1.T⟩, p.2) (.int .i64 f.r) (by decide) rfl
  have h2 := row_setc (j := 1) frc_len h1 (at_ _) (⟨f.r, f.a, p.1.b, p.1.e, p.1.n, p.1.x, p.1.T⟩, p.2) (.int .i64 f.a) (by decide) rfl
  rw [List.set_set] at h2
  have h3 := row_setc (j := 2) frc_len h2 (at_ _) (⟨f.r, f.a, f.b, p.1.e, p.1.n, p.1.x, p.1.T⟩, p.2) (.int .i64 f.b) (by decide) rfl
  rw [List.set_set] at h3
  have h4 := row_setc (j := 3) frc_len h3 (at_ _) (⟨f.r, f.a, f.b, f.e, p.1.n, p.1.x, p.1.T⟩, p.2) (.int .i64 f.e) (by decide) rfl
  rw [List.set_set] at h4
  have h5 := row_setc (j := 4) frc_len h4 (at_ _) (⟨f.r, f.a, f.b, f.e, f.n, p.1.x, p.1.T⟩, p.2) (.int .i64 f.n) (by decide) rfl
  rw [List.set_set] at h5
  have h6 := row_setc (j := 5) frc_len h5 (at_ _) (⟨f.r, f.a, f.b, f.e, f.n, f.x, p.1.T⟩, p.2) (.int .i64 f.x) (by decide) rfl
  rw [List.set_set] at h6
  have h7 := row_setc (j := 6) frc_len h6 (at_ _) (f, v) v (by decide) rfl
  rw [List.set_set] at h7
  exact h7
theorem mem_set {α : Type} {l : List α} {i : Nat} {x y : α} (h : y ∈ l.set i x) : y = x ∨ ∃ j, j ≠ i ∧ l[j]? = some y := by
  obtain ⟨j, hj⟩ := List.getElem?_of_mem h
  rw [List.getElem?_set] at hj
  by_cases e : i = j
  · subst e
    rw [if_pos rfl] at hj
    split at hj
    · left; exact (Option.some.inj hj).symm
    · cases hj
  · rw [if_neg e] at hj
    exact .inr ⟨j, fun h => e h.symm, hj⟩
theorem pair_at {α : Type} {R : α → α → Prop} (hs : ∀ x y, R x y → R y x) {l : List α} (h : l.Pairwise R) {i j : Nat} {x y : α} (hx : l[i]? = some x) (hy : l[j]? = some y) (hij : i ≠ j) : R x y := by
  obtain ⟨hi, rfl⟩ := List.getElem?_eq_some_iff.1 hx
  obtain ⟨hj, rfl⟩ := List.getElem?_eq_some_iff.1 hy
  rcases Nat.lt_or_gt_of_ne hij with h1 | h1
  · exact List.pairwise_iff_getElem.1 h i j hi hj h1
  · exact hs _ _ (List.pairwise_iff_getElem.1 h j i hj hi h1)
theorem pair_set {α : Type} {R : α → α → Prop} (hs : ∀ x y, R x y → R y x) {l : List α} (h : l.Pairwise R) {i : Nat} {x : α} (hx : ∀ j y, j ≠ i → l[j]? = some y → R x y) : (l.set i x).Pairwise R := by
  rw [List.pairwise_iff_getElem]
  intro a b ha hb hab
  simp only [List.length_set] at ha hb
  rw [List.getElem_set, List.getElem_set]
  split
  · rename_i e
    subst e
    rw [if_neg (by omega)]
    exact hx b _ (by omega) (List.getElem?_eq_getElem hb)
  · split
    · rename_i e1 e
      subst e
      exact hs _ _ (hx a _ (by omega) (List.getElem?_eq_getElem ha))
    · exact List.pairwise_iff_getElem.1 h a b ha hb hab
/-- A frame with a table of its own in the place of another one. -/
theorem FOwn.set {w : World} {B g n cap i : Nat} {P : List (Fr × Value)} {p : Fr × Value} (h : FOwn w B (.slice (some ⟨g, 0, none⟩) n cap) P) (hx : P[i]? = some p) (f : Fr) (v : Value) (hv : IOwn w B v f.T) (hap : ∀ j q, j ≠ i → P[j]? = some q → ∀ k, v.ownBlock = some k → q.2.ownBlock = some k → False) :
    FOwn (set7 w g (i * 7) f v) B (.slice (some ⟨g, 0, none⟩) n cap) (P.set i (f, v)) := by
  have hgo : (Value.slice (some ⟨g, 0, none⟩) n cap).ownBlock = some g := rfl
  refine ⟨row_set7 h.row hx f v, fun q hq => ?_, pair_set (fun x y h k h1 h2 => h k h2 h1) h.ap (fun j y hj hy k h1 h2 => hap j y hj hy k h1 h2)⟩
  rcases mem_set hq with rfl | ⟨j, hj, hjq⟩
  · refine hv.upd (upd7 w g (i * 7) f v) (fun k hk e => ?_)
    obtain ⟨ys, hy⟩ := ownS_type h.row hgo
    subst e
    exact hv.notF hy (by decide) hk
  · have hm : q ∈ P := List.mem_of_getElem? hjq
    refine (h.tb q hm).upd (upd7 w g (i * 7) f v) (fun k hk e => ?_)
    subst e
    exact h.ne hm hk hgo
/-- The list without its last frame. -/
theorem FOwn.init {w : World} {B n cap : Nat} {a : Option Addr} {P : List (Fr × Value)} {p : Fr × Value} (h : FOwn w B (.slice a n cap) (P ++ [p])) : FOwn w B (.slice a P.length cap) P := by
  obtain ⟨g, cap', ys, e, hb, hn, hm, hys, ht, hk⟩ := ownS_blk h.row (by simp)
  injection e with e1 e2 e3
  subst e1 e2 e3
  refine ⟨?_, fun q hq => h.tb q (List.mem_append_left _ hq), (List.pairwise_append.1 h.ap).1⟩
  have h2 := ownS_of_blk (B := B) (n := P.length) (c := 7) (cap := cap) hk hb hys (by simp at hn; omega) hm
  have e4 : ys.take (P.length * 7) = cellsG frc P := by
    have := congrArg (List.take (P.length * 7)) ht
    rw [List.take_take, cellsG_app, List.take_left' (cellsG_len frc_len P)] at this
    rw [← this]
    congr 1
    simp
  rw [← e4]
  exact h2
end Go.Proofs.Ytcmkdkocponpiaa

/- Frames: stacks in memory; what may lie on a stack (isRight), copies. -/
namespace Go.Proofs.Ytcmkdkocponpiaa
open Go.RowKit
set_option linter.unusedVariables false

/-- A stack lies at g. -/
structure StM (w : World) (B g : Nat) (v : Value) (P : List (Fr × Value)) (m h : Int) : Prop where
  box : Blk w g 71 [v, .int .i64 m, .int .i64 h]
  own : FOwn w B v P
  bg : B ≤ g
  hm : 1 ≤ m ∧ m ≤ 1048576
  hl : (P.length : Int) ≤ m
  hh : (P.length : Int) ≤ h ∧ h ≤ m
  rt : ∀ p ∈ P, frB p.1 = true
/-- Its blocks. -/
def skB (g : Nat) (v : Value) (P : List (Fr × Value)) (k : Nat) : Prop := k = g ∨ v.ownBlock = some k ∨ ∃ p ∈ P, p.2.ownBlock = some k
/-- A stack of these frames lies at g, within the blocks F. -/
def Stk (w : World) (B : Nat) (F : Nat → Prop) (g : Nat) (fs : List Fr) (m h : Int) : Prop :=
  ∃ v P, StM w B g v P m h ∧ P.map (·.1) = fs ∧ (∀ k, skB g v P k → F k) ∧ ∀ k, F k → B ≤ k ∧ k < w.heap.size
theorem StM.upd {w w' : World} {B g : Nat} {v : Value} {P : List (Fr × Value)} {m h : Int} {S : Nat → Prop} (H : StM w B g v P m h) (hu : Upd S w w') (hs : ∀ k, skB g v P k → ¬ S k) : StM w' B g v P m h :=
  ⟨H.box.upd hu (hs g (.inl rfl)), H.own.upd hu (fun k hk => hs k (.inr (.inl hk))) (fun p hp k hk => hs k (.inr (.inr ⟨p, hp, hk⟩))), H.bg, H.hm, H.hl, H.hh, H.rt⟩
theorem StM.lies {w : World} {B g : Nat} {v : Value} {P : List (Fr × Value)} {m h : Int} (H : StM w B g v P m h) {k : Nat} (hk : skB g v P k) : B ≤ k ∧ k < w.heap.size := by
  rcases hk with rfl | hk | ⟨p, hp, hk⟩
  · exact ⟨H.bg, H.box.lt⟩
  · exact H.own.row.lt k hk
  · exact (H.own.tb p hp).lies hk
theorem StM.later {w w' : World} {B g : Nat} {v : Value} {P : List (Fr × Value)} {m h : Int} (H : StM w B g v P m h) (hB : Below w.heap.size w w') : StM w' B g v P m h :=
  H.upd (Upd.of_below (S := fun _ => False) hB) (fun _ _ h => h)
theorem Stk.upd {w w' : World} {B g : Nat} {F S : Nat → Prop} {fs : List Fr} {m h : Int} (H : Stk w B F g fs m h) (hu : Upd S w w') (hs : ∀ k, F k → ¬ S k) : Stk w' B F g fs m h := by
  obtain ⟨v, P, h1, h2, h3, h4⟩ := H
  exact ⟨v, P, h1.upd hu (fun k hk => hs k (h3 k hk)), h2, h3, fun k hk => ⟨(h4 k hk).1, Nat.lt_of_lt_of_le (h4 k hk).2 hu.size⟩⟩
theorem Stk.later {w w' : World} {B g : Nat} {F : Nat → Prop} {fs : List Fr} {m h : Int} (H : Stk w B F g fs m h) (hB : Below w.heap.size w w') : Stk w' B F g fs m h :=
  H.upd (Upd.of_below (S := fun _ => False) hB) (fun _ _ h => h)
theorem Stk.lt {w : World} {B g : Nat} {F : Nat → Prop} {fs : List Fr} {m h : Int} (H : Stk w B F g fs m h) {k : Nat} (hk : F k) : B ≤ k ∧ k < w.heap.size := by
  obtain ⟨v, P, h1, h2, h3, h4⟩ := H
  exact h4 k hk
theorem Stk.base {w : World} {B B' g : Nat} {F : Nat → Prop} {fs : List Fr} {m h : Int} (H : Stk w B F g fs m h) (hb : B' ≤ B) : Stk w B' F g fs m h := by
  obtain ⟨v, P, h1, h2, h3, h4⟩ := H
  exact ⟨v, P, ⟨h1.box, ⟨own_base h1.own.row hb, fun p hp => own_base (h1.own.tb p hp) hb, h1.own.ap⟩, Nat.le_trans hb h1.bg, h1.hm, h1.hl, h1.hh, h1.rt⟩, h2, h3, fun k hk => ⟨Nat.le_trans hb (h4 k hk).1, (h4 k hk).2⟩⟩
/-- A call may have changed the stack. -/
def StkTo (w : World) (B : Nat) (F : Nat → Prop) (w' : World) (g : Nat) (fs : List Fr) (m h : Int) : Prop :=
  ∃ F', Stk w' B F' g fs m h ∧ Upd F w w' ∧ ∀ k, F' k → F k ∨ w.heap.size ≤ k
theorem Stk.same {w w' : World} {B g : Nat} {F : Nat → Prop} {fs : List Fr} {m h : Int} (H : Stk w B F g fs m h) (hB : Below w.heap.size w w') : StkTo w B F w' g fs m h :=
  ⟨F, H.later hB, Upd.of_below hB, fun k hk => .inl hk⟩
theorem StkTo.to {w w1 w2 : World} {B g : Nat} {F : Nat → Prop} {fs : List Fr} {m h : Int} (H : StkTo w1 B F w2 g fs m h) (hB : Below w.heap.size w w1) : StkTo w B F w2 g fs m h := by
  obtain ⟨F', h1, h2, h3⟩ := H
  exact ⟨F', h1, (Upd.of_below hB).to h2, fun k hk => (h3 k hk).imp id (fun h => Nat.le_trans hB.size h)⟩
theorem StkTo.then {w w1 w2 : World} {B g : Nat} {F : Nat → Prop} {fs : List Fr} {m h : Int} (H : StkTo w B F w1 g fs m h) (hB : Below w1.heap.size w1 w2) : StkTo w B F w2 g fs m h := by
  obtain ⟨F', h1, h2, h3⟩ := H
  exact ⟨F', h1.later hB, h2.then hB, h3⟩
/-- What a stack in memory is made of, seen from a changed one. -/
theorem StM.to {w w' : World} {B g : Nat} {F : Nat → Prop} {v : Value} {P : List (Fr × Value)} {m h : Int} (H : StM w' B g v P m h) (hu : Upd F w w') (hB : B ≤ w.heap.size) (hF : ∀ k, F k → B ≤ k ∧ k < w.heap.size) (hk : ∀ k, skB g v P k → F k ∨ w.heap.size ≤ k) : StkTo w B F w' g (P.map (·.1)) m h := by
  refine ⟨fun k => skB g v P k, ⟨v, P, H, rfl, fun k h => h, fun k h => H.lies h⟩, hu, hk⟩
/-- What the frame, handed in, is. -/
def FrA (w : World) (f : Fr) (a : Option Addr) (c : Nat) : Prop := Row .i64 w a f.T ∧ (a = none → c = 0) ∧ f.T.length ≤ maxLen
theorem FrA.later {w w' : World} {f : Fr} {a : Option Addr} {c : Nat} (h : FrA w f a c) (hB : Below w.heap.size w w') : FrA w' f a c := ⟨h.1.later hB, h.2⟩
theorem IOwn.fra {w : World} {B : Nat} {v : Value} {f : Fr} (h : IOwn w B v f.T) : ∃ a c, v = .slice a f.T.length c ∧ FrA w f a c := by
  obtain ⟨a, c, e, h1, h2, h3⟩ := h.row
  have h4 := own_len h
  exact ⟨a, c, e, h1, h2, by unfold maxLen; omega⟩
set_option maxRecDepth 100000 in
set_option maxHeartbeats 4000000 in
theorem pos_any (n : Int) (w : World) : Calls Try.prog 38 #[.int .i64 n] w fun e w' => e = .returned (.bool (posB n)) ∧ w = w' := by
  by_cases h1 : 0 ≤ n
  · by_cases h2 : n ≤ 4611686018427387904
    · rw [posB_of h1 h2]
      go_enter Try.func38, Try.ntmps38
      go_wp2
      go_ret
      exact ⟨rfl, rfl⟩
    · have e : posB n = false := by simp [posB, h2]
      rw [e]
      clear e
      go_enter Try.func38, Try.ntmps38
      go_wp2
      go_ret
      exact ⟨rfl, rfl⟩
  · have e : posB n = false := by simp [posB, h1]
    rw [e]
    clear e
    go_enter Try.func38, Try.ntmps38
    go_wp2
    go_ret
    exact ⟨rfl, rfl⟩
set_option maxRecDepth 100000 in
set_option maxHeartbeats 4000000 in
theorem pon_any (n : Int) (w : World) : Calls Try.prog 52 #[.int .i64 n] w fun e w' => e = .returned (.bool (ponB n)) ∧ w = w' := by
  have HP := hide_ (pos_any n w)
  by_cases h1 : n = -1
  · subst h1
    go_enter Try.func52, Try.ntmps52
    go_wp2
    go_ret
    exact ⟨rfl, rfl⟩
  · have e1 : (n == -1) = false := by simpa using h1
    have e : ponB n = posB n := by simp [ponB, e1]
    rw [e]
    clear e h1
    go_enter Try.func52, Try.ntmps52
    go_wp2_with (go_at_call 38; refine HP.out.mono ?_; rintro e w' ⟨rfl, rfl⟩)
    go_ret
    exact ⟨rfl, rfl⟩
end Go.Proofs.Ytcmkdkocponpiaa

/- Frames: isRight, withTable, copied. -/
namespace Go.Proofs.Ytcmkdkocponpiaa
open Go.RowKit
set_option linter.unusedVariables false

abbrev fag (f : Fr) (v : Value) : Value := .agg #[.int .i64 f.r, .int .i64 f.a, .int .i64 f.b, .int .i64 f.e, .int .i64 f.n, .int .i64 f.x, v]
set_option maxRecDepth 100000 in
set_option maxHeartbeats 8000000 in
theorem right_any (f : Fr) (a : Option Addr) (c : Nat) (w : World) (hA : Hid (FrA w f a c)) :
    Calls Try.prog 34 #[.agg #[.int .i64 f.r, .int .i64 f.a, .int .i64 f.b, .int .i64 f.e, .int .i64 f.n, .int .i64 f.x, .slice a f.T.length c]] w fun e w' => e = .returned (.bool (frB f)) ∧ Below w.heap.size w w' := by
  obtain ⟨w1, hw1⟩ : ∃ wx, wx = w.alloc (.cells #[.int .i64 f.r, .int .i64 f.a, .int .i64 f.b, .int .i64 f.e, .int .i64 f.n, .int .i64 f.x, .slice a f.T.length c] 39) := ⟨_, rfl⟩
  have hB1 : Below w.heap.size w w1 := by rw [hw1]; exact below1 _ _
  have k1 : Blk w1 w.heap.size 39 (frc (f, .slice a f.T.length c)) := by rw [hw1]; exact Blk.newA w _ _
  have HA1 := hide_ (hA.out.later hB1)
  have HB1 := hide_ hB1
  have hmx := hA.out.2.2
  unfold maxLen at hmx
  clear hA hB1
  have j0 := k1.cell 0; have j1 := k1.cell 1; have j2 := k1.cell 2; have j3 := k1.cell 3; have j4 := k1.cell 4; have j5 := k1.cell 5; have j6 := k1.cell 6
  simp [frc] at j0 j1 j2 j3 j4 j5 j6
  clear k1
  have HPos := hide_ (fun n => pos_any n w1)
  have HPon := hide_ (fun n => pon_any n w1)
  obtain ⟨T, hT⟩ : ∃ T, f.T = T := ⟨_, rfl⟩
  have HTe := hide_ hT
  rw [hT] at j6 hmx ⊢
  have HRw : Hid (Row .i64 w1 a T) := hide_ (by rw [← hT]; exact HA1.out.1)
  rw [hT] at hw1
  clear hT HA1
  go_enter Try.func34, Try.ntmps34
  by_cases hlen : T.length ≤ 1048576
  · go_upto_region 3 with fail
    rw [← hw1]
    clear hw1
    go_wp2_with fail
    go_loop [4, 12] (fun x4 x12 => ∃ i : Nat, i ≤ T.length ∧ x12 = .int .i64 (i : Int) ∧ Hid (∀ y ∈ T.take i, posB y = true)) (fun _ x12 => T.length - (intOf x12).toNat)
    case atStart => exact ⟨0, Nat.zero_le _, rfl, hide_ (by simp)⟩
    case round =>
      obtain ⟨i, hi, rfl, HI⟩ := hrel
      by_cases hlt : i < T.length
      · have hlt' : (i : Int) < T.length := by omega
        obtain ⟨b, o, rfl, hbw, hc⟩ := HRw.out.open (by omega)
        have hcell := hc i hlt
        obtain ⟨y, hy⟩ : ∃ y, T.getD i 0 = y := ⟨_, rfl⟩
        have HY : Hid (T.take (i + 1) = T.take i ++ [y]) := hide_ (by rw [List.take_add_one, List.getElem?_eq_getElem hlt, ← hy]; simp [List.getD, hlt])
        have HM : Hid (y ∈ T) := hide_ (by rw [← hy]; simp [List.getD, hlt])
        rw [hy] at hcell
        clear hy hc
        cases hp : posB y with
        | true =>
          have hp' : Calls Try.prog 38 #[.int .i64 y] w1 fun e w' => e = .returned (.bool true) ∧ w1 = w' := by have h := HPos.out y; rw [hp] at h; exact h
          have HPy := hide_ hp'
          have HP := hide_ hp
          clear hp hp'
          go_wp2_with (go_at_call 38; refine HPy.out.mono ?_; rintro e w' ⟨rfl, rfl⟩)
          go_round
          case rel => exact ⟨i + 1, by omega, by go_num, hide_ (by rw [HY.out]; intro z hz; rcases List.mem_append.1 hz with hz | hz; exact HI.out z hz; simp at hz; subst hz; exact HP.out)⟩
          case measure => simp [intOf]; omega
        | false =>
          have hp' : Calls Try.prog 38 #[.int .i64 y] w1 fun e w' => e = .returned (.bool false) ∧ w1 = w' := by have h := HPos.out y; rw [hp] at h; exact h
          have HPy := hide_ hp'
          have HP := hide_ hp
          clear hp hp'
          go_wp2_with (go_at_call 38; refine HPy.out.mono ?_; rintro e w' ⟨rfl, rfl⟩)
          go_ret
          refine ⟨?_, HB1.out⟩
          cases hf : frB f with
          | false => rfl
          | true => have := (frB_is hf).2.1 y (by rw [HTe.out]; exact HM.out); rw [HP.out] at this; cases this
      · obtain rfl : i = T.length := by omega
        have HAll : Hid (T.all posB = true) := hide_ (by have := HI.out; rw [List.take_length] at this; exact List.all_eq_true.2 this)
        have HFr : Hid (frB f = (posB f.r && posB f.a && posB f.b && ponB f.e && ponB f.n && posB f.x)) := hide_ (by unfold frB; rw [HTe.out, HAll.out]; simp [hlen, hdB])
        clear HAll HI
        have HQ0 := HPos.out f.r
        generalize posB f.r = b0 at HQ0 HFr
        cases b0 with
        | false =>
          have HQ0 := hide_ HQ0
          go_wp2_with (first | (go_at_call_of 38 (Value.int .i64 f.r); refine HQ0.out.mono ?_; rintro e w' ⟨rfl, rfl⟩))
          go_ret
          exact ⟨by rw [HFr.out]; rfl, HB1.out⟩
        | true =>
          have HQ0 := hide_ HQ0
          have HQ1 := HPos.out f.a
          generalize posB f.a = b1 at HQ1 HFr
          cases b1 with
          | false =>
            have HQ1 := hide_ HQ1
            go_wp2_with (first | (go_at_call_of 38 (Value.int .i64 f.r); refine HQ0.out.mono ?_; rintro e w' ⟨rfl, rfl⟩) | (go_at_call_of 38 (Value.int .i64 f.a); refine HQ1.out.mono ?_; rintro e w' ⟨rfl, rfl⟩))
            go_ret
            exact ⟨by rw [HFr.out]; rfl, HB1.out⟩
          | true =>
            have HQ1 := hide_ HQ1
            have HQ2 := HPos.out f.b
            generalize posB f.b = b2 at HQ2 HFr
            cases b2 with
            | false =>
              have HQ2 := hide_ HQ2
              go_wp2_with (first | (go_at_call_of 38 (Value.int .i64 f.r); refine HQ0.out.mono ?_; rintro e w' ⟨rfl, rfl⟩) | (go_at_call_of 38 (Value.int .i64 f.a); refine HQ1.out.mono ?_; rintro e w' ⟨rfl, rfl⟩) | (go_at_call_of 38 (Value.int .i64 f.b); refine HQ2.out.mono ?_; rintro e w' ⟨rfl, rfl⟩))
              go_ret
              exact ⟨by rw [HFr.out]; rfl, HB1.out⟩
            | true =>
              have HQ2 := hide_ HQ2
              have HQ3 := HPon.out f.e
              generalize ponB f.e = b3 at HQ3 HFr
              cases b3 with
              | false =>
                have HQ3 := hide_ HQ3
                go_wp2_with (first | (go_at_call_of 38 (Value.int .i64 f.r); refine HQ0.out.mono ?_; rintro e w' ⟨rfl, rfl⟩) | (go_at_call_of 38 (Value.int .i64 f.a); refine HQ1.out.mono ?_; rintro e w' ⟨rfl, rfl⟩) | (go_at_call_of 38 (Value.int .i64 f.b); refine HQ2.out.mono ?_; rintro e w' ⟨rfl, rfl⟩) | (go_at_call_of 52 (Value.int .i64 f.e); refine HQ3.out.mono ?_; rintro e w' ⟨rfl, rfl⟩))
                go_ret
                exact ⟨by rw [HFr.out]; rfl, HB1.out⟩
              | true =>
                have HQ3 := hide_ HQ3
                have HQ4 := HPon.out f.n
                generalize ponB f.n = b4 at HQ4 HFr
                cases b4 with
                | false =>
                  have HQ4 := hide_ HQ4
                  go_wp2_with (first | (go_at_call_of 38 (Value.int .i64 f.r); refine HQ0.out.mono ?_; rintro e w' ⟨rfl, rfl⟩) | (go_at_call_of 38 (Value.int .i64 f.a); refine HQ1.out.mono ?_; rintro e w' ⟨rfl, rfl⟩) | (go_at_call_of 38 (Value.int .i64 f.b); refine HQ2.out.mono ?_; rintro e w' ⟨rfl, rfl⟩) | (go_at_call_of 52 (Value.int .i64 f.e); refine HQ3.out.mono ?_; rintro e w' ⟨rfl, rfl⟩) | (go_at_call_of 52 (Value.int .i64 f.n); refine HQ4.out.mono ?_; rintro e w' ⟨rfl, rfl⟩))
                  go_ret
                  exact ⟨by rw [HFr.out]; rfl, HB1.out⟩
                | true =>
                  have HQ4 := hide_ HQ4
                  have HQ5 := HPos.out f.x
                  generalize posB f.x = b5 at HQ5 HFr
                  cases b5 with
                  | false =>
                    have HQ5 := hide_ HQ5
                    go_wp2_with (first | (go_at_call_of 38 (Value.int .i64 f.r); refine HQ0.out.mono ?_; rintro e w' ⟨rfl, rfl⟩) | (go_at_call_of 38 (Value.int .i64 f.a); refine HQ1.out.mono ?_; rintro e w' ⟨rfl, rfl⟩) | (go_at_call_of 38 (Value.int .i64 f.b); refine HQ2.out.mono ?_; rintro e w' ⟨rfl, rfl⟩) | (go_at_call_of 52 (Value.int .i64 f.e); refine HQ3.out.mono ?_; rintro e w' ⟨rfl, rfl⟩) | (go_at_call_of 52 (Value.int .i64 f.n); refine HQ4.out.mono ?_; rintro e w' ⟨rfl, rfl⟩) | (go_at_call_of 38 (Value.int .i64 f.x); refine HQ5.out.mono ?_; rintro e w' ⟨rfl, rfl⟩))
                    go_ret
                    exact ⟨by rw [HFr.out]; rfl, HB1.out⟩
                  | true =>
                    have HQ5 := hide_ HQ5
                    go_wp2_with (first | (go_at_call_of 38 (Value.int .i64 f.r); refine HQ0.out.mono ?_; rintro e w' ⟨rfl, rfl⟩) | (go_at_call_of 38 (Value.int .i64 f.a); refine HQ1.out.mono ?_; rintro e w' ⟨rfl, rfl⟩) | (go_at_call_of 38 (Value.int .i64 f.b); refine HQ2.out.mono ?_; rintro e w' ⟨rfl, rfl⟩) | (go_at_call_of 52 (Value.int .i64 f.e); refine HQ3.out.mono ?_; rintro e w' ⟨rfl, rfl⟩) | (go_at_call_of 52 (Value.int .i64 f.n); refine HQ4.out.mono ?_; rintro e w' ⟨rfl, rfl⟩) | (go_at_call_of 38 (Value.int .i64 f.x); refine HQ5.out.mono ?_; rintro e w' ⟨rfl, rfl⟩))
                    go_ret
                    exact ⟨by rw [HFr.out]; rfl, HB1.out⟩
  · have HFr : Hid (frB f = false) := hide_ (by
      cases hf : frB f with
      | false => rfl
      | true => have := (frB_is hf).1; rw [HTe.out] at this; omega)
    have hgt : (1048576 : Int) < (T.length : Int) := by omega
    go_upto_region 1 with fail
    rw [← hw1]
    clear hw1
    go_wp2_with fail
    go_ret
    exact ⟨by rw [HFr.out]; rfl, HB1.out⟩
theorem retF {fn : Func} {p : Tmp} (h : fn.results = #[.cell p 39]) {R : Ending → World → Prop} {tmps : Array Value} {g : Nat} {w : World} (f : Fr) (v : Value) (hp : tmps.getD p undef = .pointer (some ⟨g, 0, none⟩)) (hK : Blk w g 39 (frc (f, v))) (hR : R (.returned (fag f v)) w) :
    bodyPost Try.prog fn R Exit.ret ⟨tmps, []⟩ w :=
  bodyPost_ret (results_cell_row h _ _ _ _ #[.int .i64 f.r, .int .i64 f.a, .int .i64 f.b, .int .i64 f.e, .int .i64 f.n, .int .i64 f.x, v] _ _ hp (show w.heap[g]? = some (.cells _ 39 (0, 0)) from hK) Try.underlying39 rfl (by show _ = some 7; kernel_rfl)) rfl hR
theorem retFu {fn : Func} {p u : Tmp} (h : fn.results = #[.cell p 39, .tmp u]) {R : Ending → World → Prop} {tmps : Array Value} {g : Nat} {w : World} {y : Value} (f : Fr) (v : Value) (hu : tmps.getD u undef = y) (hp : tmps.getD p undef = .pointer (some ⟨g, 0, none⟩)) (hK : Blk w g 39 (frc (f, v))) (hR : R (.returned (.tuple #[fag f v, y])) w) :
    bodyPost Try.prog fn R Exit.ret ⟨tmps, []⟩ w :=
  bodyPost_ret (results_cell_tmp_row h _ _ _ _ #[.int .i64 f.r, .int .i64 f.a, .int .i64 f.b, .int .i64 f.e, .int .i64 f.n, .int .i64 f.x, v] _ _ hp (show w.heap[g]? = some (.cells _ 39 (0, 0)) from hK) Try.underlying39 rfl (by show _ = some 7; kernel_rfl)) rfl (by rw [hu]; exact hR)
theorem Blk.set7 {w : World} {g : Nat} {p : Fr × Value} (h : Blk w g 39 (frc p)) (f : Fr) (v : Value) : Blk (set7 w g 0 f v) g 39 (frc (f, v)) := by
  have := ((((((h.set 0 (.int .i64 f.r)).set 1 (.int .i64 f.a)).set 2 (.int .i64 f.b)).set 3 (.int .i64 f.e)).set 4 (.int .i64 f.n)).set 5 (.int .i64 f.x)).set 6 v
  simpa [frc, Go.Proofs.Ytcmkdkocponpiaa.set7] using this
theorem below7 {B : Nat} {w w' : World} (h : Below B w w') (g o : Nat) (f : Fr) (v : Value) (hb : B ≤ g) : Below B w (set7 w' g o f v) := by
  unfold set7
  exact below_set (below_set (below_set (below_set (below_set (below_set (below_set h _ _ _ hb) _ _ _ hb) _ _ _ hb) _ _ _ hb) _ _ _ hb) _ _ _ hb) _ _ _ hb
theorem s7 (w : World) (g : Nat) (f : Fr) (v : Value) : ((((((w.setCell ⟨g, 0, none⟩ (.int .i64 f.r)).setCell ⟨g, 1, none⟩ (.int .i64 f.a)).setCell ⟨g, 2, none⟩ (.int .i64 f.b)).setCell ⟨g, 3, none⟩ (.int .i64 f.e)).setCell ⟨g, 4, none⟩ (.int .i64 f.n)).setCell ⟨g, 5, none⟩ (.int .i64 f.x)).setCell ⟨g, 6, none⟩ v = set7 w g 0 f v := by simp only [set7, Nat.zero_add]
def frz : Fr × Value := (fr0, .slice none 0 0)
set_option maxRecDepth 100000 in
set_option maxHeartbeats 4000000 in
theorem with_any (f : Fr) (a0 a1 : Option Addr) (n0 c0 n1 c1 : Nat) (w : World) :
    Calls Try.prog 37 #[.agg #[.int .i64 f.r, .int .i64 f.a, .int .i64 f.b, .int .i64 f.e, .int .i64 f.n, .int .i64 f.x, .slice a0 n0 c0], .slice a1 n1 c1] w fun e w' => e = .returned (.agg #[.int .i64 f.r, .int .i64 f.a, .int .i64 f.b, .int .i64 f.e, .int .i64 f.n, .int .i64 f.x, .slice a1 n1 c1]) ∧ Below w.heap.size w w' := by
  obtain ⟨wa, hwa⟩ : ∃ wx, wx = (w.alloc (.cells #[.int .i64 f.r, .int .i64 f.a, .int .i64 f.b, .int .i64 f.e, .int .i64 f.n, .int .i64 f.x, .slice a0 n0 c0] 39)).alloc (.cells #[.int .i64 0, .int .i64 0, .int .i64 0, .int .i64 0, .int .i64 0, .int .i64 0, .slice none 0 0] 39) := ⟨_, rfl⟩
  have hB : Below w.heap.size w wa := by rw [hwa]; exact below2 _ _ _
  obtain ⟨k1, k2⟩ : Blk wa w.heap.size 39 (frc (f, .slice a0 n0 c0)) ∧ Blk wa (w.heap.size + 1) 39 (frc frz) := by rw [hwa]; exact blk2 w _ _ _ _
  have n1' : ¬ w.heap.size = w.heap.size + 1 := by omega
  have n2' : ¬ w.heap.size + 1 = w.heap.size := by omega
  have m1 := k1.set 6 (.slice a1 n1 c1)
  have m2 := k2.other ⟨w.heap.size, 6, none⟩ (.slice a1 n1 c1) n2'
  have HK := hide_ (m2.set7 f (.slice a1 n1 c1))
  have HB : Hid (Below w.heap.size w (set7 (wa.setCell ⟨w.heap.size, 6, none⟩ (.slice a1 n1 c1)) (w.heap.size + 1) 0 f (.slice a1 n1 c1))) := hide_ (below7 (below_set hB _ _ _ (Nat.le_refl _)) _ _ _ _ (by omega))
  have j0 := m1.cell 0; have j1 := m1.cell 1; have j2 := m1.cell 2; have j3 := m1.cell 3; have j4 := m1.cell 4; have j5 := m1.cell 5; have j6 := m1.cell 6
  have i6 := k1.cell 6; have z6 := k1.frozen 6
  have l0 := m2.cell 0; have l1 := m2.cell 1; have l2 := m2.cell 2; have l3 := m2.cell 3; have l4 := m2.cell 4; have l5 := m2.cell 5; have l6 := m2.cell 6
  have y0 := m2.frozen 0; have y1 := m2.frozen 1; have y2 := m2.frozen 2; have y3 := m2.frozen 3; have y4 := m2.frozen 4; have y5 := m2.frozen 5; have y6 := m2.frozen 6
  simp [frc, frz, fr0] at j0 j1 j2 j3 j4 j5 j6 i6 l0 l1 l2 l3 l4 l5 l6
  clear k1 k2 m1 m2 hB
  go_enter Try.func37, Try.ntmps37
  go_upto_region 1 with fail
  rw [← hwa]
  clear hwa
  go_wp2_with fail
  refine retF rfl f _ rfl HK.out ?_
  exact ⟨rfl, HB.out⟩
end Go.Proofs.Ytcmkdkocponpiaa

/- Frames: last, New, Len, High. -/
namespace Go.Proofs.Ytcmkdkocponpiaa
open Go.RowKit
set_option linter.unusedVariables false

set_option maxRecDepth 100000 in
set_option maxHeartbeats 4000000 in
theorem last_nil (g : Nat) (a : Option Addr) (c : Nat) (x y : Value) (w : World) (hb : Hid (Blk w g 71 [.slice a 0 c, x, y])) :
    Calls Try.prog 33 #[.pointer (some ⟨g, 0, none⟩)] w fun e w' => e = .returned (.pointer none) ∧ w = w' := by
  have q0 := hb.out.cell 0
  simp at q0
  go_enter Try.func33, Try.ntmps33
  go_wp2
  go_ret
  exact ⟨rfl, rfl⟩
set_option maxRecDepth 100000 in
set_option maxHeartbeats 4000000 in
theorem last_some (g gF n cap : Nat) (x y : Value) (w : World) (hn : n + 1 ≤ 9223372036854775807) (hb : Hid (Blk w g 71 [.slice (some ⟨gF, 0, none⟩) (n + 1) cap, x, y])) :
    Calls Try.prog 33 #[.pointer (some ⟨g, 0, none⟩)] w fun e w' => e = .returned (.pointer (some ⟨gF, n * 7, none⟩)) ∧ w.drew = w' := by
  have q0 := hb.out.cell 0
  simp at q0
  have hw := i64w (n : Int) (by omega)
  go_enter Try.func33, Try.ntmps33
  go_wp2_with fail
  go_region
  go_wp2
  go_ret
  exact ⟨rfl, rfl⟩
set_option maxRecDepth 100000 in
set_option maxHeartbeats 4000000 in
theorem len_any (g : Nat) (a : Option Addr) (n c : Nat) (x y : Value) (w : World) (hb : Hid (Blk w g 71 [.slice a n c, x, y])) :
    Calls Try.prog 11 #[.pointer (some ⟨g, 0, none⟩)] w fun e w' => e = .returned (.int .i64 (n : Int)) ∧ w = w' := by
  have q0 := hb.out.cell 0
  simp at q0
  go_enter Try.func11, Try.ntmps11
  go_wp2
  go_ret
  exact ⟨rfl, rfl⟩
set_option maxRecDepth 100000 in
set_option maxHeartbeats 4000000 in
theorem high_any (g : Nat) (x y : Value) (h : Int) (w : World) (hb : Hid (Blk w g 71 [x, y, .int .i64 h])) :
    Calls Try.prog 12 #[.pointer (some ⟨g, 0, none⟩)] w fun e w' => e = .returned (.int .i64 h) ∧ w = w' := by
  have q0 := hb.out.cell 2
  simp at q0
  go_enter Try.func12, Try.ntmps12
  go_wp2
  go_ret
  exact ⟨rfl, rfl⟩
/-- What New answers. -/
def NewTo (m : Int) (w : World) (e : Ending) (w' : World) : Prop :=
  (¬ (1 ≤ m ∧ m ≤ 1048576) ∧ e = .returned (.tuple #[.pointer none, .int .i64 3]) ∧ w = w') ∨
  (1 ≤ m ∧ m ≤ 1048576 ∧ ∃ F, e = .returned (.tuple #[.pointer (some ⟨w.heap.size, 0, none⟩), .int .i64 0]) ∧ Stk w' w.heap.size F w.heap.size [] m 0 ∧ Below w.heap.size w w')
set_option maxRecDepth 100000 in
set_option maxHeartbeats 4000000 in
theorem new_any (m : Int) (w : World) : Calls Try.prog 27 #[.int .i64 m] w fun e w' => NewTo m w e w' := by
  by_cases h1 : m < 1
  · go_enter Try.func27, Try.ntmps27
    go_wp2
    go_ret2
    exact .inl ⟨by omega, rfl, rfl⟩
  · by_cases h2 : 1048576 < m
    · go_enter Try.func27, Try.ntmps27
      go_wp2
      go_ret2
      exact .inl ⟨by omega, rfl, rfl⟩
    · go_enter Try.func27, Try.ntmps27
      go_wp2
      go_ret2
      refine .inr ⟨by omega, by omega, fun k => k = w.heap.size, rfl, ⟨.slice none 0 0, [], ⟨Blk.newA w _ _, FOwn.nil _ _, Nat.le_refl _, ⟨by omega, by omega⟩, by simp; omega, ⟨by simp, by omega⟩, fun p hp => (by cases hp)⟩, rfl, ?_, ?_⟩, below1 _ _⟩
      · rintro k (h | h | ⟨p, hp, _⟩)
        · exact h
        · cases h
        · cases hp
      · rintro k rfl
        exact ⟨Nat.le_refl _, (Blk.newA w _ _).lt⟩
end Go.Proofs.Ytcmkdkocponpiaa
