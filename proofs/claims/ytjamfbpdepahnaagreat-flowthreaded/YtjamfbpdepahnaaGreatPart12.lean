import Derived.Test.YtjamfbpdepahnaaGreatPart08
import Derived.Test.YtjamfbpdepahnaaGreatPart07
import Derived.Test.YtjamfbpdepahnaaGreatPart10
import Derived.Maps.AppendAt
import Derived.Laws.OwnMore
namespace Go.Proofs.YtjamfbpdepahnaaGreat
open Go.RowKit
set_option linter.unusedVariables false
set_option linter.unusedSimpArgs false
theorem results_cell_row {P : Program} {fn : Func} {p : Tmp} {ty : TypeId} (h : fn.results = #[.cell p ty]) (tmps : Array Value) (w : World) (g : Nat) (t : TypeId) (cs : Array Value) (fr : Nat × Nat) (d : TypeDesc)
    (hp : tmps.getD p undef = .pointer (some ⟨g, 0, none⟩)) (hg : w.heap[g]? = some (.cells cs t fr))
    (hu : P.underlying ty = some d) (hd : (match d with | .struct _ | .array _ _ => true | _ => false) = true) (hi : (P.info? ty).map (·.size) = some cs.size) :
    (results fn tmps).run P w = .ok (.agg cs) w := by
  have hp' : tmps[p]?.getD undef = .pointer (some ⟨g, 0, none⟩) := by simpa using hp
  simp only [results, h]
  simp [hp', asAddr, run_loadVar_row w g t ty cs fr d hg hu hd hi]
theorem below_drewN {B : Nat} {w w' : World} (h : Below B w w') (q : Nat) : Below B w (w'.drewN q) := ⟨h.os, h.tape, h.output, h.size, h.block⟩
theorem Blk.drewN {w : World} {g : Nat} {t : TypeId} {xs : List Value} (h : Blk w g t xs) (q : Nat) : Blk (w.drewN q) g t xs := h
theorem blk2 (w : World) (xs ys : Array Value) (t t' : TypeId) : Blk ((w.alloc (.cells xs t)).alloc (.cells ys t')) w.heap.size t xs.toList ∧ Blk ((w.alloc (.cells xs t)).alloc (.cells ys t')) (w.heap.size + 1) t' ys.toList := by
  refine ⟨(Blk.newA w xs t).alloc _, ?_⟩
  have := Blk.newA (w.alloc (.cells xs t)) ys t'
  simpa using this
theorem below1 (w : World) (o : Obj) : Below w.heap.size w (w.alloc o) := (Below.refl _ _).alloc (Nat.le_refl _) _
theorem below2 (w : World) (o o' : Obj) : Below w.heap.size w ((w.alloc o).alloc o') := ((Below.refl _ _).alloc (Nat.le_refl _) _).alloc (by simp) _
theorem cell_al (w : World) (o : Obj) (b i : Nat) (h : b < w.heap.size) : (w.alloc o).cell? ⟨b, i, none⟩ = w.cell? ⟨b, i, none⟩ := World.cell?_of_block (Below.heap_alloc w o b h)
theorem own_base {w : World} {B B' n c : Nat} {e : TypeId} {v : Value} {xs : List Value} (h : w.ownsRow B e c v n xs) (hb : B' ≤ B) : w.ownsRow B' e c v n xs := by
  refine ⟨h.1, ?_⟩
  rcases h.2 with h | ⟨g, cap, cur, rfl, hg, rest⟩
  · exact .inl h
  · exact .inr ⟨g, cap, cur, rfl, Nat.le_trans hb hg, rest⟩
theorem below_set {B : Nat} {w w' : World} (h : Below B w w') (b i : Nat) (v : Value) (hb : B ≤ b) : Below B w (w'.setCell ⟨b, i, none⟩ v) := h.setCell hb v
section
variable {α : Type} {c : Nat} {f : α → List Value}
def cellsG (f : α → List Value) (l : List α) : List Value := l.flatMap f
theorem cellsG_app (l r : List α) : cellsG f (l ++ r) = cellsG f l ++ cellsG f r := by simp [cellsG]
theorem cellsG_one (x : α) : cellsG f [x] = f x := by simp [cellsG]
theorem cellsG_len (hf : ∀ x, (f x).length = c) (l : List α) : (cellsG f l).length = l.length * c := by
  induction l with
  | nil => simp [cellsG]
  | cons x l ih =>
    have e : cellsG f (x :: l) = f x ++ cellsG f l := by simp [cellsG]
    rw [e, List.length_append, ih, hf, List.length_cons, Nat.add_mul]
    omega
theorem cellsG_at (hf : ∀ x, (f x).length = c) : ∀ (l : List α) (i j : Nat) (x : α), l[i]? = some x → j < c → (cellsG f l)[i * c + j]? = (f x)[j]?
  | [], i, j, x, h, _ => by simp at h
  | y :: N, 0, j, x, h, hj => by
    simp at h
    subst h
    have e : cellsG f (y :: N) = f y ++ cellsG f N := by simp [cellsG]
    rw [e, List.getElem?_append_left (by rw [hf]; omega)]
    simp
  | y :: N, i + 1, j, x, h, hj => by
    have ih := cellsG_at hf N i j x (by simpa using h) hj
    have e : cellsG f (y :: N) = f y ++ cellsG f N := by simp [cellsG]
    have e2 : (i + 1) * c + j - (f y).length = i * c + j := by rw [hf, Nat.add_mul]; omega
    rw [e, List.getElem?_append_right (by rw [hf, Nat.add_mul]; omega), e2, ih]
def GRow (c : Nat) (f : α → List Value) (w : World) (a : Option Addr) (l : List α) : Prop :=
  l = [] ∨ ∃ b off, a = some ⟨b, off, none⟩ ∧ b < w.heap.size ∧ ∀ (i : Nat) (x : α), l[i]? = some x → ∀ j, j < c → w.cell? ⟨b, off + i * c + j, none⟩ = (f x)[j]?
theorem GRow.nil (w : World) (a : Option Addr) : GRow c f w a [] := .inl rfl
theorem GRow.later {w w' : World} {a : Option Addr} {l : List α} (h : GRow c f w a l) (hB : Below w.heap.size w w') : GRow c f w' a l := by
  rcases h with h | ⟨b, off, rfl, hb, hc⟩
  · exact .inl h
  · exact .inr ⟨b, off, rfl, Nat.lt_of_lt_of_le hb hB.size, fun i x hx j hj => (hB.cell (p := ⟨b, off + i * c + j, none⟩) hb).trans (hc i x hx j hj)⟩
theorem GRow.upd {w w' : World} {a : Option Addr} {l : List α} {S : Nat → Prop} (h : GRow c f w a l) (hu : Upd S w w') (hs : ∀ x, a = some x → ¬ S x.block) : GRow c f w' a l := by
  rcases h with h | ⟨b, off, rfl, hb, hc⟩
  · exact .inl h
  · exact .inr ⟨b, off, rfl, Nat.lt_of_lt_of_le hb hu.size, fun i x hx j hj => by rw [World.cell?_of_block (w := w) (hu.block b hb (hs _ rfl))]; exact hc i x hx j hj⟩
theorem GRow.open {w : World} {a : Option Addr} {l : List α} (h : GRow c f w a l) (hl : 0 < l.length) : ∃ b off, a = some ⟨b, off, none⟩ ∧ b < w.heap.size ∧ ∀ (i : Nat) (x : α), l[i]? = some x → ∀ j, j < c → w.cell? ⟨b, off + i * c + j, none⟩ = (f x)[j]? := by
  rcases h with rfl | h
  · simp at hl
  · exact h
theorem GRow.take {w : World} {a : Option Addr} {l : List α} (h : GRow c f w a l) (m : Nat) : GRow c f w a (l.take m) := by
  rcases h with rfl | ⟨b, off, rfl, hb, hc⟩
  · exact .inl (by simp)
  · refine .inr ⟨b, off, rfl, hb, fun i x hx => ?_⟩
    rw [List.getElem?_take] at hx
    split at hx
    · exact hc i x hx
    · cases hx
theorem own_grow {e : TypeId} {w : World} {B : Nat} {v : Value} {l : List α} (hf : ∀ x, (f x).length = c) (h : w.ownsRow B e c v l.length (cellsG f l)) : ∃ a cap, v = .slice a l.length cap ∧ l.length ≤ cap ∧ (a = none → cap = 0) ∧ GRow c f w a l := by
  rcases Nat.eq_zero_or_pos l.length with h0 | h0
  · have hN : l = [] := List.eq_nil_of_length_eq_zero h0
    subst hN
    rcases h.2 with ⟨rfl, _⟩ | ⟨g, cap, cur, rfl, hb, hg, hnc, _⟩
    · exact ⟨none, 0, rfl, Nat.le_refl _, fun _ => rfl, .inl rfl⟩
    · exact ⟨_, cap, rfl, by simp, fun h => (by cases h), .inl rfl⟩
  · obtain ⟨g, cap, ys, rfl, hb, hn, hm, hl, ht, hK⟩ := ownS_blk h h0
    refine ⟨_, cap, rfl, hn, fun h => (by cases h), .inr ⟨g, 0, rfl, hK.lt, fun i x hx j hj => ?_⟩⟩
    have hi := (List.getElem?_eq_some_iff.1 hx).1
    have hlt : i * c + j < l.length * c := by
      have h1 : i * c + c ≤ l.length * c := by rw [← Nat.succ_mul]; exact Nat.mul_le_mul_right c hi
      omega
    rw [hK.cell, ← cellsG_at hf l i j x hx hj, ← ht, List.getElem?_take, if_pos hlt, Nat.zero_add]
theorem blk_grow {e : TypeId} {w : World} {g : Nat} {l : List α} (hf : ∀ x, (f x).length = c) (h : Blk w g e (cellsG f l)) : GRow c f w (some ⟨g, 0, none⟩) l := by
  refine .inr ⟨g, 0, rfl, h.lt, fun i x hx j hj => ?_⟩
  rw [h.cell, ← cellsG_at hf l i j x hx hj, Nat.zero_add]
end
set_option maxRecDepth 100000 in
theorem run_copyG {α : Type} {c : Nat} {f : α → List Value} {P : Program} {t e : TypeId} {z : Value} {bytes : Nat} (hf : ∀ x, (f x).length = c) (hone : ∀ x, ∀ u ∈ f x, u.oneCell' = true) (ht : P.underlying t = some (.slice e)) (hinfo : (P.info? e).map (fun i => (i.zero, i.size, i.bytes)) = some (some z, c, bytes)) (hzs : z.cells.size = c) (hc : 0 < c)
    (w : World) (a : Option Addr) (n cap : Nat) (l : List α) (hn : l.length = n) (hr : GRow c f w a l) (hnil : a = none → cap = 0) (h63 : n ≤ maxLen) (hl : n * bytes ≤ 140737488355328) :
    ∃ v' w', (Builtin.append_ #[t, t] t #[.slice none 0 0, .slice a n cap]).run P w = .ok v' w' ∧ w'.ownsRow w.heap.size e c v' n (cellsG f l) ∧ Below w.heap.size w w' := by
  subst hn
  have hall : ∀ u ∈ cellsG f l, u.oneCell' = true := fun u hu => by
    simp only [cellsG, List.mem_flatMap] at hu
    obtain ⟨x, _, hx⟩ := hu
    exact hone x u hx
  obtain ⟨i0, hi, hz0, hz1, hz2⟩ := info_parts hinfo
  rcases hr with rfl | ⟨b, off, rfl, hb, hcl⟩
  · cases a with
    | none =>
      obtain rfl := hnil rfl
      exact ⟨_, w, run_append_owned_none (P := P) w w.heap.size t t e i0 c ht hi (.slice none 0 0) 0 [] (World.ownsRow_nil _ _ _ _), World.ownsRow_nil _ _ _ _, Below.refl _ _⟩
    | some x =>
      obtain ⟨v', w', hrun, h2, h3, h4, h5⟩ := run_append_own_at (P := P) w w.heap.size t t e i0 z c bytes ht hi hz0 hz1 hz2 hzs hc (.slice none 0 0) 0 [] (World.ownsRow_nil _ _ _ _) x 0 cap [] (by simp) (fun j u hj => by simp at hj) (fun u hu => by cases hu) (by unfold maxLen; omega) (by omega) (Nat.le_refl _)
      have hg := (Upd.refl (fun _ => False) w).grown h3 (fun k hk => by cases hk)
      simp only [List.append_nil, Nat.add_zero] at h2
      exact ⟨v', w', by simpa using hrun, by simpa [cellsG] using h2, hg.below w.heap.size (Nat.le_refl _) (fun k hk => hk.elim)⟩
  · have hcell : ∀ j u, (cellsG f l)[j]? = some u → w.cell? ((⟨b, off, none⟩ : Addr).add j) = some u := fun j u hj => by
      have hlt := (List.getElem?_eq_some_iff.1 hj).1
      rw [cellsG_len hf] at hlt
      have hi : j / c < l.length := Nat.div_lt_of_lt_mul (by rw [Nat.mul_comm]; exact hlt)
      have hx : l[j / c]? = some (l[j / c]'hi) := List.getElem?_eq_getElem hi
      have h1 := hcl (j / c) _ hx (j % c) (Nat.mod_lt _ hc)
      have h2 := cellsG_at hf l (j / c) (j % c) _ hx (Nat.mod_lt _ hc)
      have e : j / c * c + j % c = j := by rw [Nat.mul_comm]; exact Nat.div_add_mod j c
      rw [e] at h2
      rw [add_none, ← hj, h2, ← h1]
      congr 2
      omega
    obtain ⟨v', w', hrun, h2, h3, h4, h5⟩ := run_append_own_at (P := P) w w.heap.size t t e i0 z c bytes ht hi hz0 hz1 hz2 hzs hc (.slice none 0 0) 0 [] (World.ownsRow_nil _ _ _ _) ⟨b, off, none⟩ l.length cap (cellsG f l) (cellsG_len hf l) hcell hall (by omega) (by rw [Nat.zero_add]; exact hl) (Nat.le_refl _)
    rw [Nat.zero_add, List.nil_append] at h2
    have hg := (Upd.refl (fun _ => False) w).grown h3 (fun k hk => by cases hk)
    exact ⟨v', w', hrun, h2, hg.below _ (Nat.le_refl _) (fun k hk => hk.elim)⟩
theorem cellsG_set {α : Type} {c : Nat} {f : α → List Value} (hf : ∀ x, (f x).length = c) : ∀ (l : List α) (i : Nat) (x : α), i < l.length → ∀ m, (cellsG f (l.set i x))[m]? = if i * c ≤ m ∧ m < i * c + c then (f x)[m - i * c]? else (cellsG f l)[m]?
  | [], i, x, h, _ => by simp at h
  | y :: l, 0, x, _, m => by
    have e1 : cellsG f ((y :: l).set 0 x) = f x ++ cellsG f l := by simp [cellsG]
    have e2 : cellsG f (y :: l) = f y ++ cellsG f l := by simp [cellsG]
    rw [e1, e2]
    rcases Nat.lt_or_ge m c with hm | hm
    · rw [if_pos (by omega), List.getElem?_append_left (by rw [hf]; exact hm)]
      simp
    · rw [if_neg (by omega), List.getElem?_append_right (by rw [hf]; exact hm), List.getElem?_append_right (by rw [hf]; exact hm), hf, hf]
  | y :: l, i + 1, x, h, m => by
    have ih := cellsG_set hf l i x (by simpa using h) (m - c)
    have e1 : cellsG f ((y :: l).set (i + 1) x) = f y ++ cellsG f (l.set i x) := by simp [cellsG]
    have e2 : cellsG f (y :: l) = f y ++ cellsG f l := by simp [cellsG]
    rw [e1, e2, Nat.add_mul, Nat.one_mul]
    rcases Nat.lt_or_ge m c with hm | hm
    · rw [if_neg (by omega), List.getElem?_append_left (by rw [hf]; exact hm), List.getElem?_append_left (by rw [hf]; exact hm)]
    · rw [List.getElem?_append_right (by rw [hf]; exact hm), List.getElem?_append_right (by rw [hf]; exact hm), hf, ih]
      by_cases hc : i * c + c ≤ m ∧ m < i * c + c + c
      · rw [if_pos hc, if_pos (by omega), show m - c - i * c = m - (i * c + c) by omega]
      · rw [if_neg hc, if_neg (by omega)]
end Go.Proofs.YtjamfbpdepahnaaGreat
