/- Raise: instructions of the call's own; the program under way, and what lays behind it. -/
import Derived.Test.YtncndgfaalojpaaZcp
import Derived.Test.YtncndgfaalojpaaIo
namespace Go.Proofs.Ytncndgfaalojpaa
open Go.RowKit
set_option linter.unusedVariables false

structure In where
  op : Int
  a : Int
  b : Int
  c : Int
def in0 : In := ⟨0, 0, 0, 0⟩
theorem In.ext' {x y : In} (h0 : x.op = y.op) (h1 : x.a = y.a) (h2 : x.b = y.b) (h3 : x.c = y.c) : x = y := by cases x; cases y; simp_all
def inc (x : In) : List Value := [.int .i64 x.op, .int .i64 x.a, .int .i64 x.b, .int .i64 x.c]
theorem inc_len (x : In) : (inc x).length = 4 := rfl
abbrev IRow (w : World) (a : Option Addr) (l : List In) : Prop := GRow 4 inc w a l
theorem IRow.at {w : World} {b off : Nat} {l : List In} (h : IRow w (some ⟨b, off, none⟩) l) {i : Nat} {x : In} (hx : l[i]? = some x) :
    w.cell? ⟨b, off + i * 4, none⟩ = some (.int .i64 x.op) ∧ w.cell? ⟨b, off + i * 4 + 1, none⟩ = some (.int .i64 x.a) ∧ w.cell? ⟨b, off + i * 4 + 2, none⟩ = some (.int .i64 x.b) ∧ w.cell? ⟨b, off + i * 4 + 3, none⟩ = some (.int .i64 x.c) := by
  rcases h with h | ⟨b', o', e, hb, hc⟩
  · rw [h] at hx; simp at hx
  · injection e with e
    injection e with e1 e2 _
    subst e1 e2
    have h := hc i x hx
    exact ⟨h 0 (by decide), h 1 (by decide), h 2 (by decide), h 3 (by decide)⟩
/-- Instructions of the call's own. -/
def COwn (w : World) (B : Nat) (v : Value) (l : List In) : Prop := w.ownsRow B 35 4 v l.length (cellsG inc l)
theorem COwn.upd {w w' : World} {B : Nat} {v : Value} {l : List In} {S : Nat → Prop} (h : COwn w B v l) (hu : Upd S w w') (hs : ∀ k, v.ownBlock = some k → ¬ S k) : COwn w' B v l := ownS_upd h hu hs
theorem COwn.later {w w' : World} {B : Nat} {v : Value} {l : List In} (h : COwn w B v l) (hB : Below w.heap.size w w') : COwn w' B v l := ownS_upd h (Upd.of_below (S := fun _ => False) hB) (fun _ _ h => h)
theorem COwn.nil (w : World) (B : Nat) : COwn w B (.slice none 0 0) [] := World.ownsRow_nil _ _ _ _
theorem COwn.row {w : World} {B : Nat} {v : Value} {l : List In} (h : COwn w B v l) : ∃ a c, v = .slice a l.length c ∧ l.length ≤ c ∧ (a = none → c = 0) ∧ IRow w a l := own_grow inc_len h
theorem COwn.lies {w : World} {B : Nat} {v : Value} {l : List In} (h : COwn w B v l) {k : Nat} (hk : v.ownBlock = some k) : B ≤ k ∧ k < w.heap.size := h.lt k hk
theorem IOwn.rowS {w : World} {l : List Int} {B n c : Nat} {a : Option Addr} (h : IOwn w B (.slice a n c) l) : Row .i64 w a l := by
  obtain ⟨a', c', e, hr, -, -⟩ := h.row
  injection e with e _ _
  subst e
  exact hr
theorem COwn.rowS {w : World} {l : List In} {B n c : Nat} {a : Option Addr} (h : COwn w B (.slice a n c) l) : IRow w a l := by
  obtain ⟨a', c', e, -, -, hr⟩ := h.row
  injection e with e _ _
  subst e
  exact hr
theorem inc_one (x : In) : ∀ u ∈ inc x, u.oneCell' = true := fun u hu => by
  simp [inc] at hu
  rcases hu with rfl | rfl | rfl | rfl <;> rfl
theorem infoIn : (Try.prog.info? 35).map (fun i => (i.zero, i.size, i.bytes)) = some (some (.agg #[.int .i64 0, .int .i64 0, .int .i64 0, .int .i64 0]), 4, 32) := by kernel_rfl
theorem COwn.push {w : World} {B : Nat} {v : Value} {l : List In} (h : COwn w B v l) (x : In) (hl : l.length ≤ 1000000000) (hB : B ≤ w.heap.size) :
    ∃ g cap w', (Builtin.append_ #[27, 27] 27 #[v, .slice (some ⟨w.heap.size, 0, none⟩) 1 1]).run Try.prog (w.alloc (.cells #[.int .i64 x.op, .int .i64 x.a, .int .i64 x.b, .int .i64 x.c] 35)) = .ok (.slice (some ⟨g, 0, none⟩) (l.length + 1) cap) w' ∧
      COwn w' B (.slice (some ⟨g, 0, none⟩) (l.length + 1) cap) (l ++ [x]) ∧ Upd (fun k => v.ownBlock = some k) w w' ∧ (v.ownBlock = some g ∨ w.heap.size ≤ g) := by
  obtain ⟨g, cap, w', h1, h2, h3, h4⟩ := run_pushS (P := Try.prog) (t := 27) (e := 35) (c := 4) Try.underlying27 infoIn rfl (by decide) w 27 h (inc x) rfl (inc_one x) (by unfold maxLen; omega) (by omega) hB
  refine ⟨g, cap, w', h1, ?_, h3, h4⟩
  unfold COwn
  rw [cellsG_app, cellsG_one, List.length_append, List.length_singleton]
  exact h2
theorem blk_one {w : World} {g : Nat} {t t' : TypeId} {xs ys : List Value} (h : Blk w g t xs) (h' : Blk w g t' ys) : xs = ys := by
  unfold Blk at h h'
  rw [h] at h'
  injection h' with h'
  injection h' with h' _ _
  simpa using h'
theorem notI {w : World} {B g : Nat} {u : Value} {l : List Int} {t : TypeId} {ys : List Value} (h : IOwn w B u l) (hb : Blk w g t ys) (ht : t ≠ 3) : ¬ u.ownBlock = some g := fun e => by
  obtain ⟨zs, hz⟩ := ownS_type h e
  exact ht (blk_type hb hz)
theorem notC {w : World} {B g : Nat} {u : Value} {l : List In} {t : TypeId} {ys : List Value} (h : COwn w B u l) (hb : Blk w g t ys) (ht : t ≠ 35) : ¬ u.ownBlock = some g := fun e => by
  obtain ⟨zs, hz⟩ := ownS_type h e
  exact ht (blk_type hb hz)
theorem notIC {w : World} {B B' : Nat} {u u' : Value} {l : List Int} {l' : List In} (h : IOwn w B u l) (h' : COwn w B' u' l') (k : Nat) (e : u.ownBlock = some k) : ¬ u'.ownBlock = some k := fun e' => by
  obtain ⟨zs, hz⟩ := ownS_type h e
  exact notC h' hz (by decide) e'
theorem row_setc {α : Type} {c : Nat} {f : α → List Value} (hf : ∀ x, (f x).length = c) {w : World} {B g n cap i j : Nat} {e : TypeId} {l : List α} {x : α} (h : w.ownsRow B e c (.slice (some ⟨g, 0, none⟩) n cap) l.length (cellsG f l)) (hx : l[i]? = some x) (y : α) (u : Value) (hj : j < c) (hy : f y = (f x).set j u) :
    (w.setCell ⟨g, i * c + j, none⟩ u).ownsRow B e c (.slice (some ⟨g, 0, none⟩) n cap) (l.set i y).length (cellsG f (l.set i y)) := by
  have hi := (List.getElem?_eq_some_iff.1 hx).1
  obtain ⟨g', cap', ys, e, hb, hn, hm, hys, ht, hk⟩ := ownS_blk h (by omega)
  injection e with e1 e2 e3
  injection e1 with e1
  injection e1 with e1 _ _
  subst e1 e2 e3
  have hk2 := hk.set (i * c + j) u
  have h2 := ownS_of_blk (B := B) (n := l.length) (c := c) (cap := cap) hk2 hb (by simp [hys]) hn hm
  have hic : i * c + c ≤ l.length * c := by rw [← Nat.succ_mul]; exact Nat.mul_le_mul_right c hi
  have e4 : (ys.set (i * c + j) u).take (l.length * c) = cellsG f (l.set i y) := by
    apply List.ext_getElem?
    intro q
    by_cases hq : q < l.length * c
    · rw [row_set_at hf l i y hi q hq, List.getElem?_take, if_pos hq, ← ht]
      have hqy : q < ys.length := by rw [hys]; exact Nat.lt_of_lt_of_le hq (Nat.mul_le_mul_right c hn)
      by_cases h0 : q = i * c + j
      · subst h0
        rw [if_pos (by omega), List.getElem?_set_self hqy, hy, Nat.add_sub_cancel_left, List.getElem?_set_self (by rw [hf]; exact hj)]
      · rw [List.getElem?_set_ne (fun h => h0 h.symm)]
        by_cases h1 : i * c ≤ q ∧ q < i * c + c
        · rw [if_pos h1, hy, List.getElem?_set_ne (by omega)]
          have h3 := cellsG_at hf l i (q - i * c) x hx (by omega)
          rw [show i * c + (q - i * c) = q by omega] at h3
          rw [← h3, ← ht, List.getElem?_take, if_pos hq]
        · rw [if_neg h1, List.getElem?_take, if_pos hq]
    · rw [List.getElem?_eq_none (by simp; omega), List.getElem?_eq_none (by rw [cellsG_len hf]; simp; omega)]
  rw [List.length_set, ← e4]
  exact h2
/-- The target of an instruction of the call's own is written over. -/
theorem COwn.setB {w : World} {B g n cap i : Nat} {l : List In} {x : In} (h : COwn w B (.slice (some ⟨g, 0, none⟩) n cap) l) (hx : l[i]? = some x) (y : Int) : COwn (w.setCell ⟨g, i * 4 + 2, none⟩ (.int .i64 y)) B (.slice (some ⟨g, 0, none⟩) n cap) (l.set i ⟨x.op, x.a, y, x.c⟩) :=
  row_setc inc_len h hx ⟨x.op, x.a, y, x.c⟩ (.int .i64 y) (j := 2) (by decide) rfl
/-! ### What the calls may change -/
def own3 (t : TypeId) : Prop := t = 30 ∨ t = 35 ∨ t = 3
/-- Blocks of the program's kinds that lie behind B, and what is new. -/
def Kp (B : Nat) (w w' : World) : Prop := Upd (fun k => B ≤ k ∧ ∃ t xs, Blk w k t xs ∧ own3 t) w w'
theorem Kp.refl (B : Nat) (w : World) : Kp B w w := Upd.refl _ w
theorem Kp.trans {B : Nat} {a b c : World} (h : Kp B a b) (g : Kp B b c) : Kp B a c := Upd.trans h g (fun k hk ⟨h1, t, xs, h2, h3⟩ => by
  by_cases hS : B ≤ k ∧ ∃ t xs, Blk a k t xs ∧ own3 t
  · exact hS
  · have e := h.block k hk hS
    exact ⟨h1, t, xs, h2.of_eq e.symm, h3⟩)
theorem Kp.later {B : Nat} {w w' : World} (h : Below w.heap.size w w') : Kp B w w' := Upd.of_below h
theorem Kp.then {B : Nat} {a b c : World} (h : Kp B a b) (g : Below b.heap.size b c) : Kp B a c := h.trans (Kp.later g)
theorem Kp.size {B : Nat} {w w' : World} (h : Kp B w w') : w.heap.size ≤ w'.heap.size := Upd.size h
theorem Kp.below {B : Nat} {w w' : World} (h : Kp B w w') (hB : B ≤ w.heap.size) : Below B w w' := Upd.below h B hB (fun k hk => hk.1)
theorem Kp.blk {B g : Nat} {w w' : World} {t : TypeId} {xs : List Value} (h : Kp B w w') (hb : Blk w g t xs) (ht : ¬ own3 t) : Blk w' g t xs := hb.upd h (fun ⟨_, t', ys, h2, h3⟩ => ht (by rw [blk_type hb h2]; exact h3))
/-! ### The program under way -/
def fnL (gb : Nat) : Value := .func (.func 23) #[] #[.pointer (some ⟨gb, 0, none⟩)]
structure Rz (w : World) (B gr gp gb : Nat) (vT vL : Value) (C : List In) (E : List Int) : Prop where
  lp : B ≤ gp
  br : Blk w gr 55 [vT, vL, fnL gb]
  bb : Blk w gb 53 [.pointer (some ⟨gp, 0, none⟩)]
  bp : ∃ vC vE, Blk w gp 30 [.bool true, vC, vE] ∧ COwn w B vC C ∧ IOwn w B vE E
section
variable {w w' : World} {B gr gp gb : Nat} {vT vL : Value} {C : List In} {E : List Int}
theorem Rz.lt (h : Rz w B gr gp gb vT vL C E) : gp < w.heap.size := by obtain ⟨_, _, hk, _⟩ := h.bp; exact hk.lt
theorem Rz.base (h : Rz w B gr gp gb vT vL C E) : B ≤ w.heap.size := by have := h.lt; have := h.lp; omega
theorem Rz.later (h : Rz w B gr gp gb vT vL C E) (hB : Below w.heap.size w w') : Rz w' B gr gp gb vT vL C E := by
  obtain ⟨vC, vE, hk, hc, he⟩ := h.bp
  exact ⟨h.lp, h.br.later hB, h.bb.later hB, vC, vE, hk.later hB, hc.later hB, he.later hB⟩
/-- An instruction more. -/
theorem Rz.push (h : Rz w B gr gp gb vT vL C E) (x : In) (hl : C.length ≤ 1000000000) : ∃ a c vE g cap w', Blk w gp 30 [.bool true, .slice a C.length c, vE] ∧ (Builtin.append_ #[27, 27] 27 #[.slice a C.length c, .slice (some ⟨w.heap.size, 0, none⟩) 1 1]).run Try.prog (w.alloc (.cells #[.int .i64 x.op, .int .i64 x.a, .int .i64 x.b, .int .i64 x.c] 35)) = .ok (.slice (some ⟨g, 0, none⟩) (C.length + 1) cap) w' ∧ Blk w' gp 30 [.bool true, .slice a C.length c, vE] ∧ Rz (w'.setCell ⟨gp, 1, none⟩ (.slice (some ⟨g, 0, none⟩) (C.length + 1) cap)) B gr gp gb vT vL (C ++ [x]) E ∧ Kp B w (w'.setCell ⟨gp, 1, none⟩ (.slice (some ⟨g, 0, none⟩) (C.length + 1) cap)) ∧ Upd (fun k => (Value.slice a C.length c).ownBlock = some k) w w' := by
  obtain ⟨vC, vE, hk, hc, he⟩ := h.bp
  obtain ⟨a, c, rfl, _⟩ := hc.row
  obtain ⟨g, cap, w', h1, h2, h3, h4⟩ := hc.push x hl h.base
  have hkb : Blk w' gp 30 [.bool true, .slice a C.length c, vE] := hk.upd h3 (fun e => notC hc hk (by decide) e)
  have hu : Upd (fun k => k = gp ∨ (Value.slice a C.length c).ownBlock = some k) w (w'.setCell ⟨gp, 1, none⟩ (.slice (some ⟨g, 0, none⟩) (C.length + 1) cap)) := (h3.mono (fun k _ e => .inr e)).set _ _ (.inl (.inl rfl))
  have hS : ∀ k, (k = gp ∨ (Value.slice a C.length c).ownBlock = some k) → ∃ t xs, Blk w k t xs ∧ (t = 30 ∨ t = 35) := fun k hs => by
    rcases hs with rfl | hs
    · exact ⟨_, _, hk, .inl rfl⟩
    · obtain ⟨ys, hy⟩ := ownS_type hc hs
      exact ⟨_, ys, hy, .inr rfl⟩
  refine ⟨a, c, vE, g, cap, w', hk, h1, hkb, ⟨h.lp, ?_, ?_, .slice (some ⟨g, 0, none⟩) (C.length + 1) cap, vE, ?_, ?_, ?_⟩, ?_, h3⟩
  · exact h.br.upd hu (fun hs => by
      obtain ⟨t, xs, hb, ht⟩ := hS _ hs
      have e := blk_type h.br hb
      rcases ht with rfl | rfl <;> exact absurd e (by decide))
  · exact h.bb.upd hu (fun hs => by
      obtain ⟨t, xs, hb, ht⟩ := hS _ hs
      have e := blk_type h.bb hb
      rcases ht with rfl | rfl <;> exact absurd e (by decide))
  · have := hkb.set 1 (.slice (some ⟨g, 0, none⟩) (C.length + 1) cap)
    simpa using this
  · exact ownS_upd h2 ((Upd.refl (fun k => k = gp) w').set _ _ (.inl rfl)) (fun k e hk => by subst hk; exact notC h2 hkb (by decide) e)
  · exact he.upd hu (fun k e hs => by
      obtain ⟨t, xs, hb, ht⟩ := hS _ hs
      refine notI he hb ?_ e
      rcases ht with rfl | rfl <;> decide)
  · exact Upd.mono hu (fun k _ hs => by
      obtain ⟨t, xs, hb, ht⟩ := hS k hs
      refine ⟨?_, t, xs, hb, ?_⟩
      · rcases hs with rfl | hs
        · exact h.lp
        · exact (hc.lies hs).1
      · rcases ht with rfl | rfl
        · exact .inl rfl
        · exact .inr (.inl rfl))
/-- An entry more. -/
theorem Rz.entry (h : Rz w B gr gp gb vT vL C E) (x : Int) (hl : E.length ≤ 1000000000) : ∃ a c vC g cap w', Blk w gp 30 [.bool true, vC, .slice a E.length c] ∧ (∃ a' c', vC = .slice a' C.length c') ∧ (Builtin.append_ #[28, 28] 28 #[.slice a E.length c, .slice (some ⟨w.heap.size, 0, none⟩) 1 1]).run Try.prog (w.alloc (.cells #[.int .i64 x] 3)) = .ok (.slice (some ⟨g, 0, none⟩) (E.length + 1) cap) w' ∧ Blk w' gp 30 [.bool true, vC, .slice a E.length c] ∧ Rz (w'.setCell ⟨gp, 2, none⟩ (.slice (some ⟨g, 0, none⟩) (E.length + 1) cap)) B gr gp gb vT vL C (E ++ [x]) ∧ Kp B w (w'.setCell ⟨gp, 2, none⟩ (.slice (some ⟨g, 0, none⟩) (E.length + 1) cap)) := by
  obtain ⟨vC, vE, hk, hc, he⟩ := h.bp
  obtain ⟨a, c, rfl⟩ := he.slice
  obtain ⟨g, cap, w', h1, h2, h3, h4⟩ := he.push x (by omega) h.base
  have hkb : Blk w' gp 30 [.bool true, vC, .slice a E.length c] := hk.upd h3 (fun e => notI he hk (by decide) e)
  have hu : Upd (fun k => k = gp ∨ (Value.slice a E.length c).ownBlock = some k) w (w'.setCell ⟨gp, 2, none⟩ (.slice (some ⟨g, 0, none⟩) (E.length + 1) cap)) := (h3.mono (fun k _ e => .inr e)).set _ _ (.inl (.inl rfl))
  have hS : ∀ k, (k = gp ∨ (Value.slice a E.length c).ownBlock = some k) → ∃ t xs, Blk w k t xs ∧ (t = 30 ∨ t = 3) := fun k hs => by
    rcases hs with rfl | hs
    · exact ⟨_, _, hk, .inl rfl⟩
    · obtain ⟨ys, hy⟩ := ownS_type he hs
      exact ⟨_, ys, hy, .inr rfl⟩
  have hcr := hc.row
  obtain ⟨a', c', hvc, _⟩ := hcr
  refine ⟨a, c, vC, g, cap, w', hk, ⟨a', c', hvc⟩, h1, hkb, ⟨h.lp, ?_, ?_, vC, .slice (some ⟨g, 0, none⟩) (E.length + 1) cap, ?_, ?_, ?_⟩, ?_⟩
  · exact h.br.upd hu (fun hs => by
      obtain ⟨t, xs, hb, ht⟩ := hS _ hs
      have e := blk_type h.br hb
      rcases ht with rfl | rfl <;> exact absurd e (by decide))
  · exact h.bb.upd hu (fun hs => by
      obtain ⟨t, xs, hb, ht⟩ := hS _ hs
      have e := blk_type h.bb hb
      rcases ht with rfl | rfl <;> exact absurd e (by decide))
  · have := hkb.set 2 (.slice (some ⟨g, 0, none⟩) (E.length + 1) cap)
    simpa using this
  · exact hc.upd hu (fun k e hs => by
      obtain ⟨t, xs, hb, ht⟩ := hS _ hs
      refine notC hc hb ?_ e
      rcases ht with rfl | rfl <;> decide)
  · exact h2.upd ((Upd.refl (fun k => k = gp) w').set _ _ (.inl rfl)) (fun k e hs => by subst hs; exact notI h2 hkb (by decide) e)
  · exact Upd.mono hu (fun k _ hs => by
      obtain ⟨t, xs, hb, ht⟩ := hS k hs
      refine ⟨?_, t, xs, hb, ?_⟩
      · rcases hs with rfl | hs
        · exact h.lp
        · exact (he.lies hs).1
      · rcases ht with rfl | rfl
        · exact .inl rfl
        · exact .inr (.inr rfl))
end
end Go.Proofs.Ytncndgfaalojpaa
