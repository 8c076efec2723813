/- Lower: instructions of the call's own; the builder and its marks in memory. -/
import Derived.Test.YtepmgbfdmbogiaaZcp
import Derived.Test.YtepmgbfdmbogiaaIo
namespace Go.Proofs.Ytepmgbfdmbogiaa
open Go.RowKit
set_option linter.unusedVariables false

structure In where
  op : Int
  a : Int
  b : Int
  c : Int
def in0 : In := ⟨0, 0, 0, 0⟩
theorem In.ext' {x y : In} (h0 : x.op = y.op) (h1 : x.a = y.a) (h2 : x.b = y.b) (h3 : x.c = y.c) : x = y := by cases x; cases y; simp_all
def inc (x : In) : List Value := [.int .i64 x.op, .int .i64 x.a, .int .i64 x.b, .int .i64 x.c]
theorem inc_len (x : In) : (inc x).length = 4 := rfl
abbrev IRow (w : World) (a : Option Addr) (l : List In) : Prop := GRow 4 inc w a l
theorem IRow.at {w : World} {b off : Nat} {l : List In} (h : IRow w (some ⟨b, off, none⟩) l) {i : Nat} {x : In} (hx : l[i]? = some x) :
    w.cell? ⟨b, off + i * 4, none⟩ = some (.int .i64 x.op) ∧ w.cell? ⟨b, off + i * 4 + 1, none⟩ = some (.int .i64 x.a) ∧ w.cell? ⟨b, off + i * 4 + 2, none⟩ = some (.int .i64 x.b) ∧ w.cell? ⟨b, off + i * 4 + 3, none⟩ = some (.int .i64 x.c) := by
  rcases h with h | ⟨b', o', e, hb, hc⟩
  · rw [h] at hx; simp at hx
  · injection e with e
    injection e with e1 e2 _
    subst e1 e2
    have h := hc i x hx
    exact ⟨h 0 (by decide), h 1 (by decide), h 2 (by decide), h 3 (by decide)⟩
/-- Instructions of the call's own. -/
def COwn (w : World) (B : Nat) (v : Value) (l : List In) : Prop := w.ownsRow B 40 4 v l.length (cellsG inc l)
theorem COwn.upd {w w' : World} {B : Nat} {v : Value} {l : List In} {S : Nat → Prop} (h : COwn w B v l) (hu : Upd S w w') (hs : ∀ k, v.ownBlock = some k → ¬ S k) : COwn w' B v l := ownS_upd h hu hs
theorem COwn.later {w w' : World} {B : Nat} {v : Value} {l : List In} (h : COwn w B v l) (hB : Below w.heap.size w w') : COwn w' B v l := ownS_upd h (Upd.of_below (S := fun _ => False) hB) (fun _ _ h => h)
theorem COwn.nil (w : World) (B : Nat) : COwn w B (.slice none 0 0) [] := World.ownsRow_nil _ _ _ _
theorem COwn.row {w : World} {B : Nat} {v : Value} {l : List In} (h : COwn w B v l) : ∃ a c, v = .slice a l.length c ∧ l.length ≤ c ∧ (a = none → c = 0) ∧ IRow w a l := own_grow inc_len h
theorem COwn.lies {w : World} {B : Nat} {v : Value} {l : List In} (h : COwn w B v l) {k : Nat} (hk : v.ownBlock = some k) : B ≤ k ∧ k < w.heap.size := h.lt k hk
theorem IOwn.rowS {w : World} {l : List Int} {B n c : Nat} {a : Option Addr} (h : IOwn w B (.slice a n c) l) : Row .i64 w a l := by
  obtain ⟨a', c', e, hr, -, -⟩ := h.row
  injection e with e _ _
  subst e
  exact hr
theorem COwn.rowS {w : World} {l : List In} {B n c : Nat} {a : Option Addr} (h : COwn w B (.slice a n c) l) : IRow w a l := by
  obtain ⟨a', c', e, -, -, hr⟩ := h.row
  injection e with e _ _
  subst e
  exact hr
theorem inc_one (x : In) : ∀ u ∈ inc x, u.oneCell' = true := fun u hu => by
  simp [inc] at hu
  rcases hu with rfl | rfl | rfl | rfl <;> rfl
theorem infoIn : (Try.prog.info? 40).map (fun i => (i.zero, i.size, i.bytes)) = some (some (.agg #[.int .i64 0, .int .i64 0, .int .i64 0, .int .i64 0]), 4, 32) := by kernel_rfl
theorem COwn.push {w : World} {B : Nat} {v : Value} {l : List In} (h : COwn w B v l) (x : In) (hl : l.length ≤ 1000000000) (hB : B ≤ w.heap.size) :
    ∃ g cap w', (Builtin.append_ #[28, 28] 28 #[v, .slice (some ⟨w.heap.size, 0, none⟩) 1 1]).run Try.prog (w.alloc (.cells #[.int .i64 x.op, .int .i64 x.a, .int .i64 x.b, .int .i64 x.c] 40)) = .ok (.slice (some ⟨g, 0, none⟩) (l.length + 1) cap) w' ∧
      COwn w' B (.slice (some ⟨g, 0, none⟩) (l.length + 1) cap) (l ++ [x]) ∧ Upd (fun k => v.ownBlock = some k) w w' ∧ (v.ownBlock = some g ∨ w.heap.size ≤ g) := by
  obtain ⟨g, cap, w', h1, h2, h3, h4⟩ := run_pushS (P := Try.prog) (t := 28) (e := 40) (c := 4) Try.underlying28 infoIn rfl (by decide) w 28 h (inc x) rfl (inc_one x) (by unfold maxLen; omega) (by omega) hB
  refine ⟨g, cap, w', h1, ?_, h3, h4⟩
  unfold COwn
  rw [cellsG_app, cellsG_one, List.length_append, List.length_singleton]
  exact h2
theorem blk_one {w : World} {g : Nat} {t t' : TypeId} {xs ys : List Value} (h : Blk w g t xs) (h' : Blk w g t' ys) : xs = ys := by
  unfold Blk at h h'
  rw [h] at h'
  injection h' with h'
  injection h' with h' _ _
  simpa using h'
theorem notI {w : World} {B g : Nat} {u : Value} {l : List Int} {t : TypeId} {ys : List Value} (h : IOwn w B u l) (hb : Blk w g t ys) (ht : t ≠ 3) : ¬ u.ownBlock = some g := fun e => by
  obtain ⟨zs, hz⟩ := ownS_type h e
  exact ht (blk_type hb hz)
theorem notC {w : World} {B g : Nat} {u : Value} {l : List In} {t : TypeId} {ys : List Value} (h : COwn w B u l) (hb : Blk w g t ys) (ht : t ≠ 40) : ¬ u.ownBlock = some g := fun e => by
  obtain ⟨zs, hz⟩ := ownS_type h e
  exact ht (blk_type hb hz)
theorem notIC {w : World} {B B' : Nat} {u u' : Value} {l : List Int} {l' : List In} (h : IOwn w B u l) (h' : COwn w B' u' l') (k : Nat) (e : u.ownBlock = some k) : ¬ u'.ownBlock = some k := fun e' => by
  obtain ⟨zs, hz⟩ := ownS_type h e
  exact notC h' hz (by decide) e'
theorem row_setc {α : Type} {c : Nat} {f : α → List Value} (hf : ∀ x, (f x).length = c) {w : World} {B g n cap i j : Nat} {e : TypeId} {l : List α} {x : α} (h : w.ownsRow B e c (.slice (some ⟨g, 0, none⟩) n cap) l.length (cellsG f l)) (hx : l[i]? = some x) (y : α) (u : Value) (hj : j < c) (hy : f y = (f x).set j u) :
    (w.setCell ⟨g, i * c + j, none⟩ u).ownsRow B e c (.slice (some ⟨g, 0, none⟩) n cap) (l.set i y).length (cellsG f (l.set i y)) := by
  have hi := (List.getElem?_eq_some_iff.1 hx).1
  obtain ⟨g', cap', ys, e, hb, hn, hm, hys, ht, hk⟩ := ownS_blk h (by omega)
  injection e with e1 e2 e3
  injection e1 with e1
  injection e1 with e1 _ _
  subst e1 e2 e3
  have hk2 := hk.set (i * c + j) u
  have h2 := ownS_of_blk (B := B) (n := l.length) (c := c) (cap := cap) hk2 hb (by simp [hys]) hn hm
  have hic : i * c + c ≤ l.length * c := by rw [← Nat.succ_mul]; exact Nat.mul_le_mul_right c hi
  have e4 : (ys.set (i * c + j) u).take (l.length * c) = cellsG f (l.set i y) := by
    apply List.ext_getElem?
    intro q
    by_cases hq : q < l.length * c
    · rw [row_set_at hf l i y hi q hq, List.getElem?_take, if_pos hq, ← ht]
      have hqy : q < ys.length := by rw [hys]; exact Nat.lt_of_lt_of_le hq (Nat.mul_le_mul_right c hn)
      by_cases h0 : q = i * c + j
      · subst h0
        rw [if_pos (by omega), List.getElem?_set_self hqy, hy, Nat.add_sub_cancel_left, List.getElem?_set_self (by rw [hf]; exact hj)]
      · rw [List.getElem?_set_ne (fun h => h0 h.symm)]
        by_cases h1 : i * c ≤ q ∧ q < i * c + c
        · rw [if_pos h1, hy, List.getElem?_set_ne (by omega)]
          have h3 := cellsG_at hf l i (q - i * c) x hx (by omega)
          rw [show i * c + (q - i * c) = q by omega] at h3
          rw [← h3, ← ht, List.getElem?_take, if_pos hq]
        · rw [if_neg h1, List.getElem?_take, if_pos hq]
    · rw [List.getElem?_eq_none (by simp; omega), List.getElem?_eq_none (by rw [cellsG_len hf]; simp; omega)]
  rw [List.length_set, ← e4]
  exact h2
/-- The target of an instruction of the call's own is written over. -/
theorem COwn.setB {w : World} {B g n cap i : Nat} {l : List In} {x : In} (h : COwn w B (.slice (some ⟨g, 0, none⟩) n cap) l) (hx : l[i]? = some x) (y : Int) : COwn (w.setCell ⟨g, i * 4 + 2, none⟩ (.int .i64 y)) B (.slice (some ⟨g, 0, none⟩) n cap) (l.set i ⟨x.op, x.a, y, x.c⟩) :=
  row_setc inc_len h hx ⟨x.op, x.a, y, x.c⟩ (.int .i64 y) (j := 2) (by decide) rfl
/-! ### What the calls may change -/
def own4 (t : TypeId) : Prop := t = 67 ∨ t = 40 ∨ t = 83 ∨ t = 3
/-- Blocks of the builder's kinds that lie behind B, and what is new. -/
def Kp (B : Nat) (w w' : World) : Prop := Upd (fun k => B ≤ k ∧ ∃ t xs, Blk w k t xs ∧ own4 t) w w'
theorem Kp.refl (B : Nat) (w : World) : Kp B w w := Upd.refl _ w
theorem Kp.trans {B : Nat} {a b c : World} (h : Kp B a b) (g : Kp B b c) : Kp B a c := Upd.trans h g (fun k hk ⟨h1, t, xs, h2, h3⟩ => by
  by_cases hS : B ≤ k ∧ ∃ t xs, Blk a k t xs ∧ own4 t
  · exact hS
  · have e := h.block k hk hS
    exact ⟨h1, t, xs, h2.of_eq e.symm, h3⟩)
theorem Kp.later {B : Nat} {w w' : World} (h : Below w.heap.size w w') : Kp B w w' := Upd.of_below h
theorem Kp.then {B : Nat} {a b c : World} (h : Kp B a b) (g : Below b.heap.size b c) : Kp B a c := h.trans (Kp.later g)
theorem Kp.size {B : Nat} {w w' : World} (h : Kp B w w') : w.heap.size ≤ w'.heap.size := Upd.size h
theorem Kp.below {B : Nat} {w w' : World} (h : Kp B w w') (hB : B ≤ w.heap.size) : Below B w w' := Upd.below h B hB (fun k hk => hk.1)
theorem Kp.blk {B g : Nat} {w w' : World} {t : TypeId} {xs : List Value} (h : Kp B w w') (hb : Blk w g t xs) (ht : ¬ own4 t) : Blk w' g t xs := hb.upd h (fun ⟨_, t', ys, h2, h3⟩ => ht (by rw [blk_type hb h2]; exact h3))
/-! ### Marks -/
structure Mk where
  g : Nat
  o : Nat
  kn : Bool
  nu : Int
  v : Value
  W : List Int
/-- The mark lies in memory. -/
def MkAt (w : World) (B : Nat) (m : Mk) : Prop := B ≤ m.g ∧ (∃ xs, Blk w m.g 83 xs ∧ xs[m.o]? = some (.bool m.kn) ∧ xs[m.o + 1]? = some (.int .i64 m.nu) ∧ xs[m.o + 2]? = some m.v) ∧ IOwn w B m.v m.W
def MkAp (p q : Mk) : Prop := (p.g ≠ q.g ∨ p.o + 3 ≤ q.o ∨ q.o + 3 ≤ p.o) ∧ ∀ k, p.v.ownBlock = some k → ¬ q.v.ownBlock = some k
/-- The builder and some marks. -/
structure Mb (w : World) (B gb : Nat) (vT vL : Value) (C : List In) (E : List Int) (M : List Mk) : Prop where
  lb : B ≤ gb
  bd : ∃ vC vE, Blk w gb 67 [vT, vL, vC, vE] ∧ COwn w B vC C ∧ IOwn w B vE E ∧ ∀ m ∈ M, ∀ k, m.v.ownBlock = some k → ¬ vE.ownBlock = some k
  ms : ∀ m ∈ M, MkAt w B m
  ap : M.Pairwise MkAp
section
variable {w w' : World} {B gb : Nat} {vT vL : Value} {C : List In} {E : List Int} {M : List Mk}
theorem Mb.lt (h : Mb w B gb vT vL C E M) : gb < w.heap.size := by obtain ⟨_, _, hk, _⟩ := h.bd; exact hk.lt
theorem Mb.base (h : Mb w B gb vT vL C E M) : B ≤ w.heap.size := by have := h.lt; have := h.lb; omega
theorem MkAt.upd {S : Nat → Prop} {m : Mk} (h : MkAt w B m) (hu : Upd S w w') (h1 : ¬ S m.g) (h2 : ∀ k, m.v.ownBlock = some k → ¬ S k) : MkAt w' B m := by
  obtain ⟨hg, ⟨xs, hk, hx⟩, ho⟩ := h
  exact ⟨hg, ⟨xs, hk.upd hu h1, hx⟩, ho.upd hu h2⟩
theorem Mb.later (h : Mb w B gb vT vL C E M) (hB : Below w.heap.size w w') : Mb w' B gb vT vL C E M := by
  obtain ⟨vC, vE, hk, hc, he, hd⟩ := h.bd
  exact ⟨h.lb, ⟨vC, vE, hk.later hB, hc.later hB, he.later hB, hd⟩, fun m hm => (h.ms m hm).upd (Upd.of_below (S := fun _ => False) hB) (fun h => h) (fun _ _ h => h), h.ap⟩
theorem Mb.sub {M' : List Mk} (h : Mb w B gb vT vL C E M) (hs : M'.Sublist M) : Mb w B gb vT vL C E M' := by
  obtain ⟨vC, vE, hk, hc, he, hd⟩ := h.bd
  exact ⟨h.lb, ⟨vC, vE, hk, hc, he, fun m hm => hd m (hs.subset hm)⟩, fun m hm => h.ms m (hs.subset hm), h.ap.sublist hs⟩
/-- A new mark. -/
theorem Mb.new (h : Mb w B gb vT vL C E M) : Mb (w.alloc (.cells #[.bool false, .int .i64 0, .slice none 0 0] 83)) B gb vT vL C E (⟨w.heap.size, 0, false, 0, .slice none 0 0, []⟩ :: M) := by
  have h1 := h.later (below1 w (.cells #[.bool false, .int .i64 0, .slice none 0 0] 83))
  have hk0 := Blk.newA w #[.bool false, .int .i64 0, .slice none 0 0] 83
  obtain ⟨vC, vE, hk, hc, he, hd⟩ := h1.bd
  refine ⟨h.lb, ⟨vC, vE, hk, hc, he, fun m hm => ?_⟩, fun m hm => ?_, ?_⟩
  · rcases List.mem_cons.1 hm with rfl | hm
    · intro k e; simp [Value.ownBlock] at e
    · exact hd m hm
  · rcases List.mem_cons.1 hm with rfl | hm
    · exact ⟨h.base, ⟨_, hk0, rfl, rfl, rfl⟩, IOwn.nil _ _⟩
    · exact h1.ms m hm
  · rw [List.pairwise_cons]
    refine ⟨fun q hq => ⟨.inl ?_, fun k e => by simp [Value.ownBlock] at e⟩, h.ap⟩
    obtain ⟨_, ⟨xs, hx, _⟩, _⟩ := h.ms q hq
    have := hx.lt
    show w.heap.size ≠ q.g
    omega
/-- The builder's code and the entries may lie elsewhere; marks stay. -/
theorem Mb.code {vC' : Value} {C' : List In} {S : Nat → Prop} (h : Mb w B gb vT vL C E M) (hu : Upd S w w') (hS : ∀ k, S k → ∃ t xs, Blk w k t xs ∧ (t = 67 ∨ t = 40)) (hk' : ∀ vC vE, Blk w gb 67 [vT, vL, vC, vE] → Blk w' gb 67 [vT, vL, vC', vE]) (hc' : COwn w' B vC' C') : Mb w' B gb vT vL C' E M := by
  have hI : ∀ {v : Value} {l : List Int}, IOwn w B v l → ∀ k, v.ownBlock = some k → ¬ S k := fun ho k e hs => by
    obtain ⟨t, xs, hb, ht⟩ := hS k hs
    refine notI ho hb ?_ e
    rcases ht with rfl | rfl <;> decide
  have hM : ∀ {g : Nat} {xs : List Value}, Blk w g 83 xs → ¬ S g := fun hb hs => by
    obtain ⟨t, ys, hb2, ht⟩ := hS _ hs
    have e := blk_type hb hb2
    rcases ht with rfl | rfl <;> exact absurd e (by decide)
  obtain ⟨vC, vE, hk, hc, he, hd⟩ := h.bd
  refine ⟨h.lb, ⟨vC', vE, hk' vC vE hk, hc', he.upd hu (hI he), hd⟩, fun m hm => ?_, h.ap⟩
  have hm' := h.ms m hm
  obtain ⟨_, ⟨xs, hx, _⟩, ho⟩ := hm'
  exact (h.ms m hm).upd hu (hM hx) (hI ho)
theorem Mb.push (h : Mb w B gb vT vL C E M) (x : In) (hl : C.length ≤ 1000000000) : ∃ a c vE g cap w', Blk w gb 67 [vT, vL, .slice a C.length c, vE] ∧ (Builtin.append_ #[28, 28] 28 #[.slice a C.length c, .slice (some ⟨w.heap.size, 0, none⟩) 1 1]).run Try.prog (w.alloc (.cells #[.int .i64 x.op, .int .i64 x.a, .int .i64 x.b, .int .i64 x.c] 40)) = .ok (.slice (some ⟨g, 0, none⟩) (C.length + 1) cap) w' ∧ Blk w' gb 67 [vT, vL, .slice a C.length c, vE] ∧ Mb (w'.setCell ⟨gb, 2, none⟩ (.slice (some ⟨g, 0, none⟩) (C.length + 1) cap)) B gb vT vL (C ++ [x]) E M ∧ Kp B w (w'.setCell ⟨gb, 2, none⟩ (.slice (some ⟨g, 0, none⟩) (C.length + 1) cap)) ∧ Upd (fun k => (Value.slice a C.length c).ownBlock = some k) w w' := by
  obtain ⟨vC, vE, hk, hc, he, hd⟩ := h.bd
  obtain ⟨a, c, rfl, _⟩ := hc.row
  obtain ⟨g, cap, w', h1, h2, h3, h4⟩ := hc.push x hl h.base
  have hkb : Blk w' gb 67 [vT, vL, .slice a C.length c, vE] := hk.upd h3 (fun e => notC hc hk (by decide) e)
  have hu : Upd (fun k => k = gb ∨ (Value.slice a C.length c).ownBlock = some k) w (w'.setCell ⟨gb, 2, none⟩ (.slice (some ⟨g, 0, none⟩) (C.length + 1) cap)) := (h3.mono (fun k _ e => .inr e)).set _ _ (.inl (.inl rfl))
  have hS : ∀ k, (k = gb ∨ (Value.slice a C.length c).ownBlock = some k) → ∃ t xs, Blk w k t xs ∧ (t = 67 ∨ t = 40) := fun k hs => by
    rcases hs with rfl | hs
    · exact ⟨_, _, hk, .inl rfl⟩
    · obtain ⟨ys, hy⟩ := ownS_type hc hs
      exact ⟨_, ys, hy, .inr rfl⟩
  refine ⟨a, c, vE, g, cap, w', hk, h1, hkb, h.code (vC' := .slice (some ⟨g, 0, none⟩) (C.length + 1) cap) hu hS (fun vC1 vE1 hk1 => ?_) ?_, ?_, h3⟩
  · have e := blk_one hk hk1
    obtain ⟨-, rfl⟩ : Value.slice a C.length c = vC1 ∧ vE = vE1 := by simpa using e
    have := hkb.set 2 (.slice (some ⟨g, 0, none⟩) (C.length + 1) cap)
    simpa using this
  · exact ownS_upd h2 ((Upd.refl (fun k => k = gb) w').set _ _ (.inl rfl)) (fun k e hk => by subst hk; exact notC h2 hkb (by decide) e)
  · exact Upd.mono hu (fun k _ hs => by
      obtain ⟨t, xs, hb, ht⟩ := hS k hs
      refine ⟨?_, t, xs, hb, ?_⟩
      · rcases hs with rfl | hs
        · exact h.lb
        · exact (hc.lies hs).1
      · rcases ht with rfl | rfl
        · exact .inl rfl
        · exact .inr (.inl rfl))
/-- The mark under way, and the others. -/
theorem Mb.wait {M1 M2 : List Mk} {m : Mk} (h : Mb w B gb vT vL C E (M1 ++ m :: M2)) (x : Int) (hl : m.W.length ≤ 1000000000) : ∃ a c xs vC vE g cap w', m.v = .slice a m.W.length c ∧ Blk w gb 67 [vT, vL, vC, vE] ∧ (∃ a' c', vC = .slice a' C.length c') ∧ Blk w m.g 83 xs ∧ xs[m.o]? = some (.bool m.kn) ∧ xs[m.o + 1]? = some (.int .i64 m.nu) ∧ xs[m.o + 2]? = some (.slice a m.W.length c) ∧ (Builtin.append_ #[29, 29] 29 #[.slice a m.W.length c, .slice (some ⟨w.heap.size, 0, none⟩) 1 1]).run Try.prog (w.alloc (.cells #[.int .i64 x] 3)) = .ok (.slice (some ⟨g, 0, none⟩) (m.W.length + 1) cap) w' ∧ Blk w' m.g 83 xs ∧ Mb (w'.setCell ⟨m.g, m.o + 2, none⟩ (.slice (some ⟨g, 0, none⟩) (m.W.length + 1) cap)) B gb vT vL C E (M1 ++ ⟨m.g, m.o, m.kn, m.nu, .slice (some ⟨g, 0, none⟩) (m.W.length + 1) cap, m.W ++ [x]⟩ :: M2) ∧ Kp B w (w'.setCell ⟨m.g, m.o + 2, none⟩ (.slice (some ⟨g, 0, none⟩) (m.W.length + 1) cap)) ∧ Blk w' gb 67 [vT, vL, vC, vE] := by
  have hmm : m ∈ M1 ++ m :: M2 := List.mem_append_right _ (List.mem_cons_self ..)
  obtain ⟨hg, ⟨xs, hk, x0, x1, x2⟩, ho⟩ := h.ms m hmm
  obtain ⟨a, c, hv⟩ := ho.slice
  have hp := ho.push x (by omega) h.base
  rw [hv] at hp x2
  obtain ⟨g, cap, w', r1, r2, r3, r4⟩ := hp
  obtain ⟨vC, vE, kb, hc, he, hd⟩ := h.bd
  have r3' : Upd (fun k => m.v.ownBlock = some k) w w' := by rw [hv]; exact r3
  have hkm : Blk w' m.g 83 xs := hk.upd r3' (fun e => notI ho hk (by decide) e)
  obtain ⟨y, hy⟩ : ∃ y : Value, y = .slice (some ⟨g, 0, none⟩) (m.W.length + 1) cap := ⟨_, rfl⟩
  have hyo : y.ownBlock = some g := by rw [hy]; rfl
  rw [← hy] at r1 r2
  have hu : Upd (fun k => k = m.g ∨ m.v.ownBlock = some k) w (w'.setCell ⟨m.g, m.o + 2, none⟩ y) := (r3'.mono (fun k _ e => .inr e)).set _ _ (.inl (.inl rfl))
  have hk2 : Blk (w'.setCell ⟨m.g, m.o + 2, none⟩ y) m.g 83 (xs.set (m.o + 2) y) := hkm.set _ _
  have hu2 : Upd (fun k => k = m.g) w' (w'.setCell ⟨m.g, m.o + 2, none⟩ y) := (Upd.refl _ w').set _ _ (.inl rfl)
  have ho2 : IOwn (w'.setCell ⟨m.g, m.o + 2, none⟩ y) B y (m.W ++ [x]) := by
    have : IOwn w' B y (m.W ++ [x]) := by
      unfold IOwn at r2 ⊢
      exact r2
    exact this.upd hu2 (fun k e hk => by subst hk; exact notI this hkm (by decide) e)
  have hyn : ∀ {u : Value} {l : List Int}, IOwn w B u l → (∀ k, m.v.ownBlock = some k → ¬ u.ownBlock = some k) → ∀ k, y.ownBlock = some k → ¬ u.ownBlock = some k := fun {u l} hu1 hne k e e2 => by
    obtain rfl : g = k := by rw [hyo] at e; injection e
    rcases r4 with r4 | r4
    · rw [← hv] at r4
      exact hne g r4 e2
    · have := (hu1.lies e2).2
      omega
  have hoth : ∀ q, q ∈ M1 ++ m :: M2 → (MkAp q m ∨ MkAp m q) → MkAt (w'.setCell ⟨m.g, m.o + 2, none⟩ y) B q := fun q hq hap => by
    obtain ⟨qg, ⟨ys, qk, q0, q1, q2⟩, qo⟩ := h.ms q hq
    have hne : ∀ k, q.v.ownBlock = some k → ¬ m.v.ownBlock = some k := fun k e e2 => by
      rcases hap with hap | hap
      · exact hap.2 k e e2
      · exact hap.2 k e2 e
    have hdis : q.g ≠ m.g ∨ q.o + 3 ≤ m.o ∨ m.o + 3 ≤ q.o := by
      rcases hap with hap | hap
      · exact hap.1
      · rcases hap.1 with h | h | h
        · exact .inl (fun e => h e.symm)
        · exact .inr (.inr h)
        · exact .inr (.inl h)
    refine ⟨qg, ?_, qo.upd hu (fun k e hk => ?_)⟩
    · by_cases e : q.g = m.g
      · have e2 := blk_one (by rw [e] at qk; exact qk) hk
        subst e2
        refine ⟨_, by rw [e]; exact hk2, ?_, ?_, ?_⟩
        · rw [List.getElem?_set_ne (by omega)]; exact q0
        · rw [List.getElem?_set_ne (by omega)]; exact q1
        · rw [List.getElem?_set_ne (by omega)]; exact q2
      · exact ⟨ys, qk.upd hu (fun hk => by rcases hk with hk | hk; exact e hk; exact notI ho qk (by decide) hk), q0, q1, q2⟩
    · rcases hk with hk | hk
      · subst hk; exact notI qo hk (by decide) e
      · exact hne k e hk
  have hpw := h.ap
  rw [List.pairwise_append, List.pairwise_cons] at hpw
  obtain ⟨p1, ⟨p2, p3⟩, p4⟩ := hpw
  subst hy
  have hcr := hc.row
  obtain ⟨a', c', hvc, _⟩ := hcr
  refine ⟨a, c, xs, vC, vE, g, cap, w', hv, kb, ⟨a', c', hvc⟩, hk, x0, x1, x2, r1, hkm, ⟨h.lb, ⟨vC, vE, ?_, ?_, ?_, ?_⟩, ?_, ?_⟩, ?_, kb.upd r3' (fun e => notI ho kb (by decide) e)⟩
  · refine kb.upd hu (fun hs => ?_)
    rcases hs with hs | hs
    · rw [hs] at kb; exact absurd (blk_type kb hk) (by decide)
    · exact notI ho kb (by decide) hs
  · refine hc.upd hu (fun k e hs => ?_)
    rcases hs with hs | hs
    · subst hs; exact notC hc hk (by decide) e
    · exact notIC ho hc k hs e
  · refine he.upd hu (fun k e hs => ?_)
    rcases hs with hs | hs
    · subst hs; exact notI he hk (by decide) e
    · exact hd m hmm k hs e
  · intro q hq k e
    rcases List.mem_append.1 hq with hq | hq
    · exact hd q (List.mem_append_left _ hq) k e
    · rcases List.mem_cons.1 hq with rfl | hq
      · exact hyn he (hd m hmm) k e
      · exact hd q (List.mem_append_right _ (List.mem_cons_of_mem _ hq)) k e
  · intro q hq
    rcases List.mem_append.1 hq with hq | hq
    · exact hoth q (List.mem_append_left _ hq) (.inl (p4 q hq m (List.mem_cons_self ..)))
    · rcases List.mem_cons.1 hq with rfl | hq
      · have hlen : m.o + 2 < xs.length := (List.getElem?_eq_some_iff.1 x2).1
        refine ⟨hg, ⟨_, hk2, ?_, ?_, ?_⟩, ho2⟩
        · show (xs.set (m.o + 2) _)[m.o]? = _
          rw [List.getElem?_set_ne (by omega)]; exact x0
        · show (xs.set (m.o + 2) _)[m.o + 1]? = _
          rw [List.getElem?_set_ne (by omega)]; exact x1
        · show (xs.set (m.o + 2) _)[m.o + 2]? = _
          rw [List.getElem?_set_self hlen]
      · exact hoth q (List.mem_append_right _ (List.mem_cons_of_mem _ hq)) (.inr (p2 q hq))
  · rw [List.pairwise_append, List.pairwise_cons]
    refine ⟨p1, ⟨fun q hq => ⟨(p2 q hq).1, hyn (h.ms q (List.mem_append_right _ (List.mem_cons_of_mem _ hq))).2.2 (p2 q hq).2⟩, p3⟩, fun q hq r hr => ?_⟩
    rcases List.mem_cons.1 hr with rfl | hr
    · have hqm := p4 q hq m (List.mem_cons_self ..)
      exact ⟨hqm.1, fun k e e2 => hyn (h.ms q (List.mem_append_left _ hq)).2.2 (fun k e e2 => hqm.2 k e2 e) k e2 e⟩
    · exact p4 q hq r (List.mem_cons_of_mem _ hr)
  · exact Upd.mono hu (fun k _ hs => by
      rcases hs with rfl | hs
      · exact ⟨hg, _, xs, hk, .inr (.inr (.inl rfl))⟩
      · obtain ⟨zs, hz⟩ := ownS_type ho hs
        exact ⟨(ho.lies hs).1, _, zs, hz, .inr (.inr (.inr rfl))⟩)
/-- The mark's number is known. -/
theorem Mb.seal {M1 M2 : List Mk} {m : Mk} (h : Mb w B gb vT vL C E (M1 ++ m :: M2)) (n : Int) : (∃ xs, Blk w m.g 83 xs ∧ xs[m.o]? = some (.bool m.kn) ∧ xs[m.o + 1]? = some (.int .i64 m.nu) ∧ xs[m.o + 2]? = some m.v) ∧ Mb ((w.setCell ⟨m.g, m.o, none⟩ (.bool true)).setCell ⟨m.g, m.o + 1, none⟩ (.int .i64 n)) B gb vT vL C E (M1 ++ ⟨m.g, m.o, true, n, m.v, m.W⟩ :: M2) ∧ Kp B w ((w.setCell ⟨m.g, m.o, none⟩ (.bool true)).setCell ⟨m.g, m.o + 1, none⟩ (.int .i64 n)) := by
  have hmm : m ∈ M1 ++ m :: M2 := List.mem_append_right _ (List.mem_cons_self ..)
  obtain ⟨hg, ⟨xs, hk, x0, x1, x2⟩, ho⟩ := h.ms m hmm
  obtain ⟨vC, vE, kb, hc, he, hd⟩ := h.bd
  obtain ⟨w', hw'⟩ : ∃ w', w' = (w.setCell ⟨m.g, m.o, none⟩ (.bool true)).setCell ⟨m.g, m.o + 1, none⟩ (.int .i64 n) := ⟨_, rfl⟩
  have hu : Upd (fun k => k = m.g) w w' := by rw [hw']; exact ((Upd.refl (fun k => k = m.g) w).set ⟨m.g, m.o, none⟩ (.bool true) (.inl rfl)).set ⟨m.g, m.o + 1, none⟩ (.int .i64 n) (.inl rfl)
  have hk2 : Blk w' m.g 83 ((xs.set m.o (.bool true)).set (m.o + 1) (.int .i64 n)) := by rw [hw']; exact (hk.set _ _).set _ _
  rw [← hw']
  have hI : ∀ {v : Value} {l : List Int}, IOwn w B v l → IOwn w' B v l := fun ho => ho.upd hu (fun k e hs => by subst hs; exact notI ho hk (by decide) e)
  have hoth : ∀ q, q ∈ M1 ++ m :: M2 → (MkAp q m ∨ MkAp m q) → MkAt w' B q := fun q hq hap => by
    obtain ⟨qg, ⟨ys, qk, q0, q1, q2⟩, qo⟩ := h.ms q hq
    have hdis : q.g ≠ m.g ∨ q.o + 3 ≤ m.o ∨ m.o + 3 ≤ q.o := by
      rcases hap with hap | hap
      · exact hap.1
      · rcases hap.1 with h | h | h
        · exact .inl (fun e => h e.symm)
        · exact .inr (.inr h)
        · exact .inr (.inl h)
    refine ⟨qg, ?_, hI qo⟩
    by_cases e : q.g = m.g
    · have e2 := blk_one (by rw [e] at qk; exact qk) hk
      subst e2
      refine ⟨_, by rw [e]; exact hk2, ?_, ?_, ?_⟩
      · rw [List.getElem?_set_ne (by omega), List.getElem?_set_ne (by omega)]; exact q0
      · rw [List.getElem?_set_ne (by omega), List.getElem?_set_ne (by omega)]; exact q1
      · rw [List.getElem?_set_ne (by omega), List.getElem?_set_ne (by omega)]; exact q2
    · exact ⟨ys, qk.upd hu e, q0, q1, q2⟩
  have hpw := h.ap
  rw [List.pairwise_append, List.pairwise_cons] at hpw
  obtain ⟨p1, ⟨p2, p3⟩, p4⟩ := hpw
  refine ⟨⟨xs, hk, x0, x1, x2⟩, ⟨h.lb, ⟨vC, vE, ?_, ?_, hI he, ?_⟩, ?_, ?_⟩, ?_⟩
  · exact kb.upd hu (fun hs => by rw [hs] at kb; exact absurd (blk_type kb hk) (by decide))
  · exact hc.upd hu (fun k e hs => by subst hs; exact notC hc hk (by decide) e)
  · intro q hq k e
    rcases List.mem_append.1 hq with hq | hq
    · exact hd q (List.mem_append_left _ hq) k e
    · rcases List.mem_cons.1 hq with rfl | hq
      · exact hd m hmm k e
      · exact hd q (List.mem_append_right _ (List.mem_cons_of_mem _ hq)) k e
  · intro q hq
    rcases List.mem_append.1 hq with hq | hq
    · exact hoth q (List.mem_append_left _ hq) (.inl (p4 q hq m (List.mem_cons_self ..)))
    · rcases List.mem_cons.1 hq with rfl | hq
      · have hl1 : m.o + 1 < xs.length := (List.getElem?_eq_some_iff.1 x1).1
        refine ⟨hg, ⟨_, hk2, ?_, ?_, ?_⟩, hI ho⟩
        · show ((xs.set m.o _).set (m.o + 1) _)[m.o]? = _
          rw [List.getElem?_set_ne (by omega), List.getElem?_set_self (by omega)]
        · show ((xs.set m.o _).set (m.o + 1) _)[m.o + 1]? = _
          rw [List.getElem?_set_self (by simp; omega)]
        · show ((xs.set m.o _).set (m.o + 1) _)[m.o + 2]? = _
          rw [List.getElem?_set_ne (by omega), List.getElem?_set_ne (by omega)]; exact x2
      · exact hoth q (List.mem_append_right _ (List.mem_cons_of_mem _ hq)) (.inr (p2 q hq))
  · rw [List.pairwise_append, List.pairwise_cons]
    refine ⟨p1, ⟨fun q hq => ⟨(p2 q hq).1, (p2 q hq).2⟩, p3⟩, fun q hq r hr => ?_⟩
    rcases List.mem_cons.1 hr with rfl | hr
    · exact ⟨(p4 q hq m (List.mem_cons_self ..)).1, (p4 q hq m (List.mem_cons_self ..)).2⟩
    · exact p4 q hq r (List.mem_cons_of_mem _ hr)
  · exact Upd.mono hu (fun k _ hs => by subst hs; exact ⟨hg, _, xs, hk, .inr (.inr (.inl rfl))⟩)
/-- A target is filled in. -/
theorem Mb.patch (h : Mb w B gb vT vL C E M) {i : Nat} {x : In} (hx : C[i]? = some x) (y : Int) : ∃ gC cap vE, Blk w gb 67 [vT, vL, .slice (some ⟨gC, 0, none⟩) C.length cap, vE] ∧ w.cell? ⟨gC, i * 4 + 2, none⟩ = some (.int .i64 x.b) ∧ (∀ o, w.frozen? ⟨gC, o, none⟩ = false) ∧ Mb (w.setCell ⟨gC, i * 4 + 2, none⟩ (.int .i64 y)) B gb vT vL (C.set i ⟨x.op, x.a, y, x.c⟩) E M ∧ Kp B w (w.setCell ⟨gC, i * 4 + 2, none⟩ (.int .i64 y)) := by
  have hi := (List.getElem?_eq_some_iff.1 hx).1
  obtain ⟨vC, vE, kb, hc, he, hd⟩ := h.bd
  obtain ⟨gC, cap, ys, rfl, hg, hn, hm, hys, hyt, hyk⟩ := ownS_blk hc (by omega)
  have hcl := (hc.rowS.at hx).2.2.1
  simp only [Nat.zero_add] at hcl
  have hu : Upd (fun k => k = gC) w (w.setCell ⟨gC, i * 4 + 2, none⟩ (.int .i64 y)) := (Upd.refl (fun k => k = gC) w).set _ _ (.inl rfl)
  refine ⟨gC, cap, vE, kb, hcl, fun o => hyk.frozen o, h.code (vC' := .slice (some ⟨gC, 0, none⟩) C.length cap) hu (fun k hs => by subst hs; exact ⟨_, ys, hyk, .inr rfl⟩) (fun vC1 vE1 hk1 => ?_) (hc.setB hx y), ?_⟩
  · have e := blk_one kb hk1
    obtain ⟨rfl, rfl⟩ : Value.slice (some ⟨gC, 0, none⟩) C.length cap = vC1 ∧ vE = vE1 := by simpa using e
    exact kb.upd hu (fun e => by rw [e] at kb; exact absurd (blk_type kb hyk) (by decide))
  · exact Upd.mono hu (fun k _ hs => by subst hs; exact ⟨hg, _, ys, hyk, .inr (.inl rfl)⟩)
/-- An entry more. -/
theorem Mb.entry (h : Mb w B gb vT vL C E M) (x : Int) (hl : E.length ≤ 1000000000) : ∃ a c vC g cap w', Blk w gb 67 [vT, vL, vC, .slice a E.length c] ∧ (∃ a' c', vC = .slice a' C.length c') ∧ (Builtin.append_ #[29, 29] 29 #[.slice a E.length c, .slice (some ⟨w.heap.size, 0, none⟩) 1 1]).run Try.prog (w.alloc (.cells #[.int .i64 x] 3)) = .ok (.slice (some ⟨g, 0, none⟩) (E.length + 1) cap) w' ∧ Blk w' gb 67 [vT, vL, vC, .slice a E.length c] ∧ Mb (w'.setCell ⟨gb, 3, none⟩ (.slice (some ⟨g, 0, none⟩) (E.length + 1) cap)) B gb vT vL C (E ++ [x]) M ∧ Kp B w (w'.setCell ⟨gb, 3, none⟩ (.slice (some ⟨g, 0, none⟩) (E.length + 1) cap)) := by
  obtain ⟨vC, vE, hk, hc, he, hd⟩ := h.bd
  obtain ⟨a, c, rfl⟩ := he.slice
  obtain ⟨g, cap, w', h1, h2, h3, h4⟩ := he.push x (by omega) h.base
  have hkb : Blk w' gb 67 [vT, vL, vC, .slice a E.length c] := hk.upd h3 (fun e => notI he hk (by decide) e)
  have hu : Upd (fun k => k = gb ∨ (Value.slice a E.length c).ownBlock = some k) w (w'.setCell ⟨gb, 3, none⟩ (.slice (some ⟨g, 0, none⟩) (E.length + 1) cap)) := (h3.mono (fun k _ e => .inr e)).set _ _ (.inl (.inl rfl))
  have hcr := hc.row
  obtain ⟨a', c', hvc, _⟩ := hcr
  refine ⟨a, c, vC, g, cap, w', hk, ⟨a', c', hvc⟩, h1, hkb, ⟨h.lb, ⟨vC, .slice (some ⟨g, 0, none⟩) (E.length + 1) cap, ?_, ?_, ?_, ?_⟩, fun m hm => ?_, h.ap⟩, ?_⟩
  · have := hkb.set 3 (.slice (some ⟨g, 0, none⟩) (E.length + 1) cap)
    simpa using this
  · exact hc.upd hu (fun k e hs => by
      rcases hs with hs | hs
      · subst hs; exact notC hc hk (by decide) e
      · exact notIC he hc k hs e)
  · exact h2.upd ((Upd.refl (fun k => k = gb) w').set _ _ (.inl rfl)) (fun k e hs => by subst hs; exact notI h2 hkb (by decide) e)
  · intro m hm k e e2
    obtain rfl : g = k := own_is e2
    rcases h4 with h4 | h4
    · exact hd m hm g e h4
    · have := ((h.ms m hm).2.2.lies e).2
      omega
  · obtain ⟨hg, ⟨xs, hx, _⟩, ho⟩ := h.ms m hm
    refine (h.ms m hm).upd hu (fun hs => ?_) (fun k e hs => ?_)
    · rcases hs with hs | hs
      · rw [hs] at hx; exact absurd (blk_type hk hx) (by decide)
      · exact notI he hx (by decide) hs
    · rcases hs with hs | hs
      · subst hs; exact notI ho hk (by decide) e
      · exact hd m hm k e hs
  · exact Upd.mono hu (fun k _ hs => by
      rcases hs with rfl | hs
      · exact ⟨h.lb, _, _, hk, .inl rfl⟩
      · obtain ⟨zs, hz⟩ := ownS_type he hs
        exact ⟨(he.lies hs).1, _, zs, hz, .inr (.inr (.inr rfl))⟩)
end
end Go.Proofs.Ytepmgbfdmbogiaa
