/-
  Whole blocks of memory, over any program: what a block holds, what a store does to it, what a call may change. For a new seat: copy as <Name>Blk.lean; put the Name for 'Seat', also in the import.
-/
import Derived.Test.YteadmiikenpjeaaDoorBase
namespace Go.Proofs.YteadmiikenpjeaaDoor
open Go.RowKit
set_option linter.unusedVariables false

/-- Block g holds these cells, and nothing of it is frozen. -/
def Blk (w : World) (g : Nat) (t : TypeId) (xs : List Value) : Prop := w.heap[g]? = some (.cells xs.toArray t (0, 0))
section
variable {w w' : World} {g : Nat} {t : TypeId} {xs : List Value}
theorem Blk.lt (h : Blk w g t xs) : g < w.heap.size := (Array.getElem?_eq_some_iff.1 h).1
theorem Blk.cell (h : Blk w g t xs) (i : Nat) : w.cell? ⟨g, i, none⟩ = xs[i]? := by
  unfold Blk at h
  simp [World.cell?, h]
theorem Blk.frozen (h : Blk w g t xs) (i : Nat) : w.frozen? ⟨g, i, none⟩ = false := by
  unfold Blk at h
  simp [World.frozen?, h]
theorem Blk.of_eq (h : Blk w g t xs) (e : w'.heap[g]? = w.heap[g]?) : Blk w' g t xs := Eq.trans e h
theorem Blk.other (h : Blk w g t xs) (a : Addr) (u : Value) (hn : g ≠ a.block) : Blk (w.setCell a u) g t xs := h.of_eq (Below.heap_setCell w a u g hn)
theorem Blk.set (h : Blk w g t xs) (i : Nat) (u : Value) : Blk (w.setCell ⟨g, i, none⟩ u) g t (xs.set i u) := by
  unfold Blk at h ⊢
  have hlt := (Array.getElem?_eq_some_iff.1 h).1
  unfold World.setCell
  simp [Array.getElem?_modify, h]
theorem Blk.alloc (h : Blk w g t xs) (o : Obj) : Blk (w.alloc o) g t xs := h.of_eq (Below.heap_alloc w o g h.lt)
theorem Blk.drew (h : Blk w g t xs) : Blk w.drew g t xs := h
theorem Blk.below {B : Nat} (h : Blk w g t xs) (hB : Below B w w') (hg : g < B) : Blk w' g t xs := h.of_eq (hB.block g hg)
theorem Blk.later (h : Blk w g t xs) (hB : Below w.heap.size w w') : Blk w' g t xs := h.below hB h.lt
theorem Blk.new (w : World) (xs : List Value) (t : TypeId) : Blk (w.alloc (.cells xs.toArray t)) w.heap.size t xs := by
  unfold Blk World.alloc
  simp
theorem Blk.newA (w : World) (xs : Array Value) (t : TypeId) : Blk (w.alloc (.cells xs t)) w.heap.size t xs.toList := by
  have := Blk.new w xs.toList t
  rwa [Array.toArray_toList] at this
/-- As a row of the call's own. -/
theorem Blk.owns (h : Blk w g t xs) (base n cap : Nat) (hb : base ≤ g) (hl : xs.length = cap) (hn : n ≤ cap) (hm : cap ≤ maxLen) : w.ownsRow base t 1 (.slice (some ⟨g, 0, none⟩) n cap) n (xs.take n) :=
  ⟨by simp; omega, .inr ⟨g, cap, xs.toArray, rfl, hb, h, hn, hm, by simp [hl], by simp⟩⟩
theorem Blk.row {k : IntKind} {l : List Int} (h : Blk w g t (cellsL k l)) : Row k w (some ⟨g, 0, none⟩) l := by
  refine Row.mk fun i hi => ?_
  rw [Nat.zero_add, h.cell, cellsL_at k l i hi]
end
theorem own_blk {w : World} {base n : Nat} {e : TypeId} {v : Value} {xs : List Value} (h : w.ownsRow base e 1 v n xs) (hn : 0 < n) :
    ∃ g cap ys, v = .slice (some ⟨g, 0, none⟩) n cap ∧ base ≤ g ∧ n ≤ cap ∧ cap ≤ maxLen ∧ ys.length = cap ∧ ys.take n = xs ∧ Blk w g e ys := by
  rcases h.2 with ⟨_, h0⟩ | ⟨g, cap, cur, rfl, hb, hg, hnc, hcm, hs, ht⟩
  · omega
  · exact ⟨g, cap, cur.toList, rfl, hb, hnc, hcm, by simpa using hs, by simpa using ht, by unfold Blk; rw [Array.toArray_toList]; exact hg⟩
theorem cellsL_set (k : IntKind) (l : List Int) (i : Nat) (x : Int) : (cellsL k l).set i (.int k x) = cellsL k (l.set i x) := by simp [cellsL, List.map_set]

/-- What a call may change: the blocks of S, and what it makes. -/
structure Upd (S : Nat → Prop) (w w' : World) : Prop where
  os : w'.os = w.os
  tape : w'.tape = w.tape
  output : w'.output = w.output
  size : w.heap.size ≤ w'.heap.size
  block : ∀ k, k < w.heap.size → ¬ S k → w'.heap[k]? = w.heap[k]?
theorem Upd.refl (S : Nat → Prop) (w : World) : Upd S w w := ⟨rfl, rfl, rfl, Nat.le_refl _, fun _ _ _ => rfl⟩
theorem Upd.of_below {S : Nat → Prop} {w w' : World} (h : Below w.heap.size w w') : Upd S w w' := ⟨h.os, h.tape, h.output, h.size, fun k hk _ => h.block k hk⟩
theorem Upd.trans {S T : Nat → Prop} {a b c : World} (h : Upd S a b) (g : Upd T b c) (hs : ∀ k, k < a.heap.size → T k → S k) : Upd S a c :=
  ⟨g.os.trans h.os, g.tape.trans h.tape, g.output.trans h.output, Nat.le_trans h.size g.size, fun k hk hn => (g.block k (Nat.lt_of_lt_of_le hk h.size) (fun ht => hn (hs k hk ht))).trans (h.block k hk hn)⟩
theorem Upd.to {S : Nat → Prop} {a b c : World} (h : Upd S a b) (g : Upd S b c) : Upd S a c := h.trans g (fun _ _ h => h)
theorem Upd.mono {S T : Nat → Prop} {a b : World} (h : Upd S a b) (hs : ∀ k, k < a.heap.size → S k → T k) : Upd T a b := ⟨h.os, h.tape, h.output, h.size, fun k hk hn => h.block k hk (fun ht => hn (hs k hk ht))⟩
theorem Upd.then {S : Nat → Prop} {a b c : World} (h : Upd S a b) (g : Below b.heap.size b c) : Upd S a c := h.trans (Upd.of_below (S := fun _ => False) g) (fun _ _ h => h.elim)
theorem Upd.below {S : Nat → Prop} {w w' : World} (h : Upd S w w') (B : Nat) (hB : B ≤ w.heap.size) (hs : ∀ k, S k → B ≤ k) : Below B w w' :=
  ⟨h.os, h.tape, h.output, h.size, fun k hk => h.block k (by omega) (fun ht => by have := hs k ht; omega)⟩
theorem Upd.set {S : Nat → Prop} {a w : World} (h : Upd S a w) (p : Addr) (u : Value) (hp : S p.block ∨ a.heap.size ≤ p.block) : Upd S a (w.setCell p u) :=
  ⟨h.os, h.tape, h.output, by rw [World.size_setCell]; exact h.size, fun k hk hn => (Below.heap_setCell w p u k (by rintro rfl; rcases hp with hp | hp; exact hn hp; omega)).trans (h.block k hk hn)⟩
theorem Upd.alloc {S : Nat → Prop} {a w : World} (h : Upd S a w) (o : Obj) : Upd S a (w.alloc o) :=
  h.then ((Below.refl _ _).alloc (Nat.le_refl _) o)
theorem Upd.drew {S : Nat → Prop} {a w : World} (h : Upd S a w) : Upd S a w.drew := ⟨h.os, h.tape, h.output, h.size, h.block⟩
theorem Upd.grown {S : Nat → Prop} {a w w' : World} {row : Option Nat} (h : Upd S a w) (hg : w.grownBy w' row) (hr : ∀ k, row = some k → S k ∨ a.heap.size ≤ k) : Upd S a w' :=
  ⟨hg.os.trans h.os, hg.tape.trans h.tape, hg.output.trans h.output, Nat.le_trans h.size hg.size, fun k hk hn => (hg.block k (Nat.lt_of_lt_of_le hk h.size) (fun e => by rcases hr k e.symm with h1 | h1; exact hn h1; omega)).trans (h.block k hk hn)⟩
theorem Blk.upd {w w' : World} {g : Nat} {t : TypeId} {xs : List Value} {S : Nat → Prop} (h : Blk w g t xs) (hu : Upd S w w') (hg : ¬ S g) : Blk w' g t xs := h.of_eq (hu.block g h.lt hg)
theorem Row.upd {k : IntKind} {w w' : World} {a : Option Addr} {l : List Int} {S : Nat → Prop} (h : Row k w a l) (hu : Upd S w w') (hg : ∀ x, a = some x → ¬ S x.block) : Row k w' a l := by
  rcases h with ⟨rfl, rfl⟩ | ⟨x, rfl, hc⟩
  · exact .inl ⟨rfl, rfl⟩
  · refine .inr ⟨x, rfl, fun i hi => ?_⟩
    have h1 := hc i hi
    have hb : (x.add i).block = x.block := by unfold Addr.add; split <;> rfl
    have hlt := World.block_lt_of_cell? w _ h1
    rw [World.cell?_of_block (w := w) (hu.block _ hlt (by rw [hb]; exact hg x rfl))]
    exact h1
end Go.Proofs.YteadmiikenpjeaaDoor
