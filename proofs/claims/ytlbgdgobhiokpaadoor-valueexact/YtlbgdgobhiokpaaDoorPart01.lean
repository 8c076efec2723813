import Derived.WalkKit
import Derived.WalkLawsBesides
import Derived.WalkSpells
import Derived.Outline
import Derived.BigQuiet
import Derived.Deep.QuietTactic
import Derived.Deep.RegionWith
import Derived.Deep.DeepCutAuto
import Derived.Deep.LoopGhost
import Derived.Deep.DeepMust
import Derived.Deep.RegionHeld3
import Derived.Deep.RegionHeldLaw
import Derived.Laws.BytesArg
import Derived.Deep.AppendLies
import Derived.ArgAppend
import Derived.Test.YtlbgdgobhiokpaaDoorRows
import Derived.Laws.ResultCell
import Derived.Laws.Rows

/-
  Lemmas that hold over any program: rows of integers in memory, copies by append, strings out of bytes, appends by their run. For a new seat: copy this text as <Name>Base.lean and put the seat's Name for 'Seat' in the two namespace rows.
-/
namespace Go.Proofs.YtlbgdgobhiokpaaDoor
open Go.RowKit
set_option linter.unusedVariables false

theorem hide_ {p : Prop} (h : p) : Hid p := h
theorem w64 (n : Int) (h : -9223372036854775808 ≤ n ∧ n ≤ 9223372036854775807) : wrap64 n = n := by unfold wrap64; omega
theorem ret_int {k : IntKind} {a b : Int} (h : a = b) : Ending.returned (.int k a) = .returned (.int k b) := by rw [h]
theorem ret_bool {a : Bool} (h : a = true) : Ending.returned (.bool a) = .returned (.bool true) := by rw [h]
theorem ret_two {k m : IntKind} {a b c d : Int} (h : a = b) (g : c = d) : Ending.returned (.tuple #[.int k a, .int m c]) = .returned (.tuple #[.int k b, .int m d]) := by rw [h, g]
theorem below_to {a b c : World} (h : Below a.heap.size a b) (k : Below b.heap.size b c) : Below a.heap.size a c := h.trans (k.mono h.size)
theorem add_none (b off i : Nat) : (⟨b, off, none⟩ : Addr).add i = ⟨b, off + i, none⟩ := by unfold Addr.add; split <;> simp_all

/-! ### append by its run: in a walk; in a region that draws -/
theorem wpList_append_run {P : Program} {w w' : World} {ops : Array Oper} {rest : List Oper} {o : Oper} {a : Act} {Q : Exit → Act → World → Prop} (hgd : o.guard = none) (s x : Operand) (t t2 : TypeId)
    (ho : o.op = .call { callee := .builtin .append, args := #[s, x], argTypes := #[t, t2] }) {v u v' : Value} (hs : a.eval s = v) (hx : a.eval x = u)
    (hr : (Builtin.append_ #[t, t2] o.type #[v, u]).run P w = .ok v' w') (h : wpList P ops Q rest (a.put o.dst v') w') : wpList P ops Q (o :: rest) a w := by
  refine wpList_plain hgd fun K hK => ?_
  unfold Oper.wp execOp
  simp only [ho, resolve, invoke, builtin, Sem.run_bind, Sem.run_pure, Result.andThen_ok, List.map_toArray, List.map_cons, List.map_nil, hs, hx, hr]
  exact hK _ _ h
theorem step_append_run {P : Program} {ops : Array Oper} {o : Oper} {a : Act} {w w' : World} {K : Act → World → Prop} {Q : Exit → Act → World → Prop} {E : Prop}
    (hg : o.guard = none) (s x : Operand) (t t2 : TypeId) (hop : o.op = Op.call { callee := Callee.builtin Builtin.append, args := #[s, x], argTypes := #[t, t2] })
    {v u v' : Value} (hs : a.eval s = v) (hx : a.eval x = u) (hr : (Builtin.append_ #[t, t2] o.type #[v, u]).run P w = .ok v' w') (hK : K (a.put o.dst v') w') :
    if Region.wanted o (yielded ops a.tmps) = true then Oper.wp P o a w K Q else E := by
  have hw : Region.wanted o (yielded ops a.tmps) = true := by simp [Region.wanted, hg]
  rw [if_pos hw]
  unfold Oper.wp
  simp [execOp, hop, resolve, invoke, builtin, hs, hx, hr, Result.andThen]
  exact hK

/-! ### Rows of integers -/
/-- It is nil and empty, or its cells hold these numbers. -/
def Row (k : IntKind) (w : World) (a : Option Addr) (l : List Int) : Prop :=
  (a = none ∧ l = []) ∨ ∃ x, a = some x ∧ ∀ i, i < l.length → w.cell? (x.add i) = some (.int k (l.getD i 0))
def cellsL (k : IntKind) (l : List Int) : List Value := l.map (Value.int k)
theorem cellsL_length (k : IntKind) (l : List Int) : (cellsL k l).length = l.length := by simp [cellsL]
theorem cellsL_append (k : IntKind) (l r : List Int) : cellsL k (l ++ r) = cellsL k l ++ cellsL k r := by simp [cellsL]
theorem cellsL_at (k : IntKind) (l : List Int) (j : Nat) (h : j < l.length) : (cellsL k l)[j]? = some (.int k (l.getD j 0)) := by simp [cellsL, List.getD, h]
theorem cellsL_get (k : IntKind) (l : List Int) (j : Nat) (u : Value) (h : (cellsL k l)[j]? = some u) : j < l.length ∧ u = .int k (l.getD j 0) := by
  by_cases hj : j < l.length
  · rw [cellsL_at k l j hj] at h; exact ⟨hj, (Option.some.inj h).symm⟩
  · rw [List.getElem?_eq_none (by rw [cellsL_length]; omega)] at h; cases h
theorem cellsL_one (k : IntKind) (l : List Int) : ∀ u ∈ cellsL k l, u.oneCell' = true := by
  intro u hu
  obtain ⟨j, _, rfl⟩ := List.mem_map.1 hu
  rfl
theorem Row.later {k : IntKind} {w w' : World} {a : Option Addr} {l : List Int} (h : Row k w a l) (hB : Below w.heap.size w w') : Row k w' a l := by
  rcases h with ⟨rfl, rfl⟩ | ⟨x, rfl, hc⟩
  · exact .inl ⟨rfl, rfl⟩
  · refine .inr ⟨x, rfl, fun i hi => ?_⟩
    have h1 := hc i hi
    exact (hB.cell (World.block_lt_of_cell? w _ h1)).trans h1
theorem Row.drew {k : IntKind} {w : World} {a : Option Addr} {l : List Int} (h : Row k w a l) : Row k w.drew a l := h
theorem Row.take {k : IntKind} {w : World} {a : Option Addr} {l : List Int} (h : Row k w a l) (m : Nat) : Row k w a (l.take m) := by
  rcases h with ⟨rfl, rfl⟩ | ⟨x, rfl, hc⟩
  · exact .inl ⟨rfl, by simp⟩
  · refine .inr ⟨x, rfl, fun i hi => ?_⟩
    have h1 : i < l.length ∧ i < m := by simp at hi; omega
    rw [hc i h1.1]
    simp [List.getD, h1.2]
theorem Row.open {k : IntKind} {w : World} {a : Option Addr} {l : List Int} (h : Row k w a l) (hl : 0 < l.length) :
    ∃ b off, a = some ⟨b, off, none⟩ ∧ b < w.heap.size ∧ ∀ i, i < l.length → w.cell? ⟨b, off + i, none⟩ = some (.int k (l.getD i 0)) := by
  rcases h with ⟨rfl, rfl⟩ | ⟨x, rfl, hc⟩
  · simp at hl
  · obtain ⟨b, off, spot⟩ := x
    have hc0 := hc 0 hl
    have hspot : spot = none := by simpa [Addr.add] using World.cell?_spot hc0
    subst hspot
    exact ⟨b, off, rfl, World.block_lt_of_cell? w _ hc0, fun i hi => (add_none b off i) ▸ hc i hi⟩
theorem Row.mk {k : IntKind} {w : World} {b off : Nat} {l : List Int} (h : ∀ i, i < l.length → w.cell? ⟨b, off + i, none⟩ = some (.int k (l.getD i 0))) : Row k w (some ⟨b, off, none⟩) l :=
  .inr ⟨_, rfl, fun i hi => (add_none b off i).symm ▸ h i hi⟩
theorem Row.drop {k : IntKind} {w : World} {b off : Nat} {l : List Int} (h : Row k w (some ⟨b, off, none⟩) l) (m : Nat) : Row k w (some ⟨b, off + m, none⟩) (l.drop m) := by
  refine Row.mk fun i hi => ?_
  have hi' : m + i < l.length := by simp at hi; omega
  rcases h with ⟨e, _⟩ | ⟨x, e, hc⟩
  · cases e
  · injection e with e
    subst e
    have h1 := hc (m + i) hi'
    rw [add_none, ← Nat.add_assoc] at h1
    rw [h1]
    simp [List.getD]
theorem Row.one {k : IntKind} {w : World} {b : Nat} {x : Int} (h0 : w.cell? ⟨b, 0, none⟩ = some (.int k x)) : Row k w (some ⟨b, 0, none⟩) [x] := by
  refine Row.mk fun i hi => ?_
  match i, hi with
  | 0, _ => simpa using h0
theorem Row.two {k : IntKind} {w : World} {b : Nat} {x y : Int} (h0 : w.cell? ⟨b, 0, none⟩ = some (.int k x)) (h1 : w.cell? ⟨b, 1, none⟩ = some (.int k y)) : Row k w (some ⟨b, 0, none⟩) [x, y] := by
  refine Row.mk fun i hi => ?_
  match i, hi with
  | 0, _ => simpa using h0
  | 1, _ => simpa using h1

/-! ### append of rows -/
/-- A slice type t over an integer type e of kind k. -/
structure Elem (P : Program) (t e : TypeId) (k : IntKind) (bytes : Nat) : Prop where
  sl : P.underlying t = some (.slice e)
  el : P.underlying e = some (.int k)
  info : (P.info? e).map (fun i => (i.zero, i.size, i.bytes)) = some (some (.int k 0), 1, bytes)
/-- append(v, x...), v a row of the call's own, x any row (nil too). -/
theorem run_app {P : Program} {t e : TypeId} {k : IntKind} {bytes : Nat} (E : Elem P t e k bytes) (w : World) (ty base : Nat) (v : Value) (n : Nat) (l : List Int) (hown : w.ownsRow base e 1 v n (cellsL k l))
    (a : Option Addr) (m cap : Nat) (r : List Int) (hr : r.length = m) (hrow : Row k w a r) (hnil : a = none → cap = 0) (h63 : n + m ≤ maxLen) (hb : (n + m) * bytes ≤ 140737488355328) (hbase : base ≤ w.heap.size) :
    ∃ v' w', (Builtin.append_ #[t, t] ty #[v, .slice a m cap]).run P w = .ok v' w' ∧ w'.ownsRow base e 1 v' (n + m) (cellsL k (l ++ r)) ∧ w.grownBy w' v.ownBlock := by
  obtain ⟨i0, hi, hz0, hz1, hz2⟩ := info_parts E.info
  subst hr
  rcases hrow with ⟨rfl, rfl⟩ | ⟨x, rfl, hc⟩
  · obtain rfl := hnil rfl
    refine ⟨v, w, ?_, by simpa using hown, ⟨rfl, rfl, rfl, Nat.le_refl _, fun _ _ _ => rfl⟩⟩
    rcases hown.2 with ⟨rfl, rfl⟩ | ⟨g, c, cur, rfl, _, _, hnc, _⟩
    · simp [Builtin.append_, run_underlying E.sl, sizeOf, typeInfo, hi, Builtin.lenOf, Builtin.firstCells]
    · simp [Builtin.append_, run_underlying E.sl, sizeOf, typeInfo, hi, Builtin.lenOf, Builtin.firstCells, hnc, storeCells]
  · obtain ⟨v', w', h1, h2, h3, _⟩ := run_append_own (P := P) w base t ty e i0 (.int k 0) 1 bytes E.sl hi hz0 hz1 hz2 rfl (by decide) v n (cellsL k l) hown x r.length cap (cellsL k r)
      (by rw [cellsL_length, Nat.mul_one]) (fun j u hj => by obtain ⟨h, rfl⟩ := cellsL_get k r j u hj; exact hc j h) (cellsL_one k r) h63 hb hbase
    rw [← cellsL_append] at h2
    exact ⟨v', w', h1, h2, h3⟩
/-- A new copy: append(nil, x...). -/
theorem run_copy {P : Program} {t e : TypeId} {k : IntKind} {bytes : Nat} (E : Elem P t e k bytes) (w : World) (ty base : Nat) (a : Option Addr) (m cap : Nat) (r : List Int) (hr : r.length = m) (hrow : Row k w a r) (hnil : a = none → cap = 0)
    (h63 : m ≤ maxLen) (hb : m * bytes ≤ 140737488355328) (hbase : base ≤ w.heap.size) :
    ∃ v' w', (Builtin.append_ #[t, t] ty #[.slice none 0 0, .slice a m cap]).run P w = .ok v' w' ∧ w'.ownsRow base e 1 v' m (cellsL k r) ∧ w.grownBy w' none := by
  obtain ⟨v', w', h1, h2, h3⟩ := run_app E w ty base (.slice none 0 0) 0 [] (World.ownsRow_nil _ _ _ _) a m cap r hr hrow hnil (by omega) (by rw [Nat.zero_add]; exact hb) hbase
  rw [Nat.zero_add, List.nil_append] at h2
  exact ⟨v', w', h1, h2, h3⟩
/-- What a row of the call's own is. -/
theorem own_open {w : World} {base n : Nat} {e : TypeId} {k : IntKind} {v : Value} {l : List Int} (h : w.ownsRow base e 1 v n (cellsL k l)) (hl : l.length = n) :
    ∃ a c, v = .slice a n c ∧ Row k w a l ∧ (a = none → c = 0) ∧ n ≤ c ∧ c ≤ maxLen ∧ (0 < n → ∃ g, a = some ⟨g, 0, none⟩ ∧ base ≤ g ∧ g < w.heap.size ∧ (∀ i, i < n → w.cell? ⟨g, i, none⟩ = some (.int k (l.getD i 0))) ∧ ∀ o, w.frozen? ⟨g, o, none⟩ = false) := by
  have hcells := @World.ownsRow.cells _ _ _ _ _ _ _ h
  rcases h.2 with ⟨rfl, rfl⟩ | ⟨g, cap, cur, rfl, hb, hg, hnc, hcm, _⟩
  · exact ⟨none, 0, rfl, .inl ⟨rfl, List.length_eq_zero_iff.1 hl⟩, fun _ => rfl, Nat.le_refl _, Nat.zero_le _, fun h => by omega⟩
  · have hc : ∀ i, i < l.length → w.cell? ((⟨g, 0, none⟩ : Addr).add i) = some (.int k (l.getD i 0)) := fun i hi => hcells rfl i _ (cellsL_at k l i hi)
    refine ⟨_, _, rfl, .inr ⟨_, rfl, hc⟩, (fun h => by cases h), hnc, hcm, fun _ => ⟨g, rfl, hb, (h.lt g rfl).2, fun i hi => ?_, fun o => ?_⟩⟩
    · have h1 := hc i (by omega)
      rw [add_none, Nat.zero_add] at h1
      exact h1
    · simp [World.frozen?, hg]

/-! ### Strings out of bytes -/
/-- string(b), b any row of bytes (nil and empty too). -/
theorem conv_row {P : Program} {t e s : TypeId} {bytes : Nat} (E : Elem P t e .u8 bytes) (hs : P.underlying s = some .string) (w : World) (a : Option Addr) (m cap : Nat) (l : List Int) (hl : l.length = m) (hrow : Row .u8 w a l) :
    (convert t s (.slice a m cap)).run P w = .ok (.string (strOfNums l)) w := by
  subst hl
  rcases hrow with ⟨rfl, rfl⟩ | ⟨x, rfl, hc⟩
  · exact run_convert_bytes_nil (P := P) w t e E.sl E.el 0 cap s hs
  · by_cases h0 : l = []
    · subst h0
      rw [List.length_nil, run_convert_bytes_string w t s e _ 0 cap E.sl E.el hs, run_bytesToString w x 0 cap [] (by simp [loadCells, loadCellsFrom])]
      rfl
    · obtain ⟨b, off, hx, _, hcell⟩ := Row.open (k := .u8) (w := w) (.inr ⟨x, rfl, hc⟩) (List.length_pos_iff.2 h0)
      injection hx with hx
      subst hx
      exact run_convert_bytes_arg (P := P) w t e E.sl E.el b off l.length cap l rfl hcell s hs
theorem strOfNums_inj {l r : List Int} (hl : ∀ x ∈ l, 0 ≤ x ∧ x ≤ 255) (hr : ∀ x ∈ r, 0 ≤ x ∧ x ≤ 255) (h : strOfNums l = strOfNums r) : l = r := by
  have h1 : l.map (fun n => UInt8.ofNat n.toNat) = r.map (fun n => UInt8.ofNat n.toNat) := by
    rw [← strOfNums_data, ← strOfNums_data, h]
  have key : ∀ x y : Int, 0 ≤ x ∧ x ≤ 255 → 0 ≤ y ∧ y ≤ 255 → UInt8.ofNat x.toNat = UInt8.ofNat y.toNat → x = y := by
    intro x y hx hy e
    have e1 := congrArg UInt8.toNat e
    simp at e1
    omega
  clear h
  induction l generalizing r with
  | nil => cases r with
    | nil => rfl
    | cons y r => simp at h1
  | cons x l ih => cases r with
    | nil => simp at h1
    | cons y r =>
      simp only [List.map_cons, List.cons.injEq] at h1
      rw [key x y (hl x (by simp)) (hr y (by simp)) h1.1, ih (fun z hz => hl z (by simp [hz])) (fun z hz => hr z (by simp [hz])) h1.2]
end Go.Proofs.YtlbgdgobhiokpaaDoor

/-
  Whole blocks of memory, over any program: what a block holds, what a store does to it, what a call may change. For a new seat: copy as <Name>Blk.lean; put the Name for 'Seat', also in the import.
-/
namespace Go.Proofs.YtlbgdgobhiokpaaDoor
open Go.RowKit
set_option linter.unusedVariables false

/-- Block g holds these cells, and nothing of it is frozen. -/
def Blk (w : World) (g : Nat) (t : TypeId) (xs : List Value) : Prop := w.heap[g]? = some (.cells xs.toArray t (0, 0))
section
variable {w w' : World} {g : Nat} {t : TypeId} {xs : List Value}
theorem Blk.lt (h : Blk w g t xs) : g < w.heap.size := (Array.getElem?_eq_some_iff.1 h).1
theorem Blk.cell (h : Blk w g t xs) (i : Nat) : w.cell? ⟨g, i, none⟩ = xs[i]? := by
  unfold Blk at h
  simp [World.cell?, h]
theorem Blk.frozen (h : Blk w g t xs) (i : Nat) : w.frozen? ⟨g, i, none⟩ = false := by
  unfold Blk at h
  simp [World.frozen?, h]
theorem Blk.of_eq (h : Blk w g t xs) (e : w'.heap[g]? = w.heap[g]?) : Blk w' g t xs := Eq.trans e h
theorem Blk.other (h : Blk w g t xs) (a : Addr) (u : Value) (hn : g ≠ a.block) : Blk (w.setCell a u) g t xs := h.of_eq (Below.heap_setCell w a u g hn)
theorem Blk.set (h : Blk w g t xs) (i : Nat) (u : Value) : Blk (w.setCell ⟨g, i, none⟩ u) g t (xs.set i u) := by
  unfold Blk at h ⊢
  have hlt := (Array.getElem?_eq_some_iff.1 h).1
  unfold World.setCell
  simp [Array.getElem?_modify, h]
theorem Blk.alloc (h : Blk w g t xs) (o : Obj) : Blk (w.alloc o) g t xs := h.of_eq (Below.heap_alloc w o g h.lt)
theorem Blk.drew (h : Blk w g t xs) : Blk w.drew g t xs := h
theorem Blk.below {B : Nat} (h : Blk w g t xs) (hB : Below B w w') (hg : g < B) : Blk w' g t xs := h.of_eq (hB.block g hg)
theorem Blk.later (h : Blk w g t xs) (hB : Below w.heap.size w w') : Blk w' g t xs := h.below hB h.lt
theorem Blk.new (w : World) (xs : List Value) (t : TypeId) : Blk (w.alloc (.cells xs.toArray t)) w.heap.size t xs := by
  unfold Blk World.alloc
  simp
theorem Blk.newA (w : World) (xs : Array Value) (t : TypeId) : Blk (w.alloc (.cells xs t)) w.heap.size t xs.toList := by
  have := Blk.new w xs.toList t
  rwa [Array.toArray_toList] at this
/-- As a row of the call's own. -/
theorem Blk.owns (h : Blk w g t xs) (base n cap : Nat) (hb : base ≤ g) (hl : xs.length = cap) (hn : n ≤ cap) (hm : cap ≤ maxLen) : w.ownsRow base t 1 (.slice (some ⟨g, 0, none⟩) n cap) n (xs.take n) :=
  ⟨by simp; omega, .inr ⟨g, cap, xs.toArray, rfl, hb, h, hn, hm, by simp [hl], by simp⟩⟩
theorem Blk.row {k : IntKind} {l : List Int} (h : Blk w g t (cellsL k l)) : Row k w (some ⟨g, 0, none⟩) l := by
  refine Row.mk fun i hi => ?_
  rw [Nat.zero_add, h.cell, cellsL_at k l i hi]
end
theorem own_blk {w : World} {base n : Nat} {e : TypeId} {v : Value} {xs : List Value} (h : w.ownsRow base e 1 v n xs) (hn : 0 < n) :
    ∃ g cap ys, v = .slice (some ⟨g, 0, none⟩) n cap ∧ base ≤ g ∧ n ≤ cap ∧ cap ≤ maxLen ∧ ys.length = cap ∧ ys.take n = xs ∧ Blk w g e ys := by
  rcases h.2 with ⟨_, h0⟩ | ⟨g, cap, cur, rfl, hb, hg, hnc, hcm, hs, ht⟩
  · omega
  · exact ⟨g, cap, cur.toList, rfl, hb, hnc, hcm, by simpa using hs, by simpa using ht, by unfold Blk; rw [Array.toArray_toList]; exact hg⟩
theorem cellsL_set (k : IntKind) (l : List Int) (i : Nat) (x : Int) : (cellsL k l).set i (.int k x) = cellsL k (l.set i x) := by simp [cellsL, List.map_set]

/-- What a call may change: the blocks of S, and what it makes. -/
structure Upd (S : Nat → Prop) (w w' : World) : Prop where
  os : w'.os = w.os
  tape : w'.tape = w.tape
  output : w'.output = w.output
  size : w.heap.size ≤ w'.heap.size
  block : ∀ k, k < w.heap.size → ¬ S k → w'.heap[k]? = w.heap[k]?
theorem Upd.refl (S : Nat → Prop) (w : World) : Upd S w w := ⟨rfl, rfl, rfl, Nat.le_refl _, fun _ _ _ => rfl⟩
theorem Upd.of_below {S : Nat → Prop} {w w' : World} (h : Below w.heap.size w w') : Upd S w w' := ⟨h.os, h.tape, h.output, h.size, fun k hk _ => h.block k hk⟩
theorem Upd.trans {S T : Nat → Prop} {a b c : World} (h : Upd S a b) (g : Upd T b c) (hs : ∀ k, k < a.heap.size → T k → S k) : Upd S a c :=
  ⟨g.os.trans h.os, g.tape.trans h.tape, g.output.trans h.output, Nat.le_trans h.size g.size, fun k hk hn => (g.block k (Nat.lt_of_lt_of_le hk h.size) (fun ht => hn (hs k hk ht))).trans (h.block k hk hn)⟩
theorem Upd.to {S : Nat → Prop} {a b c : World} (h : Upd S a b) (g : Upd S b c) : Upd S a c := h.trans g (fun _ _ h => h)
theorem Upd.mono {S T : Nat → Prop} {a b : World} (h : Upd S a b) (hs : ∀ k, k < a.heap.size → S k → T k) : Upd T a b := ⟨h.os, h.tape, h.output, h.size, fun k hk hn => h.block k hk (fun ht => hn (hs k hk ht))⟩
theorem Upd.then {S : Nat → Prop} {a b c : World} (h : Upd S a b) (g : Below b.heap.size b c) : Upd S a c := h.trans (Upd.of_below (S := fun _ => False) g) (fun _ _ h => h.elim)
theorem Upd.below {S : Nat → Prop} {w w' : World} (h : Upd S w w') (B : Nat) (hB : B ≤ w.heap.size) (hs : ∀ k, S k → B ≤ k) : Below B w w' :=
  ⟨h.os, h.tape, h.output, h.size, fun k hk => h.block k (by omega) (fun ht => by have := hs k ht; omega)⟩
theorem Upd.set {S : Nat → Prop} {a w : World} (h : Upd S a w) (p : Addr) (u : Value) (hp : S p.block ∨ a.heap.size ≤ p.block) : Upd S a (w.setCell p u) :=
  ⟨h.os, h.tape, h.output, by rw [World.size_setCell]; exact h.size, fun k hk hn => (Below.heap_setCell w p u k (by rintro rfl; rcases hp with hp | hp; exact hn hp; omega)).trans (h.block k hk hn)⟩
theorem Upd.alloc {S : Nat → Prop} {a w : World} (h : Upd S a w) (o : Obj) : Upd S a (w.alloc o) :=
  h.then ((Below.refl _ _).alloc (Nat.le_refl _) o)
theorem Upd.drew {S : Nat → Prop} {a w : World} (h : Upd S a w) : Upd S a w.drew := ⟨h.os, h.tape, h.output, h.size, h.block⟩
theorem Upd.grown {S : Nat → Prop} {a w w' : World} {row : Option Nat} (h : Upd S a w) (hg : w.grownBy w' row) (hr : ∀ k, row = some k → S k ∨ a.heap.size ≤ k) : Upd S a w' :=
  ⟨hg.os.trans h.os, hg.tape.trans h.tape, hg.output.trans h.output, Nat.le_trans h.size hg.size, fun k hk hn => (hg.block k (Nat.lt_of_lt_of_le hk h.size) (fun e => by rcases hr k e.symm with h1 | h1; exact hn h1; omega)).trans (h.block k hk hn)⟩
theorem Blk.upd {w w' : World} {g : Nat} {t : TypeId} {xs : List Value} {S : Nat → Prop} (h : Blk w g t xs) (hu : Upd S w w') (hg : ¬ S g) : Blk w' g t xs := h.of_eq (hu.block g h.lt hg)
theorem Row.upd {k : IntKind} {w w' : World} {a : Option Addr} {l : List Int} {S : Nat → Prop} (h : Row k w a l) (hu : Upd S w w') (hg : ∀ x, a = some x → ¬ S x.block) : Row k w' a l := by
  rcases h with ⟨rfl, rfl⟩ | ⟨x, rfl, hc⟩
  · exact .inl ⟨rfl, rfl⟩
  · refine .inr ⟨x, rfl, fun i hi => ?_⟩
    have h1 := hc i hi
    have hb : (x.add i).block = x.block := by unfold Addr.add; split <;> rfl
    have hlt := World.block_lt_of_cell? w _ h1
    rw [World.cell?_of_block (w := w) (hu.block _ hlt (by rw [hb]; exact hg x rfl))]
    exact h1
end Go.Proofs.YtlbgdgobhiokpaaDoor

/-
  append of one element that is written out, over any program; where the new slice lies. For a new seat: copy as <Name>Push.lean; put the Name for 'Seat', also in the import.
-/
namespace Go.Proofs.YtlbgdgobhiokpaaDoor
open Go.RowKit
set_option linter.unusedVariables false

/-! ### append(v, x), x written out -/
theorem run_pushV {P : Program} {t e : TypeId} {z : Value} {bytes : Nat} (ht : P.underlying t = some (.slice e)) (hinfo : (P.info? e).map (fun i => (i.zero, i.size, i.bytes)) = some (some z, 1, bytes)) (hzs : z.cells.size = 1)
    (w : World) (ty base : Nat) (v : Value) (n : Nat) (xs : List Value) (hown : w.ownsRow base e 1 v n xs) (x : Value) (hx : x.oneCell' = true) (h63 : n + 1 ≤ maxLen) (hb : (n + 1) * bytes ≤ 140737488355328) (hbase : base ≤ w.heap.size) :
    ∃ g cap w', (Builtin.append_ #[t, t] ty #[v, .slice (some ⟨w.heap.size, 0, none⟩) 1 1]).run P (w.alloc (.cells #[x] e)) = .ok (.slice (some ⟨g, 0, none⟩) (n + 1) cap) w' ∧
      w'.ownsRow base e 1 (.slice (some ⟨g, 0, none⟩) (n + 1) cap) (n + 1) (xs ++ [x]) ∧ Upd (fun k => v.ownBlock = some k) w w' ∧ (v.ownBlock = some g ∨ w.heap.size ≤ g) := by
  obtain ⟨i0, hi, hz0, hz1, hz2⟩ := info_parts hinfo
  have hsz : (w.alloc (.cells #[x] e)).heap.size = w.heap.size + 1 := by simp
  obtain ⟨g, cap, w', h1, h2, h3, h4, h5⟩ := run_append_lies (P := P) (w.alloc (.cells #[x] e)) t ty base e i0 z 1 bytes ht hi hz0 hz1 hz2 hzs (by decide) v n xs (hown.alloc _) ⟨w.heap.size, 0, none⟩ 1 1 [x] rfl
    (fun j u hj => by
      have hj0 : j = 0 := by
        rcases Nat.eq_zero_or_pos j with h | h
        · exact h
        · rw [List.getElem?_eq_none h] at hj; cases hj
      subst hj0
      rw [add_none, (Blk.newA w #[x] e).cell]
      exact hj)
    (fun u hu => by simp at hu; subst hu; exact hx) (by decide) h63 hb (by omega) _ rfl
  refine ⟨g, cap, w', h1, h2, ((Upd.refl _ w).alloc _).grown h3 (fun k hk => .inl hk), ?_⟩
  rcases h4 with h4 | h4
  · exact .inl h4
  · exact .inr (by omega)
theorem run_push {P : Program} {t e : TypeId} {k : IntKind} {bytes : Nat} (E : Elem P t e k bytes) (w : World) (ty base : Nat) (v : Value) (n : Nat) (l : List Int) (hown : w.ownsRow base e 1 v n (cellsL k l)) (x : Int) (h63 : n + 1 ≤ maxLen) (hb : (n + 1) * bytes ≤ 140737488355328) (hbase : base ≤ w.heap.size) :
    ∃ g cap w', (Builtin.append_ #[t, t] ty #[v, .slice (some ⟨w.heap.size, 0, none⟩) 1 1]).run P (w.alloc (.cells #[.int k x] e)) = .ok (.slice (some ⟨g, 0, none⟩) (n + 1) cap) w' ∧
      w'.ownsRow base e 1 (.slice (some ⟨g, 0, none⟩) (n + 1) cap) (n + 1) (cellsL k (l ++ [x])) ∧ Upd (fun k => v.ownBlock = some k) w w' ∧ (v.ownBlock = some g ∨ w.heap.size ≤ g) := by
  rw [cellsL_append]
  exact run_pushV E.sl E.info rfl w ty base v n (cellsL k l) hown (.int k x) rfl h63 hb hbase
theorem owns_upd {w w' : World} {base n : Nat} {e : TypeId} {v : Value} {xs : List Value} {S : Nat → Prop} (h : w.ownsRow base e 1 v n xs) (hu : Upd S w w') (hs : ∀ k, v.ownBlock = some k → ¬ S k) : w'.ownsRow base e 1 v n xs := by
  refine ⟨h.1, ?_⟩
  rcases h.2 with hn | ⟨g, cap, cur, rfl, hb, hg, rest⟩
  · exact .inl hn
  · exact .inr ⟨g, cap, cur, rfl, hb, (hu.block g (Array.getElem?_eq_some_iff.1 hg).1 (hs g rfl)).trans hg, rest⟩
end Go.Proofs.YtlbgdgobhiokpaaDoor

/-
  Rows of values of one cell each (slices, pointers ..) of the call's own, number j being F j; blocks of two types are two; functions that grow by one. Over any program. For a new seat: copy as <Name>Rows2.lean (Rows is taken); put the Name for 'Seat', also in the import.
-/
namespace Go.Proofs.YtlbgdgobhiokpaaDoor
open Go.RowKit
set_option linter.unusedVariables false

/-! ### Blocks of two types are two -/
theorem blk_ne {w : World} {g g' : Nat} {t t' : TypeId} {xs ys : List Value} (h : Blk w g t xs) (h' : Blk w g' t' ys) (ht : t ≠ t') : g ≠ g' := by
  intro e
  subst e
  unfold Blk at h h'
  rw [h] at h'
  injection h' with h'
  injection h' with _ h3 _
  exact ht h3
theorem own_ne_t {B br n : Nat} {w : World} {v : Value} {xs ys : List Value} {t t' : TypeId} (h : w.ownsRow B t 1 v n xs) (hb : Blk w br t' ys) (ht : t ≠ t') : v.ownBlock ≠ some br := by
  intro e
  rcases h.2 with ⟨rfl, _⟩ | ⟨g, cap, cur, rfl, _, hg, _⟩
  · cases e
  · injection e with e
    have e' : g = br := e
    subst e'
    unfold Blk at hb
    rw [hb] at hg
    injection hg with hg
    injection hg with _ h3 _
    exact ht h3.symm
/-! ### Rows -/
def RowE (e : TypeId) (B : Nat) (w : World) (v : Value) (N : Nat) (F : Nat → Value) : Prop := w.ownsRow B e 1 v N ((List.range N).map F)
section
variable {e : TypeId} {B N : Nat} {w w' : World} {v : Value} {F : Nat → Value}
theorem RowE.open (h : RowE e B w v N F) (hN : 0 < N) : ∃ q cap, v = .slice (some ⟨q, 0, none⟩) N cap ∧ B ≤ q ∧ N ≤ cap ∧ cap ≤ maxLen ∧ ∀ j, j < N → w.cell? ⟨q, j, none⟩ = some (F j) := by
  obtain ⟨q, cap, ys, rfl, h1, h2, h3, h4, h5, h6⟩ := own_blk h hN
  refine ⟨q, cap, rfl, h1, h2, h3, fun j hj => ?_⟩
  rw [h6.cell j]
  have e : (ys.take N)[j]? = ys[j]? := by rw [List.getElem?_take, if_pos hj]
  rw [← e, h5]
  simp [hj]
theorem RowE.at {q cap : Nat} (h : RowE e B w (.slice (some ⟨q, 0, none⟩) N cap) N F) (j : Nat) (hj : j < N) : w.cell? ⟨q, j, none⟩ = some (F j) := by
  obtain ⟨q', cap', e, _, _, _, hc⟩ := h.open (by omega)
  injection e with e1 _ _
  injection e1 with e1
  injection e1 with e1 _ _
  subst e1
  exact hc j hj
theorem RowE.nil (e : TypeId) (B : Nat) (w : World) (F : Nat → Value) : RowE e B w (.slice none 0 0) 0 F := World.ownsRow_nil _ _ _ _
theorem RowE.congr {G : Nat → Value} (h : RowE e B w v N F) (eq : ∀ j, j < N → F j = G j) : RowE e B w v N G := by
  unfold RowE at h ⊢
  rw [← List.map_congr_left (fun j hj => eq j (List.mem_range.1 hj))]
  exact h
theorem RowE.upd {S : Nat → Prop} (h : RowE e B w v N F) (hu : Upd S w w') (hs : ∀ k, v.ownBlock = some k → ¬ S k) : RowE e B w' v N F := owns_upd h hu hs
theorem RowE.later (h : RowE e B w v N F) (hB : Below w.heap.size w w') : RowE e B w' v N F := h.upd (Upd.of_below (S := fun _ => False) hB) (fun _ _ h => h)
theorem RowE.lt (h : RowE e B w v N F) (k : Nat) (hk : v.ownBlock = some k) : B ≤ k ∧ k < w.heap.size := World.ownsRow.lt h k hk
/-- append(v, x), x written out. -/
theorem RowE.push {P : Program} {t : TypeId} {z : Value} {bytes : Nat} (ht : P.underlying t = some (.slice e)) (hinfo : (P.info? e).map (fun i => (i.zero, i.size, i.bytes)) = some (some z, 1, bytes)) (hzs : z.cells.size = 1)
    (h : RowE e B w v N F) (hx : (F N).oneCell' = true) (h63 : N + 1 ≤ maxLen) (hb : (N + 1) * bytes ≤ 140737488355328) (hB : B ≤ w.heap.size) (ty : Nat) :
    ∃ g cap w', (Builtin.append_ #[t, t] ty #[v, .slice (some ⟨w.heap.size, 0, none⟩) 1 1]).run P (w.alloc (.cells #[F N] e)) = .ok (.slice (some ⟨g, 0, none⟩) (N + 1) cap) w' ∧
      RowE e B w' (.slice (some ⟨g, 0, none⟩) (N + 1) cap) (N + 1) F ∧ Upd (fun k => v.ownBlock = some k) w w' ∧ (v.ownBlock = some g ∨ w.heap.size ≤ g) := by
  obtain ⟨g, cap, w', h1, h2, h3, h4⟩ := run_pushV ht hinfo hzs w ty B v N _ h (F N) hx h63 hb hB
  refine ⟨g, cap, w', h1, ?_, h3, h4⟩
  unfold RowE
  rw [List.range_succ, List.map_append]
  exact h2
end
def ext {α : Type} (g : Nat → α) (N : Nat) (x : α) (j : Nat) : α := if j = N then x else g j
theorem ext_at {α : Type} (g : Nat → α) (N : Nat) (x : α) : ext g N x N = x := by unfold ext; rw [if_pos rfl]
theorem ext_ne {α : Type} (g : Nat → α) (N : Nat) (x : α) (j : Nat) (h : j ≠ N) : ext g N x j = g j := by unfold ext; rw [if_neg h]
/-! ### append(v, x) onto a full row of integers: what was there stays -/
theorem run_push_full {P : Program} {t e : TypeId} {k : IntKind} {bytes : Nat} (E : Elem P t e k bytes) (w : World) (ty g n : Nat) (l : List Int) (x : Int) (hl : l.length = n) (hb : Blk w g e (cellsL k l)) (h63 : n + 1 ≤ maxLen) (hby : (n + 1) * bytes ≤ 140737488355328) :
    ∃ g' cap w', (Builtin.append_ #[t, t] ty #[.slice (some ⟨g, 0, none⟩) n n, .slice (some ⟨w.heap.size, 0, none⟩) 1 1]).run P (w.alloc (.cells #[.int k x] e)) = .ok (.slice (some ⟨g', 0, none⟩) (n + 1) cap) w' ∧
      w'.ownsRow w.heap.size e 1 (.slice (some ⟨g', 0, none⟩) (n + 1) cap) (n + 1) (cellsL k (l ++ [x])) ∧ Below w.heap.size w w' := by
  obtain ⟨i0, hi, hz0, hz1, hz2⟩ := info_parts E.info
  have hbl := Blk.newA w #[.int k x] e
  have hBa : Below w.heap.size w (w.alloc (.cells #[.int k x] e)) := (Below.refl _ _).alloc (Nat.le_refl _) _
  have hb1 := hb.later hBa
  obtain ⟨v1, w1, r1, o1, gr1⟩ := run_append_arg_grows (P := P) (w.alloc (.cells #[.int k x] e)) t ty e i0 (.int k 0) 1 bytes E.sl hi hz0 hz1 hz2 rfl (by decide)
    ⟨g, 0, none⟩ n n (cellsL k l) (by rw [cellsL_length, Nat.mul_one]; exact hl)
    (fun j u hj => by rw [add_none, Nat.zero_add, hb1.cell j]; exact hj) ⟨w.heap.size, 0, none⟩ 1 1 [.int k x] rfl
    (fun j u hj => by rw [add_none, Nat.zero_add, hbl.cell j]; exact hj) (by omega) h63 hby
  have hBg : Below w.heap.size w w1 := below_to hBa ((Below.refl _ _).grown gr1 (Nat.le_refl _) (fun k hk => by cases hk))
  obtain ⟨x', dx, ys, rfl, hx, h4, h5, h6, h7, h8⟩ := own_blk o1 (by omega)
  refine ⟨x', dx, w1, r1, ?_, hBg⟩
  have := h8.owns w.heap.size (n + 1) dx (Nat.le_trans hBa.size hx) h6 h4 h5
  rw [h7] at this
  rw [cellsL_append]
  exact this
end Go.Proofs.YtlbgdgobhiokpaaDoor

/- Nodes and lists of nodes, plain; nodes in memory. -/
namespace Go.Proofs.YtlbgdgobhiokpaaDoor
open Go.RowKit
set_option linter.unusedVariables false

/-- A node: kind, number, how many kids. -/
abbrev Nd := Int × Int × Int
def nil0 : Nd := (0, 0, 0)
def mostN (k : Int) : Int := if k = 1 then 18446744073709551615 else if k = 2 then 1 else if k = 6 then 255 else 0
def leastK (k : Int) : Int := if k = 4 then 1 else if k = 6 then 1 else 0
def mostK (k : Int) : Int := if k = 3 then 1048576 else if k = 4 then 64 else if k = 5 then 1 else if k = 6 then 1 else 0
def isK (k : Int) : Bool := decide (1 ≤ k ∧ k ≤ 6)
def right (x : Nd) : Bool := decide ((1 ≤ x.1 ∧ x.1 ≤ 6) ∧ x.2.1 ≤ mostN x.1 ∧ leastK x.1 ≤ x.2.2 ∧ x.2.2 ≤ mostK x.1)
theorem right_iff (x : Nd) : right x = true ↔ (1 ≤ x.1 ∧ x.1 ≤ 6) ∧ x.2.1 ≤ mostN x.1 ∧ leastK x.1 ≤ x.2.2 ∧ x.2.2 ≤ mostK x.1 := by simp [right]
theorem right_kids {x : Nd} (h : right x = true) : 0 ≤ x.2.2 ∧ x.2.2 ≤ 1048576 := by
  have h := (right_iff x).1 h
  unfold leastK mostK at h
  split at h <;> (try split at h) <;> (try split at h) <;> (try split at h) <;> omega
/-- Check: so many values are still missing, so many nodes are ahead. -/
def chk (m a : Int) : List Nd → Int × Int
  | [] => if 0 < m then (40, a) else (0, 0)
  | x :: l => if m = 0 ∨ right x = false then (40, a) else chk (m + (x.2.2 - 1)) (a + 1) l
/-- How many nodes so many values have. -/
def bh : Nat → List Nd → Nat
  | 0, _ => 0
  | _ + 1, [] => 0
  | m + 1, x :: l => bh (m + x.2.2.toNat) l + 1

def ndc (x : Nd) : List Value := [.int .i64 x.1, .int .u64 x.2.1, .int .i64 x.2.2]
def ndv (x : Nd) : Value := .agg #[.int .i64 x.1, .int .u64 x.2.1, .int .i64 x.2.2]
/-- It is empty, or its cells hold these nodes. -/
def NRow (w : World) (a : Option Addr) (l : List Nd) : Prop :=
  l = [] ∨ ∃ b off, a = some ⟨b, off, none⟩ ∧ b < w.heap.size ∧ ∀ i, i < l.length →
    w.cell? ⟨b, off + i * 3, none⟩ = some (.int .i64 (l.getD i nil0).1) ∧ w.cell? ⟨b, off + i * 3 + 1, none⟩ = some (.int .u64 (l.getD i nil0).2.1) ∧ w.cell? ⟨b, off + i * 3 + 2, none⟩ = some (.int .i64 (l.getD i nil0).2.2)
section
variable {w w' : World} {a : Option Addr} {l : List Nd}
theorem NRow.open (h : NRow w a l) (hl : 0 < l.length) : ∃ b off, a = some ⟨b, off, none⟩ ∧ b < w.heap.size ∧ ∀ i, i < l.length →
    w.cell? ⟨b, off + i * 3, none⟩ = some (.int .i64 (l.getD i nil0).1) ∧ w.cell? ⟨b, off + i * 3 + 1, none⟩ = some (.int .u64 (l.getD i nil0).2.1) ∧ w.cell? ⟨b, off + i * 3 + 2, none⟩ = some (.int .i64 (l.getD i nil0).2.2) := by
  rcases h with rfl | h
  · simp at hl
  · exact h
theorem NRow.below {B : Nat} (h : NRow w a l) (hB : Below B w w') (hb : ∀ x, a = some x → x.block < B) : NRow w' a l := by
  rcases h with h | ⟨b, off, rfl, hlt, hc⟩
  · exact .inl h
  · have hb1 : b < B := hb _ rfl
    refine .inr ⟨b, off, rfl, Nat.lt_of_lt_of_le hlt hB.size, fun i hi => ?_⟩
    obtain ⟨c0, c1, c2⟩ := hc i hi
    exact ⟨(hB.cell (p := ⟨b, _, none⟩) hb1).trans c0, (hB.cell (p := ⟨b, _, none⟩) hb1).trans c1, (hB.cell (p := ⟨b, _, none⟩) hb1).trans c2⟩
theorem NRow.later (h : NRow w a l) (hB : Below w.heap.size w w') : NRow w' a l := by
  rcases h with h | ⟨b, off, rfl, hlt, hc⟩
  · exact .inl h
  · exact NRow.below (.inr ⟨b, off, rfl, hlt, hc⟩) hB fun x hx => by cases hx; exact hlt
theorem NRow.take (h : NRow w a l) (m : Nat) : NRow w a (l.take m) := by
  rcases h with rfl | ⟨b, off, rfl, hlt, hc⟩
  · exact .inl (by simp)
  · refine .inr ⟨b, off, rfl, hlt, fun i hi => ?_⟩
    have h1 : i < l.length ∧ i < m := by simp at hi; omega
    have h2 : (l.take m).getD i nil0 = l.getD i nil0 := by simp [List.getD, h1.2]
    rw [h2]
    exact hc i h1.1
theorem NRow.upd {S : Nat → Prop} (h : NRow w a l) (hu : Upd S w w') (hg : ∀ x, a = some x → ¬ S x.block) : NRow w' a l := by
  rcases h with h | ⟨b, off, rfl, hlt, hc⟩
  · exact .inl h
  · refine .inr ⟨b, off, rfl, Nat.lt_of_lt_of_le hlt hu.size, fun i hi => ?_⟩
    have he : ∀ o, w'.cell? ⟨b, o, none⟩ = w.cell? ⟨b, o, none⟩ := fun o => World.cell?_of_block (w := w) (hu.block b hlt (hg _ rfl))
    rw [he, he, he]
    exact hc i hi
end
end Go.Proofs.YtlbgdgobhiokpaaDoor

/- boundsOf, right, Check, behind, checkPlace, Next, Kid. -/
namespace Go.Proofs.YtlbgdgobhiokpaaDoor
open Go.RowKit
set_option linter.unusedVariables false

theorem results_cell_tmp_row {P : Program} {fn : Func} {p u : Tmp} {ty : TypeId} (h : fn.results = #[.cell p ty, .tmp u]) (tmps : Array Value) (w : World) (g : Nat) (t : TypeId) (cs : Array Value) (fr : Nat × Nat) (d : TypeDesc)
    (hp : tmps.getD p undef = .pointer (some ⟨g, 0, none⟩)) (hg : w.heap[g]? = some (.cells cs t fr))
    (hu : P.underlying ty = some d) (hd : (match d with | .struct _ | .array _ _ => true | _ => false) = true) (hi : (P.info? ty).map (·.size) = some cs.size) :
    (results fn tmps).run P w = .ok (.tuple #[.agg cs, tmps.getD u undef]) w := by
  have hp' : tmps[p]?.getD undef = .pointer (some ⟨g, 0, none⟩) := by simpa using hp
  rw [results_cell_tmp h]
  simp [hp', asAddr, Result.andThen, run_loadVar_row w g t ty cs fr d hg hu hd hi]
theorem results_tmp_cell_row {P : Program} {fn : Func} {p u : Tmp} {ty : TypeId} (h : fn.results = #[.tmp u, .cell p ty]) (tmps : Array Value) (w : World) (g : Nat) (t : TypeId) (cs : Array Value) (fr : Nat × Nat) (d : TypeDesc)
    (hp : tmps.getD p undef = .pointer (some ⟨g, 0, none⟩)) (hg : w.heap[g]? = some (.cells cs t fr))
    (hu : P.underlying ty = some d) (hd : (match d with | .struct _ | .array _ _ => true | _ => false) = true) (hi : (P.info? ty).map (·.size) = some cs.size) :
    (results fn tmps).run P w = .ok (.tuple #[tmps.getD u undef, .agg cs]) w := by
  have hp' : tmps[p]?.getD undef = .pointer (some ⟨g, 0, none⟩) := by simpa using hp
  simp only [results, h]
  simp [hp', asAddr, Result.andThen, run_loadVar_row w g t ty cs fr d hg hu hd hi]
theorem new_cells (w : World) (cs : Array Value) (t : TypeId) : (w.alloc (.cells cs t)).heap[w.heap.size]? = some (.cells cs t (0, 0)) := by
  have h := Blk.newA w cs t
  unfold Blk at h
  rwa [Array.toArray_toList] at h

def bnd (k : Int) : Value := .agg #[.int .u64 (mostN k), .int .i64 (leastK k), .int .i64 (mostK k)]
set_option maxRecDepth 100000 in
set_option maxHeartbeats 4000000 in
theorem bounds_any (k : Int) (w : World) : Calls Tryd.prog 44 #[.int .i64 k] w fun e w' => e = .returned (.tuple #[bnd k, .bool (isK k)]) ∧ Below w.heap.size w w' := by
  go_enter Tryd.func44, Tryd.ntmps44
  by_cases h1 : k = 1
  · subst h1; go_wp2; exact bodyPost_ret (results_cell_tmp_row rfl _ _ _ _ _ _ _ rfl (new_cells _ _ _) Tryd.underlying105 rfl (by kernel_rfl)) rfl ⟨rfl, (Below.refl _ _).alloc (Nat.le_refl _) _⟩
  by_cases h2 : k = 2
  · subst h2; go_wp2; exact bodyPost_ret (results_cell_tmp_row rfl _ _ _ _ _ _ _ rfl (new_cells _ _ _) Tryd.underlying105 rfl (by kernel_rfl)) rfl ⟨rfl, (Below.refl _ _).alloc (Nat.le_refl _) _⟩
  by_cases h3 : k = 3
  · subst h3; go_wp2; exact bodyPost_ret (results_cell_tmp_row rfl _ _ _ _ _ _ _ rfl (new_cells _ _ _) Tryd.underlying105 rfl (by kernel_rfl)) rfl ⟨rfl, (Below.refl _ _).alloc (Nat.le_refl _) _⟩
  by_cases h4 : k = 4
  · subst h4; go_wp2; exact bodyPost_ret (results_cell_tmp_row rfl _ _ _ _ _ _ _ rfl (new_cells _ _ _) Tryd.underlying105 rfl (by kernel_rfl)) rfl ⟨rfl, (Below.refl _ _).alloc (Nat.le_refl _) _⟩
  by_cases h5 : k = 5
  · subst h5; go_wp2; exact bodyPost_ret (results_cell_tmp_row rfl _ _ _ _ _ _ _ rfl (new_cells _ _ _) Tryd.underlying105 rfl (by kernel_rfl)) rfl ⟨rfl, (Below.refl _ _).alloc (Nat.le_refl _) _⟩
  by_cases h6 : k = 6
  · subst h6; go_wp2; exact bodyPost_ret (results_cell_tmp_row rfl _ _ _ _ _ _ _ rfl (new_cells _ _ _) Tryd.underlying105 rfl (by kernel_rfl)) rfl ⟨rfl, (Below.refl _ _).alloc (Nat.le_refl _) _⟩
  · have hk : isK k = false := by simp [isK]; omega
    have hb : bnd k = .agg #[.int .u64 0, .int .i64 0, .int .i64 0] := by simp [bnd, mostN, leastK, mostK, h1, h2, h3, h4, h5, h6]
    go_wp2
    exact bodyPost_ret (results_cell_tmp_row rfl _ _ _ _ _ _ _ rfl (new_cells _ _ _) Tryd.underlying105 rfl (by kernel_rfl)) rfl ⟨by rw [hb, hk]; rfl, (Below.refl _ _).alloc (Nat.le_refl _) _⟩
set_option maxRecDepth 100000 in
set_option maxHeartbeats 4000000 in
theorem right_any (x : Nd) (w : World) : Calls Tryd.prog 39 #[ndv x] w fun e w' => e = .returned (.bool (right x)) ∧ Below w.heap.size w w' := by
  obtain ⟨k, n, c⟩ := x
  unfold ndv
  go_enter Tryd.func39, Tryd.ntmps39
  go_wp2_with fail
  refine (bounds_any k _).mono ?_; rintro e w1 ⟨rfl, hB1⟩
  have hB : Below w.heap.size w w1 := ((Below.refl _ _).alloc (Nat.le_refl _) _).trans (hB1.mono (by simp))
  have K1 := (Blk.newA w #[.int .i64 k, .int .u64 n, .int .i64 c] 37).later hB1
  have c1 : ∀ o, (w1.alloc o).cell? ⟨w.heap.size, 1, none⟩ = some (.int .u64 n) := fun o => (K1.alloc o).cell 1
  have c2 : ∀ o, (w1.alloc o).cell? ⟨w.heap.size, 2, none⟩ = some (.int .i64 c) := fun o => (K1.alloc o).cell 2
  clear K1
  by_cases hk : isK k = true
  · have hk' : 1 ≤ k ∧ k ≤ 6 := by simpa [isK] using hk
    rw [hk]; unfold bnd
    by_cases hn : n ≤ mostN k
    · by_cases hl : leastK k ≤ c
      · by_cases hm : c ≤ mostK k
        · have hr : right (k, n, c) = true := (right_iff _).2 ⟨hk', hn, hl, hm⟩
          go_wp2
          go_ret
          exact ⟨by first | rfl | (rw [hr]; rfl) | (show Ending.returned (.bool (decide (c ≤ mostK k))) = _; simp [hm, hr]), hB.alloc (by have := hB.size; omega) _⟩
        · have hr : right (k, n, c) = false := by simp [right]; intros; omega
          go_wp2
          go_ret
          exact ⟨by first | rfl | (rw [hr]; rfl) | (show Ending.returned (.bool (decide (c ≤ mostK k))) = _; simp [hm, hr]), hB.alloc (by have := hB.size; omega) _⟩
      · have hr : right (k, n, c) = false := by simp [right]; intros; omega
        go_wp2
        go_ret
        exact ⟨by first | rfl | (rw [hr]; rfl) | (show Ending.returned (.bool (decide (c ≤ mostK k))) = _; simp [hm, hr]), hB.alloc (by have := hB.size; omega) _⟩
    · have hr : right (k, n, c) = false := by simp [right]; intros; omega
      go_wp2
      go_ret
      exact ⟨by first | rfl | (rw [hr]; rfl) | (show Ending.returned (.bool (decide (c ≤ mostK k))) = _; simp [hm, hr]), hB.alloc (by have := hB.size; omega) _⟩
  · have hk1 : isK k = false := by simpa using hk
    have hr : right (k, n, c) = false := by simp [isK] at hk1; simp [right]; intros; omega
    rw [hk1]
    unfold bnd
    go_wp2
    go_ret
    exact ⟨by first | rfl | (rw [hr]; rfl) | (show Ending.returned (.bool (decide (c ≤ mostK k))) = _; simp [hm, hr]), hB.alloc (by have := hB.size; omega) _⟩
end Go.Proofs.YtlbgdgobhiokpaaDoor

/- Check, behind, checkPlace, Next, Kid. -/
namespace Go.Proofs.YtlbgdgobhiokpaaDoor
open Go.RowKit
set_option linter.unusedVariables false

def fltv (p : Int × Int) : Value := .agg #[.int .i64 p.1, .int .i64 p.2]
theorem ret17 {R : Ending → World → Prop} {tmps : Array Value} {g : Nat} {x y : Value} {w : World} (hp : tmps.getD 2 undef = .pointer (some ⟨g, 0, none⟩)) (hK : Blk w g 29 [x, y]) (hR : R (.returned (.agg #[x, y])) w) :
    bodyPost Tryd.prog Tryd.f17 R Exit.ret ⟨tmps, []⟩ w :=
  bodyPost_ret (results_cell_row rfl _ _ _ _ #[x, y] _ _ hp hK Tryd.underlying29 rfl (by show _ = some 2; kernel_rfl)) rfl hR
set_option maxRecDepth 100000 in
set_option maxHeartbeats 4000000 in
theorem check_any (a : Option Addr) (len cap : Nat) (l : List Nd) (w : World) (hl : l.length = len) (hs : len ≤ 1000000) (hr : Hid (NRow w a l)) :
    Calls Tryd.prog 17 #[.slice a len cap] w fun e w' => e = .returned (fltv (chk 1 0 l)) ∧ Below w.heap.size w w' := by
  go_enter Tryd.func17, Tryd.ntmps17
  go_wp2_with fail
  go_loopw [3, 8] (fun m i wr => ∃ (M : Int) (k : Nat), k ≤ len ∧ i = .int .i64 k ∧ m = .int .i64 M ∧ 0 ≤ M ∧ M ≤ 1 + 1048576 * (k : Int) ∧ Hid (chk M k (l.drop k) = chk 1 0 l) ∧ Hid (Blk wr w.heap.size 29 [.int .i64 0, .int .i64 0]) ∧ Hid (Below w.heap.size w wr)) (fun _ i _ => len - (intOf i).toNat)
  case atStart => exact ⟨1, 0, Nat.zero_le _, rfl, rfl, by omega, by omega, rfl, Blk.newA w _ 29, (Below.refl _ _).alloc (Nat.le_refl _) _⟩
  case round =>
    obtain ⟨M, k, hk, rfl, rfl, hM0, hM1, HC, HK, HB⟩ := hrel
    by_cases hlt : k < len
    · obtain ⟨b, off, rfl, hb, hc⟩ := hr.out.open (by omega)
      obtain ⟨c0, c1, c2⟩ := hc k (by omega)
      have hlt' : (k : Int) < len := by omega
      have d0 := (HB.out.cell (p := ⟨b, off + k * 3, none⟩) hb).trans c0
      have d1 := (HB.out.cell (p := ⟨b, off + k * 3 + 1, none⟩) hb).trans c1
      have d2 := (HB.out.cell (p := ⟨b, off + k * 3 + 2, none⟩) hb).trans c2
      have hdrop : l.drop k = l.getD k nil0 :: l.drop (k + 1) := by
        rw [List.drop_eq_getElem_cons (by omega)]; simp [List.getD, List.getElem?_eq_getElem (show k < l.length by omega)]
      have HC1 : Hid (chk M k (l.getD k nil0 :: l.drop (k + 1)) = chk 1 0 l) := hdrop ▸ HC.out
      clear hdrop hc c0 c1 c2 HC
      generalize l.getD k nil0 = x at *
      obtain ⟨xk, xn, xc⟩ := x
      by_cases hM : M = 0
      · subst hM
        have e0 : ∀ o, (wr.alloc o).cell? ⟨w.heap.size, 0, none⟩ = some (.int .i64 0) := fun o => (HK.out.alloc o).cell 0
        have e1 : ∀ o, (wr.alloc o).cell? ⟨w.heap.size, 1, none⟩ = some (.int .i64 0) := fun o => (HK.out.alloc o).cell 1
        have z0 : ∀ o, (wr.alloc o).frozen? ⟨w.heap.size, 0, none⟩ = false := fun o => (HK.out.alloc o).frozen 0
        have z1 : ∀ o, (wr.alloc o).frozen? ⟨w.heap.size, 1, none⟩ = false := fun o => (HK.out.alloc o).frozen 1
        go_wp2
        exact ret17 rfl (((HK.out.alloc _).set 0 _).set 1 _) ⟨by have := HC1.out; rw [chk, if_pos (.inl rfl)] at this; rw [← this]; rfl, ((HB.out.alloc (by have := HB.out.size; omega) _).setCell (Nat.le_refl _) _).setCell (Nat.le_refl _) _⟩
      · have e2 : ∀ o, (wr.alloc o).cell? ⟨w.heap.size, 0, none⟩ = some (.int .i64 0) := fun o => (HK.out.alloc o).cell 0
        go_wp2_with fail
        refine (right_any (xk, xn, xc) _).mono ?_; rintro e w1 ⟨rfl, hB1⟩
        have HK1 := (HK.out.alloc (.cells #[.int .i64 xk, .int .u64 xn, .int .i64 xc] 37)).later hB1
        have e0 := HK1.cell 0; have e1 := HK1.cell 1; have z0 := HK1.frozen 0; have z1 := HK1.frozen 1
        simp at e0 e1
        have HX := (Blk.newA wr #[.int .i64 xk, .int .u64 xn, .int .i64 xc] 37).later hB1
        have f2 := HX.cell 2
        simp at f2
        have HB1 : Hid (Below w.heap.size w w1) := (HB.out.alloc (by have := HB.out.size; omega) _).trans (hB1.mono (by have := HB.out.size; simp; omega))
        clear hB1 HX d0 d1 d2
        by_cases hx : right (xk, xn, xc) = true
        · have HC2 : Hid (chk (M + (xc - 1)) (k + 1) (l.drop (k + 1)) = chk 1 0 l) := by
            have := HC1.out
            rw [chk, if_neg (by simp [hM, hx])] at this
            exact this
          have hxc := right_kids hx
          simp only at hxc
          have HK2 : Hid (Blk w1 w.heap.size 29 [.int .i64 0, .int .i64 0]) := HK1
          clear e0 e1 z0 z1 HC1 HK1 HK HB hr
          rw [hx]
          go_wp2
          go_roundw
          case rel => exact ⟨M + (xc - 1), k + 1, by omega, by go_num, by go_num, by omega, by omega, by simpa using HC2, HK2, HB1⟩
          case measure => simp [intOf]; omega
        · have hx' : right (xk, xn, xc) = false := by simpa using hx
          rw [hx']
          go_wp2
          exact ret17 rfl ((HK1.set 0 _).set 1 _) ⟨by have := HC1.out; rw [chk, if_pos (.inr hx')] at this; rw [← this]; rfl, (HB1.out.setCell (Nat.le_refl _) _).setCell (Nat.le_refl _) _⟩
    · obtain rfl : k = len := by omega
      have e0 := HK.out.cell 0; have e1 := HK.out.cell 1; have z0 := HK.out.frozen 0; have z1 := HK.out.frozen 1
      simp at e0 e1
      have HC1 := HC.out
      rw [List.drop_eq_nil_of_le (by omega), chk] at HC1
      by_cases hM : 0 < M
      · rw [if_pos hM] at HC1
        have HC2 : Hid _ := HC1
        clear HC1
        go_wp2
        exact ret17 rfl ((HK.out.set 0 _).set 1 _) ⟨by rw [← HC2.out]; rfl, (HB.out.setCell (Nat.le_refl _) _).setCell (Nat.le_refl _) _⟩
      · rw [if_neg hM] at HC1
        have HC2 : Hid _ := HC1
        clear HC1
        go_wp2
        exact ret17 rfl ((HK.out.set 0 _).set 1 _) ⟨by rw [← HC2.out]; rfl, (HB.out.setCell (Nat.le_refl _) _).setCell (Nat.le_refl _) _⟩

/-! ### Plain: so many values -/
theorem bh_zero (l : List Nd) : bh 0 l = 0 := by cases l <;> rfl
theorem bh_le : ∀ (l : List Nd) (m : Nat), bh m l ≤ l.length
  | [], 0 => Nat.le_refl _
  | [], _ + 1 => Nat.le_refl _
  | _ :: _, 0 => Nat.zero_le _
  | x :: l, m + 1 => by have := bh_le l (m + x.2.2.toNat); simp only [bh, List.length_cons]; omega
/-- All kids' numbers are 0 or more, and there are nodes enough for so many values. -/
def Enough : Nat → List Nd → Prop
  | 0, _ => True
  | _ + 1, [] => False
  | m + 1, x :: l => 0 ≤ x.2.2 ∧ x.2.2 ≤ 1048576 ∧ Enough (m + x.2.2.toNat) l
theorem Enough.mono : ∀ {l : List Nd} {m n : Nat}, Enough m l → n ≤ m → Enough n l
  | l, _, 0, _, _ => by cases l <;> exact trivial
  | [], m + 1, n + 1, h, _ => h.elim
  | x :: l, m + 1, n + 1, h, hn => ⟨h.1, h.2.1, h.2.2.mono (by omega)⟩
  | _, 0, n + 1, _, hn => by omega
/-- First some, then the others. -/
theorem bh_add : ∀ (l : List Nd) (m n : Nat), bh (m + n) l = bh m l + bh n (l.drop (bh m l))
  | l, 0, n => by simp [bh_zero]
  | [], m + 1, n => by rw [show m + 1 + n = (m + n) + 1 by omega]; simp [bh]; cases n <;> rfl
  | x :: l, m + 1, n => by
    rw [show m + 1 + n = (m + n) + 1 by omega]
    simp only [bh, List.drop_succ_cons]
    rw [show m + n + x.2.2.toNat = (m + x.2.2.toNat) + n by omega, bh_add l _ n]
    omega
theorem Enough.drop : ∀ {l : List Nd} {m n : Nat}, Enough (m + n) l → Enough n (l.drop (bh m l))
  | l, 0, n, h => by simpa [bh_zero] using h
  | [], m + 1, n, h => by rw [show m + 1 + n = (m + n) + 1 by omega] at h; exact h.elim
  | x :: l, m + 1, n, h => by
    rw [show m + 1 + n = (m + n) + 1 by omega] at h
    simp only [bh, List.drop_succ_cons]
    have := h.2.2
    rw [show m + n + x.2.2.toNat = (m + x.2.2.toNat) + n by omega] at this
    exact this.drop
theorem chk_err : ∀ (l : List Nd) (m a : Int), (chk m a l).1 = 0 ∨ (chk m a l).1 = 40
  | [], m, a => by unfold chk; split <;> simp
  | x :: l, m, a => by
    unfold chk
    split
    · simp
    · exact chk_err l _ _
/-- A list that Check takes: from each place on there are just the nodes that are wanted. -/
theorem chk_enough : ∀ (l : List Nd) (m : Nat) (a : Int), (chk m a l).1 = 0 → Enough m l ∧ bh m l = l.length ∧ ∀ x ∈ l, right x = true
  | [], m, a, h => by
    unfold chk at h
    split at h
    · simp at h
    · obtain rfl : m = 0 := by omega
      exact ⟨trivial, rfl, by simp⟩
  | x :: l, m, a, h => by
    unfold chk at h
    split at h
    · simp at h
    · rename_i hn
      rw [not_or] at hn
      have hx : right x = true := by simpa using hn.2
      have hc := right_kids hx
      obtain ⟨k, rfl⟩ : ∃ k, m = k + 1 := ⟨m - 1, by omega⟩
      have hm : ((k + 1 : Nat) : Int) + (x.2.2 - 1) = ((k + x.2.2.toNat : Nat) : Int) := by omega
      rw [hm] at h
      obtain ⟨h1, h2, h3⟩ := chk_enough l _ _ h
      exact ⟨⟨hc.1, hc.2, h1⟩, by simp [bh, h2], by simpa [hx] using h3⟩
/-- .. and so from each of its places on. -/
theorem chk_at : ∀ (l : List Nd) (m : Nat) (a : Int) (i : Nat), (chk m a l).1 = 0 → i < l.length → Enough 1 (l.drop i)
  | [], _, _, i, _, hi => by simp at hi
  | x :: l, m, a, 0, h, _ => by
    have h1 := (chk_enough _ _ _ h)
    cases m with
    | zero => simp [bh] at h1
    | succ m => exact h1.1.mono (by omega)
  | x :: l, m, a, i + 1, h, hi => by
    unfold chk at h
    split at h
    · simp at h
    · rename_i hn
      rw [not_or] at hn
      have hc := right_kids (x := x) (by simpa using hn.2)
      obtain ⟨k, rfl⟩ : ∃ k, m = k + 1 := ⟨m - 1, by omega⟩
      rw [show ((k + 1 : Nat) : Int) + (x.2.2 - 1) = ((k + x.2.2.toNat : Nat) : Int) by omega] at h
      simpa using chk_at l _ _ i h (by simpa using hi)
end Go.Proofs.YtlbgdgobhiokpaaDoor

/- behind, checkPlace, Next, Kid. -/
namespace Go.Proofs.YtlbgdgobhiokpaaDoor
open Go.RowKit
set_option linter.unusedVariables false

theorem drop_at (l : List Nd) (k : Nat) (h : k < l.length) : l.drop k = l.getD k nil0 :: l.drop (k + 1) := by
  rw [List.drop_eq_getElem_cons h]; simp [List.getD, List.getElem?_eq_getElem h]
set_option maxRecDepth 100000 in
set_option maxHeartbeats 4000000 in
theorem behind_any (a : Option Addr) (len cap p v : Nat) (l : List Nd) (w : World) (hl : l.length = len) (hs : len ≤ 1000000) (hp : p ≤ len) (hv : v ≤ 1048576) (hr : Hid (NRow w a l)) (he : Hid (Enough v (l.drop p))) :
    Calls Tryd.prog 41 #[.slice a len cap, .int .i64 p, .int .i64 v] w fun e w' => e = .returned (.int .i64 ((p + bh v (l.drop p) : Nat) : Int)) ∧ w = w' := by
  go_enter Tryd.func41, Tryd.ntmps41
  go_wp2_with fail
  go_loopw [1, 2] (fun i m wr => ∃ (q u : Nat), q ≤ len ∧ p ≤ q ∧ i = .int .i64 q ∧ m = .int .i64 u ∧ u ≤ 1048576 * (q + 1) ∧ Hid (Enough u (l.drop q)) ∧ Hid (q + bh u (l.drop q) = p + bh v (l.drop p)) ∧ w = wr) (fun i _ _ => len - (intOf i).toNat)
  case atStart => exact ⟨p, v, hp, Nat.le_refl _, rfl, rfl, by omega, he, rfl, rfl⟩
  case round =>
    clear he
    obtain ⟨q, u, hq, hpq, rfl, rfl, hu, HE, HQ, rfl⟩ := hrel
    cases u with
    | zero =>
      go_wp2
      go_ret
      refine ⟨?_, rfl⟩
      have := HQ.out
      rw [bh_zero, Nat.add_zero] at this
      exact ret_int (congrArg Nat.cast this)
    | succ u =>
      have hlt : q < len := by
        rcases Nat.lt_or_ge q len with h | h
        · exact h
        · have := HE.out
          rw [List.drop_eq_nil_of_le (by omega)] at this
          exact this.elim
      obtain ⟨b, off, rfl, hb, hc⟩ := hr.out.open (by omega)
      obtain ⟨-, -, c2⟩ := hc q (by omega)
      have HE1 := HE.out
      have HQ1 := HQ.out
      rw [drop_at l q (by omega)] at HE1 HQ1
      obtain ⟨x0, x1, HE2⟩ := HE1
      rw [bh] at HQ1
      generalize (l.getD q nil0).2.2 = xc at *
      obtain ⟨xc, rfl⟩ := Int.eq_ofNat_of_zero_le x0
      simp only [Int.toNat_natCast] at *
      have HE3 : Hid (Enough (u + xc) (l.drop (q + 1))) := HE2
      have HQ3 : Hid (q + 1 + bh (u + xc) (l.drop (q + 1)) = p + bh v (l.drop p)) := by show _ = _; omega
      clear HE2 HQ1 hc HE HQ
      go_wp2
      go_roundw
      case rel => exact ⟨q + 1, u + xc, by omega, by omega, by go_num, by go_num, by omega, HE3, HQ3, trivial⟩
      case measure => simp [intOf]; omega
/-- Check's error, or that of the place. -/
def place (l : List Nd) (p : Int) : Int := if (chk 1 0 l).1 = 0 then (if p < 0 ∨ (l.length : Int) ≤ p then 3 else 0) else 40
set_option maxRecDepth 100000 in
set_option maxHeartbeats 4000000 in
theorem place_any (a : Option Addr) (len cap : Nat) (p : Int) (l : List Nd) (w : World) (hl : l.length = len) (hs : len ≤ 1000000) (hr : Hid (NRow w a l)) :
    Calls Tryd.prog 40 #[.slice a len cap, .int .i64 p] w fun e w' => e = .returned (.int .i64 (place l p)) ∧ Below w.heap.size w w' := by
  go_enter Tryd.func40, Tryd.ntmps40
  go_wp2_with fail
  refine (check_any a len cap l w hl hs hr).mono ?_; rintro e w1 ⟨rfl, hB1⟩
  have hB : Below w.heap.size w (w1.alloc (.cells #[.int .i64 (chk 1 0 l).1, .int .i64 (chk 1 0 l).2] 29)) := hB1.alloc (hB1.size) _
  have HP : Hid (place l p = if (chk 1 0 l).1 = 0 then (if p < 0 ∨ (len : Int) ≤ p then 3 else 0) else 40) := by subst hl; rfl
  unfold fltv
  rcases chk_err l 1 0 with h | h
  · rw [h] at HP hB ⊢
    simp only [if_true] at HP
    by_cases h1 : p < 0
    · rw [if_pos (.inl h1)] at HP
      go_wp2
      go_ret
      exact ⟨ret_int HP.out.symm, hB⟩
    · by_cases h2 : (len : Int) ≤ p
      · rw [if_pos (.inr h2)] at HP
        go_wp2
        go_ret
        exact ⟨ret_int HP.out.symm, hB⟩
      · rw [if_neg (by omega)] at HP
        go_wp2
        go_ret
        exact ⟨ret_int HP.out.symm, hB⟩
  · rw [h] at HP hB ⊢
    rw [if_neg (by omega)] at HP
    go_wp2
    go_ret
    exact ⟨ret_int HP.out.symm, hB⟩
theorem place_ok {l : List Nd} {p : Int} (h : place l p = 0) : (chk 1 0 l).1 = 0 ∧ 0 ≤ p ∧ p < l.length := by
  unfold place at h
  split at h
  · split at h
    · omega
    · exact ⟨by assumption, by omega, by omega⟩
  · omega
def nextR (l : List Nd) (p : Int) : Int × Int := if place l p = 0 then (p + bh 1 (l.drop p.toNat), 0) else (0, place l p)
def pairv (x : Int × Int) : Value := .tuple #[.int .i64 x.1, .int .i64 x.2]
theorem ret_pair {a b : Int} {x : Int × Int} (h : x = (a, b)) : Ending.returned (.tuple #[.int .i64 a, .int .i64 b]) = .returned (pairv x) := by subst h; rfl
set_option maxRecDepth 100000 in
set_option maxHeartbeats 4000000 in
theorem next_any (a : Option Addr) (len cap : Nat) (p : Int) (l : List Nd) (w : World) (hl : l.length = len) (hs : len ≤ 1000000) (hr : Hid (NRow w a l)) :
    Calls Tryd.prog 21 #[.slice a len cap, .int .i64 p] w fun e w' => e = .returned (pairv (nextR l p)) ∧ Below w.heap.size w w' := by
  go_enter Tryd.func21, Tryd.ntmps21
  go_wp2_with fail
  refine (place_any a len cap p l w hl hs hr).mono ?_; rintro e w1 ⟨rfl, hB1⟩
  by_cases h : place l p = 0
  · obtain ⟨h0, h1, h2⟩ := place_ok h
    obtain ⟨q, rfl⟩ := Int.eq_ofNat_of_zero_le h1
    rw [h]
    go_wp2_with fail
    refine (behind_any a len cap q 1 l w1 hl hs (by omega) (by omega) (hr.out.later hB1) (chk_at l 1 0 q h0 (by omega))).mono ?_; rintro e w2 ⟨rfl, rfl⟩
    go_wp2
    go_ret2
    exact ⟨ret_pair (by rw [nextR, if_pos h]; simp), hB1⟩
  · go_wp2
    go_ret2
    exact ⟨ret_pair (by rw [nextR, if_neg h]), hB1⟩
def kidR (l : List Nd) (p k : Int) : Int × Int := if place l p = 0 then (if k < 0 ∨ (l.getD p.toNat nil0).2.2 ≤ k then (0, 3) else (p + 1 + bh k.toNat (l.drop (p.toNat + 1)), 0)) else (0, place l p)
set_option maxRecDepth 100000 in
set_option maxHeartbeats 4000000 in
theorem kid_any (a : Option Addr) (len cap : Nat) (p k : Int) (l : List Nd) (w : World) (hl : l.length = len) (hs : len ≤ 1000000) (hr : Hid (NRow w a l)) :
    Calls Tryd.prog 20 #[.slice a len cap, .int .i64 p, .int .i64 k] w fun e w' => e = .returned (pairv (kidR l p k)) ∧ Below w.heap.size w w' := by
  go_enter Tryd.func20, Tryd.ntmps20
  go_wp2_with fail
  refine (place_any a len cap p l w hl hs hr).mono ?_; rintro e w1 ⟨rfl, hB1⟩
  by_cases h : place l p = 0
  · obtain ⟨h0, h1, h2⟩ := place_ok h
    obtain ⟨q, rfl⟩ := Int.eq_ofNat_of_zero_le h1
    have hr1 : Hid (NRow w1 a l) := hr.out.later hB1
    have HE : Hid (Enough 1 (l.drop q)) := chk_at l 1 0 q h0 (by omega)
    rw [h]
    have HP : Hid (kidR l (q : Int) k = if k < 0 ∨ (l.getD q nil0).2.2 ≤ k then (0, 3) else ((q : Int) + 1 + bh k.toNat (l.drop (q + 1)), 0)) := by show _ = _; rw [kidR, if_pos h]; rfl
    obtain ⟨b, off, rfl, hb, hc⟩ := hr1.out.open (by omega)
    obtain ⟨-, -, c2⟩ := hc q (by omega)
    have HE1 := HE.out
    rw [drop_at l q (by omega)] at HE1
    obtain ⟨x0, x1, HE2⟩ := HE1
    clear hc HE
    generalize (l.getD q nil0).2.2 = xc at *
    have hq : (q : Int) < len := by omega
    by_cases h3 : k < 0
    · rw [if_pos (.inl h3)] at HP
      go_wp2
      go_ret2
      exact ⟨ret_pair HP.out, hB1⟩
    · by_cases h4 : xc ≤ k
      · rw [if_pos (.inr h4)] at HP
        go_wp2
        go_ret2
        exact ⟨ret_pair HP.out, hB1⟩
      · rw [if_neg (by omega)] at HP
        obtain ⟨j, rfl⟩ := Int.eq_ofNat_of_zero_le (show 0 ≤ k by omega)
        have HE3 : Hid (Enough j (l.drop (q + 1))) := HE2.mono (by omega)
        clear HE2
        go_wp2_with fail
        refine (behind_any _ len cap (q + 1) j l w1 hl hs (by omega) (by omega) hr1 HE3).mono ?_; rintro e w2 ⟨rfl, rfl⟩
        go_wp2
        go_ret2
        exact ⟨ret_pair (HP.out.trans (by simp; try omega)), hB1⟩
  · go_wp2
    go_ret2
    exact ⟨ret_pair (by rw [kidR, if_neg h]), hB1⟩
end Go.Proofs.YtlbgdgobhiokpaaDoor
