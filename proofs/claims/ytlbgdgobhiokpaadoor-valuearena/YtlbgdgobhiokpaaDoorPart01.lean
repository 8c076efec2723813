import Derived.WalkKit
import Derived.WalkLawsBesides
import Derived.WalkSpells
import Derived.Outline
import Derived.BigQuiet
import Derived.Deep.QuietTactic
import Derived.Deep.RegionWith
import Derived.Deep.DeepCutAuto
import Derived.Deep.LoopGhost
import Derived.Deep.DeepMust
import Derived.Deep.RegionHeld3
import Derived.Deep.RegionHeldLaw
import Derived.Laws.BytesArg
import Derived.Deep.AppendLies
import Derived.ArgAppend
import Derived.Laws.CopyOwn
import Derived.Laws.OwnMore

/-
  Lemmas that hold over any program: rows of integers in memory, copies by append, strings out of bytes, appends by their run. For a new seat: copy this text as <Name>Base.lean and put the seat's Name for 'Seat' in the two namespace rows.
-/
namespace Go.Proofs.YtlbgdgobhiokpaaDoor
open Go.RowKit
set_option linter.unusedVariables false

theorem hide_ {p : Prop} (h : p) : Hid p := h
theorem w64 (n : Int) (h : -9223372036854775808 ≤ n ∧ n ≤ 9223372036854775807) : wrap64 n = n := by unfold wrap64; omega
theorem ret_int {k : IntKind} {a b : Int} (h : a = b) : Ending.returned (.int k a) = .returned (.int k b) := by rw [h]
theorem ret_bool {a : Bool} (h : a = true) : Ending.returned (.bool a) = .returned (.bool true) := by rw [h]
theorem ret_two {k m : IntKind} {a b c d : Int} (h : a = b) (g : c = d) : Ending.returned (.tuple #[.int k a, .int m c]) = .returned (.tuple #[.int k b, .int m d]) := by rw [h, g]
theorem below_to {a b c : World} (h : Below a.heap.size a b) (k : Below b.heap.size b c) : Below a.heap.size a c := h.trans (k.mono h.size)
theorem add_none (b off i : Nat) : (⟨b, off, none⟩ : Addr).add i = ⟨b, off + i, none⟩ := by unfold Addr.add; split <;> simp_all

/-! ### append by its run: in a walk; in a region that draws -/
theorem wpList_append_run {P : Program} {w w' : World} {ops : Array Oper} {rest : List Oper} {o : Oper} {a : Act} {Q : Exit → Act → World → Prop} (hgd : o.guard = none) (s x : Operand) (t t2 : TypeId)
    (ho : o.op = .call { callee := .builtin .append, args := #[s, x], argTypes := #[t, t2] }) {v u v' : Value} (hs : a.eval s = v) (hx : a.eval x = u)
    (hr : (Builtin.append_ #[t, t2] o.type #[v, u]).run P w = .ok v' w') (h : wpList P ops Q rest (a.put o.dst v') w') : wpList P ops Q (o :: rest) a w := by
  refine wpList_plain hgd fun K hK => ?_
  unfold Oper.wp execOp
  simp only [ho, resolve, invoke, builtin, Sem.run_bind, Sem.run_pure, Result.andThen_ok, List.map_toArray, List.map_cons, List.map_nil, hs, hx, hr]
  exact hK _ _ h
theorem step_append_run {P : Program} {ops : Array Oper} {o : Oper} {a : Act} {w w' : World} {K : Act → World → Prop} {Q : Exit → Act → World → Prop} {E : Prop}
    (hg : o.guard = none) (s x : Operand) (t t2 : TypeId) (hop : o.op = Op.call { callee := Callee.builtin Builtin.append, args := #[s, x], argTypes := #[t, t2] })
    {v u v' : Value} (hs : a.eval s = v) (hx : a.eval x = u) (hr : (Builtin.append_ #[t, t2] o.type #[v, u]).run P w = .ok v' w') (hK : K (a.put o.dst v') w') :
    if Region.wanted o (yielded ops a.tmps) = true then Oper.wp P o a w K Q else E := by
  have hw : Region.wanted o (yielded ops a.tmps) = true := by simp [Region.wanted, hg]
  rw [if_pos hw]
  unfold Oper.wp
  simp [execOp, hop, resolve, invoke, builtin, hs, hx, hr, Result.andThen]
  exact hK

/-! ### Rows of integers -/
/-- It is nil and empty, or its cells hold these numbers. -/
def Row (k : IntKind) (w : World) (a : Option Addr) (l : List Int) : Prop :=
  (a = none ∧ l = []) ∨ ∃ x, a = some x ∧ ∀ i, i < l.length → w.cell? (x.add i) = some (.int k (l.getD i 0))
def cellsL (k : IntKind) (l : List Int) : List Value := l.map (Value.int k)
theorem cellsL_length (k : IntKind) (l : List Int) : (cellsL k l).length = l.length := by simp [cellsL]
theorem cellsL_append (k : IntKind) (l r : List Int) : cellsL k (l ++ r) = cellsL k l ++ cellsL k r := by simp [cellsL]
theorem cellsL_at (k : IntKind) (l : List Int) (j : Nat) (h : j < l.length) : (cellsL k l)[j]? = some (.int k (l.getD j 0)) := by simp [cellsL, List.getD, h]
theorem cellsL_get (k : IntKind) (l : List Int) (j : Nat) (u : Value) (h : (cellsL k l)[j]? = some u) : j < l.length ∧ u = .int k (l.getD j 0) := by
  by_cases hj : j < l.length
  · rw [cellsL_at k l j hj] at h; exact ⟨hj, (Option.some.inj h).symm⟩
  · rw [List.getElem?_eq_none (by rw [cellsL_length]; omega)] at h; cases h
theorem cellsL_one (k : IntKind) (l : List Int) : ∀ u ∈ cellsL k l, u.oneCell' = true := by
  intro u hu
  obtain ⟨j, _, rfl⟩ := List.mem_map.1 hu
  rfl
theorem Row.later {k : IntKind} {w w' : World} {a : Option Addr} {l : List Int} (h : Row k w a l) (hB : Below w.heap.size w w') : Row k w' a l := by
  rcases h with ⟨rfl, rfl⟩ | ⟨x, rfl, hc⟩
  · exact .inl ⟨rfl, rfl⟩
  · refine .inr ⟨x, rfl, fun i hi => ?_⟩
    have h1 := hc i hi
    exact (hB.cell (World.block_lt_of_cell? w _ h1)).trans h1
theorem Row.drew {k : IntKind} {w : World} {a : Option Addr} {l : List Int} (h : Row k w a l) : Row k w.drew a l := h
theorem Row.take {k : IntKind} {w : World} {a : Option Addr} {l : List Int} (h : Row k w a l) (m : Nat) : Row k w a (l.take m) := by
  rcases h with ⟨rfl, rfl⟩ | ⟨x, rfl, hc⟩
  · exact .inl ⟨rfl, by simp⟩
  · refine .inr ⟨x, rfl, fun i hi => ?_⟩
    have h1 : i < l.length ∧ i < m := by simp at hi; omega
    rw [hc i h1.1]
    simp [List.getD, h1.2]
theorem Row.open {k : IntKind} {w : World} {a : Option Addr} {l : List Int} (h : Row k w a l) (hl : 0 < l.length) :
    ∃ b off, a = some ⟨b, off, none⟩ ∧ b < w.heap.size ∧ ∀ i, i < l.length → w.cell? ⟨b, off + i, none⟩ = some (.int k (l.getD i 0)) := by
  rcases h with ⟨rfl, rfl⟩ | ⟨x, rfl, hc⟩
  · simp at hl
  · obtain ⟨b, off, spot⟩ := x
    have hc0 := hc 0 hl
    have hspot : spot = none := by simpa [Addr.add] using World.cell?_spot hc0
    subst hspot
    exact ⟨b, off, rfl, World.block_lt_of_cell? w _ hc0, fun i hi => (add_none b off i) ▸ hc i hi⟩
theorem Row.mk {k : IntKind} {w : World} {b off : Nat} {l : List Int} (h : ∀ i, i < l.length → w.cell? ⟨b, off + i, none⟩ = some (.int k (l.getD i 0))) : Row k w (some ⟨b, off, none⟩) l :=
  .inr ⟨_, rfl, fun i hi => (add_none b off i).symm ▸ h i hi⟩
theorem Row.drop {k : IntKind} {w : World} {b off : Nat} {l : List Int} (h : Row k w (some ⟨b, off, none⟩) l) (m : Nat) : Row k w (some ⟨b, off + m, none⟩) (l.drop m) := by
  refine Row.mk fun i hi => ?_
  have hi' : m + i < l.length := by simp at hi; omega
  rcases h with ⟨e, _⟩ | ⟨x, e, hc⟩
  · cases e
  · injection e with e
    subst e
    have h1 := hc (m + i) hi'
    rw [add_none, ← Nat.add_assoc] at h1
    rw [h1]
    simp [List.getD]
theorem Row.one {k : IntKind} {w : World} {b : Nat} {x : Int} (h0 : w.cell? ⟨b, 0, none⟩ = some (.int k x)) : Row k w (some ⟨b, 0, none⟩) [x] := by
  refine Row.mk fun i hi => ?_
  match i, hi with
  | 0, _ => simpa using h0
theorem Row.two {k : IntKind} {w : World} {b : Nat} {x y : Int} (h0 : w.cell? ⟨b, 0, none⟩ = some (.int k x)) (h1 : w.cell? ⟨b, 1, none⟩ = some (.int k y)) : Row k w (some ⟨b, 0, none⟩) [x, y] := by
  refine Row.mk fun i hi => ?_
  match i, hi with
  | 0, _ => simpa using h0
  | 1, _ => simpa using h1

/-! ### append of rows -/
/-- A slice type t over an integer type e of kind k. -/
structure Elem (P : Program) (t e : TypeId) (k : IntKind) (bytes : Nat) : Prop where
  sl : P.underlying t = some (.slice e)
  el : P.underlying e = some (.int k)
  info : (P.info? e).map (fun i => (i.zero, i.size, i.bytes)) = some (some (.int k 0), 1, bytes)
/-- append(v, x...), v a row of the call's own, x any row (nil too). -/
theorem run_app {P : Program} {t e : TypeId} {k : IntKind} {bytes : Nat} (E : Elem P t e k bytes) (w : World) (ty base : Nat) (v : Value) (n : Nat) (l : List Int) (hown : w.ownsRow base e 1 v n (cellsL k l))
    (a : Option Addr) (m cap : Nat) (r : List Int) (hr : r.length = m) (hrow : Row k w a r) (hnil : a = none → cap = 0) (h63 : n + m ≤ maxLen) (hb : (n + m) * bytes ≤ 140737488355328) (hbase : base ≤ w.heap.size) :
    ∃ v' w', (Builtin.append_ #[t, t] ty #[v, .slice a m cap]).run P w = .ok v' w' ∧ w'.ownsRow base e 1 v' (n + m) (cellsL k (l ++ r)) ∧ w.grownBy w' v.ownBlock := by
  obtain ⟨i0, hi, hz0, hz1, hz2⟩ := info_parts E.info
  subst hr
  rcases hrow with ⟨rfl, rfl⟩ | ⟨x, rfl, hc⟩
  · obtain rfl := hnil rfl
    refine ⟨v, w, ?_, by simpa using hown, ⟨rfl, rfl, rfl, Nat.le_refl _, fun _ _ _ => rfl⟩⟩
    rcases hown.2 with ⟨rfl, rfl⟩ | ⟨g, c, cur, rfl, _, _, hnc, _⟩
    · simp [Builtin.append_, run_underlying E.sl, sizeOf, typeInfo, hi, Builtin.lenOf, Builtin.firstCells]
    · simp [Builtin.append_, run_underlying E.sl, sizeOf, typeInfo, hi, Builtin.lenOf, Builtin.firstCells, hnc, storeCells]
  · obtain ⟨v', w', h1, h2, h3, _⟩ := run_append_own (P := P) w base t ty e i0 (.int k 0) 1 bytes E.sl hi hz0 hz1 hz2 rfl (by decide) v n (cellsL k l) hown x r.length cap (cellsL k r)
      (by rw [cellsL_length, Nat.mul_one]) (fun j u hj => by obtain ⟨h, rfl⟩ := cellsL_get k r j u hj; exact hc j h) (cellsL_one k r) h63 hb hbase
    rw [← cellsL_append] at h2
    exact ⟨v', w', h1, h2, h3⟩
/-- A new copy: append(nil, x...). -/
theorem run_copy {P : Program} {t e : TypeId} {k : IntKind} {bytes : Nat} (E : Elem P t e k bytes) (w : World) (ty base : Nat) (a : Option Addr) (m cap : Nat) (r : List Int) (hr : r.length = m) (hrow : Row k w a r) (hnil : a = none → cap = 0)
    (h63 : m ≤ maxLen) (hb : m * bytes ≤ 140737488355328) (hbase : base ≤ w.heap.size) :
    ∃ v' w', (Builtin.append_ #[t, t] ty #[.slice none 0 0, .slice a m cap]).run P w = .ok v' w' ∧ w'.ownsRow base e 1 v' m (cellsL k r) ∧ w.grownBy w' none := by
  obtain ⟨v', w', h1, h2, h3⟩ := run_app E w ty base (.slice none 0 0) 0 [] (World.ownsRow_nil _ _ _ _) a m cap r hr hrow hnil (by omega) (by rw [Nat.zero_add]; exact hb) hbase
  rw [Nat.zero_add, List.nil_append] at h2
  exact ⟨v', w', h1, h2, h3⟩
/-- What a row of the call's own is. -/
theorem own_open {w : World} {base n : Nat} {e : TypeId} {k : IntKind} {v : Value} {l : List Int} (h : w.ownsRow base e 1 v n (cellsL k l)) (hl : l.length = n) :
    ∃ a c, v = .slice a n c ∧ Row k w a l ∧ (a = none → c = 0) ∧ n ≤ c ∧ c ≤ maxLen ∧ (0 < n → ∃ g, a = some ⟨g, 0, none⟩ ∧ base ≤ g ∧ g < w.heap.size ∧ (∀ i, i < n → w.cell? ⟨g, i, none⟩ = some (.int k (l.getD i 0))) ∧ ∀ o, w.frozen? ⟨g, o, none⟩ = false) := by
  have hcells := @World.ownsRow.cells _ _ _ _ _ _ _ h
  rcases h.2 with ⟨rfl, rfl⟩ | ⟨g, cap, cur, rfl, hb, hg, hnc, hcm, _⟩
  · exact ⟨none, 0, rfl, .inl ⟨rfl, List.length_eq_zero_iff.1 hl⟩, fun _ => rfl, Nat.le_refl _, Nat.zero_le _, fun h => by omega⟩
  · have hc : ∀ i, i < l.length → w.cell? ((⟨g, 0, none⟩ : Addr).add i) = some (.int k (l.getD i 0)) := fun i hi => hcells rfl i _ (cellsL_at k l i hi)
    refine ⟨_, _, rfl, .inr ⟨_, rfl, hc⟩, (fun h => by cases h), hnc, hcm, fun _ => ⟨g, rfl, hb, (h.lt g rfl).2, fun i hi => ?_, fun o => ?_⟩⟩
    · have h1 := hc i (by omega)
      rw [add_none, Nat.zero_add] at h1
      exact h1
    · simp [World.frozen?, hg]

/-! ### Strings out of bytes -/
/-- string(b), b any row of bytes (nil and empty too). -/
theorem conv_row {P : Program} {t e s : TypeId} {bytes : Nat} (E : Elem P t e .u8 bytes) (hs : P.underlying s = some .string) (w : World) (a : Option Addr) (m cap : Nat) (l : List Int) (hl : l.length = m) (hrow : Row .u8 w a l) :
    (convert t s (.slice a m cap)).run P w = .ok (.string (strOfNums l)) w := by
  subst hl
  rcases hrow with ⟨rfl, rfl⟩ | ⟨x, rfl, hc⟩
  · exact run_convert_bytes_nil (P := P) w t e E.sl E.el 0 cap s hs
  · by_cases h0 : l = []
    · subst h0
      rw [List.length_nil, run_convert_bytes_string w t s e _ 0 cap E.sl E.el hs, run_bytesToString w x 0 cap [] (by simp [loadCells, loadCellsFrom])]
      rfl
    · obtain ⟨b, off, hx, _, hcell⟩ := Row.open (k := .u8) (w := w) (.inr ⟨x, rfl, hc⟩) (List.length_pos_iff.2 h0)
      injection hx with hx
      subst hx
      exact run_convert_bytes_arg (P := P) w t e E.sl E.el b off l.length cap l rfl hcell s hs
theorem strOfNums_inj {l r : List Int} (hl : ∀ x ∈ l, 0 ≤ x ∧ x ≤ 255) (hr : ∀ x ∈ r, 0 ≤ x ∧ x ≤ 255) (h : strOfNums l = strOfNums r) : l = r := by
  have h1 : l.map (fun n => UInt8.ofNat n.toNat) = r.map (fun n => UInt8.ofNat n.toNat) := by
    rw [← strOfNums_data, ← strOfNums_data, h]
  have key : ∀ x y : Int, 0 ≤ x ∧ x ≤ 255 → 0 ≤ y ∧ y ≤ 255 → UInt8.ofNat x.toNat = UInt8.ofNat y.toNat → x = y := by
    intro x y hx hy e
    have e1 := congrArg UInt8.toNat e
    simp at e1
    omega
  clear h
  induction l generalizing r with
  | nil => cases r with
    | nil => rfl
    | cons y r => simp at h1
  | cons x l ih => cases r with
    | nil => simp at h1
    | cons y r =>
      simp only [List.map_cons, List.cons.injEq] at h1
      rw [key x y (hl x (by simp)) (hr y (by simp)) h1.1, ih (fun z hz => hl z (by simp [hz])) (fun z hz => hr z (by simp [hz])) h1.2]
end Go.Proofs.YtlbgdgobhiokpaaDoor

/-
  Whole blocks of memory, over any program: what a block holds, what a store does to it, what a call may change. For a new seat: copy as <Name>Blk.lean; put the Name for 'Seat', also in the import.
-/
namespace Go.Proofs.YtlbgdgobhiokpaaDoor
open Go.RowKit
set_option linter.unusedVariables false

/-- Block g holds these cells, and nothing of it is frozen. -/
def Blk (w : World) (g : Nat) (t : TypeId) (xs : List Value) : Prop := w.heap[g]? = some (.cells xs.toArray t (0, 0))
section
variable {w w' : World} {g : Nat} {t : TypeId} {xs : List Value}
theorem Blk.lt (h : Blk w g t xs) : g < w.heap.size := (Array.getElem?_eq_some_iff.1 h).1
theorem Blk.cell (h : Blk w g t xs) (i : Nat) : w.cell? ⟨g, i, none⟩ = xs[i]? := by
  unfold Blk at h
  simp [World.cell?, h]
theorem Blk.frozen (h : Blk w g t xs) (i : Nat) : w.frozen? ⟨g, i, none⟩ = false := by
  unfold Blk at h
  simp [World.frozen?, h]
theorem Blk.of_eq (h : Blk w g t xs) (e : w'.heap[g]? = w.heap[g]?) : Blk w' g t xs := Eq.trans e h
theorem Blk.other (h : Blk w g t xs) (a : Addr) (u : Value) (hn : g ≠ a.block) : Blk (w.setCell a u) g t xs := h.of_eq (Below.heap_setCell w a u g hn)
theorem Blk.set (h : Blk w g t xs) (i : Nat) (u : Value) : Blk (w.setCell ⟨g, i, none⟩ u) g t (xs.set i u) := by
  unfold Blk at h ⊢
  have hlt := (Array.getElem?_eq_some_iff.1 h).1
  unfold World.setCell
  simp [Array.getElem?_modify, h]
theorem Blk.alloc (h : Blk w g t xs) (o : Obj) : Blk (w.alloc o) g t xs := h.of_eq (Below.heap_alloc w o g h.lt)
theorem Blk.drew (h : Blk w g t xs) : Blk w.drew g t xs := h
theorem Blk.below {B : Nat} (h : Blk w g t xs) (hB : Below B w w') (hg : g < B) : Blk w' g t xs := h.of_eq (hB.block g hg)
theorem Blk.later (h : Blk w g t xs) (hB : Below w.heap.size w w') : Blk w' g t xs := h.below hB h.lt
theorem Blk.new (w : World) (xs : List Value) (t : TypeId) : Blk (w.alloc (.cells xs.toArray t)) w.heap.size t xs := by
  unfold Blk World.alloc
  simp
theorem Blk.newA (w : World) (xs : Array Value) (t : TypeId) : Blk (w.alloc (.cells xs t)) w.heap.size t xs.toList := by
  have := Blk.new w xs.toList t
  rwa [Array.toArray_toList] at this
/-- As a row of the call's own. -/
theorem Blk.owns (h : Blk w g t xs) (base n cap : Nat) (hb : base ≤ g) (hl : xs.length = cap) (hn : n ≤ cap) (hm : cap ≤ maxLen) : w.ownsRow base t 1 (.slice (some ⟨g, 0, none⟩) n cap) n (xs.take n) :=
  ⟨by simp; omega, .inr ⟨g, cap, xs.toArray, rfl, hb, h, hn, hm, by simp [hl], by simp⟩⟩
theorem Blk.row {k : IntKind} {l : List Int} (h : Blk w g t (cellsL k l)) : Row k w (some ⟨g, 0, none⟩) l := by
  refine Row.mk fun i hi => ?_
  rw [Nat.zero_add, h.cell, cellsL_at k l i hi]
end
theorem own_blk {w : World} {base n : Nat} {e : TypeId} {v : Value} {xs : List Value} (h : w.ownsRow base e 1 v n xs) (hn : 0 < n) :
    ∃ g cap ys, v = .slice (some ⟨g, 0, none⟩) n cap ∧ base ≤ g ∧ n ≤ cap ∧ cap ≤ maxLen ∧ ys.length = cap ∧ ys.take n = xs ∧ Blk w g e ys := by
  rcases h.2 with ⟨_, h0⟩ | ⟨g, cap, cur, rfl, hb, hg, hnc, hcm, hs, ht⟩
  · omega
  · exact ⟨g, cap, cur.toList, rfl, hb, hnc, hcm, by simpa using hs, by simpa using ht, by unfold Blk; rw [Array.toArray_toList]; exact hg⟩
theorem cellsL_set (k : IntKind) (l : List Int) (i : Nat) (x : Int) : (cellsL k l).set i (.int k x) = cellsL k (l.set i x) := by simp [cellsL, List.map_set]

/-- What a call may change: the blocks of S, and what it makes. -/
structure Upd (S : Nat → Prop) (w w' : World) : Prop where
  os : w'.os = w.os
  tape : w'.tape = w.tape
  output : w'.output = w.output
  size : w.heap.size ≤ w'.heap.size
  block : ∀ k, k < w.heap.size → ¬ S k → w'.heap[k]? = w.heap[k]?
theorem Upd.refl (S : Nat → Prop) (w : World) : Upd S w w := ⟨rfl, rfl, rfl, Nat.le_refl _, fun _ _ _ => rfl⟩
theorem Upd.of_below {S : Nat → Prop} {w w' : World} (h : Below w.heap.size w w') : Upd S w w' := ⟨h.os, h.tape, h.output, h.size, fun k hk _ => h.block k hk⟩
theorem Upd.trans {S T : Nat → Prop} {a b c : World} (h : Upd S a b) (g : Upd T b c) (hs : ∀ k, k < a.heap.size → T k → S k) : Upd S a c :=
  ⟨g.os.trans h.os, g.tape.trans h.tape, g.output.trans h.output, Nat.le_trans h.size g.size, fun k hk hn => (g.block k (Nat.lt_of_lt_of_le hk h.size) (fun ht => hn (hs k hk ht))).trans (h.block k hk hn)⟩
theorem Upd.to {S : Nat → Prop} {a b c : World} (h : Upd S a b) (g : Upd S b c) : Upd S a c := h.trans g (fun _ _ h => h)
theorem Upd.mono {S T : Nat → Prop} {a b : World} (h : Upd S a b) (hs : ∀ k, k < a.heap.size → S k → T k) : Upd T a b := ⟨h.os, h.tape, h.output, h.size, fun k hk hn => h.block k hk (fun ht => hn (hs k hk ht))⟩
theorem Upd.then {S : Nat → Prop} {a b c : World} (h : Upd S a b) (g : Below b.heap.size b c) : Upd S a c := h.trans (Upd.of_below (S := fun _ => False) g) (fun _ _ h => h.elim)
theorem Upd.below {S : Nat → Prop} {w w' : World} (h : Upd S w w') (B : Nat) (hB : B ≤ w.heap.size) (hs : ∀ k, S k → B ≤ k) : Below B w w' :=
  ⟨h.os, h.tape, h.output, h.size, fun k hk => h.block k (by omega) (fun ht => by have := hs k ht; omega)⟩
theorem Upd.set {S : Nat → Prop} {a w : World} (h : Upd S a w) (p : Addr) (u : Value) (hp : S p.block ∨ a.heap.size ≤ p.block) : Upd S a (w.setCell p u) :=
  ⟨h.os, h.tape, h.output, by rw [World.size_setCell]; exact h.size, fun k hk hn => (Below.heap_setCell w p u k (by rintro rfl; rcases hp with hp | hp; exact hn hp; omega)).trans (h.block k hk hn)⟩
theorem Upd.alloc {S : Nat → Prop} {a w : World} (h : Upd S a w) (o : Obj) : Upd S a (w.alloc o) :=
  h.then ((Below.refl _ _).alloc (Nat.le_refl _) o)
theorem Upd.drew {S : Nat → Prop} {a w : World} (h : Upd S a w) : Upd S a w.drew := ⟨h.os, h.tape, h.output, h.size, h.block⟩
theorem Upd.grown {S : Nat → Prop} {a w w' : World} {row : Option Nat} (h : Upd S a w) (hg : w.grownBy w' row) (hr : ∀ k, row = some k → S k ∨ a.heap.size ≤ k) : Upd S a w' :=
  ⟨hg.os.trans h.os, hg.tape.trans h.tape, hg.output.trans h.output, Nat.le_trans h.size hg.size, fun k hk hn => (hg.block k (Nat.lt_of_lt_of_le hk h.size) (fun e => by rcases hr k e.symm with h1 | h1; exact hn h1; omega)).trans (h.block k hk hn)⟩
theorem Blk.upd {w w' : World} {g : Nat} {t : TypeId} {xs : List Value} {S : Nat → Prop} (h : Blk w g t xs) (hu : Upd S w w') (hg : ¬ S g) : Blk w' g t xs := h.of_eq (hu.block g h.lt hg)
theorem Row.upd {k : IntKind} {w w' : World} {a : Option Addr} {l : List Int} {S : Nat → Prop} (h : Row k w a l) (hu : Upd S w w') (hg : ∀ x, a = some x → ¬ S x.block) : Row k w' a l := by
  rcases h with ⟨rfl, rfl⟩ | ⟨x, rfl, hc⟩
  · exact .inl ⟨rfl, rfl⟩
  · refine .inr ⟨x, rfl, fun i hi => ?_⟩
    have h1 := hc i hi
    have hb : (x.add i).block = x.block := by unfold Addr.add; split <;> rfl
    have hlt := World.block_lt_of_cell? w _ h1
    rw [World.cell?_of_block (w := w) (hu.block _ hlt (by rw [hb]; exact hg x rfl))]
    exact h1
end Go.Proofs.YtlbgdgobhiokpaaDoor

/-
  append of one element that is written out, over any program; where the new slice lies. For a new seat: copy as <Name>Push.lean; put the Name for 'Seat', also in the import.
-/
namespace Go.Proofs.YtlbgdgobhiokpaaDoor
open Go.RowKit
set_option linter.unusedVariables false

/-! ### append(v, x), x written out -/
theorem run_pushV {P : Program} {t e : TypeId} {z : Value} {bytes : Nat} (ht : P.underlying t = some (.slice e)) (hinfo : (P.info? e).map (fun i => (i.zero, i.size, i.bytes)) = some (some z, 1, bytes)) (hzs : z.cells.size = 1)
    (w : World) (ty base : Nat) (v : Value) (n : Nat) (xs : List Value) (hown : w.ownsRow base e 1 v n xs) (x : Value) (hx : x.oneCell' = true) (h63 : n + 1 ≤ maxLen) (hb : (n + 1) * bytes ≤ 140737488355328) (hbase : base ≤ w.heap.size) :
    ∃ g cap w', (Builtin.append_ #[t, t] ty #[v, .slice (some ⟨w.heap.size, 0, none⟩) 1 1]).run P (w.alloc (.cells #[x] e)) = .ok (.slice (some ⟨g, 0, none⟩) (n + 1) cap) w' ∧
      w'.ownsRow base e 1 (.slice (some ⟨g, 0, none⟩) (n + 1) cap) (n + 1) (xs ++ [x]) ∧ Upd (fun k => v.ownBlock = some k) w w' ∧ (v.ownBlock = some g ∨ w.heap.size ≤ g) := by
  obtain ⟨i0, hi, hz0, hz1, hz2⟩ := info_parts hinfo
  have hsz : (w.alloc (.cells #[x] e)).heap.size = w.heap.size + 1 := by simp
  obtain ⟨g, cap, w', h1, h2, h3, h4, h5⟩ := run_append_lies (P := P) (w.alloc (.cells #[x] e)) t ty base e i0 z 1 bytes ht hi hz0 hz1 hz2 hzs (by decide) v n xs (hown.alloc _) ⟨w.heap.size, 0, none⟩ 1 1 [x] rfl
    (fun j u hj => by
      have hj0 : j = 0 := by
        rcases Nat.eq_zero_or_pos j with h | h
        · exact h
        · rw [List.getElem?_eq_none h] at hj; cases hj
      subst hj0
      rw [add_none, (Blk.newA w #[x] e).cell]
      exact hj)
    (fun u hu => by simp at hu; subst hu; exact hx) (by decide) h63 hb (by omega) _ rfl
  refine ⟨g, cap, w', h1, h2, ((Upd.refl _ w).alloc _).grown h3 (fun k hk => .inl hk), ?_⟩
  rcases h4 with h4 | h4
  · exact .inl h4
  · exact .inr (by omega)
theorem run_push {P : Program} {t e : TypeId} {k : IntKind} {bytes : Nat} (E : Elem P t e k bytes) (w : World) (ty base : Nat) (v : Value) (n : Nat) (l : List Int) (hown : w.ownsRow base e 1 v n (cellsL k l)) (x : Int) (h63 : n + 1 ≤ maxLen) (hb : (n + 1) * bytes ≤ 140737488355328) (hbase : base ≤ w.heap.size) :
    ∃ g cap w', (Builtin.append_ #[t, t] ty #[v, .slice (some ⟨w.heap.size, 0, none⟩) 1 1]).run P (w.alloc (.cells #[.int k x] e)) = .ok (.slice (some ⟨g, 0, none⟩) (n + 1) cap) w' ∧
      w'.ownsRow base e 1 (.slice (some ⟨g, 0, none⟩) (n + 1) cap) (n + 1) (cellsL k (l ++ [x])) ∧ Upd (fun k => v.ownBlock = some k) w w' ∧ (v.ownBlock = some g ∨ w.heap.size ≤ g) := by
  rw [cellsL_append]
  exact run_pushV E.sl E.info rfl w ty base v n (cellsL k l) hown (.int k x) rfl h63 hb hbase
theorem owns_upd {w w' : World} {base n : Nat} {e : TypeId} {v : Value} {xs : List Value} {S : Nat → Prop} (h : w.ownsRow base e 1 v n xs) (hu : Upd S w w') (hs : ∀ k, v.ownBlock = some k → ¬ S k) : w'.ownsRow base e 1 v n xs := by
  refine ⟨h.1, ?_⟩
  rcases h.2 with hn | ⟨g, cap, cur, rfl, hb, hg, rest⟩
  · exact .inl hn
  · exact .inr ⟨g, cap, cur, rfl, hb, (hu.block g (Array.getElem?_eq_some_iff.1 hg).1 (hs g rfl)).trans hg, rest⟩
end Go.Proofs.YtlbgdgobhiokpaaDoor

/-
  Rows of values of one cell each (slices, pointers ..) of the call's own, number j being F j; blocks of two types are two; functions that grow by one. Over any program. For a new seat: copy as <Name>Rows2.lean (Rows is taken); put the Name for 'Seat', also in the import.
-/
namespace Go.Proofs.YtlbgdgobhiokpaaDoor
open Go.RowKit
set_option linter.unusedVariables false

/-! ### Blocks of two types are two -/
theorem blk_ne {w : World} {g g' : Nat} {t t' : TypeId} {xs ys : List Value} (h : Blk w g t xs) (h' : Blk w g' t' ys) (ht : t ≠ t') : g ≠ g' := by
  intro e
  subst e
  unfold Blk at h h'
  rw [h] at h'
  injection h' with h'
  injection h' with _ h3 _
  exact ht h3
theorem own_ne_t {B br n : Nat} {w : World} {v : Value} {xs ys : List Value} {t t' : TypeId} (h : w.ownsRow B t 1 v n xs) (hb : Blk w br t' ys) (ht : t ≠ t') : v.ownBlock ≠ some br := by
  intro e
  rcases h.2 with ⟨rfl, _⟩ | ⟨g, cap, cur, rfl, _, hg, _⟩
  · cases e
  · injection e with e
    have e' : g = br := e
    subst e'
    unfold Blk at hb
    rw [hb] at hg
    injection hg with hg
    injection hg with _ h3 _
    exact ht h3.symm
/-! ### Rows -/
def RowE (e : TypeId) (B : Nat) (w : World) (v : Value) (N : Nat) (F : Nat → Value) : Prop := w.ownsRow B e 1 v N ((List.range N).map F)
section
variable {e : TypeId} {B N : Nat} {w w' : World} {v : Value} {F : Nat → Value}
theorem RowE.open (h : RowE e B w v N F) (hN : 0 < N) : ∃ q cap, v = .slice (some ⟨q, 0, none⟩) N cap ∧ B ≤ q ∧ N ≤ cap ∧ cap ≤ maxLen ∧ ∀ j, j < N → w.cell? ⟨q, j, none⟩ = some (F j) := by
  obtain ⟨q, cap, ys, rfl, h1, h2, h3, h4, h5, h6⟩ := own_blk h hN
  refine ⟨q, cap, rfl, h1, h2, h3, fun j hj => ?_⟩
  rw [h6.cell j]
  have e : (ys.take N)[j]? = ys[j]? := by rw [List.getElem?_take, if_pos hj]
  rw [← e, h5]
  simp [hj]
theorem RowE.at {q cap : Nat} (h : RowE e B w (.slice (some ⟨q, 0, none⟩) N cap) N F) (j : Nat) (hj : j < N) : w.cell? ⟨q, j, none⟩ = some (F j) := by
  obtain ⟨q', cap', e, _, _, _, hc⟩ := h.open (by omega)
  injection e with e1 _ _
  injection e1 with e1
  injection e1 with e1 _ _
  subst e1
  exact hc j hj
theorem RowE.nil (e : TypeId) (B : Nat) (w : World) (F : Nat → Value) : RowE e B w (.slice none 0 0) 0 F := World.ownsRow_nil _ _ _ _
theorem RowE.congr {G : Nat → Value} (h : RowE e B w v N F) (eq : ∀ j, j < N → F j = G j) : RowE e B w v N G := by
  unfold RowE at h ⊢
  rw [← List.map_congr_left (fun j hj => eq j (List.mem_range.1 hj))]
  exact h
theorem RowE.upd {S : Nat → Prop} (h : RowE e B w v N F) (hu : Upd S w w') (hs : ∀ k, v.ownBlock = some k → ¬ S k) : RowE e B w' v N F := owns_upd h hu hs
theorem RowE.later (h : RowE e B w v N F) (hB : Below w.heap.size w w') : RowE e B w' v N F := h.upd (Upd.of_below (S := fun _ => False) hB) (fun _ _ h => h)
theorem RowE.lt (h : RowE e B w v N F) (k : Nat) (hk : v.ownBlock = some k) : B ≤ k ∧ k < w.heap.size := World.ownsRow.lt h k hk
/-- append(v, x), x written out. -/
theorem RowE.push {P : Program} {t : TypeId} {z : Value} {bytes : Nat} (ht : P.underlying t = some (.slice e)) (hinfo : (P.info? e).map (fun i => (i.zero, i.size, i.bytes)) = some (some z, 1, bytes)) (hzs : z.cells.size = 1)
    (h : RowE e B w v N F) (hx : (F N).oneCell' = true) (h63 : N + 1 ≤ maxLen) (hb : (N + 1) * bytes ≤ 140737488355328) (hB : B ≤ w.heap.size) (ty : Nat) :
    ∃ g cap w', (Builtin.append_ #[t, t] ty #[v, .slice (some ⟨w.heap.size, 0, none⟩) 1 1]).run P (w.alloc (.cells #[F N] e)) = .ok (.slice (some ⟨g, 0, none⟩) (N + 1) cap) w' ∧
      RowE e B w' (.slice (some ⟨g, 0, none⟩) (N + 1) cap) (N + 1) F ∧ Upd (fun k => v.ownBlock = some k) w w' ∧ (v.ownBlock = some g ∨ w.heap.size ≤ g) := by
  obtain ⟨g, cap, w', h1, h2, h3, h4⟩ := run_pushV ht hinfo hzs w ty B v N _ h (F N) hx h63 hb hB
  refine ⟨g, cap, w', h1, ?_, h3, h4⟩
  unfold RowE
  rw [List.range_succ, List.map_append]
  exact h2
end
def ext {α : Type} (g : Nat → α) (N : Nat) (x : α) (j : Nat) : α := if j = N then x else g j
theorem ext_at {α : Type} (g : Nat → α) (N : Nat) (x : α) : ext g N x N = x := by unfold ext; rw [if_pos rfl]
theorem ext_ne {α : Type} (g : Nat → α) (N : Nat) (x : α) (j : Nat) (h : j ≠ N) : ext g N x j = g j := by unfold ext; rw [if_neg h]
/-! ### append(v, x) onto a full row of integers: what was there stays -/
theorem run_push_full {P : Program} {t e : TypeId} {k : IntKind} {bytes : Nat} (E : Elem P t e k bytes) (w : World) (ty g n : Nat) (l : List Int) (x : Int) (hl : l.length = n) (hb : Blk w g e (cellsL k l)) (h63 : n + 1 ≤ maxLen) (hby : (n + 1) * bytes ≤ 140737488355328) :
    ∃ g' cap w', (Builtin.append_ #[t, t] ty #[.slice (some ⟨g, 0, none⟩) n n, .slice (some ⟨w.heap.size, 0, none⟩) 1 1]).run P (w.alloc (.cells #[.int k x] e)) = .ok (.slice (some ⟨g', 0, none⟩) (n + 1) cap) w' ∧
      w'.ownsRow w.heap.size e 1 (.slice (some ⟨g', 0, none⟩) (n + 1) cap) (n + 1) (cellsL k (l ++ [x])) ∧ Below w.heap.size w w' := by
  obtain ⟨i0, hi, hz0, hz1, hz2⟩ := info_parts E.info
  have hbl := Blk.newA w #[.int k x] e
  have hBa : Below w.heap.size w (w.alloc (.cells #[.int k x] e)) := (Below.refl _ _).alloc (Nat.le_refl _) _
  have hb1 := hb.later hBa
  obtain ⟨v1, w1, r1, o1, gr1⟩ := run_append_arg_grows (P := P) (w.alloc (.cells #[.int k x] e)) t ty e i0 (.int k 0) 1 bytes E.sl hi hz0 hz1 hz2 rfl (by decide)
    ⟨g, 0, none⟩ n n (cellsL k l) (by rw [cellsL_length, Nat.mul_one]; exact hl)
    (fun j u hj => by rw [add_none, Nat.zero_add, hb1.cell j]; exact hj) ⟨w.heap.size, 0, none⟩ 1 1 [.int k x] rfl
    (fun j u hj => by rw [add_none, Nat.zero_add, hbl.cell j]; exact hj) (by omega) h63 hby
  have hBg : Below w.heap.size w w1 := below_to hBa ((Below.refl _ _).grown gr1 (Nat.le_refl _) (fun k hk => by cases hk))
  obtain ⟨x', dx, ys, rfl, hx, h4, h5, h6, h7, h8⟩ := own_blk o1 (by omega)
  refine ⟨x', dx, w1, r1, ?_, hBg⟩
  have := h8.owns w.heap.size (n + 1) dx (Nat.le_trans hBa.size hx) h6 h4 h5
  rw [h7] at this
  rw [cellsL_append]
  exact this
end Go.Proofs.YtlbgdgobhiokpaaDoor

/- Slices of integers of the call's own, cut at the front: what append, cuts and stores make of them. Over any program. -/
namespace Go.Proofs.YtlbgdgobhiokpaaDoor
open Go.RowKit
set_option linter.unusedVariables false

theorem Blk.setCells {t : TypeId} {g : Nat} : ∀ (vs xs ys zs : List Value) (w : World), vs.length = ys.length → Blk w g t (xs ++ (ys ++ zs)) → Blk (w.setCells g xs.length vs) g t (xs ++ (vs ++ zs))
  | [], xs, [], zs, w, _, h => h
  | v :: vs, xs, y :: ys, zs, w, hl, h => by
    have h1 := h.set xs.length v
    rw [List.set_append_right _ _ (Nat.le_refl _), Nat.sub_self] at h1
    have h2 : Blk (w.setCell ⟨g, xs.length, none⟩ v) g t ((xs ++ [v]) ++ (ys ++ zs)) := by simpa using h1
    have h3 := Blk.setCells vs (xs ++ [v]) ys zs _ (by simpa using hl) h2
    rw [World.setCells]
    simpa using h3
theorem Upd.setCells {S : Nat → Prop} {a : World} {g : Nat} (hg : S g) : ∀ (vs : List Value) (o : Nat) (w : World), Upd S a w → Upd S a (w.setCells g o vs)
  | [], _, _, h => h
  | v :: vs, o, w, h => by
    rw [World.setCells]
    exact Upd.setCells hg vs (o + 1) _ (h.set ⟨g, o, none⟩ v (.inl hg))

/-- It is nil, or it lies in a block of its own, from some place on. -/
def Tail (B : Nat) (w : World) (e : TypeId) (k : IntKind) (v : Value) (l : List Int) : Prop :=
  (v = .slice none 0 0 ∧ l = []) ∨ ∃ g cap pre post, v = .slice (some ⟨g, pre.length, none⟩) l.length cap ∧ B ≤ g ∧ Blk w g e (pre ++ (cellsL k l ++ post)) ∧ l.length + post.length = cap ∧ cap ≤ maxLen
section
variable {B : Nat} {w w' : World} {e : TypeId} {k : IntKind} {v : Value} {l : List Int}
theorem Tail.upd {S : Nat → Prop} (h : Tail B w e k v l) (hu : Upd S w w') (hs : ∀ q, v.ownBlock = some q → ¬ S q) : Tail B w' e k v l := by
  rcases h with h | ⟨g, cap, pre, post, rfl, h1, h2, h3, h4⟩
  · exact .inl h
  · exact .inr ⟨g, cap, pre, post, rfl, h1, h2.upd hu (hs g rfl), h3, h4⟩
theorem Tail.later (h : Tail B w e k v l) (hB : Below w.heap.size w w') : Tail B w' e k v l := h.upd (Upd.of_below (S := fun _ => False) hB) (fun _ _ h => h)
theorem Tail.lt (h : Tail B w e k v l) (q : Nat) (hq : v.ownBlock = some q) : B ≤ q ∧ q < w.heap.size := by
  rcases h with ⟨rfl, _⟩ | ⟨g, cap, pre, post, rfl, h1, h2, h3⟩
  · cases hq
  · injection hq with hq
    have e' : g = q := hq
    subst e'
    exact ⟨h1, h2.lt⟩
theorem Tail.mono {B' : Nat} (h : Tail B w e k v l) (hb : B' ≤ B) : Tail B' w e k v l := by
  rcases h with h | ⟨g, cap, pre, post, rfl, h1, h2⟩
  · exact .inl h
  · exact .inr ⟨g, cap, pre, post, rfl, by omega, h2⟩
theorem Tail.nil (B : Nat) (w : World) (e : TypeId) (k : IntKind) : Tail B w e k (.slice none 0 0) [] := .inl ⟨rfl, rfl⟩
theorem cell_mid {g : Nat} {pre post : List Value} (h : Blk w g e (pre ++ (cellsL k l ++ post))) (i : Nat) (hi : i < l.length) : w.cell? ⟨g, pre.length + i, none⟩ = some (.int k (l.getD i 0)) := by
  rw [h.cell, List.getElem?_append_right (by omega), Nat.add_sub_cancel_left, List.getElem?_append_left (by rw [cellsL_length]; exact hi), cellsL_at _ _ _ hi]
/-- Its shape. -/
theorem Tail.open (h : Tail B w e k v l) : ∃ a cap, v = .slice a l.length cap ∧ Row k w a l ∧ (a = none → cap = 0) ∧ l.length ≤ cap ∧ cap ≤ maxLen := by
  rcases h with ⟨rfl, rfl⟩ | ⟨g, cap, pre, post, rfl, h1, h2, h3, h4⟩
  · exact ⟨none, 0, rfl, .inl ⟨rfl, rfl⟩, fun _ => rfl, Nat.le_refl _, Nat.zero_le _⟩
  · exact ⟨_, cap, rfl, Row.mk fun i hi => cell_mid h2 i hi, fun h => (by cases h), by omega, h4⟩
theorem Tail.addr (h : Tail B w e k v l) (hl : 0 < l.length) : ∃ g off cap, v = .slice (some ⟨g, off, none⟩) l.length cap ∧ l.length ≤ cap ∧ cap ≤ maxLen ∧ g < w.heap.size ∧ ∀ i, i < l.length → w.cell? ⟨g, off + i, none⟩ = some (.int k (l.getD i 0)) := by
  rcases h with ⟨rfl, rfl⟩ | ⟨g, cap, pre, post, rfl, h1, h2, h3, h4⟩
  · simp at hl
  · exact ⟨g, _, cap, rfl, by omega, h4, h2.lt, fun i hi => cell_mid h2 i hi⟩
theorem tail_of_owns {n : Nat} (h : w.ownsRow B e 1 v n (cellsL k l)) (hl : l.length = n) : Tail B w e k v l := by
  subst hl
  rcases h.2 with ⟨rfl, h0⟩ | ⟨g, cap, cur, rfl, hb, hg, hnc, hcm, hs, ht⟩
  · exact .inl ⟨rfl, List.length_eq_zero_iff.1 h0⟩
  · have hs' : cur.toList.length = cap := by simpa using hs
    have ht' : cur.toList.take l.length = cellsL k l := by simpa using ht
    refine .inr ⟨g, cap, [], cur.toList.drop l.length, rfl, hb, ?_, by rw [List.length_drop]; omega, hcm⟩
    rw [List.nil_append, ← ht', List.take_append_drop]
    unfold Blk
    rw [Array.toArray_toList]
    exact hg
/-- Cut at the front, some left. -/
theorem Tail.drop {g off cap n : Nat} (h : Tail B w e k (.slice (some ⟨g, off, none⟩) n cap) l) (m : Nat) (hm : m ≤ l.length) : Tail B w e k (.slice (some ⟨g, off + m, none⟩) (n - m) (cap - m)) (l.drop m) := by
  rcases h with ⟨e1, _⟩ | ⟨g', cap', pre, post, e1, h1, h2, h3, h4⟩
  · cases e1
  · injection e1 with e1 e2 e3
    injection e1 with e1
    injection e1 with e1 e4 _
    subst e1 e2 e3 e4
    refine .inr ⟨g, cap - m, pre ++ cellsL k (l.take m), post, ?_, h1, ?_, by rw [List.length_drop]; omega, by omega⟩
    · rw [List.length_append, cellsL_length, List.length_take, List.length_drop, Nat.min_eq_left hm]
    · have e5 : cellsL k l = cellsL k (l.take m) ++ cellsL k (l.drop m) := by rw [← cellsL_append, List.take_append_drop]
      rw [e5] at h2
      simpa using h2
/-- One of them is written. -/
theorem Tail.set {g off cap n : Nat} (h : Tail B w e k (.slice (some ⟨g, off, none⟩) n cap) l) (i : Nat) (x : Int) (hi : i < l.length) :
    w.cell? ⟨g, off + i, none⟩ = some (.int k (l.getD i 0)) ∧ w.frozen? ⟨g, off + i, none⟩ = false ∧ Tail B (w.setCell ⟨g, off + i, none⟩ (.int k x)) e k (.slice (some ⟨g, off, none⟩) n cap) (l.set i x) := by
  rcases h with ⟨e1, _⟩ | ⟨g', cap', pre, post, e1, h1, h2, h3, h4⟩
  · cases e1
  · injection e1 with e1 e2 e3
    injection e1 with e1
    injection e1 with e1 e4 _
    subst e1 e2 e3 e4
    refine ⟨cell_mid h2 i hi, h2.frozen _, .inr ⟨g, cap, pre, post, by rw [List.length_set], h1, ?_, by rw [List.length_set]; exact h3, h4⟩⟩
    have h5 := h2.set (pre.length + i) (.int k x)
    rw [List.set_append_right _ _ (by omega), Nat.add_sub_cancel_left, List.set_append_left _ _ (by rw [cellsL_length]; exact hi), cellsL_set] at h5
    exact h5
end
/-- append(v, x...), v such a slice, x any row (nil too; it may lie anywhere). -/
theorem run_app_tail {P : Program} {t e : TypeId} {k : IntKind} {bytes : Nat} (E : Elem P t e k bytes) (w : World) (ty B : Nat) (v : Value) (l : List Int) (hv : Tail B w e k v l)
    (a : Option Addr) (m cap : Nat) (r : List Int) (hr : r.length = m) (hrow : Row k w a r) (hnil : a = none → cap = 0) (h63 : l.length + m ≤ maxLen) (hb : (l.length + m) * bytes ≤ 140737488355328) (hbase : B ≤ w.heap.size) :
    ∃ v' w', (Builtin.append_ #[t, t] ty #[v, .slice a m cap]).run P w = .ok v' w' ∧ Tail B w' e k v' (l ++ r) ∧ Upd (fun q => v.ownBlock = some q) w w' ∧ ∀ q, v'.ownBlock = some q → v.ownBlock = some q ∨ w.heap.size ≤ q := by
  obtain ⟨i0, hi, hz0, hz1, hz2⟩ := info_parts E.info
  subst hr
  rcases hrow with ⟨rfl, rfl⟩ | ⟨x, rfl, hc⟩
  · obtain rfl := hnil rfl
    refine ⟨v, w, ?_, by simpa using hv, Upd.refl _ _, fun q hq => .inl hq⟩
    rcases hv with ⟨rfl, rfl⟩ | ⟨g, c, pre, post, rfl, h1, h2, h3, h4⟩
    · simp [Builtin.append_, run_underlying E.sl, sizeOf, typeInfo, hi, Builtin.lenOf, Builtin.firstCells]
    · have hnc : l.length ≤ c := by omega
      simp [Builtin.append_, run_underlying E.sl, sizeOf, typeInfo, hi, Builtin.lenOf, Builtin.firstCells, hnc, storeCells]
  · rcases hv with ⟨rfl, rfl⟩ | ⟨g, c, pre, post, rfl, h1, h2, h3, h4⟩
    · obtain ⟨v', w', r1, r2, r3⟩ := run_copy E w ty w.heap.size (some x) r.length cap r rfl (.inr ⟨x, rfl, hc⟩) hnil (by simpa using h63) (by simpa using hb) (Nat.le_refl _)
      refine ⟨v', w', r1, ?_, (Upd.refl _ w).grown r3 (fun k hk => by cases hk), fun q hq => .inr (r2.lt q hq).1⟩
      rw [List.nil_append]
      exact (tail_of_owns r2 rfl).mono hbase
    · by_cases hroom : l.length + r.length ≤ c
      · have hp : r.length ≤ post.length := by omega
        have hblk2 : Blk w g e ((pre ++ cellsL k l) ++ (post.take r.length ++ post.drop r.length)) := by rw [List.take_append_drop, List.append_assoc]; exact h2
        have hrun := run_append_room_cells (P := P) w t ty e i0 E.sl hi g pre.length l.length c x r.length cap (cellsL k r) (by rw [cellsL_length, hz1, Nat.mul_one])
          (fun j u hj => by obtain ⟨h, rfl⟩ := cellsL_get k r j u hj; exact hc j h) (cellsL_one k r) hroom
          (fun j hj => by
            rw [cellsL_length] at hj
            rw [h2.cell, hz1, Nat.mul_one, List.getElem?_eq_getElem (by simp [cellsL_length]; omega)]
            rfl) (fun j hj => h2.frozen _)
        rw [hz1, Nat.mul_one] at hrun
        have hS := Blk.setCells (cellsL k r) (pre ++ cellsL k l) (post.take r.length) (post.drop r.length) w (by rw [cellsL_length, List.length_take, Nat.min_eq_left hp]) hblk2
        rw [List.length_append, cellsL_length] at hS
        refine ⟨_, _, hrun, .inr ⟨g, c, pre, post.drop r.length, ?_, h1, ?_, by simp; omega, h4⟩, Upd.setCells (S := fun q => Value.ownBlock (.slice (some ⟨g, pre.length, none⟩) l.length c) = some q) rfl _ _ _ (Upd.refl _ _), fun q hq => .inl hq⟩
        · rw [List.length_append]
        · rw [cellsL_append]
          simpa using hS
      · obtain ⟨v', w', r1, r2, r3⟩ := run_append_arg_grows (P := P) w t ty e i0 (.int k 0) 1 bytes E.sl hi hz0 hz1 hz2 rfl (by decide) ⟨g, pre.length, none⟩ l.length c (cellsL k l) (by rw [cellsL_length, Nat.mul_one])
          (fun j u hj => by obtain ⟨h, rfl⟩ := cellsL_get k l j u hj; rw [add_none]; exact cell_mid h2 j h) x r.length cap (cellsL k r) (by rw [cellsL_length, Nat.mul_one])
          (fun j u hj => by obtain ⟨h, rfl⟩ := cellsL_get k r j u hj; exact hc j h) (by omega) h63 hb
        rw [← cellsL_append] at r2
        exact ⟨v', w', r1, (tail_of_owns r2 (by rw [List.length_append])).mono hbase, (Upd.refl _ w).grown r3 (fun k hk => by cases hk), fun q hq => .inr (r2.lt q hq).1⟩
end Go.Proofs.YtlbgdgobhiokpaaDoor

/- n things in memory, apart from one another: one turns, the others stay. Over any program. -/
namespace Go.Proofs.YtlbgdgobhiokpaaDoor
open Go.RowKit
set_option linter.unusedVariables false

/-- Something in memory: its blocks, and what is said of it. -/
structure Asn where
  foot : Nat → Prop
  holds : World → Prop
/-- It lies between B and the end, and hangs on its own blocks alone. -/
structure Good (B : Nat) (a : Asn) : Prop where
  lt : ∀ w k, a.holds w → a.foot k → B ≤ k ∧ k < w.heap.size
  upd : ∀ (S : Nat → Prop) w w', a.holds w → Upd S w w' → (∀ k, a.foot k → ¬ S k) → a.holds w'
structure Sep (n B : Nat) (w : World) (f : Nat → Asn) : Prop where
  at_ : ∀ c, c < n → (f c).holds w
  good : ∀ c, c < n → Good B (f c)
  dis : ∀ c d, c < n → d < n → c ≠ d → ∀ q, (f c).foot q → ¬ (f d).foot q
section
variable {n B : Nat} {w w' : World} {f g : Nat → Asn}
theorem Sep.congr (h : Sep n B w f) (e : ∀ c, c < n → f c = g c) : Sep n B w g :=
  ⟨fun c hc => e c hc ▸ h.at_ c hc, fun c hc => e c hc ▸ h.good c hc, fun c d hc hd hn q => by rw [← e c hc, ← e d hd]; exact h.dis c d hc hd hn q⟩
theorem Sep.upd {S : Nat → Prop} (h : Sep n B w f) (hu : Upd S w w') (hs : ∀ c, c < n → ∀ q, (f c).foot q → ¬ S q) : Sep n B w' f :=
  ⟨fun c hc => (h.good c hc).upd S w w' (h.at_ c hc) hu (hs c hc), h.good, h.dis⟩
theorem Sep.later (h : Sep n B w f) (hB : Below w.heap.size w w') : Sep n B w' f := h.upd (Upd.of_below (S := fun _ => False) hB) (fun _ _ _ _ h => h)
theorem Sep.lt (h : Sep n B w f) (c : Nat) (hc : c < n) (q : Nat) (hq : (f c).foot q) : B ≤ q ∧ q < w.heap.size := (h.good c hc).lt w q (h.at_ c hc) hq
/-- One of them turns. -/
theorem Sep.set {a : Asn} {S : Nat → Prop} (h : Sep n B w f) (c : Nat) (hc : c < n) (hu : Upd S w w') (hS : ∀ q, q < w.heap.size → S q → (f c).foot q ∨ ∀ d, d < n → ¬ (f d).foot q) (ha : a.holds w') (hg : Good B a) (hf : ∀ q, a.foot q → (f c).foot q ∨ w.heap.size ≤ q ∨ ∀ d, d < n → ¬ (f d).foot q) : Sep n B w' (ext f c a) := by
  have key : ∀ d, d < n → d ≠ c → ∀ q, (f d).foot q → ¬ S q := fun d hd hn q hq hs => by
    rcases hS q (h.lt d hd q hq).2 hs with e | e
    · exact h.dis d c hd hc hn q hq e
    · exact e d hd hq
  have new : ∀ d, d < n → d ≠ c → ∀ q, a.foot q → ¬ (f d).foot q := fun d hd hn q hq hq2 => by
    rcases hf q hq with e | e | e
    · exact h.dis d c hd hc hn q hq2 e
    · have := (h.lt d hd q hq2).2; omega
    · exact e d hd hq2
  refine ⟨fun d hd => ?_, fun d hd => ?_, fun d d' hd hd' hn q hq hq2 => ?_⟩
  · by_cases e : d = c
    · subst e; rw [ext_at]; exact ha
    · rw [ext_ne _ _ _ _ e]; exact (h.good d hd).upd S w w' (h.at_ d hd) hu (key d hd e)
  · by_cases e : d = c
    · subst e; rw [ext_at]; exact hg
    · rw [ext_ne _ _ _ _ e]; exact h.good d hd
  · by_cases e : d = c
    · subst e
      rw [ext_at] at hq
      rw [ext_ne _ _ _ _ (fun e => hn e.symm)] at hq2
      exact new d' hd' (fun e => hn e.symm) q hq hq2
    · rw [ext_ne _ _ _ _ e] at hq
      by_cases e' : d' = c
      · subst e'
        rw [ext_at] at hq2
        exact new d hd e q hq2 hq
      · rw [ext_ne _ _ _ _ e'] at hq2
        exact h.dis d d' hd hd' hn q hq hq2
end
end Go.Proofs.YtlbgdgobhiokpaaDoor
