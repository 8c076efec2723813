import Derived.WalkKit
import Derived.WalkLawsBesides
import Derived.WalkSpells
import Derived.Outline
import Derived.BigQuiet
import Derived.Deep.QuietTactic
import Derived.Deep.RegionWith
import Derived.Deep.DeepCutAuto
import Derived.Deep.LoopGhost
import Derived.Deep.DeepMust
import Derived.Deep.RegionHeld3
import Derived.Deep.RegionHeldLaw
import Derived.Laws.BytesArg

/-
  Lemmas that hold over any program: rows of integers in memory, copies by append, strings out of bytes, appends by their run. For a new seat: copy this text as <Name>Base.lean and put the seat's Name for 'Seat' in the two namespace rows.
-/
namespace Go.Proofs.Ytcmkdkocponpiaa
open Go.RowKit
set_option linter.unusedVariables false

theorem hide_ {p : Prop} (h : p) : Hid p := h
theorem w64 (n : Int) (h : -9223372036854775808 ≤ n ∧ n ≤ 9223372036854775807) : wrap64 n = n := by unfold wrap64; omega
theorem ret_int {k : IntKind} {a b : Int} (h : a = b) : Ending.returned (.int k a) = .returned (.int k b) := by rw [h]
theorem ret_bool {a : Bool} (h : a = true) : Ending.returned (.bool a) = .returned (.bool true) := by rw [h]
theorem ret_two {k m : IntKind} {a b c d : Int} (h : a = b) (g : c = d) : Ending.returned (.tuple #[.int k a, .int m c]) = .returned (.tuple #[.int k b, .int m d]) := by rw [h, g]
theorem below_to {a b c : World} (h : Below a.heap.size a b) (k : Below b.heap.size b c) : Below a.heap.size a c := h.trans (k.mono h.size)
theorem add_none (b off i : Nat) : (⟨b, off, none⟩ : Addr).add i = ⟨b, off + i, none⟩ := by unfold Addr.add; split <;> simp_all

/-! ### append by its run: in a walk; in a region that draws -/
theorem wpList_append_run {P : Program} {w w' : World} {ops : Array Oper} {rest : List Oper} {o : Oper} {a : Act} {Q : Exit → Act → World → Prop} (hgd : o.guard = none) (s x : Operand) (t t2 : TypeId)
    (ho : o.op = .call { callee := .builtin .append, args := #[s, x], argTypes := #[t, t2] }) {v u v' : Value} (hs : a.eval s = v) (hx : a.eval x = u)
    (hr : (Builtin.append_ #[t, t2] o.type #[v, u]).run P w = .ok v' w') (h : wpList P ops Q rest (a.put o.dst v') w') : wpList P ops Q (o :: rest) a w := by
  refine wpList_plain hgd fun K hK => ?_
  unfold Oper.wp execOp
  simp only [ho, resolve, invoke, builtin, Sem.run_bind, Sem.run_pure, Result.andThen_ok, List.map_toArray, List.map_cons, List.map_nil, hs, hx, hr]
  exact hK _ _ h
theorem step_append_run {P : Program} {ops : Array Oper} {o : Oper} {a : Act} {w w' : World} {K : Act → World → Prop} {Q : Exit → Act → World → Prop} {E : Prop}
    (hg : o.guard = none) (s x : Operand) (t t2 : TypeId) (hop : o.op = Op.call { callee := Callee.builtin Builtin.append, args := #[s, x], argTypes := #[t, t2] })
    {v u v' : Value} (hs : a.eval s = v) (hx : a.eval x = u) (hr : (Builtin.append_ #[t, t2] o.type #[v, u]).run P w = .ok v' w') (hK : K (a.put o.dst v') w') :
    if Region.wanted o (yielded ops a.tmps) = true then Oper.wp P o a w K Q else E := by
  have hw : Region.wanted o (yielded ops a.tmps) = true := by simp [Region.wanted, hg]
  rw [if_pos hw]
  unfold Oper.wp
  simp [execOp, hop, resolve, invoke, builtin, hs, hx, hr, Result.andThen]
  exact hK

/-! ### Rows of integers -/
/-- It is nil and empty, or its cells hold these numbers. -/
def Row (k : IntKind) (w : World) (a : Option Addr) (l : List Int) : Prop :=
  (a = none ∧ l = []) ∨ ∃ x, a = some x ∧ ∀ i, i < l.length → w.cell? (x.add i) = some (.int k (l.getD i 0))
def cellsL (k : IntKind) (l : List Int) : List Value := l.map (Value.int k)
theorem cellsL_length (k : IntKind) (l : List Int) : (cellsL k l).length = l.length := by simp [cellsL]
theorem cellsL_append (k : IntKind) (l r : List Int) : cellsL k (l ++ r) = cellsL k l ++ cellsL k r := by simp [cellsL]
theorem cellsL_at (k : IntKind) (l : List Int) (j : Nat) (h : j < l.length) : (cellsL k l)[j]? = some (.int k (l.getD j 0)) := by simp [cellsL, List.getD, h]
theorem cellsL_get (k : IntKind) (l : List Int) (j : Nat) (u : Value) (h : (cellsL k l)[j]? = some u) : j < l.length ∧ u = .int k (l.getD j 0) := by
  by_cases hj : j < l.length
  · rw [cellsL_at k l j hj] at h; exact ⟨hj, (Option.some.inj h).symm⟩
  · rw [List.getElem?_eq_none (by rw [cellsL_length]; omega)] at h; cases h
theorem cellsL_one (k : IntKind) (l : List Int) : ∀ u ∈ cellsL k l, u.oneCell' = true := by
  intro u hu
  obtain ⟨j, _, rfl⟩ := List.mem_map.1 hu
  rfl
theorem Row.later {k : IntKind} {w w' : World} {a : Option Addr} {l : List Int} (h : Row k w a l) (hB : Below w.heap.size w w') : Row k w' a l := by
  rcases h with ⟨rfl, rfl⟩ | ⟨x, rfl, hc⟩
  · exact .inl ⟨rfl, rfl⟩
  · refine .inr ⟨x, rfl, fun i hi => ?_⟩
    have h1 := hc i hi
    exact (hB.cell (World.block_lt_of_cell? w _ h1)).trans h1
theorem Row.drew {k : IntKind} {w : World} {a : Option Addr} {l : List Int} (h : Row k w a l) : Row k w.drew a l := h
theorem Row.take {k : IntKind} {w : World} {a : Option Addr} {l : List Int} (h : Row k w a l) (m : Nat) : Row k w a (l.take m) := by
  rcases h with ⟨rfl, rfl⟩ | ⟨x, rfl, hc⟩
  · exact .inl ⟨rfl, by simp⟩
  · refine .inr ⟨x, rfl, fun i hi => ?_⟩
    have h1 : i < l.length ∧ i < m := by simp at hi; omega
    rw [hc i h1.1]
    simp [List.getD, h1.2]
theorem Row.open {k : IntKind} {w : World} {a : Option Addr} {l : List Int} (h : Row k w a l) (hl : 0 < l.length) :
    ∃ b off, a = some ⟨b, off, none⟩ ∧ b < w.heap.size ∧ ∀ i, i < l.length → w.cell? ⟨b, off + i, none⟩ = some (.int k (l.getD i 0)) := by
  rcases h with ⟨rfl, rfl⟩ | ⟨x, rfl, hc⟩
  · simp at hl
  · obtain ⟨b, off, spot⟩ := x
    have hc0 := hc 0 hl
    have hspot : spot = none := by simpa [Addr.add] using World.cell?_spot hc0
    subst hspot
    exact ⟨b, off, rfl, World.block_lt_of_cell? w _ hc0, fun i hi => (add_none b off i) ▸ hc i hi⟩
theorem Row.mk {k : IntKind} {w : World} {b off : Nat} {l : List Int} (h : ∀ i, i < l.length → w.cell? ⟨b, off + i, none⟩ = some (.int k (l.getD i 0))) : Row k w (some ⟨b, off, none⟩) l :=
  .inr ⟨_, rfl, fun i hi => (add_none b off i).symm ▸ h i hi⟩
theorem Row.drop {k : IntKind} {w : World} {b off : Nat} {l : List Int} (h : Row k w (some ⟨b, off, none⟩) l) (m : Nat) : Row k w (some ⟨b, off + m, none⟩) (l.drop m) := by
  refine Row.mk fun i hi => ?_
  have hi' : m + i < l.length := by simp at hi; omega
  rcases h with ⟨e, _⟩ | ⟨x, e, hc⟩
  · cases e
  · injection e with e
    subst e
    have h1 := hc (m + i) hi'
    rw [add_none, ← Nat.add_assoc] at h1
    rw [h1]
    simp [List.getD]
theorem Row.one {k : IntKind} {w : World} {b : Nat} {x : Int} (h0 : w.cell? ⟨b, 0, none⟩ = some (.int k x)) : Row k w (some ⟨b, 0, none⟩) [x] := by
  refine Row.mk fun i hi => ?_
  match i, hi with
  | 0, _ => simpa using h0
theorem Row.two {k : IntKind} {w : World} {b : Nat} {x y : Int} (h0 : w.cell? ⟨b, 0, none⟩ = some (.int k x)) (h1 : w.cell? ⟨b, 1, none⟩ = some (.int k y)) : Row k w (some ⟨b, 0, none⟩) [x, y] := by
  refine Row.mk fun i hi => ?_
  match i, hi with
  | 0, _ => simpa using h0
  | 1, _ => simpa using h1

/-! ### append of rows -/
/-- A slice type t over an integer type e of kind k. -/
structure Elem (P : Program) (t e : TypeId) (k : IntKind) (bytes : Nat) : Prop where
  sl : P.underlying t = some (.slice e)
  el : P.underlying e = some (.int k)
  info : (P.info? e).map (fun i => (i.zero, i.size, i.bytes)) = some (some (.int k 0), 1, bytes)
/-- append(v, x...), v a row of the call's own, x any row (nil too). -/
theorem run_app {P : Program} {t e : TypeId} {k : IntKind} {bytes : Nat} (E : Elem P t e k bytes) (w : World) (ty base : Nat) (v : Value) (n : Nat) (l : List Int) (hown : w.ownsRow base e 1 v n (cellsL k l))
    (a : Option Addr) (m cap : Nat) (r : List Int) (hr : r.length = m) (hrow : Row k w a r) (hnil : a = none → cap = 0) (h63 : n + m ≤ maxLen) (hb : (n + m) * bytes ≤ 140737488355328) (hbase : base ≤ w.heap.size) :
    ∃ v' w', (Builtin.append_ #[t, t] ty #[v, .slice a m cap]).run P w = .ok v' w' ∧ w'.ownsRow base e 1 v' (n + m) (cellsL k (l ++ r)) ∧ w.grownBy w' v.ownBlock := by
  obtain ⟨i0, hi, hz0, hz1, hz2⟩ := info_parts E.info
  subst hr
  rcases hrow with ⟨rfl, rfl⟩ | ⟨x, rfl, hc⟩
  · obtain rfl := hnil rfl
    refine ⟨v, w, ?_, by simpa using hown, ⟨rfl, rfl, rfl, Nat.le_refl _, fun _ _ _ => rfl⟩⟩
    rcases hown.2 with ⟨rfl, rfl⟩ | ⟨g, c, cur, rfl, _, _, hnc, _⟩
    · simp [Builtin.append_, run_underlying E.sl, sizeOf, typeInfo, hi, Builtin.lenOf, Builtin.firstCells]
    · simp [Builtin.append_, run_underlying E.sl, sizeOf, typeInfo, hi, Builtin.lenOf, Builtin.firstCells, hnc, storeCells]
  · obtain ⟨v', w', h1, h2, h3, _⟩ := run_append_own (P := P) w base t ty e i0 (.int k 0) 1 bytes E.sl hi hz0 hz1 hz2 rfl (by decide) v n (cellsL k l) hown x r.length cap (cellsL k r)
      (by rw [cellsL_length, Nat.mul_one]) (fun j u hj => by obtain ⟨h, rfl⟩ := cellsL_get k r j u hj; exact hc j h) (cellsL_one k r) h63 hb hbase
    rw [← cellsL_append] at h2
    exact ⟨v', w', h1, h2, h3⟩
/-- A new copy: append(nil, x...). -/
theorem run_copy {P : Program} {t e : TypeId} {k : IntKind} {bytes : Nat} (E : Elem P t e k bytes) (w : World) (ty base : Nat) (a : Option Addr) (m cap : Nat) (r : List Int) (hr : r.length = m) (hrow : Row k w a r) (hnil : a = none → cap = 0)
    (h63 : m ≤ maxLen) (hb : m * bytes ≤ 140737488355328) (hbase : base ≤ w.heap.size) :
    ∃ v' w', (Builtin.append_ #[t, t] ty #[.slice none 0 0, .slice a m cap]).run P w = .ok v' w' ∧ w'.ownsRow base e 1 v' m (cellsL k r) ∧ w.grownBy w' none := by
  obtain ⟨v', w', h1, h2, h3⟩ := run_app E w ty base (.slice none 0 0) 0 [] (World.ownsRow_nil _ _ _ _) a m cap r hr hrow hnil (by omega) (by rw [Nat.zero_add]; exact hb) hbase
  rw [Nat.zero_add, List.nil_append] at h2
  exact ⟨v', w', h1, h2, h3⟩
/-- What a row of the call's own is. -/
theorem own_open {w : World} {base n : Nat} {e : TypeId} {k : IntKind} {v : Value} {l : List Int} (h : w.ownsRow base e 1 v n (cellsL k l)) (hl : l.length = n) :
    ∃ a c, v = .slice a n c ∧ Row k w a l ∧ (a = none → c = 0) ∧ n ≤ c ∧ c ≤ maxLen ∧ (0 < n → ∃ g, a = some ⟨g, 0, none⟩ ∧ base ≤ g ∧ g < w.heap.size ∧ (∀ i, i < n → w.cell? ⟨g, i, none⟩ = some (.int k (l.getD i 0))) ∧ ∀ o, w.frozen? ⟨g, o, none⟩ = false) := by
  have hcells := @World.ownsRow.cells _ _ _ _ _ _ _ h
  rcases h.2 with ⟨rfl, rfl⟩ | ⟨g, cap, cur, rfl, hb, hg, hnc, hcm, _⟩
  · exact ⟨none, 0, rfl, .inl ⟨rfl, List.length_eq_zero_iff.1 hl⟩, fun _ => rfl, Nat.le_refl _, Nat.zero_le _, fun h => by omega⟩
  · have hc : ∀ i, i < l.length → w.cell? ((⟨g, 0, none⟩ : Addr).add i) = some (.int k (l.getD i 0)) := fun i hi => hcells rfl i _ (cellsL_at k l i hi)
    refine ⟨_, _, rfl, .inr ⟨_, rfl, hc⟩, (fun h => by cases h), hnc, hcm, fun _ => ⟨g, rfl, hb, (h.lt g rfl).2, fun i hi => ?_, fun o => ?_⟩⟩
    · have h1 := hc i (by omega)
      rw [add_none, Nat.zero_add] at h1
      exact h1
    · simp [World.frozen?, hg]

/-! ### Strings out of bytes -/
/-- string(b), b any row of bytes (nil and empty too). -/
theorem conv_row {P : Program} {t e s : TypeId} {bytes : Nat} (E : Elem P t e .u8 bytes) (hs : P.underlying s = some .string) (w : World) (a : Option Addr) (m cap : Nat) (l : List Int) (hl : l.length = m) (hrow : Row .u8 w a l) :
    (convert t s (.slice a m cap)).run P w = .ok (.string (strOfNums l)) w := by
  subst hl
  rcases hrow with ⟨rfl, rfl⟩ | ⟨x, rfl, hc⟩
  · exact run_convert_bytes_nil (P := P) w t e E.sl E.el 0 cap s hs
  · by_cases h0 : l = []
    · subst h0
      rw [List.length_nil, run_convert_bytes_string w t s e _ 0 cap E.sl E.el hs, run_bytesToString w x 0 cap [] (by simp [loadCells, loadCellsFrom])]
      rfl
    · obtain ⟨b, off, hx, _, hcell⟩ := Row.open (k := .u8) (w := w) (.inr ⟨x, rfl, hc⟩) (List.length_pos_iff.2 h0)
      injection hx with hx
      subst hx
      exact run_convert_bytes_arg (P := P) w t e E.sl E.el b off l.length cap l rfl hcell s hs
theorem strOfNums_inj {l r : List Int} (hl : ∀ x ∈ l, 0 ≤ x ∧ x ≤ 255) (hr : ∀ x ∈ r, 0 ≤ x ∧ x ≤ 255) (h : strOfNums l = strOfNums r) : l = r := by
  have h1 : l.map (fun n => UInt8.ofNat n.toNat) = r.map (fun n => UInt8.ofNat n.toNat) := by
    rw [← strOfNums_data, ← strOfNums_data, h]
  have key : ∀ x y : Int, 0 ≤ x ∧ x ≤ 255 → 0 ≤ y ∧ y ≤ 255 → UInt8.ofNat x.toNat = UInt8.ofNat y.toNat → x = y := by
    intro x y hx hy e
    have e1 := congrArg UInt8.toNat e
    simp at e1
    omega
  clear h
  induction l generalizing r with
  | nil => cases r with
    | nil => rfl
    | cons y r => simp at h1
  | cons x l ih => cases r with
    | nil => simp at h1
    | cons y r =>
      simp only [List.map_cons, List.cons.injEq] at h1
      rw [key x y (hl x (by simp)) (hr y (by simp)) h1.1, ih (fun z hz => hl z (by simp [hz])) (fun z hz => hr z (by simp [hz])) h1.2]
end Go.Proofs.Ytcmkdkocponpiaa

/-
  Whole blocks of memory, over any program: what a block holds, what a store does to it, what a call may change. For a new seat: copy as <Name>Blk.lean; put the Name for 'Seat', also in the import.
-/
namespace Go.Proofs.Ytcmkdkocponpiaa
open Go.RowKit
set_option linter.unusedVariables false

/-- Block g holds these cells, and nothing of it is frozen. -/
def Blk (w : World) (g : Nat) (t : TypeId) (xs : List Value) : Prop := w.heap[g]? = some (.cells xs.toArray t (0, 0))
section
variable {w w' : World} {g : Nat} {t : TypeId} {xs : List Value}
theorem Blk.lt (h : Blk w g t xs) : g < w.heap.size := (Array.getElem?_eq_some_iff.1 h).1
theorem Blk.cell (h : Blk w g t xs) (i : Nat) : w.cell? ⟨g, i, none⟩ = xs[i]? := by
  unfold Blk at h
  simp [World.cell?, h]
theorem Blk.frozen (h : Blk w g t xs) (i : Nat) : w.frozen? ⟨g, i, none⟩ = false := by
  unfold Blk at h
  simp [World.frozen?, h]
theorem Blk.of_eq (h : Blk w g t xs) (e : w'.heap[g]? = w.heap[g]?) : Blk w' g t xs := Eq.trans e h
theorem Blk.other (h : Blk w g t xs) (a : Addr) (u : Value) (hn : g ≠ a.block) : Blk (w.setCell a u) g t xs := h.of_eq (Below.heap_setCell w a u g hn)
theorem Blk.set (h : Blk w g t xs) (i : Nat) (u : Value) : Blk (w.setCell ⟨g, i, none⟩ u) g t (xs.set i u) := by
  unfold Blk at h ⊢
  have hlt := (Array.getElem?_eq_some_iff.1 h).1
  unfold World.setCell
  simp [Array.getElem?_modify, h]
theorem Blk.alloc (h : Blk w g t xs) (o : Obj) : Blk (w.alloc o) g t xs := h.of_eq (Below.heap_alloc w o g h.lt)
theorem Blk.drew (h : Blk w g t xs) : Blk w.drew g t xs := h
theorem Blk.below {B : Nat} (h : Blk w g t xs) (hB : Below B w w') (hg : g < B) : Blk w' g t xs := h.of_eq (hB.block g hg)
theorem Blk.later (h : Blk w g t xs) (hB : Below w.heap.size w w') : Blk w' g t xs := h.below hB h.lt
theorem Blk.new (w : World) (xs : List Value) (t : TypeId) : Blk (w.alloc (.cells xs.toArray t)) w.heap.size t xs := by
  unfold Blk World.alloc
  simp
theorem Blk.newA (w : World) (xs : Array Value) (t : TypeId) : Blk (w.alloc (.cells xs t)) w.heap.size t xs.toList := by
  have := Blk.new w xs.toList t
  rwa [Array.toArray_toList] at this
/-- As a row of the call's own. -/
theorem Blk.owns (h : Blk w g t xs) (base n cap : Nat) (hb : base ≤ g) (hl : xs.length = cap) (hn : n ≤ cap) (hm : cap ≤ maxLen) : w.ownsRow base t 1 (.slice (some ⟨g, 0, none⟩) n cap) n (xs.take n) :=
  ⟨by simp; omega, .inr ⟨g, cap, xs.toArray, rfl, hb, h, hn, hm, by simp [hl], by simp⟩⟩
theorem Blk.row {k : IntKind} {l : List Int} (h : Blk w g t (cellsL k l)) : Row k w (some ⟨g, 0, none⟩) l := by
  refine Row.mk fun i hi => ?_
  rw [Nat.zero_add, h.cell, cellsL_at k l i hi]
end
theorem own_blk {w : World} {base n : Nat} {e : TypeId} {v : Value} {xs : List Value} (h : w.ownsRow base e 1 v n xs) (hn : 0 < n) :
    ∃ g cap ys, v = .slice (some ⟨g, 0, none⟩) n cap ∧ base ≤ g ∧ n ≤ cap ∧ cap ≤ maxLen ∧ ys.length = cap ∧ ys.take n = xs ∧ Blk w g e ys := by
  rcases h.2 with ⟨_, h0⟩ | ⟨g, cap, cur, rfl, hb, hg, hnc, hcm, hs, ht⟩
  · omega
  · exact ⟨g, cap, cur.toList, rfl, hb, hnc, hcm, by simpa using hs, by simpa using ht, by unfold Blk; rw [Array.toArray_toList]; exact hg⟩
theorem cellsL_set (k : IntKind) (l : List Int) (i : Nat) (x : Int) : (cellsL k l).set i (.int k x) = cellsL k (l.set i x) := by simp [cellsL, List.map_set]

/-- What a call may change: the blocks of S, and what it makes. -/
structure Upd (S : Nat → Prop) (w w' : World) : Prop where
  os : w'.os = w.os
  tape : w'.tape = w.tape
  output : w'.output = w.output
  size : w.heap.size ≤ w'.heap.size
  block : ∀ k, k < w.heap.size → ¬ S k → w'.heap[k]? = w.heap[k]?
theorem Upd.refl (S : Nat → Prop) (w : World) : Upd S w w := ⟨rfl, rfl, rfl, Nat.le_refl _, fun _ _ _ => rfl⟩
theorem Upd.of_below {S : Nat → Prop} {w w' : World} (h : Below w.heap.size w w') : Upd S w w' := ⟨h.os, h.tape, h.output, h.size, fun k hk _ => h.block k hk⟩
theorem Upd.trans {S T : Nat → Prop} {a b c : World} (h : Upd S a b) (g : Upd T b c) (hs : ∀ k, k < a.heap.size → T k → S k) : Upd S a c :=
  ⟨g.os.trans h.os, g.tape.trans h.tape, g.output.trans h.output, Nat.le_trans h.size g.size, fun k hk hn => (g.block k (Nat.lt_of_lt_of_le hk h.size) (fun ht => hn (hs k hk ht))).trans (h.block k hk hn)⟩
theorem Upd.to {S : Nat → Prop} {a b c : World} (h : Upd S a b) (g : Upd S b c) : Upd S a c := h.trans g (fun _ _ h => h)
theorem Upd.mono {S T : Nat → Prop} {a b : World} (h : Upd S a b) (hs : ∀ k, k < a.heap.size → S k → T k) : Upd T a b := ⟨h.os, h.tape, h.output, h.size, fun k hk hn => h.block k hk (fun ht => hn (hs k hk ht))⟩
theorem Upd.then {S : Nat → Prop} {a b c : World} (h : Upd S a b) (g : Below b.heap.size b c) : Upd S a c := h.trans (Upd.of_below (S := fun _ => False) g) (fun _ _ h => h.elim)
theorem Upd.below {S : Nat → Prop} {w w' : World} (h : Upd S w w') (B : Nat) (hB : B ≤ w.heap.size) (hs : ∀ k, S k → B ≤ k) : Below B w w' :=
  ⟨h.os, h.tape, h.output, h.size, fun k hk => h.block k (by omega) (fun ht => by have := hs k ht; omega)⟩
theorem Upd.set {S : Nat → Prop} {a w : World} (h : Upd S a w) (p : Addr) (u : Value) (hp : S p.block ∨ a.heap.size ≤ p.block) : Upd S a (w.setCell p u) :=
  ⟨h.os, h.tape, h.output, by rw [World.size_setCell]; exact h.size, fun k hk hn => (Below.heap_setCell w p u k (by rintro rfl; rcases hp with hp | hp; exact hn hp; omega)).trans (h.block k hk hn)⟩
theorem Upd.alloc {S : Nat → Prop} {a w : World} (h : Upd S a w) (o : Obj) : Upd S a (w.alloc o) :=
  h.then ((Below.refl _ _).alloc (Nat.le_refl _) o)
theorem Upd.drew {S : Nat → Prop} {a w : World} (h : Upd S a w) : Upd S a w.drew := ⟨h.os, h.tape, h.output, h.size, h.block⟩
theorem Upd.grown {S : Nat → Prop} {a w w' : World} {row : Option Nat} (h : Upd S a w) (hg : w.grownBy w' row) (hr : ∀ k, row = some k → S k ∨ a.heap.size ≤ k) : Upd S a w' :=
  ⟨hg.os.trans h.os, hg.tape.trans h.tape, hg.output.trans h.output, Nat.le_trans h.size hg.size, fun k hk hn => (hg.block k (Nat.lt_of_lt_of_le hk h.size) (fun e => by rcases hr k e.symm with h1 | h1; exact hn h1; omega)).trans (h.block k hk hn)⟩
theorem Blk.upd {w w' : World} {g : Nat} {t : TypeId} {xs : List Value} {S : Nat → Prop} (h : Blk w g t xs) (hu : Upd S w w') (hg : ¬ S g) : Blk w' g t xs := h.of_eq (hu.block g h.lt hg)
theorem Row.upd {k : IntKind} {w w' : World} {a : Option Addr} {l : List Int} {S : Nat → Prop} (h : Row k w a l) (hu : Upd S w w') (hg : ∀ x, a = some x → ¬ S x.block) : Row k w' a l := by
  rcases h with ⟨rfl, rfl⟩ | ⟨x, rfl, hc⟩
  · exact .inl ⟨rfl, rfl⟩
  · refine .inr ⟨x, rfl, fun i hi => ?_⟩
    have h1 := hc i hi
    have hb : (x.add i).block = x.block := by unfold Addr.add; split <;> rfl
    have hlt := World.block_lt_of_cell? w _ h1
    rw [World.cell?_of_block (w := w) (hu.block _ hlt (by rw [hb]; exact hg x rfl))]
    exact h1
end Go.Proofs.Ytcmkdkocponpiaa
