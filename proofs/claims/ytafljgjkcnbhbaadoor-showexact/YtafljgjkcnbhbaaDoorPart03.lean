import Derived.WalkKit
import Derived.WalkLawsBesides
import Derived.WalkSpells
import Derived.Outline
import Derived.BigQuiet
import Derived.Deep.QuietTactic
import Derived.Deep.RegionWith
import Derived.Deep.DeepCutAuto
import Derived.Deep.LoopGhost
import Derived.Deep.DeepMust
import Derived.Deep.RegionHeld3
import Derived.Deep.RegionHeldLaw
import Derived.Laws.BytesArg

/-
  Lemmas that hold over any program: rows of integers in memory, copies by append, strings out of bytes, appends by their run. For a new seat: copy this text as <Name>Base.lean and put the seat's Name for 'Seat' in the two namespace rows.
-/
namespace Go.Proofs.YtafljgjkcnbhbaaDoor
open Go.RowKit
set_option linter.unusedVariables false

theorem hide_ {p : Prop} (h : p) : Hid p := h
theorem w64 (n : Int) (h : -9223372036854775808 ≤ n ∧ n ≤ 9223372036854775807) : wrap64 n = n := by unfold wrap64; omega
theorem ret_int {k : IntKind} {a b : Int} (h : a = b) : Ending.returned (.int k a) = .returned (.int k b) := by rw [h]
theorem ret_bool {a : Bool} (h : a = true) : Ending.returned (.bool a) = .returned (.bool true) := by rw [h]
theorem ret_two {k m : IntKind} {a b c d : Int} (h : a = b) (g : c = d) : Ending.returned (.tuple #[.int k a, .int m c]) = .returned (.tuple #[.int k b, .int m d]) := by rw [h, g]
theorem below_to {a b c : World} (h : Below a.heap.size a b) (k : Below b.heap.size b c) : Below a.heap.size a c := h.trans (k.mono h.size)
theorem add_none (b off i : Nat) : (⟨b, off, none⟩ : Addr).add i = ⟨b, off + i, none⟩ := by unfold Addr.add; split <;> simp_all

/-! ### append by its run: in a walk; in a region that draws -/
theorem wpList_append_run {P : Program} {w w' : World} {ops : Array Oper} {rest : List Oper} {o : Oper} {a : Act} {Q : Exit → Act → World → Prop} (hgd : o.guard = none) (s x : Operand) (t t2 : TypeId)
    (ho : o.op = .call { callee := .builtin .append, args := #[s, x], argTypes := #[t, t2] }) {v u v' : Value} (hs : a.eval s = v) (hx : a.eval x = u)
    (hr : (Builtin.append_ #[t, t2] o.type #[v, u]).run P w = .ok v' w') (h : wpList P ops Q rest (a.put o.dst v') w') : wpList P ops Q (o :: rest) a w := by
  refine wpList_plain hgd fun K hK => ?_
  unfold Oper.wp execOp
  simp only [ho, resolve, invoke, builtin, Sem.run_bind, Sem.run_pure, Result.andThen_ok, List.map_toArray, List.map_cons, List.map_nil, hs, hx, hr]
  exact hK _ _ h
theorem step_append_run {P : Program} {ops : Array Oper} {o : Oper} {a : Act} {w w' : World} {K : Act → World → Prop} {Q : Exit → Act → World → Prop} {E : Prop}
    (hg : o.guard = none) (s x : Operand) (t t2 : TypeId) (hop : o.op = Op.call { callee := Callee.builtin Builtin.append, args := #[s, x], argTypes := #[t, t2] })
    {v u v' : Value} (hs : a.eval s = v) (hx : a.eval x = u) (hr : (Builtin.append_ #[t, t2] o.type #[v, u]).run P w = .ok v' w') (hK : K (a.put o.dst v') w') :
    if Region.wanted o (yielded ops a.tmps) = true then Oper.wp P o a w K Q else E := by
  have hw : Region.wanted o (yielded ops a.tmps) = true := by simp [Region.wanted, hg]
  rw [if_pos hw]
  unfold Oper.wp
  simp [execOp, hop, resolve, invoke, builtin, hs, hx, hr, Result.andThen]
  exact hK

/-! ### Rows of integers -/
/-- It is nil and empty, or its cells hold these numbers. -/
def Row (k : IntKind) (w : World) (a : Option Addr) (l : List Int) : Prop :=
  (a = none ∧ l = []) ∨ ∃ x, a = some x ∧ ∀ i, i < l.length → w.cell? (x.add i) = some (.int k (l.getD i 0))
def cellsL (k : IntKind) (l : List Int) : List Value := l.map (Value.int k)
theorem cellsL_length (k : IntKind) (l : List Int) : (cellsL k l).length = l.length := by simp [cellsL]
theorem cellsL_append (k : IntKind) (l r : List Int) : cellsL k (l ++ r) = cellsL k l ++ cellsL k r := by simp [cellsL]
theorem cellsL_at (k : IntKind) (l : List Int) (j : Nat) (h : j < l.length) : (cellsL k l)[j]? = some (.int k (l.getD j 0)) := by simp [cellsL, List.getD, h]
theorem cellsL_get (k : IntKind) (l : List Int) (j : Nat) (u : Value) (h : (cellsL k l)[j]? = some u) : j < l.length ∧ u = .int k (l.getD j 0) := by
  by_cases hj : j < l.length
  · rw [cellsL_at k l j hj] at h; exact ⟨hj, (Option.some.inj h).symm⟩
  · rw [List.getElem?_eq_none (by rw [cellsL_length]; omega)] at h; cases h
theorem cellsL_one (k : IntKind) (l : List Int) : ∀ u ∈ cellsL k l, u.oneCell' = true := by
  intro u hu
  obtain ⟨j, _, rfl⟩ := List.mem_map.1 hu
  rfl
theorem Row.later {k : IntKind} {w w' : World} {a : Option Addr} {l : List Int} (h : Row k w a l) (hB : Below w.heap.size w w') : Row k w' a l := by
  rcases h with ⟨rfl, rfl⟩ | ⟨x, rfl, hc⟩
  · exact .inl ⟨rfl, rfl⟩
  · refine .inr ⟨x, rfl, fun i hi => ?_⟩
    have h1 := hc i hi
    exact (hB.cell (World.block_lt_of_cell? w _ h1)).trans h1
theorem Row.drew {k : IntKind} {w : World} {a : Option Addr} {l : List Int} (h : Row k w a l) : Row k w.drew a l := h
theorem Row.take {k : IntKind} {w : World} {a : Option Addr} {l : List Int} (h : Row k w a l) (m : Nat) : Row k w a (l.take m) := by
  rcases h with ⟨rfl, rfl⟩ | ⟨x, rfl, hc⟩
  · exact .inl ⟨rfl, by simp⟩
  · refine .inr ⟨x, rfl, fun i hi => ?_⟩
    have h1 : i < l.length ∧ i < m := by simp at hi; omega
    rw [hc i h1.1]
    simp [List.getD, h1.2]
theorem Row.open {k : IntKind} {w : World} {a : Option Addr} {l : List Int} (h : Row k w a l) (hl : 0 < l.length) :
    ∃ b off, a = some ⟨b, off, none⟩ ∧ b < w.heap.size ∧ ∀ i, i < l.length → w.cell? ⟨b, off + i, none⟩ = some (.int k (l.getD i 0)) := by
  rcases h with ⟨rfl, rfl⟩ | ⟨x, rfl, hc⟩
  · simp at hl
  · obtain ⟨b, off, spot⟩ := x
    have hc0 := hc 0 hl
    have hspot : spot = none := by simpa [Addr.add] using World.cell?_spot hc0
    subst hspot
    exact ⟨b, off, rfl, World.block_lt_of_cell? w _ hc0, fun i hi => (add_none b off i) ▸ hc i hi⟩
theorem Row.mk {k : IntKind} {w : World} {b off : Nat} {l : List Int} (h : ∀ i, i < l.length → w.cell? ⟨b, off + i, none⟩ = some (.int k (l.getD i 0))) : Row k w (some ⟨b, off, none⟩) l :=
  .inr ⟨_, rfl, fun i hi => (add_none b off i).symm ▸ h i hi⟩
theorem Row.drop {k : IntKind} {w : World} {b off : Nat} {l : List Int} (h : Row k w (some ⟨b, off, none⟩) l) (m : Nat) : Row k w (some ⟨b, off + m, none⟩) (l.drop m) := by
  refine Row.mk fun i hi => ?_
  have hi' : m + i < l.length := by simp at hi; omega
  rcases h with ⟨e, _⟩ | ⟨x, e, hc⟩
  · cases e
  · injection e with e
    subst e
    have h1 := hc (m + i) hi'
    rw [add_none, ← Nat.add_assoc] at h1
    rw [h1]
    simp [List.getD]
theorem Row.one {k : IntKind} {w : World} {b : Nat} {x : Int} (h0 : w.cell? ⟨b, 0, none⟩ = some (.int k x)) : Row k w (some ⟨b, 0, none⟩) [x] := by
  refine Row.mk fun i hi => ?_
  match i, hi with
  | 0, _ => simpa using h0
theorem Row.two {k : IntKind} {w : World} {b : Nat} {x y : Int} (h0 : w.cell? ⟨b, 0, none⟩ = some (.int k x)) (h1 : w.cell? ⟨b, 1, none⟩ = some (.int k y)) : Row k w (some ⟨b, 0, none⟩) [x, y] := by
  refine Row.mk fun i hi => ?_
  match i, hi with
  | 0, _ => simpa using h0
  | 1, _ => simpa using h1

/-! ### append of rows -/
/-- A slice type t over an integer type e of kind k. -/
structure Elem (P : Program) (t e : TypeId) (k : IntKind) (bytes : Nat) : Prop where
  sl : P.underlying t = some (.slice e)
  el : P.underlying e = some (.int k)
  info : (P.info? e).map (fun i => (i.zero, i.size, i.bytes)) = some (some (.int k 0), 1, bytes)
/-- append(v, x...), v a row of the call's own, x any row (nil too). -/
theorem run_app {P : Program} {t e : TypeId} {k : IntKind} {bytes : Nat} (E : Elem P t e k bytes) (w : World) (ty base : Nat) (v : Value) (n : Nat) (l : List Int) (hown : w.ownsRow base e 1 v n (cellsL k l))
    (a : Option Addr) (m cap : Nat) (r : List Int) (hr : r.length = m) (hrow : Row k w a r) (hnil : a = none → cap = 0) (h63 : n + m ≤ maxLen) (hb : (n + m) * bytes ≤ 140737488355328) (hbase : base ≤ w.heap.size) :
    ∃ v' w', (Builtin.append_ #[t, t] ty #[v, .slice a m cap]).run P w = .ok v' w' ∧ w'.ownsRow base e 1 v' (n + m) (cellsL k (l ++ r)) ∧ w.grownBy w' v.ownBlock := by
  obtain ⟨i0, hi, hz0, hz1, hz2⟩ := info_parts E.info
  subst hr
  rcases hrow with ⟨rfl, rfl⟩ | ⟨x, rfl, hc⟩
  · obtain rfl := hnil rfl
    refine ⟨v, w, ?_, by simpa using hown, ⟨rfl, rfl, rfl, Nat.le_refl _, fun _ _ _ => rfl⟩⟩
    rcases hown.2 with ⟨rfl, rfl⟩ | ⟨g, c, cur, rfl, _, _, hnc, _⟩
    · simp [Builtin.append_, run_underlying E.sl, sizeOf, typeInfo, hi, Builtin.lenOf, Builtin.firstCells]
    · simp [Builtin.append_, run_underlying E.sl, sizeOf, typeInfo, hi, Builtin.lenOf, Builtin.firstCells, hnc, storeCells]
  · obtain ⟨v', w', h1, h2, h3, _⟩ := run_append_own (P := P) w base t ty e i0 (.int k 0) 1 bytes E.sl hi hz0 hz1 hz2 rfl (by decide) v n (cellsL k l) hown x r.length cap (cellsL k r)
      (by rw [cellsL_length, Nat.mul_one]) (fun j u hj => by obtain ⟨h, rfl⟩ := cellsL_get k r j u hj; exact hc j h) (cellsL_one k r) h63 hb hbase
    rw [← cellsL_append] at h2
    exact ⟨v', w', h1, h2, h3⟩
/-- A new copy: append(nil, x...). -/
theorem run_copy {P : Program} {t e : TypeId} {k : IntKind} {bytes : Nat} (E : Elem P t e k bytes) (w : World) (ty base : Nat) (a : Option Addr) (m cap : Nat) (r : List Int) (hr : r.length = m) (hrow : Row k w a r) (hnil : a = none → cap = 0)
    (h63 : m ≤ maxLen) (hb : m * bytes ≤ 140737488355328) (hbase : base ≤ w.heap.size) :
    ∃ v' w', (Builtin.append_ #[t, t] ty #[.slice none 0 0, .slice a m cap]).run P w = .ok v' w' ∧ w'.ownsRow base e 1 v' m (cellsL k r) ∧ w.grownBy w' none := by
  obtain ⟨v', w', h1, h2, h3⟩ := run_app E w ty base (.slice none 0 0) 0 [] (World.ownsRow_nil _ _ _ _) a m cap r hr hrow hnil (by omega) (by rw [Nat.zero_add]; exact hb) hbase
  rw [Nat.zero_add, List.nil_append] at h2
  exact ⟨v', w', h1, h2, h3⟩
/-- What a row of the call's own is. -/
theorem own_open {w : World} {base n : Nat} {e : TypeId} {k : IntKind} {v : Value} {l : List Int} (h : w.ownsRow base e 1 v n (cellsL k l)) (hl : l.length = n) :
    ∃ a c, v = .slice a n c ∧ Row k w a l ∧ (a = none → c = 0) ∧ n ≤ c ∧ c ≤ maxLen ∧ (0 < n → ∃ g, a = some ⟨g, 0, none⟩ ∧ base ≤ g ∧ g < w.heap.size ∧ (∀ i, i < n → w.cell? ⟨g, i, none⟩ = some (.int k (l.getD i 0))) ∧ ∀ o, w.frozen? ⟨g, o, none⟩ = false) := by
  have hcells := @World.ownsRow.cells _ _ _ _ _ _ _ h
  rcases h.2 with ⟨rfl, rfl⟩ | ⟨g, cap, cur, rfl, hb, hg, hnc, hcm, _⟩
  · exact ⟨none, 0, rfl, .inl ⟨rfl, List.length_eq_zero_iff.1 hl⟩, fun _ => rfl, Nat.le_refl _, Nat.zero_le _, fun h => by omega⟩
  · have hc : ∀ i, i < l.length → w.cell? ((⟨g, 0, none⟩ : Addr).add i) = some (.int k (l.getD i 0)) := fun i hi => hcells rfl i _ (cellsL_at k l i hi)
    refine ⟨_, _, rfl, .inr ⟨_, rfl, hc⟩, (fun h => by cases h), hnc, hcm, fun _ => ⟨g, rfl, hb, (h.lt g rfl).2, fun i hi => ?_, fun o => ?_⟩⟩
    · have h1 := hc i (by omega)
      rw [add_none, Nat.zero_add] at h1
      exact h1
    · simp [World.frozen?, hg]

/-! ### Strings out of bytes -/
/-- string(b), b any row of bytes (nil and empty too). -/
theorem conv_row {P : Program} {t e s : TypeId} {bytes : Nat} (E : Elem P t e .u8 bytes) (hs : P.underlying s = some .string) (w : World) (a : Option Addr) (m cap : Nat) (l : List Int) (hl : l.length = m) (hrow : Row .u8 w a l) :
    (convert t s (.slice a m cap)).run P w = .ok (.string (strOfNums l)) w := by
  subst hl
  rcases hrow with ⟨rfl, rfl⟩ | ⟨x, rfl, hc⟩
  · exact run_convert_bytes_nil (P := P) w t e E.sl E.el 0 cap s hs
  · by_cases h0 : l = []
    · subst h0
      rw [List.length_nil, run_convert_bytes_string w t s e _ 0 cap E.sl E.el hs, run_bytesToString w x 0 cap [] (by simp [loadCells, loadCellsFrom])]
      rfl
    · obtain ⟨b, off, hx, _, hcell⟩ := Row.open (k := .u8) (w := w) (.inr ⟨x, rfl, hc⟩) (List.length_pos_iff.2 h0)
      injection hx with hx
      subst hx
      exact run_convert_bytes_arg (P := P) w t e E.sl E.el b off l.length cap l rfl hcell s hs
theorem strOfNums_inj {l r : List Int} (hl : ∀ x ∈ l, 0 ≤ x ∧ x ≤ 255) (hr : ∀ x ∈ r, 0 ≤ x ∧ x ≤ 255) (h : strOfNums l = strOfNums r) : l = r := by
  have h1 : l.map (fun n => UInt8.ofNat n.toNat) = r.map (fun n => UInt8.ofNat n.toNat) := by
    rw [← strOfNums_data, ← strOfNums_data, h]
  have key : ∀ x y : Int, 0 ≤ x ∧ x ≤ 255 → 0 ≤ y ∧ y ≤ 255 → UInt8.ofNat x.toNat = UInt8.ofNat y.toNat → x = y := by
    intro x y hx hy e
    have e1 := congrArg UInt8.toNat e
    simp at e1
    omega
  clear h
  induction l generalizing r with
  | nil => cases r with
    | nil => rfl
    | cons y r => simp at h1
  | cons x l ih => cases r with
    | nil => simp at h1
    | cons y r =>
      simp only [List.map_cons, List.cons.injEq] at h1
      rw [key x y (hl x (by simp)) (hr y (by simp)) h1.1, ih (fun z hz => hl z (by simp [hz])) (fun z hz => hr z (by simp [hz])) h1.2]
end Go.Proofs.YtafljgjkcnbhbaaDoor

/-
  Whole blocks of memory, over any program: what a block holds, what a store does to it, what a call may change. For a new seat: copy as <Name>Blk.lean; put the Name for 'Seat', also in the import.
-/
namespace Go.Proofs.YtafljgjkcnbhbaaDoor
open Go.RowKit
set_option linter.unusedVariables false

/-- Block g holds these cells, and nothing of it is frozen. -/
def Blk (w : World) (g : Nat) (t : TypeId) (xs : List Value) : Prop := w.heap[g]? = some (.cells xs.toArray t (0, 0))
section
variable {w w' : World} {g : Nat} {t : TypeId} {xs : List Value}
theorem Blk.lt (h : Blk w g t xs) : g < w.heap.size := (Array.getElem?_eq_some_iff.1 h).1
theorem Blk.cell (h : Blk w g t xs) (i : Nat) : w.cell? ⟨g, i, none⟩ = xs[i]? := by
  unfold Blk at h
  simp [World.cell?, h]
theorem Blk.frozen (h : Blk w g t xs) (i : Nat) : w.frozen? ⟨g, i, none⟩ = false := by
  unfold Blk at h
  simp [World.frozen?, h]
theorem Blk.of_eq (h : Blk w g t xs) (e : w'.heap[g]? = w.heap[g]?) : Blk w' g t xs := Eq.trans e h
theorem Blk.other (h : Blk w g t xs) (a : Addr) (u : Value) (hn : g ≠ a.block) : Blk (w.setCell a u) g t xs := h.of_eq (Below.heap_setCell w a u g hn)
theorem Blk.set (h : Blk w g t xs) (i : Nat) (u : Value) : Blk (w.setCell ⟨g, i, none⟩ u) g t (xs.set i u) := by
  unfold Blk at h ⊢
  have hlt := (Array.getElem?_eq_some_iff.1 h).1
  unfold World.setCell
  simp [Array.getElem?_modify, h]
theorem Blk.alloc (h : Blk w g t xs) (o : Obj) : Blk (w.alloc o) g t xs := h.of_eq (Below.heap_alloc w o g h.lt)
theorem Blk.drew (h : Blk w g t xs) : Blk w.drew g t xs := h
theorem Blk.below {B : Nat} (h : Blk w g t xs) (hB : Below B w w') (hg : g < B) : Blk w' g t xs := h.of_eq (hB.block g hg)
theorem Blk.later (h : Blk w g t xs) (hB : Below w.heap.size w w') : Blk w' g t xs := h.below hB h.lt
theorem Blk.new (w : World) (xs : List Value) (t : TypeId) : Blk (w.alloc (.cells xs.toArray t)) w.heap.size t xs := by
  unfold Blk World.alloc
  simp
theorem Blk.newA (w : World) (xs : Array Value) (t : TypeId) : Blk (w.alloc (.cells xs t)) w.heap.size t xs.toList := by
  have := Blk.new w xs.toList t
  rwa [Array.toArray_toList] at this
/-- As a row of the call's own. -/
theorem Blk.owns (h : Blk w g t xs) (base n cap : Nat) (hb : base ≤ g) (hl : xs.length = cap) (hn : n ≤ cap) (hm : cap ≤ maxLen) : w.ownsRow base t 1 (.slice (some ⟨g, 0, none⟩) n cap) n (xs.take n) :=
  ⟨by simp; omega, .inr ⟨g, cap, xs.toArray, rfl, hb, h, hn, hm, by simp [hl], by simp⟩⟩
theorem Blk.row {k : IntKind} {l : List Int} (h : Blk w g t (cellsL k l)) : Row k w (some ⟨g, 0, none⟩) l := by
  refine Row.mk fun i hi => ?_
  rw [Nat.zero_add, h.cell, cellsL_at k l i hi]
end
theorem own_blk {w : World} {base n : Nat} {e : TypeId} {v : Value} {xs : List Value} (h : w.ownsRow base e 1 v n xs) (hn : 0 < n) :
    ∃ g cap ys, v = .slice (some ⟨g, 0, none⟩) n cap ∧ base ≤ g ∧ n ≤ cap ∧ cap ≤ maxLen ∧ ys.length = cap ∧ ys.take n = xs ∧ Blk w g e ys := by
  rcases h.2 with ⟨_, h0⟩ | ⟨g, cap, cur, rfl, hb, hg, hnc, hcm, hs, ht⟩
  · omega
  · exact ⟨g, cap, cur.toList, rfl, hb, hnc, hcm, by simpa using hs, by simpa using ht, by unfold Blk; rw [Array.toArray_toList]; exact hg⟩
theorem cellsL_set (k : IntKind) (l : List Int) (i : Nat) (x : Int) : (cellsL k l).set i (.int k x) = cellsL k (l.set i x) := by simp [cellsL, List.map_set]

/-- What a call may change: the blocks of S, and what it makes. -/
structure Upd (S : Nat → Prop) (w w' : World) : Prop where
  os : w'.os = w.os
  tape : w'.tape = w.tape
  output : w'.output = w.output
  size : w.heap.size ≤ w'.heap.size
  block : ∀ k, k < w.heap.size → ¬ S k → w'.heap[k]? = w.heap[k]?
theorem Upd.refl (S : Nat → Prop) (w : World) : Upd S w w := ⟨rfl, rfl, rfl, Nat.le_refl _, fun _ _ _ => rfl⟩
theorem Upd.of_below {S : Nat → Prop} {w w' : World} (h : Below w.heap.size w w') : Upd S w w' := ⟨h.os, h.tape, h.output, h.size, fun k hk _ => h.block k hk⟩
theorem Upd.trans {S T : Nat → Prop} {a b c : World} (h : Upd S a b) (g : Upd T b c) (hs : ∀ k, k < a.heap.size → T k → S k) : Upd S a c :=
  ⟨g.os.trans h.os, g.tape.trans h.tape, g.output.trans h.output, Nat.le_trans h.size g.size, fun k hk hn => (g.block k (Nat.lt_of_lt_of_le hk h.size) (fun ht => hn (hs k hk ht))).trans (h.block k hk hn)⟩
theorem Upd.to {S : Nat → Prop} {a b c : World} (h : Upd S a b) (g : Upd S b c) : Upd S a c := h.trans g (fun _ _ h => h)
theorem Upd.mono {S T : Nat → Prop} {a b : World} (h : Upd S a b) (hs : ∀ k, k < a.heap.size → S k → T k) : Upd T a b := ⟨h.os, h.tape, h.output, h.size, fun k hk hn => h.block k hk (fun ht => hn (hs k hk ht))⟩
theorem Upd.then {S : Nat → Prop} {a b c : World} (h : Upd S a b) (g : Below b.heap.size b c) : Upd S a c := h.trans (Upd.of_below (S := fun _ => False) g) (fun _ _ h => h.elim)
theorem Upd.below {S : Nat → Prop} {w w' : World} (h : Upd S w w') (B : Nat) (hB : B ≤ w.heap.size) (hs : ∀ k, S k → B ≤ k) : Below B w w' :=
  ⟨h.os, h.tape, h.output, h.size, fun k hk => h.block k (by omega) (fun ht => by have := hs k ht; omega)⟩
theorem Upd.set {S : Nat → Prop} {a w : World} (h : Upd S a w) (p : Addr) (u : Value) (hp : S p.block ∨ a.heap.size ≤ p.block) : Upd S a (w.setCell p u) :=
  ⟨h.os, h.tape, h.output, by rw [World.size_setCell]; exact h.size, fun k hk hn => (Below.heap_setCell w p u k (by rintro rfl; rcases hp with hp | hp; exact hn hp; omega)).trans (h.block k hk hn)⟩
theorem Upd.alloc {S : Nat → Prop} {a w : World} (h : Upd S a w) (o : Obj) : Upd S a (w.alloc o) :=
  h.then ((Below.refl _ _).alloc (Nat.le_refl _) o)
theorem Upd.drew {S : Nat → Prop} {a w : World} (h : Upd S a w) : Upd S a w.drew := ⟨h.os, h.tape, h.output, h.size, h.block⟩
theorem Upd.grown {S : Nat → Prop} {a w w' : World} {row : Option Nat} (h : Upd S a w) (hg : w.grownBy w' row) (hr : ∀ k, row = some k → S k ∨ a.heap.size ≤ k) : Upd S a w' :=
  ⟨hg.os.trans h.os, hg.tape.trans h.tape, hg.output.trans h.output, Nat.le_trans h.size hg.size, fun k hk hn => (hg.block k (Nat.lt_of_lt_of_le hk h.size) (fun e => by rcases hr k e.symm with h1 | h1; exact hn h1; omega)).trans (h.block k hk hn)⟩
theorem Blk.upd {w w' : World} {g : Nat} {t : TypeId} {xs : List Value} {S : Nat → Prop} (h : Blk w g t xs) (hu : Upd S w w') (hg : ¬ S g) : Blk w' g t xs := h.of_eq (hu.block g h.lt hg)
theorem Row.upd {k : IntKind} {w w' : World} {a : Option Addr} {l : List Int} {S : Nat → Prop} (h : Row k w a l) (hu : Upd S w w') (hg : ∀ x, a = some x → ¬ S x.block) : Row k w' a l := by
  rcases h with ⟨rfl, rfl⟩ | ⟨x, rfl, hc⟩
  · exact .inl ⟨rfl, rfl⟩
  · refine .inr ⟨x, rfl, fun i hi => ?_⟩
    have h1 := hc i hi
    have hb : (x.add i).block = x.block := by unfold Addr.add; split <;> rfl
    have hlt := World.block_lt_of_cell? w _ h1
    rw [World.cell?_of_block (w := w) (hu.block _ hlt (by rw [hb]; exact hg x rfl))]
    exact h1
end Go.Proofs.YtafljgjkcnbhbaaDoor

/- Texts cut into tokens, plain: nothing of the program is named. -/
namespace Go.Proofs.YtafljgjkcnbhbaaDoor
set_option linter.unusedVariables false

def letter (c : UInt8) : Bool := decide (97 ≤ c.toNat ∧ c.toNat ≤ 122)
def digit (c : UInt8) : Bool := decide (48 ≤ c.toNat ∧ c.toNat ≤ 57)
def blank (c : UInt8) : Bool := decide (c.toNat = 32 ∨ c.toNat = 9 ∨ c.toNat = 10)
def mark (c : UInt8) : Bool := decide (c.toNat = 61 ∨ c.toNat = 59 ∨ c.toNat = 60 ∨ c.toNat = 62 ∨ c.toNat = 44 ∨ c.toNat = 58 ∨ c.toNat = 123 ∨ c.toNat = 125)
def goes (c : UInt8) : Bool := letter c || digit c || decide (c.toNat = 95)
def sharp (c : UInt8) : Bool := decide (c.toNat = 35)
/-- It does not end a line. -/
def inl (c : UInt8) : Bool := decide (c.toNat ≠ 10)

/-- A token: kind, text, number, the first place, the place behind. -/
structure Tk where
  k : Int
  t : ByteArray
  n : Int
  a : Nat
  e : Nat

def num (w : List UInt8) : Nat := w.foldl (fun n d => n * 10 + (d.toNat - 48)) 0
def numOk (w : List UInt8) : Bool := decide (¬ (1 < w.length ∧ ∃ c, w.head? = some c ∧ c.toNat = 48) ∧ num w ≤ 2147483647)
/-- May this byte go on in the token that begins with that one? -/
def follows (c x : UInt8) : Bool := if letter c then goes x else if digit c then digit x else false
/-- How long the token is that begins here; 0: none does. -/
def wl : List UInt8 → Nat
  | [] => 0
  | c :: r => if letter c || digit c || mark c then 1 + (r.takeWhile (follows c)).length else 0
/-- What is wrong with a token that is written so. -/
def erW : List UInt8 → Nat
  | [] => 50
  | c :: r => if letter c then (if r.length < 32 then 0 else 52) else if digit c then (if numOk (c :: r) then 0 else 51) else 0
def tkW (w : List UInt8) (p : Nat) : Tk :=
  match w with
  | [] => ⟨0, ⟨#[]⟩, 0, 0, 0⟩
  | c :: r => if letter c then ⟨1, ⟨w.toArray⟩, 0, p, p + w.length⟩ else if digit c then ⟨2, ⟨#[]⟩, num w, p, p + w.length⟩ else ⟨3, ⟨w.toArray⟩, 0, p, p + w.length⟩
abbrev Cu := List Tk × Nat × Nat
def app (t : Tk) (R : Cu) : Cu := if R.2.1 = 0 then (t :: R.1, 0, 0) else R
def apps (ts : List Tk) (R : Cu) : Cu := if R.2.1 = 0 then (ts ++ R.1, 0, 0) else R
def cutF : Nat → List UInt8 → Nat → Cu
  | 0, _, _ => ([], 0, 0)
  | _ + 1, [], _ => ([], 0, 0)
  | f + 1, c :: r, p =>
    if blank c then cutF f r (p + 1)
    else if sharp c then cutF f (r.dropWhile inl) (p + 1 + (r.takeWhile inl).length)
    else if erW ((c :: r).take (wl (c :: r))) = 0 then app (tkW ((c :: r).take (wl (c :: r))) p) (cutF f ((c :: r).drop (wl (c :: r))) (p + wl (c :: r)))
    else ([], erW ((c :: r).take (wl (c :: r))), p)
def cut (l : List UInt8) (p : Nat) : Cu := cutF l.length l p

theorem drop_le (l : List UInt8) (q : UInt8 → Bool) : (l.dropWhile q).length ≤ l.length := (List.dropWhile_sublist q).length_le
theorem er_wl {c : UInt8} {r : List UInt8} (h : erW ((c :: r).take (wl (c :: r))) = 0) : 0 < wl (c :: r) := by
  rcases Nat.eq_zero_or_pos (wl (c :: r)) with h0 | h0
  · rw [h0] at h; simp [erW] at h
  · exact h0
theorem cutF_fuel : ∀ (f g : Nat) (l : List UInt8) (p : Nat), l.length ≤ f → l.length ≤ g → cutF f l p = cutF g l p := by
  intro f
  induction f with
  | zero =>
    intro g l p h1 h2
    have : l = [] := List.eq_nil_of_length_eq_zero (by omega)
    subst this
    cases g <;> rfl
  | succ f ih =>
    intro g l p h1 h2
    cases l with
    | nil => cases g <;> rfl
    | cons c r =>
      cases g with
      | zero => simp at h2
      | succ g =>
        simp only [List.length_cons] at h1 h2
        unfold cutF
        have hd := drop_le r inl
        rw [ih g r (p + 1) (by omega) (by omega), ih g (r.dropWhile inl) (p + 1 + (r.takeWhile inl).length) (by omega) (by omega)]
        by_cases he : erW ((c :: r).take (wl (c :: r))) = 0
        · have h3 := er_wl he
          rw [ih g ((c :: r).drop (wl (c :: r))) (p + wl (c :: r)) (by simp; omega) (by simp; omega)]
        · simp only [if_neg he]
theorem cut_nil (p : Nat) : cut [] p = ([], 0, 0) := rfl
theorem cut_blank {c : UInt8} (r : List UInt8) (p : Nat) (h : blank c = true) : cut (c :: r) p = cut r (p + 1) := by
  unfold cut
  rw [List.length_cons, cutF, if_pos h]
theorem blank_35 {c : UInt8} (h : sharp c = true) : blank c = false := by
  simp [sharp, blank] at *
  omega
theorem cut_sharp {c : UInt8} (r : List UInt8) (p : Nat) (h : sharp c = true) : cut (c :: r) p = cut (r.dropWhile inl) (p + 1 + (r.takeWhile inl).length) := by
  unfold cut
  rw [List.length_cons, cutF, if_neg (by rw [blank_35 h]; simp), if_pos h]
  exact cutF_fuel _ _ _ _ (drop_le r inl) (Nat.le_refl _)
theorem cut_bad {c : UInt8} (r : List UInt8) (p : Nat) (h1 : blank c = false) (h2 : sharp c = false) (h3 : erW ((c :: r).take (wl (c :: r))) ≠ 0) : cut (c :: r) p = ([], erW ((c :: r).take (wl (c :: r))), p) := by
  unfold cut
  rw [List.length_cons, cutF, if_neg (by rw [h1]; simp), if_neg (by rw [h2]; simp), if_neg h3]
theorem cut_tok {c : UInt8} (r : List UInt8) (p : Nat) (h1 : blank c = false) (h2 : sharp c = false) (h3 : erW ((c :: r).take (wl (c :: r))) = 0) :
    cut (c :: r) p = app (tkW ((c :: r).take (wl (c :: r))) p) (cut ((c :: r).drop (wl (c :: r))) (p + wl (c :: r))) := by
  have h0 := er_wl h3
  unfold cut
  rw [List.length_cons, cutF, if_neg (by rw [h1]; simp), if_neg (by rw [h2]; simp), if_pos h3]
  rw [cutF_fuel r.length ((c :: r).drop (wl (c :: r))).length _ _ (by simp; omega) (Nat.le_refl _)]

/-! ### Words and what stands behind them -/
/-- A whole token is written so. -/
def Tw (w : List UInt8) : Prop := ∃ c r, w = c :: r ∧ (letter c || digit c || mark c) = true ∧ (∀ x ∈ r, follows c x = true) ∧ erW w = 0
/-- What stands behind it does not belong to it. -/
def Off (w s : List UInt8) : Prop := ∀ c r x y, w = c :: r → s = x :: y → follows c x = false
theorem takeWhile_app {q : UInt8 → Bool} : ∀ {r s : List UInt8}, (∀ x ∈ r, q x = true) → (∀ x y, s = x :: y → q x = false) → (r ++ s).takeWhile q = r
  | [], s, _, h => by
    cases s with
    | nil => rfl
    | cons x y => simp [h x y rfl]
  | a :: r, s, h1, h => by
    have ha := h1 a (by simp)
    have := takeWhile_app (r := r) (s := s) (fun x hx => h1 x (by simp [hx])) h
    simp [ha, this]
theorem dropWhile_app {q : UInt8 → Bool} : ∀ {r s : List UInt8}, (∀ x ∈ r, q x = true) → (∀ x y, s = x :: y → q x = false) → (r ++ s).dropWhile q = s
  | [], s, _, h => by
    cases s with
    | nil => rfl
    | cons x y => simp [h x y rfl]
  | a :: r, s, h1, h => by
    have ha := h1 a (by simp)
    have := dropWhile_app (r := r) (s := s) (fun x hx => h1 x (by simp [hx])) h
    simp [ha, this]
theorem split_while (q : UInt8 → Bool) : ∀ l : List UInt8, ∃ r s, l = r ++ s ∧ (∀ x ∈ r, q x = true) ∧ (∀ x y, s = x :: y → q x = false)
  | [] => ⟨[], [], rfl, by simp, by simp⟩
  | a :: l => by
    obtain ⟨r, s, h1, h2, h3⟩ := split_while q l
    cases ha : q a with
    | true => exact ⟨a :: r, s, by rw [h1]; rfl, fun x hx => by simp at hx; rcases hx with rfl | hx; exact ha; exact h2 x hx, h3⟩
    | false => exact ⟨[], a :: l, rfl, by simp, fun x y h => by injection h with h _; subst h; exact ha⟩
theorem Tw.wl {w s : List UInt8} (h : Tw w) (k : Off w s) : wl (w ++ s) = w.length := by
  obtain ⟨c, r, rfl, h1, h2, _⟩ := h
  rw [List.cons_append, YtafljgjkcnbhbaaDoor.wl, if_pos h1, takeWhile_app h2 (fun x y hs => k c r x y rfl hs)]
  simp; omega
theorem first_not {c : UInt8} (h : (letter c || digit c || mark c) = true) : blank c = false ∧ sharp c = false := by
  simp [letter, digit, mark, blank, sharp] at *
  omega
theorem cut_word {w s : List UInt8} (h : Tw w) (k : Off w s) (p : Nat) : cut (w ++ s) p = app (tkW w p) (cut s (p + w.length)) := by
  have hw := h.wl k
  obtain ⟨c, r, rfl, h1, h2, h3⟩ := h
  obtain ⟨hb, hs⟩ := first_not h1
  have ht : (c :: r ++ s).take (wl (c :: r ++ s)) = c :: r := by rw [hw]; simp
  have hd : (c :: r ++ s).drop (wl (c :: r ++ s)) = s := by rw [hw]; simp
  rw [List.cons_append] at ht hd hw ⊢
  rw [cut_tok (r ++ s) p hb hs (by rw [ht]; exact h3), ht, hd, hw]
/-- Any text is nothing, a blank, a remark, a fault, or a token, and what stands behind it. -/
theorem cut_ind (P : List UInt8 → Nat → Prop) (hnil : ∀ p, P [] p) (hblank : ∀ c r p, blank c = true → P r (p + 1) → P (c :: r) p)
    (hend : ∀ c r p, sharp c = true → (∀ x ∈ r, inl x = true) → P (c :: r) p)
    (hrem : ∀ c r d s p, sharp c = true → (∀ x ∈ r, inl x = true) → d.toNat = 10 → P s (p + 1 + r.length + 1) → P (c :: (r ++ d :: s)) p)
    (hbad : ∀ c r p, blank c = false → sharp c = false → erW ((c :: r).take (wl (c :: r))) ≠ 0 → P (c :: r) p)
    (htok : ∀ w s p, Tw w → Off w s → P s (p + w.length) → P (w ++ s) p) : ∀ (l : List UInt8) (p : Nat), P l p := by
  have key : ∀ (n : Nat) (l : List UInt8) (p : Nat), l.length ≤ n → P l p := by
    intro n
    induction n with
    | zero =>
      intro l p h
      have : l = [] := List.eq_nil_of_length_eq_zero (by omega)
      subst this
      exact hnil p
    | succ n ih =>
      intro l p h
      cases l with
      | nil => exact hnil p
      | cons c r =>
        simp only [List.length_cons] at h
        cases hb : blank c with
        | true => exact hblank c r p hb (ih r _ (by omega))
        | false =>
          cases hs : sharp c with
          | true =>
            obtain ⟨r1, s1, rfl, h2, h3⟩ := split_while inl r
            cases s1 with
            | nil => rw [List.append_nil]; exact hend c r1 p hs h2
            | cons d s =>
              have h4 := h3 d s rfl
              simp only [List.length_append, List.length_cons] at h
              exact hrem c r1 d s p hs h2 (by simpa [inl] using h4) (ih s _ (by omega))
          | false =>
            by_cases he : erW ((c :: r).take (wl (c :: r))) = 0
            · have h0 := er_wl he
              have hf : (letter c || digit c || mark c) = true := by
                cases hf : (letter c || digit c || mark c) with
                | true => rfl
                | false => rw [wl, hf] at h0; simp at h0
              obtain ⟨r1, s1, rfl, h2, h3⟩ := split_while (follows c) r
              have hw : wl (c :: (r1 ++ s1)) = 1 + r1.length := by rw [wl, if_pos hf, takeWhile_app h2 h3]
              have ht : (c :: (r1 ++ s1)).take (wl (c :: (r1 ++ s1))) = c :: r1 := by
                rw [hw, Nat.add_comm]; simp
              have hT : Tw (c :: r1) := ⟨c, r1, rfl, hf, h2, by rw [← ht]; exact he⟩
              have hO : Off (c :: r1) s1 := fun c' r' x y e1 e2 => by injection e1 with e1 _; subst e1; exact h3 x y e2
              simp only [List.length_append] at h
              exact htok (c :: r1) s1 p hT hO (ih s1 _ (by omega))
            · exact hbad c r p hb hs he
  exact fun l p => key l.length l p (Nat.le_refl _)
theorem cut_end {c : UInt8} {r : List UInt8} (p : Nat) (h : sharp c = true) (h2 : ∀ x ∈ r, inl x = true) : cut (c :: r) p = ([], 0, 0) := by
  rw [cut_sharp r p h]
  have := dropWhile_app (r := r) (s := []) h2 (by simp)
  rw [List.append_nil] at this
  rw [this]
  rfl
theorem inl_10 {d : UInt8} (h : d.toNat = 10) : inl d = false := by simp [inl, h]
theorem blank_10 {d : UInt8} (h : d.toNat = 10) : blank d = true := by simp [blank, h]
theorem cut_rem {c d : UInt8} {r s : List UInt8} (p : Nat) (h : sharp c = true) (h2 : ∀ x ∈ r, inl x = true) (h3 : d.toNat = 10) : cut (c :: (r ++ d :: s)) p = cut s (p + 1 + r.length + 1) := by
  have hx : ∀ x y, d :: s = x :: y → inl x = false := fun x y e => by injection e with e _; subst e; exact inl_10 h3
  rw [cut_sharp _ p h, dropWhile_app h2 hx, takeWhile_app h2 hx, cut_blank s _ (blank_10 h3)]
/-- With a fault no tokens; without one no place; a fault's place is no place ahead. -/
theorem cut_form (l : List UInt8) (p : Nat) : ((cut l p).2.1 ≠ 0 → (cut l p).1 = [] ∧ p ≤ (cut l p).2.2 ∧ (cut l p).2.2 < p + l.length ∧ (cut l p).2.1 ≤ 52 ∧ 50 ≤ (cut l p).2.1) ∧ ((cut l p).2.1 = 0 → (cut l p).2.2 = 0) := by
  revert p
  refine fun p => cut_ind (fun l p => ((cut l p).2.1 ≠ 0 → (cut l p).1 = [] ∧ p ≤ (cut l p).2.2 ∧ (cut l p).2.2 < p + l.length ∧ (cut l p).2.1 ≤ 52 ∧ 50 ≤ (cut l p).2.1) ∧ ((cut l p).2.1 = 0 → (cut l p).2.2 = 0)) ?_ ?_ ?_ ?_ ?_ ?_ l p
  · intro p; simp [cut_nil]
  · intro c r p hb ih
    rw [cut_blank r p hb]
    exact ⟨fun h => ⟨(ih.1 h).1, by have := (ih.1 h).2.1; omega, by have := (ih.1 h).2.2.1; simp; omega, (ih.1 h).2.2.2⟩, ih.2⟩
  · intro c r p hs h2; rw [cut_end p hs h2]; simp
  · intro c r d s p hs h2 h3 ih
    rw [cut_rem p hs h2 h3]
    exact ⟨fun h => ⟨(ih.1 h).1, by have := (ih.1 h).2.1; omega, by have := (ih.1 h).2.2.1; simp; omega, (ih.1 h).2.2.2⟩, ih.2⟩
  · intro c r p hb hs he
    rw [cut_bad r p hb hs he]
    refine ⟨fun _ => ⟨rfl, Nat.le_refl _, by simp, ?_⟩, fun h => absurd h he⟩
    have : ∀ w : List UInt8, erW w ≠ 0 → erW w ≤ 52 ∧ 50 ≤ erW w := by
      intro w hw
      cases w with
      | nil => simp [erW]
      | cons a b =>
        have h52 : erW (a :: b) = 0 ∨ erW (a :: b) = 52 ∨ erW (a :: b) = 51 := by
          have e : erW (a :: b) = if letter a then (if b.length < 32 then 0 else 52) else if digit a then (if numOk (a :: b) then 0 else 51) else 0 := rfl
          rw [e]
          cases letter a <;> cases digit a <;> cases numOk (a :: b) <;> by_cases hl : b.length < 32 <;> simp [hl]
        omega
    exact this _ he
  · intro w s p hw ho ih
    rw [cut_word hw ho p]
    unfold app
    by_cases h : (cut s (p + w.length)).2.1 = 0
    · rw [if_pos h]; simp
    · rw [if_neg h]
      exact ⟨fun h => ⟨(ih.1 h).1, by have := (ih.1 h).2.1; omega, by have := (ih.1 h).2.2.1; simp; omega, (ih.1 h).2.2.2⟩, ih.2⟩
end Go.Proofs.YtafljgjkcnbhbaaDoor

/- What follows, plain: gaps, places, written again, fronts. -/
namespace Go.Proofs.YtafljgjkcnbhbaaDoor
set_option linter.unusedVariables false

/-- Blanks and remarks alone; rm: inside a remark; last: it may end there. -/
def gp : Bool → List UInt8 → Bool → Bool
  | rm, [], last => !rm || last
  | true, c :: r, last => gp (inl c) r last
  | false, c :: r, last => if sharp c then gp true r last else if blank c then gp false r last else false
def cutR (s : List UInt8) (p : Nat) : Cu := cut (s.dropWhile inl) (p + (s.takeWhile inl).length)
theorem cutR_inl {c : UInt8} (h : inl c = true) (s : List UInt8) (p : Nat) : cutR (c :: s) p = cutR s (p + 1) := by
  unfold cutR
  simp [h]
  congr 1
  omega
theorem cutR_end {c : UInt8} (h : inl c = false) (s : List UInt8) (p : Nat) : cutR (c :: s) p = cut s (p + 1) := by
  have hb : blank c = true := by simp [inl] at h; simp [blank, h]
  unfold cutR
  simp [h]
  exact cut_blank s p hb
theorem cutR_nil (p : Nat) : cutR [] p = ([], 0, 0) := rfl
theorem cut_sharpR {c : UInt8} (h : sharp c = true) (s : List UInt8) (p : Nat) : cut (c :: s) p = cutR s (p + 1) := cut_sharp s p h
theorem gap_skip : ∀ (G : List UInt8) (rm : Bool) (s : List UInt8) (p : Nat), gp rm G false = true → (if rm then cutR (G ++ s) p else cut (G ++ s) p) = cut s (p + G.length)
  | [], rm, s, p, h => by cases rm <;> simp_all [gp]
  | c :: G, true, s, p, h => by
    rw [gp] at h
    have ih := gap_skip G (inl c) s (p + 1) h
    rw [if_pos rfl, List.cons_append]
    cases hc : inl c with
    | true =>
      rw [hc, if_pos rfl] at ih
      rw [cutR_inl hc, ih, List.length_cons]; congr 1; omega
    | false =>
      rw [hc] at ih
      rw [cutR_end hc]
      have ih : cut (G ++ s) (p + 1) = cut s (p + 1 + G.length) := by simpa using ih
      rw [ih, List.length_cons]; congr 1; omega
  | c :: G, false, s, p, h => by
    rw [gp] at h
    rw [if_neg (by simp), List.cons_append]
    cases hs : sharp c with
    | true =>
      rw [hs, if_pos rfl] at h
      have ih := gap_skip G true s (p + 1) h
      rw [if_pos rfl] at ih
      rw [cut_sharpR hs, ih, List.length_cons]; congr 1; omega
    | false =>
      rw [hs] at h
      cases hb : blank c with
      | true =>
        rw [hb] at h
        have h : gp false G false = true := by simpa using h
        have ih := gap_skip G false s (p + 1) h
        rw [if_neg (by simp)] at ih
        rw [cut_blank _ p hb, ih, List.length_cons]; congr 1; omega
      | false => rw [hb] at h; simp at h
theorem cut_gap {G : List UInt8} (s : List UInt8) (p : Nat) (h : gp false G false = true) : cut (G ++ s) p = cut s (p + G.length) := by
  have := gap_skip G false s p h
  simpa using this

/-! ### Places -/
def PlOk : List Tk → List UInt8 → Nat → Prop
  | [], l, p => gp false l true = true
  | t :: ts, l, p => ∃ G w s, l = G ++ (w ++ s) ∧ gp false G false = true ∧ Tw w ∧ t = tkW w (p + G.length) ∧ PlOk ts s (p + G.length + w.length)
theorem gp_all : ∀ {r : List UInt8}, (∀ x ∈ r, inl x = true) → gp true r true = true
  | [], _ => rfl
  | a :: r, h => by rw [gp, h a (by simp)]; exact gp_all (fun x hx => h x (by simp [hx]))
theorem gp_rem : ∀ {r : List UInt8} {d : UInt8} {s : List UInt8} {b : Bool}, (∀ x ∈ r, inl x = true) → d.toNat = 10 → gp true (r ++ d :: s) b = gp false s b
  | [], d, s, b, _, h => by rw [List.nil_append, gp, inl_10 h]
  | a :: r, d, s, b, h, h2 => by rw [List.cons_append, gp, h a (by simp)]; exact gp_rem (fun x hx => h x (by simp [hx])) h2
theorem sharp_not {c : UInt8} (h : blank c = true) : sharp c = false := by
  simp [sharp, blank] at *
  omega
theorem gp_blank {c : UInt8} (h : blank c = true) (s : List UInt8) (b : Bool) : gp false (c :: s) b = gp false s b := by
  rw [gp, sharp_not h, h]; simp
theorem gp_sharp {c : UInt8} (h : sharp c = true) (s : List UInt8) (b : Bool) : gp false (c :: s) b = gp true s b := by
  rw [gp, h]; simp
theorem app_ok {t : Tk} {R : Cu} (h : (app t R).2.1 = 0) : R.2.1 = 0 ∧ (app t R).1 = t :: R.1 := by
  unfold app at *
  by_cases hr : R.2.1 = 0
  · exact ⟨hr, by rw [if_pos hr]⟩
  · rw [if_neg hr] at h; exact absurd h hr
theorem places (l : List UInt8) (p : Nat) : (cut l p).2.1 = 0 → PlOk (cut l p).1 l p := by
  refine cut_ind (fun l p => (cut l p).2.1 = 0 → PlOk (cut l p).1 l p) ?_ ?_ ?_ ?_ ?_ ?_ l p
  · intro p _; rw [cut_nil]; rfl
  · intro c r p hb ih h
    rw [cut_blank r p hb] at h ⊢
    have ih := ih h
    revert ih
    cases (cut r (p + 1)).1 with
    | nil => intro ih; show gp false (c :: r) true = true; rw [gp_blank hb]; exact ih
    | cons t ts =>
      rintro ⟨G, w, s, rfl, h1, h2, h3, h4⟩
      refine ⟨c :: G, w, s, rfl, by rw [gp_blank hb]; exact h1, h2, ?_, ?_⟩
      · rw [h3]; congr 1; simp; omega
      · have e : p + (c :: G).length = p + 1 + G.length := by simp; omega
        rw [e]; exact h4
  · intro c r p hs h2 _
    rw [cut_end p hs h2]
    show gp false (c :: r) true = true
    rw [gp_sharp hs]; exact gp_all h2
  · intro c r d s p hs h2 h3 ih h
    rw [cut_rem p hs h2 h3] at h ⊢
    have ih := ih h
    revert ih
    cases (cut s (p + 1 + r.length + 1)).1 with
    | nil => intro ih; show gp false (c :: (r ++ d :: s)) true = true; rw [gp_sharp hs, gp_rem h2 h3]; exact ih
    | cons t ts =>
      rintro ⟨G, w, s, rfl, h1, k2, k3, h4⟩
      refine ⟨c :: (r ++ d :: G), w, s, by simp, by rw [gp_sharp hs, gp_rem h2 h3]; exact h1, k2, ?_, ?_⟩
      · rw [k3]; congr 1; simp; omega
      · have e : p + (c :: (r ++ d :: G)).length = p + 1 + r.length + 1 + G.length := by simp; omega
        rw [e]; exact h4
  · intro c r p hb hs he h
    rw [cut_bad r p hb hs he] at h
    exact absurd h he
  · intro w s p hw ho ih h
    rw [cut_word hw ho p] at h ⊢
    obtain ⟨h1, h2⟩ := app_ok h
    rw [h2]
    exact ⟨[], w, s, rfl, rfl, hw, rfl, ih h1⟩
theorem Off.nil (w : List UInt8) : Off w [] := fun _ _ _ _ _ h => by simp at h
theorem cut_alone {w : List UInt8} (h : Tw w) (p : Nat) : cut w p = ([tkW w p], 0, 0) := by
  have := cut_word h (Off.nil w) p
  rw [List.append_nil] at this
  rw [this]; rfl
theorem Tw.pos {w : List UInt8} (h : Tw w) : 0 < w.length := by obtain ⟨c, r, rfl, _⟩ := h; simp
/-- A token but for its places hangs on its bytes alone. -/
theorem tkW_is {w : List UInt8} (h : Tw w) (p : Nat) : (tkW w p).k = (tkW w 0).k ∧ (tkW w p).t = (tkW w 0).t ∧ (tkW w p).n = (tkW w 0).n ∧ (tkW w p).a = p ∧ (tkW w p).e = p + w.length := by
  obtain ⟨c, r, rfl, _⟩ := h
  unfold tkW
  simp only
  cases letter c <;> cases digit c <;> simp

/-! ### Written again -/
def IsFill (F : List UInt8) : Prop := gp false F false = true ∧ ∃ x y, F = x :: y ∧ goes x = false
theorem follows_goes {c x : UInt8} (h : goes x = false) : follows c x = false := by
  have hd : digit x = false := by cases hd : digit x <;> simp_all [goes]
  unfold follows
  rw [h, hd]
  simp
theorem IsFill.off {F : List UInt8} (h : IsFill F) (w X : List UInt8) : Off w (F ++ X) := by
  obtain ⟨_, x, y, rfl, hx⟩ := h
  intro c r x' y' _ e
  injection e with e _
  subst e
  exact follows_goes hx
theorem apps_nil (l : List UInt8) (p : Nat) : apps [] (cut l p) = cut l p := by
  unfold apps
  by_cases h : (cut l p).2.1 = 0
  · rw [if_pos h, List.nil_append]
    have := (cut_form l p).2 h
    rw [← h]
    conv => lhs; rw [h]; rw [show (0 : Nat) = (cut l p).2.2 from this.symm]
    rw [show (cut l p).2.2 = (cut l p).2.1 from this.trans h.symm]
    rw [show ((cut l p).1, (cut l p).2.1, (cut l p).2.1) = ((cut l p).1, (cut l p).2.1, (cut l p).2.2) by rw [this, h]]
  · rw [if_neg h]
theorem apps_app (ts : List Tk) (t : Tk) (R : Cu) : apps ts (app t R) = apps (ts ++ [t]) R := by
  unfold apps app
  by_cases h : R.2.1 = 0
  · simp [h]
  · simp [h]
theorem apps_apps (ts us : List Tk) (R : Cu) : apps ts (apps us R) = apps (ts ++ us) R := by
  unfold apps
  by_cases h : R.2.1 = 0
  · simp [h]
  · simp [h]
/-- These bytes are these tokens, whatever stands behind. -/
def Bd (b : List UInt8) (ts : List Tk) : Prop := ∀ X, cut (b ++ X) 0 = apps ts (cut X b.length)
theorem Bd.nil : Bd [] [] := fun X => by rw [List.nil_append, apps_nil]; rfl
theorem Bd.step {b F1 w F2 : List UInt8} {ts : List Tk} (h : Bd b ts) (h1 : IsFill F1) (hw : Tw w) (h2 : IsFill F2) : Bd (b ++ F1 ++ w ++ F2) (ts ++ [tkW w (b ++ F1).length]) := by
  intro X
  have e : b ++ F1 ++ w ++ F2 ++ X = b ++ (F1 ++ (w ++ (F2 ++ X))) := by simp
  rw [e, h, cut_gap _ _ h1.1, cut_word hw (h2.off w X), apps_app, cut_gap _ _ h2.1]
  simp [Nat.add_assoc]
theorem Bd.whole {b : List UInt8} {ts : List Tk} (h : Bd b ts) : cut b 0 = (ts, 0, 0) := by
  have := h []
  rw [List.append_nil, cut_nil] at this
  rw [this]; simp [apps]

/-! ### Fronts -/
theorem Off.take {w s : List UInt8} (h : Off w s) (n : Nat) : Off w (s.take n) := by
  intro c r x y hw hs
  cases s with
  | nil => simp at hs
  | cons a s =>
    cases n with
    | zero => simp at hs
    | succ n =>
      rw [List.take_succ_cons] at hs
      injection hs with hs _
      subst hs
      exact h c r a s hw rfl
theorem Off.app {w s : List UInt8} (h : Off w s) {d : UInt8} (hd : goes d = false) (m : List UInt8) : Off w (s ++ d :: m) := by
  intro c r x y hw hs
  cases s with
  | nil => rw [List.nil_append] at hs; injection hs with hs _; subst hs; exact follows_goes hd
  | cons a s => rw [List.cons_append] at hs; injection hs with hs _; subst hs; exact h c r a s hw rfl
/-- What stands ahead of place q is cut into ts, whatever stands behind a blank there. -/
def FrOk (l : List UInt8) (p q : Nat) : Prop := ∃ ts, cut (l.take (q - p)) p = (ts, 0, 0) ∧ ∀ (d : UInt8) (m : List UInt8), d.toNat = 32 →
  ((cut (l.take (q - p) ++ d :: m) p).2.1 ≠ 0 → q < (cut (l.take (q - p) ++ d :: m) p).2.2) ∧ ((cut (l.take (q - p) ++ d :: m) p).2.1 = 0 → ∃ us, (cut (l.take (q - p) ++ d :: m) p).1 = ts ++ us)
theorem fronts (l : List UInt8) (p : Nat) : (cut l p).2.1 ≠ 0 → FrOk l p (cut l p).2.2 := by
  refine cut_ind (fun l p => (cut l p).2.1 ≠ 0 → FrOk l p (cut l p).2.2) ?_ ?_ ?_ ?_ ?_ ?_ l p
  · intro p h; simp [cut_nil] at h
  · intro c r p hb ih h
    rw [cut_blank r p hb] at h ⊢
    have hf := ((cut_form r (p + 1)).1 h).2.1
    obtain ⟨ts, h1, h2⟩ := ih h
    generalize (cut r (p + 1)).2.2 = q at *
    have e : (c :: r).take (q - p) = c :: r.take (q - (p + 1)) := by
      rw [show q - p = (q - (p + 1)) + 1 by omega, List.take_succ_cons]
    refine ⟨ts, by rw [e, cut_blank _ _ hb]; exact h1, fun d m hd => ?_⟩
    rw [e, List.cons_append, cut_blank _ _ hb]
    exact h2 d m hd
  · intro c r p hs h2 h; rw [cut_end p hs h2] at h; simp at h
  · intro c r d s p hs h2 h3 ih h
    rw [cut_rem p hs h2 h3] at h ⊢
    have hf := ((cut_form s (p + 1 + r.length + 1)).1 h).2.1
    obtain ⟨ts, k1, k2⟩ := ih h
    generalize (cut s (p + 1 + r.length + 1)).2.2 = q at *
    have e : (c :: (r ++ d :: s)).take (q - p) = c :: (r ++ d :: s.take (q - (p + 1 + r.length + 1))) := by
      rw [show q - p = (r.length + (q - (p + 1 + r.length + 1) + 1)) + 1 by omega, List.take_succ_cons, List.take_length_add_append, List.take_succ_cons]
    refine ⟨ts, by rw [e, cut_rem _ hs h2 h3]; exact k1, fun d' m hd => ?_⟩
    have e2 : c :: (r ++ d :: s.take (q - (p + 1 + r.length + 1))) ++ d' :: m = c :: (r ++ d :: (s.take (q - (p + 1 + r.length + 1)) ++ d' :: m)) := by simp
    rw [e, e2, cut_rem _ hs h2 h3]
    exact k2 d' m hd
  · intro c r p hb hs he h
    rw [cut_bad r p hb hs he]
    refine ⟨[], by simp [cut_nil], fun d m hd => ?_⟩
    have hbd : blank d = true := by simp [blank, hd]
    simp only [Nat.sub_self, List.take_zero, List.nil_append]
    rw [cut_blank m p hbd]
    exact ⟨fun h => by have := ((cut_form m (p + 1)).1 h).2.1; omega, fun _ => ⟨_, rfl⟩⟩
  · intro w s p hw ho ih h
    rw [cut_word hw ho p] at h ⊢
    have h0 : (cut s (p + w.length)).2.1 ≠ 0 := by
      intro e
      apply h
      unfold app
      rw [if_pos e]
    have ea : app (tkW w p) (cut s (p + w.length)) = cut s (p + w.length) := by unfold app; rw [if_neg h0]
    rw [ea]
    have hf := ((cut_form s (p + w.length)).1 h0).2.1
    obtain ⟨ts, k1, k2⟩ := ih h0
    generalize (cut s (p + w.length)).2.2 = q at *
    have e : (w ++ s).take (q - p) = w ++ s.take (q - (p + w.length)) := by
      rw [show q - p = w.length + (q - (p + w.length)) by omega, List.take_length_add_append]
    refine ⟨tkW w p :: ts, by rw [e, cut_word hw (ho.take _) p, k1]; rfl, fun d m hd => ?_⟩
    have hg : goes d = false := by simp [goes, letter, digit, hd]
    have k := k2 d m hd
    rw [e, List.append_assoc, cut_word hw ((ho.take _).app hg m) p]
    generalize cut (s.take (q - (p + w.length)) ++ d :: m) (p + w.length) = R at *
    unfold app
    by_cases hR : R.2.1 = 0
    · rw [if_pos hR]
      obtain ⟨us, hu⟩ := k.2 hR
      exact ⟨fun h => absurd rfl h, fun _ => ⟨us, by rw [hu]; rfl⟩⟩
    · rw [if_neg hR]
      exact ⟨fun _ => k.1 hR, fun h => absurd h hR⟩
end Go.Proofs.YtafljgjkcnbhbaaDoor
