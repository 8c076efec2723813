/- Code: what lies in memory while a program is made. -/
import Derived.Test.YteadmiikenpjeaaDoorCmd
import Derived.Test.YteadmiikenpjeaaDoorCmb
import Derived.Test.YteadmiikenpjeaaDoorCdm
namespace Go.Proofs.YteadmiikenpjeaaDoor
open Go.RowKit
set_option linter.unusedVariables false

theorem inc_at (x : In) : inc x = [.int .i64 x.op, .int .i64 x.a, .int .i64 x.b, .int .i64 x.c] := rfl
/-- An instruction written over, whole. -/
theorem cells_set4 {L : List In} {i : Nat} (hi : i < L.length) (y : In) : ((((cellsG inc L).set (i * 4) (.int .i64 y.op)).set (i * 4 + 1) (.int .i64 y.a)).set (i * 4 + 2) (.int .i64 y.b)).set (i * 4 + 3) (.int .i64 y.c) = cellsG inc (L.set i y) := by
  have hl : (cellsG inc L).length = L.length * 4 := cellsG_len inc_len L
  apply List.ext_getElem?
  intro j
  rw [cellsG_set inc_len L i y hi j]
  by_cases h0 : j = i * 4
  · subst h0
    rw [if_pos (by omega), List.getElem?_set_ne (by omega), List.getElem?_set_ne (by omega), List.getElem?_set_ne (by omega), List.getElem?_set_self (by omega), inc_at]
    simp
  by_cases h1 : j = i * 4 + 1
  · subst h1
    rw [if_pos (by omega), List.getElem?_set_ne (by omega), List.getElem?_set_ne (by omega), List.getElem?_set_self (by simp; omega), inc_at]
    simp
  by_cases h2 : j = i * 4 + 2
  · subst h2
    rw [if_pos (by omega), List.getElem?_set_ne (by omega), List.getElem?_set_self (by simp; omega), inc_at]
    simp
  by_cases h3 : j = i * 4 + 3
  · subst h3
    rw [if_pos (by omega), List.getElem?_set_self (by simp; omega), inc_at]
    simp
  rw [if_neg (by omega), List.getElem?_set_ne (by omega), List.getElem?_set_ne (by omega), List.getElem?_set_ne (by omega), List.getElem?_set_ne (by omega)]
/-- Its first operand alone. -/
theorem cells_setA {L : List In} {i : Nat} {x : In} (hx : L[i]? = some x) (a : Int) : (cellsG inc L).set (i * 4 + 1) (.int .i64 a) = cellsG inc (L.set i ⟨x.op, a, x.b, x.c⟩) := by
  have hi := (List.getElem?_eq_some_iff.1 hx).1
  have hl : (cellsG inc L).length = L.length * 4 := cellsG_len inc_len L
  have hc : ∀ k, k < 4 → (cellsG inc L)[i * 4 + k]? = (inc x)[k]? := fun k hk => cellsG_at inc_len L i k x hx hk
  apply List.ext_getElem?
  intro j
  rw [cellsG_set inc_len L i _ hi j]
  by_cases h1 : j = i * 4 + 1
  · subst h1
    rw [if_pos (by omega), List.getElem?_set_self (by omega), inc_at]
    simp
  rw [List.getElem?_set_ne (by omega)]
  by_cases h : i * 4 ≤ j ∧ j < i * 4 + 4
  · rw [if_pos h]
    obtain ⟨k, rfl⟩ : ∃ k, j = i * 4 + k := ⟨j - i * 4, by omega⟩
    rw [hc k (by omega), show i * 4 + k - i * 4 = k by omega, inc_at, inc_at]
    have : k = 0 ∨ k = 2 ∨ k = 3 := by omega
    rcases this with rfl | rfl | rfl <;> rfl
  · rw [if_neg h]
/-- The program under way: its lists, made whole. -/
structure MkM (w w' : World) (enc : Bool) (pc pe : Value) (gc ge : Nat) (L : List In) (E : List Int) : Prop where
  p : Blk w' w.heap.size 25 [.bool enc, pc, pe]
  r : Blk w' (w.heap.size + 1) 25 [.bool false, .slice none 0 0, .slice none 0 0]
  o : Blk w' (w.heap.size + 2) 25 [.bool enc, .slice (some ⟨gc, 0, none⟩) L.length L.length, .slice (some ⟨ge, 0, none⟩) E.length E.length]
  c : Blk w' gc 41 (cellsG inc L)
  e : Blk w' ge 3 (cellsL .i64 E)
  b : Below w.heap.size w w'
  lc : w.heap.size ≤ gc
  le : w.heap.size ≤ ge
section
variable {w w' w'' : World} {enc : Bool} {pc pe : Value} {gc ge : Nat} {L : List In} {E : List Int}
theorem MkM.later (h : MkM w w' enc pc pe gc ge L E) (hB : Below w'.heap.size w' w'') : MkM w w'' enc pc pe gc ge L E :=
  ⟨h.p.later hB, h.r.later hB, h.o.later hB, h.c.later hB, h.e.later hB, below_to h.b hB, h.lc, h.le⟩
theorem MkM.at (h : MkM w w' enc pc pe gc ge L E) {i : Nat} {x : In} (hx : L[i]? = some x) : w'.cell? ⟨gc, i * 4, none⟩ = some (.int .i64 x.op) ∧ w'.cell? ⟨gc, i * 4 + 1, none⟩ = some (.int .i64 x.a) ∧ w'.cell? ⟨gc, i * 4 + 2, none⟩ = some (.int .i64 x.b) ∧ w'.cell? ⟨gc, i * 4 + 3, none⟩ = some (.int .i64 x.c) := by
  have hc : ∀ k, k < 4 → w'.cell? ⟨gc, i * 4 + k, none⟩ = (inc x)[k]? := fun k hk => by rw [h.c.cell]; exact cellsG_at inc_len L i k x hx hk
  exact ⟨hc 0 (by omega), hc 1 (by omega), hc 2 (by omega), hc 3 (by omega)⟩
theorem blk_nt {w : World} {g g' : Nat} {t t' : TypeId} {xs ys : List Value} (h : Blk w g t xs) (h' : Blk w g' t' ys) (ht : t ≠ t') : g ≠ g' := fun e => by subst e; exact ht (blk_type h h')
theorem MkM.put4 (h : MkM w w' enc pc pe gc ge L E) {i : Nat} (hi : i < L.length) (y : In) : MkM w ((((w'.setCell ⟨gc, i * 4, none⟩ (.int .i64 y.op)).setCell ⟨gc, i * 4 + 1, none⟩ (.int .i64 y.a)).setCell ⟨gc, i * 4 + 2, none⟩ (.int .i64 y.b)).setCell ⟨gc, i * 4 + 3, none⟩ (.int .i64 y.c)) enc pc pe gc ge (L.set i y) E := by
  have hk := (((h.c.set (i * 4) (.int .i64 y.op)).set (i * 4 + 1) (.int .i64 y.a)).set (i * 4 + 2) (.int .i64 y.b)).set (i * 4 + 3) (.int .i64 y.c)
  rw [cells_set4 hi y] at hk
  have hp := blk_nt h.p h.c (by decide); have hr := blk_nt h.r h.c (by decide); have ho := blk_nt h.o h.c (by decide); have he := blk_nt h.e h.c (by decide)
  refine ⟨(((h.p.other _ _ hp).other _ _ hp).other _ _ hp).other _ _ hp, (((h.r.other _ _ hr).other _ _ hr).other _ _ hr).other _ _ hr, ?_, hk, (((h.e.other _ _ he).other _ _ he).other _ _ he).other _ _ he, below_set (below_set (below_set (below_set h.b _ _ _ h.lc) _ _ _ h.lc) _ _ _ h.lc) _ _ _ h.lc, h.lc, h.le⟩
  rw [List.length_set]
  exact (((h.o.other _ _ ho).other _ _ ho).other _ _ ho).other _ _ ho
theorem MkM.putA (h : MkM w w' enc pc pe gc ge L E) {i : Nat} {x : In} (hx : L[i]? = some x) (a : Int) : MkM w (w'.setCell ⟨gc, i * 4 + 1, none⟩ (.int .i64 a)) enc pc pe gc ge (L.set i ⟨x.op, a, x.b, x.c⟩) E := by
  have hk := h.c.set (i * 4 + 1) (.int .i64 a)
  rw [cells_setA hx a] at hk
  have hp := blk_nt h.p h.c (by decide); have hr := blk_nt h.r h.c (by decide); have ho := blk_nt h.o h.c (by decide); have he := blk_nt h.e h.c (by decide)
  refine ⟨h.p.other _ _ hp, h.r.other _ _ hr, ?_, hk, h.e.other _ _ he, below_set h.b _ _ _ h.lc, h.lc, h.le⟩
  rw [List.length_set]
  exact h.o.other _ _ ho
theorem MkM.putE (h : MkM w w' enc pc pe gc ge L E) {i : Nat} (x : Int) : MkM w (w'.setCell ⟨ge, i, none⟩ (.int .i64 x)) enc pc pe gc ge L (E.set i x) := by
  have hk := h.e.set i (.int .i64 x)
  have he : (cellsL .i64 E).set i (.int .i64 x) = cellsL .i64 (E.set i x) := by unfold cellsL; rw [List.map_set]
  rw [he] at hk
  have hp := blk_nt h.p h.e (by decide); have hr := blk_nt h.r h.e (by decide); have ho := blk_nt h.o h.e (by decide); have hc := blk_nt h.c h.e (by decide)
  refine ⟨h.p.other _ _ hp, h.r.other _ _ hr, ?_, h.c.other _ _ hc, hk, below_set h.b _ _ _ h.le, h.lc, h.le⟩
  rw [List.length_set]
  exact h.o.other _ _ ho
theorem MkM.row (h : MkM w w' enc pc pe gc ge L E) : IRow w' (some ⟨gc, 0, none⟩) L := blk_grow inc_len h.c
end
theorem makeC (n : Nat) (hn : n ≤ 1000000000) (w : World) : (Instr.makeSlice 22 (.int .i64 (n : Int)) (.int .i64 (n : Int))).run Tryd.prog w = .ok (.slice (some ⟨w.heap.size, 0, none⟩) n n) (w.alloc (.cells (madeCells #[.int .i64 0, .int .i64 0, .int .i64 0, .int .i64 0] (n * 4)) 41)) := by
  obtain ⟨i0, hi, hz0, hz1, hz2⟩ := info_parts infoIn
  have hb : (i0.bytes : Int) * (n : Int) ≤ 281474976710656 := by rw [hz2]; omega
  have hr := run_make (P := Tryd.prog) w 22 41 i0 (.agg #[.int .i64 0, .int .i64 0, .int .i64 0, .int .i64 0]) Tryd.underlying22 hi hz0 .i64 .i64 n n (by omega) (Int.le_refl _) hb (by omega)
  rw [Int.toNat_natCast, hz1] at hr
  exact hr
theorem makeE (n : Nat) (hn : n ≤ 1000000000) (w : World) : (Instr.makeSlice 23 (.int .i64 (n : Int)) (.int .i64 (n : Int))).run Tryd.prog w = .ok (.slice (some ⟨w.heap.size, 0, none⟩) n n) (w.alloc (.cells (madeCells #[.int .i64 0] n) 3)) := by
  obtain ⟨i0, hi, hz0, hz1, hz2⟩ := info_parts elI.info
  have hb : (i0.bytes : Int) * (n : Int) ≤ 281474976710656 := by rw [hz2]; omega
  have hr := run_make (P := Tryd.prog) w 23 3 i0 (.int .i64 0) Tryd.underlying23 hi hz0 .i64 .i64 n n (by omega) (Int.le_refl _) hb (by omega)
  rw [Int.toNat_natCast, hz1, Nat.mul_one] at hr
  exact hr
theorem madeE0 (n : Nat) : (madeCells #[.int .i64 0] n).toList = cellsL .i64 (List.replicate n 0) := by
  apply List.ext_getElem?
  intro i
  by_cases h : i < n <;> simp [madeCells, cellsL, Nat.mod_one, h]
theorem madeC0 (n : Nat) : (madeCells #[.int .i64 0, .int .i64 0, .int .i64 0, .int .i64 0] (n * 4)).toList = cellsG inc (List.replicate n in0) := by
  apply List.ext_getElem?
  intro i
  by_cases h : i < n * 4
  · have h1 : i / 4 < n := by omega
    have h2 := cellsG_at inc_len (List.replicate n in0) (i / 4) (i % 4) in0 (by simp [h1]) (by omega)
    rw [show i / 4 * 4 + i % 4 = i by omega] at h2
    rw [h2]
    have h4 : i % 4 < 4 := Nat.mod_lt _ (by omega)
    simp [madeCells, h]
    generalize i % 4 = m at *
    have : m = 0 ∨ m = 1 ∨ m = 2 ∨ m = 3 := by omega
    rcases this with rfl | rfl | rfl | rfl <;> rfl
  · have hl : (cellsG inc (List.replicate n in0)).length = n * 4 := by rw [cellsG_len inc_len]; simp
    rw [List.getElem?_eq_none (l := cellsG inc (List.replicate n in0)) (by omega)]
    simp [madeCells]
    omega
/-- The lists, just made. -/
theorem mkm_of {w w2 wb : World} {enc : Bool} {pc pe : Value} (kp : Blk w2 w.heap.size 25 [.bool enc, pc, pe]) (kr : Blk w2 (w.heap.size + 1) 25 [.bool false, .slice none 0 0, .slice none 0 0]) (ko : Blk w2 (w.heap.size + 2) 25 [.bool enc, .slice none 0 0, .slice none 0 0]) (hb : Below w.heap.size w w2) (n m : Nat) {cC cE : Array Value} (hC : cC.toList = cellsG inc (List.replicate n in0)) (hE : cE.toList = cellsL .i64 (List.replicate m 0))
    (hwb : wb = (w2.alloc (.cells cC 41)).setCell ⟨w.heap.size + 2, 1, none⟩ (.slice (some ⟨w2.heap.size, 0, none⟩) n n)) :
    MkM w ((wb.alloc (.cells cE 3)).setCell ⟨w.heap.size + 2, 2, none⟩ (.slice (some ⟨wb.heap.size, 0, none⟩) m m)) enc pc pe w2.heap.size wb.heap.size (List.replicate n in0) (List.replicate m 0) := by
  have hsz : wb.heap.size = w2.heap.size + 1 := by rw [hwb]; simp
  have l1 := kp.lt; have l2 := kr.lt; have l3 := ko.lt
  have n1 : w.heap.size ≠ w.heap.size + 2 := by omega
  have n2 : w.heap.size + 1 ≠ w.heap.size + 2 := by omega
  have n3 : w2.heap.size ≠ w.heap.size + 2 := by omega
  have kp1 : Blk wb w.heap.size 25 [.bool enc, pc, pe] := by rw [hwb]; exact (kp.alloc _).other _ _ n1
  have kr1 : Blk wb (w.heap.size + 1) 25 [.bool false, .slice none 0 0, .slice none 0 0] := by rw [hwb]; exact (kr.alloc _).other _ _ n2
  have ko1 : Blk wb (w.heap.size + 2) 25 [.bool enc, .slice (some ⟨w2.heap.size, 0, none⟩) n n, .slice none 0 0] := by
    rw [hwb]
    have := (ko.alloc (.cells cC 41)).set 1 (.slice (some ⟨w2.heap.size, 0, none⟩) n n)
    simpa using this
  have kc1 : Blk wb w2.heap.size 41 (cellsG inc (List.replicate n in0)) := by rw [hwb, ← hC]; exact (Blk.newA w2 cC 41).other _ _ n3
  have hb1 : Below w.heap.size w wb := by
    rw [hwb]
    exact below_set (hb.alloc hb.size _) _ _ _ (by omega)
  have ko2 := (ko1.alloc (.cells cE 3)).set 2 (.slice (some ⟨wb.heap.size, 0, none⟩) m m)
  refine ⟨(kp1.alloc _).other _ _ n1, (kr1.alloc _).other _ _ n2, ?_, (kc1.alloc _).other _ _ n3, ?_, below_set (hb1.alloc hb1.size _) _ _ _ (by omega), hb.size, hb1.size⟩
  · rw [List.length_replicate, List.length_replicate]
    simpa using ko2
  · rw [← hE]
    exact (Blk.newA wb cE 3).other _ _ (by simp only; omega)
/-- What Made answers. -/
def MadeTo (enc : Bool) (most : Nat) (w : World) (e : Ending) (w' : World) : Prop := ∃ vC vE C E, e = .returned (.agg #[.bool enc, vC, vE]) ∧ Chk enc C E ∧ 0 < C.length ∧ C.length ≤ most + 1 ∧ 0 < E.length ∧ COwn w' w.heap.size vC C ∧ IOwn w' w.heap.size vE E ∧ Below w.heap.size w w'
theorem setP {w : World} {g : Nat} {a b c : Value} (h : Blk w g 25 [a, b, c]) (x y z : Value) : Blk (((w.setCell ⟨g, 0, none⟩ x).setCell ⟨g, 1, none⟩ y).setCell ⟨g, 2, none⟩ z) g 25 [x, y, z] := by
  have := ((h.set 0 x).set 1 y).set 2 z
  simpa using this
theorem retP {fn : Func} {p : Tmp} (h : fn.results = #[.cell p 25]) {R : Ending → World → Prop} {tmps : Array Value} {g : Nat} {w : World} {x y z : Value} (hp : tmps.getD p undef = .pointer (some ⟨g, 0, none⟩)) (hK : Blk w g 25 [x, y, z]) (hR : R (.returned (.agg #[x, y, z])) w) :
    bodyPost Tryd.prog fn R Exit.ret ⟨tmps, []⟩ w :=
  bodyPost_ret (results_cell_row h _ _ _ _ #[x, y, z] _ _ hp (show w.heap[g]? = some (.cells #[x, y, z] 25 (0, 0)) from hK) Tryd.underlying25 rfl (by show _ = some 3; kernel_rfl)) rfl hR
theorem below_wr3 {B : Nat} {w w' : World} (h : Below B w w') {g : Nat} (hg : B ≤ g) (x y z : Value) : Below B w (((w'.setCell ⟨g, 0, none⟩ x).setCell ⟨g, 1, none⟩ y).setCell ⟨g, 2, none⟩ z) := below_set (below_set (below_set h _ _ _ hg) _ _ _ hg) _ _ _ hg
theorem upd3 (w : World) (g : Nat) (x y z : Value) : Upd (fun k => k = g) w (((w.setCell ⟨g, 0, none⟩ x).setCell ⟨g, 1, none⟩ y).setCell ⟨g, 2, none⟩ z) := by
  have h1 : Upd (fun k => k = g) w (w.setCell ⟨g, 0, none⟩ x) := (Upd.refl (fun k => k = g) w).set ⟨g, 0, none⟩ x (.inl rfl)
  have h2 := h1.set ⟨g, 1, none⟩ y (.inl rfl)
  exact h2.set ⟨g, 2, none⟩ z (.inl rfl)
/-- The program that is made whole: the answer. -/
theorem made_ret {w w' : World} {enc : Bool} {pc pe : Value} {gc ge most : Nat} {L : List In} {E : List Int} {tmps : Array Value} {p : Tmp} (hfn : Tryd.f6.results = #[.cell p 25]) (hp : tmps.getD p undef = .pointer (some ⟨w.heap.size + 1, 0, none⟩)) (h : MkM w w' enc pc pe gc ge L E) (hk : Chk enc L E) (h0 : 0 < L.length) (hm : L.length ≤ most + 1) (hm2 : most ≤ 1000) (hE : 0 < E.length) :
    bodyPost Tryd.prog Tryd.f6 (MadeTo enc most w) Exit.ret ⟨tmps, []⟩ (((w'.setCell ⟨w.heap.size + 1, 0, none⟩ (.bool enc)).setCell ⟨w.heap.size + 1, 1, none⟩ (.slice (some ⟨gc, 0, none⟩) L.length L.length)).setCell ⟨w.heap.size + 1, 2, none⟩ (.slice (some ⟨ge, 0, none⟩) E.length E.length)) := by
  refine retP hfn hp (setP h.r _ _ _) ?_
  have hU : Upd (fun k => k = w.heap.size + 1) w' (((w'.setCell ⟨w.heap.size + 1, 0, none⟩ (.bool enc)).setCell ⟨w.heap.size + 1, 1, none⟩ (.slice (some ⟨gc, 0, none⟩) L.length L.length)).setCell ⟨w.heap.size + 1, 2, none⟩ (.slice (some ⟨ge, 0, none⟩) E.length E.length)) := upd3 _ _ _ _ _
  have hc := h.c.upd hU (blk_nt h.c h.r (by decide))
  have he := h.e.upd hU (blk_nt h.e h.r (by decide))
  have hl : (cellsG inc L).length = L.length * 4 := cellsG_len inc_len L
  have hl2 : (cellsL .i64 E).length = E.length := by simp [cellsL]
  refine ⟨_, _, L, E, rfl, hk, h0, hm, hE, ?_, ?_, below_wr3 h.b (by omega) _ _ _⟩
  · have := ownS_of_blk (B := w.heap.size) (n := L.length) (c := 4) (cap := L.length) hc h.lc hl (Nat.le_refl _) (by unfold maxLen; omega)
    rw [← hl, List.take_length] at this
    exact this
  · have := ownS_of_blk (B := w.heap.size) (n := E.length) (c := 1) (cap := E.length) he h.le (by omega) (Nat.le_refl _) (by have := hk.ne; unfold maxLen; omega)
    rw [Nat.mul_one, ← hl2, List.take_length] at this
    unfold IOwn
    rw [← hl2]
    exact this
/-- The program itself. -/
theorem self_ret {w w' : World} {enc : Bool} {vC vE x y z : Value} {most : Nat} {L : List In} {E : List Int} {tmps : Array Value} {p : Tmp} (hfn : Tryd.f6.results = #[.cell p 25]) (hp : tmps.getD p undef = .pointer (some ⟨w.heap.size + 1, 0, none⟩)) (hr : Blk w' (w.heap.size + 1) 25 [x, y, z]) (hC : COwn w' w.heap.size vC L) (hE' : IOwn w' w.heap.size vE E) (hb : Below w.heap.size w w') (hk : Chk enc L E) (h0 : 0 < L.length) (hm : L.length ≤ most) (hE : 0 < E.length) :
    bodyPost Tryd.prog Tryd.f6 (MadeTo enc most w) Exit.ret ⟨tmps, []⟩ (((w'.setCell ⟨w.heap.size + 1, 0, none⟩ (.bool enc)).setCell ⟨w.heap.size + 1, 1, none⟩ vC).setCell ⟨w.heap.size + 1, 2, none⟩ vE) := by
  refine retP hfn hp (setP hr _ _ _) ?_
  have hU : Upd (fun k => k = w.heap.size + 1) w' (((w'.setCell ⟨w.heap.size + 1, 0, none⟩ (.bool enc)).setCell ⟨w.heap.size + 1, 1, none⟩ vC).setCell ⟨w.heap.size + 1, 2, none⟩ vE) := upd3 _ _ _ _ _
  refine ⟨_, _, L, E, rfl, hk, h0, by omega, hE, ownS_upd hC hU (fun k e hk => ?_), hE'.upd hU (fun k e hk => ?_), below_wr3 hb (by omega) _ _ _⟩
  · subst hk; exact notC hC hr (by decide) e
  · subst hk; exact notI hE' hr (by decide) e
end Go.Proofs.YteadmiikenpjeaaDoor
