/- sums. -/
import Derived.Test.YtmhcihccliakaaaJ
import Derived.Deep.LoopGhost
namespace Go.Proofs.Ytmhcihccliakaaa
open Go.RowKit
set_option linter.unusedVariables false

theorem info3K : (Try.prog.info? 3).map (fun i => (i.zero, i.size, i.bytes)) = some (some (.int .i64 0), 1, 8) := by kernel_rfl
/-- Ints in memory. -/
def RowX (w : World) (a : Option Addr) (l : List Int) : Prop :=
  (a = none ∧ l = []) ∨ ∃ x, a = some x ∧ ∀ i, i < l.length → w.cell? (x.add i) = some (.int .i64 (l.getD i 0))
def cellsI (l : List Int) : List Value := l.map (Value.int .i64)
theorem cellsI_length (l : List Int) : (cellsI l).length = l.length := by simp [cellsI]
theorem cellsI_at (l : List Int) (j : Nat) (h : j < l.length) : (cellsI l)[j]? = some (.int .i64 (l.getD j 0)) := by simp [cellsI, List.getD, h]
theorem cellsI_get (l : List Int) (j : Nat) (u : Value) (h : (cellsI l)[j]? = some u) : j < l.length ∧ u = .int .i64 (l.getD j 0) := by
  by_cases hj : j < l.length
  · rw [cellsI_at l j hj] at h; exact ⟨hj, (Option.some.inj h).symm⟩
  · rw [List.getElem?_eq_none (by rw [cellsI_length]; omega)] at h; cases h
theorem run_copyI (w : World) (ty base : Nat) (a : Option Addr) (len cap : Nat) (l : List Int) (hlen : l.length = len) (hrow : RowX w a l) (hcap : a = none → cap = 0) (hl : len ≤ 3000) (hbase : base ≤ w.heap.size) :
    ∃ v' w', (Builtin.append_ #[33, 33] ty #[.slice none 0 0, .slice a len cap]).run Try.prog w = .ok v' w' ∧ w'.ownsRow base 3 1 v' len (cellsI l) ∧ w.grownBy w' none := by
  obtain ⟨i0, hi, hz0, hz1, hz2⟩ := info_parts info3K
  subst hlen
  rcases hrow with ⟨rfl, rfl⟩ | ⟨x, rfl, hc⟩
  · obtain rfl := hcap rfl
    refine ⟨.slice none 0 0, w, ?_, World.ownsRow_nil _ _ _ _, ⟨rfl, rfl, rfl, Nat.le_refl _, fun _ _ _ => rfl⟩⟩
    simp [Builtin.append_, run_underlying Try.underlying33, sizeOf, typeInfo, hi, Builtin.lenOf, Builtin.firstCells]
  · obtain ⟨v', w', h1, h2, h3, _⟩ := run_append_own (P := Try.prog) w base 33 ty 3 i0 (.int .i64 0) 1 8 Try.underlying33 hi hz0 hz1 hz2 rfl (by decide) (.slice none 0 0) 0 [] (World.ownsRow_nil _ _ _ _) x l.length cap (cellsI l)
      (by rw [cellsI_length, Nat.mul_one]) (fun j u hj => by obtain ⟨h, rfl⟩ := cellsI_get l j u hj; exact hc j h) (fun u hu => by
        obtain ⟨j, hj, rfl⟩ := List.mem_map.1 hu
        rfl) (by unfold maxLen; omega) (by omega) hbase
    rw [Nat.zero_add, List.nil_append] at h2
    exact ⟨v', w', h1, h2, h3⟩
theorem run_77 (w : World) (ty base : Nat) (v : Value) (n : Nat) (xs : List Value) (hown : w.ownsRow base 3 1 v n xs) (hn : n ≤ 3000) (hbase : base ≤ w.heap.size) :
    ∃ v' w', (Builtin.append_ #[33, 33] ty #[v, .slice (some ⟨w.heap.size, 0, none⟩) 1 1]).run Try.prog (w.alloc (.cells #[.int .i64 77] 3)) = .ok v' w' ∧ w'.ownsRow base 3 1 v' (n + 1) (xs ++ [.int .i64 77]) ∧ (w.alloc (.cells #[.int .i64 77] 3)).grownBy w' v.ownBlock := by
  obtain ⟨i0, hi, hz0, hz1, hz2⟩ := info_parts info3K
  obtain ⟨v', w', h1, h2, h3, _⟩ := run_append_own (P := Try.prog) (w.alloc (.cells #[.int .i64 77] 3)) base 33 ty 3 i0 (.int .i64 0) 1 8 Try.underlying33 hi hz0 hz1 hz2 rfl (by decide) v n xs (hown.alloc _) ⟨w.heap.size, 0, none⟩ 1 1 [.int .i64 77] rfl
    (fun j u hj => by
      match j, hj with
      | 0, hj => simp at hj; subst hj; simp [Addr.add])
    (fun u hu => by simp at hu; subst hu; rfl) (by unfold maxLen; omega) (by omega) (by simp; omega)
  exact ⟨v', w', h1, h2, h3⟩
theorem own_cellsI {w : World} {base n : Nat} {v : Value} {xs : List Value} (h : w.ownsRow base 3 1 v n xs) (hn : 0 < n) :
    ∃ g c, v = .slice (some ⟨g, 0, none⟩) n c ∧ base ≤ g ∧ g < w.heap.size ∧ n ≤ c ∧ c ≤ maxLen ∧ (∀ i u, xs[i]? = some u → w.cell? ⟨g, 0 + i, none⟩ = some u) ∧ ∀ o, w.frozen? ⟨g, o, none⟩ = false := by
  have hcells := @World.ownsRow.cells _ _ _ _ _ _ _ h
  rcases h.2 with ⟨rfl, rfl⟩ | ⟨g, cap, cur, rfl, hb, hg, hnc, hcm, _, _⟩
  · omega
  · refine ⟨g, cap, rfl, hb, (h.lt g rfl).2, hnc, hcm, fun i u hu => ?_, fun o => ?_⟩
    · have e : (⟨g, 0, none⟩ : Addr).add i = ⟨g, 0 + i, none⟩ := by unfold Addr.add; split <;> simp_all
      rw [← e]
      exact hcells rfl i u hu
    · simp [World.frozen?, hg]

/-- own and now hold the same numbers; behind own's the mark. -/
structure SumSt (w : World) (g h n : Nat) (m : List Int) (wr : World) : Prop where
  len : m.length = n
  gl : g < wr.heap.size
  hl : h < wr.heap.size
  ne : g ≠ h
  gb : w.heap.size ≤ g
  hb : w.heap.size ≤ h
  own : ∀ i, i < n → wr.cell? ⟨g, 0 + i, none⟩ = some (.int .i64 (m.getD i 0))
  mark : wr.cell? ⟨g, n, none⟩ = some (.int .i64 77)
  now : ∀ i, i < n → wr.cell? ⟨h, 0 + i, none⟩ = some (.int .i64 (m.getD i 0))
  fg : ∀ o, wr.frozen? ⟨g, o, none⟩ = false
  fh : ∀ o, wr.frozen? ⟨h, o, none⟩ = false
  below : Below w.heap.size w wr
theorem SumSt.drew {w wr : World} {g h n : Nat} {m : List Int} (s : SumSt w g h n m wr) : SumSt w g h n m wr.drew :=
  ⟨s.len, s.gl, s.hl, s.ne, s.gb, s.hb, s.own, s.mark, s.now, s.fg, s.fh, s.below.drew⟩
theorem SumSt.rowO {w wr : World} {g h n : Nat} {m : List Int} (s : SumSt w g h n m wr) : RowI wr (some ⟨g, 0, none⟩) m :=
  .inr ⟨g, 0, rfl, fun i hi => s.own i (by have := s.len; omega)⟩
theorem SumSt.rowN {w wr : World} {g h n : Nat} {m : List Int} (s : SumSt w g h n m wr) : RowI wr (some ⟨h, 0, none⟩) m :=
  .inr ⟨h, 0, rfl, fun i hi => s.now i (by have := s.len; omega)⟩
theorem SumSt.flip {w wr : World} {g h n : Nat} {m : List Int} (s : SumSt w g h n m wr) (hn : 0 < n) (q : Int) :
    SumSt w g h n (m.set 0 q) ((wr.setCell ⟨g, 0, none⟩ (.int .i64 q)).setCell ⟨h, 0, none⟩ (.int .i64 q)) := by
  have hgh : ∀ o o', (⟨g, o, none⟩ : Addr) ≠ ⟨h, o', none⟩ := fun o o' e => s.ne (by injection e)
  have hhg : ∀ o o', (⟨h, o, none⟩ : Addr) ≠ ⟨g, o', none⟩ := fun o o' e => s.ne (by injection e with e1; exact e1.symm)
  have hlen := s.len
  have hget : ∀ i, i < n → (m.set 0 q).getD i 0 = if i = 0 then q else m.getD i 0 := by
    intro i hi
    by_cases h0 : i = 0
    · subst h0; simp [List.getD, show 0 < m.length by omega]
    · rw [if_neg h0]; simp [List.getD, show ¬ 0 = i by omega]
  refine ⟨by simp [hlen], by simpa using s.gl, by simpa using s.hl, s.ne, s.gb, s.hb, fun i hi => ?_, ?_, fun i hi => ?_, fun o => by simp [s.fg], fun o => by simp [s.fh], (s.below.setCell s.gb _).setCell s.hb _⟩
  · rw [World.cell?_setCell_other (h := hhg 0 (0 + i)), hget i hi]
    by_cases h0 : i = 0
    · subst h0
      rw [if_pos rfl]
      exact World.cell?_setCell_same _ _ _ (s.own 0 hi)
    · rw [if_neg h0, World.cell?_setCell_other (h := by intro e; injection e; omega)]
      exact s.own i hi
  · rw [World.cell?_setCell_other (h := hhg 0 n), World.cell?_setCell_other (h := by intro e; injection e; omega)]
    exact s.mark
  · rw [hget i hi]
    by_cases h0 : i = 0
    · subst h0
      rw [if_pos rfl]
      refine World.cell?_setCell_same _ _ _ (u := .int .i64 (m.getD 0 0)) ?_
      rw [World.cell?_setCell_other (h := hgh 0 0)]
      exact s.now 0 hi
    · rw [if_neg h0, World.cell?_setCell_other (h := by intro e; injection e; omega), World.cell?_setCell_other (h := hgh 0 (0 + i))]
      exact s.now i hi
theorem rowX_later {w w' : World} {a : Option Addr} {l : List Int} (h : RowX w a l) (hB : Below w.heap.size w w') : RowX w' a l := by
  rcases h with ⟨rfl, rfl⟩ | ⟨x, rfl, hc⟩
  · exact .inl ⟨rfl, rfl⟩
  · refine .inr ⟨x, rfl, fun i hi => ?_⟩
    have h1 := hc i hi
    exact (hB.cell (World.block_lt_of_cell? w _ h1)).trans h1
theorem hide_ {p : Prop} (h : p) : Hid p := h
theorem plus_SL (a : Option Addr) (len cap : Nat) (l : List Int) (S : Int) (w : World) (hl : len ≤ maxLen) (hlen : Hid (l.length = len)) (hS : Hid (capH (tot l) = S)) (hrow : RowI w a l) :
    Calls Try.prog 12 #[.slice a len cap] w fun e w' => e = .returned (.int .i64 S) ∧ w = w' := by
  rw [← hS.out]
  exact plus_any a len cap l w hl hlen.out hrow
theorem rplus_SL (a : Option Addr) (len cap : Nat) (l : List Int) (S : Int) (w : World) (hl : len ≤ maxLen) (hlen : Hid (l.length = len)) (hS : Hid (capH (tot l) = S)) (hrow : RowI w a l) :
    Calls Try.prog 27 #[.slice a len cap] w fun e w' => e = .returned (.int .i64 S) ∧ w = w' := by
  rw [← hS.out]
  exact rplus_any a len cap l w hl hlen.out hrow
/-- The two copies. -/
theorem sum_start (w : World) (a : Option Addr) (n cap : Nat) (l : List Int) (hl : l.length = n) (hrow : RowX w a l) (hnil : a = none → cap = 0) (hn : n ≤ 2000) :
    ∃ v1 w2 g c1 w3 v3 w4, (Builtin.append_ #[33, 33] 33 #[.slice none 0 0, .slice a n cap]).run Try.prog w = .ok v1 w2 ∧
      (Builtin.append_ #[33, 33] 33 #[v1, .slice (some ⟨w2.heap.size, 0, none⟩) 1 1]).run Try.prog (w2.alloc (.cells #[.int .i64 77] 3)) = .ok (.slice (some ⟨g, 0, none⟩) (n + 1) c1) w3 ∧
      (Builtin.append_ #[33, 33] 33 #[.slice none 0 0, .slice a n cap]).run Try.prog w3 = .ok v3 w4 ∧ n + 1 ≤ c1 ∧ c1 ≤ maxLen ∧
      w4.ownsRow w3.heap.size 3 1 v3 n (cellsI l) ∧ w.heap.size ≤ g ∧ g < w3.heap.size ∧ Below w3.heap.size w3 w4 ∧ Below w.heap.size w w3 ∧
      (∀ i, i < n → w4.cell? ⟨g, 0 + i, none⟩ = some (.int .i64 (l.getD i 0))) ∧ w4.cell? ⟨g, n, none⟩ = some (.int .i64 77) ∧ (∀ o, w4.frozen? ⟨g, o, none⟩ = false) := by
  obtain ⟨v1, w2, r1, o1, g1⟩ := run_copyI w 33 w.heap.size a n cap l hl hrow hnil (by omega) (Nat.le_refl _)
  have hB2 : Below w.heap.size w w2 := (Below.refl _ _).grown g1 (Nat.le_refl _) (fun k hk => by cases hk)
  obtain ⟨v2, w3, r2, o2, g2⟩ := run_77 w2 33 w.heap.size v1 n (cellsI l) o1 (by omega) hB2.size
  have hB3 : Below w.heap.size w w3 := (hB2.alloc hB2.size _).grown g2 (by have := hB2.size; simp; omega) (fun k hk => (o1.lt k hk).1)
  obtain ⟨g, c1, rfl, k1, k2, k3, k4, k5, k6⟩ := own_cellsI o2 (by omega)
  obtain ⟨v3, w4, r3, o3, g3⟩ := run_copyI w3 33 w3.heap.size a n cap l hl (rowX_later hrow hB3) hnil (by omega) (Nat.le_refl _)
  have hB4 : Below w3.heap.size w3 w4 := (Below.refl _ _).grown g3 (Nat.le_refl _) (fun k hk => by cases hk)
  refine ⟨v1, w2, g, c1, w3, v3, w4, r1, r2, r3, k3, k4, o3, k1, k2, hB4, hB3, fun i hi => ?_, ?_, fun o => ?_⟩
  · rw [hB4.cell (p := ⟨g, 0 + i, none⟩) k2]
    refine k5 i _ ?_
    rw [List.getElem?_append_left (by rw [cellsI_length]; omega), cellsI_at l i (by omega)]
  · rw [hB4.cell (p := ⟨g, n, none⟩) k2]
    have h := k5 n (.int .i64 77) (by rw [List.getElem?_append_right (by rw [cellsI_length]; omega), cellsI_length, hl, Nat.sub_self]; rfl)
    rw [Nat.zero_add] at h
    exact h
  · rw [hB4.frozen (p := ⟨g, o, none⟩) k2]
    exact k6 o
end Go.Proofs.Ytmhcihccliakaaa
