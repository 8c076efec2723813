/- Bytes in memory: what Put leaves, what Get reads, what a string is made of; copies by append. -/
import Derived.Test.YtmhcihccliakaaaD
namespace Go.Proofs.Ytmhcihccliakaaa
open Go.RowKit
set_option linter.unusedVariables false

/-! ### Plain numbers -/
def bytN (n k : Nat) : Nat := n / 2 ^ (8 * k) % 256
theorem byt_nat (n k : Nat) : byt (n : Int) k = (bytN n k : Int) := by
  unfold byt bytN
  have e : (2 : Int) ^ (8 * k) = ((2 ^ (8 * k) : Nat) : Int) := by rw [Int.natCast_pow]; rfl
  rw [e]; omega
theorem bytN_lt (n k : Nat) : bytN n k < 256 := Nat.mod_lt _ (by omega)
/-- The bytes behind a Put. -/
def putF (f : Nat → Nat) (p wd n : Nat) (i : Nat) : Nat := if p ≤ i ∧ i < p + wd then bytN n (i - p) else f i
theorem putF_lt (f : Nat → Nat) (p wd n len : Nat) (hf : ∀ i, i < len → f i < 256) : ∀ i, i < len → putF f p wd n i < 256 := by
  intro i hi
  unfold putF
  split
  · exact bytN_lt _ _
  · exact hf i hi
theorem putF_out (f : Nat → Nat) (p wd n i : Nat) (h : i < p ∨ p + wd ≤ i) : putF f p wd n i = f i := by unfold putF; rw [if_neg (by omega)]
theorem getv_put (f : Nat → Nat) (p wd n a k : Nat) (h : a + k ≤ wd) : getv (putF f p wd n) (p + a) k = n / 2 ^ (8 * a) % 2 ^ (8 * k) := by
  induction k with
  | zero => simp [getv, Nat.mod_one]
  | succ k ih =>
    rw [getv, ih (by omega)]
    have e1 : putF f p wd n (p + a + k) = bytN n (a + k) := by unfold putF; rw [if_pos (by omega)]; congr 1; omega
    have e2 : bytN n (a + k) = n / 2 ^ (8 * a) / 2 ^ (8 * k) % 256 := by unfold bytN; rw [Nat.div_div_eq_div_mul, ← Nat.pow_add]; congr 3; omega
    have e3 : 2 ^ (8 * (k + 1)) = 2 ^ (8 * k) * 256 := by rw [show 8 * (k + 1) = 8 * k + 8 from by omega, Nat.pow_add]
    rw [e1, e2, e3, Nat.mod_mul, Nat.mul_comm (2 ^ (8 * k))]
theorem fitB_iff (n wd : Nat) : fitB (n : Int) (wd : Int) = true ↔ n < 2 ^ (8 * wd) := by
  unfold fitB
  have e : (2 : Int) ^ (8 * (wd : Int)).toNat = ((2 ^ (8 * wd) : Nat) : Int) := by
    rw [show (8 * (wd : Int)).toNat = 8 * wd from by omega, Int.natCast_pow]; rfl
  rw [e, beq_iff_eq, ← Int.natCast_ediv]
  have hp : 0 < 2 ^ (8 * wd) := Nat.pow_pos (by omega)
  constructor
  · intro h
    have h' : n / 2 ^ (8 * wd) = 0 := by exact_mod_cast h
    exact (Nat.div_eq_zero_iff.1 h').resolve_left (by omega)
  · intro h
    rw [Nat.div_eq_of_lt h]; rfl

/-! ### The world behind a Put -/
theorem putW_size (w : World) (b o : Nat) (n : Int) (k : Nat) : (putW w b o n k).heap.size = w.heap.size := by
  induction k with
  | zero => rfl
  | succ k ih => rw [putW, World.size_setCell, ih]
theorem putW_other (w : World) (b o : Nat) (n : Int) (k : Nat) (a : Addr) (h : a.block ≠ b ∨ a.off < o ∨ o + k ≤ a.off) : (putW w b o n k).cell? a = w.cell? a := by
  induction k with
  | zero => rfl
  | succ k ih =>
    have hne : (⟨b, o + k, none⟩ : Addr) ≠ a := by intro e; subst e; simp at h; omega
    rw [putW, World.cell?_setCell_other (h := hne), ih (by omega)]
theorem putW_in (w : World) (b o : Nat) (n : Int) (k j : Nat) (hj : j < k) (hc : ∀ i, i < k → ∃ u, w.cell? ⟨b, o + i, none⟩ = some u) : (putW w b o n k).cell? ⟨b, o + j, none⟩ = some (.int .u8 (byt n j)) := by
  induction k with
  | zero => omega
  | succ k ih =>
    rw [putW]
    by_cases h : j = k
    · subst h
      obtain ⟨u, hu⟩ := hc j (by omega)
      exact World.cell?_setCell_same _ _ _ ((putW_ge w b o n j j (Nat.le_refl _)).trans hu)
    · have hne : (⟨b, o + k, none⟩ : Addr) ≠ ⟨b, o + j, none⟩ := by intro e; injection e; omega
      rw [World.cell?_setCell_other (h := hne)]
      exact ih (by omega) (fun i hi => hc i (by omega))
theorem putW_cells (w : World) (b off len p wd n : Nat) (f : Nat → Nat) (h : p + wd ≤ len) (hc : ∀ i, i < len → w.cell? ⟨b, off + i, none⟩ = some (.int .u8 (f i))) :
    ∀ i, i < len → (putW w b (off + p) (n : Int) wd).cell? ⟨b, off + i, none⟩ = some (.int .u8 (putF f p wd n i)) := by
  intro i hi
  by_cases hin : p ≤ i ∧ i < p + wd
  · have := putW_in w b (off + p) (n : Int) wd (i - p) (by omega) (fun j hj => ⟨_, by rw [Nat.add_assoc]; exact hc (p + j) (by omega)⟩)
    rw [show off + p + (i - p) = off + i from by omega, byt_nat] at this
    rw [this]; unfold putF; rw [if_pos hin]
  · rw [putW_other _ _ _ _ _ _ (by simp; omega), hc i hi]; unfold putF; rw [if_neg hin]
theorem putW_below (w : World) (b o : Nat) (n : Int) (k B : Nat) (hB : B ≤ b) : Below B w (putW w b o n k) := by
  induction k with
  | zero => exact Below.refl _ _
  | succ k ih => exact ih.setCell hB _

/-! ### Strings out of bytes -/
def strSeg (f : Nat → Nat) (lo len : Nat) : ByteArray := strOfNums ((List.range len).map fun i => (f (lo + i) : Int))
theorem strSeg_congr (f g : Nat → Nat) (lo len : Nat) (h : ∀ i, i < len → f (lo + i) = g (lo + i)) : strSeg f lo len = strSeg g lo len := by
  unfold strSeg
  congr 1
  apply List.map_congr_left
  intro i hi
  rw [h i (by simpa using hi)]
theorem conv_seg (w : World) (b off lo len cap : Nat) (f : Nat → Nat) (hc : ∀ i, i < len → w.cell? ⟨b, off + i, none⟩ = some (.int .u8 (f (lo + i)))) :
    (convert 22 9 (.slice (some ⟨b, off, none⟩) len cap)).run Try.prog w = .ok (.string (strSeg f lo len)) w := by
  refine run_convert_bytes_arg (P := Try.prog) w 22 5 Try.underlying22 Try.underlying5 b off len cap _ (by simp) (fun i hi => ?_) 9 Try.underlying9
  rw [hc i hi]
  simp [List.getD, hi]

/-! ### append, by its run -/
theorem wpList_append_run {P : Program} {w w' : World} {ops : Array Oper} {rest : List Oper} {o : Oper} {a : Act} {Q : Exit → Act → World → Prop} (hgd : o.guard = none) (s x : Operand) (t t2 : TypeId)
    (ho : o.op = .call { callee := .builtin .append, args := #[s, x], argTypes := #[t, t2] }) {v u v' : Value} (hs : a.eval s = v) (hx : a.eval x = u)
    (hr : (Builtin.append_ #[t, t2] o.type #[v, u]).run P w = .ok v' w') (h : wpList P ops Q rest (a.put o.dst v') w') : wpList P ops Q (o :: rest) a w := by
  refine wpList_plain hgd fun K hK => ?_
  unfold Oper.wp execOp
  simp only [ho, resolve, invoke, builtin, Sem.run_bind, Sem.run_pure, Result.andThen_ok, List.map_toArray, List.map_cons, List.map_nil, hs, hx, hr]
  exact hK _ _ h

theorem info5 : (Try.prog.info? 5).map (fun i => (i.zero, i.size, i.bytes)) = some (some (.int .u8 0), 1, 1) := by kernel_rfl
/-- Bytes in memory. -/
def RowB (w : World) (a : Option Addr) (len : Nat) (f : Nat → Nat) : Prop :=
  (a = none ∧ len = 0) ∨ ∃ x, a = some x ∧ ∀ i, i < len → w.cell? (x.add i) = some (.int .u8 (f i))
def cellsF (f : Nat → Nat) (len : Nat) : List Value := (List.range len).map fun i => .int .u8 (f i)
theorem cellsF_length (f : Nat → Nat) (len : Nat) : (cellsF f len).length = len := by simp [cellsF]
theorem cellsF_get (f : Nat → Nat) (len j : Nat) (u : Value) (h : (cellsF f len)[j]? = some u) : j < len ∧ u = .int .u8 (f j) := by
  unfold cellsF at h
  rw [List.getElem?_map] at h
  by_cases hj : j < len
  · simp [hj] at h
    exact ⟨hj, h.symm⟩
  · simp [hj] at h
/-- A new copy: append(nil, b...). -/
theorem run_copy (w : World) (ty base : Nat) (a : Option Addr) (len cap : Nat) (f : Nat → Nat) (hrow : RowB w a len f) (hcap : a = none → cap = 0) (hl : len ≤ 3000) (hbase : base ≤ w.heap.size) :
    ∃ v' w', (Builtin.append_ #[22, 22] ty #[.slice none 0 0, .slice a len cap]).run Try.prog w = .ok v' w' ∧ w'.ownsRow base 5 1 v' len (cellsF f len) ∧ w.grownBy w' none := by
  obtain ⟨i0, hi, hz0, hz1, hz2⟩ := info_parts info5
  rcases hrow with ⟨rfl, rfl⟩ | ⟨x, rfl, hc⟩
  · obtain rfl := hcap rfl
    refine ⟨.slice none 0 0, w, ?_, World.ownsRow_nil _ _ _ _, ⟨rfl, rfl, rfl, Nat.le_refl _, fun _ _ _ => rfl⟩⟩
    simp [Builtin.append_, run_underlying Try.underlying22, sizeOf, typeInfo, hi, Builtin.lenOf, Builtin.firstCells]
  · obtain ⟨v', w', h1, h2, h3, _⟩ := run_append_own (P := Try.prog) w base 22 ty 5 i0 (.int .u8 0) 1 1 Try.underlying22 hi hz0 hz1 hz2 rfl (by decide) (.slice none 0 0) 0 [] (World.ownsRow_nil _ _ _ _) x len cap (cellsF f len)
      (by rw [cellsF_length, Nat.mul_one]) (fun j u hj => by obtain ⟨h, rfl⟩ := cellsF_get f len j u hj; exact hc j h) (fun u hu => by
        obtain ⟨j, hj, rfl⟩ := List.mem_map.1 hu
        rfl) (by unfold maxLen; omega) (by omega) hbase
    rw [Nat.zero_add, List.nil_append] at h2
    exact ⟨v', w', h1, h2, h3⟩

/-! ### append(x, make([]byte, 8)...) -/
def zs8 : List Value := List.replicate 8 (.int .u8 0)
theorem zs8_length : zs8.length = 8 := rfl
theorem zero8 : Builtin.zeroCells (Value.cells (.int .u8 0)) 8 = zs8.toArray := by kernel_rfl
theorem run_zeros (w : World) (ty base : Nat) (v : Value) (n : Nat) (xs : List Value) (hown : w.ownsRow base 5 1 v n xs) (hn : n ≤ 2000) (hbase : base ≤ w.heap.size) :
    ∃ v' w', (Builtin.append_ #[22, 3] ty #[v, .int .i64 8]).run Try.prog w = .ok v' w' ∧ w'.ownsRow base 5 1 v' (n + 8) (xs ++ zs8) ∧ w.grownBy w' v.ownBlock := by
  obtain ⟨i0, hi, hz0, hz1, hz2⟩ := info_parts info5
  have hlen : (xs ++ zs8).length = (n + 8) * 1 := by rw [List.length_append, hown.1, zs8_length]; omega
  have h63 : n + 8 ≤ maxLen := by unfold maxLen; omega
  have hA : ∀ w' : World, (asInt (.int .i64 8)).run Try.prog w' = .ok 8 w' := fun _ => rfl
  have hw8 : IntKind.i64.wrap 8 = 8 := by decide
  have hnx : ¬ (281474976710656 < Builtin.nextslicecap 8 0) := by decide
  have grown : ∀ (old : Nat), old < n + 8 → ∀ (row : Option Nat),
      (w.drew.alloc (.cells (xs.toArray ++ zs8.toArray ++ Builtin.zeroCells (Value.cells (.int .u8 0)) (grownCap w (n + 8) old 5 - (n + 8))) 5)).ownsRow base 5 1
        (.slice (some ⟨w.heap.size, 0, none⟩) (n + 8) (grownCap w (n + 8) old 5)) (n + 8) (xs ++ zs8) ∧
      w.grownBy (w.drew.alloc (.cells (xs.toArray ++ zs8.toArray ++ Builtin.zeroCells (Value.cells (.int .u8 0)) (grownCap w (n + 8) old 5 - (n + 8))) 5)) row := by
    intro old ho row
    have hge := grownCap_ge w (n + 8) old 5
    have hcm := grownCap_le_maxLen w (n + 8) old 5 h63
    refine ⟨⟨hlen, .inr ⟨w.heap.size, _, _, rfl, hbase, heap_alloc_new w.drew _, hge, hcm, ?_, ?_⟩⟩, ⟨rfl, rfl, rfl, by simp, fun k hk _ => Below.heap_alloc w.drew _ k hk⟩⟩
    · have h1 := hown.1
      have h2 := size_zeroCells (Value.cells (.int .u8 0)) (grownCap w (n + 8) old 5 - (n + 8))
      rw [Array.size_append, Array.size_append, List.size_toArray, List.size_toArray, h2, h1, zs8_length, show (Value.cells (.int .u8 0)).size = 1 from rfl]
      omega
    · simp only [Array.toList_append, List.append_assoc]
      rw [← List.append_assoc, ← hlen]
      exact List.take_left
  rcases hown.2 with ⟨rfl, rfl⟩ | ⟨g, cap, cur, rfl, hbg, hg, hnc, hcm, hcs, htake⟩
  · have hx : xs = [] := List.eq_nil_of_length_eq_zero (by simpa using hown.1)
    subst hx
    have hgr := grown 0 (by omega) none
    refine ⟨_, _, ?_, hgr.1, hgr.2⟩
    simp [Builtin.append_, run_underlying Try.underlying22, run_underlying Try.underlying3, sizeOf, typeInfo, zeroValue, hi, hz0, hz1, hz2, hA, hw8, hnx, Question.forced, newRow, grownCap, Builtin.firstCells, zero8]
    intro h
    exact absurd h (by decide)
  · by_cases hroom : n + 8 ≤ cap
    · have hst := run_storeCells_at Try.prog g n 5 zs8 0 cur w hg (by rw [zs8_length]; omega) (fun u hu => by obtain ⟨_, rfl⟩ := List.mem_replicate.1 hu; rfl)
      simp only [Nat.add_zero, zs8_length] at hst
      refine ⟨.slice (some ⟨g, 0, none⟩) (n + 8) cap, w.setRow g (cur.toList.take (n * 1) ++ zs8 ++ cur.toList.drop (n * 1 + 8)).toArray, ?_, ⟨hlen, .inr ⟨g, cap, _, rfl, hbg, setRow_heap w g cur _ 5 _ hg, hroom, hcm, ?_, ?_⟩⟩, ⟨rfl, rfl, rfl, by simp, fun k _ hk => setRow_other w g k _ (fun e => hk (by simp [Value.ownBlock, e]))⟩⟩
      · simp [Builtin.append_, run_underlying Try.underlying22, run_underlying Try.underlying3, sizeOf, typeInfo, zeroValue, hi, hz0, hz1, hz2, hA, hw8, hroom, zero8, Addr.add_lit, hst, List.append_assoc]
      · simp only [List.size_toArray, List.length_append, List.length_take, List.length_drop, Array.length_toList, zs8_length]
        omega
      · rw [htake, ← hlen]
        exact List.take_left
    · have holds : ∀ j u, xs[j]? = some u → w.cell? ((⟨g, 0, none⟩ : Addr).add j) = some u := hown.cells (g := g) rfl
      have hfo := run_firstCells_some (P := Try.prog) w.drew 1 n ⟨g, 0, none⟩ n cap xs hown.1 (by simpa using holds)
      have hgr := grown cap (by omega) (Value.ownBlock (.slice (some ⟨g, 0, none⟩) n cap))
      refine ⟨_, _, ?_, hgr.1, hgr.2⟩
      have hfit : ¬ (281474976710656 < Builtin.nextslicecap (n + 8) cap) := by
        have := growslice_fits (need := n + 8) (old := cap) (bytes := 1) (by omega) (by omega)
        omega
      simp [Builtin.append_, run_underlying Try.underlying22, run_underlying Try.underlying3, sizeOf, typeInfo, zeroValue, hi, hz0, hz1, hz2, hA, hw8, hroom, hfit, hfo, Question.forced, newRow, grownCap, zero8]
      rw [if_neg (by omega)]
      congr 3
      apply Array.ext'
      simp

theorem own_cells {w : World} {base n : Nat} {v : Value} {xs : List Value} (h : w.ownsRow base 5 1 v n xs) (hn : 0 < n) :
    ∃ g c, v = .slice (some ⟨g, 0, none⟩) n c ∧ base ≤ g ∧ g < w.heap.size ∧ n ≤ c ∧ c ≤ maxLen ∧ (∀ i u, xs[i]? = some u → w.cell? ⟨g, 0 + i, none⟩ = some u) ∧ ∀ o, w.frozen? ⟨g, o, none⟩ = false := by
  have hcells := @World.ownsRow.cells _ _ _ _ _ _ _ h
  rcases h.2 with ⟨rfl, rfl⟩ | ⟨g, cap, cur, rfl, hb, hg, hnc, hcm, _, _⟩
  · omega
  · refine ⟨g, cap, rfl, hb, (h.lt g rfl).2, hnc, hcm, fun i u hu => ?_, fun o => ?_⟩
    · have e : (⟨g, 0, none⟩ : Addr).add i = ⟨g, 0 + i, none⟩ := by unfold Addr.add; split <;> simp_all
      rw [← e]
      exact hcells rfl i u hu
    · simp [World.frozen?, hg]
theorem cellsF_at (f : Nat → Nat) (len j : Nat) (h : j < len) : (cellsF f len)[j]? = some (.int .u8 (f j)) := by simp [cellsF, h]
/-- With eight zeros behind. -/
def padF (f : Nat → Nat) (n i : Nat) : Nat := if i < n then f i else 0
theorem padF_at (f : Nat → Nat) (n j : Nat) (h : j < n + 8) : (cellsF f n ++ zs8)[j]? = some (.int .u8 (padF f n j)) := by
  unfold padF
  by_cases hj : j < n
  · rw [if_pos hj, List.getElem?_append_left (by rw [cellsF_length]; exact hj), cellsF_at f n j hj]
  · rw [if_neg hj, List.getElem?_append_right (by rw [cellsF_length]; omega), cellsF_length]
    show (List.replicate 8 (Value.int .u8 0))[j - n]? = _
    rw [List.getElem?_replicate, if_pos (by omega)]
    rfl
end Go.Proofs.Ytmhcihccliakaaa
