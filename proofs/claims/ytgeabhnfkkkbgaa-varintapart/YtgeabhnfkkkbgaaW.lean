/- VarintApart: what is made is compared, written over, made longer. -/
import Derived.Test.YtgeabhnfkkkbgaaV
namespace Go.Proofs.Ytgeabhnfkkkbgaa
open Go.RowKit
set_option linter.unusedVariables false

theorem RowV.at {B N q cap : Nat} {w : World} {F : Nat → Value} (h : RowV B w (.slice (some ⟨q, 0, none⟩) N cap) N F) (j : Nat) (hj : j < N) : w.cell? ⟨q, j, none⟩ = some (F j) := by
  obtain ⟨q', cap', e, _, _, _, hc⟩ := h.open (by omega)
  injection e with e1 _ _
  injection e1 with e1
  injection e1 with e1 _ _
  subst e1
  exact hc j hj
theorem Ap.rowW {n m B b N pG pW : Nat} {w : World} {vG vW : Value} {g h c : Nat → Nat} {f : Nat → List Int} (a : Ap n m B w vG vW b N pG pW g h c f) (j : Nat) (hj : j < pW) : Row .u8 w (some ⟨h j, 0, none⟩) (cont n m j) := by
  obtain ⟨ys, e1, e2⟩ := a.bW j hj
  refine Row.mk fun i hi => ?_
  rw [Nat.zero_add, e1.cell i]
  have hi' : i < czs n m j := hi
  have e : (ys.take (czs n m j))[i]? = ys[i]? := by rw [List.getElem?_take, if_pos hi']
  rw [← e, e2, cellsL_at _ _ _ hi]
/-- What the first k lists are written over with. -/
def full (n m j : Nat) : List Int := List.replicate (czs n m j) (100 + (j : Int))
def Fill (n m B : Nat) (w0 w : World) (vG vW : Value) (b k i : Nat) (g h c : Nat → Nat) : Prop :=
  (∃ f, Ap n m B w vG vW b 12 12 12 g h c f ∧ (∀ j, j < k → f j = full n m j) ∧ ∀ i', i' < i → (f k).getD i' 0 = 100 + (k : Int)) ∧ Below B w0 w
theorem fill_start {n m B : Nat} {w0 w : World} {vG vW : Value} {b : Nat} {g h c : Nat → Nat} {f : Nat → List Int} (a : Ap n m B w vG vW b 12 12 12 g h c f) (hB : Below B w0 w) : Fill n m B w0 w vG vW b 0 0 g h c :=
  ⟨⟨f, a, fun j hj => by omega, fun i hi => by omega⟩, hB⟩
theorem getD_set (l : List Int) (i j : Nat) (x : Int) (hi : i < l.length) : (l.set i x).getD j 0 = if i = j then x else l.getD j 0 := by
  by_cases h : i = j
  · subst h; simp [List.getD, hi]
  · simp [List.getD, h]
/-- One byte is written. -/
theorem fill_step {n m B : Nat} {w0 w : World} {vG vW : Value} {b k i : Nat} {g h c : Nat → Nat} (F : Fill n m B w0 w vG vW b k i g h c) (hk : k < 12) (hi : i < czs n m k) :
    (∃ u, w.cell? ⟨g k, i, none⟩ = some u) ∧ w.frozen? ⟨g k, i, none⟩ = false ∧ Fill n m B w0 (w.setCell ⟨g k, i, none⟩ (.int .u8 (100 + (k : Int)))) vG vW b k (i + 1) g h c := by
  obtain ⟨⟨f, a, h1, h2⟩, hB⟩ := F
  have hbk := a.bG k hk
  have hlen := a.fl k hk
  have hcell : w.cell? ⟨g k, i, none⟩ = some (.int .u8 ((f k).getD i 0)) := by rw [hbk.cell i, cellsL_at _ _ _ (by omega)]
  have hu : Upd (fun q => q = g k) w (w.setCell ⟨g k, i, none⟩ (.int .u8 (100 + (k : Int)))) := (Upd.refl (fun q => q = g k) w).set ⟨g k, i, none⟩ _ (.inl rfl)
  refine ⟨⟨_, hcell⟩, hbk.frozen i, ⟨fun j => if j = k then (f k).set i (100 + (k : Int)) else f j, ?_, fun j hj => ?_, fun i' hi' => ?_⟩, hB.setCell (a.lo k hk) _⟩
  · refine ⟨a.rG.upd hu (fun q hq e => own_ne_t a.rG hbk (by decide) (by rw [← e]; exact hq)), a.rW.upd hu (fun q hq e => own_ne_t a.rW hbk (by decide) (by rw [← e]; exact hq)), fun j hj => ?_, fun j hj => ?_, fun j hj => ?_, a.lo, a.inj, a.dis, a.rows, Blk.upd a.rd hu (blk_ne a.rd hbk (by decide)), a.lb⟩
    · by_cases hjk : j = k
      · subst hjk
        rw [if_pos rfl, ← cellsL_set]
        exact hbk.set i _
      · rw [if_neg hjk]
        exact (a.bG j hj).upd hu (fun e => hjk (a.inj j k hj hk e))
    · obtain ⟨ys, e1, e2⟩ := a.bW j hj
      exact ⟨ys, e1.upd hu (fun e => a.dis k j hk hj e.symm), e2⟩
    · by_cases hjk : j = k
      · subst hjk; rw [if_pos rfl, List.length_set]; exact hlen
      · rw [if_neg hjk]; exact a.fl j hj
  · simp only
    rw [if_neg (by omega)]; exact h1 j hj
  · simp only [if_true]
    rw [getD_set _ _ _ _ (by omega)]
    by_cases e : i = i'
    · rw [if_pos e]
    · rw [if_neg e]; exact h2 i' (by omega)
theorem fill_next {n m B : Nat} {w0 w : World} {vG vW : Value} {b k : Nat} {g h c : Nat → Nat} (F : Fill n m B w0 w vG vW b k (czs n m k) g h c) (hk : k < 12) : Fill n m B w0 w vG vW b (k + 1) 0 g h c := by
  obtain ⟨⟨f, a, h1, h2⟩, hB⟩ := F
  refine ⟨⟨f, a, fun j hj => ?_, fun i hi => by omega⟩, hB⟩
  by_cases hjk : j = k
  · subst hjk
    have hlen := a.fl j hk
    apply List.ext_getElem?
    intro i
    unfold full
    by_cases hi : i < czs n m j
    · have e := h2 i hi
      rw [List.getElem?_replicate, if_pos hi, List.getElem?_eq_getElem (by omega), ← e]
      simp [List.getD, show i < (f j).length by omega]
    · rw [List.getElem?_eq_none (by omega), List.getElem?_replicate, if_neg hi]
  · exact h1 j (by omega)
theorem Ap.congr {n m B b N pG pW : Nat} {w : World} {vG vW : Value} {g h c : Nat → Nat} {f f' : Nat → List Int} (a : Ap n m B w vG vW b N pG pW g h c f) (e : ∀ j, j < N → f j = f' j) : Ap n m B w vG vW b N pG pW g h c f' :=
  ⟨a.rG, a.rW, fun j hj => by rw [← e j hj]; exact a.bG j hj, a.bW, fun j hj => by rw [← e j hj]; exact a.fl j hj, a.lo, a.inj, a.dis, a.rows, a.rd, a.lb⟩
theorem fill_end {n m B : Nat} {w0 w : World} {vG vW : Value} {b : Nat} {g h c : Nat → Nat} (F : Fill n m B w0 w vG vW b 12 0 g h c) : Ap n m B w vG vW b 12 12 12 g h c (full n m) ∧ Below B w0 w := by
  obtain ⟨⟨f, a, h1, _⟩, hB⟩ := F
  exact ⟨a.congr h1, hB⟩

/-! ### more -/
def long (n m j : Nat) : List Int := List.replicate (czs n m j + 1) (100 + (j : Int))
def slM (n m : Nat) (q d : Nat → Nat) (j : Nat) : Value := .slice (some ⟨q j, 0, none⟩) (czs n m j + 1) (d j)
structure More (n m B : Nat) (w0 w : World) (vG vW vM : Value) (b k : Nat) (g h c q d : Nat → Nat) : Prop where
  ap : Ap n m B w vG vW b 12 12 12 g h c (full n m)
  rM : RowV B w vM k (slM n m q d)
  bM : ∀ j, j < k → ∃ ys, Blk w (q j) 5 ys ∧ ys.take (czs n m j + 1) = cellsL .u8 (long n m j)
  ne : ∀ i, vM.ownBlock = some i → vG.ownBlock ≠ some i ∧ vW.ownBlock ≠ some i
  bel : Below B w0 w
theorem more_start {n m B : Nat} {w0 w : World} {vG vW : Value} {b : Nat} {g h c : Nat → Nat} (a : Ap n m B w vG vW b 12 12 12 g h c (full n m)) (hB : Below B w0 w) : More n m B w0 w vG vW (.slice none 0 0) b 0 g h c (fun _ => 0) (fun _ => 0) :=
  ⟨a, RowV.nil _ _ _, fun j hj => by omega, (fun i hi => by cases hi), hB⟩
theorem full_snoc (n m j : Nat) : full n m j ++ [100 + (j : Int)] = long n m j := by
  unfold full long
  rw [List.replicate_succ']
theorem more_push {n m B : Nat} {w0 w : World} {vG vW vM : Value} {b k : Nat} {g h c q d : Nat → Nat} (hn : n < 18446744073709551616) (hm : m < 18446744073709551616) (hk : k < 12) (M : More n m B w0 w vG vW vM b k g h c q d) :
    ∃ x dx w1 g3 c3 w3 q' d',
      (Builtin.append_ #[23, 23] 23 #[slG n m g k, .slice (some ⟨w.heap.size, 0, none⟩) 1 1]).run Try.prog (w.alloc (.cells #[.int .u8 (100 + (k : Int))] 5)) = .ok (.slice (some ⟨x, 0, none⟩) (czs n m k + 1) dx) w1 ∧
      (Builtin.append_ #[44, 44] 44 #[vM, .slice (some ⟨w1.heap.size, 0, none⟩) 1 1]).run Try.prog (w1.alloc (.cells #[.slice (some ⟨x, 0, none⟩) (czs n m k + 1) dx] 23)) = .ok (.slice (some ⟨g3, 0, none⟩) (k + 1) c3) w3 ∧
      More n m B w0 w3 vG vW (.slice (some ⟨g3, 0, none⟩) (k + 1) c3) b (k + 1) g h c q' d' := by
  have hc10 := czs_ten n m k hn hm
  obtain ⟨i0, hi, hz0, hz1, hz2⟩ := info_parts E23.info
  have hbk := M.ap.bG k hk
  have hbl := (Blk.newA w #[.int .u8 (100 + (k : Int))] 5)
  have hBa : Below w.heap.size w (w.alloc (.cells #[.int .u8 (100 + (k : Int))] 5)) := (Below.refl _ _).alloc (Nat.le_refl _) _
  have hbk1 := hbk.later hBa
  obtain ⟨v1, w1, r1, o1, gr1⟩ := run_append_arg_grows (P := Try.prog) (w.alloc (.cells #[.int .u8 (100 + (k : Int))] 5)) 23 23 5 i0 (.int .u8 0) 1 1 E23.sl hi hz0 hz1 hz2 rfl (by decide)
    ⟨g k, 0, none⟩ (czs n m k) (czs n m k) (cellsL .u8 (full n m k)) (by rw [cellsL_length, Nat.mul_one]; exact M.ap.fl k hk)
    (fun j u hj => by rw [add_none, Nat.zero_add, hbk1.cell j]; exact hj) ⟨w.heap.size, 0, none⟩ 1 1 [.int .u8 (100 + (k : Int))] rfl
    (fun j u hj => by rw [add_none, Nat.zero_add, hbl.cell j]; exact hj) (by omega) (by unfold maxLen; omega) (by omega)
  have hBg : Below (w.alloc (.cells #[.int .u8 (100 + (k : Int))] 5)).heap.size (w.alloc (.cells #[.int .u8 (100 + (k : Int))] 5)) w1 := (Below.refl _ _).grown gr1 (Nat.le_refl _) (fun k hk => by cases hk)
  have hB1 : Below w.heap.size w w1 := below_to hBa hBg
  obtain ⟨x, dx, ys, rfl, hx, _, _, _, hys, hbx⟩ := own_blk o1 (by omega)
  have hxw : w.heap.size ≤ x := Nat.le_trans hBa.size hx
  have hys2 : ys.take (czs n m k + 1) = cellsL .u8 (long n m k) := by
    rw [hys, ← full_snoc, cellsL_append]; rfl
  have a1 := M.ap.later hB1
  have rM1 : RowV B w1 vM k (slM n m (ext q k x) (ext d k dx)) := (M.rM.upd (Upd.of_below (S := fun _ => False) hB1) (fun _ _ h => h)).congr (fun j hj => by unfold slM; rw [ext_ne _ _ _ _ (by omega), ext_ne _ _ _ _ (by omega)])
  obtain ⟨g3, c3, w3, r3, p3, u3, l3⟩ := rM1.push rfl (by omega) a1.hB
  have e3 : slM n m (ext q k x) (ext d k dx) k = .slice (some ⟨x, 0, none⟩) (czs n m k + 1) dx := by unfold slM; rw [ext_at, ext_at]
  rw [e3] at r3
  have hne : ∀ {t : TypeId} {z : Nat} {zs : List Value}, Blk w1 z t zs → 23 ≠ t → ¬ vM.ownBlock = some z := fun hq ht e => own_ne_t rM1 hq ht e
  refine ⟨x, dx, w1, g3, c3, w3, ext q k x, ext d k dx, r1, r3, ?_, p3, fun j hj => ?_, fun i hi => ?_, ?_⟩
  · refine a1.upd u3 (fun i hi e => (M.ne i e).1 hi) (fun i hi e => (M.ne i e).2 hi) (fun j hj => hne (a1.bG j hj) (by decide)) (fun j hj => ?_) (hne a1.rd (by decide))
    obtain ⟨zs, e1, _⟩ := a1.bW j hj
    exact hne e1 (by decide)
  · by_cases hjk : j = k
    · subst hjk; rw [ext_at]; exact ⟨ys, hbx.upd u3 (hne hbx (by decide)), hys2⟩
    · rw [ext_ne _ _ _ _ hjk]
      obtain ⟨zs, e1, e2⟩ := M.bM j (by omega)
      exact ⟨zs, (e1.later hB1).upd u3 (hne (e1.later hB1) (by decide)), e2⟩
  · injection hi with hi
    have e' : g3 = i := hi
    subst e'
    rcases l3 with e | e
    · exact M.ne g3 e
    · refine ⟨fun e2 => ?_, fun e2 => ?_⟩
      · have := (a1.rG.lt _ e2).2; omega
      · have := (a1.rW.lt _ e2).2; omega
  · exact (M.bel.trans (hB1.mono M.ap.hB)).trans (u3.below B a1.hB (fun i hi => (rM1.lt i hi).1))
theorem More.cellM {n m B : Nat} {w0 w : World} {vG vW vM : Value} {b k : Nat} {g h c q d : Nat → Nat} (M : More n m B w0 w vG vW vM b k g h c q d) (j i : Nat) (hj : j < k) (hi : i < czs n m j + 1) : w.cell? ⟨q j, i, none⟩ = some (.int .u8 (100 + (j : Int))) := by
  obtain ⟨ys, e1, e2⟩ := M.bM j hj
  rw [e1.cell i]
  have e : (ys.take (czs n m j + 1))[i]? = ys[i]? := by rw [List.getElem?_take, if_pos hi]
  rw [← e, e2, cellsL_at _ _ _ (by unfold long; rw [List.length_replicate]; exact hi)]
  unfold long
  simp [List.getD, hi]
theorem More.cellG {n m B : Nat} {w0 w : World} {vG vW vM : Value} {b k : Nat} {g h c q d : Nat → Nat} (M : More n m B w0 w vG vW vM b k g h c q d) (j i : Nat) (hj : j < 12) (hi : i < czs n m j) : w.cell? ⟨g j, i, none⟩ = some (.int .u8 (100 + (j : Int))) := by
  rw [(M.ap.bG j hj).cell i, cellsL_at _ _ _ (by rw [M.ap.fl j hj]; exact hi)]
  unfold full
  simp [List.getD, hi]
end Go.Proofs.Ytgeabhnfkkkbgaa
