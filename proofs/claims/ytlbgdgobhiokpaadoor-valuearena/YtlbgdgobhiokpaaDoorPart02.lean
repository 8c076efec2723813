import Derived.Test.YtlbgdgobhiokpaaDoorPart01
import Derived.Test.YtlbgdgobhiokpaaDoorRows
import Derived.Laws.ResultCell
import Derived.Laws.Rows

/- Nodes and lists of nodes, plain; nodes in memory. -/
namespace Go.Proofs.YtlbgdgobhiokpaaDoor
open Go.RowKit
set_option linter.unusedVariables false

/-- A node: kind, number, how many kids. -/
abbrev Nd := Int × Int × Int
def nil0 : Nd := (0, 0, 0)
def mostN (k : Int) : Int := if k = 1 then 18446744073709551615 else if k = 2 then 1 else if k = 6 then 255 else 0
def leastK (k : Int) : Int := if k = 4 then 1 else if k = 6 then 1 else 0
def mostK (k : Int) : Int := if k = 3 then 1048576 else if k = 4 then 64 else if k = 5 then 1 else if k = 6 then 1 else 0
def isK (k : Int) : Bool := decide (1 ≤ k ∧ k ≤ 6)
def right (x : Nd) : Bool := decide ((1 ≤ x.1 ∧ x.1 ≤ 6) ∧ x.2.1 ≤ mostN x.1 ∧ leastK x.1 ≤ x.2.2 ∧ x.2.2 ≤ mostK x.1)
theorem right_iff (x : Nd) : right x = true ↔ (1 ≤ x.1 ∧ x.1 ≤ 6) ∧ x.2.1 ≤ mostN x.1 ∧ leastK x.1 ≤ x.2.2 ∧ x.2.2 ≤ mostK x.1 := by simp [right]
theorem right_kids {x : Nd} (h : right x = true) : 0 ≤ x.2.2 ∧ x.2.2 ≤ 1048576 := by
  have h := (right_iff x).1 h
  unfold leastK mostK at h
  split at h <;> (try split at h) <;> (try split at h) <;> (try split at h) <;> omega
/-- Check: so many values are still missing, so many nodes are ahead. -/
def chk (m a : Int) : List Nd → Int × Int
  | [] => if 0 < m then (40, a) else (0, 0)
  | x :: l => if m = 0 ∨ right x = false then (40, a) else chk (m + (x.2.2 - 1)) (a + 1) l
/-- How many nodes so many values have. -/
def bh : Nat → List Nd → Nat
  | 0, _ => 0
  | _ + 1, [] => 0
  | m + 1, x :: l => bh (m + x.2.2.toNat) l + 1

def ndc (x : Nd) : List Value := [.int .i64 x.1, .int .u64 x.2.1, .int .i64 x.2.2]
def ndv (x : Nd) : Value := .agg #[.int .i64 x.1, .int .u64 x.2.1, .int .i64 x.2.2]
/-- It is nil and empty, or its cells hold these nodes. -/
def NRow (w : World) (a : Option Addr) (l : List Nd) : Prop :=
  (a = none ∧ l = []) ∨ ∃ b off, a = some ⟨b, off, none⟩ ∧ b < w.heap.size ∧ ∀ i, i < l.length →
    w.cell? ⟨b, off + i * 3, none⟩ = some (.int .i64 (l.getD i nil0).1) ∧ w.cell? ⟨b, off + i * 3 + 1, none⟩ = some (.int .u64 (l.getD i nil0).2.1) ∧ w.cell? ⟨b, off + i * 3 + 2, none⟩ = some (.int .i64 (l.getD i nil0).2.2)
section
variable {w w' : World} {a : Option Addr} {l : List Nd}
theorem NRow.open (h : NRow w a l) (hl : 0 < l.length) : ∃ b off, a = some ⟨b, off, none⟩ ∧ b < w.heap.size ∧ ∀ i, i < l.length →
    w.cell? ⟨b, off + i * 3, none⟩ = some (.int .i64 (l.getD i nil0).1) ∧ w.cell? ⟨b, off + i * 3 + 1, none⟩ = some (.int .u64 (l.getD i nil0).2.1) ∧ w.cell? ⟨b, off + i * 3 + 2, none⟩ = some (.int .i64 (l.getD i nil0).2.2) := by
  rcases h with ⟨_, rfl⟩ | h
  · simp at hl
  · exact h
theorem NRow.below {B : Nat} (h : NRow w a l) (hB : Below B w w') (hb : ∀ x, a = some x → x.block < B) : NRow w' a l := by
  rcases h with h | ⟨b, off, rfl, hlt, hc⟩
  · exact .inl h
  · have hb1 : b < B := hb _ rfl
    refine .inr ⟨b, off, rfl, Nat.lt_of_lt_of_le hlt hB.size, fun i hi => ?_⟩
    obtain ⟨c0, c1, c2⟩ := hc i hi
    exact ⟨(hB.cell (p := ⟨b, _, none⟩) hb1).trans c0, (hB.cell (p := ⟨b, _, none⟩) hb1).trans c1, (hB.cell (p := ⟨b, _, none⟩) hb1).trans c2⟩
theorem NRow.later (h : NRow w a l) (hB : Below w.heap.size w w') : NRow w' a l := by
  refine h.below hB fun x hx => ?_
  rcases h with ⟨rfl, _⟩ | ⟨b, off, rfl, hlt, _⟩
  · cases hx
  · cases hx; exact hlt
theorem NRow.take (h : NRow w a l) (m : Nat) : NRow w a (l.take m) := by
  rcases h with ⟨rfl, rfl⟩ | ⟨b, off, rfl, hlt, hc⟩
  · exact .inl ⟨rfl, by simp⟩
  · refine .inr ⟨b, off, rfl, hlt, fun i hi => ?_⟩
    have h1 : i < l.length ∧ i < m := by simp at hi; omega
    have h2 : (l.take m).getD i nil0 = l.getD i nil0 := by simp [List.getD, h1.2]
    rw [h2]
    exact hc i h1.1
theorem NRow.upd {S : Nat → Prop} (h : NRow w a l) (hu : Upd S w w') (hg : ∀ x, a = some x → ¬ S x.block) : NRow w' a l := by
  rcases h with h | ⟨b, off, rfl, hlt, hc⟩
  · exact .inl h
  · refine .inr ⟨b, off, rfl, Nat.lt_of_lt_of_le hlt hu.size, fun i hi => ?_⟩
    have he : ∀ o, w'.cell? ⟨b, o, none⟩ = w.cell? ⟨b, o, none⟩ := fun o => World.cell?_of_block (w := w) (hu.block b hlt (hg _ rfl))
    rw [he, he, he]
    exact hc i hi
end
end Go.Proofs.YtlbgdgobhiokpaaDoor

/- boundsOf, right, Check, behind, checkPlace, Next, Kid. -/
namespace Go.Proofs.YtlbgdgobhiokpaaDoor
open Go.RowKit
set_option linter.unusedVariables false

theorem results_cell_tmp_row {P : Program} {fn : Func} {p u : Tmp} {ty : TypeId} (h : fn.results = #[.cell p ty, .tmp u]) (tmps : Array Value) (w : World) (g : Nat) (t : TypeId) (cs : Array Value) (fr : Nat × Nat) (d : TypeDesc)
    (hp : tmps.getD p undef = .pointer (some ⟨g, 0, none⟩)) (hg : w.heap[g]? = some (.cells cs t fr))
    (hu : P.underlying ty = some d) (hd : (match d with | .struct _ | .array _ _ => true | _ => false) = true) (hi : (P.info? ty).map (·.size) = some cs.size) :
    (results fn tmps).run P w = .ok (.tuple #[.agg cs, tmps.getD u undef]) w := by
  have hp' : tmps[p]?.getD undef = .pointer (some ⟨g, 0, none⟩) := by simpa using hp
  rw [results_cell_tmp h]
  simp [hp', asAddr, Result.andThen, run_loadVar_row w g t ty cs fr d hg hu hd hi]
theorem results_tmp_cell_row {P : Program} {fn : Func} {p u : Tmp} {ty : TypeId} (h : fn.results = #[.tmp u, .cell p ty]) (tmps : Array Value) (w : World) (g : Nat) (t : TypeId) (cs : Array Value) (fr : Nat × Nat) (d : TypeDesc)
    (hp : tmps.getD p undef = .pointer (some ⟨g, 0, none⟩)) (hg : w.heap[g]? = some (.cells cs t fr))
    (hu : P.underlying ty = some d) (hd : (match d with | .struct _ | .array _ _ => true | _ => false) = true) (hi : (P.info? ty).map (·.size) = some cs.size) :
    (results fn tmps).run P w = .ok (.tuple #[tmps.getD u undef, .agg cs]) w := by
  have hp' : tmps[p]?.getD undef = .pointer (some ⟨g, 0, none⟩) := by simpa using hp
  simp only [results, h]
  simp [hp', asAddr, Result.andThen, run_loadVar_row w g t ty cs fr d hg hu hd hi]
theorem new_cells (w : World) (cs : Array Value) (t : TypeId) : (w.alloc (.cells cs t)).heap[w.heap.size]? = some (.cells cs t (0, 0)) := by
  have h := Blk.newA w cs t
  unfold Blk at h
  rwa [Array.toArray_toList] at h

def bnd (k : Int) : Value := .agg #[.int .u64 (mostN k), .int .i64 (leastK k), .int .i64 (mostK k)]
set_option maxRecDepth 100000 in
set_option maxHeartbeats 4000000 in
theorem bounds_any (k : Int) (w : World) : Calls Tryd.prog 44 #[.int .i64 k] w fun e w' => e = .returned (.tuple #[bnd k, .bool (isK k)]) ∧ Below w.heap.size w w' := by
  go_enter Tryd.func44, Tryd.ntmps44
  by_cases h1 : k = 1
  · subst h1; go_wp2; exact bodyPost_ret (results_cell_tmp_row rfl _ _ _ _ _ _ _ rfl (new_cells _ _ _) Tryd.underlying105 rfl (by kernel_rfl)) rfl ⟨rfl, (Below.refl _ _).alloc (Nat.le_refl _) _⟩
  by_cases h2 : k = 2
  · subst h2; go_wp2; exact bodyPost_ret (results_cell_tmp_row rfl _ _ _ _ _ _ _ rfl (new_cells _ _ _) Tryd.underlying105 rfl (by kernel_rfl)) rfl ⟨rfl, (Below.refl _ _).alloc (Nat.le_refl _) _⟩
  by_cases h3 : k = 3
  · subst h3; go_wp2; exact bodyPost_ret (results_cell_tmp_row rfl _ _ _ _ _ _ _ rfl (new_cells _ _ _) Tryd.underlying105 rfl (by kernel_rfl)) rfl ⟨rfl, (Below.refl _ _).alloc (Nat.le_refl _) _⟩
  by_cases h4 : k = 4
  · subst h4; go_wp2; exact bodyPost_ret (results_cell_tmp_row rfl _ _ _ _ _ _ _ rfl (new_cells _ _ _) Tryd.underlying105 rfl (by kernel_rfl)) rfl ⟨rfl, (Below.refl _ _).alloc (Nat.le_refl _) _⟩
  by_cases h5 : k = 5
  · subst h5; go_wp2; exact bodyPost_ret (results_cell_tmp_row rfl _ _ _ _ _ _ _ rfl (new_cells _ _ _) Tryd.underlying105 rfl (by kernel_rfl)) rfl ⟨rfl, (Below.refl _ _).alloc (Nat.le_refl _) _⟩
  by_cases h6 : k = 6
  · subst h6; go_wp2; exact bodyPost_ret (results_cell_tmp_row rfl _ _ _ _ _ _ _ rfl (new_cells _ _ _) Tryd.underlying105 rfl (by kernel_rfl)) rfl ⟨rfl, (Below.refl _ _).alloc (Nat.le_refl _) _⟩
  · have hk : isK k = false := by simp [isK]; omega
    have hb : bnd k = .agg #[.int .u64 0, .int .i64 0, .int .i64 0] := by simp [bnd, mostN, leastK, mostK, h1, h2, h3, h4, h5, h6]
    go_wp2
    exact bodyPost_ret (results_cell_tmp_row rfl _ _ _ _ _ _ _ rfl (new_cells _ _ _) Tryd.underlying105 rfl (by kernel_rfl)) rfl ⟨by rw [hb, hk]; rfl, (Below.refl _ _).alloc (Nat.le_refl _) _⟩
set_option maxRecDepth 100000 in
set_option maxHeartbeats 4000000 in
theorem right_any (x : Nd) (w : World) : Calls Tryd.prog 39 #[ndv x] w fun e w' => e = .returned (.bool (right x)) ∧ Below w.heap.size w w' := by
  obtain ⟨k, n, c⟩ := x
  unfold ndv
  go_enter Tryd.func39, Tryd.ntmps39
  go_wp2_with fail
  refine (bounds_any k _).mono ?_; rintro e w1 ⟨rfl, hB1⟩
  have hB : Below w.heap.size w w1 := ((Below.refl _ _).alloc (Nat.le_refl _) _).trans (hB1.mono (by simp))
  have K1 := (Blk.newA w #[.int .i64 k, .int .u64 n, .int .i64 c] 37).later hB1
  have c1 : ∀ o, (w1.alloc o).cell? ⟨w.heap.size, 1, none⟩ = some (.int .u64 n) := fun o => (K1.alloc o).cell 1
  have c2 : ∀ o, (w1.alloc o).cell? ⟨w.heap.size, 2, none⟩ = some (.int .i64 c) := fun o => (K1.alloc o).cell 2
  clear K1
  by_cases hk : isK k = true
  · have hk' : 1 ≤ k ∧ k ≤ 6 := by simpa [isK] using hk
    rw [hk]; unfold bnd
    by_cases hn : n ≤ mostN k
    · by_cases hl : leastK k ≤ c
      · by_cases hm : c ≤ mostK k
        · have hr : right (k, n, c) = true := (right_iff _).2 ⟨hk', hn, hl, hm⟩
          go_wp2
          go_ret
          exact ⟨by first | rfl | (rw [hr]; rfl) | (show Ending.returned (.bool (decide (c ≤ mostK k))) = _; simp [hm, hr]), hB.alloc (by have := hB.size; omega) _⟩
        · have hr : right (k, n, c) = false := by simp [right]; intros; omega
          go_wp2
          go_ret
          exact ⟨by first | rfl | (rw [hr]; rfl) | (show Ending.returned (.bool (decide (c ≤ mostK k))) = _; simp [hm, hr]), hB.alloc (by have := hB.size; omega) _⟩
      · have hr : right (k, n, c) = false := by simp [right]; intros; omega
        go_wp2
        go_ret
        exact ⟨by first | rfl | (rw [hr]; rfl) | (show Ending.returned (.bool (decide (c ≤ mostK k))) = _; simp [hm, hr]), hB.alloc (by have := hB.size; omega) _⟩
    · have hr : right (k, n, c) = false := by simp [right]; intros; omega
      go_wp2
      go_ret
      exact ⟨by first | rfl | (rw [hr]; rfl) | (show Ending.returned (.bool (decide (c ≤ mostK k))) = _; simp [hm, hr]), hB.alloc (by have := hB.size; omega) _⟩
  · have hk1 : isK k = false := by simpa using hk
    have hr : right (k, n, c) = false := by simp [isK] at hk1; simp [right]; intros; omega
    rw [hk1]
    unfold bnd
    go_wp2
    go_ret
    exact ⟨by first | rfl | (rw [hr]; rfl) | (show Ending.returned (.bool (decide (c ≤ mostK k))) = _; simp [hm, hr]), hB.alloc (by have := hB.size; omega) _⟩
end Go.Proofs.YtlbgdgobhiokpaaDoor

/- Check, behind, checkPlace, Next, Kid. -/
namespace Go.Proofs.YtlbgdgobhiokpaaDoor
open Go.RowKit
set_option linter.unusedVariables false

def fltv (p : Int × Int) : Value := .agg #[.int .i64 p.1, .int .i64 p.2]
theorem ret17 {R : Ending → World → Prop} {tmps : Array Value} {g : Nat} {x y : Value} {w : World} (hp : tmps.getD 2 undef = .pointer (some ⟨g, 0, none⟩)) (hK : Blk w g 29 [x, y]) (hR : R (.returned (.agg #[x, y])) w) :
    bodyPost Tryd.prog Tryd.f17 R Exit.ret ⟨tmps, []⟩ w :=
  bodyPost_ret (results_cell_row rfl _ _ _ _ #[x, y] _ _ hp hK Tryd.underlying29 rfl (by show _ = some 2; kernel_rfl)) rfl hR
set_option maxRecDepth 100000 in
set_option maxHeartbeats 4000000 in
theorem check_any (a : Option Addr) (len cap : Nat) (l : List Nd) (w : World) (hl : l.length = len) (hs : len ≤ 1000000) (hr : Hid (NRow w a l)) :
    Calls Tryd.prog 17 #[.slice a len cap] w fun e w' => e = .returned (fltv (chk 1 0 l)) ∧ Below w.heap.size w w' := by
  go_enter Tryd.func17, Tryd.ntmps17
  go_wp2_with fail
  go_loopw [3, 8] (fun m i wr => ∃ (M : Int) (k : Nat), k ≤ len ∧ i = .int .i64 k ∧ m = .int .i64 M ∧ 0 ≤ M ∧ M ≤ 1 + 1048576 * (k : Int) ∧ Hid (chk M k (l.drop k) = chk 1 0 l) ∧ Hid (Blk wr w.heap.size 29 [.int .i64 0, .int .i64 0]) ∧ Hid (Below w.heap.size w wr)) (fun _ i _ => len - (intOf i).toNat)
  case atStart => exact ⟨1, 0, Nat.zero_le _, rfl, rfl, by omega, by omega, rfl, Blk.newA w _ 29, (Below.refl _ _).alloc (Nat.le_refl _) _⟩
  case round =>
    obtain ⟨M, k, hk, rfl, rfl, hM0, hM1, HC, HK, HB⟩ := hrel
    by_cases hlt : k < len
    · obtain ⟨b, off, rfl, hb, hc⟩ := hr.out.open (by omega)
      obtain ⟨c0, c1, c2⟩ := hc k (by omega)
      have hlt' : (k : Int) < len := by omega
      have d0 := (HB.out.cell (p := ⟨b, off + k * 3, none⟩) hb).trans c0
      have d1 := (HB.out.cell (p := ⟨b, off + k * 3 + 1, none⟩) hb).trans c1
      have d2 := (HB.out.cell (p := ⟨b, off + k * 3 + 2, none⟩) hb).trans c2
      have hdrop : l.drop k = l.getD k nil0 :: l.drop (k + 1) := by
        rw [List.drop_eq_getElem_cons (by omega)]; simp [List.getD, List.getElem?_eq_getElem (show k < l.length by omega)]
      have HC1 : Hid (chk M k (l.getD k nil0 :: l.drop (k + 1)) = chk 1 0 l) := hdrop ▸ HC.out
      clear hdrop hc c0 c1 c2 HC
      generalize l.getD k nil0 = x at *
      obtain ⟨xk, xn, xc⟩ := x
      by_cases hM : M = 0
      · subst hM
        have e0 : ∀ o, (wr.alloc o).cell? ⟨w.heap.size, 0, none⟩ = some (.int .i64 0) := fun o => (HK.out.alloc o).cell 0
        have e1 : ∀ o, (wr.alloc o).cell? ⟨w.heap.size, 1, none⟩ = some (.int .i64 0) := fun o => (HK.out.alloc o).cell 1
        have z0 : ∀ o, (wr.alloc o).frozen? ⟨w.heap.size, 0, none⟩ = false := fun o => (HK.out.alloc o).frozen 0
        have z1 : ∀ o, (wr.alloc o).frozen? ⟨w.heap.size, 1, none⟩ = false := fun o => (HK.out.alloc o).frozen 1
        go_wp2
        exact ret17 rfl (((HK.out.alloc _).set 0 _).set 1 _) ⟨by have := HC1.out; rw [chk, if_pos (.inl rfl)] at this; rw [← this]; rfl, ((HB.out.alloc (by have := HB.out.size; omega) _).setCell (Nat.le_refl _) _).setCell (Nat.le_refl _) _⟩
      · have e2 : ∀ o, (wr.alloc o).cell? ⟨w.heap.size, 0, none⟩ = some (.int .i64 0) := fun o => (HK.out.alloc o).cell 0
        go_wp2_with fail
        refine (right_any (xk, xn, xc) _).mono ?_; rintro e w1 ⟨rfl, hB1⟩
        have HK1 := (HK.out.alloc (.cells #[.int .i64 xk, .int .u64 xn, .int .i64 xc] 37)).later hB1
        have e0 := HK1.cell 0; have e1 := HK1.cell 1; have z0 := HK1.frozen 0; have z1 := HK1.frozen 1
        simp at e0 e1
        have HX := (Blk.newA wr #[.int .i64 xk, .int .u64 xn, .int .i64 xc] 37).later hB1
        have f2 := HX.cell 2
        simp at f2
        have HB1 : Hid (Below w.heap.size w w1) := (HB.out.alloc (by have := HB.out.size; omega) _).trans (hB1.mono (by have := HB.out.size; simp; omega))
        clear hB1 HX d0 d1 d2
        by_cases hx : right (xk, xn, xc) = true
        · have HC2 : Hid (chk (M + (xc - 1)) (k + 1) (l.drop (k + 1)) = chk 1 0 l) := by
            have := HC1.out
            rw [chk, if_neg (by simp [hM, hx])] at this
            exact this
          have hxc := right_kids hx
          simp only at hxc
          have HK2 : Hid (Blk w1 w.heap.size 29 [.int .i64 0, .int .i64 0]) := HK1
          clear e0 e1 z0 z1 HC1 HK1 HK HB hr
          rw [hx]
          go_wp2
          go_roundw
          case rel => exact ⟨M + (xc - 1), k + 1, by omega, by go_num, by go_num, by omega, by omega, by simpa using HC2, HK2, HB1⟩
          case measure => simp [intOf]; omega
        · have hx' : right (xk, xn, xc) = false := by simpa using hx
          rw [hx']
          go_wp2
          exact ret17 rfl ((HK1.set 0 _).set 1 _) ⟨by have := HC1.out; rw [chk, if_pos (.inr hx')] at this; rw [← this]; rfl, (HB1.out.setCell (Nat.le_refl _) _).setCell (Nat.le_refl _) _⟩
    · obtain rfl : k = len := by omega
      have e0 := HK.out.cell 0; have e1 := HK.out.cell 1; have z0 := HK.out.frozen 0; have z1 := HK.out.frozen 1
      simp at e0 e1
      have HC1 := HC.out
      rw [List.drop_eq_nil_of_le (by omega), chk] at HC1
      by_cases hM : 0 < M
      · rw [if_pos hM] at HC1
        have HC2 : Hid _ := HC1
        clear HC1
        go_wp2
        exact ret17 rfl ((HK.out.set 0 _).set 1 _) ⟨by rw [← HC2.out]; rfl, (HB.out.setCell (Nat.le_refl _) _).setCell (Nat.le_refl _) _⟩
      · rw [if_neg hM] at HC1
        have HC2 : Hid _ := HC1
        clear HC1
        go_wp2
        exact ret17 rfl ((HK.out.set 0 _).set 1 _) ⟨by rw [← HC2.out]; rfl, (HB.out.setCell (Nat.le_refl _) _).setCell (Nat.le_refl _) _⟩

/-! ### Plain: so many values -/
theorem bh_zero (l : List Nd) : bh 0 l = 0 := by cases l <;> rfl
theorem bh_le : ∀ (l : List Nd) (m : Nat), bh m l ≤ l.length
  | [], 0 => Nat.le_refl _
  | [], _ + 1 => Nat.le_refl _
  | _ :: _, 0 => Nat.zero_le _
  | x :: l, m + 1 => by have := bh_le l (m + x.2.2.toNat); simp only [bh, List.length_cons]; omega
/-- All kids' numbers are 0 or more, and there are nodes enough for so many values. -/
def Enough : Nat → List Nd → Prop
  | 0, _ => True
  | _ + 1, [] => False
  | m + 1, x :: l => 0 ≤ x.2.2 ∧ x.2.2 ≤ 1048576 ∧ Enough (m + x.2.2.toNat) l
theorem Enough.mono : ∀ {l : List Nd} {m n : Nat}, Enough m l → n ≤ m → Enough n l
  | l, _, 0, _, _ => by cases l <;> exact trivial
  | [], m + 1, n + 1, h, _ => h.elim
  | x :: l, m + 1, n + 1, h, hn => ⟨h.1, h.2.1, h.2.2.mono (by omega)⟩
  | _, 0, n + 1, _, hn => by omega
/-- First some, then the others. -/
theorem bh_add : ∀ (l : List Nd) (m n : Nat), bh (m + n) l = bh m l + bh n (l.drop (bh m l))
  | l, 0, n => by simp [bh_zero]
  | [], m + 1, n => by rw [show m + 1 + n = (m + n) + 1 by omega]; simp [bh]; cases n <;> rfl
  | x :: l, m + 1, n => by
    rw [show m + 1 + n = (m + n) + 1 by omega]
    simp only [bh, List.drop_succ_cons]
    rw [show m + n + x.2.2.toNat = (m + x.2.2.toNat) + n by omega, bh_add l _ n]
    omega
theorem Enough.drop : ∀ {l : List Nd} {m n : Nat}, Enough (m + n) l → Enough n (l.drop (bh m l))
  | l, 0, n, h => by simpa [bh_zero] using h
  | [], m + 1, n, h => by rw [show m + 1 + n = (m + n) + 1 by omega] at h; exact h.elim
  | x :: l, m + 1, n, h => by
    rw [show m + 1 + n = (m + n) + 1 by omega] at h
    simp only [bh, List.drop_succ_cons]
    have := h.2.2
    rw [show m + n + x.2.2.toNat = (m + x.2.2.toNat) + n by omega] at this
    exact this.drop
theorem chk_err : ∀ (l : List Nd) (m a : Int), (chk m a l).1 = 0 ∨ (chk m a l).1 = 40
  | [], m, a => by unfold chk; split <;> simp
  | x :: l, m, a => by
    unfold chk
    split
    · simp
    · exact chk_err l _ _
/-- A list that Check takes: from each place on there are just the nodes that are wanted. -/
theorem chk_enough : ∀ (l : List Nd) (m : Nat) (a : Int), (chk m a l).1 = 0 → Enough m l ∧ bh m l = l.length ∧ ∀ x ∈ l, right x = true
  | [], m, a, h => by
    unfold chk at h
    split at h
    · simp at h
    · obtain rfl : m = 0 := by omega
      exact ⟨trivial, rfl, by simp⟩
  | x :: l, m, a, h => by
    unfold chk at h
    split at h
    · simp at h
    · rename_i hn
      rw [not_or] at hn
      have hx : right x = true := by simpa using hn.2
      have hc := right_kids hx
      obtain ⟨k, rfl⟩ : ∃ k, m = k + 1 := ⟨m - 1, by omega⟩
      have hm : ((k + 1 : Nat) : Int) + (x.2.2 - 1) = ((k + x.2.2.toNat : Nat) : Int) := by omega
      rw [hm] at h
      obtain ⟨h1, h2, h3⟩ := chk_enough l _ _ h
      exact ⟨⟨hc.1, hc.2, h1⟩, by simp [bh, h2], by simpa [hx] using h3⟩
/-- .. and so from each of its places on. -/
theorem chk_at : ∀ (l : List Nd) (m : Nat) (a : Int) (i : Nat), (chk m a l).1 = 0 → i < l.length → Enough 1 (l.drop i)
  | [], _, _, i, _, hi => by simp at hi
  | x :: l, m, a, 0, h, _ => by
    have h1 := (chk_enough _ _ _ h)
    cases m with
    | zero => simp [bh] at h1
    | succ m => exact h1.1.mono (by omega)
  | x :: l, m, a, i + 1, h, hi => by
    unfold chk at h
    split at h
    · simp at h
    · rename_i hn
      rw [not_or] at hn
      have hc := right_kids (x := x) (by simpa using hn.2)
      obtain ⟨k, rfl⟩ : ∃ k, m = k + 1 := ⟨m - 1, by omega⟩
      rw [show ((k + 1 : Nat) : Int) + (x.2.2 - 1) = ((k + x.2.2.toNat : Nat) : Int) by omega] at h
      simpa using chk_at l _ _ i h (by simpa using hi)
end Go.Proofs.YtlbgdgobhiokpaaDoor

/- behind, checkPlace, Next, Kid. -/
namespace Go.Proofs.YtlbgdgobhiokpaaDoor
open Go.RowKit
set_option linter.unusedVariables false

theorem drop_at (l : List Nd) (k : Nat) (h : k < l.length) : l.drop k = l.getD k nil0 :: l.drop (k + 1) := by
  rw [List.drop_eq_getElem_cons h]; simp [List.getD, List.getElem?_eq_getElem h]
set_option maxRecDepth 100000 in
set_option maxHeartbeats 4000000 in
theorem behind_any (a : Option Addr) (len cap p v : Nat) (l : List Nd) (w : World) (hl : l.length = len) (hs : len ≤ 1000000) (hp : p ≤ len) (hv : v ≤ 1048576) (hr : Hid (NRow w a l)) (he : Hid (Enough v (l.drop p))) :
    Calls Tryd.prog 41 #[.slice a len cap, .int .i64 p, .int .i64 v] w fun e w' => e = .returned (.int .i64 ((p + bh v (l.drop p) : Nat) : Int)) ∧ w = w' := by
  go_enter Tryd.func41, Tryd.ntmps41
  go_wp2_with fail
  go_loopw [1, 2] (fun i m wr => ∃ (q u : Nat), q ≤ len ∧ p ≤ q ∧ i = .int .i64 q ∧ m = .int .i64 u ∧ u ≤ 1048576 * (q + 1) ∧ Hid (Enough u (l.drop q)) ∧ Hid (q + bh u (l.drop q) = p + bh v (l.drop p)) ∧ w = wr) (fun i _ _ => len - (intOf i).toNat)
  case atStart => exact ⟨p, v, hp, Nat.le_refl _, rfl, rfl, by omega, he, rfl, rfl⟩
  case round =>
    clear he
    obtain ⟨q, u, hq, hpq, rfl, rfl, hu, HE, HQ, rfl⟩ := hrel
    cases u with
    | zero =>
      go_wp2
      go_ret
      refine ⟨?_, rfl⟩
      have := HQ.out
      rw [bh_zero, Nat.add_zero] at this
      exact ret_int (congrArg Nat.cast this)
    | succ u =>
      have hlt : q < len := by
        rcases Nat.lt_or_ge q len with h | h
        · exact h
        · have := HE.out
          rw [List.drop_eq_nil_of_le (by omega)] at this
          exact this.elim
      obtain ⟨b, off, rfl, hb, hc⟩ := hr.out.open (by omega)
      obtain ⟨-, -, c2⟩ := hc q (by omega)
      have HE1 := HE.out
      have HQ1 := HQ.out
      rw [drop_at l q (by omega)] at HE1 HQ1
      obtain ⟨x0, x1, HE2⟩ := HE1
      rw [bh] at HQ1
      generalize (l.getD q nil0).2.2 = xc at *
      obtain ⟨xc, rfl⟩ := Int.eq_ofNat_of_zero_le x0
      simp only [Int.toNat_natCast] at *
      have HE3 : Hid (Enough (u + xc) (l.drop (q + 1))) := HE2
      have HQ3 : Hid (q + 1 + bh (u + xc) (l.drop (q + 1)) = p + bh v (l.drop p)) := by show _ = _; omega
      clear HE2 HQ1 hc HE HQ
      go_wp2
      go_roundw
      case rel => exact ⟨q + 1, u + xc, by omega, by omega, by go_num, by go_num, by omega, HE3, HQ3, trivial⟩
      case measure => simp [intOf]; omega
/-- Check's error, or that of the place. -/
def place (l : List Nd) (p : Int) : Int := if (chk 1 0 l).1 = 0 then (if p < 0 ∨ (l.length : Int) ≤ p then 3 else 0) else 40
set_option maxRecDepth 100000 in
set_option maxHeartbeats 4000000 in
theorem place_any (a : Option Addr) (len cap : Nat) (p : Int) (l : List Nd) (w : World) (hl : l.length = len) (hs : len ≤ 1000000) (hr : Hid (NRow w a l)) :
    Calls Tryd.prog 40 #[.slice a len cap, .int .i64 p] w fun e w' => e = .returned (.int .i64 (place l p)) ∧ Below w.heap.size w w' := by
  go_enter Tryd.func40, Tryd.ntmps40
  go_wp2_with fail
  refine (check_any a len cap l w hl hs hr).mono ?_; rintro e w1 ⟨rfl, hB1⟩
  have hB : Below w.heap.size w (w1.alloc (.cells #[.int .i64 (chk 1 0 l).1, .int .i64 (chk 1 0 l).2] 29)) := hB1.alloc (hB1.size) _
  have HP : Hid (place l p = if (chk 1 0 l).1 = 0 then (if p < 0 ∨ (len : Int) ≤ p then 3 else 0) else 40) := by subst hl; rfl
  unfold fltv
  rcases chk_err l 1 0 with h | h
  · rw [h] at HP hB ⊢
    simp only [if_true] at HP
    by_cases h1 : p < 0
    · rw [if_pos (.inl h1)] at HP
      go_wp2
      go_ret
      exact ⟨ret_int HP.out.symm, hB⟩
    · by_cases h2 : (len : Int) ≤ p
      · rw [if_pos (.inr h2)] at HP
        go_wp2
        go_ret
        exact ⟨ret_int HP.out.symm, hB⟩
      · rw [if_neg (by omega)] at HP
        go_wp2
        go_ret
        exact ⟨ret_int HP.out.symm, hB⟩
  · rw [h] at HP hB ⊢
    rw [if_neg (by omega)] at HP
    go_wp2
    go_ret
    exact ⟨ret_int HP.out.symm, hB⟩
theorem place_ok {l : List Nd} {p : Int} (h : place l p = 0) : (chk 1 0 l).1 = 0 ∧ 0 ≤ p ∧ p < l.length := by
  unfold place at h
  split at h
  · split at h
    · omega
    · exact ⟨by assumption, by omega, by omega⟩
  · omega
def nextR (l : List Nd) (p : Int) : Int × Int := if place l p = 0 then (p + bh 1 (l.drop p.toNat), 0) else (0, place l p)
def pairv (x : Int × Int) : Value := .tuple #[.int .i64 x.1, .int .i64 x.2]
theorem ret_pair {a b : Int} {x : Int × Int} (h : x = (a, b)) : Ending.returned (.tuple #[.int .i64 a, .int .i64 b]) = .returned (pairv x) := by subst h; rfl
set_option maxRecDepth 100000 in
set_option maxHeartbeats 4000000 in
theorem next_any (a : Option Addr) (len cap : Nat) (p : Int) (l : List Nd) (w : World) (hl : l.length = len) (hs : len ≤ 1000000) (hr : Hid (NRow w a l)) :
    Calls Tryd.prog 21 #[.slice a len cap, .int .i64 p] w fun e w' => e = .returned (pairv (nextR l p)) ∧ Below w.heap.size w w' := by
  go_enter Tryd.func21, Tryd.ntmps21
  go_wp2_with fail
  refine (place_any a len cap p l w hl hs hr).mono ?_; rintro e w1 ⟨rfl, hB1⟩
  by_cases h : place l p = 0
  · obtain ⟨h0, h1, h2⟩ := place_ok h
    obtain ⟨q, rfl⟩ := Int.eq_ofNat_of_zero_le h1
    rw [h]
    go_wp2_with fail
    refine (behind_any a len cap q 1 l w1 hl hs (by omega) (by omega) (hr.out.later hB1) (chk_at l 1 0 q h0 (by omega))).mono ?_; rintro e w2 ⟨rfl, rfl⟩
    go_wp2
    go_ret2
    exact ⟨ret_pair (by rw [nextR, if_pos h]; simp), hB1⟩
  · go_wp2
    go_ret2
    exact ⟨ret_pair (by rw [nextR, if_neg h]), hB1⟩
def kidR (l : List Nd) (p k : Int) : Int × Int := if place l p = 0 then (if k < 0 ∨ (l.getD p.toNat nil0).2.2 ≤ k then (0, 3) else (p + 1 + bh k.toNat (l.drop (p.toNat + 1)), 0)) else (0, place l p)
set_option maxRecDepth 100000 in
set_option maxHeartbeats 4000000 in
theorem kid_any (a : Option Addr) (len cap : Nat) (p k : Int) (l : List Nd) (w : World) (hl : l.length = len) (hs : len ≤ 1000000) (hr : Hid (NRow w a l)) :
    Calls Tryd.prog 20 #[.slice a len cap, .int .i64 p, .int .i64 k] w fun e w' => e = .returned (pairv (kidR l p k)) ∧ Below w.heap.size w w' := by
  go_enter Tryd.func20, Tryd.ntmps20
  go_wp2_with fail
  refine (place_any a len cap p l w hl hs hr).mono ?_; rintro e w1 ⟨rfl, hB1⟩
  by_cases h : place l p = 0
  · obtain ⟨h0, h1, h2⟩ := place_ok h
    obtain ⟨q, rfl⟩ := Int.eq_ofNat_of_zero_le h1
    have hr1 : Hid (NRow w1 a l) := hr.out.later hB1
    have HE : Hid (Enough 1 (l.drop q)) := chk_at l 1 0 q h0 (by omega)
    rw [h]
    have HP : Hid (kidR l (q : Int) k = if k < 0 ∨ (l.getD q nil0).2.2 ≤ k then (0, 3) else ((q : Int) + 1 + bh k.toNat (l.drop (q + 1)), 0)) := by show _ = _; rw [kidR, if_pos h]; rfl
    obtain ⟨b, off, rfl, hb, hc⟩ := hr1.out.open (by omega)
    obtain ⟨-, -, c2⟩ := hc q (by omega)
    have HE1 := HE.out
    rw [drop_at l q (by omega)] at HE1
    obtain ⟨x0, x1, HE2⟩ := HE1
    clear hc HE
    generalize (l.getD q nil0).2.2 = xc at *
    have hq : (q : Int) < len := by omega
    by_cases h3 : k < 0
    · rw [if_pos (.inl h3)] at HP
      go_wp2
      go_ret2
      exact ⟨ret_pair HP.out, hB1⟩
    · by_cases h4 : xc ≤ k
      · rw [if_pos (.inr h4)] at HP
        go_wp2
        go_ret2
        exact ⟨ret_pair HP.out, hB1⟩
      · rw [if_neg (by omega)] at HP
        obtain ⟨j, rfl⟩ := Int.eq_ofNat_of_zero_le (show 0 ≤ k by omega)
        have HE3 : Hid (Enough j (l.drop (q + 1))) := HE2.mono (by omega)
        clear HE2
        go_wp2_with fail
        refine (behind_any _ len cap (q + 1) j l w1 hl hs (by omega) (by omega) hr1 HE3).mono ?_; rintro e w2 ⟨rfl, rfl⟩
        go_wp2
        go_ret2
        exact ⟨ret_pair (HP.out.trans (by simp; try omega)), hB1⟩
  · go_wp2
    go_ret2
    exact ⟨ret_pair (by rw [kidR, if_neg h]), hB1⟩
end Go.Proofs.YtlbgdgobhiokpaaDoor

/- Path, plain: the open nodes, the innermost first: which kid the walk is in, how many come behind it. -/
namespace Go.Proofs.YtlbgdgobhiokpaaDoor
open Go.RowKit
set_option linter.unusedVariables false

abbrev Stk := List (Int × Int)
def nextUp : Stk → Stk
  | [] => []
  | (k, f) :: T => if f = 0 then nextUp T else (k + 1, f - 1) :: T
def wstep (S : Stk) (x : Nd) : Stk := if 0 < x.2.2 then (0, x.2.2 - 1) :: S else nextUp S
def way : List Nd → Stk → Stk
  | [], S => S
  | x :: l, S => way l (wstep S x)
def sumL : Stk → Int
  | [] => 0
  | (_, f) :: T => f + sumL T
theorem way_snoc : ∀ (l : List Nd) (x : Nd) (S : Stk), way (l ++ [x]) S = wstep (way l S) x
  | [], x, S => rfl
  | y :: l, x, S => way_snoc l x _
theorem nextUp_spec : ∀ (S : Stk), (∀ e ∈ S, 0 ≤ e.2) → 0 < sumL S → ∃ Z k f T, S = Z ++ (k, f) :: T ∧ (∀ e ∈ Z, e.2 = 0) ∧ 0 < f ∧ nextUp S = (k + 1, f - 1) :: T ∧ sumL (nextUp S) = sumL S - 1
  | [], _, h => by simp [sumL] at h
  | (k, f) :: T, hS, h => by
    have h0 : 0 ≤ f := hS (k, f) (by simp)
    by_cases hf : f = 0
    · subst hf
      obtain ⟨Z, k', f', T', h1, h2, h3, h4, h5⟩ := nextUp_spec T (fun e he => hS e (by simp [he])) (by simpa [sumL] using h)
      refine ⟨(k, 0) :: Z, k', f', T', by simp [h1], by simpa using h2, h3, by simpa [nextUp] using h4, by simpa [nextUp, sumL] using h5⟩
    · refine ⟨[], k, f, T, rfl, by simp, by omega, by simp [nextUp, hf], by simp [nextUp, hf, sumL]; omega⟩
/-- The walk's state at a place of a list that Check takes. -/
structure WOK (l : List Nd) (k : Nat) (S : Stk) : Prop where
  pos : ∀ e ∈ S, 0 ≤ e.2
  ok : (chk (1 + sumL S) k (l.drop k)).1 = 0
  len : S.length ≤ k
  bd : ∀ e ∈ S, 0 ≤ e.1 ∧ e.1 + e.2 < 1048576
theorem WOK.begin {l : List Nd} (h : (chk 1 0 l).1 = 0) : WOK l 0 [] := ⟨by simp, by simpa [sumL] using h, Nat.le_refl _, by simp⟩
theorem sumL_pos : ∀ (S : Stk), (∀ e ∈ S, 0 ≤ e.2) → 0 ≤ sumL S
  | [], _ => by simp [sumL]
  | (k, f) :: T, h => by
    have := sumL_pos T (fun e he => h e (by simp [he]))
    have h0 : 0 ≤ f := h (k, f) (by simp)
    simp only [sumL]
    omega
theorem nextUp_len : ∀ (S : Stk), (nextUp S).length ≤ S.length
  | [] => Nat.le_refl _
  | (k, f) :: T => by
    unfold nextUp
    split
    · exact Nat.le_trans (nextUp_len T) (by simp)
    · simp
theorem WOK.step {l : List Nd} {k : Nat} {S : Stk} (h : WOK l k S) (hk : k + 1 < l.length) :
    WOK l (k + 1) (wstep S (l.getD k nil0)) ∧ 0 ≤ (l.getD k nil0).2.2 ∧ (l.getD k nil0).2.2 ≤ 1048576 ∧ ((l.getD k nil0).2.2 = 0 → ∃ Z j f T, S = Z ++ (j, f) :: T ∧ (∀ e ∈ Z, e.2 = 0) ∧ 0 < f ∧ wstep S (l.getD k nil0) = (j + 1, f - 1) :: T) := by
  have h1 := h.ok
  rw [drop_at l k (by omega), chk] at h1
  generalize l.getD k nil0 = x at *
  split at h1
  · simp at h1
  · rename_i hn
    rw [not_or] at hn
    have hx : right x = true := by simpa using hn.2
    have hc := right_kids hx
    refine ⟨?_, hc.1, hc.2, ?_⟩
    · by_cases h0 : 0 < x.2.2
      · refine ⟨?_, ?_, by simp [wstep, h0]; exact h.len, ?_⟩
        · simp only [wstep, if_pos h0, List.mem_cons]
          rintro e (rfl | he)
          · simp; omega
          · exact h.pos e he
        · rw [wstep, if_pos h0, sumL, show (1 : Int) + (x.2.2 - 1 + sumL S) = 1 + sumL S + (x.2.2 - 1) by omega]
          exact_mod_cast h1
        · simp only [wstep, if_pos h0, List.mem_cons]
          rintro e (rfl | he)
          · simp; omega
          · exact h.bd e he
      · have hx0 : x.2.2 = 0 := by omega
        rw [hx0, show (1 : Int) + sumL S + (0 - 1) = sumL S by omega] at h1
        have hpos : 0 < sumL S := by
          have := sumL_pos S h.pos
          rcases Int.lt_or_eq_of_le this with hh | hh
          · exact hh
          · rw [← hh, drop_at l (k + 1) hk, chk, if_pos (.inl rfl)] at h1
            simp at h1
        obtain ⟨Z, j, f, T, e1, e2, e3, e4, e5⟩ := nextUp_spec S h.pos hpos
        refine ⟨?_, ?_, ?_, ?_⟩
        · rw [wstep, if_neg h0, e4]
          intro e he
          rcases List.mem_cons.1 he with rfl | he
          · simp; omega
          · exact h.pos e (by rw [e1]; simp [he])
        · rw [wstep, if_neg h0, e5, show (1 : Int) + (sumL S - 1) = sumL S by omega]
          exact_mod_cast h1
        · rw [wstep, if_neg h0]
          exact Nat.le_trans (nextUp_len S) (Nat.le_trans h.len (by omega))
        · rw [wstep, if_neg h0, e4]
          intro e he
          rcases List.mem_cons.1 he with rfl | he
          · have := h.bd (j, f) (by rw [e1]; simp)
            simp at this ⊢; omega
          · exact h.bd e (by rw [e1]; simp [he])
    · intro hx0
      rw [hx0, show (1 : Int) + sumL S + (0 - 1) = sumL S by omega] at h1
      have hpos : 0 < sumL S := by
        have := sumL_pos S h.pos
        rcases Int.lt_or_eq_of_le this with hh | hh
        · exact hh
        · rw [← hh, drop_at l (k + 1) hk, chk, if_pos (.inl rfl)] at h1
          simp at h1
      obtain ⟨Z, j, f, T, e1, e2, e3, e4, e5⟩ := nextUp_spec S h.pos hpos
      exact ⟨Z, j, f, T, e1, e2, e3, by rw [wstep, if_neg (by omega)]; exact e4⟩
def pathL (S : Stk) : List Int := (S.map Prod.fst).reverse
def leftL (S : Stk) : List Int := (S.map Prod.snd).reverse
def pathR (l : List Nd) (p : Int) : List Int := if place l p = 0 then pathL (way (l.take p.toNat) []) else []
end Go.Proofs.YtlbgdgobhiokpaaDoor

/- Path. -/
namespace Go.Proofs.YtlbgdgobhiokpaaDoor
open Go.RowKit
set_option linter.unusedVariables false

theorem E43 : Elem Tryd.prog 43 3 .i64 8 := ⟨Tryd.underlying43, Tryd.underlying3, by kernel_rfl⟩
/-- Two rows of numbers, apart from one another: which kid, how many behind it. -/
structure W2 (B : Nat) (w : World) (vp vf : Value) (S : Stk) : Prop where
  p : w.ownsRow B 3 1 vp S.length (cellsL .i64 (pathL S))
  f : w.ownsRow B 3 1 vf S.length (cellsL .i64 (leftL S))
  sep : ∀ g, vp.ownBlock = some g → vf.ownBlock = some g → False
section
variable {B : Nat} {w w' : World} {vp vf : Value} {S : Stk}
theorem W2.later (h : W2 B w vp vf S) (hB : Below w.heap.size w w') : W2 B w' vp vf S := by
  have hu : Upd (fun _ => False) w w' := Upd.of_below hB
  exact ⟨owns_upd h.p hu (fun _ _ h => h), owns_upd h.f hu (fun _ _ h => h), h.sep⟩
theorem pathL_cons (k c : Int) (S : Stk) : pathL ((k, c) :: S) = pathL S ++ [k] := by simp [pathL]
theorem leftL_cons (k c : Int) (S : Stk) : leftL ((k, c) :: S) = leftL S ++ [c] := by simp [leftL]
theorem W2.push (h : W2 B w vp vf S) (c : Int) (hn : S.length ≤ 1000000) (hB : B ≤ w.heap.size) :
    ∃ gp cp w1 gf cf w2, (Builtin.append_ #[43, 43] 43 #[vp, .slice (some ⟨w.heap.size, 0, none⟩) 1 1]).run Tryd.prog (w.alloc (.cells #[.int .i64 0] 3)) = .ok (.slice (some ⟨gp, 0, none⟩) (S.length + 1) cp) w1 ∧
      (Builtin.append_ #[43, 43] 43 #[vf, .slice (some ⟨w1.heap.size, 0, none⟩) 1 1]).run Tryd.prog (w1.alloc (.cells #[.int .i64 c] 3)) = .ok (.slice (some ⟨gf, 0, none⟩) (S.length + 1) cf) w2 ∧
      W2 B w2 (.slice (some ⟨gp, 0, none⟩) (S.length + 1) cp) (.slice (some ⟨gf, 0, none⟩) (S.length + 1) cf) ((0, c) :: S) ∧ Below B w w1 ∧ Below B w w2 ∧ ∀ q t xs, t ≠ 3 → Blk w q t xs → Blk w1 q t xs := by
  obtain ⟨gp, cp, w1, r1, o1, u1, l1⟩ := run_push E43 w 43 B vp S.length (pathL S) h.p 0 (by unfold maxLen; omega) (by omega) hB
  have hf1 : w1.ownsRow B 3 1 vf S.length (cellsL .i64 (leftL S)) := owns_upd h.f u1 (fun k hk hp => h.sep k hp hk)
  have hs1 : w.heap.size ≤ w1.heap.size := u1.size
  obtain ⟨gf, cf, w2, r2, o2, u2, l2⟩ := run_push E43 w1 43 B vf S.length (leftL S) hf1 c (by unfold maxLen; omega) (by omega) (by omega)
  have bp : ∀ k, vp.ownBlock = some k → B ≤ k ∧ k < w.heap.size := fun k hk => h.p.lt k hk
  have bf : ∀ k, vf.ownBlock = some k → B ≤ k ∧ k < w.heap.size := fun k hk => h.f.lt k hk
  have hne : gp ≠ gf := by
    have hg1 := (o1.lt gp rfl).2
    rintro rfl
    rcases l1 with l1 | l1 <;> rcases l2 with l2 | l2
    · exact h.sep _ l1 l2
    · have := (bp _ l1).2; omega
    · have := (bf _ l2).2; omega
    · omega
  refine ⟨gp, cp, w1, gf, cf, w2, r1, r2, ⟨?_, ?_, ?_⟩, u1.below B hB (fun k hk => (bp k hk).1), ?_, ?_⟩
  · rw [pathL_cons]
    exact owns_upd o1 u2 (fun k hk hv => by
      have hk' : gp = k := by simpa [Value.ownBlock] using hk
      subst hk'
      rcases l1 with l1 | l1
      · exact h.sep _ l1 hv
      · have := (bf _ hv).2; omega)
  · rw [leftL_cons]; exact o2
  · intro g hg hg2
    have e1 : gp = g := by simpa [Value.ownBlock] using hg
    have e2 : gf = g := by simpa [Value.ownBlock] using hg2
    exact hne (e1.trans e2.symm)
  · exact (u1.below B hB (fun k hk => (bp k hk).1)).trans (u2.below B (by omega) (fun k hk => (bf k hk).1))
  · intro q t xs ht hq
    refine hq.upd u1 fun hk => ?_
    rcases h.p.2 with ⟨e, _⟩ | ⟨g, cap, cur, e, _, hg, _⟩
    · rw [e] at hk; simp [Value.ownBlock] at hk
    · rw [e] at hk
      have e1 : g = q := by simpa [Value.ownBlock] using hk
      subst e1
      unfold Blk at hq
      rw [hg] at hq
      injection hq with hq
      injection hq with _ hq
      exact ht hq.symm
theorem own_is {g n c k : Nat} (h : (Value.slice (some ⟨g, 0, none⟩) n c).ownBlock = some k) : g = k := by simpa [Value.ownBlock] using h
/-- Cut back to so many, and the last ones set. -/
theorem own_back {e : TypeId} {v : Value} {n : Nat} {xs : List Value} (h : w.ownsRow B e 1 v n xs) (m : Nat) (hm : m < n) (u : Value) :
    ∃ g cap, v = .slice (some ⟨g, 0, none⟩) n cap ∧ B ≤ g ∧ n ≤ cap ∧ cap ≤ maxLen ∧ (∀ i, w.frozen? ⟨g, i, none⟩ = false) ∧ (∀ i, i < n → w.cell? ⟨g, i, none⟩ = xs[i]?) ∧ (w.setCell ⟨g, m, none⟩ u).ownsRow B e 1 (.slice (some ⟨g, 0, none⟩) (m + 1) cap) (m + 1) (xs.take m ++ [u]) := by
  obtain ⟨g, cap, ys, rfl, hb, hnc, hcm, hlen, htake, hK⟩ := own_blk h (by omega)
  refine ⟨g, cap, rfl, hb, hnc, hcm, fun i => hK.frozen i, fun i hi => ?_, ?_⟩
  · rw [hK.cell, ← htake, List.getElem?_take, if_pos hi]
  · have h2 := (hK.set m u).owns B (m + 1) cap hb (by simp [hlen]) (by omega) hcm
    have e1 : (ys.set m u).take (m + 1) = xs.take m ++ [u] := by
      rw [← htake, List.take_take, Nat.min_eq_left (by omega), List.take_add_one, List.take_set_of_le (Nat.le_refl _)]
      simp [List.getElem?_set, hlen]
      omega
    rw [e1] at h2
    exact h2
theorem leftL_cut (Z T : Stk) (j f : Int) : leftL (Z ++ (j, f) :: T) = leftL T ++ [f] ++ leftL Z := by simp [leftL]
theorem pathL_cut (Z T : Stk) (j f : Int) : pathL (Z ++ (j, f) :: T) = pathL T ++ [j] ++ pathL Z := by simp [pathL]
theorem leftL_len (T : Stk) : (leftL T).length = T.length := by simp [leftL]
theorem pathL_len (T : Stk) : (pathL T).length = T.length := by simp [pathL]
theorem left_zero (Z T : Stk) (j f : Int) (hZ : ∀ e ∈ Z, e.2 = 0) (i : Nat) (hi : T.length < i) (hn : i < Z.length + T.length + 1) : (leftL (Z ++ (j, f) :: T)).getD i 0 = 0 := by
  rw [leftL_cut, List.getD, List.getElem?_append_right (by simp [leftL_len]; omega)]
  simp only [List.length_append, leftL_len, List.length_singleton]
  have hlt : i - (T.length + 1) < (leftL Z).length := by rw [leftL_len]; omega
  rw [List.getElem?_eq_getElem hlt]
  have hm : (leftL Z)[i - (T.length + 1)] ∈ leftL Z := List.getElem_mem hlt
  simp only [leftL, List.mem_reverse, List.mem_map] at hm
  obtain ⟨e, he, h1⟩ := hm
  rw [Option.getD_some]
  exact h1.symm.trans (hZ e he)
theorem left_at (Z T : Stk) (j f : Int) : (leftL (Z ++ (j, f) :: T)).getD T.length 0 = f := by
  rw [leftL_cut, List.getD, List.getElem?_append_left (by simp [leftL_len]), List.getElem?_append_right (by simp [leftL_len])]
  simp [leftL_len]
theorem path_at (Z T : Stk) (j f : Int) : (pathL (Z ++ (j, f) :: T)).getD T.length 0 = j := by
  rw [pathL_cut, List.getD, List.getElem?_append_left (by simp [pathL_len]), List.getElem?_append_right (by simp [pathL_len])]
  simp [pathL_len]
theorem W2.back {Z T : Stk} {j f : Int} (h : W2 B w vp vf (Z ++ (j, f) :: T)) :
    ∃ gp cp gf cf, vp = .slice (some ⟨gp, 0, none⟩) (Z.length + T.length + 1) cp ∧ vf = .slice (some ⟨gf, 0, none⟩) (Z.length + T.length + 1) cf ∧ B ≤ gp ∧ B ≤ gf ∧ gp ≠ gf ∧ Z.length + T.length + 1 ≤ cp ∧ Z.length + T.length + 1 ≤ cf ∧ cp ≤ maxLen ∧ cf ≤ maxLen ∧
      w.frozen? ⟨gp, T.length, none⟩ = false ∧ w.frozen? ⟨gf, T.length, none⟩ = false ∧ w.cell? ⟨gp, T.length, none⟩ = some (.int .i64 j) ∧
      (∀ i, i < Z.length + T.length + 1 → w.cell? ⟨gf, i, none⟩ = some (.int .i64 ((leftL (Z ++ (j, f) :: T)).getD i 0))) ∧
      W2 B ((w.setCell ⟨gp, T.length, none⟩ (.int .i64 (j + 1))).setCell ⟨gf, T.length, none⟩ (.int .i64 (f - 1))) (.slice (some ⟨gp, 0, none⟩) (T.length + 1) cp) (.slice (some ⟨gf, 0, none⟩) (T.length + 1) cf) ((j + 1, f - 1) :: T) := by
  have hlen : (Z ++ (j, f) :: T).length = Z.length + T.length + 1 := by simp; omega
  have hp := h.p
  have hf := h.f
  have hsep := h.sep
  rw [hlen] at hp hf
  obtain ⟨gp, cp, rfl, bp, np, mp, zp, kp, op⟩ := own_back hp T.length (by omega) (.int .i64 (j + 1))
  obtain ⟨gf, cf, rfl, bf, nf, mf, zf, kf, -⟩ := own_back hf T.length (by omega) (.int .i64 (f - 1))
  have hne : gp ≠ gf := fun e => hsep gp rfl (by rw [e]; rfl)
  have hf2 : (w.setCell ⟨gp, T.length, none⟩ (.int .i64 (j + 1))).ownsRow B 3 1 (.slice (some ⟨gf, 0, none⟩) (Z.length + T.length + 1) cf) (Z.length + T.length + 1) (cellsL .i64 (leftL (Z ++ (j, f) :: T))) :=
    owns_upd hf ((Upd.refl (fun k => k = gp) w).set _ _ (.inl rfl)) (fun k hk e => hne ((own_is hk).trans e).symm)
  obtain ⟨gf', cf', e1, -, -, -, -, -, o2⟩ := own_back hf2 T.length (by omega) (.int .i64 (f - 1))
  have e2 : gf = gf' ∧ cf = cf' := by simpa using e1
  obtain ⟨rfl, rfl⟩ := e2
  refine ⟨gp, cp, gf, cf, rfl, rfl, bp, bf, hne, np, nf, mp, mf, zp _, zf _, ?_, ?_, ?_, ?_, ?_⟩
  · rw [kp _ (by omega), cellsL_at _ _ _ (by rw [pathL_len, hlen]; omega), path_at]
  · intro i hi
    rw [kf i hi, cellsL_at _ _ _ (by rw [leftL_len, hlen]; exact hi)]
  · have e3 : cellsL .i64 (pathL ((j + 1, f - 1) :: T)) = (cellsL .i64 (pathL (Z ++ (j, f) :: T))).take T.length ++ [.int .i64 (j + 1)] := by
      rw [pathL_cons, cellsL_append, pathL_cut]
      congr 1
      rw [List.append_assoc, cellsL_append, List.take_left' (by rw [cellsL_length, pathL_len])]
    rw [e3]
    exact owns_upd op ((Upd.refl (fun k => k = gf) _).set _ _ (.inl rfl)) (fun k hk e => hne ((own_is hk).trans e))
  · have e3 : cellsL .i64 (leftL ((j + 1, f - 1) :: T)) = (cellsL .i64 (leftL (Z ++ (j, f) :: T))).take T.length ++ [.int .i64 (f - 1)] := by
      rw [leftL_cons, cellsL_append, leftL_cut]
      congr 1
      rw [List.append_assoc, cellsL_append, List.take_left' (by rw [cellsL_length, leftL_len])]
    rw [e3]
    exact o2
  · intro g h1 h2
    have e1 : gp = g := by simpa [Value.ownBlock] using h1
    have e2 : gf = g := by simpa [Value.ownBlock] using h2
    exact hne (e1.trans e2.symm)
end
end Go.Proofs.YtlbgdgobhiokpaaDoor
