/- lent and kept: copies with three marks behind. -/
import Derived.Test.YtmhcihccliakaaaI
import Derived.Deep.DeepCutAuto
import Derived.Deep.DeepMust
import Derived.Deep.RegionHeld3
import Derived.Deep.RegionHeldLaw
namespace Go.Proofs.Ytmhcihccliakaaa
open Go.RowKit
set_option linter.unusedVariables false

/-- With the three marks behind. -/
def markF (f : Nat → Nat) (n i : Nat) : Nat := if i < n then f i else if i = n then 90 else if i = n + 1 then 165 else 51
def marks : List Value := [.int .u8 90, .int .u8 165, .int .u8 51]
theorem markF_at (f : Nat → Nat) (n j : Nat) (h : j < n + 3) : (cellsF f n ++ marks)[j]? = some (.int .u8 ((markF f n j : Nat) : Int)) := by
  unfold markF
  by_cases hj : j < n
  · rw [if_pos hj, List.getElem?_append_left (by rw [cellsF_length]; exact hj), cellsF_at f n j hj]
  · rw [if_neg hj, List.getElem?_append_right (by rw [cellsF_length]; omega), cellsF_length]
    rcases (show j = n ∨ j = n + 1 ∨ j = n + 2 by omega) with rfl | rfl | rfl
    · rw [if_pos rfl, Nat.sub_self]; rfl
    · rw [if_neg (by omega), if_pos rfl, show n + 1 - n = 1 from by omega]; rfl
    · rw [if_neg (by omega), if_neg (by omega), show n + 2 - n = 2 from by omega]; rfl

/-- append(x, 90, 165, 51), x the call's own. -/
theorem run_marks (w : World) (ty base : Nat) (v : Value) (n : Nat) (f : Nat → Nat) (hown : w.ownsRow base 5 1 v n (cellsF f n)) (ad : Addr)
    (hm : ∀ j u, marks[j]? = some u → w.cell? (ad.add j) = some u) (hn : n ≤ 3000) (hbase : base ≤ w.heap.size) :
    ∃ v' w', (Builtin.append_ #[22, 22] ty #[v, .slice (some ad) 3 3]).run Try.prog w = .ok v' w' ∧ w'.ownsRow base 5 1 v' (n + 3) (cellsF f n ++ marks) ∧ w.grownBy w' v.ownBlock := by
  obtain ⟨i0, hi, hz0, hz1, hz2⟩ := info_parts info5
  obtain ⟨v', w', h1, h2, h3, _⟩ := run_append_own (P := Try.prog) w base 22 ty 5 i0 (.int .u8 0) 1 1 Try.underlying22 hi hz0 hz1 hz2 rfl (by decide) v n (cellsF f n) hown ad 3 3 marks rfl hm
    (fun u hu => by simp [marks] at hu; rcases hu with rfl | rfl | rfl <;> rfl) (by unfold maxLen; omega) (by omega) hbase
  exact ⟨v', w', h1, h2, h3⟩
theorem marks_new (w : World) : ∀ j u, marks[j]? = some u → (w.alloc (.cells #[.int .u8 90, .int .u8 165, .int .u8 51] 5)).cell? ((⟨w.heap.size, 0, none⟩ : Addr).add j) = some u := by
  intro j u hj
  have h3 : j < 3 := by
    rcases Nat.lt_or_ge j 3 with h | h
    · exact h
    · rw [List.getElem?_eq_none (show marks.length ≤ j from h)] at hj; cases hj
  have hadd : (⟨w.heap.size, 0, none⟩ : Addr).add j = ⟨w.heap.size, 0 + j, none⟩ := by unfold Addr.add; split <;> simp_all
  rw [hadd, cell_new3 _ _ _ _ _ j h3]
  match j, h3 with
  | 0, _ => simpa [marks] using hj
  | 1, _ => simpa [marks] using hj
  | 2, _ => simpa [marks] using hj

set_option maxHeartbeats 1000000 in
theorem lent_any (a : Option Addr) (len cap : Nat) (f : Nat → Nat) (w : World) (hrow : Hid (RowB w a len f)) (hnil : Hid (a = none → cap = 0)) (hl : len ≤ 2000) :
    Calls Try.prog 20 #[.slice a len cap] w fun e w' => ∃ g c, e = .returned (.slice (some ⟨g, 0, none⟩) len c) ∧ w.heap.size ≤ g ∧ g < w'.heap.size ∧ len + 3 ≤ c ∧ c ≤ maxLen ∧
      (∀ i, i < len + 3 → w'.cell? ⟨g, 0 + i, none⟩ = some (.int .u8 ((markF f len i : Nat) : Int))) ∧ (∀ o, w'.frozen? ⟨g, o, none⟩ = false) ∧ Below w.heap.size w w' := by
  obtain ⟨v1, w2, hr1, ho1, hg1⟩ := run_copy w 22 w.heap.size a len cap f hrow.out hnil.out (by omega) (Nat.le_refl _)
  have hB2 : Below w.heap.size w w2 := (Below.refl _ _).grown hg1 (Nat.le_refl _) (fun k hk => by cases hk)
  obtain ⟨v2, w3, hr2, ho2, hg2⟩ := run_marks (w2.alloc (.cells #[.int .u8 90, .int .u8 165, .int .u8 51] 5)) 22 w.heap.size v1 len f (ho1.alloc _) ⟨w2.heap.size, 0, none⟩ (marks_new w2) (by omega) (by have := hB2.size; simp; omega)
  have hB3 : Below w.heap.size w w3 := (hB2.alloc hB2.size _).grown hg2 (by have := hB2.size; simp; omega) (fun k hk => (ho1.lt k hk).1)
  obtain ⟨g, c, rfl, h1, h2, h3, h4, h5, h6⟩ := own_cells ho2 (by omega)
  have HC : Hid (∀ i, i < len + 3 → w3.cell? ⟨g, 0 + i, none⟩ = some (.int .u8 ((markF f len i : Nat) : Int))) := fun i hi => h5 i _ (markF_at f len i hi)
  have HZ : Hid (∀ o, w3.frozen? ⟨g, o, none⟩ = false) := h6
  have R1 : Hid ((Builtin.append_ #[22, 22] 22 #[.slice none 0 0, .slice a len cap]).run Try.prog w = .ok v1 w2) := hr1
  have R2 : Hid ((Builtin.append_ #[22, 22] 22 #[v1, .slice (some ⟨w2.heap.size, 0, none⟩) 3 3]).run Try.prog (w2.alloc (.cells #[.int .u8 90, .int .u8 165, .int .u8 51] 5)) = .ok (.slice (some ⟨g, 0, none⟩) (len + 3) c) w3) := hr2
  have h4' := h4
  unfold maxLen at h4'
  have hlc : (len : Int) ≤ c := by omega
  clear hr1 hr2 ho1 ho2 hg1 hg2 h5 h6 hB2
  go_enter Try.func20, Try.ntmps20
  go_wp2_with (first | (at_builtin; have _t := R1; refine wpList_append_run rfl (.const (.slice none 0 0)) (.tmp 3) 22 22 rfl rfl rfl R1.out ?_; clear R1) | (at_builtin; refine wpList_append_run rfl (.tmp 4) (.tmp 5) 22 22 rfl rfl rfl R2.out ?_))
  go_ret
  exact ⟨g, c, rfl, h1, h2, h3, h4, HC.out, HZ.out, hB3⟩

theorem rowB_later2 {w w' : World} {a : Option Addr} {len : Nat} {f : Nat → Nat} (h : RowB w a len f) (hB : Below w.heap.size w w') : RowB w' a len f := by
  rcases h with ⟨rfl, rfl⟩ | ⟨x, rfl, hc⟩
  · exact .inl ⟨rfl, rfl⟩
  · refine .inr ⟨x, rfl, fun i hi => ?_⟩
    have h1 := hc i hi
    exact (hB.cell (World.block_lt_of_cell? w _ h1)).trans h1
theorem below_to {a b c : World} (h : Below a.heap.size a b) (k : Below b.heap.size b c) : Below a.heap.size a c := h.trans (k.mono h.size)
/-! ### Steps of a region that draws -/
theorem step_append_run {P : Program} {ops : Array Oper} {o : Oper} {a : Act} {w w' : World} {K : Act → World → Prop} {Q : Exit → Act → World → Prop} {E : Prop}
    (hg : o.guard = none) (s x : Operand) (t t2 : TypeId) (hop : o.op = Op.call { callee := Callee.builtin Builtin.append, args := #[s, x], argTypes := #[t, t2] })
    {v u v' : Value} (hs : a.eval s = v) (hx : a.eval x = u) (hr : (Builtin.append_ #[t, t2] o.type #[v, u]).run P w = .ok v' w') (hK : K (a.put o.dst v') w') :
    if Region.wanted o (yielded ops a.tmps) = true then Oper.wp P o a w K Q else E := by
  have hw : Region.wanted o (yielded ops a.tmps) = true := by simp [Region.wanted, hg]
  rw [if_pos hw]
  unfold Oper.wp
  simp [execOp, hop, resolve, invoke, builtin, hs, hx, hr, Result.andThen]
  exact hK
theorem step_copy {ops : Array Oper} {o : Oper} {a : Act} {w : World} {K : Act → World → Prop} {Q : Exit → Act → World → Prop} {E : Prop}
    (hg : o.guard = none) (s x : Operand) (hop : o.op = Op.call { callee := Callee.builtin Builtin.append, args := #[s, x], argTypes := #[22, 22] })
    (base : Nat) (a0 : Option Addr) (len cap : Nat) (f : Nat → Nat) (hs : a.eval s = .slice none 0 0) (hx : a.eval x = .slice a0 len cap)
    (hrow : RowB w a0 len f) (hnil : a0 = none → cap = 0) (hl : len ≤ 3000) (hbase : base ≤ w.heap.size)
    (hK : ∀ v' w', w'.ownsRow base 5 1 v' len (cellsF f len) → Below w.heap.size w w' → K (a.put o.dst v') w') :
    if Region.wanted o (yielded ops a.tmps) = true then Oper.wp Try.prog o a w K Q else E := by
  obtain ⟨v', w', h1, h2, h3⟩ := run_copy w o.type base a0 len cap f hrow hnil hl hbase
  exact step_append_run hg s x 22 22 hop hs hx h1 (hK v' w' h2 ((Below.refl _ _).grown h3 (Nat.le_refl _) (fun k hk => by cases hk)))
theorem step_marks {ops : Array Oper} {o : Oper} {a : Act} {w : World} {K : Act → World → Prop} {Q : Exit → Act → World → Prop} {E : Prop}
    (hg : o.guard = none) (s x : Operand) (hop : o.op = Op.call { callee := Callee.builtin Builtin.append, args := #[s, x], argTypes := #[22, 22] })
    (base : Nat) (v : Value) (n q : Nat) (hq : q = n + 3) (f : Nat → Nat) (ad : Addr) (hs : a.eval s = v) (hx : a.eval x = .slice (some ad) 3 3)
    (hown : w.ownsRow base 5 1 v n (cellsF f n)) (hm : ∀ j u, marks[j]? = some u → w.cell? (ad.add j) = some u) (hn : n ≤ 3000) (hbase : base ≤ w.heap.size)
    (hK : ∀ g c w', (convert 22 9 (.slice (some ⟨g, 0, none⟩) q c)).run Try.prog w' = .ok (.string (strSeg (markF f n) 0 q)) w' → Below base w w' → K (a.put o.dst (.slice (some ⟨g, 0, none⟩) q c)) w') :
    if Region.wanted o (yielded ops a.tmps) = true then Oper.wp Try.prog o a w K Q else E := by
  subst hq
  obtain ⟨v', w', h1, h2, h3⟩ := run_marks w o.type base v n f hown ad hm hn hbase
  obtain ⟨g, c, rfl, k1, k2, k3, k4, k5, k6⟩ := own_cells h2 (by omega)
  refine step_append_run hg s x 22 22 hop hs hx h1 (hK g c w' ?_ ((Below.refl _ _).grown h3 hbase (fun k hk => (hown.lt k hk).1)))
  refine conv_seg w' g 0 0 (n + 3) c (markF f n) (fun i hi => ?_)
  rw [k5 i _ (markF_at f n i hi)]
  congr 4
  omega
theorem marks_later {w w' : World} {b : Nat} (hm : ∀ j u, marks[j]? = some u → w.cell? ((⟨b, 0, none⟩ : Addr).add j) = some u) (hB : Below w.heap.size w w') : ∀ j u, marks[j]? = some u → w'.cell? ((⟨b, 0, none⟩ : Addr).add j) = some u := by
  intro j u hj
  have h := hm j u hj
  exact (hB.cell (World.block_lt_of_cell? w _ h)).trans h

set_option maxRecDepth 100000 in
set_option maxHeartbeats 1000000 in
theorem kept_yes (g c lenO : Nat) (a : Option Addr) (len cap : Nat) (f : Nat → Nat) (w : World) (hg : g < w.heap.size) (hc3 : len + 3 ≤ c) (hcm : c ≤ maxLen)
    (hown : Hid (∀ i, i < len + 3 → w.cell? ⟨g, 0 + i, none⟩ = some (.int .u8 ((markF f len i : Nat) : Int)))) (hrow : Hid (RowB w a len f)) (hnil : Hid (a = none → cap = 0)) (hl : len ≤ 2000) :
    Calls Try.prog 22 #[.slice (some ⟨g, 0, none⟩) lenO c, .slice a len cap] w fun e w' => e = .returned (.bool true) ∧ Below w.heap.size w w' := by
  unfold maxLen at hcm
  have hcv : ∀ w', Below w.heap.size w w' → (convert 22 9 (.slice (some ⟨g, 0, none⟩) (len + 3) c)).run Try.prog w' = .ok (.string (strSeg (markF f len) 0 (len + 3))) w' := fun w' hB =>
    conv_seg w' g 0 0 (len + 3) c (markF f len) (fun i hi => by rw [hB.cell (p := ⟨g, 0 + i, none⟩) hg, hown.out i hi]; congr 4; omega)
  obtain ⟨q, hq⟩ : ∃ q, q = len + 3 := ⟨_, rfl⟩
  have hqi : (len : Int) + 3 = (q : Int) := by omega
  have hq0 : (0 : Int) ≤ (q : Int) := by omega
  have hqc : (q : Int) ≤ c := by omega
  have hwq : IntKind.i64.wrap (q : Int) = (q : Int) := by rw [IntKind.wrap_i64]; omega
  rw [← hq] at hcv
  have HQ : Hid (q = len + 3) := hq
  clear hq
  have hB0 := Below.refl w.heap.size w
  go_enter Try.func22, Try.ntmps22
  go_wp2_with fail
  go_region_held_law (fun w' => Below w.heap.size w w') (first | assumption | exact hB0.drew | exact Below.alloc (by assumption) (Below.size (by assumption)) _)
    (first
      | (refine step_copy rfl (.const (.slice none 0 0)) (.tmp 11) rfl w.heap.size a len cap f rfl rfl (rowB_later2 hrow.out (by assumption)) hnil.out (by omega) (Below.size (by assumption)) ?_; intro v1 w2 ho1 hB12; have hBw2 := below_to (by assumption) hB12)
      | (refine step_marks rfl (.tmp 12) (.tmp 13) rfl w.heap.size v1 len q HQ.out f ⟨w2.heap.size, 0, none⟩ rfl rfl (ho1.alloc _) (marks_new w2) (by omega) (Below.size (by assumption)) ?_; intro g2 c2 w3 hcv3 hBm; have hBw3 := Below.trans (by assumption : Below w.heap.size w _) hBm)
      | (refine step_marks rfl (.tmp 12) (.tmp 13) rfl w.heap.size v1 len q HQ.out f ⟨w.heap.size, 0, none⟩ rfl rfl ho1 (marks_later (w := (w.alloc (.cells #[.int .u8 90, .int .u8 165, .int .u8 51] 5)).drew) (fun j u h => marks_new w j u h) hB12) (by omega) (Below.size (by assumption)) ?_; intro g2 c2 w3 hcv3 hBm; have hBw3 := Below.trans (by assumption : Below w.heap.size w _) hBm))
  all_goals
    go_wp2
    go_ret
    exact ⟨rfl, by assumption⟩
end Go.Proofs.Ytmhcihccliakaaa
