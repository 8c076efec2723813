import Derived.Test.YtjamfbpdepahnaaGreatPart05
import Derived.Test.YtjamfbpdepahnaaGreatPart12
namespace Go.Proofs.YtjamfbpdepahnaaGreat
open Go.RowKit
set_option linter.unusedVariables false
set_option linter.unusedSimpArgs false
def kv (k : Int × Int × Int) : Value := .agg #[.int .i64 k.1, .int .i64 k.2.1, .int .i64 k.2.2]
theorem retK {fn : Func} {p : Tmp} (h : fn.results = #[.cell p 86]) {R : Ending → World → Prop} {tmps : Array Value} {g : Nat} {w : World} {x y z : Value} (hp : tmps.getD p undef = .pointer (some ⟨g, 0, none⟩)) (hK : Blk w g 86 [x, y, z]) (hR : R (.returned (.agg #[x, y, z])) w) :
    bodyPost Tryz.prog fn R Exit.ret ⟨tmps, []⟩ w :=
  bodyPost_ret (results_cell_row h _ _ _ _ #[x, y, z] _ _ hp (show w.heap[g]? = some (.cells #[x, y, z] 86 (0, 0)) from hK) Tryz.underlying86 rfl (by show _ = some 3; kernel_rfl)) rfl hR
theorem retA {fn : Func} {p : Tmp} (h : fn.results = #[.cell p 85]) {R : Ending → World → Prop} {tmps : Array Value} {g : Nat} {w : World} {x y z : Value} (hp : tmps.getD p undef = .pointer (some ⟨g, 0, none⟩)) (hK : Blk w g 85 [x, y, z]) (hR : R (.returned (.agg #[x, y, z])) w) :
    bodyPost Tryz.prog fn R Exit.ret ⟨tmps, []⟩ w :=
  bodyPost_ret (results_cell_row h _ _ _ _ #[x, y, z] _ _ hp (show w.heap[g]? = some (.cells #[x, y, z] 85 (0, 0)) from hK) Tryz.underlying85 rfl (by show _ = some 3; kernel_rfl)) rfl hR
set_option maxRecDepth 100000 in
set_option maxHeartbeats 4000000 in
theorem dkinds_any (op : Int) (w : World) (h33 : op < 33) : Calls Tryz.prog 74 #[.int .i64 op] w fun e w' => e = .returned (kv (kin op)) ∧ Below w.heap.size w w' := by
  go_enter Tryz.func74, Tryz.ntmps74
  go_wp2
  all_goals
    refine retK rfl rfl (Blk.newA w _ _) ?_
    refine ⟨?_, below1 _ _⟩
    first
      | (rename_i h; have h := eq_of_beq h; subst h; rfl)
      | (simp only [beq_eq_false_iff_ne, ne_eq] at *
         have h : kin op = (0, 0, 0) := by
           unfold kin
           repeat rw [if_neg (by omega)]
         rw [h]; rfl)
set_option maxRecDepth 100000 in
set_option maxHeartbeats 4000000 in
theorem ekinds_any (op : Int) (w : World) (h33 : 33 ≤ op) : Calls Tryz.prog 75 #[.int .i64 op] w fun e w' => e = .returned (kv (kin op)) ∧ Below w.heap.size w w' := by
  go_enter Tryz.func75, Tryz.ntmps75
  go_wp2
  all_goals
    refine retK rfl rfl (Blk.newA w _ _) ?_
    refine ⟨?_, below1 _ _⟩
    first
      | (rename_i h; have h := eq_of_beq h; subst h; rfl)
      | (simp only [beq_eq_false_iff_ne, ne_eq] at *
         have h : kin op = (0, 0, 0) := by
           unfold kin
           repeat rw [if_neg (by omega)]
         rw [h]; rfl)
set_option maxRecDepth 100000 in
theorem kinds_any (op : Int) (w : World) : Calls Tryz.prog 47 #[.int .i64 op] w fun e w' => e = .returned (kv (kin op)) ∧ Below w.heap.size w w' := by
  obtain ⟨w0, hw0⟩ : ∃ wx, wx = w.alloc (.cells #[.int .i64 0, .int .i64 0, .int .i64 0] 86) := ⟨_, rfl⟩
  have hB : Below w.heap.size w w0 := by rw [hw0]; exact below1 _ _
  have K0 : Hid (Blk w0 w.heap.size 86 [.int .i64 0, .int .i64 0, .int .i64 0]) := hide_ (by rw [hw0]; exact Blk.newA w _ _)
  by_cases h : op < 33
  · have HC := hide_ (dkinds_any op w0 h)
    go_enter Tryz.func47, Tryz.ntmps47
    go_upto_region 1 with fail
    rw [← hw0]
    clear hw0
    go_wp2_with fail
    refine HC.out.mono ?_; rintro e w1 ⟨rfl, hB1⟩
    have K1 := K0.out.later hB1
    have fr := fun i => K1.frozen i
    have c0 := K1.cell 0; have c1 := K1.cell 1; have c2 := K1.cell 2
    simp at c0 c1 c2
    unfold kv
    go_wp2
    refine retK rfl rfl (((K1.set 0 _).set 1 _).set 2 _) ?_
    exact ⟨rfl, below_set (below_set (below_set (below_to hB hB1) _ _ _ (Nat.le_refl _)) _ _ _ (Nat.le_refl _)) _ _ _ (Nat.le_refl _)⟩
  · have HC := hide_ (ekinds_any op w0 (by omega))
    go_enter Tryz.func47, Tryz.ntmps47
    go_upto_region 1 with fail
    rw [← hw0]
    clear hw0
    go_wp2_with fail
    refine HC.out.mono ?_; rintro e w1 ⟨rfl, hB1⟩
    have K1 := K0.out.later hB1
    have fr := fun i => K1.frozen i
    have c0 := K1.cell 0; have c1 := K1.cell 1; have c2 := K1.cell 2
    simp at c0 c1 c2
    unfold kv
    go_wp2
    refine retK rfl rfl (((K1.set 0 _).set 1 _).set 2 _) ?_
    exact ⟨rfl, below_set (below_set (below_set (below_to hB hB1) _ _ _ (Nat.le_refl _)) _ _ _ (Nat.le_refl _)) _ _ _ (Nat.le_refl _)⟩
theorem operands_any (x : In) (w : World) : Calls Tryz.prog 48 #[.agg #[.int .i64 x.op, .int .i64 x.a, .int .i64 x.b, .int .i64 x.c]] w fun e w' => e = .returned (.agg #[.int .i64 x.a, .int .i64 x.b, .int .i64 x.c]) ∧ Below w.heap.size w w' := by
  go_enter Tryz.func48, Tryz.ntmps48
  go_wp2
  refine retA rfl rfl (blk2 w _ _ _ _).2 ?_
  exact ⟨rfl, below2 _ _ _⟩
set_option maxRecDepth 100000 in
set_option maxHeartbeats 4000000 in
theorem bounds_any (enc : Bool) (ac ae : Option Addr) (nc cc ne ce : Nat) (k : Int) (w : World) (hnc : nc ≤ 140737488355328) (hne : ne ≤ 140737488355328) : Calls Tryz.prog 50 #[.agg #[.bool enc, .slice ac nc cc, .slice ae ne ce], .int .i64 k] w fun e w' => e = .returned (.tuple #[.int .i64 (bnd nc ne k).1, .int .i64 (bnd nc ne k).2]) ∧ Below w.heap.size w w' := by
  by_cases h15 : k = 15
  · subst h15
    go_enter Tryz.func50, Tryz.ntmps50
    go_wp2
    go_region
    all_goals
      go_wp2
      go_ret2
      exact ⟨rfl, (below1 _ _).drew⟩
  by_cases h16 : k = 16
  · subst h16
    go_enter Tryz.func50, Tryz.ntmps50
    go_wp2
    go_region
    all_goals
      go_wp2
      go_ret2
      exact ⟨rfl, (below1 _ _).drew⟩
  have f15 : (k == 15) = false := by simpa using h15
  have f16 : (k == 16) = false := by simpa using h16
  go_enter Tryz.func50, Tryz.ntmps50
  go_wp2
  all_goals
    go_ret2
    refine ⟨?_, below1 _ _⟩
    first
      | (rename_i h; have h := eq_of_beq h; subst h; rfl)
      | (simp only [beq_eq_false_iff_ne, ne_eq] at *
         have h : bnd nc ne k = (0, 0) := by
           unfold bnd
           repeat rw [if_neg (by omega)]
         rw [h]; rfl)
theorem isOf_any (op : Int) (enc : Bool) (w : World) : Calls Tryz.prog 46 #[.int .i64 op, .bool enc] w fun e w' => e = .returned (.bool (isOf op enc)) ∧ w = w' := by
  by_cases h1 : op = 9
  · subst h1
    go_enter Tryz.func46, Tryz.ntmps46
    go_wp2
    go_ret
    exact ⟨rfl, rfl⟩
  by_cases h2 : op = 19
  · subst h2
    go_enter Tryz.func46, Tryz.ntmps46
    go_wp2
    go_ret
    exact ⟨rfl, rfl⟩
  by_cases h3 : op = 20
  · subst h3
    go_enter Tryz.func46, Tryz.ntmps46
    go_wp2
    go_ret
    exact ⟨rfl, rfl⟩
  have e1 : (op == 9) = false := by simpa using h1
  have e2 : (op == 19) = false := by simpa using h2
  have e3 : (op == 20) = false := by simpa using h3
  cases enc with
  | true =>
    by_cases h4 : 33 ≤ op
    · by_cases h5 : op ≤ 47
      · have e : isOf op true = true := by unfold isOf; simp [h4, h5]
        rw [e]
        go_enter Tryz.func46, Tryz.ntmps46
        go_wp2
        go_ret
        exact ⟨rfl, rfl⟩
      · have e : isOf op true = false := by unfold isOf; simp [e1, e2, e3, h4, h5]
        rw [e]
        go_enter Tryz.func46, Tryz.ntmps46
        go_wp2
        go_ret
        exact ⟨rfl, rfl⟩
    · have e : isOf op true = false := by unfold isOf; simp [e1, e2, e3, h4]
      rw [e]
      go_enter Tryz.func46, Tryz.ntmps46
      go_wp2
      go_ret
      exact ⟨rfl, rfl⟩
  | false =>
    by_cases h4 : 1 ≤ op
    · by_cases h5 : op ≤ 20
      · have e : isOf op false = true := by unfold isOf; simp [h4, h5]
        rw [e]
        go_enter Tryz.func46, Tryz.ntmps46
        go_wp2
        go_ret
        exact ⟨rfl, rfl⟩
      · have e : isOf op false = false := by unfold isOf; simp [e1, e2, e3, h4, h5]
        rw [e]
        go_enter Tryz.func46, Tryz.ntmps46
        go_wp2
        go_ret
        exact ⟨rfl, rfl⟩
    · have e : isOf op false = false := by unfold isOf; simp [e1, e2, e3, h4]
      rw [e]
      go_enter Tryz.func46, Tryz.ntmps46
      go_wp2
      go_ret
      exact ⟨rfl, rfl⟩
set_option maxRecDepth 100000 in
theorem allows_any (enc : Bool) (ac ae : Option Addr) (nc cc ne ce : Nat) (k n : Int) (w : World) (hnc : nc ≤ 140737488355328) (hne : ne ≤ 140737488355328) : Calls Tryz.prog 33 #[.agg #[.bool enc, .slice ac nc cc, .slice ae ne ce], .int .i64 k, .int .i64 n] w fun e w' => e = .returned (.bool (alw nc ne k n)) ∧ Below w.heap.size w w' := by
  have HC := hide_ (bounds_any enc ac ae nc cc ne ce k (w.alloc (.cells #[.bool enc, .slice ac nc cc, .slice ae ne ce] 25)) hnc hne)
  obtain ⟨lo, hlo⟩ : ∃ lo, (bnd nc ne k).1 = lo := ⟨_, rfl⟩
  obtain ⟨hi, hhi⟩ : ∃ hi, (bnd nc ne k).2 = hi := ⟨_, rfl⟩
  rw [hlo, hhi] at HC
  by_cases h1 : n < lo
  · have e : alw nc ne k n = false := by unfold alw; rw [hlo, hhi, decide_eq_false (by omega)]; rfl
    rw [e]
    go_enter Tryz.func33, Tryz.ntmps33
    go_wp2_with (go_at_call 50; refine HC.out.mono ?_; rintro e w1 ⟨rfl, hB1⟩)
    go_ret
    exact ⟨rfl, below_to (below1 _ _) hB1⟩
  by_cases h2 : hi < n
  · have e : alw nc ne k n = false := by unfold alw; rw [hlo, hhi, decide_eq_false (by omega)]; rfl
    rw [e]
    go_enter Tryz.func33, Tryz.ntmps33
    go_wp2_with (go_at_call 50; refine HC.out.mono ?_; rintro e w1 ⟨rfl, hB1⟩)
    go_ret
    exact ⟨rfl, below_to (below1 _ _) hB1⟩
  have e : alw nc ne k n = (if k = 3 then n == 1 || n == 2 || n == 4 || n == 8 else if k = 13 then n != 0 else true) := by unfold alw; rw [hlo, hhi, decide_eq_true (by omega)]; rfl
  rw [e]
  by_cases k3 : k = 3
  · subst k3
    have a1 : lo = 1 := hlo.symm.trans rfl
    have a2 : hi = 8 := hhi.symm.trans rfl
    subst a1 a2
    have h8 : n = 1 ∨ n = 2 ∨ n = 3 ∨ n = 4 ∨ n = 5 ∨ n = 6 ∨ n = 7 ∨ n = 8 := by omega
    rcases h8 with rfl | rfl | rfl | rfl | rfl | rfl | rfl | rfl
    all_goals
      go_enter Tryz.func33, Tryz.ntmps33
      go_wp2_with (go_at_call 50; refine HC.out.mono ?_; rintro e w1 ⟨rfl, hB1⟩)
      go_ret
      exact ⟨rfl, below_to (below1 _ _) hB1⟩
  · have f3 : (k == 3) = false := by simpa using k3
    rw [if_neg k3]
    by_cases k13 : k = 13
    · subst k13
      rw [if_pos rfl]
      go_enter Tryz.func33, Tryz.ntmps33
      go_wp2_with (go_at_call 50; refine HC.out.mono ?_; rintro e w1 ⟨rfl, hB1⟩)
      go_ret
      exact ⟨rfl, below_to (below1 _ _) hB1⟩
    · have f13 : (k == 13) = false := by simpa using k13
      rw [if_neg k13]
      go_enter Tryz.func33, Tryz.ntmps33
      go_wp2_with (go_at_call 50; refine HC.out.mono ?_; rintro e w1 ⟨rfl, hB1⟩)
      go_ret
      exact ⟨rfl, below_to (below1 _ _) hB1⟩
def inc (x : In) : List Value := [.int .i64 x.op, .int .i64 x.a, .int .i64 x.b, .int .i64 x.c]
theorem inc_len (x : In) : (inc x).length = 4 := rfl
abbrev IRow (w : World) (a : Option Addr) (l : List In) : Prop := GRow 4 inc w a l
theorem GRow.drop {α : Type} {c : Nat} {f : α → List Value} {w : World} {b o : Nat} {l : List α} (h : GRow c f w (some ⟨b, o, none⟩) l) (m : Nat) : GRow c f w (some ⟨b, o + m * c, none⟩) (l.drop m) := by
  rcases h with h | ⟨b', o', e, hb, hc⟩
  · left; rw [h]; simp
  · injection e with e
    injection e with e1 e2 _
    subst e1 e2
    refine .inr ⟨b, o + m * c, rfl, hb, fun i x hx j hj => ?_⟩
    rw [List.getElem?_drop] at hx
    have h := hc (m + i) x hx j hj
    rw [show o + (m + i) * c + j = o + m * c + i * c + j by rw [Nat.add_mul]; omega] at h
    exact h
theorem IRow.at {w : World} {b off : Nat} {l : List In} (h : IRow w (some ⟨b, off, none⟩) l) {i : Nat} {x : In} (hx : l[i]? = some x) :
    w.cell? ⟨b, off + i * 4, none⟩ = some (.int .i64 x.op) ∧ w.cell? ⟨b, off + i * 4 + 1, none⟩ = some (.int .i64 x.a) ∧ w.cell? ⟨b, off + i * 4 + 2, none⟩ = some (.int .i64 x.b) ∧ w.cell? ⟨b, off + i * 4 + 3, none⟩ = some (.int .i64 x.c) := by
  rcases h with h | ⟨b', o', e, hb, hc⟩
  · rw [h] at hx; simp at hx
  · injection e with e
    injection e with e1 e2 _
    subst e1 e2
    have h := hc i x hx
    exact ⟨h 0 (by decide), h 1 (by decide), h 2 (by decide), h 3 (by decide)⟩
set_option maxRecDepth 100000 in
set_option maxHeartbeats 4000000 in
theorem same_any (q x : In) (bp : Nat) (w : World) (hp : Hid (Blk w bp 37 (inc x))) :
    Calls Tryz.prog 92 #[.agg #[.int .i64 q.op, .int .i64 q.a, .int .i64 q.b, .int .i64 q.c], .pointer (some ⟨bp, 0, none⟩)] w fun e w' => e = .returned (.bool (q.a == x.a)) ∧ Below w.heap.size w w' := by
  have hB := below1 w (.cells #[.int .i64 q.op, .int .i64 q.a, .int .i64 q.b, .int .i64 q.c] 37)
  have kx := Blk.newA w #[.int .i64 q.op, .int .i64 q.a, .int .i64 q.b, .int .i64 q.c] 37
  have ky := hp.out.alloc (.cells #[.int .i64 q.op, .int .i64 q.a, .int .i64 q.b, .int .i64 q.c] 37)
  obtain ⟨wx, hwx⟩ : ∃ wx, wx = w.alloc (.cells #[.int .i64 q.op, .int .i64 q.a, .int .i64 q.b, .int .i64 q.c] 37) := ⟨_, rfl⟩
  rw [← hwx] at hB kx ky
  have HB := hide_ hB
  have i1 := kx.cell 1
  have j1 := ky.cell 1
  simp [inc] at i1 j1
  clear hB kx ky
  go_enter Tryz.func92, Tryz.ntmps92
  go_upto_region 1 with fail
  rw [← hwx]
  clear hwx
  go_wp2
  go_ret
  exact ⟨rfl, HB.out⟩
set_option maxRecDepth 100000 in
set_option maxHeartbeats 4000000 in
theorem index_any (bp : Nat) (x : In) (a : Option Addr) (n c : Nat) (l : List In) (w : World) (hln : l.length = n) (hl : l.length ≤ 9223372036854775806) (hr : Hid (IRow w a l)) (hp : Hid (Blk w bp 37 (inc x))) :
    Calls Tryz.prog 99 #[.slice a n c, .func (.func 92) #[] #[.pointer (some ⟨bp, 0, none⟩)]] w fun e w' => (∃ r : Int, e = .returned (.int .i64 r) ∧ Hid (decide (0 ≤ r) = l.any (fun y => y.a == x.a))) ∧ Below w.heap.size w w' := by
  subst hln
  go_enter Tryz.func99, Tryz.ntmps99
  go_wp2_with fail
  go_loopw [8] (fun x8 wr => ∃ j : Nat, j ≤ l.length ∧ x8 = .int .i64 (j : Int) ∧ Hid (∀ (i : Nat) (q : In), i < j → l[i]? = some q → (q.a == x.a) = false) ∧ Hid (Below w.heap.size w wr)) (fun x8 _ => l.length - (intOf x8).toNat)
  case atStart => exact ⟨0, Nat.zero_le _, rfl, hide_ (fun i q hi => by omega), hide_ (Below.refl _ _)⟩
  case round =>
    obtain ⟨j, hj, rfl, HA, HB⟩ := hrel
    generalize wr = wq at *
    by_cases hlt : j < l.length
    · have hlt' : (j : Int) < l.length := by omega
      obtain ⟨b, off, rfl, hb, hc⟩ := (hr.out.later HB.out).open (by omega)
      have hx : l[j]? = some (l[j]'hlt) := List.getElem?_eq_getElem hlt
      have hcx := hc j _ hx
      have HX := hide_ hx
      have HP := hide_ (hp.out.later HB.out)
      generalize l[j]'hlt = q at *
      have i0 := hcx 0 (by decide); have i1 := hcx 1 (by decide); have i2 := hcx 2 (by decide); have i3 := hcx 3 (by decide)
      simp [inc] at i0 i1 i2 i3
      clear hc hx hcx
      have HCon := hide_ (same_any q x bp wq HP)
      by_cases hm : (q.a == x.a) = true
      · have HL : Hid (decide (0 ≤ (j : Int)) = l.any (fun y => y.a == x.a)) := hide_ (by
          rw [decide_eq_true (by omega)]
          exact (List.any_eq_true.2 ⟨q, List.mem_of_getElem? HX.out, hm⟩).symm)
        rw [hm] at HCon
        clear hm
        go_wp2_with (go_at_call 92; refine HCon.out.mono ?_; rintro e w' ⟨rfl, hB1⟩; (have HB1 := hide_ hB1); clear hB1)
        go_ret
        exact ⟨⟨j, rfl, HL⟩, below_to HB.out HB1.out⟩
      · have hm : (q.a == x.a) = false := by simpa using hm
        have HA2 : Hid (∀ (i : Nat) (q : In), i < j + 1 → l[i]? = some q → (q.a == x.a) = false) := hide_ (fun i p hi hp => by
          rcases Nat.lt_or_ge i j with h | h
          · exact HA.out i p h hp
          · obtain rfl : i = j := by omega
            rw [HX.out] at hp
            injection hp with hp
            subst hp
            exact hm)
        rw [hm] at HCon
        clear hm
        go_wp2_with (go_at_call 92; refine HCon.out.mono ?_; rintro e w' ⟨rfl, hB1⟩; (have HB1 := hide_ (below_to HB.out hB1)); clear hB1)
        go_roundw
        case rel => exact ⟨j + 1, by omega, by go_num, HA2, HB1⟩
        case measure => simp [intOf]; omega
    · obtain rfl : j = l.length := by omega
      have HL : Hid (decide (0 ≤ (-1 : Int)) = l.any (fun y => y.a == x.a)) := hide_ (by
        rw [decide_eq_false (by omega)]
        symm
        rw [List.any_eq_false]
        intro q hq
        obtain ⟨i, hi, rfl⟩ := List.mem_iff_getElem.1 hq
        have := HA.out i _ hi (List.getElem?_eq_getElem hi)
        simpa using this)
      go_wp2
      go_ret
      exact ⟨⟨-1, rfl, HL⟩, HB.out⟩
theorem contains_any (bp : Nat) (x : In) (a : Option Addr) (n c : Nat) (l : List In) (w : World) (hln : l.length = n) (hl : l.length ≤ 9223372036854775806) (hr : Hid (IRow w a l)) (hp : Hid (Blk w bp 37 (inc x))) :
    Calls Tryz.prog 93 #[.slice a n c, .func (.func 92) #[] #[.pointer (some ⟨bp, 0, none⟩)]] w fun e w' => e = .returned (.bool (l.any (fun y => y.a == x.a))) ∧ Below w.heap.size w w' := by
  have HCon := hide_ (index_any bp x a n c l w hln hl hr hp)
  go_enter Tryz.func93, Tryz.ntmps93
  go_wp2_with (go_at_call 99; refine HCon.out.mono ?_; rintro e w' ⟨⟨r, rfl, HR⟩, hB1⟩)
  go_ret
  exact ⟨by rw [← HR.out]; rfl, hB1⟩
theorem arms_iff {l : List In} {m : Nat} (h : m ≤ l.length) : arms l m = true ↔ ∀ i, i < m → armOk l i = true := by
  unfold arms
  rw [decide_eq_true (by omega)]
  simp [List.all_eq_true]
theorem armOk_at {l : List In} {i : Nat} {x : In} (h : l[i]? = some x) : armOk l i = (x.op == 9 && !(l.take i).any (fun y => y.a == x.a)) := by unfold armOk; rw [h]
set_option maxRecDepth 100000 in
set_option maxHeartbeats 4000000 in
theorem hasArms_any (a : Option Addr) (n c : Nat) (l : List In) (m : Nat) (w : World) (hn : l.length = n) (hc : n ≤ c) (hl : c ≤ 9223372036854775807) (hm : m ≤ 1000000) (hr : Hid (IRow w a l)) :
    Calls Tryz.prog 76 #[.slice a n c, .int .i64 (m : Int)] w fun e w' => e = .returned (.bool (arms l m)) ∧ Below w.heap.size w w' := by
  have hmf : ∀ (fn : Fn) (first cap : Array Value) (w : World), (Instr.makeFunc fn first cap).run Tryz.prog w = .ok (.func fn first cap) w := fun _ _ _ _ => rfl
  by_cases hlm : n < m
  · have e : arms l m = false := by unfold arms; rw [decide_eq_false (by omega)]; rfl
    rw [e]
    go_enter Tryz.func76, Tryz.ntmps76
    go_wp2
    go_ret
    exact ⟨rfl, Below.refl _ _⟩
  have HN := hide_ hn
  clear hn
  go_enter Tryz.func76, Tryz.ntmps76
  go_wp2_with fail
  go_loopw [16] (fun x16 wr => ∃ j : Nat, j ≤ m ∧ x16 = .int .i64 (j : Int) ∧ Hid (∀ i, i < j → armOk l i = true) ∧ Hid (Below w.heap.size w wr)) (fun x16 _ => m - (intOf x16).toNat)
  case atStart => exact ⟨0, Nat.zero_le _, rfl, hide_ (fun i hi => by omega), hide_ (Below.refl _ _)⟩
  case round =>
    obtain ⟨j, hj, rfl, HA, HB⟩ := hrel
    generalize wr = wq at *
    by_cases hlt : j < m
    · have hlt' : (j : Int) < m := by omega
      have hjl : j < l.length := by rw [HN.out]; omega
      obtain ⟨b, off, rfl, hb, hcc⟩ := (hr.out.later HB.out).open (by omega)
      have hx : l[j]? = some (l[j]'hjl) := List.getElem?_eq_getElem hjl
      have hcx := hcc j _ hx
      have HE := hide_ (armOk_at hx)
      generalize l[j]'hjl = q at *
      have i0 := hcx 0 (by decide); have i1 := hcx 1 (by decide); have i2 := hcx 2 (by decide); have i3 := hcx 3 (by decide)
      simp [inc] at i0 i1 i2 i3
      clear hcc hx hcx
      obtain ⟨w1, hw1⟩ : ∃ wx, wx = wq.alloc (.cells #[.int .i64 q.op, .int .i64 q.a, .int .i64 q.b, .int .i64 q.c] 37) := ⟨_, rfl⟩
      have hB1 : Below wq.heap.size wq w1 := by rw [hw1]; exact below1 _ _
      have K1 : Hid (Blk w1 wq.heap.size 37 (inc q)) := hide_ (by rw [hw1]; exact Blk.newA wq _ _)
      have HB1 := hide_ (below_to HB.out hB1)
      have HCo := hide_ (contains_any wq.heap.size q (some ⟨b, off, none⟩) j c (l.take j) w1 (by rw [List.length_take]; omega) (by rw [List.length_take]; omega) (hide_ ((hr.out.later HB1.out).take j)) K1)
      have k0 := K1.out.cell 0
      simp [inc] at k0
      obtain ⟨t, ht⟩ : ∃ t, (l.take j).any (fun y => y.a == q.a) = t := ⟨_, rfl⟩
      rw [ht] at HCo HE
      clear ht hB1
      go_upto_region 6 with fail
      rw [← hw1]
      clear hw1 i0 i1 i2 i3
      by_cases h9 : q.op = 9
      · have h9b : (q.op != 9) = false := by simp [h9]
        have h9c : (q.op == 9) = true := by simp [h9]
        rw [h9c] at HE
        cases t with
        | true =>
          have HR : Hid (arms l m = false) := hide_ (by
            cases h : arms l m with
            | false => rfl
            | true =>
              have := (arms_iff (by rw [HN.out]; omega)).1 h j hlt
              rw [HE.out] at this
              cases this)
          go_wp2_with (go_at_call 93; refine HCo.out.mono ?_; rintro e w' ⟨rfl, hB2⟩)
          go_ret
          exact ⟨by rw [HR.out]; rfl, below_to HB1.out hB2⟩
        | false =>
          have HA2 : Hid (∀ i, i < j + 1 → armOk l i = true) := hide_ (fun i hi => by
            rcases Nat.lt_or_ge i j with h | h
            · exact HA.out i h
            · obtain rfl : i = j := by omega
              rw [HE.out]; rfl)
          go_wp2_with (go_at_call 93; refine HCo.out.mono ?_; rintro e w' ⟨rfl, hB2⟩)
          have HB2 := hide_ (below_to HB1.out hB2)
          go_roundw
          case rel => exact ⟨j + 1, by omega, by go_num, HA2, HB2⟩
          case measure => simp [intOf]; omega
      · have h9b : (q.op != 9) = true := by simpa using h9
        have h9c : (q.op == 9) = false := by simpa using h9
        rw [h9c] at HE
        have HR : Hid (arms l m = false) := hide_ (by
          cases h : arms l m with
          | false => rfl
          | true =>
            have := (arms_iff (by rw [HN.out]; omega)).1 h j hlt
            rw [HE.out] at this
            cases this)
        go_wp2_with fail
        go_ret
        exact ⟨by rw [HR.out]; rfl, HB1.out⟩
    · obtain rfl : j = m := by omega
      have HR : Hid (arms l j = true) := hide_ ((arms_iff (by rw [HN.out]; omega)).2 HA.out)
      go_wp2
      go_ret
      exact ⟨by rw [HR.out]; rfl, HB.out⟩
end Go.Proofs.YtjamfbpdepahnaaGreat
