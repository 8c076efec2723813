/- Code: the arms' tags; hasArms, agree. -/
import Derived.Test.YteadmiikenpjeaaDoorCdb
namespace Go.Proofs.YteadmiikenpjeaaDoor
open Go.RowKit
set_option linter.unusedVariables false

def inc (x : In) : List Value := [.int .i64 x.op, .int .i64 x.a, .int .i64 x.b, .int .i64 x.c]
theorem inc_len (x : In) : (inc x).length = 4 := rfl
abbrev IRow (w : World) (a : Option Addr) (l : List In) : Prop := GRow 4 inc w a l
theorem GRow.drop {α : Type} {c : Nat} {f : α → List Value} {w : World} {b o : Nat} {l : List α} (h : GRow c f w (some ⟨b, o, none⟩) l) (m : Nat) : GRow c f w (some ⟨b, o + m * c, none⟩) (l.drop m) := by
  rcases h with h | ⟨b', o', e, hb, hc⟩
  · left; rw [h]; simp
  · injection e with e
    injection e with e1 e2 _
    subst e1 e2
    refine .inr ⟨b, o + m * c, rfl, hb, fun i x hx j hj => ?_⟩
    rw [List.getElem?_drop] at hx
    have h := hc (m + i) x hx j hj
    rw [show o + (m + i) * c + j = o + m * c + i * c + j by rw [Nat.add_mul]; omega] at h
    exact h
theorem IRow.at {w : World} {b off : Nat} {l : List In} (h : IRow w (some ⟨b, off, none⟩) l) {i : Nat} {x : In} (hx : l[i]? = some x) :
    w.cell? ⟨b, off + i * 4, none⟩ = some (.int .i64 x.op) ∧ w.cell? ⟨b, off + i * 4 + 1, none⟩ = some (.int .i64 x.a) ∧ w.cell? ⟨b, off + i * 4 + 2, none⟩ = some (.int .i64 x.b) ∧ w.cell? ⟨b, off + i * 4 + 3, none⟩ = some (.int .i64 x.c) := by
  rcases h with h | ⟨b', o', e, hb, hc⟩
  · rw [h] at hx; simp at hx
  · injection e with e
    injection e with e1 e2 _
    subst e1 e2
    have h := hc i x hx
    exact ⟨h 0 (by decide), h 1 (by decide), h 2 (by decide), h 3 (by decide)⟩
set_option maxRecDepth 100000 in
set_option maxHeartbeats 4000000 in
theorem same_any (q x : In) (bp : Nat) (w : World) (hp : Hid (Blk w bp 41 (inc x))) :
    Calls Tryd.prog 82 #[.agg #[.int .i64 q.op, .int .i64 q.a, .int .i64 q.b, .int .i64 q.c], .pointer (some ⟨bp, 0, none⟩)] w fun e w' => e = .returned (.bool (q.a == x.a)) ∧ Below w.heap.size w w' := by
  have hB := below1 w (.cells #[.int .i64 q.op, .int .i64 q.a, .int .i64 q.b, .int .i64 q.c] 41)
  have kx := Blk.newA w #[.int .i64 q.op, .int .i64 q.a, .int .i64 q.b, .int .i64 q.c] 41
  have ky := hp.out.alloc (.cells #[.int .i64 q.op, .int .i64 q.a, .int .i64 q.b, .int .i64 q.c] 41)
  obtain ⟨wx, hwx⟩ : ∃ wx, wx = w.alloc (.cells #[.int .i64 q.op, .int .i64 q.a, .int .i64 q.b, .int .i64 q.c] 41) := ⟨_, rfl⟩
  rw [← hwx] at hB kx ky
  have HB := hide_ hB
  have i1 := kx.cell 1
  have j1 := ky.cell 1
  simp [inc] at i1 j1
  clear hB kx ky
  go_enter Tryd.func82, Tryd.ntmps82
  go_upto_region 1 with fail
  rw [← hwx]
  clear hwx
  go_wp2
  go_ret
  exact ⟨rfl, HB.out⟩
set_option maxRecDepth 100000 in
set_option maxHeartbeats 4000000 in
theorem index_any (bp : Nat) (x : In) (a : Option Addr) (n c : Nat) (l : List In) (w : World) (hln : l.length = n) (hl : l.length ≤ 9223372036854775806) (hr : Hid (IRow w a l)) (hp : Hid (Blk w bp 41 (inc x))) :
    Calls Tryd.prog 91 #[.slice a n c, .func (.func 82) #[] #[.pointer (some ⟨bp, 0, none⟩)]] w fun e w' => (∃ r : Int, e = .returned (.int .i64 r) ∧ Hid (decide (0 ≤ r) = l.any (fun y => y.a == x.a))) ∧ Below w.heap.size w w' := by
  subst hln
  go_enter Tryd.func91, Tryd.ntmps91
  go_wp2_with fail
  go_loopw [8] (fun x8 wr => ∃ j : Nat, j ≤ l.length ∧ x8 = .int .i64 (j : Int) ∧ Hid (∀ (i : Nat) (q : In), i < j → l[i]? = some q → (q.a == x.a) = false) ∧ Hid (Below w.heap.size w wr)) (fun x8 _ => l.length - (intOf x8).toNat)
  case atStart => exact ⟨0, Nat.zero_le _, rfl, hide_ (fun i q hi => by omega), hide_ (Below.refl _ _)⟩
  case round =>
    obtain ⟨j, hj, rfl, HA, HB⟩ := hrel
    generalize wr = wq at *
    by_cases hlt : j < l.length
    · have hlt' : (j : Int) < l.length := by omega
      obtain ⟨b, off, rfl, hb, hc⟩ := (hr.out.later HB.out).open (by omega)
      have hx : l[j]? = some (l[j]'hlt) := List.getElem?_eq_getElem hlt
      have hcx := hc j _ hx
      have HX := hide_ hx
      have HP := hide_ (hp.out.later HB.out)
      generalize l[j]'hlt = q at *
      have i0 := hcx 0 (by decide); have i1 := hcx 1 (by decide); have i2 := hcx 2 (by decide); have i3 := hcx 3 (by decide)
      simp [inc] at i0 i1 i2 i3
      clear hc hx hcx
      have HCon := hide_ (same_any q x bp wq HP)
      by_cases hm : (q.a == x.a) = true
      · have HL : Hid (decide (0 ≤ (j : Int)) = l.any (fun y => y.a == x.a)) := hide_ (by
          rw [decide_eq_true (by omega)]
          exact (List.any_eq_true.2 ⟨q, List.mem_of_getElem? HX.out, hm⟩).symm)
        rw [hm] at HCon
        clear hm
        go_wp2_with (go_at_call 82; refine HCon.out.mono ?_; rintro e w' ⟨rfl, hB1⟩; (have HB1 := hide_ hB1); clear hB1)
        go_ret
        exact ⟨⟨j, rfl, HL⟩, below_to HB.out HB1.out⟩
      · have hm : (q.a == x.a) = false := by simpa using hm
        have HA2 : Hid (∀ (i : Nat) (q : In), i < j + 1 → l[i]? = some q → (q.a == x.a) = false) := hide_ (fun i p hi hp => by
          rcases Nat.lt_or_ge i j with h | h
          · exact HA.out i p h hp
          · obtain rfl : i = j := by omega
            rw [HX.out] at hp
            injection hp with hp
            subst hp
            exact hm)
        rw [hm] at HCon
        clear hm
        go_wp2_with (go_at_call 82; refine HCon.out.mono ?_; rintro e w' ⟨rfl, hB1⟩; (have HB1 := hide_ (below_to HB.out hB1)); clear hB1)
        go_roundw
        case rel => exact ⟨j + 1, by omega, by go_num, HA2, HB1⟩
        case measure => simp [intOf]; omega
    · obtain rfl : j = l.length := by omega
      have HL : Hid (decide (0 ≤ (-1 : Int)) = l.any (fun y => y.a == x.a)) := hide_ (by
        rw [decide_eq_false (by omega)]
        symm
        rw [List.any_eq_false]
        intro q hq
        obtain ⟨i, hi, rfl⟩ := List.mem_iff_getElem.1 hq
        have := HA.out i _ hi (List.getElem?_eq_getElem hi)
        simpa using this)
      go_wp2
      go_ret
      exact ⟨⟨-1, rfl, HL⟩, HB.out⟩
theorem contains_any (bp : Nat) (x : In) (a : Option Addr) (n c : Nat) (l : List In) (w : World) (hln : l.length = n) (hl : l.length ≤ 9223372036854775806) (hr : Hid (IRow w a l)) (hp : Hid (Blk w bp 41 (inc x))) :
    Calls Tryd.prog 83 #[.slice a n c, .func (.func 82) #[] #[.pointer (some ⟨bp, 0, none⟩)]] w fun e w' => e = .returned (.bool (l.any (fun y => y.a == x.a))) ∧ Below w.heap.size w w' := by
  have HCon := hide_ (index_any bp x a n c l w hln hl hr hp)
  go_enter Tryd.func83, Tryd.ntmps83
  go_wp2_with (go_at_call 91; refine HCon.out.mono ?_; rintro e w' ⟨⟨r, rfl, HR⟩, hB1⟩)
  go_ret
  exact ⟨by rw [← HR.out]; rfl, hB1⟩
theorem arms_iff {l : List In} {m : Nat} (h : m ≤ l.length) : arms l m = true ↔ ∀ i, i < m → armOk l i = true := by
  unfold arms
  rw [decide_eq_true (by omega)]
  simp [List.all_eq_true]
theorem armOk_at {l : List In} {i : Nat} {x : In} (h : l[i]? = some x) : armOk l i = (x.op == 9 && !(l.take i).any (fun y => y.a == x.a)) := by unfold armOk; rw [h]
set_option maxRecDepth 100000 in
set_option maxHeartbeats 4000000 in
theorem hasArms_any (a : Option Addr) (n c : Nat) (l : List In) (m : Nat) (w : World) (hn : l.length = n) (hc : n ≤ c) (hl : c ≤ 9223372036854775807) (hm : m ≤ 1000000) (hr : Hid (IRow w a l)) :
    Calls Tryd.prog 75 #[.slice a n c, .int .i64 (m : Int)] w fun e w' => e = .returned (.bool (arms l m)) ∧ Below w.heap.size w w' := by
  have hmf : ∀ (fn : Fn) (first cap : Array Value) (w : World), (Instr.makeFunc fn first cap).run Tryd.prog w = .ok (.func fn first cap) w := fun _ _ _ _ => rfl
  by_cases hlm : n < m
  · have e : arms l m = false := by unfold arms; rw [decide_eq_false (by omega)]; rfl
    rw [e]
    go_enter Tryd.func75, Tryd.ntmps75
    go_wp2
    go_ret
    exact ⟨rfl, Below.refl _ _⟩
  have HN := hide_ hn
  clear hn
  go_enter Tryd.func75, Tryd.ntmps75
  go_wp2_with fail
  go_loopw [16] (fun x16 wr => ∃ j : Nat, j ≤ m ∧ x16 = .int .i64 (j : Int) ∧ Hid (∀ i, i < j → armOk l i = true) ∧ Hid (Below w.heap.size w wr)) (fun x16 _ => m - (intOf x16).toNat)
  case atStart => exact ⟨0, Nat.zero_le _, rfl, hide_ (fun i hi => by omega), hide_ (Below.refl _ _)⟩
  case round =>
    obtain ⟨j, hj, rfl, HA, HB⟩ := hrel
    generalize wr = wq at *
    by_cases hlt : j < m
    · have hlt' : (j : Int) < m := by omega
      have hjl : j < l.length := by rw [HN.out]; omega
      obtain ⟨b, off, rfl, hb, hcc⟩ := (hr.out.later HB.out).open (by omega)
      have hx : l[j]? = some (l[j]'hjl) := List.getElem?_eq_getElem hjl
      have hcx := hcc j _ hx
      have HE := hide_ (armOk_at hx)
      generalize l[j]'hjl = q at *
      have i0 := hcx 0 (by decide); have i1 := hcx 1 (by decide); have i2 := hcx 2 (by decide); have i3 := hcx 3 (by decide)
      simp [inc] at i0 i1 i2 i3
      clear hcc hx hcx
      obtain ⟨w1, hw1⟩ : ∃ wx, wx = wq.alloc (.cells #[.int .i64 q.op, .int .i64 q.a, .int .i64 q.b, .int .i64 q.c] 41) := ⟨_, rfl⟩
      have hB1 : Below wq.heap.size wq w1 := by rw [hw1]; exact below1 _ _
      have K1 : Hid (Blk w1 wq.heap.size 41 (inc q)) := hide_ (by rw [hw1]; exact Blk.newA wq _ _)
      have HB1 := hide_ (below_to HB.out hB1)
      have HCo := hide_ (contains_any wq.heap.size q (some ⟨b, off, none⟩) j c (l.take j) w1 (by rw [List.length_take]; omega) (by rw [List.length_take]; omega) (hide_ ((hr.out.later HB1.out).take j)) K1)
      have k0 := K1.out.cell 0
      simp [inc] at k0
      obtain ⟨t, ht⟩ : ∃ t, (l.take j).any (fun y => y.a == q.a) = t := ⟨_, rfl⟩
      rw [ht] at HCo HE
      clear ht hB1
      go_upto_region 6 with fail
      rw [← hw1]
      clear hw1 i0 i1 i2 i3
      by_cases h9 : q.op = 9
      · have h9b : (q.op != 9) = false := by simp [h9]
        have h9c : (q.op == 9) = true := by simp [h9]
        rw [h9c] at HE
        cases t with
        | true =>
          have HR : Hid (arms l m = false) := hide_ (by
            cases h : arms l m with
            | false => rfl
            | true =>
              have := (arms_iff (by rw [HN.out]; omega)).1 h j hlt
              rw [HE.out] at this
              cases this)
          go_wp2_with (go_at_call 83; refine HCo.out.mono ?_; rintro e w' ⟨rfl, hB2⟩)
          go_ret
          exact ⟨by rw [HR.out]; rfl, below_to HB1.out hB2⟩
        | false =>
          have HA2 : Hid (∀ i, i < j + 1 → armOk l i = true) := hide_ (fun i hi => by
            rcases Nat.lt_or_ge i j with h | h
            · exact HA.out i h
            · obtain rfl : i = j := by omega
              rw [HE.out]; rfl)
          go_wp2_with (go_at_call 83; refine HCo.out.mono ?_; rintro e w' ⟨rfl, hB2⟩)
          have HB2 := hide_ (below_to HB1.out hB2)
          go_roundw
          case rel => exact ⟨j + 1, by omega, by go_num, HA2, HB2⟩
          case measure => simp [intOf]; omega
      · have h9b : (q.op != 9) = true := by simpa using h9
        have h9c : (q.op == 9) = false := by simpa using h9
        rw [h9c] at HE
        have HR : Hid (arms l m = false) := hide_ (by
          cases h : arms l m with
          | false => rfl
          | true =>
            have := (arms_iff (by rw [HN.out]; omega)).1 h j hlt
            rw [HE.out] at this
            cases this)
        go_wp2_with fail
        go_ret
        exact ⟨by rw [HR.out]; rfl, HB1.out⟩
    · obtain rfl : j = m := by omega
      have HR : Hid (arms l j = true) := hide_ ((arms_iff (by rw [HN.out]; omega)).2 HA.out)
      go_wp2
      go_ret
      exact ⟨by rw [HR.out]; rfl, HB.out⟩
end Go.Proofs.YteadmiikenpjeaaDoor
