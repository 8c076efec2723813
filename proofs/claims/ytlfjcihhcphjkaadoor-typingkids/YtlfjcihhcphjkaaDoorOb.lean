/- typing: the small functions: greatest, armOf, itemsOf, misfit. -/
import Derived.Test.YtlfjcihhcphjkaaDoorOa
import Derived.Test.YtlfjcihhcphjkaaDoorK
import Derived.Lib.Bits
import Derived.Lib.BitFns
namespace Go.Proofs.YtlfjcihhcphjkaaDoor
open Go.RowKit
set_option linter.unusedVariables false

set_option maxRecDepth 100000 in
set_option maxHeartbeats 4000000 in
theorem tagT_any (p : Pt) (n : Int) (bp : Nat) (w : World) (hp : Hid (Blk w bp 47 [.int .u64 n])) (ht : 0 ≤ p.tag ∧ p.tag ≤ 255) :
    Calls Tryd.prog 61 #[.agg #[.string p.label, .int .i64 p.tag, .int .i64 p.ty], .pointer (some ⟨bp, 0, none⟩)] w fun e w' => e = .returned (.bool (decide (p.tag = n))) ∧ Below w.heap.size w w' := by
  obtain ⟨lb, tg, ty⟩ := p
  simp only at ht
  have hB := below1 w (.cells #[.string lb, .int .i64 tg, .int .i64 ty] 67)
  have kx := Blk.newA w #[.string lb, .int .i64 tg, .int .i64 ty] 67
  have ky := hp.out.alloc (.cells #[.string lb, .int .i64 tg, .int .i64 ty] 67)
  obtain ⟨wx, hwx⟩ : ∃ wx, wx = w.alloc (.cells #[.string lb, .int .i64 tg, .int .i64 ty] 67) := ⟨_, rfl⟩
  rw [← hwx] at hB kx ky
  have HB := hide_ hB
  have i1 := kx.cell 1
  have j0 := ky.cell 0
  simp at i1 j0
  have hwr : IntKind.u64.wrap tg = tg := by rw [IntKind.wrap_u64]; omega
  clear hB kx ky
  go_enter Tryd.func61, Tryd.ntmps61
  go_upto_region 1 with fail
  rw [← hwx]
  clear hwx
  by_cases he : tg = n
  · subst he
    go_wp2
    go_ret
    exact ⟨by simp, HB.out⟩
  · have hb : (tg == n) = false := by simpa using he
    go_wp2
    go_ret
    exact ⟨by rw [decide_eq_false he]; simp, HB.out⟩
set_option maxRecDepth 100000 in
set_option maxHeartbeats 4000000 in
theorem indexT_any (bp : Nat) (n : Int) (a : Option Addr) (c : Nat) (l : List Pt) (w : World) (hl : l.length ≤ 9223372036854775806) (htg : Hid (∀ p ∈ l, 0 ≤ p.tag ∧ p.tag ≤ 255)) (hr : Hid (PRow w a l)) (hp : Hid (Blk w bp 47 [.int .u64 n])) :
    Calls Tryd.prog 60 #[.slice a l.length c, .func (.func 61) #[] #[.pointer (some ⟨bp, 0, none⟩)]] w fun e w' => e = .returned (.int .i64 (armZ l n)) ∧ Below w.heap.size w w' := by
  go_enter Tryd.func60, Tryd.ntmps60
  go_wp2_with fail
  go_loopw [8] (fun x8 wr => ∃ j : Nat, j ≤ l.length ∧ x8 = .int .i64 (j : Int) ∧ Hid (∀ (i : Nat) (q : Pt), i < j → l[i]? = some q → ¬ q.tag = n) ∧ Hid (Below w.heap.size w wr)) (fun x8 _ => l.length - (intOf x8).toNat)
  case atStart => exact ⟨0, Nat.zero_le _, rfl, hide_ (fun i q hi => by omega), hide_ (Below.refl _ _)⟩
  case round =>
    obtain ⟨j, hj, rfl, HA, HB⟩ := hrel
    generalize wr = wq at *
    by_cases hlt : j < l.length
    · have hlt' : (j : Int) < l.length := by omega
      obtain ⟨b, off, rfl, hb, hc⟩ := (hr.out.later HB.out).open (by omega)
      have hx : l[j]? = some (l[j]'hlt) := List.getElem?_eq_getElem hlt
      have hcx := hc j _ hx
      have HX := hide_ hx
      have htq := htg.out _ (List.getElem_mem hlt)
      have HP := hide_ (hp.out.later HB.out)
      generalize l[j]'hlt = q at *
      have i0 := hcx 0 (by decide); have i1 := hcx 1 (by decide); have i2 := hcx 2 (by decide)
      simp [ptc] at i0 i1 i2
      clear hc hx hcx
      have HCon := hide_ (tagT_any q n bp wq HP htq)
      by_cases hm : q.tag = n
      · have HL : Hid (armZ l n = (j : Int)) := hide_ (by unfold armZ; rw [armI_at HX.out hm HA.out])
        rw [decide_eq_true hm] at HCon
        clear hm htq
        go_wp2_with (go_at_call 61; refine HCon.out.mono ?_; rintro e w' ⟨rfl, hB1⟩; (have HB1 := hide_ hB1); clear hB1)
        go_ret
        exact ⟨by rw [HL.out]; rfl, below_to HB.out HB1.out⟩
      · have HA2 : Hid (∀ (i : Nat) (q : Pt), i < j + 1 → l[i]? = some q → ¬ q.tag = n) := hide_ (fun i p hi hp => by
          rcases Nat.lt_or_ge i j with h | h
          · exact HA.out i p h hp
          · obtain rfl : i = j := by omega
            rw [HX.out] at hp
            injection hp with hp
            subst hp
            exact hm)
        rw [decide_eq_false hm] at HCon
        clear hm htq
        go_wp2_with (go_at_call 61; refine HCon.out.mono ?_; rintro e w' ⟨rfl, hB1⟩; (have HB1 := hide_ (below_to HB.out hB1)); clear hB1)
        go_roundw
        case rel => exact ⟨j + 1, by omega, by go_num, HA2, HB1⟩
        case measure => simp [intOf]; omega
    · obtain rfl : j = l.length := by omega
      have HL : Hid (armZ l n = -1) := hide_ (by unfold armZ; rw [armI_none (fun i q hq => HA.out i q (List.getElem?_eq_some_iff.1 hq).1 hq)])
      go_wp2
      go_ret
      exact ⟨by rw [HL.out]; rfl, HB.out⟩
set_option maxRecDepth 100000 in
set_option maxHeartbeats 4000000 in
theorem armT_any (k n el : Int) (ps : List Pt) (va : Option Addr) (vc : Nat) (tg : Int) (w : World) (hl : ps.length ≤ 9223372036854775806) (htg : Hid (∀ p ∈ ps, 0 ≤ p.tag ∧ p.tag ≤ 255)) (hr : Hid (PRow w va ps)) :
    Calls Tryd.prog 46 #[.agg #[.int .i64 k, .int .i64 n, .int .i64 el, .slice va ps.length vc], .int .u64 tg] w fun e w' => e = .returned (.int .i64 (armZ ps tg)) ∧ Below w.heap.size w w' := by
  have hmf : ∀ (fn : Fn) (first cap : Array Value) (w : World), (Instr.makeFunc fn first cap).run Tryd.prog w = .ok (.func fn first cap) w := fun _ _ _ _ => rfl
  have hB := below2 w (.cells #[.int .i64 k, .int .i64 n, .int .i64 el, .slice va ps.length vc] 64) (.cells #[.int .u64 tg] 47)
  obtain ⟨k1, k2⟩ := blk2 w #[.int .i64 k, .int .i64 n, .int .i64 el, .slice va ps.length vc] #[.int .u64 tg] 64 47
  obtain ⟨w0, hw0⟩ : ∃ wx, wx = (w.alloc (.cells #[.int .i64 k, .int .i64 n, .int .i64 el, .slice va ps.length vc] 64)).alloc (.cells #[.int .u64 tg] 47) := ⟨_, rfl⟩
  rw [← hw0] at hB k1 k2
  have HB := hide_ hB
  have HCon := hide_ (indexT_any (w.heap.size + 1) tg va vc ps w0 hl htg (hide_ (hr.out.later hB)) (hide_ k2))
  have i3 := k1.cell 3
  simp at i3
  clear hB k1 k2
  go_enter Tryd.func46, Tryd.ntmps46
  go_upto_region 1 with fail
  rw [← hw0]
  clear hw0
  go_wp2_with (go_at_call 60; refine HCon.out.mono ?_; rintro e w' ⟨rfl, hB1⟩; (have HB1 := hide_ hB1); clear hB1)
  go_ret
  exact ⟨rfl, below_to HB.out HB1.out⟩
/-! ### greatest -/
set_option maxRecDepth 100000 in
set_option maxHeartbeats 4000000 in
theorem greatest_any (k n el : Int) (v : Value) (w : World) (hn : n = 1 ∨ n = 2 ∨ n = 4 ∨ n = 8) :
    Calls Tryd.prog 45 #[.agg #[.int .i64 k, .int .i64 n, .int .i64 el, v]] w fun e w' => e = .returned (.int .u64 (gr n)) ∧ Below w.heap.size w w' := by
  have hB := below1 w (.cells #[.int .i64 k, .int .i64 n, .int .i64 el, v] 64)
  have kx := Blk.newA w #[.int .i64 k, .int .i64 n, .int .i64 el, v] 64
  obtain ⟨wx, hwx⟩ : ∃ wx, wx = w.alloc (.cells #[.int .i64 k, .int .i64 n, .int .i64 el, v] 64) := ⟨_, rfl⟩
  rw [← hwx] at hB kx
  have HB := hide_ hB
  have i1 := kx.cell 1
  simp at i1
  clear hB kx
  rcases hn with rfl | rfl | rfl | rfl
  all_goals
    go_enter Tryd.func45, Tryd.ntmps45
    go_upto_region 1 with fail
    rw [← hwx]
    clear hwx
    go_wp2
    go_ret
    exact ⟨rfl, HB.out⟩
end Go.Proofs.YtlfjcihhcphjkaaDoor
