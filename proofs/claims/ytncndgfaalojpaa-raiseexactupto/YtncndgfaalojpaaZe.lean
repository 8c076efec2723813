/- types.Check: parts. -/
import Derived.Test.YtncndgfaalojpaaZd
namespace Go.Proofs.Ytncndgfaalojpaa
open Go.RowKit
set_option linter.unusedVariables false

set_option maxRecDepth 100000 in
set_option maxHeartbeats 4000000 in
theorem like_any (q p : Pt) (bp : Nat) (w : World) (hp : Hid (Blk w bp 58 (ptc p))) :
    Calls Try.prog 87 #[.agg #[.string q.label, .int .i64 q.tag, .int .i64 q.ty], .pointer (some ⟨bp, 0, none⟩)] w fun e w' => e = .returned (.bool (likeP q p)) ∧ Below w.heap.size w w' := by
  obtain ⟨lb, tg, ty⟩ := q
  obtain ⟨lb', tg', ty'⟩ := p
  have hB := below1 w (.cells #[.string lb, .int .i64 tg, .int .i64 ty] 58)
  have kx := Blk.newA w #[.string lb, .int .i64 tg, .int .i64 ty] 58
  have ky := hp.out.alloc (.cells #[.string lb, .int .i64 tg, .int .i64 ty] 58)
  obtain ⟨wx, hwx⟩ : ∃ wx, wx = w.alloc (.cells #[.string lb, .int .i64 tg, .int .i64 ty] 58) := ⟨_, rfl⟩
  rw [← hwx] at hB kx ky
  have HB := hide_ hB
  have i0 := kx.cell 0; have i1 := kx.cell 1
  have j0 := ky.cell 0; have j1 := ky.cell 1
  simp [ptc] at i0 i1 j0 j1
  clear hB kx ky
  unfold likeP
  go_enter Try.func87, Try.ntmps87
  go_upto_region 1 with fail
  rw [← hwx]
  clear hwx
  by_cases he : lb = lb'
  · subst he
    by_cases ht : tg = tg'
    · subst ht; go_wp2; go_ret; exact ⟨by simp, HB.out⟩
    · have hb : (tg == tg') = false := by simpa using ht
      go_wp2; go_ret; exact ⟨by simp, HB.out⟩
  · have hs : (lb.toList == lb'.toList) = false := by rw [str_eq]; exact decide_eq_false he
    go_wp2; go_ret; exact ⟨by simp [he], HB.out⟩
theorem any_take_succ {α : Type} {l : List α} {j : Nat} {x : α} (f : α → Bool) (h : l[j]? = some x) : (l.take (j + 1)).any f = ((l.take j).any f || f x) := by
  have hj := (List.getElem?_eq_some_iff.1 h).1
  rw [List.take_succ_eq_append_getElem hj, (List.getElem?_eq_some_iff.1 h).2]
  simp
set_option maxRecDepth 100000 in
set_option maxHeartbeats 4000000 in
theorem indexL_any (bp : Nat) (p : Pt) (a : Option Addr) (c : Nat) (l : List Pt) (w : World) (hl : l.length ≤ 9223372036854775806) (hr : Hid (PRow w a l)) (hp : Hid (Blk w bp 58 (ptc p))) :
    Calls Try.prog 89 #[.slice a l.length c, .func (.func 87) #[] #[.pointer (some ⟨bp, 0, none⟩)]] w fun e w' => ∃ r : Int, e = .returned (.int .i64 r) ∧ Hid (decide (0 ≤ r) = thereP l p) ∧ Below w.heap.size w w' := by
  go_enter Try.func89, Try.ntmps89
  go_wp2_with fail
  go_loopw [8] (fun x8 wr => ∃ j : Nat, j ≤ l.length ∧ x8 = .int .i64 (j : Int) ∧ Hid ((l.take j).any (fun q => likeP q p) = false) ∧ Hid (Below w.heap.size w wr)) (fun x8 _ => l.length - (intOf x8).toNat)
  case atStart => exact ⟨0, Nat.zero_le _, rfl, hide_ rfl, hide_ (Below.refl _ _)⟩
  case round =>
    obtain ⟨j, hj, rfl, HA, HB⟩ := hrel
    generalize wr = wq at *
    by_cases hlt : j < l.length
    · have hlt' : (j : Int) < l.length := by omega
      obtain ⟨b, off, rfl, hb, hc⟩ := (hr.out.later HB.out).open (by omega)
      have hx : l[j]? = some (l[j]'hlt) := List.getElem?_eq_getElem hlt
      have hcx := hc j _ hx
      have HX := hide_ hx
      have HP := hide_ (hp.out.later HB.out)
      generalize l[j]'hlt = q at *
      have i0 := hcx 0 (by decide); have i1 := hcx 1 (by decide); have i2 := hcx 2 (by decide)
      simp [ptc] at i0 i1 i2
      clear hc hx hcx
      cases hm : likeP q p with
      | true =>
        have HL : Hid (thereP l p = true) := hide_ (by
          unfold thereP
          rw [List.any_eq_true]
          exact ⟨q, List.mem_of_getElem? HX.out, hm⟩)
        have HCon : Hid (Calls Try.prog 87 #[.agg #[.string q.label, .int .i64 q.tag, .int .i64 q.ty], .pointer (some ⟨bp, 0, none⟩)] wq fun e w' => e = .returned (.bool true) ∧ Below wq.heap.size wq w') := hide_ (by
          have := like_any q p bp wq HP
          rwa [hm] at this)
        clear hm
        go_wp2_with (go_at_call 87; refine HCon.out.mono ?_; rintro e w' ⟨rfl, hB1⟩; (have HB1 := hide_ hB1); clear hB1)
        go_ret
        exact ⟨(j : Int), rfl, hide_ (by rw [HL.out]; simp), below_to HB.out HB1.out⟩
      | false =>
        have HA2 : Hid ((l.take (j + 1)).any (fun q => likeP q p) = false) := hide_ (by rw [any_take_succ _ HX.out, HA.out, hm]; rfl)
        have HCon : Hid (Calls Try.prog 87 #[.agg #[.string q.label, .int .i64 q.tag, .int .i64 q.ty], .pointer (some ⟨bp, 0, none⟩)] wq fun e w' => e = .returned (.bool false) ∧ Below wq.heap.size wq w') := hide_ (by
          have := like_any q p bp wq HP
          rwa [hm] at this)
        clear hm
        go_wp2_with (go_at_call 87; refine HCon.out.mono ?_; rintro e w' ⟨rfl, hB1⟩; (have HB1 := hide_ (below_to HB.out hB1)); clear hB1)
        go_roundw
        case rel => exact ⟨j + 1, by omega, by go_num, HA2, HB1⟩
        case measure => simp [intOf]; omega
    · obtain rfl : j = l.length := by omega
      have HL : Hid (thereP l p = false) := hide_ (by have h := HA.out; rw [List.take_length] at h; exact h)
      go_wp2
      go_ret
      exact ⟨-1, rfl, hide_ (by rw [HL.out]; decide), HB.out⟩
set_option maxRecDepth 100000 in
set_option maxHeartbeats 4000000 in
theorem isThere_any (p : Pt) (a : Option Addr) (c : Nat) (l : List Pt) (n : Nat) (w : World) (hn : Hid (l.length = n)) (hl : n ≤ 9223372036854775806) (hr : Hid (PRow w a l)) :
    Calls Try.prog 81 #[.slice a n c, .agg #[.string p.label, .int .i64 p.tag, .int .i64 p.ty]] w fun e w' => e = .returned (.bool (thereP l p)) ∧ Below w.heap.size w w' := by
  have hmf : ∀ (fn : Fn) (first cap : Array Value) (w : World), (Instr.makeFunc fn first cap).run Try.prog w = .ok (.func fn first cap) w := fun _ _ _ _ => rfl
  obtain rfl := hn.out
  have hB := below1 w (.cells #[.string p.label, .int .i64 p.tag, .int .i64 p.ty] 58)
  have kx := Blk.newA w #[.string p.label, .int .i64 p.tag, .int .i64 p.ty] 58
  obtain ⟨wx, hwx⟩ : ∃ wx, wx = w.alloc (.cells #[.string p.label, .int .i64 p.tag, .int .i64 p.ty] 58) := ⟨_, rfl⟩
  rw [← hwx] at hB kx
  have HCon : Hid (Calls Try.prog 86 #[.slice a l.length c, .func (.func 87) #[] #[.pointer (some ⟨w.heap.size, 0, none⟩)]] wx fun e w' => e = .returned (.bool (thereP l p)) ∧ Below wx.heap.size wx w') := hide_ (by
    have HI := hide_ (indexL_any w.heap.size p a c l wx hl (hide_ (hr.out.later hB)) (hide_ kx))
    clear hwx hB kx hr
    go_enter Try.func86, Try.ntmps86
    go_wp2_with (go_at_call 89; refine HI.out.mono ?_; rintro e w' ⟨r, rfl, HR, hB⟩; (have HB := hide_ hB); clear hB)
    go_ret
    exact ⟨by rw [← HR.out]; rfl, HB.out⟩)
  have HB := hide_ hB
  clear hB kx
  go_enter Try.func81, Try.ntmps81
  go_upto_region 1 with fail
  rw [← hwx]
  clear hwx
  go_wp2_with (go_at_call 86; refine HCon.out.mono ?_; rintro e w' ⟨rfl, hB1⟩; (have HB1 := hide_ hB1); clear hB1)
  go_ret
  exact ⟨rfl, below_to HB.out HB1.out⟩
theorem allP_of {r : Pt → Bool} {ps : List Pt} {m : Int} (h0 : 0 < ps.length) (h1 : ps.length ≤ 64) (h : ∀ j, j < ps.length → okP r ps m j = true) : allP r ps m = true := by
  unfold allP
  rw [Bool.and_eq_true, List.all_eq_true]
  exact ⟨decide_eq_true ⟨h0, h1⟩, fun j hj => h j (List.mem_range.1 hj)⟩
theorem allP_not {r : Pt → Bool} {ps : List Pt} {m : Int} {j : Nat} (hj : j < ps.length) (h : okP r ps m j = false) : allP r ps m = false := by
  unfold allP
  rw [Bool.and_eq_false_iff]
  right
  rw [List.all_eq_false]
  exact ⟨j, List.mem_range.2 hj, by rw [h]; decide⟩
theorem allP_len {r : Pt → Bool} {ps : List Pt} {m : Int} (h : ¬ (0 < ps.length ∧ ps.length ≤ 64)) : allP r ps m = false := by
  unfold allP
  rw [decide_eq_false h]
  rfl
theorem okP_at {r : Pt → Bool} {ps : List Pt} {m : Int} {j : Nat} {p : Pt} (h : ps[j]? = some p) : okP r ps m j = (r p && !thereP (ps.take j) p && inB p.ty m) := by
  have e : ps.getD j pt0 = p := by simp [List.getD, h]
  unfold okP
  rw [e]
end Go.Proofs.Ytncndgfaalojpaa
