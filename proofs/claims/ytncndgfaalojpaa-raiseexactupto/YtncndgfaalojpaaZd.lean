/- types.Check: the small functions. -/
import Derived.Test.YtncndgfaalojpaaZc
namespace Go.Proofs.Ytncndgfaalojpaa
open Go.RowKit
set_option linter.unusedVariables false

set_option maxRecDepth 100000 in
set_option maxHeartbeats 4000000 in
theorem hasElem_any (k : Int) (w : World) : Calls Try.prog 68 #[.int .i64 k] w fun e w' => e = .returned (.bool (hasE k)) ∧ w = w' := by
  unfold hasE
  go_enter Try.func68, Try.ntmps68
  by_cases h0 : k = 4
  · subst h0; go_wp2; go_ret; exact ⟨by simp, rfl⟩
  by_cases h1 : k = 5
  · subst h1; go_wp2; go_ret; exact ⟨by simp, rfl⟩
  by_cases h2 : k = 6
  · subst h2; go_wp2; go_ret; exact ⟨by simp, rfl⟩
  go_wp2
  go_ret
  exact ⟨by simp [h0, h1, h2], rfl⟩
set_option maxRecDepth 100000 in
set_option maxHeartbeats 4000000 in
theorem isBelow_any (n m : Int) (w : World) : Calls Try.prog 70 #[.int .i64 n, .int .i64 m] w fun e w' => e = .returned (.bool (inB n m)) ∧ w = w' := by
  unfold inB
  go_enter Try.func70, Try.ntmps70
  by_cases h0 : 0 ≤ n
  · by_cases h1 : n < m
    · go_wp2; go_ret; exact ⟨by simp [h0, h1], rfl⟩
    · go_wp2; go_ret; exact ⟨by simp [h1], rfl⟩
  · go_wp2; go_ret; exact ⟨by simp; omega, rfl⟩
set_option maxRecDepth 100000 in
set_option maxHeartbeats 4000000 in
theorem isCount_any (n : Int) (w : World) : Calls Try.prog 78 #[.int .i64 n] w fun e w' => e = .returned (.bool (isCnt n)) ∧ w = w' := by
  unfold isCnt
  go_enter Try.func78, Try.ntmps78
  by_cases h0 : 1 ≤ n
  · by_cases h1 : n ≤ 1048576
    · go_wp2; go_ret; exact ⟨by simp [h0, h1], rfl⟩
    · go_wp2; go_ret; exact ⟨by simp [h1], rfl⟩
  · go_wp2; go_ret; exact ⟨by simp; omega, rfl⟩
set_option maxRecDepth 100000 in
set_option maxHeartbeats 4000000 in
theorem rightNumber_any (t : Ty) (v : Value) (w : World) : Calls Try.prog 65 #[.agg #[.int .i64 t.k, .int .i64 t.n, .int .i64 t.e, v]] w fun e w' => e = .returned (.bool (nOk t.k t.n)) ∧ Below w.heap.size w w' := by
  obtain ⟨k, n, el, ps⟩ := t
  have hB := below1 w (.cells #[.int .i64 k, .int .i64 n, .int .i64 el, v] 43)
  have kx := Blk.newA w #[.int .i64 k, .int .i64 n, .int .i64 el, v] 43
  obtain ⟨wx, hwx⟩ : ∃ wx, wx = w.alloc (.cells #[.int .i64 k, .int .i64 n, .int .i64 el, v] 43) := ⟨_, rfl⟩
  rw [← hwx] at hB kx
  have HB := hide_ hB
  have i0 := kx.cell 0; have i1 := kx.cell 1; have i2 := kx.cell 2; have i3 := kx.cell 3
  simp at i0 i1 i2 i3
  clear hB kx
  go_enter Try.func65, Try.ntmps65
  go_upto_region 1 with fail
  rw [← hwx]
  clear hwx
  by_cases h1 : k = 1
  · subst h1
    by_cases n1 : n = 1
    · subst n1; go_wp2; go_ret; exact ⟨by simp [nOk], HB.out⟩
    by_cases n2 : n = 2
    · subst n2; go_wp2; go_ret; exact ⟨by simp [nOk], HB.out⟩
    by_cases n4 : n = 4
    · subst n4; go_wp2; go_ret; exact ⟨by simp [nOk], HB.out⟩
    by_cases n8 : n = 8
    · subst n8; go_wp2; go_ret; exact ⟨by simp [nOk], HB.out⟩
    have b1 : (n == 1) = false := by simpa using n1
    have b2 : (n == 2) = false := by simpa using n2
    have b4 : (n == 4) = false := by simpa using n4
    have b8 : (n == 8) = false := by simpa using n8
    go_wp2; go_ret; exact ⟨by simp [nOk, n1, n2, n4, n8], HB.out⟩
  have c1 : (k == 1) = false := by simpa using h1
  have HQ : Hid (∀ n, nOk 4 n = isCnt n ∧ nOk 5 n = isCnt n) := hide_ (fun n => by simp [nOk, isCnt])
  by_cases h4 : k = 4
  · subst h4
    go_wp2_with (go_at_call 78; refine (isCount_any n _).mono ?_; rintro e w' ⟨rfl, rfl⟩)
    go_ret; exact ⟨by rw [(HQ.out n).1]; rfl, HB.out⟩
  have c4 : (k == 4) = false := by simpa using h4
  by_cases h5 : k = 5
  · subst h5
    go_wp2_with (go_at_call 78; refine (isCount_any n _).mono ?_; rintro e w' ⟨rfl, rfl⟩)
    go_ret; exact ⟨by rw [(HQ.out n).2]; rfl, HB.out⟩
  have c5 : (k == 5) = false := by simpa using h5
  have HZ : Hid (∀ k, (k = 2 ∨ k = 3 ∨ k = 6 ∨ k = 7 ∨ k = 8) → nOk k n = (n == 0)) := hide_ (fun k h => by
    by_cases hn : n = 0
    · subst hn; rcases h with rfl | rfl | rfl | rfl | rfl <;> simp [nOk]
    · have hb : (n == 0) = false := by simpa using hn
      rw [hb]
      unfold nOk
      rw [decide_eq_false]
      omega)
  by_cases h2 : k = 2
  · subst h2; go_wp2; go_ret; exact ⟨by rw [HZ.out _ (by omega)]; rfl, HB.out⟩
  have c2 : (k == 2) = false := by simpa using h2
  by_cases h3 : k = 3
  · subst h3; go_wp2; go_ret; exact ⟨by rw [HZ.out _ (by omega)]; rfl, HB.out⟩
  have c3 : (k == 3) = false := by simpa using h3
  by_cases h6 : k = 6
  · subst h6; go_wp2; go_ret; exact ⟨by rw [HZ.out _ (by omega)]; rfl, HB.out⟩
  have c6 : (k == 6) = false := by simpa using h6
  by_cases h7 : k = 7
  · subst h7; go_wp2; go_ret; exact ⟨by rw [HZ.out _ (by omega)]; rfl, HB.out⟩
  have c7 : (k == 7) = false := by simpa using h7
  by_cases h8 : k = 8
  · subst h8; go_wp2; go_ret; exact ⟨by rw [HZ.out _ (by omega)]; rfl, HB.out⟩
  have c8 : (k == 8) = false := by simpa using h8
  go_wp2; go_ret; exact ⟨by simp [nOk, h1, h2, h3, h4, h5, h6, h7, h8], HB.out⟩
set_option maxRecDepth 100000 in
set_option maxHeartbeats 4000000 in
theorem rightElem_any (t : Ty) (v : Value) (m : Int) (w : World) : Calls Try.prog 66 #[.agg #[.int .i64 t.k, .int .i64 t.n, .int .i64 t.e, v], .int .i64 m] w fun e w' => e = .returned (.bool (elemOk t.k t.e m)) ∧ Below w.heap.size w w' := by
  obtain ⟨k, n, el, ps⟩ := t
  have hB := below1 w (.cells #[.int .i64 k, .int .i64 n, .int .i64 el, v] 43)
  have kx := Blk.newA w #[.int .i64 k, .int .i64 n, .int .i64 el, v] 43
  obtain ⟨wx, hwx⟩ : ∃ wx, wx = w.alloc (.cells #[.int .i64 k, .int .i64 n, .int .i64 el, v] 43) := ⟨_, rfl⟩
  rw [← hwx] at hB kx
  have HB := hide_ hB
  have i0 := kx.cell 0; have i1 := kx.cell 1; have i2 := kx.cell 2; have i3 := kx.cell 3
  simp at i0 i1 i2 i3
  clear hB kx
  cases hk : hasE k with
  | true =>
    have HE : Hid (elemOk k el m = inB el m) := hide_ (by unfold elemOk; rw [if_pos hk])
    have HCon : Hid (∀ w, Calls Try.prog 68 #[.int .i64 k] w fun e w' => e = .returned (.bool true) ∧ w = w') := hide_ (fun w => by have := hasElem_any k w; rwa [hk] at this)
    clear hk
    go_enter Try.func66, Try.ntmps66
    go_upto_region 1 with fail
    rw [← hwx]
    clear hwx
    go_wp2_with (first | (go_at_call 68; refine (HCon.out _).mono ?_; rintro e w' ⟨rfl, rfl⟩) | (go_at_call 70; refine (isBelow_any el m _).mono ?_; rintro e w' ⟨rfl, rfl⟩))
    go_ret; exact ⟨by rw [HE.out]; rfl, HB.out⟩
  | false =>
    have HE : Hid (elemOk k el m = (el == 0)) := hide_ (by
      unfold elemOk
      rw [if_neg (by rw [hk]; decide)]
      by_cases h : el = 0
      · subst h; rfl
      · simp [h])
    have HCon : Hid (∀ w, Calls Try.prog 68 #[.int .i64 k] w fun e w' => e = .returned (.bool false) ∧ w = w') := hide_ (fun w => by have := hasElem_any k w; rwa [hk] at this)
    clear hk
    go_enter Try.func66, Try.ntmps66
    go_upto_region 1 with fail
    rw [← hwx]
    clear hwx
    go_wp2_with (first | (go_at_call 68; refine (HCon.out _).mono ?_; rintro e w' ⟨rfl, rfl⟩))
    go_ret; exact ⟨by rw [HE.out]; rfl, HB.out⟩
set_option maxRecDepth 100000 in
set_option maxHeartbeats 4000000 in
theorem isField_any (p : Pt) (w : World) : Calls Try.prog 79 #[.agg #[.string p.label, .int .i64 p.tag, .int .i64 p.ty]] w fun e w' => e = .returned (.bool (fieldOk p)) ∧ Below w.heap.size w w' := by
  obtain ⟨lb, tg, ty⟩ := p
  have hB := below1 w (.cells #[.string lb, .int .i64 tg, .int .i64 ty] 58)
  have kx := Blk.newA w #[.string lb, .int .i64 tg, .int .i64 ty] 58
  obtain ⟨wx, hwx⟩ : ∃ wx, wx = w.alloc (.cells #[.string lb, .int .i64 tg, .int .i64 ty] 58) := ⟨_, rfl⟩
  rw [← hwx] at hB kx
  have HB := hide_ hB
  have i0 := kx.cell 0; have i1 := kx.cell 1; have i2 := kx.cell 2
  simp at i0 i1 i2
  clear hB kx
  cases hk : isName lb with
  | true =>
    have HE : Hid (fieldOk ⟨lb, tg, ty⟩ = (tg == 0)) := hide_ (by
      unfold fieldOk
      rw [hk]
      by_cases h : tg = 0
      · subst h; rfl
      · simp [h])
    have HCon : Hid (∀ w, Calls Try.prog 69 #[.string lb] w fun e w' => e = .returned (.bool true) ∧ w = w') := hide_ (fun w => by have := name_any lb w; rwa [hk] at this)
    clear hk
    go_enter Try.func79, Try.ntmps79
    go_upto_region 1 with fail
    rw [← hwx]
    clear hwx
    go_wp2_with (go_at_call 69; refine (HCon.out _).mono ?_; rintro e w' ⟨rfl, rfl⟩)
    go_ret; exact ⟨by rw [HE.out]; rfl, HB.out⟩
  | false =>
    have HE : Hid (fieldOk ⟨lb, tg, ty⟩ = false) := hide_ (by unfold fieldOk; rw [hk]; rfl)
    have HCon : Hid (∀ w, Calls Try.prog 69 #[.string lb] w fun e w' => e = .returned (.bool false) ∧ w = w') := hide_ (fun w => by have := name_any lb w; rwa [hk] at this)
    clear hk
    go_enter Try.func79, Try.ntmps79
    go_upto_region 1 with fail
    rw [← hwx]
    clear hwx
    go_wp2_with (go_at_call 69; refine (HCon.out _).mono ?_; rintro e w' ⟨rfl, rfl⟩)
    go_ret; exact ⟨by rw [HE.out]; rfl, HB.out⟩
theorem isEmpty_dec (s : ByteArray) : (s.toList == []) = decide (s = ⟨#[]⟩) := by
  by_cases h : s = ⟨#[]⟩
  · subst h; simp
  · rw [decide_eq_false h]; exact str_ne s [] h
set_option maxRecDepth 100000 in
set_option maxHeartbeats 4000000 in
theorem isArm_any (p : Pt) (w : World) : Calls Try.prog 80 #[.agg #[.string p.label, .int .i64 p.tag, .int .i64 p.ty]] w fun e w' => e = .returned (.bool (armOk p)) ∧ Below w.heap.size w w' := by
  obtain ⟨lb, tg, ty⟩ := p
  have hB := below1 w (.cells #[.string lb, .int .i64 tg, .int .i64 ty] 58)
  have kx := Blk.newA w #[.string lb, .int .i64 tg, .int .i64 ty] 58
  obtain ⟨wx, hwx⟩ : ∃ wx, wx = w.alloc (.cells #[.string lb, .int .i64 tg, .int .i64 ty] 58) := ⟨_, rfl⟩
  rw [← hwx] at hB kx
  have HB := hide_ hB
  have i0 := kx.cell 0; have i1 := kx.cell 1; have i2 := kx.cell 2
  simp at i0 i1 i2
  clear hB kx
  unfold armOk
  go_enter Try.func80, Try.ntmps80
  go_upto_region 1 with fail
  rw [← hwx]
  clear hwx
  by_cases h0 : lb = ⟨#[]⟩
  · subst h0
    by_cases h1 : 0 ≤ tg
    · by_cases h2 : tg ≤ 255
      · go_wp2; go_ret; exact ⟨by simp, HB.out⟩
      · go_wp2; go_ret; exact ⟨by simp; omega, HB.out⟩
    · go_wp2; go_ret; exact ⟨by simp; omega, HB.out⟩
  · have k0 := str_ne lb [] h0
    go_wp2; go_ret; exact ⟨by simp [h0], HB.out⟩
end Go.Proofs.Ytncndgfaalojpaa
