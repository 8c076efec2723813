/- The token at a place: tokenAt. -/
import Derived.Test.YtokepgimjdalaaaG
namespace Go.Proofs.Ytokepgimjdalaaa
open Go.RowKit
set_option linter.unusedVariables false

theorem drop_at (s : ByteArray) (p : Nat) (h : p < s.size) : s.data.toList.drop p = s[p]'h :: s.data.toList.drop (p + 1) := by
  have h2 : p < s.data.toList.length := by rw [← Lib.size_eq]; exact h
  rw [List.drop_eq_getElem_cons h2]
  congr 1
theorem mem_at {s : ByteArray} {x : UInt8} (h : x ∈ s.data.toList) : ∃ i, ∃ hi : i < s.size, s[i]'hi = x := by
  obtain ⟨i, hi, rfl⟩ := List.getElem_of_mem h
  exact ⟨i, by rw [Lib.size_eq]; exact hi, rfl⟩
theorem allD_of {s : ByteArray} (h : ∀ x ∈ s.data.toList, digit x = true) : allD s := fun k hk => by
  refine h _ ?_
  have := at_list s k hk
  exact List.mem_of_getElem? this
/-- The token at p ends at k. -/
theorem wl_at (s : ByteArray) (p k : Nat) (c : UInt8) (hp : p < s.size) (hc : s[p]'hp = c) (hk : p + 1 ≤ k) (hk2 : k ≤ s.size) (hf : (letter c || digit c || mark c) = true)
    (hall : ∀ j (h : j < s.size), p + 1 ≤ j → j < k → follows c (s[j]'h) = true) (hend : ∀ h : k < s.size, follows c (s[k]'h) = false) :
    wl (s.data.toList.drop p) = k - p ∧ (s.data.toList.drop p).take (k - p) = (s.extract p k).data.toList ∧ (s.extract p k).size = k - p ∧ (∃ r, (s.extract p k).data.toList = c :: r ∧ ∀ x ∈ r, follows c x = true) := by
  have e1 : s.data.toList.drop p = c :: s.data.toList.drop (p + 1) := by rw [drop_at s p hp, hc]
  have e2 : s.data.toList.drop (p + 1) = (s.data.toList.drop (p + 1)).take (k - (p + 1)) ++ s.data.toList.drop k := by
    have := (List.take_append_drop (k - (p + 1)) (s.data.toList.drop (p + 1))).symm
    rw [List.drop_drop, show p + 1 + (k - (p + 1)) = k by omega] at this
    exact this
  have e3 : ∀ x ∈ (s.data.toList.drop (p + 1)).take (k - (p + 1)), follows c x = true := by
    intro x hx
    obtain ⟨i, hi, rfl⟩ := List.getElem_of_mem hx
    rw [List.length_take, List.length_drop, ← Lib.size_eq] at hi
    have h1 : p + 1 + i < s.size := by omega
    have := hall (p + 1 + i) h1 (by omega) (by omega)
    have h2 := at_list s (p + 1 + i) h1
    rw [List.getElem_take, List.getElem_drop]
    exact this
  have e4 : ∀ x y, s.data.toList.drop k = x :: y → follows c x = false := by
    intro x y h
    rcases Nat.lt_or_ge k s.size with h1 | h1
    · rw [drop_at s k h1] at h
      injection h with h _
      rw [← h]
      exact hend h1
    · rw [List.drop_of_length_le (by rw [← Lib.size_eq]; exact h1)] at h
      cases h
  have e5 : (s.data.toList.drop (p + 1)).takeWhile (follows c) = (s.data.toList.drop (p + 1)).take (k - (p + 1)) := by
    conv => lhs; rw [e2]
    exact takeWhile_app e3 e4
  have e6 : wl (s.data.toList.drop p) = k - p := by
    rw [e1, wl, if_pos hf, e5, List.length_take, List.length_drop, ← Lib.size_eq]
    omega
  have e7 : (s.extract p k).data.toList = (s.data.toList.drop p).take (k - p) := Lib.extract_data s p k
  refine ⟨e6, e7.symm, ?_, (s.data.toList.drop (p + 1)).take (k - (p + 1)), ?_, e3⟩
  · rw [Lib.size_eq, e7, List.length_take, List.length_drop, ← Lib.size_eq]; omega
  · rw [e7, e1, show k - p = (k - (p + 1)) + 1 by omega, List.take_succ_cons]
theorem wl_none {c : UInt8} {r : List UInt8} (h1 : letter c = false) (h2 : digit c = false) (h3 : mark c = false) : wl (c :: r) = 0 := by
  rw [wl, h1, h2, h3]; rfl
theorem ret21 {R : Ending → World → Prop} {tmps : Array Value} {g : Nat} {x0 x1 x2 x3 x4 : Value} {w : World} (hp : tmps.getD 4 undef = .pointer (some ⟨g, 0, none⟩)) (hK : Blk w g 42 [x0, x1, x2, x3, x4]) (hR : R (.returned (.tuple #[.agg #[x0, x1, x2, x3, x4], tmps.getD 5 undef])) w) :
    bodyPost Try.prog Try.f24 R Exit.ret ⟨tmps, []⟩ w :=
  bodyPost_ret (results_cell_tmp_row rfl _ _ _ _ #[x0, x1, x2, x3, x4] _ _ hp hK Try.underlying42 rfl (by show _ = some 5; kernel_rfl)) rfl hR
/-- The token at place p, or none; what is wrong with it. -/
def wAt (s : ByteArray) (p : Nat) : List UInt8 := (s.data.toList.drop p).take (wl (s.data.toList.drop p))
set_option maxRecDepth 100000 in
set_option maxHeartbeats 4000000 in
theorem tokenAt_name (s : ByteArray) (p : Nat) (c : UInt8) (w : World) (hs : s.size ≤ 65536) (hp : p < s.size) (hc : s[p]'hp = c) (hl : letter c = true) :
    Calls Try.prog 24 #[.string s, .int .i64 p] w fun e w' => e = .returned (.tuple #[tkv (tkO (wAt s p) p), .int .i64 (erW (wAt s p))]) ∧ Below w.heap.size w w' := by
  have hp' : (p : Int) < s.size := by omega
  have hd : digit c = false := by simp [letter, digit] at *; omega
  have hall0 : Hid (∀ j (h : j < s.size), p + 1 ≤ j → j < p + 1 → follows c (s[j]'h) = true) := fun j h h1 h2 => by omega
  go_enter Try.func24, Try.ntmps24
  go_wp2_with (first | (go_at_call 29; refine (letter_any c _).mono ?_; rintro e w' ⟨rfl, rfl⟩; rw [hl]) | (go_at_call 35; refine (digit_any c _).mono ?_; rintro e w' ⟨rfl, rfl⟩; rw [hd]))
  go_loopw [9] (fun en wr => ∃ k : Nat, p + 1 ≤ k ∧ k ≤ s.size ∧ en = .int .i64 k ∧ Hid (∀ j (h : j < s.size), p + 1 ≤ j → j < k → follows c (s[j]'h) = true) ∧ w.alloc (.cells #[.int .i64 0, .string ⟨#[]⟩, .int .i64 0, .int .i64 0, .int .i64 0] 42) = wr) (fun en _ => s.size - (intOf en).toNat)
  case atStart => exact ⟨p + 1, Nat.le_refl _, by omega, by go_num, hall0, rfl⟩
  case round =>
    obtain ⟨k, hk, hk2, rfl, HA, rfl⟩ := hrel
    have fin : (∀ h : k < s.size, follows c (s[k]'h) = false) → Hid (wAt s p = (s.extract p k).data.toList ∧ (s.extract p k).size = k - p ∧ ∃ r, (s.extract p k).data.toList = c :: r ∧ ∀ x ∈ r, follows c x = true) := fun hend => by
      obtain ⟨e1, e2, e3, e4⟩ := wl_at s p k c hp hc hk hk2 (by rw [hl]; simp) HA.out hend
      exact ⟨by rw [wAt, e1, e2], e3, e4⟩
    by_cases hlt : k < s.size
    · have hlt' : (k : Int) < s.size := by omega
      obtain ⟨x, hx⟩ : ∃ x, s[k]'hlt = x := ⟨_, rfl⟩
      have hfx : follows c x = goes x := by unfold follows; rw [hl]; simp
      cases hg : goes x
      · have HF := fin (fun _ => by rw [hx, hfx, hg])
        clear fin
        obtain ⟨k1, k2, r, k3, k4⟩ := HF.out
        have HW := hide_ k1
        have HL : Hid ((s.extract p k).data.toList = c :: r) := k3
        have hk' : (k : Int) ≤ s.size := by omega
        skip
        clear k1 k3 k4 HF
        go_wp2_with (go_at_call 30; refine (goes_any x _).mono ?_; rintro e w' ⟨rfl, rfl⟩; rw [hg])
        refine (tokenOf_name (s.extract p k) p c r _ (by omega) (by omega) HL hl).mono ?_; rintro e w2 ⟨rfl, hB2⟩
        obtain ⟨T, hT⟩ : ∃ T, tkO (s.extract p k).data.toList p = T := ⟨_, rfl⟩
        obtain ⟨E, hE⟩ : ∃ E : Nat, erW (s.extract p k).data.toList = E := ⟨_, rfl⟩
        rw [hT, hE]
        have HT := hide_ hT
        have HE := hide_ hE
        clear hT hE
        obtain ⟨Tk, Tt, Tn, Ta, Te⟩ := T
        unfold tkv
        have HB : Hid (Below w.heap.size w w2) := ((Below.refl _ _).alloc (Nat.le_refl _) _).trans (hB2.mono (by simp))
        have K4 := hide_ ((Blk.newA w #[.int .i64 0, .string ⟨#[]⟩, .int .i64 0, .int .i64 0, .int .i64 0] 42).later hB2)
        have f0 := K4.out.frozen 0; have f1 := K4.out.frozen 1; have f2 := K4.out.frozen 2; have f3 := K4.out.frozen 3; have f4 := K4.out.frozen 4
        have x0 := K4.out.cell 0; have x1 := K4.out.cell 1; have x2 := K4.out.cell 2; have x3 := K4.out.cell 3; have x4 := K4.out.cell 4
        simp at x0 x1 x2 x3 x4
        clear hB2
        go_wp2
        have KK := ((((K4.out.set 0 (.int .i64 Tk)).set 1 (.string Tt)).set 2 (.int .i64 Tn)).set 3 (.int .i64 Ta)).set 4 (.int .i64 Te)
        refine ret21 (R := fun e w' => e = .returned (.tuple #[tkv (tkO (wAt s p) p), .int .i64 (erW (wAt s p))]) ∧ Below w.heap.size w w') rfl KK (And.intro (by rw [HW.out, HT.out, HE.out]; rfl) ?_)
        exact ((((HB.out.setCell (Nat.le_refl _) _).setCell (Nat.le_refl _) _).setCell (Nat.le_refl _) _).setCell (Nat.le_refl _) _).setCell (Nat.le_refl _) _
      · have HA2 : Hid (∀ j (h : j < s.size), p + 1 ≤ j → j < k + 1 → follows c (s[j]'h) = true) := fun j h h1 h2 => by
          rcases Nat.lt_or_ge j k with h3 | h3
          · exact HA.out j h h1 h3
          · obtain rfl : j = k := by omega
            rw [hx, hfx, hg]
        clear fin HA
        go_wp2_with (go_at_call 30; refine (goes_any x _).mono ?_; rintro e w' ⟨rfl, rfl⟩; rw [hg])
        go_roundw
        case rel => exact ⟨k + 1, by omega, by omega, by go_num, HA2, by trivial⟩
        case measure => simp [intOf]; omega
    · obtain rfl : k = s.size := by omega
      have HF := fin (fun h => absurd h (by omega))
      clear fin
      obtain ⟨k1, k2, r, k3, k4⟩ := HF.out
      have HW := hide_ k1
      have HL : Hid ((s.extract p s.size).data.toList = c :: r) := k3
      skip
      clear k1 k3 k4 HF
      go_wp2_with fail
      refine (tokenOf_name (s.extract p s.size) p c r _ (by omega) (by omega) HL hl).mono ?_; rintro e w2 ⟨rfl, hB2⟩
      obtain ⟨T, hT⟩ : ∃ T, tkO (s.extract p s.size).data.toList p = T := ⟨_, rfl⟩
      obtain ⟨E, hE⟩ : ∃ E : Nat, erW (s.extract p s.size).data.toList = E := ⟨_, rfl⟩
      rw [hT, hE]
      have HT := hide_ hT
      have HE := hide_ hE
      clear hT hE
      obtain ⟨Tk, Tt, Tn, Ta, Te⟩ := T
      unfold tkv
      have HB : Hid (Below w.heap.size w w2) := ((Below.refl _ _).alloc (Nat.le_refl _) _).trans (hB2.mono (by simp))
      have K4 := hide_ ((Blk.newA w #[.int .i64 0, .string ⟨#[]⟩, .int .i64 0, .int .i64 0, .int .i64 0] 42).later hB2)
      have f0 := K4.out.frozen 0; have f1 := K4.out.frozen 1; have f2 := K4.out.frozen 2; have f3 := K4.out.frozen 3; have f4 := K4.out.frozen 4
      have x0 := K4.out.cell 0; have x1 := K4.out.cell 1; have x2 := K4.out.cell 2; have x3 := K4.out.cell 3; have x4 := K4.out.cell 4
      simp at x0 x1 x2 x3 x4
      clear hB2
      go_wp2
      have KK := ((((K4.out.set 0 (.int .i64 Tk)).set 1 (.string Tt)).set 2 (.int .i64 Tn)).set 3 (.int .i64 Ta)).set 4 (.int .i64 Te)
      refine ret21 (R := fun e w' => e = .returned (.tuple #[tkv (tkO (wAt s p) p), .int .i64 (erW (wAt s p))]) ∧ Below w.heap.size w w') rfl KK (And.intro (by rw [HW.out, HT.out, HE.out]; rfl) ?_)
      exact ((((HB.out.setCell (Nat.le_refl _) _).setCell (Nat.le_refl _) _).setCell (Nat.le_refl _) _).setCell (Nat.le_refl _) _).setCell (Nat.le_refl _) _
set_option maxRecDepth 100000 in
set_option maxHeartbeats 4000000 in
theorem tokenAt_number (s : ByteArray) (p : Nat) (c : UInt8) (w : World) (hs : s.size ≤ 65536) (hp : p < s.size) (hc : s[p]'hp = c) (hl : letter c = false) (hd : digit c = true) :
    Calls Try.prog 24 #[.string s, .int .i64 p] w fun e w' => e = .returned (.tuple #[tkv (tkO (wAt s p) p), .int .i64 (erW (wAt s p))]) ∧ Below w.heap.size w w' := by
  have hp' : (p : Int) < s.size := by omega
  have hall0 : Hid (∀ j (h : j < s.size), p + 1 ≤ j → j < p + 1 → follows c (s[j]'h) = true) := fun j h h1 h2 => by omega
  go_enter Try.func24, Try.ntmps24
  go_wp2_with (first | (go_at_call 29; refine (letter_any c _).mono ?_; rintro e w' ⟨rfl, rfl⟩; rw [hl]) | (go_at_call 35; refine (digit_any c _).mono ?_; rintro e w' ⟨rfl, rfl⟩; rw [hd]))
  go_loopw [9] (fun en wr => ∃ k : Nat, p + 1 ≤ k ∧ k ≤ s.size ∧ en = .int .i64 k ∧ Hid (∀ j (h : j < s.size), p + 1 ≤ j → j < k → follows c (s[j]'h) = true) ∧ w.alloc (.cells #[.int .i64 0, .string ⟨#[]⟩, .int .i64 0, .int .i64 0, .int .i64 0] 42) = wr) (fun en _ => s.size - (intOf en).toNat)
  case atStart => exact ⟨p + 1, Nat.le_refl _, by omega, by go_num, hall0, rfl⟩
  case round =>
    obtain ⟨k, hk, hk2, rfl, HA, rfl⟩ := hrel
    have fin : (∀ h : k < s.size, follows c (s[k]'h) = false) → Hid (wAt s p = (s.extract p k).data.toList ∧ (s.extract p k).size = k - p ∧ ∃ r, (s.extract p k).data.toList = c :: r ∧ ∀ x ∈ r, follows c x = true) := fun hend => by
      obtain ⟨e1, e2, e3, e4⟩ := wl_at s p k c hp hc hk hk2 (by rw [hl, hd]; simp) HA.out hend
      exact ⟨by rw [wAt, e1, e2], e3, e4⟩
    by_cases hlt : k < s.size
    · have hlt' : (k : Int) < s.size := by omega
      obtain ⟨x, hx⟩ : ∃ x, s[k]'hlt = x := ⟨_, rfl⟩
      have hfx : follows c x = digit x := by unfold follows; rw [hl, hd]; simp
      cases hg : digit x
      · have HF := fin (fun _ => by rw [hx, hfx, hg])
        clear fin
        obtain ⟨k1, k2, r, k3, k4⟩ := HF.out
        have HW := hide_ k1
        have HL : Hid ((s.extract p k).data.toList = c :: r) := k3
        have hk' : (k : Int) ≤ s.size := by omega
        have HD : Hid (allD (s.extract p k)) := allD_of (fun x hx => by rw [k3] at hx; rcases List.mem_cons.1 hx with rfl | hx; exact hd; have := k4 x hx; unfold follows at this; rw [hl, hd] at this; simpa using this)
        clear k1 k3 k4 HF
        go_wp2_with (go_at_call 35; refine (digit_any x _).mono ?_; rintro e w' ⟨rfl, rfl⟩; rw [hg])
        refine (tokenOf_number (s.extract p k) p c r _ (by omega) (by omega) HL hl hd HD).mono ?_; rintro e w2 ⟨rfl, hB2⟩
        obtain ⟨T, hT⟩ : ∃ T, tkO (s.extract p k).data.toList p = T := ⟨_, rfl⟩
        obtain ⟨E, hE⟩ : ∃ E : Nat, erW (s.extract p k).data.toList = E := ⟨_, rfl⟩
        rw [hT, hE]
        have HT := hide_ hT
        have HE := hide_ hE
        clear hT hE
        obtain ⟨Tk, Tt, Tn, Ta, Te⟩ := T
        unfold tkv
        have HB : Hid (Below w.heap.size w w2) := ((Below.refl _ _).alloc (Nat.le_refl _) _).trans (hB2.mono (by simp))
        have K4 := hide_ ((Blk.newA w #[.int .i64 0, .string ⟨#[]⟩, .int .i64 0, .int .i64 0, .int .i64 0] 42).later hB2)
        have f0 := K4.out.frozen 0; have f1 := K4.out.frozen 1; have f2 := K4.out.frozen 2; have f3 := K4.out.frozen 3; have f4 := K4.out.frozen 4
        have x0 := K4.out.cell 0; have x1 := K4.out.cell 1; have x2 := K4.out.cell 2; have x3 := K4.out.cell 3; have x4 := K4.out.cell 4
        simp at x0 x1 x2 x3 x4
        clear hB2
        go_wp2
        have KK := ((((K4.out.set 0 (.int .i64 Tk)).set 1 (.string Tt)).set 2 (.int .i64 Tn)).set 3 (.int .i64 Ta)).set 4 (.int .i64 Te)
        refine ret21 (R := fun e w' => e = .returned (.tuple #[tkv (tkO (wAt s p) p), .int .i64 (erW (wAt s p))]) ∧ Below w.heap.size w w') rfl KK (And.intro (by rw [HW.out, HT.out, HE.out]; rfl) ?_)
        exact ((((HB.out.setCell (Nat.le_refl _) _).setCell (Nat.le_refl _) _).setCell (Nat.le_refl _) _).setCell (Nat.le_refl _) _).setCell (Nat.le_refl _) _
      · have HA2 : Hid (∀ j (h : j < s.size), p + 1 ≤ j → j < k + 1 → follows c (s[j]'h) = true) := fun j h h1 h2 => by
          rcases Nat.lt_or_ge j k with h3 | h3
          · exact HA.out j h h1 h3
          · obtain rfl : j = k := by omega
            rw [hx, hfx, hg]
        clear fin HA
        go_wp2_with (go_at_call 35; refine (digit_any x _).mono ?_; rintro e w' ⟨rfl, rfl⟩; rw [hg])
        go_roundw
        case rel => exact ⟨k + 1, by omega, by omega, by go_num, HA2, by trivial⟩
        case measure => simp [intOf]; omega
    · obtain rfl : k = s.size := by omega
      have HF := fin (fun h => absurd h (by omega))
      clear fin
      obtain ⟨k1, k2, r, k3, k4⟩ := HF.out
      have HW := hide_ k1
      have HL : Hid ((s.extract p s.size).data.toList = c :: r) := k3
      have HD : Hid (allD (s.extract p s.size)) := allD_of (fun x hx => by rw [k3] at hx; rcases List.mem_cons.1 hx with rfl | hx; exact hd; have := k4 x hx; unfold follows at this; rw [hl, hd] at this; simpa using this)
      clear k1 k3 k4 HF
      go_wp2_with fail
      refine (tokenOf_number (s.extract p s.size) p c r _ (by omega) (by omega) HL hl hd HD).mono ?_; rintro e w2 ⟨rfl, hB2⟩
      obtain ⟨T, hT⟩ : ∃ T, tkO (s.extract p s.size).data.toList p = T := ⟨_, rfl⟩
      obtain ⟨E, hE⟩ : ∃ E : Nat, erW (s.extract p s.size).data.toList = E := ⟨_, rfl⟩
      rw [hT, hE]
      have HT := hide_ hT
      have HE := hide_ hE
      clear hT hE
      obtain ⟨Tk, Tt, Tn, Ta, Te⟩ := T
      unfold tkv
      have HB : Hid (Below w.heap.size w w2) := ((Below.refl _ _).alloc (Nat.le_refl _) _).trans (hB2.mono (by simp))
      have K4 := hide_ ((Blk.newA w #[.int .i64 0, .string ⟨#[]⟩, .int .i64 0, .int .i64 0, .int .i64 0] 42).later hB2)
      have f0 := K4.out.frozen 0; have f1 := K4.out.frozen 1; have f2 := K4.out.frozen 2; have f3 := K4.out.frozen 3; have f4 := K4.out.frozen 4
      have x0 := K4.out.cell 0; have x1 := K4.out.cell 1; have x2 := K4.out.cell 2; have x3 := K4.out.cell 3; have x4 := K4.out.cell 4
      simp at x0 x1 x2 x3 x4
      clear hB2
      go_wp2
      have KK := ((((K4.out.set 0 (.int .i64 Tk)).set 1 (.string Tt)).set 2 (.int .i64 Tn)).set 3 (.int .i64 Ta)).set 4 (.int .i64 Te)
      refine ret21 (R := fun e w' => e = .returned (.tuple #[tkv (tkO (wAt s p) p), .int .i64 (erW (wAt s p))]) ∧ Below w.heap.size w w') rfl KK (And.intro (by rw [HW.out, HT.out, HE.out]; rfl) ?_)
      exact ((((HB.out.setCell (Nat.le_refl _) _).setCell (Nat.le_refl _) _).setCell (Nat.le_refl _) _).setCell (Nat.le_refl _) _).setCell (Nat.le_refl _) _
end Go.Proofs.Ytokepgimjdalaaa
