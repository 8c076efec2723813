/- The document's token at a place. -/
import Derived.Test.YtoodafhljgdghaaL
namespace Go.Proofs.Ytoodafhljgdghaa
open Go.RowKit
set_option linter.unusedVariables false

theorem ret33 {R : Ending → World → Prop} {tmps : Array Value} {g : Nat} {x0 x1 x2 x3 x4 : Value} {w : World} (hp : tmps.getD 4 undef = .pointer (some ⟨g, 0, none⟩)) (hK : Blk w g 34 [x0, x1, x2, x3, x4]) (hR : R (.returned (.tuple #[.agg #[x0, x1, x2, x3, x4], tmps.getD 5 undef])) w) :
    bodyPost Try.prog Try.f33 R Exit.ret ⟨tmps, []⟩ w :=
  bodyPost_ret (results_cell_tmp_row rfl _ _ _ _ #[x0, x1, x2, x3, x4] _ _ hp hK Try.underlying34 rfl (by show _ = some 5; kernel_rfl)) rfl hR
theorem tkv_eq {a b : Int} {t : ByteArray} {p q r : Nat} (h : q = r) : tkv ⟨a, t, b, p, q⟩ = .agg #[.int .i64 a, .string t, .int .i64 b, .int .i64 p, .int .i64 r] := by subst h; rfl
set_option maxRecDepth 100000 in
set_option maxHeartbeats 4000000 in
theorem oneD_name (s : ByteArray) (p : Nat) (c : UInt8) (w : World) (hs : s.size ≤ 65536) (hp : p < s.size) (hc : s[p]'hp = c) (hl : letter c = true) :
    Calls Try.prog 33 #[.string s, .int .i64 p] w fun e w' => e = .returned (.tuple #[tkv (tkO (wAt s p) p), .int .i64 (erW (wAt s p))]) ∧ Below w.heap.size w w' := by
  have hp' : (p : Int) < s.size := by omega
  have hd : digit c = false := by simp [letter, digit] at *; omega
  have hall0 : Hid (∀ j (h : j < s.size), p + 1 ≤ j → j < p + 1 → follows c (s[j]'h) = true) := fun j h h1 h2 => by omega
  go_enter Try.func33, Try.ntmps33
  go_wp2_with (first | (go_at_call 24; refine (letterD_any c _).mono ?_; rintro e w' ⟨rfl, rfl⟩; rw [hl]) | (go_at_call 31; refine (digitD_any c _).mono ?_; rintro e w' ⟨rfl, rfl⟩; rw [hd]))
  go_loopw [7] (fun en wr => ∃ k : Nat, p + 1 ≤ k ∧ k ≤ s.size ∧ en = .int .i64 k ∧ Hid (∀ j (h : j < s.size), p + 1 ≤ j → j < k → follows c (s[j]'h) = true) ∧ w.alloc (.cells #[.int .i64 0, .string ⟨#[]⟩, .int .i64 0, .int .i64 0, .int .i64 0] 34) = wr) (fun en _ => s.size - (intOf en).toNat)
  case atStart => exact ⟨p + 1, Nat.le_refl _, by omega, by go_num, hall0, rfl⟩
  case round =>
    obtain ⟨k, hk, hk2, rfl, HA, rfl⟩ := hrel
    have fin : (∀ h : k < s.size, follows c (s[k]'h) = false) → Hid (wAt s p = (s.extract p k).data.toList ∧ (s.extract p k).size = k - p ∧ ∃ r, (s.extract p k).data.toList = c :: r ∧ ∀ x ∈ r, follows c x = true) := fun hend => by
      obtain ⟨e1, e2, e3, e4⟩ := wl_at s p k c hp hc hk hk2 (by rw [hl]; simp) HA.out hend
      exact ⟨by rw [wAt, e1, e2], e3, e4⟩
    by_cases hlt : k < s.size
    · have hlt' : (k : Int) < s.size := by omega
      obtain ⟨x, hx⟩ : ∃ x, s[k]'hlt = x := ⟨_, rfl⟩
      have hfx : follows c x = goes x := by unfold follows; rw [hl]; simp
      cases hg : goes x
      · have HF := fin (fun _ => by rw [hx, hfx, hg])
        clear fin
        obtain ⟨k1, k2, r, k3, k4⟩ := HF.out
        have HW := hide_ k1
        have HL : Hid ((s.extract p k).data.toList = c :: r) := k3
        have hk' : (k : Int) ≤ s.size := by omega
        clear k1 k3 HF
        obtain ⟨q1, q2⟩ := of_name HL.out hl
        by_cases h32 : (s.extract p k).size ≤ 32
        · have HE := hide_ (q1 h32).1
          have HT := hide_ (q1 h32).2
          have h32' : (k : Int) - p ≤ 32 := by omega
          clear q1 q2
          go_wp2_with (go_at_call 25; refine (goesD_any x _).mono ?_; rintro e w' ⟨rfl, rfl⟩; rw [hg])
          refine ret33 (R := fun e w' => e = .returned (.tuple #[tkv (tkO (wAt s p) p), .int .i64 (erW (wAt s p))]) ∧ Below w.heap.size w w') rfl (Blk.newA w _ 34) (And.intro ?_ ((Below.refl _ _).alloc (Nat.le_refl _) _))
          rw [HW.out, HE.out, HT.out p, tkv_eq (r := k) (by omega)]; rfl
        · have HE := hide_ (q2 (by omega)).1
          have HT := hide_ (q2 (by omega)).2
          have h32' : (32 : Int) < (k : Int) - p := by omega
          clear q1 q2
          go_wp2_with (go_at_call 25; refine (goesD_any x _).mono ?_; rintro e w' ⟨rfl, rfl⟩; rw [hg])
          refine ret33 (R := fun e w' => e = .returned (.tuple #[tkv (tkO (wAt s p) p), .int .i64 (erW (wAt s p))]) ∧ Below w.heap.size w w') rfl (Blk.newA w _ 34) (And.intro ?_ ((Below.refl _ _).alloc (Nat.le_refl _) _))
          rw [HW.out, HE.out, HT.out p]; rfl
      · have HA2 : Hid (∀ j (h : j < s.size), p + 1 ≤ j → j < k + 1 → follows c (s[j]'h) = true) := fun j h h1 h2 => by
          rcases Nat.lt_or_ge j k with h3 | h3
          · exact HA.out j h h1 h3
          · obtain rfl : j = k := by omega
            rw [hx, hfx, hg]
        clear fin HA
        go_wp2_with (go_at_call 25; refine (goesD_any x _).mono ?_; rintro e w' ⟨rfl, rfl⟩; rw [hg])
        go_roundw
        case rel => exact ⟨k + 1, by omega, by omega, by go_num, HA2, by trivial⟩
        case measure => simp [intOf]; omega
    · obtain rfl : k = s.size := by omega
      have HF := fin (fun h => absurd h (by omega))
      clear fin
      · obtain ⟨k1, k2, r, k3, k4⟩ := HF.out
        have HW := hide_ k1
        have HL : Hid ((s.extract p s.size).data.toList = c :: r) := k3
        clear k1 k3 HF
        obtain ⟨q1, q2⟩ := of_name HL.out hl
        by_cases h32 : (s.extract p s.size).size ≤ 32
        · have HE := hide_ (q1 h32).1
          have HT := hide_ (q1 h32).2
          have h32' : (s.size : Int) - p ≤ 32 := by omega
          clear q1 q2
          go_wp2_with fail
          refine ret33 (R := fun e w' => e = .returned (.tuple #[tkv (tkO (wAt s p) p), .int .i64 (erW (wAt s p))]) ∧ Below w.heap.size w w') rfl (Blk.newA w _ 34) (And.intro ?_ ((Below.refl _ _).alloc (Nat.le_refl _) _))
          rw [HW.out, HE.out, HT.out p, tkv_eq (r := s.size) (by omega)]; rfl
        · have HE := hide_ (q2 (by omega)).1
          have HT := hide_ (q2 (by omega)).2
          have h32' : (32 : Int) < (s.size : Int) - p := by omega
          clear q1 q2
          go_wp2_with fail
          refine ret33 (R := fun e w' => e = .returned (.tuple #[tkv (tkO (wAt s p) p), .int .i64 (erW (wAt s p))]) ∧ Below w.heap.size w w') rfl (Blk.newA w _ 34) (And.intro ?_ ((Below.refl _ _).alloc (Nat.le_refl _) _))
          rw [HW.out, HE.out, HT.out p]; rfl
set_option maxRecDepth 100000 in
set_option maxHeartbeats 4000000 in
theorem oneD_number (s : ByteArray) (p : Nat) (c : UInt8) (w : World) (hs : s.size ≤ 65536) (hp : p < s.size) (hc : s[p]'hp = c) (hl : letter c = false) (hd : digit c = true) :
    Calls Try.prog 33 #[.string s, .int .i64 p] w fun e w' => e = .returned (.tuple #[tkv (tkO (wAt s p) p), .int .i64 (erW (wAt s p))]) ∧ Below w.heap.size w w' := by
  have hp' : (p : Int) < s.size := by omega
  have hall0 : Hid (∀ j (h : j < s.size), p + 1 ≤ j → j < p + 1 → follows c (s[j]'h) = true) := fun j h h1 h2 => by omega
  go_enter Try.func33, Try.ntmps33
  go_wp2_with (first | (go_at_call 24; refine (letterD_any c _).mono ?_; rintro e w' ⟨rfl, rfl⟩; rw [hl]) | (go_at_call 31; refine (digitD_any c _).mono ?_; rintro e w' ⟨rfl, rfl⟩; rw [hd]))
  go_loopw [7] (fun en wr => ∃ k : Nat, p + 1 ≤ k ∧ k ≤ s.size ∧ en = .int .i64 k ∧ Hid (∀ j (h : j < s.size), p + 1 ≤ j → j < k → follows c (s[j]'h) = true) ∧ w.alloc (.cells #[.int .i64 0, .string ⟨#[]⟩, .int .i64 0, .int .i64 0, .int .i64 0] 34) = wr) (fun en _ => s.size - (intOf en).toNat)
  case atStart => exact ⟨p + 1, Nat.le_refl _, by omega, by go_num, hall0, rfl⟩
  case round =>
    obtain ⟨k, hk, hk2, rfl, HA, rfl⟩ := hrel
    have fin : (∀ h : k < s.size, follows c (s[k]'h) = false) → Hid (wAt s p = (s.extract p k).data.toList ∧ (s.extract p k).size = k - p ∧ ∃ r, (s.extract p k).data.toList = c :: r ∧ ∀ x ∈ r, follows c x = true) := fun hend => by
      obtain ⟨e1, e2, e3, e4⟩ := wl_at s p k c hp hc hk hk2 (by rw [hl, hd]; simp) HA.out hend
      exact ⟨by rw [wAt, e1, e2], e3, e4⟩
    by_cases hlt : k < s.size
    · have hlt' : (k : Int) < s.size := by omega
      obtain ⟨x, hx⟩ : ∃ x, s[k]'hlt = x := ⟨_, rfl⟩
      have hfx : follows c x = digit x := by unfold follows; rw [hl, hd]; simp
      cases hg : digit x
      · have HF := fin (fun _ => by rw [hx, hfx, hg])
        clear fin
        obtain ⟨k1, k2, r, k3, k4⟩ := HF.out
        have HW := hide_ k1
        have HL : Hid ((s.extract p k).data.toList = c :: r) := k3
        have hk' : (k : Int) ≤ s.size := by omega
        clear k1 k3 HF
        obtain ⟨q1, q2⟩ := of_number HL.out hl hd
        have HD : Hid (allD (s.extract p k)) := allD_of (fun x hx => by rw [HL.out] at hx; rcases List.mem_cons.1 hx with rfl | hx; exact hd; have := k4 x hx; unfold follows at this; rw [hl, hd] at this; simpa using this)
        clear k4
        go_wp2_with (go_at_call 31; refine (digitD_any x _).mono ?_; rintro e w' ⟨rfl, rfl⟩; rw [hg])
        refine (numberD_any (s.extract p k) _ HD (by omega) (by omega)).mono ?_; rintro e w' ⟨x, rfl, HX, rfl⟩
        cases hb : numOk (s.extract p k).data.toList with
        | true =>
          have HE := hide_ (q1 hb).1
          have HT : Hid (∀ p', tkO (s.extract p k).data.toList p' = ⟨2, ⟨#[]⟩, x, p', p' + (s.extract p k).size⟩) := fun p' => by rw [HX.out hb]; exact (q1 hb).2 p'
          clear q1 q2 HX
          go_wp2
          refine ret33 (R := fun e w' => e = .returned (.tuple #[tkv (tkO (wAt s p) p), .int .i64 (erW (wAt s p))]) ∧ Below w.heap.size w w') rfl (Blk.newA w _ 34) (And.intro ?_ ((Below.refl _ _).alloc (Nat.le_refl _) _))
          rw [HW.out, HE.out, HT.out p, tkv_eq (r := k) (by omega)]; rfl
        | false =>
          have HE := hide_ (q2 hb).1
          have HT := hide_ (q2 hb).2
          clear q1 q2 HX
          go_wp2
          refine ret33 (R := fun e w' => e = .returned (.tuple #[tkv (tkO (wAt s p) p), .int .i64 (erW (wAt s p))]) ∧ Below w.heap.size w w') rfl (Blk.newA w _ 34) (And.intro ?_ ((Below.refl _ _).alloc (Nat.le_refl _) _))
          rw [HW.out, HE.out, HT.out p]; rfl
      · have HA2 : Hid (∀ j (h : j < s.size), p + 1 ≤ j → j < k + 1 → follows c (s[j]'h) = true) := fun j h h1 h2 => by
          rcases Nat.lt_or_ge j k with h3 | h3
          · exact HA.out j h h1 h3
          · obtain rfl : j = k := by omega
            rw [hx, hfx, hg]
        clear fin HA
        go_wp2_with (go_at_call 31; refine (digitD_any x _).mono ?_; rintro e w' ⟨rfl, rfl⟩; rw [hg])
        go_roundw
        case rel => exact ⟨k + 1, by omega, by omega, by go_num, HA2, by trivial⟩
        case measure => simp [intOf]; omega
    · obtain rfl : k = s.size := by omega
      have HF := fin (fun h => absurd h (by omega))
      clear fin
      · obtain ⟨k1, k2, r, k3, k4⟩ := HF.out
        have HW := hide_ k1
        have HL : Hid ((s.extract p s.size).data.toList = c :: r) := k3
        clear k1 k3 HF
        obtain ⟨q1, q2⟩ := of_number HL.out hl hd
        have HD : Hid (allD (s.extract p s.size)) := allD_of (fun x hx => by rw [HL.out] at hx; rcases List.mem_cons.1 hx with rfl | hx; exact hd; have := k4 x hx; unfold follows at this; rw [hl, hd] at this; simpa using this)
        clear k4
        go_wp2_with fail
        refine (numberD_any (s.extract p s.size) _ HD (by omega) (by omega)).mono ?_; rintro e w' ⟨x, rfl, HX, rfl⟩
        cases hb : numOk (s.extract p s.size).data.toList with
        | true =>
          have HE := hide_ (q1 hb).1
          have HT : Hid (∀ p', tkO (s.extract p s.size).data.toList p' = ⟨2, ⟨#[]⟩, x, p', p' + (s.extract p s.size).size⟩) := fun p' => by rw [HX.out hb]; exact (q1 hb).2 p'
          clear q1 q2 HX
          go_wp2
          refine ret33 (R := fun e w' => e = .returned (.tuple #[tkv (tkO (wAt s p) p), .int .i64 (erW (wAt s p))]) ∧ Below w.heap.size w w') rfl (Blk.newA w _ 34) (And.intro ?_ ((Below.refl _ _).alloc (Nat.le_refl _) _))
          rw [HW.out, HE.out, HT.out p, tkv_eq (r := s.size) (by omega)]; rfl
        | false =>
          have HE := hide_ (q2 hb).1
          have HT := hide_ (q2 hb).2
          clear q1 q2 HX
          go_wp2
          refine ret33 (R := fun e w' => e = .returned (.tuple #[tkv (tkO (wAt s p) p), .int .i64 (erW (wAt s p))]) ∧ Below w.heap.size w w') rfl (Blk.newA w _ 34) (And.intro ?_ ((Below.refl _ _).alloc (Nat.le_refl _) _))
          rw [HW.out, HE.out, HT.out p]; rfl
set_option maxRecDepth 100000 in
set_option maxHeartbeats 4000000 in
theorem oneD_mark (s : ByteArray) (p : Nat) (c : UInt8) (w : World) (hs : s.size ≤ 65536) (hp : p < s.size) (hc : s[p]'hp = c) (hl : letter c = false) (hd : digit c = false) (hm : mark c = true) :
    Calls Try.prog 33 #[.string s, .int .i64 p] w fun e w' => e = .returned (.tuple #[tkv (tkO (wAt s p) p), .int .i64 (erW (wAt s p))]) ∧ Below w.heap.size w w' := by
  have hp' : (p : Int) < s.size := by omega
  obtain ⟨e1, e2, e3, r, e4, e5⟩ := wl_at s p (p + 1) c hp hc (Nat.le_refl _) (by omega) (by rw [hm]; simp) (fun j h h1 h2 => by omega) (fun h => by unfold follows; rw [hl, hd]; rfl)
  have HW : Hid (wAt s p = (s.extract p (p + 1)).data.toList) := by show _ = _; rw [wAt, e1, e2]
  have HE := hide_ (of_mark e4 hl hd).1
  have HT := hide_ (of_mark e4 hl hd).2
  clear e1 e2 e4 e5
  go_enter Try.func33, Try.ntmps33
  go_wp2_with (first | (go_at_call 24; refine (letterD_any c _).mono ?_; rintro e w' ⟨rfl, rfl⟩; rw [hl]) | (go_at_call 31; refine (digitD_any c _).mono ?_; rintro e w' ⟨rfl, rfl⟩; rw [hd]) | (go_at_call 38; refine (markD_any c _).mono ?_; rintro e w' ⟨rfl, rfl⟩; rw [hm]))
  refine ret33 (R := fun e w' => e = .returned (.tuple #[tkv (tkO (wAt s p) p), .int .i64 (erW (wAt s p))]) ∧ Below w.heap.size w w') rfl (Blk.newA w _ 34) (And.intro ?_ ((Below.refl _ _).alloc (Nat.le_refl _) _))
  rw [HW.out, HE.out, HT.out p, tkv_eq (r := p + 1) (by omega)]; simp
set_option maxRecDepth 100000 in
set_option maxHeartbeats 4000000 in
theorem oneD_bad (s : ByteArray) (p : Nat) (c : UInt8) (w : World) (hs : s.size ≤ 65536) (hp : p < s.size) (hc : s[p]'hp = c) (hl : letter c = false) (hd : digit c = false) (hm : mark c = false) :
    Calls Try.prog 33 #[.string s, .int .i64 p] w fun e w' => e = .returned (.tuple #[tkv (tkO (wAt s p) p), .int .i64 (erW (wAt s p))]) ∧ Below w.heap.size w w' := by
  have hp' : (p : Int) < s.size := by omega
  have HW : Hid (wAt s p = []) := by show _ = _; rw [wAt, drop_at s p hp, hc, wl_none hl hd hm]; rfl
  go_enter Try.func33, Try.ntmps33
  go_wp2_with (first | (go_at_call 24; refine (letterD_any c _).mono ?_; rintro e w' ⟨rfl, rfl⟩; rw [hl]) | (go_at_call 31; refine (digitD_any c _).mono ?_; rintro e w' ⟨rfl, rfl⟩; rw [hd]) | (go_at_call 38; refine (markD_any c _).mono ?_; rintro e w' ⟨rfl, rfl⟩; rw [hm]))
  refine ret33 (R := fun e w' => e = .returned (.tuple #[tkv (tkO (wAt s p) p), .int .i64 (erW (wAt s p))]) ∧ Below w.heap.size w w') rfl (Blk.newA w _ 34) (And.intro ?_ ((Below.refl _ _).alloc (Nat.le_refl _) _))
  rw [HW.out]; rfl
theorem oneD_any (s : ByteArray) (p : Nat) (w : World) (hs : s.size ≤ 65536) (hp : p < s.size) :
    Calls Try.prog 33 #[.string s, .int .i64 p] w fun e w' => e = .returned (.tuple #[tkv (tkO (wAt s p) p), .int .i64 (erW (wAt s p))]) ∧ Below w.heap.size w w' := by
  cases hl : letter (s[p]'hp) with
  | true => exact oneD_name s p _ w hs hp rfl hl
  | false =>
    cases hd : digit (s[p]'hp) with
    | true => exact oneD_number s p _ w hs hp rfl hl hd
    | false =>
      cases hm : mark (s[p]'hp) with
      | true => exact oneD_mark s p _ w hs hp rfl hl hd hm
      | false => exact oneD_bad s p _ w hs hp rfl hl hd hm
end Go.Proofs.Ytoodafhljgdghaa
