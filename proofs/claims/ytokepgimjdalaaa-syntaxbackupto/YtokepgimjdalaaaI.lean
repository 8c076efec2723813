/- A byte that begins no token; a mark; the steps of a text, plain. -/
import Derived.Test.YtokepgimjdalaaaH
namespace Go.Proofs.Ytokepgimjdalaaa
open Go.RowKit
set_option linter.unusedVariables false

set_option maxRecDepth 100000 in
set_option maxHeartbeats 4000000 in
theorem tokenAt_mark (s : ByteArray) (p : Nat) (c : UInt8) (w : World) (hs : s.size ≤ 65536) (hp : p < s.size) (hc : s[p]'hp = c) (hl : letter c = false) (hd : digit c = false) (hm : mark c = true) :
    Calls Try.prog 24 #[.string s, .int .i64 p] w fun e w' => e = .returned (.tuple #[tkv (tkO (wAt s p) p), .int .i64 (erW (wAt s p))]) ∧ Below w.heap.size w w' := by
  have hp' : (p : Int) < s.size := by omega
  obtain ⟨e1, e2, e3, r, e4, e5⟩ := wl_at s p (p + 1) c hp hc (Nat.le_refl _) (by omega) (by rw [hm]; simp) (fun j h h1 h2 => by omega) (fun h => by unfold follows; rw [hl, hd]; rfl)
  have HW : Hid (wAt s p = (s.extract p (p + 1)).data.toList) := by show _ = _; rw [wAt, e1, e2]
  have HL : Hid ((s.extract p (p + 1)).data.toList = c :: r) := e4
  clear e1 e2 e4 e5
  go_enter Try.func24, Try.ntmps24
  go_wp2_with (first | (go_at_call 29; refine (letter_any c _).mono ?_; rintro e w' ⟨rfl, rfl⟩; rw [hl]) | (go_at_call 35; refine (digit_any c _).mono ?_; rintro e w' ⟨rfl, rfl⟩; rw [hd]) | (go_at_call 37; refine (mark_any c _).mono ?_; rintro e w' ⟨rfl, rfl⟩; rw [hm]))
  refine (tokenOf_mark (s.extract p (p + 1)) p c r _ (by omega) (by omega) HL hl hd).mono ?_; rintro e w2 ⟨rfl, hB2⟩
  obtain ⟨T, hT⟩ : ∃ T, tkO (s.extract p (p + 1)).data.toList p = T := ⟨_, rfl⟩
  obtain ⟨E, hE⟩ : ∃ E : Nat, erW (s.extract p (p + 1)).data.toList = E := ⟨_, rfl⟩
  rw [hT, hE]
  have HT := hide_ hT
  have HE := hide_ hE
  clear hT hE
  obtain ⟨Tk, Tt, Tn, Ta, Te⟩ := T
  unfold tkv
  have HB : Hid (Below w.heap.size w w2) := ((Below.refl _ _).alloc (Nat.le_refl _) _).trans (hB2.mono (by simp))
  have K4 := hide_ ((Blk.newA w #[.int .i64 0, .string ⟨#[]⟩, .int .i64 0, .int .i64 0, .int .i64 0] 42).later hB2)
  have f0 := K4.out.frozen 0; have f1 := K4.out.frozen 1; have f2 := K4.out.frozen 2; have f3 := K4.out.frozen 3; have f4 := K4.out.frozen 4
  have x0 := K4.out.cell 0; have x1 := K4.out.cell 1; have x2 := K4.out.cell 2; have x3 := K4.out.cell 3; have x4 := K4.out.cell 4
  simp at x0 x1 x2 x3 x4
  clear hB2
  go_wp2
  have KK := ((((K4.out.set 0 (.int .i64 Tk)).set 1 (.string Tt)).set 2 (.int .i64 Tn)).set 3 (.int .i64 Ta)).set 4 (.int .i64 Te)
  refine ret21 (R := fun e w' => e = .returned (.tuple #[tkv (tkO (wAt s p) p), .int .i64 (erW (wAt s p))]) ∧ Below w.heap.size w w') rfl KK (And.intro (by rw [HW.out, HT.out, HE.out]; rfl) ?_)
  exact ((((HB.out.setCell (Nat.le_refl _) _).setCell (Nat.le_refl _) _).setCell (Nat.le_refl _) _).setCell (Nat.le_refl _) _).setCell (Nat.le_refl _) _
set_option maxRecDepth 100000 in
set_option maxHeartbeats 4000000 in
theorem tokenAt_bad (s : ByteArray) (p : Nat) (c : UInt8) (w : World) (hs : s.size ≤ 65536) (hp : p < s.size) (hc : s[p]'hp = c) (hl : letter c = false) (hd : digit c = false) (hm : mark c = false) :
    Calls Try.prog 24 #[.string s, .int .i64 p] w fun e w' => e = .returned (.tuple #[tkv (tkO (wAt s p) p), .int .i64 (erW (wAt s p))]) ∧ Below w.heap.size w w' := by
  have hp' : (p : Int) < s.size := by omega
  have HW : Hid (wAt s p = []) := by show _ = _; rw [wAt, drop_at s p hp, hc, wl_none hl hd hm]; rfl
  go_enter Try.func24, Try.ntmps24
  go_wp2_with (first | (go_at_call 29; refine (letter_any c _).mono ?_; rintro e w' ⟨rfl, rfl⟩; rw [hl]) | (go_at_call 35; refine (digit_any c _).mono ?_; rintro e w' ⟨rfl, rfl⟩; rw [hd]) | (go_at_call 37; refine (mark_any c _).mono ?_; rintro e w' ⟨rfl, rfl⟩; rw [hm]))
  refine ret21 (R := fun e w' => e = .returned (.tuple #[tkv (tkO (wAt s p) p), .int .i64 (erW (wAt s p))]) ∧ Below w.heap.size w w') rfl (Blk.newA w _ 42) (And.intro (by rw [HW.out]; rfl) ?_)
  exact (Below.refl _ _).alloc (Nat.le_refl _) _
theorem tokenAt_any (s : ByteArray) (p : Nat) (w : World) (hs : s.size ≤ 65536) (hp : p < s.size) :
    Calls Try.prog 24 #[.string s, .int .i64 p] w fun e w' => e = .returned (.tuple #[tkv (tkO (wAt s p) p), .int .i64 (erW (wAt s p))]) ∧ Below w.heap.size w w' := by
  cases hl : letter (s[p]'hp) with
  | true => exact tokenAt_name s p _ w hs hp rfl hl
  | false =>
    cases hd : digit (s[p]'hp) with
    | true => exact tokenAt_number s p _ w hs hp rfl hl hd
    | false =>
      cases hm : mark (s[p]'hp) with
      | true => exact tokenAt_mark s p _ w hs hp rfl hl hd hm
      | false => exact tokenAt_bad s p _ w hs hp rfl hl hd hm

/-! ### The steps of a text -/
def cutT (s : ByteArray) : Cu := if 65536 < s.size then ([], 4, 0) else cut s.data.toList 0
section
variable {s : ByteArray} {q : Nat}
theorem drop_while (f : UInt8 → Bool) : ∀ r : List UInt8, r.drop (r.takeWhile f).length = r.dropWhile f
  | [] => rfl
  | a :: r => by
    have ih := drop_while f r
    cases h : f a <;> simp [h, ih]
theorem step_sharp (hq : q < s.size) (h : sharp (s[q]'hq) = true) : cut (s.data.toList.drop q) q = cut (s.data.toList.drop (q + ((s.data.toList.drop q).takeWhile inl).length)) (q + ((s.data.toList.drop q).takeWhile inl).length) ∧ 0 < ((s.data.toList.drop q).takeWhile inl).length ∧ q + ((s.data.toList.drop q).takeWhile inl).length ≤ s.size := by
  have hi : inl (s[q]'hq) = true := by simp [sharp] at h; simp [inl, h]
  have e : (s.data.toList.drop q).takeWhile inl = s[q]'hq :: (s.data.toList.drop (q + 1)).takeWhile inl := by rw [drop_at s q hq]; simp [hi]
  have hl := (List.takeWhile_sublist inl (l := s.data.toList.drop q)).length_le
  rw [List.length_drop, ← Lib.size_eq] at hl
  refine ⟨?_, by rw [e]; simp, by omega⟩
  conv => lhs; rw [drop_at s q hq]
  have e8 : s.data.toList.drop (q + 1 + ((s.data.toList.drop (q + 1)).takeWhile inl).length) = (s.data.toList.drop (q + 1)).dropWhile inl := by
    rw [← drop_while inl (s.data.toList.drop (q + 1)), List.drop_drop]
  rw [cut_sharp _ q h, e, List.length_cons, show q + (((s.data.toList.drop (q + 1)).takeWhile inl).length + 1) = q + 1 + ((s.data.toList.drop (q + 1)).takeWhile inl).length by omega, e8]
theorem step_blank (hq : q < s.size) (h : blank (s[q]'hq) = true) : cut (s.data.toList.drop q) q = cut (s.data.toList.drop (q + 1)) (q + 1) := by
  rw [drop_at s q hq, cut_blank _ q h]
theorem step_bad (hq : q < s.size) (h1 : blank (s[q]'hq) = false) (h2 : sharp (s[q]'hq) = false) (h3 : erW (wAt s q) ≠ 0) : cut (s.data.toList.drop q) q = ([], erW (wAt s q), q) := by
  unfold wAt at *
  rw [drop_at s q hq] at *
  exact cut_bad _ q h1 h2 h3
theorem step_tok (hq : q < s.size) (h1 : blank (s[q]'hq) = false) (h2 : sharp (s[q]'hq) = false) (h3 : erW (wAt s q) = 0) : ∃ n, 0 < n ∧ q + n ≤ s.size ∧ (tkW (wAt s q) q).e = q + n ∧ tkO (wAt s q) q = tkW (wAt s q) q ∧ cut (s.data.toList.drop q) q = app (tkW (wAt s q) q) (cut (s.data.toList.drop (q + n)) (q + n)) := by
  have ht : tkO (wAt s q) q = tkW (wAt s q) q := by rw [tkO, if_pos h3]
  have hw : wl (s.data.toList.drop q) ≤ s.size - q := by
    rw [drop_at s q hq, wl]
    split
    · have := (List.takeWhile_sublist (follows (s[q]'hq)) (l := s.data.toList.drop (q + 1))).length_le
      rw [List.length_drop, ← Lib.size_eq] at this
      omega
    · omega
  have h0 : 0 < wl (s.data.toList.drop q) := by
    unfold wAt at h3
    rw [drop_at s q hq] at h3 ⊢
    exact er_wl h3
  have hlen : (wAt s q).length = wl (s.data.toList.drop q) := by rw [wAt, List.length_take, List.length_drop, ← Lib.size_eq]; omega
  refine ⟨wl (s.data.toList.drop q), h0, by omega, ?_, ht, ?_⟩
  · rw [← hlen]
    cases hww : wAt s q with
    | nil => rw [hww] at hlen; simp at hlen; omega
    | cons c r => unfold tkW; simp only; cases letter c <;> cases digit c <;> simp
  · unfold wAt at *
    rw [← List.drop_drop]
    rw [drop_at s q hq] at *
    exact cut_tok _ q h1 h2 h3
end
end Go.Proofs.Ytokepgimjdalaaa
