import Derived.Test.YtbfmoiaedopeiaaDoorPart01
import Derived.Defers
import Derived.Recover

/- A token of its bytes: tokenOf. -/
namespace Go.Proofs.YtbfmoiaedopeiaaDoor
open Go.RowKit
set_option linter.unusedVariables false

def tkc (t : Tk) : List Value := [.int .i64 t.k, .string t.t, .int .i64 t.n, .int .i64 t.a, .int .i64 t.e]
def tkv (t : Tk) : Value := .agg #[.int .i64 t.k, .string t.t, .int .i64 t.n, .int .i64 t.a, .int .i64 t.e]
def tk0 : Tk := ⟨0, ⟨#[]⟩, 0, 0, 0⟩
def tkO (w : List UInt8) (p : Nat) : Tk := if erW w = 0 then tkW w p else tk0
theorem back (s : ByteArray) : (⟨s.data.toList.toArray⟩ : ByteArray) = s := by simp
section
variable {s : ByteArray} {c : UInt8} {r : List UInt8}
theorem of_name (h : s.data.toList = c :: r) (hc : letter c = true) : (s.size ≤ 32 → erW s.data.toList = 0 ∧ ∀ p, tkO s.data.toList p = ⟨1, s, 0, p, p + s.size⟩) ∧ (32 < s.size → erW s.data.toList = 52 ∧ ∀ p, tkO s.data.toList p = tk0) := by
  have hl : s.size = r.length + 1 := by rw [Lib.size_eq, h]; rfl
  have he : erW s.data.toList = if r.length < 32 then 0 else 52 := by rw [h, erW, hc]; rfl
  refine ⟨fun h1 => ?_, fun h1 => ?_⟩
  · have e0 : erW s.data.toList = 0 := by rw [he, if_pos (by omega)]
    refine ⟨e0, fun p => ?_⟩
    have e1 : tkW s.data.toList p = ⟨1, ⟨s.data.toList.toArray⟩, 0, p, p + s.data.toList.length⟩ := by rw [h, tkW, hc]; rfl
    rw [tkO, if_pos e0, e1, back, ← Lib.size_eq]
  · have e0 : erW s.data.toList = 52 := by rw [he, if_neg (by omega)]
    refine ⟨e0, fun p => ?_⟩
    rw [tkO, if_neg (by rw [e0]; decide)]
theorem of_number (h : s.data.toList = c :: r) (hc : letter c = false) (hd : digit c = true) : (numOk s.data.toList = true → erW s.data.toList = 0 ∧ ∀ p, tkO s.data.toList p = ⟨2, ⟨#[]⟩, num s.data.toList, p, p + s.size⟩) ∧ (numOk s.data.toList = false → erW s.data.toList = 51 ∧ ∀ p, tkO s.data.toList p = tk0) := by
  have he : erW s.data.toList = if numOk s.data.toList = true then 0 else 51 := by rw [h, erW, hc, hd]; rfl
  refine ⟨fun h1 => ?_, fun h1 => ?_⟩
  · have e0 : erW s.data.toList = 0 := by rw [he, if_pos h1]
    refine ⟨e0, fun p => ?_⟩
    have e1 : tkW s.data.toList p = ⟨2, ⟨#[]⟩, num s.data.toList, p, p + s.data.toList.length⟩ := by
      rw [h, tkW, hc, hd]; rfl
    rw [tkO, if_pos e0, e1, ← Lib.size_eq]
  · have e0 : erW s.data.toList = 51 := by rw [he, h1]; rfl
    refine ⟨e0, fun p => ?_⟩
    rw [tkO, if_neg (by rw [e0]; decide)]
theorem of_mark (h : s.data.toList = c :: r) (hc : letter c = false) (hd : digit c = false) : erW s.data.toList = 0 ∧ ∀ p, tkO s.data.toList p = ⟨3, s, 0, p, p + s.size⟩ := by
  have e0 : erW s.data.toList = 0 := by rw [h, erW, hc, hd]; rfl
  refine ⟨e0, fun p => ?_⟩
  have e1 : tkW s.data.toList p = ⟨3, ⟨s.data.toList.toArray⟩, 0, p, p + s.data.toList.length⟩ := by rw [h, tkW, hc, hd]; rfl
  rw [tkO, if_pos e0, e1, back, ← Lib.size_eq]
end
theorem ret29 {R : Ending → World → Prop} {tmps : Array Value} {g : Nat} {x0 x1 x2 x3 x4 : Value} {w : World} (hp : tmps.getD 6 undef = .pointer (some ⟨g, 0, none⟩)) (hK : Blk w g 73 [x0, x1, x2, x3, x4]) (hR : R (.returned (.tuple #[.agg #[x0, x1, x2, x3, x4], tmps.getD 7 undef])) w) :
    bodyPost Tryd.prog Tryd.f54 R Exit.ret ⟨tmps, []⟩ w :=
  bodyPost_ret (results_cell_tmp_row rfl _ _ _ _ #[x0, x1, x2, x3, x4] _ _ hp hK Tryd.underlying73 rfl (by show _ = some 5; kernel_rfl)) rfl hR
def Z34 : List Value := [.int .i64 0, .string ⟨#[]⟩, .int .i64 0, .int .i64 0, .int .i64 0]
theorem blk2 (w : World) (xs ys : Array Value) (t : TypeId) : Blk ((w.alloc (.cells xs t)).alloc (.cells ys t)) w.heap.size t xs.toList ∧ Blk ((w.alloc (.cells xs t)).alloc (.cells ys t)) (w.heap.size + 1) t ys.toList := by
  refine ⟨(Blk.newA w xs t).alloc _, ?_⟩
  have := Blk.newA (w.alloc (.cells xs t)) ys t
  simpa using this
theorem below2 (w : World) (o o' : Obj) : Below w.heap.size w ((w.alloc o).alloc o') := ((Below.refl _ _).alloc (Nat.le_refl _) _).alloc (by simp) _
theorem int_add (a b : Nat) : (((a + b : Nat)) : Int) = (a : Int) + b := by omega
set_option maxRecDepth 100000 in
set_option maxHeartbeats 4000000 in
theorem tokenOf_name (s : ByteArray) (p : Nat) (c : UInt8) (r : List UInt8) (w : World) (hs : s.size ≤ 65536) (hp : p ≤ 65536) (hl : Hid (s.data.toList = c :: r)) (hc : letter c = true) :
    Calls Tryd.prog 54 #[.int .i64 1, .string s, .int .i64 p] w fun e w' => e = .returned (.tuple #[tkv (tkO s.data.toList p), .int .i64 (erW s.data.toList)]) ∧ Below w.heap.size w w' := by
  obtain ⟨k1, k2⟩ := of_name hl.out hc
  go_enter Tryd.func54, Tryd.ntmps54
  by_cases h : s.size ≤ 32
  · have HE := hide_ (k1 h).1
    have HT := hide_ (k1 h).2
    clear k1 k2
    have h' : (s.size : Int) ≤ 32 := by omega
    go_wp2_with fail
    refine (clone_any s _ hs).mono ?_; rintro e w1 ⟨rfl, hB1⟩
    obtain ⟨K6, K8⟩ := blk2 w #[.int .i64 0, .string ⟨#[]⟩, .int .i64 0, .int .i64 0, .int .i64 0] #[.int .i64 1, .string ⟨#[]⟩, .int .i64 0, .int .i64 p, .int .i64 (p + s.size)] 73
    have HB : Hid (Below w.heap.size w w1) := (below2 w _ _).trans (hB1.mono (by simp; omega))
    have K6 := hide_ (K6.later hB1)
    have K8 := hide_ (K8.later hB1)
    have y0 := K8.out.cell 0; have y1 := K8.out.cell 1; have y2 := K8.out.cell 2; have y3 := K8.out.cell 3; have y4 := K8.out.cell 4
    have z1 := K8.out.frozen 1
    have f0 := K6.out.frozen 0; have f1 := K6.out.frozen 1; have f2 := K6.out.frozen 2; have f3 := K6.out.frozen 3; have f4 := K6.out.frozen 4
    have x0 := K6.out.cell 0; have x1 := K6.out.cell 1; have x2 := K6.out.cell 2; have x3 := K6.out.cell 3; have x4 := K6.out.cell 4
    simp at y0 y1 y2 y3 y4 x0 x1 x2 x3 x4
    clear hB1
    go_wp2
    have K := (((((K6.out.other ⟨w.heap.size + 1, 1, none⟩ (.string s) (by simp)).set 0 (.int .i64 1)).set 1 (.string s)).set 2 (.int .i64 0)).set 3 (.int .i64 p)).set 4 (.int .i64 (p + s.size))
    refine ret29 (R := fun e w' => e = .returned (.tuple #[tkv (tkO s.data.toList p), .int .i64 (erW s.data.toList)]) ∧ Below w.heap.size w w') rfl K (And.intro ?_ ?_)
    · rw [HE.out, HT.out p]; simp [tkv]
    · exact (((((HB.out.setCell (by simp) _).setCell (Nat.le_refl _) _).setCell (Nat.le_refl _) _).setCell (Nat.le_refl _) _).setCell (Nat.le_refl _) _).setCell (Nat.le_refl _) _

  · have HE := hide_ (k2 (by omega)).1
    have HT := hide_ (k2 (by omega)).2
    clear k1 k2
    have h' : 32 < (s.size : Int) := by omega
    go_wp2
    refine ret29 rfl (blk2 w _ _ 73).1 ⟨?_, below2 w _ _⟩
    rw [HE.out, HT.out p]; rfl

set_option maxRecDepth 100000 in
set_option maxHeartbeats 4000000 in
theorem tokenOf_mark (s : ByteArray) (p : Nat) (c : UInt8) (r : List UInt8) (w : World) (hs : s.size ≤ 65536) (hp : p ≤ 65536) (hl : Hid (s.data.toList = c :: r)) (hc : letter c = false) (hd : digit c = false) :
    Calls Tryd.prog 54 #[.int .i64 3, .string s, .int .i64 p] w fun e w' => e = .returned (.tuple #[tkv (tkO s.data.toList p), .int .i64 (erW s.data.toList)]) ∧ Below w.heap.size w w' := by
  have HE := hide_ (of_mark hl.out hc hd).1
  have HT := hide_ (of_mark hl.out hc hd).2
  go_enter Tryd.func54, Tryd.ntmps54
  · skip
    go_wp2_with fail
    refine (clone_any s _ hs).mono ?_; rintro e w1 ⟨rfl, hB1⟩
    obtain ⟨K6, K8⟩ := blk2 w #[.int .i64 0, .string ⟨#[]⟩, .int .i64 0, .int .i64 0, .int .i64 0] #[.int .i64 3, .string ⟨#[]⟩, .int .i64 0, .int .i64 p, .int .i64 (p + s.size)] 73
    have HB : Hid (Below w.heap.size w w1) := (below2 w _ _).trans (hB1.mono (by simp; omega))
    have K6 := hide_ (K6.later hB1)
    have K8 := hide_ (K8.later hB1)
    have y0 := K8.out.cell 0; have y1 := K8.out.cell 1; have y2 := K8.out.cell 2; have y3 := K8.out.cell 3; have y4 := K8.out.cell 4
    have z1 := K8.out.frozen 1
    have f0 := K6.out.frozen 0; have f1 := K6.out.frozen 1; have f2 := K6.out.frozen 2; have f3 := K6.out.frozen 3; have f4 := K6.out.frozen 4
    have x0 := K6.out.cell 0; have x1 := K6.out.cell 1; have x2 := K6.out.cell 2; have x3 := K6.out.cell 3; have x4 := K6.out.cell 4
    simp at y0 y1 y2 y3 y4 x0 x1 x2 x3 x4
    clear hB1
    go_wp2
    have K := (((((K6.out.other ⟨w.heap.size + 1, 1, none⟩ (.string s) (by simp)).set 0 (.int .i64 3)).set 1 (.string s)).set 2 (.int .i64 0)).set 3 (.int .i64 p)).set 4 (.int .i64 (p + s.size))
    refine ret29 (R := fun e w' => e = .returned (.tuple #[tkv (tkO s.data.toList p), .int .i64 (erW s.data.toList)]) ∧ Below w.heap.size w w') rfl K (And.intro ?_ ?_)
    · rw [HE.out, HT.out p]; simp [tkv]
    · exact (((((HB.out.setCell (by simp) _).setCell (Nat.le_refl _) _).setCell (Nat.le_refl _) _).setCell (Nat.le_refl _) _).setCell (Nat.le_refl _) _).setCell (Nat.le_refl _) _

set_option maxRecDepth 100000 in
set_option maxHeartbeats 4000000 in
theorem tokenOf_number (s : ByteArray) (p : Nat) (c : UInt8) (r : List UInt8) (w : World) (hs : s.size ≤ 65536) (hp : p ≤ 65536) (hl : Hid (s.data.toList = c :: r)) (hc : letter c = false) (hd : digit c = true) (ha : Hid (allD s)) :
    Calls Tryd.prog 54 #[.int .i64 2, .string s, .int .i64 p] w fun e w' => e = .returned (.tuple #[tkv (tkO s.data.toList p), .int .i64 (erW s.data.toList)]) ∧ Below w.heap.size w w' := by
  obtain ⟨k1, k2⟩ := of_number hl.out hc hd
  go_enter Tryd.func54, Tryd.ntmps54
  go_wp2_with fail
  refine (number_any s _ ha hs).mono ?_; rintro e w' ⟨rfl, rfl⟩
  cases hb : numOk s.data.toList with
  | true =>
    have HE := hide_ (k1 hb).1
    have HT := hide_ (k1 hb).2
    clear k1 k2
    rw [numV_t hb]
    go_wp2
    refine ret29 rfl (blk2 w _ _ 73).1 ⟨?_, below2 w _ _⟩
    rw [HE.out, HT.out p]; simp [tkv]
  | false =>
    have HE := hide_ (k2 hb).1
    have HT := hide_ (k2 hb).2
    clear k1 k2
    rw [numV_f hb]
    go_wp2
    refine ret29 rfl (blk2 w _ _ 73).1 ⟨?_, below2 w _ _⟩
    rw [HE.out, HT.out p]; rfl

end Go.Proofs.YtbfmoiaedopeiaaDoor

/- The token at a place: tokenAt. -/
namespace Go.Proofs.YtbfmoiaedopeiaaDoor
open Go.RowKit
set_option linter.unusedVariables false

theorem drop_at (s : ByteArray) (p : Nat) (h : p < s.size) : s.data.toList.drop p = s[p]'h :: s.data.toList.drop (p + 1) := by
  have h2 : p < s.data.toList.length := by rw [← Lib.size_eq]; exact h
  rw [List.drop_eq_getElem_cons h2]
  congr 1
theorem mem_at {s : ByteArray} {x : UInt8} (h : x ∈ s.data.toList) : ∃ i, ∃ hi : i < s.size, s[i]'hi = x := by
  obtain ⟨i, hi, rfl⟩ := List.getElem_of_mem h
  exact ⟨i, by rw [Lib.size_eq]; exact hi, rfl⟩
theorem allD_of {s : ByteArray} (h : ∀ x ∈ s.data.toList, digit x = true) : allD s := fun k hk => by
  refine h _ ?_
  have := at_list s k hk
  exact List.mem_of_getElem? this
/-- The token at p ends at k. -/
theorem wl_at (s : ByteArray) (p k : Nat) (c : UInt8) (hp : p < s.size) (hc : s[p]'hp = c) (hk : p + 1 ≤ k) (hk2 : k ≤ s.size) (hf : (letter c || digit c || mark c) = true)
    (hall : ∀ j (h : j < s.size), p + 1 ≤ j → j < k → follows c (s[j]'h) = true) (hend : ∀ h : k < s.size, follows c (s[k]'h) = false) :
    wl (s.data.toList.drop p) = k - p ∧ (s.data.toList.drop p).take (k - p) = (s.extract p k).data.toList ∧ (s.extract p k).size = k - p ∧ (∃ r, (s.extract p k).data.toList = c :: r ∧ ∀ x ∈ r, follows c x = true) := by
  have e1 : s.data.toList.drop p = c :: s.data.toList.drop (p + 1) := by rw [drop_at s p hp, hc]
  have e2 : s.data.toList.drop (p + 1) = (s.data.toList.drop (p + 1)).take (k - (p + 1)) ++ s.data.toList.drop k := by
    have := (List.take_append_drop (k - (p + 1)) (s.data.toList.drop (p + 1))).symm
    rw [List.drop_drop, show p + 1 + (k - (p + 1)) = k by omega] at this
    exact this
  have e3 : ∀ x ∈ (s.data.toList.drop (p + 1)).take (k - (p + 1)), follows c x = true := by
    intro x hx
    obtain ⟨i, hi, rfl⟩ := List.getElem_of_mem hx
    rw [List.length_take, List.length_drop, ← Lib.size_eq] at hi
    have h1 : p + 1 + i < s.size := by omega
    have := hall (p + 1 + i) h1 (by omega) (by omega)
    have h2 := at_list s (p + 1 + i) h1
    rw [List.getElem_take, List.getElem_drop]
    exact this
  have e4 : ∀ x y, s.data.toList.drop k = x :: y → follows c x = false := by
    intro x y h
    rcases Nat.lt_or_ge k s.size with h1 | h1
    · rw [drop_at s k h1] at h
      injection h with h _
      rw [← h]
      exact hend h1
    · rw [List.drop_of_length_le (by rw [← Lib.size_eq]; exact h1)] at h
      cases h
  have e5 : (s.data.toList.drop (p + 1)).takeWhile (follows c) = (s.data.toList.drop (p + 1)).take (k - (p + 1)) := by
    conv => lhs; rw [e2]
    exact takeWhile_app e3 e4
  have e6 : wl (s.data.toList.drop p) = k - p := by
    rw [e1, wl, if_pos hf, e5, List.length_take, List.length_drop, ← Lib.size_eq]
    omega
  have e7 : (s.extract p k).data.toList = (s.data.toList.drop p).take (k - p) := Lib.extract_data s p k
  refine ⟨e6, e7.symm, ?_, (s.data.toList.drop (p + 1)).take (k - (p + 1)), ?_, e3⟩
  · rw [Lib.size_eq, e7, List.length_take, List.length_drop, ← Lib.size_eq]; omega
  · rw [e7, e1, show k - p = (k - (p + 1)) + 1 by omega, List.take_succ_cons]
theorem wl_none {c : UInt8} {r : List UInt8} (h1 : letter c = false) (h2 : digit c = false) (h3 : mark c = false) : wl (c :: r) = 0 := by
  rw [wl, h1, h2, h3]; rfl
theorem ret21 {R : Ending → World → Prop} {tmps : Array Value} {g : Nat} {x0 x1 x2 x3 x4 : Value} {w : World} (hp : tmps.getD 4 undef = .pointer (some ⟨g, 0, none⟩)) (hK : Blk w g 73 [x0, x1, x2, x3, x4]) (hR : R (.returned (.tuple #[.agg #[x0, x1, x2, x3, x4], tmps.getD 5 undef])) w) :
    bodyPost Tryd.prog Tryd.f36 R Exit.ret ⟨tmps, []⟩ w :=
  bodyPost_ret (results_cell_tmp_row rfl _ _ _ _ #[x0, x1, x2, x3, x4] _ _ hp hK Tryd.underlying73 rfl (by show _ = some 5; kernel_rfl)) rfl hR
/-- The token at place p, or none; what is wrong with it. -/
def wAt (s : ByteArray) (p : Nat) : List UInt8 := (s.data.toList.drop p).take (wl (s.data.toList.drop p))
set_option maxRecDepth 100000 in
set_option maxHeartbeats 4000000 in
theorem tokenAt_name (s : ByteArray) (p : Nat) (c : UInt8) (w : World) (hs : s.size ≤ 65536) (hp : p < s.size) (hc : s[p]'hp = c) (hl : letter c = true) :
    Calls Tryd.prog 36 #[.string s, .int .i64 p] w fun e w' => e = .returned (.tuple #[tkv (tkO (wAt s p) p), .int .i64 (erW (wAt s p))]) ∧ Below w.heap.size w w' := by
  have hp' : (p : Int) < s.size := by omega
  have hd : digit c = false := by simp [letter, digit] at *; omega
  have hall0 : Hid (∀ j (h : j < s.size), p + 1 ≤ j → j < p + 1 → follows c (s[j]'h) = true) := fun j h h1 h2 => by omega
  go_enter Tryd.func36, Tryd.ntmps36
  go_wp2_with (first | (go_at_call 40; refine (letter_any c _).mono ?_; rintro e w' ⟨rfl, rfl⟩; rw [hl]) | (go_at_call 53; refine (digit_any c _).mono ?_; rintro e w' ⟨rfl, rfl⟩; rw [hd]))
  go_loopw [9] (fun en wr => ∃ k : Nat, p + 1 ≤ k ∧ k ≤ s.size ∧ en = .int .i64 k ∧ Hid (∀ j (h : j < s.size), p + 1 ≤ j → j < k → follows c (s[j]'h) = true) ∧ w.alloc (.cells #[.int .i64 0, .string ⟨#[]⟩, .int .i64 0, .int .i64 0, .int .i64 0] 73) = wr) (fun en _ => s.size - (intOf en).toNat)
  case atStart => exact ⟨p + 1, Nat.le_refl _, by omega, by go_num, hall0, rfl⟩
  case round =>
    obtain ⟨k, hk, hk2, rfl, HA, rfl⟩ := hrel
    have fin : (∀ h : k < s.size, follows c (s[k]'h) = false) → Hid (wAt s p = (s.extract p k).data.toList ∧ (s.extract p k).size = k - p ∧ ∃ r, (s.extract p k).data.toList = c :: r ∧ ∀ x ∈ r, follows c x = true) := fun hend => by
      obtain ⟨e1, e2, e3, e4⟩ := wl_at s p k c hp hc hk hk2 (by rw [hl]; simp) HA.out hend
      exact ⟨by rw [wAt, e1, e2], e3, e4⟩
    by_cases hlt : k < s.size
    · have hlt' : (k : Int) < s.size := by omega
      obtain ⟨x, hx⟩ : ∃ x, s[k]'hlt = x := ⟨_, rfl⟩
      have hfx : follows c x = goes x := by unfold follows; rw [hl]; simp
      cases hg : goes x
      · have HF := fin (fun _ => by rw [hx, hfx, hg])
        clear fin
        obtain ⟨k1, k2, r, k3, k4⟩ := HF.out
        have HW := hide_ k1
        have HL : Hid ((s.extract p k).data.toList = c :: r) := k3
        have hk' : (k : Int) ≤ s.size := by omega
        skip
        clear k1 k3 k4 HF
        go_wp2_with (go_at_call 41; refine (goes_any x _).mono ?_; rintro e w' ⟨rfl, rfl⟩; rw [hg])
        refine (tokenOf_name (s.extract p k) p c r _ (by omega) (by omega) HL hl).mono ?_; rintro e w2 ⟨rfl, hB2⟩
        obtain ⟨T, hT⟩ : ∃ T, tkO (s.extract p k).data.toList p = T := ⟨_, rfl⟩
        obtain ⟨E, hE⟩ : ∃ E : Nat, erW (s.extract p k).data.toList = E := ⟨_, rfl⟩
        rw [hT, hE]
        have HT := hide_ hT
        have HE := hide_ hE
        clear hT hE
        obtain ⟨Tk, Tt, Tn, Ta, Te⟩ := T
        unfold tkv
        have HB : Hid (Below w.heap.size w w2) := ((Below.refl _ _).alloc (Nat.le_refl _) _).trans (hB2.mono (by simp))
        have K4 := hide_ ((Blk.newA w #[.int .i64 0, .string ⟨#[]⟩, .int .i64 0, .int .i64 0, .int .i64 0] 73).later hB2)
        have f0 := K4.out.frozen 0; have f1 := K4.out.frozen 1; have f2 := K4.out.frozen 2; have f3 := K4.out.frozen 3; have f4 := K4.out.frozen 4
        have x0 := K4.out.cell 0; have x1 := K4.out.cell 1; have x2 := K4.out.cell 2; have x3 := K4.out.cell 3; have x4 := K4.out.cell 4
        simp at x0 x1 x2 x3 x4
        clear hB2
        go_wp2
        have KK := ((((K4.out.set 0 (.int .i64 Tk)).set 1 (.string Tt)).set 2 (.int .i64 Tn)).set 3 (.int .i64 Ta)).set 4 (.int .i64 Te)
        refine ret21 (R := fun e w' => e = .returned (.tuple #[tkv (tkO (wAt s p) p), .int .i64 (erW (wAt s p))]) ∧ Below w.heap.size w w') rfl KK (And.intro (by rw [HW.out, HT.out, HE.out]; rfl) ?_)
        exact ((((HB.out.setCell (Nat.le_refl _) _).setCell (Nat.le_refl _) _).setCell (Nat.le_refl _) _).setCell (Nat.le_refl _) _).setCell (Nat.le_refl _) _
      · have HA2 : Hid (∀ j (h : j < s.size), p + 1 ≤ j → j < k + 1 → follows c (s[j]'h) = true) := fun j h h1 h2 => by
          rcases Nat.lt_or_ge j k with h3 | h3
          · exact HA.out j h h1 h3
          · obtain rfl : j = k := by omega
            rw [hx, hfx, hg]
        clear fin HA
        go_wp2_with (go_at_call 41; refine (goes_any x _).mono ?_; rintro e w' ⟨rfl, rfl⟩; rw [hg])
        go_roundw
        case rel => exact ⟨k + 1, by omega, by omega, by go_num, HA2, by trivial⟩
        case measure => simp [intOf]; omega
    · obtain rfl : k = s.size := by omega
      have HF := fin (fun h => absurd h (by omega))
      clear fin
      obtain ⟨k1, k2, r, k3, k4⟩ := HF.out
      have HW := hide_ k1
      have HL : Hid ((s.extract p s.size).data.toList = c :: r) := k3
      skip
      clear k1 k3 k4 HF
      go_wp2_with fail
      refine (tokenOf_name (s.extract p s.size) p c r _ (by omega) (by omega) HL hl).mono ?_; rintro e w2 ⟨rfl, hB2⟩
      obtain ⟨T, hT⟩ : ∃ T, tkO (s.extract p s.size).data.toList p = T := ⟨_, rfl⟩
      obtain ⟨E, hE⟩ : ∃ E : Nat, erW (s.extract p s.size).data.toList = E := ⟨_, rfl⟩
      rw [hT, hE]
      have HT := hide_ hT
      have HE := hide_ hE
      clear hT hE
      obtain ⟨Tk, Tt, Tn, Ta, Te⟩ := T
      unfold tkv
      have HB : Hid (Below w.heap.size w w2) := ((Below.refl _ _).alloc (Nat.le_refl _) _).trans (hB2.mono (by simp))
      have K4 := hide_ ((Blk.newA w #[.int .i64 0, .string ⟨#[]⟩, .int .i64 0, .int .i64 0, .int .i64 0] 73).later hB2)
      have f0 := K4.out.frozen 0; have f1 := K4.out.frozen 1; have f2 := K4.out.frozen 2; have f3 := K4.out.frozen 3; have f4 := K4.out.frozen 4
      have x0 := K4.out.cell 0; have x1 := K4.out.cell 1; have x2 := K4.out.cell 2; have x3 := K4.out.cell 3; have x4 := K4.out.cell 4
      simp at x0 x1 x2 x3 x4
      clear hB2
      go_wp2
      have KK := ((((K4.out.set 0 (.int .i64 Tk)).set 1 (.string Tt)).set 2 (.int .i64 Tn)).set 3 (.int .i64 Ta)).set 4 (.int .i64 Te)
      refine ret21 (R := fun e w' => e = .returned (.tuple #[tkv (tkO (wAt s p) p), .int .i64 (erW (wAt s p))]) ∧ Below w.heap.size w w') rfl KK (And.intro (by rw [HW.out, HT.out, HE.out]; rfl) ?_)
      exact ((((HB.out.setCell (Nat.le_refl _) _).setCell (Nat.le_refl _) _).setCell (Nat.le_refl _) _).setCell (Nat.le_refl _) _).setCell (Nat.le_refl _) _
set_option maxRecDepth 100000 in
set_option maxHeartbeats 4000000 in
theorem tokenAt_number (s : ByteArray) (p : Nat) (c : UInt8) (w : World) (hs : s.size ≤ 65536) (hp : p < s.size) (hc : s[p]'hp = c) (hl : letter c = false) (hd : digit c = true) :
    Calls Tryd.prog 36 #[.string s, .int .i64 p] w fun e w' => e = .returned (.tuple #[tkv (tkO (wAt s p) p), .int .i64 (erW (wAt s p))]) ∧ Below w.heap.size w w' := by
  have hp' : (p : Int) < s.size := by omega
  have hall0 : Hid (∀ j (h : j < s.size), p + 1 ≤ j → j < p + 1 → follows c (s[j]'h) = true) := fun j h h1 h2 => by omega
  go_enter Tryd.func36, Tryd.ntmps36
  go_wp2_with (first | (go_at_call 40; refine (letter_any c _).mono ?_; rintro e w' ⟨rfl, rfl⟩; rw [hl]) | (go_at_call 53; refine (digit_any c _).mono ?_; rintro e w' ⟨rfl, rfl⟩; rw [hd]))
  go_loopw [9] (fun en wr => ∃ k : Nat, p + 1 ≤ k ∧ k ≤ s.size ∧ en = .int .i64 k ∧ Hid (∀ j (h : j < s.size), p + 1 ≤ j → j < k → follows c (s[j]'h) = true) ∧ w.alloc (.cells #[.int .i64 0, .string ⟨#[]⟩, .int .i64 0, .int .i64 0, .int .i64 0] 73) = wr) (fun en _ => s.size - (intOf en).toNat)
  case atStart => exact ⟨p + 1, Nat.le_refl _, by omega, by go_num, hall0, rfl⟩
  case round =>
    obtain ⟨k, hk, hk2, rfl, HA, rfl⟩ := hrel
    have fin : (∀ h : k < s.size, follows c (s[k]'h) = false) → Hid (wAt s p = (s.extract p k).data.toList ∧ (s.extract p k).size = k - p ∧ ∃ r, (s.extract p k).data.toList = c :: r ∧ ∀ x ∈ r, follows c x = true) := fun hend => by
      obtain ⟨e1, e2, e3, e4⟩ := wl_at s p k c hp hc hk hk2 (by rw [hl, hd]; simp) HA.out hend
      exact ⟨by rw [wAt, e1, e2], e3, e4⟩
    by_cases hlt : k < s.size
    · have hlt' : (k : Int) < s.size := by omega
      obtain ⟨x, hx⟩ : ∃ x, s[k]'hlt = x := ⟨_, rfl⟩
      have hfx : follows c x = digit x := by unfold follows; rw [hl, hd]; simp
      cases hg : digit x
      · have HF := fin (fun _ => by rw [hx, hfx, hg])
        clear fin
        obtain ⟨k1, k2, r, k3, k4⟩ := HF.out
        have HW := hide_ k1
        have HL : Hid ((s.extract p k).data.toList = c :: r) := k3
        have hk' : (k : Int) ≤ s.size := by omega
        have HD : Hid (allD (s.extract p k)) := allD_of (fun x hx => by rw [k3] at hx; rcases List.mem_cons.1 hx with rfl | hx; exact hd; have := k4 x hx; unfold follows at this; rw [hl, hd] at this; simpa using this)
        clear k1 k3 k4 HF
        go_wp2_with (go_at_call 53; refine (digit_any x _).mono ?_; rintro e w' ⟨rfl, rfl⟩; rw [hg])
        refine (tokenOf_number (s.extract p k) p c r _ (by omega) (by omega) HL hl hd HD).mono ?_; rintro e w2 ⟨rfl, hB2⟩
        obtain ⟨T, hT⟩ : ∃ T, tkO (s.extract p k).data.toList p = T := ⟨_, rfl⟩
        obtain ⟨E, hE⟩ : ∃ E : Nat, erW (s.extract p k).data.toList = E := ⟨_, rfl⟩
        rw [hT, hE]
        have HT := hide_ hT
        have HE := hide_ hE
        clear hT hE
        obtain ⟨Tk, Tt, Tn, Ta, Te⟩ := T
        unfold tkv
        have HB : Hid (Below w.heap.size w w2) := ((Below.refl _ _).alloc (Nat.le_refl _) _).trans (hB2.mono (by simp))
        have K4 := hide_ ((Blk.newA w #[.int .i64 0, .string ⟨#[]⟩, .int .i64 0, .int .i64 0, .int .i64 0] 73).later hB2)
        have f0 := K4.out.frozen 0; have f1 := K4.out.frozen 1; have f2 := K4.out.frozen 2; have f3 := K4.out.frozen 3; have f4 := K4.out.frozen 4
        have x0 := K4.out.cell 0; have x1 := K4.out.cell 1; have x2 := K4.out.cell 2; have x3 := K4.out.cell 3; have x4 := K4.out.cell 4
        simp at x0 x1 x2 x3 x4
        clear hB2
        go_wp2
        have KK := ((((K4.out.set 0 (.int .i64 Tk)).set 1 (.string Tt)).set 2 (.int .i64 Tn)).set 3 (.int .i64 Ta)).set 4 (.int .i64 Te)
        refine ret21 (R := fun e w' => e = .returned (.tuple #[tkv (tkO (wAt s p) p), .int .i64 (erW (wAt s p))]) ∧ Below w.heap.size w w') rfl KK (And.intro (by rw [HW.out, HT.out, HE.out]; rfl) ?_)
        exact ((((HB.out.setCell (Nat.le_refl _) _).setCell (Nat.le_refl _) _).setCell (Nat.le_refl _) _).setCell (Nat.le_refl _) _).setCell (Nat.le_refl _) _
      · have HA2 : Hid (∀ j (h : j < s.size), p + 1 ≤ j → j < k + 1 → follows c (s[j]'h) = true) := fun j h h1 h2 => by
          rcases Nat.lt_or_ge j k with h3 | h3
          · exact HA.out j h h1 h3
          · obtain rfl : j = k := by omega
            rw [hx, hfx, hg]
        clear fin HA
        go_wp2_with (go_at_call 53; refine (digit_any x _).mono ?_; rintro e w' ⟨rfl, rfl⟩; rw [hg])
        go_roundw
        case rel => exact ⟨k + 1, by omega, by omega, by go_num, HA2, by trivial⟩
        case measure => simp [intOf]; omega
    · obtain rfl : k = s.size := by omega
      have HF := fin (fun h => absurd h (by omega))
      clear fin
      obtain ⟨k1, k2, r, k3, k4⟩ := HF.out
      have HW := hide_ k1
      have HL : Hid ((s.extract p s.size).data.toList = c :: r) := k3
      have HD : Hid (allD (s.extract p s.size)) := allD_of (fun x hx => by rw [k3] at hx; rcases List.mem_cons.1 hx with rfl | hx; exact hd; have := k4 x hx; unfold follows at this; rw [hl, hd] at this; simpa using this)
      clear k1 k3 k4 HF
      go_wp2_with fail
      refine (tokenOf_number (s.extract p s.size) p c r _ (by omega) (by omega) HL hl hd HD).mono ?_; rintro e w2 ⟨rfl, hB2⟩
      obtain ⟨T, hT⟩ : ∃ T, tkO (s.extract p s.size).data.toList p = T := ⟨_, rfl⟩
      obtain ⟨E, hE⟩ : ∃ E : Nat, erW (s.extract p s.size).data.toList = E := ⟨_, rfl⟩
      rw [hT, hE]
      have HT := hide_ hT
      have HE := hide_ hE
      clear hT hE
      obtain ⟨Tk, Tt, Tn, Ta, Te⟩ := T
      unfold tkv
      have HB : Hid (Below w.heap.size w w2) := ((Below.refl _ _).alloc (Nat.le_refl _) _).trans (hB2.mono (by simp))
      have K4 := hide_ ((Blk.newA w #[.int .i64 0, .string ⟨#[]⟩, .int .i64 0, .int .i64 0, .int .i64 0] 73).later hB2)
      have f0 := K4.out.frozen 0; have f1 := K4.out.frozen 1; have f2 := K4.out.frozen 2; have f3 := K4.out.frozen 3; have f4 := K4.out.frozen 4
      have x0 := K4.out.cell 0; have x1 := K4.out.cell 1; have x2 := K4.out.cell 2; have x3 := K4.out.cell 3; have x4 := K4.out.cell 4
      simp at x0 x1 x2 x3 x4
      clear hB2
      go_wp2
      have KK := ((((K4.out.set 0 (.int .i64 Tk)).set 1 (.string Tt)).set 2 (.int .i64 Tn)).set 3 (.int .i64 Ta)).set 4 (.int .i64 Te)
      refine ret21 (R := fun e w' => e = .returned (.tuple #[tkv (tkO (wAt s p) p), .int .i64 (erW (wAt s p))]) ∧ Below w.heap.size w w') rfl KK (And.intro (by rw [HW.out, HT.out, HE.out]; rfl) ?_)
      exact ((((HB.out.setCell (Nat.le_refl _) _).setCell (Nat.le_refl _) _).setCell (Nat.le_refl _) _).setCell (Nat.le_refl _) _).setCell (Nat.le_refl _) _
end Go.Proofs.YtbfmoiaedopeiaaDoor

/- Name, by the program and by the document. -/
namespace Go.Proofs.YtbfmoiaedopeiaaDoor
open Go.RowKit
set_option linter.unusedVariables false

def isName (s : ByteArray) : Bool := decide (0 < s.size ∧ s.size ≤ 32 ∧ (∀ h : 0 < s.size, letter (s[0]'h) = true) ∧ (∀ i (h : i < s.size), goes (s[i]'h) = true) ∧ isWord s = false)
theorem name_ne {s : ByteArray} (h0 : 0 < s.size) : (s.toList == []) = false ∧ s.toList.isEmpty = false := by
  have h1 : s.toList ≠ [] := fun e => by
    rw [Lib.toList_data] at e
    rw [Lib.size_eq, e] at h0
    simp at h0
  refine ⟨by simpa using h1, ?_⟩
  cases hs : s.toList with
  | nil => exact absurd hs h1
  | cons a l => rfl
set_option maxRecDepth 100000 in
set_option maxHeartbeats 4000000 in
theorem name_any (s : ByteArray) (w : World) : Calls Tryd.prog 25 #[.string s] w fun e w' => e = .returned (.bool (isName s)) ∧ w = w' := by
  by_cases h0 : s.size = 0
  · have hs : s = ⟨#[]⟩ := by
      apply ByteArray.ext
      exact Array.eq_empty_of_size_eq_zero h0
    subst hs
    go_enter Tryd.func25, Tryd.ntmps25
    go_wp2
    go_ret
    exact ⟨rfl, rfl⟩
  obtain ⟨n0, n1⟩ := name_ne (s := s) (by omega)
  by_cases h1 : 32 < s.size
  · have h1' : (32 : Int) < s.size := by omega
    have HN : Hid (isName s = false) := decide_eq_false (fun h => by omega)
    go_enter Tryd.func25, Tryd.ntmps25
    go_wp2
    go_ret
    exact ⟨by rw [HN.out]; rfl, rfl⟩
  have h1' : (s.size : Int) ≤ 32 := by omega
  have h0' : 0 < s.size := by omega
  have h0i : (0 : Int) < s.size := by omega
  obtain ⟨c, hc⟩ : ∃ c, s[0]'h0' = c := ⟨_, rfl⟩
  cases hl : letter c with
  | false =>
    have HN : Hid (isName s = false) := decide_eq_false (fun h => by have := h.2.2.1 h0'; rw [hc, hl] at this; cases this)
    go_enter Tryd.func25, Tryd.ntmps25
    go_wp2_with (go_at_call 40; refine (letter_any c _).mono ?_; rintro e w' ⟨rfl, rfl⟩; rw [hl])
    go_ret
    exact ⟨by rw [HN.out]; rfl, rfl⟩
  | true =>
    cases hw : isWord s with
    | true =>
      go_enter Tryd.func25, Tryd.ntmps25
      go_wp2_with (first | (go_at_call 40; refine (letter_any c _).mono ?_; rintro e w' ⟨rfl, rfl⟩; rw [hl]) | (go_at_call 42; refine (word_any s _).mono ?_; rintro e w' ⟨rfl, rfl⟩; rw [hw]))
      go_loopw [19] (fun i wr => ∃ k : Nat, k ≤ s.size ∧ i = .int .i64 k ∧ Hid (∀ j (h : j < s.size), j < k → goes (s[j]'h) = true) ∧ w = wr) (fun i _ => s.size - (intOf i).toNat)
      case atStart => exact ⟨0, Nat.zero_le _, rfl, fun j h hj => by omega, rfl⟩
      case round =>
        obtain ⟨k, hk, rfl, HA, rfl⟩ := hrel
        by_cases hlt : k < s.size
        · have hlt' : (k : Int) < s.size := by omega
          obtain ⟨x, hx⟩ : ∃ x, s[k]'hlt = x := ⟨_, rfl⟩
          cases hg : goes x with
          | false =>
            have HN : Hid (isName s = false) := decide_eq_false (fun h => by have := h.2.2.2.1 k hlt; rw [hx, hg] at this; cases this)
            go_wp2_with (go_at_call 41; refine (goes_any x _).mono ?_; rintro e w' ⟨rfl, rfl⟩; rw [hg])
            go_ret
            exact ⟨by rw [HN.out]; rfl, rfl⟩
          | true =>
            have HA2 : Hid (∀ j (h : j < s.size), j < k + 1 → goes (s[j]'h) = true) := fun j h h2 => by
              rcases Nat.lt_or_ge j k with h3 | h3
              · exact HA.out j h h3
              · obtain rfl : j = k := by omega
                rw [hx, hg]
            go_wp2_with (go_at_call 41; refine (goes_any x _).mono ?_; rintro e w' ⟨rfl, rfl⟩; rw [hg])
            go_roundw
            case rel => exact ⟨k + 1, by omega, by go_num, HA2, by trivial⟩
            case measure => simp [intOf]; omega
        · obtain rfl : k = s.size := by omega
          have HN : Hid (isName s = !(isWord s)) := by
            show _ = _
            rw [hw]
            exact decide_eq_false (fun h => by have := h.2.2.2.2; rw [hw] at this; cases this)
          go_wp2_with (go_at_call 42; refine (word_any s _).mono ?_; rintro e w' ⟨rfl, rfl⟩; rw [hw])
          go_ret
          exact ⟨by rw [HN.out, hw]; rfl, rfl⟩
    | false =>
      go_enter Tryd.func25, Tryd.ntmps25
      go_wp2_with (first | (go_at_call 40; refine (letter_any c _).mono ?_; rintro e w' ⟨rfl, rfl⟩; rw [hl]) | (go_at_call 42; refine (word_any s _).mono ?_; rintro e w' ⟨rfl, rfl⟩; rw [hw]))
      go_loopw [19] (fun i wr => ∃ k : Nat, k ≤ s.size ∧ i = .int .i64 k ∧ Hid (∀ j (h : j < s.size), j < k → goes (s[j]'h) = true) ∧ w = wr) (fun i _ => s.size - (intOf i).toNat)
      case atStart => exact ⟨0, Nat.zero_le _, rfl, fun j h hj => by omega, rfl⟩
      case round =>
        obtain ⟨k, hk, rfl, HA, rfl⟩ := hrel
        by_cases hlt : k < s.size
        · have hlt' : (k : Int) < s.size := by omega
          obtain ⟨x, hx⟩ : ∃ x, s[k]'hlt = x := ⟨_, rfl⟩
          cases hg : goes x with
          | false =>
            have HN : Hid (isName s = false) := decide_eq_false (fun h => by have := h.2.2.2.1 k hlt; rw [hx, hg] at this; cases this)
            go_wp2_with (go_at_call 41; refine (goes_any x _).mono ?_; rintro e w' ⟨rfl, rfl⟩; rw [hg])
            go_ret
            exact ⟨by rw [HN.out]; rfl, rfl⟩
          | true =>
            have HA2 : Hid (∀ j (h : j < s.size), j < k + 1 → goes (s[j]'h) = true) := fun j h h2 => by
              rcases Nat.lt_or_ge j k with h3 | h3
              · exact HA.out j h h3
              · obtain rfl : j = k := by omega
                rw [hx, hg]
            go_wp2_with (go_at_call 41; refine (goes_any x _).mono ?_; rintro e w' ⟨rfl, rfl⟩; rw [hg])
            go_roundw
            case rel => exact ⟨k + 1, by omega, by go_num, HA2, by trivial⟩
            case measure => simp [intOf]; omega
        · obtain rfl : k = s.size := by omega
          have HN : Hid (isName s = !(isWord s)) := by
            show _ = _
            rw [hw]
            exact decide_eq_true ⟨h0', by omega, fun _ => by rw [hc, hl], fun i h => HA.out i h h, hw⟩
          go_wp2_with (go_at_call 42; refine (word_any s _).mono ?_; rintro e w' ⟨rfl, rfl⟩; rw [hw])
          go_ret
          exact ⟨by rw [HN.out, hw]; rfl, rfl⟩
end Go.Proofs.YtbfmoiaedopeiaaDoor

/- A byte that begins no token; a mark; the steps of a text, plain. -/
namespace Go.Proofs.YtbfmoiaedopeiaaDoor
open Go.RowKit
set_option linter.unusedVariables false

set_option maxRecDepth 100000 in
set_option maxHeartbeats 4000000 in
theorem tokenAt_mark (s : ByteArray) (p : Nat) (c : UInt8) (w : World) (hs : s.size ≤ 65536) (hp : p < s.size) (hc : s[p]'hp = c) (hl : letter c = false) (hd : digit c = false) (hm : mark c = true) :
    Calls Tryd.prog 36 #[.string s, .int .i64 p] w fun e w' => e = .returned (.tuple #[tkv (tkO (wAt s p) p), .int .i64 (erW (wAt s p))]) ∧ Below w.heap.size w w' := by
  have hp' : (p : Int) < s.size := by omega
  obtain ⟨e1, e2, e3, r, e4, e5⟩ := wl_at s p (p + 1) c hp hc (Nat.le_refl _) (by omega) (by rw [hm]; simp) (fun j h h1 h2 => by omega) (fun h => by unfold follows; rw [hl, hd]; rfl)
  have HW : Hid (wAt s p = (s.extract p (p + 1)).data.toList) := by show _ = _; rw [wAt, e1, e2]
  have HL : Hid ((s.extract p (p + 1)).data.toList = c :: r) := e4
  clear e1 e2 e4 e5
  go_enter Tryd.func36, Tryd.ntmps36
  go_wp2_with (first | (go_at_call 40; refine (letter_any c _).mono ?_; rintro e w' ⟨rfl, rfl⟩; rw [hl]) | (go_at_call 53; refine (digit_any c _).mono ?_; rintro e w' ⟨rfl, rfl⟩; rw [hd]) | (go_at_call 55; refine (mark_any c _).mono ?_; rintro e w' ⟨rfl, rfl⟩; rw [hm]))
  refine (tokenOf_mark (s.extract p (p + 1)) p c r _ (by omega) (by omega) HL hl hd).mono ?_; rintro e w2 ⟨rfl, hB2⟩
  obtain ⟨T, hT⟩ : ∃ T, tkO (s.extract p (p + 1)).data.toList p = T := ⟨_, rfl⟩
  obtain ⟨E, hE⟩ : ∃ E : Nat, erW (s.extract p (p + 1)).data.toList = E := ⟨_, rfl⟩
  rw [hT, hE]
  have HT := hide_ hT
  have HE := hide_ hE
  clear hT hE
  obtain ⟨Tk, Tt, Tn, Ta, Te⟩ := T
  unfold tkv
  have HB : Hid (Below w.heap.size w w2) := ((Below.refl _ _).alloc (Nat.le_refl _) _).trans (hB2.mono (by simp))
  have K4 := hide_ ((Blk.newA w #[.int .i64 0, .string ⟨#[]⟩, .int .i64 0, .int .i64 0, .int .i64 0] 73).later hB2)
  have f0 := K4.out.frozen 0; have f1 := K4.out.frozen 1; have f2 := K4.out.frozen 2; have f3 := K4.out.frozen 3; have f4 := K4.out.frozen 4
  have x0 := K4.out.cell 0; have x1 := K4.out.cell 1; have x2 := K4.out.cell 2; have x3 := K4.out.cell 3; have x4 := K4.out.cell 4
  simp at x0 x1 x2 x3 x4
  clear hB2
  go_wp2
  have KK := ((((K4.out.set 0 (.int .i64 Tk)).set 1 (.string Tt)).set 2 (.int .i64 Tn)).set 3 (.int .i64 Ta)).set 4 (.int .i64 Te)
  refine ret21 (R := fun e w' => e = .returned (.tuple #[tkv (tkO (wAt s p) p), .int .i64 (erW (wAt s p))]) ∧ Below w.heap.size w w') rfl KK (And.intro (by rw [HW.out, HT.out, HE.out]; rfl) ?_)
  exact ((((HB.out.setCell (Nat.le_refl _) _).setCell (Nat.le_refl _) _).setCell (Nat.le_refl _) _).setCell (Nat.le_refl _) _).setCell (Nat.le_refl _) _
set_option maxRecDepth 100000 in
set_option maxHeartbeats 4000000 in
theorem tokenAt_bad (s : ByteArray) (p : Nat) (c : UInt8) (w : World) (hs : s.size ≤ 65536) (hp : p < s.size) (hc : s[p]'hp = c) (hl : letter c = false) (hd : digit c = false) (hm : mark c = false) :
    Calls Tryd.prog 36 #[.string s, .int .i64 p] w fun e w' => e = .returned (.tuple #[tkv (tkO (wAt s p) p), .int .i64 (erW (wAt s p))]) ∧ Below w.heap.size w w' := by
  have hp' : (p : Int) < s.size := by omega
  have HW : Hid (wAt s p = []) := by show _ = _; rw [wAt, drop_at s p hp, hc, wl_none hl hd hm]; rfl
  go_enter Tryd.func36, Tryd.ntmps36
  go_wp2_with (first | (go_at_call 40; refine (letter_any c _).mono ?_; rintro e w' ⟨rfl, rfl⟩; rw [hl]) | (go_at_call 53; refine (digit_any c _).mono ?_; rintro e w' ⟨rfl, rfl⟩; rw [hd]) | (go_at_call 55; refine (mark_any c _).mono ?_; rintro e w' ⟨rfl, rfl⟩; rw [hm]))
  refine ret21 (R := fun e w' => e = .returned (.tuple #[tkv (tkO (wAt s p) p), .int .i64 (erW (wAt s p))]) ∧ Below w.heap.size w w') rfl (Blk.newA w _ 73) (And.intro (by rw [HW.out]; rfl) ?_)
  exact (Below.refl _ _).alloc (Nat.le_refl _) _
theorem tokenAt_any (s : ByteArray) (p : Nat) (w : World) (hs : s.size ≤ 65536) (hp : p < s.size) :
    Calls Tryd.prog 36 #[.string s, .int .i64 p] w fun e w' => e = .returned (.tuple #[tkv (tkO (wAt s p) p), .int .i64 (erW (wAt s p))]) ∧ Below w.heap.size w w' := by
  cases hl : letter (s[p]'hp) with
  | true => exact tokenAt_name s p _ w hs hp rfl hl
  | false =>
    cases hd : digit (s[p]'hp) with
    | true => exact tokenAt_number s p _ w hs hp rfl hl hd
    | false =>
      cases hm : mark (s[p]'hp) with
      | true => exact tokenAt_mark s p _ w hs hp rfl hl hd hm
      | false => exact tokenAt_bad s p _ w hs hp rfl hl hd hm

/-! ### The steps of a text -/
def cutT (s : ByteArray) : Cu := if 65536 < s.size then ([], 4, 0) else cut s.data.toList 0
section
variable {s : ByteArray} {q : Nat}
theorem drop_while (f : UInt8 → Bool) : ∀ r : List UInt8, r.drop (r.takeWhile f).length = r.dropWhile f
  | [] => rfl
  | a :: r => by
    have ih := drop_while f r
    cases h : f a <;> simp [h, ih]
theorem step_sharp (hq : q < s.size) (h : sharp (s[q]'hq) = true) : cut (s.data.toList.drop q) q = cut (s.data.toList.drop (q + ((s.data.toList.drop q).takeWhile inl).length)) (q + ((s.data.toList.drop q).takeWhile inl).length) ∧ 0 < ((s.data.toList.drop q).takeWhile inl).length ∧ q + ((s.data.toList.drop q).takeWhile inl).length ≤ s.size := by
  have hi : inl (s[q]'hq) = true := by simp [sharp] at h; simp [inl, h]
  have e : (s.data.toList.drop q).takeWhile inl = s[q]'hq :: (s.data.toList.drop (q + 1)).takeWhile inl := by rw [drop_at s q hq]; simp [hi]
  have hl := (List.takeWhile_sublist inl (l := s.data.toList.drop q)).length_le
  rw [List.length_drop, ← Lib.size_eq] at hl
  refine ⟨?_, by rw [e]; simp, by omega⟩
  conv => lhs; rw [drop_at s q hq]
  have e8 : s.data.toList.drop (q + 1 + ((s.data.toList.drop (q + 1)).takeWhile inl).length) = (s.data.toList.drop (q + 1)).dropWhile inl := by
    rw [← drop_while inl (s.data.toList.drop (q + 1)), List.drop_drop]
  rw [cut_sharp _ q h, e, List.length_cons, show q + (((s.data.toList.drop (q + 1)).takeWhile inl).length + 1) = q + 1 + ((s.data.toList.drop (q + 1)).takeWhile inl).length by omega, e8]
theorem step_blank (hq : q < s.size) (h : blank (s[q]'hq) = true) : cut (s.data.toList.drop q) q = cut (s.data.toList.drop (q + 1)) (q + 1) := by
  rw [drop_at s q hq, cut_blank _ q h]
theorem step_bad (hq : q < s.size) (h1 : blank (s[q]'hq) = false) (h2 : sharp (s[q]'hq) = false) (h3 : erW (wAt s q) ≠ 0) : cut (s.data.toList.drop q) q = ([], erW (wAt s q), q) := by
  unfold wAt at *
  rw [drop_at s q hq] at *
  exact cut_bad _ q h1 h2 h3
theorem step_tok (hq : q < s.size) (h1 : blank (s[q]'hq) = false) (h2 : sharp (s[q]'hq) = false) (h3 : erW (wAt s q) = 0) : ∃ n, 0 < n ∧ q + n ≤ s.size ∧ (tkW (wAt s q) q).e = q + n ∧ tkO (wAt s q) q = tkW (wAt s q) q ∧ cut (s.data.toList.drop q) q = app (tkW (wAt s q) q) (cut (s.data.toList.drop (q + n)) (q + n)) := by
  have ht : tkO (wAt s q) q = tkW (wAt s q) q := by rw [tkO, if_pos h3]
  have hw : wl (s.data.toList.drop q) ≤ s.size - q := by
    rw [drop_at s q hq, wl]
    split
    · have := (List.takeWhile_sublist (follows (s[q]'hq)) (l := s.data.toList.drop (q + 1))).length_le
      rw [List.length_drop, ← Lib.size_eq] at this
      omega
    · omega
  have h0 : 0 < wl (s.data.toList.drop q) := by
    unfold wAt at h3
    rw [drop_at s q hq] at h3 ⊢
    exact er_wl h3
  have hlen : (wAt s q).length = wl (s.data.toList.drop q) := by rw [wAt, List.length_take, List.length_drop, ← Lib.size_eq]; omega
  refine ⟨wl (s.data.toList.drop q), h0, by omega, ?_, ht, ?_⟩
  · rw [← hlen]
    cases hww : wAt s q with
    | nil => rw [hww] at hlen; simp at hlen; omega
    | cons c r => unfold tkW; simp only; cases letter c <;> cases digit c <;> simp
  · unfold wAt at *
    rw [← List.drop_drop]
    rw [drop_at s q hq] at *
    exact cut_tok _ q h1 h2 h3
end
end Go.Proofs.YtbfmoiaedopeiaaDoor

/- Cut. -/
namespace Go.Proofs.YtbfmoiaedopeiaaDoor
open Go.RowKit
set_option linter.unusedVariables false

def cellsT (ts : List Tk) : List Value := ts.flatMap tkc
theorem cellsT_app (a b : List Tk) : cellsT (a ++ b) = cellsT a ++ cellsT b := by simp [cellsT]
theorem cellsT_one (t : Tk) : cellsT [t] = tkc t := by simp [cellsT]
theorem cellsT_len (ts : List Tk) : (cellsT ts).length = ts.length * 5 := by
  induction ts with
  | nil => rfl
  | cons x N ih => rw [cellsT, List.flatMap_cons, List.length_append]; rw [cellsT] at ih; rw [ih]; simp [tkc]; omega
theorem push_tok {w : World} {B : Nat} {v : Value} {ts : List Tk} (h : w.ownsRow B 73 5 v ts.length (cellsT ts)) (t : Tk) (hl : ts.length ≤ 1000000000) (hB : B ≤ w.heap.size) :
    ∃ v' w', (Builtin.append_ #[55, 55] 55 #[v, .slice (some ⟨w.heap.size, 0, none⟩) 1 1]).run Tryd.prog (w.alloc (.cells #[.int .i64 t.k, .string t.t, .int .i64 t.n, .int .i64 t.a, .int .i64 t.e] 73)) = .ok v' w' ∧
      w'.ownsRow B 73 5 v' (ts ++ [t]).length (cellsT (ts ++ [t])) ∧ Upd (fun k => v.ownBlock = some k) w w' := by
  obtain ⟨g, cap, w', r1, o1, u1, -⟩ := run_pushS (P := Tryd.prog) (t := 55) (e := 73) (z := .agg #[.int .i64 0, .string ⟨#[]⟩, .int .i64 0, .int .i64 0, .int .i64 0]) (bytes := 48) Tryd.underlying55 (by kernel_rfl) rfl (by decide) w 55 h (tkc t) rfl (by intro u hu; simp [tkc] at hu; rcases hu with rfl | rfl | rfl | rfl | rfl <;> rfl) (by unfold maxLen; omega) (by omega) hB
  refine ⟨_, w', r1, ?_, u1⟩
  rw [cellsT_app, cellsT_one, List.length_append]
  exact o1
theorem ret10 {R : Ending → World → Prop} {tmps : Array Value} {g : Nat} {x y : Value} {w : World} (hp : tmps.getD 3 undef = .pointer (some ⟨g, 0, none⟩)) (hK : Blk w g 39 [x, y]) (hR : R (.returned (.tuple #[tmps.getD 2 undef, .agg #[x, y]])) w) :
    bodyPost Tryd.prog Tryd.f22 R Exit.ret ⟨tmps, []⟩ w :=
  bodyPost_ret (results_tmp_cell_row rfl _ _ _ _ #[x, y] _ _ hp hK Tryd.underlying39 rfl (by show _ = some 2; kernel_rfl)) rfl hR
theorem ne26 {w : World} {B g n c : Nat} {v : Value} {xs ys : List Value} (h : w.ownsRow B 73 c v n xs) (hb : Blk w g 39 ys) : v.ownBlock ≠ some g := fun e => by
  obtain ⟨zs, hz⟩ := ownS_type h e
  exact absurd (blk_type hb hz) (by decide)
/-- Cut's answer. -/
def CutTo (s : ByteArray) (w : World) (e : Ending) (w' : World) : Prop :=
  ∃ v, e = .returned (.tuple #[v, .agg #[.int .i64 (cutT s).2.1, .int .i64 (cutT s).2.2]]) ∧ Hid (w'.ownsRow w.heap.size 73 5 v (cutT s).1.length (cellsT (cutT s).1)) ∧ Hid (Below w.heap.size w w')
set_option maxRecDepth 100000 in
set_option maxHeartbeats 4000000 in
theorem cut_any (s : ByteArray) (w : World) : Calls Tryd.prog 22 #[.string s] w fun e w' => CutTo s w e w' := by
  by_cases hs : 65536 < s.size
  · have hs' : (65536 : Int) < s.size := by omega
    have HC : Hid (cutT s = ([], 4, 0)) := by show _ = _; rw [cutT, if_pos hs]
    go_enter Tryd.func22, Tryd.ntmps22
    go_wp2
    go_step3
    go_wp2
    rw [Exit.noGoto_ret]
    refine ret10 rfl (Blk.newA w _ 39) ⟨_, by rw [HC.out]; rfl, by rw [HC.out]; exact World.ownsRow_nil _ _ _ _, (Below.refl _ _).alloc (Nat.le_refl _) _⟩
  have hs' : (s.size : Int) ≤ 65536 := by omega
  have HC : Hid (cutT s = cut s.data.toList 0) := by show _ = _; rw [cutT, if_neg hs]
  go_enter Tryd.func22, Tryd.ntmps22
  go_wp2_with fail
  go_step3
  go_wp2_with fail
  go_step3
  go_wp2_with fail
  go_loopw [4, 5] (fun x4 x5 wr => ∃ (v : Value) (q : Nat) (ts : List Tk), v = x4 ∧ x5 = .int .i64 q ∧ q ≤ s.size ∧ ts.length ≤ q ∧ Hid (cut s.data.toList 0 = apps ts (cut (s.data.toList.drop q) q)) ∧ Hid (wr.ownsRow w.heap.size 73 5 v ts.length (cellsT ts)) ∧ Hid (Blk wr w.heap.size 39 [.int .i64 0, .int .i64 0]) ∧ Hid (Below w.heap.size w wr)) (fun _ q _ => s.size - (intOf q).toNat)
  case atStart => exact ⟨_, 0, [], rfl, rfl, Nat.zero_le _, Nat.zero_le _, by rw [List.drop_zero, apps_nil]; exact rfl, World.ownsRow_nil _ _ _ _, Blk.newA w _ 39, (Below.refl _ _).alloc (Nat.le_refl _) _⟩
  case round =>
    obtain ⟨v, q, ts, rfl, rfl, hq, hts, HE, HV, HK, HB⟩ := hrel
    generalize wr = wq at *
    by_cases hlt : q < s.size
    · have hlt' : (q : Int) < s.size := by omega
      have h5 := @step_sharp s q hlt
      have h4 := @step_blank s q hlt
      have h3 := @step_bad s q hlt
      have h2 := @step_tok s q hlt
      have hcut := tokenAt_any s q wq (by omega) hlt
      obtain ⟨c, hc⟩ : ∃ c, s[q]'hlt = c := ⟨_, rfl⟩
      rw [hc] at h5 h4 h3 h2
      by_cases hsh : (c.toNat : Int) = 35
      · obtain ⟨k1, k2, k3⟩ := h5 (by simp [sharp]; omega)
        have k4 : q < q + ((s.data.toList.drop q).takeWhile inl).length := by omega
        have HE2 := HE.out
        rw [k1] at HE2
        have hb : ((c.toNat : Int) == 35) = true := by simp [hsh]
        have hrm := remark_any s q wq (by omega) (by omega)
        generalize q + ((s.data.toList.drop q).takeWhile inl).length = q' at *
        have HE3 := hide_ HE2
        have HR := hide_ hrm
        clear h5 h4 h3 h2 hcut k1 HE2 hrm HE
        go_wp2_with fail
        refine HR.out.mono ?_; rintro e w' ⟨rfl, rfl⟩
        go_wp2
        go_roundw
        case rel => exact ⟨v, q', ts, rfl, rfl, by omega, by omega, HE3, HV, HK, HB⟩
        case measure => simp [intOf]; omega
      have hb35 : ((c.toNat : Int) == 35) = false := by simpa using hsh
      have hsh' : sharp c = false := by simp [sharp]; omega
      cases hbl : blank c with
      | true =>
        have HE2 := HE.out
        rw [h4 hbl] at HE2
        have HE3 := hide_ HE2
        clear h5 h4 h3 h2 hcut HE2 HE
        have h32 : (c.toNat : Int) = 32 ∨ (c.toNat : Int) = 9 ∨ (c.toNat : Int) = 10 := by simp [blank] at hbl; omega
        obtain ⟨x, hx⟩ : ∃ x : Int, (c.toNat : Int) = x := ⟨_, rfl⟩
        rw [hx] at h32 hb35 hsh
        rcases h32 with rfl | rfl | rfl
        all_goals
          go_wp2
          go_roundw
          case rel => exact ⟨v, q + 1, ts, rfl, by go_num, by omega, by omega, HE3, HV, HK, HB⟩
          case measure => simp [intOf]; omega
      | false =>
        have h32 : ((c.toNat : Int) == 32) = false ∧ ((c.toNat : Int) == 9) = false ∧ ((c.toNat : Int) == 10) = false := by simp [blank] at hbl; simp; omega
        obtain ⟨i1, i2, i3⟩ := h32
        have HCt := hide_ hcut
        clear h5 h4 hcut
        have h3 := h3 hbl hsh'
        have h2 := h2 hbl hsh'
        by_cases he : erW (wAt s q) = 0
        · obtain ⟨n, n1, n2, n3, n4, n5⟩ := h2 he
          rw [he, n4] at HCt
          have HE2 := HE.out
          rw [n5, apps_app] at HE2
          have HE3 := hide_ HE2
          clear h3 h2 he n4 n5 HE HE2
          obtain ⟨T, hT⟩ : ∃ T, tkW (wAt s q) q = T := ⟨_, rfl⟩
          rw [hT] at HCt HE3 n3
          clear hT
          go_wp2_with fail
          refine HCt.out.mono ?_; rintro e w2 ⟨rfl, hB2⟩
          clear HCt
          have HV2 := hide_ (ownS_upd HV.out (Upd.of_below (S := fun _ => False) hB2) (fun _ _ h => h))
          have HK2 := hide_ (HK.out.later hB2)
          have HB2 := hide_ (HB.out.trans (hB2.mono HB.out.size))
          clear HV HK HB hB2
          obtain ⟨wA, hwA⟩ : ∃ wA, wA = w2.alloc (.cells #[.int .i64 T.k, .string T.t, .int .i64 T.n, .int .i64 T.a, .int .i64 T.e] 73) := ⟨_, rfl⟩
          have KA : Blk wA w2.heap.size 73 [.int .i64 T.k, .string T.t, .int .i64 T.n, .int .i64 T.a, .int .i64 T.e] := by rw [hwA]; exact Blk.newA w2 _ 73
          have HBA0 : Below w2.heap.size w2 wA := by rw [hwA]; exact (Below.refl _ _).alloc (Nat.le_refl _) _
          have HVA := hide_ (ownS_upd HV2.out (Upd.of_below (S := fun _ => False) HBA0) (fun _ _ h => h))
          have HKA := hide_ (HK2.out.later HBA0)
          have HBA := hide_ (HB2.out.trans (HBA0.mono HB2.out.size))
          obtain ⟨v9, w9, r9, o9, u9⟩ := push_tok HVA.out T (by omega) HBA.out.size
          have R9 := hide_ r9
          have HV9 := hide_ o9
          have HK9 := hide_ (HKA.out.upd u9 (ne26 HVA.out HKA.out))
          have HB9 := hide_ (HBA.out.trans (u9.below _ HBA.out.size fun k hk => (HVA.out.lt k hk).1))
          have K9 := KA.upd u9 (fun e => by have h2 := (HV2.out.lt _ e).2; omega)
          have d4 : w9.cell? ⟨w2.heap.size, 4, none⟩ = some (.int .i64 T.e) := K9.cell 4
          have HTe : Hid ((T.e : Int) = q + n) := by show _ = _; rw [n3]; omega
          clear n3
          have a0 : wA.cell? ⟨w2.heap.size, 0, none⟩ = some (.int .i64 T.k) := KA.cell 0
          have a1 : wA.cell? ⟨w2.heap.size, 1, none⟩ = some (.string T.t) := KA.cell 1
          have a2 : wA.cell? ⟨w2.heap.size, 2, none⟩ = some (.int .i64 T.n) := KA.cell 2
          have a3 : wA.cell? ⟨w2.heap.size, 3, none⟩ = some (.int .i64 T.a) := KA.cell 3
          have a4 : wA.cell? ⟨w2.heap.size, 4, none⟩ = some (.int .i64 T.e) := KA.cell 4
          clear HVA HKA HBA HBA0 HV2 HK2 HB2 r9 o9 u9 K9 KA
          unfold tkv
          go_upto_region 14 with fail
          rw [← hwA]
          clear hwA
          go_wp2_with (at_builtin; have _t := R9; refine wpList_append_run rfl (.tmp 41) (.tmp 43) 55 55 rfl rfl rfl R9.out ?_; clear R9)
          go_roundw
          case rel => exact ⟨v9, q + n, ts ++ [T], rfl, by first | (rw [HTe.out]; go_num) | go_num, by omega, by simp; omega, HE3, HV9, HK9, HB9⟩
          case measure => rw [HTe.out]; simp [intOf]; omega
        · have HE2 := HE.out
          rw [h3 he] at HE2
          have hap : apps ts ([], erW (wAt s q), q) = ([], erW (wAt s q), q) := by unfold apps; rw [if_neg he]
          rw [hap] at HE2
          have HE3 := hide_ (HC.out.trans HE2)
          have he' : ((erW (wAt s q) : Int) == 0) = false := by simp; exact he
          clear h3 h2 HE HE2 hap
          obtain ⟨E, hE⟩ : ∃ E, erW (wAt s q) = E := ⟨_, rfl⟩
          obtain ⟨T, hT⟩ : ∃ T, tkO (wAt s q) q = T := ⟨_, rfl⟩
          rw [hE] at HCt HE3 he' he
          rw [hT] at HCt
          clear hT hE
          go_wp2_with fail
          refine HCt.out.mono ?_; rintro e w2 ⟨rfl, hB2⟩
          have HK2 := hide_ (((HK.out.later hB2)).alloc (.cells #[.int .i64 T.k, .string T.t, .int .i64 T.n, .int .i64 T.a, .int .i64 T.e] 73))
          have HB2 := hide_ ((HB.out.trans (hB2.mono HB.out.size)).alloc (by have h1 := HB.out.size; have h2 := hB2.size; omega) (.cells #[.int .i64 T.k, .string T.t, .int .i64 T.n, .int .i64 T.a, .int .i64 T.e] 73))
          clear HCt HV HK HB hB2
          have z0 := HK2.out.frozen 0; have z1 := HK2.out.frozen 1
          have e0 := HK2.out.cell 0; have e1 := HK2.out.cell 1
          simp at e0 e1
          unfold tkv
          go_wp2
          rw [Exit.noGoto_ret]
          refine ret10 rfl ((HK2.out.set 0 _).set 1 _) ⟨_, by rw [HE3.out], by rw [HE3.out]; exact World.ownsRow_nil _ _ _ _, (HB2.out.setCell (Nat.le_refl _) _).setCell (Nat.le_refl _) _⟩
    · obtain rfl : q = s.size := by omega
      have HE2 := HE.out
      rw [List.drop_of_length_le (by rw [← Lib.size_eq]; exact Nat.le_refl _), cut_nil] at HE2
      have hap : apps ts ([], 0, 0) = (ts, 0, 0) := by simp [apps]
      rw [hap] at HE2
      have HE3 := hide_ (HC.out.trans HE2)
      clear HE HE2 hap
      have z0 := HK.out.frozen 0; have z1 := HK.out.frozen 1
      have e0 := HK.out.cell 0; have e1 := HK.out.cell 1
      simp at e0 e1
      go_wp2
      try rw [Exit.noGoto_ret]
      refine ret10 rfl ((HK.out.set 0 _).set 1 _) ⟨v, by rw [HE3.out]; rfl, ?_, (HB.out.setCell (Nat.le_refl _) _).setCell (Nat.le_refl _) _⟩
      rw [HE3.out]
      exact ownS_upd HV.out (((Upd.refl (fun k => k = w.heap.size) wq).set _ _ (.inl rfl)).set _ _ (.inl rfl)) (fun k hk e1 => ne26 HV.out HK.out (by rw [hk, e1]))
end Go.Proofs.YtbfmoiaedopeiaaDoor

/- Rows of tokens; same. -/
namespace Go.Proofs.YtbfmoiaedopeiaaDoor
open Go.RowKit
set_option linter.unusedVariables false

def TRow (w : World) (a : Option Addr) (l : List Tk) : Prop :=
  (a = none ∧ l = []) ∨ ∃ b off, a = some ⟨b, off, none⟩ ∧ b < w.heap.size ∧ ∀ i, i < l.length →
    w.cell? ⟨b, off + i * 5, none⟩ = some (.int .i64 (l.getD i tk0).k) ∧ w.cell? ⟨b, off + i * 5 + 1, none⟩ = some (.string (l.getD i tk0).t) ∧ w.cell? ⟨b, off + i * 5 + 2, none⟩ = some (.int .i64 (l.getD i tk0).n) ∧
    w.cell? ⟨b, off + i * 5 + 3, none⟩ = some (.int .i64 (l.getD i tk0).a) ∧ w.cell? ⟨b, off + i * 5 + 4, none⟩ = some (.int .i64 (l.getD i tk0).e)
section
variable {w w' : World} {a : Option Addr} {l : List Tk}
theorem TRow.open (h : TRow w a l) (hl : 0 < l.length) : ∃ b off, a = some ⟨b, off, none⟩ ∧ b < w.heap.size ∧ ∀ i, i < l.length →
    w.cell? ⟨b, off + i * 5, none⟩ = some (.int .i64 (l.getD i tk0).k) ∧ w.cell? ⟨b, off + i * 5 + 1, none⟩ = some (.string (l.getD i tk0).t) ∧ w.cell? ⟨b, off + i * 5 + 2, none⟩ = some (.int .i64 (l.getD i tk0).n) ∧
    w.cell? ⟨b, off + i * 5 + 3, none⟩ = some (.int .i64 (l.getD i tk0).a) ∧ w.cell? ⟨b, off + i * 5 + 4, none⟩ = some (.int .i64 (l.getD i tk0).e) := by
  rcases h with ⟨_, rfl⟩ | h
  · simp at hl
  · exact h
theorem TRow.upd {S : Nat → Prop} (h : TRow w a l) (hu : Upd S w w') (hg : ∀ x, a = some x → ¬ S x.block) : TRow w' a l := by
  rcases h with h | ⟨b, off, rfl, hlt, hc⟩
  · exact .inl h
  · refine .inr ⟨b, off, rfl, Nat.lt_of_lt_of_le hlt hu.size, fun i hi => ?_⟩
    have he : ∀ o, w'.cell? ⟨b, o, none⟩ = w.cell? ⟨b, o, none⟩ := fun o => World.cell?_of_block (w := w) (hu.block b hlt (hg _ rfl))
    rw [he, he, he, he, he]
    exact hc i hi
theorem TRow.later (h : TRow w a l) (hB : Below w.heap.size w w') : TRow w' a l := h.upd (Upd.of_below (S := fun _ => False) hB) (fun _ _ h => h)
theorem TRow.drewN (h : TRow w a l) (n : Nat) : TRow (w.drewN n) a l := h
theorem TRow.take (h : TRow w a l) (m : Nat) : TRow w a (l.take m) := by
  rcases h with ⟨rfl, rfl⟩ | ⟨b, off, rfl, hlt, hc⟩
  · exact .inl ⟨rfl, by simp⟩
  · refine .inr ⟨b, off, rfl, hlt, fun i hi => ?_⟩
    have h1 : i < l.length ∧ i < m := by simp at hi; omega
    have h2 : (l.take m).getD i tk0 = l.getD i tk0 := by simp [List.getD, h1.2]
    rw [h2]
    exact hc i h1.1
end
theorem cellsT_at : ∀ (N : List Tk) (i j : Nat), i < N.length → j < 5 → (cellsT N)[i * 5 + j]? = (tkc (N.getD i tk0))[j]?
  | [], i, j, h, _ => by simp at h
  | x :: N, 0, j, _, hj => by
    have e : cellsT (x :: N) = tkc x ++ cellsT N := by simp [cellsT]
    rw [e, List.getElem?_append_left (by simp [tkc]; omega)]
    simp
  | x :: N, i + 1, j, h, hj => by
    have ih := cellsT_at N i j (by simpa using h) hj
    have e : cellsT (x :: N) = tkc x ++ cellsT N := by simp [cellsT]
    rw [e, List.getElem?_append_right (by simp [tkc]; omega)]
    rw [show (i + 1) * 5 + j - (tkc x).length = i * 5 + j by simp [tkc]; omega, ih]
    simp
theorem own_row {w : World} {B : Nat} {v : Value} {ts : List Tk} (h : w.ownsRow B 73 5 v ts.length (cellsT ts)) : ∃ a cap, v = .slice a ts.length cap ∧ ts.length ≤ cap ∧ TRow w a ts ∧ (∀ x, a = some x → B ≤ x.block ∧ v.ownBlock = some x.block) := by
  rcases Nat.eq_zero_or_pos ts.length with h0 | h0
  · have hts : ts = [] := List.eq_nil_of_length_eq_zero h0
    subst hts
    rcases h.2 with ⟨rfl, _⟩ | ⟨g, cap, cur, rfl, hb, hg, hnc, _⟩
    · exact ⟨none, 0, rfl, Nat.le_refl _, .inl ⟨rfl, rfl⟩, fun x hx => by cases hx⟩
    · exact ⟨_, cap, rfl, by simp, .inr ⟨g, 0, rfl, (Array.getElem?_eq_some_iff.1 hg).1, fun i hi => by simp at hi⟩, fun x hx => by cases hx; exact ⟨hb, rfl⟩⟩
  · obtain ⟨g, cap, ys, rfl, hb, hn, hm, hl, ht, hK⟩ := ownS_blk h h0
    refine ⟨_, cap, rfl, hn, .inr ⟨g, 0, rfl, hK.lt, fun i hi => ?_⟩, fun x hx => by cases hx; exact ⟨hb, rfl⟩⟩
    have hc : ∀ j, j < 5 → w.cell? ⟨g, 0 + i * 5 + j, none⟩ = (tkc (ts.getD i tk0))[j]? := fun j hj => by
      rw [hK.cell, ← cellsT_at ts i j hi hj, ← ht, List.getElem?_take, if_pos (by omega), Nat.zero_add]
    exact ⟨hc 0 (by decide), hc 1 (by decide), hc 2 (by decide), hc 3 (by decide), hc 4 (by decide)⟩
end Go.Proofs.YtbfmoiaedopeiaaDoor

/- The grammar, plain: tokens, by their numbers, to definitions. -/
namespace Go.Proofs.YtbfmoiaedopeiaaDoor
set_option linter.unusedVariables false

/-- A token without its places. -/
structure Q where
  k : Int
  t : ByteArray
  n : Int
def q0 : Q := ⟨0, ⟨#[]⟩, 0⟩
def core (t : Tk) : Q := ⟨t.k, t.t, t.n⟩
/-- A node of a type expression. -/
structure Nd where
  k : Int
  n : Int
  name : ByteArray
  label : ByteArray
  tag : Int
  kids : Int
  a : Int
def nd0 : Nd := ⟨0, 0, ⟨#[]⟩, ⟨#[]⟩, 0, 0, 0⟩
/-- A definition. -/
structure Df where
  name : ByteArray
  a : Int
  ty : List Nd
/-- An answer, or an error at a token. -/
abbrev PR (α : Type) := Except (Nat × Nat) α
def bnd {α β : Type} (r : PR α) (f : α → PR β) : PR β :=
  match r with
  | .ok a => f a
  | .error e => .error e
theorem bnd_ok {α β : Type} (a : α) (f : α → PR β) : bnd (.ok a) f = f a := rfl
theorem bnd_err {α β : Type} (e : Nat × Nat) (f : α → PR β) : bnd (.error e) f = .error e := rfl
/-- The kind of a type that begins so (0: none), and the bytes of a uint. -/
def beg (t : ByteArray) : Int × Int :=
  if t = ⟨#[117, 56]⟩ then (1, 1) else if t = ⟨#[117, 49, 54]⟩ then (1, 2) else if t = ⟨#[117, 51, 50]⟩ then (1, 4) else if t = ⟨#[117, 54, 52]⟩ then (1, 8)
  else if t = ⟨#[98, 111, 111, 108]⟩ then (2, 0) else if t = ⟨#[118, 97, 114, 105, 110, 116]⟩ then (3, 0) else if t = ⟨#[118, 101, 99, 116, 111, 114]⟩ then (4, 0)
  else if t = ⟨#[108, 105, 115, 116]⟩ then (5, 0) else if t = ⟨#[111, 112, 116, 105, 111, 110]⟩ then (6, 0) else if t = ⟨#[117, 110, 105, 111, 110]⟩ then (7, 0)
  else if t = ⟨#[115, 116, 114, 117, 99, 116]⟩ then (8, 0) else if isName t then (9, 0) else (0, 0)
section
variable (qs : List Q)
def qAt (i : Nat) : Q := qs.getD i q0
def tak (may : Q → Bool) (i : Nat) : PR Nat := if may (qAt qs i) then .ok (i + 1) else .error (60, i)
def isT (s : ByteArray) (q : Q) : Bool := decide (q.t = s)
def isNm (q : Q) : Bool := isName q.t
def isNum (q : Q) : Bool := decide (q.k = 2)
def txt (s : ByteArray) (i : Nat) : PR Nat := tak qs (isT s) i
def itemsP (sub : Nd → Nat → PR (List Nd × Nat)) (i : Nat) : PR (List Nd × Int × Nat) :=
  bnd (txt qs ⟨#[60]⟩ i) fun i1 => bnd (sub { nd0 with a := i1 } i1) fun r => bnd (txt qs ⟨#[44]⟩ r.2) fun i3 => bnd (tak qs isNum i3) fun i4 => bnd (txt qs ⟨#[62]⟩ i4) fun i5 => .ok (r.1, (qAt qs i3).n, i5)
def optionP (sub : Nd → Nat → PR (List Nd × Nat)) (i : Nat) : PR (List Nd × Nat) :=
  bnd (txt qs ⟨#[60]⟩ i) fun i1 => bnd (sub { nd0 with a := i1 } i1) fun r => bnd (txt qs ⟨#[62]⟩ r.2) fun i3 => .ok (r.1, i3)
/-- Fields or arms behind the first; f: what bounds their number. -/
def moreP (one : Nat → Nat → PR (List Nd × Nat)) : Nat → Nat → List Nd → Nat → PR (List Nd × Nat × Nat)
  | 0, _, _, _ => .error (0, 0)
  | f + 1, c, N, i =>
    if isT ⟨#[44]⟩ (qAt qs i) then bnd (one c (i + 1)) fun r => moreP one f (c + 1) (N ++ r.1) r.2
    else bnd (txt qs ⟨#[125]⟩ i) fun j => .ok (N, c, j)
def partsP (one : Nat → Nat → PR (List Nd × Nat)) (i : Nat) : PR (List Nd × Nat × Nat) :=
  bnd (txt qs ⟨#[123]⟩ i) fun i1 => bnd (one 0 i1) fun r => moreP qs one 64 1 r.1 r.2
def partP (sub : Nd → Nat → PR (List Nd × Nat)) (x : Nd) (room : Bool) (i : Nat) : PR (List Nd × Nat) :=
  if room then bnd (txt qs ⟨#[58]⟩ i) fun i1 => sub x i1 else .error (5, x.a.toNat)
def armP (sub : Nd → Nat → PR (List Nd × Nat)) (c i : Nat) : PR (List Nd × Nat) :=
  bnd (tak qs isNum i) fun i1 => partP qs sub { nd0 with tag := (qAt qs i).n, a := i } (decide (c < 64)) i1
def fieldP (sub : Nd → Nat → PR (List Nd × Nat)) (c i : Nat) : PR (List Nd × Nat) :=
  bnd (tak qs isNm i) fun i1 => partP qs sub { nd0 with label := (qAt qs i).t, a := i } (decide (c < 64)) i1
/-- Behind a type's first token, at i: x has its kind and number. -/
def bodyP (sub : Nd → Nat → PR (List Nd × Nat)) (x : Nd) (i : Nat) : PR (List Nd × Nat) :=
  if x.k = 9 then .ok ([{ x with name := (qAt qs i).t }], i + 1)
  else if x.k = 4 ∨ x.k = 5 then bnd (itemsP qs sub (i + 1)) fun r => .ok ({ x with n := r.2.1, kids := 1 } :: r.1, r.2.2)
  else if x.k = 6 then bnd (optionP qs sub (i + 1)) fun r => .ok ({ x with kids := 1 } :: r.1, r.2)
  else if x.k = 7 then bnd (partsP qs (armP qs sub) (i + 1)) fun r => .ok ({ x with kids := r.2.1 } :: r.1, r.2.2)
  else if x.k = 8 then bnd (partsP qs (fieldP qs sub) (i + 1)) fun r => .ok ({ x with kids := r.2.1 } :: r.1, r.2.2)
  else .ok ([x], i + 1)
/-- A type that may hold others, f deep at most. -/
def nodeP : Nat → Nd → Nat → PR (List Nd × Nat)
  | 0, _, i => if (beg (qAt qs i).t).1 = 0 then .error (60, i) else .error (61, i)
  | f + 1, x, i => if (beg (qAt qs i).t).1 = 0 then .error (60, i) else bodyP qs (nodeP f) { x with k := (beg (qAt qs i).t).1, n := (beg (qAt qs i).t).2 } i
def defP (i : Nat) : PR (Df × Nat) :=
  bnd (tak qs isNm i) fun i1 => bnd (txt qs ⟨#[61]⟩ i1) fun i2 => bnd (nodeP qs 17 { nd0 with a := i2 } i2) fun r => bnd (txt qs ⟨#[59]⟩ r.2) fun i4 => .ok (⟨(qAt qs i).t, i, r.1⟩, i4)
/-- The definitions from here on; f: how many more, and one, may come. -/
def srcP : Nat → List Df → Nat → PR (List Df)
  | 0, _, _ => .error (0, 0)
  | f + 1, D, i => if i < qs.length then bnd (txt qs ⟨#[116, 121, 112, 101]⟩ i) fun i1 => if f = 0 then .error (5, i) else bnd (defP qs i1) fun r => srcP f (D ++ [r.1]) r.2 else .ok D
end
/-! ### Places -/
def tkAt (ts : List Tk) (L i : Nat) : Tk := if i < ts.length then ts.getD i tk0 else ⟨0, ⟨#[]⟩, 0, L, 0⟩
def plc (ts : List Tk) (L i : Nat) : Nat := (tkAt ts L i).a
def ndP (ts : List Tk) (L : Nat) (x : Nd) : Nd := { x with a := plc ts L x.a.toNat }
def dfP (ts : List Tk) (L : Nat) (d : Df) : Df := ⟨d.name, plc ts L d.a.toNat, d.ty.map (ndP ts L)⟩
/-- Parse's answer. -/
def prsP (ts : List Tk) (L : Nat) : List Df × Nat × Nat :=
  match srcP (ts.map core) 257 [] 0 with
  | .ok D => (D.map (dfP ts L), 0, 0)
  | .error e => ([], e.1, plc ts L e.2)
def prsT (s : ByteArray) : List Df × Nat × Nat := if (cutT s).2.1 = 0 then prsP (cutT s).1 s.size else ([], (cutT s).2.1, (cutT s).2.2)
theorem core_at (ts : List Tk) (L i : Nat) : qAt (ts.map core) i = core (tkAt ts L i) := by
  unfold qAt tkAt
  by_cases h : i < ts.length
  · rw [if_pos h]
    simp [List.getD, h]
  · rw [if_neg h]
    simp [List.getD, h, core, q0]
/-! ### It ends behind its beginning -/
theorem tak_ok {qs : List Q} {m : Q → Bool} {i j : Nat} (h : tak qs m i = .ok j) : j = i + 1 ∧ m (qAt qs i) = true := by
  unfold tak at h
  split at h
  · rename_i hm; injection h with h; exact ⟨h.symm, hm⟩
  · cases h
theorem bnd_is {α β : Type} {r : PR α} {f : α → PR β} {b : β} (h : bnd r f = .ok b) : ∃ a, r = .ok a ∧ f a = .ok b := by
  cases r with
  | ok a => exact ⟨a, rfl, h⟩
  | error e => cases h
end Go.Proofs.YtbfmoiaedopeiaaDoor

/- The parser in memory; its smallest functions. -/
namespace Go.Proofs.YtbfmoiaedopeiaaDoor
open Go.RowKit
set_option linter.unusedVariables false

theorem results_cell_row {P : Program} {fn : Func} {p : Tmp} {ty : TypeId} (h : fn.results = #[.cell p ty]) (tmps : Array Value) (w : World) (g : Nat) (t : TypeId) (cs : Array Value) (fr : Nat × Nat) (d : TypeDesc)
    (hp : tmps.getD p undef = .pointer (some ⟨g, 0, none⟩)) (hg : w.heap[g]? = some (.cells cs t fr))
    (hu : P.underlying ty = some d) (hd : (match d with | .struct _ | .array _ _ => true | _ => false) = true) (hi : (P.info? ty).map (·.size) = some cs.size) :
    (results fn tmps).run P w = .ok (.agg cs) w := by
  have hp' : tmps[p]?.getD undef = .pointer (some ⟨g, 0, none⟩) := by simpa using hp
  simp only [results, h]
  simp [hp', asAddr, run_loadVar_row w g t ty cs fr d hg hu hd hi]
/-- A function that answers a token in a cell. -/
theorem retT {fn : Func} {p : Tmp} (h : fn.results = #[.cell p 73]) {R : Ending → World → Prop} {tmps : Array Value} {g : Nat} {w : World} {T : Tk} (hp : tmps.getD p undef = .pointer (some ⟨g, 0, none⟩)) (hK : Blk w g 73 (tkc T)) (hR : R (.returned (tkv T)) w) :
    bodyPost Tryd.prog fn R Exit.ret ⟨tmps, []⟩ w :=
  bodyPost_ret (results_cell_row h _ _ _ _ (tkc T).toArray _ _ hp hK Tryd.underlying73 rfl (by show _ = some 5; kernel_rfl)) rfl hR

def ndc (x : Nd) : List Value := [.int .i64 x.k, .int .i64 x.n, .string x.name, .string x.label, .int .i64 x.tag, .int .i64 x.kids, .int .i64 x.a]
def ndv (x : Nd) : Value := .agg #[.int .i64 x.k, .int .i64 x.n, .string x.name, .string x.label, .int .i64 x.tag, .int .i64 x.kids, .int .i64 x.a]
def cellsN (N : List Nd) : List Value := N.flatMap ndc
theorem cellsN_app (a b : List Nd) : cellsN (a ++ b) = cellsN a ++ cellsN b := by simp [cellsN]
theorem cellsN_one (t : Nd) : cellsN [t] = ndc t := by simp [cellsN]
theorem cellsN_len (ts : List Nd) : (cellsN ts).length = ts.length * 7 := by
  induction ts with
  | nil => rfl
  | cons x N ih => rw [cellsN, List.flatMap_cons, List.length_append]; rw [cellsN] at ih; rw [ih]; simp [ndc]; omega
/-- The parser lies in block g: its tokens, the next one's number, the text's length, the nodes. -/
def Par (w : World) (B g : Nat) (tv : Value) (ts : List Tk) (L p : Nat) (v : Value) (N : List Nd) : Prop :=
  Blk w g 59 [tv, .int .i64 p, .int .i64 L, v] ∧ w.ownsRow B 73 5 tv ts.length (cellsT ts) ∧ w.ownsRow B 35 7 v N.length (cellsN N) ∧ B ≤ g ∧ p ≤ ts.length ∧ ts.length ≤ 65536
section
variable {w w' : World} {B g : Nat} {tv v : Value} {ts : List Tk} {L p : Nat} {N : List Nd}
theorem Par.ne1 (h : Par w B g tv ts L p v N) {k : Nat} (hk : tv.ownBlock = some k) : k ≠ g := fun e => by
  obtain ⟨ys, hy⟩ := ownS_type h.2.1 hk
  subst e
  exact absurd (blk_type h.1 hy) (by decide)
theorem Par.ne2 (h : Par w B g tv ts L p v N) {k : Nat} (hk : v.ownBlock = some k) : k ≠ g := fun e => by
  obtain ⟨ys, hy⟩ := ownS_type h.2.2.1 hk
  subst e
  exact absurd (blk_type h.1 hy) (by decide)
theorem Par.ne3 (h : Par w B g tv ts L p v N) {k : Nat} (hk : tv.ownBlock = some k) : v.ownBlock ≠ some k := fun e => by
  obtain ⟨ys, hy⟩ := ownS_type h.2.1 hk
  obtain ⟨zs, hz⟩ := ownS_type h.2.2.1 e
  exact absurd (blk_type hy hz) (by decide)
/-- Memory is changed elsewhere. -/
theorem Par.upd {S : Nat → Prop} (h : Par w B g tv ts L p v N) (hu : Upd S w w') (h1 : ¬ S g) (h2 : ∀ k, tv.ownBlock = some k → ¬ S k) (h3 : ∀ k, v.ownBlock = some k → ¬ S k) : Par w' B g tv ts L p v N :=
  ⟨h.1.upd hu h1, ownS_upd h.2.1 hu h2, ownS_upd h.2.2.1 hu h3, h.2.2.2⟩
theorem Par.later (h : Par w B g tv ts L p v N) (hB : Below w.heap.size w w') : Par w' B g tv ts L p v N := h.upd (Upd.of_below (S := fun _ => False) hB) (fun h => h) (fun _ _ h => h) (fun _ _ h => h)
theorem Par.step (h : Par w B g tv ts L p v N) {q : Nat} (hq : q ≤ ts.length) : Par (w.setCell ⟨g, 1, none⟩ (.int .i64 q)) B g tv ts L q v N := by
  have hu : Upd (fun k => k = g) w (w.setCell ⟨g, 1, none⟩ (.int .i64 q)) := (Upd.refl _ w).set _ _ (.inl rfl)
  exact ⟨by have := h.1.set 1 (.int .i64 q); simpa using this, ownS_upd h.2.1 hu (fun k hk => h.ne1 hk), ownS_upd h.2.2.1 hu (fun k hk => h.ne2 hk), h.2.2.2.1, hq, h.2.2.2.2.2⟩
end
/-- It gives up. -/
def Flt (c a : Nat) : Ending := .panicked [{ v := .iface 39 (.agg #[.int .i64 c, .int .i64 a]), recovered := false }]
theorem below_drewN {B : Nat} {w w' : World} (h : Below B w w') (q : Nat) : Below B w (w'.drewN q) := ⟨h.os, h.tape, h.output, h.size, h.block⟩
theorem Blk.drewN {w : World} {g : Nat} {t : TypeId} {xs : List Value} (h : Blk w g t xs) (q : Nat) : Blk (w.drewN q) g t xs := h
theorem upd_drewN {S : Nat → Prop} {a w : World} (h : Upd S a w) (q : Nat) : Upd S a (w.drewN q) := ⟨h.os, h.tape, h.output, h.size, h.block⟩
/-- A token written into a cell. -/
theorem wr5 {w : World} {g : Nat} {t : TypeId} {x0 x1 x2 x3 x4 : Value} (h : Blk w g t [x0, x1, x2, x3, x4]) (y0 y1 y2 y3 y4 : Value) :
    Blk (((((w.setCell ⟨g, 0, none⟩ y0).setCell ⟨g, 1, none⟩ y1).setCell ⟨g, 2, none⟩ y2).setCell ⟨g, 3, none⟩ y3).setCell ⟨g, 4, none⟩ y4) g t [y0, y1, y2, y3, y4] := by
  have := ((((h.set 0 y0).set 1 y1).set 2 y2).set 3 y3).set 4 y4
  simpa using this
theorem bl5 {w w' : World} {B g : Nat} (h : Below B w w') (hg : B ≤ g) (y0 y1 y2 y3 y4 : Value) :
    Below B w (((((w'.setCell ⟨g, 0, none⟩ y0).setCell ⟨g, 1, none⟩ y1).setCell ⟨g, 2, none⟩ y2).setCell ⟨g, 3, none⟩ y3).setCell ⟨g, 4, none⟩ y4) :=
  ((((h.setCell hg _).setCell hg _).setCell hg _).setCell hg _).setCell hg _
theorem tk_end (ts : List Tk) (L : Nat) : tkAt ts L ts.length = ⟨0, ⟨#[]⟩, 0, L, 0⟩ := by unfold tkAt; rw [if_neg (Nat.lt_irrefl _)]
set_option maxRecDepth 100000 in
set_option maxHeartbeats 4000000 in
theorem token_any {w : World} {B g : Nat} {tv v : Value} {ts : List Tk} {L p : Nat} {N : List Nd} (HP : Hid (Par w B g tv ts L p v N)) :
    Calls Tryd.prog 57 #[.pointer (some ⟨g, 0, none⟩)] w fun e w' => e = .returned (tkv (tkAt ts L p)) ∧ Below w.heap.size w w' := by
  obtain ⟨h1, h2, h3, h4, h5, h6⟩ := HP.out
  obtain ⟨a, cap, rfl, hc, HT, -⟩ := own_row h2
  have HTr := hide_ HT
  have HK := hide_ h1
  clear HP h2 h3 HT h1
  have K := HK.out.alloc (.cells #[.int .i64 0, .string ⟨#[]⟩, .int .i64 0, .int .i64 0, .int .i64 0] 73)
  have d0 := K.cell 0; have d1 := K.cell 1; have d2 := K.cell 2
  have KA := Blk.newA w #[.int .i64 0, .string ⟨#[]⟩, .int .i64 0, .int .i64 0, .int .i64 0] 73
  have e0 := KA.cell 0; have e1 := KA.cell 1; have e2 := KA.cell 2; have e3 := KA.cell 3; have e4 := KA.cell 4
  have f0 := KA.frozen 0; have f1 := KA.frozen 1; have f2 := KA.frozen 2; have f3 := KA.frozen 3; have f4 := KA.frozen 4
  simp at d0 d1 d2 e0 e1 e2 e3 e4
  clear K KA
  by_cases hlt : p < ts.length
  · have hb : ((p : Int) == ts.length) = false := by simp; omega
    obtain ⟨b, o, rfl, hb2, hcs⟩ := HTr.out.open (by omega)
    obtain ⟨x0, x1, x2, x3, x4⟩ := hcs p hlt
    have HX : Hid (tkAt ts L p = ts.getD p tk0) := by show _ = _; unfold tkAt; rw [if_pos hlt]
    rw [HX.out]
    generalize ts.getD p tk0 = x at *
    have hl : (p : Int) < ts.length := by omega
    have hB := (Below.refl w.heap.size w).alloc (Nat.le_refl _) (.cells #[.int .i64 0, .string ⟨#[]⟩, .int .i64 0, .int .i64 0, .int .i64 0] 73)
    have y0 := (hB.cell (p := ⟨b, o + p * 5, none⟩) hb2).trans x0
    have y1 := (hB.cell (p := ⟨b, o + p * 5 + 1, none⟩) hb2).trans x1
    have y2 := (hB.cell (p := ⟨b, o + p * 5 + 2, none⟩) hb2).trans x2
    have y3 := (hB.cell (p := ⟨b, o + p * 5 + 3, none⟩) hb2).trans x3
    have y4 := (hB.cell (p := ⟨b, o + p * 5 + 4, none⟩) hb2).trans x4
    clear hcs hB x0 x1 x2 x3 x4
    go_enter Tryd.func57, Tryd.ntmps57
    go_wp2_with fail
    go_quiet (fail)
    go_wp2
    go_region
    go_wp2
    refine retT (T := x) rfl rfl (wr5 ((Blk.newA w _ 73).drewN _) _ _ _ _ _) ⟨rfl, bl5 (below_drewN ((Below.refl _ _).alloc (Nat.le_refl _) _) _) (Nat.le_refl _) _ _ _ _ _⟩
  · obtain rfl : p = ts.length := by omega
    have hb : ((ts.length : Int) == ts.length) = true := by simp
    go_enter Tryd.func57, Tryd.ntmps57
    go_wp2_with fail
    go_quiet (fail)
    go_wp2
    refine retT (T := ⟨0, ⟨#[]⟩, 0, L, 0⟩) rfl rfl (wr5 ((Blk.newA w _ 73).drewN _) _ _ _ _ _) ⟨by rw [tk_end], bl5 (below_drewN ((Below.refl _ _).alloc (Nat.le_refl _) _) _) (Nat.le_refl _) _ _ _ _ _⟩
set_option maxRecDepth 100000 in
set_option maxHeartbeats 4000000 in
theorem giveUp_any (c a : Nat) (w : World) : Calls Tryd.prog 38 #[.int .i64 c, .int .i64 a] w fun e w' => e = Flt c a ∧ w = w' := by
  go_enter Tryd.func38, Tryd.ntmps38
  go_wp2
  exact ⟨rfl, rfl, rfl⟩
theorem take_end {w w3 : World} {B g : Nat} {tv v : Value} {ts : List Tk} {L p : Nat} {N : List Nd} {x0 x1 x2 x3 x4 : Value} {t : TypeId} (HP : Par w B g tv ts L p v N) (HP2 : Par w3 B g tv ts L p v N) (K4 : Blk w3 w.heap.size t [x0, x1, x2, x3, x4]) (HU : Upd (fun k => k = g) w w3) (hlt : p < ts.length) (y0 y1 y2 y3 y4 : Value) :
    Blk ((((((w3.setCell ⟨g, 1, none⟩ (.int .i64 ((p : Int) + 1))).setCell ⟨w.heap.size, 0, none⟩ y0).setCell ⟨w.heap.size, 1, none⟩ y1).setCell ⟨w.heap.size, 2, none⟩ y2).setCell ⟨w.heap.size, 3, none⟩ y3).setCell ⟨w.heap.size, 4, none⟩ y4) w.heap.size t [y0, y1, y2, y3, y4] ∧
    Hid (Par ((((((w3.setCell ⟨g, 1, none⟩ (.int .i64 ((p : Int) + 1))).setCell ⟨w.heap.size, 0, none⟩ y0).setCell ⟨w.heap.size, 1, none⟩ y1).setCell ⟨w.heap.size, 2, none⟩ y2).setCell ⟨w.heap.size, 3, none⟩ y3).setCell ⟨w.heap.size, 4, none⟩ y4) B g tv ts L (p + 1) v N) ∧
    Hid (Upd (fun k => k = g) w ((((((w3.setCell ⟨g, 1, none⟩ (.int .i64 ((p : Int) + 1))).setCell ⟨w.heap.size, 0, none⟩ y0).setCell ⟨w.heap.size, 1, none⟩ y1).setCell ⟨w.heap.size, 2, none⟩ y2).setCell ⟨w.heap.size, 3, none⟩ y3).setCell ⟨w.heap.size, 4, none⟩ y4)) := by
  have hpp : ((p + 1 : Nat) : Int) = (p : Int) + 1 := by omega
  have HPs := HP2.step (q := p + 1) (by omega)
  rw [hpp] at HPs
  have hg := HP.1.lt
  have hl1 : ∀ k, tv.ownBlock = some k → ¬ k = w.heap.size := fun k hk => Nat.ne_of_lt (HP.2.1.lt k hk).2
  have hl2 : ∀ k, v.ownBlock = some k → ¬ k = w.heap.size := fun k hk => Nat.ne_of_lt (HP.2.2.1.lt k hk).2
  have hU1 : Upd (fun k => k = g) w (w3.setCell ⟨g, 1, none⟩ (.int .i64 ((p : Int) + 1))) := HU.set _ _ (.inl rfl)
  have K := K4.other ⟨g, 1, none⟩ (.int .i64 ((p : Int) + 1)) (by show w.heap.size ≠ g; omega)
  generalize w3.setCell ⟨g, 1, none⟩ (.int .i64 ((p : Int) + 1)) = W at *
  have hU5 : Upd (fun k => k = w.heap.size) W (((((W.setCell ⟨w.heap.size, 0, none⟩ y0).setCell ⟨w.heap.size, 1, none⟩ y1).setCell ⟨w.heap.size, 2, none⟩ y2).setCell ⟨w.heap.size, 3, none⟩ y3).setCell ⟨w.heap.size, 4, none⟩ y4) := (((((Upd.refl (fun k => k = w.heap.size) W).set ⟨w.heap.size, 0, none⟩ _ (.inl rfl)).set ⟨w.heap.size, 1, none⟩ _ (.inl rfl)).set ⟨w.heap.size, 2, none⟩ _ (.inl rfl)).set ⟨w.heap.size, 3, none⟩ _ (.inl rfl)).set ⟨w.heap.size, 4, none⟩ _ (.inl rfl)
  exact ⟨wr5 K _ _ _ _ _, HPs.upd hU5 (by omega) hl1 hl2, hU1.trans hU5 (fun k h1 h2 => by omega)⟩
/-- Behind a token that was asked for. -/
def TokTo (w : World) (B g : Nat) (tv : Value) (ts : List Tk) (L p : Nat) (v : Value) (N : List Nd) (r : PR Nat) (e : Ending) (w' : World) : Prop :=
  (∃ j, r = .ok j ∧ e = .returned (tkv (tkAt ts L p)) ∧ Hid (Par w' B g tv ts L j v N) ∧ Hid (Upd (fun k => k = g) w w')) ∨
  (∃ x, r = .error x ∧ e = Flt x.1 (plc ts L x.2) ∧ Hid (Upd (fun k => k = g) w w'))
set_option maxRecDepth 100000 in
set_option maxHeartbeats 4000000 in
theorem take_any {w : World} {B g : Nat} {tv v : Value} {ts : List Tk} {L p : Nat} {N : List Nd} (HP : Hid (Par w B g tv ts L p v N)) (m : Bool) (hm : m = true → p < ts.length) :
    Calls Tryd.prog 56 #[.pointer (some ⟨g, 0, none⟩), .bool m] w fun e w' => TokTo w B g tv ts L p v N (if m then .ok (p + 1) else .error (60, p)) e w' := by
  have HPa := hide_ (HP.out.later ((Below.refl _ w).alloc (Nat.le_refl _) (.cells #[.int .i64 0, .string ⟨#[]⟩, .int .i64 0, .int .i64 0, .int .i64 0] 73)))
  have HC := hide_ (token_any HPa)
  obtain ⟨x, hx⟩ : ∃ x, tkAt ts L p = x := ⟨_, rfl⟩
  rw [hx] at HC
  cases m with
  | false =>
    clear hm
    have HG : Hid (∀ w, Calls Tryd.prog 38 #[.int .i64 60, .int .i64 x.a] w fun e w' => e = Flt 60 x.a ∧ w = w') := fun w => giveUp_any 60 x.a w
    go_enter Tryd.func56, Tryd.ntmps56
    go_wp2_with fail
    refine HC.out.mono ?_; rintro e w2 ⟨rfl, hB2⟩
    unfold tkv
    go_wp2_with fail
    refine (HG.out _).mono ?_; rintro e w3 ⟨rfl, rfl⟩
    unfold Flt
    go_wp2
    exact ⟨rfl, .inr ⟨(60, p), rfl, by rw [plc, hx]; rfl, hide_ (((Upd.of_below (S := fun k => k = g) ((Below.refl _ w).alloc (Nat.le_refl _) (.cells #[.int .i64 0, .string ⟨#[]⟩, .int .i64 0, .int .i64 0, .int .i64 0] 73))).then hB2).alloc _)⟩⟩
  | true =>
    have hlt := hm rfl
    clear hm
    go_enter Tryd.func56, Tryd.ntmps56
    go_wp2_with fail
    refine HC.out.mono ?_; rintro e w2 ⟨rfl, hB2⟩
    unfold tkv
    have HP2 := hide_ ((HPa.out.later hB2).later ((Below.refl _ w2).alloc (Nat.le_refl _) (.cells #[.int .i64 x.k, .string x.t, .int .i64 x.n, .int .i64 x.a, .int .i64 x.e] 73)))
    have HU := hide_ (((Upd.of_below (S := fun k => k = g) ((Below.refl _ w).alloc (Nat.le_refl _) (.cells #[.int .i64 0, .string ⟨#[]⟩, .int .i64 0, .int .i64 0, .int .i64 0] 73))).then hB2).alloc (.cells #[.int .i64 x.k, .string x.t, .int .i64 x.n, .int .i64 x.a, .int .i64 x.e] 73))
    have K4 := hide_ (((Blk.newA w #[.int .i64 0, .string ⟨#[]⟩, .int .i64 0, .int .i64 0, .int .i64 0] 73).later hB2).alloc (.cells #[.int .i64 x.k, .string x.t, .int .i64 x.n, .int .i64 x.a, .int .i64 x.e] 73))
    have K5 := hide_ (Blk.newA w2 #[.int .i64 x.k, .string x.t, .int .i64 x.n, .int .i64 x.a, .int .i64 x.e] 73)
    have hsz := hB2.size
    simp at hsz
    have hg := HPa.out.1.lt
    have hgw := HP.out.1.lt
    have h65 := HP.out.2.2.2.2.2
    clear hB2 HC HPa
    obtain ⟨w3, hw3⟩ : ∃ w3, w3 = w2.alloc (.cells #[.int .i64 x.k, .string x.t, .int .i64 x.n, .int .i64 x.a, .int .i64 x.e] 73) := ⟨_, rfl⟩
    rw [← hw3] at HP2 HU K4 K5
    have d1 := HP2.out.1.cell 1
    have f1 := HP2.out.1.frozen 1
    have e0 := K4.out.cell 0; have e1 := K4.out.cell 1; have e2 := K4.out.cell 2; have e3 := K4.out.cell 3; have e4 := K4.out.cell 4
    have g0 := K4.out.frozen 0; have g1 := K4.out.frozen 1; have g2 := K4.out.frozen 2; have g3 := K4.out.frozen 3; have g4 := K4.out.frozen 4
    have h0 := K5.out.cell 0; have h1 := K5.out.cell 1; have h2 := K5.out.cell 2; have h3 := K5.out.cell 3; have h4 := K5.out.cell 4
    simp at d1 e0 e1 e2 e3 e4 h0 h1 h2 h3 h4
    have n1 : ¬ g = w.heap.size := by omega
    have n2 : ¬ g = w2.heap.size := by omega
    have n3 : ¬ w2.heap.size = w.heap.size := by omega
    go_upto_region 2 with fail
    rw [← hw3]
    clear hw3
    go_wp2
    obtain ⟨t1, t2, t3⟩ := take_end HP.out HP2.out K4.out HU.out hlt (.int .i64 x.k) (.string x.t) (.int .i64 x.n) (.int .i64 x.a) (.int .i64 x.e)
    exact retT (T := x) rfl rfl t1 (.inl ⟨p + 1, rfl, by rw [hx], t2, t3⟩)
end Go.Proofs.YtbfmoiaedopeiaaDoor

/- text, name, number, begins. -/
namespace Go.Proofs.YtbfmoiaedopeiaaDoor
open Go.RowKit
set_option linter.unusedVariables false

/-- Behind the cell of an answer, w6; the token that was asked for is written there. -/
theorem tok_end {w w6 w7 : World} {B g : Nat} {tv v : Value} {ts : List Tk} {L j : Nat} {N : List Nd} (hg : g < w.heap.size) (HB : Below w.heap.size w w6) (K : Blk w6 w.heap.size 73 [.int .i64 0, .string ⟨#[]⟩, .int .i64 0, .int .i64 0, .int .i64 0])
    (hl1 : ∀ k, tv.ownBlock = some k → k < w.heap.size) (hl2 : ∀ k, v.ownBlock = some k → k < w.heap.size)
    (HP : Par w7 B g tv ts L j v N) (HU : Upd (fun k => k = g) w6 w7) (y0 y1 y2 y3 y4 : Value) :
    Blk (((((w7.setCell ⟨w.heap.size, 0, none⟩ y0).setCell ⟨w.heap.size, 1, none⟩ y1).setCell ⟨w.heap.size, 2, none⟩ y2).setCell ⟨w.heap.size, 3, none⟩ y3).setCell ⟨w.heap.size, 4, none⟩ y4) w.heap.size 73 [y0, y1, y2, y3, y4] ∧
    Hid (Par (((((w7.setCell ⟨w.heap.size, 0, none⟩ y0).setCell ⟨w.heap.size, 1, none⟩ y1).setCell ⟨w.heap.size, 2, none⟩ y2).setCell ⟨w.heap.size, 3, none⟩ y3).setCell ⟨w.heap.size, 4, none⟩ y4) B g tv ts L j v N) ∧
    Hid (Upd (fun k => k = g) w (((((w7.setCell ⟨w.heap.size, 0, none⟩ y0).setCell ⟨w.heap.size, 1, none⟩ y1).setCell ⟨w.heap.size, 2, none⟩ y2).setCell ⟨w.heap.size, 3, none⟩ y3).setCell ⟨w.heap.size, 4, none⟩ y4)) := by
  have K7 := K.upd HU (by show ¬ w.heap.size = g; omega)
  have hU5 : Upd (fun k => k = w.heap.size) w7 (((((w7.setCell ⟨w.heap.size, 0, none⟩ y0).setCell ⟨w.heap.size, 1, none⟩ y1).setCell ⟨w.heap.size, 2, none⟩ y2).setCell ⟨w.heap.size, 3, none⟩ y3).setCell ⟨w.heap.size, 4, none⟩ y4) := (((((Upd.refl (fun k => k = w.heap.size) w7).set ⟨w.heap.size, 0, none⟩ _ (.inl rfl)).set ⟨w.heap.size, 1, none⟩ _ (.inl rfl)).set ⟨w.heap.size, 2, none⟩ _ (.inl rfl)).set ⟨w.heap.size, 3, none⟩ _ (.inl rfl)).set ⟨w.heap.size, 4, none⟩ _ (.inl rfl)
  exact ⟨wr5 K7 _ _ _ _ _, HP.upd hU5 (by omega) (fun k hk => Nat.ne_of_lt (hl1 k hk)) (fun k hk => Nat.ne_of_lt (hl2 k hk)), ((Upd.of_below HB).trans HU (fun k _ h => h)).trans hU5 (fun k h1 h2 => by omega)⟩
theorem fld1 (a b c d e : Value) (w : World) : (Instr.field 73 (.agg #[a, b, c, d, e]) 1).run Tryd.prog w = .ok b w := by kernel_rfl
theorem fld0 (a b c d e : Value) (w : World) : (Instr.field 73 (.agg #[a, b, c, d, e]) 0).run Tryd.prog w = .ok a w := by kernel_rfl
theorem fld2 (a b c d e : Value) (w : World) : (Instr.field 73 (.agg #[a, b, c, d, e]) 2).run Tryd.prog w = .ok c w := by kernel_rfl
theorem fld3 (a b c d e : Value) (w : World) : (Instr.field 73 (.agg #[a, b, c, d, e]) 3).run Tryd.prog w = .ok d w := by kernel_rfl
theorem tk_lt {ts : List Tk} {L p : Nat} (hp : p ≤ ts.length) (h : (tkAt ts L p).t ≠ ⟨#[]⟩ ∨ (tkAt ts L p).k ≠ 0) : p < ts.length := by
  rcases Nat.lt_or_ge p ts.length with h1 | h1
  · exact h1
  · obtain rfl : p = ts.length := by omega
    rw [tk_end] at h
    simp at h
theorem str_eq (a b : ByteArray) : (a.toList == b.toList) = decide (a = b) := by
  by_cases h : a = b
  · subst h; simp
  · rw [decide_eq_false h]
    have hb : (⟨b.toList.toArray⟩ : ByteArray) = b := by rw [Lib.toList_data]
    exact str_ne a b.toList (by rw [hb]; exact h)
set_option maxRecDepth 100000 in
set_option maxHeartbeats 4000000 in
theorem text_any {w : World} {B g : Nat} {tv v : Value} {ts : List Tk} {L p : Nat} {N : List Nd} (HP : Hid (Par w B g tv ts L p v N)) (s : ByteArray) (hs : s ≠ ⟨#[]⟩) :
    Calls Tryd.prog 37 #[.pointer (some ⟨g, 0, none⟩), .string s] w fun e w' => TokTo w B g tv ts L p v N (txt (ts.map core) s p) e w' := by
  have HPa := hide_ (HP.out.later ((Below.refl _ w).alloc (Nat.le_refl _) (.cells #[.int .i64 0, .string ⟨#[]⟩, .int .i64 0, .int .i64 0, .int .i64 0] 73)))
  have HBa := hide_ ((Below.refl w.heap.size w).alloc (Nat.le_refl _) (.cells #[.int .i64 0, .string ⟨#[]⟩, .int .i64 0, .int .i64 0, .int .i64 0] 73))
  have K4 := hide_ (Blk.newA w #[.int .i64 0, .string ⟨#[]⟩, .int .i64 0, .int .i64 0, .int .i64 0] 73)
  have HC := hide_ (token_any HPa)
  have hgw := HP.out.1.lt
  have hp := HP.out.2.2.2.2.1
  have HX : Hid (txt (ts.map core) s p = if decide ((tkAt ts L p).t = s) then .ok (p + 1) else .error (60, p)) := by
    show _ = _
    unfold txt tak isT
    rw [core_at ts L p]
    rfl
  have HL : Hid (decide ((tkAt ts L p).t = s) = true → p < ts.length) := fun h => tk_lt hp (by
    have := of_decide_eq_true h
    exact .inl (by rw [this]; exact hs))
  have hx0 : tkAt ts L p = tkAt ts L p := rfl
  obtain ⟨x, hx⟩ : ∃ x, tkAt ts L p = x := ⟨_, rfl⟩
  have HXX := hide_ hx
  rw [HX.out]
  rw [hx] at HC HL ⊢
  obtain ⟨m, hm⟩ : ∃ m, decide (x.t = s) = m := ⟨_, rfl⟩
  rw [hm] at HL ⊢
  have HM := hide_ hm
  obtain ⟨r, hr⟩ : ∃ r : PR Nat, (if m = true then .ok (p + 1) else .error (60, p)) = r := ⟨_, rfl⟩
  rw [hr]
  have HR := hide_ hr
  clear HX hm hx hx0 hr
  have hf1 := fld1
  have hf0 := fld0
  go_enter Tryd.func37, Tryd.ntmps37
  go_wp2_with fail
  refine HC.out.mono ?_; rintro e w2 ⟨rfl, hB2⟩
  have HP2 := hide_ (HPa.out.later hB2)
  have HB2 := hide_ (HBa.out.trans (hB2.mono HBa.out.size))
  have K2 := hide_ (K4.out.later hB2)
  clear hB2 HC HPa HBa K4
  unfold tkv
  go_wp2_with fail
  rw [str_eq]
  rw [HM.out]
  have HTk := take_any HP2 m HL.out
  rw [HR.out] at HTk
  refine HTk.mono ?_; clear HTk; rintro e w3 (⟨j, hj, rfl, HP3, HU3⟩ | ⟨y, hy, rfl, HU3⟩)
  · have HJ := hide_ hj
    clear hj
    rw [HXX.out]
    have k0 := (K2.out.upd HU3.out (by show ¬ w.heap.size = g; omega)).cell 0
    have k1 := (K2.out.upd HU3.out (by show ¬ w.heap.size = g; omega)).cell 1
    have k2 := (K2.out.upd HU3.out (by show ¬ w.heap.size = g; omega)).cell 2
    have k3 := (K2.out.upd HU3.out (by show ¬ w.heap.size = g; omega)).cell 3
    have k4 := (K2.out.upd HU3.out (by show ¬ w.heap.size = g; omega)).cell 4
    have z0 := (K2.out.upd HU3.out (by show ¬ w.heap.size = g; omega)).frozen 0
    have z1 := (K2.out.upd HU3.out (by show ¬ w.heap.size = g; omega)).frozen 1
    have z2 := (K2.out.upd HU3.out (by show ¬ w.heap.size = g; omega)).frozen 2
    have z3 := (K2.out.upd HU3.out (by show ¬ w.heap.size = g; omega)).frozen 3
    have z4 := (K2.out.upd HU3.out (by show ¬ w.heap.size = g; omega)).frozen 4
    simp at k0 k1 k2 k3 k4
    unfold tkv
    go_wp2
    obtain ⟨t1, t2, t3⟩ := tok_end hgw HB2.out K2.out (fun k hk => (HP.out.2.1.lt k hk).2) (fun k hk => (HP.out.2.2.1.lt k hk).2) HP3.out HU3.out (.int .i64 x.k) (.string x.t) (.int .i64 x.n) (.int .i64 x.a) (.int .i64 x.e)
    exact retT (T := x) rfl rfl t1 (.inl ⟨j, HJ.out, by rw [HXX.out], t2, t3⟩)
  · have HJ := hide_ hy
    clear hy
    unfold Flt
    go_wp2
    exact ⟨rfl, .inr ⟨y, HJ.out, rfl, hide_ ((Upd.of_below HB2.out).trans HU3.out (fun k _ h => h))⟩⟩
set_option maxRecDepth 100000 in
set_option maxHeartbeats 4000000 in
theorem name_tok {w : World} {B g : Nat} {tv v : Value} {ts : List Tk} {L p : Nat} {N : List Nd} (HP : Hid (Par w B g tv ts L p v N)) :
    Calls Tryd.prog 58 #[.pointer (some ⟨g, 0, none⟩)] w fun e w' => TokTo w B g tv ts L p v N (tak (ts.map core) isNm p) e w' := by
  have HPa := hide_ (HP.out.later ((Below.refl _ w).alloc (Nat.le_refl _) (.cells #[.int .i64 0, .string ⟨#[]⟩, .int .i64 0, .int .i64 0, .int .i64 0] 73)))
  have HBa := hide_ ((Below.refl w.heap.size w).alloc (Nat.le_refl _) (.cells #[.int .i64 0, .string ⟨#[]⟩, .int .i64 0, .int .i64 0, .int .i64 0] 73))
  have K4 := hide_ (Blk.newA w #[.int .i64 0, .string ⟨#[]⟩, .int .i64 0, .int .i64 0, .int .i64 0] 73)
  have HC := hide_ (token_any HPa)
  have hgw := HP.out.1.lt
  have hp := HP.out.2.2.2.2.1
  have HX : Hid (tak (ts.map core) isNm p = if isName (tkAt ts L p).t then .ok (p + 1) else .error (60, p)) := by
    show _ = _
    unfold tak isNm
    rw [core_at ts L p]
    rfl
  have HL : Hid (isName (tkAt ts L p).t = true → p < ts.length) := fun h => tk_lt hp (by
    refine .inl (fun e => ?_)
    rw [e] at h
    exact absurd h (by decide))
  have hx0 : tkAt ts L p = tkAt ts L p := rfl
  obtain ⟨x, hx⟩ : ∃ x, tkAt ts L p = x := ⟨_, rfl⟩
  have HXX := hide_ hx
  rw [HX.out]
  rw [hx] at HC HL ⊢
  obtain ⟨m, hm⟩ : ∃ m, isName x.t = m := ⟨_, rfl⟩
  rw [hm] at HL ⊢
  have HM := hide_ hm
  obtain ⟨r, hr⟩ : ∃ r : PR Nat, (if m = true then .ok (p + 1) else .error (60, p)) = r := ⟨_, rfl⟩
  rw [hr]
  have HR := hide_ hr
  clear HX hm hx hx0 hr
  have hf1 := fld1
  have hf0 := fld0
  go_enter Tryd.func58, Tryd.ntmps58
  go_wp2_with fail
  refine HC.out.mono ?_; rintro e w2 ⟨rfl, hB2⟩
  have HP2 := hide_ (HPa.out.later hB2)
  have HB2 := hide_ (HBa.out.trans (hB2.mono HBa.out.size))
  have K2 := hide_ (K4.out.later hB2)
  clear hB2 HC HPa HBa K4
  unfold tkv
  go_wp2_with fail
  refine (name_any _ _).mono ?_; rintro e w4 ⟨rfl, rfl⟩
  go_wp2_with fail
  rw [HM.out]
  have HTk := take_any HP2 m HL.out
  rw [HR.out] at HTk
  refine HTk.mono ?_; clear HTk; rintro e w3 (⟨j, hj, rfl, HP3, HU3⟩ | ⟨y, hy, rfl, HU3⟩)
  · have HJ := hide_ hj
    clear hj
    rw [HXX.out]
    have k0 := (K2.out.upd HU3.out (by show ¬ w.heap.size = g; omega)).cell 0
    have k1 := (K2.out.upd HU3.out (by show ¬ w.heap.size = g; omega)).cell 1
    have k2 := (K2.out.upd HU3.out (by show ¬ w.heap.size = g; omega)).cell 2
    have k3 := (K2.out.upd HU3.out (by show ¬ w.heap.size = g; omega)).cell 3
    have k4 := (K2.out.upd HU3.out (by show ¬ w.heap.size = g; omega)).cell 4
    have z0 := (K2.out.upd HU3.out (by show ¬ w.heap.size = g; omega)).frozen 0
    have z1 := (K2.out.upd HU3.out (by show ¬ w.heap.size = g; omega)).frozen 1
    have z2 := (K2.out.upd HU3.out (by show ¬ w.heap.size = g; omega)).frozen 2
    have z3 := (K2.out.upd HU3.out (by show ¬ w.heap.size = g; omega)).frozen 3
    have z4 := (K2.out.upd HU3.out (by show ¬ w.heap.size = g; omega)).frozen 4
    simp at k0 k1 k2 k3 k4
    unfold tkv
    go_wp2
    obtain ⟨t1, t2, t3⟩ := tok_end hgw HB2.out K2.out (fun k hk => (HP.out.2.1.lt k hk).2) (fun k hk => (HP.out.2.2.1.lt k hk).2) HP3.out HU3.out (.int .i64 x.k) (.string x.t) (.int .i64 x.n) (.int .i64 x.a) (.int .i64 x.e)
    exact retT (T := x) rfl rfl t1 (.inl ⟨j, HJ.out, by rw [HXX.out], t2, t3⟩)
  · have HJ := hide_ hy
    clear hy
    unfold Flt
    go_wp2
    exact ⟨rfl, .inr ⟨y, HJ.out, rfl, hide_ ((Upd.of_below HB2.out).trans HU3.out (fun k _ h => h))⟩⟩
set_option maxRecDepth 100000 in
set_option maxHeartbeats 4000000 in
theorem number_tok {w : World} {B g : Nat} {tv v : Value} {ts : List Tk} {L p : Nat} {N : List Nd} (HP : Hid (Par w B g tv ts L p v N)) :
    Calls Tryd.prog 80 #[.pointer (some ⟨g, 0, none⟩)] w fun e w' => TokTo w B g tv ts L p v N (tak (ts.map core) isNum p) e w' := by
  have HPa := hide_ (HP.out.later ((Below.refl _ w).alloc (Nat.le_refl _) (.cells #[.int .i64 0, .string ⟨#[]⟩, .int .i64 0, .int .i64 0, .int .i64 0] 73)))
  have HBa := hide_ ((Below.refl w.heap.size w).alloc (Nat.le_refl _) (.cells #[.int .i64 0, .string ⟨#[]⟩, .int .i64 0, .int .i64 0, .int .i64 0] 73))
  have K4 := hide_ (Blk.newA w #[.int .i64 0, .string ⟨#[]⟩, .int .i64 0, .int .i64 0, .int .i64 0] 73)
  have HC := hide_ (token_any HPa)
  have hgw := HP.out.1.lt
  have hp := HP.out.2.2.2.2.1
  have HX : Hid (tak (ts.map core) isNum p = if decide ((tkAt ts L p).k = 2) then .ok (p + 1) else .error (60, p)) := by
    show _ = _
    unfold tak isNum
    rw [core_at ts L p]
    rfl
  have HL : Hid (decide ((tkAt ts L p).k = 2) = true → p < ts.length) := fun h => tk_lt hp (by
    have := of_decide_eq_true h
    exact .inr (by rw [this]; decide))
  have hx0 : tkAt ts L p = tkAt ts L p := rfl
  obtain ⟨x, hx⟩ : ∃ x, tkAt ts L p = x := ⟨_, rfl⟩
  have HXX := hide_ hx
  rw [HX.out]
  rw [hx] at HC HL ⊢
  obtain ⟨m, hm⟩ : ∃ m, decide (x.k = 2) = m := ⟨_, rfl⟩
  rw [hm] at HL ⊢
  have HM := hide_ hm
  obtain ⟨r, hr⟩ : ∃ r : PR Nat, (if m = true then .ok (p + 1) else .error (60, p)) = r := ⟨_, rfl⟩
  rw [hr]
  have HR := hide_ hr
  clear HX hm hx hx0 hr
  have hf1 := fld1
  have hf0 := fld0
  go_enter Tryd.func80, Tryd.ntmps80
  go_wp2_with fail
  refine HC.out.mono ?_; rintro e w2 ⟨rfl, hB2⟩
  have HP2 := hide_ (HPa.out.later hB2)
  have HB2 := hide_ (HBa.out.trans (hB2.mono HBa.out.size))
  have K2 := hide_ (K4.out.later hB2)
  clear hB2 HC HPa HBa K4
  unfold tkv
  go_wp2_with fail
  rw [show (x.k == 2) = decide (x.k = 2) from by by_cases h : x.k = 2 <;> simp [h]]
  rw [HM.out]
  have HTk := take_any HP2 m HL.out
  rw [HR.out] at HTk
  refine HTk.mono ?_; clear HTk; rintro e w3 (⟨j, hj, rfl, HP3, HU3⟩ | ⟨y, hy, rfl, HU3⟩)
  · have HJ := hide_ hj
    clear hj
    rw [HXX.out]
    have k0 := (K2.out.upd HU3.out (by show ¬ w.heap.size = g; omega)).cell 0
    have k1 := (K2.out.upd HU3.out (by show ¬ w.heap.size = g; omega)).cell 1
    have k2 := (K2.out.upd HU3.out (by show ¬ w.heap.size = g; omega)).cell 2
    have k3 := (K2.out.upd HU3.out (by show ¬ w.heap.size = g; omega)).cell 3
    have k4 := (K2.out.upd HU3.out (by show ¬ w.heap.size = g; omega)).cell 4
    have z0 := (K2.out.upd HU3.out (by show ¬ w.heap.size = g; omega)).frozen 0
    have z1 := (K2.out.upd HU3.out (by show ¬ w.heap.size = g; omega)).frozen 1
    have z2 := (K2.out.upd HU3.out (by show ¬ w.heap.size = g; omega)).frozen 2
    have z3 := (K2.out.upd HU3.out (by show ¬ w.heap.size = g; omega)).frozen 3
    have z4 := (K2.out.upd HU3.out (by show ¬ w.heap.size = g; omega)).frozen 4
    simp at k0 k1 k2 k3 k4
    unfold tkv
    go_wp2
    obtain ⟨t1, t2, t3⟩ := tok_end hgw HB2.out K2.out (fun k hk => (HP.out.2.1.lt k hk).2) (fun k hk => (HP.out.2.2.1.lt k hk).2) HP3.out HU3.out (.int .i64 x.k) (.string x.t) (.int .i64 x.n) (.int .i64 x.a) (.int .i64 x.e)
    exact retT (T := x) rfl rfl t1 (.inl ⟨j, HJ.out, by rw [HXX.out], t2, t3⟩)
  · have HJ := hide_ hy
    clear hy
    unfold Flt
    go_wp2
    exact ⟨rfl, .inr ⟨y, HJ.out, rfl, hide_ ((Upd.of_below HB2.out).trans HU3.out (fun k _ h => h))⟩⟩
end Go.Proofs.YtbfmoiaedopeiaaDoor

/- begins; what moves when nodes are laid. -/
namespace Go.Proofs.YtbfmoiaedopeiaaDoor
open Go.RowKit
set_option linter.unusedVariables false

set_option maxRecDepth 100000 in
set_option maxHeartbeats 4000000 in
theorem begins_any (s : ByteArray) (w : World) : Calls Tryd.prog 75 #[.string s] w fun e w' => e = .returned (.tuple #[.int .i64 (beg s).1, .int .i64 (beg s).2]) ∧ w = w' := by
  have HN := hide_ (name_any s w)
  have HB : Hid (beg s = beg s) := rfl
  by_cases h0 : s = ⟨#[117, 56]⟩
  · have HE : Hid (beg s = (1, 1)) := by show _ = _; subst h0; decide
    rw [HE.out]
    clear HE HB HN
    subst h0
    go_enter Tryd.func75, Tryd.ntmps75
    go_wp2
    go_ret2
    exact ⟨rfl, rfl⟩
  have k0 := str_ne s _ h0
  by_cases h1 : s = ⟨#[117, 49, 54]⟩
  · have HE : Hid (beg s = (1, 2)) := by show _ = _; subst h1; decide
    rw [HE.out]
    clear HE HB HN
    subst h1
    go_enter Tryd.func75, Tryd.ntmps75
    go_wp2
    go_ret2
    exact ⟨rfl, rfl⟩
  have k1 := str_ne s _ h1
  by_cases h2 : s = ⟨#[117, 51, 50]⟩
  · have HE : Hid (beg s = (1, 4)) := by show _ = _; subst h2; decide
    rw [HE.out]
    clear HE HB HN
    subst h2
    go_enter Tryd.func75, Tryd.ntmps75
    go_wp2
    go_ret2
    exact ⟨rfl, rfl⟩
  have k2 := str_ne s _ h2
  by_cases h3 : s = ⟨#[117, 54, 52]⟩
  · have HE : Hid (beg s = (1, 8)) := by show _ = _; subst h3; decide
    rw [HE.out]
    clear HE HB HN
    subst h3
    go_enter Tryd.func75, Tryd.ntmps75
    go_wp2
    go_ret2
    exact ⟨rfl, rfl⟩
  have k3 := str_ne s _ h3
  by_cases h4 : s = ⟨#[98, 111, 111, 108]⟩
  · have HE : Hid (beg s = (2, 0)) := by show _ = _; subst h4; decide
    rw [HE.out]
    clear HE HB HN
    subst h4
    go_enter Tryd.func75, Tryd.ntmps75
    go_wp2
    go_ret2
    exact ⟨rfl, rfl⟩
  have k4 := str_ne s _ h4
  by_cases h5 : s = ⟨#[118, 97, 114, 105, 110, 116]⟩
  · have HE : Hid (beg s = (3, 0)) := by show _ = _; subst h5; decide
    rw [HE.out]
    clear HE HB HN
    subst h5
    go_enter Tryd.func75, Tryd.ntmps75
    go_wp2
    go_ret2
    exact ⟨rfl, rfl⟩
  have k5 := str_ne s _ h5
  by_cases h6 : s = ⟨#[118, 101, 99, 116, 111, 114]⟩
  · have HE : Hid (beg s = (4, 0)) := by show _ = _; subst h6; decide
    rw [HE.out]
    clear HE HB HN
    subst h6
    go_enter Tryd.func75, Tryd.ntmps75
    go_wp2
    go_ret2
    exact ⟨rfl, rfl⟩
  have k6 := str_ne s _ h6
  by_cases h7 : s = ⟨#[108, 105, 115, 116]⟩
  · have HE : Hid (beg s = (5, 0)) := by show _ = _; subst h7; decide
    rw [HE.out]
    clear HE HB HN
    subst h7
    go_enter Tryd.func75, Tryd.ntmps75
    go_wp2
    go_ret2
    exact ⟨rfl, rfl⟩
  have k7 := str_ne s _ h7
  by_cases h8 : s = ⟨#[111, 112, 116, 105, 111, 110]⟩
  · have HE : Hid (beg s = (6, 0)) := by show _ = _; subst h8; decide
    rw [HE.out]
    clear HE HB HN
    subst h8
    go_enter Tryd.func75, Tryd.ntmps75
    go_wp2
    go_ret2
    exact ⟨rfl, rfl⟩
  have k8 := str_ne s _ h8
  by_cases h9 : s = ⟨#[117, 110, 105, 111, 110]⟩
  · have HE : Hid (beg s = (7, 0)) := by show _ = _; subst h9; decide
    rw [HE.out]
    clear HE HB HN
    subst h9
    go_enter Tryd.func75, Tryd.ntmps75
    go_wp2
    go_ret2
    exact ⟨rfl, rfl⟩
  have k9 := str_ne s _ h9
  by_cases h10 : s = ⟨#[115, 116, 114, 117, 99, 116]⟩
  · have HE : Hid (beg s = (8, 0)) := by show _ = _; subst h10; decide
    rw [HE.out]
    clear HE HB HN
    subst h10
    go_enter Tryd.func75, Tryd.ntmps75
    go_wp2
    go_ret2
    exact ⟨rfl, rfl⟩
  have k10 := str_ne s _ h10
  have HE : Hid (beg s = if isName s then (9, 0) else (0, 0)) := by
    show _ = _
    unfold beg
    rw [if_neg h0, if_neg h1, if_neg h2, if_neg h3, if_neg h4, if_neg h5, if_neg h6, if_neg h7, if_neg h8, if_neg h9, if_neg h10]
  rw [HE.out]
  clear h0
  clear h1
  clear h2
  clear h3
  clear h4
  clear h5
  clear h6
  clear h7
  clear h8
  clear h9
  clear h10
  clear HE HB
  cases hn : isName s with
  | true =>
    rw [hn] at HN
    rw [if_pos rfl]
    go_enter Tryd.func75, Tryd.ntmps75
    go_wp2_with fail
    refine HN.out.mono ?_; rintro e w2 ⟨rfl, rfl⟩
    go_wp2
    go_ret2
    exact ⟨rfl, rfl⟩
  | false =>
    rw [hn] at HN
    rw [if_neg (by decide)]
    go_enter Tryd.func75, Tryd.ntmps75
    go_wp2_with fail
    refine HN.out.mono ?_; rintro e w2 ⟨rfl, rfl⟩
    go_wp2
    go_ret2
    exact ⟨rfl, rfl⟩
/-- Nodes were laid: the parser's block, the nodes' one and new ones may have changed. -/
def Mv (g : Nat) (v v' : Value) (w w' : World) : Prop := Upd (fun k => k = g ∨ v.ownBlock = some k) w w' ∧ ∀ k, v'.ownBlock = some k → v.ownBlock = some k ∨ w.heap.size ≤ k
section
variable {g : Nat} {v v' v'' : Value} {w w' w'' : World}
theorem Mv.refl (g : Nat) (v : Value) (w : World) : Mv g v v w w := ⟨Upd.refl _ _, fun _ h => .inl h⟩
theorem Mv.of (h : Upd (fun k => k = g) w w') (v : Value) : Mv g v v w w' := ⟨h.mono (fun _ _ h => .inl h), fun _ h => .inl h⟩
theorem Mv.of_below (h : Below w.heap.size w w') (g : Nat) (v : Value) : Mv g v v w w' := ⟨Upd.of_below h, fun _ h => .inl h⟩
theorem Mv.upd (h : Mv g v v' w w') (k : Upd (fun k => k = g ∨ v'.ownBlock = some k) w' w'') : Upd (fun k => k = g ∨ v.ownBlock = some k) w w'' :=
  h.1.trans k (fun j hj hk => by
    rcases hk with hk | hk
    · exact .inl hk
    · rcases h.2 j hk with h2 | h2
      · exact .inr h2
      · omega)
theorem Mv.trans (h : Mv g v v' w w') (k : Mv g v' v'' w' w'') : Mv g v v'' w w'' :=
  ⟨h.upd k.1, fun j hj => by
    rcases k.2 j hj with h2 | h2
    · exact h.2 j h2
    · exact .inr (Nat.le_trans h.1.size h2)⟩
theorem Mv.then (h : Mv g v v' w w') (k : Upd (fun k => k = g) w' w'') : Mv g v v' w w'' := h.trans (Mv.of k v')
theorem Mv.size (h : Mv g v v' w w') : w.heap.size ≤ w'.heap.size := h.1.size
end
/-- Behind a type's nodes. N: the nodes ahead, as they lie in memory. -/
def NodeTo (w : World) (B g : Nat) (tv : Value) (ts : List Tk) (L : Nat) (v : Value) (N : List Nd) (r : PR (List Nd × Nat)) (e : Ending) (w' : World) : Prop :=
  (∃ M j v', r = .ok (M, j) ∧ e = .returned (.tuple #[]) ∧ Hid (Par w' B g tv ts L j v' (N ++ M.map (ndP ts L)) ∧ (N ++ M.map (ndP ts L)).length ≤ j) ∧ Hid (Mv g v v' w w')) ∨
  (∃ y, r = .error y ∧ e = Flt y.1 (plc ts L y.2) ∧ Hid (Upd (fun k => k = g ∨ v.ownBlock = some k) w w'))
/-- node's contract, for types that may hold others f deep. -/
def NodeOk (f : Nat) : Prop := ∀ (w : World) (B g : Nat) (tv v : Value) (ts : List Tk) (L p : Nat) (N : List Nd) (x : Nd) (d : Nat), Hid (Par w B g tv ts L p v N) → N.length ≤ p → d + f = 17 →
  Calls Tryd.prog 68 #[.pointer (some ⟨g, 0, none⟩), ndv (ndP ts L x), .int .i64 (d : Int)] w fun e w' => NodeTo w B g tv ts L v N (nodeP (ts.map core) f x p) e w'
end Go.Proofs.YtbfmoiaedopeiaaDoor

/- expression, items, option, part: over node's contract one level below. -/
namespace Go.Proofs.YtbfmoiaedopeiaaDoor
open Go.RowKit
set_option linter.unusedVariables false

theorem bld6 (a : Int) (w : World) : (Instr.build 35 #[(6, .int .i64 a)]).run Tryd.prog w = .ok (.agg #[.int .i64 0, .int .i64 0, .string ⟨#[]⟩, .string ⟨#[]⟩, .int .i64 0, .int .i64 0, .int .i64 a]) w := by kernel_rfl
set_option maxRecDepth 100000 in
set_option maxHeartbeats 4000000 in
theorem expr_any {f : Nat} (hN : Hid (NodeOk f)) {w : World} {B g : Nat} {tv v : Value} {ts : List Tk} {L p : Nat} {N : List Nd} (HP : Hid (Par w B g tv ts L p v N)) (hl : N.length ≤ p) (d : Nat) (hd : d + f = 17) :
    Calls Tryd.prog 59 #[.pointer (some ⟨g, 0, none⟩), .int .i64 (d : Int)] w fun e w' => NodeTo w B g tv ts L v N (nodeP (ts.map core) f { nd0 with a := p } p) e w' := by
  have HC := hide_ (token_any HP)
  have hf3 := fld3
  obtain ⟨r, hr⟩ : ∃ r, nodeP (ts.map core) f { nd0 with a := p } p = r := ⟨_, rfl⟩
  have HR := hide_ hr
  rw [hr]
  clear hr
  obtain ⟨x, hx⟩ : ∃ x, tkAt ts L p = x := ⟨_, rfl⟩
  have HX : Hid ((x.a : Int) = plc ts L p) := by show _ = _; rw [← hx]; rfl
  rw [hx] at HC
  clear hx
  go_enter Tryd.func59, Tryd.ntmps59
  go_wp2_with fail
  refine HC.out.mono ?_; rintro e w2 ⟨rfl, hB2⟩
  have HP2 := hide_ (HP.out.later hB2)
  have HM := hide_ (Mv.of_below hB2 g v)
  clear hB2 HC HP
  unfold tkv
  go_wp2_with fail
  have HNd := hN.out w2 B g tv v ts L p N { nd0 with a := p } d HP2 hl hd
  rw [HR.out] at HNd
  rw [HX.out]
  refine HNd.mono ?_
  clear HNd
  rintro e w3 (⟨M, j, v', hj, rfl, HP3, HM3⟩ | ⟨y, hy, rfl, HU3⟩)
  · have HJ := hide_ hj
    clear hj
    go_wp2
    go_end0
    exact .inl ⟨M, j, v', HJ.out, rfl, HP3, hide_ (HM.out.trans HM3.out)⟩
  · have HJ := hide_ hy
    clear hy
    unfold Flt
    go_wp2
    exact ⟨rfl, .inr ⟨y, HJ.out, rfl, hide_ (HM.out.upd HU3.out)⟩⟩
set_option maxRecDepth 100000 in
set_option maxHeartbeats 4000000 in
theorem option_any {f : Nat} (hN : Hid (NodeOk f)) {w : World} {B g : Nat} {tv v : Value} {ts : List Tk} {L p : Nat} {N : List Nd} (HP : Hid (Par w B g tv ts L p v N)) (hl : N.length ≤ p) (d : Nat) (hd : d + f = 17) :
    Calls Tryd.prog 77 #[.pointer (some ⟨g, 0, none⟩), .int .i64 (d : Int)] w fun e w' => NodeTo w B g tv ts L v N (optionP (ts.map core) (nodeP (ts.map core) f) p) e w' := by
  obtain ⟨r, hr⟩ : ∃ r, optionP (ts.map core) (nodeP (ts.map core) f) p = r := ⟨_, rfl⟩
  have HR := hide_ hr
  rw [hr]
  clear hr
  go_enter Tryd.func77, Tryd.ntmps77
  go_wp2_with fail
  refine (text_any HP ⟨#[60]⟩ (by decide)).mono ?_; rintro e w1 (⟨i1, hj, rfl, HP1, HU⟩ | ⟨y, hy, rfl, HU⟩)
  case inr =>
    have HJ := hide_ hy
    clear hy
    unfold Flt
    go_wp2
    exact ⟨rfl, .inr ⟨y, by rw [← HR.out]; unfold optionP; rw [HJ.out, bnd_err], rfl, hide_ ((Mv.of HU.out v).1)⟩⟩
  have H1 := hide_ hj
  have hi1 := (tak_ok (by simpa only [txt] using hj)).1
  have HMv1 := hide_ (Mv.of HU.out v)
  clear hj HU
  go_wp2_with fail
  refine (expr_any hN HP1 (by omega) d hd).mono ?_; rintro e w2 (⟨M, i2, v', hj, rfl, HPx, HMx⟩ | ⟨y, hy, rfl, HU⟩)
  case inr =>
    have HJ := hide_ hy
    clear hy
    unfold Flt
    go_wp2
    exact ⟨rfl, .inr ⟨y, by rw [← HR.out]; unfold optionP; rw [H1.out, bnd_ok, HJ.out, bnd_err], rfl, hide_ (HMv1.out.upd HU.out)⟩⟩
  have H2 := hide_ hj
  have HP2 := hide_ HPx.out.1
  have hlx := HPx.out.2
  have HMv2 := hide_ (HMv1.out.trans HMx.out)
  clear hj HPx HMx
  go_wp2_with fail
  refine (text_any HP2 ⟨#[62]⟩ (by decide)).mono ?_; rintro e w3 (⟨i3, hj, rfl, HP3, HU⟩ | ⟨y, hy, rfl, HU⟩)
  case inr =>
    have HJ := hide_ hy
    clear hy
    unfold Flt
    go_wp2
    exact ⟨rfl, .inr ⟨y, by rw [← HR.out]; unfold optionP; rw [H1.out, bnd_ok, H2.out, bnd_ok, HJ.out, bnd_err], rfl, hide_ (HMv2.out.upd (Mv.of HU.out v').1)⟩⟩
  have H3 := hide_ hj
  have hi3 := (tak_ok (by simpa only [txt] using hj)).1
  have HMv3 := hide_ (HMv2.out.then HU.out)
  clear hj HU
  go_wp2
  go_end0
  exact .inl ⟨M, i3, v', by rw [← HR.out]; unfold optionP; rw [H1.out, bnd_ok, H2.out, bnd_ok, H3.out]; rfl, rfl, hide_ ⟨HP3.out, by omega⟩, HMv3⟩
/-- Behind a vector's or a list's item and number. -/
def ItemsTo (w : World) (B g : Nat) (tv : Value) (ts : List Tk) (L : Nat) (v : Value) (N : List Nd) (r : PR (List Nd × Int × Nat)) (e : Ending) (w' : World) : Prop :=
  (∃ M n j v', r = .ok (M, n, j) ∧ e = .returned (.int .i64 n) ∧ Hid (Par w' B g tv ts L j v' (N ++ M.map (ndP ts L)) ∧ (N ++ M.map (ndP ts L)).length ≤ j) ∧ Hid (Mv g v v' w w')) ∨
  (∃ y, r = .error y ∧ e = Flt y.1 (plc ts L y.2) ∧ Hid (Upd (fun k => k = g ∨ v.ownBlock = some k) w w'))
set_option maxRecDepth 100000 in
set_option maxHeartbeats 4000000 in
theorem items_any {f : Nat} (hN : Hid (NodeOk f)) {w : World} {B g : Nat} {tv v : Value} {ts : List Tk} {L p : Nat} {N : List Nd} (HP : Hid (Par w B g tv ts L p v N)) (hl : N.length ≤ p) (d : Nat) (hd : d + f = 17) :
    Calls Tryd.prog 76 #[.pointer (some ⟨g, 0, none⟩), .int .i64 (d : Int)] w fun e w' => ItemsTo w B g tv ts L v N (itemsP (ts.map core) (nodeP (ts.map core) f) p) e w' := by
  obtain ⟨r, hr⟩ : ∃ r, itemsP (ts.map core) (nodeP (ts.map core) f) p = r := ⟨_, rfl⟩
  have HR := hide_ hr
  rw [hr]
  clear hr
  have hf2 := fld2
  go_enter Tryd.func76, Tryd.ntmps76
  go_wp2_with fail
  refine (text_any HP ⟨#[60]⟩ (by decide)).mono ?_; rintro e w1 (⟨i1, hj, rfl, HP1, HU⟩ | ⟨y, hy, rfl, HU⟩)
  case inr =>
    have HJ := hide_ hy
    clear hy
    unfold Flt
    go_wp2
    exact ⟨rfl, .inr ⟨y, by rw [← HR.out]; unfold itemsP; rw [HJ.out, bnd_err], rfl, hide_ ((Mv.of HU.out v).1)⟩⟩
  have H1 := hide_ hj
  have hi1 := (tak_ok (by simpa only [txt] using hj)).1
  have HMv1 := hide_ (Mv.of HU.out v)
  clear hj HU
  go_wp2_with fail
  refine (expr_any hN HP1 (by omega) d hd).mono ?_; rintro e w2 (⟨M, i2, v', hj, rfl, HPx, HMx⟩ | ⟨y, hy, rfl, HU⟩)
  case inr =>
    have HJ := hide_ hy
    clear hy
    unfold Flt
    go_wp2
    exact ⟨rfl, .inr ⟨y, by rw [← HR.out]; unfold itemsP; rw [H1.out, bnd_ok, HJ.out, bnd_err], rfl, hide_ (HMv1.out.upd HU.out)⟩⟩
  have H2 := hide_ hj
  have HP2 := hide_ HPx.out.1
  have hlx := HPx.out.2
  have HMv2 := hide_ (HMv1.out.trans HMx.out)
  clear hj HPx HMx
  go_wp2_with fail
  refine (text_any HP2 ⟨#[44]⟩ (by decide)).mono ?_; rintro e w3 (⟨i3, hj, rfl, HP3, HU⟩ | ⟨y, hy, rfl, HU⟩)
  case inr =>
    have HJ := hide_ hy
    clear hy
    unfold Flt
    go_wp2
    exact ⟨rfl, .inr ⟨y, by rw [← HR.out]; unfold itemsP; rw [H1.out, bnd_ok, H2.out, bnd_ok, HJ.out, bnd_err], rfl, hide_ (HMv2.out.upd (Mv.of HU.out v').1)⟩⟩
  have H3 := hide_ hj
  have hi3 := (tak_ok (by simpa only [txt] using hj)).1
  have HMv3 := hide_ (HMv2.out.then HU.out)
  clear hj HU
  go_wp2_with fail
  refine (number_tok HP3).mono ?_; rintro e w4 (⟨i4, hj, rfl, HP4, HU⟩ | ⟨y, hy, rfl, HU⟩)
  case inr =>
    have HJ := hide_ hy
    clear hy
    unfold Flt
    go_wp2
    exact ⟨rfl, .inr ⟨y, by rw [← HR.out]; unfold itemsP; rw [H1.out, bnd_ok, H2.out, bnd_ok, H3.out, bnd_ok, HJ.out, bnd_err], rfl, hide_ (HMv3.out.upd (Mv.of HU.out v').1)⟩⟩
  have H4 := hide_ hj
  have hi4 := (tak_ok (by simpa only [txt] using hj)).1
  have HMv4 := hide_ (HMv3.out.then HU.out)
  clear hj HU
  have HQ : Hid ((tkAt ts L i3).n = (qAt (ts.map core) i3).n) := by show _ = _; rw [core_at ts L i3]; rfl
  obtain ⟨x, hx⟩ : ∃ x, tkAt ts L i3 = x := ⟨_, rfl⟩
  rw [hx] at HQ ⊢
  clear hx
  unfold tkv
  go_wp2_with fail
  refine (text_any HP4 ⟨#[62]⟩ (by decide)).mono ?_; rintro e w5 (⟨i5, hj, rfl, HP5, HU⟩ | ⟨y, hy, rfl, HU⟩)
  case inr =>
    have HJ := hide_ hy
    clear hy
    unfold Flt
    go_wp2
    exact ⟨rfl, .inr ⟨y, by rw [← HR.out]; unfold itemsP; rw [H1.out, bnd_ok, H2.out, bnd_ok, H3.out, bnd_ok, H4.out, bnd_ok, HJ.out, bnd_err], rfl, hide_ (HMv4.out.upd (Mv.of HU.out v').1)⟩⟩
  have H5 := hide_ hj
  have hi5 := (tak_ok (by simpa only [txt] using hj)).1
  have HMv5 := hide_ (HMv4.out.then HU.out)
  clear hj HU
  go_wp2
  go_ret
  exact .inl ⟨M, _, i5, v', by rw [← HR.out]; unfold itemsP; rw [H1.out, bnd_ok, H2.out, bnd_ok, H3.out, bnd_ok, H4.out, bnd_ok, H5.out, bnd_ok], by rw [← HQ.out]; rfl, hide_ ⟨HP5.out, by omega⟩, HMv5⟩
set_option maxRecDepth 100000 in
set_option maxHeartbeats 4000000 in
theorem part_any {f : Nat} (hN : Hid (NodeOk f)) {w : World} {B g : Nat} {tv v : Value} {ts : List Tk} {L p : Nat} {N : List Nd} (HP : Hid (Par w B g tv ts L p v N)) (hl : N.length ≤ p) (d : Nat) (hd : d + f = 17) (x : Nd) (room : Bool) (hx : x.a = x.a.toNat) :
    Calls Tryd.prog 81 #[.pointer (some ⟨g, 0, none⟩), ndv (ndP ts L x), .bool room, .int .i64 (d : Int)] w fun e w' => NodeTo w B g tv ts L v N (partP (ts.map core) (nodeP (ts.map core) f) x room p) e w' := by
  obtain ⟨r, hr⟩ : ∃ r, partP (ts.map core) (nodeP (ts.map core) f) x room p = r := ⟨_, rfl⟩
  have HR := hide_ hr
  rw [hr]
  clear hr
  have HBa := hide_ ((Below.refl w.heap.size w).alloc (Nat.le_refl _) (.cells #[.int .i64 x.k, .int .i64 x.n, .string x.name, .string x.label, .int .i64 x.tag, .int .i64 x.kids, .int .i64 (plc ts L x.a.toNat : Int)] 35))
  have KA := hide_ (Blk.newA w #[.int .i64 x.k, .int .i64 x.n, .string x.name, .string x.label, .int .i64 x.tag, .int .i64 x.kids, .int .i64 (plc ts L x.a.toNat : Int)] 35)
  have HPa := hide_ (HP.out.later HBa.out)
  unfold ndv
  have e0 : (ndP ts L x).k = x.k := rfl
  have e1 : (ndP ts L x).n = x.n := rfl
  have e2 : (ndP ts L x).name = x.name := rfl
  have e3 : (ndP ts L x).label = x.label := rfl
  have e4 : (ndP ts L x).tag = x.tag := rfl
  have e5 : (ndP ts L x).kids = x.kids := rfl
  have e6 : (ndP ts L x).a = (plc ts L x.a.toNat : Int) := rfl
  rw [e0, e1, e2, e3, e4, e5, e6]
  clear e0 e1 e2 e3 e4 e5 e6
  have hgw := HP.out.1.lt
  cases room with
  | false =>
    have HG := hide_ (fun w => giveUp_any 5 (plc ts L x.a.toNat) w)
    have HE : Hid (r = .error (5, x.a.toNat)) := by show _ = _; rw [← HR.out]; unfold partP; rw [if_neg (by decide)]
    generalize hq : plc ts L x.a.toNat = q at *
    have HQ := hide_ hq
    clear hq
    go_enter Tryd.func81, Tryd.ntmps81
    go_wp2_with fail
    refine (HG.out _).mono ?_; rintro e w3 ⟨rfl, rfl⟩
    unfold Flt
    go_wp2
    exact ⟨rfl, .inr ⟨(5, x.a.toNat), HE.out, by rw [HQ.out]; rfl, hide_ (Upd.of_below HBa.out)⟩⟩
  | true =>
    generalize hq : plc ts L x.a.toNat = q at *
    have HQ := hide_ hq
    clear hq
    obtain ⟨wA, hwA⟩ : ∃ wA, wA = w.alloc (.cells #[.int .i64 x.k, .int .i64 x.n, .string x.name, .string x.label, .int .i64 x.tag, .int .i64 x.kids, .int .i64 (q : Int)] 35) := ⟨_, rfl⟩
    rw [← hwA] at HBa KA HPa
    go_enter Tryd.func81, Tryd.ntmps81
    go_wp2_with fail
    rw [← hwA]
    clear hwA
    refine (text_any HPa ⟨#[58]⟩ (by decide)).mono ?_; rintro e w1 (⟨i1, hj, rfl, HP1, HU⟩ | ⟨y, hy, rfl, HU⟩)
    case inr =>
      have HJ := hide_ hy
      clear hy
      unfold Flt
      go_wp2
      exact ⟨rfl, .inr ⟨y, by rw [← HR.out]; unfold partP; rw [if_pos rfl, HJ.out]; rfl, rfl, hide_ ((Mv.of_below HBa.out g v).upd (Mv.of HU.out v).1)⟩⟩
    have H1 := hide_ hj
    have hi1 := (tak_ok (by simpa only [txt] using hj)).1
    have HMv1 := hide_ ((Mv.of_below HBa.out g v).then HU.out)
    have K1 := hide_ (KA.out.upd HU.out (by show ¬ w.heap.size = g; omega))
    clear hj HU KA
    have c0 := K1.out.cell 0; have c1 := K1.out.cell 1; have c2 := K1.out.cell 2; have c3 := K1.out.cell 3; have c4 := K1.out.cell 4; have c5 := K1.out.cell 5; have c6 := K1.out.cell 6
    simp at c0 c1 c2 c3 c4 c5 c6
    have HV : Hid (Value.agg #[.int .i64 x.k, .int .i64 x.n, .string x.name, .string x.label, .int .i64 x.tag, .int .i64 x.kids, .int .i64 (q : Int)] = ndv (ndP ts L x)) := by show _ = _; rw [← HQ.out]; rfl
    go_wp2_with fail
    rw [HV.out]
    refine (hN.out w1 B g tv v ts L i1 N x d HP1 (by omega) hd).mono ?_; rintro e w2 (⟨M, j, v', hj, rfl, HP3, HM3⟩ | ⟨y, hy, rfl, HU3⟩)
    · have HJ := hide_ hj
      clear hj
      go_wp2
      go_end0
      exact .inl ⟨M, j, v', by rw [← HR.out]; unfold partP; rw [if_pos rfl, H1.out, bnd_ok, HJ.out], rfl, HP3, hide_ (HMv1.out.trans HM3.out)⟩
    · have HJ := hide_ hy
      clear hy
      unfold Flt
      go_wp2
      exact ⟨rfl, .inr ⟨y, by rw [← HR.out]; unfold partP; rw [if_pos rfl, H1.out, bnd_ok, HJ.out], rfl, hide_ (HMv1.out.upd HU3.out)⟩⟩
end Go.Proofs.YtbfmoiaedopeiaaDoor
