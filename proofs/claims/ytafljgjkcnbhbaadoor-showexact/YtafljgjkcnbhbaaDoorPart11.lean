import Derived.Test.YtafljgjkcnbhbaaDoorPart06
import Derived.Test.YtafljgjkcnbhbaaDoorPart10
import Derived.Shelf.Pu.Clone

/- strings.Clone, out of the library's shelf. -/
namespace Go.Proofs.YtafljgjkcnbhbaaDoor
open Go.RowKit
set_option linter.unusedVariables false

def renC : Go.Shelf.Ren := ⟨fun | 25 => 72 | n => n, fun | 37 => 44 | 47 => 119 | n => n, fun | n => n⟩
theorem laysC : LaysPu.n25 Tryd.prog renC := {
  mixed := by kernel_rfl
  f25 := Tryd.func72.trans (congrArg some (by kernel_rfl))
  t0 := Tryd.underlying0
  a0 := Tryd.isAgg0
  z0 := Tryd.sizeOf0
  v0 := Tryd.zeroValue0
  i0 := by kernel_rfl
  t3 := Tryd.underlying3
  a3 := Tryd.isAgg3
  z3 := Tryd.sizeOf3
  v3 := Tryd.zeroValue3
  i3 := by kernel_rfl
  t4 := Tryd.underlying4
  a4 := Tryd.isAgg4
  z4 := Tryd.sizeOf4
  v4 := Tryd.zeroValue4
  i4 := by kernel_rfl
  t5 := Tryd.underlying5
  a5 := Tryd.isAgg5
  z5 := Tryd.sizeOf5
  v5 := Tryd.zeroValue5
  i5 := by kernel_rfl
  t9 := Tryd.underlying9
  a9 := Tryd.isAgg9
  z9 := Tryd.sizeOf9
  v9 := Tryd.zeroValue9
  i9 := by kernel_rfl
  t37 := Tryd.underlying44
  a37 := Tryd.isAgg44
  z37 := Tryd.sizeOf44
  v37 := Tryd.zeroValue44
  i37 := by kernel_rfl
  t47 := Tryd.underlying119
  a47 := Tryd.isAgg119
  z47 := Tryd.sizeOf119
  v47 := Tryd.zeroValue119
  i47 := by kernel_rfl }
set_option maxRecDepth 100000 in
set_option maxHeartbeats 4000000 in
theorem clone_any (s : ByteArray) (w : World) (hs : s.size ≤ 65536) : Calls Tryd.prog 65 #[.string s] w fun e w' => e = .returned (.string s) ∧ Below w.heap.size w w' := by
  have key : Calls Tryd.prog 72 #[.string s] w fun e w' => e = .returned (.string s) ∧ Below w.heap.size w w' := AnyPu.stringslite_Clone laysC s w (by omega)
  go_enter Tryd.func65, Tryd.ntmps65
  go_wp2_with fail
  refine key.mono ?_; rintro e w1 ⟨rfl, h1⟩
  go_wp2
  go_ret
  exact ⟨rfl, h1⟩
end Go.Proofs.YtafljgjkcnbhbaaDoor

/- A token of its bytes: tokenOf. -/
namespace Go.Proofs.YtafljgjkcnbhbaaDoor
open Go.RowKit
set_option linter.unusedVariables false

def tkc (t : Tk) : List Value := [.int .i64 t.k, .string t.t, .int .i64 t.n, .int .i64 t.a, .int .i64 t.e]
def tkv (t : Tk) : Value := .agg #[.int .i64 t.k, .string t.t, .int .i64 t.n, .int .i64 t.a, .int .i64 t.e]
def tk0 : Tk := ⟨0, ⟨#[]⟩, 0, 0, 0⟩
def tkO (w : List UInt8) (p : Nat) : Tk := if erW w = 0 then tkW w p else tk0
theorem back (s : ByteArray) : (⟨s.data.toList.toArray⟩ : ByteArray) = s := by simp
section
variable {s : ByteArray} {c : UInt8} {r : List UInt8}
theorem of_name (h : s.data.toList = c :: r) (hc : letter c = true) : (s.size ≤ 32 → erW s.data.toList = 0 ∧ ∀ p, tkO s.data.toList p = ⟨1, s, 0, p, p + s.size⟩) ∧ (32 < s.size → erW s.data.toList = 52 ∧ ∀ p, tkO s.data.toList p = tk0) := by
  have hl : s.size = r.length + 1 := by rw [Lib.size_eq, h]; rfl
  have he : erW s.data.toList = if r.length < 32 then 0 else 52 := by rw [h, erW, hc]; rfl
  refine ⟨fun h1 => ?_, fun h1 => ?_⟩
  · have e0 : erW s.data.toList = 0 := by rw [he, if_pos (by omega)]
    refine ⟨e0, fun p => ?_⟩
    have e1 : tkW s.data.toList p = ⟨1, ⟨s.data.toList.toArray⟩, 0, p, p + s.data.toList.length⟩ := by rw [h, tkW, hc]; rfl
    rw [tkO, if_pos e0, e1, back, ← Lib.size_eq]
  · have e0 : erW s.data.toList = 52 := by rw [he, if_neg (by omega)]
    refine ⟨e0, fun p => ?_⟩
    rw [tkO, if_neg (by rw [e0]; decide)]
theorem of_number (h : s.data.toList = c :: r) (hc : letter c = false) (hd : digit c = true) : (numOk s.data.toList = true → erW s.data.toList = 0 ∧ ∀ p, tkO s.data.toList p = ⟨2, ⟨#[]⟩, num s.data.toList, p, p + s.size⟩) ∧ (numOk s.data.toList = false → erW s.data.toList = 51 ∧ ∀ p, tkO s.data.toList p = tk0) := by
  have he : erW s.data.toList = if numOk s.data.toList = true then 0 else 51 := by rw [h, erW, hc, hd]; rfl
  refine ⟨fun h1 => ?_, fun h1 => ?_⟩
  · have e0 : erW s.data.toList = 0 := by rw [he, if_pos h1]
    refine ⟨e0, fun p => ?_⟩
    have e1 : tkW s.data.toList p = ⟨2, ⟨#[]⟩, num s.data.toList, p, p + s.data.toList.length⟩ := by
      rw [h, tkW, hc, hd]; rfl
    rw [tkO, if_pos e0, e1, ← Lib.size_eq]
  · have e0 : erW s.data.toList = 51 := by rw [he, h1]; rfl
    refine ⟨e0, fun p => ?_⟩
    rw [tkO, if_neg (by rw [e0]; decide)]
theorem of_mark (h : s.data.toList = c :: r) (hc : letter c = false) (hd : digit c = false) : erW s.data.toList = 0 ∧ ∀ p, tkO s.data.toList p = ⟨3, s, 0, p, p + s.size⟩ := by
  have e0 : erW s.data.toList = 0 := by rw [h, erW, hc, hd]; rfl
  refine ⟨e0, fun p => ?_⟩
  have e1 : tkW s.data.toList p = ⟨3, ⟨s.data.toList.toArray⟩, 0, p, p + s.data.toList.length⟩ := by rw [h, tkW, hc, hd]; rfl
  rw [tkO, if_pos e0, e1, back, ← Lib.size_eq]
end
theorem ret29 {R : Ending → World → Prop} {tmps : Array Value} {g : Nat} {x0 x1 x2 x3 x4 : Value} {w : World} (hp : tmps.getD 6 undef = .pointer (some ⟨g, 0, none⟩)) (hK : Blk w g 72 [x0, x1, x2, x3, x4]) (hR : R (.returned (.tuple #[.agg #[x0, x1, x2, x3, x4], tmps.getD 7 undef])) w) :
    bodyPost Tryd.prog Tryd.f52 R Exit.ret ⟨tmps, []⟩ w :=
  bodyPost_ret (results_cell_tmp_row rfl _ _ _ _ #[x0, x1, x2, x3, x4] _ _ hp hK Tryd.underlying72 rfl (by show _ = some 5; kernel_rfl)) rfl hR
def Z34 : List Value := [.int .i64 0, .string ⟨#[]⟩, .int .i64 0, .int .i64 0, .int .i64 0]
theorem blk2 (w : World) (xs ys : Array Value) (t : TypeId) : Blk ((w.alloc (.cells xs t)).alloc (.cells ys t)) w.heap.size t xs.toList ∧ Blk ((w.alloc (.cells xs t)).alloc (.cells ys t)) (w.heap.size + 1) t ys.toList := by
  refine ⟨(Blk.newA w xs t).alloc _, ?_⟩
  have := Blk.newA (w.alloc (.cells xs t)) ys t
  simpa using this
theorem below2 (w : World) (o o' : Obj) : Below w.heap.size w ((w.alloc o).alloc o') := ((Below.refl _ _).alloc (Nat.le_refl _) _).alloc (by simp) _
theorem int_add (a b : Nat) : (((a + b : Nat)) : Int) = (a : Int) + b := by omega
set_option maxRecDepth 100000 in
set_option maxHeartbeats 4000000 in
theorem tokenOf_name (s : ByteArray) (p : Nat) (c : UInt8) (r : List UInt8) (w : World) (hs : s.size ≤ 65536) (hp : p ≤ 65536) (hl : Hid (s.data.toList = c :: r)) (hc : letter c = true) :
    Calls Tryd.prog 52 #[.int .i64 1, .string s, .int .i64 p] w fun e w' => e = .returned (.tuple #[tkv (tkO s.data.toList p), .int .i64 (erW s.data.toList)]) ∧ Below w.heap.size w w' := by
  obtain ⟨k1, k2⟩ := of_name hl.out hc
  go_enter Tryd.func52, Tryd.ntmps52
  by_cases h : s.size ≤ 32
  · have HE := hide_ (k1 h).1
    have HT := hide_ (k1 h).2
    clear k1 k2
    have h' : (s.size : Int) ≤ 32 := by omega
    go_wp2_with fail
    refine (clone_any s _ hs).mono ?_; rintro e w1 ⟨rfl, hB1⟩
    obtain ⟨K6, K8⟩ := blk2 w #[.int .i64 0, .string ⟨#[]⟩, .int .i64 0, .int .i64 0, .int .i64 0] #[.int .i64 1, .string ⟨#[]⟩, .int .i64 0, .int .i64 p, .int .i64 (p + s.size)] 72
    have HB : Hid (Below w.heap.size w w1) := (below2 w _ _).trans (hB1.mono (by simp; omega))
    have K6 := hide_ (K6.later hB1)
    have K8 := hide_ (K8.later hB1)
    have y0 := K8.out.cell 0; have y1 := K8.out.cell 1; have y2 := K8.out.cell 2; have y3 := K8.out.cell 3; have y4 := K8.out.cell 4
    have z1 := K8.out.frozen 1
    have f0 := K6.out.frozen 0; have f1 := K6.out.frozen 1; have f2 := K6.out.frozen 2; have f3 := K6.out.frozen 3; have f4 := K6.out.frozen 4
    have x0 := K6.out.cell 0; have x1 := K6.out.cell 1; have x2 := K6.out.cell 2; have x3 := K6.out.cell 3; have x4 := K6.out.cell 4
    simp at y0 y1 y2 y3 y4 x0 x1 x2 x3 x4
    clear hB1
    go_wp2
    have K := (((((K6.out.other ⟨w.heap.size + 1, 1, none⟩ (.string s) (by simp)).set 0 (.int .i64 1)).set 1 (.string s)).set 2 (.int .i64 0)).set 3 (.int .i64 p)).set 4 (.int .i64 (p + s.size))
    refine ret29 (R := fun e w' => e = .returned (.tuple #[tkv (tkO s.data.toList p), .int .i64 (erW s.data.toList)]) ∧ Below w.heap.size w w') rfl K (And.intro ?_ ?_)
    · rw [HE.out, HT.out p]; simp [tkv]
    · exact (((((HB.out.setCell (by simp) _).setCell (Nat.le_refl _) _).setCell (Nat.le_refl _) _).setCell (Nat.le_refl _) _).setCell (Nat.le_refl _) _).setCell (Nat.le_refl _) _

  · have HE := hide_ (k2 (by omega)).1
    have HT := hide_ (k2 (by omega)).2
    clear k1 k2
    have h' : 32 < (s.size : Int) := by omega
    go_wp2
    refine ret29 rfl (blk2 w _ _ 72).1 ⟨?_, below2 w _ _⟩
    rw [HE.out, HT.out p]; rfl

set_option maxRecDepth 100000 in
set_option maxHeartbeats 4000000 in
theorem tokenOf_mark (s : ByteArray) (p : Nat) (c : UInt8) (r : List UInt8) (w : World) (hs : s.size ≤ 65536) (hp : p ≤ 65536) (hl : Hid (s.data.toList = c :: r)) (hc : letter c = false) (hd : digit c = false) :
    Calls Tryd.prog 52 #[.int .i64 3, .string s, .int .i64 p] w fun e w' => e = .returned (.tuple #[tkv (tkO s.data.toList p), .int .i64 (erW s.data.toList)]) ∧ Below w.heap.size w w' := by
  have HE := hide_ (of_mark hl.out hc hd).1
  have HT := hide_ (of_mark hl.out hc hd).2
  go_enter Tryd.func52, Tryd.ntmps52
  · skip
    go_wp2_with fail
    refine (clone_any s _ hs).mono ?_; rintro e w1 ⟨rfl, hB1⟩
    obtain ⟨K6, K8⟩ := blk2 w #[.int .i64 0, .string ⟨#[]⟩, .int .i64 0, .int .i64 0, .int .i64 0] #[.int .i64 3, .string ⟨#[]⟩, .int .i64 0, .int .i64 p, .int .i64 (p + s.size)] 72
    have HB : Hid (Below w.heap.size w w1) := (below2 w _ _).trans (hB1.mono (by simp; omega))
    have K6 := hide_ (K6.later hB1)
    have K8 := hide_ (K8.later hB1)
    have y0 := K8.out.cell 0; have y1 := K8.out.cell 1; have y2 := K8.out.cell 2; have y3 := K8.out.cell 3; have y4 := K8.out.cell 4
    have z1 := K8.out.frozen 1
    have f0 := K6.out.frozen 0; have f1 := K6.out.frozen 1; have f2 := K6.out.frozen 2; have f3 := K6.out.frozen 3; have f4 := K6.out.frozen 4
    have x0 := K6.out.cell 0; have x1 := K6.out.cell 1; have x2 := K6.out.cell 2; have x3 := K6.out.cell 3; have x4 := K6.out.cell 4
    simp at y0 y1 y2 y3 y4 x0 x1 x2 x3 x4
    clear hB1
    go_wp2
    have K := (((((K6.out.other ⟨w.heap.size + 1, 1, none⟩ (.string s) (by simp)).set 0 (.int .i64 3)).set 1 (.string s)).set 2 (.int .i64 0)).set 3 (.int .i64 p)).set 4 (.int .i64 (p + s.size))
    refine ret29 (R := fun e w' => e = .returned (.tuple #[tkv (tkO s.data.toList p), .int .i64 (erW s.data.toList)]) ∧ Below w.heap.size w w') rfl K (And.intro ?_ ?_)
    · rw [HE.out, HT.out p]; simp [tkv]
    · exact (((((HB.out.setCell (by simp) _).setCell (Nat.le_refl _) _).setCell (Nat.le_refl _) _).setCell (Nat.le_refl _) _).setCell (Nat.le_refl _) _).setCell (Nat.le_refl _) _

set_option maxRecDepth 100000 in
set_option maxHeartbeats 4000000 in
theorem tokenOf_number (s : ByteArray) (p : Nat) (c : UInt8) (r : List UInt8) (w : World) (hs : s.size ≤ 65536) (hp : p ≤ 65536) (hl : Hid (s.data.toList = c :: r)) (hc : letter c = false) (hd : digit c = true) (ha : Hid (allD s)) :
    Calls Tryd.prog 52 #[.int .i64 2, .string s, .int .i64 p] w fun e w' => e = .returned (.tuple #[tkv (tkO s.data.toList p), .int .i64 (erW s.data.toList)]) ∧ Below w.heap.size w w' := by
  obtain ⟨k1, k2⟩ := of_number hl.out hc hd
  go_enter Tryd.func52, Tryd.ntmps52
  go_wp2_with fail
  refine (number_any s _ ha hs).mono ?_; rintro e w' ⟨rfl, rfl⟩
  cases hb : numOk s.data.toList with
  | true =>
    have HE := hide_ (k1 hb).1
    have HT := hide_ (k1 hb).2
    clear k1 k2
    rw [numV_t hb]
    go_wp2
    refine ret29 rfl (blk2 w _ _ 72).1 ⟨?_, below2 w _ _⟩
    rw [HE.out, HT.out p]; simp [tkv]
  | false =>
    have HE := hide_ (k2 hb).1
    have HT := hide_ (k2 hb).2
    clear k1 k2
    rw [numV_f hb]
    go_wp2
    refine ret29 rfl (blk2 w _ _ 72).1 ⟨?_, below2 w _ _⟩
    rw [HE.out, HT.out p]; rfl

end Go.Proofs.YtafljgjkcnbhbaaDoor

/- The token at a place: tokenAt. -/
namespace Go.Proofs.YtafljgjkcnbhbaaDoor
open Go.RowKit
set_option linter.unusedVariables false

theorem drop_at (s : ByteArray) (p : Nat) (h : p < s.size) : s.data.toList.drop p = s[p]'h :: s.data.toList.drop (p + 1) := by
  have h2 : p < s.data.toList.length := by rw [← Lib.size_eq]; exact h
  rw [List.drop_eq_getElem_cons h2]
  congr 1
theorem mem_at {s : ByteArray} {x : UInt8} (h : x ∈ s.data.toList) : ∃ i, ∃ hi : i < s.size, s[i]'hi = x := by
  obtain ⟨i, hi, rfl⟩ := List.getElem_of_mem h
  exact ⟨i, by rw [Lib.size_eq]; exact hi, rfl⟩
theorem allD_of {s : ByteArray} (h : ∀ x ∈ s.data.toList, digit x = true) : allD s := fun k hk => by
  refine h _ ?_
  have := at_list s k hk
  exact List.mem_of_getElem? this
/-- The token at p ends at k. -/
theorem wl_at (s : ByteArray) (p k : Nat) (c : UInt8) (hp : p < s.size) (hc : s[p]'hp = c) (hk : p + 1 ≤ k) (hk2 : k ≤ s.size) (hf : (letter c || digit c || mark c) = true)
    (hall : ∀ j (h : j < s.size), p + 1 ≤ j → j < k → follows c (s[j]'h) = true) (hend : ∀ h : k < s.size, follows c (s[k]'h) = false) :
    wl (s.data.toList.drop p) = k - p ∧ (s.data.toList.drop p).take (k - p) = (s.extract p k).data.toList ∧ (s.extract p k).size = k - p ∧ (∃ r, (s.extract p k).data.toList = c :: r ∧ ∀ x ∈ r, follows c x = true) := by
  have e1 : s.data.toList.drop p = c :: s.data.toList.drop (p + 1) := by rw [drop_at s p hp, hc]
  have e2 : s.data.toList.drop (p + 1) = (s.data.toList.drop (p + 1)).take (k - (p + 1)) ++ s.data.toList.drop k := by
    have := (List.take_append_drop (k - (p + 1)) (s.data.toList.drop (p + 1))).symm
    rw [List.drop_drop, show p + 1 + (k - (p + 1)) = k by omega] at this
    exact this
  have e3 : ∀ x ∈ (s.data.toList.drop (p + 1)).take (k - (p + 1)), follows c x = true := by
    intro x hx
    obtain ⟨i, hi, rfl⟩ := List.getElem_of_mem hx
    rw [List.length_take, List.length_drop, ← Lib.size_eq] at hi
    have h1 : p + 1 + i < s.size := by omega
    have := hall (p + 1 + i) h1 (by omega) (by omega)
    have h2 := at_list s (p + 1 + i) h1
    rw [List.getElem_take, List.getElem_drop]
    exact this
  have e4 : ∀ x y, s.data.toList.drop k = x :: y → follows c x = false := by
    intro x y h
    rcases Nat.lt_or_ge k s.size with h1 | h1
    · rw [drop_at s k h1] at h
      injection h with h _
      rw [← h]
      exact hend h1
    · rw [List.drop_of_length_le (by rw [← Lib.size_eq]; exact h1)] at h
      cases h
  have e5 : (s.data.toList.drop (p + 1)).takeWhile (follows c) = (s.data.toList.drop (p + 1)).take (k - (p + 1)) := by
    conv => lhs; rw [e2]
    exact takeWhile_app e3 e4
  have e6 : wl (s.data.toList.drop p) = k - p := by
    rw [e1, wl, if_pos hf, e5, List.length_take, List.length_drop, ← Lib.size_eq]
    omega
  have e7 : (s.extract p k).data.toList = (s.data.toList.drop p).take (k - p) := Lib.extract_data s p k
  refine ⟨e6, e7.symm, ?_, (s.data.toList.drop (p + 1)).take (k - (p + 1)), ?_, e3⟩
  · rw [Lib.size_eq, e7, List.length_take, List.length_drop, ← Lib.size_eq]; omega
  · rw [e7, e1, show k - p = (k - (p + 1)) + 1 by omega, List.take_succ_cons]
theorem wl_none {c : UInt8} {r : List UInt8} (h1 : letter c = false) (h2 : digit c = false) (h3 : mark c = false) : wl (c :: r) = 0 := by
  rw [wl, h1, h2, h3]; rfl
theorem ret21 {R : Ending → World → Prop} {tmps : Array Value} {g : Nat} {x0 x1 x2 x3 x4 : Value} {w : World} (hp : tmps.getD 4 undef = .pointer (some ⟨g, 0, none⟩)) (hK : Blk w g 72 [x0, x1, x2, x3, x4]) (hR : R (.returned (.tuple #[.agg #[x0, x1, x2, x3, x4], tmps.getD 5 undef])) w) :
    bodyPost Tryd.prog Tryd.f34 R Exit.ret ⟨tmps, []⟩ w :=
  bodyPost_ret (results_cell_tmp_row rfl _ _ _ _ #[x0, x1, x2, x3, x4] _ _ hp hK Tryd.underlying72 rfl (by show _ = some 5; kernel_rfl)) rfl hR
/-- The token at place p, or none; what is wrong with it. -/
def wAt (s : ByteArray) (p : Nat) : List UInt8 := (s.data.toList.drop p).take (wl (s.data.toList.drop p))
set_option maxRecDepth 100000 in
set_option maxHeartbeats 4000000 in
theorem tokenAt_name (s : ByteArray) (p : Nat) (c : UInt8) (w : World) (hs : s.size ≤ 65536) (hp : p < s.size) (hc : s[p]'hp = c) (hl : letter c = true) :
    Calls Tryd.prog 34 #[.string s, .int .i64 p] w fun e w' => e = .returned (.tuple #[tkv (tkO (wAt s p) p), .int .i64 (erW (wAt s p))]) ∧ Below w.heap.size w w' := by
  have hp' : (p : Int) < s.size := by omega
  have hd : digit c = false := by simp [letter, digit] at *; omega
  have hall0 : Hid (∀ j (h : j < s.size), p + 1 ≤ j → j < p + 1 → follows c (s[j]'h) = true) := fun j h h1 h2 => by omega
  go_enter Tryd.func34, Tryd.ntmps34
  go_wp2_with (first | (go_at_call 38; refine (letter_any c _).mono ?_; rintro e w' ⟨rfl, rfl⟩; rw [hl]) | (go_at_call 51; refine (digit_any c _).mono ?_; rintro e w' ⟨rfl, rfl⟩; rw [hd]))
  go_loopw [9] (fun en wr => ∃ k : Nat, p + 1 ≤ k ∧ k ≤ s.size ∧ en = .int .i64 k ∧ Hid (∀ j (h : j < s.size), p + 1 ≤ j → j < k → follows c (s[j]'h) = true) ∧ w.alloc (.cells #[.int .i64 0, .string ⟨#[]⟩, .int .i64 0, .int .i64 0, .int .i64 0] 72) = wr) (fun en _ => s.size - (intOf en).toNat)
  case atStart => exact ⟨p + 1, Nat.le_refl _, by omega, by go_num, hall0, rfl⟩
  case round =>
    obtain ⟨k, hk, hk2, rfl, HA, rfl⟩ := hrel
    have fin : (∀ h : k < s.size, follows c (s[k]'h) = false) → Hid (wAt s p = (s.extract p k).data.toList ∧ (s.extract p k).size = k - p ∧ ∃ r, (s.extract p k).data.toList = c :: r ∧ ∀ x ∈ r, follows c x = true) := fun hend => by
      obtain ⟨e1, e2, e3, e4⟩ := wl_at s p k c hp hc hk hk2 (by rw [hl]; simp) HA.out hend
      exact ⟨by rw [wAt, e1, e2], e3, e4⟩
    by_cases hlt : k < s.size
    · have hlt' : (k : Int) < s.size := by omega
      obtain ⟨x, hx⟩ : ∃ x, s[k]'hlt = x := ⟨_, rfl⟩
      have hfx : follows c x = goes x := by unfold follows; rw [hl]; simp
      cases hg : goes x
      · have HF := fin (fun _ => by rw [hx, hfx, hg])
        clear fin
        obtain ⟨k1, k2, r, k3, k4⟩ := HF.out
        have HW := hide_ k1
        have HL : Hid ((s.extract p k).data.toList = c :: r) := k3
        have hk' : (k : Int) ≤ s.size := by omega
        skip
        clear k1 k3 k4 HF
        go_wp2_with (go_at_call 39; refine (goes_any x _).mono ?_; rintro e w' ⟨rfl, rfl⟩; rw [hg])
        refine (tokenOf_name (s.extract p k) p c r _ (by omega) (by omega) HL hl).mono ?_; rintro e w2 ⟨rfl, hB2⟩
        obtain ⟨T, hT⟩ : ∃ T, tkO (s.extract p k).data.toList p = T := ⟨_, rfl⟩
        obtain ⟨E, hE⟩ : ∃ E : Nat, erW (s.extract p k).data.toList = E := ⟨_, rfl⟩
        rw [hT, hE]
        have HT := hide_ hT
        have HE := hide_ hE
        clear hT hE
        obtain ⟨Tk, Tt, Tn, Ta, Te⟩ := T
        unfold tkv
        have HB : Hid (Below w.heap.size w w2) := ((Below.refl _ _).alloc (Nat.le_refl _) _).trans (hB2.mono (by simp))
        have K4 := hide_ ((Blk.newA w #[.int .i64 0, .string ⟨#[]⟩, .int .i64 0, .int .i64 0, .int .i64 0] 72).later hB2)
        have f0 := K4.out.frozen 0; have f1 := K4.out.frozen 1; have f2 := K4.out.frozen 2; have f3 := K4.out.frozen 3; have f4 := K4.out.frozen 4
        have x0 := K4.out.cell 0; have x1 := K4.out.cell 1; have x2 := K4.out.cell 2; have x3 := K4.out.cell 3; have x4 := K4.out.cell 4
        simp at x0 x1 x2 x3 x4
        clear hB2
        go_wp2
        have KK := ((((K4.out.set 0 (.int .i64 Tk)).set 1 (.string Tt)).set 2 (.int .i64 Tn)).set 3 (.int .i64 Ta)).set 4 (.int .i64 Te)
        refine ret21 (R := fun e w' => e = .returned (.tuple #[tkv (tkO (wAt s p) p), .int .i64 (erW (wAt s p))]) ∧ Below w.heap.size w w') rfl KK (And.intro (by rw [HW.out, HT.out, HE.out]; rfl) ?_)
        exact ((((HB.out.setCell (Nat.le_refl _) _).setCell (Nat.le_refl _) _).setCell (Nat.le_refl _) _).setCell (Nat.le_refl _) _).setCell (Nat.le_refl _) _
      · have HA2 : Hid (∀ j (h : j < s.size), p + 1 ≤ j → j < k + 1 → follows c (s[j]'h) = true) := fun j h h1 h2 => by
          rcases Nat.lt_or_ge j k with h3 | h3
          · exact HA.out j h h1 h3
          · obtain rfl : j = k := by omega
            rw [hx, hfx, hg]
        clear fin HA
        go_wp2_with (go_at_call 39; refine (goes_any x _).mono ?_; rintro e w' ⟨rfl, rfl⟩; rw [hg])
        go_roundw
        case rel => exact ⟨k + 1, by omega, by omega, by go_num, HA2, by trivial⟩
        case measure => simp [intOf]; omega
    · obtain rfl : k = s.size := by omega
      have HF := fin (fun h => absurd h (by omega))
      clear fin
      obtain ⟨k1, k2, r, k3, k4⟩ := HF.out
      have HW := hide_ k1
      have HL : Hid ((s.extract p s.size).data.toList = c :: r) := k3
      skip
      clear k1 k3 k4 HF
      go_wp2_with fail
      refine (tokenOf_name (s.extract p s.size) p c r _ (by omega) (by omega) HL hl).mono ?_; rintro e w2 ⟨rfl, hB2⟩
      obtain ⟨T, hT⟩ : ∃ T, tkO (s.extract p s.size).data.toList p = T := ⟨_, rfl⟩
      obtain ⟨E, hE⟩ : ∃ E : Nat, erW (s.extract p s.size).data.toList = E := ⟨_, rfl⟩
      rw [hT, hE]
      have HT := hide_ hT
      have HE := hide_ hE
      clear hT hE
      obtain ⟨Tk, Tt, Tn, Ta, Te⟩ := T
      unfold tkv
      have HB : Hid (Below w.heap.size w w2) := ((Below.refl _ _).alloc (Nat.le_refl _) _).trans (hB2.mono (by simp))
      have K4 := hide_ ((Blk.newA w #[.int .i64 0, .string ⟨#[]⟩, .int .i64 0, .int .i64 0, .int .i64 0] 72).later hB2)
      have f0 := K4.out.frozen 0; have f1 := K4.out.frozen 1; have f2 := K4.out.frozen 2; have f3 := K4.out.frozen 3; have f4 := K4.out.frozen 4
      have x0 := K4.out.cell 0; have x1 := K4.out.cell 1; have x2 := K4.out.cell 2; have x3 := K4.out.cell 3; have x4 := K4.out.cell 4
      simp at x0 x1 x2 x3 x4
      clear hB2
      go_wp2
      have KK := ((((K4.out.set 0 (.int .i64 Tk)).set 1 (.string Tt)).set 2 (.int .i64 Tn)).set 3 (.int .i64 Ta)).set 4 (.int .i64 Te)
      refine ret21 (R := fun e w' => e = .returned (.tuple #[tkv (tkO (wAt s p) p), .int .i64 (erW (wAt s p))]) ∧ Below w.heap.size w w') rfl KK (And.intro (by rw [HW.out, HT.out, HE.out]; rfl) ?_)
      exact ((((HB.out.setCell (Nat.le_refl _) _).setCell (Nat.le_refl _) _).setCell (Nat.le_refl _) _).setCell (Nat.le_refl _) _).setCell (Nat.le_refl _) _
set_option maxRecDepth 100000 in
set_option maxHeartbeats 4000000 in
theorem tokenAt_number (s : ByteArray) (p : Nat) (c : UInt8) (w : World) (hs : s.size ≤ 65536) (hp : p < s.size) (hc : s[p]'hp = c) (hl : letter c = false) (hd : digit c = true) :
    Calls Tryd.prog 34 #[.string s, .int .i64 p] w fun e w' => e = .returned (.tuple #[tkv (tkO (wAt s p) p), .int .i64 (erW (wAt s p))]) ∧ Below w.heap.size w w' := by
  have hp' : (p : Int) < s.size := by omega
  have hall0 : Hid (∀ j (h : j < s.size), p + 1 ≤ j → j < p + 1 → follows c (s[j]'h) = true) := fun j h h1 h2 => by omega
  go_enter Tryd.func34, Tryd.ntmps34
  go_wp2_with (first | (go_at_call 38; refine (letter_any c _).mono ?_; rintro e w' ⟨rfl, rfl⟩; rw [hl]) | (go_at_call 51; refine (digit_any c _).mono ?_; rintro e w' ⟨rfl, rfl⟩; rw [hd]))
  go_loopw [9] (fun en wr => ∃ k : Nat, p + 1 ≤ k ∧ k ≤ s.size ∧ en = .int .i64 k ∧ Hid (∀ j (h : j < s.size), p + 1 ≤ j → j < k → follows c (s[j]'h) = true) ∧ w.alloc (.cells #[.int .i64 0, .string ⟨#[]⟩, .int .i64 0, .int .i64 0, .int .i64 0] 72) = wr) (fun en _ => s.size - (intOf en).toNat)
  case atStart => exact ⟨p + 1, Nat.le_refl _, by omega, by go_num, hall0, rfl⟩
  case round =>
    obtain ⟨k, hk, hk2, rfl, HA, rfl⟩ := hrel
    have fin : (∀ h : k < s.size, follows c (s[k]'h) = false) → Hid (wAt s p = (s.extract p k).data.toList ∧ (s.extract p k).size = k - p ∧ ∃ r, (s.extract p k).data.toList = c :: r ∧ ∀ x ∈ r, follows c x = true) := fun hend => by
      obtain ⟨e1, e2, e3, e4⟩ := wl_at s p k c hp hc hk hk2 (by rw [hl, hd]; simp) HA.out hend
      exact ⟨by rw [wAt, e1, e2], e3, e4⟩
    by_cases hlt : k < s.size
    · have hlt' : (k : Int) < s.size := by omega
      obtain ⟨x, hx⟩ : ∃ x, s[k]'hlt = x := ⟨_, rfl⟩
      have hfx : follows c x = digit x := by unfold follows; rw [hl, hd]; simp
      cases hg : digit x
      · have HF := fin (fun _ => by rw [hx, hfx, hg])
        clear fin
        obtain ⟨k1, k2, r, k3, k4⟩ := HF.out
        have HW := hide_ k1
        have HL : Hid ((s.extract p k).data.toList = c :: r) := k3
        have hk' : (k : Int) ≤ s.size := by omega
        have HD : Hid (allD (s.extract p k)) := allD_of (fun x hx => by rw [k3] at hx; rcases List.mem_cons.1 hx with rfl | hx; exact hd; have := k4 x hx; unfold follows at this; rw [hl, hd] at this; simpa using this)
        clear k1 k3 k4 HF
        go_wp2_with (go_at_call 51; refine (digit_any x _).mono ?_; rintro e w' ⟨rfl, rfl⟩; rw [hg])
        refine (tokenOf_number (s.extract p k) p c r _ (by omega) (by omega) HL hl hd HD).mono ?_; rintro e w2 ⟨rfl, hB2⟩
        obtain ⟨T, hT⟩ : ∃ T, tkO (s.extract p k).data.toList p = T := ⟨_, rfl⟩
        obtain ⟨E, hE⟩ : ∃ E : Nat, erW (s.extract p k).data.toList = E := ⟨_, rfl⟩
        rw [hT, hE]
        have HT := hide_ hT
        have HE := hide_ hE
        clear hT hE
        obtain ⟨Tk, Tt, Tn, Ta, Te⟩ := T
        unfold tkv
        have HB : Hid (Below w.heap.size w w2) := ((Below.refl _ _).alloc (Nat.le_refl _) _).trans (hB2.mono (by simp))
        have K4 := hide_ ((Blk.newA w #[.int .i64 0, .string ⟨#[]⟩, .int .i64 0, .int .i64 0, .int .i64 0] 72).later hB2)
        have f0 := K4.out.frozen 0; have f1 := K4.out.frozen 1; have f2 := K4.out.frozen 2; have f3 := K4.out.frozen 3; have f4 := K4.out.frozen 4
        have x0 := K4.out.cell 0; have x1 := K4.out.cell 1; have x2 := K4.out.cell 2; have x3 := K4.out.cell 3; have x4 := K4.out.cell 4
        simp at x0 x1 x2 x3 x4
        clear hB2
        go_wp2
        have KK := ((((K4.out.set 0 (.int .i64 Tk)).set 1 (.string Tt)).set 2 (.int .i64 Tn)).set 3 (.int .i64 Ta)).set 4 (.int .i64 Te)
        refine ret21 (R := fun e w' => e = .returned (.tuple #[tkv (tkO (wAt s p) p), .int .i64 (erW (wAt s p))]) ∧ Below w.heap.size w w') rfl KK (And.intro (by rw [HW.out, HT.out, HE.out]; rfl) ?_)
        exact ((((HB.out.setCell (Nat.le_refl _) _).setCell (Nat.le_refl _) _).setCell (Nat.le_refl _) _).setCell (Nat.le_refl _) _).setCell (Nat.le_refl _) _
      · have HA2 : Hid (∀ j (h : j < s.size), p + 1 ≤ j → j < k + 1 → follows c (s[j]'h) = true) := fun j h h1 h2 => by
          rcases Nat.lt_or_ge j k with h3 | h3
          · exact HA.out j h h1 h3
          · obtain rfl : j = k := by omega
            rw [hx, hfx, hg]
        clear fin HA
        go_wp2_with (go_at_call 51; refine (digit_any x _).mono ?_; rintro e w' ⟨rfl, rfl⟩; rw [hg])
        go_roundw
        case rel => exact ⟨k + 1, by omega, by omega, by go_num, HA2, by trivial⟩
        case measure => simp [intOf]; omega
    · obtain rfl : k = s.size := by omega
      have HF := fin (fun h => absurd h (by omega))
      clear fin
      obtain ⟨k1, k2, r, k3, k4⟩ := HF.out
      have HW := hide_ k1
      have HL : Hid ((s.extract p s.size).data.toList = c :: r) := k3
      have HD : Hid (allD (s.extract p s.size)) := allD_of (fun x hx => by rw [k3] at hx; rcases List.mem_cons.1 hx with rfl | hx; exact hd; have := k4 x hx; unfold follows at this; rw [hl, hd] at this; simpa using this)
      clear k1 k3 k4 HF
      go_wp2_with fail
      refine (tokenOf_number (s.extract p s.size) p c r _ (by omega) (by omega) HL hl hd HD).mono ?_; rintro e w2 ⟨rfl, hB2⟩
      obtain ⟨T, hT⟩ : ∃ T, tkO (s.extract p s.size).data.toList p = T := ⟨_, rfl⟩
      obtain ⟨E, hE⟩ : ∃ E : Nat, erW (s.extract p s.size).data.toList = E := ⟨_, rfl⟩
      rw [hT, hE]
      have HT := hide_ hT
      have HE := hide_ hE
      clear hT hE
      obtain ⟨Tk, Tt, Tn, Ta, Te⟩ := T
      unfold tkv
      have HB : Hid (Below w.heap.size w w2) := ((Below.refl _ _).alloc (Nat.le_refl _) _).trans (hB2.mono (by simp))
      have K4 := hide_ ((Blk.newA w #[.int .i64 0, .string ⟨#[]⟩, .int .i64 0, .int .i64 0, .int .i64 0] 72).later hB2)
      have f0 := K4.out.frozen 0; have f1 := K4.out.frozen 1; have f2 := K4.out.frozen 2; have f3 := K4.out.frozen 3; have f4 := K4.out.frozen 4
      have x0 := K4.out.cell 0; have x1 := K4.out.cell 1; have x2 := K4.out.cell 2; have x3 := K4.out.cell 3; have x4 := K4.out.cell 4
      simp at x0 x1 x2 x3 x4
      clear hB2
      go_wp2
      have KK := ((((K4.out.set 0 (.int .i64 Tk)).set 1 (.string Tt)).set 2 (.int .i64 Tn)).set 3 (.int .i64 Ta)).set 4 (.int .i64 Te)
      refine ret21 (R := fun e w' => e = .returned (.tuple #[tkv (tkO (wAt s p) p), .int .i64 (erW (wAt s p))]) ∧ Below w.heap.size w w') rfl KK (And.intro (by rw [HW.out, HT.out, HE.out]; rfl) ?_)
      exact ((((HB.out.setCell (Nat.le_refl _) _).setCell (Nat.le_refl _) _).setCell (Nat.le_refl _) _).setCell (Nat.le_refl _) _).setCell (Nat.le_refl _) _
end Go.Proofs.YtafljgjkcnbhbaaDoor

/- Name, by the program and by the document. -/
namespace Go.Proofs.YtafljgjkcnbhbaaDoor
open Go.RowKit
set_option linter.unusedVariables false

def isName (s : ByteArray) : Bool := decide (0 < s.size ∧ s.size ≤ 32 ∧ (∀ h : 0 < s.size, letter (s[0]'h) = true) ∧ (∀ i (h : i < s.size), goes (s[i]'h) = true) ∧ isWord s = false)
theorem name_ne {s : ByteArray} (h0 : 0 < s.size) : (s.toList == []) = false ∧ s.toList.isEmpty = false := by
  have h1 : s.toList ≠ [] := fun e => by
    rw [Lib.toList_data] at e
    rw [Lib.size_eq, e] at h0
    simp at h0
  refine ⟨by simpa using h1, ?_⟩
  cases hs : s.toList with
  | nil => exact absurd hs h1
  | cons a l => rfl
set_option maxRecDepth 100000 in
set_option maxHeartbeats 4000000 in
theorem name_any (s : ByteArray) (w : World) : Calls Tryd.prog 23 #[.string s] w fun e w' => e = .returned (.bool (isName s)) ∧ w = w' := by
  by_cases h0 : s.size = 0
  · have hs : s = ⟨#[]⟩ := by
      apply ByteArray.ext
      exact Array.eq_empty_of_size_eq_zero h0
    subst hs
    go_enter Tryd.func23, Tryd.ntmps23
    go_wp2
    go_ret
    exact ⟨rfl, rfl⟩
  obtain ⟨n0, n1⟩ := name_ne (s := s) (by omega)
  by_cases h1 : 32 < s.size
  · have h1' : (32 : Int) < s.size := by omega
    have HN : Hid (isName s = false) := decide_eq_false (fun h => by omega)
    go_enter Tryd.func23, Tryd.ntmps23
    go_wp2
    go_ret
    exact ⟨by rw [HN.out]; rfl, rfl⟩
  have h1' : (s.size : Int) ≤ 32 := by omega
  have h0' : 0 < s.size := by omega
  have h0i : (0 : Int) < s.size := by omega
  obtain ⟨c, hc⟩ : ∃ c, s[0]'h0' = c := ⟨_, rfl⟩
  cases hl : letter c with
  | false =>
    have HN : Hid (isName s = false) := decide_eq_false (fun h => by have := h.2.2.1 h0'; rw [hc, hl] at this; cases this)
    go_enter Tryd.func23, Tryd.ntmps23
    go_wp2_with (go_at_call 38; refine (letter_any c _).mono ?_; rintro e w' ⟨rfl, rfl⟩; rw [hl])
    go_ret
    exact ⟨by rw [HN.out]; rfl, rfl⟩
  | true =>
    cases hw : isWord s with
    | true =>
      go_enter Tryd.func23, Tryd.ntmps23
      go_wp2_with (first | (go_at_call 38; refine (letter_any c _).mono ?_; rintro e w' ⟨rfl, rfl⟩; rw [hl]) | (go_at_call 40; refine (word_any s _).mono ?_; rintro e w' ⟨rfl, rfl⟩; rw [hw]))
      go_loopw [19] (fun i wr => ∃ k : Nat, k ≤ s.size ∧ i = .int .i64 k ∧ Hid (∀ j (h : j < s.size), j < k → goes (s[j]'h) = true) ∧ w = wr) (fun i _ => s.size - (intOf i).toNat)
      case atStart => exact ⟨0, Nat.zero_le _, rfl, fun j h hj => by omega, rfl⟩
      case round =>
        obtain ⟨k, hk, rfl, HA, rfl⟩ := hrel
        by_cases hlt : k < s.size
        · have hlt' : (k : Int) < s.size := by omega
          obtain ⟨x, hx⟩ : ∃ x, s[k]'hlt = x := ⟨_, rfl⟩
          cases hg : goes x with
          | false =>
            have HN : Hid (isName s = false) := decide_eq_false (fun h => by have := h.2.2.2.1 k hlt; rw [hx, hg] at this; cases this)
            go_wp2_with (go_at_call 39; refine (goes_any x _).mono ?_; rintro e w' ⟨rfl, rfl⟩; rw [hg])
            go_ret
            exact ⟨by rw [HN.out]; rfl, rfl⟩
          | true =>
            have HA2 : Hid (∀ j (h : j < s.size), j < k + 1 → goes (s[j]'h) = true) := fun j h h2 => by
              rcases Nat.lt_or_ge j k with h3 | h3
              · exact HA.out j h h3
              · obtain rfl : j = k := by omega
                rw [hx, hg]
            go_wp2_with (go_at_call 39; refine (goes_any x _).mono ?_; rintro e w' ⟨rfl, rfl⟩; rw [hg])
            go_roundw
            case rel => exact ⟨k + 1, by omega, by go_num, HA2, by trivial⟩
            case measure => simp [intOf]; omega
        · obtain rfl : k = s.size := by omega
          have HN : Hid (isName s = !(isWord s)) := by
            show _ = _
            rw [hw]
            exact decide_eq_false (fun h => by have := h.2.2.2.2; rw [hw] at this; cases this)
          go_wp2_with (go_at_call 40; refine (word_any s _).mono ?_; rintro e w' ⟨rfl, rfl⟩; rw [hw])
          go_ret
          exact ⟨by rw [HN.out, hw]; rfl, rfl⟩
    | false =>
      go_enter Tryd.func23, Tryd.ntmps23
      go_wp2_with (first | (go_at_call 38; refine (letter_any c _).mono ?_; rintro e w' ⟨rfl, rfl⟩; rw [hl]) | (go_at_call 40; refine (word_any s _).mono ?_; rintro e w' ⟨rfl, rfl⟩; rw [hw]))
      go_loopw [19] (fun i wr => ∃ k : Nat, k ≤ s.size ∧ i = .int .i64 k ∧ Hid (∀ j (h : j < s.size), j < k → goes (s[j]'h) = true) ∧ w = wr) (fun i _ => s.size - (intOf i).toNat)
      case atStart => exact ⟨0, Nat.zero_le _, rfl, fun j h hj => by omega, rfl⟩
      case round =>
        obtain ⟨k, hk, rfl, HA, rfl⟩ := hrel
        by_cases hlt : k < s.size
        · have hlt' : (k : Int) < s.size := by omega
          obtain ⟨x, hx⟩ : ∃ x, s[k]'hlt = x := ⟨_, rfl⟩
          cases hg : goes x with
          | false =>
            have HN : Hid (isName s = false) := decide_eq_false (fun h => by have := h.2.2.2.1 k hlt; rw [hx, hg] at this; cases this)
            go_wp2_with (go_at_call 39; refine (goes_any x _).mono ?_; rintro e w' ⟨rfl, rfl⟩; rw [hg])
            go_ret
            exact ⟨by rw [HN.out]; rfl, rfl⟩
          | true =>
            have HA2 : Hid (∀ j (h : j < s.size), j < k + 1 → goes (s[j]'h) = true) := fun j h h2 => by
              rcases Nat.lt_or_ge j k with h3 | h3
              · exact HA.out j h h3
              · obtain rfl : j = k := by omega
                rw [hx, hg]
            go_wp2_with (go_at_call 39; refine (goes_any x _).mono ?_; rintro e w' ⟨rfl, rfl⟩; rw [hg])
            go_roundw
            case rel => exact ⟨k + 1, by omega, by go_num, HA2, by trivial⟩
            case measure => simp [intOf]; omega
        · obtain rfl : k = s.size := by omega
          have HN : Hid (isName s = !(isWord s)) := by
            show _ = _
            rw [hw]
            exact decide_eq_true ⟨h0', by omega, fun _ => by rw [hc, hl], fun i h => HA.out i h h, hw⟩
          go_wp2_with (go_at_call 40; refine (word_any s _).mono ?_; rintro e w' ⟨rfl, rfl⟩; rw [hw])
          go_ret
          exact ⟨by rw [HN.out, hw]; rfl, rfl⟩
set_option maxRecDepth 100000 in
set_option maxHeartbeats 4000000 in
theorem nameD_any (s : ByteArray) (w : World) : Calls Tryd.prog 30 #[.string s] w fun e w' => e = .returned (.bool (isName s)) ∧ w = w' := by
  by_cases h0 : s.size = 0
  · have hs : s = ⟨#[]⟩ := by
      apply ByteArray.ext
      exact Array.eq_empty_of_size_eq_zero h0
    subst hs
    go_enter Tryd.func30, Tryd.ntmps30
    go_wp2
    go_ret
    exact ⟨rfl, rfl⟩
  obtain ⟨n0, n1⟩ := name_ne (s := s) (by omega)
  by_cases h1 : 32 < s.size
  · have h1' : (32 : Int) < s.size := by omega
    have HN : Hid (isName s = false) := decide_eq_false (fun h => by omega)
    go_enter Tryd.func30, Tryd.ntmps30
    go_wp2
    go_ret
    exact ⟨by rw [HN.out]; rfl, rfl⟩
  have h1' : (s.size : Int) ≤ 32 := by omega
  have h0' : 0 < s.size := by omega
  have h0i : (0 : Int) < s.size := by omega
  obtain ⟨c, hc⟩ : ∃ c, s[0]'h0' = c := ⟨_, rfl⟩
  cases hl : letter c with
  | false =>
    have HN : Hid (isName s = false) := decide_eq_false (fun h => by have := h.2.2.1 h0'; rw [hc, hl] at this; cases this)
    go_enter Tryd.func30, Tryd.ntmps30
    go_wp2_with (go_at_call 45; refine (letterD_any c _).mono ?_; rintro e w' ⟨rfl, rfl⟩; rw [hl])
    go_ret
    exact ⟨by rw [HN.out]; rfl, rfl⟩
  | true =>
    cases hw : isWord s with
    | true =>
      have HN : Hid (isName s = false) := decide_eq_false (fun h => by have := h.2.2.2.2; rw [hw] at this; cases this)
      go_enter Tryd.func30, Tryd.ntmps30
      go_wp2_with (first | (go_at_call 45; refine (letterD_any c _).mono ?_; rintro e w' ⟨rfl, rfl⟩; rw [hl]) | (go_at_call 46; refine (wordD_any s _).mono ?_; rintro e w' ⟨rfl, rfl⟩; rw [hw]))
      go_ret
      exact ⟨by rw [HN.out]; rfl, rfl⟩
    | false =>
      go_enter Tryd.func30, Tryd.ntmps30
      go_wp2_with (first | (go_at_call 45; refine (letterD_any c _).mono ?_; rintro e w' ⟨rfl, rfl⟩; rw [hl]) | (go_at_call 46; refine (wordD_any s _).mono ?_; rintro e w' ⟨rfl, rfl⟩; rw [hw]))
      go_loopw [3] (fun i wr => ∃ k : Nat, k ≤ s.size ∧ i = .int .i64 k ∧ Hid (∀ j (h : j < s.size), j < k → goes (s[j]'h) = true) ∧ w = wr) (fun i _ => s.size - (intOf i).toNat)
      case atStart => exact ⟨0, Nat.zero_le _, rfl, fun j h hj => by omega, rfl⟩
      case round =>
        obtain ⟨k, hk, rfl, HA, rfl⟩ := hrel
        by_cases hlt : k < s.size
        · have hlt' : (k : Int) < s.size := by omega
          obtain ⟨x, hx⟩ : ∃ x, s[k]'hlt = x := ⟨_, rfl⟩
          cases hg : goes x with
          | false =>
            have HN : Hid (isName s = false) := decide_eq_false (fun h => by have := h.2.2.2.1 k hlt; rw [hx, hg] at this; cases this)
            go_wp2_with (go_at_call 47; refine (goesD_any x _).mono ?_; rintro e w' ⟨rfl, rfl⟩; rw [hg])
            go_ret
            exact ⟨by rw [HN.out]; rfl, rfl⟩
          | true =>
            have HA2 : Hid (∀ j (h : j < s.size), j < k + 1 → goes (s[j]'h) = true) := fun j h h2 => by
              rcases Nat.lt_or_ge j k with h3 | h3
              · exact HA.out j h h3
              · obtain rfl : j = k := by omega
                rw [hx, hg]
            go_wp2_with (go_at_call 47; refine (goesD_any x _).mono ?_; rintro e w' ⟨rfl, rfl⟩; rw [hg])
            go_roundw
            case rel => exact ⟨k + 1, by omega, by go_num, HA2, by trivial⟩
            case measure => simp [intOf]; omega
        · obtain rfl : k = s.size := by omega
          have HN : Hid (isName s = !(isWord s)) := by
            show _ = _
            rw [hw]
            exact decide_eq_true ⟨h0', by omega, fun _ => by rw [hc, hl], fun i h => HA.out i h h, hw⟩
          go_wp2_with (go_at_call 46; refine (wordD_any s _).mono ?_; rintro e w' ⟨rfl, rfl⟩; rw [hw])
          go_ret
          exact ⟨by rw [HN.out, hw]; rfl, rfl⟩
end Go.Proofs.YtafljgjkcnbhbaaDoor

/- A byte that begins no token; a mark; the steps of a text, plain. -/
namespace Go.Proofs.YtafljgjkcnbhbaaDoor
open Go.RowKit
set_option linter.unusedVariables false

set_option maxRecDepth 100000 in
set_option maxHeartbeats 4000000 in
theorem tokenAt_mark (s : ByteArray) (p : Nat) (c : UInt8) (w : World) (hs : s.size ≤ 65536) (hp : p < s.size) (hc : s[p]'hp = c) (hl : letter c = false) (hd : digit c = false) (hm : mark c = true) :
    Calls Tryd.prog 34 #[.string s, .int .i64 p] w fun e w' => e = .returned (.tuple #[tkv (tkO (wAt s p) p), .int .i64 (erW (wAt s p))]) ∧ Below w.heap.size w w' := by
  have hp' : (p : Int) < s.size := by omega
  obtain ⟨e1, e2, e3, r, e4, e5⟩ := wl_at s p (p + 1) c hp hc (Nat.le_refl _) (by omega) (by rw [hm]; simp) (fun j h h1 h2 => by omega) (fun h => by unfold follows; rw [hl, hd]; rfl)
  have HW : Hid (wAt s p = (s.extract p (p + 1)).data.toList) := by show _ = _; rw [wAt, e1, e2]
  have HL : Hid ((s.extract p (p + 1)).data.toList = c :: r) := e4
  clear e1 e2 e4 e5
  go_enter Tryd.func34, Tryd.ntmps34
  go_wp2_with (first | (go_at_call 38; refine (letter_any c _).mono ?_; rintro e w' ⟨rfl, rfl⟩; rw [hl]) | (go_at_call 51; refine (digit_any c _).mono ?_; rintro e w' ⟨rfl, rfl⟩; rw [hd]) | (go_at_call 53; refine (mark_any c _).mono ?_; rintro e w' ⟨rfl, rfl⟩; rw [hm]))
  refine (tokenOf_mark (s.extract p (p + 1)) p c r _ (by omega) (by omega) HL hl hd).mono ?_; rintro e w2 ⟨rfl, hB2⟩
  obtain ⟨T, hT⟩ : ∃ T, tkO (s.extract p (p + 1)).data.toList p = T := ⟨_, rfl⟩
  obtain ⟨E, hE⟩ : ∃ E : Nat, erW (s.extract p (p + 1)).data.toList = E := ⟨_, rfl⟩
  rw [hT, hE]
  have HT := hide_ hT
  have HE := hide_ hE
  clear hT hE
  obtain ⟨Tk, Tt, Tn, Ta, Te⟩ := T
  unfold tkv
  have HB : Hid (Below w.heap.size w w2) := ((Below.refl _ _).alloc (Nat.le_refl _) _).trans (hB2.mono (by simp))
  have K4 := hide_ ((Blk.newA w #[.int .i64 0, .string ⟨#[]⟩, .int .i64 0, .int .i64 0, .int .i64 0] 72).later hB2)
  have f0 := K4.out.frozen 0; have f1 := K4.out.frozen 1; have f2 := K4.out.frozen 2; have f3 := K4.out.frozen 3; have f4 := K4.out.frozen 4
  have x0 := K4.out.cell 0; have x1 := K4.out.cell 1; have x2 := K4.out.cell 2; have x3 := K4.out.cell 3; have x4 := K4.out.cell 4
  simp at x0 x1 x2 x3 x4
  clear hB2
  go_wp2
  have KK := ((((K4.out.set 0 (.int .i64 Tk)).set 1 (.string Tt)).set 2 (.int .i64 Tn)).set 3 (.int .i64 Ta)).set 4 (.int .i64 Te)
  refine ret21 (R := fun e w' => e = .returned (.tuple #[tkv (tkO (wAt s p) p), .int .i64 (erW (wAt s p))]) ∧ Below w.heap.size w w') rfl KK (And.intro (by rw [HW.out, HT.out, HE.out]; rfl) ?_)
  exact ((((HB.out.setCell (Nat.le_refl _) _).setCell (Nat.le_refl _) _).setCell (Nat.le_refl _) _).setCell (Nat.le_refl _) _).setCell (Nat.le_refl _) _
set_option maxRecDepth 100000 in
set_option maxHeartbeats 4000000 in
theorem tokenAt_bad (s : ByteArray) (p : Nat) (c : UInt8) (w : World) (hs : s.size ≤ 65536) (hp : p < s.size) (hc : s[p]'hp = c) (hl : letter c = false) (hd : digit c = false) (hm : mark c = false) :
    Calls Tryd.prog 34 #[.string s, .int .i64 p] w fun e w' => e = .returned (.tuple #[tkv (tkO (wAt s p) p), .int .i64 (erW (wAt s p))]) ∧ Below w.heap.size w w' := by
  have hp' : (p : Int) < s.size := by omega
  have HW : Hid (wAt s p = []) := by show _ = _; rw [wAt, drop_at s p hp, hc, wl_none hl hd hm]; rfl
  go_enter Tryd.func34, Tryd.ntmps34
  go_wp2_with (first | (go_at_call 38; refine (letter_any c _).mono ?_; rintro e w' ⟨rfl, rfl⟩; rw [hl]) | (go_at_call 51; refine (digit_any c _).mono ?_; rintro e w' ⟨rfl, rfl⟩; rw [hd]) | (go_at_call 53; refine (mark_any c _).mono ?_; rintro e w' ⟨rfl, rfl⟩; rw [hm]))
  refine ret21 (R := fun e w' => e = .returned (.tuple #[tkv (tkO (wAt s p) p), .int .i64 (erW (wAt s p))]) ∧ Below w.heap.size w w') rfl (Blk.newA w _ 72) (And.intro (by rw [HW.out]; rfl) ?_)
  exact (Below.refl _ _).alloc (Nat.le_refl _) _
theorem tokenAt_any (s : ByteArray) (p : Nat) (w : World) (hs : s.size ≤ 65536) (hp : p < s.size) :
    Calls Tryd.prog 34 #[.string s, .int .i64 p] w fun e w' => e = .returned (.tuple #[tkv (tkO (wAt s p) p), .int .i64 (erW (wAt s p))]) ∧ Below w.heap.size w w' := by
  cases hl : letter (s[p]'hp) with
  | true => exact tokenAt_name s p _ w hs hp rfl hl
  | false =>
    cases hd : digit (s[p]'hp) with
    | true => exact tokenAt_number s p _ w hs hp rfl hl hd
    | false =>
      cases hm : mark (s[p]'hp) with
      | true => exact tokenAt_mark s p _ w hs hp rfl hl hd hm
      | false => exact tokenAt_bad s p _ w hs hp rfl hl hd hm

/-! ### The steps of a text -/
def cutT (s : ByteArray) : Cu := if 65536 < s.size then ([], 4, 0) else cut s.data.toList 0
section
variable {s : ByteArray} {q : Nat}
theorem drop_while (f : UInt8 → Bool) : ∀ r : List UInt8, r.drop (r.takeWhile f).length = r.dropWhile f
  | [] => rfl
  | a :: r => by
    have ih := drop_while f r
    cases h : f a <;> simp [h, ih]
theorem step_sharp (hq : q < s.size) (h : sharp (s[q]'hq) = true) : cut (s.data.toList.drop q) q = cut (s.data.toList.drop (q + ((s.data.toList.drop q).takeWhile inl).length)) (q + ((s.data.toList.drop q).takeWhile inl).length) ∧ 0 < ((s.data.toList.drop q).takeWhile inl).length ∧ q + ((s.data.toList.drop q).takeWhile inl).length ≤ s.size := by
  have hi : inl (s[q]'hq) = true := by simp [sharp] at h; simp [inl, h]
  have e : (s.data.toList.drop q).takeWhile inl = s[q]'hq :: (s.data.toList.drop (q + 1)).takeWhile inl := by rw [drop_at s q hq]; simp [hi]
  have hl := (List.takeWhile_sublist inl (l := s.data.toList.drop q)).length_le
  rw [List.length_drop, ← Lib.size_eq] at hl
  refine ⟨?_, by rw [e]; simp, by omega⟩
  conv => lhs; rw [drop_at s q hq]
  have e8 : s.data.toList.drop (q + 1 + ((s.data.toList.drop (q + 1)).takeWhile inl).length) = (s.data.toList.drop (q + 1)).dropWhile inl := by
    rw [← drop_while inl (s.data.toList.drop (q + 1)), List.drop_drop]
  rw [cut_sharp _ q h, e, List.length_cons, show q + (((s.data.toList.drop (q + 1)).takeWhile inl).length + 1) = q + 1 + ((s.data.toList.drop (q + 1)).takeWhile inl).length by omega, e8]
theorem step_blank (hq : q < s.size) (h : blank (s[q]'hq) = true) : cut (s.data.toList.drop q) q = cut (s.data.toList.drop (q + 1)) (q + 1) := by
  rw [drop_at s q hq, cut_blank _ q h]
theorem step_bad (hq : q < s.size) (h1 : blank (s[q]'hq) = false) (h2 : sharp (s[q]'hq) = false) (h3 : erW (wAt s q) ≠ 0) : cut (s.data.toList.drop q) q = ([], erW (wAt s q), q) := by
  unfold wAt at *
  rw [drop_at s q hq] at *
  exact cut_bad _ q h1 h2 h3
theorem step_tok (hq : q < s.size) (h1 : blank (s[q]'hq) = false) (h2 : sharp (s[q]'hq) = false) (h3 : erW (wAt s q) = 0) : ∃ n, 0 < n ∧ q + n ≤ s.size ∧ (tkW (wAt s q) q).e = q + n ∧ tkO (wAt s q) q = tkW (wAt s q) q ∧ cut (s.data.toList.drop q) q = app (tkW (wAt s q) q) (cut (s.data.toList.drop (q + n)) (q + n)) := by
  have ht : tkO (wAt s q) q = tkW (wAt s q) q := by rw [tkO, if_pos h3]
  have hw : wl (s.data.toList.drop q) ≤ s.size - q := by
    rw [drop_at s q hq, wl]
    split
    · have := (List.takeWhile_sublist (follows (s[q]'hq)) (l := s.data.toList.drop (q + 1))).length_le
      rw [List.length_drop, ← Lib.size_eq] at this
      omega
    · omega
  have h0 : 0 < wl (s.data.toList.drop q) := by
    unfold wAt at h3
    rw [drop_at s q hq] at h3 ⊢
    exact er_wl h3
  have hlen : (wAt s q).length = wl (s.data.toList.drop q) := by rw [wAt, List.length_take, List.length_drop, ← Lib.size_eq]; omega
  refine ⟨wl (s.data.toList.drop q), h0, by omega, ?_, ht, ?_⟩
  · rw [← hlen]
    cases hww : wAt s q with
    | nil => rw [hww] at hlen; simp at hlen; omega
    | cons c r => unfold tkW; simp only; cases letter c <;> cases digit c <;> simp
  · unfold wAt at *
    rw [← List.drop_drop]
    rw [drop_at s q hq] at *
    exact cut_tok _ q h1 h2 h3
end
end Go.Proofs.YtafljgjkcnbhbaaDoor

/- Cut. -/
namespace Go.Proofs.YtafljgjkcnbhbaaDoor
open Go.RowKit
set_option linter.unusedVariables false

def cellsT (ts : List Tk) : List Value := ts.flatMap tkc
theorem cellsT_app (a b : List Tk) : cellsT (a ++ b) = cellsT a ++ cellsT b := by simp [cellsT]
theorem cellsT_one (t : Tk) : cellsT [t] = tkc t := by simp [cellsT]
theorem cellsT_len (ts : List Tk) : (cellsT ts).length = ts.length * 5 := by
  induction ts with
  | nil => rfl
  | cons x N ih => rw [cellsT, List.flatMap_cons, List.length_append]; rw [cellsT] at ih; rw [ih]; simp [tkc]; omega
theorem push_tok {w : World} {B : Nat} {v : Value} {ts : List Tk} (h : w.ownsRow B 72 5 v ts.length (cellsT ts)) (t : Tk) (hl : ts.length ≤ 1000000000) (hB : B ≤ w.heap.size) :
    ∃ v' w', (Builtin.append_ #[53, 53] 53 #[v, .slice (some ⟨w.heap.size, 0, none⟩) 1 1]).run Tryd.prog (w.alloc (.cells #[.int .i64 t.k, .string t.t, .int .i64 t.n, .int .i64 t.a, .int .i64 t.e] 72)) = .ok v' w' ∧
      w'.ownsRow B 72 5 v' (ts ++ [t]).length (cellsT (ts ++ [t])) ∧ Upd (fun k => v.ownBlock = some k) w w' := by
  obtain ⟨g, cap, w', r1, o1, u1, -⟩ := run_pushS (P := Tryd.prog) (t := 53) (e := 72) (z := .agg #[.int .i64 0, .string ⟨#[]⟩, .int .i64 0, .int .i64 0, .int .i64 0]) (bytes := 48) Tryd.underlying53 (by kernel_rfl) rfl (by decide) w 53 h (tkc t) rfl (by intro u hu; simp [tkc] at hu; rcases hu with rfl | rfl | rfl | rfl | rfl <;> rfl) (by unfold maxLen; omega) (by omega) hB
  refine ⟨_, w', r1, ?_, u1⟩
  rw [cellsT_app, cellsT_one, List.length_append]
  exact o1
theorem ret10 {R : Ending → World → Prop} {tmps : Array Value} {g : Nat} {x y : Value} {w : World} (hp : tmps.getD 3 undef = .pointer (some ⟨g, 0, none⟩)) (hK : Blk w g 33 [x, y]) (hR : R (.returned (.tuple #[tmps.getD 2 undef, .agg #[x, y]])) w) :
    bodyPost Tryd.prog Tryd.f20 R Exit.ret ⟨tmps, []⟩ w :=
  bodyPost_ret (results_tmp_cell_row rfl _ _ _ _ #[x, y] _ _ hp hK Tryd.underlying33 rfl (by show _ = some 2; kernel_rfl)) rfl hR
theorem ne26 {w : World} {B g n c : Nat} {v : Value} {xs ys : List Value} (h : w.ownsRow B 72 c v n xs) (hb : Blk w g 33 ys) : v.ownBlock ≠ some g := fun e => by
  obtain ⟨zs, hz⟩ := ownS_type h e
  exact absurd (blk_type hb hz) (by decide)
/-- Cut's answer. -/
def CutTo (s : ByteArray) (w : World) (e : Ending) (w' : World) : Prop :=
  ∃ v, e = .returned (.tuple #[v, .agg #[.int .i64 (cutT s).2.1, .int .i64 (cutT s).2.2]]) ∧ Hid (w'.ownsRow w.heap.size 72 5 v (cutT s).1.length (cellsT (cutT s).1)) ∧ Hid (Below w.heap.size w w')
set_option maxRecDepth 100000 in
set_option maxHeartbeats 4000000 in
theorem cut_any (s : ByteArray) (w : World) : Calls Tryd.prog 20 #[.string s] w fun e w' => CutTo s w e w' := by
  by_cases hs : 65536 < s.size
  · have hs' : (65536 : Int) < s.size := by omega
    have HC : Hid (cutT s = ([], 4, 0)) := by show _ = _; rw [cutT, if_pos hs]
    go_enter Tryd.func20, Tryd.ntmps20
    go_wp2
    go_step3
    go_wp2
    rw [Exit.noGoto_ret]
    refine ret10 rfl (Blk.newA w _ 33) ⟨_, by rw [HC.out]; rfl, by rw [HC.out]; exact World.ownsRow_nil _ _ _ _, (Below.refl _ _).alloc (Nat.le_refl _) _⟩
  have hs' : (s.size : Int) ≤ 65536 := by omega
  have HC : Hid (cutT s = cut s.data.toList 0) := by show _ = _; rw [cutT, if_neg hs]
  go_enter Tryd.func20, Tryd.ntmps20
  go_wp2_with fail
  go_step3
  go_wp2_with fail
  go_step3
  go_wp2_with fail
  go_loopw [4, 5] (fun x4 x5 wr => ∃ (v : Value) (q : Nat) (ts : List Tk), v = x4 ∧ x5 = .int .i64 q ∧ q ≤ s.size ∧ ts.length ≤ q ∧ Hid (cut s.data.toList 0 = apps ts (cut (s.data.toList.drop q) q)) ∧ Hid (wr.ownsRow w.heap.size 72 5 v ts.length (cellsT ts)) ∧ Hid (Blk wr w.heap.size 33 [.int .i64 0, .int .i64 0]) ∧ Hid (Below w.heap.size w wr)) (fun _ q _ => s.size - (intOf q).toNat)
  case atStart => exact ⟨_, 0, [], rfl, rfl, Nat.zero_le _, Nat.zero_le _, by rw [List.drop_zero, apps_nil]; exact rfl, World.ownsRow_nil _ _ _ _, Blk.newA w _ 33, (Below.refl _ _).alloc (Nat.le_refl _) _⟩
  case round =>
    obtain ⟨v, q, ts, rfl, rfl, hq, hts, HE, HV, HK, HB⟩ := hrel
    generalize wr = wq at *
    by_cases hlt : q < s.size
    · have hlt' : (q : Int) < s.size := by omega
      have h5 := @step_sharp s q hlt
      have h4 := @step_blank s q hlt
      have h3 := @step_bad s q hlt
      have h2 := @step_tok s q hlt
      have hcut := tokenAt_any s q wq (by omega) hlt
      obtain ⟨c, hc⟩ : ∃ c, s[q]'hlt = c := ⟨_, rfl⟩
      rw [hc] at h5 h4 h3 h2
      by_cases hsh : (c.toNat : Int) = 35
      · obtain ⟨k1, k2, k3⟩ := h5 (by simp [sharp]; omega)
        have k4 : q < q + ((s.data.toList.drop q).takeWhile inl).length := by omega
        have HE2 := HE.out
        rw [k1] at HE2
        have hb : ((c.toNat : Int) == 35) = true := by simp [hsh]
        have hrm := remark_any s q wq (by omega) (by omega)
        generalize q + ((s.data.toList.drop q).takeWhile inl).length = q' at *
        have HE3 := hide_ HE2
        have HR := hide_ hrm
        clear h5 h4 h3 h2 hcut k1 HE2 hrm HE
        go_wp2_with fail
        refine HR.out.mono ?_; rintro e w' ⟨rfl, rfl⟩
        go_wp2
        go_roundw
        case rel => exact ⟨v, q', ts, rfl, rfl, by omega, by omega, HE3, HV, HK, HB⟩
        case measure => simp [intOf]; omega
      have hb35 : ((c.toNat : Int) == 35) = false := by simpa using hsh
      have hsh' : sharp c = false := by simp [sharp]; omega
      cases hbl : blank c with
      | true =>
        have HE2 := HE.out
        rw [h4 hbl] at HE2
        have HE3 := hide_ HE2
        clear h5 h4 h3 h2 hcut HE2 HE
        have h32 : (c.toNat : Int) = 32 ∨ (c.toNat : Int) = 9 ∨ (c.toNat : Int) = 10 := by simp [blank] at hbl; omega
        obtain ⟨x, hx⟩ : ∃ x : Int, (c.toNat : Int) = x := ⟨_, rfl⟩
        rw [hx] at h32 hb35 hsh
        rcases h32 with rfl | rfl | rfl
        all_goals
          go_wp2
          go_roundw
          case rel => exact ⟨v, q + 1, ts, rfl, by go_num, by omega, by omega, HE3, HV, HK, HB⟩
          case measure => simp [intOf]; omega
      | false =>
        have h32 : ((c.toNat : Int) == 32) = false ∧ ((c.toNat : Int) == 9) = false ∧ ((c.toNat : Int) == 10) = false := by simp [blank] at hbl; simp; omega
        obtain ⟨i1, i2, i3⟩ := h32
        have HCt := hide_ hcut
        clear h5 h4 hcut
        have h3 := h3 hbl hsh'
        have h2 := h2 hbl hsh'
        by_cases he : erW (wAt s q) = 0
        · obtain ⟨n, n1, n2, n3, n4, n5⟩ := h2 he
          rw [he, n4] at HCt
          have HE2 := HE.out
          rw [n5, apps_app] at HE2
          have HE3 := hide_ HE2
          clear h3 h2 he n4 n5 HE HE2
          obtain ⟨T, hT⟩ : ∃ T, tkW (wAt s q) q = T := ⟨_, rfl⟩
          rw [hT] at HCt HE3 n3
          clear hT
          go_wp2_with fail
          refine HCt.out.mono ?_; rintro e w2 ⟨rfl, hB2⟩
          clear HCt
          have HV2 := hide_ (ownS_upd HV.out (Upd.of_below (S := fun _ => False) hB2) (fun _ _ h => h))
          have HK2 := hide_ (HK.out.later hB2)
          have HB2 := hide_ (HB.out.trans (hB2.mono HB.out.size))
          clear HV HK HB hB2
          obtain ⟨wA, hwA⟩ : ∃ wA, wA = w2.alloc (.cells #[.int .i64 T.k, .string T.t, .int .i64 T.n, .int .i64 T.a, .int .i64 T.e] 72) := ⟨_, rfl⟩
          have KA : Blk wA w2.heap.size 72 [.int .i64 T.k, .string T.t, .int .i64 T.n, .int .i64 T.a, .int .i64 T.e] := by rw [hwA]; exact Blk.newA w2 _ 72
          have HBA0 : Below w2.heap.size w2 wA := by rw [hwA]; exact (Below.refl _ _).alloc (Nat.le_refl _) _
          have HVA := hide_ (ownS_upd HV2.out (Upd.of_below (S := fun _ => False) HBA0) (fun _ _ h => h))
          have HKA := hide_ (HK2.out.later HBA0)
          have HBA := hide_ (HB2.out.trans (HBA0.mono HB2.out.size))
          obtain ⟨v9, w9, r9, o9, u9⟩ := push_tok HVA.out T (by omega) HBA.out.size
          have R9 := hide_ r9
          have HV9 := hide_ o9
          have HK9 := hide_ (HKA.out.upd u9 (ne26 HVA.out HKA.out))
          have HB9 := hide_ (HBA.out.trans (u9.below _ HBA.out.size fun k hk => (HVA.out.lt k hk).1))
          have K9 := KA.upd u9 (fun e => by have h2 := (HV2.out.lt _ e).2; omega)
          have d4 : w9.cell? ⟨w2.heap.size, 4, none⟩ = some (.int .i64 T.e) := K9.cell 4
          have HTe : Hid ((T.e : Int) = q + n) := by show _ = _; rw [n3]; omega
          clear n3
          have a0 : wA.cell? ⟨w2.heap.size, 0, none⟩ = some (.int .i64 T.k) := KA.cell 0
          have a1 : wA.cell? ⟨w2.heap.size, 1, none⟩ = some (.string T.t) := KA.cell 1
          have a2 : wA.cell? ⟨w2.heap.size, 2, none⟩ = some (.int .i64 T.n) := KA.cell 2
          have a3 : wA.cell? ⟨w2.heap.size, 3, none⟩ = some (.int .i64 T.a) := KA.cell 3
          have a4 : wA.cell? ⟨w2.heap.size, 4, none⟩ = some (.int .i64 T.e) := KA.cell 4
          clear HVA HKA HBA HBA0 HV2 HK2 HB2 r9 o9 u9 K9 KA
          unfold tkv
          go_upto_region 14 with fail
          rw [← hwA]
          clear hwA
          go_wp2_with (at_builtin; have _t := R9; refine wpList_append_run rfl (.tmp 41) (.tmp 43) 53 53 rfl rfl rfl R9.out ?_; clear R9)
          go_roundw
          case rel => exact ⟨v9, q + n, ts ++ [T], rfl, by first | (rw [HTe.out]; go_num) | go_num, by omega, by simp; omega, HE3, HV9, HK9, HB9⟩
          case measure => rw [HTe.out]; simp [intOf]; omega
        · have HE2 := HE.out
          rw [h3 he] at HE2
          have hap : apps ts ([], erW (wAt s q), q) = ([], erW (wAt s q), q) := by unfold apps; rw [if_neg he]
          rw [hap] at HE2
          have HE3 := hide_ (HC.out.trans HE2)
          have he' : ((erW (wAt s q) : Int) == 0) = false := by simp; exact he
          clear h3 h2 HE HE2 hap
          obtain ⟨E, hE⟩ : ∃ E, erW (wAt s q) = E := ⟨_, rfl⟩
          obtain ⟨T, hT⟩ : ∃ T, tkO (wAt s q) q = T := ⟨_, rfl⟩
          rw [hE] at HCt HE3 he' he
          rw [hT] at HCt
          clear hT hE
          go_wp2_with fail
          refine HCt.out.mono ?_; rintro e w2 ⟨rfl, hB2⟩
          have HK2 := hide_ (((HK.out.later hB2)).alloc (.cells #[.int .i64 T.k, .string T.t, .int .i64 T.n, .int .i64 T.a, .int .i64 T.e] 72))
          have HB2 := hide_ ((HB.out.trans (hB2.mono HB.out.size)).alloc (by have h1 := HB.out.size; have h2 := hB2.size; omega) (.cells #[.int .i64 T.k, .string T.t, .int .i64 T.n, .int .i64 T.a, .int .i64 T.e] 72))
          clear HCt HV HK HB hB2
          have z0 := HK2.out.frozen 0; have z1 := HK2.out.frozen 1
          have e0 := HK2.out.cell 0; have e1 := HK2.out.cell 1
          simp at e0 e1
          unfold tkv
          go_wp2
          rw [Exit.noGoto_ret]
          refine ret10 rfl ((HK2.out.set 0 _).set 1 _) ⟨_, by rw [HE3.out], by rw [HE3.out]; exact World.ownsRow_nil _ _ _ _, (HB2.out.setCell (Nat.le_refl _) _).setCell (Nat.le_refl _) _⟩
    · obtain rfl : q = s.size := by omega
      have HE2 := HE.out
      rw [List.drop_of_length_le (by rw [← Lib.size_eq]; exact Nat.le_refl _), cut_nil] at HE2
      have hap : apps ts ([], 0, 0) = (ts, 0, 0) := by simp [apps]
      rw [hap] at HE2
      have HE3 := hide_ (HC.out.trans HE2)
      clear HE HE2 hap
      have z0 := HK.out.frozen 0; have z1 := HK.out.frozen 1
      have e0 := HK.out.cell 0; have e1 := HK.out.cell 1
      simp at e0 e1
      go_wp2
      try rw [Exit.noGoto_ret]
      refine ret10 rfl ((HK.out.set 0 _).set 1 _) ⟨v, by rw [HE3.out]; rfl, ?_, (HB.out.setCell (Nat.le_refl _) _).setCell (Nat.le_refl _) _⟩
      rw [HE3.out]
      exact ownS_upd HV.out (((Upd.refl (fun k => k = w.heap.size) wq).set _ _ (.inl rfl)).set _ _ (.inl rfl)) (fun k hk e1 => ne26 HV.out HK.out (by rw [hk, e1]))
end Go.Proofs.YtafljgjkcnbhbaaDoor

/- Rows of tokens; same. -/
namespace Go.Proofs.YtafljgjkcnbhbaaDoor
open Go.RowKit
set_option linter.unusedVariables false

def TRow (w : World) (a : Option Addr) (l : List Tk) : Prop :=
  (a = none ∧ l = []) ∨ ∃ b off, a = some ⟨b, off, none⟩ ∧ b < w.heap.size ∧ ∀ i, i < l.length →
    w.cell? ⟨b, off + i * 5, none⟩ = some (.int .i64 (l.getD i tk0).k) ∧ w.cell? ⟨b, off + i * 5 + 1, none⟩ = some (.string (l.getD i tk0).t) ∧ w.cell? ⟨b, off + i * 5 + 2, none⟩ = some (.int .i64 (l.getD i tk0).n) ∧
    w.cell? ⟨b, off + i * 5 + 3, none⟩ = some (.int .i64 (l.getD i tk0).a) ∧ w.cell? ⟨b, off + i * 5 + 4, none⟩ = some (.int .i64 (l.getD i tk0).e)
section
variable {w w' : World} {a : Option Addr} {l : List Tk}
theorem TRow.open (h : TRow w a l) (hl : 0 < l.length) : ∃ b off, a = some ⟨b, off, none⟩ ∧ b < w.heap.size ∧ ∀ i, i < l.length →
    w.cell? ⟨b, off + i * 5, none⟩ = some (.int .i64 (l.getD i tk0).k) ∧ w.cell? ⟨b, off + i * 5 + 1, none⟩ = some (.string (l.getD i tk0).t) ∧ w.cell? ⟨b, off + i * 5 + 2, none⟩ = some (.int .i64 (l.getD i tk0).n) ∧
    w.cell? ⟨b, off + i * 5 + 3, none⟩ = some (.int .i64 (l.getD i tk0).a) ∧ w.cell? ⟨b, off + i * 5 + 4, none⟩ = some (.int .i64 (l.getD i tk0).e) := by
  rcases h with ⟨_, rfl⟩ | h
  · simp at hl
  · exact h
theorem TRow.upd {S : Nat → Prop} (h : TRow w a l) (hu : Upd S w w') (hg : ∀ x, a = some x → ¬ S x.block) : TRow w' a l := by
  rcases h with h | ⟨b, off, rfl, hlt, hc⟩
  · exact .inl h
  · refine .inr ⟨b, off, rfl, Nat.lt_of_lt_of_le hlt hu.size, fun i hi => ?_⟩
    have he : ∀ o, w'.cell? ⟨b, o, none⟩ = w.cell? ⟨b, o, none⟩ := fun o => World.cell?_of_block (w := w) (hu.block b hlt (hg _ rfl))
    rw [he, he, he, he, he]
    exact hc i hi
theorem TRow.later (h : TRow w a l) (hB : Below w.heap.size w w') : TRow w' a l := h.upd (Upd.of_below (S := fun _ => False) hB) (fun _ _ h => h)
theorem TRow.drewN (h : TRow w a l) (n : Nat) : TRow (w.drewN n) a l := h
theorem TRow.take (h : TRow w a l) (m : Nat) : TRow w a (l.take m) := by
  rcases h with ⟨rfl, rfl⟩ | ⟨b, off, rfl, hlt, hc⟩
  · exact .inl ⟨rfl, by simp⟩
  · refine .inr ⟨b, off, rfl, hlt, fun i hi => ?_⟩
    have h1 : i < l.length ∧ i < m := by simp at hi; omega
    have h2 : (l.take m).getD i tk0 = l.getD i tk0 := by simp [List.getD, h1.2]
    rw [h2]
    exact hc i h1.1
end
theorem cellsT_at : ∀ (N : List Tk) (i j : Nat), i < N.length → j < 5 → (cellsT N)[i * 5 + j]? = (tkc (N.getD i tk0))[j]?
  | [], i, j, h, _ => by simp at h
  | x :: N, 0, j, _, hj => by
    have e : cellsT (x :: N) = tkc x ++ cellsT N := by simp [cellsT]
    rw [e, List.getElem?_append_left (by simp [tkc]; omega)]
    simp
  | x :: N, i + 1, j, h, hj => by
    have ih := cellsT_at N i j (by simpa using h) hj
    have e : cellsT (x :: N) = tkc x ++ cellsT N := by simp [cellsT]
    rw [e, List.getElem?_append_right (by simp [tkc]; omega)]
    rw [show (i + 1) * 5 + j - (tkc x).length = i * 5 + j by simp [tkc]; omega, ih]
    simp
theorem own_row {w : World} {B : Nat} {v : Value} {ts : List Tk} (h : w.ownsRow B 72 5 v ts.length (cellsT ts)) : ∃ a cap, v = .slice a ts.length cap ∧ ts.length ≤ cap ∧ TRow w a ts ∧ (∀ x, a = some x → B ≤ x.block ∧ v.ownBlock = some x.block) := by
  rcases Nat.eq_zero_or_pos ts.length with h0 | h0
  · have hts : ts = [] := List.eq_nil_of_length_eq_zero h0
    subst hts
    rcases h.2 with ⟨rfl, _⟩ | ⟨g, cap, cur, rfl, hb, hg, hnc, _⟩
    · exact ⟨none, 0, rfl, Nat.le_refl _, .inl ⟨rfl, rfl⟩, fun x hx => by cases hx⟩
    · exact ⟨_, cap, rfl, by simp, .inr ⟨g, 0, rfl, (Array.getElem?_eq_some_iff.1 hg).1, fun i hi => by simp at hi⟩, fun x hx => by cases hx; exact ⟨hb, rfl⟩⟩
  · obtain ⟨g, cap, ys, rfl, hb, hn, hm, hl, ht, hK⟩ := ownS_blk h h0
    refine ⟨_, cap, rfl, hn, .inr ⟨g, 0, rfl, hK.lt, fun i hi => ?_⟩, fun x hx => by cases hx; exact ⟨hb, rfl⟩⟩
    have hc : ∀ j, j < 5 → w.cell? ⟨g, 0 + i * 5 + j, none⟩ = (tkc (ts.getD i tk0))[j]? := fun j hj => by
      rw [hK.cell, ← cellsT_at ts i j hi hj, ← ht, List.getElem?_take, if_pos (by omega), Nat.zero_add]
    exact ⟨hc 0 (by decide), hc 1 (by decide), hc 2 (by decide), hc 3 (by decide), hc 4 (by decide)⟩
end Go.Proofs.YtafljgjkcnbhbaaDoor

/- The grammar, plain: tokens, by their numbers, to definitions. -/
namespace Go.Proofs.YtafljgjkcnbhbaaDoor
set_option linter.unusedVariables false

/-- A token without its places. -/
structure Q where
  k : Int
  t : ByteArray
  n : Int
def q0 : Q := ⟨0, ⟨#[]⟩, 0⟩
def core (t : Tk) : Q := ⟨t.k, t.t, t.n⟩
/-- A node of a type expression. -/
structure Nd where
  k : Int
  n : Int
  name : ByteArray
  label : ByteArray
  tag : Int
  kids : Int
  a : Int
def nd0 : Nd := ⟨0, 0, ⟨#[]⟩, ⟨#[]⟩, 0, 0, 0⟩
/-- A definition. -/
structure Df where
  name : ByteArray
  a : Int
  ty : List Nd
/-- An answer, or an error at a token. -/
abbrev PR (α : Type) := Except (Nat × Nat) α
def bnd {α β : Type} (r : PR α) (f : α → PR β) : PR β :=
  match r with
  | .ok a => f a
  | .error e => .error e
theorem bnd_ok {α β : Type} (a : α) (f : α → PR β) : bnd (.ok a) f = f a := rfl
theorem bnd_err {α β : Type} (e : Nat × Nat) (f : α → PR β) : bnd (.error e) f = .error e := rfl
/-- The kind of a type that begins so (0: none), and the bytes of a uint. -/
def beg (t : ByteArray) : Int × Int :=
  if t = ⟨#[117, 56]⟩ then (1, 1) else if t = ⟨#[117, 49, 54]⟩ then (1, 2) else if t = ⟨#[117, 51, 50]⟩ then (1, 4) else if t = ⟨#[117, 54, 52]⟩ then (1, 8)
  else if t = ⟨#[98, 111, 111, 108]⟩ then (2, 0) else if t = ⟨#[118, 97, 114, 105, 110, 116]⟩ then (3, 0) else if t = ⟨#[118, 101, 99, 116, 111, 114]⟩ then (4, 0)
  else if t = ⟨#[108, 105, 115, 116]⟩ then (5, 0) else if t = ⟨#[111, 112, 116, 105, 111, 110]⟩ then (6, 0) else if t = ⟨#[117, 110, 105, 111, 110]⟩ then (7, 0)
  else if t = ⟨#[115, 116, 114, 117, 99, 116]⟩ then (8, 0) else if isName t then (9, 0) else (0, 0)
section
variable (qs : List Q)
def qAt (i : Nat) : Q := qs.getD i q0
def tak (may : Q → Bool) (i : Nat) : PR Nat := if may (qAt qs i) then .ok (i + 1) else .error (60, i)
def isT (s : ByteArray) (q : Q) : Bool := decide (q.t = s)
def isNm (q : Q) : Bool := isName q.t
def isNum (q : Q) : Bool := decide (q.k = 2)
def txt (s : ByteArray) (i : Nat) : PR Nat := tak qs (isT s) i
def itemsP (sub : Nd → Nat → PR (List Nd × Nat)) (i : Nat) : PR (List Nd × Int × Nat) :=
  bnd (txt qs ⟨#[60]⟩ i) fun i1 => bnd (sub { nd0 with a := i1 } i1) fun r => bnd (txt qs ⟨#[44]⟩ r.2) fun i3 => bnd (tak qs isNum i3) fun i4 => bnd (txt qs ⟨#[62]⟩ i4) fun i5 => .ok (r.1, (qAt qs i3).n, i5)
def optionP (sub : Nd → Nat → PR (List Nd × Nat)) (i : Nat) : PR (List Nd × Nat) :=
  bnd (txt qs ⟨#[60]⟩ i) fun i1 => bnd (sub { nd0 with a := i1 } i1) fun r => bnd (txt qs ⟨#[62]⟩ r.2) fun i3 => .ok (r.1, i3)
/-- Fields or arms behind the first; f: what bounds their number. -/
def moreP (one : Nat → Nat → PR (List Nd × Nat)) : Nat → Nat → List Nd → Nat → PR (List Nd × Nat × Nat)
  | 0, _, _, _ => .error (0, 0)
  | f + 1, c, N, i =>
    if isT ⟨#[44]⟩ (qAt qs i) then bnd (one c (i + 1)) fun r => moreP one f (c + 1) (N ++ r.1) r.2
    else bnd (txt qs ⟨#[125]⟩ i) fun j => .ok (N, c, j)
def partsP (one : Nat → Nat → PR (List Nd × Nat)) (i : Nat) : PR (List Nd × Nat × Nat) :=
  bnd (txt qs ⟨#[123]⟩ i) fun i1 => bnd (one 0 i1) fun r => moreP qs one 64 1 r.1 r.2
def partP (sub : Nd → Nat → PR (List Nd × Nat)) (x : Nd) (room : Bool) (i : Nat) : PR (List Nd × Nat) :=
  if room then bnd (txt qs ⟨#[58]⟩ i) fun i1 => sub x i1 else .error (5, x.a.toNat)
def armP (sub : Nd → Nat → PR (List Nd × Nat)) (c i : Nat) : PR (List Nd × Nat) :=
  bnd (tak qs isNum i) fun i1 => partP qs sub { nd0 with tag := (qAt qs i).n, a := i } (decide (c < 64)) i1
def fieldP (sub : Nd → Nat → PR (List Nd × Nat)) (c i : Nat) : PR (List Nd × Nat) :=
  bnd (tak qs isNm i) fun i1 => partP qs sub { nd0 with label := (qAt qs i).t, a := i } (decide (c < 64)) i1
/-- Behind a type's first token, at i: x has its kind and number. -/
def bodyP (sub : Nd → Nat → PR (List Nd × Nat)) (x : Nd) (i : Nat) : PR (List Nd × Nat) :=
  if x.k = 9 then .ok ([{ x with name := (qAt qs i).t }], i + 1)
  else if x.k = 4 ∨ x.k = 5 then bnd (itemsP qs sub (i + 1)) fun r => .ok ({ x with n := r.2.1, kids := 1 } :: r.1, r.2.2)
  else if x.k = 6 then bnd (optionP qs sub (i + 1)) fun r => .ok ({ x with kids := 1 } :: r.1, r.2)
  else if x.k = 7 then bnd (partsP qs (armP qs sub) (i + 1)) fun r => .ok ({ x with kids := r.2.1 } :: r.1, r.2.2)
  else if x.k = 8 then bnd (partsP qs (fieldP qs sub) (i + 1)) fun r => .ok ({ x with kids := r.2.1 } :: r.1, r.2.2)
  else .ok ([x], i + 1)
/-- A type that may hold others, f deep at most. -/
def nodeP : Nat → Nd → Nat → PR (List Nd × Nat)
  | 0, _, i => if (beg (qAt qs i).t).1 = 0 then .error (60, i) else .error (61, i)
  | f + 1, x, i => if (beg (qAt qs i).t).1 = 0 then .error (60, i) else bodyP qs (nodeP f) { x with k := (beg (qAt qs i).t).1, n := (beg (qAt qs i).t).2 } i
def defP (i : Nat) : PR (Df × Nat) :=
  bnd (tak qs isNm i) fun i1 => bnd (txt qs ⟨#[61]⟩ i1) fun i2 => bnd (nodeP qs 17 { nd0 with a := i2 } i2) fun r => bnd (txt qs ⟨#[59]⟩ r.2) fun i4 => .ok (⟨(qAt qs i).t, i, r.1⟩, i4)
/-- The definitions from here on; f: how many more, and one, may come. -/
def srcP : Nat → List Df → Nat → PR (List Df)
  | 0, _, _ => .error (0, 0)
  | f + 1, D, i => if i < qs.length then bnd (txt qs ⟨#[116, 121, 112, 101]⟩ i) fun i1 => if f = 0 then .error (5, i) else bnd (defP qs i1) fun r => srcP f (D ++ [r.1]) r.2 else .ok D
end
/-! ### Places -/
def tkAt (ts : List Tk) (L i : Nat) : Tk := if i < ts.length then ts.getD i tk0 else ⟨0, ⟨#[]⟩, 0, L, 0⟩
def plc (ts : List Tk) (L i : Nat) : Nat := (tkAt ts L i).a
def ndP (ts : List Tk) (L : Nat) (x : Nd) : Nd := { x with a := plc ts L x.a.toNat }
def dfP (ts : List Tk) (L : Nat) (d : Df) : Df := ⟨d.name, plc ts L d.a.toNat, d.ty.map (ndP ts L)⟩
/-- Parse's answer. -/
def prsP (ts : List Tk) (L : Nat) : List Df × Nat × Nat :=
  match srcP (ts.map core) 257 [] 0 with
  | .ok D => (D.map (dfP ts L), 0, 0)
  | .error e => ([], e.1, plc ts L e.2)
def prsT (s : ByteArray) : List Df × Nat × Nat := if (cutT s).2.1 = 0 then prsP (cutT s).1 s.size else ([], (cutT s).2.1, (cutT s).2.2)
theorem core_at (ts : List Tk) (L i : Nat) : qAt (ts.map core) i = core (tkAt ts L i) := by
  unfold qAt tkAt
  by_cases h : i < ts.length
  · rw [if_pos h]
    simp [List.getD, h]
  · rw [if_neg h]
    simp [List.getD, h, core, q0]
/-! ### It ends behind its beginning -/
theorem tak_ok {qs : List Q} {m : Q → Bool} {i j : Nat} (h : tak qs m i = .ok j) : j = i + 1 ∧ m (qAt qs i) = true := by
  unfold tak at h
  split at h
  · rename_i hm; injection h with h; exact ⟨h.symm, hm⟩
  · cases h
theorem bnd_is {α β : Type} {r : PR α} {f : α → PR β} {b : β} (h : bnd r f = .ok b) : ∃ a, r = .ok a ∧ f a = .ok b := by
  cases r with
  | ok a => exact ⟨a, rfl, h⟩
  | error e => cases h
end Go.Proofs.YtafljgjkcnbhbaaDoor

/- The grammar by a stack of what must still come; it answers as the parser does. -/
namespace Go.Proofs.YtafljgjkcnbhbaaDoor
set_option linter.unusedVariables false

/-- What must come, the next one first; the next token's number; how many parts each open type has; how many definitions. -/
structure St where
  s : List Nat
  i : Nat
  o : List Nat
  d : Nat
def insideM (k : Int) : List Nat :=
  if k = 4 ∨ k = 5 then [70, 3, 54, 2, 72, 8] else if k = 6 then [70, 3, 72, 8] else if k = 7 then [133, 5, 7, 8] else if k = 8 then [133, 4, 6, 8] else []
section
variable (qs : List Q)
def stepM (t : St) : PR St :=
  match t.s with
  | [] => .ok t
  | w :: S =>
    if w = 8 then .ok ⟨S, t.i, t.o.tail, t.d⟩
    else if w = 0 then
      (if t.i < qs.length then (if isT ⟨#[116, 121, 112, 101]⟩ (qAt qs t.i) then (if 256 ≤ t.d then .error (5, t.i) else .ok ⟨1 :: 71 :: 3 :: 69 :: 0 :: S, t.i + 1, t.o, t.d + 1⟩) else .error (60, t.i)) else .ok ⟨S, t.i, t.o, t.d⟩)
    else if w = 1 then (if isNm (qAt qs t.i) then .ok ⟨S, t.i + 1, t.o, t.d⟩ else .error (60, t.i))
    else if w = 2 then (if isNum (qAt qs t.i) then .ok ⟨S, t.i + 1, t.o, t.d⟩ else .error (60, t.i))
    else if w = 3 then
      (if (beg (qAt qs t.i).t).1 = 0 then .error (60, t.i) else if 16 < t.o.length then .error (61, t.i)
       else .ok ⟨insideM (beg (qAt qs t.i).t).1 ++ S, t.i + 1, if insideM (beg (qAt qs t.i).t).1 = [] then t.o else 0 :: t.o, t.d⟩)
    else if w = 4 then (if isNm (qAt qs t.i) then (if 64 ≤ t.o.headD 0 then .error (5, t.i) else .ok ⟨68 :: 3 :: S, t.i + 1, (t.o.headD 0 + 1) :: t.o.tail, t.d⟩) else .error (60, t.i))
    else if w = 5 then (if isNum (qAt qs t.i) then (if 64 ≤ t.o.headD 0 then .error (5, t.i) else .ok ⟨68 :: 3 :: S, t.i + 1, (t.o.headD 0 + 1) :: t.o.tail, t.d⟩) else .error (60, t.i))
    else if w = 6 then (if isT ⟨#[44]⟩ (qAt qs t.i) then .ok ⟨4 :: 6 :: S, t.i + 1, t.o, t.d⟩ else if isT ⟨#[125]⟩ (qAt qs t.i) then .ok ⟨S, t.i + 1, t.o, t.d⟩ else .error (60, t.i))
    else if w = 7 then (if isT ⟨#[44]⟩ (qAt qs t.i) then .ok ⟨5 :: 7 :: S, t.i + 1, t.o, t.d⟩ else if isT ⟨#[125]⟩ (qAt qs t.i) then .ok ⟨S, t.i + 1, t.o, t.d⟩ else .error (60, t.i))
    else (if isT ⟨#[UInt8.ofNat (w - 10)]⟩ (qAt qs t.i) then .ok ⟨S, t.i + 1, t.o, t.d⟩ else .error (60, t.i))
def runM : Nat → St → PR St
  | 0, t => .ok t
  | n + 1, t => bnd (stepM qs t) (runM n)
def Ends (t : St) (r : PR St) : Prop := ∃ n, runM qs n t = r
end
section
variable {qs : List Q}
theorem runM_add : ∀ (n m : Nat) (t : St), runM qs (n + m) t = bnd (runM qs n t) (runM qs m)
  | 0, m, t => by rw [Nat.zero_add]; rfl
  | n + 1, m, t => by
    rw [Nat.add_right_comm, runM, runM]
    cases h : stepM qs t with
    | ok u => rw [bnd_ok, bnd_ok]; exact runM_add n m u
    | error e => rfl
theorem Ends.refl (t : St) : Ends qs t (.ok t) := ⟨0, rfl⟩
theorem Ends.trans {t u : St} {r : PR St} (h : Ends qs t (.ok u)) (k : Ends qs u r) : Ends qs t r := by
  obtain ⟨n, hn⟩ := h
  obtain ⟨m, hm⟩ := k
  exact ⟨n + m, by rw [runM_add, hn, bnd_ok, hm]⟩
theorem Ends.step {t u : St} {r : PR St} (h : stepM qs t = .ok u) (k : Ends qs u r) : Ends qs t r := by
  obtain ⟨m, hm⟩ := k
  exact ⟨m + 1, by rw [runM, h, bnd_ok, hm]⟩
theorem Ends.stop {t : St} {e : Nat × Nat} (h : stepM qs t = .error e) : Ends qs t (.error e) := ⟨1, by rw [runM, h]; rfl⟩
/-- What comes of a part's answer. -/
def resM {α : Type} (r : PR α) (f : α → St) : PR St := bnd r (fun a => .ok (f a))
theorem ends_bnd {α β : Type} {t : St} {r : PR α} {g : α → PR β} {f : α → St} {k : β → St} (h : Ends qs t (resM r f)) (h2 : ∀ a, r = .ok a → Ends qs (f a) (resM (g a) k)) : Ends qs t (resM (bnd r g) k) := by
  cases r with
  | ok a => exact h.trans (h2 a rfl)
  | error e => exact h
theorem ends_txt (w b : Nat) (hw : 10 < w) (hb : b = w - 10) (S : List Nat) (i : Nat) (o : List Nat) (d : Nat) : Ends qs ⟨w :: S, i, o, d⟩ (resM (txt qs ⟨#[UInt8.ofNat b]⟩ i) (fun j => ⟨S, j, o, d⟩)) := by
  have hs : stepM qs ⟨w :: S, i, o, d⟩ = (if isT ⟨#[UInt8.ofNat (w - 10)]⟩ (qAt qs i) then .ok ⟨S, i + 1, o, d⟩ else .error (60, i)) := by
    simp only [stepM]
    rw [if_neg (by omega), if_neg (by omega), if_neg (by omega), if_neg (by omega), if_neg (by omega), if_neg (by omega), if_neg (by omega), if_neg (by omega), if_neg (by omega)]
  subst hb
  unfold txt tak
  cases h : isT ⟨#[UInt8.ofNat (w - 10)]⟩ (qAt qs i) with
  | true => rw [h] at hs; exact .step hs (.refl _)
  | false => rw [h] at hs; exact .stop hs
theorem ends_num (S : List Nat) (i : Nat) (o : List Nat) (d : Nat) : Ends qs ⟨2 :: S, i, o, d⟩ (resM (tak qs isNum i) (fun j => ⟨S, j, o, d⟩)) := by
  have hs : stepM qs ⟨2 :: S, i, o, d⟩ = (if isNum (qAt qs i) then .ok ⟨S, i + 1, o, d⟩ else .error (60, i)) := rfl
  unfold tak
  cases h : isNum (qAt qs i) with
  | true => rw [h] at hs; exact .step hs (.refl _)
  | false => rw [h] at hs; exact .stop hs
theorem ends_nm (S : List Nat) (i : Nat) (o : List Nat) (d : Nat) : Ends qs ⟨1 :: S, i, o, d⟩ (resM (tak qs isNm i) (fun j => ⟨S, j, o, d⟩)) := by
  have hs : stepM qs ⟨1 :: S, i, o, d⟩ = (if isNm (qAt qs i) then .ok ⟨S, i + 1, o, d⟩ else .error (60, i)) := rfl
  unfold tak
  cases h : isNm (qAt qs i) with
  | true => rw [h] at hs; exact .step hs (.refl _)
  | false => rw [h] at hs; exact .stop hs
/-- A type is read as the parser reads it. -/
def NodeM (qs : List Q) (f : Nat) : Prop := ∀ (x : Nd) (S : List Nat) (i : Nat) (o : List Nat) (d : Nat), o.length + f = 17 → Ends qs ⟨3 :: S, i, o, d⟩ (resM (nodeP qs f x i) (fun r => ⟨S, r.2, o, d⟩))
theorem ends_part {f : Nat} (hN : NodeM qs f) (x : Nd) (S : List Nat) (i : Nat) (o : List Nat) (d : Nat) (ho : o.length + f = 17) : Ends qs ⟨68 :: 3 :: S, i, o, d⟩ (resM (partP qs (nodeP qs f) x true i) (fun r => ⟨S, r.2, o, d⟩)) := by
  unfold partP
  rw [if_pos rfl]
  exact ends_bnd (ends_txt 68 58 (by omega) rfl _ i o d) (fun j _ => hN x S j o d ho)
theorem ends_arm {f : Nat} (hN : NodeM qs f) (S : List Nat) (c i : Nat) (o : List Nat) (d : Nat) (ho : o.length + 1 + f = 17) : Ends qs ⟨5 :: S, i, c :: o, d⟩ (resM (armP qs (nodeP qs f) c i) (fun r => ⟨S, r.2, (c + 1) :: o, d⟩)) := by
  have hs : stepM qs ⟨5 :: S, i, c :: o, d⟩ = (if isNum (qAt qs i) then (if 64 ≤ c then .error (5, i) else .ok ⟨68 :: 3 :: S, i + 1, (c + 1) :: o, d⟩) else .error (60, i)) := rfl
  unfold armP tak
  cases h : isNum (qAt qs i) with
  | false => rw [h] at hs; exact .stop hs
  | true =>
    rw [h, if_pos rfl] at hs
    rw [if_pos rfl, bnd_ok]
    by_cases hc : 64 ≤ c
    · rw [if_pos hc] at hs
      unfold partP
      rw [decide_eq_false (by omega), if_neg (by decide)]
      exact .stop hs
    · rw [if_neg hc] at hs
      rw [decide_eq_true (by omega)]
      exact .step hs (ends_part hN _ S _ _ d (by simp; omega))
theorem ends_field {f : Nat} (hN : NodeM qs f) (S : List Nat) (c i : Nat) (o : List Nat) (d : Nat) (ho : o.length + 1 + f = 17) : Ends qs ⟨4 :: S, i, c :: o, d⟩ (resM (fieldP qs (nodeP qs f) c i) (fun r => ⟨S, r.2, (c + 1) :: o, d⟩)) := by
  have hs : stepM qs ⟨4 :: S, i, c :: o, d⟩ = (if isNm (qAt qs i) then (if 64 ≤ c then .error (5, i) else .ok ⟨68 :: 3 :: S, i + 1, (c + 1) :: o, d⟩) else .error (60, i)) := rfl
  unfold fieldP tak
  cases h : isNm (qAt qs i) with
  | false => rw [h] at hs; exact .stop hs
  | true =>
    rw [h, if_pos rfl] at hs
    rw [if_pos rfl, bnd_ok]
    by_cases hc : 64 ≤ c
    · rw [if_pos hc] at hs
      unfold partP
      rw [decide_eq_false (by omega), if_neg (by decide)]
      exact .stop hs
    · rw [if_neg hc] at hs
      rw [decide_eq_true (by omega)]
      exact .step hs (ends_part hN _ S _ _ d (by simp; omega))
theorem one_lt {sub : Nd → Nat → PR (List Nd × Nat)} {c i : Nat} {y : List Nd × Nat} (h : armP qs sub c i = .ok y ∨ fieldP qs sub c i = .ok y) : c < 64 := by
  have key : ∀ (x : Nd) (j : Nat) (y : List Nd × Nat), partP qs sub x (decide (c < 64)) j = .ok y → c < 64 := fun x j y h => by
    unfold partP at h
    by_cases hc : c < 64
    · exact hc
    · rw [decide_eq_false hc, if_neg (by decide)] at h
      cases h
  rcases h with h | h
  · unfold armP at h
    obtain ⟨a, _, h2⟩ := bnd_is h
    exact key _ _ _ h2
  · unfold fieldP at h
    obtain ⟨a, _, h2⟩ := bnd_is h
    exact key _ _ _ h2
theorem ends_more (one : Nat → Nat → PR (List Nd × Nat)) (a b : Nat) (hab : a = 5 ∧ b = 7 ∨ a = 4 ∧ b = 6) (o : List Nat) (d : Nat) (h1 : ∀ S c i, Ends qs ⟨a :: S, i, c :: o, d⟩ (resM (one c i) (fun r => ⟨S, r.2, (c + 1) :: o, d⟩))) (h2 : ∀ c i y, one c i = .ok y → c < 64) (S : List Nat) :
    ∀ (f c : Nat) (N : List Nd) (i : Nat), f + c = 65 → c ≤ 64 → Ends qs ⟨b :: S, i, c :: o, d⟩ (resM (moreP qs one f c N i) (fun r => ⟨S, r.2.2, r.2.1 :: o, d⟩)) := by
  intro f
  induction f with
  | zero => intro c N i hf hc; omega
  | succ f ih =>
    intro c N i hf hc
    have hs : stepM qs ⟨b :: S, i, c :: o, d⟩ = (if isT ⟨#[44]⟩ (qAt qs i) then .ok ⟨a :: b :: S, i + 1, c :: o, d⟩ else if isT ⟨#[125]⟩ (qAt qs i) then .ok ⟨S, i + 1, c :: o, d⟩ else .error (60, i)) := by
      rcases hab with ⟨rfl, rfl⟩ | ⟨rfl, rfl⟩ <;> rfl
    unfold moreP
    cases h : isT ⟨#[44]⟩ (qAt qs i) with
    | true =>
      rw [h, if_pos rfl] at hs
      rw [if_pos rfl]
      refine .step hs (ends_bnd (h1 (b :: S) c (i + 1)) (fun y hy => ?_))
      have := h2 c (i + 1) y hy
      exact ih (c + 1) _ _ (by omega) (by omega)
    | false =>
      rw [h, if_neg (by decide)] at hs
      rw [if_neg (by decide)]
      unfold txt tak
      cases h3 : isT ⟨#[125]⟩ (qAt qs i) with
      | true => rw [h3] at hs; exact .step hs (.refl _)
      | false => rw [h3] at hs; exact .stop hs
theorem ends_parts (one : Nat → Nat → PR (List Nd × Nat)) (a b : Nat) (hab : a = 5 ∧ b = 7 ∨ a = 4 ∧ b = 6) (o : List Nat) (d : Nat) (h1 : ∀ S c i, Ends qs ⟨a :: S, i, c :: o, d⟩ (resM (one c i) (fun r => ⟨S, r.2, (c + 1) :: o, d⟩))) (h2 : ∀ c i y, one c i = .ok y → c < 64) (S : List Nat) (i : Nat) :
    Ends qs ⟨133 :: a :: b :: S, i, 0 :: o, d⟩ (resM (partsP qs one i) (fun r => ⟨S, r.2.2, r.2.1 :: o, d⟩)) := by
  unfold partsP
  refine ends_bnd (ends_txt 133 123 (by omega) rfl _ i _ d) (fun j _ => ends_bnd (h1 (b :: S) 0 j) (fun y _ => ?_))
  exact ends_more one a b hab o d h1 h2 S 64 1 y.1 y.2 (by omega) (by omega)
theorem ends_shut {α : Type} {t : St} {r : PR α} {f : α → St} {k : α → St} (h : Ends qs t (resM r f)) (hs : ∀ a, stepM qs (f a) = .ok (k a)) : Ends qs t (resM r k) := by
  cases r with
  | ok a => exact h.trans (.step (hs a) (.refl _))
  | error e => exact h
theorem node_m : ∀ f, NodeM qs f := by
  intro f
  induction f with
  | zero =>
    intro x S i o d ho
    have hs : stepM qs ⟨3 :: S, i, o, d⟩ = (if (beg (qAt qs i).t).1 = 0 then .error (60, i) else if 16 < o.length then .error (61, i) else .ok ⟨insideM (beg (qAt qs i).t).1 ++ S, i + 1, if insideM (beg (qAt qs i).t).1 = [] then o else 0 :: o, d⟩) := rfl
    unfold nodeP
    by_cases hk : (beg (qAt qs i).t).1 = 0
    · rw [if_pos hk] at hs ⊢; exact .stop hs
    · rw [if_neg hk] at hs ⊢
      rw [if_pos (by omega)] at hs
      exact .stop hs
  | succ f ih =>
    intro x S i o d ho
    have hs : stepM qs ⟨3 :: S, i, o, d⟩ = (if (beg (qAt qs i).t).1 = 0 then .error (60, i) else if 16 < o.length then .error (61, i) else .ok ⟨insideM (beg (qAt qs i).t).1 ++ S, i + 1, if insideM (beg (qAt qs i).t).1 = [] then o else 0 :: o, d⟩) := rfl
    unfold nodeP
    by_cases hk : (beg (qAt qs i).t).1 = 0
    · rw [if_pos hk] at hs ⊢; exact .stop hs
    rw [if_neg hk] at hs ⊢
    rw [if_neg (by omega)] at hs
    generalize (beg (qAt qs i).t).1 = k at *
    generalize (beg (qAt qs i).t).2 = n at *
    unfold bodyP
    have hI : ∀ S i d, Ends qs ⟨3 :: S, i, 0 :: o, d⟩ (resM (nodeP qs f { nd0 with a := i } i) (fun r => ⟨S, r.2, 0 :: o, d⟩)) := fun S i d => ih _ S i _ d (by simp; omega)
    by_cases h9 : k = 9
    · subst h9
      exact .step hs (.refl _)
    rw [if_neg h9]
    by_cases h45 : k = 4 ∨ k = 5
    · rw [if_pos h45]
      have hin : insideM k = [70, 3, 54, 2, 72, 8] := by unfold insideM; rw [if_pos h45]
      rw [hin, if_neg (by simp)] at hs
      refine .step hs ?_
      refine ends_bnd (f := fun r => (⟨8 :: S, r.2.2, 0 :: o, d⟩ : St)) ?_ (fun y _ => .step rfl (.refl _))
      unfold itemsP
      refine ends_bnd (ends_txt 70 60 (by omega) rfl _ _ _ d) (fun i1 _ => ends_bnd (hI _ i1 d) (fun y _ => ends_bnd (ends_txt 54 44 (by omega) rfl _ _ _ d) (fun i3 _ => ends_bnd (ends_num _ i3 _ d) (fun i4 _ => ends_bnd (ends_txt 72 62 (by omega) rfl _ i4 _ d) (fun i5 _ => .refl _)))))
    rw [if_neg h45]
    by_cases h6 : k = 6
    · rw [if_pos h6]
      have hin : insideM k = [70, 3, 72, 8] := by unfold insideM; rw [if_neg h45, if_pos h6]
      rw [hin, if_neg (by simp)] at hs
      refine .step hs ?_
      refine ends_bnd (f := fun r => (⟨8 :: S, r.2, 0 :: o, d⟩ : St)) ?_ (fun y _ => .step rfl (.refl _))
      unfold optionP
      exact ends_bnd (ends_txt 70 60 (by omega) rfl _ _ _ d) (fun i1 _ => ends_bnd (hI _ i1 d) (fun y _ => ends_bnd (ends_txt 72 62 (by omega) rfl _ _ _ d) (fun i3 _ => .refl _)))
    rw [if_neg h6]
    by_cases h7 : k = 7
    · rw [if_pos h7]
      have hin : insideM k = [133, 5, 7, 8] := by unfold insideM; rw [if_neg h45, if_neg h6, if_pos h7]
      rw [hin, if_neg (by simp)] at hs
      refine .step hs ?_
      exact ends_bnd (ends_parts (armP qs (nodeP qs f)) 5 7 (.inl ⟨rfl, rfl⟩) o d (fun S c i => ends_arm ih S c i o d (by omega)) (fun c i y h => one_lt (.inl h)) (8 :: S) (i + 1)) (fun y _ => .step rfl (.refl _))
    rw [if_neg h7]
    by_cases h8 : k = 8
    · rw [if_pos h8]
      have hin : insideM k = [133, 4, 6, 8] := by unfold insideM; rw [if_neg h45, if_neg h6, if_neg h7, if_pos h8]
      rw [hin, if_neg (by simp)] at hs
      refine .step hs ?_
      exact ends_bnd (ends_parts (fieldP qs (nodeP qs f)) 4 6 (.inr ⟨rfl, rfl⟩) o d (fun S c i => ends_field ih S c i o d (by omega)) (fun c i y h => one_lt (.inr h)) (8 :: S) (i + 1)) (fun y _ => .step rfl (.refl _))
    rw [if_neg h8]
    have hin : insideM k = [] := by unfold insideM; rw [if_neg h45, if_neg h6, if_neg h7, if_neg h8]
    rw [hin, if_pos rfl] at hs
    exact .step hs (.refl _)
/-- The whole: the machine fails just as the parser does. -/
theorem src_m : ∀ (f : Nat) (D : List Df) (i : Nat), f + D.length = 257 → D.length ≤ 256 → ∃ t, t.s = [] ∧ Ends qs ⟨[0], i, [], D.length⟩ (resM (srcP qs f D i) (fun _ => t)) := by
  intro f
  induction f with
  | zero => intro D i h1 h2; omega
  | succ f ih =>
    intro D i h1 h2
    have hs : stepM qs ⟨[0], i, [], D.length⟩ = (if i < qs.length then (if isT ⟨#[116, 121, 112, 101]⟩ (qAt qs i) then (if 256 ≤ D.length then .error (5, i) else .ok ⟨[1, 71, 3, 69, 0], i + 1, [], D.length + 1⟩) else .error (60, i)) else .ok ⟨[], i, [], D.length⟩) := rfl
    unfold srcP
    by_cases hi : i < qs.length
    · rw [if_pos hi] at hs ⊢
      unfold txt tak
      cases ht : isT ⟨#[116, 121, 112, 101]⟩ (qAt qs i) with
      | false =>
        rw [ht] at hs
        exact ⟨⟨[], 0, [], 0⟩, rfl, .stop hs⟩
      | true =>
        rw [ht, if_pos rfl] at hs
        rw [if_pos rfl, bnd_ok]
        by_cases hf : f = 0
        · rw [if_pos (by omega)] at hs
          rw [if_pos hf]
          exact ⟨⟨[], 0, [], 0⟩, rfl, .stop hs⟩
        · rw [if_neg (by omega)] at hs
          rw [if_neg hf]
          have hD : Ends qs ⟨[1, 71, 3, 69, 0], i + 1, [], D.length + 1⟩ (resM (defP qs (i + 1)) (fun r => ⟨[0], r.2, [], D.length + 1⟩)) := by
            unfold defP
            exact ends_bnd (ends_nm _ _ _ _) (fun i1 _ => ends_bnd (ends_txt 71 61 (by omega) rfl _ _ _ _) (fun i2 _ => ends_bnd (node_m 17 _ _ _ _ _ rfl) (fun y _ => ends_bnd (ends_txt 69 59 (by omega) rfl _ _ _ _) (fun i4 _ => .refl _))))
          cases hd : defP qs (i + 1) with
          | error e =>
            rw [hd] at hD
            exact ⟨⟨[], 0, [], 0⟩, rfl, .step hs hD⟩
          | ok y =>
            rw [hd] at hD
            obtain ⟨t, ht, hE⟩ := ih (D ++ [y.1]) y.2 (by simp; omega) (by simp; omega)
            refine ⟨t, ht, .step hs (Ends.trans hD ?_)⟩
            rw [List.length_append] at hE
            exact hE
    · rw [if_neg hi] at hs ⊢
      exact ⟨_, rfl, .step hs (.refl _)⟩
end
end Go.Proofs.YtafljgjkcnbhbaaDoor

/- A text that ends too early goes on, plain. -/
namespace Go.Proofs.YtafljgjkcnbhbaaDoor
set_option linter.unusedVariables false

/-- A step, the token in hand. -/
def stepQ (q : Q) (L : Nat) (t : St) : PR St :=
  match t.s with
  | [] => .ok t
  | w :: S =>
    if w = 8 then .ok ⟨S, t.i, t.o.tail, t.d⟩
    else if w = 0 then
      (if t.i < L then (if isT ⟨#[116, 121, 112, 101]⟩ q then (if 256 ≤ t.d then .error (5, t.i) else .ok ⟨1 :: 71 :: 3 :: 69 :: 0 :: S, t.i + 1, t.o, t.d + 1⟩) else .error (60, t.i)) else .ok ⟨S, t.i, t.o, t.d⟩)
    else if w = 1 then (if isNm q then .ok ⟨S, t.i + 1, t.o, t.d⟩ else .error (60, t.i))
    else if w = 2 then (if isNum q then .ok ⟨S, t.i + 1, t.o, t.d⟩ else .error (60, t.i))
    else if w = 3 then
      (if (beg q.t).1 = 0 then .error (60, t.i) else if 16 < t.o.length then .error (61, t.i)
       else .ok ⟨insideM (beg q.t).1 ++ S, t.i + 1, if insideM (beg q.t).1 = [] then t.o else 0 :: t.o, t.d⟩)
    else if w = 4 then (if isNm q then (if 64 ≤ t.o.headD 0 then .error (5, t.i) else .ok ⟨68 :: 3 :: S, t.i + 1, (t.o.headD 0 + 1) :: t.o.tail, t.d⟩) else .error (60, t.i))
    else if w = 5 then (if isNum q then (if 64 ≤ t.o.headD 0 then .error (5, t.i) else .ok ⟨68 :: 3 :: S, t.i + 1, (t.o.headD 0 + 1) :: t.o.tail, t.d⟩) else .error (60, t.i))
    else if w = 6 then (if isT ⟨#[44]⟩ q then .ok ⟨4 :: 6 :: S, t.i + 1, t.o, t.d⟩ else if isT ⟨#[125]⟩ q then .ok ⟨S, t.i + 1, t.o, t.d⟩ else .error (60, t.i))
    else if w = 7 then (if isT ⟨#[44]⟩ q then .ok ⟨5 :: 7 :: S, t.i + 1, t.o, t.d⟩ else if isT ⟨#[125]⟩ q then .ok ⟨S, t.i + 1, t.o, t.d⟩ else .error (60, t.i))
    else (if isT ⟨#[UInt8.ofNat (w - 10)]⟩ q then .ok ⟨S, t.i + 1, t.o, t.d⟩ else .error (60, t.i))
theorem stepM_eq (qs : List Q) (t : St) : stepM qs t = stepQ (qAt qs t.i) qs.length t := rfl
def costI (w : Nat) : Nat := if w = 0 ∨ w = 8 then 0 else if w = 4 ∨ w = 5 then 3 else 1
def costS : List Nat → Nat
  | [] => 0
  | w :: S => costI w + costS S
def n8 : List Nat → Nat
  | [] => 0
  | w :: S => (if w = 8 then 1 else 0) + n8 S
def vItems : List Nat := [1, 2, 3, 4, 5, 6, 7, 54, 68, 69, 70, 71, 72, 133]
def okS : List Nat → Prop
  | [] => True
  | w :: S => okS S ∧ costS (w :: S) ≤ 4 + 5 * n8 (w :: S) ∧ (w = 8 → costS S ≤ 3 + 5 * n8 S) ∧ (w = 6 ∨ w = 7 → ∃ S2, S = 8 :: S2) ∧ (w = 4 ∨ w = 5 → ∃ x S2, S = x :: 8 :: S2) ∧ (w = 0 → S = []) ∧ (w = 0 ∨ w = 8 ∨ w ∈ vItems)
def InvM (L : Nat) (t : St) : Prop := okS t.s ∧ n8 t.s = t.o.length ∧ t.o.length ≤ 17 ∧ t.i ≤ L
/-- It errs in none but these ways; else it goes on, in order. -/
theorem stepQ_inv {q : Q} {L : Nat} {t : St} (h : InvM L t) (hq : t.i < L ∨ q = q0) :
    match stepQ q L t with
    | .ok u => InvM L u ∧ t.i ≤ u.i
    | .error e => e.2 = t.i ∧ (e.1 = 5 ∨ e.1 = 60 ∨ e.1 = 61) := by
  obtain ⟨S0, i, o, d⟩ := t
  obtain ⟨h1, h2, h3, h4⟩ := h
  simp only at h1 h2 h3 h4 hq
  cases S0 with
  | nil => exact ⟨⟨h1, h2, h3, h4⟩, Nat.le_refl _⟩
  | cons w S =>
    obtain ⟨k1, k2, k3, k4, k45, k5, k6⟩ := h1
    have hpop : ∀ u : St, w ≠ 8 → u = ⟨S, i + 1, o, d⟩ → i < L → InvM L u ∧ i ≤ u.i := fun u hw hu hl => by
      subst hu
      refine ⟨⟨k1, ?_, h3, by show i + 1 ≤ L; omega⟩, by simp⟩
      simp only [n8, if_neg hw] at h2
      simpa using h2
    have hlt : ∀ f : Q → Bool, f q0 = false → f q = true → i < L := fun f h0 hf => by
      rcases hq with hq | hq
      · exact hq
      · rw [hq, h0] at hf; cases hf
    rcases k6 with rfl | rfl | hV
    · show match (if i < L then _ else _ : PR St) with | .ok u => _ | .error e => _
      by_cases hi : i < L
      · rw [if_pos hi]
        cases isT ⟨#[116, 121, 112, 101]⟩ q with
        | false => exact ⟨rfl, .inr (.inl rfl)⟩
        | true =>
          rw [if_pos rfl]
          by_cases hd : 256 ≤ d
          · rw [if_pos hd]; exact ⟨rfl, .inl rfl⟩
          · rw [if_neg hd]
            have hS := k5 rfl
            subst hS
            simp [n8] at h2
            refine ⟨⟨by simp [okS, costS, costI, n8, vItems], by simp [n8]; omega, h3, by show i + 1 ≤ L; omega⟩, by simp⟩
      · rw [if_neg hi]
        have hS := k5 rfl
        subst hS
        simp [n8] at h2
        exact ⟨⟨trivial, by simp [n8]; omega, h3, h4⟩, Nat.le_refl _⟩
    · show InvM L ⟨S, i, o.tail, d⟩ ∧ i ≤ i
      simp only [n8, if_pos] at h2
      refine ⟨⟨k1, ?_, ?_, h4⟩, Nat.le_refl _⟩
      · cases o with
        | nil => simp at h2
        | cons a o => simp at h2 ⊢; omega
      · simp only [List.length_tail]; omega
    · simp only [vItems, List.mem_cons, List.mem_nil_iff, or_false] at hV
      rcases hV with rfl | rfl | rfl | rfl | rfl | rfl | rfl | rfl | rfl | rfl | rfl | rfl | rfl | rfl
      · show match (if isNm q then _ else _ : PR St) with | .ok u => _ | .error e => _
        cases hb : isNm q with
        | false => exact ⟨rfl, .inr (.inl rfl)⟩
        | true => exact hpop _ (by decide) rfl (hlt isNm (by decide) hb)
      · show match (if isNum q then _ else _ : PR St) with | .ok u => _ | .error e => _
        cases hb : isNum q with
        | false => exact ⟨rfl, .inr (.inl rfl)⟩
        | true => exact hpop _ (by decide) rfl (hlt isNum (by decide) hb)
      · show match (if (beg q.t).1 = 0 then _ else _ : PR St) with | .ok u => _ | .error e => _
        by_cases hk : (beg q.t).1 = 0
        · rw [if_pos hk]; exact ⟨rfl, .inr (.inl rfl)⟩
        · rw [if_neg hk]
          by_cases ho : 16 < o.length
          · rw [if_pos ho]; exact ⟨rfl, .inr (.inr rfl)⟩
          · rw [if_neg ho]
            have hl : i < L := by
              rcases hq with hq | hq
              · exact hq
              · exact absurd (by rw [hq]; decide) hk
            simp only [costS, costI, n8] at k2 h2
            refine ⟨?_, by simp⟩
            generalize (beg q.t).1 = k at *
            have hc : costS S ≤ 3 + 5 * n8 S := by simp at k2; omega
            have h2' : n8 S = o.length := by simpa using h2
            unfold insideM
            by_cases h45 : k = 4 ∨ k = 5
            · simp only [if_pos h45]
              refine ⟨?_, ?_, by simp; omega, by simp; omega⟩
              · simp [okS, costS, costI, n8, vItems]
                repeat' apply And.intro
                all_goals first | exact k1 | omega
              · simp [n8]; omega
            simp only [if_neg h45]
            by_cases h6 : k = 6
            · simp only [if_pos h6]
              refine ⟨?_, ?_, by simp; omega, by simp; omega⟩
              · simp [okS, costS, costI, n8, vItems]
                repeat' apply And.intro
                all_goals first | exact k1 | omega
              · simp [n8]; omega
            simp only [if_neg h6]
            by_cases h7 : k = 7
            · simp only [if_pos h7]
              refine ⟨?_, ?_, by simp; omega, by simp; omega⟩
              · simp [okS, costS, costI, n8, vItems]
                repeat' apply And.intro
                all_goals first | exact k1 | omega
              · simp [n8]; omega
            simp only [if_neg h7]
            by_cases h8 : k = 8
            · simp only [if_pos h8]
              refine ⟨?_, ?_, by simp; omega, by simp; omega⟩
              · simp [okS, costS, costI, n8, vItems]
                repeat' apply And.intro
                all_goals first | exact k1 | omega
              · simp [n8]; omega
            simp only [if_neg h8]
            exact ⟨k1, by simpa using h2', h3, by simp; omega⟩
      · show match (if isNm q then _ else _ : PR St) with | .ok u => _ | .error e => _
        cases hb : isNm q with
        | false => exact ⟨rfl, .inr (.inl rfl)⟩
        | true =>
          rw [if_pos rfl]
          have hl := hlt isNm (by decide) hb
          by_cases hd : 64 ≤ o.headD 0
          · rw [if_pos hd]; exact ⟨rfl, .inl rfl⟩
          · rw [if_neg hd]
            simp only [costS, costI, n8] at k2 h2
            have hS1 : 1 ≤ n8 S := by obtain ⟨x4, S4, rfl⟩ := k45 (by simp); simp [n8]; omega
            simp at k2 h2
            refine ⟨⟨?_, ?_, ?_, by show i + 1 ≤ L; omega⟩, by simp⟩
            · simp [okS, costS, costI, n8, vItems]
              repeat' apply And.intro
              all_goals first | exact k1 | omega
            · cases o with
              | nil => exfalso; simp at h2; omega
              | cons a o => simp [n8] at h2 ⊢; omega
            · cases o with
              | nil => simp
              | cons a o => simp at h3 ⊢; omega
      · show match (if isNum q then _ else _ : PR St) with | .ok u => _ | .error e => _
        cases hb : isNum q with
        | false => exact ⟨rfl, .inr (.inl rfl)⟩
        | true =>
          rw [if_pos rfl]
          have hl := hlt isNum (by decide) hb
          by_cases hd : 64 ≤ o.headD 0
          · rw [if_pos hd]; exact ⟨rfl, .inl rfl⟩
          · rw [if_neg hd]
            simp only [costS, costI, n8] at k2 h2
            have hS1 : 1 ≤ n8 S := by obtain ⟨x4, S4, rfl⟩ := k45 (by simp); simp [n8]; omega
            simp at k2 h2
            refine ⟨⟨?_, ?_, ?_, by show i + 1 ≤ L; omega⟩, by simp⟩
            · simp [okS, costS, costI, n8, vItems]
              repeat' apply And.intro
              all_goals first | exact k1 | omega
            · cases o with
              | nil => exfalso; simp at h2; omega
              | cons a o => simp [n8] at h2 ⊢; omega
            · cases o with
              | nil => simp
              | cons a o => simp at h3 ⊢; omega
      · show match (if isT ⟨#[44]⟩ q then _ else _ : PR St) with | .ok u => _ | .error e => _
        cases hb : isT ⟨#[44]⟩ q with
        | true =>
          rw [if_pos rfl]
          have hl := hlt (isT ⟨#[44]⟩) (by decide) hb
          obtain ⟨S2, rfl⟩ := k4 (.inl rfl)
          have kk := k1.2.2.1 rfl
          simp only [costS, costI, n8] at k2 h2
          simp at k2 h2
          refine ⟨⟨?_, ?_, h3, by show i + 1 ≤ L; omega⟩, by simp⟩
          · simp only [okS] at k1 ⊢
            simp [costS, costI, n8, vItems] at k1 ⊢
            repeat' apply And.intro
            all_goals first | exact k1 | omega | exact k1.1 | exact k1.2.1
          · simp [n8]; omega
        | false =>
          rw [if_neg (by decide)]
          cases hb2 : isT ⟨#[125]⟩ q with
          | false => exact ⟨rfl, .inr (.inl rfl)⟩
          | true => exact hpop _ (by decide) rfl (hlt (isT ⟨#[125]⟩) (by decide) hb2)
      · show match (if isT ⟨#[44]⟩ q then _ else _ : PR St) with | .ok u => _ | .error e => _
        cases hb : isT ⟨#[44]⟩ q with
        | true =>
          rw [if_pos rfl]
          have hl := hlt (isT ⟨#[44]⟩) (by decide) hb
          obtain ⟨S2, rfl⟩ := k4 (.inr rfl)
          have kk := k1.2.2.1 rfl
          simp only [costS, costI, n8] at k2 h2
          simp at k2 h2
          refine ⟨⟨?_, ?_, h3, by show i + 1 ≤ L; omega⟩, by simp⟩
          · simp only [okS] at k1 ⊢
            simp [costS, costI, n8, vItems] at k1 ⊢
            repeat' apply And.intro
            all_goals first | exact k1 | omega | exact k1.1 | exact k1.2.1
          · simp [n8]; omega
        | false =>
          rw [if_neg (by decide)]
          cases hb2 : isT ⟨#[125]⟩ q with
          | false => exact ⟨rfl, .inr (.inl rfl)⟩
          | true => exact hpop _ (by decide) rfl (hlt (isT ⟨#[125]⟩) (by decide) hb2)
      · show match (if isT ⟨#[44]⟩ q then _ else _ : PR St) with | .ok u => _ | .error e => _
        cases hb : isT ⟨#[44]⟩ q with
        | false => exact ⟨rfl, .inr (.inl rfl)⟩
        | true => exact hpop _ (by decide) rfl (hlt (isT ⟨#[44]⟩) (by decide) hb)
      · show match (if isT ⟨#[58]⟩ q then _ else _ : PR St) with | .ok u => _ | .error e => _
        cases hb : isT ⟨#[58]⟩ q with
        | false => exact ⟨rfl, .inr (.inl rfl)⟩
        | true => exact hpop _ (by decide) rfl (hlt (isT ⟨#[58]⟩) (by decide) hb)
      · show match (if isT ⟨#[59]⟩ q then _ else _ : PR St) with | .ok u => _ | .error e => _
        cases hb : isT ⟨#[59]⟩ q with
        | false => exact ⟨rfl, .inr (.inl rfl)⟩
        | true => exact hpop _ (by decide) rfl (hlt (isT ⟨#[59]⟩) (by decide) hb)
      · show match (if isT ⟨#[60]⟩ q then _ else _ : PR St) with | .ok u => _ | .error e => _
        cases hb : isT ⟨#[60]⟩ q with
        | false => exact ⟨rfl, .inr (.inl rfl)⟩
        | true => exact hpop _ (by decide) rfl (hlt (isT ⟨#[60]⟩) (by decide) hb)
      · show match (if isT ⟨#[61]⟩ q then _ else _ : PR St) with | .ok u => _ | .error e => _
        cases hb : isT ⟨#[61]⟩ q with
        | false => exact ⟨rfl, .inr (.inl rfl)⟩
        | true => exact hpop _ (by decide) rfl (hlt (isT ⟨#[61]⟩) (by decide) hb)
      · show match (if isT ⟨#[62]⟩ q then _ else _ : PR St) with | .ok u => _ | .error e => _
        cases hb : isT ⟨#[62]⟩ q with
        | false => exact ⟨rfl, .inr (.inl rfl)⟩
        | true => exact hpop _ (by decide) rfl (hlt (isT ⟨#[62]⟩) (by decide) hb)
      · show match (if isT ⟨#[123]⟩ q then _ else _ : PR St) with | .ok u => _ | .error e => _
        cases hb : isT ⟨#[123]⟩ q with
        | false => exact ⟨rfl, .inr (.inl rfl)⟩
        | true => exact hpop _ (by decide) rfl (hlt (isT ⟨#[123]⟩) (by decide) hb)
end Go.Proofs.YtafljgjkcnbhbaaDoor

/- A text that ends too early: one token more. -/
namespace Go.Proofs.YtafljgjkcnbhbaaDoor
set_option linter.unusedVariables false

section
variable {qs : List Q}
theorem run_nil : ∀ (n : Nat) (t : St), t.s = [] → runM qs n t = .ok t
  | 0, t, h => rfl
  | n + 1, t, h => by
    have hs : stepM qs t = .ok t := by unfold stepM; rw [h]
    rw [runM, hs, bnd_ok]
    exact run_nil n t h
theorem run_err : ∀ (n : Nat) (t : St) (e : Nat × Nat), runM qs n t = .error e → ∃ m u, runM qs m t = .ok u ∧ stepM qs u = .error e
  | 0, t, e, h => by cases h
  | n + 1, t, e, h => by
    rw [runM] at h
    cases hs : stepM qs t with
    | error x =>
      rw [hs] at h
      injection h with h
      subst h
      exact ⟨0, t, rfl, hs⟩
    | ok u =>
      rw [hs, bnd_ok] at h
      obtain ⟨m, v, h1, h2⟩ := run_err n u e h
      exact ⟨m + 1, v, by rw [runM, hs, bnd_ok, h1], h2⟩
theorem ends_det {t : St} {e : Nat × Nat} {r : PR St} (h : Ends qs t (.error e)) (k : Ends qs t r) (hr : ∀ u, r = .ok u → u.s = []) : r = .error e := by
  obtain ⟨n, hn⟩ := h
  obtain ⟨m, hm⟩ := k
  have h1 := runM_add (qs := qs) n m t
  have h2 := runM_add (qs := qs) m n t
  rw [hn, bnd_err] at h1
  rw [hm, Nat.add_comm, h1] at h2
  cases r with
  | error x => exact h2.symm
  | ok u =>
    rw [bnd_ok, run_nil n u (hr u rfl)] at h2
    cases h2
theorem src_of {e : Nat × Nat} (h : Ends qs ⟨[0], 0, [], 0⟩ (.error e)) : srcP qs 257 [] 0 = .error e := by
  obtain ⟨t, ht, hE⟩ := src_m (qs := qs) 257 [] 0 rfl (Nat.zero_le _)
  have := ends_det h hE (fun u hu => by
    cases hs : srcP qs 257 [] 0 with
    | error x => rw [hs] at hu; cases hu
    | ok D => rw [hs] at hu; injection hu with hu; rw [← hu]; exact ht)
  cases hs : srcP qs 257 [] 0 with
  | error x => rw [hs] at this; injection this with this; rw [this]
  | ok D => rw [hs] at this; cases this
theorem src_err {e : Nat × Nat} (h : srcP qs 257 [] 0 = .error e) : Ends qs ⟨[0], 0, [], 0⟩ (.error e) := by
  obtain ⟨t, ht, hE⟩ := src_m (qs := qs) 257 [] 0 rfl (Nat.zero_le _)
  rw [h] at hE
  exact hE
theorem q_lt {i : Nat} (h : i ≤ qs.length) : i < qs.length ∨ qAt qs i = q0 := by
  rcases Nat.lt_or_ge i qs.length with h1 | h1
  · exact .inl h1
  · exact .inr (by unfold qAt; simp [List.getD, h1])
theorem run_inv : ∀ (n : Nat) (t u : St), InvM qs.length t → runM qs n t = .ok u → InvM qs.length u ∧ t.i ≤ u.i
  | 0, t, u, h, hr => by injection hr with hr; subst hr; exact ⟨h, Nat.le_refl _⟩
  | n + 1, t, u, h, hr => by
    rw [runM] at hr
    have hk := stepQ_inv h (q_lt h.2.2.2)
    rw [← stepM_eq] at hk
    cases hs : stepM qs t with
    | error x => rw [hs] at hr; cases hr
    | ok v =>
      rw [hs] at hk hr
      rw [bnd_ok] at hr
      have ih := run_inv n v u hk.1 hr
      exact ⟨ih.1, Nat.le_trans hk.2 ih.2⟩
theorem inv0 : InvM qs.length ⟨[0], 0, [], 0⟩ := ⟨by simp [okS, costS, costI, n8], rfl, by simp, Nat.zero_le _⟩
theorem qAt_app (q : Q) {i : Nat} (h : i < qs.length) : qAt (qs ++ [q]) i = qAt qs i := by unfold qAt; simp [List.getD, List.getElem?_append_left h]
theorem qAt_last (q : Q) : qAt (qs ++ [q]) qs.length = q := by unfold qAt; simp [List.getD]
/-- With no token at hand nothing but a closing or the whole's end goes on. -/
theorem step_end {L : Nat} {t u : St} {w : Nat} {S : List Nat} (hI : InvM L t) (hs : t.s = w :: S) (hi : t.i = L) (h : stepQ q0 L t = .ok u) : w = 8 ∧ u = ⟨S, t.i, t.o.tail, t.d⟩ ∨ w = 0 ∧ u.s = [] := by
  obtain ⟨S0, i, o, d⟩ := t
  simp only at hs hi
  subst hs
  obtain ⟨k1, k2, k3, k4, k45, k5, k6⟩ := hI.1
  rcases k6 with rfl | rfl | hV
  · right
    refine ⟨rfl, ?_⟩
    have h2 : stepQ q0 L ⟨0 :: S, i, o, d⟩ = (if i < L then (if isT ⟨#[116, 121, 112, 101]⟩ q0 then (if 256 ≤ d then .error (5, i) else .ok ⟨1 :: 71 :: 3 :: 69 :: 0 :: S, i + 1, o, d + 1⟩) else .error (60, i)) else .ok ⟨S, i, o, d⟩) := rfl
    rw [h2, if_neg (by omega)] at h
    injection h with h
    rw [← h]
    exact k5 rfl
  · left
    injection h with h
    exact ⟨rfl, h.symm⟩
  · exfalso
    simp only [vItems, List.mem_cons, List.mem_nil_iff, or_false] at hV
    rcases hV with rfl | rfl | rfl | rfl | rfl | rfl | rfl | rfl | rfl | rfl | rfl | rfl | rfl | rfl <;> exact absurd h (by intro h; cases h)
/-- It ends too early; so many tokens are wanting. -/
def Early (qs : List Q) (c : Nat) : Prop := ∃ m u, runM qs m ⟨[0], 0, [], 0⟩ = .ok u ∧ stepM qs u = .error (60, qs.length) ∧ costS u.s = c
theorem Early.of (h : srcP qs 257 [] 0 = .error (60, qs.length)) : ∃ c, c ≤ 89 ∧ Early qs c := by
  obtain ⟨n, hn⟩ := src_err h
  obtain ⟨m, u, h1, h2⟩ := run_err n _ _ hn
  have hI := (run_inv m _ u inv0 h1).1
  refine ⟨costS u.s, ?_, m, u, h1, h2, rfl⟩
  have h3 := hI.2.2.1
  have h4 := hI.2.1
  cases hs : u.s with
  | nil => simp [costS]
  | cons w S =>
    have h5 := hI.1
    rw [hs] at h5 h4
    have := h5.2.1
    omega
theorem Early.state {c : Nat} (h : Early qs c) : ∃ m w S o d, runM qs m ⟨[0], 0, [], 0⟩ = .ok ⟨w :: S, qs.length, o, d⟩ ∧ w ∈ vItems ∧ costI w + costS S = c ∧ InvM qs.length ⟨w :: S, qs.length, o, d⟩ := by
  obtain ⟨m, u, h1, h2, h3⟩ := h
  have hI := (run_inv m _ u inv0 h1).1
  have hk := stepQ_inv hI (q_lt hI.2.2.2)
  rw [← stepM_eq, h2] at hk
  obtain ⟨S0, i, o, d⟩ := u
  have hi : qs.length = i := hk.1
  subst hi
  cases S0 with
  | nil => cases h2
  | cons w S =>
    refine ⟨m, w, S, o, d, h1, ?_, h3, hI⟩
    rcases hI.1.2.2.2.2.2.2 with rfl | rfl | hV
    · have h4 : stepM qs ⟨0 :: S, qs.length, o, d⟩ = (if qs.length < qs.length then (if isT ⟨#[116, 121, 112, 101]⟩ (qAt qs qs.length) then (if 256 ≤ d then .error (5, qs.length) else .ok ⟨1 :: 71 :: 3 :: 69 :: 0 :: S, qs.length + 1, o, d + 1⟩) else .error (60, qs.length)) else .ok ⟨S, qs.length, o, d⟩) := rfl
      rw [h4, if_neg (Nat.lt_irrefl _)] at h2
      cases h2
    · cases h2
    · exact hV
/-- What was run is run so with a token more. -/
theorem runM_app (q : Q) : ∀ (n : Nat) (t u : St), InvM qs.length t → runM qs n t = .ok u → u.s ≠ [] → runM (qs ++ [q]) n t = .ok u
  | 0, t, u, h, hr, hn => hr
  | n + 1, t, u, h, hr, hn => by
    rw [runM] at hr ⊢
    have hk := stepQ_inv h (q_lt h.2.2.2)
    rw [← stepM_eq] at hk
    cases hs : stepM qs t with
    | error x => rw [hs] at hr; cases hr
    | ok v =>
      rw [hs] at hk hr
      rw [bnd_ok] at hr
      have hs2 : stepM (qs ++ [q]) t = .ok v := by
        cases ht : t.s with
        | nil =>
          have e1 : stepM qs t = .ok t := by unfold stepM; rw [ht]
          rw [e1] at hs
          injection hs with hs
          subst hs
          rw [run_nil n t ht] at hr
          injection hr with hr
          subst hr
          exact absurd ht hn
        | cons w S =>
          rcases Nat.lt_or_ge t.i qs.length with hl | hl
          · rw [stepM_eq] at hs ⊢
            rw [qAt_app q hl]
            have hlen : ∀ (p : Q), stepQ p (qs ++ [q]).length t = stepQ p qs.length t := fun p => by
              unfold stepQ
              rw [ht]
              simp only [List.length_append, List.length_cons, List.length_nil]
              rw [if_pos (show t.i < qs.length + (0 + 1) by omega), if_pos hl]
            rw [hlen]
            exact hs
          · have hi : t.i = qs.length := by have := h.2.2.2; omega
            have hq : qAt qs t.i = q0 := (q_lt h.2.2.2).resolve_left (by omega)
            rw [stepM_eq, hq] at hs
            rcases step_end h ht hi hs with ⟨rfl, rfl⟩ | ⟨rfl, hv⟩
            · unfold stepM; rw [ht]; rfl
            · rw [run_nil n v hv] at hr
              injection hr with hr
              subst hr
              exact absurd hv hn
      rw [hs2, bnd_ok]
      exact runM_app q n v u hk.1 hr hn
end
/-- The tokens that may be put. -/
def toks : List Q := [⟨3, ⟨#[59]⟩, 0⟩, ⟨3, ⟨#[125]⟩, 0⟩, ⟨3, ⟨#[62]⟩, 0⟩, ⟨1, ⟨#[117, 56]⟩, 0⟩, ⟨1, ⟨#[122, 122]⟩, 0⟩, ⟨2, ⟨#[]⟩, 1⟩, ⟨3, ⟨#[61]⟩, 0⟩, ⟨3, ⟨#[58]⟩, 0⟩, ⟨3, ⟨#[44]⟩, 0⟩, ⟨3, ⟨#[60]⟩, 0⟩, ⟨3, ⟨#[123]⟩, 0⟩]
/-- Which of them is put. -/
def accM (w : Nat) : Nat := if w = 6 then 1 else if w = 7 then 1 else if w = 72 then 2 else if w = 3 then 3 else if w = 1 then 4 else if w = 4 then 4 else if w = 2 then 5 else if w = 5 then 5 else if w = 71 then 6 else if w = 68 then 7 else if w = 54 then 8 else if w = 70 then 9 else if w = 133 then 10 else 0
theorem bad_tok {w : Nat} (hw : w ∈ vItems) (j : Nat) (hj : j < accM w) (L i : Nat) (S o : List Nat) (d : Nat) : stepQ (toks.getD j q0) L ⟨w :: S, i, o, d⟩ = .error (60, i) := by
  simp only [vItems, List.mem_cons, List.mem_nil_iff, or_false] at hw
  rcases hw with rfl | rfl | rfl | rfl | rfl | rfl | rfl | rfl | rfl | rfl | rfl | rfl | rfl | rfl
  · have hj2 : j = 0 ∨ j = 1 ∨ j = 2 ∨ j = 3 := by have : accM 1 = 4 := rfl; omega
    rcases hj2 with rfl | rfl | rfl | rfl <;> rfl
  · have hj2 : j = 0 ∨ j = 1 ∨ j = 2 ∨ j = 3 ∨ j = 4 := by have : accM 2 = 5 := rfl; omega
    rcases hj2 with rfl | rfl | rfl | rfl | rfl <;> rfl
  · have hj2 : j = 0 ∨ j = 1 ∨ j = 2 := by have : accM 3 = 3 := rfl; omega
    rcases hj2 with rfl | rfl | rfl <;> rfl
  · have hj2 : j = 0 ∨ j = 1 ∨ j = 2 ∨ j = 3 := by have : accM 4 = 4 := rfl; omega
    rcases hj2 with rfl | rfl | rfl | rfl <;> rfl
  · have hj2 : j = 0 ∨ j = 1 ∨ j = 2 ∨ j = 3 ∨ j = 4 := by have : accM 5 = 5 := rfl; omega
    rcases hj2 with rfl | rfl | rfl | rfl | rfl <;> rfl
  · obtain rfl : j = 0 := by have : accM 6 = 1 := rfl; omega
    rfl
  · obtain rfl : j = 0 := by have : accM 7 = 1 := rfl; omega
    rfl
  · have hj2 : j = 0 ∨ j = 1 ∨ j = 2 ∨ j = 3 ∨ j = 4 ∨ j = 5 ∨ j = 6 ∨ j = 7 := by have : accM 54 = 8 := rfl; omega
    rcases hj2 with rfl | rfl | rfl | rfl | rfl | rfl | rfl | rfl <;> rfl
  · have hj2 : j = 0 ∨ j = 1 ∨ j = 2 ∨ j = 3 ∨ j = 4 ∨ j = 5 ∨ j = 6 := by have : accM 68 = 7 := rfl; omega
    rcases hj2 with rfl | rfl | rfl | rfl | rfl | rfl | rfl <;> rfl
  · exact absurd (show j < 0 from hj) (Nat.not_lt_zero j)
  · have hj2 : j = 0 ∨ j = 1 ∨ j = 2 ∨ j = 3 ∨ j = 4 ∨ j = 5 ∨ j = 6 ∨ j = 7 ∨ j = 8 := by have : accM 70 = 9 := rfl; omega
    rcases hj2 with rfl | rfl | rfl | rfl | rfl | rfl | rfl | rfl | rfl <;> rfl
  · have hj2 : j = 0 ∨ j = 1 ∨ j = 2 ∨ j = 3 ∨ j = 4 ∨ j = 5 := by have : accM 71 = 6 := rfl; omega
    rcases hj2 with rfl | rfl | rfl | rfl | rfl | rfl <;> rfl
  · have hj2 : j = 0 ∨ j = 1 := by have : accM 72 = 2 := rfl; omega
    rcases hj2 with rfl | rfl <;> rfl
  · have hj2 : j = 0 ∨ j = 1 ∨ j = 2 ∨ j = 3 ∨ j = 4 ∨ j = 5 ∨ j = 6 ∨ j = 7 ∨ j = 8 ∨ j = 9 := by have : accM 133 = 10 := rfl; omega
    rcases hj2 with rfl | rfl | rfl | rfl | rfl | rfl | rfl | rfl | rfl | rfl <;> rfl
theorem good_tok {w : Nat} (hw : w ∈ vItems) (L i : Nat) (S o : List Nat) (d : Nat) : (∃ c, stepQ (toks.getD (accM w) q0) L ⟨w :: S, i, o, d⟩ = .error (c, i) ∧ (c = 5 ∨ c = 61)) ∨ ∃ v, stepQ (toks.getD (accM w) q0) L ⟨w :: S, i, o, d⟩ = .ok v ∧ v.i = i + 1 ∧ costS v.s + 1 = costI w + costS S := by
  simp only [vItems, List.mem_cons, List.mem_nil_iff, or_false] at hw
  rcases hw with rfl | rfl | rfl | rfl | rfl | rfl | rfl | rfl | rfl | rfl | rfl | rfl | rfl | rfl
  · exact .inr ⟨⟨S, i + 1, o, d⟩, rfl, rfl, by simp [costI]; omega⟩
  · exact .inr ⟨⟨S, i + 1, o, d⟩, rfl, rfl, by simp [costI]; omega⟩
  · have h : stepQ (toks.getD (accM 3) q0) L ⟨3 :: S, i, o, d⟩ = (if 16 < o.length then .error (61, i) else .ok ⟨S, i + 1, o, d⟩) := rfl
    by_cases ho : 16 < o.length
    · rw [if_pos ho] at h; exact .inl ⟨61, h, .inr rfl⟩
    · rw [if_neg ho] at h; exact .inr ⟨_, h, rfl, by simp [costI]; omega⟩
  · have h : stepQ (toks.getD (accM 4) q0) L ⟨4 :: S, i, o, d⟩ = (if 64 ≤ o.headD 0 then .error (5, i) else .ok ⟨68 :: 3 :: S, i + 1, (o.headD 0 + 1) :: o.tail, d⟩) := rfl
    by_cases ho : 64 ≤ o.headD 0
    · rw [if_pos ho] at h; exact .inl ⟨5, h, .inl rfl⟩
    · rw [if_neg ho] at h; exact .inr ⟨_, h, rfl, by simp [costS, costI]; omega⟩
  · have h : stepQ (toks.getD (accM 5) q0) L ⟨5 :: S, i, o, d⟩ = (if 64 ≤ o.headD 0 then .error (5, i) else .ok ⟨68 :: 3 :: S, i + 1, (o.headD 0 + 1) :: o.tail, d⟩) := rfl
    by_cases ho : 64 ≤ o.headD 0
    · rw [if_pos ho] at h; exact .inl ⟨5, h, .inl rfl⟩
    · rw [if_neg ho] at h; exact .inr ⟨_, h, rfl, by simp [costS, costI]; omega⟩
  · exact .inr ⟨⟨S, i + 1, o, d⟩, rfl, rfl, by simp [costI]; omega⟩
  · exact .inr ⟨⟨S, i + 1, o, d⟩, rfl, rfl, by simp [costI]; omega⟩
  · exact .inr ⟨⟨S, i + 1, o, d⟩, rfl, rfl, by simp [costI]; omega⟩
  · exact .inr ⟨⟨S, i + 1, o, d⟩, rfl, rfl, by simp [costI]; omega⟩
  · exact .inr ⟨⟨S, i + 1, o, d⟩, rfl, rfl, by simp [costI]; omega⟩
  · exact .inr ⟨⟨S, i + 1, o, d⟩, rfl, rfl, by simp [costI]; omega⟩
  · exact .inr ⟨⟨S, i + 1, o, d⟩, rfl, rfl, by simp [costI]; omega⟩
  · exact .inr ⟨⟨S, i + 1, o, d⟩, rfl, rfl, by simp [costI]; omega⟩
  · exact .inr ⟨⟨S, i + 1, o, d⟩, rfl, rfl, by simp [costI]; omega⟩
theorem acc_lt {w : Nat} (hw : w ∈ vItems) : accM w < 11 := by
  simp only [vItems, List.mem_cons, List.mem_nil_iff, or_false] at hw
  rcases hw with rfl | rfl | rfl | rfl | rfl | rfl | rfl | rfl | rfl | rfl | rfl | rfl | rfl | rfl <;> decide
section
variable {qs : List Q}
theorem run_tail : ∀ (k : Nat) (v u : St), InvM qs.length v → v.i = qs.length → runM qs k v = .ok u → u.s ≠ [] → costS u.s = costS v.s
  | 0, v, u, h, hi, hr, hn => by injection hr with hr; subst hr; rfl
  | k + 1, v, u, h, hi, hr, hn => by
    rw [runM] at hr
    have hk := stepQ_inv h (q_lt h.2.2.2)
    rw [← stepM_eq] at hk
    cases hs : stepM qs v with
    | error x => rw [hs] at hr; cases hr
    | ok x =>
      rw [hs] at hk hr
      rw [bnd_ok] at hr
      cases ht : v.s with
      | nil =>
        have e1 : stepM qs v = .ok v := by unfold stepM; rw [ht]
        rw [e1] at hs
        injection hs with hs
        subst hs
        rw [run_nil k v ht] at hr
        injection hr with hr
        subst hr
        exact absurd ht hn
      | cons w S =>
        have hq : qAt qs v.i = q0 := (q_lt h.2.2.2).resolve_left (by omega)
        rw [stepM_eq, hq] at hs
        rcases step_end h ht hi hs with ⟨rfl, rfl⟩ | ⟨rfl, hv⟩
        · have := run_tail k _ u hk.1 hi hr hn
          rw [this]
          simp [costS, costI]
        · rw [run_nil k x hv] at hr
          injection hr with hr
          subst hr
          exact absurd hv hn
theorem ends_tail {t v : St} {e : Nat × Nat} (h : Ends qs t (.ok v)) (k : Ends qs t (.error e)) : Ends qs v (.error e) := by
  obtain ⟨m, hm⟩ := h
  obtain ⟨n, hn⟩ := k
  rcases Nat.lt_or_ge n m with h1 | h1
  · obtain ⟨x, rfl⟩ : ∃ x, m = n + x := ⟨m - n, by omega⟩
    rw [runM_add, hn, bnd_err] at hm
    cases hm
  · obtain ⟨x, rfl⟩ : ∃ x, n = m + x := ⟨n - m, by omega⟩
    rw [runM_add, hm, bnd_ok] at hn
    exact ⟨x, hn⟩
/-- One token more: which is put, and what comes of it. -/
theorem go_on {c : Nat} (h : Early qs c) : ∃ a, a < 11 ∧ (∀ j, j < a → srcP (qs ++ [toks.getD j q0]) 257 [] 0 = .error (60, qs.length)) ∧
    ((∃ D, srcP (qs ++ [toks.getD a q0]) 257 [] 0 = .ok D) ∨ (∃ e, srcP (qs ++ [toks.getD a q0]) 257 [] 0 = .error e ∧ (e.1 = 5 ∨ e.1 = 61)) ∨ (srcP (qs ++ [toks.getD a q0]) 257 [] 0 = .error (60, qs.length + 1) ∧ ∃ c', c' < c ∧ Early (qs ++ [toks.getD a q0]) c')) := by
  obtain ⟨m, w, S, o, d, h1, hw, hc, hI⟩ := h.state
  have hrun : ∀ q, runM (qs ++ [q]) m ⟨[0], 0, [], 0⟩ = .ok ⟨w :: S, qs.length, o, d⟩ := fun q => runM_app q m _ _ inv0 h1 (by simp)
  have hstep : ∀ q, stepM (qs ++ [q]) ⟨w :: S, qs.length, o, d⟩ = stepQ q (qs ++ [q]).length ⟨w :: S, qs.length, o, d⟩ := fun q => by rw [stepM_eq, qAt_last]
  refine ⟨accM w, acc_lt hw, fun j hj => ?_, ?_⟩
  · exact src_of (Ends.trans ⟨m, hrun _⟩ (.stop (by rw [hstep, bad_tok hw j hj])))
  · rcases good_tok hw (qs ++ [toks.getD (accM w) q0]).length qs.length S o d with ⟨x, hx, hx2⟩ | ⟨v, hv, hvi, hvc⟩
    · right; left
      exact ⟨(x, qs.length), src_of (Ends.trans ⟨m, hrun _⟩ (.stop (by rw [hstep, hx]))), hx2⟩
    · cases hr : srcP (qs ++ [toks.getD (accM w) q0]) 257 [] 0 with
      | ok D => exact .inl ⟨D, rfl⟩
      | error e =>
        right
        have hE := src_err hr
        have hv0 : Ends (qs ++ [toks.getD (accM w) q0]) ⟨[0], 0, [], 0⟩ (.ok v) := Ends.trans ⟨m, hrun _⟩ (.step (by rw [hstep, hv]) (.refl _))
        obtain ⟨n, hn⟩ := ends_tail hv0 hE
        obtain ⟨k, u, hk, hu⟩ := run_err n v e hn
        obtain ⟨n0, hn0⟩ := hv0
        have hIv := (run_inv n0 _ v inv0 hn0).1
        have hIu := run_inv k v u hIv hk
        have hlen : (qs ++ [toks.getD (accM w) q0]).length = qs.length + 1 := by simp
        have hui : u.i = qs.length + 1 := by
          have h3 := hIu.1.2.2.2
          have h4 := hIu.2
          rw [hlen] at h3
          omega
        have hku := stepQ_inv hIu.1 (q_lt hIu.1.2.2.2)
        rw [← stepM_eq, hu] at hku
        obtain ⟨e1, e2⟩ := e
        obtain ⟨he2, he1⟩ := hku
        simp only at he2 he1
        rw [hui] at he2
        subst he2
        rcases he1 with rfl | rfl | rfl
        · exact .inl ⟨_, rfl, .inl rfl⟩
        · right
          refine ⟨rfl, costS u.s, ?_, n0 + k, u, by rw [runM_add, hn0, bnd_ok, hk], by rw [hlen]; exact hu, rfl⟩
          have hne : u.s ≠ [] := fun hz => by
            have : stepM (qs ++ [toks.getD (accM w) q0]) u = .ok u := by unfold stepM; rw [hz]
            rw [this] at hu
            cases hu
          have := run_tail k v u hIv (by rw [hvi, hlen]) hk hne
          omega
        · exact .inl ⟨_, rfl, .inr rfl⟩
end
end Go.Proofs.YtafljgjkcnbhbaaDoor
