/- A token of its bytes: tokenOf. -/
import Derived.Test.YtokepgimjdalaaaF
namespace Go.Proofs.Ytokepgimjdalaaa
open Go.RowKit
set_option linter.unusedVariables false

def tkc (t : Tk) : List Value := [.int .i64 t.k, .string t.t, .int .i64 t.n, .int .i64 t.a, .int .i64 t.e]
def tkv (t : Tk) : Value := .agg #[.int .i64 t.k, .string t.t, .int .i64 t.n, .int .i64 t.a, .int .i64 t.e]
def tk0 : Tk := ⟨0, ⟨#[]⟩, 0, 0, 0⟩
def tkO (w : List UInt8) (p : Nat) : Tk := if erW w = 0 then tkW w p else tk0
theorem back (s : ByteArray) : (⟨s.data.toList.toArray⟩ : ByteArray) = s := by simp
section
variable {s : ByteArray} {c : UInt8} {r : List UInt8}
theorem of_name (h : s.data.toList = c :: r) (hc : letter c = true) : (s.size ≤ 32 → erW s.data.toList = 0 ∧ ∀ p, tkO s.data.toList p = ⟨1, s, 0, p, p + s.size⟩) ∧ (32 < s.size → erW s.data.toList = 52 ∧ ∀ p, tkO s.data.toList p = tk0) := by
  have hl : s.size = r.length + 1 := by rw [Lib.size_eq, h]; rfl
  have he : erW s.data.toList = if r.length < 32 then 0 else 52 := by rw [h, erW, hc]; rfl
  refine ⟨fun h1 => ?_, fun h1 => ?_⟩
  · have e0 : erW s.data.toList = 0 := by rw [he, if_pos (by omega)]
    refine ⟨e0, fun p => ?_⟩
    have e1 : tkW s.data.toList p = ⟨1, ⟨s.data.toList.toArray⟩, 0, p, p + s.data.toList.length⟩ := by rw [h, tkW, hc]; rfl
    rw [tkO, if_pos e0, e1, back, ← Lib.size_eq]
  · have e0 : erW s.data.toList = 52 := by rw [he, if_neg (by omega)]
    refine ⟨e0, fun p => ?_⟩
    rw [tkO, if_neg (by rw [e0]; decide)]
theorem of_number (h : s.data.toList = c :: r) (hc : letter c = false) (hd : digit c = true) : (numOk s.data.toList = true → erW s.data.toList = 0 ∧ ∀ p, tkO s.data.toList p = ⟨2, ⟨#[]⟩, num s.data.toList, p, p + s.size⟩) ∧ (numOk s.data.toList = false → erW s.data.toList = 51 ∧ ∀ p, tkO s.data.toList p = tk0) := by
  have he : erW s.data.toList = if numOk s.data.toList = true then 0 else 51 := by rw [h, erW, hc, hd]; rfl
  refine ⟨fun h1 => ?_, fun h1 => ?_⟩
  · have e0 : erW s.data.toList = 0 := by rw [he, if_pos h1]
    refine ⟨e0, fun p => ?_⟩
    have e1 : tkW s.data.toList p = ⟨2, ⟨#[]⟩, num s.data.toList, p, p + s.data.toList.length⟩ := by
      rw [h, tkW, hc, hd]; rfl
    rw [tkO, if_pos e0, e1, ← Lib.size_eq]
  · have e0 : erW s.data.toList = 51 := by rw [he, h1]; rfl
    refine ⟨e0, fun p => ?_⟩
    rw [tkO, if_neg (by rw [e0]; decide)]
theorem of_mark (h : s.data.toList = c :: r) (hc : letter c = false) (hd : digit c = false) : erW s.data.toList = 0 ∧ ∀ p, tkO s.data.toList p = ⟨3, s, 0, p, p + s.size⟩ := by
  have e0 : erW s.data.toList = 0 := by rw [h, erW, hc, hd]; rfl
  refine ⟨e0, fun p => ?_⟩
  have e1 : tkW s.data.toList p = ⟨3, ⟨s.data.toList.toArray⟩, 0, p, p + s.data.toList.length⟩ := by rw [h, tkW, hc, hd]; rfl
  rw [tkO, if_pos e0, e1, back, ← Lib.size_eq]
end
theorem ret29 {R : Ending → World → Prop} {tmps : Array Value} {g : Nat} {x0 x1 x2 x3 x4 : Value} {w : World} (hp : tmps.getD 6 undef = .pointer (some ⟨g, 0, none⟩)) (hK : Blk w g 42 [x0, x1, x2, x3, x4]) (hR : R (.returned (.tuple #[.agg #[x0, x1, x2, x3, x4], tmps.getD 7 undef])) w) :
    bodyPost Try.prog Try.f36 R Exit.ret ⟨tmps, []⟩ w :=
  bodyPost_ret (results_cell_tmp_row rfl _ _ _ _ #[x0, x1, x2, x3, x4] _ _ hp hK Try.underlying42 rfl (by show _ = some 5; kernel_rfl)) rfl hR
def Z34 : List Value := [.int .i64 0, .string ⟨#[]⟩, .int .i64 0, .int .i64 0, .int .i64 0]
theorem blk2 (w : World) (xs ys : Array Value) (t : TypeId) : Blk ((w.alloc (.cells xs t)).alloc (.cells ys t)) w.heap.size t xs.toList ∧ Blk ((w.alloc (.cells xs t)).alloc (.cells ys t)) (w.heap.size + 1) t ys.toList := by
  refine ⟨(Blk.newA w xs t).alloc _, ?_⟩
  have := Blk.newA (w.alloc (.cells xs t)) ys t
  simpa using this
theorem below2 (w : World) (o o' : Obj) : Below w.heap.size w ((w.alloc o).alloc o') := ((Below.refl _ _).alloc (Nat.le_refl _) _).alloc (by simp) _
theorem int_add (a b : Nat) : (((a + b : Nat)) : Int) = (a : Int) + b := by omega
set_option maxRecDepth 100000 in
set_option maxHeartbeats 4000000 in
theorem tokenOf_name (s : ByteArray) (p : Nat) (c : UInt8) (r : List UInt8) (w : World) (hs : s.size ≤ 65536) (hp : p ≤ 65536) (hl : Hid (s.data.toList = c :: r)) (hc : letter c = true) :
    Calls Try.prog 36 #[.int .i64 1, .string s, .int .i64 p] w fun e w' => e = .returned (.tuple #[tkv (tkO s.data.toList p), .int .i64 (erW s.data.toList)]) ∧ Below w.heap.size w w' := by
  obtain ⟨k1, k2⟩ := of_name hl.out hc
  go_enter Try.func36, Try.ntmps36
  by_cases h : s.size ≤ 32
  · have HE := hide_ (k1 h).1
    have HT := hide_ (k1 h).2
    clear k1 k2
    have h' : (s.size : Int) ≤ 32 := by omega
    go_wp2_with fail
    refine (clone_any s _ hs).mono ?_; rintro e w1 ⟨rfl, hB1⟩
    obtain ⟨K6, K8⟩ := blk2 w #[.int .i64 0, .string ⟨#[]⟩, .int .i64 0, .int .i64 0, .int .i64 0] #[.int .i64 1, .string ⟨#[]⟩, .int .i64 0, .int .i64 p, .int .i64 (p + s.size)] 42
    have HB : Hid (Below w.heap.size w w1) := (below2 w _ _).trans (hB1.mono (by simp; omega))
    have K6 := hide_ (K6.later hB1)
    have K8 := hide_ (K8.later hB1)
    have y0 := K8.out.cell 0; have y1 := K8.out.cell 1; have y2 := K8.out.cell 2; have y3 := K8.out.cell 3; have y4 := K8.out.cell 4
    have z1 := K8.out.frozen 1
    have f0 := K6.out.frozen 0; have f1 := K6.out.frozen 1; have f2 := K6.out.frozen 2; have f3 := K6.out.frozen 3; have f4 := K6.out.frozen 4
    have x0 := K6.out.cell 0; have x1 := K6.out.cell 1; have x2 := K6.out.cell 2; have x3 := K6.out.cell 3; have x4 := K6.out.cell 4
    simp at y0 y1 y2 y3 y4 x0 x1 x2 x3 x4
    clear hB1
    go_wp2
    have K := (((((K6.out.other ⟨w.heap.size + 1, 1, none⟩ (.string s) (by simp)).set 0 (.int .i64 1)).set 1 (.string s)).set 2 (.int .i64 0)).set 3 (.int .i64 p)).set 4 (.int .i64 (p + s.size))
    refine ret29 (R := fun e w' => e = .returned (.tuple #[tkv (tkO s.data.toList p), .int .i64 (erW s.data.toList)]) ∧ Below w.heap.size w w') rfl K (And.intro ?_ ?_)
    · rw [HE.out, HT.out p]; simp [tkv]
    · exact (((((HB.out.setCell (by simp) _).setCell (Nat.le_refl _) _).setCell (Nat.le_refl _) _).setCell (Nat.le_refl _) _).setCell (Nat.le_refl _) _).setCell (Nat.le_refl _) _

  · have HE := hide_ (k2 (by omega)).1
    have HT := hide_ (k2 (by omega)).2
    clear k1 k2
    have h' : 32 < (s.size : Int) := by omega
    go_wp2
    refine ret29 rfl (blk2 w _ _ 42).1 ⟨?_, below2 w _ _⟩
    rw [HE.out, HT.out p]; rfl

set_option maxRecDepth 100000 in
set_option maxHeartbeats 4000000 in
theorem tokenOf_mark (s : ByteArray) (p : Nat) (c : UInt8) (r : List UInt8) (w : World) (hs : s.size ≤ 65536) (hp : p ≤ 65536) (hl : Hid (s.data.toList = c :: r)) (hc : letter c = false) (hd : digit c = false) :
    Calls Try.prog 36 #[.int .i64 3, .string s, .int .i64 p] w fun e w' => e = .returned (.tuple #[tkv (tkO s.data.toList p), .int .i64 (erW s.data.toList)]) ∧ Below w.heap.size w w' := by
  have HE := hide_ (of_mark hl.out hc hd).1
  have HT := hide_ (of_mark hl.out hc hd).2
  go_enter Try.func36, Try.ntmps36
  · skip
    go_wp2_with fail
    refine (clone_any s _ hs).mono ?_; rintro e w1 ⟨rfl, hB1⟩
    obtain ⟨K6, K8⟩ := blk2 w #[.int .i64 0, .string ⟨#[]⟩, .int .i64 0, .int .i64 0, .int .i64 0] #[.int .i64 3, .string ⟨#[]⟩, .int .i64 0, .int .i64 p, .int .i64 (p + s.size)] 42
    have HB : Hid (Below w.heap.size w w1) := (below2 w _ _).trans (hB1.mono (by simp; omega))
    have K6 := hide_ (K6.later hB1)
    have K8 := hide_ (K8.later hB1)
    have y0 := K8.out.cell 0; have y1 := K8.out.cell 1; have y2 := K8.out.cell 2; have y3 := K8.out.cell 3; have y4 := K8.out.cell 4
    have z1 := K8.out.frozen 1
    have f0 := K6.out.frozen 0; have f1 := K6.out.frozen 1; have f2 := K6.out.frozen 2; have f3 := K6.out.frozen 3; have f4 := K6.out.frozen 4
    have x0 := K6.out.cell 0; have x1 := K6.out.cell 1; have x2 := K6.out.cell 2; have x3 := K6.out.cell 3; have x4 := K6.out.cell 4
    simp at y0 y1 y2 y3 y4 x0 x1 x2 x3 x4
    clear hB1
    go_wp2
    have K := (((((K6.out.other ⟨w.heap.size + 1, 1, none⟩ (.string s) (by simp)).set 0 (.int .i64 3)).set 1 (.string s)).set 2 (.int .i64 0)).set 3 (.int .i64 p)).set 4 (.int .i64 (p + s.size))
    refine ret29 (R := fun e w' => e = .returned (.tuple #[tkv (tkO s.data.toList p), .int .i64 (erW s.data.toList)]) ∧ Below w.heap.size w w') rfl K (And.intro ?_ ?_)
    · rw [HE.out, HT.out p]; simp [tkv]
    · exact (((((HB.out.setCell (by simp) _).setCell (Nat.le_refl _) _).setCell (Nat.le_refl _) _).setCell (Nat.le_refl _) _).setCell (Nat.le_refl _) _).setCell (Nat.le_refl _) _

set_option maxRecDepth 100000 in
set_option maxHeartbeats 4000000 in
theorem tokenOf_number (s : ByteArray) (p : Nat) (c : UInt8) (r : List UInt8) (w : World) (hs : s.size ≤ 65536) (hp : p ≤ 65536) (hl : Hid (s.data.toList = c :: r)) (hc : letter c = false) (hd : digit c = true) (ha : Hid (allD s)) :
    Calls Try.prog 36 #[.int .i64 2, .string s, .int .i64 p] w fun e w' => e = .returned (.tuple #[tkv (tkO s.data.toList p), .int .i64 (erW s.data.toList)]) ∧ Below w.heap.size w w' := by
  obtain ⟨k1, k2⟩ := of_number hl.out hc hd
  go_enter Try.func36, Try.ntmps36
  go_wp2_with fail
  refine (number_any s _ ha hs).mono ?_; rintro e w' ⟨rfl, rfl⟩
  cases hb : numOk s.data.toList with
  | true =>
    have HE := hide_ (k1 hb).1
    have HT := hide_ (k1 hb).2
    clear k1 k2
    rw [numV_t hb]
    go_wp2
    refine ret29 rfl (blk2 w _ _ 42).1 ⟨?_, below2 w _ _⟩
    rw [HE.out, HT.out p]; simp [tkv]
  | false =>
    have HE := hide_ (k2 hb).1
    have HT := hide_ (k2 hb).2
    clear k1 k2
    rw [numV_f hb]
    go_wp2
    refine ret29 rfl (blk2 w _ _ 42).1 ⟨?_, below2 w _ _⟩
    rw [HE.out, HT.out p]; rfl

end Go.Proofs.Ytokepgimjdalaaa
