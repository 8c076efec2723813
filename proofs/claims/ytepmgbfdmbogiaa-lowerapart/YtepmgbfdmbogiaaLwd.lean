/- Lower: variableItems. -/
import Derived.Test.YtepmgbfdmbogiaaLwc
namespace Go.Proofs.Ytepmgbfdmbogiaa
open Go.RowKit
set_option linter.unusedVariables false

theorem Mb.new4 {w : World} {B gb : Nat} {vT vL : Value} {C : List In} {E : List Int} {M : List Mk} (h : Mb w B gb vT vL C E M) : Mb ((((w.alloc (.cells #[.bool false, .int .i64 0, .slice none 0 0] 83)).alloc (.cells #[.bool false, .int .i64 0, .slice none 0 0] 83)).alloc (.cells #[.bool false, .int .i64 0, .slice none 0 0] 83)).alloc (.cells #[.bool false, .int .i64 0, .slice none 0 0] 83)) B gb vT vL C E (⟨w.heap.size + 1 + 1 + 1, 0, false, 0, .slice none 0 0, []⟩ :: ⟨w.heap.size + 1 + 1, 0, false, 0, .slice none 0 0, []⟩ :: ⟨w.heap.size + 1, 0, false, 0, .slice none 0 0, []⟩ :: ⟨w.heap.size, 0, false, 0, .slice none 0 0, []⟩ :: M) := by
  have := h.new.new.new.new
  simpa using this
theorem below4 (w : World) (o1 o2 o3 o4 : Obj) : Below w.heap.size w ((((w.alloc o1).alloc o2).alloc o3).alloc o4) := below_to (below2 w o1 o2) (below2 _ o3 o4)
theorem len_off (C U : List In) (k : Nat) (h : U.length = k) : ((C ++ U).length : Int) = (C.length : Int) + (k : Int) := by simp [h]
theorem patL_off (n : Int) (C U V : List In) (j : Nat) (x : In) (hx : U[j]? = some x) (hv : U.set j ⟨x.op, x.a, n, x.c⟩ = V) : patL n [(C.length : Int) + (j : Int)] (C ++ U) = C ++ V := by
  subst hv
  rw [patL_one]
  unfold patI
  have e : ((C.length : Int) + (j : Int)).toNat = C.length + j := by omega
  have hg : (C ++ U)[C.length + j]? = some x := by rw [List.getElem?_append_right (by omega), Nat.add_sub_cancel_left]; exact hx
  rw [e, hg]
  simp only
  rw [List.set_append_right _ _ (by omega), Nat.add_sub_cancel_left]
theorem app_one (C U : List In) (x : In) (V : List In) (h : U ++ [x] = V) : (C ++ U) ++ [x] = C ++ V := by rw [← h, List.append_assoc]
set_option maxRecDepth 100000 in
set_option maxHeartbeats 4000000 in
theorem var_list (B gb : Nat) (vT vL : Value) (C : List In) (E : List Int) (m : Mk) (nn el first : Int) (ps : List Pt) (va : Option Addr) (vc : Nat) (b : Int) (w : World) (hl : C.length ≤ 900000000) (hb : (C.length : Int) = b + 1) (hm0 : m.kn = false) (hm1 : m.W = []) (hm2 : m.nu = 0) (h : Hid (Mb w B gb vT vL C E [m])) :
    Calls Try.prog 67 #[.pointer (some ⟨gb, 0, none⟩), .agg #[.int .i64 5, .int .i64 nn, .int .i64 el, .slice va ps.length vc], .int .i64 first, .pointer (some ⟨m.g, m.o, none⟩)] w fun e w' => e = .returned (.tuple #[]) ∧ Hid (BodyTo B gb vT vL C E m (itV ⟨5, nn, el, ps⟩ first b) w') ∧ Hid (Kp B w w') := by
  obtain ⟨mg, mo, mk, mn, mv, mW⟩ := m
  simp only at hm0 hm1 hm2
  subst hm0 hm1 hm2
  obtain ⟨w1, hw1⟩ : ∃ wx, wx = w.alloc (.cells #[.int .i64 5, .int .i64 nn, .int .i64 el, .slice va ps.length vc] 54) := ⟨_, rfl⟩
  have hB1 : Below w.heap.size w w1 := by rw [hw1]; exact below1 _ _
  have kt : Blk w1 w.heap.size 54 [.int .i64 5, .int .i64 nn, .int .i64 el, .slice va ps.length vc] := by rw [hw1]; exact Blk.newA w _ _
  obtain ⟨w2, hw2⟩ : ∃ wx, wx = (((w1.alloc (.cells #[.bool false, .int .i64 0, .slice none 0 0] 83)).alloc (.cells #[.bool false, .int .i64 0, .slice none 0 0] 83)).alloc (.cells #[.bool false, .int .i64 0, .slice none 0 0] 83)).alloc (.cells #[.bool false, .int .i64 0, .slice none 0 0] 83) := ⟨_, rfl⟩
  have hB2 : Below w1.heap.size w1 w2 := by rw [hw2]; exact below4 _ _ _ _ _
  obtain ⟨g1, hg1⟩ : ∃ g, g = w1.heap.size := ⟨_, rfl⟩
  have HM2 : Hid (Mb w2 B gb vT vL C E [⟨g1 + 1 + 1 + 1, 0, false, 0, .slice none 0 0, []⟩, ⟨g1 + 1 + 1, 0, false, 0, .slice none 0 0, []⟩, ⟨g1 + 1, 0, false, 0, .slice none 0 0, []⟩, ⟨g1, 0, false, 0, .slice none 0 0, []⟩, ⟨mg, mo, false, 0, mv, []⟩]) := hide_ (by
    have := (h.out.later hB1).new4
    rw [← hw2, ← hg1] at this
    exact this)
  have HK2 : Hid (Kp B w w2) := hide_ ((Kp.later hB1).then hB2)
  have HKt2 := hide_ (kt.later hB2)
  clear kt h hB1 hB2
  go_enter Try.func67, Try.ntmps67
  go_upto_region 1 with fail
  rw [← hw1]
  clear hw1
  go_upto_region 2 with fail
  rw [← hw2, ← hg1]
  clear hw2 hg1
  have j0 := HKt2.out.cell 0; have j1 := HKt2.out.cell 1
  simp at j0 j1
  have HC2 := hide_ (layTo_new B gb vT vL C E [⟨g1 + 1 + 1 + 1, 0, false, 0, .slice none 0 0, []⟩, ⟨g1 + 1 + 1, 0, false, 0, .slice none 0 0, []⟩, ⟨g1 + 1, 0, false, 0, .slice none 0 0, []⟩, ⟨g1, 0, false, 0, .slice none 0 0, []⟩] [] ⟨mg, mo, false, 0, mv, []⟩ 11 nn w2 (by first | omega | (simp; omega)) (by simp) rfl HM2)
  go_upto_region 4 with (go_at_call 30; refine HC2.out.mono ?_; rintro e w3 ⟨rfl, HN2, HL2⟩)
  have HKt3 := hide_ (HL2.out.blk HKt2.out (by unfold own4; decide))
  have HK3 := hide_ (HK2.out.trans HL2.out)
  clear HL2 HK2 HKt2 HC2
  obtain ⟨v2, hv2⟩ := HN2.out
  have HN2 := hide_ hv2
  clear hv2
  have HM3 : Hid (Mb w3 B gb vT vL (C ++ [⟨11, nn, 0, 0⟩]) E [⟨g1 + 1 + 1 + 1, 0, false, 0, .slice none 0 0, []⟩, ⟨g1 + 1 + 1, 0, false, 0, .slice none 0 0, []⟩, ⟨g1 + 1, 0, false, 0, .slice none 0 0, []⟩, ⟨g1, 0, false, 0, .slice none 0 0, []⟩, ⟨mg, mo, false, 0, v2, [(C.length : Int) + (0 : Nat)]⟩]) := hide_ (by
    have q := HN2.out
    rw [show (C.length : Int) = (C.length : Int) + (0 : Nat) by simp] at q
    exact q)
  clear HN2 HM2
  clear j0 j1
  have HC3 := hide_ (layTo_new B gb vT vL (C ++ [⟨11, nn, 0, 0⟩]) E [⟨g1 + 1 + 1 + 1, 0, false, 0, .slice none 0 0, []⟩, ⟨g1 + 1 + 1, 0, false, 0, .slice none 0 0, []⟩] [⟨g1, 0, false, 0, .slice none 0 0, []⟩, ⟨mg, mo, false, 0, v2, [(C.length : Int) + (0 : Nat)]⟩] ⟨g1 + 1, 0, false, 0, .slice none 0 0, []⟩ 19 0 w3 (by first | omega | (simp; omega)) (by simp) rfl HM3)
  go_upto_region 5 with (go_at_call 30; refine HC3.out.mono ?_; rintro e w4 ⟨rfl, HN3, HL3⟩)
  have HKt4 := hide_ (HL3.out.blk HKt3.out (by unfold own4; decide))
  have HK4 := hide_ (HK3.out.trans HL3.out)
  clear HL3 HK3 HKt3 HC3
  obtain ⟨v3, hv3⟩ := HN3.out
  have HN3 := hide_ hv3
  clear hv3
  have HM4 : Hid (Mb w4 B gb vT vL (C ++ [⟨11, nn, 0, 0⟩, ⟨19, 0, 0, 0⟩]) E [⟨g1 + 1 + 1 + 1, 0, false, 0, .slice none 0 0, []⟩, ⟨g1 + 1 + 1, 0, false, 0, .slice none 0 0, []⟩, ⟨g1 + 1, 0, false, 0, v3, [(C.length : Int) + (1 : Nat)]⟩, ⟨g1, 0, false, 0, .slice none 0 0, []⟩, ⟨mg, mo, false, 0, v2, [(C.length : Int) + (0 : Nat)]⟩]) := hide_ (by
    have q := HN3.out
    rw [app_one C [⟨11, nn, 0, 0⟩] ⟨19, 0, 0, 0⟩ [⟨11, nn, 0, 0⟩, ⟨19, 0, 0, 0⟩] rfl, len_off C [⟨11, nn, 0, 0⟩] 1 rfl] at q
    exact q)
  clear HN3 HM3
  have HC4 := hide_ (set_any B gb vT vL (C ++ [⟨11, nn, 0, 0⟩, ⟨19, 0, 0, 0⟩]) E [⟨g1 + 1 + 1 + 1, 0, false, 0, .slice none 0 0, []⟩, ⟨g1 + 1 + 1, 0, false, 0, .slice none 0 0, []⟩, ⟨g1 + 1, 0, false, 0, v3, [(C.length : Int) + (1 : Nat)]⟩] [⟨mg, mo, false, 0, v2, [(C.length : Int) + (0 : Nat)]⟩] ⟨g1, 0, false, 0, .slice none 0 0, []⟩ w4 (by first | omega | (simp; omega)) (by simp) (hide_ (fun k hk => by cases hk)) HM4)
  go_upto_region 7 with (go_at_call 35; refine HC4.out.mono ?_; rintro e w5 ⟨rfl, HN4, HL4⟩)
  have HKt5 := hide_ (HL4.out.blk HKt4.out (by unfold own4; decide))
  have HK5 := hide_ (HK4.out.trans HL4.out)
  clear HL4 HK4 HKt4 HC4
  have HM5 : Hid (Mb w5 B gb vT vL (C ++ [⟨11, nn, 0, 0⟩, ⟨19, 0, 0, 0⟩]) E [⟨g1 + 1 + 1 + 1, 0, false, 0, .slice none 0 0, []⟩, ⟨g1 + 1 + 1, 0, false, 0, .slice none 0 0, []⟩, ⟨g1 + 1, 0, false, 0, v3, [(C.length : Int) + (1 : Nat)]⟩, ⟨g1, 0, true, (C.length : Int) + (2 : Nat), .slice none 0 0, []⟩, ⟨mg, mo, false, 0, v2, [(C.length : Int) + (0 : Nat)]⟩]) := hide_ (by
    have q := HN4.out
    rw [len_off C [⟨11, nn, 0, 0⟩, ⟨19, 0, 0, 0⟩] 2 rfl] at q
    simp only [patL_nil] at q
    exact q)
  clear HN4 HM4
  have HC5 := hide_ (lay_any B gb vT vL (C ++ [⟨11, nn, 0, 0⟩, ⟨19, 0, 0, 0⟩]) E [⟨g1 + 1 + 1 + 1, 0, false, 0, .slice none 0 0, []⟩, ⟨g1 + 1 + 1, 0, false, 0, .slice none 0 0, []⟩, ⟨g1 + 1, 0, false, 0, v3, [(C.length : Int) + (1 : Nat)]⟩, ⟨g1, 0, true, (C.length : Int) + (2 : Nat), .slice none 0 0, []⟩, ⟨mg, mo, false, 0, v2, [(C.length : Int) + (0 : Nat)]⟩] ⟨10, 4, 0, 0⟩ w5 (by first | omega | (simp; omega)) HM5)
  go_upto_region 8 with (go_at_call 36; refine HC5.out.mono ?_; rintro e w6 ⟨rfl, HN5, HL5⟩)
  have HKt6 := hide_ (HL5.out.blk HKt5.out (by unfold own4; decide))
  have HK6 := hide_ (HK5.out.trans HL5.out)
  clear HL5 HK5 HKt5 HC5
  have HM6 : Hid (Mb w6 B gb vT vL (C ++ [⟨11, nn, 0, 0⟩, ⟨19, 0, 0, 0⟩, ⟨10, 4, 0, 0⟩]) E [⟨g1 + 1 + 1 + 1, 0, false, 0, .slice none 0 0, []⟩, ⟨g1 + 1 + 1, 0, false, 0, .slice none 0 0, []⟩, ⟨g1 + 1, 0, false, 0, v3, [(C.length : Int) + (1 : Nat)]⟩, ⟨g1, 0, true, (C.length : Int) + (2 : Nat), .slice none 0 0, []⟩, ⟨mg, mo, false, 0, v2, [(C.length : Int) + (0 : Nat)]⟩]) := hide_ (by
    have q := HN5.out
    rw [app_one C [⟨11, nn, 0, 0⟩, ⟨19, 0, 0, 0⟩] ⟨10, 4, 0, 0⟩ [⟨11, nn, 0, 0⟩, ⟨19, 0, 0, 0⟩, ⟨10, 4, 0, 0⟩] rfl] at q
    exact q)
  clear HN5 HM5
  have HC6 := hide_ (set_any B gb vT vL (C ++ [⟨11, nn, 0, 0⟩, ⟨19, 0, 0, 0⟩, ⟨10, 4, 0, 0⟩]) E [⟨g1 + 1 + 1 + 1, 0, false, 0, .slice none 0 0, []⟩, ⟨g1 + 1 + 1, 0, false, 0, .slice none 0 0, []⟩] [⟨g1, 0, true, (C.length : Int) + (2 : Nat), .slice none 0 0, []⟩, ⟨mg, mo, false, 0, v2, [(C.length : Int) + (0 : Nat)]⟩] ⟨g1 + 1, 0, false, 0, v3, [(C.length : Int) + (1 : Nat)]⟩ w6 (by first | omega | (simp; omega)) (by simp) (hide_ (fun k hk => by simp only [List.mem_singleton] at hk; subst hk; simp; omega)) HM6)
  go_upto_region 9 with (go_at_call 35; refine HC6.out.mono ?_; rintro e w7 ⟨rfl, HN6, HL6⟩)
  have HKt7 := hide_ (HL6.out.blk HKt6.out (by unfold own4; decide))
  have HK7 := hide_ (HK6.out.trans HL6.out)
  clear HL6 HK6 HKt6 HC6
  have HM7 : Hid (Mb w7 B gb vT vL (C ++ [⟨11, nn, 0, 0⟩, ⟨19, 0, (C.length : Int) + (3 : Nat), 0⟩, ⟨10, 4, 0, 0⟩]) E [⟨g1 + 1 + 1 + 1, 0, false, 0, .slice none 0 0, []⟩, ⟨g1 + 1 + 1, 0, false, 0, .slice none 0 0, []⟩, ⟨g1 + 1, 0, true, (C.length : Int) + (3 : Nat), v3, [(C.length : Int) + (1 : Nat)]⟩, ⟨g1, 0, true, (C.length : Int) + (2 : Nat), .slice none 0 0, []⟩, ⟨mg, mo, false, 0, v2, [(C.length : Int) + (0 : Nat)]⟩]) := hide_ (by
    have q := HN6.out
    rw [len_off C [⟨11, nn, 0, 0⟩, ⟨19, 0, 0, 0⟩, ⟨10, 4, 0, 0⟩] 3 rfl] at q
    rw [patL_off _ C [⟨11, nn, 0, 0⟩, ⟨19, 0, 0, 0⟩, ⟨10, 4, 0, 0⟩] [⟨11, nn, 0, 0⟩, ⟨19, 0, (C.length : Int) + (3 : Nat), 0⟩, ⟨10, 4, 0, 0⟩] 1 ⟨19, 0, 0, 0⟩ rfl rfl] at q
    exact q)
  clear HN6 HM6
  have HC7 := hide_ (layTo_old B gb vT vL (C ++ [⟨11, nn, 0, 0⟩, ⟨19, 0, (C.length : Int) + (3 : Nat), 0⟩, ⟨10, 4, 0, 0⟩]) E [⟨g1 + 1 + 1 + 1, 0, false, 0, .slice none 0 0, []⟩, ⟨g1 + 1 + 1, 0, false, 0, .slice none 0 0, []⟩, ⟨g1 + 1, 0, true, (C.length : Int) + (3 : Nat), v3, [(C.length : Int) + (1 : Nat)]⟩, ⟨g1, 0, true, (C.length : Int) + (2 : Nat), .slice none 0 0, []⟩, ⟨mg, mo, false, 0, v2, [(C.length : Int) + (0 : Nat)]⟩] ⟨g1, 0, true, (C.length : Int) + (2 : Nat), .slice none 0 0, []⟩ 12 0 w7 (by first | omega | (simp; omega)) (by simp) rfl HM7)
  go_upto_region 10 with (go_at_call 30; refine HC7.out.mono ?_; rintro e w8 ⟨rfl, HN7, HL7⟩)
  have HKt8 := hide_ (HL7.out.blk HKt7.out (by unfold own4; decide))
  have HK8 := hide_ (HK7.out.trans HL7.out)
  clear HL7 HK7 HKt7 HC7
  have HM8 : Hid (Mb w8 B gb vT vL (C ++ [⟨11, nn, 0, 0⟩, ⟨19, 0, (C.length : Int) + (3 : Nat), 0⟩, ⟨10, 4, 0, 0⟩, ⟨12, 0, (C.length : Int) + (2 : Nat), 0⟩]) E [⟨g1 + 1 + 1 + 1, 0, false, 0, .slice none 0 0, []⟩, ⟨g1 + 1 + 1, 0, false, 0, .slice none 0 0, []⟩, ⟨g1 + 1, 0, true, (C.length : Int) + (3 : Nat), v3, [(C.length : Int) + (1 : Nat)]⟩, ⟨g1, 0, true, (C.length : Int) + (2 : Nat), .slice none 0 0, []⟩, ⟨mg, mo, false, 0, v2, [(C.length : Int) + (0 : Nat)]⟩]) := hide_ (by
    have q := HN7.out
    rw [app_one C [⟨11, nn, 0, 0⟩, ⟨19, 0, (C.length : Int) + (3 : Nat), 0⟩, ⟨10, 4, 0, 0⟩] ⟨12, 0, (C.length : Int) + (2 : Nat), 0⟩ [⟨11, nn, 0, 0⟩, ⟨19, 0, (C.length : Int) + (3 : Nat), 0⟩, ⟨10, 4, 0, 0⟩, ⟨12, 0, (C.length : Int) + (2 : Nat), 0⟩] rfl] at q
    exact q)
  clear HN7 HM7
  have HC8 := hide_ (layTo_new B gb vT vL (C ++ [⟨11, nn, 0, 0⟩, ⟨19, 0, (C.length : Int) + (3 : Nat), 0⟩, ⟨10, 4, 0, 0⟩, ⟨12, 0, (C.length : Int) + (2 : Nat), 0⟩]) E [] [⟨g1 + 1 + 1, 0, false, 0, .slice none 0 0, []⟩, ⟨g1 + 1, 0, true, (C.length : Int) + (3 : Nat), v3, [(C.length : Int) + (1 : Nat)]⟩, ⟨g1, 0, true, (C.length : Int) + (2 : Nat), .slice none 0 0, []⟩, ⟨mg, mo, false, 0, v2, [(C.length : Int) + (0 : Nat)]⟩] ⟨g1 + 1 + 1 + 1, 0, false, 0, .slice none 0 0, []⟩ 19 0 w8 (by first | omega | (simp; omega)) (by simp) rfl HM8)
  go_upto_region 11 with (go_at_call 30; refine HC8.out.mono ?_; rintro e w9 ⟨rfl, HN8, HL8⟩)
  have HKt9 := hide_ (HL8.out.blk HKt8.out (by unfold own4; decide))
  have HK9 := hide_ (HK8.out.trans HL8.out)
  clear HL8 HK8 HKt8 HC8
  obtain ⟨v8, hv8⟩ := HN8.out
  have HN8 := hide_ hv8
  clear hv8
  have HM9 : Hid (Mb w9 B gb vT vL (C ++ [⟨11, nn, 0, 0⟩, ⟨19, 0, (C.length : Int) + (3 : Nat), 0⟩, ⟨10, 4, 0, 0⟩, ⟨12, 0, (C.length : Int) + (2 : Nat), 0⟩, ⟨19, 0, 0, 0⟩]) E [⟨g1 + 1 + 1 + 1, 0, false, 0, v8, [(C.length : Int) + (4 : Nat)]⟩, ⟨g1 + 1 + 1, 0, false, 0, .slice none 0 0, []⟩, ⟨g1 + 1, 0, true, (C.length : Int) + (3 : Nat), v3, [(C.length : Int) + (1 : Nat)]⟩, ⟨g1, 0, true, (C.length : Int) + (2 : Nat), .slice none 0 0, []⟩, ⟨mg, mo, false, 0, v2, [(C.length : Int) + (0 : Nat)]⟩]) := hide_ (by
    have q := HN8.out
    rw [app_one C [⟨11, nn, 0, 0⟩, ⟨19, 0, (C.length : Int) + (3 : Nat), 0⟩, ⟨10, 4, 0, 0⟩, ⟨12, 0, (C.length : Int) + (2 : Nat), 0⟩] ⟨19, 0, 0, 0⟩ [⟨11, nn, 0, 0⟩, ⟨19, 0, (C.length : Int) + (3 : Nat), 0⟩, ⟨10, 4, 0, 0⟩, ⟨12, 0, (C.length : Int) + (2 : Nat), 0⟩, ⟨19, 0, 0, 0⟩] rfl, len_off C [⟨11, nn, 0, 0⟩, ⟨19, 0, (C.length : Int) + (3 : Nat), 0⟩, ⟨10, 4, 0, 0⟩, ⟨12, 0, (C.length : Int) + (2 : Nat), 0⟩] 4 rfl] at q
    exact q)
  clear HN8 HM8
  have HC9 := hide_ (set_any B gb vT vL (C ++ [⟨11, nn, 0, 0⟩, ⟨19, 0, (C.length : Int) + (3 : Nat), 0⟩, ⟨10, 4, 0, 0⟩, ⟨12, 0, (C.length : Int) + (2 : Nat), 0⟩, ⟨19, 0, 0, 0⟩]) E [⟨g1 + 1 + 1 + 1, 0, false, 0, v8, [(C.length : Int) + (4 : Nat)]⟩] [⟨g1 + 1, 0, true, (C.length : Int) + (3 : Nat), v3, [(C.length : Int) + (1 : Nat)]⟩, ⟨g1, 0, true, (C.length : Int) + (2 : Nat), .slice none 0 0, []⟩, ⟨mg, mo, false, 0, v2, [(C.length : Int) + (0 : Nat)]⟩] ⟨g1 + 1 + 1, 0, false, 0, .slice none 0 0, []⟩ w9 (by first | omega | (simp; omega)) (by simp) (hide_ (fun k hk => by cases hk)) HM9)
  go_upto_region 12 with (go_at_call 35; refine HC9.out.mono ?_; rintro e w10 ⟨rfl, HN9, HL9⟩)
  have HKt10 := hide_ (HL9.out.blk HKt9.out (by unfold own4; decide))
  have HK10 := hide_ (HK9.out.trans HL9.out)
  clear HL9 HK9 HKt9 HC9
  have HM10 : Hid (Mb w10 B gb vT vL (C ++ [⟨11, nn, 0, 0⟩, ⟨19, 0, (C.length : Int) + (3 : Nat), 0⟩, ⟨10, 4, 0, 0⟩, ⟨12, 0, (C.length : Int) + (2 : Nat), 0⟩, ⟨19, 0, 0, 0⟩]) E [⟨g1 + 1 + 1 + 1, 0, false, 0, v8, [(C.length : Int) + (4 : Nat)]⟩, ⟨g1 + 1 + 1, 0, true, (C.length : Int) + (5 : Nat), .slice none 0 0, []⟩, ⟨g1 + 1, 0, true, (C.length : Int) + (3 : Nat), v3, [(C.length : Int) + (1 : Nat)]⟩, ⟨g1, 0, true, (C.length : Int) + (2 : Nat), .slice none 0 0, []⟩, ⟨mg, mo, false, 0, v2, [(C.length : Int) + (0 : Nat)]⟩]) := hide_ (by
    have q := HN9.out
    rw [len_off C [⟨11, nn, 0, 0⟩, ⟨19, 0, (C.length : Int) + (3 : Nat), 0⟩, ⟨10, 4, 0, 0⟩, ⟨12, 0, (C.length : Int) + (2 : Nat), 0⟩, ⟨19, 0, 0, 0⟩] 5 rfl] at q
    simp only [patL_nil] at q
    exact q)
  clear HN9 HM9
  have j2 := HKt10.out.cell 2
  simp at j2
  have HC10 := hide_ (lay_any B gb vT vL (C ++ [⟨11, nn, 0, 0⟩, ⟨19, 0, (C.length : Int) + (3 : Nat), 0⟩, ⟨10, 4, 0, 0⟩, ⟨12, 0, (C.length : Int) + (2 : Nat), 0⟩, ⟨19, 0, 0, 0⟩]) E [⟨g1 + 1 + 1 + 1, 0, false, 0, v8, [(C.length : Int) + (4 : Nat)]⟩, ⟨g1 + 1 + 1, 0, true, (C.length : Int) + (5 : Nat), .slice none 0 0, []⟩, ⟨g1 + 1, 0, true, (C.length : Int) + (3 : Nat), v3, [(C.length : Int) + (1 : Nat)]⟩, ⟨g1, 0, true, (C.length : Int) + (2 : Nat), .slice none 0 0, []⟩, ⟨mg, mo, false, 0, v2, [(C.length : Int) + (0 : Nat)]⟩] ⟨17, -1, -1, el⟩ w10 (by first | omega | (simp; omega)) HM10)
  go_upto_region 13 with (go_at_call 36; refine HC10.out.mono ?_; rintro e w11 ⟨rfl, HN10, HL10⟩)
  have HKt11 := hide_ (HL10.out.blk HKt10.out (by unfold own4; decide))
  have HK11 := hide_ (HK10.out.trans HL10.out)
  clear HL10 HK10 HKt10 HC10
  have HM11 : Hid (Mb w11 B gb vT vL (C ++ [⟨11, nn, 0, 0⟩, ⟨19, 0, (C.length : Int) + (3 : Nat), 0⟩, ⟨10, 4, 0, 0⟩, ⟨12, 0, (C.length : Int) + (2 : Nat), 0⟩, ⟨19, 0, 0, 0⟩, ⟨17, -1, -1, el⟩]) E [⟨g1 + 1 + 1 + 1, 0, false, 0, v8, [(C.length : Int) + (4 : Nat)]⟩, ⟨g1 + 1 + 1, 0, true, (C.length : Int) + (5 : Nat), .slice none 0 0, []⟩, ⟨g1 + 1, 0, true, (C.length : Int) + (3 : Nat), v3, [(C.length : Int) + (1 : Nat)]⟩, ⟨g1, 0, true, (C.length : Int) + (2 : Nat), .slice none 0 0, []⟩, ⟨mg, mo, false, 0, v2, [(C.length : Int) + (0 : Nat)]⟩]) := hide_ (by
    have q := HN10.out
    rw [app_one C [⟨11, nn, 0, 0⟩, ⟨19, 0, (C.length : Int) + (3 : Nat), 0⟩, ⟨10, 4, 0, 0⟩, ⟨12, 0, (C.length : Int) + (2 : Nat), 0⟩, ⟨19, 0, 0, 0⟩] ⟨17, -1, -1, el⟩ [⟨11, nn, 0, 0⟩, ⟨19, 0, (C.length : Int) + (3 : Nat), 0⟩, ⟨10, 4, 0, 0⟩, ⟨12, 0, (C.length : Int) + (2 : Nat), 0⟩, ⟨19, 0, 0, 0⟩, ⟨17, -1, -1, el⟩] rfl] at q
    exact q)
  clear HN10 HM10
  clear j2
  have HC11 := hide_ (lay_any B gb vT vL (C ++ [⟨11, nn, 0, 0⟩, ⟨19, 0, (C.length : Int) + (3 : Nat), 0⟩, ⟨10, 4, 0, 0⟩, ⟨12, 0, (C.length : Int) + (2 : Nat), 0⟩, ⟨19, 0, 0, 0⟩, ⟨17, -1, -1, el⟩]) E [⟨g1 + 1 + 1 + 1, 0, false, 0, v8, [(C.length : Int) + (4 : Nat)]⟩, ⟨g1 + 1 + 1, 0, true, (C.length : Int) + (5 : Nat), .slice none 0 0, []⟩, ⟨g1 + 1, 0, true, (C.length : Int) + (3 : Nat), v3, [(C.length : Int) + (1 : Nat)]⟩, ⟨g1, 0, true, (C.length : Int) + (2 : Nat), .slice none 0 0, []⟩, ⟨mg, mo, false, 0, v2, [(C.length : Int) + (0 : Nat)]⟩] ⟨18, -1, 0, 0⟩ w11 (by first | omega | (simp; omega)) HM11)
  go_upto_region 14 with (go_at_call 36; refine HC11.out.mono ?_; rintro e w12 ⟨rfl, HN11, HL11⟩)
  have HKt12 := hide_ (HL11.out.blk HKt11.out (by unfold own4; decide))
  have HK12 := hide_ (HK11.out.trans HL11.out)
  clear HL11 HK11 HKt11 HC11
  have HM12 : Hid (Mb w12 B gb vT vL (C ++ [⟨11, nn, 0, 0⟩, ⟨19, 0, (C.length : Int) + (3 : Nat), 0⟩, ⟨10, 4, 0, 0⟩, ⟨12, 0, (C.length : Int) + (2 : Nat), 0⟩, ⟨19, 0, 0, 0⟩, ⟨17, -1, -1, el⟩, ⟨18, -1, 0, 0⟩]) E [⟨g1 + 1 + 1 + 1, 0, false, 0, v8, [(C.length : Int) + (4 : Nat)]⟩, ⟨g1 + 1 + 1, 0, true, (C.length : Int) + (5 : Nat), .slice none 0 0, []⟩, ⟨g1 + 1, 0, true, (C.length : Int) + (3 : Nat), v3, [(C.length : Int) + (1 : Nat)]⟩, ⟨g1, 0, true, (C.length : Int) + (2 : Nat), .slice none 0 0, []⟩, ⟨mg, mo, false, 0, v2, [(C.length : Int) + (0 : Nat)]⟩]) := hide_ (by
    have q := HN11.out
    rw [app_one C [⟨11, nn, 0, 0⟩, ⟨19, 0, (C.length : Int) + (3 : Nat), 0⟩, ⟨10, 4, 0, 0⟩, ⟨12, 0, (C.length : Int) + (2 : Nat), 0⟩, ⟨19, 0, 0, 0⟩, ⟨17, -1, -1, el⟩] ⟨18, -1, 0, 0⟩ [⟨11, nn, 0, 0⟩, ⟨19, 0, (C.length : Int) + (3 : Nat), 0⟩, ⟨10, 4, 0, 0⟩, ⟨12, 0, (C.length : Int) + (2 : Nat), 0⟩, ⟨19, 0, 0, 0⟩, ⟨17, -1, -1, el⟩, ⟨18, -1, 0, 0⟩] rfl] at q
    exact q)
  clear HN11 HM11
  have HC12 := hide_ (set_any B gb vT vL (C ++ [⟨11, nn, 0, 0⟩, ⟨19, 0, (C.length : Int) + (3 : Nat), 0⟩, ⟨10, 4, 0, 0⟩, ⟨12, 0, (C.length : Int) + (2 : Nat), 0⟩, ⟨19, 0, 0, 0⟩, ⟨17, -1, -1, el⟩, ⟨18, -1, 0, 0⟩]) E [] [⟨g1 + 1 + 1, 0, true, (C.length : Int) + (5 : Nat), .slice none 0 0, []⟩, ⟨g1 + 1, 0, true, (C.length : Int) + (3 : Nat), v3, [(C.length : Int) + (1 : Nat)]⟩, ⟨g1, 0, true, (C.length : Int) + (2 : Nat), .slice none 0 0, []⟩, ⟨mg, mo, false, 0, v2, [(C.length : Int) + (0 : Nat)]⟩] ⟨g1 + 1 + 1 + 1, 0, false, 0, v8, [(C.length : Int) + (4 : Nat)]⟩ w12 (by first | omega | (simp; omega)) (by simp) (hide_ (fun k hk => by simp only [List.mem_singleton] at hk; subst hk; simp; omega)) HM12)
  go_upto_region 15 with (go_at_call 35; refine HC12.out.mono ?_; rintro e w13 ⟨rfl, HN12, HL12⟩)
  have HKt13 := hide_ (HL12.out.blk HKt12.out (by unfold own4; decide))
  have HK13 := hide_ (HK12.out.trans HL12.out)
  clear HL12 HK12 HKt12 HC12
  have HM13 : Hid (Mb w13 B gb vT vL (C ++ [⟨11, nn, 0, 0⟩, ⟨19, 0, (C.length : Int) + (3 : Nat), 0⟩, ⟨10, 4, 0, 0⟩, ⟨12, 0, (C.length : Int) + (2 : Nat), 0⟩, ⟨19, 0, (C.length : Int) + (7 : Nat), 0⟩, ⟨17, -1, -1, el⟩, ⟨18, -1, 0, 0⟩]) E [⟨g1 + 1 + 1 + 1, 0, true, (C.length : Int) + (7 : Nat), v8, [(C.length : Int) + (4 : Nat)]⟩, ⟨g1 + 1 + 1, 0, true, (C.length : Int) + (5 : Nat), .slice none 0 0, []⟩, ⟨g1 + 1, 0, true, (C.length : Int) + (3 : Nat), v3, [(C.length : Int) + (1 : Nat)]⟩, ⟨g1, 0, true, (C.length : Int) + (2 : Nat), .slice none 0 0, []⟩, ⟨mg, mo, false, 0, v2, [(C.length : Int) + (0 : Nat)]⟩]) := hide_ (by
    have q := HN12.out
    rw [len_off C [⟨11, nn, 0, 0⟩, ⟨19, 0, (C.length : Int) + (3 : Nat), 0⟩, ⟨10, 4, 0, 0⟩, ⟨12, 0, (C.length : Int) + (2 : Nat), 0⟩, ⟨19, 0, 0, 0⟩, ⟨17, -1, -1, el⟩, ⟨18, -1, 0, 0⟩] 7 rfl] at q
    rw [patL_off _ C [⟨11, nn, 0, 0⟩, ⟨19, 0, (C.length : Int) + (3 : Nat), 0⟩, ⟨10, 4, 0, 0⟩, ⟨12, 0, (C.length : Int) + (2 : Nat), 0⟩, ⟨19, 0, 0, 0⟩, ⟨17, -1, -1, el⟩, ⟨18, -1, 0, 0⟩] [⟨11, nn, 0, 0⟩, ⟨19, 0, (C.length : Int) + (3 : Nat), 0⟩, ⟨10, 4, 0, 0⟩, ⟨12, 0, (C.length : Int) + (2 : Nat), 0⟩, ⟨19, 0, (C.length : Int) + (7 : Nat), 0⟩, ⟨17, -1, -1, el⟩, ⟨18, -1, 0, 0⟩] 4 ⟨19, 0, 0, 0⟩ rfl rfl] at q
    exact q)
  clear HN12 HM12
  have HC13 := hide_ (layTo_old B gb vT vL (C ++ [⟨11, nn, 0, 0⟩, ⟨19, 0, (C.length : Int) + (3 : Nat), 0⟩, ⟨10, 4, 0, 0⟩, ⟨12, 0, (C.length : Int) + (2 : Nat), 0⟩, ⟨19, 0, (C.length : Int) + (7 : Nat), 0⟩, ⟨17, -1, -1, el⟩, ⟨18, -1, 0, 0⟩]) E [⟨g1 + 1 + 1 + 1, 0, true, (C.length : Int) + (7 : Nat), v8, [(C.length : Int) + (4 : Nat)]⟩, ⟨g1 + 1 + 1, 0, true, (C.length : Int) + (5 : Nat), .slice none 0 0, []⟩, ⟨g1 + 1, 0, true, (C.length : Int) + (3 : Nat), v3, [(C.length : Int) + (1 : Nat)]⟩, ⟨g1, 0, true, (C.length : Int) + (2 : Nat), .slice none 0 0, []⟩, ⟨mg, mo, false, 0, v2, [(C.length : Int) + (0 : Nat)]⟩] ⟨g1 + 1 + 1, 0, true, (C.length : Int) + (5 : Nat), .slice none 0 0, []⟩ 15 0 w13 (by first | omega | (simp; omega)) (by simp) rfl HM13)
  go_wp2_with (go_at_call 30; refine HC13.out.mono ?_; rintro e w14 ⟨rfl, HN13, HL13⟩)
  have HKt14 := hide_ (HL13.out.blk HKt13.out (by unfold own4; decide))
  have HK14 := hide_ (HK13.out.trans HL13.out)
  clear HL13 HK13 HKt13 HC13
  have HM14 : Hid (Mb w14 B gb vT vL (C ++ [⟨11, nn, 0, 0⟩, ⟨19, 0, (C.length : Int) + (3 : Nat), 0⟩, ⟨10, 4, 0, 0⟩, ⟨12, 0, (C.length : Int) + (2 : Nat), 0⟩, ⟨19, 0, (C.length : Int) + (7 : Nat), 0⟩, ⟨17, -1, -1, el⟩, ⟨18, -1, 0, 0⟩, ⟨15, 0, (C.length : Int) + (5 : Nat), 0⟩]) E [⟨g1 + 1 + 1 + 1, 0, true, (C.length : Int) + (7 : Nat), v8, [(C.length : Int) + (4 : Nat)]⟩, ⟨g1 + 1 + 1, 0, true, (C.length : Int) + (5 : Nat), .slice none 0 0, []⟩, ⟨g1 + 1, 0, true, (C.length : Int) + (3 : Nat), v3, [(C.length : Int) + (1 : Nat)]⟩, ⟨g1, 0, true, (C.length : Int) + (2 : Nat), .slice none 0 0, []⟩, ⟨mg, mo, false, 0, v2, [(C.length : Int) + (0 : Nat)]⟩]) := hide_ (by
    have q := HN13.out
    rw [app_one C [⟨11, nn, 0, 0⟩, ⟨19, 0, (C.length : Int) + (3 : Nat), 0⟩, ⟨10, 4, 0, 0⟩, ⟨12, 0, (C.length : Int) + (2 : Nat), 0⟩, ⟨19, 0, (C.length : Int) + (7 : Nat), 0⟩, ⟨17, -1, -1, el⟩, ⟨18, -1, 0, 0⟩] ⟨15, 0, (C.length : Int) + (5 : Nat), 0⟩ [⟨11, nn, 0, 0⟩, ⟨19, 0, (C.length : Int) + (3 : Nat), 0⟩, ⟨10, 4, 0, 0⟩, ⟨12, 0, (C.length : Int) + (2 : Nat), 0⟩, ⟨19, 0, (C.length : Int) + (7 : Nat), 0⟩, ⟨17, -1, -1, el⟩, ⟨18, -1, 0, 0⟩, ⟨15, 0, (C.length : Int) + (5 : Nat), 0⟩] rfl] at q
    exact q)
  clear HN13 HM13
  go_end0
  refine ⟨rfl, hide_ ⟨[⟨11, nn, 0, 0⟩, ⟨19, 0, (C.length : Int) + (3 : Nat), 0⟩, ⟨10, 4, 0, 0⟩, ⟨12, 0, (C.length : Int) + (2 : Nat), 0⟩, ⟨19, 0, (C.length : Int) + (7 : Nat), 0⟩, ⟨17, -1, -1, el⟩, ⟨18, -1, 0, 0⟩, ⟨15, 0, (C.length : Int) + (5 : Nat), 0⟩], [(C.length : Int) + (0 : Nat)], v2, HM14.out.sub (by simp), by simp, ?_, ?_, by simp [itV]⟩, HK14⟩
  · intro k hk
    simp only [List.mem_singleton] at hk
    subst hk
    simp
    omega
  · rw [len_off C [⟨11, nn, 0, 0⟩, ⟨19, 0, (C.length : Int) + (3 : Nat), 0⟩, ⟨10, 4, 0, 0⟩, ⟨12, 0, (C.length : Int) + (2 : Nat), 0⟩, ⟨19, 0, (C.length : Int) + (7 : Nat), 0⟩, ⟨17, -1, -1, el⟩, ⟨18, -1, 0, 0⟩, ⟨15, 0, (C.length : Int) + (5 : Nat), 0⟩] 8 rfl, patL_off _ C [⟨11, nn, 0, 0⟩, ⟨19, 0, (C.length : Int) + (3 : Nat), 0⟩, ⟨10, 4, 0, 0⟩, ⟨12, 0, (C.length : Int) + (2 : Nat), 0⟩, ⟨19, 0, (C.length : Int) + (7 : Nat), 0⟩, ⟨17, -1, -1, el⟩, ⟨18, -1, 0, 0⟩, ⟨15, 0, (C.length : Int) + (5 : Nat), 0⟩] [⟨11, nn, (C.length : Int) + (8 : Nat), 0⟩, ⟨19, 0, (C.length : Int) + (3 : Nat), 0⟩, ⟨10, 4, 0, 0⟩, ⟨12, 0, (C.length : Int) + (2 : Nat), 0⟩, ⟨19, 0, (C.length : Int) + (7 : Nat), 0⟩, ⟨17, -1, -1, el⟩, ⟨18, -1, 0, 0⟩, ⟨15, 0, (C.length : Int) + (5 : Nat), 0⟩] 0 ⟨11, nn, 0, 0⟩ rfl rfl]
    unfold itV
    simp [hb]
    omega
set_option maxRecDepth 100000 in
set_option maxHeartbeats 4000000 in
theorem var_vec (B gb : Nat) (vT vL : Value) (C : List In) (E : List Int) (m : Mk) (nn el first : Int) (ps : List Pt) (va : Option Addr) (vc : Nat) (b : Int) (w : World) (hl : C.length ≤ 900000000) (hb : (C.length : Int) = b + 1) (hm0 : m.kn = false) (hm1 : m.W = []) (hm2 : m.nu = 0) (h : Hid (Mb w B gb vT vL C E [m])) :
    Calls Try.prog 67 #[.pointer (some ⟨gb, 0, none⟩), .agg #[.int .i64 4, .int .i64 nn, .int .i64 el, .slice va ps.length vc], .int .i64 first, .pointer (some ⟨m.g, m.o, none⟩)] w fun e w' => e = .returned (.tuple #[]) ∧ Hid (BodyTo B gb vT vL C E m (itV ⟨4, nn, el, ps⟩ first b) w') ∧ Hid (Kp B w w') := by
  obtain ⟨mg, mo, mk, mn, mv, mW⟩ := m
  simp only at hm0 hm1 hm2
  subst hm0 hm1 hm2
  obtain ⟨w1, hw1⟩ : ∃ wx, wx = w.alloc (.cells #[.int .i64 4, .int .i64 nn, .int .i64 el, .slice va ps.length vc] 54) := ⟨_, rfl⟩
  have hB1 : Below w.heap.size w w1 := by rw [hw1]; exact below1 _ _
  have kt : Blk w1 w.heap.size 54 [.int .i64 4, .int .i64 nn, .int .i64 el, .slice va ps.length vc] := by rw [hw1]; exact Blk.newA w _ _
  obtain ⟨w2, hw2⟩ : ∃ wx, wx = (((w1.alloc (.cells #[.bool false, .int .i64 0, .slice none 0 0] 83)).alloc (.cells #[.bool false, .int .i64 0, .slice none 0 0] 83)).alloc (.cells #[.bool false, .int .i64 0, .slice none 0 0] 83)).alloc (.cells #[.bool false, .int .i64 0, .slice none 0 0] 83) := ⟨_, rfl⟩
  have hB2 : Below w1.heap.size w1 w2 := by rw [hw2]; exact below4 _ _ _ _ _
  obtain ⟨g1, hg1⟩ : ∃ g, g = w1.heap.size := ⟨_, rfl⟩
  have HM2 : Hid (Mb w2 B gb vT vL C E [⟨g1 + 1 + 1 + 1, 0, false, 0, .slice none 0 0, []⟩, ⟨g1 + 1 + 1, 0, false, 0, .slice none 0 0, []⟩, ⟨g1 + 1, 0, false, 0, .slice none 0 0, []⟩, ⟨g1, 0, false, 0, .slice none 0 0, []⟩, ⟨mg, mo, false, 0, mv, []⟩]) := hide_ (by
    have := (h.out.later hB1).new4
    rw [← hw2, ← hg1] at this
    exact this)
  have HK2 : Hid (Kp B w w2) := hide_ ((Kp.later hB1).then hB2)
  have HKt2 := hide_ (kt.later hB2)
  clear kt h hB1 hB2
  go_enter Try.func67, Try.ntmps67
  go_upto_region 1 with fail
  rw [← hw1]
  clear hw1
  go_upto_region 2 with fail
  rw [← hw2, ← hg1]
  clear hw2 hg1
  have j0 := HKt2.out.cell 0; have j1 := HKt2.out.cell 1
  simp at j0 j1
  clear j1
  have HC2 := hide_ (set_any B gb vT vL C E [⟨g1 + 1 + 1 + 1, 0, false, 0, .slice none 0 0, []⟩, ⟨g1 + 1 + 1, 0, false, 0, .slice none 0 0, []⟩, ⟨g1 + 1, 0, false, 0, .slice none 0 0, []⟩] [⟨mg, mo, false, 0, mv, []⟩] ⟨g1, 0, false, 0, .slice none 0 0, []⟩ w2 (by first | omega | (simp; omega)) (by simp) (hide_ (fun k hk => by cases hk)) HM2)
  go_upto_region 7 with (go_at_call 35; refine HC2.out.mono ?_; rintro e w3 ⟨rfl, HN2, HL2⟩)
  have HKt3 := hide_ (HL2.out.blk HKt2.out (by unfold own4; decide))
  have HK3 := hide_ (HK2.out.trans HL2.out)
  clear HL2 HK2 HKt2 HC2
  have HM3 : Hid (Mb w3 B gb vT vL C E [⟨g1 + 1 + 1 + 1, 0, false, 0, .slice none 0 0, []⟩, ⟨g1 + 1 + 1, 0, false, 0, .slice none 0 0, []⟩, ⟨g1 + 1, 0, false, 0, .slice none 0 0, []⟩, ⟨g1, 0, true, (C.length : Int), .slice none 0 0, []⟩, ⟨mg, mo, false, 0, mv, []⟩]) := hide_ (by
    have q := HN2.out
    simp only [patL_nil] at q
    exact q)
  clear HN2 HM2
  have HC3 := hide_ (lay_any B gb vT vL C E [⟨g1 + 1 + 1 + 1, 0, false, 0, .slice none 0 0, []⟩, ⟨g1 + 1 + 1, 0, false, 0, .slice none 0 0, []⟩, ⟨g1 + 1, 0, false, 0, .slice none 0 0, []⟩, ⟨g1, 0, true, (C.length : Int), .slice none 0 0, []⟩, ⟨mg, mo, false, 0, mv, []⟩] ⟨10, first, 0, 0⟩ w3 (by first | omega | (simp; omega)) HM3)
  go_upto_region 8 with (go_at_call 36; refine HC3.out.mono ?_; rintro e w4 ⟨rfl, HN3, HL3⟩)
  have HKt4 := hide_ (HL3.out.blk HKt3.out (by unfold own4; decide))
  have HK4 := hide_ (HK3.out.trans HL3.out)
  clear HL3 HK3 HKt3 HC3
  have HM4 : Hid (Mb w4 B gb vT vL (C ++ [⟨10, first, 0, 0⟩]) E [⟨g1 + 1 + 1 + 1, 0, false, 0, .slice none 0 0, []⟩, ⟨g1 + 1 + 1, 0, false, 0, .slice none 0 0, []⟩, ⟨g1 + 1, 0, false, 0, .slice none 0 0, []⟩, ⟨g1, 0, true, (C.length : Int), .slice none 0 0, []⟩, ⟨mg, mo, false, 0, mv, []⟩]) := hide_ (by
    have q := HN3.out
    exact q)
  clear HN3 HM3
  have HC4 := hide_ (set_any B gb vT vL (C ++ [⟨10, first, 0, 0⟩]) E [⟨g1 + 1 + 1 + 1, 0, false, 0, .slice none 0 0, []⟩, ⟨g1 + 1 + 1, 0, false, 0, .slice none 0 0, []⟩] [⟨g1, 0, true, (C.length : Int), .slice none 0 0, []⟩, ⟨mg, mo, false, 0, mv, []⟩] ⟨g1 + 1, 0, false, 0, .slice none 0 0, []⟩ w4 (by first | omega | (simp; omega)) (by simp) (hide_ (fun k hk => by cases hk)) HM4)
  go_upto_region 9 with (go_at_call 35; refine HC4.out.mono ?_; rintro e w5 ⟨rfl, HN4, HL4⟩)
  have HKt5 := hide_ (HL4.out.blk HKt4.out (by unfold own4; decide))
  have HK5 := hide_ (HK4.out.trans HL4.out)
  clear HL4 HK4 HKt4 HC4
  have HM5 : Hid (Mb w5 B gb vT vL (C ++ [⟨10, first, 0, 0⟩]) E [⟨g1 + 1 + 1 + 1, 0, false, 0, .slice none 0 0, []⟩, ⟨g1 + 1 + 1, 0, false, 0, .slice none 0 0, []⟩, ⟨g1 + 1, 0, true, (C.length : Int) + (1 : Nat), .slice none 0 0, []⟩, ⟨g1, 0, true, (C.length : Int), .slice none 0 0, []⟩, ⟨mg, mo, false, 0, mv, []⟩]) := hide_ (by
    have q := HN4.out
    rw [len_off C [⟨10, first, 0, 0⟩] 1 rfl] at q
    simp only [patL_nil] at q
    exact q)
  clear HN4 HM4
  have HC5 := hide_ (layTo_old B gb vT vL (C ++ [⟨10, first, 0, 0⟩]) E [⟨g1 + 1 + 1 + 1, 0, false, 0, .slice none 0 0, []⟩, ⟨g1 + 1 + 1, 0, false, 0, .slice none 0 0, []⟩, ⟨g1 + 1, 0, true, (C.length : Int) + (1 : Nat), .slice none 0 0, []⟩, ⟨g1, 0, true, (C.length : Int), .slice none 0 0, []⟩, ⟨mg, mo, false, 0, mv, []⟩] ⟨g1, 0, true, (C.length : Int), .slice none 0 0, []⟩ 12 0 w5 (by first | omega | (simp; omega)) (by simp) rfl HM5)
  go_upto_region 10 with (go_at_call 30; refine HC5.out.mono ?_; rintro e w6 ⟨rfl, HN5, HL5⟩)
  have HKt6 := hide_ (HL5.out.blk HKt5.out (by unfold own4; decide))
  have HK6 := hide_ (HK5.out.trans HL5.out)
  clear HL5 HK5 HKt5 HC5
  have HM6 : Hid (Mb w6 B gb vT vL (C ++ [⟨10, first, 0, 0⟩, ⟨12, 0, (C.length : Int), 0⟩]) E [⟨g1 + 1 + 1 + 1, 0, false, 0, .slice none 0 0, []⟩, ⟨g1 + 1 + 1, 0, false, 0, .slice none 0 0, []⟩, ⟨g1 + 1, 0, true, (C.length : Int) + (1 : Nat), .slice none 0 0, []⟩, ⟨g1, 0, true, (C.length : Int), .slice none 0 0, []⟩, ⟨mg, mo, false, 0, mv, []⟩]) := hide_ (by
    have q := HN5.out
    rw [app_one C [⟨10, first, 0, 0⟩] ⟨12, 0, (C.length : Int), 0⟩ [⟨10, first, 0, 0⟩, ⟨12, 0, (C.length : Int), 0⟩] rfl] at q
    exact q)
  clear HN5 HM5
  have HC6 := hide_ (layTo_new B gb vT vL (C ++ [⟨10, first, 0, 0⟩, ⟨12, 0, (C.length : Int), 0⟩]) E [] [⟨g1 + 1 + 1, 0, false, 0, .slice none 0 0, []⟩, ⟨g1 + 1, 0, true, (C.length : Int) + (1 : Nat), .slice none 0 0, []⟩, ⟨g1, 0, true, (C.length : Int), .slice none 0 0, []⟩, ⟨mg, mo, false, 0, mv, []⟩] ⟨g1 + 1 + 1 + 1, 0, false, 0, .slice none 0 0, []⟩ 19 0 w6 (by first | omega | (simp; omega)) (by simp) rfl HM6)
  go_upto_region 11 with (go_at_call 30; refine HC6.out.mono ?_; rintro e w7 ⟨rfl, HN6, HL6⟩)
  have HKt7 := hide_ (HL6.out.blk HKt6.out (by unfold own4; decide))
  have HK7 := hide_ (HK6.out.trans HL6.out)
  clear HL6 HK6 HKt6 HC6
  obtain ⟨v6, hv6⟩ := HN6.out
  have HN6 := hide_ hv6
  clear hv6
  have HM7 : Hid (Mb w7 B gb vT vL (C ++ [⟨10, first, 0, 0⟩, ⟨12, 0, (C.length : Int), 0⟩, ⟨19, 0, 0, 0⟩]) E [⟨g1 + 1 + 1 + 1, 0, false, 0, v6, [(C.length : Int) + (2 : Nat)]⟩, ⟨g1 + 1 + 1, 0, false, 0, .slice none 0 0, []⟩, ⟨g1 + 1, 0, true, (C.length : Int) + (1 : Nat), .slice none 0 0, []⟩, ⟨g1, 0, true, (C.length : Int), .slice none 0 0, []⟩, ⟨mg, mo, false, 0, mv, []⟩]) := hide_ (by
    have q := HN6.out
    rw [app_one C [⟨10, first, 0, 0⟩, ⟨12, 0, (C.length : Int), 0⟩] ⟨19, 0, 0, 0⟩ [⟨10, first, 0, 0⟩, ⟨12, 0, (C.length : Int), 0⟩, ⟨19, 0, 0, 0⟩] rfl, len_off C [⟨10, first, 0, 0⟩, ⟨12, 0, (C.length : Int), 0⟩] 2 rfl] at q
    exact q)
  clear HN6 HM6
  have HC7 := hide_ (set_any B gb vT vL (C ++ [⟨10, first, 0, 0⟩, ⟨12, 0, (C.length : Int), 0⟩, ⟨19, 0, 0, 0⟩]) E [⟨g1 + 1 + 1 + 1, 0, false, 0, v6, [(C.length : Int) + (2 : Nat)]⟩] [⟨g1 + 1, 0, true, (C.length : Int) + (1 : Nat), .slice none 0 0, []⟩, ⟨g1, 0, true, (C.length : Int), .slice none 0 0, []⟩, ⟨mg, mo, false, 0, mv, []⟩] ⟨g1 + 1 + 1, 0, false, 0, .slice none 0 0, []⟩ w7 (by first | omega | (simp; omega)) (by simp) (hide_ (fun k hk => by cases hk)) HM7)
  go_upto_region 12 with (go_at_call 35; refine HC7.out.mono ?_; rintro e w8 ⟨rfl, HN7, HL7⟩)
  have HKt8 := hide_ (HL7.out.blk HKt7.out (by unfold own4; decide))
  have HK8 := hide_ (HK7.out.trans HL7.out)
  clear HL7 HK7 HKt7 HC7
  have HM8 : Hid (Mb w8 B gb vT vL (C ++ [⟨10, first, 0, 0⟩, ⟨12, 0, (C.length : Int), 0⟩, ⟨19, 0, 0, 0⟩]) E [⟨g1 + 1 + 1 + 1, 0, false, 0, v6, [(C.length : Int) + (2 : Nat)]⟩, ⟨g1 + 1 + 1, 0, true, (C.length : Int) + (3 : Nat), .slice none 0 0, []⟩, ⟨g1 + 1, 0, true, (C.length : Int) + (1 : Nat), .slice none 0 0, []⟩, ⟨g1, 0, true, (C.length : Int), .slice none 0 0, []⟩, ⟨mg, mo, false, 0, mv, []⟩]) := hide_ (by
    have q := HN7.out
    rw [len_off C [⟨10, first, 0, 0⟩, ⟨12, 0, (C.length : Int), 0⟩, ⟨19, 0, 0, 0⟩] 3 rfl] at q
    simp only [patL_nil] at q
    exact q)
  clear HN7 HM7
  have j2 := HKt8.out.cell 2
  simp at j2
  have HC8 := hide_ (lay_any B gb vT vL (C ++ [⟨10, first, 0, 0⟩, ⟨12, 0, (C.length : Int), 0⟩, ⟨19, 0, 0, 0⟩]) E [⟨g1 + 1 + 1 + 1, 0, false, 0, v6, [(C.length : Int) + (2 : Nat)]⟩, ⟨g1 + 1 + 1, 0, true, (C.length : Int) + (3 : Nat), .slice none 0 0, []⟩, ⟨g1 + 1, 0, true, (C.length : Int) + (1 : Nat), .slice none 0 0, []⟩, ⟨g1, 0, true, (C.length : Int), .slice none 0 0, []⟩, ⟨mg, mo, false, 0, mv, []⟩] ⟨17, -1, -1, el⟩ w8 (by first | omega | (simp; omega)) HM8)
  go_upto_region 13 with (go_at_call 36; refine HC8.out.mono ?_; rintro e w9 ⟨rfl, HN8, HL8⟩)
  have HKt9 := hide_ (HL8.out.blk HKt8.out (by unfold own4; decide))
  have HK9 := hide_ (HK8.out.trans HL8.out)
  clear HL8 HK8 HKt8 HC8
  have HM9 : Hid (Mb w9 B gb vT vL (C ++ [⟨10, first, 0, 0⟩, ⟨12, 0, (C.length : Int), 0⟩, ⟨19, 0, 0, 0⟩, ⟨17, -1, -1, el⟩]) E [⟨g1 + 1 + 1 + 1, 0, false, 0, v6, [(C.length : Int) + (2 : Nat)]⟩, ⟨g1 + 1 + 1, 0, true, (C.length : Int) + (3 : Nat), .slice none 0 0, []⟩, ⟨g1 + 1, 0, true, (C.length : Int) + (1 : Nat), .slice none 0 0, []⟩, ⟨g1, 0, true, (C.length : Int), .slice none 0 0, []⟩, ⟨mg, mo, false, 0, mv, []⟩]) := hide_ (by
    have q := HN8.out
    rw [app_one C [⟨10, first, 0, 0⟩, ⟨12, 0, (C.length : Int), 0⟩, ⟨19, 0, 0, 0⟩] ⟨17, -1, -1, el⟩ [⟨10, first, 0, 0⟩, ⟨12, 0, (C.length : Int), 0⟩, ⟨19, 0, 0, 0⟩, ⟨17, -1, -1, el⟩] rfl] at q
    exact q)
  clear HN8 HM8
  clear j2
  have HC9 := hide_ (lay_any B gb vT vL (C ++ [⟨10, first, 0, 0⟩, ⟨12, 0, (C.length : Int), 0⟩, ⟨19, 0, 0, 0⟩, ⟨17, -1, -1, el⟩]) E [⟨g1 + 1 + 1 + 1, 0, false, 0, v6, [(C.length : Int) + (2 : Nat)]⟩, ⟨g1 + 1 + 1, 0, true, (C.length : Int) + (3 : Nat), .slice none 0 0, []⟩, ⟨g1 + 1, 0, true, (C.length : Int) + (1 : Nat), .slice none 0 0, []⟩, ⟨g1, 0, true, (C.length : Int), .slice none 0 0, []⟩, ⟨mg, mo, false, 0, mv, []⟩] ⟨18, -1, 0, 0⟩ w9 (by first | omega | (simp; omega)) HM9)
  go_upto_region 14 with (go_at_call 36; refine HC9.out.mono ?_; rintro e w10 ⟨rfl, HN9, HL9⟩)
  have HKt10 := hide_ (HL9.out.blk HKt9.out (by unfold own4; decide))
  have HK10 := hide_ (HK9.out.trans HL9.out)
  clear HL9 HK9 HKt9 HC9
  have HM10 : Hid (Mb w10 B gb vT vL (C ++ [⟨10, first, 0, 0⟩, ⟨12, 0, (C.length : Int), 0⟩, ⟨19, 0, 0, 0⟩, ⟨17, -1, -1, el⟩, ⟨18, -1, 0, 0⟩]) E [⟨g1 + 1 + 1 + 1, 0, false, 0, v6, [(C.length : Int) + (2 : Nat)]⟩, ⟨g1 + 1 + 1, 0, true, (C.length : Int) + (3 : Nat), .slice none 0 0, []⟩, ⟨g1 + 1, 0, true, (C.length : Int) + (1 : Nat), .slice none 0 0, []⟩, ⟨g1, 0, true, (C.length : Int), .slice none 0 0, []⟩, ⟨mg, mo, false, 0, mv, []⟩]) := hide_ (by
    have q := HN9.out
    rw [app_one C [⟨10, first, 0, 0⟩, ⟨12, 0, (C.length : Int), 0⟩, ⟨19, 0, 0, 0⟩, ⟨17, -1, -1, el⟩] ⟨18, -1, 0, 0⟩ [⟨10, first, 0, 0⟩, ⟨12, 0, (C.length : Int), 0⟩, ⟨19, 0, 0, 0⟩, ⟨17, -1, -1, el⟩, ⟨18, -1, 0, 0⟩] rfl] at q
    exact q)
  clear HN9 HM9
  have HC10 := hide_ (set_any B gb vT vL (C ++ [⟨10, first, 0, 0⟩, ⟨12, 0, (C.length : Int), 0⟩, ⟨19, 0, 0, 0⟩, ⟨17, -1, -1, el⟩, ⟨18, -1, 0, 0⟩]) E [] [⟨g1 + 1 + 1, 0, true, (C.length : Int) + (3 : Nat), .slice none 0 0, []⟩, ⟨g1 + 1, 0, true, (C.length : Int) + (1 : Nat), .slice none 0 0, []⟩, ⟨g1, 0, true, (C.length : Int), .slice none 0 0, []⟩, ⟨mg, mo, false, 0, mv, []⟩] ⟨g1 + 1 + 1 + 1, 0, false, 0, v6, [(C.length : Int) + (2 : Nat)]⟩ w10 (by first | omega | (simp; omega)) (by simp) (hide_ (fun k hk => by simp only [List.mem_singleton] at hk; subst hk; simp; omega)) HM10)
  go_upto_region 15 with (go_at_call 35; refine HC10.out.mono ?_; rintro e w11 ⟨rfl, HN10, HL10⟩)
  have HKt11 := hide_ (HL10.out.blk HKt10.out (by unfold own4; decide))
  have HK11 := hide_ (HK10.out.trans HL10.out)
  clear HL10 HK10 HKt10 HC10
  have HM11 : Hid (Mb w11 B gb vT vL (C ++ [⟨10, first, 0, 0⟩, ⟨12, 0, (C.length : Int), 0⟩, ⟨19, 0, (C.length : Int) + (5 : Nat), 0⟩, ⟨17, -1, -1, el⟩, ⟨18, -1, 0, 0⟩]) E [⟨g1 + 1 + 1 + 1, 0, true, (C.length : Int) + (5 : Nat), v6, [(C.length : Int) + (2 : Nat)]⟩, ⟨g1 + 1 + 1, 0, true, (C.length : Int) + (3 : Nat), .slice none 0 0, []⟩, ⟨g1 + 1, 0, true, (C.length : Int) + (1 : Nat), .slice none 0 0, []⟩, ⟨g1, 0, true, (C.length : Int), .slice none 0 0, []⟩, ⟨mg, mo, false, 0, mv, []⟩]) := hide_ (by
    have q := HN10.out
    rw [len_off C [⟨10, first, 0, 0⟩, ⟨12, 0, (C.length : Int), 0⟩, ⟨19, 0, 0, 0⟩, ⟨17, -1, -1, el⟩, ⟨18, -1, 0, 0⟩] 5 rfl] at q
    rw [patL_off _ C [⟨10, first, 0, 0⟩, ⟨12, 0, (C.length : Int), 0⟩, ⟨19, 0, 0, 0⟩, ⟨17, -1, -1, el⟩, ⟨18, -1, 0, 0⟩] [⟨10, first, 0, 0⟩, ⟨12, 0, (C.length : Int), 0⟩, ⟨19, 0, (C.length : Int) + (5 : Nat), 0⟩, ⟨17, -1, -1, el⟩, ⟨18, -1, 0, 0⟩] 2 ⟨19, 0, 0, 0⟩ rfl rfl] at q
    exact q)
  clear HN10 HM10
  have HC11 := hide_ (layTo_old B gb vT vL (C ++ [⟨10, first, 0, 0⟩, ⟨12, 0, (C.length : Int), 0⟩, ⟨19, 0, (C.length : Int) + (5 : Nat), 0⟩, ⟨17, -1, -1, el⟩, ⟨18, -1, 0, 0⟩]) E [⟨g1 + 1 + 1 + 1, 0, true, (C.length : Int) + (5 : Nat), v6, [(C.length : Int) + (2 : Nat)]⟩, ⟨g1 + 1 + 1, 0, true, (C.length : Int) + (3 : Nat), .slice none 0 0, []⟩, ⟨g1 + 1, 0, true, (C.length : Int) + (1 : Nat), .slice none 0 0, []⟩, ⟨g1, 0, true, (C.length : Int), .slice none 0 0, []⟩, ⟨mg, mo, false, 0, mv, []⟩] ⟨g1 + 1 + 1, 0, true, (C.length : Int) + (3 : Nat), .slice none 0 0, []⟩ 15 0 w11 (by first | omega | (simp; omega)) (by simp) rfl HM11)
  go_wp2_with (go_at_call 30; refine HC11.out.mono ?_; rintro e w12 ⟨rfl, HN11, HL11⟩)
  have HKt12 := hide_ (HL11.out.blk HKt11.out (by unfold own4; decide))
  have HK12 := hide_ (HK11.out.trans HL11.out)
  clear HL11 HK11 HKt11 HC11
  have HM12 : Hid (Mb w12 B gb vT vL (C ++ [⟨10, first, 0, 0⟩, ⟨12, 0, (C.length : Int), 0⟩, ⟨19, 0, (C.length : Int) + (5 : Nat), 0⟩, ⟨17, -1, -1, el⟩, ⟨18, -1, 0, 0⟩, ⟨15, 0, (C.length : Int) + (3 : Nat), 0⟩]) E [⟨g1 + 1 + 1 + 1, 0, true, (C.length : Int) + (5 : Nat), v6, [(C.length : Int) + (2 : Nat)]⟩, ⟨g1 + 1 + 1, 0, true, (C.length : Int) + (3 : Nat), .slice none 0 0, []⟩, ⟨g1 + 1, 0, true, (C.length : Int) + (1 : Nat), .slice none 0 0, []⟩, ⟨g1, 0, true, (C.length : Int), .slice none 0 0, []⟩, ⟨mg, mo, false, 0, mv, []⟩]) := hide_ (by
    have q := HN11.out
    rw [app_one C [⟨10, first, 0, 0⟩, ⟨12, 0, (C.length : Int), 0⟩, ⟨19, 0, (C.length : Int) + (5 : Nat), 0⟩, ⟨17, -1, -1, el⟩, ⟨18, -1, 0, 0⟩] ⟨15, 0, (C.length : Int) + (3 : Nat), 0⟩ [⟨10, first, 0, 0⟩, ⟨12, 0, (C.length : Int), 0⟩, ⟨19, 0, (C.length : Int) + (5 : Nat), 0⟩, ⟨17, -1, -1, el⟩, ⟨18, -1, 0, 0⟩, ⟨15, 0, (C.length : Int) + (3 : Nat), 0⟩] rfl] at q
    exact q)
  clear HN11 HM11
  go_end0
  refine ⟨rfl, hide_ ⟨[⟨10, first, 0, 0⟩, ⟨12, 0, (C.length : Int), 0⟩, ⟨19, 0, (C.length : Int) + (5 : Nat), 0⟩, ⟨17, -1, -1, el⟩, ⟨18, -1, 0, 0⟩, ⟨15, 0, (C.length : Int) + (3 : Nat), 0⟩], [], mv, HM12.out.sub (by simp), by simp, ?_, ?_, by simp [itV]⟩, HK12⟩
  · intro k hk
    cases hk
  · rw [patL_nil]
    unfold itV
    simp [hb]
    omega
end Go.Proofs.Ytepmgbfdmbogiaa
