/- A node's text up to its first kid's; what closes it. -/
import Derived.Test.YtlbgdgobhiokpaaDoorH
namespace Go.Proofs.YtlbgdgobhiokpaaDoor
open Go.RowKit
set_option linter.unusedVariables false

def beginT (x : Nd) : List Int :=
  if x.1 = 1 then digs x.2.1 else if x.1 = 2 then (if x.2.1 = 1 then [116, 114, 117, 101] else [102, 97, 108, 115, 101]) else if x.1 = 3 then [91] else if x.1 = 4 then [123] else if x.1 = 6 then [60] ++ digs x.2.1 ++ [58]
  else if x.2.2 = 0 then [110, 111, 110, 101] else [115, 111, 109, 101, 32]
def boolT (b : Bool) : List Int := if b = true then [116, 114, 117, 101] else [102, 97, 108, 115, 101]
def endT (k : Int) : List Int := if k = 3 then [93] else if k = 4 then [125] else if k = 6 then [62] else []
def endS (k : Int) : ByteArray := strOfNums (endT k)
theorem beginT_len (x : Nd) : (beginT x).length ≤ 23 := by
  have := digs_len x.2.1
  unfold beginT
  split <;> (try split) <;> (try split) <;> (try split) <;> (try split) <;> (try split) <;> simp <;> omega
theorem endT_len (k : Int) : (endT k).length ≤ 1 := by
  unfold endT
  split <;> (try split) <;> (try split) <;> simp
theorem ending_any (k : Int) (w : World) : Calls Tryd.prog 35 #[.int .i64 k] w fun e w' => e = .returned (.string (endS k)) ∧ w = w' := by
  go_enter Tryd.func35, Tryd.ntmps35
  by_cases h3 : k = 3
  · subst h3; go_wp2; go_ret; exact ⟨rfl, rfl⟩
  by_cases h4 : k = 4
  · subst h4; go_wp2; go_ret; exact ⟨rfl, rfl⟩
  by_cases h6 : k = 6
  · subst h6; go_wp2; go_ret; exact ⟨rfl, rfl⟩
  · have h : Hid (endS k = ByteArray.mk #[]) := by show _ = _; rw [endS, endT, if_neg h3, if_neg h4, if_neg h6]; rfl
    go_wp2
    go_ret
    exact ⟨by rw [h.out]; rfl, rfl⟩
set_option maxRecDepth 100000 in
set_option maxHeartbeats 4000000 in
theorem bool_any (B : Nat) (b : Bool) (v : Value) (l : List Int) (w : World) (h : Hid (Txt B w v l)) (hl : l.length ≤ 1000000000) (hB : B ≤ w.heap.size) :
    Calls Tryd.prog 59 #[v, .bool b] w fun e w' => ∃ v', e = .returned v' ∧ Hid (Txt B w' v' (l ++ boolT b)) ∧ Hid (Kept B w w') := by
  have key : Calls Tryd.prog 72 #[v, .bool b] w fun e w' => ∃ v', e = .returned v' ∧ Hid (Txt B w' v' (l ++ boolT b)) ∧ Hid (Kept B w w') := by
    go_enter Tryd.func72, Tryd.ntmps72
    cases b with
    | true =>
      obtain ⟨v', w', r1, o1, k1⟩ := run_str h.out ⟨#[116, 114, 117, 101]⟩ [116, 114, 117, 101] rfl (by simp) hl hB
      have R1 : Hid _ := r1
      have O1 : Hid _ := o1
      have K1 : Hid _ := k1
      clear r1 o1 k1
      go_wp2_with (at_builtin; have _t := R1; refine wpList_append_run rfl (.tmp 6) (.const (.string ⟨#[116, 114, 117, 101]⟩)) 41 9 rfl rfl rfl R1.out ?_; clear R1)
      go_ret
      exact ⟨v', rfl, O1, K1⟩
    | false =>
      obtain ⟨v', w', r1, o1, k1⟩ := run_str h.out ⟨#[102, 97, 108, 115, 101]⟩ [102, 97, 108, 115, 101] rfl (by simp) hl hB
      have R1 : Hid _ := r1
      have O1 : Hid _ := o1
      have K1 : Hid _ := k1
      clear r1 o1 k1
      go_wp2_with (at_builtin; have _t := R1; refine wpList_append_run rfl (.tmp 8) (.const (.string ⟨#[102, 97, 108, 115, 101]⟩)) 41 9 rfl rfl rfl R1.out ?_; clear R1)
      go_ret
      exact ⟨v', rfl, O1, K1⟩
  go_enter Tryd.func59, Tryd.ntmps59
  go_wp2_with fail
  refine key.mono ?_; rintro e w1 ⟨v', rfl, h1, h2⟩
  go_wp2
  go_ret
  exact ⟨v', rfl, h1, h2⟩
set_option maxRecDepth 100000 in
set_option maxHeartbeats 8000000 in
theorem begin_any (B : Nat) (x : Nd) (v : Value) (l : List Int) (w : World) (hx : right x = true) (hx0 : 0 ≤ x.2.1) (h : Hid (Txt B w v l)) (hl : l.length ≤ 100000000) (hB : B ≤ w.heap.size) (ht : Hid (Tab B w)) :
    Calls Tryd.prog 34 #[v, ndv x] w fun e w' => ∃ v', e = .returned v' ∧ Hid (Txt B w' v' (l ++ beginT x)) ∧ Hid (Kept B w w') := by
  obtain ⟨k, n, c⟩ := x
  have hr := (right_iff _).1 hx
  simp only at hr hx0
  clear hx
  obtain ⟨hk, hn, hc1, hc2⟩ := hr
  have hn2 : n < 18446744073709551616 := by unfold mostN at hn; split at hn <;> (try split at hn) <;> (try split at hn) <;> omega
  obtain ⟨n, rfl⟩ := Int.eq_ofNat_of_zero_le hx0
  clear hn hc1 hc2
  unfold ndv
  obtain ⟨wB, hwB⟩ : ∃ wB, wB = w.alloc (.cells #[.int .i64 k, .int .u64 n, .int .i64 c] 37) := ⟨_, rfl⟩
  have HBB : Hid (Below w.heap.size w wB) := by rw [hwB]; exact (Below.refl _ _).alloc (Nat.le_refl _) _
  have KB : Hid (Blk wB w.heap.size 37 [.int .i64 k, .int .u64 n, .int .i64 c]) := by rw [hwB]; exact Blk.newA w _ 37
  have HT : Hid (Txt B wB v l) := h.out.later HBB.out
  have HTab : Hid (Tab B wB) := ht.out.below (HBB.out.mono hB)
  have hBs : B ≤ wB.heap.size := Nat.le_trans hB HBB.out.size
  have HK : Hid (Kept B w wB) := Kept.of_below hB HBB.out
  have c0 : wB.cell? ⟨w.heap.size, 0, none⟩ = some (.int .i64 k) := KB.out.cell 0
  have c1 : wB.cell? ⟨w.heap.size, 1, none⟩ = some (.int .u64 n) := KB.out.cell 1
  have c2 : wB.cell? ⟨w.heap.size, 2, none⟩ = some (.int .i64 c) := KB.out.cell 2
  go_enter Tryd.func34, Tryd.ntmps34
  go_upto_region 1 with fail
  rw [← hwB]
  clear hwB h ht
  by_cases h1 : k = 1
  · subst h1
    go_wp2_with fail
    refine (uint_any B n v l wB (by omega) HT (by omega) hBs HTab).mono ?_; rintro e w1 ⟨v', rfl, H1, H2⟩
    go_wp2
    go_ret
    exact ⟨v', rfl, H1, HK.out.trans H2.out⟩
  by_cases h2 : k = 2
  · subst h2
    go_wp2_with fail
    refine (bool_any B (decide ((n : Int) = 1)) v l wB HT (by omega) hBs).mono ?_; rintro e w1 ⟨v', rfl, H1, H2⟩
    go_wp2
    go_ret
    have e : beginT (2, (n : Int), c) = boolT (decide ((n : Int) = 1)) := by simp [beginT, boolT]
    exact ⟨v', rfl, e ▸ H1, HK.out.trans H2.out⟩
  by_cases h3 : k = 3
  · subst h3
    obtain ⟨v', w', r1, o1, k1⟩ := run_byte HT.out 91 (by omega) hBs
    have R1 : Hid _ := r1
    have O1 : Hid _ := o1
    have K1 : Hid _ := k1
    clear r1 o1 k1
    go_wp2_with (at_builtin; have _t := R1; refine wpList_append_run rfl (.tmp 22) (.tmp 23) 41 41 rfl rfl rfl R1.out ?_; clear R1)
    go_ret
    exact ⟨v', rfl, O1, HK.out.trans K1.out⟩
  by_cases h4 : k = 4
  · subst h4
    obtain ⟨v', w', r1, o1, k1⟩ := run_byte HT.out 123 (by omega) hBs
    have R1 : Hid _ := r1
    have O1 : Hid _ := o1
    have K1 : Hid _ := k1
    clear r1 o1 k1
    go_wp2_with (at_builtin; have _t := R1; refine wpList_append_run rfl (.tmp 27) (.tmp 28) 41 41 rfl rfl rfl R1.out ?_; clear R1)
    go_ret
    exact ⟨v', rfl, O1, HK.out.trans K1.out⟩
  by_cases h6 : k = 6
  · subst h6
    obtain ⟨v1, w1, r1, o1, k1⟩ := run_byte HT.out 60 (by omega) hBs
    have R1 : Hid _ := r1
    have O1 : Hid _ := o1
    have K1 : Hid _ := k1
    have d1 : w1.cell? ⟨w.heap.size, 1, none⟩ = some (.int .u64 n) := (k1.oth _ _ _ (by decide) KB.out).cell 1
    have HTab1 : Hid (Tab B w1) := HTab.out.below k1.bel
    have hB1 : B ≤ w1.heap.size := Nat.le_trans hBs k1.bel.size
    clear r1 o1 k1
    go_wp2_with (first | (at_builtin; have _t := R1; refine wpList_append_run rfl (.tmp 32) (.tmp 33) 41 41 rfl rfl rfl R1.out ?_; clear R1) | (go_at_call 58; fail))
    refine (uint_any B n v1 (l ++ [60]) w1 (by omega) O1 (by simp; omega) hB1 HTab1).mono ?_; rintro e w2 ⟨v2, rfl, H1, H2⟩
    obtain ⟨v3, w3, r3, o3, k3⟩ := run_byte H1.out 58 (by have := digs_len n; simp; omega) (Nat.le_trans hB1 H2.out.bel.size)
    have R3 : Hid _ := r3
    have O3 : Hid _ := o3
    have K3 : Hid _ := k3
    clear r3 o3 k3
    go_wp2_with (at_builtin; have _t := R3; refine wpList_append_run rfl (.tmp 39) (.tmp 40) 41 41 rfl rfl rfl R3.out ?_; clear R3)
    go_ret
    have e : l ++ beginT (6, (n : Int), c) = l ++ [60] ++ digs n ++ [58] := by simp [beginT]
    exact ⟨v3, rfl, e ▸ O3, ((HK.out.trans K1.out).trans H2.out).trans K3.out⟩
  · obtain rfl : k = 5 := by omega
    by_cases h0 : c = 0
    · subst h0
      obtain ⟨v', w', r1, o1, k1⟩ := run_str HT.out ⟨#[110, 111, 110, 101]⟩ [110, 111, 110, 101] rfl (by simp) (by omega) hBs
      have R1 : Hid _ := r1
      have O1 : Hid _ := o1
      have K1 : Hid _ := k1
      clear r1 o1 k1
      go_wp2_with (at_builtin; have _t := R1; refine wpList_append_run rfl (.tmp 45) (.const (.string ⟨#[110, 111, 110, 101]⟩)) 41 9 rfl rfl rfl R1.out ?_; clear R1)
      go_ret
      exact ⟨v', rfl, O1, HK.out.trans K1.out⟩
    · obtain ⟨v', w', r1, o1, k1⟩ := run_str HT.out ⟨#[115, 111, 109, 101, 32]⟩ [115, 111, 109, 101, 32] rfl (by simp) (by omega) hBs
      have R1 : Hid _ := r1
      have O1 : Hid _ := o1
      have K1 : Hid _ := k1
      have e : Hid (beginT (5, (n : Int), c) = [115, 111, 109, 101, 32]) := by show _ = _; simp [beginT, h0]
      have hb : (c == 0) = false := by simpa using h0
      clear r1 o1 k1 h1 h2 h3 h4 h6 hk c1 HT HTab KB HBB h0
      go_wp2_with (at_builtin; have _t := R1; refine wpList_append_run rfl (.tmp 47) (.const (.string ⟨#[115, 111, 109, 101, 32]⟩)) 41 9 rfl rfl rfl R1.out ?_; clear R1)
      go_ret
      exact ⟨v', rfl, e.out ▸ O1, HK.out.trans K1.out⟩
end Go.Proofs.YtlbgdgobhiokpaaDoor
