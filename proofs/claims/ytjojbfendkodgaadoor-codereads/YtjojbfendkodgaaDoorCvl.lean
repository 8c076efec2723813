/- Contracts of the document's own functions (mortiseref02). -/
import Derived.Test.YtjojbfendkodgaaDoorCvd
import Derived.Test.YtjojbfendkodgaaDoorPush
namespace Go.Proofs.YtjojbfendkodgaaDoor
open Go.RowKit
set_option linter.unusedVariables false

theorem rfault_any (k : Nat) (c : Int) (w : World) (hk : k ≤ 9) (h0 : 0 ≤ c) :
    Calls Tryd.prog 77 #[.int .i64 k, .int .u8 c] w fun e w' => e = .returned (.bool (flt k c)) ∧ w = w' := by
  by_cases h9 : k = 9
  · subst h9
    by_cases h1 : 1 < c
    · have e : flt 9 c = true := (flt_iff 9 c).2 (.inr ⟨rfl, h1⟩)
      rw [e]
      go_enter Tryd.func77, Tryd.ntmps77
      go_wp2
      go_ret
      exact ⟨rfl, rfl⟩
    · have e : flt 9 c = (c == 0) := by simp [flt, h1]
      rw [e]
      have d1 : decide (1 < c) = false := decide_eq_false h1
      go_enter Tryd.func77, Tryd.ntmps77
      go_wp2
      go_ret
      exact ⟨ret_bb (by simp), rfl⟩
  · have h9' : ¬ (9 : Int) ≤ k := by omega
    by_cases h1 : 0 < k
    · have h1' : (0 : Int) < k := by omega
      have e : flt k c = (c == 0) := by simp [flt, h1, h9]
      rw [e]
      go_enter Tryd.func77, Tryd.ntmps77
      go_wp2
      go_ret
      exact ⟨rfl, rfl⟩
    · obtain rfl : k = 0 := by omega
      have e : flt 0 c = false := (flt_no 0 c).2 ⟨by omega, by omega⟩
      rw [e]
      go_enter Tryd.func77, Tryd.ntmps77
      go_wp2
      go_ret
      exact ⟨rfl, rfl⟩

theorem val_drop (l : List Int) (j : Nat) (h : j < l.length) : val (l.drop j) = l.getD j 0 % 128 + 128 * val (l.drop (j + 1)) := by rw [drop_cons l j h, val]
theorem val_drop_le : ∀ (j : Nat) (l : List Int), val (l.drop j) ≤ val l
  | 0, l => Int.le_refl _
  | j + 1, [] => by simp
  | j + 1, c :: l => by
    have h1 := val_drop_le j l
    have h2 := val_nonneg l
    rw [List.drop_succ_cons, val]
    omega
set_option maxHeartbeats 400000 in
theorem rvalue_any (a : Option Addr) (m cap : Nat) (l : List Int) (w : World) (hl : l.length = m) (hm : m ≤ maxLen) (hrow : Row .u8 w a l) (hb : Bys l) (hlt : val l < 18446744073709551616) :
    Calls Tryd.prog 78 #[.slice a m cap] w fun e w' => e = .returned (.int .u64 (val l)) ∧ w = w' := by
  unfold maxLen at hm
  have HR : Hid (Row .u8 w a l) := hrow
  have HL : Hid (l.length = m) := hl
  have HBy : Hid (Bys l) := hb
  have HLT : Hid (val l < 18446744073709551616) := hlt
  clear hrow hl hb hlt
  go_enter Tryd.func78, Tryd.ntmps78
  go_wp2
  go_loop [3, 4] (fun v i => ∃ j : Nat, j ≤ m ∧ i = .int .i64 ((j : Int) - 1) ∧ v = .int .u64 (val (l.drop j))) (fun _ i => (intOf i + 1).toNat)
  case atStart =>
    refine ⟨m, Nat.le_refl _, rfl, ?_⟩
    rw [← HL.out, List.drop_length]
    rfl
  case round =>
    obtain ⟨j, hj, rfl, rfl⟩ := hrel
    by_cases h0 : 0 < j
    · obtain ⟨i, rfl⟩ : ∃ i, j = i + 1 := ⟨j - 1, by omega⟩
      obtain ⟨b, off, rfl, _, hcs⟩ := HR.out.open (by have := HL.out; omega)
      have hc := hcs i (by have := HL.out; omega)
      clear hcs
      have hby := HBy.out.at i
      have hV := val_drop l i (by have := HL.out; omega)
      have hle := val_drop_le i l
      obtain ⟨x, hx⟩ : ∃ x, Hid (val (l.drop i) = x) := ⟨_, rfl⟩
      rw [hx.out] at hV hle
      have h1 := val_nonneg (l.drop (i + 1))
      have hlt := HLT.out
      generalize l.getD i 0 = c at *
      generalize val (l.drop (i + 1)) = u at *
      generalize val l = y at *
      have hi0 : (0 : Int) ≤ i := by omega
      have him : (i : Int) < m := by omega
      have e1 : ((i + 1 : Nat) : Int) - 1 = i := by omega
      rw [e1]
      have hu : IntKind.u64.wrap (u * 128) = u * 128 := by rw [IntKind.wrap_u64]; omega
      have hu2 : IntKind.u64.wrap (u * 128 + c % 128) = x := by rw [IntKind.wrap_u64]; omega
      go_wp2
      go_round
      case rel => exact ⟨i, by omega, by go_num, by rw [hx.out, hV]⟩
      case measure => simp [intOf]
    · obtain rfl : j = 0 := by omega
      go_wp2
      go_ret
      exact ⟨rfl, rfl⟩

/-! ### Put, Size -/
set_option maxHeartbeats 1000000 in
theorem rput_any (n : Nat) (w : World) (hn : n < 18446744073709551616) :
    Calls Tryd.prog 62 #[.int .u64 n] w fun e w' => ∃ g cap, e = .returned (.slice (some ⟨g, 0, none⟩) (form n).length cap) ∧ Hid (Row .u8 w' (some ⟨g, 0, none⟩) (form n)) ∧ Below w.heap.size w w' := by
  go_enter Tryd.func62, Tryd.ntmps62
  go_wp2
  go_loopw [0, 3] (fun x y wr => ∃ (k m : Nat) (l : List Int) (v : Value), k ≤ n ∧ x = .int .u64 (k : Int) ∧ v = y ∧ Hid (form n = l ++ form k) ∧ Hid (l.length = m) ∧ Hid (wr.ownsRow w.heap.size 5 1 v m (cellsL .u8 l)) ∧ Below w.heap.size w wr) (fun x _ _ => (intOf x).toNat)
  case atStart => exact ⟨n, 0, [], _, Nat.le_refl _, rfl, rfl, rfl, rfl, World.ownsRow_nil _ _ _ _, Below.refl _ _⟩
  case round =>
    obtain ⟨k, m, l, v, hkn, rfl, rfl, HE, HM, HO, hBk⟩ := hrel
    have hm10 : m ≤ 10 := by
      have h1 := form_ten n hn
      rw [HE.out, List.length_append, HM.out] at h1
      omega
    by_cases h127 : k < 128
    · obtain ⟨g, cap, w2, hr, ho, hU, _⟩ := run_push E23 wr 34 w.heap.size v m l HO.out (k : Int) (by unfold maxLen; omega) (by omega) hBk.size
      have R1 : Hid _ := hr
      have hB2 : Below w.heap.size w w2 := hBk.trans (hU.below _ hBk.size (fun k hk => (HO.out.lt k hk).1))
      have hk1 : ¬ (127 : Int) < k := by omega
      clear hr hU
      go_wp2_with (at_builtin; have _t := R1; refine wpList_append_run rfl (.tmp 15) (.tmp 18) 34 34 rfl rfl rfl R1.out ?_; clear R1)
      go_ret
      have e : form n = l ++ [(k : Int)] := by rw [HE.out, form_small h127]
      have hlen : (form n).length = m + 1 := by rw [e, List.length_append, HM.out]; rfl
      refine ⟨g, ⟨cap, by rw [hlen]; rfl⟩, ?_, hB2⟩
      obtain ⟨a, c, h1, h2, _⟩ := own_open ho (by rw [List.length_append, HM.out]; rfl)
      injection h1 with h1
      subst h1
      rw [e]
      exact h2
    · obtain ⟨g, cap, w2, hr, ho, hU, _⟩ := run_push E23 wr 34 w.heap.size v m l HO.out ((k % 128 + 128 : Nat) : Int) (by unfold maxLen; omega) (by omega) hBk.size
      have R1 : Hid _ := hr
      have hB2 : Below w.heap.size w w2 := hBk.trans (hU.below _ hBk.size (fun k hk => (HO.out.lt k hk).1))
      have hk1 : (127 : Int) < k := by omega
      have e8 : ((k % 128 + 128 : Nat) : Int) = (k : Int) % 128 + 128 := by omega
      rw [e8] at R1 ho
      clear hr hU e8
      go_wp2_with (at_builtin; have _t := R1; refine wpList_append_run rfl (.tmp 6) (.tmp 11) 34 34 rfl rfl rfl R1.out ?_; clear R1)
      go_roundw
      case rel =>
        refine ⟨k / 128, m + 1, l ++ [(k : Int) % 128 + 128], _, by omega, by simp, rfl, ?_, ?_, ho, hB2⟩
        · show _ = _
          rw [HE.out, form_big h127, List.append_assoc]
          congr 2
        · show _ = _
          rw [List.length_append, HM.out]
          rfl
      case measure => simp [intOf]; omega
/-! ### Get -/
set_option maxHeartbeats 1000000 in
theorem rget_any (a : Option Addr) (m cap : Nat) (l : List Int) (w : World) (hl : l.length = m) (hmc : m ≤ cap) (hcm : cap ≤ maxLen) (hrow : Row .u8 w a l) (hb : Bys l) :
    Calls Tryd.prog 61 #[.slice a m cap] w fun e w' => ∃ n u r, GetR l n u r ∧ e = .returned (.tuple #[.int .u64 n, .int .i64 u, .int .i64 r]) ∧ w = w' := by
  unfold maxLen at hcm
  have HR : Hid (Row .u8 w a l) := hrow
  have HL : Hid (l.length = m) := hl
  have HBy : Hid (Bys l) := hb
  clear hrow hl hb
  go_enter Tryd.func61, Tryd.ntmps61
  go_wp2
  go_loop [5] (fun i => ∃ k : Nat, k ≤ m ∧ i = .int .i64 k ∧ Hid (Good l k)) (fun i => m - (intOf i).toNat)
  case atStart => exact ⟨0, Nat.zero_le _, rfl, Good.zero l⟩
  case round =>
    obtain ⟨k, hk, rfl, HG⟩ := hrel
    by_cases hlt : k < m
    · have hlt' : (k : Int) < m := by omega
      obtain ⟨b, off, rfl, _, hcs⟩ := HR.out.open (by have := HL.out; omega)
      have hc := hcs k (by have := HL.out; omega)
      clear hcs
      have hL := HL.out
      have hby := HBy.out.at k
      have h9 := HG.out.1
      obtain ⟨c, hcE⟩ : ∃ c, c = l.getD k 0 := ⟨_, rfl⟩
      rw [← hcE] at hc hby
      obtain ⟨hby0, hby1⟩ := hby
      have HC : Hid (c = l.getD k 0) := hcE
      clear hcE
      have Hf : Hid (∃ f, flt k c = f) := ⟨_, rfl⟩
      by_cases hf : flt k c = true
      · go_wp2_with (go_at_call 77; refine (rfault_any k c _ h9 hby0).mono ?_; rintro e w' ⟨rfl, rfl⟩; rw [hf])
        go_ret3
        exact ⟨_, _, _, .inr (.inl ⟨k, by omega, HG.out, by rw [← HC.out]; exact hf, rfl, rfl, rfl⟩), rfl, rfl⟩
      · have hf' : flt k c = false := by simpa using hf
        by_cases h128 : c < 128
        · have HV : Hid (val (l.take (k + 1)) < 18446744073709551616) := val_u64 l k (by omega) h9 (by rw [← HC.out]; exact hf') HBy.out
          have HLk : Hid ((l.take (k + 1)).length = k + 1) := by show _ = _; simp; omega
          have hkc : (k : Int) + 1 ≤ cap := by omega
          go_wp2_with (first | (go_at_call 77; refine (rfault_any k c _ h9 hby0).mono ?_; rintro e w' ⟨rfl, rfl⟩; rw [hf']) | (go_at_call 78; refine (rvalue_any _ (k + 1) _ (l.take (k + 1)) _ HLk.out (by unfold maxLen; omega) (HR.out.take _) (HBy.out.take _) HV.out).mono ?_; rintro e w' ⟨rfl, rfl⟩))
          go_ret3
          exact ⟨_, k + 1, _, .inr (.inr ⟨k, by omega, HG.out, by rw [← HC.out]; exact hf', by rw [← HC.out]; exact h128, rfl, rfl, rfl⟩), by simp, rfl⟩
        · go_wp2_with (go_at_call 77; refine (rfault_any k c _ h9 hby0).mono ?_; rintro e w' ⟨rfl, rfl⟩; rw [hf'])
          go_round
          case rel => exact ⟨k + 1, by omega, by go_num, HG.out.next (by omega) (by rw [← HC.out]; exact hf') (by rw [← HC.out]; omega)⟩
          case measure => simp [intOf]; omega
    · obtain rfl : k = m := by omega
      go_wp2
      go_ret3
      have hL := HL.out
      have hg := HG.out
      exact ⟨_, k, _, .inl ⟨by rw [hL]; exact hg, rfl, hL.symm, rfl⟩, rfl, rfl⟩
theorem rget_at (a : Option Addr) (m cap : Nat) (l : List Int) (w : World) (n : Int) (u : Nat) (r : Int) (hg : GetR l n u r) (hl : l.length = m) (hmc : m ≤ cap) (hcm : cap ≤ maxLen) (hrow : Row .u8 w a l) (hb : Bys l) :
    Calls Tryd.prog 61 #[.slice a m cap] w fun e w' => e = .returned (.tuple #[.int .u64 n, .int .i64 u, .int .i64 r]) ∧ w = w' := by
  refine (rget_any a m cap l w hl hmc hcm hrow hb).mono ?_
  rintro e w' ⟨n', u', r', h1, rfl, rfl⟩
  obtain ⟨rfl, rfl, rfl⟩ := hg.det h1
  exact ⟨rfl, rfl⟩
end Go.Proofs.YtjojbfendkodgaaDoor
