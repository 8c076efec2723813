/- Contracts of the document's own functions (mortiseref02). -/
import Derived.Test.YteadmiikenpjeaaDoorCvd
import Derived.Test.YteadmiikenpjeaaDoorPush
namespace Go.Proofs.YteadmiikenpjeaaDoor
open Go.RowKit
set_option linter.unusedVariables false

theorem val_drop (l : List Int) (j : Nat) (h : j < l.length) : val (l.drop j) = l.getD j 0 % 128 + 128 * val (l.drop (j + 1)) := by rw [drop_cons l j h, val]
theorem val_drop_le : ∀ (j : Nat) (l : List Int), val (l.drop j) ≤ val l
  | 0, l => Int.le_refl _
  | j + 1, [] => by simp
  | j + 1, c :: l => by
    have h1 := val_drop_le j l
    have h2 := val_nonneg l
    rw [List.drop_succ_cons, val]
    omega
set_option maxHeartbeats 1000000 in
theorem rput_any (n : Nat) (w : World) (hn : n < 18446744073709551616) :
    Calls Tryd.prog 65 #[.int .u64 n] w fun e w' => ∃ g cap, e = .returned (.slice (some ⟨g, 0, none⟩) (form n).length cap) ∧ Hid (Row .u8 w' (some ⟨g, 0, none⟩) (form n)) ∧ Below w.heap.size w w' := by
  go_enter Tryd.func65, Tryd.ntmps65
  go_wp2
  go_loopw [0, 3] (fun x y wr => ∃ (k m : Nat) (l : List Int) (v : Value), k ≤ n ∧ x = .int .u64 (k : Int) ∧ v = y ∧ Hid (form n = l ++ form k) ∧ Hid (l.length = m) ∧ Hid (wr.ownsRow w.heap.size 5 1 v m (cellsL .u8 l)) ∧ Below w.heap.size w wr) (fun x _ _ => (intOf x).toNat)
  case atStart => exact ⟨n, 0, [], _, Nat.le_refl _, rfl, rfl, rfl, rfl, World.ownsRow_nil _ _ _ _, Below.refl _ _⟩
  case round =>
    obtain ⟨k, m, l, v, hkn, rfl, rfl, HE, HM, HO, hBk⟩ := hrel
    have hm10 : m ≤ 10 := by
      have h1 := form_ten n hn
      rw [HE.out, List.length_append, HM.out] at h1
      omega
    by_cases h127 : k < 128
    · obtain ⟨g, cap, w2, hr, ho, hU, _⟩ := run_push E23 wr 30 w.heap.size v m l HO.out (k : Int) (by unfold maxLen; omega) (by omega) hBk.size
      have R1 : Hid _ := hr
      have hB2 : Below w.heap.size w w2 := hBk.trans (hU.below _ hBk.size (fun k hk => (HO.out.lt k hk).1))
      have hk1 : ¬ (127 : Int) < k := by omega
      clear hr hU
      go_wp2_with (at_builtin; have _t := R1; refine wpList_append_run rfl (.tmp 15) (.tmp 18) 30 30 rfl rfl rfl R1.out ?_; clear R1)
      go_ret
      have e : form n = l ++ [(k : Int)] := by rw [HE.out, form_small h127]
      have hlen : (form n).length = m + 1 := by rw [e, List.length_append, HM.out]; rfl
      refine ⟨g, ⟨cap, by rw [hlen]; rfl⟩, ?_, hB2⟩
      obtain ⟨a, c, h1, h2, _⟩ := own_open ho (by rw [List.length_append, HM.out]; rfl)
      injection h1 with h1
      subst h1
      rw [e]
      exact h2
    · obtain ⟨g, cap, w2, hr, ho, hU, _⟩ := run_push E23 wr 30 w.heap.size v m l HO.out ((k % 128 + 128 : Nat) : Int) (by unfold maxLen; omega) (by omega) hBk.size
      have R1 : Hid _ := hr
      have hB2 : Below w.heap.size w w2 := hBk.trans (hU.below _ hBk.size (fun k hk => (HO.out.lt k hk).1))
      have hk1 : (127 : Int) < k := by omega
      have e8 : ((k % 128 + 128 : Nat) : Int) = (k : Int) % 128 + 128 := by omega
      rw [e8] at R1 ho
      clear hr hU e8
      go_wp2_with (at_builtin; have _t := R1; refine wpList_append_run rfl (.tmp 6) (.tmp 11) 30 30 rfl rfl rfl R1.out ?_; clear R1)
      go_roundw
      case rel =>
        refine ⟨k / 128, m + 1, l ++ [(k : Int) % 128 + 128], _, by omega, by simp, rfl, ?_, ?_, ho, hB2⟩
        · show _ = _
          rw [HE.out, form_big h127, List.append_assoc]
          congr 2
        · show _ = _
          rw [List.length_append, HM.out]
          rfl
      case measure => simp [intOf]; omega
/-! ### Get -/
end Go.Proofs.YteadmiikenpjeaaDoor
