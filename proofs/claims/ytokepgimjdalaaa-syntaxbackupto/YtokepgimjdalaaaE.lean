/- A number, by the program and by the document. -/
import Derived.Test.YtokepgimjdalaaaD
namespace Go.Proofs.Ytokepgimjdalaaa
open Go.RowKit
set_option linter.unusedVariables false

def numV (l : List UInt8) : Int := if numOk l then (num l : Int) else 0
theorem numV_f {l : List UInt8} (h : numOk l = false) : numV l = 0 := by unfold numV; rw [h]; rfl
theorem numV_t {l : List UInt8} (h : numOk l = true) : numV l = num l := by unfold numV; rw [h]; rfl
theorem allD_at {s : ByteArray} (h : allD s) (k : Nat) (hk : k < s.size) : 48 ≤ ((s[k]'hk).toNat : Int) ∧ ((s[k]'hk).toNat : Int) ≤ 57 := by
  have := h k hk
  simp [digit] at this
  omega
set_option maxRecDepth 100000 in
set_option maxHeartbeats 4000000 in
theorem number_any (s : ByteArray) (w : World) (hd : Hid (allD s)) (hs : s.size ≤ 65536) : Calls Try.prog 46 #[.string s] w fun e w' => e = .returned (.tuple #[.int .i64 (numV s.data.toList), .bool (numOk s.data.toList)]) ∧ w = w' := by
  go_enter Try.func46, Try.ntmps46
  by_cases hz : 1 < s.size ∧ ∀ (h : 0 < s.size), (s[0]'h).toNat = 48
  · have h1 : (1 : Int) < s.size := by omega
    have h0 : ((s[0]'(by omega)).toNat : Int) = 48 := by have := hz.2 (by omega); omega
    have HN : Hid (numOk s.data.toList = false) := numOk_zero s hz.1 (hz.2 (by omega))
    have hb : (((s[0]'(by omega)).toNat : Int) == 48) = true := by simp [h0]
    go_wp2
    go_ret2
    exact ⟨by rw [numV_f HN.out, HN.out]; rfl, rfl⟩
  have HZ : Hid _ := hide_ hz
  have key : ∀ K : Prop, ((s.size : Int) ≤ 1 → True → K) → (∀ (h1 : (1 : Int) < s.size), (((s[0]'(by omega)).toNat : Int) == 48) = false → K) → K := by
    intro K k1 k2
    by_cases h1 : (1 : Int) < s.size
    · refine k2 h1 ?_
      rw [beq_eq_false_iff_ne]
      intro e
      exact hz ⟨by omega, fun _ => by omega⟩
    · exact k1 (by omega) trivial
  refine key _ ?_ ?_ <;> clear key hz
  all_goals
    intro h1 h2
    go_wp2_with fail
    go_loopw [4, 17] (fun n i wr => ∃ k : Nat, k ≤ s.size ∧ i = .int .i64 k ∧ ∃ m : Nat, n = .int .i64 m ∧ Hid (num (s.data.toList.take k) = m) ∧ (m : Int) ≤ 2147483647 ∧ w = wr) (fun _ i _ => s.size - (intOf i).toNat)
    case atStart => exact ⟨0, Nat.zero_le _, rfl, 0, rfl, by simp [num, Hid], by decide, rfl⟩
    case round =>
      obtain ⟨k, hk, rfl, m, rfl, HM, hm, rfl⟩ := hrel
      by_cases hlt : k < s.size
      · have hlt' : (k : Int) < s.size := by omega
        have HS : Hid (num (s.data.toList.take (k + 1)) = m * 10 + ((s[k]'hlt).toNat - 48)) := by show _ = _; rw [take_snoc s k hlt, num_snoc, HM.out]
        obtain ⟨hx1, hx2⟩ := allD_at hd.out k hlt
        obtain ⟨x, hx⟩ : ∃ x : Int, ((s[k]'hlt).toNat : Int) = x := ⟨_, rfl⟩
        have HS2 : Hid (((num (s.data.toList.take (k + 1)) : Nat) : Int) = m * 10 + (x - 48)) := by show _ = _; rw [HS.out]; omega
        rw [hx] at hx1 hx2
        clear HS
        have hq : Int.tdiv (2147483647 - (x - 48)) 10 = (2147483647 - (x - 48)) / 10 := Int.tdiv_eq_ediv_of_nonneg (by omega)
        by_cases hgt : (2147483647 - (x - 48)) / 10 < (m : Int)
        · have HN : Hid (numOk s.data.toList = false) := numOk_big s (k + 1) (by have := HS2.out; omega)
          go_wp2
          go_ret2
          exact ⟨by rw [numV_f HN.out, HN.out]; rfl, rfl⟩
        · obtain ⟨y, hy⟩ : ∃ y : Nat, num (s.data.toList.take (k + 1)) = y := ⟨_, rfl⟩
          have hy2 : (y : Int) = m * 10 + (x - 48) := by rw [← hy]; exact HS2.out
          have hy3 : (y : Int) ≤ 2147483647 := by omega
          go_wp2
          go_roundw
          case rel => exact ⟨k + 1, by omega, by go_num, y, by first | go_num | (rw [hy2]; go_num), hide_ hy, hy3, by trivial⟩
          case measure => simp [intOf]; omega
      · obtain rfl : k = s.size := by omega
        have ht : s.data.toList.take s.size = s.data.toList := List.take_of_length_le (by rw [← Lib.size_eq]; exact Nat.le_refl _)
        have HM2 : Hid (num s.data.toList = m) := by have := HM.out; rw [ht] at this; exact this
        have HN : Hid (numOk s.data.toList = true) := numOk_is s HZ.out (by rw [HM2.out]; omega)
        go_wp2
        go_ret2
        exact ⟨by rw [numV_t HN.out, HN.out, HM2.out]; rfl, rfl⟩
theorem num_lt {l : List UInt8} (h : ∀ x ∈ l, x.toNat ≤ 57) : num l < 10 ^ l.length := by
  have : ∀ (r : List UInt8) (n : Nat), (∀ x ∈ r, x.toNat ≤ 57) → r.foldl (fun n d => n * 10 + (d.toNat - 48)) n < (n + 1) * 10 ^ r.length := by
    intro r
    induction r with
    | nil => intro n _; simp
    | cons d r ih =>
      intro n h
      have h1 := ih (n * 10 + (d.toNat - 48)) (fun x hx => h x (by simp [hx]))
      have h2 := h d (by simp)
      rw [List.foldl_cons, List.length_cons, Nat.pow_succ]
      refine Nat.lt_of_lt_of_le h1 ?_
      rw [Nat.mul_comm (10 ^ r.length) 10, ← Nat.mul_assoc]
      exact Nat.mul_le_mul_right _ (by omega)
  have := this l 0 h
  simpa [num] using this
end Go.Proofs.Ytokepgimjdalaaa
