/- The first place of a byte; a remark's end; a number, read twice. -/
import Derived.Test.YtokepgimjdalaaaC
import Derived.Test.YtokepgimjdalaaaB
import Derived.Lib.Bytealg
import Derived.Lib.IndexBytes
namespace Go.Proofs.Ytokepgimjdalaaa
open Go.RowKit
set_option linter.unusedVariables false

theorem idx_10 : ∀ l : List UInt8, Lib.indexByte l 10 = if (l.takeWhile inl).length = l.length then -1 else ((l.takeWhile inl).length : Int)
  | [] => rfl
  | b :: l => by
    have ih := idx_10 l
    have hl : (l.takeWhile inl).length ≤ l.length := (List.takeWhile_sublist inl).length_le
    unfold Lib.indexByte
    cases hb : inl b with
    | true =>
      have h1 : (b == 10) = false := by
        have : b.toNat ≠ 10 := by simpa [inl] using hb
        rw [beq_eq_false_iff_ne]
        intro e; subst e; exact this rfl
      rw [h1, ih]
      by_cases h2 : (l.takeWhile inl).length = l.length
      · simp [hb, h2]
      · have h3 : ¬ (((l.takeWhile inl).length : Int) = -1) := by omega
        simp [hb, h2, h3]
    | false =>
      have h1 : (b == 10) = true := by
        have h0 : b.toNat = 10 := by simpa [inl] using hb
        rw [beq_iff_eq]
        exact UInt8.toNat_inj.1 h0
      simp [h1, hb]
set_option maxRecDepth 100000 in
set_option maxHeartbeats 4000000 in
theorem index34_any (s : ByteArray) (c : Int) (w : World) : Calls Try.prog 45 #[.string s, .int .u8 c] w fun e w' => e = .returned (.int .i64 (Lib.indexByte s.data.toList c.toNat.toUInt8)) ∧ w = w' := by
  go_enter Try.func45, Try.ntmps45
  go_wp2
  rw [run_callFunc_extern Try.func49 (by kernel_rfl) (by kernel_rfl) (by kernel_rfl) (e := Extern.BytealgIndexByte.indexByte) (by kernel_rfl), Lib.run_indexByteString]
  simp only [Result.andThen]
  rw [Oper.upon_value]
  go_wp2
  go_ret
  exact ⟨rfl, rfl⟩
set_option maxRecDepth 100000 in
set_option maxHeartbeats 4000000 in
theorem index_any (s : ByteArray) (w : World) : Calls Try.prog 34 #[.string s, .int .u8 10] w fun e w' => e = .returned (.int .i64 (Lib.indexByte s.data.toList 10)) ∧ w = w' := by
  go_enter Try.func34, Try.ntmps34
  go_wp2_with fail
  refine (index34_any s 10 _).mono ?_; rintro e w' ⟨rfl, rfl⟩
  go_wp2
  go_ret
  exact ⟨rfl, rfl⟩
set_option maxRecDepth 100000 in
set_option maxHeartbeats 4000000 in
theorem remark_any (s : ByteArray) (p : Nat) (w : World) (hp : p ≤ s.size) (hs : s.size ≤ 65536) : Calls Try.prog 23 #[.string s, .int .i64 p] w fun e w' => e = .returned (.int .i64 ((p + ((s.data.toList.drop p).takeWhile inl).length : Nat) : Int)) ∧ w = w' := by
  have hp' : (p : Int) ≤ s.size := by omega
  obtain ⟨k, hk⟩ : ∃ k, ((s.data.toList.drop p).takeWhile inl).length = k := ⟨_, rfl⟩
  have HI : Hid (Lib.indexByte (s.extract p s.size).data.toList 10 = if k = s.size - p then -1 else (k : Int)) := by
    show _ = _
    rw [Lib.extract_to_end, idx_10, hk, List.length_drop, ← Lib.size_eq]
  have hkl : k ≤ s.size - p := by
    have := (List.takeWhile_sublist inl (l := s.data.toList.drop p)).length_le
    rw [hk, List.length_drop, ← Lib.size_eq] at this
    exact this
  rw [hk]
  clear hk
  go_enter Try.func23, Try.ntmps23
  go_wp2_with fail
  refine (index_any _ _).mono ?_; rintro e w' ⟨rfl, rfl⟩
  rw [HI.out]
  clear HI
  by_cases h : k = s.size - p
  · rw [if_pos h]
    go_wp2
    go_ret
    exact ⟨by simp; omega, rfl⟩
  · rw [if_neg h]
    go_wp2
    go_ret
    exact ⟨by simp, rfl⟩

/-! ### Numbers -/
theorem num_snoc (w : List UInt8) (d : UInt8) : num (w ++ [d]) = num w * 10 + (d.toNat - 48) := by simp [num]
theorem foldl_ge : ∀ (r : List UInt8) (n : Nat), n * 10 ^ r.length ≤ r.foldl (fun n d => n * 10 + (d.toNat - 48)) n
  | [], n => by simp
  | d :: r, n => by
    have := foldl_ge r (n * 10 + (d.toNat - 48))
    rw [List.foldl_cons, List.length_cons, Nat.pow_succ]
    refine Nat.le_trans ?_ this
    rw [Nat.mul_comm (10 ^ r.length) 10, ← Nat.mul_assoc]
    exact Nat.mul_le_mul_right _ (by omega)
theorem num_app_ge (u v : List UInt8) : num u ≤ num (u ++ v) := by
  unfold num
  rw [List.foldl_append]
  refine Nat.le_trans ?_ (foldl_ge v _)
  exact Nat.le_mul_of_pos_right _ (Nat.pow_pos (by decide))
theorem num_big (c : UInt8) (r : List UInt8) (h : 49 ≤ c.toNat) (hr : 10 ≤ r.length) : 2147483647 < num (c :: r) := by
  have h1 := foldl_ge r (0 * 10 + (c.toNat - 48))
  have h2 : 10 ^ 10 ≤ 10 ^ r.length := Nat.pow_le_pow_right (by decide) hr
  have h3 : 1 * 10 ^ r.length ≤ (0 * 10 + (c.toNat - 48)) * 10 ^ r.length := Nat.mul_le_mul_right _ (by omega)
  have h4 : num (c :: r) = r.foldl (fun n d => n * 10 + (d.toNat - 48)) (0 * 10 + (c.toNat - 48)) := by simp [num]
  rw [h4]
  have : (2147483647 : Nat) < 10 ^ 10 := by decide
  omega
theorem at_list (s : ByteArray) (k : Nat) (h : k < s.size) : s.data.toList[k]? = some (s[k]'h) := by
  have h2 : k < s.data.size := h
  rw [Array.getElem?_toList, Array.getElem?_eq_getElem h2]
  rfl
theorem take_snoc (s : ByteArray) (k : Nat) (h : k < s.size) : s.data.toList.take (k + 1) = s.data.toList.take k ++ [s[k]'h] := by
  rw [List.take_add_one, at_list s k h]; rfl
def allD (s : ByteArray) : Prop := ∀ k (h : k < s.size), digit (s[k]'h) = true
theorem num_le_take (s : ByteArray) (k : Nat) : num (s.data.toList.take k) ≤ num s.data.toList := by
  have := num_app_ge (s.data.toList.take k) (s.data.toList.drop k)
  rwa [List.take_append_drop] at this
theorem numOk_zero (s : ByteArray) (h : 1 < s.size) (h0 : (s[0]'(by omega)).toNat = 48) : numOk s.data.toList = false := by
  unfold numOk
  refine decide_eq_false fun hh => hh.1 ⟨by rw [← Lib.size_eq]; exact h, s[0], ?_, h0⟩
  rw [List.head?_eq_getElem?, at_list s 0 (by omega)]
theorem numOk_big (s : ByteArray) (k : Nat) (h : 2147483647 < num (s.data.toList.take k)) : numOk s.data.toList = false := by
  unfold numOk
  refine decide_eq_false fun hh => ?_
  have := num_le_take s k
  omega
theorem numOk_is (s : ByteArray) (h : ¬ (1 < s.size ∧ ∀ (h : 0 < s.size), (s[0]'h).toNat = 48)) (h2 : num s.data.toList ≤ 2147483647) : numOk s.data.toList = true := by
  unfold numOk
  refine decide_eq_true ⟨fun ⟨h3, c, h4, h5⟩ => h ?_, h2⟩
  rw [← Lib.size_eq] at h3
  refine ⟨h3, fun h6 => ?_⟩
  rw [List.head?_eq_getElem?, at_list s 0 h6] at h4
  injection h4 with h4
  rw [h4]; exact h5
end Go.Proofs.Ytokepgimjdalaaa
