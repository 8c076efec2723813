import Derived.Test.YtafljgjkcnbhbaaDoorPart09
import Derived.Test.YtafljgjkcnbhbaaDoorPart03
import Derived.Lib.Bytealg
import Derived.Lib.IndexBytes

/- The first place of a byte; a remark's end; a number, read twice. -/
namespace Go.Proofs.YtafljgjkcnbhbaaDoor
open Go.RowKit
set_option linter.unusedVariables false

theorem idx_10 : ∀ l : List UInt8, Lib.indexByte l 10 = if (l.takeWhile inl).length = l.length then -1 else ((l.takeWhile inl).length : Int)
  | [] => rfl
  | b :: l => by
    have ih := idx_10 l
    have hl : (l.takeWhile inl).length ≤ l.length := (List.takeWhile_sublist inl).length_le
    unfold Lib.indexByte
    cases hb : inl b with
    | true =>
      have h1 : (b == 10) = false := by
        have : b.toNat ≠ 10 := by simpa [inl] using hb
        rw [beq_eq_false_iff_ne]
        intro e; subst e; exact this rfl
      rw [h1, ih]
      by_cases h2 : (l.takeWhile inl).length = l.length
      · simp [hb, h2]
      · have h3 : ¬ (((l.takeWhile inl).length : Int) = -1) := by omega
        simp [hb, h2, h3]
    | false =>
      have h1 : (b == 10) = true := by
        have h0 : b.toNat = 10 := by simpa [inl] using hb
        rw [beq_iff_eq]
        exact UInt8.toNat_inj.1 h0
      simp [h1, hb]
set_option maxRecDepth 100000 in
set_option maxHeartbeats 4000000 in
theorem index34_any (s : ByteArray) (c : Int) (w : World) : Calls Tryd.prog 63 #[.string s, .int .u8 c] w fun e w' => e = .returned (.int .i64 (Lib.indexByte s.data.toList c.toNat.toUInt8)) ∧ w = w' := by
  go_enter Tryd.func63, Tryd.ntmps63
  go_wp2
  rw [run_callFunc_extern Tryd.func71 (by kernel_rfl) (by kernel_rfl) (by kernel_rfl) (e := Extern.BytealgIndexByte.indexByte) (by kernel_rfl), Lib.run_indexByteString]
  simp only [Result.andThen]
  rw [Oper.upon_value]
  go_wp2
  go_ret
  exact ⟨rfl, rfl⟩
set_option maxRecDepth 100000 in
set_option maxHeartbeats 4000000 in
theorem index_any (s : ByteArray) (w : World) : Calls Tryd.prog 50 #[.string s, .int .u8 10] w fun e w' => e = .returned (.int .i64 (Lib.indexByte s.data.toList 10)) ∧ w = w' := by
  go_enter Tryd.func50, Tryd.ntmps50
  go_wp2_with fail
  refine (index34_any s 10 _).mono ?_; rintro e w' ⟨rfl, rfl⟩
  go_wp2
  go_ret
  exact ⟨rfl, rfl⟩
set_option maxRecDepth 100000 in
set_option maxHeartbeats 4000000 in
theorem remark_any (s : ByteArray) (p : Nat) (w : World) (hp : p ≤ s.size) (hs : s.size ≤ 65536) : Calls Tryd.prog 33 #[.string s, .int .i64 p] w fun e w' => e = .returned (.int .i64 ((p + ((s.data.toList.drop p).takeWhile inl).length : Nat) : Int)) ∧ w = w' := by
  have hp' : (p : Int) ≤ s.size := by omega
  obtain ⟨k, hk⟩ : ∃ k, ((s.data.toList.drop p).takeWhile inl).length = k := ⟨_, rfl⟩
  have HI : Hid (Lib.indexByte (s.extract p s.size).data.toList 10 = if k = s.size - p then -1 else (k : Int)) := by
    show _ = _
    rw [Lib.extract_to_end, idx_10, hk, List.length_drop, ← Lib.size_eq]
  have hkl : k ≤ s.size - p := by
    have := (List.takeWhile_sublist inl (l := s.data.toList.drop p)).length_le
    rw [hk, List.length_drop, ← Lib.size_eq] at this
    exact this
  rw [hk]
  clear hk
  go_enter Tryd.func33, Tryd.ntmps33
  go_wp2_with fail
  refine (index_any _ _).mono ?_; rintro e w' ⟨rfl, rfl⟩
  rw [HI.out]
  clear HI
  by_cases h : k = s.size - p
  · rw [if_pos h]
    go_wp2
    go_ret
    exact ⟨by simp; omega, rfl⟩
  · rw [if_neg h]
    go_wp2
    go_ret
    exact ⟨by simp, rfl⟩

/-! ### Numbers -/
theorem num_snoc (w : List UInt8) (d : UInt8) : num (w ++ [d]) = num w * 10 + (d.toNat - 48) := by simp [num]
theorem foldl_ge : ∀ (r : List UInt8) (n : Nat), n * 10 ^ r.length ≤ r.foldl (fun n d => n * 10 + (d.toNat - 48)) n
  | [], n => by simp
  | d :: r, n => by
    have := foldl_ge r (n * 10 + (d.toNat - 48))
    rw [List.foldl_cons, List.length_cons, Nat.pow_succ]
    refine Nat.le_trans ?_ this
    rw [Nat.mul_comm (10 ^ r.length) 10, ← Nat.mul_assoc]
    exact Nat.mul_le_mul_right _ (by omega)
theorem num_app_ge (u v : List UInt8) : num u ≤ num (u ++ v) := by
  unfold num
  rw [List.foldl_append]
  refine Nat.le_trans ?_ (foldl_ge v _)
  exact Nat.le_mul_of_pos_right _ (Nat.pow_pos (by decide))
theorem num_big (c : UInt8) (r : List UInt8) (h : 49 ≤ c.toNat) (hr : 10 ≤ r.length) : 2147483647 < num (c :: r) := by
  have h1 := foldl_ge r (0 * 10 + (c.toNat - 48))
  have h2 : 10 ^ 10 ≤ 10 ^ r.length := Nat.pow_le_pow_right (by decide) hr
  have h3 : 1 * 10 ^ r.length ≤ (0 * 10 + (c.toNat - 48)) * 10 ^ r.length := Nat.mul_le_mul_right _ (by omega)
  have h4 : num (c :: r) = r.foldl (fun n d => n * 10 + (d.toNat - 48)) (0 * 10 + (c.toNat - 48)) := by simp [num]
  rw [h4]
  have : (2147483647 : Nat) < 10 ^ 10 := by decide
  omega
theorem at_list (s : ByteArray) (k : Nat) (h : k < s.size) : s.data.toList[k]? = some (s[k]'h) := by
  have h2 : k < s.data.size := h
  rw [Array.getElem?_toList, Array.getElem?_eq_getElem h2]
  rfl
theorem take_snoc (s : ByteArray) (k : Nat) (h : k < s.size) : s.data.toList.take (k + 1) = s.data.toList.take k ++ [s[k]'h] := by
  rw [List.take_add_one, at_list s k h]; rfl
def allD (s : ByteArray) : Prop := ∀ k (h : k < s.size), digit (s[k]'h) = true
theorem num_le_take (s : ByteArray) (k : Nat) : num (s.data.toList.take k) ≤ num s.data.toList := by
  have := num_app_ge (s.data.toList.take k) (s.data.toList.drop k)
  rwa [List.take_append_drop] at this
theorem numOk_zero (s : ByteArray) (h : 1 < s.size) (h0 : (s[0]'(by omega)).toNat = 48) : numOk s.data.toList = false := by
  unfold numOk
  refine decide_eq_false fun hh => hh.1 ⟨by rw [← Lib.size_eq]; exact h, s[0], ?_, h0⟩
  rw [List.head?_eq_getElem?, at_list s 0 (by omega)]
theorem numOk_big (s : ByteArray) (k : Nat) (h : 2147483647 < num (s.data.toList.take k)) : numOk s.data.toList = false := by
  unfold numOk
  refine decide_eq_false fun hh => ?_
  have := num_le_take s k
  omega
theorem numOk_is (s : ByteArray) (h : ¬ (1 < s.size ∧ ∀ (h : 0 < s.size), (s[0]'h).toNat = 48)) (h2 : num s.data.toList ≤ 2147483647) : numOk s.data.toList = true := by
  unfold numOk
  refine decide_eq_true ⟨fun ⟨h3, c, h4, h5⟩ => h ?_, h2⟩
  rw [← Lib.size_eq] at h3
  refine ⟨h3, fun h6 => ?_⟩
  rw [List.head?_eq_getElem?, at_list s 0 h6] at h4
  injection h4 with h4
  rw [h4]; exact h5
end Go.Proofs.YtafljgjkcnbhbaaDoor

/- A number, by the program and by the document. -/
namespace Go.Proofs.YtafljgjkcnbhbaaDoor
open Go.RowKit
set_option linter.unusedVariables false

def numV (l : List UInt8) : Int := if numOk l then (num l : Int) else 0
theorem numV_f {l : List UInt8} (h : numOk l = false) : numV l = 0 := by unfold numV; rw [h]; rfl
theorem numV_t {l : List UInt8} (h : numOk l = true) : numV l = num l := by unfold numV; rw [h]; rfl
theorem allD_at {s : ByteArray} (h : allD s) (k : Nat) (hk : k < s.size) : 48 ≤ ((s[k]'hk).toNat : Int) ∧ ((s[k]'hk).toNat : Int) ≤ 57 := by
  have := h k hk
  simp [digit] at this
  omega
set_option maxRecDepth 100000 in
set_option maxHeartbeats 4000000 in
theorem number_any (s : ByteArray) (w : World) (hd : Hid (allD s)) (hs : s.size ≤ 65536) : Calls Tryd.prog 64 #[.string s] w fun e w' => e = .returned (.tuple #[.int .i64 (numV s.data.toList), .bool (numOk s.data.toList)]) ∧ w = w' := by
  go_enter Tryd.func64, Tryd.ntmps64
  by_cases hz : 1 < s.size ∧ ∀ (h : 0 < s.size), (s[0]'h).toNat = 48
  · have h1 : (1 : Int) < s.size := by omega
    have h0 : ((s[0]'(by omega)).toNat : Int) = 48 := by have := hz.2 (by omega); omega
    have HN : Hid (numOk s.data.toList = false) := numOk_zero s hz.1 (hz.2 (by omega))
    have hb : (((s[0]'(by omega)).toNat : Int) == 48) = true := by simp [h0]
    go_wp2
    go_ret2
    exact ⟨by rw [numV_f HN.out, HN.out]; rfl, rfl⟩
  have HZ : Hid _ := hide_ hz
  have key : ∀ K : Prop, ((s.size : Int) ≤ 1 → True → K) → (∀ (h1 : (1 : Int) < s.size), (((s[0]'(by omega)).toNat : Int) == 48) = false → K) → K := by
    intro K k1 k2
    by_cases h1 : (1 : Int) < s.size
    · refine k2 h1 ?_
      rw [beq_eq_false_iff_ne]
      intro e
      exact hz ⟨by omega, fun _ => by omega⟩
    · exact k1 (by omega) trivial
  refine key _ ?_ ?_ <;> clear key hz
  all_goals
    intro h1 h2
    go_wp2_with fail
    go_loopw [4, 17] (fun n i wr => ∃ k : Nat, k ≤ s.size ∧ i = .int .i64 k ∧ ∃ m : Nat, n = .int .i64 m ∧ Hid (num (s.data.toList.take k) = m) ∧ (m : Int) ≤ 2147483647 ∧ w = wr) (fun _ i _ => s.size - (intOf i).toNat)
    case atStart => exact ⟨0, Nat.zero_le _, rfl, 0, rfl, by simp [num, Hid], by decide, rfl⟩
    case round =>
      obtain ⟨k, hk, rfl, m, rfl, HM, hm, rfl⟩ := hrel
      by_cases hlt : k < s.size
      · have hlt' : (k : Int) < s.size := by omega
        have HS : Hid (num (s.data.toList.take (k + 1)) = m * 10 + ((s[k]'hlt).toNat - 48)) := by show _ = _; rw [take_snoc s k hlt, num_snoc, HM.out]
        obtain ⟨hx1, hx2⟩ := allD_at hd.out k hlt
        obtain ⟨x, hx⟩ : ∃ x : Int, ((s[k]'hlt).toNat : Int) = x := ⟨_, rfl⟩
        have HS2 : Hid (((num (s.data.toList.take (k + 1)) : Nat) : Int) = m * 10 + (x - 48)) := by show _ = _; rw [HS.out]; omega
        rw [hx] at hx1 hx2
        clear HS
        have hq : Int.tdiv (2147483647 - (x - 48)) 10 = (2147483647 - (x - 48)) / 10 := Int.tdiv_eq_ediv_of_nonneg (by omega)
        by_cases hgt : (2147483647 - (x - 48)) / 10 < (m : Int)
        · have HN : Hid (numOk s.data.toList = false) := numOk_big s (k + 1) (by have := HS2.out; omega)
          go_wp2
          go_ret2
          exact ⟨by rw [numV_f HN.out, HN.out]; rfl, rfl⟩
        · obtain ⟨y, hy⟩ : ∃ y : Nat, num (s.data.toList.take (k + 1)) = y := ⟨_, rfl⟩
          have hy2 : (y : Int) = m * 10 + (x - 48) := by rw [← hy]; exact HS2.out
          have hy3 : (y : Int) ≤ 2147483647 := by omega
          go_wp2
          go_roundw
          case rel => exact ⟨k + 1, by omega, by go_num, y, by first | go_num | (rw [hy2]; go_num), hide_ hy, hy3, by trivial⟩
          case measure => simp [intOf]; omega
      · obtain rfl : k = s.size := by omega
        have ht : s.data.toList.take s.size = s.data.toList := List.take_of_length_le (by rw [← Lib.size_eq]; exact Nat.le_refl _)
        have HM2 : Hid (num s.data.toList = m) := by have := HM.out; rw [ht] at this; exact this
        have HN : Hid (numOk s.data.toList = true) := numOk_is s HZ.out (by rw [HM2.out]; omega)
        go_wp2
        go_ret2
        exact ⟨by rw [numV_t HN.out, HN.out, HM2.out]; rfl, rfl⟩
theorem num_lt {l : List UInt8} (h : ∀ x ∈ l, x.toNat ≤ 57) : num l < 10 ^ l.length := by
  have : ∀ (r : List UInt8) (n : Nat), (∀ x ∈ r, x.toNat ≤ 57) → r.foldl (fun n d => n * 10 + (d.toNat - 48)) n < (n + 1) * 10 ^ r.length := by
    intro r
    induction r with
    | nil => intro n _; simp
    | cons d r ih =>
      intro n h
      have h1 := ih (n * 10 + (d.toNat - 48)) (fun x hx => h x (by simp [hx]))
      have h2 := h d (by simp)
      rw [List.foldl_cons, List.length_cons, Nat.pow_succ]
      refine Nat.lt_of_lt_of_le h1 ?_
      rw [Nat.mul_comm (10 ^ r.length) 10, ← Nat.mul_assoc]
      exact Nat.mul_le_mul_right _ (by omega)
  have := this l 0 h
  simpa [num] using this
end Go.Proofs.YtafljgjkcnbhbaaDoor
