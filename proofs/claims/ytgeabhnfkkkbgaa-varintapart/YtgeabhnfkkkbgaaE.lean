/- Readers: New, Byte, N, Read, Load. -/
import Derived.Test.YtgeabhnfkkkbgaaD
import Derived.Laws.CopyOwn
namespace Go.Proofs.Ytgeabhnfkkkbgaa
open Go.RowKit
set_option linter.unusedVariables false

/-- The ten bytes of a reader that has taken l. -/
def pad (l : List Int) : List Int := l ++ List.replicate (10 - l.length) 0
def rdrL (l : List Int) (ov : Bool) : List Value := cellsL .u8 (pad l) ++ [.int .i64 l.length, .bool ov]
def Rdr (w : World) (b : Nat) (l : List Int) (ov : Bool) : Prop := Blk w b 60 (rdrL l ov)

theorem new_any (w : World) :
    Calls Try.prog 14 #[] w fun e w' => ∃ b, e = .returned (.pointer (some ⟨b, 0, none⟩)) ∧ w.heap.size ≤ b ∧ Rdr w' b [] false ∧ Below w.heap.size w w' := by
  go_enter Try.func14, Try.ntmps14
  go_wp2
  go_ret
  refine ⟨_, rfl, Nat.le_refl _, ?_, (Below.refl _ _).alloc (Nat.le_refl _) _⟩
  exact Blk.newA w _ _

theorem pad_len (l : List Int) (h : l.length ≤ 10) : (pad l).length = 10 := by simp [pad]; omega
theorem rdrL_len (l : List Int) (ov : Bool) (h : l.length ≤ 10) : (rdrL l ov).length = 12 := by simp [rdrL, cellsL_length, pad_len l h]
theorem rdrL_10 (l : List Int) (ov : Bool) (h : l.length ≤ 10) : (rdrL l ov)[10]? = some (.int .i64 l.length) := by
  unfold rdrL
  rw [List.getElem?_append_right (by rw [cellsL_length, pad_len l h]; omega), cellsL_length, pad_len l h]; rfl
theorem rdrL_11 (l : List Int) (ov : Bool) (h : l.length ≤ 10) : (rdrL l ov)[11]? = some (.bool ov) := by
  unfold rdrL
  rw [List.getElem?_append_right (by rw [cellsL_length, pad_len l h]; omega), cellsL_length, pad_len l h]; rfl
theorem rdrL_at (l : List Int) (ov : Bool) (h : l.length ≤ 10) (k : Nat) (hk : k < 10) : (rdrL l ov)[k]? = some (.int .u8 ((pad l).getD k 0)) := by
  unfold rdrL
  rw [List.getElem?_append_left (by rw [cellsL_length, pad_len l h]; omega), cellsL_at _ _ _ (by rw [pad_len l h]; omega)]
theorem pad_at (l : List Int) (k : Nat) (hk : k < l.length) : (pad l).getD k 0 = l.getD k 0 := getD_app_left _ _ _ hk
theorem rdr_over (l : List Int) (ov ov' : Bool) (h : l.length ≤ 10) : (rdrL l ov).set 11 (.bool ov') = rdrL l ov' := by
  unfold rdrL
  rw [List.set_append_right _ _ (by rw [cellsL_length, pad_len l h]; omega), cellsL_length, pad_len l h]; rfl
theorem pad_snoc (l : List Int) (c : Int) (h : l.length ≤ 9) : (pad l).set l.length c = pad (l ++ [c]) := by
  unfold pad
  rw [List.set_append_right _ _ (Nat.le_refl _), Nat.sub_self, List.append_assoc]
  congr 1
  obtain ⟨q, hq⟩ : ∃ q, 10 - l.length = q + 1 := ⟨9 - l.length, by omega⟩
  rw [hq, List.replicate_succ, List.set_cons_zero]
  simp only [List.length_append, List.length_cons, List.length_nil, List.cons_append, List.nil_append]
  congr 2
  omega
theorem rdr_take (l : List Int) (c : Int) (ov ov' : Bool) (h : l.length ≤ 9) :
    (((rdrL l ov).set l.length (.int .u8 c)).set 10 (.int .i64 ((l.length : Int) + 1))).set 11 (.bool ov') = rdrL (l ++ [c]) ov' := by
  have hl : (cellsL .u8 (pad (l ++ [c]))).length = 10 := by rw [cellsL_length, pad_len _ (by simp; omega)]
  unfold rdrL
  rw [List.set_append_left _ _ (by rw [cellsL_length, pad_len l (by omega)]; omega), cellsL_set, pad_snoc l c h]
  rw [List.set_append_right _ _ (by omega), hl, List.set_append_right _ _ (by omega), hl]
  simp

theorem byte_over (b : Nat) (l : List Int) (c : Int) (w : World) (h : Rdr w b l true) (hl : l.length ≤ 10) :
    Calls Try.prog 18 #[.pointer (some ⟨b, 0, none⟩), .int .u8 c] w fun e w' => e = .returned (.tuple #[.bool false, .int .i64 30]) ∧ w = w' := by
  have h11 := h.cell 11
  rw [rdrL_11 l true hl] at h11
  go_enter Try.func18, Try.ntmps18
  go_wp2
  go_ret2
  exact ⟨rfl, rfl⟩
theorem byte_fault (b : Nat) (l : List Int) (c : Int) (w : World) (h : Rdr w b l false) (hl : l.length ≤ 9) (hf : flt l.length c = true) :
    Calls Try.prog 18 #[.pointer (some ⟨b, 0, none⟩), .int .u8 c] w fun e w' => e = .returned (.tuple #[.bool false, .int .i64 21]) ∧ Rdr w' b l true ∧ w'.heap.size = w.heap.size ∧ Upd (fun k => k = b) w w' := by
  have h11 := h.cell 11
  rw [rdrL_11 l false (by omega)] at h11
  have h10 := h.cell 10
  rw [rdrL_10 l false (by omega)] at h10
  have z11 := h.frozen 11
  have HR : Hid (Rdr w b l false) := h
  clear h
  obtain ⟨k, hk⟩ : ∃ k, l.length = k := ⟨_, rfl⟩
  rw [hk] at h10 hf hl
  go_enter Try.func18, Try.ntmps18
  go_wp2_with (go_at_call 23; refine (fault_any k c _ true hf).mono ?_; rintro e w' ⟨rfl, rfl⟩)
  go_ret2
  refine ⟨rfl, ?_, by simp, (Upd.refl _ _).set _ _ (.inl rfl)⟩
  have h2 := HR.out.set 11 (.bool true)
  rw [rdr_over l false true (by omega)] at h2
  exact h2
theorem byte_take (b : Nat) (l : List Int) (c : Int) (w : World) (h : Rdr w b l false) (hl : l.length ≤ 9) (hf : flt l.length c = false) :
    Calls Try.prog 18 #[.pointer (some ⟨b, 0, none⟩), .int .u8 c] w fun e w' => e = .returned (.tuple #[.bool (decide (c < 128)), .int .i64 0]) ∧ Rdr w' b (l ++ [c]) (decide (c < 128)) ∧ w'.heap.size = w.heap.size ∧ Upd (fun k => k = b) w w' := by
  have h11 := h.cell 11
  rw [rdrL_11 l false (by omega)] at h11
  have h10 := h.cell 10
  rw [rdrL_10 l false (by omega)] at h10
  have hc := h.cell l.length
  rw [rdrL_at l false (by omega) _ (by omega)] at hc
  have z11 := h.frozen 11
  have z10 := h.frozen 10
  have zk := h.frozen l.length
  have HR : Hid (Rdr w b l false) := h
  have HT := rdr_take l c false (decide (c < 128)) hl
  clear h
  obtain ⟨k, hk⟩ : ∃ k, l.length = k := ⟨_, rfl⟩
  rw [hk] at h10 hf hl hc zk HT
  have hk1 : (k : Int) < 10 := by omega
  have hk2 : ¬ k = 10 := by omega
  have hk3 : ¬ k = 11 := by omega
  have HT2 : Hid _ := HT
  clear HT
  generalize (pad l).getD k 0 = old at *
  obtain ⟨d, hd⟩ : ∃ d, decide (c < 128) = d := ⟨_, rfl⟩
  rw [hd] at HT2 ⊢
  go_enter Try.func18, Try.ntmps18
  go_wp2_with (first | (go_at_call 23; refine (fault_any k c _ false hf).mono ?_; rintro e w' ⟨rfl, rfl⟩) | (go_at_call 25; refine (last_any c _).mono ?_; rintro e w' ⟨rfl, rfl⟩; rw [hd]))
  go_region
  go_wp2_with (go_at_call 25; refine (last_any c _).mono ?_; rintro e w' ⟨rfl, rfl⟩; rw [hd])
  go_ret2
  refine ⟨rfl, ?_, by simp, ((((Upd.refl (fun k => k = b) w).set ⟨b, k, none⟩ (.int .u8 c) (.inl rfl)).set ⟨b, 10, none⟩ (.int .i64 ((k : Int) + 1)) (.inl rfl)).set ⟨b, 11, none⟩ (.bool d) (.inl rfl)).drew⟩
  have h2 := ((HR.out.set k (.int .u8 c)).set 10 (.int .i64 ((k : Int) + 1))).set 11 (.bool d)
  rw [HT2.out] at h2
  exact h2

/-- What a reader may have taken. -/
def TkN (l : List Int) : Prop := Bys l ∧ l.length ≤ 10 ∧ (l.length = 10 → l.getD 9 0 ≤ 1)
theorem TkN.lt {l : List Int} (h : TkN l) : val l < 18446744073709551616 := by
  obtain ⟨h1, h2, h3⟩ := h
  by_cases h10 : l.length = 10
  · have e := val_take l 9 (by omega)
    rw [List.take_of_length_le (by omega)] at e
    have h4 := val_take_lt l 9 (by omega)
    have h5 := h3 h10
    have h6 := h1.at 9
    have h7 : (128 : Int) ^ 9 = 9223372036854775808 := by decide
    rw [e]
    rw [h7] at h4 ⊢
    omega
  · have h4 := val_lt l
    have h5 : (128 : Int) ^ l.length ≤ 128 ^ 9 := by
      have : (128 : Nat) ^ l.length ≤ 128 ^ 9 := Nat.pow_le_pow_right (by omega) (by omega)
      exact_mod_cast this
    have h7 : (128 : Int) ^ 9 = 9223372036854775808 := by decide
    omega
set_option maxHeartbeats 400000 in
theorem n_any (b : Nat) (l : List Int) (ov : Bool) (w : World) (h : Rdr w b l ov) (ht : TkN l) :
    Calls Try.prog 17 #[.pointer (some ⟨b, 0, none⟩)] w fun e w' => e = .returned (.int .u64 (val l)) ∧ w.drew = w' := by
  obtain ⟨hby, hl, h9⟩ := ht
  have h10 := h.cell 10
  rw [rdrL_10 l ov (by omega)] at h10
  have HC : Hid (∀ k, k < l.length → w.cell? ⟨b, k, none⟩ = some (.int .u8 (l.getD k 0))) := by
    intro k hk
    rw [h.cell k, rdrL_at l ov hl k (by omega), pad_at l k hk]
  clear h
  have HL : Hid (val (l.take l.length) = val l) := by rw [List.take_length]; rfl
  have HBy : Hid (Bys l) := hby
  have H9 : Hid (l.length = 10 → l.getD 9 0 ≤ 1) := h9
  clear hby h9
  obtain ⟨m, hm⟩ : ∃ m, l.length = m := ⟨_, rfl⟩
  have HM : Hid (l.length = m) := hm
  rw [hm] at h10 hl HC HL H9
  clear hm
  have hm10 : (m : Int) ≤ 10 := by omega
  go_enter Try.func17, Try.ntmps17
  go_wp2
  go_region
  go_wp2
  go_loop [3, 15] (fun v i => ∃ k : Nat, k ≤ m ∧ i = .int .i64 k ∧ v = .int .u64 (val (l.take k))) (fun _ i => m - (intOf i).toNat)
  case atStart => exact ⟨0, Nat.zero_le _, rfl, rfl⟩
  case round =>
    obtain ⟨k, hk, rfl, rfl⟩ := hrel
    by_cases hlt : k < m
    · have hlt' : (k : Int) < m := by omega
      have hc := HC.out k hlt
      have hby := HBy.out.at k
      have hM := HM.out
      have hs : k = 9 → l.getD k 0 % 128 ≤ 1 := by
        rintro rfl
        have := H9.out (by omega)
        omega
      have hv := val_take_lt l k (by omega)
      have hv0 := val_nonneg (l.take k)
      have HT := val_take l k (by omega)
      generalize l.getD k 0 = c at *
      obtain ⟨hby0, hby1⟩ := hby
      have HO := or_add k (val (l.take k)) c (by omega) hv0 hv hs
      rw [← HT] at HO
      clear HT hv hv0
      generalize val (l.take k) = v0 at *
      obtain ⟨v1, hv1⟩ : ∃ v1, Hid (val (l.take (k + 1)) = v1) := ⟨_, rfl⟩
      rw [hv1.out] at HO
      obtain ⟨d, hd⟩ : ∃ d, c % 128 * 128 ^ k = d := ⟨_, rfl⟩
      rw [hd] at HO
      go_wp2_with (go_at_call 24; refine (group_any k c _ (by omega) hby0 hby1 hs).mono ?_; rintro e w' ⟨rfl, rfl⟩; rw [hd])
      go_round
      case rel => exact ⟨k + 1, by omega, by go_num, by rw [hv1.out]⟩
      case measure => simp [intOf]; omega
    · obtain rfl : k = m := by omega
      go_wp2
      go_ret
      exact ⟨ret_int HL.out, rfl⟩
theorem read_any (b : Nat) (l : List Int) (ov : Bool) (w : World) (h : Rdr w b l ov) (hl : l.length ≤ 10) :
    Calls Try.prog 16 #[.pointer (some ⟨b, 0, none⟩)] w fun e w' => ∃ g, e = .returned (.slice (some ⟨g, 0, none⟩) l.length l.length) ∧ w.heap.size ≤ g ∧ Blk w' g 5 (cellsL .u8 l) ∧ Below w.heap.size w w' := by
  have h10 := h.cell 10
  rw [rdrL_10 l ov (by omega)] at h10
  obtain ⟨w1, hmk, hb1, hB1⟩ := make_row w l.length (by omega)
  have hcp := run_copy_row (P := Try.prog) w1 23 23 3 5 w.heap.size 0 l.length l.length ⟨b, 0, none⟩ 10 10 (cellsL .u8 (List.replicate l.length 0)).toArray 5 (cellsL .u8 l) E23.sl (by kernel_rfl) hb1
    (by rw [cellsL_length]; exact (Nat.min_eq_right hl).symm)
    (fun j v hj => by
      obtain ⟨h1, rfl⟩ := cellsL_get _ _ _ _ hj
      rw [add_none, Nat.zero_add, (h.below hB1 h.lt).cell j, rdrL_at l ov hl j (by omega), pad_at l j h1])
    (by simp [cellsL_length]) (cellsL_one _ _)
  have e : ((cellsL .u8 (List.replicate l.length 0)).toArray.toList.take 0 ++ cellsL .u8 l ++ (cellsL .u8 (List.replicate l.length 0)).toArray.toList.drop (0 + (cellsL .u8 l).length)).toArray = (cellsL .u8 l).toArray := by
    simp [cellsL]
  rw [e, cellsL_length] at hcp
  have HB2 : Hid (Blk (w1.setRow w.heap.size (cellsL .u8 l).toArray) w.heap.size 5 (cellsL .u8 l)) := setRow_heap w1 w.heap.size _ _ 5 (0, 0) hb1
  have hB2 : Below w.heap.size w (w1.setRow w.heap.size (cellsL .u8 l).toArray) := hB1.trans (below_setRow (Below.refl _ _) (Nat.le_refl _) _)
  generalize w1.setRow w.heap.size (cellsL .u8 l).toArray = w2 at *
  clear hb1 h e
  obtain ⟨m, hm⟩ : ∃ m, l.length = m := ⟨_, rfl⟩
  rw [hm] at h10 hmk hcp ⊢
  clear hm
  obtain ⟨g, hg⟩ : ∃ g, w.heap.size = g := ⟨_, rfl⟩
  have hgg : w.heap.size ≤ g := by omega
  rw [hg] at hmk hcp HB2
  clear hg
  go_enter Try.func16, Try.ntmps16
  go_wp2
  go_ret
  exact ⟨g, rfl, hgg, HB2.out, hB2⟩
end Go.Proofs.Ytgeabhnfkkkbgaa
