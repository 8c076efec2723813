import Derived.Test.YtcmkdkocponpiaaPart11
import Derived.Test.YtcmkdkocponpiaaPart13
import Derived.Test.YtcmkdkocponpiaaPart02
import Derived.Laws.OwnMore

/- Put and Get. -/
namespace Go.Proofs.Ytcmkdkocponpiaa
open Go.RowKit
set_option linter.unusedVariables false

theorem E23 : Elem Try.prog 23 5 .u8 1 := ⟨Try.underlying23, Try.underlying5, by kernel_rfl⟩
theorem or128F : ∀ n : Fin 256, bits BinOp.or IntKind.u8 (n.val : Int) 128 = (n.val : Int) % 128 + 128 := by decide +kernel
theorem or128 (x : Int) (h0 : 0 ≤ x) (h1 : x < 256) : bits BinOp.or IntKind.u8 x 128 = x % 128 + 128 := by
  have := or128F ⟨x.toNat, by omega⟩
  simpa only [Int.toNat_of_nonneg h0] using this
/-- make([]byte, n). -/
theorem make_row (w : World) (n : Nat) (hn : n ≤ 100) :
    ∃ w1, (Instr.makeSlice 23 (.int .i64 (n : Int)) (.int .i64 (n : Int))).run Try.prog w = .ok (.slice (some ⟨w.heap.size, 0, none⟩) n n) w1 ∧ Blk w1 w.heap.size 5 (cellsL .u8 (List.replicate n 0)) ∧ Below w.heap.size w w1 := by
  obtain ⟨i0, hi, hz0, hz1, hz2⟩ := info_parts E23.info
  have hb : (i0.bytes : Int) * (n : Int) ≤ 281474976710656 := by rw [hz2]; omega
  have hr := run_make (P := Try.prog) w 23 5 i0 (.int .u8 0) E23.sl hi hz0 .i64 .i64 n n (by omega) (Int.le_refl _) hb (by omega)
  rw [Int.toNat_natCast, hz1, Nat.mul_one] at hr
  refine ⟨_, hr, ?_, (Below.refl _ _).alloc (Nat.le_refl _) _⟩
  have e : (madeCells (Value.cells (.int .u8 0)) n).toList = cellsL .u8 (List.replicate n 0) := by
    apply List.ext_getElem?
    intro i
    by_cases h : i < n <;> simp [madeCells, cellsL, Value.cells, Nat.mod_one, h]
  rw [← e]
  exact Blk.newA w _ _
/-- The bytes behind k rounds. -/
def pre (n s k : Nat) : List Int := (List.range s).map fun i => if i < k then ((n / 128 ^ i % 128 + 128 : Nat) : Int) else 0
theorem pre_len (n s k : Nat) : (pre n s k).length = s := by simp [pre]
theorem pre_zero (n s : Nat) : pre n s 0 = List.replicate s 0 := by
  apply List.ext_getElem?
  intro i
  by_cases h : i < s <;> simp [pre, h]
theorem pre_next (n s k : Nat) (h : k < s) : (pre n s k).set k ((n / 128 ^ k % 128 + 128 : Nat) : Int) = pre n s (k + 1) := by
  apply List.ext_getElem?
  intro i
  rw [List.getElem?_set]
  by_cases hi : i < s
  · by_cases hk : k = i
    · subst hk; simp [pre, h]
    · rw [if_neg hk]
      simp only [pre, List.getElem?_map, List.getElem?_range hi, Option.map_some]
      congr 1
      by_cases h2 : i < k
      · rw [if_pos h2, if_pos (by omega)]
      · rw [if_neg h2, if_neg (by omega)]
  · by_cases hk : k = i
    · omega
    · simp [pre, hi, hk]
theorem pre_at (n s k i : Nat) (h : i < s) (hk : i < k) : (pre n s k).getD i 0 = ((n / 128 ^ i % 128 + 128 : Nat) : Int) := by simp [pre, List.getD, h, hk]
theorem pre_form (n s : Nat) (hs : (form n).length = s) (h1 : 1 ≤ s) : (pre n s s).set (s - 1) ((n / 128 ^ (s - 1) % 128 : Nat) : Int) = form n := by
  apply List.ext_getElem?
  intro i
  rw [List.getElem?_set, pre_len]
  by_cases hi : i < s
  · have e := form_at n i (by omega)
    have e2 : (form n)[i]? = some ((form n).getD i 0) := by simp [List.getD, show i < (form n).length by omega]
    rw [e2, e, hs]
    by_cases hk : s - 1 = i
    · rw [if_pos hk, if_pos (by omega), if_neg (by omega), ← hk]; rfl
    · rw [if_neg hk, if_pos (by omega)]
      simp [pre, hi]
  · rw [if_neg (by omega), List.getElem?_eq_none (by rw [pre_len]; omega), List.getElem?_eq_none (by omega)]

set_option maxHeartbeats 1000000 in
theorem put_any (n : Nat) (w : World) (hn : n < 18446744073709551616) :
    Calls Try.prog 30 #[.int .u64 n] w fun e w' => ∃ g, e = .returned (.slice (some ⟨g, 0, none⟩) (form n).length (form n).length) ∧ w.heap.size ≤ g ∧ Blk w' g 5 (cellsL .u8 (form n)) ∧ Below w.heap.size w w' := by
  have hlen := (form_len n hn).symm
  have h1 := form_pos n
  have h10 := form_ten n hn
  have hfin := pre_form n _ rfl h1
  obtain ⟨s, hs⟩ : ∃ s, s = (form n).length := ⟨_, rfl⟩
  rw [← hs] at hlen h1 h10 hfin ⊢
  obtain ⟨w1, hmk, hb1, hB1⟩ := make_row w s (by omega)
  have HB : Hid (Blk w1 w.heap.size 5 (cellsL .u8 (pre n s 0))) := by rw [pre_zero]; exact hb1
  clear hb1
  have hs1 : (1 : Int) ≤ s := by omega
  have hs10 : (s : Int) ≤ 10 := by omega
  obtain ⟨g, hg⟩ : ∃ g, g = w.heap.size := ⟨_, rfl⟩
  rw [← hg] at hmk HB
  have hgw : w.heap.size ≤ g := by omega
  clear hg hs
  have HF : Hid ((pre n s s).set (s - 1) ((n / 128 ^ (s - 1) % 128 : Nat) : Int) = form n) := hfin
  clear hfin
  go_enter Try.func30, Try.ntmps30
  go_wp2_with (go_at_call 47; refine (size_any n _ hn).mono ?_; rintro e w' ⟨rfl, rfl⟩; rw [hlen])
  go_loopw [0, 10] (fun v i wr => ∃ k : Nat, k ≤ s ∧ i = .int .i64 k ∧ v = .int .u64 ((n / 128 ^ k : Nat) : Int) ∧ Hid (Blk wr g 5 (cellsL .u8 (pre n s k))) ∧ Below w.heap.size w wr) (fun _ i _ => s - (intOf i).toNat)
  case atStart => exact ⟨0, Nat.zero_le _, rfl, by simp, HB, hB1⟩
  case round =>
    obtain ⟨k, hk, rfl, rfl, HK, hBk⟩ := hrel
    by_cases hlt : k < s
    · have hlt' : (k : Int) < s := by omega
      have hc := HK.out.cell k
      rw [cellsL_at _ _ _ (by rw [pre_len]; exact hlt)] at hc
      have hz := HK.out.frozen k
      have hv : n / 128 ^ k ≤ n := Nat.div_le_self _ _
      have HV : Hid (((n / 128 ^ k : Nat) : Int) / 128 = ((n / 128 ^ (k + 1) : Nat) : Int)) := by
        show _ = _
        rw [Nat.pow_succ, ← Nat.div_div_eq_div_mul]; rfl
      have HN := pre_next n s k hlt
      have HN2 : Hid ((pre n s k).set k ((n / 128 ^ k % 128 + 128 : Nat) : Int) = pre n s (k + 1)) := HN
      clear HN
      generalize hq : n / 128 ^ k = q at *
      have hor := or128 (((q : Nat) : Int) % 256) (by omega) (by omega)
      go_wp2
      go_roundw
      case rel =>
        refine ⟨k + 1, by omega, by go_num, by rw [← HV.out], ?_, hBk.setCell (by simpa using hgw) _⟩
        have h2 := HK.out.set k (.int .u8 ((q % 128 + 128 : Nat) : Int))
        rw [cellsL_set, HN2.out] at h2
        exact h2
      case measure => simp [intOf]; omega
    · obtain rfl : k = s := by omega
      have hc := HK.out.cell (k - 1)
      rw [cellsL_at _ _ _ (by rw [pre_len]; omega), pre_at _ _ _ _ (by omega) (by omega)] at hc
      have hz := HK.out.frozen (k - 1)
      have HE : Hid (bits .andNot .u8 ((n / 128 ^ (k - 1) % 128 + 128 : Nat) : Int) 128 = ((n / 128 ^ (k - 1) % 128 : Nat) : Int)) := by
        show _ = _
        rw [mask7 _ (by omega) (by omega)]; omega
      have HF2 := HF
      obtain ⟨c, hcc⟩ : ∃ c, c = ((n / 128 ^ (k - 1) % 128 + 128 : Nat) : Int) := ⟨_, rfl⟩
      obtain ⟨d, hd⟩ : ∃ d, d = ((n / 128 ^ (k - 1) % 128 : Nat) : Int) := ⟨_, rfl⟩
      rw [← hcc] at hc HE
      rw [← hd] at HE HF2
      have he := HE.out
      clear hcc hd HF HE
      go_wp2
      go_ret
      refine ⟨g, rfl, hgw, ?_, hBk.setCell (by simpa using hgw) _⟩
      have h2 := HK.out.set (k - 1) (.int .u8 d)
      rw [cellsL_set, HF2.out] at h2
      exact h2
/-- What Get answers. -/
theorem get_any (a : Option Addr) (m cap : Nat) (l : List Int) (w : World) (hl : l.length = m) (hm : m ≤ maxLen) (hrow : Row .u8 w a l) (hb : Bys l) :
    Calls Try.prog 70 #[.slice a m cap] w fun e w' => ∃ n u r, GetR l n u r ∧ e = .returned (.tuple #[.int .u64 n, .int .i64 u, .int .i64 r]) ∧ w = w' := by
  unfold maxLen at hm
  have hcell : Hid (∀ k, k < m → ∃ b off, a = some ⟨b, off, none⟩ ∧ w.cell? ⟨b, off + k, none⟩ = some (.int .u8 (l.getD k 0))) := by
    intro k hk
    obtain ⟨b, off, h1, _, h3⟩ := hrow.open (by omega)
    exact ⟨b, off, h1, h3 k (by omega)⟩
  clear hrow
  have HL : Hid (l.length = m) := hl
  have HBy : Hid (Bys l) := hb
  clear hl hb
  go_enter Try.func70, Try.ntmps70
  go_wp2
  go_loop [2, 9] (fun v i => ∃ k : Nat, k ≤ m ∧ i = .int .i64 k ∧ v = .int .u64 (val (l.take k)) ∧ Hid (Good l k)) (fun _ i => m - (intOf i).toNat)
  case atStart => exact ⟨0, Nat.zero_le _, rfl, rfl, Good.zero l⟩
  case round =>
    obtain ⟨k, hk, rfl, rfl, HG⟩ := hrel
    by_cases hlt : k < m
    · have hlt' : (k : Int) < m := by omega
      obtain ⟨b, off, rfl, hc⟩ := hcell.out k hlt
      have hL := HL.out
      have hby := HBy.out.at k
      have h9 := HG.out.1
      obtain ⟨c, hcE⟩ : ∃ c, c = l.getD k 0 := ⟨_, rfl⟩
      rw [← hcE] at hc hby
      obtain ⟨hby0, hby1⟩ := hby
      have HC : Hid (c = l.getD k 0) := hcE
      clear hcE hcell
      by_cases hf : flt k c = true
      · go_wp2_with (go_at_call 77; refine (fault_any k c _ true hf).mono ?_; rintro e w' ⟨rfl, rfl⟩)
        go_ret3
        exact ⟨_, _, _, .inr (.inl ⟨k, by omega, HG.out, by rw [← HC.out]; exact hf, rfl, rfl, rfl⟩), rfl, rfl⟩
      · have hf' : flt k c = false := by simpa using hf
        have hs : k = 9 → c % 128 ≤ 1 := by intro h; have := (flt_no k c).1 hf'; omega
        have hv := val_take_lt l k (by omega)
        have hv0 := val_nonneg (l.take k)
        have HO := or_add k (val (l.take k)) c h9 hv0 hv hs
        have HT := val_take l k (by omega)
        rw [← HC.out] at HT
        rw [← HT] at HO
        obtain ⟨v1, hv1⟩ : ∃ v1, Hid (v1 = val (l.take (k + 1))) := ⟨_, rfl⟩
        rw [← hv1.out] at HO
        clear HT hv hv0
        generalize val (l.take k) = v0 at *
        obtain ⟨d, hd⟩ : ∃ d, c % 128 * 128 ^ k = d := ⟨_, rfl⟩
        rw [hd] at HO
        by_cases h128 : c < 128
        · go_wp2_with (first | (go_at_call 77; refine (fault_any k c _ false hf').mono ?_; rintro e w' ⟨rfl, rfl⟩) | (go_at_call 78; refine (group_any k c _ h9 hby0 hby1 hs).mono ?_; rintro e w' ⟨rfl, rfl⟩; rw [hd]) | (go_at_call 79; refine (last_any c _).mono ?_; rintro e w' ⟨rfl, rfl⟩))
          go_ret3
          exact ⟨_, k + 1, _, .inr (.inr ⟨k, by omega, HG.out, by rw [← HC.out]; exact hf', by rw [← HC.out]; exact h128, hv1.out, rfl, rfl⟩), by simp, rfl⟩
        · go_wp2_with (first | (go_at_call 77; refine (fault_any k c _ false hf').mono ?_; rintro e w' ⟨rfl, rfl⟩) | (go_at_call 78; refine (group_any k c _ h9 hby0 hby1 hs).mono ?_; rintro e w' ⟨rfl, rfl⟩; rw [hd]) | (go_at_call 79; refine (last_any c _).mono ?_; rintro e w' ⟨rfl, rfl⟩))
          go_round
          case rel => exact ⟨k + 1, by omega, by go_num, by rw [hv1.out], HG.out.next (by omega) (by rw [← HC.out]; exact hf') (by rw [← HC.out]; omega)⟩
          case measure => simp [intOf]; omega
    · obtain rfl : k = m := by omega
      go_wp2
      go_ret3
      have hL := HL.out
      have hg := HG.out
      exact ⟨_, k, _, .inl ⟨by rw [hL]; exact hg, rfl, hL.symm, rfl⟩, rfl, rfl⟩
end Go.Proofs.Ytcmkdkocponpiaa
