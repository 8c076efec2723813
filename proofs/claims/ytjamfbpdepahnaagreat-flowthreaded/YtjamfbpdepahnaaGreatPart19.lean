import Derived.Test.YtjamfbpdepahnaaGreatPart10
import Derived.Test.YtjamfbpdepahnaaGreatPart01
import Derived.Test.YtjamfbpdepahnaaGreatPart12
import Derived.Laws.CopyOwn
import Derived.Laws.Bits64b
import Derived.Deep.RegionLaw
namespace Go.Proofs.YtjamfbpdepahnaaGreat
open Go.RowKit
set_option linter.unusedVariables false
set_option linter.unusedSimpArgs false
theorem maskS (n : Nat) (h : n < 4294967296) : bits .and .u64 (n : Int) 4294967295 = (n : Int) := by
  have h1 := bits_and_u64_nat n 4294967295 (by omega) (by omega)
  have e : n &&& 4294967295 = n % 4294967296 := Nat.and_two_pow_sub_one_eq_mod n 32
  rw [e, Nat.mod_eq_of_lt h] at h1
  exact h1
theorem u64w (n : Int) (h : 0 ≤ n ∧ n < 18446744073709551616) : IntKind.u64.wrap n = n := by rw [IntKind.wrap_u64]; omega
set_option maxHeartbeats 4000000 in
theorem mul64_one (n : Nat) (hn : n ≤ 1048576) (w : World) : Calls Tryz.prog 97 #[.int .u64 1, .int .u64 (n : Int)] w fun e w' => e = .returned (.tuple #[.int .u64 0, .int .u64 (n : Int)]) ∧ w = w' := by
  have h1 : bits .and .u64 1 4294967295 = 1 := by simpa using maskS 1 (by decide)
  have h2 := maskS n (by omega)
  have h3 : bits .and .u64 0 4294967295 = 0 := by simpa using maskS 0 (by decide)
  have h4 : (n : Int) / 4294967296 = 0 := by omega
  have h5 : IntKind.u64.wrap (n : Int) = (n : Int) := u64w _ (by omega)
  have h6 : IntKind.u64.wrap 0 = 0 := u64w _ (by omega)
  go_enter Tryz.func97, Tryz.ntmps97
  go_wp2
  go_ret2
  exact ⟨rfl, rfl⟩
set_option maxHeartbeats 4000000 in
theorem mul_one_ (n : Nat) (hn : n ≤ 1048576) (w : World) : Calls Tryz.prog 84 #[.int .u64 1, .int .u64 (n : Int)] w fun e w' => e = .returned (.tuple #[.int .u64 0, .int .u64 (n : Int)]) ∧ w = w' := by
  go_enter Tryz.func84, Tryz.ntmps84
  go_wp2_with fail
  refine (mul64_one n hn w).mono ?_
  rintro e w' ⟨rfl, rfl⟩
  go_wp2_with fail
  go_ret2
  exact ⟨rfl, rfl⟩
theorem makeIn (n : Nat) (hn : n ≤ 17592186044415) (w : World) : (Instr.makeSlice 23 (.int .i64 (n : Int)) (.int .i64 (n : Int))).run Tryz.prog w = .ok (.slice (some ⟨w.heap.size, 0, none⟩) n n) (w.alloc (.cells (madeCells #[.int .i64 0] n) 3)) := by
  obtain ⟨i0, hi, hz0, hz1, hz2⟩ := info_parts elI.info
  have hb : (i0.bytes : Int) * (n : Int) ≤ 281474976710656 := by rw [hz2]; omega
  have hr := run_make (P := Tryz.prog) w 23 3 i0 (.int .i64 0) Tryz.underlying23 hi hz0 .i64 .i64 n n (by omega) (Int.le_refl _) hb (by omega)
  rw [Int.toNat_natCast, hz1, Nat.mul_one] at hr
  exact hr
theorem madeI0 (n : Nat) : (madeCells #[.int .i64 0] n).toList = cellsL .i64 (List.replicate n 0) := by
  apply List.ext_getElem?
  intro i
  by_cases h : i < n <;> simp [cellsL, madeCells, Nat.mod_one, h]
theorem newI0 (w : World) (n : Nat) : Blk (w.alloc (.cells (madeCells #[.int .i64 0] n) 3)) w.heap.size 3 (cellsL .i64 (List.replicate n 0)) := by
  rw [← madeI0]
  exact Blk.newA w _ _
def fillL (v : Int) (k n : Nat) : List Value := cellsL .i64 (List.replicate k v ++ List.replicate (n - k) 0)
theorem fill_at (v : Int) (k n j : Nat) (h : j < n) : (fillL v k n)[j]? = some (.int .i64 (if j < k then v else 0)) := by
  unfold fillL cellsL
  rw [List.getElem?_map]
  by_cases hj : j < k
  · rw [List.getElem?_append_left (by simpa using hj)]
    simp [hj]
  · rw [List.getElem?_append_right (by simp; omega)]
    rw [List.getElem?_replicate, if_pos (by rw [List.length_replicate]; omega), if_neg hj]
    rfl
theorem fill_len (v : Int) (k n : Nat) (h : k ≤ n) : (fillL v k n).length = n := by simp [fillL, cellsL]; omega
theorem fill_zero (v : Int) (n : Nat) : fillL v 0 n = cellsL .i64 (List.replicate n 0) := by simp [fillL]
theorem fill_all (v : Int) (n : Nat) : fillL v n n = cellsL .i64 (List.replicate n v) := by simp [fillL]
theorem fill_splice (v : Int) (k m n : Nat) (h : k + m ≤ n) : splice (fillL v k n) k (List.replicate m (.int .i64 v)) = fillL v (k + m) n := by
  apply List.ext_getElem?
  intro j
  have hl : (splice (fillL v k n) k (List.replicate m (Value.int .i64 v))).length = n := by rw [length_splice _ _ _ (by rw [fill_len v k n (by omega), List.length_replicate]; exact h), fill_len v k n (by omega)]
  by_cases hj : j < n
  · rw [fill_at v (k + m) n j hj]
    unfold splice
    by_cases h1 : j < k
    · rw [List.getElem?_append_left (by rw [List.length_take, fill_len v k n (by omega)]; omega), List.getElem?_take_of_lt h1, fill_at v k n j hj, if_pos h1, if_pos (by omega)]
    · rw [List.getElem?_append_right (by rw [List.length_take, fill_len v k n (by omega)]; omega), List.length_take, fill_len v k n (by omega), Nat.min_eq_left (by omega)]
      by_cases h2 : j < k + m
      · rw [List.getElem?_append_left (by rw [List.length_replicate]; omega), if_pos h2]
        rw [List.getElem?_replicate, if_pos (by omega)]
      · rw [List.getElem?_append_right (by rw [List.length_replicate]; omega), List.length_replicate, if_neg h2, List.getElem?_drop, show k + m + (j - k - m) = j by omega, fill_at v k n j hj, if_neg h1]
  · rw [List.getElem?_eq_none (by omega), List.getElem?_eq_none (by rw [fill_len v (k + m) n h]; omega)]
theorem copyI {w w0 : World} {B g off dLen dCap sLen sCap : Nat} {a : Addr} {cur cs : List Value} (hK : Blk w g 3 cur) (hn : cs.length = Nat.min sLen dLen) (hsrc : ∀ j u, cs[j]? = some u → w.cell? (a.add j) = some u) (hfit : off + cs.length ≤ cur.length) (h1 : ∀ u ∈ cs, u.oneCell' = true) (hb : Below B w0 w) (hBg : B ≤ g) :
    ∃ w', (Builtin.copy_ #[23, 23] 3 #[.slice (some ⟨g, off, none⟩) dLen dCap, .slice (some a) sLen sCap]).run Tryz.prog w = .ok (.int .i64 (cs.length : Int)) w' ∧ Blk w' g 3 (splice cur off cs) ∧ Below B w0 w' := by
  have hr := run_copy_row (P := Tryz.prog) w 23 23 3 3 g off dLen dCap a sLen sCap cur.toArray 3 cs elI.sl (by kernel_rfl) hK hn hsrc (by simpa using hfit) h1
  refine ⟨_, hr, ?_, below_setRow hb hBg _⟩
  have h2 := setRow_heap w g cur.toArray (cur.take off ++ cs ++ cur.drop (off + cs.length)).toArray 3 (0, 0) hK
  unfold Blk
  simpa [splice] using h2
def RpTo (w : World) (n : Nat) (v : Int) (e : Ending) (w' : World) : Prop := e = .returned (.slice (some ⟨w.heap.size, 0, none⟩) n n) ∧ Blk w' w.heap.size 3 (cellsL .i64 (List.replicate n v)) ∧ Below w.heap.size w w'
set_option maxRecDepth 100000 in
set_option maxHeartbeats 8000000 in
theorem repeat_any (n g : Nat) (v : Int) (w : World) (hn : n ≤ 1048576) (hg : w.cell? ⟨g, 0, none⟩ = some (.int .i64 v)) (hgw : g < w.heap.size) :
    Calls Tryz.prog 61 #[.slice (some ⟨g, 0, none⟩) 1 1, .int .i64 (n : Int)] w fun e w' => RpTo w n v e w' := by
  obtain ⟨w1, hmk, hK1, hB1⟩ : ∃ w1, (Instr.makeSlice 23 (.int .i64 (n : Int)) (.int .i64 (n : Int))).run Tryz.prog w = .ok (.slice (some ⟨w.heap.size, 0, none⟩) n n) w1 ∧ Blk w1 w.heap.size 3 (fillL v 0 n) ∧ Below w.heap.size w w1 := ⟨_, makeIn n (by omega) w, by rw [fill_zero]; exact newI0 w n, below1 _ _⟩
  have hg1 := (hB1.cell (p := ⟨g, 0, none⟩) hgw).trans hg
  have u1 : IntKind.u64.wrap (n : Int) = (n : Int) := u64w _ (by omega)
  have u2 : IntKind.u64.wrap 1 = 1 := u64w _ (by omega)
  have u3 : IntKind.i64.wrap (n : Int) = (n : Int) := i64w _ (by omega)
  have hnn : ¬ ((n : Int) < 0) := by omega
  have hn7 : decide (9223372036854775807 < (n : Int)) = false := decide_eq_false (by omega)
  have HM := hide_ (mul_one_ n hn w)
  have HK1 := hide_ hK1
  have HB1 := hide_ hB1
  have Hg1 := hide_ hg1
  obtain ⟨m0, hm0⟩ : ∃ m0, min 1 n = m0 := ⟨_, rfl⟩
  obtain ⟨c1, hc1⟩ : ∃ c1 : List Value, List.replicate m0 (.int .i64 v) = c1 := ⟨_, rfl⟩
  have HL1 : Hid (c1.length = Nat.min 1 n) := hide_ (by rw [← hc1, List.length_replicate, ← hm0])
  have HL2 : Hid (c1.length = m0) := hide_ (by rw [← hc1, List.length_replicate])
  have HP1 : Hid (∀ j u, c1[j]? = some u → w1.cell? ((⟨g, 0, none⟩ : Addr).add j) = some u) := hide_ (fun j u hj => by
    rw [← hc1, List.getElem?_replicate] at hj
    have h1 : j < m0 := by
      by_cases h : j < m0
      · exact h
      · rw [if_neg h] at hj; cases hj
    rw [if_pos h1] at hj
    injection hj with hj
    have hj0 : j = 0 := by omega
    subst hj0
    rw [← hj]
    exact hg1)
  have HF1 : Hid (0 + c1.length ≤ (fillL v 0 n).length) := hide_ (by rw [fill_len v 0 n (by omega), ← hc1, List.length_replicate]; omega)
  have HO1 : Hid (∀ u ∈ c1, u.oneCell' = true) := hide_ (fun u hu => by
    rw [← hc1] at hu
    rw [List.eq_of_mem_replicate hu]
    rfl)
  have HS1 : Hid (splice (fillL v 0 n) 0 c1 = fillL v m0 n) := hide_ (by
    have h1 := fill_splice v 0 m0 n (by omega)
    rw [hc1, Nat.zero_add] at h1
    exact h1)
  have HM0 : Hid (m0 ≤ n ∧ (0 < n → 0 < m0)) := hide_ (by omega)
  obtain ⟨w3, hcp, hK3, hB3⟩ := copyI (a := ⟨g, 0, none⟩) (dLen := n) (dCap := n) (sLen := 1) (sCap := 1) (off := 0) HK1.out HL1.out HP1.out HF1.out HO1.out HB1.out (Nat.le_refl _)
  rw [HL2.out] at hcp
  rw [HS1.out] at hK3
  have HK3 := hide_ hK3
  have HB3 := hide_ hB3
  clear hK1 hB1 hg1 hg hc1 hm0 hK3 hB3 HK1 HB1 HL1 HP1 HF1 HO1 HS1 Hg1 HL2
  go_enter Tryz.func61, Tryz.ntmps61
  go_wp2_with fail
  refine HM.out.mono ?_
  rintro e w2 ⟨rfl, rfl⟩
  clear HM
  go_wp2_with fail
  clear hmk hcp
  go_loopw [8] (fun x8 wr => ∃ (k : Nat), x8 = .int .i64 (k : Int) ∧ k ≤ n ∧ Hid (0 < n → 0 < k) ∧ Hid (Blk wr w.heap.size 3 (fillL v k n)) ∧ Hid (Below w.heap.size w wr)) (fun x8 _ => n - (intOf x8).toNat)
  case atStart => exact ⟨m0, rfl, HM0.out.1, hide_ HM0.out.2, HK3, HB3⟩
  case round =>
    clear HK3 HB3 HM0
    obtain ⟨k, rfl, hk, Hk0, HK, HB⟩ := hrel
    generalize wr = wq at *
    by_cases hlt : k < n
    · have hlt' : (k : Int) < (n : Int) := by omega
      obtain ⟨m, hm⟩ : ∃ m, min k (n - k) = m := ⟨_, rfl⟩
      obtain ⟨cs, hcs⟩ : ∃ cs : List Value, List.replicate m (.int .i64 v) = cs := ⟨_, rfl⟩
      have HL : Hid (cs.length = Nat.min k (n - k)) := hide_ (by rw [← hcs, List.length_replicate, ← hm])
      have HLm : Hid (cs.length = m) := hide_ (by rw [← hcs, List.length_replicate])
      have HP : Hid (∀ wx, Below wq.heap.size wq wx → ∀ j u, cs[j]? = some u → wx.cell? ((⟨w.heap.size, 0, none⟩ : Addr).add j) = some u) := hide_ (fun wx hx j u hj => by
        rw [← hcs, List.getElem?_replicate] at hj
        have h1 : j < m := by
          by_cases h : j < m
          · exact h
          · rw [if_neg h] at hj; cases hj
        rw [if_pos h1] at hj
        have e : (⟨w.heap.size, 0, none⟩ : Addr).add j = ⟨w.heap.size, j, none⟩ := by
          unfold Addr.add
          split <;> simp_all
        rw [e, (HK.out.later hx).cell, fill_at v k n j (by omega), if_pos (by omega)]
        exact hj)
      have HF : Hid (k + cs.length ≤ (fillL v k n).length) := hide_ (by rw [fill_len v k n hk, ← hcs, List.length_replicate]; omega)
      have HO : Hid (∀ u ∈ cs, u.oneCell' = true) := hide_ (fun u hu => by
        rw [← hcs] at hu
        rw [List.eq_of_mem_replicate hu]
        rfl)
      have HS : Hid (splice (fillL v k n) k cs = fillL v (k + m) n) := hide_ (by
        have h1 := fill_splice v k m n (by omega)
        rw [hcs] at h1
        exact h1)
      have Hmk : Hid (k + m ≤ n ∧ 0 < m) := hide_ (by have := Hk0.out (by omega); omega)
      have hkn : ¬ (n = k) := by omega
      have hwk : IntKind.i64.wrap ((k : Int) + (m : Int)) = (k : Int) + (m : Int) := i64w _ (by have := Hmk.out; omega)
      clear hm hcs
      go_wp2_with fail
      refine wp_region_last 9 (fun _ => True) (by kernel_rfl) (trivial) (fun hHeld => ?_)
      obtain ⟨wz0, hz0⟩ : ∃ wx, wq.drew = wx := ⟨_, rfl⟩
      (try rw [hz0])
      have HBz0 : Hid (Below wq.heap.size wq wz0) := hide_ (by rw [← hz0]; exact (Below.refl _ _).drew)
      clear hz0
      have HKz := hide_ (HK.out.later HBz0.out)
      have HBz := hide_ (below_to HB.out HBz0.out)
      clear HK HB
      refine wpAnyF_take [9] (by kernel_rfl) (i := 0) (v := ?vp1) rfl (by kernel_rfl) (by kernel_rfl) (by kernel_rfl) (fun _ _ _ h => h) (Or.inl ⟨by kernel_rfl, ?hyp1⟩) hHeld ?restp1
      case hyp1 => intro w' hSw; (try dsimp only at hSw); go_simp; try with_reducible rfl
      simp only [Act.put]
      try dsimp only
      refine wpAnyF_take [9] (by kernel_rfl) (i := 1) (v := ?vp2) rfl (by kernel_rfl) (by kernel_rfl) (by kernel_rfl) (fun _ _ _ h => h) (Or.inl ⟨by kernel_rfl, ?hyp2⟩) hHeld ?restp2
      case hyp2 => intro w' hSw; (try dsimp only at hSw); go_simp; try with_reducible rfl
      simp only [Act.put]
      try dsimp only
      refine wpAnyF_take [9] (by kernel_rfl) (i := 2) (v := ?vp3) rfl (by kernel_rfl) (by kernel_rfl) (by kernel_rfl) (fun _ _ _ h => h) (Or.inl ⟨by kernel_rfl, ?hyp3⟩) hHeld ?restp3
      case hyp3 => intro w' hSw; (try dsimp only at hSw); go_simp; try with_reducible rfl
      simp only [Act.put]
      try dsimp only
      refine wpAnyF_take [9] (by kernel_rfl) (i := 3) (v := ?vp4) rfl (by kernel_rfl) (by kernel_rfl) (by kernel_rfl) (fun _ _ _ h => h) (Or.inl ⟨by kernel_rfl, ?hyp4⟩) hHeld ?restp4
      case hyp4 => intro w' hSw; (try dsimp only at hSw); go_simp; try with_reducible rfl
      simp only [Act.put]
      try dsimp only
      refine wpAnyF_take [9] (by kernel_rfl) (i := 4) (v := ?vp5) rfl (by kernel_rfl) (by kernel_rfl) (by kernel_rfl) (fun _ _ _ h => h) (Or.inl ⟨by kernel_rfl, ?hyp5⟩) hHeld ?restp5
      case hyp5 => intro w' hSw; (try dsimp only at hSw); go_simp; try with_reducible rfl
      simp only [Act.put]
      try dsimp only
      refine wpAnyF_take [9] (by kernel_rfl) (i := 5) (v := ?vp6) rfl (by kernel_rfl) (by kernel_rfl) (by kernel_rfl) (fun _ _ _ h => h) (Or.inl ⟨by kernel_rfl, ?hyp6⟩) hHeld ?restp6
      case hyp6 => intro w' hSw; (try dsimp only at hSw); go_simp; try with_reducible rfl
      simp only [Act.put]
      try dsimp only
      refine wpAnyF_take [9] (by kernel_rfl) (i := 6) (v := ?vp7) rfl (by kernel_rfl) (by kernel_rfl) (by kernel_rfl) (fun _ _ _ h => h) (Or.inl ⟨by kernel_rfl, ?hyp7⟩) hHeld ?restp7
      case hyp7 => intro w' hSw; (try dsimp only at hSw); go_simp; try with_reducible rfl
      simp only [Act.put]
      try dsimp only
      refine wpAnyF_ready (rs := [7]) (by kernel_rfl) (by simp) ?_
      refine AllReadyF.cons rfl (fun K hK => ?_) AllReadyF.nil
      refine step_copy_splice rfl (.tmp 41) (.tmp 44) 23 23 rfl 3 elI.sl (by kernel_rfl) (some ⟨w.heap.size, k, none⟩) (some ⟨w.heap.size, 0, none⟩) (n - k) (n - k) k n (by kernel_rfl) (by kernel_rfl) w.heap.size k (fillL v k n) 3 HKz.out cs HL.out (fun _ => ⟨rfl, _, rfl, HP.out _ HBz0.out⟩) HF.out HO.out w.heap.size w HBz.out (Nat.le_refl _) ?_
      intro w4 HG4 hB4
      have HK4 : Hid (Blk w4 w.heap.size 3 (fillL v (k + m) n)) := hide_ (by
        have h1 := HG4.out
        rw [HS.out] at h1
        exact h1)
      have HB4 := hide_ hB4
      simp only [Act.put]
      rw [HLm.out]
      clear HG4 hB4
      refine hK.out _ _ (trivial) (fun hHeld => ?_)
      clear hK K
      refine wpAnyF_take [9] (by kernel_rfl) (i := 8) (v := ?vp8) rfl (by kernel_rfl) (by kernel_rfl) (by kernel_rfl) (fun _ _ _ h => h) (Or.inl ⟨by kernel_rfl, ?hyp8⟩) hHeld ?restp8
      case hyp8 => intro w' hSw; (try dsimp only at hSw); go_simp; try with_reducible rfl
      simp only [Act.put]
      try dsimp only
      refine wpAnyF_ready (rs := [9]) (by kernel_rfl) (by simp) ?_
      refine AllReadyF.last rfl (fun K hK => ?_)
      go_simp
      refine hK.out _ _ ?_
      clear hK K
      refine wpAnyF_done (by kernel_rfl) ?_ _
      go_roundw
      case rel =>
        refine ⟨_, _, _, _, _, _, _, _, _, _, _, _, _, _, ⟨k + m, ?_, Hmk.out.1, hide_ (fun _ => by have := Hmk.out.2; omega), HK4, HB4⟩, rfl⟩
        go_num
      case measure => have := Hmk.out; simp [intOf]; omega
    · have hlt' : ¬ ((k : Int) < (n : Int)) := by omega
      have HX : Hid (RpTo w n v (.returned (.slice (some ⟨w.heap.size, 0, none⟩) n n)) wq) := hide_ (by
        obtain rfl : k = n := by omega
        have h1 := HK.out
        rw [fill_all] at h1
        exact ⟨rfl, h1, HB.out⟩)
      go_wp2_with fail
      go_ret
      exact HX.out
end Go.Proofs.YtjamfbpdepahnaaGreat
