import Derived.Test.YtlbgdgobhiokpaaDoorPart02
import Derived.Test.YtlbgdgobhiokpaaDoorPart01
import Derived.Test.YtlbgdgobhiokpaaDoorPart13
import Derived.Test.YtlbgdgobhiokpaaDoorPart11

/- strconv.FormatUint(n, 10). -/
namespace Go.Proofs.YtlbgdgobhiokpaaDoor
open Go.RowKit Go.Sort
set_option linter.unusedVariables false

theorem dec_digs (u : Nat) (h : u < 18446744073709551616) : (⟨(Lib.decDigits u).toArray⟩ : ByteArray) = strOfNums (digs u) := by
  have h1 := digs_cells u h
  apply ByteArray.ext
  apply Array.ext'
  rw [strOfNums_data]
  have h2 : (Lib.decDigits u).map (fun b : UInt8 => (b.toNat : Int)) = digs u := by
    have h3 : (Lib.byteCells (Lib.decDigits u)).map (fun v => match v with | .int _ x => x | _ => 0) = (cellsL .u8 (digs u)).map (fun v => match v with | .int _ x => x | _ => 0) := by rw [h1]
    simpa [Lib.byteCells, cellsL, Function.comp_def] using h3
  rw [← h2, List.map_map]
  simp [Function.comp_def]
set_option maxRecDepth 100000 in
set_option maxHeartbeats 4000000 in
theorem fmtI_any (u : Nat) (w : World) (hu64 : u < 18446744073709551616) (ht : Hid (Tab w.heap.size w)) :
    Calls Tryd.prog 93 #[.int .u64 u, .int .i64 10] w fun e w' => e = .returned (.string (strOfNums (digs u))) ∧ Below w.heap.size w w' := by
  by_cases hu : u < 100
  · have iu : (u : Int) < 100 := by omega
    have HE := hide_ (dec_digs u hu64)
    go_enter Tryd.func93, Tryd.ntmps93
    go_wp2_with (go_at_call 78; refine (Tryd.internal_strconv_small u hu _).mono ?_; rintro e w' ⟨rfl, rfl⟩)
    go_ret
    exact ⟨by rw [← HE.out]; rfl, Below.refl _ _⟩
  · have hu1 : 1 ≤ u := by omega
    have hnd20 : Lib.nDigits u ≤ 20 := by have := Lib.numDigits_eq u hu1 hu64; split at this <;> omega
    have hal : Tryd.prog.arrayLen 144 = 24 := by kernel_rfl
    have hsl : ∀ W, (Instr.sliceAt 144 (.pointer (some ⟨w.heap.size, 0, none⟩)) none (some (.int .i64 (Lib.nDigits u : Int))) none).run Tryd.prog W = .ok (.slice (some ⟨w.heap.size, 0, none⟩) (Lib.nDigits u) 24) W := fun W => by
      rw [run_sliceAt_array_h W 144 ⟨w.heap.size, 0, none⟩ (by kernel_rfl) .i64 (Lib.nDigits u : Int) (by omega) (by rw [hal]; omega)]
      rw [hal]
      go_simp
    have hH0 := Lib.holds_zero0 w 144 (Lib.nDigits u) (by omega)
    have hfmt := Tryd.internal_strconv_formatBase10 w.heap.size 0 24 u (Array.replicate (Lib.nDigits u) 0) (w.alloc (.cells Lib.zeros24 144)) hH0 (by rw [Array.size_replicate]; exact Lib.lt_pow_nDigits u) hu64 (by rw [Array.size_replicate]; omega)
    rw [Array.size_replicate] at hfmt
    have HH0 := hide_ hH0
    have HF := hide_ hfmt
    have iu : ¬ ((u : Int) < 100) := by omega
    have HE := hide_ (dec_digs u hu64)
    clear hH0 hal hfmt
    go_enter Tryd.func93, Tryd.ntmps93
    go_wp2_with (go_at_call 79; refine (Tryd.internal_strconv_numDigits u hu1 hu64 _ (Lib.tabIs_alloc ht.out.is _)).mono ?_; rintro e w' ⟨rfl, rfl⟩)
    refine HF.out.mono ?_
    rintro e w' ⟨rfl, k, v', dk, rfl, hF⟩
    obtain ⟨W2, hW2⟩ : ∃ W2, W2 = (putRow (fun (b : UInt8) => Value.int .u8 (b.toNat : Int)) (w.alloc (.cells Lib.zeros24 144)) w.heap.size 0 dk).drewN k := ⟨_, rfl⟩
    have hcells : ∀ j, j < (Lib.decDigits u).length → W2.cell? ⟨w.heap.size, j, none⟩ = some (.int .u8 ((digs u).getD j 0)) := by
      intro j hjl
      have e6 : (cellsL .u8 (digs u))[j]? = (Lib.byteCells (Lib.decDigits u))[j]? := by rw [digs_cells u hu64]
      have hlen : (Lib.decDigits u).length = (digs u).length := by
        have := congrArg List.length (digs_cells u hu64)
        rwa [Lib.byteCells_length, cellsL_length] at this
      have e5 : (Lib.byteCells (Lib.decDigits u))[j]? = some (Value.int .u8 ((Lib.decDigits u)[j].toNat : Int)) := by simp [Lib.byteCells, hjl]
      rw [cellsL_at _ _ _ (by omega), e5] at e6
      rw [e6, Lib.row_is_numeral hF j hjl, hW2, World.cell?_drewN]
      have := cell?_putRow (fun (b : UInt8) => Value.int .u8 (b.toNat : Int)) _ w.heap.size 0 _ dk HH0.out (by rw [hF.size, Array.size_replicate]) j (by rw [hF.size]; rw [Lib.decDigits_length] at hjl; exact hjl)
      rw [Nat.zero_add] at this
      exact this
    obtain ⟨os, eo⟩ := Lib.fin_at w (.cells Lib.zeros24 144) dk k 0
    have hnx2 : Below w.heap.size w W2 := by rw [hW2, eo]; exact Lib.below_grow w.heap.size w (Nat.le_refl _) k os
    rw [← hW2]
    have hdl : (digs u).length = Lib.nDigits u := by
      have := congrArg List.length (digs_cells u hu64)
      rw [Lib.byteCells_length, cellsL_length, Lib.decDigits_length] at this
      exact this.symm
    have hrow : Row .u8 W2 (some ⟨w.heap.size, 0, none⟩) (digs u) := Row.mk fun j hj => by
      rw [Nat.zero_add]
      exact hcells j (by rw [Lib.decDigits_length, ← hdl]; exact hj)
    have hcv := conv_row E41 Tryd.underlying9 W2 (some ⟨w.heap.size, 0, none⟩) (Lib.nDigits u) 24 (digs u) hdl hrow
    clear hW2 hcells eo HH0 HF hF hrow hdl ht
    go_wp2
    go_ret
    exact ⟨rfl, hnx2⟩
theorem fmt_any (u : Nat) (w : World) (hu64 : u < 18446744073709551616) (ht : Hid (Tab w.heap.size w)) :
    Calls Tryd.prog 87 #[.int .u64 u, .int .i64 10] w fun e w' => e = .returned (.string (strOfNums (digs u))) ∧ Below w.heap.size w w' := by
  go_enter Tryd.func87, Tryd.ntmps87
  go_wp2_with fail
  refine (fmtI_any u w hu64 ht).mono ?_; rintro e w1 ⟨rfl, hB⟩
  go_wp2
  go_ret
  exact ⟨rfl, hB⟩
end Go.Proofs.YtlbgdgobhiokpaaDoor

/- The document's Number, Right, Check, Next. -/
namespace Go.Proofs.YtlbgdgobhiokpaaDoor
open Go.RowKit
set_option linter.unusedVariables false
set_option linter.unusedSimpArgs false

def numB (k n : Int) : Bool := decide ((1 ≤ k ∧ k ≤ 6) ∧ n ≤ mostN k)
theorem kind_cases (k : Int) : k = 1 ∨ k = 2 ∨ k = 3 ∨ k = 4 ∨ k = 5 ∨ k = 6 ∨ (k ≠ 1 ∧ k ≠ 2 ∧ k ≠ 3 ∧ k ≠ 4 ∧ k ≠ 5 ∧ k ≠ 6) := by omega
set_option maxRecDepth 100000 in
set_option maxHeartbeats 4000000 in
theorem numberD_any (k n : Int) (w : World) (h0 : 0 ≤ n ∧ n ≤ 18446744073709551615) : Calls Tryd.prog 49 #[.int .i64 k, .int .u64 n] w fun e w' => e = .returned (.bool (numB k n)) ∧ w = w' := by
  go_enter Tryd.func49, Tryd.ntmps49
  rcases kind_cases k with rfl | rfl | rfl | rfl | rfl | rfl | ⟨k1, k2, k3, k4, k5, k6⟩
  · have hn : numB 1 n = true := by simp [numB, mostN]; omega
    rw [hn]
    go_wp2
    go_ret
    exact ⟨rfl, rfl⟩
  · by_cases h : n ≤ 1
    · have hn : numB 2 n = true := by simp [numB, mostN]; omega
      rw [hn]
      go_wp2
      go_ret
      exact ⟨by first | rfl | (simp [h]), rfl⟩
    · have hn : numB 2 n = false := by simp [numB, mostN]; omega
      rw [hn]
      go_wp2
      go_ret
      exact ⟨by first | rfl | (simp [h]), rfl⟩
  · by_cases h : n = 0
    · subst h
      go_wp2
      go_ret
      exact ⟨rfl, rfl⟩
    · have hn : numB 3 n = false := by simp [numB, mostN]; omega
      have hb : (n == 0) = false := by simpa using h
      rw [hn]
      go_wp2
      go_ret
      exact ⟨rfl, rfl⟩
  · by_cases h : n = 0
    · subst h
      go_wp2
      go_ret
      exact ⟨rfl, rfl⟩
    · have hn : numB 4 n = false := by simp [numB, mostN]; omega
      have hb : (n == 0) = false := by simpa using h
      rw [hn]
      go_wp2
      go_ret
      exact ⟨rfl, rfl⟩
  · by_cases h : n = 0
    · subst h
      go_wp2
      go_ret
      exact ⟨rfl, rfl⟩
    · have hn : numB 5 n = false := by simp [numB, mostN]; omega
      have hb : (n == 0) = false := by simpa using h
      rw [hn]
      go_wp2
      go_ret
      exact ⟨rfl, rfl⟩
  · by_cases h : n ≤ 255
    · have hn : numB 6 n = true := by simp [numB, mostN]; omega
      rw [hn]
      go_wp2
      go_ret
      exact ⟨by first | rfl | (simp [h]), rfl⟩
    · have hn : numB 6 n = false := by simp [numB, mostN]; omega
      rw [hn]
      go_wp2
      go_ret
      exact ⟨by first | rfl | (simp [h]), rfl⟩
  · have hn : numB k n = false := by simp [numB]; intros; omega
    rw [hn]
    have b1 : (k == 1) = false := by simpa using k1
    have b2 : (k == 2) = false := by simpa using k2
    have b3 : (k == 3) = false := by simpa using k3
    have b4 : (k == 4) = false := by simpa using k4
    have b5 : (k == 5) = false := by simpa using k5
    have b6 : (k == 6) = false := by simpa using k6
    by_cases h : n = 0
    · subst h
      go_wp2
      go_ret
      exact ⟨rfl, rfl⟩
    · have hb : (n == 0) = false := by simpa using h
      go_wp2
      go_ret
      exact ⟨rfl, rfl⟩
set_option maxRecDepth 100000 in
set_option maxHeartbeats 4000000 in
theorem rightD_any (x : Nd) (w : World) (h0 : 0 ≤ x.2.1 ∧ x.2.1 ≤ 18446744073709551615) : Calls Tryd.prog 65 #[ndv x] w fun e w' => e = .returned (.bool (right x)) ∧ Below w.heap.size w w' := by
  obtain ⟨k, n, c⟩ := x
  simp only at h0
  unfold ndv
  obtain ⟨wA, hwA⟩ : ∃ wA, wA = w.alloc (.cells #[.int .i64 k, .int .u64 n, .int .i64 c] 37) := ⟨_, rfl⟩
  have HB : Hid (Below w.heap.size w wA) := by rw [hwA]; exact (Below.refl _ _).alloc (Nat.le_refl _) _
  have K := Blk.newA w #[.int .i64 k, .int .u64 n, .int .i64 c] 37
  rw [← hwA] at K
  have c0 : wA.cell? ⟨w.heap.size, 0, none⟩ = some (.int .i64 k) := K.cell 0
  have c1 : wA.cell? ⟨w.heap.size, 1, none⟩ = some (.int .u64 n) := K.cell 1
  have c2 : wA.cell? ⟨w.heap.size, 2, none⟩ = some (.int .i64 c) := K.cell 2
  go_enter Tryd.func65, Tryd.ntmps65
  go_upto_region 1 with fail
  rw [← hwA]
  clear hwA K
  go_wp2_with fail
  refine (numberD_any k n wA h0).mono ?_; rintro e w1 ⟨rfl, rfl⟩
  cases hnb : numB k n
  · have hr : right (k, n, c) = false := by simp [numB] at hnb; simp [right]; intros; omega
    go_wp2
    go_ret
    exact ⟨by rw [hr]; rfl, HB.out⟩
  · have hnb' : (1 ≤ k ∧ k ≤ 6) ∧ n ≤ mostN k := by simpa [numB] using hnb
    clear hnb
    rcases kind_cases k with rfl | rfl | rfl | rfl | rfl | rfl | ⟨k1, k2, k3, k4, k5, k6⟩
    · by_cases h : c = 0
      · subst h
        have hr : right (1, n, 0) = true := (right_iff _).2 ⟨hnb'.1, hnb'.2, by simp [leastK], by simp [mostK]⟩
        go_wp2
        go_ret
        exact ⟨by rw [hr]; rfl, HB.out⟩
      · have hr : right (1, n, c) = false := by simp [right, leastK, mostK]; intros; omega
        have hb : (c == 0) = false := by simpa using h
        go_wp2
        go_ret
        exact ⟨by rw [hr]; rfl, HB.out⟩
    · by_cases h : c = 0
      · subst h
        have hr : right (2, n, 0) = true := (right_iff _).2 ⟨hnb'.1, hnb'.2, by simp [leastK], by simp [mostK]⟩
        go_wp2
        go_ret
        exact ⟨by rw [hr]; rfl, HB.out⟩
      · have hr : right (2, n, c) = false := by simp [right, leastK, mostK]; intros; omega
        have hb : (c == 0) = false := by simpa using h
        go_wp2
        go_ret
        exact ⟨by rw [hr]; rfl, HB.out⟩
    · by_cases h : 0 ≤ c
      · by_cases h2 : c ≤ 1048576
        · have hr : right (3, n, c) = true := (right_iff _).2 ⟨hnb'.1, hnb'.2, by simpa [leastK] using h, by simpa [mostK] using h2⟩
          go_wp2
          go_ret
          exact ⟨by first | (rw [hr]; rfl) | (rw [hr]; simp [h2]; done) | rfl | (simp [h2]; done), HB.out⟩
        · have hr : right (3, n, c) = false := by simp [right, leastK, mostK]; intros; omega
          go_wp2
          go_ret
          exact ⟨by first | (rw [hr]; rfl) | (rw [hr]; simp [h2]; done) | rfl | (simp [h2]; done), HB.out⟩
      · have hr : right (3, n, c) = false := by simp [right, leastK, mostK]; intros; omega
        go_wp2
        go_ret
        exact ⟨by first | (rw [hr]; rfl) | (rw [hr]; simp [h]; done) | rfl | (simp [h]; done), HB.out⟩
    · by_cases h : 1 ≤ c
      · by_cases h2 : c ≤ 64
        · have hr : right (4, n, c) = true := (right_iff _).2 ⟨hnb'.1, hnb'.2, by simpa [leastK] using h, by simpa [mostK] using h2⟩
          go_wp2
          go_ret
          exact ⟨by first | (rw [hr]; rfl) | (rw [hr]; simp [h2]; done) | rfl | (simp [h2]; done), HB.out⟩
        · have hr : right (4, n, c) = false := by simp [right, leastK, mostK]; intros; omega
          go_wp2
          go_ret
          exact ⟨by first | (rw [hr]; rfl) | (rw [hr]; simp [h2]; done) | rfl | (simp [h2]; done), HB.out⟩
      · have hr : right (4, n, c) = false := by simp [right, leastK, mostK]; intros; omega
        go_wp2
        go_ret
        exact ⟨by first | (rw [hr]; rfl) | (rw [hr]; simp [h]; done) | rfl | (simp [h]; done), HB.out⟩
    · by_cases h : c = 0
      · subst h
        have hr : right (5, n, 0) = true := (right_iff _).2 ⟨hnb'.1, hnb'.2, by simp [leastK], by simp [mostK]⟩
        go_wp2
        go_ret
        exact ⟨by rw [hr]; rfl, HB.out⟩
      · have hb : (c == 0) = false := by simpa using h
        by_cases h2 : c = 1
        · subst h2
          have hr : right (5, n, 1) = true := (right_iff _).2 ⟨hnb'.1, hnb'.2, by simp [leastK], by simp [mostK]⟩
          go_wp2
          go_ret
          exact ⟨by rw [hr]; rfl, HB.out⟩
        · have hb2 : (c == 1) = false := by simpa using h2
          have hr : right (5, n, c) = false := by simp [right, leastK, mostK]; intros; omega
          go_wp2
          go_ret
          exact ⟨by rw [hr]; rfl, HB.out⟩
    · by_cases h : c = 1
      · subst h
        have hr : right (6, n, 1) = true := (right_iff _).2 ⟨hnb'.1, hnb'.2, by simp [leastK], by simp [mostK]⟩
        go_wp2
        go_ret
        exact ⟨by rw [hr]; rfl, HB.out⟩
      · have hr : right (6, n, c) = false := by simp [right, leastK, mostK]; intros; omega
        have hb : (c == 1) = false := by simpa using h
        go_wp2
        go_ret
        exact ⟨by rw [hr]; rfl, HB.out⟩
    · omega
end Go.Proofs.YtlbgdgobhiokpaaDoor

/- The document's Check, Next. -/
namespace Go.Proofs.YtlbgdgobhiokpaaDoor
open Go.RowKit
set_option linter.unusedVariables false

/-- Numbers that a memory holds. -/
def NatN (l : List Nd) : Prop := ∀ x ∈ l, 0 ≤ x.2.1 ∧ x.2.1 ≤ 18446744073709551615
theorem NatN.at {l : List Nd} (h : NatN l) {k : Nat} (hk : k < l.length) : 0 ≤ (l.getD k nil0).2.1 ∧ (l.getD k nil0).2.1 ≤ 18446744073709551615 :=
  h _ (by rw [List.getD_eq_getElem?_getD, List.getElem?_eq_getElem hk]; exact List.getElem_mem hk)
set_option maxRecDepth 100000 in
set_option maxHeartbeats 4000000 in
theorem checkD_any (a : Option Addr) (len cap : Nat) (l : List Nd) (w : World) (hl : l.length = len) (hs : len ≤ 1000000) (hr : Hid (NRow w a l)) (hn : Hid (NatN l)) :
    Calls Tryd.prog 42 #[.slice a len cap] w fun e w' => e = .returned (pairv (chk 1 0 l)) ∧ Below w.heap.size w w' := by
  go_enter Tryd.func42, Tryd.ntmps42
  go_wp2_with fail
  go_loopw [4, 5] (fun m i wr => ∃ (M : Int) (k : Nat), k ≤ len ∧ i = .int .i64 k ∧ m = .int .i64 M ∧ 0 ≤ M ∧ M ≤ 1 + 1048576 * (k : Int) ∧ Hid (chk M k (l.drop k) = chk 1 0 l) ∧ Hid (Below w.heap.size w wr)) (fun _ i _ => len - (intOf i).toNat)
  case atStart => exact ⟨1, 0, Nat.zero_le _, rfl, rfl, by omega, by omega, rfl, Below.refl _ _⟩
  case round =>
    obtain ⟨M, k, hk, rfl, rfl, hM0, hM1, HC, HB⟩ := hrel
    by_cases hlt : k < len
    · obtain ⟨b, off, rfl, hb, hc⟩ := hr.out.open (by omega)
      obtain ⟨c0, c1, c2⟩ := hc k (by omega)
      have hlt' : (k : Int) < len := by omega
      have d0 := (HB.out.cell (p := ⟨b, off + k * 3, none⟩) hb).trans c0
      have d1 := (HB.out.cell (p := ⟨b, off + k * 3 + 1, none⟩) hb).trans c1
      have d2 := (HB.out.cell (p := ⟨b, off + k * 3 + 2, none⟩) hb).trans c2
      have HC1 : Hid (chk M k (l.getD k nil0 :: l.drop (k + 1)) = chk 1 0 l) := by
        have := HC.out
        rw [drop_at l k (by omega)] at this
        exact this
      have hnk := hn.out.at (k := k) (by omega)
      clear hc c0 c1 c2 HC
      generalize l.getD k nil0 = x at *
      obtain ⟨xk, xn, xc⟩ := x
      simp only at hnk
      by_cases hM : M = 0
      · subst hM
        have HE : Hid (chk 1 0 l = (40, (k : Int))) := by
          have := HC1.out
          rw [chk, if_pos (.inl rfl)] at this
          exact this.symm
        go_wp2
        go_ret2
        exact ⟨ret_pair HE.out, HB.out⟩
      · have hbM : (M == 0) = false := by simpa using hM
        go_wp2_with fail
        refine (rightD_any (xk, xn, xc) _ hnk).mono ?_; rintro e w1 ⟨rfl, hB1⟩
        have HB1 : Hid (Below w.heap.size w w1) := HB.out.trans (hB1.mono HB.out.size)
        have f2 : w1.cell? ⟨b, off + k * 3 + 2, none⟩ = some (.int .i64 xc) := (HB1.out.cell (p := ⟨b, off + k * 3 + 2, none⟩) hb).trans ((HB.out.cell (p := ⟨b, off + k * 3 + 2, none⟩) hb).symm.trans d2)
        clear hB1 d0 d1 d2
        by_cases hx : right (xk, xn, xc) = true
        · have HC2 : Hid (chk (M + (xc - 1)) (k + 1) (l.drop (k + 1)) = chk 1 0 l) := by
            have := HC1.out
            rw [chk, if_neg (by simp [hM, hx])] at this
            exact this
          have hxc := right_kids hx
          simp only at hxc
          clear HC1 HB hr
          rw [hx]
          go_wp2
          go_roundw
          case rel => exact ⟨M + (xc - 1), k + 1, by omega, by go_num, by go_num, by omega, by omega, by simpa using HC2, HB1⟩
          case measure => simp [intOf]; omega
        · have hx' : right (xk, xn, xc) = false := by simpa using hx
          have HE : Hid (chk 1 0 l = (40, (k : Int))) := by
            have := HC1.out
            rw [chk, if_pos (.inr hx')] at this
            exact this.symm
          rw [hx']
          go_wp2
          go_ret2
          exact ⟨ret_pair HE.out, HB1.out⟩
    · obtain rfl : k = len := by omega
      have HC1 := HC.out
      rw [List.drop_eq_nil_of_le (by omega), chk] at HC1
      have hnl : ¬ ((k : Int) < (k : Int)) := by omega
      by_cases hM : 0 < M
      · rw [if_pos hM] at HC1
        have HC2 : Hid (chk 1 0 l = (40, (k : Int))) := HC1.symm
        clear HC1
        go_wp2
        go_ret2
        exact ⟨ret_pair HC2.out, HB.out⟩
      · rw [if_neg hM] at HC1
        have HC2 : Hid (chk 1 0 l = (0, 0)) := HC1.symm
        clear HC1
        go_wp2
        go_ret2
        exact ⟨ret_pair HC2.out, HB.out⟩
set_option maxRecDepth 100000 in
set_option maxHeartbeats 4000000 in
theorem behindD_any (a : Option Addr) (len cap p : Nat) (l : List Nd) (w : World) (hl : l.length = len) (hs : len ≤ 1000000) (hp : p ≤ len) (hr : Hid (NRow w a l)) (he : Hid (Enough 1 (l.drop p))) :
    Calls Tryd.prog 43 #[.slice a len cap, .int .i64 p] w fun e w' => e = .returned (.int .i64 ((p + bh 1 (l.drop p) : Nat) : Int)) ∧ w = w' := by
  go_enter Tryd.func43, Tryd.ntmps43
  go_wp2_with fail
  go_loopw [1, 5] (fun i m wr => ∃ (q u : Nat), q ≤ len ∧ p ≤ q ∧ i = .int .i64 q ∧ m = .int .i64 u ∧ u ≤ 1048576 * (q + 1) ∧ Hid (Enough u (l.drop q)) ∧ Hid (q + bh u (l.drop q) = p + bh 1 (l.drop p)) ∧ w = wr) (fun i _ _ => len - (intOf i).toNat)
  case atStart => exact ⟨p, 1, hp, Nat.le_refl _, rfl, rfl, by omega, he, rfl, rfl⟩
  case round =>
    clear he
    obtain ⟨q, u, hq, hpq, rfl, rfl, hu, HE, HQ, rfl⟩ := hrel
    cases u with
    | zero =>
      go_wp2
      go_ret
      refine ⟨?_, rfl⟩
      have := HQ.out
      rw [bh_zero, Nat.add_zero] at this
      exact ret_int (congrArg Nat.cast this)
    | succ u =>
      have hlt : q < len := by
        rcases Nat.lt_or_ge q len with h | h
        · exact h
        · have := HE.out
          rw [List.drop_eq_nil_of_le (by omega)] at this
          exact this.elim
      obtain ⟨b, off, rfl, hb, hc⟩ := hr.out.open (by omega)
      obtain ⟨-, -, c2⟩ := hc q (by omega)
      have HE1 := HE.out
      have HQ1 := HQ.out
      rw [drop_at l q (by omega)] at HE1 HQ1
      obtain ⟨x0, x1, HE2⟩ := HE1
      rw [bh] at HQ1
      generalize (l.getD q nil0).2.2 = xc at *
      obtain ⟨xc, rfl⟩ := Int.eq_ofNat_of_zero_le x0
      simp only [Int.toNat_natCast] at *
      have HE3 : Hid (Enough (u + xc) (l.drop (q + 1))) := HE2
      have HQ3 : Hid (q + 1 + bh (u + xc) (l.drop (q + 1)) = p + bh 1 (l.drop p)) := by show _ = _; omega
      clear HE2 HQ1 hc HE HQ
      go_wp2
      go_roundw
      case rel => exact ⟨q + 1, u + xc, by omega, by omega, by go_num, by go_num, by omega, HE3, HQ3, trivial⟩
      case measure => simp [intOf]; omega
set_option maxRecDepth 100000 in
set_option maxHeartbeats 4000000 in
theorem nextD_any (a : Option Addr) (len cap : Nat) (p : Int) (l : List Nd) (w : World) (hl : l.length = len) (hs : len ≤ 1000000) (hr : Hid (NRow w a l)) (hn : Hid (NatN l)) :
    Calls Tryd.prog 22 #[.slice a len cap, .int .i64 p] w fun e w' => e = .returned (pairv (nextR l p)) ∧ Below w.heap.size w w' := by
  go_enter Tryd.func22, Tryd.ntmps22
  go_wp2_with fail
  refine (checkD_any a len cap l w hl hs hr hn).mono ?_; rintro e w1 ⟨rfl, hB1⟩
  unfold pairv
  rcases chk_err l 1 0 with hc | hc
  · obtain ⟨hen, _, _⟩ := chk_enough l 1 0 hc
    by_cases h1 : p < 0
    · have hpl : place l p = 3 := by rw [place, if_pos hc, if_pos (.inl h1)]
      have HE : Hid (nextR l p = (0, 3)) := by show _ = _; rw [nextR, hpl, if_neg (by omega)]
      clear hpl
      rw [hc]
      go_wp2
      go_ret2
      exact ⟨ret_pair HE.out, hB1⟩
    · by_cases h2 : (len : Int) ≤ p
      · have hpl : place l p = 3 := by rw [place, if_pos hc, if_pos (.inr (by omega))]
        have HE : Hid (nextR l p = (0, 3)) := by show _ = _; rw [nextR, hpl, if_neg (by omega)]
        clear hpl
        rw [hc]
        go_wp2
        go_ret2
        exact ⟨ret_pair HE.out, hB1⟩
      · obtain ⟨q, rfl⟩ := Int.eq_ofNat_of_zero_le (show 0 ≤ p by omega)
        have HE : Hid (nextR l (q : Int) = (((q + bh 1 (l.drop q) : Nat) : Int), 0)) := by
          show _ = _
          have hpl : place l (q : Int) = 0 := by rw [place, if_pos hc, if_neg (by omega)]
          rw [nextR, if_pos hpl, Int.toNat_natCast]
          simp
        have hen2 : Hid (Enough 1 (l.drop q)) := chk_at l 1 0 q hc (by omega)
        have hr1 : Hid (NRow w1 a l) := hr.out.later hB1
        rw [hc]
        go_wp2_with fail
        refine (behindD_any a len cap q l w1 hl hs (by omega) hr1 hen2).mono ?_; rintro e w2 ⟨rfl, rfl⟩
        go_wp2
        go_ret2
        exact ⟨ret_pair HE.out, hB1⟩
  · have HE : Hid (nextR l p = (0, 40)) := by
      show _ = _
      have hpl : place l p = 40 := by rw [place, if_neg (by rw [hc]; omega)]
      rw [nextR, hpl, if_neg (by omega)]
    rw [hc]
    go_wp2
    go_ret2
    exact ⟨ret_pair HE.out, hB1⟩
end Go.Proofs.YtlbgdgobhiokpaaDoor

/- The document's text. -/
namespace Go.Proofs.YtlbgdgobhiokpaaDoor
open Go.RowKit
set_option linter.unusedVariables false

theorem strC {l : List Int} (h : ∀ c ∈ l, 0 ≤ c ∧ c ≤ 255) : Lib.strCells (strOfNums l) = cellsL .u8 l := by
  have h1 := tx_of h
  have h2 : Lib.strCells (strOfNums l) = cellsL .u8 (tx (strOfNums l)) := by simp [Lib.strCells, cellsL, tx, Function.comp_def]
  rw [h2, h1]
theorem strCells_app (a b : ByteArray) : Lib.strCells (a ++ b) = Lib.strCells a ++ Lib.strCells b := by simp [Lib.strCells, ByteArray.data_append]
theorem kidsT_split (T : Nat → List Int) (M : List Nd) (p i j : Nat) : kidsT T M p (j + 1) i = sepT i ++ T (kp M p i) ++ kidsT T M p j (i + 1) := rfl
def TextTo (w0 w : World) (M : List Nd) (f p : Nat) (L : List Int) (e : Ending) (w' : World) : Prop :=
  ∃ v', e = .returned (.tuple #[v', .int .i64 (endOf M p : Int)]) ∧ Hid (Txt w0.heap.size w' v' (L ++ txF M f p)) ∧ Hid (Kept w0.heap.size w w')
set_option maxRecDepth 100000 in
set_option maxHeartbeats 8000000 in
theorem text_any (a : Option Addr) (len cap : Nat) (M : List Nd) (w0 : World) (hl : M.length = len) (hs : len ≤ 10000) (hr : Hid (NRow w0 a M)) (hM : Hid ((chk 1 0 M).1 = 0)) (hn : Hid (NatN M)) (ht : Hid (Tab w0.heap.size w0)) :
    ∀ (f p : Nat) (v : Value) (L : List Int) (w : World), p < len → len ≤ p + f → Hid (Below w0.heap.size w0 w) → Hid (Txt w0.heap.size w v L) → L.length + (txF M f p).length ≤ 1000000 →
    Calls Tryd.prog 77 #[v, .slice a len cap, .int .i64 (p : Int)] w fun e w' => TextTo w0 w M f p L e w' := by
  intro f
  induction f with
  | zero => intro p v L w hp hf; omega
  | succ f ih =>
    intro p v L w hp hf HB HT hL
    have IH := hide_ ih
    clear ih
    have hpM : p < M.length := by omega
    have hpi : (p : Int) < len := by omega
    have HNw : Hid (NRow w a M) := hr.out.later HB.out
    obtain ⟨bb, off, rfl, hbb, hcell⟩ := HNw.out.open (by omega)
    obtain ⟨n0, n1, n2⟩ := hcell p hpM
    have hright := (chk_enough M 1 0 hM.out).2.2 (M.getD p nil0) (by rw [List.getD_eq_getElem?_getD, List.getElem?_eq_getElem hpM]; exact List.getElem_mem hpM)
    have hnat := hn.out.at hpM
    have hkc := kN_cast hM.out hpM
    have hTx : txF M (f + 1) p = beginT (M.getD p nil0) ++ kidsT (txF M f) M p (kN (M.getD p nil0)) 0 ++ endT (M.getD p nil0).1 := rfl
    obtain ⟨x, hx⟩ : ∃ x, M.getD p nil0 = x := ⟨_, rfl⟩
    obtain ⟨xk, xn, xc⟩ := x
    obtain ⟨c, hc⟩ : ∃ c, kN (M.getD p nil0) = c := ⟨_, rfl⟩
    rw [hc] at hkc hTx
    rw [hx] at n0 n1 n2 hright hnat hTx hkc
    simp only at n0 n1 n2 hnat hkc
    obtain rfl : xc = (c : Int) := hkc.symm
    have hrr := (right_iff _).1 hright
    simp only at hrr
    have hbb2 := hide_ (beginT_bytes (xk, xn, (c : Int)) hright hnat.1)
    have HTx := hide_ hTx
    have Hc := hide_ hc
    have hcb := (right_kids hright).2
    simp only at hcb
    rw [hTx] at hL
    simp only [List.length_append] at hL
    clear hcell hright hkc hc hx hTx HNw
    obtain ⟨wA, hwA⟩ : ∃ wA, wA = w.alloc (.cells #[.int .i64 xk, .int .u64 xn, .int .i64 (c : Int)] 37) := ⟨_, rfl⟩
    have K := Blk.newA w #[.int .i64 xk, .int .u64 xn, .int .i64 (c : Int)] 37
    have hBA : Below w.heap.size w wA := by rw [hwA]; exact (Below.refl _ _).alloc (Nat.le_refl _) _
    rw [← hwA] at K
    have HK := hide_ K
    have HBA : Hid (Below w0.heap.size w0 wA) := HB.out.trans (hBA.mono HB.out.size)
    have HTA := hide_ (HT.out.later hBA)
    obtain ⟨bs, hbs⟩ : ∃ bs, w.heap.size = bs := ⟨_, rfl⟩
    rw [hbs] at HK
    have Hbs := hide_ hbs
    have HKA : Hid (Kept w0.heap.size w wA) := Kept.of_below HB.out.size hBA
    have HTab : Hid (Tab wA.heap.size wA) := (ht.out.below HBA.out).mono HBA.out.size
    have d0 : wA.cell? ⟨bs, 0, none⟩ = some (.int .i64 xk) := HK.out.cell 0
    have d1 : wA.cell? ⟨bs, 1, none⟩ = some (.int .u64 xn) := HK.out.cell 1
    have d2 : wA.cell? ⟨bs, 2, none⟩ = some (.int .i64 (c : Int)) := HK.out.cell 2
    clear K hBA HB HT
    go_enter Tryd.func77, Tryd.ntmps77
    go_upto_region 2 with fail
    rw [← hwA]
    clear hwA n0 n1 n2 hbs
    have hend : endOf M p = kp M p c := by rw [endOf_is hM.out hpM, Hc.out]
    have HEnd := hide_ hend
    have hend0 : c = 0 → endOf M p = p + 1 := fun h => by rw [hend, h, kp_zero]
    clear hend
    have fin0 : ∀ (t : List Int) (w' : World) (v' : Value), c = 0 → beginT (xk, xn, (c : Int)) = t → endT xk = [] → Txt w0.heap.size w' v' (L ++ t) → Kept w0.heap.size w w' → TextTo w0 w M (f + 1) p L (.returned (.tuple #[v', .int .i64 ((p : Int) + 1)])) w' := fun t w' v' h0 h1 h2 h3 h4 => by
      refine ⟨v', by rw [hend0 h0]; rfl, ?_, h4⟩
      show Txt _ _ _ _
      rw [HTx.out, h1, h2, h0, kidsT, List.append_nil, List.append_nil]
      exact h3
    have HFin := hide_ fin0
    clear fin0 hend0
    obtain ⟨hk1, hk2, hk3, hk4⟩ := hrr
    rcases kind_cases xk with rfl | rfl | rfl | rfl | rfl | rfl | hno
    ·
      obtain rfl : c = 0 := by simp [leastK, mostK] at hk3 hk4; omega
      obtain ⟨u, rfl⟩ := Int.eq_ofNat_of_zero_le hnat.1
      go_wp2_with fail
      refine (fmt_any u wA (by omega) HTab).mono ?_; rintro e w1 ⟨rfl, hB1⟩
      have HB1 : Hid (Below w0.heap.size w0 w1) := HBA.out.trans (hB1.mono HBA.out.size)
      have hbt : beginT (1, (u : Int), ((0 : Nat) : Int)) = digs u := rfl
      have hby := hbb2.out
      rw [hbt] at hby
      have hdl := digs_len (u : Int)
      obtain ⟨v1, w2, r1, t1, k1⟩ := run_str (HTA.out.later hB1) (strOfNums (digs u)) (digs u) (strC hby) (by omega) (by omega) HB1.out.size
      have R1 := hide_ r1
      have HE := hide_ (HFin.out (digs u) w2 v1 (by first | trivial | rfl) (by first | exact hbt | trivial) (by first | rfl | trivial) t1 ((HKA.out.trans (Kept.of_below HBA.out.size hB1)).trans k1))
      clear r1 t1 k1 hB1 hby hbt hL
      go_wp2_with (at_builtin; have _t := R1; refine wpList_append_run rfl (.tmp 26) (.tmp 29) 41 9 rfl rfl rfl R1.out ?_; clear R1)
      go_ret2
      exact HE.out
    ·
      obtain rfl : c = 0 := by simp [leastK, mostK] at hk3 hk4; omega
      have hxn : xn = 0 ∨ xn = 1 := by simp [mostN] at hk2; omega
      rcases hxn with rfl | rfl
      · obtain ⟨v1, w2, r1, t1, k1⟩ := run_str HTA.out ⟨#[102, 97, 108, 115, 101]⟩ [102, 97, 108, 115, 101] rfl (by decide) (by omega) HBA.out.size
        have R1 := hide_ r1
        have HE := hide_ (HFin.out [102, 97, 108, 115, 101] w2 v1 rfl rfl rfl t1 (HKA.out.trans k1))
        clear r1 t1 k1 hL HFin
        go_wp2_with (at_builtin; have _t := R1; refine wpList_append_run rfl (.tmp 42) (.const (.string ⟨#[102, 97, 108, 115, 101]⟩)) 41 9 rfl rfl rfl R1.out ?_; clear R1)
        go_ret2
        exact HE.out
      · obtain ⟨v1, w2, r1, t1, k1⟩ := run_str HTA.out ⟨#[116, 114, 117, 101]⟩ [116, 114, 117, 101] rfl (by decide) (by omega) HBA.out.size
        have R1 := hide_ r1
        have HE := hide_ (HFin.out [116, 114, 117, 101] w2 v1 rfl rfl rfl t1 (HKA.out.trans k1))
        clear r1 t1 k1 hL HFin
        go_wp2_with (at_builtin; have _t := R1; refine wpList_append_run rfl (.tmp 38) (.const (.string ⟨#[116, 114, 117, 101]⟩)) 41 9 rfl rfl rfl R1.out ?_; clear R1)
        go_ret2
        exact HE.out
    ·
      obtain ⟨v1, w2, r1, t1, k1⟩ := run_str HTA.out ⟨#[91]⟩ (beginT (3, xn, (c : Int))) rfl (by have := beginT_len (3, xn, (c : Int)); omega) (by omega) HBA.out.size
      have HRun := hide_ r1
      have HT1 := hide_ t1
      have HB1 : Hid (Below w0.heap.size w0 w2) := HBA.out.trans k1.bel
      have HKp1 : Hid (Kept w0.heap.size w w2) := HKA.out.trans k1
      have HK1 : Hid (Blk w2 bs 37 [.int .i64 3, .int .u64 xn, .int .i64 (c : Int)]) := k1.oth _ _ _ (by decide) HK.out
      clear r1 t1 k1 HFin HK
      go_wp2_with (first | (at_builtin; have _t := HRun; refine wpList_append_run rfl (.tmp 59) (.tmp 60) 41 9 rfl rfl rfl HRun.out ?_; clear HRun))
      go_loopw [0, 11, 12] (fun xb xp xi wr => ∃ (vb : Value) (i : Nat) (Lb : List Int), vb = xb ∧ i ≤ c ∧ xi = .int .i64 i ∧ xp = .int .i64 (kp M p i : Int) ∧ Hid (Lb ++ kidsT (txF M f) M p (c - i) i = L ++ beginT (3, xn, (c : Int)) ++ kidsT (txF M f) M p c 0) ∧ Hid (Txt w0.heap.size wr vb Lb) ∧ Hid (Blk wr bs 37 [.int .i64 3, .int .u64 xn, .int .i64 (c : Int)]) ∧ Hid (Below w0.heap.size w0 wr) ∧ Hid (Kept w0.heap.size w wr)) (fun _ _ xi _ => c - (intOf xi).toNat)
      case atStart => exact ⟨_, 0, _, rfl, Nat.zero_le _, rfl, by rw [kp_zero]; go_num, by rw [Nat.sub_zero]; rfl, HT1, HK1, HB1, HKp1⟩
      case round =>
        clear HT1 HK1 HB1 HKp1 d0 d1 d2
        obtain ⟨vb, i, Lb, rfl, hi, rfl, rfl, HLb, HTb, HKb, HBb, HKpb⟩ := hrel
        have d2 : wr.cell? ⟨bs, 2, none⟩ = some (.int .i64 (c : Int)) := HKb.out.cell 2
        have hLb := congrArg List.length HLb.out
        simp only [List.length_append] at hLb
        by_cases hic : i < c
        · have hic' : (i : Int) < c := by omega
          have hkp : kp M p i < len := by rw [← hl]; exact kp_in hM.out hpM (by rw [Hc.out]; exact hic)
          have hgt := kp_gt (M := M) p i
          have hsplit : kidsT (txF M f) M p (c - i) i = sepT i ++ txF M f (kp M p i) ++ kidsT (txF M f) M p (c - (i + 1)) (i + 1) := by
            rw [show c - i = (c - (i + 1)) + 1 by omega, kidsT_split]
          have hsl := congrArg List.length hsplit
          simp only [List.length_append] at hsl
          have HSp := hide_ hsplit
          have HKp : Hid (endOf M (kp M p i) = kp M p (i + 1)) := (kp_succ p i).symm
          clear hsplit
          by_cases h0 : i = 0
          · subst h0
            have hnz : ¬ ((0 : Int) < 0) := by omega
            have hcon := hide_ (IH.out (kp M p 0) vb Lb wr hkp (by omega) HBb HTb (by omega))
            have hnz2 : ¬ (((0 : Nat) : Int) > 0) := by omega
            go_wp2_with fail
            refine hcon.out.mono ?_; rintro e w3 ⟨v3, rfl, HT3, HKp3⟩
            rw [HKp.out]
            have HK3 : Hid (Blk w3 bs 37 [.int .i64 3, .int .u64 xn, .int .i64 (c : Int)]) := HKp3.out.oth _ _ _ (by decide) HKb.out
            have HB3 : Hid (Below w0.heap.size w0 w3) := HBb.out.trans HKp3.out.bel
            have HKpw : Hid (Kept w0.heap.size w w3) := HKpb.out.trans HKp3.out
            have HL3 : Hid ((Lb ++ txF M f (kp M p 0)) ++ kidsT (txF M f) M p (c - (0 + 1)) (0 + 1) = L ++ beginT (3, xn, (c : Int)) ++ kidsT (txF M f) M p c 0) := by
              have := HLb.out
              rw [HSp.out] at this
              show _ = _
              rw [← this]
              simp [sepT]
            clear hcon
            go_wp2
            go_roundw
            case rel => exact ⟨v3, 1, _, rfl, by omega, by go_num, rfl, HL3, HT3, HK3, HB3, HKpw⟩
            case measure => simp [intOf]; omega
          · have hnz : (0 : Int) < (i : Int) := by omega
            have hse : sepT i = [44, 32] := by unfold sepT; rw [if_pos (by omega)]
            rw [hse] at hsl
            simp only [List.length_cons, List.length_nil] at hsl
            obtain ⟨v2, w2', r2, t2, k2⟩ := run_str HTb.out ⟨#[44, 32]⟩ [44, 32] rfl (by decide) (by omega) HBb.out.size
            have R2 := hide_ r2
            have HB2 : Hid (Below w0.heap.size w0 w2') := HBb.out.trans k2.bel
            have HKb2 := hide_ (k2.oth _ _ _ (by decide) HKb.out)
            have HKp2 := hide_ (HKpb.out.trans k2)
            have hcon := hide_ (IH.out (kp M p i) v2 (Lb ++ [44, 32]) w2' hkp (by omega) HB2 t2 (by simp only [List.length_append, List.length_cons, List.length_nil]; omega))
            clear r2 t2 k2
            go_wp2_with (first | (at_builtin; have _t := R2; refine wpList_append_run rfl (.tmp 72) (.const (.string ⟨#[44, 32]⟩)) 41 9 rfl rfl rfl R2.out ?_; clear R2) | (go_at_call 77; fail))
            refine hcon.out.mono ?_; rintro e w3 ⟨v3, rfl, HT3, HKp3⟩
            rw [HKp.out]
            have HK3 : Hid (Blk w3 bs 37 [.int .i64 3, .int .u64 xn, .int .i64 (c : Int)]) := HKp3.out.oth _ _ _ (by decide) HKb2.out
            have HB3 : Hid (Below w0.heap.size w0 w3) := HB2.out.trans HKp3.out.bel
            have HKpw : Hid (Kept w0.heap.size w w3) := HKp2.out.trans HKp3.out
            have HL3 : Hid ((Lb ++ [44, 32] ++ txF M f (kp M p i)) ++ kidsT (txF M f) M p (c - (i + 1)) (i + 1) = L ++ beginT (3, xn, (c : Int)) ++ kidsT (txF M f) M p c 0) := by
              have := HLb.out
              rw [HSp.out, hse] at this
              show _ = _
              rw [← this]
              simp
            clear hcon hse
            go_wp2
            go_roundw
            case rel => exact ⟨v3, i + 1, _, rfl, by omega, by go_num, rfl, HL3, HT3, HK3, HB3, HKpw⟩
            case measure => simp [intOf]; omega
        · obtain rfl : i = c := by omega
          have hnl : ¬ ((i : Int) < (i : Int)) := by omega
          obtain ⟨v2, w2', r2, t2, k2⟩ := run_str HTb.out ⟨#[93]⟩ (endT 3) rfl (by decide) (by omega) HBb.out.size
          have R2 := hide_ r2
          have HFe : Hid (TextTo w0 w M (f + 1) p L (.returned (.tuple #[v2, .int .i64 (kp M p i : Int)])) w2') := by
            refine ⟨v2, by rw [HEnd.out], ?_, HKpb.out.trans k2⟩
            have h := HLb.out
            rw [Nat.sub_self, kidsT, List.append_nil] at h
            show Txt _ _ _ _
            rw [HTx.out, ← List.append_assoc, ← List.append_assoc, ← h]
            exact t2
          clear r2 t2 k2
          go_wp2_with (first | (at_builtin; have _t := R2; refine wpList_append_run rfl (.tmp 81) (.tmp 82) 41 9 rfl rfl rfl R2.out ?_; clear R2))
          go_ret2
          exact HFe.out
    ·
      obtain ⟨v1, w2, r1, t1, k1⟩ := run_str HTA.out ⟨#[123]⟩ (beginT (4, xn, (c : Int))) rfl (by have := beginT_len (4, xn, (c : Int)); omega) (by omega) HBA.out.size
      have HRun := hide_ r1
      have HT1 := hide_ t1
      have HB1 : Hid (Below w0.heap.size w0 w2) := HBA.out.trans k1.bel
      have HKp1 : Hid (Kept w0.heap.size w w2) := HKA.out.trans k1
      have HK1 : Hid (Blk w2 bs 37 [.int .i64 4, .int .u64 xn, .int .i64 (c : Int)]) := k1.oth _ _ _ (by decide) HK.out
      clear r1 t1 k1 HFin HK
      go_wp2_with (first | (at_builtin; have _t := HRun; refine wpList_append_run rfl (.tmp 59) (.tmp 60) 41 9 rfl rfl rfl HRun.out ?_; clear HRun))
      go_loopw [0, 11, 12] (fun xb xp xi wr => ∃ (vb : Value) (i : Nat) (Lb : List Int), vb = xb ∧ i ≤ c ∧ xi = .int .i64 i ∧ xp = .int .i64 (kp M p i : Int) ∧ Hid (Lb ++ kidsT (txF M f) M p (c - i) i = L ++ beginT (4, xn, (c : Int)) ++ kidsT (txF M f) M p c 0) ∧ Hid (Txt w0.heap.size wr vb Lb) ∧ Hid (Blk wr bs 37 [.int .i64 4, .int .u64 xn, .int .i64 (c : Int)]) ∧ Hid (Below w0.heap.size w0 wr) ∧ Hid (Kept w0.heap.size w wr)) (fun _ _ xi _ => c - (intOf xi).toNat)
      case atStart => exact ⟨_, 0, _, rfl, Nat.zero_le _, rfl, by rw [kp_zero]; go_num, by rw [Nat.sub_zero]; rfl, HT1, HK1, HB1, HKp1⟩
      case round =>
        clear HT1 HK1 HB1 HKp1 d0 d1 d2
        obtain ⟨vb, i, Lb, rfl, hi, rfl, rfl, HLb, HTb, HKb, HBb, HKpb⟩ := hrel
        have d2 : wr.cell? ⟨bs, 2, none⟩ = some (.int .i64 (c : Int)) := HKb.out.cell 2
        have hLb := congrArg List.length HLb.out
        simp only [List.length_append] at hLb
        by_cases hic : i < c
        · have hic' : (i : Int) < c := by omega
          have hkp : kp M p i < len := by rw [← hl]; exact kp_in hM.out hpM (by rw [Hc.out]; exact hic)
          have hgt := kp_gt (M := M) p i
          have hsplit : kidsT (txF M f) M p (c - i) i = sepT i ++ txF M f (kp M p i) ++ kidsT (txF M f) M p (c - (i + 1)) (i + 1) := by
            rw [show c - i = (c - (i + 1)) + 1 by omega, kidsT_split]
          have hsl := congrArg List.length hsplit
          simp only [List.length_append] at hsl
          have HSp := hide_ hsplit
          have HKp : Hid (endOf M (kp M p i) = kp M p (i + 1)) := (kp_succ p i).symm
          clear hsplit
          by_cases h0 : i = 0
          · subst h0
            have hnz : ¬ ((0 : Int) < 0) := by omega
            have hcon := hide_ (IH.out (kp M p 0) vb Lb wr hkp (by omega) HBb HTb (by omega))
            have hnz2 : ¬ (((0 : Nat) : Int) > 0) := by omega
            go_wp2_with fail
            refine hcon.out.mono ?_; rintro e w3 ⟨v3, rfl, HT3, HKp3⟩
            rw [HKp.out]
            have HK3 : Hid (Blk w3 bs 37 [.int .i64 4, .int .u64 xn, .int .i64 (c : Int)]) := HKp3.out.oth _ _ _ (by decide) HKb.out
            have HB3 : Hid (Below w0.heap.size w0 w3) := HBb.out.trans HKp3.out.bel
            have HKpw : Hid (Kept w0.heap.size w w3) := HKpb.out.trans HKp3.out
            have HL3 : Hid ((Lb ++ txF M f (kp M p 0)) ++ kidsT (txF M f) M p (c - (0 + 1)) (0 + 1) = L ++ beginT (4, xn, (c : Int)) ++ kidsT (txF M f) M p c 0) := by
              have := HLb.out
              rw [HSp.out] at this
              show _ = _
              rw [← this]
              simp [sepT]
            clear hcon
            go_wp2
            go_roundw
            case rel => exact ⟨v3, 1, _, rfl, by omega, by go_num, rfl, HL3, HT3, HK3, HB3, HKpw⟩
            case measure => simp [intOf]; omega
          · have hnz : (0 : Int) < (i : Int) := by omega
            have hse : sepT i = [44, 32] := by unfold sepT; rw [if_pos (by omega)]
            rw [hse] at hsl
            simp only [List.length_cons, List.length_nil] at hsl
            obtain ⟨v2, w2', r2, t2, k2⟩ := run_str HTb.out ⟨#[44, 32]⟩ [44, 32] rfl (by decide) (by omega) HBb.out.size
            have R2 := hide_ r2
            have HB2 : Hid (Below w0.heap.size w0 w2') := HBb.out.trans k2.bel
            have HKb2 := hide_ (k2.oth _ _ _ (by decide) HKb.out)
            have HKp2 := hide_ (HKpb.out.trans k2)
            have hcon := hide_ (IH.out (kp M p i) v2 (Lb ++ [44, 32]) w2' hkp (by omega) HB2 t2 (by simp only [List.length_append, List.length_cons, List.length_nil]; omega))
            clear r2 t2 k2
            go_wp2_with (first | (at_builtin; have _t := R2; refine wpList_append_run rfl (.tmp 72) (.const (.string ⟨#[44, 32]⟩)) 41 9 rfl rfl rfl R2.out ?_; clear R2) | (go_at_call 77; fail))
            refine hcon.out.mono ?_; rintro e w3 ⟨v3, rfl, HT3, HKp3⟩
            rw [HKp.out]
            have HK3 : Hid (Blk w3 bs 37 [.int .i64 4, .int .u64 xn, .int .i64 (c : Int)]) := HKp3.out.oth _ _ _ (by decide) HKb2.out
            have HB3 : Hid (Below w0.heap.size w0 w3) := HB2.out.trans HKp3.out.bel
            have HKpw : Hid (Kept w0.heap.size w w3) := HKp2.out.trans HKp3.out
            have HL3 : Hid ((Lb ++ [44, 32] ++ txF M f (kp M p i)) ++ kidsT (txF M f) M p (c - (i + 1)) (i + 1) = L ++ beginT (4, xn, (c : Int)) ++ kidsT (txF M f) M p c 0) := by
              have := HLb.out
              rw [HSp.out, hse] at this
              show _ = _
              rw [← this]
              simp
            clear hcon hse
            go_wp2
            go_roundw
            case rel => exact ⟨v3, i + 1, _, rfl, by omega, by go_num, rfl, HL3, HT3, HK3, HB3, HKpw⟩
            case measure => simp [intOf]; omega
        · obtain rfl : i = c := by omega
          have hnl : ¬ ((i : Int) < (i : Int)) := by omega
          obtain ⟨v2, w2', r2, t2, k2⟩ := run_str HTb.out ⟨#[125]⟩ (endT 4) rfl (by decide) (by omega) HBb.out.size
          have R2 := hide_ r2
          have HFe : Hid (TextTo w0 w M (f + 1) p L (.returned (.tuple #[v2, .int .i64 (kp M p i : Int)])) w2') := by
            refine ⟨v2, by rw [HEnd.out], ?_, HKpb.out.trans k2⟩
            have h := HLb.out
            rw [Nat.sub_self, kidsT, List.append_nil] at h
            show Txt _ _ _ _
            rw [HTx.out, ← List.append_assoc, ← List.append_assoc, ← h]
            exact t2
          clear r2 t2 k2
          go_wp2_with (first | (at_builtin; have _t := R2; refine wpList_append_run rfl (.tmp 81) (.tmp 82) 41 9 rfl rfl rfl R2.out ?_; clear R2))
          go_ret2
          exact HFe.out
    ·
      by_cases hc0 : c = 0
      · subst hc0
        obtain ⟨v1, w2, r1, t1, k1⟩ := run_str HTA.out ⟨#[110, 111, 110, 101]⟩ [110, 111, 110, 101] rfl (by decide) (by omega) HBA.out.size
        have R1 := hide_ r1
        have HE := hide_ (HFin.out [110, 111, 110, 101] w2 v1 rfl rfl rfl t1 (HKA.out.trans k1))
        clear r1 t1 k1 hL HFin
        go_wp2_with (at_builtin; have _t := R1; refine wpList_append_run rfl (.tmp 55) (.const (.string ⟨#[110, 111, 110, 101]⟩)) 41 9 rfl rfl rfl R1.out ?_; clear R1)
        go_ret2
        exact HE.out
      · have hcb0 : ((c : Int) == 0) = false := by simpa using hc0
        have hbg : beginT (5, xn, (c : Int)) = [115, 111, 109, 101, 32] := by
          unfold beginT
          simp [hc0]
        have HBg := hide_ hbg
        clear hbg hc0
        obtain ⟨v1, w2, r1, t1, k1⟩ := run_str HTA.out ⟨#[115, 111, 109, 101, 32]⟩ (beginT (5, xn, (c : Int))) (by rw [HBg.out]; rfl) (by have := beginT_len (5, xn, (c : Int)); omega) (by omega) HBA.out.size
        have HRun := hide_ r1
        have HT1 := hide_ t1
        have HB1 : Hid (Below w0.heap.size w0 w2) := HBA.out.trans k1.bel
        have HKp1 : Hid (Kept w0.heap.size w w2) := HKA.out.trans k1
        have HK1 : Hid (Blk w2 bs 37 [.int .i64 5, .int .u64 xn, .int .i64 (c : Int)]) := k1.oth _ _ _ (by decide) HK.out
        clear r1 t1 k1 HFin HK
        go_wp2_with (first | (at_builtin; have _t := HRun; refine wpList_append_run rfl (.tmp 59) (.tmp 60) 41 9 rfl rfl rfl HRun.out ?_; clear HRun))
        go_loopw [0, 11, 12] (fun xb xp xi wr => ∃ (vb : Value) (i : Nat) (Lb : List Int), vb = xb ∧ i ≤ c ∧ xi = .int .i64 i ∧ xp = .int .i64 (kp M p i : Int) ∧ Hid (Lb ++ kidsT (txF M f) M p (c - i) i = L ++ beginT (5, xn, (c : Int)) ++ kidsT (txF M f) M p c 0) ∧ Hid (Txt w0.heap.size wr vb Lb) ∧ Hid (Blk wr bs 37 [.int .i64 5, .int .u64 xn, .int .i64 (c : Int)]) ∧ Hid (Below w0.heap.size w0 wr) ∧ Hid (Kept w0.heap.size w wr)) (fun _ _ xi _ => c - (intOf xi).toNat)
        case atStart => exact ⟨_, 0, _, rfl, Nat.zero_le _, rfl, by rw [kp_zero]; go_num, by rw [Nat.sub_zero]; rfl, HT1, HK1, HB1, HKp1⟩
        case round =>
          clear HT1 HK1 HB1 HKp1 d0 d1 d2
          obtain ⟨vb, i, Lb, rfl, hi, rfl, rfl, HLb, HTb, HKb, HBb, HKpb⟩ := hrel
          have d2 : wr.cell? ⟨bs, 2, none⟩ = some (.int .i64 (c : Int)) := HKb.out.cell 2
          have hLb := congrArg List.length HLb.out
          simp only [List.length_append] at hLb
          by_cases hic : i < c
          · have hic' : (i : Int) < c := by omega
            have hkp : kp M p i < len := by rw [← hl]; exact kp_in hM.out hpM (by rw [Hc.out]; exact hic)
            have hgt := kp_gt (M := M) p i
            have hsplit : kidsT (txF M f) M p (c - i) i = sepT i ++ txF M f (kp M p i) ++ kidsT (txF M f) M p (c - (i + 1)) (i + 1) := by
              rw [show c - i = (c - (i + 1)) + 1 by omega, kidsT_split]
            have hsl := congrArg List.length hsplit
            simp only [List.length_append] at hsl
            have HSp := hide_ hsplit
            have HKp : Hid (endOf M (kp M p i) = kp M p (i + 1)) := (kp_succ p i).symm
            clear hsplit
            by_cases h0 : i = 0
            · subst h0
              have hnz : ¬ ((0 : Int) < 0) := by omega
              have hcon := hide_ (IH.out (kp M p 0) vb Lb wr hkp (by omega) HBb HTb (by omega))
              have hnz2 : ¬ (((0 : Nat) : Int) > 0) := by omega
              go_wp2_with fail
              refine hcon.out.mono ?_; rintro e w3 ⟨v3, rfl, HT3, HKp3⟩
              rw [HKp.out]
              have HK3 : Hid (Blk w3 bs 37 [.int .i64 5, .int .u64 xn, .int .i64 (c : Int)]) := HKp3.out.oth _ _ _ (by decide) HKb.out
              have HB3 : Hid (Below w0.heap.size w0 w3) := HBb.out.trans HKp3.out.bel
              have HKpw : Hid (Kept w0.heap.size w w3) := HKpb.out.trans HKp3.out
              have HL3 : Hid ((Lb ++ txF M f (kp M p 0)) ++ kidsT (txF M f) M p (c - (0 + 1)) (0 + 1) = L ++ beginT (5, xn, (c : Int)) ++ kidsT (txF M f) M p c 0) := by
                have := HLb.out
                rw [HSp.out] at this
                show _ = _
                rw [← this]
                simp [sepT]
              clear hcon
              go_wp2
              go_roundw
              case rel => exact ⟨v3, 1, _, rfl, by omega, by go_num, rfl, HL3, HT3, HK3, HB3, HKpw⟩
              case measure => simp [intOf]; omega
            · have hnz : (0 : Int) < (i : Int) := by omega
              have hse : sepT i = [44, 32] := by unfold sepT; rw [if_pos (by omega)]
              rw [hse] at hsl
              simp only [List.length_cons, List.length_nil] at hsl
              obtain ⟨v2, w2', r2, t2, k2⟩ := run_str HTb.out ⟨#[44, 32]⟩ [44, 32] rfl (by decide) (by omega) HBb.out.size
              have R2 := hide_ r2
              have HB2 : Hid (Below w0.heap.size w0 w2') := HBb.out.trans k2.bel
              have HKb2 := hide_ (k2.oth _ _ _ (by decide) HKb.out)
              have HKp2 := hide_ (HKpb.out.trans k2)
              have hcon := hide_ (IH.out (kp M p i) v2 (Lb ++ [44, 32]) w2' hkp (by omega) HB2 t2 (by simp only [List.length_append, List.length_cons, List.length_nil]; omega))
              clear r2 t2 k2
              go_wp2_with (first | (at_builtin; have _t := R2; refine wpList_append_run rfl (.tmp 72) (.const (.string ⟨#[44, 32]⟩)) 41 9 rfl rfl rfl R2.out ?_; clear R2) | (go_at_call 77; fail))
              refine hcon.out.mono ?_; rintro e w3 ⟨v3, rfl, HT3, HKp3⟩
              rw [HKp.out]
              have HK3 : Hid (Blk w3 bs 37 [.int .i64 5, .int .u64 xn, .int .i64 (c : Int)]) := HKp3.out.oth _ _ _ (by decide) HKb2.out
              have HB3 : Hid (Below w0.heap.size w0 w3) := HB2.out.trans HKp3.out.bel
              have HKpw : Hid (Kept w0.heap.size w w3) := HKp2.out.trans HKp3.out
              have HL3 : Hid ((Lb ++ [44, 32] ++ txF M f (kp M p i)) ++ kidsT (txF M f) M p (c - (i + 1)) (i + 1) = L ++ beginT (5, xn, (c : Int)) ++ kidsT (txF M f) M p c 0) := by
                have := HLb.out
                rw [HSp.out, hse] at this
                show _ = _
                rw [← this]
                simp
              clear hcon hse
              go_wp2
              go_roundw
              case rel => exact ⟨v3, i + 1, _, rfl, by omega, by go_num, rfl, HL3, HT3, HK3, HB3, HKpw⟩
              case measure => simp [intOf]; omega
          · obtain rfl : i = c := by omega
            have hnl : ¬ ((i : Int) < (i : Int)) := by omega
            obtain ⟨v2, w2', r2, t2, k2⟩ := run_str HTb.out ⟨#[]⟩ (endT 5) rfl (by decide) (by omega) HBb.out.size
            have R2 := hide_ r2
            have HFe : Hid (TextTo w0 w M (f + 1) p L (.returned (.tuple #[v2, .int .i64 (kp M p i : Int)])) w2') := by
              refine ⟨v2, by rw [HEnd.out], ?_, HKpb.out.trans k2⟩
              have h := HLb.out
              rw [Nat.sub_self, kidsT, List.append_nil] at h
              show Txt _ _ _ _
              rw [HTx.out, ← List.append_assoc, ← List.append_assoc, ← h]
              exact t2
            clear r2 t2 k2
            go_wp2_with (first | (at_builtin; have _t := R2; refine wpList_append_run rfl (.tmp 81) (.tmp 82) 41 9 rfl rfl rfl R2.out ?_; clear R2))
            go_ret2
            exact HFe.out
    ·
      obtain ⟨u, rfl⟩ := Int.eq_ofNat_of_zero_le hnat.1
      have hby := hbb2.out
      have hbt : beginT (6, (u : Int), (c : Int)) = [60] ++ digs u ++ [58] := rfl
      have HSt : Hid (Lib.strCells (⟨#[60]⟩ ++ strOfNums (digs (u : Int)) ++ ⟨#[58]⟩) = cellsL .u8 (beginT (6, (u : Int), (c : Int)))) := by
        show _ = _
        rw [strCells_app, strCells_app, strC (fun x hx => hby x (by rw [hbt]; simp [hx])), hbt, cellsL_append, cellsL_append]
        rfl
      have hsz : (strOfNums (digs (u : Int))).size ≤ 21 := by
        have h1 := congrArg List.length (strC (l := digs (u : Int)) (fun x hx => hby x (by rw [hbt]; simp [hx])))
        rw [Lib.strCells_length, cellsL_length] at h1
        have := digs_len (u : Int)
        omega
      have hsz1 : ¬ (9223372036854775807 < 1 + (strOfNums (digs (u : Int))).size) := by omega
      have hsz2 : ¬ (9223372036854775807 < 1 + (strOfNums (digs (u : Int))).size + 1) := by omega
      clear hby hbt
      go_wp2_with fail
      refine (fmt_any u wA (by omega) HTab).mono ?_; rintro e w1 ⟨rfl, hB1⟩
      have HTA0 := hide_ (HTA.out.later hB1)
      have HBA0 : Hid (Below w0.heap.size w0 w1) := HBA.out.trans (hB1.mono HBA.out.size)
      have HKA0 : Hid (Kept w0.heap.size w w1) := HKA.out.trans (Kept.of_below HBA.out.size hB1)
      have HK0 := hide_ (HK.out.later hB1)
      clear HTA HBA HKA HK hB1 HTab
      obtain ⟨v1, w2, r1, t1, k1⟩ := run_str HTA0.out (⟨#[60]⟩ ++ strOfNums (digs (u : Int)) ++ ⟨#[58]⟩) (beginT (6, (u : Int), (c : Int))) HSt.out (by have := beginT_len (6, (u : Int), (c : Int)); omega) (by omega) HBA0.out.size
      have HRun := hide_ r1
      have HT1 := hide_ t1
      have HB1 : Hid (Below w0.heap.size w0 w2) := HBA0.out.trans k1.bel
      have HKp1 : Hid (Kept w0.heap.size w w2) := HKA0.out.trans k1
      have HK1 : Hid (Blk w2 bs 37 [.int .i64 6, .int .u64 (u : Int), .int .i64 (c : Int)]) := k1.oth _ _ _ (by decide) HK0.out
      clear r1 t1 k1 HFin HK0
      go_wp2_with (first | (at_builtin; have _t := HRun; refine wpList_append_run rfl (.tmp 59) (.tmp 60) 41 9 rfl rfl rfl HRun.out ?_; clear HRun))
      go_loopw [0, 11, 12] (fun xb xp xi wr => ∃ (vb : Value) (i : Nat) (Lb : List Int), vb = xb ∧ i ≤ c ∧ xi = .int .i64 i ∧ xp = .int .i64 (kp M p i : Int) ∧ Hid (Lb ++ kidsT (txF M f) M p (c - i) i = L ++ beginT (6, (u : Int), (c : Int)) ++ kidsT (txF M f) M p c 0) ∧ Hid (Txt w0.heap.size wr vb Lb) ∧ Hid (Blk wr bs 37 [.int .i64 6, .int .u64 (u : Int), .int .i64 (c : Int)]) ∧ Hid (Below w0.heap.size w0 wr) ∧ Hid (Kept w0.heap.size w wr)) (fun _ _ xi _ => c - (intOf xi).toNat)
      case atStart => exact ⟨_, 0, _, rfl, Nat.zero_le _, rfl, by rw [kp_zero]; go_num, by rw [Nat.sub_zero]; rfl, HT1, HK1, HB1, HKp1⟩
      case round =>
        clear HT1 HK1 HB1 HKp1 d0 d1 d2
        obtain ⟨vb, i, Lb, rfl, hi, rfl, rfl, HLb, HTb, HKb, HBb, HKpb⟩ := hrel
        have d2 : wr.cell? ⟨bs, 2, none⟩ = some (.int .i64 (c : Int)) := HKb.out.cell 2
        have hLb := congrArg List.length HLb.out
        simp only [List.length_append] at hLb
        by_cases hic : i < c
        · have hic' : (i : Int) < c := by omega
          have hkp : kp M p i < len := by rw [← hl]; exact kp_in hM.out hpM (by rw [Hc.out]; exact hic)
          have hgt := kp_gt (M := M) p i
          have hsplit : kidsT (txF M f) M p (c - i) i = sepT i ++ txF M f (kp M p i) ++ kidsT (txF M f) M p (c - (i + 1)) (i + 1) := by
            rw [show c - i = (c - (i + 1)) + 1 by omega, kidsT_split]
          have hsl := congrArg List.length hsplit
          simp only [List.length_append] at hsl
          have HSp := hide_ hsplit
          have HKp : Hid (endOf M (kp M p i) = kp M p (i + 1)) := (kp_succ p i).symm
          clear hsplit
          by_cases h0 : i = 0
          · subst h0
            have hnz : ¬ ((0 : Int) < 0) := by omega
            have hcon := hide_ (IH.out (kp M p 0) vb Lb wr hkp (by omega) HBb HTb (by omega))
            have hnz2 : ¬ (((0 : Nat) : Int) > 0) := by omega
            go_wp2_with fail
            refine hcon.out.mono ?_; rintro e w3 ⟨v3, rfl, HT3, HKp3⟩
            rw [HKp.out]
            have HK3 : Hid (Blk w3 bs 37 [.int .i64 6, .int .u64 (u : Int), .int .i64 (c : Int)]) := HKp3.out.oth _ _ _ (by decide) HKb.out
            have HB3 : Hid (Below w0.heap.size w0 w3) := HBb.out.trans HKp3.out.bel
            have HKpw : Hid (Kept w0.heap.size w w3) := HKpb.out.trans HKp3.out
            have HL3 : Hid ((Lb ++ txF M f (kp M p 0)) ++ kidsT (txF M f) M p (c - (0 + 1)) (0 + 1) = L ++ beginT (6, (u : Int), (c : Int)) ++ kidsT (txF M f) M p c 0) := by
              have := HLb.out
              rw [HSp.out] at this
              show _ = _
              rw [← this]
              simp [sepT]
            clear hcon
            go_wp2
            go_roundw
            case rel => exact ⟨v3, 1, _, rfl, by omega, by go_num, rfl, HL3, HT3, HK3, HB3, HKpw⟩
            case measure => simp [intOf]; omega
          · have hnz : (0 : Int) < (i : Int) := by omega
            have hse : sepT i = [44, 32] := by unfold sepT; rw [if_pos (by omega)]
            rw [hse] at hsl
            simp only [List.length_cons, List.length_nil] at hsl
            obtain ⟨v2, w2', r2, t2, k2⟩ := run_str HTb.out ⟨#[44, 32]⟩ [44, 32] rfl (by decide) (by omega) HBb.out.size
            have R2 := hide_ r2
            have HB2 : Hid (Below w0.heap.size w0 w2') := HBb.out.trans k2.bel
            have HKb2 := hide_ (k2.oth _ _ _ (by decide) HKb.out)
            have HKp2 := hide_ (HKpb.out.trans k2)
            have hcon := hide_ (IH.out (kp M p i) v2 (Lb ++ [44, 32]) w2' hkp (by omega) HB2 t2 (by simp only [List.length_append, List.length_cons, List.length_nil]; omega))
            clear r2 t2 k2
            go_wp2_with (first | (at_builtin; have _t := R2; refine wpList_append_run rfl (.tmp 72) (.const (.string ⟨#[44, 32]⟩)) 41 9 rfl rfl rfl R2.out ?_; clear R2) | (go_at_call 77; fail))
            refine hcon.out.mono ?_; rintro e w3 ⟨v3, rfl, HT3, HKp3⟩
            rw [HKp.out]
            have HK3 : Hid (Blk w3 bs 37 [.int .i64 6, .int .u64 (u : Int), .int .i64 (c : Int)]) := HKp3.out.oth _ _ _ (by decide) HKb2.out
            have HB3 : Hid (Below w0.heap.size w0 w3) := HB2.out.trans HKp3.out.bel
            have HKpw : Hid (Kept w0.heap.size w w3) := HKp2.out.trans HKp3.out
            have HL3 : Hid ((Lb ++ [44, 32] ++ txF M f (kp M p i)) ++ kidsT (txF M f) M p (c - (i + 1)) (i + 1) = L ++ beginT (6, (u : Int), (c : Int)) ++ kidsT (txF M f) M p c 0) := by
              have := HLb.out
              rw [HSp.out, hse] at this
              show _ = _
              rw [← this]
              simp
            clear hcon hse
            go_wp2
            go_roundw
            case rel => exact ⟨v3, i + 1, _, rfl, by omega, by go_num, rfl, HL3, HT3, HK3, HB3, HKpw⟩
            case measure => simp [intOf]; omega
        · obtain rfl : i = c := by omega
          have hnl : ¬ ((i : Int) < (i : Int)) := by omega
          obtain ⟨v2, w2', r2, t2, k2⟩ := run_str HTb.out ⟨#[62]⟩ (endT 6) rfl (by decide) (by omega) HBb.out.size
          have R2 := hide_ r2
          have HFe : Hid (TextTo w0 w M (f + 1) p L (.returned (.tuple #[v2, .int .i64 (kp M p i : Int)])) w2') := by
            refine ⟨v2, by rw [HEnd.out], ?_, HKpb.out.trans k2⟩
            have h := HLb.out
            rw [Nat.sub_self, kidsT, List.append_nil] at h
            show Txt _ _ _ _
            rw [HTx.out, ← List.append_assoc, ← List.append_assoc, ← h]
            exact t2
          clear r2 t2 k2
          go_wp2_with (first | (at_builtin; have _t := R2; refine wpList_append_run rfl (.tmp 81) (.tmp 82) 41 9 rfl rfl rfl R2.out ?_; clear R2))
          go_ret2
          exact HFe.out
    · omega
end Go.Proofs.YtlbgdgobhiokpaaDoor

/- The document's Print. -/
namespace Go.Proofs.YtlbgdgobhiokpaaDoor
open Go.RowKit
set_option linter.unusedVariables false

set_option maxRecDepth 100000 in
set_option maxHeartbeats 4000000 in
theorem refPrint_any (a : Option Addr) (len cap : Nat) (l : List Nd) (w : World) (hl : l.length = len) (hs : len ≤ 10000) (hr : Hid (NRow w a l)) (hn : Hid (NatN l)) (ht : Hid (Tab w.heap.size w)) :
    Calls Tryd.prog 70 #[.slice a len cap] w fun e w' => e = .returned (.tuple #[.string (printS l), .int .i64 (chk 1 0 l).1]) ∧ Below w.heap.size w w' := by
  go_enter Tryd.func70, Tryd.ntmps70
  go_wp2_with fail
  refine (checkD_any a len cap l w hl (by omega) hr hn).mono ?_; rintro e w1 ⟨rfl, hB1⟩
  have hr1 : Hid (NRow w1 a l) := hr.out.later hB1
  have ht1 : Hid (Tab w1.heap.size w1) := (ht.out.below hB1).mono hB1.size
  rcases chk_err l 1 0 with h | h
  · have hpos := ok_pos h
    have HE := hide_ h
    have HS : Hid (printS l = strOfNums (printM l [])) := by show _ = _; rw [printS, if_pos h]
    have htw := tx_whole h
    rw [hl] at htw
    have hpl := printM_len l []
    have hcon := hide_ (text_any a len cap l w1 hl hs hr1 h hn ht1 len 0 (.slice none 0 0) [] w1 (by omega) (by omega) (Below.refl _ _) (Txt.nil _ _) (by rw [htw]; simp at hpl ⊢; omega))
    have HTw := hide_ htw
    unfold pairv
    rw [h]
    clear h htw hpos
    go_wp2_with fail
    refine hcon.out.mono ?_; rintro e w2 ⟨v2, rfl, HT2, HK2⟩
    have HT3 := HT2.out
    rw [List.nil_append, HTw.out] at HT3
    obtain ⟨a2, c2, rfl, HR2, -, hc1, hc2, -⟩ := own_open HT3 rfl
    have hcv := conv_row E41 Tryd.underlying9 w2 a2 (printM l []).length c2 (printM l []) rfl HR2
    have hlong : ¬ ((1048576 : Int) < ((printM l []).length : Int)) := by simp at hpl; omega
    have HB2 : Hid (Below w.heap.size w w2) := hB1.trans (HK2.out.bel.mono hB1.size)
    clear hcon HT2 HT3 HR2 HK2 hB1 hpl
    go_wp2
    go_ret2
    exact ⟨by rw [HS.out, HE.out]; rfl, HB2.out⟩
  · have HS : Hid (printS l = ByteArray.empty) := by show _ = _; rw [printS, if_neg (by rw [h]; simp)]
    have HE : Hid ((chk 1 0 l).1 = 40) := by show _ = _; rw [h]
    unfold pairv
    rw [h]
    go_wp2
    go_ret2
    exact ⟨by rw [HS.out, HE.out]; rfl, hB1⟩
end Go.Proofs.YtlbgdgobhiokpaaDoor
