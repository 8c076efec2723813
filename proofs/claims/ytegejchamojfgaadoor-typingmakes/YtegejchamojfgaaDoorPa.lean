/- The document's Number, Right, Check of nodes. -/
import Derived.Test.YtegejchamojfgaaDoorOe
namespace Go.Proofs.YtegejchamojfgaaDoor
open Go.RowKit
set_option linter.unusedVariables false
set_option linter.unusedSimpArgs false

def numV (k n : Int) : Bool := decide ((1 ≤ k ∧ k ≤ 6) ∧ n ≤ mostN k)
theorem kind_cases (k : Int) : k = 1 ∨ k = 2 ∨ k = 3 ∨ k = 4 ∨ k = 5 ∨ k = 6 ∨ (k ≠ 1 ∧ k ≠ 2 ∧ k ≠ 3 ∧ k ≠ 4 ∧ k ≠ 5 ∧ k ≠ 6) := by omega
set_option maxRecDepth 100000 in
set_option maxHeartbeats 4000000 in
theorem numberD_any (k n : Int) (w : World) (h0 : 0 ≤ n ∧ n ≤ 18446744073709551615) : Calls Tryd.prog 55 #[.int .i64 k, .int .u64 n] w fun e w' => e = .returned (.bool (numV k n)) ∧ w = w' := by
  go_enter Tryd.func55, Tryd.ntmps55
  rcases kind_cases k with rfl | rfl | rfl | rfl | rfl | rfl | ⟨k1, k2, k3, k4, k5, k6⟩
  · have hn : numV 1 n = true := by simp [numV, mostN]; omega
    rw [hn]
    go_wp2
    go_ret
    exact ⟨rfl, rfl⟩
  · by_cases h : n ≤ 1
    · have hn : numV 2 n = true := by simp [numV, mostN]; omega
      rw [hn]
      go_wp2
      go_ret
      exact ⟨by first | rfl | (simp [h]), rfl⟩
    · have hn : numV 2 n = false := by simp [numV, mostN]; omega
      rw [hn]
      go_wp2
      go_ret
      exact ⟨by first | rfl | (simp [h]), rfl⟩
  · by_cases h : n = 0
    · subst h
      go_wp2
      go_ret
      exact ⟨rfl, rfl⟩
    · have hn : numV 3 n = false := by simp [numV, mostN]; omega
      have hb : (n == 0) = false := by simpa using h
      rw [hn]
      go_wp2
      go_ret
      exact ⟨rfl, rfl⟩
  · by_cases h : n = 0
    · subst h
      go_wp2
      go_ret
      exact ⟨rfl, rfl⟩
    · have hn : numV 4 n = false := by simp [numV, mostN]; omega
      have hb : (n == 0) = false := by simpa using h
      rw [hn]
      go_wp2
      go_ret
      exact ⟨rfl, rfl⟩
  · by_cases h : n = 0
    · subst h
      go_wp2
      go_ret
      exact ⟨rfl, rfl⟩
    · have hn : numV 5 n = false := by simp [numV, mostN]; omega
      have hb : (n == 0) = false := by simpa using h
      rw [hn]
      go_wp2
      go_ret
      exact ⟨rfl, rfl⟩
  · by_cases h : n ≤ 255
    · have hn : numV 6 n = true := by simp [numV, mostN]; omega
      rw [hn]
      go_wp2
      go_ret
      exact ⟨by first | rfl | (simp [h]), rfl⟩
    · have hn : numV 6 n = false := by simp [numV, mostN]; omega
      rw [hn]
      go_wp2
      go_ret
      exact ⟨by first | rfl | (simp [h]), rfl⟩
  · have hn : numV k n = false := by simp [numV]; intros; omega
    rw [hn]
    have b1 : (k == 1) = false := by simpa using k1
    have b2 : (k == 2) = false := by simpa using k2
    have b3 : (k == 3) = false := by simpa using k3
    have b4 : (k == 4) = false := by simpa using k4
    have b5 : (k == 5) = false := by simpa using k5
    have b6 : (k == 6) = false := by simpa using k6
    by_cases h : n = 0
    · subst h
      go_wp2
      go_ret
      exact ⟨rfl, rfl⟩
    · have hb : (n == 0) = false := by simpa using h
      go_wp2
      go_ret
      exact ⟨rfl, rfl⟩
set_option maxRecDepth 100000 in
set_option maxHeartbeats 4000000 in
theorem rightD_any (x : Nv) (w : World) (h0 : 0 ≤ x.n ∧ x.n ≤ 18446744073709551615) : Calls Tryd.prog 41 #[nvv x] w fun e w' => e = .returned (.bool (rightV x)) ∧ Below w.heap.size w w' := by
  obtain ⟨k, n, c⟩ := x
  simp only at h0
  unfold nvv
  obtain ⟨wA, hwA⟩ : ∃ wA, wA = w.alloc (.cells #[.int .i64 k, .int .u64 n, .int .i64 c] 29) := ⟨_, rfl⟩
  have HB : Hid (Below w.heap.size w wA) := by rw [hwA]; exact (Below.refl _ _).alloc (Nat.le_refl _) _
  have K := Blk.newA w #[.int .i64 k, .int .u64 n, .int .i64 c] 29
  rw [← hwA] at K
  have c0 : wA.cell? ⟨w.heap.size, 0, none⟩ = some (.int .i64 k) := K.cell 0
  have c1 : wA.cell? ⟨w.heap.size, 1, none⟩ = some (.int .u64 n) := K.cell 1
  have c2 : wA.cell? ⟨w.heap.size, 2, none⟩ = some (.int .i64 c) := K.cell 2
  go_enter Tryd.func41, Tryd.ntmps41
  go_upto_region 1 with fail
  rw [← hwA]
  clear hwA K
  go_wp2_with fail
  refine (numberD_any k n wA h0).mono ?_; rintro e w1 ⟨rfl, rfl⟩
  cases hnb : numV k n
  · have hr : rightV ⟨k, n, c⟩ = false := by simp [numV] at hnb; simp [rightV]; intros; omega
    go_wp2
    go_ret
    exact ⟨by rw [hr]; rfl, HB.out⟩
  · have hnb' : (1 ≤ k ∧ k ≤ 6) ∧ n ≤ mostN k := by simpa [numV] using hnb
    clear hnb
    rcases kind_cases k with rfl | rfl | rfl | rfl | rfl | rfl | ⟨k1, k2, k3, k4, k5, k6⟩
    · by_cases h : c = 0
      · subst h
        have hr : rightV ⟨1, n, 0⟩ = true := (rightV_iff _).2 ⟨hnb'.1, hnb'.2, by simp [leastK], by simp [mostK]⟩
        go_wp2
        go_ret
        exact ⟨by rw [hr]; rfl, HB.out⟩
      · have hr : rightV ⟨1, n, c⟩ = false := by simp [rightV, leastK, mostK]; intros; omega
        have hb : (c == 0) = false := by simpa using h
        go_wp2
        go_ret
        exact ⟨by rw [hr]; rfl, HB.out⟩
    · by_cases h : c = 0
      · subst h
        have hr : rightV ⟨2, n, 0⟩ = true := (rightV_iff _).2 ⟨hnb'.1, hnb'.2, by simp [leastK], by simp [mostK]⟩
        go_wp2
        go_ret
        exact ⟨by rw [hr]; rfl, HB.out⟩
      · have hr : rightV ⟨2, n, c⟩ = false := by simp [rightV, leastK, mostK]; intros; omega
        have hb : (c == 0) = false := by simpa using h
        go_wp2
        go_ret
        exact ⟨by rw [hr]; rfl, HB.out⟩
    · by_cases h : 0 ≤ c
      · by_cases h2 : c ≤ 1048576
        · have hr : rightV ⟨3, n, c⟩ = true := (rightV_iff _).2 ⟨hnb'.1, hnb'.2, by simpa [leastK] using h, by simpa [mostK] using h2⟩
          go_wp2
          go_ret
          exact ⟨by first | (rw [hr]; rfl) | (rw [hr]; simp [h2]; done) | rfl | (simp [h2]; done), HB.out⟩
        · have hr : rightV ⟨3, n, c⟩ = false := by simp [rightV, leastK, mostK]; intros; omega
          go_wp2
          go_ret
          exact ⟨by first | (rw [hr]; rfl) | (rw [hr]; simp [h2]; done) | rfl | (simp [h2]; done), HB.out⟩
      · have hr : rightV ⟨3, n, c⟩ = false := by simp [rightV, leastK, mostK]; intros; omega
        go_wp2
        go_ret
        exact ⟨by first | (rw [hr]; rfl) | (rw [hr]; simp [h]; done) | rfl | (simp [h]; done), HB.out⟩
    · by_cases h : 1 ≤ c
      · by_cases h2 : c ≤ 64
        · have hr : rightV ⟨4, n, c⟩ = true := (rightV_iff _).2 ⟨hnb'.1, hnb'.2, by simpa [leastK] using h, by simpa [mostK] using h2⟩
          go_wp2
          go_ret
          exact ⟨by first | (rw [hr]; rfl) | (rw [hr]; simp [h2]; done) | rfl | (simp [h2]; done), HB.out⟩
        · have hr : rightV ⟨4, n, c⟩ = false := by simp [rightV, leastK, mostK]; intros; omega
          go_wp2
          go_ret
          exact ⟨by first | (rw [hr]; rfl) | (rw [hr]; simp [h2]; done) | rfl | (simp [h2]; done), HB.out⟩
      · have hr : rightV ⟨4, n, c⟩ = false := by simp [rightV, leastK, mostK]; intros; omega
        go_wp2
        go_ret
        exact ⟨by first | (rw [hr]; rfl) | (rw [hr]; simp [h]; done) | rfl | (simp [h]; done), HB.out⟩
    · by_cases h : c = 0
      · subst h
        have hr : rightV ⟨5, n, 0⟩ = true := (rightV_iff _).2 ⟨hnb'.1, hnb'.2, by simp [leastK], by simp [mostK]⟩
        go_wp2
        go_ret
        exact ⟨by rw [hr]; rfl, HB.out⟩
      · have hb : (c == 0) = false := by simpa using h
        by_cases h2 : c = 1
        · subst h2
          have hr : rightV ⟨5, n, 1⟩ = true := (rightV_iff _).2 ⟨hnb'.1, hnb'.2, by simp [leastK], by simp [mostK]⟩
          go_wp2
          go_ret
          exact ⟨by rw [hr]; rfl, HB.out⟩
        · have hb2 : (c == 1) = false := by simpa using h2
          have hr : rightV ⟨5, n, c⟩ = false := by simp [rightV, leastK, mostK]; intros; omega
          go_wp2
          go_ret
          exact ⟨by rw [hr]; rfl, HB.out⟩
    · by_cases h : c = 1
      · subst h
        have hr : rightV ⟨6, n, 1⟩ = true := (rightV_iff _).2 ⟨hnb'.1, hnb'.2, by simp [leastK], by simp [mostK]⟩
        go_wp2
        go_ret
        exact ⟨by rw [hr]; rfl, HB.out⟩
      · have hr : rightV ⟨6, n, c⟩ = false := by simp [rightV, leastK, mostK]; intros; omega
        have hb : (c == 1) = false := by simpa using h
        go_wp2
        go_ret
        exact ⟨by rw [hr]; rfl, HB.out⟩
    · omega
set_option maxRecDepth 100000 in
set_option maxHeartbeats 4000000 in
theorem checkN_any (a : Option Addr) (len cap : Nat) (l : List Nv) (w : World) (hl : l.length = len) (hs : len ≤ 2000000) (hr : Hid (VRow w a l)) (hn : Hid (∀ x ∈ l, NvOk x)) :
    Calls Tryd.prog 27 #[.slice a len cap] w fun e w' => e = .returned (.tuple #[.int .i64 (chkV 1 0 l).1, .int .i64 (chkV 1 0 l).2]) ∧ Below w.heap.size w w' := by
  obtain ⟨E, hE⟩ : ∃ E, (chkV 1 0 l).1 = E := ⟨_, rfl⟩
  obtain ⟨A, hA⟩ : ∃ A, (chkV 1 0 l).2 = A := ⟨_, rfl⟩
  rw [hE, hA]
  have HEA : Hid (chkV 1 0 l = (E, A)) := hide_ (by rw [← hE, ← hA])
  clear hE hA
  go_enter Tryd.func27, Tryd.ntmps27
  go_wp2_with fail
  go_loopw [4, 5] (fun m i wr => ∃ (M : Int) (k : Nat), k ≤ len ∧ i = .int .i64 k ∧ m = .int .i64 M ∧ 0 ≤ M ∧ M ≤ 1 + 1048576 * (k : Int) ∧ Hid (chkV M k (l.drop k) = (E, A)) ∧ Hid (Below w.heap.size w wr)) (fun _ i _ => len - (intOf i).toNat)
  case atStart => exact ⟨1, 0, Nat.zero_le _, rfl, rfl, by omega, by omega, hide_ (by simpa using HEA.out), hide_ (Below.refl _ _)⟩
  case round =>
    obtain ⟨M, k, hk, rfl, rfl, hM0, hM1, HC, HB⟩ := hrel
    generalize wr = wq at *
    clear HEA
    by_cases hlt : k < len
    · have hlt' : (k : Int) < len := by omega
      have hkl : k < l.length := by omega
      obtain ⟨b, off, rfl, hb, hc⟩ := (hr.out.later HB.out).open (by omega)
      have hx : l[k]? = some (l[k]'hkl) := List.getElem?_eq_getElem hkl
      have d0 := hc k _ hx 0 (by decide); have d1 := hc k _ hx 1 (by decide); have d2 := hc k _ hx 2 (by decide)
      have HC1 : Hid (chkV M k ((l[k]'hkl) :: l.drop (k + 1)) = (E, A)) := hide_ (by
        have := HC.out
        rw [List.drop_eq_getElem_cons hkl] at this
        exact this)
      have hnk := hn.out _ (List.mem_of_getElem? hx)
      simp [nvc] at d0 d1 d2
      generalize l[k]'hkl = x at *
      obtain ⟨xk, xn, xc⟩ := x
      simp only at d0 d1 d2
      have hnk' : 0 ≤ xn ∧ xn ≤ 18446744073709551615 := ⟨hnk.1, by have := hnk.2; simp only at this; omega⟩
      have HRt := hide_ (rightD_any ⟨xk, xn, xc⟩ wq hnk')
      have hbq := hb
      clear hc hx HC hnk hnk'
      by_cases hM : M = 0
      · subst hM
        have HE : Hid ((E, A) = (40, (k : Int))) := hide_ (by
          have := HC1.out
          rw [chkV, if_pos (.inl rfl)] at this
          exact this.symm)
        have hE1 : E = 40 := (Prod.mk.inj HE.out).1
        have hA1 : A = (k : Int) := (Prod.mk.inj HE.out).2
        subst hE1 hA1
        go_wp2
        go_ret2
        exact ⟨rfl, HB.out⟩
      · have hbM : (M == 0) = false := by simpa using hM
        unfold nvv at HRt
        go_wp2_with fail
        refine HRt.out.mono ?_; rintro e w1 ⟨rfl, hB1⟩
        have HB1 := hide_ (below_to HB.out hB1)
        have f2 := (hB1.cell (p := ⟨b, off + k * 3 + 2, none⟩) hbq).trans d2
        clear hB1 d0 d1 d2
        by_cases hxr : rightV ⟨xk, xn, xc⟩ = true
        · have HC2 : Hid (chkV (M + (xc - 1)) ((k : Int) + 1) (l.drop (k + 1)) = (E, A)) := hide_ (by
            have := HC1.out
            rw [chkV, if_neg (by simp [hM, hxr])] at this
            exact this)
          have hxc := rightV_kids hxr
          simp only at hxc
          clear HC1 HB
          rw [hxr]
          have hw1 : wrap64 (M - 1) = M - 1 := w64 _ (by omega)
          have hw2 : wrap64 (M - 1 + xc) = M - 1 + xc := w64 _ (by clear hw1; omega)
          go_wp2
          clear hw1 hw2
          go_roundw
          case rel => exact ⟨M + (xc - 1), k + 1, by omega, by go_num, by first | rfl | (congr 1; omega), by omega, by omega, hide_ (by have := HC2.out; push_cast; exact this), HB1⟩
          case measure => simp [intOf]; omega
        · have hx' : rightV ⟨xk, xn, xc⟩ = false := by simpa using hxr
          have HE : Hid ((E, A) = (40, (k : Int))) := hide_ (by
            have := HC1.out
            rw [chkV, if_pos (.inr hx')] at this
            exact this.symm)
          have hE1 : E = 40 := (Prod.mk.inj HE.out).1
          have hA1 : A = (k : Int) := (Prod.mk.inj HE.out).2
          subst hE1 hA1
          rw [hx']
          go_wp2
          go_ret2
          exact ⟨rfl, HB1.out⟩
    · obtain rfl : k = len := by omega
      have HC1 := HC.out
      rw [List.drop_eq_nil_of_le (by omega), chkV] at HC1
      have hnl : ¬ ((k : Int) < (k : Int)) := by omega
      by_cases hM : 0 < M
      · rw [if_pos hM] at HC1
        have hE1 : E = 40 := (Prod.mk.inj HC1).1.symm
        have hA1 : A = (k : Int) := (Prod.mk.inj HC1).2.symm
        subst hE1 hA1
        clear HC1
        go_wp2
        go_ret2
        exact ⟨rfl, HB.out⟩
      · rw [if_neg hM] at HC1
        have hE1 : E = 0 := (Prod.mk.inj HC1).1.symm
        have hA1 : A = 0 := (Prod.mk.inj HC1).2.symm
        subst hE1 hA1
        clear HC1
        go_wp2
        go_ret2
        exact ⟨rfl, HB.out⟩
end Go.Proofs.YtegejchamojfgaaDoor
