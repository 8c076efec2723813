/- value.boundsOf, right, Check (stage 4's texts B and C). -/
import Derived.Test.YtlfjcihhcphjkaaDoorOa
import Derived.Test.YtlfjcihhcphjkaaDoorZi
namespace Go.Proofs.YtlfjcihhcphjkaaDoor
open Go.RowKit
set_option linter.unusedVariables false

def nvv (x : Nv) : Value := .agg #[.int .i64 x.k, .int .u64 x.n, .int .i64 x.kids]
def bnd (k : Int) : Value := .agg #[.int .u64 (mostN k), .int .i64 (leastK k), .int .i64 (mostK k)]
set_option maxRecDepth 100000 in
set_option maxHeartbeats 4000000 in
theorem bounds_any (k : Int) (w : World) : Calls Tryd.prog 64 #[.int .i64 k] w fun e w' => e = .returned (.tuple #[bnd k, .bool (isK k)]) ∧ Below w.heap.size w w' := by
  go_enter Tryd.func64, Tryd.ntmps64
  by_cases h1 : k = 1
  · subst h1; go_wp2; exact bodyPost_ret (results_cell_tmp_row rfl _ _ _ _ _ _ _ rfl (new_cells _ _ _) Tryd.underlying104 rfl (by kernel_rfl)) rfl ⟨rfl, (Below.refl _ _).alloc (Nat.le_refl _) _⟩
  by_cases h2 : k = 2
  · subst h2; go_wp2; exact bodyPost_ret (results_cell_tmp_row rfl _ _ _ _ _ _ _ rfl (new_cells _ _ _) Tryd.underlying104 rfl (by kernel_rfl)) rfl ⟨rfl, (Below.refl _ _).alloc (Nat.le_refl _) _⟩
  by_cases h3 : k = 3
  · subst h3; go_wp2; exact bodyPost_ret (results_cell_tmp_row rfl _ _ _ _ _ _ _ rfl (new_cells _ _ _) Tryd.underlying104 rfl (by kernel_rfl)) rfl ⟨rfl, (Below.refl _ _).alloc (Nat.le_refl _) _⟩
  by_cases h4 : k = 4
  · subst h4; go_wp2; exact bodyPost_ret (results_cell_tmp_row rfl _ _ _ _ _ _ _ rfl (new_cells _ _ _) Tryd.underlying104 rfl (by kernel_rfl)) rfl ⟨rfl, (Below.refl _ _).alloc (Nat.le_refl _) _⟩
  by_cases h5 : k = 5
  · subst h5; go_wp2; exact bodyPost_ret (results_cell_tmp_row rfl _ _ _ _ _ _ _ rfl (new_cells _ _ _) Tryd.underlying104 rfl (by kernel_rfl)) rfl ⟨rfl, (Below.refl _ _).alloc (Nat.le_refl _) _⟩
  by_cases h6 : k = 6
  · subst h6; go_wp2; exact bodyPost_ret (results_cell_tmp_row rfl _ _ _ _ _ _ _ rfl (new_cells _ _ _) Tryd.underlying104 rfl (by kernel_rfl)) rfl ⟨rfl, (Below.refl _ _).alloc (Nat.le_refl _) _⟩
  · have hk : isK k = false := by simp [isK]; omega
    have hb : bnd k = .agg #[.int .u64 0, .int .i64 0, .int .i64 0] := by simp [bnd, mostN, leastK, mostK, h1, h2, h3, h4, h5, h6]
    go_wp2
    exact bodyPost_ret (results_cell_tmp_row rfl _ _ _ _ _ _ _ rfl (new_cells _ _ _) Tryd.underlying104 rfl (by kernel_rfl)) rfl ⟨by rw [hb, hk]; rfl, (Below.refl _ _).alloc (Nat.le_refl _) _⟩
set_option maxRecDepth 100000 in
set_option maxHeartbeats 4000000 in
theorem rightV_any (x : Nv) (w : World) : Calls Tryd.prog 49 #[nvv x] w fun e w' => e = .returned (.bool (rightV x)) ∧ Below w.heap.size w w' := by
  obtain ⟨k, n, c⟩ := x
  unfold nvv
  go_enter Tryd.func49, Tryd.ntmps49
  go_wp2_with fail
  refine (bounds_any k _).mono ?_; rintro e w1 ⟨rfl, hB1⟩
  have hB : Below w.heap.size w w1 := ((Below.refl _ _).alloc (Nat.le_refl _) _).trans (hB1.mono (by simp))
  have K1 := (Blk.newA w #[.int .i64 k, .int .u64 n, .int .i64 c] 49).later hB1
  have c1 : ∀ o, (w1.alloc o).cell? ⟨w.heap.size, 1, none⟩ = some (.int .u64 n) := fun o => (K1.alloc o).cell 1
  have c2 : ∀ o, (w1.alloc o).cell? ⟨w.heap.size, 2, none⟩ = some (.int .i64 c) := fun o => (K1.alloc o).cell 2
  clear K1
  by_cases hk : isK k = true
  · have hk' : 1 ≤ k ∧ k ≤ 6 := by simpa [isK] using hk
    rw [hk]; unfold bnd
    by_cases hn : n ≤ mostN k
    · by_cases hl : leastK k ≤ c
      · by_cases hm : c ≤ mostK k
        · have hr : rightV ⟨k, n, c⟩ = true := (rightV_iff _).2 ⟨hk', hn, hl, hm⟩
          go_wp2
          go_ret
          exact ⟨by first | rfl | (rw [hr]; rfl) | (show Ending.returned (.bool (decide (c ≤ mostK k))) = _; simp [hm, hr]), hB.alloc (by have := hB.size; omega) _⟩
        · have hr : rightV ⟨k, n, c⟩ = false := by simp [rightV]; intros; omega
          go_wp2
          go_ret
          exact ⟨by first | rfl | (rw [hr]; rfl) | (show Ending.returned (.bool (decide (c ≤ mostK k))) = _; simp [hm, hr]), hB.alloc (by have := hB.size; omega) _⟩
      · have hr : rightV ⟨k, n, c⟩ = false := by simp [rightV]; intros; omega
        go_wp2
        go_ret
        exact ⟨by first | rfl | (rw [hr]; rfl) | (show Ending.returned (.bool (decide (c ≤ mostK k))) = _; simp [hm, hr]), hB.alloc (by have := hB.size; omega) _⟩
    · have hr : rightV ⟨k, n, c⟩ = false := by simp [rightV]; intros; omega
      go_wp2
      go_ret
      exact ⟨by first | rfl | (rw [hr]; rfl) | (show Ending.returned (.bool (decide (c ≤ mostK k))) = _; simp [hm, hr]), hB.alloc (by have := hB.size; omega) _⟩
  · have hk1 : isK k = false := by simpa using hk
    have hr : rightV ⟨k, n, c⟩ = false := by simp [isK] at hk1; simp [rightV]; intros; omega
    rw [hk1]
    unfold bnd
    go_wp2
    go_ret
    exact ⟨by first | rfl | (rw [hr]; rfl) | (show Ending.returned (.bool (decide (c ≤ mostK k))) = _; simp [hm, hr]), hB.alloc (by have := hB.size; omega) _⟩
def fltv (p : Int × Int) : Value := .agg #[.int .i64 p.1, .int .i64 p.2]
set_option maxRecDepth 100000 in
set_option maxHeartbeats 4000000 in
theorem checkV_any (a : Option Addr) (len cap : Nat) (l : List Nv) (w : World) (hl : l.length = len) (hs : len ≤ 2000000) (hr : Hid (VRow w a l)) :
    Calls Tryd.prog 35 #[.slice a len cap] w fun e w' => e = .returned (fltv (chkV 1 0 l)) ∧ Below w.heap.size w w' := by
  go_enter Tryd.func35, Tryd.ntmps35
  go_wp2_with fail
  go_loopw [3, 8] (fun m i wr => ∃ (M : Int) (k : Nat), k ≤ len ∧ i = .int .i64 k ∧ m = .int .i64 M ∧ 0 ≤ M ∧ M ≤ 1 + 1048576 * (k : Int) ∧ Hid (chkV M k (l.drop k) = chkV 1 0 l) ∧ Hid (Blk wr w.heap.size 42 [.int .i64 0, .int .i64 0]) ∧ Hid (Below w.heap.size w wr)) (fun _ i _ => len - (intOf i).toNat)
  case atStart => exact ⟨1, 0, Nat.zero_le _, rfl, rfl, by omega, by omega, rfl, Blk.newA w _ 42, (Below.refl _ _).alloc (Nat.le_refl _) _⟩
  case round =>
    obtain ⟨M, k, hk, rfl, rfl, hM0, hM1, HC, HK, HB⟩ := hrel
    by_cases hlt : k < len
    · obtain ⟨b, off, rfl, hb, hc⟩ := hr.out.open (by omega)
      have hxk : l[k]? = some (l.getD k nv0) := by simp [List.getD, List.getElem?_eq_getElem (show k < l.length by omega)]
      have c0 := hc k _ hxk 0 (by decide); have c1 := hc k _ hxk 1 (by decide); have c2 := hc k _ hxk 2 (by decide)
      simp only [nvc, List.getElem?_cons_zero, List.getElem?_cons_succ, Nat.add_zero] at c0 c1 c2
      have hlt' : (k : Int) < len := by omega
      have d0 := (HB.out.cell (p := ⟨b, off + k * 3, none⟩) hb).trans c0
      have d1 := (HB.out.cell (p := ⟨b, off + k * 3 + 1, none⟩) hb).trans c1
      have d2 := (HB.out.cell (p := ⟨b, off + k * 3 + 2, none⟩) hb).trans c2
      have hdrop : l.drop k = l.getD k nv0 :: l.drop (k + 1) := by
        rw [List.drop_eq_getElem_cons (by omega)]; simp [List.getD, List.getElem?_eq_getElem (show k < l.length by omega)]
      have HC1 : Hid (chkV M k (l.getD k nv0 :: l.drop (k + 1)) = chkV 1 0 l) := hdrop ▸ HC.out
      clear hdrop hc c0 c1 c2 HC hxk
      generalize l.getD k nv0 = x at *
      obtain ⟨xk, xn, xc⟩ := x
      by_cases hM : M = 0
      · subst hM
        have e0 : ∀ o, (wr.alloc o).cell? ⟨w.heap.size, 0, none⟩ = some (.int .i64 0) := fun o => (HK.out.alloc o).cell 0
        have e1 : ∀ o, (wr.alloc o).cell? ⟨w.heap.size, 1, none⟩ = some (.int .i64 0) := fun o => (HK.out.alloc o).cell 1
        have z0 : ∀ o, (wr.alloc o).frozen? ⟨w.heap.size, 0, none⟩ = false := fun o => (HK.out.alloc o).frozen 0
        have z1 : ∀ o, (wr.alloc o).frozen? ⟨w.heap.size, 1, none⟩ = false := fun o => (HK.out.alloc o).frozen 1
        go_wp2
        exact retF rfl rfl (((HK.out.alloc _).set 0 _).set 1 _) ⟨by have := HC1.out; rw [chkV, if_pos (.inl rfl)] at this; rw [← this]; rfl, ((HB.out.alloc (by have := HB.out.size; omega) _).setCell (Nat.le_refl _) _).setCell (Nat.le_refl _) _⟩
      · have e2 : ∀ o, (wr.alloc o).cell? ⟨w.heap.size, 0, none⟩ = some (.int .i64 0) := fun o => (HK.out.alloc o).cell 0
        go_wp2_with fail
        refine (rightV_any ⟨xk, xn, xc⟩ _).mono ?_; rintro e w1 ⟨rfl, hB1⟩
        have HK1 := (HK.out.alloc (.cells #[.int .i64 xk, .int .u64 xn, .int .i64 xc] 49)).later hB1
        have e0 := HK1.cell 0; have e1 := HK1.cell 1; have z0 := HK1.frozen 0; have z1 := HK1.frozen 1
        simp at e0 e1
        have HX := (Blk.newA wr #[.int .i64 xk, .int .u64 xn, .int .i64 xc] 49).later hB1
        have f2 := HX.cell 2
        simp at f2
        have HB1 : Hid (Below w.heap.size w w1) := (HB.out.alloc (by have := HB.out.size; omega) _).trans (hB1.mono (by have := HB.out.size; simp; omega))
        clear hB1 HX d0 d1 d2
        by_cases hx : rightV ⟨xk, xn, xc⟩ = true
        · have HC2 : Hid (chkV (M + (xc - 1)) (k + 1) (l.drop (k + 1)) = chkV 1 0 l) := by
            have := HC1.out
            rw [chkV, if_neg (by simp [hM, hx])] at this
            exact this
          have hxc := rightV_kids hx
          simp only at hxc
          have HK2 : Hid (Blk w1 w.heap.size 42 [.int .i64 0, .int .i64 0]) := HK1
          clear e0 e1 z0 z1 HC1 HK1 HK HB hr
          rw [hx]
          go_wp2
          go_roundw
          case rel => exact ⟨M + (xc - 1), k + 1, by omega, by go_num, by go_num, by omega, by omega, by simpa using HC2, HK2, HB1⟩
          case measure => simp [intOf]; omega
        · have hx' : rightV ⟨xk, xn, xc⟩ = false := by simpa using hx
          rw [hx']
          go_wp2
          exact retF rfl rfl ((HK1.set 0 _).set 1 _) ⟨by have := HC1.out; rw [chkV, if_pos (.inr hx')] at this; rw [← this]; rfl, (HB1.out.setCell (Nat.le_refl _) _).setCell (Nat.le_refl _) _⟩
    · obtain rfl : k = len := by omega
      have e0 := HK.out.cell 0; have e1 := HK.out.cell 1; have z0 := HK.out.frozen 0; have z1 := HK.out.frozen 1
      simp at e0 e1
      have HC1 := HC.out
      rw [List.drop_eq_nil_of_le (by omega), chkV] at HC1
      by_cases hM : 0 < M
      · rw [if_pos hM] at HC1
        have HC2 : Hid _ := HC1
        clear HC1
        go_wp2
        exact retF rfl rfl ((HK.out.set 0 _).set 1 _) ⟨by rw [← HC2.out]; rfl, (HB.out.setCell (Nat.le_refl _) _).setCell (Nat.le_refl _) _⟩
      · rw [if_neg hM] at HC1
        have HC2 : Hid _ := HC1
        clear HC1
        go_wp2
        exact retF rfl rfl ((HK.out.set 0 _).set 1 _) ⟨by rw [← HC2.out]; rfl, (HB.out.setCell (Nat.le_refl _) _).setCell (Nat.le_refl _) _⟩

end Go.Proofs.YtlfjcihhcphjkaaDoor
