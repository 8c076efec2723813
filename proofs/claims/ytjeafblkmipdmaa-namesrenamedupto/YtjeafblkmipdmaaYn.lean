/- Check, Order, Depth, Find; ints. -/
import Derived.Test.YtjeafblkmipdmaaYm
namespace Go.Proofs.Ytjeafblkmipdmaa
open Go.RowKit
set_option linter.unusedVariables false

/-! ### There is an answer -/
theorem Ordr.ex {U : List (List Nat)} (hR : Rng U) (hA : Acy U) : ∀ k, k ≤ U.length → ∃ o, o.length = k ∧ Ordr U o
  | 0, _ => ⟨[], rfl, Ordr.nil U⟩
  | k + 1, hk => by
    obtain ⟨o, h1, h2⟩ := Ordr.ex hR hA k (by omega)
    obtain ⟨n0, h3, h4⟩ := h2.next hR hA (by omega)
    obtain ⟨n, h5, h6, h7⟩ := least (p := fun n => Rdy U o n) n0 h4
    exact ⟨o ++ [n], by simp [h1], h2.snoc (by omega) h6 h7⟩
theorem DepP.ex {D : List Df} {o : List Nat} (hO : Ordr (usD D) o) : ∀ i, i ≤ o.length → ∃ ds, DepP D o i ds
  | 0, _ => ⟨List.replicate D.length 0, by simp, fun k hk => by simp at hk⟩
  | i + 1, hi => by
    obtain ⟨ds, h⟩ := DepP.ex hO i (by omega)
    have hm : o[i]? = some (o[i]'(by omega)) := List.getElem?_eq_getElem _
    have hl := (hO i _ hm).1
    rw [usD_len] at hl
    exact ⟨_, h.step hO hm (List.getElem?_eq_getElem hl)⟩
theorem lookTo_ex (D : List Df) : ∃ E A o ds, LookTo D E A o ds := by
  classical
  by_cases h : (ckP D).2.2 = 0
  · by_cases h2 : (lkD D D 0).1 = 0
    · by_cases hA : ∃ i, Lead (usD D) i i
      · obtain ⟨i, hi⟩ := hA
        obtain ⟨m, _, h3, h4⟩ := least (p := fun i => Lead (usD D) i i) i hi
        have hm := h3.lt
        rw [usD_len] at hm
        exact ⟨_, _, _, _, lookTo_ring h h2 (List.getElem?_eq_getElem hm) h3 h4⟩
      · have hAc : Acy (usD D) := fun i hi => hA ⟨i, hi⟩
        obtain ⟨o, hl, hO⟩ := Ordr.ex (usD_rng D) hAc (usD D).length (Nat.le_refl _)
        rw [usD_len] at hl
        obtain ⟨ds, hd⟩ := DepP.ex hO o.length (Nat.le_refl _)
        have hds := hd.all hO hl
        by_cases hB : ∃ i, 64 < ds.getD i 0
        · obtain ⟨i, hi⟩ := hB
          obtain ⟨m, _, h3, h4⟩ := least (p := fun i => 64 < ds.getD i 0) i hi
          have hm : m < D.length := by
            rcases Nat.lt_or_ge m D.length with hh | hh
            · exact hh
            · rw [List.getD_eq_getElem?_getD, List.getElem?_eq_none (by rw [hds.1]; exact hh)] at h3
              simp at h3
          exact ⟨_, _, _, _, lookTo_deep h h2 hAc hO hl hds (List.getElem?_eq_getElem hm) h3 (fun j hj => by have := h4 j hj; omega)⟩
        · exact ⟨_, _, _, _, lookTo_ok h h2 hAc hO hl hds (fun j => by
            by_cases hh : 64 < ds.getD j 0
            · exact absurd ⟨j, hh⟩ hB
            · omega)⟩
    · exact ⟨_, _, _, _, lookTo_names h h2⟩
  · exact ⟨_, _, _, _, lookTo_src h⟩
/-! ### The calls -/
theorem look_is {D : List Df} {E A : Int} {o : List Nat} {ds : List Int} (h : LookTo D E A o ds) (a : Option Addr) (c : Nat) (w : World) (hW : Hid (Wt D)) (r : Hid (DRow w a D)) :
    Calls Try.prog 11 #[.agg #[.slice a D.length c]] w fun e w' => ∃ x n p y m q, e = .returned (.tuple #[.agg #[.slice x n p, .slice y m q], .agg #[.int .i64 E, .int .i64 A]]) ∧ Hid (w'.ownsRow w.heap.size 3 1 (.slice x n p) o.length (cellsL .i64 (natI o))) ∧ Hid (w'.ownsRow w.heap.size 3 1 (.slice y m q) ds.length (cellsL .i64 ds)) ∧ Hid (Below w.heap.size w w') :=
  (look_any a c D w hW r).mono fun e w' ⟨E', A', vo, vd, he, ⟨o', ds', h1, h2, h3, h4, ⟨x, n, p, e5⟩, ⟨y, m, q, e6⟩⟩, hB⟩ => by
    obtain ⟨rfl, rfl, rfl, rfl⟩ := h.det h1
    subst e5 e6
    exact ⟨x, n, p, y, m, q, he, h2, h3, hB⟩
set_option maxRecDepth 100000 in
set_option maxHeartbeats 4000000 in
theorem nCheck_any {D : List Df} {E A : Int} {o : List Nat} {ds : List Int} (h : LookTo D E A o ds) (a : Option Addr) (c : Nat) (w : World) (hW : Hid (Wt D)) (r : Hid (DRow w a D)) :
    Calls Try.prog 5 #[.agg #[.slice a D.length c]] w fun e w' => e = .returned (.agg #[.int .i64 E, .int .i64 A]) ∧ Hid (Below w.heap.size w w') := by
  obtain ⟨w1, hw1⟩ : ∃ w1, (w.alloc (.cells #[.slice a D.length c] 24)).alloc (.cells #[.int .i64 0, .int .i64 0] 28) = w1 := ⟨_, rfl⟩
  have HB1 : Hid (Below w.heap.size w w1) := by rw [← hw1]; exact ((Below.refl _ _).alloc (Nat.le_refl _) _).alloc (by simp) _
  have K1 : Hid (Blk w1 w.heap.size 24 [.slice a D.length c]) := by rw [← hw1]; exact (Blk.newA w #[.slice a D.length c] 24).alloc _
  have K2 : Hid (Blk w1 (w.heap.size + 1) 28 [.int .i64 0, .int .i64 0]) := hide_ (by
    have h := Blk.newA (w.alloc (.cells #[.slice a D.length c] 24)) #[.int .i64 0, .int .i64 0] 28
    rw [hw1, World.size_alloc] at h
    exact h)
  have HC := hide_ (look_is h a c w1 hW (hide_ (r.out.later HB1.out)))
  have c0 := K1.out.cell 0
  simp at c0
  go_enter Try.func5, Try.ntmps5
  go_upto_region 2 with (go_at_call 11; refine HC.out.mono ?_; rintro e w2 ⟨x, n, p, y, m, q, rfl, -, -, HB2⟩)
  have K2b := K2.out.later HB2.out
  have hs2 : w.heap.size + 1 < w2.heap.size := K2b.lt
  obtain ⟨w3, hw3⟩ : ∃ w3, (w2.alloc (.cells #[.slice x n p, .slice y m q] 45)).alloc (.cells #[.int .i64 E, .int .i64 A] 28) = w3 := ⟨_, rfl⟩
  have hB3 : Below w2.heap.size w2 w3 := by rw [← hw3]; exact ((Below.refl _ _).alloc (Nat.le_refl _) _).alloc (by simp) _
  have k4 : Blk w3 (w2.heap.size + 1) 28 [.int .i64 E, .int .i64 A] := by
    have h := Blk.newA (w2.alloc (.cells #[.slice x n p, .slice y m q] 45)) #[.int .i64 E, .int .i64 A] 28
    rw [hw3, World.size_alloc] at h
    exact h
  have K2c := hide_ (K2b.later hB3)
  have HB3 := hide_ (below_to HB1.out (below_to HB2.out hB3))
  rw [hw3]
  clear hw3 hw1 c0 K2b K1 K2 HB2
  have d0 := k4.cell 0; have d1 := k4.cell 1
  have e0 := K2c.out.cell 0; have e1 := K2c.out.cell 1
  have f0 := K2c.out.frozen 0; have f1 := K2c.out.frozen 1
  simp at d0 d1 e0 e1
  go_wp2
  exact retF (a := E) (b := A) rfl rfl (wr2 K2c.out _ _) ⟨rfl, hide_ (below_set2 HB3.out _ _ _ (by omega))⟩
theorem retO {fn : Func} (hfn : fn.results = #[.tmp 2, .cell 3 28]) {R : Ending → World → Prop} {tmps : Array Value} {g3 : Nat} {w : World} {v0 : Value} {a b : Int} (h2 : tmps.getD 2 undef = v0) (h3 : tmps.getD 3 undef = .pointer (some ⟨g3, 0, none⟩)) (K3 : Blk w g3 28 [.int .i64 a, .int .i64 b]) (hR : R (.returned (.tuple #[v0, .agg #[.int .i64 a, .int .i64 b]])) w) :
    bodyPost Try.prog fn R Exit.ret ⟨tmps, []⟩ w := by
  subst h2
  exact bodyPost_ret (results_tmp_cell_row hfn _ _ _ _ #[.int .i64 a, .int .i64 b] _ _ h3 K3 Try.underlying28 rfl (by show _ = some 2; kernel_rfl)) rfl hR
set_option maxRecDepth 100000 in
set_option maxHeartbeats 4000000 in
theorem nOrder_any {D : List Df} {E A : Int} {o : List Nat} {ds : List Int} (h : LookTo D E A o ds) (a : Option Addr) (c : Nat) (w : World) (hW : Hid (Wt D)) (r : Hid (DRow w a D)) :
    Calls Try.prog 7 #[.agg #[.slice a D.length c]] w fun e w' => ∃ x n p, e = .returned (.tuple #[.slice x n p, .agg #[.int .i64 E, .int .i64 A]]) ∧ Hid (w'.ownsRow w.heap.size 3 1 (.slice x n p) o.length (cellsL .i64 (natI o))) ∧ Hid (Below w.heap.size w w') := by
  obtain ⟨w1, hw1⟩ : ∃ w1, (w.alloc (.cells #[.slice a D.length c] 24)).alloc (.cells #[.int .i64 0, .int .i64 0] 28) = w1 := ⟨_, rfl⟩
  have HB1 : Hid (Below w.heap.size w w1) := by rw [← hw1]; exact ((Below.refl _ _).alloc (Nat.le_refl _) _).alloc (by simp) _
  have K1 : Hid (Blk w1 w.heap.size 24 [.slice a D.length c]) := by rw [← hw1]; exact (Blk.newA w #[.slice a D.length c] 24).alloc _
  have K2 : Hid (Blk w1 (w.heap.size + 1) 28 [.int .i64 0, .int .i64 0]) := hide_ (by
    have h := Blk.newA (w.alloc (.cells #[.slice a D.length c] 24)) #[.int .i64 0, .int .i64 0] 28
    rw [hw1, World.size_alloc] at h
    exact h)
  have HC := hide_ (look_is h a c w1 hW (hide_ (r.out.later HB1.out)))
  have c0 := K1.out.cell 0
  simp at c0
  go_enter Try.func7, Try.ntmps7
  go_upto_region 2 with (go_at_call 11; refine HC.out.mono ?_; rintro e w2 ⟨x, n, p, y, m, q, rfl, HX, HY, HB2⟩)
  have K2b := K2.out.later HB2.out
  have hs2 : w.heap.size + 1 < w2.heap.size := K2b.lt
  obtain ⟨w3, hw3⟩ : ∃ w3, (w2.alloc (.cells #[.slice x n p, .slice y m q] 45)).alloc (.cells #[.int .i64 E, .int .i64 A] 28) = w3 := ⟨_, rfl⟩
  have hB3 : Below w2.heap.size w2 w3 := by rw [← hw3]; exact ((Below.refl _ _).alloc (Nat.le_refl _) _).alloc (by simp) _
  have k3 : Blk w3 w2.heap.size 45 [.slice x n p, .slice y m q] := by
    have h := (Blk.newA w2 #[.slice x n p, .slice y m q] 45).alloc (.cells #[.int .i64 E, .int .i64 A] 28)
    rw [hw3] at h
    exact h
  have k4 : Blk w3 (w2.heap.size + 1) 28 [.int .i64 E, .int .i64 A] := by
    have h := Blk.newA (w2.alloc (.cells #[.slice x n p, .slice y m q] 45)) #[.int .i64 E, .int .i64 A] 28
    rw [hw3, World.size_alloc] at h
    exact h
  have K2c := hide_ (K2b.later hB3)
  have HB3 := hide_ (below_to HB1.out (below_to HB2.out hB3))
  have hO3 : w3.ownsRow w.heap.size 3 1 (.slice x n p) o.length (cellsL .i64 (natI o)) := ownS_upd (own_base HX.out HB1.out.size) (Upd.of_below (S := fun _ => False) hB3) (fun _ _ h => h)
  have HO3 : Hid (∀ w', Upd (fun k => k = w.heap.size + 1) w3 w' → w'.ownsRow w.heap.size 3 1 (.slice x n p) o.length (cellsL .i64 (natI o))) := hide_ (fun w' hu => ownS_upd hO3 hu (fun k hk e => by
    obtain ⟨ys, hy⟩ := ownS_type hO3 hk
    exact absurd (blk_type hy (e ▸ K2c.out)) (by decide)))
  rw [hw3]
  clear hw3 hw1 c0 K2b K1 K2 HB2 hO3
  have g0 := k3.cell 0
  have d0 := k4.cell 0; have d1 := k4.cell 1
  have e0 := K2c.out.cell 0; have e1 := K2c.out.cell 1
  have f0 := K2c.out.frozen 0; have f1 := K2c.out.frozen 1
  simp at g0 d0 d1 e0 e1
  go_wp2_with fail
  go_region
  all_goals go_wp2
  all_goals exact retO (a := E) (b := A) rfl rfl rfl (wr2 K2c.out _ _) ⟨_, _, _, rfl, hide_ (HO3.out _ ((((Upd.refl (fun k => k = w.heap.size + 1) w3).set ⟨w.heap.size + 1, 0, none⟩ _ (.inl rfl)).set ⟨w.heap.size + 1, 1, none⟩ _ (.inl rfl)).drew)), hide_ (below_set2 HB3.out _ _ _ (by omega)).drew⟩
set_option maxRecDepth 100000 in
set_option maxHeartbeats 4000000 in
theorem nDepth_any {D : List Df} {E A : Int} {o : List Nat} {ds : List Int} (h : LookTo D E A o ds) (a : Option Addr) (c : Nat) (w : World) (hW : Hid (Wt D)) (r : Hid (DRow w a D)) :
    Calls Try.prog 8 #[.agg #[.slice a D.length c]] w fun e w' => ∃ x n p, e = .returned (.tuple #[.slice x n p, .agg #[.int .i64 E, .int .i64 A]]) ∧ Hid (w'.ownsRow w.heap.size 3 1 (.slice x n p) ds.length (cellsL .i64 ds)) ∧ Hid (Below w.heap.size w w') := by
  obtain ⟨w1, hw1⟩ : ∃ w1, (w.alloc (.cells #[.slice a D.length c] 24)).alloc (.cells #[.int .i64 0, .int .i64 0] 28) = w1 := ⟨_, rfl⟩
  have HB1 : Hid (Below w.heap.size w w1) := by rw [← hw1]; exact ((Below.refl _ _).alloc (Nat.le_refl _) _).alloc (by simp) _
  have K1 : Hid (Blk w1 w.heap.size 24 [.slice a D.length c]) := by rw [← hw1]; exact (Blk.newA w #[.slice a D.length c] 24).alloc _
  have K2 : Hid (Blk w1 (w.heap.size + 1) 28 [.int .i64 0, .int .i64 0]) := hide_ (by
    have h := Blk.newA (w.alloc (.cells #[.slice a D.length c] 24)) #[.int .i64 0, .int .i64 0] 28
    rw [hw1, World.size_alloc] at h
    exact h)
  have HC := hide_ (look_is h a c w1 hW (hide_ (r.out.later HB1.out)))
  have c0 := K1.out.cell 0
  simp at c0
  go_enter Try.func8, Try.ntmps8
  go_upto_region 2 with (go_at_call 11; refine HC.out.mono ?_; rintro e w2 ⟨x, n, p, y, m, q, rfl, HX, HY, HB2⟩)
  have K2b := K2.out.later HB2.out
  have hs2 : w.heap.size + 1 < w2.heap.size := K2b.lt
  obtain ⟨w3, hw3⟩ : ∃ w3, (w2.alloc (.cells #[.slice x n p, .slice y m q] 45)).alloc (.cells #[.int .i64 E, .int .i64 A] 28) = w3 := ⟨_, rfl⟩
  have hB3 : Below w2.heap.size w2 w3 := by rw [← hw3]; exact ((Below.refl _ _).alloc (Nat.le_refl _) _).alloc (by simp) _
  have k3 : Blk w3 w2.heap.size 45 [.slice x n p, .slice y m q] := by
    have h := (Blk.newA w2 #[.slice x n p, .slice y m q] 45).alloc (.cells #[.int .i64 E, .int .i64 A] 28)
    rw [hw3] at h
    exact h
  have k4 : Blk w3 (w2.heap.size + 1) 28 [.int .i64 E, .int .i64 A] := by
    have h := Blk.newA (w2.alloc (.cells #[.slice x n p, .slice y m q] 45)) #[.int .i64 E, .int .i64 A] 28
    rw [hw3, World.size_alloc] at h
    exact h
  have K2c := hide_ (K2b.later hB3)
  have HB3 := hide_ (below_to HB1.out (below_to HB2.out hB3))
  have hO3 : w3.ownsRow w.heap.size 3 1 (.slice y m q) ds.length (cellsL .i64 ds) := ownS_upd (own_base HY.out HB1.out.size) (Upd.of_below (S := fun _ => False) hB3) (fun _ _ h => h)
  have HO3 : Hid (∀ w', Upd (fun k => k = w.heap.size + 1) w3 w' → w'.ownsRow w.heap.size 3 1 (.slice y m q) ds.length (cellsL .i64 ds)) := hide_ (fun w' hu => ownS_upd hO3 hu (fun k hk e => by
    obtain ⟨ys, hy⟩ := ownS_type hO3 hk
    exact absurd (blk_type hy (e ▸ K2c.out)) (by decide)))
  rw [hw3]
  clear hw3 hw1 c0 K2b K1 K2 HB2 hO3
  have g0 := k3.cell 1
  have d0 := k4.cell 0; have d1 := k4.cell 1
  have e0 := K2c.out.cell 0; have e1 := K2c.out.cell 1
  have f0 := K2c.out.frozen 0; have f1 := K2c.out.frozen 1
  simp at g0 d0 d1 e0 e1
  go_wp2_with fail
  go_region
  all_goals go_wp2
  all_goals exact retO (a := E) (b := A) rfl rfl rfl (wr2 K2c.out _ _) ⟨_, _, _, rfl, hide_ (HO3.out _ ((((Upd.refl (fun k => k = w.heap.size + 1) w3).set ⟨w.heap.size + 1, 0, none⟩ _ (.inl rfl)).set ⟨w.heap.size + 1, 1, none⟩ _ (.inl rfl)).drew)), hide_ (below_set2 HB3.out _ _ _ (by omega)).drew⟩
end Go.Proofs.Ytjeafblkmipdmaa
