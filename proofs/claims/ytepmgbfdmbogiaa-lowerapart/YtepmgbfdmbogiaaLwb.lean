/- Lower: lay, layTo, set. -/
import Derived.Test.YtepmgbfdmbogiaaLwa
import Derived.Test.YtepmgbfdmbogiaaRgf
namespace Go.Proofs.Ytepmgbfdmbogiaa
open Go.RowKit
set_option linter.unusedVariables false

set_option maxRecDepth 100000 in
set_option maxHeartbeats 4000000 in
theorem lay_any (B gb : Nat) (vT vL : Value) (C : List In) (E : List Int) (M : List Mk) (x : In) (w : World) (hl : C.length ≤ 1000000000) (h : Hid (Mb w B gb vT vL C E M)) :
    Calls Try.prog 36 #[.pointer (some ⟨gb, 0, none⟩), .agg #[.int .i64 x.op, .int .i64 x.a, .int .i64 x.b, .int .i64 x.c]] w fun e w' => e = .returned (.tuple #[]) ∧ Hid (Mb w' B gb vT vL (C ++ [x]) E M) ∧ Hid (Kp B w w') := by
  obtain ⟨w1, hw1⟩ : ∃ wx, wx = w.alloc (.cells #[.int .i64 x.op, .int .i64 x.a, .int .i64 x.b, .int .i64 x.c] 40) := ⟨_, rfl⟩
  have hB1 : Below w.heap.size w w1 := by rw [hw1]; exact below1 _ _
  have kx : Blk w1 w.heap.size 40 (inc x) := by rw [hw1]; exact Blk.newA w _ _
  obtain ⟨vC, vE, hk, hc, -, -⟩ := h.out.bd
  have hlt : ∀ k, vC.ownBlock = some k → k < w.heap.size := fun k e => (hc.lies e).2
  have H1 := h.out.later hB1
  obtain ⟨a, c, vE', g, cap, w2, k1, r1, k2, hM, hK, hU⟩ := (H1.later ((Below.refl _ _).drew)).push x hl
  have e1 := blk_one (hk.later hB1) k1
  obtain ⟨rfl, rfl⟩ : vC = .slice a C.length c ∧ vE = vE' := by simpa using e1
  have HSS : Hid (∀ w', Below w1.heap.size w1 w' → (fun w' => w'.cell? ⟨gb, 2, none⟩ = some (.slice a C.length c) ∧ w'.cell? ⟨w.heap.size, 0, none⟩ = some (.int .i64 x.op) ∧ w'.cell? ⟨w.heap.size, 1, none⟩ = some (.int .i64 x.a) ∧ w'.cell? ⟨w.heap.size, 2, none⟩ = some (.int .i64 x.b) ∧ w'.cell? ⟨w.heap.size, 3, none⟩ = some (.int .i64 x.c)) w') := hide_ (fun w' hb => ⟨by have := ((hk.later hB1).later hb).cell 2; simpa using this, (kx.later hb).cell 0, (kx.later hb).cell 1, (kx.later hb).cell 2, (kx.later hb).cell 3⟩)
  have kx2 : Blk w2 w.heap.size 40 (inc x) := Blk.upd (w := w1.drew) kx hU (fun e => by have := hlt _ e; omega)
  have HS2 : Hid ((fun w' => w'.cell? ⟨gb, 2, none⟩ = some (.slice a C.length c) ∧ w'.cell? ⟨w.heap.size, 0, none⟩ = some (.int .i64 x.op) ∧ w'.cell? ⟨w.heap.size, 1, none⟩ = some (.int .i64 x.a) ∧ w'.cell? ⟨w.heap.size, 2, none⟩ = some (.int .i64 x.b) ∧ w'.cell? ⟨w.heap.size, 3, none⟩ = some (.int .i64 x.c)) w2) := hide_ ⟨by have := k2.cell 2; simpa using this, kx2.cell 0, kx2.cell 1, kx2.cell 2, kx2.cell 3⟩
  have HR := hide_ r1
  have HK2 := hide_ k2
  have HM := hide_ hM
  have HKp : Hid (Kp B w _) := hide_ ((Kp.later hB1).trans ((Kp.later ((Below.refl w1.heap.size w1).drew)).trans hK))
  clear hB1 kx hk hc hlt H1 k1 r1 k2 hM hK hU e1 kx2
  go_enter Try.func36, Try.ntmps36
  go_upto_region 1 with fail
  rw [← hw1]
  clear hw1
  refine wp_region_last 10 (fun w' => w'.cell? ⟨gb, 2, none⟩ = some (.slice a C.length c) ∧ w'.cell? ⟨w.heap.size, 0, none⟩ = some (.int .i64 x.op) ∧ w'.cell? ⟨w.heap.size, 1, none⟩ = some (.int .i64 x.a) ∧ w'.cell? ⟨w.heap.size, 2, none⟩ = some (.int .i64 x.b) ∧ w'.cell? ⟨w.heap.size, 3, none⟩ = some (.int .i64 x.c)) (by kernel_rfl) (HSS.out _ ((Below.refl w1.heap.size w1).drew)) (fun hHeld => ?_)
  refine wpAnyF_take [10] (by kernel_rfl) (i := 0) (v := ?vl1) rfl (by kernel_rfl) (by kernel_rfl) (by kernel_rfl) (fun _ _ _ h => h) (Or.inl ⟨by kernel_rfl, ?hyl1⟩) hHeld ?restl1
  case hyl1 => intro w' hSw; (try dsimp only at hSw); go_simp; try with_reducible rfl
  simp only [Act.put]
  refine wpAnyF_take [10] (by kernel_rfl) (i := 1) (v := ?vl2) rfl (by kernel_rfl) (by kernel_rfl) (by kernel_rfl) (fun _ _ _ h => h) (Or.inl ⟨by kernel_rfl, ?hyl2⟩) hHeld ?restl2
  case hyl2 => intro w' hSw; (try dsimp only at hSw); go_simp; try with_reducible rfl
  simp only [Act.put]
  refine wpAnyF_take [10] (by kernel_rfl) (i := 2) (v := ?vl3) rfl (by kernel_rfl) (by kernel_rfl) (by kernel_rfl) (fun _ _ _ h => h) (Or.inl ⟨by kernel_rfl, ?hyl3⟩) hHeld ?restl3
  case hyl3 => intro w' hSw; (try dsimp only at hSw); go_simp; try with_reducible rfl
  simp only [Act.put]
  refine wpAnyF_take [10] (by kernel_rfl) (i := 3) (v := ?vl4) rfl (by kernel_rfl) (by kernel_rfl) (by kernel_rfl) (fun _ _ _ h => h) (Or.inl ⟨by kernel_rfl, ?hyl4⟩) hHeld ?restl4
  case hyl4 => intro w' hSw; (try dsimp only at hSw); go_simp; try with_reducible rfl
  simp only [Act.put]
  refine wpAnyF_take [10] (by kernel_rfl) (i := 4) (v := ?vl5) rfl (by kernel_rfl) (by kernel_rfl) (by kernel_rfl) (fun _ _ _ h => h) (Or.inl ⟨by kernel_rfl, ?hyl5⟩) hHeld ?restl5
  case hyl5 => intro w' hSw; (try dsimp only at hSw); go_simp; try with_reducible rfl
  simp only [Act.put]
  refine wpAnyF_take [10] (by kernel_rfl) (i := 5) (v := ?vl6) rfl (by kernel_rfl) (by kernel_rfl) (by kernel_rfl) (fun _ _ _ h => h) (Or.inl ⟨by kernel_rfl, ?hyl6⟩) hHeld ?restl6
  case hyl6 => intro w' hSw; (try dsimp only at hSw); go_simp; try with_reducible rfl
  simp only [Act.put]
  refine wpAnyF_ready (rs := [6]) (by kernel_rfl) (by simp) ?_
  refine AllReadyF.cons rfl (fun K hK => ?_) AllReadyF.nil
  go_simp
  refine hK.out _ _ (HSS.out _ (below_to ((Below.refl w1.heap.size w1).drew) (below1 w1.drew _))) (fun hHeld => ?_)
  clear hK K
  refine wpAnyF_ready (rs := [7]) (by kernel_rfl) (by simp) ?_
  refine AllReadyF.cons rfl (fun K hK => ?_) AllReadyF.nil
  refine step_append_run rfl (.tmp 8) (.tmp 10) 28 28 rfl (v := .slice a C.length c) (u := .slice (some ⟨w1.heap.size, 0, none⟩) 1 1) (by kernel_rfl) (by kernel_rfl) HR.out ?_
  simp only [Act.put]
  refine hK.out _ _ (HS2.out) (fun hHeld => ?_)
  clear hK K
  refine wpAnyF_take [10, 9] (by kernel_rfl) (i := 8) (v := ?vl7) rfl (by kernel_rfl) (by kernel_rfl) (by kernel_rfl) (fun _ _ _ h => h) (Or.inl ⟨by kernel_rfl, ?hyl7⟩) hHeld ?restl7
  case hyl7 => intro w' hSw; (try dsimp only at hSw); go_simp; try with_reducible rfl
  simp only [Act.put]
  refine wpAnyF_take [10] (by kernel_rfl) (i := 9) (v := ?vl8) rfl (by kernel_rfl) (by kernel_rfl) (by kernel_rfl) (fun _ _ _ h => h) (Or.inl ⟨by kernel_rfl, ?hyl8⟩) hHeld ?restl8
  case hyl8 => intro w' hSw; (try dsimp only at hSw); go_simp; try with_reducible rfl
  simp only [Act.put]
  refine wpAnyF_ready (rs := [10]) (by kernel_rfl) (by simp) ?_
  refine AllReadyF.last rfl (fun K hK => ?_)
  have q2 := HK2.out.cell 2; have qz := HK2.out.frozen 2
  simp at q2
  go_simp
  refine hK.out _ _ ?_
  clear hK K
  refine wpAnyF_done (by kernel_rfl) ?_ _
  go_wp2_with fail
  go_end0
  exact ⟨rfl, HM, HKp⟩
set_option maxRecDepth 100000 in
set_option maxHeartbeats 4000000 in
/-- A target whose number is not known yet waits. -/
theorem layTo_new (B gb : Nat) (vT vL : Value) (C : List In) (E : List Int) (M1 M2 : List Mk) (m : Mk) (op a_ : Int) (w : World) (hl : C.length ≤ 1000000000) (hw : m.W.length ≤ 1000000000) (hkn : m.kn = false) (h : Hid (Mb w B gb vT vL C E (M1 ++ m :: M2))) :
    Calls Try.prog 30 #[.pointer (some ⟨gb, 0, none⟩), .int .i64 op, .int .i64 a_, .pointer (some ⟨m.g, m.o, none⟩)] w fun e w' => e = .returned (.tuple #[]) ∧ Hid (∃ v, Mb w' B gb vT vL (C ++ [⟨op, a_, m.nu, 0⟩]) E (M1 ++ ⟨m.g, m.o, false, m.nu, v, m.W ++ [(C.length : Int)]⟩ :: M2)) ∧ Hid (Kp B w w') := by
  obtain ⟨a, c, xs, vC, vE, g, cap, w2, hv, kb, ⟨ac, cc, hvc⟩, hk, x0, x1, x2, r1, hkm, hM, hK, kb2⟩ := (h.out.later ((Below.refl _ _).drew)).wait (C.length : Int) hw
  subst hvc
  rw [hkn] at hM x0
  have HX3 : Hid (xs[m.o]? = some (.bool false) ∧ (w2.setCell ⟨m.g, m.o + 2, none⟩ (.slice (some ⟨g, 0, none⟩) (m.W.length + 1) cap)).cell? ⟨m.g, m.o + 1, none⟩ = some (.int .i64 m.nu) ∧ True) := hide_ ⟨x0, by rw [(hkm.set (m.o + 2) _).cell, List.getElem?_set_ne (by omega)]; exact x1, trivial⟩
  have i0 : w.cell? ⟨m.g, m.o, none⟩ = some (.bool false) := by rw [Blk.cell (w := w) hk]; exact x0
  have HSS : Hid (∀ w', Below w.heap.size w w' → (fun w' => w'.cell? ⟨gb, 2, none⟩ = some (.slice ac C.length cc) ∧ w'.cell? ⟨m.g, m.o + 2, none⟩ = some (.slice a m.W.length c)) w') := hide_ (fun w' hb => ⟨by have := (Blk.later (w := w) kb hb).cell 2; simpa using this, by rw [(Blk.later (w := w) hk hb).cell]; exact x2⟩)
  have HS2 : Hid ((fun w' => w'.cell? ⟨gb, 2, none⟩ = some (.slice ac C.length cc) ∧ w'.cell? ⟨m.g, m.o + 2, none⟩ = some (.slice a m.W.length c)) w2) := hide_ ⟨by have := kb2.cell 2; simpa using this, by rw [hkm.cell]; exact x2⟩
  have HFz := hide_ (fun o => hkm.frozen o)
  have HR := hide_ r1
  have HM := hide_ hM
  have HKp : Hid (Kp B w _) := hide_ ((Kp.later ((Below.refl w.heap.size w).drew)).trans hK)
  clear hk x0 x1 x2 r1 hkm hM hK kb kb2 hv hkn h
  go_enter Try.func30, Try.ntmps30
  go_upto_region 1 with fail
  clear i0
  refine wp_region_last 14 (fun w' => w'.cell? ⟨gb, 2, none⟩ = some (.slice ac C.length cc) ∧ w'.cell? ⟨m.g, m.o + 2, none⟩ = some (.slice a m.W.length c)) (by kernel_rfl) (HSS.out _ ((Below.refl w.heap.size w).drew)) (fun hHeld => ?_)
  refine wpAnyF_take [14] (by kernel_rfl) (i := 0) (v := ?vt1) rfl (by kernel_rfl) (by kernel_rfl) (by kernel_rfl) (fun _ _ _ h => h) (Or.inl ⟨by kernel_rfl, ?hyt1⟩) hHeld ?restt1
  case hyt1 => intro w' hSw; (try dsimp only at hSw); go_simp; try with_reducible rfl
  simp only [Act.put]
  refine wpAnyF_take [14] (by kernel_rfl) (i := 1) (v := ?vt2) rfl (by kernel_rfl) (by kernel_rfl) (by kernel_rfl) (fun _ _ _ h => h) (Or.inl ⟨by kernel_rfl, ?hyt2⟩) hHeld ?restt2
  case hyt2 => intro w' hSw; (try dsimp only at hSw); go_simp; try with_reducible rfl
  simp only [Act.put]
  refine wpAnyF_take [14] (by kernel_rfl) (i := 2) (v := ?vt3) rfl (by kernel_rfl) (by kernel_rfl) (by kernel_rfl) (fun _ _ _ h => h) (Or.inl ⟨by kernel_rfl, ?hyt3⟩) hHeld ?restt3
  case hyt3 => intro w' hSw; (try dsimp only at hSw); go_simp; try with_reducible rfl
  simp only [Act.put]
  refine wpAnyF_take [14] (by kernel_rfl) (i := 3) (v := ?vt4) rfl (by kernel_rfl) (by kernel_rfl) (by kernel_rfl) (fun _ _ _ h => h) (Or.inl ⟨by kernel_rfl, ?hyt4⟩) hHeld ?restt4
  case hyt4 => intro w' hSw; (try dsimp only at hSw); go_simp; try with_reducible rfl
  simp only [Act.put]
  refine wpAnyF_take [14] (by kernel_rfl) (i := 4) (v := ?vt5) rfl (by kernel_rfl) (by kernel_rfl) (by kernel_rfl) (fun _ _ _ h => h) (Or.inl ⟨by kernel_rfl, ?hyt5⟩) hHeld ?restt5
  case hyt5 => intro w' hSw; (try dsimp only at hSw); go_simp; try with_reducible rfl
  simp only [Act.put]
  refine wpAnyF_take [14] (by kernel_rfl) (i := 5) (v := ?vt6) rfl (by kernel_rfl) (by kernel_rfl) (by kernel_rfl) (fun _ _ _ h => h) (Or.inl ⟨by kernel_rfl, ?hyt6⟩) hHeld ?restt6
  case hyt6 => intro w' hSw; (try dsimp only at hSw); go_simp; try with_reducible rfl
  simp only [Act.put]
  refine wpAnyF_take [14] (by kernel_rfl) (i := 6) (v := ?vt7) rfl (by kernel_rfl) (by kernel_rfl) (by kernel_rfl) (fun _ _ _ h => h) (Or.inl ⟨by kernel_rfl, ?hyt7⟩) hHeld ?restt7
  case hyt7 => intro w' hSw; (try dsimp only at hSw); go_simp; try with_reducible rfl
  simp only [Act.put]
  refine wpAnyF_take [14] (by kernel_rfl) (i := 7) (v := ?vt8) rfl (by kernel_rfl) (by kernel_rfl) (by kernel_rfl) (fun _ _ _ h => h) (Or.inl ⟨by kernel_rfl, ?hyt8⟩) hHeld ?restt8
  case hyt8 => intro w' hSw; (try dsimp only at hSw); go_simp; try with_reducible rfl
  simp only [Act.put]
  refine wpAnyF_take [14] (by kernel_rfl) (i := 8) (v := ?vt9) rfl (by kernel_rfl) (by kernel_rfl) (by kernel_rfl) (fun _ _ _ h => h) (Or.inl ⟨by kernel_rfl, ?hyt9⟩) hHeld ?restt9
  case hyt9 => intro w' hSw; (try dsimp only at hSw); go_simp; try with_reducible rfl
  simp only [Act.put]
  refine wpAnyF_take [14] (by kernel_rfl) (i := 9) (v := ?vt10) rfl (by kernel_rfl) (by kernel_rfl) (by kernel_rfl) (fun _ _ _ h => h) (Or.inl ⟨by kernel_rfl, ?hyt10⟩) hHeld ?restt10
  case hyt10 => intro w' hSw; (try dsimp only at hSw); go_simp; try with_reducible rfl
  simp only [Act.put]
  refine wpAnyF_ready (rs := [10]) (by kernel_rfl) (by simp) ?_
  refine AllReadyF.cons rfl (fun K hK => ?_) AllReadyF.nil
  go_simp
  refine hK.out _ _ (HSS.out _ (below_to ((Below.refl w.heap.size w).drew) (below1 w.drew _))) (fun hHeld => ?_)
  clear hK K
  refine wpAnyF_ready (rs := [11]) (by kernel_rfl) (by simp) ?_
  refine AllReadyF.cons rfl (fun K hK => ?_) AllReadyF.nil
  refine step_append_run rfl (.tmp 17) (.tmp 23) 29 29 rfl (v := .slice a m.W.length c) (u := .slice (some ⟨w.heap.size, 0, none⟩) 1 1) (by kernel_rfl) (by kernel_rfl) HR.out ?_
  simp only [Act.put]
  refine hK.out _ _ (HS2.out) (fun hHeld => ?_)
  clear hK K
  refine wpAnyF_take [14, 13] (by kernel_rfl) (i := 12) (v := ?vt11) rfl (by kernel_rfl) (by kernel_rfl) (by kernel_rfl) (fun _ _ _ h => h) (Or.inl ⟨by kernel_rfl, ?hyt11⟩) hHeld ?restt11
  case hyt11 => intro w' hSw; (try dsimp only at hSw); go_simp; try with_reducible rfl
  simp only [Act.put]
  refine wpAnyF_take [14] (by kernel_rfl) (i := 13) (v := ?vt12) rfl (by kernel_rfl) (by kernel_rfl) (by kernel_rfl) (fun _ _ _ h => h) (Or.inl ⟨by kernel_rfl, ?hyt12⟩) hHeld ?restt12
  case hyt12 => intro w' hSw; (try dsimp only at hSw); go_simp; try with_reducible rfl
  simp only [Act.put]
  refine wpAnyF_ready (rs := [14]) (by kernel_rfl) (by simp) ?_
  refine AllReadyF.last rfl (fun K hK => ?_)
  have q2 := HS2.out.2; have qz := HFz.out (m.o + 2)
  go_simp
  refine hK.out _ _ ?_
  clear hK K
  refine wpAnyF_done (by kernel_rfl) ?_ _
  clear HR HSS HS2 HFz
  generalize w2.setCell ⟨m.g, m.o + 2, none⟩ (.slice (some ⟨g, 0, none⟩) (m.W.length + 1) cap) = w3 at *
  have n1 := HX3.out.2.1
  have HLy := hide_ (lay_any B gb vT vL C E (M1 ++ ⟨m.g, m.o, false, m.nu, .slice (some ⟨g, 0, none⟩) (m.W.length + 1) cap, m.W ++ [(C.length : Int)]⟩ :: M2) ⟨op, a_, m.nu, 0⟩ w3 hl HM)
  go_wp2_with (go_at_call 36; refine HLy.out.mono ?_; rintro e w4 ⟨rfl, HM4, HK4⟩)
  go_end0
  exact ⟨rfl, hide_ ⟨_, HM4.out⟩, hide_ (HKp.out.trans HK4.out)⟩
set_option maxRecDepth 100000 in
set_option maxHeartbeats 4000000 in
/-- A target whose number is known. -/
theorem layTo_old (B gb : Nat) (vT vL : Value) (C : List In) (E : List Int) (M : List Mk) (m : Mk) (op a_ : Int) (w : World) (hl : C.length ≤ 1000000000) (hm : m ∈ M) (hkn : m.kn = true) (h : Hid (Mb w B gb vT vL C E M)) :
    Calls Try.prog 30 #[.pointer (some ⟨gb, 0, none⟩), .int .i64 op, .int .i64 a_, .pointer (some ⟨m.g, m.o, none⟩)] w fun e w' => e = .returned (.tuple #[]) ∧ Hid (Mb w' B gb vT vL (C ++ [⟨op, a_, m.nu, 0⟩]) E M) ∧ Hid (Kp B w w') := by
  obtain ⟨hg, ⟨xs, hk, x0, x1, x2⟩, ho⟩ := h.out.ms m hm
  rw [hkn] at x0
  have i0 : w.cell? ⟨m.g, m.o, none⟩ = some (.bool true) := by rw [hk.cell]; exact x0
  have i1 : w.cell? ⟨m.g, m.o + 1, none⟩ = some (.int .i64 m.nu) := by rw [hk.cell]; exact x1
  have HLy := hide_ (lay_any B gb vT vL C E M ⟨op, a_, m.nu, 0⟩ w hl h)
  clear hk x0 x1 x2 ho hg hkn hm
  go_enter Try.func30, Try.ntmps30
  go_wp2_with (go_at_call 36; refine HLy.out.mono ?_; rintro e w4 ⟨rfl, HM4, HK4⟩)
  go_end0
  exact ⟨rfl, HM4, HK4⟩
/-! ### Targets filled in -/
def patI (n : Int) (C : List In) (k : Int) : List In := match C[k.toNat]? with
  | some x => C.set k.toNat ⟨x.op, x.a, n, x.c⟩
  | none => C
def patL (n : Int) (W : List Int) (C : List In) : List In := W.foldl (patI n) C
theorem patI_len (n : Int) (C : List In) (k : Int) : (patI n C k).length = C.length := by unfold patI; split <;> simp
theorem patL_len (n : Int) (W : List Int) (C : List In) : (patL n W C).length = C.length := by
  induction W generalizing C with
  | nil => rfl
  | cons k W ih => show (patL n W (patI n C k)).length = _; rw [ih, patI_len]
theorem patL_snoc (n : Int) (W : List Int) (k : Int) (C : List In) : patL n (W ++ [k]) C = patI n (patL n W C) k := by simp [patL]
theorem patL_take {n : Int} {W : List Int} {C : List In} {i : Nat} {k : Nat} {x : In} (hi : W[i]? = some (k : Int)) (hx : (patL n (W.take i) C)[k]? = some x) : patL n (W.take (i + 1)) C = (patL n (W.take i) C).set k ⟨x.op, x.a, n, x.c⟩ := by
  have hl := (List.getElem?_eq_some_iff.1 hi).1
  rw [List.take_succ_eq_append_getElem hl, (List.getElem?_eq_some_iff.1 hi).2, patL_snoc]
  unfold patI
  rw [Int.toNat_natCast, hx]
set_option maxRecDepth 100000 in
set_option maxHeartbeats 4000000 in
theorem set_any (B gb : Nat) (vT vL : Value) (C : List In) (E : List Int) (M1 M2 : List Mk) (m : Mk) (w : World) (hl : C.length ≤ 1000000000) (hw : m.W.length ≤ 1000000000) (hW : Hid (∀ k ∈ m.W, 0 ≤ k ∧ k < (C.length : Int))) (h : Hid (Mb w B gb vT vL C E (M1 ++ m :: M2))) :
    Calls Try.prog 35 #[.pointer (some ⟨gb, 0, none⟩), .pointer (some ⟨m.g, m.o, none⟩)] w fun e w' => e = .returned (.tuple #[]) ∧ Hid (Mb w' B gb vT vL (patL (C.length : Int) m.W C) E (M1 ++ ⟨m.g, m.o, true, (C.length : Int), m.v, m.W⟩ :: M2)) ∧ Hid (Kp B w w') := by
  obtain ⟨⟨xs, hk, x0, x1, x2⟩, hM, hK⟩ := h.out.seal (C.length : Int)
  obtain ⟨vC, vE, kb, hc, -, -⟩ := h.out.bd
  obtain ⟨ac, cc, rfl, -⟩ := hc.row
  have hmm : (⟨m.g, m.o, true, (C.length : Int), m.v, m.W⟩ : Mk) ∈ M1 ++ ⟨m.g, m.o, true, (C.length : Int), m.v, m.W⟩ :: M2 := List.mem_append_right _ (List.mem_cons_self ..)
  obtain ⟨aw, cw, hvw⟩ := (h.out.ms m (List.mem_append_right _ (List.mem_cons_self ..))).2.2.slice
  obtain ⟨w1, hw1⟩ : ∃ wx, wx = (w.setCell ⟨m.g, m.o, none⟩ (.bool true)).setCell ⟨m.g, m.o + 1, none⟩ (.int .i64 (C.length : Int)) := ⟨_, rfl⟩
  rw [← hw1] at hM hK
  have i0 := hk.cell m.o
  have i1 : w.cell? ⟨m.g, m.o + 1, none⟩ = some (.int .i64 m.nu) := (hk.cell (m.o + 1)).trans x1
  rw [x0] at i0
  have iz := fun o => hk.frozen o
  have ib := kb.cell 2
  simp at ib
  obtain ⟨hg1, ⟨ys, hk1, y0, y1, y2⟩, ho1⟩ := hM.ms _ hmm
  have j2 : w1.cell? ⟨m.g, m.o + 2, none⟩ = some (.slice aw m.W.length cw) := by rw [← hvw]; exact (hk1.cell _).trans y2
  have HM1 := hide_ hM
  have HK1 := hide_ hK
  have HMM := hide_ hmm
  have HMw : Hid (∀ w' D, Mb w' B gb vT vL D E (M1 ++ ⟨m.g, m.o, true, (C.length : Int), m.v, m.W⟩ :: M2) → Row .i64 w' aw m.W ∧ w'.cell? ⟨m.g, m.o + 1, none⟩ = some (.int .i64 (C.length : Int))) := hide_ (fun w' D hD => by
    obtain ⟨_, ⟨zs, hz, z0, z1, z2⟩, hzo⟩ := hD.ms _ HMM.out
    have hzo' : IOwn w' B m.v m.W := hzo
    rw [hvw] at hzo'
    exact ⟨hzo'.rowS, (hz.cell _).trans z1⟩)
  clear hM hK hk x0 x1 x2 hk1 y0 y1 y2 ho1 hg1 kb hc hvw hmm h
  go_enter Try.func35, Try.ntmps35
  go_upto_region 1 with fail
  rw [← hw1]
  clear hw1 i0 i1 iz ib
  go_wp2_with fail
  go_loopw [22] (fun x22 wr => ∃ (i : Nat), i ≤ m.W.length ∧ x22 = .int .i64 (i : Int) ∧ Hid (Mb wr B gb vT vL (patL (C.length : Int) (m.W.take i) C) E (M1 ++ ⟨m.g, m.o, true, (C.length : Int), m.v, m.W⟩ :: M2)) ∧ Hid (Kp B w wr)) (fun x22 _ => m.W.length - (intOf x22).toNat)
  case atStart => exact ⟨0, Nat.zero_le _, rfl, HM1, HK1⟩
  case round =>
    obtain ⟨i, hi, rfl, HMq, HKq⟩ := hrel
    generalize wr = wq at *
    clear j2 HM1 HK1
    by_cases hlt : i < m.W.length
    · have hlt' : (i : Int) < m.W.length := by omega
      obtain ⟨k, hwk⟩ : ∃ k : Nat, m.W[i]? = some (k : Int) := by
        have h1 := hW.out _ (List.getElem_mem hlt)
        exact ⟨(m.W[i]'hlt).toNat, by rw [List.getElem?_eq_getElem hlt, Int.toNat_of_nonneg h1.1]⟩
      have hkl : k < C.length := by have h1 := hW.out _ (List.mem_of_getElem? hwk); omega
      obtain ⟨x, hx⟩ : ∃ x, (patL (C.length : Int) (m.W.take i) C)[k]? = some x := ⟨_, List.getElem?_eq_getElem (by rw [patL_len]; exact hkl)⟩
      obtain ⟨gC, cap, vE2, kb2, q2, qz, hMn, hKn⟩ := (HMq.out.later ((Below.refl _ _).drew)).patch hx (C.length : Int)
      have HPt := hide_ (patL_take hwk hx)
      obtain ⟨hrw, hnu⟩ := HMw.out wq _ HMq.out
      obtain ⟨bw, ow, rfl, hrc⟩ : ∃ b o, aw = some ⟨b, o, none⟩ ∧ wq.cell? ⟨b, o + i, none⟩ = some (.int .i64 (k : Int)) := by
        obtain ⟨b, o, e, -, hc⟩ := hrw.open (by omega)
        have h1 := hc i hlt
        rw [List.getD, hwk] at h1
        exact ⟨b, o, e, h1⟩
      have HSS : Hid (∀ w', Below wq.heap.size wq w' → (fun w' => w'.cell? ⟨gb, 2, none⟩ = some (.slice (some ⟨gC, 0, none⟩) (patL (C.length : Int) (m.W.take i) C).length cap) ∧ w'.cell? ⟨m.g, m.o + 1, none⟩ = some (.int .i64 (C.length : Int))) w') := hide_ (fun w' hb => ⟨by have := (Blk.later (w := wq) kb2 hb).cell 2; simpa using this, (HMw.out w' _ (HMq.out.later hb)).2⟩)
      have HQ2 := hide_ q2
      have HQz := hide_ qz
      have HMn := hide_ hMn
      have HKn := hide_ ((Kp.later ((Below.refl wq.heap.size wq).drew)).trans hKn)
      have hkl' : (k : Int) < ((patL (C.length : Int) (m.W.take i) C).length : Int) := by rw [patL_len]; omega
      clear hMn hKn q2 qz kb2 hrw hnu hx hwk hkl
      go_upto_region 4 with fail
      refine wp_region_last 11 (fun w' => w'.cell? ⟨gb, 2, none⟩ = some (.slice (some ⟨gC, 0, none⟩) (patL (C.length : Int) (m.W.take i) C).length cap) ∧ w'.cell? ⟨m.g, m.o + 1, none⟩ = some (.int .i64 (C.length : Int))) (by kernel_rfl) (HSS.out _ ((Below.refl wq.heap.size wq).drew)) (fun hHeld => ?_)
      refine wpAnyF_take [11] (by kernel_rfl) (i := 0) (v := ?vs1) rfl (by kernel_rfl) (by kernel_rfl) (by kernel_rfl) (fun _ _ _ h => h) (Or.inl ⟨by kernel_rfl, ?hys1⟩) hHeld ?rests1
      case hys1 => intro w' hSw; (try dsimp only at hSw); go_simp; try with_reducible rfl
      simp only [Act.put]
      refine wpAnyF_take [11] (by kernel_rfl) (i := 1) (v := ?vs2) rfl (by kernel_rfl) (by kernel_rfl) (by kernel_rfl) (fun _ _ _ h => h) (Or.inl ⟨by kernel_rfl, ?hys2⟩) hHeld ?rests2
      case hys2 => intro w' hSw; (try dsimp only at hSw); go_simp; try with_reducible rfl
      simp only [Act.put]
      refine wpAnyF_take [11] (by kernel_rfl) (i := 2) (v := ?vs3) rfl (by kernel_rfl) (by kernel_rfl) (by kernel_rfl) (fun _ _ _ h => h) (Or.inl ⟨by kernel_rfl, ?hys3⟩) hHeld ?rests3
      case hys3 => intro w' hSw; (try dsimp only at hSw); go_simp; try with_reducible rfl
      simp only [Act.put]
      refine wpAnyF_take [11] (by kernel_rfl) (i := 3) (v := ?vs4) rfl (by kernel_rfl) (by kernel_rfl) (by kernel_rfl) (fun _ _ _ h => h) (Or.inl ⟨by kernel_rfl, ?hys4⟩) hHeld ?rests4
      case hys4 => intro w' hSw; (try dsimp only at hSw); go_simp; try with_reducible rfl
      simp only [Act.put]
      refine wpAnyF_take [11] (by kernel_rfl) (i := 4) (v := ?vs5) rfl (by kernel_rfl) (by kernel_rfl) (by kernel_rfl) (fun _ _ _ h => h) (Or.inl ⟨by kernel_rfl, ?hys5⟩) hHeld ?rests5
      case hys5 => intro w' hSw; (try dsimp only at hSw); go_simp; try with_reducible rfl
      simp only [Act.put]
      refine wpAnyF_take [11] (by kernel_rfl) (i := 5) (v := ?vs6) rfl (by kernel_rfl) (by kernel_rfl) (by kernel_rfl) (fun _ _ _ h => h) (Or.inl ⟨by kernel_rfl, ?hys6⟩) hHeld ?rests6
      case hys6 => intro w' hSw; (try dsimp only at hSw); go_simp; try with_reducible rfl
      simp only [Act.put]
      refine wpAnyF_take [11] (by kernel_rfl) (i := 6) (v := ?vs7) rfl (by kernel_rfl) (by kernel_rfl) (by kernel_rfl) (fun _ _ _ h => h) (Or.inl ⟨by kernel_rfl, ?hys7⟩) hHeld ?rests7
      case hys7 => intro w' hSw; (try dsimp only at hSw); go_simp; try with_reducible rfl
      simp only [Act.put]
      refine wpAnyF_take [11] (by kernel_rfl) (i := 7) (v := ?vs8) rfl (by kernel_rfl) (by kernel_rfl) (by kernel_rfl) (fun _ _ _ h => h) (Or.inl ⟨by kernel_rfl, ?hys8⟩) hHeld ?rests8
      case hys8 => intro w' hSw; (try dsimp only at hSw); go_simp; try with_reducible rfl
      simp only [Act.put]
      refine wpAnyF_take [11] (by kernel_rfl) (i := 8) (v := ?vs9) rfl (by kernel_rfl) (by kernel_rfl) (by kernel_rfl) (fun _ _ _ h => h) (Or.inl ⟨by kernel_rfl, ?hys9⟩) hHeld ?rests9
      case hys9 => intro w' hSw; (try dsimp only at hSw); go_simp; try with_reducible rfl
      simp only [Act.put]
      refine wpAnyF_take [11, 10] (by kernel_rfl) (i := 9) (v := ?vs10) rfl (by kernel_rfl) (by kernel_rfl) (by kernel_rfl) (fun _ _ _ h => h) (Or.inl ⟨by kernel_rfl, ?hys10⟩) hHeld ?rests10
      case hys10 => intro w' hSw; (try dsimp only at hSw); go_simp; try with_reducible rfl
      simp only [Act.put]
      refine wpAnyF_take [11] (by kernel_rfl) (i := 10) (v := ?vs11) rfl (by kernel_rfl) (by kernel_rfl) (by kernel_rfl) (fun _ _ _ h => h) (Or.inl ⟨by kernel_rfl, ?hys11⟩) hHeld ?rests11
      case hys11 => intro w' hSw; (try dsimp only at hSw); go_simp; try with_reducible rfl
      simp only [Act.put]
      refine wpAnyF_ready (rs := [11]) (by kernel_rfl) (by simp) ?_
      refine AllReadyF.last rfl (fun K hK => ?_)
      have q2 := HQ2.out; have qz := HQz.out (k * 4 + 2)
      go_simp
      refine hK.out _ _ ?_
      clear hK K
      refine wpAnyF_done (by kernel_rfl) ?_ _
      clear HSS HQ2 HQz
      go_wp2_with fail
      go_roundw
      case rel => exact ⟨i + 1, by omega, by go_num, hide_ (by rw [HPt.out]; exact HMn.out), hide_ (HKq.out.trans HKn.out)⟩
      case measure => simp [intOf]; omega
    · obtain rfl : i = m.W.length := by omega
      rw [List.take_length] at HMq
      go_wp2_with fail
      go_end0
      exact ⟨rfl, HMq, HKq⟩
end Go.Proofs.Ytepmgbfdmbogiaa
