import Derived.Test.YtcmkdkocponpiaaPart14
import Derived.Test.YtcmkdkocponpiaaPart15

/- Frames: Go, Mark, Pop. -/
namespace Go.Proofs.Ytcmkdkocponpiaa
open Go.RowKit
set_option linter.unusedVariables false

def hdf (f : Fr) (T : List Int) : Fr := ⟨f.r, f.a, f.b, f.e, f.n, f.x, T⟩
theorem frB_hdf (f : Fr) : frB (hdf f []) = hdB f := by simp [frB, hdf, hdB]
theorem set7_hdf (w : World) (g o : Nat) (f : Fr) (T : List Int) (v : Value) : set7 w g o (hdf f T) v = set7 w g o f v := by simp only [set7, hdf]
theorem hdB_hdf (f : Fr) (T : List Int) : hdB (hdf f T) = hdB f := rfl
/-- What Go answers. -/
def GoTo (w : World) (B : Nat) (F : Nat → Prop) (g : Nat) (fs : List Fr) (m h : Int) (f : Fr) (e : Ending) (w' : World) : Prop :=
  (fs = [] ∧ e = .returned (.int .i64 220) ∧ StkTo w B F w' g fs m h) ∨
  (fs ≠ [] ∧ hdB f = false ∧ e = .returned (.int .i64 3) ∧ StkTo w B F w' g fs m h) ∨
  (∃ l y, fs = l ++ [y] ∧ hdB f = true ∧ e = .returned (.int .i64 0) ∧ StkTo w B F w' g (l ++ [hdf f y.T]) m h)
set_option maxRecDepth 100000 in
set_option maxHeartbeats 16000000 in
theorem go_any (w : World) (B : Nat) (F : Nat → Prop) (g : Nat) (fs : List Fr) (m h : Int) (f : Fr) (a : Option Addr) (n0 c : Nat) (hS : Hid (Stk w B F g fs m h)) (hBw : B ≤ w.heap.size) :
    Calls Try.prog 21 #[.pointer (some ⟨g, 0, none⟩), .agg #[.int .i64 f.r, .int .i64 f.a, .int .i64 f.b, .int .i64 f.e, .int .i64 f.n, .int .i64 f.x, .slice a n0 c]] w fun e w' => GoTo w B F g fs m h f e w' := by
  obtain ⟨v, P, hM, hP, hF, hFl⟩ := hS.out
  have HS := hS
  obtain ⟨w1, hw1⟩ : ∃ wx, wx = w.alloc (.cells #[.int .i64 f.r, .int .i64 f.a, .int .i64 f.b, .int .i64 f.e, .int .i64 f.n, .int .i64 f.x, .slice a n0 c] 39) := ⟨_, rfl⟩
  have hB1 : Below w.heap.size w w1 := by rw [hw1]; exact below1 _ _
  have k1 : Blk w1 w.heap.size 39 (frc (f, .slice a n0 c)) := by rw [hw1]; exact Blk.newA w _ _
  have HPm := hide_ hP
  have HF := hide_ hF
  have HFl := hide_ hFl
  have hM1 := hM.later hB1
  have HK1 := hide_ k1
  have HB1 := hide_ hB1
  have j0 := k1.cell 0; have j1 := k1.cell 1; have j2 := k1.cell 2; have j3 := k1.cell 3; have j4 := k1.cell 4; have j5 := k1.cell 5; have j6 := k1.cell 6
  simp [frc] at j0 j1 j2 j3 j4 j5 j6
  clear hS hF hFl hM hP k1 hB1
  rcases List.eq_nil_or_concat P with rfl | ⟨Q, p, rfl⟩
  · obtain ⟨av, cv, rfl, -⟩ := hM1.own.slice
    have HL := hide_ (last_nil g av cv _ _ w1 (hide_ hM1.box))
    clear hM1
    go_enter Try.func21, Try.ntmps21
    go_upto_region 1 with fail
    rw [← hw1]
    clear hw1
    go_wp2_with (go_at_call 33; refine HL.out.mono ?_; rintro e w' ⟨rfl, rfl⟩)
    go_ret
    exact .inl ⟨HPm.out.symm, rfl, HS.out.same HB1.out⟩
  · rw [List.concat_eq_append] at hM1 HPm HF
    obtain ⟨gF, cap, rfl, hn, hm, hbg, hlt, hc, hz, hbk⟩ := hM1.own.last
    unfold maxLen at hm
    have HL := hide_ (last_some g gF Q.length cap _ _ w1 (by omega) (hide_ hM1.box))
    have HN : Hid (fs ≠ []) := hide_ (by rw [← HPm.out]; simp)
    have HM1 := hide_ hM1
    have HW1 := hide_ (with_any f a none n0 c 0 0 w1.drew)
    clear hM1 hc hz hbk hn hm hbg hlt
    go_enter Try.func21, Try.ntmps21
    go_upto_region 1 with fail
    rw [← hw1]
    clear hw1
    go_wp2_with (go_at_call 33; refine HL.out.mono ?_; rintro e w' ⟨rfl, rfl⟩)
    refine HW1.out.mono ?_
    rintro e w2 ⟨rfl, hB2⟩
    have hB12 : Below w1.heap.size w1 w2 := below_to ((Below.refl w1.heap.size w1).drew) hB2
    have HRi : Hid (Calls Try.prog 34 #[.agg #[.int .i64 f.r, .int .i64 f.a, .int .i64 f.b, .int .i64 f.e, .int .i64 f.n, .int .i64 f.x, .slice none 0 0]] w2 fun e w' => e = .returned (.bool (hdB f)) ∧ Below w2.heap.size w2 w') := hide_ (by
      have h := right_any (hdf f []) none 0 w2 (hide_ ⟨.inl ⟨rfl, rfl⟩, fun _ => rfl, Nat.zero_le _⟩)
      rw [frB_hdf] at h
      simp only [hdf, List.length_nil] at h
      exact h)
    clear hB2
    go_wp2_with fail
    refine HRi.out.mono ?_
    rintro e w3 ⟨rfl, hB3⟩
    have hB13 : Below w1.heap.size w1 w3 := below_to hB12 hB3
    cases hf : hdB f with
    | false =>
      have HFf := hide_ hf
      have HB3 := hide_ (below_to HB1.out hB13)
      clear hf hB3 hB12 hB13
      go_wp2_with fail
      go_ret
      exact .inr (.inl ⟨HN.out, HFf.out, rfl, HS.out.same HB3.out⟩)
    | true =>
      have HFf := hide_ hf
      obtain ⟨y, pv⟩ := p
      have hM3 := HM1.out.later hB13
      obtain ⟨at_, ct, hpv, hfa⟩ := (hM3.own.tb (y, pv) (List.mem_append_right _ (List.mem_singleton.2 rfl))).fra
      have hpv' : pv = .slice at_ y.T.length ct := hpv
      subst hpv'
      have HM3 := hide_ hM3
      have HK3 := hide_ (HK1.out.later hB13)
      have HB3 := hide_ (below_to HB1.out hB13)
      have hcl : ∀ w', Below w3.heap.size w3 w' → w'.cell? ⟨gF, Q.length * 7 + 6, none⟩ = some (.slice at_ y.T.length ct) := fun w' hb => by
        exact (HM3.out.later hb).c7.1.2.2.2.2.2.2
      have HSS : Hid (∀ w', Below w3.heap.size w3 w' → (fun w' => w'.cell? ⟨w.heap.size, 0, none⟩ = some (.int .i64 f.r) ∧ w'.cell? ⟨w.heap.size, 1, none⟩ = some (.int .i64 f.a) ∧ w'.cell? ⟨w.heap.size, 2, none⟩ = some (.int .i64 f.b) ∧ w'.cell? ⟨w.heap.size, 3, none⟩ = some (.int .i64 f.e) ∧ w'.cell? ⟨w.heap.size, 4, none⟩ = some (.int .i64 f.n) ∧ w'.cell? ⟨w.heap.size, 5, none⟩ = some (.int .i64 f.x) ∧ w'.cell? ⟨w.heap.size, 6, none⟩ = some (.slice a n0 c) ∧ w'.cell? ⟨gF, Q.length * 7 + 6, none⟩ = some (.slice at_ y.T.length ct)) w') := hide_ (fun w' hb => by
        have k := HK3.out.later hb
        exact ⟨k.cell 0, k.cell 1, k.cell 2, k.cell 3, k.cell 4, k.cell 5, k.cell 6, hcl w' hb⟩)
      have HW3 := hide_ (with_any f a at_ n0 c y.T.length ct w3.drew)
      clear hf hB3 hB12 hB13 hM3 hfa hcl j0 j1 j2 j3 j4 j5 j6
      go_wp2_with fail
      refine wp_region_last 8 (fun w' => w'.cell? ⟨w.heap.size, 0, none⟩ = some (.int .i64 f.r) ∧ w'.cell? ⟨w.heap.size, 1, none⟩ = some (.int .i64 f.a) ∧ w'.cell? ⟨w.heap.size, 2, none⟩ = some (.int .i64 f.b) ∧ w'.cell? ⟨w.heap.size, 3, none⟩ = some (.int .i64 f.e) ∧ w'.cell? ⟨w.heap.size, 4, none⟩ = some (.int .i64 f.n) ∧ w'.cell? ⟨w.heap.size, 5, none⟩ = some (.int .i64 f.x) ∧ w'.cell? ⟨w.heap.size, 6, none⟩ = some (.slice a n0 c) ∧ w'.cell? ⟨gF, Q.length * 7 + 6, none⟩ = some (.slice at_ y.T.length ct)) (by kernel_rfl) (HSS.out _ ((Below.refl w3.heap.size w3).drew)) (fun hHeld => ?_)
      refine wpAnyF_take [8] (by kernel_rfl) (i := 0) (v := ?vf1) rfl (by kernel_rfl) (by kernel_rfl) (by kernel_rfl) (fun _ _ _ h => h) (Or.inl ⟨by kernel_rfl, ?hyf1⟩) hHeld ?restf1
      case hyf1 => intro w' hSw; (try dsimp only at hSw); go_simp; try with_reducible rfl
      simp only [Act.put]
      try dsimp only
      refine wpAnyF_take [8] (by kernel_rfl) (i := 1) (v := ?vf2) rfl (by kernel_rfl) (by kernel_rfl) (by kernel_rfl) (fun _ _ _ h => h) (Or.inl ⟨by kernel_rfl, ?hyf2⟩) hHeld ?restf2
      case hyf2 => intro w' hSw; (try dsimp only at hSw); go_simp; try with_reducible rfl
      simp only [Act.put]
      try dsimp only
      refine wpAnyF_take [8] (by kernel_rfl) (i := 2) (v := ?vf3) rfl (by kernel_rfl) (by kernel_rfl) (by kernel_rfl) (fun _ _ _ h => h) (Or.inl ⟨by kernel_rfl, ?hyf3⟩) hHeld ?restf3
      case hyf3 => intro w' hSw; (try dsimp only at hSw); go_simp; try with_reducible rfl
      simp only [Act.put]
      try dsimp only
      refine wpAnyF_take [8] (by kernel_rfl) (i := 3) (v := ?vf4) rfl (by kernel_rfl) (by kernel_rfl) (by kernel_rfl) (fun _ _ _ h => h) (Or.inl ⟨by kernel_rfl, ?hyf4⟩) hHeld ?restf4
      case hyf4 => intro w' hSw; (try dsimp only at hSw); go_simp; try with_reducible rfl
      simp only [Act.put]
      try dsimp only
      refine wpAnyF_take [8] (by kernel_rfl) (i := 4) (v := ?vf5) rfl (by kernel_rfl) (by kernel_rfl) (by kernel_rfl) (fun _ _ _ h => h) (Or.inl ⟨by kernel_rfl, ?hyf5⟩) hHeld ?restf5
      case hyf5 => intro w' hSw; (try dsimp only at hSw); go_simp; try with_reducible rfl
      simp only [Act.put]
      try dsimp only
      refine wpAnyF_take [8] (by kernel_rfl) (i := 5) (v := ?vf6) rfl (by kernel_rfl) (by kernel_rfl) (by kernel_rfl) (fun _ _ _ h => h) (Or.inl ⟨by kernel_rfl, ?hyf6⟩) hHeld ?restf6
      case hyf6 => intro w' hSw; (try dsimp only at hSw); go_simp; try with_reducible rfl
      simp only [Act.put]
      try dsimp only
      refine wpAnyF_ready (rs := [6]) (by kernel_rfl) (by simp) ?_
      refine AllReadyF.cons rfl (fun K hK => ?_) AllReadyF.nil
      go_simp
      refine HW3.out.mono ?_
      rintro e w4 ⟨rfl, hB4⟩
      have HB4 := hide_ hB4
      clear hB4
      dsimp only
      refine hK.out _ _ (HSS.out _ (below_to ((Below.refl w3.heap.size w3).drew) HB4.out)) (fun hHeld => ?_)
      clear hK K
      refine wpAnyF_take [8] (by kernel_rfl) (i := 7) (v := ?vf7) rfl (by kernel_rfl) (by kernel_rfl) (by kernel_rfl) (fun _ _ _ h => h) (Or.inl ⟨by kernel_rfl, ?hyf7⟩) hHeld ?restf7
      case hyf7 => intro w' hSw; (try dsimp only at hSw); go_simp; try with_reducible rfl
      simp only [Act.put]
      try dsimp only
      refine wpAnyF_ready (rs := [8]) (by kernel_rfl) (by simp) ?_
      refine AllReadyF.last rfl (fun K hK => ?_)
      obtain ⟨⟨i0, i1, i2, i3, i4, i5, i6⟩, hz⟩ := (HM3.out.later (below_to ((Below.refl w3.heap.size w3).drew) HB4.out)).c7
      have y0 := hz (Q.length * 7); have y1 := hz (Q.length * 7 + 1); have y2 := hz (Q.length * 7 + 2); have y3 := hz (Q.length * 7 + 3); have y4 := hz (Q.length * 7 + 4); have y5 := hz (Q.length * 7 + 5); have y6 := hz (Q.length * 7 + 6)
      clear hz hHeld
      go_simp
      refine hK.out _ _ ?_
      clear hK K
      refine wpAnyF_done (by kernel_rfl) ?_ _
      go_wp2_with fail
      go_ret
      refine .inr (.inr ⟨Q.map (·.1), y, by rw [← HPm.out, List.map_append]; rfl, HFf.out, rfl, ?_⟩)
      have hb34 : Below w3.heap.size w3 w4 := below_to ((Below.refl w3.heap.size w3).drew) HB4.out
      have hM4 := HM3.out.later hb34
      have hIt := hM4.own.tb (y, .slice at_ y.T.length ct) (List.mem_append_right _ (List.mem_singleton.2 rfl))
      have hry := HM3.out.rt (y, .slice at_ y.T.length ct) (List.mem_append_right _ (List.mem_singleton.2 rfl))
      have hto := hM4.setLast (Upd.of_below (below_to HB3.out hb34)) HF.out HFl.out hBw (hdf f y.T) (.slice at_ y.T.length ct) hIt (fun k hk => .inr hk) (frB_of (frB_is hry).1 (frB_is hry).2.1 HFf.out)
      rw [set7_hdf] at hto
      exact hto
/-- The last frame's table is another one. -/
theorem StM.markLast {w0 w w' : World} {B g : Nat} {F : Nat → Prop} {gF cap : Nat} {Q : List (Fr × Value)} {p : Fr × Value} {m h : Int} (H : StM w B g (.slice (some ⟨gF, 0, none⟩) (Q.length + 1) cap) (Q ++ [p]) m h)
    (hu : Upd F w0 w) (hF : ∀ k, skB g (.slice (some ⟨gF, 0, none⟩) (Q.length + 1) cap) (Q ++ [p]) k → F k) (hFl : ∀ k, F k → B ≤ k ∧ k < w0.heap.size) (hB0 : B ≤ w0.heap.size)
    (hp : Upd (fun k => p.2.ownBlock = some k) w w') (T : List Int) (v : Value) (hv : IOwn w' B v T) (hn : ∀ k, v.ownBlock = some k → p.2.ownBlock = some k ∨ w.heap.size ≤ k) (hf : frB (hdf p.1 T) = true) :
    StkTo w0 B F (w'.setCell ⟨gF, Q.length * 7 + 6, none⟩ v) g (Q.map (·.1) ++ [hdf p.1 T]) m h := by
  have hx : (Q ++ [p])[Q.length]? = some p := by simp
  have hpm : p ∈ Q ++ [p] := List.mem_append_right _ (List.mem_singleton.2 rfl)
  have hFg : F gF := hF gF (.inr (.inl rfl))
  have hrow : w'.ownsRow B 39 7 (.slice (some ⟨gF, 0, none⟩) (Q.length + 1) cap) (Q ++ [p]).length (cellsG frc (Q ++ [p])) := ownS_upd H.own.row hp (fun k hk e => H.own.ne hpm e hk)
  have hrow2 := row_setc (j := 6) frc_len hrow hx (hdf p.1 T, v) v (by decide) rfl
  rw [set_last] at hrow2
  have hg1 := (Upd.refl (fun k => k = gF) w').set ⟨gF, Q.length * 7 + 6, none⟩ v (.inl rfl)
  obtain ⟨ys, hbF⟩ := ownS_type hrow (show (Value.slice (some ⟨gF, 0, none⟩) (Q.length + 1) cap).ownBlock = some gF from rfl)
  have hv2 : IOwn (w'.setCell ⟨gF, Q.length * 7 + 6, none⟩ v) B v T := hv.upd hg1 (fun k hk e => by subst e; exact hv.notF hbF (by decide) hk)
  have hq : ∀ q ∈ Q, ∀ k, q.2.ownBlock = some k → ¬ p.2.ownBlock = some k := fun q hq k h1 h2 => (List.pairwise_append.1 H.own.ap).2.2 q hq p (List.mem_singleton.2 rfl) k h1 h2
  have hown : FOwn (w'.setCell ⟨gF, Q.length * 7 + 6, none⟩ v) B (.slice (some ⟨gF, 0, none⟩) (Q.length + 1) cap) (Q ++ [(hdf p.1 T, v)]) := by
    refine ⟨hrow2, fun q hqm => ?_, ?_⟩
    · rcases List.mem_append.1 hqm with h1 | h1
      · have h2 := H.own.tb q (List.mem_append_left _ h1)
        have h3 := h2.upd hp (fun k hk => hq q h1 k hk)
        exact h3.upd hg1 (fun k hk e => by subst e; exact h3.notF hbF (by decide) hk)
      · simp only [List.mem_singleton] at h1
        subst h1
        exact hv2
    · rw [List.pairwise_append]
      refine ⟨(List.pairwise_append.1 H.own.ap).1, List.pairwise_singleton _ _, fun q h1 r hr k h2 h3 => ?_⟩
      simp only [List.mem_singleton] at hr
      subst hr
      rcases hn k h3 with h4 | h4
      · exact hq q h1 k h2 h4
      · have := ((H.own.tb q (List.mem_append_left _ h1)).lies h2).2
        omega
  have hgb : ¬ p.2.ownBlock = some g := (H.own.tb p hpm).notF H.box (by decide)
  have hb : Blk (w'.setCell ⟨gF, Q.length * 7 + 6, none⟩ v) g 71 [.slice (some ⟨gF, 0, none⟩) (Q.length + 1) cap, .int .i64 m, .int .i64 h] :=
    (H.box.upd hp hgb).upd hg1 (fun e => by subst e; exact H.own.rowNe H.box (by decide) rfl)
  have hM : StM (w'.setCell ⟨gF, Q.length * 7 + 6, none⟩ v) B g (.slice (some ⟨gF, 0, none⟩) (Q.length + 1) cap) (Q ++ [(hdf p.1 T, v)]) m h :=
    ⟨hb, hown, H.bg, H.hm, by have := H.hl; simp at this ⊢; exact this, by have := H.hh; simp at this ⊢; exact this, fun q hq => by
      rcases List.mem_append.1 hq with hq | hq
      · exact H.rt q (List.mem_append_left _ hq)
      · simp only [List.mem_singleton] at hq
        subst hq
        exact hf⟩
  have hFp : ∀ k, p.2.ownBlock = some k → F k := fun k hk => hF k (.inr (.inr ⟨p, hpm, hk⟩))
  have hto := hM.to ((hu.trans hp (fun k _ e => hFp k e)).trans hg1 (fun k _ e => by subst e; exact hFg)) hB0 hFl (fun k hk => by
    rcases hk with hk | hk | ⟨q, hq, hk⟩
    · exact .inl (hF k (.inl hk))
    · exact .inl (hF k (.inr (.inl hk)))
    · rcases List.mem_append.1 hq with hq | hq
      · exact .inl (hF k (.inr (.inr ⟨q, List.mem_append_left _ hq, hk⟩)))
      · simp only [List.mem_singleton] at hq
        subst hq
        rcases hn k hk with h3 | h3
        · exact .inl (hFp k h3)
        · exact .inr (Nat.le_trans hu.size h3))
  rw [List.map_append] at hto
  exact hto
/-- What Mark answers. -/
def MarkTo (w : World) (B : Nat) (F : Nat → Prop) (g : Nat) (fs : List Fr) (m h : Int) (x : Int) (e : Ending) (w' : World) : Prop :=
  (fs = [] ∧ e = .returned (.int .i64 220) ∧ StkTo w B F w' g fs m h) ∨
  (fs ≠ [] ∧ posB x = false ∧ e = .returned (.int .i64 3) ∧ StkTo w B F w' g fs m h) ∨
  (fs ≠ [] ∧ posB x = true ∧ (lastT fs).length = 1048576 ∧ e = .returned (.int .i64 5) ∧ StkTo w B F w' g fs m h) ∨
  (∃ l y, fs = l ++ [y] ∧ posB x = true ∧ y.T.length < 1048576 ∧ e = .returned (.int .i64 0) ∧ StkTo w B F w' g (l ++ [hdf y (y.T ++ [x])]) m h)
set_option maxRecDepth 100000 in
set_option maxHeartbeats 16000000 in
theorem mark_any (w : World) (B : Nat) (F : Nat → Prop) (g : Nat) (fs : List Fr) (m h : Int) (x : Int) (hS : Hid (Stk w B F g fs m h)) (hBw : B ≤ w.heap.size) :
    Calls Try.prog 23 #[.pointer (some ⟨g, 0, none⟩), .int .i64 x] w fun e w' => MarkTo w B F g fs m h x e w' := by
  obtain ⟨v, P, hM, hP, hF, hFl⟩ := hS.out
  have HS := hS
  have HPm := hide_ hP
  have HF := hide_ hF
  have HFl := hide_ hFl
  clear hS hF hFl hP
  rcases List.eq_nil_or_concat P with rfl | ⟨Q, p, rfl⟩
  · obtain ⟨av, cv, rfl, -⟩ := hM.own.slice
    have HL := hide_ (last_nil g av cv _ _ w (hide_ hM.box))
    clear hM
    go_enter Try.func23, Try.ntmps23
    go_wp2_with (go_at_call 33; refine HL.out.mono ?_; rintro e w' ⟨rfl, rfl⟩)
    go_ret
    exact .inl ⟨HPm.out.symm, rfl, HS.out.same (Below.refl _ _)⟩
  · rw [List.concat_eq_append] at hM HPm HF
    obtain ⟨gF, cap, rfl, hn, hm, hbg, hlt, hc, hz, hbk⟩ := hM.own.last
    obtain ⟨f, pv⟩ := p
    have hpm : (f, pv) ∈ Q ++ [(f, pv)] := List.mem_append_right _ (List.mem_singleton.2 rfl)
    obtain ⟨at_, ct, hpv, hfa⟩ := (hM.own.tb (f, pv) hpm).fra
    have hpv' : pv = .slice at_ f.T.length ct := hpv
    subst hpv'
    have hrt := hM.rt _ hpm
    have hrt1 : f.T.length ≤ 1048576 := (frB_is hrt).1
    have HRt := hide_ hrt
    unfold maxLen at hm
    have HL := hide_ (last_some g gF Q.length cap _ _ w (by omega) (hide_ hM.box))
    have HE : Hid (lastT fs = f.T) := hide_ (by rw [← HPm.out, List.map_append]; exact lastT_app _ _)
    have HN : Hid (fs ≠ []) := hide_ (by rw [← HPm.out]; simp)
    have i6 := hc 6 (by decide)
    have y6 := hz (Q.length * 7 + 6)
    simp [frc] at i6
    have HM := hide_ hM
    have HPo := hide_ (pos_any x w.drew)
    have HBs : Hid (Below w.heap.size w w.drew) := hide_ (Below.refl _ _).drew
    clear hM hc hz hbk hfa hn hm hbg hlt hrt hpv
    cases hp : posB x with
    | false =>
      rw [hp] at HPo
      have HP := hide_ hp
      clear hp
      go_enter Try.func23, Try.ntmps23
      go_wp2_with (first | (go_at_call 33; refine HL.out.mono ?_; rintro e w' ⟨rfl, rfl⟩) | (go_at_call 38; refine HPo.out.mono ?_; rintro e w' ⟨rfl, rfl⟩))
      go_ret
      exact .inr (.inl ⟨HN.out, HP.out, rfl, HS.out.same HBs.out⟩)
    | true =>
      rw [hp] at HPo
      have HP := hide_ hp
      clear hp
      by_cases hl : f.T.length = 1048576
      · have HLn := hide_ hl
        have hl' : ((f.T.length : Int) == 1048576) = true := by rw [hl]; rfl
        clear hl
        go_enter Try.func23, Try.ntmps23
        go_wp2_with (first | (go_at_call 33; refine HL.out.mono ?_; rintro e w' ⟨rfl, rfl⟩) | (go_at_call 38; refine HPo.out.mono ?_; rintro e w' ⟨rfl, rfl⟩))
        go_ret
        exact .inr (.inr (.inl ⟨HN.out, HP.out, by rw [HE.out]; exact HLn.out, rfl, HS.out.same HBs.out⟩))
      · have hl' : ((f.T.length : Int) == 1048576) = false := by simp; omega
        have HLn : Hid (f.T.length < 1048576) := hide_ (by omega)
        clear hl
        have HMd := hide_ (HM.out.later HBs.out)
        obtain ⟨gT, capT, w4, hr, ho, hu, hgT⟩ := (HMd.out.own.tb _ hpm).push x (by show f.T.length ≤ _; omega) (by show B ≤ w.heap.size; exact hBw)
        have HR := hide_ hr
        have HO := hide_ ho
        have HU := hide_ hu
        have HG := hide_ hgT
        have hrow : w4.ownsRow B 39 7 (.slice (some ⟨gF, 0, none⟩) (Q.length + 1) cap) (Q ++ [(f, Value.slice at_ f.T.length ct)]).length (cellsG frc (Q ++ [(f, Value.slice at_ f.T.length ct)])) := ownS_upd HMd.out.own.row hu (fun k hk e => HMd.out.own.ne hpm e hk)
        obtain ⟨ys, hbF⟩ := ownS_type hrow (show (Value.slice (some ⟨gF, 0, none⟩) (Q.length + 1) cap).ownBlock = some gF from rfl)
        obtain ⟨g5, cap5, ys5, he5, -, -, -, -, ht5, hk5⟩ := ownS_blk hrow (by simp)
        injection he5 with he1 _ _
        injection he1 with he1
        injection he1 with he1 _ _
        subst he1
        have k6 := hk5.cell (Q.length * 7 + 6)
        have z6 := hk5.frozen (Q.length * 7 + 6)
        have e6 : ys5[Q.length * 7 + 6]? = some (.slice at_ f.T.length ct) := by
          have hx : (Q ++ [(f, Value.slice at_ f.T.length ct)])[Q.length]? = some (f, .slice at_ f.T.length ct) := by simp
          have h1 := cellsG_at frc_len _ Q.length 6 _ hx (by decide)
          rw [← ht5, List.getElem?_take, if_pos (by simp; omega)] at h1
          exact h1
        rw [e6] at k6
        clear hr ho hu hgT hrow hbF ht5 hk5 e6
        go_enter Try.func23, Try.ntmps23
        go_upto_region 8 with (first | (go_at_call 33; refine HL.out.mono ?_; rintro e w' ⟨rfl, rfl⟩) | (go_at_call 38; refine HPo.out.mono ?_; rintro e w' ⟨rfl, rfl⟩) | fail)
        go_wp2_with (first | (at_builtin; refine wpList_append_run rfl (.tmp 26) (.tmp 28) 37 37 rfl rfl rfl HR.out ?_) | fail)
        go_ret
        have h4 : frB (hdf f (f.T ++ [x])) = true := by
          obtain ⟨r1, r2, r3⟩ := frB_is HRt.out
          exact frB_of (by show (f.T ++ [x]).length ≤ _; have := HLn.out; simp; omega) (fun y hy => by
            rcases List.mem_append.1 (show y ∈ f.T ++ [x] from hy) with hy | hy
            · exact r2 y hy
            · simp only [List.mem_singleton] at hy
              subst hy
              exact HP.out) r3
        exact .inr (.inr (.inr ⟨Q.map (·.1), f, by rw [← HPm.out, List.map_append]; rfl, HP.out, HLn.out, rfl, HMd.out.markLast (Upd.of_below HBs.out) HF.out HFl.out hBw HU.out (f.T ++ [x]) (.slice (some ⟨gT, 0, none⟩) (f.T.length + 1) capT) HO.out (fun k hk => by
          have hk' : gT = k := own_is hk
          subst hk'
          exact HG.out) h4⟩))
end Go.Proofs.Ytcmkdkocponpiaa

/- mortiseref22: Mark. -/
namespace Go.Proofs.Ytcmkdkocponpiaa
open Go.RowKit
set_option linter.unusedVariables false

theorem RSt.markLast {w0 w w' : World} {B g : Nat} {F : Nat → Prop} {gF cap : Nat} {Q : List (Fr × Value)} {p : Fr × Value} {m h : Int} (H : RSt w B g (.slice (some ⟨gF, 0, none⟩) (Q.length + 1) cap) (Q ++ [p]) m h)
    (hu : Upd F w0 w) (hF : ∀ k, skB g (.slice (some ⟨gF, 0, none⟩) (Q.length + 1) cap) (Q ++ [p]) k → F k) (hFl : ∀ k, F k → B ≤ k ∧ k < w0.heap.size) (hB0 : B ≤ w0.heap.size)
    (hp : Upd (fun k => p.2.ownBlock = some k) w w') (T : List Int) (v : Value) (hv : IOwn w' B v T) (hn : ∀ k, v.ownBlock = some k → p.2.ownBlock = some k ∨ w.heap.size ≤ k) (hf : frB (hdf p.1 T) = true) :
    RSkTo w0 B F (w'.setCell ⟨gF, Q.length * 7 + 6, none⟩ v) g (Q.map (·.1) ++ [hdf p.1 T]) m h := by
  have hx : (Q ++ [p])[Q.length]? = some p := by simp
  have hpm : p ∈ Q ++ [p] := List.mem_append_right _ (List.mem_singleton.2 rfl)
  have hFg : F gF := hF gF (.inr (.inl rfl))
  have hrow : w'.ownsRow B 39 7 (.slice (some ⟨gF, 0, none⟩) (Q.length + 1) cap) (Q ++ [p]).length (cellsG frc (Q ++ [p])) := ownS_upd H.own.row hp (fun k hk e => H.own.ne hpm e hk)
  have hrow2 := row_setc (j := 6) frc_len hrow hx (hdf p.1 T, v) v (by decide) rfl
  rw [set_last] at hrow2
  have hg1 := (Upd.refl (fun k => k = gF) w').set ⟨gF, Q.length * 7 + 6, none⟩ v (.inl rfl)
  obtain ⟨ys, hbF⟩ := ownS_type hrow (show (Value.slice (some ⟨gF, 0, none⟩) (Q.length + 1) cap).ownBlock = some gF from rfl)
  have hv2 : IOwn (w'.setCell ⟨gF, Q.length * 7 + 6, none⟩ v) B v T := hv.upd hg1 (fun k hk e => by subst e; exact hv.notF hbF (by decide) hk)
  have hq : ∀ q ∈ Q, ∀ k, q.2.ownBlock = some k → ¬ p.2.ownBlock = some k := fun q hq k h1 h2 => (List.pairwise_append.1 H.own.ap).2.2 q hq p (List.mem_singleton.2 rfl) k h1 h2
  have hown : FOwn (w'.setCell ⟨gF, Q.length * 7 + 6, none⟩ v) B (.slice (some ⟨gF, 0, none⟩) (Q.length + 1) cap) (Q ++ [(hdf p.1 T, v)]) := by
    refine ⟨hrow2, fun q hqm => ?_, ?_⟩
    · rcases List.mem_append.1 hqm with h1 | h1
      · have h2 := H.own.tb q (List.mem_append_left _ h1)
        have h3 := h2.upd hp (fun k hk => hq q h1 k hk)
        exact h3.upd hg1 (fun k hk e => by subst e; exact h3.notF hbF (by decide) hk)
      · simp only [List.mem_singleton] at h1
        subst h1
        exact hv2
    · rw [List.pairwise_append]
      refine ⟨(List.pairwise_append.1 H.own.ap).1, List.pairwise_singleton _ _, fun q h1 r hr k h2 h3 => ?_⟩
      simp only [List.mem_singleton] at hr
      subst hr
      rcases hn k h3 with h4 | h4
      · exact hq q h1 k h2 h4
      · have := ((H.own.tb q (List.mem_append_left _ h1)).lies h2).2
        omega
  have hgb : ¬ p.2.ownBlock = some g := (H.own.tb p hpm).notF H.box (by decide)
  have hb : Blk (w'.setCell ⟨gF, Q.length * 7 + 6, none⟩ v) g 95 [.slice (some ⟨gF, 0, none⟩) (Q.length + 1) cap, .int .i64 m, .int .i64 h] :=
    (H.box.upd hp hgb).upd hg1 (fun e => by subst e; exact H.own.rowNe H.box (by decide) rfl)
  have hM : RSt (w'.setCell ⟨gF, Q.length * 7 + 6, none⟩ v) B g (.slice (some ⟨gF, 0, none⟩) (Q.length + 1) cap) (Q ++ [(hdf p.1 T, v)]) m h :=
    ⟨hb, hown, H.bg, H.hm, by have := H.hl; simp at this ⊢; exact this, by have := H.hh; simp at this ⊢; exact this, fun q hq => by
      rcases List.mem_append.1 hq with hq | hq
      · exact H.rt q (List.mem_append_left _ hq)
      · simp only [List.mem_singleton] at hq
        subst hq
        exact hf⟩
  have hFp : ∀ k, p.2.ownBlock = some k → F k := fun k hk => hF k (.inr (.inr ⟨p, hpm, hk⟩))
  have hto := hM.to ((hu.trans hp (fun k _ e => hFp k e)).trans hg1 (fun k _ e => by subst e; exact hFg)) hB0 hFl (fun k hk => by
    rcases hk with hk | hk | ⟨q, hq, hk⟩
    · exact .inl (hF k (.inl hk))
    · exact .inl (hF k (.inr (.inl hk)))
    · rcases List.mem_append.1 hq with hq | hq
      · exact .inl (hF k (.inr (.inr ⟨q, List.mem_append_left _ hq, hk⟩)))
      · simp only [List.mem_singleton] at hq
        subst hq
        rcases hn k hk with h3 | h3
        · exact .inl (hFp k h3)
        · exact .inr (Nat.le_trans hu.size h3))
  rw [List.map_append] at hto
  exact hto
/-- What Mark answers. -/
def RMarkTo (w : World) (B : Nat) (F : Nat → Prop) (g : Nat) (fs : List Fr) (m h : Int) (x : Int) (e : Ending) (w' : World) : Prop :=
  (fs = [] ∧ e = .returned (.int .i64 220) ∧ RSkTo w B F w' g fs m h) ∨
  (fs ≠ [] ∧ posB x = false ∧ e = .returned (.int .i64 3) ∧ RSkTo w B F w' g fs m h) ∨
  (fs ≠ [] ∧ posB x = true ∧ (lastT fs).length = 1048576 ∧ e = .returned (.int .i64 5) ∧ RSkTo w B F w' g fs m h) ∨
  (∃ l y, fs = l ++ [y] ∧ posB x = true ∧ y.T.length < 1048576 ∧ e = .returned (.int .i64 0) ∧ RSkTo w B F w' g (l ++ [hdf y (y.T ++ [x])]) m h)
set_option maxRecDepth 100000 in
set_option maxHeartbeats 16000000 in
theorem rsmark_any (w : World) (B : Nat) (F : Nat → Prop) (g : Nat) (fs : List Fr) (m h : Int) (x : Int) (hS : Hid (RSk w B F g fs m h)) (hBw : B ≤ w.heap.size) :
    Calls Try.prog 61 #[.pointer (some ⟨g, 0, none⟩), .int .i64 x] w fun e w' => RMarkTo w B F g fs m h x e w' := by
  obtain ⟨v, P, hM, hP, hF, hFl⟩ := hS.out
  have HS := hS
  have HPm := hide_ hP
  have HF := hide_ hF
  have HFl := hide_ hFl
  clear hS hF hFl hP
  rcases List.eq_nil_or_concat P with rfl | ⟨Q, p, rfl⟩
  · obtain ⟨av, cv, rfl, -⟩ := hM.own.slice
    have q0 := hM.box.cell 0
    simp at q0
    clear hM
    go_enter Try.func61, Try.ntmps61
    go_wp2_with fail
    go_ret
    exact .inl ⟨HPm.out.symm, rfl, HS.out.same (Below.refl _ _)⟩
  · rw [List.concat_eq_append] at hM HPm HF
    obtain ⟨gF, cap, rfl, hn, hm, hbg, hlt, hc, hz, hbk⟩ := hM.own.last
    obtain ⟨f, pv⟩ := p
    have hpm : (f, pv) ∈ Q ++ [(f, pv)] := List.mem_append_right _ (List.mem_singleton.2 rfl)
    obtain ⟨at_, ct, hpv, hfa⟩ := (hM.own.tb (f, pv) hpm).fra
    have hpv' : pv = .slice at_ f.T.length ct := hpv
    subst hpv'
    have hrt := hM.rt _ hpm
    have hrt1 : f.T.length ≤ 1048576 := (frB_is hrt).1
    have HRt := hide_ hrt
    unfold maxLen at hm
    have q0 := hM.box.cell 0
    simp at q0
    have hq0 : ((Q.length : Int) + 1 == 0) = false := by simp; omega
    have hqi := i64w (Q.length : Int) (by omega)
    have hqlt : (Q.length : Int) < (Q.length : Int) + 1 := by omega
    have HE : Hid (lastT fs = f.T) := hide_ (by rw [← HPm.out, List.map_append]; exact lastT_app _ _)
    have HN : Hid (fs ≠ []) := hide_ (by rw [← HPm.out]; simp)
    have i6 := hc 6 (by decide)
    have y6 := hz (Q.length * 7 + 6)
    simp [frc] at i6
    have HM := hide_ hM
    have HPo : Hid (Calls Try.prog 53 #[.int .i64 x, .int .i64 0, .int .i64 4611686018427387904] w.drew fun e w' => e = .returned (.bool (posB x)) ∧ w.drew = w') := hide_ (in_any x 0 4611686018427387904 w.drew)
    have HBs : Hid (Below w.heap.size w w.drew) := hide_ (Below.refl _ _).drew
    clear hM hc hz hbk hfa hn hm hbg hlt hrt hpv
    cases hp : posB x with
    | false =>
      rw [hp] at HPo
      have HP := hide_ hp
      clear hp
      go_enter Try.func61, Try.ntmps61
      go_wp2_with fail
      go_region
      go_wp2_with (go_at_call 53; refine HPo.out.mono ?_; rintro e w' ⟨rfl, rfl⟩)
      go_ret
      exact .inr (.inl ⟨HN.out, HP.out, rfl, HS.out.same HBs.out⟩)
    | true =>
      rw [hp] at HPo
      have HP := hide_ hp
      clear hp
      by_cases hl : f.T.length = 1048576
      · have HLn := hide_ hl
        have hl' : decide (1048576 ≤ (f.T.length : Int)) = true := decide_eq_true (by omega)
        clear hl
        go_enter Try.func61, Try.ntmps61
        go_wp2_with fail
        go_region
        go_wp2_with (go_at_call 53; refine HPo.out.mono ?_; rintro e w' ⟨rfl, rfl⟩)
        go_ret
        exact .inr (.inr (.inl ⟨HN.out, HP.out, by rw [HE.out]; exact HLn.out, rfl, HS.out.same HBs.out⟩))
      · have hl' : decide (1048576 ≤ (f.T.length : Int)) = false := decide_eq_false (by omega)
        have HLn : Hid (f.T.length < 1048576) := hide_ (by omega)
        clear hl
        have HMd := hide_ (HM.out.later HBs.out)
        obtain ⟨gT, capT, w4, hr, ho, hu, hgT⟩ := (HMd.out.own.tb _ hpm).push x (by show f.T.length ≤ _; omega) (by show B ≤ w.heap.size; exact hBw)
        have HR := hide_ hr
        have HO := hide_ ho
        have HU := hide_ hu
        have HG := hide_ hgT
        have hrow : w4.ownsRow B 39 7 (.slice (some ⟨gF, 0, none⟩) (Q.length + 1) cap) (Q ++ [(f, Value.slice at_ f.T.length ct)]).length (cellsG frc (Q ++ [(f, Value.slice at_ f.T.length ct)])) := ownS_upd HMd.out.own.row hu (fun k hk e => HMd.out.own.ne hpm e hk)
        obtain ⟨ys, hbF⟩ := ownS_type hrow (show (Value.slice (some ⟨gF, 0, none⟩) (Q.length + 1) cap).ownBlock = some gF from rfl)
        obtain ⟨g5, cap5, ys5, he5, -, -, -, -, ht5, hk5⟩ := ownS_blk hrow (by simp)
        injection he5 with he1 he2 he3
        injection he1 with he1
        injection he1 with he1 _ _
        subst he1
        clear he2 he3
        have k6 := hk5.cell (Q.length * 7 + 6)
        have z6 := hk5.frozen (Q.length * 7 + 6)
        have e6 : ys5[Q.length * 7 + 6]? = some (.slice at_ f.T.length ct) := by
          have hx : (Q ++ [(f, Value.slice at_ f.T.length ct)])[Q.length]? = some (f, .slice at_ f.T.length ct) := by simp
          have h1 := cellsG_at frc_len _ Q.length 6 _ hx (by decide)
          rw [← ht5, List.getElem?_take, if_pos (by simp; omega)] at h1
          exact h1
        rw [e6] at k6
        clear hr ho hu hgT hrow hbF ht5 hk5 e6
        go_enter Try.func61, Try.ntmps61
        go_wp2_with fail
        go_region
        go_upto_region 8 with (first | (go_at_call 53; refine HPo.out.mono ?_; rintro e w' ⟨rfl, rfl⟩) | fail)
        go_wp2_with (first | (at_builtin; refine wpList_append_run rfl (.tmp 36) (.tmp 38) 37 37 rfl rfl rfl HR.out ?_) | fail)
        go_ret
        have h4 : frB (hdf f (f.T ++ [x])) = true := by
          obtain ⟨r1, r2, r3⟩ := frB_is HRt.out
          exact frB_of (by show (f.T ++ [x]).length ≤ _; have := HLn.out; simp; omega) (fun y hy => by
            rcases List.mem_append.1 (show y ∈ f.T ++ [x] from hy) with hy | hy
            · exact r2 y hy
            · simp only [List.mem_singleton] at hy
              subst hy
              exact HP.out) r3
        exact .inr (.inr (.inr ⟨Q.map (·.1), f, by rw [← HPm.out, List.map_append]; rfl, HP.out, HLn.out, rfl, HMd.out.markLast (Upd.of_below HBs.out) HF.out HFl.out hBw HU.out (f.T ++ [x]) (.slice (some ⟨gT, 0, none⟩) (f.T.length + 1) capT) HO.out (fun k hk => by
          have hk' : gT = k := own_is hk
          subst hk'
          exact HG.out) h4⟩))
end Go.Proofs.Ytcmkdkocponpiaa

/- mortiseref22: Go. -/
namespace Go.Proofs.Ytcmkdkocponpiaa
open Go.RowKit
set_option linter.unusedVariables false

theorem RSt.c7 {w : World} {B g gF cap : Nat} {Q : List (Fr × Value)} {f : Fr} {v : Value} {m h : Int} (H : RSt w B g (.slice (some ⟨gF, 0, none⟩) (Q.length + 1) cap) (Q ++ [(f, v)]) m h) :
    (w.cell? ⟨gF, Q.length * 7, none⟩ = some (.int .i64 f.r) ∧ w.cell? ⟨gF, Q.length * 7 + 1, none⟩ = some (.int .i64 f.a) ∧ w.cell? ⟨gF, Q.length * 7 + 2, none⟩ = some (.int .i64 f.b) ∧ w.cell? ⟨gF, Q.length * 7 + 3, none⟩ = some (.int .i64 f.e) ∧ w.cell? ⟨gF, Q.length * 7 + 4, none⟩ = some (.int .i64 f.n) ∧ w.cell? ⟨gF, Q.length * 7 + 5, none⟩ = some (.int .i64 f.x) ∧ w.cell? ⟨gF, Q.length * 7 + 6, none⟩ = some v) ∧ ∀ o, w.frozen? ⟨gF, o, none⟩ = false := by
  obtain ⟨gF', cap', he, -, -, -, -, hc, hz, -⟩ := H.own.last
  injection he with he1 he2 he3
  injection he1 with he1
  injection he1 with he1 _ _
  subst he1
  exact ⟨⟨hc 0 (by decide), hc 1 (by decide), hc 2 (by decide), hc 3 (by decide), hc 4 (by decide), hc 5 (by decide), hc 6 (by decide)⟩, hz⟩
/-- What Go answers. -/
def RGoTo (w : World) (B : Nat) (F : Nat → Prop) (g : Nat) (fs : List Fr) (m h : Int) (f : Fr) (e : Ending) (w' : World) : Prop :=
  (fs = [] ∧ e = .returned (.int .i64 220) ∧ RSkTo w B F w' g fs m h) ∨
  (fs ≠ [] ∧ hdB f = false ∧ e = .returned (.int .i64 3) ∧ RSkTo w B F w' g fs m h) ∨
  (∃ l y, fs = l ++ [y] ∧ hdB f = true ∧ e = .returned (.int .i64 0) ∧ RSkTo w B F w' g (l ++ [hdf f y.T]) m h)
set_option maxRecDepth 100000 in
set_option maxHeartbeats 16000000 in
theorem rgo_any (w : World) (B : Nat) (F : Nat → Prop) (g : Nat) (fs : List Fr) (m h : Int) (f : Fr) (a : Option Addr) (n0 c : Nat) (hS : Hid (RSk w B F g fs m h)) (hBw : B ≤ w.heap.size) :
    Calls Try.prog 60 #[.pointer (some ⟨g, 0, none⟩), .agg #[.int .i64 f.r, .int .i64 f.a, .int .i64 f.b, .int .i64 f.e, .int .i64 f.n, .int .i64 f.x, .slice a n0 c]] w fun e w' => RGoTo w B F g fs m h f e w' := by
  obtain ⟨v, P, hM, hP, hF, hFl⟩ := hS.out
  have HS := hS
  obtain ⟨w1, hw1⟩ : ∃ wx, wx = w.alloc (.cells #[.int .i64 f.r, .int .i64 f.a, .int .i64 f.b, .int .i64 f.e, .int .i64 f.n, .int .i64 f.x, .slice a n0 c] 39) := ⟨_, rfl⟩
  have hB1 : Below w.heap.size w w1 := by rw [hw1]; exact below1 _ _
  have k1 : Blk w1 w.heap.size 39 (frc (f, .slice a n0 c)) := by rw [hw1]; exact Blk.newA w _ _
  have HPm := hide_ hP
  have HF := hide_ hF
  have HFl := hide_ hFl
  have hM1 := hM.later hB1
  have HB1 := hide_ hB1
  have j6 := k1.cell 6; have y6 := k1.frozen 6
  simp [frc] at j6
  have HGW : Hid (∀ k, skB g v P k → k < w.heap.size) := hide_ (fun k hk => (hFl k (hF k hk)).2)
  have hK2 := k1.set 6 (.slice none 0 0)
  have hu2 := (Upd.refl (fun k => k = w.heap.size) w1).set ⟨w.heap.size, 6, none⟩ (.slice none 0 0) (.inl rfl)
  have hB2 := below_set hB1 w.heap.size 6 (.slice none 0 0) (Nat.le_refl _)
  have hM2 := hM1.upd hu2 (fun k hk e => by have := HGW.out k hk; omega)
  obtain ⟨w2, hw2⟩ : ∃ w2, w2 = w1.setCell ⟨w.heap.size, 6, none⟩ (.slice none 0 0) := ⟨_, rfl⟩
  rw [← hw2] at hK2 hB2 hM2
  have HK2 : Hid (Blk w2 w.heap.size 39 (frc (f, .slice none 0 0))) := hide_ (by simpa [frc] using hK2)
  have HB2 := hide_ hB2
  have HM2 := hide_ hM2
  clear hS hF hFl hM hP k1 hB1 hu2 hK2 hB2 hM2
  rcases List.eq_nil_or_concat P with rfl | ⟨Q, p, rfl⟩
  · obtain ⟨av, cv, rfl, -⟩ := hM1.own.slice
    have q0 := hM1.box.cell 0
    simp at q0
    clear hM1 j6 y6 hw2
    go_enter Try.func60, Try.ntmps60
    go_upto_region 1 with fail
    rw [← hw1]
    clear hw1
    go_wp2_with fail
    go_ret
    exact .inl ⟨HPm.out.symm, rfl, HS.out.same HB1.out⟩
  · rw [List.concat_eq_append] at hM1 HPm HF HM2 HGW
    obtain ⟨gF, cap, rfl, hn, hm, hbg, hlt, hc, hz, hbk⟩ := hM1.own.last
    unfold maxLen at hm
    have HN : Hid (fs ≠ []) := hide_ (by rw [← HPm.out]; simp)
    have q0 := hM1.box.cell 0
    simp at q0
    have hq0 : ((Q.length : Int) + 1 == 0) = false := by simp; omega
    have hqi := i64w (Q.length : Int) (by omega)
    have hqlt : (Q.length : Int) < (Q.length : Int) + 1 := by omega
    clear hM1 hc hz hbk hn hm hbg hlt
    go_enter Try.func60, Try.ntmps60
    go_upto_region 1 with fail
    rw [← hw1]
    clear hw1
    go_upto_region 4 with fail
    rw [← hw2]
    clear hw2 j6 y6 q0
    have HRi : Hid (Calls Try.prog 73 #[.agg #[.int .i64 f.r, .int .i64 f.a, .int .i64 f.b, .int .i64 f.e, .int .i64 f.n, .int .i64 f.x, .slice none 0 0]] w2 fun e w' => e = .returned (.bool (hdB f)) ∧ Below w2.heap.size w2 w') := hide_ (by
      have h := rright_any (hdf f []) none 0 w2 (hide_ ⟨.inl ⟨rfl, rfl⟩, fun _ => rfl, Nat.zero_le _⟩)
      rw [frB_hdf] at h
      simp only [hdf, List.length_nil] at h
      exact h)
    have k0 := HK2.out.cell 0; have k1 := HK2.out.cell 1; have k2 := HK2.out.cell 2; have k3 := HK2.out.cell 3; have k4 := HK2.out.cell 4; have k5 := HK2.out.cell 5; have k6 := HK2.out.cell 6
    simp [frc] at k0 k1 k2 k3 k4 k5 k6
    go_wp2_with fail
    refine HRi.out.mono ?_
    rintro e w3 ⟨rfl, hB3⟩
    clear k0 k1 k2 k3 k4 k5 k6
    cases hf : hdB f with
    | false =>
      have HFf := hide_ hf
      have HB3 := hide_ (below_to HB2.out hB3)
      clear hf hB3
      go_wp2_with fail
      go_ret
      exact .inr (.inl ⟨HN.out, HFf.out, rfl, HS.out.same HB3.out⟩)
    | true =>
      have HFf := hide_ hf
      obtain ⟨y, pv⟩ := p
      have hM3 := HM2.out.later hB3
      obtain ⟨at_, ct, hpv, hfa⟩ := (hM3.own.tb (y, pv) (List.mem_append_right _ (List.mem_singleton.2 rfl))).fra
      have hpv' : pv = .slice at_ y.T.length ct := hpv
      subst hpv'
      have HM3 := hide_ hM3
      have HK3 : Hid (Blk w3 w.heap.size 39 (frc (f, .slice none 0 0))) := hide_ (HK2.out.later hB3)
      have HB3 := hide_ (below_to HB2.out hB3)
      have HS6 : Hid ((fun w' => w'.cell? ⟨g, 0, none⟩ = some (.slice (some ⟨gF, 0, none⟩) (Q.length + 1) cap) ∧ w'.cell? ⟨gF, Q.length * 7 + 6, none⟩ = some (.slice at_ y.T.length ct)) w3.drew) := hide_ ⟨HM3.out.box.cell 0, HM3.out.c7.1.2.2.2.2.2.2⟩
      have hK4 := (HK3.out.drew).set 6 (.slice at_ y.T.length ct)
      have hu4 := (Upd.refl (fun k => k = w.heap.size) w3.drew).set ⟨w.heap.size, 6, none⟩ (.slice at_ y.T.length ct) (.inl rfl)
      have hB4 := below_set (HB3.out.trans ((Below.refl w3.heap.size w3).drew.mono HB3.out.size)) w.heap.size 6 (.slice at_ y.T.length ct) (Nat.le_refl _)
      have hM4 := (HM3.out.later (w' := w3.drew) ((Below.refl w3.heap.size w3).drew)).upd hu4 (fun k hk e => by have := HGW.out k hk; omega)
      obtain ⟨w4, hw4⟩ : ∃ w4, w4 = w3.drew.setCell ⟨w.heap.size, 6, none⟩ (.slice at_ y.T.length ct) := ⟨_, rfl⟩
      rw [← hw4] at hK4 hB4 hM4
      have hw4' : w4 = (w3.setCell ⟨w.heap.size, 6, none⟩ (.slice at_ y.T.length ct)).drew := by rw [hw4]; first | rfl | simp
      have HK4 : Hid (Blk w4 w.heap.size 39 (frc (f, .slice at_ y.T.length ct))) := hide_ (by simpa [frc] using hK4)
      have HB4 := hide_ hB4
      have HM4 := hide_ hM4
      have HS7 : Hid ((fun w' => w'.cell? ⟨g, 0, none⟩ = some (.slice (some ⟨gF, 0, none⟩) (Q.length + 1) cap) ∧ w'.cell? ⟨w.heap.size, 0, none⟩ = some (.int .i64 f.r) ∧ w'.cell? ⟨w.heap.size, 1, none⟩ = some (.int .i64 f.a) ∧ w'.cell? ⟨w.heap.size, 2, none⟩ = some (.int .i64 f.b) ∧ w'.cell? ⟨w.heap.size, 3, none⟩ = some (.int .i64 f.e) ∧ w'.cell? ⟨w.heap.size, 4, none⟩ = some (.int .i64 f.n) ∧ w'.cell? ⟨w.heap.size, 5, none⟩ = some (.int .i64 f.x) ∧ w'.cell? ⟨w.heap.size, 6, none⟩ = some (.slice at_ y.T.length ct)) w4.drew) := hide_ ⟨HM4.out.box.cell 0, HK4.out.cell 0, HK4.out.cell 1, HK4.out.cell 2, HK4.out.cell 3, HK4.out.cell 4, HK4.out.cell 5, HK4.out.cell 6⟩
      clear hf hB3 hM3 hfa hu4 hK4 hB4 hM4 hw4
      go_upto_region 6 with fail
      refine wp_region_last 14 (fun w' => w'.cell? ⟨g, 0, none⟩ = some (.slice (some ⟨gF, 0, none⟩) (Q.length + 1) cap) ∧ w'.cell? ⟨gF, Q.length * 7 + 6, none⟩ = some (.slice at_ y.T.length ct)) (by kernel_rfl) (HS6.out) (fun hHeld => ?_)
      refine wpAnyF_take [14] (by kernel_rfl) (i := 0) (v := ?vu1) rfl (by kernel_rfl) (by kernel_rfl) (by kernel_rfl) (fun _ _ _ h => h) (Or.inl ⟨by kernel_rfl, ?hyu1⟩) hHeld ?restu1
      case hyu1 => intro w' hSw; (try dsimp only at hSw); go_simp; try with_reducible rfl
      simp only [Act.put]
      try dsimp only
      refine wpAnyF_take [14] (by kernel_rfl) (i := 1) (v := ?vu2) rfl (by kernel_rfl) (by kernel_rfl) (by kernel_rfl) (fun _ _ _ h => h) (Or.inl ⟨by kernel_rfl, ?hyu2⟩) hHeld ?restu2
      case hyu2 => intro w' hSw; (try dsimp only at hSw); go_simp; try with_reducible rfl
      simp only [Act.put]
      try dsimp only
      refine wpAnyF_take [14] (by kernel_rfl) (i := 2) (v := ?vu3) rfl (by kernel_rfl) (by kernel_rfl) (by kernel_rfl) (fun _ _ _ h => h) (Or.inl ⟨by kernel_rfl, ?hyu3⟩) hHeld ?restu3
      case hyu3 => intro w' hSw; (try dsimp only at hSw); go_simp; try with_reducible rfl
      simp only [Act.put]
      try dsimp only
      refine wpAnyF_take [14] (by kernel_rfl) (i := 3) (v := ?vu4) rfl (by kernel_rfl) (by kernel_rfl) (by kernel_rfl) (fun _ _ _ h => h) (Or.inl ⟨by kernel_rfl, ?hyu4⟩) hHeld ?restu4
      case hyu4 => intro w' hSw; (try dsimp only at hSw); go_simp; try with_reducible rfl
      simp only [Act.put]
      try dsimp only
      refine wpAnyF_take [14] (by kernel_rfl) (i := 4) (v := ?vu5) rfl (by kernel_rfl) (by kernel_rfl) (by kernel_rfl) (fun _ _ _ h => h) (Or.inl ⟨by kernel_rfl, ?hyu5⟩) hHeld ?restu5
      case hyu5 => intro w' hSw; (try dsimp only at hSw); go_simp; try with_reducible rfl
      simp only [Act.put]
      try dsimp only
      refine wpAnyF_take [14] (by kernel_rfl) (i := 5) (v := ?vu6) rfl (by kernel_rfl) (by kernel_rfl) (by kernel_rfl) (fun _ _ _ h => h) (Or.inl ⟨by kernel_rfl, ?hyu6⟩) hHeld ?restu6
      case hyu6 => intro w' hSw; (try dsimp only at hSw); go_simp; try with_reducible rfl
      simp only [Act.put]
      try dsimp only
      refine wpAnyF_take [14] (by kernel_rfl) (i := 6) (v := ?vu7) rfl (by kernel_rfl) (by kernel_rfl) (by kernel_rfl) (fun _ _ _ h => h) (Or.inl ⟨by kernel_rfl, ?hyu7⟩) hHeld ?restu7
      case hyu7 => intro w' hSw; (try dsimp only at hSw); go_simp; try with_reducible rfl
      simp only [Act.put]
      try dsimp only
      refine wpAnyF_take [14] (by kernel_rfl) (i := 7) (v := ?vu8) rfl (by kernel_rfl) (by kernel_rfl) (by kernel_rfl) (fun _ _ _ h => h) (Or.inl ⟨by kernel_rfl, ?hyu8⟩) hHeld ?restu8
      case hyu8 => intro w' hSw; (try dsimp only at hSw); go_simp; try with_reducible rfl
      simp only [Act.put]
      try dsimp only
      refine wpAnyF_take [14] (by kernel_rfl) (i := 8) (v := ?vu9) rfl (by kernel_rfl) (by kernel_rfl) (by kernel_rfl) (fun _ _ _ h => h) (Or.inl ⟨by kernel_rfl, ?hyu9⟩) hHeld ?restu9
      case hyu9 => intro w' hSw; (try dsimp only at hSw); go_simp; try with_reducible rfl
      simp only [Act.put]
      try dsimp only
      refine wpAnyF_take [14] (by kernel_rfl) (i := 9) (v := ?vu10) rfl (by kernel_rfl) (by kernel_rfl) (by kernel_rfl) (fun _ _ _ h => h) (Or.inl ⟨by kernel_rfl, ?hyu10⟩) hHeld ?restu10
      case hyu10 => intro w' hSw; (try dsimp only at hSw); go_simp; try with_reducible rfl
      simp only [Act.put]
      try dsimp only
      refine wpAnyF_take [14] (by kernel_rfl) (i := 10) (v := ?vu11) rfl (by kernel_rfl) (by kernel_rfl) (by kernel_rfl) (fun _ _ _ h => h) (Or.inl ⟨by kernel_rfl, ?hyu11⟩) hHeld ?restu11
      case hyu11 => intro w' hSw; (try dsimp only at hSw); go_simp; try with_reducible rfl
      simp only [Act.put]
      try dsimp only
      refine wpAnyF_take [14] (by kernel_rfl) (i := 11) (v := ?vu12) rfl (by kernel_rfl) (by kernel_rfl) (by kernel_rfl) (fun _ _ _ h => h) (Or.inl ⟨by kernel_rfl, ?hyu12⟩) hHeld ?restu12
      case hyu12 => intro w' hSw; (try dsimp only at hSw); go_simp; try with_reducible rfl
      simp only [Act.put]
      try dsimp only
      refine wpAnyF_take [14] (by kernel_rfl) (i := 12) (v := ?vu13) rfl (by kernel_rfl) (by kernel_rfl) (by kernel_rfl) (fun _ _ _ h => h) (Or.inl ⟨by kernel_rfl, ?hyu13⟩) hHeld ?restu13
      case hyu13 => intro w' hSw; (try dsimp only at hSw); go_simp; try with_reducible rfl
      simp only [Act.put]
      try dsimp only
      refine wpAnyF_take [14] (by kernel_rfl) (i := 13) (v := ?vu14) rfl (by kernel_rfl) (by kernel_rfl) (by kernel_rfl) (fun _ _ _ h => h) (Or.inl ⟨by kernel_rfl, ?hyu14⟩) hHeld ?restu14
      case hyu14 => intro w' hSw; (try dsimp only at hSw); go_simp; try with_reducible rfl
      simp only [Act.put]
      try dsimp only
      refine wpAnyF_ready (rs := [14]) (by kernel_rfl) (by simp) ?_
      refine AllReadyF.last rfl (fun K hK => ?_)
      have qz : w3.drew.frozen? ⟨w.heap.size, 6, none⟩ = false := HK3.out.frozen 6
      have qc : w3.drew.cell? ⟨w.heap.size, 6, none⟩ = some (.slice none 0 0) := HK3.out.cell 6
      clear hHeld
      go_simp
      refine hK.out _ _ ?_
      clear hK K
      refine wpAnyF_done (by kernel_rfl) ?_ _
      rw [← hw4']
      clear hw4'
      go_upto_region 7 with fail
      refine wp_region_last 12 (fun w' => w'.cell? ⟨g, 0, none⟩ = some (.slice (some ⟨gF, 0, none⟩) (Q.length + 1) cap) ∧ w'.cell? ⟨w.heap.size, 0, none⟩ = some (.int .i64 f.r) ∧ w'.cell? ⟨w.heap.size, 1, none⟩ = some (.int .i64 f.a) ∧ w'.cell? ⟨w.heap.size, 2, none⟩ = some (.int .i64 f.b) ∧ w'.cell? ⟨w.heap.size, 3, none⟩ = some (.int .i64 f.e) ∧ w'.cell? ⟨w.heap.size, 4, none⟩ = some (.int .i64 f.n) ∧ w'.cell? ⟨w.heap.size, 5, none⟩ = some (.int .i64 f.x) ∧ w'.cell? ⟨w.heap.size, 6, none⟩ = some (.slice at_ y.T.length ct)) (by kernel_rfl) (HS7.out) (fun hHeld => ?_)
      refine wpAnyF_take [12] (by kernel_rfl) (i := 0) (v := ?vv1) rfl (by kernel_rfl) (by kernel_rfl) (by kernel_rfl) (fun _ _ _ h => h) (Or.inl ⟨by kernel_rfl, ?hyv1⟩) hHeld ?restv1
      case hyv1 => intro w' hSw; (try dsimp only at hSw); go_simp; try with_reducible rfl
      simp only [Act.put, List.getElem_toArray, List.getElem_cons_zero]
      try dsimp only
      refine wpAnyF_take [12] (by kernel_rfl) (i := 1) (v := ?vv2) rfl (by kernel_rfl) (by kernel_rfl) (by kernel_rfl) (fun _ _ _ h => h) (Or.inl ⟨by kernel_rfl, ?hyv2⟩) hHeld ?restv2
      case hyv2 => intro w' hSw; (try dsimp only at hSw); go_simp; try with_reducible rfl
      simp only [Act.put, List.getElem_toArray, List.getElem_cons_zero, List.getElem_cons_succ]
      try dsimp only
      refine wpAnyF_take [12] (by kernel_rfl) (i := 2) (v := ?vv3) rfl (by kernel_rfl) (by kernel_rfl) (by kernel_rfl) (fun _ _ _ h => h) (Or.inl ⟨by kernel_rfl, ?hyv3⟩) hHeld ?restv3
      case hyv3 => intro w' hSw; (try dsimp only at hSw); go_simp; try with_reducible rfl
      simp only [Act.put, List.getElem_toArray, List.getElem_cons_zero, List.getElem_cons_succ]
      try dsimp only
      refine wpAnyF_take [12] (by kernel_rfl) (i := 3) (v := ?vv4) rfl (by kernel_rfl) (by kernel_rfl) (by kernel_rfl) (fun _ _ _ h => h) (Or.inl ⟨by kernel_rfl, ?hyv4⟩) hHeld ?restv4
      case hyv4 => intro w' hSw; (try dsimp only at hSw); go_simp; try with_reducible rfl
      simp only [Act.put, List.getElem_toArray, List.getElem_cons_zero, List.getElem_cons_succ]
      try dsimp only
      refine wpAnyF_take [12] (by kernel_rfl) (i := 4) (v := ?vv5) rfl (by kernel_rfl) (by kernel_rfl) (by kernel_rfl) (fun _ _ _ h => h) (Or.inl ⟨by kernel_rfl, ?hyv5⟩) hHeld ?restv5
      case hyv5 => intro w' hSw; (try dsimp only at hSw); go_simp; try with_reducible rfl
      simp only [Act.put, List.getElem_toArray, List.getElem_cons_zero, List.getElem_cons_succ]
      try dsimp only
      refine wpAnyF_take [12] (by kernel_rfl) (i := 5) (v := ?vv6) rfl (by kernel_rfl) (by kernel_rfl) (by kernel_rfl) (fun _ _ _ h => h) (Or.inl ⟨by kernel_rfl, ?hyv6⟩) hHeld ?restv6
      case hyv6 => intro w' hSw; (try dsimp only at hSw); go_simp; try with_reducible rfl
      simp only [Act.put, List.getElem_toArray, List.getElem_cons_zero, List.getElem_cons_succ]
      try dsimp only
      refine wpAnyF_take [12] (by kernel_rfl) (i := 6) (v := ?vv7) rfl (by kernel_rfl) (by kernel_rfl) (by kernel_rfl) (fun _ _ _ h => h) (Or.inl ⟨by kernel_rfl, ?hyv7⟩) hHeld ?restv7
      case hyv7 => intro w' hSw; (try dsimp only at hSw); go_simp; try with_reducible rfl
      simp only [Act.put, List.getElem_toArray, List.getElem_cons_zero, List.getElem_cons_succ]
      try dsimp only
      refine wpAnyF_take [12] (by kernel_rfl) (i := 7) (v := ?vv8) rfl (by kernel_rfl) (by kernel_rfl) (by kernel_rfl) (fun _ _ _ h => h) (Or.inl ⟨by kernel_rfl, ?hyv8⟩) hHeld ?restv8
      case hyv8 => intro w' hSw; (try dsimp only at hSw); go_simp; try with_reducible rfl
      simp only [Act.put, List.getElem_toArray, List.getElem_cons_zero, List.getElem_cons_succ]
      try dsimp only
      refine wpAnyF_take [12] (by kernel_rfl) (i := 8) (v := ?vv9) rfl (by kernel_rfl) (by kernel_rfl) (by kernel_rfl) (fun _ _ _ h => h) (Or.inl ⟨by kernel_rfl, ?hyv9⟩) hHeld ?restv9
      case hyv9 => intro w' hSw; (try dsimp only at hSw); go_simp; try with_reducible rfl
      simp only [Act.put, List.getElem_toArray, List.getElem_cons_zero, List.getElem_cons_succ]
      try dsimp only
      refine wpAnyF_take [12] (by kernel_rfl) (i := 9) (v := ?vv10) rfl (by kernel_rfl) (by kernel_rfl) (by kernel_rfl) (fun _ _ _ h => h) (Or.inl ⟨by kernel_rfl, ?hyv10⟩) hHeld ?restv10
      case hyv10 => intro w' hSw; (try dsimp only at hSw); go_simp; try with_reducible rfl
      simp only [Act.put, List.getElem_toArray, List.getElem_cons_zero, List.getElem_cons_succ]
      try dsimp only
      refine wpAnyF_take [12] (by kernel_rfl) (i := 10) (v := ?vv11) rfl (by kernel_rfl) (by kernel_rfl) (by kernel_rfl) (fun _ _ _ h => h) (Or.inl ⟨by kernel_rfl, ?hyv11⟩) hHeld ?restv11
      case hyv11 => intro w' hSw; (try dsimp only at hSw); go_simp; try with_reducible rfl
      simp only [Act.put, List.getElem_toArray, List.getElem_cons_zero, List.getElem_cons_succ]
      try dsimp only
      refine wpAnyF_take [12] (by kernel_rfl) (i := 11) (v := ?vv12) rfl (by kernel_rfl) (by kernel_rfl) (by kernel_rfl) (fun _ _ _ h => h) (Or.inl ⟨by kernel_rfl, ?hyv12⟩) hHeld ?restv12
      case hyv12 => intro w' hSw; (try dsimp only at hSw); go_simp; try with_reducible rfl
      simp only [Act.put, List.getElem_toArray, List.getElem_cons_zero, List.getElem_cons_succ]
      try dsimp only
      refine wpAnyF_ready (rs := [12]) (by kernel_rfl) (by simp) ?_
      simp only [List.setIfInBounds_toArray, List.set_cons_succ, List.set_cons_zero]
      refine AllReadyF.last rfl (fun K hK => ?_)
      obtain ⟨⟨i0, i1, i2, i3, i4, i5, i6⟩, hz⟩ := HM4.out.c7
      have y0 := hz (Q.length * 7); have y1 := hz (Q.length * 7 + 1); have y2 := hz (Q.length * 7 + 2); have y3 := hz (Q.length * 7 + 3); have y4 := hz (Q.length * 7 + 4); have y5 := hz (Q.length * 7 + 5); have y6 := hz (Q.length * 7 + 6)
      clear hz hHeld
      go_simp
      refine hK.out _ _ ?_
      clear hK K
      refine wpAnyF_done (by kernel_rfl) ?_ _
      rw [s7p]
      go_wp2_with fail
      go_ret
      refine .inr (.inr ⟨Q.map (·.1), y, by rw [← HPm.out, List.map_append]; rfl, HFf.out, rfl, ?_⟩)
      have hIt := HM4.out.own.tb (y, .slice at_ y.T.length ct) (List.mem_append_right _ (List.mem_singleton.2 rfl))
      have hry := HM3.out.rt (y, .slice at_ y.T.length ct) (List.mem_append_right _ (List.mem_singleton.2 rfl))
      have hto := HM4.out.setLast (Upd.of_below HB4.out) HF.out HFl.out hBw (hdf f y.T) (.slice at_ y.T.length ct) hIt (fun k hk => .inr hk) (frB_of (frB_is hry).1 (frB_is hry).2.1 HFf.out)
      rw [set7_hdf] at hto
      exact hto.then ((Below.refl _ _).drew)
end Go.Proofs.Ytcmkdkocponpiaa

/- mortiselaw22: lent. -/
namespace Go.Proofs.Ytcmkdkocponpiaa
open Go.RowKit
set_option linter.unusedVariables false

/-- A copy with a mark behind it. -/
theorem lnA (w : World) (B : Nat) (a : Option Addr) (c : Nat) (T : List Int) (hB : B ≤ w.heap.size) (hrow : Row .i64 w a T) (hnil : a = none → c = 0) (hl : T.length ≤ 1000000000000) :
    ∃ v1 w1 g2 c2 w2, (Builtin.append_ #[37, 37] 37 #[.slice none 0 0, .slice a T.length c]).run Try.prog w = .ok v1 w1 ∧
      (Builtin.append_ #[37, 37] 37 #[v1, .slice (some ⟨w1.heap.size, 0, none⟩) 1 1]).run Try.prog (w1.alloc (.cells #[.int .i64 23130] 3)) = .ok (.slice (some ⟨g2, 0, none⟩) (T.length + 1) c2) w2 ∧
      IOwn w2 B (.slice (some ⟨g2, 0, none⟩) (T.length + 1) c2) (T ++ [23130]) ∧ Below w.heap.size w w1 ∧ Below w.heap.size w w2 ∧ T.length + 1 ≤ c2 := by
  obtain ⟨v1, w1, h1, h2, h3⟩ := run_copy elI w 37 w.heap.size a T.length c T rfl hrow hnil (by unfold maxLen; omega) (by omega) (Nat.le_refl _)
  have hb1 : Below w.heap.size w w1 := (Upd.refl (fun _ => False) w).grown h3 (fun k hk => by cases hk) |>.below _ (Nat.le_refl _) (fun k hk => hk.elim)
  have ho : IOwn w1 w.heap.size v1 T := h2
  obtain ⟨g2, c2, w2, k1, k2, k3, k4⟩ := ho.push 23130 (by omega) hb1.size
  have h := own_len k2
  obtain ⟨a', c', e, -, -, h5⟩ := IOwn.row k2
  injection e with e1 e2 e3
  subst e3
  rw [List.length_append, List.length_singleton] at h5
  exact ⟨v1, w1, g2, c2, w2, h1, k1, own_base k2 hB, hb1, hb1.trans (k3.below w.heap.size hb1.size (fun k hk => (ho.lies hk).1)), h5⟩
/-- The other order: the mark is laid first. -/
theorem lnB (w : World) (B : Nat) (a : Option Addr) (c : Nat) (T : List Int) (hB : B ≤ w.heap.size) (hrow : Row .i64 w a T) (hnil : a = none → c = 0) (hl : T.length ≤ 1000000000000) :
    ∃ v1 w1 g2 c2 w2, (Builtin.append_ #[37, 37] 37 #[.slice none 0 0, .slice a T.length c]).run Try.prog (w.alloc (.cells #[.int .i64 23130] 3)) = .ok v1 w1 ∧
      (Builtin.append_ #[37, 37] 37 #[v1, .slice (some ⟨w.heap.size, 0, none⟩) 1 1]).run Try.prog w1 = .ok (.slice (some ⟨g2, 0, none⟩) (T.length + 1) c2) w2 ∧
      IOwn w2 B (.slice (some ⟨g2, 0, none⟩) (T.length + 1) c2) (T ++ [23130]) ∧ Below w.heap.size w w1 ∧ Below w.heap.size w w2 ∧ T.length + 1 ≤ c2 := by
  obtain ⟨wa, hwa⟩ : ∃ wx, wx = w.alloc (.cells #[.int .i64 23130] 3) := ⟨_, rfl⟩
  have hba : Below w.heap.size w wa := by rw [hwa]; exact below1 _ _
  have hk : Blk wa w.heap.size 3 (cellsL .i64 [23130]) := by rw [hwa]; exact Blk.newA w _ _
  rw [← hwa]
  obtain ⟨v1, w1, h1, h2, h3⟩ := run_copy elI wa 37 wa.heap.size a T.length c T rfl (hrow.later hba) hnil (by unfold maxLen; omega) (by omega) (Nat.le_refl _)
  have hb1 : Below wa.heap.size wa w1 := (Upd.refl (fun _ => False) wa).grown h3 (fun k hk => by cases hk) |>.below _ (Nat.le_refl _) (fun k hk => hk.elim)
  have ho : IOwn w1 wa.heap.size v1 T := h2
  have hrm : Row .i64 w1 (some ⟨w.heap.size, 0, none⟩) [23130] := (hk.later hb1).row
  obtain ⟨v2, w2, k1, k2, k3⟩ := run_app elI w1 37 wa.heap.size v1 T.length T ho (some ⟨w.heap.size, 0, none⟩) 1 1 [23130] rfl hrm (fun h => by cases h) (by unfold maxLen; omega) (by omega) hb1.size
  have k2' : IOwn w2 wa.heap.size v2 (T ++ [23130]) := by unfold IOwn; rw [List.length_append]; exact k2
  have hu : Upd (fun k => v1.ownBlock = some k) w1 w2 := (Upd.refl (fun k => v1.ownBlock = some k) w1).grown k3 (fun k e => .inl e)
  have hb2 : Below wa.heap.size wa w2 := hb1.trans (hu.below wa.heap.size hb1.size (fun k hk => (ho.lies hk).1))
  obtain ⟨g2, c2, ys, rfl, -, h5, -⟩ := ownS_blk k2 (by omega)
  exact ⟨v1, w1, g2, c2, w2, h1, k1, own_base k2' (Nat.le_trans hB hba.size), below_to hba hb1, below_to hba hb2, h5⟩
/-- What lent answers. -/
def LentF (w : World) (f : Fr) (e : Ending) (w' : World) : Prop := ∃ g2 c2, e = .returned (.agg #[.int .i64 f.r, .int .i64 f.a, .int .i64 f.b, .int .i64 f.e, .int .i64 f.n, .int .i64 f.x, .slice (some ⟨g2, 0, none⟩) f.T.length c2]) ∧ Hid (IOwn w' w.heap.size (.slice (some ⟨g2, 0, none⟩) (f.T.length + 1) c2) (f.T ++ [23130])) ∧ Hid (Below w.heap.size w w')
set_option maxRecDepth 100000 in
set_option maxHeartbeats 8000000 in
theorem lent_any (f : Fr) (a : Option Addr) (c : Nat) (w : World) (hA : Hid (FrA w f a c)) (hl : f.T.length ≤ 1000000000000) :
    Calls Try.prog 54 #[.agg #[.int .i64 f.r, .int .i64 f.a, .int .i64 f.b, .int .i64 f.e, .int .i64 f.n, .int .i64 f.x, .slice a f.T.length c]] w fun e w' => LentF w f e w' := by
  obtain ⟨wa, hwa⟩ : ∃ wx, wx = (w.alloc (.cells #[.int .i64 f.r, .int .i64 f.a, .int .i64 f.b, .int .i64 f.e, .int .i64 f.n, .int .i64 f.x, .slice a f.T.length c] 39)).alloc (.cells #[.int .i64 0, .int .i64 0, .int .i64 0, .int .i64 0, .int .i64 0, .int .i64 0, .slice none 0 0] 39) := ⟨_, rfl⟩
  have hB : Below w.heap.size w wa := by rw [hwa]; exact below2 _ _ _
  obtain ⟨k1, k2⟩ : Blk wa w.heap.size 39 (frc (f, .slice a f.T.length c)) ∧ Blk wa (w.heap.size + 1) 39 (frc frz) := by rw [hwa]; exact blk2 w _ _ _ _
  have HAr : Hid (FrA wa.drew f a c) := hide_ ((hA.out.later hB).later ((Below.refl wa.heap.size wa).drew))
  have HB := hide_ (below_to hB ((Below.refl wa.heap.size wa).drew))
  have K1 := hide_ k1.drew
  have K2 := hide_ k2.drew
  have HS1 : Hid ((fun w' => w'.cell? ⟨w.heap.size, 6, none⟩ = some (.slice a f.T.length c)) wa.drew) := hide_ (K1.out.cell 6)
  have hsz : w.heap.size + 1 < wa.drew.heap.size := k2.lt
  clear hA hB k1 k2
  go_enter Try.func54, Try.ntmps54
  go_upto_region 1 with fail
  rw [← hwa]
  clear hwa
  refine wp_region_last 10 (fun w' => w'.cell? ⟨w.heap.size, 6, none⟩ = some (.slice a f.T.length c)) (by kernel_rfl) (HS1.out) (fun hHeld => ?_)
  refine wpAnyF_take [10] (by kernel_rfl) (i := 0) (v := ?vp1) rfl (by kernel_rfl) (by kernel_rfl) (by kernel_rfl) (fun _ _ _ h => h) (Or.inl ⟨by kernel_rfl, ?hyp1⟩) hHeld ?restp1
  case hyp1 => intro w' hSw; (try dsimp only at hSw); go_simp; try with_reducible rfl
  simp only [Act.put]
  try dsimp only
  refine wpAnyF_take [10] (by kernel_rfl) (i := 1) (v := ?vp2) rfl (by kernel_rfl) (by kernel_rfl) (by kernel_rfl) (fun _ _ _ h => h) (Or.inl ⟨by kernel_rfl, ?hyp2⟩) hHeld ?restp2
  case hyp2 => intro w' hSw; (try dsimp only at hSw); go_simp; try with_reducible rfl
  simp only [Act.put]
  try dsimp only
  refine wpAnyF_take [10] (by kernel_rfl) (i := 5) (v := ?vp3) rfl (by kernel_rfl) (by kernel_rfl) (by kernel_rfl) (fun _ _ _ h => h) (Or.inl ⟨by kernel_rfl, ?hyp3⟩) hHeld ?restp3
  case hyp3 => intro w' hSw; (try dsimp only at hSw); go_simp; try with_reducible rfl
  simp only [Act.put]
  try dsimp only
  refine wpAnyF_take [10] (by kernel_rfl) (i := 6) (v := ?vp4) rfl (by kernel_rfl) (by kernel_rfl) (by kernel_rfl) (fun _ _ _ h => h) (Or.inl ⟨by kernel_rfl, ?hyp4⟩) hHeld ?restp4
  case hyp4 => intro w' hSw; (try dsimp only at hSw); go_simp; try with_reducible rfl
  simp only [Act.put]
  try dsimp only
  refine wpAnyF_take [10] (by kernel_rfl) (i := 7) (v := ?vp5) rfl (by kernel_rfl) (by kernel_rfl) (by kernel_rfl) (fun _ _ _ h => h) (Or.inl ⟨by kernel_rfl, ?hyp5⟩) hHeld ?restp5
  case hyp5 => intro w' hSw; (try dsimp only at hSw); go_simp; try with_reducible rfl
  simp only [Act.put]
  try dsimp only
  refine wpAnyF_ready (rs := [2, 3]) (by kernel_rfl) (by simp) ?_
  refine AllReadyF.cons rfl (fun K hK => ?_) ?_
  · obtain ⟨v1, w1, g2, c2, w2, r1, r2, hi, hb1, hb2, hc2⟩ := lnA wa.drew w.heap.size a c f.T HB.out.size HAr.out.1 HAr.out.2.1 hl
    have HR1 := hide_ r1
    have HR2 := hide_ r2
    have HI2 := hide_ hi
    have HB2 := hide_ (below_to HB.out hb2)
    have HK1a := hide_ (K1.out.later hb1)
    have HK1b := hide_ (K1.out.later hb2)
    have HK2b := hide_ (K2.out.later hb2)
    have hc2' : (f.T.length : Int) ≤ c2 := by omega
    clear r1 r2 hi hb1 hb2
    refine step_append_run rfl (.const (.slice none 0 0)) (.tmp 4) 37 37 rfl (v := .slice none 0 0) (u := .slice a f.T.length c) (by kernel_rfl) (by kernel_rfl) HR1.out ?_
    simp only [Act.put]
    refine hK.out _ _ (HK1a.out.cell 6) (fun hHeld => ?_)
    clear hK K
    refine wpAnyF_ready (rs := [3]) (by kernel_rfl) (by simp) ?_
    refine AllReadyF.cons rfl (fun K hK => ?_) AllReadyF.nil
    go_simp
    refine hK.out _ _ ((HK1a.out.alloc _).cell 6) (fun hHeld => ?_)
    clear hK K
    refine wpAnyF_ready (rs := [4]) (by kernel_rfl) (by simp) ?_
    refine AllReadyF.cons rfl (fun K hK => ?_) AllReadyF.nil
    refine step_append_run rfl (.tmp 5) (.tmp 6) 37 37 rfl (v := v1) (u := .slice (some ⟨w1.heap.size, 0, none⟩) 1 1) (by kernel_rfl) (by kernel_rfl) HR2.out ?_
    simp only [Act.put]
    refine hK.out _ _ (HK1b.out.cell 6) (fun hHeld => ?_)
    clear hK K
    refine wpAnyF_take [10] (by kernel_rfl) (i := 8) (v := ?vp6) rfl (by kernel_rfl) (by kernel_rfl) (by kernel_rfl) (fun _ _ _ h => h) (Or.inl ⟨by kernel_rfl, ?hyp6⟩) hHeld ?restp6
    case hyp6 => intro w' hSw; (try dsimp only at hSw); go_simp; try with_reducible rfl
    simp only [Act.put]
    try dsimp only
    refine wpAnyF_take [10] (by kernel_rfl) (i := 9) (v := ?vp7) rfl (by kernel_rfl) (by kernel_rfl) (by kernel_rfl) (fun _ _ _ h => h) (Or.inl ⟨by kernel_rfl, ?hyp7⟩) hHeld ?restp7
    case hyp7 => intro w' hSw; (try dsimp only at hSw); go_simp; try with_reducible rfl
    simp only [Act.put]
    try dsimp only
    refine wpAnyF_ready (rs := [10]) (by kernel_rfl) (by simp) ?_
    refine AllReadyF.last rfl (fun K hK => ?_)
    have qz := HK1b.out.frozen 6
    have qc := HK1b.out.cell 6
    simp [frc] at qc
    go_simp
    refine hK.out _ _ ?_
    clear hK K
    refine wpAnyF_done (by kernel_rfl) ?_ _
    go_upto_region 2 with fail
    have m1 := HK1b.out.set 6 (.slice (some ⟨g2, 0, none⟩) f.T.length c2)
    have m2 := HK2b.out.other ⟨w.heap.size, 6, none⟩ (.slice (some ⟨g2, 0, none⟩) f.T.length c2) (show ¬ w.heap.size + 1 = w.heap.size by omega)
    have HO3 : Hid (IOwn (w2.setCell ⟨w.heap.size, 6, none⟩ (.slice (some ⟨g2, 0, none⟩) f.T.length c2)) w.heap.size (.slice (some ⟨g2, 0, none⟩) (f.T.length + 1) c2) (f.T ++ [23130])) := hide_ (HI2.out.upd ((Upd.refl (fun k => k = w.heap.size) w2).set _ _ (.inl rfl)) (fun k hk e => by subst e; exact HI2.out.notF HK1b.out (by decide) hk))
    have HB3 : Hid (Below w.heap.size w (w2.setCell ⟨w.heap.size, 6, none⟩ (.slice (some ⟨g2, 0, none⟩) f.T.length c2))) := hide_ (below_set HB2.out _ _ _ (Nat.le_refl _))
    have HM := hide_ m2
    have j0 := m1.cell 0; have j1 := m1.cell 1; have j2 := m1.cell 2; have j3 := m1.cell 3; have j4 := m1.cell 4; have j5 := m1.cell 5; have j6 := m1.cell 6
    have l0 := m2.cell 0; have l1 := m2.cell 1; have l2 := m2.cell 2; have l3 := m2.cell 3; have l4 := m2.cell 4; have l5 := m2.cell 5; have l6 := m2.cell 6
    have y0 := m2.frozen 0; have y1 := m2.frozen 1; have y2 := m2.frozen 2; have y3 := m2.frozen 3; have y4 := m2.frozen 4; have y5 := m2.frozen 5; have y6 := m2.frozen 6
    simp [frc, frz, fr0] at j0 j1 j2 j3 j4 j5 j6 l0 l1 l2 l3 l4 l5 l6
    clear m1 m2
    go_wp2_with fail
    have hs7 := upd7 (w2.setCell ⟨w.heap.size, 6, none⟩ (.slice (some ⟨g2, 0, none⟩) f.T.length c2)) (w.heap.size + 1) 0 f (.slice (some ⟨g2, 0, none⟩) f.T.length c2)
    refine retF rfl f _ rfl (HM.out.set7 f (.slice (some ⟨g2, 0, none⟩) f.T.length c2)) ?_
    exact ⟨g2, c2, rfl, hide_ (HO3.out.upd hs7 (fun k hk e => by subst e; exact HO3.out.notF HM.out (by decide) hk)), hide_ (below7 HB3.out _ _ _ _ (by omega))⟩
  refine AllReadyF.cons rfl (fun K hK => ?_) AllReadyF.nil
  obtain ⟨v1, w1, g2, c2, w2, r1, r2, hi, hb1, hb2, hc2⟩ := lnB wa.drew w.heap.size a c f.T HB.out.size HAr.out.1 HAr.out.2.1 hl
  have HR1 := hide_ r1
  have HR2 := hide_ r2
  have HI2 := hide_ hi
  have HB2 := hide_ (below_to HB.out hb2)
  have HK1a := hide_ (K1.out.later hb1)
  have HK1b := hide_ (K1.out.later hb2)
  have HK2b := hide_ (K2.out.later hb2)
  have hc2' : (f.T.length : Int) ≤ c2 := by omega
  clear r1 r2 hi hb1 hb2
  go_simp
  refine hK.out _ _ ((K1.out.alloc _).cell 6) (fun hHeld => ?_)
  clear hK K
  refine wpAnyF_ready (rs := [2]) (by kernel_rfl) (by simp) ?_
  refine AllReadyF.cons rfl (fun K hK => ?_) AllReadyF.nil
  refine step_append_run rfl (.const (.slice none 0 0)) (.tmp 4) 37 37 rfl (v := .slice none 0 0) (u := .slice a f.T.length c) (by kernel_rfl) (by kernel_rfl) HR1.out ?_
  simp only [Act.put]
  refine hK.out _ _ (HK1a.out.cell 6) (fun hHeld => ?_)
  clear hK K
  refine wpAnyF_ready (rs := [4]) (by kernel_rfl) (by simp) ?_
  refine AllReadyF.cons rfl (fun K hK => ?_) AllReadyF.nil
  refine step_append_run rfl (.tmp 5) (.tmp 6) 37 37 rfl (v := v1) (u := .slice (some ⟨wa.drew.heap.size, 0, none⟩) 1 1) (by kernel_rfl) (by kernel_rfl) HR2.out ?_
  simp only [Act.put]
  refine hK.out _ _ (HK1b.out.cell 6) (fun hHeld => ?_)
  clear hK K
  refine wpAnyF_take [10] (by kernel_rfl) (i := 8) (v := ?vp8) rfl (by kernel_rfl) (by kernel_rfl) (by kernel_rfl) (fun _ _ _ h => h) (Or.inl ⟨by kernel_rfl, ?hyp8⟩) hHeld ?restp8
  case hyp8 => intro w' hSw; (try dsimp only at hSw); go_simp; try with_reducible rfl
  simp only [Act.put]
  try dsimp only
  refine wpAnyF_take [10] (by kernel_rfl) (i := 9) (v := ?vp9) rfl (by kernel_rfl) (by kernel_rfl) (by kernel_rfl) (fun _ _ _ h => h) (Or.inl ⟨by kernel_rfl, ?hyp9⟩) hHeld ?restp9
  case hyp9 => intro w' hSw; (try dsimp only at hSw); go_simp; try with_reducible rfl
  simp only [Act.put]
  try dsimp only
  refine wpAnyF_ready (rs := [10]) (by kernel_rfl) (by simp) ?_
  refine AllReadyF.last rfl (fun K hK => ?_)
  have qz := HK1b.out.frozen 6
  have qc := HK1b.out.cell 6
  simp [frc] at qc
  go_simp
  refine hK.out _ _ ?_
  clear hK K
  refine wpAnyF_done (by kernel_rfl) ?_ _
  go_upto_region 2 with fail
  have m1 := HK1b.out.set 6 (.slice (some ⟨g2, 0, none⟩) f.T.length c2)
  have m2 := HK2b.out.other ⟨w.heap.size, 6, none⟩ (.slice (some ⟨g2, 0, none⟩) f.T.length c2) (show ¬ w.heap.size + 1 = w.heap.size by omega)
  have HO3 : Hid (IOwn (w2.setCell ⟨w.heap.size, 6, none⟩ (.slice (some ⟨g2, 0, none⟩) f.T.length c2)) w.heap.size (.slice (some ⟨g2, 0, none⟩) (f.T.length + 1) c2) (f.T ++ [23130])) := hide_ (HI2.out.upd ((Upd.refl (fun k => k = w.heap.size) w2).set _ _ (.inl rfl)) (fun k hk e => by subst e; exact HI2.out.notF HK1b.out (by decide) hk))
  have HB3 : Hid (Below w.heap.size w (w2.setCell ⟨w.heap.size, 6, none⟩ (.slice (some ⟨g2, 0, none⟩) f.T.length c2))) := hide_ (below_set HB2.out _ _ _ (Nat.le_refl _))
  have HM := hide_ m2
  have j0 := m1.cell 0; have j1 := m1.cell 1; have j2 := m1.cell 2; have j3 := m1.cell 3; have j4 := m1.cell 4; have j5 := m1.cell 5; have j6 := m1.cell 6
  have l0 := m2.cell 0; have l1 := m2.cell 1; have l2 := m2.cell 2; have l3 := m2.cell 3; have l4 := m2.cell 4; have l5 := m2.cell 5; have l6 := m2.cell 6
  have y0 := m2.frozen 0; have y1 := m2.frozen 1; have y2 := m2.frozen 2; have y3 := m2.frozen 3; have y4 := m2.frozen 4; have y5 := m2.frozen 5; have y6 := m2.frozen 6
  simp [frc, frz, fr0] at j0 j1 j2 j3 j4 j5 j6 l0 l1 l2 l3 l4 l5 l6
  clear m1 m2
  go_wp2_with fail
  have hs7 := upd7 (w2.setCell ⟨w.heap.size, 6, none⟩ (.slice (some ⟨g2, 0, none⟩) f.T.length c2)) (w.heap.size + 1) 0 f (.slice (some ⟨g2, 0, none⟩) f.T.length c2)
  refine retF rfl f _ rfl (HM.out.set7 f (.slice (some ⟨g2, 0, none⟩) f.T.length c2)) ?_
  exact ⟨g2, c2, rfl, hide_ (HO3.out.upd hs7 (fun k hk e => by subst e; exact HO3.out.notF HM.out (by decide) hk)), hide_ (below7 HB3.out _ _ _ _ (by omega))⟩
end Go.Proofs.Ytcmkdkocponpiaa

/- mortiselaw22: over. -/
namespace Go.Proofs.Ytcmkdkocponpiaa
open Go.RowKit
set_option linter.unusedVariables false

theorem row_pre {w : World} {g : Nat} {l r : List Int} (h : Row .i64 w (some ⟨g, 0, none⟩) (l ++ r)) : Row .i64 w (some ⟨g, 0, none⟩) l := by
  have := h.take l.length
  rwa [List.take_left] at this
/-- A number written into a list of the call's own: where it lies, and what stays. -/
theorem IOwn.at_ {w : World} {B g n cap i : Nat} {l : List Int} (h : IOwn w B (.slice (some ⟨g, 0, none⟩) n cap) l) (hi : i < l.length) : (∃ u, w.cell? ⟨g, i, none⟩ = some u) ∧ (∀ j, w.frozen? ⟨g, j, none⟩ = false) ∧ g < w.heap.size ∧ n = l.length ∧ l.length ≤ cap ∧ B ≤ g := by
  obtain ⟨g', cap', ys, e', hb, hn, hm, hl, ht, hK⟩ := ownS_blk h (by omega)
  injection e' with e1 e2 e3
  injection e1 with e1
  injection e1 with e1 _ _
  subst e1 e3
  have hyl : i < ys.length := by rw [hl]; omega
  exact ⟨⟨_, by rw [hK.cell, List.getElem?_eq_getElem hyl]⟩, fun j => hK.frozen j, hK.lt, e2, hn, hb⟩
set_option maxRecDepth 100000 in
set_option maxHeartbeats 8000000 in
theorem over_any (f : Fr) (g2 c2 : Nat) (a : Option Addr) (c : Nat) (w : World) (B : Nat) (HI : Hid (IOwn w B (.slice (some ⟨g2, 0, none⟩) (f.T.length + 1) c2) (f.T ++ [23130]))) (hA : Hid (FrA w f a c)) (hl : f.T.length ≤ 1000000000000) :
    Calls Try.prog 56 #[.agg #[.int .i64 f.r, .int .i64 f.a, .int .i64 f.b, .int .i64 f.e, .int .i64 f.n, .int .i64 f.x, .slice (some ⟨g2, 0, none⟩) f.T.length c2], .agg #[.int .i64 f.r, .int .i64 f.a, .int .i64 f.b, .int .i64 f.e, .int .i64 f.n, .int .i64 f.x, .slice a f.T.length c]] w fun e w' => e = .returned (.bool true) ∧ Hid (Upd (fun k => k = g2) w w') := by
  obtain ⟨wa, hwa⟩ : ∃ wx, wx = (w.alloc (.cells #[.int .i64 f.r, .int .i64 f.a, .int .i64 f.b, .int .i64 f.e, .int .i64 f.n, .int .i64 f.x, .slice (some ⟨g2, 0, none⟩) f.T.length c2] 39)).alloc (.cells #[.int .i64 f.r, .int .i64 f.a, .int .i64 f.b, .int .i64 f.e, .int .i64 f.n, .int .i64 f.x, .slice a f.T.length c] 39) := ⟨_, rfl⟩
  have hB : Below w.heap.size w wa := by rw [hwa]; exact below2 _ _ _
  obtain ⟨k1, k2⟩ : Blk wa w.heap.size 39 (frc (f, .slice (some ⟨g2, 0, none⟩) f.T.length c2)) ∧ Blk wa (w.heap.size + 1) 39 (frc (f, .slice a f.T.length c)) := by rw [hwa]; exact blk2 w _ _ _ _
  have hlen : (f.T ++ [23130]).length = f.T.length + 1 := by simp
  obtain ⟨-, -, hg2, -, hcap, hBg⟩ := HI.out.at_ (i := f.T.length) (by rw [hlen]; omega)
  rw [hlen] at hcap
  have hcap' : (f.T.length : Int) + 1 ≤ c2 := by omega
  have hw1 : IntKind.i64.wrap ((f.T.length : Int) + 1) = (f.T.length : Int) + 1 := i64w _ (by omega)
  have hw2 : ((f.T.length : Int) + 1).toNat = f.T.length + 1 := by omega
  have hw3 : (0 : Int) ≤ (f.T.length : Int) + 1 := by omega
  have hw4 : (f.T.length : Int) < (f.T.length : Int) + 1 := by omega
  have HI1 := hide_ ((HI.out.later hB).later ((Below.refl wa.heap.size wa).drew))
  have HB := hide_ (below_to hB ((Below.refl wa.heap.size wa).drew))
  have K1 := hide_ k1.drew
  have K2 := hide_ k2.drew
  have HMk : Hid (∀ w', Below wa.drew.heap.size wa.drew w' → w'.cell? ⟨g2, f.T.length, none⟩ = some (.int .i64 23130)) := hide_ (fun w' hb => by
    have h := HI1.out.later hb
    obtain ⟨a', c', e, hr, -, -⟩ := IOwn.row h
    injection e with e _ _
    obtain ⟨b', off, e2, -, hc⟩ := hr.open (by rw [hlen]; omega)
    rw [← e] at e2
    injection e2 with e2
    injection e2 with e3 e4 _
    subst e3 e4
    have := hc f.T.length (by rw [hlen]; omega)
    simpa using this)
  have HFa : Hid (FrA wa.drew f (some ⟨g2, 0, none⟩) c2) := hide_ (by
    obtain ⟨a', c', e, hr, hn, -⟩ := IOwn.row HI1.out
    injection e with e _ e3
    subst e
    exact ⟨row_pre hr, (fun h => by cases h), by unfold maxLen; omega⟩)
  have HFb : Hid (FrA wa.drew f a c) := hide_ ((hA.out.later hB).later ((Below.refl wa.heap.size wa).drew))
  have HSm := hide_ (same_yes f (some ⟨g2, 0, none⟩) a c2 c wa.drew HFa HFb)
  have HSS : Hid (∀ w', Below wa.drew.heap.size wa.drew w' → (fun w' => w'.cell? ⟨w.heap.size, 0, none⟩ = some (.int .i64 f.r) ∧ w'.cell? ⟨w.heap.size, 1, none⟩ = some (.int .i64 f.a) ∧ w'.cell? ⟨w.heap.size, 2, none⟩ = some (.int .i64 f.b) ∧ w'.cell? ⟨w.heap.size, 3, none⟩ = some (.int .i64 f.e) ∧ w'.cell? ⟨w.heap.size, 4, none⟩ = some (.int .i64 f.n) ∧ w'.cell? ⟨w.heap.size, 5, none⟩ = some (.int .i64 f.x) ∧ w'.cell? ⟨w.heap.size, 6, none⟩ = some (.slice (some ⟨g2, 0, none⟩) f.T.length c2) ∧ w'.cell? ⟨w.heap.size + 1, 0, none⟩ = some (.int .i64 f.r) ∧ w'.cell? ⟨w.heap.size + 1, 1, none⟩ = some (.int .i64 f.a) ∧ w'.cell? ⟨w.heap.size + 1, 2, none⟩ = some (.int .i64 f.b) ∧ w'.cell? ⟨w.heap.size + 1, 3, none⟩ = some (.int .i64 f.e) ∧ w'.cell? ⟨w.heap.size + 1, 4, none⟩ = some (.int .i64 f.n) ∧ w'.cell? ⟨w.heap.size + 1, 5, none⟩ = some (.int .i64 f.x) ∧ w'.cell? ⟨w.heap.size + 1, 6, none⟩ = some (.slice a f.T.length c) ∧ w'.cell? ⟨g2, f.T.length, none⟩ = some (.int .i64 23130)) w') := hide_ (fun w' hb => by
    have k1 := K1.out.later hb
    have k2 := K2.out.later hb
    exact ⟨k1.cell 0, k1.cell 1, k1.cell 2, k1.cell 3, k1.cell 4, k1.cell 5, k1.cell 6, k2.cell 0, k2.cell 1, k2.cell 2, k2.cell 3, k2.cell 4, k2.cell 5, k2.cell 6, HMk.out w' hb⟩)
  clear hA hB k1 k2 hcap hlen
  go_enter Try.func56, Try.ntmps56
  go_upto_region 1 with fail
  rw [← hwa]
  clear hwa
  refine wp_region_last 18 (fun w' => w'.cell? ⟨w.heap.size, 0, none⟩ = some (.int .i64 f.r) ∧ w'.cell? ⟨w.heap.size, 1, none⟩ = some (.int .i64 f.a) ∧ w'.cell? ⟨w.heap.size, 2, none⟩ = some (.int .i64 f.b) ∧ w'.cell? ⟨w.heap.size, 3, none⟩ = some (.int .i64 f.e) ∧ w'.cell? ⟨w.heap.size, 4, none⟩ = some (.int .i64 f.n) ∧ w'.cell? ⟨w.heap.size, 5, none⟩ = some (.int .i64 f.x) ∧ w'.cell? ⟨w.heap.size, 6, none⟩ = some (.slice (some ⟨g2, 0, none⟩) f.T.length c2) ∧ w'.cell? ⟨w.heap.size + 1, 0, none⟩ = some (.int .i64 f.r) ∧ w'.cell? ⟨w.heap.size + 1, 1, none⟩ = some (.int .i64 f.a) ∧ w'.cell? ⟨w.heap.size + 1, 2, none⟩ = some (.int .i64 f.b) ∧ w'.cell? ⟨w.heap.size + 1, 3, none⟩ = some (.int .i64 f.e) ∧ w'.cell? ⟨w.heap.size + 1, 4, none⟩ = some (.int .i64 f.n) ∧ w'.cell? ⟨w.heap.size + 1, 5, none⟩ = some (.int .i64 f.x) ∧ w'.cell? ⟨w.heap.size + 1, 6, none⟩ = some (.slice a f.T.length c) ∧ w'.cell? ⟨g2, f.T.length, none⟩ = some (.int .i64 23130)) (by kernel_rfl) (HSS.out _ (Below.refl _ _)) (fun hHeld => ?_)
  refine wpAnyF_take [18] (by kernel_rfl) (i := 0) (v := ?vp1) rfl (by kernel_rfl) (by kernel_rfl) (by kernel_rfl) (fun _ _ _ h => h) (Or.inl ⟨by kernel_rfl, ?hyp1⟩) hHeld ?restp1
  case hyp1 => intro w' hSw; (try dsimp only at hSw); go_simp; try with_reducible rfl
  simp only [Act.put]
  try dsimp only
  refine wpAnyF_take [18] (by kernel_rfl) (i := 1) (v := ?vp2) rfl (by kernel_rfl) (by kernel_rfl) (by kernel_rfl) (fun _ _ _ h => h) (Or.inl ⟨by kernel_rfl, ?hyp2⟩) hHeld ?restp2
  case hyp2 => intro w' hSw; (try dsimp only at hSw); go_simp; try with_reducible rfl
  simp only [Act.put]
  try dsimp only
  refine wpAnyF_ready (rs := [2]) (by kernel_rfl) (by simp) ?_
  refine AllReadyF.cons rfl (fun K hK => ?_) AllReadyF.nil
  go_simp
  refine HSm.out.mono ?_
  rintro e w2 ⟨rfl, hB2⟩
  have hB2 := hide_ hB2
  dsimp only
  refine hK.out _ _ (HSS.out _ hB2.out) (fun hHeld => ?_)
  clear hK K
  refine wpAnyF_take [18] (by kernel_rfl) (i := 3) (v := ?vp3) rfl (by kernel_rfl) (by kernel_rfl) (by kernel_rfl) (fun _ _ _ h => h) (Or.inl ⟨by kernel_rfl, ?hyp3⟩) hHeld ?restp3
  case hyp3 => intro w' hSw; (try dsimp only at hSw); go_simp; try with_reducible rfl
  simp only [Act.put]
  try dsimp only
  refine wpAnyF_take [18] (by kernel_rfl) (i := 4) (v := ?vp4) rfl (by kernel_rfl) (by kernel_rfl) (by kernel_rfl) (fun _ _ _ h => h) (Or.inl ⟨by kernel_rfl, ?hyp4⟩) hHeld ?restp4
  case hyp4 => intro w' hSw; (try dsimp only at hSw); go_simp; try with_reducible rfl
  simp only [Act.put]
  try dsimp only
  refine wpAnyF_take [18] (by kernel_rfl) (i := 5) (v := ?vp5) rfl (by kernel_rfl) (by kernel_rfl) (by kernel_rfl) (fun _ _ _ h => h) (Or.inl ⟨by kernel_rfl, ?hyp5⟩) hHeld ?restp5
  case hyp5 => intro w' hSw; (try dsimp only at hSw); go_simp; try with_reducible rfl
  simp only [Act.put]
  try dsimp only
  refine wpAnyF_take [18] (by kernel_rfl) (i := 6) (v := ?vp6) rfl (by kernel_rfl) (by kernel_rfl) (by kernel_rfl) (fun _ _ _ h => h) (Or.inl ⟨by kernel_rfl, ?hyp6⟩) hHeld ?restp6
  case hyp6 => intro w' hSw; (try dsimp only at hSw); go_simp; try with_reducible rfl
  simp only [Act.put]
  try dsimp only
  refine wpAnyF_take [18] (by kernel_rfl) (i := 7) (v := ?vp7) rfl (by kernel_rfl) (by kernel_rfl) (by kernel_rfl) (fun _ _ _ h => h) (Or.inl ⟨by kernel_rfl, ?hyp7⟩) hHeld ?restp7
  case hyp7 => intro w' hSw; (try dsimp only at hSw); go_simp; try with_reducible rfl
  simp only [Act.put]
  try dsimp only
  refine wpAnyF_take [18] (by kernel_rfl) (i := 8) (v := ?vp8) rfl (by kernel_rfl) (by kernel_rfl) (by kernel_rfl) (fun _ _ _ h => h) (Or.inl ⟨by kernel_rfl, ?hyp8⟩) hHeld ?restp8
  case hyp8 => intro w' hSw; (try dsimp only at hSw); go_simp; try with_reducible rfl
  simp only [Act.put]
  try dsimp only
  refine wpAnyF_take [18] (by kernel_rfl) (i := 9) (v := ?vp9) rfl (by kernel_rfl) (by kernel_rfl) (by kernel_rfl) (fun _ _ _ h => h) (Or.inl ⟨by kernel_rfl, ?hyp9⟩) hHeld ?restp9
  case hyp9 => intro w' hSw; (try dsimp only at hSw); go_simp; try with_reducible rfl
  simp only [Act.put]
  try dsimp only
  refine wpAnyF_take [18] (by kernel_rfl) (i := 10) (v := ?vp10) rfl (by kernel_rfl) (by kernel_rfl) (by kernel_rfl) (fun _ _ _ h => h) (Or.inl ⟨by kernel_rfl, ?hyp10⟩) hHeld ?restp10
  case hyp10 => intro w' hSw; (try dsimp only at hSw); go_simp; try with_reducible rfl
  simp only [Act.put]
  try dsimp only
  refine wpAnyF_take [18] (by kernel_rfl) (i := 11) (v := ?vp11) rfl (by kernel_rfl) (by kernel_rfl) (by kernel_rfl) (fun _ _ _ h => h) (Or.inl ⟨by kernel_rfl, ?hyp11⟩) hHeld ?restp11
  case hyp11 => intro w' hSw; (try dsimp only at hSw); go_simp; try with_reducible rfl
  simp only [Act.put]
  try dsimp only
  refine wpAnyF_take [18] (by kernel_rfl) (i := 12) (v := ?vp12) rfl (by kernel_rfl) (by kernel_rfl) (by kernel_rfl) (fun _ _ _ h => h) (Or.inl ⟨by kernel_rfl, ?hyp12⟩) hHeld ?restp12
  case hyp12 => intro w' hSw; (try dsimp only at hSw); go_simp; try with_reducible rfl
  simp only [Act.put]
  try dsimp only
  refine wpAnyF_take [18] (by kernel_rfl) (i := 13) (v := ?vp13) rfl (by kernel_rfl) (by kernel_rfl) (by kernel_rfl) (fun _ _ _ h => h) (Or.inl ⟨by kernel_rfl, ?hyp13⟩) hHeld ?restp13
  case hyp13 => intro w' hSw; (try dsimp only at hSw); go_simp; try with_reducible rfl
  simp only [Act.put]
  try dsimp only
  refine wpAnyF_take [18] (by kernel_rfl) (i := 14) (v := ?vp14) rfl (by kernel_rfl) (by kernel_rfl) (by kernel_rfl) (fun _ _ _ h => h) (Or.inl ⟨by kernel_rfl, ?hyp14⟩) hHeld ?restp14
  case hyp14 => intro w' hSw; (try dsimp only at hSw); go_simp; try with_reducible rfl
  simp only [Act.put]
  try dsimp only
  refine wpAnyF_take [18] (by kernel_rfl) (i := 15) (v := ?vp15) rfl (by kernel_rfl) (by kernel_rfl) (by kernel_rfl) (fun _ _ _ h => h) (Or.inl ⟨by kernel_rfl, ?hyp15⟩) hHeld ?restp15
  case hyp15 => intro w' hSw; (try dsimp only at hSw); go_simp; try with_reducible rfl
  simp only [Act.put]
  try dsimp only
  refine wpAnyF_take [18] (by kernel_rfl) (i := 16) (v := ?vp16) rfl (by kernel_rfl) (by kernel_rfl) (by kernel_rfl) (fun _ _ _ h => h) (Or.inl ⟨by kernel_rfl, ?hyp16⟩) hHeld ?restp16
  case hyp16 => intro w' hSw; (try dsimp only at hSw); go_simp; try with_reducible rfl
  simp only [Act.put]
  try dsimp only
  refine wpAnyF_take [18] (by kernel_rfl) (i := 17) (v := ?vp17) rfl (by kernel_rfl) (by kernel_rfl) (by kernel_rfl) (fun _ _ _ h => h) (Or.inl ⟨by kernel_rfl, ?hyp17⟩) hHeld ?restp17
  case hyp17 => intro w' hSw; (try dsimp only at hSw); go_simp; try with_reducible rfl
  simp only [Act.put]
  try dsimp only
  refine wpAnyF_ready (rs := [18]) (by kernel_rfl) (by simp) ?_
  refine AllReadyF.last rfl (fun K hK => ?_)
  go_simp
  refine hK.out _ _ ?_
  clear hK K
  refine wpAnyF_done (by kernel_rfl) ?_ _
  have HI2 : Hid (∃ l : List Int, l.length = f.T.length + 1 ∧ IOwn w2 B (.slice (some ⟨g2, 0, none⟩) (f.T.length + 1) c2) l) := hide_ ⟨_, by simp, HI1.out.later hB2.out⟩
  have HK2 := hide_ (K1.out.later hB2.out)
  have HU2 : Hid (Upd (fun k => k = g2) w w2) := hide_ (Upd.of_below (below_to HB.out hB2.out))
  clear HI1 HB K1 K2 HMk HFa HFb HSm HSS hB2
  go_wp2_with fail
  go_loopw [6] (fun x6 wr => ∃ i : Nat, i ≤ f.T.length ∧ x6 = .int .i64 (i : Int) ∧ Hid (∃ l : List Int, l.length = f.T.length + 1 ∧ IOwn wr B (.slice (some ⟨g2, 0, none⟩) (f.T.length + 1) c2) l) ∧ Hid (Blk wr w.heap.size 39 (frc (f, .slice (some ⟨g2, 0, none⟩) f.T.length c2))) ∧ Hid (Upd (fun k => k = g2) w wr)) (fun x6 _ => f.T.length - (intOf x6).toNat)
  case atStart => exact ⟨0, Nat.zero_le _, rfl, HI2, HK2, HU2⟩
  case round =>
    clear HI2 HK2 HU2
    obtain ⟨i, hi, rfl, HIr, HK, HU⟩ := hrel
    generalize wr = wq at *
    have e6 := HK.out.cell 6
    simp [frc] at e6
    by_cases hlt : i < f.T.length
    · have hlt' : (i : Int) < f.T.length := by omega
      obtain ⟨l, hll, hI⟩ := HIr.out
      obtain ⟨⟨u, hu⟩, hz, -⟩ := hI.at_ (i := i) (by omega)
      have hz' := hz i
      have HI3 : Hid (∃ l : List Int, l.length = f.T.length + 1 ∧ IOwn (wq.setCell ⟨g2, i, none⟩ (.int .i64 4)) B (.slice (some ⟨g2, 0, none⟩) (f.T.length + 1) c2) l) := hide_ ⟨l.set i 4, by rw [List.length_set]; exact hll, hI.set (by omega) 4⟩
      have hset := (Upd.refl (fun k => k = g2) wq).set ⟨g2, i, none⟩ (.int .i64 4) (.inl rfl)
      have HK3 := hide_ (HK.out.upd hset (show ¬ w.heap.size = g2 by omega))
      have HU3 := hide_ (HU.out.to hset)
      clear hll hI hset hz
      go_wp2_with fail
      go_roundw
      case rel => exact ⟨i + 1, by omega, by go_num, HI3, HK3, HU3⟩
      case measure => simp [intOf]; omega
    · obtain rfl : i = f.T.length := by omega
      have hnl : ¬ ((f.T.length : Int) < (f.T.length : Int)) := by omega
      go_wp2_with fail
      go_ret
      exact ⟨rfl, HU⟩
end Go.Proofs.Ytcmkdkocponpiaa
