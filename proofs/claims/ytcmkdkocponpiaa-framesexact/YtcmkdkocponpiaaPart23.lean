import Derived.Test.YtcmkdkocponpiaaPart22

/- mortiselaw22: moves: Push, Set, Go. -/
namespace Go.Proofs.Ytcmkdkocponpiaa
open Go.RowKit
set_option linter.unusedVariables false

/-- What moves leaves: the same pointers. -/
def PmTo (B : Nat) (w w' : World) (bt : Nat) (p q : Nat → Value) (xs : Nat → Option Sk) (N : Nat) : Prop :=
  ∃ xs' S', Tab B w' bt p q xs' xs' N S' ∧ (∀ j y, xs j = some y → ∃ z, xs' j = some z) ∧ Below B w w'
set_option maxRecDepth 100000 in
set_option maxHeartbeats 16000000 in
theorem moves_push (B bt i : Nat) (p q : Nat → Value) (xs : Nat → Option Sk) (N : Nat) (S : Nat → Nat → Prop) (y : Sk) (wh : Bool) (f : Fr) (a : Option Addr) (c : Nat) (n : Int) (ab : Option Addr) (nb cb : Nat) (w : World) (hT : Hid (Tab B w bt p q xs xs N S)) (hi : i < 2) (hy : xs i = some y) (HFA : Hid (∀ w', Below B w w' → FrA w' f a c)) (hl : f.T.length ≤ 1000000) (hN : N ≤ 790) :
    Calls Try.prog 41 #[.pointer (some ⟨bt, 0, none⟩), .int .i64 (i : Int), .agg #[.int .i64 2, .bool wh, .int .i64 f.r, .int .i64 f.a, .int .i64 f.b, .int .i64 f.e, .int .i64 f.n, .int .i64 f.x, .slice a f.T.length c, .int .i64 n, .slice ab nb cb]] w fun e w' => e = .returned (.bool true) ∧ Hid (PmTo B w w' bt p q xs (N + 1)) := by
  obtain ⟨fs, m, h⟩ := y
  have hQ := hT.out.qs i hi
  have hP := hT.out.ps i hi
  rw [hy] at hP hQ
  obtain ⟨gp, hp, hS⟩ := hP.open
  obtain ⟨gq, hq, hR⟩ := hQ.open
  dsimp only at hS hR
  have HS := hide_ hS
  have HBd := hide_ hT.out.lt
  have HBw := hide_ hT.out.base
  have HSk : Hid (∀ j k, S j k → B ≤ k ∧ k < w.heap.size ∧ k ≠ bt) := hide_ hT.out.ly
  have hi' : (i : Int) < 2 := by omega
  obtain ⟨w1, hw1⟩ : ∃ wx, wx = w.alloc (.cells #[.int .i64 2, .bool wh, .int .i64 f.r, .int .i64 f.a, .int .i64 f.b, .int .i64 f.e, .int .i64 f.n, .int .i64 f.x, .slice a f.T.length c, .int .i64 n, .slice ab nb cb] 63) := ⟨_, rfl⟩
  have hB1 : Below w.heap.size w w1 := by rw [hw1]; exact below1 _ _
  have K1 : Hid (Blk w1 w.heap.size 63 [.int .i64 2, .bool wh, .int .i64 f.r, .int .i64 f.a, .int .i64 f.b, .int .i64 f.e, .int .i64 f.n, .int .i64 f.x, .slice a f.T.length c, .int .i64 n, .slice ab nb cb]) := hide_ (by rw [hw1]; exact Blk.newA w _ _)
  have hT1 := hT.out.later hB1
  have c0 := (hT1.cellP i hi).1
  have c1 := hT1.cellQ i hi
  rw [hp] at c0
  rw [hq] at c1
  have HB1 := hide_ hB1
  have HLent := hide_ (lent_any f a c w1 (hide_ (HFA.out w1 (hB1.mono HBw.out))) (by omega))
  have Hp := hide_ hp
  have Hq := hide_ hq
  have hy0 := hide_ hy
  have o2 := K1.out.cell 2; have o3 := K1.out.cell 3; have o4 := K1.out.cell 4; have o5 := K1.out.cell 5; have o6 := K1.out.cell 6; have o7 := K1.out.cell 7; have o8 := K1.out.cell 8
  simp at o2 o3 o4 o5 o6 o7 o8
  clear hP hQ hS hR hp hq hy hT1 hB1
  go_enter Try.func41, Try.ntmps41
  go_upto_region 1 with fail
  rw [← hw1]
  clear hw1
  go_wp2_with fail
  refine HLent.out.mono ?_
  rintro e w2 ⟨g2, c2, rfl, HO2, HB2⟩
  obtain ⟨w3, hw3⟩ : ∃ wx, wx = w2.alloc (.cells #[.int .i64 f.r, .int .i64 f.a, .int .i64 f.b, .int .i64 f.e, .int .i64 f.n, .int .i64 f.x, .slice (some ⟨g2, 0, none⟩) f.T.length c2] 39) := ⟨_, rfl⟩
  have hB3 : Below w2.heap.size w2 w3 := by rw [hw3]; exact below1 _ _
  have K3 : Hid (Blk w3 w2.heap.size 39 (frc (f, .slice (some ⟨g2, 0, none⟩) f.T.length c2))) := hide_ (by rw [hw3]; exact Blk.newA w2 _ _)
  have hb13 := below_to HB2.out hB3
  have HB3 := hide_ (below_to HB1.out hb13)
  have K1c := hide_ (K1.out.later hb13)
  have HO3 : Hid (IOwn w3 w1.heap.size (.slice (some ⟨g2, 0, none⟩) (f.T.length + 1) c2) (f.T ++ [23130])) := hide_ (HO2.out.later hB3)
  have HG2 : Hid (w.heap.size < w1.heap.size ∧ w1.heap.size ≤ g2 ∧ g2 < w2.heap.size ∧ w1.heap.size ≤ w2.heap.size ∧ w2.heap.size < w3.heap.size) := hide_ (by
    have h1 := World.ownsRow.lt HO2.out g2 rfl
    have h2 := K1.out.lt
    have h3 := K3.out.lt
    have h4 := HB2.out.size
    omega)
  clear hB3 hb13 HLent HO2 o2 o3 o4 o5 o6 o7 o8 c0 c1
  have o0 := K1c.out.cell 0
  simp at o0
  go_upto_region 4 with fail
  rw [← hw3]
  clear hw3
  have HT3 := hide_ ((hT.out.later HB3.out).later (w' := w3.drew) ((Below.refl w3.heap.size w3).drew))
  have hr := (Below.refl w3.heap.size w3).drew
  have HB3e := hide_ ((below_to HB3.out hr).mono HBw.out)
  have K1e := hide_ (K1c.out.later hr)
  have K3e := hide_ (K3.out.later hr)
  have HO3e := hide_ (HO3.out.later hr)
  have HSr := hide_ (HS.out.later (below_to HB3.out hr))
  have HFb : Hid (FrA w3.drew f (some ⟨g2, 0, none⟩) c2) := hide_ (by
    obtain ⟨a', c', e, hr, hn, -⟩ := IOwn.row HO3e.out
    injection e with e _ e3
    subst e
    exact ⟨row_pre hr, (fun h => by cases h), by unfold maxLen; omega⟩)
  have HPu := hide_ (push_any w3.drew B (S i) gp fs m h f (some ⟨g2, 0, none⟩) c2 HSr HFb (show B ≤ w3.heap.size from Nat.le_trans HBw.out HB3.out.size))
  have HSS : Hid ((fun w' => w'.cell? ⟨w.heap.size, 2, none⟩ = some (.int .i64 f.r) ∧ w'.cell? ⟨w.heap.size, 3, none⟩ = some (.int .i64 f.a) ∧ w'.cell? ⟨w.heap.size, 4, none⟩ = some (.int .i64 f.b) ∧ w'.cell? ⟨w.heap.size, 5, none⟩ = some (.int .i64 f.e) ∧ w'.cell? ⟨w.heap.size, 6, none⟩ = some (.int .i64 f.n) ∧ w'.cell? ⟨w.heap.size, 7, none⟩ = some (.int .i64 f.x) ∧ w'.cell? ⟨w.heap.size, 8, none⟩ = some (.slice a f.T.length c) ∧ w'.cell? ⟨w2.heap.size, 0, none⟩ = some (.int .i64 f.r) ∧ w'.cell? ⟨w2.heap.size, 1, none⟩ = some (.int .i64 f.a) ∧ w'.cell? ⟨w2.heap.size, 2, none⟩ = some (.int .i64 f.b) ∧ w'.cell? ⟨w2.heap.size, 3, none⟩ = some (.int .i64 f.e) ∧ w'.cell? ⟨w2.heap.size, 4, none⟩ = some (.int .i64 f.n) ∧ w'.cell? ⟨w2.heap.size, 5, none⟩ = some (.int .i64 f.x) ∧ w'.cell? ⟨w2.heap.size, 6, none⟩ = some (.slice (some ⟨g2, 0, none⟩) f.T.length c2)) w3.drew) := hide_ ⟨K1e.out.cell 2, K1e.out.cell 3, K1e.out.cell 4, K1e.out.cell 5, K1e.out.cell 6, K1e.out.cell 7, K1e.out.cell 8, K3e.out.cell 0, K3e.out.cell 1, K3e.out.cell 2, K3e.out.cell 3, K3e.out.cell 4, K3e.out.cell 5, K3e.out.cell 6⟩
  clear hr
  go_upto_region 6 with fail
  refine wp_region_last 15 (fun w' => w'.cell? ⟨w.heap.size, 2, none⟩ = some (.int .i64 f.r) ∧ w'.cell? ⟨w.heap.size, 3, none⟩ = some (.int .i64 f.a) ∧ w'.cell? ⟨w.heap.size, 4, none⟩ = some (.int .i64 f.b) ∧ w'.cell? ⟨w.heap.size, 5, none⟩ = some (.int .i64 f.e) ∧ w'.cell? ⟨w.heap.size, 6, none⟩ = some (.int .i64 f.n) ∧ w'.cell? ⟨w.heap.size, 7, none⟩ = some (.int .i64 f.x) ∧ w'.cell? ⟨w.heap.size, 8, none⟩ = some (.slice a f.T.length c) ∧ w'.cell? ⟨w2.heap.size, 0, none⟩ = some (.int .i64 f.r) ∧ w'.cell? ⟨w2.heap.size, 1, none⟩ = some (.int .i64 f.a) ∧ w'.cell? ⟨w2.heap.size, 2, none⟩ = some (.int .i64 f.b) ∧ w'.cell? ⟨w2.heap.size, 3, none⟩ = some (.int .i64 f.e) ∧ w'.cell? ⟨w2.heap.size, 4, none⟩ = some (.int .i64 f.n) ∧ w'.cell? ⟨w2.heap.size, 5, none⟩ = some (.int .i64 f.x) ∧ w'.cell? ⟨w2.heap.size, 6, none⟩ = some (.slice (some ⟨g2, 0, none⟩) f.T.length c2)) (by kernel_rfl) (HSS.out) (fun hHeld => ?_)
  refine wpAnyF_take [15] (by kernel_rfl) (i := 0) (v := ?vp1) rfl (by kernel_rfl) (by kernel_rfl) (by kernel_rfl) (fun _ _ _ h => h) (Or.inl ⟨by kernel_rfl, ?hyp1⟩) hHeld ?restp1
  case hyp1 => intro w' hSw; (try dsimp only at hSw); go_simp; try with_reducible rfl
  simp only [Act.put]
  try dsimp only
  refine wpAnyF_take [15] (by kernel_rfl) (i := 1) (v := ?vp2) rfl (by kernel_rfl) (by kernel_rfl) (by kernel_rfl) (fun _ _ _ h => h) (Or.inl ⟨by kernel_rfl, ?hyp2⟩) hHeld ?restp2
  case hyp2 => intro w' hSw; (try dsimp only at hSw); go_simp; try with_reducible rfl
  simp only [Act.put]
  try dsimp only
  refine wpAnyF_take [15] (by kernel_rfl) (i := 4) (v := ?vp3) rfl (by kernel_rfl) (by kernel_rfl) (by kernel_rfl) (fun _ _ _ h => h) (Or.inl ⟨by kernel_rfl, ?hyp3⟩) hHeld ?restp3
  case hyp3 => intro w' hSw; (try dsimp only at hSw); go_simp; try with_reducible rfl
  simp only [Act.put]
  try dsimp only
  refine wpAnyF_take [15] (by kernel_rfl) (i := 5) (v := ?vp4) rfl (by kernel_rfl) (by kernel_rfl) (by kernel_rfl) (fun _ _ _ h => h) (Or.inl ⟨by kernel_rfl, ?hyp4⟩) hHeld ?restp4
  case hyp4 => intro w' hSw; (try dsimp only at hSw); go_simp; try with_reducible rfl
  simp only [Act.put]
  try dsimp only
  refine wpAnyF_take [15] (by kernel_rfl) (i := 6) (v := ?vp5) rfl (by kernel_rfl) (by kernel_rfl) (by kernel_rfl) (fun _ _ _ h => h) (Or.inl ⟨by kernel_rfl, ?hyp5⟩) hHeld ?restp5
  case hyp5 => intro w' hSw; (try dsimp only at hSw); go_simp; try with_reducible rfl
  simp only [Act.put]
  try dsimp only
  refine wpAnyF_ready (rs := [2]) (by kernel_rfl) (by simp) ?_
  refine AllReadyF.cons rfl (fun K hK => ?_) AllReadyF.nil
  go_simp
  refine HPu.out.mono ?_
  rintro e w4 hto
  obtain ⟨er, fs', h', rfl, hst, hbo⟩ := push_both hto
  clear hto
  obtain ⟨S1, hT4, s1, s2⟩ := HT3.out.setP hi Hp.out hst
  have HU4 : Hid (Upd (S i) w3.drew w4) := hide_ (by obtain ⟨F', -, h, -⟩ := hst; exact h)
  have K1d := hide_ (K1e.out.upd HU4.out (fun e => by have := HSk.out i _ e; omega))
  have K3d := hide_ (K3e.out.upd HU4.out (fun e => by have := HSk.out i _ e; have := HG2.out; omega))
  have HO4 := hide_ (ownS_upd HO3e.out HU4.out (fun k hk e => by have h1 := World.ownsRow.lt HO3e.out k hk; have := HSk.out i k e; have := HG2.out; omega))
  have hb4 : Below B w3.drew w4 := HU4.out.below B (by have h1 := HB3.out.size; have h2 := HBw.out; show B ≤ w3.heap.size; omega) (fun k hk => (HSk.out i k hk).1)
  have HB4 := hide_ (HB3e.out.trans hb4)
  have hS1 : S1 (2 + i) = S (2 + i) := s1 _ (by omega)
  have hR4 := hT4.qs i hi
  rw [hy0.out, Hq.out] at hR4
  obtain ⟨gq', hq', hR4⟩ := hR4.open
  injection hq' with hq'
  injection hq' with hq'
  injection hq' with hq' _ _
  subst hq'
  dsimp only at hR4
  have HRp := hide_ (rpush_any w4 B (S1 (2 + i)) gq fs m h f a c (hide_ hR4) (hide_ (HFA.out w4 HB4.out)) (Nat.le_trans HBw.out HB4.out.size))
  have HT4 := hide_ hT4
  have HBo := hide_ hbo
  have HNum := hide_ (num_any er w4)
  have HS1 : Hid (∀ j k, S1 j k → k < w.heap.size ∨ w3.heap.size ≤ k) := hide_ (fun j k hk => by
    by_cases e : j = i
    · subst e
      rcases s2 k hk with e2 | e2
      · exact .inl (HSk.out j k e2).2.1
      · exact .inr e2
    · rw [s1 j e] at hk
      exact .inl (HSk.out j k hk).2.1)
  have HS1q : Hid (S1 (2 + i) = S (2 + i)) := hide_ hS1
  clear hst hbo hT4 s1 s2 hS1 hR4 hb4
  dsimp only
  refine hK.out _ _ (⟨K1d.out.cell 2, K1d.out.cell 3, K1d.out.cell 4, K1d.out.cell 5, K1d.out.cell 6, K1d.out.cell 7, K1d.out.cell 8, K3d.out.cell 0, K3d.out.cell 1, K3d.out.cell 2, K3d.out.cell 3, K3d.out.cell 4, K3d.out.cell 5, K3d.out.cell 6⟩) (fun hHeld => ?_)
  clear hK K
  refine wpAnyF_ready (rs := [3]) (by kernel_rfl) (by simp) ?_
  refine AllReadyF.cons rfl (fun K hK => ?_) AllReadyF.nil
  go_simp
  refine HNum.out.mono ?_
  rintro e w4x ⟨rfl, rfl⟩
  dsimp only
  refine hK.out _ _ (⟨K1d.out.cell 2, K1d.out.cell 3, K1d.out.cell 4, K1d.out.cell 5, K1d.out.cell 6, K1d.out.cell 7, K1d.out.cell 8, K3d.out.cell 0, K3d.out.cell 1, K3d.out.cell 2, K3d.out.cell 3, K3d.out.cell 4, K3d.out.cell 5, K3d.out.cell 6⟩) (fun hHeld => ?_)
  clear hK K
  refine wpAnyF_ready (rs := [7]) (by kernel_rfl) (by simp) ?_
  refine AllReadyF.cons rfl (fun K hK => ?_) AllReadyF.nil
  go_simp
  refine HRp.out.mono ?_
  rintro e w5 hto
  obtain ⟨rfl, hst⟩ := HBo.out _ _ _ _ _ hto
  clear hto
  obtain ⟨S2, hT5, s1, s2⟩ := HT4.out.setQ hi Hq.out hst
  have HU5 : Hid (Upd (S (2 + i)) w4 w5) := hide_ (by obtain ⟨F', -, h, -⟩ := hst; rw [HS1q.out] at h; exact h)
  have K1f := hide_ (K1d.out.upd HU5.out (fun e => by have := HSk.out (2 + i) _ e; omega))
  have K3f := hide_ (K3d.out.upd HU5.out (fun e => by have := HSk.out (2 + i) _ e; have := HG2.out; omega))
  have HO5 := hide_ (ownS_upd HO4.out HU5.out (fun k hk e => by have h1 := World.ownsRow.lt HO4.out k hk; have := HSk.out (2 + i) k e; have := HG2.out; omega))
  have hb5 : Below B w4 w5 := HU5.out.below B (Nat.le_trans HBw.out HB4.out.size) (fun k hk => (HSk.out (2 + i) k hk).1)
  have HB5 := hide_ (HB4.out.trans hb5)
  have HS2 : Hid (∀ j k, S2 j k → k < w.heap.size ∨ w3.heap.size ≤ k) := hide_ (fun j k hk => by
    by_cases e : j = 2 + i
    · subst e
      rcases s2 k hk with e2 | e2
      · exact HS1.out _ k e2
      · have := HU4.out.size
        have e3 : w3.heap.size ≤ w4.heap.size := this
        exact .inr (by omega)
    · rw [s1 j e] at hk
      exact HS1.out j k hk)
  have HT5 := hide_ hT5
  have HOv := hide_ (over_any f g2 c2 a c w5 w1.heap.size HO5 (hide_ (HFA.out w5 HB5.out)) (by omega))
  clear hst hT5 s1 s2 hb5
  dsimp only
  refine hK.out _ _ (⟨K1f.out.cell 2, K1f.out.cell 3, K1f.out.cell 4, K1f.out.cell 5, K1f.out.cell 6, K1f.out.cell 7, K1f.out.cell 8, K3f.out.cell 0, K3f.out.cell 1, K3f.out.cell 2, K3f.out.cell 3, K3f.out.cell 4, K3f.out.cell 5, K3f.out.cell 6⟩) (fun hHeld => ?_)
  clear hK K
  refine wpAnyF_take [15] (by kernel_rfl) (i := 8) (v := ?vp6) rfl (by kernel_rfl) (by kernel_rfl) (by kernel_rfl) (fun _ _ _ h => h) (Or.inl ⟨by kernel_rfl, ?hyp6⟩) hHeld ?restp6
  case hyp6 => intro w' hSw; (try dsimp only at hSw); go_simp; try with_reducible rfl
  simp only [Act.put]
  try dsimp only
  refine wpAnyF_take [15] (by kernel_rfl) (i := 9) (v := ?vp7) rfl (by kernel_rfl) (by kernel_rfl) (by kernel_rfl) (fun _ _ _ h => h) (Or.inl ⟨by kernel_rfl, ?hyp7⟩) hHeld ?restp7
  case hyp7 => intro w' hSw; (try dsimp only at hSw); go_simp; try with_reducible rfl
  simp only [Act.put]
  try dsimp only
  refine wpAnyF_take [15] (by kernel_rfl) (i := 10) (v := ?vp8) rfl (by kernel_rfl) (by kernel_rfl) (by kernel_rfl) (fun _ _ _ h => h) (Or.inl ⟨by kernel_rfl, ?hyp8⟩) hHeld ?restp8
  case hyp8 => intro w' hSw; (try dsimp only at hSw); go_simp; try with_reducible rfl
  simp only [Act.put]
  try dsimp only
  refine wpAnyF_take [15] (by kernel_rfl) (i := 11) (v := ?vp9) rfl (by kernel_rfl) (by kernel_rfl) (by kernel_rfl) (fun _ _ _ h => h) (Or.inl ⟨by kernel_rfl, ?hyp9⟩) hHeld ?restp9
  case hyp9 => intro w' hSw; (try dsimp only at hSw); go_simp; try with_reducible rfl
  simp only [Act.put]
  try dsimp only
  refine wpAnyF_take [15] (by kernel_rfl) (i := 12) (v := ?vp10) rfl (by kernel_rfl) (by kernel_rfl) (by kernel_rfl) (fun _ _ _ h => h) (Or.inl ⟨by kernel_rfl, ?hyp10⟩) hHeld ?restp10
  case hyp10 => intro w' hSw; (try dsimp only at hSw); go_simp; try with_reducible rfl
  simp only [Act.put]
  try dsimp only
  refine wpAnyF_ready (rs := [13]) (by kernel_rfl) (by simp) ?_
  refine AllReadyF.cons rfl (fun K hK => ?_) AllReadyF.nil
  go_simp
  refine HOv.out.mono ?_
  rintro e w6 ⟨rfl, HU6⟩
  have K1g := hide_ (K1f.out.upd HU6.out (show ¬ w.heap.size = g2 by have := HG2.out; omega))
  have K3g := hide_ (K3f.out.upd HU6.out (show ¬ w2.heap.size = g2 by have := HG2.out; omega))
  have hT6 := HT5.out.upd HU6.out (show ¬ bt = g2 by have := HG2.out; have := HBd.out; omega) (fun j k hk e => by have := HS2.out j k hk; have := HG2.out; omega)
  have hb6 : Below B w w6 := HB5.out.trans (HU6.out.below B (Nat.le_trans HBw.out HB5.out.size) (fun k hk => by have := HG2.out; have := HBw.out; omega))
  have HT6 := hide_ hT6
  have HB6 := hide_ hb6
  clear hT6 hb6
  dsimp only
  refine hK.out _ _ (⟨K1g.out.cell 2, K1g.out.cell 3, K1g.out.cell 4, K1g.out.cell 5, K1g.out.cell 6, K1g.out.cell 7, K1g.out.cell 8, K3g.out.cell 0, K3g.out.cell 1, K3g.out.cell 2, K3g.out.cell 3, K3g.out.cell 4, K3g.out.cell 5, K3g.out.cell 6⟩) (fun hHeld => ?_)
  clear hK K
  refine wpAnyF_take [15] (by kernel_rfl) (i := 14) (v := ?vp11) rfl (by kernel_rfl) (by kernel_rfl) (by kernel_rfl) (fun _ _ _ h => h) (Or.inl ⟨by kernel_rfl, ?hyp11⟩) hHeld ?restp11
  case hyp11 => intro w' hSw; (try dsimp only at hSw); go_simp; try with_reducible rfl
  simp only [Act.put]
  try dsimp only
  refine wpAnyF_ready (rs := [15]) (by kernel_rfl) (by simp) ?_
  refine AllReadyF.last rfl (fun K hK => ?_)
  go_simp
  refine hK.out _ _ ?_
  clear hK K
  refine wpAnyF_done (by kernel_rfl) ?_ _
  go_wp2_with fail
  go_ret
  refine ⟨rfl, hide_ ⟨_, _, HT6.out.mono (by omega), fun j y hy => ?_, HB6.out⟩⟩
  by_cases e : j = i
  · subst e; exact ⟨_, up1_at _ _ _⟩
  · exact ⟨y, by rw [up1_ne _ _ e]; exact hy⟩
set_option maxRecDepth 100000 in
set_option maxHeartbeats 16000000 in
theorem moves_set (B bt i : Nat) (p q : Nat → Value) (xs : Nat → Option Sk) (N : Nat) (S : Nat → Nat → Prop) (y : Sk) (wh : Bool) (f : Fr) (a : Option Addr) (c : Nat) (n : Int) (ab : Option Addr) (nb cb : Nat) (w : World) (hT : Hid (Tab B w bt p q xs xs N S)) (hi : i < 2) (hy : xs i = some y) (HFA : Hid (∀ w', Below B w w' → FrA w' f a c)) (hl : f.T.length ≤ 1000000) (hN : N ≤ 790) :
    Calls Try.prog 41 #[.pointer (some ⟨bt, 0, none⟩), .int .i64 (i : Int), .agg #[.int .i64 5, .bool wh, .int .i64 f.r, .int .i64 f.a, .int .i64 f.b, .int .i64 f.e, .int .i64 f.n, .int .i64 f.x, .slice a f.T.length c, .int .i64 n, .slice ab nb cb]] w fun e w' => e = .returned (.bool true) ∧ Hid (PmTo B w w' bt p q xs (N + 1)) := by
  obtain ⟨fs, m, h⟩ := y
  have hQ := hT.out.qs i hi
  have hP := hT.out.ps i hi
  rw [hy] at hP hQ
  obtain ⟨gp, hp, hS⟩ := hP.open
  obtain ⟨gq, hq, hR⟩ := hQ.open
  dsimp only at hS hR
  have HS := hide_ hS
  have HBd := hide_ hT.out.lt
  have HBw := hide_ hT.out.base
  have HSk : Hid (∀ j k, S j k → B ≤ k ∧ k < w.heap.size ∧ k ≠ bt) := hide_ hT.out.ly
  have hi' : (i : Int) < 2 := by omega
  obtain ⟨w1, hw1⟩ : ∃ wx, wx = w.alloc (.cells #[.int .i64 5, .bool wh, .int .i64 f.r, .int .i64 f.a, .int .i64 f.b, .int .i64 f.e, .int .i64 f.n, .int .i64 f.x, .slice a f.T.length c, .int .i64 n, .slice ab nb cb] 63) := ⟨_, rfl⟩
  have hB1 : Below w.heap.size w w1 := by rw [hw1]; exact below1 _ _
  have K1 : Hid (Blk w1 w.heap.size 63 [.int .i64 5, .bool wh, .int .i64 f.r, .int .i64 f.a, .int .i64 f.b, .int .i64 f.e, .int .i64 f.n, .int .i64 f.x, .slice a f.T.length c, .int .i64 n, .slice ab nb cb]) := hide_ (by rw [hw1]; exact Blk.newA w _ _)
  have hT1 := hT.out.later hB1
  have c0 := (hT1.cellP i hi).1
  have c1 := hT1.cellQ i hi
  rw [hp] at c0
  rw [hq] at c1
  have HB1 := hide_ hB1
  have HLent := hide_ (lent_any f a c w1 (hide_ (HFA.out w1 (hB1.mono HBw.out))) (by omega))
  have Hp := hide_ hp
  have Hq := hide_ hq
  have hy0 := hide_ hy
  have o2 := K1.out.cell 2; have o3 := K1.out.cell 3; have o4 := K1.out.cell 4; have o5 := K1.out.cell 5; have o6 := K1.out.cell 6; have o7 := K1.out.cell 7; have o8 := K1.out.cell 8
  simp at o2 o3 o4 o5 o6 o7 o8
  clear hP hQ hS hR hp hq hy hT1 hB1
  go_enter Try.func41, Try.ntmps41
  go_upto_region 1 with fail
  rw [← hw1]
  clear hw1
  go_wp2_with fail
  refine HLent.out.mono ?_
  rintro e w2 ⟨g2, c2, rfl, HO2, HB2⟩
  obtain ⟨w3, hw3⟩ : ∃ wx, wx = w2.alloc (.cells #[.int .i64 f.r, .int .i64 f.a, .int .i64 f.b, .int .i64 f.e, .int .i64 f.n, .int .i64 f.x, .slice (some ⟨g2, 0, none⟩) f.T.length c2] 39) := ⟨_, rfl⟩
  have hB3 : Below w2.heap.size w2 w3 := by rw [hw3]; exact below1 _ _
  have K3 : Hid (Blk w3 w2.heap.size 39 (frc (f, .slice (some ⟨g2, 0, none⟩) f.T.length c2))) := hide_ (by rw [hw3]; exact Blk.newA w2 _ _)
  have hb13 := below_to HB2.out hB3
  have HB3 := hide_ (below_to HB1.out hb13)
  have K1c := hide_ (K1.out.later hb13)
  have HO3 : Hid (IOwn w3 w1.heap.size (.slice (some ⟨g2, 0, none⟩) (f.T.length + 1) c2) (f.T ++ [23130])) := hide_ (HO2.out.later hB3)
  have HG2 : Hid (w.heap.size < w1.heap.size ∧ w1.heap.size ≤ g2 ∧ g2 < w2.heap.size ∧ w1.heap.size ≤ w2.heap.size ∧ w2.heap.size < w3.heap.size) := hide_ (by
    have h1 := World.ownsRow.lt HO2.out g2 rfl
    have h2 := K1.out.lt
    have h3 := K3.out.lt
    have h4 := HB2.out.size
    omega)
  clear hB3 hb13 HLent HO2 o2 o3 o4 o5 o6 o7 o8 c0 c1
  have o0 := K1c.out.cell 0
  simp at o0
  go_upto_region 4 with fail
  rw [← hw3]
  clear hw3
  have HT3 := hide_ ((hT.out.later HB3.out).later (w' := w3.drew) ((Below.refl w3.heap.size w3).drew))
  have hr := (Below.refl w3.heap.size w3).drew
  have HB3e := hide_ ((below_to HB3.out hr).mono HBw.out)
  have K1e := hide_ (K1c.out.later hr)
  have K3e := hide_ (K3.out.later hr)
  have HO3e := hide_ (HO3.out.later hr)
  have HSr := hide_ (HS.out.later (below_to HB3.out hr))
  have HFb : Hid (FrA w3.drew f (some ⟨g2, 0, none⟩) c2) := hide_ (by
    obtain ⟨a', c', e, hr, hn, -⟩ := IOwn.row HO3e.out
    injection e with e _ e3
    subst e
    exact ⟨row_pre hr, (fun h => by cases h), by unfold maxLen; omega⟩)
  have HPu := hide_ (set_any w3.drew B (S i) gp fs m h f (some ⟨g2, 0, none⟩) c2 HSr HFb (show B ≤ w3.heap.size from Nat.le_trans HBw.out HB3.out.size))
  have HSS : Hid ((fun w' => w'.cell? ⟨w.heap.size, 2, none⟩ = some (.int .i64 f.r) ∧ w'.cell? ⟨w.heap.size, 3, none⟩ = some (.int .i64 f.a) ∧ w'.cell? ⟨w.heap.size, 4, none⟩ = some (.int .i64 f.b) ∧ w'.cell? ⟨w.heap.size, 5, none⟩ = some (.int .i64 f.e) ∧ w'.cell? ⟨w.heap.size, 6, none⟩ = some (.int .i64 f.n) ∧ w'.cell? ⟨w.heap.size, 7, none⟩ = some (.int .i64 f.x) ∧ w'.cell? ⟨w.heap.size, 8, none⟩ = some (.slice a f.T.length c) ∧ w'.cell? ⟨w2.heap.size, 0, none⟩ = some (.int .i64 f.r) ∧ w'.cell? ⟨w2.heap.size, 1, none⟩ = some (.int .i64 f.a) ∧ w'.cell? ⟨w2.heap.size, 2, none⟩ = some (.int .i64 f.b) ∧ w'.cell? ⟨w2.heap.size, 3, none⟩ = some (.int .i64 f.e) ∧ w'.cell? ⟨w2.heap.size, 4, none⟩ = some (.int .i64 f.n) ∧ w'.cell? ⟨w2.heap.size, 5, none⟩ = some (.int .i64 f.x) ∧ w'.cell? ⟨w2.heap.size, 6, none⟩ = some (.slice (some ⟨g2, 0, none⟩) f.T.length c2)) w3.drew) := hide_ ⟨K1e.out.cell 2, K1e.out.cell 3, K1e.out.cell 4, K1e.out.cell 5, K1e.out.cell 6, K1e.out.cell 7, K1e.out.cell 8, K3e.out.cell 0, K3e.out.cell 1, K3e.out.cell 2, K3e.out.cell 3, K3e.out.cell 4, K3e.out.cell 5, K3e.out.cell 6⟩
  clear hr
  go_upto_region 14 with fail
  refine wp_region_last 15 (fun w' => w'.cell? ⟨w.heap.size, 2, none⟩ = some (.int .i64 f.r) ∧ w'.cell? ⟨w.heap.size, 3, none⟩ = some (.int .i64 f.a) ∧ w'.cell? ⟨w.heap.size, 4, none⟩ = some (.int .i64 f.b) ∧ w'.cell? ⟨w.heap.size, 5, none⟩ = some (.int .i64 f.e) ∧ w'.cell? ⟨w.heap.size, 6, none⟩ = some (.int .i64 f.n) ∧ w'.cell? ⟨w.heap.size, 7, none⟩ = some (.int .i64 f.x) ∧ w'.cell? ⟨w.heap.size, 8, none⟩ = some (.slice a f.T.length c) ∧ w'.cell? ⟨w2.heap.size, 0, none⟩ = some (.int .i64 f.r) ∧ w'.cell? ⟨w2.heap.size, 1, none⟩ = some (.int .i64 f.a) ∧ w'.cell? ⟨w2.heap.size, 2, none⟩ = some (.int .i64 f.b) ∧ w'.cell? ⟨w2.heap.size, 3, none⟩ = some (.int .i64 f.e) ∧ w'.cell? ⟨w2.heap.size, 4, none⟩ = some (.int .i64 f.n) ∧ w'.cell? ⟨w2.heap.size, 5, none⟩ = some (.int .i64 f.x) ∧ w'.cell? ⟨w2.heap.size, 6, none⟩ = some (.slice (some ⟨g2, 0, none⟩) f.T.length c2)) (by kernel_rfl) (HSS.out) (fun hHeld => ?_)
  refine wpAnyF_take [15] (by kernel_rfl) (i := 0) (v := ?vp1) rfl (by kernel_rfl) (by kernel_rfl) (by kernel_rfl) (fun _ _ _ h => h) (Or.inl ⟨by kernel_rfl, ?hyp1⟩) hHeld ?restp1
  case hyp1 => intro w' hSw; (try dsimp only at hSw); go_simp; try with_reducible rfl
  simp only [Act.put]
  try dsimp only
  refine wpAnyF_take [15] (by kernel_rfl) (i := 1) (v := ?vp2) rfl (by kernel_rfl) (by kernel_rfl) (by kernel_rfl) (fun _ _ _ h => h) (Or.inl ⟨by kernel_rfl, ?hyp2⟩) hHeld ?restp2
  case hyp2 => intro w' hSw; (try dsimp only at hSw); go_simp; try with_reducible rfl
  simp only [Act.put]
  try dsimp only
  refine wpAnyF_take [15] (by kernel_rfl) (i := 4) (v := ?vp3) rfl (by kernel_rfl) (by kernel_rfl) (by kernel_rfl) (fun _ _ _ h => h) (Or.inl ⟨by kernel_rfl, ?hyp3⟩) hHeld ?restp3
  case hyp3 => intro w' hSw; (try dsimp only at hSw); go_simp; try with_reducible rfl
  simp only [Act.put]
  try dsimp only
  refine wpAnyF_take [15] (by kernel_rfl) (i := 5) (v := ?vp4) rfl (by kernel_rfl) (by kernel_rfl) (by kernel_rfl) (fun _ _ _ h => h) (Or.inl ⟨by kernel_rfl, ?hyp4⟩) hHeld ?restp4
  case hyp4 => intro w' hSw; (try dsimp only at hSw); go_simp; try with_reducible rfl
  simp only [Act.put]
  try dsimp only
  refine wpAnyF_take [15] (by kernel_rfl) (i := 6) (v := ?vp5) rfl (by kernel_rfl) (by kernel_rfl) (by kernel_rfl) (fun _ _ _ h => h) (Or.inl ⟨by kernel_rfl, ?hyp5⟩) hHeld ?restp5
  case hyp5 => intro w' hSw; (try dsimp only at hSw); go_simp; try with_reducible rfl
  simp only [Act.put]
  try dsimp only
  refine wpAnyF_ready (rs := [2]) (by kernel_rfl) (by simp) ?_
  refine AllReadyF.cons rfl (fun K hK => ?_) AllReadyF.nil
  go_simp
  refine HPu.out.mono ?_
  rintro e w4 hto
  obtain ⟨er, fs', h', rfl, hst, hbo⟩ := set_both hto
  clear hto
  obtain ⟨S1, hT4, s1, s2⟩ := HT3.out.setP hi Hp.out hst
  have HU4 : Hid (Upd (S i) w3.drew w4) := hide_ (by obtain ⟨F', -, h, -⟩ := hst; exact h)
  have K1d := hide_ (K1e.out.upd HU4.out (fun e => by have := HSk.out i _ e; omega))
  have K3d := hide_ (K3e.out.upd HU4.out (fun e => by have := HSk.out i _ e; have := HG2.out; omega))
  have HO4 := hide_ (ownS_upd HO3e.out HU4.out (fun k hk e => by have h1 := World.ownsRow.lt HO3e.out k hk; have := HSk.out i k e; have := HG2.out; omega))
  have hb4 : Below B w3.drew w4 := HU4.out.below B (by have h1 := HB3.out.size; have h2 := HBw.out; show B ≤ w3.heap.size; omega) (fun k hk => (HSk.out i k hk).1)
  have HB4 := hide_ (HB3e.out.trans hb4)
  have hS1 : S1 (2 + i) = S (2 + i) := s1 _ (by omega)
  have hR4 := hT4.qs i hi
  rw [hy0.out, Hq.out] at hR4
  obtain ⟨gq', hq', hR4⟩ := hR4.open
  injection hq' with hq'
  injection hq' with hq'
  injection hq' with hq' _ _
  subst hq'
  dsimp only at hR4
  have HRp := hide_ (rset_any w4 B (S1 (2 + i)) gq fs m h f a c (hide_ hR4) (hide_ (HFA.out w4 HB4.out)) (Nat.le_trans HBw.out HB4.out.size))
  have HT4 := hide_ hT4
  have HBo := hide_ hbo
  have HNum := hide_ (num_any er w4)
  have HS1 : Hid (∀ j k, S1 j k → k < w.heap.size ∨ w3.heap.size ≤ k) := hide_ (fun j k hk => by
    by_cases e : j = i
    · subst e
      rcases s2 k hk with e2 | e2
      · exact .inl (HSk.out j k e2).2.1
      · exact .inr e2
    · rw [s1 j e] at hk
      exact .inl (HSk.out j k hk).2.1)
  have HS1q : Hid (S1 (2 + i) = S (2 + i)) := hide_ hS1
  clear hst hbo hT4 s1 s2 hS1 hR4 hb4
  dsimp only
  refine hK.out _ _ (⟨K1d.out.cell 2, K1d.out.cell 3, K1d.out.cell 4, K1d.out.cell 5, K1d.out.cell 6, K1d.out.cell 7, K1d.out.cell 8, K3d.out.cell 0, K3d.out.cell 1, K3d.out.cell 2, K3d.out.cell 3, K3d.out.cell 4, K3d.out.cell 5, K3d.out.cell 6⟩) (fun hHeld => ?_)
  clear hK K
  refine wpAnyF_ready (rs := [3]) (by kernel_rfl) (by simp) ?_
  refine AllReadyF.cons rfl (fun K hK => ?_) AllReadyF.nil
  go_simp
  refine HNum.out.mono ?_
  rintro e w4x ⟨rfl, rfl⟩
  dsimp only
  refine hK.out _ _ (⟨K1d.out.cell 2, K1d.out.cell 3, K1d.out.cell 4, K1d.out.cell 5, K1d.out.cell 6, K1d.out.cell 7, K1d.out.cell 8, K3d.out.cell 0, K3d.out.cell 1, K3d.out.cell 2, K3d.out.cell 3, K3d.out.cell 4, K3d.out.cell 5, K3d.out.cell 6⟩) (fun hHeld => ?_)
  clear hK K
  refine wpAnyF_ready (rs := [7]) (by kernel_rfl) (by simp) ?_
  refine AllReadyF.cons rfl (fun K hK => ?_) AllReadyF.nil
  go_simp
  refine HRp.out.mono ?_
  rintro e w5 hto
  obtain ⟨rfl, hst⟩ := HBo.out _ _ _ _ _ hto
  clear hto
  obtain ⟨S2, hT5, s1, s2⟩ := HT4.out.setQ hi Hq.out hst
  have HU5 : Hid (Upd (S (2 + i)) w4 w5) := hide_ (by obtain ⟨F', -, h, -⟩ := hst; rw [HS1q.out] at h; exact h)
  have K1f := hide_ (K1d.out.upd HU5.out (fun e => by have := HSk.out (2 + i) _ e; omega))
  have K3f := hide_ (K3d.out.upd HU5.out (fun e => by have := HSk.out (2 + i) _ e; have := HG2.out; omega))
  have HO5 := hide_ (ownS_upd HO4.out HU5.out (fun k hk e => by have h1 := World.ownsRow.lt HO4.out k hk; have := HSk.out (2 + i) k e; have := HG2.out; omega))
  have hb5 : Below B w4 w5 := HU5.out.below B (Nat.le_trans HBw.out HB4.out.size) (fun k hk => (HSk.out (2 + i) k hk).1)
  have HB5 := hide_ (HB4.out.trans hb5)
  have HS2 : Hid (∀ j k, S2 j k → k < w.heap.size ∨ w3.heap.size ≤ k) := hide_ (fun j k hk => by
    by_cases e : j = 2 + i
    · subst e
      rcases s2 k hk with e2 | e2
      · exact HS1.out _ k e2
      · have := HU4.out.size
        have e3 : w3.heap.size ≤ w4.heap.size := this
        exact .inr (by omega)
    · rw [s1 j e] at hk
      exact HS1.out j k hk)
  have HT5 := hide_ hT5
  have HOv := hide_ (over_any f g2 c2 a c w5 w1.heap.size HO5 (hide_ (HFA.out w5 HB5.out)) (by omega))
  clear hst hT5 s1 s2 hb5
  dsimp only
  refine hK.out _ _ (⟨K1f.out.cell 2, K1f.out.cell 3, K1f.out.cell 4, K1f.out.cell 5, K1f.out.cell 6, K1f.out.cell 7, K1f.out.cell 8, K3f.out.cell 0, K3f.out.cell 1, K3f.out.cell 2, K3f.out.cell 3, K3f.out.cell 4, K3f.out.cell 5, K3f.out.cell 6⟩) (fun hHeld => ?_)
  clear hK K
  refine wpAnyF_take [15] (by kernel_rfl) (i := 8) (v := ?vp6) rfl (by kernel_rfl) (by kernel_rfl) (by kernel_rfl) (fun _ _ _ h => h) (Or.inl ⟨by kernel_rfl, ?hyp6⟩) hHeld ?restp6
  case hyp6 => intro w' hSw; (try dsimp only at hSw); go_simp; try with_reducible rfl
  simp only [Act.put]
  try dsimp only
  refine wpAnyF_take [15] (by kernel_rfl) (i := 9) (v := ?vp7) rfl (by kernel_rfl) (by kernel_rfl) (by kernel_rfl) (fun _ _ _ h => h) (Or.inl ⟨by kernel_rfl, ?hyp7⟩) hHeld ?restp7
  case hyp7 => intro w' hSw; (try dsimp only at hSw); go_simp; try with_reducible rfl
  simp only [Act.put]
  try dsimp only
  refine wpAnyF_take [15] (by kernel_rfl) (i := 10) (v := ?vp8) rfl (by kernel_rfl) (by kernel_rfl) (by kernel_rfl) (fun _ _ _ h => h) (Or.inl ⟨by kernel_rfl, ?hyp8⟩) hHeld ?restp8
  case hyp8 => intro w' hSw; (try dsimp only at hSw); go_simp; try with_reducible rfl
  simp only [Act.put]
  try dsimp only
  refine wpAnyF_take [15] (by kernel_rfl) (i := 11) (v := ?vp9) rfl (by kernel_rfl) (by kernel_rfl) (by kernel_rfl) (fun _ _ _ h => h) (Or.inl ⟨by kernel_rfl, ?hyp9⟩) hHeld ?restp9
  case hyp9 => intro w' hSw; (try dsimp only at hSw); go_simp; try with_reducible rfl
  simp only [Act.put]
  try dsimp only
  refine wpAnyF_take [15] (by kernel_rfl) (i := 12) (v := ?vp10) rfl (by kernel_rfl) (by kernel_rfl) (by kernel_rfl) (fun _ _ _ h => h) (Or.inl ⟨by kernel_rfl, ?hyp10⟩) hHeld ?restp10
  case hyp10 => intro w' hSw; (try dsimp only at hSw); go_simp; try with_reducible rfl
  simp only [Act.put]
  try dsimp only
  refine wpAnyF_ready (rs := [13]) (by kernel_rfl) (by simp) ?_
  refine AllReadyF.cons rfl (fun K hK => ?_) AllReadyF.nil
  go_simp
  refine HOv.out.mono ?_
  rintro e w6 ⟨rfl, HU6⟩
  have K1g := hide_ (K1f.out.upd HU6.out (show ¬ w.heap.size = g2 by have := HG2.out; omega))
  have K3g := hide_ (K3f.out.upd HU6.out (show ¬ w2.heap.size = g2 by have := HG2.out; omega))
  have hT6 := HT5.out.upd HU6.out (show ¬ bt = g2 by have := HG2.out; have := HBd.out; omega) (fun j k hk e => by have := HS2.out j k hk; have := HG2.out; omega)
  have hb6 : Below B w w6 := HB5.out.trans (HU6.out.below B (Nat.le_trans HBw.out HB5.out.size) (fun k hk => by have := HG2.out; have := HBw.out; omega))
  have HT6 := hide_ hT6
  have HB6 := hide_ hb6
  clear hT6 hb6
  dsimp only
  refine hK.out _ _ (⟨K1g.out.cell 2, K1g.out.cell 3, K1g.out.cell 4, K1g.out.cell 5, K1g.out.cell 6, K1g.out.cell 7, K1g.out.cell 8, K3g.out.cell 0, K3g.out.cell 1, K3g.out.cell 2, K3g.out.cell 3, K3g.out.cell 4, K3g.out.cell 5, K3g.out.cell 6⟩) (fun hHeld => ?_)
  clear hK K
  refine wpAnyF_take [15] (by kernel_rfl) (i := 14) (v := ?vp11) rfl (by kernel_rfl) (by kernel_rfl) (by kernel_rfl) (fun _ _ _ h => h) (Or.inl ⟨by kernel_rfl, ?hyp11⟩) hHeld ?restp11
  case hyp11 => intro w' hSw; (try dsimp only at hSw); go_simp; try with_reducible rfl
  simp only [Act.put]
  try dsimp only
  refine wpAnyF_ready (rs := [15]) (by kernel_rfl) (by simp) ?_
  refine AllReadyF.last rfl (fun K hK => ?_)
  go_simp
  refine hK.out _ _ ?_
  clear hK K
  refine wpAnyF_done (by kernel_rfl) ?_ _
  go_wp2_with fail
  go_ret
  refine ⟨rfl, hide_ ⟨_, _, HT6.out.mono (by omega), fun j y hy => ?_, HB6.out⟩⟩
  by_cases e : j = i
  · subst e; exact ⟨_, up1_at _ _ _⟩
  · exact ⟨y, by rw [up1_ne _ _ e]; exact hy⟩
set_option maxRecDepth 100000 in
set_option maxHeartbeats 16000000 in
theorem moves_go (B bt i : Nat) (p q : Nat → Value) (xs : Nat → Option Sk) (N : Nat) (S : Nat → Nat → Prop) (y : Sk) (wh : Bool) (f : Fr) (a : Option Addr) (c : Nat) (n : Int) (ab : Option Addr) (nb cb : Nat) (w : World) (hT : Hid (Tab B w bt p q xs xs N S)) (hi : i < 2) (hy : xs i = some y) (HFA : Hid (∀ w', Below B w w' → FrA w' f a c)) (hl : f.T.length ≤ 1000000) (hN : N ≤ 790) :
    Calls Try.prog 41 #[.pointer (some ⟨bt, 0, none⟩), .int .i64 (i : Int), .agg #[.int .i64 6, .bool wh, .int .i64 f.r, .int .i64 f.a, .int .i64 f.b, .int .i64 f.e, .int .i64 f.n, .int .i64 f.x, .slice a f.T.length c, .int .i64 n, .slice ab nb cb]] w fun e w' => e = .returned (.bool true) ∧ Hid (PmTo B w w' bt p q xs (N + 1)) := by
  obtain ⟨fs, m, h⟩ := y
  have hQ := hT.out.qs i hi
  have hP := hT.out.ps i hi
  rw [hy] at hP hQ
  obtain ⟨gp, hp, hS⟩ := hP.open
  obtain ⟨gq, hq, hR⟩ := hQ.open
  dsimp only at hS hR
  have HS := hide_ hS
  have HBd := hide_ hT.out.lt
  have HBw := hide_ hT.out.base
  have HSk : Hid (∀ j k, S j k → B ≤ k ∧ k < w.heap.size ∧ k ≠ bt) := hide_ hT.out.ly
  have hi' : (i : Int) < 2 := by omega
  obtain ⟨w1, hw1⟩ : ∃ wx, wx = w.alloc (.cells #[.int .i64 6, .bool wh, .int .i64 f.r, .int .i64 f.a, .int .i64 f.b, .int .i64 f.e, .int .i64 f.n, .int .i64 f.x, .slice a f.T.length c, .int .i64 n, .slice ab nb cb] 63) := ⟨_, rfl⟩
  have hB1 : Below w.heap.size w w1 := by rw [hw1]; exact below1 _ _
  have K1 : Hid (Blk w1 w.heap.size 63 [.int .i64 6, .bool wh, .int .i64 f.r, .int .i64 f.a, .int .i64 f.b, .int .i64 f.e, .int .i64 f.n, .int .i64 f.x, .slice a f.T.length c, .int .i64 n, .slice ab nb cb]) := hide_ (by rw [hw1]; exact Blk.newA w _ _)
  have hT1 := hT.out.later hB1
  have c0 := (hT1.cellP i hi).1
  have c1 := hT1.cellQ i hi
  rw [hp] at c0
  rw [hq] at c1
  have HB1 := hide_ hB1
  have HLent := hide_ (lent_any f a c w1 (hide_ (HFA.out w1 (hB1.mono HBw.out))) (by omega))
  have Hp := hide_ hp
  have Hq := hide_ hq
  have hy0 := hide_ hy
  have o2 := K1.out.cell 2; have o3 := K1.out.cell 3; have o4 := K1.out.cell 4; have o5 := K1.out.cell 5; have o6 := K1.out.cell 6; have o7 := K1.out.cell 7; have o8 := K1.out.cell 8
  simp at o2 o3 o4 o5 o6 o7 o8
  clear hP hQ hS hR hp hq hy hT1 hB1
  go_enter Try.func41, Try.ntmps41
  go_upto_region 1 with fail
  rw [← hw1]
  clear hw1
  go_wp2_with fail
  refine HLent.out.mono ?_
  rintro e w2 ⟨g2, c2, rfl, HO2, HB2⟩
  obtain ⟨w3, hw3⟩ : ∃ wx, wx = w2.alloc (.cells #[.int .i64 f.r, .int .i64 f.a, .int .i64 f.b, .int .i64 f.e, .int .i64 f.n, .int .i64 f.x, .slice (some ⟨g2, 0, none⟩) f.T.length c2] 39) := ⟨_, rfl⟩
  have hB3 : Below w2.heap.size w2 w3 := by rw [hw3]; exact below1 _ _
  have K3 : Hid (Blk w3 w2.heap.size 39 (frc (f, .slice (some ⟨g2, 0, none⟩) f.T.length c2))) := hide_ (by rw [hw3]; exact Blk.newA w2 _ _)
  have hb13 := below_to HB2.out hB3
  have HB3 := hide_ (below_to HB1.out hb13)
  have K1c := hide_ (K1.out.later hb13)
  have HO3 : Hid (IOwn w3 w1.heap.size (.slice (some ⟨g2, 0, none⟩) (f.T.length + 1) c2) (f.T ++ [23130])) := hide_ (HO2.out.later hB3)
  have HG2 : Hid (w.heap.size < w1.heap.size ∧ w1.heap.size ≤ g2 ∧ g2 < w2.heap.size ∧ w1.heap.size ≤ w2.heap.size ∧ w2.heap.size < w3.heap.size) := hide_ (by
    have h1 := World.ownsRow.lt HO2.out g2 rfl
    have h2 := K1.out.lt
    have h3 := K3.out.lt
    have h4 := HB2.out.size
    omega)
  clear hB3 hb13 HLent HO2 o2 o3 o4 o5 o6 o7 o8 c0 c1
  have o0 := K1c.out.cell 0
  simp at o0
  go_upto_region 4 with fail
  rw [← hw3]
  clear hw3
  have HT3 := hide_ ((hT.out.later HB3.out).later (w' := w3.drew) ((Below.refl w3.heap.size w3).drew))
  have hr := (Below.refl w3.heap.size w3).drew
  have HB3e := hide_ ((below_to HB3.out hr).mono HBw.out)
  have K1e := hide_ (K1c.out.later hr)
  have K3e := hide_ (K3.out.later hr)
  have HO3e := hide_ (HO3.out.later hr)
  have HSr := hide_ (HS.out.later (below_to HB3.out hr))
  have HPu := hide_ (go_any w3.drew B (S i) gp fs m h f (some ⟨g2, 0, none⟩) f.T.length c2 HSr (show B ≤ w3.heap.size from Nat.le_trans HBw.out HB3.out.size))
  have HSS : Hid ((fun w' => w'.cell? ⟨w.heap.size, 2, none⟩ = some (.int .i64 f.r) ∧ w'.cell? ⟨w.heap.size, 3, none⟩ = some (.int .i64 f.a) ∧ w'.cell? ⟨w.heap.size, 4, none⟩ = some (.int .i64 f.b) ∧ w'.cell? ⟨w.heap.size, 5, none⟩ = some (.int .i64 f.e) ∧ w'.cell? ⟨w.heap.size, 6, none⟩ = some (.int .i64 f.n) ∧ w'.cell? ⟨w.heap.size, 7, none⟩ = some (.int .i64 f.x) ∧ w'.cell? ⟨w.heap.size, 8, none⟩ = some (.slice a f.T.length c) ∧ w'.cell? ⟨w2.heap.size, 0, none⟩ = some (.int .i64 f.r) ∧ w'.cell? ⟨w2.heap.size, 1, none⟩ = some (.int .i64 f.a) ∧ w'.cell? ⟨w2.heap.size, 2, none⟩ = some (.int .i64 f.b) ∧ w'.cell? ⟨w2.heap.size, 3, none⟩ = some (.int .i64 f.e) ∧ w'.cell? ⟨w2.heap.size, 4, none⟩ = some (.int .i64 f.n) ∧ w'.cell? ⟨w2.heap.size, 5, none⟩ = some (.int .i64 f.x) ∧ w'.cell? ⟨w2.heap.size, 6, none⟩ = some (.slice (some ⟨g2, 0, none⟩) f.T.length c2)) w3.drew) := hide_ ⟨K1e.out.cell 2, K1e.out.cell 3, K1e.out.cell 4, K1e.out.cell 5, K1e.out.cell 6, K1e.out.cell 7, K1e.out.cell 8, K3e.out.cell 0, K3e.out.cell 1, K3e.out.cell 2, K3e.out.cell 3, K3e.out.cell 4, K3e.out.cell 5, K3e.out.cell 6⟩
  clear hr
  go_upto_region 16 with fail
  refine wp_region_last 15 (fun w' => w'.cell? ⟨w.heap.size, 2, none⟩ = some (.int .i64 f.r) ∧ w'.cell? ⟨w.heap.size, 3, none⟩ = some (.int .i64 f.a) ∧ w'.cell? ⟨w.heap.size, 4, none⟩ = some (.int .i64 f.b) ∧ w'.cell? ⟨w.heap.size, 5, none⟩ = some (.int .i64 f.e) ∧ w'.cell? ⟨w.heap.size, 6, none⟩ = some (.int .i64 f.n) ∧ w'.cell? ⟨w.heap.size, 7, none⟩ = some (.int .i64 f.x) ∧ w'.cell? ⟨w.heap.size, 8, none⟩ = some (.slice a f.T.length c) ∧ w'.cell? ⟨w2.heap.size, 0, none⟩ = some (.int .i64 f.r) ∧ w'.cell? ⟨w2.heap.size, 1, none⟩ = some (.int .i64 f.a) ∧ w'.cell? ⟨w2.heap.size, 2, none⟩ = some (.int .i64 f.b) ∧ w'.cell? ⟨w2.heap.size, 3, none⟩ = some (.int .i64 f.e) ∧ w'.cell? ⟨w2.heap.size, 4, none⟩ = some (.int .i64 f.n) ∧ w'.cell? ⟨w2.heap.size, 5, none⟩ = some (.int .i64 f.x) ∧ w'.cell? ⟨w2.heap.size, 6, none⟩ = some (.slice (some ⟨g2, 0, none⟩) f.T.length c2)) (by kernel_rfl) (HSS.out) (fun hHeld => ?_)
  refine wpAnyF_take [15] (by kernel_rfl) (i := 0) (v := ?vp1) rfl (by kernel_rfl) (by kernel_rfl) (by kernel_rfl) (fun _ _ _ h => h) (Or.inl ⟨by kernel_rfl, ?hyp1⟩) hHeld ?restp1
  case hyp1 => intro w' hSw; (try dsimp only at hSw); go_simp; try with_reducible rfl
  simp only [Act.put]
  try dsimp only
  refine wpAnyF_take [15] (by kernel_rfl) (i := 1) (v := ?vp2) rfl (by kernel_rfl) (by kernel_rfl) (by kernel_rfl) (fun _ _ _ h => h) (Or.inl ⟨by kernel_rfl, ?hyp2⟩) hHeld ?restp2
  case hyp2 => intro w' hSw; (try dsimp only at hSw); go_simp; try with_reducible rfl
  simp only [Act.put]
  try dsimp only
  refine wpAnyF_take [15] (by kernel_rfl) (i := 4) (v := ?vp3) rfl (by kernel_rfl) (by kernel_rfl) (by kernel_rfl) (fun _ _ _ h => h) (Or.inl ⟨by kernel_rfl, ?hyp3⟩) hHeld ?restp3
  case hyp3 => intro w' hSw; (try dsimp only at hSw); go_simp; try with_reducible rfl
  simp only [Act.put]
  try dsimp only
  refine wpAnyF_take [15] (by kernel_rfl) (i := 5) (v := ?vp4) rfl (by kernel_rfl) (by kernel_rfl) (by kernel_rfl) (fun _ _ _ h => h) (Or.inl ⟨by kernel_rfl, ?hyp4⟩) hHeld ?restp4
  case hyp4 => intro w' hSw; (try dsimp only at hSw); go_simp; try with_reducible rfl
  simp only [Act.put]
  try dsimp only
  refine wpAnyF_take [15] (by kernel_rfl) (i := 6) (v := ?vp5) rfl (by kernel_rfl) (by kernel_rfl) (by kernel_rfl) (fun _ _ _ h => h) (Or.inl ⟨by kernel_rfl, ?hyp5⟩) hHeld ?restp5
  case hyp5 => intro w' hSw; (try dsimp only at hSw); go_simp; try with_reducible rfl
  simp only [Act.put]
  try dsimp only
  refine wpAnyF_ready (rs := [2]) (by kernel_rfl) (by simp) ?_
  refine AllReadyF.cons rfl (fun K hK => ?_) AllReadyF.nil
  go_simp
  refine HPu.out.mono ?_
  rintro e w4 hto
  obtain ⟨er, fs', h', rfl, hst, hbo⟩ := go_both hto
  clear hto
  obtain ⟨S1, hT4, s1, s2⟩ := HT3.out.setP hi Hp.out hst
  have HU4 : Hid (Upd (S i) w3.drew w4) := hide_ (by obtain ⟨F', -, h, -⟩ := hst; exact h)
  have K1d := hide_ (K1e.out.upd HU4.out (fun e => by have := HSk.out i _ e; omega))
  have K3d := hide_ (K3e.out.upd HU4.out (fun e => by have := HSk.out i _ e; have := HG2.out; omega))
  have HO4 := hide_ (ownS_upd HO3e.out HU4.out (fun k hk e => by have h1 := World.ownsRow.lt HO3e.out k hk; have := HSk.out i k e; have := HG2.out; omega))
  have hb4 : Below B w3.drew w4 := HU4.out.below B (by have h1 := HB3.out.size; have h2 := HBw.out; show B ≤ w3.heap.size; omega) (fun k hk => (HSk.out i k hk).1)
  have HB4 := hide_ (HB3e.out.trans hb4)
  have hS1 : S1 (2 + i) = S (2 + i) := s1 _ (by omega)
  have hR4 := hT4.qs i hi
  rw [hy0.out, Hq.out] at hR4
  obtain ⟨gq', hq', hR4⟩ := hR4.open
  injection hq' with hq'
  injection hq' with hq'
  injection hq' with hq' _ _
  subst hq'
  dsimp only at hR4
  have HRp := hide_ (rgo_any w4 B (S1 (2 + i)) gq fs m h f a f.T.length c (hide_ hR4)  (Nat.le_trans HBw.out HB4.out.size))
  have HT4 := hide_ hT4
  have HBo := hide_ hbo
  have HNum := hide_ (num_any er w4)
  have HS1 : Hid (∀ j k, S1 j k → k < w.heap.size ∨ w3.heap.size ≤ k) := hide_ (fun j k hk => by
    by_cases e : j = i
    · subst e
      rcases s2 k hk with e2 | e2
      · exact .inl (HSk.out j k e2).2.1
      · exact .inr e2
    · rw [s1 j e] at hk
      exact .inl (HSk.out j k hk).2.1)
  have HS1q : Hid (S1 (2 + i) = S (2 + i)) := hide_ hS1
  clear hst hbo hT4 s1 s2 hS1 hR4 hb4
  dsimp only
  refine hK.out _ _ (⟨K1d.out.cell 2, K1d.out.cell 3, K1d.out.cell 4, K1d.out.cell 5, K1d.out.cell 6, K1d.out.cell 7, K1d.out.cell 8, K3d.out.cell 0, K3d.out.cell 1, K3d.out.cell 2, K3d.out.cell 3, K3d.out.cell 4, K3d.out.cell 5, K3d.out.cell 6⟩) (fun hHeld => ?_)
  clear hK K
  refine wpAnyF_ready (rs := [3]) (by kernel_rfl) (by simp) ?_
  refine AllReadyF.cons rfl (fun K hK => ?_) AllReadyF.nil
  go_simp
  refine HNum.out.mono ?_
  rintro e w4x ⟨rfl, rfl⟩
  dsimp only
  refine hK.out _ _ (⟨K1d.out.cell 2, K1d.out.cell 3, K1d.out.cell 4, K1d.out.cell 5, K1d.out.cell 6, K1d.out.cell 7, K1d.out.cell 8, K3d.out.cell 0, K3d.out.cell 1, K3d.out.cell 2, K3d.out.cell 3, K3d.out.cell 4, K3d.out.cell 5, K3d.out.cell 6⟩) (fun hHeld => ?_)
  clear hK K
  refine wpAnyF_ready (rs := [7]) (by kernel_rfl) (by simp) ?_
  refine AllReadyF.cons rfl (fun K hK => ?_) AllReadyF.nil
  go_simp
  refine HRp.out.mono ?_
  rintro e w5 hto
  obtain ⟨rfl, hst⟩ := HBo.out _ _ _ _ _ hto
  clear hto
  obtain ⟨S2, hT5, s1, s2⟩ := HT4.out.setQ hi Hq.out hst
  have HU5 : Hid (Upd (S (2 + i)) w4 w5) := hide_ (by obtain ⟨F', -, h, -⟩ := hst; rw [HS1q.out] at h; exact h)
  have K1f := hide_ (K1d.out.upd HU5.out (fun e => by have := HSk.out (2 + i) _ e; omega))
  have K3f := hide_ (K3d.out.upd HU5.out (fun e => by have := HSk.out (2 + i) _ e; have := HG2.out; omega))
  have HO5 := hide_ (ownS_upd HO4.out HU5.out (fun k hk e => by have h1 := World.ownsRow.lt HO4.out k hk; have := HSk.out (2 + i) k e; have := HG2.out; omega))
  have hb5 : Below B w4 w5 := HU5.out.below B (Nat.le_trans HBw.out HB4.out.size) (fun k hk => (HSk.out (2 + i) k hk).1)
  have HB5 := hide_ (HB4.out.trans hb5)
  have HS2 : Hid (∀ j k, S2 j k → k < w.heap.size ∨ w3.heap.size ≤ k) := hide_ (fun j k hk => by
    by_cases e : j = 2 + i
    · subst e
      rcases s2 k hk with e2 | e2
      · exact HS1.out _ k e2
      · have := HU4.out.size
        have e3 : w3.heap.size ≤ w4.heap.size := this
        exact .inr (by omega)
    · rw [s1 j e] at hk
      exact HS1.out j k hk)
  have HT5 := hide_ hT5
  have HOv := hide_ (over_any f g2 c2 a c w5 w1.heap.size HO5 (hide_ (HFA.out w5 HB5.out)) (by omega))
  clear hst hT5 s1 s2 hb5
  dsimp only
  refine hK.out _ _ (⟨K1f.out.cell 2, K1f.out.cell 3, K1f.out.cell 4, K1f.out.cell 5, K1f.out.cell 6, K1f.out.cell 7, K1f.out.cell 8, K3f.out.cell 0, K3f.out.cell 1, K3f.out.cell 2, K3f.out.cell 3, K3f.out.cell 4, K3f.out.cell 5, K3f.out.cell 6⟩) (fun hHeld => ?_)
  clear hK K
  refine wpAnyF_take [15] (by kernel_rfl) (i := 8) (v := ?vp6) rfl (by kernel_rfl) (by kernel_rfl) (by kernel_rfl) (fun _ _ _ h => h) (Or.inl ⟨by kernel_rfl, ?hyp6⟩) hHeld ?restp6
  case hyp6 => intro w' hSw; (try dsimp only at hSw); go_simp; try with_reducible rfl
  simp only [Act.put]
  try dsimp only
  refine wpAnyF_take [15] (by kernel_rfl) (i := 9) (v := ?vp7) rfl (by kernel_rfl) (by kernel_rfl) (by kernel_rfl) (fun _ _ _ h => h) (Or.inl ⟨by kernel_rfl, ?hyp7⟩) hHeld ?restp7
  case hyp7 => intro w' hSw; (try dsimp only at hSw); go_simp; try with_reducible rfl
  simp only [Act.put]
  try dsimp only
  refine wpAnyF_take [15] (by kernel_rfl) (i := 10) (v := ?vp8) rfl (by kernel_rfl) (by kernel_rfl) (by kernel_rfl) (fun _ _ _ h => h) (Or.inl ⟨by kernel_rfl, ?hyp8⟩) hHeld ?restp8
  case hyp8 => intro w' hSw; (try dsimp only at hSw); go_simp; try with_reducible rfl
  simp only [Act.put]
  try dsimp only
  refine wpAnyF_take [15] (by kernel_rfl) (i := 11) (v := ?vp9) rfl (by kernel_rfl) (by kernel_rfl) (by kernel_rfl) (fun _ _ _ h => h) (Or.inl ⟨by kernel_rfl, ?hyp9⟩) hHeld ?restp9
  case hyp9 => intro w' hSw; (try dsimp only at hSw); go_simp; try with_reducible rfl
  simp only [Act.put]
  try dsimp only
  refine wpAnyF_take [15] (by kernel_rfl) (i := 12) (v := ?vp10) rfl (by kernel_rfl) (by kernel_rfl) (by kernel_rfl) (fun _ _ _ h => h) (Or.inl ⟨by kernel_rfl, ?hyp10⟩) hHeld ?restp10
  case hyp10 => intro w' hSw; (try dsimp only at hSw); go_simp; try with_reducible rfl
  simp only [Act.put]
  try dsimp only
  refine wpAnyF_ready (rs := [13]) (by kernel_rfl) (by simp) ?_
  refine AllReadyF.cons rfl (fun K hK => ?_) AllReadyF.nil
  go_simp
  refine HOv.out.mono ?_
  rintro e w6 ⟨rfl, HU6⟩
  have K1g := hide_ (K1f.out.upd HU6.out (show ¬ w.heap.size = g2 by have := HG2.out; omega))
  have K3g := hide_ (K3f.out.upd HU6.out (show ¬ w2.heap.size = g2 by have := HG2.out; omega))
  have hT6 := HT5.out.upd HU6.out (show ¬ bt = g2 by have := HG2.out; have := HBd.out; omega) (fun j k hk e => by have := HS2.out j k hk; have := HG2.out; omega)
  have hb6 : Below B w w6 := HB5.out.trans (HU6.out.below B (Nat.le_trans HBw.out HB5.out.size) (fun k hk => by have := HG2.out; have := HBw.out; omega))
  have HT6 := hide_ hT6
  have HB6 := hide_ hb6
  clear hT6 hb6
  dsimp only
  refine hK.out _ _ (⟨K1g.out.cell 2, K1g.out.cell 3, K1g.out.cell 4, K1g.out.cell 5, K1g.out.cell 6, K1g.out.cell 7, K1g.out.cell 8, K3g.out.cell 0, K3g.out.cell 1, K3g.out.cell 2, K3g.out.cell 3, K3g.out.cell 4, K3g.out.cell 5, K3g.out.cell 6⟩) (fun hHeld => ?_)
  clear hK K
  refine wpAnyF_take [15] (by kernel_rfl) (i := 14) (v := ?vp11) rfl (by kernel_rfl) (by kernel_rfl) (by kernel_rfl) (fun _ _ _ h => h) (Or.inl ⟨by kernel_rfl, ?hyp11⟩) hHeld ?restp11
  case hyp11 => intro w' hSw; (try dsimp only at hSw); go_simp; try with_reducible rfl
  simp only [Act.put]
  try dsimp only
  refine wpAnyF_ready (rs := [15]) (by kernel_rfl) (by simp) ?_
  refine AllReadyF.last rfl (fun K hK => ?_)
  go_simp
  refine hK.out _ _ ?_
  clear hK K
  refine wpAnyF_done (by kernel_rfl) ?_ _
  go_wp2_with fail
  go_ret
  refine ⟨rfl, hide_ ⟨_, _, HT6.out.mono (by omega), fun j y hy => ?_, HB6.out⟩⟩
  by_cases e : j = i
  · subst e; exact ⟨_, up1_at _ _ _⟩
  · exact ⟨y, by rw [up1_ne _ _ e]; exact hy⟩
end Go.Proofs.Ytcmkdkocponpiaa

/- mortiselaw22: moves: Mark, Pop, Slot. -/
namespace Go.Proofs.Ytcmkdkocponpiaa
open Go.RowKit
set_option linter.unusedVariables false

set_option maxRecDepth 100000 in
set_option maxHeartbeats 16000000 in
theorem moves_mark (B bt i : Nat) (p q : Nat → Value) (xs : Nat → Option Sk) (N : Nat) (S : Nat → Nat → Prop) (y : Sk) (wh : Bool) (f : Fr) (a : Option Addr) (c : Nat) (n : Int) (ab : Option Addr) (nb cb : Nat) (w : World) (hT : Hid (Tab B w bt p q xs xs N S)) (hi : i < 2) (hy : xs i = some y) (HFA : Hid (∀ w', Below B w w' → FrA w' f a c)) (hl : f.T.length ≤ 1000000) (hN : N ≤ 790) :
    Calls Try.prog 41 #[.pointer (some ⟨bt, 0, none⟩), .int .i64 (i : Int), .agg #[.int .i64 7, .bool wh, .int .i64 f.r, .int .i64 f.a, .int .i64 f.b, .int .i64 f.e, .int .i64 f.n, .int .i64 f.x, .slice a f.T.length c, .int .i64 n, .slice ab nb cb]] w fun e w' => e = .returned (.bool true) ∧ Hid (PmTo B w w' bt p q xs (N + 1)) := by
  obtain ⟨fs, m, h⟩ := y
  have hQ := hT.out.qs i hi
  have hP := hT.out.ps i hi
  rw [hy] at hP hQ
  obtain ⟨gp, hp, hS⟩ := hP.open
  obtain ⟨gq, hq, hR⟩ := hQ.open
  dsimp only at hS hR
  have HS := hide_ hS
  have HBd := hide_ hT.out.lt
  have HBw := hide_ hT.out.base
  have HSk : Hid (∀ j k, S j k → B ≤ k ∧ k < w.heap.size ∧ k ≠ bt) := hide_ hT.out.ly
  have hi' : (i : Int) < 2 := by omega
  obtain ⟨w1, hw1⟩ : ∃ wx, wx = w.alloc (.cells #[.int .i64 7, .bool wh, .int .i64 f.r, .int .i64 f.a, .int .i64 f.b, .int .i64 f.e, .int .i64 f.n, .int .i64 f.x, .slice a f.T.length c, .int .i64 n, .slice ab nb cb] 63) := ⟨_, rfl⟩
  have hB1 : Below w.heap.size w w1 := by rw [hw1]; exact below1 _ _
  have K1 : Hid (Blk w1 w.heap.size 63 [.int .i64 7, .bool wh, .int .i64 f.r, .int .i64 f.a, .int .i64 f.b, .int .i64 f.e, .int .i64 f.n, .int .i64 f.x, .slice a f.T.length c, .int .i64 n, .slice ab nb cb]) := hide_ (by rw [hw1]; exact Blk.newA w _ _)
  have hT1 := hT.out.later hB1
  have c0 := (hT1.cellP i hi).1
  have c1 := hT1.cellQ i hi
  rw [hp] at c0
  rw [hq] at c1
  have HB1 := hide_ hB1
  have HLent := hide_ (lent_any f a c w1 (hide_ (HFA.out w1 (hB1.mono HBw.out))) (by omega))
  have Hp := hide_ hp
  have Hq := hide_ hq
  have hy0 := hide_ hy
  have o2 := K1.out.cell 2; have o3 := K1.out.cell 3; have o4 := K1.out.cell 4; have o5 := K1.out.cell 5; have o6 := K1.out.cell 6; have o7 := K1.out.cell 7; have o8 := K1.out.cell 8
  simp at o2 o3 o4 o5 o6 o7 o8
  clear hP hQ hS hR hp hq hy hT1 hB1
  go_enter Try.func41, Try.ntmps41
  go_upto_region 1 with fail
  rw [← hw1]
  clear hw1
  go_wp2_with fail
  refine HLent.out.mono ?_
  rintro e w2 ⟨g2, c2, rfl, HO2, HB2⟩
  obtain ⟨w3, hw3⟩ : ∃ wx, wx = w2.alloc (.cells #[.int .i64 f.r, .int .i64 f.a, .int .i64 f.b, .int .i64 f.e, .int .i64 f.n, .int .i64 f.x, .slice (some ⟨g2, 0, none⟩) f.T.length c2] 39) := ⟨_, rfl⟩
  have hB3 : Below w2.heap.size w2 w3 := by rw [hw3]; exact below1 _ _
  have K3 : Hid (Blk w3 w2.heap.size 39 (frc (f, .slice (some ⟨g2, 0, none⟩) f.T.length c2))) := hide_ (by rw [hw3]; exact Blk.newA w2 _ _)
  have hb13 := below_to HB2.out hB3
  have HB3 := hide_ (below_to HB1.out hb13)
  have K1c := hide_ (K1.out.later hb13)
  have HO3 : Hid (IOwn w3 w1.heap.size (.slice (some ⟨g2, 0, none⟩) (f.T.length + 1) c2) (f.T ++ [23130])) := hide_ (HO2.out.later hB3)
  have HG2 : Hid (w.heap.size < w1.heap.size ∧ w1.heap.size ≤ g2 ∧ g2 < w2.heap.size ∧ w1.heap.size ≤ w2.heap.size ∧ w2.heap.size < w3.heap.size) := hide_ (by
    have h1 := World.ownsRow.lt HO2.out g2 rfl
    have h2 := K1.out.lt
    have h3 := K3.out.lt
    have h4 := HB2.out.size
    omega)
  clear hB3 hb13 HLent HO2 o2 o3 o4 o5 o6 o7 o8 c0 c1
  have o0 := K1c.out.cell 0
  simp at o0
  go_upto_region 4 with fail
  rw [← hw3]
  clear hw3
  have HT3 := hide_ ((hT.out.later HB3.out).later (w' := w3.drew) ((Below.refl w3.heap.size w3).drew))
  have hr := (Below.refl w3.heap.size w3).drew
  have HB3e := hide_ ((below_to HB3.out hr).mono HBw.out)
  have K1e := hide_ (K1c.out.later hr)
  have HPu := hide_ (mark_any w3.drew B (S i) gp fs m h n (hide_ (HS.out.later (below_to HB3.out hr))) (show B ≤ w3.heap.size from Nat.le_trans HBw.out HB3.out.size))
  clear hr
  go_upto_region 18 with fail
  refine wp_region_last 10 (fun w' => w'.cell? ⟨w.heap.size, 9, none⟩ = some (.int .i64 n)) (by kernel_rfl) (K1e.out.cell 9) (fun hHeld => ?_)
  refine wpAnyF_take [10] (by kernel_rfl) (i := 0) (v := ?vp1) rfl (by kernel_rfl) (by kernel_rfl) (by kernel_rfl) (fun _ _ _ h => h) (Or.inl ⟨by kernel_rfl, ?hyp1⟩) hHeld ?restp1
  case hyp1 => intro w' hSw; (try dsimp only at hSw); go_simp; try with_reducible rfl
  simp only [Act.put]
  try dsimp only
  refine wpAnyF_take [10] (by kernel_rfl) (i := 1) (v := ?vp2) rfl (by kernel_rfl) (by kernel_rfl) (by kernel_rfl) (fun _ _ _ h => h) (Or.inl ⟨by kernel_rfl, ?hyp2⟩) hHeld ?restp2
  case hyp2 => intro w' hSw; (try dsimp only at hSw); go_simp; try with_reducible rfl
  simp only [Act.put]
  try dsimp only
  refine wpAnyF_take [10] (by kernel_rfl) (i := 2) (v := ?vp3) rfl (by kernel_rfl) (by kernel_rfl) (by kernel_rfl) (fun _ _ _ h => h) (Or.inl ⟨by kernel_rfl, ?hyp3⟩) hHeld ?restp3
  case hyp3 => intro w' hSw; (try dsimp only at hSw); go_simp; try with_reducible rfl
  simp only [Act.put]
  try dsimp only
  refine wpAnyF_take [10] (by kernel_rfl) (i := 5) (v := ?vp4) rfl (by kernel_rfl) (by kernel_rfl) (by kernel_rfl) (fun _ _ _ h => h) (Or.inl ⟨by kernel_rfl, ?hyp4⟩) hHeld ?restp4
  case hyp4 => intro w' hSw; (try dsimp only at hSw); go_simp; try with_reducible rfl
  simp only [Act.put]
  try dsimp only
  refine wpAnyF_take [10] (by kernel_rfl) (i := 6) (v := ?vp5) rfl (by kernel_rfl) (by kernel_rfl) (by kernel_rfl) (fun _ _ _ h => h) (Or.inl ⟨by kernel_rfl, ?hyp5⟩) hHeld ?restp5
  case hyp5 => intro w' hSw; (try dsimp only at hSw); go_simp; try with_reducible rfl
  simp only [Act.put]
  try dsimp only
  refine wpAnyF_take [10] (by kernel_rfl) (i := 7) (v := ?vp6) rfl (by kernel_rfl) (by kernel_rfl) (by kernel_rfl) (fun _ _ _ h => h) (Or.inl ⟨by kernel_rfl, ?hyp6⟩) hHeld ?restp6
  case hyp6 => intro w' hSw; (try dsimp only at hSw); go_simp; try with_reducible rfl
  simp only [Act.put]
  try dsimp only
  refine wpAnyF_ready (rs := [3]) (by kernel_rfl) (by simp) ?_
  refine AllReadyF.cons rfl (fun K hK => ?_) AllReadyF.nil
  go_simp
  refine HPu.out.mono ?_
  rintro e w4 hto
  obtain ⟨er, fs', h', rfl, hst, hbo⟩ := mark_both hto
  clear hto
  obtain ⟨S1, hT4, s1, s2⟩ := HT3.out.setP hi Hp.out hst
  have HU4 : Hid (Upd (S i) w3.drew w4) := hide_ (by obtain ⟨F', -, h, -⟩ := hst; exact h)
  have K1d := hide_ (K1e.out.upd HU4.out (fun e => by have := HSk.out i _ e; omega))
  have hb4 : Below B w3.drew w4 := HU4.out.below B (by have h1 := HB3.out.size; have h2 := HBw.out; show B ≤ w3.heap.size; omega) (fun k hk => (HSk.out i k hk).1)
  have HB4 := hide_ (HB3e.out.trans hb4)
  have hS1 : S1 (2 + i) = S (2 + i) := s1 _ (by omega)
  have hR4 := hT4.qs i hi
  rw [hy0.out, Hq.out] at hR4
  obtain ⟨gq', hq', hR4⟩ := hR4.open
  injection hq' with hq'
  injection hq' with hq'
  injection hq' with hq' _ _
  subst hq'
  dsimp only at hR4
  have HRp := hide_ (rsmark_any w4 B (S1 (2 + i)) gq fs m h n (hide_ hR4) (Nat.le_trans HBw.out HB4.out.size))
  have HT4 := hide_ hT4
  have HBo := hide_ hbo
  have HNum := hide_ (num_any er w4)
  have HS1q : Hid (S1 (2 + i) = S (2 + i)) := hide_ hS1
  clear hst hbo hT4 s1 s2 hS1 hR4 hb4
  dsimp only
  refine hK.out _ _ (K1d.out.cell 9) (fun hHeld => ?_)
  clear hK K
  refine wpAnyF_ready (rs := [4]) (by kernel_rfl) (by simp) ?_
  refine AllReadyF.cons rfl (fun K hK => ?_) AllReadyF.nil
  go_simp
  refine HNum.out.mono ?_
  rintro e w4x ⟨rfl, rfl⟩
  dsimp only
  refine hK.out _ _ (K1d.out.cell 9) (fun hHeld => ?_)
  clear hK K
  refine wpAnyF_ready (rs := [8]) (by kernel_rfl) (by simp) ?_
  refine AllReadyF.cons rfl (fun K hK => ?_) AllReadyF.nil
  go_simp
  refine HRp.out.mono ?_
  rintro e w5 hto
  obtain ⟨rfl, hst⟩ := HBo.out _ _ _ _ _ hto
  clear hto
  obtain ⟨S2, hT5, s1, s2⟩ := HT4.out.setQ hi Hq.out hst
  have HU5 : Hid (Upd (S (2 + i)) w4 w5) := hide_ (by obtain ⟨F', -, h, -⟩ := hst; rw [HS1q.out] at h; exact h)
  have K1f := hide_ (K1d.out.upd HU5.out (fun e => by have := HSk.out (2 + i) _ e; omega))
  have HB6 := hide_ (HB4.out.trans (HU5.out.below B (Nat.le_trans HBw.out HB4.out.size) (fun k hk => (HSk.out (2 + i) k hk).1)))
  have HT6 := hide_ hT5
  clear hst hT5 s1 s2
  dsimp only
  refine hK.out _ _ (K1f.out.cell 9) (fun hHeld => ?_)
  clear hK K
  refine wpAnyF_take [10] (by kernel_rfl) (i := 9) (v := ?vp7) rfl (by kernel_rfl) (by kernel_rfl) (by kernel_rfl) (fun _ _ _ h => h) (Or.inl ⟨by kernel_rfl, ?hyp7⟩) hHeld ?restp7
  case hyp7 => intro w' hSw; (try dsimp only at hSw); go_simp; try with_reducible rfl
  simp only [Act.put]
  try dsimp only
  refine wpAnyF_ready (rs := [10]) (by kernel_rfl) (by simp) ?_
  refine AllReadyF.last rfl (fun K hK => ?_)
  go_simp
  refine hK.out _ _ ?_
  clear hK K
  refine wpAnyF_done (by kernel_rfl) ?_ _
  go_wp2_with fail
  go_ret
  refine ⟨rfl, hide_ ⟨_, _, HT6.out.mono (by omega), fun j y hy => ?_, HB6.out⟩⟩
  by_cases e : j = i
  · subst e; exact ⟨_, up1_at _ _ _⟩
  · exact ⟨y, by rw [up1_ne _ _ e]; exact hy⟩
set_option maxRecDepth 100000 in
set_option maxHeartbeats 16000000 in
theorem moves_pop (B bt i : Nat) (p q : Nat → Value) (xs : Nat → Option Sk) (N : Nat) (S : Nat → Nat → Prop) (y : Sk) (wh : Bool) (f : Fr) (a : Option Addr) (c : Nat) (n : Int) (ab : Option Addr) (nb cb : Nat) (w : World) (hT : Hid (Tab B w bt p q xs xs N S)) (hi : i < 2) (hy : xs i = some y) (HFA : Hid (∀ w', Below B w w' → FrA w' f a c)) (hl : f.T.length ≤ 1000000) (hN : N ≤ 790) :
    Calls Try.prog 41 #[.pointer (some ⟨bt, 0, none⟩), .int .i64 (i : Int), .agg #[.int .i64 3, .bool wh, .int .i64 f.r, .int .i64 f.a, .int .i64 f.b, .int .i64 f.e, .int .i64 f.n, .int .i64 f.x, .slice a f.T.length c, .int .i64 n, .slice ab nb cb]] w fun e w' => e = .returned (.bool true) ∧ Hid (PmTo B w w' bt p q xs (N + 1)) := by
  obtain ⟨fs, m, h⟩ := y
  have hQ := hT.out.qs i hi
  have hP := hT.out.ps i hi
  rw [hy] at hP hQ
  obtain ⟨gp, hp, hS⟩ := hP.open
  obtain ⟨gq, hq, hR⟩ := hQ.open
  dsimp only at hS hR
  have HS := hide_ hS
  have HBd := hide_ hT.out.lt
  have HBw := hide_ hT.out.base
  have HSk : Hid (∀ j k, S j k → B ≤ k ∧ k < w.heap.size ∧ k ≠ bt) := hide_ hT.out.ly
  have hi' : (i : Int) < 2 := by omega
  obtain ⟨w1, hw1⟩ : ∃ wx, wx = w.alloc (.cells #[.int .i64 3, .bool wh, .int .i64 f.r, .int .i64 f.a, .int .i64 f.b, .int .i64 f.e, .int .i64 f.n, .int .i64 f.x, .slice a f.T.length c, .int .i64 n, .slice ab nb cb] 63) := ⟨_, rfl⟩
  have hB1 : Below w.heap.size w w1 := by rw [hw1]; exact below1 _ _
  have K1 : Hid (Blk w1 w.heap.size 63 [.int .i64 3, .bool wh, .int .i64 f.r, .int .i64 f.a, .int .i64 f.b, .int .i64 f.e, .int .i64 f.n, .int .i64 f.x, .slice a f.T.length c, .int .i64 n, .slice ab nb cb]) := hide_ (by rw [hw1]; exact Blk.newA w _ _)
  have hT1 := hT.out.later hB1
  have c0 := (hT1.cellP i hi).1
  have c1 := hT1.cellQ i hi
  rw [hp] at c0
  rw [hq] at c1
  have HB1 := hide_ hB1
  have HLent := hide_ (lent_any f a c w1 (hide_ (HFA.out w1 (hB1.mono HBw.out))) (by omega))
  have Hp := hide_ hp
  have Hq := hide_ hq
  have hy0 := hide_ hy
  have o2 := K1.out.cell 2; have o3 := K1.out.cell 3; have o4 := K1.out.cell 4; have o5 := K1.out.cell 5; have o6 := K1.out.cell 6; have o7 := K1.out.cell 7; have o8 := K1.out.cell 8
  simp at o2 o3 o4 o5 o6 o7 o8
  clear hP hQ hS hR hp hq hy hT1 hB1
  go_enter Try.func41, Try.ntmps41
  go_upto_region 1 with fail
  rw [← hw1]
  clear hw1
  go_wp2_with fail
  refine HLent.out.mono ?_
  rintro e w2 ⟨g2, c2, rfl, HO2, HB2⟩
  obtain ⟨w3, hw3⟩ : ∃ wx, wx = w2.alloc (.cells #[.int .i64 f.r, .int .i64 f.a, .int .i64 f.b, .int .i64 f.e, .int .i64 f.n, .int .i64 f.x, .slice (some ⟨g2, 0, none⟩) f.T.length c2] 39) := ⟨_, rfl⟩
  have hB3 : Below w2.heap.size w2 w3 := by rw [hw3]; exact below1 _ _
  have K3 : Hid (Blk w3 w2.heap.size 39 (frc (f, .slice (some ⟨g2, 0, none⟩) f.T.length c2))) := hide_ (by rw [hw3]; exact Blk.newA w2 _ _)
  have hb13 := below_to HB2.out hB3
  have HB3 := hide_ (below_to HB1.out hb13)
  have K1c := hide_ (K1.out.later hb13)
  have HO3 : Hid (IOwn w3 w1.heap.size (.slice (some ⟨g2, 0, none⟩) (f.T.length + 1) c2) (f.T ++ [23130])) := hide_ (HO2.out.later hB3)
  have HG2 : Hid (w.heap.size < w1.heap.size ∧ w1.heap.size ≤ g2 ∧ g2 < w2.heap.size ∧ w1.heap.size ≤ w2.heap.size ∧ w2.heap.size < w3.heap.size) := hide_ (by
    have h1 := World.ownsRow.lt HO2.out g2 rfl
    have h2 := K1.out.lt
    have h3 := K3.out.lt
    have h4 := HB2.out.size
    omega)
  clear hB3 hb13 HLent HO2 o2 o3 o4 o5 o6 o7 o8 c0 c1
  have o0 := K1c.out.cell 0
  simp at o0
  go_upto_region 4 with fail
  rw [← hw3]
  clear hw3
  have HT3 := hide_ (hT.out.later HB3.out)
  have HB3e := hide_ (HB3.out.mono HBw.out)
  have HPu := hide_ (pop_any w3 B (S i) gp fs m h (hide_ (HS.out.later HB3.out)) (Nat.le_trans HBw.out HB3.out.size))
  have HSl : Hid (∀ f', f' ∈ fs → f'.T.length ≤ 1048576) := hide_ (fun f' hf => HS.out.memr hf)
  have c0 := (HT3.out.cellP i hi).1
  have c1 := HT3.out.cellQ i hi
  clear c0 c1
  go_wp2_with fail
  refine HPu.out.mono ?_
  rintro e w4 hto
  obtain ⟨f4, er, a4, c4, fs', rfl, hio, hst, hu4, hfm, hbo⟩ := pop_both hto
  have hfl : f4.T.length ≤ 1048576 := by
    rcases hfm with rfl | hm
    · exact Nat.zero_le _
    · exact HSl.out f4 hm
  clear hto HPu hfm
  have HB4 := hide_ (HB3e.out.trans (hu4.below B (Nat.le_trans HBw.out HB3.out.size) (fun k hk => (HSk.out i k hk).1)))
  obtain ⟨x4, hx4⟩ : ∃ wx, wx = w4.alloc (.cells #[.int .i64 f4.r, .int .i64 f4.a, .int .i64 f4.b, .int .i64 f4.e, .int .i64 f4.n, .int .i64 f4.x, .slice a4 f4.T.length c4] 39) := ⟨_, rfl⟩
  have hbx : Below w4.heap.size w4 x4 := by rw [hx4]; exact below1 _ _
  have K4 : Hid (Blk x4 w4.heap.size 39 (frc (f4, .slice a4 f4.T.length c4))) := hide_ (by rw [hx4]; exact Blk.newA w4 _ _)
  have HB4x := hide_ (HB4.out.trans (hbx.mono (Nat.le_trans HBw.out HB4.out.size)))
  have HT4 := hide_ ((HT3.out.keepP hi Hp.out hst hu4).later hbx)
  have HI4 := hide_ (hio.later hbx)
  have HLo : Hid (∀ k, (Value.slice a4 f4.T.length c4).ownBlock = some k → w3.heap.size ≤ k ∧ k < w4.heap.size) := hide_ (fun k hk => World.ownsRow.lt hio k hk)
  have HSz : Hid (w.heap.size < w3.heap.size ∧ w3.heap.size ≤ w4.heap.size) := hide_ ⟨by have := HG2.out; omega, hu4.size⟩
  have hR4 := HT4.out.qs i hi
  rw [hy0.out, Hq.out] at hR4
  obtain ⟨gq', hq', hR4⟩ := hR4.open
  injection hq' with hq'
  injection hq' with hq'
  injection hq' with hq' _ _
  subst hq'
  dsimp only at hR4
  have HRp := hide_ (rpop_any x4 B (S (2 + i)) gq fs m h (hide_ hR4) (Nat.le_trans HBw.out HB4x.out.size))
  have HBo := hide_ hbo
  clear hio hst hu4 hbo hR4 hbx
  go_upto_region 9 with fail
  rw [← hx4]
  clear hx4
  go_wp2_with fail
  refine HRp.out.mono ?_
  rintro e w5 hto
  obtain ⟨a5, c5, rfl, hio5, hst5, hu5⟩ := HBo.out _ _ _ _ _ hto
  clear hto HRp HBo
  obtain ⟨x5, hx5⟩ : ∃ wx, wx = w5.alloc (.cells #[.int .i64 f4.r, .int .i64 f4.a, .int .i64 f4.b, .int .i64 f4.e, .int .i64 f4.n, .int .i64 f4.x, .slice a5 f4.T.length c5] 39) := ⟨_, rfl⟩
  have hbx : Below w5.heap.size w5 x5 := by rw [hx5]; exact below1 _ _
  have K5 : Hid (Blk x5 w5.heap.size 39 (frc (f4, .slice a5 f4.T.length c5))) := hide_ (by rw [hx5]; exact Blk.newA w5 _ _)
  have K4b := hide_ ((K4.out.upd hu5 (fun e => by have := HSk.out (2 + i) _ e; have := HSz.out; omega)).later hbx)
  have HI4a : Hid (IOwn w5 w3.heap.size (.slice a4 f4.T.length c4) f4.T) := hide_ (ownS_upd HI4.out hu5 (fun k hk e => by have := HLo.out k hk; have := HSk.out (2 + i) k e; have := HSz.out; omega))
  have HI4b := hide_ (HI4a.out.later hbx)
  have HI5 := hide_ (hio5.later hbx)
  have HB5 := hide_ ((HB4x.out.trans (hu5.below B (Nat.le_trans HBw.out HB4x.out.size) (fun k hk => (HSk.out (2 + i) k hk).1))).trans (hbx.mono (Nat.le_trans HBw.out (Nat.le_trans HB4x.out.size hu5.size))))
  have HT5 := hide_ ((HT4.out.keepQ hi Hq.out hst5 hu5).later hbx)
  have HA4 : Hid (FrA x5 f4 a4 c4) := hide_ (by
    obtain ⟨a', c', e, h⟩ := HI4b.out.fra
    injection e with e1 _ e3
    subst e1 e3
    exact h)
  have HA5 : Hid (FrA x5 f4 a5 c5) := hide_ (by
    obtain ⟨a', c', e, h⟩ := HI5.out.fra
    injection e with e1 _ e3
    subst e1 e3
    exact h)
  have HSm := hide_ (same_yes f4 a4 a5 c4 c5 x5 HA4 HA5)
  have HSz5 : Hid (w4.heap.size ≤ x5.heap.size) := hide_ (Nat.le_of_lt K4b.out.lt)
  clear hio5 hst5 hu5 hbx K4 HI4 HI5 HT4
  go_upto_region 10 with fail
  rw [← hx5]
  clear hx5
  have l0 := K4b.out.cell 0; have l1 := K4b.out.cell 1; have l2 := K4b.out.cell 2; have l3 := K4b.out.cell 3; have l4 := K4b.out.cell 4; have l5 := K4b.out.cell 5; have l6 := K4b.out.cell 6
  have m0 := K5.out.cell 0; have m1 := K5.out.cell 1; have m2 := K5.out.cell 2; have m3 := K5.out.cell 3; have m4 := K5.out.cell 4; have m5 := K5.out.cell 5; have m6 := K5.out.cell 6
  simp [frc] at l0 l1 l2 l3 l4 l5 l6 m0 m1 m2 m3 m4 m5 m6
  go_wp2_with fail
  refine HSm.out.mono ?_
  rintro e w6 ⟨rfl, hb6⟩
  have HNum := hide_ (num_any er w6)
  have K4c := hide_ ((K4b.out.later hb6).drew)
  have HI6 := hide_ (own_base ((HI4b.out.later hb6).later (w' := w6.drew) ((Below.refl w6.heap.size w6).drew)) (Nat.le_trans HBw.out (Nat.le_of_lt HSz.out.1)))
  have HT6 := hide_ ((HT5.out.later hb6).later (w' := w6.drew) ((Below.refl w6.heap.size w6).drew))
  have HB6 := hide_ (HB5.out.trans (hb6.mono (Nat.le_trans HBw.out HB5.out.size)))
  clear l0 l1 l2 l3 l4 l5 l6 m0 m1 m2 m3 m4 m5 m6 hb6 HSm K4b K5 HI4b HT5
  go_wp2_with fail
  refine HNum.out.mono ?_
  rintro e w7 ⟨rfl, rfl⟩
  have HTb := hide_ (bok_table HT6.out.bk HI6.out (fun k hk e => by have := HLo.out k hk; have := HSk.out 4 k e; have := HSz.out; omega) (by omega) (by omega))
  have HS6 : Hid ((fun w' => w'.cell? ⟨w4.heap.size, 6, none⟩ = some (.slice a4 f4.T.length c4)) w6.drew) := hide_ (K4c.out.cell 6)
  go_upto_region 11 with fail
  refine wp_region_last 5 (fun w' => w'.cell? ⟨w4.heap.size, 6, none⟩ = some (.slice a4 f4.T.length c4)) (by kernel_rfl) (HS6.out) (fun hHeld => ?_)
  refine wpAnyF_take [5, 2, 1] (by kernel_rfl) (i := 0) (v := ?vp1) rfl (by kernel_rfl) (by kernel_rfl) (by kernel_rfl) (fun _ _ _ h => h) (Or.inl ⟨by kernel_rfl, ?hyp1⟩) hHeld ?restp1
  case hyp1 => intro w' hSw; (try dsimp only at hSw); go_simp; try with_reducible rfl
  simp only [Act.put]
  try dsimp only
  refine wpAnyF_take [5, 2] (by kernel_rfl) (i := 1) (v := ?vp2) rfl (by kernel_rfl) (by kernel_rfl) (by kernel_rfl) (fun _ _ _ h => h) (Or.inl ⟨by kernel_rfl, ?hyp2⟩) hHeld ?restp2
  case hyp2 => intro w' hSw; (try dsimp only at hSw); go_simp; try with_reducible rfl
  simp only [Act.put]
  try dsimp only
  refine wpAnyF_take [5] (by kernel_rfl) (i := 2) (v := ?vp3) rfl (by kernel_rfl) (by kernel_rfl) (by kernel_rfl) (fun _ _ _ h => h) (Or.inl ⟨by kernel_rfl, ?hyp3⟩) hHeld ?restp3
  case hyp3 => intro w' hSw; (try dsimp only at hSw); go_simp; try with_reducible rfl
  simp only [Act.put]
  try dsimp only
  refine wpAnyF_take [5, 4] (by kernel_rfl) (i := 3) (v := ?vp4) rfl (by kernel_rfl) (by kernel_rfl) (by kernel_rfl) (fun _ _ _ h => h) (Or.inl ⟨by kernel_rfl, ?hyp4⟩) hHeld ?restp4
  case hyp4 => intro w' hSw; (try dsimp only at hSw); go_simp; try with_reducible rfl
  simp only [Act.put]
  try dsimp only
  refine wpAnyF_take [5] (by kernel_rfl) (i := 4) (v := ?vp5) rfl (by kernel_rfl) (by kernel_rfl) (by kernel_rfl) (fun _ _ _ h => h) (Or.inl ⟨by kernel_rfl, ?hyp5⟩) hHeld ?restp5
  case hyp5 => intro w' hSw; (try dsimp only at hSw); go_simp; try with_reducible rfl
  simp only [Act.put]
  try dsimp only
  refine wpAnyF_ready (rs := [5]) (by kernel_rfl) (by simp) ?_
  refine AllReadyF.last rfl (fun K hK => ?_)
  go_simp
  refine HTb.out.mono ?_
  rintro e w8 ⟨rfl, HK⟩
  dsimp only
  refine hK.out _ _ ?_
  clear hK K
  refine wpAnyF_done (by kernel_rfl) ?_ _
  obtain ⟨Z1, k1, k2, k3⟩ := HK.out
  have hT8 := HT6.out.book (v := .slice a4 f4.T.length c4) (fun j k hk e => by have := HLo.out k hk; have := HSk.out j k e; have := HSz.out; omega) (fun e => by have := HLo.out _ e; have := HBd.out; have := HSz.out; omega) k1 k2 k3
  have hB8 : Below B w w8 := (HB6.out.trans ((Below.refl w6.heap.size w6).drew.mono (Nat.le_trans HBw.out HB6.out.size))).trans (k2.below B HT6.out.base (fun k hk => by
    rcases hk with e | e | e
    · rw [e]; exact HBd.out.1
    · have := HLo.out k e; have := HSz.out; have := HBw.out; omega
    · exact (HSk.out 4 k e).1))
  have HP : Hid (PmTo B w w8 bt p q xs (N + 1)) := hide_ ⟨_, _, hT8, fun j y hy => by
    by_cases e : j = i
    · subst e; exact ⟨_, up1_at _ _ _⟩
    · exact ⟨y, by rw [up1_ne _ _ e]; exact hy⟩, hB8⟩
  clear HTb HS6 HK k1 k2 k3 hT8 hB8
  go_wp2_with fail
  go_ret
  exact ⟨rfl, HP⟩
set_option maxRecDepth 100000 in
set_option maxHeartbeats 16000000 in
theorem moves_slot (B bt i : Nat) (p q : Nat → Value) (xs : Nat → Option Sk) (N : Nat) (S : Nat → Nat → Prop) (y : Sk) (wh : Bool) (f : Fr) (a : Option Addr) (c : Nat) (n : Int) (ab : Option Addr) (nb cb : Nat) (w : World) (hT : Hid (Tab B w bt p q xs xs N S)) (hi : i < 2) (hy : xs i = some y) (HFA : Hid (∀ w', Below B w w' → FrA w' f a c)) (hl : f.T.length ≤ 1000000) (hN : N ≤ 790) :
    Calls Try.prog 41 #[.pointer (some ⟨bt, 0, none⟩), .int .i64 (i : Int), .agg #[.int .i64 8, .bool wh, .int .i64 f.r, .int .i64 f.a, .int .i64 f.b, .int .i64 f.e, .int .i64 f.n, .int .i64 f.x, .slice a f.T.length c, .int .i64 n, .slice ab nb cb]] w fun e w' => e = .returned (.bool true) ∧ Hid (PmTo B w w' bt p q xs (N + 1)) := by
  obtain ⟨fs, m, h⟩ := y
  have hQ := hT.out.qs i hi
  have hP := hT.out.ps i hi
  rw [hy] at hP hQ
  obtain ⟨gp, hp, hS⟩ := hP.open
  obtain ⟨gq, hq, hR⟩ := hQ.open
  dsimp only at hS hR
  have HS := hide_ hS
  have HBd := hide_ hT.out.lt
  have HBw := hide_ hT.out.base
  have HSk : Hid (∀ j k, S j k → B ≤ k ∧ k < w.heap.size ∧ k ≠ bt) := hide_ hT.out.ly
  have hi' : (i : Int) < 2 := by omega
  obtain ⟨w1, hw1⟩ : ∃ wx, wx = w.alloc (.cells #[.int .i64 8, .bool wh, .int .i64 f.r, .int .i64 f.a, .int .i64 f.b, .int .i64 f.e, .int .i64 f.n, .int .i64 f.x, .slice a f.T.length c, .int .i64 n, .slice ab nb cb] 63) := ⟨_, rfl⟩
  have hB1 : Below w.heap.size w w1 := by rw [hw1]; exact below1 _ _
  have K1 : Hid (Blk w1 w.heap.size 63 [.int .i64 8, .bool wh, .int .i64 f.r, .int .i64 f.a, .int .i64 f.b, .int .i64 f.e, .int .i64 f.n, .int .i64 f.x, .slice a f.T.length c, .int .i64 n, .slice ab nb cb]) := hide_ (by rw [hw1]; exact Blk.newA w _ _)
  have hT1 := hT.out.later hB1
  have c0 := (hT1.cellP i hi).1
  have c1 := hT1.cellQ i hi
  rw [hp] at c0
  rw [hq] at c1
  have HB1 := hide_ hB1
  have HLent := hide_ (lent_any f a c w1 (hide_ (HFA.out w1 (hB1.mono HBw.out))) (by omega))
  have Hp := hide_ hp
  have Hq := hide_ hq
  have hy0 := hide_ hy
  have o2 := K1.out.cell 2; have o3 := K1.out.cell 3; have o4 := K1.out.cell 4; have o5 := K1.out.cell 5; have o6 := K1.out.cell 6; have o7 := K1.out.cell 7; have o8 := K1.out.cell 8
  simp at o2 o3 o4 o5 o6 o7 o8
  clear hP hQ hS hR hp hq hy hT1 hB1
  go_enter Try.func41, Try.ntmps41
  go_upto_region 1 with fail
  rw [← hw1]
  clear hw1
  go_wp2_with fail
  refine HLent.out.mono ?_
  rintro e w2 ⟨g2, c2, rfl, HO2, HB2⟩
  obtain ⟨w3, hw3⟩ : ∃ wx, wx = w2.alloc (.cells #[.int .i64 f.r, .int .i64 f.a, .int .i64 f.b, .int .i64 f.e, .int .i64 f.n, .int .i64 f.x, .slice (some ⟨g2, 0, none⟩) f.T.length c2] 39) := ⟨_, rfl⟩
  have hB3 : Below w2.heap.size w2 w3 := by rw [hw3]; exact below1 _ _
  have K3 : Hid (Blk w3 w2.heap.size 39 (frc (f, .slice (some ⟨g2, 0, none⟩) f.T.length c2))) := hide_ (by rw [hw3]; exact Blk.newA w2 _ _)
  have hb13 := below_to HB2.out hB3
  have HB3 := hide_ (below_to HB1.out hb13)
  have K1c := hide_ (K1.out.later hb13)
  have HO3 : Hid (IOwn w3 w1.heap.size (.slice (some ⟨g2, 0, none⟩) (f.T.length + 1) c2) (f.T ++ [23130])) := hide_ (HO2.out.later hB3)
  have HG2 : Hid (w.heap.size < w1.heap.size ∧ w1.heap.size ≤ g2 ∧ g2 < w2.heap.size ∧ w1.heap.size ≤ w2.heap.size ∧ w2.heap.size < w3.heap.size) := hide_ (by
    have h1 := World.ownsRow.lt HO2.out g2 rfl
    have h2 := K1.out.lt
    have h3 := K3.out.lt
    have h4 := HB2.out.size
    omega)
  clear hB3 hb13 HLent HO2 o2 o3 o4 o5 o6 o7 o8 c0 c1
  have o0 := K1c.out.cell 0
  simp at o0
  go_upto_region 4 with fail
  rw [← hw3]
  clear hw3
  have HSl := hide_ (slot_any w3 B (S i) gp fs m h n (hide_ (HS.out.later HB3.out)))
  have o9 := K1c.out.cell 9
  simp at o9
  go_wp2_with fail
  refine HSl.out.mono ?_
  rintro e w4 hto
  obtain ⟨v, er, rfl, hb4, hbo⟩ := slot_both hto
  clear hto HSl
  have HT4 := hide_ ((hT.out.later HB3.out).later hb4)
  have K1d := hide_ (K1c.out.later hb4)
  have HB4 := hide_ ((below_to HB3.out hb4).mono HBw.out)
  have hR4 := HT4.out.qs i hi
  rw [hy0.out, Hq.out] at hR4
  obtain ⟨gq', hq', hR4⟩ := hR4.open
  injection hq' with hq'
  injection hq' with hq'
  injection hq' with hq' _ _
  subst hq'
  dsimp only at hR4
  have HRp := hide_ (rslot_any w4 B (S (2 + i)) gq fs m h n (hide_ hR4))
  have HBo := hide_ hbo
  clear o9 hb4 hbo hR4
  have o9 := K1d.out.cell 9
  simp at o9
  go_wp2_with fail
  refine HRp.out.mono ?_
  rintro e w5 hto
  obtain ⟨rfl, hb5⟩ := HBo.out _ _ _ hto
  have HNum := hide_ (num_any er w5)
  have HT6 := hide_ (HT4.out.later hb5)
  have HB6 := hide_ (HB4.out.trans (hb5.mono (Nat.le_trans HBw.out HB4.out.size)))
  clear hto hb5 o9 HRp HBo
  go_wp2_with fail
  refine HNum.out.mono ?_
  rintro e w6 ⟨rfl, rfl⟩
  go_wp2_with fail
  go_ret
  exact ⟨rfl, hide_ ⟨_, _, HT6.out.mono (by omega), fun j y hy => ⟨y, hy⟩, HB6.out⟩⟩
end Go.Proofs.Ytcmkdkocponpiaa

/- mortiselaw22: plays: New. -/
namespace Go.Proofs.Ytcmkdkocponpiaa
open Go.RowKit
set_option linter.unusedVariables false

theorem Stk.lenc {w : World} {B g : Nat} {F : Nat → Prop} {fs : List Fr} {m h : Int} (H : Stk w B F g fs m h) : Calls Try.prog 11 #[.pointer (some ⟨g, 0, none⟩)] w fun e w' => e = .returned (.int .i64 (fs.length : Int)) ∧ w = w' := by
  obtain ⟨v, P, hM, rfl, -, -⟩ := H
  obtain ⟨av, cv, rfl, -, -, -⟩ := hM.own.slice
  rw [List.length_map]
  exact len_any g av P.length cv _ _ w (hide_ hM.box)
theorem Stk.highc {w : World} {B g : Nat} {F : Nat → Prop} {fs : List Fr} {m h : Int} (H : Stk w B F g fs m h) : Calls Try.prog 12 #[.pointer (some ⟨g, 0, none⟩)] w fun e w' => e = .returned (.int .i64 h) ∧ w = w' := by
  obtain ⟨v, P, hM, rfl, -, -⟩ := H
  exact high_any g _ _ h w (hide_ hM.box)
theorem RSk.lenc {w : World} {B g : Nat} {F : Nat → Prop} {fs : List Fr} {m h : Int} (H : RSk w B F g fs m h) : Calls Try.prog 42 #[.pointer (some ⟨g, 0, none⟩)] w fun e w' => e = .returned (.int .i64 (fs.length : Int)) ∧ w = w' := by
  obtain ⟨v, P, hM, rfl, -, -⟩ := H
  obtain ⟨av, cv, rfl, -, -, -⟩ := hM.own.slice
  rw [List.length_map]
  exact rlen_any g av P.length cv _ _ w (hide_ hM.box)
theorem RSk.highc {w : World} {B g : Nat} {F : Nat → Prop} {fs : List Fr} {m h : Int} (H : RSk w B F g fs m h) : Calls Try.prog 43 #[.pointer (some ⟨g, 0, none⟩)] w fun e w' => e = .returned (.int .i64 h) ∧ w = w' := by
  obtain ⟨v, P, hM, rfl, -, -⟩ := H
  exact rhigh_any g _ _ h w (hide_ hM.box)
def wN (wh : Bool) : Nat := if wh then 1 else 0
theorem wN_lt (wh : Bool) : wN wh < 2 := by cases wh <;> decide
/-- The frame cut. -/
def cutF (f : Fr) : Fr := ⟨f.r, f.a, f.b, f.e, f.n, f.x, f.T.take 300⟩
theorem FrA.cut {w : World} {f : Fr} {a : Option Addr} {c : Nat} (h : FrA w f a c) : FrA w (cutF f) a c := ⟨h.1.take 300, h.2.1, by have := h.2.2; show (f.T.take 300).length ≤ maxLen; rw [List.length_take]; omega⟩
/-- What plays leaves at New. -/
def NwTo (B : Nat) (w w' : World) (bt : Nat) (xs : Nat → Option Sk) (N i : Nat) (n : Int) : Prop :=
  ∃ p' q' xs' S', Tab B w' bt p' q' xs' xs' N S' ∧ (∀ j y, xs j = some y → ∃ z, xs' j = some z) ∧ Below B w w' ∧ (1 ≤ n ∧ n ≤ 1048576 → ∃ z, xs' i = some z)
set_option maxRecDepth 100000 in
set_option maxHeartbeats 16000000 in
theorem plays_new (B bt : Nat) (p q : Nat → Value) (xs : Nat → Option Sk) (N : Nat) (S : Nat → Nat → Prop) (wh : Bool) (f : Fr) (a : Option Addr) (c : Nat) (n : Int) (ab : Option Addr) (nb cb : Nat) (w : World) (hT : Hid (Tab B w bt p q xs xs N S)) (HFA : Hid (∀ w', Below B w w' → FrA w' f a c)) (hfc : f.T.length ≤ c) (hcm : c ≤ 9223372036854775807) (hN : N ≤ 780) :
    Calls Try.prog 25 #[.pointer (some ⟨bt, 0, none⟩), .agg #[.int .i64 1, .bool wh, .int .i64 f.r, .int .i64 f.a, .int .i64 f.b, .int .i64 f.e, .int .i64 f.n, .int .i64 f.x, .slice a f.T.length c, .int .i64 n, .slice ab nb cb]] w fun e w' => e = .returned (.bool true) ∧ Hid (NwTo B w w' bt xs N (wN wh) n) := by
  have HBw := hide_ hT.out.base
  have HBd := hide_ hT.out.lt
  have HSk : Hid (∀ j k, S j k → B ≤ k ∧ k < w.heap.size ∧ k ≠ bt) := hide_ hT.out.ly
  obtain ⟨w1, hw1⟩ : ∃ wx, wx = w.alloc (.cells #[.int .i64 1, .bool wh, .int .i64 f.r, .int .i64 f.a, .int .i64 f.b, .int .i64 f.e, .int .i64 f.n, .int .i64 f.x, .slice a f.T.length c, .int .i64 n, .slice ab nb cb] 63) := ⟨_, rfl⟩
  have hB1 : Below w.heap.size w w1 := by rw [hw1]; exact below1 _ _
  have K1 : Hid (Blk w1 w.heap.size 63 [.int .i64 1, .bool wh, .int .i64 f.r, .int .i64 f.a, .int .i64 f.b, .int .i64 f.e, .int .i64 f.n, .int .i64 f.x, .slice a f.T.length c, .int .i64 n, .slice ab nb cb]) := hide_ (by rw [hw1]; exact Blk.newA w _ _)
  have HB1 := hide_ hB1
  have hCut := cut_any f a c w1 (hide_ (HFA.out w1 (hB1.mono HBw.out))) hfc hcm
  obtain ⟨tl, htl⟩ : ∃ tl, (f.T.take 300).length = tl := ⟨_, rfl⟩
  rw [htl] at hCut
  have HCut := hide_ hCut
  have HTl := hide_ htl
  clear hCut htl
  have o1 := K1.out.cell 1; have o2 := K1.out.cell 2; have o3 := K1.out.cell 3; have o4 := K1.out.cell 4; have o5 := K1.out.cell 5; have o6 := K1.out.cell 6; have o7 := K1.out.cell 7; have o8 := K1.out.cell 8
  simp at o1 o2 o3 o4 o5 o6 o7 o8
  clear hB1
  go_enter Try.func25, Try.ntmps25
  go_upto_region 2 with fail
  rw [← hw1]
  clear hw1
  go_upto_if 11 with fail
  go_cut [5] from 5 to 11 (fun x5 wc => x5 = .int .i64 (wN wh : Int) ∧ w1 = wc)
  case first =>
    cases wh with
    | true =>
      go_wp2_with fail
      go_meet
      case rel => exact ⟨rfl, rfl⟩
    | false =>
      go_wp2_with fail
      go_meet
      case rel => exact ⟨rfl, rfl⟩
  case rest =>
  obtain ⟨rfl, rfl⟩ := hcut
  have hi := wN_lt wh
  obtain ⟨i, hiw⟩ : ∃ i, wN wh = i := ⟨_, rfl⟩
  have HIw := hide_ hiw
  rw [hiw] at hi ⊢
  clear hiw o1
  have hi' : (i : Int) < 2 := by omega
  go_wp2_with fail
  refine HCut.out.mono ?_
  rintro e w2 ⟨rfl, hb2⟩
  have K2 := hide_ (K1.out.later hb2)
  have HB2 := hide_ (below_to HB1.out hb2)
  obtain ⟨w3, hw3⟩ : ∃ wx, wx = ((((((w2.setCell ⟨w.heap.size, 2, none⟩ (.int .i64 f.r)).setCell ⟨w.heap.size, 3, none⟩ (.int .i64 f.a)).setCell ⟨w.heap.size, 4, none⟩ (.int .i64 f.b)).setCell ⟨w.heap.size, 5, none⟩ (.int .i64 f.e)).setCell ⟨w.heap.size, 6, none⟩ (.int .i64 f.n)).setCell ⟨w.heap.size, 7, none⟩ (.int .i64 f.x)).setCell ⟨w.heap.size, 8, none⟩ (.slice a tl c) := ⟨_, rfl⟩
  have hu3 : Upd (fun k => k = w.heap.size) w2 w3 := by
    rw [hw3]
    exact (((((((Upd.refl (fun k => k = w.heap.size) w2).set ⟨w.heap.size, 2, none⟩ _ (.inl rfl)).set ⟨w.heap.size, 3, none⟩ _ (.inl rfl)).set ⟨w.heap.size, 4, none⟩ _ (.inl rfl)).set ⟨w.heap.size, 5, none⟩ _ (.inl rfl)).set ⟨w.heap.size, 6, none⟩ _ (.inl rfl)).set ⟨w.heap.size, 7, none⟩ _ (.inl rfl)).set ⟨w.heap.size, 8, none⟩ _ (.inl rfl)
  have K3 : Hid (Blk w3 w.heap.size 63 [.int .i64 1, .bool wh, .int .i64 f.r, .int .i64 f.a, .int .i64 f.b, .int .i64 f.e, .int .i64 f.n, .int .i64 f.x, .slice a tl c, .int .i64 n, .slice ab nb cb]) := hide_ (by
    have h := ((((((K2.out.set 2 (.int .i64 f.r)).set 3 (.int .i64 f.a)).set 4 (.int .i64 f.b)).set 5 (.int .i64 f.e)).set 6 (.int .i64 f.n)).set 7 (.int .i64 f.x)).set 8 (.slice a tl c)
    rw [hw3]
    simpa using h)
  have HB3 : Hid (Below w.heap.size w w3) := hide_ (HB2.out.trans (hu3.below w.heap.size HB2.out.size (fun k hk => by omega)))
  have z2 := K2.out.frozen 2; have z3 := K2.out.frozen 3; have z4 := K2.out.frozen 4; have z5 := K2.out.frozen 5; have z6 := K2.out.frozen 6; have z7 := K2.out.frozen 7; have z8 := K2.out.frozen 8
  clear o2 o3 o4 o5 o6 o7 o8
  have o2 := K2.out.cell 2; have o3 := K2.out.cell 3; have o4 := K2.out.cell 4; have o5 := K2.out.cell 5; have o6 := K2.out.cell 6; have o7 := K2.out.cell 7; have o8 := K2.out.cell 8
  simp at o2 o3 o4 o5 o6 o7 o8
  clear hb2 hu3 HCut K1 K2
  go_upto_region 5 with fail
  rw [← hw3]
  clear hw3 o2 o3 o4 o5 o6 o7 o8 z2 z3 z4 z5 z6 z7 z8
  have o0 := K3.out.cell 0; have o9 := K3.out.cell 9; have o10 := K3.out.cell 10
  simp at o0 o9 o10
  have HNw := hide_ (new_any n w3)
  have HT3 := hide_ (hT.out.later HB3.out)
  go_wp2_with fail
  refine HNw.out.mono ?_
  rintro e w5 hto
  have HRw := hide_ (rnew_any n w5)
  rcases hto with ⟨hn, rfl, rfl⟩ | ⟨hn1, hn2, F1, rfl, hs1, hb5⟩
  · have Hn := hide_ hn
    clear hn
    go_wp2_with fail
    refine HRw.out.mono ?_
    rintro e w6 hto
    rcases hto with ⟨hn, rfl, rfl⟩ | ⟨hn1, hn2, F2, rfl, hs2, hb6⟩
    · have HNum := hide_ (num_any 3 w3)
      have HBn := hide_ (begins_none w3 bt i)
      clear hn
      go_wp2_with fail
      refine HNum.out.mono ?_
      rintro e w7 ⟨rfl, rfl⟩
      go_wp2_with fail
      refine HBn.out.mono ?_
      rintro e w8 ⟨rfl, rfl⟩
      go_wp2_with fail
      go_ret
      exact ⟨rfl, hide_ ⟨p, q, xs, S, HT3.out, fun j y hy => ⟨y, hy⟩, HB3.out.mono HBw.out, fun h => absurd h Hn.out⟩⟩
    · exact absurd ⟨hn1, hn2⟩ Hn.out
  · have HS1 := hide_ hs1
    have HB5 := hide_ hb5
    have o9' := (K3.out.later hb5).cell 9
    simp at o9'
    clear hs1 hb5 o9
    go_wp2_with fail
    refine HRw.out.mono ?_
    rintro e w6 hto
    rcases hto with ⟨hn, rfl, rfl⟩ | ⟨-, -, F2, rfl, hs2, hb6⟩
    · exact absurd ⟨hn1, hn2⟩ hn
    · have HNum := hide_ (num_any 0 w6)
      have hT6 := (HT3.out.later HB5.out).later hb6
      have hsz := HB3.out.size
      have hsz5 := HB5.out.size
      have hbt := HBd.out.2
      have hB0 := HBw.out
      have k1 := (HS1.out.later hb6).base (show B ≤ w3.heap.size by omega)
      have k2 := hs2.base (show B ≤ w5.heap.size by omega)
      have n1 : ∀ j k, F1 k → ¬ S j k := fun j k hk e => by have := (HS1.out.lt hk).1; have := (HSk.out j k e).2.1; omega
      have n2 : ∀ j k, F2 k → ¬ S j k := fun j k hk e => by have := (hs2.lt hk).1; have := (HSk.out j k e).2.1; omega
      have n3 : ∀ k, F1 k → ¬ F2 k := fun k hk e => by have := (HS1.out.lt hk).2; have := (hs2.lt e).1; omega
      have b1 : ¬ F1 bt := fun e => by have := (HS1.out.lt e).1; omega
      have b2 : ¬ F2 bt := fun e => by have := (hs2.lt e).1; omega
      have HBg := hide_ (begins_some w6 bt i w3.heap.size w5.heap.size hi (p i) (q i) (hT6.cellP i hi).1 (hT6.cellQ i hi) (hT6.cellP i hi).2)
      have hb06 : Below B w w6 := ((HB3.out.mono hB0).trans (HB5.out.mono (by omega))).trans (hb6.mono (by omega))
      have HTn : Hid (∀ w', w' = (w6.setCell ⟨bt, i, none⟩ (.pointer (some ⟨w3.heap.size, 0, none⟩))).setCell ⟨bt, 2 + i, none⟩ (.pointer (some ⟨w5.heap.size, 0, none⟩)) → NwTo B w w' bt xs N i n) := hide_ (fun w' hw => by
        refine ⟨_, _, _, _, hT6.begin hi k1 k2 n1 n2 n3 b1 b2 hw, fun j y hy => ?_, ?_, fun _ => ⟨_, up1_at _ _ _⟩⟩
        · by_cases e : j = i
          · subst e; exact ⟨_, up1_at _ _ _⟩
          · exact ⟨y, by rw [up1_ne _ _ e]; exact hy⟩
        · rw [hw]
          exact below_set (below_set hb06 bt i _ HBd.out.1) bt (2 + i) _ HBd.out.1)
      clear hT6 hsz hsz5 k1 k2 n1 n2 n3 b1 b2 hb06 hs2 hb6
      go_wp2_with fail
      refine HNum.out.mono ?_
      rintro e w7 ⟨rfl, rfl⟩
      go_wp2_with fail
      refine HBg.out.mono ?_
      rintro e w8 ⟨rfl, HW⟩
      have HL := hide_ (HTn.out w8 HW.out)
      go_wp2_with fail
      go_ret
      exact ⟨rfl, by rw [HIw.out]; exact HL⟩
end Go.Proofs.Ytcmkdkocponpiaa
