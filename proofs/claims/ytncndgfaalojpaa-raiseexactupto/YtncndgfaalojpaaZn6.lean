/- size: extentOf, of options and unions. -/
import Derived.Test.YtncndgfaalojpaaZn
namespace Go.Proofs.Ytncndgfaalojpaa
open Go.RowKit
set_option linter.unusedVariables false

set_option maxRecDepth 100000 in
set_option maxHeartbeats 8000000 in
theorem ext6_any (n el : Int) (ps : List Pt) (va : Option Addr) (vc : Nat) (X : List Ex) (ax : Option Addr) (cx : Nat) (w : World) (hXl : X.length ≤ 10000000000000) (hbd : Hid (∀ x ∈ X, 0 ≤ x.d ∧ x.d ≤ 1000000)) (hok : Hid (tyOk ⟨6, n, el, ps⟩ X.length = true)) (hP : Hid (PRow w va ps)) (hX : Hid (XRow w ax X)) :
    Calls Try.prog 21 #[.agg #[.int .i64 6, .int .i64 n, .int .i64 el, .slice va ps.length vc], .slice ax X.length cx] w fun e w' => e = .returned (exv (ext1 X ⟨6, n, el, ps⟩)) ∧ Below w.heap.size w w' := by
  have hps := tyOk_len hok.out
  simp only at hps
  have hB := below2 w (.cells #[.int .i64 6, .int .i64 n, .int .i64 el, .slice va ps.length vc] 43) (.cells #[.bool false, .int .i64 0, .int .i64 0, .int .i64 0] 63)
  obtain ⟨k1, k2⟩ := blk2 w #[.int .i64 6, .int .i64 n, .int .i64 el, .slice va ps.length vc] #[.bool false, .int .i64 0, .int .i64 0, .int .i64 0] 43 63
  obtain ⟨w0, hw0⟩ : ∃ wx, wx = (w.alloc (.cells #[.int .i64 6, .int .i64 n, .int .i64 el, .slice va ps.length vc] 43)).alloc (.cells #[.bool false, .int .i64 0, .int .i64 0, .int .i64 0] 63) := ⟨_, rfl⟩
  rw [← hw0] at hB k1 k2
  have HB0 := hide_ hB
  have K1 := hide_ k1
  have K2 := hide_ k2
  have hs1 : w.heap.size < w0.heap.size := k1.lt
  have hs2 : w.heap.size + 1 < w0.heap.size := k2.lt
  have HCk := hide_ (kidsOf_any 6 n el ps va vc X ax cx w0 hXl hok (hide_ (hP.out.later hB)) (hide_ (hX.out.later hB)))
  have i0 := k1.cell 0; have i1 := k1.cell 1; have i2 := k1.cell 2; have i3 := k1.cell 3
  simp at i0 i1 i2 i3
  have hkl := kidL_len X 6 el ps
  have hdk := kidL_bd hbd.out 6 el ps
  obtain ⟨ks, hks⟩ : ∃ ks, kidL X 6 el ps = ks := ⟨_, rfl⟩
  rw [hks] at hkl hdk HCk
  have HKS := hide_ hks
  obtain ⟨dk, hde⟩ : ∃ dk, deepX ks = dk := ⟨_, rfl⟩
  rw [hde] at hdk
  have HDE := hide_ hde
  clear hB k1 k2 hks hde
  have HVc : Hid (ext1 X ⟨6, n, el, ps⟩ = ⟨false, plus2 1 (chX (ks ++ [ex0])).1, plus2 1 (chX (ks ++ [ex0])).2, 1 + dk⟩) := hide_ (by
    unfold ext1
    simp only
    rw [HKS.out, HDE.out]
    simp)
  go_enter Try.func21, Try.ntmps21
  go_upto_region 1 with fail
  rw [← hw0]
  clear hw0
  go_wp2_with fail
  refine HCk.out.mono ?_; rintro e w1 ⟨vk, rfl, HO1, HB1⟩
  obtain ⟨ak, ck, hvk, -, -, hXk⟩ := HO1.out.row
  subst hvk
  have HXk := hide_ hXk
  have HCd : Hid (Calls Try.prog 44 #[.slice ak ks.length ck] w1 fun e w' => e = .returned (.int .i64 dk) ∧ Below w1.heap.size w1 w') := hide_ (by have h := deepest_any ak ck ks w1 (by omega) HXk; rwa [HDE.out] at h)
  clear hXk HCk i0 i1 i2 i3
  go_wp2_with fail
  refine HCd.out.mono ?_; rintro e w2 ⟨rfl, hB2⟩
  have hwr : wrap64 (1 + dk) = 1 + dk := w64 _ (by omega)
  have kO := Blk.newA w2 #[.bool false, .int .i64 0, .int .i64 0, .int .i64 (1 + dk)] 63
  have hB3 := below1 w2 (.cells #[.bool false, .int .i64 0, .int .i64 0, .int .i64 (1 + dk)] 63)
  obtain ⟨w3, hw3⟩ : ∃ wx, wx = w2.alloc (.cells #[.bool false, .int .i64 0, .int .i64 0, .int .i64 (1 + dk)] 63) := ⟨_, rfl⟩
  rw [← hw3] at kO hB3
  have hB13 : Below w1.heap.size w1 w3 := below_to hB2 hB3
  have HB3 := hide_ (below_to HB1.out hB13)
  have HO3 := hide_ (HO1.out.later hB13)
  have hg2 : w0.heap.size ≤ w2.heap.size := Nat.le_trans HB1.out.size hB2.size
  have Hown : Hid (∀ k, (Value.slice ak ks.length ck).ownBlock = some k → k < w2.heap.size) := hide_ (fun k hk => Nat.lt_of_lt_of_le (HO1.out.lt k hk).2 hB2.size)
  have k1 := K1.out.later HB3.out
  have i0 := k1.cell 0; have i1 := k1.cell 1
  simp at i0 i1
  clear hB2 HCd HXk HO1
  go_upto_region 3 with fail
  rw [← hw3]
  clear hw3 hB13 hB3
  go_quiet (fail)
  have K1q := hide_ (k1.drewN nq)
  have KOq := hide_ (kO.drewN nq)
  have K2q := hide_ ((K2.out.later HB3.out).drewN nq)
  have HBq := hide_ (below_drewN HB3.out nq)
  have HOq := hide_ (HO3.out.later (below_drewN (Below.refl _ w3) nq))
  clear k1 kO i0 i1 HB3 HO3 K1 K2
  obtain ⟨g, hg⟩ : ∃ g, w2.heap.size = g := ⟨_, rfl⟩
  rw [hg] at KOq hg2 Hown
  generalize w3.drewN nq = w4 at *
  have k1 := K1q.out; have kO := KOq.out; have k2 := K2q.out
  have i0 := k1.cell 0; have i1 := k1.cell 1
  have j0 := kO.cell 0; have j1 := kO.cell 1; have j2 := kO.cell 2; have j3 := kO.cell 3
  simp at i0 i1 j0 j1 j2 j3
  have f1 := fun i => kO.frozen i
  have HBw := hide_ (below_to HB0.out HBq.out)
  clear k1 kO k2
  try rw [hg]
  clear hg
  obtain ⟨v5, w5, hrun, hO5, hU5⟩ := HOq.out.pushU ex0 (by omega) HBq.out.size
  have HRun : Hid ((Builtin.append_ #[44, 44] 44 #[.slice ak ks.length ck, .slice (some ⟨w4.heap.size, 0, none⟩) 1 1]).run Try.prog (w4.alloc (.cells #[.bool false, .int .i64 0, .int .i64 0, .int .i64 0] 63)) = .ok v5 w5) := hide_ hrun
  have KO5 := hide_ (KOq.out.upd hU5 (fun e => by have := Hown.out g e; omega))
  have K25 := hide_ (K2q.out.upd hU5 (fun e => by have := (HOq.out.lt _ e).1; omega))
  have HB5 := hide_ (HBw.out.trans (hU5.below w.heap.size HBw.out.size (fun k hk => by have := (HOq.out.lt k hk).1; omega)))
  obtain ⟨a5, c5, hv5, -, -, hX5⟩ := hO5.row
  have hl5 : (ks ++ [ex0]).length ≤ 1000 := by simp; omega
  obtain ⟨kt, hkt⟩ : ∃ kt, ks ++ [ex0] = kt := ⟨_, rfl⟩
  rw [hkt] at hv5 hX5 hl5
  rw [hkt] at HVc
  subst hv5
  have HCc := hide_ (choice_any a5 c5 kt w5 (by omega) (hide_ hX5))
  clear hrun hO5 hU5 hX5 HOq hkt
  go_wp2_with (first | (at_builtin; refine wpList_append_run rfl (.tmp 72) (.tmp 74) 44 44 rfl rfl rfl HRun.out ?_; clear HRun))
  clear i0 i1 j0 j1 j2 j3 f1
  obtain ⟨c1, hc1⟩ : ∃ c1, (chX kt).1 = c1 := ⟨_, rfl⟩
  obtain ⟨c2, hc2⟩ : ∃ c2, (chX kt).2 = c2 := ⟨_, rfl⟩
  rw [hc1, hc2] at HCc HVc
  obtain ⟨pl, hpl⟩ : ∃ pl, plus2 1 c1 = pl := ⟨_, rfl⟩
  obtain ⟨pm, hpm⟩ : ∃ pm, plus2 1 c2 = pm := ⟨_, rfl⟩
  rw [hpl, hpm] at HVc
  have HV := HVc
  have HP1 : Hid (∀ (w : World) (g : Nat), Hid (Blk w g 3 [.int .i64 1, .int .i64 c1]) → Calls Try.prog 48 #[.slice (some ⟨g, 0, none⟩) 2 2] w fun e w' => e = .returned (.int .i64 pl) ∧ w = w') := hide_ (fun w g h => by have := plusB_any 1 c1 w 3 g h; rwa [hpl] at this)
  have HP2 : Hid (∀ (w : World) (g : Nat), Hid (Blk w g 3 [.int .i64 1, .int .i64 c2]) → Calls Try.prog 48 #[.slice (some ⟨g, 0, none⟩) 2 2] w fun e w' => e = .returned (.int .i64 pm) ∧ w = w') := hide_ (fun w g h => by have := plusB_any 1 c2 w 3 g h; rwa [hpm] at this)
  clear hc1 hc2 hpl hpm
  refine HCc.out.mono ?_; rintro e w6 ⟨rfl, hB6⟩
  have kA := Blk.newA w6 #[.int .i64 1, .int .i64 c1] 3
  have hB7 := below1 w6 (.cells #[.int .i64 1, .int .i64 c1] 3)
  obtain ⟨w7, hw7⟩ : ∃ w7, w7 = w6.alloc (.cells #[.int .i64 1, .int .i64 c1] 3) := ⟨_, rfl⟩
  rw [← hw7] at kA hB7
  have kB := Blk.newA w7 #[.int .i64 1, .int .i64 c2] 3
  have hB8 := below1 w7 (.cells #[.int .i64 1, .int .i64 c2] 3)
  obtain ⟨w8, hw8⟩ : ∃ w8, w8 = w7.alloc (.cells #[.int .i64 1, .int .i64 c2] 3) := ⟨_, rfl⟩
  rw [← hw8] at kB hB8
  rw [show w7.heap.size = w6.heap.size + 1 by rw [hw7]; simp] at kB
  have hB58 : Below w5.heap.size w5 w8 := below_to (below_to hB6 hB7) hB8
  have KO8 := hide_ (KO5.out.later hB58)
  have K28 := hide_ (K25.out.later hB58)
  have HB8 := hide_ (below_to HB5.out hB58)
  have HKA := hide_ kA
  have HKB := hide_ kB
  clear kA kB hB6 hB7 hB8 hB58 HCc
  go_wp2_with fail
  rw [← hw7]
  refine (HP1.out _ _ HKA).mono ?_; rintro e w' ⟨rfl, rfl⟩
  go_wp2_with fail
  rw [← hw7, ← hw8]
  refine (HP2.out _ _ HKB).mono ?_; rintro e w' ⟨rfl, rfl⟩
  clear hw7 hw8 HKA HKB HP1 HP2
  have j0 := KO8.out.cell 0; have j1 := KO8.out.cell 1; have j2 := KO8.out.cell 2; have j3 := KO8.out.cell 3
  simp at j0 j1 j2 j3
  have f1 := fun i => KO8.out.frozen i
  have HKs : Hid (Blk ((w8.setCell ⟨g, 1, none⟩ (.int .i64 pl)).setCell ⟨g, 2, none⟩ (.int .i64 pm)) g 63 [.bool false, .int .i64 pl, .int .i64 pm, .int .i64 (1 + dk)]) := hide_ (by have h := (KO8.out.set 1 (.int .i64 pl)).set 2 (.int .i64 pm); simpa using h)
  have HRs := hide_ ((K28.out.other ⟨g, 1, none⟩ (.int .i64 pl) (by show w.heap.size + 1 ≠ g; omega)).other ⟨g, 2, none⟩ (.int .i64 pm) (by show w.heap.size + 1 ≠ g; omega))
  have HBs := hide_ (below_set (below_set HB8.out g 1 (.int .i64 pl) (by omega)) g 2 (.int .i64 pm) (by omega))
  obtain ⟨ws, hws⟩ : ∃ ws, ws = (w8.setCell ⟨g, 1, none⟩ (.int .i64 pl)).setCell ⟨g, 2, none⟩ (.int .i64 pm) := ⟨_, rfl⟩
  rw [← hws] at HKs HRs HBs
  go_upto_region 24 with fail
  rw [← hws]
  clear hws j0 j1 j2 j3 f1
  have i0 := HKs.out.cell 0; have i1 := HKs.out.cell 1; have i2 := HKs.out.cell 2; have i3 := HKs.out.cell 3
  have j0 := HRs.out.cell 0; have j1 := HRs.out.cell 1; have j2 := HRs.out.cell 2; have j3 := HRs.out.cell 3
  simp at i0 i1 i2 i3 j0 j1 j2 j3
  have f1 := fun i => HRs.out.frozen i
  have HK := hide_ (wr4 HRs.out (.bool false) (.int .i64 pl) (.int .i64 pm) (.int .i64 (1 + dk)))
  have HBf := hide_ (below_wr4 HBs.out (w.heap.size + 1) (by omega) (.bool false) (.int .i64 pl) (.int .i64 pm) (.int .i64 (1 + dk)))
  go_wp2
  refine retX (x := ⟨false, pl, pm, 1 + dk⟩) rfl rfl HK.out ⟨by rw [HV.out], HBf.out⟩
set_option maxRecDepth 100000 in
set_option maxHeartbeats 8000000 in
theorem ext7_any (n el : Int) (ps : List Pt) (va : Option Addr) (vc : Nat) (X : List Ex) (ax : Option Addr) (cx : Nat) (w : World) (hXl : X.length ≤ 10000000000000) (hbd : Hid (∀ x ∈ X, 0 ≤ x.d ∧ x.d ≤ 1000000)) (hok : Hid (tyOk ⟨7, n, el, ps⟩ X.length = true)) (hP : Hid (PRow w va ps)) (hX : Hid (XRow w ax X)) :
    Calls Try.prog 21 #[.agg #[.int .i64 7, .int .i64 n, .int .i64 el, .slice va ps.length vc], .slice ax X.length cx] w fun e w' => e = .returned (exv (ext1 X ⟨7, n, el, ps⟩)) ∧ Below w.heap.size w w' := by
  have hps := tyOk_len hok.out
  simp only at hps
  have hB := below2 w (.cells #[.int .i64 7, .int .i64 n, .int .i64 el, .slice va ps.length vc] 43) (.cells #[.bool false, .int .i64 0, .int .i64 0, .int .i64 0] 63)
  obtain ⟨k1, k2⟩ := blk2 w #[.int .i64 7, .int .i64 n, .int .i64 el, .slice va ps.length vc] #[.bool false, .int .i64 0, .int .i64 0, .int .i64 0] 43 63
  obtain ⟨w0, hw0⟩ : ∃ wx, wx = (w.alloc (.cells #[.int .i64 7, .int .i64 n, .int .i64 el, .slice va ps.length vc] 43)).alloc (.cells #[.bool false, .int .i64 0, .int .i64 0, .int .i64 0] 63) := ⟨_, rfl⟩
  rw [← hw0] at hB k1 k2
  have HB0 := hide_ hB
  have K1 := hide_ k1
  have K2 := hide_ k2
  have hs1 : w.heap.size < w0.heap.size := k1.lt
  have hs2 : w.heap.size + 1 < w0.heap.size := k2.lt
  have HCk := hide_ (kidsOf_any 7 n el ps va vc X ax cx w0 hXl hok (hide_ (hP.out.later hB)) (hide_ (hX.out.later hB)))
  have i0 := k1.cell 0; have i1 := k1.cell 1; have i2 := k1.cell 2; have i3 := k1.cell 3
  simp at i0 i1 i2 i3
  have hkl := kidL_len X 7 el ps
  have hdk := kidL_bd hbd.out 7 el ps
  obtain ⟨ks, hks⟩ : ∃ ks, kidL X 7 el ps = ks := ⟨_, rfl⟩
  rw [hks] at hkl hdk HCk
  have HKS := hide_ hks
  obtain ⟨dk, hde⟩ : ∃ dk, deepX ks = dk := ⟨_, rfl⟩
  rw [hde] at hdk
  have HDE := hide_ hde
  clear hB k1 k2 hks hde
  have HVc : Hid (ext1 X ⟨7, n, el, ps⟩ = ⟨false, plus2 1 (chX (ks)).1, plus2 1 (chX (ks)).2, 1 + dk⟩) := hide_ (by
    unfold ext1
    simp only
    rw [HKS.out, HDE.out]
    simp)
  go_enter Try.func21, Try.ntmps21
  go_upto_region 1 with fail
  rw [← hw0]
  clear hw0
  go_wp2_with fail
  refine HCk.out.mono ?_; rintro e w1 ⟨vk, rfl, HO1, HB1⟩
  obtain ⟨ak, ck, hvk, -, -, hXk⟩ := HO1.out.row
  subst hvk
  have HXk := hide_ hXk
  have HCd : Hid (Calls Try.prog 44 #[.slice ak ks.length ck] w1 fun e w' => e = .returned (.int .i64 dk) ∧ Below w1.heap.size w1 w') := hide_ (by have h := deepest_any ak ck ks w1 (by omega) HXk; rwa [HDE.out] at h)
  clear hXk HCk i0 i1 i2 i3
  go_wp2_with fail
  refine HCd.out.mono ?_; rintro e w2 ⟨rfl, hB2⟩
  have hwr : wrap64 (1 + dk) = 1 + dk := w64 _ (by omega)
  have kO := Blk.newA w2 #[.bool false, .int .i64 0, .int .i64 0, .int .i64 (1 + dk)] 63
  have hB3 := below1 w2 (.cells #[.bool false, .int .i64 0, .int .i64 0, .int .i64 (1 + dk)] 63)
  obtain ⟨w3, hw3⟩ : ∃ wx, wx = w2.alloc (.cells #[.bool false, .int .i64 0, .int .i64 0, .int .i64 (1 + dk)] 63) := ⟨_, rfl⟩
  rw [← hw3] at kO hB3
  have hB13 : Below w1.heap.size w1 w3 := below_to hB2 hB3
  have HB3 := hide_ (below_to HB1.out hB13)
  have HO3 := hide_ (HO1.out.later hB13)
  have hg2 : w0.heap.size ≤ w2.heap.size := Nat.le_trans HB1.out.size hB2.size
  have Hown : Hid (∀ k, (Value.slice ak ks.length ck).ownBlock = some k → k < w2.heap.size) := hide_ (fun k hk => Nat.lt_of_lt_of_le (HO1.out.lt k hk).2 hB2.size)
  have k1 := K1.out.later HB3.out
  have i0 := k1.cell 0; have i1 := k1.cell 1
  simp at i0 i1
  clear hB2 HCd HXk HO1
  go_upto_region 3 with fail
  rw [← hw3]
  clear hw3 hB13 hB3
  go_quiet (fail)
  have K1q := hide_ (k1.drewN nq)
  have KOq := hide_ (kO.drewN nq)
  have K2q := hide_ ((K2.out.later HB3.out).drewN nq)
  have HBq := hide_ (below_drewN HB3.out nq)
  have HOq := hide_ (HO3.out.later (below_drewN (Below.refl _ w3) nq))
  clear k1 kO i0 i1 HB3 HO3 K1 K2
  obtain ⟨g, hg⟩ : ∃ g, w2.heap.size = g := ⟨_, rfl⟩
  rw [hg] at KOq hg2 Hown
  generalize w3.drewN nq = w4 at *
  have k1 := K1q.out; have kO := KOq.out; have k2 := K2q.out
  have i0 := k1.cell 0; have i1 := k1.cell 1
  have j0 := kO.cell 0; have j1 := kO.cell 1; have j2 := kO.cell 2; have j3 := kO.cell 3
  simp at i0 i1 j0 j1 j2 j3
  have f1 := fun i => kO.frozen i
  have HBw := hide_ (below_to HB0.out HBq.out)
  clear k1 kO k2
  try rw [hg]
  clear hg
  have KO5 := KOq
  have K25 := K2q
  have HB5 := HBw
  obtain ⟨ak2, ck2, hvk, -, -, hXk⟩ := HOq.out.row
  injection hvk with e1 _ e3
  subst e1 e3
  have HCc := hide_ (choice_any ak ck ks w4 (by omega) (hide_ hXk))
  clear hXk HOq
  go_wp2_with fail
  clear i0 i1 j0 j1 j2 j3 f1
  obtain ⟨c1, hc1⟩ : ∃ c1, (chX ks).1 = c1 := ⟨_, rfl⟩
  obtain ⟨c2, hc2⟩ : ∃ c2, (chX ks).2 = c2 := ⟨_, rfl⟩
  rw [hc1, hc2] at HCc HVc
  obtain ⟨pl, hpl⟩ : ∃ pl, plus2 1 c1 = pl := ⟨_, rfl⟩
  obtain ⟨pm, hpm⟩ : ∃ pm, plus2 1 c2 = pm := ⟨_, rfl⟩
  rw [hpl, hpm] at HVc
  have HV := HVc
  have HP1 : Hid (∀ (w : World) (g : Nat), Hid (Blk w g 3 [.int .i64 1, .int .i64 c1]) → Calls Try.prog 48 #[.slice (some ⟨g, 0, none⟩) 2 2] w fun e w' => e = .returned (.int .i64 pl) ∧ w = w') := hide_ (fun w g h => by have := plusB_any 1 c1 w 3 g h; rwa [hpl] at this)
  have HP2 : Hid (∀ (w : World) (g : Nat), Hid (Blk w g 3 [.int .i64 1, .int .i64 c2]) → Calls Try.prog 48 #[.slice (some ⟨g, 0, none⟩) 2 2] w fun e w' => e = .returned (.int .i64 pm) ∧ w = w') := hide_ (fun w g h => by have := plusB_any 1 c2 w 3 g h; rwa [hpm] at this)
  clear hc1 hc2 hpl hpm
  refine HCc.out.mono ?_; rintro e w6 ⟨rfl, hB6⟩
  have kA := Blk.newA w6 #[.int .i64 1, .int .i64 c1] 3
  have hB7 := below1 w6 (.cells #[.int .i64 1, .int .i64 c1] 3)
  obtain ⟨w7, hw7⟩ : ∃ w7, w7 = w6.alloc (.cells #[.int .i64 1, .int .i64 c1] 3) := ⟨_, rfl⟩
  rw [← hw7] at kA hB7
  have kB := Blk.newA w7 #[.int .i64 1, .int .i64 c2] 3
  have hB8 := below1 w7 (.cells #[.int .i64 1, .int .i64 c2] 3)
  obtain ⟨w8, hw8⟩ : ∃ w8, w8 = w7.alloc (.cells #[.int .i64 1, .int .i64 c2] 3) := ⟨_, rfl⟩
  rw [← hw8] at kB hB8
  rw [show w7.heap.size = w6.heap.size + 1 by rw [hw7]; simp] at kB
  have hB58 : Below w4.heap.size w4 w8 := below_to (below_to hB6 hB7) hB8
  have KO8 := hide_ (KO5.out.later hB58)
  have K28 := hide_ (K25.out.later hB58)
  have HB8 := hide_ (below_to HB5.out hB58)
  have HKA := hide_ kA
  have HKB := hide_ kB
  clear kA kB hB6 hB7 hB8 hB58 HCc
  go_wp2_with fail
  rw [← hw7]
  refine (HP1.out _ _ HKA).mono ?_; rintro e w' ⟨rfl, rfl⟩
  go_wp2_with fail
  rw [← hw7, ← hw8]
  refine (HP2.out _ _ HKB).mono ?_; rintro e w' ⟨rfl, rfl⟩
  clear hw7 hw8 HKA HKB HP1 HP2
  have j0 := KO8.out.cell 0; have j1 := KO8.out.cell 1; have j2 := KO8.out.cell 2; have j3 := KO8.out.cell 3
  simp at j0 j1 j2 j3
  have f1 := fun i => KO8.out.frozen i
  have HKs : Hid (Blk ((w8.setCell ⟨g, 1, none⟩ (.int .i64 pl)).setCell ⟨g, 2, none⟩ (.int .i64 pm)) g 63 [.bool false, .int .i64 pl, .int .i64 pm, .int .i64 (1 + dk)]) := hide_ (by have h := (KO8.out.set 1 (.int .i64 pl)).set 2 (.int .i64 pm); simpa using h)
  have HRs := hide_ ((K28.out.other ⟨g, 1, none⟩ (.int .i64 pl) (by show w.heap.size + 1 ≠ g; omega)).other ⟨g, 2, none⟩ (.int .i64 pm) (by show w.heap.size + 1 ≠ g; omega))
  have HBs := hide_ (below_set (below_set HB8.out g 1 (.int .i64 pl) (by omega)) g 2 (.int .i64 pm) (by omega))
  obtain ⟨ws, hws⟩ : ∃ ws, ws = (w8.setCell ⟨g, 1, none⟩ (.int .i64 pl)).setCell ⟨g, 2, none⟩ (.int .i64 pm) := ⟨_, rfl⟩
  rw [← hws] at HKs HRs HBs
  go_upto_region 24 with fail
  rw [← hws]
  clear hws j0 j1 j2 j3 f1
  have i0 := HKs.out.cell 0; have i1 := HKs.out.cell 1; have i2 := HKs.out.cell 2; have i3 := HKs.out.cell 3
  have j0 := HRs.out.cell 0; have j1 := HRs.out.cell 1; have j2 := HRs.out.cell 2; have j3 := HRs.out.cell 3
  simp at i0 i1 i2 i3 j0 j1 j2 j3
  have f1 := fun i => HRs.out.frozen i
  have HK := hide_ (wr4 HRs.out (.bool false) (.int .i64 pl) (.int .i64 pm) (.int .i64 (1 + dk)))
  have HBf := hide_ (below_wr4 HBs.out (w.heap.size + 1) (by omega) (.bool false) (.int .i64 pl) (.int .i64 pm) (.int .i64 (1 + dk)))
  go_wp2
  refine retX (x := ⟨false, pl, pm, 1 + dk⟩) rfl rfl HK.out ⟨by rw [HV.out], HBf.out⟩
end Go.Proofs.Ytncndgfaalojpaa
