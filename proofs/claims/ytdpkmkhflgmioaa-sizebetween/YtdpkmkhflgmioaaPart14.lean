import Derived.Test.YtdpkmkhflgmioaaPart13
import Derived.Test.YtdpkmkhflgmioaaPart11
import Derived.Deep.OwnRows
import Derived.BigQuiet

/- size: extentOf, of options and unions. -/
namespace Go.Proofs.Ytdpkmkhflgmioaa
open Go.RowKit
set_option linter.unusedVariables false

set_option maxRecDepth 100000 in
set_option maxHeartbeats 8000000 in
theorem ext6_any (n el : Int) (ps : List Pt) (va : Option Addr) (vc : Nat) (X : List Ex) (ax : Option Addr) (cx : Nat) (w : World) (hXl : X.length ≤ 10000000000000) (hbd : Hid (∀ x ∈ X, 0 ≤ x.d ∧ x.d ≤ 1000000)) (hok : Hid (tyOk ⟨6, n, el, ps⟩ X.length = true)) (hP : Hid (PRow w va ps)) (hX : Hid (XRow w ax X)) :
    Calls Try.prog 23 #[.agg #[.int .i64 6, .int .i64 n, .int .i64 el, .slice va ps.length vc], .slice ax X.length cx] w fun e w' => e = .returned (exv (ext1 X ⟨6, n, el, ps⟩)) ∧ Below w.heap.size w w' := by
  have hps := tyOk_len hok.out
  simp only at hps
  have hB := below2 w (.cells #[.int .i64 6, .int .i64 n, .int .i64 el, .slice va ps.length vc] 62) (.cells #[.bool false, .int .i64 0, .int .i64 0, .int .i64 0] 48)
  obtain ⟨k1, k2⟩ := blk2 w #[.int .i64 6, .int .i64 n, .int .i64 el, .slice va ps.length vc] #[.bool false, .int .i64 0, .int .i64 0, .int .i64 0] 62 48
  obtain ⟨w0, hw0⟩ : ∃ wx, wx = (w.alloc (.cells #[.int .i64 6, .int .i64 n, .int .i64 el, .slice va ps.length vc] 62)).alloc (.cells #[.bool false, .int .i64 0, .int .i64 0, .int .i64 0] 48) := ⟨_, rfl⟩
  rw [← hw0] at hB k1 k2
  have HB0 := hide_ hB
  have K1 := hide_ k1
  have K2 := hide_ k2
  have hs1 : w.heap.size < w0.heap.size := k1.lt
  have hs2 : w.heap.size + 1 < w0.heap.size := k2.lt
  have HCk := hide_ (kidsOf_any 6 n el ps va vc X ax cx w0 hXl hok (hide_ (hP.out.later hB)) (hide_ (hX.out.later hB)))
  have i0 := k1.cell 0; have i1 := k1.cell 1; have i2 := k1.cell 2; have i3 := k1.cell 3
  simp at i0 i1 i2 i3
  have hkl := kidL_len X 6 el ps
  have hdk := kidL_bd hbd.out 6 el ps
  obtain ⟨ks, hks⟩ : ∃ ks, kidL X 6 el ps = ks := ⟨_, rfl⟩
  rw [hks] at hkl hdk HCk
  have HKS := hide_ hks
  obtain ⟨dk, hde⟩ : ∃ dk, deepX ks = dk := ⟨_, rfl⟩
  rw [hde] at hdk
  have HDE := hide_ hde
  clear hB k1 k2 hks hde
  have HVc : Hid (ext1 X ⟨6, n, el, ps⟩ = ⟨false, plus2 1 (chX (ks ++ [ex0])).1, plus2 1 (chX (ks ++ [ex0])).2, 1 + dk⟩) := hide_ (by
    unfold ext1
    simp only
    rw [HKS.out, HDE.out]
    simp)
  go_enter Try.func23, Try.ntmps23
  go_upto_region 1 with fail
  rw [← hw0]
  clear hw0
  go_wp2_with fail
  refine HCk.out.mono ?_; rintro e w1 ⟨vk, rfl, HO1, HB1⟩
  obtain ⟨ak, ck, hvk, -, -, hXk⟩ := HO1.out.row
  subst hvk
  have HXk := hide_ hXk
  have HCd : Hid (Calls Try.prog 42 #[.slice ak ks.length ck] w1 fun e w' => e = .returned (.int .i64 dk) ∧ Below w1.heap.size w1 w') := hide_ (by have h := deepest_any ak ck ks w1 (by omega) HXk; rwa [HDE.out] at h)
  clear hXk HCk i0 i1 i2 i3
  go_wp2_with fail
  refine HCd.out.mono ?_; rintro e w2 ⟨rfl, hB2⟩
  have hwr : wrap64 (1 + dk) = 1 + dk := w64 _ (by omega)
  have kO := Blk.newA w2 #[.bool false, .int .i64 0, .int .i64 0, .int .i64 (1 + dk)] 48
  have hB3 := below1 w2 (.cells #[.bool false, .int .i64 0, .int .i64 0, .int .i64 (1 + dk)] 48)
  obtain ⟨w3, hw3⟩ : ∃ wx, wx = w2.alloc (.cells #[.bool false, .int .i64 0, .int .i64 0, .int .i64 (1 + dk)] 48) := ⟨_, rfl⟩
  rw [← hw3] at kO hB3
  have hB13 : Below w1.heap.size w1 w3 := below_to hB2 hB3
  have HB3 := hide_ (below_to HB1.out hB13)
  have HO3 := hide_ (HO1.out.later hB13)
  have hg2 : w0.heap.size ≤ w2.heap.size := Nat.le_trans HB1.out.size hB2.size
  have Hown : Hid (∀ k, (Value.slice ak ks.length ck).ownBlock = some k → k < w2.heap.size) := hide_ (fun k hk => Nat.lt_of_lt_of_le (HO1.out.lt k hk).2 hB2.size)
  have k1 := K1.out.later HB3.out
  have i0 := k1.cell 0; have i1 := k1.cell 1
  simp at i0 i1
  clear hB2 HCd HXk HO1
  go_upto_region 3 with fail
  rw [← hw3]
  clear hw3 hB13 hB3
  go_quiet (fail)
  have K1q := hide_ (k1.drewN nq)
  have KOq := hide_ (kO.drewN nq)
  have K2q := hide_ ((K2.out.later HB3.out).drewN nq)
  have HBq := hide_ (below_drewN HB3.out nq)
  have HOq := hide_ (HO3.out.later (below_drewN (Below.refl _ w3) nq))
  clear k1 kO i0 i1 HB3 HO3 K1 K2
  obtain ⟨g, hg⟩ : ∃ g, w2.heap.size = g := ⟨_, rfl⟩
  rw [hg] at KOq hg2 Hown
  generalize w3.drewN nq = w4 at *
  have k1 := K1q.out; have kO := KOq.out; have k2 := K2q.out
  have i0 := k1.cell 0; have i1 := k1.cell 1
  have j0 := kO.cell 0; have j1 := kO.cell 1; have j2 := kO.cell 2; have j3 := kO.cell 3
  simp at i0 i1 j0 j1 j2 j3
  have f1 := fun i => kO.frozen i
  have HBw := hide_ (below_to HB0.out HBq.out)
  clear k1 kO k2
  try rw [hg]
  clear hg
  obtain ⟨v5, w5, hrun, hO5, hU5⟩ := HOq.out.pushU ex0 (by omega) HBq.out.size
  have HRun : Hid ((Builtin.append_ #[29, 29] 29 #[.slice ak ks.length ck, .slice (some ⟨w4.heap.size, 0, none⟩) 1 1]).run Try.prog (w4.alloc (.cells #[.bool false, .int .i64 0, .int .i64 0, .int .i64 0] 48)) = .ok v5 w5) := hide_ hrun
  have KO5 := hide_ (KOq.out.upd hU5 (fun e => by have := Hown.out g e; omega))
  have K25 := hide_ (K2q.out.upd hU5 (fun e => by have := (HOq.out.lt _ e).1; omega))
  have HB5 := hide_ (HBw.out.trans (hU5.below w.heap.size HBw.out.size (fun k hk => by have := (HOq.out.lt k hk).1; omega)))
  obtain ⟨a5, c5, hv5, -, -, hX5⟩ := hO5.row
  have hl5 : (ks ++ [ex0]).length ≤ 1000 := by simp; omega
  obtain ⟨kt, hkt⟩ : ∃ kt, ks ++ [ex0] = kt := ⟨_, rfl⟩
  rw [hkt] at hv5 hX5 hl5
  rw [hkt] at HVc
  subst hv5
  have HCc := hide_ (choice_any a5 c5 kt w5 (by omega) (hide_ hX5))
  clear hrun hO5 hU5 hX5 HOq hkt
  go_wp2_with (first | (at_builtin; refine wpList_append_run rfl (.tmp 72) (.tmp 74) 29 29 rfl rfl rfl HRun.out ?_; clear HRun))
  clear i0 i1 j0 j1 j2 j3 f1
  obtain ⟨c1, hc1⟩ : ∃ c1, (chX kt).1 = c1 := ⟨_, rfl⟩
  obtain ⟨c2, hc2⟩ : ∃ c2, (chX kt).2 = c2 := ⟨_, rfl⟩
  rw [hc1, hc2] at HCc HVc
  obtain ⟨pl, hpl⟩ : ∃ pl, plus2 1 c1 = pl := ⟨_, rfl⟩
  obtain ⟨pm, hpm⟩ : ∃ pm, plus2 1 c2 = pm := ⟨_, rfl⟩
  rw [hpl, hpm] at HVc
  have HV := HVc
  have HP1 : Hid (∀ (w : World) (g : Nat), Hid (Blk w g 3 [.int .i64 1, .int .i64 c1]) → Calls Try.prog 46 #[.slice (some ⟨g, 0, none⟩) 2 2] w fun e w' => e = .returned (.int .i64 pl) ∧ w = w') := hide_ (fun w g h => by have := plusB_any 1 c1 w 3 g h; rwa [hpl] at this)
  have HP2 : Hid (∀ (w : World) (g : Nat), Hid (Blk w g 3 [.int .i64 1, .int .i64 c2]) → Calls Try.prog 46 #[.slice (some ⟨g, 0, none⟩) 2 2] w fun e w' => e = .returned (.int .i64 pm) ∧ w = w') := hide_ (fun w g h => by have := plusB_any 1 c2 w 3 g h; rwa [hpm] at this)
  clear hc1 hc2 hpl hpm
  refine HCc.out.mono ?_; rintro e w6 ⟨rfl, hB6⟩
  have kA := Blk.newA w6 #[.int .i64 1, .int .i64 c1] 3
  have hB7 := below1 w6 (.cells #[.int .i64 1, .int .i64 c1] 3)
  obtain ⟨w7, hw7⟩ : ∃ w7, w7 = w6.alloc (.cells #[.int .i64 1, .int .i64 c1] 3) := ⟨_, rfl⟩
  rw [← hw7] at kA hB7
  have kB := Blk.newA w7 #[.int .i64 1, .int .i64 c2] 3
  have hB8 := below1 w7 (.cells #[.int .i64 1, .int .i64 c2] 3)
  obtain ⟨w8, hw8⟩ : ∃ w8, w8 = w7.alloc (.cells #[.int .i64 1, .int .i64 c2] 3) := ⟨_, rfl⟩
  rw [← hw8] at kB hB8
  rw [show w7.heap.size = w6.heap.size + 1 by rw [hw7]; simp] at kB
  have hB58 : Below w5.heap.size w5 w8 := below_to (below_to hB6 hB7) hB8
  have KO8 := hide_ (KO5.out.later hB58)
  have K28 := hide_ (K25.out.later hB58)
  have HB8 := hide_ (below_to HB5.out hB58)
  have HKA := hide_ kA
  have HKB := hide_ kB
  clear kA kB hB6 hB7 hB8 hB58 HCc
  go_wp2_with fail
  rw [← hw7]
  refine (HP1.out _ _ HKA).mono ?_; rintro e w' ⟨rfl, rfl⟩
  go_wp2_with fail
  rw [← hw7, ← hw8]
  refine (HP2.out _ _ HKB).mono ?_; rintro e w' ⟨rfl, rfl⟩
  clear hw7 hw8 HKA HKB HP1 HP2
  have j0 := KO8.out.cell 0; have j1 := KO8.out.cell 1; have j2 := KO8.out.cell 2; have j3 := KO8.out.cell 3
  simp at j0 j1 j2 j3
  have f1 := fun i => KO8.out.frozen i
  have HKs : Hid (Blk ((w8.setCell ⟨g, 1, none⟩ (.int .i64 pl)).setCell ⟨g, 2, none⟩ (.int .i64 pm)) g 48 [.bool false, .int .i64 pl, .int .i64 pm, .int .i64 (1 + dk)]) := hide_ (by have h := (KO8.out.set 1 (.int .i64 pl)).set 2 (.int .i64 pm); simpa using h)
  have HRs := hide_ ((K28.out.other ⟨g, 1, none⟩ (.int .i64 pl) (by show w.heap.size + 1 ≠ g; omega)).other ⟨g, 2, none⟩ (.int .i64 pm) (by show w.heap.size + 1 ≠ g; omega))
  have HBs := hide_ (below_set (below_set HB8.out g 1 (.int .i64 pl) (by omega)) g 2 (.int .i64 pm) (by omega))
  obtain ⟨ws, hws⟩ : ∃ ws, ws = (w8.setCell ⟨g, 1, none⟩ (.int .i64 pl)).setCell ⟨g, 2, none⟩ (.int .i64 pm) := ⟨_, rfl⟩
  rw [← hws] at HKs HRs HBs
  go_upto_region 24 with fail
  rw [← hws]
  clear hws j0 j1 j2 j3 f1
  have i0 := HKs.out.cell 0; have i1 := HKs.out.cell 1; have i2 := HKs.out.cell 2; have i3 := HKs.out.cell 3
  have j0 := HRs.out.cell 0; have j1 := HRs.out.cell 1; have j2 := HRs.out.cell 2; have j3 := HRs.out.cell 3
  simp at i0 i1 i2 i3 j0 j1 j2 j3
  have f1 := fun i => HRs.out.frozen i
  have HK := hide_ (wr4 HRs.out (.bool false) (.int .i64 pl) (.int .i64 pm) (.int .i64 (1 + dk)))
  have HBf := hide_ (below_wr4 HBs.out (w.heap.size + 1) (by omega) (.bool false) (.int .i64 pl) (.int .i64 pm) (.int .i64 (1 + dk)))
  go_wp2
  refine retX (x := ⟨false, pl, pm, 1 + dk⟩) rfl rfl HK.out ⟨by rw [HV.out], HBf.out⟩
set_option maxRecDepth 100000 in
set_option maxHeartbeats 8000000 in
theorem ext7_any (n el : Int) (ps : List Pt) (va : Option Addr) (vc : Nat) (X : List Ex) (ax : Option Addr) (cx : Nat) (w : World) (hXl : X.length ≤ 10000000000000) (hbd : Hid (∀ x ∈ X, 0 ≤ x.d ∧ x.d ≤ 1000000)) (hok : Hid (tyOk ⟨7, n, el, ps⟩ X.length = true)) (hP : Hid (PRow w va ps)) (hX : Hid (XRow w ax X)) :
    Calls Try.prog 23 #[.agg #[.int .i64 7, .int .i64 n, .int .i64 el, .slice va ps.length vc], .slice ax X.length cx] w fun e w' => e = .returned (exv (ext1 X ⟨7, n, el, ps⟩)) ∧ Below w.heap.size w w' := by
  have hps := tyOk_len hok.out
  simp only at hps
  have hB := below2 w (.cells #[.int .i64 7, .int .i64 n, .int .i64 el, .slice va ps.length vc] 62) (.cells #[.bool false, .int .i64 0, .int .i64 0, .int .i64 0] 48)
  obtain ⟨k1, k2⟩ := blk2 w #[.int .i64 7, .int .i64 n, .int .i64 el, .slice va ps.length vc] #[.bool false, .int .i64 0, .int .i64 0, .int .i64 0] 62 48
  obtain ⟨w0, hw0⟩ : ∃ wx, wx = (w.alloc (.cells #[.int .i64 7, .int .i64 n, .int .i64 el, .slice va ps.length vc] 62)).alloc (.cells #[.bool false, .int .i64 0, .int .i64 0, .int .i64 0] 48) := ⟨_, rfl⟩
  rw [← hw0] at hB k1 k2
  have HB0 := hide_ hB
  have K1 := hide_ k1
  have K2 := hide_ k2
  have hs1 : w.heap.size < w0.heap.size := k1.lt
  have hs2 : w.heap.size + 1 < w0.heap.size := k2.lt
  have HCk := hide_ (kidsOf_any 7 n el ps va vc X ax cx w0 hXl hok (hide_ (hP.out.later hB)) (hide_ (hX.out.later hB)))
  have i0 := k1.cell 0; have i1 := k1.cell 1; have i2 := k1.cell 2; have i3 := k1.cell 3
  simp at i0 i1 i2 i3
  have hkl := kidL_len X 7 el ps
  have hdk := kidL_bd hbd.out 7 el ps
  obtain ⟨ks, hks⟩ : ∃ ks, kidL X 7 el ps = ks := ⟨_, rfl⟩
  rw [hks] at hkl hdk HCk
  have HKS := hide_ hks
  obtain ⟨dk, hde⟩ : ∃ dk, deepX ks = dk := ⟨_, rfl⟩
  rw [hde] at hdk
  have HDE := hide_ hde
  clear hB k1 k2 hks hde
  have HVc : Hid (ext1 X ⟨7, n, el, ps⟩ = ⟨false, plus2 1 (chX (ks)).1, plus2 1 (chX (ks)).2, 1 + dk⟩) := hide_ (by
    unfold ext1
    simp only
    rw [HKS.out, HDE.out]
    simp)
  go_enter Try.func23, Try.ntmps23
  go_upto_region 1 with fail
  rw [← hw0]
  clear hw0
  go_wp2_with fail
  refine HCk.out.mono ?_; rintro e w1 ⟨vk, rfl, HO1, HB1⟩
  obtain ⟨ak, ck, hvk, -, -, hXk⟩ := HO1.out.row
  subst hvk
  have HXk := hide_ hXk
  have HCd : Hid (Calls Try.prog 42 #[.slice ak ks.length ck] w1 fun e w' => e = .returned (.int .i64 dk) ∧ Below w1.heap.size w1 w') := hide_ (by have h := deepest_any ak ck ks w1 (by omega) HXk; rwa [HDE.out] at h)
  clear hXk HCk i0 i1 i2 i3
  go_wp2_with fail
  refine HCd.out.mono ?_; rintro e w2 ⟨rfl, hB2⟩
  have hwr : wrap64 (1 + dk) = 1 + dk := w64 _ (by omega)
  have kO := Blk.newA w2 #[.bool false, .int .i64 0, .int .i64 0, .int .i64 (1 + dk)] 48
  have hB3 := below1 w2 (.cells #[.bool false, .int .i64 0, .int .i64 0, .int .i64 (1 + dk)] 48)
  obtain ⟨w3, hw3⟩ : ∃ wx, wx = w2.alloc (.cells #[.bool false, .int .i64 0, .int .i64 0, .int .i64 (1 + dk)] 48) := ⟨_, rfl⟩
  rw [← hw3] at kO hB3
  have hB13 : Below w1.heap.size w1 w3 := below_to hB2 hB3
  have HB3 := hide_ (below_to HB1.out hB13)
  have HO3 := hide_ (HO1.out.later hB13)
  have hg2 : w0.heap.size ≤ w2.heap.size := Nat.le_trans HB1.out.size hB2.size
  have Hown : Hid (∀ k, (Value.slice ak ks.length ck).ownBlock = some k → k < w2.heap.size) := hide_ (fun k hk => Nat.lt_of_lt_of_le (HO1.out.lt k hk).2 hB2.size)
  have k1 := K1.out.later HB3.out
  have i0 := k1.cell 0; have i1 := k1.cell 1
  simp at i0 i1
  clear hB2 HCd HXk HO1
  go_upto_region 3 with fail
  rw [← hw3]
  clear hw3 hB13 hB3
  go_quiet (fail)
  have K1q := hide_ (k1.drewN nq)
  have KOq := hide_ (kO.drewN nq)
  have K2q := hide_ ((K2.out.later HB3.out).drewN nq)
  have HBq := hide_ (below_drewN HB3.out nq)
  have HOq := hide_ (HO3.out.later (below_drewN (Below.refl _ w3) nq))
  clear k1 kO i0 i1 HB3 HO3 K1 K2
  obtain ⟨g, hg⟩ : ∃ g, w2.heap.size = g := ⟨_, rfl⟩
  rw [hg] at KOq hg2 Hown
  generalize w3.drewN nq = w4 at *
  have k1 := K1q.out; have kO := KOq.out; have k2 := K2q.out
  have i0 := k1.cell 0; have i1 := k1.cell 1
  have j0 := kO.cell 0; have j1 := kO.cell 1; have j2 := kO.cell 2; have j3 := kO.cell 3
  simp at i0 i1 j0 j1 j2 j3
  have f1 := fun i => kO.frozen i
  have HBw := hide_ (below_to HB0.out HBq.out)
  clear k1 kO k2
  try rw [hg]
  clear hg
  have KO5 := KOq
  have K25 := K2q
  have HB5 := HBw
  obtain ⟨ak2, ck2, hvk, -, -, hXk⟩ := HOq.out.row
  injection hvk with e1 _ e3
  subst e1 e3
  have HCc := hide_ (choice_any ak ck ks w4 (by omega) (hide_ hXk))
  clear hXk HOq
  go_wp2_with fail
  clear i0 i1 j0 j1 j2 j3 f1
  obtain ⟨c1, hc1⟩ : ∃ c1, (chX ks).1 = c1 := ⟨_, rfl⟩
  obtain ⟨c2, hc2⟩ : ∃ c2, (chX ks).2 = c2 := ⟨_, rfl⟩
  rw [hc1, hc2] at HCc HVc
  obtain ⟨pl, hpl⟩ : ∃ pl, plus2 1 c1 = pl := ⟨_, rfl⟩
  obtain ⟨pm, hpm⟩ : ∃ pm, plus2 1 c2 = pm := ⟨_, rfl⟩
  rw [hpl, hpm] at HVc
  have HV := HVc
  have HP1 : Hid (∀ (w : World) (g : Nat), Hid (Blk w g 3 [.int .i64 1, .int .i64 c1]) → Calls Try.prog 46 #[.slice (some ⟨g, 0, none⟩) 2 2] w fun e w' => e = .returned (.int .i64 pl) ∧ w = w') := hide_ (fun w g h => by have := plusB_any 1 c1 w 3 g h; rwa [hpl] at this)
  have HP2 : Hid (∀ (w : World) (g : Nat), Hid (Blk w g 3 [.int .i64 1, .int .i64 c2]) → Calls Try.prog 46 #[.slice (some ⟨g, 0, none⟩) 2 2] w fun e w' => e = .returned (.int .i64 pm) ∧ w = w') := hide_ (fun w g h => by have := plusB_any 1 c2 w 3 g h; rwa [hpm] at this)
  clear hc1 hc2 hpl hpm
  refine HCc.out.mono ?_; rintro e w6 ⟨rfl, hB6⟩
  have kA := Blk.newA w6 #[.int .i64 1, .int .i64 c1] 3
  have hB7 := below1 w6 (.cells #[.int .i64 1, .int .i64 c1] 3)
  obtain ⟨w7, hw7⟩ : ∃ w7, w7 = w6.alloc (.cells #[.int .i64 1, .int .i64 c1] 3) := ⟨_, rfl⟩
  rw [← hw7] at kA hB7
  have kB := Blk.newA w7 #[.int .i64 1, .int .i64 c2] 3
  have hB8 := below1 w7 (.cells #[.int .i64 1, .int .i64 c2] 3)
  obtain ⟨w8, hw8⟩ : ∃ w8, w8 = w7.alloc (.cells #[.int .i64 1, .int .i64 c2] 3) := ⟨_, rfl⟩
  rw [← hw8] at kB hB8
  rw [show w7.heap.size = w6.heap.size + 1 by rw [hw7]; simp] at kB
  have hB58 : Below w4.heap.size w4 w8 := below_to (below_to hB6 hB7) hB8
  have KO8 := hide_ (KO5.out.later hB58)
  have K28 := hide_ (K25.out.later hB58)
  have HB8 := hide_ (below_to HB5.out hB58)
  have HKA := hide_ kA
  have HKB := hide_ kB
  clear kA kB hB6 hB7 hB8 hB58 HCc
  go_wp2_with fail
  rw [← hw7]
  refine (HP1.out _ _ HKA).mono ?_; rintro e w' ⟨rfl, rfl⟩
  go_wp2_with fail
  rw [← hw7, ← hw8]
  refine (HP2.out _ _ HKB).mono ?_; rintro e w' ⟨rfl, rfl⟩
  clear hw7 hw8 HKA HKB HP1 HP2
  have j0 := KO8.out.cell 0; have j1 := KO8.out.cell 1; have j2 := KO8.out.cell 2; have j3 := KO8.out.cell 3
  simp at j0 j1 j2 j3
  have f1 := fun i => KO8.out.frozen i
  have HKs : Hid (Blk ((w8.setCell ⟨g, 1, none⟩ (.int .i64 pl)).setCell ⟨g, 2, none⟩ (.int .i64 pm)) g 48 [.bool false, .int .i64 pl, .int .i64 pm, .int .i64 (1 + dk)]) := hide_ (by have h := (KO8.out.set 1 (.int .i64 pl)).set 2 (.int .i64 pm); simpa using h)
  have HRs := hide_ ((K28.out.other ⟨g, 1, none⟩ (.int .i64 pl) (by show w.heap.size + 1 ≠ g; omega)).other ⟨g, 2, none⟩ (.int .i64 pm) (by show w.heap.size + 1 ≠ g; omega))
  have HBs := hide_ (below_set (below_set HB8.out g 1 (.int .i64 pl) (by omega)) g 2 (.int .i64 pm) (by omega))
  obtain ⟨ws, hws⟩ : ∃ ws, ws = (w8.setCell ⟨g, 1, none⟩ (.int .i64 pl)).setCell ⟨g, 2, none⟩ (.int .i64 pm) := ⟨_, rfl⟩
  rw [← hws] at HKs HRs HBs
  go_upto_region 24 with fail
  rw [← hws]
  clear hws j0 j1 j2 j3 f1
  have i0 := HKs.out.cell 0; have i1 := HKs.out.cell 1; have i2 := HKs.out.cell 2; have i3 := HKs.out.cell 3
  have j0 := HRs.out.cell 0; have j1 := HRs.out.cell 1; have j2 := HRs.out.cell 2; have j3 := HRs.out.cell 3
  simp at i0 i1 i2 i3 j0 j1 j2 j3
  have f1 := fun i => HRs.out.frozen i
  have HK := hide_ (wr4 HRs.out (.bool false) (.int .i64 pl) (.int .i64 pm) (.int .i64 (1 + dk)))
  have HBf := hide_ (below_wr4 HBs.out (w.heap.size + 1) (by omega) (.bool false) (.int .i64 pl) (.int .i64 pm) (.int .i64 (1 + dk)))
  go_wp2
  refine retX (x := ⟨false, pl, pm, 1 + dk⟩) rfl rfl HK.out ⟨by rw [HV.out], HBf.out⟩
end Go.Proofs.Ytdpkmkhflgmioaa

/- size: extentOf, of a struct. -/
namespace Go.Proofs.Ytdpkmkhflgmioaa
open Go.RowKit
set_option linter.unusedVariables false

set_option maxRecDepth 100000 in
set_option maxHeartbeats 8000000 in
theorem ext8_any (n el : Int) (ps : List Pt) (va : Option Addr) (vc : Nat) (X : List Ex) (ax : Option Addr) (cx : Nat) (w : World) (hXl : X.length ≤ 10000000000000) (hbd : Hid (∀ x ∈ X, 0 ≤ x.d ∧ x.d ≤ 1000000)) (hok : Hid (tyOk ⟨8, n, el, ps⟩ X.length = true)) (hP : Hid (PRow w va ps)) (hX : Hid (XRow w ax X)) :
    Calls Try.prog 23 #[.agg #[.int .i64 8, .int .i64 n, .int .i64 el, .slice va ps.length vc], .slice ax X.length cx] w fun e w' => e = .returned (exv (ext1 X ⟨8, n, el, ps⟩)) ∧ Below w.heap.size w w' := by
  have hps := tyOk_len hok.out
  simp only at hps
  have hB := below2 w (.cells #[.int .i64 8, .int .i64 n, .int .i64 el, .slice va ps.length vc] 62) (.cells #[.bool false, .int .i64 0, .int .i64 0, .int .i64 0] 48)
  obtain ⟨k1, k2⟩ := blk2 w #[.int .i64 8, .int .i64 n, .int .i64 el, .slice va ps.length vc] #[.bool false, .int .i64 0, .int .i64 0, .int .i64 0] 62 48
  obtain ⟨w0, hw0⟩ : ∃ wx, wx = (w.alloc (.cells #[.int .i64 8, .int .i64 n, .int .i64 el, .slice va ps.length vc] 62)).alloc (.cells #[.bool false, .int .i64 0, .int .i64 0, .int .i64 0] 48) := ⟨_, rfl⟩
  rw [← hw0] at hB k1 k2
  have HB0 := hide_ hB
  have K1 := hide_ k1
  have K2 := hide_ k2
  have hs1 : w.heap.size < w0.heap.size := k1.lt
  have hs2 : w.heap.size + 1 < w0.heap.size := k2.lt
  have HCk := hide_ (kidsOf_any 8 n el ps va vc X ax cx w0 hXl hok (hide_ (hP.out.later hB)) (hide_ (hX.out.later hB)))
  have i0 := k1.cell 0; have i1 := k1.cell 1; have i2 := k1.cell 2; have i3 := k1.cell 3
  simp at i0 i1 i2 i3
  have hkl := kidL_len X 8 el ps
  have hdk := kidL_bd hbd.out 8 el ps
  obtain ⟨ks, hks⟩ : ∃ ks, kidL X 8 el ps = ks := ⟨_, rfl⟩
  rw [hks] at hkl hdk HCk
  have HKS := hide_ hks
  obtain ⟨dk, hde⟩ : ∃ dk, deepX ks = dk := ⟨_, rfl⟩
  rw [hde] at hdk
  have HDE := hide_ hde
  clear hB k1 k2 hks hde
  have HVc : Hid (ext1 X ⟨8, n, el, ps⟩ = ⟨(rowX ks).1, (rowX ks).2.1, (rowX ks).2.2, 1 + dk⟩) := hide_ (by
    unfold ext1
    simp only
    rw [HKS.out, HDE.out]
    simp)
  go_enter Try.func23, Try.ntmps23
  go_upto_region 1 with fail
  rw [← hw0]
  clear hw0
  go_wp2_with fail
  refine HCk.out.mono ?_; rintro e w1 ⟨vk, rfl, HO1, HB1⟩
  obtain ⟨ak, ck, hvk, -, -, hXk⟩ := HO1.out.row
  subst hvk
  have HXk := hide_ hXk
  have HCd : Hid (Calls Try.prog 42 #[.slice ak ks.length ck] w1 fun e w' => e = .returned (.int .i64 dk) ∧ Below w1.heap.size w1 w') := hide_ (by have h := deepest_any ak ck ks w1 (by omega) HXk; rwa [HDE.out] at h)
  clear hXk HCk i0 i1 i2 i3
  go_wp2_with fail
  refine HCd.out.mono ?_; rintro e w2 ⟨rfl, hB2⟩
  have hwr : wrap64 (1 + dk) = 1 + dk := w64 _ (by omega)
  have kO := Blk.newA w2 #[.bool false, .int .i64 0, .int .i64 0, .int .i64 (1 + dk)] 48
  have hB3 := below1 w2 (.cells #[.bool false, .int .i64 0, .int .i64 0, .int .i64 (1 + dk)] 48)
  obtain ⟨w3, hw3⟩ : ∃ wx, wx = w2.alloc (.cells #[.bool false, .int .i64 0, .int .i64 0, .int .i64 (1 + dk)] 48) := ⟨_, rfl⟩
  rw [← hw3] at kO hB3
  have hB13 : Below w1.heap.size w1 w3 := below_to hB2 hB3
  have HB3 := hide_ (below_to HB1.out hB13)
  have HO3 := hide_ (HO1.out.later hB13)
  have hg2 : w0.heap.size ≤ w2.heap.size := Nat.le_trans HB1.out.size hB2.size
  have Hown : Hid (∀ k, (Value.slice ak ks.length ck).ownBlock = some k → k < w2.heap.size) := hide_ (fun k hk => Nat.lt_of_lt_of_le (HO1.out.lt k hk).2 hB2.size)
  have k1 := K1.out.later HB3.out
  have i0 := k1.cell 0; have i1 := k1.cell 1
  simp at i0 i1
  clear hB2 HCd HXk HO1
  go_upto_region 3 with fail
  rw [← hw3]
  clear hw3 hB13 hB3
  go_quiet (fail)
  have K1q := hide_ (k1.drewN nq)
  have KOq := hide_ (kO.drewN nq)
  have K2q := hide_ ((K2.out.later HB3.out).drewN nq)
  have HBq := hide_ (below_drewN HB3.out nq)
  have HOq := hide_ (HO3.out.later (below_drewN (Below.refl _ w3) nq))
  clear k1 kO i0 i1 HB3 HO3 K1 K2
  obtain ⟨g, hg⟩ : ∃ g, w2.heap.size = g := ⟨_, rfl⟩
  rw [hg] at KOq hg2 Hown
  generalize w3.drewN nq = w4 at *
  have k1 := K1q.out; have kO := KOq.out; have k2 := K2q.out
  have i0 := k1.cell 0; have i1 := k1.cell 1
  have j0 := kO.cell 0; have j1 := kO.cell 1; have j2 := kO.cell 2; have j3 := kO.cell 3
  simp at i0 i1 j0 j1 j2 j3
  have f1 := fun i => kO.frozen i
  have HBw := hide_ (below_to HB0.out HBq.out)
  clear k1 kO k2
  try rw [hg]
  clear hg
  obtain ⟨ak2, ck2, hvk, -, -, hXk⟩ := HOq.out.row
  injection hvk with e1 _ e3
  subst e1 e3
  have HCc := hide_ (row_any ak ck ks w4 (by omega) (hide_ hXk))
  clear hXk HOq
  obtain ⟨fx, hfx⟩ : ∃ fx, (rowX ks).1 = fx := ⟨_, rfl⟩
  obtain ⟨pl, hpl⟩ : ∃ pl, (rowX ks).2.1 = pl := ⟨_, rfl⟩
  obtain ⟨pm, hpm⟩ : ∃ pm, (rowX ks).2.2 = pm := ⟨_, rfl⟩
  rw [hfx, hpl, hpm] at HCc HVc
  have HV := HVc
  clear hfx hpl hpm j0 j1 j2 j3 f1
  go_wp2_with fail
  refine HCc.out.mono ?_; rintro e w6 ⟨rfl, hB6⟩
  have KO8 := hide_ (KOq.out.later hB6)
  have K28 := hide_ (K2q.out.later hB6)
  have HB8 := hide_ (below_to HBw.out hB6)
  clear hB6 i1 HCc
  have j0 := KO8.out.cell 0; have j1 := KO8.out.cell 1; have j2 := KO8.out.cell 2; have j3 := KO8.out.cell 3
  simp at j0 j1 j2 j3
  have f1 := fun i => KO8.out.frozen i
  have HKs : Hid (Blk (((w6.setCell ⟨g, 0, none⟩ (.bool fx)).setCell ⟨g, 1, none⟩ (.int .i64 pl)).setCell ⟨g, 2, none⟩ (.int .i64 pm)) g 48 [.bool fx, .int .i64 pl, .int .i64 pm, .int .i64 (1 + dk)]) := hide_ (by have h := ((KO8.out.set 0 (.bool fx)).set 1 (.int .i64 pl)).set 2 (.int .i64 pm); simpa using h)
  have HRs := hide_ (((K28.out.other ⟨g, 0, none⟩ (.bool fx) (by show w.heap.size + 1 ≠ g; omega)).other ⟨g, 1, none⟩ (.int .i64 pl) (by show w.heap.size + 1 ≠ g; omega)).other ⟨g, 2, none⟩ (.int .i64 pm) (by show w.heap.size + 1 ≠ g; omega))
  have HBs := hide_ (below_set (below_set (below_set HB8.out g 0 (.bool fx) (by omega)) g 1 (.int .i64 pl) (by omega)) g 2 (.int .i64 pm) (by omega))
  obtain ⟨ws, hws⟩ : ∃ ws, ws = ((w6.setCell ⟨g, 0, none⟩ (.bool fx)).setCell ⟨g, 1, none⟩ (.int .i64 pl)).setCell ⟨g, 2, none⟩ (.int .i64 pm) := ⟨_, rfl⟩
  rw [← hws] at HKs HRs HBs
  go_upto_region 24 with fail
  rw [← hws]
  clear hws j0 j1 j2 j3 f1
  have i0 := HKs.out.cell 0; have i1 := HKs.out.cell 1; have i2 := HKs.out.cell 2; have i3 := HKs.out.cell 3
  have j0 := HRs.out.cell 0; have j1 := HRs.out.cell 1; have j2 := HRs.out.cell 2; have j3 := HRs.out.cell 3
  simp at i0 i1 i2 i3 j0 j1 j2 j3
  have f1 := fun i => HRs.out.frozen i
  have HK := hide_ (wr4 HRs.out (.bool fx) (.int .i64 pl) (.int .i64 pm) (.int .i64 (1 + dk)))
  have HBf := hide_ (below_wr4 HBs.out (w.heap.size + 1) (by omega) (.bool fx) (.int .i64 pl) (.int .i64 pm) (.int .i64 (1 + dk)))
  go_wp2
  refine retX (x := ⟨fx, pl, pm, 1 + dk⟩) rfl rfl HK.out ⟨by rw [HV.out], HBf.out⟩
end Go.Proofs.Ytdpkmkhflgmioaa

/- types.Check. -/
namespace Go.Proofs.Ytdpkmkhflgmioaa
open Go.RowKit
set_option linter.unusedVariables false

theorem retF {fn : Func} {p : Tmp} (h : fn.results = #[.cell p 34]) {R : Ending → World → Prop} {tmps : Array Value} {g : Nat} {w : World} {x y : Int} (hp : tmps.getD p undef = .pointer (some ⟨g, 0, none⟩)) (hK : Blk w g 34 [.int .i64 x, .int .i64 y]) (hR : R (.returned (.agg #[.int .i64 x, .int .i64 y])) w) :
    bodyPost Try.prog fn R Exit.ret ⟨tmps, []⟩ w :=
  bodyPost_ret (results_cell_row h _ _ _ _ #[.int .i64 x, .int .i64 y] _ _ hp (show w.heap[g]? = some (.cells #[.int .i64 x, .int .i64 y] 34 (0, 0)) from hK) Try.underlying34 rfl (by show _ = some 2; kernel_rfl)) rfl hR
theorem wr2 {w : World} {g : Nat} {t : TypeId} {x0 x1 : Value} (h : Blk w g t [x0, x1]) (y0 y1 : Value) :
    Blk ((w.setCell ⟨g, 0, none⟩ y0).setCell ⟨g, 1, none⟩ y1) g t [y0, y1] := by
  have := (h.set 0 y0).set 1 y1
  simpa using this
theorem below_wr2 {B : Nat} {w w' : World} (h : Below B w w') (b : Nat) (hb : B ≤ b) (y0 y1 : Value) : Below B w ((w'.setCell ⟨b, 0, none⟩ y0).setCell ⟨b, 1, none⟩ y1) :=
  below_set (below_set h _ _ _ hb) _ _ _ hb
set_option maxRecDepth 100000 in
set_option maxHeartbeats 8000000 in
theorem check_any (a : Option Addr) (c : Nat) (T : List Ty) (ar : Option Addr) (cr : Nat) (R : List Rt) (w : World) (hn : T.length ≤ 10000000000000) (hm : R.length ≤ 10000000000000) (hL : Hid (LensT T)) (hT : Hid (TRow w a T)) (hR : Hid (RRow w ar R)) :
    Calls Try.prog 22 #[.agg #[.slice a T.length c, .slice ar R.length cr]] w fun e w' => e = .returned (.agg #[.int .i64 (chk T R).1, .int .i64 (chk T R).2]) ∧ Below w.heap.size w w' := by
  have hB := below2 w (.cells #[.slice a T.length c, .slice ar R.length cr] 25) (.cells #[.int .i64 0, .int .i64 0] 34)
  obtain ⟨k1, k2⟩ := blk2 w #[.slice a T.length c, .slice ar R.length cr] #[.int .i64 0, .int .i64 0] 25 34
  obtain ⟨w0, hw0⟩ : ∃ wx, wx = (w.alloc (.cells #[.slice a T.length c, .slice ar R.length cr] 25)).alloc (.cells #[.int .i64 0, .int .i64 0] 34) := ⟨_, rfl⟩
  rw [← hw0] at hB k1 k2
  have HB0 := hide_ hB
  have K1 := hide_ k1
  have K2 := hide_ k2
  have hs1 : w.heap.size < w0.heap.size := k1.lt
  have hs2 : w.heap.size + 1 < w0.heap.size := k2.lt
  have i0 := k1.cell 0; have i1 := k1.cell 1
  simp at i0 i1
  obtain ⟨vE, hE⟩ : ∃ vE, (chk T R).1 = vE := ⟨_, rfl⟩
  obtain ⟨vA, hA⟩ : ∃ vA, (chk T R).2 = vA := ⟨_, rfl⟩
  rw [hE, hA]
  have HC : Hid (chk T R = (vE, vA)) := hide_ (by rw [← hE, ← hA])
  clear hB k1 k2 hE hA
  go_enter Try.func22, Try.ntmps22
  go_upto_region 1 with fail
  rw [← hw0]
  clear hw0
  go_wp2_with fail
  go_loopw [10] (fun x10 wr => ∃ i : Nat, i ≤ T.length ∧ x10 = .int .i64 (i : Int) ∧ Hid (∀ j, j < i → tyOk (T.getD j ty0) j = true) ∧ Hid (Below w0.heap.size w0 wr)) (fun x10 _ => T.length - (intOf x10).toNat)
  case atStart => exact ⟨0, Nat.zero_le _, rfl, hide_ (fun j hj => by omega), hide_ (Below.refl _ _)⟩
  case round =>
    obtain ⟨i, hi, rfl, HA, HB⟩ := hrel
    generalize wr = wq at *
    clear i0 i1
    by_cases hlt : i < T.length
    · have hlt' : (i : Int) < T.length := by omega
      obtain ⟨b, o, rfl, hb, hc⟩ := (hT.out.later (below_to HB0.out HB.out)).open (by omega)
      have hx : T[i]? = some (T[i]'hlt) := List.getElem?_eq_getElem hlt
      obtain ⟨va, vc, hcx, hvc, -, hP⟩ := hc i _ hx
      have hgd : T.getD i ty0 = T[i]'hlt := by simp [List.getD, hlt]
      have HGD := hide_ hgd
      have hpl := hL.out.at hx
      generalize T[i]'hlt = t at *
      have i0 := hcx 0 (by decide); have i1 := hcx 1 (by decide); have i2 := hcx 2 (by decide); have i3 := hcx 3 (by decide)
      simp [tyc] at i0 i1 i2 i3
      have kt := Blk.newA wq #[.int .i64 t.k, .int .i64 t.n, .int .i64 t.e, .slice va t.ps.length vc] 62
      have hBx := below1 wq (.cells #[.int .i64 t.k, .int .i64 t.n, .int .i64 t.e, .slice va t.ps.length vc] 62)
      obtain ⟨wx, hwx⟩ : ∃ wx, wx = wq.alloc (.cells #[.int .i64 t.k, .int .i64 t.n, .int .i64 t.e, .slice va t.ps.length vc] 62) := ⟨_, rfl⟩
      rw [← hwx] at kt hBx
      have HBx := hide_ (below_to HB.out hBx)
      have HCon := hide_ (isType_any t va vc (i : Int) wx hvc (hide_ (hP.later hBx)))
      obtain ⟨ok, hok⟩ : ∃ ok, tyOk t (i : Int) = ok := ⟨_, rfl⟩
      rw [hok] at HCon
      have HOK := hide_ hok
      have j0 := kt.cell 0; have j1 := kt.cell 1; have j2 := kt.cell 2; have j3 := kt.cell 3
      simp at j0 j1 j2 j3
      clear hc hx hcx hP kt hBx hok hgd hb
      go_upto_region 4 with fail
      rw [← hwx]
      clear hwx i0 i1 i2 i3
      cases ok with
      | true =>
        have HA2 : Hid (∀ j, j < i + 1 → tyOk (T.getD j ty0) j = true) := hide_ (fun j hj => by
          rcases Nat.lt_or_ge j i with h | h
          · exact HA.out j h
          · obtain rfl : j = i := by omega
            rw [HGD.out]; exact HOK.out)
        go_wp2_with (go_at_call 38; refine HCon.out.mono ?_; rintro e w' ⟨rfl, hB1⟩; (have HB1 := hide_ (below_to HBx.out hB1)); clear hB1)
        go_roundw
        case rel => exact ⟨i + 1, by omega, by go_num, HA2, HB1⟩
        case measure => simp [intOf]; omega
      | false =>
        have HV : Hid (vE = 92 ∧ vA = (i : Int)) := hide_ (by
          have h := chk_ty (R := R) hlt (by rw [HGD.out]; exact HOK.out) HA.out
          rw [HC.out] at h
          injection h with h1 h2
          exact ⟨h1, h2⟩)
        go_wp2_with fail
        refine HCon.out.mono ?_; rintro e w1 ⟨rfl, hB1⟩
        have HB1 := hide_ (below_to HBx.out hB1)
        have KF := hide_ (K2.out.later HB1.out)
        have l0 := KF.out.cell 0; have l1 := KF.out.cell 1
        simp at l0 l1
        have f0 := fun i => KF.out.frozen i
        have HK := hide_ (wr2 KF.out (.int .i64 92) (.int .i64 (i : Int)))
        have HBf := hide_ (below_wr2 (below_to HB0.out HB1.out) (w.heap.size + 1) (by omega) (.int .i64 92) (.int .i64 (i : Int)))
        clear hB1 j0 j1 j2 j3
        go_wp2
        refine retF (x := 92) (y := (i : Int)) rfl rfl HK.out ⟨by rw [HV.out.1, HV.out.2], HBf.out⟩
    · obtain rfl : i = T.length := by omega
      have hcD : chkD T R = (vE, vA) := by rw [← chk_deep (R := R) HA.out]; exact HC.out
      have HCD := hide_ hcD
      have HDp := hide_ (deep_any a c T wq hn hL (hide_ (hT.out.later (below_to HB0.out HB.out))) HA)
      have KS := hide_ (K1.out.later HB.out)
      have i0 := KS.out.cell 0; have i1 := KS.out.cell 1
      simp at i0 i1
      clear hcD
      go_wp2_with fail
      refine HDp.out.mono ?_; rintro e w1 ⟨r, rfl, HR, hB1⟩
      have HB1 := hide_ (below_to HB.out hB1)
      have KS1 := hide_ (K1.out.later HB1.out)
      have j0 := KS1.out.cell 0; have j1 := KS1.out.cell 1
      simp at j0 j1
      clear hB1 i0 i1 HDp
      rcases HR.out with ⟨rfl, hno⟩ | ⟨i, hi2, rfl, hgt, hle⟩
      · have HCR : Hid (chkR T.length R = (vE, vA)) := hide_ (by rw [← chkD_none (R := R) hno]; exact HCD.out)
        clear hno HR
        go_wp2_with fail
        go_loopw [32] (fun x32 wr => ∃ i : Nat, i ≤ R.length ∧ x32 = .int .i64 (i : Int) ∧ Hid (∀ j, j < i → rootOk T.length R j = true) ∧ Hid (Below w0.heap.size w0 wr)) (fun x32 _ => R.length - (intOf x32).toNat)
        case atStart => exact ⟨0, Nat.zero_le _, rfl, hide_ (fun j hj => by omega), HB1⟩
        case round =>
          obtain ⟨i, hi, rfl, HAr, HBr⟩ := hrel
          generalize wr = wp at *
          clear j0 j1
          have KSp := hide_ (K1.out.later HBr.out)
          have i0 := KSp.out.cell 0; have i1 := KSp.out.cell 1
          simp at i0 i1
          by_cases hlt : i < R.length
          · have hlt' : (i : Int) < R.length := by omega
            have HCon := hide_ (isRoot_any a T.length c ar cr R i wp (by omega) (by omega) hlt (hide_ (hR.out.later (below_to HB0.out HBr.out))))
            obtain ⟨ok, hok⟩ : ∃ ok, rootOk T.length R i = ok := ⟨_, rfl⟩
            rw [hok] at HCon
            have HOK := hide_ hok
            clear hok
            cases ok with
            | true =>
              have HA2 : Hid (∀ j, j < i + 1 → rootOk T.length R j = true) := hide_ (fun j hj => by
                rcases Nat.lt_or_ge j i with h | h
                · exact HAr.out j h
                · obtain rfl : j = i := by omega
                  exact HOK.out)
              go_wp2_with (go_at_call 40; refine HCon.out.mono ?_; rintro e w' ⟨rfl, hB2⟩; (have HB2 := hide_ (below_to HBr.out hB2)); clear hB2)
              go_roundw
              case rel => exact ⟨i + 1, by omega, by go_num, HA2, HB2⟩
              case measure => simp [intOf]; omega
            | false =>
              have HV : Hid (vE = 92 ∧ vA = (T.length : Int) + i) := hide_ (by
                have h := chkR_at hlt HOK.out HAr.out
                rw [HCR.out] at h
                injection h with h1 h2
                exact ⟨h1, h2⟩)
              go_wp2_with fail
              refine HCon.out.mono ?_; rintro e w2 ⟨rfl, hB2⟩
              have HB2 := hide_ (below_to HBr.out hB2)
              have KF := hide_ (K2.out.later HB2.out)
              have KS2 := hide_ (K1.out.later HB2.out)
              have l0 := KF.out.cell 0; have l1 := KF.out.cell 1; have m0 := KS2.out.cell 0
              simp at l0 l1 m0
              have f0 := fun i => KF.out.frozen i
              have hwr : wrap64 ((T.length : Int) + i) = (T.length : Int) + i := w64 _ (by omega)
              have HK := hide_ (wr2 KF.out (.int .i64 92) (.int .i64 ((T.length : Int) + i)))
              have HBf := hide_ (below_wr2 (below_to HB0.out HB2.out) (w.heap.size + 1) (by omega) (.int .i64 92) (.int .i64 ((T.length : Int) + i)))
              clear hB2 i0 i1
              go_wp2
              refine retF (x := 92) (y := (T.length : Int) + i) rfl rfl HK.out ⟨by rw [HV.out.1, HV.out.2], HBf.out⟩
          · obtain rfl : i = R.length := by omega
            have HV : Hid (vE = 0 ∧ vA = 0) := hide_ (by
              have h := chkR_none HAr.out
              rw [HCR.out] at h
              injection h with h1 h2
              exact ⟨h1, h2⟩)
            have KF := hide_ (K2.out.later HBr.out)
            have l0 := KF.out.cell 0; have l1 := KF.out.cell 1
            simp at l0 l1
            have f0 := fun i => KF.out.frozen i
            have HK := hide_ (wr2 KF.out (.int .i64 0) (.int .i64 0))
            have HBf := hide_ (below_wr2 (below_to HB0.out HBr.out) (w.heap.size + 1) (by omega) (.int .i64 0) (.int .i64 0))
            go_wp2
            refine retF (x := 0) (y := 0) rfl rfl HK.out ⟨by rw [HV.out.1, HV.out.2], HBf.out⟩
      · have HV : Hid (vE = 83 ∧ vA = (i : Int)) := hide_ (by
          have h := chkD_at (R := R) hi2 hgt hle
          rw [HCD.out] at h
          injection h with h1 h2
          exact ⟨h1, h2⟩)
        have hi3 : (0 : Int) ≤ i := by omega
        have KF := hide_ (K2.out.later HB1.out)
        have l0 := KF.out.cell 0; have l1 := KF.out.cell 1
        simp at l0 l1
        have f0 := fun i => KF.out.frozen i
        have HK := hide_ (wr2 KF.out (.int .i64 83) (.int .i64 (i : Int)))
        have HBf := hide_ (below_wr2 (below_to HB0.out HB1.out) (w.heap.size + 1) (by omega) (.int .i64 83) (.int .i64 (i : Int)))
        clear hgt hle HR
        go_wp2
        refine retF (x := 83) (y := (i : Int)) rfl rfl HK.out ⟨by rw [HV.out.1, HV.out.2], HBf.out⟩
end Go.Proofs.Ytdpkmkhflgmioaa

/- size.Of. -/
namespace Go.Proofs.Ytdpkmkhflgmioaa
open Go.RowKit
set_option linter.unusedVariables false

theorem extentOf_any (k n el : Int) (ps : List Pt) (va : Option Addr) (vc : Nat) (X : List Ex) (ax : Option Addr) (cx : Nat) (w : World) (hXl : X.length ≤ 10000000000000) (hbd : Hid (∀ x ∈ X, 0 ≤ x.d ∧ x.d ≤ 1000000)) (hok : Hid (tyOk ⟨k, n, el, ps⟩ X.length = true)) (hP : Hid (PRow w va ps)) (hX : Hid (XRow w ax X)) :
    Calls Try.prog 23 #[.agg #[.int .i64 k, .int .i64 n, .int .i64 el, .slice va ps.length vc], .slice ax X.length cx] w fun e w' => e = .returned (exv (ext1 X ⟨k, n, el, ps⟩)) ∧ Below w.heap.size w w' := by
  have h := (tyOk_parts hok.out).1
  simp only [nOk] at h
  have h2 := of_decide_eq_true h
  have hk : k = 1 ∨ k = 2 ∨ k = 3 ∨ k = 4 ∨ k = 5 ∨ k = 6 ∨ k = 7 ∨ k = 8 := by omega
  clear h h2
  rcases hk with rfl | rfl | rfl | rfl | rfl | rfl | rfl | rfl
  · exact ext1_any n el ps va vc X ax cx w hXl hbd hok hP hX
  · exact ext2_any n el ps va vc X ax cx w hXl hbd hok hP hX
  · exact ext3_any n el ps va vc X ax cx w hXl hbd hok hP hX
  · exact ext4_any n el ps va vc X ax cx w hXl hbd hok hP hX
  · exact ext5_any n el ps va vc X ax cx w hXl hbd hok hP hX
  · exact ext6_any n el ps va vc X ax cx w hXl hbd hok hP hX
  · exact ext7_any n el ps va vc X ax cx w hXl hbd hok hP hX
  · exact ext8_any n el ps va vc X ax cx w hXl hbd hok hP hX
/-! ### The extents of a schema's types -/
def extL (T : List Ty) : List Ex := T.foldl (fun l t => l ++ [ext1 l t]) []
theorem extL_snoc (T : List Ty) (t : Ty) : extL (T ++ [t]) = extL T ++ [ext1 (extL T) t] := by simp [extL]
theorem extL_len (T : List Ty) : (extL T).length = T.length := by
  refine snoc_ind (P := fun T => (extL T).length = T.length) rfl (fun T t ih => ?_) T
  rw [extL_snoc]
  simp [ih]
theorem extL_app (A B : List Ty) : ∃ Z, extL (A ++ B) = extL A ++ Z := by
  refine snoc_ind (P := fun B => ∃ Z, extL (A ++ B) = extL A ++ Z) ⟨[], by simp⟩ (fun B t ih => ?_) B
  obtain ⟨Z, hZ⟩ := ih
  exact ⟨Z ++ [ext1 (extL (A ++ B)) t], by rw [← List.append_assoc, extL_snoc, ← List.append_assoc, ← hZ]⟩
theorem extL_take (T : List Ty) (m : Nat) (hm : m ≤ T.length) : extL (T.take m) = (extL T).take m := by
  obtain ⟨Z, hZ⟩ := extL_app (T.take m) (T.drop m)
  rw [List.take_append_drop] at hZ
  have hl : (extL (T.take m)).length = m := by rw [extL_len]; simp; omega
  rw [hZ]
  generalize extL (T.take m) = Y at *
  subst hl
  simp
theorem ext1_d (X : List Ex) (t : Ty) : (ext1 X t).d = 1 + deepX (kidL X t.k t.e t.ps) := by
  unfold ext1
  repeat' split
  all_goals rfl
theorem map_getD (X : List Ex) (i : Nat) : (X.map (·.d)).getD i 0 = (X.getD i ex0).d := by
  simp only [List.getD, List.getElem?_map]
  cases X[i]? <;> rfl
theorem exAt_nn {X : List Ex} (h : ∀ x ∈ X, 0 ≤ x.d) (i : Int) : 0 ≤ (exAt X i).d := by
  unfold exAt
  rcases Nat.lt_or_ge i.toNat X.length with hi | hi
  · rw [show X.getD i.toNat ex0 = X[i.toNat]'hi by simp [List.getD, hi]]
    exact h _ (List.getElem_mem hi)
  · rw [show X.getD i.toNat ex0 = ex0 by simp [List.getD, List.getElem?_eq_none hi]]
    simp [ex0]
theorem foldl_kid (X : List Ex) : ∀ (ps : List Pt) (d : Int), (ps.map (fun p => exAt X p.ty)).foldl (fun d x => max d x.d) d = kidD (X.map (·.d)) ps d
  | [], d => rfl
  | p :: ps, d => by
    have := foldl_kid X ps (max d (exAt X p.ty).d)
    simp only [List.map_cons, List.foldl_cons, kidD] at this ⊢
    rw [this, map_getD]
    rfl
theorem deepX_kid {X : List Ex} (h : ∀ x ∈ X, 0 ≤ x.d) (k el : Int) (ps : List Pt) : deepX (kidL X k el ps) + 1 = dep1 (X.map (·.d)) ⟨k, 0, el, ps⟩ := by
  unfold deepX kidL dep1
  simp only
  rw [List.foldl_append]
  split
  · have h0 : 0 ≤ (exAt X el).d := exAt_nn h el
    rw [foldl_kid, map_getD]
    simp only [List.foldl_cons, List.foldl_nil]
    rw [Int.max_eq_right h0]
    rfl
  · rw [foldl_kid]
    rfl
theorem kidD_ge (l : List Int) : ∀ (ps : List Pt) (d : Int), d ≤ kidD l ps d
  | [], d => Int.le_refl d
  | p :: ps, d => by
    have := kidD_ge l ps (max d (l.getD p.ty.toNat 0))
    simp only [kidD, List.foldl_cons] at this ⊢
    omega
theorem extL_dep (T : List Ty) : (extL T).map (·.d) = depL T ∧ ∀ x ∈ extL T, 0 ≤ x.d := by
  refine snoc_ind (P := fun T => (extL T).map (·.d) = depL T ∧ ∀ x ∈ extL T, 0 ≤ x.d) ⟨rfl, fun x hx => by simp [extL] at hx⟩ (fun T t ih => ?_) T
  have hd : (ext1 (extL T) t).d = dep1 (depL T) t := by
    rw [ext1_d, ← ih.1]
    have := deepX_kid ih.2 t.k t.e t.ps
    rw [show dep1 ((extL T).map (·.d)) t = dep1 ((extL T).map (·.d)) ⟨t.k, 0, t.e, t.ps⟩ from rfl, ← this]
    omega
  rw [extL_snoc, depL_snoc]
  refine ⟨by rw [List.map_append, ih.1]; simp [hd], fun x hx => ?_⟩
  rcases List.mem_append.1 hx with hx | hx
  · exact ih.2 x hx
  · simp at hx
    subst hx
    rw [ext1_d]
    have : 0 ≤ deepX (kidL (extL T) t.k t.e t.ps) := by
      have h1 := deepX_kid ih.2 t.k t.e t.ps
      have h2 := kidD_ge ((extL T).map (·.d)) t.ps (if hasE t.k then ((extL T).map (·.d)).getD t.e.toNat 0 else 0)
      have h3 : 0 ≤ (if hasE t.k then ((extL T).map (·.d)).getD t.e.toNat 0 else 0) := by
        split
        · rw [map_getD]
          have := (exAt_nn ih.2 t.e)
          exact this
        · omega
      unfold dep1 at h1
      simp only at h1
      omega
    omega
theorem extL_bd {T : List Ty} {R : List Rt} (h : OkS T R) (i : Nat) (hi : i ≤ T.length) : ∀ x ∈ extL (T.take i), 0 ≤ x.d ∧ x.d ≤ 1000000 := by
  obtain ⟨e, nn⟩ := extL_dep (T.take i)
  intro x hx
  refine ⟨nn x hx, ?_⟩
  obtain ⟨j, hj, rfl⟩ := List.getElem_of_mem hx
  have hj' : j < i := by rw [extL_len] at hj; simp at hj; omega
  have h1 := h.dep j (by omega)
  rw [← depL_take T (m := i) hj' hi, ← e, map_getD] at h1
  rw [show (extL (T.take i)).getD j ex0 = (extL (T.take i))[j] by simp [List.getD, hj]] at h1
  omega
/-- What Of answers. -/
def OfTo (T : List Ty) (R : List Rt) (w : World) (e : Ending) (w' : World) : Prop :=
  ((chk T R).1 ≠ 0 ∧ e = .returned (.tuple #[.slice none 0 0, .int .i64 (chk T R).1]) ∧ Below w.heap.size w w') ∨
  (OkS T R ∧ ∃ v, e = .returned (.tuple #[v, .int .i64 0]) ∧ XOwn w' w.heap.size v (extL T) ∧ Below w.heap.size w w')
end Go.Proofs.Ytdpkmkhflgmioaa

/- size.Of: the walk. -/
namespace Go.Proofs.Ytdpkmkhflgmioaa
open Go.RowKit
set_option linter.unusedVariables false

theorem makeX (n : Nat) (hn : n ≤ 3000000000000) (w : World) : (Instr.makeSlice 29 (.int .i64 0) (.int .i64 (n : Int))).run Try.prog w = .ok (.slice (some ⟨w.heap.size, 0, none⟩) 0 n) (w.alloc (.cells (madeCells #[.bool false, .int .i64 0, .int .i64 0, .int .i64 0] (n * 4)) 48)) := by
  obtain ⟨i0, hi, hz0, hz1, hz2⟩ := info_parts infoX
  have hb : (i0.bytes : Int) * (n : Int) ≤ 281474976710656 := by rw [hz2]; omega
  have hr := run_make (P := Try.prog) w 29 48 i0 (.agg #[.bool false, .int .i64 0, .int .i64 0, .int .i64 0]) Try.underlying29 hi hz0 .i64 .i64 0 n (by omega) (by omega) hb (by omega)
  rw [Int.toNat_natCast, hz1] at hr
  exact hr
theorem XOwn.made (w : World) (n : Nat) (hn : n ≤ 3000000000000) : XOwn (w.alloc (.cells (madeCells #[.bool false, .int .i64 0, .int .i64 0, .int .i64 0] (n * 4)) 48)) w.heap.size (.slice (some ⟨w.heap.size, 0, none⟩) 0 n) [] := by
  have h := ownS_of_blk (c := 4) (n := 0) (cap := n) (Blk.newA w (madeCells #[.bool false, .int .i64 0, .int .i64 0, .int .i64 0] (n * 4)) 48) (Nat.le_refl _) (by simp [size_madeCells]) (Nat.zero_le _) (by unfold maxLen; omega)
  simpa [XOwn, cellsG] using h
set_option maxRecDepth 100000 in
set_option maxHeartbeats 8000000 in
theorem of_any (a : Option Addr) (c : Nat) (T : List Ty) (ar : Option Addr) (cr : Nat) (R : List Rt) (w : World) (hn : T.length ≤ 3000000000000) (hm : R.length ≤ 10000000000000) (hL : Hid (LensT T)) (hT : Hid (TRow w a T)) (hR : Hid (RRow w ar R)) :
    Calls Try.prog 7 #[.agg #[.slice a T.length c, .slice ar R.length cr]] w fun e w' => OfTo T R w e w' := by
  have hB := below1 w (.cells #[.slice a T.length c, .slice ar R.length cr] 25)
  have k1 := Blk.newA w #[.slice a T.length c, .slice ar R.length cr] 25
  obtain ⟨w0, hw0⟩ : ∃ wx, wx = w.alloc (.cells #[.slice a T.length c, .slice ar R.length cr] 25) := ⟨_, rfl⟩
  rw [← hw0] at hB k1
  have HB0 := hide_ hB
  have K1 := hide_ k1
  have hs1 : w.heap.size < w0.heap.size := k1.lt
  have i0 := k1.cell 0; have i1 := k1.cell 1
  simp at i0 i1
  have HCk := hide_ (check_any a c T ar cr R w0 (by omega) hm hL (hide_ (hT.out.later hB)) (hide_ (hR.out.later hB)))
  obtain ⟨vE, hE⟩ : ∃ vE, (chk T R).1 = vE := ⟨_, rfl⟩
  obtain ⟨vA, hA⟩ : ∃ vA, (chk T R).2 = vA := ⟨_, rfl⟩
  rw [hE, hA] at HCk
  have HE := hide_ hE
  clear hB k1 hE hA
  go_enter Try.func7, Try.ntmps7
  go_upto_region 1 with fail
  rw [← hw0]
  clear hw0
  go_wp2_with fail
  refine HCk.out.mono ?_; rintro e w1 ⟨rfl, hB1⟩
  have kf := Blk.newA w1 #[.int .i64 vE, .int .i64 vA] 34
  have hB2 := below1 w1 (.cells #[.int .i64 vE, .int .i64 vA] 34)
  obtain ⟨w2, hw2⟩ : ∃ wx, wx = w1.alloc (.cells #[.int .i64 vE, .int .i64 vA] 34) := ⟨_, rfl⟩
  rw [← hw2] at kf hB2
  have HB2 := hide_ (below_to hB1 hB2)
  have j0 := kf.cell 0
  simp at j0
  clear hB1 hB2 kf HCk i0 i1
  go_upto_region 2 with fail
  rw [← hw2]
  clear hw2
  by_cases hE0 : vE = 0
  · subst hE0
    have HOK := hide_ (okS_of HE.out)
    have K2 := hide_ (K1.out.later HB2.out)
    have l0 := K2.out.cell 0; have l1 := K2.out.cell 1
    simp at l0 l1
    have hmk := makeX T.length hn
    have HXm := hide_ (XOwn.made w2 T.length hn)
    have hB3 := below1 w2 (.cells (madeCells #[.bool false, .int .i64 0, .int .i64 0, .int .i64 0] (T.length * 4)) 48)
    obtain ⟨w3, hw3⟩ : ∃ w3, w3 = w2.alloc (.cells (madeCells #[.bool false, .int .i64 0, .int .i64 0, .int .i64 0] (T.length * 4)) 48) := ⟨_, rfl⟩
    rw [← hw3] at HXm hB3
    have HB3 := hide_ (below_to HB2.out hB3)
    have hz2 : w0.heap.size ≤ w2.heap.size := HB2.out.size
    have K3 := hide_ (K1.out.later HB3.out)
    have m0 := K3.out.cell 0
    simp at m0
    have HX0 : Hid (XOwn w3 w0.heap.size (.slice (some ⟨w2.heap.size, 0, none⟩) 0 T.length) (extL (T.take 0))) := hide_ (own_base HXm.out hz2)
    clear hB3 HXm
    go_upto_region 5 with fail
    rw [← hw3]
    clear hw3 hmk l0 l1 j0
    go_wp2_with fail
    go_loopw [5, 22] (fun x5 x22 wr => ∃ (v : Value) (i : Nat), v = x5 ∧ i ≤ T.length ∧ x22 = .int .i64 (i : Int) ∧ Hid (XOwn wr w0.heap.size v (extL (T.take i))) ∧ Hid (Below w0.heap.size w0 wr)) (fun _ x22 _ => T.length - (intOf x22).toNat)
    case atStart => exact ⟨_, 0, rfl, Nat.zero_le _, rfl, HX0, HB3⟩
    case round =>
      obtain ⟨v, i, rfl, hi, rfl, HO, HB⟩ := hrel
      generalize wr = wq at *
      clear HX0 HB3 K3 m0 K2 HB2
      by_cases hlt : i < T.length
      · have hlt' : (i : Int) < T.length := by omega
        obtain ⟨b, o, rfl, hb, hc⟩ := (hT.out.later (below_to HB0.out HB.out)).open (by omega)
        have hx : T[i]? = some (T[i]'hlt) := List.getElem?_eq_getElem hlt
        obtain ⟨va, vc, hcx, hvc, -, hP⟩ := hc i _ hx
        have hok1 := HOK.out.ty i hlt
        rw [show T.getD i ty0 = T[i]'hlt by simp [List.getD, hlt]] at hok1
        have HS : Hid (extL (T.take (i + 1)) = extL (T.take i) ++ [ext1 (extL (T.take i)) (T[i]'hlt)]) := hide_ (by rw [List.take_succ_eq_append_getElem hlt, extL_snoc])
        have hXl : (extL (T.take i)).length = i := by rw [extL_len]; simp; omega
        have hbd := extL_bd HOK.out i hi
        generalize T[i]'hlt = t at *
        obtain ⟨k, n, el, ps⟩ := t
        simp only at hvc hP
        have i0 := hcx 0 (by decide); have i1 := hcx 1 (by decide); have i2 := hcx 2 (by decide); have i3 := hcx 3 (by decide)
        simp [tyc] at i0 i1 i2 i3
        have kt := Blk.newA wq #[.int .i64 k, .int .i64 n, .int .i64 el, .slice va ps.length vc] 62
        have hBx := below1 wq (.cells #[.int .i64 k, .int .i64 n, .int .i64 el, .slice va ps.length vc] 62)
        obtain ⟨wx, hwx⟩ : ∃ wx, wx = wq.alloc (.cells #[.int .i64 k, .int .i64 n, .int .i64 el, .slice va ps.length vc] 62) := ⟨_, rfl⟩
        rw [← hwx] at kt hBx
        have HBx := hide_ (below_to HB.out hBx)
        have HOx := hide_ (HO.out.later hBx)
        obtain ⟨ax, cx, hv, -, -, hXr⟩ := HOx.out.row
        have HCe := hide_ (extentOf_any k n el ps va vc (extL (T.take i)) ax cx wx (by omega) (hide_ hbd) (hide_ (by rw [hXl]; exact hok1)) (hide_ (hP.later hBx)) (hide_ hXr))
        generalize extL (T.take i) = X at *
        subst hv
        generalize ext1 X ⟨k, n, el, ps⟩ = y at *
        have j0 := kt.cell 0; have j1 := kt.cell 1; have j2 := kt.cell 2; have j3 := kt.cell 3
        simp at j0 j1 j2 j3
        have hXle : X.length ≤ 4000000000000 := by omega
        have HXL := hide_ hXl
        clear hc hx hcx hP kt hBx hok1 hb hXr HO hbd hXl
        go_upto_region 8 with fail
        rw [← hwx]
        clear hwx i0 i1 i2 i3
        go_wp2_with fail
        refine HCe.out.mono ?_; rintro e w4 ⟨rfl, hB4⟩
        have HO4 := hide_ (HOx.out.later hB4)
        have HB4 := hide_ (below_to HBx.out hB4)
        obtain ⟨v', w5, hrun, hO5, hB5⟩ := HO4.out.push y hXle HB4.out.size
        rw [← HS.out] at hO5
        have HRun := hide_ hrun
        have HO5 := hide_ hO5
        have HB5 := hide_ (HB4.out.trans hB5)
        simp only [exv]
        clear hB4 hrun hO5 hB5 HO4 HB4 HOx HBx j0 j1 j2 j3 HCe
        go_wp2_with (first | (at_builtin; refine wpList_append_run rfl (.tmp 26) (.tmp 30) 29 29 rfl rfl rfl HRun.out ?_; clear HRun))
        go_roundw
        case rel => exact ⟨_, i + 1, rfl, by omega, by go_num, HO5, HB5⟩
        case measure => simp [intOf]; omega
      · obtain rfl : i = T.length := by omega
        have HV : Hid (XOwn wq w.heap.size v (extL T)) := hide_ (by have h := HO.out; rw [List.take_length] at h; exact own_base h (by omega))
        go_wp2
        go_ret2
        exact .inr ⟨HOK.out, v, rfl, HV.out, below_to HB0.out HB.out⟩
  · have hE1 : (vE != 0) = true := by simpa using hE0
    have HV : Hid ((chk T R).1 ≠ 0) := hide_ (by rw [HE.out]; exact hE0)
    have HBf := hide_ (below_to HB0.out HB2.out)
    go_wp2_with fail
    go_quiet (fail)
    have HBq := hide_ (below_drewN HBf.out nq)
    go_wp2
    go_ret2
    exact .inl ⟨HV.out, by rw [HE.out]; rfl, HBq.out⟩
end Go.Proofs.Ytdpkmkhflgmioaa

/- The document's sums and products of sizes; part, leaf. -/
namespace Go.Proofs.Ytdpkmkhflgmioaa
open Go.RowKit
set_option linter.unusedVariables false

set_option maxRecDepth 100000 in
theorem rsize_any (n : Int) (w : World) : Calls Try.prog 96 #[.int .i64 n] w fun e w' => e = .returned (.int .i64 (sz n)) ∧ w = w' := by
  obtain ⟨s, hs⟩ : ∃ s, sz n = s := ⟨_, rfl⟩
  have HS := hide_ hs
  clear hs
  go_enter Try.func96, Try.ntmps96
  go_wp2
  all_goals
    go_ret
    exact ⟨ret_int (by have := HS.out; unfold sz at *; repeat' split; all_goals omega), rfl⟩
theorem div_gt {a b : Int} (ha : 0 ≤ a) (hb : 0 < b) : (4611686018427387904 : Int) / b < a ↔ 4611686018427387904 < a * b := Int.ediv_lt_iff_lt_mul hb
theorem rowI_open {w : World} {a : Option Addr} {l : List Int} (h : RowI w a l) (hl : 0 < l.length) : ∃ b off, a = some ⟨b, off, none⟩ ∧ ∀ i, i < l.length → w.cell? ⟨b, off + i, none⟩ = some (.int .i64 (l.getD i 0)) := by
  rcases h with rfl | h
  · simp at hl
  · exact h
set_option maxRecDepth 100000 in
set_option maxHeartbeats 4000000 in
theorem rTimes_any (a b : Int) (w : World) : Calls Try.prog 88 #[.int .i64 a, .int .i64 b] w fun e w' => e = .returned (.int .i64 (times2 a b)) ∧ w = w' := by
  have HT : Hid (times2 a b = capH (sz a * sz b)) := hide_ rfl
  obtain ⟨v, hv⟩ : ∃ v, times2 a b = v := ⟨_, rfl⟩
  rw [hv] at HT ⊢
  have ha := sz_bd a
  have hb := sz_bd b
  have HA := hide_ (rsize_any a w)
  have HBc := hide_ (rsize_any b w)
  clear hv
  generalize sz a = x at *
  generalize sz b = y at *
  go_enter Try.func88, Try.ntmps88
  go_wp2_with fail
  refine HA.out.mono ?_; rintro e w' ⟨rfl, rfl⟩
  go_wp2_with fail
  refine HBc.out.mono ?_; rintro e w' ⟨rfl, rfl⟩
  clear HA HBc
  by_cases hx : x = 0
  · have hx1 : (x == 0) = true := by simp [hx]
    have HV : Hid (v = 0) := hide_ (by rw [HT.out, hx]; simp [capH])
    go_wp2
    go_ret
    exact ⟨ret_int HV.out.symm, rfl⟩
  · have hx1 : (x == 0) = false := by simpa using hx
    by_cases hy : y = 0
    · have hy1 : (y == 0) = true := by simp [hy]
      have HV : Hid (v = 0) := hide_ (by rw [HT.out, hy]; simp [capH])
      go_wp2
      go_ret
      exact ⟨ret_int HV.out.symm, rfl⟩
    · have hy1 : (y == 0) = false := by simpa using hy
      have hdv := div_gt (a := x) (b := y) (by omega) (by omega)
      by_cases hg : 4611686018427387904 / y < x
      · have HV : Hid (v = 4611686018427387904) := hide_ (by rw [HT.out]; unfold capH; rw [if_neg (by have := hdv.1 hg; omega)])
        clear hdv
        go_wp2
        go_ret
        exact ⟨ret_int HV.out.symm, rfl⟩
      · have hle : x * y ≤ 4611686018427387904 := by
          by_cases h : x * y ≤ 4611686018427387904
          · exact h
          · exact absurd (hdv.2 (by omega)) hg
        have h0 : 0 ≤ x * y := Int.mul_nonneg ha.1 hb.1
        have HV : Hid (v = x * y) := hide_ (by rw [HT.out]; unfold capH; rw [if_pos hle])
        have hw1 : wrap64 (x * y) = x * y := w64 _ (by omega)
        clear hdv
        go_wp2
        go_ret
        exact ⟨ret_int HV.out.symm, rfl⟩
set_option maxRecDepth 100000 in
set_option maxHeartbeats 4000000 in
theorem rPlus_any (a : Option Addr) (cap : Nat) (l : List Int) (w : World) (hl : l.length ≤ 9223372036854775806) (hr : Hid (RowI w a l)) :
    Calls Try.prog 89 #[.slice a l.length cap] w fun e w' => e = .returned (.int .i64 (capH (tot l))) ∧ w = w' := by
  obtain ⟨v, hv⟩ : ∃ v, capH (tot l) = v := ⟨_, rfl⟩
  have HV := hide_ hv
  rw [hv]
  clear hv
  go_enter Try.func89, Try.ntmps89
  go_wp2_with fail
  go_loopw [3, 4] (fun x3 x4 wr => ∃ (i : Nat) (s : Int), i ≤ l.length ∧ x4 = .int .i64 (i : Int) ∧ x3 = .int .i64 s ∧ 0 ≤ s ∧ s ≤ 4611686018427387904 ∧ Hid (tot (l.take i) = s) ∧ w = wr) (fun _ x4 _ => l.length - (intOf x4).toNat)
  case atStart => exact ⟨0, 0, Nat.zero_le _, rfl, rfl, by omega, by omega, hide_ rfl, rfl⟩
  case round =>
    obtain ⟨i, s, hi, rfl, rfl, hs0, hs1, HS, rfl⟩ := hrel
    by_cases hlt : i < l.length
    · have hlt' : (i : Int) < l.length := by omega
      have HT := hide_ (tot_take_succ l i hlt)
      have HTl := hide_ (tot_take_le l (i + 1))
      obtain ⟨b, off, rfl, hc⟩ := rowI_open hr.out (by omega)
      have c0 := hc i hlt
      rw [HS.out] at HT
      obtain ⟨z, hz⟩ : ∃ z, l.getD i 0 = z := ⟨_, rfl⟩
      rw [hz] at c0 HT
      have hzb := sz_bd z
      have HSz := hide_ (rsize_any z w)
      clear hz hc
      generalize sz z = y at *
      have hw1 : wrap64 (4611686018427387904 - s) = 4611686018427387904 - s := w64 _ (by omega)
      by_cases hg : 4611686018427387904 - s < y
      · have HF : Hid (v = 4611686018427387904) := hide_ (by
          have h1 := HT.out; have h2 := HTl.out; have h3 := HV.out
          rw [← h3]
          unfold capH
          rw [if_neg (by omega)])
        go_wp2_with (go_at_call 96; refine HSz.out.mono ?_; rintro e w' ⟨rfl, rfl⟩)
        go_ret
        exact ⟨ret_int HF.out.symm, rfl⟩
      · have hw2 : wrap64 (s + y) = s + y := w64 _ (by omega)
        go_wp2_with (go_at_call 96; refine HSz.out.mono ?_; rintro e w' ⟨rfl, rfl⟩)
        go_roundw
        case rel => exact ⟨i + 1, _, by omega, by go_num, rfl, by omega, by omega, HT, trivial⟩
        case measure => simp [intOf]; omega
    · have HF : Hid (v = s) := hide_ (by
        have h3 := HV.out; have h4 := HS.out
        rw [List.take_of_length_le (by omega)] at h4
        rw [← h3, h4]
        unfold capH
        rw [if_pos (by omega)])
      go_wp2
      go_ret
      exact ⟨ret_int HF.out.symm, rfl⟩
set_option maxRecDepth 100000 in
theorem rtimes_any (a b : Int) (w : World) : Calls Try.prog 73 #[.int .i64 a, .int .i64 b] w fun e w' => e = .returned (.int .i64 (times2 a b)) ∧ w = w' := by
  have HC := hide_ (rTimes_any a b w)
  generalize times2 a b = v at *
  go_enter Try.func73, Try.ntmps73
  go_wp2_with fail
  refine HC.out.mono ?_; rintro e w' ⟨rfl, rfl⟩
  go_wp2
  go_ret
  exact ⟨rfl, rfl⟩
set_option maxRecDepth 100000 in
theorem rplus_any (a b : Int) (w : World) : Calls Try.prog 74 #[.int .i64 a, .int .i64 b] w fun e w' => e = .returned (.int .i64 (plus2 a b)) ∧ Below w.heap.size w w' := by
  obtain ⟨w1, hw1⟩ : ∃ wx, wx = w.alloc (.cells #[.int .i64 a, .int .i64 b] 3) := ⟨_, rfl⟩
  have k1 : Blk w1 w.heap.size 3 [.int .i64 a, .int .i64 b] := by rw [hw1]; exact Blk.newA w _ _
  have b1 : Below w.heap.size w w1 := by rw [hw1]; exact below1 _ _
  have HC := hide_ (rPlus_any (some ⟨w.heap.size, 0, none⟩) 2 [a, b] w1 (by simp) (hide_ (.inr ⟨w.heap.size, 0, rfl, fun i hi => by
    rw [Nat.zero_add, k1.cell]
    match i, hi with
    | 0, _ => rfl
    | 1, _ => rfl⟩)))
  obtain ⟨v, hv⟩ : ∃ v, plus2 a b = v := ⟨_, rfl⟩
  have HV := hide_ hv
  rw [show capH (tot [a, b]) = v from hv] at HC
  rw [hv]
  have HB := hide_ b1
  clear hv k1 b1
  go_enter Try.func74, Try.ntmps74
  go_wp2_with fail
  rw [← hw1]
  refine HC.out.mono ?_; rintro e w' ⟨rfl, rfl⟩
  clear hw1
  go_wp2
  go_ret
  exact ⟨rfl, HB.out⟩
end Go.Proofs.Ytdpkmkhflgmioaa

/- Plain: what extents are, and how they grow. -/
namespace Go.Proofs.Ytdpkmkhflgmioaa
set_option linter.unusedVariables false

theorem plus2_eq (a b : Int) : plus2 a b = capH (sz a + sz b) := by unfold plus2; simp [tot]
theorem sz_mono {a b : Int} (h : a ≤ b) : sz a ≤ sz b := by
  unfold sz
  repeat' split
  all_goals omega
theorem capH_mono {a b : Int} (h : a ≤ b) : capH a ≤ capH b := by
  unfold capH
  repeat' split
  all_goals omega
theorem sz_id {a : Int} (h0 : 0 ≤ a) (h1 : a ≤ 4611686018427387904) : sz a = a := by
  unfold sz
  rw [if_neg (by omega), if_pos h1]
theorem plus2_mono {a b c d : Int} (h : a ≤ c) (k : b ≤ d) : plus2 a b ≤ plus2 c d := by
  rw [plus2_eq, plus2_eq]
  exact capH_mono (Int.add_le_add (sz_mono h) (sz_mono k))
theorem times2_mono {a b c d : Int} (h : a ≤ c) (k : b ≤ d) : times2 a b ≤ times2 c d := by
  unfold times2
  exact capH_mono (Int.mul_le_mul (sz_mono h) (sz_mono k) (sz_bd b).1 (sz_bd c).1)
theorem times2_bd (a b : Int) : 0 ≤ times2 a b ∧ times2 a b ≤ 4611686018427387904 := by
  have := Int.mul_nonneg (sz_bd a).1 (sz_bd b).1
  unfold times2 capH
  split <;> omega
theorem plus2_l {a : Int} (b : Int) (h0 : 0 ≤ a) (h1 : a ≤ 4611686018427387904) : a ≤ plus2 a b := by
  have := (sz_bd b).1
  rw [plus2_eq, sz_id h0 h1]
  unfold capH
  split <;> omega
theorem plus2_r {a : Int} (b : Int) (h0 : 0 ≤ a) (h1 : a ≤ 4611686018427387904) : a ≤ plus2 b a := by
  have := (sz_bd b).1
  rw [plus2_eq, sz_id h0 h1]
  unfold capH
  split <;> omega
/-- What an extent is. -/
structure XOk (x : Ex) : Prop where
  l0 : 0 ≤ x.l
  lm : x.l ≤ x.m
  mh : x.m ≤ 4611686018427387904
  d0 : 0 ≤ x.d
  fx : x.f = true → x.l = x.m
theorem XOk.zero : XOk ex0 := ⟨by decide, by decide, by decide, by decide, fun _ => rfl⟩
theorem XOk.at {X : List Ex} (h : ∀ x ∈ X, XOk x) (i : Int) : XOk (exAt X i) := by
  unfold exAt
  rcases Nat.lt_or_ge i.toNat X.length with hi | hi
  · rw [show X.getD i.toNat ex0 = X[i.toNat]'hi by simp [List.getD, hi]]
    exact h _ (List.getElem_mem hi)
  · rw [show X.getD i.toNat ex0 = ex0 by simp [List.getD, List.getElem?_eq_none hi]]
    exact XOk.zero
theorem XOk.off {x : Ex} (h : XOk x) : XOk (offX x) := by
  unfold offX
  split
  · exact h
  · exact ⟨(plus2_bd 4 x.l).1, plus2_mono (Int.le_refl 4) h.lm, (plus2_bd 4 x.m).2, h.d0, fun e => absurd e (by assumption)⟩
theorem off_m {x : Ex} (h : XOk x) : x.m ≤ (offX x).m := by
  unfold offX
  split
  · exact Int.le_refl _
  · exact plus2_r 4 (Int.le_trans h.l0 h.lm) h.mh
theorem off_f (x : Ex) : (offX x).f = x.f := by
  unfold offX
  split <;> rfl
theorem rowX_snoc (l : List Ex) (x : Ex) : rowX (l ++ [x]) = ((rowX l).1 && (offX x).f, plus2 (rowX l).2.1 (offX x).l, plus2 (rowX l).2.2 (offX x).m) := by simp [rowX]
theorem chX_snoc (l : List Ex) (x : Ex) : chX (l ++ [x]) = (min (chX l).1 x.l, max (chX l).2 x.m) := by simp [chX]
theorem deepX_snoc (l : List Ex) (x : Ex) : deepX (l ++ [x]) = max (deepX l) x.d := by simp [deepX]
theorem rowX_ok (l : List Ex) : (∀ x ∈ l, XOk x) → 0 ≤ (rowX l).2.1 ∧ (rowX l).2.1 ≤ (rowX l).2.2 ∧ (rowX l).2.2 ≤ 4611686018427387904 ∧ ((rowX l).1 = true → (rowX l).2.1 = (rowX l).2.2) := by
  refine snoc_ind (P := fun l => (∀ x ∈ l, XOk x) → 0 ≤ (rowX l).2.1 ∧ (rowX l).2.1 ≤ (rowX l).2.2 ∧ (rowX l).2.2 ≤ 4611686018427387904 ∧ ((rowX l).1 = true → (rowX l).2.1 = (rowX l).2.2)) (fun _ => by simp [rowX]) (fun l x ih h => ?_) l
  have h1 := ih (fun y hy => h y (by simp [hy]))
  have hx := (h x (by simp)).off
  rw [rowX_snoc]
  refine ⟨(plus2_bd _ _).1, plus2_mono h1.2.1 hx.lm, (plus2_bd _ _).2, fun hf => ?_⟩
  simp only [Bool.and_eq_true] at hf
  simp only
  rw [h1.2.2.2 hf.1, hx.fx hf.2]
theorem chX_ok (l : List Ex) : (∀ x ∈ l, XOk x) → 0 ≤ (chX l).1 ∧ (chX l).1 ≤ 4611686018427387904 ∧ 0 ≤ (chX l).2 ∧ (chX l).2 ≤ 4611686018427387904 ∧ (l ≠ [] → (chX l).1 ≤ (chX l).2) := by
  refine snoc_ind (P := fun l => (∀ x ∈ l, XOk x) → 0 ≤ (chX l).1 ∧ (chX l).1 ≤ 4611686018427387904 ∧ 0 ≤ (chX l).2 ∧ (chX l).2 ≤ 4611686018427387904 ∧ (l ≠ [] → (chX l).1 ≤ (chX l).2)) (fun _ => by simp [chX]) (fun l x ih h => ?_) l
  have h1 := ih (fun y hy => h y (by simp [hy]))
  have hx := h x (by simp)
  have := hx.l0; have := hx.lm; have := hx.mh
  rw [chX_snoc]
  simp only
  refine ⟨by omega, by omega, by omega, by omega, fun _ => by omega⟩
theorem deepX_nn (l : List Ex) : 0 ≤ deepX l := by
  refine snoc_ind (P := fun l => 0 ≤ deepX l) (by simp [deepX]) (fun l x ih => ?_) l
  rw [deepX_snoc]
  omega
theorem deepX_ge (l : List Ex) : ∀ x ∈ l, x.d ≤ deepX l := by
  refine snoc_ind (P := fun l => ∀ x ∈ l, x.d ≤ deepX l) (fun x hx => by cases hx) (fun l y ih x hx => ?_) l
  rw [deepX_snoc]
  rcases List.mem_append.1 hx with hx | hx
  · have := ih x hx; omega
  · simp at hx; subst hx; omega
theorem chX_ge (l : List Ex) : ∀ x ∈ l, (chX l).1 ≤ x.l ∧ x.m ≤ (chX l).2 := by
  refine snoc_ind (P := fun l => ∀ x ∈ l, (chX l).1 ≤ x.l ∧ x.m ≤ (chX l).2) (fun x hx => by cases hx) (fun l y ih x hx => ?_) l
  rw [chX_snoc]
  simp only
  rcases List.mem_append.1 hx with hx | hx
  · have := ih x hx; omega
  · simp at hx; subst hx; omega
theorem rowX_ge (l : List Ex) : (∀ x ∈ l, XOk x) → ∀ x ∈ l, x.m ≤ (rowX l).2.2 ∧ ((rowX l).1 = true → x.f = true) := by
  refine snoc_ind (P := fun l => (∀ x ∈ l, XOk x) → ∀ x ∈ l, x.m ≤ (rowX l).2.2 ∧ ((rowX l).1 = true → x.f = true)) (fun _ x hx => by cases hx) (fun l y ih h x hx => ?_) l
  have hl : ∀ x ∈ l, XOk x := fun z hz => h z (by simp [hz])
  have h1 := rowX_ok l hl
  rw [rowX_snoc]
  simp only
  rcases List.mem_append.1 hx with hx | hx
  · have h2 := ih hl x hx
    have h3 := plus2_l (offX y).m (a := (rowX l).2.2) (by omega) h1.2.2.1
    exact ⟨by omega, fun hf => h2.2 (by simp only [Bool.and_eq_true] at hf; exact hf.1)⟩
  · simp at hx
    subst hx
    have hx := h x (by simp)
    have h3 := plus2_r (rowX l).2.2 (Int.le_trans hx.off.l0 hx.off.lm) hx.off.mh
    have h4 := off_m hx
    exact ⟨by omega, fun hf => by simp only [Bool.and_eq_true] at hf; rw [← off_f]; exact hf.2⟩
theorem kidL_ok {X : List Ex} (h : ∀ x ∈ X, XOk x) (k el : Int) (ps : List Pt) : ∀ x ∈ kidL X k el ps, XOk x := fun x hx => by
  unfold kidL at hx
  rcases List.mem_append.1 hx with hx | hx
  · split at hx
    · simp at hx; subst hx; exact XOk.at h el
    · cases hx
  · simp only [List.mem_map] at hx
    obtain ⟨p, _, rfl⟩ := hx
    exact XOk.at h p.ty
theorem tyOk_pos {t : Ty} {i : Int} (h : tyOk t i = true) (hk : t.k = 7 ∨ t.k = 8) : 0 < t.ps.length := by
  have h1 := (tyOk_parts h).2.2
  have key : ∀ r, allP r t.ps i = true → 0 < t.ps.length := fun r hr => by
    unfold allP at hr
    rw [Bool.and_eq_true, decide_eq_true_eq] at hr
    exact hr.1.1
  unfold partsOk at h1
  split at h1
  · exact key _ h1
  · rw [if_pos (by omega)] at h1
    exact key _ h1
theorem tyOk_none {t : Ty} {i : Int} (h : tyOk t i = true) (hk : t.k ≠ 7) (hk8 : t.k ≠ 8) : t.ps = [] := by
  have h1 := (tyOk_parts h).2.2
  unfold partsOk at h1
  rw [if_neg hk8, if_neg hk] at h1
  exact List.eq_nil_of_length_eq_zero (of_decide_eq_true h1)
theorem nOk_n {t : Ty} {i : Int} (h : tyOk t i = true) : (t.k = 1 ∧ 0 ≤ t.n ∧ t.n ≤ 8) ∨ ((t.k = 4 ∨ t.k = 5) ∧ 1 ≤ t.n ∧ t.n ≤ 1048576) ∨ ((t.k = 2 ∨ t.k = 3 ∨ t.k = 6 ∨ t.k = 7 ∨ t.k = 8) ∧ t.n = 0) := by
  have h1 := of_decide_eq_true (tyOk_parts h).1
  omega
theorem ext1_ok {X : List Ex} {t : Ty} {i : Int} (h : ∀ x ∈ X, XOk x) (ht : tyOk t i = true) : XOk (ext1 X t) ∧ 1 ≤ (ext1 X t).d := by
  have hn := nOk_n ht
  have hd := deepX_nn (kidL X t.k t.e t.ps)
  have hK := kidL_ok h t.k t.e t.ps
  have hE := (XOk.at h t.e).off
  refine ⟨?_, by rw [ext1_d]; omega⟩
  unfold ext1
  split
  · exact ⟨by simp only; omega, Int.le_refl _, by simp only; omega, by simp only; omega, fun _ => rfl⟩
  split
  · exact ⟨by simp only; omega, Int.le_refl _, by simp only; omega, by simp only; omega, fun _ => rfl⟩
  split
  · exact ⟨by simp only; omega, by simp only; omega, by simp only; omega, by simp only; omega, fun e => by cases e⟩
  split
  · refine ⟨(times2_bd _ _).1, times2_mono (Int.le_refl _) hE.lm, (times2_bd _ _).2, by simp only; omega, fun e => ?_⟩
    simp only at e ⊢
    rw [hE.fx e]
  split
  · refine ⟨(times2_bd _ _).1, ?_, (times2_bd _ _).2, by simp only; omega, fun e => by cases e⟩
    exact times2_mono (by omega) hE.lm
  split
  · have hK6 : ∀ x ∈ kidL X t.k t.e t.ps ++ [ex0], XOk x := fun x hx => by
      rcases List.mem_append.1 hx with hx | hx
      · exact hK x hx
      · simp at hx; subst hx; exact XOk.zero
    have hc := chX_ok _ hK6
    exact ⟨(plus2_bd _ _).1, plus2_mono (Int.le_refl 1) (hc.2.2.2.2 (by simp)), (plus2_bd _ _).2, by simp only; omega, fun e => by cases e⟩
  split
  · have hc := chX_ok _ hK
    have hp := tyOk_pos ht (by omega)
    have hne : kidL X t.k t.e t.ps ≠ [] := fun e => by
      have : (kidL X t.k t.e t.ps).length = 0 := by rw [e]; rfl
      unfold kidL at this
      rw [List.length_append, List.length_map] at this
      omega
    exact ⟨(plus2_bd _ _).1, plus2_mono (Int.le_refl 1) (hc.2.2.2.2 hne), (plus2_bd _ _).2, by simp only; omega, fun e => by cases e⟩
  · have hr := rowX_ok _ hK
    exact ⟨hr.1, hr.2.1, hr.2.2.1, by simp only; omega, hr.2.2.2⟩
/-- All extents of a right schema. -/
theorem extL_ok {T : List Ty} {R : List Rt} (hS : OkS T R) : ∀ m, m ≤ T.length → ∀ x ∈ extL (T.take m), XOk x ∧ 1 ≤ x.d
  | 0, _ => fun x hx => by simp [extL] at hx
  | m + 1, hm => fun x hx => by
    rw [List.take_succ_eq_append_getElem (by omega : m < T.length), extL_snoc] at hx
    have ih := extL_ok hS m (by omega)
    rcases List.mem_append.1 hx with hx | hx
    · exact ih x hx
    · simp only [List.mem_singleton] at hx
      subst hx
      have ht := hS.ty m (by omega)
      rw [show T.getD m ty0 = T[m]'(by omega) by simp [List.getD, (by omega : m < T.length)]] at ht
      exact ext1_ok (fun y hy => (ih y hy).1) ht
theorem extL_at {T : List Ty} {i : Nat} {t : Ty} (h : T[i]? = some t) : (extL T)[i]? = some (ext1 (extL (T.take i)) t) := by
  have hi := (List.getElem?_eq_some_iff.1 h).1
  have e : extL (T.take (i + 1)) = extL (T.take i) ++ [ext1 (extL (T.take i)) t] := by rw [List.take_succ_eq_append_getElem hi, (List.getElem?_eq_some_iff.1 h).2, extL_snoc]
  have hl : (extL (T.take i)).length = i := by rw [extL_len]; simp; omega
  have e2 := extL_take T (i + 1) hi
  have e3 : (extL T)[i]? = (extL (T.take (i + 1)))[i]? := by rw [e2, List.getElem?_take, if_pos (by omega)]
  rw [e3, e, List.getElem?_append_right (by omega), hl]
  simp
theorem exAt_take {T : List Ty} {i : Nat} {j : Int} (hi : i ≤ T.length) (h0 : 0 ≤ j) (h1 : j < i) : exAt (extL (T.take i)) j = exAt (extL T) j := by
  unfold exAt
  rw [extL_take T i hi]
  have : j.toNat < i := by omega
  simp only [List.getD, List.getElem?_take, if_pos this]
theorem exAt_ext {T : List Ty} {i : Nat} {t : Ty} (h : T[i]? = some t) : exAt (extL T) (i : Int) = ext1 (extL (T.take i)) t := by
  unfold exAt
  rw [Int.toNat_natCast]
  simp [List.getD, extL_at h]
/-- What a type's extent is beside its parts'. -/
theorem part_ext {T : List Ty} {R : List Rt} (hS : OkS T R) {i k : Nat} {t : Ty} {p : Pt} (ht : T[i]? = some t) (hp : t.ps[k]? = some p) :
    0 ≤ p.ty ∧ p.ty < i ∧ (exAt (extL T) p.ty).d < (exAt (extL T) (i : Int)).d ∧ (exAt (extL T) p.ty).m ≤ (exAt (extL T) (i : Int)).m ∧ ((exAt (extL T) (i : Int)).f = true → (exAt (extL T) p.ty).f = true) := by
  have hi := (List.getElem?_eq_some_iff.1 ht).1
  have hok := hS.ty i hi
  rw [show T.getD i ty0 = t by simp [List.getD, ht]] at hok
  obtain ⟨a0, a1⟩ := tyOk_part hok hp
  refine ⟨a0, a1, ?_⟩
  rw [exAt_ext ht, ← exAt_take (Nat.le_of_lt hi) a0 a1]
  have hX := extL_ok hS i (Nat.le_of_lt hi)
  generalize extL (T.take i) = X at *
  have hXo : ∀ x ∈ X, XOk x := fun x hx => (hX x hx).1
  have hK := kidL_ok hXo t.k t.e t.ps
  have hm : exAt X p.ty ∈ kidL X t.k t.e t.ps := by
    unfold kidL
    exact List.mem_append.2 (.inr (List.mem_map.2 ⟨p, List.mem_of_getElem? hp, rfl⟩))
  have hd := deepX_ge _ _ hm
  have h78 : t.k = 7 ∨ t.k = 8 := by
    by_cases h7 : t.k = 7
    · exact .inl h7
    · by_cases h8 : t.k = 8
      · exact .inr h8
      · rw [tyOk_none hok h7 h8] at hp; simp at hp
  refine ⟨by rw [ext1_d]; omega, ?_⟩
  unfold ext1
  rcases h78 with h7 | h8
  · rw [if_neg (by omega), if_neg (by omega), if_neg (by omega), if_neg (by omega), if_neg (by omega), if_neg (by omega), if_pos h7]
    have hc := chX_ok _ hK
    have hg := (chX_ge _ _ hm).2
    have := plus2_r 1 hc.2.2.1 hc.2.2.2.1
    simp only
    exact ⟨by omega, fun e => by cases e⟩
  · rw [if_neg (by omega), if_neg (by omega), if_neg (by omega), if_neg (by omega), if_neg (by omega), if_neg (by omega), if_neg (by omega)]
    exact rowX_ge _ hK _ hm
/-- A greater number. -/
theorem more_n {X : List Ex} {t : Ty} {n : Int} (hk : t.k = 4 ∨ t.k = 5) (hn : t.n ≤ n) : (ext1 X t).m ≤ (ext1 X ⟨t.k, n, t.e, t.ps⟩).m ∧ (ext1 X t).l ≤ (ext1 X ⟨t.k, n, t.e, t.ps⟩).l ∧ ((ext1 X ⟨t.k, n, t.e, t.ps⟩).f = true → (ext1 X t).f = true) := by
  unfold ext1
  simp only
  rcases hk with hk | hk
  · simp only [hk]
    exact ⟨times2_mono hn (Int.le_refl _), times2_mono hn (Int.le_refl _), fun h => h⟩
  · simp only [hk]
    exact ⟨times2_mono hn (Int.le_refl _), Int.le_refl _, fun h => by cases h⟩
theorem ext1_8 {t : Ty} (X : List Ex) (hk : t.k = 8) : ext1 X t = ⟨(rowX (kidL X t.k t.e t.ps)).1, (rowX (kidL X t.k t.e t.ps)).2.1, (rowX (kidL X t.k t.e t.ps)).2.2, 1 + deepX (kidL X t.k t.e t.ps)⟩ := by
  unfold ext1
  rw [if_neg (by omega), if_neg (by omega), if_neg (by omega), if_neg (by omega), if_neg (by omega), if_neg (by omega), if_neg (by omega)]
/-- A field more. -/
theorem more_p {X : List Ex} {t : Ty} {p : Pt} (h : ∀ x ∈ X, XOk x) (hk : t.k = 8) : (ext1 X t).m ≤ (ext1 X ⟨t.k, t.n, t.e, t.ps ++ [p]⟩).m ∧ (ext1 X t).l ≤ (ext1 X ⟨t.k, t.n, t.e, t.ps ++ [p]⟩).l ∧ ((ext1 X ⟨t.k, t.n, t.e, t.ps ++ [p]⟩).f = true → (ext1 X t).f = true) := by
  have e : kidL X t.k t.e (t.ps ++ [p]) = kidL X t.k t.e t.ps ++ [exAt X p.ty] := by unfold kidL; rw [List.map_append, ← List.append_assoc]; rfl
  have hr := rowX_ok _ (kidL_ok h t.k t.e t.ps)
  rw [ext1_8 (t := ⟨t.k, t.n, t.e, t.ps ++ [p]⟩) X hk, ext1_8 X hk]
  simp only
  rw [e, rowX_snoc]
  simp only
  refine ⟨plus2_l _ (Int.le_trans hr.1 hr.2.1) hr.2.2.1, plus2_l _ hr.1 (Int.le_trans hr.2.1 hr.2.2.1), fun hf => ?_⟩
  simp only [Bool.and_eq_true] at hf
  exact hf.1
theorem set_take {α : Type} (T : List α) (k : Nat) (y : α) : (T.set k y).take k = T.take k := by
  apply List.ext_getElem?
  intro j
  rw [List.getElem?_take, List.getElem?_take]
  split
  · rw [List.getElem?_set_ne (by omega)]
  · rfl
theorem set_ext {T : List Ty} {k : Nat} (y : Ty) (h : k < T.length) : exAt (extL (T.set k y)) (k : Int) = ext1 (extL (T.take k)) y := by
  rw [exAt_ext (t := y) (by rw [List.getElem?_set_self h]), set_take]
/-- The cells of an extent in a list of the call's own. -/
theorem XOwn.at4 {w : World} {B g n cap i : Nat} {X : List Ex} (h : XOwn w B (.slice (some ⟨g, 0, none⟩) n cap) X) (hi : i < X.length) : w.cell? ⟨g, i * 4, none⟩ = some (.bool (exAt X (i : Int)).f) ∧ w.cell? ⟨g, i * 4 + 1, none⟩ = some (.int .i64 (exAt X (i : Int)).l) ∧ w.cell? ⟨g, i * 4 + 2, none⟩ = some (.int .i64 (exAt X (i : Int)).m) ∧ w.cell? ⟨g, i * 4 + 3, none⟩ = some (.int .i64 (exAt X (i : Int)).d) := by
  obtain ⟨a, c, e, -, -, hr⟩ := h.row
  injection e with e1 _ _
  subst e1
  obtain ⟨b, off, e2, -, hc⟩ := hr.open (by omega)
  injection e2 with e2
  injection e2 with e3 e4 _
  subst e3 e4
  have hx := exAt_at hi
  have h0 := hc i _ hx 0 (by decide); have h1 := hc i _ hx 1 (by decide); have h2 := hc i _ hx 2 (by decide); have h3 := hc i _ hx 3 (by decide)
  simp only [Nat.zero_add, Nat.add_zero] at h0 h1 h2 h3
  exact ⟨h0, h1, h2, h3⟩
end Go.Proofs.Ytdpkmkhflgmioaa

/- The document's Check of a schema (mortiseref09): in, parts. -/
namespace Go.Proofs.Ytdpkmkhflgmioaa
open Go.RowKit
set_option linter.unusedVariables false

def inR (n lo hi : Int) : Bool := decide (lo ≤ n) && decide (n ≤ hi)
set_option maxRecDepth 100000 in
set_option maxHeartbeats 4000000 in
theorem inR_any (n lo hi : Int) (w : World) : Calls Try.prog 27 #[.int .i64 n, .int .i64 lo, .int .i64 hi] w fun e w' => e = .returned (.bool (inR n lo hi)) ∧ w = w' := by
  unfold inR
  go_enter Try.func27, Try.ntmps27
  by_cases h0 : lo ≤ n
  · by_cases h1 : n ≤ hi
    · go_wp2; go_ret; exact ⟨by simp [h0, h1], rfl⟩
    · go_wp2; go_ret; exact ⟨by simp; omega, rfl⟩
  · go_wp2; go_ret; exact ⟨by simp; omega, rfl⟩
theorem inR_at (n : Int) (i : Int) : inR n 0 (i - 1) = inB n i := by
  unfold inR inB
  rw [← Bool.decide_and]
  exact decide_eq_decide.2 (by omega)
theorem thereP_take {ps : List Pt} {j m : Nat} {q p : Pt} (hq : ps[j]? = some q) (hj : j < m) (h : likeP q p = true) : thereP (ps.take m) p = true := by
  unfold thereP
  rw [List.any_eq_true]
  refine ⟨q, ?_, h⟩
  refine List.mem_of_getElem? (i := j) ?_
  rw [List.getElem?_take, if_pos hj]
  exact hq
theorem thereP_none {ps : List Pt} {m : Nat} {p : Pt} (h : ∀ (j : Nat) (q : Pt), j < m → ps[j]? = some q → likeP q p = false) : thereP (ps.take m) p = false := by
  unfold thereP
  rw [List.any_eq_false]
  intro q hq
  obtain ⟨j, hj⟩ := List.getElem?_of_mem hq
  rw [List.getElem?_take] at hj
  split at hj
  · rename_i hjm
    rw [h j q hjm hj]
    decide
  · cases hj
theorem armOk_eq (p : Pt) : armOk p = (decide (p.label = ⟨#[]⟩) && (decide (0 ≤ p.tag) && decide (p.tag ≤ 255))) := by
  unfold armOk
  simp [Bool.decide_and]
set_option maxRecDepth 100000 in
set_option maxHeartbeats 8000000 in
theorem partsR8_any (n el : Int) (ps : List Pt) (va : Option Addr) (vc : Nat) (i : Nat) (w : World) (hil : i ≤ 9223372036854775806) (hr : Hid (PRow w va ps)) :
    Calls Try.prog 48 #[.agg #[.int .i64 8, .int .i64 n, .int .i64 el, .slice va ps.length vc], .int .i64 (i : Int)] w fun e w' => e = .returned (.bool (allP fieldOk ps i)) ∧ Below w.heap.size w w' := by
  have hB := below1 w (.cells #[.int .i64 8, .int .i64 n, .int .i64 el, .slice va ps.length vc] 62)
  have kx := Blk.newA w #[.int .i64 8, .int .i64 n, .int .i64 el, .slice va ps.length vc] 62
  obtain ⟨w0, hw0⟩ : ∃ wx, wx = w.alloc (.cells #[.int .i64 8, .int .i64 n, .int .i64 el, .slice va ps.length vc] 62) := ⟨_, rfl⟩
  rw [← hw0] at hB kx
  have HB0 := hide_ hB
  have KX := hide_ kx
  have HR0 := hide_ (hr.out.later hB)
  have hwi : wrap64 ((i : Int) - 1) = (i : Int) - 1 := w64 _ (by omega)
  have i0 := kx.cell 0; have i3 := kx.cell 3
  simp at i0 i3
  clear hB kx hr
  have HIl : Hid (∀ w, Calls Try.prog 27 #[.int .i64 (ps.length : Int), .int .i64 1, .int .i64 64] w fun e w' => e = .returned (.bool (decide (0 < ps.length ∧ ps.length ≤ 64))) ∧ w = w') := hide_ (fun w => by
    have h := inR_any (ps.length : Int) 1 64 w
    rw [show inR (ps.length : Int) 1 64 = decide (0 < ps.length ∧ ps.length ≤ 64) by unfold inR; rw [← Bool.decide_and]; exact decide_eq_decide.2 (by omega)] at h
    exact h)
  go_enter Try.func48, Try.ntmps48
  go_upto_region 1 with fail
  rw [← hw0]
  clear hw0
  by_cases hl : 0 < ps.length ∧ ps.length ≤ 64
  · rw [decide_eq_true hl] at HIl
    go_wp2_with (go_at_call 27; refine (HIl.out _).mono ?_; rintro e w' ⟨rfl, rfl⟩)
    go_loopw [6] (fun x6 wr => ∃ m : Nat, m ≤ ps.length ∧ x6 = .int .i64 (m : Int) ∧ Hid (∀ j, j < m → okP fieldOk ps i j = true) ∧ Hid (Below w0.heap.size w0 wr)) (fun x6 _ => ps.length - (intOf x6).toNat)
    case atStart => exact ⟨0, Nat.zero_le _, rfl, hide_ (fun j hj => by omega), hide_ (Below.refl _ _)⟩
    case round =>
      obtain ⟨m, hm, rfl, HA, HB⟩ := hrel
      generalize wr = wq at *
      clear i0 i3
      have KXq := hide_ (KX.out.later HB.out)
      have i0 := KXq.out.cell 0; have i3 := KXq.out.cell 3
      simp at i0 i3
      by_cases hlt : m < ps.length
      · have hlt' : (m : Int) < ps.length := by omega
        have HRq := hide_ (HR0.out.later HB.out)
        obtain ⟨b, off, rfl, hb, hc⟩ := HRq.out.open (by omega)
        have hx : ps[m]? = some (ps[m]'hlt) := List.getElem?_eq_getElem hlt
        have hcx := hc m _ hx
        have HX := hide_ hx
        generalize ps[m]'hlt = p at *
        have j0 := hcx 0 (by decide); have j1 := hcx 1 (by decide); have j2 := hcx 2 (by decide)
        simp [ptc] at j0 j1 j2
        have HOK := hide_ (okP_at (r := fieldOk) (m := (i : Int)) HX.out)
        have kp := Blk.newA wq #[.string p.label, .int .i64 p.tag, .int .i64 p.ty] 64
        have hBx := below1 wq (.cells #[.string p.label, .int .i64 p.tag, .int .i64 p.ty] 64)
        obtain ⟨wx, hwx⟩ : ∃ wx, wx = wq.alloc (.cells #[.string p.label, .int .i64 p.tag, .int .i64 p.ty] 64) := ⟨_, rfl⟩
        rw [← hwx] at kp hBx
        have HBx := hide_ (below_to HB.out hBx)
        have HBf := hide_ (below_to HB0.out HBx.out)
        have KP := hide_ kp
        have KXx := hide_ (KXq.out.later hBx)
        have HRx := hide_ (HRq.out.later hBx)
        clear kp hBx hc hx hcx hb HRq
        go_upto_region 10 with fail
        rw [← hwx]
        clear hwx i0 i3 j0 j1 j2
        have i0 := KXx.out.cell 0; have i3 := KXx.out.cell 3
        have j0 := KP.out.cell 0; have j1 := KP.out.cell 1; have j2 := KP.out.cell 2
        simp at i0 i3 j0 j1 j2
        obtain ⟨b3, hb3⟩ : ∃ x, inB p.ty i = x := ⟨_, rfl⟩
        obtain ⟨b1, hb1⟩ : ∃ x, fieldOk p = x := ⟨_, rfl⟩
        rw [hb3, hb1] at HOK
        have HI3 : Hid (∀ w, Calls Try.prog 27 #[.int .i64 p.ty, .int .i64 0, .int .i64 ((i : Int) - 1)] w fun e w' => e = .returned (.bool b3) ∧ w = w') := hide_ (fun w => by
          have h := inR_any p.ty 0 ((i : Int) - 1) w
          rwa [inR_at, hb3] at h)
        have HB1 := hide_ hb1
        clear hb1 hb3
        cases b3 with
        | false =>
          have HV : Hid (allP fieldOk ps i = false) := hide_ (allP_not hlt (by rw [HOK.out]; simp))
          go_wp2_with (go_at_call 27; refine (HI3.out _).mono ?_; rintro e w' ⟨rfl, rfl⟩)
          go_ret
          exact ⟨by rw [HV.out]; rfl, HBf.out⟩
        | true =>
        go_upto_region 12 with (go_at_call 27; refine (HI3.out _).mono ?_; rintro e w' ⟨rfl, rfl⟩)
        clear HI3
        obtain ⟨nm, hnm⟩ : ∃ x, isName p.label = x := ⟨_, rfl⟩
        have HNm : Hid (∀ w, Calls Try.prog 26 #[.string p.label] w fun e w' => e = .returned (.bool nm) ∧ w = w') := hide_ (fun w => by have h := nameD_any p.label w; rwa [hnm] at h)
        have HNM := hide_ hnm
        clear hnm
        cases nm with
        | false =>
          have HV : Hid (allP fieldOk ps i = false) := hide_ (allP_not hlt (by rw [HOK.out, ← HB1.out]; simp [fieldOk, HNM.out]))
          go_wp2_with (go_at_call 26; refine (HNm.out _).mono ?_; rintro e w' ⟨rfl, rfl⟩)
          go_ret
          exact ⟨by rw [HV.out]; rfl, HBf.out⟩
        | true =>
        by_cases htg : p.tag = 0
        · have hb0 : (p.tag != 0) = false := by simp [htg]
          obtain rfl : true = b1 := by rw [← HB1.out]; simp [fieldOk, HNM.out, htg]
          go_wp2_with (go_at_call 26; refine (HNm.out _).mono ?_; rintro e w' ⟨rfl, rfl⟩)
          clear i0 j2
          go_loopw [8] (fun x8 wr => ∃ j : Nat, j ≤ m ∧ x8 = .int .i64 (j : Int) ∧ Hid (∀ (q : Nat) (z : Pt), q < j → ps[q]? = some z → likeP z p = false) ∧ Hid (Below wx.heap.size wx wr)) (fun x8 _ => m - (intOf x8).toNat)
          case atStart => exact ⟨0, Nat.zero_le _, rfl, hide_ (fun q z hq => by omega), hide_ (Below.refl _ _)⟩
          case round =>
            obtain ⟨j, hj, rfl, HJ, HBj⟩ := hrel
            generalize wr = wp at *
            clear i3 j0 j1
            have i3 := (KXx.out.later HBj.out).cell 3
            have kq := KP.out.later HBj.out
            have j0 := kq.cell 0; have j1 := kq.cell 1
            simp at i3 j0 j1
            clear kq
            by_cases hjm : j < m
            · have hjm' : (j : Int) < m := by omega
              have hjl : j < ps.length := by omega
              have hjl' : (j : Int) < ps.length := by omega
              obtain ⟨b', off', hax, -, hc⟩ := (HRx.out.later HBj.out).open (by omega)
              injection hax with hax
              injection hax with e1 e2 _
              subst e1 e2
              have hx : ps[j]? = some (ps[j]'hjl) := List.getElem?_eq_getElem hjl
              have hcx := hc j _ hx
              have HXj := hide_ hx
              generalize ps[j]'hjl = z at *
              have z0 := hcx 0 (by decide); have z1 := hcx 1 (by decide)
              simp [ptc] at z0 z1
              clear hc hx hcx
              have HJn : Hid (likeP z p = false → ∀ (q : Nat) (y : Pt), q < j + 1 → ps[q]? = some y → likeP y p = false) := hide_ (fun hl q y hq hy => by
                rcases Nat.lt_or_ge q j with h | h
                · exact HJ.out q y h hy
                · obtain rfl : q = j := by omega
                  rw [HXj.out] at hy
                  injection hy with hy
                  subst hy
                  exact hl)
              by_cases he : z.label = p.label
              · have hs : (z.label.toList == p.label.toList) = true := by rw [he]; simp
                by_cases ht : z.tag = p.tag
                · have hb : (z.tag == p.tag) = true := by simp [ht]
                  have HV : Hid (allP fieldOk ps i = false) := hide_ (allP_not hlt (by rw [HOK.out, thereP_take HXj.out hjm (by simp [likeP, he, ht])]; simp))
                  clear he ht
                  go_wp2_with fail
                  go_quiet (fail)
                  have HBq := hide_ (below_to HBf.out (below_drewN HBj.out nq))
                  go_wp2
                  go_ret
                  exact ⟨by rw [HV.out]; rfl, HBq.out⟩
                · have hb : (z.tag == p.tag) = false := by simpa using ht
                  have HJ2 := hide_ (HJn.out (by simp [likeP, ht]))
                  clear he ht
                  go_wp2_with fail
                  go_quiet (fail)
                  have HBq := hide_ (below_drewN HBj.out nq)
                  go_wp2_with fail
                  go_roundw
                  case rel => exact ⟨j + 1, by omega, by go_num, HJ2, HBq⟩
                  case measure => simp [intOf]; omega
              · have hs : (z.label.toList == p.label.toList) = false := by rw [str_eq]; exact decide_eq_false he
                have HJ2 := hide_ (HJn.out (by simp [likeP, he]))
                clear he
                go_wp2_with fail
                go_quiet (fail)
                have HBq := hide_ (below_drewN HBj.out nq)
                go_wp2_with fail
                go_roundw
                case rel => exact ⟨j + 1, by omega, by go_num, HJ2, HBq⟩
                case measure => simp [intOf]; omega
            · obtain rfl : j = m := by omega
              have HA2 : Hid (∀ q, q < j + 1 → okP fieldOk ps i q = true) := hide_ (fun q hq => by
                rcases Nat.lt_or_ge q j with h | h
                · exact HA.out q h
                · obtain rfl : q = j := by omega
                  rw [HOK.out, thereP_none HJ.out]; rfl)
              have HBn := hide_ (below_to HBx.out HBj.out)
              go_wp2_with fail
              go_roundw
              case rel => exact ⟨j + 1, by omega, by go_num, HA2, HBn⟩
              case measure => simp [intOf]; omega
        · have hb0 : (p.tag != 0) = true := by simpa using htg
          have HV : Hid (allP fieldOk ps i = false) := hide_ (allP_not hlt (by rw [HOK.out, ← HB1.out]; simp [fieldOk, htg]))
          go_wp2_with (go_at_call 26; refine (HNm.out _).mono ?_; rintro e w' ⟨rfl, rfl⟩)
          go_ret
          exact ⟨by rw [HV.out]; rfl, HBf.out⟩
      · obtain rfl : m = ps.length := by omega
        have HV : Hid (allP fieldOk ps i = true) := hide_ (allP_of hl.1 hl.2 HA.out)
        go_wp2
        go_ret
        exact ⟨by rw [HV.out]; rfl, below_to HB0.out HB.out⟩
  · have HV : Hid (allP fieldOk ps i = false) := hide_ (allP_len hl)
    rw [decide_eq_false hl] at HIl
    go_wp2_with (go_at_call 27; refine (HIl.out _).mono ?_; rintro e w' ⟨rfl, rfl⟩)
    go_ret
    exact ⟨by rw [HV.out]; rfl, HB0.out⟩
end Go.Proofs.Ytdpkmkhflgmioaa

/- The document's Check of a schema: right. -/
namespace Go.Proofs.Ytdpkmkhflgmioaa
open Go.RowKit
set_option linter.unusedVariables false

set_option maxRecDepth 100000 in
set_option maxHeartbeats 8000000 in
theorem right1_any (n el : Int) (ps : List Pt) (va : Option Addr) (vc : Nat) (i : Nat) (w : World) (hil : i ≤ 9223372036854775806) (hr : Hid (PRow w va ps)) :
    Calls Try.prog 24 #[.agg #[.int .i64 1, .int .i64 n, .int .i64 el, .slice va ps.length vc], .int .i64 (i : Int)] w fun e w' => e = .returned (.bool (tyOk ⟨1, n, el, ps⟩ i)) ∧ Below w.heap.size w w' := by
  have hB := below1 w (.cells #[.int .i64 1, .int .i64 n, .int .i64 el, .slice va ps.length vc] 62)
  have kx := Blk.newA w #[.int .i64 1, .int .i64 n, .int .i64 el, .slice va ps.length vc] 62
  obtain ⟨w0, hw0⟩ : ∃ wx, wx = w.alloc (.cells #[.int .i64 1, .int .i64 n, .int .i64 el, .slice va ps.length vc] 62) := ⟨_, rfl⟩
  rw [← hw0] at hB kx
  have HB := hide_ hB
  have HR := hide_ (hr.out.later hB)
  have i0 := kx.cell 0; have i1 := kx.cell 1; have i2 := kx.cell 2; have i3 := kx.cell 3
  simp at i0 i1 i2 i3
  have hwi : wrap64 ((i : Int) - 1) = (i : Int) - 1 := w64 _ (by omega)
  have HL : Hid (((ps.length : Int) == 0) = decide (ps.length = 0)) := hide_ (by
    by_cases h : ps.length = 0
    · simp [h]
    · have h2 : ((ps.length : Int) == 0) = false := by
        have h : ¬ (ps.length : Int) = 0 := by omega
        simpa using h
      rw [h2, decide_eq_false h])
  clear hB kx hr
  go_enter Try.func24, Try.ntmps24
  go_upto_region 1 with fail
  rw [← hw0]
  clear hw0
  by_cases n1 : n = 1
  · subst n1
    by_cases he : el = 0
    · subst he
      have HV : Hid (tyOk ⟨1, 1, 0, ps⟩ i = decide (ps.length = 0)) := hide_ (by simp [tyOk, nOk, elemOk, hasE, partsOk])
      go_wp2
      go_ret
      exact ⟨by rw [HV.out, ← HL.out]; rfl, HB.out⟩
    · have he' : (el == 0) = false := by simpa using he
      have HV : Hid (tyOk ⟨1, 1, el, ps⟩ i = false) := hide_ (by simp [tyOk, nOk, elemOk, hasE, partsOk, he])
      go_wp2
      go_ret
      exact ⟨by rw [HV.out]; rfl, HB.out⟩
  have d1 : (n == 1) = false := by simpa using n1
  by_cases n2 : n = 2
  · subst n2
    by_cases he : el = 0
    · subst he
      have HV : Hid (tyOk ⟨1, 2, 0, ps⟩ i = decide (ps.length = 0)) := hide_ (by simp [tyOk, nOk, elemOk, hasE, partsOk])
      go_wp2
      go_ret
      exact ⟨by rw [HV.out, ← HL.out]; rfl, HB.out⟩
    · have he' : (el == 0) = false := by simpa using he
      have HV : Hid (tyOk ⟨1, 2, el, ps⟩ i = false) := hide_ (by simp [tyOk, nOk, elemOk, hasE, partsOk, he])
      go_wp2
      go_ret
      exact ⟨by rw [HV.out]; rfl, HB.out⟩
  have d2 : (n == 2) = false := by simpa using n2
  by_cases n4 : n = 4
  · subst n4
    by_cases he : el = 0
    · subst he
      have HV : Hid (tyOk ⟨1, 4, 0, ps⟩ i = decide (ps.length = 0)) := hide_ (by simp [tyOk, nOk, elemOk, hasE, partsOk])
      go_wp2
      go_ret
      exact ⟨by rw [HV.out, ← HL.out]; rfl, HB.out⟩
    · have he' : (el == 0) = false := by simpa using he
      have HV : Hid (tyOk ⟨1, 4, el, ps⟩ i = false) := hide_ (by simp [tyOk, nOk, elemOk, hasE, partsOk, he])
      go_wp2
      go_ret
      exact ⟨by rw [HV.out]; rfl, HB.out⟩
  have d4 : (n == 4) = false := by simpa using n4
  by_cases n8 : n = 8
  · subst n8
    by_cases he : el = 0
    · subst he
      have HV : Hid (tyOk ⟨1, 8, 0, ps⟩ i = decide (ps.length = 0)) := hide_ (by simp [tyOk, nOk, elemOk, hasE, partsOk])
      go_wp2
      go_ret
      exact ⟨by rw [HV.out, ← HL.out]; rfl, HB.out⟩
    · have he' : (el == 0) = false := by simpa using he
      have HV : Hid (tyOk ⟨1, 8, el, ps⟩ i = false) := hide_ (by simp [tyOk, nOk, elemOk, hasE, partsOk, he])
      go_wp2
      go_ret
      exact ⟨by rw [HV.out]; rfl, HB.out⟩
  have d8 : (n == 8) = false := by simpa using n8
  have HV : Hid (tyOk ⟨1, n, el, ps⟩ i = false) := hide_ (by simp [tyOk, nOk, elemOk, hasE, partsOk, n1, n2, n4, n8])
  go_wp2
  go_ret
  exact ⟨by rw [HV.out]; rfl, HB.out⟩
end Go.Proofs.Ytdpkmkhflgmioaa

/- The document's Check of a schema: right. -/
namespace Go.Proofs.Ytdpkmkhflgmioaa
open Go.RowKit
set_option linter.unusedVariables false

set_option maxRecDepth 100000 in
set_option maxHeartbeats 8000000 in
theorem right2_any (n el : Int) (ps : List Pt) (va : Option Addr) (vc : Nat) (i : Nat) (w : World) (hil : i ≤ 9223372036854775806) (hr : Hid (PRow w va ps)) :
    Calls Try.prog 24 #[.agg #[.int .i64 2, .int .i64 n, .int .i64 el, .slice va ps.length vc], .int .i64 (i : Int)] w fun e w' => e = .returned (.bool (tyOk ⟨2, n, el, ps⟩ i)) ∧ Below w.heap.size w w' := by
  have hB := below1 w (.cells #[.int .i64 2, .int .i64 n, .int .i64 el, .slice va ps.length vc] 62)
  have kx := Blk.newA w #[.int .i64 2, .int .i64 n, .int .i64 el, .slice va ps.length vc] 62
  obtain ⟨w0, hw0⟩ : ∃ wx, wx = w.alloc (.cells #[.int .i64 2, .int .i64 n, .int .i64 el, .slice va ps.length vc] 62) := ⟨_, rfl⟩
  rw [← hw0] at hB kx
  have HB := hide_ hB
  have HR := hide_ (hr.out.later hB)
  have i0 := kx.cell 0; have i1 := kx.cell 1; have i2 := kx.cell 2; have i3 := kx.cell 3
  simp at i0 i1 i2 i3
  have hwi : wrap64 ((i : Int) - 1) = (i : Int) - 1 := w64 _ (by omega)
  have HL : Hid (((ps.length : Int) == 0) = decide (ps.length = 0)) := hide_ (by
    by_cases h : ps.length = 0
    · simp [h]
    · have h2 : ((ps.length : Int) == 0) = false := by
        have h : ¬ (ps.length : Int) = 0 := by omega
        simpa using h
      rw [h2, decide_eq_false h])
  clear hB kx hr
  go_enter Try.func24, Try.ntmps24
  go_upto_region 1 with fail
  rw [← hw0]
  clear hw0
  by_cases hn : n = 0
  · subst hn
    by_cases he : el = 0
    · subst he
      have HV : Hid (tyOk ⟨2, 0, 0, ps⟩ i = decide (ps.length = 0)) := hide_ (by simp [tyOk, nOk, elemOk, hasE, partsOk])
      go_wp2
      go_ret
      exact ⟨by rw [HV.out, ← HL.out]; rfl, HB.out⟩
    · have he' : (el == 0) = false := by simpa using he
      have HV : Hid (tyOk ⟨2, 0, el, ps⟩ i = false) := hide_ (by simp [tyOk, nOk, elemOk, hasE, partsOk, he])
      go_wp2
      go_ret
      exact ⟨by rw [HV.out]; rfl, HB.out⟩
  · have hn' : (n == 0) = false := by simpa using hn
    have HV : Hid (tyOk ⟨2, n, el, ps⟩ i = false) := hide_ (by simp [tyOk, nOk, elemOk, hasE, partsOk, hn])
    go_wp2
    go_ret
    exact ⟨by rw [HV.out]; rfl, HB.out⟩
set_option maxRecDepth 100000 in
set_option maxHeartbeats 8000000 in
theorem right3_any (n el : Int) (ps : List Pt) (va : Option Addr) (vc : Nat) (i : Nat) (w : World) (hil : i ≤ 9223372036854775806) (hr : Hid (PRow w va ps)) :
    Calls Try.prog 24 #[.agg #[.int .i64 3, .int .i64 n, .int .i64 el, .slice va ps.length vc], .int .i64 (i : Int)] w fun e w' => e = .returned (.bool (tyOk ⟨3, n, el, ps⟩ i)) ∧ Below w.heap.size w w' := by
  have hB := below1 w (.cells #[.int .i64 3, .int .i64 n, .int .i64 el, .slice va ps.length vc] 62)
  have kx := Blk.newA w #[.int .i64 3, .int .i64 n, .int .i64 el, .slice va ps.length vc] 62
  obtain ⟨w0, hw0⟩ : ∃ wx, wx = w.alloc (.cells #[.int .i64 3, .int .i64 n, .int .i64 el, .slice va ps.length vc] 62) := ⟨_, rfl⟩
  rw [← hw0] at hB kx
  have HB := hide_ hB
  have HR := hide_ (hr.out.later hB)
  have i0 := kx.cell 0; have i1 := kx.cell 1; have i2 := kx.cell 2; have i3 := kx.cell 3
  simp at i0 i1 i2 i3
  have hwi : wrap64 ((i : Int) - 1) = (i : Int) - 1 := w64 _ (by omega)
  have HL : Hid (((ps.length : Int) == 0) = decide (ps.length = 0)) := hide_ (by
    by_cases h : ps.length = 0
    · simp [h]
    · have h2 : ((ps.length : Int) == 0) = false := by
        have h : ¬ (ps.length : Int) = 0 := by omega
        simpa using h
      rw [h2, decide_eq_false h])
  clear hB kx hr
  go_enter Try.func24, Try.ntmps24
  go_upto_region 1 with fail
  rw [← hw0]
  clear hw0
  by_cases hn : n = 0
  · subst hn
    by_cases he : el = 0
    · subst he
      have HV : Hid (tyOk ⟨3, 0, 0, ps⟩ i = decide (ps.length = 0)) := hide_ (by simp [tyOk, nOk, elemOk, hasE, partsOk])
      go_wp2
      go_ret
      exact ⟨by rw [HV.out, ← HL.out]; rfl, HB.out⟩
    · have he' : (el == 0) = false := by simpa using he
      have HV : Hid (tyOk ⟨3, 0, el, ps⟩ i = false) := hide_ (by simp [tyOk, nOk, elemOk, hasE, partsOk, he])
      go_wp2
      go_ret
      exact ⟨by rw [HV.out]; rfl, HB.out⟩
  · have hn' : (n == 0) = false := by simpa using hn
    have HV : Hid (tyOk ⟨3, n, el, ps⟩ i = false) := hide_ (by simp [tyOk, nOk, elemOk, hasE, partsOk, hn])
    go_wp2
    go_ret
    exact ⟨by rw [HV.out]; rfl, HB.out⟩
end Go.Proofs.Ytdpkmkhflgmioaa

/- The document's Check of a schema: right. -/
namespace Go.Proofs.Ytdpkmkhflgmioaa
open Go.RowKit
set_option linter.unusedVariables false

set_option maxRecDepth 100000 in
set_option maxHeartbeats 8000000 in
theorem right4_any (n el : Int) (ps : List Pt) (va : Option Addr) (vc : Nat) (i : Nat) (w : World) (hil : i ≤ 9223372036854775806) (hr : Hid (PRow w va ps)) :
    Calls Try.prog 24 #[.agg #[.int .i64 4, .int .i64 n, .int .i64 el, .slice va ps.length vc], .int .i64 (i : Int)] w fun e w' => e = .returned (.bool (tyOk ⟨4, n, el, ps⟩ i)) ∧ Below w.heap.size w w' := by
  have hB := below1 w (.cells #[.int .i64 4, .int .i64 n, .int .i64 el, .slice va ps.length vc] 62)
  have kx := Blk.newA w #[.int .i64 4, .int .i64 n, .int .i64 el, .slice va ps.length vc] 62
  obtain ⟨w0, hw0⟩ : ∃ wx, wx = w.alloc (.cells #[.int .i64 4, .int .i64 n, .int .i64 el, .slice va ps.length vc] 62) := ⟨_, rfl⟩
  rw [← hw0] at hB kx
  have HB := hide_ hB
  have HR := hide_ (hr.out.later hB)
  have i0 := kx.cell 0; have i1 := kx.cell 1; have i2 := kx.cell 2; have i3 := kx.cell 3
  simp at i0 i1 i2 i3
  have hwi : wrap64 ((i : Int) - 1) = (i : Int) - 1 := w64 _ (by omega)
  have HL : Hid (((ps.length : Int) == 0) = decide (ps.length = 0)) := hide_ (by
    by_cases h : ps.length = 0
    · simp [h]
    · have h2 : ((ps.length : Int) == 0) = false := by
        have h : ¬ (ps.length : Int) = 0 := by omega
        simpa using h
      rw [h2, decide_eq_false h])
  clear hB kx hr
  go_enter Try.func24, Try.ntmps24
  go_upto_region 1 with fail
  rw [← hw0]
  clear hw0
  obtain ⟨bn, hbn⟩ : ∃ x, inR n 1 1048576 = x := ⟨_, rfl⟩
  obtain ⟨be, hbe⟩ : ∃ x, inB el i = x := ⟨_, rfl⟩
  have HN : Hid (∀ w, Calls Try.prog 27 #[.int .i64 n, .int .i64 1, .int .i64 1048576] w fun e w' => e = .returned (.bool bn) ∧ w = w') := hide_ (fun w => by have h := inR_any n 1 1048576 w; rwa [hbn] at h)
  have HE : Hid (∀ w, Calls Try.prog 27 #[.int .i64 el, .int .i64 0, .int .i64 ((i : Int) - 1)] w fun e w' => e = .returned (.bool be) ∧ w = w') := hide_ (fun w => by have h := inR_any el 0 ((i : Int) - 1) w; rwa [inR_at, hbe] at h)
  have HBE := hide_ hbe
  have HBN : Hid ((decide (1 ≤ n) && decide (n ≤ 1048576)) = bn) := hide_ hbn
  clear hbn hbe
  have HT : Hid (tyOk ⟨4, n, el, ps⟩ i = (bn && be && decide (ps.length = 0))) := hide_ (by rw [← HBN.out, ← HBE.out]; simp [tyOk, nOk, elemOk, hasE, partsOk, Bool.decide_and])
  go_wp2_with fail
  refine (HN.out _).mono ?_; rintro e w' ⟨rfl, rfl⟩
  cases bn with
  | false =>
    go_wp2
    go_ret
    exact ⟨by rw [HT.out]; rfl, HB.out⟩
  | true =>
  go_wp2_with fail
  refine (HE.out _).mono ?_; rintro e w' ⟨rfl, rfl⟩
  cases be with
  | false =>
    go_wp2
    go_ret
    exact ⟨by rw [HT.out]; rfl, HB.out⟩
  | true =>
    go_wp2
    go_ret
    exact ⟨by rw [HT.out, ← HL.out]; rfl, HB.out⟩
set_option maxRecDepth 100000 in
set_option maxHeartbeats 8000000 in
theorem right5_any (n el : Int) (ps : List Pt) (va : Option Addr) (vc : Nat) (i : Nat) (w : World) (hil : i ≤ 9223372036854775806) (hr : Hid (PRow w va ps)) :
    Calls Try.prog 24 #[.agg #[.int .i64 5, .int .i64 n, .int .i64 el, .slice va ps.length vc], .int .i64 (i : Int)] w fun e w' => e = .returned (.bool (tyOk ⟨5, n, el, ps⟩ i)) ∧ Below w.heap.size w w' := by
  have hB := below1 w (.cells #[.int .i64 5, .int .i64 n, .int .i64 el, .slice va ps.length vc] 62)
  have kx := Blk.newA w #[.int .i64 5, .int .i64 n, .int .i64 el, .slice va ps.length vc] 62
  obtain ⟨w0, hw0⟩ : ∃ wx, wx = w.alloc (.cells #[.int .i64 5, .int .i64 n, .int .i64 el, .slice va ps.length vc] 62) := ⟨_, rfl⟩
  rw [← hw0] at hB kx
  have HB := hide_ hB
  have HR := hide_ (hr.out.later hB)
  have i0 := kx.cell 0; have i1 := kx.cell 1; have i2 := kx.cell 2; have i3 := kx.cell 3
  simp at i0 i1 i2 i3
  have hwi : wrap64 ((i : Int) - 1) = (i : Int) - 1 := w64 _ (by omega)
  have HL : Hid (((ps.length : Int) == 0) = decide (ps.length = 0)) := hide_ (by
    by_cases h : ps.length = 0
    · simp [h]
    · have h2 : ((ps.length : Int) == 0) = false := by
        have h : ¬ (ps.length : Int) = 0 := by omega
        simpa using h
      rw [h2, decide_eq_false h])
  clear hB kx hr
  go_enter Try.func24, Try.ntmps24
  go_upto_region 1 with fail
  rw [← hw0]
  clear hw0
  obtain ⟨bn, hbn⟩ : ∃ x, inR n 1 1048576 = x := ⟨_, rfl⟩
  obtain ⟨be, hbe⟩ : ∃ x, inB el i = x := ⟨_, rfl⟩
  have HN : Hid (∀ w, Calls Try.prog 27 #[.int .i64 n, .int .i64 1, .int .i64 1048576] w fun e w' => e = .returned (.bool bn) ∧ w = w') := hide_ (fun w => by have h := inR_any n 1 1048576 w; rwa [hbn] at h)
  have HE : Hid (∀ w, Calls Try.prog 27 #[.int .i64 el, .int .i64 0, .int .i64 ((i : Int) - 1)] w fun e w' => e = .returned (.bool be) ∧ w = w') := hide_ (fun w => by have h := inR_any el 0 ((i : Int) - 1) w; rwa [inR_at, hbe] at h)
  have HBE := hide_ hbe
  have HBN : Hid ((decide (1 ≤ n) && decide (n ≤ 1048576)) = bn) := hide_ hbn
  clear hbn hbe
  have HT : Hid (tyOk ⟨5, n, el, ps⟩ i = (bn && be && decide (ps.length = 0))) := hide_ (by rw [← HBN.out, ← HBE.out]; simp [tyOk, nOk, elemOk, hasE, partsOk, Bool.decide_and])
  go_wp2_with fail
  refine (HN.out _).mono ?_; rintro e w' ⟨rfl, rfl⟩
  cases bn with
  | false =>
    go_wp2
    go_ret
    exact ⟨by rw [HT.out]; rfl, HB.out⟩
  | true =>
  go_wp2_with fail
  refine (HE.out _).mono ?_; rintro e w' ⟨rfl, rfl⟩
  cases be with
  | false =>
    go_wp2
    go_ret
    exact ⟨by rw [HT.out]; rfl, HB.out⟩
  | true =>
    go_wp2
    go_ret
    exact ⟨by rw [HT.out, ← HL.out]; rfl, HB.out⟩
set_option maxRecDepth 100000 in
set_option maxHeartbeats 8000000 in
theorem right6_any (n el : Int) (ps : List Pt) (va : Option Addr) (vc : Nat) (i : Nat) (w : World) (hil : i ≤ 9223372036854775806) (hr : Hid (PRow w va ps)) :
    Calls Try.prog 24 #[.agg #[.int .i64 6, .int .i64 n, .int .i64 el, .slice va ps.length vc], .int .i64 (i : Int)] w fun e w' => e = .returned (.bool (tyOk ⟨6, n, el, ps⟩ i)) ∧ Below w.heap.size w w' := by
  have hB := below1 w (.cells #[.int .i64 6, .int .i64 n, .int .i64 el, .slice va ps.length vc] 62)
  have kx := Blk.newA w #[.int .i64 6, .int .i64 n, .int .i64 el, .slice va ps.length vc] 62
  obtain ⟨w0, hw0⟩ : ∃ wx, wx = w.alloc (.cells #[.int .i64 6, .int .i64 n, .int .i64 el, .slice va ps.length vc] 62) := ⟨_, rfl⟩
  rw [← hw0] at hB kx
  have HB := hide_ hB
  have HR := hide_ (hr.out.later hB)
  have i0 := kx.cell 0; have i1 := kx.cell 1; have i2 := kx.cell 2; have i3 := kx.cell 3
  simp at i0 i1 i2 i3
  have hwi : wrap64 ((i : Int) - 1) = (i : Int) - 1 := w64 _ (by omega)
  have HL : Hid (((ps.length : Int) == 0) = decide (ps.length = 0)) := hide_ (by
    by_cases h : ps.length = 0
    · simp [h]
    · have h2 : ((ps.length : Int) == 0) = false := by
        have h : ¬ (ps.length : Int) = 0 := by omega
        simpa using h
      rw [h2, decide_eq_false h])
  clear hB kx hr
  go_enter Try.func24, Try.ntmps24
  go_upto_region 1 with fail
  rw [← hw0]
  clear hw0
  obtain ⟨bn, hbn⟩ : ∃ x, inR n 1 1048576 = x := ⟨_, rfl⟩
  obtain ⟨be, hbe⟩ : ∃ x, inB el i = x := ⟨_, rfl⟩
  have HN : Hid (∀ w, Calls Try.prog 27 #[.int .i64 n, .int .i64 1, .int .i64 1048576] w fun e w' => e = .returned (.bool bn) ∧ w = w') := hide_ (fun w => by have h := inR_any n 1 1048576 w; rwa [hbn] at h)
  have HE : Hid (∀ w, Calls Try.prog 27 #[.int .i64 el, .int .i64 0, .int .i64 ((i : Int) - 1)] w fun e w' => e = .returned (.bool be) ∧ w = w') := hide_ (fun w => by have h := inR_any el 0 ((i : Int) - 1) w; rwa [inR_at, hbe] at h)
  have HBE := hide_ hbe
  have HBN : Hid ((decide (1 ≤ n) && decide (n ≤ 1048576)) = bn) := hide_ hbn
  clear hbn hbe
  have HT : Hid (tyOk ⟨6, n, el, ps⟩ i = (decide (n = 0) && be && decide (ps.length = 0))) := hide_ (by rw [← HBE.out]; simp [tyOk, nOk, elemOk, hasE, partsOk])
  by_cases hn : n = 0
  · subst hn
    go_wp2_with fail
    refine (HE.out _).mono ?_; rintro e w' ⟨rfl, rfl⟩
    cases be with
    | false =>
      go_wp2
      go_ret
      exact ⟨by rw [HT.out]; rfl, HB.out⟩
    | true =>
      go_wp2
      go_ret
      exact ⟨by rw [HT.out, ← HL.out]; rfl, HB.out⟩
  · have hn' : (n == 0) = false := by simpa using hn
    rw [decide_eq_false hn] at HT
    go_wp2
    go_ret
    exact ⟨by rw [HT.out]; rfl, HB.out⟩
end Go.Proofs.Ytdpkmkhflgmioaa

/- The document's Check of a schema (mortiseref09): parts of a union. -/
namespace Go.Proofs.Ytdpkmkhflgmioaa
open Go.RowKit
set_option linter.unusedVariables false

set_option maxRecDepth 100000 in
set_option maxHeartbeats 8000000 in
theorem partsR7_any (n el : Int) (ps : List Pt) (va : Option Addr) (vc : Nat) (i : Nat) (w : World) (hil : i ≤ 9223372036854775806) (hr : Hid (PRow w va ps)) :
    Calls Try.prog 48 #[.agg #[.int .i64 7, .int .i64 n, .int .i64 el, .slice va ps.length vc], .int .i64 (i : Int)] w fun e w' => e = .returned (.bool (allP armOk ps i)) ∧ Below w.heap.size w w' := by
  have hB := below1 w (.cells #[.int .i64 7, .int .i64 n, .int .i64 el, .slice va ps.length vc] 62)
  have kx := Blk.newA w #[.int .i64 7, .int .i64 n, .int .i64 el, .slice va ps.length vc] 62
  obtain ⟨w0, hw0⟩ : ∃ wx, wx = w.alloc (.cells #[.int .i64 7, .int .i64 n, .int .i64 el, .slice va ps.length vc] 62) := ⟨_, rfl⟩
  rw [← hw0] at hB kx
  have HB0 := hide_ hB
  have KX := hide_ kx
  have HR0 := hide_ (hr.out.later hB)
  have hwi : wrap64 ((i : Int) - 1) = (i : Int) - 1 := w64 _ (by omega)
  have i0 := kx.cell 0; have i3 := kx.cell 3
  simp at i0 i3
  clear hB kx hr
  have HIl : Hid (∀ w, Calls Try.prog 27 #[.int .i64 (ps.length : Int), .int .i64 1, .int .i64 64] w fun e w' => e = .returned (.bool (decide (0 < ps.length ∧ ps.length ≤ 64))) ∧ w = w') := hide_ (fun w => by
    have h := inR_any (ps.length : Int) 1 64 w
    rw [show inR (ps.length : Int) 1 64 = decide (0 < ps.length ∧ ps.length ≤ 64) by unfold inR; rw [← Bool.decide_and]; exact decide_eq_decide.2 (by omega)] at h
    exact h)
  go_enter Try.func48, Try.ntmps48
  go_upto_region 1 with fail
  rw [← hw0]
  clear hw0
  by_cases hl : 0 < ps.length ∧ ps.length ≤ 64
  · rw [decide_eq_true hl] at HIl
    go_wp2_with (go_at_call 27; refine (HIl.out _).mono ?_; rintro e w' ⟨rfl, rfl⟩)
    go_loopw [6] (fun x6 wr => ∃ m : Nat, m ≤ ps.length ∧ x6 = .int .i64 (m : Int) ∧ Hid (∀ j, j < m → okP armOk ps i j = true) ∧ Hid (Below w0.heap.size w0 wr)) (fun x6 _ => ps.length - (intOf x6).toNat)
    case atStart => exact ⟨0, Nat.zero_le _, rfl, hide_ (fun j hj => by omega), hide_ (Below.refl _ _)⟩
    case round =>
      obtain ⟨m, hm, rfl, HA, HB⟩ := hrel
      generalize wr = wq at *
      clear i0 i3
      have KXq := hide_ (KX.out.later HB.out)
      have i0 := KXq.out.cell 0; have i3 := KXq.out.cell 3
      simp at i0 i3
      by_cases hlt : m < ps.length
      · have hlt' : (m : Int) < ps.length := by omega
        have HRq := hide_ (HR0.out.later HB.out)
        obtain ⟨b, off, rfl, hb, hc⟩ := HRq.out.open (by omega)
        have hx : ps[m]? = some (ps[m]'hlt) := List.getElem?_eq_getElem hlt
        have hcx := hc m _ hx
        have HX := hide_ hx
        generalize ps[m]'hlt = p at *
        have j0 := hcx 0 (by decide); have j1 := hcx 1 (by decide); have j2 := hcx 2 (by decide)
        simp [ptc] at j0 j1 j2
        have HOK := hide_ (okP_at (r := armOk) (m := (i : Int)) HX.out)
        have kp := Blk.newA wq #[.string p.label, .int .i64 p.tag, .int .i64 p.ty] 64
        have hBx := below1 wq (.cells #[.string p.label, .int .i64 p.tag, .int .i64 p.ty] 64)
        obtain ⟨wx, hwx⟩ : ∃ wx, wx = wq.alloc (.cells #[.string p.label, .int .i64 p.tag, .int .i64 p.ty] 64) := ⟨_, rfl⟩
        rw [← hwx] at kp hBx
        have HBx := hide_ (below_to HB.out hBx)
        have HBf := hide_ (below_to HB0.out HBx.out)
        have KP := hide_ kp
        have KXx := hide_ (KXq.out.later hBx)
        have HRx := hide_ (HRq.out.later hBx)
        clear kp hBx hc hx hcx hb HRq
        go_upto_region 10 with fail
        rw [← hwx]
        clear hwx i0 i3 j0 j1 j2
        have i0 := KXx.out.cell 0; have i3 := KXx.out.cell 3
        have j0 := KP.out.cell 0; have j1 := KP.out.cell 1; have j2 := KP.out.cell 2
        simp at i0 i3 j0 j1 j2
        obtain ⟨b3, hb3⟩ : ∃ x, inB p.ty i = x := ⟨_, rfl⟩
        obtain ⟨b1, hb1⟩ : ∃ x, armOk p = x := ⟨_, rfl⟩
        rw [hb3, hb1] at HOK
        have HI3 : Hid (∀ w, Calls Try.prog 27 #[.int .i64 p.ty, .int .i64 0, .int .i64 ((i : Int) - 1)] w fun e w' => e = .returned (.bool b3) ∧ w = w') := hide_ (fun w => by
          have h := inR_any p.ty 0 ((i : Int) - 1) w
          rwa [inR_at, hb3] at h)
        have HB1 := hide_ hb1
        clear hb1 hb3
        cases b3 with
        | false =>
          have HV : Hid (allP armOk ps i = false) := hide_ (allP_not hlt (by rw [HOK.out]; simp))
          go_wp2_with (go_at_call 27; refine (HI3.out _).mono ?_; rintro e w' ⟨rfl, rfl⟩)
          go_ret
          exact ⟨by rw [HV.out]; rfl, HBf.out⟩
        | true =>
        go_upto_region 12 with (go_at_call 27; refine (HI3.out _).mono ?_; rintro e w' ⟨rfl, rfl⟩)
        clear HI3
        obtain ⟨tg, htg⟩ : ∃ x, inR p.tag 0 255 = x := ⟨_, rfl⟩
        have HI5 : Hid (∀ w, Calls Try.prog 27 #[.int .i64 p.tag, .int .i64 0, .int .i64 255] w fun e w' => e = .returned (.bool tg) ∧ w = w') := hide_ (fun w => by have h := inR_any p.tag 0 255 w; rwa [htg] at h)
        have HTG : Hid ((decide (0 ≤ p.tag) && decide (p.tag ≤ 255)) = tg) := hide_ htg
        clear htg
        by_cases hlb : p.label = ⟨#[]⟩
        · have hlb0 : (p.label.toList == []) = true := by rw [hlb]; simp
          have hlb1 : p.label.toList.isEmpty = true := by rw [hlb]; simp
          cases tg with
          | false =>
            have HV : Hid (allP armOk ps i = false) := hide_ (allP_not hlt (by rw [HOK.out, ← HB1.out, armOk_eq, HTG.out]; simp))
            go_wp2_with (go_at_call 27; refine (HI5.out _).mono ?_; rintro e w' ⟨rfl, rfl⟩)
            go_ret
            exact ⟨by rw [HV.out]; rfl, HBf.out⟩
          | true =>
          obtain rfl : true = b1 := by rw [← HB1.out, armOk_eq, HTG.out]; simp [hlb]
          go_wp2_with (go_at_call 27; refine (HI5.out _).mono ?_; rintro e w' ⟨rfl, rfl⟩)
          clear i0 j2 hlb hlb0 hlb1
          go_loopw [8] (fun x8 wr => ∃ j : Nat, j ≤ m ∧ x8 = .int .i64 (j : Int) ∧ Hid (∀ (q : Nat) (z : Pt), q < j → ps[q]? = some z → likeP z p = false) ∧ Hid (Below wx.heap.size wx wr)) (fun x8 _ => m - (intOf x8).toNat)
          case atStart => exact ⟨0, Nat.zero_le _, rfl, hide_ (fun q z hq => by omega), hide_ (Below.refl _ _)⟩
          case round =>
            obtain ⟨j, hj, rfl, HJ, HBj⟩ := hrel
            generalize wr = wp at *
            clear i3 j0 j1
            have i3 := (KXx.out.later HBj.out).cell 3
            have kq := KP.out.later HBj.out
            have j0 := kq.cell 0; have j1 := kq.cell 1
            simp at i3 j0 j1
            clear kq
            by_cases hjm : j < m
            · have hjm' : (j : Int) < m := by omega
              have hjl : j < ps.length := by omega
              have hjl' : (j : Int) < ps.length := by omega
              obtain ⟨b', off', hax, -, hc⟩ := (HRx.out.later HBj.out).open (by omega)
              injection hax with hax
              injection hax with e1 e2 _
              subst e1 e2
              have hx : ps[j]? = some (ps[j]'hjl) := List.getElem?_eq_getElem hjl
              have hcx := hc j _ hx
              have HXj := hide_ hx
              generalize ps[j]'hjl = z at *
              have z0 := hcx 0 (by decide); have z1 := hcx 1 (by decide)
              simp [ptc] at z0 z1
              clear hc hx hcx
              have HJn : Hid (likeP z p = false → ∀ (q : Nat) (y : Pt), q < j + 1 → ps[q]? = some y → likeP y p = false) := hide_ (fun hl q y hq hy => by
                rcases Nat.lt_or_ge q j with h | h
                · exact HJ.out q y h hy
                · obtain rfl : q = j := by omega
                  rw [HXj.out] at hy
                  injection hy with hy
                  subst hy
                  exact hl)
              by_cases he : z.label = p.label
              · have hs : (z.label.toList == p.label.toList) = true := by rw [he]; simp
                by_cases ht : z.tag = p.tag
                · have hb : (z.tag == p.tag) = true := by simp [ht]
                  have HV : Hid (allP armOk ps i = false) := hide_ (allP_not hlt (by rw [HOK.out, thereP_take HXj.out hjm (by simp [likeP, he, ht])]; simp))
                  clear he ht
                  go_wp2_with fail
                  go_quiet (fail)
                  have HBq := hide_ (below_to HBf.out (below_drewN HBj.out nq))
                  go_wp2
                  go_ret
                  exact ⟨by rw [HV.out]; rfl, HBq.out⟩
                · have hb : (z.tag == p.tag) = false := by simpa using ht
                  have HJ2 := hide_ (HJn.out (by simp [likeP, ht]))
                  clear he ht
                  go_wp2_with fail
                  go_quiet (fail)
                  have HBq := hide_ (below_drewN HBj.out nq)
                  go_wp2_with fail
                  go_roundw
                  case rel => exact ⟨j + 1, by omega, by go_num, HJ2, HBq⟩
                  case measure => simp [intOf]; omega
              · have hs : (z.label.toList == p.label.toList) = false := by rw [str_eq]; exact decide_eq_false he
                have HJ2 := hide_ (HJn.out (by simp [likeP, he]))
                clear he
                go_wp2_with fail
                go_quiet (fail)
                have HBq := hide_ (below_drewN HBj.out nq)
                go_wp2_with fail
                go_roundw
                case rel => exact ⟨j + 1, by omega, by go_num, HJ2, HBq⟩
                case measure => simp [intOf]; omega
            · obtain rfl : j = m := by omega
              have HA2 : Hid (∀ q, q < j + 1 → okP armOk ps i q = true) := hide_ (fun q hq => by
                rcases Nat.lt_or_ge q j with h | h
                · exact HA.out q h
                · obtain rfl : q = j := by omega
                  rw [HOK.out, thereP_none HJ.out]; rfl)
              have HBn := hide_ (below_to HBx.out HBj.out)
              go_wp2_with fail
              go_roundw
              case rel => exact ⟨j + 1, by omega, by go_num, HA2, HBn⟩
              case measure => simp [intOf]; omega
        · have hlb0 := str_ne p.label [] hlb
          have hlb1 : p.label.toList.isEmpty = false := by
            cases h : p.label.toList with
            | nil => rw [h] at hlb0; simp at hlb0
            | cons a l => rfl
          have HV : Hid (allP armOk ps i = false) := hide_ (allP_not hlt (by rw [HOK.out, ← HB1.out, armOk_eq]; simp [hlb]))
          go_wp2
          go_ret
          exact ⟨by rw [HV.out]; rfl, HBf.out⟩
      · obtain rfl : m = ps.length := by omega
        have HV : Hid (allP armOk ps i = true) := hide_ (allP_of hl.1 hl.2 HA.out)
        go_wp2
        go_ret
        exact ⟨by rw [HV.out]; rfl, below_to HB0.out HB.out⟩
  · have HV : Hid (allP armOk ps i = false) := hide_ (allP_len hl)
    rw [decide_eq_false hl] at HIl
    go_wp2_with (go_at_call 27; refine (HIl.out _).mono ?_; rintro e w' ⟨rfl, rfl⟩)
    go_ret
    exact ⟨by rw [HV.out]; rfl, HB0.out⟩
end Go.Proofs.Ytdpkmkhflgmioaa
