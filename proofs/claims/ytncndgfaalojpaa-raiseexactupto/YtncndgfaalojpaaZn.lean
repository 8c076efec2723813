/- size: extentOf. -/
import Derived.Test.YtncndgfaalojpaaZm
namespace Go.Proofs.Ytncndgfaalojpaa
open Go.RowKit
set_option linter.unusedVariables false

def times2 (a b : Int) : Int := capH (sz a * sz b)
theorem timesB_any (a b c : Int) (w : World) (h : Hid (times2 a b = c)) : Calls Try.prog 46 #[.int .i64 a, .int .i64 b] w fun e w' => e = .returned (.int .i64 c) ∧ w = w' := by
  rw [← h.out]
  exact times_any a b w
/-- A type's extent, from those below it. -/
def ext1 (X : List Ex) (t : Ty) : Ex :=
  if t.k = 1 then ⟨true, t.n, t.n, 1 + deepX (kidL X t.k t.e t.ps)⟩ else
  if t.k = 2 then ⟨true, 1, 1, 1 + deepX (kidL X t.k t.e t.ps)⟩ else
  if t.k = 3 then ⟨false, 1, 10, 1 + deepX (kidL X t.k t.e t.ps)⟩ else
  if t.k = 4 then ⟨(offX (exAt X t.e)).f, times2 t.n (offX (exAt X t.e)).l, times2 t.n (offX (exAt X t.e)).m, 1 + deepX (kidL X t.k t.e t.ps)⟩ else
  if t.k = 5 then ⟨false, times2 0 (offX (exAt X t.e)).l, times2 t.n (offX (exAt X t.e)).m, 1 + deepX (kidL X t.k t.e t.ps)⟩ else
  if t.k = 6 then ⟨false, plus2 1 (chX (kidL X t.k t.e t.ps ++ [ex0])).1, plus2 1 (chX (kidL X t.k t.e t.ps ++ [ex0])).2, 1 + deepX (kidL X t.k t.e t.ps)⟩ else
  if t.k = 7 then ⟨false, plus2 1 (chX (kidL X t.k t.e t.ps)).1, plus2 1 (chX (kidL X t.k t.e t.ps)).2, 1 + deepX (kidL X t.k t.e t.ps)⟩ else
  ⟨(rowX (kidL X t.k t.e t.ps)).1, (rowX (kidL X t.k t.e t.ps)).2.1, (rowX (kidL X t.k t.e t.ps)).2.2, 1 + deepX (kidL X t.k t.e t.ps)⟩
theorem deepX_bd : ∀ (l : List Ex) (d : Int), 0 ≤ d ∧ d ≤ 1000000 → (∀ x ∈ l, 0 ≤ x.d ∧ x.d ≤ 1000000) → 0 ≤ l.foldl (fun d x => max d x.d) d ∧ l.foldl (fun d x => max d x.d) d ≤ 1000000
  | [], d, h, _ => h
  | x :: l, d, h, hx => by
    have h1 := hx x (by simp)
    exact deepX_bd l (max d x.d) (by omega) (fun y hy => hx y (by simp [hy]))
theorem exAt_bd {X : List Ex} (h : ∀ x ∈ X, 0 ≤ x.d ∧ x.d ≤ 1000000) (i : Int) : 0 ≤ (exAt X i).d ∧ (exAt X i).d ≤ 1000000 := by
  unfold exAt
  rcases Nat.lt_or_ge i.toNat X.length with hi | hi
  · rw [show X.getD i.toNat ex0 = X[i.toNat]'hi by simp [List.getD, hi]]
    exact h _ (List.getElem_mem hi)
  · rw [show X.getD i.toNat ex0 = ex0 by simp [List.getD, List.getElem?_eq_none hi]]
    simp [ex0]
theorem kidL_bd {X : List Ex} (h : ∀ x ∈ X, 0 ≤ x.d ∧ x.d ≤ 1000000) (k el : Int) (ps : List Pt) : 0 ≤ deepX (kidL X k el ps) ∧ deepX (kidL X k el ps) ≤ 1000000 := by
  refine deepX_bd _ 0 (by omega) (fun x hx => ?_)
  unfold kidL at hx
  rcases List.mem_append.1 hx with hx | hx
  · split at hx
    · simp at hx; subst hx; exact exAt_bd h el
    · cases hx
  · obtain ⟨p, _, rfl⟩ := List.mem_map.1 hx
    exact exAt_bd h p.ty
theorem XOwn.pushU {w : World} {B : Nat} {v : Value} {l : List Ex} (h : XOwn w B v l) (x : Ex) (hl : l.length ≤ 4000000000000) (hB : B ≤ w.heap.size) :
    ∃ v' w', (Builtin.append_ #[44, 44] 44 #[v, .slice (some ⟨w.heap.size, 0, none⟩) 1 1]).run Try.prog (w.alloc (.cells #[.bool x.f, .int .i64 x.l, .int .i64 x.m, .int .i64 x.d] 63)) = .ok v' w' ∧ XOwn w' B v' (l ++ [x]) ∧ Upd (fun k => v.ownBlock = some k) w w' := by
  obtain ⟨g, cap, w', h1, h2, h3, h4⟩ := run_pushS (P := Try.prog) (t := 44) (e := 63) (c := 4) Try.underlying44 infoX rfl (by decide) w 44 h (exc x) rfl (fun u hu => by simp [exc] at hu; rcases hu with rfl | rfl | rfl | rfl <;> rfl) (by unfold maxLen; omega) (by omega) hB
  refine ⟨_, w', h1, ?_, h3⟩
  unfold XOwn
  rw [cellsG_app, cellsG_one, List.length_append, List.length_singleton]
  exact h2
set_option maxRecDepth 100000 in
set_option maxHeartbeats 8000000 in
theorem ext1_any (n el : Int) (ps : List Pt) (va : Option Addr) (vc : Nat) (X : List Ex) (ax : Option Addr) (cx : Nat) (w : World) (hXl : X.length ≤ 10000000000000) (hbd : Hid (∀ x ∈ X, 0 ≤ x.d ∧ x.d ≤ 1000000)) (hok : Hid (tyOk ⟨1, n, el, ps⟩ X.length = true)) (hP : Hid (PRow w va ps)) (hX : Hid (XRow w ax X)) :
    Calls Try.prog 21 #[.agg #[.int .i64 1, .int .i64 n, .int .i64 el, .slice va ps.length vc], .slice ax X.length cx] w fun e w' => e = .returned (exv (ext1 X ⟨1, n, el, ps⟩)) ∧ Below w.heap.size w w' := by
  have hps := tyOk_len hok.out
  simp only at hps
  have hB := below2 w (.cells #[.int .i64 1, .int .i64 n, .int .i64 el, .slice va ps.length vc] 43) (.cells #[.bool false, .int .i64 0, .int .i64 0, .int .i64 0] 63)
  obtain ⟨k1, k2⟩ := blk2 w #[.int .i64 1, .int .i64 n, .int .i64 el, .slice va ps.length vc] #[.bool false, .int .i64 0, .int .i64 0, .int .i64 0] 43 63
  obtain ⟨w0, hw0⟩ : ∃ wx, wx = (w.alloc (.cells #[.int .i64 1, .int .i64 n, .int .i64 el, .slice va ps.length vc] 43)).alloc (.cells #[.bool false, .int .i64 0, .int .i64 0, .int .i64 0] 63) := ⟨_, rfl⟩
  rw [← hw0] at hB k1 k2
  have HB0 := hide_ hB
  have K1 := hide_ k1
  have K2 := hide_ k2
  have hs1 : w.heap.size < w0.heap.size := k1.lt
  have hs2 : w.heap.size + 1 < w0.heap.size := k2.lt
  have HCk := hide_ (kidsOf_any 1 n el ps va vc X ax cx w0 hXl hok (hide_ (hP.out.later hB)) (hide_ (hX.out.later hB)))
  have i0 := k1.cell 0; have i1 := k1.cell 1; have i2 := k1.cell 2; have i3 := k1.cell 3
  simp at i0 i1 i2 i3
  have hkl := kidL_len X 1 el ps
  have hdk := kidL_bd hbd.out 1 el ps
  obtain ⟨ks, hks⟩ : ∃ ks, kidL X 1 el ps = ks := ⟨_, rfl⟩
  rw [hks] at hkl hdk HCk
  have HKS := hide_ hks
  obtain ⟨dk, hde⟩ : ∃ dk, deepX ks = dk := ⟨_, rfl⟩
  rw [hde] at hdk
  have HDE := hide_ hde
  clear hB k1 k2 hks hde
  have HV : Hid (ext1 X ⟨1, n, el, ps⟩ = ⟨true, n, n, 1 + dk⟩) := hide_ (by
    unfold ext1
    simp only
    rw [HKS.out, HDE.out]
    simp)
  go_enter Try.func21, Try.ntmps21
  go_upto_region 1 with fail
  rw [← hw0]
  clear hw0
  go_wp2_with fail
  refine HCk.out.mono ?_; rintro e w1 ⟨vk, rfl, HO1, HB1⟩
  obtain ⟨ak, ck, hvk, -, -, hXk⟩ := HO1.out.row
  subst hvk
  have HXk := hide_ hXk
  have HCd : Hid (Calls Try.prog 44 #[.slice ak ks.length ck] w1 fun e w' => e = .returned (.int .i64 dk) ∧ Below w1.heap.size w1 w') := hide_ (by have h := deepest_any ak ck ks w1 (by omega) HXk; rwa [HDE.out] at h)
  clear hXk HCk i0 i1 i2 i3
  go_wp2_with fail
  refine HCd.out.mono ?_; rintro e w2 ⟨rfl, hB2⟩
  have hwr : wrap64 (1 + dk) = 1 + dk := w64 _ (by omega)
  have kO := Blk.newA w2 #[.bool false, .int .i64 0, .int .i64 0, .int .i64 (1 + dk)] 63
  have hB3 := below1 w2 (.cells #[.bool false, .int .i64 0, .int .i64 0, .int .i64 (1 + dk)] 63)
  obtain ⟨w3, hw3⟩ : ∃ wx, wx = w2.alloc (.cells #[.bool false, .int .i64 0, .int .i64 0, .int .i64 (1 + dk)] 63) := ⟨_, rfl⟩
  rw [← hw3] at kO hB3
  have hB13 : Below w1.heap.size w1 w3 := below_to hB2 hB3
  have HB3 := hide_ (below_to HB1.out hB13)
  have HO3 := hide_ (HO1.out.later hB13)
  have hg2 : w0.heap.size ≤ w2.heap.size := Nat.le_trans HB1.out.size hB2.size
  have Hown : Hid (∀ k, (Value.slice ak ks.length ck).ownBlock = some k → k < w2.heap.size) := hide_ (fun k hk => Nat.lt_of_lt_of_le (HO1.out.lt k hk).2 hB2.size)
  have k1 := K1.out.later HB3.out
  have i0 := k1.cell 0; have i1 := k1.cell 1
  simp at i0 i1
  clear hB2 HCd HXk HO1
  go_upto_region 3 with fail
  rw [← hw3]
  clear hw3 hB13 hB3
  go_quiet (fail)
  have K1q := hide_ (k1.drewN nq)
  have KOq := hide_ (kO.drewN nq)
  have K2q := hide_ ((K2.out.later HB3.out).drewN nq)
  have HBq := hide_ (below_drewN HB3.out nq)
  have HOq := hide_ (HO3.out.later (below_drewN (Below.refl _ w3) nq))
  clear k1 kO i0 i1 HB3 HO3 K1 K2
  obtain ⟨g, hg⟩ : ∃ g, w2.heap.size = g := ⟨_, rfl⟩
  rw [hg] at KOq hg2 Hown
  generalize w3.drewN nq = w4 at *
  have k1 := K1q.out; have kO := KOq.out; have k2 := K2q.out
  have i0 := k1.cell 0; have i1 := k1.cell 1
  have j0 := kO.cell 0; have j1 := kO.cell 1; have j2 := kO.cell 2; have j3 := kO.cell 3
  simp at i0 i1 j0 j1 j2 j3
  have f1 := fun i => kO.frozen i
  have HBw := hide_ (below_to HB0.out HBq.out)
  clear k1 kO k2
  try rw [hg]
  clear hg
  have HKs := hide_ (by have h := (((KOq.out.set 0 (.bool true)).set 1 (.int .i64 n)).set 2 (.int .i64 n)); simpa using h)
  have HRs := hide_ ((((K2q.out.other ⟨g, 0, none⟩ (.bool true) (by show w.heap.size + 1 ≠ g; omega)).other ⟨g, 1, none⟩ (.int .i64 n) (by show w.heap.size + 1 ≠ g; omega)).other ⟨g, 2, none⟩ (.int .i64 n) (by show w.heap.size + 1 ≠ g; omega)))
  have HBs := hide_ ((below_set (below_set (below_set HBw.out g 0 (.bool true) (by omega)) g 1 (.int .i64 n) (by omega)) g 2 (.int .i64 n) (by omega)))
  obtain ⟨ws, hws⟩ : ∃ ws, ws = (((w4.setCell ⟨g, 0, none⟩ (.bool true)).setCell ⟨g, 1, none⟩ (.int .i64 n)).setCell ⟨g, 2, none⟩ (.int .i64 n)) := ⟨_, rfl⟩
  rw [← hws] at HKs HRs HBs
  go_upto_region 24 with (fail)
  rw [← hws]
  clear hws i0 i1 j0 j1 j2 j3 f1
  have i0 := HKs.out.cell 0; have i1 := HKs.out.cell 1; have i2 := HKs.out.cell 2; have i3 := HKs.out.cell 3
  have j0 := HRs.out.cell 0; have j1 := HRs.out.cell 1; have j2 := HRs.out.cell 2; have j3 := HRs.out.cell 3
  simp at i0 i1 i2 i3 j0 j1 j2 j3
  have f1 := fun i => HRs.out.frozen i
  have HK := hide_ (wr4 HRs.out (.bool true) (.int .i64 n) (.int .i64 n) (.int .i64 (1 + dk)))
  have HBf := hide_ (below_wr4 HBs.out (w.heap.size + 1) (by omega) (.bool true) (.int .i64 n) (.int .i64 n) (.int .i64 (1 + dk)))
  go_wp2
  refine retX (x := ⟨true, n, n, 1 + dk⟩) rfl rfl HK.out ⟨by rw [HV.out], HBf.out⟩
set_option maxRecDepth 100000 in
set_option maxHeartbeats 8000000 in
theorem ext2_any (n el : Int) (ps : List Pt) (va : Option Addr) (vc : Nat) (X : List Ex) (ax : Option Addr) (cx : Nat) (w : World) (hXl : X.length ≤ 10000000000000) (hbd : Hid (∀ x ∈ X, 0 ≤ x.d ∧ x.d ≤ 1000000)) (hok : Hid (tyOk ⟨2, n, el, ps⟩ X.length = true)) (hP : Hid (PRow w va ps)) (hX : Hid (XRow w ax X)) :
    Calls Try.prog 21 #[.agg #[.int .i64 2, .int .i64 n, .int .i64 el, .slice va ps.length vc], .slice ax X.length cx] w fun e w' => e = .returned (exv (ext1 X ⟨2, n, el, ps⟩)) ∧ Below w.heap.size w w' := by
  have hps := tyOk_len hok.out
  simp only at hps
  have hB := below2 w (.cells #[.int .i64 2, .int .i64 n, .int .i64 el, .slice va ps.length vc] 43) (.cells #[.bool false, .int .i64 0, .int .i64 0, .int .i64 0] 63)
  obtain ⟨k1, k2⟩ := blk2 w #[.int .i64 2, .int .i64 n, .int .i64 el, .slice va ps.length vc] #[.bool false, .int .i64 0, .int .i64 0, .int .i64 0] 43 63
  obtain ⟨w0, hw0⟩ : ∃ wx, wx = (w.alloc (.cells #[.int .i64 2, .int .i64 n, .int .i64 el, .slice va ps.length vc] 43)).alloc (.cells #[.bool false, .int .i64 0, .int .i64 0, .int .i64 0] 63) := ⟨_, rfl⟩
  rw [← hw0] at hB k1 k2
  have HB0 := hide_ hB
  have K1 := hide_ k1
  have K2 := hide_ k2
  have hs1 : w.heap.size < w0.heap.size := k1.lt
  have hs2 : w.heap.size + 1 < w0.heap.size := k2.lt
  have HCk := hide_ (kidsOf_any 2 n el ps va vc X ax cx w0 hXl hok (hide_ (hP.out.later hB)) (hide_ (hX.out.later hB)))
  have i0 := k1.cell 0; have i1 := k1.cell 1; have i2 := k1.cell 2; have i3 := k1.cell 3
  simp at i0 i1 i2 i3
  have hkl := kidL_len X 2 el ps
  have hdk := kidL_bd hbd.out 2 el ps
  obtain ⟨ks, hks⟩ : ∃ ks, kidL X 2 el ps = ks := ⟨_, rfl⟩
  rw [hks] at hkl hdk HCk
  have HKS := hide_ hks
  obtain ⟨dk, hde⟩ : ∃ dk, deepX ks = dk := ⟨_, rfl⟩
  rw [hde] at hdk
  have HDE := hide_ hde
  clear hB k1 k2 hks hde
  have HV : Hid (ext1 X ⟨2, n, el, ps⟩ = ⟨true, 1, 1, 1 + dk⟩) := hide_ (by
    unfold ext1
    simp only
    rw [HKS.out, HDE.out]
    simp)
  go_enter Try.func21, Try.ntmps21
  go_upto_region 1 with fail
  rw [← hw0]
  clear hw0
  go_wp2_with fail
  refine HCk.out.mono ?_; rintro e w1 ⟨vk, rfl, HO1, HB1⟩
  obtain ⟨ak, ck, hvk, -, -, hXk⟩ := HO1.out.row
  subst hvk
  have HXk := hide_ hXk
  have HCd : Hid (Calls Try.prog 44 #[.slice ak ks.length ck] w1 fun e w' => e = .returned (.int .i64 dk) ∧ Below w1.heap.size w1 w') := hide_ (by have h := deepest_any ak ck ks w1 (by omega) HXk; rwa [HDE.out] at h)
  clear hXk HCk i0 i1 i2 i3
  go_wp2_with fail
  refine HCd.out.mono ?_; rintro e w2 ⟨rfl, hB2⟩
  have hwr : wrap64 (1 + dk) = 1 + dk := w64 _ (by omega)
  have kO := Blk.newA w2 #[.bool false, .int .i64 0, .int .i64 0, .int .i64 (1 + dk)] 63
  have hB3 := below1 w2 (.cells #[.bool false, .int .i64 0, .int .i64 0, .int .i64 (1 + dk)] 63)
  obtain ⟨w3, hw3⟩ : ∃ wx, wx = w2.alloc (.cells #[.bool false, .int .i64 0, .int .i64 0, .int .i64 (1 + dk)] 63) := ⟨_, rfl⟩
  rw [← hw3] at kO hB3
  have hB13 : Below w1.heap.size w1 w3 := below_to hB2 hB3
  have HB3 := hide_ (below_to HB1.out hB13)
  have HO3 := hide_ (HO1.out.later hB13)
  have hg2 : w0.heap.size ≤ w2.heap.size := Nat.le_trans HB1.out.size hB2.size
  have Hown : Hid (∀ k, (Value.slice ak ks.length ck).ownBlock = some k → k < w2.heap.size) := hide_ (fun k hk => Nat.lt_of_lt_of_le (HO1.out.lt k hk).2 hB2.size)
  have k1 := K1.out.later HB3.out
  have i0 := k1.cell 0; have i1 := k1.cell 1
  simp at i0 i1
  clear hB2 HCd HXk HO1
  go_upto_region 3 with fail
  rw [← hw3]
  clear hw3 hB13 hB3
  go_quiet (fail)
  have K1q := hide_ (k1.drewN nq)
  have KOq := hide_ (kO.drewN nq)
  have K2q := hide_ ((K2.out.later HB3.out).drewN nq)
  have HBq := hide_ (below_drewN HB3.out nq)
  have HOq := hide_ (HO3.out.later (below_drewN (Below.refl _ w3) nq))
  clear k1 kO i0 i1 HB3 HO3 K1 K2
  obtain ⟨g, hg⟩ : ∃ g, w2.heap.size = g := ⟨_, rfl⟩
  rw [hg] at KOq hg2 Hown
  generalize w3.drewN nq = w4 at *
  have k1 := K1q.out; have kO := KOq.out; have k2 := K2q.out
  have i0 := k1.cell 0; have i1 := k1.cell 1
  have j0 := kO.cell 0; have j1 := kO.cell 1; have j2 := kO.cell 2; have j3 := kO.cell 3
  simp at i0 i1 j0 j1 j2 j3
  have f1 := fun i => kO.frozen i
  have HBw := hide_ (below_to HB0.out HBq.out)
  clear k1 kO k2
  try rw [hg]
  clear hg
  have HKs := hide_ (by have h := (((KOq.out.set 0 (.bool true)).set 1 (.int .i64 1)).set 2 (.int .i64 1)); simpa using h)
  have HRs := hide_ ((((K2q.out.other ⟨g, 0, none⟩ (.bool true) (by show w.heap.size + 1 ≠ g; omega)).other ⟨g, 1, none⟩ (.int .i64 1) (by show w.heap.size + 1 ≠ g; omega)).other ⟨g, 2, none⟩ (.int .i64 1) (by show w.heap.size + 1 ≠ g; omega)))
  have HBs := hide_ ((below_set (below_set (below_set HBw.out g 0 (.bool true) (by omega)) g 1 (.int .i64 1) (by omega)) g 2 (.int .i64 1) (by omega)))
  obtain ⟨ws, hws⟩ : ∃ ws, ws = (((w4.setCell ⟨g, 0, none⟩ (.bool true)).setCell ⟨g, 1, none⟩ (.int .i64 1)).setCell ⟨g, 2, none⟩ (.int .i64 1)) := ⟨_, rfl⟩
  rw [← hws] at HKs HRs HBs
  go_upto_region 24 with (fail)
  rw [← hws]
  clear hws i0 i1 j0 j1 j2 j3 f1
  have i0 := HKs.out.cell 0; have i1 := HKs.out.cell 1; have i2 := HKs.out.cell 2; have i3 := HKs.out.cell 3
  have j0 := HRs.out.cell 0; have j1 := HRs.out.cell 1; have j2 := HRs.out.cell 2; have j3 := HRs.out.cell 3
  simp at i0 i1 i2 i3 j0 j1 j2 j3
  have f1 := fun i => HRs.out.frozen i
  have HK := hide_ (wr4 HRs.out (.bool true) (.int .i64 1) (.int .i64 1) (.int .i64 (1 + dk)))
  have HBf := hide_ (below_wr4 HBs.out (w.heap.size + 1) (by omega) (.bool true) (.int .i64 1) (.int .i64 1) (.int .i64 (1 + dk)))
  go_wp2
  refine retX (x := ⟨true, 1, 1, 1 + dk⟩) rfl rfl HK.out ⟨by rw [HV.out], HBf.out⟩
set_option maxRecDepth 100000 in
set_option maxHeartbeats 8000000 in
theorem ext3_any (n el : Int) (ps : List Pt) (va : Option Addr) (vc : Nat) (X : List Ex) (ax : Option Addr) (cx : Nat) (w : World) (hXl : X.length ≤ 10000000000000) (hbd : Hid (∀ x ∈ X, 0 ≤ x.d ∧ x.d ≤ 1000000)) (hok : Hid (tyOk ⟨3, n, el, ps⟩ X.length = true)) (hP : Hid (PRow w va ps)) (hX : Hid (XRow w ax X)) :
    Calls Try.prog 21 #[.agg #[.int .i64 3, .int .i64 n, .int .i64 el, .slice va ps.length vc], .slice ax X.length cx] w fun e w' => e = .returned (exv (ext1 X ⟨3, n, el, ps⟩)) ∧ Below w.heap.size w w' := by
  have hps := tyOk_len hok.out
  simp only at hps
  have hB := below2 w (.cells #[.int .i64 3, .int .i64 n, .int .i64 el, .slice va ps.length vc] 43) (.cells #[.bool false, .int .i64 0, .int .i64 0, .int .i64 0] 63)
  obtain ⟨k1, k2⟩ := blk2 w #[.int .i64 3, .int .i64 n, .int .i64 el, .slice va ps.length vc] #[.bool false, .int .i64 0, .int .i64 0, .int .i64 0] 43 63
  obtain ⟨w0, hw0⟩ : ∃ wx, wx = (w.alloc (.cells #[.int .i64 3, .int .i64 n, .int .i64 el, .slice va ps.length vc] 43)).alloc (.cells #[.bool false, .int .i64 0, .int .i64 0, .int .i64 0] 63) := ⟨_, rfl⟩
  rw [← hw0] at hB k1 k2
  have HB0 := hide_ hB
  have K1 := hide_ k1
  have K2 := hide_ k2
  have hs1 : w.heap.size < w0.heap.size := k1.lt
  have hs2 : w.heap.size + 1 < w0.heap.size := k2.lt
  have HCk := hide_ (kidsOf_any 3 n el ps va vc X ax cx w0 hXl hok (hide_ (hP.out.later hB)) (hide_ (hX.out.later hB)))
  have i0 := k1.cell 0; have i1 := k1.cell 1; have i2 := k1.cell 2; have i3 := k1.cell 3
  simp at i0 i1 i2 i3
  have hkl := kidL_len X 3 el ps
  have hdk := kidL_bd hbd.out 3 el ps
  obtain ⟨ks, hks⟩ : ∃ ks, kidL X 3 el ps = ks := ⟨_, rfl⟩
  rw [hks] at hkl hdk HCk
  have HKS := hide_ hks
  obtain ⟨dk, hde⟩ : ∃ dk, deepX ks = dk := ⟨_, rfl⟩
  rw [hde] at hdk
  have HDE := hide_ hde
  clear hB k1 k2 hks hde
  have HV : Hid (ext1 X ⟨3, n, el, ps⟩ = ⟨false, 1, 10, 1 + dk⟩) := hide_ (by
    unfold ext1
    simp only
    rw [HKS.out, HDE.out]
    simp)
  go_enter Try.func21, Try.ntmps21
  go_upto_region 1 with fail
  rw [← hw0]
  clear hw0
  go_wp2_with fail
  refine HCk.out.mono ?_; rintro e w1 ⟨vk, rfl, HO1, HB1⟩
  obtain ⟨ak, ck, hvk, -, -, hXk⟩ := HO1.out.row
  subst hvk
  have HXk := hide_ hXk
  have HCd : Hid (Calls Try.prog 44 #[.slice ak ks.length ck] w1 fun e w' => e = .returned (.int .i64 dk) ∧ Below w1.heap.size w1 w') := hide_ (by have h := deepest_any ak ck ks w1 (by omega) HXk; rwa [HDE.out] at h)
  clear hXk HCk i0 i1 i2 i3
  go_wp2_with fail
  refine HCd.out.mono ?_; rintro e w2 ⟨rfl, hB2⟩
  have hwr : wrap64 (1 + dk) = 1 + dk := w64 _ (by omega)
  have kO := Blk.newA w2 #[.bool false, .int .i64 0, .int .i64 0, .int .i64 (1 + dk)] 63
  have hB3 := below1 w2 (.cells #[.bool false, .int .i64 0, .int .i64 0, .int .i64 (1 + dk)] 63)
  obtain ⟨w3, hw3⟩ : ∃ wx, wx = w2.alloc (.cells #[.bool false, .int .i64 0, .int .i64 0, .int .i64 (1 + dk)] 63) := ⟨_, rfl⟩
  rw [← hw3] at kO hB3
  have hB13 : Below w1.heap.size w1 w3 := below_to hB2 hB3
  have HB3 := hide_ (below_to HB1.out hB13)
  have HO3 := hide_ (HO1.out.later hB13)
  have hg2 : w0.heap.size ≤ w2.heap.size := Nat.le_trans HB1.out.size hB2.size
  have Hown : Hid (∀ k, (Value.slice ak ks.length ck).ownBlock = some k → k < w2.heap.size) := hide_ (fun k hk => Nat.lt_of_lt_of_le (HO1.out.lt k hk).2 hB2.size)
  have k1 := K1.out.later HB3.out
  have i0 := k1.cell 0; have i1 := k1.cell 1
  simp at i0 i1
  clear hB2 HCd HXk HO1
  go_upto_region 3 with fail
  rw [← hw3]
  clear hw3 hB13 hB3
  go_quiet (fail)
  have K1q := hide_ (k1.drewN nq)
  have KOq := hide_ (kO.drewN nq)
  have K2q := hide_ ((K2.out.later HB3.out).drewN nq)
  have HBq := hide_ (below_drewN HB3.out nq)
  have HOq := hide_ (HO3.out.later (below_drewN (Below.refl _ w3) nq))
  clear k1 kO i0 i1 HB3 HO3 K1 K2
  obtain ⟨g, hg⟩ : ∃ g, w2.heap.size = g := ⟨_, rfl⟩
  rw [hg] at KOq hg2 Hown
  generalize w3.drewN nq = w4 at *
  have k1 := K1q.out; have kO := KOq.out; have k2 := K2q.out
  have i0 := k1.cell 0; have i1 := k1.cell 1
  have j0 := kO.cell 0; have j1 := kO.cell 1; have j2 := kO.cell 2; have j3 := kO.cell 3
  simp at i0 i1 j0 j1 j2 j3
  have f1 := fun i => kO.frozen i
  have HBw := hide_ (below_to HB0.out HBq.out)
  clear k1 kO k2
  try rw [hg]
  clear hg
  have HKs := hide_ (by have h := ((KOq.out.set 1 (.int .i64 1)).set 2 (.int .i64 10)); simpa using h)
  have HRs := hide_ (((K2q.out.other ⟨g, 1, none⟩ (.int .i64 1) (by show w.heap.size + 1 ≠ g; omega)).other ⟨g, 2, none⟩ (.int .i64 10) (by show w.heap.size + 1 ≠ g; omega)))
  have HBs := hide_ ((below_set (below_set HBw.out g 1 (.int .i64 1) (by omega)) g 2 (.int .i64 10) (by omega)))
  obtain ⟨ws, hws⟩ : ∃ ws, ws = ((w4.setCell ⟨g, 1, none⟩ (.int .i64 1)).setCell ⟨g, 2, none⟩ (.int .i64 10)) := ⟨_, rfl⟩
  rw [← hws] at HKs HRs HBs
  go_upto_region 24 with (fail)
  rw [← hws]
  clear hws i0 i1 j0 j1 j2 j3 f1
  have i0 := HKs.out.cell 0; have i1 := HKs.out.cell 1; have i2 := HKs.out.cell 2; have i3 := HKs.out.cell 3
  have j0 := HRs.out.cell 0; have j1 := HRs.out.cell 1; have j2 := HRs.out.cell 2; have j3 := HRs.out.cell 3
  simp at i0 i1 i2 i3 j0 j1 j2 j3
  have f1 := fun i => HRs.out.frozen i
  have HK := hide_ (wr4 HRs.out (.bool false) (.int .i64 1) (.int .i64 10) (.int .i64 (1 + dk)))
  have HBf := hide_ (below_wr4 HBs.out (w.heap.size + 1) (by omega) (.bool false) (.int .i64 1) (.int .i64 10) (.int .i64 (1 + dk)))
  go_wp2
  refine retX (x := ⟨false, 1, 10, 1 + dk⟩) rfl rfl HK.out ⟨by rw [HV.out], HBf.out⟩
end Go.Proofs.Ytncndgfaalojpaa
