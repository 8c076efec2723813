import Derived.Test.YtlbgdgobhiokpaaDoorPart08
import Derived.BigRegion
import Derived.Deep.RegionLaw
import Derived.Test.YtlbgdgobhiokpaaDoorPart09
import Derived.Deep.OwnRows
import Derived.Laws.OwnMore

/- adopt: a kid that comes in order. -/
namespace Go.Proofs.YtlbgdgobhiokpaaDoor
open Go.RowKit
set_option linter.unusedVariables false

theorem Ar.drewN {B b : Nat} {w : World} {vn vs : Value} {N : List Nd} {S : Stk} (h : Ar B w b vn vs N S) (q : Nat) : Ar B (w.drewN q) b vn vs N S := ⟨h.blk, h.hb, h.nod, h.spo⟩
theorem KeptA.drewN {B : Nat} {w w1 : World} (h : KeptA B w w1) (n : Nat) : KeptA B w (w1.drewN n) := ⟨⟨h.bel.os, h.bel.tape, h.bel.output, h.bel.size, h.bel.block⟩, h.oth⟩
set_option maxRecDepth 100000 in
set_option maxHeartbeats 8000000 in
theorem adopt_any (B b o : Nat) (vn vs : Value) (N : List Nd) (S : Stk) (w : World) (hA : Hid (Ar B w b vn vs N S)) (hN : N.length ≤ 1000000) (ho : o < N.length) (hk : 0 ≤ (N.getD o nil0).2.2 ∧ (N.getD o nil0).2.2 ≤ 2000000) :
    Calls Tryd.prog 46 #[.pointer (some ⟨b, 0, none⟩), spotv (o : Int) (N.getD o nil0).2.2] w fun e w' => e = .returned (.tuple #[]) ∧ Hid (Ar B w' b vn vs (incK N o) S) ∧ Hid (KeptA B w w') := by
  unfold spotv
  obtain ⟨xc, hxc⟩ : ∃ xc, (N.getD o nil0).2.2 = xc := ⟨_, rfl⟩
  rw [hxc] at hk ⊢
  obtain ⟨wB, hwB⟩ : ∃ wB, wB = w.alloc (.cells #[.int .i64 (o : Int), .int .i64 xc] 103) := ⟨_, rfl⟩
  have HBB : Hid (Below w.heap.size w wB) := by rw [hwB]; exact (Below.refl _ _).alloc (Nat.le_refl _) _
  have KB : Hid (Blk wB w.heap.size 103 [.int .i64 (o : Int), .int .i64 xc]) := by rw [hwB]; exact Blk.newA w _ 103
  have HA : Hid (Ar B wB b vn vs N S) := hA.out.later HBB.out
  have HK : Hid (KeptA B w wB) := KeptA.of_below hA.out.base HBB.out
  have c0 := HA.out.c0; have c2 := HA.out.c2
  have s0 : wB.cell? ⟨w.heap.size, 0, none⟩ = some (.int .i64 (o : Int)) := KB.out.cell 0
  have s1 : wB.cell? ⟨w.heap.size, 1, none⟩ = some (.int .i64 xc) := KB.out.cell 1
  obtain ⟨gn, cn, hvn, bn, hn1, hn2, hgn, n0, n1, n2, zn, hKn⟩ := HA.out.node ho
  rw [hxc] at n2
  have HI : Hid (∀ q, Ar B ((wB.drewN q).setCell ⟨gn, o * 3 + 2, none⟩ (.int .i64 (xc + 1))) b vn vs (incK N o) S ∧ KeptA B (wB.drewN q) ((wB.drewN q).setCell ⟨gn, o * 3 + 2, none⟩ (.int .i64 (xc + 1))) ∧ Blk ((wB.drewN q).setCell ⟨gn, o * 3 + 2, none⟩ (.int .i64 (xc + 1))) w.heap.size 103 [.int .i64 (o : Int), .int .i64 xc] ∧ ((wB.drewN q).setCell ⟨gn, o * 3 + 2, none⟩ (.int .i64 (xc + 1))).cell? ⟨gn, o * 3 + 2, none⟩ = some (.int .i64 (xc + 1))) := fun q => by
    obtain ⟨h1, h2⟩ := (HA.out.drewN q).inc ho hvn
    rw [hxc] at h1 h2
    refine ⟨h1, h2, KB.out.other _ _ fun e => ?_, World.cell?_setCell_same _ _ _ (show (wB.drewN q).cell? _ = _ from n2)⟩
    obtain ⟨ys, hy⟩ := hKn
    have e2 : w.heap.size = gn := e
    rw [← e2] at hy
    exact absurd (blk_type KB.out hy) (by decide)
  subst hvn
  unfold maxLen at hn2
  have ho' : (o : Int) < N.length := by omega
  clear hKn n0 n1 bn
  go_enter Tryd.func46, Tryd.ntmps46
  go_upto_region 1 with fail
  rw [← hwB]
  clear hwB hA HBB
  go_wp2_with fail
  go_quiet (fail)
  go_wp2_with fail
  go_quiet (fail)
  go_wp2_with fail
  go_loopw [] (fun wr => Hid (Ar B wr b (.slice (some ⟨gn, 0, none⟩) N.length cn) vs (incK N o) S) ∧ Hid (KeptA B w wr) ∧ Hid (Blk wr w.heap.size 103 [.int .i64 (o : Int), .int .i64 xc]) ∧ Hid (wr.cell? ⟨gn, o * 3 + 2, none⟩ = some (.int .i64 (xc + 1)))) (fun _ => 0)
  case atStart => exact ⟨(HI.out _).1, (HK.out.drewN _).trans (HI.out _).2.1, (HI.out _).2.2.1, (HI.out _).2.2.2⟩
  case round =>
    clear c0 c2 s0 s1 n2 zn HA HK KB HI hgn
    obtain ⟨HA, HK, KB, HN⟩ := hrel
    have c2 := HA.out.c2
    have s0 : wr.cell? ⟨w.heap.size, 0, none⟩ = some (.int .i64 (o : Int)) := KB.out.cell 0
    have n2 := HN.out
    have hsl := KB.out.lt
    have hgn := World.block_lt_of_cell? wr _ n2
    have hbl := HA.out.blk.lt
    have HS : Hid (∀ ob, (wr.alloc ob).cell? ⟨w.heap.size, 0, none⟩ = some (.int .i64 (o : Int)) ∧ (wr.alloc ob).cell? ⟨gn, o * 3 + 2, none⟩ = some (.int .i64 (xc + 1))) := fun ob => ⟨(cell_alloc wr ob _ _ hsl).trans s0, (cell_alloc wr ob _ _ hgn).trans n2⟩
    go_wp2_with fail
    go_region_held_law (fun w' => w'.cell? ⟨w.heap.size, 0, none⟩ = some (.int .i64 (o : Int)) ∧ w'.cell? ⟨gn, o * 3 + 2, none⟩ = some (.int .i64 (xc + 1))) (first | assumption | exact ⟨s0, n2⟩ | exact HS.out _) (fail)
    obtain ⟨wz, hwz⟩ : ∃ wz, wz = (wr.alloc (.cells #[.int .i64 (o : Int), .int .i64 (xc + 1)] 103)).drew := ⟨_, rfl⟩
    have hBz : Below wr.heap.size wr wz := by rw [hwz]; exact ((Below.refl _ _).alloc (Nat.le_refl _) _).drew
    have HAz : Hid (Ar B wz b (.slice (some ⟨gn, 0, none⟩) N.length cn) vs (incK N o) S) := HA.out.later hBz
    have HKz : Hid (KeptA B w wz) := HK.out.trans (KeptA.of_below HA.out.base hBz)
    have t0 : wz.cell? ⟨wr.heap.size, 0, none⟩ = some (.int .i64 (o : Int)) := by rw [hwz]; exact (Blk.newA wr _ 103).cell 0
    have t1 : wz.cell? ⟨wr.heap.size, 1, none⟩ = some (.int .i64 (xc + 1)) := by rw [hwz]; exact (Blk.newA wr _ 103).cell 1
    have htl : wr.heap.size < wz.heap.size := World.block_lt_of_cell? wz _ t0
    have z4 := HAz.out.c2
    rw [← hwz]
    clear hwz HS s0 n2 c2 HA HK KB HN hBz
    have hlook := look103 (o : Int) (xc + 1)
    have HS2 : Hid (∀ ob, (wz.alloc ob).cell? ⟨b, 2, none⟩ = some (.map none) ∧ (wz.alloc ob).cell? ⟨wr.heap.size, 0, none⟩ = some (.int .i64 (o : Int)) ∧ (wz.alloc ob).cell? ⟨wr.heap.size, 1, none⟩ = some (.int .i64 (xc + 1))) := fun ob => ⟨(HAz.out.blk.alloc ob).cell 2, (cell_alloc wz ob _ _ htl).trans t0, (cell_alloc wz ob _ _ htl).trans t1⟩
    go_wp2_with fail
    go_region_held_law (fun w' => w'.cell? ⟨b, 2, none⟩ = some (.map none) ∧ w'.cell? ⟨wr.heap.size, 0, none⟩ = some (.int .i64 (o : Int)) ∧ w'.cell? ⟨wr.heap.size, 1, none⟩ = some (.int .i64 (xc + 1))) (first | assumption | exact ⟨z4, t0, t1⟩ | exact HS2.out _) (fail)
    all_goals
      go_wp2
      have hB3 : Below wz.heap.size wz (wz.alloc (.cells #[] 125)).drew := ((Below.refl _ _).alloc (Nat.le_refl _) _).drew
      exact bodyPost_ret (results_none rfl _ _ _) rfl ⟨rfl, HAz.out.later hB3, HKz.out.trans (KeptA.of_below HAz.out.base hB3)⟩
end Go.Proofs.YtlbgdgobhiokpaaDoor

/- Add: kids that come in order. -/
namespace Go.Proofs.YtlbgdgobhiokpaaDoor
open Go.RowKit
set_option linter.unusedVariables false

def addE (N : List Nd) (p k kind n : Int) : Int := if isK kind = true ∧ n ≤ mostN kind then refuseR N p k else 40
theorem refuseR_vals (N : List Nd) (p k : Int) : refuseR N p k = 0 ∨ refuseR N p k = 3 ∨ refuseR N p k = 40 := by
  unfold refuseR
  split
  · split <;> simp
  · split
    · simp
    · split
      · simp
      · split <;> simp
set_option maxRecDepth 100000 in
set_option maxHeartbeats 8000000 in
theorem addA_err (B b : Nat) (p k kind n : Int) (vn vs : Value) (N : List Nd) (S : Stk) (w : World) (hA : Hid (Ar B w b vn vs N S)) (hN : N.length ≤ 1000000) (he : addE N p k kind n ≠ 0) :
    Calls Tryd.prog 24 #[.pointer (some ⟨b, 0, none⟩), .int .i64 p, .int .i64 k, .int .i64 kind, .int .u64 n] w fun e w' => e = .returned (pairv (0, addE N p k kind n)) ∧ Below w.heap.size w w' := by
  go_enter Tryd.func24, Tryd.ntmps24
  go_wp2_with fail
  refine (bounds_any kind _).mono ?_; rintro e w1 ⟨rfl, hB1⟩
  have hBw : Below w.heap.size w w1 := ((Below.refl w.heap.size w).alloc (Nat.le_refl _) _).trans (hB1.mono (by simp))
  have HE0 : Hid (addE N p k kind n = if isK kind = true ∧ n ≤ mostN kind then refuseR N p k else 40) := rfl
  have KS := (Blk.newA w #[.int .i64 p, .int .i64 k] 103).later hB1
  unfold bnd
  by_cases h1 : isK kind = true
  · by_cases h2 : n ≤ mostN kind
    · rw [if_pos ⟨h1, h2⟩] at HE0
      have HA1 : Hid (Ar B (w1.alloc (.cells #[.int .u64 (mostN kind), .int .i64 (leastK kind), .int .i64 (mostK kind)] 105)) b vn vs N S) := (hA.out.later hBw).later ((Below.refl _ _).alloc (Nat.le_refl _) _)
      have s0 : ∀ ob, (w1.alloc ob).cell? ⟨w.heap.size, 0, none⟩ = some (.int .i64 p) := fun ob => (KS.alloc ob).cell 0
      have s1 : ∀ ob, (w1.alloc ob).cell? ⟨w.heap.size, 1, none⟩ = some (.int .i64 k) := fun ob => (KS.alloc ob).cell 1
      have h2' : ¬ mostN kind < n := by omega
      rw [h1]
      go_wp2_with fail
      refine (refuse_any B b p k vn vs N S _ HA1 hN).mono ?_; rintro e w2 ⟨rfl, hB2⟩
      have hB3 : Below w.heap.size w w2 := (hBw.alloc hBw.size _).trans (hB2.mono (by have := hBw.size; simp; omega))
      rw [← HE0.out]
      have hbe : ¬ addE N p k kind n = 0 := he
      go_wp2
      go_ret2
      exact ⟨rfl, hB3⟩
    · rw [if_neg (by simp [h2])] at HE0
      have h2' : mostN kind < n := by omega
      rw [h1]
      go_wp2
      go_ret2
      exact ⟨ret_pair (by rw [HE0.out]), hBw.alloc hBw.size _⟩
  · have h1' : isK kind = false := by simpa using h1
    rw [if_neg (by simp [h1])] at HE0
    rw [h1']
    go_wp2
    go_ret2
    exact ⟨ret_pair (by rw [HE0.out]), hBw.alloc hBw.size _⟩
/-- The nodes behind an Add. -/
def addA (N : List Nd) (p : Int) (kind n : Int) : List Nd := if N.length = 0 then [(kind, n, 0)] else incK (N ++ [(kind, n, 0)]) p.toNat
set_option maxRecDepth 100000 in
set_option maxHeartbeats 8000000 in
theorem addA_ok (B b : Nat) (p k kind n : Int) (vn vs : Value) (N : List Nd) (S : Stk) (w : World) (hA : Hid (Ar B w b vn vs N S)) (hN : N.length ≤ 900000) (hS : S.length ≤ 900000) (he : addE N p k kind n = 0) (hk : N.length ≠ 0 → (N.getD p.toNat nil0).2.2 = k ∧ 0 ≤ p ∧ p < N.length ∧ 0 ≤ k ∧ k ≤ 2000000) :
    Calls Tryd.prog 24 #[.pointer (some ⟨b, 0, none⟩), .int .i64 p, .int .i64 k, .int .i64 kind, .int .u64 n] w fun e w' => e = .returned (pairv ((N.length : Int), 0)) ∧ ∃ vn' vs', Hid (Ar B w' b vn' vs' (addA N p kind n) (S ++ [(p, k)])) ∧ Hid (KeptA B w w') := by
  go_enter Tryd.func24, Tryd.ntmps24
  go_wp2_with fail
  refine (bounds_any kind _).mono ?_; rintro e w1 ⟨rfl, hB1⟩
  have hBw : Below w.heap.size w w1 := ((Below.refl w.heap.size w).alloc (Nat.le_refl _) _).trans (hB1.mono (by simp))
  have hin : isK kind = true ∧ n ≤ mostN kind ∧ refuseR N p k = 0 := by
    unfold addE at he
    split at he
    · exact ⟨by rename_i h; exact h.1, by rename_i h; exact h.2, he⟩
    · omega
  obtain ⟨h1, h2, h3⟩ := hin
  have KS0 := (Blk.newA w #[.int .i64 p, .int .i64 k] 103).later hB1
  have HA1 : Hid (Ar B (w1.alloc (.cells #[.int .u64 (mostN kind), .int .i64 (leastK kind), .int .i64 (mostK kind)] 105)) b vn vs N S) := (hA.out.later hBw).later ((Below.refl _ _).alloc (Nat.le_refl _) _)
  have s0 : ∀ ob, (w1.alloc ob).cell? ⟨w.heap.size, 0, none⟩ = some (.int .i64 p) := fun ob => (KS0.alloc ob).cell 0
  have s1 : ∀ ob, (w1.alloc ob).cell? ⟨w.heap.size, 1, none⟩ = some (.int .i64 k) := fun ob => (KS0.alloc ob).cell 1
  have h2' : ¬ mostN kind < n := by omega
  unfold bnd
  rw [h1]
  go_wp2_with fail
  refine (refuse_any B b p k vn vs N S _ HA1 (by omega)).mono ?_; rintro e w2 ⟨rfl, hB2⟩
  have hB3 : Below w.heap.size w w2 := (hBw.alloc hBw.size _).trans (hB2.mono (by have := hBw.size; simp; omega))
  have HA2 : Hid (Ar B w2 b vn vs N S) := HA1.out.later hB2
  have KS : Hid (Blk w2 w.heap.size 103 [.int .i64 p, .int .i64 k]) := (KS0.alloc _).later hB2
  have HK2 : Hid (KeptA B w w2) := KeptA.of_below hA.out.base hB3
  have hvs : ∀ q, vs.ownBlock = some q → q < w.heap.size := fun q hq => (hA.out.spo.lt q hq).2
  obtain ⟨g3, cap3, w3, r3, c03, z03, A3, K3, k3⟩ := HA2.out.push kind n (by omega)
  have R3 : Hid _ := r3
  have HA3 : Hid _ := A3
  have HK3 : Hid (KeptA B w _) := HK2.out.trans K3
  have KS3 : Hid _ := k3 _ _ KS.out
  have c02 := HA2.out.c0
  rw [h3]
  clear r3 A3 K3 k3 hB1 hB2 hB3 KS0 s0 s1 HA1 HA2 hA
  go_wp2_with (at_builtin; have _t := R3; refine wpList_append_run rfl (.tmp 42) (.tmp 46) 22 22 rfl rfl rfl R3.out ?_; clear R3)
  obtain ⟨wy, hwy⟩ : ∃ wy, wy = w3.setCell ⟨b, 0, none⟩ (.slice (some ⟨g3, 0, none⟩) (N.length + 1) cap3) := ⟨_, rfl⟩
  have HAy : Hid (Ar B wy b (.slice (some ⟨g3, 0, none⟩) (N.length + 1) cap3) vs (N ++ [(kind, n, 0)]) S) := by rw [hwy]; exact HA3.out
  have HKy : Hid (KeptA B w wy) := by rw [hwy]; exact HK3.out
  have KSy : Hid (Blk wy w.heap.size 103 [.int .i64 p, .int .i64 k]) := by rw [hwy]; exact KS3.out
  rw [← hwy]
  clear hwy HA3 HK3 KS3 KS HK2 c03 z03 c02
  obtain ⟨g4, cap4, w4, r4, c14, z14, A4, K4, k4⟩ := Ar.pushs (w := wy.drew) ⟨HAy.out.blk, HAy.out.hb, HAy.out.nod, HAy.out.spo⟩ p k (by omega)
  have R4 : Hid ((Builtin.append_ #[98, 98] 98 #[vs, .slice (some ⟨wy.heap.size, 0, none⟩) 1 1]).run Tryd.prog (wy.alloc (.cells #[.int .i64 p, .int .i64 k] 103)).drew = .ok (.slice (some ⟨g4, 0, none⟩) (S.length + 1) cap4) w4) := r4
  obtain ⟨wx, hwx⟩ : ∃ wx, wx = w4.setCell ⟨b, 1, none⟩ (.slice (some ⟨g4, 0, none⟩) (S.length + 1) cap4) := ⟨_, rfl⟩
  have HAx : Hid (Ar B wx b (.slice (some ⟨g3, 0, none⟩) (N.length + 1) cap3) (.slice (some ⟨g4, 0, none⟩) (S.length + 1) cap4) (N ++ [(kind, n, 0)]) (S ++ [(p, k)])) := by rw [hwx]; exact A4
  have HKx : Hid (KeptA B w wx) := by rw [hwx]; exact HKy.out.drew.trans K4
  have KSx : Hid (Blk wx w.heap.size 103 [.int .i64 p, .int .i64 k]) := by rw [hwx]; exact (k4 _ _ (fun e => by have := hvs _ e; omega) KSy.out.drew).2
  clear r4 A4 K4 k4
  have d1 := HAy.out.c1
  have e0 : wy.cell? ⟨w.heap.size, 0, none⟩ = some (.int .i64 p) := KSy.out.cell 0
  have e1 : wy.cell? ⟨w.heap.size, 1, none⟩ = some (.int .i64 k) := KSy.out.cell 1
  have d1a : ∀ ob, (wy.alloc ob).cell? ⟨b, 1, none⟩ = some vs := fun ob => (HAy.out.blk.alloc ob).cell 1
  have e0a : ∀ ob, (wy.alloc ob).cell? ⟨w.heap.size, 0, none⟩ = some (.int .i64 p) := fun ob => (KSy.out.alloc ob).cell 0
  have e1a : ∀ ob, (wy.alloc ob).cell? ⟨w.heap.size, 1, none⟩ = some (.int .i64 k) := fun ob => (KSy.out.alloc ob).cell 1
  go_region_law (refine step_append_run rfl (.tmp 54) (.tmp 56) 98 98 rfl rfl rfl R4.out ?_)
  all_goals
    rw [← hwx]
    clear hwx c14 z14 d1 e0 e1 d1a e0a e1a R4
    have f0 := HAx.out.c0
    have hw1 : IntKind.i64.wrap (N.length : Int) = N.length := i64w _ (by omega)
    by_cases h0 : N.length = 0
    · have hf : Hid (addA N p kind n = N ++ [(kind, n, 0)]) := by
        show _ = _
        rw [addA, if_pos h0, List.length_eq_zero_iff.1 h0]
        rfl
      have f1 : wx.cell? ⟨b, 0, none⟩ = some (.slice (some ⟨g3, 0, none⟩) 1 cap3) := by rw [h0] at f0; exact f0
      clear f0
      go_wp2
      go_ret2
      exact ⟨by rw [h0]; rfl, _, _, by rw [hf.out]; exact HAx.out, HKx⟩
    · have h01 : (1 : Int) < (N.length : Int) + 1 := by omega
      obtain ⟨hk1, hk2, hk3, hk4, hk5⟩ := hk h0
      obtain ⟨o, rfl⟩ := Int.eq_ofNat_of_zero_le hk2
      have ho : o < N.length := by omega
      have hgd : (N ++ [(kind, n, 0)]).getD o nil0 = N.getD o nil0 := by rw [getD_snoc, if_neg (by omega)]
      have hf : Hid (addA N (o : Int) kind n = incK (N ++ [(kind, n, 0)]) o) := by show _ = _; rw [addA, if_neg h0, Int.toNat_natCast]
      have hkk : ((N ++ [(kind, n, 0)]).getD o nil0).2.2 = k := by rw [hgd]; exact hk1
      have g0 : wx.cell? ⟨w.heap.size, 0, none⟩ = some (.int .i64 (o : Int)) := KSx.out.cell 0
      have g1 : wx.cell? ⟨w.heap.size, 1, none⟩ = some (.int .i64 k) := KSx.out.cell 1
      have hcon := adopt_any B b o _ _ _ _ wx HAx (by simp; omega) (by simp; omega) (by rw [hkk]; exact ⟨hk4, hk5⟩)
      rw [hkk] at hcon
      unfold spotv at hcon
      clear hk hgd hkk hk1
      go_wp2_with fail
      refine hcon.mono ?_; rintro e w5 ⟨rfl, H5, HK5⟩
      have f5 := H5.out.c0
      clear hcon f0 g0 g1
      go_wp2
      go_ret2
      exact ⟨rfl, _, _, by rw [hf.out]; exact H5.out, HKx.out.trans HK5.out⟩
end Go.Proofs.YtlbgdgobhiokpaaDoor

/- Add: an arena with its gaps. -/
namespace Go.Proofs.YtlbgdgobhiokpaaDoor
open Go.RowKit
set_option linter.unusedVariables false

def addGE (N : List Nd) (G : Stk) (p k kind n : Int) : Int := if isK kind = true ∧ n ≤ mostN kind then refuseG N G p k else 40
theorem mostK_le (k : Int) : mostK k ≤ 1048576 := by
  unfold mostK
  split
  · omega
  · split
    · omega
    · split
      · omega
      · split <;> omega
theorem refuseG_zero {N : List Nd} {G : Stk} {p k : Int} (h : refuseG N G p k = 0) (h0 : N.length ≠ 0) : 0 ≤ p ∧ p < N.length ∧ 0 ≤ k ∧ k < mostK (N.getD p.toNat nil0).1 ∧ G.contains (p, k) = false ∧ (N.getD p.toNat nil0).2.2 ≤ k := by
  rw [refuseG, if_neg h0] at h
  split at h
  · omega
  · rename_i h1
    split at h
    · omega
    · rename_i h2
      split at h
      · omega
      · rename_i h3
        refine ⟨by omega, by omega, by omega, by omega, ?_, by omega⟩
        cases hc : G.contains (p, k)
        · rfl
        · exact absurd (.inl hc) h3
/-- The nodes and the gaps behind an Add; N, G: ahead of it. -/
def addN1 (N : List Nd) (G : Stk) (p k kind n : Int) : List Nd :=
  if N.length = 0 then [(kind, n, 0)]
  else if (N.getD p.toNat nil0).2.2 < k then N ++ [(kind, n, 0)]
  else setK (N ++ [(kind, n, 0)]) p.toNat (fillG G.length p (k + 1) G).1
def addG1 (N : List Nd) (G : Stk) (p k : Int) : Stk :=
  if N.length = 0 then G
  else if (N.getD p.toNat nil0).2.2 < k then G ++ [(p, k)]
  else (fillG G.length p (k + 1) G).2
set_option maxRecDepth 100000 in
set_option maxHeartbeats 8000000 in
theorem addG_err (B b : Nat) (p k kind n : Int) (vn vs vm : Value) (N : List Nd) (S G : Stk) (w : World) (hA : Hid (An B w b vn vs vm N S G)) (hN : N.length ≤ 1000000) (hkr : InR k) (he : addGE N G p k kind n ≠ 0) :
    Calls Tryd.prog 24 #[.pointer (some ⟨b, 0, none⟩), .int .i64 p, .int .i64 k, .int .i64 kind, .int .u64 n] w fun e w' => e = .returned (pairv (0, addGE N G p k kind n)) ∧ Below w.heap.size w w' := by
  go_enter Tryd.func24, Tryd.ntmps24
  go_wp2_with fail
  refine (bounds_any kind _).mono ?_; rintro e w1 ⟨rfl, hB1⟩
  have hBw : Below w.heap.size w w1 := ((Below.refl w.heap.size w).alloc (Nat.le_refl _) _).trans (hB1.mono (by simp))
  have HE0 : Hid (addGE N G p k kind n = if isK kind = true ∧ n ≤ mostN kind then refuseG N G p k else 40) := rfl
  have KS := (Blk.newA w #[.int .i64 p, .int .i64 k] 103).later hB1
  unfold bnd
  by_cases h1 : isK kind = true
  · by_cases h2 : n ≤ mostN kind
    · rw [if_pos ⟨h1, h2⟩] at HE0
      have HA1 : Hid (An B (w1.alloc (.cells #[.int .u64 (mostN kind), .int .i64 (leastK kind), .int .i64 (mostK kind)] 105)) b vn vs vm N S G) := (hA.out.later hBw).later ((Below.refl _ _).alloc (Nat.le_refl _) _)
      have s0 : ∀ ob, (w1.alloc ob).cell? ⟨w.heap.size, 0, none⟩ = some (.int .i64 p) := fun ob => (KS.alloc ob).cell 0
      have s1 : ∀ ob, (w1.alloc ob).cell? ⟨w.heap.size, 1, none⟩ = some (.int .i64 k) := fun ob => (KS.alloc ob).cell 1
      have h2' : ¬ mostN kind < n := by omega
      rw [h1]
      go_wp2_with fail
      refine (refuseG_any B b p k vn vs vm N S G _ HA1 hN hkr).mono ?_; rintro e w2 ⟨rfl, hB2⟩
      have hB3 : Below w.heap.size w w2 := (hBw.alloc hBw.size _).trans (hB2.mono (by have := hBw.size; simp; omega))
      rw [← HE0.out]
      have hbe : ¬ addGE N G p k kind n = 0 := he
      go_wp2
      go_ret2
      exact ⟨rfl, hB3⟩
    · rw [if_neg (by simp [h2])] at HE0
      have h2' : mostN kind < n := by omega
      rw [h1]
      go_wp2
      go_ret2
      exact ⟨ret_pair (by rw [HE0.out]), hBw.alloc hBw.size _⟩
  · have h1' : isK kind = false := by simpa using h1
    rw [if_neg (by simp [h1])] at HE0
    rw [h1']
    go_wp2
    go_ret2
    exact ⟨ret_pair (by rw [HE0.out]), hBw.alloc hBw.size _⟩
set_option maxRecDepth 100000 in
set_option maxHeartbeats 8000000 in
theorem addG_ok (B b : Nat) (p k kind n : Int) (vn vs vm : Value) (N : List Nd) (S G : Stk) (w : World) (hA : Hid (An B w b vn vs vm N S G)) (hN : N.length ≤ 900000) (hS : S.length ≤ 900000) (hG : G.length ≤ 900000) (hkr : InR k) (he : addGE N G p k kind n = 0) (hk : N.length ≠ 0 → 0 ≤ (N.getD p.toNat nil0).2.2) :
    Calls Tryd.prog 24 #[.pointer (some ⟨b, 0, none⟩), .int .i64 p, .int .i64 k, .int .i64 kind, .int .u64 n] w fun e w' => e = .returned (pairv ((N.length : Int), 0)) ∧ ∃ vn' vs' vm', Hid (An B w' b vn' vs' vm' (addN1 N G p k kind n) (S ++ [(p, k)]) (addG1 N G p k)) ∧ Hid (Mv b vn vs vm w vn' vs' vm' w') := by
  go_enter Tryd.func24, Tryd.ntmps24
  go_wp2_with fail
  refine (bounds_any kind _).mono ?_; rintro e w1 ⟨rfl, hB1⟩
  have hBw : Below w.heap.size w w1 := ((Below.refl w.heap.size w).alloc (Nat.le_refl _) _).trans (hB1.mono (by simp))
  have hin : isK kind = true ∧ n ≤ mostN kind ∧ refuseG N G p k = 0 := by
    unfold addGE at he
    split at he
    · exact ⟨by rename_i h; exact h.1, by rename_i h; exact h.2, he⟩
    · omega
  obtain ⟨h1, h2, h3⟩ := hin
  have KS0 := (Blk.newA w #[.int .i64 p, .int .i64 k] 103).later hB1
  have HA1 : Hid (An B (w1.alloc (.cells #[.int .u64 (mostN kind), .int .i64 (leastK kind), .int .i64 (mostK kind)] 105)) b vn vs vm N S G) := (hA.out.later hBw).later ((Below.refl _ _).alloc (Nat.le_refl _) _)
  have s0 : ∀ ob, (w1.alloc ob).cell? ⟨w.heap.size, 0, none⟩ = some (.int .i64 p) := fun ob => (KS0.alloc ob).cell 0
  have s1 : ∀ ob, (w1.alloc ob).cell? ⟨w.heap.size, 1, none⟩ = some (.int .i64 k) := fun ob => (KS0.alloc ob).cell 1
  have h2' : ¬ mostN kind < n := by omega
  unfold bnd
  rw [h1]
  go_wp2_with fail
  refine (refuseG_any B b p k vn vs vm N S G _ HA1 (by omega) hkr).mono ?_; rintro e w2 ⟨rfl, hB2⟩
  have hB3 : Below w.heap.size w w2 := (hBw.alloc hBw.size _).trans (hB2.mono (by have := hBw.size; simp; omega))
  have HA2 : Hid (An B w2 b vn vs vm N S G) := HA1.out.later hB2
  have KS : Hid (Blk w2 w.heap.size 103 [.int .i64 p, .int .i64 k]) := (KS0.alloc _).later hB2
  have HK2 : Hid (Mv b vn vs vm w vn vs vm w2) := Mv.of_below hB3
  have HF : Hid (¬ Ft b vn vs vm w.heap.size) := fun h => absurd (hA.out.feet h).2 (Nat.lt_irrefl _)
  have hlt2 := KS.out.lt
  obtain ⟨g3, cap3, w3, r3, c03, z03, A3, K3⟩ := HA2.out.push kind n (by omega)
  have R3 : Hid _ := r3
  have HA3 : Hid _ := A3
  have HK3 : Hid _ := HK2.out.trans K3
  have KS3 : Hid _ := K3.blk KS.out HF.out
  have HF3 : Hid _ := K3.off hlt2 HF.out
  have c02 := HA2.out.c0
  rw [h3]
  clear r3 A3 K3 hlt2 hB1 hB2 hB3 KS0 s0 s1 HA1 HA2 hA
  go_wp2_with (at_builtin; have _t := R3; refine wpList_append_run rfl (.tmp 42) (.tmp 46) 22 22 rfl rfl rfl R3.out ?_; clear R3)
  obtain ⟨wy, hwy⟩ : ∃ wy, wy = w3.setCell ⟨b, 0, none⟩ (.slice (some ⟨g3, 0, none⟩) (N.length + 1) cap3) := ⟨_, rfl⟩
  have HAy : Hid (An B wy b (.slice (some ⟨g3, 0, none⟩) (N.length + 1) cap3) vs vm (N ++ [(kind, n, 0)]) S G) := by rw [hwy]; exact HA3.out
  have HKy : Hid (Mv b vn vs vm w (.slice (some ⟨g3, 0, none⟩) (N.length + 1) cap3) vs vm wy) := by rw [hwy]; exact HK3.out
  have KSy : Hid (Blk wy w.heap.size 103 [.int .i64 p, .int .i64 k]) := by rw [hwy]; exact KS3.out
  rw [← hwy]
  clear hwy HA3 HK3 KS3 KS HK2 c03 z03 c02
  obtain ⟨g4, cap4, w4, r4, c14, z14, A4, K4⟩ := An.pushs (w := wy.drew) HAy.out.drew p k (by omega)
  have R4 : Hid ((Builtin.append_ #[98, 98] 98 #[vs, .slice (some ⟨wy.heap.size, 0, none⟩) 1 1]).run Tryd.prog (wy.alloc (.cells #[.int .i64 p, .int .i64 k] 103)).drew = .ok (.slice (some ⟨g4, 0, none⟩) (S.length + 1) cap4) w4) := r4
  obtain ⟨wx, hwx⟩ : ∃ wx, wx = w4.setCell ⟨b, 1, none⟩ (.slice (some ⟨g4, 0, none⟩) (S.length + 1) cap4) := ⟨_, rfl⟩
  have HAx : Hid (An B wx b (.slice (some ⟨g3, 0, none⟩) (N.length + 1) cap3) (.slice (some ⟨g4, 0, none⟩) (S.length + 1) cap4) vm (N ++ [(kind, n, 0)]) (S ++ [(p, k)]) G) := by rw [hwx]; exact A4
  have HKx : Hid (Mv b vn vs vm w (.slice (some ⟨g3, 0, none⟩) (N.length + 1) cap3) (.slice (some ⟨g4, 0, none⟩) (S.length + 1) cap4) vm wx) := by rw [hwx]; exact HKy.out.drew.trans K4
  have KSx : Hid (Blk wx w.heap.size 103 [.int .i64 p, .int .i64 k]) := by rw [hwx]; exact K4.blk KSy.out.drew HF3.out
  clear r4 A4 K4
  have d1 := HAy.out.c1
  have e0 : wy.cell? ⟨w.heap.size, 0, none⟩ = some (.int .i64 p) := KSy.out.cell 0
  have e1 : wy.cell? ⟨w.heap.size, 1, none⟩ = some (.int .i64 k) := KSy.out.cell 1
  have d1a : ∀ ob, (wy.alloc ob).cell? ⟨b, 1, none⟩ = some vs := fun ob => (HAy.out.blk.alloc ob).cell 1
  have e0a : ∀ ob, (wy.alloc ob).cell? ⟨w.heap.size, 0, none⟩ = some (.int .i64 p) := fun ob => (KSy.out.alloc ob).cell 0
  have e1a : ∀ ob, (wy.alloc ob).cell? ⟨w.heap.size, 1, none⟩ = some (.int .i64 k) := fun ob => (KSy.out.alloc ob).cell 1
  go_region_law (refine step_append_run rfl (.tmp 54) (.tmp 56) 98 98 rfl rfl rfl R4.out ?_)
  all_goals
    rw [← hwx]
    clear hwx c14 z14 d1 e0 e1 d1a e0a e1a R4
    have f0 := HAx.out.c0
    have hw1 : IntKind.i64.wrap (N.length : Int) = N.length := i64w _ (by omega)
    by_cases h0 : N.length = 0
    · have hf : Hid (addN1 N G p k kind n = N ++ [(kind, n, 0)] ∧ addG1 N G p k = G) := by
        show _ ∧ _
        rw [addN1, if_pos h0, addG1, if_pos h0, List.length_eq_zero_iff.1 h0]
        exact ⟨rfl, rfl⟩
      have f1 : wx.cell? ⟨b, 0, none⟩ = some (.slice (some ⟨g3, 0, none⟩) 1 cap3) := by rw [h0] at f0; exact f0
      clear f0
      go_wp2
      go_ret2
      exact ⟨by rw [h0]; rfl, _, _, _, by rw [hf.out.1, hf.out.2]; exact HAx.out, HKx⟩
    · have h01 : (1 : Int) < (N.length : Int) + 1 := by omega
      obtain ⟨hk2, hk3, hk4, hk6, hk7, hk8⟩ := refuseG_zero h3 h0
      have hk5 := mostK_le (N.getD p.toNat nil0).1
      have hk9 := hk h0
      obtain ⟨o, rfl⟩ := Int.eq_ofNat_of_zero_le hk2
      rw [Int.toNat_natCast] at hk5 hk6 hk8 hk9
      have ho : o < N.length := by omega
      have hgd : (N ++ [(kind, n, 0)]).getD o nil0 = N.getD o nil0 := by rw [getD_snoc, if_neg (by omega)]
      have g0 : wx.cell? ⟨w.heap.size, 0, none⟩ = some (.int .i64 (o : Int)) := KSx.out.cell 0
      have g1 : wx.cell? ⟨w.heap.size, 1, none⟩ = some (.int .i64 k) := KSx.out.cell 1
      by_cases hgap : (N.getD o nil0).2.2 < k
      · have hf : Hid (addN1 N G (o : Int) k kind n = N ++ [(kind, n, 0)] ∧ addG1 N G (o : Int) k = G ++ [((o : Int), k)]) := by
          show _ ∧ _
          rw [addN1, if_neg h0, addG1, if_neg h0, Int.toNat_natCast, if_pos hgap, if_pos hgap]
          exact ⟨rfl, rfl⟩
        have hcon := adoptG_gap B b o k _ _ _ _ _ G wx HAx (by simp; omega) (by simp; omega) hkr (by rw [hgd]; exact hgap) (by omega) hk7
        unfold spotv at hcon
        clear hk hgd hk5 hk6 hk7 hk8 hk9 hgap
        go_wp2_with fail
        refine hcon.mono ?_; rintro e w5 ⟨rfl, vm5, H5, HK5⟩
        have f5 := H5.out.c0
        clear hcon f0 g0 g1
        go_wp2
        go_ret2
        exact ⟨rfl, _, _, _, by rw [hf.out.1, hf.out.2]; exact H5.out, HKx.out.trans HK5.out⟩
      · have hf : Hid (addN1 N G (o : Int) k kind n = setK (N ++ [(kind, n, 0)]) o (fillG G.length (o : Int) (k + 1) G).1 ∧ addG1 N G (o : Int) k = (fillG G.length (o : Int) (k + 1) G).2) := by
          show _ ∧ _
          rw [addN1, if_neg h0, addG1, if_neg h0, Int.toNat_natCast, if_neg hgap, if_neg hgap]
          exact ⟨rfl, rfl⟩
        have hcon := adoptG_fill B b o k _ _ _ _ _ G wx HAx (by simp; omega) (by simp; omega) (by rw [hgd]; omega) (by omega) (by omega)
        unfold spotv at hcon
        clear hk hgd hk5 hk6 hk7 hk8 hk9 hgap
        go_wp2_with fail
        refine hcon.mono ?_; rintro e w5 ⟨rfl, H5, HK5⟩
        have f5 := H5.out.c0
        clear hcon f0 g0 g1
        go_wp2
        go_ret2
        exact ⟨rfl, _, _, _, by rw [hf.out.1, hf.out.2]; exact H5.out, HKx.out.trans HK5.out⟩
end Go.Proofs.YtlbgdgobhiokpaaDoor

/- whole. -/
namespace Go.Proofs.YtlbgdgobhiokpaaDoor
open Go.RowKit
set_option linter.unusedVariables false

def wholeB (N : List Nd) (G : Stk) : Bool := N.all right && (decide (0 < N.length) && decide (G.length = 0))
theorem all_of {N : List Nd} (h : ∀ j, j < N.length → right (N.getD j nil0) = true) : N.all right = true := by
  rw [List.all_eq_true]
  intro x hx
  obtain ⟨j, hj, rfl⟩ := List.mem_iff_getElem.1 hx
  have := h j hj
  rwa [List.getD_eq_getElem?_getD, List.getElem?_eq_getElem hj, Option.getD_some] at this
theorem not_all {N : List Nd} {j : Nat} (hj : j < N.length) (h : right (N.getD j nil0) = false) : N.all right = false := by
  cases ha : N.all right
  · rfl
  · rw [List.all_eq_true] at ha
    have := ha _ (List.getElem_mem hj)
    rw [List.getD_eq_getElem?_getD, List.getElem?_eq_getElem hj, Option.getD_some, this] at h
    cases h
set_option maxRecDepth 100000 in
set_option maxHeartbeats 8000000 in
theorem whole_any (B b : Nat) (vn vs vm : Value) (N : List Nd) (S G : Stk) (w : World) (hA : Hid (An B w b vn vs vm N S G)) (hN : N.length ≤ 1000000) :
    Calls Tryd.prog 47 #[.pointer (some ⟨b, 0, none⟩)] w fun e w' => e = .returned (.bool (wholeB N G)) ∧ Below w.heap.size w w' := by
  obtain ⟨an, cn, rfl, hcn⟩ := hA.out.vn_is
  have c0 := hA.out.c0
  go_enter Tryd.func47, Tryd.ntmps47
  go_wp2_with fail
  go_loopw [10] (fun xi wr => ∃ i : Nat, i ≤ N.length ∧ xi = .int .i64 i ∧ Hid (∀ j, j < i → right (N.getD j nil0) = true) ∧ Hid (Below w.heap.size w wr)) (fun xi _ => N.length - (intOf xi).toNat)
  case atStart => exact ⟨0, Nat.zero_le _, rfl, fun j hj => absurd hj (Nat.not_lt_zero _), Below.refl _ _⟩
  case round =>
    clear c0
    obtain ⟨i, hi, rfl, HR, HB⟩ := hrel
    have HAr : Hid (An B wr b (.slice an N.length cn) vs vm N S G) := hA.out.later HB.out
    have c0 := HAr.out.c0; have c2 := HAr.out.c2
    by_cases hend : i = N.length
    · subst hend
      have hlt : ¬ ((N.length : Int) < N.length) := by omega
      have hlen : (Builtin.len_ #[99] 3 #[vm]).run Tryd.prog wr = .ok (.int .i64 G.length) wr := HAr.out.len 3
      have HW : Hid (wholeB N G = (decide (0 < N.length) && decide (G.length = 0))) := by show _ = _; rw [wholeB, all_of HR.out, Bool.true_and]
      by_cases h0 : N.length = 0
      · have hgt : ¬ ((0 : Int) < (N.length : Int)) := by omega
        have hgt' : ¬ (0 < N.length) := by omega
        rw [decide_eq_false hgt'] at HW
        go_wp2
        go_ret
        exact ⟨by rw [HW.out]; rfl, HB.out⟩
      · have hgt : (0 : Int) < (N.length : Int) := by omega
        have hgt' : 0 < N.length := by omega
        rw [decide_eq_true hgt'] at HW
        by_cases hg : G.length = 0
        · rw [decide_eq_true hg] at HW
          rw [hg] at hlen
          go_wp2
          go_ret
          exact ⟨by rw [HW.out]; rfl, HB.out⟩
        · rw [decide_eq_false hg] at HW
          have hgb : ((G.length : Int) == 0) = false := beq_eq_false_iff_ne.2 (by omega)
          go_wp2
          go_ret
          exact ⟨by rw [HW.out]; rfl, HB.out⟩
    · have hil : i < N.length := by omega
      have hil' : (i : Int) < N.length := by omega
      obtain ⟨gn, cn', hvn, -, hn1, hn2, hgn, n0, n1, n2, -, -⟩ := HAr.out.node hil
      have e1 : an = some ⟨gn, 0, none⟩ ∧ cn = cn' := by simpa using hvn
      obtain ⟨rfl, rfl⟩ := e1
      obtain ⟨x, hx⟩ : ∃ x, N.getD i nil0 = x := ⟨_, rfl⟩
      rw [hx] at n0 n1 n2
      clear hvn
      go_wp2_with fail
      refine (right_any (x.1, x.2.1, x.2.2) _).mono ?_; rintro e w2 ⟨rfl, hB2⟩
      have hB3 : Below w.heap.size w w2 := (HB.out.alloc HB.out.size _).trans (hB2.mono (by have := HB.out.size; simp; omega))
      cases hr : right (x.1, x.2.1, x.2.2)
      · have HW : Hid (wholeB N G = false) := by show _ = _; rw [wholeB, not_all hil (by rw [hx]; exact hr)]; rfl
        go_wp2
        go_ret
        exact ⟨by rw [HW.out]; rfl, hB3⟩
      · go_wp2
        go_roundw
        case rel =>
          refine ⟨i + 1, by omega, by go_num, fun j hj => ?_, hB3⟩
          by_cases hj' : j = i
          · rw [hj', hx]; exact hr
          · exact HR.out j (by omega)
        case measure => simp [intOf]; omega
end Go.Proofs.YtlbgdgobhiokpaaDoor

/- Where an arena's kids lie, plain; slices of a slice, by their runs. -/
namespace Go.Proofs.YtlbgdgobhiokpaaDoor
open Go.RowKit
set_option linter.unusedVariables false

def kN (x : Nd) : Nat := x.2.2.toNat
def offN (N : List Nd) (j : Nat) : Nat := ((N.take j).map kN).sum
theorem offN_zero (N : List Nd) : offN N 0 = 0 := rfl
theorem take_succ' (N : List Nd) (j : Nat) (h : j < N.length) : N.take (j + 1) = N.take j ++ [N.getD j nil0] := by
  rw [List.take_add_one, List.getD_eq_getElem?_getD, List.getElem?_eq_getElem h]
  rfl
theorem offN_succ (N : List Nd) (j : Nat) (h : j < N.length) : offN N (j + 1) = offN N j + kN (N.getD j nil0) := by
  rw [offN, take_succ' N j h, List.map_append, List.sum_append]
  rfl
theorem offN_mono (N : List Nd) (i : Nat) : ∀ d, i + d ≤ N.length → offN N i ≤ offN N (i + d)
  | 0, _ => Nat.le_refl _
  | d + 1, h => by
    have h1 := offN_mono N i d (by omega)
    have h2 := offN_succ N (i + d) (by omega)
    rw [← Nat.add_assoc, h2]
    omega
theorem offN_le (N : List Nd) {i j : Nat} (h : i ≤ j) (hj : j ≤ N.length) : offN N i ≤ offN N j := by
  have := offN_mono N i (j - i) (by omega)
  rwa [show i + (j - i) = j by omega] at this
/-- Place k of node p's kids lies in the room. -/
theorem offN_in (N : List Nd) {T p k : Nat} (hT : offN N N.length = T) (hp : p < N.length) (hk : k < kN (N.getD p nil0)) : offN N p + k < T := by
  have h1 := offN_succ N p hp
  have h2 := offN_le N (show p + 1 ≤ N.length by omega) (Nat.le_refl _)
  omega
theorem offN_inj (N : List Nd) {p k p' k' : Nat} (hp : p < N.length) (hk : k < kN (N.getD p nil0)) (hp' : p' < N.length) (hk' : k' < kN (N.getD p' nil0)) (h : offN N p + k = offN N p' + k') : p = p' ∧ k = k' := by
  have h1 := offN_succ N p hp
  have h2 := offN_succ N p' hp'
  rcases Nat.lt_trichotomy p p' with hlt | heq | hgt
  · have := offN_le N (show p + 1 ≤ p' by omega) (by omega)
    omega
  · subst heq
    exact ⟨rfl, by omega⟩
  · have := offN_le N (show p' + 1 ≤ p by omega) (by omega)
    omega
theorem elem43 : Tryd.prog.underlying 43 = some (.slice (Tryd.prog.elem 43)) := by kernel_rfl
theorem size43 : (Tryd.prog.info? (Tryd.prog.elem 43)).map (·.size) = some 1 := by kernel_rfl
theorem sizeOf43 (w : World) : (sizeOf (Tryd.prog.elem 43)).run Tryd.prog w = .ok 1 w := by
  obtain ⟨i, hi, hsz⟩ : ∃ i, Tryd.prog.info? (Tryd.prog.elem 43) = some i ∧ i.size = 1 := by
    have := size43
    cases hh : Tryd.prog.info? (Tryd.prog.elem 43) with
    | none => rw [hh] at this; cases this
    | some i => rw [hh] at this; exact ⟨i, rfl, by simpa using this⟩
  simp [sizeOf, typeInfo, hi, hsz, Result.andThen]
/-- x[:k], x[k:]. -/
theorem cut_h (a : Option Addr) (R k : Nat) (c : Int) (hc : c = k) (hk : k ≤ R) (w' : World) : (Instr.slice 43 (.slice a R R) none (some (.int .i64 c)) none).run Tryd.prog w' = .ok (.slice a k R) w' := by
  subst hc
  rw [run_slice_h (P := Tryd.prog) w' 43 a R R elem43 .i64 k (by omega) (by omega), sizeOf43]
  simp [sliced, Result.andThen]
  cases a with
  | none => simp
  | some x => simp [Addr.add]
theorem cut_l (g x R k : Nat) (c : Int) (hc : c = k) (hk : k ≤ R) : ∃ x' : Nat, (k < R → x' = x + k) ∧ ∀ w', (Instr.slice 43 (.slice (some ⟨g, x, none⟩) R R) (some (.int .i64 c)) none none).run Tryd.prog w' = .ok (.slice (some ⟨g, x', none⟩) (R - k) (R - k)) w' := by
  subst hc
  refine ⟨if R = k then x else x + k, fun h => if_neg (by omega), fun w' => ?_⟩
  rw [run_slice_l (P := Tryd.prog) w' 43 _ R R elem43 .i64 k (by omega) (by omega), sizeOf43]
  by_cases h : R = k
  · simp [sliced, Result.andThen, h]
  · simp [sliced, Result.andThen, h, add_none]
/-- The rows of kids, as far as they are laid; the room. -/
structure Kd (w : World) (gk gr : Nat) (N : List Nd) (i : Nat) (R : List Int) : Prop where
  kb : ∃ K, Blk w gk 43 K ∧ K.length = N.length ∧ (∀ j, j < N.length → ∃ u, K[j]? = some u) ∧ ∀ j, j < i → ∃ x c, K[j]? = some (.slice (some ⟨gr, x, none⟩) (kN (N.getD j nil0)) c) ∧ (0 < kN (N.getD j nil0) → x = offN N j) ∧ kN (N.getD j nil0) ≤ c ∧ c ≤ N.length
  rb : Blk w gr 3 (cellsL .i64 R)
section
variable {w w' : World} {gk gr : Nat} {N : List Nd} {i : Nat} {R : List Int}
theorem Kd.later (h : Kd w gk gr N i R) (hB : Below w.heap.size w w') : Kd w' gk gr N i R := by
  obtain ⟨K, h1, h2⟩ := h.kb
  exact ⟨⟨K, h1.later hB, h2⟩, h.rb.later hB⟩
theorem Kd.ne (h : Kd w gk gr N i R) : gk ≠ gr := by
  obtain ⟨K, h1, _⟩ := h.kb
  exact blk_ne h1 h.rb (by decide)
theorem Kd.cell (h : Kd w gk gr N i R) (hi : i < N.length) : (∃ u, w.cell? ⟨gk, i, none⟩ = some u) ∧ w.frozen? ⟨gk, i, none⟩ = false := by
  obtain ⟨K, h1, h2, h3, _⟩ := h.kb
  exact ⟨by rw [h1.cell]; exact h3 i hi, h1.frozen i⟩
/-- The next row is laid. -/
theorem Kd.lay (h : Kd w gk gr N i R) (hi : i < N.length) {x c : Nat} (hx : 0 < kN (N.getD i nil0) → x = offN N i) (hc : kN (N.getD i nil0) ≤ c) (hcN : c ≤ N.length) :
    Kd (w.setCell ⟨gk, i, none⟩ (.slice (some ⟨gr, x, none⟩) (kN (N.getD i nil0)) c)) gk gr N (i + 1) R := by
  obtain ⟨K, h1, h2, h3, h4⟩ := h.kb
  refine ⟨⟨_, h1.set i _, by simpa using h2, fun j hj => ?_, fun j hj => ?_⟩, h.rb.other _ _ fun e => h.ne e.symm⟩
  · by_cases e : j = i
    · subst e
      exact ⟨_, List.getElem?_set_self (by omega)⟩
    · rw [List.getElem?_set_ne (by omega)]
      exact h3 j hj
  · by_cases e : j = i
    · subst e
      exact ⟨x, c, List.getElem?_set_self (by omega), hx, hc, hcN⟩
    · rw [List.getElem?_set_ne (by omega)]
      exact h4 j (by omega)
theorem Kd.at (h : Kd w gk gr N i R) {j : Nat} (hj : j < i) : ∃ x c, w.cell? ⟨gk, j, none⟩ = some (.slice (some ⟨gr, x, none⟩) (kN (N.getD j nil0)) c) ∧ (0 < kN (N.getD j nil0) → x = offN N j) ∧ kN (N.getD j nil0) ≤ c ∧ c ≤ N.length := by
  obtain ⟨K, h1, h2, h3, h4⟩ := h.kb
  obtain ⟨x, c, h5, h6⟩ := h4 j hj
  exact ⟨x, c, by rw [h1.cell, h5], h6⟩
theorem Kd.room (h : Kd w gk gr N i R) {j : Nat} (hj : j < R.length) : w.cell? ⟨gr, j, none⟩ = some (.int .i64 (R.getD j 0)) ∧ w.frozen? ⟨gr, j, none⟩ = false := ⟨by rw [h.rb.cell, cellsL_at _ _ _ hj], h.rb.frozen j⟩
theorem Kd.put (h : Kd w gk gr N i R) (j : Nat) (x : Int) : Kd (w.setCell ⟨gr, j, none⟩ (.int .i64 x)) gk gr N i (R.set j x) := by
  obtain ⟨K, h1, h2⟩ := h.kb
  refine ⟨⟨K, h1.other _ _ h.ne, h2⟩, ?_⟩
  rw [← cellsL_set]
  exact h.rb.set j _
end
theorem kd_new {w : World} {gk gr n : Nat} {N : List Nd} {R : List Int} (hl : N.length = n) (h1 : Blk w gk 43 (List.replicate n (.slice none 0 0))) (h2 : Blk w gr 3 (cellsL .i64 R)) : Kd w gk gr N 0 R :=
  ⟨⟨_, h1, by simp [hl], fun j hj => ⟨_, by rw [List.getElem?_replicate, if_pos (by omega)]⟩, fun j hj => absurd hj (Nat.not_lt_zero _)⟩, h2⟩
end Go.Proofs.YtlbgdgobhiokpaaDoor
