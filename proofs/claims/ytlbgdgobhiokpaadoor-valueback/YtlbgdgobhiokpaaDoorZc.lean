/- Add: kids that come in order. -/
import Derived.Test.YtlbgdgobhiokpaaDoorZb
import Derived.Deep.RegionLaw
namespace Go.Proofs.YtlbgdgobhiokpaaDoor
open Go.RowKit
set_option linter.unusedVariables false

def addE (N : List Nd) (p k kind n : Int) : Int := if isK kind = true ∧ n ≤ mostN kind then refuseR N p k else 40
theorem refuseR_vals (N : List Nd) (p k : Int) : refuseR N p k = 0 ∨ refuseR N p k = 3 ∨ refuseR N p k = 40 := by
  unfold refuseR
  split
  · split <;> simp
  · split
    · simp
    · split
      · simp
      · split <;> simp
set_option maxRecDepth 100000 in
set_option maxHeartbeats 8000000 in
theorem addA_err (B b : Nat) (p k kind n : Int) (vn vs : Value) (N : List Nd) (S : Stk) (w : World) (hA : Hid (Ar B w b vn vs N S)) (hN : N.length ≤ 1000000) (he : addE N p k kind n ≠ 0) :
    Calls Tryd.prog 24 #[.pointer (some ⟨b, 0, none⟩), .int .i64 p, .int .i64 k, .int .i64 kind, .int .u64 n] w fun e w' => e = .returned (pairv (0, addE N p k kind n)) ∧ Below w.heap.size w w' := by
  go_enter Tryd.func24, Tryd.ntmps24
  go_wp2_with fail
  refine (bounds_any kind _).mono ?_; rintro e w1 ⟨rfl, hB1⟩
  have hBw : Below w.heap.size w w1 := ((Below.refl w.heap.size w).alloc (Nat.le_refl _) _).trans (hB1.mono (by simp))
  have HE0 : Hid (addE N p k kind n = if isK kind = true ∧ n ≤ mostN kind then refuseR N p k else 40) := rfl
  have KS := (Blk.newA w #[.int .i64 p, .int .i64 k] 103).later hB1
  unfold bnd
  by_cases h1 : isK kind = true
  · by_cases h2 : n ≤ mostN kind
    · rw [if_pos ⟨h1, h2⟩] at HE0
      have HA1 : Hid (Ar B (w1.alloc (.cells #[.int .u64 (mostN kind), .int .i64 (leastK kind), .int .i64 (mostK kind)] 105)) b vn vs N S) := (hA.out.later hBw).later ((Below.refl _ _).alloc (Nat.le_refl _) _)
      have s0 : ∀ ob, (w1.alloc ob).cell? ⟨w.heap.size, 0, none⟩ = some (.int .i64 p) := fun ob => (KS.alloc ob).cell 0
      have s1 : ∀ ob, (w1.alloc ob).cell? ⟨w.heap.size, 1, none⟩ = some (.int .i64 k) := fun ob => (KS.alloc ob).cell 1
      have h2' : ¬ mostN kind < n := by omega
      rw [h1]
      go_wp2_with fail
      refine (refuse_any B b p k vn vs N S _ HA1 hN).mono ?_; rintro e w2 ⟨rfl, hB2⟩
      have hB3 : Below w.heap.size w w2 := (hBw.alloc hBw.size _).trans (hB2.mono (by have := hBw.size; simp; omega))
      rw [← HE0.out]
      have hbe : ¬ addE N p k kind n = 0 := he
      go_wp2
      go_ret2
      exact ⟨rfl, hB3⟩
    · rw [if_neg (by simp [h2])] at HE0
      have h2' : mostN kind < n := by omega
      rw [h1]
      go_wp2
      go_ret2
      exact ⟨ret_pair (by rw [HE0.out]), hBw.alloc hBw.size _⟩
  · have h1' : isK kind = false := by simpa using h1
    rw [if_neg (by simp [h1])] at HE0
    rw [h1']
    go_wp2
    go_ret2
    exact ⟨ret_pair (by rw [HE0.out]), hBw.alloc hBw.size _⟩
/-- The nodes behind an Add. -/
def addA (N : List Nd) (p : Int) (kind n : Int) : List Nd := if N.length = 0 then [(kind, n, 0)] else incK (N ++ [(kind, n, 0)]) p.toNat
set_option maxRecDepth 100000 in
set_option maxHeartbeats 8000000 in
theorem addA_ok (B b : Nat) (p k kind n : Int) (vn vs : Value) (N : List Nd) (S : Stk) (w : World) (hA : Hid (Ar B w b vn vs N S)) (hN : N.length ≤ 900000) (hS : S.length ≤ 900000) (he : addE N p k kind n = 0) (hk : N.length ≠ 0 → (N.getD p.toNat nil0).2.2 = k ∧ 0 ≤ p ∧ p < N.length ∧ 0 ≤ k ∧ k ≤ 2000000) :
    Calls Tryd.prog 24 #[.pointer (some ⟨b, 0, none⟩), .int .i64 p, .int .i64 k, .int .i64 kind, .int .u64 n] w fun e w' => e = .returned (pairv ((N.length : Int), 0)) ∧ ∃ vn' vs', Hid (Ar B w' b vn' vs' (addA N p kind n) (S ++ [(p, k)])) ∧ Hid (KeptA B w w') := by
  go_enter Tryd.func24, Tryd.ntmps24
  go_wp2_with fail
  refine (bounds_any kind _).mono ?_; rintro e w1 ⟨rfl, hB1⟩
  have hBw : Below w.heap.size w w1 := ((Below.refl w.heap.size w).alloc (Nat.le_refl _) _).trans (hB1.mono (by simp))
  have hin : isK kind = true ∧ n ≤ mostN kind ∧ refuseR N p k = 0 := by
    unfold addE at he
    split at he
    · exact ⟨by rename_i h; exact h.1, by rename_i h; exact h.2, he⟩
    · omega
  obtain ⟨h1, h2, h3⟩ := hin
  have KS0 := (Blk.newA w #[.int .i64 p, .int .i64 k] 103).later hB1
  have HA1 : Hid (Ar B (w1.alloc (.cells #[.int .u64 (mostN kind), .int .i64 (leastK kind), .int .i64 (mostK kind)] 105)) b vn vs N S) := (hA.out.later hBw).later ((Below.refl _ _).alloc (Nat.le_refl _) _)
  have s0 : ∀ ob, (w1.alloc ob).cell? ⟨w.heap.size, 0, none⟩ = some (.int .i64 p) := fun ob => (KS0.alloc ob).cell 0
  have s1 : ∀ ob, (w1.alloc ob).cell? ⟨w.heap.size, 1, none⟩ = some (.int .i64 k) := fun ob => (KS0.alloc ob).cell 1
  have h2' : ¬ mostN kind < n := by omega
  unfold bnd
  rw [h1]
  go_wp2_with fail
  refine (refuse_any B b p k vn vs N S _ HA1 (by omega)).mono ?_; rintro e w2 ⟨rfl, hB2⟩
  have hB3 : Below w.heap.size w w2 := (hBw.alloc hBw.size _).trans (hB2.mono (by have := hBw.size; simp; omega))
  have HA2 : Hid (Ar B w2 b vn vs N S) := HA1.out.later hB2
  have KS : Hid (Blk w2 w.heap.size 103 [.int .i64 p, .int .i64 k]) := (KS0.alloc _).later hB2
  have HK2 : Hid (KeptA B w w2) := KeptA.of_below hA.out.base hB3
  have hvs : ∀ q, vs.ownBlock = some q → q < w.heap.size := fun q hq => (hA.out.spo.lt q hq).2
  obtain ⟨g3, cap3, w3, r3, c03, z03, A3, K3, k3⟩ := HA2.out.push kind n (by omega)
  have R3 : Hid _ := r3
  have HA3 : Hid _ := A3
  have HK3 : Hid (KeptA B w _) := HK2.out.trans K3
  have KS3 : Hid _ := k3 _ _ KS.out
  have c02 := HA2.out.c0
  rw [h3]
  clear r3 A3 K3 k3 hB1 hB2 hB3 KS0 s0 s1 HA1 HA2 hA
  go_wp2_with (at_builtin; have _t := R3; refine wpList_append_run rfl (.tmp 42) (.tmp 46) 22 22 rfl rfl rfl R3.out ?_; clear R3)
  obtain ⟨wy, hwy⟩ : ∃ wy, wy = w3.setCell ⟨b, 0, none⟩ (.slice (some ⟨g3, 0, none⟩) (N.length + 1) cap3) := ⟨_, rfl⟩
  have HAy : Hid (Ar B wy b (.slice (some ⟨g3, 0, none⟩) (N.length + 1) cap3) vs (N ++ [(kind, n, 0)]) S) := by rw [hwy]; exact HA3.out
  have HKy : Hid (KeptA B w wy) := by rw [hwy]; exact HK3.out
  have KSy : Hid (Blk wy w.heap.size 103 [.int .i64 p, .int .i64 k]) := by rw [hwy]; exact KS3.out
  rw [← hwy]
  clear hwy HA3 HK3 KS3 KS HK2 c03 z03 c02
  obtain ⟨g4, cap4, w4, r4, c14, z14, A4, K4, k4⟩ := Ar.pushs (w := wy.drew) ⟨HAy.out.blk, HAy.out.hb, HAy.out.nod, HAy.out.spo⟩ p k (by omega)
  have R4 : Hid ((Builtin.append_ #[98, 98] 98 #[vs, .slice (some ⟨wy.heap.size, 0, none⟩) 1 1]).run Tryd.prog (wy.alloc (.cells #[.int .i64 p, .int .i64 k] 103)).drew = .ok (.slice (some ⟨g4, 0, none⟩) (S.length + 1) cap4) w4) := r4
  obtain ⟨wx, hwx⟩ : ∃ wx, wx = w4.setCell ⟨b, 1, none⟩ (.slice (some ⟨g4, 0, none⟩) (S.length + 1) cap4) := ⟨_, rfl⟩
  have HAx : Hid (Ar B wx b (.slice (some ⟨g3, 0, none⟩) (N.length + 1) cap3) (.slice (some ⟨g4, 0, none⟩) (S.length + 1) cap4) (N ++ [(kind, n, 0)]) (S ++ [(p, k)])) := by rw [hwx]; exact A4
  have HKx : Hid (KeptA B w wx) := by rw [hwx]; exact HKy.out.drew.trans K4
  have KSx : Hid (Blk wx w.heap.size 103 [.int .i64 p, .int .i64 k]) := by rw [hwx]; exact (k4 _ _ (fun e => by have := hvs _ e; omega) KSy.out.drew).2
  clear r4 A4 K4 k4
  have d1 := HAy.out.c1
  have e0 : wy.cell? ⟨w.heap.size, 0, none⟩ = some (.int .i64 p) := KSy.out.cell 0
  have e1 : wy.cell? ⟨w.heap.size, 1, none⟩ = some (.int .i64 k) := KSy.out.cell 1
  have d1a : ∀ ob, (wy.alloc ob).cell? ⟨b, 1, none⟩ = some vs := fun ob => (HAy.out.blk.alloc ob).cell 1
  have e0a : ∀ ob, (wy.alloc ob).cell? ⟨w.heap.size, 0, none⟩ = some (.int .i64 p) := fun ob => (KSy.out.alloc ob).cell 0
  have e1a : ∀ ob, (wy.alloc ob).cell? ⟨w.heap.size, 1, none⟩ = some (.int .i64 k) := fun ob => (KSy.out.alloc ob).cell 1
  go_region_law (refine step_append_run rfl (.tmp 54) (.tmp 56) 98 98 rfl rfl rfl R4.out ?_)
  all_goals
    rw [← hwx]
    clear hwx c14 z14 d1 e0 e1 d1a e0a e1a R4
    have f0 := HAx.out.c0
    have hw1 : IntKind.i64.wrap (N.length : Int) = N.length := i64w _ (by omega)
    by_cases h0 : N.length = 0
    · have hf : Hid (addA N p kind n = N ++ [(kind, n, 0)]) := by
        show _ = _
        rw [addA, if_pos h0, List.length_eq_zero_iff.1 h0]
        rfl
      have f1 : wx.cell? ⟨b, 0, none⟩ = some (.slice (some ⟨g3, 0, none⟩) 1 cap3) := by rw [h0] at f0; exact f0
      clear f0
      go_wp2
      go_ret2
      exact ⟨by rw [h0]; rfl, _, _, by rw [hf.out]; exact HAx.out, HKx⟩
    · have h01 : (1 : Int) < (N.length : Int) + 1 := by omega
      obtain ⟨hk1, hk2, hk3, hk4, hk5⟩ := hk h0
      obtain ⟨o, rfl⟩ := Int.eq_ofNat_of_zero_le hk2
      have ho : o < N.length := by omega
      have hgd : (N ++ [(kind, n, 0)]).getD o nil0 = N.getD o nil0 := by rw [getD_snoc, if_neg (by omega)]
      have hf : Hid (addA N (o : Int) kind n = incK (N ++ [(kind, n, 0)]) o) := by show _ = _; rw [addA, if_neg h0, Int.toNat_natCast]
      have hkk : ((N ++ [(kind, n, 0)]).getD o nil0).2.2 = k := by rw [hgd]; exact hk1
      have g0 : wx.cell? ⟨w.heap.size, 0, none⟩ = some (.int .i64 (o : Int)) := KSx.out.cell 0
      have g1 : wx.cell? ⟨w.heap.size, 1, none⟩ = some (.int .i64 k) := KSx.out.cell 1
      have hcon := adopt_any B b o _ _ _ _ wx HAx (by simp; omega) (by simp; omega) (by rw [hkk]; exact ⟨hk4, hk5⟩)
      rw [hkk] at hcon
      unfold spotv at hcon
      clear hk hgd hkk hk1
      go_wp2_with fail
      refine hcon.mono ?_; rintro e w5 ⟨rfl, H5, HK5⟩
      have f5 := H5.out.c0
      clear hcon f0 g0 g1
      go_wp2
      go_ret2
      exact ⟨rfl, _, _, by rw [hf.out]; exact H5.out, HKx.out.trans HK5.out⟩
end Go.Proofs.YtlbgdgobhiokpaaDoor
