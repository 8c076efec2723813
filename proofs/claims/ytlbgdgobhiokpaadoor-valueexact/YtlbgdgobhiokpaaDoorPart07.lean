import Derived.Test.YtlbgdgobhiokpaaDoorPart06
import Derived.Deep.RegionLaw
import Derived.Deep.OwnRows
import Derived.Laws.OwnMore

/- Add: kids that come in order. -/
namespace Go.Proofs.YtlbgdgobhiokpaaDoor
open Go.RowKit
set_option linter.unusedVariables false

def addE (N : List Nd) (p k kind n : Int) : Int := if isK kind = true ∧ n ≤ mostN kind then refuseR N p k else 40
theorem refuseR_vals (N : List Nd) (p k : Int) : refuseR N p k = 0 ∨ refuseR N p k = 3 ∨ refuseR N p k = 40 := by
  unfold refuseR
  split
  · split <;> simp
  · split
    · simp
    · split
      · simp
      · split <;> simp
set_option maxRecDepth 100000 in
set_option maxHeartbeats 8000000 in
theorem addA_err (B b : Nat) (p k kind n : Int) (vn vs : Value) (N : List Nd) (S : Stk) (w : World) (hA : Hid (Ar B w b vn vs N S)) (hN : N.length ≤ 1000000) (he : addE N p k kind n ≠ 0) :
    Calls Tryd.prog 24 #[.pointer (some ⟨b, 0, none⟩), .int .i64 p, .int .i64 k, .int .i64 kind, .int .u64 n] w fun e w' => e = .returned (pairv (0, addE N p k kind n)) ∧ Below w.heap.size w w' := by
  go_enter Tryd.func24, Tryd.ntmps24
  go_wp2_with fail
  refine (bounds_any kind _).mono ?_; rintro e w1 ⟨rfl, hB1⟩
  have hBw : Below w.heap.size w w1 := ((Below.refl w.heap.size w).alloc (Nat.le_refl _) _).trans (hB1.mono (by simp))
  have HE0 : Hid (addE N p k kind n = if isK kind = true ∧ n ≤ mostN kind then refuseR N p k else 40) := rfl
  have KS := (Blk.newA w #[.int .i64 p, .int .i64 k] 103).later hB1
  unfold bnd
  by_cases h1 : isK kind = true
  · by_cases h2 : n ≤ mostN kind
    · rw [if_pos ⟨h1, h2⟩] at HE0
      have HA1 : Hid (Ar B (w1.alloc (.cells #[.int .u64 (mostN kind), .int .i64 (leastK kind), .int .i64 (mostK kind)] 105)) b vn vs N S) := (hA.out.later hBw).later ((Below.refl _ _).alloc (Nat.le_refl _) _)
      have s0 : ∀ ob, (w1.alloc ob).cell? ⟨w.heap.size, 0, none⟩ = some (.int .i64 p) := fun ob => (KS.alloc ob).cell 0
      have s1 : ∀ ob, (w1.alloc ob).cell? ⟨w.heap.size, 1, none⟩ = some (.int .i64 k) := fun ob => (KS.alloc ob).cell 1
      have h2' : ¬ mostN kind < n := by omega
      rw [h1]
      go_wp2_with fail
      refine (refuse_any B b p k vn vs N S _ HA1 hN).mono ?_; rintro e w2 ⟨rfl, hB2⟩
      have hB3 : Below w.heap.size w w2 := (hBw.alloc hBw.size _).trans (hB2.mono (by have := hBw.size; simp; omega))
      rw [← HE0.out]
      have hbe : ¬ addE N p k kind n = 0 := he
      go_wp2
      go_ret2
      exact ⟨rfl, hB3⟩
    · rw [if_neg (by simp [h2])] at HE0
      have h2' : mostN kind < n := by omega
      rw [h1]
      go_wp2
      go_ret2
      exact ⟨ret_pair (by rw [HE0.out]), hBw.alloc hBw.size _⟩
  · have h1' : isK kind = false := by simpa using h1
    rw [if_neg (by simp [h1])] at HE0
    rw [h1']
    go_wp2
    go_ret2
    exact ⟨ret_pair (by rw [HE0.out]), hBw.alloc hBw.size _⟩
/-- The nodes behind an Add. -/
def addA (N : List Nd) (p : Int) (kind n : Int) : List Nd := if N.length = 0 then [(kind, n, 0)] else incK (N ++ [(kind, n, 0)]) p.toNat
set_option maxRecDepth 100000 in
set_option maxHeartbeats 8000000 in
theorem addA_ok (B b : Nat) (p k kind n : Int) (vn vs : Value) (N : List Nd) (S : Stk) (w : World) (hA : Hid (Ar B w b vn vs N S)) (hN : N.length ≤ 900000) (hS : S.length ≤ 900000) (he : addE N p k kind n = 0) (hk : N.length ≠ 0 → (N.getD p.toNat nil0).2.2 = k ∧ 0 ≤ p ∧ p < N.length ∧ 0 ≤ k ∧ k ≤ 2000000) :
    Calls Tryd.prog 24 #[.pointer (some ⟨b, 0, none⟩), .int .i64 p, .int .i64 k, .int .i64 kind, .int .u64 n] w fun e w' => e = .returned (pairv ((N.length : Int), 0)) ∧ ∃ vn' vs', Hid (Ar B w' b vn' vs' (addA N p kind n) (S ++ [(p, k)])) ∧ Hid (KeptA B w w') := by
  go_enter Tryd.func24, Tryd.ntmps24
  go_wp2_with fail
  refine (bounds_any kind _).mono ?_; rintro e w1 ⟨rfl, hB1⟩
  have hBw : Below w.heap.size w w1 := ((Below.refl w.heap.size w).alloc (Nat.le_refl _) _).trans (hB1.mono (by simp))
  have hin : isK kind = true ∧ n ≤ mostN kind ∧ refuseR N p k = 0 := by
    unfold addE at he
    split at he
    · exact ⟨by rename_i h; exact h.1, by rename_i h; exact h.2, he⟩
    · omega
  obtain ⟨h1, h2, h3⟩ := hin
  have KS0 := (Blk.newA w #[.int .i64 p, .int .i64 k] 103).later hB1
  have HA1 : Hid (Ar B (w1.alloc (.cells #[.int .u64 (mostN kind), .int .i64 (leastK kind), .int .i64 (mostK kind)] 105)) b vn vs N S) := (hA.out.later hBw).later ((Below.refl _ _).alloc (Nat.le_refl _) _)
  have s0 : ∀ ob, (w1.alloc ob).cell? ⟨w.heap.size, 0, none⟩ = some (.int .i64 p) := fun ob => (KS0.alloc ob).cell 0
  have s1 : ∀ ob, (w1.alloc ob).cell? ⟨w.heap.size, 1, none⟩ = some (.int .i64 k) := fun ob => (KS0.alloc ob).cell 1
  have h2' : ¬ mostN kind < n := by omega
  unfold bnd
  rw [h1]
  go_wp2_with fail
  refine (refuse_any B b p k vn vs N S _ HA1 (by omega)).mono ?_; rintro e w2 ⟨rfl, hB2⟩
  have hB3 : Below w.heap.size w w2 := (hBw.alloc hBw.size _).trans (hB2.mono (by have := hBw.size; simp; omega))
  have HA2 : Hid (Ar B w2 b vn vs N S) := HA1.out.later hB2
  have KS : Hid (Blk w2 w.heap.size 103 [.int .i64 p, .int .i64 k]) := (KS0.alloc _).later hB2
  have HK2 : Hid (KeptA B w w2) := KeptA.of_below hA.out.base hB3
  have hvs : ∀ q, vs.ownBlock = some q → q < w.heap.size := fun q hq => (hA.out.spo.lt q hq).2
  obtain ⟨g3, cap3, w3, r3, c03, z03, A3, K3, k3⟩ := HA2.out.push kind n (by omega)
  have R3 : Hid _ := r3
  have HA3 : Hid _ := A3
  have HK3 : Hid (KeptA B w _) := HK2.out.trans K3
  have KS3 : Hid _ := k3 _ _ KS.out
  have c02 := HA2.out.c0
  rw [h3]
  clear r3 A3 K3 k3 hB1 hB2 hB3 KS0 s0 s1 HA1 HA2 hA
  go_wp2_with (at_builtin; have _t := R3; refine wpList_append_run rfl (.tmp 42) (.tmp 46) 22 22 rfl rfl rfl R3.out ?_; clear R3)
  obtain ⟨wy, hwy⟩ : ∃ wy, wy = w3.setCell ⟨b, 0, none⟩ (.slice (some ⟨g3, 0, none⟩) (N.length + 1) cap3) := ⟨_, rfl⟩
  have HAy : Hid (Ar B wy b (.slice (some ⟨g3, 0, none⟩) (N.length + 1) cap3) vs (N ++ [(kind, n, 0)]) S) := by rw [hwy]; exact HA3.out
  have HKy : Hid (KeptA B w wy) := by rw [hwy]; exact HK3.out
  have KSy : Hid (Blk wy w.heap.size 103 [.int .i64 p, .int .i64 k]) := by rw [hwy]; exact KS3.out
  rw [← hwy]
  clear hwy HA3 HK3 KS3 KS HK2 c03 z03 c02
  obtain ⟨g4, cap4, w4, r4, c14, z14, A4, K4, k4⟩ := Ar.pushs (w := wy.drew) ⟨HAy.out.blk, HAy.out.hb, HAy.out.nod, HAy.out.spo⟩ p k (by omega)
  have R4 : Hid ((Builtin.append_ #[98, 98] 98 #[vs, .slice (some ⟨wy.heap.size, 0, none⟩) 1 1]).run Tryd.prog (wy.alloc (.cells #[.int .i64 p, .int .i64 k] 103)).drew = .ok (.slice (some ⟨g4, 0, none⟩) (S.length + 1) cap4) w4) := r4
  obtain ⟨wx, hwx⟩ : ∃ wx, wx = w4.setCell ⟨b, 1, none⟩ (.slice (some ⟨g4, 0, none⟩) (S.length + 1) cap4) := ⟨_, rfl⟩
  have HAx : Hid (Ar B wx b (.slice (some ⟨g3, 0, none⟩) (N.length + 1) cap3) (.slice (some ⟨g4, 0, none⟩) (S.length + 1) cap4) (N ++ [(kind, n, 0)]) (S ++ [(p, k)])) := by rw [hwx]; exact A4
  have HKx : Hid (KeptA B w wx) := by rw [hwx]; exact HKy.out.drew.trans K4
  have KSx : Hid (Blk wx w.heap.size 103 [.int .i64 p, .int .i64 k]) := by rw [hwx]; exact (k4 _ _ (fun e => by have := hvs _ e; omega) KSy.out.drew).2
  clear r4 A4 K4 k4
  have d1 := HAy.out.c1
  have e0 : wy.cell? ⟨w.heap.size, 0, none⟩ = some (.int .i64 p) := KSy.out.cell 0
  have e1 : wy.cell? ⟨w.heap.size, 1, none⟩ = some (.int .i64 k) := KSy.out.cell 1
  have d1a : ∀ ob, (wy.alloc ob).cell? ⟨b, 1, none⟩ = some vs := fun ob => (HAy.out.blk.alloc ob).cell 1
  have e0a : ∀ ob, (wy.alloc ob).cell? ⟨w.heap.size, 0, none⟩ = some (.int .i64 p) := fun ob => (KSy.out.alloc ob).cell 0
  have e1a : ∀ ob, (wy.alloc ob).cell? ⟨w.heap.size, 1, none⟩ = some (.int .i64 k) := fun ob => (KSy.out.alloc ob).cell 1
  go_region_law (refine step_append_run rfl (.tmp 54) (.tmp 56) 98 98 rfl rfl rfl R4.out ?_)
  all_goals
    rw [← hwx]
    clear hwx c14 z14 d1 e0 e1 d1a e0a e1a R4
    have f0 := HAx.out.c0
    have hw1 : IntKind.i64.wrap (N.length : Int) = N.length := i64w _ (by omega)
    by_cases h0 : N.length = 0
    · have hf : Hid (addA N p kind n = N ++ [(kind, n, 0)]) := by
        show _ = _
        rw [addA, if_pos h0, List.length_eq_zero_iff.1 h0]
        rfl
      have f1 : wx.cell? ⟨b, 0, none⟩ = some (.slice (some ⟨g3, 0, none⟩) 1 cap3) := by rw [h0] at f0; exact f0
      clear f0
      go_wp2
      go_ret2
      exact ⟨by rw [h0]; rfl, _, _, by rw [hf.out]; exact HAx.out, HKx⟩
    · have h01 : (1 : Int) < (N.length : Int) + 1 := by omega
      obtain ⟨hk1, hk2, hk3, hk4, hk5⟩ := hk h0
      obtain ⟨o, rfl⟩ := Int.eq_ofNat_of_zero_le hk2
      have ho : o < N.length := by omega
      have hgd : (N ++ [(kind, n, 0)]).getD o nil0 = N.getD o nil0 := by rw [getD_snoc, if_neg (by omega)]
      have hf : Hid (addA N (o : Int) kind n = incK (N ++ [(kind, n, 0)]) o) := by show _ = _; rw [addA, if_neg h0, Int.toNat_natCast]
      have hkk : ((N ++ [(kind, n, 0)]).getD o nil0).2.2 = k := by rw [hgd]; exact hk1
      have g0 : wx.cell? ⟨w.heap.size, 0, none⟩ = some (.int .i64 (o : Int)) := KSx.out.cell 0
      have g1 : wx.cell? ⟨w.heap.size, 1, none⟩ = some (.int .i64 k) := KSx.out.cell 1
      have hcon := adopt_any B b o _ _ _ _ wx HAx (by simp; omega) (by simp; omega) (by rw [hkk]; exact ⟨hk4, hk5⟩)
      rw [hkk] at hcon
      unfold spotv at hcon
      clear hk hgd hkk hk1
      go_wp2_with fail
      refine hcon.mono ?_; rintro e w5 ⟨rfl, H5, HK5⟩
      have f5 := H5.out.c0
      clear hcon f0 g0 g1
      go_wp2
      go_ret2
      exact ⟨rfl, _, _, by rw [hf.out]; exact H5.out, HKx.out.trans HK5.out⟩
end Go.Proofs.YtlbgdgobhiokpaaDoor

/- Add: an arena with its gaps. -/
namespace Go.Proofs.YtlbgdgobhiokpaaDoor
open Go.RowKit
set_option linter.unusedVariables false

def addGE (N : List Nd) (G : Stk) (p k kind n : Int) : Int := if isK kind = true ∧ n ≤ mostN kind then refuseG N G p k else 40
theorem mostK_le (k : Int) : mostK k ≤ 1048576 := by
  unfold mostK
  split
  · omega
  · split
    · omega
    · split
      · omega
      · split <;> omega
theorem refuseG_zero {N : List Nd} {G : Stk} {p k : Int} (h : refuseG N G p k = 0) (h0 : N.length ≠ 0) : 0 ≤ p ∧ p < N.length ∧ 0 ≤ k ∧ k < mostK (N.getD p.toNat nil0).1 ∧ G.contains (p, k) = false ∧ (N.getD p.toNat nil0).2.2 ≤ k := by
  rw [refuseG, if_neg h0] at h
  split at h
  · omega
  · rename_i h1
    split at h
    · omega
    · rename_i h2
      split at h
      · omega
      · rename_i h3
        refine ⟨by omega, by omega, by omega, by omega, ?_, by omega⟩
        cases hc : G.contains (p, k)
        · rfl
        · exact absurd (.inl hc) h3
/-- The nodes and the gaps behind an Add; N, G: ahead of it. -/
def addN1 (N : List Nd) (G : Stk) (p k kind n : Int) : List Nd :=
  if N.length = 0 then [(kind, n, 0)]
  else if (N.getD p.toNat nil0).2.2 < k then N ++ [(kind, n, 0)]
  else setK (N ++ [(kind, n, 0)]) p.toNat (fillG G.length p (k + 1) G).1
def addG1 (N : List Nd) (G : Stk) (p k : Int) : Stk :=
  if N.length = 0 then G
  else if (N.getD p.toNat nil0).2.2 < k then G ++ [(p, k)]
  else (fillG G.length p (k + 1) G).2
set_option maxRecDepth 100000 in
set_option maxHeartbeats 8000000 in
theorem addG_err (B b : Nat) (p k kind n : Int) (vn vs vm : Value) (N : List Nd) (S G : Stk) (w : World) (hA : Hid (An B w b vn vs vm N S G)) (hN : N.length ≤ 1000000) (hkr : InR k) (he : addGE N G p k kind n ≠ 0) :
    Calls Tryd.prog 24 #[.pointer (some ⟨b, 0, none⟩), .int .i64 p, .int .i64 k, .int .i64 kind, .int .u64 n] w fun e w' => e = .returned (pairv (0, addGE N G p k kind n)) ∧ Below w.heap.size w w' := by
  go_enter Tryd.func24, Tryd.ntmps24
  go_wp2_with fail
  refine (bounds_any kind _).mono ?_; rintro e w1 ⟨rfl, hB1⟩
  have hBw : Below w.heap.size w w1 := ((Below.refl w.heap.size w).alloc (Nat.le_refl _) _).trans (hB1.mono (by simp))
  have HE0 : Hid (addGE N G p k kind n = if isK kind = true ∧ n ≤ mostN kind then refuseG N G p k else 40) := rfl
  have KS := (Blk.newA w #[.int .i64 p, .int .i64 k] 103).later hB1
  unfold bnd
  by_cases h1 : isK kind = true
  · by_cases h2 : n ≤ mostN kind
    · rw [if_pos ⟨h1, h2⟩] at HE0
      have HA1 : Hid (An B (w1.alloc (.cells #[.int .u64 (mostN kind), .int .i64 (leastK kind), .int .i64 (mostK kind)] 105)) b vn vs vm N S G) := (hA.out.later hBw).later ((Below.refl _ _).alloc (Nat.le_refl _) _)
      have s0 : ∀ ob, (w1.alloc ob).cell? ⟨w.heap.size, 0, none⟩ = some (.int .i64 p) := fun ob => (KS.alloc ob).cell 0
      have s1 : ∀ ob, (w1.alloc ob).cell? ⟨w.heap.size, 1, none⟩ = some (.int .i64 k) := fun ob => (KS.alloc ob).cell 1
      have h2' : ¬ mostN kind < n := by omega
      rw [h1]
      go_wp2_with fail
      refine (refuseG_any B b p k vn vs vm N S G _ HA1 hN hkr).mono ?_; rintro e w2 ⟨rfl, hB2⟩
      have hB3 : Below w.heap.size w w2 := (hBw.alloc hBw.size _).trans (hB2.mono (by have := hBw.size; simp; omega))
      rw [← HE0.out]
      have hbe : ¬ addGE N G p k kind n = 0 := he
      go_wp2
      go_ret2
      exact ⟨rfl, hB3⟩
    · rw [if_neg (by simp [h2])] at HE0
      have h2' : mostN kind < n := by omega
      rw [h1]
      go_wp2
      go_ret2
      exact ⟨ret_pair (by rw [HE0.out]), hBw.alloc hBw.size _⟩
  · have h1' : isK kind = false := by simpa using h1
    rw [if_neg (by simp [h1])] at HE0
    rw [h1']
    go_wp2
    go_ret2
    exact ⟨ret_pair (by rw [HE0.out]), hBw.alloc hBw.size _⟩
set_option maxRecDepth 100000 in
set_option maxHeartbeats 8000000 in
theorem addG_ok (B b : Nat) (p k kind n : Int) (vn vs vm : Value) (N : List Nd) (S G : Stk) (w : World) (hA : Hid (An B w b vn vs vm N S G)) (hN : N.length ≤ 900000) (hS : S.length ≤ 900000) (hG : G.length ≤ 900000) (hkr : InR k) (he : addGE N G p k kind n = 0) (hk : N.length ≠ 0 → 0 ≤ (N.getD p.toNat nil0).2.2) :
    Calls Tryd.prog 24 #[.pointer (some ⟨b, 0, none⟩), .int .i64 p, .int .i64 k, .int .i64 kind, .int .u64 n] w fun e w' => e = .returned (pairv ((N.length : Int), 0)) ∧ ∃ vn' vs' vm', Hid (An B w' b vn' vs' vm' (addN1 N G p k kind n) (S ++ [(p, k)]) (addG1 N G p k)) ∧ Hid (Mv b vn vs vm w vn' vs' vm' w') := by
  go_enter Tryd.func24, Tryd.ntmps24
  go_wp2_with fail
  refine (bounds_any kind _).mono ?_; rintro e w1 ⟨rfl, hB1⟩
  have hBw : Below w.heap.size w w1 := ((Below.refl w.heap.size w).alloc (Nat.le_refl _) _).trans (hB1.mono (by simp))
  have hin : isK kind = true ∧ n ≤ mostN kind ∧ refuseG N G p k = 0 := by
    unfold addGE at he
    split at he
    · exact ⟨by rename_i h; exact h.1, by rename_i h; exact h.2, he⟩
    · omega
  obtain ⟨h1, h2, h3⟩ := hin
  have KS0 := (Blk.newA w #[.int .i64 p, .int .i64 k] 103).later hB1
  have HA1 : Hid (An B (w1.alloc (.cells #[.int .u64 (mostN kind), .int .i64 (leastK kind), .int .i64 (mostK kind)] 105)) b vn vs vm N S G) := (hA.out.later hBw).later ((Below.refl _ _).alloc (Nat.le_refl _) _)
  have s0 : ∀ ob, (w1.alloc ob).cell? ⟨w.heap.size, 0, none⟩ = some (.int .i64 p) := fun ob => (KS0.alloc ob).cell 0
  have s1 : ∀ ob, (w1.alloc ob).cell? ⟨w.heap.size, 1, none⟩ = some (.int .i64 k) := fun ob => (KS0.alloc ob).cell 1
  have h2' : ¬ mostN kind < n := by omega
  unfold bnd
  rw [h1]
  go_wp2_with fail
  refine (refuseG_any B b p k vn vs vm N S G _ HA1 (by omega) hkr).mono ?_; rintro e w2 ⟨rfl, hB2⟩
  have hB3 : Below w.heap.size w w2 := (hBw.alloc hBw.size _).trans (hB2.mono (by have := hBw.size; simp; omega))
  have HA2 : Hid (An B w2 b vn vs vm N S G) := HA1.out.later hB2
  have KS : Hid (Blk w2 w.heap.size 103 [.int .i64 p, .int .i64 k]) := (KS0.alloc _).later hB2
  have HK2 : Hid (Mv b vn vs vm w vn vs vm w2) := Mv.of_below hB3
  have HF : Hid (¬ Ft b vn vs vm w.heap.size) := fun h => absurd (hA.out.feet h).2 (Nat.lt_irrefl _)
  have hlt2 := KS.out.lt
  obtain ⟨g3, cap3, w3, r3, c03, z03, A3, K3⟩ := HA2.out.push kind n (by omega)
  have R3 : Hid _ := r3
  have HA3 : Hid _ := A3
  have HK3 : Hid _ := HK2.out.trans K3
  have KS3 : Hid _ := K3.blk KS.out HF.out
  have HF3 : Hid _ := K3.off hlt2 HF.out
  have c02 := HA2.out.c0
  rw [h3]
  clear r3 A3 K3 hlt2 hB1 hB2 hB3 KS0 s0 s1 HA1 HA2 hA
  go_wp2_with (at_builtin; have _t := R3; refine wpList_append_run rfl (.tmp 42) (.tmp 46) 22 22 rfl rfl rfl R3.out ?_; clear R3)
  obtain ⟨wy, hwy⟩ : ∃ wy, wy = w3.setCell ⟨b, 0, none⟩ (.slice (some ⟨g3, 0, none⟩) (N.length + 1) cap3) := ⟨_, rfl⟩
  have HAy : Hid (An B wy b (.slice (some ⟨g3, 0, none⟩) (N.length + 1) cap3) vs vm (N ++ [(kind, n, 0)]) S G) := by rw [hwy]; exact HA3.out
  have HKy : Hid (Mv b vn vs vm w (.slice (some ⟨g3, 0, none⟩) (N.length + 1) cap3) vs vm wy) := by rw [hwy]; exact HK3.out
  have KSy : Hid (Blk wy w.heap.size 103 [.int .i64 p, .int .i64 k]) := by rw [hwy]; exact KS3.out
  rw [← hwy]
  clear hwy HA3 HK3 KS3 KS HK2 c03 z03 c02
  obtain ⟨g4, cap4, w4, r4, c14, z14, A4, K4⟩ := An.pushs (w := wy.drew) HAy.out.drew p k (by omega)
  have R4 : Hid ((Builtin.append_ #[98, 98] 98 #[vs, .slice (some ⟨wy.heap.size, 0, none⟩) 1 1]).run Tryd.prog (wy.alloc (.cells #[.int .i64 p, .int .i64 k] 103)).drew = .ok (.slice (some ⟨g4, 0, none⟩) (S.length + 1) cap4) w4) := r4
  obtain ⟨wx, hwx⟩ : ∃ wx, wx = w4.setCell ⟨b, 1, none⟩ (.slice (some ⟨g4, 0, none⟩) (S.length + 1) cap4) := ⟨_, rfl⟩
  have HAx : Hid (An B wx b (.slice (some ⟨g3, 0, none⟩) (N.length + 1) cap3) (.slice (some ⟨g4, 0, none⟩) (S.length + 1) cap4) vm (N ++ [(kind, n, 0)]) (S ++ [(p, k)]) G) := by rw [hwx]; exact A4
  have HKx : Hid (Mv b vn vs vm w (.slice (some ⟨g3, 0, none⟩) (N.length + 1) cap3) (.slice (some ⟨g4, 0, none⟩) (S.length + 1) cap4) vm wx) := by rw [hwx]; exact HKy.out.drew.trans K4
  have KSx : Hid (Blk wx w.heap.size 103 [.int .i64 p, .int .i64 k]) := by rw [hwx]; exact K4.blk KSy.out.drew HF3.out
  clear r4 A4 K4
  have d1 := HAy.out.c1
  have e0 : wy.cell? ⟨w.heap.size, 0, none⟩ = some (.int .i64 p) := KSy.out.cell 0
  have e1 : wy.cell? ⟨w.heap.size, 1, none⟩ = some (.int .i64 k) := KSy.out.cell 1
  have d1a : ∀ ob, (wy.alloc ob).cell? ⟨b, 1, none⟩ = some vs := fun ob => (HAy.out.blk.alloc ob).cell 1
  have e0a : ∀ ob, (wy.alloc ob).cell? ⟨w.heap.size, 0, none⟩ = some (.int .i64 p) := fun ob => (KSy.out.alloc ob).cell 0
  have e1a : ∀ ob, (wy.alloc ob).cell? ⟨w.heap.size, 1, none⟩ = some (.int .i64 k) := fun ob => (KSy.out.alloc ob).cell 1
  go_region_law (refine step_append_run rfl (.tmp 54) (.tmp 56) 98 98 rfl rfl rfl R4.out ?_)
  all_goals
    rw [← hwx]
    clear hwx c14 z14 d1 e0 e1 d1a e0a e1a R4
    have f0 := HAx.out.c0
    have hw1 : IntKind.i64.wrap (N.length : Int) = N.length := i64w _ (by omega)
    by_cases h0 : N.length = 0
    · have hf : Hid (addN1 N G p k kind n = N ++ [(kind, n, 0)] ∧ addG1 N G p k = G) := by
        show _ ∧ _
        rw [addN1, if_pos h0, addG1, if_pos h0, List.length_eq_zero_iff.1 h0]
        exact ⟨rfl, rfl⟩
      have f1 : wx.cell? ⟨b, 0, none⟩ = some (.slice (some ⟨g3, 0, none⟩) 1 cap3) := by rw [h0] at f0; exact f0
      clear f0
      go_wp2
      go_ret2
      exact ⟨by rw [h0]; rfl, _, _, _, by rw [hf.out.1, hf.out.2]; exact HAx.out, HKx⟩
    · have h01 : (1 : Int) < (N.length : Int) + 1 := by omega
      obtain ⟨hk2, hk3, hk4, hk6, hk7, hk8⟩ := refuseG_zero h3 h0
      have hk5 := mostK_le (N.getD p.toNat nil0).1
      have hk9 := hk h0
      obtain ⟨o, rfl⟩ := Int.eq_ofNat_of_zero_le hk2
      rw [Int.toNat_natCast] at hk5 hk6 hk8 hk9
      have ho : o < N.length := by omega
      have hgd : (N ++ [(kind, n, 0)]).getD o nil0 = N.getD o nil0 := by rw [getD_snoc, if_neg (by omega)]
      have g0 : wx.cell? ⟨w.heap.size, 0, none⟩ = some (.int .i64 (o : Int)) := KSx.out.cell 0
      have g1 : wx.cell? ⟨w.heap.size, 1, none⟩ = some (.int .i64 k) := KSx.out.cell 1
      by_cases hgap : (N.getD o nil0).2.2 < k
      · have hf : Hid (addN1 N G (o : Int) k kind n = N ++ [(kind, n, 0)] ∧ addG1 N G (o : Int) k = G ++ [((o : Int), k)]) := by
          show _ ∧ _
          rw [addN1, if_neg h0, addG1, if_neg h0, Int.toNat_natCast, if_pos hgap, if_pos hgap]
          exact ⟨rfl, rfl⟩
        have hcon := adoptG_gap B b o k _ _ _ _ _ G wx HAx (by simp; omega) (by simp; omega) hkr (by rw [hgd]; exact hgap) (by omega) hk7
        unfold spotv at hcon
        clear hk hgd hk5 hk6 hk7 hk8 hk9 hgap
        go_wp2_with fail
        refine hcon.mono ?_; rintro e w5 ⟨rfl, vm5, H5, HK5⟩
        have f5 := H5.out.c0
        clear hcon f0 g0 g1
        go_wp2
        go_ret2
        exact ⟨rfl, _, _, _, by rw [hf.out.1, hf.out.2]; exact H5.out, HKx.out.trans HK5.out⟩
      · have hf : Hid (addN1 N G (o : Int) k kind n = setK (N ++ [(kind, n, 0)]) o (fillG G.length (o : Int) (k + 1) G).1 ∧ addG1 N G (o : Int) k = (fillG G.length (o : Int) (k + 1) G).2) := by
          show _ ∧ _
          rw [addN1, if_neg h0, addG1, if_neg h0, Int.toNat_natCast, if_neg hgap, if_neg hgap]
          exact ⟨rfl, rfl⟩
        have hcon := adoptG_fill B b o k _ _ _ _ _ G wx HAx (by simp; omega) (by simp; omega) (by rw [hgd]; omega) (by omega) (by omega)
        unfold spotv at hcon
        clear hk hgd hk5 hk6 hk7 hk8 hk9 hgap
        go_wp2_with fail
        refine hcon.mono ?_; rintro e w5 ⟨rfl, H5, HK5⟩
        have f5 := H5.out.c0
        clear hcon f0 g0 g1
        go_wp2
        go_ret2
        exact ⟨rfl, _, _, _, by rw [hf.out.1, hf.out.2]; exact H5.out, HKx.out.trans HK5.out⟩
end Go.Proofs.YtlbgdgobhiokpaaDoor

/- whole. -/
namespace Go.Proofs.YtlbgdgobhiokpaaDoor
open Go.RowKit
set_option linter.unusedVariables false

def wholeB (N : List Nd) (G : Stk) : Bool := N.all right && (decide (0 < N.length) && decide (G.length = 0))
theorem all_of {N : List Nd} (h : ∀ j, j < N.length → right (N.getD j nil0) = true) : N.all right = true := by
  rw [List.all_eq_true]
  intro x hx
  obtain ⟨j, hj, rfl⟩ := List.mem_iff_getElem.1 hx
  have := h j hj
  rwa [List.getD_eq_getElem?_getD, List.getElem?_eq_getElem hj, Option.getD_some] at this
theorem not_all {N : List Nd} {j : Nat} (hj : j < N.length) (h : right (N.getD j nil0) = false) : N.all right = false := by
  cases ha : N.all right
  · rfl
  · rw [List.all_eq_true] at ha
    have := ha _ (List.getElem_mem hj)
    rw [List.getD_eq_getElem?_getD, List.getElem?_eq_getElem hj, Option.getD_some, this] at h
    cases h
set_option maxRecDepth 100000 in
set_option maxHeartbeats 8000000 in
theorem whole_any (B b : Nat) (vn vs vm : Value) (N : List Nd) (S G : Stk) (w : World) (hA : Hid (An B w b vn vs vm N S G)) (hN : N.length ≤ 1000000) :
    Calls Tryd.prog 47 #[.pointer (some ⟨b, 0, none⟩)] w fun e w' => e = .returned (.bool (wholeB N G)) ∧ Below w.heap.size w w' := by
  obtain ⟨an, cn, rfl, hcn⟩ := hA.out.vn_is
  have c0 := hA.out.c0
  go_enter Tryd.func47, Tryd.ntmps47
  go_wp2_with fail
  go_loopw [10] (fun xi wr => ∃ i : Nat, i ≤ N.length ∧ xi = .int .i64 i ∧ Hid (∀ j, j < i → right (N.getD j nil0) = true) ∧ Hid (Below w.heap.size w wr)) (fun xi _ => N.length - (intOf xi).toNat)
  case atStart => exact ⟨0, Nat.zero_le _, rfl, fun j hj => absurd hj (Nat.not_lt_zero _), Below.refl _ _⟩
  case round =>
    clear c0
    obtain ⟨i, hi, rfl, HR, HB⟩ := hrel
    have HAr : Hid (An B wr b (.slice an N.length cn) vs vm N S G) := hA.out.later HB.out
    have c0 := HAr.out.c0; have c2 := HAr.out.c2
    by_cases hend : i = N.length
    · subst hend
      have hlt : ¬ ((N.length : Int) < N.length) := by omega
      have hlen : (Builtin.len_ #[99] 3 #[vm]).run Tryd.prog wr = .ok (.int .i64 G.length) wr := HAr.out.len 3
      have HW : Hid (wholeB N G = (decide (0 < N.length) && decide (G.length = 0))) := by show _ = _; rw [wholeB, all_of HR.out, Bool.true_and]
      by_cases h0 : N.length = 0
      · have hgt : ¬ ((0 : Int) < (N.length : Int)) := by omega
        have hgt' : ¬ (0 < N.length) := by omega
        rw [decide_eq_false hgt'] at HW
        go_wp2
        go_ret
        exact ⟨by rw [HW.out]; rfl, HB.out⟩
      · have hgt : (0 : Int) < (N.length : Int) := by omega
        have hgt' : 0 < N.length := by omega
        rw [decide_eq_true hgt'] at HW
        by_cases hg : G.length = 0
        · rw [decide_eq_true hg] at HW
          rw [hg] at hlen
          go_wp2
          go_ret
          exact ⟨by rw [HW.out]; rfl, HB.out⟩
        · rw [decide_eq_false hg] at HW
          have hgb : ((G.length : Int) == 0) = false := beq_eq_false_iff_ne.2 (by omega)
          go_wp2
          go_ret
          exact ⟨by rw [HW.out]; rfl, HB.out⟩
    · have hil : i < N.length := by omega
      have hil' : (i : Int) < N.length := by omega
      obtain ⟨gn, cn', hvn, -, hn1, hn2, hgn, n0, n1, n2, -, -⟩ := HAr.out.node hil
      have e1 : an = some ⟨gn, 0, none⟩ ∧ cn = cn' := by simpa using hvn
      obtain ⟨rfl, rfl⟩ := e1
      obtain ⟨x, hx⟩ : ∃ x, N.getD i nil0 = x := ⟨_, rfl⟩
      rw [hx] at n0 n1 n2
      clear hvn
      go_wp2_with fail
      refine (right_any (x.1, x.2.1, x.2.2) _).mono ?_; rintro e w2 ⟨rfl, hB2⟩
      have hB3 : Below w.heap.size w w2 := (HB.out.alloc HB.out.size _).trans (hB2.mono (by have := HB.out.size; simp; omega))
      cases hr : right (x.1, x.2.1, x.2.2)
      · have HW : Hid (wholeB N G = false) := by show _ = _; rw [wholeB, not_all hil (by rw [hx]; exact hr)]; rfl
        go_wp2
        go_ret
        exact ⟨by rw [HW.out]; rfl, hB3⟩
      · go_wp2
        go_roundw
        case rel =>
          refine ⟨i + 1, by omega, by go_num, fun j hj => ?_, hB3⟩
          by_cases hj' : j = i
          · rw [hj', hx]; exact hr
          · exact HR.out j (by omega)
        case measure => simp [intOf]; omega
end Go.Proofs.YtlbgdgobhiokpaaDoor

/- Where an arena's kids lie, plain; slices of a slice, by their runs. -/
namespace Go.Proofs.YtlbgdgobhiokpaaDoor
open Go.RowKit
set_option linter.unusedVariables false

def kN (x : Nd) : Nat := x.2.2.toNat
def offN (N : List Nd) (j : Nat) : Nat := ((N.take j).map kN).sum
theorem offN_zero (N : List Nd) : offN N 0 = 0 := rfl
theorem take_succ' (N : List Nd) (j : Nat) (h : j < N.length) : N.take (j + 1) = N.take j ++ [N.getD j nil0] := by
  rw [List.take_add_one, List.getD_eq_getElem?_getD, List.getElem?_eq_getElem h]
  rfl
theorem offN_succ (N : List Nd) (j : Nat) (h : j < N.length) : offN N (j + 1) = offN N j + kN (N.getD j nil0) := by
  rw [offN, take_succ' N j h, List.map_append, List.sum_append]
  rfl
theorem offN_mono (N : List Nd) (i : Nat) : ∀ d, i + d ≤ N.length → offN N i ≤ offN N (i + d)
  | 0, _ => Nat.le_refl _
  | d + 1, h => by
    have h1 := offN_mono N i d (by omega)
    have h2 := offN_succ N (i + d) (by omega)
    rw [← Nat.add_assoc, h2]
    omega
theorem offN_le (N : List Nd) {i j : Nat} (h : i ≤ j) (hj : j ≤ N.length) : offN N i ≤ offN N j := by
  have := offN_mono N i (j - i) (by omega)
  rwa [show i + (j - i) = j by omega] at this
/-- Place k of node p's kids lies in the room. -/
theorem offN_in (N : List Nd) {T p k : Nat} (hT : offN N N.length = T) (hp : p < N.length) (hk : k < kN (N.getD p nil0)) : offN N p + k < T := by
  have h1 := offN_succ N p hp
  have h2 := offN_le N (show p + 1 ≤ N.length by omega) (Nat.le_refl _)
  omega
theorem offN_inj (N : List Nd) {p k p' k' : Nat} (hp : p < N.length) (hk : k < kN (N.getD p nil0)) (hp' : p' < N.length) (hk' : k' < kN (N.getD p' nil0)) (h : offN N p + k = offN N p' + k') : p = p' ∧ k = k' := by
  have h1 := offN_succ N p hp
  have h2 := offN_succ N p' hp'
  rcases Nat.lt_trichotomy p p' with hlt | heq | hgt
  · have := offN_le N (show p + 1 ≤ p' by omega) (by omega)
    omega
  · subst heq
    exact ⟨rfl, by omega⟩
  · have := offN_le N (show p' + 1 ≤ p by omega) (by omega)
    omega
theorem elem43 : Tryd.prog.underlying 43 = some (.slice (Tryd.prog.elem 43)) := by kernel_rfl
theorem size43 : (Tryd.prog.info? (Tryd.prog.elem 43)).map (·.size) = some 1 := by kernel_rfl
theorem sizeOf43 (w : World) : (sizeOf (Tryd.prog.elem 43)).run Tryd.prog w = .ok 1 w := by
  obtain ⟨i, hi, hsz⟩ : ∃ i, Tryd.prog.info? (Tryd.prog.elem 43) = some i ∧ i.size = 1 := by
    have := size43
    cases hh : Tryd.prog.info? (Tryd.prog.elem 43) with
    | none => rw [hh] at this; cases this
    | some i => rw [hh] at this; exact ⟨i, rfl, by simpa using this⟩
  simp [sizeOf, typeInfo, hi, hsz, Result.andThen]
/-- x[:k], x[k:]. -/
theorem cut_h (a : Option Addr) (R k : Nat) (c : Int) (hc : c = k) (hk : k ≤ R) (w' : World) : (Instr.slice 43 (.slice a R R) none (some (.int .i64 c)) none).run Tryd.prog w' = .ok (.slice a k R) w' := by
  subst hc
  rw [run_slice_h (P := Tryd.prog) w' 43 a R R elem43 .i64 k (by omega) (by omega), sizeOf43]
  simp [sliced, Result.andThen]
  cases a with
  | none => simp
  | some x => simp [Addr.add]
theorem cut_l (g x R k : Nat) (c : Int) (hc : c = k) (hk : k ≤ R) : ∃ x' : Nat, (k < R → x' = x + k) ∧ ∀ w', (Instr.slice 43 (.slice (some ⟨g, x, none⟩) R R) (some (.int .i64 c)) none none).run Tryd.prog w' = .ok (.slice (some ⟨g, x', none⟩) (R - k) (R - k)) w' := by
  subst hc
  refine ⟨if R = k then x else x + k, fun h => if_neg (by omega), fun w' => ?_⟩
  rw [run_slice_l (P := Tryd.prog) w' 43 _ R R elem43 .i64 k (by omega) (by omega), sizeOf43]
  by_cases h : R = k
  · simp [sliced, Result.andThen, h]
  · simp [sliced, Result.andThen, h, add_none]
/-- The rows of kids, as far as they are laid; the room. -/
structure Kd (w : World) (gk gr : Nat) (N : List Nd) (i : Nat) (R : List Int) : Prop where
  kb : ∃ K, Blk w gk 43 K ∧ K.length = N.length ∧ (∀ j, j < N.length → ∃ u, K[j]? = some u) ∧ ∀ j, j < i → ∃ x c, K[j]? = some (.slice (some ⟨gr, x, none⟩) (kN (N.getD j nil0)) c) ∧ (0 < kN (N.getD j nil0) → x = offN N j) ∧ kN (N.getD j nil0) ≤ c ∧ c ≤ N.length
  rb : Blk w gr 3 (cellsL .i64 R)
section
variable {w w' : World} {gk gr : Nat} {N : List Nd} {i : Nat} {R : List Int}
theorem Kd.later (h : Kd w gk gr N i R) (hB : Below w.heap.size w w') : Kd w' gk gr N i R := by
  obtain ⟨K, h1, h2⟩ := h.kb
  exact ⟨⟨K, h1.later hB, h2⟩, h.rb.later hB⟩
theorem Kd.ne (h : Kd w gk gr N i R) : gk ≠ gr := by
  obtain ⟨K, h1, _⟩ := h.kb
  exact blk_ne h1 h.rb (by decide)
theorem Kd.cell (h : Kd w gk gr N i R) (hi : i < N.length) : (∃ u, w.cell? ⟨gk, i, none⟩ = some u) ∧ w.frozen? ⟨gk, i, none⟩ = false := by
  obtain ⟨K, h1, h2, h3, _⟩ := h.kb
  exact ⟨by rw [h1.cell]; exact h3 i hi, h1.frozen i⟩
/-- The next row is laid. -/
theorem Kd.lay (h : Kd w gk gr N i R) (hi : i < N.length) {x c : Nat} (hx : 0 < kN (N.getD i nil0) → x = offN N i) (hc : kN (N.getD i nil0) ≤ c) (hcN : c ≤ N.length) :
    Kd (w.setCell ⟨gk, i, none⟩ (.slice (some ⟨gr, x, none⟩) (kN (N.getD i nil0)) c)) gk gr N (i + 1) R := by
  obtain ⟨K, h1, h2, h3, h4⟩ := h.kb
  refine ⟨⟨_, h1.set i _, by simpa using h2, fun j hj => ?_, fun j hj => ?_⟩, h.rb.other _ _ fun e => h.ne e.symm⟩
  · by_cases e : j = i
    · subst e
      exact ⟨_, List.getElem?_set_self (by omega)⟩
    · rw [List.getElem?_set_ne (by omega)]
      exact h3 j hj
  · by_cases e : j = i
    · subst e
      exact ⟨x, c, List.getElem?_set_self (by omega), hx, hc, hcN⟩
    · rw [List.getElem?_set_ne (by omega)]
      exact h4 j (by omega)
theorem Kd.at (h : Kd w gk gr N i R) {j : Nat} (hj : j < i) : ∃ x c, w.cell? ⟨gk, j, none⟩ = some (.slice (some ⟨gr, x, none⟩) (kN (N.getD j nil0)) c) ∧ (0 < kN (N.getD j nil0) → x = offN N j) ∧ kN (N.getD j nil0) ≤ c ∧ c ≤ N.length := by
  obtain ⟨K, h1, h2, h3, h4⟩ := h.kb
  obtain ⟨x, c, h5, h6⟩ := h4 j hj
  exact ⟨x, c, by rw [h1.cell, h5], h6⟩
theorem Kd.room (h : Kd w gk gr N i R) {j : Nat} (hj : j < R.length) : w.cell? ⟨gr, j, none⟩ = some (.int .i64 (R.getD j 0)) ∧ w.frozen? ⟨gr, j, none⟩ = false := ⟨by rw [h.rb.cell, cellsL_at _ _ _ hj], h.rb.frozen j⟩
theorem Kd.put (h : Kd w gk gr N i R) (j : Nat) (x : Int) : Kd (w.setCell ⟨gr, j, none⟩ (.int .i64 x)) gk gr N i (R.set j x) := by
  obtain ⟨K, h1, h2⟩ := h.kb
  refine ⟨⟨K, h1.other _ _ h.ne, h2⟩, ?_⟩
  rw [← cellsL_set]
  exact h.rb.set j _
end
theorem kd_new {w : World} {gk gr n : Nat} {N : List Nd} {R : List Int} (hl : N.length = n) (h1 : Blk w gk 43 (List.replicate n (.slice none 0 0))) (h2 : Blk w gr 3 (cellsL .i64 R)) : Kd w gk gr N 0 R :=
  ⟨⟨_, h1, by simp [hl], fun j hj => ⟨_, by rw [List.getElem?_replicate, if_pos (by omega)]⟩, fun j hj => absurd hj (Nat.not_lt_zero _)⟩, h2⟩
end Go.Proofs.YtlbgdgobhiokpaaDoor

/- kids. -/
namespace Go.Proofs.YtlbgdgobhiokpaaDoor
open Go.RowKit
set_option linter.unusedVariables false

def SpotsIn (N : List Nd) (S : Stk) : Prop := (∀ i, 1 ≤ i → i < N.length → ∃ p k : Nat, S.getD i (0, 0) = ((p : Int), (k : Int)) ∧ p < N.length ∧ k < kN (N.getD p nil0)) ∧ ∀ i j, 1 ≤ i → i < N.length → 1 ≤ j → j < N.length → S.getD i (0, 0) = S.getD j (0, 0) → i = j
/-- The room holds each node at its place, up to some node. -/
def Roomed (N : List Nd) (S : Stk) (i : Nat) (R : List Int) : Prop := ∀ j, 1 ≤ j → j < i → ∀ p k : Nat, S.getD j (0, 0) = ((p : Int), (k : Int)) → R.getD (offN N p + k) 0 = j
theorem Roomed.step {N : List Nd} {S : Stk} {i T p k : Nat} {R : List Int} (h : Roomed N S i R) (hs : SpotsIn N S) (hT : offN N N.length = T) (hR : R.length = T) (h1 : 1 ≤ i) (hi : i < N.length) (hp : p < N.length) (hk : k < kN (N.getD p nil0)) (he : S.getD i (0, 0) = ((p : Int), (k : Int))) :
    Roomed N S (i + 1) (R.set (offN N p + k) i) := by
  intro j hj1 hj p' k' he'
  have hin := offN_in N hT hp hk
  by_cases e : j = i
  · subst e
    rw [he] at he'
    obtain ⟨e1, e2⟩ := Prod.mk.inj he'
    obtain rfl : p = p' := by omega
    obtain rfl : k = k' := by omega
    rw [List.getD_eq_getElem?_getD, List.getElem?_set_self (by omega)]
    rfl
  · obtain ⟨p2, k2, h2, hp2, hk2⟩ := hs.1 j hj1 (by omega)
    rw [h2] at he'
    obtain ⟨e1, e2⟩ := Prod.mk.inj he'
    obtain rfl : p2 = p' := by omega
    obtain rfl : k2 = k' := by omega
    rw [List.getD_eq_getElem?_getD, List.getElem?_set_ne, ← List.getD_eq_getElem?_getD]
    · exact h j hj1 (by omega) p2 k2 h2
    · intro e3
      obtain ⟨rfl, rfl⟩ := offN_inj N hp hk hp2 hk2 e3
      exact e (hs.2 j i hj1 (by omega) h1 hi (by rw [h2, he]))
theorem An.spot {B b : Nat} {w : World} {vn vs vm : Value} {N : List Nd} {S G : Stk} (h : An B w b vn vs vm N S G) {o : Nat} (ho : o < S.length) :
    ∃ gs cs, vs = .slice (some ⟨gs, 0, none⟩) S.length cs ∧ S.length ≤ cs ∧ cs ≤ maxLen ∧ gs < w.heap.size ∧ w.cell? ⟨gs, o * 2, none⟩ = some (.int .i64 (S.getD o (0, 0)).1) ∧ w.cell? ⟨gs, o * 2 + 1, none⟩ = some (.int .i64 (S.getD o (0, 0)).2) := by
  obtain ⟨g, cap, ys, e, hb, hn, hm, hl, ht, hK⟩ := ownS_blk h.spo (by omega)
  have hat : ∀ i, i < S.length * 2 → ys[i]? = (cellsS S)[i]? := fun i hi => by rw [← ht, List.getElem?_take, if_pos hi]
  obtain ⟨c0, c1⟩ := cellsS_at S o ho
  exact ⟨g, cap, e, hn, hm, hK.lt, by rw [hK.cell, hat _ (by omega), c0], by rw [hK.cell, hat _ (by omega), c1]⟩
set_option maxRecDepth 100000 in
set_option maxHeartbeats 8000000 in
theorem kids_any (B b T : Nat) (vn vs vm : Value) (N : List Nd) (S G : Stk) (w : World) (hA : Hid (An B w b vn vs vm N S G)) (hN : N.length ≤ 1000000) (hT : N.length = T + 1) (hoff : Hid (offN N N.length = T)) (hks : Hid (∀ j, j < N.length → 0 ≤ (N.getD j nil0).2.2)) (hS : Hid (S.length = N.length)) (hsp : Hid (SpotsIn N S)) :
    Calls Tryd.prog 48 #[.pointer (some ⟨b, 0, none⟩)] w fun e w' => ∃ (gk gr : Nat) (R : List Int), e = .returned (.slice (some ⟨gk, 0, none⟩) N.length N.length) ∧ w.heap.size ≤ gk ∧ w.heap.size ≤ gr ∧ Hid (Kd w' gk gr N N.length R) ∧ Hid (R.length = T) ∧ Hid (Roomed N S N.length R) ∧ Hid (Below w.heap.size w w') := by
  obtain ⟨an, cn, rfl, hcn⟩ := hA.out.vn_is
  have HLen : Hid (N.length = T + 1) := hT
  obtain ⟨nL, hnL⟩ : ∃ nL, N.length = nL := ⟨_, rfl⟩
  have HNL : Hid (N.length = nL) := hnL
  rw [hnL] at hA hN hT ⊢
  subst hT
  clear hnL
  have c0 := hA.out.c0
  have hmk1 := run_make_row' (P := Tryd.prog) 43 3 (.int .i64 0) 8 Tryd.underlying43 (by kernel_rfl) rfl .i64 .i64 T (by omega) (by omega)
  have hmk2 := run_make_row' (P := Tryd.prog) 68 43 (.slice none 0 0) 24 Tryd.underlying68 (by kernel_rfl) rfl .i64 .i64 (T + 1) (by omega) (by omega)
  simp only [Int.natCast_add, Int.natCast_one] at hmk2
  obtain ⟨w1, hw1⟩ : ∃ w1, w1 = w.alloc (.cells (madeCells #[.int .i64 0] T) 3) := ⟨_, rfl⟩
  obtain ⟨w2, hw2⟩ : ∃ w2, w2 = w1.alloc (.cells (madeCells #[.slice none 0 0] (T + 1)) 43) := ⟨_, rfl⟩
  have HB1 : Hid (Below w.heap.size w w1) := by rw [hw1]; exact (Below.refl _ _).alloc (Nat.le_refl _) _
  have hsz1 : w1.heap.size = w.heap.size + 1 := by rw [hw1]; simp
  have HB2 : Hid (Below w.heap.size w w2) := by rw [hw2]; exact HB1.out.alloc (by omega) _
  have HKd : Hid (Kd w2 w1.heap.size w.heap.size N 0 (List.replicate T 0)) := by
    refine kd_new HNL.out ?_ ?_
    · rw [hw2]
      have h := Blk.newA w1 (madeCells #[.slice none 0 0] (T + 1)) 43
      rwa [toList_madeCells_one] at h
    · have h := Blk.newA w (madeCells #[.int .i64 0] T) 3
      rw [toList_madeCells_one, ← hw1] at h
      rw [hw2]
      refine Blk.alloc ?_ _
      rw [cellsL, List.map_replicate]
      exact h
  have HS1 : Hid (w1.heap.size = w.heap.size + 1) := hsz1
  clear hsz1
  have c0a : w1.cell? ⟨b, 0, none⟩ = some (.slice an (T + 1) cn) := (hA.out.later HB1.out).c0
  have c0b : w2.cell? ⟨b, 0, none⟩ = some (.slice an (T + 1) cn) := (hA.out.later HB2.out).c0
  go_enter Tryd.func48, Tryd.ntmps48
  go_upto_region 2 with fail
  rw [← hw1]
  clear c0 hw1 hmk1
  go_upto_region 3 with fail
  rw [← hw2]
  clear c0a hw2 hmk2
  go_wp2_with fail
  obtain ⟨gk, hgk⟩ : ∃ gk, w1.heap.size = gk := ⟨_, rfl⟩
  obtain ⟨gr, hgr⟩ : ∃ gr, w.heap.size = gr := ⟨_, rfl⟩
  have HGK : Hid (gk = gr + 1 ∧ w.heap.size = gr) := by
    have := HS1.out
    exact ⟨by omega, hgr⟩
  rw [hgk] at HKd ⊢
  rw [hgr] at HKd HB2 ⊢
  clear hgk HB1 HS1 hgr
  go_loopw [3, 27] (fun x3 xi wr => ∃ (i x Rm : Nat), i ≤ T + 1 ∧ xi = .int .i64 i ∧ x3 = .slice (some ⟨gr, x, none⟩) Rm Rm ∧ Hid (Rm + offN N i = T ∧ (0 < Rm → x = offN N i)) ∧ Hid (Kd wr gk gr N i (List.replicate T 0)) ∧ Hid (Below gr w wr)) (fun _ xi _ => T + 1 - (intOf xi).toNat)
  case atStart => exact ⟨0, 0, T, by omega, rfl, rfl, ⟨by rw [offN_zero]; omega, fun _ => rfl⟩, HKd, HB2⟩
  case round =>
    clear c0b HKd HB2
    obtain ⟨i, x, Rm, hi, rfl, rfl, HRm, HKd, HB⟩ := hrel
    have HAr : Hid (An B wr b (.slice an (T + 1) cn) vs vm N S G) := hA.out.later (by rw [HGK.out.2]; exact HB.out)
    have c0 := HAr.out.c0; have c1 := HAr.out.c1
    by_cases hend : i = T + 1
    · subst hend
      have hnl : ¬ ((T : Int) + 1 < (T : Int) + 1) := by omega
      have hnl2 : ¬ (((T + 1 : Nat) : Int) < (T : Int) + 1) := by omega
      obtain ⟨sa, cs, hvs, hcs⟩ : ∃ a c, vs = .slice a (T + 1) c ∧ c ≤ 9223372036854775807 := by
        rcases HAr.out.spo.2 with ⟨e, h0⟩ | ⟨g, cap, cur, e, _, _, _, hm, _⟩
        · have := hS.out; have := HNL.out; omega
        · rw [hS.out, HNL.out] at e
          unfold maxLen at hm; exact ⟨_, _, e, hm⟩
      subst hvs
      go_wp2_with fail
      go_loopw [49] (fun xi wr => ∃ (i : Nat) (R : List Int), i ≤ T + 1 ∧ xi = .int .i64 i ∧ Hid (R.length = T) ∧ Hid (Roomed N S i R) ∧ Hid (Kd wr gk gr N N.length R) ∧ Hid (Below gr w wr)) (fun xi _ => T + 1 - (intOf xi).toNat)
      case atStart => exact ⟨0, List.replicate T 0, by omega, rfl, List.length_replicate, fun j h1 h2 => absurd h2 (by omega), by rw [HNL.out]; exact HKd.out, HB⟩
      case round =>
        clear c0 c1 HAr HKd HB hnl hnl2 HRm
        obtain ⟨i, R, hi, rfl, HRl, HRo, HKd, HB⟩ := hrel
        have HAr : Hid (An B wr b (.slice an (T + 1) cn) (.slice sa (T + 1) cs) vm N S G) := hA.out.later (by rw [HGK.out.2]; exact HB.out)
        by_cases hend : i = T + 1
        · subst hend
          have hnl : ¬ ((T : Int) + 1 < (T : Int) + 1) := by omega
          have hnl2 : ¬ (((T + 1 : Nat) : Int) < (T : Int) + 1) := by omega
          go_wp2
          go_ret
          exact ⟨gk, rfl, by have := HGK.out; omega, gr, by have := HGK.out; omega, R, by rw [← HNL.out]; exact HKd.out, HRl, HRo, by rw [HGK.out.2]; exact HB.out⟩
        · have hil : i < N.length := by have := HNL.out; omega
          have hil' : (i : Int) < ((T + 1 : Nat) : Int) := by omega
          have hil2 : (i : Int) < (T : Int) + 1 := by omega
          obtain ⟨gs, cs', hvs, hs1, hs2, hgs, n0, n1⟩ := HAr.out.spot (o := i) (by rw [hS.out]; exact hil)
          rw [hS.out, HNL.out] at hvs hs1
          have e1 : sa = some ⟨gs, 0, none⟩ ∧ cs = cs' := by simpa using hvs
          obtain ⟨rfl, rfl⟩ := e1
          clear hvs
          obtain ⟨⟨sp, sk⟩, hx⟩ : ∃ x, S.getD i (0, 0) = x := ⟨_, rfl⟩
          rw [hx] at n0 n1
          simp only at n0 n1
          obtain ⟨wA, hwA⟩ : ∃ wA, wA = wr.alloc (.cells #[.int .i64 sp, .int .i64 sk] 103) := ⟨_, rfl⟩
          have HBA : Hid (Below wr.heap.size wr wA) := by rw [hwA]; exact (Below.refl _ _).alloc (Nat.le_refl _) _
          have HKA : Hid (Kd wA gk gr N N.length R) := HKd.out.later HBA.out
          have HB3 : Hid (Below gr w wA) := by
            have h := HB.out.trans (HBA.out.mono (by have := HB.out.size; have := HGK.out.2; omega))
            exact h
          have a0 : wA.cell? ⟨wr.heap.size, 0, none⟩ = some (.int .i64 sp) := by rw [hwA]; exact (Blk.newA wr _ 103).cell 0
          have a1 : wA.cell? ⟨wr.heap.size, 1, none⟩ = some (.int .i64 sk) := by rw [hwA]; exact (Blk.newA wr _ 103).cell 1
          go_upto_region 11 with fail
          rw [← hwA]
          clear hwA n0 n1 HAr HBA HKd HB hgs
          by_cases h0 : i = 0
          · subst h0
            have h00 : ¬ ((0 : Int) < 0) := by omega
            go_wp2
            go_roundw
            case rel => exact ⟨1, R, by omega, by go_num, HRl, fun j h1 h2 => absurd h2 (by omega), HKA, HB3⟩
            case measure => simp [intOf]
          · have h0i : (0 : Int) < i := by omega
            obtain ⟨p, k, he, hp, hk⟩ := hsp.out.1 i (by omega) hil
            have hxx := hx
            rw [he] at hx
            obtain ⟨e1, e2⟩ := Prod.mk.inj hx
            subst e1 e2
            have HRo2 : Hid _ := HRo.out.step hsp.out hoff.out HRl.out (by omega) hil hp hk he
            obtain ⟨x, c, a5, hxo, hc1, hc2⟩ := HKA.out.at hp
            have hin := offN_in N hoff.out hp hk
            obtain rfl := hxo (by omega)
            obtain ⟨a6, a7⟩ := HKA.out.room (j := offN N p + k) (by rw [HRl.out]; exact hin)
            have HKp : Hid (∀ q, Kd ((wA.drewN q).setCell ⟨gr, offN N p + k, none⟩ (.int .i64 (i : Int))) gk gr N N.length (R.set (offN N p + k) (i : Int))) := fun q => by
              have h1 : Kd (wA.drewN q) gk gr N N.length R := HKA.out.later ⟨rfl, rfl, rfl, Nat.le_refl _, fun _ _ => rfl⟩
              exact h1.put _ _
            have HRl2 : Hid ((R.set (offN N p + k) (i : Int)).length = T) := by show _ = _; rw [List.length_set]; exact HRl.out
            generalize offN N p = of at *
            generalize R.getD (of + k) 0 = old at *
            generalize kN (N.getD p nil0) = kp at *
            have hpl : (p : Int) < (T : Int) + 1 := by have := HNL.out; omega
            have hkl : (k : Int) < (kp : Int) := by omega
            clear HKA HRo HRl he hxx
            go_wp2_with fail
            go_region
            go_wp2
            go_roundw
            case rel => exact ⟨i + 1, _, by omega, by go_num, HRl2, HRo2, HKp.out 1, HB3.out.drew.setCell (Nat.le_refl _) _⟩
            case measure => simp [intOf]; omega
    · have hil : i < N.length := by have := HNL.out; omega
      have hil' : (i : Int) < ((T + 1 : Nat) : Int) := by omega
      have hil2 : (i : Int) < (T : Int) + 1 := by omega
      obtain ⟨gn, cn', hvn, -, hn1, hn2, hgn, n0, n1, n2, -, -⟩ := HAr.out.node hil
      rw [HNL.out] at hvn hn1
      have e1 : an = some ⟨gn, 0, none⟩ ∧ cn = cn' := by simpa using hvn
      obtain ⟨rfl, rfl⟩ := e1
      obtain ⟨⟨xk, xn, xc⟩, hx⟩ : ∃ x, N.getD i nil0 = x := ⟨_, rfl⟩
      rw [hx] at n0 n1 n2
      simp only at n0 n1 n2
      clear hvn
      have h0c : 0 ≤ xc := by have := hks.out i hil; rw [hx] at this; exact this
      obtain ⟨kk, rfl⟩ := Int.eq_ofNat_of_zero_le h0c
      have hkk : kN (N.getD i nil0) = kk := by rw [hx]; simp [kN]
      have hsucc := offN_succ N i hil
      rw [hkk] at hsucc
      have hle2 := offN_le N (show i + 1 ≤ N.length by omega) (Nat.le_refl _)
      rw [hoff.out, hsucc] at hle2
      have hkR : kk ≤ Rm := by have := HRm.out.1; omega
      obtain ⟨x', hx', hs2⟩ := cut_l gr x Rm kk (kk : Int) rfl hkR
      have hs1 := cut_h (some ⟨gr, x, none⟩) Rm kk (kk : Int) rfl hkR
      obtain ⟨wA, hwA⟩ : ∃ wA, wA = wr.alloc (.cells #[.int .i64 xk, .int .u64 xn, .int .i64 (kk : Int)] 37) := ⟨_, rfl⟩
      have HBA : Hid (Below wr.heap.size wr wA) := by rw [hwA]; exact (Below.refl _ _).alloc (Nat.le_refl _) _
      have a2 : wA.cell? ⟨wr.heap.size, 2, none⟩ = some (.int .i64 (kk : Int)) := by rw [hwA]; exact (Blk.newA wr _ 37).cell 2
      have HKA : Hid (Kd wA gk gr N i (List.replicate T 0)) := HKd.out.later HBA.out
      have a2s : ∀ v, (wA.setCell ⟨gk, i, none⟩ v).cell? ⟨wr.heap.size, 2, none⟩ = some (.int .i64 (kk : Int)) := fun v => by
        have h1 : Blk wA wr.heap.size 37 [.int .i64 xk, .int .u64 xn, .int .i64 (kk : Int)] := by rw [hwA]; exact Blk.newA wr _ 37
        obtain ⟨K, h2, _⟩ := HKA.out.kb
        exact (h1.other ⟨gk, i, none⟩ v (blk_ne h1 h2 (by decide))).cell 2
      obtain ⟨⟨u, a3⟩, a4⟩ := HKA.out.cell hil
      have HK2 : Hid (∀ q, Kd ((wA.drewN q).setCell ⟨gk, i, none⟩ (.slice (some ⟨gr, x, none⟩) kk Rm)) gk gr N (i + 1) (List.replicate T 0)) := fun q => by
        have h1 : Kd (wA.drewN q) gk gr N i (List.replicate T 0) := HKA.out.later ⟨rfl, rfl, rfl, Nat.le_refl _, fun _ _ => rfl⟩
        have h2 := h1.lay hil (x := x) (c := Rm) (fun h => HRm.out.2 (by rw [hkk] at h; omega)) (by rw [hkk]; exact hkR) (by have := HRm.out.1; have := HNL.out; omega)
        rw [hkk] at h2
        exact h2
      have HB3 : Hid (Below gr w wA) := by
        have h := HB.out.trans (HBA.out.mono (by have := HB.out.size; have := HGK.out.2; omega))
        exact h
      have HRn : Hid (Rm - kk + offN N (i + 1) = T ∧ (0 < Rm - kk → x' = offN N (i + 1))) := ⟨by have := HRm.out.1; omega, fun h => by rw [hx' (by omega), hsucc, HRm.out.2 (by omega)]⟩
      have hgb : gr ≤ gk := by have := HGK.out.1; omega
      go_upto_region 6 with fail
      rw [← hwA]
      clear hwA c0 c1 n0 n1 n2 hx HKd HB HRm hsucc hle2 hx' hkk HBA HKA
      go_wp2_with fail
      go_region
      go_wp2
      go_roundw
      case rel => exact ⟨i + 1, x', Rm - kk, by omega, by go_num, rfl, HRn, HK2.out 1, HB3.out.drew.setCell hgb _⟩
      case measure => simp [intOf]; omega
end Go.Proofs.YtlbgdgobhiokpaaDoor

/- An arena's value, plain: each node, then its kids' values; with a stack. -/
namespace Go.Proofs.YtlbgdgobhiokpaaDoor
open Go.RowKit
set_option linter.unusedVariables false

def pre (N : List Nd) (ch : Nat → Nat → Nat) : Nat → Nat → List Nd
  | 0, _ => []
  | f + 1, p => N.getD p nil0 :: (List.range (kN (N.getD p nil0))).flatMap fun k => pre N ch f (ch p k)
/-- ch tells each node's kids. -/
def Kids (N : List Nd) (S : Stk) (ch : Nat → Nat → Nat) : Prop := ∀ p, p < N.length → ∀ k, k < kN (N.getD p nil0) → p < ch p k ∧ ch p k < N.length ∧ S.getD (ch p k) (0, 0) = ((p : Int), (k : Int))
section
variable {N L D : List Nd} {S : Stk} {ch : Nat → Nat → Nat} {st : List Nat}
theorem pre_fuel (h : Kids N S ch) : ∀ (f g p : Nat), p < N.length → N.length ≤ p + f → N.length ≤ p + g → pre N ch f p = pre N ch g p
  | 0, g, p, hp, hf, hg => by omega
  | f + 1, 0, p, hp, hf, hg => by omega
  | f + 1, g + 1, p, hp, hf, hg => by
    rw [pre, pre]
    congr 1
    rw [List.flatMap_def, List.flatMap_def]
    congr 1
    apply List.map_congr_left
    intro k hk
    have hk' := List.mem_range.1 hk
    obtain ⟨h1, h2, _⟩ := h p hp k hk'
    exact pre_fuel h f g (ch p k) h2 (by omega) (by omega)
/-- The value of the node p. -/
def vOf (N : List Nd) (ch : Nat → Nat → Nat) (p : Nat) : List Nd := pre N ch N.length p
theorem vOf_step (h : Kids N S ch) {p : Nat} (hp : p < N.length) : vOf N ch p = N.getD p nil0 :: (List.range (kN (N.getD p nil0))).flatMap fun k => vOf N ch (ch p k) := by
  obtain ⟨n, hn⟩ : ∃ n, N.length = n + 1 := ⟨N.length - 1, by omega⟩
  unfold vOf
  rw [hn, pre]
  congr 1
  rw [List.flatMap_def, List.flatMap_def]
  congr 1
  apply List.map_congr_left
  intro k hk
  obtain ⟨h1, h2, _⟩ := h p hp k (List.mem_range.1 hk)
  exact pre_fuel h n (n + 1) (ch p k) h2 (by omega) (by omega)
theorem vOf_pos (h : Kids N S ch) {p : Nat} (hp : p < N.length) : 0 < (vOf N ch p).length := by rw [vOf_step h hp]; simp
/-- D is told, st is to be told (the first one first). -/
structure Dfs (N : List Nd) (ch : Nat → Nat → Nat) (L D : List Nd) (st : List Nat) : Prop where
  tot : D ++ st.flatMap (vOf N ch) = L
  ins : ∀ p ∈ st, p < N.length
theorem Dfs.len (h : Dfs N ch L D st) (hK : Kids N S ch) : D.length + st.length ≤ L.length := by
  have h2 : ∀ st : List Nat, (∀ p ∈ st, p < N.length) → st.length ≤ (st.flatMap (vOf N ch)).length := by
    intro st
    induction st with
    | nil => intro _; simp
    | cons p st ih =>
      intro h
      have h1 := vOf_pos hK (h p (by simp))
      have h2 := ih fun q hq => h q (by simp [hq])
      simp only [List.flatMap_cons, List.length_append, List.length_cons]
      omega
  have h3 := h2 st h.ins
  rw [← h.tot, List.length_append]
  omega
theorem Dfs.step {p : Nat} {st : List Nat} (h : Dfs N ch L D (p :: st)) (hK : Kids N S ch) : Dfs N ch L (D ++ [N.getD p nil0]) ((List.range (kN (N.getD p nil0))).map (ch p) ++ st) := by
  have hp := h.ins p (by simp)
  refine ⟨?_, fun q hq => ?_⟩
  · rw [← h.tot, List.flatMap_cons, vOf_step hK hp, List.flatMap_append, List.flatMap_map]
    simp
  · rcases List.mem_append.1 hq with hq | hq
    · obtain ⟨k, hk, rfl⟩ := List.mem_map.1 hq
      exact (hK p hp k (List.mem_range.1 hk)).2.1
    · exact h.ins q (by simp [hq])
end
/-- A stack of numbers as it lies in memory: the first one last. -/
def stL (st : List Nat) : List Int := List.map (fun p : Nat => (p : Int)) st.reverse
theorem stL_len (st : List Nat) : (stL st).length = st.length := by simp [stL]
theorem stL_cons (p : Nat) (st : List Nat) : stL (p :: st) = stL st ++ [(p : Int)] := by simp [stL]
theorem stL_top (p : Nat) (st : List Nat) : (stL (p :: st)).getD st.length 0 = p := by
  rw [stL_cons, List.getD_eq_getElem?_getD, List.getElem?_append_right (by rw [stL_len]; exact Nat.le_refl _), stL_len, Nat.sub_self]
  rfl
/-- The kids from number j on, ahead of a stack. -/
def heap' (ch : Nat → Nat → Nat) (p c j : Nat) (st : List Nat) : List Nat := ((List.range c).drop j).map (ch p) ++ st
theorem heap'_end (ch : Nat → Nat → Nat) (p c : Nat) (st : List Nat) : heap' ch p c c st = st := by
  unfold heap'
  rw [List.drop_eq_nil_of_le (by simp)]
  rfl
theorem heap'_step (ch : Nat → Nat → Nat) (p c j : Nat) (st : List Nat) (hj : j < c) : heap' ch p c j st = ch p j :: heap' ch p c (j + 1) st := by
  unfold heap'
  rw [List.drop_eq_getElem_cons (by simpa using hj)]
  simp
theorem heap'_len (ch : Nat → Nat → Nat) (p c j : Nat) (st : List Nat) : (heap' ch p c j st).length = c - j + st.length := by simp [heap']
theorem heap'_zero (ch : Nat → Nat → Nat) (p c : Nat) (st : List Nat) : heap' ch p c 0 st = (List.range c).map (ch p) ++ st := rfl
/-- The front of a row of numbers of the call's own. -/
theorem own_front {B n cap g : Nat} {w : World} {l r : List Int} (h : w.ownsRow B 3 1 (.slice (some ⟨g, 0, none⟩) n cap) n (cellsL .i64 (l ++ r))) (hn : 0 < n) (hl : l.length + r.length = n) : w.ownsRow B 3 1 (.slice (some ⟨g, 0, none⟩) l.length cap) l.length (cellsL .i64 l) := by
  obtain ⟨g', cap', ys, e, hb, h1, h2, h3, h4, hK⟩ := own_blk h hn
  have e1 : g = g' ∧ cap = cap' := by simpa using e
  obtain ⟨rfl, rfl⟩ := e1
  have h5 := hK.owns B l.length cap hb h3 (by omega) h2
  have h6 : ys.take l.length = cellsL .i64 l := by
    have e : ys.take l.length = (ys.take n).take l.length := by rw [List.take_take, Nat.min_eq_left (by omega)]
    rw [e, h4, cellsL_append]
    exact List.take_left' (cellsL_length _ _)
  rw [h6] at h5
  exact h5
theorem own_mono {B B' e c n : Nat} {w : World} {v : Value} {xs : List Value} (h : w.ownsRow B e c v n xs) (hB : B' ≤ B) : w.ownsRow B' e c v n xs := by
  refine ⟨h.1, ?_⟩
  rcases h.2 with h | ⟨g, cap, cur, h1, h2, h3⟩
  · exact .inl h
  · exact .inr ⟨g, cap, cur, h1, Nat.le_trans hB h2, h3⟩
theorem make22 (n : Nat) (hn : n ≤ 1000000) (w : World) : ∃ ys : Array Value, ys.size = n * 3 ∧ ∀ w', (Instr.makeSlice 22 (.int .i64 0) (.int .i64 (n : Int))).run Tryd.prog w' = .ok (.slice (some ⟨w'.heap.size, 0, none⟩) 0 n) (w'.alloc (.cells ys 37)) := by
  obtain ⟨i, hi, hz⟩ : ∃ i, Tryd.prog.info? 37 = some i ∧ (i.zero, i.size, i.bytes) = (some (.agg #[.int .i64 0, .int .u64 0, .int .i64 0]), 3, 24) := Option.map_eq_some_iff.1 (show (Tryd.prog.info? 37).map (fun i => (i.zero, i.size, i.bytes)) = some (some (.agg #[.int .i64 0, .int .u64 0, .int .i64 0]), 3, 24) by kernel_rfl)
  simp only [Prod.mk.injEq] at hz
  obtain ⟨h1, h2, h3⟩ := hz
  refine ⟨madeCells (Value.agg #[.int .i64 0, .int .u64 0, .int .i64 0]).cells (n * 3), by simp [size_madeCells], fun w' => ?_⟩
  have h := run_make (P := Tryd.prog) w' 22 37 i _ Tryd.underlying22 hi h1 .i64 .i64 0 n (by omega) (by omega) (by rw [h3]; omega) (by omega)
  simpa [h2] using h
end Go.Proofs.YtlbgdgobhiokpaaDoor
