/- The document's Elem and Fits. -/
import Derived.Test.YtegejchamojfgaaDoorPa
import Derived.BigQuiet
namespace Go.Proofs.YtegejchamojfgaaDoor
open Go.RowKit
set_option linter.unusedVariables false

/-- The type of a kid. -/
def elemP (t : Ty) (x : Nv) (j : Nat) : Int :=
  if t.k = 8 then (t.ps.getD j pt0).ty else
  if t.k = 7 then (match armI t.ps x.n with | some i => (t.ps.getD i pt0).ty | none => -1) else t.e
set_option maxRecDepth 100000 in
set_option maxHeartbeats 4000000 in
theorem elem4_any (n el : Int) (ps : List Pt) (va : Option Addr) (vc : Nat) (xk xn xd : Int) (j : Int) (w : World) : Calls Tryd.prog 66 #[.agg #[.int .i64 4, .int .i64 n, .int .i64 el, .slice va ps.length vc], .agg #[.int .i64 xk, .int .u64 xn, .int .i64 xd], .int .i64 j] w fun e w' => e = .returned (.int .i64 el) ∧ Below w.heap.size w w' := by
  have hB := below2 w (.cells #[.int .i64 4, .int .i64 n, .int .i64 el, .slice va ps.length vc] 68) (.cells #[.int .i64 xk, .int .u64 xn, .int .i64 xd] 29)
  obtain ⟨k1, k2⟩ := blk2 w #[.int .i64 4, .int .i64 n, .int .i64 el, .slice va ps.length vc] #[.int .i64 xk, .int .u64 xn, .int .i64 xd] 68 29
  obtain ⟨w0, hw0⟩ : ∃ wx, wx = (w.alloc (.cells #[.int .i64 4, .int .i64 n, .int .i64 el, .slice va ps.length vc] 68)).alloc (.cells #[.int .i64 xk, .int .u64 xn, .int .i64 xd] 29) := ⟨_, rfl⟩
  rw [← hw0] at hB k1 k2
  have K1 := hide_ k1
  have K2 := hide_ k2
  have HB := hide_ hB
  have i0 := k1.cell 0; have i1 := k1.cell 1; have i2 := k1.cell 2; have i3 := k1.cell 3
  have j0 := k2.cell 0; have j1 := k2.cell 1; have j2 := k2.cell 2
  simp at i0 i1 i2 i3 j0 j1 j2
  clear hB k1 k2
  go_enter Tryd.func66, Tryd.ntmps66
  go_upto_region 1 with fail
  rw [← hw0]
  clear hw0
  go_wp2
  go_ret
  exact ⟨rfl, HB.out⟩
set_option maxRecDepth 100000 in
set_option maxHeartbeats 4000000 in
theorem elem5_any (n el : Int) (ps : List Pt) (va : Option Addr) (vc : Nat) (xk xn xd : Int) (j : Int) (w : World) : Calls Tryd.prog 66 #[.agg #[.int .i64 5, .int .i64 n, .int .i64 el, .slice va ps.length vc], .agg #[.int .i64 xk, .int .u64 xn, .int .i64 xd], .int .i64 j] w fun e w' => e = .returned (.int .i64 el) ∧ Below w.heap.size w w' := by
  have hB := below2 w (.cells #[.int .i64 5, .int .i64 n, .int .i64 el, .slice va ps.length vc] 68) (.cells #[.int .i64 xk, .int .u64 xn, .int .i64 xd] 29)
  obtain ⟨k1, k2⟩ := blk2 w #[.int .i64 5, .int .i64 n, .int .i64 el, .slice va ps.length vc] #[.int .i64 xk, .int .u64 xn, .int .i64 xd] 68 29
  obtain ⟨w0, hw0⟩ : ∃ wx, wx = (w.alloc (.cells #[.int .i64 5, .int .i64 n, .int .i64 el, .slice va ps.length vc] 68)).alloc (.cells #[.int .i64 xk, .int .u64 xn, .int .i64 xd] 29) := ⟨_, rfl⟩
  rw [← hw0] at hB k1 k2
  have K1 := hide_ k1
  have K2 := hide_ k2
  have HB := hide_ hB
  have i0 := k1.cell 0; have i1 := k1.cell 1; have i2 := k1.cell 2; have i3 := k1.cell 3
  have j0 := k2.cell 0; have j1 := k2.cell 1; have j2 := k2.cell 2
  simp at i0 i1 i2 i3 j0 j1 j2
  clear hB k1 k2
  go_enter Tryd.func66, Tryd.ntmps66
  go_upto_region 1 with fail
  rw [← hw0]
  clear hw0
  go_wp2
  go_ret
  exact ⟨rfl, HB.out⟩
set_option maxRecDepth 100000 in
set_option maxHeartbeats 4000000 in
theorem elem6_any (n el : Int) (ps : List Pt) (va : Option Addr) (vc : Nat) (xk xn xd : Int) (j : Int) (w : World) : Calls Tryd.prog 66 #[.agg #[.int .i64 6, .int .i64 n, .int .i64 el, .slice va ps.length vc], .agg #[.int .i64 xk, .int .u64 xn, .int .i64 xd], .int .i64 j] w fun e w' => e = .returned (.int .i64 el) ∧ Below w.heap.size w w' := by
  have hB := below2 w (.cells #[.int .i64 6, .int .i64 n, .int .i64 el, .slice va ps.length vc] 68) (.cells #[.int .i64 xk, .int .u64 xn, .int .i64 xd] 29)
  obtain ⟨k1, k2⟩ := blk2 w #[.int .i64 6, .int .i64 n, .int .i64 el, .slice va ps.length vc] #[.int .i64 xk, .int .u64 xn, .int .i64 xd] 68 29
  obtain ⟨w0, hw0⟩ : ∃ wx, wx = (w.alloc (.cells #[.int .i64 6, .int .i64 n, .int .i64 el, .slice va ps.length vc] 68)).alloc (.cells #[.int .i64 xk, .int .u64 xn, .int .i64 xd] 29) := ⟨_, rfl⟩
  rw [← hw0] at hB k1 k2
  have K1 := hide_ k1
  have K2 := hide_ k2
  have HB := hide_ hB
  have i0 := k1.cell 0; have i1 := k1.cell 1; have i2 := k1.cell 2; have i3 := k1.cell 3
  have j0 := k2.cell 0; have j1 := k2.cell 1; have j2 := k2.cell 2
  simp at i0 i1 i2 i3 j0 j1 j2
  clear hB k1 k2
  go_enter Tryd.func66, Tryd.ntmps66
  go_upto_region 1 with fail
  rw [← hw0]
  clear hw0
  go_wp2
  go_ret
  exact ⟨rfl, HB.out⟩
set_option maxRecDepth 100000 in
set_option maxHeartbeats 4000000 in
theorem elem8_any (n el : Int) (ps : List Pt) (va : Option Addr) (vc : Nat) (xk xn xd : Int) (j : Nat) (p : Pt) (w : World) (hp : ps[j]? = some p) (hP : Hid (PRow w va ps)) : Calls Tryd.prog 66 #[.agg #[.int .i64 8, .int .i64 n, .int .i64 el, .slice va ps.length vc], .agg #[.int .i64 xk, .int .u64 xn, .int .i64 xd], .int .i64 (j : Int)] w fun e w' => e = .returned (.int .i64 p.ty) ∧ Below w.heap.size w w' := by
  have hB := below2 w (.cells #[.int .i64 8, .int .i64 n, .int .i64 el, .slice va ps.length vc] 68) (.cells #[.int .i64 xk, .int .u64 xn, .int .i64 xd] 29)
  obtain ⟨k1, k2⟩ := blk2 w #[.int .i64 8, .int .i64 n, .int .i64 el, .slice va ps.length vc] #[.int .i64 xk, .int .u64 xn, .int .i64 xd] 68 29
  obtain ⟨w0, hw0⟩ : ∃ wx, wx = (w.alloc (.cells #[.int .i64 8, .int .i64 n, .int .i64 el, .slice va ps.length vc] 68)).alloc (.cells #[.int .i64 xk, .int .u64 xn, .int .i64 xd] 29) := ⟨_, rfl⟩
  rw [← hw0] at hB k1 k2
  have K1 := hide_ k1
  have K2 := hide_ k2
  have HB := hide_ hB
  have i0 := k1.cell 0; have i1 := k1.cell 1; have i2 := k1.cell 2; have i3 := k1.cell 3
  have j0 := k2.cell 0; have j1 := k2.cell 1; have j2 := k2.cell 2
  simp at i0 i1 i2 i3 j0 j1 j2
  clear hB k1 k2
  have hj := (List.getElem?_eq_some_iff.1 hp).1
  have hj' : (j : Int) < ps.length := by omega
  obtain ⟨b, off, rfl, hb, hc⟩ := (hP.out.later HB.out).open (by omega)
  have c2 := hc j p hp 2 (by decide)
  simp [ptc] at c2
  clear hc hp
  go_enter Tryd.func66, Tryd.ntmps66
  go_upto_region 1 with fail
  rw [← hw0]
  clear hw0
  go_wp2
  go_ret
  exact ⟨rfl, HB.out⟩
set_option maxRecDepth 100000 in
set_option maxHeartbeats 4000000 in
theorem elem7_any (n el : Int) (ps : List Pt) (va : Option Addr) (vc : Nat) (xk xn xd : Int) (j : Int) (w : World) (hpl : ps.length ≤ 9223372036854775806) (htg : Hid (∀ p ∈ ps, 0 ≤ p.tag ∧ p.tag ≤ 255)) (hP : Hid (PRow w va ps)) : Calls Tryd.prog 66 #[.agg #[.int .i64 7, .int .i64 n, .int .i64 el, .slice va ps.length vc], .agg #[.int .i64 xk, .int .u64 xn, .int .i64 xd], .int .i64 j] w fun e w' => e = .returned (.int .i64 (match armI ps xn with | some i => (ps.getD i pt0).ty | none => -1)) ∧ Below w.heap.size w w' := by
  obtain ⟨r, hr⟩ : ∃ r, (match armI ps xn with | some i => (ps.getD i pt0).ty | none => -1) = r := ⟨_, rfl⟩
  rw [hr]
  have HR := hide_ hr
  clear hr
  have hB := below2 w (.cells #[.int .i64 7, .int .i64 n, .int .i64 el, .slice va ps.length vc] 68) (.cells #[.int .i64 xk, .int .u64 xn, .int .i64 xd] 29)
  obtain ⟨k1, k2⟩ := blk2 w #[.int .i64 7, .int .i64 n, .int .i64 el, .slice va ps.length vc] #[.int .i64 xk, .int .u64 xn, .int .i64 xd] 68 29
  obtain ⟨w0, hw0⟩ : ∃ wx, wx = (w.alloc (.cells #[.int .i64 7, .int .i64 n, .int .i64 el, .slice va ps.length vc] 68)).alloc (.cells #[.int .i64 xk, .int .u64 xn, .int .i64 xd] 29) := ⟨_, rfl⟩
  rw [← hw0] at hB k1 k2
  have K1 := hide_ k1
  have K2 := hide_ k2
  have HB := hide_ hB
  have i0 := k1.cell 0; have i1 := k1.cell 1; have i2 := k1.cell 2; have i3 := k1.cell 3
  have j0 := k2.cell 0; have j1 := k2.cell 1; have j2 := k2.cell 2
  simp at i0 i1 i2 i3 j0 j1 j2
  clear hB k1 k2
  go_enter Tryd.func66, Tryd.ntmps66
  go_upto_region 1 with fail
  rw [← hw0]
  clear hw0
  go_wp2_with fail
  go_loopw [7] (fun x7 wr => ∃ (i : Nat), i ≤ ps.length ∧ x7 = .int .i64 (i : Int) ∧ Hid (∀ (q : Nat) (p : Pt), q < i → ps[q]? = some p → ¬ p.tag = xn) ∧ Hid (Below w0.heap.size w0 wr)) (fun x7 _ => ps.length - (intOf x7).toNat)
  case atStart => exact ⟨0, Nat.zero_le _, rfl, hide_ (fun q p hq => by omega), hide_ (Below.refl _ _)⟩
  case round =>
    obtain ⟨i, hi, rfl, HN, HC⟩ := hrel
    generalize wr = wq at *
    clear i0 i1 i2 i3 j0 j1 j2
    have i3 := (K1.out.later HC.out).cell 3; have j1 := (K2.out.later HC.out).cell 1
    simp at i3 j1
    by_cases hlt : i < ps.length
    · have hlt' : (i : Int) < ps.length := by omega
      have hp : ps[i]? = some (ps[i]'hlt) := List.getElem?_eq_getElem hlt
      obtain ⟨b, off, rfl, hb, hc⟩ := (hP.out.later (below_to HB.out HC.out)).open (by omega)
      have c1 := hc i _ hp 1 (by decide); have c2 := hc i _ hp 2 (by decide)
      obtain ⟨t0, t1⟩ := htg.out _ (List.mem_of_getElem? hp)
      have hw1 : IntKind.u64.wrap (ps[i]'hlt).tag = (ps[i]'hlt).tag := by rw [IntKind.wrap_u64]; omega
      have HP := hide_ hp
      simp [ptc] at c1 c2
      generalize ps[i]'hlt = p at *
      obtain ⟨pl, pt, py⟩ := p
      simp only at c1 c2 hw1 t0 t1
      clear hc hp
      by_cases he : pt = xn
      · have he' : (pt == xn) = true := by simp [he]
        have HV : Hid (py = r) := hide_ (by
          have ha := armI_at (n := xn) HP.out (by simp only; exact he) (fun q p hq hp => HN.out q p hq hp)
          have h1 := HR.out
          rw [ha] at h1
          simp only at h1
          rw [← h1]
          simp [List.getD, HP.out])
        go_wp2_with fail
        go_quiet (fail)
        have HCq : Hid (Below w.heap.size w (wq.drewN nq)) := hide_ (below_to HB.out (below_drewN HC.out nq))
        have i3' := (Blk.drewN (K1.out.later HC.out) nq).cell 3
        have c2' : (wq.drewN nq).cell? ⟨b, off + i * 3 + 2, none⟩ = some (.int .i64 py) := c2
        simp at i3'
        go_wp2
        go_ret
        exact ⟨ret_int HV.out, HCq.out⟩
      · have he' : (pt == xn) = false := by simpa using he
        have HNn : Hid (∀ (q : Nat) (p : Pt), q < i + 1 → ps[q]? = some p → ¬ p.tag = xn) := hide_ (fun q p hq hp => by
          rcases Nat.lt_or_ge q i with h | h
          · exact HN.out q p h hp
          · obtain rfl : q = i := by omega
            rw [HP.out] at hp
            injection hp with hp
            subst hp
            exact he)
        go_wp2_with fail
        go_quiet (fail)
        have HCq : ∀ q, Hid (Below w0.heap.size w0 (wq.drewN q)) := fun q => hide_ (below_drewN HC.out q)
        clear hw1
        go_wp2_with fail
        go_roundw
        case rel => exact ⟨i + 1, by omega, by go_num, HNn, HCq _⟩
        case measure => simp [intOf]; omega
    · have hlt' : ¬ (i : Int) < ps.length := by omega
      have HV : Hid (-1 = r) := hide_ (by
        have ha := armI_none (ps := ps) (n := xn) (fun q p hp => HN.out q p (by have := (List.getElem?_eq_some_iff.1 hp).1; omega) hp)
        have h1 := HR.out
        rw [ha] at h1
        exact h1)
      have HBf := hide_ (below_to HB.out HC.out)
      go_wp2
      go_ret
      exact ⟨ret_int HV.out, HBf.out⟩
set_option maxRecDepth 100000 in
set_option maxHeartbeats 4000000 in
theorem fitsR2_any (n el : Int) (ps : List Pt) (va : Option Addr) (vc : Nat) (xk xn xd : Int) (w : World)  : Calls Tryd.prog 68 #[.agg #[.int .i64 2, .int .i64 n, .int .i64 el, .slice va ps.length vc], .agg #[.int .i64 xk, .int .u64 xn, .int .i64 xd]] w fun e w' => e = .returned (.int .i64 (misP ⟨2, n, el, ps⟩ ⟨xk, xn, xd⟩)) ∧ Below w.heap.size w w' := by
  have hB := below2 w (.cells #[.int .i64 2, .int .i64 n, .int .i64 el, .slice va ps.length vc] 68) (.cells #[.int .i64 xk, .int .u64 xn, .int .i64 xd] 29)
  obtain ⟨k1, k2⟩ := blk2 w #[.int .i64 2, .int .i64 n, .int .i64 el, .slice va ps.length vc] #[.int .i64 xk, .int .u64 xn, .int .i64 xd] 68 29
  obtain ⟨w0, hw0⟩ : ∃ wx, wx = (w.alloc (.cells #[.int .i64 2, .int .i64 n, .int .i64 el, .slice va ps.length vc] 68)).alloc (.cells #[.int .i64 xk, .int .u64 xn, .int .i64 xd] 29) := ⟨_, rfl⟩
  rw [← hw0] at hB k1 k2
  have K1 := hide_ k1
  have K2 := hide_ k2
  have HB := hide_ hB
  have i0 := k1.cell 0; have i1 := k1.cell 1; have i2 := k1.cell 2; have i3 := k1.cell 3
  have j0 := k2.cell 0; have j1 := k2.cell 1; have j2 := k2.cell 2
  simp at i0 i1 i2 i3 j0 j1 j2
  clear hB k1 k2
  go_enter Tryd.func68, Tryd.ntmps68
  go_upto_region 1 with fail
  rw [← hw0]
  clear hw0
  by_cases hk : xk = 2
  · have hkb : (xk == 2) = true := by simp [hk]
    have hkn : (xk != 2) = false := by simp [hk]
    have HV : Hid (misP ⟨2, n, el, ps⟩ ⟨xk, xn, xd⟩ = 0) := hide_ (by simp [misP, nkind, nkT, hk])
    go_wp2_with fail
    go_quiet (fail)
    have HBq := hide_ (below_drewN HB.out nq)
    go_wp2
    go_ret
    exact ⟨by rw [HV.out]; rfl, HBq.out⟩
  · have hkn : (xk != 2) = true := by simpa using hk
    have HV : Hid (misP ⟨2, n, el, ps⟩ ⟨xk, xn, xd⟩ = 110) := hide_ (by simp [misP, nkind, nkT, hk])
    go_wp2
    go_ret
    exact ⟨by rw [HV.out]; rfl, HB.out⟩
set_option maxRecDepth 100000 in
set_option maxHeartbeats 4000000 in
theorem fitsR3_any (n el : Int) (ps : List Pt) (va : Option Addr) (vc : Nat) (xk xn xd : Int) (w : World)  : Calls Tryd.prog 68 #[.agg #[.int .i64 3, .int .i64 n, .int .i64 el, .slice va ps.length vc], .agg #[.int .i64 xk, .int .u64 xn, .int .i64 xd]] w fun e w' => e = .returned (.int .i64 (misP ⟨3, n, el, ps⟩ ⟨xk, xn, xd⟩)) ∧ Below w.heap.size w w' := by
  have hB := below2 w (.cells #[.int .i64 3, .int .i64 n, .int .i64 el, .slice va ps.length vc] 68) (.cells #[.int .i64 xk, .int .u64 xn, .int .i64 xd] 29)
  obtain ⟨k1, k2⟩ := blk2 w #[.int .i64 3, .int .i64 n, .int .i64 el, .slice va ps.length vc] #[.int .i64 xk, .int .u64 xn, .int .i64 xd] 68 29
  obtain ⟨w0, hw0⟩ : ∃ wx, wx = (w.alloc (.cells #[.int .i64 3, .int .i64 n, .int .i64 el, .slice va ps.length vc] 68)).alloc (.cells #[.int .i64 xk, .int .u64 xn, .int .i64 xd] 29) := ⟨_, rfl⟩
  rw [← hw0] at hB k1 k2
  have K1 := hide_ k1
  have K2 := hide_ k2
  have HB := hide_ hB
  have i0 := k1.cell 0; have i1 := k1.cell 1; have i2 := k1.cell 2; have i3 := k1.cell 3
  have j0 := k2.cell 0; have j1 := k2.cell 1; have j2 := k2.cell 2
  simp at i0 i1 i2 i3 j0 j1 j2
  clear hB k1 k2
  go_enter Tryd.func68, Tryd.ntmps68
  go_upto_region 1 with fail
  rw [← hw0]
  clear hw0
  by_cases hk : xk = 1
  · have hkb : (xk == 1) = true := by simp [hk]
    have hkn : (xk != 1) = false := by simp [hk]
    have HV : Hid (misP ⟨3, n, el, ps⟩ ⟨xk, xn, xd⟩ = 0) := hide_ (by simp [misP, nkind, nkT, hk])
    go_wp2_with fail
    go_quiet (fail)
    have HBq := hide_ (below_drewN HB.out nq)
    go_wp2
    go_ret
    exact ⟨by rw [HV.out]; rfl, HBq.out⟩
  · have hkn : (xk != 1) = true := by simpa using hk
    have HV : Hid (misP ⟨3, n, el, ps⟩ ⟨xk, xn, xd⟩ = 110) := hide_ (by simp [misP, nkind, nkT, hk])
    go_wp2
    go_ret
    exact ⟨by rw [HV.out]; rfl, HB.out⟩
set_option maxRecDepth 100000 in
set_option maxHeartbeats 4000000 in
theorem fitsR6_any (n el : Int) (ps : List Pt) (va : Option Addr) (vc : Nat) (xk xn xd : Int) (w : World)  : Calls Tryd.prog 68 #[.agg #[.int .i64 6, .int .i64 n, .int .i64 el, .slice va ps.length vc], .agg #[.int .i64 xk, .int .u64 xn, .int .i64 xd]] w fun e w' => e = .returned (.int .i64 (misP ⟨6, n, el, ps⟩ ⟨xk, xn, xd⟩)) ∧ Below w.heap.size w w' := by
  have hB := below2 w (.cells #[.int .i64 6, .int .i64 n, .int .i64 el, .slice va ps.length vc] 68) (.cells #[.int .i64 xk, .int .u64 xn, .int .i64 xd] 29)
  obtain ⟨k1, k2⟩ := blk2 w #[.int .i64 6, .int .i64 n, .int .i64 el, .slice va ps.length vc] #[.int .i64 xk, .int .u64 xn, .int .i64 xd] 68 29
  obtain ⟨w0, hw0⟩ : ∃ wx, wx = (w.alloc (.cells #[.int .i64 6, .int .i64 n, .int .i64 el, .slice va ps.length vc] 68)).alloc (.cells #[.int .i64 xk, .int .u64 xn, .int .i64 xd] 29) := ⟨_, rfl⟩
  rw [← hw0] at hB k1 k2
  have K1 := hide_ k1
  have K2 := hide_ k2
  have HB := hide_ hB
  have i0 := k1.cell 0; have i1 := k1.cell 1; have i2 := k1.cell 2; have i3 := k1.cell 3
  have j0 := k2.cell 0; have j1 := k2.cell 1; have j2 := k2.cell 2
  simp at i0 i1 i2 i3 j0 j1 j2
  clear hB k1 k2
  go_enter Tryd.func68, Tryd.ntmps68
  go_upto_region 1 with fail
  rw [← hw0]
  clear hw0
  by_cases hk : xk = 5
  · have hkb : (xk == 5) = true := by simp [hk]
    have hkn : (xk != 5) = false := by simp [hk]
    have HV : Hid (misP ⟨6, n, el, ps⟩ ⟨xk, xn, xd⟩ = 0) := hide_ (by simp [misP, nkind, nkT, hk])
    go_wp2_with fail
    go_quiet (fail)
    have HBq := hide_ (below_drewN HB.out nq)
    go_wp2
    go_ret
    exact ⟨by rw [HV.out]; rfl, HBq.out⟩
  · have hkn : (xk != 5) = true := by simpa using hk
    have HV : Hid (misP ⟨6, n, el, ps⟩ ⟨xk, xn, xd⟩ = 110) := hide_ (by simp [misP, nkind, nkT, hk])
    go_wp2
    go_ret
    exact ⟨by rw [HV.out]; rfl, HB.out⟩
set_option maxRecDepth 100000 in
set_option maxHeartbeats 4000000 in
theorem fitsR4_any (n el : Int) (ps : List Pt) (va : Option Addr) (vc : Nat) (xk xn xd : Int) (w : World)  : Calls Tryd.prog 68 #[.agg #[.int .i64 4, .int .i64 n, .int .i64 el, .slice va ps.length vc], .agg #[.int .i64 xk, .int .u64 xn, .int .i64 xd]] w fun e w' => e = .returned (.int .i64 (misP ⟨4, n, el, ps⟩ ⟨xk, xn, xd⟩)) ∧ Below w.heap.size w w' := by
  have hB := below2 w (.cells #[.int .i64 4, .int .i64 n, .int .i64 el, .slice va ps.length vc] 68) (.cells #[.int .i64 xk, .int .u64 xn, .int .i64 xd] 29)
  obtain ⟨k1, k2⟩ := blk2 w #[.int .i64 4, .int .i64 n, .int .i64 el, .slice va ps.length vc] #[.int .i64 xk, .int .u64 xn, .int .i64 xd] 68 29
  obtain ⟨w0, hw0⟩ : ∃ wx, wx = (w.alloc (.cells #[.int .i64 4, .int .i64 n, .int .i64 el, .slice va ps.length vc] 68)).alloc (.cells #[.int .i64 xk, .int .u64 xn, .int .i64 xd] 29) := ⟨_, rfl⟩
  rw [← hw0] at hB k1 k2
  have K1 := hide_ k1
  have K2 := hide_ k2
  have HB := hide_ hB
  have i0 := k1.cell 0; have i1 := k1.cell 1; have i2 := k1.cell 2; have i3 := k1.cell 3
  have j0 := k2.cell 0; have j1 := k2.cell 1; have j2 := k2.cell 2
  simp at i0 i1 i2 i3 j0 j1 j2
  clear hB k1 k2
  go_enter Tryd.func68, Tryd.ntmps68
  go_upto_region 1 with fail
  rw [← hw0]
  clear hw0
  by_cases hk : xk = 3
  · have hkb : (xk == 3) = true := by simp [hk]
    have hkn : (xk != 3) = false := by simp [hk]
    by_cases hc : xd = n
    · have hcn : (xd != n) = false := by simp [hc]
      have HV : Hid (misP ⟨4, n, el, ps⟩ ⟨xk, xn, xd⟩ = 0) := hide_ (by simp [misP, nkind, nkT, hk, hc])
      go_wp2_with fail
      go_quiet (fail)
      have HBq := hide_ (below_drewN HB.out nq)
      go_wp2
      go_ret
      exact ⟨by rw [HV.out]; rfl, HBq.out⟩
    · have hcn : (xd != n) = true := by simpa using hc
      have HV : Hid (misP ⟨4, n, el, ps⟩ ⟨xk, xn, xd⟩ = 112) := hide_ (by simp [misP, nkind, nkT, hk]; omega)
      go_wp2_with fail
      go_quiet (fail)
      have HBq := hide_ (below_drewN HB.out nq)
      go_wp2
      go_ret
      exact ⟨by rw [HV.out]; rfl, HBq.out⟩
  · have hkn : (xk != 3) = true := by simpa using hk
    have HV : Hid (misP ⟨4, n, el, ps⟩ ⟨xk, xn, xd⟩ = 110) := hide_ (by simp [misP, nkind, nkT, hk])
    go_wp2
    go_ret
    exact ⟨by rw [HV.out]; rfl, HB.out⟩
set_option maxRecDepth 100000 in
set_option maxHeartbeats 4000000 in
theorem fitsR5_any (n el : Int) (ps : List Pt) (va : Option Addr) (vc : Nat) (xk xn xd : Int) (w : World) (hd : 0 ≤ xd) : Calls Tryd.prog 68 #[.agg #[.int .i64 5, .int .i64 n, .int .i64 el, .slice va ps.length vc], .agg #[.int .i64 xk, .int .u64 xn, .int .i64 xd]] w fun e w' => e = .returned (.int .i64 (misP ⟨5, n, el, ps⟩ ⟨xk, xn, xd⟩)) ∧ Below w.heap.size w w' := by
  have hB := below2 w (.cells #[.int .i64 5, .int .i64 n, .int .i64 el, .slice va ps.length vc] 68) (.cells #[.int .i64 xk, .int .u64 xn, .int .i64 xd] 29)
  obtain ⟨k1, k2⟩ := blk2 w #[.int .i64 5, .int .i64 n, .int .i64 el, .slice va ps.length vc] #[.int .i64 xk, .int .u64 xn, .int .i64 xd] 68 29
  obtain ⟨w0, hw0⟩ : ∃ wx, wx = (w.alloc (.cells #[.int .i64 5, .int .i64 n, .int .i64 el, .slice va ps.length vc] 68)).alloc (.cells #[.int .i64 xk, .int .u64 xn, .int .i64 xd] 29) := ⟨_, rfl⟩
  rw [← hw0] at hB k1 k2
  have K1 := hide_ k1
  have K2 := hide_ k2
  have HB := hide_ hB
  have i0 := k1.cell 0; have i1 := k1.cell 1; have i2 := k1.cell 2; have i3 := k1.cell 3
  have j0 := k2.cell 0; have j1 := k2.cell 1; have j2 := k2.cell 2
  simp at i0 i1 i2 i3 j0 j1 j2
  clear hB k1 k2
  go_enter Tryd.func68, Tryd.ntmps68
  go_upto_region 1 with fail
  rw [← hw0]
  clear hw0
  by_cases hk : xk = 3
  · have hkb : (xk == 3) = true := by simp [hk]
    have hkn : (xk != 3) = false := by simp [hk]
    by_cases hc : n < xd
    · skip
      have HV : Hid (misP ⟨5, n, el, ps⟩ ⟨xk, xn, xd⟩ = 112) := hide_ (by simp [misP, nkind, nkT, hk]; omega)
      go_wp2_with fail
      go_quiet (fail)
      have HBq := hide_ (below_drewN HB.out nq)
      go_wp2
      go_ret
      exact ⟨by rw [HV.out]; rfl, HBq.out⟩
    · skip
      have HV : Hid (misP ⟨5, n, el, ps⟩ ⟨xk, xn, xd⟩ = 0) := hide_ (by simp [misP, nkind, nkT, hk]; omega)
      go_wp2_with fail
      go_quiet (fail)
      have HBq := hide_ (below_drewN HB.out nq)
      go_wp2
      go_ret
      exact ⟨by rw [HV.out]; rfl, HBq.out⟩
  · have hkn : (xk != 3) = true := by simpa using hk
    have HV : Hid (misP ⟨5, n, el, ps⟩ ⟨xk, xn, xd⟩ = 110) := hide_ (by simp [misP, nkind, nkT, hk])
    go_wp2
    go_ret
    exact ⟨by rw [HV.out]; rfl, HB.out⟩
set_option maxRecDepth 100000 in
set_option maxHeartbeats 4000000 in
theorem fitsR8_any (n el : Int) (ps : List Pt) (va : Option Addr) (vc : Nat) (xk xn xd : Int) (w : World)  : Calls Tryd.prog 68 #[.agg #[.int .i64 8, .int .i64 n, .int .i64 el, .slice va ps.length vc], .agg #[.int .i64 xk, .int .u64 xn, .int .i64 xd]] w fun e w' => e = .returned (.int .i64 (misP ⟨8, n, el, ps⟩ ⟨xk, xn, xd⟩)) ∧ Below w.heap.size w w' := by
  have hB := below2 w (.cells #[.int .i64 8, .int .i64 n, .int .i64 el, .slice va ps.length vc] 68) (.cells #[.int .i64 xk, .int .u64 xn, .int .i64 xd] 29)
  obtain ⟨k1, k2⟩ := blk2 w #[.int .i64 8, .int .i64 n, .int .i64 el, .slice va ps.length vc] #[.int .i64 xk, .int .u64 xn, .int .i64 xd] 68 29
  obtain ⟨w0, hw0⟩ : ∃ wx, wx = (w.alloc (.cells #[.int .i64 8, .int .i64 n, .int .i64 el, .slice va ps.length vc] 68)).alloc (.cells #[.int .i64 xk, .int .u64 xn, .int .i64 xd] 29) := ⟨_, rfl⟩
  rw [← hw0] at hB k1 k2
  have K1 := hide_ k1
  have K2 := hide_ k2
  have HB := hide_ hB
  have i0 := k1.cell 0; have i1 := k1.cell 1; have i2 := k1.cell 2; have i3 := k1.cell 3
  have j0 := k2.cell 0; have j1 := k2.cell 1; have j2 := k2.cell 2
  simp at i0 i1 i2 i3 j0 j1 j2
  clear hB k1 k2
  go_enter Tryd.func68, Tryd.ntmps68
  go_upto_region 1 with fail
  rw [← hw0]
  clear hw0
  by_cases hk : xk = 4
  · have hkb : (xk == 4) = true := by simp [hk]
    have hkn : (xk != 4) = false := by simp [hk]
    by_cases hc : xd = (ps.length : Int)
    · have hcn : (xd != (ps.length : Int)) = false := by simp [hc]
      have HV : Hid (misP ⟨8, n, el, ps⟩ ⟨xk, xn, xd⟩ = 0) := hide_ (by simp [misP, nkind, nkT, hk, hc])
      go_wp2_with fail
      go_quiet (fail)
      have HBq := hide_ (below_drewN HB.out nq)
      go_wp2
      go_ret
      exact ⟨by rw [HV.out]; rfl, HBq.out⟩
    · have hcn : (xd != (ps.length : Int)) = true := by simpa using hc
      have HV : Hid (misP ⟨8, n, el, ps⟩ ⟨xk, xn, xd⟩ = 112) := hide_ (by simp [misP, nkind, nkT, hk]; omega)
      go_wp2_with fail
      go_quiet (fail)
      have HBq := hide_ (below_drewN HB.out nq)
      go_wp2
      go_ret
      exact ⟨by rw [HV.out]; rfl, HBq.out⟩
  · have hkn : (xk != 4) = true := by simpa using hk
    have HV : Hid (misP ⟨8, n, el, ps⟩ ⟨xk, xn, xd⟩ = 110) := hide_ (by simp [misP, nkind, nkT, hk])
    go_wp2
    go_ret
    exact ⟨by rw [HV.out]; rfl, HB.out⟩
set_option maxRecDepth 100000 in
set_option maxHeartbeats 4000000 in
theorem fitsR7_any (n el : Int) (ps : List Pt) (va : Option Addr) (vc : Nat) (xk xn xd : Int) (w : World) (hpl : ps.length ≤ 9223372036854775806) (htg : Hid (∀ p ∈ ps, 0 ≤ p.tag ∧ p.tag ≤ 255)) (hpt : Hid (∀ (m : Nat) (p : Pt), ps[m]? = some p → 0 ≤ p.ty)) (hP : Hid (PRow w va ps)) : Calls Tryd.prog 68 #[.agg #[.int .i64 7, .int .i64 n, .int .i64 el, .slice va ps.length vc], .agg #[.int .i64 xk, .int .u64 xn, .int .i64 xd]] w fun e w' => e = .returned (.int .i64 (misP ⟨7, n, el, ps⟩ ⟨xk, xn, xd⟩)) ∧ Below w.heap.size w w' := by
  have hB := below2 w (.cells #[.int .i64 7, .int .i64 n, .int .i64 el, .slice va ps.length vc] 68) (.cells #[.int .i64 xk, .int .u64 xn, .int .i64 xd] 29)
  obtain ⟨k1, k2⟩ := blk2 w #[.int .i64 7, .int .i64 n, .int .i64 el, .slice va ps.length vc] #[.int .i64 xk, .int .u64 xn, .int .i64 xd] 68 29
  obtain ⟨w0, hw0⟩ : ∃ wx, wx = (w.alloc (.cells #[.int .i64 7, .int .i64 n, .int .i64 el, .slice va ps.length vc] 68)).alloc (.cells #[.int .i64 xk, .int .u64 xn, .int .i64 xd] 29) := ⟨_, rfl⟩
  rw [← hw0] at hB k1 k2
  have K1 := hide_ k1
  have K2 := hide_ k2
  have HB := hide_ hB
  have i0 := k1.cell 0; have i1 := k1.cell 1; have i2 := k1.cell 2; have i3 := k1.cell 3
  have j0 := k2.cell 0; have j1 := k2.cell 1; have j2 := k2.cell 2
  simp at i0 i1 i2 i3 j0 j1 j2
  clear hB k1 k2
  have HEl : Hid (∀ w', Below w0.heap.size w0 w' → Calls Tryd.prog 66 #[.agg #[.int .i64 7, .int .i64 n, .int .i64 el, .slice va ps.length vc], .agg #[.int .i64 xk, .int .u64 xn, .int .i64 xd], .int .i64 0] w' fun e w'' => e = .returned (.int .i64 (match armI ps xn with | some i => (ps.getD i pt0).ty | none => -1)) ∧ Below w'.heap.size w' w'') := hide_ (fun w' hB' => elem7_any n el ps va vc xk xn xd 0 w' hpl htg (hide_ (hP.out.later (below_to HB.out hB'))))
  go_enter Tryd.func68, Tryd.ntmps68
  go_upto_region 1 with fail
  rw [← hw0]
  clear hw0
  by_cases hk : xk = 6
  · have hkb : (xk == 6) = true := by simp [hk]
    have hkn : (xk != 6) = false := by simp [hk]
    subst hk
    clear hkb hkn
    cases ha : armI ps xn with
    | none =>
      have HV : Hid (misP ⟨7, n, el, ps⟩ ⟨6, xn, xd⟩ = 113) := hide_ (by simp [misP, nkind, nkT, ha])
      rw [ha] at HEl
      simp only at HEl
      go_wp2_with fail
      go_quiet (fail)
      have HBq := hide_ (below_drewN HB.out nq)
      have HEq := hide_ (HEl.out (w0.drewN nq) (below_drewN (Below.refl _ _) nq))
      have K15 := hide_ (K1.out.drewN nq)
      have K25 := hide_ (K2.out.drewN nq)
      clear i0 i1 i2 i3 j0 j1 j2
      generalize w0.drewN nq = w5 at *
      have i0 := K15.out.cell 0; have i1 := K15.out.cell 1; have i2 := K15.out.cell 2; have i3 := K15.out.cell 3
      have j0 := K25.out.cell 0; have j1 := K25.out.cell 1; have j2 := K25.out.cell 2
      simp at i0 i1 i2 i3 j0 j1 j2
      go_wp2_with fail
      refine HEq.out.mono ?_; rintro e w6 ⟨rfl, hB6⟩
      have HBf := hide_ (below_to HBq.out hB6)
      clear hB6
      go_wp2
      go_ret
      exact ⟨by rw [HV.out]; rfl, HBf.out⟩
    | some m =>
      obtain ⟨p, hp, -⟩ := armI_some ha
      have hp0 := hpt.out m p hp
      have HV : Hid (misP ⟨7, n, el, ps⟩ ⟨6, xn, xd⟩ = 0) := hide_ (by simp [misP, nkind, nkT, ha])
      rw [ha] at HEl
      simp only at HEl
      rw [show ps.getD m pt0 = p by simp [List.getD, hp]] at HEl
      obtain ⟨y, hy⟩ : ∃ y, p.ty = y := ⟨_, rfl⟩
      rw [hy] at HEl hp0
      clear hy hp
      go_wp2_with fail
      go_quiet (fail)
      have HBq := hide_ (below_drewN HB.out nq)
      have HEq := hide_ (HEl.out (w0.drewN nq) (below_drewN (Below.refl _ _) nq))
      have K15 := hide_ (K1.out.drewN nq)
      have K25 := hide_ (K2.out.drewN nq)
      clear i0 i1 i2 i3 j0 j1 j2
      generalize w0.drewN nq = w5 at *
      have i0 := K15.out.cell 0; have i1 := K15.out.cell 1; have i2 := K15.out.cell 2; have i3 := K15.out.cell 3
      have j0 := K25.out.cell 0; have j1 := K25.out.cell 1; have j2 := K25.out.cell 2
      simp at i0 i1 i2 i3 j0 j1 j2
      have hy0 : ¬ y < 0 := by omega
      go_wp2_with fail
      refine HEq.out.mono ?_; rintro e w6 ⟨rfl, hB6⟩
      have HBf := hide_ (below_to HBq.out hB6)
      clear hB6
      go_wp2
      go_ret
      exact ⟨by rw [HV.out]; rfl, HBf.out⟩
  · have hkn : (xk != 6) = true := by simpa using hk
    have HV : Hid (misP ⟨7, n, el, ps⟩ ⟨xk, xn, xd⟩ = 110) := hide_ (by simp [misP, nkind, nkT, hk])
    go_wp2
    go_ret
    exact ⟨by rw [HV.out]; rfl, HB.out⟩
set_option maxRecDepth 100000 in
set_option maxHeartbeats 4000000 in
theorem fitsR1_1 (el : Int) (ps : List Pt) (va : Option Addr) (vc : Nat) (xk xn xd : Int) (w : World) : Calls Tryd.prog 68 #[.agg #[.int .i64 1, .int .i64 1, .int .i64 el, .slice va ps.length vc], .agg #[.int .i64 xk, .int .u64 xn, .int .i64 xd]] w fun e w' => e = .returned (.int .i64 (misP ⟨1, 1, el, ps⟩ ⟨xk, xn, xd⟩)) ∧ Below w.heap.size w w' := by
  have hB := below2 w (.cells #[.int .i64 1, .int .i64 1, .int .i64 el, .slice va ps.length vc] 68) (.cells #[.int .i64 xk, .int .u64 xn, .int .i64 xd] 29)
  obtain ⟨k1, k2⟩ := blk2 w #[.int .i64 1, .int .i64 1, .int .i64 el, .slice va ps.length vc] #[.int .i64 xk, .int .u64 xn, .int .i64 xd] 68 29
  obtain ⟨w0, hw0⟩ : ∃ wx, wx = (w.alloc (.cells #[.int .i64 1, .int .i64 1, .int .i64 el, .slice va ps.length vc] 68)).alloc (.cells #[.int .i64 xk, .int .u64 xn, .int .i64 xd] 29) := ⟨_, rfl⟩
  rw [← hw0] at hB k1 k2
  have K1 := hide_ k1
  have K2 := hide_ k2
  have HB := hide_ hB
  have i0 := k1.cell 0; have i1 := k1.cell 1; have i2 := k1.cell 2; have i3 := k1.cell 3
  have j0 := k2.cell 0; have j1 := k2.cell 1; have j2 := k2.cell 2
  simp at i0 i1 i2 i3 j0 j1 j2
  clear hB k1 k2
  go_enter Tryd.func68, Tryd.ntmps68
  go_upto_region 1 with fail
  rw [← hw0]
  clear hw0
  by_cases hk : xk = 1
  · have hkb : (xk == 1) = true := by simp [hk]
    have hkn : (xk != 1) = false := by simp [hk]
    by_cases hc : 256 ≤ xn
    · skip
      have HV : Hid (misP ⟨1, 1, el, ps⟩ ⟨xk, xn, xd⟩ = 111) := hide_ (by simp [misP, nkind, nkT, hk, gr]; omega)
      go_wp2_with fail
      go_quiet (fail)
      have HBq := hide_ (below_drewN HB.out nq)
      go_wp2
      go_ret
      exact ⟨by rw [HV.out]; rfl, HBq.out⟩
    · skip
      have HV : Hid (misP ⟨1, 1, el, ps⟩ ⟨xk, xn, xd⟩ = 0) := hide_ (by simp [misP, nkind, nkT, hk, gr]; omega)
      go_wp2_with fail
      go_quiet (fail)
      have HBq := hide_ (below_drewN HB.out nq)
      go_wp2
      go_ret
      exact ⟨by rw [HV.out]; rfl, HBq.out⟩
  · have hkn : (xk != 1) = true := by simpa using hk
    have HV : Hid (misP ⟨1, 1, el, ps⟩ ⟨xk, xn, xd⟩ = 110) := hide_ (by simp [misP, nkind, nkT, hk])
    go_wp2
    go_ret
    exact ⟨by rw [HV.out]; rfl, HB.out⟩
set_option maxRecDepth 100000 in
set_option maxHeartbeats 4000000 in
theorem fitsR1_2 (el : Int) (ps : List Pt) (va : Option Addr) (vc : Nat) (xk xn xd : Int) (w : World) : Calls Tryd.prog 68 #[.agg #[.int .i64 1, .int .i64 2, .int .i64 el, .slice va ps.length vc], .agg #[.int .i64 xk, .int .u64 xn, .int .i64 xd]] w fun e w' => e = .returned (.int .i64 (misP ⟨1, 2, el, ps⟩ ⟨xk, xn, xd⟩)) ∧ Below w.heap.size w w' := by
  have hB := below2 w (.cells #[.int .i64 1, .int .i64 2, .int .i64 el, .slice va ps.length vc] 68) (.cells #[.int .i64 xk, .int .u64 xn, .int .i64 xd] 29)
  obtain ⟨k1, k2⟩ := blk2 w #[.int .i64 1, .int .i64 2, .int .i64 el, .slice va ps.length vc] #[.int .i64 xk, .int .u64 xn, .int .i64 xd] 68 29
  obtain ⟨w0, hw0⟩ : ∃ wx, wx = (w.alloc (.cells #[.int .i64 1, .int .i64 2, .int .i64 el, .slice va ps.length vc] 68)).alloc (.cells #[.int .i64 xk, .int .u64 xn, .int .i64 xd] 29) := ⟨_, rfl⟩
  rw [← hw0] at hB k1 k2
  have K1 := hide_ k1
  have K2 := hide_ k2
  have HB := hide_ hB
  have i0 := k1.cell 0; have i1 := k1.cell 1; have i2 := k1.cell 2; have i3 := k1.cell 3
  have j0 := k2.cell 0; have j1 := k2.cell 1; have j2 := k2.cell 2
  simp at i0 i1 i2 i3 j0 j1 j2
  clear hB k1 k2
  go_enter Tryd.func68, Tryd.ntmps68
  go_upto_region 1 with fail
  rw [← hw0]
  clear hw0
  by_cases hk : xk = 1
  · have hkb : (xk == 1) = true := by simp [hk]
    have hkn : (xk != 1) = false := by simp [hk]
    by_cases hc : 65536 ≤ xn
    · skip
      have HV : Hid (misP ⟨1, 2, el, ps⟩ ⟨xk, xn, xd⟩ = 111) := hide_ (by simp [misP, nkind, nkT, hk, gr]; omega)
      go_wp2_with fail
      go_quiet (fail)
      have HBq := hide_ (below_drewN HB.out nq)
      go_wp2
      go_ret
      exact ⟨by rw [HV.out]; rfl, HBq.out⟩
    · skip
      have HV : Hid (misP ⟨1, 2, el, ps⟩ ⟨xk, xn, xd⟩ = 0) := hide_ (by simp [misP, nkind, nkT, hk, gr]; omega)
      go_wp2_with fail
      go_quiet (fail)
      have HBq := hide_ (below_drewN HB.out nq)
      go_wp2
      go_ret
      exact ⟨by rw [HV.out]; rfl, HBq.out⟩
  · have hkn : (xk != 1) = true := by simpa using hk
    have HV : Hid (misP ⟨1, 2, el, ps⟩ ⟨xk, xn, xd⟩ = 110) := hide_ (by simp [misP, nkind, nkT, hk])
    go_wp2
    go_ret
    exact ⟨by rw [HV.out]; rfl, HB.out⟩
set_option maxRecDepth 100000 in
set_option maxHeartbeats 4000000 in
theorem fitsR1_4 (el : Int) (ps : List Pt) (va : Option Addr) (vc : Nat) (xk xn xd : Int) (w : World) : Calls Tryd.prog 68 #[.agg #[.int .i64 1, .int .i64 4, .int .i64 el, .slice va ps.length vc], .agg #[.int .i64 xk, .int .u64 xn, .int .i64 xd]] w fun e w' => e = .returned (.int .i64 (misP ⟨1, 4, el, ps⟩ ⟨xk, xn, xd⟩)) ∧ Below w.heap.size w w' := by
  have hB := below2 w (.cells #[.int .i64 1, .int .i64 4, .int .i64 el, .slice va ps.length vc] 68) (.cells #[.int .i64 xk, .int .u64 xn, .int .i64 xd] 29)
  obtain ⟨k1, k2⟩ := blk2 w #[.int .i64 1, .int .i64 4, .int .i64 el, .slice va ps.length vc] #[.int .i64 xk, .int .u64 xn, .int .i64 xd] 68 29
  obtain ⟨w0, hw0⟩ : ∃ wx, wx = (w.alloc (.cells #[.int .i64 1, .int .i64 4, .int .i64 el, .slice va ps.length vc] 68)).alloc (.cells #[.int .i64 xk, .int .u64 xn, .int .i64 xd] 29) := ⟨_, rfl⟩
  rw [← hw0] at hB k1 k2
  have K1 := hide_ k1
  have K2 := hide_ k2
  have HB := hide_ hB
  have i0 := k1.cell 0; have i1 := k1.cell 1; have i2 := k1.cell 2; have i3 := k1.cell 3
  have j0 := k2.cell 0; have j1 := k2.cell 1; have j2 := k2.cell 2
  simp at i0 i1 i2 i3 j0 j1 j2
  clear hB k1 k2
  go_enter Tryd.func68, Tryd.ntmps68
  go_upto_region 1 with fail
  rw [← hw0]
  clear hw0
  by_cases hk : xk = 1
  · have hkb : (xk == 1) = true := by simp [hk]
    have hkn : (xk != 1) = false := by simp [hk]
    by_cases hc : 4294967296 ≤ xn
    · skip
      have HV : Hid (misP ⟨1, 4, el, ps⟩ ⟨xk, xn, xd⟩ = 111) := hide_ (by simp [misP, nkind, nkT, hk, gr]; omega)
      go_wp2_with fail
      go_quiet (fail)
      have HBq := hide_ (below_drewN HB.out nq)
      go_wp2
      go_ret
      exact ⟨by rw [HV.out]; rfl, HBq.out⟩
    · skip
      have HV : Hid (misP ⟨1, 4, el, ps⟩ ⟨xk, xn, xd⟩ = 0) := hide_ (by simp [misP, nkind, nkT, hk, gr]; omega)
      go_wp2_with fail
      go_quiet (fail)
      have HBq := hide_ (below_drewN HB.out nq)
      go_wp2
      go_ret
      exact ⟨by rw [HV.out]; rfl, HBq.out⟩
  · have hkn : (xk != 1) = true := by simpa using hk
    have HV : Hid (misP ⟨1, 4, el, ps⟩ ⟨xk, xn, xd⟩ = 110) := hide_ (by simp [misP, nkind, nkT, hk])
    go_wp2
    go_ret
    exact ⟨by rw [HV.out]; rfl, HB.out⟩
set_option maxRecDepth 100000 in
set_option maxHeartbeats 4000000 in
theorem fitsR1_8 (el : Int) (ps : List Pt) (va : Option Addr) (vc : Nat) (xk xn xd : Int) (w : World) (hx : xn < 18446744073709551616) : Calls Tryd.prog 68 #[.agg #[.int .i64 1, .int .i64 8, .int .i64 el, .slice va ps.length vc], .agg #[.int .i64 xk, .int .u64 xn, .int .i64 xd]] w fun e w' => e = .returned (.int .i64 (misP ⟨1, 8, el, ps⟩ ⟨xk, xn, xd⟩)) ∧ Below w.heap.size w w' := by
  have hB := below2 w (.cells #[.int .i64 1, .int .i64 8, .int .i64 el, .slice va ps.length vc] 68) (.cells #[.int .i64 xk, .int .u64 xn, .int .i64 xd] 29)
  obtain ⟨k1, k2⟩ := blk2 w #[.int .i64 1, .int .i64 8, .int .i64 el, .slice va ps.length vc] #[.int .i64 xk, .int .u64 xn, .int .i64 xd] 68 29
  obtain ⟨w0, hw0⟩ : ∃ wx, wx = (w.alloc (.cells #[.int .i64 1, .int .i64 8, .int .i64 el, .slice va ps.length vc] 68)).alloc (.cells #[.int .i64 xk, .int .u64 xn, .int .i64 xd] 29) := ⟨_, rfl⟩
  rw [← hw0] at hB k1 k2
  have K1 := hide_ k1
  have K2 := hide_ k2
  have HB := hide_ hB
  have i0 := k1.cell 0; have i1 := k1.cell 1; have i2 := k1.cell 2; have i3 := k1.cell 3
  have j0 := k2.cell 0; have j1 := k2.cell 1; have j2 := k2.cell 2
  simp at i0 i1 i2 i3 j0 j1 j2
  clear hB k1 k2
  go_enter Tryd.func68, Tryd.ntmps68
  go_upto_region 1 with fail
  rw [← hw0]
  clear hw0
  by_cases hk : xk = 1
  · have hkb : (xk == 1) = true := by simp [hk]
    have hkn : (xk != 1) = false := by simp [hk]
    have HV : Hid (misP ⟨1, 8, el, ps⟩ ⟨xk, xn, xd⟩ = 0) := hide_ (by simp [misP, nkind, nkT, hk, gr]; omega)
    go_wp2_with fail
    go_quiet (fail)
    have HBq := hide_ (below_drewN HB.out nq)
    go_wp2
    go_ret
    exact ⟨by rw [HV.out]; rfl, HBq.out⟩
  · have hkn : (xk != 1) = true := by simpa using hk
    have HV : Hid (misP ⟨1, 8, el, ps⟩ ⟨xk, xn, xd⟩ = 110) := hide_ (by simp [misP, nkind, nkT, hk])
    go_wp2
    go_ret
    exact ⟨by rw [HV.out]; rfl, HB.out⟩
end Go.Proofs.YtegejchamojfgaaDoor
