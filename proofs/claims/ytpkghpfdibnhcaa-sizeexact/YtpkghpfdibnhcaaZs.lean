/- size.Length: fits, kidType, offsetOf, ownBytes. -/
import Derived.Test.YtpkghpfdibnhcaaZr
namespace Go.Proofs.Ytpkghpfdibnhcaa
open Go.RowKit
set_option linter.unusedVariables false

theorem fits_any (x : Nv) (k n el : Int) (ps : List Pt) (va : Option Addr) (vc : Nat) (i : Int) (w : World) (hok : Hid (tyOk ⟨k, n, el, ps⟩ i = true)) (hr : Hid (PRow w va ps)) :
    Calls Try.prog 60 #[.agg #[.int .i64 x.k, .int .u64 x.n, .int .i64 x.kids], .agg #[.int .i64 k, .int .i64 n, .int .i64 el, .slice va ps.length vc]] w fun e w' => e = .returned (.bool (fitsP x ⟨k, n, el, ps⟩)) ∧ Below w.heap.size w w' := by
  have hk := tyOk_kind hok.out
  have hps := tyOk_len hok.out
  simp only at hk hps
  rcases hk with rfl | rfl | rfl | rfl | rfl | rfl | rfl | rfl
  · have h1 := (tyOk_parts hok.out).1
    simp only [nOk] at h1
    have h2 := of_decide_eq_true h1
    exact fits1_any x n el ps va vc w (by omega) (by omega)
  · exact fits2_any x n el ps va vc w
  · exact fits3_any x n el ps va vc w
  · exact fits4_any x n el ps va vc w
  · exact fits5_any x n el ps va vc w
  · exact fits6_any x n el ps va vc w
  · exact fits7_any x n el ps va vc w (by omega) (hide_ (tyOk_tags hok.out)) hr
  · exact fits8_any x n el ps va vc w
/-- The type of a node's kid. -/
def kidTy (x : Nv) (t : Ty) (j : Nat) : Int := if t.k = 7 then (t.ps.getD ((armI t.ps x.n).getD 0) pt0).ty else if t.k = 8 then (t.ps.getD j pt0).ty else t.e
def ownP (x : Nv) (t : Ty) : Int := if t.k = 1 then t.n else if t.k = 2 then 1 else if t.k = 3 then (max 1 ((Lib.bitLen x.n.toNat + 6) / 7) : Nat) else if t.k = 6 ∨ t.k = 7 then 1 else 0
def offP (X : List Ex) (t : Ty) (kid : Int) : Int := if t.k = 6 ∨ t.k = 7 ∨ (exAt X kid).f = true then 0 else 4
set_option maxRecDepth 100000 in
set_option maxHeartbeats 4000000 in
theorem ownBytes_any (x : Nv) (k n el : Int) (v : Value) (ps : List Pt) (w : World) (hx : NvOk x) :
    Calls Try.prog 61 #[.agg #[.int .i64 x.k, .int .u64 x.n, .int .i64 x.kids], .agg #[.int .i64 k, .int .i64 n, .int .i64 el, v]] w fun e w' => e = .returned (.int .i64 (ownP x ⟨k, n, el, ps⟩)) ∧ Below w.heap.size w w' := by
  obtain ⟨xk, xn, xd⟩ := x
  simp only
  have hx1 := hx.1
  have hx2 := hx.2
  simp only at hx1 hx2
  clear hx
  have hB := below2 w (.cells #[.int .i64 xk, .int .u64 xn, .int .i64 xd] 66) (.cells #[.int .i64 k, .int .i64 n, .int .i64 el, v] 43)
  obtain ⟨k1, k2⟩ := blk2 w #[.int .i64 xk, .int .u64 xn, .int .i64 xd] #[.int .i64 k, .int .i64 n, .int .i64 el, v] 66 43
  obtain ⟨w0, hw0⟩ : ∃ wx, wx = (w.alloc (.cells #[.int .i64 xk, .int .u64 xn, .int .i64 xd] 66)).alloc (.cells #[.int .i64 k, .int .i64 n, .int .i64 el, v] 43) := ⟨_, rfl⟩
  rw [← hw0] at hB k1 k2
  have HB := hide_ hB
  have i0 := k1.cell 0; have i1 := k1.cell 1; have i2 := k1.cell 2
  have j0 := k2.cell 0; have j1 := k2.cell 1
  simp at i0 i1 i2 j0 j1
  clear hB k1 k2
  go_enter Try.func61, Try.ntmps61
  go_upto_region 1 with fail
  rw [← hw0]
  clear hw0
  by_cases h1 : k = 1
  · subst h1
    have HV : Hid (ownP ⟨xk, xn, xd⟩ ⟨1, n, el, ps⟩ = n) := hide_ (by simp [ownP])
    go_wp2; go_ret; exact ⟨by rw [HV.out]; rfl, HB.out⟩
  have c1 : (k == 1) = false := by simpa using h1
  by_cases h2 : k = 2
  · subst h2
    have HV : Hid (ownP ⟨xk, xn, xd⟩ ⟨2, n, el, ps⟩ = 1) := hide_ (by simp [ownP])
    go_wp2; go_ret; exact ⟨by rw [HV.out]; rfl, HB.out⟩
  have c2 : (k == 2) = false := by simpa using h2
  by_cases h3 : k = 3
  · subst h3
    obtain ⟨m, rfl⟩ := Int.eq_ofNat_of_zero_le hx1
    have hm : m < 18446744073709551616 := by omega
    have hl := bitLen_64 m hm
    have HV : Hid (ownP ⟨xk, (m : Int), xd⟩ ⟨3, n, el, ps⟩ = ((max 1 ((Lib.bitLen m + 6) / 7) : Nat) : Int)) := hide_ (by simp [ownP])
    have HCon : Hid (∀ w, Calls Try.prog 84 #[.int .u64 (m : Int)] w fun e w' => e = .returned (.int .i64 (Lib.bitLen m)) ∧ w = w') := hide_ (fun w => by have h := len64_any (m : Int) w hx1 hx2; rwa [Int.toNat_natCast] at h)
    obtain ⟨q, hq⟩ : ∃ q, Lib.bitLen m = q := ⟨_, rfl⟩
    rw [hq] at HV HCon hl
    clear hq hx1 hx2 hm
    obtain ⟨W, hW⟩ : ∃ W, ownP ⟨xk, (m : Int), xd⟩ ⟨3, n, el, ps⟩ = W := ⟨_, rfl⟩
    have HW : Hid (W = ((max 1 ((q + 6) / 7) : Nat) : Int)) := hide_ (by rw [← hW]; exact HV.out)
    clear HV
    go_wp2_with (go_at_call 84; refine (HCon.out _).mono ?_; rintro e w' ⟨rfl, rfl⟩)
    all_goals
      go_ret
      refine ⟨?_, HB.out⟩
      rw [HW.out]
      refine ret_int ?_
      omega
  have c3 : (k == 3) = false := by simpa using h3
  by_cases h6 : k = 6
  · subst h6
    have HV : Hid (ownP ⟨xk, xn, xd⟩ ⟨6, n, el, ps⟩ = 1) := hide_ (by simp [ownP])
    go_wp2; go_ret; exact ⟨by rw [HV.out]; rfl, HB.out⟩
  have c6 : (k == 6) = false := by simpa using h6
  by_cases h7 : k = 7
  · subst h7
    have HV : Hid (ownP ⟨xk, xn, xd⟩ ⟨7, n, el, ps⟩ = 1) := hide_ (by simp [ownP])
    go_wp2; go_ret; exact ⟨by rw [HV.out]; rfl, HB.out⟩
  have c7 : (k == 7) = false := by simpa using h7
  have HV : Hid (ownP ⟨xk, xn, xd⟩ ⟨k, n, el, ps⟩ = 0) := hide_ (by simp [ownP, h1, h2, h3, h6, h7])
  go_wp2; go_ret; exact ⟨by rw [HV.out]; rfl, HB.out⟩
set_option maxRecDepth 100000 in
set_option maxHeartbeats 4000000 in
theorem kidType_any (x : Nv) (k n el : Int) (ps : List Pt) (va : Option Addr) (vc : Nat) (j : Nat) (i : Int) (w : World) (hok : Hid (tyOk ⟨k, n, el, ps⟩ i = true)) (hft : Hid (fitsP x ⟨k, n, el, ps⟩ = true)) (hj : (j : Int) < x.kids) (hr : Hid (PRow w va ps)) :
    Calls Try.prog 62 #[.agg #[.int .i64 x.k, .int .u64 x.n, .int .i64 x.kids], .agg #[.int .i64 k, .int .i64 n, .int .i64 el, .slice va ps.length vc], .int .i64 (j : Int)] w fun e w' => e = .returned (.int .i64 (kidTy x ⟨k, n, el, ps⟩ j)) ∧ Below w.heap.size w w' := by
  obtain ⟨xk, xn, xd⟩ := x
  have hps := tyOk_len hok.out
  simp only at hj hps ⊢
  have hB := below2 w (.cells #[.int .i64 xk, .int .u64 xn, .int .i64 xd] 66) (.cells #[.int .i64 k, .int .i64 n, .int .i64 el, .slice va ps.length vc] 43)
  obtain ⟨k1, k2⟩ := blk2 w #[.int .i64 xk, .int .u64 xn, .int .i64 xd] #[.int .i64 k, .int .i64 n, .int .i64 el, .slice va ps.length vc] 66 43
  obtain ⟨w0, hw0⟩ : ∃ wx, wx = (w.alloc (.cells #[.int .i64 xk, .int .u64 xn, .int .i64 xd] 66)).alloc (.cells #[.int .i64 k, .int .i64 n, .int .i64 el, .slice va ps.length vc] 43) := ⟨_, rfl⟩
  rw [← hw0] at hB k1 k2
  have HB := hide_ hB
  have HK1 := hide_ k1
  have HK2 := hide_ k2
  have HR0 := hide_ (hr.out.later hB)
  have j0 := k2.cell 0; have j1 := k2.cell 1; have j2 := k2.cell 2; have j3 := k2.cell 3
  simp at j0 j1 j2 j3
  clear hB k1 k2
  go_enter Try.func62, Try.ntmps62
  go_upto_region 1 with fail
  rw [← hw0]
  clear hw0
  by_cases h7 : k = 7
  · subst h7
    have hsome : ∃ m, armI ps xn = some m := by
      have h := hft.out
      simp [fitsP] at h
      exact Option.isSome_iff_exists.1 h.2
    obtain ⟨m, hm⟩ := hsome
    obtain ⟨p, hp, -⟩ := armI_some hm
    have hml := (List.getElem?_eq_some_iff.1 hp).1
    have hml' : (m : Int) < ps.length := by omega
    have HV : Hid (kidTy ⟨xk, xn, xd⟩ ⟨7, n, el, ps⟩ j = p.ty) := hide_ (by simp [kidTy, hm, List.getD, hp])
    obtain ⟨b, off, rfl, hb, hc⟩ := HR0.out.open (by omega)
    have HCon : Hid (∀ w', Below w0.heap.size w0 w' → Calls Try.prog 83 #[.agg #[.int .i64 7, .int .i64 n, .int .i64 el, .slice (some ⟨b, off, none⟩) ps.length vc], .int .u64 xn] w' fun e w'' => e = .returned (.int .i64 (m : Int)) ∧ Below w'.heap.size w' w'') := hide_ (fun w' hB => by
      have h := armOf_any 7 n el ps (some ⟨b, off, none⟩) vc xn w' (by omega) (hide_ (tyOk_tags hok.out)) (hide_ (HR0.out.later hB))
      rw [show armZ ps xn = (m : Int) by unfold armZ; rw [hm]] at h
      exact h)
    have HSS : Hid (∀ w', Below w0.heap.size w0 w' → Below w0.heap.size w0 w' ∧ w'.cell? ⟨w.heap.size, 1, none⟩ = some (.int .u64 xn) ∧ w'.cell? ⟨w.heap.size + 1, 0, none⟩ = some (.int .i64 7) ∧ w'.cell? ⟨w.heap.size + 1, 1, none⟩ = some (.int .i64 n) ∧ w'.cell? ⟨w.heap.size + 1, 2, none⟩ = some (.int .i64 el) ∧ w'.cell? ⟨w.heap.size + 1, 3, none⟩ = some (.slice (some ⟨b, off, none⟩) ps.length vc) ∧ w'.cell? ⟨b, off + m * 3 + 2, none⟩ = some (.int .i64 p.ty)) := hide_ (fun w' hB => by
      refine ⟨hB, (HK1.out.later hB).cell 1, (HK2.out.later hB).cell 0, (HK2.out.later hB).cell 1, (HK2.out.later hB).cell 2, (HK2.out.later hB).cell 3, ?_⟩
      exact (hB.cell (p := ⟨b, off + m * 3 + 2, none⟩) hb).trans (hc m p hp 2 (by decide)))
    clear hm hp hc
    go_wp2_with fail
    go_region_held_law (fun w' => Below w0.heap.size w0 w' ∧ w'.cell? ⟨w.heap.size, 1, none⟩ = some (.int .u64 xn) ∧ w'.cell? ⟨w.heap.size + 1, 0, none⟩ = some (.int .i64 7) ∧ w'.cell? ⟨w.heap.size + 1, 1, none⟩ = some (.int .i64 n) ∧ w'.cell? ⟨w.heap.size + 1, 2, none⟩ = some (.int .i64 el) ∧ w'.cell? ⟨w.heap.size + 1, 3, none⟩ = some (.slice (some ⟨b, off, none⟩) ps.length vc) ∧ w'.cell? ⟨b, off + m * 3 + 2, none⟩ = some (.int .i64 p.ty)) (first | assumption | exact HSS.out _ ((Below.refl _ _).drew) | exact HSS.out _ (Below.refl _ _))
      ((go_at_call 83; refine (HCon.out _ (by first | assumption | exact And.left (by assumption))).mono ?_; rintro e w2 ⟨rfl, hB2⟩; (have G2 := HSS.out w2 (below_to (by first | assumption | exact And.left (by assumption)) hB2)); (clear hB2)))
    have HBf := hide_ (below_to HB.out G2.1)
    clear G2 HSS HCon
    go_wp2
    go_ret
    exact ⟨by rw [HV.out]; rfl, HBf.out⟩
  have c7 : (k == 7) = false := by simpa using h7
  by_cases h8 : k = 8
  · subst h8
    have hxd : xd = (ps.length : Int) := by
      have h := hft.out
      simp [fitsP] at h
      exact h.2
    have hjl : j < ps.length := by omega
    have hjl' : (j : Int) < ps.length := by omega
    obtain ⟨b, off, rfl, hb, hc⟩ := HR0.out.open (by omega)
    have hp : ps[j]? = some (ps[j]'hjl) := List.getElem?_eq_getElem hjl
    have HV : Hid (kidTy ⟨xk, xn, xd⟩ ⟨8, n, el, ps⟩ j = (ps[j]'hjl).ty) := hide_ (by simp [kidTy, List.getD, hjl])
    have y2 := hc j _ hp 2 (by decide)
    simp [ptc] at y2
    clear hc hp hxd
    generalize (ps[j]'hjl).ty = q at *
    go_wp2
    go_ret
    exact ⟨by rw [HV.out]; rfl, HB.out⟩
  have c8 : (k == 8) = false := by simpa using h8
  have HV : Hid (kidTy ⟨xk, xn, xd⟩ ⟨k, n, el, ps⟩ j = el) := hide_ (by simp [kidTy, h7, h8])
  go_wp2
  go_ret
  exact ⟨by rw [HV.out]; rfl, HB.out⟩
set_option maxRecDepth 100000 in
set_option maxHeartbeats 4000000 in
theorem offsetOf_any (bw : Nat) (vt vn vl : Value) (ax : Option Addr) (cx : Nat) (X : List Ex) (k n el : Int) (v : Value) (ps : List Pt) (kid : Nat) (w : World) (hk : kid < X.length) (hw : Hid (Blk w bw 80 [vt, .slice ax X.length cx, vn, vl])) (hX : Hid (XRow w ax X)) :
    Calls Try.prog 63 #[.pointer (some ⟨bw, 0, none⟩), .int .i64 (kid : Int), .agg #[.int .i64 k, .int .i64 n, .int .i64 el, v]] w fun e w' => e = .returned (.int .i64 (offP X ⟨k, n, el, ps⟩ (kid : Int))) ∧ Below w.heap.size w w' := by
  have hk' : (kid : Int) < X.length := by omega
  have hB := below1 w (.cells #[.int .i64 k, .int .i64 n, .int .i64 el, v] 43)
  have kt := Blk.newA w #[.int .i64 k, .int .i64 n, .int .i64 el, v] 43
  obtain ⟨w0, hw0⟩ : ∃ wx, wx = w.alloc (.cells #[.int .i64 k, .int .i64 n, .int .i64 el, v] 43) := ⟨_, rfl⟩
  rw [← hw0] at hB kt
  have HB := hide_ hB
  obtain ⟨b, off, rfl, hb, hc⟩ := (hX.out.later hB).open (by omega)
  have y0 := hc kid _ (exAt_at hk) 0 (by decide)
  have i0 := kt.cell 0
  have j1 := (hw.out.later hB).cell 1
  simp [exc] at y0 i0 j1
  clear hB kt hc
  obtain ⟨fx, hfx⟩ : ∃ fx, (exAt X (kid : Int)).f = fx := ⟨_, rfl⟩
  rw [hfx] at y0
  have HV : Hid (offP X ⟨k, n, el, ps⟩ (kid : Int) = if k = 6 ∨ k = 7 ∨ fx = true then 0 else 4) := hide_ (by unfold offP; rw [hfx])
  clear hfx
  go_enter Try.func63, Try.ntmps63
  go_upto_region 1 with fail
  rw [← hw0]
  clear hw0
  by_cases h6 : k = 6
  · subst h6
    go_wp2; go_ret; exact ⟨by rw [HV.out]; simp, HB.out⟩
  have c6 : (k == 6) = false := by simpa using h6
  by_cases h7 : k = 7
  · subst h7
    go_wp2; go_ret; exact ⟨by rw [HV.out]; simp, HB.out⟩
  have c7 : (k == 7) = false := by simpa using h7
  cases fx with
  | true => go_wp2; go_ret; exact ⟨by rw [HV.out]; simp, HB.out⟩
  | false => go_wp2; go_ret; exact ⟨by rw [HV.out]; simp [h6, h7], HB.out⟩
end Go.Proofs.Ytpkghpfdibnhcaa
