/- kept: a source and its copy, with the marks. -/
import Derived.Test.YtokepgimjdalaabUf
import Derived.Test.YtokepgimjdalaabUa
namespace Go.Proofs.Ytokepgimjdalaab
open Go.RowKit
set_option linter.unusedVariables false

theorem DRow.blk {w : World} {B : Nat} {vd : Value} {D : List Df} {vs : List Value} (h : Src w B vd D vs) (hm : MkN w D vs) (hd : MkD w vd D) :
    ∃ g cap, vd = .slice (some ⟨g, 0, none⟩) D.length cap ∧ D.length + 1 ≤ cap ∧ cap ≤ maxLen ∧ w.cell? ⟨g, D.length * 3 + 1, none⟩ = some (.int .i64 (-78)) ∧
      ∀ (i : Nat) (d : Df), D[i]? = some d → ∃ gn cn, w.cell? ⟨g, i * 3 + 2, none⟩ = some (.slice (some ⟨gn, 0, none⟩) d.ty.length cn) ∧ d.ty.length + 1 ≤ cn ∧ cn ≤ maxLen ∧ w.cell? ⟨gn, d.ty.length * 7, none⟩ = some (.int .i64 (-77)) := by
  obtain ⟨g, cap, ys, rfl, h2, h3, h4⟩ := hd
  have hcap : cap ≤ maxLen := by
    rcases h.2.1.2 with ⟨h0, _⟩ | ⟨g', cap', cur, hv, _, _, _, hcm, _⟩
    · cases h0
    · injection hv with _ _ e; subst e; exact hcm
  refine ⟨g, cap, rfl, h2, hcap, by rw [h3.cell]; exact h4, fun i d hd => ?_⟩
  have hi := (List.getElem?_eq_some_iff.1 hd).1
  have hv : vs[i]? = some (vs[i]'(by rw [h.1]; exact hi)) := List.getElem?_eq_getElem _
  obtain ⟨gn, cn, zs, e1, e2, e3, e4⟩ := hm i d _ hd hv
  have hcn : cn ≤ maxLen := by
    have ho := h.2.2.1 i d _ hd hv
    rw [e1] at ho
    rcases ho.2 with ⟨h0, _⟩ | ⟨g', cap', cur, hv', _, _, _, hcm, _⟩
    · cases h0
    · injection hv' with _ _ e; subst e; exact hcm
  refine ⟨gn, cn, ?_, e2, hcn, by rw [e3.cell]; exact e4⟩
  obtain ⟨g', cap', ys', hv', hb, hn, hmm, hl, ht, hK⟩ := ownS_blk h.2.1 (by omega)
  injection hv' with q1 q2 q3
  injection q1 with q1
  injection q1 with q1
  subst q1 q3
  rw [e1] at hv
  have := cellsD_at D vs i 2 d _ hd hv (by decide)
  rw [hK.cell, ← show (dfc d (.slice (some ⟨gn, 0, none⟩) d.ty.length cn))[2]? = some (.slice (some ⟨gn, 0, none⟩) d.ty.length cn) from rfl, ← this, ← ht, List.getElem?_take, if_pos (by omega)]
set_option maxRecDepth 100000 in
set_option maxHeartbeats 8000000 in
theorem kept_any (vd : Value) (vs : List Value) (B : Nat) (a : Option Addr) (c : Nat) (D : List Df) (w : World) (hL : Hid (Wt D)) (hc : D.length ≤ c) (hS : Hid (Src w B vd D vs)) (hM : Hid (MkN w D vs ∧ MkD w vd D)) (r : Hid (DRow w a D)) :
    Calls Try.prog 9 #[.agg #[vd], .agg #[.slice a D.length c]] w fun e w' => e = .returned (.bool true) ∧ Below w.heap.size w w' := by
  have hD : D.length ≤ 2932031007401 := hL.out.1
  obtain ⟨r1, kc1, hvd, hk1, hR1⟩ := hS.out.row
  obtain ⟨g, cap, hvd2, hcp, hcm, hmk, hall⟩ := DRow.blk hS.out hM.out.1 hM.out.2
  rw [hvd2] at hvd
  injection hvd with e1 e2 e3
  subst e1 e3
  subst hvd2
  have hg : g < w.heap.size := World.block_lt_of_cell? w _ hmk
  have hcm' : cap ≤ 9223372036854775807 := hcm
  have HLn : Hid (Lens D) := hide_ ⟨by omega, fun d hd => by have := hL.out.2 d hd; omega⟩
  obtain ⟨k1, k2⟩ := blk2 w #[.slice (some ⟨g, 0, none⟩) D.length cap] #[.slice a D.length c] 24
  have hB0 := below2 w (.cells #[.slice (some ⟨g, 0, none⟩) D.length cap] 24) (.cells #[.slice a D.length c] 24)
  obtain ⟨wa, hwa⟩ : ∃ wa, wa = (w.alloc (.cells #[.slice (some ⟨g, 0, none⟩) D.length cap] 24)).alloc (.cells #[.slice a D.length c] 24) := ⟨_, rfl⟩
  rw [← hwa] at k1 k2 hB0
  have HK1 := hide_ k1
  have HK2 := hide_ k2
  have HB0 := hide_ hB0
  have HR1 := hide_ (hR1.later hB0)
  have HR2 := hide_ (r.out.later hB0)
  have HMk : Hid (∀ w', Below w.heap.size w w' → w'.cell? ⟨g, D.length * 3 + 1, none⟩ = some (.int .i64 (-78))) := hide_ (fun w' hB => (hB.cell (p := ⟨g, D.length * 3 + 1, none⟩) hg).trans hmk)
  have HAll : Hid (∀ w', Below w.heap.size w w' → ∀ (i : Nat) (d : Df), D[i]? = some d → ∃ gn cn, w'.cell? ⟨g, i * 3 + 2, none⟩ = some (.slice (some ⟨gn, 0, none⟩) d.ty.length cn) ∧ d.ty.length + 1 ≤ cn ∧ cn ≤ maxLen ∧ w'.cell? ⟨gn, d.ty.length * 7, none⟩ = some (.int .i64 (-77))) := hide_ (fun w' hB i d hd => by
    obtain ⟨gn, cn, q1, q2, q3, q4⟩ := hall i d hd
    exact ⟨gn, cn, (hB.cell (p := ⟨g, i * 3 + 2, none⟩) hg).trans q1, q2, q3, (hB.cell (p := ⟨gn, d.ty.length * 7, none⟩) (World.block_lt_of_cell? w _ q4)).trans q4⟩)
  have x1 := k1.cell 0; have x2 := k2.cell 0
  simp at x1 x2
  clear k1 k2 hB0 hR1 hmk hall hS hM
  go_enter Try.func9, Try.ntmps9
  go_upto_region 1 with fail
  rw [← hwa]
  clear hwa
  go_wp2_with fail
  refine (same_any (some ⟨g, 0, none⟩) a cap c D wa HLn HR1 HR2).mono ?_; rintro e wb ⟨rfl, hBb⟩
  have HBb := hide_ (below_to HB0.out hBb)
  have HK1 := hide_ (HK1.out.later hBb)
  have HK2 := hide_ (HK2.out.later hBb)
  clear hBb x1 x2 HR1 HR2
  go_wp2_with fail
  go_loopw [5] (fun x5 wr => ∃ i : Nat, i ≤ D.length ∧ x5 = .int .i64 (i : Int) ∧ Hid (Below wb.heap.size wb wr)) (fun x5 _ => D.length - (intOf x5).toNat)
  case atStart => exact ⟨0, Nat.zero_le _, rfl, hide_ (Below.refl _ _)⟩
  case round =>
    obtain ⟨i, hi, rfl, HBr⟩ := hrel
    generalize wr = wq at *
    have HB := hide_ (below_to HBb.out HBr.out)
    have x1 := (HK1.out.later HBr.out).cell 0; have x2 := (HK2.out.later HBr.out).cell 0
    simp at x1 x2
    by_cases hlt : i < D.length
    · have hlt' : (i : Int) < D.length := by omega
      obtain ⟨b, o, hae, hb, hcs⟩ := (r.out.later HB.out).open (by omega)
      subst hae
      have hx : D[i]? = some (D[i]'hlt) := List.getElem?_eq_getElem hlt
      obtain ⟨va, vc, hcx, hvc, -, -⟩ := hcs i _ hx
      obtain ⟨gn, cn, q1, q2, q3, q4⟩ := HAll.out wq HB.out i _ hx
      have hty : (D[i]'hlt).ty.length ≤ 1954687338267 := hL.out.2 _ (List.getElem_mem hlt)
      generalize D[i]'hlt = d at *
      have i2 := hcx 2 (by decide)
      simp [dfc] at i2
      have hn1 : IntKind.i64.wrap ((d.ty.length : Int) + 1) = ((d.ty.length + 1 : Nat) : Int) := by rw [IntKind.wrap_i64]; omega
      have hn2 : ((d.ty.length + 1 : Nat) : Int) ≤ cn := by omega
      have hn3 : (d.ty.length : Int) < ((d.ty.length + 1 : Nat) : Int) := by omega
      have q3' : cn ≤ 9223372036854775807 := q3
      have HMs : Hid (i + 1 ≤ D.length) := hide_ hlt
      clear hcx hcs hx q3 hvc
      go_wp2_with fail
      go_quiet (fail)
      go_wp2
      go_roundw
      case rel => exact ⟨i + 1, HMs.out, by go_num, hide_ (below_drewN HBr.out _)⟩
      case measure => simp [intOf]; omega
    · obtain rfl : i = D.length := by omega
      have y1 := HMk.out wq HB.out
      have hn1 : IntKind.i64.wrap ((D.length : Int) + 1) = ((D.length + 1 : Nat) : Int) := by rw [IntKind.wrap_i64]; omega
      have hn2 : ((D.length + 1 : Nat) : Int) ≤ cap := by omega
      have hn3 : (D.length : Int) < ((D.length + 1 : Nat) : Int) := by omega
      clear HAll HMk
      go_wp2
      go_ret
      exact ⟨by simp, HB.out⟩
end Go.Proofs.Ytokepgimjdalaab
