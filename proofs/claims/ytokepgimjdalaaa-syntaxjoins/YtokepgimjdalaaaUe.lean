/- bare. -/
import Derived.Test.YtokepgimjdalaaaUd
import Derived.Test.YtokepgimjdalaaaUc
namespace Go.Proofs.Ytokepgimjdalaaa
open Go.RowKit
set_option linter.unusedVariables false

theorem Src.cells {w : World} {B g cap : Nat} {D : List Df} {vs : List Value} (h : Src w B (.slice (some ⟨g, 0, none⟩) D.length cap) D vs) {i : Nat} {d : Df} {v : Value} (hd : D[i]? = some d) (hv : vs[i]? = some v) (j : Nat) (hj : j < 3) : w.cell? ⟨g, i * 3 + j, none⟩ = (dfc d v)[j]? := by
  have hi := (List.getElem?_eq_some_iff.1 hd).1
  obtain ⟨g', cap', ys, hvd, hb, hc, hm, hl, ht, hK⟩ := ownS_blk h.2.1 (by omega)
  injection hvd with h1 h2 h3
  injection h1 with h1
  injection h1 with h1
  subst h1
  rw [hK.cell, ← cellsD_at D vs i j d v hd hv hj, ← ht, List.getElem?_take, if_pos (by omega)]
/-- The first k of them are without places. -/
def upK (D : List Df) (k : Nat) : List Df := (D.map zDf).take k ++ D.drop k
def upM (N : List Nd) (m : Nat) : List Nd := (N.map zNd).take m ++ N.drop m
theorem upK_len (D : List Df) (k : Nat) (hk : k ≤ D.length) : (upK D k).length = D.length := by simp [upK]; omega
theorem upM_len (N : List Nd) (m : Nat) (hm : m ≤ N.length) : (upM N m).length = N.length := by simp [upM]; omega
theorem upK_at (D : List Df) (k : Nat) (h : k < D.length) : (upK D k)[k]? = some (D[k]'h) := by
  unfold upK
  rw [List.getElem?_append_right (by simp; omega)]
  simp
  rw [show k - min k D.length = 0 by omega]
  simp [h]
theorem upM_at (N : List Nd) (k : Nat) (h : k < N.length) : (upM N k)[k]? = some (N[k]'h) := by
  unfold upM
  rw [List.getElem?_append_right (by simp; omega)]
  simp
  rw [show k - min k N.length = 0 by omega]
  simp [h]
theorem upK_next (D : List Df) (k : Nat) (h : k < D.length) : (upK D k).set k (zDf (D[k]'h)) = upK D (k + 1) := by
  unfold upK
  rw [List.set_append_right _ _ (by simp; omega)]
  simp only [List.length_take, List.length_map]
  rw [show k - min k D.length = 0 by omega, List.drop_eq_getElem_cons h, List.set_cons_zero, List.take_add_one]
  simp [h]
theorem upM_next (N : List Nd) (k : Nat) (h : k < N.length) : (upM N k).set k (zNd (N[k]'h)) = upM N (k + 1) := by
  unfold upM
  rw [List.set_append_right _ _ (by simp; omega)]
  simp only [List.length_take, List.length_map]
  rw [show k - min k N.length = 0 by omega, List.drop_eq_getElem_cons h, List.set_cons_zero, List.take_add_one]
  simp [h]
theorem upM_zero (N : List Nd) : upM N 0 = N := by simp [upM]
theorem upK_zero (D : List Df) : upK D 0 = D := by simp [upK]
theorem upM_all (N : List Nd) : upM N N.length = N.map zNd := by simp [upM]; exact List.take_of_length_le (by simp)
theorem upK_all (D : List Df) : upK D D.length = D.map zDf := by simp [upK]; exact List.take_of_length_le (by simp)
set_option maxRecDepth 100000 in
set_option maxHeartbeats 8000000 in
theorem bare_any (a : Option Addr) (c : Nat) (D : List Df) (w : World) (hS : Hid (Small D)) (hc : D.length ≤ c) (hR : Hid (DRow w a D)) :
    Calls Try.prog 15 #[.agg #[.slice a D.length c]] w fun e w' => ∃ vd vs, e = .returned (.agg #[vd]) ∧ Hid (Src w' w.heap.size vd (D.map zDf) vs) ∧ Hid (Below w.heap.size w w') := by
  have hD := hS.out.1
  obtain ⟨wa, hwa⟩ : ∃ wa, wa = (w.alloc (.cells #[.slice a D.length c] 25)).alloc (.cells #[.slice none 0 0] 25) := ⟨_, rfl⟩
  obtain ⟨k1, k2⟩ := blk2 w #[.slice a D.length c] #[.slice none 0 0] 25
  have HBa := hide_ (below2 w (.cells #[.slice a D.length c] 25) (.cells #[.slice none 0 0] 25))
  have hsa : wa.heap.size = w.heap.size + 2 := by rw [hwa]; simp
  rw [← hwa] at k1 k2 HBa
  have HK2 := hide_ k2
  have HSa := hide_ hsa
  have x0 := k1.cell 0
  simp at x0
  have HL := hide_ (lent_any a c D wa hS hc (hide_ (hR.out.later HBa.out)))
  clear k1 k2 hsa
  go_enter Try.func15, Try.ntmps15
  go_upto_region 1 with fail
  rw [← hwa]
  clear hwa
  go_wp2_with fail
  refine HL.out.mono ?_; rintro e w2 ⟨vd, vs, rfl, HS2, HB2⟩
  clear HL x0
  obtain ⟨da, dc, hdv⟩ := HS2.out.none0
  subst hdv
  have K2 := hide_ ((HK2.out.later HB2.out).alloc (.cells #[.slice da D.length dc] 25))
  have K3 := hide_ (Blk.newA w2 #[.slice da D.length dc] 25)
  have hB3 := (Below.refl w2.heap.size w2).alloc (Nat.le_refl _) (.cells #[.slice da D.length dc] 25)
  have HS3 := hide_ (HS2.out.later hB3)
  have HB3 := hide_ ((HBa.out.trans (HB2.out.mono HBa.out.size)).trans (hB3.mono (HBa.out.trans (HB2.out.mono HBa.out.size)).size))
  have hs2 : w.heap.size + 2 ≤ w2.heap.size := by have := HB2.out.size; rw [HSa.out] at this; exact this
  obtain ⟨w3, hw3⟩ : ∃ w3, w3 = w2.alloc (.cells #[.slice da D.length dc] 25) := ⟨_, rfl⟩
  rw [← hw3] at K2 K3 HS3 HB3
  clear hB3 HS2 HB2 HK2 HBa
  go_upto_region 2 with fail
  rw [← hw3]
  clear hw3
  go_wp2_with fail
  go_loopw [4] (fun i wr => ∃ (k : Nat), k ≤ D.length ∧ i = .int .i64 (k : Int) ∧ Hid (Src wr wa.heap.size (.slice da D.length dc) (upK D k) vs) ∧ Hid (Blk wr (w.heap.size + 1) 25 [.slice none 0 0]) ∧ Hid (Blk wr w2.heap.size 25 [.slice da D.length dc]) ∧ Hid (Below w.heap.size w wr)) (fun i _ => D.length - (intOf i).toNat)
  case atStart => exact ⟨0, Nat.zero_le _, rfl, by rw [upK_zero]; exact HS3, K2, K3, HB3⟩
  case round =>
    clear HS3 K2 K3 HB3
    obtain ⟨k, hk, rfl, HS, K2, K3, HB⟩ := hrel
    generalize wr = wq at *
    have x3 := K3.out.cell 0
    simp at x3
    by_cases hlt : k < D.length
    · have hlt' : (k : Int) < D.length := by omega
      have hat := upK_at D k hlt
      have hty : (D[k]'hlt).ty.length ≤ 1000000 := hS.out.2 _ (List.getElem_mem hlt)
      have HNx := hide_ (upK_next D k hlt)
      generalize D[k]'hlt = d at *
      have hvl : k < vs.length := by rw [HS.out.1, upK_len D k hk]; exact hlt
      have hv : vs[k]? = some (vs[k]'hvl) := List.getElem?_eq_getElem hvl
      generalize vs[k]'hvl = v at *
      obtain ⟨g, cap, hvd, hcap, hbg, cA, fA, SA⟩ := HS.out.setA hat 0
      rw [upK_len D k hk] at hvd
      injection hvd with e1 e2 e3
      subst e1 e3
      have HSA := hide_ SA
      have hU1 : Upd (fun j => j = g) wq (wq.setCell ⟨g, k * 3 + 1, none⟩ (.int .i64 0)) := (Upd.refl _ wq).set _ _ (.inl rfl)
      have hne3 : w2.heap.size ≠ g := fun e => by
        obtain ⟨ys, hy⟩ := ownS_type HS.out.2.1 (k := g) rfl
        subst e
        exact absurd (blk_type K3.out hy) (by decide)
      have hne2 : w.heap.size + 1 ≠ g := fun e => by
        obtain ⟨ys, hy⟩ := ownS_type HS.out.2.1 (k := g) rfl
        subst e
        exact absurd (blk_type K2.out hy) (by decide)
      have K2a := hide_ (K2.out.upd hU1 hne2)
      have K3a := hide_ (K3.out.upd hU1 hne3)
      have HBa := hide_ (below_set HB.out g (k * 3 + 1) (.int .i64 0) (by rw [HSa.out] at hbg; omega))
      have HV := hide_ hv
      have hD0 : (upK D k).length = D.length := upK_len D k hk
      obtain ⟨w5, hw5⟩ : ∃ w5, w5 = wq.setCell ⟨g, k * 3 + 1, none⟩ (.int .i64 0) := ⟨_, rfl⟩
      rw [← hw5] at HSA K2a K3a HBa
      clear SA hU1 hv hat HS K2 K3 HB
      have h0 : 0 + k * 3 + 1 = k * 3 + 1 := by omega
      go_upto_region 6 with fail
      rw [← hw5]
      clear hw5 cA fA x3
      go_wp2_with fail
      go_loopw [5] (fun i wr => ∃ (m : Nat), m ≤ d.ty.length ∧ i = .int .i64 (m : Int) ∧ Hid (Src wr wa.heap.size (.slice (some ⟨g, 0, none⟩) D.length dc) ((upK D k).set k ⟨d.name, 0, upM d.ty m⟩) vs) ∧ Hid (Blk wr (w.heap.size + 1) 25 [.slice none 0 0]) ∧ Hid (Blk wr w2.heap.size 25 [.slice (some ⟨g, 0, none⟩) D.length dc]) ∧ Hid (Below w.heap.size w wr)) (fun i _ => d.ty.length - (intOf i).toNat)
      case atStart => exact ⟨0, Nat.zero_le _, rfl, by rw [upM_zero]; exact HSA, K2a, K3a, HBa⟩
      case round =>
        clear HSA K2a K3a HBa
        obtain ⟨m, hm, rfl, HS, K2, K3, HB⟩ := hrel
        generalize wr = wz at *
        have x3 := K3.out.cell 0
        simp at x3
        have hlen : ((upK D k).set k ⟨d.name, 0, upM d.ty m⟩).length = D.length := by rw [List.length_set, hD0]
        have hat : ((upK D k).set k ⟨d.name, 0, upM d.ty m⟩)[k]? = some ⟨d.name, 0, upM d.ty m⟩ := List.getElem?_set_self (by rw [hD0]; exact hlt)
        have hc2 := Src.cells (by rw [hlen]; exact HS.out) hat HV.out 2 (by decide)
        simp [dfc] at hc2
        by_cases hlm : m < d.ty.length
        · have hlm' : (m : Int) < d.ty.length := by omega
          have hy := upM_at d.ty m hlm
          obtain ⟨gn, cn, hvv, hcn, hbn, cN, fN, SN⟩ := HS.out.setN hat HV.out (m := m) (by exact hy) 0
          have hml := upM_len d.ty m hm
          simp only at hvv hcn SN
          rw [hml] at hvv hcn
          rw [hvv] at hc2
          have hne3 : w2.heap.size ≠ gn := fun e => by
            obtain ⟨ys, hz⟩ := ownS_type (HS.out.2.2.1 k _ v hat HV.out) (k := gn) (by rw [hvv]; rfl)
            subst e
            exact absurd (blk_type K3.out hz) (by decide)
          have hne2 : w.heap.size + 1 ≠ gn := fun e => by
            obtain ⟨ys, hz⟩ := ownS_type (HS.out.2.2.1 k _ v hat HV.out) (k := gn) (by rw [hvv]; rfl)
            subst e
            exact absurd (blk_type K2.out hz) (by decide)
          have hU1 : Upd (fun j => j = gn) wz (wz.setCell ⟨gn, m * 7 + 6, none⟩ (.int .i64 0)) := (Upd.refl _ wz).set _ _ (.inl rfl)
          have K2b := hide_ (K2.out.upd hU1 hne2)
          have K3b := hide_ (K3.out.upd hU1 hne3)
          have HBb := hide_ (below_set HB.out gn (m * 7 + 6) (.int .i64 0) (by rw [HSa.out] at hbn; omega))
          have hnx := upM_next d.ty m hlm
          unfold zNd at hnx
          rw [List.set_set, hnx] at SN
          have HSN := hide_ SN
          clear SN hU1 hy hat HS K2 K3 HB hnx
          go_wp2
          go_roundw
          case rel => exact ⟨m + 1, by omega, by go_num, HSN, K2b, K3b, HBb⟩
          case measure => simp [intOf]; omega
        · obtain rfl : m = d.ty.length := by omega
          obtain ⟨va, vc, hva⟩ := own_slice (HS.out.2.2.1 k _ v hat HV.out)
          have hml := upM_len d.ty d.ty.length (Nat.le_refl _)
          simp only at hva
          rw [hml] at hva
          rw [hva] at hc2
          have HSN : Hid (Src wz wa.heap.size (.slice (some ⟨g, 0, none⟩) D.length dc) (upK D (k + 1)) vs) := by
            have h := HS.out
            rw [upM_all] at h
            rw [← HNx.out]
            exact hide_ h
          clear hat HS
          go_wp2
          go_roundw
          case rel => exact ⟨k + 1, by omega, by go_num, HSN, K2, K3, HB⟩
          case measure => simp [intOf]; omega
    · obtain rfl : k = D.length := by omega
      have hS9 := HS.out
      rw [upK_all] at hS9
      have HS9 := hide_ hS9
      clear hS9 HS
      have y2 := K2.out.cell 0
      have z2 := K2.out.frozen 0
      simp at y2
      go_wp2
      have hU : Upd (fun j => j = w.heap.size + 1) wq (wq.setCell ⟨w.heap.size + 1, 0, none⟩ (.slice da D.length dc)) := (Upd.refl _ wq).set _ _ (.inl rfl)
      have s2 := HS9.out.other hU K2.out (by decide) (by decide)
      have s3 : Src (wq.setCell ⟨w.heap.size + 1, 0, none⟩ (.slice da D.length dc)) w.heap.size (.slice da D.length dc) (D.map zDf) vs := ⟨s2.1, own_base s2.2.1 (by rw [HSa.out]; omega), fun i d v hd hv => own_base (s2.2.2.1 i d v hd hv) (by rw [HSa.out]; omega), s2.2.2.2⟩
      exact retS rfl rfl (by have h := K2.out.set 0 (.slice da D.length dc); simpa using h) ⟨_, vs, rfl, s3, below_set HB.out (w.heap.size + 1) 0 _ (by omega)⟩
end Go.Proofs.Ytokepgimjdalaaa
