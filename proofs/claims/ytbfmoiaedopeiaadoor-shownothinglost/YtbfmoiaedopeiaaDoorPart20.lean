import Derived.Test.YtbfmoiaedopeiaaDoorPart18
import Derived.Test.YtbfmoiaedopeiaaDoorPart16
import Derived.Test.YtbfmoiaedopeiaaDoorPart17

/- ShowNothingLost. -/
namespace Go.Proofs.YtbfmoiaedopeiaaDoor
open Go.RowKit
set_option linter.unusedVariables false

theorem idx_ok (v : Int) (n : Nat) (hv : -9223372036854775808 ≤ v ∧ v ≤ 9223372036854775807) (hn : 0 < n) : ∃ i : Nat, i < n ∧ (max v (wrap64 (-wrap64 (v + 1)))).tmod (n : Int) = (i : Int) := by
  have h0 : 0 ≤ max v (wrap64 (-wrap64 (v + 1))) := by
    by_cases h : 0 ≤ v
    · exact Int.le_trans h (Int.le_max_left _ _)
    · have e1 : wrap64 (v + 1) = v + 1 := by unfold wrap64; omega
      have e2 : wrap64 (-(v + 1)) = -(v + 1) := by unfold wrap64; omega
      rw [e1, e2]
      exact Int.le_trans (by omega) (Int.le_max_right _ _)
  generalize max v (wrap64 (-wrap64 (v + 1))) = m at *
  rw [Int.tmod_eq_emod_of_nonneg h0]
  have h1 := Int.emod_nonneg m (show (n : Int) ≠ 0 by omega)
  have h2 := Int.emod_lt_of_pos m (show (0 : Int) < n by omega)
  exact ⟨(m % (n : Int)).toNat, by omega, by omega⟩
def MkAt (w : World) : Prop := 0 < w.heap.size ∧ ∀ j, j < 7 → w.cell? ⟨0, j, none⟩ = (ndc mkX)[j]?
def CopOk : Prop := ∀ (a : Option Addr) (c n : Nat) (D : List Df) (w : World), D.length = n → Wt D → DRow w a D → MkAt w →
  Calls Tryd.prog 9 #[.agg #[.slice a n c]] w fun e w' => ∃ vdi vsi vdk vsk, e = .returned (.tuple #[.agg #[vdi], .agg #[vdk]]) ∧ Hid (Src w' w.heap.size vdi D vsi) ∧ Hid (Src w' w.heap.size vdk D vsk) ∧ Hid (Below w.heap.size w w')
set_option maxRecDepth 100000 in
set_option maxHeartbeats 8000000 in
theorem lost_any (HCop : Hid CopOk) (a : Option Addr) (c n : Nat) (D : List Df) (df nd wh : Int) (w : World) (hdf : -9223372036854775808 ≤ df ∧ df ≤ 9223372036854775807) (hnd : -9223372036854775808 ≤ nd ∧ nd ≤ 9223372036854775807) (hwh : -9223372036854775808 ≤ wh ∧ wh ≤ 9223372036854775807)
    (hn : D.length = n) (hL : Wt D) (r : Hid (DRow w a D)) (ht : Hid (Tab w.heap.size w)) (hM : Hid (MkAt w)) :
    Calls Tryd.prog 3 #[.agg #[.slice a n c], .int .i64 df, .int .i64 nd, .int .i64 wh] w fun e w' => e = .returned (.bool true) ∧ Below w.heap.size w w' := by
  have hn63 : n ≤ 2932031007401 := by rw [← hn]; exact hL.1
  obtain ⟨wA, hwA⟩ : ∃ wA, wA = w.alloc (.cells #[.slice a n c] 24) := ⟨_, rfl⟩
  have KA : Blk wA w.heap.size 24 [.slice a n c] := by rw [hwA]; exact Blk.newA w #[.slice a n c] 24
  have hBA : Below w.heap.size w wA := by rw [hwA]; exact (Below.refl _ _).alloc (Nat.le_refl _) _
  have HKA := hide_ KA
  have HBA := hide_ hBA
  have HAw := hide_ (awake_any wA (hide_ (ht.out.at hBA)))
  have HW := hide_ hL
  have HL := hide_ hL.lens
  have Hn := hide_ hn
  clear KA hBA hL hn
  go_enter Tryd.func3, Tryd.ntmps3
  go_upto_region 1 with fail
  rw [← hwA]
  clear hwA
  go_wp2_with fail
  refine HAw.out.mono ?_; rintro e w1 ⟨rfl, hB1⟩
  have HB1 := hide_ (HBA.out.trans (hB1.mono HBA.out.size))
  have HK1 := hide_ (HKA.out.later hB1)
  clear hB1 HKA HBA HAw
  have x0 := HK1.out.cell 0
  simp at x0
  have HPr := hide_ (print_any a c n D w1 Hn.out HL.out (hide_ (r.out.later HB1.out)) (hide_ (ht.out.at HB1.out)))
  go_wp2_with fail
  refine HPr.out.mono ?_; rintro e w2 ⟨X, k, rfl, HX, HB2'⟩
  have HB2 := hide_ (HB1.out.trans (HB2'.out.mono HB1.out.size))
  have HK2 := hide_ (HK1.out.later HB2'.out)
  clear HB2' HK1 HPr x0 HB1
  have x0 := HK2.out.cell 0
  simp at x0
  by_cases hk : k = 0
  · subst hk
    by_cases hn0 : n = 0
    · subst hn0
      go_wp2
      go_ret
      exact ⟨rfl, HB2.out⟩
    have hn0' : ¬ ((n : Int) = 0) := by omega
    have hall := (ckP_all HX.out.ok.1).2
    have Hall := hide_ hall
    clear hall
    have HC := hide_ (HCop.out a c n D w2 Hn.out HW.out (r.out.later HB2.out) ⟨Nat.lt_of_lt_of_le hM.out.1 HB2.out.size, fun j hj => (HB2.out.cell (p := ⟨0, j, none⟩) hM.out.1).trans (hM.out.2 j hj)⟩)
    go_wp2_with fail
    refine HC.out.mono ?_; rintro e w3 ⟨vdi, vsi, vdk, vsk, rfl, HSi, HSk, HB3'⟩
    obtain ⟨ga, gc, hvi⟩ := own_slice HSi.out.2.1
    obtain ⟨ka, kc, hvk⟩ := own_slice HSk.out.2.1
    rw [Hn.out] at hvi hvk
    subst hvi hvk
    have HB3 := hide_ (HB2.out.trans (HB3'.out.mono HB2.out.size))
    have HK3 := hide_ (HK2.out.later HB3'.out)
    clear HC HB3' HK2 x0 HSi
    obtain ⟨w4, hw4⟩ : ∃ w4, w4 = (w3.alloc (.cells #[.slice ga n gc] 24)).alloc (.cells #[.slice ka n kc] 24) := ⟨_, rfl⟩
    have q2 : Blk w4 (w3.heap.size + 1) 24 [.slice ka n kc] := by rw [hw4]; have h := Blk.newA (w3.alloc (.cells #[.slice ga n gc] 24)) #[.slice ka n kc] 24; simpa using h
    have hB4 : Below w3.heap.size w3 w4 := by rw [hw4]; exact below2 w3 _ _
    have HB4 := hide_ (HB3.out.trans (hB4.mono HB3.out.size))
    have HK4 := hide_ (HK3.out.later hB4)
    have HS4 := hide_ (HSk.out.later hB4)
    have HQ4 := hide_ q2
    clear q2 hB4 HB3 HK3 HSk
    go_upto_region 7 with fail
    rw [← hw4]
    clear hw4
    have x1 := HQ4.out.cell 0
    simp at x1
    obtain ⟨i, hin, hdi⟩ := idx_ok df n hdf (by omega)
    have hd : D[i]? = some (D[i]'(by rw [Hn.out]; exact hin)) := List.getElem?_eq_getElem _
    have hmem := List.getElem_mem (l := D) (n := i) (by rw [Hn.out]; exact hin)
    generalize D[i]'(by rw [Hn.out]; exact hin) = d at *
    obtain ⟨hnm, hfo⟩ := Hall.out d hmem
    have hL0 : 0 < d.ty.length := by
      cases hty : d.ty with
      | nil => rw [hty] at hfo; exact absurd hfo.1 (by decide)
      | cons z zs => simp
    have hLm : d.ty.length ≤ 1954687338267 := HW.out.2 d hmem
    obtain ⟨m, hmL, hmi⟩ := idx_ok nd d.ty.length hnd hL0
    obtain ⟨q, hq4, hqi⟩ := idx_ok wh 4 hwh (by omega)
    have hy : d.ty[m]? = some (d.ty[m]'hmL) := List.getElem?_eq_getElem _
    have hym := List.getElem_mem (l := d.ty) (n := m) hmL
    generalize d.ty[m]'hmL = y at *
    obtain ⟨kk, dd, hnE⟩ := forest_nd _ _ _ _ _ hfo y hym
    obtain ⟨⟨yn0, yn1⟩, ⟨yt0, yt1⟩, yl⟩ := nd_bounds hnE
    have hns : d.name.size ≤ 100 := by obtain ⟨_, h2, _⟩ := of_decide_eq_true hnm; omega
    obtain ⟨g, cap, v, hvd, hcap, hvs, c0, c2⟩ := HS4.out.at0 hd
    rw [Hn.out] at hvd hcap
    injection hvd with hvd1 _ hvd2
    subst hvd1 hvd2
    obtain ⟨gv, capv, ysv, hvv, _, hcv, _, _, _, _⟩ := ownS_blk (HS4.out.2.2.1 i d v hd hvs) hL0
    subst hvv
    obtain ⟨L, hLL⟩ : ∃ L, d.ty.length = L := ⟨_, rfl⟩
    rw [hLL] at hL0 hLm hmL hmi c2 hcv hvs
    have HLL := hide_ hLL
    have hin' : (i : Int) < n := by omega
    have hmL' : (m : Int) < L := by omega
    have Hd := hide_ hd
    have Hy := hide_ hy
    have Hvs := hide_ hvs
    have hmi2 : (max nd (wrap64 (-wrap64 (nd + 1)))).tmod (L : Int) = (m : Int) := hmi
    clear hd hy hmem hym hnE hnm hfo hvs hLL Hall hmi
    have hqc : q = 0 ∨ q = 1 ∨ q = 2 ∨ q = 3 := by omega
    rcases hqc with hqQ | hqQ | hqQ | hqQ
    · have hq : (max wh (wrap64 (-wrap64 (wh + 1)))).tmod 4 = 0 := by rw [hqQ] at hqi; exact hqi
      obtain ⟨g2, cap2, hv2, _, hb2, h1, h2, h3⟩ := HS4.out.setNm Hd.out (d.name ++ ⟨#[120]⟩)
      rw [Hn.out] at hv2
      injection hv2 with hv2a _ hv2b
      injection hv2a with hv2a
      injection hv2a with hv2a
      subst hv2a hv2b
      obtain ⟨w5, hw5⟩ : ∃ w5, w5 = (w4.setCell ⟨g, i * 3, none⟩ (.string (d.name ++ ⟨#[120]⟩))).drew := ⟨_, rfl⟩
      have hty : ∀ (b : Nat) (x : List Value), Blk w4 b 24 x → b ≠ g := fun b x hb e => by
        subst e
        obtain ⟨zs, hz⟩ := ownS_type HS4.out.2.1 rfl
        exact absurd (blk_type hb hz) (by decide)
      have HS5 : Hid (Src w5 w2.heap.size (.slice (some ⟨g, 0, none⟩) n kc) (D.set i { d with name := d.name ++ ⟨#[120]⟩ }) vsk) := hide_ (by rw [hw5]; exact h3.later ((Below.refl _ _).drew))
      have HK5 : Hid (Blk w5 w.heap.size 24 [.slice a n c]) := hide_ (by rw [hw5]; exact (HK4.out.other _ _ (hty _ _ HK4.out)).drew)
      have HQ5 : Hid (Blk w5 (w3.heap.size + 1) 24 [.slice (some ⟨g, 0, none⟩) n kc]) := hide_ (by rw [hw5]; exact (HQ4.out.other _ _ (hty _ _ HQ4.out)).drew)
      have HB5 : Hid (Below w.heap.size w w5) := hide_ (by rw [hw5]; exact (below_set HB4.out _ _ _ (Nat.le_trans HB2.out.size hb2)).drew)
      have HNe : Hid (D.map zDf ≠ (D.set i { d with name := d.name ++ ⟨#[120]⟩ }).map zDf) := hide_ (map_set_ne Hd.out (fun e => by
        have h := ((zDf_iff _ _).1 e).1
        have := congrArg ByteArray.size h
        rw [ByteArray.size_append] at this
        have e1 : (⟨#[120]⟩ : ByteArray).size = 1 := rfl
        omega))
      have z1 : w4.frozen? ⟨g, i * 3, none⟩ = false := h2
      clear h1 h2 h3 hty HS4 HK4 HQ4 HB4 hb2 hqi hqQ
      go_upto_region 13 with fail
      go_region
      go_upto_region 18 with fail
      rw [← hw5]
      clear hw5 z1 c0 c2 x1 hq hdi hmi2
      have HL2 := hide_ HS5.out.lens
      obtain ⟨a2, cc2, hv2, hcc2, hR2⟩ := HS5.out.row
      have hn2 : (D.set i { d with name := d.name ++ ⟨#[120]⟩ }).length = n := by rw [List.length_set]; exact Hn.out
      rw [hn2] at hv2
      injection hv2 with hv2a _ hv2b
      subst hv2a hv2b
      have HR2 := hide_ hR2
      have Hn2 := hide_ hn2
      have HK5x := HK5.out.cell 0
      have HQ5x := HQ5.out.cell 0
      simp at HK5x HQ5x
      generalize hDD : D.set i { d with name := d.name ++ ⟨#[120]⟩ } = D2 at *
      clear hDD hR2 hn2 hcc2
      have HPr2 := hide_ (print_any (some ⟨g, 0, none⟩) kc n D2 w5 Hn2.out HL2.out HR2 (hide_ (ht.out.at HB5.out)))
      go_wp2_with fail
      refine HPr2.out.mono ?_; rintro e w6 ⟨X2, k2, rfl, HX2, HB6'⟩
      have HB6 := hide_ (HB5.out.trans (HB6'.out.mono HB5.out.size))
      have HK6 := hide_ (HK5.out.later HB6'.out)
      have HQ6 := hide_ (HQ5.out.later HB6'.out)
      have HR6 := hide_ (HR2.out.later HB6'.out)
      clear HK5x HQ5x HPr2 HB6' HK5 HQ5 HB5 HS5
      have HK6x := HK6.out.cell 0
      have HQ6x := HQ6.out.cell 0
      simp at HK6x HQ6x
      have HSm := hide_ (showSame_any a (some ⟨g, 0, none⟩) c kc D D2 w6 HL.out HL2.out (hide_ (r.out.later HB6.out)) HR6)
      rw [Hn.out, Hn2.out] at HSm
      go_wp2_with fail
      refine HSm.out.mono ?_; rintro e w7 ⟨v7, rfl, HV, HB7'⟩
      obtain rfl : v7 = false := Bool.eq_false_iff.2 (fun h => HNe.out (HV.out.1 h))
      have HB7 := hide_ (HB6.out.trans (HB7'.out.mono HB6.out.size))
      clear HK6x HQ6x HSm HB7' HB6 HV HR6 HR2
      rcases lost_plain HX.out HX2.out HNe.out with ⟨hk2, rfl⟩ | ⟨rfl, hXne⟩
      · clear HX HX2
        go_wp2
        go_ret
        exact ⟨rfl, HB7.out⟩
      · have hXn : ¬ X2.toList = X.toList := fun e => hXne ((tl_iff _ _).1 e)
        have hXb : (X2.toList == X.toList) = false := beq_eq_false_iff_ne.2 hXn
        clear HX HX2 hXne
        go_wp2
        go_ret
        exact ⟨rfl, HB7.out⟩
    · have hq : (max wh (wrap64 (-wrap64 (wh + 1)))).tmod 4 = 1 := by rw [hqQ] at hqi; exact hqi
      obtain ⟨g2, cap2, hv2, _, hb2, h1, h2, h3⟩ := HS4.out.setF (j := 1) (u := .int .i64 (y.n + 1)) (y2 := { y with n := y.n + 1 }) (v := .slice (some ⟨gv, 0, none⟩) L capv) Hd.out Hvs.out Hy.out (by decide) rfl
      rw [HLL.out] at hv2
      injection hv2 with hv2a _ hv2b
      injection hv2a with hv2a
      injection hv2a with hv2a
      subst hv2a hv2b
      have m1 : w4.cell? ⟨gv, m * 7 + 1, none⟩ = (ndc y)[1]? := h1
      simp [ndc] at m1
      have z1 : w4.frozen? ⟨gv, m * 7 + 1, none⟩ = false := h2
      obtain ⟨w5, hw5⟩ : ∃ w5, w5 = w4.setCell ⟨gv, m * 7 + 1, none⟩ (.int .i64 (y.n + 1)) := ⟨_, rfl⟩
      have hty : ∀ (b : Nat) (x : List Value), Blk w4 b 24 x → b ≠ gv := fun b x hb e => by
        subst e
        obtain ⟨zs, hz⟩ := ownS_type (HS4.out.2.2.1 i d _ Hd.out Hvs.out) rfl
        exact absurd (blk_type hb hz) (by decide)
      have HS5 : Hid (Src w5 w2.heap.size (.slice (some ⟨g, 0, none⟩) n kc) (D.set i { d with ty := d.ty.set m { y with n := y.n + 1 } }) vsk) := hide_ (by rw [hw5]; exact h3)
      have HK5 : Hid (Blk w5 w.heap.size 24 [.slice a n c]) := hide_ (by rw [hw5]; exact HK4.out.other _ _ (hty _ _ HK4.out))
      have HQ5 : Hid (Blk w5 (w3.heap.size + 1) 24 [.slice (some ⟨g, 0, none⟩) n kc]) := hide_ (by rw [hw5]; exact HQ4.out.other _ _ (hty _ _ HQ4.out))
      have HB5 : Hid (Below w.heap.size w w5) := hide_ (by rw [hw5]; exact below_set HB4.out _ _ _ (Nat.le_trans HB2.out.size hb2))
      have HNe : Hid (D.map zDf ≠ (D.set i { d with ty := d.ty.set m { y with n := y.n + 1 } }).map zDf) := hide_ (map_set_ne Hd.out (fun e => nds_set_ne (y2 := { y with n := y.n + 1 }) Hy.out (fun e2 => by have t := congrArg Nd.n e2; have t2 : y.n = y.n + 1 := t; omega) ((zDf_iff _ _).1 e).2))
      clear h1 h2 h3 hty HS4 HK4 HQ4 HB4 hb2 hqi hqQ
      go_upto_region 18 with fail
      rw [← hw5]
      clear hw5 m1 z1 c0 c2 x1 hq hdi hmi2
      have HL2 := hide_ HS5.out.lens
      obtain ⟨a2, cc2, hv2, hcc2, hR2⟩ := HS5.out.row
      have hn2 : (D.set i { d with ty := d.ty.set m { y with n := y.n + 1 } }).length = n := by rw [List.length_set]; exact Hn.out
      rw [hn2] at hv2
      injection hv2 with hv2a _ hv2b
      subst hv2a hv2b
      have HR2 := hide_ hR2
      have Hn2 := hide_ hn2
      have HK5x := HK5.out.cell 0
      have HQ5x := HQ5.out.cell 0
      simp at HK5x HQ5x
      generalize hDD : D.set i { d with ty := d.ty.set m { y with n := y.n + 1 } } = D2 at *
      clear hDD hR2 hn2 hcc2
      have HPr2 := hide_ (print_any (some ⟨g, 0, none⟩) kc n D2 w5 Hn2.out HL2.out HR2 (hide_ (ht.out.at HB5.out)))
      go_wp2_with fail
      refine HPr2.out.mono ?_; rintro e w6 ⟨X2, k2, rfl, HX2, HB6'⟩
      have HB6 := hide_ (HB5.out.trans (HB6'.out.mono HB5.out.size))
      have HK6 := hide_ (HK5.out.later HB6'.out)
      have HQ6 := hide_ (HQ5.out.later HB6'.out)
      have HR6 := hide_ (HR2.out.later HB6'.out)
      clear HK5x HQ5x HPr2 HB6' HK5 HQ5 HB5 HS5
      have HK6x := HK6.out.cell 0
      have HQ6x := HQ6.out.cell 0
      simp at HK6x HQ6x
      have HSm := hide_ (showSame_any a (some ⟨g, 0, none⟩) c kc D D2 w6 HL.out HL2.out (hide_ (r.out.later HB6.out)) HR6)
      rw [Hn.out, Hn2.out] at HSm
      go_wp2_with fail
      refine HSm.out.mono ?_; rintro e w7 ⟨v7, rfl, HV, HB7'⟩
      obtain rfl : v7 = false := Bool.eq_false_iff.2 (fun h => HNe.out (HV.out.1 h))
      have HB7 := hide_ (HB6.out.trans (HB7'.out.mono HB6.out.size))
      clear HK6x HQ6x HSm HB7' HB6 HV HR6 HR2
      rcases lost_plain HX.out HX2.out HNe.out with ⟨hk2, rfl⟩ | ⟨rfl, hXne⟩
      · clear HX HX2
        go_wp2
        go_ret
        exact ⟨rfl, HB7.out⟩
      · have hXn : ¬ X2.toList = X.toList := fun e => hXne ((tl_iff _ _).1 e)
        have hXb : (X2.toList == X.toList) = false := beq_eq_false_iff_ne.2 hXn
        clear HX HX2 hXne
        go_wp2
        go_ret
        exact ⟨rfl, HB7.out⟩
    · have hq : (max wh (wrap64 (-wrap64 (wh + 1)))).tmod 4 = 2 := by rw [hqQ] at hqi; exact hqi
      obtain ⟨g2, cap2, hv2, _, hb2, h1, h2, h3⟩ := HS4.out.setF (j := 3) (u := .string (y.label ++ ⟨#[121]⟩)) (y2 := { y with label := y.label ++ ⟨#[121]⟩ }) (v := .slice (some ⟨gv, 0, none⟩) L capv) Hd.out Hvs.out Hy.out (by decide) rfl
      rw [HLL.out] at hv2
      injection hv2 with hv2a _ hv2b
      injection hv2a with hv2a
      injection hv2a with hv2a
      subst hv2a hv2b
      have m1 : w4.cell? ⟨gv, m * 7 + 3, none⟩ = (ndc y)[3]? := h1
      simp [ndc] at m1
      have z1 : w4.frozen? ⟨gv, m * 7 + 3, none⟩ = false := h2
      obtain ⟨w5, hw5⟩ : ∃ w5, w5 = w4.setCell ⟨gv, m * 7 + 3, none⟩ (.string (y.label ++ ⟨#[121]⟩)) := ⟨_, rfl⟩
      have hty : ∀ (b : Nat) (x : List Value), Blk w4 b 24 x → b ≠ gv := fun b x hb e => by
        subst e
        obtain ⟨zs, hz⟩ := ownS_type (HS4.out.2.2.1 i d _ Hd.out Hvs.out) rfl
        exact absurd (blk_type hb hz) (by decide)
      have HS5 : Hid (Src w5 w2.heap.size (.slice (some ⟨g, 0, none⟩) n kc) (D.set i { d with ty := d.ty.set m { y with label := y.label ++ ⟨#[121]⟩ } }) vsk) := hide_ (by rw [hw5]; exact h3)
      have HK5 : Hid (Blk w5 w.heap.size 24 [.slice a n c]) := hide_ (by rw [hw5]; exact HK4.out.other _ _ (hty _ _ HK4.out))
      have HQ5 : Hid (Blk w5 (w3.heap.size + 1) 24 [.slice (some ⟨g, 0, none⟩) n kc]) := hide_ (by rw [hw5]; exact HQ4.out.other _ _ (hty _ _ HQ4.out))
      have HB5 : Hid (Below w.heap.size w w5) := hide_ (by rw [hw5]; exact below_set HB4.out _ _ _ (Nat.le_trans HB2.out.size hb2))
      have HNe : Hid (D.map zDf ≠ (D.set i { d with ty := d.ty.set m { y with label := y.label ++ ⟨#[121]⟩ } }).map zDf) := hide_ (map_set_ne Hd.out (fun e => nds_set_ne (y2 := { y with label := y.label ++ ⟨#[121]⟩ }) Hy.out (fun e2 => by have t := congrArg Nd.label e2; have t2 : y.label = y.label ++ ⟨#[121]⟩ := t; have t3 := congrArg ByteArray.size t2; rw [ByteArray.size_append] at t3; have e1 : (⟨#[121]⟩ : ByteArray).size = 1 := rfl; omega) ((zDf_iff _ _).1 e).2))
      clear h1 h2 h3 hty HS4 HK4 HQ4 HB4 hb2 hqi hqQ
      go_upto_region 18 with fail
      rw [← hw5]
      clear hw5 m1 z1 c0 c2 x1 hq hdi hmi2
      have HL2 := hide_ HS5.out.lens
      obtain ⟨a2, cc2, hv2, hcc2, hR2⟩ := HS5.out.row
      have hn2 : (D.set i { d with ty := d.ty.set m { y with label := y.label ++ ⟨#[121]⟩ } }).length = n := by rw [List.length_set]; exact Hn.out
      rw [hn2] at hv2
      injection hv2 with hv2a _ hv2b
      subst hv2a hv2b
      have HR2 := hide_ hR2
      have Hn2 := hide_ hn2
      have HK5x := HK5.out.cell 0
      have HQ5x := HQ5.out.cell 0
      simp at HK5x HQ5x
      generalize hDD : D.set i { d with ty := d.ty.set m { y with label := y.label ++ ⟨#[121]⟩ } } = D2 at *
      clear hDD hR2 hn2 hcc2
      have HPr2 := hide_ (print_any (some ⟨g, 0, none⟩) kc n D2 w5 Hn2.out HL2.out HR2 (hide_ (ht.out.at HB5.out)))
      go_wp2_with fail
      refine HPr2.out.mono ?_; rintro e w6 ⟨X2, k2, rfl, HX2, HB6'⟩
      have HB6 := hide_ (HB5.out.trans (HB6'.out.mono HB5.out.size))
      have HK6 := hide_ (HK5.out.later HB6'.out)
      have HQ6 := hide_ (HQ5.out.later HB6'.out)
      have HR6 := hide_ (HR2.out.later HB6'.out)
      clear HK5x HQ5x HPr2 HB6' HK5 HQ5 HB5 HS5
      have HK6x := HK6.out.cell 0
      have HQ6x := HQ6.out.cell 0
      simp at HK6x HQ6x
      have HSm := hide_ (showSame_any a (some ⟨g, 0, none⟩) c kc D D2 w6 HL.out HL2.out (hide_ (r.out.later HB6.out)) HR6)
      rw [Hn.out, Hn2.out] at HSm
      go_wp2_with fail
      refine HSm.out.mono ?_; rintro e w7 ⟨v7, rfl, HV, HB7'⟩
      obtain rfl : v7 = false := Bool.eq_false_iff.2 (fun h => HNe.out (HV.out.1 h))
      have HB7 := hide_ (HB6.out.trans (HB7'.out.mono HB6.out.size))
      clear HK6x HQ6x HSm HB7' HB6 HV HR6 HR2
      rcases lost_plain HX.out HX2.out HNe.out with ⟨hk2, rfl⟩ | ⟨rfl, hXne⟩
      · clear HX HX2
        go_wp2
        go_ret
        exact ⟨rfl, HB7.out⟩
      · have hXn : ¬ X2.toList = X.toList := fun e => hXne ((tl_iff _ _).1 e)
        have hXb : (X2.toList == X.toList) = false := beq_eq_false_iff_ne.2 hXn
        clear HX HX2 hXne
        go_wp2
        go_ret
        exact ⟨rfl, HB7.out⟩
    · have hq : (max wh (wrap64 (-wrap64 (wh + 1)))).tmod 4 = 3 := by rw [hqQ] at hqi; exact hqi
      obtain ⟨g2, cap2, hv2, _, hb2, h1, h2, h3⟩ := HS4.out.setF (j := 4) (u := .int .i64 (y.tag + 1)) (y2 := { y with tag := y.tag + 1 }) (v := .slice (some ⟨gv, 0, none⟩) L capv) Hd.out Hvs.out Hy.out (by decide) rfl
      rw [HLL.out] at hv2
      injection hv2 with hv2a _ hv2b
      injection hv2a with hv2a
      injection hv2a with hv2a
      subst hv2a hv2b
      have m1 : w4.cell? ⟨gv, m * 7 + 4, none⟩ = (ndc y)[4]? := h1
      simp [ndc] at m1
      have z1 : w4.frozen? ⟨gv, m * 7 + 4, none⟩ = false := h2
      obtain ⟨w5, hw5⟩ : ∃ w5, w5 = w4.setCell ⟨gv, m * 7 + 4, none⟩ (.int .i64 (y.tag + 1)) := ⟨_, rfl⟩
      have hty : ∀ (b : Nat) (x : List Value), Blk w4 b 24 x → b ≠ gv := fun b x hb e => by
        subst e
        obtain ⟨zs, hz⟩ := ownS_type (HS4.out.2.2.1 i d _ Hd.out Hvs.out) rfl
        exact absurd (blk_type hb hz) (by decide)
      have HS5 : Hid (Src w5 w2.heap.size (.slice (some ⟨g, 0, none⟩) n kc) (D.set i { d with ty := d.ty.set m { y with tag := y.tag + 1 } }) vsk) := hide_ (by rw [hw5]; exact h3)
      have HK5 : Hid (Blk w5 w.heap.size 24 [.slice a n c]) := hide_ (by rw [hw5]; exact HK4.out.other _ _ (hty _ _ HK4.out))
      have HQ5 : Hid (Blk w5 (w3.heap.size + 1) 24 [.slice (some ⟨g, 0, none⟩) n kc]) := hide_ (by rw [hw5]; exact HQ4.out.other _ _ (hty _ _ HQ4.out))
      have HB5 : Hid (Below w.heap.size w w5) := hide_ (by rw [hw5]; exact below_set HB4.out _ _ _ (Nat.le_trans HB2.out.size hb2))
      have HNe : Hid (D.map zDf ≠ (D.set i { d with ty := d.ty.set m { y with tag := y.tag + 1 } }).map zDf) := hide_ (map_set_ne Hd.out (fun e => nds_set_ne (y2 := { y with tag := y.tag + 1 }) Hy.out (fun e2 => by have t := congrArg Nd.tag e2; have t2 : y.tag = y.tag + 1 := t; omega) ((zDf_iff _ _).1 e).2))
      clear h1 h2 h3 hty HS4 HK4 HQ4 HB4 hb2 hqi hqQ
      go_upto_region 18 with fail
      rw [← hw5]
      clear hw5 m1 z1 c0 c2 x1 hq hdi hmi2
      have HL2 := hide_ HS5.out.lens
      obtain ⟨a2, cc2, hv2, hcc2, hR2⟩ := HS5.out.row
      have hn2 : (D.set i { d with ty := d.ty.set m { y with tag := y.tag + 1 } }).length = n := by rw [List.length_set]; exact Hn.out
      rw [hn2] at hv2
      injection hv2 with hv2a _ hv2b
      subst hv2a hv2b
      have HR2 := hide_ hR2
      have Hn2 := hide_ hn2
      have HK5x := HK5.out.cell 0
      have HQ5x := HQ5.out.cell 0
      simp at HK5x HQ5x
      generalize hDD : D.set i { d with ty := d.ty.set m { y with tag := y.tag + 1 } } = D2 at *
      clear hDD hR2 hn2 hcc2
      have HPr2 := hide_ (print_any (some ⟨g, 0, none⟩) kc n D2 w5 Hn2.out HL2.out HR2 (hide_ (ht.out.at HB5.out)))
      go_wp2_with fail
      refine HPr2.out.mono ?_; rintro e w6 ⟨X2, k2, rfl, HX2, HB6'⟩
      have HB6 := hide_ (HB5.out.trans (HB6'.out.mono HB5.out.size))
      have HK6 := hide_ (HK5.out.later HB6'.out)
      have HQ6 := hide_ (HQ5.out.later HB6'.out)
      have HR6 := hide_ (HR2.out.later HB6'.out)
      clear HK5x HQ5x HPr2 HB6' HK5 HQ5 HB5 HS5
      have HK6x := HK6.out.cell 0
      have HQ6x := HQ6.out.cell 0
      simp at HK6x HQ6x
      have HSm := hide_ (showSame_any a (some ⟨g, 0, none⟩) c kc D D2 w6 HL.out HL2.out (hide_ (r.out.later HB6.out)) HR6)
      rw [Hn.out, Hn2.out] at HSm
      go_wp2_with fail
      refine HSm.out.mono ?_; rintro e w7 ⟨v7, rfl, HV, HB7'⟩
      obtain rfl : v7 = false := Bool.eq_false_iff.2 (fun h => HNe.out (HV.out.1 h))
      have HB7 := hide_ (HB6.out.trans (HB7'.out.mono HB6.out.size))
      clear HK6x HQ6x HSm HB7' HB6 HV HR6 HR2
      rcases lost_plain HX.out HX2.out HNe.out with ⟨hk2, rfl⟩ | ⟨rfl, hXne⟩
      · clear HX HX2
        go_wp2
        go_ret
        exact ⟨rfl, HB7.out⟩
      · have hXn : ¬ X2.toList = X.toList := fun e => hXne ((tl_iff _ _).1 e)
        have hXb : (X2.toList == X.toList) = false := beq_eq_false_iff_ne.2 hXn
        clear HX HX2 hXne
        go_wp2
        go_ret
        exact ⟨rfl, HB7.out⟩
  · have hk' : ¬ (k = 0) := hk
    go_wp2
    go_ret
    exact ⟨rfl, HB2.out⟩
end Go.Proofs.YtbfmoiaedopeiaaDoor

/- copied, as ShowNothingLost asks it. -/
namespace Go.Proofs.YtbfmoiaedopeiaaDoor
open Go.RowKit
set_option linter.unusedVariables false

theorem cop_ok : CopOk := fun a c n D w hn hW hR hM => (copied_any a c n D w hn (hide_ hW) (hide_ hR) (hide_ hM)).mono fun e w' h => by
  obtain ⟨vdi, vsi, vdk, vsk, h1, h2, h3, h4, _⟩ := h
  exact ⟨vdi, vsi, vdk, vsk, h1, h2, h3, h4⟩
end Go.Proofs.YtbfmoiaedopeiaaDoor
