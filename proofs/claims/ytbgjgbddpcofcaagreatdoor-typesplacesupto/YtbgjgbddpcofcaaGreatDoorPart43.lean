import Derived.Test.YtbgjgbddpcofcaaGreatDoorPart42
import Derived.Test.YtbgjgbddpcofcaaGreatDoorPart41
import Derived.Test.YtbgjgbddpcofcaaGreatDoorPart37
import Derived.Test.YtbgjgbddpcofcaaGreatDoorPart36
import Derived.Test.YtbgjgbddpcofcaaGreatDoorPart17

/- TypesPlaces: its walk. -/
namespace Go.Proofs.YtbgjgbddpcofcaaGreatDoor
open Go.RowKit
set_option linter.unusedVariables false

theorem Src.at2 {w : World} {B : Nat} {vd : Value} {D : List Df} {vs : List Value} (h : Src w B vd D vs) {i : Nat} {d : Df} (hd : D[i]? = some d) : ∃ g cap gv cv, vd = .slice (some ⟨g, 0, none⟩) D.length cap ∧ D.length ≤ cap ∧ vs[i]? = some (.slice gv d.ty.length cv) ∧ w.cell? ⟨g, i * 3 + 2, none⟩ = some (.slice gv d.ty.length cv) := by
  have hi := (List.getElem?_eq_some_iff.1 hd).1
  have hv : vs[i]? = some (vs[i]'(by rw [h.1]; exact hi)) := List.getElem?_eq_getElem _
  obtain ⟨g, cap, ys, hvd, hb, hc, hm, hl, ht, hK⟩ := ownS_blk h.2.1 (by omega)
  have hat : ∀ j, j < 3 → w.cell? ⟨g, i * 3 + j, none⟩ = (dfc d (vs[i]'(by rw [h.1]; exact hi)))[j]? := fun j hj => by
    rw [← cellsD_at D vs i j d _ hd hv hj, hK.cell, ← ht, List.getElem?_take, if_pos (by omega)]
  obtain ⟨gv, cv, e⟩ := own_slice (h.2.2.1 i d _ hd hv)
  have h2 := hat 2 (by decide)
  rw [e] at hv h2
  exact ⟨g, cap, gv, cv, hvd, hc, hv, h2⟩
theorem map_set_same {D : List Df} {i : Nat} {d d2 : Df} (hd : D[i]? = some d) (hz : zDf d2 = zDf d) : (D.set i d2).map zDf = D.map zDf := by
  rw [List.map_set, hz]
  obtain ⟨hi, e⟩ := List.getElem?_eq_some_iff.1 hd
  have : (D.map zDf)[i]'(by simpa using hi) = zDf d := by simp [e]
  rw [← this, List.set_getElem_self]
theorem nds_set_same {N : List Nd} {m : Nat} {y y2 : Nd} (hy : N[m]? = some y) (hz : zNd y2 = zNd y) : (N.set m y2).map zNd = N.map zNd := by
  rw [List.map_set, hz]
  obtain ⟨hi, e⟩ := List.getElem?_eq_some_iff.1 hy
  have : (N.map zNd)[m]'(by simpa using hi) = zNd y := by simp [e]
  rw [← this, List.set_getElem_self]
/-- The moved source, in memory. -/
def MvS (w3 wr : World) (bm : Nat) (vd : Value) (D0 D : List Df) (vs : List Value) : Prop :=
  Src wr w3.heap.size vd D vs ∧ Blk wr bm 24 [vd] ∧ Below w3.heap.size w3 wr ∧ D.map zDf = D0.map zDf
section
variable {w3 wr : World} {bm : Nat} {vd : Value} {D0 D : List Df} {vs : List Value}
theorem MvS.len (h : MvS w3 wr bm vd D0 D vs) : D.length = D0.length := by have := congrArg List.length h.2.2.2; simpa using this
theorem MvS.setA (h : MvS w3 wr bm vd D0 D vs) {i : Nat} {d : Df} (hd : D[i]? = some d) (x : Int) :
    ∃ g cap, vd = .slice (some ⟨g, 0, none⟩) D.length cap ∧ D.length ≤ cap ∧ wr.cell? ⟨g, i * 3 + 1, none⟩ = some (.int .i64 d.a) ∧ wr.frozen? ⟨g, i * 3 + 1, none⟩ = false ∧ MvS w3 (wr.setCell ⟨g, i * 3 + 1, none⟩ (.int .i64 x)) bm vd D0 (D.set i { d with a := x }) vs := by
  obtain ⟨h1, h2, h3, h4⟩ := h
  obtain ⟨g, cap, e, hc, hb, c1, c2, S⟩ := h1.setA hd x
  have hg : bm ≠ g := fun eg => by
    have ho : vd.ownBlock = some g := by rw [e]; rfl
    obtain ⟨ys, hy⟩ := ownS_type h1.2.1 ho
    subst eg
    exact absurd (blk_type h2 hy) (by decide)
  have hU : Upd (fun k => k = g) wr (wr.setCell ⟨g, i * 3 + 1, none⟩ (.int .i64 x)) := (Upd.refl _ wr).set _ _ (.inl rfl)
  exact ⟨g, cap, e, hc, c1, c2, S, h2.other _ _ (show bm ≠ g from hg), h3.trans (hU.below _ h3.size (fun k hk => by omega)), (map_set_same (d2 := { d with a := x }) hd rfl).trans h4⟩
theorem MvS.setN (h : MvS w3 wr bm vd D0 D vs) {i m : Nat} {d : Df} {v : Value} {y : Nd} (hd : D[i]? = some d) (hv : vs[i]? = some v) (hy : d.ty[m]? = some y) (x : Int) :
    ∃ g cap, v = .slice (some ⟨g, 0, none⟩) d.ty.length cap ∧ d.ty.length ≤ cap ∧ wr.cell? ⟨g, m * 7 + 6, none⟩ = some (.int .i64 y.a) ∧ wr.frozen? ⟨g, m * 7 + 6, none⟩ = false ∧ MvS w3 (wr.setCell ⟨g, m * 7 + 6, none⟩ (.int .i64 x)) bm vd D0 (D.set i { d with ty := d.ty.set m { y with a := x } }) vs := by
  obtain ⟨h1, h2, h3, h4⟩ := h
  obtain ⟨g, cap, e, hc, hb, c1, c2, S⟩ := h1.setN hd hv hy x
  have hg : bm ≠ g := fun eg => by
    have ho : v.ownBlock = some g := by rw [e]; rfl
    obtain ⟨ys, hy⟩ := ownS_type (h1.2.2.1 i d v hd hv) ho
    subst eg
    exact absurd (blk_type h2 hy) (by decide)
  have hU : Upd (fun k => k = g) wr (wr.setCell ⟨g, m * 7 + 6, none⟩ (.int .i64 x)) := (Upd.refl _ wr).set _ _ (.inl rfl)
  refine ⟨g, cap, e, hc, c1, c2, S, h2.other _ _ (show bm ≠ g from hg), h3.trans (hU.below _ h3.size (fun k hk => by omega)), ?_⟩
  refine (map_set_same (d2 := { d with ty := d.ty.set m { y with a := x } }) hd ?_).trans h4
  unfold zDf
  simp only
  rw [nds_set_same (y2 := { y with a := x }) hy rfl]
end
theorem z_len {D D' : List Df} (h : D'.map zDf = D.map zDf) {P : Nat → Prop} (hP : ∀ d ∈ D, P d.ty.length) : ∀ d ∈ D', P d.ty.length := fun d hd => by
  have : zDf d ∈ D.map zDf := by rw [← h]; exact List.mem_map_of_mem hd
  obtain ⟨d0, h0, e⟩ := List.mem_map.1 this
  have e2 := congrArg (fun d : Df => d.ty.length) e
  simp only [zDf, List.length_map] at e2
  rw [← e2]
  exact hP d0 h0
theorem z_wt {D D' : List Df} (h : D'.map zDf = D.map zDf) (hw : Wt D) : Wt D' := by
  have hl := congrArg List.length h
  simp at hl
  exact ⟨by rw [hl]; exact hw.1, z_len h (P := fun n => n ≤ 1954687338267) hw.2⟩
/-- A schema lies here. -/
structure ScM (w : World) (b : Nat) (x : Option Addr) (p : Nat) (T : List Ty) (y : Option Addr) (q : Nat) (R : List Rt) : Prop where
  kx : Blk w b 29 [.slice x T.length p, .slice y R.length q]
  t : TRowz w x T
  r : RRow w y R
theorem ScM.later {w w' : World} {b : Nat} {x : Option Addr} {p : Nat} {T : List Ty} {y : Option Addr} {q : Nat} {R : List Rt} (h : ScM w b x p T y q R) (hB : Below w.heap.size w w') : ScM w' b x p T y q R := ⟨h.kx.later hB, h.t.later hB, h.r.later hB⟩
theorem BuTo.open {D : List Df} {T : List Ty} {R : List Rt} {E A : Int} {w w' : World} {e : Ending} (h : BuTo D T R E A w e w') : ∃ x p y q, e = .returned (.tuple #[.agg #[.slice x T.length p, .slice y R.length q], .agg #[.int .i64 E, .int .i64 A]]) ∧ Hid (TRowz w' x T ∧ RRow w' y R) ∧ Hid (Below w.heap.size w w') := by
  obtain ⟨x, n, p, y, m, q, rfl, ⟨Q, hQ, hQT⟩, hRo, hB⟩ := h
  obtain ⟨x', p', e1, hT1⟩ := hQ.row
  rw [hQT] at e1 hT1
  obtain ⟨y', q', e2, -, -, hR1⟩ := own_grow rtc_len hRo
  obtain ⟨rfl, rfl, rfl⟩ : x = x' ∧ n = T.length ∧ p = p' := by injection e1 with a b c; exact ⟨a, b, c⟩
  obtain ⟨rfl, rfl, rfl⟩ : y = y' ∧ m = R.length ∧ q = q' := by injection e2 with a b c; exact ⟨a, b, c⟩
  exact ⟨x, p, y, q, rfl, hide_ ⟨hT1, hR1⟩, hide_ hB⟩
/-- The two boxes that hold what Build answered. -/
theorem sc_boxes (w : World) (x y : Option Addr) (n p m q : Nat) (E A : Int) : Blk ((w.alloc (.cells #[.slice x n p, .slice y m q] 29)).alloc (.cells #[.int .i64 E, .int .i64 A] 32)) w.heap.size 29 [.slice x n p, .slice y m q] ∧ Blk ((w.alloc (.cells #[.slice x n p, .slice y m q] 29)).alloc (.cells #[.int .i64 E, .int .i64 A] 32)) (w.heap.size + 1) 32 [.int .i64 E, .int .i64 A] ∧ Below w.heap.size w ((w.alloc (.cells #[.slice x n p, .slice y m q] 29)).alloc (.cells #[.int .i64 E, .int .i64 A] 32)) := by
  obtain ⟨h1, h2⟩ := blk2z w #[.slice x n p, .slice y m q] #[.int .i64 E, .int .i64 A] 29 32
  exact ⟨h1, h2, below2z w _ _⟩
set_option maxRecDepth 100000 in
set_option maxHeartbeats 8000000 in
theorem places_any (a : Option Addr) (c n : Nat) (D : List Df) (by_ : Int) (w : World) (hn : D.length = n) (hW : Hid (Wt D)) (hty : Hid (∀ d ∈ D, d.ty.length ≤ 3900000)) (r : Hid (DRow w a D)) (ht : Hid (Tab w.heap.size w)) :
    Calls Tryz.prog 3 #[.agg #[.slice a n c], .int .i64 by_] w fun e w' => e = .returned (.bool true) ∧ Below w.heap.size w w' := by
  have hn63 : n ≤ 2932031007401 := by rw [← hn]; exact hW.out.1
  obtain ⟨wA, hwA⟩ : ∃ wA, wA = w.alloc (.cells #[.slice a n c] 24) := ⟨_, rfl⟩
  have KA : Blk wA w.heap.size 24 [.slice a n c] := by rw [hwA]; exact Blk.newA w #[.slice a n c] 24
  have hBA : Below w.heap.size w wA := by rw [hwA]; exact (Below.refl _ _).alloc (Nat.le_refl _) _
  have HKA := hide_ KA
  have HBA := hide_ hBA
  have HAw := hide_ (awake_any wA)
  have Hn := hide_ hn
  clear KA hBA hn
  go_enter Tryz.func3, Tryz.ntmps3
  go_upto_region 1 with fail
  rw [← hwA]
  clear hwA
  go_wp2_with fail
  refine HAw.out.mono ?_; rintro e w1 ⟨rfl, hB1⟩
  have HB1 := hide_ (below_to HBA.out hB1)
  have HK1 := hide_ (HKA.out.later hB1)
  clear hB1 HKA HBA HAw
  have x0 := HK1.out.cell 0
  simp at x0
  obtain ⟨T, R, E, A, hBl⟩ := blTo_ex D
  have HBl := hide_ hBl
  clear hBl
  have HBu := hide_ (build_any HBl a c w1 hW hty (hide_ (r.out.later HB1.out)))
  rw [Hn.out] at HBu
  go_wp2_with fail
  refine HBu.out.mono ?_; rintro e w2 hbu
  obtain ⟨x, p, y, q, rfl, HTR, HB2'⟩ := hbu.open
  clear hbu HBu x0
  have HB2 := hide_ (below_to HB1.out HB2'.out)
  have HK2 := hide_ (HK1.out.later HB2'.out)
  obtain ⟨kx3, kf3, hB3⟩ := sc_boxes w2 x y T.length p R.length q E A
  obtain ⟨w3, hw3⟩ : ∃ wx, wx = (w2.alloc (.cells #[.slice x T.length p, .slice y R.length q] 29)).alloc (.cells #[.int .i64 E, .int .i64 A] 32) := ⟨_, rfl⟩
  rw [← hw3] at kx3 kf3 hB3
  have HSc : Hid (ScM w3 w2.heap.size x p T y q R) := hide_ ⟨kx3, HTR.out.1.later hB3, HTR.out.2.later hB3⟩
  have HK3 := hide_ (HK2.out.later hB3)
  have HB3 := hide_ (below_to HB2.out hB3)
  have f0 := kf3.cell 0
  simp at f0
  clear kx3 kf3 hB3 HTR HB2' HB2 HK2 HB1 HK1
  go_upto_region 4 with fail
  rw [← hw3]
  clear hw3
  by_cases hE : E = 0
  · subst hE
    have x0 := HK3.out.cell 0
    simp at x0
    have HCp := hide_ (copied9_any a c n D w3 Hn.out hW (hide_ (r.out.later HB3.out)))
    go_upto_region 6 with fail
    clear f0
    go_wp2_with fail
    refine HCp.out.mono ?_; rintro e w4 ⟨vd, vs, rfl, HS4, HB4⟩
    have HB34 := HB4.out
    obtain ⟨da, dc, hvd⟩ := own_slice HS4.out.2.1
    rw [Hn.out] at hvd
    obtain ⟨w5, hw5⟩ : ∃ wx, wx = w4.alloc (.cells #[vd] 24) := ⟨_, rfl⟩
    have hb5 : Below w4.heap.size w4 w5 := by rw [hw5]; exact below1 w4 _
    have k5 : Blk w5 w4.heap.size 24 [vd] := by rw [hw5]; exact Blk.newA w4 #[vd] 24
    have HMv : Hid (MvS w3 w5 w4.heap.size vd D D vs) := hide_ ⟨HS4.out.later hb5, k5, HB4.out.trans (hb5.mono HB4.out.size), rfl⟩
    subst hvd
    clear HB34 hb5 k5 HS4 HB4 HCp x0
    go_upto_region 7 with fail
    rw [← hw5]
    clear hw5
    go_wp2_with fail
    go_loopw [8] (fun x8 wr => ∃ (i : Nat) (D1 : List Df), i ≤ n ∧ x8 = .int .i64 (i : Int) ∧ Hid (MvS w3 wr w4.heap.size (.slice da n dc) D D1 vs)) (fun x8 _ => n - (intOf x8).toNat)
    case atStart => exact ⟨0, D, Nat.zero_le _, rfl, HMv⟩
    case round =>
      clear HMv
      obtain ⟨i, D1, hi, rfl, HMv⟩ := hrel
      generalize wr = wq at *
      have m0 := HMv.out.2.1.cell 0
      simp at m0
      by_cases hlt : i < n
      · have hlt' : (i : Int) < (n : Int) := by omega
        have hiD : i < D1.length := by rw [HMv.out.len, Hn.out]; exact hlt
        have hd : D1[i]? = some (D1[i]'hiD) := List.getElem?_eq_getElem hiD
        generalize D1[i]'hiD = d at *
        obtain ⟨g, cap, e, hcap, c1, c2, M2⟩ := HMv.out.setA hd by_
        obtain ⟨rfl, rfl⟩ : da = some ⟨g, 0, none⟩ ∧ dc = cap := by injection e with e1 e2 e3; exact ⟨e1, e3⟩
        have hcap' : n ≤ dc := by have h1 := HMv.out.len; have h2 := Hn.out; omega
        have HMv2 := hide_ M2
        have Hd2 : Hid (∃ d2, (D1.set i { d with a := by_ })[i]? = some d2 ∧ d2.ty.length = d.ty.length) := hide_ ⟨{ d with a := by_ }, List.getElem?_set_self hiD, rfl⟩
        have htl : d.ty.length ≤ 3900000 := z_len HMv.out.2.2.2 (P := fun n => n ≤ 3900000) hty.out d (List.mem_of_getElem? hd)
        obtain ⟨m, hm⟩ : ∃ m, d.ty.length = m := ⟨_, rfl⟩
        rw [hm] at htl Hd2
        clear M2 e hcap hm hd
        obtain ⟨w6, hw6⟩ : ∃ wx, wx = wq.setCell ⟨g, i * 3 + 1, none⟩ (.int .i64 by_) := ⟨_, rfl⟩
        rw [← hw6] at HMv2
        go_upto_region 11 with fail
        rw [← hw6]
        clear hw6 m0 c1 c2
        go_wp2_with fail
        go_loopw [9] (fun x9 wr => ∃ (k : Nat) (D2 : List Df), k ≤ m ∧ x9 = .int .i64 (k : Int) ∧ Hid (MvS w3 wr w4.heap.size (.slice (some ⟨g, 0, none⟩) n dc) D D2 vs) ∧ Hid (∃ d2, D2[i]? = some d2 ∧ d2.ty.length = m)) (fun x9 _ => m - (intOf x9).toNat)
        case atStart => exact ⟨0, _, Nat.zero_le _, rfl, HMv2, Hd2⟩
        case round =>
          clear HMv HMv2 Hd2
          obtain ⟨k, D2, hk, rfl, HMv, Hd2⟩ := hrel
          generalize wr = wv at *
          obtain ⟨d2, hd2, hl2⟩ := Hd2.out
          have m0 := HMv.out.2.1.cell 0
          simp at m0
          obtain ⟨g', cap', gv, cv, e, -, hv, c2⟩ := HMv.out.1.at2 hd2
          obtain rfl : g = g' := by injection e with e1 e2 e3; injection e1 with e1; injection e1
          rw [hl2] at hv c2
          clear e
          by_cases hk2 : k < m
          · have hk3 : (k : Int) < (m : Int) := by omega
            have hy : d2.ty[k]? = some (d2.ty[k]'(by omega)) := List.getElem?_eq_getElem _
            generalize d2.ty[k]'(by omega) = y at *
            obtain ⟨z, hz⟩ : ∃ z, wrap64 (by_ + (k : Int)) = z := ⟨_, rfl⟩
            obtain ⟨g7, c7, e7, hc7, c8, c9, M3⟩ := HMv.out.setN hd2 hv hy z
            obtain ⟨rfl, rfl⟩ : gv = some ⟨g7, 0, none⟩ ∧ cv = c7 := by injection e7 with e1 e2 e3; exact ⟨e1, e3⟩
            have hcv : m ≤ cv := by omega
            have HMv3 := hide_ M3
            have Hd3 : Hid (∃ d3, (D2.set i { d2 with ty := d2.ty.set k { y with a := z } })[i]? = some d3 ∧ d3.ty.length = m) := hide_ ⟨{ d2 with ty := d2.ty.set k { y with a := z } }, List.getElem?_set_self (List.getElem?_eq_some_iff.1 hd2).1, by simpa using hl2⟩
            clear M3 e7 hc7 hd2 hl2 hy hv Hd2
            go_wp2_with fail
            clear m0 c2 c8 c9 hz
            go_roundw
            case rel => exact ⟨k + 1, _, by omega, by go_num, HMv3, Hd3⟩
            case measure => simp [intOf]; omega
          · obtain rfl : k = m := by omega
            have hk3 : ¬ (k : Int) < (k : Int) := by omega
            clear hd2 hl2 hv Hd2
            go_wp2_with fail
            clear m0 c2
            go_roundw
            case rel => exact ⟨i + 1, D2, by omega, by go_num, HMv⟩
            case measure => simp [intOf]; omega
      · obtain rfl : i = n := by omega
        have hlt' : ¬ (i : Int) < (i : Int) := by omega
        have HBl2 : Hid (BlTo D1 T R 0 0) := hide_ (HBl.out.places HMv.out.2.2.2)
        obtain ⟨a1, c1, e1, -, hR1⟩ := HMv.out.1.row
        have hl1 : D1.length = i := by rw [HMv.out.len, Hn.out]
        rw [hl1] at e1
        obtain ⟨rfl, rfl⟩ : da = a1 ∧ dc = c1 := by injection e1 with e1 e2 e3; exact ⟨e1, e3⟩
        have HBu := hide_ (build_any HBl2 da dc wq (hide_ (z_wt HMv.out.2.2.2 hW.out)) (hide_ (z_len HMv.out.2.2.2 (P := fun n => n ≤ 3900000) hty.out)) (hide_ hR1))
        rw [hl1] at HBu
        have HLs := hide_ (HBl.out.lens hty.out)
        have HTl := HLs.out.1
        have HRl := HLs.out.2.1
        clear e1 hR1 hl1
        have HB3q := hide_ HMv.out.2.2.1
        go_upto_region 15 with fail
        go_wp2_with fail
        refine HBu.out.mono ?_; rintro e w6 hbu
        obtain ⟨x2, p2, y2, q2, rfl, HTR, HB6'⟩ := hbu.open
        clear hbu HBu m0 HBl2
        obtain ⟨kx7, kf7, hB7⟩ := sc_boxes w6 x2 y2 T.length p2 R.length q2 0 0
        obtain ⟨w7, hw7⟩ : ∃ wx, wx = (w6.alloc (.cells #[.slice x2 T.length p2, .slice y2 R.length q2] 29)).alloc (.cells #[.int .i64 0, .int .i64 0] 32) := ⟨_, rfl⟩
        rw [← hw7] at kx7 kf7 hB7
        have hB37 : Below w3.heap.size w3 w7 := HB3q.out.trans ((HB6'.out.trans (hB7.mono HB6'.out.size)).mono HB3q.out.size)
        have HSc2 : Hid (ScM w7 w6.heap.size x2 p2 T y2 q2 R) := hide_ ⟨kx7, HTR.out.1.later hB7, HTR.out.2.later hB7⟩
        have HSc1 := hide_ (HSc.out.later hB37)
        have HK7 := hide_ (HK3.out.later hB37)
        have HB7 := hide_ (below_to HB3.out hB37)
        have HF7 := hide_ kf7
        have HB37 := hide_ hB37
        have H36 : Hid (w3.heap.size ≤ w6.heap.size) := hide_ (Nat.le_trans HB3q.out.size HB6'.out.size)
        clear kx7 kf7 hB7 HTR HB6' HB3q hB37 HK3 HMv
        go_upto_region 16 with fail
        rw [← hw7]
        clear hw7
        have f0 := HF7.out.cell 0
        have s0 := HSc1.out.kx.cell 0; have s1 := HSc1.out.kx.cell 1; have t0 := HSc2.out.kx.cell 0; have t1 := HSc2.out.kx.cell 1
        simp at f0 s0 s1 t0 t1
        have HSm := hide_ (same_yes x p y q x2 p2 y2 q2 T R w7 (by omega) (by omega) (hide_ HLs.out.2.2) (hide_ HSc1.out.t) (hide_ HSc1.out.r) (hide_ HSc2.out.t) (hide_ HSc2.out.r))
        go_wp2_with fail
        refine HSm.out.mono ?_; rintro e w8 ⟨rfl, hB8⟩
        have HSc8 := hide_ (HSc1.out.later hB8)
        have HK8 := hide_ (HK7.out.later hB8)
        have HB8 := hide_ (below_to HB7.out hB8)
        have HF8 := hide_ (HF7.out.later hB8)
        have HB38 := hide_ (below_to HB37.out hB8)
        clear hB8 HSm f0 s0 s1 t0 t1 HSc1 HSc2 HK7 HB7 HF7
        have x0 := HK8.out.cell 0
        simp at x0
        have HPr := hide_ (print_any a c i D w8 Hn.out hW.out.lens (hide_ (r.out.later HB8.out)) (hide_ (ht.out.at HB8.out)))
        go_wp2_with fail
        refine HPr.out.mono ?_; rintro e w9 ⟨X, kk, rfl, HX, HB9'⟩
        have HB9 := hide_ (below_to HB8.out HB9'.out)
        have HSc9 := hide_ (HSc8.out.later HB9'.out)
        have HF9 := hide_ (HF8.out.later HB9'.out)
        have HB39 := hide_ (below_to HB38.out HB9'.out)
        clear HPr HB9' HK8 HSc8 HF8 HB8 x0
        by_cases hk : kk = 0
        · subst hk
          obtain ⟨D2, hp, hz, hck⟩ := HX.out.back
          have Hp := hide_ hp
          have Hz := hide_ hz
          clear hp hz hck HX
          go_wp2_with fail
          refine (parse_is Hp.out w9).mono ?_; rintro e wb ⟨a2, c2, vs2, rfl, hc2, HS2, HD2, HBb'⟩
          simp only [Int.natCast_zero]
          obtain ⟨n2, hn2⟩ : ∃ n2, D2.length = n2 := ⟨_, rfl⟩
          have Hn2 := hide_ hn2
          rw [hn2] at hc2 ⊢
          have HDb := hide_ HD2.out.1
          have hbb := below1 wb (.cells #[.slice a2 n2 c2] 24)
          have kpb := Blk.newA wb #[.slice a2 n2 c2] 24
          have kf1 := (HF9.out.later HBb'.out).later hbb
          have z0 : (wb.alloc (.cells #[.slice a2 n2 c2] 24)).cell? ⟨w6.heap.size + 1, 0, none⟩ = some (.int .i64 0) := kf1.cell 0
          have z1 : (wb.alloc (.cells #[.slice a2 n2 c2] 24)).cell? ⟨w6.heap.size + 1, 1, none⟩ = some (.int .i64 0) := kf1.cell 1
          have z2 := fun i => kf1.frozen i
          have h69 : w6.heap.size + 1 < w9.heap.size := HF9.out.lt
          have h96 : w9.heap.size ≤ wb.heap.size := HBb'.out.size
          obtain ⟨wc, hwc⟩ : ∃ wx, wx = wb.alloc (.cells #[.slice a2 n2 c2] 24) := ⟨_, rfl⟩
          rw [← hwc] at hbb kpb kf1
          obtain ⟨wd, hwd⟩ : ∃ wx, wx = (wc.setCell ⟨w6.heap.size + 1, 0, none⟩ (.int .i64 0)).setCell ⟨w6.heap.size + 1, 1, none⟩ (.int .i64 0) := ⟨_, rfl⟩
          have ud : Upd (fun k => k = w6.heap.size + 1) wc wd := by rw [hwd]; exact ((Upd.refl (fun k => k = w6.heap.size + 1) _).set _ _ (.inl rfl)).set _ _ (.inl rfl)
          have HFd : Hid (Blk wd (w6.heap.size + 1) 32 [.int .i64 0, .int .i64 0]) := hide_ (by rw [hwd]; have := (kf1.set 0 (.int .i64 0)).set 1 (.int .i64 0); simpa using this)
          have HPd := hide_ (kpb.upd ud (by omega))
          have hDd : DRow wd a2 D2 := by
            have h1 := (HS2.out.later hbb).other ud kf1 (by decide) (by decide)
            obtain ⟨a3, c3, e3, -, h3⟩ := h1.row
            obtain rfl : a2 = a3 := by injection e3
            exact h3
          have hB3d : Below w3.heap.size w3 wd := by
            have h1 := below_to (below_to HB39.out HBb'.out) hbb
            have h2 := H36.out
            exact h1.trans (ud.below _ h1.size (fun k e => by omega))
          have HScd := hide_ (HSc.out.later hB3d)
          have HBd := hide_ (below_to HB3.out hB3d)
          clear hn2 HS2 HD2 hbb kpb kf1 ud hB3d
          go_upto_region 22 with fail
          rw [← hwc, ← hwd]
          clear hwc hwd z0 z1 z2
          have HBl3 : Hid (BlTo D2 T R 0 0) := hide_ (HBl.out.places Hz.out)
          have HBu := hide_ (build_any HBl3 a2 c2 wd (hide_ (z_wt Hz.out hW.out)) (hide_ (z_len Hz.out (P := fun n => n ≤ 3900000) hty.out)) (hide_ hDd))
          rw [Hn2.out] at HBu
          have x0 := HPd.out.cell 0
          simp at x0
          go_wp2_with fail
          refine HBu.out.mono ?_; rintro e we hbu
          obtain ⟨x3, p3, y3, q3, rfl, HTR, HBe'⟩ := hbu.open
          obtain ⟨kxf, kff, hBf⟩ := sc_boxes we x3 y3 T.length p3 R.length q3 0 0
          obtain ⟨wf, hwf⟩ : ∃ wx, wx = (we.alloc (.cells #[.slice x3 T.length p3, .slice y3 R.length q3] 29)).alloc (.cells #[.int .i64 0, .int .i64 0] 32) := ⟨_, rfl⟩
          rw [← hwf] at kxf kff hBf
          have hBdf := below_to HBe'.out hBf
          have HSc2 : Hid (ScM wf we.heap.size x3 p3 T y3 q3 R) := hide_ ⟨kxf, HTR.out.1.later hBf, HTR.out.2.later hBf⟩
          have HSc1 := hide_ (HScd.out.later hBdf)
          have HBf := hide_ (below_to HBd.out hBdf)
          have HFf := hide_ (HFd.out.later hBdf)
          have HFg := hide_ kff
          clear hbu HBu x0 HTR HBe' kxf kff hBf hBdf HScd HBd HFd HPd HBl3
          go_upto_region 23 with fail
          rw [← hwf]
          clear hwf
          have f0 := HFf.out.cell 0; have f1 := HFg.out.cell 0
          have s0 := HSc1.out.kx.cell 0; have s1 := HSc1.out.kx.cell 1; have t0 := HSc2.out.kx.cell 0; have t1 := HSc2.out.kx.cell 1
          simp at f0 f1 s0 s1 t0 t1
          have HSm := hide_ (same_yes x p y q x3 p3 y3 q3 T R wf (by omega) (by omega) (hide_ HLs.out.2.2) (hide_ HSc1.out.t) (hide_ HSc1.out.r) (hide_ HSc2.out.t) (hide_ HSc2.out.r))
          go_wp2_with fail
          refine HSm.out.mono ?_; rintro e wg ⟨rfl, hBg⟩
          have HBg := hide_ (below_to HBf.out hBg)
          clear hBg
          go_wp2
          go_ret
          exact ⟨rfl, HBg.out⟩
        · go_wp2
          go_ret
          exact ⟨rfl, HB9.out⟩
  · go_wp2
    go_ret
    exact ⟨rfl, HB3.out⟩
end Go.Proofs.YtbgjgbddpcofcaaGreatDoor
