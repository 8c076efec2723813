import Derived.Test.YtafljgjkcnbhbaaDoorPart22
import Derived.Test.YtafljgjkcnbhbaaDoorPart17
import Derived.Test.YtafljgjkcnbhbaaDoorPart21
import Derived.Test.YtafljgjkcnbhbaaDoorPart20
import Derived.Test.YtafljgjkcnbhbaaDoorPart18

/- ShowExact: the walk. -/
namespace Go.Proofs.YtafljgjkcnbhbaaDoor
open Go.RowKit
set_option linter.unusedVariables false

theorem PrT.det {D : List Df} {X X' : ByteArray} {k k' : Int} (h : PrT D X k) (h' : PrT D X' k') : X = X' ∧ k = k' := by
  rcases h with ⟨h1, h2, h3⟩ | ⟨h1, P, h2, h3⟩
  · rcases h' with ⟨g1, g2, g3⟩ | ⟨g1, _⟩
    · exact ⟨by rw [h2, g2], by rw [h3, g3]⟩
    · exact absurd g1 h1
  · rcases h' with ⟨g1, _⟩ | ⟨g1, P', g2, g3⟩
    · exact absurd h1 g1
    · have e := wds_det _ _ _ _ h2 g2 rfl
      subst e
      rcases h3 with ⟨a1, a2, a3⟩ | ⟨a1, a2, a3⟩ <;> rcases g3 with ⟨b1, b2, b3⟩ | ⟨b1, b2, b3⟩
      · exact ⟨by rw [a2, b2], by rw [a3, b3]⟩
      · omega
      · omega
      · exact ⟨by rw [a2, b2], by rw [a3, b3]⟩
/-- A source of the call's own with its marks, and its copy; each in a box. -/
structure Two (w : World) (B g : Nat) (D : List Df) (ai : Option Addr) (ci : Nat) (vsi : List Value) (ak : Option Addr) (ck : Nat) : Prop where
  bi : Blk w g 24 [.slice ai D.length ci]
  bk : Blk w (g + 1) 24 [.slice ak D.length ck]
  src : Src w B (.slice ai D.length ci) D vsi
  mx : MkX w D vsi
  ri : DRow w ai D
  rk : DRow w ak D
theorem Two.later {w w' : World} {B g : Nat} {D : List Df} {ai : Option Addr} {ci : Nat} {vsi : List Value} {ak : Option Addr} {ck : Nat} (h : Two w B g D ai ci vsi ak ck) (hB : Below w.heap.size w w') : Two w' B g D ai ci vsi ak ck :=
  ⟨h.bi.later hB, h.bk.later hB, h.src.later hB, h.mx.keep (fun b ys hb => hb.later hB), h.ri.later hB, h.rk.later hB⟩
theorem MkW.at {w w' : World} (h : MkW w) (hB : Below w.heap.size w w') : MkW w' := ⟨Nat.lt_of_lt_of_le h.1 hB.size, fun j hj => (hB.cell (p := ⟨0, j, none⟩) h.1).trans (h.2 j hj)⟩
theorem two_of {w w2 : World} {D : List Df} {vdi vdk : Value} {vsi vsk : List Value} (hi : Src w2 w.heap.size vdi D vsi) (hk : Src w2 w.heap.size vdk D vsk) (hm : MkX w2 D vsi) : ∃ ai ci ak ck, vdi = .slice ai D.length ci ∧ vdk = .slice ak D.length ck ∧
    Two ((w2.alloc (.cells #[.slice ai D.length ci] 24)).alloc (.cells #[.slice ak D.length ck] 24)) w.heap.size w2.heap.size D ai ci vsi ak ck := by
  obtain ⟨ai, ci, rfl, -, ri⟩ := hi.row
  obtain ⟨ak, ck, rfl, -, rk⟩ := hk.row
  obtain ⟨k1, k2⟩ := blk2 w2 #[.slice ai D.length ci] #[.slice ak D.length ck] 24
  have hB := below2 w2 (.cells #[.slice ai D.length ci] 24) (.cells #[.slice ak D.length ck] 24)
  exact ⟨ai, ci, ak, ck, rfl, rfl, k1, k2, hi.later hB, hm.keep (fun b ys hb => hb.later hB), ri.later hB, rk.later hB⟩
set_option maxRecDepth 100000 in
set_option maxHeartbeats 16000000 in
theorem showExact_any (a1 a2 : Option Addr) (c1 c2 : Nat) (D E : List Df) (w : World) (hD : Hid (Wt D)) (hE : Hid (Wt E)) (r1 : Hid (DRow w a1 D)) (r2 : Hid (DRow w a2 E)) (ht : Hid (Tab w.heap.size w)) (hm : Hid (MkW w)) :
    Calls Tryd.prog 3 #[.agg #[.slice a1 D.length c1], .agg #[.slice a2 E.length c2]] w fun e w' => e = .returned (.bool true) ∧ Below w.heap.size w w' := by
  have HLD := hide_ (Wt.lens hD.out)
  have HLE := hide_ (Wt.lens hE.out)
  obtain ⟨k1, k2⟩ := blk2 w #[.slice a1 D.length c1] #[.slice a2 E.length c2] 24
  have hB0 := below2 w (.cells #[.slice a1 D.length c1] 24) (.cells #[.slice a2 E.length c2] 24)
  obtain ⟨wA, hwA⟩ : ∃ wA, wA = (w.alloc (.cells #[.slice a1 D.length c1] 24)).alloc (.cells #[.slice a2 E.length c2] 24) := ⟨_, rfl⟩
  rw [← hwA] at k1 k2 hB0
  have HK1 := hide_ k1
  have HK2 := hide_ k2
  have HB0 := hide_ hB0
  have HAw := hide_ (awake_any wA (hide_ (ht.out.at hB0)))
  clear k1 k2 hB0
  go_enter Tryd.func3, Tryd.ntmps3
  go_upto_region 1 with fail
  rw [← hwA]
  clear hwA
  go_wp2_with fail
  refine HAw.out.mono ?_; rintro e w1 ⟨rfl, hB1⟩
  have HB1 := hide_ (below_to HB0.out hB1)
  have HK1' := hide_ (HK1.out.later hB1)
  have HK2' := hide_ (HK2.out.later hB1)
  clear hB1 HAw HK1 HK2 HB0
  have x0 := HK1'.out.cell 0
  simp at x0
  go_wp2_with fail
  refine (copied2_any a1 c1 D.length D w1 rfl hD (hide_ (r1.out.later HB1.out)) (hide_ (hm.out.at HB1.out))).mono ?_; rintro e w2 ⟨vdi, vsi, vdk, vsk, rfl, HSi, HSk, HB2, -, HMx⟩
  obtain ⟨ai, ci, ak, ck, rfl, rfl, hTw⟩ := two_of HSi.out HSk.out HMx.out
  obtain ⟨w3, hw3⟩ : ∃ wx, wx = (w2.alloc (.cells #[.slice ai D.length ci] 24)).alloc (.cells #[.slice ak D.length ck] 24) := ⟨_, rfl⟩
  rw [← hw3] at hTw
  have hB3 : Below w2.heap.size w2 w3 := by rw [hw3]; exact below2 w2 _ _
  have HB23 := hide_ (below_to HB2.out hB3)
  have HB3 := hide_ (below_to HB1.out HB23.out)
  have HT1 := hide_ hTw
  have HK2 := hide_ (HK2'.out.later HB23.out)
  clear hTw hB3 HSi HSk HMx HK1' HK2' x0 HB2 HB23
  go_upto_region 4 with fail
  rw [← hw3]
  clear hw3
  have x0 := HK2.out.cell 0
  simp at x0
  go_wp2_with fail
  refine (copied2_any a2 c2 E.length E w3 rfl hE (hide_ (r2.out.later HB3.out)) (hide_ (hm.out.at HB3.out))).mono ?_; rintro e w4 ⟨vdi, vsj, vdk, vsk, rfl, HSi, HSk, HB4, -, HMx⟩
  obtain ⟨ao, co, av, cs, rfl, rfl, hTw⟩ := two_of HSi.out HSk.out HMx.out
  obtain ⟨w5, hw5⟩ : ∃ wx, wx = (w4.alloc (.cells #[.slice ao E.length co] 24)).alloc (.cells #[.slice av E.length cs] 24) := ⟨_, rfl⟩
  rw [← hw5] at hTw
  have hB5 : Below w4.heap.size w4 w5 := by rw [hw5]; exact below2 w4 _ _
  have HB45 := hide_ (below_to HB4.out hB5)
  have HB5 := hide_ (below_to HB3.out HB45.out)
  have HT2 := hide_ hTw
  have HTT := hide_ (HT1.out.later HB45.out)
  clear hTw hB5 HSi HSk HMx HK2 x0 HB4 HB45 HT1 HB3
  go_upto_region 5 with fail
  rw [← hw5]
  clear hw5
  have HTb := hide_ (ht.out.at HB5.out)
  have HMk := hide_ (hm.out.at HB5.out)
  generalize w2.heap.size = g1 at *
  generalize w4.heap.size = g2 at *
  clear ht hm r1 r2 HB1
  -- Print of what is handed in
  have x0 := HTT.out.bi.cell 0
  simp at x0
  go_wp2_with fail
  refine (print_any ai ci D.length D w5 rfl HLD.out (hide_ HTT.out.ri) HTb).mono ?_; rintro e w6 ⟨X, kx, rfl, HX, HB6⟩
  have HC6 := HB6
  clear x0 HB6
  have x0 := (HTT.out.later HC6.out).bi.cell 0
  have x1 := (HT2.out.later HC6.out).bi.cell 0
  simp at x0 x1
  go_wp2_with fail
  refine (showSame_any ai ao ci co D E w6 HLD.out HLE.out (hide_ (HTT.out.later HC6.out).ri) (hide_ (HT2.out.later HC6.out).ri)).mono ?_; rintro e w7 ⟨v1, rfl, HV1, HB7⟩
  have HC7 := hide_ (below_to HC6.out HB7.out)
  clear x0 x1 HB7 HC6
  have x0 := (HTT.out.later HC7.out).bi.cell 0
  have x1 := (HT2.out.later HC7.out).bi.cell 0
  simp at x0 x1
  go_wp2_with fail
  refine (showSame_any ao ai co ci E D w7 HLE.out HLD.out (hide_ (HT2.out.later HC7.out).ri) (hide_ (HTT.out.later HC7.out).ri)).mono ?_; rintro e w8 ⟨v2, rfl, HV2, HB8⟩
  have HC8 := hide_ (below_to HC7.out HB8.out)
  clear x0 x1 HB8 HC7
  have x0 := (HTT.out.later HC8.out).bi.cell 0
  simp at x0
  go_wp2_with fail
  refine (showSame_any ai ai ci ci D D w8 HLD.out HLD.out (hide_ (HTT.out.later HC8.out).ri) (hide_ (HTT.out.later HC8.out).ri)).mono ?_; rintro e w9 ⟨v3, rfl, HV3, HB9⟩
  obtain rfl : v3 = true := HV3.out.2 rfl
  have HC9 := hide_ (below_to HC8.out HB9.out)
  clear x0 HB9 HC8 HV3
  have x0 := (HTT.out.later HC9.out).bk.cell 0
  simp at x0
  go_wp2_with fail
  refine (printD_any ak ck D w9 hD (hide_ (HTT.out.later HC9.out).rk) (hide_ (HTb.out.at HC9.out))).mono ?_; rintro e w10 ⟨X', kx', rfl, HX', HB10⟩
  obtain ⟨rfl, rfl⟩ := HX.out.det HX'.out
  have HC10 := hide_ (below_to HC9.out HB10.out)
  clear x0 HB10 HC9 HX HX'
  have x0 := (HTT.out.later HC10.out).bk.cell 0
  have x1 := (HT2.out.later HC10.out).bk.cell 0
  simp at x0 x1
  go_wp2_with fail
  refine (sameDd_any ak av ck cs D E w10 HLD HLE (hide_ (HTT.out.later HC10.out).rk) (hide_ (HT2.out.later HC10.out).rk)).mono ?_; rintro e w11 ⟨v4, rfl, HV4, HB11⟩
  have e1 : v1 = v4 := Bool.eq_iff_iff.2 (HV1.out.trans HV4.out.symm)
  have e2 : v2 = v4 := Bool.eq_iff_iff.2 (HV2.out.trans (Iff.trans ⟨Eq.symm, Eq.symm⟩ HV4.out.symm))
  subst e1 e2
  have HC11 := hide_ (below_to HC10.out HB11.out)
  clear x0 x1 HB11 HC10 HV1 HV2 HV4
  have HT1 := hide_ (HTT.out.later HC11.out)
  have HT2 := hide_ (HT2.out.later HC11.out)
  have HMk := hide_ (HMk.out.at HC11.out)
  have HB11 := hide_ (below_to HB5.out HC11.out)
  clear HTT HC11 HTb HB5
  have x0 := HT1.out.bi.cell 0
  have x1 := HT1.out.bk.cell 0
  simp at x0 x1
  go_wp2_with fail
  refine (kept7_any _ vsi w1.heap.size ak ck D w11 hD (hide_ HT1.out.src) (hide_ HT1.out.mx) (hide_ HT1.out.rk) HMk).mono ?_; rintro e w12 ⟨rfl, hB12⟩
  have HT3 := hide_ (HT2.out.later hB12)
  have HMk2 := hide_ (HMk.out.at hB12)
  have HB12 := hide_ (below_to HB11.out hB12)
  clear hB12 x0 x1 HT1 HT2 HMk HB11
  have x0 := HT3.out.bi.cell 0
  have x1 := HT3.out.bk.cell 0
  simp at x0 x1
  go_wp2_with fail
  refine (kept7_any _ vsj w3.heap.size av cs E w12 hE (hide_ HT3.out.src) (hide_ HT3.out.mx) (hide_ HT3.out.rk) HMk2).mono ?_; rintro e w13 ⟨rfl, hB13⟩
  have HB13 := hide_ (below_to HB12.out hB13)
  clear hB13 x0 x1 HT3 HMk2 HB12
  go_wp2
  go_ret
  exact ⟨rfl, HB13.out⟩
end Go.Proofs.YtafljgjkcnbhbaaDoor
