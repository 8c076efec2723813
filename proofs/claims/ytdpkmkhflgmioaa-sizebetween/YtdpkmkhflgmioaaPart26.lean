import Derived.Test.YtdpkmkhflgmioaaPart24
import Derived.Test.YtdpkmkhflgmioaaPart21
import Derived.Test.YtdpkmkhflgmioaaPart18
import Derived.Test.YtdpkmkhflgmioaaPart22

/- The document's Lengths, Check; the law's lengths: they answer as size.Lengths does. -/
namespace Go.Proofs.Ytdpkmkhflgmioaa
open Go.RowKit
set_option linter.unusedVariables false

theorem makeZ (n : Nat) (hn : n ≤ 1000000000) (w : World) : (Instr.makeSlice 26 (.int .i64 (n : Int)) (.int .i64 (n : Int))).run Try.prog w = .ok (.slice (some ⟨w.heap.size, 0, none⟩) n n) (w.alloc (.cells (madeCells #[.int .i64 0] n) 3)) := by
  obtain ⟨i0, hi, hz0, hz1, hz2⟩ := info_parts elI.info
  have hb : (i0.bytes : Int) * (n : Int) ≤ 281474976710656 := by rw [hz2]; omega
  have hr := run_make (P := Try.prog) w 26 3 i0 (.int .i64 0) Try.underlying26 hi hz0 .i64 .i64 n n (by omega) (Int.le_refl _) hb (by omega)
  rw [Int.toNat_natCast, hz1, Nat.mul_one] at hr
  exact hr
theorem madeZ0 (n : Nat) : (madeCells #[.int .i64 0] n).toList = cellsL .i64 (List.replicate n 0) := by
  apply List.ext_getElem?
  intro i
  by_cases h : i < n <;> simp [madeCells, cellsL, Nat.mod_one, h]
theorem ownZ (w : World) (n : Nat) (hn : n ≤ 1000000000) : IOwn (w.alloc (.cells (madeCells #[.int .i64 0] n) 3)) w.heap.size (.slice (some ⟨w.heap.size, 0, none⟩) n n) (List.replicate n 0) := by
  have h := ownS_of_blk (c := 1) (n := n) (cap := n) (Blk.newA w (madeCells #[.int .i64 0] n) 3) (Nat.le_refl _) (by simp [size_madeCells]) (Nat.le_refl _) (by unfold maxLen; omega)
  unfold IOwn
  rw [List.length_replicate]
  rw [madeZ0] at h
  rw [show (cellsL .i64 (List.replicate n 0)).take (n * 1) = cellsL .i64 (List.replicate n 0) by rw [List.take_of_length_le]; simp [cellsL]] at h
  exact h
set_option maxRecDepth 100000 in
set_option maxHeartbeats 8000000 in
theorem rlengths_any (bT oT cT : Nat) (T : List Ty) (aR : Option Addr) (cR : Nat) (R : List Rt) (t : Int) (bV oV cV : Nat) (V : List Nv) (w : World) (hn : T.length ≤ 1000000000) (hm : R.length ≤ 10000000000000) (hV : V.length ≤ 2000000) (h0 : 0 ≤ t) (h1 : t < T.length) (hL : Hid (LensT T)) (hS : Hid (OkS T R)) (hT : Hid (TRow w (some ⟨bT, oT, none⟩) T)) (hRr : Hid (RRow w aR R)) (hVr : Hid (VRow w (some ⟨bV, oV, none⟩) V)) (hNv : Hid (∀ x ∈ V, NvOk x)) (hty : Hid ((tyV T R t V).2.1 = 0)) :
    Calls Try.prog 35 #[.agg #[.slice (some ⟨bT, oT, none⟩) T.length cT, .slice aR R.length cR], .int .i64 t, .slice (some ⟨bV, oV, none⟩) V.length cV] w fun e w' => ∃ v, e = .returned v ∧ Hid (IOwn w' w.heap.size v (lenP T R t V).2) ∧ Hid (Below w.heap.size w w') := by
  obtain ⟨⟨rn, rl⟩, hnx, hrl, hlen, hV0⟩ := len_good hS.out hNv.out h0 h1 hty.out
  obtain ⟨num, rfl⟩ := Int.eq_ofNat_of_zero_le h0
  rw [Int.toNat_natCast] at hnx
  have hnum : num < T.length := by omega
  rw [hlen]
  simp only at hrl ⊢
  have hB := below1 w (.cells #[.slice (some ⟨bT, oT, none⟩) T.length cT, .slice aR R.length cR] 25)
  have k1 := Blk.newA w #[.slice (some ⟨bT, oT, none⟩) T.length cT, .slice aR R.length cR] 25
  obtain ⟨w0, hw0⟩ : ∃ wx, wx = w.alloc (.cells #[.slice (some ⟨bT, oT, none⟩) T.length cT, .slice aR R.length cR] 25) := ⟨_, rfl⟩
  rw [← hw0] at hB k1
  have HB0 := hide_ hB
  have K1 := hide_ k1
  have i0 := k1.cell 0; have i1 := k1.cell 1
  simp at i0 i1
  have HCo := hide_ (ofR_any (some ⟨bT, oT, none⟩) cT T aR cR R w0 (by omega) hm hL (hide_ (hT.out.later hB)) (hide_ (hRr.out.later hB)))
  have HNx := hide_ hnx
  have HRl := hide_ hrl
  clear hB k1 hnx hrl hlen
  go_enter Try.func35, Try.ntmps35
  go_upto_region 1 with fail
  rw [← hw0]
  clear hw0
  go_wp2_with fail
  refine HCo.out.mono ?_
  rintro e w1 (⟨hne, -, -⟩ | ⟨-, vX, rfl, hX1, hB1⟩)
  · exact absurd hne (by rw [hS.out.chk]; simp)
  obtain ⟨aX, cX, hvX, -, -, hXr⟩ := hX1.row
  subst hvX
  obtain ⟨bX, oX, rfl, -, -⟩ := hXr.open (by rw [extL_len]; omega)
  have K1b := hide_ (K1.out.later hB1)
  have HB1 := hide_ (below_to HB0.out hB1)
  have HXr := hide_ hXr
  have l0 := K1b.out.cell 0; have l1 := K1b.out.cell 1
  simp at l0 l1
  have hxl : (extL T).length = T.length := extL_len T
  rw [hxl]
  have hmk := makeZ V.length (by omega)
  have hBm := below1 w1 (.cells (madeCells #[.int .i64 0] V.length) 3)
  have hOm := ownZ w1 V.length (by omega)
  obtain ⟨w2, hw2⟩ : ∃ wx, wx = w1.alloc (.cells (madeCells #[.int .i64 0] V.length) 3) := ⟨_, rfl⟩
  have hz2 : w2.heap.size = w1.heap.size + 1 := by rw [hw2]; simp
  rw [← hw2] at hBm hOm
  have kw := Blk.newA w2 #[.slice (some ⟨bT, oT, none⟩) T.length cT, .slice aR R.length cR, .slice (some ⟨bX, oX, none⟩) T.length cX, .slice (some ⟨bV, oV, none⟩) V.length cV, .slice (some ⟨w1.heap.size, 0, none⟩) V.length V.length] 109
  have hBw := below1 w2 (.cells #[.slice (some ⟨bT, oT, none⟩) T.length cT, .slice aR R.length cR, .slice (some ⟨bX, oX, none⟩) T.length cX, .slice (some ⟨bV, oV, none⟩) V.length cV, .slice (some ⟨w1.heap.size, 0, none⟩) V.length V.length] 109)
  obtain ⟨w3, hw3⟩ : ∃ wx, wx = w2.alloc (.cells #[.slice (some ⟨bT, oT, none⟩) T.length cT, .slice aR R.length cR, .slice (some ⟨bX, oX, none⟩) T.length cX, .slice (some ⟨bV, oV, none⟩) V.length cV, .slice (some ⟨w1.heap.size, 0, none⟩) V.length V.length] 109) := ⟨_, rfl⟩
  rw [← hw3] at kw hBw
  obtain ⟨gw, hgw⟩ : ∃ g, w1.heap.size + 1 = g := ⟨_, rfl⟩
  rw [hz2, hgw] at kw
  have HGw := hide_ hgw
  have HB3 := hide_ (below_to hBm hBw)
  have HW3 := hide_ hw3
  have HW2 := hide_ hw2
  have HO3 := hide_ (hOm.later hBw)
  have KW3 := hide_ kw
  have HT1 := hide_ (hT.out.later HB1.out)
  have HV1 := hide_ (hVr.out.later HB1.out)
  obtain ⟨tl, htl⟩ := nxP_tail _ _ _ _ HNx.out
  simp only [List.nil_append] at htl
  have HTl := hide_ htl
  have HCw : Hid (∀ w4, Below w3.heap.size w3 w4 → Calls Try.prog 61 #[.pointer (some ⟨gw, 0, none⟩), .int .i64 (num : Int), .int .i64 ((0 : Nat) : Int)] w4 fun e w' => WlTo rn 0 (0 + tl.length) (List.replicate V.length 0) tl w1.heap.size V.length V.length w1.heap.size w4 e w') := hide_ (fun w4 h4 => by
    have h := wlen_any w1 bT oT cT T aR cR R bX oX cX (extL T) bV oV cV V gw w1.heap.size V.length hV hS (hide_ (extL_len T)) hNv HT1 HXr HV1 T.length num w4 (List.replicate V.length 0) [] rn tl 0 hnum (hide_ (by rw [HNx.out, HTl.out]; rfl)) (hide_ rfl) (hide_ (by simp)) (hide_ (HB3.out.trans (h4.mono HB3.out.size))) (hide_ (KW3.out.later h4)) (hide_ (HO3.out.later h4))
    exact h)
  clear hX1 hB1 hXr hBm hOm kw hBw htl hgw hxl hw2 hw3 HCo
  go_upto_region 2 with fail
  go_cut [9] from 15 to 22 (fun x9 wc => ∃ w4, w4 = wc ∧ x9 = .pointer (some ⟨gw, 0, none⟩) ∧ Hid (Below w3.heap.size w3 w4))
  case first =>
    have hgw := HGw.out
    have hBm := below1 w1 (.cells (madeCells #[.int .i64 0] V.length) 3)
    have m0 := (K1b.out.later hBm).cell 0; have m1 := (K1b.out.later hBm).cell 1
    simp at m0 m1
    clear hBm
    go_wp2_with fail
    go_region
    all_goals
      go_wp2
      go_meet
      case rel => exact ⟨_, rfl, rfl, hide_ (by rw [HW3.out, HW2.out]; exact (Below.refl _ _).drew)⟩
  case rest =>
  obtain ⟨w4, rfl, rfl, HB4⟩ := hcut
  go_wp2_with fail
  refine (HCw.out w4 HB4.out).mono ?_
  rintro e w5 ⟨rfl, HO5, HU5⟩
  have HU35 : Hid (Upd (fun k => k = w1.heap.size) w3 w5) := hide_ (Upd.trans (Upd.of_below HB4.out) HU5.out (fun _ _ h => h))
  have KW5 := hide_ (KW3.out.upd HU35.out (fun e => HO3.out.ne KW3.out (by decide) (by rw [e]; rfl)))
  have HB5 : Hid (Below w.heap.size w w5) := hide_ ((HB1.out.trans (HB3.out.mono HB1.out.size)).trans (HU35.out.below _ (Nat.le_trans HB1.out.size HB3.out.size) (fun k hk => by rw [hk]; exact HB1.out.size)))
  have HOf : Hid (IOwn w5 w.heap.size (.slice (some ⟨w1.heap.size, 0, none⟩) V.length V.length) rl) := hide_ (by
    have h := HO5.out
    rw [show spl (List.replicate V.length 0) 0 tl = rl by
      rw [HTl.out]
      unfold spl
      rw [List.take_zero, List.nil_append, List.drop_of_length_le (by have := HRl.out; rw [HTl.out] at this; simp; omega), List.append_nil]] at h
    exact own_base h HB1.out.size)
  have v4 := KW5.out.cell 4
  simp at v4
  go_wp2
  go_ret
  exact ⟨_, rfl, HOf, HB5⟩
set_option maxRecDepth 100000 in
set_option maxHeartbeats 8000000 in
theorem check10_any (aT : Option Addr) (cT : Nat) (T : List Ty) (aR : Option Addr) (cR : Nat) (R : List Rt) (t : Int) (aV : Option Addr) (cV : Nat) (V : List Nv) (w : World) (hn : T.length ≤ 1000000000) (hm : R.length ≤ 10000000000000) (hV : V.length ≤ 2000000) (hL : Hid (LensT T)) (hT : Hid (TRow w aT T)) (hRr : Hid (RRow w aR R)) (hVr : Hid (VRow w aV V)) (hNv : Hid (∀ x ∈ V, NvOk x)) :
    Calls Try.prog 34 #[.agg #[.slice aT T.length cT, .slice aR R.length cR], .int .i64 t, .slice aV V.length cV] w fun e w' => e = .returned (.agg #[.int .i64 (tyV T R t V).2.1, .int .i64 (tyV T R t V).2.2]) ∧ Below w.heap.size w w' := by
  have hB := below2 w (.cells #[.slice aT T.length cT, .slice aR R.length cR] 25) (.cells #[.int .i64 0, .int .i64 0] 34)
  obtain ⟨k1, k2⟩ := blk2 w #[.slice aT T.length cT, .slice aR R.length cR] #[.int .i64 0, .int .i64 0] 25 34
  obtain ⟨w0, hw0⟩ : ∃ wx, wx = (w.alloc (.cells #[.slice aT T.length cT, .slice aR R.length cR] 25)).alloc (.cells #[.int .i64 0, .int .i64 0] 34) := ⟨_, rfl⟩
  rw [← hw0] at hB k1 k2
  have HB0 := hide_ hB
  have K2 := hide_ k2
  have i0 := k1.cell 0; have i1 := k1.cell 1
  simp at i0 i1
  have HC := hide_ (typesR_any aT cT T aR cR R t aV cV V w0 hn hm hV hL (hide_ (hT.out.later hB)) (hide_ (hRr.out.later hB)) (hide_ (hVr.out.later hB)) hNv)
  obtain ⟨A, hA⟩ : ∃ A, tyV T R t V = A := ⟨_, rfl⟩
  rw [hA] at HC ⊢
  obtain ⟨l, E, F⟩ := A
  clear hA hB k1 k2
  go_enter Try.func34, Try.ntmps34
  go_upto_region 1 with fail
  rw [← hw0]
  clear hw0
  go_wp2_with fail
  refine HC.out.mono ?_
  rintro e w1 ⟨v, rfl, HO, HB1⟩
  have K2b := hide_ (K2.out.later HB1.out)
  have k3 := Blk.newA w1 #[.int .i64 E, .int .i64 F] 34
  have hB3 := below1 w1 (.cells #[.int .i64 E, .int .i64 F] 34)
  obtain ⟨w2, hw2⟩ : ∃ wx, wx = w1.alloc (.cells #[.int .i64 E, .int .i64 F] 34) := ⟨_, rfl⟩
  rw [← hw2] at k3 hB3
  have K2c := hide_ (K2b.out.later hB3)
  have l0 := k3.cell 0; have l1 := k3.cell 1
  have n0 := K2c.out.cell 0; have n1 := K2c.out.cell 1
  have nf := fun i => K2c.out.frozen i
  simp at l0 l1 n0 n1
  have HKz := hide_ (wr2 K2c.out (.int .i64 E) (.int .i64 F))
  have HBz := hide_ (below_set (below_set (below_to (below_to HB0.out HB1.out) hB3) (w.heap.size + 1) 0 (.int .i64 E) (by omega)) (w.heap.size + 1) 1 (.int .i64 F) (by omega))
  clear i0 i1 k3 hB3
  go_upto_region 2 with fail
  rw [← hw2]
  clear hw2
  go_wp2
  exact retF rfl rfl HKz.out ⟨rfl, HBz.out⟩
set_option maxRecDepth 100000 in
set_option maxHeartbeats 8000000 in
theorem llen_any (aT : Option Addr) (cT : Nat) (T : List Ty) (aR : Option Addr) (cR : Nat) (R : List Rt) (t : Int) (aV : Option Addr) (cV : Nat) (V : List Nv) (w : World) (hn : T.length ≤ 1000000000) (hm : R.length ≤ 10000000000000) (hV : V.length ≤ 2000000) (hL : Hid (LensT T)) (hT : Hid (TRow w aT T)) (hRr : Hid (RRow w aR R)) (hVr : Hid (VRow w aV V)) (hNv : Hid (∀ x ∈ V, NvOk x)) :
    Calls Try.prog 17 #[.agg #[.slice aT T.length cT, .slice aR R.length cR], .int .i64 t, .slice aV V.length cV] w fun e w' => LenTo (lenP T R t V) w e w' := by
  have hB := below1 w (.cells #[.slice aT T.length cT, .slice aR R.length cR] 25)
  have k1 := Blk.newA w #[.slice aT T.length cT, .slice aR R.length cR] 25
  obtain ⟨w0, hw0⟩ : ∃ wx, wx = w.alloc (.cells #[.slice aT T.length cT, .slice aR R.length cR] 25) := ⟨_, rfl⟩
  rw [← hw0] at hB k1
  have HB0 := hide_ hB
  have K1 := hide_ k1
  have i0 := k1.cell 0; have i1 := k1.cell 1
  simp at i0 i1
  have HC := hide_ (check10_any aT cT T aR cR R t aV cV V w0 hn hm hV hL (hide_ (hT.out.later hB)) (hide_ (hRr.out.later hB)) (hide_ (hVr.out.later hB)) hNv)
  obtain ⟨A, hA⟩ : ∃ A, tyV T R t V = A := ⟨_, rfl⟩
  rw [hA] at HC
  have HA := hide_ hA
  obtain ⟨l, E, F⟩ := A
  clear hA hB k1
  obtain ⟨res, hres⟩ : ∃ res, lenP T R t V = res := ⟨_, rfl⟩
  rw [hres]
  have HRes := hide_ hres
  clear hres
  go_enter Try.func17, Try.ntmps17
  go_upto_region 1 with fail
  rw [← hw0]
  clear hw0
  go_wp2_with fail
  refine HC.out.mono ?_
  rintro e w1 ⟨rfl, hB1⟩
  have HB1 := hide_ (below_to HB0.out hB1)
  have k3 := Blk.newA w1 #[.int .i64 E, .int .i64 F] 34
  have hB3 := below1 w1 (.cells #[.int .i64 E, .int .i64 F] 34)
  obtain ⟨w2, hw2⟩ : ∃ wx, wx = w1.alloc (.cells #[.int .i64 E, .int .i64 F] 34) := ⟨_, rfl⟩
  rw [← hw2] at k3 hB3
  have HB2 := hide_ (below_to HB1.out hB3)
  have K3 := hide_ k3
  have K12 := hide_ ((K1.out.later hB1).later hB3)
  have j0 := K12.out.cell 0; have j1 := K12.out.cell 1
  simp at j0 j1
  clear hB1 hB3 k3 i0 i1 HC
  have HCk := hide_ (checkR_any aT cT T aR cR R w2 (by omega) hm hL (hide_ (hT.out.later HB2.out)) (hide_ (hRr.out.later HB2.out)))
  obtain ⟨Ck, hCk⟩ : ∃ Ck, chk T R = Ck := ⟨_, rfl⟩
  rw [hCk] at HCk
  have HCK := hide_ hCk
  obtain ⟨cE, cF⟩ := Ck
  clear hCk
  go_upto_region 2 with fail
  rw [← hw2]
  clear hw2
  go_wp2_with fail
  refine HCk.out.mono ?_
  rintro e w3 ⟨rfl, hB4⟩
  have HB3 := hide_ (below_to HB2.out hB4)
  have K33 := hide_ (K3.out.later hB4)
  have K13 := hide_ (K12.out.later hB4)
  have l0 := K33.out.cell 0; have l1 := K33.out.cell 1
  have m0 := K13.out.cell 0; have m1 := K13.out.cell 1
  simp at l0 l1 m0 m1
  clear hB4 j0 j1 HCk
  have fldE : ∀ (a b : Int) (w : World), (Instr.field 34 (.agg #[.int .i64 a, .int .i64 b]) 0).run Try.prog w = .ok (.int .i64 a) w := fun a b w => by kernel_rfl
  have HNum : Hid (∀ n w', Calls Try.prog 9 #[.int .i64 n] w' fun e w'' => e = .returned (.int .i64 n) ∧ w' = w'') := hide_ (fun n w' => num_any n w')
  by_cases hc : cE = 0
  · have hc' : (cE != 0) = false := by simp [hc]
    have HS : Hid (OkS T R) := hide_ (okS_of (by rw [HCK.out]; exact hc))
    clear hc
    by_cases h3 : E = 3
    · have HR : Hid (res = (3, [])) := hide_ (by
        have ha := HA.out
        have hb : ¬ (0 ≤ t ∧ t < T.length) := fun hh => by
          have hz : (tyV T R t V).2.1 = 3 := by rw [ha]; exact h3
          exact (len_bad HS.out hNv.out hh.1 hh.2 (by rw [hz]; decide)).2 hz
        rw [← HRes.out]
        unfold lenP
        rw [if_neg (by rw [HS.out.chk]; simp), if_pos hb])
      subst h3
      go_wp2_with fail
      refine (HNum.out _ _).mono ?_; rintro e w' ⟨rfl, rfl⟩
      go_wp2
      go_ret2
      exact ⟨.slice none 0 0, by rw [HR.out]; rfl, by rw [HR.out]; exact World.ownsRow_nil _ _ _ _, HB3.out⟩
    · have h3' : (E == 3) = false := by simpa using h3
      have ht : Hid (0 ≤ t ∧ t < T.length) := hide_ (by
        refine Decidable.byContradiction fun hh => h3 ?_
        have ha := HA.out
        unfold tyV at ha
        rw [if_neg (by rw [HS.out.chk]; simp), if_pos (by omega)] at ha
        injection ha with _ ha
        injection ha with ha _
        exact ha.symm)
      by_cases h0 : E = 0
      · have hE : (E != 0) = false := by simp [h0]
        have hty : (tyV T R t V).2.1 = 0 := by rw [HA.out]; exact h0
        have HTy := hide_ hty
        obtain ⟨r, -, hrl, hlen, hV0⟩ := len_good HS.out hNv.out ht.out.1 ht.out.2 hty
        have HR : Hid (res.1 = 0) := hide_ (by rw [← HRes.out, hlen])
        clear hty h0 h3 h3'
        obtain ⟨bT, oT, rfl, -, -⟩ := hT.out.open (by have := ht.out; omega)
        obtain ⟨bV, oV, rfl, -, -⟩ := hVr.out.open hV0
        have HCl := hide_ (rlengths_any bT oT cT T aR cR R t bV oV cV V w3 hn hm hV ht.out.1 ht.out.2 hL HS (hide_ (hT.out.later HB3.out)) (hide_ (hRr.out.later HB3.out)) (hide_ (hVr.out.later HB3.out)) hNv HTy)
        rw [HRes.out] at HCl
        have h3'' : (E == 3) = false := by
          have : E = 0 := by simpa using hE
          simp [this]
        clear hrl hlen hV0
        go_wp2_with fail
        refine HCl.out.mono ?_
        rintro e w4 ⟨v, rfl, HO4, HB4⟩
        have HBf := hide_ (below_to HB3.out HB4.out)
        go_wp2
        go_ret2
        exact ⟨v, by rw [HR.out]; rfl, own_base HO4.out HB3.out.size, HBf.out⟩
      · have hE : (E != 0) = true := by simpa using h0
        have HR : Hid (res = (40, [])) := hide_ (by rw [← HRes.out]; exact (len_bad HS.out hNv.out ht.out.1 ht.out.2 (by rw [HA.out]; exact h0)).1)
        go_wp2_with fail
        refine (HNum.out _ _).mono ?_; rintro e w' ⟨rfl, rfl⟩
        go_wp2
        go_ret2
        exact ⟨.slice none 0 0, by rw [HR.out]; rfl, by rw [HR.out]; exact World.ownsRow_nil _ _ _ _, HB3.out⟩
  · have hc' : (cE != 0) = true := by simpa using hc
    have HR : Hid (res = (E, [])) := hide_ (by
      have ha := HA.out
      have hne : (chk T R).1 ≠ 0 := by rw [HCK.out]; exact hc
      unfold tyV at ha
      rw [if_pos hne] at ha
      injection ha with _ ha
      rw [← HRes.out]
      unfold lenP
      rw [if_pos hne, ha])
    go_wp2_with fail
    refine (HNum.out _ _).mono ?_; rintro e w' ⟨rfl, rfl⟩
    go_wp2
    go_ret2
    exact ⟨.slice none 0 0, by rw [HR.out]; rfl, by rw [HR.out]; exact World.ownsRow_nil _ _ _ _, HB3.out⟩
end Go.Proofs.Ytdpkmkhflgmioaa

/- SizeBetween: small answers. -/
namespace Go.Proofs.Ytdpkmkhflgmioaa
open Go.RowKit
set_option linter.unusedVariables false

theorem IOwn.cut {w : World} {B g n cap m : Nat} {l : List Int} (h : IOwn w B (.slice (some ⟨g, 0, none⟩) n cap) l) (hm : m ≤ l.length) : IOwn w B (.slice (some ⟨g, 0, none⟩) m cap) (l.take m) := by
  rcases h.2 with ⟨e, _⟩ | ⟨g', cap', cur, e, hb, hg, hn, hx, hs, ht⟩
  · cases e
  · injection e with e1 e2 e3
    injection e1 with e1
    injection e1 with e1 _ _
    subst e1 e2 e3
    refine ⟨by simp [cellsL], .inr ⟨g, cap, cur, by simp [Nat.min_eq_left hm], hb, hg, by simp; omega, hx, hs, ?_⟩⟩
    have e2 : cellsL .i64 (l.take m) = (cellsL .i64 l).take m := by simp [cellsL, List.map_take]
    rw [e2, ← ht]
    simp [List.take_take]
/-! ### How many are not seen -/
def cntL (S : List Bool) : Nat → Nat
  | 0 => 0
  | n + 1 => cntL S n + (if S[n]? = some false then 1 else 0)
def cntF (w : World) (g : Nat) : Nat → Nat
  | 0 => 0
  | n + 1 => cntF w g n + (match w.cell? ⟨g, n, none⟩ with | some (.bool false) => 1 | _ => 0)
theorem cntF_blk {w : World} {g : Nat} {t : TypeId} {S : List Bool} (h : Blk w g t (S.map Value.bool)) : ∀ n, cntF w g n = cntL S n
  | 0 => rfl
  | n + 1 => by
    simp only [cntF, cntL, cntF_blk h n]
    rw [h.cell, List.getElem?_map]
    congr 1
    cases S[n]? with
    | none => rfl
    | some b => cases b <;> rfl
theorem cntL_ne {S S' : List Bool} : ∀ n, (∀ j, j < n → S'[j]? = S[j]?) → cntL S' n = cntL S n
  | 0, _ => rfl
  | n + 1, h => by simp only [cntL]; rw [cntL_ne n (fun j hj => h j (by omega)), h n (by omega)]
theorem cntL_set {S : List Bool} {k : Nat} (hk : S[k]? = some false) : ∀ n, k < n → cntL (S.set k true) n + 1 = cntL S n
  | 0, h => by omega
  | n + 1, h => by
    have hkl := (List.getElem?_eq_some_iff.1 hk).1
    simp only [cntL]
    by_cases hn : k = n
    · subst hn
      have e := cntL_ne (S := S) (S' := S.set k true) k (fun j hj => by rw [List.getElem?_set_ne (by omega)])
      rw [e, hk, List.getElem?_set_self hkl]
      simp
    · have := cntL_set hk n (by omega)
      rw [List.getElem?_set_ne hn]
      omega
theorem cntL_le (S : List Bool) : ∀ n, cntL S n ≤ n
  | 0 => Nat.le_refl _
  | n + 1 => by have := cntL_le S n; simp only [cntL]; split <;> omega
def lnV : Value → Nat
  | .slice _ n _ => n
  | _ => 0
def BoTo (w : World) (e : Ending) (w' : World) : Prop := ∃ b : Bool, e = .returned (.bool b) ∧ Below w.heap.size w w'
theorem madeB0 (n : Nat) : (madeCells #[.bool false] n).toList = (List.replicate n false).map Value.bool := by
  apply List.ext_getElem?
  intro i
  by_cases h : i < n <;> simp [madeCells, Nat.mod_one, h]
theorem own1 (w : World) (x : Int) : IOwn (w.alloc (.cells #[.int .i64 x] 3)) w.heap.size (.slice (some ⟨w.heap.size, 0, none⟩) 1 1) [x] := by
  have h := ownS_of_blk (c := 1) (n := 1) (cap := 1) (Blk.newA w #[.int .i64 x] 3) (Nat.le_refl _) (by simp) (Nat.le_refl _) (by unfold maxLen; omega)
  simpa [IOwn, cellsL] using h
/-- small's memory in a round. -/
structure SmS (w wr : World) (gS gy : Nat) (S : List Bool) (bx yb : List Value) (a : Option Addr) (nl c : Nat) (l : List Int) (N : Nat) : Prop where
  o : IOwn wr w.heap.size (.slice a nl c) l
  ll : l.length = nl
  ins : ∀ s ∈ l, 0 ≤ s ∧ s < N
  sb : Blk wr gS 4 (S.map Value.bool)
  bo : Blk wr w.heap.size 25 bx
  yo : Blk wr gy 62 yb
  b : Below w.heap.size w wr
theorem SmS.push {w wr : World} {gS gy : Nat} {S : List Bool} {bx yb : List Value} {a : Option Addr} {nl c : Nat} {l : List Int} {N : Nat} (h : SmS w wr gS gy S bx yb a nl c l N) (x : Int) (hx : 0 ≤ x ∧ x < N) (hl : nl ≤ 1000000000) :
    ∃ g cap w', (Builtin.append_ #[26, 26] 26 #[.slice a nl c, .slice (some ⟨wr.heap.size, 0, none⟩) 1 1]).run Try.prog (wr.alloc (.cells #[.int .i64 x] 3)) = .ok (.slice (some ⟨g, 0, none⟩) (nl + 1) cap) w' ∧ SmS w w' gS gy S bx yb (some ⟨g, 0, none⟩) (nl + 1) cap (l ++ [x]) N := by
  have hll := h.ll
  obtain ⟨g, cap, w', h1, h2, h3, h4⟩ := h.o.push x (by omega) h.b.size
  rw [hll] at h1 h2
  have nb : ∀ b t' ys, Blk wr b t' ys → t' ≠ 3 → ¬ (Value.slice a nl c).ownBlock = some b := fun b t' ys hb ht => h.o.ne hb ht
  refine ⟨g, cap, w', h1, h2, by simp [hll], fun s hs => ?_, h.sb.upd h3 (nb _ _ _ h.sb (by decide)), h.bo.upd h3 (nb _ _ _ h.bo (by decide)), h.yo.upd h3 (nb _ _ _ h.yo (by decide)), h.b.trans (h3.below _ h.b.size (fun k hk => (h.o.lt k hk).1))⟩
  rcases List.mem_append.1 hs with hs | hs
  · exact h.ins s hs
  · simp at hs; subst hs; exact hx
set_option maxRecDepth 100000 in
set_option maxHeartbeats 16000000 in
theorem small_any (bT oT cT : Nat) (T : List Ty) (aR : Option Addr) (cR : Nat) (R : List Rt) (num : Nat) (w : World) (hn : T.length ≤ 1000000) (hnum : num < T.length) (hS : Hid (OkS T R)) (hT : Hid (TRow w (some ⟨bT, oT, none⟩) T)) :
    Calls Try.prog 28 #[.agg #[.slice (some ⟨bT, oT, none⟩) T.length cT, .slice aR R.length cR], .int .i64 (num : Int)] w fun e w' => BoTo w e w' := by
  obtain ⟨w1, hw1⟩ : ∃ wx, wx = w.alloc (.cells #[.slice (some ⟨bT, oT, none⟩) T.length cT, .slice aR R.length cR] 25) := ⟨_, rfl⟩
  have b1 : Below w.heap.size w w1 := by rw [hw1]; exact below1 _ _
  have k1 : Blk w1 w.heap.size 25 [.slice (some ⟨bT, oT, none⟩) T.length cT, .slice aR R.length cR] := by rw [hw1]; exact Blk.newA w _ _
  obtain ⟨w2, hw2⟩ : ∃ wx, wx = w1.alloc (.cells #[.int .i64 (num : Int)] 3) := ⟨_, rfl⟩
  have b2 : Below w1.heap.size w1 w2 := by rw [hw2]; exact below1 _ _
  have o2 : IOwn w2 w1.heap.size (.slice (some ⟨w1.heap.size, 0, none⟩) 1 1) [(num : Int)] := by rw [hw2]; exact own1 _ _
  have hmk := run_make_row' (P := Try.prog) 94 4 (.bool false) 1 Try.underlying94 (by kernel_rfl) rfl .i64 .i64 T.length (by omega) (by omega)
  obtain ⟨w3, hw3⟩ : ∃ wx, wx = w2.alloc (.cells (madeCells #[.bool false] T.length) 4) := ⟨_, rfl⟩
  have b3 : Below w2.heap.size w2 w3 := by rw [hw3]; exact below1 _ _
  have k3 : Blk w3 w2.heap.size 4 ((List.replicate T.length false).map Value.bool) := by
    have h := Blk.newA w2 (madeCells #[Value.bool false] T.length) 4
    rw [← hw3, madeB0] at h
    exact h
  have i0 := (k1.later b2).cell 0
  simp at i0
  obtain ⟨gS, hgS⟩ : ∃ g, w2.heap.size = g := ⟨_, rfl⟩
  have hgSb : w.heap.size ≤ gS := by rw [← hgS]; exact (below_to b1 b2).size
  rw [hgS] at k3
  have hz2 : w1.heap.size < w2.heap.size := by rw [hw2]; simp
  have hz3 : gS < w3.heap.size := k3.lt
  have HK1 := hide_ ((k1.later b2).later b3)
  have HB3 := hide_ (below_to (below_to b1 b2) b3)
  have HO3 : Hid (IOwn w3 w.heap.size (.slice (some ⟨w1.heap.size, 0, none⟩) 1 1) [(num : Int)]) := hide_ (own_base (o2.later b3) b1.size)
  have HS3 := hide_ k3
  obtain ⟨g1, hg1⟩ : ∃ g, w1.heap.size = g := ⟨_, rfl⟩
  rw [hg1] at HO3
  clear b1 b2 b3 k1 o2 k3
  go_enter Try.func28, Try.ntmps28
  go_upto_region 1 with fail
  rw [← hw1]
  clear hw1
  go_upto_region 2 with fail
  rw [← hw2]
  clear hw2
  go_upto_region 3 with fail
  rw [← hw3]
  try rw [hgS]
  try rw [hg1]
  clear hw3 hgS hg1 hmk i0 hz2
  have hz1 : w.heap.size ≤ w3.heap.size := HB3.out.size
  go_loopw [5] (fun x5 wr => ∃ (a : Option Addr) (nl c : Nat) (l : List Int) (S : List Bool), x5 = .slice a nl c ∧ Hid (l.length = nl) ∧ Hid (S.length = T.length) ∧ nl ≤ 100000000 ∧ Hid (nl + 80 * cntL S T.length ≤ 80 * T.length + 1) ∧ Hid (∀ s ∈ l, 0 ≤ s ∧ s < T.length) ∧ Hid (IOwn wr w.heap.size (.slice a nl c) l) ∧ Hid (Blk wr gS 4 (S.map Value.bool)) ∧ Hid (Blk wr w.heap.size 25 [.slice (some ⟨bT, oT, none⟩) T.length cT, .slice aR R.length cR]) ∧ Hid (Below w.heap.size w wr)) (fun x5 wr => lnV x5 + 80 * cntF wr gS T.length)
  case atStart => exact ⟨_, 1, 1, [(num : Int)], List.replicate T.length false, rfl, hide_ rfl, hide_ (by simp), by omega, hide_ (by have := cntL_le (List.replicate T.length false) T.length; omega), hide_ (fun s hs => by simp at hs; omega), HO3, HS3, HK1, HB3⟩
  case round =>
    obtain ⟨a, nl, c, l, S, rfl, HL, HSl, hnl, HM, HIn, HO, HSb, HK, HB⟩ := hrel
    generalize wr = wq at *
    clear HO3 HS3 HK1 HB3
    by_cases h0 : 0 < nl
    · have h0' : (0 : Int) < nl := by omega
      obtain ⟨m, hm⟩ : ∃ m, nl = m + 1 := ⟨nl - 1, by omega⟩
      have hs : (nl : Int) - 1 = (m : Int) := by omega
      have hsw : wrap64 ((nl : Int) - 1) = (m : Int) := by rw [w64 _ (by omega)]; omega
      have hmn : (m : Int) < nl := by omega
      have hml : m < l.length := by rw [HL.out]; omega
      obtain ⟨g, hg⟩ : ∃ g, a = some ⟨g, 0, none⟩ := by
        obtain ⟨g, c', ys, e, _⟩ := ownS_blk HO.out (by rw [HL.out]; omega)
        injection e with e _ _
        exact ⟨g, e⟩
      subst hg
      have hc0 := HO.out.at hml
      have hin := HIn.out (l.getD m 0) (by rw [show l.getD m 0 = l[m]'hml by simp [List.getD, hml]]; exact List.getElem_mem hml)
      have HOc := hide_ (HO.out.cut (m := m) (by omega))
      have HLc : Hid ((l.take m).length = m) := hide_ (by simp; omega)
      have HInc : Hid (∀ s ∈ l.take m, 0 ≤ s ∧ s < T.length) := hide_ (fun s hs => HIn.out s (List.mem_of_mem_take hs))
      have hcap : nl ≤ c := by
        obtain ⟨_, _, e, _, _, h⟩ := HO.out.row
        injection e with _ e2 e3
        rw [← e3, HL.out] at h
        exact h
      have hmc : (m : Int) ≤ c := by omega
      have hm0 : (0 : Int) ≤ m := by omega
      generalize l.take m = l0 at *
      obtain ⟨k, hk⟩ := Int.eq_ofNat_of_zero_le hin.1
      rw [hk] at hc0 hin
      have hkT : k < T.length := by omega
      have hkT' : (k : Int) < T.length := hin.2
      obtain ⟨sb, hsb⟩ : ∃ sb, S[k]? = some sb := ⟨_, List.getElem?_eq_getElem (by rw [HSl.out]; exact hkT)⟩
      have hcS := HSb.out.cell k
      rw [List.getElem?_map, hsb] at hcS
      simp at hcS
      have HSk := hide_ hsb
      have HCF := hide_ (cntF_blk HSb.out T.length)
      have HMn := hide_ hm
      clear hsb hin hk hm HO HIn HL hml
      cases sb with
      | true =>
        go_wp2_with fail
        go_roundw
        case rel => exact ⟨_, m, c, l0, S, rfl, HLc, HSl, by omega, hide_ (by have := HM.out; have := HMn.out; omega), HInc, HOc, HSb, HK, HB⟩
        case measure => simp only [lnV]; have := HMn.out; omega
      | false =>
        have htS : T[k]? = some (T[k]'hkT) := List.getElem?_eq_getElem hkT
        have hok := hS.out.ty k hkT
        rw [show T.getD k ty0 = T[k]'hkT by simp [List.getD, hkT]] at hok
        obtain ⟨_, _, e3, hbT, hcT⟩ := hT.out.open (by omega)
        injection e3 with e3
        injection e3 with e4 e5 _
        subst e4 e5
        obtain ⟨va, vc, hty, hvc, -, hpr⟩ := hcT k _ htS
        generalize T[k]'hkT = ty at *
        obtain ⟨tk, tn, el, ps⟩ := ty
        have fS := HSb.out.frozen k
        have hu1 : Upd (fun b => b = gS) wq (wq.setCell ⟨gS, k, none⟩ (.bool true)) := (Upd.refl (fun b => b = gS) wq).set _ _ (.inl rfl)
        have hsb1 : Blk (wq.setCell ⟨gS, k, none⟩ (.bool true)) gS 4 ((S.set k true).map Value.bool) := by
          have h := HSb.out.set k (.bool true)
          rw [List.map_set]
          exact h
        have ho1 := HOc.out.upd hu1 (fun b hb e => HOc.out.ne HSb.out (by decide) (e ▸ hb))
        have hbo1 := HK.out.upd hu1 (fun e => absurd (blk_type HK.out (e ▸ HSb.out)) (by decide))
        have hb1 : Below w.heap.size w (wq.setCell ⟨gS, k, none⟩ (.bool true)) := below_set HB.out _ _ _ hgSb
        have i0 := hbo1.cell 0
        simp at i0
        obtain ⟨w1, hw1⟩ : ∃ wx, wx = wq.setCell ⟨gS, k, none⟩ (.bool true) := ⟨_, rfl⟩
        rw [← hw1] at hsb1 ho1 hbo1 hb1 i0
        have hty' := fun j (hj : j < 4) => (hb1.cell (p := ⟨bT, oT + k * 4 + j, none⟩) hbT).trans (hty j hj)
        have t0 := hty' 0 (by decide); have t1 := hty' 1 (by decide); have t2 := hty' 2 (by decide); have t3 := hty' 3 (by decide)
        simp [tyc] at t0 t1 t2 t3
        obtain ⟨w2, hw2⟩ : ∃ wx, wx = w1.alloc (.cells #[.int .i64 tk, .int .i64 tn, .int .i64 el, .slice va ps.length vc] 62) := ⟨_, rfl⟩
        have b2 : Below w1.heap.size w1 w2 := by rw [hw2]; exact below1 _ _
        have k2 : Blk w2 w1.heap.size 62 [.int .i64 tk, .int .i64 tn, .int .i64 el, .slice va ps.length vc] := by rw [hw2]; exact Blk.newA w1 _ _
        obtain ⟨gy, hgy⟩ : ∃ g, w1.heap.size = g := ⟨_, rfl⟩
        rw [hgy] at k2
        have HSm : Hid (SmS w w2 gS gy (S.set k true) [.slice (some ⟨bT, oT, none⟩) T.length cT, .slice aR R.length cR] [.int .i64 tk, .int .i64 tn, .int .i64 el, .slice va ps.length vc] (some ⟨g, 0, none⟩) m c l0 T.length) := hide_ ⟨ho1.later b2, HLc.out, HInc.out, hsb1.later b2, hbo1.later b2, k2, below_to hb1 b2⟩
        have HCn : Hid (cntL (S.set k true) T.length + 1 = cntL S T.length) := hide_ (cntL_set HSk.out _ hkT)
        have HSl2 : Hid ((S.set k true).length = T.length) := hide_ (by rw [List.length_set]; exact HSl.out)
        have HEl : Hid (tk = 4 ∨ tk = 5 ∨ tk = 6 → 0 ≤ el ∧ el < T.length) := hide_ (fun h => by
          have := tyOk_elem hok (by show hasE tk = true; unfold hasE; exact decide_eq_true h)
          simp only at this
          omega)
        have HPt : Hid (∀ (j : Nat) (p : Pt), ps[j]? = some p → 0 ≤ p.ty ∧ p.ty < T.length) := hide_ (fun j p hp => by
          have := tyOk_part hok hp
          omega)
        have hpl : ps.length ≤ 64 := tyOk_len hok
        have HPr := hide_ hpr
        clear hty hty' hcT htS hok hpr hu1 hsb1 ho1 hbo1 k2 b2 hvc HOc HInc HK HSk HLc
        go_upto_region 8 with fail
        rw [← hw1]
        clear hw1 hc0 hcS fS
        go_upto_region 9 with fail
        rw [← hw2]
        try rw [hgy]
        clear hw2 hgy t0 t1 t2 t3 i0 hb1
        have y0 := HSm.out.yo.cell 0; have y1 := HSm.out.yo.cell 1; have y2 := HSm.out.yo.cell 2
        simp at y0 y1 y2
        obtain ⟨d4, hd4⟩ : ∃ d, (tk == 4) = d := ⟨_, rfl⟩
        obtain ⟨d5, hd5⟩ : ∃ d, (tk == 5) = d := ⟨_, rfl⟩
        obtain ⟨d6, hd6⟩ : ∃ d, (tk == 6) = d := ⟨_, rfl⟩
        have HE2 : Hid ((d4 || (d5 || d6)) = true → 0 ≤ el ∧ el < T.length) := hide_ (fun h => HEl.out (by
          rw [← hd4, ← hd5, ← hd6] at h
          simpa using h))
        clear HEl
        go_cut [49] from 42 to 49 (fun x49 wc => ∃ d, x49 = .bool d ∧ w2 = wc)
        case first =>
          by_cases hn12 : 12 < tn
          · cases d4 <;>
            · go_wp2_with fail
              go_meet
              case rel => exact ⟨_, rfl, rfl⟩
          · cases d4 <;>
            · go_wp2_with fail
              go_meet
              case rel => exact ⟨_, rfl, rfl⟩
        case rest =>
        obtain ⟨d, rfl, rfl⟩ := hcut
        cases d with
        | true =>
          have HF : Hid (BoTo w (.returned (.bool false)) w2) := hide_ ⟨false, rfl, HSm.out.b⟩
          go_wp2
          go_ret
          exact HF.out
        | false =>
          go_upto_region 11 with fail
          go_cut [62] from 50 to 62 (fun x62 wc => x62 = .bool (d4 || (d5 || d6)) ∧ w2 = wc)
          case first =>
            cases d4 <;> cases d5 <;> cases d6 <;>
            · go_wp2_with fail
              go_meet
              case rel => exact ⟨rfl, rfl⟩
          case rest =>
          obtain ⟨rfl, rfl⟩ := hcut
          generalize (d4 || (d5 || d6)) = dd at *
          go_upto_if 62 with fail
          go_cut [5] from 63 to 67 (fun x5 wc => ∃ (a : Option Addr) (nl c : Nat) (l : List Int) (w3 : World), w3 = wc ∧ x5 = .slice a nl c ∧ nl ≤ m + 1 ∧ Hid (SmS w w3 gS gy (S.set k true) [.slice (some ⟨bT, oT, none⟩) T.length cT, .slice aR R.length cR] [.int .i64 tk, .int .i64 tn, .int .i64 el, .slice va ps.length vc] a nl c l T.length))
          case first =>
            cases dd with
            | false =>
              go_wp2_with fail
              go_meet
              case rel => exact ⟨_, m, c, l0, _, rfl, rfl, by omega, HSm⟩
            | true =>
              obtain ⟨g3, c3, w3, hr3, hs3⟩ := HSm.out.push el (HE2.out rfl) (by omega)
              have HR3 := hide_ hr3
              have HS3 := hide_ hs3
              clear hr3 hs3
              go_wp2_with (first | (at_builtin; refine wpList_append_run rfl (.tmp 63) (.tmp 66) 26 26 rfl rfl rfl HR3.out ?_; clear HR3) | fail)
              go_meet
              case rel => exact ⟨_, m + 1, c3, _, _, rfl, rfl, by omega, HS3⟩
          case rest =>
          obtain ⟨a3, n3, c3, l3, w3, rfl, rfl, hn3, HS3⟩ := hcut
          clear HSm HE2 y0 y1 y2
          have z3 := HS3.out.yo.cell 3
          simp at z3
          go_wp2_with fail
          go_loopw [5, 9] (fun x5 x9 wr => ∃ (j : Nat) (a : Option Addr) (nl c : Nat) (l : List Int), x9 = .int .i64 (j : Int) ∧ j ≤ ps.length ∧ x5 = .slice a nl c ∧ nl ≤ m + 1 + j ∧ Hid (SmS w wr gS gy (S.set k true) [.slice (some ⟨bT, oT, none⟩) T.length cT, .slice aR R.length cR] [.int .i64 tk, .int .i64 tn, .int .i64 el, .slice va ps.length vc] a nl c l T.length)) (fun _ x9 _ => ps.length - (intOf x9).toNat)
          case atStart => exact ⟨0, a3, n3, c3, l3, rfl, Nat.zero_le _, rfl, by omega, HS3⟩
          case round =>
            obtain ⟨j, a4, n4, c4, l4, rfl, hj, rfl, hn4, HS4⟩ := hrel
            generalize wr = wx at *
            clear HS3 z3
            have z3 := HS4.out.yo.cell 3
            simp at z3
            by_cases hjl : j < ps.length
            · have hjl' : (j : Int) < ps.length := by omega
              have hpj : ps[j]? = some (ps[j]'hjl) := List.getElem?_eq_getElem hjl
              have hpi := HPt.out j _ hpj
              obtain ⟨bP, oP, rfl, hbP, hcP⟩ := (HPr.out.later HS4.out.b).open (by omega)
              have hp2 := hcP j _ hpj 2 (by decide)
              simp [ptc] at hp2
              generalize (ps[j]'hjl).ty = q at *
              obtain ⟨g5, c5, w5, hr5, hs5⟩ := HS4.out.push q hpi (by omega)
              have HR5 := hide_ hr5
              have HS5 := hide_ hs5
              clear hr5 hs5 hpj hpi hcP
              go_wp2_with (first | (at_builtin; refine wpList_append_run rfl (.tmp 75) (.tmp 82) 26 26 rfl rfl rfl HR5.out ?_; clear HR5) | fail)
              go_roundw
              case rel => exact ⟨j + 1, _, n4 + 1, c5, _, by go_num, by omega, rfl, by omega, HS5⟩
              case measure => simp [intOf]; omega
            · have hjl' : ¬ (j : Int) < ps.length := by omega
              have HMe : Hid (lnV (.slice a4 n4 c4) + 80 * cntF wx gS T.length < lnV (.slice (some ⟨g, 0, none⟩) nl c) + 80 * cntF wq gS T.length) := hide_ (by
                rw [HCF.out, cntF_blk HS4.out.sb T.length]
                simp only [lnV]
                have := HCn.out
                have := HMn.out
                omega)
              go_wp2_with fail
              go_roundw
              case rel => exact ⟨a4, n4, c4, l4, S.set k true, rfl, hide_ HS4.out.ll, HSl2, by have := HM.out; have := HCn.out; have := HMn.out; omega, hide_ (by have := HM.out; have := HCn.out; have := HMn.out; omega), hide_ HS4.out.ins, hide_ HS4.out.o, hide_ HS4.out.sb, hide_ HS4.out.bo, hide_ HS4.out.b⟩
              case measure => exact HMe.out
    · have h0' : ¬ (0 : Int) < nl := by omega
      have HF : Hid (BoTo w (.returned (.bool true)) wq) := hide_ ⟨true, rfl, HB.out⟩
      go_wp2
      go_ret
      exact HF.out
end Go.Proofs.Ytdpkmkhflgmioaa
