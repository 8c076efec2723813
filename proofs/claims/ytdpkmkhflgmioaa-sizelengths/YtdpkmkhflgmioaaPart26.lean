import Derived.Test.YtdpkmkhflgmioaaPart23
import Derived.Test.YtdpkmkhflgmioaaPart21
import Derived.Test.YtdpkmkhflgmioaaPart18
import Derived.Test.YtdpkmkhflgmioaaPart22

/- The document's Lengths, Check; the law's lengths: they answer as size.Lengths does. -/
namespace Go.Proofs.Ytdpkmkhflgmioaa
open Go.RowKit
set_option linter.unusedVariables false

theorem makeZ (n : Nat) (hn : n ≤ 1000000000) (w : World) : (Instr.makeSlice 26 (.int .i64 (n : Int)) (.int .i64 (n : Int))).run Try.prog w = .ok (.slice (some ⟨w.heap.size, 0, none⟩) n n) (w.alloc (.cells (madeCells #[.int .i64 0] n) 3)) := by
  obtain ⟨i0, hi, hz0, hz1, hz2⟩ := info_parts elI.info
  have hb : (i0.bytes : Int) * (n : Int) ≤ 281474976710656 := by rw [hz2]; omega
  have hr := run_make (P := Try.prog) w 26 3 i0 (.int .i64 0) Try.underlying26 hi hz0 .i64 .i64 n n (by omega) (Int.le_refl _) hb (by omega)
  rw [Int.toNat_natCast, hz1, Nat.mul_one] at hr
  exact hr
theorem madeZ0 (n : Nat) : (madeCells #[.int .i64 0] n).toList = cellsL .i64 (List.replicate n 0) := by
  apply List.ext_getElem?
  intro i
  by_cases h : i < n <;> simp [madeCells, cellsL, Nat.mod_one, h]
theorem ownZ (w : World) (n : Nat) (hn : n ≤ 1000000000) : IOwn (w.alloc (.cells (madeCells #[.int .i64 0] n) 3)) w.heap.size (.slice (some ⟨w.heap.size, 0, none⟩) n n) (List.replicate n 0) := by
  have h := ownS_of_blk (c := 1) (n := n) (cap := n) (Blk.newA w (madeCells #[.int .i64 0] n) 3) (Nat.le_refl _) (by simp [size_madeCells]) (Nat.le_refl _) (by unfold maxLen; omega)
  unfold IOwn
  rw [List.length_replicate]
  rw [madeZ0] at h
  rw [show (cellsL .i64 (List.replicate n 0)).take (n * 1) = cellsL .i64 (List.replicate n 0) by rw [List.take_of_length_le]; simp [cellsL]] at h
  exact h
set_option maxRecDepth 100000 in
set_option maxHeartbeats 8000000 in
theorem rlengths_any (bT oT cT : Nat) (T : List Ty) (aR : Option Addr) (cR : Nat) (R : List Rt) (t : Int) (bV oV cV : Nat) (V : List Nv) (w : World) (hn : T.length ≤ 1000000000) (hm : R.length ≤ 10000000000000) (hV : V.length ≤ 2000000) (h0 : 0 ≤ t) (h1 : t < T.length) (hL : Hid (LensT T)) (hS : Hid (OkS T R)) (hT : Hid (TRow w (some ⟨bT, oT, none⟩) T)) (hRr : Hid (RRow w aR R)) (hVr : Hid (VRow w (some ⟨bV, oV, none⟩) V)) (hNv : Hid (∀ x ∈ V, NvOk x)) (hty : Hid ((tyV T R t V).2.1 = 0)) :
    Calls Try.prog 35 #[.agg #[.slice (some ⟨bT, oT, none⟩) T.length cT, .slice aR R.length cR], .int .i64 t, .slice (some ⟨bV, oV, none⟩) V.length cV] w fun e w' => ∃ v, e = .returned v ∧ Hid (IOwn w' w.heap.size v (lenP T R t V).2) ∧ Hid (Below w.heap.size w w') := by
  obtain ⟨⟨rn, rl⟩, hnx, hrl, hlen, hV0⟩ := len_good hS.out hNv.out h0 h1 hty.out
  obtain ⟨num, rfl⟩ := Int.eq_ofNat_of_zero_le h0
  rw [Int.toNat_natCast] at hnx
  have hnum : num < T.length := by omega
  rw [hlen]
  simp only at hrl ⊢
  have hB := below1 w (.cells #[.slice (some ⟨bT, oT, none⟩) T.length cT, .slice aR R.length cR] 25)
  have k1 := Blk.newA w #[.slice (some ⟨bT, oT, none⟩) T.length cT, .slice aR R.length cR] 25
  obtain ⟨w0, hw0⟩ : ∃ wx, wx = w.alloc (.cells #[.slice (some ⟨bT, oT, none⟩) T.length cT, .slice aR R.length cR] 25) := ⟨_, rfl⟩
  rw [← hw0] at hB k1
  have HB0 := hide_ hB
  have K1 := hide_ k1
  have i0 := k1.cell 0; have i1 := k1.cell 1
  simp at i0 i1
  have HCo := hide_ (ofR_any (some ⟨bT, oT, none⟩) cT T aR cR R w0 (by omega) hm hL (hide_ (hT.out.later hB)) (hide_ (hRr.out.later hB)))
  have HNx := hide_ hnx
  have HRl := hide_ hrl
  clear hB k1 hnx hrl hlen
  go_enter Try.func35, Try.ntmps35
  go_upto_region 1 with fail
  rw [← hw0]
  clear hw0
  go_wp2_with fail
  refine HCo.out.mono ?_
  rintro e w1 (⟨hne, -, -⟩ | ⟨-, vX, rfl, hX1, hB1⟩)
  · exact absurd hne (by rw [hS.out.chk]; simp)
  obtain ⟨aX, cX, hvX, -, -, hXr⟩ := hX1.row
  subst hvX
  obtain ⟨bX, oX, rfl, -, -⟩ := hXr.open (by rw [extL_len]; omega)
  have K1b := hide_ (K1.out.later hB1)
  have HB1 := hide_ (below_to HB0.out hB1)
  have HXr := hide_ hXr
  have l0 := K1b.out.cell 0; have l1 := K1b.out.cell 1
  simp at l0 l1
  have hxl : (extL T).length = T.length := extL_len T
  rw [hxl]
  have hmk := makeZ V.length (by omega)
  have hBm := below1 w1 (.cells (madeCells #[.int .i64 0] V.length) 3)
  have hOm := ownZ w1 V.length (by omega)
  obtain ⟨w2, hw2⟩ : ∃ wx, wx = w1.alloc (.cells (madeCells #[.int .i64 0] V.length) 3) := ⟨_, rfl⟩
  have hz2 : w2.heap.size = w1.heap.size + 1 := by rw [hw2]; simp
  rw [← hw2] at hBm hOm
  have kw := Blk.newA w2 #[.slice (some ⟨bT, oT, none⟩) T.length cT, .slice aR R.length cR, .slice (some ⟨bX, oX, none⟩) T.length cX, .slice (some ⟨bV, oV, none⟩) V.length cV, .slice (some ⟨w1.heap.size, 0, none⟩) V.length V.length] 109
  have hBw := below1 w2 (.cells #[.slice (some ⟨bT, oT, none⟩) T.length cT, .slice aR R.length cR, .slice (some ⟨bX, oX, none⟩) T.length cX, .slice (some ⟨bV, oV, none⟩) V.length cV, .slice (some ⟨w1.heap.size, 0, none⟩) V.length V.length] 109)
  obtain ⟨w3, hw3⟩ : ∃ wx, wx = w2.alloc (.cells #[.slice (some ⟨bT, oT, none⟩) T.length cT, .slice aR R.length cR, .slice (some ⟨bX, oX, none⟩) T.length cX, .slice (some ⟨bV, oV, none⟩) V.length cV, .slice (some ⟨w1.heap.size, 0, none⟩) V.length V.length] 109) := ⟨_, rfl⟩
  rw [← hw3] at kw hBw
  obtain ⟨gw, hgw⟩ : ∃ g, w1.heap.size + 1 = g := ⟨_, rfl⟩
  rw [hz2, hgw] at kw
  have HGw := hide_ hgw
  have HB3 := hide_ (below_to hBm hBw)
  have HW3 := hide_ hw3
  have HW2 := hide_ hw2
  have HO3 := hide_ (hOm.later hBw)
  have KW3 := hide_ kw
  have HT1 := hide_ (hT.out.later HB1.out)
  have HV1 := hide_ (hVr.out.later HB1.out)
  obtain ⟨tl, htl⟩ := nxP_tail _ _ _ _ HNx.out
  simp only [List.nil_append] at htl
  have HTl := hide_ htl
  have HCw : Hid (∀ w4, Below w3.heap.size w3 w4 → Calls Try.prog 61 #[.pointer (some ⟨gw, 0, none⟩), .int .i64 (num : Int), .int .i64 ((0 : Nat) : Int)] w4 fun e w' => WlTo rn 0 (0 + tl.length) (List.replicate V.length 0) tl w1.heap.size V.length V.length w1.heap.size w4 e w') := hide_ (fun w4 h4 => by
    have h := wlen_any w1 bT oT cT T aR cR R bX oX cX (extL T) bV oV cV V gw w1.heap.size V.length hV hS (hide_ (extL_len T)) hNv HT1 HXr HV1 T.length num w4 (List.replicate V.length 0) [] rn tl 0 hnum (hide_ (by rw [HNx.out, HTl.out]; rfl)) (hide_ rfl) (hide_ (by simp)) (hide_ (HB3.out.trans (h4.mono HB3.out.size))) (hide_ (KW3.out.later h4)) (hide_ (HO3.out.later h4))
    exact h)
  clear hX1 hB1 hXr hBm hOm kw hBw htl hgw hxl hw2 hw3 HCo
  go_upto_region 2 with fail
  go_cut [9] from 15 to 22 (fun x9 wc => ∃ w4, w4 = wc ∧ x9 = .pointer (some ⟨gw, 0, none⟩) ∧ Hid (Below w3.heap.size w3 w4))
  case first =>
    have hgw := HGw.out
    have hBm := below1 w1 (.cells (madeCells #[.int .i64 0] V.length) 3)
    have m0 := (K1b.out.later hBm).cell 0; have m1 := (K1b.out.later hBm).cell 1
    simp at m0 m1
    clear hBm
    go_wp2_with fail
    go_region
    all_goals
      go_wp2
      go_meet
      case rel => exact ⟨_, rfl, rfl, hide_ (by rw [HW3.out, HW2.out]; exact (Below.refl _ _).drew)⟩
  case rest =>
  obtain ⟨w4, rfl, rfl, HB4⟩ := hcut
  go_wp2_with fail
  refine (HCw.out w4 HB4.out).mono ?_
  rintro e w5 ⟨rfl, HO5, HU5⟩
  have HU35 : Hid (Upd (fun k => k = w1.heap.size) w3 w5) := hide_ (Upd.trans (Upd.of_below HB4.out) HU5.out (fun _ _ h => h))
  have KW5 := hide_ (KW3.out.upd HU35.out (fun e => HO3.out.ne KW3.out (by decide) (by rw [e]; rfl)))
  have HB5 : Hid (Below w.heap.size w w5) := hide_ ((HB1.out.trans (HB3.out.mono HB1.out.size)).trans (HU35.out.below _ (Nat.le_trans HB1.out.size HB3.out.size) (fun k hk => by rw [hk]; exact HB1.out.size)))
  have HOf : Hid (IOwn w5 w.heap.size (.slice (some ⟨w1.heap.size, 0, none⟩) V.length V.length) rl) := hide_ (by
    have h := HO5.out
    rw [show spl (List.replicate V.length 0) 0 tl = rl by
      rw [HTl.out]
      unfold spl
      rw [List.take_zero, List.nil_append, List.drop_of_length_le (by have := HRl.out; rw [HTl.out] at this; simp; omega), List.append_nil]] at h
    exact own_base h HB1.out.size)
  have v4 := KW5.out.cell 4
  simp at v4
  go_wp2
  go_ret
  exact ⟨_, rfl, HOf, HB5⟩
set_option maxRecDepth 100000 in
set_option maxHeartbeats 8000000 in
theorem check10_any (aT : Option Addr) (cT : Nat) (T : List Ty) (aR : Option Addr) (cR : Nat) (R : List Rt) (t : Int) (aV : Option Addr) (cV : Nat) (V : List Nv) (w : World) (hn : T.length ≤ 1000000000) (hm : R.length ≤ 10000000000000) (hV : V.length ≤ 2000000) (hL : Hid (LensT T)) (hT : Hid (TRow w aT T)) (hRr : Hid (RRow w aR R)) (hVr : Hid (VRow w aV V)) (hNv : Hid (∀ x ∈ V, NvOk x)) :
    Calls Try.prog 34 #[.agg #[.slice aT T.length cT, .slice aR R.length cR], .int .i64 t, .slice aV V.length cV] w fun e w' => e = .returned (.agg #[.int .i64 (tyV T R t V).2.1, .int .i64 (tyV T R t V).2.2]) ∧ Below w.heap.size w w' := by
  have hB := below2 w (.cells #[.slice aT T.length cT, .slice aR R.length cR] 25) (.cells #[.int .i64 0, .int .i64 0] 34)
  obtain ⟨k1, k2⟩ := blk2 w #[.slice aT T.length cT, .slice aR R.length cR] #[.int .i64 0, .int .i64 0] 25 34
  obtain ⟨w0, hw0⟩ : ∃ wx, wx = (w.alloc (.cells #[.slice aT T.length cT, .slice aR R.length cR] 25)).alloc (.cells #[.int .i64 0, .int .i64 0] 34) := ⟨_, rfl⟩
  rw [← hw0] at hB k1 k2
  have HB0 := hide_ hB
  have K2 := hide_ k2
  have i0 := k1.cell 0; have i1 := k1.cell 1
  simp at i0 i1
  have HC := hide_ (typesR_any aT cT T aR cR R t aV cV V w0 hn hm hV hL (hide_ (hT.out.later hB)) (hide_ (hRr.out.later hB)) (hide_ (hVr.out.later hB)) hNv)
  obtain ⟨A, hA⟩ : ∃ A, tyV T R t V = A := ⟨_, rfl⟩
  rw [hA] at HC ⊢
  obtain ⟨l, E, F⟩ := A
  clear hA hB k1 k2
  go_enter Try.func34, Try.ntmps34
  go_upto_region 1 with fail
  rw [← hw0]
  clear hw0
  go_wp2_with fail
  refine HC.out.mono ?_
  rintro e w1 ⟨v, rfl, HO, HB1⟩
  have K2b := hide_ (K2.out.later HB1.out)
  have k3 := Blk.newA w1 #[.int .i64 E, .int .i64 F] 34
  have hB3 := below1 w1 (.cells #[.int .i64 E, .int .i64 F] 34)
  obtain ⟨w2, hw2⟩ : ∃ wx, wx = w1.alloc (.cells #[.int .i64 E, .int .i64 F] 34) := ⟨_, rfl⟩
  rw [← hw2] at k3 hB3
  have K2c := hide_ (K2b.out.later hB3)
  have l0 := k3.cell 0; have l1 := k3.cell 1
  have n0 := K2c.out.cell 0; have n1 := K2c.out.cell 1
  have nf := fun i => K2c.out.frozen i
  simp at l0 l1 n0 n1
  have HKz := hide_ (wr2 K2c.out (.int .i64 E) (.int .i64 F))
  have HBz := hide_ (below_set (below_set (below_to (below_to HB0.out HB1.out) hB3) (w.heap.size + 1) 0 (.int .i64 E) (by omega)) (w.heap.size + 1) 1 (.int .i64 F) (by omega))
  clear i0 i1 k3 hB3
  go_upto_region 2 with fail
  rw [← hw2]
  clear hw2
  go_wp2
  exact retF rfl rfl HKz.out ⟨rfl, HBz.out⟩
set_option maxRecDepth 100000 in
set_option maxHeartbeats 8000000 in
theorem llen_any (aT : Option Addr) (cT : Nat) (T : List Ty) (aR : Option Addr) (cR : Nat) (R : List Rt) (t : Int) (aV : Option Addr) (cV : Nat) (V : List Nv) (w : World) (hn : T.length ≤ 1000000000) (hm : R.length ≤ 10000000000000) (hV : V.length ≤ 2000000) (hL : Hid (LensT T)) (hT : Hid (TRow w aT T)) (hRr : Hid (RRow w aR R)) (hVr : Hid (VRow w aV V)) (hNv : Hid (∀ x ∈ V, NvOk x)) :
    Calls Try.prog 17 #[.agg #[.slice aT T.length cT, .slice aR R.length cR], .int .i64 t, .slice aV V.length cV] w fun e w' => LenTo (lenP T R t V) w e w' := by
  have hB := below1 w (.cells #[.slice aT T.length cT, .slice aR R.length cR] 25)
  have k1 := Blk.newA w #[.slice aT T.length cT, .slice aR R.length cR] 25
  obtain ⟨w0, hw0⟩ : ∃ wx, wx = w.alloc (.cells #[.slice aT T.length cT, .slice aR R.length cR] 25) := ⟨_, rfl⟩
  rw [← hw0] at hB k1
  have HB0 := hide_ hB
  have K1 := hide_ k1
  have i0 := k1.cell 0; have i1 := k1.cell 1
  simp at i0 i1
  have HC := hide_ (check10_any aT cT T aR cR R t aV cV V w0 hn hm hV hL (hide_ (hT.out.later hB)) (hide_ (hRr.out.later hB)) (hide_ (hVr.out.later hB)) hNv)
  obtain ⟨A, hA⟩ : ∃ A, tyV T R t V = A := ⟨_, rfl⟩
  rw [hA] at HC
  have HA := hide_ hA
  obtain ⟨l, E, F⟩ := A
  clear hA hB k1
  obtain ⟨res, hres⟩ : ∃ res, lenP T R t V = res := ⟨_, rfl⟩
  rw [hres]
  have HRes := hide_ hres
  clear hres
  go_enter Try.func17, Try.ntmps17
  go_upto_region 1 with fail
  rw [← hw0]
  clear hw0
  go_wp2_with fail
  refine HC.out.mono ?_
  rintro e w1 ⟨rfl, hB1⟩
  have HB1 := hide_ (below_to HB0.out hB1)
  have k3 := Blk.newA w1 #[.int .i64 E, .int .i64 F] 34
  have hB3 := below1 w1 (.cells #[.int .i64 E, .int .i64 F] 34)
  obtain ⟨w2, hw2⟩ : ∃ wx, wx = w1.alloc (.cells #[.int .i64 E, .int .i64 F] 34) := ⟨_, rfl⟩
  rw [← hw2] at k3 hB3
  have HB2 := hide_ (below_to HB1.out hB3)
  have K3 := hide_ k3
  have K12 := hide_ ((K1.out.later hB1).later hB3)
  have j0 := K12.out.cell 0; have j1 := K12.out.cell 1
  simp at j0 j1
  clear hB1 hB3 k3 i0 i1 HC
  have HCk := hide_ (checkR_any aT cT T aR cR R w2 (by omega) hm hL (hide_ (hT.out.later HB2.out)) (hide_ (hRr.out.later HB2.out)))
  obtain ⟨Ck, hCk⟩ : ∃ Ck, chk T R = Ck := ⟨_, rfl⟩
  rw [hCk] at HCk
  have HCK := hide_ hCk
  obtain ⟨cE, cF⟩ := Ck
  clear hCk
  go_upto_region 2 with fail
  rw [← hw2]
  clear hw2
  go_wp2_with fail
  refine HCk.out.mono ?_
  rintro e w3 ⟨rfl, hB4⟩
  have HB3 := hide_ (below_to HB2.out hB4)
  have K33 := hide_ (K3.out.later hB4)
  have K13 := hide_ (K12.out.later hB4)
  have l0 := K33.out.cell 0; have l1 := K33.out.cell 1
  have m0 := K13.out.cell 0; have m1 := K13.out.cell 1
  simp at l0 l1 m0 m1
  clear hB4 j0 j1 HCk
  have fldE : ∀ (a b : Int) (w : World), (Instr.field 34 (.agg #[.int .i64 a, .int .i64 b]) 0).run Try.prog w = .ok (.int .i64 a) w := fun a b w => by kernel_rfl
  have HNum : Hid (∀ n w', Calls Try.prog 9 #[.int .i64 n] w' fun e w'' => e = .returned (.int .i64 n) ∧ w' = w'') := hide_ (fun n w' => num_any n w')
  by_cases hc : cE = 0
  · have hc' : (cE != 0) = false := by simp [hc]
    have HS : Hid (OkS T R) := hide_ (okS_of (by rw [HCK.out]; exact hc))
    clear hc
    by_cases h3 : E = 3
    · have HR : Hid (res = (3, [])) := hide_ (by
        have ha := HA.out
        have hb : ¬ (0 ≤ t ∧ t < T.length) := fun hh => by
          have hz : (tyV T R t V).2.1 = 3 := by rw [ha]; exact h3
          exact (len_bad HS.out hNv.out hh.1 hh.2 (by rw [hz]; decide)).2 hz
        rw [← HRes.out]
        unfold lenP
        rw [if_neg (by rw [HS.out.chk]; simp), if_pos hb])
      subst h3
      go_wp2_with fail
      refine (HNum.out _ _).mono ?_; rintro e w' ⟨rfl, rfl⟩
      go_wp2
      go_ret2
      exact ⟨.slice none 0 0, by rw [HR.out]; rfl, by rw [HR.out]; exact World.ownsRow_nil _ _ _ _, HB3.out⟩
    · have h3' : (E == 3) = false := by simpa using h3
      have ht : Hid (0 ≤ t ∧ t < T.length) := hide_ (by
        refine Decidable.byContradiction fun hh => h3 ?_
        have ha := HA.out
        unfold tyV at ha
        rw [if_neg (by rw [HS.out.chk]; simp), if_pos (by omega)] at ha
        injection ha with _ ha
        injection ha with ha _
        exact ha.symm)
      by_cases h0 : E = 0
      · have hE : (E != 0) = false := by simp [h0]
        have hty : (tyV T R t V).2.1 = 0 := by rw [HA.out]; exact h0
        have HTy := hide_ hty
        obtain ⟨r, -, hrl, hlen, hV0⟩ := len_good HS.out hNv.out ht.out.1 ht.out.2 hty
        have HR : Hid (res.1 = 0) := hide_ (by rw [← HRes.out, hlen])
        clear hty h0 h3 h3'
        obtain ⟨bT, oT, rfl, -, -⟩ := hT.out.open (by have := ht.out; omega)
        obtain ⟨bV, oV, rfl, -, -⟩ := hVr.out.open hV0
        have HCl := hide_ (rlengths_any bT oT cT T aR cR R t bV oV cV V w3 hn hm hV ht.out.1 ht.out.2 hL HS (hide_ (hT.out.later HB3.out)) (hide_ (hRr.out.later HB3.out)) (hide_ (hVr.out.later HB3.out)) hNv HTy)
        rw [HRes.out] at HCl
        have h3'' : (E == 3) = false := by
          have : E = 0 := by simpa using hE
          simp [this]
        clear hrl hlen hV0
        go_wp2_with fail
        refine HCl.out.mono ?_
        rintro e w4 ⟨v, rfl, HO4, HB4⟩
        have HBf := hide_ (below_to HB3.out HB4.out)
        go_wp2
        go_ret2
        exact ⟨v, by rw [HR.out]; rfl, own_base HO4.out HB3.out.size, HBf.out⟩
      · have hE : (E != 0) = true := by simpa using h0
        have HR : Hid (res = (40, [])) := hide_ (by rw [← HRes.out]; exact (len_bad HS.out hNv.out ht.out.1 ht.out.2 (by rw [HA.out]; exact h0)).1)
        go_wp2_with fail
        refine (HNum.out _ _).mono ?_; rintro e w' ⟨rfl, rfl⟩
        go_wp2
        go_ret2
        exact ⟨.slice none 0 0, by rw [HR.out]; rfl, by rw [HR.out]; exact World.ownsRow_nil _ _ _ _, HB3.out⟩
  · have hc' : (cE != 0) = true := by simpa using hc
    have HR : Hid (res = (E, [])) := hide_ (by
      have ha := HA.out
      have hne : (chk T R).1 ≠ 0 := by rw [HCK.out]; exact hc
      unfold tyV at ha
      rw [if_pos hne] at ha
      injection ha with _ ha
      rw [← HRes.out]
      unfold lenP
      rw [if_pos hne, ha])
    go_wp2_with fail
    refine (HNum.out _ _).mono ?_; rintro e w' ⟨rfl, rfl⟩
    go_wp2
    go_ret2
    exact ⟨.slice none 0 0, by rw [HR.out]; rfl, by rw [HR.out]; exact World.ownsRow_nil _ _ _ _, HB3.out⟩
end Go.Proofs.Ytdpkmkhflgmioaa
