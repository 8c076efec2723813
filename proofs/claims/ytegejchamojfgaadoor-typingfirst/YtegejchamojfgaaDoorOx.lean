/- TypingFirst: its walk. -/
import Derived.Test.YtegejchamojfgaaDoorOt
import Derived.Test.YtegejchamojfgaaDoorOu
import Derived.Test.YtegejchamojfgaaDoorOw
namespace Go.Proofs.YtegejchamojfgaaDoor
open Go.RowKit
set_option linter.unusedVariables false

theorem TOwn.updN {w w' : World} {B : Nat} {v : Value} {Q : List (Ty × Value)} (h : TOwn w B v Q) {g : Nat} {t : TypeId} {ys : List Value} (hu : Upd (fun k => k = g) w w') (hb : Blk w g t ys) (hg : B ≤ g) (h1 : t ≠ 68) (h2 : t ≠ 73) : TOwn w' B v Q := by
  refine ⟨ownS_upd h.1 hu (fun k hk e => ?_), fun p hp => (h.2 p hp).upd hu (fun k e => by omega) (fun k zs e hz => ?_)⟩
  · obtain ⟨zs, hz⟩ := ownS_type h.1 hk
    subst e
    exact h1 (blk_type hb hz)
  · subst e
    exact h2 (blk_type hb hz)
theorem ROwn.updN {w w' : World} {B : Nat} {v : Value} {l : List Rt} (h : ROwn w B v l) {g : Nat} {t : TypeId} {ys : List Value} (hu : Upd (fun k => k = g) w w') (hb : Blk w g t ys) (h1 : t ≠ 75) : ROwn w' B v l :=
  ownS_upd h hu (fun k hk e => by
    obtain ⟨zs, hz⟩ := ownS_type h hk
    subst e
    exact h1 (blk_type hb hz))
/-- TypingFirst's memory: the schema's box, its rows, the nodes. -/
structure FiS (w w5 wr : World) (bs : Nat) (vT vR vN : Value) (Q : List (Ty × Value)) (Rc : List Rt) (W : List Nv) : Prop where
  sch : Blk wr bs 25 [vT, vR]
  ty : TOwn wr w.heap.size vT Q
  rt : ROwn wr w.heap.size vR Rc
  nod : NOwn wr w5.heap.size vN W
  bel : Below w.heap.size w wr
theorem FiS.later {w w5 wr w' : World} {bs : Nat} {vT vR vN : Value} {Q : List (Ty × Value)} {Rc : List Rt} {W : List Nv} (h : FiS w w5 wr bs vT vR vN Q Rc W) (hB : Below wr.heap.size wr w') : FiS w w5 w' bs vT vR vN Q Rc W :=
  ⟨h.sch.later hB, h.ty.later hB, h.rt.later hB, h.nod.later hB, below_to h.bel hB⟩
/-- A store into a node of the list. -/
theorem FiS.set {w w5 wr w' : World} {bs g : Nat} {vT vR : Value} {n c : Nat} {Q : List (Ty × Value)} {Rc : List Rt} {W W' : List Nv} (h : FiS w w5 wr bs vT vR (.slice (some ⟨g, 0, none⟩) n c) Q Rc W) (h5 : w.heap.size ≤ w5.heap.size) (hW : 0 < W.length) (hu : Upd (fun k => k = g) wr w') (hN : NOwn w' w5.heap.size (.slice (some ⟨g, 0, none⟩) n c) W') : FiS w w5 w' bs vT vR (.slice (some ⟨g, 0, none⟩) n c) Q Rc W' := by
  obtain ⟨zs, hz⟩ := ownS_type h.nod (k := g) rfl
  have hg := (World.ownsRow.lt h.nod g rfl).1
  refine ⟨h.sch.upd hu (fun e => ?_), h.ty.updN hu hz (by omega) (by decide) (by decide), h.rt.updN hu hz (by decide), hN, h.bel.trans (hu.below _ h.bel.size (fun k e => by omega))⟩
  exact absurd (blk_type h.sch (e ▸ hz)) (by decide)
set_option maxRecDepth 100000 in
set_option maxHeartbeats 8000000 in
theorem first_any (aT : Option Addr) (cT : Nat) (T : List Ty) (aR : Option Addr) (cR : Nat) (R : List Rt) (t : Int) (aP : Option Addr) (cP : Nat) (p : List Int) (at' : Int) (x : Nv) (aM : Option Addr) (cM : Nat) (ms : List Int) (w : World) (hn : T.length ≤ 1000000000000000) (hm : R.length ≤ 1000000000000000) (hcR : R.length ≤ cR) (hnil : aR = none → cR = 0) (hl : Hid (LensT T)) (hT : Hid (TRow w aT T)) (hRr : Hid (RRow w aR R)) (hpn : p.length ≤ 1000000000000000) (hpc : p.length ≤ cP) (hpnil : aP = none → cP = 0) (hPr : Hid (Row .i64 w aP p)) (hx : NvOk x) (hms : ms.length ≤ 1000000000000000) (hMr : Hid (Row .i64 w aM ms)) (ht : Hid (Tab w)) :
    Calls Tryd.prog 3 #[.agg #[.slice aT T.length cT, .slice aR R.length cR], .int .i64 t, .slice aP p.length cP, .int .i64 at', .agg #[.int .i64 x.k, .int .u64 x.n, .int .i64 x.kids], .slice aM ms.length cM] w fun e w' => e = .returned (.bool true) ∧ Below w.heap.size w w' := by
  have hB2 := below2 w (.cells #[.slice aT T.length cT, .slice aR R.length cR] 25) (.cells #[.int .i64 x.k, .int .u64 x.n, .int .i64 x.kids] 29)
  obtain ⟨k1, k2⟩ := blk2 w #[.slice aT T.length cT, .slice aR R.length cR] #[.int .i64 x.k, .int .u64 x.n, .int .i64 x.kids] 25 29
  obtain ⟨w2, hw2⟩ : ∃ wx, wx = (w.alloc (.cells #[.slice aT T.length cT, .slice aR R.length cR] 25)).alloc (.cells #[.int .i64 x.k, .int .u64 x.n, .int .i64 x.kids] 29) := ⟨_, rfl⟩
  rw [← hw2] at hB2 k1 k2
  have HZ2 : Hid (w.heap.size + 2 ≤ w2.heap.size) := hide_ (by rw [hw2]; simp)
  have K1 := hide_ k1
  have K2 := hide_ k2
  have HB2 := hide_ hB2
  have HAw := hide_ (awake_any w2 (hide_ (ht.out.later hB2)))
  clear k1 k2 hB2
  go_enter Tryd.func3, Tryd.ntmps3
  go_upto_region 1 with fail
  rw [← hw2]
  clear hw2
  go_wp2_with fail
  refine HAw.out.mono ?_
  rintro e w3 ⟨rfl, hB3⟩
  have HB3 := hide_ (below_to HB2.out hB3)
  have K13 := hide_ (K1.out.later hB3)
  have K23 := hide_ (K2.out.later hB3)
  have hz3 : w.heap.size + 2 ≤ w3.heap.size := Nat.le_trans HZ2.out hB3.size
  have HMd := hide_ (made_any aT cT T aR cR R t aP cP p w w3 hn hm hcR hnil hl HB3 hT (hide_ (hRr.out.later HB3.out)) hpn hpc hpnil (hide_ (hPr.out.later HB3.out)))
  have i0 := K13.out.cell 0; have i1 := K13.out.cell 1
  simp at i0 i1
  clear hB3 HAw K1 K2
  go_wp2_with fail
  refine HMd.out.mono ?_
  rintro e w4 ⟨a, cap, ar, cr, Q, t', v', ok, rfl, HT4, HQ, HR4, HOk, HB4⟩
  have hlc : (cutT T).length ≤ 120 := by simp [cutT]; omega
  have hlr : (R.take 260).length ≤ 260 := by simp; omega
  have HLs := hide_ (cutT_lens T)
  generalize cutT T = U at *
  generalize R.take 260 = Rc at *
  have HB4x := hide_ (below_to HB3.out HB4.out)
  obtain ⟨w5, hw5⟩ : ∃ wx, wx = w4.alloc (.cells #[.slice a U.length cap, .slice ar Rc.length cr] 25) := ⟨_, rfl⟩
  have b5 : Below w4.heap.size w4 w5 := by rw [hw5]; exact below1 _ _
  have k5 : Blk w5 w4.heap.size 25 [.slice a U.length cap, .slice ar Rc.length cr] := by rw [hw5]; exact Blk.newA w4 _ _
  have K5 := hide_ k5
  have HB5 := hide_ (below_to HB4x.out b5)
  have KN5 := hide_ ((K23.out.later HB4.out).later b5)
  have HT5 := hide_ (HT4.out.later b5)
  have HR5 := hide_ (HR4.out.later b5)
  have hz5 : w.heap.size + 2 ≤ w5.heap.size := Nat.le_trans hz3 (Nat.le_trans HB4.out.size b5.size)
  cases ok with
  | false =>
    go_upto_region 4 with fail
    rw [← hw5]
    clear hw5
    go_wp2
    go_ret
    exact ⟨rfl, HB5.out⟩
  | true =>
    obtain ⟨hS, ht0, ht1, p', hIp, hpl⟩ := HOk.out rfl
    have HS := hide_ hS
    obtain ⟨ap, cp, hv', hrp, -⟩ := own_open (hIp.later b5) rfl
    subst hv'
    have HSm := hide_ (some_any a cap U ar cr Rc t' ap p'.length cp p' w5 (by omega) (by omega) HLs (hide_ (town_row HT5.out HQ.out)) (hide_ (rown_row HR5.out)) (hide_ rfl) (hide_ hrp) (hide_ (ht.out.later HB5.out)))
    clear i0 i1 b5 k5 hIp hrp HOk hS
    have i0 := K5.out.cell 0; have i1 := K5.out.cell 1
    simp at i0 i1
    go_upto_region 4 with fail
    rw [← hw5]
    clear hw5
    go_wp2_with fail
    refine HSm.out.mono ?_
    rintro e w6 ⟨v6, rfl, HN6, HB6⟩
    have HB6x := hide_ (below_to HB5.out HB6.out)
    rcases someT_ok (p := p') HS.out ht0 ht1 with h5 | ⟨V, hV, hV0, hV1, hVk⟩
    · have h52 : (someT U Rc t' p').2 = 5 := by rw [h5]
      simp only [h52]
      go_wp2_with (go_at_call 11; refine (num_any _ _).mono ?_; rintro e w' ⟨rfl, rfl⟩)
      all_goals
        go_ret
        exact ⟨rfl, HB6x.out⟩
    · have h02 : (someT U Rc t' p').2 = 0 := by rw [hV]
      rw [hV] at HN6
      simp only at HN6
      simp only [h02]
      obtain ⟨g, c6, ys, hv6, hbg, hnc, -, -, -, -⟩ := ownS_blk HN6.out hV0
      subst hv6
      have hVz : ((V.length : Int) == 0) = false := by simp; intro h; rw [h] at hV0; simp at hV0
      have hVz2 : (V.length == 0) = false := by simp; intro h; rw [h] at hV0; simp at hV0
      have HF6 : Hid (FiS w w5 w6 w4.heap.size (.slice a U.length cap) (.slice ar Rc.length cr) (.slice (some ⟨g, 0, none⟩) V.length c6) Q Rc V) := hide_ ⟨K5.out.later HB6.out, HT5.out.later HB6.out, HR5.out.later HB6.out, HN6.out, HB6x.out⟩
      have KN6 := hide_ (KN5.out.later HB6.out)
      clear HT5 HR5 HSm HT4 HR4 HMd i0 i1
      go_wp2_with (go_at_call 11; refine (num_any _ _).mono ?_; rintro e w' ⟨rfl, rfl⟩)
      refine (rest_any at' V.length _ (by omega) (by omega)).mono ?_
      rintro e w' ⟨r, rfl, hr0, hr1, rfl⟩
      obtain ⟨k, rfl⟩ := Int.eq_ofNat_of_zero_le hr0
      have hk : k < V.length := by omega
      have hzx : V[k]? = some (V[k]'hk) := List.getElem?_eq_getElem hk
      obtain ⟨z0, z1, z2⟩ := HF6.out.nod.at3 hzx
      have hzo := hVk _ (List.getElem_mem hk)
      generalize V[k]'hk = z at *
      have n0 := KN6.out.cell 0; have n1 := KN6.out.cell 1; have n2 := KN6.out.cell 2
      have nf := fun i => KN6.out.frozen i
      simp at n0 n1 n2
      have hgq : g ≠ w.heap.size + 1 := by omega
      obtain ⟨w7, hw7⟩ : ∃ wx, wx = w6.setCell ⟨w.heap.size + 1, 2, none⟩ (.int .i64 z.kids) := ⟨_, rfl⟩
      have u7 : Upd (fun k => k = w.heap.size + 1) w6 w7 := by rw [hw7]; exact (Upd.refl _ w6).set _ _ (.inl rfl)
      have KN7 : Hid (Blk w7 (w.heap.size + 1) 29 [.int .i64 x.k, .int .u64 x.n, .int .i64 z.kids]) := hide_ (by rw [hw7]; have h := KN6.out.set 2 (.int .i64 z.kids); simpa using h)
      have HF7 : Hid (FiS w w5 w7 w4.heap.size (.slice a U.length cap) (.slice ar Rc.length cr) (.slice (some ⟨g, 0, none⟩) V.length c6) Q Rc V) := hide_ ⟨HF6.out.sch.upd u7 (fun e => absurd (blk_type HF6.out.sch (e ▸ KN6.out)) (by decide)), HF6.out.ty.updN u7 KN6.out (by omega) (by decide) (by decide), HF6.out.rt.updN u7 KN6.out (by decide), HF6.out.nod.upd u7 (fun k hk e => by have := own_is hk; omega), HF6.out.bel.trans (u7.below _ HF6.out.bel.size (fun k e => by omega))⟩
      obtain ⟨y0, y1, y2⟩ := HF7.out.nod.at3 hzx
      have yf := fun i => HF7.out.nod.fr i
      have m0 := KN7.out.cell 0; have m1 := KN7.out.cell 1; have m2 := KN7.out.cell 2
      simp at m0 m1 m2
      obtain ⟨w8, hw8⟩ : ∃ wx, wx = ((w7.setCell ⟨g, k * 3, none⟩ (.int .i64 x.k)).setCell ⟨g, k * 3 + 1, none⟩ (.int .u64 x.n)).setCell ⟨g, k * 3 + 2, none⟩ (.int .i64 z.kids) := ⟨_, rfl⟩
      have u8 : Upd (fun k => k = g) w7 w8 := by rw [hw8]; exact (((Upd.refl (fun k => k = g) w7).set ⟨g, k * 3, none⟩ _ (.inl rfl)).set ⟨g, k * 3 + 1, none⟩ _ (.inl rfl)).set ⟨g, k * 3 + 2, none⟩ _ (.inl rfl)
      have hN8 : NOwn w8 w5.heap.size (.slice (some ⟨g, 0, none⟩) V.length c6) (V.set k ⟨x.k, x.n, z.kids⟩) := by
        rw [hw8]
        have h := HF7.out.nod.set3 hk ⟨x.k, x.n, z.kids⟩
        simp only at h
        exact h
      have HF8 := hide_ (HF7.out.set (by omega) hV0 u8 hN8)
      have hW : ∀ y ∈ V.set k ⟨x.k, x.n, z.kids⟩, NvOk y := fun y hy => by
        rcases List.mem_or_eq_of_mem_set hy with h | h
        · exact hVk y h
        · rw [h]; exact hx
      have hWl : (V.set k ⟨x.k, x.n, z.kids⟩).length = V.length := by simp
      generalize V.set k ⟨x.k, x.n, z.kids⟩ = W at *
      have HCk : Hid (∀ (W : List Nv) (w' : World), W.length = V.length → FiS w w5 w' w4.heap.size (.slice a U.length cap) (.slice ar Rc.length cr) (.slice (some ⟨g, 0, none⟩) V.length c6) Q Rc W → Calls Tryd.prog 13 #[.agg #[.slice a U.length cap, .slice ar Rc.length cr], .int .i64 t', .slice (some ⟨g, 0, none⟩) V.length c6] w' fun e w'' => e = .returned (.agg #[.int .i64 (tyV U Rc t' W).2.1, .int .i64 (tyV U Rc t' W).2.2]) ∧ Below w'.heap.size w' w'') := hide_ (fun W w' hl h => by
        obtain ⟨a', c', e', hr'⟩ := h.nod.row
        injection e' with e1 _ _
        subst e1
        have h2 := tcheck_any a cap U ar cr Rc t' (some ⟨g, 0, none⟩) c6 W w' (by omega) (by omega) (by omega) HLs (hide_ (town_row h.ty HQ.out)) (hide_ (rown_row h.rt)) (hide_ hr') (hide_ (ht.out.later h.bel))
        rw [hl] at h2
        exact h2)
      have HCk8 := hide_ (HCk.out W w8 hWl HF8.out)
      have HWk := hide_ hW
      have HWl := hide_ hWl
      clear u7 u8 hN8 hW hWl hzo hzx KN5 HF6 HN6 HB6x
      go_upto_region 11 with fail
      rw [← hw7]
      clear hw7 z0 z1 z2 n0 n1 n2 nf
      go_upto_region 12 with fail
      rw [← hw8]
      clear hw8 y0 y1 y2 yf m0 m1 m2
      have i0 := HF8.out.sch.cell 0; have i1 := HF8.out.sch.cell 1
      simp at i0 i1
      go_wp2_with fail
      refine HCk8.out.mono ?_
      rintro e w9 ⟨rfl, hB9⟩
      have HF9 := hide_ (HF8.out.later hB9)
      obtain ⟨e1, he1⟩ : ∃ e1, (tyV U Rc t' W).2.1 = e1 := ⟨_, rfl⟩
      obtain ⟨e2, he2⟩ : ∃ e2, (tyV U Rc t' W).2.2 = e2 := ⟨_, rfl⟩
      have HE1 := hide_ he1
      rw [he1, he2]
      obtain ⟨w10, hw10⟩ : ∃ wx, wx = w9.alloc (.cells #[.int .i64 e1, .int .i64 e2] 40) := ⟨_, rfl⟩
      have b10 : Below w9.heap.size w9 w10 := by rw [hw10]; exact below1 _ _
      have k10 : Blk w10 w9.heap.size 40 [.int .i64 e1, .int .i64 e2] := by rw [hw10]; exact Blk.newA w9 _ _
      have HF10 := hide_ (HF9.out.later b10)
      have K10 := hide_ k10
      have p0 := k10.cell 0; have p1 := k10.cell 1
      simp at p0 p1
      have HE2r := hide_ he2
      clear hB9 b10 k10 HF8 HF9 HCk8 HF7 KN7 KN6 he1 he2 i0 i1
      go_upto_region 13 with fail
      rw [← hw10]
      clear hw10
      by_cases he40 : e1 = 40
      · subst he40
        go_wp2_with (go_at_call 11; refine (num_any _ _).mono ?_; rintro e w' ⟨rfl, rfl⟩)
        go_ret
        exact ⟨rfl, HF10.out.bel⟩
      by_cases he0 : e1 = 0
      · subst he0
        go_wp2_with (go_at_call 11; refine (num_any _ _).mono ?_; rintro e w' ⟨rfl, rfl⟩)
        go_ret
        exact ⟨rfl, HF10.out.bel⟩
      have he40' : (e1 == 40) = false := by simpa using he40
      have he0' : (e1 == 0) = false := by simpa using he0
      obtain ⟨f, hf, hfl⟩ := first_at (V := W) HS.out ht0 ht1 (by rw [HE1.out]; exact he0) (by rw [HE1.out]; exact he40)
      have HE2 := hide_ hf
      rw [HE2r.out] at hf
      subst hf
      clear HE2r hfl
      go_wp2_with (go_at_call 11; refine (num_any _ _).mono ?_; rintro e w' ⟨rfl, rfl⟩)
      go_loopw [20] (fun x20 wr => ∃ (i : Nat) (W' : List Nv), i ≤ ms.length ∧ i ≤ 60 ∧ x20 = .int .i64 (i : Int) ∧ Hid (W'.length = V.length) ∧ Hid (∀ y ∈ W', NvOk y) ∧ Hid (tyV U Rc t' W' = tyV U Rc t' W) ∧ Hid (FiS w w5 wr w4.heap.size (.slice a U.length cap) (.slice ar Rc.length cr) (.slice (some ⟨g, 0, none⟩) V.length c6) Q Rc W') ∧ Hid (Blk wr w9.heap.size 40 [.int .i64 e1, .int .i64 (f : Int)])) (fun x20 _ => 60 - (intOf x20).toNat)
      case atStart => exact ⟨0, W, Nat.zero_le _, Nat.zero_le _, rfl, HWl, HWk, rfl, HF10, K10⟩
      case round =>
        obtain ⟨i, W', hi, hi2, rfl, HLw, HOw, HTw, HFw, HKw⟩ := hrel
        generalize wr = wq at *
        clear HF10 K10
        by_cases hlt : (i : Int) < ms.length
        · by_cases h60 : (i : Int) < 60
          · have him : i < ms.length := by omega
            obtain ⟨bM, oM, rfl, hbM, hcM⟩ := hMr.out.open (by omega)
            have cM1 := (HFw.out.bel.cell (p := ⟨bM, oM + i, none⟩) hbM).trans (hcM i him)
            generalize ms.getD i 0 = m at *
            clear hcM p0 p1
            have p0 := HKw.out.cell 0; have p1 := HKw.out.cell 1
            simp at p0 p1
            go_wp2_with fail
            refine (rest_any m V.length _ (by omega) (by omega)).mono ?_
            rintro e w' ⟨r, rfl, hr0, hr1, rfl⟩
            obtain ⟨j, rfl⟩ := Int.eq_ofNat_of_zero_le hr0
            by_cases hjf' : (j : Int) ≤ (f : Int)
            · go_wp2
              go_roundw
              case rel => exact ⟨i + 1, W', by omega, by omega, by go_num, HLw, HOw, HTw, HFw, HKw⟩
              case measure => simp [intOf]; omega
            · have hjf : f < j := by omega
              have hjW : j < W'.length := by have := HLw.out; omega
              have hjV : (j : Int) < V.length := hr1
              have hzx : W'[j]? = some (W'[j]'hjW) := List.getElem?_eq_getElem hjW
              obtain ⟨z0, z1, z2⟩ := HFw.out.nod.at3 hzx
              have zf := fun i => HFw.out.nod.fr i
              generalize W'[j]'hjW = z at *
              by_cases hzk : z.k = 1
              · have hzk' : (z.k == 1) = true := by simp [hzk]
                have HT1 : Hid (turnN z m = ⟨z.k, IntKind.u64.wrap (z.n + IntKind.u64.wrap m), z.kids⟩) := hide_ (by simp [turnN, hzk])
                have hst := first_stays HS.out ht0 ht1 HOw.out (by rw [HTw.out, HE1.out]; exact he0) (by rw [HTw.out, HE1.out]; exact he40) (by rw [HTw.out]; exact HE2.out) hzx hjf m
                rw [HT1.out] at hst
                obtain ⟨w11, hw11⟩ : ∃ wx, wx = (wq.setCell ⟨g, j * 3 + 1, none⟩ (.int .u64 (IntKind.u64.wrap (z.n + IntKind.u64.wrap m)))).drew := ⟨_, rfl⟩
                have u11 : Upd (fun k => k = g) wq w11 := by rw [hw11]; exact ((Upd.refl (fun k => k = g) wq).set ⟨g, j * 3 + 1, none⟩ _ (.inl rfl)).drew
                have hN11 : NOwn w11 w5.heap.size (.slice (some ⟨g, 0, none⟩) V.length c6) (W'.set j ⟨z.k, IntKind.u64.wrap (z.n + IntKind.u64.wrap m), z.kids⟩) := by rw [hw11]; exact HFw.out.nod.setN hzx _
                have HFn := hide_ (HFw.out.set (by omega) (by have := HLw.out; omega) u11 hN11)
                have HKn : Hid (Blk w11 w9.heap.size 40 [.int .i64 e1, .int .i64 (f : Int)]) := hide_ (HKw.out.upd u11 (fun e => by obtain ⟨zs, hz⟩ := ownS_type HFw.out.nod (k := g) rfl; exact absurd (blk_type HKw.out (e ▸ hz)) (by decide)))
                have HTn : Hid (tyV U Rc t' (W'.set j ⟨z.k, IntKind.u64.wrap (z.n + IntKind.u64.wrap m), z.kids⟩) = tyV U Rc t' W) := hide_ (by rw [hst.1]; exact HTw.out)
                have HOn := hide_ hst.2
                have HLn : Hid ((W'.set j ⟨z.k, IntKind.u64.wrap (z.n + IntKind.u64.wrap m), z.kids⟩).length = V.length) := hide_ (by rw [List.length_set]; exact HLw.out)
                generalize W'.set j ⟨z.k, IntKind.u64.wrap (z.n + IntKind.u64.wrap m), z.kids⟩ = W2 at *
                clear hst u11 hN11
                go_wp2_with fail
                go_region
                rw [← hw11]
                clear hw11 z0 z1 z2 zf cM1 p0 p1
                have HSS : Hid (∀ w', Below w11.heap.size w11 w' → (fun w' => w'.cell? ⟨w4.heap.size, 0, none⟩ = some (.slice a U.length cap) ∧ w'.cell? ⟨w4.heap.size, 1, none⟩ = some (.slice ar Rc.length cr) ∧ w'.cell? ⟨w9.heap.size, 0, none⟩ = some (.int .i64 e1) ∧ w'.cell? ⟨w9.heap.size, 1, none⟩ = some (.int .i64 (f : Int))) w') := hide_ (fun w' hB => ⟨(HFn.out.sch.later hB).cell 0, (HFn.out.sch.later hB).cell 1, (HKn.out.later hB).cell 0, (HKn.out.later hB).cell 1⟩)
                have HCn := hide_ (HCk.out W2 w11.drew HLn.out (HFn.out.later ((Below.refl _ _).drew)))
                rw [HTn.out, HE1.out, HE2.out] at HCn
                go_upto_region 27 with fail
                refine wp_region_held_drew (S := (fun w' => w'.cell? ⟨w4.heap.size, 0, none⟩ = some (.slice a U.length cap) ∧ w'.cell? ⟨w4.heap.size, 1, none⟩ = some (.slice ar Rc.length cr) ∧ w'.cell? ⟨w9.heap.size, 0, none⟩ = some (.int .i64 e1) ∧ w'.cell? ⟨w9.heap.size, 1, none⟩ = some (.int .i64 (f : Int)))) (by kernel_rfl) (HSS.out _ ((Below.refl _ _).drew)) (fun hHeld => ?_)
                refine wpAnyH_take (i := 0) (v := ?vk11) rfl (by kernel_rfl) (by kernel_rfl) (by kernel_rfl) (fun _ _ _ h => h) (Or.inl ⟨by rfl, ?hyk11⟩) hHeld ?restk11
                case hyk11 => intro w' hSw; (try dsimp only at hSw); go_simp; try with_reducible rfl
                simp only [Act.put]
                refine wpAnyH_take (i := 1) (v := ?vk12) rfl (by kernel_rfl) (by kernel_rfl) (by kernel_rfl) (fun _ _ _ h => h) (Or.inl ⟨by rfl, ?hyk12⟩) hHeld ?restk12
                case hyk12 => intro w' hSw; (try dsimp only at hSw); go_simp; try with_reducible rfl
                simp only [Act.put]
                refine wpAnyH_take (i := 2) (v := ?vk13) rfl (by kernel_rfl) (by kernel_rfl) (by kernel_rfl) (fun _ _ _ h => h) (Or.inl ⟨by rfl, ?hyk13⟩) hHeld ?restk13
                case hyk13 => intro w' hSw; (try dsimp only at hSw); go_simp; try with_reducible rfl
                simp only [Act.put]
                refine wpAnyH_take (i := 4) (v := ?vk14) rfl (by kernel_rfl) (by kernel_rfl) (by kernel_rfl) (fun _ _ _ h => h) (Or.inl ⟨by rfl, ?hyk14⟩) hHeld ?restk14
                case hyk14 => intro w' hSw; (try dsimp only at hSw); go_simp; try with_reducible rfl
                simp only [Act.put]
                refine wpAnyH_ready (rs := [3]) (by kernel_rfl) (by simp) ?_
                refine AllReadyH.cons rfl (fun K hK => ?_) AllReadyH.nil
                go_simp
                refine HCn.out.mono ?_
                rintro e w12 ⟨rfl, hB12⟩
                have HB12 := hide_ (below_to ((Below.refl w11.heap.size w11).drew) hB12)
                have HS12 := hide_ (HSS.out _ HB12.out)
                have HF12 := hide_ (HFn.out.later HB12.out)
                have HK12 := hide_ (HKn.out.later HB12.out)
                clear hB12
                dsimp only
                refine hK.out _ _ (HS12.out) (fun hHeld => ?_)
                clear hK K
                refine wpAnyH_ready (rs := [5]) (by kernel_rfl) (by simp) ?_
                refine AllReadyH.cons rfl (fun K hK => ?_) AllReadyH.nil
                go_simp
                refine hK.out _ _ (HS12.out) (fun hHeld => ?_)
                clear hK K
                refine wpAnyH_done (by kernel_rfl) ?_ _
                go_wp2
                go_roundw
                case rel => exact ⟨i + 1, _, by omega, by omega, by go_num, HLn, HOn, HTn, HF12, HK12⟩
                case measure => simp [intOf]; omega
              have h1k : (z.k == 1) = false := by simp [hzk]
              by_cases hzk2 : z.k = 2
              · have hzk' : (z.k == 2) = true := by simp [hzk2]
                have HT1 : Hid (turnN z m = ⟨z.k, IntKind.u64.wrap (1 - z.n), z.kids⟩) := hide_ (by simp [turnN, hzk2])
                have hst := first_stays HS.out ht0 ht1 HOw.out (by rw [HTw.out, HE1.out]; exact he0) (by rw [HTw.out, HE1.out]; exact he40) (by rw [HTw.out]; exact HE2.out) hzx hjf m
                rw [HT1.out] at hst
                obtain ⟨w11, hw11⟩ : ∃ wx, wx = wq.setCell ⟨g, j * 3 + 1, none⟩ (.int .u64 (IntKind.u64.wrap (1 - z.n))) := ⟨_, rfl⟩
                have u11 : Upd (fun k => k = g) wq w11 := by rw [hw11]; exact (Upd.refl (fun k => k = g) wq).set ⟨g, j * 3 + 1, none⟩ _ (.inl rfl)
                have hN11 : NOwn w11 w5.heap.size (.slice (some ⟨g, 0, none⟩) V.length c6) (W'.set j ⟨z.k, IntKind.u64.wrap (1 - z.n), z.kids⟩) := by rw [hw11]; exact HFw.out.nod.setN hzx _
                have HFn := hide_ (HFw.out.set (by omega) (by have := HLw.out; omega) u11 hN11)
                have HKn : Hid (Blk w11 w9.heap.size 40 [.int .i64 e1, .int .i64 (f : Int)]) := hide_ (HKw.out.upd u11 (fun e => by obtain ⟨zs, hz⟩ := ownS_type HFw.out.nod (k := g) rfl; exact absurd (blk_type HKw.out (e ▸ hz)) (by decide)))
                have HTn : Hid (tyV U Rc t' (W'.set j ⟨z.k, IntKind.u64.wrap (1 - z.n), z.kids⟩) = tyV U Rc t' W) := hide_ (by rw [hst.1]; exact HTw.out)
                have HOn := hide_ hst.2
                have HLn : Hid ((W'.set j ⟨z.k, IntKind.u64.wrap (1 - z.n), z.kids⟩).length = V.length) := hide_ (by rw [List.length_set]; exact HLw.out)
                generalize W'.set j ⟨z.k, IntKind.u64.wrap (1 - z.n), z.kids⟩ = W2 at *
                clear hst u11 hN11
                go_upto_region 27 with fail
                rw [← hw11]
                clear hw11 z0 z1 z2 zf cM1 p0 p1
                have HSS : Hid (∀ w', Below w11.heap.size w11 w' → (fun w' => w'.cell? ⟨w4.heap.size, 0, none⟩ = some (.slice a U.length cap) ∧ w'.cell? ⟨w4.heap.size, 1, none⟩ = some (.slice ar Rc.length cr) ∧ w'.cell? ⟨w9.heap.size, 0, none⟩ = some (.int .i64 e1) ∧ w'.cell? ⟨w9.heap.size, 1, none⟩ = some (.int .i64 (f : Int))) w') := hide_ (fun w' hB => ⟨(HFn.out.sch.later hB).cell 0, (HFn.out.sch.later hB).cell 1, (HKn.out.later hB).cell 0, (HKn.out.later hB).cell 1⟩)
                have HCn := hide_ (HCk.out W2 w11.drew HLn.out (HFn.out.later ((Below.refl _ _).drew)))
                rw [HTn.out, HE1.out, HE2.out] at HCn
                refine wp_region_held_drew (S := (fun w' => w'.cell? ⟨w4.heap.size, 0, none⟩ = some (.slice a U.length cap) ∧ w'.cell? ⟨w4.heap.size, 1, none⟩ = some (.slice ar Rc.length cr) ∧ w'.cell? ⟨w9.heap.size, 0, none⟩ = some (.int .i64 e1) ∧ w'.cell? ⟨w9.heap.size, 1, none⟩ = some (.int .i64 (f : Int)))) (by kernel_rfl) (HSS.out _ ((Below.refl _ _).drew)) (fun hHeld => ?_)
                refine wpAnyH_take (i := 0) (v := ?vk21) rfl (by kernel_rfl) (by kernel_rfl) (by kernel_rfl) (fun _ _ _ h => h) (Or.inl ⟨by rfl, ?hyk21⟩) hHeld ?restk21
                case hyk21 => intro w' hSw; (try dsimp only at hSw); go_simp; try with_reducible rfl
                simp only [Act.put]
                refine wpAnyH_take (i := 1) (v := ?vk22) rfl (by kernel_rfl) (by kernel_rfl) (by kernel_rfl) (fun _ _ _ h => h) (Or.inl ⟨by rfl, ?hyk22⟩) hHeld ?restk22
                case hyk22 => intro w' hSw; (try dsimp only at hSw); go_simp; try with_reducible rfl
                simp only [Act.put]
                refine wpAnyH_take (i := 2) (v := ?vk23) rfl (by kernel_rfl) (by kernel_rfl) (by kernel_rfl) (fun _ _ _ h => h) (Or.inl ⟨by rfl, ?hyk23⟩) hHeld ?restk23
                case hyk23 => intro w' hSw; (try dsimp only at hSw); go_simp; try with_reducible rfl
                simp only [Act.put]
                refine wpAnyH_take (i := 4) (v := ?vk24) rfl (by kernel_rfl) (by kernel_rfl) (by kernel_rfl) (fun _ _ _ h => h) (Or.inl ⟨by rfl, ?hyk24⟩) hHeld ?restk24
                case hyk24 => intro w' hSw; (try dsimp only at hSw); go_simp; try with_reducible rfl
                simp only [Act.put]
                refine wpAnyH_ready (rs := [3]) (by kernel_rfl) (by simp) ?_
                refine AllReadyH.cons rfl (fun K hK => ?_) AllReadyH.nil
                go_simp
                refine HCn.out.mono ?_
                rintro e w12 ⟨rfl, hB12⟩
                have HB12 := hide_ (below_to ((Below.refl w11.heap.size w11).drew) hB12)
                have HS12 := hide_ (HSS.out _ HB12.out)
                have HF12 := hide_ (HFn.out.later HB12.out)
                have HK12 := hide_ (HKn.out.later HB12.out)
                clear hB12
                dsimp only
                refine hK.out _ _ (HS12.out) (fun hHeld => ?_)
                clear hK K
                refine wpAnyH_ready (rs := [5]) (by kernel_rfl) (by simp) ?_
                refine AllReadyH.cons rfl (fun K hK => ?_) AllReadyH.nil
                go_simp
                refine hK.out _ _ (HS12.out) (fun hHeld => ?_)
                clear hK K
                refine wpAnyH_done (by kernel_rfl) ?_ _
                go_wp2
                go_roundw
                case rel => exact ⟨i + 1, _, by omega, by omega, by go_num, HLn, HOn, HTn, HF12, HK12⟩
                case measure => simp [intOf]; omega
              have h2k : (z.k == 2) = false := by simp [hzk2]
              by_cases hzk6 : z.k = 6
              · have hzk' : (z.k == 6) = true := by simp [hzk6]
                have HT1 : Hid (turnN z m = ⟨z.k, (IntKind.u64.wrap (z.n + 1)).tmod 256, z.kids⟩) := hide_ (by rw [Int.tmod_eq_emod_of_nonneg (by rw [IntKind.wrap_u64]; exact Int.emod_nonneg _ (by decide))]; simp [turnN, hzk6])
                have hst := first_stays HS.out ht0 ht1 HOw.out (by rw [HTw.out, HE1.out]; exact he0) (by rw [HTw.out, HE1.out]; exact he40) (by rw [HTw.out]; exact HE2.out) hzx hjf m
                rw [HT1.out] at hst
                obtain ⟨w11, hw11⟩ : ∃ wx, wx = wq.setCell ⟨g, j * 3 + 1, none⟩ (.int .u64 ((IntKind.u64.wrap (z.n + 1)).tmod 256)) := ⟨_, rfl⟩
                have u11 : Upd (fun k => k = g) wq w11 := by rw [hw11]; exact (Upd.refl (fun k => k = g) wq).set ⟨g, j * 3 + 1, none⟩ _ (.inl rfl)
                have hN11 : NOwn w11 w5.heap.size (.slice (some ⟨g, 0, none⟩) V.length c6) (W'.set j ⟨z.k, (IntKind.u64.wrap (z.n + 1)).tmod 256, z.kids⟩) := by rw [hw11]; exact HFw.out.nod.setN hzx _
                have HFn := hide_ (HFw.out.set (by omega) (by have := HLw.out; omega) u11 hN11)
                have HKn : Hid (Blk w11 w9.heap.size 40 [.int .i64 e1, .int .i64 (f : Int)]) := hide_ (HKw.out.upd u11 (fun e => by obtain ⟨zs, hz⟩ := ownS_type HFw.out.nod (k := g) rfl; exact absurd (blk_type HKw.out (e ▸ hz)) (by decide)))
                have HTn : Hid (tyV U Rc t' (W'.set j ⟨z.k, (IntKind.u64.wrap (z.n + 1)).tmod 256, z.kids⟩) = tyV U Rc t' W) := hide_ (by rw [hst.1]; exact HTw.out)
                have HOn := hide_ hst.2
                have HLn : Hid ((W'.set j ⟨z.k, (IntKind.u64.wrap (z.n + 1)).tmod 256, z.kids⟩).length = V.length) := hide_ (by rw [List.length_set]; exact HLw.out)
                generalize W'.set j ⟨z.k, (IntKind.u64.wrap (z.n + 1)).tmod 256, z.kids⟩ = W2 at *
                clear hst u11 hN11
                go_upto_region 27 with fail
                rw [← hw11]
                clear hw11 z0 z1 z2 zf cM1 p0 p1
                have HSS : Hid (∀ w', Below w11.heap.size w11 w' → (fun w' => w'.cell? ⟨w4.heap.size, 0, none⟩ = some (.slice a U.length cap) ∧ w'.cell? ⟨w4.heap.size, 1, none⟩ = some (.slice ar Rc.length cr) ∧ w'.cell? ⟨w9.heap.size, 0, none⟩ = some (.int .i64 e1) ∧ w'.cell? ⟨w9.heap.size, 1, none⟩ = some (.int .i64 (f : Int))) w') := hide_ (fun w' hB => ⟨(HFn.out.sch.later hB).cell 0, (HFn.out.sch.later hB).cell 1, (HKn.out.later hB).cell 0, (HKn.out.later hB).cell 1⟩)
                have HCn := hide_ (HCk.out W2 w11.drew HLn.out (HFn.out.later ((Below.refl _ _).drew)))
                rw [HTn.out, HE1.out, HE2.out] at HCn
                refine wp_region_held_drew (S := (fun w' => w'.cell? ⟨w4.heap.size, 0, none⟩ = some (.slice a U.length cap) ∧ w'.cell? ⟨w4.heap.size, 1, none⟩ = some (.slice ar Rc.length cr) ∧ w'.cell? ⟨w9.heap.size, 0, none⟩ = some (.int .i64 e1) ∧ w'.cell? ⟨w9.heap.size, 1, none⟩ = some (.int .i64 (f : Int)))) (by kernel_rfl) (HSS.out _ ((Below.refl _ _).drew)) (fun hHeld => ?_)
                refine wpAnyH_take (i := 0) (v := ?vk61) rfl (by kernel_rfl) (by kernel_rfl) (by kernel_rfl) (fun _ _ _ h => h) (Or.inl ⟨by rfl, ?hyk61⟩) hHeld ?restk61
                case hyk61 => intro w' hSw; (try dsimp only at hSw); go_simp; try with_reducible rfl
                simp only [Act.put]
                refine wpAnyH_take (i := 1) (v := ?vk62) rfl (by kernel_rfl) (by kernel_rfl) (by kernel_rfl) (fun _ _ _ h => h) (Or.inl ⟨by rfl, ?hyk62⟩) hHeld ?restk62
                case hyk62 => intro w' hSw; (try dsimp only at hSw); go_simp; try with_reducible rfl
                simp only [Act.put]
                refine wpAnyH_take (i := 2) (v := ?vk63) rfl (by kernel_rfl) (by kernel_rfl) (by kernel_rfl) (fun _ _ _ h => h) (Or.inl ⟨by rfl, ?hyk63⟩) hHeld ?restk63
                case hyk63 => intro w' hSw; (try dsimp only at hSw); go_simp; try with_reducible rfl
                simp only [Act.put]
                refine wpAnyH_take (i := 4) (v := ?vk64) rfl (by kernel_rfl) (by kernel_rfl) (by kernel_rfl) (fun _ _ _ h => h) (Or.inl ⟨by rfl, ?hyk64⟩) hHeld ?restk64
                case hyk64 => intro w' hSw; (try dsimp only at hSw); go_simp; try with_reducible rfl
                simp only [Act.put]
                refine wpAnyH_ready (rs := [3]) (by kernel_rfl) (by simp) ?_
                refine AllReadyH.cons rfl (fun K hK => ?_) AllReadyH.nil
                go_simp
                refine HCn.out.mono ?_
                rintro e w12 ⟨rfl, hB12⟩
                have HB12 := hide_ (below_to ((Below.refl w11.heap.size w11).drew) hB12)
                have HS12 := hide_ (HSS.out _ HB12.out)
                have HF12 := hide_ (HFn.out.later HB12.out)
                have HK12 := hide_ (HKn.out.later HB12.out)
                clear hB12
                dsimp only
                refine hK.out _ _ (HS12.out) (fun hHeld => ?_)
                clear hK K
                refine wpAnyH_ready (rs := [5]) (by kernel_rfl) (by simp) ?_
                refine AllReadyH.cons rfl (fun K hK => ?_) AllReadyH.nil
                go_simp
                refine hK.out _ _ (HS12.out) (fun hHeld => ?_)
                clear hK K
                refine wpAnyH_done (by kernel_rfl) ?_ _
                go_wp2
                go_roundw
                case rel => exact ⟨i + 1, _, by omega, by omega, by go_num, HLn, HOn, HTn, HF12, HK12⟩
                case measure => simp [intOf]; omega
              have h6k : (z.k == 6) = false := by simp [hzk6]
              have HFn := HFw
              have HKn := HKw
              have HTn := HTw
              have HOn := HOw
              have HLn := HLw
              have HSS : Hid (∀ w', Below wq.heap.size wq w' → (fun w' => w'.cell? ⟨w4.heap.size, 0, none⟩ = some (.slice a U.length cap) ∧ w'.cell? ⟨w4.heap.size, 1, none⟩ = some (.slice ar Rc.length cr) ∧ w'.cell? ⟨w9.heap.size, 0, none⟩ = some (.int .i64 e1) ∧ w'.cell? ⟨w9.heap.size, 1, none⟩ = some (.int .i64 (f : Int))) w') := hide_ (fun w' hB => ⟨(HFn.out.sch.later hB).cell 0, (HFn.out.sch.later hB).cell 1, (HKn.out.later hB).cell 0, (HKn.out.later hB).cell 1⟩)
              have HCn := hide_ (HCk.out W' wq.drew HLn.out (HFn.out.later ((Below.refl _ _).drew)))
              rw [HTn.out, HE1.out, HE2.out] at HCn
              go_upto_region 27 with fail
              refine wp_region_held_drew (S := (fun w' => w'.cell? ⟨w4.heap.size, 0, none⟩ = some (.slice a U.length cap) ∧ w'.cell? ⟨w4.heap.size, 1, none⟩ = some (.slice ar Rc.length cr) ∧ w'.cell? ⟨w9.heap.size, 0, none⟩ = some (.int .i64 e1) ∧ w'.cell? ⟨w9.heap.size, 1, none⟩ = some (.int .i64 (f : Int)))) (by kernel_rfl) (HSS.out _ ((Below.refl _ _).drew)) (fun hHeld => ?_)
              refine wpAnyH_take (i := 0) (v := ?vko1) rfl (by kernel_rfl) (by kernel_rfl) (by kernel_rfl) (fun _ _ _ h => h) (Or.inl ⟨by rfl, ?hyko1⟩) hHeld ?restko1
              case hyko1 => intro w' hSw; (try dsimp only at hSw); go_simp; try with_reducible rfl
              simp only [Act.put]
              refine wpAnyH_take (i := 1) (v := ?vko2) rfl (by kernel_rfl) (by kernel_rfl) (by kernel_rfl) (fun _ _ _ h => h) (Or.inl ⟨by rfl, ?hyko2⟩) hHeld ?restko2
              case hyko2 => intro w' hSw; (try dsimp only at hSw); go_simp; try with_reducible rfl
              simp only [Act.put]
              refine wpAnyH_take (i := 2) (v := ?vko3) rfl (by kernel_rfl) (by kernel_rfl) (by kernel_rfl) (fun _ _ _ h => h) (Or.inl ⟨by rfl, ?hyko3⟩) hHeld ?restko3
              case hyko3 => intro w' hSw; (try dsimp only at hSw); go_simp; try with_reducible rfl
              simp only [Act.put]
              refine wpAnyH_take (i := 4) (v := ?vko4) rfl (by kernel_rfl) (by kernel_rfl) (by kernel_rfl) (fun _ _ _ h => h) (Or.inl ⟨by rfl, ?hyko4⟩) hHeld ?restko4
              case hyko4 => intro w' hSw; (try dsimp only at hSw); go_simp; try with_reducible rfl
              simp only [Act.put]
              refine wpAnyH_ready (rs := [3]) (by kernel_rfl) (by simp) ?_
              refine AllReadyH.cons rfl (fun K hK => ?_) AllReadyH.nil
              go_simp
              refine HCn.out.mono ?_
              rintro e w12 ⟨rfl, hB12⟩
              have HB12 := hide_ (below_to ((Below.refl wq.heap.size wq).drew) hB12)
              have HS12 := hide_ (HSS.out _ HB12.out)
              have HF12 := hide_ (HFn.out.later HB12.out)
              have HK12 := hide_ (HKn.out.later HB12.out)
              clear hB12
              dsimp only
              refine hK.out _ _ (HS12.out) (fun hHeld => ?_)
              clear hK K
              refine wpAnyH_ready (rs := [5]) (by kernel_rfl) (by simp) ?_
              refine AllReadyH.cons rfl (fun K hK => ?_) AllReadyH.nil
              go_simp
              refine hK.out _ _ (HS12.out) (fun hHeld => ?_)
              clear hK K
              refine wpAnyH_done (by kernel_rfl) ?_ _
              go_wp2
              go_roundw
              case rel => exact ⟨i + 1, _, by omega, by omega, by go_num, HLn, HOn, HTn, HF12, HK12⟩
              case measure => simp [intOf]; omega
          · have h60' : decide ((i : Int) < 60) = false := decide_eq_false h60
            go_wp2
            go_ret
            exact ⟨rfl, HFw.out.bel⟩
        · have hlt' : decide ((i : Int) < ms.length) = false := decide_eq_false hlt
          go_wp2
          go_ret
          exact ⟨rfl, HFw.out.bel⟩
end Go.Proofs.YtegejchamojfgaaDoor
