/- size.Length: next. -/
import Derived.Test.YtpkghpfdibnhcaaZt
namespace Go.Proofs.Ytpkghpfdibnhcaa
open Go.RowKit
set_option linter.unusedVariables false

theorem EInt : Elem Try.prog 48 3 .i64 8 := ⟨Try.underlying48, Try.underlying3, by kernel_rfl⟩
theorem own_form {w : World} {B : Nat} {v : Value} {l : List Int} (h : w.ownsRow B 3 1 v l.length (cellsL .i64 l)) : ∃ a c, v = .slice a l.length c := by
  obtain ⟨a, c, rfl, _⟩ := own_open h rfl
  exact ⟨a, c, rfl⟩
theorem own_set {w : World} {B : Nat} {v : Value} {l : List Int} (h : w.ownsRow B 3 1 v l.length (cellsL .i64 l)) {i : Nat} (hi : i < l.length) :
    ∃ g cap, v = .slice (some ⟨g, 0, none⟩) l.length cap ∧ B ≤ g ∧ w.cell? ⟨g, i, none⟩ = some (.int .i64 (l.getD i 0)) ∧ w.frozen? ⟨g, i, none⟩ = false ∧ ∀ x, (w.setCell ⟨g, i, none⟩ (.int .i64 x)).ownsRow B 3 1 v l.length (cellsL .i64 (l.set i x)) := by
  obtain ⟨g, cap, ys, rfl, hb, hn, hm, hl, ht, hK⟩ := own_blk h (by omega)
  refine ⟨g, cap, rfl, hb, ?_, hK.frozen i, fun x => ?_⟩
  · rw [hK.cell, ← cellsL_at .i64 l i hi, ← ht, List.getElem?_take, if_pos hi]
  · have h1 := (hK.set i (.int .i64 x)).owns B l.length cap hb (by simp [hl]) hn hm
    rw [List.take_set, ht, cellsL_set] at h1
    exact h1
theorem kidsP_none {g : Nat → List Int → Option (Int × List Int)} {X : List Ex} {x : Nv} {t : Ty} {s : Int × List Int} {m : Nat} (h : kidsP g X x t m s = none) : ∀ m', m ≤ m' → kidsP g X x t m' s = none
  | 0, hm => by obtain rfl : m = 0 := by omega
                exact h
  | m' + 1, hm => by
    rcases Nat.lt_or_ge m' m with h1 | h1
    · obtain rfl : m = m' + 1 := by omega
      exact h
    · simp only [kidsP]
      rw [kidsP_none h m' h1]
      rfl
theorem fits_kids {x : Nv} {t : Ty} {i : Int} (h : tyOk t i = true) (hf : fitsP x t = true) : x.kids ≤ 1048576 := by
  have hl := tyOk_len h
  obtain ⟨k, n, el, ps⟩ := t
  have hk := tyOk_kind h
  have h1 := (tyOk_parts h).1
  simp only at hk hl h1
  rcases hk with rfl | rfl | rfl | rfl | rfl | rfl | rfl | rfl
  · simp [fitsP] at hf; omega
  · simp [fitsP] at hf; omega
  · simp [fitsP] at hf; omega
  · simp [nOk] at h1; simp [fitsP] at hf; omega
  · simp [nOk] at h1; simp [fitsP] at hf; omega
  · simp [fitsP] at hf; omega
  · simp [fitsP] at hf; omega
  · simp [fitsP] at hf; omega
set_option maxRecDepth 100000 in
set_option maxHeartbeats 16000000 in
theorem next_any (T : List Ty) (R : List Rt) (X : List Ex) (V : List Nv) (aT aX aV : Option Addr) (cT cX cV bw : Nat) (wB : World) (hOK : Hid (OkS T R)) (hXl : Hid (X.length = T.length)) (hTl : T.length ≤ 1000000000) (hVl : V.length ≤ 1000000000) (hVk : Hid (∀ x ∈ V, NvOk x)) (hL : Hid (LensT T)) (hT : Hid (TRow wB aT T)) (hX : Hid (XRow wB aX X)) (hV : Hid (VRow wB aV V)) (hbw : wB.heap.size = bw) :
    ∀ f : Nat, Hid (∀ (num : Nat) (w : World) (vl : Value) (L : List Int), num < f → num < T.length → L.length ≤ V.length → Hid (Below bw wB w) → Hid (WS w bw (.slice aT T.length cT) (.slice aX X.length cX) (.slice aV V.length cV) vl L) →
      Calls Try.prog 37 #[.pointer (some ⟨bw, 0, none⟩), .int .i64 (num : Int)] w fun e w' => NxTo (nxP T X V f num L) w bw (.slice aT T.length cT) (.slice aX X.length cX) (.slice aV V.length cV) vl e w') := by
  intro f
  induction f with
  | zero => exact hide_ (fun num w vl L h => by omega)
  | succ f ih =>
    refine hide_ (fun num w vl L hnf hnT hLV HBw HW => ?_)
    have HIH := ih
    clear ih
    subst hbw
    have hK := HW.out.1
    obtain ⟨al, cl, rfl⟩ := own_form HW.out.2
    have hnT' : (num : Int) < T.length := by omega
    obtain ⟨bT, oT, rfl, hbT0, hcT⟩ := hT.out.open (by omega)
    have hxT : T[num]? = some (T[num]'hnT) := List.getElem?_eq_getElem hnT
    obtain ⟨va, vc, hct0, hvc, -, hP⟩ := hcT num _ hxT
    have hct := fun j (hj : j < 4) => (HBw.out.cell (p := ⟨bT, oT + num * 4 + j, none⟩) hbT0).trans (hct0 j hj)
    have hbT : bT < w.heap.size := Nat.lt_of_lt_of_le hbT0 (Nat.le_trans (Nat.le_refl _) HBw.out.size)
    clear hct0 hbT0
    have hok1 := hOK.out.ty num hnT
    have hgT : T.getD num ty0 = T[num]'hnT := by simp [List.getD, hnT]
    rw [hgT] at hok1
    have c0 := hK.cell 0; have c1 := hK.cell 1; have c2 := hK.cell 2; have c3 := hK.cell 3
    simp at c0 c1 c2 c3
    have HK := hide_ hK
    have HNX : Hid (nxP T X V (f + 1) num L = if decide (L.length < V.length) && fitsP (V.getD L.length nv0) (T[num]'hnT) then (kidsP (nxP T X V f) X (V.getD L.length nv0) (T[num]'hnT) (V.getD L.length nv0).kids.toNat (ownP (V.getD L.length nv0) (T[num]'hnT), L ++ [0])).bind fun s => some (s.1, s.2.set L.length s.1) else none) := hide_ (by
      have h : nxP T X V (f + 1) num L = _ := rfl
      rw [h]
      simp only [nxP]
      rw [hgT])
    generalize nxP T X V (f + 1) num L = res at *
    generalize T[num]'hnT = t at *
    obtain ⟨k, n, el, ps⟩ := t
    simp only at hvc hP
    have t0 := hct 0 (by decide); have t1 := hct 1 (by decide); have t2 := hct 2 (by decide); have t3 := hct 3 (by decide)
    simp [tyc] at t0 t1 t2 t3
    have HOK1 := hide_ hok1
    have HP := hide_ hP
    clear hcT hxT hct hP hok1 hgT hK
    go_enter Try.func37, Try.ntmps37
    go_upto_region 2 with fail
    by_cases hat : L.length = V.length
    · have hat' : ((L.length : Int) == (V.length : Int)) = true := by rw [hat]; simp
      have HV0 : Hid (res = none) := hide_ (by rw [HNX.out, if_neg]; simp; omega)
      go_wp2_with fail
      go_quiet (fail)
      have HU := hide_ ((WU.refl wB.heap.size (.slice al L.length cl) w).then (below_drewN (Below.refl _ w) nq))
      go_wp2
      go_ret2
      exact ⟨HU.out, by rw [HV0.out]; rfl⟩
    have hat' : ((L.length : Int) == (V.length : Int)) = false := by
      have h : ¬ (L.length : Int) = (V.length : Int) := by omega
      simpa using h
    have hlt : L.length < V.length := by omega
    have hlt' : (L.length : Int) < V.length := by omega
    obtain ⟨bV, oV, rfl, hbV, hcV⟩ := (hV.out.later HBw.out).open (by omega)
    have hxV : V[L.length]? = some (V[L.length]'hlt) := List.getElem?_eq_getElem hlt
    have hcx := hcV L.length _ hxV
    have hvk := hVk.out _ (List.getElem_mem hlt)
    rw [show V.getD L.length nv0 = V[L.length]'hlt by simp [List.getD, hlt]] at HNX
    generalize V[L.length]'hlt = x at *
    have x0 := hcx 0 (by decide); have x1 := hcx 1 (by decide); have x2 := hcx 2 (by decide)
    simp [nvc] at x0 x1 x2
    have HVK := hide_ hvk
    clear hcV hxV hcx hvk
    rw [decide_eq_true hlt, Bool.true_and] at HNX
    have HFit : Hid (∀ w', Below w.heap.size w w' → Calls Try.prog 60 #[.agg #[.int .i64 x.k, .int .u64 x.n, .int .i64 x.kids], .agg #[.int .i64 k, .int .i64 n, .int .i64 el, .slice va ps.length vc]] w' fun e w'' => e = .returned (.bool (fitsP x ⟨k, n, el, ps⟩)) ∧ Below w'.heap.size w' w'') := hide_ (fun w' hB => fits_any x k n el ps va vc num w' HOK1 (hide_ (HP.out.later (HBw.out.trans (hB.mono HBw.out.size)))))
    obtain ⟨ft, hft⟩ : ∃ ft, fitsP x ⟨k, n, el, ps⟩ = ft := ⟨_, rfl⟩
    rw [hft] at HFit HNX
    have HFT := hide_ hft
    clear hft
    have HSS : Hid (∀ w', Below w.heap.size w w' → Below w.heap.size w w' ∧ w'.cell? ⟨wB.heap.size, 0, none⟩ = some (.slice (some ⟨bT, oT, none⟩) T.length cT) ∧ w'.cell? ⟨wB.heap.size, 2, none⟩ = some (.slice (some ⟨bV, oV, none⟩) V.length cV) ∧ w'.cell? ⟨bV, oV + L.length * 3, none⟩ = some (.int .i64 x.k) ∧ w'.cell? ⟨bV, oV + L.length * 3 + 1, none⟩ = some (.int .u64 x.n) ∧ w'.cell? ⟨bV, oV + L.length * 3 + 2, none⟩ = some (.int .i64 x.kids) ∧ w'.cell? ⟨bT, oT + num * 4, none⟩ = some (.int .i64 k) ∧ w'.cell? ⟨bT, oT + num * 4 + 1, none⟩ = some (.int .i64 n) ∧ w'.cell? ⟨bT, oT + num * 4 + 2, none⟩ = some (.int .i64 el) ∧ w'.cell? ⟨bT, oT + num * 4 + 3, none⟩ = some (.slice va ps.length vc)) := hide_ (fun w' hB => by
      have hk := HK.out.later hB
      refine ⟨hB, hk.cell 0, hk.cell 2, ?_, ?_, ?_, ?_, ?_, ?_, ?_⟩
      · exact (hB.cell (p := ⟨bV, oV + L.length * 3, none⟩) hbV).trans x0
      · exact (hB.cell (p := ⟨bV, oV + L.length * 3 + 1, none⟩) hbV).trans x1
      · exact (hB.cell (p := ⟨bV, oV + L.length * 3 + 2, none⟩) hbV).trans x2
      · exact (hB.cell (p := ⟨bT, oT + num * 4, none⟩) hbT).trans t0
      · exact (hB.cell (p := ⟨bT, oT + num * 4 + 1, none⟩) hbT).trans t1
      · exact (hB.cell (p := ⟨bT, oT + num * 4 + 2, none⟩) hbT).trans t2
      · exact (hB.cell (p := ⟨bT, oT + num * 4 + 3, none⟩) hbT).trans t3)
    go_wp2_with fail
    go_region_held_law (fun w' => Below w.heap.size w w' ∧ w'.cell? ⟨wB.heap.size, 0, none⟩ = some (.slice (some ⟨bT, oT, none⟩) T.length cT) ∧ w'.cell? ⟨wB.heap.size, 2, none⟩ = some (.slice (some ⟨bV, oV, none⟩) V.length cV) ∧ w'.cell? ⟨bV, oV + L.length * 3, none⟩ = some (.int .i64 x.k) ∧ w'.cell? ⟨bV, oV + L.length * 3 + 1, none⟩ = some (.int .u64 x.n) ∧ w'.cell? ⟨bV, oV + L.length * 3 + 2, none⟩ = some (.int .i64 x.kids) ∧ w'.cell? ⟨bT, oT + num * 4, none⟩ = some (.int .i64 k) ∧ w'.cell? ⟨bT, oT + num * 4 + 1, none⟩ = some (.int .i64 n) ∧ w'.cell? ⟨bT, oT + num * 4 + 2, none⟩ = some (.int .i64 el) ∧ w'.cell? ⟨bT, oT + num * 4 + 3, none⟩ = some (.slice va ps.length vc)) (first | assumption | exact HSS.out _ ((Below.refl _ _).drew) | exact HSS.out _ (Below.refl _ _))
      ((go_at_call 60; refine (HFit.out _ (by first | assumption | exact And.left (by assumption))).mono ?_; rintro e w2 ⟨rfl, hB2⟩; (have G2 := HSS.out w2 (below_to (by first | assumption | exact And.left (by assumption)) hB2)); (clear hB2)))
    obtain ⟨hB2, g0, g2, gx0, gx1, gx2, gt0, gt1, gt2, gt3⟩ := G2
    have HW2 := hide_ (HW.out.later hB2)
    have HU2 := hide_ ((WU.refl wB.heap.size (.slice al L.length cl) w).then hB2)
    have HBw2 := hide_ (HBw.out.trans (hB2.mono HBw.out.size))
    have hz2 := hB2.size
    have hlB : wB.heap.size < w2.heap.size := HW2.out.1.lt
    have hbV2 : bV < w2.heap.size := by omega
    have hbT2 : bT < w2.heap.size := by omega
    clear hB2 HSS HFit HK HW c0 c1 c2 c3 t0 t1 t2 t3 x0 x1 x2 hbV hbT
    cases ft with
    | false =>
      have HV0 : Hid (res = none) := hide_ (by rw [HNX.out]; rfl)
      go_wp2
      go_ret2
      exact ⟨HU2.out, by rw [HV0.out]; rfl⟩
    | true =>
    go_upto_region 4 with fail
    go_cut [7, 8] from 43 to 57 (fun x7 x8 wc => ∃ bn bt w3, w3 = wc ∧ x7 = .pointer (some ⟨bn, 0, none⟩) ∧ x8 = .pointer (some ⟨bt, 0, none⟩) ∧ Hid (Blk w3 bn 66 (nvc x)) ∧ Hid (Blk w3 bt 43 [.int .i64 k, .int .i64 n, .int .i64 el, .slice va ps.length vc]) ∧ Hid (Below w2.heap.size w2 w3))
    case first =>
      have HA : Hid (∀ xs ys : Array Value, ∀ t t' : TypeId, Blk ((w2.alloc (.cells xs t)).alloc (.cells ys t')).drew w2.heap.size t xs.toList ∧ Blk ((w2.alloc (.cells xs t)).alloc (.cells ys t')).drew (w2.heap.size + 1) t' ys.toList ∧ Below w2.heap.size w2 ((w2.alloc (.cells xs t)).alloc (.cells ys t')).drew) := hide_ (fun xs ys t t' => ⟨(blk2 w2 xs ys t t').1.drew, (blk2 w2 xs ys t t').2.drew, (below2 w2 _ _).drew⟩)
      go_wp2_with fail
      go_region
      all_goals
        go_wp2
        go_meet
        case rel => first
          | exact ⟨_, _, _, rfl, rfl, rfl, hide_ (HA.out _ _ _ _).1, hide_ (HA.out _ _ _ _).2.1, hide_ (HA.out _ _ _ _).2.2⟩
          | exact ⟨_, _, _, rfl, rfl, rfl, hide_ (HA.out _ _ _ _).2.1, hide_ (HA.out _ _ _ _).1, hide_ (HA.out _ _ _ _).2.2⟩
    case rest =>
    obtain ⟨bn, bt, w3, rfl, rfl, rfl, HN3, HT3, HB3⟩ := hcut
    have HW3 := hide_ (HW2.out.later HB3.out)
    have HU3 := hide_ (HU2.out.then HB3.out)
    have HBw3 := hide_ (HBw2.out.trans (HB3.out.mono HBw2.out.size))
    obtain ⟨g, cap, w4, hrun, hO4, hU4, hg4⟩ := run_push EInt w3 48 wB.heap.size (.slice al L.length cl) L.length L HW3.out.2 0 (by unfold maxLen; omega) (by omega) HBw3.out.size
    have hK4 := HW3.out.1.upd hU4 (fun e => own_ne_t HW3.out.2 HW3.out.1 (by decide) e)
    have hN4 := HN3.out.upd hU4 (fun e => own_ne_t HW3.out.2 HN3.out (by decide) e)
    have hT4 := HT3.out.upd hU4 (fun e => own_ne_t HW3.out.2 HT3.out (by decide) e)
    have hgb : g ≠ wB.heap.size := fun e => own_ne_t hO4 hK4 (by decide) (by rw [← e]; rfl)
    have HU4 : Hid (WU wB.heap.size (.slice al L.length cl) w3 w4) := hide_ (hU4.mono (fun k _ hk => .inr hk))
    have HW5 : Hid (WS (w4.setCell ⟨wB.heap.size, 3, none⟩ (.slice (some ⟨g, 0, none⟩) (L.length + 1) cap)) wB.heap.size (.slice (some ⟨bT, oT, none⟩) T.length cT) (.slice aX X.length cX) (.slice (some ⟨bV, oV, none⟩) V.length cV) (.slice (some ⟨g, 0, none⟩) (L.length + 1) cap) (L ++ [0])) := hide_ (by
      refine ⟨?_, ?_⟩
      · have h := hK4.set 3 (.slice (some ⟨g, 0, none⟩) (L.length + 1) cap)
        simpa using h
      · have h := ownS_upd hO4 ((Upd.refl (fun k => k = wB.heap.size) w4).set ⟨wB.heap.size, 3, none⟩ (.slice (some ⟨g, 0, none⟩) (L.length + 1) cap) (.inl rfl)) (fun k hk e => hgb (by rw [← e]; exact own_is hk))
        rw [List.length_append, List.length_singleton]
        exact h)
    have HN5 := hide_ (hN4.other ⟨wB.heap.size, 3, none⟩ (.slice (some ⟨g, 0, none⟩) (L.length + 1) cap) (blk_ne hN4 hK4 (by decide)))
    have HT5 := hide_ (hT4.other ⟨wB.heap.size, 3, none⟩ (.slice (some ⟨g, 0, none⟩) (L.length + 1) cap) (blk_ne hT4 hK4 (by decide)))
    have HU5 : Hid (WU wB.heap.size (.slice al L.length cl) w (w4.setCell ⟨wB.heap.size, 3, none⟩ (.slice (some ⟨g, 0, none⟩) (L.length + 1) cap))) := hide_ ((HU3.out.to HU4.out).set _ _ (.inl (.inl rfl)))
    have HBw5 := hide_ (below_set (HBw3.out.trans (Upd.below HU4.out wB.heap.size HBw3.out.size (fun k hk => by
      rcases hk with hk | hk
      · omega
      · exact (HW3.out.2.lt k hk).1))) wB.heap.size 3 (.slice (some ⟨g, 0, none⟩) (L.length + 1) cap) (Nat.le_refl _))
    have HVN5 : Hid (VN (.slice al L.length cl) (.slice (some ⟨g, 0, none⟩) (L.length + 1) cap) w) := hide_ (fun k hk => by
      obtain rfl := own_is hk
      have h1 := HB3.out.size
      rcases hg4 with h | h
      · exact .inl h
      · exact .inr (by omega))
    have q3 := hK4.cell 3
    have fr := hK4.frozen 3
    have r3 := HW3.out.1.cell 3
    simp at q3 r3
    have HRun := hide_ hrun
    obtain ⟨w5, hw5⟩ : ∃ w5, w5 = w4.setCell ⟨wB.heap.size, 3, none⟩ (.slice (some ⟨g, 0, none⟩) (L.length + 1) cap) := ⟨_, rfl⟩
    rw [← hw5] at HW5 HN5 HT5 HU5 HBw5
    clear hrun hO4 hU4 hg4 hK4 hN4 hT4 hgb HU4 HW3 HU3 HBw3 HW2 HU2 HBw2 HN3 HT3 HB3 g0 g2 gx0 gx1 gx2 gt0 gt1 gt2 gt3 hlB hbV2 hbT2 hz2
    go_upto_region 6 with (first | (at_builtin; refine wpList_append_run rfl (.tmp 62) (.tmp 63) 48 48 rfl rfl rfl HRun.out ?_; clear HRun))
    rw [← hw5]
    clear hw5 q3 fr r3
    generalize hv5 : Value.slice (some ⟨g, 0, none⟩) (L.length + 1) cap = vl5 at *
    clear hv5
    have y0 := HN5.out.cell 0; have y1 := HN5.out.cell 1; have y2 := HN5.out.cell 2
    have z0 := HT5.out.cell 0; have z1 := HT5.out.cell 1; have z2 := HT5.out.cell 2; have z3 := HT5.out.cell 3
    simp [nvc] at y0 y1 y2 z0 z1 z2 z3
    obtain ⟨o0, ho0⟩ : ∃ o0, ownP x ⟨k, n, el, ps⟩ = o0 := ⟨_, rfl⟩
    have HCo := hide_ (ownBytes_any x k n el (.slice va ps.length vc) ps w5 HVK.out)
    rw [ho0] at HCo HNX
    clear ho0
    go_wp2_with fail
    refine HCo.out.mono ?_; rintro e w6 ⟨rfl, hB6⟩
    have HW6 := hide_ (HW5.out.later hB6)
    have HN6 := hide_ (HN5.out.later hB6)
    have HT6 := hide_ (HT5.out.later hB6)
    have HU6 := hide_ (HU5.out.then hB6)
    have HBw6 := hide_ (HBw5.out.trans (hB6.mono HBw5.out.size))
    clear hB6 HW5 HN5 HT5 HU5 HBw5 HCo y0 y1 y2 z0 z1 z2 z3
    have y2 := HN6.out.cell 2
    simp [nvc] at y2
    have hL1 : (L ++ [0]).length ≤ V.length := by simp; omega
    have hHg : ∀ (num : Nat) (L : List Int) (r : Int × List Int), L.length ≤ V.length → nxP T X V f num L = some r → L.length < r.2.length ∧ r.2.length ≤ V.length := fun num L r h1 h2 => nxP_len f num L r h1 h2
    have HHg := hide_ hHg
    have hkk := fits_kids HOK1.out HFT.out
    clear hHg
    go_wp2_with fail
    go_loopw [9, 72] (fun x9 x72 wr => ∃ (m : Nat) (len : Int) (L' : List Int) (vl' : Value), m ≤ x.kids.toNat ∧ x72 = .int .i64 (m : Int) ∧ x9 = .int .i64 len ∧ Hid (kidsP (nxP T X V f) X x ⟨k, n, el, ps⟩ m (o0, L ++ [0]) = some (len, L')) ∧ Hid (WS wr wB.heap.size (.slice (some ⟨bT, oT, none⟩) T.length cT) (.slice aX X.length cX) (.slice (some ⟨bV, oV, none⟩) V.length cV) vl' L') ∧ Hid (WU wB.heap.size vl5 w6 wr) ∧ Hid (VN vl5 vl' w6) ∧ Hid (Below wB.heap.size wB wr)) (fun _ x72 _ => x.kids.toNat - (intOf x72).toNat)
    case atStart => exact ⟨0, o0, L ++ [0], vl5, Nat.zero_le _, rfl, rfl, hide_ rfl, HW6, hide_ (WU.refl _ _ _), hide_ (VN.refl _ _), HBw6⟩
    case round =>
      obtain ⟨m, len, L', vl', hm, rfl, rfl, HKd, HWr, HUr, HVr, HBr⟩ := hrel
      generalize wr = wq at *
      clear y2 HBw6
      have HNq := hide_ (HW6.out.keep HUr.out HN6.out (by decide) (by decide))
      have HTq := hide_ (HW6.out.keep HUr.out HT6.out (by decide) (by decide))
      have hL' := kidsP_len HHg.out m _ _ hL1 HKd.out
      simp only [List.length_append, List.length_singleton] at hL'
      have y0 := HNq.out.cell 0; have y1 := HNq.out.cell 1; have y2 := HNq.out.cell 2
      have z0 := HTq.out.cell 0; have z1 := HTq.out.cell 1; have z2 := HTq.out.cell 2; have z3 := HTq.out.cell 3
      simp [nvc] at y0 y1 y2 z0 z1 z2 z3
      by_cases hmk : (m : Int) < x.kids
      · have HCt := hide_ (kidType_any x k n el ps va vc m (num : Int) wq HOK1 HFT hmk (hide_ (HP.out.later HBr.out)))
        have hkb := kidTy_bd HOK1.out HFT.out hmk
        have HSc : Hid (kidsP (nxP T X V f) X x ⟨k, n, el, ps⟩ (m + 1) (o0, L ++ [0]) = (nxP T X V f (kidTy x ⟨k, n, el, ps⟩ m).toNat L').bind fun r => some (plus3 len (offP X ⟨k, n, el, ps⟩ (kidTy x ⟨k, n, el, ps⟩ m)) r.1, r.2)) := hide_ (by simp only [kidsP]; rw [HKd.out]; rfl)
        obtain ⟨kd, hkd⟩ : ∃ kd : Nat, kidTy x ⟨k, n, el, ps⟩ m = (kd : Int) := Int.eq_ofNat_of_zero_le hkb.1
        rw [hkd] at HCt hkb HSc
        rw [Int.toNat_natCast] at HSc
        clear hkd
        have hkn : kd < num := by omega
        go_wp2_with fail
        refine HCt.out.mono ?_; rintro e w7 ⟨rfl, hB7⟩
        have HW7 := hide_ (HWr.out.later hB7)
        have HB7 := hide_ (HBr.out.trans (hB7.mono HBr.out.size))
        have HU7 := hide_ (HUr.out.then hB7)
        have HVr7 : Hid (w6.heap.size ≤ w7.heap.size) := hide_ HU7.out.size
        have HN7 := hide_ (HNq.out.later hB7)
        have HT7 := hide_ (HTq.out.later hB7)
        have HCn := hide_ (HIH.out kd w7 vl' L' (by omega) (by omega) hL'.2 HB7 HW7)
        obtain ⟨r, hr⟩ : ∃ r, nxP T X V f kd L' = r := ⟨_, rfl⟩
        rw [hr] at HCn HSc
        have HR := hide_ hr
        clear hr hB7 y0 y1 y2 z0 z1 z2 z3 HCt
        go_wp2_with fail
        refine HCn.out.mono ?_
        rintro e w8 ⟨hU8, hE8⟩
        have HU8 := hide_ hU8
        have HU68 := hide_ (WU.trans HU7.out hU8 HVr.out)
        clear hU8
        cases r with
        | none =>
          subst hE8
          have HV0 : Hid (res = none) := hide_ (by
            rw [HNX.out]
            simp only [if_true]
            rw [kidsP_none (m := m + 1) HSc.out x.kids.toNat (by omega)]
            rfl)
          have HUf := hide_ (WU.trans HU6.out HU68.out HVN5.out)
          go_wp2
          go_ret2
          exact ⟨HUf.out, by rw [HV0.out]; rfl⟩
        | some r =>
          obtain ⟨kl, L2⟩ := r
          obtain ⟨rfl, vl2, hW8, hV8⟩ := hE8
          have HW8 := hide_ hW8
          have HV8 := hide_ (VN.trans HVr.out hV8 HVr7.out)
          have HB8 := hide_ (HB7.out.trans (WS.below HW7.out HU8.out))
          have HT8 := hide_ (WS.keep HW7.out HU8.out HT7.out (by decide) (by decide))
          have z0 := HT8.out.cell 0; have z1 := HT8.out.cell 1; have z2 := HT8.out.cell 2; have z3 := HT8.out.cell 3
          simp at z0 z1 z2 z3
          have HCf := hide_ (offsetOf_any wB.heap.size (.slice (some ⟨bT, oT, none⟩) T.length cT) (.slice (some ⟨bV, oV, none⟩) V.length cV) vl2 aX cX X k n el (.slice va ps.length vc) ps kd w8 (by have := hXl.out; omega) (hide_ HW8.out.1) (hide_ (hX.out.later HB8.out)))
          obtain ⟨of, hof⟩ : ∃ of, offP X ⟨k, n, el, ps⟩ (kd : Int) = of := ⟨_, rfl⟩
          rw [hof] at HCf HSc
          clear hof hW8 hV8 HCn
          go_wp2_with fail
          refine HCf.out.mono ?_; rintro e w9 ⟨rfl, hB9⟩
          have kP := Blk.newA w9 #[.int .i64 len, .int .i64 of, .int .i64 kl] 3
          have hB10 := below1 w9 (.cells #[.int .i64 len, .int .i64 of, .int .i64 kl] 3)
          obtain ⟨w10, hw10⟩ : ∃ w10, w10 = w9.alloc (.cells #[.int .i64 len, .int .i64 of, .int .i64 kl] 3) := ⟨_, rfl⟩
          rw [← hw10] at kP hB10
          have hB810 := below_to hB9 hB10
          have HW10 := hide_ (HW8.out.later hB810)
          have HU10 := hide_ (HU68.out.then hB810)
          have HB10 := hide_ (HB8.out.trans (hB810.mono HB8.out.size))
          have HKP := hide_ kP
          have HSn : Hid (kidsP (nxP T X V f) X x ⟨k, n, el, ps⟩ (m + 1) (o0, L ++ [0]) = some (plus3 len of kl, L2)) := hide_ HSc.out
          clear kP hB9 hB10 hB810 z0 z1 z2 z3 HCf
          obtain ⟨pv, hpv⟩ : ∃ pv, plus3 len of kl = pv := ⟨_, rfl⟩
          have HCp : Hid (Calls Try.prog 52 #[.slice (some ⟨w9.heap.size, 0, none⟩) 3 3] w10 fun e w' => e = .returned (.int .i64 pv) ∧ w10 = w') := hide_ (by have h := plusC_any len of kl w10 3 w9.heap.size HKP; rwa [hpv] at h)
          rw [hpv] at HSn
          clear hpv
          go_wp2_with fail
          rw [← hw10]
          refine HCp.out.mono ?_; rintro e w' ⟨rfl, rfl⟩
          clear hw10
          go_wp2_with fail
          go_roundw
          case rel => exact ⟨m + 1, pv, L2, vl2, by omega, by go_num, rfl, HSn, HW10, HU10, HV8, HB10⟩
          case measure => simp [intOf]; omega
      · obtain rfl : m = x.kids.toNat := by omega
        have HVs : Hid (res = some (len, L'.set L.length len)) := hide_ (by
          rw [HNX.out]
          simp only [if_true]
          rw [HKd.out]
          rfl)
        obtain ⟨g2, cap2, hv2, hgb, hc2, hf2, hset⟩ := own_set HWr.out.2 (i := L.length) (by omega)
        subst hv2
        have k3 := HWr.out.1.cell 3
        simp at k3
        have hi2 : (L.length : Int) < L'.length := by omega
        have hne : wB.heap.size ≠ g2 := fun e => own_ne_t HWr.out.2 HWr.out.1 (by decide) (by rw [e]; rfl)
        have HWe : Hid (WS (wq.setCell ⟨g2, L.length, none⟩ (.int .i64 len)) wB.heap.size (.slice (some ⟨bT, oT, none⟩) T.length cT) (.slice aX X.length cX) (.slice (some ⟨bV, oV, none⟩) V.length cV) (.slice (some ⟨g2, 0, none⟩) L'.length cap2) (L'.set L.length len)) := hide_ ⟨HWr.out.1.other _ _ hne, by rw [List.length_set]; exact hset len⟩
        have HUe : Hid (WU wB.heap.size (.slice al L.length cl) w (wq.setCell ⟨g2, L.length, none⟩ (.int .i64 len))) := hide_ (Upd.set (WU.trans HU6.out HUr.out HVN5.out) _ _ (by
          rcases HVr.out g2 rfl with h | h
          · rcases HVN5.out g2 h with h' | h'
            · exact .inl (.inr h')
            · exact .inr h'
          · exact .inr (Nat.le_trans HU6.out.size h)))
        have HVe : Hid (VN (.slice al L.length cl) (.slice (some ⟨g2, 0, none⟩) L'.length cap2) w) := hide_ (VN.trans HVN5.out HVr.out HU6.out.size)
        clear hset hgb y0 y1 z0 z1 z2 z3
        go_wp2
        go_ret2
        exact ⟨HUe.out, by rw [HVs.out]; exact ⟨rfl, _, HWe.out, HVe.out⟩⟩
end Go.Proofs.Ytpkghpfdibnhcaa
