import Derived.Test.YtdpkmkhflgmioaaPart12
import Derived.Test.YtdpkmkhflgmioaaPart14
import Derived.Deep.RegionLaw

/- cut: the first types, parts and roots of a schema. -/
namespace Go.Proofs.Ytdpkmkhflgmioaa
open Go.RowKit
set_option linter.unusedVariables false

theorem TOwn.push2 {w : World} {B : Nat} {v : Value} {Q : List (Ty × Value)} (h : TOwn w B v Q) (t : Ty) (u : Value) (hu1 : u.oneCell' = true) (ht : PtIn w B t.ps u) (hl : Q.length ≤ 1000000000) (hB : B ≤ w.heap.size) :
    ∃ g c w', (Builtin.append_ #[22, 22] 22 #[v, .slice (some ⟨w.heap.size, 0, none⟩) 1 1]).run Try.prog (w.alloc (.cells #[.int .i64 t.k, .int .i64 t.n, .int .i64 t.e, u] 62)) = .ok (.slice (some ⟨g, 0, none⟩) (Q.length + 1) c) w' ∧ TOwn w' B (.slice (some ⟨g, 0, none⟩) (Q.length + 1) c) (Q ++ [(t, u)]) ∧ Upd (fun k => v.ownBlock = some k) w w' ∧ (v.ownBlock = some g ∨ w.heap.size ≤ g) := by
  obtain ⟨g, cap, w', h1, h2, h3, h4⟩ := run_pushS (P := Try.prog) (t := 22) (e := 62) (c := 4) Try.underlying22 infoT rfl (by decide) w 22 h.1 (tyc t u) rfl (fun x hx => by simp [tyc] at hx; rcases hx with rfl | rfl | rfl | rfl; rfl; rfl; rfl; exact hu1) (by unfold maxLen; omega) (by omega) hB
  have hs : ∀ k, v.ownBlock = some k → B ≤ k := fun k hk => (h.1.lt k hk).1
  have hn : ∀ k ys, v.ownBlock = some k → Blk w k 64 ys → False := fun k ys hk hb => by
    obtain ⟨zs, hz⟩ := ownS_type h.1 hk
    exact absurd (blk_type hz hb) (by decide)
  refine ⟨g, cap, w', h1, ⟨?_, fun p hp => ?_⟩, h3, h4⟩
  · rw [cellsG_app, cellsG_one, List.length_append, List.length_singleton]
    exact h2
  · rcases List.mem_append.1 hp with hp | hp
    · exact (h.2 p hp).upd h3 hs hn
    · simp at hp
      subst hp
      exact ht.upd h3 hs hn
/-- cut's memory at a round's head: the argument's box, the schema under way. -/
structure CuS (w0 w wr : World) (a b v : Value) (Q : List (Ty × Value)) : Prop where
  arg : Blk wr w.heap.size 25 [a, b]
  res : Blk wr (w.heap.size + 1) 25 [.slice none 0 0, .slice none 0 0]
  out : Blk wr (w.heap.size + 2) 25 [v, .slice none 0 0]
  own : TOwn wr w0.heap.size v Q
  low : ∀ k, v.ownBlock = some k → w.heap.size ≤ k
  bel : Below w.heap.size w wr
/-- What cut answers. -/
def CutTo (w0 w : World) (T : List Ty) (R : List Rt) (e : Ending) (w' : World) : Prop := ∃ a cap ar cr Q, e = .returned (.agg #[.slice a (cutT T).length cap, .slice ar (R.take 260).length cr]) ∧ Hid (TOwn w' w0.heap.size (.slice a (cutT T).length cap) Q) ∧ Hid (Q.map (·.1) = cutT T) ∧ Hid (ROwn w' w0.heap.size (.slice ar (R.take 260).length cr) (R.take 260)) ∧ Hid (Below w.heap.size w w')
theorem take_min {α : Type} (l : List α) (n : Nat) : (l.take n).length = min n l.length := by simp
set_option maxRecDepth 100000 in
set_option maxHeartbeats 8000000 in
theorem cut_any (aT : Option Addr) (cT : Nat) (T : List Ty) (aR : Option Addr) (cR : Nat) (R : List Rt) (w0 w : World) (hn : T.length ≤ 1000000000000000) (hm : R.length ≤ 1000000000000000) (hcR : R.length ≤ cR) (hnil : aR = none → cR = 0) (hl : Hid (LensT T)) (hB0 : Hid (Below w0.heap.size w0 w)) (hT : Hid (TRow w0 aT T)) (hRr : Hid (RRow w aR R)) :
    Calls Try.prog 6 #[.agg #[.slice aT T.length cT, .slice aR R.length cR]] w fun e w' => CutTo w0 w T R e w' := by
  obtain ⟨w1, hw1⟩ : ∃ wx, wx = w.alloc (.cells #[.slice aT T.length cT, .slice aR R.length cR] 25) := ⟨_, rfl⟩
  have b1 : Below w.heap.size w w1 := by rw [hw1]; exact below1 _ _
  have k1 : Blk w1 w.heap.size 25 [.slice aT T.length cT, .slice aR R.length cR] := by rw [hw1]; exact Blk.newA w _ _
  have s1 : w1.heap.size = w.heap.size + 1 := by rw [hw1]; simp
  obtain ⟨w2, hw2⟩ : ∃ wx, wx = w1.alloc (.cells #[.slice none 0 0, .slice none 0 0] 25) := ⟨_, rfl⟩
  have b2 : Below w1.heap.size w1 w2 := by rw [hw2]; exact below1 _ _
  have k2 : Blk w2 w1.heap.size 25 [.slice none 0 0, .slice none 0 0] := by rw [hw2]; exact Blk.newA w1 _ _
  have s2 : w2.heap.size = w.heap.size + 2 := by rw [hw2]; simp [s1]
  obtain ⟨w3, hw3⟩ : ∃ wx, wx = w2.alloc (.cells #[.slice none 0 0, .slice none 0 0] 25) := ⟨_, rfl⟩
  have b3 : Below w2.heap.size w2 w3 := by rw [hw3]; exact below1 _ _
  have k3 : Blk w3 w2.heap.size 25 [.slice none 0 0, .slice none 0 0] := by rw [hw3]; exact Blk.newA w2 _ _
  rw [s1] at k2
  rw [s2] at k3
  have HC0 : Hid (CuS w0 w w3 (.slice aT T.length cT) (.slice aR R.length cR) (.slice none 0 0) []) := hide_ ⟨(k1.later b2).later b3, k2.later b3, k3, ⟨World.ownsRow_nil _ _ _ _, fun p hp => by cases hp⟩, (fun k hk => by cases hk), below_to (below_to b1 b2) b3⟩
  clear b1 b2 b3 k1 k2 k3 s1 s2
  go_enter Try.func6, Try.ntmps6
  go_upto_region 2 with fail
  rw [← hw1, ← hw2, ← hw3]
  clear hw1 hw2 hw3
  go_wp2_with fail
  go_loopw [4] (fun x4 wr => ∃ (i : Nat) (v : Value) (Q : List (Ty × Value)), i ≤ T.length ∧ i ≤ 120 ∧ x4 = .int .i64 (i : Int) ∧ Hid (Q.map (·.1) = (T.take i).map cut1) ∧ Hid (CuS w0 w wr (.slice aT T.length cT) (.slice aR R.length cR) v Q)) (fun x4 _ => 120 - (intOf x4).toNat)
  case atStart => exact ⟨0, _, [], Nat.zero_le _, Nat.zero_le _, rfl, hide_ (by simp), HC0⟩
  case round =>
    obtain ⟨i, v, Q, hi, hi2, rfl, HQ, HS⟩ := hrel
    clear HC0
    generalize wr = wq at *
    by_cases hlt : i < T.length ∧ i < 120
    · obtain ⟨hl1, hl2⟩ := hlt
      have hl1' : (i : Int) < T.length := by omega
      have hl2' : (i : Int) < 120 := by omega
      have hx : T[i]? = some (T[i]'hl1) := List.getElem?_eq_getElem hl1
      obtain ⟨bT, oT, rfl, hbT, hcT⟩ := hT.out.open (by omega)
      obtain ⟨va, vc, hty, hvc, hnl, hpr⟩ := hcT i _ hx
      have HX := hide_ hx
      have hpl := hl.out.at hx
      generalize T[i]'hl1 = t at *
      have hty' : ∀ j, j < 4 → wq.cell? ⟨bT, oT + i * 4 + j, none⟩ = (tyc t (.slice va t.ps.length vc))[j]? := fun j hj => ((below_to hB0.out HS.out.bel).cell (p := ⟨bT, oT + i * 4 + j, none⟩) hbT).trans (hty j hj)
      have y0 := hty' 0 (by decide); have y1 := hty' 1 (by decide); have y2 := hty' 2 (by decide); have y3 := hty' 3 (by decide)
      simp [tyc] at y0 y1 y2 y3
      have i0 := HS.out.arg.cell 0
      simp at i0
      obtain ⟨av, cv, hav, -⟩ := HS.out.own.row
      rw [List.length_map] at hav
      subst hav
      obtain ⟨wa, hwa⟩ : ∃ wx, wx = wq.alloc (.cells #[.int .i64 t.k, .int .i64 t.n, .int .i64 t.e, .slice va t.ps.length vc] 62) := ⟨_, rfl⟩
      have ba : Below wq.heap.size wq wa := by rw [hwa]; exact below1 _ _
      have ka : Blk wa wq.heap.size 62 [.int .i64 t.k, .int .i64 t.n, .int .i64 t.e, .slice va t.ps.length vc] := by rw [hwa]; exact Blk.newA wq _ _
      have hz0 : w.heap.size ≤ wq.heap.size := HS.out.bel.size
      have hzb : w0.heap.size ≤ w.heap.size := hB0.out.size
      clear hty hty' hcT hx
      by_cases hlong : t.ps.length ≤ 70
      · have hlong' : (t.ps.length : Int) ≤ 70 := by omega
        have ecut : (cut1 t).ps.length = t.ps.length := by rw [cut1_len]; omega
        have HCb := hide_ (CuS.mk (w0 := w0) (w := w) (wr := wa) (a := .slice (some ⟨bT, oT, none⟩) T.length cT) (b := .slice aR R.length cR) (v := .slice av Q.length cv) (Q := Q) (HS.out.arg.later ba) (HS.out.res.later ba) (HS.out.out.later ba) (HS.out.own.later ba) HS.out.low (below_to HS.out.bel ba))
        have hpt : PtIn wa w0.heap.size (cut1 t).ps (.slice va (cut1 t).ps.length vc) := ⟨va, vc, rfl, by rw [cut1_len]; omega, hnl, (hpr.later (below_to hB0.out HCb.out.bel)).take 70, by
          rcases hpr with h | ⟨b', o', rfl, hb', -⟩
          · exact .inl (by simp [cut1, h])
          · exact .inr (fun x hx => by cases hx; exact .inl hb')⟩
        obtain ⟨g8, c8, w8, hrun, hO8, hU8, hL8⟩ := HCb.out.own.push2 (cut1 t) (.slice va (cut1 t).ps.length vc) rfl hpt (by have := congrArg List.length HQ.out; simp at this; omega) (Nat.le_trans hB0.out.size HCb.out.bel.size)
        rw [ecut] at hrun
        simp only [cut1] at hrun
        have KA := hide_ ka
        have HR := hide_ hrun
        have HO8 := hide_ hO8
        have nb : ∀ k t' ys, Blk wa k t' ys → t' ≠ 62 → ¬ (Value.slice av Q.length cv).ownBlock = some k := fun k t' ys hb ht e => by
          obtain ⟨zs, hz⟩ := ownS_type HCb.out.own.1 e
          exact ht (blk_type hb hz)
        have o8 := HCb.out.out.upd hU8 (nb _ _ _ HCb.out.out (by decide))
        have a8 := HCb.out.arg.upd hU8 (nb _ _ _ HCb.out.arg (by decide))
        have r8 := HCb.out.res.upd hU8 (nb _ _ _ HCb.out.res (by decide))
        have hB8 : Below w.heap.size w w8 := HCb.out.bel.trans (hU8.below _ HCb.out.bel.size (fun k hk => HCb.out.low k hk))
        have HSn : Hid (CuS w0 w (w8.setCell ⟨w.heap.size + 2, 0, none⟩ (.slice (some ⟨g8, 0, none⟩) (Q.length + 1) c8)) (.slice (some ⟨bT, oT, none⟩) T.length cT) (.slice aR R.length cR) (.slice (some ⟨g8, 0, none⟩) (Q.length + 1) c8) (Q ++ [(cut1 t, .slice va (cut1 t).ps.length vc)])) := hide_ ⟨a8.other _ _ (by show w.heap.size ≠ w.heap.size + 2; omega), r8.other _ _ (by show w.heap.size + 1 ≠ w.heap.size + 2; omega), by have h := o8.set 0 (.slice (some ⟨g8, 0, none⟩) (Q.length + 1) c8); simpa using h, HO8.out.other o8 (by omega) (by decide) (by decide) 0 _, (fun k hk => by have e := own_is hk; exact hL8.elim (fun h => by rw [← e]; exact HCb.out.low _ h) (fun h => by have := HCb.out.bel.size; omega)), below_set hB8 _ _ _ (by omega)⟩
        have q0 := KA.out.cell 0; have q1 := KA.out.cell 1; have q2 := KA.out.cell 2; have q3 := KA.out.cell 3
        have z0 := HCb.out.out.cell 0
        have z8 := o8.cell 0
        have f8 := o8.frozen 0
        simp at q0 q1 q2 q3 z0 z8
        have HQn : Hid ((Q ++ [(cut1 t, Value.slice va (cut1 t).ps.length vc)]).map (·.1) = (T.take (i + 1)).map cut1) := hide_ (by rw [cutT_succ HX.out, List.map_append, HQ.out]; rfl)
        clear hrun hO8 hU8 hL8 nb o8 a8 r8 hB8 hpt
        go_upto_region 6 with fail
        rw [← hwa]
        clear hwa i0 y0 y1 y2 y3
        go_wp2_with (at_builtin; refine wpList_append_run rfl (.tmp 31) (.tmp 33) 22 22 rfl rfl rfl HR.out ?_)
        go_roundw
        case rel => exact ⟨i + 1, _, _, by omega, by omega, by go_num, HQn, HSn⟩
        case measure => simp [intOf]; omega
      · have hlong' : 70 < (t.ps.length : Int) := by omega
        have ecut : (cut1 t).ps.length = 70 := by rw [cut1_len]; omega
        obtain ⟨wb, hwb⟩ : ∃ wx, wx = wa.setCell ⟨wq.heap.size, 3, none⟩ (.slice va 70 vc) := ⟨_, rfl⟩
        have bb : Below wq.heap.size wq wb := by rw [hwb]; exact below_set ba _ _ _ (Nat.le_refl _)
        have kb : Blk wb wq.heap.size 62 [.int .i64 t.k, .int .i64 t.n, .int .i64 t.e, .slice va 70 vc] := by
          rw [hwb]
          have h := ka.set 3 (.slice va 70 vc)
          simpa using h
        have HCb := hide_ (CuS.mk (w0 := w0) (w := w) (wr := wb) (a := .slice (some ⟨bT, oT, none⟩) T.length cT) (b := .slice aR R.length cR) (v := .slice av Q.length cv) (Q := Q) (HS.out.arg.later bb) (HS.out.res.later bb) (HS.out.out.later bb) (HS.out.own.later bb) HS.out.low (below_to HS.out.bel bb))
        have hpt : PtIn wb w0.heap.size (cut1 t).ps (.slice va (cut1 t).ps.length vc) := ⟨va, vc, rfl, by rw [cut1_len]; omega, hnl, (hpr.later (below_to hB0.out HCb.out.bel)).take 70, by
          rcases hpr with h | ⟨b', o', rfl, hb', -⟩
          · exact .inl (by simp [cut1, h])
          · exact .inr (fun x hx => by cases hx; exact .inl hb')⟩
        obtain ⟨g8, c8, w8, hrun, hO8, hU8, hL8⟩ := HCb.out.own.push2 (cut1 t) (.slice va (cut1 t).ps.length vc) rfl hpt (by have := congrArg List.length HQ.out; simp at this; omega) (Nat.le_trans hB0.out.size HCb.out.bel.size)
        rw [ecut] at hrun
        simp only [cut1] at hrun
        have KA := hide_ kb
        have hvc' : (70 : Int) ≤ vc := by omega
        have x3 := ka.cell 3
        have xf := fun i => ka.frozen i
        have p0 := ka.cell 0; have p1 := ka.cell 1; have p2 := ka.cell 2
        simp at x3 p0 p1 p2
        have HR := hide_ hrun
        have HO8 := hide_ hO8
        have nb : ∀ k t' ys, Blk wb k t' ys → t' ≠ 62 → ¬ (Value.slice av Q.length cv).ownBlock = some k := fun k t' ys hb ht e => by
          obtain ⟨zs, hz⟩ := ownS_type HCb.out.own.1 e
          exact ht (blk_type hb hz)
        have o8 := HCb.out.out.upd hU8 (nb _ _ _ HCb.out.out (by decide))
        have a8 := HCb.out.arg.upd hU8 (nb _ _ _ HCb.out.arg (by decide))
        have r8 := HCb.out.res.upd hU8 (nb _ _ _ HCb.out.res (by decide))
        have hB8 : Below w.heap.size w w8 := HCb.out.bel.trans (hU8.below _ HCb.out.bel.size (fun k hk => HCb.out.low k hk))
        have HSn : Hid (CuS w0 w (w8.setCell ⟨w.heap.size + 2, 0, none⟩ (.slice (some ⟨g8, 0, none⟩) (Q.length + 1) c8)) (.slice (some ⟨bT, oT, none⟩) T.length cT) (.slice aR R.length cR) (.slice (some ⟨g8, 0, none⟩) (Q.length + 1) c8) (Q ++ [(cut1 t, .slice va (cut1 t).ps.length vc)])) := hide_ ⟨a8.other _ _ (by show w.heap.size ≠ w.heap.size + 2; omega), r8.other _ _ (by show w.heap.size + 1 ≠ w.heap.size + 2; omega), by have h := o8.set 0 (.slice (some ⟨g8, 0, none⟩) (Q.length + 1) c8); simpa using h, HO8.out.other o8 (by omega) (by decide) (by decide) 0 _, (fun k hk => by have e := own_is hk; exact hL8.elim (fun h => by rw [← e]; exact HCb.out.low _ h) (fun h => by have := HCb.out.bel.size; omega)), below_set hB8 _ _ _ (by omega)⟩
        have q0 := KA.out.cell 0; have q1 := KA.out.cell 1; have q2 := KA.out.cell 2; have q3 := KA.out.cell 3
        have z0 := HCb.out.out.cell 0
        have z8 := o8.cell 0
        have f8 := o8.frozen 0
        simp at q0 q1 q2 q3 z0 z8
        have HQn : Hid ((Q ++ [(cut1 t, Value.slice va (cut1 t).ps.length vc)]).map (·.1) = (T.take (i + 1)).map cut1) := hide_ (by rw [cutT_succ HX.out, List.map_append, HQ.out]; rfl)
        clear hrun hO8 hU8 hL8 nb o8 a8 r8 hB8 hpt
        go_upto_region 6 with fail
        rw [← hwa]
        clear hwa i0 y0 y1 y2 y3
        go_upto_region 8 with fail
        rw [← hwb]
        clear hwb x3 xf p0 p1 p2
        go_wp2_with (at_builtin; refine wpList_append_run rfl (.tmp 31) (.tmp 33) 22 22 rfl rfl rfl HR.out ?_)
        go_roundw
        case rel => exact ⟨i + 1, _, _, by omega, by omega, by go_num, HQn, HSn⟩
        case measure => simp [intOf]; omega
    · have HQe : Hid (Q.map (·.1) = cutT T) := hide_ (by
        rw [HQ.out]
        unfold cutT
        congr 1
        rcases Nat.lt_or_ge i 120 with h | h
        · rw [List.take_of_length_le (by omega), List.take_of_length_le (by omega)]
        · rw [show i = 120 by omega])
      obtain ⟨av, cv, hav, -⟩ := HS.out.own.row
      have z1 := HS.out.out.cell 1
      have s1 := HS.out.arg.cell 1
      have s0 := HS.out.arg.cell 0
      simp at z1 s1 s0
      obtain ⟨vR, w8, hrun, hO8, hB8, aR', cR', rfl⟩ := run_copyR wq.drew w0.heap.size aR (R.take 260).length cR (R.take 260) rfl ((hRr.out.later HS.out.bel.drew).take 260) hnil (by simp; omega) (Nat.le_trans hB0.out.size HS.out.bel.size)
      have hzb : w0.heap.size ≤ w.heap.size := hB0.out.size
      have hB8' := below_to ((Below.refl wq.heap.size wq).drew) hB8
      have a8 := HS.out.arg.later hB8'
      have r8 := HS.out.res.later hB8'
      have o8 := HS.out.out.later hB8'
      have t8 := HS.out.own.later hB8'
      have z18 := o8.cell 1
      have z08 := o8.cell 0
      have s18 := a8.cell 1
      have zf8 := fun i => o8.frozen i
      simp at z18 s18 z08
      have k9 := o8.set 1 (.slice aR' (R.take 260).length cR')
      simp only [List.set_cons_succ, List.set_cons_zero] at k9
      have r9 := r8.other ⟨w.heap.size + 2, 1, none⟩ (.slice aR' (R.take 260).length cR') (by show w.heap.size + 1 ≠ w.heap.size + 2; omega)
      have a9 := a8.other ⟨w.heap.size + 2, 1, none⟩ (.slice aR' (R.take 260).length cR') (by show w.heap.size ≠ w.heap.size + 2; omega)
      have t9 := t8.other o8 (by omega) (by decide) (by decide) 1 (.slice aR' (R.take 260).length cR')
      have u9 : Upd (fun k => k = w.heap.size + 2) w8 (w8.setCell ⟨w.heap.size + 2, 1, none⟩ (.slice aR' (R.take 260).length cR')) := (Upd.refl _ w8).set _ _ (.inl rfl)
      have n9 : ∀ k, (Value.slice aR' (R.take 260).length cR').ownBlock = some k → ¬ (k = w.heap.size + 2) := fun k hk e => by
        obtain ⟨zs, hz⟩ := ownS_type hO8 hk
        subst e
        exact absurd (blk_type o8 hz) (by decide)
      have O9 := ownS_upd hO8 u9 n9
      have B9 := below_set (below_to HS.out.bel hB8') (w.heap.size + 2) 1 (.slice aR' (R.take 260).length cR') (by omega)
      obtain ⟨w9, hw9⟩ : ∃ w9, w9 = w8.setCell ⟨w.heap.size + 2, 1, none⟩ (.slice aR' (R.take 260).length cR') := ⟨_, rfl⟩
      rw [← hw9] at k9 r9 a9 t9 O9 B9
      have z19 := k9.cell 1
      have z09 := k9.cell 0
      have s19 := a9.cell 1
      have y09 := r9.cell 0
      have y19 := r9.cell 1
      have yf9 := fun i => r9.frozen i
      simp at z19 z09 s19 y09 y19
      have HK := hide_ (wr2 r9 v (.slice aR' (R.take 260).length cR'))
      have HBf := hide_ (below_wr2 B9 (w.heap.size + 1) (by omega) v (.slice aR' (R.take 260).length cR'))
      have t10 := t9.other r9 (by omega) (by decide) (by decide) 0 v
      have r10 := r9.set 0 v
      have t11 := t10.other r10 (by omega) (by decide) (by decide) 1 (.slice aR' (R.take 260).length cR')
      have n10 : ∀ k, (Value.slice aR' (R.take 260).length cR').ownBlock = some k → ¬ (k = w.heap.size + 1) := fun k hk e => by
        obtain ⟨zs, hz⟩ := ownS_type O9 hk
        subst e
        exact absurd (blk_type r9 hz) (by decide)
      have O11 := ownS_upd O9 (((Upd.refl (fun k => k = w.heap.size + 1) w9).set ⟨w.heap.size + 1, 0, none⟩ v (.inl rfl)).set ⟨w.heap.size + 1, 1, none⟩ (.slice aR' (R.take 260).length cR') (.inl rfl)) n10
      have HTf := hide_ t11
      have HRf : Hid (ROwn _ w0.heap.size (.slice aR' (R.take 260).length cR') (R.take 260)) := hide_ O11
      have HRr2 := hide_ hrun
      have hql : (Q.map (·.1)).length = (cutT T).length := by rw [HQe.out]
      have HLen : Hid ((Q.map (·.1)).length = (cutT T).length) := hide_ hql
      rw [List.length_map] at hav HLen
      clear hql
      subst hav
      clear hrun hO8 hB8 hB8' a8 r8 o8 t8 a9 t9 O9 B9 t10 r10 t11 n10 n9 u9 k9 r9 O11
      rw [take_min] at HRr2
      clear HQ
      by_cases h260 : R.length ≤ 260
      · have h260' : (R.length : Int) ≤ 260 := by omega
        have hmin : min 260 R.length = R.length := by omega
        have hcap : (R.length : Int) ≤ cR := by omega
        rw [hmin] at HRr2
        have HTk : Hid ((R.take 260).length = R.length) := hide_ (by rw [take_min, hmin])
        rw [HTk.out] at HK HBf HRf HTf hw9
        by_cases hTl : (i : Int) < T.length
        · have h120 : decide ((i : Int) < 120) = false := decide_eq_false (by omega)
          go_upto_region 9 with fail
          refine wp_region_held_drew (S := (fun w' => w'.cell? ⟨w.heap.size, 1, none⟩ = some (.slice aR R.length cR))) (by kernel_rfl) (s1) (fun hHeld => ?_)
          refine wpAnyH_take (i := 0) (v := ?vca1) rfl (by kernel_rfl) (by kernel_rfl) (by kernel_rfl) (fun _ _ _ h => h) (Or.inl ⟨by rfl, ?hyca1⟩) hHeld ?restca1
          case hyca1 => intro w' hSw; (try dsimp only at hSw); go_simp; try with_reducible rfl
          simp only [Act.put]
          refine wpAnyH_take (i := 2) (v := ?vca2) rfl (by kernel_rfl) (by kernel_rfl) (by kernel_rfl) (fun _ _ _ h => h) (Or.inl ⟨by rfl, ?hyca2⟩) hHeld ?restca2
          case hyca2 => intro w' hSw; (try dsimp only at hSw); go_simp; try with_reducible rfl
          simp only [Act.put]
          refine wpAnyH_take (i := 4) (v := ?vca3) rfl (by kernel_rfl) (by kernel_rfl) (by kernel_rfl) (fun _ _ _ h => h) (Or.inl ⟨by rfl, ?hyca3⟩) hHeld ?restca3
          case hyca3 => intro w' hSw; (try dsimp only at hSw); go_simp; try with_reducible rfl
          simp only [Act.put]
          refine wpAnyH_take (i := 3) (v := ?vca4) rfl (by kernel_rfl) (by kernel_rfl) (by kernel_rfl) (fun _ _ _ h => h) (Or.inl ⟨by rfl, ?hyca4⟩) hHeld ?restca4
          case hyca4 => intro w' hSw; (try dsimp only at hSw); go_simp; try with_reducible rfl
          simp only [Act.put]
          refine wpAnyH_take (i := 5) (v := ?vca5) rfl (by kernel_rfl) (by kernel_rfl) (by kernel_rfl) (fun _ _ _ h => h) (Or.inl ⟨by rfl, ?hyca5⟩) hHeld ?restca5
          case hyca5 => intro w' hSw; (try dsimp only at hSw); go_simp; try with_reducible rfl
          simp only [Act.put]
          refine wpAnyH_take (i := 6) (v := ?vca6) rfl (by kernel_rfl) (by kernel_rfl) (by kernel_rfl) (fun _ _ _ h => h) (Or.inl ⟨by rfl, ?hyca6⟩) hHeld ?restca6
          case hyca6 => intro w' hSw; (try dsimp only at hSw); go_simp; try with_reducible rfl
          simp only [Act.put]
          refine wpAnyH_take (i := 7) (v := ?vca7) rfl (by kernel_rfl) (by kernel_rfl) (by kernel_rfl) (fun _ _ _ h => h) (Or.inl ⟨by rfl, ?hyca7⟩) hHeld ?restca7
          case hyca7 => intro w' hSw; (try dsimp only at hSw); go_simp; try with_reducible rfl
          simp only [Act.put]
          rw [if_neg (show ¬ (260 : Int) < (R.length : Int) by omega)]
          refine wpAnyH_ready (rs := [1, 8]) (by kernel_rfl) (by simp) ?_
          refine AllReadyH.cons rfl (fun K hK => ?_) ?_
          · go_simp
            refine hK.out _ _ hHeld (fun hHeld => ?_)
            clear hK K
            refine wpAnyH_ready (rs := [8]) (by kernel_rfl) (by simp) ?_
            refine AllReadyH.cons rfl (fun K hK => ?_) AllReadyH.nil
            go_simp
            refine hK.out _ _ hHeld (fun hHeld => ?_)
            clear hK K
            refine wpAnyH_ready (rs := [9]) (by kernel_rfl) (by simp) ?_
            refine AllReadyH.cons rfl (fun K hK => ?_) AllReadyH.nil
            refine step_append_run rfl (.tmp 37) (.tmp 44) 23 23 rfl rfl rfl HRr2.out ?_
            refine hK.out _ _ s18 (fun hHeld => ?_)
            clear hK K
            refine wpAnyH_take (i := 10) (v := ?vza12) rfl (by kernel_rfl) (by kernel_rfl) (by kernel_rfl) (fun _ _ _ h => h) (Or.inl ⟨by rfl, ?hyza12⟩) hHeld ?restza12
            case hyza12 => intro w' hSw; (try dsimp only at hSw); go_simp; try with_reducible rfl
            simp only [Act.put]
            refine wpAnyH_ready (rs := [11]) (by kernel_rfl) (by simp) ?_
            refine AllReadyH.cons rfl (fun K hK => ?_) AllReadyH.nil
            go_simp
            refine hK.out _ _ (by rw [← hw9]; exact s19) (fun hHeld => ?_)
            clear hK K
            refine wpAnyH_done (by kernel_rfl) ?_ _
            rw [← hw9]
            clear hw9 z18 s18 z08 zf8 z1 s1 s0
            go_wp2
            exact retSc rfl rfl HK.out ⟨av, cv, aR', cR', Q, by rw [HTk.out, ← HLen.out], by rw [← HLen.out]; exact HTf, HQe, by rw [HTk.out]; exact HRf, HBf⟩
          refine AllReadyH.cons rfl (fun K hK => ?_) AllReadyH.nil
          go_simp
          refine hK.out _ _ hHeld (fun hHeld => ?_)
          clear hK K
          refine wpAnyH_ready (rs := [1]) (by kernel_rfl) (by simp) ?_
          refine AllReadyH.cons rfl (fun K hK => ?_) AllReadyH.nil
          go_simp
          refine hK.out _ _ hHeld (fun hHeld => ?_)
          clear hK K
          refine wpAnyH_ready (rs := [9]) (by kernel_rfl) (by simp) ?_
          refine AllReadyH.cons rfl (fun K hK => ?_) AllReadyH.nil
          refine step_append_run rfl (.tmp 37) (.tmp 44) 23 23 rfl rfl rfl HRr2.out ?_
          refine hK.out _ _ s18 (fun hHeld => ?_)
          clear hK K
          refine wpAnyH_take (i := 10) (v := ?vza10) rfl (by kernel_rfl) (by kernel_rfl) (by kernel_rfl) (fun _ _ _ h => h) (Or.inl ⟨by rfl, ?hyza10⟩) hHeld ?restza10
          case hyza10 => intro w' hSw; (try dsimp only at hSw); go_simp; try with_reducible rfl
          simp only [Act.put]
          refine wpAnyH_ready (rs := [11]) (by kernel_rfl) (by simp) ?_
          refine AllReadyH.cons rfl (fun K hK => ?_) AllReadyH.nil
          go_simp
          refine hK.out _ _ (by rw [← hw9]; exact s19) (fun hHeld => ?_)
          clear hK K
          refine wpAnyH_done (by kernel_rfl) ?_ _
          rw [← hw9]
          clear hw9 z18 s18 z08 zf8 z1 s1 s0
          go_wp2
          exact retSc rfl rfl HK.out ⟨av, cv, aR', cR', Q, by rw [HTk.out, ← HLen.out], by rw [← HLen.out]; exact HTf, HQe, by rw [HTk.out]; exact HRf, HBf⟩
        · have hTl' : decide ((i : Int) < T.length) = false := decide_eq_false hTl
          go_upto_region 9 with fail
          refine wp_region_held_drew (S := (fun w' => w'.cell? ⟨w.heap.size, 1, none⟩ = some (.slice aR R.length cR))) (by kernel_rfl) (s1) (fun hHeld => ?_)
          refine wpAnyH_take (i := 0) (v := ?vcc1) rfl (by kernel_rfl) (by kernel_rfl) (by kernel_rfl) (fun _ _ _ h => h) (Or.inl ⟨by rfl, ?hycc1⟩) hHeld ?restcc1
          case hycc1 => intro w' hSw; (try dsimp only at hSw); go_simp; try with_reducible rfl
          simp only [Act.put]
          refine wpAnyH_take (i := 2) (v := ?vcc2) rfl (by kernel_rfl) (by kernel_rfl) (by kernel_rfl) (fun _ _ _ h => h) (Or.inl ⟨by rfl, ?hycc2⟩) hHeld ?restcc2
          case hycc2 => intro w' hSw; (try dsimp only at hSw); go_simp; try with_reducible rfl
          simp only [Act.put]
          refine wpAnyH_take (i := 4) (v := ?vcc3) rfl (by kernel_rfl) (by kernel_rfl) (by kernel_rfl) (fun _ _ _ h => h) (Or.inl ⟨by rfl, ?hycc3⟩) hHeld ?restcc3
          case hycc3 => intro w' hSw; (try dsimp only at hSw); go_simp; try with_reducible rfl
          simp only [Act.put]
          refine wpAnyH_take (i := 3) (v := ?vcc4) rfl (by kernel_rfl) (by kernel_rfl) (by kernel_rfl) (fun _ _ _ h => h) (Or.inl ⟨by rfl, ?hycc4⟩) hHeld ?restcc4
          case hycc4 => intro w' hSw; (try dsimp only at hSw); go_simp; try with_reducible rfl
          simp only [Act.put]
          refine wpAnyH_take (i := 5) (v := ?vcc5) rfl (by kernel_rfl) (by kernel_rfl) (by kernel_rfl) (fun _ _ _ h => h) (Or.inl ⟨by rfl, ?hycc5⟩) hHeld ?restcc5
          case hycc5 => intro w' hSw; (try dsimp only at hSw); go_simp; try with_reducible rfl
          simp only [Act.put]
          refine wpAnyH_take (i := 6) (v := ?vcc6) rfl (by kernel_rfl) (by kernel_rfl) (by kernel_rfl) (fun _ _ _ h => h) (Or.inl ⟨by rfl, ?hycc6⟩) hHeld ?restcc6
          case hycc6 => intro w' hSw; (try dsimp only at hSw); go_simp; try with_reducible rfl
          simp only [Act.put]
          refine wpAnyH_take (i := 7) (v := ?vcc7) rfl (by kernel_rfl) (by kernel_rfl) (by kernel_rfl) (fun _ _ _ h => h) (Or.inl ⟨by rfl, ?hycc7⟩) hHeld ?restcc7
          case hycc7 => intro w' hSw; (try dsimp only at hSw); go_simp; try with_reducible rfl
          simp only [Act.put]
          rw [if_neg (show ¬ (260 : Int) < (R.length : Int) by omega)]
          refine wpAnyH_ready (rs := [1, 8]) (by kernel_rfl) (by simp) ?_
          refine AllReadyH.cons rfl (fun K hK => ?_) ?_
          · go_simp
            refine hK.out _ _ hHeld (fun hHeld => ?_)
            clear hK K
            refine wpAnyH_ready (rs := [8]) (by kernel_rfl) (by simp) ?_
            refine AllReadyH.cons rfl (fun K hK => ?_) AllReadyH.nil
            go_simp
            refine hK.out _ _ hHeld (fun hHeld => ?_)
            clear hK K
            refine wpAnyH_ready (rs := [9]) (by kernel_rfl) (by simp) ?_
            refine AllReadyH.cons rfl (fun K hK => ?_) AllReadyH.nil
            refine step_append_run rfl (.tmp 37) (.tmp 44) 23 23 rfl rfl rfl HRr2.out ?_
            refine hK.out _ _ s18 (fun hHeld => ?_)
            clear hK K
            refine wpAnyH_take (i := 10) (v := ?vzc12) rfl (by kernel_rfl) (by kernel_rfl) (by kernel_rfl) (fun _ _ _ h => h) (Or.inl ⟨by rfl, ?hyzc12⟩) hHeld ?restzc12
            case hyzc12 => intro w' hSw; (try dsimp only at hSw); go_simp; try with_reducible rfl
            simp only [Act.put]
            refine wpAnyH_ready (rs := [11]) (by kernel_rfl) (by simp) ?_
            refine AllReadyH.cons rfl (fun K hK => ?_) AllReadyH.nil
            go_simp
            refine hK.out _ _ (by rw [← hw9]; exact s19) (fun hHeld => ?_)
            clear hK K
            refine wpAnyH_done (by kernel_rfl) ?_ _
            rw [← hw9]
            clear hw9 z18 s18 z08 zf8 z1 s1 s0
            go_wp2
            exact retSc rfl rfl HK.out ⟨av, cv, aR', cR', Q, by rw [HTk.out, ← HLen.out], by rw [← HLen.out]; exact HTf, HQe, by rw [HTk.out]; exact HRf, HBf⟩
          refine AllReadyH.cons rfl (fun K hK => ?_) AllReadyH.nil
          go_simp
          refine hK.out _ _ hHeld (fun hHeld => ?_)
          clear hK K
          refine wpAnyH_ready (rs := [1]) (by kernel_rfl) (by simp) ?_
          refine AllReadyH.cons rfl (fun K hK => ?_) AllReadyH.nil
          go_simp
          refine hK.out _ _ hHeld (fun hHeld => ?_)
          clear hK K
          refine wpAnyH_ready (rs := [9]) (by kernel_rfl) (by simp) ?_
          refine AllReadyH.cons rfl (fun K hK => ?_) AllReadyH.nil
          refine step_append_run rfl (.tmp 37) (.tmp 44) 23 23 rfl rfl rfl HRr2.out ?_
          refine hK.out _ _ s18 (fun hHeld => ?_)
          clear hK K
          refine wpAnyH_take (i := 10) (v := ?vzc10) rfl (by kernel_rfl) (by kernel_rfl) (by kernel_rfl) (fun _ _ _ h => h) (Or.inl ⟨by rfl, ?hyzc10⟩) hHeld ?restzc10
          case hyzc10 => intro w' hSw; (try dsimp only at hSw); go_simp; try with_reducible rfl
          simp only [Act.put]
          refine wpAnyH_ready (rs := [11]) (by kernel_rfl) (by simp) ?_
          refine AllReadyH.cons rfl (fun K hK => ?_) AllReadyH.nil
          go_simp
          refine hK.out _ _ (by rw [← hw9]; exact s19) (fun hHeld => ?_)
          clear hK K
          refine wpAnyH_done (by kernel_rfl) ?_ _
          rw [← hw9]
          clear hw9 z18 s18 z08 zf8 z1 s1 s0
          go_wp2
          exact retSc rfl rfl HK.out ⟨av, cv, aR', cR', Q, by rw [HTk.out, ← HLen.out], by rw [← HLen.out]; exact HTf, HQe, by rw [HTk.out]; exact HRf, HBf⟩
      · have h260' : 260 < (R.length : Int) := by omega
        have h260x : (260 : Int) < (R.length : Int) := h260'
        have hmin : min 260 R.length = 260 := by omega
        have hcap : (260 : Int) ≤ cR := by omega
        rw [hmin] at HRr2
        have HTk : Hid ((R.take 260).length = 260) := hide_ (by rw [take_min, hmin])
        rw [HTk.out] at HK HBf HRf HTf hw9
        by_cases hTl : (i : Int) < T.length
        · have h120 : decide ((i : Int) < 120) = false := decide_eq_false (by omega)
          go_upto_region 9 with fail
          refine wp_region_held_drew (S := (fun w' => w'.cell? ⟨w.heap.size, 1, none⟩ = some (.slice aR R.length cR))) (by kernel_rfl) (s1) (fun hHeld => ?_)
          refine wpAnyH_take (i := 0) (v := ?vcb1) rfl (by kernel_rfl) (by kernel_rfl) (by kernel_rfl) (fun _ _ _ h => h) (Or.inl ⟨by rfl, ?hycb1⟩) hHeld ?restcb1
          case hycb1 => intro w' hSw; (try dsimp only at hSw); go_simp; try with_reducible rfl
          simp only [Act.put]
          refine wpAnyH_take (i := 2) (v := ?vcb2) rfl (by kernel_rfl) (by kernel_rfl) (by kernel_rfl) (fun _ _ _ h => h) (Or.inl ⟨by rfl, ?hycb2⟩) hHeld ?restcb2
          case hycb2 => intro w' hSw; (try dsimp only at hSw); go_simp; try with_reducible rfl
          simp only [Act.put]
          refine wpAnyH_take (i := 4) (v := ?vcb3) rfl (by kernel_rfl) (by kernel_rfl) (by kernel_rfl) (fun _ _ _ h => h) (Or.inl ⟨by rfl, ?hycb3⟩) hHeld ?restcb3
          case hycb3 => intro w' hSw; (try dsimp only at hSw); go_simp; try with_reducible rfl
          simp only [Act.put]
          refine wpAnyH_take (i := 3) (v := ?vcb4) rfl (by kernel_rfl) (by kernel_rfl) (by kernel_rfl) (fun _ _ _ h => h) (Or.inl ⟨by rfl, ?hycb4⟩) hHeld ?restcb4
          case hycb4 => intro w' hSw; (try dsimp only at hSw); go_simp; try with_reducible rfl
          simp only [Act.put]
          refine wpAnyH_take (i := 5) (v := ?vcb5) rfl (by kernel_rfl) (by kernel_rfl) (by kernel_rfl) (fun _ _ _ h => h) (Or.inl ⟨by rfl, ?hycb5⟩) hHeld ?restcb5
          case hycb5 => intro w' hSw; (try dsimp only at hSw); go_simp; try with_reducible rfl
          simp only [Act.put]
          refine wpAnyH_take (i := 6) (v := ?vcb6) rfl (by kernel_rfl) (by kernel_rfl) (by kernel_rfl) (fun _ _ _ h => h) (Or.inl ⟨by rfl, ?hycb6⟩) hHeld ?restcb6
          case hycb6 => intro w' hSw; (try dsimp only at hSw); go_simp; try with_reducible rfl
          simp only [Act.put]
          refine wpAnyH_take (i := 7) (v := ?vcb7) rfl (by kernel_rfl) (by kernel_rfl) (by kernel_rfl) (fun _ _ _ h => h) (Or.inl ⟨by rfl, ?hycb7⟩) hHeld ?restcb7
          case hycb7 => intro w' hSw; (try dsimp only at hSw); go_simp; try with_reducible rfl
          simp only [Act.put]
          try rw [if_pos h260x]
          refine wpAnyH_ready (rs := [1, 8]) (by kernel_rfl) (by simp) ?_
          refine AllReadyH.cons rfl (fun K hK => ?_) ?_
          · go_simp
            refine hK.out _ _ hHeld (fun hHeld => ?_)
            clear hK K
            refine wpAnyH_ready (rs := [8]) (by kernel_rfl) (by simp) ?_
            refine AllReadyH.cons rfl (fun K hK => ?_) AllReadyH.nil
            go_simp
            refine hK.out _ _ hHeld (fun hHeld => ?_)
            clear hK K
            refine wpAnyH_ready (rs := [9]) (by kernel_rfl) (by simp) ?_
            refine AllReadyH.cons rfl (fun K hK => ?_) AllReadyH.nil
            refine step_append_run rfl (.tmp 37) (.tmp 44) 23 23 rfl rfl rfl HRr2.out ?_
            refine hK.out _ _ s18 (fun hHeld => ?_)
            clear hK K
            refine wpAnyH_take (i := 10) (v := ?vzb12) rfl (by kernel_rfl) (by kernel_rfl) (by kernel_rfl) (fun _ _ _ h => h) (Or.inl ⟨by rfl, ?hyzb12⟩) hHeld ?restzb12
            case hyzb12 => intro w' hSw; (try dsimp only at hSw); go_simp; try with_reducible rfl
            simp only [Act.put]
            refine wpAnyH_ready (rs := [11]) (by kernel_rfl) (by simp) ?_
            refine AllReadyH.cons rfl (fun K hK => ?_) AllReadyH.nil
            go_simp
            refine hK.out _ _ (by rw [← hw9]; exact s19) (fun hHeld => ?_)
            clear hK K
            refine wpAnyH_done (by kernel_rfl) ?_ _
            rw [← hw9]
            clear hw9 z18 s18 z08 zf8 z1 s1 s0
            go_wp2
            exact retSc rfl rfl HK.out ⟨av, cv, aR', cR', Q, by rw [HTk.out, ← HLen.out], by rw [← HLen.out]; exact HTf, HQe, by rw [HTk.out]; exact HRf, HBf⟩
          refine AllReadyH.cons rfl (fun K hK => ?_) AllReadyH.nil
          go_simp
          refine hK.out _ _ hHeld (fun hHeld => ?_)
          clear hK K
          refine wpAnyH_ready (rs := [1]) (by kernel_rfl) (by simp) ?_
          refine AllReadyH.cons rfl (fun K hK => ?_) AllReadyH.nil
          go_simp
          refine hK.out _ _ hHeld (fun hHeld => ?_)
          clear hK K
          refine wpAnyH_ready (rs := [9]) (by kernel_rfl) (by simp) ?_
          refine AllReadyH.cons rfl (fun K hK => ?_) AllReadyH.nil
          refine step_append_run rfl (.tmp 37) (.tmp 44) 23 23 rfl rfl rfl HRr2.out ?_
          refine hK.out _ _ s18 (fun hHeld => ?_)
          clear hK K
          refine wpAnyH_take (i := 10) (v := ?vzb10) rfl (by kernel_rfl) (by kernel_rfl) (by kernel_rfl) (fun _ _ _ h => h) (Or.inl ⟨by rfl, ?hyzb10⟩) hHeld ?restzb10
          case hyzb10 => intro w' hSw; (try dsimp only at hSw); go_simp; try with_reducible rfl
          simp only [Act.put]
          refine wpAnyH_ready (rs := [11]) (by kernel_rfl) (by simp) ?_
          refine AllReadyH.cons rfl (fun K hK => ?_) AllReadyH.nil
          go_simp
          refine hK.out _ _ (by rw [← hw9]; exact s19) (fun hHeld => ?_)
          clear hK K
          refine wpAnyH_done (by kernel_rfl) ?_ _
          rw [← hw9]
          clear hw9 z18 s18 z08 zf8 z1 s1 s0
          go_wp2
          exact retSc rfl rfl HK.out ⟨av, cv, aR', cR', Q, by rw [HTk.out, ← HLen.out], by rw [← HLen.out]; exact HTf, HQe, by rw [HTk.out]; exact HRf, HBf⟩
        · have hTl' : decide ((i : Int) < T.length) = false := decide_eq_false hTl
          go_upto_region 9 with fail
          refine wp_region_held_drew (S := (fun w' => w'.cell? ⟨w.heap.size, 1, none⟩ = some (.slice aR R.length cR))) (by kernel_rfl) (s1) (fun hHeld => ?_)
          refine wpAnyH_take (i := 0) (v := ?vcd1) rfl (by kernel_rfl) (by kernel_rfl) (by kernel_rfl) (fun _ _ _ h => h) (Or.inl ⟨by rfl, ?hycd1⟩) hHeld ?restcd1
          case hycd1 => intro w' hSw; (try dsimp only at hSw); go_simp; try with_reducible rfl
          simp only [Act.put]
          refine wpAnyH_take (i := 2) (v := ?vcd2) rfl (by kernel_rfl) (by kernel_rfl) (by kernel_rfl) (fun _ _ _ h => h) (Or.inl ⟨by rfl, ?hycd2⟩) hHeld ?restcd2
          case hycd2 => intro w' hSw; (try dsimp only at hSw); go_simp; try with_reducible rfl
          simp only [Act.put]
          refine wpAnyH_take (i := 4) (v := ?vcd3) rfl (by kernel_rfl) (by kernel_rfl) (by kernel_rfl) (fun _ _ _ h => h) (Or.inl ⟨by rfl, ?hycd3⟩) hHeld ?restcd3
          case hycd3 => intro w' hSw; (try dsimp only at hSw); go_simp; try with_reducible rfl
          simp only [Act.put]
          refine wpAnyH_take (i := 3) (v := ?vcd4) rfl (by kernel_rfl) (by kernel_rfl) (by kernel_rfl) (fun _ _ _ h => h) (Or.inl ⟨by rfl, ?hycd4⟩) hHeld ?restcd4
          case hycd4 => intro w' hSw; (try dsimp only at hSw); go_simp; try with_reducible rfl
          simp only [Act.put]
          refine wpAnyH_take (i := 5) (v := ?vcd5) rfl (by kernel_rfl) (by kernel_rfl) (by kernel_rfl) (fun _ _ _ h => h) (Or.inl ⟨by rfl, ?hycd5⟩) hHeld ?restcd5
          case hycd5 => intro w' hSw; (try dsimp only at hSw); go_simp; try with_reducible rfl
          simp only [Act.put]
          refine wpAnyH_take (i := 6) (v := ?vcd6) rfl (by kernel_rfl) (by kernel_rfl) (by kernel_rfl) (fun _ _ _ h => h) (Or.inl ⟨by rfl, ?hycd6⟩) hHeld ?restcd6
          case hycd6 => intro w' hSw; (try dsimp only at hSw); go_simp; try with_reducible rfl
          simp only [Act.put]
          refine wpAnyH_take (i := 7) (v := ?vcd7) rfl (by kernel_rfl) (by kernel_rfl) (by kernel_rfl) (fun _ _ _ h => h) (Or.inl ⟨by rfl, ?hycd7⟩) hHeld ?restcd7
          case hycd7 => intro w' hSw; (try dsimp only at hSw); go_simp; try with_reducible rfl
          simp only [Act.put]
          try rw [if_pos h260x]
          refine wpAnyH_ready (rs := [1, 8]) (by kernel_rfl) (by simp) ?_
          refine AllReadyH.cons rfl (fun K hK => ?_) ?_
          · go_simp
            refine hK.out _ _ hHeld (fun hHeld => ?_)
            clear hK K
            refine wpAnyH_ready (rs := [8]) (by kernel_rfl) (by simp) ?_
            refine AllReadyH.cons rfl (fun K hK => ?_) AllReadyH.nil
            go_simp
            refine hK.out _ _ hHeld (fun hHeld => ?_)
            clear hK K
            refine wpAnyH_ready (rs := [9]) (by kernel_rfl) (by simp) ?_
            refine AllReadyH.cons rfl (fun K hK => ?_) AllReadyH.nil
            refine step_append_run rfl (.tmp 37) (.tmp 44) 23 23 rfl rfl rfl HRr2.out ?_
            refine hK.out _ _ s18 (fun hHeld => ?_)
            clear hK K
            refine wpAnyH_take (i := 10) (v := ?vzd12) rfl (by kernel_rfl) (by kernel_rfl) (by kernel_rfl) (fun _ _ _ h => h) (Or.inl ⟨by rfl, ?hyzd12⟩) hHeld ?restzd12
            case hyzd12 => intro w' hSw; (try dsimp only at hSw); go_simp; try with_reducible rfl
            simp only [Act.put]
            refine wpAnyH_ready (rs := [11]) (by kernel_rfl) (by simp) ?_
            refine AllReadyH.cons rfl (fun K hK => ?_) AllReadyH.nil
            go_simp
            refine hK.out _ _ (by rw [← hw9]; exact s19) (fun hHeld => ?_)
            clear hK K
            refine wpAnyH_done (by kernel_rfl) ?_ _
            rw [← hw9]
            clear hw9 z18 s18 z08 zf8 z1 s1 s0
            go_wp2
            exact retSc rfl rfl HK.out ⟨av, cv, aR', cR', Q, by rw [HTk.out, ← HLen.out], by rw [← HLen.out]; exact HTf, HQe, by rw [HTk.out]; exact HRf, HBf⟩
          refine AllReadyH.cons rfl (fun K hK => ?_) AllReadyH.nil
          go_simp
          refine hK.out _ _ hHeld (fun hHeld => ?_)
          clear hK K
          refine wpAnyH_ready (rs := [1]) (by kernel_rfl) (by simp) ?_
          refine AllReadyH.cons rfl (fun K hK => ?_) AllReadyH.nil
          go_simp
          refine hK.out _ _ hHeld (fun hHeld => ?_)
          clear hK K
          refine wpAnyH_ready (rs := [9]) (by kernel_rfl) (by simp) ?_
          refine AllReadyH.cons rfl (fun K hK => ?_) AllReadyH.nil
          refine step_append_run rfl (.tmp 37) (.tmp 44) 23 23 rfl rfl rfl HRr2.out ?_
          refine hK.out _ _ s18 (fun hHeld => ?_)
          clear hK K
          refine wpAnyH_take (i := 10) (v := ?vzd10) rfl (by kernel_rfl) (by kernel_rfl) (by kernel_rfl) (fun _ _ _ h => h) (Or.inl ⟨by rfl, ?hyzd10⟩) hHeld ?restzd10
          case hyzd10 => intro w' hSw; (try dsimp only at hSw); go_simp; try with_reducible rfl
          simp only [Act.put]
          refine wpAnyH_ready (rs := [11]) (by kernel_rfl) (by simp) ?_
          refine AllReadyH.cons rfl (fun K hK => ?_) AllReadyH.nil
          go_simp
          refine hK.out _ _ (by rw [← hw9]; exact s19) (fun hHeld => ?_)
          clear hK K
          refine wpAnyH_done (by kernel_rfl) ?_ _
          rw [← hw9]
          clear hw9 z18 s18 z08 zf8 z1 s1 s0
          go_wp2
          exact retSc rfl rfl HK.out ⟨av, cv, aR', cR', Q, by rw [HTk.out, ← HLen.out], by rw [← HLen.out]; exact HTf, HQe, by rw [HTk.out]; exact HRf, HBf⟩
end Go.Proofs.Ytdpkmkhflgmioaa
