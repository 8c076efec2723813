/- mortiselaw16: cut. -/
import Derived.Test.YtepmgbfdmbogiaaZlm
import Derived.Test.YtepmgbfdmbogiaaRgf
namespace Go.Proofs.Ytepmgbfdmbogiaa
open Go.RowKit
set_option linter.unusedVariables false


theorem TOwn.push2 {w : World} {B : Nat} {v : Value} {Q : List (Ty × Value)} (h : TOwn w B v Q) (t : Ty) (u : Value) (hu1 : u.oneCell' = true) (ht : PtIn w B t.ps u) (hl : Q.length ≤ 1000000000) (hB : B ≤ w.heap.size) :
    ∃ g c w', (Builtin.append_ #[22, 22] 22 #[v, .slice (some ⟨w.heap.size, 0, none⟩) 1 1]).run Try.prog (w.alloc (.cells #[.int .i64 t.k, .int .i64 t.n, .int .i64 t.e, u] 54)) = .ok (.slice (some ⟨g, 0, none⟩) (Q.length + 1) c) w' ∧ TOwn w' B (.slice (some ⟨g, 0, none⟩) (Q.length + 1) c) (Q ++ [(t, u)]) ∧ Upd (fun k => v.ownBlock = some k) w w' ∧ (v.ownBlock = some g ∨ w.heap.size ≤ g) := by
  obtain ⟨g, cap, w', h1, h2, h3, h4⟩ := run_pushS (P := Try.prog) (t := 22) (e := 54) (c := 4) Try.underlying22 infoT rfl (by decide) w 22 h.1 (tyc t u) rfl (fun x hx => by simp [tyc] at hx; rcases hx with rfl | rfl | rfl | rfl; rfl; rfl; rfl; exact hu1) (by unfold maxLen; omega) (by omega) hB
  have hs : ∀ k, v.ownBlock = some k → B ≤ k := fun k hk => (h.1.lt k hk).1
  have hn : ∀ k ys, v.ownBlock = some k → Blk w k 56 ys → False := fun k ys hk hb => by
    obtain ⟨zs, hz⟩ := ownS_type h.1 hk
    exact absurd (blk_type hz hb) (by decide)
  refine ⟨g, cap, w', h1, ⟨?_, fun p hp => ?_⟩, h3, h4⟩
  · rw [cellsG_app, cellsG_one, List.length_append, List.length_singleton]
    exact h2
  · rcases List.mem_append.1 hp with hp | hp
    · exact (h.2 p hp).upd h3 hs hn
    · simp at hp
      subst hp
      exact ht.upd h3 hs hn
def mkP : Pt := ⟨⟨#[]⟩, -9, 0⟩
def mkT : Ty := ⟨-9, 0, 0, []⟩
def mkR : Rt := ⟨⟨#[]⟩, -9⟩
/-- The roots of the first types. -/
def rtF (n : Nat) (R : List Rt) : List Rt := R.filter (fun r => decide (r.ty < (n : Int)))
theorem rtF_succ {n i : Nat} {R : List Rt} {r : Rt} (h : R[i]? = some r) : rtF n (R.take (i + 1)) = rtF n (R.take i) ++ if r.ty < (n : Int) then [r] else [] := by
  have hi := (List.getElem?_eq_some_iff.1 h).1
  unfold rtF
  rw [List.take_succ_eq_append_getElem hi, (List.getElem?_eq_some_iff.1 h).2, List.filter_append]
  congr 1
  by_cases hr : r.ty < (n : Int)
  · rw [if_pos hr]; simp [hr]
  · rw [if_neg hr]; simp [hr]
theorem rtF_le (n : Nat) (R : List Rt) : (rtF n R).length ≤ R.length := List.length_filter_le _ _
/-- What cut answers. -/
def CutTo (w : World) (n : Nat) (T : List Ty) (R : List Rt) (e : Ending) (w' : World) : Prop := ∃ gT cT Q gR cR, e = .returned (.agg #[.slice (some ⟨gT, 0, none⟩) n cT, .slice (some ⟨gR, 0, none⟩) (rtF n R).length cR]) ∧ Hid (LtS w' w.heap.size gT cT Q gR cR (rtF n R) mkP mkT mkR) ∧ Hid (Q.map (·.1) = T.take n) ∧ Hid (Below w.heap.size w w')
theorem TOwn.updS {w w' : World} {B : Nat} {v : Value} {Q : List (Ty × Value)} {S : Nat → Prop} (h : TOwn w B v Q) (hu : Upd S w w') (hs : ∀ k, S k → B ≤ k) (hn : ∀ k ys, S k → Blk w k 56 ys → False) (ht : ∀ k ys, S k → Blk w k 54 ys → False) : TOwn w' B v Q :=
  ⟨ownS_upd h.1 hu (fun k e hS => by obtain ⟨ys, hy⟩ := ownS_type h.1 e; exact ht k ys hS hy), fun p hp => (h.2 p hp).upd hu hs hn⟩
/-- Parts copied, a mark behind them. -/
theorem ptO (w : World) (va : Option Addr) (vc : Nat) (ps : List Pt) (hP : PRow w va ps) (hvn : va = none → vc = 0) (hpl : ps.length ≤ 4398046510976) :
    ∃ v1 w1 g2 c2 w2, (Builtin.append_ #[52, 52] 52 #[.slice none 0 0, .slice va ps.length vc]).run Try.prog w = .ok v1 w1 ∧
      (Builtin.append_ #[52, 52] 52 #[v1, .slice (some ⟨w1.heap.size, 0, none⟩) 1 1]).run Try.prog (w1.alloc (.cells #[.string ⟨#[]⟩, .int .i64 (-9), .int .i64 0] 56)) = .ok (.slice (some ⟨g2, 0, none⟩) (ps.length + 1) c2) w2 ∧
      MkIn w2 w.heap.size mkP ps (.slice (some ⟨g2, 0, none⟩) ps.length c2) ∧ Below w.heap.size w w1 ∧ Below w.heap.size w w2 ∧ ps.length + 1 ≤ c2 := by
  obtain ⟨v1, w1, h1, h2', h3⟩ := run_copyG (P := Try.prog) ptc_len ptc_one Try.underlying52 infoP rfl (by decide) w va ps.length vc ps rfl hP hvn (by unfold maxLen; omega) (by omega)
  have h2 : POwn w1 w.heap.size v1 ps := h2'
  have kb : Blk (w1.alloc (.cells #[.string ⟨#[]⟩, .int .i64 (-9), .int .i64 0] 56)) w1.heap.size 56 (ptc mkP) := Blk.newA w1 _ _
  have ba := below1 w1 (.cells #[.string ⟨#[]⟩, .int .i64 (-9), .int .i64 0] 56)
  obtain ⟨g2, c2, w2, k1, k2, k3, k4, k5, -⟩ := run_app1 (P := Try.prog) ptc_len ptc_one Try.underlying52 infoP rfl (by decide) _ (h2.later ba) w1.heap.size mkP kb (by unfold maxLen; omega) (by omega) (Nat.le_trans h3.size ba.size)
  have hb2 : Below w.heap.size w w2 := (below_to h3 ba).trans (k3.below _ (Nat.le_trans h3.size ba.size) (fun k hk => (World.ownsRow.lt h2 k hk).1))
  exact ⟨v1, w1, g2, c2, w2, h1, k1, POwn.mkIn (B := w.heap.size) (by rw [List.length_append, List.length_singleton] at k2; unfold POwn; rw [List.length_append, List.length_singleton]; exact k2), h3, hb2, k5⟩
/-- Memory while types are copied. -/
structure CuS (w wr : World) (a b v : Value) (Q : List (Ty × Value)) : Prop where
  arg : Blk wr w.heap.size 25 [a, b]
  res : Blk wr (w.heap.size + 1) 25 [.slice none 0 0, .slice none 0 0]
  out : Blk wr (w.heap.size + 2) 25 [v, .slice none 0 0]
  own : TOwn wr w.heap.size v Q
  mks : ∀ p ∈ Q, MkIn wr w.heap.size mkP p.1.ps p.2
  bel : Below w.heap.size w wr
/-- Memory while roots are copied. -/
structure RtS (w wr : World) (g8 c8 n : Nat) (Q : List (Ty × Value)) (vO vR : Value) (l : List Rt) (a b : Value) : Prop where
  arg : Blk wr w.heap.size 25 [a, b]
  res : Blk wr (w.heap.size + 1) 25 [.slice none 0 0, .slice none 0 0]
  out : Blk wr (w.heap.size + 2) 25 [.slice (some ⟨g8, 0, none⟩) n c8, vO]
  ty : TOwn wr w.heap.size (.slice (some ⟨g8, 0, none⟩) (Q.length + 1) c8) (Q ++ [(mkT, .slice none 0 0)])
  mks : ∀ p ∈ Q, MkIn wr w.heap.size mkP p.1.ps p.2
  rt : ROwn wr w.heap.size vR l
  bel : Below w.heap.size w wr
section
variable {w wr wz : World} {g8 c8 n : Nat} {Q : List (Ty × Value)} {vO vR : Value} {l : List Rt} {a b : Value}
theorem RtS.later (h : RtS w wr g8 c8 n Q vO vR l a b) (hB : Below wr.heap.size wr wz) : RtS w wz g8 c8 n Q vO vR l a b :=
  ⟨h.arg.later hB, h.res.later hB, h.out.later hB, h.ty.later hB, fun p hp => (h.mks p hp).later hB, h.rt.later hB, below_to h.bel hB⟩
theorem RtS.push (h : RtS w wr g8 c8 n Q vO vR l a b) (r : Rt) (hl : l.length ≤ 5864062014634) : ∃ g cap w', (Builtin.append_ #[23, 23] 23 #[vR, .slice (some ⟨wr.heap.size, 0, none⟩) 1 1]).run Try.prog (wr.alloc (.cells #[.string r.name, .int .i64 r.ty] 58)) = .ok (.slice (some ⟨g, 0, none⟩) (l.length + 1) cap) w' ∧ RtS w w' g8 c8 n Q vO (.slice (some ⟨g, 0, none⟩) (l.length + 1) cap) (l ++ [r]) a b ∧ l.length + 1 ≤ cap := by
  obtain ⟨g, cap, w', h1, h2, h3, h4⟩ := run_pushS (P := Try.prog) (t := 23) (e := 58) (c := 2) Try.underlying23 infoR rfl (by decide) wr 23 h.rt (rtc r) rfl (rtc_one1 r) (by unfold maxLen; omega) (by omega) h.bel.size
  have hty : ∀ k t ys, vR.ownBlock = some k → Blk wr k t ys → t = 58 := fun k t ys e hb => by
    obtain ⟨zs, hz⟩ := ownS_type h.rt e
    exact blk_type hb hz
  have hge : ∀ k, vR.ownBlock = some k → w.heap.size ≤ k := fun k e => (World.ownsRow.lt h.rt k e).1
  have ho : ROwn w' w.heap.size (.slice (some ⟨g, 0, none⟩) (l.length + 1) cap) (l ++ [r]) := by
    unfold ROwn
    rw [cellsG_app, cellsG_one, List.length_append, List.length_singleton]
    exact h2
  refine ⟨g, cap, w', h1, ⟨h.arg.upd h3 (fun e => absurd (hty _ _ _ e h.arg) (by decide)), h.res.upd h3 (fun e => absurd (hty _ _ _ e h.res) (by decide)), h.out.upd h3 (fun e => absurd (hty _ _ _ e h.out) (by decide)), h.ty.updS h3 hge (fun k ys e hb => absurd (hty _ _ _ e hb) (by decide)) (fun k ys e hb => absurd (hty _ _ _ e hb) (by decide)), fun p hp => (h.mks p hp).upd h3 (fun k ys e hb => absurd (hty _ _ _ e hb) (by decide)), ho, h.bel.trans (h3.below _ h.bel.size hge)⟩, ?_⟩
  obtain ⟨_, _, e, hc, -, -⟩ := own_grow rtc_len ho
  injection e with _ _ e3
  rw [e3]
  simpa using hc
theorem RtS.put (h : RtS w wr g8 c8 n Q vO vR l a b) (u : Value) : RtS w (wr.setCell ⟨w.heap.size + 2, 1, none⟩ u) g8 c8 n Q u vR l a b :=
  ⟨h.arg.other _ _ (by show w.heap.size ≠ w.heap.size + 2; omega), h.res.other _ _ (by show w.heap.size + 1 ≠ w.heap.size + 2; omega), by have := h.out.set 1 u; simpa using this, h.ty.other h.out (by omega) (by decide) (by decide) 1 u, fun p hp => (h.mks p hp).upd ((Upd.refl (fun k => k = w.heap.size + 2) wr).set ⟨w.heap.size + 2, 1, none⟩ u (.inl rfl)) (fun k ys e hb => by subst e; exact absurd (blk_type h.out hb) (by decide)), h.rt.other h.out (by decide) 1 u, below_set h.bel _ _ _ (by omega)⟩
end
set_option maxRecDepth 100000 in
set_option maxHeartbeats 8000000 in
theorem cut_any (aT : Option Addr) (cT : Nat) (T : List Ty) (aR : Option Addr) (cR : Nat) (R : List Rt) (n0 n : Nat) (w : World) (hnn : min n0 T.length = n) (hn2 : n ≤ 1000000) (hTl : T.length ≤ 9223372036854775806) (hRl : R.length ≤ 5864062014634) (hl : Hid (∀ t ∈ T, t.ps.length ≤ 4398046510976)) (hT : Hid (TRow w aT T)) (hR : Hid (RRow w aR R)) :
    Calls Try.prog 7 #[.agg #[.slice aT T.length cT, .slice aR R.length cR], .int .i64 (n0 : Int)] w fun e w' => CutTo w n T R e w' := by
  have hmn : min (n0 : Int) (T.length : Int) = (n : Int) := by omega
  have hnT : n ≤ T.length := by omega
  obtain ⟨w1, hw1⟩ : ∃ wx, wx = (w.alloc (.cells #[.slice aT T.length cT, .slice aR R.length cR] 25)).alloc (.cells #[.slice none 0 0, .slice none 0 0] 25) := ⟨_, rfl⟩
  obtain ⟨w2, hw2⟩ : ∃ wx, wx = w1.alloc (.cells #[.slice none 0 0, .slice none 0 0] 25) := ⟨_, rfl⟩
  have hB1 : Below w.heap.size w w1 := by rw [hw1]; exact below2 _ _ _
  have hB2 : Below w1.heap.size w1 w2 := by rw [hw2]; exact below1 _ _
  obtain ⟨k1, k2⟩ := blk2 w #[.slice aT T.length cT, .slice aR R.length cR] #[.slice none 0 0, .slice none 0 0] 25 25
  rw [← hw1] at k1 k2
  have k3 : Blk w2 w1.heap.size 25 [.slice none 0 0, .slice none 0 0] := by rw [hw2]; exact Blk.newA w1 _ _
  have hz1 : w1.heap.size = w.heap.size + 2 := by rw [hw1]; simp
  rw [hz1] at k3
  have HS0 : Hid (CuS w w2 (.slice aT T.length cT) (.slice aR R.length cR) (.slice none 0 0) []) := hide_ ⟨k1.later hB2, k2.later hB2, k3, ⟨World.ownsRow_nil _ _ _ _, fun p hp => (by cases hp)⟩, fun p hp => (by cases hp), below_to hB1 hB2⟩
  have c0 := (k1.later hB2).cell 0
  simp at c0
  clear hB1 hB2 k1 k2 k3 hnn
  go_enter Try.func7, Try.ntmps7
  go_upto_region 1 with fail
  rw [← hw1]
  clear hw1
  go_upto_region 2 with fail
  rw [← hw2]
  try rw [hz1]
  clear hw2 hz1
  go_cut [1] from 10 to 14 (fun x1 wc => x1 = .int .i64 (n : Int) ∧ w2 = wc)
  case first =>
    by_cases hc : n0 ≤ T.length
    · have hc' : (n0 : Int) ≤ (T.length : Int) := by omega
      obtain rfl : n0 = n := by omega
      clear hmn
      go_wp2_with fail
      all_goals
        go_meet
        case rel => exact ⟨by first | rfl | (congr 1; omega), rfl⟩
    · have hc' : (T.length : Int) < (n0 : Int) := by omega
      obtain rfl : T.length = n := by omega
      clear hmn
      go_wp2_with fail
      all_goals
        go_meet
        case rel => exact ⟨by first | rfl | (congr 1; omega), rfl⟩
  case rest =>
  obtain ⟨rfl, rfl⟩ := hcut
  go_wp2_with fail
  clear c0
  go_loopw [6] (fun x6 wr => ∃ (i : Nat) (v : Value) (Q : List (Ty × Value)), i ≤ n ∧ x6 = .int .i64 (i : Int) ∧ Hid (Q.map (·.1) = T.take i) ∧ Hid (CuS w wr (.slice aT T.length cT) (.slice aR R.length cR) v Q)) (fun x6 _ => n - (intOf x6).toNat)
  case atStart => exact ⟨0, _, [], Nat.zero_le _, rfl, hide_ rfl, HS0⟩
  case round =>
    obtain ⟨i, v, Q, hi, rfl, HQ, HS⟩ := hrel
    generalize wr = wq at *
    clear HS0
    by_cases hlt : i < n
    · have hlt' : (i : Int) < (n : Int) := by omega
      have hltT : i < T.length := by omega
      have hltT' : (i : Int) < T.length := by omega
      have hx : T[i]? = some (T[i]'hltT) := List.getElem?_eq_getElem hltT
      obtain ⟨bT, oT, rfl, hbT, hcT⟩ := hT.out.open (by omega)
      obtain ⟨va, vc, hty, hvc, hvn, hpr⟩ := hcT i _ hx
      have HX := hide_ hx
      have hpl := hl.out _ (List.mem_of_getElem? hx)
      generalize T[i]'hltT = t at *
      have hty' : ∀ j, j < 4 → wq.cell? ⟨bT, oT + i * 4 + j, none⟩ = (tyc t (.slice va t.ps.length vc))[j]? := fun j hj => (HS.out.bel.cell (p := ⟨bT, oT + i * 4 + j, none⟩) hbT).trans (hty j hj)
      have y0 := hty' 0 (by decide); have y1 := hty' 1 (by decide); have y2 := hty' 2 (by decide); have y3 := hty' 3 (by decide)
      simp [tyc] at y0 y1 y2 y3
      obtain ⟨av, cv, hav, -⟩ := HS.out.own.row
      rw [List.length_map] at hav
      subst hav
      have i0 := HS.out.arg.cell 0
      simp at i0
      obtain ⟨wa, hwa⟩ : ∃ wx, wx = wq.alloc (.cells #[.int .i64 t.k, .int .i64 t.n, .int .i64 t.e, .slice va t.ps.length vc] 54) := ⟨_, rfl⟩
      have ba : Below wq.heap.size wq wa := by rw [hwa]; exact below1 _ _
      have ka : Blk wa wq.heap.size 54 [.int .i64 t.k, .int .i64 t.n, .int .i64 t.e, .slice va t.ps.length vc] := by rw [hwa]; exact Blk.newA wq _ _
      have hz0 : w.heap.size ≤ wq.heap.size := HS.out.bel.size
      have hza : w.heap.size ≤ wa.heap.size := Nat.le_trans hz0 ba.size
      obtain ⟨Av, Aw, Ag, Ac, Aw2, A1, A2, Am, Ab1, Ab2, Acc⟩ := ptO wa va vc t.ps (hpr.later (below_to HS.out.bel ba)) hvn hpl
      have Am2 : MkIn Aw2 w.heap.size mkP t.ps (.slice (some ⟨Ag, 0, none⟩) t.ps.length Ac) := by
        obtain ⟨g, c, e, h1, h2, h3, h4⟩ := Am
        exact ⟨g, c, e, h1, h2, Nat.le_trans hza h3, h4⟩
      have hAc : (t.ps.length : Int) ≤ Ac := by omega
      have kz := ka.later Ab2
      obtain ⟨wz, hwz⟩ : ∃ wx, wx = Aw2.setCell ⟨wq.heap.size, 3, none⟩ (.slice (some ⟨Ag, 0, none⟩) t.ps.length Ac) := ⟨_, rfl⟩
      have KZ : Hid (Blk wz wq.heap.size 54 [.int .i64 t.k, .int .i64 t.n, .int .i64 t.e, .slice (some ⟨Ag, 0, none⟩) t.ps.length Ac]) := hide_ (by rw [hwz]; have h := kz.set 3 (.slice (some ⟨Ag, 0, none⟩) t.ps.length Ac); simpa using h)
      have hBz : Below wq.heap.size wq wz := by rw [hwz]; exact below_set (below_to ba Ab2) wq.heap.size 3 _ (Nat.le_refl _)
      have hMz : MkIn wz w.heap.size mkP t.ps (.slice (some ⟨Ag, 0, none⟩) t.ps.length Ac) := by rw [hwz]; exact Am2.upd ((Upd.refl (fun k => k = wq.heap.size) _).set ⟨wq.heap.size, 3, none⟩ (.slice (some ⟨Ag, 0, none⟩) t.ps.length Ac) (.inl rfl)) (fun k ys e hb => by subst e; exact absurd (blk_type kz hb) (by decide))
      have j3 := ka.cell 3
      have l3 := kz.cell 3
      have lf := kz.frozen 3
      simp at j3 l3
      have HA1 := hide_ A1
      have HA2 := hide_ A2
      have own2 := HS.out.own.later hBz
      obtain ⟨g8, c8, w8, hrun, hO8, hU8, hL8⟩ := own2.push2 t (.slice (some ⟨Ag, 0, none⟩) t.ps.length Ac) rfl (hMz.ptIn _) (by have := congrArg List.length HQ.out; simp at this; omega) (Nat.le_trans hz0 hBz.size)
      have HR := hide_ hrun
      have nb : ∀ k t' ys, Blk wz k t' ys → t' ≠ 54 → ¬ (Value.slice av Q.length cv).ownBlock = some k := fun k t' ys hb ht e => by
        obtain ⟨zs, hz⟩ := ownS_type own2.1 e
        exact ht (blk_type hb hz)
      have o8 := (HS.out.out.later hBz).upd hU8 (nb _ _ _ (HS.out.out.later hBz) (by decide))
      have a8 := (HS.out.arg.later hBz).upd hU8 (nb _ _ _ (HS.out.arg.later hBz) (by decide))
      have r8 := (HS.out.res.later hBz).upd hU8 (nb _ _ _ (HS.out.res.later hBz) (by decide))
      have hB8 : Below w.heap.size w w8 := (below_to HS.out.bel hBz).trans (hU8.below _ (Nat.le_trans hz0 hBz.size) (fun k hk => (World.ownsRow.lt own2.1 k hk).1))
      have hpn : ∀ k ys, (Value.slice av Q.length cv).ownBlock = some k → Blk wz k 56 ys → False := fun k ys hk hb => nb k _ ys hb (by decide) hk
      have hmk8 : ∀ p ∈ Q ++ [(t, Value.slice (some ⟨Ag, 0, none⟩) t.ps.length Ac)], MkIn w8 w.heap.size mkP p.1.ps p.2 := fun p hp => by
        rcases List.mem_append.1 hp with hp | hp
        · exact ((HS.out.mks p hp).later hBz).upd hU8 hpn
        · simp at hp
          subst hp
          exact hMz.upd hU8 hpn
      have HSn : Hid (CuS w (w8.setCell ⟨w.heap.size + 2, 0, none⟩ (.slice (some ⟨g8, 0, none⟩) (Q.length + 1) c8)) (.slice (some ⟨bT, oT, none⟩) T.length cT) (.slice aR R.length cR) (.slice (some ⟨g8, 0, none⟩) (Q.length + 1) c8) (Q ++ [(t, .slice (some ⟨Ag, 0, none⟩) t.ps.length Ac)])) := hide_ ⟨a8.other _ _ (by show w.heap.size ≠ w.heap.size + 2; omega), r8.other _ _ (by show w.heap.size + 1 ≠ w.heap.size + 2; omega), by have h := o8.set 0 (.slice (some ⟨g8, 0, none⟩) (Q.length + 1) c8); simpa using h, hO8.other o8 (by omega) (by decide) (by decide) 0 _, fun p hp => (hmk8 p hp).upd ((Upd.refl (fun k => k = w.heap.size + 2) _).set ⟨w.heap.size + 2, 0, none⟩ (.slice (some ⟨g8, 0, none⟩) (Q.length + 1) c8) (.inl rfl)) (fun k ys e hb => by subst e; exact absurd (blk_type o8 hb) (by decide)), below_set hB8 _ _ _ (by omega)⟩
      have q0 := KZ.out.cell 0; have q1 := KZ.out.cell 1; have q2 := KZ.out.cell 2; have q3 := KZ.out.cell 3
      have z0 := (HS.out.out.later hBz).cell 0
      have z8 := o8.cell 0
      have f8 := o8.frozen 0
      simp at q0 q1 q2 q3 z0 z8
      have HQn : Hid ((Q ++ [(t, Value.slice (some ⟨Ag, 0, none⟩) t.ps.length Ac)]).map (·.1) = T.take (i + 1)) := hide_ (by
        have hi := (List.getElem?_eq_some_iff.1 HX.out).1
        rw [List.take_succ_eq_append_getElem hi, (List.getElem?_eq_some_iff.1 HX.out).2, List.map_append, HQ.out]
        rfl)
      clear hty hty' hcT hx hpr ba ka A1 A2 Am Am2 Ab1 Ab2 Acc kz hBz hMz own2 hrun hO8 hU8 hL8 nb o8 a8 r8 hB8 hpn hmk8 HQ HS
      go_upto_region 7 with fail
      rw [← hwa]
      clear hwa i0 y0 y1 y2 y3
      go_upto_region 9 with (first
        | (at_builtin; have _t := HA1; refine wpList_append_run rfl (.const (.slice none 0 0)) (.tmp 26) 52 52 rfl rfl rfl HA1.out ?_; clear HA1)
        | (at_builtin; have _t := HA2; refine wpList_append_run rfl (.tmp 27) (.tmp 29) 52 52 rfl rfl rfl HA2.out ?_; clear HA2))
      rw [← hwz]
      clear hwz j3 l3 lf
      go_wp2_with (at_builtin; refine wpList_append_run rfl (.tmp 38) (.tmp 40) 22 22 rfl rfl rfl HR.out ?_)
      go_roundw
      case rel => exact ⟨i + 1, _, _, by omega, by go_num, HQn, HSn⟩
      case measure => simp [intOf]; omega
    · obtain rfl : n = i := by omega
      clear hlt hi
      have HQe := HQ
      have hql : Q.length = n := by have := congrArg List.length HQe.out; simp at this; omega
      obtain ⟨av, cv, hav, -⟩ := HS.out.own.row
      rw [List.length_map] at hav
      subst hav
      have hz0 : w.heap.size ≤ wq.heap.size := HS.out.bel.size
      obtain ⟨g8, c8, w8, hrun, hO8, hU8, hL8⟩ := HS.out.own.push2 mkT (.slice none 0 0) rfl ⟨none, 0, rfl, Nat.le_refl _, fun _ => rfl, .inl rfl, .inl rfl⟩ (by omega) hz0
      have hc8 : Q.length + 1 ≤ c8 := by
        obtain ⟨_, _, e, h1, -, -⟩ := own_grow tyq_len hO8.1
        injection e with _ _ e3
        rw [e3]
        simpa using h1
      have hc8' : (n : Int) ≤ c8 := by omega
      simp only [mkT] at hrun
      have HR8 := hide_ hrun
      have nb : ∀ k t' ys, Blk wq k t' ys → t' ≠ 54 → ¬ (Value.slice av Q.length cv).ownBlock = some k := fun k t' ys hb ht e => by
        obtain ⟨zs, hz⟩ := ownS_type HS.out.own.1 e
        exact ht (blk_type hb hz)
      have o8 := HS.out.out.upd hU8 (nb _ _ _ HS.out.out (by decide))
      have a8 := HS.out.arg.upd hU8 (nb _ _ _ HS.out.arg (by decide))
      have r8 := HS.out.res.upd hU8 (nb _ _ _ HS.out.res (by decide))
      have hB8 : Below w.heap.size w w8 := HS.out.bel.trans (hU8.below _ HS.out.bel.size (fun k hk => (World.ownsRow.lt HS.out.own.1 k hk).1))
      have hmk8 : ∀ p ∈ Q, MkIn w8 w.heap.size mkP p.1.ps p.2 := fun p hp => (HS.out.mks p hp).upd hU8 (fun k ys hk hb => nb k _ ys hb (by decide) hk)
      obtain ⟨wz, hwz⟩ : ∃ wx, wx = w8.setCell ⟨w.heap.size + 2, 0, none⟩ (.slice (some ⟨g8, 0, none⟩) n c8) := ⟨_, rfl⟩
      have HZ : Hid (RtS w wz g8 c8 n Q (.slice none 0 0) (.slice none 0 0) [] (.slice aT T.length cT) (.slice aR R.length cR)) := hide_ (by
        rw [hwz]
        exact ⟨a8.other _ _ (by show w.heap.size ≠ w.heap.size + 2; omega), r8.other _ _ (by show w.heap.size + 1 ≠ w.heap.size + 2; omega), by have h := o8.set 0 (.slice (some ⟨g8, 0, none⟩) n c8); simpa using h, hO8.other o8 (by omega) (by decide) (by decide) 0 _, fun p hp => (hmk8 p hp).upd ((Upd.refl (fun k => k = w.heap.size + 2) _).set ⟨w.heap.size + 2, 0, none⟩ (.slice (some ⟨g8, 0, none⟩) n c8) (.inl rfl)) (fun k ys e hb => by subst e; exact absurd (blk_type o8 hb) (by decide)), World.ownsRow_nil _ _ _ _, below_set hB8 _ _ _ (by omega)⟩)
      have z0 := HS.out.out.cell 0
      have z8 := o8.cell 0
      have f8 := o8.frozen 0
      simp at z0 z8
      clear hrun hO8 hU8 hL8 nb o8 a8 r8 hB8 hmk8 HS HQ hql hc8 hz0
      go_upto_region 11 with (at_builtin; refine wpList_append_run rfl (.tmp 44) (.tmp 46) 22 22 rfl rfl rfl HR8.out ?_)
      rw [← hwz]
      clear hwz z0 z8 f8 HR8
      clear hmn
      go_wp2_with fail
      go_loopw [9] (fun x9 wr => ∃ (i : Nat) (v : Value) (l : List Rt), i ≤ R.length ∧ x9 = .int .i64 (i : Int) ∧ Hid (l = rtF n (R.take i)) ∧ Hid (RtS w wr g8 c8 n Q v v l (.slice aT T.length cT) (.slice aR R.length cR))) (fun x9 _ => R.length - (intOf x9).toNat)
      case atStart => exact ⟨0, _, [], Nat.zero_le _, rfl, hide_ rfl, HZ⟩
      case round =>
        obtain ⟨i, v, l, hi, rfl, HF, HX⟩ := hrel
        generalize wr = wq at *
        clear HZ
        have hF2 := congrArg List.length HF.out
        have hle := rtF_le n (R.take i)
        rw [← hF2, List.length_take] at hle
        have hll : l.length ≤ 5864062014634 := by omega
        clear hF2 hle
        obtain ⟨av, cv, hav, -, -, -⟩ := own_grow rtc_len HX.out.rt
        subst hav
        have g1 := HX.out.arg.cell 1
        simp at g1
        by_cases hlt : i < R.length
        · have hlt' : (i : Int) < R.length := by omega
          have hx : R[i]? = some (R[i]'hlt) := List.getElem?_eq_getElem hlt
          obtain ⟨bR, oR, rfl, hbR, hcR⟩ := hR.out.open (by omega)
          have HFs := hide_ (rtF_succ (n := n) hx)
          have hrc := fun j hj => (HX.out.bel.cell (p := ⟨bR, oR + i * 2 + j, none⟩) hbR).trans (hcR i _ hx j hj)
          have HRc : Hid (∀ w', Below wq.heap.size wq w' → w'.cell? ⟨bR, oR + i * 2, none⟩ = some (.string (R[i]'hlt).name) ∧ w'.cell? ⟨bR, oR + i * 2 + 1, none⟩ = some (.int .i64 (R[i]'hlt).ty)) := hide_ (fun w' hb => ⟨((below_to HX.out.bel hb).cell (p := ⟨bR, oR + i * 2, none⟩) hbR).trans (hcR i _ hx 0 (by decide)), ((below_to HX.out.bel hb).cell (p := ⟨bR, oR + i * 2 + 1, none⟩) hbR).trans (hcR i _ hx 1 (by decide))⟩)
          generalize R[i]'hlt = r at *
          have y1 := hrc 1 (by decide)
          simp [rtc] at y1
          clear hrc hcR hx
          by_cases hty : r.ty < (n : Int)
          · rw [if_pos hty] at HFs
            obtain ⟨g, cap, w8, hrun, hP8, -⟩ := (HX.out.later ((Below.refl _ _).drew)).push r hll
            have HR := hide_ hrun
            have HFn : Hid (l ++ [r] = rtF n (R.take (i + 1))) := hide_ (by rw [HFs.out, HF.out])
            have HXn : Hid (RtS w (w8.setCell ⟨w.heap.size + 2, 1, none⟩ (.slice (some ⟨g, 0, none⟩) (l.length + 1) cap)) g8 c8 n Q (.slice (some ⟨g, 0, none⟩) (l.length + 1) cap) (.slice (some ⟨g, 0, none⟩) (l.length + 1) cap) (l ++ [r]) (.slice aT T.length cT) (.slice (some ⟨bR, oR, none⟩) R.length cR)) := hide_ (hP8.put _)
            have HSS : Hid (∀ w', Below wq.heap.size wq w' → (fun w' => w'.cell? ⟨w.heap.size + 2, 1, none⟩ = some (.slice av l.length cv) ∧ w'.cell? ⟨w.heap.size, 1, none⟩ = some (.slice (some ⟨bR, oR, none⟩) R.length cR) ∧ w'.cell? ⟨bR, oR + i * 2, none⟩ = some (.string r.name) ∧ w'.cell? ⟨bR, oR + i * 2 + 1, none⟩ = some (.int .i64 r.ty)) w') := hide_ (fun w' hb => ⟨by have := (HX.out.out.later hb).cell 1; simpa using this, by have := (HX.out.arg.later hb).cell 1; simpa using this, (HRc.out w' hb).1, (HRc.out w' hb).2⟩)
            have HS2 : Hid ((fun w' => w'.cell? ⟨w.heap.size + 2, 1, none⟩ = some (.slice av l.length cv) ∧ w'.cell? ⟨w.heap.size, 1, none⟩ = some (.slice (some ⟨bR, oR, none⟩) R.length cR) ∧ w'.cell? ⟨bR, oR + i * 2, none⟩ = some (.string r.name) ∧ w'.cell? ⟨bR, oR + i * 2 + 1, none⟩ = some (.int .i64 r.ty)) w8) := hide_ (by
              have hbw := hP8.bel
              have x0 := hP8.out.cell 1; have x1 := hP8.arg.cell 1
              simp at x0 x1
              refine ⟨x0, x1, ?_, ?_⟩
              · exact (hbw.cell (p := ⟨bR, oR + i * 2, none⟩) hbR).trans ((HX.out.bel.cell (p := ⟨bR, oR + i * 2, none⟩) hbR).symm.trans (HRc.out wq (Below.refl _ _)).1)
              · exact (hbw.cell (p := ⟨bR, oR + i * 2 + 1, none⟩) hbR).trans ((HX.out.bel.cell (p := ⟨bR, oR + i * 2 + 1, none⟩) hbR).symm.trans (HRc.out wq (Below.refl _ _)).2))
            have HFz := hide_ (fun o => hP8.out.frozen o)
            clear hrun hP8 HX HRc HF HFs hbR
            go_upto_region 15 with fail
            clear y1 g1
            refine wp_region_last 10 (fun w' => w'.cell? ⟨w.heap.size + 2, 1, none⟩ = some (.slice av l.length cv) ∧ w'.cell? ⟨w.heap.size, 1, none⟩ = some (.slice (some ⟨bR, oR, none⟩) R.length cR) ∧ w'.cell? ⟨bR, oR + i * 2, none⟩ = some (.string r.name) ∧ w'.cell? ⟨bR, oR + i * 2 + 1, none⟩ = some (.int .i64 r.ty)) (by kernel_rfl) (HSS.out _ ((Below.refl wq.heap.size wq).drew)) (fun hHeld => ?_)
            refine wpAnyF_take [10] (by kernel_rfl) (i := 0) (v := ?vr1) rfl (by kernel_rfl) (by kernel_rfl) (by kernel_rfl) (fun _ _ _ h => h) (Or.inl ⟨by kernel_rfl, ?hyr1⟩) hHeld ?restr1
            case hyr1 => intro w' hSw; (try dsimp only at hSw); go_simp; try with_reducible rfl
            simp only [Act.put]
            refine wpAnyF_take [10] (by kernel_rfl) (i := 1) (v := ?vr2) rfl (by kernel_rfl) (by kernel_rfl) (by kernel_rfl) (fun _ _ _ h => h) (Or.inl ⟨by kernel_rfl, ?hyr2⟩) hHeld ?restr2
            case hyr2 => intro w' hSw; (try dsimp only at hSw); go_simp; try with_reducible rfl
            simp only [Act.put]
            refine wpAnyF_take [10] (by kernel_rfl) (i := 2) (v := ?vr3) rfl (by kernel_rfl) (by kernel_rfl) (by kernel_rfl) (fun _ _ _ h => h) (Or.inl ⟨by kernel_rfl, ?hyr3⟩) hHeld ?restr3
            case hyr3 => intro w' hSw; (try dsimp only at hSw); go_simp; try with_reducible rfl
            simp only [Act.put]
            refine wpAnyF_take [10] (by kernel_rfl) (i := 3) (v := ?vr4) rfl (by kernel_rfl) (by kernel_rfl) (by kernel_rfl) (fun _ _ _ h => h) (Or.inl ⟨by kernel_rfl, ?hyr4⟩) hHeld ?restr4
            case hyr4 => intro w' hSw; (try dsimp only at hSw); go_simp; try with_reducible rfl
            simp only [Act.put]
            refine wpAnyF_take [10] (by kernel_rfl) (i := 4) (v := ?vr5) rfl (by kernel_rfl) (by kernel_rfl) (by kernel_rfl) (fun _ _ _ h => h) (Or.inl ⟨by kernel_rfl, ?hyr5⟩) hHeld ?restr5
            case hyr5 => intro w' hSw; (try dsimp only at hSw); go_simp; try with_reducible rfl
            simp only [Act.put]
            refine wpAnyF_take [10] (by kernel_rfl) (i := 5) (v := ?vr6) rfl (by kernel_rfl) (by kernel_rfl) (by kernel_rfl) (fun _ _ _ h => h) (Or.inl ⟨by kernel_rfl, ?hyr6⟩) hHeld ?restr6
            case hyr6 => intro w' hSw; (try dsimp only at hSw); go_simp; try with_reducible rfl
            simp only [Act.put]
            refine wpAnyF_take [10] (by kernel_rfl) (i := 6) (v := ?vr7) rfl (by kernel_rfl) (by kernel_rfl) (by kernel_rfl) (fun _ _ _ h => h) (Or.inl ⟨by kernel_rfl, ?hyr7⟩) hHeld ?restr7
            case hyr7 => intro w' hSw; (try dsimp only at hSw); go_simp; try with_reducible rfl
            simp only [Act.put]
            refine wpAnyF_ready (rs := [7]) (by kernel_rfl) (by simp) ?_
            refine AllReadyF.cons rfl (fun K hK => ?_) AllReadyF.nil
            go_simp
            refine hK.out _ _ (HSS.out _ (below_to ((Below.refl wq.heap.size wq).drew) (below1 wq.drew _))) (fun hHeld => ?_)
            clear hK K
            refine wpAnyF_ready (rs := [8]) (by kernel_rfl) (by simp) ?_
            refine AllReadyF.cons rfl (fun K hK => ?_) AllReadyF.nil
            refine step_append_run rfl (.tmp 67) (.tmp 73) 23 23 rfl (v := .slice av l.length cv) (u := .slice (some ⟨wq.heap.size, 0, none⟩) 1 1) (by kernel_rfl) (by kernel_rfl) HR.out ?_
            simp only [Act.put]
            refine hK.out _ _ (HS2.out) (fun hHeld => ?_)
            clear hK K
            refine wpAnyF_take [10] (by kernel_rfl) (i := 9) (v := ?vr8) rfl (by kernel_rfl) (by kernel_rfl) (by kernel_rfl) (fun _ _ _ h => h) (Or.inl ⟨by kernel_rfl, ?hyr8⟩) hHeld ?restr8
            case hyr8 => intro w' hSw; (try dsimp only at hSw); go_simp; try with_reducible rfl
            simp only [Act.put]
            refine wpAnyF_ready (rs := [10]) (by kernel_rfl) (by simp) ?_
            refine AllReadyF.last rfl (fun K hK => ?_)
            have q2 := HS2.out.1; have qz := HFz.out 1
            go_simp
            refine hK.out _ _ ?_
            clear hK K
            refine wpAnyF_done (by kernel_rfl) ?_ _
            clear HSS HS2 HR HFz
            go_wp2_with fail
            go_roundw
            case rel => exact ⟨i + 1, _, _, by omega, by go_num, HFn, HXn⟩
            case measure => simp [intOf]; omega
          · rw [if_neg hty, List.append_nil] at HFs
            have HFn : Hid (l = rtF n (R.take (i + 1))) := hide_ (by rw [HFs.out, HF.out])
            clear HRc HF HFs hbR
            go_wp2_with fail
            go_roundw
            case rel => exact ⟨i + 1, _, _, by omega, by go_num, HFn, HX⟩
            case measure => simp [intOf]; omega
        · obtain rfl : R.length = i := by omega
          have hF := HF.out
          rw [List.take_length] at hF
          subst hF
          obtain ⟨g9, c9, w8, hrun, hP8, hcap⟩ := (HX.out.later ((Below.refl _ _).drew)).push mkR hll
          simp only [mkR] at hrun
          have HR := hide_ hrun
          have hP9 := hP8.put (.slice (some ⟨g9, 0, none⟩) (rtF n R).length c9)
          have KO9 := hide_ hP9.out
          have KR9 := hide_ hP9.res
          have hcap' : ((rtF n R).length : Int) ≤ c9 := by omega
          have HL9 : LtS _ w.heap.size g8 c8 Q g9 c9 (rtF n R) mkP mkT mkR := ⟨hP9.ty, hP9.mks, hP9.rt⟩
          have HKf : Hid (Blk (((w8.setCell ⟨w.heap.size + 2, 1, none⟩ (.slice (some ⟨g9, 0, none⟩) (rtF n R).length c9)).setCell ⟨w.heap.size + 1, 0, none⟩ (.slice (some ⟨g8, 0, none⟩) n c8)).setCell ⟨w.heap.size + 1, 1, none⟩ (.slice (some ⟨g9, 0, none⟩) (rtF n R).length c9)) (w.heap.size + 1) 25 [.slice (some ⟨g8, 0, none⟩) n c8, .slice (some ⟨g9, 0, none⟩) (rtF n R).length c9]) := hide_ (by have := (hP9.res.set 0 (.slice (some ⟨g8, 0, none⟩) n c8)).set 1 (.slice (some ⟨g9, 0, none⟩) (rtF n R).length c9); simpa using this)
          have hr1 := hP9.res.set 0 (.slice (some ⟨g8, 0, none⟩) n c8)
          have HLf : Hid (LtS (((w8.setCell ⟨w.heap.size + 2, 1, none⟩ (.slice (some ⟨g9, 0, none⟩) (rtF n R).length c9)).setCell ⟨w.heap.size + 1, 0, none⟩ (.slice (some ⟨g8, 0, none⟩) n c8)).setCell ⟨w.heap.size + 1, 1, none⟩ (.slice (some ⟨g9, 0, none⟩) (rtF n R).length c9)) w.heap.size g8 c8 Q g9 c9 (rtF n R) mkP mkT mkR) := hide_ ((HL9.other hP9.res (by omega) (by decide) (by decide) (by decide) 0 _).other hr1 (by omega) (by decide) (by decide) (by decide) 1 _)
          have HBf := hide_ (below_set (below_set hP9.bel (w.heap.size + 1) 0 (.slice (some ⟨g8, 0, none⟩) n c8) (by omega)) (w.heap.size + 1) 1 (.slice (some ⟨g9, 0, none⟩) (rtF n R).length c9) (by omega))
          have HSS : Hid (∀ w', Below wq.heap.size wq w' → (fun w' => w'.cell? ⟨w.heap.size + 2, 1, none⟩ = some (.slice av (rtF n R).length cv)) w') := hide_ (fun w' hb => by have := (HX.out.out.later hb).cell 1; simpa using this)
          have HS2 : Hid ((fun w' => w'.cell? ⟨w.heap.size + 2, 1, none⟩ = some (.slice av (rtF n R).length cv)) w8) := hide_ (by have x0 := hP8.out.cell 1; simpa using x0)
          have HFz := hide_ (fun o => hP8.out.frozen o)
          clear hrun hP8 HX HF hP9 HL9 hr1 hcap
          go_upto_region 16 with fail
          clear g1
          refine wp_region_last 10 (fun w' => w'.cell? ⟨w.heap.size + 2, 1, none⟩ = some (.slice av (rtF n R).length cv)) (by kernel_rfl) (HSS.out _ ((Below.refl wq.heap.size wq).drew)) (fun hHeld => ?_)
          refine wpAnyF_take [10] (by kernel_rfl) (i := 0) (v := ?vz1) rfl (by kernel_rfl) (by kernel_rfl) (by kernel_rfl) (fun _ _ _ h => h) (Or.inl ⟨by kernel_rfl, ?hyz1⟩) hHeld ?restz1
          case hyz1 => intro w' hSw; (try dsimp only at hSw); go_simp; try with_reducible rfl
          simp only [Act.put]
          refine wpAnyF_take [10] (by kernel_rfl) (i := 1) (v := ?vz2) rfl (by kernel_rfl) (by kernel_rfl) (by kernel_rfl) (fun _ _ _ h => h) (Or.inl ⟨by kernel_rfl, ?hyz2⟩) hHeld ?restz2
          case hyz2 => intro w' hSw; (try dsimp only at hSw); go_simp; try with_reducible rfl
          simp only [Act.put]
          refine wpAnyF_take [10] (by kernel_rfl) (i := 2) (v := ?vz3) rfl (by kernel_rfl) (by kernel_rfl) (by kernel_rfl) (fun _ _ _ h => h) (Or.inl ⟨by kernel_rfl, ?hyz3⟩) hHeld ?restz3
          case hyz3 => intro w' hSw; (try dsimp only at hSw); go_simp; try with_reducible rfl
          simp only [Act.put]
          refine wpAnyF_take [10] (by kernel_rfl) (i := 5) (v := ?vz4) rfl (by kernel_rfl) (by kernel_rfl) (by kernel_rfl) (fun _ _ _ h => h) (Or.inl ⟨by kernel_rfl, ?hyz4⟩) hHeld ?restz4
          case hyz4 => intro w' hSw; (try dsimp only at hSw); go_simp; try with_reducible rfl
          simp only [Act.put]
          refine wpAnyF_take [10] (by kernel_rfl) (i := 6) (v := ?vz5) rfl (by kernel_rfl) (by kernel_rfl) (by kernel_rfl) (fun _ _ _ h => h) (Or.inl ⟨by kernel_rfl, ?hyz5⟩) hHeld ?restz5
          case hyz5 => intro w' hSw; (try dsimp only at hSw); go_simp; try with_reducible rfl
          simp only [Act.put]
          refine wpAnyF_take [10] (by kernel_rfl) (i := 7) (v := ?vz6) rfl (by kernel_rfl) (by kernel_rfl) (by kernel_rfl) (fun _ _ _ h => h) (Or.inl ⟨by kernel_rfl, ?hyz6⟩) hHeld ?restz6
          case hyz6 => intro w' hSw; (try dsimp only at hSw); go_simp; try with_reducible rfl
          simp only [Act.put]
          refine wpAnyF_ready (rs := [3]) (by kernel_rfl) (by simp) ?_
          refine AllReadyF.cons rfl (fun K hK => ?_) AllReadyF.nil
          go_simp
          refine hK.out _ _ (HSS.out _ (below_to ((Below.refl wq.heap.size wq).drew) (below1 wq.drew _))) (fun hHeld => ?_)
          clear hK K
          refine wpAnyF_ready (rs := [4]) (by kernel_rfl) (by simp) ?_
          refine AllReadyF.cons rfl (fun K hK => ?_) AllReadyF.nil
          refine step_append_run rfl (.tmp 77) (.tmp 79) 23 23 rfl (v := .slice av (rtF n R).length cv) (u := .slice (some ⟨wq.heap.size, 0, none⟩) 1 1) (by kernel_rfl) (by kernel_rfl) HR.out ?_
          simp only [Act.put]
          refine hK.out _ _ (HS2.out) (fun hHeld => ?_)
          clear hK K
          refine wpAnyF_take [10] (by kernel_rfl) (i := 8) (v := ?vz7) rfl (by kernel_rfl) (by kernel_rfl) (by kernel_rfl) (fun _ _ _ h => h) (Or.inl ⟨by kernel_rfl, ?hyz7⟩) hHeld ?restz7
          case hyz7 => intro w' hSw; (try dsimp only at hSw); go_simp; try with_reducible rfl
          simp only [Act.put]
          refine wpAnyF_take [10] (by kernel_rfl) (i := 9) (v := ?vz8) rfl (by kernel_rfl) (by kernel_rfl) (by kernel_rfl) (fun _ _ _ h => h) (Or.inl ⟨by kernel_rfl, ?hyz8⟩) hHeld ?restz8
          case hyz8 => intro w' hSw; (try dsimp only at hSw); go_simp; try with_reducible rfl
          simp only [Act.put]
          refine wpAnyF_ready (rs := [10]) (by kernel_rfl) (by simp) ?_
          refine AllReadyF.last rfl (fun K hK => ?_)
          have q2 := HS2.out; have qz := HFz.out 1
          go_simp
          refine hK.out _ _ ?_
          clear hK K
          refine wpAnyF_done (by kernel_rfl) ?_ _
          clear HSS HS2 HR HFz
          have o0 := KO9.out.cell 0; have o1 := KO9.out.cell 1
          have s0 := KR9.out.cell 0; have s1 := KR9.out.cell 1
          have sz := fun i => KR9.out.frozen i
          simp at o0 o1 s0 s1
          go_wp2_with fail
          refine bodyPost_ret (results_cell_row rfl _ _ (w.heap.size + 1) 25 #[.slice (some ⟨g8, 0, none⟩) n c8, .slice (some ⟨g9, 0, none⟩) (rtF n R).length c9] _ _ rfl HKf.out Try.underlying25 rfl (by show _ = some 2; kernel_rfl)) rfl ?_
          exact ⟨g8, c8, Q, g9, c9, rfl, HLf, HQe, HBf⟩
end Go.Proofs.Ytepmgbfdmbogiaa
