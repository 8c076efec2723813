import Derived.Test.YtdpkmkhflgmioaaPart12
import Derived.Test.YtdpkmkhflgmioaaPart16
import Derived.Test.YtdpkmkhflgmioaaPart01

/- lent: a schema copied into lists with marks behind them. -/
namespace Go.Proofs.Ytdpkmkhflgmioaa
open Go.RowKit
set_option linter.unusedVariables false

def mqP : Pt := ⟨⟨#[]⟩, 23130, 0⟩
def mqT : Ty := ⟨23130, 0, 0, []⟩
def mqR : Rt := ⟨⟨#[]⟩, 23130⟩
/-- What lent answers. -/
def LentTo (w : World) (T : List Ty) (R : List Rt) (e : Ending) (w' : World) : Prop := ∃ gT cT Q gR cR, e = .returned (.agg #[.slice (some ⟨gT, 0, none⟩) T.length cT, .slice (some ⟨gR, 0, none⟩) R.length cR]) ∧ Hid (LtS w' w.heap.size gT cT Q gR cR R mqP mqT mqR) ∧ Hid (Q.map (·.1) = T) ∧ Hid (Below w.heap.size w w')
theorem ptO (w : World) (va : Option Addr) (vc : Nat) (ps : List Pt) (hP : PRow w va ps) (hvn : va = none → vc = 0) (hpl : ps.length ≤ 1000000) :
    ∃ v1 w1 g2 c2 w2, (Builtin.append_ #[60, 60] 60 #[.slice none 0 0, .slice va ps.length vc]).run Try.prog w = .ok v1 w1 ∧
      (Builtin.append_ #[60, 60] 60 #[v1, .slice (some ⟨w1.heap.size, 0, none⟩) 1 1]).run Try.prog (w1.alloc (.cells #[.string ⟨#[]⟩, .int .i64 23130, .int .i64 0] 64)) = .ok (.slice (some ⟨g2, 0, none⟩) (ps.length + 1) c2) w2 ∧
      MkIn w2 w.heap.size mqP ps (.slice (some ⟨g2, 0, none⟩) ps.length c2) ∧ Below w.heap.size w w1 ∧ Below w.heap.size w w2 ∧ ps.length + 1 ≤ c2 := by
  obtain ⟨v1, w1, h1, h2, h3⟩ := copyP w va vc ps hP hvn hpl
  have kb : Blk (w1.alloc (.cells #[.string ⟨#[]⟩, .int .i64 23130, .int .i64 0] 64)) w1.heap.size 64 (ptc mqP) := Blk.newA w1 _ _
  have ba := below1 w1 (.cells #[.string ⟨#[]⟩, .int .i64 23130, .int .i64 0] 64)
  obtain ⟨g2, c2, w2, k1, k2, k3, k4, k5, -⟩ := run_app1 (P := Try.prog) ptc_len ptc_one Try.underlying60 infoP rfl (by decide) _ (h2.later ba) w1.heap.size mqP kb (by unfold maxLen; omega) (by omega) (Nat.le_trans h3.size ba.size)
  have hb2 : Below w.heap.size w w2 := (below_to h3 ba).trans (k3.below _ (Nat.le_trans h3.size ba.size) (fun k hk => (World.ownsRow.lt h2 k hk).1))
  exact ⟨v1, w1, g2, c2, w2, h1, k1, POwn.mkIn (B := w.heap.size) (by rw [List.length_append, List.length_singleton] at k2; unfold POwn; rw [List.length_append, List.length_singleton]; exact k2), h3, hb2, k5⟩
/-- The other order: the mark is laid first. -/
theorem ptO2 (w : World) (va : Option Addr) (vc : Nat) (ps : List Pt) (hP : PRow w va ps) (hvn : va = none → vc = 0) (hpl : ps.length ≤ 1000000) :
    ∃ v1 w1 g2 c2 w2, (Builtin.append_ #[60, 60] 60 #[.slice none 0 0, .slice va ps.length vc]).run Try.prog (w.alloc (.cells #[.string ⟨#[]⟩, .int .i64 23130, .int .i64 0] 64)) = .ok v1 w1 ∧
      (Builtin.append_ #[60, 60] 60 #[v1, .slice (some ⟨w.heap.size, 0, none⟩) 1 1]).run Try.prog w1 = .ok (.slice (some ⟨g2, 0, none⟩) (ps.length + 1) c2) w2 ∧
      MkIn w2 w.heap.size mqP ps (.slice (some ⟨g2, 0, none⟩) ps.length c2) ∧ Below w.heap.size w w1 ∧ Below w.heap.size w w2 ∧ ps.length + 1 ≤ c2 := by
  have ba := below1 w (.cells #[.string ⟨#[]⟩, .int .i64 23130, .int .i64 0] 64)
  have kb : Blk (w.alloc (.cells #[.string ⟨#[]⟩, .int .i64 23130, .int .i64 0] 64)) w.heap.size 64 (ptc mqP) := Blk.newA w _ _
  obtain ⟨v1, w1, h1, h2, h3⟩ := copyP _ va vc ps (hP.later ba) hvn hpl
  have h2' : POwn w1 w.heap.size v1 ps := own_base h2 ba.size
  obtain ⟨g2, c2, w2, k1, k2, k3, k4, k5, -⟩ := run_app1 (P := Try.prog) ptc_len ptc_one Try.underlying60 infoP rfl (by decide) w1 h2' w.heap.size mqP (kb.later h3) (by unfold maxLen; omega) (by omega) (Nat.le_trans ba.size h3.size)
  have hb1 := below_to ba h3
  have hb2 : Below w.heap.size w w2 := hb1.trans (k3.below _ hb1.size (fun k hk => (World.ownsRow.lt h2' k hk).1))
  exact ⟨v1, w1, g2, c2, w2, h1, k1, POwn.mkIn (B := w.heap.size) (by rw [List.length_append, List.length_singleton] at k2; unfold POwn; rw [List.length_append, List.length_singleton]; exact k2), hb1, hb2, k5⟩
/-- Roots. -/
theorem rtO (w : World) (a : Option Addr) (c : Nat) (R : List Rt) (hR : RRow w a R) (hn : a = none → c = 0) (hl : R.length ≤ 1000000) :
    ∃ v1 w1 g2 c2 w2, (Builtin.append_ #[23, 23] 23 #[.slice none 0 0, .slice a R.length c]).run Try.prog w = .ok v1 w1 ∧
      (Builtin.append_ #[23, 23] 23 #[v1, .slice (some ⟨w1.heap.size, 0, none⟩) 1 1]).run Try.prog (w1.alloc (.cells #[.string ⟨#[]⟩, .int .i64 23130] 70)) = .ok (.slice (some ⟨g2, 0, none⟩) (R.length + 1) c2) w2 ∧
      ROwn w2 w.heap.size (.slice (some ⟨g2, 0, none⟩) (R.length + 1) c2) (R ++ [mqR]) ∧ Below w.heap.size w w1 ∧ Below w.heap.size w w2 ∧ R.length + 1 ≤ c2 := by
  obtain ⟨v1, w1, h1, h2, h3⟩ := run_copyG (P := Try.prog) rtc_len rtc_one1 Try.underlying23 infoR rfl (by decide) w a R.length c R rfl hR hn (by unfold maxLen; omega) (by omega)
  have h2r : ROwn w1 w.heap.size v1 R := h2
  have kb : Blk (w1.alloc (.cells #[.string ⟨#[]⟩, .int .i64 23130] 70)) w1.heap.size 70 (rtc mqR) := Blk.newA w1 _ _
  have ba := below1 w1 (.cells #[.string ⟨#[]⟩, .int .i64 23130] 70)
  obtain ⟨g2, c2, w2, k1, k2, k3, k4, k5, -⟩ := run_app1 (P := Try.prog) rtc_len rtc_one1 Try.underlying23 infoR rfl (by decide) _ (h2r.later ba) w1.heap.size mqR kb (by unfold maxLen; omega) (by omega) (Nat.le_trans h3.size ba.size)
  have hb2 : Below w.heap.size w w2 := (below_to h3 ba).trans (k3.below _ (Nat.le_trans h3.size ba.size) (fun k hk => (World.ownsRow.lt h2r k hk).1))
  exact ⟨v1, w1, g2, c2, w2, h1, k1, k2, h3, hb2, k5⟩
theorem rtO2 (w : World) (a : Option Addr) (c : Nat) (R : List Rt) (hR : RRow w a R) (hn : a = none → c = 0) (hl : R.length ≤ 1000000) :
    ∃ v1 w1 g2 c2 w2, (Builtin.append_ #[23, 23] 23 #[.slice none 0 0, .slice a R.length c]).run Try.prog (w.alloc (.cells #[.string ⟨#[]⟩, .int .i64 23130] 70)) = .ok v1 w1 ∧
      (Builtin.append_ #[23, 23] 23 #[v1, .slice (some ⟨w.heap.size, 0, none⟩) 1 1]).run Try.prog w1 = .ok (.slice (some ⟨g2, 0, none⟩) (R.length + 1) c2) w2 ∧
      ROwn w2 w.heap.size (.slice (some ⟨g2, 0, none⟩) (R.length + 1) c2) (R ++ [mqR]) ∧ Below w.heap.size w w1 ∧ Below w.heap.size w w2 ∧ R.length + 1 ≤ c2 := by
  have ba := below1 w (.cells #[.string ⟨#[]⟩, .int .i64 23130] 70)
  have kb : Blk (w.alloc (.cells #[.string ⟨#[]⟩, .int .i64 23130] 70)) w.heap.size 70 (rtc mqR) := Blk.newA w _ _
  obtain ⟨v1, w1, h1, h2, h3⟩ := run_copyG (P := Try.prog) rtc_len rtc_one1 Try.underlying23 infoR rfl (by decide) _ a R.length c R rfl (hR.later ba) hn (by unfold maxLen; omega) (by omega)
  have h2' : ROwn w1 w.heap.size v1 R := own_base h2 ba.size
  obtain ⟨g2, c2, w2, k1, k2, k3, k4, k5, -⟩ := run_app1 (P := Try.prog) rtc_len rtc_one1 Try.underlying23 infoR rfl (by decide) w1 h2' w.heap.size mqR (kb.later h3) (by unfold maxLen; omega) (by omega) (Nat.le_trans ba.size h3.size)
  have hb1 := below_to ba h3
  have hb2 : Below w.heap.size w w2 := hb1.trans (k3.below _ hb1.size (fun k hk => (World.ownsRow.lt h2' k hk).1))
  exact ⟨v1, w1, g2, c2, w2, h1, k1, k2, hb1, hb2, k5⟩
end Go.Proofs.Ytdpkmkhflgmioaa

/- lent: its walk. -/
namespace Go.Proofs.Ytdpkmkhflgmioaa
open Go.RowKit
set_option linter.unusedVariables false

set_option maxRecDepth 100000 in
set_option maxHeartbeats 8000000 in
theorem lent_any (aT : Option Addr) (cT : Nat) (T : List Ty) (aR : Option Addr) (cR : Nat) (R : List Rt) (w : World) (hn : T.length ≤ 100000000) (hm : R.length ≤ 1000000) (hnil : aR = none → cR = 0) (hl : Hid (∀ t ∈ T, t.ps.length ≤ 1000000)) (hT : Hid (TRow w aT T)) (hRr : Hid (RRow w aR R)) :
    Calls Try.prog 15 #[.agg #[.slice aT T.length cT, .slice aR R.length cR]] w fun e w' => LentTo w T R e w' := by
  obtain ⟨w1, hw1⟩ : ∃ wx, wx = w.alloc (.cells #[.slice aT T.length cT, .slice aR R.length cR] 25) := ⟨_, rfl⟩
  have b1 : Below w.heap.size w w1 := by rw [hw1]; exact below1 _ _
  have k1 : Blk w1 w.heap.size 25 [.slice aT T.length cT, .slice aR R.length cR] := by rw [hw1]; exact Blk.newA w _ _
  have s1 : w1.heap.size = w.heap.size + 1 := by rw [hw1]; simp
  obtain ⟨w2, hw2⟩ : ∃ wx, wx = w1.alloc (.cells #[.slice none 0 0, .slice none 0 0] 25) := ⟨_, rfl⟩
  have b2 : Below w1.heap.size w1 w2 := by rw [hw2]; exact below1 _ _
  have k2 : Blk w2 w1.heap.size 25 [.slice none 0 0, .slice none 0 0] := by rw [hw2]; exact Blk.newA w1 _ _
  have s2 : w2.heap.size = w.heap.size + 2 := by rw [hw2]; simp [s1]
  obtain ⟨w3, hw3⟩ : ∃ wx, wx = w2.alloc (.cells #[.slice none 0 0, .slice none 0 0] 25) := ⟨_, rfl⟩
  have b3 : Below w2.heap.size w2 w3 := by rw [hw3]; exact below1 _ _
  have k3 : Blk w3 w2.heap.size 25 [.slice none 0 0, .slice none 0 0] := by rw [hw3]; exact Blk.newA w2 _ _
  rw [s1] at k2
  rw [s2] at k3
  have HC0 : Hid (CuS w w w3 (.slice aT T.length cT) (.slice aR R.length cR) (.slice none 0 0) []) := hide_ ⟨(k1.later b2).later b3, k2.later b3, k3, ⟨World.ownsRow_nil _ _ _ _, fun p hp => by cases hp⟩, (fun k hk => by cases hk), below_to (below_to b1 b2) b3⟩
  clear b1 b2 b3 k1 k2 k3 s1 s2
  go_enter Try.func15, Try.ntmps15
  go_upto_region 2 with fail
  rw [← hw1, ← hw2, ← hw3]
  clear hw1 hw2 hw3
  go_wp2_with fail
  go_loopw [4] (fun x4 wr => ∃ (i : Nat) (v : Value) (Q : List (Ty × Value)), i ≤ T.length ∧ x4 = .int .i64 (i : Int) ∧ Hid (Q.map (·.1) = T.take i) ∧ Hid (∀ p ∈ Q, MkIn wr w.heap.size mqP p.1.ps p.2) ∧ Hid (CuS w w wr (.slice aT T.length cT) (.slice aR R.length cR) v Q)) (fun x4 _ => T.length - (intOf x4).toNat)
  case atStart => exact ⟨0, _, [], Nat.zero_le _, rfl, hide_ (by simp), hide_ (fun p hp => by cases hp), HC0⟩
  case round =>
    obtain ⟨i, v, Q, hi, rfl, HQ, HMk, HS⟩ := hrel
    clear HC0
    generalize wr = wq at *
    have i0 := HS.out.arg.cell 0
    simp at i0
    by_cases hlt : i < T.length
    · have hlt' : (i : Int) < T.length := by omega
      have hx : T[i]? = some (T[i]'hlt) := List.getElem?_eq_getElem hlt
      obtain ⟨bT, oT, rfl, hbT, hcT⟩ := hT.out.open (by omega)
      obtain ⟨va, vc, hty, hvc, hvn, hpr⟩ := hcT i _ hx
      have HX := hide_ hx
      have hpl := hl.out _ (List.mem_of_getElem? hx)
      generalize T[i]'hlt = t at *
      have hty' : ∀ j, j < 4 → wq.cell? ⟨bT, oT + i * 4 + j, none⟩ = (tyc t (.slice va t.ps.length vc))[j]? := fun j hj => (HS.out.bel.cell (p := ⟨bT, oT + i * 4 + j, none⟩) hbT).trans (hty j hj)
      have y0 := hty' 0 (by decide); have y1 := hty' 1 (by decide); have y2 := hty' 2 (by decide); have y3 := hty' 3 (by decide)
      simp [tyc] at y0 y1 y2 y3
      obtain ⟨av, cv, hav, -⟩ := HS.out.own.row
      rw [List.length_map] at hav
      subst hav
      obtain ⟨wa, hwa⟩ : ∃ wx, wx = wq.alloc (.cells #[.int .i64 t.k, .int .i64 t.n, .int .i64 t.e, .slice va t.ps.length vc] 62) := ⟨_, rfl⟩
      have ba : Below wq.heap.size wq wa := by rw [hwa]; exact below1 _ _
      have ka : Blk wa wq.heap.size 62 [.int .i64 t.k, .int .i64 t.n, .int .i64 t.e, .slice va t.ps.length vc] := by rw [hwa]; exact Blk.newA wq _ _
      have hz0 : w.heap.size ≤ wq.heap.size := HS.out.bel.size
      have hza : w.heap.size ≤ wa.heap.size := Nat.le_trans hz0 ba.size
      have hpa := hpr.later (below_to HS.out.bel ba)
      obtain ⟨Av, Aw, Ag, Ac, Aw2, A1, A2, Am, Ab1, Ab2, Acc⟩ := ptO wa.drew va vc t.ps (hpa.later ((Below.refl _ _).drew)) hvn hpl
      obtain ⟨Bv, Bw, Bg, Bc, Bw2, B1, B2, Bm, Bb1, Bb2, Bcc⟩ := ptO2 wa.drew va vc t.ps (hpa.later ((Below.refl _ _).drew)) hvn hpl
      have lowM : ∀ {w' : World} {u : Value}, MkIn w' wa.drew.heap.size mqP t.ps u → MkIn w' w.heap.size mqP t.ps u := fun h => by
        obtain ⟨g, c, e, h1, h2, h3, h4⟩ := h
        exact ⟨g, c, e, h1, h2, Nat.le_trans hza h3, h4⟩
      have Am := hide_ (lowM Am)
      have Bm := hide_ (lowM Bm)
      have Ab1 := hide_ (below_to ((Below.refl wa.heap.size wa).drew) Ab1)
      have Ab2 := hide_ (below_to ((Below.refl wa.heap.size wa).drew) Ab2)
      have Bb1 := hide_ (below_to ((Below.refl wa.heap.size wa).drew) Bb1)
      have Bb2 := hide_ (below_to ((Below.refl wa.heap.size wa).drew) Bb2)
      have A1 := hide_ A1
      have A2 := hide_ A2
      have B1 := hide_ B1
      have B2 := hide_ B2
      have hAc : (t.ps.length : Int) ≤ Ac := by omega
      have hBc : (t.ps.length : Int) ≤ Bc := by omega
      have KA := hide_ ka
      have HBA := hide_ ba
      have HSS : Hid (∀ w', Below wa.heap.size wa w' → Below wa.heap.size wa w' ∧ w'.cell? ⟨wq.heap.size, 3, none⟩ = some (.slice va t.ps.length vc)) := hide_ (fun w' hB' => ⟨hB', (KA.out.later hB').cell 3⟩)
      clear hty hty' hcT hx hpa hpr lowM ka ba Acc Bcc
      go_upto_region 6 with fail
      rw [← hwa]
      clear hwa i0 y0 y1 y2 y3
      go_cut [] from 18 to 28 (fun wc => ∃ (g c : Nat) (wz : World), wz = wc ∧ Hid (Blk wz wq.heap.size 62 [.int .i64 t.k, .int .i64 t.n, .int .i64 t.e, .slice (some ⟨g, 0, none⟩) t.ps.length c]) ∧ Hid (MkIn wz w.heap.size mqP t.ps (.slice (some ⟨g, 0, none⟩) t.ps.length c)) ∧ Hid (Below wq.heap.size wq wz))
      case first =>
        refine wp_region_last 11 (fun w' => Below wa.heap.size wa w' ∧ w'.cell? ⟨wq.heap.size, 3, none⟩ = some (.slice va t.ps.length vc)) (by kernel_rfl) (HSS.out _ ((Below.refl _ _).drew)) (fun hHeld => ?_)
        refine wpAnyF_take [11] (by kernel_rfl) (i := 0) (v := ?vp1) rfl (by kernel_rfl) (by kernel_rfl) (by kernel_rfl) (fun _ _ _ h => h) (Or.inl ⟨by rfl, ?hyp1⟩) hHeld ?restp1
        case hyp1 => intro w' hSw; (try dsimp only at hSw); go_simp; try with_reducible rfl
        simp only [Act.put]
        refine wpAnyF_take [11] (by kernel_rfl) (i := 1) (v := ?vp2) rfl (by kernel_rfl) (by kernel_rfl) (by kernel_rfl) (fun _ _ _ h => h) (Or.inl ⟨by rfl, ?hyp2⟩) hHeld ?restp2
        case hyp2 => intro w' hSw; (try dsimp only at hSw); go_simp; try with_reducible rfl
        simp only [Act.put]
        refine wpAnyF_take [11] (by kernel_rfl) (i := 3) (v := ?vp3) rfl (by kernel_rfl) (by kernel_rfl) (by kernel_rfl) (fun _ _ _ h => h) (Or.inl ⟨by rfl, ?hyp3⟩) hHeld ?restp3
        case hyp3 => intro w' hSw; (try dsimp only at hSw); go_simp; try with_reducible rfl
        simp only [Act.put]
        refine wpAnyF_take [11] (by kernel_rfl) (i := 6) (v := ?vp4) rfl (by kernel_rfl) (by kernel_rfl) (by kernel_rfl) (fun _ _ _ h => h) (Or.inl ⟨by rfl, ?hyp4⟩) hHeld ?restp4
        case hyp4 => intro w' hSw; (try dsimp only at hSw); go_simp; try with_reducible rfl
        simp only [Act.put]
        refine wpAnyF_take [11] (by kernel_rfl) (i := 7) (v := ?vp5) rfl (by kernel_rfl) (by kernel_rfl) (by kernel_rfl) (fun _ _ _ h => h) (Or.inl ⟨by rfl, ?hyp5⟩) hHeld ?restp5
        case hyp5 => intro w' hSw; (try dsimp only at hSw); go_simp; try with_reducible rfl
        simp only [Act.put]
        refine wpAnyF_take [11] (by kernel_rfl) (i := 8) (v := ?vp6) rfl (by kernel_rfl) (by kernel_rfl) (by kernel_rfl) (fun _ _ _ h => h) (Or.inl ⟨by rfl, ?hyp6⟩) hHeld ?restp6
        case hyp6 => intro w' hSw; (try dsimp only at hSw); go_simp; try with_reducible rfl
        simp only [Act.put]
        refine wpAnyF_ready (rs := [2, 4]) (by kernel_rfl) (by simp) ?_
        refine AllReadyF.cons rfl (fun K hK => ?_) ?_
        · refine step_append_run rfl (.const (.slice none 0 0)) (.tmp 19) 60 60 rfl rfl rfl A1.out ?_
          refine hK.out _ _ (HSS.out _ Ab1.out) (fun hHeld => ?_)
          clear hK K
          refine wpAnyF_ready (rs := [4]) (by kernel_rfl) (by simp) ?_
          refine AllReadyF.cons rfl (fun K hK => ?_) AllReadyF.nil
          go_simp
          refine hK.out _ _ (HSS.out _ (below_to Ab1.out (below1 _ _))) (fun hHeld => ?_)
          clear hK K
          refine wpAnyF_ready (rs := [5]) (by kernel_rfl) (by simp) ?_
          refine AllReadyF.cons rfl (fun K hK => ?_) AllReadyF.nil
          refine step_append_run rfl (.tmp 20) (.tmp 22) 60 60 rfl rfl rfl A2.out ?_
          refine hK.out _ _ (HSS.out _ Ab2.out) (fun hHeld => ?_)
          clear hK K
          refine wpAnyF_take [11] (by kernel_rfl) (i := 9) (v := ?vp7) rfl (by kernel_rfl) (by kernel_rfl) (by kernel_rfl) (fun _ _ _ h => h) (Or.inl ⟨by rfl, ?hyp7⟩) hHeld ?restp7
          case hyp7 => intro w' hSw; (try dsimp only at hSw); go_simp; try with_reducible rfl
          simp only [Act.put]
          refine wpAnyF_take [11] (by kernel_rfl) (i := 10) (v := ?vp8) rfl (by kernel_rfl) (by kernel_rfl) (by kernel_rfl) (fun _ _ _ h => h) (Or.inl ⟨by rfl, ?hyp8⟩) hHeld ?restp8
          case hyp8 => intro w' hSw; (try dsimp only at hSw); go_simp; try with_reducible rfl
          simp only [Act.put]
          refine wpAnyF_ready (rs := [11]) (by kernel_rfl) (by simp) ?_
          refine AllReadyF.last rfl (fun K hK => ?_)
          have kz := KA.out.later Ab2.out
          have l3 := kz.cell 3
          have lf := kz.frozen 3
          simp at l3
          have HKz : Hid (Blk _ wq.heap.size 62 [.int .i64 t.k, .int .i64 t.n, .int .i64 t.e, .slice (some ⟨Ag, 0, none⟩) t.ps.length Ac]) := hide_ (by have h := kz.set 3 (.slice (some ⟨Ag, 0, none⟩) t.ps.length Ac); simpa using h)
          have HBz := hide_ (below_set (below_to HBA.out Ab2.out) wq.heap.size 3 (.slice (some ⟨Ag, 0, none⟩) t.ps.length Ac) (Nat.le_refl _))
          have HMz : Hid (MkIn _ w.heap.size mqP t.ps (.slice (some ⟨Ag, 0, none⟩) t.ps.length Ac)) := hide_ (Am.out.upd ((Upd.refl (fun k => k = wq.heap.size) _).set ⟨wq.heap.size, 3, none⟩ (.slice (some ⟨Ag, 0, none⟩) t.ps.length Ac) (.inl rfl)) (fun k ys e hb => by subst e; exact absurd (blk_type kz hb) (by decide)))
          clear kz
          go_simp
          refine hK.out _ _ ?_
          clear hK K
          refine wpAnyF_done (by kernel_rfl) ?_ _
          go_wp2_with fail
          go_meet
          case rel => exact ⟨Ag, Ac, _, rfl, HKz, HMz, HBz⟩
        refine AllReadyF.cons rfl (fun K hK => ?_) AllReadyF.nil
        go_simp
        refine hK.out _ _ (HSS.out _ (below_to ((Below.refl _ _).drew) (below1 _ _))) (fun hHeld => ?_)
        clear hK K
        refine wpAnyF_ready (rs := [2]) (by kernel_rfl) (by simp) ?_
        refine AllReadyF.cons rfl (fun K hK => ?_) AllReadyF.nil
        refine step_append_run rfl (.const (.slice none 0 0)) (.tmp 19) 60 60 rfl rfl rfl B1.out ?_
        refine hK.out _ _ (HSS.out _ Bb1.out) (fun hHeld => ?_)
        clear hK K
        refine wpAnyF_ready (rs := [5]) (by kernel_rfl) (by simp) ?_
        refine AllReadyF.cons rfl (fun K hK => ?_) AllReadyF.nil
        refine step_append_run rfl (.tmp 20) (.tmp 22) 60 60 rfl rfl rfl B2.out ?_
        refine hK.out _ _ (HSS.out _ Bb2.out) (fun hHeld => ?_)
        clear hK K
        refine wpAnyF_take [11] (by kernel_rfl) (i := 9) (v := ?vp9) rfl (by kernel_rfl) (by kernel_rfl) (by kernel_rfl) (fun _ _ _ h => h) (Or.inl ⟨by rfl, ?hyp9⟩) hHeld ?restp9
        case hyp9 => intro w' hSw; (try dsimp only at hSw); go_simp; try with_reducible rfl
        simp only [Act.put]
        refine wpAnyF_take [11] (by kernel_rfl) (i := 10) (v := ?vp10) rfl (by kernel_rfl) (by kernel_rfl) (by kernel_rfl) (fun _ _ _ h => h) (Or.inl ⟨by rfl, ?hyp10⟩) hHeld ?restp10
        case hyp10 => intro w' hSw; (try dsimp only at hSw); go_simp; try with_reducible rfl
        simp only [Act.put]
        refine wpAnyF_ready (rs := [11]) (by kernel_rfl) (by simp) ?_
        refine AllReadyF.last rfl (fun K hK => ?_)
        have kz := KA.out.later Bb2.out
        have l3 := kz.cell 3
        have lf := kz.frozen 3
        simp at l3
        have HKz : Hid (Blk _ wq.heap.size 62 [.int .i64 t.k, .int .i64 t.n, .int .i64 t.e, .slice (some ⟨Bg, 0, none⟩) t.ps.length Bc]) := hide_ (by have h := kz.set 3 (.slice (some ⟨Bg, 0, none⟩) t.ps.length Bc); simpa using h)
        have HBz := hide_ (below_set (below_to HBA.out Bb2.out) wq.heap.size 3 (.slice (some ⟨Bg, 0, none⟩) t.ps.length Bc) (Nat.le_refl _))
        have HMz : Hid (MkIn _ w.heap.size mqP t.ps (.slice (some ⟨Bg, 0, none⟩) t.ps.length Bc)) := hide_ (Bm.out.upd ((Upd.refl (fun k => k = wq.heap.size) _).set ⟨wq.heap.size, 3, none⟩ (.slice (some ⟨Bg, 0, none⟩) t.ps.length Bc) (.inl rfl)) (fun k ys e hb => by subst e; exact absurd (blk_type kz hb) (by decide)))
        clear kz
        go_simp
        refine hK.out _ _ ?_
        clear hK K
        refine wpAnyF_done (by kernel_rfl) ?_ _
        go_wp2_with fail
        go_meet
        case rel => exact ⟨Bg, Bc, _, rfl, HKz, HMz, HBz⟩
      case rest =>
        obtain ⟨g, c, wz, rfl, KZ, HMz, HBz⟩ := hcut
        clear A1 A2 B1 B2 Am Bm Ab1 Ab2 Bb1 Bb2 hAc hBc HSS KA HBA
        have HCb := hide_ (CuS.mk (w0 := w) (w := w) (wr := wz) (a := .slice (some ⟨bT, oT, none⟩) T.length cT) (b := .slice aR R.length cR) (v := .slice av Q.length cv) (Q := Q) (HS.out.arg.later HBz.out) (HS.out.res.later HBz.out) (HS.out.out.later HBz.out) (HS.out.own.later HBz.out) HS.out.low (below_to HS.out.bel HBz.out))
        obtain ⟨g8, c8, w8, hrun, hO8, hU8, hL8⟩ := HCb.out.own.push2 t (.slice (some ⟨g, 0, none⟩) t.ps.length c) rfl (HMz.out.ptIn _) (by have := congrArg List.length HQ.out; simp at this; omega) HCb.out.bel.size
        have HR := hide_ hrun
        have HO8 := hide_ hO8
        have nb : ∀ k t' ys, Blk wz k t' ys → t' ≠ 62 → ¬ (Value.slice av Q.length cv).ownBlock = some k := fun k t' ys hb ht e => by
          obtain ⟨zs, hz⟩ := ownS_type HCb.out.own.1 e
          exact ht (blk_type hb hz)
        have o8 := HCb.out.out.upd hU8 (nb _ _ _ HCb.out.out (by decide))
        have a8 := HCb.out.arg.upd hU8 (nb _ _ _ HCb.out.arg (by decide))
        have r8 := HCb.out.res.upd hU8 (nb _ _ _ HCb.out.res (by decide))
        have hB8 : Below w.heap.size w w8 := HCb.out.bel.trans (hU8.below _ HCb.out.bel.size (fun k hk => HCb.out.low k hk))
        have hpn : ∀ k ys, (Value.slice av Q.length cv).ownBlock = some k → Blk wz k 64 ys → False := fun k ys hk hb => nb k _ ys hb (by decide) hk
        have hmk8 : ∀ p ∈ Q ++ [(t, Value.slice (some ⟨g, 0, none⟩) t.ps.length c)], MkIn w8 w.heap.size mqP p.1.ps p.2 := fun p hp => by
          rcases List.mem_append.1 hp with hp | hp
          · exact ((HMk.out p hp).later HBz.out).upd hU8 hpn
          · simp at hp
            subst hp
            exact HMz.out.upd hU8 hpn
        have HMn : Hid (∀ p ∈ Q ++ [(t, Value.slice (some ⟨g, 0, none⟩) t.ps.length c)], MkIn (w8.setCell ⟨w.heap.size + 2, 0, none⟩ (.slice (some ⟨g8, 0, none⟩) (Q.length + 1) c8)) w.heap.size mqP p.1.ps p.2) := hide_ (fun p hp => (hmk8 p hp).upd ((Upd.refl (fun k => k = w.heap.size + 2) _).set ⟨w.heap.size + 2, 0, none⟩ (.slice (some ⟨g8, 0, none⟩) (Q.length + 1) c8) (.inl rfl)) (fun k ys e hb => by subst e; exact absurd (blk_type o8 hb) (by decide)))
        have HSn : Hid (CuS w w (w8.setCell ⟨w.heap.size + 2, 0, none⟩ (.slice (some ⟨g8, 0, none⟩) (Q.length + 1) c8)) (.slice (some ⟨bT, oT, none⟩) T.length cT) (.slice aR R.length cR) (.slice (some ⟨g8, 0, none⟩) (Q.length + 1) c8) (Q ++ [(t, .slice (some ⟨g, 0, none⟩) t.ps.length c)])) := hide_ ⟨a8.other _ _ (by show w.heap.size ≠ w.heap.size + 2; omega), r8.other _ _ (by show w.heap.size + 1 ≠ w.heap.size + 2; omega), by have h := o8.set 0 (.slice (some ⟨g8, 0, none⟩) (Q.length + 1) c8); simpa using h, HO8.out.other o8 (by omega) (by decide) (by decide) 0 _, (fun k hk => by have e := own_is hk; exact hL8.elim (fun h => by rw [← e]; exact HCb.out.low _ h) (fun h => by have := HCb.out.bel.size; omega)), below_set hB8 _ _ _ (by omega)⟩
        have q0 := KZ.out.cell 0; have q1 := KZ.out.cell 1; have q2 := KZ.out.cell 2; have q3 := KZ.out.cell 3
        have z0 := HCb.out.out.cell 0
        have z8 := o8.cell 0
        have f8 := o8.frozen 0
        simp at q0 q1 q2 q3 z0 z8
        have HQn : Hid ((Q ++ [(t, Value.slice (some ⟨g, 0, none⟩) t.ps.length c)]).map (·.1) = T.take (i + 1)) := hide_ (by
          have hi := (List.getElem?_eq_some_iff.1 HX.out).1
          rw [List.take_succ_eq_append_getElem hi, (List.getElem?_eq_some_iff.1 HX.out).2, List.map_append, HQ.out]
          rfl)
        clear hrun hO8 hU8 hL8 nb o8 a8 r8 hB8 hpn hmk8 HMk HQ
        go_wp2_with (at_builtin; refine wpList_append_run rfl (.tmp 30) (.tmp 32) 22 22 rfl rfl rfl HR.out ?_)
        go_roundw
        case rel => exact ⟨i + 1, _, _, by omega, by go_num, HQn, HMn, HSn⟩
        case measure => simp [intOf]; omega
    · have hlt' : ¬ (i : Int) < T.length := by omega
      have HQe : Hid (Q.map (·.1) = T) := hide_ (by rw [HQ.out, List.take_of_length_le (by omega)])
      have hql : Q.length = T.length := by have := congrArg List.length HQe.out; simpa using this
      obtain ⟨av, cv, hav, -⟩ := HS.out.own.row
      rw [List.length_map] at hav
      subst hav
      have HA0 := hide_ HS.out.arg
      have HO0 := hide_ HS.out.out
      have hz0 : w.heap.size ≤ wq.heap.size := HS.out.bel.size
      have ownd : TOwn wq.drew w.heap.size (.slice av Q.length cv) Q := HS.out.own.later ((Below.refl _ _).drew)
      obtain ⟨g8, c8, w8, hrun, hO8, hU8, hL8⟩ := ownd.push2 mqT (.slice none 0 0) rfl ⟨none, 0, rfl, Nat.le_refl _, fun _ => rfl, .inl rfl, .inl rfl⟩ (by omega) hz0
      have hc8 : Q.length + 1 ≤ c8 := by
        obtain ⟨_, _, e, h1, -, -⟩ := own_grow tyq_len hO8.1
        injection e with _ _ e3
        rw [e3]
        simpa using h1
      have hc8' : (T.length : Int) ≤ c8 := by omega
      simp only [mqT] at hrun
      have HR8 := hide_ hrun
      have hUq : Upd (fun k => (Value.slice av Q.length cv).ownBlock = some k) wq w8 := ⟨hU8.os, hU8.tape, hU8.output, hU8.size, hU8.block⟩
      have nb : ∀ k t' ys, Blk wq k t' ys → t' ≠ 62 → ¬ (Value.slice av Q.length cv).ownBlock = some k := fun k t' ys hb ht e => by
        obtain ⟨zs, hz⟩ := ownS_type HS.out.own.1 e
        exact ht (blk_type hb hz)
      have o8 := HS.out.out.upd hUq (nb _ _ _ HS.out.out (by decide))
      have a8 := HS.out.arg.upd hUq (nb _ _ _ HS.out.arg (by decide))
      have r8 := HS.out.res.upd hUq (nb _ _ _ HS.out.res (by decide))
      have hB8 : Below w.heap.size w w8 := HS.out.bel.trans (hUq.below _ HS.out.bel.size (fun k hk => HS.out.low k hk))
      have hmk8 : ∀ p ∈ Q, MkIn w8 w.heap.size mqP p.1.ps p.2 := fun p hp => (HMk.out p hp).upd hUq (fun k ys hk hb => nb k _ ys hb (by decide) hk)
      obtain ⟨wz, hwz⟩ : ∃ wx, wx = w8.setCell ⟨w.heap.size + 2, 0, none⟩ (.slice (some ⟨g8, 0, none⟩) T.length c8) := ⟨_, rfl⟩
      have HTz : Hid (TOwn wz w.heap.size (.slice (some ⟨g8, 0, none⟩) (Q.length + 1) c8) (Q ++ [(mqT, .slice none 0 0)])) := hide_ (by rw [hwz]; exact hO8.other o8 (by omega) (by decide) (by decide) 0 _)
      have HMz : Hid (∀ p ∈ Q, MkIn wz w.heap.size mqP p.1.ps p.2) := hide_ (fun p hp => by
        rw [hwz]
        exact (hmk8 p hp).upd ((Upd.refl (fun k => k = w.heap.size + 2) _).set ⟨w.heap.size + 2, 0, none⟩ (.slice (some ⟨g8, 0, none⟩) T.length c8) (.inl rfl)) (fun k ys e hb => by subst e; exact absurd (blk_type o8 hb) (by decide)))
      have KO : Hid (Blk wz (w.heap.size + 2) 25 [.slice (some ⟨g8, 0, none⟩) T.length c8, .slice none 0 0]) := hide_ (by rw [hwz]; have h := o8.set 0 (.slice (some ⟨g8, 0, none⟩) T.length c8); simpa using h)
      have KAr : Hid (Blk wz w.heap.size 25 [.slice aT T.length cT, .slice aR R.length cR]) := hide_ (by rw [hwz]; exact a8.other _ _ (by show w.heap.size ≠ w.heap.size + 2; omega))
      have KRs : Hid (Blk wz (w.heap.size + 1) 25 [.slice none 0 0, .slice none 0 0]) := hide_ (by rw [hwz]; exact r8.other _ _ (by show w.heap.size + 1 ≠ w.heap.size + 2; omega))
      have HBz : Hid (Below w.heap.size w wz) := hide_ (by rw [hwz]; exact below_set hB8 _ _ _ (by omega))
      have l0 := o8.cell 0
      have lf := o8.frozen 0
      simp at l0
      clear hrun hO8 hL8 hU8 hUq nb r8 hB8 hmk8 ownd hql hc8
      go_upto_region 8 with fail
      refine wp_region_last 10 (fun w' => w'.cell? ⟨w.heap.size + 2, 0, none⟩ = some (.slice av Q.length cv) ∧ w'.cell? ⟨w.heap.size, 0, none⟩ = some (.slice aT T.length cT)) (by kernel_rfl) (⟨HO0.out.cell 0, HA0.out.cell 0⟩) (fun hHeld => ?_)
      refine wpAnyF_take [10] (by kernel_rfl) (i := 0) (v := ?vy1) rfl (by kernel_rfl) (by kernel_rfl) (by kernel_rfl) (fun _ _ _ h => h) (Or.inl ⟨by rfl, ?hyy1⟩) hHeld ?resty1
      case hyy1 => intro w' hSw; (try dsimp only at hSw); go_simp; try with_reducible rfl
      simp only [Act.put]
      refine wpAnyF_take [10] (by kernel_rfl) (i := 1) (v := ?vy2) rfl (by kernel_rfl) (by kernel_rfl) (by kernel_rfl) (fun _ _ _ h => h) (Or.inl ⟨by rfl, ?hyy2⟩) hHeld ?resty2
      case hyy2 => intro w' hSw; (try dsimp only at hSw); go_simp; try with_reducible rfl
      simp only [Act.put]
      refine wpAnyF_take [10] (by kernel_rfl) (i := 2) (v := ?vy3) rfl (by kernel_rfl) (by kernel_rfl) (by kernel_rfl) (fun _ _ _ h => h) (Or.inl ⟨by rfl, ?hyy3⟩) hHeld ?resty3
      case hyy3 => intro w' hSw; (try dsimp only at hSw); go_simp; try with_reducible rfl
      simp only [Act.put]
      refine wpAnyF_take [10] (by kernel_rfl) (i := 5) (v := ?vy4) rfl (by kernel_rfl) (by kernel_rfl) (by kernel_rfl) (fun _ _ _ h => h) (Or.inl ⟨by rfl, ?hyy4⟩) hHeld ?resty4
      case hyy4 => intro w' hSw; (try dsimp only at hSw); go_simp; try with_reducible rfl
      simp only [Act.put]
      refine wpAnyF_take [10] (by kernel_rfl) (i := 6) (v := ?vy5) rfl (by kernel_rfl) (by kernel_rfl) (by kernel_rfl) (fun _ _ _ h => h) (Or.inl ⟨by rfl, ?hyy5⟩) hHeld ?resty5
      case hyy5 => intro w' hSw; (try dsimp only at hSw); go_simp; try with_reducible rfl
      simp only [Act.put]
      refine wpAnyF_take [10] (by kernel_rfl) (i := 7) (v := ?vy6) rfl (by kernel_rfl) (by kernel_rfl) (by kernel_rfl) (fun _ _ _ h => h) (Or.inl ⟨by rfl, ?hyy6⟩) hHeld ?resty6
      case hyy6 => intro w' hSw; (try dsimp only at hSw); go_simp; try with_reducible rfl
      simp only [Act.put]
      refine wpAnyF_ready (rs := [3]) (by kernel_rfl) (by simp) ?_
      refine AllReadyF.cons rfl (fun K hK => ?_) AllReadyF.nil
      go_simp
      refine hK.out _ _ (⟨(HO0.out.later (below1 _ _)).cell 0, (HA0.out.later (below1 _ _)).cell 0⟩) (fun hHeld => ?_)
      clear hK K
      refine wpAnyF_ready (rs := [4]) (by kernel_rfl) (by simp) ?_
      refine AllReadyF.cons rfl (fun K hK => ?_) AllReadyF.nil
      refine step_append_run rfl (.tmp 36) (.tmp 38) 22 22 rfl rfl rfl HR8.out ?_
      refine hK.out _ _ (⟨o8.cell 0, a8.cell 0⟩) (fun hHeld => ?_)
      clear hK K
      refine wpAnyF_take [10] (by kernel_rfl) (i := 8) (v := ?vy7) rfl (by kernel_rfl) (by kernel_rfl) (by kernel_rfl) (fun _ _ _ h => h) (Or.inl ⟨by rfl, ?hyy7⟩) hHeld ?resty7
      case hyy7 => intro w' hSw; (try dsimp only at hSw); go_simp; try with_reducible rfl
      simp only [Act.put]
      refine wpAnyF_take [10] (by kernel_rfl) (i := 9) (v := ?vy8) rfl (by kernel_rfl) (by kernel_rfl) (by kernel_rfl) (fun _ _ _ h => h) (Or.inl ⟨by rfl, ?hyy8⟩) hHeld ?resty8
      case hyy8 => intro w' hSw; (try dsimp only at hSw); go_simp; try with_reducible rfl
      simp only [Act.put]
      refine wpAnyF_ready (rs := [10]) (by kernel_rfl) (by simp) ?_
      refine AllReadyF.last rfl (fun K hK => ?_)
      go_simp
      refine hK.out _ _ ?_
      clear hK K
      refine wpAnyF_done (by kernel_rfl) ?_ _
      have hza : w.heap.size ≤ wz.heap.size := HBz.out.size
      have hrz := hRr.out.later HBz.out
      obtain ⟨Av, Aw, Ag, Ac, Aw2, A1, A2, Am, Ab1, Ab2, Acc⟩ := rtO wz.drew aR cR R (hrz.later ((Below.refl _ _).drew)) hnil hm
      obtain ⟨Bv, Bw, Bg, Bc, Bw2, B1, B2, Bm, Bb1, Bb2, Bcc⟩ := rtO2 wz.drew aR cR R (hrz.later ((Below.refl _ _).drew)) hnil hm
      have Am : Hid (ROwn Aw2 w.heap.size _ _) := hide_ (own_base Am hza)
      have Bm : Hid (ROwn Bw2 w.heap.size _ _) := hide_ (own_base Bm hza)
      have Ab1 := hide_ (below_to ((Below.refl wz.heap.size wz).drew) Ab1)
      have Ab2 := hide_ (below_to ((Below.refl wz.heap.size wz).drew) Ab2)
      have Bb1 := hide_ (below_to ((Below.refl wz.heap.size wz).drew) Bb1)
      have Bb2 := hide_ (below_to ((Below.refl wz.heap.size wz).drew) Bb2)
      have A1 := hide_ A1
      have A2 := hide_ A2
      have B1 := hide_ B1
      have B2 := hide_ B2
      have hAc : (R.length : Int) ≤ Ac := by omega
      have hBc : (R.length : Int) ≤ Bc := by omega
      have HSS : Hid (∀ w', Below wz.heap.size wz w' → Below wz.heap.size wz w' ∧ w'.cell? ⟨w.heap.size, 1, none⟩ = some (.slice aR R.length cR)) := hide_ (fun w' hB' => ⟨hB', (KAr.out.later hB').cell 1⟩)
      clear hrz Acc Bcc HA0 HO0 HS HMk HQ HR8 a8 o8
      go_upto_region 9 with fail
      rw [← hwz]
      clear hwz l0 lf i0
      go_cut [] from 45 to 55 (fun wc => ∃ (gR cR' : Nat) (wy : World), wy = wc ∧ Hid (LtS wy w.heap.size g8 c8 Q gR cR' R mqP mqT mqR) ∧ Hid (Blk wy (w.heap.size + 2) 25 [.slice (some ⟨g8, 0, none⟩) T.length c8, .slice (some ⟨gR, 0, none⟩) R.length cR']) ∧ Hid (Blk wy (w.heap.size + 1) 25 [.slice none 0 0, .slice none 0 0]) ∧ Hid (Below w.heap.size w wy))
      case first =>
        refine wp_region_last 11 (fun w' => Below wz.heap.size wz w' ∧ w'.cell? ⟨w.heap.size, 1, none⟩ = some (.slice aR R.length cR)) (by kernel_rfl) (HSS.out _ ((Below.refl _ _).drew)) (fun hHeld => ?_)
        refine wpAnyF_take [11] (by kernel_rfl) (i := 0) (v := ?vr1) rfl (by kernel_rfl) (by kernel_rfl) (by kernel_rfl) (fun _ _ _ h => h) (Or.inl ⟨by rfl, ?hyr1⟩) hHeld ?restr1
        case hyr1 => intro w' hSw; (try dsimp only at hSw); go_simp; try with_reducible rfl
        simp only [Act.put]
        refine wpAnyF_take [11] (by kernel_rfl) (i := 1) (v := ?vr2) rfl (by kernel_rfl) (by kernel_rfl) (by kernel_rfl) (fun _ _ _ h => h) (Or.inl ⟨by rfl, ?hyr2⟩) hHeld ?restr2
        case hyr2 => intro w' hSw; (try dsimp only at hSw); go_simp; try with_reducible rfl
        simp only [Act.put]
        refine wpAnyF_take [11] (by kernel_rfl) (i := 3) (v := ?vr3) rfl (by kernel_rfl) (by kernel_rfl) (by kernel_rfl) (fun _ _ _ h => h) (Or.inl ⟨by rfl, ?hyr3⟩) hHeld ?restr3
        case hyr3 => intro w' hSw; (try dsimp only at hSw); go_simp; try with_reducible rfl
        simp only [Act.put]
        refine wpAnyF_take [11] (by kernel_rfl) (i := 6) (v := ?vr4) rfl (by kernel_rfl) (by kernel_rfl) (by kernel_rfl) (fun _ _ _ h => h) (Or.inl ⟨by rfl, ?hyr4⟩) hHeld ?restr4
        case hyr4 => intro w' hSw; (try dsimp only at hSw); go_simp; try with_reducible rfl
        simp only [Act.put]
        refine wpAnyF_take [11] (by kernel_rfl) (i := 7) (v := ?vr5) rfl (by kernel_rfl) (by kernel_rfl) (by kernel_rfl) (fun _ _ _ h => h) (Or.inl ⟨by rfl, ?hyr5⟩) hHeld ?restr5
        case hyr5 => intro w' hSw; (try dsimp only at hSw); go_simp; try with_reducible rfl
        simp only [Act.put]
        refine wpAnyF_take [11] (by kernel_rfl) (i := 8) (v := ?vr6) rfl (by kernel_rfl) (by kernel_rfl) (by kernel_rfl) (fun _ _ _ h => h) (Or.inl ⟨by rfl, ?hyr6⟩) hHeld ?restr6
        case hyr6 => intro w' hSw; (try dsimp only at hSw); go_simp; try with_reducible rfl
        simp only [Act.put]
        refine wpAnyF_ready (rs := [2, 4]) (by kernel_rfl) (by simp) ?_
        refine AllReadyF.cons rfl (fun K hK => ?_) ?_
        · refine step_append_run rfl (.const (.slice none 0 0)) (.tmp 46) 23 23 rfl rfl rfl A1.out ?_
          refine hK.out _ _ (HSS.out _ Ab1.out) (fun hHeld => ?_)
          clear hK K
          refine wpAnyF_ready (rs := [4]) (by kernel_rfl) (by simp) ?_
          refine AllReadyF.cons rfl (fun K hK => ?_) AllReadyF.nil
          go_simp
          refine hK.out _ _ (HSS.out _ (below_to Ab1.out (below1 _ _))) (fun hHeld => ?_)
          clear hK K
          refine wpAnyF_ready (rs := [5]) (by kernel_rfl) (by simp) ?_
          refine AllReadyF.cons rfl (fun K hK => ?_) AllReadyF.nil
          refine step_append_run rfl (.tmp 47) (.tmp 49) 23 23 rfl rfl rfl A2.out ?_
          refine hK.out _ _ (HSS.out _ Ab2.out) (fun hHeld => ?_)
          clear hK K
          refine wpAnyF_take [11] (by kernel_rfl) (i := 9) (v := ?vr7) rfl (by kernel_rfl) (by kernel_rfl) (by kernel_rfl) (fun _ _ _ h => h) (Or.inl ⟨by rfl, ?hyr7⟩) hHeld ?restr7
          case hyr7 => intro w' hSw; (try dsimp only at hSw); go_simp; try with_reducible rfl
          simp only [Act.put]
          refine wpAnyF_take [11] (by kernel_rfl) (i := 10) (v := ?vr8) rfl (by kernel_rfl) (by kernel_rfl) (by kernel_rfl) (fun _ _ _ h => h) (Or.inl ⟨by rfl, ?hyr8⟩) hHeld ?restr8
          case hyr8 => intro w' hSw; (try dsimp only at hSw); go_simp; try with_reducible rfl
          simp only [Act.put]
          refine wpAnyF_ready (rs := [11]) (by kernel_rfl) (by simp) ?_
          refine AllReadyF.last rfl (fun K hK => ?_)
          have kz := KO.out.later Ab2.out
          have l1 := kz.cell 1
          have lf := kz.frozen 1
          simp at l1
          have hrs := Am.out
          have hlt : LtS _ w.heap.size g8 c8 Q Ag Ac R mqP mqT mqR := ⟨HTz.out.later Ab2.out, fun p hp => (HMz.out p hp).later Ab2.out, hrs⟩
          have HLz := hide_ (hlt.other kz (by omega) (by decide) (by decide) (by decide) 1 (.slice (some ⟨Ag, 0, none⟩) R.length Ac))
          have HKz : Hid (Blk _ (w.heap.size + 2) 25 [.slice (some ⟨g8, 0, none⟩) T.length c8, .slice (some ⟨Ag, 0, none⟩) R.length Ac]) := hide_ (by have h := kz.set 1 (.slice (some ⟨Ag, 0, none⟩) R.length Ac); simpa using h)
          have HKr := hide_ ((KRs.out.later Ab2.out).other ⟨w.heap.size + 2, 1, none⟩ (.slice (some ⟨Ag, 0, none⟩) R.length Ac) (by show w.heap.size + 1 ≠ w.heap.size + 2; omega))
          have HBf := hide_ (below_set (below_to HBz.out Ab2.out) (w.heap.size + 2) 1 (.slice (some ⟨Ag, 0, none⟩) R.length Ac) (by omega))
          clear kz hrs hlt
          go_simp
          refine hK.out _ _ ?_
          clear hK K
          refine wpAnyF_done (by kernel_rfl) ?_ _
          go_wp2_with fail
          go_meet
          case rel => exact ⟨Ag, Ac, _, rfl, HLz, HKz, HKr, HBf⟩
        refine AllReadyF.cons rfl (fun K hK => ?_) AllReadyF.nil
        go_simp
        refine hK.out _ _ (HSS.out _ (below_to ((Below.refl _ _).drew) (below1 _ _))) (fun hHeld => ?_)
        clear hK K
        refine wpAnyF_ready (rs := [2]) (by kernel_rfl) (by simp) ?_
        refine AllReadyF.cons rfl (fun K hK => ?_) AllReadyF.nil
        refine step_append_run rfl (.const (.slice none 0 0)) (.tmp 46) 23 23 rfl rfl rfl B1.out ?_
        refine hK.out _ _ (HSS.out _ Bb1.out) (fun hHeld => ?_)
        clear hK K
        refine wpAnyF_ready (rs := [5]) (by kernel_rfl) (by simp) ?_
        refine AllReadyF.cons rfl (fun K hK => ?_) AllReadyF.nil
        refine step_append_run rfl (.tmp 47) (.tmp 49) 23 23 rfl rfl rfl B2.out ?_
        refine hK.out _ _ (HSS.out _ Bb2.out) (fun hHeld => ?_)
        clear hK K
        refine wpAnyF_take [11] (by kernel_rfl) (i := 9) (v := ?vr9) rfl (by kernel_rfl) (by kernel_rfl) (by kernel_rfl) (fun _ _ _ h => h) (Or.inl ⟨by rfl, ?hyr9⟩) hHeld ?restr9
        case hyr9 => intro w' hSw; (try dsimp only at hSw); go_simp; try with_reducible rfl
        simp only [Act.put]
        refine wpAnyF_take [11] (by kernel_rfl) (i := 10) (v := ?vr10) rfl (by kernel_rfl) (by kernel_rfl) (by kernel_rfl) (fun _ _ _ h => h) (Or.inl ⟨by rfl, ?hyr10⟩) hHeld ?restr10
        case hyr10 => intro w' hSw; (try dsimp only at hSw); go_simp; try with_reducible rfl
        simp only [Act.put]
        refine wpAnyF_ready (rs := [11]) (by kernel_rfl) (by simp) ?_
        refine AllReadyF.last rfl (fun K hK => ?_)
        have kz := KO.out.later Bb2.out
        have l1 := kz.cell 1
        have lf := kz.frozen 1
        simp at l1
        have hrs := Bm.out
        have hlt : LtS _ w.heap.size g8 c8 Q Bg Bc R mqP mqT mqR := ⟨HTz.out.later Bb2.out, fun p hp => (HMz.out p hp).later Bb2.out, hrs⟩
        have HLz := hide_ (hlt.other kz (by omega) (by decide) (by decide) (by decide) 1 (.slice (some ⟨Bg, 0, none⟩) R.length Bc))
        have HKz : Hid (Blk _ (w.heap.size + 2) 25 [.slice (some ⟨g8, 0, none⟩) T.length c8, .slice (some ⟨Bg, 0, none⟩) R.length Bc]) := hide_ (by have h := kz.set 1 (.slice (some ⟨Bg, 0, none⟩) R.length Bc); simpa using h)
        have HKr := hide_ ((KRs.out.later Bb2.out).other ⟨w.heap.size + 2, 1, none⟩ (.slice (some ⟨Bg, 0, none⟩) R.length Bc) (by show w.heap.size + 1 ≠ w.heap.size + 2; omega))
        have HBf := hide_ (below_set (below_to HBz.out Bb2.out) (w.heap.size + 2) 1 (.slice (some ⟨Bg, 0, none⟩) R.length Bc) (by omega))
        clear kz hrs hlt
        go_simp
        refine hK.out _ _ ?_
        clear hK K
        refine wpAnyF_done (by kernel_rfl) ?_ _
        go_wp2_with fail
        go_meet
        case rel => exact ⟨Bg, Bc, _, rfl, HLz, HKz, HKr, HBf⟩
      case rest =>
        obtain ⟨gR, cR', wy, rfl, HLy, KOy, KRy, HBy⟩ := hcut
        clear A1 A2 B1 B2 Am Bm Ab1 Ab2 Bb1 Bb2 hAc hBc HSS
        have k9 := KRy.out
        have HK := hide_ (wr2 k9 (.slice (some ⟨g8, 0, none⟩) T.length c8) (.slice (some ⟨gR, 0, none⟩) R.length cR'))
        have HBf := hide_ (below_wr2 HBy.out (w.heap.size + 1) (by omega) (.slice (some ⟨g8, 0, none⟩) T.length c8) (.slice (some ⟨gR, 0, none⟩) R.length cR'))
        have HL1 := HLy.out.other k9 (by omega) (by decide) (by decide) (by decide) 0 (.slice (some ⟨g8, 0, none⟩) T.length c8)
        have HL2 := hide_ (HL1.other (k9.set 0 (.slice (some ⟨g8, 0, none⟩) T.length c8)) (by omega) (by decide) (by decide) (by decide) 1 (.slice (some ⟨gR, 0, none⟩) R.length cR'))
        have q0 := KOy.out.cell 0; have q1 := KOy.out.cell 1
        have z0 := k9.cell 0; have z1 := k9.cell 1
        have zf := fun i => k9.frozen i
        simp at q0 q1 z0 z1
        clear k9 HL1
        go_wp2
        exact retSc rfl rfl HK.out ⟨g8, c8, Q, gR, cR', rfl, HL2, HQe, HBf⟩
end Go.Proofs.Ytdpkmkhflgmioaa

/- kept: what is lent and unchanged. -/
namespace Go.Proofs.Ytdpkmkhflgmioaa
open Go.RowKit
set_option linter.unusedVariables false

set_option maxRecDepth 100000 in
set_option maxHeartbeats 8000000 in
theorem kept_yes (gT cT : Nat) (Q : List (Ty × Value)) (gR cR : Nat) (B : Nat) (aT : Option Addr) (ct : Nat) (T : List Ty) (aR : Option Addr) (cr : Nat) (R : List Rt) (w : World) (hn : T.length ≤ 1000000000) (hm : R.length ≤ 1000000000) (hL : Hid (LensT T)) (hLt : Hid (LtS w B gT cT Q gR cR R mqP mqT mqR)) (hQ : Hid (Q.map (·.1) = T)) (hT : Hid (TRow w aT T)) (hR : Hid (RRow w aR R)) :
    Calls Try.prog 19 #[.agg #[.slice (some ⟨gT, 0, none⟩) T.length cT, .slice (some ⟨gR, 0, none⟩) R.length cR], .agg #[.slice aT T.length ct, .slice aR R.length cr]] w fun e w' => e = .returned (.bool true) ∧ Below w.heap.size w w' := by
  have hB := below2 w (.cells #[.slice (some ⟨gT, 0, none⟩) T.length cT, .slice (some ⟨gR, 0, none⟩) R.length cR] 25) (.cells #[.slice aT T.length ct, .slice aR R.length cr] 25)
  obtain ⟨k1, k2⟩ := blk2 w #[.slice (some ⟨gT, 0, none⟩) T.length cT, .slice (some ⟨gR, 0, none⟩) R.length cR] #[.slice aT T.length ct, .slice aR R.length cr] 25 25
  obtain ⟨w0, hw0⟩ : ∃ wx, wx = (w.alloc (.cells #[.slice (some ⟨gT, 0, none⟩) T.length cT, .slice (some ⟨gR, 0, none⟩) R.length cR] 25)).alloc (.cells #[.slice aT T.length ct, .slice aR R.length cr] 25) := ⟨_, rfl⟩
  rw [← hw0] at hB k1 k2
  have HB0 := hide_ hB
  have K1 := hide_ k1
  have K2 := hide_ k2
  have hql : Q.length = T.length := by have := congrArg List.length hQ.out; simpa using this
  have HLt0 := hide_ (hLt.out.later hB)
  obtain ⟨hc1, hc2, hg1, hg2, -, -⟩ := HLt0.out.caps
  rw [hql] at hc1
  have HMT : Hid (∀ w', Below w0.heap.size w0 w' → w'.cell? ⟨gT, T.length * 4, none⟩ = some (.int .i64 23130) ∧ w'.cell? ⟨gR, R.length * 2 + 1, none⟩ = some (.int .i64 23130)) := hide_ (fun w' hB' => by
    obtain ⟨-, -, -, -, h1, h2⟩ := (HLt0.out.later hB').caps
    rw [hql] at h1
    exact ⟨h1, h2⟩)
  have hrow := HLt0.out.row
  rw [hQ.out] at hrow
  have HSm : Hid (∀ w', Below w0.heap.size w0 w' → Calls Try.prog 36 #[.agg #[.slice (some ⟨gT, 0, none⟩) T.length cT, .slice (some ⟨gR, 0, none⟩) R.length cR], .agg #[.slice aT T.length ct, .slice aR R.length cr]] w' fun e w'' => e = .returned (.bool true) ∧ Below w'.heap.size w' w'') := hide_ (fun w' hB' => same_yes (some ⟨gT, 0, none⟩) cT (some ⟨gR, 0, none⟩) cR aT ct aR cr T R w' (by omega) (by omega) hL (hide_ (hrow.1.later hB')) (hide_ (hrow.2.later hB')) (hide_ (hT.out.later (below_to HB0.out hB'))) (hide_ (hR.out.later (below_to HB0.out hB'))))
  have HSS : Hid (∀ w', Below w0.heap.size w0 w' → Below w0.heap.size w0 w' ∧ w'.cell? ⟨w.heap.size, 0, none⟩ = some (.slice (some ⟨gT, 0, none⟩) T.length cT) ∧ w'.cell? ⟨w.heap.size, 1, none⟩ = some (.slice (some ⟨gR, 0, none⟩) R.length cR) ∧ w'.cell? ⟨w.heap.size + 1, 0, none⟩ = some (.slice aT T.length ct) ∧ w'.cell? ⟨w.heap.size + 1, 1, none⟩ = some (.slice aR R.length cr) ∧ w'.cell? ⟨gT, T.length * 4, none⟩ = some (.int .i64 23130) ∧ w'.cell? ⟨gR, R.length * 2 + 1, none⟩ = some (.int .i64 23130)) := hide_ (fun w' hB' => ⟨hB', (K1.out.later hB').cell 0, (K1.out.later hB').cell 1, (K2.out.later hB').cell 0, (K2.out.later hB').cell 1, (HMT.out w' hB').1, (HMT.out w' hB').2⟩)
  have HQL := hide_ hql
  have hw1 : IntKind.i64.wrap ((T.length : Int) + 1) = (T.length : Int) + 1 := by rw [IntKind.wrap_i64]; omega
  have hw2 : IntKind.i64.wrap ((R.length : Int) + 1) = (R.length : Int) + 1 := by rw [IntKind.wrap_i64]; omega
  have hc1' : (T.length : Int) + 1 ≤ cT := by omega
  have hc2' : (R.length : Int) + 1 ≤ cR := by omega
  have hp1 : (0 : Int) ≤ (T.length : Int) + 1 := by omega
  have hp2 : (0 : Int) ≤ (R.length : Int) + 1 := by omega
  have hp3 : (T.length : Int) < (T.length : Int) + 1 := by omega
  have hp4 : (R.length : Int) < (R.length : Int) + 1 := by omega
  clear hB k1 k2 hrow hql
  go_enter Try.func19, Try.ntmps19
  go_upto_region 1 with fail
  rw [← hw0]
  clear hw0
  go_wp2_with fail
  refine wp_region_held_drew (S := (fun w' => Below w0.heap.size w0 w' ∧ w'.cell? ⟨w.heap.size, 0, none⟩ = some (.slice (some ⟨gT, 0, none⟩) T.length cT) ∧ w'.cell? ⟨w.heap.size, 1, none⟩ = some (.slice (some ⟨gR, 0, none⟩) R.length cR) ∧ w'.cell? ⟨w.heap.size + 1, 0, none⟩ = some (.slice aT T.length ct) ∧ w'.cell? ⟨w.heap.size + 1, 1, none⟩ = some (.slice aR R.length cr) ∧ w'.cell? ⟨gT, T.length * 4, none⟩ = some (.int .i64 23130) ∧ w'.cell? ⟨gR, R.length * 2 + 1, none⟩ = some (.int .i64 23130))) (by kernel_rfl) (HSS.out _ ((Below.refl w0.heap.size w0).drew)) (fun hHeld => ?_)
  refine wpAnyH_take (i := 0) (v := ?vk1) rfl (by kernel_rfl) (by kernel_rfl) (by kernel_rfl) (fun _ _ _ h => h) (Or.inl ⟨by kernel_rfl, ?hyk1⟩) hHeld ?restk1
  case hyk1 => intro w' hSw; (try dsimp only at hSw); go_simp; try with_reducible rfl
  simp only [Act.put]
  refine wpAnyH_take (i := 1) (v := ?vk2) rfl (by kernel_rfl) (by kernel_rfl) (by kernel_rfl) (fun _ _ _ h => h) (Or.inl ⟨by kernel_rfl, ?hyk2⟩) hHeld ?restk2
  case hyk2 => intro w' hSw; (try dsimp only at hSw); go_simp; try with_reducible rfl
  simp only [Act.put]
  refine wpAnyH_ready (rs := [2]) (by kernel_rfl) (by simp) ?_
  refine AllReadyH.cons rfl (fun K hK => ?_) AllReadyH.nil
  go_simp
  refine (HSm.out _ ((Below.refl w0.heap.size w0).drew)).mono ?_
  rintro e w1 ⟨rfl, hB1⟩
  dsimp only
  have HB1 := hide_ (below_to ((Below.refl w0.heap.size w0).drew) hB1)
  clear hB1
  refine hK.out _ _ (HSS.out _ HB1.out) (fun hHeld => ?_)
  clear hK K
  refine wpAnyH_take (i := 3) (v := ?vk3) rfl (by kernel_rfl) (by kernel_rfl) (by kernel_rfl) (fun _ _ _ h => h) (Or.inl ⟨by kernel_rfl, ?hyk3⟩) hHeld ?restk3
  case hyk3 => intro w' hSw; (try dsimp only at hSw); go_simp; try with_reducible rfl
  simp only [Act.put]
  refine wpAnyH_take (i := 4) (v := ?vk4) rfl (by kernel_rfl) (by kernel_rfl) (by kernel_rfl) (fun _ _ _ h => h) (Or.inl ⟨by kernel_rfl, ?hyk4⟩) hHeld ?restk4
  case hyk4 => intro w' hSw; (try dsimp only at hSw); go_simp; try with_reducible rfl
  simp only [Act.put]
  refine wpAnyH_take (i := 5) (v := ?vk5) rfl (by kernel_rfl) (by kernel_rfl) (by kernel_rfl) (fun _ _ _ h => h) (Or.inl ⟨by kernel_rfl, ?hyk5⟩) hHeld ?restk5
  case hyk5 => intro w' hSw; (try dsimp only at hSw); go_simp; try with_reducible rfl
  simp only [Act.put]
  refine wpAnyH_take (i := 6) (v := ?vk6) rfl (by kernel_rfl) (by kernel_rfl) (by kernel_rfl) (fun _ _ _ h => h) (Or.inl ⟨by kernel_rfl, ?hyk6⟩) hHeld ?restk6
  case hyk6 => intro w' hSw; (try dsimp only at hSw); go_simp; try with_reducible rfl
  simp only [Act.put]
  refine wpAnyH_take (i := 7) (v := ?vk7) rfl (by kernel_rfl) (by kernel_rfl) (by kernel_rfl) (fun _ _ _ h => h) (Or.inl ⟨by kernel_rfl, ?hyk7⟩) hHeld ?restk7
  case hyk7 => intro w' hSw; (try dsimp only at hSw); go_simp; try with_reducible rfl
  simp only [Act.put]
  refine wpAnyH_take (i := 8) (v := ?vk8) rfl (by kernel_rfl) (by kernel_rfl) (by kernel_rfl) (fun _ _ _ h => h) (Or.inl ⟨by kernel_rfl, ?hyk8⟩) hHeld ?restk8
  case hyk8 => intro w' hSw; (try dsimp only at hSw); go_simp; try with_reducible rfl
  simp only [Act.put]
  refine wpAnyH_take (i := 9) (v := ?vk9) rfl (by kernel_rfl) (by kernel_rfl) (by kernel_rfl) (fun _ _ _ h => h) (Or.inl ⟨by kernel_rfl, ?hyk9⟩) hHeld ?restk9
  case hyk9 => intro w' hSw; (try dsimp only at hSw); go_simp; try with_reducible rfl
  simp only [Act.put]
  refine wpAnyH_take (i := 10) (v := ?vk10) rfl (by kernel_rfl) (by kernel_rfl) (by kernel_rfl) (fun _ _ _ h => h) (Or.inl ⟨by kernel_rfl, ?hyk10⟩) hHeld ?restk10
  case hyk10 => intro w' hSw; (try dsimp only at hSw); go_simp; try with_reducible rfl
  simp only [Act.put]
  refine wpAnyH_take (i := 11) (v := ?vk11) rfl (by kernel_rfl) (by kernel_rfl) (by kernel_rfl) (fun _ _ _ h => h) (Or.inl ⟨by kernel_rfl, ?hyk11⟩) hHeld ?restk11
  case hyk11 => intro w' hSw; (try dsimp only at hSw); go_simp; try with_reducible rfl
  simp only [Act.put]
  refine wpAnyH_take (i := 12) (v := ?vk12) rfl (by kernel_rfl) (by kernel_rfl) (by kernel_rfl) (fun _ _ _ h => h) (Or.inl ⟨by kernel_rfl, ?hyk12⟩) hHeld ?restk12
  case hyk12 => intro w' hSw; (try dsimp only at hSw); go_simp; try with_reducible rfl
  simp only [Act.put]
  refine wpAnyH_take (i := 13) (v := ?vk13) rfl (by kernel_rfl) (by kernel_rfl) (by kernel_rfl) (fun _ _ _ h => h) (Or.inl ⟨by kernel_rfl, ?hyk13⟩) hHeld ?restk13
  case hyk13 => intro w' hSw; (try dsimp only at hSw); go_simp; try with_reducible rfl
  simp only [Act.put]
  refine wpAnyH_take (i := 14) (v := ?vk14) rfl (by kernel_rfl) (by kernel_rfl) (by kernel_rfl) (fun _ _ _ h => h) (Or.inl ⟨by kernel_rfl, ?hyk14⟩) hHeld ?restk14
  case hyk14 => intro w' hSw; (try dsimp only at hSw); go_simp; try with_reducible rfl
  simp only [Act.put]
  refine wpAnyH_take (i := 15) (v := ?vk15) rfl (by kernel_rfl) (by kernel_rfl) (by kernel_rfl) (fun _ _ _ h => h) (Or.inl ⟨by kernel_rfl, ?hyk15⟩) hHeld ?restk15
  case hyk15 => intro w' hSw; (try dsimp only at hSw); go_simp; try with_reducible rfl
  simp only [Act.put]
  refine wpAnyH_take (i := 16) (v := ?vk16) rfl (by kernel_rfl) (by kernel_rfl) (by kernel_rfl) (fun _ _ _ h => h) (Or.inl ⟨by kernel_rfl, ?hyk16⟩) hHeld ?restk16
  case hyk16 => intro w' hSw; (try dsimp only at hSw); go_simp; try with_reducible rfl
  simp only [Act.put]
  refine wpAnyH_take (i := 17) (v := ?vk17) rfl (by kernel_rfl) (by kernel_rfl) (by kernel_rfl) (fun _ _ _ h => h) (Or.inl ⟨by kernel_rfl, ?hyk17⟩) hHeld ?restk17
  case hyk17 => intro w' hSw; (try dsimp only at hSw); go_simp; try with_reducible rfl
  simp only [Act.put]
  refine wpAnyH_take (i := 18) (v := ?vk18) rfl (by kernel_rfl) (by kernel_rfl) (by kernel_rfl) (fun _ _ _ h => h) (Or.inl ⟨by kernel_rfl, ?hyk18⟩) hHeld ?restk18
  case hyk18 => intro w' hSw; (try dsimp only at hSw); go_simp; try with_reducible rfl
  simp only [Act.put]
  refine wpAnyH_ready (rs := [19]) (by kernel_rfl) (by simp) ?_
  refine AllReadyH.cons rfl (fun K hK => ?_) AllReadyH.nil
  go_simp
  refine hK.out _ _ (hHeld) (fun hHeld => ?_)
  clear hK K
  refine wpAnyH_take (i := 20) (v := ?vk19) rfl (by kernel_rfl) (by kernel_rfl) (by kernel_rfl) (fun _ _ _ h => h) (Or.inl ⟨by kernel_rfl, ?hyk19⟩) hHeld ?restk19
  case hyk19 => intro w' hSw; (try dsimp only at hSw); go_simp; try with_reducible rfl
  simp only [Act.put]
  refine wpAnyH_take (i := 21) (v := ?vk20) rfl (by kernel_rfl) (by kernel_rfl) (by kernel_rfl) (fun _ _ _ h => h) (Or.inl ⟨by kernel_rfl, ?hyk20⟩) hHeld ?restk20
  case hyk20 => intro w' hSw; (try dsimp only at hSw); go_simp; try with_reducible rfl
  simp only [Act.put]
  refine wpAnyH_take (i := 22) (v := ?vk21) rfl (by kernel_rfl) (by kernel_rfl) (by kernel_rfl) (fun _ _ _ h => h) (Or.inl ⟨by kernel_rfl, ?hyk21⟩) hHeld ?restk21
  case hyk21 => intro w' hSw; (try dsimp only at hSw); go_simp; try with_reducible rfl
  simp only [Act.put]
  refine wpAnyH_take (i := 23) (v := ?vk22) rfl (by kernel_rfl) (by kernel_rfl) (by kernel_rfl) (fun _ _ _ h => h) (Or.inl ⟨by kernel_rfl, ?hyk22⟩) hHeld ?restk22
  case hyk22 => intro w' hSw; (try dsimp only at hSw); go_simp; try with_reducible rfl
  simp only [Act.put]
  refine wpAnyH_take (i := 24) (v := ?vk23) rfl (by kernel_rfl) (by kernel_rfl) (by kernel_rfl) (fun _ _ _ h => h) (Or.inl ⟨by kernel_rfl, ?hyk23⟩) hHeld ?restk23
  case hyk23 => intro w' hSw; (try dsimp only at hSw); go_simp; try with_reducible rfl
  simp only [Act.put]
  refine wpAnyH_take (i := 25) (v := ?vk24) rfl (by kernel_rfl) (by kernel_rfl) (by kernel_rfl) (fun _ _ _ h => h) (Or.inl ⟨by kernel_rfl, ?hyk24⟩) hHeld ?restk24
  case hyk24 => intro w' hSw; (try dsimp only at hSw); go_simp; try with_reducible rfl
  simp only [Act.put]
  refine wpAnyH_take (i := 26) (v := ?vk25) rfl (by kernel_rfl) (by kernel_rfl) (by kernel_rfl) (fun _ _ _ h => h) (Or.inl ⟨by kernel_rfl, ?hyk25⟩) hHeld ?restk25
  case hyk25 => intro w' hSw; (try dsimp only at hSw); go_simp; try with_reducible rfl
  simp only [Act.put]
  refine wpAnyH_take (i := 27) (v := ?vk26) rfl (by kernel_rfl) (by kernel_rfl) (by kernel_rfl) (fun _ _ _ h => h) (Or.inl ⟨by kernel_rfl, ?hyk26⟩) hHeld ?restk26
  case hyk26 => intro w' hSw; (try dsimp only at hSw); go_simp; try with_reducible rfl
  simp only [Act.put]
  refine wpAnyH_take (i := 28) (v := ?vk27) rfl (by kernel_rfl) (by kernel_rfl) (by kernel_rfl) (fun _ _ _ h => h) (Or.inl ⟨by kernel_rfl, ?hyk27⟩) hHeld ?restk27
  case hyk27 => intro w' hSw; (try dsimp only at hSw); go_simp; try with_reducible rfl
  simp only [Act.put]
  refine wpAnyH_take (i := 29) (v := ?vk28) rfl (by kernel_rfl) (by kernel_rfl) (by kernel_rfl) (fun _ _ _ h => h) (Or.inl ⟨by kernel_rfl, ?hyk28⟩) hHeld ?restk28
  case hyk28 => intro w' hSw; (try dsimp only at hSw); go_simp; try with_reducible rfl
  simp only [Act.put]
  refine wpAnyH_take (i := 30) (v := ?vk29) rfl (by kernel_rfl) (by kernel_rfl) (by kernel_rfl) (fun _ _ _ h => h) (Or.inl ⟨by kernel_rfl, ?hyk29⟩) hHeld ?restk29
  case hyk29 => intro w' hSw; (try dsimp only at hSw); go_simp; try with_reducible rfl
  simp only [Act.put]
  refine wpAnyH_take (i := 31) (v := ?vk30) rfl (by kernel_rfl) (by kernel_rfl) (by kernel_rfl) (fun _ _ _ h => h) (Or.inl ⟨by kernel_rfl, ?hyk30⟩) hHeld ?restk30
  case hyk30 => intro w' hSw; (try dsimp only at hSw); go_simp; try with_reducible rfl
  simp only [Act.put]
  refine wpAnyH_take (i := 32) (v := ?vk31) rfl (by kernel_rfl) (by kernel_rfl) (by kernel_rfl) (fun _ _ _ h => h) (Or.inl ⟨by kernel_rfl, ?hyk31⟩) hHeld ?restk31
  case hyk31 => intro w' hSw; (try dsimp only at hSw); go_simp; try with_reducible rfl
  simp only [Act.put]
  refine wpAnyH_take (i := 33) (v := ?vk32) rfl (by kernel_rfl) (by kernel_rfl) (by kernel_rfl) (fun _ _ _ h => h) (Or.inl ⟨by kernel_rfl, ?hyk32⟩) hHeld ?restk32
  case hyk32 => intro w' hSw; (try dsimp only at hSw); go_simp; try with_reducible rfl
  simp only [Act.put]
  refine wpAnyH_take (i := 34) (v := ?vk33) rfl (by kernel_rfl) (by kernel_rfl) (by kernel_rfl) (fun _ _ _ h => h) (Or.inl ⟨by kernel_rfl, ?hyk33⟩) hHeld ?restk33
  case hyk33 => intro w' hSw; (try dsimp only at hSw); go_simp; try with_reducible rfl
  simp only [Act.put]
  refine wpAnyH_ready (rs := [35]) (by kernel_rfl) (by simp) ?_
  refine AllReadyH.cons rfl (fun K hK => ?_) AllReadyH.nil
  go_simp
  refine hK.out _ _ (hHeld) (fun hHeld => ?_)
  clear hK K
  refine wpAnyH_done (by kernel_rfl) ?_ _
  clear HSm HSS hHeld
  clear hw1 hw2
  go_wp2_with fail
  go_loopw [5] (fun x5 wr => ∃ (i : Nat), i ≤ T.length ∧ x5 = .int .i64 (i : Int) ∧ Hid (Below w0.heap.size w0 wr)) (fun x5 _ => T.length - (intOf x5).toNat)
  case atStart => exact ⟨0, Nat.zero_le _, rfl, HB1⟩
  case round =>
    obtain ⟨i, hi, rfl, HB⟩ := hrel
    generalize wr = wq at *
    have i0 := (K1.out.later HB.out).cell 0; have j0 := (K2.out.later HB.out).cell 0
    simp at i0 j0
    by_cases hlt : i < T.length
    · have hlt' : (i : Int) < T.length := by omega
      have hx : T[i]? = some (T[i]'hlt) := List.getElem?_eq_getElem hlt
      obtain ⟨b2, o2, rfl, hb2, h2⟩ := (hT.out.later (below_to HB0.out HB.out)).open (by omega)
      obtain ⟨va, vc, hcc, hvc, -, -⟩ := h2 i _ hx
      have hpl := hL.out.at hx
      have HLq := HLt0.out.later HB.out
      obtain ⟨p, hp⟩ : ∃ p, Q[i]? = some p := ⟨_, List.getElem?_eq_getElem (by have := HQL.out; omega)⟩
      have hpt : p.1 = T[i]'hlt := by
        have h1 : (Q.map (·.1))[i]? = some p.1 := by rw [List.getElem?_map, hp]; rfl
        rw [hQ.out, hx] at h1
        injection h1 with h1
        exact h1.symm
      have hp' : (Q ++ [(mqT, Value.slice none 0 0)])[i]? = some p := by rw [List.getElem?_append_left (by have := HQL.out; omega)]; exact hp
      obtain ⟨-, -, -, u3⟩ := HLq.ty.at4 hp'
      obtain ⟨g, c, hu, hcl, hpr, -, -⟩ := HLq.mks p (List.mem_of_getElem? hp)
      rw [hu] at u3
      rw [hpt] at u3 hcl hpr
      have s3 := hcc 3 (by decide)
      simp [tyc] at s3
      generalize T[i]'hlt = t at *
      obtain ⟨bp, op, e1, -, hcp⟩ := hpr.open (by simp)
      injection e1 with e1
      injection e1 with e1 e2 _
      subst e1 e2
      have m1 := hcp t.ps.length mqP (by simp) 1 (by decide)
      simp [ptc, mqP] at m1
      have hcl' : (t.ps.length : Int) + 1 ≤ c := by omega
      have hp5 : (0 : Int) ≤ (t.ps.length : Int) + 1 := by omega
      have hn0 : (t.ps.length : Int) < (t.ps.length : Int) + 1 := by omega
      have hw3 : wrap64 ((t.ps.length : Int) + 1) = (t.ps.length : Int) + 1 := w64 _ (by omega)
      clear hx h2 hcc HLq hp hpt hp' hu hpr hcp hcl hvc hp1 hp2 hp3 hp4 hc1 hc2 hc1' hc2' hg1 hg2
      go_wp2_with fail
      go_roundw
      case rel => clear hw3; exact ⟨i + 1, by omega, by go_num, HB⟩
      case measure => clear hw3; simp [intOf]; omega
    · have hlt' : ¬ (i : Int) < T.length := by omega
      go_wp2
      go_ret
      exact ⟨rfl, below_to HB0.out HB.out⟩
end Go.Proofs.Ytdpkmkhflgmioaa
