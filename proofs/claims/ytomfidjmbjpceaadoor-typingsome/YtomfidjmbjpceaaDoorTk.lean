/- Lent.kept: what is lent and unchanged. -/
import Derived.Test.YtomfidjmbjpceaaDoorTl
import Derived.Test.YtomfidjmbjpceaaDoorOo
import Derived.Test.YtomfidjmbjpceaaDoorZsm
namespace Go.Proofs.YtomfidjmbjpceaaDoor
open Go.RowKit
set_option linter.unusedVariables false

theorem iown_at2 {w : World} {l : List Int} {B g n cap i : Nat} (h : IOwn w B (.slice (some ⟨g, 0, none⟩) n cap) l) (hi : i < l.length) : w.cell? ⟨g, i, none⟩ = some (.int .i64 (l.getD i 0)) := by
  obtain ⟨a, c, e, -, -, -, -, h2⟩ := own_open h rfl
  obtain ⟨g', e2, -, -, hc, hf⟩ := h2 (by omega)
  injection e with e1 _ _
  rw [e2] at e1
  injection e1 with e1
  injection e1 with e1 _ _
  subst e1
  exact hc i hi
theorem getD_lastI (l : List Int) (x : Int) : (l ++ [x]).getD l.length 0 = x := by simp [List.getD]
set_option maxRecDepth 100000 in
set_option maxHeartbeats 8000000 in
theorem kept_yes (gT cT : Nat) (Q : List (Ty × Value)) (gR cR : Nat) (B : Nat) (aT : Option Addr) (ct : Nat) (T : List Ty) (aR : Option Addr) (cr : Nat) (R : List Rt) (w : World) (hn : T.length ≤ 1000000000) (hm : R.length ≤ 1000000000) (hL : Hid (LensT T)) (hLt : Hid (LtS w B gT cT Q gR cR R mqP mqT mqR)) (hQ : Hid (Q.map (·.1) = T)) (hT : Hid (TRow w aT T)) (hR : Hid (RRow w aR R)) (gV cV : Nat) (aV : Option Addr) (cv : Nat) (V : List Nv) (hvl : V.length ≤ 1000000000) (hNo : Hid (NOwn w B (.slice (some ⟨gV, 0, none⟩) (V.length + 1) cV) (V ++ [mqN]))) (hVr : Hid (VRow w aV V)) (gP cP : Nat) (aP : Option Addr) (cp : Nat) (P : List Int) (hpl : P.length ≤ 1000000000) (hIo : Hid (IOwn w B (.slice (some ⟨gP, 0, none⟩) (P.length + 1) cP) (P ++ [23130]))) (hPr : Hid (Row .i64 w aP P)) :
    Calls Tryd.prog 14 #[.agg #[.slice (some ⟨gT, 0, none⟩) T.length cT, .slice (some ⟨gR, 0, none⟩) R.length cR, .slice (some ⟨gV, 0, none⟩) V.length cV, .slice (some ⟨gP, 0, none⟩) P.length cP], .agg #[.slice aT T.length ct, .slice aR R.length cr], .slice aV V.length cv, .slice aP P.length cp] w fun e w' => e = .returned (.bool true) ∧ Below w.heap.size w w' := by
  have hB := below2 w (.cells #[.slice (some ⟨gT, 0, none⟩) T.length cT, .slice (some ⟨gR, 0, none⟩) R.length cR, .slice (some ⟨gV, 0, none⟩) V.length cV, .slice (some ⟨gP, 0, none⟩) P.length cP] 33) (.cells #[.slice aT T.length ct, .slice aR R.length cr] 25)
  obtain ⟨k1, k2⟩ := blk2 w #[.slice (some ⟨gT, 0, none⟩) T.length cT, .slice (some ⟨gR, 0, none⟩) R.length cR, .slice (some ⟨gV, 0, none⟩) V.length cV, .slice (some ⟨gP, 0, none⟩) P.length cP] #[.slice aT T.length ct, .slice aR R.length cr] 33 25
  obtain ⟨w0, hw0⟩ : ∃ wx, wx = (w.alloc (.cells #[.slice (some ⟨gT, 0, none⟩) T.length cT, .slice (some ⟨gR, 0, none⟩) R.length cR, .slice (some ⟨gV, 0, none⟩) V.length cV, .slice (some ⟨gP, 0, none⟩) P.length cP] 33)).alloc (.cells #[.slice aT T.length ct, .slice aR R.length cr] 25) := ⟨_, rfl⟩
  rw [← hw0] at hB k1 k2
  have HB0 := hide_ hB
  have K1 := hide_ k1
  have K2 := hide_ k2
  have hql : Q.length = T.length := by have := congrArg List.length hQ.out; simpa using this
  have HLt0 := hide_ (hLt.out.later hB)
  obtain ⟨hc1, hc2, hg1, hg2, -, -⟩ := HLt0.out.caps
  rw [hql] at hc1
  have HMT : Hid (∀ w', Below w0.heap.size w0 w' → w'.cell? ⟨gT, T.length * 4, none⟩ = some (.int .i64 23130) ∧ w'.cell? ⟨gR, R.length * 2 + 1, none⟩ = some (.int .i64 23130)) := hide_ (fun w' hB' => by
    obtain ⟨-, -, -, -, h1, h2⟩ := (HLt0.out.later hB').caps
    rw [hql] at h1
    exact ⟨h1, h2⟩)
  have hrow := HLt0.out.row
  rw [hQ.out] at hrow
  have HSm : Hid (∀ w', Below w0.heap.size w0 w' → Calls Tryd.prog 34 #[.agg #[.slice (some ⟨gT, 0, none⟩) T.length cT, .slice (some ⟨gR, 0, none⟩) R.length cR], .agg #[.slice aT T.length ct, .slice aR R.length cr]] w' fun e w'' => e = .returned (.bool true) ∧ Below w'.heap.size w' w'') := hide_ (fun w' hB' => same_yes (some ⟨gT, 0, none⟩) cT (some ⟨gR, 0, none⟩) cR aT ct aR cr T R w' (by omega) (by omega) hL (hide_ (hrow.1.later hB')) (hide_ (hrow.2.later hB')) (hide_ (hT.out.later (below_to HB0.out hB'))) (hide_ (hR.out.later (below_to HB0.out hB'))))
  have HSS : Hid (∀ w', Below w0.heap.size w0 w' → Below w0.heap.size w0 w' ∧ w'.cell? ⟨w.heap.size, 0, none⟩ = some (.slice (some ⟨gT, 0, none⟩) T.length cT) ∧ w'.cell? ⟨w.heap.size, 1, none⟩ = some (.slice (some ⟨gR, 0, none⟩) R.length cR) ∧ w'.cell? ⟨w.heap.size + 1, 0, none⟩ = some (.slice aT T.length ct) ∧ w'.cell? ⟨w.heap.size + 1, 1, none⟩ = some (.slice aR R.length cr) ∧ w'.cell? ⟨gT, T.length * 4, none⟩ = some (.int .i64 23130) ∧ w'.cell? ⟨gR, R.length * 2 + 1, none⟩ = some (.int .i64 23130)) := hide_ (fun w' hB' => ⟨hB', (K1.out.later hB').cell 0, (K1.out.later hB').cell 1, (K2.out.later hB').cell 0, (K2.out.later hB').cell 1, (HMT.out w' hB').1, (HMT.out w' hB').2⟩)
  have HQL := hide_ hql
  have hw1 : IntKind.i64.wrap ((T.length : Int) + 1) = (T.length : Int) + 1 := by rw [IntKind.wrap_i64]; omega
  have hw2 : IntKind.i64.wrap ((R.length : Int) + 1) = (R.length : Int) + 1 := by rw [IntKind.wrap_i64]; omega
  have hc1' : (T.length : Int) + 1 ≤ cT := by omega
  have hc2' : (R.length : Int) + 1 ≤ cR := by omega
  have hp1 : (0 : Int) ≤ (T.length : Int) + 1 := by omega
  have hp2 : (0 : Int) ≤ (R.length : Int) + 1 := by omega
  have hp3 : (T.length : Int) < (T.length : Int) + 1 := by omega
  have hp4 : (R.length : Int) < (R.length : Int) + 1 := by omega
  clear hB k1 k2 hrow hql
  go_enter Tryd.func14, Tryd.ntmps14
  go_upto_region 1 with fail
  rw [← hw0]
  clear hw0
  go_wp2_with fail
  refine wp_region_held_drew (S := (fun w' => Below w0.heap.size w0 w' ∧ w'.cell? ⟨w.heap.size, 0, none⟩ = some (.slice (some ⟨gT, 0, none⟩) T.length cT) ∧ w'.cell? ⟨w.heap.size, 1, none⟩ = some (.slice (some ⟨gR, 0, none⟩) R.length cR) ∧ w'.cell? ⟨w.heap.size + 1, 0, none⟩ = some (.slice aT T.length ct) ∧ w'.cell? ⟨w.heap.size + 1, 1, none⟩ = some (.slice aR R.length cr) ∧ w'.cell? ⟨gT, T.length * 4, none⟩ = some (.int .i64 23130) ∧ w'.cell? ⟨gR, R.length * 2 + 1, none⟩ = some (.int .i64 23130))) (by kernel_rfl) (HSS.out _ ((Below.refl w0.heap.size w0).drew)) (fun hHeld => ?_)
  refine wpAnyH_take (i := 0) (v := ?vk1) rfl (by kernel_rfl) (by kernel_rfl) (by kernel_rfl) (fun _ _ _ h => h) (Or.inl ⟨by kernel_rfl, ?hyk1⟩) hHeld ?restk1
  case hyk1 => intro w' hSw; (try dsimp only at hSw); go_simp; try with_reducible rfl
  simp only [Act.put]
  refine wpAnyH_take (i := 1) (v := ?vk2) rfl (by kernel_rfl) (by kernel_rfl) (by kernel_rfl) (fun _ _ _ h => h) (Or.inl ⟨by kernel_rfl, ?hyk2⟩) hHeld ?restk2
  case hyk2 => intro w' hSw; (try dsimp only at hSw); go_simp; try with_reducible rfl
  simp only [Act.put]
  refine wpAnyH_take (i := 2) (v := ?vk3) rfl (by kernel_rfl) (by kernel_rfl) (by kernel_rfl) (fun _ _ _ h => h) (Or.inl ⟨by kernel_rfl, ?hyk3⟩) hHeld ?restk3
  case hyk3 => intro w' hSw; (try dsimp only at hSw); go_simp; try with_reducible rfl
  simp only [Act.put]
  refine wpAnyH_ready (rs := [3]) (by kernel_rfl) (by simp) ?_
  refine AllReadyH.cons rfl (fun K hK => ?_) AllReadyH.nil
  go_simp
  refine (HSm.out _ ((Below.refl w0.heap.size w0).drew)).mono ?_
  rintro e w1 ⟨rfl, hB1⟩
  dsimp only
  have HB1 := hide_ (below_to ((Below.refl w0.heap.size w0).drew) hB1)
  clear hB1
  refine hK.out _ _ (HSS.out _ HB1.out) (fun hHeld => ?_)
  clear hK K
  refine wpAnyH_take (i := 4) (v := ?vk4) rfl (by kernel_rfl) (by kernel_rfl) (by kernel_rfl) (fun _ _ _ h => h) (Or.inl ⟨by kernel_rfl, ?hyk4⟩) hHeld ?restk4
  case hyk4 => intro w' hSw; (try dsimp only at hSw); go_simp; try with_reducible rfl
  simp only [Act.put]
  refine wpAnyH_take (i := 5) (v := ?vk5) rfl (by kernel_rfl) (by kernel_rfl) (by kernel_rfl) (fun _ _ _ h => h) (Or.inl ⟨by kernel_rfl, ?hyk5⟩) hHeld ?restk5
  case hyk5 => intro w' hSw; (try dsimp only at hSw); go_simp; try with_reducible rfl
  simp only [Act.put]
  refine wpAnyH_take (i := 6) (v := ?vk6) rfl (by kernel_rfl) (by kernel_rfl) (by kernel_rfl) (fun _ _ _ h => h) (Or.inl ⟨by kernel_rfl, ?hyk6⟩) hHeld ?restk6
  case hyk6 => intro w' hSw; (try dsimp only at hSw); go_simp; try with_reducible rfl
  simp only [Act.put]
  refine wpAnyH_take (i := 7) (v := ?vk7) rfl (by kernel_rfl) (by kernel_rfl) (by kernel_rfl) (fun _ _ _ h => h) (Or.inl ⟨by kernel_rfl, ?hyk7⟩) hHeld ?restk7
  case hyk7 => intro w' hSw; (try dsimp only at hSw); go_simp; try with_reducible rfl
  simp only [Act.put]
  refine wpAnyH_take (i := 8) (v := ?vk8) rfl (by kernel_rfl) (by kernel_rfl) (by kernel_rfl) (fun _ _ _ h => h) (Or.inl ⟨by kernel_rfl, ?hyk8⟩) hHeld ?restk8
  case hyk8 => intro w' hSw; (try dsimp only at hSw); go_simp; try with_reducible rfl
  simp only [Act.put]
  refine wpAnyH_take (i := 9) (v := ?vk9) rfl (by kernel_rfl) (by kernel_rfl) (by kernel_rfl) (fun _ _ _ h => h) (Or.inl ⟨by kernel_rfl, ?hyk9⟩) hHeld ?restk9
  case hyk9 => intro w' hSw; (try dsimp only at hSw); go_simp; try with_reducible rfl
  simp only [Act.put]
  refine wpAnyH_take (i := 10) (v := ?vk10) rfl (by kernel_rfl) (by kernel_rfl) (by kernel_rfl) (fun _ _ _ h => h) (Or.inl ⟨by kernel_rfl, ?hyk10⟩) hHeld ?restk10
  case hyk10 => intro w' hSw; (try dsimp only at hSw); go_simp; try with_reducible rfl
  simp only [Act.put]
  refine wpAnyH_take (i := 11) (v := ?vk11) rfl (by kernel_rfl) (by kernel_rfl) (by kernel_rfl) (fun _ _ _ h => h) (Or.inl ⟨by kernel_rfl, ?hyk11⟩) hHeld ?restk11
  case hyk11 => intro w' hSw; (try dsimp only at hSw); go_simp; try with_reducible rfl
  simp only [Act.put]
  refine wpAnyH_take (i := 12) (v := ?vk12) rfl (by kernel_rfl) (by kernel_rfl) (by kernel_rfl) (fun _ _ _ h => h) (Or.inl ⟨by kernel_rfl, ?hyk12⟩) hHeld ?restk12
  case hyk12 => intro w' hSw; (try dsimp only at hSw); go_simp; try with_reducible rfl
  simp only [Act.put]
  refine wpAnyH_take (i := 13) (v := ?vk13) rfl (by kernel_rfl) (by kernel_rfl) (by kernel_rfl) (fun _ _ _ h => h) (Or.inl ⟨by kernel_rfl, ?hyk13⟩) hHeld ?restk13
  case hyk13 => intro w' hSw; (try dsimp only at hSw); go_simp; try with_reducible rfl
  simp only [Act.put]
  refine wpAnyH_take (i := 14) (v := ?vk14) rfl (by kernel_rfl) (by kernel_rfl) (by kernel_rfl) (fun _ _ _ h => h) (Or.inl ⟨by kernel_rfl, ?hyk14⟩) hHeld ?restk14
  case hyk14 => intro w' hSw; (try dsimp only at hSw); go_simp; try with_reducible rfl
  simp only [Act.put]
  refine wpAnyH_take (i := 15) (v := ?vk15) rfl (by kernel_rfl) (by kernel_rfl) (by kernel_rfl) (fun _ _ _ h => h) (Or.inl ⟨by kernel_rfl, ?hyk15⟩) hHeld ?restk15
  case hyk15 => intro w' hSw; (try dsimp only at hSw); go_simp; try with_reducible rfl
  simp only [Act.put]
  refine wpAnyH_take (i := 16) (v := ?vk16) rfl (by kernel_rfl) (by kernel_rfl) (by kernel_rfl) (fun _ _ _ h => h) (Or.inl ⟨by kernel_rfl, ?hyk16⟩) hHeld ?restk16
  case hyk16 => intro w' hSw; (try dsimp only at hSw); go_simp; try with_reducible rfl
  simp only [Act.put]
  refine wpAnyH_take (i := 17) (v := ?vk17) rfl (by kernel_rfl) (by kernel_rfl) (by kernel_rfl) (fun _ _ _ h => h) (Or.inl ⟨by kernel_rfl, ?hyk17⟩) hHeld ?restk17
  case hyk17 => intro w' hSw; (try dsimp only at hSw); go_simp; try with_reducible rfl
  simp only [Act.put]
  refine wpAnyH_take (i := 18) (v := ?vk18) rfl (by kernel_rfl) (by kernel_rfl) (by kernel_rfl) (fun _ _ _ h => h) (Or.inl ⟨by kernel_rfl, ?hyk18⟩) hHeld ?restk18
  case hyk18 => intro w' hSw; (try dsimp only at hSw); go_simp; try with_reducible rfl
  simp only [Act.put]
  refine wpAnyH_take (i := 19) (v := ?vk19) rfl (by kernel_rfl) (by kernel_rfl) (by kernel_rfl) (fun _ _ _ h => h) (Or.inl ⟨by kernel_rfl, ?hyk19⟩) hHeld ?restk19
  case hyk19 => intro w' hSw; (try dsimp only at hSw); go_simp; try with_reducible rfl
  simp only [Act.put]
  refine wpAnyH_take (i := 20) (v := ?vk20) rfl (by kernel_rfl) (by kernel_rfl) (by kernel_rfl) (fun _ _ _ h => h) (Or.inl ⟨by kernel_rfl, ?hyk20⟩) hHeld ?restk20
  case hyk20 => intro w' hSw; (try dsimp only at hSw); go_simp; try with_reducible rfl
  simp only [Act.put]
  refine wpAnyH_ready (rs := [21]) (by kernel_rfl) (by simp) ?_
  refine AllReadyH.cons rfl (fun K hK => ?_) AllReadyH.nil
  go_simp
  refine hK.out _ _ (hHeld) (fun hHeld => ?_)
  clear hK K
  refine wpAnyH_take (i := 22) (v := ?vk21) rfl (by kernel_rfl) (by kernel_rfl) (by kernel_rfl) (fun _ _ _ h => h) (Or.inl ⟨by kernel_rfl, ?hyk21⟩) hHeld ?restk21
  case hyk21 => intro w' hSw; (try dsimp only at hSw); go_simp; try with_reducible rfl
  simp only [Act.put]
  refine wpAnyH_take (i := 23) (v := ?vk22) rfl (by kernel_rfl) (by kernel_rfl) (by kernel_rfl) (fun _ _ _ h => h) (Or.inl ⟨by kernel_rfl, ?hyk22⟩) hHeld ?restk22
  case hyk22 => intro w' hSw; (try dsimp only at hSw); go_simp; try with_reducible rfl
  simp only [Act.put]
  refine wpAnyH_take (i := 24) (v := ?vk23) rfl (by kernel_rfl) (by kernel_rfl) (by kernel_rfl) (fun _ _ _ h => h) (Or.inl ⟨by kernel_rfl, ?hyk23⟩) hHeld ?restk23
  case hyk23 => intro w' hSw; (try dsimp only at hSw); go_simp; try with_reducible rfl
  simp only [Act.put]
  refine wpAnyH_take (i := 25) (v := ?vk24) rfl (by kernel_rfl) (by kernel_rfl) (by kernel_rfl) (fun _ _ _ h => h) (Or.inl ⟨by kernel_rfl, ?hyk24⟩) hHeld ?restk24
  case hyk24 => intro w' hSw; (try dsimp only at hSw); go_simp; try with_reducible rfl
  simp only [Act.put]
  refine wpAnyH_take (i := 26) (v := ?vk25) rfl (by kernel_rfl) (by kernel_rfl) (by kernel_rfl) (fun _ _ _ h => h) (Or.inl ⟨by kernel_rfl, ?hyk25⟩) hHeld ?restk25
  case hyk25 => intro w' hSw; (try dsimp only at hSw); go_simp; try with_reducible rfl
  simp only [Act.put]
  refine wpAnyH_take (i := 27) (v := ?vk26) rfl (by kernel_rfl) (by kernel_rfl) (by kernel_rfl) (fun _ _ _ h => h) (Or.inl ⟨by kernel_rfl, ?hyk26⟩) hHeld ?restk26
  case hyk26 => intro w' hSw; (try dsimp only at hSw); go_simp; try with_reducible rfl
  simp only [Act.put]
  refine wpAnyH_take (i := 28) (v := ?vk27) rfl (by kernel_rfl) (by kernel_rfl) (by kernel_rfl) (fun _ _ _ h => h) (Or.inl ⟨by kernel_rfl, ?hyk27⟩) hHeld ?restk27
  case hyk27 => intro w' hSw; (try dsimp only at hSw); go_simp; try with_reducible rfl
  simp only [Act.put]
  refine wpAnyH_take (i := 29) (v := ?vk28) rfl (by kernel_rfl) (by kernel_rfl) (by kernel_rfl) (fun _ _ _ h => h) (Or.inl ⟨by kernel_rfl, ?hyk28⟩) hHeld ?restk28
  case hyk28 => intro w' hSw; (try dsimp only at hSw); go_simp; try with_reducible rfl
  simp only [Act.put]
  refine wpAnyH_take (i := 30) (v := ?vk29) rfl (by kernel_rfl) (by kernel_rfl) (by kernel_rfl) (fun _ _ _ h => h) (Or.inl ⟨by kernel_rfl, ?hyk29⟩) hHeld ?restk29
  case hyk29 => intro w' hSw; (try dsimp only at hSw); go_simp; try with_reducible rfl
  simp only [Act.put]
  refine wpAnyH_take (i := 31) (v := ?vk30) rfl (by kernel_rfl) (by kernel_rfl) (by kernel_rfl) (fun _ _ _ h => h) (Or.inl ⟨by kernel_rfl, ?hyk30⟩) hHeld ?restk30
  case hyk30 => intro w' hSw; (try dsimp only at hSw); go_simp; try with_reducible rfl
  simp only [Act.put]
  refine wpAnyH_take (i := 32) (v := ?vk31) rfl (by kernel_rfl) (by kernel_rfl) (by kernel_rfl) (fun _ _ _ h => h) (Or.inl ⟨by kernel_rfl, ?hyk31⟩) hHeld ?restk31
  case hyk31 => intro w' hSw; (try dsimp only at hSw); go_simp; try with_reducible rfl
  simp only [Act.put]
  refine wpAnyH_take (i := 33) (v := ?vk32) rfl (by kernel_rfl) (by kernel_rfl) (by kernel_rfl) (fun _ _ _ h => h) (Or.inl ⟨by kernel_rfl, ?hyk32⟩) hHeld ?restk32
  case hyk32 => intro w' hSw; (try dsimp only at hSw); go_simp; try with_reducible rfl
  simp only [Act.put]
  refine wpAnyH_take (i := 34) (v := ?vk33) rfl (by kernel_rfl) (by kernel_rfl) (by kernel_rfl) (fun _ _ _ h => h) (Or.inl ⟨by kernel_rfl, ?hyk33⟩) hHeld ?restk33
  case hyk33 => intro w' hSw; (try dsimp only at hSw); go_simp; try with_reducible rfl
  simp only [Act.put]
  refine wpAnyH_take (i := 35) (v := ?vk34) rfl (by kernel_rfl) (by kernel_rfl) (by kernel_rfl) (fun _ _ _ h => h) (Or.inl ⟨by kernel_rfl, ?hyk34⟩) hHeld ?restk34
  case hyk34 => intro w' hSw; (try dsimp only at hSw); go_simp; try with_reducible rfl
  simp only [Act.put]
  refine wpAnyH_take (i := 36) (v := ?vk35) rfl (by kernel_rfl) (by kernel_rfl) (by kernel_rfl) (fun _ _ _ h => h) (Or.inl ⟨by kernel_rfl, ?hyk35⟩) hHeld ?restk35
  case hyk35 => intro w' hSw; (try dsimp only at hSw); go_simp; try with_reducible rfl
  simp only [Act.put]
  refine wpAnyH_take (i := 37) (v := ?vk36) rfl (by kernel_rfl) (by kernel_rfl) (by kernel_rfl) (fun _ _ _ h => h) (Or.inl ⟨by kernel_rfl, ?hyk36⟩) hHeld ?restk36
  case hyk36 => intro w' hSw; (try dsimp only at hSw); go_simp; try with_reducible rfl
  simp only [Act.put]
  refine wpAnyH_ready (rs := [38]) (by kernel_rfl) (by simp) ?_
  refine AllReadyH.cons rfl (fun K hK => ?_) AllReadyH.nil
  go_simp
  refine hK.out _ _ (hHeld) (fun hHeld => ?_)
  clear hK K
  refine wpAnyH_done (by kernel_rfl) ?_ _
  clear HSm HSS hHeld
  clear hw1 hw2
  go_wp2_with fail
  go_loopw [9] (fun x5 wr => ∃ (i : Nat), i ≤ T.length ∧ x5 = .int .i64 (i : Int) ∧ Hid (Below w0.heap.size w0 wr)) (fun x5 _ => T.length - (intOf x5).toNat)
  case atStart => exact ⟨0, Nat.zero_le _, rfl, HB1⟩
  case round =>
    obtain ⟨i, hi, rfl, HB⟩ := hrel
    generalize wr = wq at *
    have i0 := (K1.out.later HB.out).cell 0; have j0 := (K2.out.later HB.out).cell 0
    simp at i0 j0
    by_cases hlt : i < T.length
    · have hlt' : (i : Int) < T.length := by omega
      have hx : T[i]? = some (T[i]'hlt) := List.getElem?_eq_getElem hlt
      obtain ⟨b2, o2, rfl, hb2, h2⟩ := (hT.out.later (below_to HB0.out HB.out)).open (by omega)
      obtain ⟨va, vc, hcc, hvc, -, -⟩ := h2 i _ hx
      have hpl := hL.out.at hx
      have HLq := HLt0.out.later HB.out
      obtain ⟨p, hp⟩ : ∃ p, Q[i]? = some p := ⟨_, List.getElem?_eq_getElem (by have := HQL.out; omega)⟩
      have hpt : p.1 = T[i]'hlt := by
        have h1 : (Q.map (·.1))[i]? = some p.1 := by rw [List.getElem?_map, hp]; rfl
        rw [hQ.out, hx] at h1
        injection h1 with h1
        exact h1.symm
      have hp' : (Q ++ [(mqT, Value.slice none 0 0)])[i]? = some p := by rw [List.getElem?_append_left (by have := HQL.out; omega)]; exact hp
      obtain ⟨-, -, -, u3⟩ := HLq.ty.at4 hp'
      obtain ⟨g, c, hu, hcl, hpr, -, -⟩ := HLq.mks p (List.mem_of_getElem? hp)
      rw [hu] at u3
      rw [hpt] at u3 hcl hpr
      have s3 := hcc 3 (by decide)
      simp [tyc] at s3
      generalize T[i]'hlt = t at *
      obtain ⟨bp, op, e1, -, hcp⟩ := hpr.open (by simp)
      injection e1 with e1
      injection e1 with e1 e2 _
      subst e1 e2
      have m1 := hcp t.ps.length mqP (by simp) 1 (by decide)
      simp [ptc, mqP] at m1
      have hcl' : (t.ps.length : Int) + 1 ≤ c := by omega
      have hp5 : (0 : Int) ≤ (t.ps.length : Int) + 1 := by omega
      have hn0 : (t.ps.length : Int) < (t.ps.length : Int) + 1 := by omega
      have hw3 : wrap64 ((t.ps.length : Int) + 1) = (t.ps.length : Int) + 1 := w64 _ (by omega)
      clear hx h2 hcc HLq hp hpt hp' hu hpr hcp hcl hvc hp1 hp2 hp3 hp4 hc1 hc2 hc1' hc2' hg1 hg2
      go_wp2_with fail
      go_roundw
      case rel => clear hw3; exact ⟨i + 1, by omega, by go_num, HB⟩
      case measure => clear hw3; simp [intOf]; omega
    · have hlt' : ¬ (i : Int) < T.length := by omega
      have hBw := below_to HB0.out HB.out
      have l0 := (K1.out.later HB.out).cell 2; have l1 := (K1.out.later HB.out).cell 3
      simp at l0 l1
      have HNq := hide_ (hNo.out.later hBw)
      have HIq := hide_ (hIo.out.later hBw)
      obtain ⟨aN, cN, eN, hcN, -, hgN⟩ := own_grow nvc_len HNq.out
      injection eN with eN1 eN2 eN3
      subst eN1 eN3
      have hVq := hgN.take V.length
      rw [List.take_left] at hVq
      have hmN := hgN.open (by simp)
      obtain ⟨bN, oN, e1, -, hcc⟩ := hmN
      injection e1 with e1
      injection e1 with e1 e2 _
      subst e1 e2
      have m0 := hcc V.length mqN (by simp) 0 (by decide)
      simp [nvc, mqN] at m0
      obtain ⟨aI, cI, eI, hrI, -, hcI⟩ := HIq.out.row
      injection eI with eI1 eI2 eI3
      subst eI1 eI3
      have hPq := hrI.take P.length
      rw [List.take_left] at hPq
      have m1 := (iown_at2 HIq.out (i := P.length) (by simp))
      rw [getD_lastI] at m1
      rw [List.length_append, List.length_singleton] at hcN hcI
      have HEq : Hid (∀ w', Below wq.heap.size wq w' → Calls Tryd.prog 13 #[.slice (some ⟨gV, 0, none⟩) V.length cV, .slice aV V.length cv] w' fun e w2 => e = .returned (.bool true) ∧ Below w'.heap.size w' w2) := hide_ (fun w' hb => equal_yes (some ⟨gV, 0, none⟩) aV cV cv V.length V w' (hide_ rfl) (by omega) (hide_ (hVq.later hb)) (hide_ (hVr.out.later (below_to hBw hb))))
      have HSi : Hid (∀ w', Below wq.heap.size wq w' → Calls Tryd.prog 19 #[.slice (some ⟨gP, 0, none⟩) P.length cP, .slice aP P.length cp] w' fun e w2 => e = .returned (.bool true) ∧ Below w'.heap.size w' w2) := hide_ (fun w' hb => sameInts_yes (some ⟨gP, 0, none⟩) aP cP cp P.length P w' (hide_ rfl) (by omega) (hide_ (hPq.later hb)) (hide_ (hPr.out.later (below_to hBw hb))))
      have HCc : Hid (∀ w', Below wq.heap.size wq w' → w'.cell? ⟨w.heap.size, 2, none⟩ = some (.slice (some ⟨gV, 0, none⟩) V.length cV) ∧ w'.cell? ⟨w.heap.size, 3, none⟩ = some (.slice (some ⟨gP, 0, none⟩) P.length cP) ∧ w'.cell? ⟨gV, V.length * 3, none⟩ = some (.int .i64 23130) ∧ w'.cell? ⟨gP, P.length, none⟩ = some (.int .i64 23130)) := hide_ (fun w' hb => ⟨(hb.cell (World.block_lt_of_cell? wq _ l0)).trans l0, (hb.cell (World.block_lt_of_cell? wq _ l1)).trans l1, (hb.cell (World.block_lt_of_cell? wq _ m0)).trans m0, (hb.cell (World.block_lt_of_cell? wq _ m1)).trans m1⟩)
      have hv1 : (V.length : Int) + 1 ≤ cV := by omega
      have hv2 : (0 : Int) ≤ (V.length : Int) + 1 := by omega
      have hv3 : (V.length : Int) < (V.length : Int) + 1 := by omega
      have hv4 : wrap64 ((V.length : Int) + 1) = (V.length : Int) + 1 := w64 _ (by omega)
      have hv5 : (P.length : Int) + 1 ≤ cP := by omega
      have hv6 : (0 : Int) ≤ (P.length : Int) + 1 := by omega
      have hv7 : (P.length : Int) < (P.length : Int) + 1 := by omega
      have hv8 : wrap64 ((P.length : Int) + 1) = (P.length : Int) + 1 := w64 _ (by omega)
      clear eN2 eI2 hgN hVq hcc hrI hPq m0 m1 hcN hcI HNq HIq hBw l1 hp1 hp2 hp3 hp4 hc1 hc2 hc1' hc2' hg1 hg2
      go_wp2_with fail
      refine (HEq.out _ (Below.refl _ _)).mono ?_
      rintro e w5 ⟨rfl, hB5⟩
      have HB5 := hide_ hB5
      obtain ⟨q0, q1, q2, q3⟩ := HCc.out w5 hB5
      clear hB5 l0
      go_wp2_with fail
      refine (HSi.out w5 HB5.out).mono ?_
      rintro e w6 ⟨rfl, hB6⟩
      have HB6 := hide_ (below_to HB5.out hB6)
      clear q0 q1 q2 q3 hB6
      obtain ⟨q0, q1, q2, q3⟩ := HCc.out w6 HB6.out
      have HBf := hide_ (below_to HB0.out (below_to HB.out HB6.out))
      go_wp2
      go_ret
      exact ⟨rfl, HBf.out⟩
end Go.Proofs.YtomfidjmbjpceaaDoor
