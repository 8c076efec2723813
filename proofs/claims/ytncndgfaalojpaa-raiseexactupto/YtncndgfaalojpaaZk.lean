/- size: withOffset, choice. -/
import Derived.Test.YtncndgfaalojpaaZj
namespace Go.Proofs.Ytncndgfaalojpaa
open Go.RowKit
set_option linter.unusedVariables false

theorem retX {fn : Func} {p : Tmp} (h : fn.results = #[.cell p 63]) {R : Ending → World → Prop} {tmps : Array Value} {g : Nat} {w : World} {x : Ex} (hp : tmps.getD p undef = .pointer (some ⟨g, 0, none⟩)) (hK : Blk w g 63 (exc x)) (hR : R (.returned (exv x)) w) :
    bodyPost Try.prog fn R Exit.ret ⟨tmps, []⟩ w :=
  bodyPost_ret (results_cell_row h _ _ _ _ (exc x).toArray _ _ hp hK Try.underlying63 rfl (by show _ = some 4; kernel_rfl)) rfl hR
theorem wr4 {w : World} {g : Nat} {t : TypeId} {x0 x1 x2 x3 : Value} (h : Blk w g t [x0, x1, x2, x3]) (y0 y1 y2 y3 : Value) :
    Blk ((((w.setCell ⟨g, 0, none⟩ y0).setCell ⟨g, 1, none⟩ y1).setCell ⟨g, 2, none⟩ y2).setCell ⟨g, 3, none⟩ y3) g t [y0, y1, y2, y3] := by
  have := (((h.set 0 y0).set 1 y1).set 2 y2).set 3 y3
  simpa using this
theorem below_wr4 {B : Nat} {w w' : World} (h : Below B w w') (b : Nat) (hb : B ≤ b) (y0 y1 y2 y3 : Value) : Below B w ((((w'.setCell ⟨b, 0, none⟩ y0).setCell ⟨b, 1, none⟩ y1).setCell ⟨b, 2, none⟩ y2).setCell ⟨b, 3, none⟩ y3) :=
  below_set (below_set (below_set (below_set h _ _ _ hb) _ _ _ hb) _ _ _ hb) _ _ _ hb
set_option maxRecDepth 100000 in
set_option maxHeartbeats 4000000 in
theorem withOffset_any (x : Ex) (w : World) : Calls Try.prog 45 #[.agg #[.bool x.f, .int .i64 x.l, .int .i64 x.m, .int .i64 x.d]] w fun e w' => e = .returned (exv (offX x)) ∧ Below w.heap.size w w' := by
  obtain ⟨xf, xl, xm, xd⟩ := x
  simp only
  have hB := below2 w (.cells #[.bool xf, .int .i64 xl, .int .i64 xm, .int .i64 xd] 63) (.cells #[.bool false, .int .i64 0, .int .i64 0, .int .i64 0] 63)
  obtain ⟨k1, k2⟩ := blk2 w #[.bool xf, .int .i64 xl, .int .i64 xm, .int .i64 xd] #[.bool false, .int .i64 0, .int .i64 0, .int .i64 0] 63 63
  obtain ⟨w0, hw0⟩ : ∃ wx, wx = (w.alloc (.cells #[.bool xf, .int .i64 xl, .int .i64 xm, .int .i64 xd] 63)).alloc (.cells #[.bool false, .int .i64 0, .int .i64 0, .int .i64 0] 63) := ⟨_, rfl⟩
  rw [← hw0] at hB k1 k2
  have HB := hide_ hB
  have K1 := hide_ k1
  have K2 := hide_ k2
  have i0 := k1.cell 0; have i1 := k1.cell 1; have i2 := k1.cell 2; have i3 := k1.cell 3
  have j0 := k2.cell 0; have j1 := k2.cell 1; have j2 := k2.cell 2; have j3 := k2.cell 3
  simp at i0 i1 i2 i3 j0 j1 j2 j3
  have f1 := fun i => k1.frozen i
  have f2 := fun i => k2.frozen i
  have hs1 : w.heap.size < w0.heap.size := k1.lt
  have hs2 : w.heap.size + 1 < w0.heap.size := k2.lt
  clear hB k1 k2
  go_enter Try.func45, Try.ntmps45
  go_upto_region 1 with fail
  rw [← hw0]
  clear hw0
  cases xf with
  | true =>
    have HV : Hid (offX ⟨true, xl, xm, xd⟩ = ⟨true, xl, xm, xd⟩) := hide_ rfl
    have HK := hide_ (wr4 K2.out (.bool true) (.int .i64 xl) (.int .i64 xm) (.int .i64 xd))
    have HBf := hide_ (below_wr4 HB.out (w.heap.size + 1) (by omega) (.bool true) (.int .i64 xl) (.int .i64 xm) (.int .i64 xd))
    go_wp2
    refine retX (x := ⟨true, xl, xm, xd⟩) rfl rfl HK.out ⟨by rw [HV.out], HBf.out⟩
  | false =>
    obtain ⟨pl, hpl⟩ : ∃ pl, plus2 4 xl = pl := ⟨_, rfl⟩
    obtain ⟨pm, hpm⟩ : ∃ pm, plus2 4 xm = pm := ⟨_, rfl⟩
    have HV : Hid (offX ⟨false, xl, xm, xd⟩ = ⟨false, pl, pm, xd⟩) := hide_ (by unfold offX; simp only [Bool.false_eq_true, if_false]; rw [hpl, hpm])
    have HP1 : Hid (∀ (w : World) (g : Nat), Hid (Blk w g 3 [.int .i64 4, .int .i64 xl]) → Calls Try.prog 48 #[.slice (some ⟨g, 0, none⟩) 2 2] w fun e w' => e = .returned (.int .i64 pl) ∧ w = w') := hide_ (fun w g h => by have := plusB_any 4 xl w 3 g h; rwa [hpl] at this)
    have HP2 : Hid (∀ (w : World) (g : Nat), Hid (Blk w g 3 [.int .i64 4, .int .i64 xm]) → Calls Try.prog 48 #[.slice (some ⟨g, 0, none⟩) 2 2] w fun e w' => e = .returned (.int .i64 pm) ∧ w = w') := hide_ (fun w g h => by have := plusB_any 4 xm w 3 g h; rwa [hpm] at this)
    clear hpl hpm
    go_upto_region 2 with fail
    go_cut [] from 5 to 15 (fun wc => ∃ w1, w1 = wc ∧ Hid (Blk w1 w.heap.size 63 [.bool false, .int .i64 pl, .int .i64 pm, .int .i64 xd]) ∧ Hid (Blk w1 (w.heap.size + 1) 63 [.bool false, .int .i64 0, .int .i64 0, .int .i64 0]) ∧ Hid (Below w.heap.size w w1))
    case first =>
      have HL : Hid (∀ A B : Obj, ∀ v1 v2 : Value × Nat, (v1 = (.int .i64 pl, 1) ∧ v2 = (.int .i64 pm, 2)) ∨ (v2 = (.int .i64 pl, 1) ∧ v1 = (.int .i64 pm, 2)) → (Hid (Blk ((((w0.setCell ⟨w.heap.size, v1.2, none⟩ v1.1).setCell ⟨w.heap.size, v2.2, none⟩ v2.1).alloc A).alloc B).drew w.heap.size 63 [.bool false, .int .i64 pl, .int .i64 pm, .int .i64 xd]) ∧ Hid (Blk ((((w0.setCell ⟨w.heap.size, v1.2, none⟩ v1.1).setCell ⟨w.heap.size, v2.2, none⟩ v2.1).alloc A).alloc B).drew (w.heap.size + 1) 63 [.bool false, .int .i64 0, .int .i64 0, .int .i64 0]) ∧ Hid (Below w.heap.size w ((((w0.setCell ⟨w.heap.size, v1.2, none⟩ v1.1).setCell ⟨w.heap.size, v2.2, none⟩ v2.1).alloc A).alloc B).drew))) := hide_ (fun A B v1 v2 hv => by
        refine ⟨hide_ (Blk.drew (Blk.alloc (Blk.alloc ?_ _) _)), hide_ (Blk.drew (Blk.alloc (Blk.alloc ?_ _) _)), hide_ (Below.drew (((below_set (below_set HB.out _ _ _ (Nat.le_refl _)) _ _ _ (Nat.le_refl _)).alloc (by simp [World.size_setCell]; omega) A).alloc (by simp [World.size_setCell]; omega) B))⟩
        · rcases hv with ⟨rfl, rfl⟩ | ⟨rfl, rfl⟩
          · have h := ((K1.out.set 1 (.int .i64 pl)).set 2 (.int .i64 pm))
            simpa using h
          · have h := ((K1.out.set 2 (.int .i64 pm)).set 1 (.int .i64 pl))
            simpa using h
        · exact (K2.out.other _ _ (by show w.heap.size + 1 ≠ w.heap.size; omega)).other _ _ (by show w.heap.size + 1 ≠ w.heap.size; omega))
      go_wp2_with fail
      go_region_with (first
        | (go_at_call 48; first
            | (refine (HP1.out _ _ (hide_ (by first | exact Blk.newA _ _ _ | exact (blk2 _ _ _ _ _).1 | exact (blk2 _ _ _ _ _).2))).mono ?_; rintro e w' ⟨rfl, rfl⟩)
            | (refine (HP2.out _ _ (hide_ (by first | exact Blk.newA _ _ _ | exact (blk2 _ _ _ _ _).1 | exact (blk2 _ _ _ _ _).2))).mono ?_; rintro e w' ⟨rfl, rfl⟩)))
      all_goals
        go_wp2
        go_meet
        case rel => exact ⟨_, rfl, by first | exact HL.out _ _ (.int .i64 pl, 1) (.int .i64 pm, 2) (.inl ⟨rfl, rfl⟩) | exact HL.out _ _ (.int .i64 pm, 2) (.int .i64 pl, 1) (.inr ⟨rfl, rfl⟩)⟩
    case rest =>
      obtain ⟨w1, rfl, HK1, HK2, HB1⟩ := hcut
      clear i0 i1 i2 i3 j0 j1 j2 j3 f1 f2 K1 K2 HB HP1 HP2
      have i0 := HK1.out.cell 0; have i1 := HK1.out.cell 1; have i2 := HK1.out.cell 2; have i3 := HK1.out.cell 3
      have j0 := HK2.out.cell 0; have j1 := HK2.out.cell 1; have j2 := HK2.out.cell 2; have j3 := HK2.out.cell 3
      simp at i0 i1 i2 i3 j0 j1 j2 j3
      have f1 := fun i => HK1.out.frozen i
      have f2 := fun i => HK2.out.frozen i
      have HK := hide_ (wr4 HK2.out (.bool false) (.int .i64 pl) (.int .i64 pm) (.int .i64 xd))
      have HBf := hide_ (below_wr4 HB1.out (w.heap.size + 1) (by omega) (.bool false) (.int .i64 pl) (.int .i64 pm) (.int .i64 xd))
      go_wp2
      refine retX (x := ⟨false, pl, pm, xd⟩) rfl rfl HK.out ⟨by rw [HV.out], HBf.out⟩
end Go.Proofs.Ytncndgfaalojpaa
