/- Code: Check. -/
import Derived.Test.YteadmiikenpjeaaDoorCde
namespace Go.Proofs.YteadmiikenpjeaaDoor
open Go.RowKit
set_option linter.unusedVariables false

theorem retFt {fn : Func} {p : Tmp} (h : fn.results = #[.cell p 33]) {R : Ending → World → Prop} {tmps : Array Value} {g : Nat} {w : World} {x y : Value} (hp : tmps.getD p undef = .pointer (some ⟨g, 0, none⟩)) (hK : Blk w g 33 [x, y]) (hR : R (.returned (.agg #[x, y])) w) :
    bodyPost Tryd.prog fn R Exit.ret ⟨tmps, []⟩ w :=
  bodyPost_ret (results_cell_row h _ _ _ _ #[x, y] _ _ hp (show w.heap[g]? = some (.cells #[x, y] 33 (0, 0)) from hK) Tryd.underlying33 rfl (by show _ = some 2; kernel_rfl)) rfl hR
theorem chk_long {enc : Bool} {C : List In} {E : List Int} (h : 1048576 < C.length ∨ 1048576 < E.length) : chk enc C E = (4, 0) := by unfold chk; rw [if_pos h]
theorem chk_op {enc : Bool} {C : List In} {E : List Int} {i : Nat} (h : ¬ (1048576 < C.length ∨ 1048576 < E.length)) (hi : i < C.length) (h0 : frm enc C E.length i = false) (h1 : ∀ j, j < i → frm enc C E.length j = true) : chk enc C E = (140, (i : Int)) := by
  unfold chk; rw [if_neg h, fst0_some hi h0 h1]
theorem chk_place {enc : Bool} {C : List In} {E : List Int} {i : Nat} (h : ¬ (1048576 < C.length ∨ 1048576 < E.length)) (hf : ∀ j, j < C.length → frm enc C E.length j = true) (hi : i < E.length) (h0 : entOk C.length E i = false) (h1 : ∀ j, j < i → entOk C.length E j = true) : chk enc C E = (3, (i : Int)) := by
  unfold chk; rw [if_neg h, fst0_none.2 hf, fst0_some hi h0 h1]
theorem chk_yes {enc : Bool} {C : List In} {E : List Int} (h : ¬ (1048576 < C.length ∨ 1048576 < E.length)) (hf : ∀ j, j < C.length → frm enc C E.length j = true) (h1 : ∀ j, j < E.length → entOk C.length E j = true) : chk enc C E = (0, 0) := by
  unfold chk; rw [if_neg h, fst0_none.2 hf, fst0_none.2 h1]
theorem chk_zero {enc : Bool} {C : List In} {E : List Int} (h1 : (chk enc C E).1 = 0) : chk enc C E = (0, 0) := by
  by_cases h : chk enc C E = (0, 0)
  · exact h
  · exfalso
    unfold chk at h h1
    split at h1
    · cases h1
    · rename_i hl
      rw [if_neg hl] at h
      cases e1 : fst0 (frm enc C E.length) C.length with
      | some i => rw [e1] at h1; cases h1
      | none =>
        rw [e1] at h1 h
        cases e2 : fst0 (entOk C.length E) E.length with
        | some i => rw [e2] at h1; cases h1
        | none => rw [e2] at h; exact h rfl
theorem wr2f {w : World} {g : Nat} {x y : Value} (h : Blk w g 33 [x, y]) (u v : Value) : Blk ((w.setCell ⟨g, 0, none⟩ u).setCell ⟨g, 1, none⟩ v) g 33 [u, v] := by
  have := (h.set 0 u).set 1 v
  simpa using this
set_option maxRecDepth 100000 in
set_option maxHeartbeats 4000000 in
theorem check_any (enc : Bool) (ac ae : Option Addr) (cc ce : Nat) (C : List In) (E : List Int) (w : World) (hcc : C.length ≤ cc) (hcl : cc ≤ 9223372036854775807) (hCl : C.length ≤ 140737488355328) (hce : E.length ≤ ce) (hel : E.length ≤ 140737488355328) (hr : Hid (IRow w ac C)) (he : Hid (Row .i64 w ae E)) :
    Calls Tryd.prog 12 #[.agg #[.bool enc, .slice ac C.length cc, .slice ae E.length ce]] w fun e w' => e = .returned (.agg #[.int .i64 (chk enc C E).1, .int .i64 (chk enc C E).2]) ∧ Below w.heap.size w w' := by
  obtain ⟨w1, hw1⟩ : ∃ wx, wx = (w.alloc (.cells #[.bool enc, .slice ac C.length cc, .slice ae E.length ce] 25)).alloc (.cells #[.int .i64 0, .int .i64 0] 33) := ⟨_, rfl⟩
  have hB1 : Below w.heap.size w w1 := by rw [hw1]; exact below2 _ _ _
  obtain ⟨kp, kf⟩ := blk2 w #[.bool enc, .slice ac C.length cc, .slice ae E.length ce] #[.int .i64 0, .int .i64 0] 25 33
  rw [← hw1] at kp kf
  have KP := hide_ kp
  have KF := hide_ kf
  have HB1 := hide_ hB1
  have p0 := kp.cell 0; have p1 := kp.cell 1; have p2 := kp.cell 2
  have fz := fun i => kf.frozen i
  have f0 := kf.cell 0; have f1 := kf.cell 1
  simp at p0 p1 p2 f0 f1
  have Hgs : Hid (w.heap.size ≤ w.heap.size + 1) := hide_ (by omega)
  clear hB1 kp kf
  by_cases hlc : 1048576 < C.length
  · have HR := hide_ (chk_long (enc := enc) (C := C) (E := E) (.inl hlc))
    have hlc' : (1048576 : Int) < C.length := by omega
    go_enter Tryd.func12, Tryd.ntmps12
    go_upto_region 1 with fail
    rw [← hw1]
    clear hw1
    go_wp2
    refine retFt rfl rfl (wr2f KF.out _ _) ?_
    exact ⟨by rw [HR.out], below_set (below_set HB1.out _ _ _ Hgs.out) _ _ _ Hgs.out⟩
  have hlc' : ¬ (1048576 : Int) < C.length := by omega
  by_cases hle : 1048576 < E.length
  · have HR := hide_ (chk_long (enc := enc) (C := C) (E := E) (.inr hle))
    have hle' : (1048576 : Int) < E.length := by omega
    go_enter Tryd.func12, Tryd.ntmps12
    go_upto_region 1 with fail
    rw [← hw1]
    clear hw1
    go_wp2
    refine retFt rfl rfl (wr2f KF.out _ _) ?_
    exact ⟨by rw [HR.out], below_set (below_set HB1.out _ _ _ Hgs.out) _ _ _ Hgs.out⟩
  have hle' : ¬ (1048576 : Int) < E.length := by omega
  have HLn : Hid (¬ (1048576 < C.length ∨ 1048576 < E.length)) := hide_ (by omega)
  go_enter Tryd.func12, Tryd.ntmps12
  go_upto_region 1 with fail
  rw [← hw1]
  clear hw1
  go_wp2_with fail
  clear p0 p1 p2 f0 f1 fz
  go_loopw [20] (fun x20 wr => ∃ j : Nat, j ≤ C.length ∧ x20 = .int .i64 (j : Int) ∧ Hid (∀ i, i < j → frm enc C E.length i = true) ∧ Hid (Below w1.heap.size w1 wr)) (fun x20 _ => C.length - (intOf x20).toNat)
  case atStart => exact ⟨0, Nat.zero_le _, rfl, hide_ (fun i hi => by omega), hide_ (Below.refl _ _)⟩
  case round =>
    obtain ⟨j, hj, rfl, HA, HB⟩ := hrel
    generalize wr = wq at *
    have KPq := hide_ (KP.out.later HB.out)
    have KFq := hide_ (KF.out.later HB.out)
    have HBq := hide_ (below_to HB1.out HB.out)
    have p0 := KPq.out.cell 0; have p1 := KPq.out.cell 1; have p2 := KPq.out.cell 2
    simp at p0 p1 p2
    by_cases hlt : j < C.length
    · have hlt' : (j : Int) < C.length := by omega
      obtain ⟨r, hrr⟩ : ∃ r, frm enc C E.length j = r := ⟨_, rfl⟩
      have HF := hasForm_any enc ac ae cc E.length ce C j wq hlt hcc hcl hCl (by omega) (hide_ (hr.out.later HBq.out))
      rw [hrr] at HF
      have HFo := hide_ HF
      have HRr := hide_ hrr
      clear HF hrr
      cases r with
      | true =>
        have HA2 : Hid (∀ i, i < j + 1 → frm enc C E.length i = true) := hide_ (fun i hi => by
          rcases Nat.lt_or_ge i j with h | h
          · exact HA.out i h
          · obtain rfl : i = j := by omega
            exact HRr.out)
        go_wp2_with (go_at_call 37; refine HFo.out.mono ?_; rintro e w' ⟨rfl, hB2⟩; (have HB2 := hide_ (below_to HB.out hB2)); clear hB2)
        go_roundw
        case rel => exact ⟨j + 1, by omega, by go_num, HA2, HB2⟩
        case measure => simp [intOf]; omega
      | false =>
        have HR : Hid (chk enc C E = (140, (j : Int))) := hide_ (chk_op HLn.out hlt HRr.out HA.out)
        go_upto_region 7 with (go_at_call 37; refine HFo.out.mono ?_; rintro e w' ⟨rfl, hB2⟩)
        have HB2 := hide_ (below_to HBq.out hB2)
        have KF2 := hide_ (KFq.out.later hB2)
        have fz := fun i => KF2.out.frozen i
        have f0 := KF2.out.cell 0; have f1 := KF2.out.cell 1
        simp at f0 f1
        clear hB2
        go_wp2
        refine retFt rfl rfl (wr2f KF2.out _ _) ?_
        exact ⟨by rw [HR.out], below_set (below_set HB2.out _ _ _ Hgs.out) _ _ _ Hgs.out⟩
    · obtain rfl : j = C.length := by omega
      have HRow := hide_ (he.out.later HBq.out)
      generalize hwz : wq = wz at *
      clear hwz
      go_wp2_with fail
      clear p0 p1 p2
      go_loopw [33] (fun x33 wr => ∃ j : Nat, j ≤ E.length ∧ x33 = .int .i64 (j : Int) ∧ Hid (∀ i, i < j → entOk C.length E i = true) ∧ Hid (Below wz.heap.size wz wr)) (fun x33 _ => E.length - (intOf x33).toNat)
      case atStart => exact ⟨0, Nat.zero_le _, rfl, hide_ (fun i hi => by omega), hide_ (Below.refl _ _)⟩
      case round =>
        obtain ⟨j, hj, rfl, HA3, HB3⟩ := hrel
        generalize wr = wy at *
        have KPy := hide_ (KPq.out.later HB3.out)
        have KFy := hide_ (KFq.out.later HB3.out)
        have HBy := hide_ (below_to HBq.out HB3.out)
        have p0 := KPy.out.cell 0; have p1 := KPy.out.cell 1; have p2 := KPy.out.cell 2
        simp at p0 p1 p2
        by_cases hlt : j < E.length
        · have hlt' : (j : Int) < E.length := by omega
          obtain ⟨b, off, rfl, hb, hcs⟩ := (HRow.out.later HB3.out).open (by omega)
          have hc := hcs j hlt
          obtain ⟨r, hrr⟩ : ∃ r, entOk C.length E j = r := ⟨_, rfl⟩
          have HF := allows_any enc ac (some ⟨b, off, none⟩) C.length cc E.length ce 15 (E.getD j 0) wy (by omega) (by omega)
          rw [alw15 _ _ 0, show alw C.length 0 15 (E.getD j 0) = r from hrr] at HF
          have HFo := hide_ HF
          have HRr := hide_ hrr
          generalize E.getD j 0 = v at *
          clear HF hrr hcs
          cases r with
          | true =>
            have HA2 : Hid (∀ i, i < j + 1 → entOk C.length E i = true) := hide_ (fun i hi => by
              rcases Nat.lt_or_ge i j with h | h
              · exact HA3.out i h
              · obtain rfl : i = j := by omega
                exact HRr.out)
            go_wp2_with (go_at_call 38; refine HFo.out.mono ?_; rintro e w' ⟨rfl, hB2⟩; (have HB2 := hide_ (below_to HB3.out hB2)); clear hB2)
            go_roundw
            case rel => exact ⟨j + 1, by omega, by go_num, HA2, HB2⟩
            case measure => simp [intOf]; omega
          | false =>
            have HR : Hid (chk enc C E = (3, (j : Int))) := hide_ (chk_place HLn.out HA.out hlt HRr.out HA3.out)
            go_upto_region 13 with (go_at_call 38; refine HFo.out.mono ?_; rintro e w' ⟨rfl, hB2⟩)
            have HB2 := hide_ (below_to HBy.out hB2)
            have KF2 := hide_ (KFy.out.later hB2)
            have fz := fun i => KF2.out.frozen i
            have f0 := KF2.out.cell 0; have f1 := KF2.out.cell 1
            simp at f0 f1
            clear hB2
            go_wp2
            refine retFt rfl rfl (wr2f KF2.out _ _) ?_
            exact ⟨by rw [HR.out], below_set (below_set HB2.out _ _ _ Hgs.out) _ _ _ Hgs.out⟩
        · obtain rfl : j = E.length := by omega
          have HR : Hid (chk enc C E = (0, 0)) := hide_ (chk_yes HLn.out HA.out HA3.out)
          have fz := fun i => KFy.out.frozen i
          have f0 := KFy.out.cell 0; have f1 := KFy.out.cell 1
          simp at f0 f1
          go_wp2
          refine retFt rfl rfl (wr2f KFy.out _ _) ?_
          exact ⟨by rw [HR.out], below_set (below_set HBy.out _ _ _ Hgs.out) _ _ _ Hgs.out⟩
end Go.Proofs.YteadmiikenpjeaaDoor
