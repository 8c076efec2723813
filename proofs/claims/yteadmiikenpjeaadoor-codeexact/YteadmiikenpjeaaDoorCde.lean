/- Code: hasForm, Check. -/
import Derived.Test.YteadmiikenpjeaaDoorCdp
namespace Go.Proofs.YteadmiikenpjeaaDoor
open Go.RowKit
set_option linter.unusedVariables false

theorem frm_at {enc : Bool} {C : List In} {ne i : Nat} {x : In} (h : C[i]? = some x) : frm enc C ne i = (frmX enc C.length ne x && agr x (C.drop (i + 1))) := by unfold frm; rw [h]
theorem frmX_of {enc : Bool} {nc ne : Int} {x : In} (h0 : isOf x.op enc = true) (h : ∀ j, j < 3 → alw nc ne (kat (kin x.op) j) (oat x j) = true) : frmX enc nc ne x = true := by
  have a := h 0 (by omega); have b := h 1 (by omega); have c := h 2 (by omega)
  simp only [kat, oat] at a b c
  unfold frmX
  rw [h0, a, b, c]
  rfl
theorem frmX_not {enc : Bool} {nc ne : Int} {x : In} {j : Nat} (hj : j < 3) (h : alw nc ne (kat (kin x.op) j) (oat x j) = false) : frmX enc nc ne x = false := by
  unfold frmX
  have : j = 0 ∨ j = 1 ∨ j = 2 := by omega
  rcases this with rfl | rfl | rfl
  all_goals
    simp only [kat, oat] at h
    rw [h]
    simp
theorem ix3_0 (x y z : Value) (w : World) : (Instr.index 79 (.agg #[x, y, z]) (.int .i64 0)).run Tryd.prog w = .ok x w := by kernel_rfl
theorem ix3_1 (x y z : Value) (w : World) : (Instr.index 79 (.agg #[x, y, z]) (.int .i64 1)).run Tryd.prog w = .ok y w := by kernel_rfl
theorem ix3_2 (x y z : Value) (w : World) : (Instr.index 79 (.agg #[x, y, z]) (.int .i64 2)).run Tryd.prog w = .ok z w := by kernel_rfl
set_option maxRecDepth 100000 in
set_option maxHeartbeats 4000000 in
theorem hasForm_any (enc : Bool) (ac ae : Option Addr) (cc ne ce : Nat) (C : List In) (i : Nat) (w : World) (hi : i < C.length) (hcc : C.length ≤ cc) (hcl : cc ≤ 9223372036854775807) (hCl : C.length ≤ 140737488355328) (hne : ne ≤ 140737488355328) (hr : Hid (IRow w ac C)) :
    Calls Tryd.prog 37 #[.agg #[.bool enc, .slice ac C.length cc, .slice ae ne ce], .int .i64 (i : Int)] w fun e w' => e = .returned (.bool (frm enc C ne i)) ∧ Below w.heap.size w w' := by
  obtain ⟨b, off, rfl, hb, -⟩ := hr.out.open (by omega)
  have hx : C[i]? = some (C[i]'hi) := List.getElem?_eq_getElem hi
  obtain ⟨i0, i1, i2, i3⟩ := hr.out.at hx
  have HFr := hide_ (frm_at (enc := enc) (ne := ne) hx)
  have HDr : Hid (C.drop i = C[i]'hi :: C.drop (i + 1)) := hide_ (List.drop_eq_getElem_cons hi)
  generalize C[i]'hi = x at *
  have hii : (i : Int) < C.length := by omega
  obtain ⟨w1, hw1⟩ : ∃ wx, wx = (w.alloc (.cells #[.bool enc, .slice (some ⟨b, off, none⟩) C.length cc, .slice ae ne ce] 25)).alloc (.cells #[.int .i64 x.op, .int .i64 x.a, .int .i64 x.b, .int .i64 x.c] 41) := ⟨_, rfl⟩
  have hB1 : Below w.heap.size w w1 := by rw [hw1]; exact below2 _ _ _
  obtain ⟨kp, ki⟩ := blk2 w #[.bool enc, .slice (some ⟨b, off, none⟩) C.length cc, .slice ae ne ce] #[.int .i64 x.op, .int .i64 x.a, .int .i64 x.b, .int .i64 x.c] 25 41
  rw [← hw1] at kp ki
  have KP := hide_ kp
  have KI := hide_ ki
  have HB1 := hide_ hB1
  have p0 := kp.cell 0; have p1 := kp.cell 1; have p2 := kp.cell 2
  have q0 := ki.cell 0; have q1 := ki.cell 1; have q2 := ki.cell 2; have q3 := ki.cell 3
  simp at p0 p1 p2 q0 q1 q2 q3
  have c0 : (w.alloc (.cells #[.bool enc, .slice (some ⟨b, off, none⟩) C.length cc, .slice ae ne ce] 25)).cell? ⟨b, off + i * 4, none⟩ = some (.int .i64 x.op) := by rw [cell_al _ _ _ _ hb]; exact i0
  have c1 : (w.alloc (.cells #[.bool enc, .slice (some ⟨b, off, none⟩) C.length cc, .slice ae ne ce] 25)).cell? ⟨b, off + i * 4 + 1, none⟩ = some (.int .i64 x.a) := by rw [cell_al _ _ _ _ hb]; exact i1
  have c2 : (w.alloc (.cells #[.bool enc, .slice (some ⟨b, off, none⟩) C.length cc, .slice ae ne ce] 25)).cell? ⟨b, off + i * 4 + 2, none⟩ = some (.int .i64 x.b) := by rw [cell_al _ _ _ _ hb]; exact i2
  have c3 : (w.alloc (.cells #[.bool enc, .slice (some ⟨b, off, none⟩) C.length cc, .slice ae ne ce] 25)).cell? ⟨b, off + i * 4 + 3, none⟩ = some (.int .i64 x.c) := by rw [cell_al _ _ _ _ hb]; exact i3
  have HIs := hide_ (isOf_any x.op enc w1)
  obtain ⟨o, ho⟩ : ∃ o, isOf x.op enc = o := ⟨_, rfl⟩
  rw [ho] at HIs
  have HO := hide_ ho
  clear i0 i1 i2 i3 kp ki hB1 ho
  go_enter Tryd.func37, Tryd.ntmps37
  go_upto_region 2 with fail
  rw [← hw1]
  clear hw1 c0 c1 c2 c3
  cases o with
  | false =>
    have HR : Hid (frm enc C ne i = false) := hide_ (by rw [HFr.out]; unfold frmX; rw [HO.out]; rfl)
    go_wp2_with (go_at_call 61; refine HIs.out.mono ?_; rintro e w' ⟨rfl, rfl⟩)
    go_ret
    exact ⟨by rw [HR.out]; rfl, HB1.out⟩
  | true =>
    go_upto_region 4 with (go_at_call 61; refine HIs.out.mono ?_; rintro e w' ⟨rfl, rfl⟩)
    have HKi := hide_ (kinds_any x.op w1)
    have HYes := hide_ (fun h => frmX_of (nc := C.length) (ne := ne) HO.out h)
    have HNo := hide_ (fun j hj h => frmX_not (enc := enc) (nc := C.length) (ne := ne) (x := x) (j := j) hj h)
    generalize hkk : kin x.op = kk at *
    obtain ⟨k0, k1, k2⟩ := kk
    unfold kv at HKi
    simp only at HKi
    clear hkk HO HIs
    go_wp2_with fail
    refine HKi.out.mono ?_
    rintro e w2 ⟨rfl, hB2⟩
    obtain ⟨w3, hw3⟩ : ∃ wx, wx = w2.alloc (.cells #[.int .i64 k0, .int .i64 k1, .int .i64 k2] 80) := ⟨_, rfl⟩
    have hB3 : Below w2.heap.size w2 w3 := by rw [hw3]; exact below1 _ _
    have K3 : Hid (Blk w3 w2.heap.size 80 [.int .i64 k0, .int .i64 k1, .int .i64 k2]) := hide_ (by rw [hw3]; exact Blk.newA w2 _ _)
    have hB13 := below_to hB2 hB3
    have KP3 := hide_ (KP.out.later hB13)
    have KI3 := hide_ (KI.out.later hB13)
    have HB3 := hide_ (below_to HB1.out hB13)
    have HOp := hide_ (operands_any x w3)
    clear q0 q1 q2 q3 p0 p1 p2
    have q0 := KI3.out.cell 0; have q1 := KI3.out.cell 1; have q2 := KI3.out.cell 2; have q3 := KI3.out.cell 3
    simp at q0 q1 q2 q3
    clear hB2 hB3 hB13 HKi
    go_upto_region 5 with fail
    rw [← hw3]
    clear hw3
    go_wp2_with fail
    refine HOp.out.mono ?_
    rintro e w4 ⟨rfl, hB4⟩
    have K4 := hide_ (K3.out.later hB4)
    have KP4 := hide_ (KP3.out.later hB4)
    have HB4 := hide_ (below_to HB3.out hB4)
    have HAl := hide_ (fun k n w' => allows_any enc (some ⟨b, off, none⟩) ae C.length cc ne ce k n w' (by omega) hne)
    generalize hg2 : w2.heap.size = g2 at *
    clear hB4 q0 q1 q2 q3 HOp K3 KP3 KI3 HB3 HB1 KI KP hg2
    go_wp2_with fail
    go_loopw [25] (fun x25 wr => ∃ j : Nat, j ≤ 3 ∧ x25 = .int .i64 (j : Int) ∧ Hid (∀ i, i < j → alw C.length ne (kat (k0, k1, k2) i) (oat x i) = true) ∧ Hid (Below w4.heap.size w4 wr)) (fun x25 _ => 3 - (intOf x25).toNat)
    case atStart => exact ⟨0, by omega, rfl, hide_ (fun i hi => by omega), hide_ (Below.refl _ _)⟩
    case round =>
      obtain ⟨j, hj, rfl, HA, HB⟩ := hrel
      generalize wr = wq at *
      by_cases hlt : j < 3
      · have KPq := hide_ (KP4.out.later HB.out)
        have KKq := hide_ (K4.out.later HB.out)
        obtain ⟨r, hrr⟩ : ∃ r, alw C.length ne (kat (k0, k1, k2) j) (oat x j) = r := ⟨_, rfl⟩
        have HAj : Hid (∀ w', Calls Tryd.prog 38 #[.agg #[.bool enc, .slice (some ⟨b, off, none⟩) C.length cc, .slice ae ne ce], .int .i64 (kat (k0, k1, k2) j), .int .i64 (oat x j)] w' fun e w'' => e = .returned (.bool r) ∧ Below w'.heap.size w' w'') := hide_ (fun w' => by rw [← hrr]; exact HAl.out _ _ w')
        have HSS : Hid (∀ w', Below wq.heap.size wq w' → Below wq.heap.size wq w' ∧ w'.cell? ⟨w.heap.size, 0, none⟩ = some (.bool enc) ∧ w'.cell? ⟨w.heap.size, 1, none⟩ = some (.slice (some ⟨b, off, none⟩) C.length cc) ∧ w'.cell? ⟨w.heap.size, 2, none⟩ = some (.slice ae ne ce) ∧ w'.cell? ⟨g2, 0, none⟩ = some (.int .i64 k0) ∧ w'.cell? ⟨g2, 1, none⟩ = some (.int .i64 k1) ∧ w'.cell? ⟨g2, 2, none⟩ = some (.int .i64 k2)) := hide_ (fun w' hB => ⟨hB, (KPq.out.later hB).cell 0, (KPq.out.later hB).cell 1, (KPq.out.later hB).cell 2, (KKq.out.later hB).cell 0, (KKq.out.later hB).cell 1, (KKq.out.later hB).cell 2⟩)
        have HRr := hide_ hrr
        clear hrr HAl
        have h3 : j = 0 ∨ j = 1 ∨ j = 2 := by omega
        cases r with
        | true =>
          have HA2 : Hid (∀ i, i < j + 1 → alw C.length ne (kat (k0, k1, k2) i) (oat x i) = true) := hide_ (fun i hi => by
            rcases Nat.lt_or_ge i j with h | h
            · exact HA.out i h
            · obtain rfl : i = j := by omega
              exact HRr.out)
          clear HA HRr
          rcases h3 with rfl | rfl | rfl
          all_goals
            simp only [kat, oat] at HAj
            have ix0 := ix3_0 (.int .i64 x.a) (.int .i64 x.b) (.int .i64 x.c)
            have ix1 := ix3_1 (.int .i64 x.a) (.int .i64 x.b) (.int .i64 x.c)
            have ix2 := ix3_2 (.int .i64 x.a) (.int .i64 x.b) (.int .i64 x.c)
            go_wp2_with fail
            go_region_held_law (fun w' => Below wq.heap.size wq w' ∧ w'.cell? ⟨w.heap.size, 0, none⟩ = some (.bool enc) ∧ w'.cell? ⟨w.heap.size, 1, none⟩ = some (.slice (some ⟨b, off, none⟩) C.length cc) ∧ w'.cell? ⟨w.heap.size, 2, none⟩ = some (.slice ae ne ce) ∧ w'.cell? ⟨g2, 0, none⟩ = some (.int .i64 k0) ∧ w'.cell? ⟨g2, 1, none⟩ = some (.int .i64 k1) ∧ w'.cell? ⟨g2, 2, none⟩ = some (.int .i64 k2)) (first | assumption | exact HSS.out _ (Below.drew (below_drewN (Below.refl _ _) _)) | exact HSS.out _ (below_drewN (Below.refl _ _) _) | exact HSS.out _ ((Below.refl _ _).drew) | exact HSS.out _ (Below.refl _ _))
              ((go_at_call 38; refine (HAj.out _).mono ?_; rintro e w5 ⟨rfl, hB5⟩; (have G5 := HSS.out w5 (below_to (by first | assumption | exact And.left (by assumption)) hB5)); (clear hB5)))
            have HBf := hide_ (below_to HB.out G5.1)
            clear G5 HSS HAj
            go_wp2_with fail
            go_roundw
            case rel => exact ⟨_, by omega, by go_num, HA2, HBf⟩
            case measure => simp [intOf]
        | false =>
          have HR : Hid (frm enc C ne i = false) := hide_ (by rw [HFr.out, HNo.out j hlt HRr.out]; rfl)
          clear HA HRr HYes
          rcases h3 with rfl | rfl | rfl
          all_goals
            simp only [kat, oat] at HAj
            have ix0 := ix3_0 (.int .i64 x.a) (.int .i64 x.b) (.int .i64 x.c)
            have ix1 := ix3_1 (.int .i64 x.a) (.int .i64 x.b) (.int .i64 x.c)
            have ix2 := ix3_2 (.int .i64 x.a) (.int .i64 x.b) (.int .i64 x.c)
            go_wp2_with fail
            go_region_held_law (fun w' => Below wq.heap.size wq w' ∧ w'.cell? ⟨w.heap.size, 0, none⟩ = some (.bool enc) ∧ w'.cell? ⟨w.heap.size, 1, none⟩ = some (.slice (some ⟨b, off, none⟩) C.length cc) ∧ w'.cell? ⟨w.heap.size, 2, none⟩ = some (.slice ae ne ce) ∧ w'.cell? ⟨g2, 0, none⟩ = some (.int .i64 k0) ∧ w'.cell? ⟨g2, 1, none⟩ = some (.int .i64 k1) ∧ w'.cell? ⟨g2, 2, none⟩ = some (.int .i64 k2)) (first | assumption | exact HSS.out _ (Below.drew (below_drewN (Below.refl _ _) _)) | exact HSS.out _ (below_drewN (Below.refl _ _) _) | exact HSS.out _ ((Below.refl _ _).drew) | exact HSS.out _ (Below.refl _ _))
              ((go_at_call 38; refine (HAj.out _).mono ?_; rintro e w5 ⟨rfl, hB5⟩; (have G5 := HSS.out w5 (below_to (by first | assumption | exact And.left (by assumption)) hB5)); (clear hB5)))
            have HBf := hide_ (below_to HB4.out (below_to HB.out G5.1))
            clear G5 HSS HAj
            go_wp2_with fail
            go_ret
            exact ⟨by rw [HR.out]; rfl, HBf.out⟩
      · obtain rfl : j = 3 := by omega
        have hfx := HYes.out HA.out
        have hag := frmX_agB hfx
        have KPq := hide_ (KP4.out.later HB.out)
        have HBq := hide_ (below_to HB4.out HB.out)
        obtain ⟨aa, haa⟩ : ∃ aa, (if cc = i then some (⟨b, off, none⟩ : Addr) else some ⟨b, off + i * 4, none⟩) = aa := ⟨_, rfl⟩
        rw [if_neg (by omega)] at haa
        have HAg : Hid (∀ (n' c' : Nat), n' = C.length - i → n' ≤ c' → c' ≤ 9223372036854775807 → Calls Tryd.prog 62 #[.slice (some ⟨b, off + i * 4, none⟩) n' c'] wq fun e w'' => e = .returned (.bool (agr x (C.drop (i + 1)))) ∧ Below wq.heap.size wq w'') := hide_ (fun n' c' hn' hc' hl' => by
          refine agree_any _ _ _ _ x (C.drop (i + 1)) _ (by rw [List.length_drop]; omega) hc' (by omega) hag (hide_ ?_)
          have h := GRow.drop (hr.out.later HBq.out) i
          rw [HDr.out] at h
          exact h)
        have HR : Hid (frm enc C ne i = agr x (C.drop (i + 1))) := hide_ (by rw [HFr.out, hfx]; rfl)
        have hic : ¬ cc = i := by omega
        have hicc : (i : Int) ≤ C.length := by omega
        have hccc : (C.length : Int) ≤ cc := by omega
        have p1 := KPq.out.cell 1
        simp at p1
        clear hfx hag HA HYes HNo HFr haa
        go_wp2_with (go_at_call 62; refine (HAg.out _ _ (by omega) (by omega) (by omega)).mono ?_; rintro e w' ⟨rfl, hB5⟩)
        go_ret
        exact ⟨by rw [HR.out]; rfl, below_to HBq.out hB5⟩
end Go.Proofs.YteadmiikenpjeaaDoor
