/- reaches: the walk. -/
import Derived.Test.YteopgffgimkgmaaYre
namespace Go.Proofs.Yteopgffgimkgmaa
open Go.RowKit
set_option linter.unusedVariables false

def RchTo (D : List Df) (t q : Nat) (w : World) (e : Ending) (w' : World) : Prop := ∃ R : Bool, e = .returned (.bool R) ∧ Hid (R = true ↔ Lead (usD D) t q) ∧ Hid (Below w.heap.size w w')
set_option maxRecDepth 100000 in
set_option maxHeartbeats 16000000 in
theorem reaches_any (a : Option Addr) (c t q : Nat) (D : List Df) (o : List Nat) (ds : List Int) (w : World) (HG : Hid (Good D o ds)) (HOK : Hid (∀ d ∈ D, DfOk1 d)) (hD : D.length ≤ 256) (htl : t < D.length) (r : Hid (DRow w a D)) :
    Calls Try.prog 16 #[.agg #[.slice a D.length c], .int .i64 (t : Int), .int .i64 (q : Int)] w fun e w' => RchTo D t q w e w' := by
  obtain ⟨w0, hw0⟩ : ∃ w0, w.alloc (.cells #[.slice a D.length c] 24) = w0 := ⟨_, rfl⟩
  have hB0 : Below w.heap.size w w0 := by rw [← hw0]; exact (Below.refl _ _).alloc (Nat.le_refl _) _
  have K0 : Blk w0 w.heap.size 24 [.slice a D.length c] := by rw [← hw0]; exact Blk.newA w #[.slice a D.length c] 24
  have hmk2 := run_make_row' (P := Try.prog) 33 4 (.bool false) 1 Try.underlying33 (by kernel_rfl) rfl .i64 .i64 D.length (by omega) (by omega)
  obtain ⟨w1, hw1⟩ : ∃ w1, w0.alloc (.cells (madeCells #[.bool false] D.length) 4) = w1 := ⟨_, rfl⟩
  have hB1 : Below w0.heap.size w0 w1 := by rw [← hw1]; exact (Below.refl _ _).alloc (Nat.le_refl _) _
  have T1 : Blk w1 w0.heap.size 4 (bits D.length []) := by
    have h := Blk.newA w0 (madeCells #[.bool false] D.length) 4
    rw [toList_madeCells_one, hw1] at h
    rw [bits_nil]
    exact h
  obtain ⟨w2, hw2⟩ : ∃ w2, w1.alloc (.cells #[.int .i64 (t : Int)] 3) = w2 := ⟨_, rfl⟩
  have hB2 : Below w1.heap.size w1 w2 := by rw [← hw2]; exact (Below.refl _ _).alloc (Nat.le_refl _) _
  have O2 : Blk w2 w1.heap.size 3 [.int .i64 (t : Int)] := by rw [← hw2]; exact Blk.newA w1 #[.int .i64 (t : Int)] 3
  have HBw := hide_ (below_to (below_to hB0 hB1) hB2)
  have HK := hide_ ((K0.later hB1).later hB2)
  have HT := hide_ (T1.later hB2)
  obtain ⟨gS, hgS⟩ : ∃ gS, w0.heap.size = gS := ⟨_, rfl⟩
  rw [hgS] at HT
  have HgS : Hid (w.heap.size ≤ gS) := hide_ (by rw [← hgS]; exact hB0.size)
  have HO : Hid (w2.ownsRow w.heap.size 3 1 (.slice (some ⟨w1.heap.size, 0, none⟩) 1 1) [t].length (cellsL .i64 (natI [t]))) := hide_ (by
    have h := ownS_of_blk (n := 1) (c := 1) (cap := 1) O2 (show w.heap.size ≤ w1.heap.size from Nat.le_trans hB0.size hB1.size) rfl (Nat.le_refl _) (by unfold maxLen; omega)
    exact h)
  have c0 := K0.cell 0
  simp at c0
  obtain ⟨g0, hg0⟩ : ∃ g0, w1.heap.size = g0 := ⟨_, rfl⟩
  rw [hg0] at HO
  clear hB0 K0 hB1 T1 hB2 O2
  go_enter Try.func16, Try.ntmps16
  go_upto_region 3 with fail
  clear hw0 hw1 hw2 hmk2 c0 hgS hg0
  go_wp2_with fail
  go_loopw [8, 9] (fun x8 x9 wr => ∃ (vT : Value) (i : Nat) (todo seen : List Nat), vT = x8 ∧ x9 = .int .i64 (i : Int) ∧ Hid (Rch (usD D) t q todo seen i) ∧ Hid (wr.ownsRow w.heap.size 3 1 vT todo.length (cellsL .i64 (natI todo))) ∧ Hid (Blk wr gS 4 (bits D.length seen)) ∧ Hid (Blk wr w.heap.size 24 [.slice a D.length c]) ∧ Hid (Below w.heap.size w wr)) (fun _ x9 _ => D.length + 2 - (intOf x9).toNat)
  case atStart => exact ⟨_, 0, [t], [], rfl, rfl, hide_ (Rch.start _ _ _), HO, HT, HK, HBw⟩
  case round =>
    clear HO HT HK HBw
    obtain ⟨vT, i, todo, seen, rfl, rfl, HR, HO, HT, HK, HB⟩ := hrel
    generalize wr = wq at *
    obtain ⟨aT, cT, hvT⟩ := own_form HO.out
    subst hvT
    have hlen := HR.out.len
    rw [usD_len] at hlen
    have hil := HR.out.il
    by_cases hlt : i < todo.length
    · have hlt' : (i : Int) < todo.length := by omega
      obtain ⟨m, hm⟩ : ∃ m, todo[i]? = some m := ⟨_, List.getElem?_eq_getElem hlt⟩
      have hml : m < D.length := by
        have h := List.mem_of_getElem? hm
        rw [HR.out.hd] at h
        rcases List.mem_cons.1 h with e | e
        · rw [e]; exact htl
        · have := HR.out.lt m e; rwa [usD_len] at this
      have hml' : (m : Int) < D.length := by omega
      obtain ⟨d, hd⟩ : ∃ d, D[m]? = some d := ⟨_, List.getElem?_eq_getElem hml⟩
      have hdk := HOK.out d (List.mem_of_getElem? hd)
      obtain ⟨b, off, rfl, hb, hcl⟩ := r.out.open (by omega)
      obtain ⟨va, vc, hcx, hvc, -, hN⟩ := hcl m d hd
      have c2 := (HB.out.cell (p := ⟨b, off + m * 3 + 2, none⟩) hb).trans (hcx 2 (by decide))
      simp [dfc] at c2
      obtain ⟨a', c', e, -, -, -, -, hg⟩ := own_open HO.out (natI_len todo)
      obtain ⟨gT, rfl, -, -, -, -⟩ := hg (by omega)
      injection e with e1 _ e3
      subst e1 e3
      have y0 := own_cell HO.out hm
      have c0 := HK.out.cell 0
      simp at c0
      have HN := hide_ hN
      have HM := hide_ hm
      have HDd := hide_ hd
      have hdl := hdk.2.1
      clear hg hcl hcx hN hm hd hdk
      go_upto_region 6 with fail
      go_quiet (fail)
      clear c0 c2 y0
      have HO6 := hide_ (ownS_upd HO.out (Upd.of_below (S := fun _ => False) (below_drewN (Below.refl _ wq) nq)) (fun _ _ h => h))
      have HT6 := hide_ (HT.out.drewN nq)
      have HK6 := hide_ (HK.out.drewN nq)
      have HB6 := hide_ (below_drewN HB.out nq)
      clear HO HT HK HB
      generalize wq.drewN nq = w6 at *
      go_wp2_with fail
      go_loopw [8, 11] (fun x8 x11 wr => ∃ (vT : Value) (j : Nat) (todo' seen' : List Nat), vT = x8 ∧ x11 = .int .i64 (j : Int) ∧ j ≤ d.ty.length ∧ Hid (Rch (usD D) t q todo' seen' i) ∧ Hid (todo'[i]? = some m) ∧ Hid (∀ x ∈ d.ty.take j, x.k = 9 → numZ D x.name ∈ seen') ∧ Hid (wr.ownsRow w.heap.size 3 1 vT todo'.length (cellsL .i64 (natI todo'))) ∧ Hid (Blk wr gS 4 (bits D.length seen')) ∧ Hid (Blk wr w.heap.size 24 [.slice (some ⟨b, off, none⟩) D.length c]) ∧ Hid (Below w.heap.size w wr)) (fun _ x11 _ => d.ty.length - (intOf x11).toNat)
      case atStart => exact ⟨_, 0, todo, seen, rfl, rfl, Nat.zero_le _, HR, HM, hide_ (fun x hx => by simp at hx), HO6, HT6, HK6, HB6⟩
      case round =>
        clear HO6 HT6 HK6 HB6 HR HM hlen hil hlt hlt'
        obtain ⟨vT, j, todo, seen, rfl, rfl, hj, HR, HM, HS, HO, HT, HK, HB⟩ := hrel
        generalize wr = wp at *
        have hlen := HR.out.len
        rw [usD_len] at hlen
        have hil := HR.out.il
        obtain ⟨aT, cT, hvT⟩ := own_form HO.out
        subst hvT
        by_cases hjl : j < d.ty.length
        · have hjl' : (j : Int) < d.ty.length := by omega
          obtain ⟨bn, on, rfl, hbn, hcn⟩ := HN.out.open (by omega)
          have hx : d.ty[j]? = some (d.ty[j]'hjl) := List.getElem?_eq_getElem hjl
          have hxm : d.ty[j]'hjl ∈ d.ty := List.getElem_mem hjl
          have hcx := hcn j _ hx
          have HTK : Hid (d.ty.take (j + 1) = d.ty.take j ++ [d.ty[j]'hjl]) := List.take_succ_eq_append_getElem hjl
          generalize d.ty[j]'hjl = x at *
          have n0 := (HB.out.cell (p := ⟨bn, on + j * 7 + 0, none⟩) hbn).trans (hcx 0 (by decide))
          simp [ndc] at n0
          have HN2 : Hid (w.cell? ⟨bn, on + j * 7 + 2, none⟩ = some (.string x.name)) := hide_ (by have h := hcx 2 (by decide); simpa [ndc] using h)
          have HXM := hide_ hxm
          clear hcn hcx hx hxm
          by_cases h9 : x.k = 9
          · have hne : (x.k != 9) = false := by simp [h9]
            obtain ⟨u, hu⟩ := known HG.out.lk HDd.out HXM.out h9
            have hul := numN_lt hu
            have hzu : numZ D x.name = u := by unfold numZ; rw [hu]; rfl
            have hfe : fndE D x.name = 0 := by unfold fndE; rw [hu]
            have HFd : Hid (∀ w', Below w.heap.size w w' → Calls Try.prog 13 #[.agg #[.slice (some ⟨b, off, none⟩) D.length c], .string x.name] w' fun e w'' => e = .returned (.tuple #[.int .i64 (u : Int), .int .i64 0]) ∧ Below w'.heap.size w' w'') := hide_ (fun w' hB => by
              have h := find_any (some ⟨b, off, none⟩) c D x.name w' (by omega) (hide_ (r.out.later hB))
              rw [hzu, hfe] at h
              exact h)
            have HUU : Hid (u ∈ us (usD D) m) := hide_ (by rw [us_usD HDd.out, ← hzu]; exact mem_usT.2 ⟨x, HXM.out, h9, rfl⟩)
            have HZU := hide_ hzu
            have HSn : Hid (∀ S : List Nat, (∀ y ∈ seen, y ∈ S) → u ∈ S → ∀ y ∈ d.ty.take (j + 1), y.k = 9 → numZ D y.name ∈ S) := hide_ (fun S h1 h2 y hy hy9 => by
              rw [HTK.out] at hy
              rcases List.mem_append.1 hy with hy | hy
              · exact h1 _ (HS.out y hy hy9)
              · simp at hy; subst hy; rw [HZU.out]; exact h2)
            clear hu hzu hfe
            have HS24 : Hid (∀ w', Below wp.heap.size wp w' → (fun w' => w'.cell? ⟨w.heap.size, 0, none⟩ = some (.slice (some ⟨b, off, none⟩) D.length c) ∧ w'.cell? ⟨bn, on + j * 7 + 2, none⟩ = some (.string x.name)) w') := hide_ (fun w' hB => ⟨(HK.out.later hB).cell 0, ((below_to HB.out hB).cell (p := ⟨bn, on + j * 7 + 2, none⟩) hbn).trans HN2.out⟩)
            go_upto_region 11 with fail
            go_wp2_with fail
            refine wp_region_held_drew (S := (fun w' => w'.cell? ⟨w.heap.size, 0, none⟩ = some (.slice (some ⟨b, off, none⟩) D.length c) ∧ w'.cell? ⟨bn, on + j * 7 + 2, none⟩ = some (.string x.name))) (by kernel_rfl) (HS24.out _ (Below.refl _ _).drew) (fun hHeld => ?_)
            refine wpAnyH_take (i := 0) (v := ?v1) rfl (by kernel_rfl) (by kernel_rfl) (by kernel_rfl) (fun _ _ _ h => h) (Or.inl ⟨by rfl, ?hy1⟩) hHeld ?rest1
            case hy1 => intro w' hSw; (try dsimp only at hSw); go_simp; try with_reducible rfl
            simp only [Act.put]
            refine wpAnyH_take (i := 1) (v := ?v2) rfl (by kernel_rfl) (by kernel_rfl) (by kernel_rfl) (fun _ _ _ h => h) (Or.inl ⟨by rfl, ?hy2⟩) hHeld ?rest2
            case hy2 => intro w' hSw; (try dsimp only at hSw); go_simp; try with_reducible rfl
            simp only [Act.put]
            refine wpAnyH_take (i := 2) (v := ?v3) rfl (by kernel_rfl) (by kernel_rfl) (by kernel_rfl) (fun _ _ _ h => h) (Or.inl ⟨by rfl, ?hy3⟩) hHeld ?rest3
            case hy3 => intro w' hSw; (try dsimp only at hSw); go_simp; try with_reducible rfl
            simp only [Act.put]
            refine wpAnyH_take (i := 3) (v := ?v4) rfl (by kernel_rfl) (by kernel_rfl) (by kernel_rfl) (fun _ _ _ h => h) (Or.inl ⟨by rfl, ?hy4⟩) hHeld ?rest4
            case hy4 => intro w' hSw; (try dsimp only at hSw); go_simp; try with_reducible rfl
            simp only [Act.put]
            refine wpAnyH_take (i := 4) (v := ?v5) rfl (by kernel_rfl) (by kernel_rfl) (by kernel_rfl) (fun _ _ _ h => h) (Or.inl ⟨by rfl, ?hy5⟩) hHeld ?rest5
            case hy5 => intro w' hSw; (try dsimp only at hSw); go_simp; try with_reducible rfl
            simp only [Act.put]
            refine wpAnyH_take (i := 5) (v := ?v6) rfl (by kernel_rfl) (by kernel_rfl) (by kernel_rfl) (fun _ _ _ h => h) (Or.inl ⟨by rfl, ?hy6⟩) hHeld ?rest6
            case hy6 => intro w' hSw; (try dsimp only at hSw); go_simp; try with_reducible rfl
            simp only [Act.put]
            refine wpAnyH_ready (rs := [6]) (by kernel_rfl) (by simp) ?_
            refine AllReadyH.cons rfl (fun K hK => ?_) AllReadyH.nil
            go_simp
            refine (HFd.out _ HB.out.drew).mono ?_
            rintro e w6 ⟨rfl, hB6⟩
            dsimp only
            have hB6' : Below wp.heap.size wp w6 := ⟨hB6.os, hB6.tape, hB6.output, hB6.size, hB6.block⟩
            refine hK.out _ _ (HS24.out _ hB6') (fun hHeld => ?_)
            clear hK K
            refine wpAnyH_take (i := 7) (v := ?v7) rfl (by kernel_rfl) (by kernel_rfl) (by kernel_rfl) (fun _ _ _ h => h) (Or.inl ⟨by rfl, ?hy7⟩) hHeld ?rest7
            case hy7 => intro w' hSw; (try dsimp only at hSw); go_simp; try with_reducible rfl
            simp only [Act.put]
            refine wpAnyH_take (i := 8) (v := ?v8) rfl (by kernel_rfl) (by kernel_rfl) (by kernel_rfl) (fun _ _ _ h => h) (Or.inl ⟨by rfl, ?hy8⟩) hHeld ?rest8
            case hy8 => intro w' hSw; (try dsimp only at hSw); go_simp; try with_reducible rfl
            simp only [Act.put]
            refine wpAnyH_take (i := 9) (v := ?v9) rfl (by kernel_rfl) (by kernel_rfl) (by kernel_rfl) (fun _ _ _ h => h) (Or.inl ⟨by rfl, ?hy9⟩) hHeld ?rest9
            case hy9 => intro w' hSw; (try dsimp only at hSw); go_simp; try with_reducible rfl
            simp only [Act.put]
            refine wpAnyH_take (i := 10) (v := ?v10) rfl (by kernel_rfl) (by kernel_rfl) (by kernel_rfl) (fun _ _ _ h => h) (Or.inl ⟨by rfl, ?hy10⟩) hHeld ?rest10
            case hy10 => intro w' hSw; (try dsimp only at hSw); go_simp; try with_reducible rfl
            simp only [Act.put]
            refine wpAnyH_take (i := 11) (v := ?v11) rfl (by kernel_rfl) (by kernel_rfl) (by kernel_rfl) (fun _ _ _ h => h) (Or.inl ⟨by rfl, ?hy11⟩) hHeld ?rest11
            case hy11 => intro w' hSw; (try dsimp only at hSw); go_simp; try with_reducible rfl
            simp only [Act.put]
            refine wpAnyH_done (by kernel_rfl) ?_ _
            have HO6 := hide_ (ownS_upd HO.out (Upd.of_below (S := fun _ => False) hB6') (fun _ _ h => h))
            have HT6 := hide_ (HT.out.later hB6')
            have HK6 := hide_ (HK.out.later hB6')
            have HB6 := hide_ (below_to HB.out hB6')
            clear hHeld hB6 hB6' HS24 HFd n0 hne HO HT HK HB
            have hul' : (u : Int) < D.length := by omega
            have g1 : ((0 : Int) != 0) = false := by decide
            have g2 : decide ((u : Int) < 0) = false := by simp
            have g3 : decide ((D.length : Int) ≤ (u : Int)) = false := by simp; omega
            have ct := (HT6.out.cell u).trans (bits_at _ _ u hul)
            have ft := HT6.out.frozen u
            by_cases huq : u = q
            · subst huq
              have HRt : Hid (Lead (usD D) t u) := hide_ (by
                rcases HR.out.at (List.mem_of_getElem? HM.out) with e | e
                · rw [← e]; exact Lead.one HUU.out
                · exact e.trans (Lead.one HUU.out))
              clear ct ft
              go_wp2
              go_ret
              exact ⟨true, rfl, hide_ ⟨fun _ => HRt.out, fun _ => rfl⟩, HB6⟩
            · have huq' : ¬ (u : Int) = (q : Int) := by omega
              have huq2 : ((u : Int) == (q : Int)) = false := beq_eq_false_iff_ne.2 huq'
              by_cases hus : u ∈ seen
              · rw [decide_eq_true hus] at ct
                have HSm := hide_ (HSn.out seen (fun _ h => h) hus)
                go_wp2_with fail
                go_roundw
                case rel => exact ⟨_, j + 1, todo, seen, rfl, by go_num, by omega, HR, HM, HSm, HO6, HT6, HK6, HB6⟩
                case measure => simp [intOf]; omega
              · rw [decide_eq_false hus] at ct
                obtain ⟨w7, hw7⟩ : ∃ w7, w6.setCell ⟨gS, u, none⟩ (.bool true) = w7 := ⟨_, rfl⟩
                have u7 : Upd (fun k => k = gS) w6 w7 := by rw [← hw7]; exact (Upd.refl (fun k => k = gS) w6).set ⟨gS, u, none⟩ (.bool true) (.inl rfl)
                have T7 : Blk w7 gS 4 (bits D.length (seen ++ [u])) := by rw [← hw7, ← bits_set _ _ _ hul]; exact HT6.out.set u _
                have O7 := ownS_upd HO6.out u7 (fun k hk e => by
                  subst e
                  obtain ⟨ys, hy⟩ := ownS_type HO6.out hk
                  exact absurd (blk_type hy HT6.out) (by decide))
                have K7 := HK6.out.upd u7 (fun e => by
                  have h := HT6.out
                  rw [← e] at h
                  exact absurd (blk_type HK6.out h) (by decide))
                have B7 : Below w.heap.size w w7 := HB6.out.trans (u7.below _ HB6.out.size (fun k hk => by rw [hk]; exact HgS.out))
                obtain ⟨g1', c1', w8, q8, o8, u8, -⟩ := run_push EInt w7 26 w.heap.size (.slice aT todo.length cT) todo.length (natI todo) O7 (u : Int) (by unfold maxLen; omega) (by omega) B7.size
                have R8 := hide_ q8
                have HO8 : Hid (w8.ownsRow w.heap.size 3 1 (.slice (some ⟨g1', 0, none⟩) (todo.length + 1) c1') (todo ++ [u]).length (cellsL .i64 (natI (todo ++ [u])))) := hide_ (by
                  rw [natI_app, List.length_append]; exact o8)
                have hne8 : ∀ {z : Nat} {ty : TypeId} {xs : List Value}, ty ≠ 3 → Blk w7 z ty xs → Blk w8 z ty xs := fun hty hz => hz.upd u8 fun e => by
                  obtain ⟨zs, hz2⟩ := ownS_type O7 e
                  exact hty (blk_type hz hz2)
                have HT8 := hide_ (hne8 (by decide) T7)
                have HK8 := hide_ (hne8 (by decide) K7)
                have HB8 := hide_ (B7.trans (u8.below _ B7.size (fun k hk => (O7.lt k hk).1)))
                have HR8 := hide_ (HR.out.push (List.mem_of_getElem? HM.out) HUU.out (by rw [usD_len]; exact hul) hus huq)
                have HM8 : Hid ((todo ++ [u])[i]? = some m) := hide_ (by rw [List.getElem?_append_left (List.getElem?_eq_some_iff.1 HM.out).1]; exact HM.out)
                have HSm := hide_ (HSn.out (seen ++ [u]) (fun _ h => List.mem_append.2 (.inl h)) (List.mem_append.2 (.inr (by simp))))
                clear u7 T7 O7 K7 B7 q8 o8 u8 hne8
                go_wp2_with (at_builtin; have _t := R8; refine wpList_append_run rfl (.tmp 80) (.tmp 82) 26 26 rfl rfl rfl R8.out ?_; clear R8)
                go_roundw
                case rel => exact ⟨_, j + 1, todo ++ [u], seen ++ [u], rfl, by go_num, by omega, HR8, HM8, HSm, HO8, HT8, HK8, HB8⟩
                case measure => simp [intOf]; omega
          · have hne : (x.k != 9) = true := by simpa using h9
            have HSm : Hid (∀ y ∈ d.ty.take (j + 1), y.k = 9 → numZ D y.name ∈ seen) := hide_ (fun y hy hy9 => by
              rw [HTK.out] at hy
              rcases List.mem_append.1 hy with hy | hy
              · exact HS.out y hy hy9
              · simp at hy; subst hy; exact absurd hy9 h9)
            go_wp2_with fail
            go_roundw
            case rel => exact ⟨_, j + 1, todo, seen, rfl, by go_num, by omega, HR, HM, HSm, HO, HT, HK, HB⟩
            case measure => simp [intOf]; omega
        · have hjl' : ¬ (j : Int) < d.ty.length := by omega
          have hil2 : i < todo.length := (List.getElem?_eq_some_iff.1 HM.out).1
          have HRn := hide_ (HR.out.next HM.out (fun u hu => by
            rw [us_usD HDd.out] at hu
            obtain ⟨y, hy, hy9, rfl⟩ := mem_usT.1 hu
            exact HS.out y (by rw [List.take_of_length_le (by omega)]; exact hy) hy9))
          go_wp2_with fail
          go_roundw
          case rel => exact ⟨_, i + 1, todo, seen, rfl, by go_num, HRn, HO, HT, HK, HB⟩
          case measure => simp [intOf]; omega
    · have hlt' : ¬ (i : Int) < todo.length := by omega
      have HRf : Hid (false = true ↔ Lead (usD D) t q) := hide_ (by
        refine ⟨fun h => by simp at h, fun h => ?_⟩
        have e : i = todo.length := by omega
        have h2 := HR.out
        rw [e] at h2
        exact absurd h h2.none)
      go_wp2
      go_ret
      exact ⟨false, rfl, HRf, HB⟩
end Go.Proofs.Yteopgffgimkgmaa
