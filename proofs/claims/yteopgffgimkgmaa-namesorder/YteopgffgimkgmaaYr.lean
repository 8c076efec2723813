/- NamesOrder: the walk. -/
import Derived.Test.YteopgffgimkgmaaYq
namespace Go.Proofs.Yteopgffgimkgmaa
open Go.RowKit
set_option linter.unusedVariables false

set_option maxRecDepth 100000 in
set_option maxHeartbeats 16000000 in
theorem order_any (a : Option Addr) (c : Nat) (D : List Df) (w : World) (hW : Hid (Wt D)) (r : Hid (DRow w a D)) :
    Calls Try.prog 3 #[.agg #[.slice a D.length c]] w fun e w' => e = .returned (.bool true) ∧ Below w.heap.size w w' := by
  obtain ⟨E, A, o, ds, hLook⟩ := lookTo_ex D
  have HL := hide_ hLook
  clear hLook
  obtain ⟨w0, hw0⟩ : ∃ w0, w.alloc (.cells #[.slice a D.length c] 24) = w0 := ⟨_, rfl⟩
  have HB0 : Hid (Below w.heap.size w w0) := by rw [← hw0]; exact (Below.refl _ _).alloc (Nat.le_refl _) _
  have K0 : Hid (Blk w0 w.heap.size 24 [.slice a D.length c]) := by rw [← hw0]; exact Blk.newA w #[.slice a D.length c] 24
  go_enter Try.func3, Try.ntmps3
  go_upto_region 3 with (go_at_call 9; refine (nFirst_any _).mono ?_; rintro e w1 ⟨rfl, hB1⟩)

  have HB1 := hide_ (below_to HB0.out hB1)
  have K1 := hide_ (K0.out.later hB1)
  clear hw0 hB1 HB0 K0
  have c0 := K1.out.cell 0
  simp at c0
  have HC1 := hide_ (nOrder_any HL.out a c w1 hW (hide_ (r.out.later HB1.out)))
  go_upto_region 4 with (go_at_call 10; refine HC1.out.mono ?_; rintro e w2 ⟨xo, no, po, rfl, HO2, HB2⟩)
  obtain ⟨w2a, hw2a⟩ : ∃ w2a, w2.alloc (.cells #[.int .i64 E, .int .i64 A] 29) = w2a := ⟨_, rfl⟩
  have hB2a : Below w2.heap.size w2 w2a := by rw [← hw2a]; exact (Below.refl _ _).alloc (Nat.le_refl _) _
  have F2 : Hid (Blk w2a w2.heap.size 29 [.int .i64 E, .int .i64 A]) := by rw [← hw2a]; exact Blk.newA w2 #[.int .i64 E, .int .i64 A] 29
  have hB12 := below_to HB2.out hB2a
  have HB2' := hide_ (below_to HB1.out hB12)
  have K2 := hide_ (K1.out.later hB12)
  have HO2a := hide_ (ownS_upd HO2.out (Upd.of_below (S := fun _ => False) hB2a) (fun _ _ h => h))
  rw [hw2a]
  clear hw2a hB2a hB12 HB2 HO2 HB1 K1 c0 HC1
  have c0 := K2.out.cell 0
  simp at c0
  have HC2 := hide_ (nDepth_any HL.out a c w2a hW (hide_ (r.out.later HB2'.out)))
  go_upto_region 5 with (go_at_call 11; refine HC2.out.mono ?_; rintro e w3 ⟨xd, nd, pd, rfl, HD3, HB3⟩)
  obtain ⟨w3a, hw3a⟩ : ∃ w3a, w3.alloc (.cells #[.int .i64 E, .int .i64 A] 29) = w3a := ⟨_, rfl⟩
  have hB3a : Below w3.heap.size w3 w3a := by rw [← hw3a]; exact (Below.refl _ _).alloc (Nat.le_refl _) _
  have G3 : Hid (Blk w3a w3.heap.size 29 [.int .i64 E, .int .i64 A]) := by rw [← hw3a]; exact Blk.newA w3 #[.int .i64 E, .int .i64 A] 29
  have hB23 := below_to HB3.out hB3a
  have HB3' := hide_ (below_to HB2'.out hB23)
  have K3 := hide_ (K2.out.later hB23)
  have F3 := hide_ (F2.out.later hB23)
  have HO3 := hide_ (ownS_upd HO2a.out (Upd.of_below (S := fun _ => False) hB23) (fun _ _ h => h))
  have HD3a := hide_ (ownS_upd HD3.out (Upd.of_below (S := fun _ => False) hB3a) (fun _ _ h => h))
  rw [hw3a]
  clear hw3a hB3a hB23 HB3 HD3 HO2a HB2' K2 F2 c0 HC2
  have HCk : Hid (∀ w', Below w.heap.size w w' → Calls Try.prog 12 #[.agg #[.slice a D.length c]] w' fun e w'' => e = .returned (.agg #[.int .i64 E, .int .i64 A]) ∧ Hid (Below w'.heap.size w' w'')) := hide_ (fun w' hB => nCheck_any HL.out a c w' hW (hide_ (r.out.later hB)))
  have HSS : Hid (∀ w', Below w3a.heap.size w3a w' → w'.cell? ⟨w2.heap.size, 0, none⟩ = some (.int .i64 E) ∧ w'.cell? ⟨w2.heap.size, 1, none⟩ = some (.int .i64 A) ∧ w'.cell? ⟨w3.heap.size, 0, none⟩ = some (.int .i64 E) ∧ w'.cell? ⟨w3.heap.size, 1, none⟩ = some (.int .i64 A) ∧ w'.cell? ⟨w.heap.size, 0, none⟩ = some (.slice a D.length c)) := hide_ (fun w' hB => by
    have f := F3.out.later hB; have g := G3.out.later hB; have k := K3.out.later hB
    exact ⟨f.cell 0, f.cell 1, g.cell 0, g.cell 1, k.cell 0⟩)
  go_wp2_with fail
  refine wp_region_held_drew (S := (fun w' => w'.cell? ⟨w2.heap.size, 0, none⟩ = some (.int .i64 E) ∧ w'.cell? ⟨w2.heap.size, 1, none⟩ = some (.int .i64 A) ∧ w'.cell? ⟨w3.heap.size, 0, none⟩ = some (.int .i64 E) ∧ w'.cell? ⟨w3.heap.size, 1, none⟩ = some (.int .i64 A) ∧ w'.cell? ⟨w.heap.size, 0, none⟩ = some (.slice a D.length c))) (by kernel_rfl) (HSS.out _ (Below.refl _ _).drew) (fun hHeld => ?_)
  refine wpAnyH_take (i := 0) (v := ?v1) rfl (by kernel_rfl) (by kernel_rfl) (by kernel_rfl) (fun _ _ _ h => h) (Or.inl ⟨by rfl, ?hy1⟩) hHeld ?rest1
  case hy1 => intro w' hSw; (try dsimp only at hSw); go_simp; try with_reducible rfl
  simp only [Act.put]
  refine wpAnyH_take (i := 1) (v := ?v2) rfl (by kernel_rfl) (by kernel_rfl) (by kernel_rfl) (fun _ _ _ h => h) (Or.inl ⟨by rfl, ?hy2⟩) hHeld ?rest2
  case hy2 => intro w' hSw; (try dsimp only at hSw); go_simp; try with_reducible rfl
  simp only [Act.put]
  refine wpAnyH_ready (rs := [2]) (by kernel_rfl) (by simp) ?_
  refine AllReadyH.cons rfl (fun K hK => ?_) AllReadyH.nil
  go_simp
  refine (HCk.out _ HB3'.out.drew).mono ?_
  rintro e w4 ⟨rfl, HB4⟩
  dsimp only
  have hB4 : Below w3a.heap.size w3a w4 := ⟨HB4.out.os, HB4.out.tape, HB4.out.output, HB4.out.size, HB4.out.block⟩
  refine hK.out _ _ (HSS.out _ hB4) (fun hHeld => ?_)
  clear hK K
  refine wpAnyH_take (i := 3) (v := ?v3) rfl (by kernel_rfl) (by kernel_rfl) (by kernel_rfl) (fun _ _ _ h => h) (Or.inl ⟨by rfl, ?hy3⟩) hHeld ?rest3
  case hy3 => intro w' hSw; (try dsimp only at hSw); go_simp; try with_reducible rfl
  simp only [Act.put]
  refine wpAnyH_take (i := 4) (v := ?v4) rfl (by kernel_rfl) (by kernel_rfl) (by kernel_rfl) (fun _ _ _ h => h) (Or.inl ⟨by rfl, ?hy4⟩) hHeld ?rest4
  case hy4 => intro w' hSw; (try dsimp only at hSw); go_simp; try with_reducible rfl
  simp only [Act.put]
  refine wpAnyH_take (i := 5) (v := ?v5) rfl (by kernel_rfl) (by kernel_rfl) (by kernel_rfl) (fun _ _ _ h => h) (Or.inl ⟨by rfl, ?hy5⟩) hHeld ?rest5
  case hy5 => intro w' hSw; (try dsimp only at hSw); go_simp; try with_reducible rfl
  simp only [Act.put]
  refine wpAnyH_take (i := 6) (v := ?v6) rfl (by kernel_rfl) (by kernel_rfl) (by kernel_rfl) (fun _ _ _ h => h) (Or.inl ⟨by rfl, ?hy6⟩) hHeld ?rest6
  case hy6 => intro w' hSw; (try dsimp only at hSw); go_simp; try with_reducible rfl
  simp only [Act.put]
  refine wpAnyH_take (i := 7) (v := ?v7) rfl (by kernel_rfl) (by kernel_rfl) (by kernel_rfl) (fun _ _ _ h => h) (Or.inl ⟨by rfl, ?hy7⟩) hHeld ?rest7
  case hy7 => intro w' hSw; (try dsimp only at hSw); go_simp; try with_reducible rfl
  simp only [Act.put]
  refine wpAnyH_take (i := 8) (v := ?v8) rfl (by kernel_rfl) (by kernel_rfl) (by kernel_rfl) (fun _ _ _ h => h) (Or.inl ⟨by rfl, ?hy8⟩) hHeld ?rest8
  case hy8 => intro w' hSw; (try dsimp only at hSw); go_simp; try with_reducible rfl
  simp only [Act.put]
  refine wpAnyH_done (by kernel_rfl) ?_ _
  have HB4' := hide_ (below_to HB3'.out hB4)
  have K4 := hide_ (K3.out.later hB4)
  have F4 := hide_ (F3.out.later hB4)
  have HO4 := hide_ (ownS_upd HO3.out (Upd.of_below (S := fun _ => False) hB4) (fun _ _ h => h))
  have HD4 := hide_ (ownS_upd HD3a.out (Upd.of_below (S := fun _ => False) hB4) (fun _ _ h => h))
  clear hHeld hB4 HB4 HB3' K3 F3 G3 HO3 HD3a HSS HCk
  obtain rfl := nil_of HO4.out
  obtain rfl := nil_of HD4.out
  obtain ⟨ao, co, hao, hro, -⟩ := own_open (k := .i64) (l := natI o) HO4.out (natI_len o)
  obtain ⟨ad, cd, had, hrd, -⟩ := own_open (k := .i64) (l := ds) HD4.out rfl
  injection hao with h1 _ _
  injection had with h2 _ _
  subst h1 h2
  have HRo := hide_ hro
  have HRd := hide_ hrd
  clear hro hrd HO4 HD4
  have f0 := F4.out.cell 0
  simp at f0
  by_cases hE : E = 0
  · subst hE
    have hne : ((0 : Int) != 0) = false := by decide
    obtain ⟨hG, -⟩ := HL.out.zero
    have HG := hide_ hG
    obtain ⟨hD, hok⟩ := df_ok hG.ck hW.out
    have HOK := hide_ hok
    have HOl : Hid (o.length = D.length) := hide_ hG.len
    have HDl : Hid (ds.length = D.length) := hide_ hG.dep.1
    clear hG hok hne
    rw [HOl.out, HDl.out]
    have q0 : ((D.length : Int) != (D.length : Int)) = false := by simp
    have hmk2 := run_make_row' (P := Try.prog) 33 4 (.bool false) 1 Try.underlying33 (by kernel_rfl) rfl .i64 .i64 D.length (by omega) (by omega)
    obtain ⟨w5, hw5⟩ : ∃ w5, w4.alloc (.cells (madeCells #[.bool false] D.length) 4) = w5 := ⟨_, rfl⟩
    have hB5 : Below w4.heap.size w4 w5 := by rw [← hw5]; exact (Below.refl _ _).alloc (Nat.le_refl _) _
    have T5 : Hid (Blk w5 w4.heap.size 4 (bits D.length (o.take 0))) := hide_ (by
      have h := Blk.newA w4 (madeCells #[.bool false] D.length) 4
      rw [toList_madeCells_one, hw5] at h
      rw [List.take_zero, bits_nil]
      exact h)
    have HB5 := hide_ hB5
    have HBw := hide_ (below_to HB4'.out hB5)
    have c0 := K4.out.cell 0
    simp at c0
    have hw44 : w.heap.size < w4.heap.size := K4.out.lt
    have HSt : Hid (∀ w', Below w4.heap.size w4 w' → w'.cell? ⟨w.heap.size, 0, none⟩ = some (.slice a D.length c) ∧ Row .i64 w' xo (natI o) ∧ Row .i64 w' xd ds ∧ DRow w' a D ∧ Below w.heap.size w w') := hide_ (fun w' hB => ⟨(K4.out.later hB).cell 0, HRo.out.later hB, HRd.out.later hB, r.out.later (below_to HB4'.out hB), below_to HB4'.out hB⟩)
    clear hB5 HRo HRd F4 K4 HB4'
    go_upto_region 13 with fail
    clear hw5 hmk2 c0 q0 f0
    go_wp2_with fail
    go_loopw [8, 9] (fun x8 x9 wr => ∃ (i : Nat) (st : Bool), i ≤ D.length ∧ x9 = .int .i64 (i : Int) ∧ x8 = .bool st ∧ Hid (st = true → ∀ (j m : Nat), j < i → o[j]? = some m → ∀ u ∈ us (usD D) m, u < m) ∧ Hid (Blk wr w4.heap.size 4 (bits D.length (o.take i))) ∧ Hid (Below w4.heap.size w4 wr)) (fun _ x9 _ => D.length - (intOf x9).toNat)
    case atStart => exact ⟨0, true, Nat.zero_le _, rfl, rfl, hide_ (fun _ j m h => by omega), T5, HB5⟩
    case round =>
      obtain ⟨i, st, hi, rfl, rfl, HSd, HT, HB⟩ := hrel
      generalize wr = wq at *
      clear T5 HB5 HBw
      obtain ⟨s1, s2, s3, s4, s5⟩ := HSt.out _ HB.out
      have HR4 := hide_ s4
      have HB4 := hide_ s5
      by_cases hlt : i < D.length
      · have hlt' : (i : Int) < D.length := by omega
        obtain ⟨m, hm⟩ : ∃ m, o[i]? = some m := ⟨_, List.getElem?_eq_getElem (by rw [HOl.out]; exact hlt)⟩
        have hOm := HG.out.ord i m hm
        have hml : m < D.length := by have := hOm.1; rw [usD_len] at this; exact this
        have hml' : (m : Int) < D.length := by omega
        obtain ⟨bo, oo, rfl, hbo, hco⟩ := s2.open (by rw [natI_len, HOl.out]; omega)
        have cO := hco i (by rw [natI_len, HOl.out]; exact hlt)
        rw [natI_at _ _ _ hm] at cO
        have cT := (HT.out.cell m).trans (bits_at _ _ m hml)
        rw [decide_eq_false hOm.2.1.1] at cT
        have fT := HT.out.frozen m
        obtain ⟨bd, od, rfl, hbd, hcd⟩ := s3.open (by rw [HDl.out]; omega)
        have cD := hcd m (by rw [HDl.out]; exact hml)
        have hge := HG.out.depth HOK.out hml
        have hle := HG.out.deep m
        obtain ⟨dm, hdm⟩ : ∃ dm, ds.getD m 0 = dm := ⟨_, rfl⟩
        rw [hdm] at cD hge hle
        have HDM := hide_ hdm
        obtain ⟨d, hd⟩ : ∃ d, D[m]? = some d := ⟨_, List.getElem?_eq_getElem hml⟩
        have hdk := HOK.out d (List.mem_of_getElem? hd)
        obtain ⟨b, off, rfl, hb, hcl⟩ := r.out.open (by omega)
        obtain ⟨va, vc, hcx, hvc, -, hN⟩ := hcl m d hd
        have c2 := (HB4.out.cell (p := ⟨b, off + m * 3 + 2, none⟩) hb).trans (hcx 2 (by decide))
        simp [dfc] at c2
        have HN := hide_ hN
        have HM := hide_ hm
        have HDd := hide_ hd
        have HOm := hide_ hOm.2.1
        have hlen := hdk.2.1
        have hm0 : ¬ (m : Int) < 0 := by omega
        have hm1 : ¬ (D.length : Int) ≤ (m : Int) := by omega
        have hd1 : ¬ dm < 1 := by omega
        have hd2 : ¬ 64 < dm := by omega
        clear hco hcd hcl hcx hN hm hd hdm hOm s4 s5 s2 s3
        go_upto_region 20 with fail
        clear cO cT cD c2 hm0 hm1 hd1 hd2
        go_wp2_with fail
        go_loopw [8, 12] (fun x8 x12 wr => ∃ (j : Nat) (st : Bool), j ≤ d.ty.length ∧ x12 = .int .i64 (j : Int) ∧ x8 = .bool st ∧ Hid (st = true → (∀ (j m : Nat), j < i → o[j]? = some m → ∀ u ∈ us (usD D) m, u < m) ∧ ∀ x ∈ d.ty.take j, x.k = 9 → numZ D x.name < m) ∧ Hid (Blk wr w4.heap.size 4 (bits D.length (o.take i))) ∧ Hid (Below w4.heap.size w4 wr)) (fun _ x12 _ => d.ty.length - (intOf x12).toNat)
        case atStart => exact ⟨0, st, Nat.zero_le _, rfl, rfl, hide_ (fun h => ⟨HSd.out h, fun x hx => by simp at hx⟩), HT, HB⟩
        case round =>
          obtain ⟨j, sj, hj, rfl, rfl, HSj, HTj, HBj⟩ := hrel
          generalize wr = wp at *
          obtain ⟨s1, s2, s3, s4, s5⟩ := HSt.out _ HBj.out
          by_cases hjl : j < d.ty.length
          · have hjl' : (j : Int) < d.ty.length := by omega
            obtain ⟨bn, on, rfl, hbn, hcn⟩ := HN.out.open (by omega)
            have hx : d.ty[j]? = some (d.ty[j]'hjl) := List.getElem?_eq_getElem hjl
            have hxm : d.ty[j]'hjl ∈ d.ty := List.getElem_mem hjl
            have hcx := hcn j _ hx
            have HTK : Hid (d.ty.take (j + 1) = d.ty.take j ++ [d.ty[j]'hjl]) := List.take_succ_eq_append_getElem hjl
            generalize d.ty[j]'hjl = x at *
            have n0 := (s5.cell (p := ⟨bn, on + j * 7 + 0, none⟩) hbn).trans (hcx 0 (by decide))
            have n2 := (s5.cell (p := ⟨bn, on + j * 7 + 2, none⟩) hbn).trans (hcx 2 (by decide))
            simp [ndc] at n0 n2
            have HN2 : Hid (w.cell? ⟨bn, on + j * 7 + 2, none⟩ = some (.string x.name)) := hide_ (by have h := hcx 2 (by decide); simpa [ndc] using h)
            have HXM := hide_ hxm
            have HR5 := hide_ s4
            have HB5 := hide_ s5
            clear hcn hcx hx hxm s4 s5
            by_cases h9 : x.k = 9
            · have hne : (x.k != 9) = false := by simp [h9]
              obtain ⟨u, hu⟩ := known HG.out.lk HDd.out HXM.out h9
              have hul := numN_lt hu
              have hzu : numZ D x.name = u := by unfold numZ; rw [hu]; rfl
              have hfe : fndE D x.name = 0 := by unfold fndE; rw [hu]
              have HFd : Hid (∀ w', Below w.heap.size w w' → Calls Try.prog 13 #[.agg #[.slice (some ⟨b, off, none⟩) D.length c], .string x.name] w' fun e w'' => e = .returned (.tuple #[.int .i64 (u : Int), .int .i64 0]) ∧ Below w'.heap.size w' w'') := hide_ (fun w' hB => by
                have h := find_any (some ⟨b, off, none⟩) c D x.name w' (by omega) (hide_ (r.out.later hB))
                rw [hzu, hfe] at h
                exact h)
              have huu : u ∈ us (usD D) m := by rw [us_usD HDd.out, ← hzu]; exact mem_usT.2 ⟨x, HXM.out, h9, rfl⟩
              have hmem : u ∈ o.take i := HOm.out.2 u huu
              have hud := HG.out.use HOK.out HDd.out HXM.out h9
              rw [hzu, HDM.out] at hud
              have HZU := hide_ hzu
              clear hu hzu hfe huu
              have HS24 : Hid (∀ w', Below w4.heap.size w4 w' → (fun w' => w'.cell? ⟨w.heap.size, 0, none⟩ = some (.slice (some ⟨b, off, none⟩) D.length c) ∧ w'.cell? ⟨bn, on + j * 7 + 2, none⟩ = some (.string x.name)) w') := hide_ (fun w' hB => by
                have h := HSt.out _ hB
                exact ⟨h.1, (h.2.2.2.2.cell (p := ⟨bn, on + j * 7 + 2, none⟩) hbn).trans HN2.out⟩)
              go_upto_region 24 with fail
              go_wp2_with fail
              refine wp_region_held_drew (S := (fun w' => w'.cell? ⟨w.heap.size, 0, none⟩ = some (.slice (some ⟨b, off, none⟩) D.length c) ∧ w'.cell? ⟨bn, on + j * 7 + 2, none⟩ = some (.string x.name))) (by kernel_rfl) (HS24.out _ HBj.out.drew) (fun hHeld => ?_)
              refine wpAnyH_take (i := 0) (v := ?v14) rfl (by kernel_rfl) (by kernel_rfl) (by kernel_rfl) (fun _ _ _ h => h) (Or.inl ⟨by rfl, ?hy14⟩) hHeld ?rest14
              case hy14 => intro w' hSw; (try dsimp only at hSw); go_simp; try with_reducible rfl
              simp only [Act.put]
              refine wpAnyH_take (i := 1) (v := ?v15) rfl (by kernel_rfl) (by kernel_rfl) (by kernel_rfl) (fun _ _ _ h => h) (Or.inl ⟨by rfl, ?hy15⟩) hHeld ?rest15
              case hy15 => intro w' hSw; (try dsimp only at hSw); go_simp; try with_reducible rfl
              simp only [Act.put]
              refine wpAnyH_take (i := 2) (v := ?v16) rfl (by kernel_rfl) (by kernel_rfl) (by kernel_rfl) (fun _ _ _ h => h) (Or.inl ⟨by rfl, ?hy16⟩) hHeld ?rest16
              case hy16 => intro w' hSw; (try dsimp only at hSw); go_simp; try with_reducible rfl
              simp only [Act.put]
              refine wpAnyH_take (i := 3) (v := ?v17) rfl (by kernel_rfl) (by kernel_rfl) (by kernel_rfl) (fun _ _ _ h => h) (Or.inl ⟨by rfl, ?hy17⟩) hHeld ?rest17
              case hy17 => intro w' hSw; (try dsimp only at hSw); go_simp; try with_reducible rfl
              simp only [Act.put]
              refine wpAnyH_take (i := 4) (v := ?v18) rfl (by kernel_rfl) (by kernel_rfl) (by kernel_rfl) (fun _ _ _ h => h) (Or.inl ⟨by rfl, ?hy18⟩) hHeld ?rest18
              case hy18 => intro w' hSw; (try dsimp only at hSw); go_simp; try with_reducible rfl
              simp only [Act.put]
              refine wpAnyH_take (i := 5) (v := ?v19) rfl (by kernel_rfl) (by kernel_rfl) (by kernel_rfl) (fun _ _ _ h => h) (Or.inl ⟨by rfl, ?hy19⟩) hHeld ?rest19
              case hy19 => intro w' hSw; (try dsimp only at hSw); go_simp; try with_reducible rfl
              simp only [Act.put]
              refine wpAnyH_ready (rs := [6]) (by kernel_rfl) (by simp) ?_
              refine AllReadyH.cons rfl (fun K hK => ?_) AllReadyH.nil
              go_simp
              refine (HFd.out _ HB5.out.drew).mono ?_
              rintro e w6 ⟨rfl, hB6⟩
              dsimp only
              have hB6' : Below wp.heap.size wp w6 := ⟨hB6.os, hB6.tape, hB6.output, hB6.size, hB6.block⟩
              have HB6 := hide_ (below_to HBj.out hB6')
              refine hK.out _ _ (HS24.out _ HB6.out) (fun hHeld => ?_)
              clear hK K
              refine wpAnyH_take (i := 7) (v := ?v9) rfl (by kernel_rfl) (by kernel_rfl) (by kernel_rfl) (fun _ _ _ h => h) (Or.inl ⟨by rfl, ?hy9⟩) hHeld ?rest9
              case hy9 => intro w' hSw; (try dsimp only at hSw); go_simp; try with_reducible rfl
              simp only [Act.put]
              refine wpAnyH_take (i := 8) (v := ?v10) rfl (by kernel_rfl) (by kernel_rfl) (by kernel_rfl) (fun _ _ _ h => h) (Or.inl ⟨by rfl, ?hy10⟩) hHeld ?rest10
              case hy10 => intro w' hSw; (try dsimp only at hSw); go_simp; try with_reducible rfl
              simp only [Act.put]
              refine wpAnyH_take (i := 9) (v := ?v11) rfl (by kernel_rfl) (by kernel_rfl) (by kernel_rfl) (fun _ _ _ h => h) (Or.inl ⟨by rfl, ?hy11⟩) hHeld ?rest11
              case hy11 => intro w' hSw; (try dsimp only at hSw); go_simp; try with_reducible rfl
              simp only [Act.put]
              refine wpAnyH_take (i := 10) (v := ?v12) rfl (by kernel_rfl) (by kernel_rfl) (by kernel_rfl) (fun _ _ _ h => h) (Or.inl ⟨by rfl, ?hy12⟩) hHeld ?rest12
              case hy12 => intro w' hSw; (try dsimp only at hSw); go_simp; try with_reducible rfl
              simp only [Act.put]
              refine wpAnyH_take (i := 11) (v := ?v13) rfl (by kernel_rfl) (by kernel_rfl) (by kernel_rfl) (fun _ _ _ h => h) (Or.inl ⟨by rfl, ?hy13⟩) hHeld ?rest13
              case hy13 => intro w' hSw; (try dsimp only at hSw); go_simp; try with_reducible rfl
              simp only [Act.put]
              refine wpAnyH_done (by kernel_rfl) ?_ _
              have HT6 := hide_ (HTj.out.later hB6')
              obtain ⟨t1, t2, t3, t4, t5⟩ := HSt.out _ HB6.out
              clear hHeld hB6 hB6' HS24 HFd n0 n2 hne s1 s2 s3
              have hul' : (u : Int) < D.length := by omega
              have ct := (HT6.out.cell u).trans (bits_at _ _ u hul)
              rw [decide_eq_true hmem] at ct
              obtain ⟨bd2, od2, e2, hbd2, hcd2⟩ := t3.open (by rw [HDl.out]; omega)
              injection e2 with e2
              injection e2 with e2a e2b
              subst e2a e2b
              have cu := hcd2 u (by rw [HDl.out]; exact hul)
              have cm := hcd2 m (by rw [HDl.out]; exact hml)
              rw [HDM.out] at cm
              obtain ⟨du, hdu⟩ : ∃ du, ds.getD u 0 = du := ⟨_, rfl⟩
              rw [hdu] at cu hud
              have g1 : ((0 : Int) != 0) = false := by decide
              have g2 : decide ((u : Int) < 0) = false := by simp
              have g3 : decide ((D.length : Int) ≤ (u : Int)) = false := by simp; omega
              have g4 : decide (dm < du) = false := by simp; omega
              have HS2 : Hid ((sj && decide ((u : Int) < (m : Int))) = true → (∀ (j m : Nat), j < i → o[j]? = some m → ∀ u ∈ us (usD D) m, u < m) ∧ ∀ x ∈ d.ty.take (j + 1), x.k = 9 → numZ D x.name < m) := hide_ (fun h => by
                rw [Bool.and_eq_true] at h
                refine ⟨(HSj.out h.1).1, fun y hy hy9 => ?_⟩
                rw [HTK.out] at hy
                rcases List.mem_append.1 hy with hy | hy
                · exact (HSj.out h.1).2 y hy hy9
                · simp at hy; subst hy
                  rw [HZU.out]
                  have := of_decide_eq_true h.2
                  omega)
              clear hcd2 hdu t1 t2 t3 t4 t5 hmem
              go_wp2_with fail
              go_quiet (fail)
              clear ct cu cm hbd2 hHeld
              have HT7 := hide_ (HT6.out.drewN nq)
              have HB7 := hide_ (below_drewN HB6.out nq)
              clear HT6 HB6
              generalize w6.drewN nq = w7 at *
              cases sj with
              | false =>
                go_wp2_with fail
                go_roundw
                case rel => exact ⟨j + 1, false, by omega, by go_num, rfl, hide_ (fun h => by simp at h), HT7, HB7⟩
                case measure => simp [intOf]; omega
              | true =>
                go_wp2_with fail
                go_roundw
                case rel => refine ⟨j + 1, _, by omega, by go_num, rfl, ?_, HT7, HB7⟩; exact hide_ (fun h => HS2.out (by simpa using h))
                case measure => simp [intOf]; omega
            · have hne : (x.k != 9) = true := by simpa using h9
              have HS2 : Hid (sj = true → (∀ (j m : Nat), j < i → o[j]? = some m → ∀ u ∈ us (usD D) m, u < m) ∧ ∀ x ∈ d.ty.take (j + 1), x.k = 9 → numZ D x.name < m) := hide_ (fun h => ⟨(HSj.out h).1, fun y hy hy9 => by
                rw [HTK.out] at hy
                rcases List.mem_append.1 hy with hy | hy
                · exact (HSj.out h).2 y hy hy9
                · simp at hy; subst hy; exact absurd hy9 h9⟩)
              go_wp2_with fail
              go_roundw
              case rel => exact ⟨j + 1, sj, by omega, by go_num, rfl, HS2, HTj, HBj⟩
              case measure => simp [intOf]; omega
          · obtain rfl : j = d.ty.length := by omega
            have ct := (HTj.out.cell m).trans (bits_at _ _ m hml)
            have ft := HTj.out.frozen m
            have HT2 : Hid (Blk (wp.setCell ⟨w4.heap.size, m, none⟩ (.bool true)) w4.heap.size 4 (bits D.length (o.take (i + 1)))) := hide_ (by
              have hi2 : i < o.length := by rw [HOl.out]; exact hlt
              have e : o.take (i + 1) = o.take i ++ [m] := by
                rw [List.take_succ_eq_append_getElem hi2]
                have := HM.out
                rw [List.getElem?_eq_getElem hi2] at this
                simp only [Option.some.injEq] at this
                rw [this]
              rw [e, ← bits_set _ _ _ hml]
              exact HTj.out.set m _)
            have HB2 := hide_ (HBj.out.trans (((Upd.refl (fun k => k = w4.heap.size) wp).set ⟨w4.heap.size, m, none⟩ (.bool true) (.inl rfl)).below w4.heap.size HBj.out.size (fun k hk => by omega)))
            have HS2 : Hid (sj = true → ∀ (j m : Nat), j < i + 1 → o[j]? = some m → ∀ u ∈ us (usD D) m, u < m) := hide_ (fun h k m' hk hm' u hu => by
              rcases Nat.lt_or_ge k i with hki | hki
              · exact (HSj.out h).1 k m' hki hm' u hu
              · obtain rfl : k = i := by omega
                have e := HM.out
                rw [hm'] at e
                simp only [Option.some.injEq] at e
                subst e
                rw [us_usD HDd.out] at hu
                obtain ⟨x, hx, h9, rfl⟩ := mem_usT.1 hu
                exact (HSj.out h).2 x (by rw [List.take_length]; exact hx) h9)
            generalize decide (m ∈ o.take i) = dd at *
            go_wp2_with fail
            go_roundw
            case rel => exact ⟨i + 1, sj, by omega, by go_num, rfl, HS2, HT2, HB2⟩
            case measure => simp [intOf]; omega
      · obtain rfl : i = D.length := by omega
        have HId : Hid (st = true → ∀ k, k < D.length → o[k]? = some k) := hide_ (fun h => by
          have h2 := stands_id HG.out.ord (by rw [HOl.out, usD_len]) (fun m hm u hu => by
            rw [usD_len] at hm
            have hmo := HG.out.ord.all (by rw [HOl.out, usD_len]) (n := m) (by rw [usD_len]; exact hm)
            obtain ⟨k, hk, e⟩ := List.getElem_of_mem hmo
            exact HSd.out h k m (by rw [← HOl.out]; exact hk) (by rw [← e]; exact List.getElem?_eq_getElem hk) u hu)
          rw [usD_len] at h2
          exact h2)
        have HRo2 := hide_ s2
        clear s2 s3 s4 s5 HSd
        go_wp2_with fail
        go_loop [15] (fun x15 => ∃ k : Nat, k ≤ D.length ∧ x15 = .int .i64 (k : Int)) (fun x15 => D.length - (intOf x15).toNat)
        case atStart => exact ⟨0, Nat.zero_le _, rfl⟩
        case round =>
          obtain ⟨k, hk, rfl⟩ := hrel
          cases st with
          | false =>
            go_wp2
            go_ret
            exact ⟨rfl, HB4.out⟩
          | true =>
            by_cases hkl : k < D.length
            · have hkl' : (k : Int) < D.length := by omega
              obtain ⟨bo, oo, rfl, hbo, hco⟩ := HRo2.out.open (by rw [natI_len, HOl.out]; omega)
              have cO := hco k (by rw [natI_len, HOl.out]; exact hkl)
              rw [natI_at _ _ _ (HId.out rfl k hkl)] at cO
              have hkk : ((k : Int) != (k : Int)) = false := by simp
              clear hco
              go_wp2_with fail
              go_round
              case rel => exact ⟨k + 1, by omega, by go_num⟩
              case measure => simp [intOf]; omega
            · obtain rfl : k = D.length := by omega
              go_wp2
              go_ret
              exact ⟨rfl, HB4.out⟩
  · have hne : (E != 0) = true := by simpa using hE
    obtain ⟨rfl, rfl⟩ := HL.out.err hE
    simp only [List.length_nil]
    go_wp2
    go_ret
    exact ⟨rfl, HB4'.out⟩
end Go.Proofs.Yteopgffgimkgmaa
