/- lookAtNames. -/
import Derived.Test.YtjeafblkmipdmaaYf
import Derived.Test.YtjeafblkmipdmaaLt
namespace Go.Proofs.Ytjeafblkmipdmaa
open Go.RowKit
set_option linter.unusedVariables false

/-- What a definition that Check takes is like. -/
def DfOk1 (d : Df) : Prop := d.name.size ≤ 32 ∧ d.ty.length ≤ 1954687338267 ∧ ctN d.ty 1 ∧ NineOk d.ty ∧ ∀ x ∈ d.ty, NodeOk1 x
theorem df_ok {D : List Df} (h : (ckP D).2.2 = 0) (hw : Wt D) : D.length ≤ 256 ∧ ∀ d ∈ D, DfOk1 d := by
  obtain ⟨h1, h2⟩ := ckP_all h
  refine ⟨h1, fun d hd => ?_⟩
  obtain ⟨h3, h4⟩ := h2 d hd
  refine ⟨?_, hw.2 d hd, tree_ctN h4, fun x hx h9 => ?_, fun x hx => ?_⟩
  · unfold isName at h3; exact (of_decide_eq_true h3).2.1
  · obtain ⟨_, _, h5⟩ := Forest.kinds _ _ _ _ _ h4 x hx
    exact ndE_nine h5 h9
  · obtain ⟨_, _, h5⟩ := Forest.kinds _ _ _ _ _ h4 x hx
    exact ndE_ok h5
set_option maxRecDepth 100000 in
set_option maxHeartbeats 8000000 in
theorem names1_any (a : Option Addr) (c : Nat) (D : List Df) (bn : Nat) (w : World) (hD : D.length ≤ 256) (hok : Hid (∀ d ∈ D, DfOk1 d)) (r : Hid (DRow w a D)) (hM : Hid (MpS w bn 256 (numN D))) :
    Calls Try.prog 18 #[.agg #[.slice a D.length c], .map (some bn)] w fun e w' => e = .returned (.agg #[.int .i64 (lkD D D 0).1, .int .i64 (lkD D D 0).2]) ∧ Hid (Below w.heap.size w w') := by
  obtain ⟨R, hR⟩ : ∃ R, lkD D D 0 = R := ⟨_, rfl⟩
  have HR : Hid (lkD D (D.drop 0) 0 = R) := hR
  rw [hR]
  clear hR
  obtain ⟨w1, hw1⟩ : ∃ w1, w1 = w.alloc (.cells #[.slice a D.length c] 24) := ⟨_, rfl⟩
  have HB1 : Hid (Below w.heap.size w w1) := by rw [hw1]; exact (Below.refl _ _).alloc (Nat.le_refl _) _
  have k1 := Blk.newA w #[.slice a D.length c] 24
  rw [← hw1] at k1
  have hs1 : w.heap.size ≤ w1.heap.size := HB1.out.size
  obtain ⟨w2, hw2⟩ : ∃ w2, w2 = w1.alloc (.cells #[.int .i64 0, .int .i64 0] 28) := ⟨_, rfl⟩
  have HB2 : Hid (Below w.heap.size w w2) := by rw [hw2]; exact HB1.out.alloc hs1 _
  have HF2 : Hid (Blk w2 w1.heap.size 28 [.int .i64 0, .int .i64 0]) := by rw [hw2]; exact Blk.newA w1 #[.int .i64 0, .int .i64 0] 28
  have k2 : Blk w2 w.heap.size 24 [.slice a D.length c] := by rw [hw2]; exact k1.alloc _
  have c0 := k2.cell 0
  simp at c0
  have hz1 : w1.heap.size = w.heap.size + 1 := by rw [hw1]; simp
  have e12 : (w.alloc (.cells #[.slice a D.length c] 24)).alloc (.cells #[.int .i64 0, .int .i64 0] 28) = w2 := by rw [hw2, hw1]
  have HZ1 := hide_ hz1
  clear k1 k2 hw2 hw1 hz1
  go_enter Try.func18, Try.ntmps18
  go_upto_region 1 with fail
  rw [← HZ1.out]
  clear e12
  go_wp2_with fail
  clear c0
  go_loopw [11] (fun x11 wr => ∃ i : Nat, i ≤ D.length ∧ x11 = .int .i64 (i : Int) ∧ Hid (lkD D (D.drop i) i = R) ∧ Hid (Blk wr w1.heap.size 28 [.int .i64 0, .int .i64 0]) ∧ Hid (Below w.heap.size w wr)) (fun x11 _ => D.length - (intOf x11).toNat)
  case atStart => exact ⟨0, Nat.zero_le _, rfl, HR, HF2, HB2⟩
  case round =>
    obtain ⟨i, hi, rfl, HL, HF, HB⟩ := hrel
    generalize wr = wq at *
    clear HF2 HB2 HB1 HR
    by_cases hlt : i < D.length
    · have hlt' : (i : Int) < D.length := by omega
      obtain ⟨b, o, rfl, hb, hc⟩ := (r.out.later HB.out).open (by omega)
      have hx : D[i]? = some (D[i]'hlt) := List.getElem?_eq_getElem hlt
      obtain ⟨va, vc, hcx, hvc, -, hN⟩ := hc i _ hx
      have hd1 := hok.out _ (List.getElem_mem hlt)
      have hdr : D.drop i = D[i]'hlt :: D.drop (i + 1) := List.drop_eq_getElem_cons hlt
      have HNm : Hid (∃ j, numN D (D[i]'hlt).name = some j) := hide_ (by
        cases h : numN D (D[i]'hlt).name with
        | some j => exact ⟨j, rfl⟩
        | none =>
          unfold numN at h
          rw [List.findIdx?_eq_none_iff] at h
          have := h _ (List.getElem_mem hlt)
          simp at this)
      generalize D[i]'hlt = d at *
      rw [hdr, lkD] at HL
      have i0 := hcx 0 (by decide); have i1 := hcx 1 (by decide); have i2 := hcx 2 (by decide)
      simp [dfc] at i0 i1 i2
      clear hc hx hcx hdr
      have kx := Blk.newA wq #[.string d.name, .int .i64 d.a, .slice va d.ty.length vc] 41
      have hBx : Below wq.heap.size wq (wq.alloc (.cells #[.string d.name, .int .i64 d.a, .slice va d.ty.length vc] 41)) := (Below.refl _ _).alloc (Nat.le_refl _) _
      obtain ⟨wx, hwx⟩ : ∃ wx, wx = wq.alloc (.cells #[.string d.name, .int .i64 d.a, .slice va d.ty.length vc] 41) := ⟨_, rfl⟩
      rw [← hwx] at kx hBx
      have HFx := hide_ (HF.out.later hBx)
      have HBx := hide_ (below_to HB.out hBx)
      have HNx := hide_ (hN.later hBx)
      have HMx := hide_ (hM.out.later HBx.out)
      have j0 := kx.cell 0; have j1 := kx.cell 1; have j2 := kx.cell 2
      simp at j0 j1 j2
      clear kx hBx HF hN
      go_upto_region 4 with fail
      rw [← hwx]
      clear hwx i0 i1 i2
      have hlk := HMx.out.look d.name (by have := hd1.1; unfold maxLen; exact Nat.le_trans this (by decide))
      obtain ⟨j, hj⟩ := HNm.out
      have hjl := numN_lt hj
      rw [hj] at hlk
      simp only [Option.getD_some] at hlk
      by_cases hji : j = i
      · subst hji
        have HL1 : Hid ((if (lkT D d.ty).1 = 0 then lkD D (D.drop (j + 1)) (j + 1) else lkT D d.ty) = R) := hide_ (by have h := HL.out; rw [if_pos hj] at h; exact h)
        have hne : ((j : Int) != (j : Int)) = false := by simp
        obtain ⟨T, hT⟩ : ∃ T, lkT D d.ty = T := ⟨_, rfl⟩
        have HCon := nodes1_any va vc d.ty D bn wx hd1.2.1 HNx hd1.2.2.1 hd1.2.2.2.2 HMx
        rw [hT] at HCon HL1
        have HCon := hide_ HCon
        clear hT HL HNm hj
        obtain ⟨T1, T2⟩ := T
        simp only at HCon HL1
        by_cases hE : T1 = 0
        · subst hE
          have HL2 : Hid (lkD D (D.drop (j + 1)) (j + 1) = R) := hide_ (by have h := HL1.out; rw [if_pos rfl] at h; exact h)
          clear HL1
          go_wp2_with (go_at_call 25; refine HCon.out.mono ?_; rintro e w5 ⟨rfl, HB5⟩)
          go_roundw
          case rel => exact ⟨j + 1, by omega, by go_num, HL2, hide_ ((HFx.out.later HB5.out).alloc _), hide_ ((below_to HBx.out HB5.out).alloc (below_to HBx.out HB5.out).size _)⟩
          case measure => simp [intOf]; omega
        · have hE' : (T1 != 0) = true := by simpa using hE
          have HV : Hid (R = (T1, T2)) := hide_ (by have h := HL1.out; rw [if_neg hE] at h; exact h.symm)
          clear HL1
          go_upto_region 7 with (go_at_call 25; refine HCon.out.mono ?_; rintro e w5 ⟨rfl, HB5⟩)
          have HF6 := hide_ ((HFx.out.later HB5.out).alloc (.cells #[.int .i64 T1, .int .i64 T2] 28))
          have HB6 := hide_ ((below_to HBx.out HB5.out).alloc (below_to HBx.out HB5.out).size (.cells #[.int .i64 T1, .int .i64 T2] 28))
          have k6 := Blk.newA w5 #[.int .i64 T1, .int .i64 T2] 28
          obtain ⟨w6, hw6⟩ : ∃ w6, w6 = w5.alloc (.cells #[.int .i64 T1, .int .i64 T2] 28) := ⟨_, rfl⟩
          rw [← hw6] at HF6 HB6 k6 ⊢
          clear hw6
          have c0 := HF6.out.cell 0; have c1 := HF6.out.cell 1
          have f0 := HF6.out.frozen 0; have f1 := HF6.out.frozen 1
          have l0 := k6.cell 0; have l1 := k6.cell 1
          simp at c0 c1 l0 l1
          go_wp2
          exact retF (a := T1) (b := T2) rfl rfl (wr2 HF6.out _ _) ⟨by rw [HV.out], hide_ (below_set2 HB6.out _ _ _ hs1)⟩
      · have HV : Hid (R = (80, d.a)) := hide_ (by have h := HL.out; rw [if_neg (by rw [hj]; simpa using hji)] at h; exact h.symm)
        have hne : ((j : Int) != (i : Int)) = true := by simp; omega
        have hb8 := bldF 80 d.a
        have c0 := HFx.out.cell 0; have c1 := HFx.out.cell 1
        have f0 := HFx.out.frozen 0; have f1 := HFx.out.frozen 1
        simp at c0 c1
        clear HL hj HNm
        go_wp2
        exact retF (a := 80) (b := d.a) rfl rfl (wr2 HFx.out _ _) ⟨by rw [HV.out], hide_ (below_set2 HBx.out _ _ _ hs1)⟩
    · obtain rfl : i = D.length := by omega
      have HV : Hid (R = (0, 0)) := hide_ (by have h := HL.out; rw [List.drop_length] at h; rw [← h]; rfl)
      have hb0 := bldF0
      have c0 := HF.out.cell 0; have c1 := HF.out.cell 1
      have f0 := HF.out.frozen 0; have f1 := HF.out.frozen 1
      simp at c0 c1
      go_wp2
      exact retF (a := 0) (b := 0) rfl rfl (wr2 HF.out _ _) ⟨by rw [HV.out], hide_ (below_set2 HB.out _ _ _ hs1)⟩
end Go.Proofs.Ytjeafblkmipdmaa
