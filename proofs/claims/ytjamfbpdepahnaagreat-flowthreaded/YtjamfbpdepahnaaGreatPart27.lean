import Derived.Test.YtjamfbpdepahnaaGreatPart26
import Derived.Deep.LoopGhost
namespace Go.Proofs.YtjamfbpdepahnaaGreat
open Go.RowKit
set_option linter.unusedVariables false
set_option linter.unusedSimpArgs false
theorem bare_le (S : List St) : bare0 S ≤ S.length := List.countP_le_length
theorem goP_same {enc : Bool} {C : List In} {r : Int} (hW : WIn C) {f : Nat} {S : List St} {P : List Int} (h : Pnd C.length S P) (hf : msr S P < f) (h0 : P ≠ []) {Z : Int × List St × List Int} (hz : lookP enc C r S (popH P).2 (popH P).1.toNat = Z) : goP enc C r f S P = if Z.1 = 1048576 then goP enc C r f Z.2.1 Z.2.2 else Z := by
  rw [goP_step hW h hf h0, hz]
theorem handsP_sok {enc : Bool} {C : List In} {r : Int} {s : St} {x : In} (hs : ∀ way, SOk (mHd enc s x way)) : ∀ (ws : List Int) (way : Nat) {S : List St} {P : List Int}, SAll S → SAll (handsP enc C r s x ws way S P).2.1
  | [], _, S, P, h => h
  | n :: ws, way, S, P, h => by
    rw [handsP]
    split
    · exact handsP_sok hs ws (way + 1) (handP_sok h n.toNat (hs _))
    · exact h
theorem lookP_sok {enc : Bool} {C : List In} {r : Int} {S : List St} {P : List Int} (hC : CdOk enc C) (h : SAll S) {k : Nat} (hk : k < C.length) : SAll (lookP enc C r S P k).2.1 := by
  unfold lookP
  split
  · exact h
  · rename_i hq
    exact handsP_sok (fun way => mHd_ok (h k) (hC.ok k hk) (by cases hm : mSt enc (stA S k) (inA C k) r; exact absurd (.inl hm) hq; rfl) way) _ _ h
set_option maxRecDepth 100000 in
set_option maxHeartbeats 16000000 in
theorem through_any (w0 : World) (b gs bc oc cc : Nat) (enc : Bool) (C : List In) (r : Int) (S : List St) (vp : Value) (k : Nat) (w : World) (hk : k < C.length) (hcc : C.length ≤ cc) (hcl : cc ≤ 9223372036854775807) (hC : Hid (CdOk enc C)) (hW : Hid (WIn C)) (hS : Hid (SAll S)) (hN : Hid (Pnd C.length S [])) (h : Hid (LkS w0 w b gs bc oc cc enc C r S [] vp)) :
    Calls Tryz.prog 35 #[.pointer (some ⟨b, 0, none⟩), .int .i64 (k : Int)] w fun e w' => LoTo w0 b gs bc oc cc enc C r (thruP enc C r S [] k) e w' := by
  obtain ⟨R, hR⟩ : ∃ R, thruP enc C r S [] k = R := ⟨_, rfl⟩
  rw [hR]
  unfold thruP at hR
  have HR := hide_ hR
  have c0 := h.out.cells.1
  have mB := mtBg enc 281 w
  have eB := enBg enc
  have HB := hide_ (mbegin_any enc w)
  obtain ⟨F, hF⟩ : ∃ F, 2 * C.length + 2 = F := ⟨_, rfl⟩
  rw [hF] at HR
  have HF := hide_ hF
  clear hR hF
  go_enter Tryz.func35, Tryz.ntmps35
  go_wp2_with fail
  refine HB.out.mono ?_
  rintro e w1 ⟨rfl, hB1⟩
  have HL1 := hide_ (h.out.later hB1)
  clear mB eB HB c0 hB1 h
  go_wp2_with fail
  refine (handed_any w0 b gs bc oc cc enc C r S [] vp k (mBg enc) w1 hk hcc hcl hC (hide_ (mBg_ok enc)) (hide_ (fun j _ => hS.out j)) (by simp) HL1).mono ?_
  rintro e w2 hT
  obtain ⟨vp2, rfl, hL2, -⟩ := hT
  have HL2 := hide_ hL2
  have HOK := hide_ (handP_ok (enc := enc) (C := C) (r := r) hN.out hk (mBg_pl enc))
  have HSO := hide_ (handP_sok (enc := enc) (C := C) (r := r) (P := []) hS.out k (mBg_ok enc))
  have HNO := hide_ (handP_no (enc := enc) (C := C) (r := r) (S := S) (P := []) (k := k) (s := mBg enc))
  have Hm0 : Hid (msr S [] < F) := hide_ (by
    have := bare_le S
    have := HL1.out.len
    have := HF.out
    unfold msr
    simp
    omega)
  clear hL2
  generalize handP enc C r S [] k (mBg enc) = Z at *
  obtain ⟨z, S2, P2⟩ := Z
  cases z
  · have HX : Hid (LoTo w0 b gs bc oc cc enc C r R (.returned (.int .i64 (k : Int))) w2) := hide_ (by
      have h1 := HNO.out rfl
      have h2 := HR.out
      rw [if_neg (by simp)] at h2
      rw [← h2]
      refine ⟨vp2, rfl, ?_⟩
      have h3 := HL2.out
      simp only [Prod.mk.injEq] at h1
      rw [← h1.1, ← h1.2]
      exact h3)
    clear HOK HSO HNO HR
    go_wp2_with fail
    go_ret
    exact HX.out
  · have HR2 : Hid (goP enc C r F S2 P2 = R) := hide_ (by
      have h2 := HR.out
      rw [if_pos rfl] at h2
      exact h2)
    have HN2 : Hid (Pnd C.length S2 P2) := hide_ HOK.out.1
    have HM2 : Hid (msr S2 P2 < F) := hide_ (Nat.lt_of_le_of_lt HOK.out.2.1 Hm0.out)
    have HS2 : Hid (SAll S2) := HSO
    clear HOK HSO HNO HR hS hN Hm0 HL1
    go_wp2_with fail
    go_loopg [5] (msr S2 P2) (fun gk x5 wr => ∃ (Sj : List St) (Pj : List Int) (vj : Value), Hid (msr Sj Pj = gk) ∧ Hid (goP enc C r F Sj Pj = R) ∧ Hid (LkS w0 wr b gs bc oc cc enc C r Sj Pj vj) ∧ Hid (SAll Sj) ∧ Hid (Pnd C.length Sj Pj) ∧ Hid (msr Sj Pj < F))
    case atStart => exact ⟨S2, P2, vp2, hide_ rfl, HR2, HL2, HS2, HN2, HM2⟩
    case round =>
      clear HR2 HN2 HM2 HS2 HL2
      obtain ⟨Sj, Pj, vj, Hgk, HRj, HLj, HSj, HNj, HMj⟩ := hrel
      generalize wr = wq at *
      by_cases hP0 : Pj = []
      · subst hP0
        obtain ⟨a, c, hv⟩ := HLj.out.pend.slice
        have hv : vj = .slice a 0 c := hv
        subst hv
        have c4 := HLj.out.cells.2.2.2.2
        have HX : Hid (LoTo w0 b gs bc oc cc enc C r R (.returned (.int .i64 1048576)) wq) := hide_ (by
          have h2 := HRj.out
          rw [goP_nil] at h2
          rw [← h2]
          exact ⟨_, rfl, HLj.out⟩)
        go_wp2_with fail
        go_ret
        exact HX.out
      · have hl0 : 0 < Pj.length := List.length_pos_iff.2 hP0
        obtain ⟨g, c, hv, hcv, -, -⟩ := HLj.out.pend.open hl0
        obtain ⟨n, hn⟩ : ∃ n, Pj.length = n + 1 := ⟨Pj.length - 1, by omega⟩
        rw [hn] at hv hcv
        subst hv
        have c4 := HLj.out.cells.2.2.2.2
        have hnb : n < 4000000 := by
          have h1 := HMj.out
          have h2 := HF.out
          have h3 := hC.out.nc
          unfold msr at h1
          omega
        have HPop := hide_ (hPop_any b 4 w0.heap.size g c n Pj wq (hide_ hn) hnb hcv (hide_ HLj.out.nm))
        obtain ⟨hq1, hq2, hq3, hq4, hq5⟩ := pop_ok HNj.out hP0
        obtain ⟨q, hq⟩ := Int.eq_ofNat_of_zero_le hq3
        have hqC : q < C.length := by omega
        obtain ⟨Z, hZ⟩ : ∃ Z, lookP enc C r Sj (popH Pj).2 (popH Pj).1.toNat = Z := ⟨_, rfl⟩
        have HG := hide_ (goP_same (enc := enc) (r := r) hW.out HNj.out HMj.out hP0 hZ)
        have HLO := hide_ (lookP_ok (enc := enc) (r := r) hW.out hq1 (k := (popH Pj).1.toNat) (by omega) hq5)
        have HSk := hide_ (lookP_sok (enc := enc) (C := C) (r := r) (P := (popH Pj).2) hC.out HSj.out (k := (popH Pj).1.toNat) (by omega))
        rw [hZ] at HLO HSk
        rw [hq, Int.toNat_natCast] at hZ
        have HZ := hide_ hZ
        have Hpl : Hid ((stA Sj q).pl ≠ 0) := hide_ (by rw [hq, Int.toNat_natCast] at hq5; exact hq5)
        rw [hq] at HPop
        generalize (popH Pj).2 = P' at *
        have HN' := hide_ hq1
        have HM' : Hid (msr Sj P' < msr Sj Pj) := hide_ (by omega)
        have tA : ∀ (t : TypeId) (w' : World), Sem.run Tryz.prog (Instr.typeAssert (.iface 3 (.int .i64 (q : Int))) t 3 false) w' = .ok (.int .i64 (q : Int)) w' := fun t w' => by rfl
        have Hn := hide_ hn
        clear hq1 hq2 hq3 hq4 hq5 hZ hq hn hP0 hl0
        go_wp2_with fail
        refine HPop.out.mono ?_
        rintro e w3 ⟨rfl, HNm, HU, HK⟩
        have HL3 := hide_ (HLj.out.popped HNm.out HU.out HK.out)
        clear HPop HNm HU HK c4
        go_wp2_with fail
        refine (lookAt_any w0 b gs bc oc cc enc C r Sj P' (.slice (some ⟨g, 0, none⟩) n c) q w3 hqC hcc hcl hC hW HSj HN' (hide_ (by have := HM'.out; have := HMj.out; have := HF.out; omega)) Hpl HL3).mono ?_
        rintro e w4 hT
        rw [HZ.out] at hT
        obtain ⟨v4, rfl, hL4⟩ := hT
        have HL4 := hide_ hL4
        clear hL4 tA
        obtain ⟨z, S4, P4⟩ := Z
        by_cases hz : z = 1048576
        · have f1 : (z != 1048576) = false := by simp [hz]
          have HR4 : Hid (goP enc C r F S4 P4 = R) := hide_ (by
            have h1 := HG.out
            rw [HRj.out, if_pos hz] at h1
            exact h1.symm)
          have HM4 : Hid (msr S4 P4 < gk) := hide_ (by
            have h1 := HLO.out.2
            have h2 := HM'.out
            have h3 := Hgk.out
            have h1 : msr S4 P4 ≤ msr Sj P' := h1
            omega)
          have HN4 : Hid (Pnd C.length S4 P4) := hide_ HLO.out.1
          have HS4 : Hid (SAll S4) := HSk
          have HM5 : Hid (msr S4 P4 < F) := hide_ (by have h1 := HM4.out; have h2 := Hgk.out; have h3 := HMj.out; omega)
          clear hz HG HLO HSk
          go_wp2_with fail
          go_roundg (msr S4 P4)
          case measure => exact HM4.out
          case rel => exact ⟨S4, P4, v4, hide_ rfl, HR4, HL4, HS4, HN4, HM5⟩
        · have f1 : (z != 1048576) = true := by simp [hz]
          have HX : Hid (LoTo w0 b gs bc oc cc enc C r R (.returned (.int .i64 z)) w4) := hide_ (by
            have h1 := HG.out
            rw [HRj.out, if_neg hz] at h1
            rw [h1]
            exact ⟨v4, rfl, HL4.out⟩)
          clear hz HG HLO HSk
          go_wp2_with fail
          go_ret
          exact HX.out
end Go.Proofs.YtjamfbpdepahnaaGreat
