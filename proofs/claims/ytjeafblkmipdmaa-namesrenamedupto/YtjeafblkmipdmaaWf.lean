/- Check. -/
import Derived.Test.YtjeafblkmipdmaaWe
namespace Go.Proofs.Ytjeafblkmipdmaa
open Go.RowKit
set_option linter.unusedVariables false

def ckL : List Df → Nat → Int × Int × Int
  | [], i => (0, 0, 0)
  | d :: D, i => if isName d.name = false then ((i : Int), 0, 62) else if (ct d.ty 0 [(0, 1)]).2 = 0 then ckL D (i + 1) else ((i : Int), (ct d.ty 0 [(0, 1)]).1, (ct d.ty 0 [(0, 1)]).2)
def ckP (D : List Df) : Int × Int × Int := if 256 < D.length then (256, 0, 5) else ckL D 0
set_option maxRecDepth 100000 in
set_option maxHeartbeats 8000000 in
theorem check_any (a : Option Addr) (c : Nat) (D : List Df) (w : World) (hL : Hid (Lens D)) (r : Hid (DRow w a D)) :
    Calls Try.prog 16 #[.agg #[.slice a D.length c]] w fun e w' => e = .returned (.tuple #[.int .i64 (ckP D).1, .int .i64 (ckP D).2.1, .int .i64 (ckP D).2.2]) ∧ Below w.heap.size w w' := by
  obtain ⟨R, hR⟩ : ∃ R, ckP D = R := ⟨_, rfl⟩
  have HR := hide_ hR
  rw [hR]
  clear hR
  have hD : D.length ≤ 9223372036854775807 := hL.out.1
  have HK := hide_ (Blk.newA w #[.slice a D.length c] 24)
  have HB0 : Hid (Below w.heap.size w (w.alloc (.cells #[.slice a D.length c] 24))) := (Below.refl _ _).alloc (Nat.le_refl _) _
  by_cases h256 : 256 < D.length
  · have h' : (256 : Int) < D.length := by omega
    have HV : Hid (R = (256, 0, 5)) := hide_ (by rw [← HR.out]; unfold ckP; rw [if_pos h256])
    go_enter Try.func16, Try.ntmps16
    go_wp2
    go_ret3
    exact ⟨by rw [HV.out]; rfl, HB0.out⟩
  have h' : ¬ (256 : Int) < D.length := by omega
  have HC0 : Hid (ckL (D.drop 0) 0 = R) := hide_ (by rw [← HR.out]; unfold ckP; rw [if_neg h256]; rfl)
  go_enter Try.func16, Try.ntmps16
  go_wp2_with fail
  go_loopw [16] (fun x16 wr => ∃ i : Nat, i ≤ D.length ∧ x16 = .int .i64 (i : Int) ∧ Hid (ckL (D.drop i) i = R) ∧ Hid (Below w.heap.size w wr)) (fun x16 _ => D.length - (intOf x16).toNat)
  case atStart => exact ⟨0, Nat.zero_le _, rfl, HC0, HB0⟩
  case round =>
    obtain ⟨i, hi, rfl, HC, HB⟩ := hrel
    generalize wr = wq at *
    clear HC0 HB0 HR HK
    by_cases hlt : i < D.length
    · have hlt' : (i : Int) < D.length := by omega
      obtain ⟨b, o, rfl, hb, hc⟩ := (r.out.later HB.out).open (by omega)
      have hx : D[i]? = some (D[i]'hlt) := List.getElem?_eq_getElem hlt
      obtain ⟨va, vc, hcx, hvc, -, hN⟩ := hc i _ hx
      have hdr : D.drop i = D[i]'hlt :: D.drop (i + 1) := List.drop_eq_getElem_cons hlt
      have hty : (D[i]'hlt).ty.length ≤ 9223372036854775807 := hL.out.2 _ (List.getElem_mem hlt)
      generalize D[i]'hlt = d at *
      rw [hdr] at HC
      have i0 := hcx 0 (by decide); have i1 := hcx 1 (by decide); have i2 := hcx 2 (by decide)
      simp [dfc] at i0 i1 i2
      clear hc hx hcx hdr
      have kx := Blk.newA wq #[.string d.name, .int .i64 d.a, .slice va d.ty.length vc] 41
      have hBx : Below wq.heap.size wq (wq.alloc (.cells #[.string d.name, .int .i64 d.a, .slice va d.ty.length vc] 41)) := (Below.refl _ _).alloc (Nat.le_refl _) _
      obtain ⟨wx, hwx⟩ : ∃ wx, wx = wq.alloc (.cells #[.string d.name, .int .i64 d.a, .slice va d.ty.length vc] 41) := ⟨_, rfl⟩
      rw [← hwx] at kx hBx
      have HN := hide_ (hN.later hBx)
      have HBx := hide_ (below_to HB.out hBx)
      have c0 := kx.cell 0; have c2 := kx.cell 2
      simp at c0 c2
      clear kx hBx hN
      go_upto_region 6 with fail
      rw [← hwx]
      clear hwx i0 i1 i2
      obtain ⟨nm, hnm⟩ : ∃ nm, isName d.name = nm := ⟨_, rfl⟩
      cases nm with
      | false =>
        have HV : Hid (R = ((i : Int), 0, 62)) := hide_ (by rw [← HC.out]; unfold ckL; rw [if_pos hnm])
        go_wp2_with (go_at_call 23; refine (name_any _ _).mono ?_; rintro e w' ⟨rfl, rfl⟩; rw [hnm])
        go_ret3
        exact ⟨by rw [HV.out]; rfl, HBx.out⟩
      | true =>
        obtain ⟨T, hT⟩ : ∃ T, ct d.ty 0 [(0, 1)] = T := ⟨_, rfl⟩
        have HT := hide_ hT
        have HCon := ctype_any va vc d.ty wx hty HN
        rw [hT] at HCon
        have HCon := hide_ HCon
        clear hT
        have HC1 : Hid ((if T.2 = 0 then ckL (D.drop (i + 1)) (i + 1) else ((i : Int), T.1, T.2)) = R) := hide_ (by
          have h := HC.out
          rw [ckL, if_neg (by rw [hnm]; decide), HT.out] at h
          exact h)
        by_cases hE : T.2 = 0
        · have HC2 : Hid (ckL (D.drop (i + 1)) (i + 1) = R) := hide_ (by rw [← HC1.out, if_pos hE])
          obtain ⟨T1, T2⟩ := T
          simp only at hE
          subst hE
          clear HC1 HC HT
          go_wp2_with (first | (go_at_call 23; refine (name_any _ _).mono ?_; rintro e w' ⟨rfl, rfl⟩; rw [hnm]) | (go_at_call 24; refine HCon.out.mono ?_; rintro e w2 ⟨rfl, hB2⟩; (have HB2 := hide_ hB2); (clear hB2)))
          go_roundw
          case rel => exact ⟨i + 1, by omega, by go_num, HC2, hide_ (below_to HBx.out HB2.out)⟩
          case measure => simp [intOf]; omega
        · have HV : Hid (R = ((i : Int), T.1, T.2)) := hide_ (by rw [← HC1.out, if_neg hE])
          obtain ⟨T1, T2⟩ := T
          simp only at hE
          have hE' : (T2 != 0) = true := by simpa using hE
          clear HC1 HC HT
          go_wp2_with (first | (go_at_call 23; refine (name_any _ _).mono ?_; rintro e w' ⟨rfl, rfl⟩; rw [hnm]) | (go_at_call 24; refine HCon.out.mono ?_; rintro e w2 ⟨rfl, hB2⟩; (have HB2 := hide_ hB2); (clear hB2)))
          go_ret3
          exact ⟨by rw [HV.out]; rfl, below_to HBx.out HB2.out⟩
    · obtain rfl : i = D.length := by omega
      have HV : Hid (R = (0, 0, 0)) := hide_ (by rw [← HC.out, List.drop_length]; rfl)
      go_wp2
      go_ret3
      exact ⟨by rw [HV.out]; rfl, HB.out⟩
end Go.Proofs.Ytjeafblkmipdmaa
