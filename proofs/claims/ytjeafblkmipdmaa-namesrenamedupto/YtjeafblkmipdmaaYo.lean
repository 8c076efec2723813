/- Find, ints. -/
import Derived.Test.YtjeafblkmipdmaaYn
namespace Go.Proofs.Ytjeafblkmipdmaa
open Go.RowKit
set_option linter.unusedVariables false

theorem numN_take {D : List Df} {s : ByteArray} {i : Nat} {d : Df} (hd : D[i]? = some d) (hn : numN (D.take i) s = none) : d.name = s → numN D s = some i := by
  intro e
  have hi := (List.getElem?_eq_some_iff.1 hd).1
  unfold numN at hn ⊢
  rw [List.findIdx?_eq_some_iff_getElem]
  rw [List.findIdx?_eq_none_iff] at hn
  have e2 := (List.getElem?_eq_some_iff.1 hd).2
  refine ⟨hi, by rw [e2]; exact decide_eq_true e, fun j hj => ?_⟩
  have := hn (D[j]'(by omega)) (by
    refine List.mem_iff_getElem?.2 ⟨j, ?_⟩
    rw [List.getElem?_take, if_pos hj]
    exact List.getElem?_eq_getElem _)
  simpa using this
theorem numN_take_next {D : List Df} {s : ByteArray} {i : Nat} {d : Df} (hd : D[i]? = some d) (hn : numN (D.take i) s = none) (e : ¬ d.name = s) : numN (D.take (i + 1)) s = none := by
  have hi := (List.getElem?_eq_some_iff.1 hd).1
  have e2 := (List.getElem?_eq_some_iff.1 hd).2
  rw [List.take_succ_eq_append_getElem hi, e2, numN_snoc, hn]
  simp [e]
def fndE (D : List Df) (s : ByteArray) : Int := match numN D s with | none => 81 | some _ => 0
set_option maxRecDepth 100000 in
set_option maxHeartbeats 4000000 in
theorem find_any (a : Option Addr) (c : Nat) (D : List Df) (s : ByteArray) (w : World) (hD : D.length ≤ 2932031007401) (r : Hid (DRow w a D)) :
    Calls Try.prog 10 #[.agg #[.slice a D.length c], .string s] w fun e w' => e = .returned (.tuple #[.int .i64 (numZ D s : Int), .int .i64 (fndE D s)]) ∧ Below w.heap.size w w' := by
  have HB0 : Hid (Below w.heap.size w (w.alloc (.cells #[.slice a D.length c] 24))) := (Below.refl _ _).alloc (Nat.le_refl _) _
  go_enter Try.func10, Try.ntmps10
  go_wp2_with fail
  go_loopw [11] (fun x11 wr => ∃ i : Nat, i ≤ D.length ∧ x11 = .int .i64 (i : Int) ∧ Hid (numN (D.take i) s = none) ∧ Hid (Below w.heap.size w wr)) (fun x11 _ => D.length - (intOf x11).toNat)
  case atStart => exact ⟨0, Nat.zero_le _, rfl, hide_ rfl, HB0⟩
  case round =>
    obtain ⟨i, hi, rfl, HN, HB⟩ := hrel
    generalize wr = wq at *
    clear HB0
    by_cases hlt : i < D.length
    · have hlt' : (i : Int) < D.length := by omega
      obtain ⟨b, o, rfl, hb, hc⟩ := (r.out.later HB.out).open (by omega)
      have hx : D[i]? = some (D[i]'hlt) := List.getElem?_eq_getElem hlt
      obtain ⟨va, vc, hcx, hvc, -, hN⟩ := hc i _ hx
      have HX := hide_ hx
      generalize D[i]'hlt = d at *
      have i0 := hcx 0 (by decide); have i1 := hcx 1 (by decide); have i2 := hcx 2 (by decide)
      simp [dfc] at i0 i1 i2
      clear hc hx hcx hN
      have kx := Blk.newA wq #[.string d.name, .int .i64 d.a, .slice va d.ty.length vc] 41
      have hBx : Below wq.heap.size wq (wq.alloc (.cells #[.string d.name, .int .i64 d.a, .slice va d.ty.length vc] 41)) := (Below.refl _ _).alloc (Nat.le_refl _) _
      obtain ⟨wx, hwx⟩ : ∃ wx, wx = wq.alloc (.cells #[.string d.name, .int .i64 d.a, .slice va d.ty.length vc] 41) := ⟨_, rfl⟩
      rw [← hwx] at kx hBx
      have HBx := hide_ (below_to HB.out hBx)
      have j0 := kx.cell 0
      simp at j0
      clear kx hBx
      go_upto_region 4 with fail
      rw [← hwx]
      clear hwx i0 i1 i2
      by_cases he : d.name = s
      · have hs : (d.name.toList == s.toList) = true := by rw [he]; simp
        have HV : Hid (numN D s = some i) := hide_ (numN_take HX.out HN.out he)
        clear he
        go_wp2
        go_ret2
        exact ⟨by rw [show numZ D s = i by unfold numZ; rw [HV.out]; rfl, show fndE D s = 0 by unfold fndE; rw [HV.out]]; rfl, HBx.out⟩
      · have hs : (d.name.toList == s.toList) = false := by rw [str_eq]; exact decide_eq_false he
        have HN2 := hide_ (numN_take_next HX.out HN.out he)
        clear he
        go_wp2_with fail
        go_roundw
        case rel => exact ⟨i + 1, by omega, by go_num, HN2, HBx⟩
        case measure => simp [intOf]; omega
    · obtain rfl : i = D.length := by omega
      have HV : Hid (numN D s = none) := hide_ (by have h := HN.out; rw [List.take_length] at h; exact h)
      go_wp2
      go_ret2
      exact ⟨by rw [show numZ D s = 0 by unfold numZ; rw [HV.out]; rfl, show fndE D s = 81 by unfold fndE; rw [HV.out]]; rfl, HB.out⟩
set_option maxRecDepth 100000 in
set_option maxHeartbeats 4000000 in
theorem ints_any (a1 a2 : Option Addr) (c1 c2 : Nat) (l1 l2 : List Int) (w : World) (h1 : l1.length ≤ 9223372036854775807) (h2 : l2.length ≤ 9223372036854775807) (r1 : Hid (Row .i64 w a1 l1)) (r2 : Hid (Row .i64 w a2 l2)) :
    Calls Try.prog 9 #[.slice a1 l1.length c1, .slice a2 l2.length c2] w fun e w' => e = .returned (.bool (decide (l1 = l2))) ∧ Below w.heap.size w w' := by
  obtain ⟨R, hR⟩ : ∃ R, decide (l1 = l2) = R := ⟨_, rfl⟩
  rw [hR]
  have HR := hide_ hR
  clear hR
  by_cases hl : l1.length = l2.length
  · have hl' : ((l1.length : Int) != (l2.length : Int)) = false := by simp; omega
    have HL := hide_ hl
    go_enter Try.func9, Try.ntmps9
    go_wp2_with fail
    go_loopw [5] (fun x5 wr => ∃ i : Nat, i ≤ l1.length ∧ x5 = .int .i64 (i : Int) ∧ Hid (l1.take i = l2.take i) ∧ Hid (Below w.heap.size w wr)) (fun x5 _ => l1.length - (intOf x5).toNat)
    case atStart => exact ⟨0, Nat.zero_le _, rfl, hide_ rfl, hide_ (Below.refl _ _)⟩
    case round =>
      obtain ⟨i, hi, rfl, HT, HB⟩ := hrel
      generalize wr = wq at *
      by_cases hlt : i < l1.length
      · have hlt' : (i : Int) < l1.length := by omega
        have hlt2 : i < l2.length := by have := HL.out; omega
        have hlt2' : (i : Int) < l2.length := by omega
        obtain ⟨b1, o1, rfl, hb1, hc1⟩ := (r1.out.later HB.out).open (by omega)
        obtain ⟨b2, o2, rfl, hb2, hc2⟩ := (r2.out.later HB.out).open (by omega)
        have d1 := hc1 i hlt
        have d2 := hc2 i hlt2
        have e1 : l1.getD i 0 = l1[i]'hlt := by simp [List.getD, hlt]
        have e2 : l2.getD i 0 = l2[i]'hlt2 := by simp [List.getD, hlt2]
        have ht1 : l1.take (i + 1) = l1.take i ++ [l1[i]'hlt] := List.take_succ_eq_append_getElem hlt
        have ht2 : l2.take (i + 1) = l2.take i ++ [l2[i]'hlt2] := List.take_succ_eq_append_getElem hlt2
        rw [← e1] at ht1
        rw [← e2] at ht2
        generalize l1.getD i 0 = x at *
        generalize l2.getD i 0 = y at *
        have HT1 := hide_ ht1
        have HT2 := hide_ ht2
        clear hc1 hc2 ht1 ht2 e1 e2 hl
        have hdr : Hid (Below w.heap.size w wq.drew) := hide_ HB.out.drew
        by_cases he : x = y
        · have he' : (x != y) = false := by simp [he]
          have HT3 : Hid (l1.take (i + 1) = l2.take (i + 1)) := hide_ (by rw [HT1.out, HT2.out, HT.out, he])
          clear he
          go_wp2_with fail
          go_region
          go_wp2_with fail
          go_roundw
          case rel => exact ⟨i + 1, by omega, by go_num, HT3, hdr⟩
          case measure => simp [intOf]; omega
        · have he' : (x != y) = true := by simpa using he
          have HV : Hid (R = false) := hide_ (by
            rw [← HR.out]
            refine decide_eq_false fun e => he ?_
            have h1 := HT1.out
            rw [e, HT2.out, ← e, HT.out] at h1
            simpa using h1.symm)
          clear he
          go_wp2_with fail
          go_region
          go_wp2
          go_ret
          exact ⟨by rw [HV.out]; rfl, hdr.out⟩
      · obtain rfl : i = l1.length := by omega
        have HV : Hid (R = true) := hide_ (by
          rw [← HR.out]
          have h := HT.out
          rw [List.take_length, HL.out, List.take_length] at h
          exact decide_eq_true h)
        clear hl
        go_wp2
        go_ret
        exact ⟨by rw [HV.out]; rfl, HB.out⟩
  · have hl' : ((l1.length : Int) != (l2.length : Int)) = true := by simp; omega
    have HV : Hid (R = false) := hide_ (by rw [← HR.out]; exact decide_eq_false (fun e => hl (by rw [e])))
    go_enter Try.func9, Try.ntmps9
    go_wp2
    go_ret
    exact ⟨by rw [HV.out]; rfl, Below.refl _ _⟩
end Go.Proofs.Ytjeafblkmipdmaa
