import Derived.Test.YtfgdkhmoikkgjaaPart21
import Derived.Test.YtfgdkhmoikkgjaaPart19
import Derived.BigQuiet

/- types.Check: isType, Find, isRoot. -/
namespace Go.Proofs.Ytfgdkhmoikkgjaa
open Go.RowKit
set_option linter.unusedVariables false

set_option maxRecDepth 100000 in
set_option maxHeartbeats 4000000 in
theorem partsO_any (k n el : Int) (ps : List Ptz) (va : Option Addr) (vc : Nat) (m : Int) (w : World) (h8 : ¬ k = 8) (h7 : ¬ k = 7) :
    Calls Try.prog 27 #[.agg #[.int .i64 k, .int .i64 n, .int .i64 el, .slice va ps.length vc], .int .i64 m] w fun e w' => e = .returned (.bool (decide (ps.length = 0))) ∧ Below w.heap.size w w' := by
  have hB := below1 w (.cells #[.int .i64 k, .int .i64 n, .int .i64 el, .slice va ps.length vc] 49)
  have kx := Blk.newA w #[.int .i64 k, .int .i64 n, .int .i64 el, .slice va ps.length vc] 49
  obtain ⟨w0, hw0⟩ : ∃ wx, wx = w.alloc (.cells #[.int .i64 k, .int .i64 n, .int .i64 el, .slice va ps.length vc] 49) := ⟨_, rfl⟩
  rw [← hw0] at hB kx
  have HB0 := hide_ hB
  have i0 := kx.cell 0; have i3 := kx.cell 3
  simp at i0 i3
  clear hB kx
  have h8' : (k == 8) = false := by simpa using h8
  have h7' : (k == 7) = false := by simpa using h7
  have HV : Hid (((ps.length : Int) == 0) = decide (ps.length = 0)) := hide_ (by
    by_cases h : ps.length = 0
    · simp [h]
    · have h2 : ((ps.length : Int) == 0) = false := by
        have h : ¬ (ps.length : Int) = 0 := by omega
        simpa using h
      rw [h2, decide_eq_false h])
  go_enter Try.func27, Try.ntmps27
  go_upto_region 1 with fail
  rw [← hw0]
  clear hw0
  go_wp2
  go_ret
  exact ⟨by rw [← HV.out]; rfl, HB0.out⟩
theorem rightParts_any (t : Ty) (va : Option Addr) (vc : Nat) (m : Int) (w : World) (hvc : t.ps.length ≤ vc) (hr : Hid (PRow w va t.ps)) :
    Calls Try.prog 27 #[.agg #[.int .i64 t.k, .int .i64 t.n, .int .i64 t.e, .slice va t.ps.length vc], .int .i64 m] w fun e w' => e = .returned (.bool (partsOk t.k t.ps m)) ∧ Below w.heap.size w w' := by
  obtain ⟨k, n, el, ps⟩ := t
  unfold partsOk
  by_cases h8 : k = 8
  · subst h8
    rw [if_pos rfl]
    exact parts8_any n el ps va vc m w hvc hr
  · rw [if_neg h8]
    by_cases h7 : k = 7
    · subst h7
      rw [if_pos rfl]
      exact parts7_any n el ps va vc m w hvc hr
    · rw [if_neg h7]
      exact partsO_any k n el ps va vc m w h8 h7
set_option maxRecDepth 100000 in
set_option maxHeartbeats 4000000 in
theorem isType_any (t : Ty) (va : Option Addr) (vc : Nat) (m : Int) (w : World) (hvc : t.ps.length ≤ vc) (hr : Hid (PRow w va t.ps)) :
    Calls Try.prog 13 #[.agg #[.int .i64 t.k, .int .i64 t.n, .int .i64 t.e, .slice va t.ps.length vc], .int .i64 m] w fun e w' => e = .returned (.bool (tyOk t m)) ∧ Below w.heap.size w w' := by
  obtain ⟨b1, hb1⟩ : ∃ x, nOk t.k t.n = x := ⟨_, rfl⟩
  obtain ⟨b2, hb2⟩ : ∃ x, elemOk t.k t.e m = x := ⟨_, rfl⟩
  obtain ⟨b3, hb3⟩ : ∃ x, partsOk t.k t.ps m = x := ⟨_, rfl⟩
  have hV : tyOk t m = (b1 && b2 && b3) := by unfold tyOk; rw [hb1, hb2, hb3]
  rw [hV]
  have hB := below1 w (.cells #[.int .i64 t.k, .int .i64 t.n, .int .i64 t.e, .slice va t.ps.length vc] 49)
  have kx := Blk.newA w #[.int .i64 t.k, .int .i64 t.n, .int .i64 t.e, .slice va t.ps.length vc] 49
  obtain ⟨w0, hw0⟩ : ∃ wx, wx = w.alloc (.cells #[.int .i64 t.k, .int .i64 t.n, .int .i64 t.e, .slice va t.ps.length vc] 49) := ⟨_, rfl⟩
  rw [← hw0] at hB kx
  have HB0 := hide_ hB
  have KX := hide_ kx
  have HR0 := hide_ (hr.out.later hB)
  have HC1 : Hid (∀ w', Calls Try.prog 25 #[.agg #[.int .i64 t.k, .int .i64 t.n, .int .i64 t.e, .slice va t.ps.length vc]] w' fun e w'' => e = .returned (.bool b1) ∧ Below w'.heap.size w' w'') := hide_ (fun w' => by have h := rightNumber_any t (.slice va t.ps.length vc) w'; rwa [hb1] at h)
  have HC2 : Hid (∀ w', Calls Try.prog 26 #[.agg #[.int .i64 t.k, .int .i64 t.n, .int .i64 t.e, .slice va t.ps.length vc], .int .i64 m] w' fun e w'' => e = .returned (.bool b2) ∧ Below w'.heap.size w' w'') := hide_ (fun w' => by have h := rightElem_any t (.slice va t.ps.length vc) m w'; rwa [hb2] at h)
  have HC3 : Hid (∀ w', Below w0.heap.size w0 w' → Calls Try.prog 27 #[.agg #[.int .i64 t.k, .int .i64 t.n, .int .i64 t.e, .slice va t.ps.length vc], .int .i64 m] w' fun e w'' => e = .returned (.bool b3) ∧ Below w'.heap.size w' w'') := hide_ (fun w' hB => by have h := rightParts_any t va vc m w' hvc (hide_ (HR0.out.later hB)); rwa [hb3] at h)
  obtain ⟨k, n, el, ps⟩ := t
  simp only at *
  have i0 := kx.cell 0; have i1 := kx.cell 1; have i2 := kx.cell 2; have i3 := kx.cell 3
  simp at i0 i1 i2 i3
  clear hB kx hb1 hb2 hb3 hV hr
  go_enter Try.func13, Try.ntmps13
  go_upto_region 1 with fail
  rw [← hw0]
  clear hw0
  go_wp2_with fail
  refine (HC1.out _).mono ?_; rintro e w1 ⟨rfl, hB1⟩
  have HB1 := hide_ hB1
  have K1 := hide_ (KX.out.later hB1)
  have j0 := K1.out.cell 0; have j1 := K1.out.cell 1; have j2 := K1.out.cell 2; have j3 := K1.out.cell 3
  simp at j0 j1 j2 j3
  clear hB1 i0 i1 i2 i3
  cases b1 with
  | false =>
    go_wp2
    go_ret
    exact ⟨rfl, below_to HB0.out HB1.out⟩
  | true =>
  go_wp2_with fail
  refine (HC2.out _).mono ?_; rintro e w2 ⟨rfl, hB2⟩
  have HB2 := hide_ (below_to HB1.out hB2)
  have K2 := hide_ (K1.out.later hB2)
  have i0 := K2.out.cell 0; have i1 := K2.out.cell 1; have i2 := K2.out.cell 2; have i3 := K2.out.cell 3
  simp at i0 i1 i2 i3
  clear hB2 j0 j1 j2 j3
  cases b2 with
  | false =>
    go_wp2
    go_ret
    exact ⟨rfl, below_to HB0.out HB2.out⟩
  | true =>
  go_wp2_with fail
  refine (HC3.out _ HB2.out).mono ?_; rintro e w3 ⟨rfl, hB3⟩
  have HB3 := hide_ (below_to HB2.out hB3)
  clear hB3
  go_wp2
  go_ret
  exact ⟨by cases b3 <;> rfl, below_to HB0.out HB3.out⟩
theorem findR_at {R : List Rt} {nm : ByteArray} {i : Nat} {r : Rt} (h : R[i]? = some r) (hn : r.name = nm) (hb : ∀ (j : Nat) (q : Rt), j < i → R[j]? = some q → ¬ q.name = nm) : findR R nm = i := by
  have hi := (List.getElem?_eq_some_iff.1 h).1
  unfold findR
  rw [List.findIdx_eq hi]
  refine ⟨?_, fun j hj => ?_⟩
  · rw [(List.getElem?_eq_some_iff.1 h).2]
    exact decide_eq_true hn
  · exact decide_eq_false (hb j _ hj (List.getElem?_eq_getElem (by omega)))
theorem findR_none {R : List Rt} {nm : ByteArray} (hb : ∀ (j : Nat) (q : Rt), R[j]? = some q → ¬ q.name = nm) : findR R nm = R.length := by
  unfold findR
  rw [List.findIdx_eq_length]
  intro x hx
  obtain ⟨j, hj⟩ := List.getElem?_of_mem hx
  exact decide_eq_false (hb j x hj)
def fndN (R : List Rt) (nm : ByteArray) : Int := if findR R nm = R.length then 0 else findR R nm
def fndEz (R : List Rt) (nm : ByteArray) : Int := if findR R nm = R.length then 93 else 0
set_option maxRecDepth 100000 in
set_option maxHeartbeats 4000000 in
theorem find_anyz (vt : Value) (a : Option Addr) (c : Nat) (R : List Rt) (s : ByteArray) (w : World) (hD : R.length ≤ 9223372036854775806) (r : Hid (RRow w a R)) :
    Calls Try.prog 7 #[.agg #[vt, .slice a R.length c], .string s] w fun e w' => e = .returned (.tuple #[.int .i64 (fndN R s), .int .i64 (fndEz R s)]) ∧ Below w.heap.size w w' := by
  have hB := below1 w (.cells #[vt, .slice a R.length c] 25)
  have kx := Blk.newA w #[vt, .slice a R.length c] 25
  obtain ⟨w0, hw0⟩ : ∃ wx, wx = w.alloc (.cells #[vt, .slice a R.length c] 25) := ⟨_, rfl⟩
  rw [← hw0] at hB kx
  have HB0 := hide_ hB
  have i1 := kx.cell 1
  simp at i1
  clear hB kx
  go_enter Try.func7, Try.ntmps7
  go_upto_region 1 with fail
  rw [← hw0]
  clear hw0
  go_wp2_with fail
  go_loopw [11] (fun x11 wr => ∃ i : Nat, i ≤ R.length ∧ x11 = .int .i64 (i : Int) ∧ Hid (∀ (j : Nat) (q : Rt), j < i → R[j]? = some q → ¬ q.name = s) ∧ Hid (Below w.heap.size w wr)) (fun x11 _ => R.length - (intOf x11).toNat)
  case atStart => exact ⟨0, Nat.zero_le _, rfl, hide_ (fun j q hj => by omega), HB0⟩
  case round =>
    obtain ⟨i, hi, rfl, HN, HB⟩ := hrel
    generalize wr = wq at *
    clear HB0 i1
    by_cases hlt : i < R.length
    · have hlt' : (i : Int) < R.length := by omega
      obtain ⟨b, o, rfl, hb, hc⟩ := (r.out.later HB.out).open (by omega)
      have hx : R[i]? = some (R[i]'hlt) := List.getElem?_eq_getElem hlt
      have hcx := hc i _ hx
      have HX := hide_ hx
      generalize R[i]'hlt = d at *
      have i0 := hcx 0 (by decide); have i1 := hcx 1 (by decide)
      simp [rtc] at i0 i1
      clear hc hx hcx
      have kx := Blk.newA wq #[.string d.name, .int .i64 d.ty] 51
      have hBx := below1 wq (.cells #[.string d.name, .int .i64 d.ty] 51)
      obtain ⟨wx, hwx⟩ : ∃ wx, wx = wq.alloc (.cells #[.string d.name, .int .i64 d.ty] 51) := ⟨_, rfl⟩
      rw [← hwx] at kx hBx
      have HBx := hide_ (below_to HB.out hBx)
      have j0 := kx.cell 0
      simp at j0
      clear kx hBx
      go_upto_region 4 with fail
      rw [← hwx]
      clear hwx i0 i1
      by_cases he : d.name = s
      · have hs : (d.name.toList == s.toList) = true := by rw [he]; simp
        have HV : Hid (findR R s = i) := hide_ (findR_at HX.out he HN.out)
        clear he
        go_wp2
        go_ret2
        exact ⟨by rw [show fndN R s = i by unfold fndN; rw [HV.out, if_neg (by omega)], show fndEz R s = 0 by unfold fndEz; rw [HV.out, if_neg (by omega)]]; rfl, HBx.out⟩
      · have hs : (d.name.toList == s.toList) = false := by rw [str_eqz]; exact decide_eq_false he
        have HN2 : Hid (∀ (j : Nat) (q : Rt), j < i + 1 → R[j]? = some q → ¬ q.name = s) := hide_ (fun j q hj hq => by
          rcases Nat.lt_or_ge j i with h | h
          · exact HN.out j q h hq
          · obtain rfl : j = i := by omega
            rw [HX.out] at hq
            injection hq with hq
            subst hq
            exact he)
        clear he
        go_wp2_with fail
        go_roundw
        case rel => exact ⟨i + 1, by omega, by go_num, HN2, HBx⟩
        case measure => simp [intOf]; omega
    · obtain rfl : i = R.length := by omega
      have HV : Hid (findR R s = R.length) := hide_ (findR_none (fun j q hq => HN.out j q (List.getElem?_eq_some_iff.1 hq).1 hq))
      go_wp2
      go_ret2
      exact ⟨by rw [show fndN R s = 0 by unfold fndN; rw [HV.out, if_pos rfl], show fndEz R s = 93 by unfold fndEz; rw [HV.out, if_pos rfl]]; rfl, HB.out⟩
set_option maxRecDepth 100000 in
set_option maxHeartbeats 4000000 in
theorem isRoot_any (av : Option Addr) (n : Nat) (cv : Nat) (a : Option Addr) (c : Nat) (R : List Rt) (i : Nat) (w : World) (hn : n ≤ 9223372036854775806) (hD : R.length ≤ 9223372036854775806) (hi : i < R.length) (r : Hid (RRow w a R)) :
    Calls Try.prog 15 #[.agg #[.slice av n cv, .slice a R.length c], .int .i64 (i : Int)] w fun e w' => e = .returned (.bool (rootOk n R i)) ∧ Below w.heap.size w w' := by
  have hi' : (i : Int) < R.length := by omega
  have hx : R[i]? = some (R[i]'hi) := List.getElem?_eq_getElem hi
  have hgd : R.getD i rt0 = R[i]'hi := by simp [List.getD, hi]
  obtain ⟨b, o, rfl, hb, hc⟩ := r.out.open (by omega)
  have hB := below1 w (.cells #[.slice av n cv, .slice (some ⟨b, o, none⟩) R.length c] 25)
  have kx := Blk.newA w #[.slice av n cv, .slice (some ⟨b, o, none⟩) R.length c] 25
  obtain ⟨w0, hw0⟩ : ∃ wx, wx = w.alloc (.cells #[.slice av n cv, .slice (some ⟨b, o, none⟩) R.length c] 25) := ⟨_, rfl⟩
  rw [← hw0] at hB kx
  have hcx := fun j (hj : j < 2) => (hB.cell (p := ⟨b, o + i * 2 + j, none⟩) hb).trans (hc i _ hx j hj)
  have hlen : findR R (R[i]'hi).name < R.length := by
    unfold findR
    exact List.findIdx_lt_length_of_exists ⟨_, List.getElem_mem hi, by simp⟩
  have hV : rootOk n R i = (decide (i < 256) && isName (R[i]'hi).name && inB (R[i]'hi).ty n && decide (findR R (R[i]'hi).name = i)) := by unfold rootOk; rw [hgd]
  have hNm : fndN R (R[i]'hi).name = (findR R (R[i]'hi).name : Int) := by unfold fndN; rw [if_neg (by omega)]
  generalize R[i]'hi = d at *
  obtain ⟨nm, ty⟩ := d
  simp only at *
  have i0 := hcx 0 (by decide); have i1 := hcx 1 (by decide)
  have i2 := kx.cell 1
  simp [rtc] at i0 i1 i2
  have kr := Blk.newA w0 #[.string nm, .int .i64 ty] 51
  have hBx := below1 w0 (.cells #[.string nm, .int .i64 ty] 51)
  obtain ⟨w1, hw1⟩ : ∃ wx, wx = w0.alloc (.cells #[.string nm, .int .i64 ty] 51) := ⟨_, rfl⟩
  rw [← hw1] at kr hBx
  have HB1 := hide_ (below_to hB hBx)
  have k1 := kx.later hBx
  have HR1 := hide_ (r.out.later HB1.out)
  have j0 := kr.cell 0; have j1 := kr.cell 1; have l0 := k1.cell 0; have l1 := k1.cell 1
  simp at j0 j1 l0 l1
  have HF := hide_ (find_anyz (.slice av n cv) (some ⟨b, o, none⟩) c R nm w1 hD HR1)
  rw [hNm] at HF
  obtain ⟨fi, hfi⟩ : ∃ fi, findR R nm = fi := ⟨_, rfl⟩
  rw [hfi] at HF hlen
  obtain ⟨b2, hb2⟩ : ∃ x, isName nm = x := ⟨_, rfl⟩
  obtain ⟨b3, hb3⟩ : ∃ x, inB ty n = x := ⟨_, rfl⟩
  rw [hfi, hb2, hb3] at hV
  have HV := hide_ hV
  have HC2 : Hid (∀ w', Calls Try.prog 29 #[.string nm] w' fun e w'' => e = .returned (.bool b2) ∧ w' = w'') := hide_ (fun w' => by have h := name_any nm w'; rwa [hb2] at h)
  have HC3 : Hid (∀ w', Calls Try.prog 30 #[.int .i64 ty, .int .i64 (n : Int)] w' fun e w'' => e = .returned (.bool b3) ∧ w' = w'') := hide_ (fun w' => by have h := isBelow_any ty n w'; rwa [hb3] at h)
  clear hV hNm hgd hx hc hcx kx kr k1 hB hBx hfi hb2 hb3 r
  go_enter Try.func15, Try.ntmps15
  go_upto_region 1 with fail
  rw [← hw0]
  clear hw0
  go_upto_region 2 with fail
  rw [← hw1]
  clear hw1 i0 i1 i2
  by_cases h256 : i < 256
  · have h256' : (i : Int) < 256 := by omega
    rw [decide_eq_true h256] at HV
    cases b2 with
    | false =>
      go_wp2_with (first | (go_at_call 29; refine (HC2.out _).mono ?_; rintro e w' ⟨rfl, rfl⟩))
      go_ret
      exact ⟨by rw [HV.out]; rfl, HB1.out⟩
    | true =>
    cases b3 with
    | false =>
      go_wp2_with (first | (go_at_call 29; refine (HC2.out _).mono ?_; rintro e w' ⟨rfl, rfl⟩) | (go_at_call 30; refine (HC3.out _).mono ?_; rintro e w' ⟨rfl, rfl⟩))
      go_ret
      exact ⟨by rw [HV.out]; rfl, HB1.out⟩
    | true =>
      go_wp2_with (first | (go_at_call 29; refine (HC2.out _).mono ?_; rintro e w' ⟨rfl, rfl⟩) | (go_at_call 30; refine (HC3.out _).mono ?_; rintro e w' ⟨rfl, rfl⟩) | (go_at_call 7; refine HF.out.mono ?_; rintro e w' ⟨rfl, hB2⟩; (have HB2 := hide_ hB2); clear hB2))
      go_ret
      refine ⟨?_, below_to HB1.out HB2.out⟩
      rw [HV.out]
      by_cases hq : fi = i
      · subst hq; simp
      · have hq' : ((fi : Int) == (i : Int)) = false := by
          have : ¬ (fi : Int) = (i : Int) := by omega
          simpa using this
        rw [decide_eq_false hq]
        simp [hq']
  · have h256' : (256 : Int) ≤ i := by omega
    rw [decide_eq_false h256] at HV
    go_wp2
    go_ret
    exact ⟨by rw [HV.out]; rfl, HB1.out⟩
end Go.Proofs.Ytfgdkhmoikkgjaa

/- The document's Same, of two schemas that are alike. -/
namespace Go.Proofs.Ytfgdkhmoikkgjaa
open Go.RowKit
set_option linter.unusedVariables false

set_option maxRecDepth 100000 in
set_option maxHeartbeats 8000000 in
theorem same_yes (a1 : Option Addr) (c1 : Nat) (r1 : Option Addr) (d1 : Nat) (a2 : Option Addr) (c2 : Nat) (r2 : Option Addr) (d2 : Nat) (T : List Ty) (R : List Rt) (w : World) (hn : T.length ≤ 9223372036854775806) (hm : R.length ≤ 9223372036854775806) (hL : Hid (LensT T)) (hT1 : Hid (TRowz w a1 T)) (hR1 : Hid (RRow w r1 R)) (hT2 : Hid (TRowz w a2 T)) (hR2 : Hid (RRow w r2 R)) :
    Calls Try.prog 11 #[.agg #[.slice a1 T.length c1, .slice r1 R.length d1], .agg #[.slice a2 T.length c2, .slice r2 R.length d2]] w fun e w' => e = .returned (.bool true) ∧ Below w.heap.size w w' := by
  have hB := below2z w (.cells #[.slice a1 T.length c1, .slice r1 R.length d1] 25) (.cells #[.slice a2 T.length c2, .slice r2 R.length d2] 25)
  obtain ⟨k1, k2⟩ := blk2z w #[.slice a1 T.length c1, .slice r1 R.length d1] #[.slice a2 T.length c2, .slice r2 R.length d2] 25 25
  obtain ⟨w0, hw0⟩ : ∃ wx, wx = (w.alloc (.cells #[.slice a1 T.length c1, .slice r1 R.length d1] 25)).alloc (.cells #[.slice a2 T.length c2, .slice r2 R.length d2] 25) := ⟨_, rfl⟩
  rw [← hw0] at hB k1 k2
  have HB0 := hide_ hB
  have K1 := hide_ k1
  have K2 := hide_ k2
  have i0 := k1.cell 0; have i1 := k1.cell 1; have j0 := k2.cell 0; have j1 := k2.cell 1
  simp at i0 i1 j0 j1
  clear hB k1 k2
  go_enter Try.func11, Try.ntmps11
  go_upto_region 1 with fail
  rw [← hw0]
  clear hw0
  go_wp2_with fail
  go_loopw [5] (fun x5 wr => ∃ (i : Nat), i ≤ T.length ∧ x5 = .int .i64 (i : Int) ∧ Hid (Below w0.heap.size w0 wr)) (fun x5 _ => T.length - (intOf x5).toNat)
  case atStart => exact ⟨0, Nat.zero_le _, rfl, hide_ (Below.refl _ _)⟩
  case round =>
    obtain ⟨i, hi, rfl, HB⟩ := hrel
    generalize wr = wq at *
    clear i0 i1 j0 j1
    have i0 := (K1.out.later HB.out).cell 0; have i1 := (K1.out.later HB.out).cell 1; have j0 := (K2.out.later HB.out).cell 0; have j1 := (K2.out.later HB.out).cell 1
    simp at i0 i1 j0 j1
    by_cases hlt : i < T.length
    · have hlt' : (i : Int) < T.length := by omega
      have hx : T[i]? = some (T[i]'hlt) := List.getElem?_eq_getElem hlt
      have hB' := below_to HB0.out HB.out
      obtain ⟨b1, o1, rfl, hb1, h1⟩ := (hT1.out.later hB').open (by omega)
      obtain ⟨b2, o2, rfl, hb2, h2⟩ := (hT2.out.later hB').open (by omega)
      obtain ⟨va, vc, hc1, hv1, -, hP1⟩ := h1 i _ hx
      obtain ⟨ua, uc, hc2, hv2, -, hP2⟩ := h2 i _ hx
      have hpl := hL.out.at hx
      generalize T[i]'hlt = t at *
      obtain ⟨k, n, el, ps⟩ := t
      simp only at hv1 hv2 hP1 hP2 hpl
      have p0 := hc1 0 (by decide); have p1 := hc1 1 (by decide); have p2 := hc1 2 (by decide); have p3 := hc1 3 (by decide)
      have q0 := hc2 0 (by decide); have q1 := hc2 1 (by decide); have q2 := hc2 2 (by decide); have q3 := hc2 3 (by decide)
      simp [tyc] at p0 p1 p2 p3 q0 q1 q2 q3
      obtain ⟨wa, hwa⟩ : ∃ wx, wx = wq.alloc (.cells #[.int .i64 k, .int .i64 n, .int .i64 el, .slice va ps.length vc] 49) := ⟨_, rfl⟩
      have ba : Below wq.heap.size wq wa := by rw [hwa]; exact below1 _ _
      have ka : Blk wa wq.heap.size 49 [.int .i64 k, .int .i64 n, .int .i64 el, .slice va ps.length vc] := by rw [hwa]; exact Blk.newA wq _ _
      obtain ⟨wb, hwb⟩ : ∃ wx, wx = wa.alloc (.cells #[.int .i64 k, .int .i64 n, .int .i64 el, .slice ua ps.length uc] 49) := ⟨_, rfl⟩
      have bb : Below wa.heap.size wa wb := by rw [hwb]; exact below1 _ _
      have kb : Blk wb wa.heap.size 49 [.int .i64 k, .int .i64 n, .int .i64 el, .slice ua ps.length uc] := by rw [hwb]; exact Blk.newA wa _ _
      have x0 := (hc2 0 (by decide)); 
      have y0 := (ba.cell (p := ⟨b2, o2 + i * 4 + 0, none⟩) hb2).trans (hc2 0 (by decide))
      have y1 := (ba.cell (p := ⟨b2, o2 + i * 4 + 1, none⟩) hb2).trans (hc2 1 (by decide))
      have y2 := (ba.cell (p := ⟨b2, o2 + i * 4 + 2, none⟩) hb2).trans (hc2 2 (by decide))
      have y3 := (ba.cell (p := ⟨b2, o2 + i * 4 + 3, none⟩) hb2).trans (hc2 3 (by decide))
      have s0 := ((K2.out.later HB.out).later ba).cell 0
      simp [tyc] at y0 y1 y2 y3 s0
      have KA := hide_ (ka.later bb)
      have KB := hide_ kb
      have HBb := hide_ (below_to (below_to HB.out ba) bb)
      have HPa := hide_ ((hP1.later ba).later bb)
      have HPb := hide_ ((hP2.later ba).later bb)
      clear hx hB' h1 h2 hc1 hc2 hP1 hP2 x0 q0 q1 q2 q3 bb ba ka kb
      go_upto_region 7 with fail
      rw [← hwa]
      clear hwa p0 p1 p2 p3 i0 i1 j0 j1
      go_upto_region 8 with fail
      rw [← hwb]
      clear hwb y0 y1 y2 y3 s0
      have a0 := KA.out.cell 0; have a1 := KA.out.cell 1; have a2 := KA.out.cell 2; have a3 := KA.out.cell 3
      have b0 := KB.out.cell 0; have b1' := KB.out.cell 1; have b2' := KB.out.cell 2; have b3 := KB.out.cell 3
      simp at a0 a1 a2 a3 b0 b1' b2' b3
      go_wp2_with fail
      clear a0 a1 a2 a3 b0 b1' b2' b3
      go_loopw [8] (fun x8 wr => ∃ (j : Nat), j ≤ ps.length ∧ x8 = .int .i64 (j : Int) ∧ Hid (Below wb.heap.size wb wr)) (fun x8 _ => ps.length - (intOf x8).toNat)
      case atStart => exact ⟨0, Nat.zero_le _, rfl, hide_ (Below.refl _ _)⟩
      case round =>
        obtain ⟨j, hj, rfl, HC⟩ := hrel
        generalize wr = wp at *
        have a3 := (KA.out.later HC.out).cell 3; have b3 := (KB.out.later HC.out).cell 3
        simp at a3 b3
        by_cases hjl : j < ps.length
        · have hjl' : (j : Int) < ps.length := by omega
          have hq : ps[j]? = some (ps[j]'hjl) := List.getElem?_eq_getElem hjl
          obtain ⟨g1, f1, rfl, -, z1⟩ := (HPa.out.later HC.out).open (by omega)
          obtain ⟨g2, f2, rfl, -, z2⟩ := (HPb.out.later HC.out).open (by omega)
          have e0 := z1 j _ hq 0 (by decide); have e1 := z1 j _ hq 1 (by decide); have e2 := z1 j _ hq 2 (by decide)
          have m0 := z2 j _ hq 0 (by decide); have m1 := z2 j _ hq 1 (by decide); have m2 := z2 j _ hq 2 (by decide)
          simp [ptc] at e0 e1 e2 m0 m1 m2
          generalize ps[j]'hjl = pp at *
          have hse := str_eqz pp.label pp.label
          simp at hse
          clear hq z1 z2
          go_wp2_with fail
          go_quiet (fail)
          have HCq : ∀ q, Hid (Below wb.heap.size wb (wp.drewN q)) := fun q => hide_ (below_drewNz HC.out q)
          go_wp2_with fail
          go_roundw
          case rel => exact ⟨j + 1, by omega, by go_num, HCq _⟩
          case measure => simp [intOf]; omega
        · have hjl' : ¬ (j : Int) < ps.length := by omega
          have HBn := hide_ (below_to HBb.out HC.out)
          go_wp2_with fail
          go_roundw
          case rel => exact ⟨i + 1, by omega, by go_num, HBn⟩
          case measure => simp [intOf]; omega
    · have hlt' : ¬ (i : Int) < T.length := by omega
      have HBr := HB
      go_wp2_with fail
      go_loopw [9] (fun x9 wr => ∃ (j : Nat), j ≤ R.length ∧ x9 = .int .i64 (j : Int) ∧ Hid (Below w0.heap.size w0 wr)) (fun x9 _ => R.length - (intOf x9).toNat)
      case atStart => exact ⟨0, Nat.zero_le _, rfl, HB⟩
      case round =>
        obtain ⟨j, hj, rfl, HC⟩ := hrel
        generalize wr = wp at *
        clear i0 i1 j0 j1
        have i1 := (K1.out.later HC.out).cell 1; have j1 := (K2.out.later HC.out).cell 1
        simp at i1 j1
        by_cases hjl : j < R.length
        · have hjl' : (j : Int) < R.length := by omega
          have hq : R[j]? = some (R[j]'hjl) := List.getElem?_eq_getElem hjl
          obtain ⟨g1, f1, rfl, -, z1⟩ := (hR1.out.later (below_to HB0.out HC.out)).open (by omega)
          obtain ⟨g2, f2, rfl, -, z2⟩ := (hR2.out.later (below_to HB0.out HC.out)).open (by omega)
          have e0 := z1 j _ hq 0 (by decide); have e1 := z1 j _ hq 1 (by decide)
          have m0 := z2 j _ hq 0 (by decide); have m1 := z2 j _ hq 1 (by decide)
          simp [rtc] at e0 e1 m0 m1
          generalize R[j]'hjl = rr at *
          have hse := str_eqz rr.name rr.name
          simp at hse
          clear hq z1 z2
          go_wp2_with fail
          go_quiet (fail)
          have HCq : ∀ q, Hid (Below w0.heap.size w0 (wp.drewN q)) := fun q => hide_ (below_drewNz HC.out q)
          go_wp2_with fail
          go_roundw
          case rel => exact ⟨j + 1, by omega, by go_num, HCq _⟩
          case measure => simp [intOf]; omega
        · have hjl' : ¬ (j : Int) < R.length := by omega
          have HBn := hide_ (below_to HB0.out HC.out)
          go_wp2
          go_ret
          exact ⟨rfl, HBn.out⟩
end Go.Proofs.Ytfgdkhmoikkgjaa
