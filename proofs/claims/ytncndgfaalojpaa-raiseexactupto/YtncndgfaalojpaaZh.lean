/- types.Check: isType, Find, isRoot. -/
import Derived.Test.YtncndgfaalojpaaZf
import Derived.Test.YtncndgfaalojpaaZf2
namespace Go.Proofs.Ytncndgfaalojpaa
open Go.RowKit
set_option linter.unusedVariables false

set_option maxRecDepth 100000 in
set_option maxHeartbeats 4000000 in
theorem partsO_any (k n el : Int) (ps : List Pt) (va : Option Addr) (vc : Nat) (m : Int) (w : World) (h8 : ¬ k = 8) (h7 : ¬ k = 7) :
    Calls Try.prog 67 #[.agg #[.int .i64 k, .int .i64 n, .int .i64 el, .slice va ps.length vc], .int .i64 m] w fun e w' => e = .returned (.bool (decide (ps.length = 0))) ∧ Below w.heap.size w w' := by
  have hB := below1 w (.cells #[.int .i64 k, .int .i64 n, .int .i64 el, .slice va ps.length vc] 43)
  have kx := Blk.newA w #[.int .i64 k, .int .i64 n, .int .i64 el, .slice va ps.length vc] 43
  obtain ⟨w0, hw0⟩ : ∃ wx, wx = w.alloc (.cells #[.int .i64 k, .int .i64 n, .int .i64 el, .slice va ps.length vc] 43) := ⟨_, rfl⟩
  rw [← hw0] at hB kx
  have HB0 := hide_ hB
  have i0 := kx.cell 0; have i3 := kx.cell 3
  simp at i0 i3
  clear hB kx
  have h8' : (k == 8) = false := by simpa using h8
  have h7' : (k == 7) = false := by simpa using h7
  have HV : Hid (((ps.length : Int) == 0) = decide (ps.length = 0)) := hide_ (by
    by_cases h : ps.length = 0
    · simp [h]
    · have h2 : ((ps.length : Int) == 0) = false := by
        have h : ¬ (ps.length : Int) = 0 := by omega
        simpa using h
      rw [h2, decide_eq_false h])
  go_enter Try.func67, Try.ntmps67
  go_upto_region 1 with fail
  rw [← hw0]
  clear hw0
  go_wp2
  go_ret
  exact ⟨by rw [← HV.out]; rfl, HB0.out⟩
theorem rightParts_any (t : Ty) (va : Option Addr) (vc : Nat) (m : Int) (w : World) (hvc : t.ps.length ≤ vc) (hr : Hid (PRow w va t.ps)) :
    Calls Try.prog 67 #[.agg #[.int .i64 t.k, .int .i64 t.n, .int .i64 t.e, .slice va t.ps.length vc], .int .i64 m] w fun e w' => e = .returned (.bool (partsOk t.k t.ps m)) ∧ Below w.heap.size w w' := by
  obtain ⟨k, n, el, ps⟩ := t
  unfold partsOk
  by_cases h8 : k = 8
  · subst h8
    rw [if_pos rfl]
    exact parts8_any n el ps va vc m w hvc hr
  · rw [if_neg h8]
    by_cases h7 : k = 7
    · subst h7
      rw [if_pos rfl]
      exact parts7_any n el ps va vc m w hvc hr
    · rw [if_neg h7]
      exact partsO_any k n el ps va vc m w h8 h7
set_option maxRecDepth 100000 in
set_option maxHeartbeats 4000000 in
theorem isType_any (t : Ty) (va : Option Addr) (vc : Nat) (m : Int) (w : World) (hvc : t.ps.length ≤ vc) (hr : Hid (PRow w va t.ps)) :
    Calls Try.prog 40 #[.agg #[.int .i64 t.k, .int .i64 t.n, .int .i64 t.e, .slice va t.ps.length vc], .int .i64 m] w fun e w' => e = .returned (.bool (tyOk t m)) ∧ Below w.heap.size w w' := by
  obtain ⟨b1, hb1⟩ : ∃ x, nOk t.k t.n = x := ⟨_, rfl⟩
  obtain ⟨b2, hb2⟩ : ∃ x, elemOk t.k t.e m = x := ⟨_, rfl⟩
  obtain ⟨b3, hb3⟩ : ∃ x, partsOk t.k t.ps m = x := ⟨_, rfl⟩
  have hV : tyOk t m = (b1 && b2 && b3) := by unfold tyOk; rw [hb1, hb2, hb3]
  rw [hV]
  have hB := below1 w (.cells #[.int .i64 t.k, .int .i64 t.n, .int .i64 t.e, .slice va t.ps.length vc] 43)
  have kx := Blk.newA w #[.int .i64 t.k, .int .i64 t.n, .int .i64 t.e, .slice va t.ps.length vc] 43
  obtain ⟨w0, hw0⟩ : ∃ wx, wx = w.alloc (.cells #[.int .i64 t.k, .int .i64 t.n, .int .i64 t.e, .slice va t.ps.length vc] 43) := ⟨_, rfl⟩
  rw [← hw0] at hB kx
  have HB0 := hide_ hB
  have KX := hide_ kx
  have HR0 := hide_ (hr.out.later hB)
  have HC1 : Hid (∀ w', Calls Try.prog 65 #[.agg #[.int .i64 t.k, .int .i64 t.n, .int .i64 t.e, .slice va t.ps.length vc]] w' fun e w'' => e = .returned (.bool b1) ∧ Below w'.heap.size w' w'') := hide_ (fun w' => by have h := rightNumber_any t (.slice va t.ps.length vc) w'; rwa [hb1] at h)
  have HC2 : Hid (∀ w', Calls Try.prog 66 #[.agg #[.int .i64 t.k, .int .i64 t.n, .int .i64 t.e, .slice va t.ps.length vc], .int .i64 m] w' fun e w'' => e = .returned (.bool b2) ∧ Below w'.heap.size w' w'') := hide_ (fun w' => by have h := rightElem_any t (.slice va t.ps.length vc) m w'; rwa [hb2] at h)
  have HC3 : Hid (∀ w', Below w0.heap.size w0 w' → Calls Try.prog 67 #[.agg #[.int .i64 t.k, .int .i64 t.n, .int .i64 t.e, .slice va t.ps.length vc], .int .i64 m] w' fun e w'' => e = .returned (.bool b3) ∧ Below w'.heap.size w' w'') := hide_ (fun w' hB => by have h := rightParts_any t va vc m w' hvc (hide_ (HR0.out.later hB)); rwa [hb3] at h)
  obtain ⟨k, n, el, ps⟩ := t
  simp only at *
  have i0 := kx.cell 0; have i1 := kx.cell 1; have i2 := kx.cell 2; have i3 := kx.cell 3
  simp at i0 i1 i2 i3
  clear hB kx hb1 hb2 hb3 hV hr
  go_enter Try.func40, Try.ntmps40
  go_upto_region 1 with fail
  rw [← hw0]
  clear hw0
  go_wp2_with fail
  refine (HC1.out _).mono ?_; rintro e w1 ⟨rfl, hB1⟩
  have HB1 := hide_ hB1
  have K1 := hide_ (KX.out.later hB1)
  have j0 := K1.out.cell 0; have j1 := K1.out.cell 1; have j2 := K1.out.cell 2; have j3 := K1.out.cell 3
  simp at j0 j1 j2 j3
  clear hB1 i0 i1 i2 i3
  cases b1 with
  | false =>
    go_wp2
    go_ret
    exact ⟨rfl, below_to HB0.out HB1.out⟩
  | true =>
  go_wp2_with fail
  refine (HC2.out _).mono ?_; rintro e w2 ⟨rfl, hB2⟩
  have HB2 := hide_ (below_to HB1.out hB2)
  have K2 := hide_ (K1.out.later hB2)
  have i0 := K2.out.cell 0; have i1 := K2.out.cell 1; have i2 := K2.out.cell 2; have i3 := K2.out.cell 3
  simp at i0 i1 i2 i3
  clear hB2 j0 j1 j2 j3
  cases b2 with
  | false =>
    go_wp2
    go_ret
    exact ⟨rfl, below_to HB0.out HB2.out⟩
  | true =>
  go_wp2_with fail
  refine (HC3.out _ HB2.out).mono ?_; rintro e w3 ⟨rfl, hB3⟩
  have HB3 := hide_ (below_to HB2.out hB3)
  clear hB3
  go_wp2
  go_ret
  exact ⟨by cases b3 <;> rfl, below_to HB0.out HB3.out⟩
theorem findR_at {R : List Rt} {nm : ByteArray} {i : Nat} {r : Rt} (h : R[i]? = some r) (hn : r.name = nm) (hb : ∀ (j : Nat) (q : Rt), j < i → R[j]? = some q → ¬ q.name = nm) : findR R nm = i := by
  have hi := (List.getElem?_eq_some_iff.1 h).1
  unfold findR
  rw [List.findIdx_eq hi]
  refine ⟨?_, fun j hj => ?_⟩
  · rw [(List.getElem?_eq_some_iff.1 h).2]
    exact decide_eq_true hn
  · exact decide_eq_false (hb j _ hj (List.getElem?_eq_getElem (by omega)))
theorem findR_none {R : List Rt} {nm : ByteArray} (hb : ∀ (j : Nat) (q : Rt), R[j]? = some q → ¬ q.name = nm) : findR R nm = R.length := by
  unfold findR
  rw [List.findIdx_eq_length]
  intro x hx
  obtain ⟨j, hj⟩ := List.getElem?_of_mem hx
  exact decide_eq_false (hb j x hj)
def fndN (R : List Rt) (nm : ByteArray) : Int := if findR R nm = R.length then 0 else findR R nm
def fndE (R : List Rt) (nm : ByteArray) : Int := if findR R nm = R.length then 93 else 0
set_option maxRecDepth 100000 in
set_option maxHeartbeats 4000000 in
theorem find_any (vt : Value) (a : Option Addr) (c : Nat) (R : List Rt) (s : ByteArray) (w : World) (hD : R.length ≤ 9223372036854775806) (r : Hid (RRow w a R)) :
    Calls Try.prog 71 #[.agg #[vt, .slice a R.length c], .string s] w fun e w' => e = .returned (.tuple #[.int .i64 (fndN R s), .int .i64 (fndE R s)]) ∧ Below w.heap.size w w' := by
  have hB := below1 w (.cells #[vt, .slice a R.length c] 25)
  have kx := Blk.newA w #[vt, .slice a R.length c] 25
  obtain ⟨w0, hw0⟩ : ∃ wx, wx = w.alloc (.cells #[vt, .slice a R.length c] 25) := ⟨_, rfl⟩
  rw [← hw0] at hB kx
  have HB0 := hide_ hB
  have i1 := kx.cell 1
  simp at i1
  clear hB kx
  go_enter Try.func71, Try.ntmps71
  go_upto_region 1 with fail
  rw [← hw0]
  clear hw0
  go_wp2_with fail
  go_loopw [11] (fun x11 wr => ∃ i : Nat, i ≤ R.length ∧ x11 = .int .i64 (i : Int) ∧ Hid (∀ (j : Nat) (q : Rt), j < i → R[j]? = some q → ¬ q.name = s) ∧ Hid (Below w.heap.size w wr)) (fun x11 _ => R.length - (intOf x11).toNat)
  case atStart => exact ⟨0, Nat.zero_le _, rfl, hide_ (fun j q hj => by omega), HB0⟩
  case round =>
    obtain ⟨i, hi, rfl, HN, HB⟩ := hrel
    generalize wr = wq at *
    clear HB0 i1
    by_cases hlt : i < R.length
    · have hlt' : (i : Int) < R.length := by omega
      obtain ⟨b, o, rfl, hb, hc⟩ := (r.out.later HB.out).open (by omega)
      have hx : R[i]? = some (R[i]'hlt) := List.getElem?_eq_getElem hlt
      have hcx := hc i _ hx
      have HX := hide_ hx
      generalize R[i]'hlt = d at *
      have i0 := hcx 0 (by decide); have i1 := hcx 1 (by decide)
      simp [rtc] at i0 i1
      clear hc hx hcx
      have kx := Blk.newA wq #[.string d.name, .int .i64 d.ty] 84
      have hBx := below1 wq (.cells #[.string d.name, .int .i64 d.ty] 84)
      obtain ⟨wx, hwx⟩ : ∃ wx, wx = wq.alloc (.cells #[.string d.name, .int .i64 d.ty] 84) := ⟨_, rfl⟩
      rw [← hwx] at kx hBx
      have HBx := hide_ (below_to HB.out hBx)
      have j0 := kx.cell 0
      simp at j0
      clear kx hBx
      go_upto_region 4 with fail
      rw [← hwx]
      clear hwx i0 i1
      by_cases he : d.name = s
      · have hs : (d.name.toList == s.toList) = true := by rw [he]; simp
        have HV : Hid (findR R s = i) := hide_ (findR_at HX.out he HN.out)
        clear he
        go_wp2
        go_ret2
        exact ⟨by rw [show fndN R s = i by unfold fndN; rw [HV.out, if_neg (by omega)], show fndE R s = 0 by unfold fndE; rw [HV.out, if_neg (by omega)]]; rfl, HBx.out⟩
      · have hs : (d.name.toList == s.toList) = false := by rw [str_eq]; exact decide_eq_false he
        have HN2 : Hid (∀ (j : Nat) (q : Rt), j < i + 1 → R[j]? = some q → ¬ q.name = s) := hide_ (fun j q hj hq => by
          rcases Nat.lt_or_ge j i with h | h
          · exact HN.out j q h hq
          · obtain rfl : j = i := by omega
            rw [HX.out] at hq
            injection hq with hq
            subst hq
            exact he)
        clear he
        go_wp2_with fail
        go_roundw
        case rel => exact ⟨i + 1, by omega, by go_num, HN2, HBx⟩
        case measure => simp [intOf]; omega
    · obtain rfl : i = R.length := by omega
      have HV : Hid (findR R s = R.length) := hide_ (findR_none (fun j q hq => HN.out j q (List.getElem?_eq_some_iff.1 hq).1 hq))
      go_wp2
      go_ret2
      exact ⟨by rw [show fndN R s = 0 by unfold fndN; rw [HV.out, if_pos rfl], show fndE R s = 93 by unfold fndE; rw [HV.out, if_pos rfl]]; rfl, HB.out⟩
set_option maxRecDepth 100000 in
set_option maxHeartbeats 4000000 in
theorem isRoot_any (av : Option Addr) (n : Nat) (cv : Nat) (a : Option Addr) (c : Nat) (R : List Rt) (i : Nat) (w : World) (hn : n ≤ 9223372036854775806) (hD : R.length ≤ 9223372036854775806) (hi : i < R.length) (r : Hid (RRow w a R)) :
    Calls Try.prog 42 #[.agg #[.slice av n cv, .slice a R.length c], .int .i64 (i : Int)] w fun e w' => e = .returned (.bool (rootOk n R i)) ∧ Below w.heap.size w w' := by
  have hi' : (i : Int) < R.length := by omega
  have hx : R[i]? = some (R[i]'hi) := List.getElem?_eq_getElem hi
  have hgd : R.getD i rt0 = R[i]'hi := by simp [List.getD, hi]
  obtain ⟨b, o, rfl, hb, hc⟩ := r.out.open (by omega)
  have hB := below1 w (.cells #[.slice av n cv, .slice (some ⟨b, o, none⟩) R.length c] 25)
  have kx := Blk.newA w #[.slice av n cv, .slice (some ⟨b, o, none⟩) R.length c] 25
  obtain ⟨w0, hw0⟩ : ∃ wx, wx = w.alloc (.cells #[.slice av n cv, .slice (some ⟨b, o, none⟩) R.length c] 25) := ⟨_, rfl⟩
  rw [← hw0] at hB kx
  have hcx := fun j (hj : j < 2) => (hB.cell (p := ⟨b, o + i * 2 + j, none⟩) hb).trans (hc i _ hx j hj)
  have hlen : findR R (R[i]'hi).name < R.length := by
    unfold findR
    exact List.findIdx_lt_length_of_exists ⟨_, List.getElem_mem hi, by simp⟩
  have hV : rootOk n R i = (decide (i < 256) && isName (R[i]'hi).name && inB (R[i]'hi).ty n && decide (findR R (R[i]'hi).name = i)) := by unfold rootOk; rw [hgd]
  have hNm : fndN R (R[i]'hi).name = (findR R (R[i]'hi).name : Int) := by unfold fndN; rw [if_neg (by omega)]
  generalize R[i]'hi = d at *
  obtain ⟨nm, ty⟩ := d
  simp only at *
  have i0 := hcx 0 (by decide); have i1 := hcx 1 (by decide)
  have i2 := kx.cell 1
  simp [rtc] at i0 i1 i2
  have kr := Blk.newA w0 #[.string nm, .int .i64 ty] 84
  have hBx := below1 w0 (.cells #[.string nm, .int .i64 ty] 84)
  obtain ⟨w1, hw1⟩ : ∃ wx, wx = w0.alloc (.cells #[.string nm, .int .i64 ty] 84) := ⟨_, rfl⟩
  rw [← hw1] at kr hBx
  have HB1 := hide_ (below_to hB hBx)
  have k1 := kx.later hBx
  have HR1 := hide_ (r.out.later HB1.out)
  have j0 := kr.cell 0; have j1 := kr.cell 1; have l0 := k1.cell 0; have l1 := k1.cell 1
  simp at j0 j1 l0 l1
  have HF := hide_ (find_any (.slice av n cv) (some ⟨b, o, none⟩) c R nm w1 hD HR1)
  rw [hNm] at HF
  obtain ⟨fi, hfi⟩ : ∃ fi, findR R nm = fi := ⟨_, rfl⟩
  rw [hfi] at HF hlen
  obtain ⟨b2, hb2⟩ : ∃ x, isName nm = x := ⟨_, rfl⟩
  obtain ⟨b3, hb3⟩ : ∃ x, inB ty n = x := ⟨_, rfl⟩
  rw [hfi, hb2, hb3] at hV
  have HV := hide_ hV
  have HC2 : Hid (∀ w', Calls Try.prog 69 #[.string nm] w' fun e w'' => e = .returned (.bool b2) ∧ w' = w'') := hide_ (fun w' => by have h := name_any nm w'; rwa [hb2] at h)
  have HC3 : Hid (∀ w', Calls Try.prog 70 #[.int .i64 ty, .int .i64 (n : Int)] w' fun e w'' => e = .returned (.bool b3) ∧ w' = w'') := hide_ (fun w' => by have h := isBelow_any ty n w'; rwa [hb3] at h)
  clear hV hNm hgd hx hc hcx kx kr k1 hB hBx hfi hb2 hb3 r
  go_enter Try.func42, Try.ntmps42
  go_upto_region 1 with fail
  rw [← hw0]
  clear hw0
  go_upto_region 2 with fail
  rw [← hw1]
  clear hw1 i0 i1 i2
  by_cases h256 : i < 256
  · have h256' : (i : Int) < 256 := by omega
    rw [decide_eq_true h256] at HV
    cases b2 with
    | false =>
      go_wp2_with (first | (go_at_call 69; refine (HC2.out _).mono ?_; rintro e w' ⟨rfl, rfl⟩))
      go_ret
      exact ⟨by rw [HV.out]; rfl, HB1.out⟩
    | true =>
    cases b3 with
    | false =>
      go_wp2_with (first | (go_at_call 69; refine (HC2.out _).mono ?_; rintro e w' ⟨rfl, rfl⟩) | (go_at_call 70; refine (HC3.out _).mono ?_; rintro e w' ⟨rfl, rfl⟩))
      go_ret
      exact ⟨by rw [HV.out]; rfl, HB1.out⟩
    | true =>
      go_wp2_with (first | (go_at_call 69; refine (HC2.out _).mono ?_; rintro e w' ⟨rfl, rfl⟩) | (go_at_call 70; refine (HC3.out _).mono ?_; rintro e w' ⟨rfl, rfl⟩) | (go_at_call 71; refine HF.out.mono ?_; rintro e w' ⟨rfl, hB2⟩; (have HB2 := hide_ hB2); clear hB2))
      go_ret
      refine ⟨?_, below_to HB1.out HB2.out⟩
      rw [HV.out]
      by_cases hq : fi = i
      · subst hq; simp
      · have hq' : ((fi : Int) == (i : Int)) = false := by
          have : ¬ (fi : Int) = (i : Int) := by omega
          simpa using this
        rw [decide_eq_false hq]
        simp [hq']
  · have h256' : (256 : Int) ≤ i := by omega
    rw [decide_eq_false h256] at HV
    go_wp2
    go_ret
    exact ⟨by rw [HV.out]; rfl, HB1.out⟩
end Go.Proofs.Ytncndgfaalojpaa
