/- Code: the reader: going, refuse, varint, count, number. -/
import Derived.Test.YteadmiikenpjeaaDoorCdi
import Derived.Test.YteadmiikenpjeaaDoorCdq
namespace Go.Proofs.YteadmiikenpjeaaDoor
open Go.RowKit
set_option linter.unusedVariables false

/-- The reader's cells. -/
def rdc (v : Value) (s : Rs) (u1 u2 : Value) : List Value := [v, .int .i64 s.at_, .int .i64 s.e, .int .i64 s.p, u1, u2]
theorem going_any (gr : Nat) (v u1 u2 : Value) (s : Rs) (w : World) (h : Hid (Blk w gr 63 (rdc v s u1 u2))) :
    Calls Tryd.prog 53 #[.pointer (some ⟨gr, 0, none⟩)] w fun e w' => e = .returned (.bool (s.e == 0)) ∧ w = w' := by
  have c2 := h.out.cell 2
  simp [rdc] at c2
  go_enter Tryd.func53, Tryd.ntmps53
  go_wp2
  go_ret
  exact ⟨rfl, rfl⟩
theorem refuse_any (gr : Nat) (v u1 u2 : Value) (s : Rs) (er p : Int) (w : World) (h : Hid (Blk w gr 63 (rdc v s u1 u2))) :
    Calls Tryd.prog 56 #[.pointer (some ⟨gr, 0, none⟩), .int .i64 er, .int .i64 p] w fun e w' => e = .returned (.tuple #[]) ∧ Hid (Blk w' gr 63 (rdc v (rfs s er p) u1 u2)) ∧ Hid (Upd (fun k => k = gr) w w') := by
  have HG := hide_ (going_any gr v u1 u2 s w h)
  have c2 := h.out.cell 2; have c3 := h.out.cell 3
  have fz := fun i => h.out.frozen i
  simp [rdc] at c2 c3
  by_cases he : s.e = 0
  · have e1 : rfs s er p = ⟨s.at_, er, p⟩ := by unfold rfs; rw [if_pos he]
    have hb : (s.e == 0) = true := by simpa using he
    rw [hb] at HG
    rw [e1]
    clear he hb e1
    go_enter Tryd.func56, Tryd.ntmps56
    go_wp2_with (go_at_call 53; refine HG.out.mono ?_; rintro e w' ⟨rfl, rfl⟩)
    refine bodyPost_end (results_none rfl _ _ _) rfl ⟨rfl, hide_ ?_, hide_ (((Upd.refl (fun k => k = gr) w).set _ _ (.inl rfl)).set _ _ (.inl rfl))⟩
    have := (h.out.set 2 (.int .i64 er)).set 3 (.int .i64 p)
    simpa [rdc] using this
  · have e1 : rfs s er p = s := by unfold rfs; rw [if_neg he]
    have hb : (s.e == 0) = false := by simpa using he
    rw [hb] at HG
    rw [e1]
    clear he hb e1
    go_enter Tryd.func56, Tryd.ntmps56
    go_wp2_with (go_at_call 53; refine HG.out.mono ?_; rintro e w' ⟨rfl, rfl⟩)
    exact bodyPost_end (results_none rfl _ _ _) rfl ⟨rfl, h, hide_ (Upd.refl _ _)⟩
theorem mayC_any (n : Int) (w : World) : Calls Tryd.prog 70 #[.int .u64 n] w fun e w' => e = .returned (.bool (mayC n)) ∧ w = w' := by
  go_enter Tryd.func70, Tryd.ntmps70
  go_wp2
  go_ret
  exact ⟨rfl, rfl⟩
theorem mayN_any (n : Int) (w : World) : Calls Tryd.prog 71 #[.int .u64 n] w fun e w' => e = .returned (.bool (mayN n)) ∧ w = w' := by
  go_enter Tryd.func71, Tryd.ntmps71
  go_wp2
  go_ret
  exact ⟨rfl, rfl⟩
theorem mayI_any (enc : Bool) (gq : Nat) (n : Int) (w : World) (hn : 0 ≤ n) (h : Hid (Blk w gq 4 [.bool enc])) : Calls Tryd.prog 72 #[.int .u64 n, .pointer (some ⟨gq, 0, none⟩)] w fun e w' => e = .returned (.bool (mayI enc n)) ∧ w = w' := by
  have c0 := h.out.cell 0
  simp at c0
  have HI := hide_ (isOf_any n enc w)
  by_cases h47 : n ≤ 47
  · have hw : wrap64 n = n := w64 _ (by omega)
    have e1 : mayI enc n = isOf n enc := by unfold mayI; rw [decide_eq_true h47]; rfl
    rw [e1]
    generalize isOf n enc = b at *
    clear e1
    go_enter Tryd.func72, Tryd.ntmps72
    go_wp2_with (go_at_call 61; refine HI.out.mono ?_; rintro e w' ⟨rfl, rfl⟩)
    go_ret
    exact ⟨rfl, rfl⟩
  · have e1 : mayI enc n = false := by unfold mayI; rw [decide_eq_false h47]; rfl
    rw [e1]
    clear e1 HI
    go_enter Tryd.func72, Tryd.ntmps72
    go_wp2
    go_ret
    exact ⟨rfl, rfl⟩
theorem mayC_rng {n : Int} (h : mayC n = true) : n ≤ 1048576 := of_decide_eq_true h
theorem mayN_rng {n : Int} (h : mayN n = true) : n ≤ 2147483648 := of_decide_eq_true h
theorem mayI_rng {enc : Bool} {n : Int} (h : mayI enc n = true) : n ≤ 47 := by unfold mayI at h; rw [Bool.and_eq_true] at h; exact of_decide_eq_true h.1
theorem row_drop {w : World} {a : Option Addr} {l : List Int} {b off : Nat} (h : Row .u8 w (some ⟨b, off, none⟩) l) (m : Nat) : Row .u8 w (some ⟨b, off + m, none⟩) (l.drop m) := by
  rcases h with ⟨h, _⟩ | ⟨x, h, hc⟩
  · cases h
  · injection h with h
    subst h
    refine .inr ⟨_, rfl, fun i hi => ?_⟩
    rw [List.length_drop] at hi
    have := hc (m + i) (by omega)
    rw [add_none] at this ⊢
    rw [show off + m + i = off + (m + i) by omega, this]
    simp [List.getD, List.getElem?_drop]

set_option maxRecDepth 100000 in
set_option maxHeartbeats 4000000 in
theorem varintC_any (gr : Nat) (av : Option Addr) (cv : Nat) (u1 u2 : Value) (l : List Int) (s : Rs) (er : Int) (w : World) (hs : s.at_ ≤ l.length) (hlc : l.length ≤ cv) (hcv : l.length ≤ 9223372036854775000) (hnil : av = none → cv = 0) (hby : Hid (Bys l)) (hrow : Hid (Row .u8 w av l)) (h : Hid (Blk w gr 63 (rdc (.slice av l.length cv) s u1 u2))) :
    Calls Tryd.prog 69 #[.pointer (some ⟨gr, 0, none⟩), .int .i64 er, .func (.func 70) #[] #[]] w fun e w' => e = .returned (.int .i64 (rdV l s er mayC).1) ∧ Hid (Blk w' gr 63 (rdc (.slice av l.length cv) (rdV l s er mayC).2 u1 u2)) ∧ Hid (Upd (fun k => k = gr) w w') := by
  have HG := hide_ (going_any gr _ u1 u2 s w h)
  by_cases he : s.e = 0
  case neg =>
    have e1 : rdV l s er mayC = (0, s) := by unfold rdV; rw [if_neg he]
    have hb : (s.e == 0) = false := by simpa using he
    rw [hb] at HG
    rw [e1]
    clear he hb e1
    go_enter Tryd.func69, Tryd.ntmps69
    go_wp2_with (go_at_call 53; refine HG.out.mono ?_; rintro e w' ⟨rfl, rfl⟩)
    go_ret
    exact ⟨rfl, h, hide_ (Upd.refl _ _)⟩
  have hb : (s.e == 0) = true := by simpa using he
  rw [hb] at HG
  by_cases hnn : av = none
  case pos =>
    subst hnn
    obtain rfl : cv = 0 := hnil rfl
    obtain rfl : l = [] := by
      rcases hrow.out with ⟨_, h2⟩ | ⟨x, h1, _⟩
      · exact h2
      · cases h1
    obtain ⟨sa, se, sp⟩ := s
    simp only at he
    obtain rfl : sa = 0 := by simpa using hs
    subst he
    have e1 : rdV [] ⟨0, 0, sp⟩ er mayC = (0, ⟨0, 20, 0⟩) := rfl
    rw [e1]
    have HGet : Hid (Calls Tryd.prog 76 #[.slice none 0 0] w fun e w' => e = .returned (.tuple #[.int .u64 0, .int .i64 0, .int .i64 20]) ∧ w = w') := hide_ ((get_any none 0 0 [] w rfl (by unfold maxLen; omega) (.inl ⟨rfl, rfl⟩) (fun x hx => by cases hx)).mono (by
      rintro e w' ⟨n, u, r, hR, rfl, rfl⟩
      obtain ⟨rfl, rfl, rfl⟩ := hR.det (getF_R [])
      exact ⟨rfl, rfl⟩))
    have c0 := h.out.cell 0; have c1 := h.out.cell 1
    have fz := fun i => h.out.frozen i
    simp [rdc] at c0 c1
    have hK1 : Hid (Blk (w.setCell ⟨gr, 1, none⟩ (.int .i64 0)) gr 63 (rdc (.slice none 0 0) ⟨0, 0, sp⟩ u1 u2)) := hide_ (by have := h.out.set 1 (.int .i64 0); simpa [rdc] using this)
    obtain ⟨w1, hw1⟩ : ∃ wx, wx = w.setCell ⟨gr, 1, none⟩ (.int .i64 0) := ⟨_, rfl⟩
    rw [← hw1] at hK1
    have hU1 : Hid (Upd (fun k => k = gr) w w1) := hide_ (by rw [hw1]; exact (Upd.refl _ w).set _ _ (.inl rfl))
    have HRf := hide_ (refuse_any gr (.slice none 0 0) u1 u2 ⟨0, 0, sp⟩ 20 0 w1 hK1)
    have d1 := hK1.out.cell 1
    simp [rdc] at d1
    go_enter Tryd.func69, Tryd.ntmps69
    go_upto_region 6 with (first | (go_at_call 53; refine HG.out.mono ?_; rintro e w' ⟨rfl, rfl⟩) | (go_at_call 76; refine HGet.out.mono ?_; rintro e w' ⟨rfl, rfl⟩))
    rw [← hw1]
    clear hw1 c0 c1 fz HGet HG
    go_wp2_with (go_at_call 56; refine HRf.out.mono ?_; rintro e w2 ⟨rfl, hK2, hU2⟩)
    go_ret
    exact ⟨rfl, hK2, hide_ (hU1.out.to hU2.out)⟩
  have c0 := h.out.cell 0; have c1 := h.out.cell 1
  have fz := fun i => h.out.frozen i
  simp [rdc] at c0 c1
  have HGet : Hid (∀ (a' : Option Addr) (m' c' : Nat), Row .u8 w a' (l.drop s.at_) → m' = l.length - s.at_ → Calls Tryd.prog 76 #[.slice a' m' c'] w fun e w' => e = .returned (.tuple #[.int .u64 (getF (l.drop s.at_)).1, .int .i64 ((getF (l.drop s.at_)).2.1 : Nat), .int .i64 (getF (l.drop s.at_)).2.2]) ∧ w = w') := hide_ (fun a' m' c' hr' hm' => by
    refine (get_any a' m' c' (l.drop s.at_) w (by rw [List.length_drop]; omega) (by unfold maxLen; omega) hr' (hby.out.drop _)).mono ?_
    rintro e w' ⟨n, u, r, hR, rfl, rfl⟩
    rw [hR.getF]
    exact ⟨rfl, rfl⟩)
  have hu := getF_le (l.drop s.at_)
  rw [List.length_drop] at hu
  have h64 := get_u64 (getF_R (l.drop s.at_)) (hby.out.drop _)
  have HV : Hid (rdV l s er mayC = if (getF (l.drop s.at_)).2.2 = 0 then (if mayC (getF (l.drop s.at_)).1 = true then ((getF (l.drop s.at_)).1, ⟨s.at_ + (getF (l.drop s.at_)).2.1, 0, s.p⟩) else (0, ⟨s.at_ + (getF (l.drop s.at_)).2.1, er, s.at_⟩)) else (0, ⟨s.at_ + (getF (l.drop s.at_)).2.1, (getF (l.drop s.at_)).2.2, (s.at_ + (getF (l.drop s.at_)).2.1 : Nat)⟩)) := hide_ (by unfold rdV; rw [if_pos he])
  have HRw : Hid (∃ x, av = some x ∧ Row .u8 w (if cv = s.at_ then some x else some (x.add s.at_)) (l.drop s.at_)) := hide_ (by
    rcases hrow.out with ⟨h1, h2⟩ | ⟨x, h1, h2⟩
    · exact absurd h1 hnn
    · refine ⟨x, h1, ?_⟩
      by_cases hz : l.length ≤ s.at_
      · rw [List.drop_eq_nil_of_le hz]
        split
        · exact .inr ⟨_, rfl, fun i hi => by simp at hi⟩
        · exact .inr ⟨_, rfl, fun i hi => by simp at hi⟩
      · obtain ⟨b, off, h3, -, -⟩ := hrow.out.open (by omega)
        have hx : x = ⟨b, off, none⟩ := by rw [h1] at h3; injection h3
        subst hx
        rw [if_neg (by omega), add_none]
        exact row_drop (a := av) (by rw [← h1]; exact hrow.out) s.at_)
  generalize getF (l.drop s.at_) = G at *
  obtain ⟨n, u, r⟩ := G
  simp only at HGet hu h64 HV
  have hsw : wrap64 ((s.at_ : Int) + u) = (s.at_ : Int) + u := w64 _ (by omega)
  simp only [Int.natCast_add] at HV
  obtain ⟨w1, hw1⟩ : ∃ wx, wx = w.setCell ⟨gr, 1, none⟩ (.int .i64 ((s.at_ : Int) + u)) := ⟨_, rfl⟩
  have hK1 : Hid (Blk w1 gr 63 (rdc (.slice av l.length cv) ⟨s.at_ + u, s.e, s.p⟩ u1 u2)) := hide_ (by rw [hw1]; have := h.out.set 1 (.int .i64 ((s.at_ : Int) + u)); simpa [rdc] using this)
  have hU1 : Hid (Upd (fun k => k = gr) w w1) := hide_ (by rw [hw1]; exact (Upd.refl _ w).set _ _ (.inl rfl))
  have d1 := hK1.out.cell 1
  simp [rdc] at d1
  have HRf := hide_ (fun er' p' => refuse_any gr (.slice av l.length cv) u1 u2 ⟨s.at_ + u, s.e, s.p⟩ er' p' w1 hK1)
  have hrfs : ∀ er' p', rfs ⟨s.at_ + u, s.e, s.p⟩ er' p' = ⟨s.at_ + u, er', p'⟩ := fun er' p' => by unfold rfs; rw [if_pos he]
  simp only [hrfs] at HRf
  have HSe := hide_ he
  have hle : (s.at_ : Int) ≤ l.length := by omega
  have hlcv : (l.length : Int) ≤ cv := by omega
  have HM := hide_ (mayC_any n w1)
  go_enter Tryd.func69, Tryd.ntmps69
  have hcut : True := trivial
  clear hb he hrfs hcut
  obtain ⟨x, rfl, hrr⟩ := HRw.out
  next =>
    obtain ⟨aa, haa⟩ : ∃ aa, (if cv = s.at_ then some x else some (x.add s.at_)) = aa := ⟨_, rfl⟩
    rw [haa] at hrr
    have HRr := hide_ hrr
    clear hrr
    go_wp2_with (go_at_call 53; refine HG.out.mono ?_; rintro e w' ⟨rfl, rfl⟩)
    refine (HGet.out aa _ _ HRr.out (by omega)).mono ?_
    rintro e w' ⟨rfl, rfl⟩
    go_upto_region 6 with fail
    rw [← hw1]
    clear hw1 c0 c1 fz HGet HG
    by_cases hr0 : r = 0
    · subst hr0
      rw [if_pos rfl] at HV
      go_upto_region 9 with fail
      cases hmy : mayC n with
      | true =>
        rw [hmy] at HM HV
        rw [if_pos rfl] at HV
        have hwn : wrap64 n = n := w64 _ (by have := mayC_rng hmy; omega)
        have hK2 : Hid (Blk w1 gr 63 (rdc (.slice (some x) l.length cv) ⟨s.at_ + u, 0, s.p⟩ u1 u2)) := hide_ (by have := hK1.out; rw [HSe.out] at this; exact this)
        clear hmy
        go_wp2_with (go_at_call 70; refine HM.out.mono ?_; rintro e w' ⟨rfl, rfl⟩)
        go_ret
        exact ⟨by rw [HV.out]; exact ret_int hwn, by rw [HV.out]; exact hK2, hU1⟩
      | false =>
        rw [hmy] at HM HV
        rw [if_neg (by simp)] at HV
        clear hmy
        go_wp2_with (first | (go_at_call 70; refine HM.out.mono ?_; rintro e w' ⟨rfl, rfl⟩) | (go_at_call 56; refine (HRf.out _ _).mono ?_; rintro e w2 ⟨rfl, hK2, hU2⟩))
        go_ret
        exact ⟨by rw [HV.out]; rfl, by rw [HV.out]; exact hK2, hide_ (hU1.out.to hU2.out)⟩
    · have hrb : (r != 0) = true := by simpa using hr0
      rw [if_neg hr0] at HV
      go_wp2_with (go_at_call 56; refine (HRf.out _ _).mono ?_; rintro e w2 ⟨rfl, hK2, hU2⟩)
      go_ret
      exact ⟨by rw [HV.out]; rfl, by rw [HV.out]; exact hK2, hide_ (hU1.out.to hU2.out)⟩

set_option maxRecDepth 100000 in
set_option maxHeartbeats 4000000 in
theorem varintN_any (gr : Nat) (av : Option Addr) (cv : Nat) (u1 u2 : Value) (l : List Int) (s : Rs) (er : Int) (w : World) (hs : s.at_ ≤ l.length) (hlc : l.length ≤ cv) (hcv : l.length ≤ 9223372036854775000) (hnil : av = none → cv = 0) (hby : Hid (Bys l)) (hrow : Hid (Row .u8 w av l)) (h : Hid (Blk w gr 63 (rdc (.slice av l.length cv) s u1 u2))) :
    Calls Tryd.prog 69 #[.pointer (some ⟨gr, 0, none⟩), .int .i64 er, .func (.func 71) #[] #[]] w fun e w' => e = .returned (.int .i64 (rdV l s er mayN).1) ∧ Hid (Blk w' gr 63 (rdc (.slice av l.length cv) (rdV l s er mayN).2 u1 u2)) ∧ Hid (Upd (fun k => k = gr) w w') := by
  have HG := hide_ (going_any gr _ u1 u2 s w h)
  by_cases he : s.e = 0
  case neg =>
    have e1 : rdV l s er mayN = (0, s) := by unfold rdV; rw [if_neg he]
    have hb : (s.e == 0) = false := by simpa using he
    rw [hb] at HG
    rw [e1]
    clear he hb e1
    go_enter Tryd.func69, Tryd.ntmps69
    go_wp2_with (go_at_call 53; refine HG.out.mono ?_; rintro e w' ⟨rfl, rfl⟩)
    go_ret
    exact ⟨rfl, h, hide_ (Upd.refl _ _)⟩
  have hb : (s.e == 0) = true := by simpa using he
  rw [hb] at HG
  by_cases hnn : av = none
  case pos =>
    subst hnn
    obtain rfl : cv = 0 := hnil rfl
    obtain rfl : l = [] := by
      rcases hrow.out with ⟨_, h2⟩ | ⟨x, h1, _⟩
      · exact h2
      · cases h1
    obtain ⟨sa, se, sp⟩ := s
    simp only at he
    obtain rfl : sa = 0 := by simpa using hs
    subst he
    have e1 : rdV [] ⟨0, 0, sp⟩ er mayN = (0, ⟨0, 20, 0⟩) := rfl
    rw [e1]
    have HGet : Hid (Calls Tryd.prog 76 #[.slice none 0 0] w fun e w' => e = .returned (.tuple #[.int .u64 0, .int .i64 0, .int .i64 20]) ∧ w = w') := hide_ ((get_any none 0 0 [] w rfl (by unfold maxLen; omega) (.inl ⟨rfl, rfl⟩) (fun x hx => by cases hx)).mono (by
      rintro e w' ⟨n, u, r, hR, rfl, rfl⟩
      obtain ⟨rfl, rfl, rfl⟩ := hR.det (getF_R [])
      exact ⟨rfl, rfl⟩))
    have c0 := h.out.cell 0; have c1 := h.out.cell 1
    have fz := fun i => h.out.frozen i
    simp [rdc] at c0 c1
    have hK1 : Hid (Blk (w.setCell ⟨gr, 1, none⟩ (.int .i64 0)) gr 63 (rdc (.slice none 0 0) ⟨0, 0, sp⟩ u1 u2)) := hide_ (by have := h.out.set 1 (.int .i64 0); simpa [rdc] using this)
    obtain ⟨w1, hw1⟩ : ∃ wx, wx = w.setCell ⟨gr, 1, none⟩ (.int .i64 0) := ⟨_, rfl⟩
    rw [← hw1] at hK1
    have hU1 : Hid (Upd (fun k => k = gr) w w1) := hide_ (by rw [hw1]; exact (Upd.refl _ w).set _ _ (.inl rfl))
    have HRf := hide_ (refuse_any gr (.slice none 0 0) u1 u2 ⟨0, 0, sp⟩ 20 0 w1 hK1)
    have d1 := hK1.out.cell 1
    simp [rdc] at d1
    go_enter Tryd.func69, Tryd.ntmps69
    go_upto_region 6 with (first | (go_at_call 53; refine HG.out.mono ?_; rintro e w' ⟨rfl, rfl⟩) | (go_at_call 76; refine HGet.out.mono ?_; rintro e w' ⟨rfl, rfl⟩))
    rw [← hw1]
    clear hw1 c0 c1 fz HGet HG
    go_wp2_with (go_at_call 56; refine HRf.out.mono ?_; rintro e w2 ⟨rfl, hK2, hU2⟩)
    go_ret
    exact ⟨rfl, hK2, hide_ (hU1.out.to hU2.out)⟩
  have c0 := h.out.cell 0; have c1 := h.out.cell 1
  have fz := fun i => h.out.frozen i
  simp [rdc] at c0 c1
  have HGet : Hid (∀ (a' : Option Addr) (m' c' : Nat), Row .u8 w a' (l.drop s.at_) → m' = l.length - s.at_ → Calls Tryd.prog 76 #[.slice a' m' c'] w fun e w' => e = .returned (.tuple #[.int .u64 (getF (l.drop s.at_)).1, .int .i64 ((getF (l.drop s.at_)).2.1 : Nat), .int .i64 (getF (l.drop s.at_)).2.2]) ∧ w = w') := hide_ (fun a' m' c' hr' hm' => by
    refine (get_any a' m' c' (l.drop s.at_) w (by rw [List.length_drop]; omega) (by unfold maxLen; omega) hr' (hby.out.drop _)).mono ?_
    rintro e w' ⟨n, u, r, hR, rfl, rfl⟩
    rw [hR.getF]
    exact ⟨rfl, rfl⟩)
  have hu := getF_le (l.drop s.at_)
  rw [List.length_drop] at hu
  have h64 := get_u64 (getF_R (l.drop s.at_)) (hby.out.drop _)
  have HV : Hid (rdV l s er mayN = if (getF (l.drop s.at_)).2.2 = 0 then (if mayN (getF (l.drop s.at_)).1 = true then ((getF (l.drop s.at_)).1, ⟨s.at_ + (getF (l.drop s.at_)).2.1, 0, s.p⟩) else (0, ⟨s.at_ + (getF (l.drop s.at_)).2.1, er, s.at_⟩)) else (0, ⟨s.at_ + (getF (l.drop s.at_)).2.1, (getF (l.drop s.at_)).2.2, (s.at_ + (getF (l.drop s.at_)).2.1 : Nat)⟩)) := hide_ (by unfold rdV; rw [if_pos he])
  have HRw : Hid (∃ x, av = some x ∧ Row .u8 w (if cv = s.at_ then some x else some (x.add s.at_)) (l.drop s.at_)) := hide_ (by
    rcases hrow.out with ⟨h1, h2⟩ | ⟨x, h1, h2⟩
    · exact absurd h1 hnn
    · refine ⟨x, h1, ?_⟩
      by_cases hz : l.length ≤ s.at_
      · rw [List.drop_eq_nil_of_le hz]
        split
        · exact .inr ⟨_, rfl, fun i hi => by simp at hi⟩
        · exact .inr ⟨_, rfl, fun i hi => by simp at hi⟩
      · obtain ⟨b, off, h3, -, -⟩ := hrow.out.open (by omega)
        have hx : x = ⟨b, off, none⟩ := by rw [h1] at h3; injection h3
        subst hx
        rw [if_neg (by omega), add_none]
        exact row_drop (a := av) (by rw [← h1]; exact hrow.out) s.at_)
  generalize getF (l.drop s.at_) = G at *
  obtain ⟨n, u, r⟩ := G
  simp only at HGet hu h64 HV
  have hsw : wrap64 ((s.at_ : Int) + u) = (s.at_ : Int) + u := w64 _ (by omega)
  simp only [Int.natCast_add] at HV
  obtain ⟨w1, hw1⟩ : ∃ wx, wx = w.setCell ⟨gr, 1, none⟩ (.int .i64 ((s.at_ : Int) + u)) := ⟨_, rfl⟩
  have hK1 : Hid (Blk w1 gr 63 (rdc (.slice av l.length cv) ⟨s.at_ + u, s.e, s.p⟩ u1 u2)) := hide_ (by rw [hw1]; have := h.out.set 1 (.int .i64 ((s.at_ : Int) + u)); simpa [rdc] using this)
  have hU1 : Hid (Upd (fun k => k = gr) w w1) := hide_ (by rw [hw1]; exact (Upd.refl _ w).set _ _ (.inl rfl))
  have d1 := hK1.out.cell 1
  simp [rdc] at d1
  have HRf := hide_ (fun er' p' => refuse_any gr (.slice av l.length cv) u1 u2 ⟨s.at_ + u, s.e, s.p⟩ er' p' w1 hK1)
  have hrfs : ∀ er' p', rfs ⟨s.at_ + u, s.e, s.p⟩ er' p' = ⟨s.at_ + u, er', p'⟩ := fun er' p' => by unfold rfs; rw [if_pos he]
  simp only [hrfs] at HRf
  have HSe := hide_ he
  have hle : (s.at_ : Int) ≤ l.length := by omega
  have hlcv : (l.length : Int) ≤ cv := by omega
  have HM := hide_ (mayN_any n w1)
  go_enter Tryd.func69, Tryd.ntmps69
  have hcut : True := trivial
  clear hb he hrfs hcut
  obtain ⟨x, rfl, hrr⟩ := HRw.out
  next =>
    obtain ⟨aa, haa⟩ : ∃ aa, (if cv = s.at_ then some x else some (x.add s.at_)) = aa := ⟨_, rfl⟩
    rw [haa] at hrr
    have HRr := hide_ hrr
    clear hrr
    go_wp2_with (go_at_call 53; refine HG.out.mono ?_; rintro e w' ⟨rfl, rfl⟩)
    refine (HGet.out aa _ _ HRr.out (by omega)).mono ?_
    rintro e w' ⟨rfl, rfl⟩
    go_upto_region 6 with fail
    rw [← hw1]
    clear hw1 c0 c1 fz HGet HG
    by_cases hr0 : r = 0
    · subst hr0
      rw [if_pos rfl] at HV
      go_upto_region 9 with fail
      cases hmy : mayN n with
      | true =>
        rw [hmy] at HM HV
        rw [if_pos rfl] at HV
        have hwn : wrap64 n = n := w64 _ (by have := mayN_rng hmy; omega)
        have hK2 : Hid (Blk w1 gr 63 (rdc (.slice (some x) l.length cv) ⟨s.at_ + u, 0, s.p⟩ u1 u2)) := hide_ (by have := hK1.out; rw [HSe.out] at this; exact this)
        clear hmy
        go_wp2_with (go_at_call 71; refine HM.out.mono ?_; rintro e w' ⟨rfl, rfl⟩)
        go_ret
        exact ⟨by rw [HV.out]; exact ret_int hwn, by rw [HV.out]; exact hK2, hU1⟩
      | false =>
        rw [hmy] at HM HV
        rw [if_neg (by simp)] at HV
        clear hmy
        go_wp2_with (first | (go_at_call 71; refine HM.out.mono ?_; rintro e w' ⟨rfl, rfl⟩) | (go_at_call 56; refine (HRf.out _ _).mono ?_; rintro e w2 ⟨rfl, hK2, hU2⟩))
        go_ret
        exact ⟨by rw [HV.out]; rfl, by rw [HV.out]; exact hK2, hide_ (hU1.out.to hU2.out)⟩
    · have hrb : (r != 0) = true := by simpa using hr0
      rw [if_neg hr0] at HV
      go_wp2_with (go_at_call 56; refine (HRf.out _ _).mono ?_; rintro e w2 ⟨rfl, hK2, hU2⟩)
      go_ret
      exact ⟨by rw [HV.out]; rfl, by rw [HV.out]; exact hK2, hide_ (hU1.out.to hU2.out)⟩

set_option maxRecDepth 100000 in
set_option maxHeartbeats 4000000 in
theorem varintI_any (enc : Bool) (gq : Nat) (gr : Nat) (av : Option Addr) (cv : Nat) (u1 u2 : Value) (l : List Int) (s : Rs) (er : Int) (w : World) (hs : s.at_ ≤ l.length) (hlc : l.length ≤ cv) (hcv : l.length ≤ 9223372036854775000) (hnil : av = none → cv = 0) (hby : Hid (Bys l)) (hrow : Hid (Row .u8 w av l)) (h : Hid (Blk w gr 63 (rdc (.slice av l.length cv) s u1 u2))) (hq : Hid (Blk w gq 4 [.bool enc])) :
    Calls Tryd.prog 69 #[.pointer (some ⟨gr, 0, none⟩), .int .i64 er, .func (.func 72) #[] #[.pointer (some ⟨gq, 0, none⟩)]] w fun e w' => e = .returned (.int .i64 (rdV l s er (mayI enc)).1) ∧ Hid (Blk w' gr 63 (rdc (.slice av l.length cv) (rdV l s er (mayI enc)).2 u1 u2)) ∧ Hid (Upd (fun k => k = gr) w w') := by
  have HG := hide_ (going_any gr _ u1 u2 s w h)
  by_cases he : s.e = 0
  case neg =>
    have e1 : rdV l s er (mayI enc) = (0, s) := by unfold rdV; rw [if_neg he]
    have hb : (s.e == 0) = false := by simpa using he
    rw [hb] at HG
    rw [e1]
    clear he hb e1
    go_enter Tryd.func69, Tryd.ntmps69
    go_wp2_with (go_at_call 53; refine HG.out.mono ?_; rintro e w' ⟨rfl, rfl⟩)
    go_ret
    exact ⟨rfl, h, hide_ (Upd.refl _ _)⟩
  have hb : (s.e == 0) = true := by simpa using he
  rw [hb] at HG
  by_cases hnn : av = none
  case pos =>
    subst hnn
    obtain rfl : cv = 0 := hnil rfl
    obtain rfl : l = [] := by
      rcases hrow.out with ⟨_, h2⟩ | ⟨x, h1, _⟩
      · exact h2
      · cases h1
    obtain ⟨sa, se, sp⟩ := s
    simp only at he
    obtain rfl : sa = 0 := by simpa using hs
    subst he
    have e1 : rdV [] ⟨0, 0, sp⟩ er (mayI enc) = (0, ⟨0, 20, 0⟩) := rfl
    rw [e1]
    have HGet : Hid (Calls Tryd.prog 76 #[.slice none 0 0] w fun e w' => e = .returned (.tuple #[.int .u64 0, .int .i64 0, .int .i64 20]) ∧ w = w') := hide_ ((get_any none 0 0 [] w rfl (by unfold maxLen; omega) (.inl ⟨rfl, rfl⟩) (fun x hx => by cases hx)).mono (by
      rintro e w' ⟨n, u, r, hR, rfl, rfl⟩
      obtain ⟨rfl, rfl, rfl⟩ := hR.det (getF_R [])
      exact ⟨rfl, rfl⟩))
    have c0 := h.out.cell 0; have c1 := h.out.cell 1
    have fz := fun i => h.out.frozen i
    simp [rdc] at c0 c1
    have hK1 : Hid (Blk (w.setCell ⟨gr, 1, none⟩ (.int .i64 0)) gr 63 (rdc (.slice none 0 0) ⟨0, 0, sp⟩ u1 u2)) := hide_ (by have := h.out.set 1 (.int .i64 0); simpa [rdc] using this)
    obtain ⟨w1, hw1⟩ : ∃ wx, wx = w.setCell ⟨gr, 1, none⟩ (.int .i64 0) := ⟨_, rfl⟩
    rw [← hw1] at hK1
    have hU1 : Hid (Upd (fun k => k = gr) w w1) := hide_ (by rw [hw1]; exact (Upd.refl _ w).set _ _ (.inl rfl))
    have HRf := hide_ (refuse_any gr (.slice none 0 0) u1 u2 ⟨0, 0, sp⟩ 20 0 w1 hK1)
    have d1 := hK1.out.cell 1
    simp [rdc] at d1
    go_enter Tryd.func69, Tryd.ntmps69
    go_upto_region 6 with (first | (go_at_call 53; refine HG.out.mono ?_; rintro e w' ⟨rfl, rfl⟩) | (go_at_call 76; refine HGet.out.mono ?_; rintro e w' ⟨rfl, rfl⟩))
    rw [← hw1]
    clear hw1 c0 c1 fz HGet HG
    go_wp2_with (go_at_call 56; refine HRf.out.mono ?_; rintro e w2 ⟨rfl, hK2, hU2⟩)
    go_ret
    exact ⟨rfl, hK2, hide_ (hU1.out.to hU2.out)⟩
  have c0 := h.out.cell 0; have c1 := h.out.cell 1
  have fz := fun i => h.out.frozen i
  simp [rdc] at c0 c1
  have HGet : Hid (∀ (a' : Option Addr) (m' c' : Nat), Row .u8 w a' (l.drop s.at_) → m' = l.length - s.at_ → Calls Tryd.prog 76 #[.slice a' m' c'] w fun e w' => e = .returned (.tuple #[.int .u64 (getF (l.drop s.at_)).1, .int .i64 ((getF (l.drop s.at_)).2.1 : Nat), .int .i64 (getF (l.drop s.at_)).2.2]) ∧ w = w') := hide_ (fun a' m' c' hr' hm' => by
    refine (get_any a' m' c' (l.drop s.at_) w (by rw [List.length_drop]; omega) (by unfold maxLen; omega) hr' (hby.out.drop _)).mono ?_
    rintro e w' ⟨n, u, r, hR, rfl, rfl⟩
    rw [hR.getF]
    exact ⟨rfl, rfl⟩)
  have hu := getF_le (l.drop s.at_)
  rw [List.length_drop] at hu
  have h64 := get_u64 (getF_R (l.drop s.at_)) (hby.out.drop _)
  have HV : Hid (rdV l s er (mayI enc) = if (getF (l.drop s.at_)).2.2 = 0 then (if (mayI enc) (getF (l.drop s.at_)).1 = true then ((getF (l.drop s.at_)).1, ⟨s.at_ + (getF (l.drop s.at_)).2.1, 0, s.p⟩) else (0, ⟨s.at_ + (getF (l.drop s.at_)).2.1, er, s.at_⟩)) else (0, ⟨s.at_ + (getF (l.drop s.at_)).2.1, (getF (l.drop s.at_)).2.2, (s.at_ + (getF (l.drop s.at_)).2.1 : Nat)⟩)) := hide_ (by unfold rdV; rw [if_pos he])
  have HRw : Hid (∃ x, av = some x ∧ Row .u8 w (if cv = s.at_ then some x else some (x.add s.at_)) (l.drop s.at_)) := hide_ (by
    rcases hrow.out with ⟨h1, h2⟩ | ⟨x, h1, h2⟩
    · exact absurd h1 hnn
    · refine ⟨x, h1, ?_⟩
      by_cases hz : l.length ≤ s.at_
      · rw [List.drop_eq_nil_of_le hz]
        split
        · exact .inr ⟨_, rfl, fun i hi => by simp at hi⟩
        · exact .inr ⟨_, rfl, fun i hi => by simp at hi⟩
      · obtain ⟨b, off, h3, -, -⟩ := hrow.out.open (by omega)
        have hx : x = ⟨b, off, none⟩ := by rw [h1] at h3; injection h3
        subst hx
        rw [if_neg (by omega), add_none]
        exact row_drop (a := av) (by rw [← h1]; exact hrow.out) s.at_)
  generalize getF (l.drop s.at_) = G at *
  obtain ⟨n, u, r⟩ := G
  simp only at HGet hu h64 HV
  have hsw : wrap64 ((s.at_ : Int) + u) = (s.at_ : Int) + u := w64 _ (by omega)
  simp only [Int.natCast_add] at HV
  obtain ⟨w1, hw1⟩ : ∃ wx, wx = w.setCell ⟨gr, 1, none⟩ (.int .i64 ((s.at_ : Int) + u)) := ⟨_, rfl⟩
  have hK1 : Hid (Blk w1 gr 63 (rdc (.slice av l.length cv) ⟨s.at_ + u, s.e, s.p⟩ u1 u2)) := hide_ (by rw [hw1]; have := h.out.set 1 (.int .i64 ((s.at_ : Int) + u)); simpa [rdc] using this)
  have hU1 : Hid (Upd (fun k => k = gr) w w1) := hide_ (by rw [hw1]; exact (Upd.refl _ w).set _ _ (.inl rfl))
  have d1 := hK1.out.cell 1
  simp [rdc] at d1
  have HRf := hide_ (fun er' p' => refuse_any gr (.slice av l.length cv) u1 u2 ⟨s.at_ + u, s.e, s.p⟩ er' p' w1 hK1)
  have hrfs : ∀ er' p', rfs ⟨s.at_ + u, s.e, s.p⟩ er' p' = ⟨s.at_ + u, er', p'⟩ := fun er' p' => by unfold rfs; rw [if_pos he]
  simp only [hrfs] at HRf
  have HSe := hide_ he
  have hle : (s.at_ : Int) ≤ l.length := by omega
  have hlcv : (l.length : Int) ≤ cv := by omega
  have HM := hide_ (mayI_any enc gq n w1 h64.1 (hide_ (hq.out.upd hU1.out (fun e => by subst e; exact absurd (blk_type hq.out h.out) (by decide)))))
  go_enter Tryd.func69, Tryd.ntmps69
  have hcut : True := trivial
  clear hb he hrfs hcut
  obtain ⟨x, rfl, hrr⟩ := HRw.out
  next =>
    obtain ⟨aa, haa⟩ : ∃ aa, (if cv = s.at_ then some x else some (x.add s.at_)) = aa := ⟨_, rfl⟩
    rw [haa] at hrr
    have HRr := hide_ hrr
    clear hrr
    go_wp2_with (go_at_call 53; refine HG.out.mono ?_; rintro e w' ⟨rfl, rfl⟩)
    refine (HGet.out aa _ _ HRr.out (by omega)).mono ?_
    rintro e w' ⟨rfl, rfl⟩
    go_upto_region 6 with fail
    rw [← hw1]
    clear hw1 c0 c1 fz HGet HG
    by_cases hr0 : r = 0
    · subst hr0
      rw [if_pos rfl] at HV
      go_upto_region 9 with fail
      cases hmy : (mayI enc) n with
      | true =>
        rw [hmy] at HM HV
        rw [if_pos rfl] at HV
        have hwn : wrap64 n = n := w64 _ (by have := mayI_rng hmy; omega)
        have hK2 : Hid (Blk w1 gr 63 (rdc (.slice (some x) l.length cv) ⟨s.at_ + u, 0, s.p⟩ u1 u2)) := hide_ (by have := hK1.out; rw [HSe.out] at this; exact this)
        clear hmy
        go_wp2_with (go_at_call 72; refine HM.out.mono ?_; rintro e w' ⟨rfl, rfl⟩)
        go_ret
        exact ⟨by rw [HV.out]; exact ret_int hwn, by rw [HV.out]; exact hK2, hU1⟩
      | false =>
        rw [hmy] at HM HV
        rw [if_neg (by simp)] at HV
        clear hmy
        go_wp2_with (first | (go_at_call 72; refine HM.out.mono ?_; rintro e w' ⟨rfl, rfl⟩) | (go_at_call 56; refine (HRf.out _ _).mono ?_; rintro e w2 ⟨rfl, hK2, hU2⟩))
        go_ret
        exact ⟨by rw [HV.out]; rfl, by rw [HV.out]; exact hK2, hide_ (hU1.out.to hU2.out)⟩
    · have hrb : (r != 0) = true := by simpa using hr0
      rw [if_neg hr0] at HV
      go_wp2_with (go_at_call 56; refine (HRf.out _ _).mono ?_; rintro e w2 ⟨rfl, hK2, hU2⟩)
      go_ret
      exact ⟨by rw [HV.out]; rfl, by rw [HV.out]; exact hK2, hide_ (hU1.out.to hU2.out)⟩
end Go.Proofs.YteadmiikenpjeaaDoor
