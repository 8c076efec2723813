/- Code: the reader: count, number, oneOf, instr. -/
import Derived.Test.YteadmiikenpjeaaDoorCdj
namespace Go.Proofs.YteadmiikenpjeaaDoor
open Go.RowKit
set_option linter.unusedVariables false

section
variable (gr : Nat) (av : Option Addr) (cv : Nat) (u1 u2 : Value) (l : List Int) (s : Rs) (w : World) (hs : s.at_ ≤ l.length) (hlc : l.length ≤ cv) (hcv : l.length ≤ 9223372036854775000) (hnil : av = none → cv = 0) (hby : Hid (Bys l)) (hrow : Hid (Row .u8 w av l)) (h : Hid (Blk w gr 63 (rdc (.slice av l.length cv) s u1 u2)))
include hs hlc hcv hnil hby hrow h
theorem count_any : Calls Tryd.prog 52 #[.pointer (some ⟨gr, 0, none⟩)] w fun e w' => e = .returned (.int .i64 (rdV l s 4 mayC).1) ∧ Hid (Blk w' gr 63 (rdc (.slice av l.length cv) (rdV l s 4 mayC).2 u1 u2)) ∧ Hid (Upd (fun k => k = gr) w w') := by
  have HC := hide_ (varintC_any gr av cv u1 u2 l s 4 w hs hlc hcv hnil hby hrow h)
  generalize rdV l s 4 mayC = R at *
  go_enter Tryd.func52, Tryd.ntmps52
  go_wp2_with (go_at_call 69; refine HC.out.mono ?_; rintro e w' ⟨rfl, hK, hU⟩)
  go_ret
  exact ⟨rfl, hK, hU⟩
theorem number_any : Calls Tryd.prog 54 #[.pointer (some ⟨gr, 0, none⟩)] w fun e w' => e = .returned (.int .i64 (rdN l s).1) ∧ Hid (Blk w' gr 63 (rdc (.slice av l.length cv) (rdN l s).2 u1 u2)) ∧ Hid (Upd (fun k => k = gr) w w') := by
  have HC := hide_ (varintN_any gr av cv u1 u2 l s 3 w hs hlc hcv hnil hby hrow h)
  unfold rdN
  generalize rdV l s 3 mayN = R at *
  go_enter Tryd.func54, Tryd.ntmps54
  go_wp2_with (go_at_call 69; refine HC.out.mono ?_; rintro e w' ⟨rfl, hK, hU⟩)
  go_ret
  exact ⟨rfl, hK, hU⟩
set_option maxRecDepth 100000 in
set_option maxHeartbeats 4000000 in
theorem oneOf_any (lo hi : Int) : Calls Tryd.prog 51 #[.pointer (some ⟨gr, 0, none⟩), .int .u8 lo, .int .u8 hi] w fun e w' => e = .returned (.int .u8 (rdO l s lo hi).1) ∧ Hid (Blk w' gr 63 (rdc (.slice av l.length cv) (rdO l s lo hi).2 u1 u2)) ∧ Hid (Upd (fun k => k = gr) w w') := by
  have hlc2 := hlc
  have HG := hide_ (going_any gr _ u1 u2 s w h)
  by_cases he : s.e = 0
  case neg =>
    have e1 : rdO l s lo hi = (lo, s) := by unfold rdO; rw [if_neg he]
    have hb : (s.e == 0) = false := by simpa using he
    rw [hb] at HG
    rw [e1]
    clear he hb e1
    go_enter Tryd.func51, Tryd.ntmps51
    go_wp2_with (go_at_call 53; refine HG.out.mono ?_; rintro e w' ⟨rfl, rfl⟩)
    go_ret
    exact ⟨rfl, h, hide_ (Upd.refl _ _)⟩
  have hb : (s.e == 0) = true := by simpa using he
  rw [hb] at HG
  have c0 := h.out.cell 0; have c1 := h.out.cell 1
  have fz := fun i => h.out.frozen i
  simp [rdc] at c0 c1
  have hrfs : ∀ er' p', rfs s er' p' = ⟨s.at_, er', p'⟩ := fun er' p' => by unfold rfs; rw [if_pos he]
  have HRf : Hid (∀ (er' p' : Int) (w' : World), Blk w' gr 63 (rdc (.slice av l.length cv) s u1 u2) → Calls Tryd.prog 56 #[.pointer (some ⟨gr, 0, none⟩), .int .i64 er', .int .i64 p'] w' fun e w'' => e = .returned (.tuple #[]) ∧ Hid (Blk w'' gr 63 (rdc (.slice av l.length cv) ⟨s.at_, er', p'⟩ u1 u2)) ∧ Hid (Upd (fun k => k = gr) w' w'')) := hide_ (fun er' p' w' hk => by
    have := refuse_any gr (.slice av l.length cv) u1 u2 s er' p' w' (hide_ hk)
    rw [hrfs] at this
    exact this)
  by_cases hat : s.at_ = l.length
  case pos =>
    have HV : Hid (rdO l s lo hi = (lo, ⟨s.at_, 20, s.at_⟩)) := hide_ (by unfold rdO; rw [if_pos he, if_pos hat])
    have hab : ((s.at_ : Int) == (l.length : Int)) = true := by simp [hat]
    clear he hb hrfs hat
    go_enter Tryd.func51, Tryd.ntmps51
    go_upto_region 3 with (go_at_call 53; refine HG.out.mono ?_; rintro e w' ⟨rfl, rfl⟩)
    go_region
    all_goals
      go_wp2_with (go_at_call 56; refine (HRf.out _ _ _ (Blk.drew h.out)).mono ?_; rintro e w2 ⟨rfl, hK2, hU2⟩)
      go_ret
      exact ⟨by rw [HV.out]; rfl, by rw [HV.out]; exact hK2, hide_ ((Upd.drew (Upd.refl _ _)).to hU2.out)⟩
  have hlt : s.at_ < l.length := by omega
  obtain ⟨b, off, rfl, hb', hcs⟩ := hrow.out.open (by omega)
  have hc := hcs s.at_ hlt
  have hby' := hby.out.at s.at_
  have HV : Hid (rdO l s lo hi = (l.getD s.at_ 0, if l.getD s.at_ 0 < lo ∨ hi < l.getD s.at_ 0 then ⟨s.at_ + 1, 150, s.at_⟩ else ⟨s.at_ + 1, 0, s.p⟩)) := hide_ (by unfold rdO; rw [if_pos he, if_neg hat])
  have hab : ((s.at_ : Int) == (l.length : Int)) = false := by simp; omega
  have hlt' : (s.at_ : Int) < l.length := by omega
  have hsw : wrap64 ((s.at_ : Int) + 1) = (s.at_ : Int) + 1 := w64 _ (by omega)
  generalize l.getD s.at_ 0 = c at *
  have HSe := hide_ he
  clear hcs hb hrfs hat he
  by_cases hbad : c < lo ∨ hi < c
  · rw [if_pos hbad] at HV
    have hbb : c < lo ∨ (¬ c < lo ∧ hi < c) := by omega
    clear hbad
    go_enter Tryd.func51, Tryd.ntmps51
    go_upto_region 3 with (go_at_call 53; refine HG.out.mono ?_; rintro e w' ⟨rfl, rfl⟩)
    go_region
    all_goals
      go_wp2_with fail
      go_region
      all_goals
        rcases hbb with hb1 | ⟨hb1, hb2⟩
        all_goals
          go_upto_region 8 with fail
          go_upto_region 9 with (go_at_call 56; refine (HRf.out _ _ _ (Blk.drew (Blk.drew h.out))).mono ?_; rintro e w2 ⟨rfl, hK2, hU2⟩)
          have d1 := hK2.out.cell 1
          have dz := fun i => hK2.out.frozen i
          simp [rdc] at d1
          go_wp2
          go_ret
          refine ⟨by rw [HV.out]; rfl, by rw [HV.out]; exact hide_ (by have := hK2.out.set 1 (.int .i64 ((s.at_ : Int) + 1)); simpa [rdc] using this), hide_ ((((Upd.refl _ w).drew.drew).to hU2.out).set _ _ (.inl rfl))⟩
  · rw [if_neg hbad] at HV
    have hb1 : ¬ c < lo := by omega
    have hb2 : ¬ hi < c := by omega
    have hK2 : Hid (Blk w gr 63 (rdc (.slice (some ⟨b, off, none⟩) l.length cv) ⟨s.at_, 0, s.p⟩ u1 u2)) := hide_ (by have := h.out; unfold rdc at this; rw [HSe.out] at this; exact this)
    clear hbad
    go_enter Tryd.func51, Tryd.ntmps51
    go_upto_region 3 with (go_at_call 53; refine HG.out.mono ?_; rintro e w' ⟨rfl, rfl⟩)
    go_region
    all_goals
      go_wp2_with fail
      go_region
      all_goals
        go_wp2_with fail
        go_ret
        refine ⟨by rw [HV.out]; rfl, by rw [HV.out]; exact hide_ (Blk.drew (Blk.drew (by have := hK2.out.set 1 (.int .i64 ((s.at_ : Int) + 1)); simpa [rdc] using this))), hide_ (((Upd.refl _ w).drew.drew).set _ _ (.inl rfl))⟩
end
end Go.Proofs.YteadmiikenpjeaaDoor
