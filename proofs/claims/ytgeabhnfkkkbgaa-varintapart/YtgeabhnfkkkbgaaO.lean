/- tells. -/
import Derived.Test.YtgeabhnfkkkbgaaK
import Derived.Test.YtgeabhnfkkkbgaaN
namespace Go.Proofs.Ytgeabhnfkkkbgaa
open Go.RowKit
set_option linter.unusedVariables false

/-- The two readers of one Both. -/
structure BothSt (B : Nat) (w : World) (bo bp br : Nat) (v : Value) (st : St) : Prop where
  blk : Blk w bo 50 [.pointer (some ⟨bp, 0, none⟩), .pointer (some ⟨br, 0, none⟩)]
  p : Rdr w bp st.1 st.2
  r : RRd B w br v st.1 st.2
  tk : TkS st
  lo : B ≤ bo
  lp : B ≤ bp
/-- Its blocks. -/
def FB (bo bp br : Nat) (v : Value) (k : Nat) : Prop := k = bo ∨ k = bp ∨ Fr br v k
theorem BothSt.upd {B bo bp br : Nat} {w w' : World} {v : Value} {st : St} {S : Nat → Prop} (h : BothSt B w bo bp br v st) (hu : Upd S w w') (hs : ∀ k, FB bo bp br v k → ¬ S k) : BothSt B w' bo bp br v st :=
  ⟨h.blk.upd hu (hs _ (.inl rfl)), h.p.upd hu (hs _ (.inr (.inl rfl))), h.r.upd hu (fun k hk => hs k (.inr (.inr hk))), h.tk, h.lo, h.lp⟩
theorem BothSt.later {B bo bp br : Nat} {w w' : World} {v : Value} {st : St} (h : BothSt B w bo bp br v st) (hB : Below w.heap.size w w') : BothSt B w' bo bp br v st :=
  h.upd (Upd.of_below (S := fun _ => False) hB) (fun _ _ h => h)
theorem BothSt.fb {B bo bp br : Nat} {w : World} {v : Value} {st : St} (h : BothSt B w bo bp br v st) (k : Nat) (hk : FB bo bp br v k) : B ≤ k ∧ k < w.heap.size := by
  rcases hk with rfl | rfl | hk
  · exact ⟨h.lo, h.blk.lt⟩
  · exact ⟨h.lp, Blk.lt h.p⟩
  · exact h.r.fr k hk
set_option maxHeartbeats 4000000 in
set_option maxRecDepth 100000 in
theorem tells_any (B bo bp br : Nat) (v : Value) (st : St) (w : World) (h : Hid (BothSt B w bo bp br v st)) :
    Calls Try.prog 21 #[.pointer (some ⟨bo, 0, none⟩)] w fun e w' => e = .returned (.bool true) ∧ Below w.heap.size w w' := by
  obtain ⟨l, ov⟩ := st
  have HT : Hid (TkN l) := h.out.tk.1
  obtain ⟨m, hm⟩ : ∃ m, l.length = m := ⟨_, rfl⟩
  have HM : Hid (l.length = m) := hm
  have hm10 : m ≤ 10 := by have := HT.out.2.1; omega
  clear hm
  obtain ⟨x, hx⟩ : ∃ x, Hid (val l = x) := ⟨_, rfl⟩
  go_enter Try.func21, Try.ntmps21
  go_wp2_with fail
  go_loopw [3] (fun i wr => ∃ k : Nat, k ≤ 2 ∧ i = .int .i64 k ∧ Hid (BothSt B wr bo bp br v (l, ov)) ∧ Below w.heap.size w wr) (fun i _ => 2 - (intOf i).toNat)
  case atStart => exact ⟨0, by omega, rfl, h, Below.refl _ _⟩
  case round =>
    obtain ⟨k, hk, rfl, HS, hBk⟩ := hrel
    by_cases hlt : k < 2
    · have hlt' : (k : Int) < 2 := by omega
      have c0 := HS.out.blk.cell 0
      simp only [List.getElem?_cons_zero] at c0
      go_wp2_with fail
      refine (read_at bp l ov _ m HM.out HS.out.p hm10).mono ?_; rintro e w1 ⟨g, rfl, hg, HK, hB1⟩
      have HS1 : Hid (BothSt B w1 bo bp br v (l, ov)) := HS.out.later hB1
      have hBw1 := below_to hBk hB1
      have hgw : w.heap.size ≤ g := Nat.le_trans hBk.size hg
      have HF : Hid (∀ k, FB bo bp br v k → ¬ k = g) := fun k hk e => by
        have h1 := (HS.out.fb k hk).2
        omega
      clear c0 HS hB1 hg hBk
      have C0 : Hid (∀ w', Below w1.heap.size w1 w' → w'.cell? ⟨bo, 0, none⟩ = some (.pointer (some ⟨bp, 0, none⟩))) := fun w' hB => by
        rw [(HS1.out.blk.later hB).cell 0]; rfl
      have C1 : Hid (∀ w', Below w1.heap.size w1 w' → w'.cell? ⟨bo, 1, none⟩ = some (.pointer (some ⟨br, 0, none⟩))) := fun w' hB => by
        rw [(HS1.out.blk.later hB).cell 1]; rfl
      have hB0 := Below.refl w1.heap.size w1
      go_wp2_with fail
      go_region_held3 (fun w' => w'.cell? ⟨bo, 0, none⟩ = some (.pointer (some ⟨bp, 0, none⟩)) ∧ w'.cell? ⟨bo, 1, none⟩ = some (.pointer (some ⟨br, 0, none⟩)) ∧ Below w1.heap.size w1 w') (first | assumption | (refine ⟨C0.out _ ?_, C1.out _ ?_, ?_⟩ <;> first | assumption | exact hB0.drew | (refine Below.drew ?_; first | assumption | exact hB0.drew | exact And.right (And.right (by assumption)))))
        (first
          | (go_at_call 17; refine (n_any bp l ov _ (HS1.out.p.later (by first | assumption | exact And.right (And.right (by assumption)))) HT.out).mono ?_; rintro e w9 ⟨rfl, hw9⟩; subst hw9; rw [hx.out])
          | (go_at_call 33; refine (rn_any B br v l ov _ (HS1.out.r.later (by first | assumption | exact And.right (And.right (by assumption)))) HT.out).mono ?_; rintro e w9 ⟨rfl, rfl⟩; rw [hx.out])
          | (go_at_call 34; refine (rread_any B br v l ov _ m HM.out (HS1.out.r.later (by first | assumption | exact And.right (And.right (by assumption)))) hm10).mono ?_; rintro e w8 ⟨a8, c8, rfl, HK8, hB8⟩; have hB78 := below_to (by first | assumption | exact And.right (And.right (by assumption))) hB8)
          | (go_at_call 13; refine (same_yes _ m _ _ m _ l _ HM.out HM.out (HK.out.later (by first | assumption | exact And.right (And.right (by assumption)))).row HK8.out).mono ?_; rintro e w' ⟨rfl, rfl⟩))
      have HS8 : Hid (BothSt B w8 bo bp br v (l, ov)) := HS1.out.later hB78
      have HK8b : Hid (∃ ys, Blk w8 g 5 ys ∧ ys.length = m) := ⟨_, HK.out.later hB78, by rw [cellsL_length, HM.out]⟩
      have hBw8 := below_to hBw1 hB78
      clear HS1 HK hB8 hB78 HK8 C0 C1 hB0 hBw1
      go_wp2_with fail
      go_loopw [5] (fun i wr => ∃ j : Nat, j ≤ m ∧ i = .int .i64 j ∧ Hid (∃ ys, Blk wr g 5 ys ∧ ys.length = m) ∧ Upd (fun k => k = g) w8 wr) (fun i _ => m - (intOf i).toNat)
      case atStart => exact ⟨0, Nat.zero_le _, rfl, HK8b, Upd.refl _ _⟩
      case round =>
        obtain ⟨j, hj, rfl, HBj, hUj⟩ := hrel
        by_cases hjm : j < m
        · have hjm' : (j : Int) < m := by omega
          obtain ⟨ys, hb, hys⟩ := HBj.out
          have hz := hb.frozen j
          obtain ⟨u, hu⟩ : ∃ u, wr.cell? ⟨g, j, none⟩ = some u := ⟨_, by rw [hb.cell j]; exact List.getElem?_eq_getElem (by omega)⟩
          have HB2 : Hid (∃ zs, Blk (wr.setCell ⟨g, j, none⟩ (.int .u8 68)) g 5 zs ∧ zs.length = m) := ⟨_, hb.set j (.int .u8 68), by rw [List.length_set]; exact hys⟩
          clear hb hys HBj
          go_wp2
          go_roundw
          case rel => exact ⟨j + 1, by omega, by go_num, HB2, hUj.set ⟨g, j, none⟩ _ (.inl rfl)⟩
          case measure => simp [intOf]; omega
        · have hjm' : ¬ (j : Int) < m := by omega
          obtain ⟨ys, hb, hys⟩ := HBj.out
          have ho := hb.owns w.heap.size m m hgw hys (Nat.le_refl _) (by unfold maxLen; omega)
          obtain ⟨g2, cap2, w9, hr, ho2, hU9, hg9⟩ := run_pushV E23.sl E23.info rfl wr 23 w.heap.size (.slice (some ⟨g, 0, none⟩) m m) m _ ho (.int .u8 68) rfl (by unfold maxLen; omega) (by omega) (Nat.le_trans hBw8.size hUj.size)
          have R1 : Hid _ := hr
          have hU89 : Upd (fun k => k = g) w8 w9 := hUj.trans hU9 (fun k _ hk => by injection hk with hk; exact hk.symm)
          have HS9 : Hid (BothSt B w9 bo bp br v (l, ov)) := HS8.out.upd hU89 HF.out
          have hBw9 : Below w.heap.size w w9 := hBw8.trans (hU89.below _ hBw8.size (fun k hk => by subst hk; exact hgw))
          clear hr ho ho2 hU9 hg9 hb hys HBj hUj hU89
          go_wp2_with (at_builtin; have _t := R1; refine wpList_append_run rfl (.tmp 45) (.tmp 46) 23 23 rfl rfl rfl R1.out ?_; clear R1)
          go_roundw
          case rel => exact ⟨k + 1, by omega, by go_num, HS9, hBw9⟩
          case measure => simp [intOf]; omega
    · have hlt' : ¬ (k : Int) < 2 := by omega
      go_wp2
      go_ret
      exact ⟨rfl, hBk⟩
end Go.Proofs.Ytgeabhnfkkkbgaa
