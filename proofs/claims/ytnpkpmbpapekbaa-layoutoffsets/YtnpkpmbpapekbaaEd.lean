/- The document's Offsets and Lengths. -/
import Derived.Test.YtnpkpmbpapekbaaEc
import Derived.Test.YtnpkpmbpapekbaaRgf
namespace Go.Proofs.Ytnpkpmbpapekbaa
open Go.RowKit
set_option linter.unusedVariables false

set_option maxRecDepth 100000 in
set_option maxHeartbeats 8000000 in
theorem offsetsR_any (f : Int) (a : Option Addr) (c : Nat) (l : List Int) (w : World) (hn : l.length ≤ 17592186044415) (hr : Hid (Row .i64 w a l)) :
    Calls Try.prog 14 #[.int .i64 f, .slice a l.length c] w fun e w' => ∃ v, e = .returned (.tuple #[v, .int .i64 (offA f l).2]) ∧ Hid (OwnTo w v (offA f l).1 w') := by
  have HNil := hide_ (IOwn.nil w w.heap.size)
  by_cases hf : f < 0
  · have HA : Hid (offA f l = ([], 3)) := hide_ (by unfold offA; rw [if_pos (Or.inl hf)])
    go_enter Try.func14, Try.ntmps14
    go_wp2
    go_ret2
    exact ⟨.slice none 0 0, by rw [HA.out]; rfl, hide_ ⟨by rw [HA.out]; exact HNil.out, Below.refl _ _⟩⟩
  · have hf' : decide (f < 0) = false := by simpa using hf
    have HF : Hid (0 ≤ f) := hide_ (by omega)
    go_enter Try.func14, Try.ntmps14
    go_wp2_with fail
    go_loopw [6] (fun x6 wr => ∃ i : Nat, i ≤ l.length ∧ x6 = .int .i64 (i : Int) ∧ Hid (∀ j, j < i → 0 ≤ l.getD j 0) ∧ w = wr) (fun x6 _ => l.length - (intOf x6).toNat)
    case atStart => exact ⟨0, Nat.zero_le _, rfl, hide_ (fun j hj => by omega), rfl⟩
    case round =>
      obtain ⟨i, hi, rfl, HN, rfl⟩ := hrel
      by_cases hlt : i < l.length
      · have hlt' : (i : Int) < l.length := by omega
        obtain ⟨ba, oa, rfl, -, ca⟩ := hr.out.open (by omega)
        have x0 := ca i hlt
        obtain ⟨q, hq⟩ : ∃ q, l.getD i 0 = q := ⟨_, rfl⟩
        rw [hq] at x0
        have HQ := hide_ hq
        clear ca hq
        by_cases hneg : q < 0
        · have HA : Hid (offA f l = ([], 3)) := hide_ (by
            unfold offA
            rw [if_pos]
            refine Or.inr ?_
            simp only [negL, List.any_eq_true]
            refine ⟨l.getD i 0, by simp [List.getD, hlt], ?_⟩
            rw [HQ.out]
            exact decide_eq_true hneg)
          go_wp2
          go_ret2
          exact ⟨.slice none 0 0, by rw [HA.out]; rfl, hide_ ⟨by rw [HA.out]; exact HNil.out, Below.refl _ _⟩⟩
        · have HN2 : Hid (∀ j, j < i + 1 → 0 ≤ l.getD j 0) := hide_ (fun j hj => by
            by_cases h : j = i
            · subst h; rw [HQ.out]; omega
            · exact HN.out j (by omega))
          go_wp2_with fail
          go_roundw
          case rel => exact ⟨i + 1, by omega, by go_num, HN2, by trivial⟩
          case measure => simp [intOf]; omega
      · obtain rfl : i = l.length := by omega
        have HBn : Hid (negL l = false) := hide_ (negL_of HN.out)
        have HA : Hid (offA f l = if bigL f l l.length = true then ([], 91) else (offL f l l.length, 0)) := hide_ (by
          unfold offA
          rw [if_neg]
          rw [HBn.out]
          have := HF.out
          simp
          omega)
        clear HN
        go_wp2_with fail
        go_loopw [7, 8, 9] (fun x7 x8 x9 wr => ∃ (v : Value) (p : Int) (i : Nat), v = x7 ∧ i ≤ l.length ∧ x8 = .int .i64 p ∧ x9 = .int .i64 (i : Int) ∧ Hid (atP f l i = p ∨ (4294967295 < p ∧ 4294967295 < atP f l i)) ∧ Hid (bigL f l i = false) ∧ Hid (IOwn wr w.heap.size v (offL f l i)) ∧ Hid (Below w.heap.size w wr)) (fun _ _ x9 _ => l.length - (intOf x9).toNat)
        case atStart => exact ⟨_, f, 0, rfl, Nat.zero_le _, rfl, rfl, hide_ (.inl rfl), hide_ rfl, HNil, hide_ (Below.refl _ _)⟩
        case round =>
          obtain ⟨v, p, i, rfl, hi, rfl, rfl, HP, HG, HO, HB⟩ := hrel
          generalize wr = wq at *
          clear HNil
          by_cases hlt : i < l.length
          · have hlt' : (i : Int) < l.length := by omega
            obtain ⟨ba, oa, rfl, -, ca⟩ := (hr.out.later HB.out).open (by omega)
            have x0 := ca i hlt
            have hnn := negL_at HBn.out i
            have hpn := atP_nn HF.out HBn.out i
            have hnx : atP f l (i + 1) = atP f l i + min (l.getD i 0) 4294967296 := rfl
            generalize l.getD i 0 = q at *
            clear ca
            by_cases hbig : 4294967295 < p
            · have HT : Hid (bigL f l l.length = true) := hide_ (bigL_mono (j := i + 1) (by
                rw [bigL_succ]
                have := HP.out
                simp
                omega) (by omega))
              clear hnx hpn
              go_wp2
              go_ret2
              exact ⟨.slice none 0 0, by rw [HA.out, if_pos HT.out]; rfl, hide_ ⟨by rw [HA.out, if_pos HT.out]; exact IOwn.nil _ _, HB.out⟩⟩
            · have he : atP f l i = p := by have := HP.out; omega
              rw [he] at hpn hnx
              have HG2 : Hid (bigL f l (i + 1) = false) := hide_ (by rw [bigL_succ, he, HG.out]; simp; omega)
              obtain ⟨g, cap, w8, hrun, hO8, hU8, hg8⟩ := HO.out.push p (by rw [offL_len]; omega) HB.out.size
              have hB8 := hU8.below w.heap.size HB.out.size (fun k hk => (HO.out.lies hk).1)
              have HB8 := hide_ (HB.out.trans hB8)
              have HO8 : Hid (IOwn w8 w.heap.size (.slice (some ⟨g, 0, none⟩) ((offL f l i).length + 1) cap) (offL f l (i + 1))) := hide_ (by rw [offL_succ, he]; exact hO8)
              have HRow8 := hide_ (hr.out.later HB8.out)
              obtain ⟨ba8, oa8, ea8, -, ca8⟩ := HRow8.out.open (by omega)
              injection ea8 with ea8
              injection ea8 with e1 e2 _
              have x8 : w8.cell? ⟨ba, oa + i, none⟩ = some (.int .i64 q) := by
                have h := ca8 i hlt
                rw [← e1, ← e2] at h
                have h0 := (hr.out.later HB.out).open (by omega)
                obtain ⟨b9, o9, e9, -, c9⟩ := h0
                injection e9 with e9
                injection e9 with e91 e92 _
                have h9 := c9 i hlt
                rw [← e91, ← e92, x0] at h9
                rw [h, ← h9]
              have HRun := hide_ hrun
              have HNx := hide_ hnx
              obtain ⟨av, cv, hav⟩ := HO.out.slice
              subst hav
              clear hrun hO8 hU8 hB8 hnx hg8 ca8 e1 e2 HRow8 he
              by_cases hq : 4294967295 < q
              · have HN3 : Hid (atP f l (i + 1) = 4294967296 ∨ (4294967295 < (4294967296 : Int) ∧ 4294967295 < atP f l (i + 1))) := hide_ (by have := HNx.out; omega)
                clear hnn hpn
                go_wp2_with (first | (at_builtin; refine wpList_append_run rfl (.tmp 32) (.tmp 34) 22 22 rfl rfl rfl HRun.out ?_; clear HRun) | fail)
                go_roundw
                case rel => exact ⟨_, _, i + 1, rfl, by omega, rfl, by go_num, HN3, HG2, HO8, HB8⟩
                case measure => simp [intOf]; omega
              · have hw := w64 (p + q) (by omega)
                have HN3 : Hid (atP f l (i + 1) = wrap64 (p + q) ∨ (4294967295 < wrap64 (p + q) ∧ 4294967295 < atP f l (i + 1))) := hide_ (by rw [hw]; clear hw; have := HNx.out; omega)
                clear hnn hpn
                go_wp2_with (first | (at_builtin; refine wpList_append_run rfl (.tmp 32) (.tmp 34) 22 22 rfl rfl rfl HRun.out ?_; clear HRun) | fail)
                go_roundw
                case rel => exact ⟨_, _, i + 1, rfl, by omega, rfl, by go_num, HN3, HG2, HO8, HB8⟩
                case measure => simp [intOf]; omega
          · obtain rfl : i = l.length := by omega
            go_wp2
            go_ret2
            exact ⟨v, by rw [HA.out, if_neg (by rw [HG.out]; simp)]; rfl, hide_ ⟨by rw [HA.out, if_neg (by rw [HG.out]; simp)]; exact HO.out, HB.out⟩⟩
set_option maxRecDepth 100000 in
set_option maxHeartbeats 16000000 in
theorem lengthsR_any (f E : Int) (a : Option Addr) (c : Nat) (l : List Int) (w : World) (hn : l.length ≤ 17592186044415) (hE : E ≤ 9223372036854775807) (hr : Hid (Row .i64 w a l)) :
    Calls Try.prog 15 #[.int .i64 f, .slice a l.length c, .int .i64 E] w fun e w' => ∃ v, e = .returned (.tuple #[v, .int .i64 (lenA f l E).2.1, .int .i64 (lenA f l E).2.2]) ∧ Hid (OwnTo w v (lenA f l E).1 w') := by
  have HNil := hide_ (IOwn.nil w w.heap.size)
  by_cases hf : f < 0
  · have HA : Hid (lenA f l E = ([], 0, 3)) := hide_ (by unfold lenA; rw [if_pos hf])
    go_enter Try.func15, Try.ntmps15
    go_wp2
    go_ret3
    exact ⟨.slice none 0 0, by rw [HA.out]; rfl, hide_ ⟨by rw [HA.out]; exact HNil.out, Below.refl _ _⟩⟩
  · have hf' : decide (f < 0) = false := by simpa using hf
    have HF : Hid (0 ≤ f) := hide_ (by omega)
    obtain ⟨r0, hr0⟩ : ∃ r0, lenA f l E = r0 := ⟨_, rfl⟩
    rw [hr0]
    have HR0 : Hid ((match fwP f l E with | some i => ([], (i : Int), 122) | none => (lenL l E l.length, 0, 0)) = r0) := hide_ (by rw [← hr0]; unfold lenA; rw [if_neg hf]; cases fwP f l E <;> rfl)
    clear hr0 hf
    go_enter Try.func15, Try.ntmps15
    go_wp2_with fail
    go_loopw [9] (fun x9 wr => ∃ i : Nat, i ≤ l.length ∧ x9 = .int .i64 (i : Int) ∧ Hid (∀ j, j < i → wrongP f l E j = false) ∧ Hid (Below w.heap.size w wr)) (fun x9 _ => l.length - (intOf x9).toNat)
    case atStart => exact ⟨0, Nat.zero_le _, rfl, hide_ (fun j hj => by omega), hide_ (Below.refl _ _)⟩
    case round =>
      obtain ⟨i, hi, rfl, HN, HB⟩ := hrel
      generalize wr = wq at *
      by_cases hlt : i < l.length
      · have hlt' : (i : Int) < l.length := by omega
        have hl0 : (0 : Int) < l.length := by omega
        obtain ⟨ba, oa, rfl, -, ca⟩ := (hr.out.later HB.out).open (by omega)
        have x0 := ca i hlt
        obtain ⟨q, hq⟩ : ∃ q, l.getD i 0 = q := ⟨_, rfl⟩
        rw [hq] at x0
        have HQ := hide_ hq
        have HBq : ∀ m, Hid (Below w.heap.size w (wq.drewN m)) := fun m => hide_ (below_drewN HB.out m)
        by_cases hz : i = 0
        · have HZ := hide_ hz
          have hz' : ((i : Int) == 0) = true := by simp [hz]
          have hz2 : decide (0 < i) = false := by simp; omega
          have z0 : wq.cell? ⟨ba, oa, none⟩ = some (.int .i64 q) := by rw [hz] at x0; simpa using x0
          clear hz ca hq
          by_cases hEq : E < q
          · have hE1 : decide (E < q) = true := decide_eq_true hEq
            have HE := hide_ hEq
            clear hEq
            have HF2 : Hid (r0 = ([], (i : Int), 122)) := hide_ (by rw [← HR0.out, fwP_some_of hlt (by simp only [wrongP]; rw [HQ.out, decide_eq_true HE.out, Bool.or_true]) HN.out])
            clear HR0
            go_wp2_with fail
            go_quiet (fail)
            go_wp2
            go_ret3
            exact ⟨.slice none 0 0, by rw [HF2.out]; rfl, hide_ ⟨by rw [HF2.out]; exact IOwn.nil _ _, (HBq _).out⟩⟩
          · have hE1 : decide (E < q) = false := decide_eq_false hEq
            have HE := hide_ hEq
            clear hEq
            by_cases hqf : q = f
            · have hq1 : (q != f) = false := by simp [hqf]
              have HQF := hide_ hqf
              clear hqf
              have HN2 : Hid (∀ j, j < i + 1 → wrongP f l E j = false) := hide_ (fun j hj => by
                by_cases h : j = i
                · subst h; simp only [wrongP]; rw [HZ.out, if_pos rfl, ← HZ.out, HQ.out, decide_eq_false HE.out, decide_eq_false (by have := HQF.out; simpa using this)]; rfl
                · exact HN.out j (by omega))
              go_wp2_with fail
              go_quiet (fail)
              go_wp2_with fail
              go_roundw
              case rel => exact ⟨i + 1, by omega, by go_num, HN2, HBq _⟩
              case measure => simp [intOf]; omega
            · have hq1 : (q != f) = true := by simpa using hqf
              have HQF := hide_ hqf
              clear hqf
              have HF2 : Hid (r0 = ([], (i : Int), 122)) := hide_ (by rw [← HR0.out, fwP_some_of hlt (by simp only [wrongP]; rw [HZ.out, if_pos rfl, ← HZ.out, HQ.out, decide_eq_true HQF.out, Bool.true_or]) HN.out])
              clear HR0
              go_wp2_with fail
              go_quiet (fail)
              go_wp2
              go_ret3
              exact ⟨.slice none 0 0, by rw [HF2.out]; rfl, hide_ ⟨by rw [HF2.out]; exact IOwn.nil _ _, (HBq _).out⟩⟩
        · have HZ := hide_ hz
          have hz' : ((i : Int) == 0) = false := by simp; omega
          have hz2 : decide (0 < i) = true := by simp; omega
          have y0 := ca (i - 1) (by omega)
          obtain ⟨p, hp⟩ : ∃ p, l.getD (i - 1) 0 = p := ⟨_, rfl⟩
          rw [hp] at y0
          have HPf := hide_ hp
          have hw1 : IntKind.i64.wrap ((i : Int) - 1) = ((i - 1 : Nat) : Int) := by rw [i64w _ (by omega)]; omega
          have hw2 : wrap64 ((i : Int) - 1) = ((i - 1 : Nat) : Int) := by rw [w64 _ (by omega)]; omega
          obtain ⟨k, hk⟩ : ∃ k, i - 1 = k := ⟨_, rfl⟩
          have hkl : (k : Int) < l.length := by omega
          rw [hk] at y0 hw1 hw2
          clear hz ca hq hp hk
          by_cases hqp : q < p
          · have hq2 : decide (q < p) = true := decide_eq_true hqp
            have HQP := hide_ hqp
            clear hqp
            by_cases hEq : E < q
            · have hE1 : decide (E < q) = true := decide_eq_true hEq
              clear hEq
              have HF2 : Hid (r0 = ([], (i : Int), 122)) := hide_ (by rw [← HR0.out, fwP_some_of hlt (by simp only [wrongP]; rw [if_neg HZ.out, HQ.out, HPf.out, decide_eq_true HQP.out, Bool.true_or]) HN.out])
              clear HR0
              go_wp2_with fail
              go_quiet (fail)
              go_wp2
              go_ret3
              exact ⟨.slice none 0 0, by rw [HF2.out]; rfl, hide_ ⟨by rw [HF2.out]; exact IOwn.nil _ _, (HBq _).out⟩⟩
            · have hE1 : decide (E < q) = false := decide_eq_false hEq
              clear hEq
              have HF2 : Hid (r0 = ([], (i : Int), 122)) := hide_ (by rw [← HR0.out, fwP_some_of hlt (by simp only [wrongP]; rw [if_neg HZ.out, HQ.out, HPf.out, decide_eq_true HQP.out, Bool.true_or]) HN.out])
              clear HR0
              go_wp2_with fail
              go_quiet (fail)
              go_wp2
              go_ret3
              exact ⟨.slice none 0 0, by rw [HF2.out]; rfl, hide_ ⟨by rw [HF2.out]; exact IOwn.nil _ _, (HBq _).out⟩⟩
          · have hq2 : decide (q < p) = false := decide_eq_false hqp
            have HQP := hide_ hqp
            clear hqp
            by_cases hEq : E < q
            · have hE1 : decide (E < q) = true := decide_eq_true hEq
              have HE := hide_ hEq
              clear hEq
              have HF2 : Hid (r0 = ([], (i : Int), 122)) := hide_ (by rw [← HR0.out, fwP_some_of hlt (by simp only [wrongP]; rw [HQ.out, decide_eq_true HE.out, Bool.or_true]) HN.out])
              clear HR0
              go_wp2_with fail
              go_quiet (fail)
              go_wp2
              go_ret3
              exact ⟨.slice none 0 0, by rw [HF2.out]; rfl, hide_ ⟨by rw [HF2.out]; exact IOwn.nil _ _, (HBq _).out⟩⟩
            · have hE1 : decide (E < q) = false := decide_eq_false hEq
              have HE := hide_ hEq
              clear hEq
              have HN2 : Hid (∀ j, j < i + 1 → wrongP f l E j = false) := hide_ (fun j hj => by
                by_cases h : j = i
                · subst h; simp only [wrongP]; rw [if_neg HZ.out, HQ.out, HPf.out, decide_eq_false HQP.out, decide_eq_false HE.out]; rfl
                · exact HN.out j (by omega))
              go_wp2_with fail
              go_quiet (fail)
              go_wp2_with fail
              go_roundw
              case rel => exact ⟨i + 1, by omega, by go_num, HN2, HBq _⟩
              case measure => simp [intOf]; omega
      · obtain rfl : i = l.length := by omega
        have HA : Hid (r0 = (lenL l E l.length, 0, 0)) := hide_ (by rw [← HR0.out, fwP_none_of HN.out])
        have HBd : Hid (∀ i, i < l.length → 0 ≤ l.getD i 0 ∧ l.getD i 0 ≤ E) := hide_ (fun i hi => by
          have := right_nn HF.out i hi (fun j hj => HN.out j (by omega))
          have := HF.out
          omega)
        have hwl := w64 ((l.length : Int) - 1) (by omega)
        clear HN HR0
        go_wp2_with fail
        go_loopw [11, 12] (fun x11 x12 wr => ∃ (v : Value) (i : Nat), v = x11 ∧ i ≤ l.length ∧ x12 = .int .i64 (i : Int) ∧ Hid (IOwn wr w.heap.size v (lenL l E i)) ∧ Hid (Below w.heap.size w wr)) (fun _ x12 _ => l.length - (intOf x12).toNat)
        case atStart => exact ⟨_, 0, rfl, Nat.zero_le _, rfl, hide_ (IOwn.nil _ _), HB⟩
        case round =>
          obtain ⟨v, i, rfl, hi, rfl, HO, HB⟩ := hrel
          generalize wr = wp at *
          clear HNil
          by_cases hlt : i < l.length
          · have hlt' : (i : Int) < l.length := by omega
            obtain ⟨ba, oa, rfl, -, ca⟩ := (hr.out.later HB.out).open (by omega)
            have x0 := ca i hlt
            have hq := HBd.out i hlt
            by_cases hnx : i + 1 < l.length
            · have he : ((i : Int) == (l.length : Int) - 1) = false := by simp; omega
              have y0 := ca (i + 1) hnx
              have hy := HBd.out (i + 1) hnx
              have hv : lenOf l E i = l.getD (i + 1) 0 - l.getD i 0 := by unfold lenOf; rw [if_pos hnx]
              have hnx' : (i : Int) + 1 < l.length := by omega
              have hge : (0 : Int) ≤ (i : Int) + 1 := by omega
              obtain ⟨g, cap, w8, hrun, hO8, hU8, -⟩ := IOwn.push (w := wp.drew) HO.out (lenOf l E i) (by rw [lenL_len]; omega) HB.out.drew.size
              have hB8 := hU8.below w.heap.size HB.out.drew.size (fun k hk => (HO.out.lies hk).1)
              have HB8 := hide_ (HB.out.drew.trans hB8)
              have HO8 : Hid (IOwn w8 w.heap.size (.slice (some ⟨g, 0, none⟩) ((lenL l E i).length + 1) cap) (lenL l E (i + 1))) := hide_ (by rw [lenL_succ]; exact hO8)
              obtain ⟨av, cv, hav⟩ := HO.out.slice
              subst hav
              rw [hv] at hrun
              obtain ⟨q, hqq⟩ : ∃ q, l.getD i 0 = q := ⟨_, rfl⟩
              obtain ⟨r, hrr⟩ : ∃ r, l.getD (i + 1) 0 = r := ⟨_, rfl⟩
              have HC : Hid (∀ w', Below wp.heap.size wp w' → w'.cell? ⟨ba, oa + i, none⟩ = some (.int .i64 q) ∧ w'.cell? ⟨ba, oa + (i + 1), none⟩ = some (.int .i64 r)) := hide_ (fun w' hb => by
                rw [hqq] at x0
                rw [hrr] at y0
                exact ⟨(hb.cell (World.block_lt_of_cell? wp _ x0)).trans x0, (hb.cell (World.block_lt_of_cell? wp _ y0)).trans y0⟩)
              have HC2 : Hid (∀ w', Below w.heap.size wp w' → w'.cell? ⟨ba, oa + i, none⟩ = some (.int .i64 q) ∧ w'.cell? ⟨ba, oa + (i + 1), none⟩ = some (.int .i64 r)) := hide_ (fun w' hb => by
                obtain ⟨b0, o0, e0, h0, c0⟩ := hr.out.open (by omega)
                injection e0 with e0
                injection e0 with e1 e2 _
                rw [hqq] at x0
                rw [hrr] at y0
                rw [← e1] at h0
                exact ⟨(hb.cell h0).trans x0, (hb.cell h0).trans y0⟩)
              rw [hqq] at hrun hq
              rw [hrr] at hrun hy
              have hw := w64 (r - q) (by omega)
              have hwr : IntKind.i64.wrap (r - q) = r - q := i64w _ (by omega)
              have hwi : IntKind.i64.wrap ((i : Int) + 1) = (i : Int) + 1 := i64w _ (by omega)
              have HBp := hide_ hB8
              have HRun := hide_ hrun
              have hBd := HB.out.drew
              have HBx := hide_ ((Below.refl w.heap.size wp).drew)
              clear hrun ca hv hO8 hU8 hB8 x0 y0 hnx hqq hrr hBd
              go_upto_region 17 with fail
              refine wp_region_last 13 (fun w' => w'.cell? ⟨ba, oa + i, none⟩ = some (.int .i64 q) ∧ w'.cell? ⟨ba, oa + (i + 1), none⟩ = some (.int .i64 r)) (by kernel_rfl) (HC2.out _ HBx.out) (fun hHeld => ?_)
              refine wpAnyF_take [13] (by kernel_rfl) (i := 0) (v := ?ve1) rfl (by kernel_rfl) (by kernel_rfl) (by kernel_rfl) (fun _ _ _ h => h) (Or.inl ⟨by kernel_rfl, ?hye1⟩) hHeld ?reste1
              case hye1 => intro w' hSw; (try dsimp only at hSw); go_simp; try with_reducible rfl
              simp only [Act.put]
              refine wpAnyF_take [13] (by kernel_rfl) (i := 1) (v := ?ve2) rfl (by kernel_rfl) (by kernel_rfl) (by kernel_rfl) (fun _ _ _ h => h) (Or.inl ⟨by kernel_rfl, ?hye2⟩) hHeld ?reste2
              case hye2 => intro w' hSw; (try dsimp only at hSw); go_simp; try with_reducible rfl
              simp only [Act.put]
              refine wpAnyF_take [13] (by kernel_rfl) (i := 2) (v := ?ve3) rfl (by kernel_rfl) (by kernel_rfl) (by kernel_rfl) (fun _ _ _ h => h) (Or.inl ⟨by kernel_rfl, ?hye3⟩) hHeld ?reste3
              case hye3 => intro w' hSw; (try dsimp only at hSw); go_simp; try with_reducible rfl
              simp only [Act.put]
              refine wpAnyF_take [13] (by kernel_rfl) (i := 3) (v := ?ve4) rfl (by kernel_rfl) (by kernel_rfl) (by kernel_rfl) (fun _ _ _ h => h) (Or.inl ⟨by kernel_rfl, ?hye4⟩) hHeld ?reste4
              case hye4 => intro w' hSw; (try dsimp only at hSw); go_simp; try with_reducible rfl
              simp only [Act.put]
              refine wpAnyF_take [13] (by kernel_rfl) (i := 4) (v := ?ve5) rfl (by kernel_rfl) (by kernel_rfl) (by kernel_rfl) (fun _ _ _ h => h) (Or.inl ⟨by kernel_rfl, ?hye5⟩) hHeld ?reste5
              case hye5 => intro w' hSw; (try dsimp only at hSw); go_simp; try with_reducible rfl
              simp only [Act.put]
              refine wpAnyF_take [13] (by kernel_rfl) (i := 5) (v := ?ve6) rfl (by kernel_rfl) (by kernel_rfl) (by kernel_rfl) (fun _ _ _ h => h) (Or.inl ⟨by kernel_rfl, ?hye6⟩) hHeld ?reste6
              case hye6 => intro w' hSw; (try dsimp only at hSw); go_simp; try with_reducible rfl
              simp only [Act.put]
              refine wpAnyF_take [13] (by kernel_rfl) (i := 6) (v := ?ve7) rfl (by kernel_rfl) (by kernel_rfl) (by kernel_rfl) (fun _ _ _ h => h) (Or.inl ⟨by kernel_rfl, ?hye7⟩) hHeld ?reste7
              case hye7 => intro w' hSw; (try dsimp only at hSw); go_simp; try with_reducible rfl
              simp only [Act.put]
              refine wpAnyF_take [13] (by kernel_rfl) (i := 7) (v := ?ve8) rfl (by kernel_rfl) (by kernel_rfl) (by kernel_rfl) (fun _ _ _ h => h) (Or.inl ⟨by kernel_rfl, ?hye8⟩) hHeld ?reste8
              case hye8 => intro w' hSw; (try dsimp only at hSw); go_simp; try with_reducible rfl
              simp only [Act.put]
              refine wpAnyF_take [13] (by kernel_rfl) (i := 8) (v := ?ve9) rfl (by kernel_rfl) (by kernel_rfl) (by kernel_rfl) (fun _ _ _ h => h) (Or.inl ⟨by kernel_rfl, ?hye9⟩) hHeld ?reste9
              case hye9 => intro w' hSw; (try dsimp only at hSw); go_simp; try with_reducible rfl
              simp only [Act.put]
              refine wpAnyF_take [13] (by kernel_rfl) (i := 9) (v := ?ve10) rfl (by kernel_rfl) (by kernel_rfl) (by kernel_rfl) (fun _ _ _ h => h) (Or.inl ⟨by kernel_rfl, ?hye10⟩) hHeld ?reste10
              case hye10 => intro w' hSw; (try dsimp only at hSw); go_simp; try with_reducible rfl
              simp only [Act.put]
              refine wpAnyF_take [13] (by kernel_rfl) (i := 10) (v := ?ve11) rfl (by kernel_rfl) (by kernel_rfl) (by kernel_rfl) (fun _ _ _ h => h) (Or.inl ⟨by kernel_rfl, ?hye11⟩) hHeld ?reste11
              case hye11 => intro w' hSw; (try dsimp only at hSw); go_simp; try with_reducible rfl
              simp only [Act.put]
              refine wpAnyF_ready (rs := [11]) (by kernel_rfl) (by simp) ?_
              refine AllReadyF.cons rfl (fun K hK => ?_) AllReadyF.nil
              go_simp
              refine hK.out _ _ (HC2.out _ (HBx.out.alloc (by exact HB.out.size) _)) (fun hHeld => ?_)
              clear hK K
              refine wpAnyF_ready (rs := [12]) (by kernel_rfl) (by simp) ?_
              refine AllReadyF.cons rfl (fun K hK => ?_) AllReadyF.nil
              refine step_append_run rfl (.tmp 74) (.tmp 85) 22 22 rfl rfl rfl HRun.out ?_
              refine hK.out _ _ (HC2.out _ (HBx.out.trans HBp.out)) (fun hHeld => ?_)
              clear hK K
              refine wpAnyF_ready (rs := [13]) (by kernel_rfl) (by simp) ?_
              refine AllReadyF.last rfl (fun K hK => ?_)
              go_simp
              refine hK.out _ _ ?_
              clear hK K
              refine wpAnyF_done (by kernel_rfl) ?_ _
              clear HC HC2 hHeld HRun HBx
              go_wp2_with fail
              go_roundw
              case rel => exact ⟨_, i + 1, rfl, by omega, by go_num, HO8, HB8⟩
              case measure => simp [intOf]; omega
            · have he : ((i : Int) == (l.length : Int) - 1) = true := by simp; omega
              have hv : lenOf l E i = E - l.getD i 0 := by unfold lenOf; rw [if_neg hnx]
              obtain ⟨g, cap, w8, hrun, hO8, hU8, -⟩ := HO.out.push (lenOf l E i) (by rw [lenL_len]; omega) HB.out.size
              have hB8 := hU8.below w.heap.size HB.out.size (fun k hk => (HO.out.lies hk).1)
              have HB8 := hide_ (HB.out.trans hB8)
              have HO8 : Hid (IOwn w8 w.heap.size (.slice (some ⟨g, 0, none⟩) ((lenL l E i).length + 1) cap) (lenL l E (i + 1))) := hide_ (by rw [lenL_succ]; exact hO8)
              obtain ⟨av, cv, hav⟩ := HO.out.slice
              subst hav
              rw [hv] at hrun
              generalize l.getD i 0 = q at *
              have hw := w64 (E - q) (by omega)
              have HRun := hide_ hrun
              clear hrun ca hv hnx hO8 hU8 hB8
              go_wp2_with (first | (at_builtin; refine wpList_append_run rfl (.tmp 65) (.tmp 72) 22 22 rfl rfl rfl HRun.out ?_; clear HRun) | fail)
              go_roundw
              case rel => exact ⟨_, i + 1, rfl, by omega, by go_num, HO8, HB8⟩
              case measure => simp [intOf]; omega
          · obtain rfl : i = l.length := by omega
            go_wp2
            go_ret3
            exact ⟨v, by rw [HA.out]; rfl, hide_ ⟨by rw [HA.out]; exact HO.out, HB.out⟩⟩
end Go.Proofs.Ytnpkpmbpapekbaa
