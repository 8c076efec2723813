/- LayoutBack: plain, and its walk. -/
import Derived.Test.YtnpkpmbpapekbaaEh
namespace Go.Proofs.Ytnpkpmbpapekbaa
open Go.RowKit
set_option linter.unusedVariables false

/-! ### Plain -/
def sumP (f : Int) (l : List Int) : Nat → Int
  | 0 => f
  | j + 1 => sumP f l j + l.getD j 0
theorem bigL_at {f : Int} {l : List Int} {n i : Nat} (h : bigL f l n = false) (hi : i < n) : atP f l i ≤ 4294967295 := by
  simp only [bigL, List.any_eq_false, List.mem_range] at h
  have := h i hi
  simpa using this
theorem at_all {f : Int} {l : List Int} {n : Nat} (hf : 0 ≤ f) (hl : negL l = false) (h : bigL f l n = false) : ∀ i, i < n → atP f l i = sumP f l i
  | 0, _ => rfl
  | i + 1, hi => by
    have h1 := at_all hf hl h i (by omega)
    have h2 := bigL_at h hi
    have h3 := atP_nn hf hl i
    have h4 := negL_at hl i
    simp only [atP, sumP] at h2 ⊢
    omega
theorem at_step {f : Int} {l : List Int} (hl : negL l = false) (i : Nat) : atP f l i ≤ atP f l (i + 1) := by
  have := negL_at hl i
  simp only [atP]
  omega
theorem all_mono {f : Int} {l : List Int} (hl : negL l = false) (i : Nat) : ∀ d, sumP f l i ≤ sumP f l (i + d)
  | 0 => Int.le_refl _
  | d + 1 => by
    have h1 := all_mono (f := f) hl i d
    have h2 := negL_at hl (i + d)
    show sumP f l i ≤ sumP f l (i + d) + l.getD (i + d) 0
    omega
theorem offL_at (f : Int) (l : List Int) {n i : Nat} (hi : i < n) : (offL f l n).getD i 0 = atP f l i := by simp [offL, List.getD, hi]
theorem lenL_at (l : List Int) (E : Int) {n i : Nat} (hi : i < n) : (lenL l E n).getD i 0 = lenOf l E i := by simp [lenL, List.getD, hi]
theorem list_ext {a b : List Int} (hl : a.length = b.length) (h : ∀ i, i < a.length → a.getD i 0 = b.getD i 0) : a = b := by
  refine List.ext_getElem hl (fun i h1 h2 => ?_)
  have := h i h1
  simp only [List.getD, List.getElem?_eq_getElem h1, List.getElem?_eq_getElem h2, Option.getD_some] at this
  exact this
theorem back1 {f : Int} {l : List Int} (hf : 0 ≤ f) (hl : negL l = false) (h : bigL f l l.length = false) : lenA f (offL f l l.length) (sumP f l l.length) = (l, 0, 0) := by
  have hOl := offL_len f l l.length
  have hfw : fwP f (offL f l l.length) (sumP f l l.length) = none := by
    refine fwP_none_of (fun i hi => ?_)
    rw [hOl] at hi
    have h1 : (offL f l l.length).getD i 0 = atP f l i := offL_at f l hi
    have h2 := at_all hf hl h i hi
    have h3 := all_mono (f := f) hl i (l.length - i)
    rw [Nat.add_sub_cancel' (Nat.le_of_lt hi)] at h3
    unfold wrongP
    rw [h1]
    rw [decide_eq_false (show ¬ sumP f l l.length < atP f l i by omega), Bool.or_false]
    split
    · rename_i h0
      rw [offL_at f l (show 0 < l.length by omega)]
      simp [atP]
    · rw [offL_at f l (show i - 1 < l.length by omega)]
      have h4 := at_step (f := f) hl (i - 1)
      rw [Nat.sub_add_cancel (by omega)] at h4
      exact decide_eq_false (by omega)
  unfold lenA
  rw [if_neg (by omega), hfw]
  simp only
  rw [hOl]
  congr 1
  refine list_ext (lenL_len _ _ _) (fun i hi => ?_)
  rw [lenL_len] at hi
  rw [lenL_at _ _ hi]
  unfold lenOf
  rw [hOl, offL_at f l hi]
  split
  · rename_i hn
    rw [offL_at f l hn]
    have h2 := bigL_at h hn
    have h3 := atP_nn hf hl i
    have h4 := negL_at hl i
    simp only [atP] at h2 ⊢
    omega
  · rename_i hn
    have e : l.length = i + 1 := by omega
    rw [at_all hf hl h i hi]
    rw [show sumP f l l.length = sumP f l i + l.getD i 0 by rw [e]; rfl]
    omega
theorem lenA_ok {f : Int} {o : List Int} {E : Int} (h : (lenA f o E).2.2 = 0) : 0 ≤ f ∧ fwP f o E = none ∧ lenA f o E = (lenL o E o.length, 0, 0) := by
  unfold lenA at h ⊢
  split at h
  · simp at h
  · rename_i hf
    rw [if_neg hf]
    cases hw : fwP f o E with
    | some i => rw [hw] at h; simp at h
    | none => exact ⟨by omega, rfl, rfl⟩
theorem lenA_bad {f : Int} {o : List Int} {E : Int} (h : (lenA f o E).2.2 ≠ 0) : (lenA f o E).1 = [] := by
  unfold lenA at h ⊢
  split
  · rfl
  · rename_i hf
    rw [if_neg hf] at h
    cases hw : fwP f o E with
    | some i => rfl
    | none => rw [hw] at h; simp at h
theorem offA_ok {f : Int} {l : List Int} (h : (offA f l).2 = 0) : 0 ≤ f ∧ negL l = false ∧ bigL f l l.length = false ∧ offA f l = (offL f l l.length, 0) := by
  unfold offA at h ⊢
  split at h
  · simp at h
  · rename_i h1
    rw [if_neg h1]
    split at h
    · simp at h
    · rename_i h2
      rw [if_neg h2]
      refine ⟨by omega, ?_, by simpa using h2, rfl⟩
      cases hn : negL l with
      | true => exact absurd (Or.inr hn) h1
      | false => rfl
theorem back2 {f : Int} {o : List Int} {E : Int} (h : (lenA f o E).2.2 = 0) (hg : ∀ i, i < o.length → o.getD i 0 ≤ 4294967295) : offA f (lenA f o E).1 = (o, 0) := by
  obtain ⟨hf, hw, hA⟩ := lenA_ok h
  rw [hA]
  simp only
  have hr : ∀ i, i < o.length → f ≤ o.getD i 0 ∧ o.getD i 0 ≤ E := fun i hi => right_nn hf i hi (fun j hj => fwP_none hw j (by omega))
  have hst : ∀ i, i + 1 < o.length → o.getD i 0 ≤ o.getD (i + 1) 0 := fun i hi => by
    have := fwP_none hw (i + 1) hi
    simp only [wrongP, if_neg (Nat.succ_ne_zero i), Nat.add_sub_cancel, Bool.or_eq_false_iff, decide_eq_false_iff_not] at this
    omega
  have hll := lenL_len o E o.length
  have hneg : negL (lenL o E o.length) = false := by
    refine negL_of (fun i hi => ?_)
    rw [hll] at hi
    rw [lenL_at o E hi]
    unfold lenOf
    split
    · rename_i hn; have := hst i hn; omega
    · have := hr i hi; omega
  have hat : ∀ i, i < o.length → atP f (lenL o E o.length) i = o.getD i 0 := fun i => by
    induction i with
    | zero =>
      intro hi
      have := fwP_none hw 0 hi
      unfold wrongP at this
      rw [if_pos rfl, Bool.or_eq_false_iff] at this
      have h0 := of_decide_eq_false this.1
      simp only [atP]
      exact (Decidable.not_not.1 h0).symm
    | succ i ih =>
      intro hi
      have h1 := ih (by omega)
      have h2 := hst i hi
      have h3 := hg (i + 1) hi
      have h4 := hr i (by omega)
      simp only [atP]
      rw [h1, lenL_at o E (show i < o.length by omega)]
      unfold lenOf
      rw [if_pos hi]
      omega
  have hbig : bigL f (lenL o E o.length) (lenL o E o.length).length = false := by
    rw [hll]
    simp only [bigL, List.any_eq_false, List.mem_range]
    intro i hi
    rw [hat i hi]
    have := hg i hi
    simpa using this
  unfold offA
  rw [if_neg (by rw [hneg]; simp; omega), if_neg (by rw [hbig]; simp), hll]
  congr 1
  refine list_ext (offL_len _ _ _) (fun i hi => ?_)
  rw [offL_len] at hi
  rw [offL_at f _ hi, hat i hi]

/-! ### The walk -/
set_option maxRecDepth 100000 in
set_option maxHeartbeats 16000000 in
theorem back_any (f E : Int) (a b : Option Addr) (c d : Nat) (l o : List Int) (w : World) (hf : -9223372036854775808 ≤ f ∧ f ≤ 9223372036854775807) (hE : E ≤ 9223372036854775807) (hn : l.length ≤ 17592186044415) (hm : o.length ≤ 17592186044415) (hr : Hid (Row .i64 w a l)) (hs : Hid (Row .i64 w b o)) :
    Calls Try.prog 3 #[.int .i64 f, .slice a l.length c, .slice b o.length d, .int .i64 E] w fun e w' => e = .returned (.bool true) ∧ Below w.heap.size w w' := by
  have HAw := hide_ (awake_any w)
  go_enter Try.func3, Try.ntmps3
  go_wp2_with fail
  refine HAw.out.mono ?_
  rintro e w1 ⟨rfl, hB1⟩
  have HB1 := hide_ hB1
  have HCo := hide_ (offsets_any f a c l w1 hn (hide_ (hr.out.later hB1)))
  obtain ⟨r, hrr⟩ : ∃ r, offA f l = r := ⟨_, rfl⟩
  rw [hrr] at HCo
  have HRr := hide_ hrr
  obtain ⟨ol, oe⟩ := r
  clear hB1 HAw hrr
  go_wp2_with fail
  refine HCo.out.mono ?_
  rintro e w2 ⟨v2, rfl, HO2⟩
  have HB2 := hide_ (below_to HB1.out HO2.out.2)
  obtain ⟨a2, c2, hv2, hr2, -, -⟩ := HO2.out.1.row
  subst hv2
  have HR2 := hide_ hr2
  (try simp only at HR2 HO2)
  clear HCo hr2
  by_cases hoe : oe = 0
  · have hoe' : (oe == 0) = true := by simp [hoe]
    have HOK := hide_ (offA_ok (f := f) (l := l) (by rw [HRr.out]; exact hoe))
    have HOl : Hid (ol = offL f l l.length) := hide_ (by have h := HOK.out.2.2.2; rw [HRr.out] at h; injection h)
    clear hoe
    go_wp2_with fail
    go_loopw [11, 12, 13] (fun x11 x12 x13 wr => ∃ (p : Int) (t : Bool) (i : Nat), i ≤ l.length ∧ x11 = .int .i64 p ∧ x12 = .bool t ∧ x13 = .int .i64 (i : Int) ∧ Hid (t = true → sumP f l i = p ∧ 0 ≤ p ∧ (p ≤ 4611686018427387904 ∨ i = 0)) ∧ w2 = wr) (fun _ _ x13 _ => l.length - (intOf x13).toNat)
    case atStart => exact ⟨f, true, 0, Nat.zero_le _, rfl, rfl, rfl, hide_ (fun _ => ⟨rfl, HOK.out.1, .inr rfl⟩), rfl⟩
    case round =>
      obtain ⟨p, t, i, hi, rfl, rfl, rfl, HP, rfl⟩ := hrel
      by_cases hlt : i < l.length
      · have hlt' : (i : Int) < l.length := by omega
        obtain ⟨ba, oa, rfl, -, ca⟩ := (hr.out.later HB2.out).open (by omega)
        have x0 := ca i hlt
        have hq0 := negL_at HOK.out.2.1 i
        have hfG := bigL_at HOK.out.2.2.1 (show 0 < l.length by omega)
        simp only [atP] at hfG
        obtain ⟨q, hq⟩ : ∃ q, l.getD i 0 = q := ⟨_, rfl⟩
        rw [hq] at x0 hq0
        have HQ := hide_ hq
        clear ca hq
        cases t with
        | false =>
          have HP2 : Hid (false = true → sumP f l (i + 1) = p ∧ 0 ≤ p ∧ (p ≤ 4611686018427387904 ∨ i + 1 = 0)) := hide_ (fun h => by cases h)
          clear hfG hq0
          go_wp2_with fail
          go_roundw
          case rel => exact ⟨_, _, i + 1, by omega, rfl, rfl, by go_num, HP2, by trivial⟩
          case measure => simp [intOf]; omega
        | true =>
          obtain ⟨hpa, hp0, hp1⟩ := HP.out rfl
          have hp2 : p ≤ 4611686018427387904 := by
            rcases hp1 with h | h
            · exact h
            · subst h; simp only [sumP] at hpa; omega
          have hw1 := w64 (4611686018427387904 - p) (by omega)
          by_cases hfit : q ≤ 4611686018427387904 - p
          · have hd : decide (q ≤ 4611686018427387904 - p) = true := decide_eq_true hfit
            have HP2 : Hid (true = true → sumP f l (i + 1) = p + q ∧ 0 ≤ p + q ∧ (p + q ≤ 4611686018427387904 ∨ i + 1 = 0)) := hide_ (fun _ => ⟨by simp only [sumP]; rw [hpa, HQ.out], by clear hw1; omega, .inl (by clear hw1; omega)⟩)
            have hw2 := w64 (p + q) (by clear hw1; omega)
            clear hfit hp0 hp1 hp2 hq0 hfG hpa
            go_wp2_with fail
            go_roundw
            case rel => exact ⟨_, _, i + 1, by omega, by first | rfl | rw [hw2], rfl, by go_num, HP2, by trivial⟩
            case measure => simp [intOf]; omega
          · have hd : decide (q ≤ 4611686018427387904 - p) = false := decide_eq_false hfit
            have HP2 : Hid (false = true → sumP f l (i + 1) = p ∧ 0 ≤ p ∧ (p ≤ 4611686018427387904 ∨ i + 1 = 0)) := hide_ (fun h => by cases h)
            clear hfit hp0 hp1 hp2 hq0 hfG hpa
            go_wp2_with fail
            go_roundw
            case rel => exact ⟨_, _, i + 1, by omega, rfl, rfl, by go_num, HP2, by trivial⟩
            case measure => simp [intOf]; omega
      · obtain rfl : i = l.length := by omega
        cases t with
        | false =>
          clear HP HOl HRr
          have HBZ := HB2
          have HCl := hide_ (lengths_any f E b d o w2 hm hE (hide_ (hs.out.later HBZ.out)))
          obtain ⟨r5, hrr5⟩ : ∃ r, lenA f o E = r := ⟨_, rfl⟩
          rw [hrr5] at HCl
          have HRr5 := hide_ hrr5
          obtain ⟨ll, lat, le⟩ := r5
          clear hrr5
          go_wp2_with fail
          refine HCl.out.mono ?_
          rintro e w5 ⟨v5, rfl, HO5⟩
          have HB5 := hide_ (below_to HBZ.out HO5.out.2)
          obtain ⟨a5, c5, hv5, hr5, -, -⟩ := HO5.out.1.row
          subst hv5
          have HR5 := hide_ hr5
          (try simp only at HR5 HO5)
          clear HCl hr5
          by_cases hle : le = 0
          · have hle' : (le != 0) = false := by simp [hle]
            have HLE := hide_ hle
            clear hle
            generalize w5 = wz at *
            go_wp2_with fail
            go_loopw [20] (fun x20 wr => ∃ i : Nat, i ≤ o.length ∧ x20 = .int .i64 (i : Int) ∧ Hid (∀ j, j < i → o.getD j 0 ≤ 4294967295) ∧ wz = wr) (fun x20 _ => o.length - (intOf x20).toNat)
            case atStart => exact ⟨0, Nat.zero_le _, rfl, hide_ (fun j hj => by omega), rfl⟩
            case round =>
              obtain ⟨k, hk, rfl, HN, rfl⟩ := hrel
              by_cases hlt2 : k < o.length
              · have hlt2' : (k : Int) < o.length := by omega
                obtain ⟨bb, ob, rfl, -, cb⟩ := (hs.out.later HB5.out).open (by omega)
                have y0 := cb k hlt2
                obtain ⟨q2, hq2⟩ : ∃ q, o.getD k 0 = q := ⟨_, rfl⟩
                rw [hq2] at y0
                have HQ2 := hide_ hq2
                clear cb hq2
                by_cases hbg : 4294967295 < q2
                · go_wp2
                  go_ret
                  exact ⟨rfl, HB5.out⟩
                · have HN2 : Hid (∀ j, j < k + 1 → o.getD j 0 ≤ 4294967295) := hide_ (fun j hj => by
                    by_cases h : j = k
                    · subst h; rw [HQ2.out]; omega
                    · exact HN.out j (by omega))
                  go_wp2_with fail
                  go_roundw
                  case rel => exact ⟨k + 1, by omega, by go_num, HN2, by trivial⟩
                  case measure => simp [intOf]; omega
              · obtain rfl : k = o.length := by omega
                have HBk : Hid (offA f ll = (o, 0)) := hide_ (by
                  have h := back2 (f := f) (o := o) (E := E) (by rw [HRr5.out]; exact HLE.out) HN.out
                  rw [HRr5.out] at h
                  exact h)
                have hlll : ll.length ≤ 17592186044415 := by
                  have h := (lenA_ok (f := f) (o := o) (E := E) (by rw [HRr5.out]; exact HLE.out)).2.2
                  rw [HRr5.out] at h
                  injection h with h1 _
                  rw [h1, lenL_len]
                  exact hm
                have HCf := hide_ (offsets_any f a5 c5 ll wz hlll HR5)
                rw [HBk.out] at HCf
                (try simp only at HCf)
                have HsZ := hide_ (hs.out.later HB5.out)
                go_wp2_with fail
                refine HCf.out.mono ?_
                rintro e w7 ⟨v7, rfl, HO7⟩
                obtain ⟨a7, c7, hv7, hr7, -, -⟩ := HO7.out.1.row
                subst hv7
                have HB7 := hide_ (below_to HB5.out HO7.out.2)
                have HSm := hide_ (same_any a7 b c7 d o o w7 (by omega) (by omega) (hide_ hr7) (hide_ (HsZ.out.later HO7.out.2)))
                rw [decide_eq_true rfl] at HSm
                clear HCf hr7 HsZ
                go_wp2_with fail
                refine HSm.out.mono ?_
                rintro e w8 ⟨rfl, hB8⟩
                have HBf := hide_ (below_to HB7.out hB8)
                clear hB8 HSm
                go_wp2
                go_ret
                exact ⟨rfl, HBf.out⟩
          · have hle' : (le != 0) = true := by simpa using hle
            have HLn : Hid (ll = []) := hide_ (by
              have h := lenA_bad (f := f) (o := o) (E := E) (by rw [HRr5.out]; exact hle)
              rw [HRr5.out] at h
              exact h)
            have hl0 : ll.length = 0 := by rw [HLn.out]; rfl
            clear hle
            rw [hl0]
            go_wp2
            go_ret
            exact ⟨rfl, HB5.out⟩
        | true =>
          obtain ⟨hpa, hp0, hp1⟩ := HP.out rfl
          have hpE : p ≤ 9223372036854775807 := by
            rcases hp1 with h | h
            · omega
            · rw [h] at hpa; simp only [sumP] at hpa; omega
          have HC3 := hide_ (lengths_any f p a2 c2 ol w2 (by rw [HOl.out, offL_len]; exact hn) hpE HR2)
          rw [show lenA f ol p = (l, 0, 0) by rw [HOl.out, ← hpa]; exact back1 HOK.out.1 HOK.out.2.1 HOK.out.2.2.1] at HC3
          (try simp only at HC3)
          have HrZ := hide_ (hr.out.later HB2.out)
          clear hpa hp0 hp1 hpE HP HRr HOl
          go_wp2_with fail
          refine HC3.out.mono ?_
          rintro e w3 ⟨v3, rfl, HO3⟩
          obtain ⟨a3, c3, hv3, hr3, -, -⟩ := HO3.out.1.row
          subst hv3
          have HB3 := hide_ (below_to HB2.out HO3.out.2)
          have HSm3 := hide_ (same_any a3 a c3 c l l w3 (by omega) (by omega) (hide_ hr3) (hide_ (HrZ.out.later HO3.out.2)))
          rw [decide_eq_true rfl] at HSm3
          clear HC3 hr3 HrZ
          go_wp2_with fail
          refine HSm3.out.mono ?_
          rintro e w4 ⟨rfl, hB4⟩
          have HBZ := hide_ (below_to HB3.out hB4)
          clear hB4 HSm3
          have HCl := hide_ (lengths_any f E b d o w4 hm hE (hide_ (hs.out.later HBZ.out)))
          obtain ⟨r5, hrr5⟩ : ∃ r, lenA f o E = r := ⟨_, rfl⟩
          rw [hrr5] at HCl
          have HRr5 := hide_ hrr5
          obtain ⟨ll, lat, le⟩ := r5
          clear hrr5
          go_wp2_with fail
          refine HCl.out.mono ?_
          rintro e w5 ⟨v5, rfl, HO5⟩
          have HB5 := hide_ (below_to HBZ.out HO5.out.2)
          obtain ⟨a5, c5, hv5, hr5, -, -⟩ := HO5.out.1.row
          subst hv5
          have HR5 := hide_ hr5
          (try simp only at HR5 HO5)
          clear HCl hr5
          by_cases hle : le = 0
          · have hle' : (le != 0) = false := by simp [hle]
            have HLE := hide_ hle
            clear hle
            generalize w5 = wz at *
            go_wp2_with fail
            go_loopw [20] (fun x20 wr => ∃ i : Nat, i ≤ o.length ∧ x20 = .int .i64 (i : Int) ∧ Hid (∀ j, j < i → o.getD j 0 ≤ 4294967295) ∧ wz = wr) (fun x20 _ => o.length - (intOf x20).toNat)
            case atStart => exact ⟨0, Nat.zero_le _, rfl, hide_ (fun j hj => by omega), rfl⟩
            case round =>
              obtain ⟨k, hk, rfl, HN, rfl⟩ := hrel
              by_cases hlt2 : k < o.length
              · have hlt2' : (k : Int) < o.length := by omega
                obtain ⟨bb, ob, rfl, -, cb⟩ := (hs.out.later HB5.out).open (by omega)
                have y0 := cb k hlt2
                obtain ⟨q2, hq2⟩ : ∃ q, o.getD k 0 = q := ⟨_, rfl⟩
                rw [hq2] at y0
                have HQ2 := hide_ hq2
                clear cb hq2
                by_cases hbg : 4294967295 < q2
                · go_wp2
                  go_ret
                  exact ⟨rfl, HB5.out⟩
                · have HN2 : Hid (∀ j, j < k + 1 → o.getD j 0 ≤ 4294967295) := hide_ (fun j hj => by
                    by_cases h : j = k
                    · subst h; rw [HQ2.out]; omega
                    · exact HN.out j (by omega))
                  go_wp2_with fail
                  go_roundw
                  case rel => exact ⟨k + 1, by omega, by go_num, HN2, by trivial⟩
                  case measure => simp [intOf]; omega
              · obtain rfl : k = o.length := by omega
                have HBk : Hid (offA f ll = (o, 0)) := hide_ (by
                  have h := back2 (f := f) (o := o) (E := E) (by rw [HRr5.out]; exact HLE.out) HN.out
                  rw [HRr5.out] at h
                  exact h)
                have hlll : ll.length ≤ 17592186044415 := by
                  have h := (lenA_ok (f := f) (o := o) (E := E) (by rw [HRr5.out]; exact HLE.out)).2.2
                  rw [HRr5.out] at h
                  injection h with h1 _
                  rw [h1, lenL_len]
                  exact hm
                have HCf := hide_ (offsets_any f a5 c5 ll wz hlll HR5)
                rw [HBk.out] at HCf
                (try simp only at HCf)
                have HsZ := hide_ (hs.out.later HB5.out)
                go_wp2_with fail
                refine HCf.out.mono ?_
                rintro e w7 ⟨v7, rfl, HO7⟩
                obtain ⟨a7, c7, hv7, hr7, -, -⟩ := HO7.out.1.row
                subst hv7
                have HB7 := hide_ (below_to HB5.out HO7.out.2)
                have HSm := hide_ (same_any a7 b c7 d o o w7 (by omega) (by omega) (hide_ hr7) (hide_ (HsZ.out.later HO7.out.2)))
                rw [decide_eq_true rfl] at HSm
                clear HCf hr7 HsZ
                go_wp2_with fail
                refine HSm.out.mono ?_
                rintro e w8 ⟨rfl, hB8⟩
                have HBf := hide_ (below_to HB7.out hB8)
                clear hB8 HSm
                go_wp2
                go_ret
                exact ⟨rfl, HBf.out⟩
          · have hle' : (le != 0) = true := by simpa using hle
            have HLn : Hid (ll = []) := hide_ (by
              have h := lenA_bad (f := f) (o := o) (E := E) (by rw [HRr5.out]; exact hle)
              rw [HRr5.out] at h
              exact h)
            have hl0 : ll.length = 0 := by rw [HLn.out]; rfl
            clear hle
            rw [hl0]
            go_wp2
            go_ret
            exact ⟨rfl, HB5.out⟩
  · have hoe' : (oe == 0) = false := by simpa using hoe
    have HBZ := HB2
    clear hoe HRr
    have HCl := hide_ (lengths_any f E b d o w2 hm hE (hide_ (hs.out.later HBZ.out)))
    obtain ⟨r5, hrr5⟩ : ∃ r, lenA f o E = r := ⟨_, rfl⟩
    rw [hrr5] at HCl
    have HRr5 := hide_ hrr5
    obtain ⟨ll, lat, le⟩ := r5
    clear hrr5
    go_wp2_with fail
    refine HCl.out.mono ?_
    rintro e w5 ⟨v5, rfl, HO5⟩
    have HB5 := hide_ (below_to HBZ.out HO5.out.2)
    obtain ⟨a5, c5, hv5, hr5, -, -⟩ := HO5.out.1.row
    subst hv5
    have HR5 := hide_ hr5
    (try simp only at HR5 HO5)
    clear HCl hr5
    by_cases hle : le = 0
    · have hle' : (le != 0) = false := by simp [hle]
      have HLE := hide_ hle
      clear hle
      generalize w5 = wz at *
      go_wp2_with fail
      go_loopw [20] (fun x20 wr => ∃ i : Nat, i ≤ o.length ∧ x20 = .int .i64 (i : Int) ∧ Hid (∀ j, j < i → o.getD j 0 ≤ 4294967295) ∧ wz = wr) (fun x20 _ => o.length - (intOf x20).toNat)
      case atStart => exact ⟨0, Nat.zero_le _, rfl, hide_ (fun j hj => by omega), rfl⟩
      case round =>
        obtain ⟨k, hk, rfl, HN, rfl⟩ := hrel
        by_cases hlt2 : k < o.length
        · have hlt2' : (k : Int) < o.length := by omega
          obtain ⟨bb, ob, rfl, -, cb⟩ := (hs.out.later HB5.out).open (by omega)
          have y0 := cb k hlt2
          obtain ⟨q2, hq2⟩ : ∃ q, o.getD k 0 = q := ⟨_, rfl⟩
          rw [hq2] at y0
          have HQ2 := hide_ hq2
          clear cb hq2
          by_cases hbg : 4294967295 < q2
          · go_wp2
            go_ret
            exact ⟨rfl, HB5.out⟩
          · have HN2 : Hid (∀ j, j < k + 1 → o.getD j 0 ≤ 4294967295) := hide_ (fun j hj => by
              by_cases h : j = k
              · subst h; rw [HQ2.out]; omega
              · exact HN.out j (by omega))
            go_wp2_with fail
            go_roundw
            case rel => exact ⟨k + 1, by omega, by go_num, HN2, by trivial⟩
            case measure => simp [intOf]; omega
        · obtain rfl : k = o.length := by omega
          have HBk : Hid (offA f ll = (o, 0)) := hide_ (by
            have h := back2 (f := f) (o := o) (E := E) (by rw [HRr5.out]; exact HLE.out) HN.out
            rw [HRr5.out] at h
            exact h)
          have hlll : ll.length ≤ 17592186044415 := by
            have h := (lenA_ok (f := f) (o := o) (E := E) (by rw [HRr5.out]; exact HLE.out)).2.2
            rw [HRr5.out] at h
            injection h with h1 _
            rw [h1, lenL_len]
            exact hm
          have HCf := hide_ (offsets_any f a5 c5 ll wz hlll HR5)
          rw [HBk.out] at HCf
          (try simp only at HCf)
          have HsZ := hide_ (hs.out.later HB5.out)
          go_wp2_with fail
          refine HCf.out.mono ?_
          rintro e w7 ⟨v7, rfl, HO7⟩
          obtain ⟨a7, c7, hv7, hr7, -, -⟩ := HO7.out.1.row
          subst hv7
          have HB7 := hide_ (below_to HB5.out HO7.out.2)
          have HSm := hide_ (same_any a7 b c7 d o o w7 (by omega) (by omega) (hide_ hr7) (hide_ (HsZ.out.later HO7.out.2)))
          rw [decide_eq_true rfl] at HSm
          clear HCf hr7 HsZ
          go_wp2_with fail
          refine HSm.out.mono ?_
          rintro e w8 ⟨rfl, hB8⟩
          have HBf := hide_ (below_to HB7.out hB8)
          clear hB8 HSm
          go_wp2
          go_ret
          exact ⟨rfl, HBf.out⟩
    · have hle' : (le != 0) = true := by simpa using hle
      have HLn : Hid (ll = []) := hide_ (by
        have h := lenA_bad (f := f) (o := o) (E := E) (by rw [HRr5.out]; exact hle)
        rw [HRr5.out] at h
        exact h)
      have hl0 : ll.length = 0 := by rw [HLn.out]; rfl
      clear hle
      rw [hl0]
      go_wp2
      go_ret
      exact ⟨rfl, HB5.out⟩
end Go.Proofs.Ytnpkpmbpapekbaa
