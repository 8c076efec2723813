import Derived.Test.YtnpkpmbpapekbaaIo
import Derived.Test.YtnpkpmbpapekbaaZb
import Derived.Test.YtnpkpmbpapekbaaEg
import Derived.Test.YtnpkpmbpapekbaaEe
import Derived.Test.YtnpkpmbpapekbaaZrx
/- layout: what Offsets and Lengths answer, plain; anyBelowZero, firstWrong, Offsets, Lengths; the law's same. -/
namespace Go.Proofs.Ytnpkpmbpapekbaa
open Go.RowKit
set_option linter.unusedVariables false

/-! ### Plain -/
/-- Where part number j begins; a part counts at most 2^32. -/
def atP (f : Int) (l : List Int) : Nat → Int
  | 0 => f
  | j + 1 => atP f l j + min (l.getD j 0) 4294967296
def negL (l : List Int) : Bool := l.any (fun x => decide (x < 0))
def offL (f : Int) (l : List Int) (n : Nat) : List Int := (List.range n).map (atP f l)
def bigL (f : Int) (l : List Int) (n : Nat) : Bool := (List.range n).any (fun j => decide (4294967295 < atP f l j))
/-- What Offsets answers. -/
def offA (f : Int) (l : List Int) : List Int × Int :=
  if f < 0 ∨ negL l = true then ([], 3) else if bigL f l l.length = true then ([], 91) else (offL f l l.length, 0)
theorem offL_succ (f : Int) (l : List Int) (n : Nat) : offL f l (n + 1) = offL f l n ++ [atP f l n] := by simp [offL, List.range_succ]
theorem offL_len (f : Int) (l : List Int) (n : Nat) : (offL f l n).length = n := by simp [offL]
theorem bigL_succ (f : Int) (l : List Int) (n : Nat) : bigL f l (n + 1) = (bigL f l n || decide (4294967295 < atP f l n)) := by simp [bigL, List.range_succ]
theorem bigL_mono {f : Int} {l : List Int} {j n : Nat} (h : bigL f l j = true) (hj : j ≤ n) : bigL f l n = true := by
  simp only [bigL, List.any_eq_true, List.mem_range] at h ⊢
  obtain ⟨i, hi, h⟩ := h
  exact ⟨i, by omega, h⟩
theorem negL_at {l : List Int} (h : negL l = false) (j : Nat) : 0 ≤ l.getD j 0 := by
  rcases Nat.lt_or_ge j l.length with hj | hj
  · have h1 : ∀ x ∈ l, ¬ x < 0 := by simpa [negL] using h
    have := h1 (l.getD j 0) (by simp [List.getD, hj])
    omega
  · simp [List.getD, List.getElem?_eq_none hj]
theorem negL_of {l : List Int} (h : ∀ j, j < l.length → 0 ≤ l.getD j 0) : negL l = false := by
  simp only [negL, List.any_eq_false]
  intro x hx
  obtain ⟨j, hj, rfl⟩ := List.mem_iff_getElem.1 hx
  have := h j hj
  simp [List.getD, hj] at this
  simpa using this
theorem atP_nn {f : Int} {l : List Int} (hf : 0 ≤ f) (h : negL l = false) : ∀ j, 0 ≤ atP f l j
  | 0 => hf
  | j + 1 => by
    have h1 := atP_nn hf h j
    have h2 := negL_at h j
    simp only [atP]
    omega
/-- Whether offset number i can't be one. -/
def wrongP (f : Int) (l : List Int) (E : Int) (i : Nat) : Bool := (if i = 0 then decide (l.getD 0 0 ≠ f) else decide (l.getD i 0 < l.getD (i - 1) 0)) || decide (E < l.getD i 0)
def fwP (f : Int) (l : List Int) (E : Int) : Option Nat := (List.range l.length).find? (wrongP f l E)
def lenOf (l : List Int) (E : Int) (i : Nat) : Int := (if i + 1 < l.length then l.getD (i + 1) 0 else E) - l.getD i 0
def lenL (l : List Int) (E : Int) (n : Nat) : List Int := (List.range n).map (lenOf l E)
theorem lenL_succ (l : List Int) (E : Int) (n : Nat) : lenL l E (n + 1) = lenL l E n ++ [lenOf l E n] := by simp [lenL, List.range_succ]
theorem lenL_len (l : List Int) (E : Int) (n : Nat) : (lenL l E n).length = n := by simp [lenL]
/-- What Lengths answers. -/
def lenA (f : Int) (l : List Int) (E : Int) : List Int × Int × Int :=
  if f < 0 then ([], 0, 3) else match fwP f l E with
    | some i => ([], (i : Int), 122)
    | none => (lenL l E l.length, 0, 0)
theorem fwP_none {f : Int} {l : List Int} {E : Int} (h : fwP f l E = none) (i : Nat) (hi : i < l.length) : wrongP f l E i = false := by
  unfold fwP at h
  rw [List.find?_eq_none] at h
  have := h i (List.mem_range.2 hi)
  simpa using this
theorem fwP_none_of {f : Int} {l : List Int} {E : Int} (h : ∀ i, i < l.length → wrongP f l E i = false) : fwP f l E = none := by
  unfold fwP
  rw [List.find?_eq_none]
  intro i hi
  rw [h i (List.mem_range.1 hi)]
  simp
theorem fwP_some_of {f : Int} {l : List Int} {E : Int} {i : Nat} (hi : i < l.length) (h : wrongP f l E i = true) (hb : ∀ j, j < i → wrongP f l E j = false) : fwP f l E = some i := by
  unfold fwP
  rw [List.find?_range_eq_some]
  exact ⟨h, List.mem_range.2 hi, fun j hj => by rw [hb j hj]; rfl⟩
/-- Offsets that are right lie between fixed and the end. -/
theorem right_nn {f : Int} {l : List Int} {E : Int} (hf : 0 ≤ f) : ∀ (i : Nat), i < l.length → (∀ j, j ≤ i → wrongP f l E j = false) → f ≤ l.getD i 0 ∧ l.getD i 0 ≤ E
  | 0, hi, h => by
    have := h 0 (Nat.le_refl _)
    simp [wrongP] at this
    simp only [List.getD_eq_getElem?_getD]
    omega
  | i + 1, hi, h => by
    have h1 := right_nn hf i (by omega) (fun j hj => h j (by omega))
    have h2 := h (i + 1) (Nat.le_refl _)
    simp [wrongP] at h2
    simp only [List.getD_eq_getElem?_getD] at h1 ⊢
    omega

/-! ### The calls -/
set_option maxRecDepth 100000 in
set_option maxHeartbeats 4000000 in
theorem neg_any (a : Option Addr) (c : Nat) (l : List Int) (w : World) (hn : l.length ≤ 17592186044415) (hr : Hid (Row .i64 w a l)) :
    Calls Try.prog 18 #[.slice a l.length c] w fun e w' => e = .returned (.bool (negL l)) ∧ w = w' := by
  go_enter Try.func18, Try.ntmps18
  go_wp2_with fail
  go_loopw [7] (fun x7 wr => ∃ i : Nat, i ≤ l.length ∧ x7 = .int .i64 (i : Int) ∧ Hid (∀ j, j < i → 0 ≤ l.getD j 0) ∧ w = wr) (fun x7 _ => l.length - (intOf x7).toNat)
  case atStart => exact ⟨0, Nat.zero_le _, rfl, hide_ (fun j hj => by omega), rfl⟩
  case round =>
    obtain ⟨i, hi, rfl, HN, rfl⟩ := hrel
    by_cases hlt : i < l.length
    · have hlt' : (i : Int) < l.length := by omega
      obtain ⟨ba, oa, rfl, -, ca⟩ := hr.out.open (by omega)
      have x0 := ca i hlt
      have HV := hide_ (rfl : l.getD i 0 = l.getD i 0)
      obtain ⟨q, hq⟩ : ∃ q, l.getD i 0 = q := ⟨_, rfl⟩
      rw [hq] at x0
      have HQ := hide_ hq
      clear ca hq HV
      by_cases hneg : q < 0
      · have HT : Hid (negL l = true) := hide_ (by
          simp only [negL, List.any_eq_true]
          refine ⟨l.getD i 0, by simp [List.getD, hlt], ?_⟩
          rw [HQ.out]
          exact decide_eq_true hneg)
        go_wp2
        go_ret
        exact ⟨by rw [HT.out]; rfl, rfl⟩
      · have HN2 : Hid (∀ j, j < i + 1 → 0 ≤ l.getD j 0) := hide_ (fun j hj => by
          by_cases h : j = i
          · subst h; rw [HQ.out]; omega
          · exact HN.out j (by omega))
        go_wp2_with fail
        go_roundw
        case rel => exact ⟨i + 1, by omega, by go_num, HN2, by trivial⟩
        case measure => simp [intOf]; omega
    · obtain rfl : i = l.length := by omega
      have HT : Hid (negL l = false) := hide_ (negL_of HN.out)
      go_wp2
      go_ret
      exact ⟨by rw [HT.out]; rfl, rfl⟩
end Go.Proofs.Ytnpkpmbpapekbaa
/- layout.Offsets, firstWrong, Lengths. -/
namespace Go.Proofs.Ytnpkpmbpapekbaa
open Go.RowKit
set_option linter.unusedVariables false

theorem min_if2 (a b : Int) : (if b < a then b else a) = min a b := by split <;> omega
/-- A list of the call's own that is answered. -/
def OwnTo (w : World) (v : Value) (l : List Int) (w' : World) : Prop := IOwn w' w.heap.size v l ∧ Below w.heap.size w w'
set_option maxRecDepth 100000 in
set_option maxHeartbeats 8000000 in
theorem offsets_any (f : Int) (a : Option Addr) (c : Nat) (l : List Int) (w : World) (hn : l.length ≤ 17592186044415) (hr : Hid (Row .i64 w a l)) :
    Calls Try.prog 8 #[.int .i64 f, .slice a l.length c] w fun e w' => ∃ v, e = .returned (.tuple #[v, .int .i64 (offA f l).2]) ∧ Hid (OwnTo w v (offA f l).1 w') := by
  have HNil := hide_ (IOwn.nil w w.heap.size)
  by_cases hf : f < 0
  · have HA : Hid (offA f l = ([], 3)) := hide_ (by unfold offA; rw [if_pos (Or.inl hf)])
    go_enter Try.func8, Try.ntmps8
    go_wp2
    go_ret2
    exact ⟨.slice none 0 0, by rw [HA.out]; rfl, hide_ ⟨by rw [HA.out]; exact HNil.out, Below.refl _ _⟩⟩
  · have hf' : decide (f < 0) = false := by simpa using hf
    have HF : Hid (0 ≤ f) := hide_ (by omega)
    have HC := hide_ (neg_any a c l w hn hr)
    obtain ⟨b, hb⟩ : ∃ b, negL l = b := ⟨_, rfl⟩
    rw [hb] at HC
    have HBn := hide_ hb
    clear hb
    have hmk := makeI l.length hn
    have HMd := hide_ (IOwn.made w l.length hn)
    have hBm := below1 w (.cells (madeCells #[.int .i64 0] l.length) 3)
    obtain ⟨w1, hw1⟩ : ∃ wx, wx = w.alloc (.cells (madeCells #[.int .i64 0] l.length) 3) := ⟨_, rfl⟩
    rw [← hw1] at HMd hBm
    have HBm := hide_ hBm
    clear hBm
    go_enter Try.func8, Try.ntmps8
    go_wp2_with fail
    refine HC.out.mono ?_; rintro e w' ⟨rfl, rfl⟩
    cases b with
    | true =>
      have HA : Hid (offA f l = ([], 3)) := hide_ (by unfold offA; rw [if_pos (Or.inr HBn.out)])
      go_wp2
      go_ret2
      exact ⟨.slice none 0 0, by rw [HA.out]; rfl, hide_ ⟨by rw [HA.out]; exact HNil.out, Below.refl _ _⟩⟩
    | false =>
      have HA : Hid (offA f l = if bigL f l l.length = true then ([], 91) else (offL f l l.length, 0)) := hide_ (by
        unfold offA
        rw [if_neg]
        rw [HBn.out]
        have := HF.out
        simp
        omega)
      go_upto_region 4 with fail
      rw [← hw1]
      clear hw1 hmk HC
      go_wp2_with fail
      go_loopw [6, 7, 22] (fun x6 x7 x22 wr => ∃ (v : Value) (p : Int) (i : Nat), v = x6 ∧ i ≤ l.length ∧ x7 = .int .i64 p ∧ x22 = .int .i64 (i : Int) ∧ Hid (atP f l i = p) ∧ Hid (bigL f l i = false) ∧ Hid (IOwn wr w.heap.size v (offL f l i)) ∧ Hid (Below w.heap.size w wr)) (fun _ _ x22 _ => l.length - (intOf x22).toNat)
      case atStart => exact ⟨_, f, 0, rfl, Nat.zero_le _, rfl, rfl, hide_ rfl, hide_ rfl, HMd, HBm⟩
      case round =>
        obtain ⟨v, p, i, rfl, hi, rfl, rfl, HP, HG, HO, HB⟩ := hrel
        generalize wr = wq at *
        clear HMd HBm HNil
        by_cases hlt : i < l.length
        · have hlt' : (i : Int) < l.length := by omega
          obtain ⟨ba, oa, rfl, -, ca⟩ := (hr.out.later HB.out).open (by omega)
          have x0 := ca i hlt
          have hnn := negL_at HBn.out i
          have hpn := atP_nn HF.out HBn.out i
          rw [HP.out] at hpn
          have hnx : atP f l (i + 1) = p + min (l.getD i 0) 4294967296 := by simp only [atP]; rw [HP.out]
          generalize l.getD i 0 = q at *
          clear ca
          by_cases hbig : 4294967295 < p
          · have HT : Hid (bigL f l l.length = true) := hide_ (bigL_mono (j := i + 1) (by rw [bigL_succ, HP.out]; simp [hbig]) (by omega))
            clear hnx
            go_wp2
            go_ret2
            exact ⟨.slice none 0 0, by rw [HA.out, if_pos HT.out]; rfl, hide_ ⟨by rw [HA.out, if_pos HT.out]; exact IOwn.nil _ _, HB.out⟩⟩
          · have HG2 : Hid (bigL f l (i + 1) = false) := hide_ (by rw [bigL_succ, HP.out, HG.out]; simp; omega)
            obtain ⟨g, cap, w8, hrun, hO8, hU8, -⟩ := HO.out.push p (by rw [offL_len]; omega) HB.out.size
            have hB8 := hU8.below w.heap.size HB.out.size (fun k hk => (HO.out.lies hk).1)
            have HB8 := hide_ (HB.out.trans hB8)
            have HO8 : Hid (IOwn w8 w.heap.size (.slice (some ⟨g, 0, none⟩) ((offL f l i).length + 1) cap) (offL f l (i + 1))) := hide_ (by rw [offL_succ, HP.out]; exact hO8)
            have HRun := hide_ hrun
            have hmn := min_if2 q 4294967296
            have hw := w64 (p + min q 4294967296) (by omega)
            have HNx := hide_ hnx
            obtain ⟨av, cv, hav⟩ := HO.out.slice
            subst hav
            clear hrun hO8 hU8 hB8 hnx
            go_wp2_with (first | (at_builtin; refine wpList_append_run rfl (.tmp 28) (.tmp 30) 22 22 rfl rfl rfl HRun.out ?_; clear HRun) | fail)
            go_roundw
            case rel => exact ⟨_, _, i + 1, rfl, by omega, rfl, by go_num, HNx, HG2, HO8, HB8⟩
            case measure => simp [intOf]; omega
        · obtain rfl : i = l.length := by omega
          go_wp2
          go_ret2
          exact ⟨v, by rw [HA.out, if_neg (by rw [HG.out]; simp)]; rfl, hide_ ⟨by rw [HA.out, if_neg (by rw [HG.out]; simp)]; exact HO.out, HB.out⟩⟩
end Go.Proofs.Ytnpkpmbpapekbaa
/- layout.firstWrong, Lengths; the law's same. -/
namespace Go.Proofs.Ytnpkpmbpapekbaa
open Go.RowKit
set_option linter.unusedVariables false

def fwI (f : Int) (l : List Int) (E : Int) : Int := match fwP f l E with | some i => (i : Int) | none => -1
set_option maxRecDepth 100000 in
set_option maxHeartbeats 8000000 in
theorem wrong_any (f E : Int) (a : Option Addr) (c : Nat) (l : List Int) (w : World) (hn : l.length ≤ 17592186044415) (hr : Hid (Row .i64 w a l)) :
    Calls Try.prog 19 #[.int .i64 f, .slice a l.length c, .int .i64 E] w fun e w' => e = .returned (.int .i64 (fwI f l E)) ∧ w = w' := by
  obtain ⟨R, hR⟩ : ∃ R, fwI f l E = R := ⟨_, rfl⟩
  rw [hR]
  have HR := hide_ hR
  clear hR
  go_enter Try.func19, Try.ntmps19
  go_wp2_with fail
  go_loopw [7, 13] (fun x7 x13 wr => ∃ (i : Nat) (p : Int), i ≤ l.length ∧ x7 = .int .i64 p ∧ x13 = .int .i64 (i : Int) ∧ Hid ((if i = 0 then f else l.getD (i - 1) 0) = p) ∧ Hid (∀ j, j < i → wrongP f l E j = false) ∧ w = wr) (fun _ x13 _ => l.length - (intOf x13).toNat)
  case atStart => exact ⟨0, f, Nat.zero_le _, rfl, rfl, hide_ rfl, hide_ (fun j hj => by omega), rfl⟩
  case round =>
    obtain ⟨i, p, hi, rfl, rfl, HP, HN, rfl⟩ := hrel
    by_cases hlt : i < l.length
    · have hlt' : (i : Int) < l.length := by omega
      obtain ⟨ba, oa, rfl, -, ca⟩ := hr.out.open (by omega)
      have x0 := ca i hlt
      obtain ⟨q, hq⟩ : ∃ q, l.getD i 0 = q := ⟨_, rfl⟩
      rw [hq] at x0
      have HQ := hide_ hq
      clear ca hq
      by_cases hz : i = 0
      · have HZ := hide_ hz
        have hz' : ((i : Int) == 0) = true := by simp [hz]
        have HPf : Hid (f = p) := hide_ (by have := HP.out; rw [if_pos hz] at this; exact this)
        clear hz
        by_cases hqf : q = f
        · have hq1 : (q != f) = false := by simp [hqf]
          have hq2 : decide (q < p) = false := by have := HPf.out; simp; omega
          have HQF := hide_ hqf
          clear hqf
          by_cases hE : E < q
          · have hE' : decide (E < q) = true := decide_eq_true hE
            have HE := hide_ hE
            clear hE
            have HF : Hid (R = (i : Int)) := hide_ (by rw [← HR.out]; unfold fwI; rw [fwP_some_of hlt (by simp only [wrongP]; rw [HQ.out, decide_eq_true HE.out, Bool.or_true]) HN.out])
            go_wp2
            go_ret
            exact ⟨by rw [HF.out]; rfl, rfl⟩
          · have hE' : decide (E < q) = false := decide_eq_false hE
            have HE := hide_ hE
            clear hE
            have HN2 : Hid (∀ j, j < i + 1 → wrongP f l E j = false) := hide_ (fun j hj => by
              by_cases h : j = i
              · subst h; simp only [wrongP]; rw [HZ.out, if_pos rfl, ← HZ.out, HQ.out, decide_eq_false HE.out, decide_eq_false (by have := HQF.out; simpa using this)]; rfl
              · exact HN.out j (by omega))
            have HP2 : Hid ((if i + 1 = 0 then f else l.getD (i + 1 - 1) 0) = q) := hide_ (by rw [if_neg (by omega), Nat.add_sub_cancel]; exact HQ.out)
            go_wp2_with fail
            go_roundw
            case rel => exact ⟨i + 1, q, by omega, rfl, by go_num, HP2, HN2, by trivial⟩
            case measure => simp [intOf]; omega
        · have hq1 : (q != f) = true := by simpa using hqf
          have HQF := hide_ hqf
          clear hqf
          have HF : Hid (R = (i : Int)) := hide_ (by rw [← HR.out]; unfold fwI; rw [fwP_some_of hlt (by simp only [wrongP]; rw [HZ.out, if_pos rfl, ← HZ.out, HQ.out, decide_eq_true HQF.out, Bool.true_or]) HN.out])
          go_wp2
          go_ret
          exact ⟨by rw [HF.out]; rfl, rfl⟩
      · have HZ := hide_ hz
        have hz' : ((i : Int) == 0) = false := by simp; omega
        have HPf : Hid (l.getD (i - 1) 0 = p) := hide_ (by have := HP.out; rw [if_neg hz] at this; exact this)
        clear hz
        by_cases hqp : q < p
        · have hq2 : decide (q < p) = true := decide_eq_true hqp
          have HQP := hide_ hqp
          clear hqp
          have HF : Hid (R = (i : Int)) := hide_ (by rw [← HR.out]; unfold fwI; rw [fwP_some_of hlt (by simp only [wrongP]; rw [if_neg HZ.out, HQ.out, HPf.out, decide_eq_true HQP.out, Bool.true_or]) HN.out])
          go_wp2
          go_ret
          exact ⟨by rw [HF.out]; rfl, rfl⟩
        · have hq2 : decide (q < p) = false := decide_eq_false hqp
          have HQP := hide_ hqp
          clear hqp
          by_cases hE : E < q
          · have hE' : decide (E < q) = true := decide_eq_true hE
            have HE := hide_ hE
            clear hE
            have HF : Hid (R = (i : Int)) := hide_ (by rw [← HR.out]; unfold fwI; rw [fwP_some_of hlt (by simp only [wrongP]; rw [HQ.out, decide_eq_true HE.out, Bool.or_true]) HN.out])
            go_wp2
            go_ret
            exact ⟨by rw [HF.out]; rfl, rfl⟩
          · have hE' : decide (E < q) = false := decide_eq_false hE
            have HE := hide_ hE
            clear hE
            have HN2 : Hid (∀ j, j < i + 1 → wrongP f l E j = false) := hide_ (fun j hj => by
              by_cases h : j = i
              · subst h; simp only [wrongP]; rw [if_neg HZ.out, HQ.out, HPf.out, decide_eq_false HQP.out, decide_eq_false HE.out]; rfl
              · exact HN.out j (by omega))
            have HP2 : Hid ((if i + 1 = 0 then f else l.getD (i + 1 - 1) 0) = q) := hide_ (by rw [if_neg (by omega), Nat.add_sub_cancel]; exact HQ.out)
            go_wp2_with fail
            go_roundw
            case rel => exact ⟨i + 1, q, by omega, rfl, by go_num, HP2, HN2, by trivial⟩
            case measure => simp [intOf]; omega
    · obtain rfl : i = l.length := by omega
      have HF : Hid (R = -1) := hide_ (by rw [← HR.out]; unfold fwI; rw [fwP_none_of HN.out])
      go_wp2
      go_ret
      exact ⟨by rw [HF.out]; rfl, rfl⟩
set_option maxRecDepth 100000 in
set_option maxHeartbeats 8000000 in
theorem lengths_any (f E : Int) (a : Option Addr) (c : Nat) (l : List Int) (w : World) (hn : l.length ≤ 17592186044415) (hE : E ≤ 9223372036854775807) (hr : Hid (Row .i64 w a l)) :
    Calls Try.prog 9 #[.int .i64 f, .slice a l.length c, .int .i64 E] w fun e w' => ∃ v, e = .returned (.tuple #[v, .int .i64 (lenA f l E).2.1, .int .i64 (lenA f l E).2.2]) ∧ Hid (OwnTo w v (lenA f l E).1 w') := by
  have HNil := hide_ (IOwn.nil w w.heap.size)
  by_cases hf : f < 0
  · have HA : Hid (lenA f l E = ([], 0, 3)) := hide_ (by unfold lenA; rw [if_pos hf])
    go_enter Try.func9, Try.ntmps9
    go_wp2
    go_ret3
    exact ⟨.slice none 0 0, by rw [HA.out]; rfl, hide_ ⟨by rw [HA.out]; exact HNil.out, Below.refl _ _⟩⟩
  · have hf' : decide (f < 0) = false := by simpa using hf
    have HF : Hid (0 ≤ f) := hide_ (by omega)
    have HC := hide_ (wrong_any f E a c l w hn hr)
    cases hb : fwP f l E with
    | some k =>
      have HW : Hid (fwI f l E = (k : Int)) := hide_ (by unfold fwI; rw [hb])
      have HA : Hid (lenA f l E = ([], (k : Int), 122)) := hide_ (by unfold lenA; rw [if_neg hf, hb])
      have hk0 : decide (0 ≤ (k : Int)) = true := by simp
      rw [HW.out] at HC
      clear hb
      go_enter Try.func9, Try.ntmps9
      go_wp2_with fail
      refine HC.out.mono ?_; rintro e w' ⟨rfl, rfl⟩
      go_wp2
      go_ret3
      exact ⟨.slice none 0 0, by rw [HA.out]; rfl, hide_ ⟨by rw [HA.out]; exact HNil.out, Below.refl _ _⟩⟩
    | none =>
      have HW : Hid (fwI f l E = -1) := hide_ (by unfold fwI; rw [hb])
      have HA : Hid (lenA f l E = (lenL l E l.length, 0, 0)) := hide_ (by unfold lenA; rw [if_neg hf, hb])
      have HBd : Hid (∀ i, i < l.length → 0 ≤ l.getD i 0 ∧ l.getD i 0 ≤ E) := hide_ (fun i hi => by
        have := right_nn HF.out i hi (fun j hj => fwP_none hb j (by omega))
        have := HF.out
        omega)
      rw [HW.out] at HC
      have hmk := makeI l.length hn
      have HMd := hide_ (IOwn.made w l.length hn)
      have hBm := below1 w (.cells (madeCells #[.int .i64 0] l.length) 3)
      obtain ⟨w1, hw1⟩ : ∃ wx, wx = w.alloc (.cells (madeCells #[.int .i64 0] l.length) 3) := ⟨_, rfl⟩
      rw [← hw1] at HMd hBm
      have HBm := hide_ hBm
      clear hBm hb
      go_enter Try.func9, Try.ntmps9
      go_wp2_with fail
      refine HC.out.mono ?_; rintro e w' ⟨rfl, rfl⟩
      go_upto_region 7 with fail
      rw [← hw1]
      clear hw1 hmk HC
      go_wp2_with fail
      go_loopw [10, 28] (fun x10 x28 wr => ∃ (v : Value) (i : Nat), v = x10 ∧ i ≤ l.length ∧ x28 = .int .i64 (i : Int) ∧ Hid (IOwn wr w.heap.size v (lenL l E i)) ∧ Hid (Below w.heap.size w wr)) (fun _ x28 _ => l.length - (intOf x28).toNat)
      case atStart => exact ⟨_, 0, rfl, Nat.zero_le _, rfl, HMd, HBm⟩
      case round =>
        obtain ⟨v, i, rfl, hi, rfl, HO, HB⟩ := hrel
        generalize wr = wq at *
        clear HMd HBm HNil
        by_cases hlt : i < l.length
        · have hlt' : (i : Int) < l.length := by omega
          obtain ⟨ba, oa, rfl, -, ca⟩ := (hr.out.later HB.out).open (by omega)
          have x0 := ca i hlt
          have hq := HBd.out i hlt
          obtain ⟨g, cap, w8, hrun, hO8, hU8, -⟩ := HO.out.push (lenOf l E i) (by rw [lenL_len]; omega) HB.out.size
          have hB8 := hU8.below w.heap.size HB.out.size (fun k hk => (HO.out.lies hk).1)
          have HB8 := hide_ (HB.out.trans hB8)
          have HO8 : Hid (IOwn w8 w.heap.size (.slice (some ⟨g, 0, none⟩) ((lenL l E i).length + 1) cap) (lenL l E (i + 1))) := hide_ (by rw [lenL_succ]; exact hO8)
          obtain ⟨av, cv, hav⟩ := HO.out.slice
          subst hav
          clear hO8 hU8 hB8
          by_cases hnx : i + 1 < l.length
          · have hnx' : (i : Int) + 1 < l.length := by omega
            have y0 := ca (i + 1) hnx
            have hy := HBd.out (i + 1) hnx
            have hv : lenOf l E i = l.getD (i + 1) 0 - l.getD i 0 := by unfold lenOf; rw [if_pos hnx]
            rw [hv] at hrun
            generalize l.getD i 0 = q at *
            generalize l.getD (i + 1) 0 = r at *
            have hw := w64 (r - q) (by omega)
            have HRun := hide_ hrun
            clear hrun ca hv
            go_wp2_with (first | (at_builtin; refine wpList_append_run rfl (.tmp 44) (.tmp 48) 22 22 rfl rfl rfl HRun.out ?_; clear HRun) | fail)
            go_roundw
            case rel => exact ⟨_, i + 1, rfl, by omega, by go_num, HO8, HB8⟩
            case measure => simp [intOf]; omega
          · have hnx' : decide ((i : Int) + 1 < l.length) = false := by simp; omega
            have hv : lenOf l E i = E - l.getD i 0 := by unfold lenOf; rw [if_neg hnx]
            rw [hv] at hrun
            generalize l.getD i 0 = q at *
            have hw := w64 (E - q) (by omega)
            have HRun := hide_ hrun
            clear hrun ca hv hnx
            go_wp2_with (first | (at_builtin; refine wpList_append_run rfl (.tmp 44) (.tmp 48) 22 22 rfl rfl rfl HRun.out ?_; clear HRun) | fail)
            go_roundw
            case rel => exact ⟨_, i + 1, rfl, by omega, by go_num, HO8, HB8⟩
            case measure => simp [intOf]; omega
        · obtain rfl : i = l.length := by omega
          go_wp2
          go_ret3
          exact ⟨v, by rw [HA.out]; rfl, hide_ ⟨by rw [HA.out]; exact HO.out, HB.out⟩⟩
set_option maxRecDepth 100000 in
set_option maxHeartbeats 4000000 in
theorem same_any (a1 a2 : Option Addr) (c1 c2 : Nat) (l1 l2 : List Int) (w : World) (h1 : l1.length ≤ 9223372036854775807) (h2 : l2.length ≤ 9223372036854775807) (r1 : Hid (Row .i64 w a1 l1)) (r2 : Hid (Row .i64 w a2 l2)) :
    Calls Try.prog 10 #[.slice a1 l1.length c1, .slice a2 l2.length c2] w fun e w' => e = .returned (.bool (decide (l1 = l2))) ∧ Below w.heap.size w w' := by
  obtain ⟨R, hR⟩ : ∃ R, decide (l1 = l2) = R := ⟨_, rfl⟩
  rw [hR]
  have HR := hide_ hR
  clear hR
  by_cases hl : l1.length = l2.length
  · have hl' : ((l1.length : Int) != (l2.length : Int)) = false := by simp; omega
    have HL := hide_ hl
    go_enter Try.func10, Try.ntmps10
    go_wp2_with fail
    go_loopw [5] (fun x5 wr => ∃ i : Nat, i ≤ l1.length ∧ x5 = .int .i64 (i : Int) ∧ Hid (l1.take i = l2.take i) ∧ Hid (Below w.heap.size w wr)) (fun x5 _ => l1.length - (intOf x5).toNat)
    case atStart => exact ⟨0, Nat.zero_le _, rfl, hide_ rfl, hide_ (Below.refl _ _)⟩
    case round =>
      obtain ⟨i, hi, rfl, HT, HB⟩ := hrel
      generalize wr = wq at *
      by_cases hlt : i < l1.length
      · have hlt' : (i : Int) < l1.length := by omega
        have hlt2 : i < l2.length := by have := HL.out; omega
        have hlt2' : (i : Int) < l2.length := by omega
        obtain ⟨b1, o1, rfl, hb1, hc1⟩ := (r1.out.later HB.out).open (by omega)
        obtain ⟨b2, o2, rfl, hb2, hc2⟩ := (r2.out.later HB.out).open (by omega)
        have d1 := hc1 i hlt
        have d2 := hc2 i hlt2
        have e1 : l1.getD i 0 = l1[i]'hlt := by simp [List.getD, hlt]
        have e2 : l2.getD i 0 = l2[i]'hlt2 := by simp [List.getD, hlt2]
        have ht1 : l1.take (i + 1) = l1.take i ++ [l1[i]'hlt] := List.take_succ_eq_append_getElem hlt
        have ht2 : l2.take (i + 1) = l2.take i ++ [l2[i]'hlt2] := List.take_succ_eq_append_getElem hlt2
        rw [← e1] at ht1
        rw [← e2] at ht2
        generalize l1.getD i 0 = x at *
        generalize l2.getD i 0 = y at *
        have HT1 := hide_ ht1
        have HT2 := hide_ ht2
        clear hc1 hc2 ht1 ht2 e1 e2 hl
        have hdr : Hid (Below w.heap.size w wq.drew) := hide_ HB.out.drew
        by_cases he : x = y
        · have he' : (x != y) = false := by simp [he]
          have HT3 : Hid (l1.take (i + 1) = l2.take (i + 1)) := hide_ (by rw [HT1.out, HT2.out, HT.out, he])
          clear he
          go_wp2_with fail
          go_region
          go_wp2_with fail
          go_roundw
          case rel => exact ⟨i + 1, by omega, by go_num, HT3, hdr⟩
          case measure => simp [intOf]; omega
        · have he' : (x != y) = true := by simpa using he
          have HV : Hid (R = false) := hide_ (by
            rw [← HR.out]
            refine decide_eq_false fun e => he ?_
            have h1 := HT1.out
            rw [e, HT2.out, ← e, HT.out] at h1
            simpa using h1.symm)
          clear he
          go_wp2_with fail
          go_region
          go_wp2
          go_ret
          exact ⟨by rw [HV.out]; rfl, hdr.out⟩
      · obtain rfl : i = l1.length := by omega
        have HV : Hid (R = true) := hide_ (by
          rw [← HR.out]
          have h := HT.out
          rw [List.take_length, HL.out, List.take_length] at h
          exact decide_eq_true h)
        clear hl
        go_wp2
        go_ret
        exact ⟨by rw [HV.out]; rfl, HB.out⟩
  · have hl' : ((l1.length : Int) != (l2.length : Int)) = true := by simp; omega
    have HV : Hid (R = false) := hide_ (by rw [← HR.out]; exact decide_eq_false (fun e => hl (by rw [e])))
    go_enter Try.func10, Try.ntmps10
    go_wp2
    go_ret
    exact ⟨by rw [HV.out]; rfl, Below.refl _ _⟩
end Go.Proofs.Ytnpkpmbpapekbaa
/- The law's awake. -/
namespace Go.Proofs.Ytnpkpmbpapekbaa
open Go.RowKit
set_option linter.unusedVariables false

def awT : List Ty := [⟨3, 0, 0, []⟩, ⟨4, 3, 0, []⟩]
theorem aw_chk : chk awT [] = (0, 0) := by kernel_rfl
theorem aw_lay : awT.map (layP (extL awT)) = [⟨0, []⟩, ⟨12, [⟨0, true, 4⟩]⟩] := by kernel_rfl
theorem aw_off : offA 9 [3, 0, 2] = ([9, 12, 12], 0) := by kernel_rfl
theorem aw_len : lenA 9 [9, 12, 12] 14 = ([3, 0, 2], 0, 0) := by kernel_rfl
def awTc : List Value := [.int .i64 3, .int .i64 0, .int .i64 0, .slice none 0 0, .int .i64 4, .int .i64 3, .int .i64 0, .slice none 0 0]
theorem aw_row {w : World} {b : Nat} (hK : Blk w b 46 awTc) : TRow w (some ⟨b, 0, none⟩) awT := by
  refine .inr ⟨b, 0, rfl, hK.lt, fun i t ht => ?_⟩
  have key : ∀ (m : Nat) (u : Ty) (v : Value), (∀ j, j < 4 → awTc[m * 4 + j]? = (tyc u v)[j]?) → ∀ j, j < 4 → w.cell? ⟨b, 0 + m * 4 + j, none⟩ = (tyc u v)[j]? := fun m u v h j hj => by
    rw [hK.cell, Nat.zero_add]
    exact h j hj
  have nn : ∀ (m : Nat) (u : Ty), u.ps = [] → (∀ j, j < 4 → awTc[m * 4 + j]? = (tyc u (.slice none 0 0))[j]?) → ∃ va vc, (∀ j, j < 4 → w.cell? ⟨b, 0 + m * 4 + j, none⟩ = (tyc u (.slice va u.ps.length vc))[j]?) ∧ u.ps.length ≤ vc ∧ (va = none → vc = 0) ∧ PRow w va u.ps := fun m u hu h => by
    refine ⟨none, 0, ?_, by rw [hu]; exact Nat.le_refl _, fun _ => rfl, .inl hu⟩
    rw [hu]
    exact key m u _ h
  match i, ht with
  | 0, ht => injection ht with ht; subst ht; exact nn 0 _ rfl (fun j hj => match j, hj with | 0, _ => rfl | 1, _ => rfl | 2, _ => rfl | 3, _ => rfl)
  | 1, ht => injection ht with ht; subst ht; exact nn 1 _ rfl (fun j hj => match j, hj with | 0, _ => rfl | 1, _ => rfl | 2, _ => rfl | 3, _ => rfl)
  | n + 2, ht => cases ht
theorem aw_lens : LensT awT := ⟨by decide, fun t ht => by
  simp only [awT, List.mem_cons, List.not_mem_nil, or_false] at ht
  rcases ht with rfl | rfl <;> simp⟩
theorem len2P {α : Type} {P : List α} (h : P.length = 2) : ∃ p r, P = [p, r] := by
  match P, h with
  | [p, r], _ => exact ⟨p, r, rfl⟩
theorem same3 (a b : Option Addr) (c d : Nat) (l : List Int) (hl : l.length = 3) (w : World) (h1 : Hid (Row .i64 w a l)) (h2 : Hid (Row .i64 w b l)) :
    Calls Try.prog 10 #[.slice a 3 c, .slice b 3 d] w fun e w' => e = .returned (.bool true) ∧ Below w.heap.size w w' := by
  have h := same_any a b c d l l w (by omega) (by omega) h1 h2
  rw [hl, decide_eq_true rfl] at h
  exact h
set_option maxRecDepth 100000 in
set_option maxHeartbeats 8000000 in
theorem awake_any (w : World) : Calls Try.prog 7 #[] w fun e w' => e = .returned (.bool true) ∧ Below w.heap.size w w' := by
  obtain ⟨w1, hw1⟩ : ∃ w1, w1 = w.alloc (.cells #[.int .i64 3, .int .i64 0, .int .i64 2] 3) := ⟨_, rfl⟩
  have hB1 : Below w.heap.size w w1 := by rw [hw1]; exact below1 _ _
  have k1 : Blk w1 w.heap.size 3 (cellsL .i64 [3, 0, 2]) := by rw [hw1]; exact Blk.newA w _ _
  have HB1 := hide_ hB1
  have HOf : Hid (Calls Try.prog 8 #[.int .i64 9, .slice (some ⟨w.heap.size, 0, none⟩) 3 3] w1 fun e w' => ∃ a c, e = .returned (.tuple #[.slice a 3 c, .int .i64 0]) ∧ Hid (Row .i64 w' a [9, 12, 12]) ∧ Hid (Below w1.heap.size w1 w')) := hide_ (by
    refine (offsets_any 9 (some ⟨w.heap.size, 0, none⟩) 3 [3, 0, 2] w1 (by decide) (hide_ k1.row)).mono ?_
    rintro e w' ⟨v, rfl, HO⟩
    rw [aw_off] at HO ⊢
    obtain ⟨a, c, rfl, hr, -⟩ := HO.out.1.row
    exact ⟨a, c, rfl, hide_ hr, hide_ HO.out.2⟩)
  clear k1 hB1
  go_enter Try.func7, Try.ntmps7
  go_upto_region 1 with fail
  go_wp2_with fail
  rw [← hw1]
  clear hw1
  refine HOf.out.mono ?_
  rintro e w2 ⟨ao, co, rfl, HR2, HB2⟩
  obtain ⟨w3, hw3⟩ : ∃ w3, w3 = w2.alloc (.cells #[.int .i64 9, .int .i64 12, .int .i64 12] 3) := ⟨_, rfl⟩
  have hB3 : Below w2.heap.size w2 w3 := by rw [hw3]; exact below1 _ _
  have k3 : Blk w3 w2.heap.size 3 (cellsL .i64 [9, 12, 12]) := by rw [hw3]; exact Blk.newA w2 _ _
  have HB3 := hide_ (below_to HB1.out (below_to HB2.out hB3))
  have HSa := hide_ (same3 ao (some ⟨w2.heap.size, 0, none⟩) co 3 [9, 12, 12] rfl w3 (hide_ (HR2.out.later hB3)) (hide_ k3.row))
  clear hB3 k3 HOf HB1 HB2 HR2
  go_wp2_with fail
  rw [← hw3]
  clear hw3
  refine HSa.out.mono ?_
  rintro e w4 ⟨rfl, hB4⟩
  have HB4 := hide_ (below_to HB3.out hB4)
  obtain ⟨w5, hw5⟩ : ∃ w5, w5 = w4.alloc (.cells #[.int .i64 9, .int .i64 12, .int .i64 12] 3) := ⟨_, rfl⟩
  have hB5 : Below w4.heap.size w4 w5 := by rw [hw5]; exact below1 _ _
  have k5 : Blk w5 w4.heap.size 3 (cellsL .i64 [9, 12, 12]) := by rw [hw5]; exact Blk.newA w4 _ _
  have HB5 := hide_ (below_to HB4.out hB5)
  have HLe : Hid (Calls Try.prog 9 #[.int .i64 9, .slice (some ⟨w4.heap.size, 0, none⟩) 3 3, .int .i64 14] w5 fun e w' => ∃ a c, e = .returned (.tuple #[.slice a 3 c, .int .i64 0, .int .i64 0]) ∧ Hid (Row .i64 w' a [3, 0, 2]) ∧ Hid (Below w5.heap.size w5 w')) := hide_ (by
    refine (lengths_any 9 14 (some ⟨w4.heap.size, 0, none⟩) 3 [9, 12, 12] w5 (by decide) (by decide) (hide_ k5.row)).mono ?_
    rintro e w' ⟨v, rfl, HO⟩
    rw [aw_len] at HO ⊢
    obtain ⟨a, c, rfl, hr, -⟩ := HO.out.1.row
    exact ⟨a, c, rfl, hide_ hr, hide_ HO.out.2⟩)
  clear hB5 k5 hB4 HSa
  go_wp2_with fail
  rw [← hw5]
  clear hw5
  refine HLe.out.mono ?_
  rintro e w6 ⟨al, cl, rfl, HR6, HB6⟩
  have HB6w := hide_ (below_to HB5.out HB6.out)
  obtain ⟨w7, hw7⟩ : ∃ w7, w7 = w6.alloc (.cells awTc.toArray 46) := ⟨_, rfl⟩
  have hB7 : Below w6.heap.size w6 w7 := by rw [hw7]; exact below1 _ _
  have k7 : Blk w7 w6.heap.size 46 awTc := by rw [hw7]; exact Blk.new w6 _ _
  simp only [awTc] at hw7
  have HB7 := hide_ (below_to HB6w.out hB7)
  have HLo : Hid (Calls Try.prog 12 #[.agg #[.slice (some ⟨w6.heap.size, 0, none⟩) 2 2, .slice none 0 0]] w7 fun e w' => ∃ g c, e = .returned (.tuple #[.slice (some ⟨g, 0, none⟩) 2 c, .int .i64 0]) ∧ w'.cell? ⟨g, 2, none⟩ = some (.int .i64 12) ∧ Hid (Below w7.heap.size w7 w')) := hide_ (by
    refine (lof_any (some ⟨w6.heap.size, 0, none⟩) 2 awT none 0 [] w7 (by decide) (by decide) (hide_ aw_lens) (hide_ (aw_row k7)) (hide_ (.inl rfl))).mono ?_
    rintro e w' (⟨hne, -, -⟩ | ⟨-, v, P, rfl, hP, hO, hB⟩)
    · rw [aw_chk] at hne; exact absurd rfl hne
    · rw [aw_lay] at hP
      have hl2 : P.length = 2 := by have := congrArg List.length hP; simpa using this
      obtain ⟨p, r, rfl⟩ := len2P hl2
      simp at hP
      obtain ⟨h1, h2⟩ := hP
      obtain ⟨a, c, rfl, -, hg⟩ := hO.slice
      obtain ⟨b, off, rfl, -, hc⟩ := hg.open (by simp)
      obtain ⟨g, cap, ys, e2, -, -, -, -, -, -⟩ := ownS_blk hO.row (by simp)
      injection e2 with e2 _ _
      injection e2 with e2
      injection e2 with e3 e4 _
      subst e3 e4
      have := hc 1 r rfl 0 (by decide)
      simp [lyc, h2] at this
      exact ⟨b, c, rfl, this, hide_ hB⟩)
  have HR7 := hide_ (HR6.out.later hB7)
  clear hB7 k7 HLe HB6w HB6 HB5 HB4 HB3 HR6
  go_wp2_with fail
  rw [← hw7]
  clear hw7
  refine HLo.out.mono ?_
  rintro e w8 ⟨g, c8, rfl, h12, HB8⟩
  obtain ⟨w9, hw9⟩ : ∃ w9, w9 = w8.alloc (.cells #[.int .i64 3, .int .i64 0, .int .i64 2] 3) := ⟨_, rfl⟩
  have hB9 : Below w8.heap.size w8 w9 := by rw [hw9]; exact below1 _ _
  have k9 : Blk w9 w8.heap.size 3 (cellsL .i64 [3, 0, 2]) := by rw [hw9]; exact Blk.newA w8 _ _
  have HB9 := hide_ (below_to HB7.out (below_to HB8.out hB9))
  have HSa := hide_ (same3 al (some ⟨w8.heap.size, 0, none⟩) cl 3 [3, 0, 2] rfl w9 (hide_ (HR7.out.later (below_to HB8.out hB9))) (hide_ k9.row))
  have h129 : w9.cell? ⟨g, 2, none⟩ = some (.int .i64 12) := (hB9.cell (World.block_lt_of_cell? w8 _ h12)).trans h12
  clear hB9 k9 HLo HR7 h12
  go_wp2_with fail
  rw [← hw9]
  clear hw9
  refine HSa.out.mono ?_
  rintro e w10 ⟨rfl, hB10⟩
  have h1210 : w10.cell? ⟨g, 2, none⟩ = some (.int .i64 12) := (hB10.cell (World.block_lt_of_cell? w9 _ h129)).trans h129
  have HBf := hide_ (below_to HB9.out hB10)
  clear hB10 h129 HSa HB9
  go_wp2
  go_ret
  exact ⟨rfl, HBf.out⟩
end Go.Proofs.Ytnpkpmbpapekbaa
/- LayoutFixed, plain: slots follow one another; a fixed struct or vector has its one size. -/
namespace Go.Proofs.Ytnpkpmbpapekbaa
set_option linter.unusedVariables false

def preS (S : List Sl) (k : Nat) : Int := (S.take k).foldl (fun a s => plus2 a s.sz) 0
def varS (S : List Sl) (k : Nat) : Bool := (S.take k).any (fun s => s.v)
theorem preS_succ {S : List Sl} {k : Nat} {s : Sl} (h : S[k]? = some s) : preS S (k + 1) = plus2 (preS S k) s.sz := by
  have hk := (List.getElem?_eq_some_iff.1 h).1
  unfold preS
  rw [List.take_succ_eq_append_getElem hk, (List.getElem?_eq_some_iff.1 h).2]
  simp
theorem varS_succ {S : List Sl} {k : Nat} {s : Sl} (h : S[k]? = some s) : varS S (k + 1) = (varS S k || s.v) := by
  have hk := (List.getElem?_eq_some_iff.1 h).1
  unfold varS
  rw [List.take_succ_eq_append_getElem hk, (List.getElem?_eq_some_iff.1 h).2]
  simp
theorem preS_app (S : List Sl) (s : Sl) {k : Nat} (hk : k ≤ S.length) : preS (S ++ [s]) k = preS S k := by
  unfold preS
  rw [List.take_append_of_le_length hk]
theorem preS_bd (S : List Sl) : ∀ (k : Nat), 0 ≤ preS S k ∧ preS S k ≤ 4611686018427387904
  | 0 => by unfold preS; simp
  | k + 1 => by
    rcases Nat.lt_or_ge k S.length with hk | hk
    · rw [preS_succ (List.getElem?_eq_getElem hk)]
      exact plus2_bd _ _
    · have h := preS_bd S k
      have e : preS S (k + 1) = preS S k := by
        unfold preS
        rw [List.take_of_length_le hk, List.take_of_length_le (by omega)]
      rw [e]
      exact h
/-- What the slots of a struct or vector are. -/
structure Chain (S : List Sl) : Prop where
  at_ : ∀ (k : Nat) (s : Sl), S[k]? = some s → s.at_ = preS S k ∧ (s.v = true → s.sz = 4) ∧ 1 ≤ s.sz ∧ s.sz ≤ 4611686018427387904
theorem Chain.snoc {S : List Sl} {s : Sl} (h : Chain S) (h1 : s.at_ = preS S S.length) (h2 : s.v = true → s.sz = 4) (h3 : 1 ≤ s.sz) (h4 : s.sz ≤ 4611686018427387904) : Chain (S ++ [s]) := ⟨fun k u hu => by
  rcases Nat.lt_or_ge k S.length with hk | hk
  · rw [List.getElem?_append_left hk] at hu
    rw [preS_app S s (Nat.le_of_lt hk)]
    exact h.at_ k u hu
  · rw [List.getElem?_append_right hk] at hu
    rcases Nat.eq_zero_or_pos (k - S.length) with h0 | h0
    · rw [h0] at hu
      injection hu with hu
      subst hu
      have : k = S.length := by omega
      subst this
      rw [preS_app S s (Nat.le_refl _)]
      exact ⟨h1, h2, h3, h4⟩
    · rw [List.getElem?_eq_none (by simp; omega)] at hu
      cases hu⟩
def Pos (x : Ex) : Prop := x.f = true → 1 ≤ x.l
theorem Pos.at {X : List Ex} (h : ∀ x ∈ X, Pos x) (i : Int) : Pos (exAt X i) := by
  unfold exAt
  rcases Nat.lt_or_ge i.toNat X.length with hi | hi
  · rw [show X.getD i.toNat ex0 = X[i.toNat]'hi by simp [List.getD, hi]]
    exact h _ (List.getElem_mem hi)
  · rw [show X.getD i.toNat ex0 = ex0 by simp [List.getD, List.getElem?_eq_none hi]]
    intro h
    cases h
theorem slot_ok {x : Ex} (h : XOk x) (hp : Pos x) (a : Int) : (slotP x a).at_ = a ∧ ((slotP x a).v = true → (slotP x a).sz = 4) ∧ 1 ≤ (slotP x a).sz ∧ (slotP x a).sz ≤ 4611686018427387904 ∧ (slotP x a).v = !x.f ∧ (x.f = true → (slotP x a).sz = x.l) := by
  have h1 := h.lm; have h2 := h.mh
  unfold slotP
  split
  · rename_i hf
    have := hp hf
    exact ⟨rfl, (fun e => by cases e), this, by simp only; omega, by rw [hf]; rfl, fun _ => rfl⟩
  · rename_i hf
    exact ⟨rfl, fun _ => rfl, by simp only; omega, by simp only; omega, by simp only; rw [Bool.not_eq_true] at hf; rw [hf]; rfl, fun e => absurd e hf⟩
theorem off_fix {x : Ex} (h : x.f = true) : offX x = x := by unfold offX; rw [if_pos h]
theorem row_chain {X : List Ex} (hX : ∀ x ∈ X, XOk x) (hp : ∀ x ∈ X, Pos x) (ps : List Pt) :
    Chain (rowP X ps).sl ∧ preS (rowP X ps).sl (rowP X ps).sl.length = (rowP X ps).sz ∧ varS (rowP X ps).sl (rowP X ps).sl.length = !(rowX (ps.map (fun p => exAt X p.ty))).1 ∧ ((rowX (ps.map (fun p => exAt X p.ty))).1 = true → (rowP X ps).sz = (rowX (ps.map (fun p => exAt X p.ty))).2.1) := by
  refine snoc_ind (P := fun ps => Chain (rowP X ps).sl ∧ preS (rowP X ps).sl (rowP X ps).sl.length = (rowP X ps).sz ∧ varS (rowP X ps).sl (rowP X ps).sl.length = !(rowX (ps.map (fun p => exAt X p.ty))).1 ∧ ((rowX (ps.map (fun p => exAt X p.ty))).1 = true → (rowP X ps).sz = (rowX (ps.map (fun p => exAt X p.ty))).2.1)) ?_ (fun ps p ih => ?_) ps
  · exact ⟨⟨fun k s h => by simp [rowP] at h⟩, rfl, rfl, fun _ => rfl⟩
  · obtain ⟨i1, i2, i3, i4⟩ := ih
    have ho := slot_ok (XOk.at hX p.ty) (Pos.at hp p.ty) (rowP X ps).sz
    rw [rowP_snoc, List.map_append, List.map_cons, List.map_nil, rowX_snoc]
    simp only [addF]
    generalize hs : slotP (exAt X p.ty) (rowP X ps).sz = s at *
    have hg : ((rowP X ps).sl ++ [s])[(rowP X ps).sl.length]? = some s := by simp
    have hl : ((rowP X ps).sl ++ [s]).length = (rowP X ps).sl.length + 1 := by simp
    refine ⟨i1.snoc (by rw [ho.1, i2]) ho.2.1 ho.2.2.1 ho.2.2.2.1, ?_, ?_, fun hf => ?_⟩
    · rw [hl, preS_succ hg, preS_app _ _ (Nat.le_refl _), i2]
    · rw [hl, varS_succ hg]
      have e : varS ((rowP X ps).sl ++ [s]) (rowP X ps).sl.length = varS (rowP X ps).sl (rowP X ps).sl.length := by
        unfold varS
        rw [List.take_append_of_le_length (Nat.le_refl _)]
      rw [e, i3, ho.2.2.2.2.1, off_f]
      cases (rowX (ps.map (fun p => exAt X p.ty))).1 <;> cases (exAt X p.ty).f <;> rfl
    · simp only [Bool.and_eq_true] at hf
      rw [off_f] at hf
      rw [i4 hf.1, ho.2.2.2.2.2 hf.2, off_fix hf.2]
theorem pos_ext {X : List Ex} {t : Ty} {i : Int} (hX : ∀ x ∈ X, XOk x) (hp : ∀ x ∈ X, Pos x) (ht : tyOk t i = true) : Pos (ext1 X t) := by
  have hn := of_decide_eq_true (tyOk_parts ht).1
  have hkp : ∀ x ∈ kidL X t.k t.e t.ps, Pos x := fun x hx => by
    unfold kidL at hx
    rcases List.mem_append.1 hx with hx | hx
    · split at hx
      · simp at hx; subst hx; exact Pos.at hp t.e
      · cases hx
    · simp only [List.mem_map] at hx
      obtain ⟨p, _, rfl⟩ := hx
      exact Pos.at hp p.ty
  unfold ext1
  split
  · intro _; simp only; omega
  split
  · intro _; simp only; omega
  split
  · intro h; cases h
  split
  · intro h
    simp only at h ⊢
    rw [off_f] at h
    have h1 := Pos.at hp t.e h
    have h2 := XOk.at hX t.e
    have h3 := h2.lm; have h4 := h2.mh
    rw [off_fix h, times2_in (by omega) (by omega) (by omega) (by omega)]
    have h5 : 1 * 1 ≤ t.n * (exAt X t.e).l := Int.mul_le_mul (by omega) h1 (by decide) (by omega)
    split <;> omega
  split
  · intro h; cases h
  split
  · intro h; cases h
  split
  · intro h; cases h
  · rename_i h1 h2 h3 h4 h5 h6 h7
    intro hf
    simp only at hf ⊢
    have hk8 : t.k = 8 := by omega
    have hpos := tyOk_pos ht (.inr hk8)
    have hK := kidL_ok hX t.k t.e t.ps
    have hr := rowX_ok _ hK
    obtain ⟨p, r, e⟩ : ∃ p r, t.ps = p :: r := by
      cases h : t.ps with
      | nil => rw [h] at hpos; simp at hpos
      | cons p r => exact ⟨p, r, rfl⟩
    have hm : exAt X p.ty ∈ kidL X t.k t.e t.ps := by
      unfold kidL
      rw [e]
      simp
    have hg := rowX_ge _ hK _ hm
    have hx := hK _ hm
    have := hkp _ hm (hg.2 hf)
    have := hx.lm
    rw [hr.2.2.2 hf]
    omega
theorem extL_pos {T : List Ty} {R : List Rt} (hS : OkS T R) : ∀ m, m ≤ T.length → ∀ x ∈ extL (T.take m), Pos x
  | 0, _ => fun x hx => by simp [extL] at hx
  | m + 1, hm => fun x hx => by
    rw [List.take_succ_eq_append_getElem (by omega : m < T.length), extL_snoc] at hx
    have ih := extL_pos hS m (by omega)
    have ix := extL_ok hS m (by omega)
    rcases List.mem_append.1 hx with hx | hx
    · exact ih x hx
    · simp only [List.mem_singleton] at hx
      subst hx
      have ht := hS.ty m (by omega)
      rw [show T.getD m ty0 = T[m]'(by omega) by simp [List.getD, (by omega : m < T.length)]] at ht
      exact pos_ext (fun y hy => (ix y hy).1) ih ht
/-- What LayoutFixed asks of a struct or vector. -/
structure FixT (t : Ty) (y : Ly) (x : Ex) : Prop where
  ch : Chain y.sl
  sz : t.k = 8 → preS y.sl y.sl.length = y.sz
  var : varS y.sl y.sl.length = !x.f
  fx : x.f = true → y.sz = x.l ∧ y.sz = x.m
theorem fix_of {T : List Ty} {R : List Rt} (hS : OkS T R) {i : Nat} {t : Ty} (ht : T[i]? = some t) (hk : t.k = 8 ∨ t.k = 4) : FixT t (layP (extL T) t) (exAt (extL T) (i : Int)) := by
  have hi := (List.getElem?_eq_some_iff.1 ht).1
  have hok := hS.ty i hi
  rw [show T.getD i ty0 = t by simp [List.getD, ht]] at hok
  have hX0 := extL_ok hS T.length (Nat.le_refl _)
  have hp := extL_pos hS T.length (Nat.le_refl _)
  rw [List.take_length] at hX0 hp
  have hX : ∀ x ∈ extL T, XOk x := fun x hx => (hX0 x hx).1
  have hxi := XOk.at hX (i : Int)
  rw [exAt_ext ht] at hxi ⊢
  rcases hk with hk | hk
  · have hr := row_chain hX hp t.ps
    have hl : layP (extL T) t = rowP (extL T) t.ps := by unfold layP; rw [if_pos hk]
    have hkl : kidL (extL (T.take i)) t.k t.e t.ps = t.ps.map (fun p => exAt (extL T) p.ty) := by
      unfold kidL
      rw [if_neg (by rw [hk]; decide), List.nil_append]
      refine List.map_congr_left (fun p hpm => ?_)
      obtain ⟨j, hj⟩ := List.mem_iff_getElem?.1 hpm
      have := tyOk_part hok hj
      exact exAt_take (Nat.le_of_lt hi) this.1 this.2
    have he : ext1 (extL (T.take i)) t = ⟨(rowX (t.ps.map (fun p => exAt (extL T) p.ty))).1, (rowX (t.ps.map (fun p => exAt (extL T) p.ty))).2.1, (rowX (t.ps.map (fun p => exAt (extL T) p.ty))).2.2, 1 + deepX (t.ps.map (fun p => exAt (extL T) p.ty))⟩ := by
      unfold ext1
      rw [if_neg (by omega), if_neg (by omega), if_neg (by omega), if_neg (by omega), if_neg (by omega), if_neg (by omega), if_neg (by omega), hkl]
    rw [he] at hxi ⊢
    rw [hl]
    exact ⟨hr.1, fun _ => hr.2.1, hr.2.2.1, fun hf => ⟨hr.2.2.2 hf, by rw [hr.2.2.2 hf]; exact hxi.fx hf⟩⟩
  · have hel := tyOk_elem hok (by rw [hk]; decide)
    have hn := nOk_n hok
    have ho := slot_ok (XOk.at hX t.e) (Pos.at hp t.e) 0
    have hl : layP (extL T) t = ⟨times2 t.n (slotP (exAt (extL T) t.e) 0).sz, [slotP (exAt (extL T) t.e) 0]⟩ := by
      unfold layP
      rw [if_neg (by omega), if_pos hk]
    have he : ext1 (extL (T.take i)) t = ⟨(offX (exAt (extL T) t.e)).f, times2 t.n (offX (exAt (extL T) t.e)).l, times2 t.n (offX (exAt (extL T) t.e)).m, 1 + deepX (kidL (extL (T.take i)) t.k t.e t.ps)⟩ := by
      unfold ext1
      rw [if_neg (by omega), if_neg (by omega), if_neg (by omega), if_pos hk, exAt_take (Nat.le_of_lt hi) hel.1 hel.2]
    rw [he] at hxi ⊢
    rw [hl]
    refine ⟨?_, fun h => by omega, ?_, fun hf => ?_⟩
    · have := (Chain.snoc (S := []) ⟨fun k s h => by simp at h⟩ (s := slotP (exAt (extL T) t.e) 0) ho.1 ho.2.1 ho.2.2.1 ho.2.2.2.1)
      simpa using this
    · simp only [varS]
      simp [ho.2.2.2.2.1, off_f]
    · simp only at hf ⊢
      rw [off_f] at hf
      have h2 : (exAt (extL T) t.e).l = (exAt (extL T) t.e).m := (XOk.at hX t.e).fx hf
      rw [ho.2.2.2.2.2 hf, off_fix hf, ← h2]
      exact ⟨rfl, rfl⟩
/-- Of another type. -/
theorem other_of (X : List Ex) (t : Ty) (h8 : t.k ≠ 8) (h4 : t.k ≠ 4) : (layP X t).sz = 0 ∧ (layP X t).sl.length ≤ 1 := by
  unfold layP
  rw [if_neg h8, if_neg h4]
  split
  · exact ⟨rfl, by simp⟩
  · exact ⟨rfl, by simp⟩
theorem lay_len {X : List Ex} {t : Ty} {i : Int} (h : tyOk t i = true) : (layP X t).sl.length ≤ 64 := by
  have := tyOk_len h
  unfold layP
  split
  · rw [rowP_len]; exact this
  split
  · simp
  split
  · simp
  · simp
end Go.Proofs.Ytnpkpmbpapekbaa
/- The document's Of. -/
namespace Go.Proofs.Ytnpkpmbpapekbaa
open Go.RowKit
set_option linter.unusedVariables false

/-- The memory of one round: the type's box at q, the layout under way at q + 1. -/
structure LyR (w0 w : World) (q : Nat) (TC : List Value) (z : Int) (v : Value) (l : List Sl) : Prop where
  ty : Blk w q 46 TC
  out : Blk w (q + 1) 49 [.int .i64 z, v]
  own : SOwn w q v l
  below : Below q w0 w
theorem LyR.later {w0 w w' : World} {q : Nat} {TC : List Value} {z : Int} {v : Value} {l : List Sl} (h : LyR w0 w q TC z v l) (hB : Below w.heap.size w w') : LyR w0 w' q TC z v l :=
  ⟨h.ty.later hB, h.out.later hB, h.own.later hB, h.below.trans (hB.mono (Nat.le_of_lt h.ty.lt))⟩
theorem LyR.push {w0 w : World} {q : Nat} {TC : List Value} {z : Int} {v : Value} {l : List Sl} (h : LyR w0 w q TC z v l) (x : Sl) (hl : l.length ≤ 1000000) :
    ∃ g cap w', (Builtin.append_ #[47, 47] 47 #[v, .slice (some ⟨w.heap.size, 0, none⟩) 1 1]).run Try.prog (w.alloc (.cells #[.int .i64 x.at_, .bool x.v, .int .i64 x.sz] 51)) = .ok (.slice (some ⟨g, 0, none⟩) (l.length + 1) cap) w' ∧
      Blk w' (q + 1) 49 [.int .i64 z, v] ∧ LyR w0 (w'.setCell ⟨q + 1, 1, none⟩ (.slice (some ⟨g, 0, none⟩) (l.length + 1) cap)) q TC z (.slice (some ⟨g, 0, none⟩) (l.length + 1) cap) (l ++ [x]) ∧ Upd (fun k => v.ownBlock = some k) w w' ∧ Below q w w' := by
  have hq : q ≤ w.heap.size := Nat.le_of_lt h.ty.lt
  obtain ⟨g, cap, w', h1, h2, h3, h4⟩ := h.own.push x hl hq
  have hb := h3.below q hq (fun k hk => (h.own.lies hk).1)
  have ho := h.out.upd h3 (h.own.ne h.out (by decide))
  have ht := h.ty.upd h3 (h.own.ne h.ty (by decide))
  refine ⟨g, cap, w', h1, ho, ⟨?_, ?_, ?_, ?_⟩, h3, hb⟩
  · exact ht.other _ _ (by show q ≠ q + 1; omega)
  · have h := ho.set 1 (.slice (some ⟨g, 0, none⟩) (l.length + 1) cap)
    simpa using h
  · refine h2.upd ((Upd.refl (fun k => k = q + 1) w').set _ _ (.inl rfl)) (fun k hk e => ?_)
    exact h2.ne ho (by decide) (e ▸ hk)
  · exact below_set (h.below.trans hb) _ _ _ (by omega)
theorem LyR.step {w0 w : World} {q : Nat} {TC : List Value} {z : Int} {v : Value} {l : List Sl} (h : LyR w0 w q TC z v l) (x : Sl) (hl : l.length ≤ 1000000) {b : Nat} (hg : Blk w b 51 (slc x)) (hgv : ¬ v.ownBlock = some b) :
    ∃ g cap w', (Builtin.append_ #[47, 47] 47 #[v, .slice (some ⟨w.heap.size, 0, none⟩) 1 1]).run Try.prog (w.alloc (.cells #[.int .i64 x.at_, .bool x.v, .int .i64 x.sz] 51)) = .ok (.slice (some ⟨g, 0, none⟩) (l.length + 1) cap) w' ∧
      Blk w' (q + 1) 49 [.int .i64 z, v] ∧ LyR w0 (w'.setCell ⟨q + 1, 1, none⟩ (.slice (some ⟨g, 0, none⟩) (l.length + 1) cap)) q TC z (.slice (some ⟨g, 0, none⟩) (l.length + 1) cap) (l ++ [x]) ∧ Blk (w'.setCell ⟨q + 1, 1, none⟩ (.slice (some ⟨g, 0, none⟩) (l.length + 1) cap)) b 51 (slc x) := by
  obtain ⟨g, cap, w', h1, h2, h3, h4, h5⟩ := h.push x hl
  refine ⟨g, cap, w', h1, h2, h3, (hg.upd h4 hgv).other _ _ (fun e => ?_)⟩
  exact absurd (blk_type h.out (e ▸ hg)) (by decide)
theorem LyR.size {w0 w : World} {q : Nat} {TC : List Value} {z : Int} {v : Value} {l : List Sl} (h : LyR w0 w q TC z v l) (y : Int) : LyR w0 (w.setCell ⟨q + 1, 0, none⟩ (.int .i64 y)) q TC y v l := by
  refine ⟨h.ty.other _ _ (by show q ≠ q + 1; omega), ?_, ?_, below_set h.below _ _ _ (by omega)⟩
  · have := h.out.set 0 (.int .i64 y)
    simpa using this
  · refine h.own.upd ((Upd.refl (fun k => k = q + 1) w).set _ _ (.inl rfl)) (fun k hk e => ?_)
    exact h.own.ne h.out (by decide) (e ▸ hk)
theorem lyr_start (w : World) (TC : Array Value) {w1 w2 : World} (h1 : w1 = w.alloc (.cells TC 46)) (h2 : w2 = w1.alloc (.cells #[.int .i64 0, .slice none 0 0] 49)) :
    LyR w w2 w.heap.size TC.toList 0 (.slice none 0 0) [] := by
  have b1 : Below w.heap.size w w1 := by rw [h1]; exact below1 _ _
  have b2 : Below w1.heap.size w1 w2 := by rw [h2]; exact below1 _ _
  have s1 : w1.heap.size = w.heap.size + 1 := by rw [h1]; simp
  have k1 : Blk w1 w.heap.size 46 TC.toList := by rw [h1]; exact Blk.newA w _ _
  have k2 : Blk w2 w1.heap.size 49 [.int .i64 0, .slice none 0 0] := by rw [h2]; exact Blk.newA w1 _ _
  rw [s1] at k2
  exact ⟨k1.later b2, k2, SOwn.nil _ _, below_to b1 b2⟩
set_option maxRecDepth 100000 in
set_option maxHeartbeats 16000000 in
theorem ofD_any (a : Option Addr) (c : Nat) (T : List Ty) (ar : Option Addr) (cr : Nat) (R : List Rt) (w : World) (hn : T.length ≤ 3000000000000) (hm : R.length ≤ 10000000000000) (hL : Hid (LensT T)) (hT : Hid (TRow w a T)) (hR : Hid (RRow w ar R)) :
    Calls Try.prog 16 #[.agg #[.slice a T.length c, .slice ar R.length cr]] w fun e w' => LOfTo T R w e w' := by
  have hB := below1 w (.cells #[.slice a T.length c, .slice ar R.length cr] 34)
  have k1 := Blk.newA w #[.slice a T.length c, .slice ar R.length cr] 34
  obtain ⟨w0, hw0⟩ : ∃ wx, wx = w.alloc (.cells #[.slice a T.length c, .slice ar R.length cr] 34) := ⟨_, rfl⟩
  rw [← hw0] at hB k1
  have HB0 := hide_ hB
  have K1 := hide_ k1
  have hs1 : w.heap.size < w0.heap.size := k1.lt
  have i0 := k1.cell 0; have i1 := k1.cell 1
  simp at i0 i1
  have HCk := hide_ (checkR_any a c T ar cr R w0 hn hm hL (hide_ (hT.out.later hB)) (hide_ (hR.out.later hB)))
  obtain ⟨vE, hE⟩ : ∃ vE, (chk T R).1 = vE := ⟨_, rfl⟩
  obtain ⟨vA, hA⟩ : ∃ vA, (chk T R).2 = vA := ⟨_, rfl⟩
  rw [hE, hA] at HCk
  have HE := hide_ hE
  clear hB k1 hE hA
  go_enter Try.func16, Try.ntmps16
  go_upto_region 1 with fail
  rw [← hw0]
  clear hw0
  go_wp2_with fail
  refine HCk.out.mono ?_; rintro e w1 ⟨rfl, hB1⟩
  have kf := Blk.newA w1 #[.int .i64 vE, .int .i64 vA] 36
  have hB2 := below1 w1 (.cells #[.int .i64 vE, .int .i64 vA] 36)
  obtain ⟨w2, hw2⟩ : ∃ wx, wx = w1.alloc (.cells #[.int .i64 vE, .int .i64 vA] 36) := ⟨_, rfl⟩
  rw [← hw2] at kf hB2
  have HB2 := hide_ (below_to hB1 hB2)
  have j0 := kf.cell 0
  simp at j0
  have K2 := hide_ (K1.out.later HB2.out)
  clear hB1 hB2 kf HCk i0 i1
  go_upto_region 2 with fail
  rw [← hw2]
  clear hw2
  by_cases hE0 : vE = 0
  · have hE1 : (vE != 0) = false := by simp [hE0]
    have HOK := hide_ (okS_of (by rw [HE.out]; exact hE0))
    have l0 := K2.out.cell 0; have l1 := K2.out.cell 1
    simp at l0 l1
    have HCo := hide_ (ofR_any a c T ar cr R w2 hn hm hL (hide_ (hT.out.later (below_to HB0.out HB2.out))) (hide_ (hR.out.later (below_to HB0.out HB2.out))))
    clear hE0
    go_wp2_with fail
    refine HCo.out.mono ?_; rintro e w3 hOf
    rcases hOf with ⟨hne, -, -⟩ | ⟨-, vx, rfl, hXo, hB3⟩
    · exact absurd (by rw [HOK.out.chk]) hne
    have HB3 := hide_ (below_to HB2.out hB3)
    have hXl := extL_len T
    have hbd := extL_ok HOK.out T.length (Nat.le_refl _)
    rw [List.take_length] at hbd
    have HBd : Hid (∀ x ∈ extL T, XOk x) := hide_ (fun x hx => (hbd x hx).1)
    obtain ⟨ax, cx, hvx, -, -, hXr⟩ := hXo.row
    subst hvx
    have HXr := hide_ hXr
    have K3 := hide_ (K2.out.later hB3)
    have HXL := hide_ hXl
    obtain ⟨X, hX⟩ : ∃ X, extL T = X := ⟨_, rfl⟩
    rw [hX] at HXL HBd HXr
    have HXe := hide_ hX
    have hz3 : w0.heap.size ≤ w3.heap.size := HB3.out.size
    have hxlen : X.length = T.length := HXL.out
    have HT3 := hide_ (hT.out.later (below_to HB0.out HB3.out))
    have m0 := K3.out.cell 0
    simp at m0
    clear hX hXl hbd hXo hXr hB3 HCo l0 l1 j0 K2
    rw [HXe.out]
    rw [hxlen]
    have hXpos : ∀ i, i < T.length → 0 < X.length := fun i h => by omega
    have HXlen := hide_ hxlen
    clear hxlen
    go_wp2_with fail
    go_loopw [7, 8] (fun x7 x8 wr => ∃ (v : Value) (i : Nat) (P : List (Ly × Value)), v = x7 ∧ i ≤ T.length ∧ x8 = .int .i64 (i : Int) ∧ Hid (P.map (·.1) = (T.take i).map (layP X)) ∧ Hid (LOwn wr w3.heap.size v P) ∧ Hid (Below w3.heap.size w3 wr)) (fun _ x8 _ => T.length - (intOf x8).toNat)
    case atStart => exact ⟨_, 0, [], rfl, Nat.zero_le _, rfl, hide_ rfl, hide_ (LOwn.nil _ _), hide_ (Below.refl _ _)⟩
    case round =>
      obtain ⟨v, i, P, rfl, hi, rfl, HM, HO, HB⟩ := hrel
      generalize wr = wq at *
      clear m0
      have mq := (K3.out.later HB.out).cell 0
      simp at mq
      by_cases hlt : i < T.length
      · have hlt' : (i : Int) < T.length := by omega
        obtain ⟨b, o, rfl, hb, hc⟩ := (HT3.out.later HB.out).open (by omega)
        have hx : T[i]? = some (T[i]'hlt) := List.getElem?_eq_getElem hlt
        obtain ⟨va, vc, hcx, hvc, -, hP⟩ := hc i _ hx
        have hok1 := HOK.out.ty i hlt
        rw [show T.getD i ty0 = T[i]'hlt by simp [List.getD, hlt]] at hok1
        have HS0 := hide_ (fun u => take_map_succ hlt HM.out u)
        have hpl := map_len hi HM.out
        have HXq := hide_ (HXr.out.later HB.out)
        generalize T[i]'hlt = t at *
        obtain ⟨k, n, el, ps⟩ := t
        simp only at hvc hP
        have i0 := hcx 0 (by decide); have i1 := hcx 1 (by decide); have i2 := hcx 2 (by decide); have i3 := hcx 3 (by decide)
        simp [tyc] at i0 i1 i2 i3
        obtain ⟨wa, hwa⟩ : ∃ wx, wx = wq.alloc (.cells #[.int .i64 k, .int .i64 n, .int .i64 el, .slice va ps.length vc] 46) := ⟨_, rfl⟩
        obtain ⟨wx, hwx⟩ : ∃ wx, wx = wa.alloc (.cells #[.int .i64 0, .slice none 0 0] 49) := ⟨_, rfl⟩
        have HS := hide_ (lyr_start wq #[.int .i64 k, .int .i64 n, .int .i64 el, .slice va ps.length vc] hwa hwx)
        obtain ⟨q, hq⟩ : ∃ q, wq.heap.size = q := ⟨_, rfl⟩
        rw [hq] at HS
        have HQ := hide_ hq
        have HOK1 := hide_ hok1
        have HPr := hide_ hP
        have hPle : P.length ≤ 4000000000000 := by omega
        have HPL := hide_ hpl
        obtain ⟨y, hy⟩ : ∃ y, layP X ⟨k, n, el, ps⟩ = y := ⟨_, rfl⟩
        rw [hy] at HS0
        have HYd := hide_ hy
        obtain ⟨av, cv, hav, -, -⟩ := HO.out.slice
        subst hav
        clear hc hx hcx hP hok1 hb hpl hy
        go_upto_region 11 with fail
        rw [← hwa, ← hwx]
        clear hwa hwx i0 i1 i2 i3 hq mq
        have t0 := HS.out.ty.cell 0; have t1 := HS.out.ty.cell 1; have t2 := HS.out.ty.cell 2; have t3 := HS.out.ty.cell 3
        have u0 := HS.out.out.cell 0; have u1 := HS.out.out.cell 1
        simp at t0 t1 t2 t3 u0 u1
        by_cases h8 : k = 8
        · subst h8
          have HYe0 : Hid (y = rowP X ps) := hide_ (by rw [← HYd.out]; simp [layP])
          have hps := tyOk_len HOK1.out
          simp only at hps
          obtain ⟨TC, hTC⟩ : ∃ TC, TC = [Value.int .i64 8, Value.int .i64 n, Value.int .i64 el, Value.slice va ps.length vc] := ⟨_, rfl⟩
          have HT3c : Hid (TC[3]? = some (.slice va ps.length vc)) := hide_ (by rw [hTC]; rfl)
          have HSx : Hid (LyR wq wx q TC 0 (.slice none 0 0) []) := hide_ (by rw [hTC]; exact HS.out)
          clear HYd HS hTC
          go_wp2_with fail
          go_loopw [11] (fun x11 wr => ∃ (m : Nat) (z : Int) (v : Value) (l : List Sl), m ≤ ps.length ∧ x11 = .int .i64 (m : Int) ∧ Hid (rowP X (ps.take m) = ⟨z, l⟩) ∧ Hid (LyR wq wr q TC z v l)) (fun x11 _ => ps.length - (intOf x11).toNat)
          case atStart => exact ⟨0, 0, _, [], Nat.zero_le _, rfl, hide_ rfl, HSx⟩
          case round =>
            obtain ⟨m, z, v, l, hm, rfl, HR, HSr⟩ := hrel
            generalize wr = w4 at *
            clear HSx t0 t1 t2 t3 u0 u1
            have t3 := HSr.out.ty.cell 3
            rw [HT3c.out] at t3
            by_cases hltm : m < ps.length
            · have hltm' : (m : Int) < ps.length := by omega
              have hww : Below wq.heap.size wq w4 := by have := HSr.out.below; rw [← HQ.out] at this; exact this
              obtain ⟨bp, op, hva, hbp, hcp⟩ := (HPr.out.later hww).open (by omega)
              subst hva
              have hx : ps[m]? = some (ps[m]'hltm) := List.getElem?_eq_getElem hltm
              have hty := tyOk_part HOK1.out (j := m) (p := ps[m]'hltm) hx
              have hcx := hcp m _ hx
              have hsc := rowP_succ (X := X) hx
              rw [HR.out] at hsc
              have hrl := rowP_len X (ps.take m)
              have hrb := rowP_bd X (ps.take m)
              rw [HR.out] at hrl hrb
              simp only [List.length_take] at hrl hrb
              have hll : l.length ≤ 64 := by omega
              generalize ps[m]'hltm = p at *
              obtain ⟨pl, pg, py⟩ := p
              simp only at hty hsc
              have i2 := hcx 2 (by decide)
              simp [ptc] at i2
              obtain ⟨j, hj⟩ : ∃ j : Nat, py = (j : Int) := ⟨py.toNat, by omega⟩
              subst hj
              have hjX : j < X.length := by have := HXlen.out; omega
              have hjT' : (j : Int) < T.length := by omega
              have hxj := exAt_at hjX
              have HXo := hide_ (XOk.at HBd.out (j : Int))
              obtain ⟨bx, ox, hax, hbx, hcx2⟩ := HXq.out.open (by omega)
              subst hax
              obtain ⟨s, hs⟩ : ∃ s, slotP (exAt X (j : Int)) z = s := ⟨_, rfl⟩
              have HCs : Hid (∀ w', Calls Try.prog 27 #[.agg #[.bool (exAt X (j : Int)).f, .int .i64 (exAt X (j : Int)).l, .int .i64 (exAt X (j : Int)).m, .int .i64 (exAt X (j : Int)).d], .int .i64 z] w' fun e w2 => e = .returned (slv s) ∧ Below w'.heap.size w' w2) := hide_ (fun w' => by have h := slotR_any (exAt X (j : Int)) z w'; rwa [hs] at h)
              have hsb := slotP_bd HXo.out z
              have HXc : Hid (∀ w', Below wq.heap.size wq w' → ∀ m, m < 4 → w'.cell? ⟨bx, ox + j * 4 + m, none⟩ = (exc (exAt X (j : Int)))[m]?) := hide_ (fun w' hb m hm => (hb.cell (p := ⟨bx, ox + j * 4 + m, none⟩) hbx).trans (hcx2 j _ hxj m hm))
              simp only [addF] at hsc
              rw [hs] at hsb hsc
              generalize exAt X (j : Int) = xe at *
              obtain ⟨xf, xl, xm, xd⟩ := xe
              obtain ⟨sa, sv, ss⟩ := s
              simp only at hsc hsb HCs HXc
              obtain ⟨pz, hpz⟩ : ∃ pz, plus2 z ss = pz := ⟨_, rfl⟩
              have HCt : Hid (∀ w', Calls Try.prog 28 #[.int .i64 z, .int .i64 ss] w' fun e w2 => e = .returned (.int .i64 pz) ∧ w' = w2) := hide_ (fun w' => by have h := plusD_any z ss w' hrb.1 hrb.2 hsb.1 hsb.2; rwa [hpz] at h)
              rw [hpz] at hsc
              have HSc := hide_ hsc
              have Hlt : Hid (∀ k, v.ownBlock = some k → k < w4.heap.size) := hide_ (fun k hk => (HSr.out.own.lies hk).2)
              have HSS : Hid (∀ w', Below w4.heap.size w4 w' → w'.cell? ⟨q + 1, 0, none⟩ = some (.int .i64 z) ∧ w'.cell? ⟨q, 3, none⟩ = some (.slice (some ⟨bp, op, none⟩) ps.length vc) ∧ w'.cell? ⟨bp, op + m * 3 + 2, none⟩ = some (.int .i64 (j : Int)) ∧ w'.cell? ⟨bx, ox + j * 4, none⟩ = some (.bool xf) ∧ w'.cell? ⟨bx, ox + j * 4 + 1, none⟩ = some (.int .i64 xl) ∧ w'.cell? ⟨bx, ox + j * 4 + 2, none⟩ = some (.int .i64 xm) ∧ w'.cell? ⟨bx, ox + j * 4 + 3, none⟩ = some (.int .i64 xd)) := hide_ (fun w' hb => by
                have h := HSr.out.later hb
                have hw : Below wq.heap.size wq w' := by have := h.below; rw [← HQ.out] at this; exact this
                have c0 := HXc.out w' hw 0 (by decide); have c1 := HXc.out w' hw 1 (by decide); have c2 := HXc.out w' hw 2 (by decide); have c3 := HXc.out w' hw 3 (by decide)
                simp [exc] at c0 c1 c2 c3
                have u := h.out.cell 0
                have t := h.ty.cell 3
                rw [HT3c.out] at t
                simp at u
                exact ⟨u, t, (hb.cell (World.block_lt_of_cell? w4 _ i2)).trans i2, c0, c1, c2, c3⟩)
              obtain ⟨av2, cv2, hav2, -⟩ := HSr.out.own.row
              subst hav2
              clear hcp hx hcx hsc hrl hxj hcx2 hs hpz hww HXc hty i2 hjX
              go_upto_region 16 with fail
              refine wp_region_last 13 (fun w' => w'.cell? ⟨q + 1, 0, none⟩ = some (.int .i64 z) ∧ w'.cell? ⟨q, 3, none⟩ = some (.slice (some ⟨bp, op, none⟩) ps.length vc) ∧ w'.cell? ⟨bp, op + m * 3 + 2, none⟩ = some (.int .i64 (j : Int)) ∧ w'.cell? ⟨bx, ox + j * 4, none⟩ = some (.bool xf) ∧ w'.cell? ⟨bx, ox + j * 4 + 1, none⟩ = some (.int .i64 xl) ∧ w'.cell? ⟨bx, ox + j * 4 + 2, none⟩ = some (.int .i64 xm) ∧ w'.cell? ⟨bx, ox + j * 4 + 3, none⟩ = some (.int .i64 xd)) (by kernel_rfl) (HSS.out _ ((Below.refl w4.heap.size w4).drew)) (fun hHeld => ?_)
              refine wpAnyF_take [13] (by kernel_rfl) (i := 0) (v := ?vs1) rfl (by kernel_rfl) (by kernel_rfl) (by kernel_rfl) (fun _ _ _ h => h) (Or.inl ⟨by kernel_rfl, ?hys1⟩) hHeld ?rests1
              case hys1 => intro w' hSw; (try dsimp only at hSw); go_simp; try with_reducible rfl
              simp only [Act.put]
              refine wpAnyF_take [13] (by kernel_rfl) (i := 1) (v := ?vs2) rfl (by kernel_rfl) (by kernel_rfl) (by kernel_rfl) (fun _ _ _ h => h) (Or.inl ⟨by kernel_rfl, ?hys2⟩) hHeld ?rests2
              case hys2 => intro w' hSw; (try dsimp only at hSw); go_simp; try with_reducible rfl
              simp only [Act.put]
              refine wpAnyF_take [13] (by kernel_rfl) (i := 2) (v := ?vs3) rfl (by kernel_rfl) (by kernel_rfl) (by kernel_rfl) (fun _ _ _ h => h) (Or.inl ⟨by kernel_rfl, ?hys3⟩) hHeld ?rests3
              case hys3 => intro w' hSw; (try dsimp only at hSw); go_simp; try with_reducible rfl
              simp only [Act.put]
              refine wpAnyF_take [13] (by kernel_rfl) (i := 3) (v := ?vs4) rfl (by kernel_rfl) (by kernel_rfl) (by kernel_rfl) (fun _ _ _ h => h) (Or.inl ⟨by kernel_rfl, ?hys4⟩) hHeld ?rests4
              case hys4 => intro w' hSw; (try dsimp only at hSw); go_simp; try with_reducible rfl
              simp only [Act.put]
              refine wpAnyF_take [13] (by kernel_rfl) (i := 4) (v := ?vs5) rfl (by kernel_rfl) (by kernel_rfl) (by kernel_rfl) (fun _ _ _ h => h) (Or.inl ⟨by kernel_rfl, ?hys5⟩) hHeld ?rests5
              case hys5 => intro w' hSw; (try dsimp only at hSw); go_simp; try with_reducible rfl
              simp only [Act.put]
              refine wpAnyF_take [13] (by kernel_rfl) (i := 5) (v := ?vs6) rfl (by kernel_rfl) (by kernel_rfl) (by kernel_rfl) (fun _ _ _ h => h) (Or.inl ⟨by kernel_rfl, ?hys6⟩) hHeld ?rests6
              case hys6 => intro w' hSw; (try dsimp only at hSw); go_simp; try with_reducible rfl
              simp only [Act.put]
              refine wpAnyF_take [13] (by kernel_rfl) (i := 6) (v := ?vs7) rfl (by kernel_rfl) (by kernel_rfl) (by kernel_rfl) (fun _ _ _ h => h) (Or.inl ⟨by kernel_rfl, ?hys7⟩) hHeld ?rests7
              case hys7 => intro w' hSw; (try dsimp only at hSw); go_simp; try with_reducible rfl
              simp only [Act.put]
              refine wpAnyF_take [13] (by kernel_rfl) (i := 7) (v := ?vs8) rfl (by kernel_rfl) (by kernel_rfl) (by kernel_rfl) (fun _ _ _ h => h) (Or.inl ⟨by kernel_rfl, ?hys8⟩) hHeld ?rests8
              case hys8 => intro w' hSw; (try dsimp only at hSw); go_simp; try with_reducible rfl
              simp only [Act.put]
              refine wpAnyF_take [13] (by kernel_rfl) (i := 8) (v := ?vs9) rfl (by kernel_rfl) (by kernel_rfl) (by kernel_rfl) (fun _ _ _ h => h) (Or.inl ⟨by kernel_rfl, ?hys9⟩) hHeld ?rests9
              case hys9 => intro w' hSw; (try dsimp only at hSw); go_simp; try with_reducible rfl
              simp only [Act.put]
              refine wpAnyF_take [13] (by kernel_rfl) (i := 9) (v := ?vs10) rfl (by kernel_rfl) (by kernel_rfl) (by kernel_rfl) (fun _ _ _ h => h) (Or.inl ⟨by kernel_rfl, ?hys10⟩) hHeld ?rests10
              case hys10 => intro w' hSw; (try dsimp only at hSw); go_simp; try with_reducible rfl
              simp only [Act.put]
              refine wpAnyF_take [13] (by kernel_rfl) (i := 10) (v := ?vs11) rfl (by kernel_rfl) (by kernel_rfl) (by kernel_rfl) (fun _ _ _ h => h) (Or.inl ⟨by kernel_rfl, ?hys11⟩) hHeld ?rests11
              case hys11 => intro w' hSw; (try dsimp only at hSw); go_simp; try with_reducible rfl
              simp only [Act.put]
              refine wpAnyF_ready (rs := [11, 12]) (by kernel_rfl) (by simp) ?_
              refine AllReadyF.cons rfl (fun K hK => ?_) ?_
              · go_simp
                refine (HCs.out _).mono ?_
                rintro e w5 ⟨rfl, hB5⟩
                dsimp only
                have b45 : Below w4.heap.size w4 w5 := below_to ((Below.refl w4.heap.size w4).drew) hB5
                have HB45 := hide_ b45
                have hg5 : w4.heap.size ≤ w5.heap.size := b45.size
                clear hB5 b45
                refine hK.out _ _ (HSS.out _ HB45.out) (fun hHeld => ?_)
                clear hK K
                refine wpAnyF_ready (rs := [12]) (by kernel_rfl) (by simp) ?_
                refine AllReadyF.cons rfl (fun K hK => ?_) AllReadyF.nil
                go_simp
                have k6 := Blk.newA w5 #[.int .i64 sa, .bool sv, .int .i64 ss] 51
                have b56 := below1 w5 (.cells #[.int .i64 0, .bool false, .int .i64 0] 51)
                have b46 := below_to HB45.out (below1 w5 (.cells #[.int .i64 sa, .bool sv, .int .i64 ss] 51))
                have HB56 := hide_ (below_to HB45.out b56)
                obtain ⟨w6, hw6⟩ : ∃ wx, wx = w5.alloc (.cells #[.int .i64 sa, .bool sv, .int .i64 ss] 51) := ⟨_, rfl⟩
                rw [← hw6] at k6 b46
                obtain ⟨gS, hgS⟩ : ∃ g, w5.heap.size = g := ⟨_, rfl⟩
                have hgl : w4.heap.size ≤ gS := by rw [← hgS]; exact hg5
                rw [hgS] at k6
                have K6 := hide_ k6
                have HB6 := hide_ b46
                have Hgs := hide_ hgS
                clear k6 b56 b46 hgS
                refine hK.out _ _ (HSS.out _ HB56.out) (fun hHeld => ?_)
                clear hK K
                refine wpAnyF_ready (rs := [13]) (by kernel_rfl) (by simp) ?_
                refine AllReadyF.last rfl (fun K hK => ?_)
                simp only [slv]
                go_simp
                refine hK.out _ _ ?_
                clear hK K
                refine wpAnyF_done (by kernel_rfl) ?_ _
                rw [← hw6]
                have hgS := Hgs.out
                try rw [hgS]
                clear hw6 hgS Hgs HSS hHeld HCs
                have HS6 := hide_ (HSr.out.later HB6.out)
                obtain ⟨g, cap, w7, hrun, hb7, hS7, hk7⟩ := HS6.out.step ⟨sa, sv, ss⟩ (by omega) K6.out (fun e => by have := Hlt.out _ e; omega)
                have HRun := hide_ hrun
                have z1 := HS6.out.out.cell 1
                have s0 := K6.out.cell 0; have s1 := K6.out.cell 1; have s2 := K6.out.cell 2
                have v1 := hb7.cell 1
                have vf := fun i => hb7.frozen i
                simp at z1 s0 s1 s2 v1
                obtain ⟨w8, hw8⟩ : ∃ wx, wx = w7.setCell ⟨q + 1, 1, none⟩ (.slice (some ⟨g, 0, none⟩) (l.length + 1) cap) := ⟨_, rfl⟩
                rw [← hw8] at hS7 hk7
                have HS8 := hide_ hS7
                have HK8 := hide_ hk7
                have a2 := hk7.cell 2
                have b0 := hS7.out.cell 0
                have bf := fun i => HS8.out.out.frozen i
                simp [slc] at a2 b0
                have HS9 := hide_ (HS8.out.size pz)
                clear hrun hb7 hS7 hk7
                go_upto_region 18 with (first | (at_builtin; refine wpList_append_run rfl (.tmp 61) (.tmp 63) 47 47 rfl rfl rfl HRun.out ?_; clear HRun) | fail)
                rw [← hw8]
                clear hw8
                go_wp2_with fail
                refine (HCt.out _).mono ?_
                rintro e w9 ⟨rfl, rfl⟩
                go_wp2_with fail
                go_roundw
                case rel => exact ⟨m + 1, pz, _, l ++ [⟨sa, sv, ss⟩], by omega, by go_num, HSc, HS9⟩
                case measure => simp [intOf]; omega
              refine AllReadyF.cons rfl (fun K hK => ?_) AllReadyF.nil
              go_simp
              refine hK.out _ _ (HSS.out _ (below_to ((Below.refl w4.heap.size w4).drew) (below1 w4.drew _))) (fun hHeld => ?_)
              clear hK K
              refine wpAnyF_ready (rs := [11]) (by kernel_rfl) (by simp) ?_
              refine AllReadyF.cons rfl (fun K hK => ?_) AllReadyF.nil
              go_simp
              refine (HCs.out _).mono ?_
              rintro e w5 ⟨rfl, hB5⟩
              dsimp only
              have b45 : Below w4.heap.size w4 w5 := below_to (below_to ((Below.refl w4.heap.size w4).drew) (below1 w4.drew _)) hB5
              have k5 : Blk w5 w4.heap.size 51 [.int .i64 0, .bool false, .int .i64 0] := (Blk.newA w4.drew #[.int .i64 0, .bool false, .int .i64 0] 51).later hB5
              have HB45 := hide_ b45
              have f5 := fun i => k5.frozen i
              have c50 := k5.cell 0; have c51 := k5.cell 1; have c52 := k5.cell 2
              simp at c50 c51 c52
              obtain ⟨w6, hw6⟩ : ∃ wx, wx = ((w5.setCell ⟨w4.heap.size, 0, none⟩ (.int .i64 sa)).setCell ⟨w4.heap.size, 1, none⟩ (.bool sv)).setCell ⟨w4.heap.size, 2, none⟩ (.int .i64 ss) := ⟨_, rfl⟩
              have k6 := wr3 k5 (.int .i64 sa) (.bool sv) (.int .i64 ss)
              have b46 := below_wr3 b45 w4.heap.size (Nat.le_refl _) (.int .i64 sa) (.bool sv) (.int .i64 ss)
              rw [← hw6] at k6 b46
              obtain ⟨gS, hgS⟩ : ∃ g, w4.heap.size = g := ⟨_, rfl⟩
              have hgl : w4.heap.size ≤ gS := Nat.le_of_eq hgS
              rw [hgS] at k6
              have K6 := hide_ k6
              have HB6 := hide_ b46
              have Hgs := hide_ hgS
              clear b45 hB5 k5 k6 b46 hgS
              refine hK.out _ _ (HSS.out _ HB45.out) (fun hHeld => ?_)
              clear hK K
              refine wpAnyF_ready (rs := [13]) (by kernel_rfl) (by simp) ?_
              refine AllReadyF.last rfl (fun K hK => ?_)
              simp only [slv]
              go_simp
              refine hK.out _ _ ?_
              clear hK K
              refine wpAnyF_done (by kernel_rfl) ?_ _
              rw [← hw6]
              have hgS := Hgs.out
              try rw [hgS]
              clear hw6 hgS Hgs HSS hHeld HCs
              have HS6 := hide_ (HSr.out.later HB6.out)
              obtain ⟨g, cap, w7, hrun, hb7, hS7, hk7⟩ := HS6.out.step ⟨sa, sv, ss⟩ (by omega) K6.out (fun e => by have := Hlt.out _ e; omega)
              have HRun := hide_ hrun
              have z1 := HS6.out.out.cell 1
              have s0 := K6.out.cell 0; have s1 := K6.out.cell 1; have s2 := K6.out.cell 2
              have v1 := hb7.cell 1
              have vf := fun i => hb7.frozen i
              simp at z1 s0 s1 s2 v1
              obtain ⟨w8, hw8⟩ : ∃ wx, wx = w7.setCell ⟨q + 1, 1, none⟩ (.slice (some ⟨g, 0, none⟩) (l.length + 1) cap) := ⟨_, rfl⟩
              rw [← hw8] at hS7 hk7
              have HS8 := hide_ hS7
              have HK8 := hide_ hk7
              have a2 := hk7.cell 2
              have b0 := hS7.out.cell 0
              have bf := fun i => HS8.out.out.frozen i
              simp [slc] at a2 b0
              have HS9 := hide_ (HS8.out.size pz)
              clear hrun hb7 hS7 hk7
              go_upto_region 18 with (first | (at_builtin; refine wpList_append_run rfl (.tmp 61) (.tmp 63) 47 47 rfl rfl rfl HRun.out ?_; clear HRun) | fail)
              rw [← hw8]
              clear hw8
              go_wp2_with fail
              refine (HCt.out _).mono ?_
              rintro e w9 ⟨rfl, rfl⟩
              go_wp2_with fail
              go_roundw
              case rel => exact ⟨m + 1, pz, _, l ++ [⟨sa, sv, ss⟩], by omega, by go_num, HSc, HS9⟩
              case measure => simp [intOf]; omega
            · obtain rfl : m = ps.length := by omega
              have HYe : Hid (y = ⟨z, l⟩) := hide_ (by have h := HR.out; rw [List.take_length] at h; rw [HYe0.out, h])
              obtain ⟨av2, cv2, hav2, -⟩ := HSr.out.own.row
              subst hav2
              have LS := HSr
              clear HSr HR HYe0
              have o0 := LS.out.out.cell 0; have o1 := LS.out.out.cell 1
              simp at o0 o1
              have hbz : Below wq.heap.size wq w4 := by have := LS.out.below; rw [← HQ.out] at this; exact this
              have HOz := hide_ (HO.out.later hbz)
              have HBz := hide_ (below_to HB.out hbz)
              have hqw : w3.heap.size ≤ q := by rw [← HQ.out]; exact HB.out.size
              obtain ⟨gn, cn, wn, hrun, hOn, hUn, -⟩ := HOz.out.push y (by rw [HYe.out]; exact own_base LS.out.own hqw) (fun p hp k hk hk2 => by
                have h1 := (HO.out.sl p hp).lies hk
                have h2 := LS.out.own.lies hk2
                have := HQ.out
                omega) hPle HBz.out.size
              have HOn := hide_ hOn
              have HBn := hide_ (HBz.out.trans (hUn.below _ HBz.out.size (fun k hk => (HOz.out.lies hk).1)))
              have HSn := hide_ (HS0.out (.slice av2 l.length cv2))
              rw [HYe.out] at hrun
              simp only at hrun
              have HRn := hide_ hrun
              clear hrun hOn hUn HOz HBz hbz
              go_wp2_with (first | (at_builtin; refine wpList_append_run rfl (.tmp 105) (.tmp 107) 38 38 rfl rfl rfl HRn.out ?_; clear HRn) | fail)
              go_roundw
              case rel => exact ⟨_, i + 1, _, rfl, by omega, by go_num, HSn, HOn, HBn⟩
              case measure => simp [intOf]; omega
        · by_cases h4 : k = 4
          · subst h4
            clear h8
            have hel := tyOk_elem HOK1.out (show hasE 4 = true by decide)
            simp only at hel
            obtain ⟨j, hj⟩ : ∃ j : Nat, el = (j : Int) := ⟨el.toNat, by omega⟩
            subst hj
            have hjX : j < X.length := by have := HXlen.out; omega
            have hjT' : (j : Int) < T.length := by omega
            have hxj := exAt_at hjX
            have HXo := hide_ (XOk.at HBd.out (j : Int))
            obtain ⟨bx, ox, hax, hbx, hcx⟩ := HXq.out.open (by omega)
            subst hax
            have HXc : Hid (∀ w', Below wq.heap.size wq w' → ∀ m, m < 4 → w'.cell? ⟨bx, ox + j * 4 + m, none⟩ = (exc (exAt X (j : Int)))[m]?) := hide_ (fun w' hb m hm => (hb.cell (p := ⟨bx, ox + j * 4 + m, none⟩) hbx).trans (hcx j _ hxj m hm))
            obtain ⟨s, hs⟩ : ∃ s, slotP (exAt X (j : Int)) 0 = s := ⟨_, rfl⟩
            have HCs : Hid (∀ w', Calls Try.prog 27 #[.agg #[.bool (exAt X (j : Int)).f, .int .i64 (exAt X (j : Int)).l, .int .i64 (exAt X (j : Int)).m, .int .i64 (exAt X (j : Int)).d], .int .i64 0] w' fun e w2 => e = .returned (slv s) ∧ Below w'.heap.size w' w2) := hide_ (fun w' => by have h := slotR_any (exAt X (j : Int)) 0 w'; rwa [hs] at h)
            have HY4 : Hid (y = ⟨times2 n s.sz, [s]⟩) := hide_ (by rw [← HYd.out, ← hs]; simp [layP])
            have HSb := hide_ (slotP_bd HXo.out 0)
            rw [hs] at HSb
            have hBx : Below wq.heap.size wq wx := by have := HS.out.below; rw [← HQ.out] at this; exact this
            have c0 := HXc.out wx hBx 0 (by decide); have c1 := HXc.out wx hBx 1 (by decide); have c2 := HXc.out wx hBx 2 (by decide); have c3 := HXc.out wx hBx 3 (by decide)
            simp [exc] at c0 c1 c2 c3
            clear hcx hxj hs hBx hjX
            generalize exAt X (j : Int) = xe at *
            obtain ⟨xf, xl, xm, xd⟩ := xe
            simp only at c0 c1 c2 c3 HCs HXc
            obtain ⟨sa, sv, ss⟩ := s
            have hn4 := nOk_n HOK1.out
            simp only at hn4
            have hn1 : 0 < n ∧ n ≤ 1048576 := by omega
            clear hn4
            obtain ⟨pz, hpz⟩ : ∃ pz, times2 n ss = pz := ⟨_, rfl⟩
            have HCt : Hid (∀ w', Calls Try.prog 29 #[.int .i64 n, .int .i64 ss] w' fun e w2 => e = .returned (.int .i64 pz) ∧ w' = w2) := hide_ (fun w' => by have h := timesD_any n ss w' hn1.1 hn1.2 HSb.out.1 HSb.out.2; rwa [hpz] at h)
            have HYe : Hid (y = ⟨pz, [⟨sa, sv, ss⟩]⟩) := hide_ (by rw [HY4.out]; simp only; rw [hpz])
            clear hpz HYd HY4
            go_wp2_with fail
            refine (HCs.out _).mono ?_
            rintro e w4 ⟨rfl, hB4⟩
            have hS4 := HS.out.later hB4
            have kS := Blk.newA w4 #[.int .i64 sa, .bool sv, .int .i64 ss] 51
            have hB5 := below1 w4 (.cells #[.int .i64 sa, .bool sv, .int .i64 ss] 51)
            obtain ⟨w5, hw5⟩ : ∃ wx, wx = w4.alloc (.cells #[.int .i64 sa, .bool sv, .int .i64 ss] 51) := ⟨_, rfl⟩
            rw [← hw5] at kS hB5
            have HS5 := hide_ (hS4.later hB5)
            obtain ⟨g, cap, w6, hrun, hb6, hS6, hk6⟩ := HS5.out.step ⟨sa, sv, ss⟩ (by decide) kS (by simp [Value.ownBlock])
            have HRun := hide_ hrun
            have HS6 := hide_ hS6
            have HK6 := hide_ hk6
            have z1 := HS5.out.out.cell 1
            have s0 := kS.cell 0; have s1 := kS.cell 1; have s2 := kS.cell 2
            have v1 := hb6.cell 1
            have vf := fun i => hb6.frozen i
            simp at z1 s0 s1 s2 v1
            simp only [slv]
            clear kS hB5 t0 t1 t2 t3 u0 u1 c0 c1 c2 c3 hrun hb6 hS6 hk6 hS4 hB4
            go_upto_region 21 with fail
            rw [← hw5]
            clear hw5
            obtain ⟨w7, hw7⟩ : ∃ wx, wx = w6.setCell ⟨q + 1, 1, none⟩ (.slice (some ⟨g, 0, none⟩) 1 cap) := ⟨_, rfl⟩
            have HS7 : Hid (LyR wq w7 q [.int .i64 4, .int .i64 n, .int .i64 (j : Int), .slice va ps.length vc] 0 (.slice (some ⟨g, 0, none⟩) 1 cap) [⟨sa, sv, ss⟩]) := hide_ (by rw [hw7]; exact HS6.out)
            have HK7 : Hid (Blk w7 w4.heap.size 51 [.int .i64 sa, .bool sv, .int .i64 ss]) := hide_ (by rw [hw7]; exact HK6.out)
            have a1 := HS7.out.ty.cell 1
            have a2 := HK7.out.cell 2
            have b0 := HS7.out.out.cell 0
            have bf := fun i => HS7.out.out.frozen i
            simp at a1 a2 b0
            clear HS6 HK6
            go_upto_region 22 with (first | (at_builtin; refine wpList_append_run rfl (.tmp 81) (.tmp 83) 47 47 rfl rfl rfl HRun.out ?_; clear HRun) | fail)
            rw [← hw7]
            clear hw7
            obtain ⟨w8, hw8⟩ : ∃ wx, wx = w7.setCell ⟨q + 1, 0, none⟩ (.int .i64 pz) := ⟨_, rfl⟩
            have LS : Hid (LyR wq w8 q [.int .i64 4, .int .i64 n, .int .i64 (j : Int), .slice va ps.length vc] pz (.slice (some ⟨g, 0, none⟩) 1 cap) [⟨sa, sv, ss⟩]) := hide_ (by rw [hw8]; exact HS7.out.size pz)
            go_wp2_with fail
            refine (HCt.out _).mono ?_
            rintro e w9 ⟨rfl, rfl⟩
            go_upto_region 25 with fail
            rw [← hw8]
            clear hw8 a1 a2 b0 bf z1 s0 s1 s2 v1 vf
            have o0 := LS.out.out.cell 0; have o1 := LS.out.out.cell 1
            simp at o0 o1
            have hbz : Below wq.heap.size wq w8 := by have := LS.out.below; rw [← HQ.out] at this; exact this
            have HOz := hide_ (HO.out.later hbz)
            have HBz := hide_ (below_to HB.out hbz)
            have hqw : w3.heap.size ≤ q := by rw [← HQ.out]; exact HB.out.size
            obtain ⟨gn, cn, wn, hrun, hOn, hUn, -⟩ := HOz.out.push y (by rw [HYe.out]; exact own_base LS.out.own hqw) (fun p hp k hk hk2 => by
              have h1 := (HO.out.sl p hp).lies hk
              have h2 := LS.out.own.lies hk2
              have := HQ.out
              omega) hPle HBz.out.size
            have HOn := hide_ hOn
            have HBn := hide_ (HBz.out.trans (hUn.below _ HBz.out.size (fun k hk => (HOz.out.lies hk).1)))
            have HSn := hide_ (HS0.out (.slice (some ⟨g, 0, none⟩) 1 cap))
            rw [HYe.out] at hrun
            simp only at hrun
            have HRn := hide_ hrun
            clear hrun hOn hUn HOz HBz hbz
            go_wp2_with (first | (at_builtin; refine wpList_append_run rfl (.tmp 105) (.tmp 107) 38 38 rfl rfl rfl HRn.out ?_; clear HRn) | fail)
            go_roundw
            case rel => exact ⟨_, i + 1, _, rfl, by omega, by go_num, HSn, HOn, HBn⟩
            case measure => simp [intOf]; omega
          · by_cases h5 : k = 5
            · subst h5
              clear h8 h4
              have hel := tyOk_elem HOK1.out (show hasE 5 = true by decide)
              simp only at hel
              obtain ⟨j, hj⟩ : ∃ j : Nat, el = (j : Int) := ⟨el.toNat, by omega⟩
              subst hj
              have hjX : j < X.length := by have := HXlen.out; omega
              have hjT' : (j : Int) < T.length := by omega
              have hxj := exAt_at hjX
              have HXo := hide_ (XOk.at HBd.out (j : Int))
              obtain ⟨bx, ox, hax, hbx, hcx⟩ := HXq.out.open (by omega)
              subst hax
              have HXc : Hid (∀ w', Below wq.heap.size wq w' → ∀ m, m < 4 → w'.cell? ⟨bx, ox + j * 4 + m, none⟩ = (exc (exAt X (j : Int)))[m]?) := hide_ (fun w' hb m hm => (hb.cell (p := ⟨bx, ox + j * 4 + m, none⟩) hbx).trans (hcx j _ hxj m hm))
              obtain ⟨s, hs⟩ : ∃ s, slotP (exAt X (j : Int)) 0 = s := ⟨_, rfl⟩
              have HCs : Hid (∀ w', Calls Try.prog 27 #[.agg #[.bool (exAt X (j : Int)).f, .int .i64 (exAt X (j : Int)).l, .int .i64 (exAt X (j : Int)).m, .int .i64 (exAt X (j : Int)).d], .int .i64 0] w' fun e w2 => e = .returned (slv s) ∧ Below w'.heap.size w' w2) := hide_ (fun w' => by have h := slotR_any (exAt X (j : Int)) 0 w'; rwa [hs] at h)
              have HYe : Hid (y = ⟨0, [s]⟩) := hide_ (by rw [← HYd.out, ← hs]; simp [layP])
              have HSb := hide_ (slotP_bd HXo.out 0)
              rw [hs] at HSb
              have hBx : Below wq.heap.size wq wx := by have := HS.out.below; rw [← HQ.out] at this; exact this
              have c0 := HXc.out wx hBx 0 (by decide); have c1 := HXc.out wx hBx 1 (by decide); have c2 := HXc.out wx hBx 2 (by decide); have c3 := HXc.out wx hBx 3 (by decide)
              simp [exc] at c0 c1 c2 c3
              clear hcx hxj hs hBx hjX
              generalize exAt X (j : Int) = xe at *
              obtain ⟨xf, xl, xm, xd⟩ := xe
              simp only at c0 c1 c2 c3 HCs HXc
              obtain ⟨sa, sv, ss⟩ := s
              clear HYd
              have HSS : Hid (∀ w', Below wx.heap.size wx w' → w'.cell? ⟨q + 1, 1, none⟩ = some (.slice none 0 0) ∧ w'.cell? ⟨q, 2, none⟩ = some (.int .i64 (j : Int)) ∧ w'.cell? ⟨bx, ox + j * 4, none⟩ = some (.bool xf) ∧ w'.cell? ⟨bx, ox + j * 4 + 1, none⟩ = some (.int .i64 xl) ∧ w'.cell? ⟨bx, ox + j * 4 + 2, none⟩ = some (.int .i64 xm) ∧ w'.cell? ⟨bx, ox + j * 4 + 3, none⟩ = some (.int .i64 xd)) := hide_ (fun w' hb => by
                have h := HS.out.later hb
                have hw : Below wq.heap.size wq w' := by have := h.below; rw [← HQ.out] at this; exact this
                have c0 := HXc.out w' hw 0 (by decide); have c1 := HXc.out w' hw 1 (by decide); have c2 := HXc.out w' hw 2 (by decide); have c3 := HXc.out w' hw 3 (by decide)
                simp [exc] at c0 c1 c2 c3
                have u := h.out.cell 1
                have t := h.ty.cell 2
                simp at u t
                exact ⟨u, t, c0, c1, c2, c3⟩)
              clear t1 t2 t3 u0 u1 c0 c1 c2 c3
              go_upto_region 24 with fail
              refine wp_region_last 11 (fun w' => w'.cell? ⟨q + 1, 1, none⟩ = some (.slice none 0 0) ∧ w'.cell? ⟨q, 2, none⟩ = some (.int .i64 (j : Int)) ∧ w'.cell? ⟨bx, ox + j * 4, none⟩ = some (.bool xf) ∧ w'.cell? ⟨bx, ox + j * 4 + 1, none⟩ = some (.int .i64 xl) ∧ w'.cell? ⟨bx, ox + j * 4 + 2, none⟩ = some (.int .i64 xm) ∧ w'.cell? ⟨bx, ox + j * 4 + 3, none⟩ = some (.int .i64 xd)) (by kernel_rfl) (HSS.out _ ((Below.refl wx.heap.size wx).drew)) (fun hHeld => ?_)
              refine wpAnyF_take [11] (by kernel_rfl) (i := 0) (v := ?vg1) rfl (by kernel_rfl) (by kernel_rfl) (by kernel_rfl) (fun _ _ _ h => h) (Or.inl ⟨by kernel_rfl, ?hyg1⟩) hHeld ?restg1
              case hyg1 => intro w' hSw; (try dsimp only at hSw); go_simp; try with_reducible rfl
              simp only [Act.put]
              refine wpAnyF_take [11] (by kernel_rfl) (i := 1) (v := ?vg2) rfl (by kernel_rfl) (by kernel_rfl) (by kernel_rfl) (fun _ _ _ h => h) (Or.inl ⟨by kernel_rfl, ?hyg2⟩) hHeld ?restg2
              case hyg2 => intro w' hSw; (try dsimp only at hSw); go_simp; try with_reducible rfl
              simp only [Act.put]
              refine wpAnyF_take [11] (by kernel_rfl) (i := 2) (v := ?vg3) rfl (by kernel_rfl) (by kernel_rfl) (by kernel_rfl) (fun _ _ _ h => h) (Or.inl ⟨by kernel_rfl, ?hyg3⟩) hHeld ?restg3
              case hyg3 => intro w' hSw; (try dsimp only at hSw); go_simp; try with_reducible rfl
              simp only [Act.put]
              refine wpAnyF_take [11] (by kernel_rfl) (i := 3) (v := ?vg4) rfl (by kernel_rfl) (by kernel_rfl) (by kernel_rfl) (fun _ _ _ h => h) (Or.inl ⟨by kernel_rfl, ?hyg4⟩) hHeld ?restg4
              case hyg4 => intro w' hSw; (try dsimp only at hSw); go_simp; try with_reducible rfl
              simp only [Act.put]
              refine wpAnyF_take [11] (by kernel_rfl) (i := 4) (v := ?vg5) rfl (by kernel_rfl) (by kernel_rfl) (by kernel_rfl) (fun _ _ _ h => h) (Or.inl ⟨by kernel_rfl, ?hyg5⟩) hHeld ?restg5
              case hyg5 => intro w' hSw; (try dsimp only at hSw); go_simp; try with_reducible rfl
              simp only [Act.put]
              refine wpAnyF_take [11] (by kernel_rfl) (i := 5) (v := ?vg6) rfl (by kernel_rfl) (by kernel_rfl) (by kernel_rfl) (fun _ _ _ h => h) (Or.inl ⟨by kernel_rfl, ?hyg6⟩) hHeld ?restg6
              case hyg6 => intro w' hSw; (try dsimp only at hSw); go_simp; try with_reducible rfl
              simp only [Act.put]
              refine wpAnyF_take [11] (by kernel_rfl) (i := 6) (v := ?vg7) rfl (by kernel_rfl) (by kernel_rfl) (by kernel_rfl) (fun _ _ _ h => h) (Or.inl ⟨by kernel_rfl, ?hyg7⟩) hHeld ?restg7
              case hyg7 => intro w' hSw; (try dsimp only at hSw); go_simp; try with_reducible rfl
              simp only [Act.put]
              refine wpAnyF_ready (rs := [7]) (by kernel_rfl) (by simp) ?_
              refine AllReadyF.cons rfl (fun K hK => ?_) AllReadyF.nil
              go_simp
              refine (HCs.out _).mono ?_
              rintro e w4 ⟨rfl, hB4⟩
              dsimp only
              have HB4 : Hid (Below wx.heap.size wx w4) := hide_ (below_to ((Below.refl wx.heap.size wx).drew) hB4)
              have HS4 := hide_ (HS.out.later HB4.out)
              obtain ⟨g, cap, w6, hrun, hb6, hS6, hU6, -⟩ := HS4.out.push ⟨sa, sv, ss⟩ (by decide)
              have HRun := hide_ hrun
              have LS0 := hide_ hS6
              have v1 := hb6.cell 1
              have vf := fun i => hb6.frozen i
              simp at v1
              have HB6 : Hid (Below wx.heap.size wx w6) := hide_ (HB4.out.trans (hU6.below _ HB4.out.size (fun k hk => by simp [Value.ownBlock] at hk)))
              clear hrun hb6 hS6 hB4
              refine hK.out _ _ (HSS.out _ HB4.out) (fun hHeld => ?_)
              clear hK K
              refine wpAnyF_ready (rs := [8]) (by kernel_rfl) (by simp) ?_
              refine AllReadyF.cons rfl (fun K hK => ?_) AllReadyF.nil
              simp only [slv]
              go_simp
              refine hK.out _ _ (HSS.out _ (below_to HB4.out (below1 _ _))) (fun hHeld => ?_)
              clear hK K
              refine wpAnyF_ready (rs := [9]) (by kernel_rfl) (by simp) ?_
              refine AllReadyF.cons rfl (fun K hK => ?_) AllReadyF.nil
              refine step_append_run rfl (.tmp 95) (.tmp 102) 47 47 rfl rfl rfl HRun.out ?_
              refine hK.out _ _ (HSS.out _ HB6.out) (fun hHeld => ?_)
              clear hK K
              refine wpAnyF_take [11] (by kernel_rfl) (i := 10) (v := ?vg8) rfl (by kernel_rfl) (by kernel_rfl) (by kernel_rfl) (fun _ _ _ h => h) (Or.inl ⟨by kernel_rfl, ?hyg8⟩) hHeld ?restg8
              case hyg8 => intro w' hSw; (try dsimp only at hSw); go_simp; try with_reducible rfl
              simp only [Act.put]
              refine wpAnyF_ready (rs := [11]) (by kernel_rfl) (by simp) ?_
              refine AllReadyF.last rfl (fun K hK => ?_)
              go_simp
              refine hK.out _ _ ?_
              clear hK K
              refine wpAnyF_done (by kernel_rfl) ?_ _
              clear HSS hHeld HRun HCs HXc
              obtain ⟨w7, hw7⟩ : ∃ wx, wx = w6.setCell ⟨q + 1, 1, none⟩ (.slice (some ⟨g, 0, none⟩) 1 cap) := ⟨_, rfl⟩
              have LS : Hid (LyR wq w7 q [.int .i64 5, .int .i64 n, .int .i64 (j : Int), .slice va ps.length vc] 0 (.slice (some ⟨g, 0, none⟩) 1 cap) [⟨sa, sv, ss⟩]) := hide_ (by rw [hw7]; exact LS0.out)
              rw [← hw7]
              clear hw7 v1 vf LS0
              have o0 := LS.out.out.cell 0; have o1 := LS.out.out.cell 1
              simp at o0 o1
              have hbz : Below wq.heap.size wq w7 := by have := LS.out.below; rw [← HQ.out] at this; exact this
              have HOz := hide_ (HO.out.later hbz)
              have HBz := hide_ (below_to HB.out hbz)
              have hqw : w3.heap.size ≤ q := by rw [← HQ.out]; exact HB.out.size
              obtain ⟨gn, cn, wn, hrun, hOn, hUn, -⟩ := HOz.out.push y (by rw [HYe.out]; exact own_base LS.out.own hqw) (fun p hp k hk hk2 => by
                have h1 := (HO.out.sl p hp).lies hk
                have h2 := LS.out.own.lies hk2
                have := HQ.out
                omega) hPle HBz.out.size
              have HOn := hide_ hOn
              have HBn := hide_ (HBz.out.trans (hUn.below _ HBz.out.size (fun k hk => (HOz.out.lies hk).1)))
              have HSn := hide_ (HS0.out (.slice (some ⟨g, 0, none⟩) 1 cap))
              rw [HYe.out] at hrun
              simp only at hrun
              have HRn := hide_ hrun
              clear hrun hOn hUn HOz HBz hbz
              go_wp2_with (first | (at_builtin; refine wpList_append_run rfl (.tmp 105) (.tmp 107) 38 38 rfl rfl rfl HRn.out ?_; clear HRn) | fail)
              go_roundw
              case rel => exact ⟨_, i + 1, _, rfl, by omega, by go_num, HSn, HOn, HBn⟩
              case measure => simp [intOf]; omega
            · have h8' : (k == 8) = false := by simpa using h8
              have h4' : (k == 4) = false := by simpa using h4
              have h5' : (k == 5) = false := by simpa using h5
              have HYe : Hid (y = ⟨0, []⟩) := hide_ (by rw [← HYd.out]; unfold layP; rw [if_neg h8, if_neg h4, if_neg h5])
              have LS := HS
              clear h8 h4 h5
              have o0 := LS.out.out.cell 0; have o1 := LS.out.out.cell 1
              simp at o0 o1
              have hbz : Below wq.heap.size wq wx := by have := LS.out.below; rw [← HQ.out] at this; exact this
              have HOz := hide_ (HO.out.later hbz)
              have HBz := hide_ (below_to HB.out hbz)
              have hqw : w3.heap.size ≤ q := by rw [← HQ.out]; exact HB.out.size
              obtain ⟨gn, cn, wn, hrun, hOn, hUn, -⟩ := HOz.out.push y (by rw [HYe.out]; exact own_base LS.out.own hqw) (fun p hp k hk hk2 => by
                have h1 := (HO.out.sl p hp).lies hk
                have h2 := LS.out.own.lies hk2
                have := HQ.out
                omega) hPle HBz.out.size
              have HOn := hide_ hOn
              have HBn := hide_ (HBz.out.trans (hUn.below _ HBz.out.size (fun k hk => (HOz.out.lies hk).1)))
              have HSn := hide_ (HS0.out (.slice none 0 0))
              rw [HYe.out] at hrun
              simp only at hrun
              have HRn := hide_ hrun
              clear hrun hOn hUn HOz HBz hbz
              go_wp2_with (first | (at_builtin; refine wpList_append_run rfl (.tmp 105) (.tmp 107) 38 38 rfl rfl rfl HRn.out ?_; clear HRn) | fail)
              go_roundw
              case rel => exact ⟨_, i + 1, _, rfl, by omega, by go_num, HSn, HOn, HBn⟩
              case measure => simp [intOf]; omega
      · obtain rfl : i = T.length := by omega
        have HV : Hid (P.map (·.1) = T.map (layP (extL T))) := hide_ (by have h := HM.out; rw [List.take_length] at h; rw [HXe.out]; exact h)
        have HO2 := hide_ (HO.out.base (Nat.le_trans HB0.out.size hz3))
        go_wp2
        go_ret2
        exact .inr ⟨HOK.out, v, P, rfl, HV.out, HO2.out, below_to HB0.out (below_to HB3.out HB.out)⟩
  · have hE1 : (vE != 0) = true := by simpa using hE0
    have HV : Hid ((chk T R).1 ≠ 0) := hide_ (by rw [HE.out]; exact hE0)
    have HBf := hide_ (below_to HB0.out HB2.out)
    clear hE0
    go_wp2
    go_ret2
    exact .inl ⟨HV.out, rfl, HBf.out⟩
end Go.Proofs.Ytnpkpmbpapekbaa
/- The law's alike, where it says yes. -/
namespace Go.Proofs.Ytnpkpmbpapekbaa
open Go.RowKit
set_option linter.unusedVariables false

/-- Layouts that can be read. -/
def LRd (w : World) (a : Option Addr) (P : List (Ly × Value)) : Prop := GRow 2 lyc w a P ∧ ∀ p ∈ P, ∃ b c, p.2 = .slice b p.1.sl.length c ∧ GRow 3 slc w b p.1.sl
theorem LRd.later {w w' : World} {a : Option Addr} {P : List (Ly × Value)} (h : LRd w a P) (hB : Below w.heap.size w w') : LRd w' a P := ⟨h.1.later hB, fun p hp => by obtain ⟨b, c, e, g⟩ := h.2 p hp; exact ⟨b, c, e, g.later hB⟩⟩
theorem LOwn.rd {w : World} {B : Nat} {v : Value} {P : List (Ly × Value)} (h : LOwn w B v P) : ∃ a c, v = .slice a P.length c ∧ LRd w a P := by
  obtain ⟨a, c, e, -, g⟩ := h.slice
  exact ⟨a, c, e, g, fun p hp => by obtain ⟨b, d, e, -, -, g⟩ := (h.sl p hp).row; exact ⟨b, d, e, g⟩⟩
theorem bne_self3 (x : Int) : (x != x) = false := by simp
set_option maxRecDepth 100000 in
set_option maxHeartbeats 8000000 in
theorem alike_yes (a1 a2 : Option Addr) (c1 c2 n : Nat) (P1 P2 : List (Ly × Value)) (w : World) (hn : n ≤ 9000000000000) (hl1 : Hid (P1.length = n)) (hl2 : Hid (P2.length = n)) (hm : Hid (P1.map (·.1) = P2.map (·.1))) (hs : Hid (∀ p ∈ P1, p.1.sl.length ≤ 64)) (r1 : Hid (LRd w a1 P1)) (r2 : Hid (LRd w a2 P2)) :
    Calls Try.prog 17 #[.slice a1 n c1, .slice a2 n c2] w fun e w' => e = .returned (.bool true) ∧ Below w.heap.size w w' := by
  go_enter Try.func17, Try.ntmps17
  go_wp2_with fail
  go_loopw [5] (fun x5 wr => ∃ i : Nat, i ≤ n ∧ x5 = .int .i64 (i : Int) ∧ Hid (Below w.heap.size w wr)) (fun x5 _ => n - (intOf x5).toNat)
  case atStart => exact ⟨0, Nat.zero_le _, rfl, hide_ (Below.refl _ _)⟩
  case round =>
    obtain ⟨i, hi, rfl, HB⟩ := hrel
    generalize wr = wq at *
    by_cases hlt : i < n
    · have hlt' : (i : Int) < n := by omega
      have h1 : i < P1.length := by have := hl1.out; omega
      have h2 : i < P2.length := by have := hl2.out; omega
      have g1 : P1[i]? = some (P1[i]'h1) := List.getElem?_eq_getElem h1
      have g2 : P2[i]? = some (P2[i]'h2) := List.getElem?_eq_getElem h2
      have hsl := hs.out _ (List.getElem_mem h1)
      have hy : (P1[i]'h1).1 = (P2[i]'h2).1 := by
        have h := congrArg (fun l => l[i]?) hm.out
        simp only [List.getElem?_map, g1, g2, Option.map_some] at h
        injection h
      have R1 := hide_ (r1.out.later HB.out)
      have R2 := hide_ (r2.out.later HB.out)
      obtain ⟨b1, o1, e1, -, k1⟩ := R1.out.1.open (by omega)
      obtain ⟨b2, o2, e2, -, k2⟩ := R2.out.1.open (by omega)
      subst e1 e2
      have q1 := k1 i _ g1
      have q2 := k2 i _ g2
      obtain ⟨as1, cs1, f1, s1⟩ := R1.out.2 _ (List.getElem_mem h1)
      obtain ⟨as2, cs2, f2, s2⟩ := R2.out.2 _ (List.getElem_mem h2)
      generalize P1[i]'h1 = p1 at *
      generalize P2[i]'h2 = p2 at *
      obtain ⟨y1, v1⟩ := p1
      obtain ⟨y2, v2⟩ := p2
      simp only at hy hsl f1 f2 s1 s2
      subst hy f1 f2
      obtain ⟨yz, S⟩ := y1
      simp only at hsl s1 s2
      have x0 := q1 0 (by decide); have x1 := q1 1 (by decide)
      have z0 := q2 0 (by decide); have z1 := q2 1 (by decide)
      simp [lyc] at x0 x1 z0 z1
      have S1 := hide_ s1
      have S2 := hide_ s2
      have hne := bne_self3 yz
      have hne2 := bne_self3 (S.length : Int)
      clear k1 k2 q1 q2 g1 g2 h1 h2 s1 s2 R1 R2
      go_wp2_with fail
      go_quiet (fail)
      have HC : Hid (∀ w', Below wq.heap.size wq w' → w'.cell? ⟨b1, o1 + i * 2, none⟩ = some (.int .i64 yz) ∧ w'.cell? ⟨b1, o1 + i * 2 + 1, none⟩ = some (.slice as1 S.length cs1) ∧ w'.cell? ⟨b2, o2 + i * 2, none⟩ = some (.int .i64 yz) ∧ w'.cell? ⟨b2, o2 + i * 2 + 1, none⟩ = some (.slice as2 S.length cs2)) := hide_ (fun w' hb => ⟨(hb.cell (World.block_lt_of_cell? wq _ x0)).trans x0, (hb.cell (World.block_lt_of_cell? wq _ x1)).trans x1, (hb.cell (World.block_lt_of_cell? wq _ z0)).trans z0, (hb.cell (World.block_lt_of_cell? wq _ z1)).trans z1⟩)
      have HBq := hide_ (below_drewN (Below.refl wq.heap.size wq) nq)
      clear x0 x1 z0 z1
      obtain ⟨x0, x1, z0, z1⟩ := HC.out _ HBq.out
      go_wp2_with fail
      go_loopw [6] (fun x6 wr => ∃ k : Nat, k ≤ S.length ∧ x6 = .int .i64 (k : Int) ∧ Hid (Below wq.heap.size wq wr)) (fun x6 _ => S.length - (intOf x6).toNat)
      case atStart => exact ⟨0, Nat.zero_le _, rfl, HBq⟩
      case round =>
        obtain ⟨k, hk, rfl, HBk⟩ := hrel
        generalize wr = wk at *
        clear x0 x1 z0 z1 HBq
        obtain ⟨x0, x1, z0, z1⟩ := HC.out _ HBk.out
        by_cases hkl : k < S.length
        · have hkl' : (k : Int) < S.length := by omega
          have gs : S[k]? = some (S[k]'hkl) := List.getElem?_eq_getElem hkl
          obtain ⟨d1, t1, e1, -, k1⟩ := (S1.out.later HBk.out).open (by omega)
          obtain ⟨d2, t2, e2, -, k2⟩ := (S2.out.later HBk.out).open (by omega)
          subst e1 e2
          have q1 := k1 k _ gs
          have q2 := k2 k _ gs
          generalize S[k]'hkl = s at *
          obtain ⟨sa, sv, ss⟩ := s
          have m0 := q1 0 (by decide); have m1 := q1 1 (by decide); have m2 := q1 2 (by decide)
          have n0 := q2 0 (by decide); have n1 := q2 1 (by decide); have n2 := q2 2 (by decide)
          simp [slc] at m0 m1 m2 n0 n1 n2
          clear k1 k2 q1 q2 gs
          go_wp2_with fail
          go_quiet (fail)
          have HBz := hide_ (below_drewN HBk.out nq)
          go_wp2_with fail
          go_roundw
          case rel => exact ⟨k + 1, by omega, by go_num, HBz⟩
          case measure => simp [intOf]; omega
        · obtain rfl : k = S.length := by omega
          have HBz := hide_ (below_to HB.out HBk.out)
          go_wp2_with fail
          go_roundw
          case rel => exact ⟨i + 1, by omega, by go_num, HBz⟩
          case measure => simp [intOf]; omega
    · obtain rfl : i = n := by omega
      go_wp2
      go_ret
      exact ⟨rfl, HB.out⟩
end Go.Proofs.Ytnpkpmbpapekbaa
/- LayoutExact: lists of layouts written over, and grown. -/
namespace Go.Proofs.Ytnpkpmbpapekbaa
open Go.RowKit
set_option linter.unusedVariables false

/-- append(v, x), x a struct written out: what v itself holds stays. -/
theorem run_pushK {P : Program} {t B e c n : Nat} {z v : Value} {bytes : Nat} {xs : List Value} (ht : P.underlying t = some (.slice e)) (hinfo : (P.info? e).map (fun i => (i.zero, i.size, i.bytes)) = some (some z, c, bytes)) (hzs : z.cells.size = c) (hc : 0 < c)
    (w : World) (ty : Nat) (hown : w.ownsRow B e c v n xs) (news : List Value) (hl : news.length = c) (hx : ∀ u ∈ news, u.oneCell' = true) (h63 : n + 1 ≤ maxLen) (hb : (n + 1) * bytes ≤ 140737488355328) (hbase : B ≤ w.heap.size) :
    ∃ g cap w', (Builtin.append_ #[t, t] ty #[v, .slice (some ⟨w.heap.size, 0, none⟩) 1 1]).run P (w.alloc (.cells news.toArray e)) = .ok (.slice (some ⟨g, 0, none⟩) (n + 1) cap) w' ∧
      w'.ownsRow B e c (.slice (some ⟨g, 0, none⟩) (n + 1) cap) (n + 1) (xs ++ news) ∧ w'.ownsRow B e c v n xs ∧ Upd (fun k => v.ownBlock = some k) w w' ∧ (v.ownBlock = some g ∨ w.heap.size ≤ g) := by
  rcases hown.2 with ⟨hv, h0⟩ | ⟨g, cap, cur, hv, hbg, hg, hnc, hcm, hcs, htake⟩
  · obtain ⟨g, cap, w', h1, h2, h3, h4⟩ := run_pushS ht hinfo hzs hc w ty hown news hl hx h63 hb hbase
    refine ⟨g, cap, w', h1, h2, ?_, h3, h4⟩
    refine ⟨hown.1, .inl ⟨hv, h0⟩⟩
  · subst hv
    obtain ⟨i0, hi, hz0, hz1, hz2⟩ := info_parts hinfo
    have hsz : (w.alloc (.cells news.toArray e)).heap.size = w.heap.size + 1 := by simp
    have hnew : ∀ j u, news[j]? = some u → (w.alloc (.cells news.toArray e)).cell? ((⟨w.heap.size, 0, none⟩ : Addr).add j) = some u := fun j u hj => by rw [add_none, Nat.zero_add, (Blk.new w news e).cell]; exact hj
    by_cases hr : n + 1 ≤ cap
    · obtain ⟨w', h1, h2, h3⟩ := run_append_fits (P := P) (w.alloc (.cells news.toArray e)) B t ty e i0 c ht hi hz1 g n cap xs (hown.alloc _) ⟨w.heap.size, 0, none⟩ 1 1 news (by omega) hnew hx hr
      refine ⟨g, cap, w', h1, h2, ?_, ((Upd.refl _ w).alloc _).grown h3 (fun k hk => .inl (by rw [← hk]; rfl)), .inl rfl⟩
      obtain ⟨g', cap', ys, e5, q1, q2, q3, q4, q5, q6⟩ := ownS_blk h2 (by omega)
      have e6 : g = g' ∧ cap = cap' := by simpa using e5
      obtain ⟨rfl, rfl⟩ := e6
      have h9 := ownS_of_blk (n := n) (c := c) q6 q1 q4 hnc q3
      have : ys.take (n * c) = xs := by
        have e9 : ys.take (n * c) = (ys.take ((n + 1) * c)).take (n * c) := by rw [List.take_take, Nat.min_eq_left (Nat.mul_le_mul_right _ (by omega))]
        rw [e9, q5, List.take_append_of_le_length (by rw [hown.1]; exact Nat.le_refl _), List.take_of_length_le (by rw [hown.1]; exact Nat.le_refl _)]
      rw [this] at h9
      exact h9
    · have hbk : Blk w g e cur.toList := by unfold Blk; rw [Array.toArray_toList]; exact hg
      have hold : ∀ j u, xs[j]? = some u → (w.alloc (.cells news.toArray e)).cell? ((⟨g, 0, none⟩ : Addr).add j) = some u := fun j u hj => by
        rw [add_none, Nat.zero_add, (hbk.alloc _).cell]
        rw [← htake, List.getElem?_take] at hj
        split at hj
        · exact hj
        · cases hj
      obtain ⟨v', w', h1, h2, h3⟩ := run_append_arg_grows (P := P) (w.alloc (.cells news.toArray e)) t ty e i0 z c bytes ht hi hz0 hz1 hz2 hzs hc ⟨g, 0, none⟩ n cap xs hown.1 hold ⟨w.heap.size, 0, none⟩ 1 1 news (by omega) hnew (by omega) h63 hb
      obtain ⟨g', cap', ys, rfl, q1, q2, q3, q4, q5, q6⟩ := ownS_blk h2 (by omega)
      have hu0 : Upd (fun _ => False) w w' := ((Upd.refl _ w).alloc _).grown h3 (fun k hk => by cases hk)
      refine ⟨g', cap', w', h1, own_base h2 (by omega), ownS_upd hown hu0 (fun _ _ h => h), hu0.mono (fun _ _ h => h.elim), .inr (by omega)⟩
def sm1 : Sl := ⟨-1, false, 0⟩
def sm2 (j : Nat) : Sl := ⟨-2, false, (j : Int)⟩
theorem cellsG_set {α : Type} {c : Nat} {f : α → List Value} (hf : ∀ x, (f x).length = c) : ∀ (l : List α) (i : Nat) (x : α), i < l.length → ∀ m, (cellsG f (l.set i x))[m]? = if i * c ≤ m ∧ m < i * c + c then (f x)[m - i * c]? else (cellsG f l)[m]?
  | [], i, x, h, _ => by simp at h
  | y :: l, 0, x, _, m => by
    have e1 : cellsG f ((y :: l).set 0 x) = f x ++ cellsG f l := by simp [cellsG]
    have e2 : cellsG f (y :: l) = f y ++ cellsG f l := by simp [cellsG]
    rw [e1, e2]
    rcases Nat.lt_or_ge m c with hm | hm
    · rw [if_pos (by omega), List.getElem?_append_left (by rw [hf]; exact hm)]
      simp
    · rw [if_neg (by omega), List.getElem?_append_right (by rw [hf]; exact hm), List.getElem?_append_right (by rw [hf]; exact hm), hf, hf]
  | y :: l, i + 1, x, h, m => by
    have ih := cellsG_set hf l i x (by simpa using h) (m - c)
    have e1 : cellsG f ((y :: l).set (i + 1) x) = f y ++ cellsG f (l.set i x) := by simp [cellsG]
    have e2 : cellsG f (y :: l) = f y ++ cellsG f l := by simp [cellsG]
    rw [e1, e2, Nat.add_mul, Nat.one_mul]
    rcases Nat.lt_or_ge m c with hm | hm
    · rw [if_neg (by omega), List.getElem?_append_left (by rw [hf]; exact hm), List.getElem?_append_left (by rw [hf]; exact hm)]
    · rw [List.getElem?_append_right (by rw [hf]; exact hm), List.getElem?_append_right (by rw [hf]; exact hm), hf, ih]
      by_cases hc : i * c + c ≤ m ∧ m < i * c + c + c
      · rw [if_pos hc, if_pos (by omega), show m - c - i * c = m - (i * c + c) by omega]
      · rw [if_neg hc, if_neg (by omega)]
/-- Three cells of a row of slots written over. -/
theorem SOwn.put {w : World} {B g n cap k : Nat} {l : List Sl} (h : SOwn w B (.slice (some ⟨g, 0, none⟩) n cap) l) (hk : k < l.length) (s : Sl) :
    SOwn (((w.setCell ⟨g, k * 3, none⟩ (.int .i64 s.at_)).setCell ⟨g, k * 3 + 1, none⟩ (.bool s.v)).setCell ⟨g, k * 3 + 2, none⟩ (.int .i64 s.sz)) B (.slice (some ⟨g, 0, none⟩) n cap) (l.set k s) := by
  obtain ⟨g', cap', ys, e, hb, hn, hm, hl, ht, hK⟩ := ownS_blk h (by omega)
  have e0 : g = g' ∧ n = l.length ∧ cap = cap' := by simpa using e
  obtain ⟨rfl, rfl, rfl⟩ := e0
  have hK2 := ((hK.set (k * 3) (.int .i64 s.at_)).set (k * 3 + 1) (.bool s.v)).set (k * 3 + 2) (.int .i64 s.sz)
  have h9 := ownS_of_blk (n := l.length) (c := 3) hK2 hb (by simp only [List.length_set]; exact hl) hn hm
  unfold SOwn
  rw [List.length_set]
  have hkl : k * 3 + 3 ≤ l.length * 3 := by omega
  have hyl : l.length * 3 ≤ ys.length := by rw [hl]; exact Nat.mul_le_mul_right _ hn
  have e1 : (((ys.set (k * 3) (.int .i64 s.at_)).set (k * 3 + 1) (.bool s.v)).set (k * 3 + 2) (.int .i64 s.sz)).take (l.length * 3) = cellsG slc (l.set k s) := by
    refine List.ext_getElem? (fun m => ?_)
    rw [cellsG_set slc_len l k s hk m]
    have hys : (ys.take (l.length * 3))[m]? = (cellsG slc l)[m]? := by rw [ht]
    rw [List.getElem?_take] at hys ⊢
    by_cases hmm : m < l.length * 3
    · rw [if_pos hmm] at hys ⊢
      by_cases hr : k * 3 ≤ m ∧ m < k * 3 + 3
      · rw [if_pos hr]
        obtain ⟨d, rfl⟩ : ∃ d, m = k * 3 + d := ⟨m - k * 3, by omega⟩
        have hd : d = 0 ∨ d = 1 ∨ d = 2 := by omega
        rcases hd with rfl | rfl | rfl
        · rw [List.getElem?_set_ne (by omega), List.getElem?_set_ne (by omega), Nat.add_zero, List.getElem?_set_self (by omega), Nat.sub_self]
          rfl
        · rw [List.getElem?_set_ne (by omega), List.getElem?_set_self (by rw [List.length_set]; omega), Nat.add_sub_cancel_left]
          rfl
        · rw [List.getElem?_set_self (by simp only [List.length_set]; omega), Nat.add_sub_cancel_left]
          rfl
      · rw [if_neg hr, List.getElem?_set_ne (by omega), List.getElem?_set_ne (by omega), List.getElem?_set_ne (by omega)]
        exact hys
    · rw [if_neg hmm, if_neg (by omega)]
      rw [if_neg hmm] at hys
      exact hys
  rw [e1] at h9
  exact h9
theorem upd_put3 (w : World) (g a b c : Nat) (x y z : Value) : Upd (fun k => k = g) w (((w.setCell ⟨g, a, none⟩ x).setCell ⟨g, b, none⟩ y).setCell ⟨g, c, none⟩ z) :=
  (((Upd.refl (fun k => k = g) w).set _ _ (.inl rfl)).set _ _ (.inl rfl)).set _ _ (.inl rfl)
theorem pair_at {P : List (Ly × Value)} (h : P.Pairwise (fun p q => ∀ k, p.2.ownBlock = some k → q.2.ownBlock = some k → False)) {i j : Nat} {p q : Ly × Value} (hi : P[i]? = some p) (hj : P[j]? = some q) (hij : i ≠ j) {k : Nat} (h1 : p.2.ownBlock = some k) (h2 : q.2.ownBlock = some k) : False := by
  obtain ⟨li, ei⟩ := List.getElem?_eq_some_iff.1 hi
  obtain ⟨lj, ej⟩ := List.getElem?_eq_some_iff.1 hj
  rw [List.pairwise_iff_getElem] at h
  rcases Nat.lt_or_gt_of_ne hij with hl | hl
  · exact h i j li lj hl k (by rw [ei]; exact h1) (by rw [ej]; exact h2)
  · exact h j i lj li hl k (by rw [ej]; exact h2) (by rw [ei]; exact h1)
/-- A list of layouts whose blocks lie between lo and hi. -/
structure LotL (w : World) (v : Value) (P : List (Ly × Value)) (lo hi : Nat) : Prop where
  own : LOwn w lo v P
  r : ∀ k, v.ownBlock = some k → k < hi
  s : ∀ p ∈ P, ∀ k, p.2.ownBlock = some k → k < hi
theorem LotL.of {w : World} {v : Value} {P : List (Ly × Value)} {lo : Nat} (h : LOwn w lo v P) : LotL w v P lo w.heap.size := ⟨h, fun k hk => (h.lies hk).2, fun p hp k hk => ((h.sl p hp).lies hk).2⟩
theorem LotL.upd {w w' : World} {v : Value} {P : List (Ly × Value)} {lo hi : Nat} {S : Nat → Prop} (h : LotL w v P lo hi) (hu : Upd S w w') (hs : ∀ k, lo ≤ k → k < hi → ¬ S k) : LotL w' v P lo hi :=
  ⟨h.own.upd hu (fun k hk => hs k (h.own.lies hk).1 (h.r k hk)) (fun p hp k hk => hs k ((h.own.sl p hp).lies hk).1 (h.s p hp k hk)), h.r, h.s⟩
theorem LotL.later {w w' : World} {v : Value} {P : List (Ly × Value)} {lo hi : Nat} (h : LotL w v P lo hi) (hB : Below w.heap.size w w') : LotL w' v P lo hi := ⟨h.own.later hB, h.r, h.s⟩
/-- One slot of one list written over. -/
theorem LotL.put {w : World} {v : Value} {P : List (Ly × Value)} {lo hi i k g n cap : Nat} {y : Ly} (h : LotL w v P lo hi) (hi_ : P[i]? = some (y, .slice (some ⟨g, 0, none⟩) n cap)) (hk : k < y.sl.length) (s : Sl) :
    LotL (((w.setCell ⟨g, k * 3, none⟩ (.int .i64 s.at_)).setCell ⟨g, k * 3 + 1, none⟩ (.bool s.v)).setCell ⟨g, k * 3 + 2, none⟩ (.int .i64 s.sz)) v (P.set i (⟨y.sz, y.sl.set k s⟩, .slice (some ⟨g, 0, none⟩) n cap)) lo hi ∧ (lo ≤ g ∧ g < hi) := by
  have hm := List.mem_of_getElem? hi_
  have hil := (List.getElem?_eq_some_iff.1 hi_).1
  have hso := h.own.sl _ hm
  have hu := upd_put3 w g (k * 3) (k * 3 + 1) (k * 3 + 2) (.int .i64 s.at_) (.bool s.v) (.int .i64 s.sz)
  have hgb : (Value.slice (some ⟨g, 0, none⟩) n cap).ownBlock = some g := rfl
  refine ⟨⟨⟨?_, ?_, ?_⟩, h.r, ?_⟩, (hso.lies hgb).1, h.s _ hm g hgb⟩
  · have h1 := ownS_upd h.own.row hu (fun q hq e => h.own.ne hm (e ▸ hgb) hq)
    have e : cellsG lyc (P.set i (⟨y.sz, y.sl.set k s⟩, .slice (some ⟨g, 0, none⟩) n cap)) = cellsG lyc P := by
      refine List.ext_getElem? (fun m => ?_)
      rw [cellsG_set lyc_len P i _ hil m]
      split
      · rename_i hr
        rw [show m = i * 2 + (m - i * 2) by omega, cellsG_at lyc_len P i (m - i * 2) _ hi_ (by omega)]
        simp only [Nat.add_sub_cancel_left]
        rfl
      · rfl
    rw [List.length_set, e]
    exact h1
  · intro p hp
    obtain ⟨j, hj⟩ := List.mem_iff_getElem?.1 hp
    by_cases hji : i = j
    · subst hji
      rw [List.getElem?_set_self hil] at hj
      injection hj with hj
      subst hj
      exact hso.put hk s
    · rw [List.getElem?_set_ne hji] at hj
      refine (h.own.sl p (List.mem_of_getElem? hj)).upd hu (fun q hq e => ?_)
      subst e
      exact pair_at h.own.ap hi_ hj hji hgb hq
  · rw [List.pairwise_iff_getElem]
    intro i1 j1 l1 l2 hlt q h1 h2
    have key : ∀ (m : Nat) (hm : m < (P.set i (⟨y.sz, y.sl.set k s⟩, .slice (some ⟨g, 0, none⟩) n cap)).length), ∃ p, P[m]? = some p ∧ p.2 = ((P.set i (⟨y.sz, y.sl.set k s⟩, .slice (some ⟨g, 0, none⟩) n cap))[m]'hm).2 := fun m hm => by
      by_cases hmi : i = m
      · subst hmi
        exact ⟨_, hi_, by simp⟩
      · rw [List.length_set] at hm
        exact ⟨P[m], List.getElem?_eq_getElem hm, by rw [List.getElem_set_ne hmi]⟩
    obtain ⟨p1, a1, b1⟩ := key i1 l1
    obtain ⟨p2, a2, b2⟩ := key j1 l2
    exact pair_at h.own.ap a1 a2 (by omega) (by rw [b1]; exact h1) (by rw [b2]; exact h2)
  · intro p hp q hq
    obtain ⟨j, hj⟩ := List.mem_iff_getElem?.1 hp
    by_cases hji : i = j
    · subst hji
      rw [List.getElem?_set_self hil] at hj
      injection hj with hj
      subst hj
      exact h.s _ hm q hq
    · rw [List.getElem?_set_ne hji] at hj
      exact h.s p (List.mem_of_getElem? hj) q hq
/-! ### Written over, one by one -/
structure Mk (P Q : List (Ly × Value)) (i : Nat) : Prop where
  len : Q.length = P.length
  at_ : ∀ j p q, P[j]? = some p → Q[j]? = some q → q.2 = p.2 ∧ q.1.sl.length = p.1.sl.length ∧ (j < i → q.1.sl = List.replicate p.1.sl.length sm1)
theorem Mk.refl (P : List (Ly × Value)) : Mk P P 0 := ⟨rfl, fun j p q hp hq => by rw [hp] at hq; injection hq with hq; subst hq; exact ⟨rfl, rfl, fun h => by omega⟩⟩
theorem take_set_succ {α : Type} (l : List α) (k : Nat) (s : α) (hk : k < l.length) : (l.set k s).take (k + 1) = l.take k ++ [s] := by
  have h1 : k < (l.set k s).length := by rw [List.length_set]; exact hk
  rw [List.take_succ_eq_append_getElem h1, List.getElem_set_self, List.take_set_of_le (Nat.le_refl k)]
theorem Mk.put {P Q : List (Ly × Value)} {i k : Nat} {y : Ly} {u : Value} (h : Mk P Q i) (hq : Q[i]? = some (y, u)) (hk : k < y.sl.length) (ht : y.sl.take k = List.replicate k sm1) :
    Mk P (Q.set i (⟨y.sz, y.sl.set k sm1⟩, u)) i ∧ (Q.set i (⟨y.sz, y.sl.set k sm1⟩, u))[i]? = some (⟨y.sz, y.sl.set k sm1⟩, u) ∧ (y.sl.set k sm1).take (k + 1) = List.replicate (k + 1) sm1 := by
  have hil := (List.getElem?_eq_some_iff.1 hq).1
  refine ⟨⟨by rw [List.length_set]; exact h.len, fun j p q hp hj => ?_⟩, List.getElem?_set_self hil, ?_⟩
  · by_cases hji : i = j
    · subst hji
      rw [List.getElem?_set_self hil] at hj
      injection hj with hj
      subst hj
      obtain ⟨h1, h2, h3⟩ := h.at_ i p _ hp hq
      exact ⟨h1, by simp only [List.length_set]; exact h2, fun h => by omega⟩
    · rw [List.getElem?_set_ne hji] at hj
      exact h.at_ j p q hp hj
  · rw [take_set_succ _ _ _ hk, ht, List.replicate_succ']
theorem Mk.next {P Q : List (Ly × Value)} {i : Nat} {y : Ly} {u : Value} (h : Mk P Q i) (hq : Q[i]? = some (y, u)) (ht : y.sl.take y.sl.length = List.replicate y.sl.length sm1) : Mk P Q (i + 1) :=
  ⟨h.len, fun j p q hp hj => by
    obtain ⟨h1, h2, h3⟩ := h.at_ j p q hp hj
    refine ⟨h1, h2, fun hlt => ?_⟩
    by_cases hji : j = i
    · subst hji
      rw [hq] at hj
      injection hj with hj
      subst hj
      rw [List.take_length] at ht
      rw [ht, h2]
    · exact h3 (by omega)⟩
/-! ### Grown -/
theorem infoSS : (Try.prog.info? 47).map (fun i => (i.zero, i.size, i.bytes)) = some (some (.slice none 0 0), 1, 24) := by kernel_rfl
structure Gw (w : World) (va vM : Value) (Q : List (Ly × Value)) (lo hi s6 p : Nat) (M : Nat → Value) : Prop where
  a : LotL w va Q lo hi
  rM : RowE 47 s6 w vM p M
  oM : ∀ j q, j < p → Q[j]? = some q → SOwn w lo (M j) (q.1.sl ++ [sm2 j])
  dM : ∀ i j q k, i < p → Q[j]? = some q → i ≠ j → (M i).ownBlock = some k → q.2.ownBlock = some k → False
theorem Gw.begin {w : World} {va : Value} {Q : List (Ly × Value)} {lo hi s6 : Nat} (M : Nat → Value) (h : LotL w va Q lo hi) : Gw w va (.slice none 0 0) Q lo hi s6 0 M :=
  ⟨h, RowE.nil _ _ _ _, fun j q hj => by omega, fun i j q k hi => by omega⟩
theorem RowE.ne {w : World} {B N b : Nat} {v : Value} {F : Nat → Value} {t : TypeId} {e : TypeId} {ys : List Value} (h : RowE e B w v N F) (hb : Blk w b t ys) (ht : t ≠ e) : ¬ v.ownBlock = some b := fun e2 => by
  obtain ⟨zs, hz⟩ := ownS_type h e2
  exact ht (blk_type hb hz)
/-- grown = append(grown, append(a[p].Slots, mark)). -/
theorem Gw.step {w : World} {va vM : Value} {Q : List (Ly × Value)} {lo hi s6 p : Nat} {M : Nat → Value} (h : Gw w va vM Q lo hi s6 p M) {y : Ly} {u : Value} (hq : Q[p]? = some (y, u)) (hn : y.sl.length ≤ 64) (hp : p ≤ 4000000000000) (hlo : lo ≤ w.heap.size) (hs6 : s6 ≤ w.heap.size) :
    ∃ g1 c1 w1, (Builtin.append_ #[47, 47] 47 #[u, .slice (some ⟨w.heap.size, 0, none⟩) 1 1]).run Try.prog (w.alloc (.cells #[.int .i64 (-2), .bool false, .int .i64 (p : Int)] 51)) = .ok (.slice (some ⟨g1, 0, none⟩) (y.sl.length + 1) c1) w1 ∧
      ∃ g2 c2 w2, (Builtin.append_ #[57, 57] 57 #[vM, .slice (some ⟨w1.heap.size, 0, none⟩) 1 1]).run Try.prog (w1.alloc (.cells #[.slice (some ⟨g1, 0, none⟩) (y.sl.length + 1) c1] 47)) = .ok (.slice (some ⟨g2, 0, none⟩) (p + 1) c2) w2 ∧
        Gw w2 va (.slice (some ⟨g2, 0, none⟩) (p + 1) c2) Q lo hi s6 (p + 1) (ext M p (.slice (some ⟨g1, 0, none⟩) (y.sl.length + 1) c1)) ∧ Upd (fun k => (lo ≤ k ∧ k < hi) ∨ s6 ≤ k) w w2 := by
  have hm := List.mem_of_getElem? hq
  have hso : SOwn w lo u y.sl := h.a.own.sl _ hm
  obtain ⟨g1, c1, w1, r1, o1, o2, u1, l1⟩ := run_pushK (P := Try.prog) (t := 47) (e := 51) (c := 3) Try.underlying47 infoS rfl (by decide) w 47 hso (slc (sm2 p)) rfl (fun x hx => by simp [slc] at hx; rcases hx with rfl | rfl | rfl <;> rfl) (by unfold maxLen; omega) (by omega) hlo
  have o1' : SOwn w1 lo (.slice (some ⟨g1, 0, none⟩) (y.sl.length + 1) c1) (y.sl ++ [sm2 p]) := by
    unfold SOwn
    rw [cellsG_app, cellsG_one, List.length_append, List.length_singleton]
    exact o1
  have o2' : SOwn w1 lo u y.sl := o2
  have nt : ∀ {v : Value} {e c n : Nat} {xs : List Value} {B : Nat}, w.ownsRow B e c v n xs → e ≠ 51 → ∀ k, v.ownBlock = some k → ¬ u.ownBlock = some k := fun hh he k hk e2 => by
    obtain ⟨zs, hz⟩ := ownS_type hh hk
    exact hso.ne hz he e2
  have a1 : LotL w1 va Q lo hi := by
    refine ⟨⟨ownS_upd h.a.own.row u1 (fun k hk => nt h.a.own.row (by decide) k hk), fun r hr => ?_, h.a.own.ap⟩, h.a.r, h.a.s⟩
    obtain ⟨j, hj⟩ := List.mem_iff_getElem?.1 hr
    by_cases hjp : j = p
    · subst hjp
      rw [hq] at hj
      injection hj with hj
      subst hj
      exact o2'
    · exact (h.a.own.sl r hr).upd u1 (fun k hk e2 => pair_at h.a.own.ap hj hq hjp hk e2)
  have m1 : ∀ j q, j < p → Q[j]? = some q → SOwn w1 lo (M j) (q.1.sl ++ [sm2 j]) := fun j q hj hqj => (h.oM j q hj hqj).upd u1 (fun k hk e2 => h.dM j p _ k hj hq (by omega) hk e2)
  have rM1 : RowE 47 s6 w1 vM p M := h.rM.upd u1 (fun k hk => nt h.rM (by decide) k hk)
  have hz1 : w.heap.size ≤ w1.heap.size := u1.size
  have rM2 : RowE 47 s6 w1 vM p (ext M p (.slice (some ⟨g1, 0, none⟩) (y.sl.length + 1) c1)) := rM1.congr (fun j hj => (ext_ne _ _ _ _ (by omega)).symm)
  obtain ⟨g2, c2, w2, r2, o3, u2, l2⟩ := rM2.push (P := Try.prog) (t := 57) Try.underlying57 infoSS rfl (by rw [ext_at]; rfl) (by unfold maxLen; omega) (by omega) (by omega) 57
  rw [ext_at] at r2
  have nt2 : ∀ {v : Value} {e c n : Nat} {xs : List Value} {B : Nat}, w1.ownsRow B e c v n xs → e ≠ 47 → ∀ k, v.ownBlock = some k → ¬ vM.ownBlock = some k := fun hh he k hk e2 => by
    obtain ⟨zs, hz⟩ := ownS_type hh hk
    exact rM1.ne hz he e2
  refine ⟨g1, c1, w1, r1, g2, c2, w2, r2, ⟨?_, o3, ?_, ?_⟩, ?_⟩
  · exact ⟨⟨ownS_upd a1.own.row u2 (fun k hk => nt2 a1.own.row (by decide) k hk), fun r hr => (a1.own.sl r hr).upd u2 (fun k hk => nt2 (a1.own.sl r hr) (by decide) k hk), a1.own.ap⟩, a1.r, a1.s⟩
  · intro j q hj hqj
    by_cases hjp : j = p
    · subst hjp
      rw [ext_at]
      rw [hq] at hqj
      injection hqj with hqj
      subst hqj
      exact o1'.upd u2 (fun k hk => nt2 o1' (by decide) k hk)
    · rw [ext_ne _ _ _ _ hjp]
      have := m1 j q (by omega) hqj
      exact this.upd u2 (fun k hk => nt2 this (by decide) k hk)
  · intro i j q k hi2 hqj hij h1 h2
    by_cases hip : i = p
    · subst hip
      rw [ext_at] at h1
      have hg := own_is h1
      subst hg
      rcases l1 with l1 | l1
      · exact pair_at h.a.own.ap hq hqj hij l1 h2
      · have := ((h.a.own.sl q (List.mem_of_getElem? hqj)).lies h2).2
        omega
    · rw [ext_ne _ _ _ _ hip] at h1
      exact h.dM i j q k (by omega) hqj hij h1 h2
  · refine (u1.mono (T := fun k => (lo ≤ k ∧ k < hi) ∨ s6 ≤ k) (fun k _ hk => .inl ⟨(hso.lies hk).1, h.a.s _ hm k hk⟩)).trans u2 (fun k _ hk => .inr (rM1.lt k hk).1)
/-! ### A list of layouts whose rows are written over -/
def z3 : Ly × Value := (⟨-3, []⟩, .slice none 0 0)
theorem row_put {w : World} {B g n cap i : Nat} {Z : List (Ly × Value)} (h : w.ownsRow B 49 2 (.slice (some ⟨g, 0, none⟩) n cap) Z.length (cellsG lyc Z)) (hi : i < Z.length) (p : Ly × Value) :
    ((w.setCell ⟨g, i * 2, none⟩ (.int .i64 p.1.sz)).setCell ⟨g, i * 2 + 1, none⟩ p.2).ownsRow B 49 2 (.slice (some ⟨g, 0, none⟩) n cap) (Z.set i p).length (cellsG lyc (Z.set i p)) := by
  obtain ⟨g', cap', ys, e, hb, hn, hm, hl, ht, hK⟩ := ownS_blk h (by omega)
  have e0 : g = g' ∧ n = Z.length ∧ cap = cap' := by simpa using e
  obtain ⟨rfl, rfl, rfl⟩ := e0
  have hK2 := (hK.set (i * 2) (.int .i64 p.1.sz)).set (i * 2 + 1) p.2
  have h9 := ownS_of_blk (n := Z.length) (c := 2) hK2 hb (by simp only [List.length_set]; exact hl) hn hm
  rw [List.length_set]
  have hyl : Z.length * 2 ≤ ys.length := by rw [hl]; exact Nat.mul_le_mul_right _ hn
  have e1 : ((ys.set (i * 2) (.int .i64 p.1.sz)).set (i * 2 + 1) p.2).take (Z.length * 2) = cellsG lyc (Z.set i p) := by
    refine List.ext_getElem? (fun m => ?_)
    rw [cellsG_set lyc_len Z i p hi m]
    have hys : (ys.take (Z.length * 2))[m]? = (cellsG lyc Z)[m]? := by rw [ht]
    rw [List.getElem?_take] at hys ⊢
    by_cases hmm : m < Z.length * 2
    · rw [if_pos hmm] at hys ⊢
      by_cases hr : i * 2 ≤ m ∧ m < i * 2 + 2
      · rw [if_pos hr]
        obtain ⟨d, rfl⟩ : ∃ d, m = i * 2 + d := ⟨m - i * 2, by omega⟩
        have hd : d = 0 ∨ d = 1 := by omega
        rcases hd with rfl | rfl
        · rw [List.getElem?_set_ne (by omega), Nat.add_zero, List.getElem?_set_self (by omega), Nat.sub_self]
          rfl
        · rw [List.getElem?_set_self (by rw [List.length_set]; omega), Nat.add_sub_cancel_left]
          rfl
      · rw [if_neg hr, List.getElem?_set_ne (by omega), List.getElem?_set_ne (by omega)]
        exact hys
    · rw [if_neg hmm, if_neg (by omega)]
      rw [if_neg hmm] at hys
      exact hys
  rw [e1] at h9
  exact h9
end Go.Proofs.Ytnpkpmbpapekbaa
/- LayoutExact: its walk. -/
namespace Go.Proofs.Ytnpkpmbpapekbaa
open Go.RowKit
set_option linter.unusedVariables false

/-- What Of answers: the layouts and the error. -/
def LA (T : List Ty) (R : List Rt) : List Ly × Int := if (chk T R).1 = 0 then (T.map (layP (extL T)), 0) else ([], 92)
theorem LOfTo.uni {T : List Ty} {R : List Rt} {w w' : World} {e : Ending} (h : LOfTo T R w e w') : ∃ v P, e = .returned (.tuple #[v, .int .i64 (LA T R).2]) ∧ P.map (·.1) = (LA T R).1 ∧ LOwn w' w.heap.size v P ∧ Below w.heap.size w w' := by
  rcases h with ⟨hne, rfl, hB⟩ | ⟨hok, v, P, rfl, hP, hO, hB⟩
  · refine ⟨.slice none 0 0, [], ?_, ?_, LOwn.nil _ _, hB⟩
    · unfold LA; rw [if_neg hne]
    · unfold LA; rw [if_neg hne]; rfl
  · have hc : (chk T R).1 = 0 := by rw [hok.chk]
    refine ⟨v, P, ?_, ?_, hO, hB⟩
    · unfold LA; rw [if_pos hc]
    · unfold LA; rw [if_pos hc]; exact hP
theorem LA_len (T : List Ty) (R : List Rt) : (LA T R).1.length ≤ T.length := by
  unfold LA
  split
  · simp
  · simp
theorem LA_sl (T : List Ty) (R : List Rt) : ∀ y ∈ (LA T R).1, y.sl.length ≤ 64 := by
  unfold LA
  split
  · rename_i h
    have hS := okS_of h
    intro y hy
    simp only [List.mem_map] at hy
    obtain ⟨t, ht, rfl⟩ := hy
    obtain ⟨i, hi⟩ := List.mem_iff_getElem?.1 ht
    have hil := (List.getElem?_eq_some_iff.1 hi).1
    have hok := hS.ty i hil
    rw [show T.getD i ty0 = t by simp [List.getD, hi]] at hok
    exact lay_len hok
  · intro y hy; cases hy
theorem row_addr {w : World} {B e c n cap m : Nat} {a : Option Addr} {xs : List Value} (h : w.ownsRow B e c (.slice a n cap) m xs) (hm : 0 < m) : ∃ g, a = some ⟨g, 0, none⟩ := by
  obtain ⟨g, cap', ys, e, _⟩ := ownS_blk h hm
  injection e with e _ _
  exact ⟨g, e⟩
theorem own_cells {α : Type} {c : Nat} {f : α → List Value} (hf : ∀ x, (f x).length = c) {w : World} {B e g n cap : Nat} {l : List α} (h : w.ownsRow B e c (.slice (some ⟨g, 0, none⟩) n cap) l.length (cellsG f l)) {i : Nat} {x : α} (hx : l[i]? = some x) : (∀ j, j < c → w.cell? ⟨g, i * c + j, none⟩ = (f x)[j]?) ∧ ∀ o, w.frozen? ⟨g, o, none⟩ = false := by
  have hi := (List.getElem?_eq_some_iff.1 hx).1
  obtain ⟨g', cap', ys, e, hb, hn, hm, hl, ht, hK⟩ := ownS_blk h (by omega)
  have e0 : g = g' ∧ n = l.length ∧ cap = cap' := by simpa using e
  obtain ⟨rfl, rfl, rfl⟩ := e0
  refine ⟨fun j hj => ?_, fun o => hK.frozen o⟩
  rw [hK.cell, ← cellsG_at hf l i j x hx hj, ← ht, List.getElem?_take, if_pos]
  have h1 : i * c + c ≤ l.length * c := by rw [← Nat.succ_mul]; exact Nat.mul_le_mul_right c hi
  omega
theorem map_sl {P : List (Ly × Value)} {L : List Ly} (h : P.map (·.1) = L) (hs : ∀ y ∈ L, y.sl.length ≤ 64) : ∀ p ∈ P, p.1.sl.length ≤ 64 := fun p hp => hs _ (by rw [← h]; exact List.mem_map_of_mem hp)
theorem map_n {P : List (Ly × Value)} {L : List Ly} (h : P.map (·.1) = L) : P.length = L.length := by rw [← h]; simp
def z4 : Ly × Value := (⟨-4, []⟩, .slice none 0 0)
def zL (Q : List (Ly × Value)) (i : Nat) : List (Ly × Value) := List.replicate i z3 ++ Q.drop i
theorem zL_len (Q : List (Ly × Value)) {i : Nat} (hi : i ≤ Q.length) : (zL Q i).length = Q.length := by simp [zL]; omega
theorem zL_at (Q : List (Ly × Value)) (i : Nat) : (zL Q i)[i]? = Q[i]? := by
  unfold zL
  rw [List.getElem?_append_right (by simp)]
  simp
theorem zL_set (Q : List (Ly × Value)) {i : Nat} (hi : i < Q.length) : (zL Q i).set i z3 = zL Q (i + 1) := by
  unfold zL
  rw [List.set_append_right _ _ (by simp), List.length_replicate, Nat.sub_self, List.drop_eq_getElem_cons hi, List.set_cons_zero, List.replicate_succ', List.append_assoc]
  rfl
theorem repl_at {n k : Nat} (hk : k < n) : (List.replicate n sm1)[k]? = some sm1 := by simp [hk]
theorem app_at1 {l : List Sl} {s x : Sl} {k : Nat} (h : l[k]? = some s) : (l ++ [x])[k]? = some s := by
  have hk := (List.getElem?_eq_some_iff.1 h).1
  rw [List.getElem?_append_left hk, h]
theorem app_at2 (l : List Sl) (x : Sl) : (l ++ [x])[l.length]? = some x := by simp
set_option maxRecDepth 100000 in
set_option maxHeartbeats 16000000 in
theorem exact_any (a : Option Addr) (c : Nat) (T : List Ty) (ar : Option Addr) (cr : Nat) (R : List Rt) (w : World) (hn : T.length ≤ 3000000000000) (hm : R.length ≤ 10000000000000) (hL : Hid (LensT T)) (hT : Hid (TRow w a T)) (hR : Hid (RRow w ar R)) :
    Calls Try.prog 6 #[.agg #[.slice a T.length c, .slice ar R.length cr]] w fun e w' => e = .returned (.bool true) ∧ Below w.heap.size w w' := by
  have hB := below1 w (.cells #[.slice a T.length c, .slice ar R.length cr] 34)
  have k1 := Blk.newA w #[.slice a T.length c, .slice ar R.length cr] 34
  obtain ⟨w0, hw0⟩ : ∃ wx, wx = w.alloc (.cells #[.slice a T.length c, .slice ar R.length cr] 34) := ⟨_, rfl⟩
  rw [← hw0] at hB k1
  have HB0 := hide_ hB
  have K1 := hide_ k1
  have HAw := hide_ (awake_any w0)
  have hz0 : w.heap.size < w0.heap.size := k1.lt
  obtain ⟨LL, hLL⟩ : ∃ L, LA T R = L := ⟨_, rfl⟩
  have hlen := LA_len T R
  have hsl := LA_sl T R
  rw [hLL] at hlen hsl
  obtain ⟨L, er⟩ := LL
  simp only at hlen hsl
  have HCl : Hid (∀ w', Below w0.heap.size w0 w' → Calls Try.prog 12 #[.agg #[.slice a T.length c, .slice ar R.length cr]] w' fun e w2 => ∃ v P, e = .returned (.tuple #[v, .int .i64 er]) ∧ Hid (P.map (·.1) = L) ∧ Hid (LOwn w2 w'.heap.size v P) ∧ Hid (Below w'.heap.size w' w2)) := hide_ (fun w' hb => by
    have hb2 := below_to HB0.out hb
    refine (lof_any a c T ar cr R w' hn hm hL (hide_ (hT.out.later hb2)) (hide_ (hR.out.later hb2))).mono ?_
    intro e w2 h
    obtain ⟨v, P, h1, h2, h3, h4⟩ := h.uni
    rw [hLL] at h1 h2
    exact ⟨v, P, h1, hide_ h2, hide_ h3, hide_ h4⟩)
  have HCd : Hid (∀ w', Below w0.heap.size w0 w' → Calls Try.prog 16 #[.agg #[.slice a T.length c, .slice ar R.length cr]] w' fun e w2 => ∃ v P, e = .returned (.tuple #[v, .int .i64 er]) ∧ Hid (P.map (·.1) = L) ∧ Hid (LOwn w2 w'.heap.size v P) ∧ Hid (Below w'.heap.size w' w2)) := hide_ (fun w' hb => by
    have hb2 := below_to HB0.out hb
    refine (ofD_any a c T ar cr R w' hn hm hL (hide_ (hT.out.later hb2)) (hide_ (hR.out.later hb2))).mono ?_
    intro e w2 h
    obtain ⟨v, P, h1, h2, h3, h4⟩ := h.uni
    rw [hLL] at h1 h2
    exact ⟨v, P, h1, hide_ h2, hide_ h3, hide_ h4⟩)
  have HBox : Hid (∀ w', Below w0.heap.size w0 w' → w'.cell? ⟨w.heap.size, 0, none⟩ = some (.slice a T.length c) ∧ w'.cell? ⟨w.heap.size, 1, none⟩ = some (.slice ar R.length cr)) := hide_ (fun w' hb => by
    have k := K1.out.later hb
    have i0 := k.cell 0; have i1 := k.cell 1
    simp at i0 i1
    exact ⟨i0, i1⟩)
  obtain ⟨N, hN⟩ : ∃ N, L.length = N := ⟨_, rfl⟩
  rw [hN] at hlen
  have HN := hide_ hN
  have Hsl := hide_ hsl
  have HAl : Hid (∀ (w' : World) (v1 v2 : Value) (P1 P2 : List (Ly × Value)) (B1 B2 : Nat) (a1 a2 : Option Addr) (d1 d2 : Nat), v1 = .slice a1 N d1 → v2 = .slice a2 N d2 → P1.map (·.1) = L → P2.map (·.1) = L → LOwn w' B1 v1 P1 → LOwn w' B2 v2 P2 → Calls Try.prog 17 #[.slice a1 N d1, .slice a2 N d2] w' fun e w2 => e = .returned (.bool true) ∧ Below w'.heap.size w' w2) := hide_ (fun w' v1 v2 P1 P2 B1 B2 a1 a2 d1 d2 e1 e2 m1 m2 o1 o2 => by
    subst e1 e2
    obtain ⟨x1, y1, q1, r1⟩ := o1.rd
    obtain ⟨x2, y2, q2, r2⟩ := o2.rd
    injection q1 with q1 _ _
    injection q2 with q2 _ _
    subst q1 q2
    exact alike_yes a1 a2 d1 d2 N P1 P2 w' (by omega) (hide_ (by rw [map_n m1]; exact HN.out)) (hide_ (by rw [map_n m2]; exact HN.out)) (hide_ (by rw [m1, m2])) (hide_ (map_sl m1 Hsl.out)) (hide_ r1) (hide_ r2))
  have her : (er != er) = false := by simp
  clear hB k1 hLL hsl hN
  go_enter Try.func6, Try.ntmps6
  go_upto_region 1 with fail
  rw [← hw0]
  clear hw0
  go_wp2_with fail
  refine HAw.out.mono ?_
  rintro e w1 ⟨rfl, hB1⟩
  have HB1 := hide_ hB1
  clear hB1 HAw K1
  obtain ⟨i0, i1⟩ := HBox.out w1 HB1.out
  go_wp2_with fail
  refine (HCl.out w1 HB1.out).mono ?_
  rintro e w2 ⟨va, Pa, rfl, HMva, HOva, HBB2⟩
  have HB2 := hide_ (below_to HB1.out HBB2.out)
  have hz2 : w1.heap.size ≤ w2.heap.size := HBB2.out.size
  have Lotva := hide_ (LotL.of HOva.out)
  obtain ⟨ava, cva, eva, -, -⟩ := HOva.out.slice
  rw [map_n HMva.out, HN.out] at eva
  subst eva
  clear i0 i1 HOva
  obtain ⟨i0, i1⟩ := HBox.out w2 HB2.out
  go_wp2_with fail
  refine (HCl.out w2 HB2.out).mono ?_
  rintro e w3 ⟨vb, Pb, rfl, HMvb, HOvb, HBB3⟩
  have HB3 := hide_ (below_to HB2.out HBB3.out)
  have hz3 : w2.heap.size ≤ w3.heap.size := HBB3.out.size
  have Lotvb := hide_ (LotL.of HOvb.out)
  obtain ⟨avb, cvb, evb, -, -⟩ := HOvb.out.slice
  rw [map_n HMvb.out, HN.out] at evb
  subst evb
  clear i0 i1 HOvb
  have Lotva := hide_ (Lotva.out.later HBB3.out)
  obtain ⟨i0, i1⟩ := HBox.out w3 HB3.out
  go_wp2_with fail
  refine (HCd.out w3 HB3.out).mono ?_
  rintro e w4 ⟨vw, Pw, rfl, HMvw, HOvw, HBB4⟩
  have HB4 := hide_ (below_to HB3.out HBB4.out)
  have hz4 : w3.heap.size ≤ w4.heap.size := HBB4.out.size
  have Lotvw := hide_ (LotL.of HOvw.out)
  obtain ⟨avw, cvw, evw, -, -⟩ := HOvw.out.slice
  rw [map_n HMvw.out, HN.out] at evw
  subst evw
  clear i0 i1 HOvw
  have Lotva := hide_ (Lotva.out.later HBB4.out)
  have Lotvb := hide_ (Lotvb.out.later HBB4.out)
  clear HBB2 HBB3 HBB4 HB2 HB3
  go_wp2_with fail
  refine (HAl.out w4 _ _ Pa Pw _ _ _ _ _ _ rfl rfl HMva.out HMvw.out Lotva.out.own Lotvw.out.own).mono ?_
  rintro e w5 ⟨rfl, hB⟩
  have Lotva := hide_ (Lotva.out.later hB)
  have Lotvb := hide_ (Lotvb.out.later hB)
  have Lotvw := hide_ (Lotvw.out.later hB)
  have HB5 := hide_ (below_to HB4.out hB)
  have hz5 : w4.heap.size ≤ w5.heap.size := hB.size
  clear hB HB4
  go_wp2_with fail
  refine (HAl.out w5 _ _ Pb Pw _ _ _ _ _ _ rfl rfl HMvb.out HMvw.out Lotvb.out.own Lotvw.out.own).mono ?_
  rintro e w6 ⟨rfl, hB⟩
  have Lotva := hide_ (Lotva.out.later hB)
  have Lotvb := hide_ (Lotvb.out.later hB)
  have Lotvw := hide_ (Lotvw.out.later hB)
  have HB6 := hide_ (below_to HB5.out hB)
  have hz6 : w5.heap.size ≤ w6.heap.size := hB.size
  have hz1 : w0.heap.size ≤ w1.heap.size := HB1.out.size
  have HPn : Hid (Pa.length = N) := hide_ (by rw [map_n HMva.out]; exact HN.out)
  have HPs : Hid (∀ p ∈ Pa, p.1.sl.length ≤ 64) := hide_ (map_sl HMva.out Hsl.out)
  clear hB HB5
  go_wp2_with fail
  go_loopw [9] (fun x9 wr => ∃ (i : Nat) (Q : List (Ly × Value)), i ≤ N ∧ x9 = .int .i64 (i : Int) ∧ Hid (Mk Pa Q i) ∧ Hid (LotL wr (.slice ava N cva) Q w1.heap.size w2.heap.size) ∧ Hid (Upd (fun k => w1.heap.size ≤ k ∧ k < w2.heap.size) w6 wr)) (fun x9 _ => N - (intOf x9).toNat)
  case atStart => exact ⟨0, Pa, Nat.zero_le _, rfl, hide_ (Mk.refl _), Lotva, hide_ (Upd.refl _ _)⟩
  case round =>
    obtain ⟨i, Q, hi, rfl, HMk, HLq, HUq⟩ := hrel
    generalize wr = wq at *
    by_cases hlt : i < N
    · have hlt' : (i : Int) < N := by omega
      have hQl : i < Q.length := by rw [HMk.out.len, HPn.out]; exact hlt
      have hQi : Q[i]? = some (Q[i]'hQl) := List.getElem?_eq_getElem hQl
      have hPi : Pa[i]? = some (Pa[i]'(by rw [HPn.out]; exact hlt)) := List.getElem?_eq_getElem _
      have hsl1 : (Q[i]'hQl).1.sl.length ≤ 64 := by
        rw [(HMk.out.at_ i _ _ hPi hQi).2.1]
        exact HPs.out _ (List.getElem_mem _)
      obtain ⟨gA, hgA⟩ := row_addr HLq.out.own.row (by omega)
      subst hgA
      generalize Q[i]'hQl = q at *
      obtain ⟨y, u⟩ := q
      simp only at hsl1
      obtain ⟨au, cu, hu, -, -, -⟩ := (HLq.out.own.sl _ (List.mem_of_getElem? hQi)).row
      simp only at hu
      obtain ⟨n, hn1⟩ : ∃ n, y.sl.length = n := ⟨_, rfl⟩
      rw [hn1] at hu hsl1
      subst hu
      have hc := own_cells lyc_len HLq.out.own.row hQi
      have x1 := hc.1 1 (by decide)
      simp [lyc] at x1
      have HQi := hide_ hQi
      have HN1 := hide_ hn1
      clear hQi hPi hQl hc hn1
      go_wp2_with fail
      go_loopw [10] (fun x10 wr => ∃ (k : Nat) (y2 : Ly) (Q2 : List (Ly × Value)), k ≤ n ∧ x10 = .int .i64 (k : Int) ∧ Hid (Mk Pa Q2 i) ∧ Hid (Q2[i]? = some (y2, .slice au n cu)) ∧ Hid (y2.sl.length = n) ∧ Hid (y2.sl.take k = List.replicate k sm1) ∧ Hid (LotL wr (.slice (some ⟨gA, 0, none⟩) N cva) Q2 w1.heap.size w2.heap.size) ∧ Hid (Upd (fun k => w1.heap.size ≤ k ∧ k < w2.heap.size) w6 wr)) (fun x10 _ => n - (intOf x10).toNat)
      case atStart => exact ⟨0, y, Q, Nat.zero_le _, rfl, HMk, HQi, HN1, hide_ (by simp), HLq, HUq⟩
      case round =>
        obtain ⟨k, y2, Q2, hk, rfl, HMk2, HQ2, HN2, HT2, HL2, HU2⟩ := hrel
        generalize wr = wk at *
        clear x1
        have hc := own_cells lyc_len HL2.out.own.row HQ2.out
        have x1 := hc.1 1 (by decide)
        simp [lyc] at x1
        by_cases hkl : k < n
        · have hkl' : (k : Int) < n := by omega
          have hso := HL2.out.own.sl _ (List.mem_of_getElem? HQ2.out)
          simp only at hso
          obtain ⟨gS, hgS⟩ := row_addr hso (by rw [HN2.out]; omega)
          subst hgS
          have hk2 : k < y2.sl.length := by rw [HN2.out]; exact hkl
          have hs2 : y2.sl[k]? = some (y2.sl[k]'hk2) := List.getElem?_eq_getElem hk2
          have hcs := own_cells slc_len hso hs2
          have m0 := hcs.1 0 (by decide); have m1 := hcs.1 1 (by decide); have m2 := hcs.1 2 (by decide)
          have mf := hcs.2
          generalize y2.sl[k]'hk2 = s at *
          obtain ⟨sa, sv, ss⟩ := s
          simp [slc] at m0 m1 m2
          obtain ⟨hp1, hp2⟩ := HL2.out.put HQ2.out hk2 sm1
          obtain ⟨hk3, hk4, hk5⟩ := HMk2.out.put HQ2.out hk2 HT2.out
          have HLn := hide_ hp1
          have HUn := hide_ (((HU2.out.set ⟨gS, k * 3, none⟩ (.int .i64 sm1.at_) (.inl hp2)).set ⟨gS, k * 3 + 1, none⟩ (.bool sm1.v) (.inl hp2)).set ⟨gS, k * 3 + 2, none⟩ (.int .i64 sm1.sz) (.inl hp2))
          have HMn := hide_ hk3
          have HQn := hide_ hk4
          have HTn := hide_ hk5
          have HNn : Hid ((Ly.mk y2.sz (y2.sl.set k sm1)).sl.length = n) := hide_ (by simp only [List.length_set]; exact HN2.out)
          simp only [sm1] at HLn HUn
          clear hp1 hp2 hk3 hk4 hk5 hcs hs2 hso hc hk2
          go_wp2_with fail
          go_roundw
          case rel => exact ⟨k + 1, _, _, by omega, by go_num, HMn, HQn, HNn, HTn, HLn, HUn⟩
          case measure => simp [intOf]; omega
        · obtain rfl : k = n := by omega
          have HMn := hide_ (HMk2.out.next HQ2.out (by rw [HN2.out]; exact HT2.out))
          clear hc
          go_wp2_with fail
          go_roundw
          case rel => exact ⟨i + 1, Q2, by omega, by go_num, HMn, HL2, HU2⟩
          case measure => simp [intOf]; omega
    · obtain rfl : i = N := by omega
      have Lotvb := hide_ (Lotvb.out.upd HUq.out (fun k h1 h2 h3 => by omega))
      have Lotvw := hide_ (Lotvw.out.upd HUq.out (fun k h1 h2 h3 => by omega))
      have hzq : w6.heap.size ≤ wq.heap.size := HUq.out.size
      have HB7 := hide_ (HB6.out.trans (HUq.out.below w0.heap.size HB6.out.size (fun k hk => by omega)))
      have HQs : Hid (∀ (j : Nat) (q : Ly × Value), Q[j]? = some q → q.1.sl = List.replicate q.1.sl.length sm1 ∧ q.1.sl.length ≤ 64) := hide_ (fun j q hq => by
        have hj := (List.getElem?_eq_some_iff.1 hq).1
        have hjP : j < Pa.length := by rw [← HMk.out.len]; exact hj
        have hp : Pa[j]? = some (Pa[j]'hjP) := List.getElem?_eq_getElem hjP
        obtain ⟨h1, h2, h3⟩ := HMk.out.at_ j _ q hp hq
        refine ⟨?_, by rw [h2]; exact HPs.out _ (List.getElem_mem hjP)⟩
        rw [h3 (by rw [HPn.out] at hjP; exact hjP), List.length_replicate])
      have HQn : Hid (Q.length = i) := hide_ (by rw [HMk.out.len, HPn.out])
      clear HUq HMk Lotva HB6
      generalize hN7 : wq = w7 at *
      clear hN7
      obtain ⟨M0, hM0⟩ : ∃ M : Nat → Value, M = fun _ => .slice none 0 0 := ⟨_, rfl⟩
      clear hM0
      go_wp2_with fail
      go_loopw [11, 12] (fun x11 x12 wr => ∃ (vM : Value) (p : Nat) (M : Nat → Value), vM = x11 ∧ p ≤ i ∧ x12 = .int .i64 (p : Int) ∧ Hid (Gw wr (.slice ava i cva) vM Q w1.heap.size w2.heap.size w7.heap.size p M) ∧ Hid (Upd (fun k => (w1.heap.size ≤ k ∧ k < w2.heap.size) ∨ w7.heap.size ≤ k) w7 wr)) (fun _ x12 _ => i - (intOf x12).toNat)
      case atStart => exact ⟨_, 0, M0, rfl, Nat.zero_le _, rfl, hide_ (Gw.begin M0 HLq.out), hide_ (Upd.refl _ _)⟩
      case round =>
        obtain ⟨vM, p, M, rfl, hp, rfl, HG, HUg⟩ := hrel
        generalize wr = wg at *
        by_cases hltp : p < i
        · have hltp' : (p : Int) < i := by omega
          have hQl : p < Q.length := by rw [HQn.out]; exact hltp
          have hQp : Q[p]? = some (Q[p]'hQl) := List.getElem?_eq_getElem hQl
          obtain ⟨gA, hgA⟩ := row_addr HG.out.a.own.row (by omega)
          subst hgA
          generalize Q[p]'hQl = q at *
          obtain ⟨y, u⟩ := q
          have hn64 := (HQs.out p _ hQp).2
          (try simp only at hn64)
          obtain ⟨au, cu, hu, -, -, -⟩ := (HG.out.a.own.sl _ (List.mem_of_getElem? hQp)).row
          (try simp only at hu)
          subst hu
          have hc := own_cells lyc_len HG.out.a.own.row hQp
          have x1 := hc.1 1 (by decide)
          simp [lyc] at x1
          have hzg : w7.heap.size ≤ wg.heap.size := HUg.out.size
          obtain ⟨g1, c1, wg1, hr1, g2, c2, wg2, hr2, hG2, hU2⟩ := HG.out.step hQp hn64 (by omega) (by omega) hzg
          have HR1 := hide_ hr1
          have HR2 := hide_ hr2
          have HG2 := hide_ hG2
          have HU2 := hide_ (HUg.out.to hU2)
          obtain ⟨aM, cM, hvM⟩ : ∃ a c, vM = .slice a p c := by
            rcases HG.out.rM.2 with ⟨h1, h2⟩ | ⟨g, cap, cur, h1, _⟩
            · exact ⟨none, 0, by rw [h1, h2]⟩
            · exact ⟨_, cap, h1⟩
          subst hvM
          clear hr1 hr2 hG2 hU2 hc hQp hQl
          go_wp2_with (first | (at_builtin; refine wpList_append_run rfl (.tmp 91) (.tmp 94) 47 47 rfl rfl rfl HR1.out ?_) | (at_builtin; refine wpList_append_run rfl (.tmp 86) (.tmp 96) 57 57 rfl rfl rfl HR2.out ?_) | fail)
          clear HR1 HR2
          go_roundw
          case rel => exact ⟨_, p + 1, _, rfl, by omega, by go_num, HG2, HU2⟩
          case measure => simp [intOf]; omega
        · obtain rfl : p = i := by omega
          have Lotvb := hide_ (Lotvb.out.upd HUg.out (fun k h1 h2 h3 => by omega))
          have Lotvw := hide_ (Lotvw.out.upd HUg.out (fun k h1 h2 h3 => by omega))
          have hzg : w7.heap.size ≤ wg.heap.size := HUg.out.size
          have HB8 := hide_ (HB7.out.trans (HUg.out.below w0.heap.size HB7.out.size (fun k hk => by omega)))
          clear HLq HUg HB7
          generalize hN8 : wg = w8 at *
          clear hN8
          have HZ0 : Hid (w8.ownsRow w1.heap.size 49 2 (.slice ava p cva) p (cellsG lyc (zL Q 0))) := hide_ (by
            have h := HG.out.a.own.row
            rw [HQn.out] at h
            have e : zL Q 0 = Q := by simp [zL]
            rw [e]
            exact h)
          go_wp2_with fail
          go_loopw [13] (fun x13 wr => ∃ (j : Nat), j ≤ p ∧ x13 = .int .i64 (j : Int) ∧ Hid (wr.ownsRow w1.heap.size 49 2 (.slice ava p cva) p (cellsG lyc (zL Q j))) ∧ Hid (Upd (fun k => (Value.slice ava p cva).ownBlock = some k) w8 wr)) (fun x13 _ => p - (intOf x13).toNat)
          case atStart => exact ⟨0, Nat.zero_le _, rfl, HZ0, hide_ (Upd.refl _ _)⟩
          case round =>
            obtain ⟨j, hj, rfl, HZ, HUz⟩ := hrel
            generalize wr = wz at *
            clear HZ0
            by_cases hltj : j < p
            · have hltj' : (j : Int) < p := by omega
              have hQl : j < Q.length := by rw [HQn.out]; exact hltj
              have hQj : Q[j]? = some (Q[j]'hQl) := List.getElem?_eq_getElem hQl
              obtain ⟨gA, hgA⟩ := row_addr HZ.out (by omega)
              subst hgA
              have hzl : (zL Q j).length = p := by rw [zL_len Q (by omega)]; exact HQn.out
              have hZat : (zL Q j)[j]? = some (Q[j]'hQl) := by rw [zL_at]; exact hQj
              have hZ2 : wz.ownsRow w1.heap.size 49 2 (.slice (some ⟨gA, 0, none⟩) p cva) (zL Q j).length (cellsG lyc (zL Q j)) := by rw [hzl]; exact HZ.out
              have hc := own_cells lyc_len hZ2 hZat
              have hput := row_put hZ2 (by rw [hzl]; exact hltj) z3
              rw [zL_set Q hQl, zL_len Q hQl, HQn.out] at hput
              generalize Q[j]'hQl = q at *
              have hrep := HQs.out j q hQj
              have hso := HG.out.a.own.sl q (List.mem_of_getElem? hQj)
              have hom := HG.out.oM j q hltj hQj
              have hne : ∀ {v : Value} {e c n : Nat} {xs : List Value} {B : Nat}, w8.ownsRow B e c v n xs → e ≠ 49 → wz.ownsRow B e c v n xs := fun hh he => ownS_upd hh HUz.out (fun k hk e2 => by
                obtain ⟨zs, hz⟩ := ownS_type hh hk
                obtain ⟨ys, hy⟩ := ownS_type HG.out.a.own.row e2
                exact he (blk_type hz hy))
              have hso2 : SOwn wz w1.heap.size q.2 q.1.sl := hne hso (by decide)
              have hom2 : SOwn wz w1.heap.size (M j) (q.1.sl ++ [sm2 j]) := hne hom (by decide)
              have hrm2 := hne HG.out.rM (by decide)
              obtain ⟨y, u⟩ := q
              simp only at hrep hso2 hom2
              obtain ⟨au, cu, hu, -, -, -⟩ := hso2.row
              subst hu
              have x0 := hc.1 0 (by decide); have x1 := hc.1 1 (by decide)
              have xf := hc.2
              simp [lyc] at x0 x1
              obtain ⟨am, cm, hm2, -, -, -⟩ := hom2.row
              rw [hm2] at hom2
              obtain ⟨gm, hgm⟩ := row_addr hom2 (by simp)
              subst hgm
              obtain ⟨qM, cM, hvM, -, -, -, hMc⟩ := RowE.open (w := wz) hrm2 (by omega)
              subst hvM
              have v0 := hMc j hltj
              rw [hm2, List.length_append, List.length_singleton] at v0
              obtain ⟨n, hnn⟩ : ∃ n, y.sl.length = n := ⟨_, rfl⟩
              have HSo := hide_ hso2
              have HOm := hide_ hom2
              have HRp := hide_ hrep
              have HNn := hide_ hnn
              have HPut := hide_ hput
              have HUp := hide_ ((HUz.out.set ⟨gA, j * 2, none⟩ (.int .i64 z3.1.sz) (.inl rfl)).set ⟨gA, j * 2 + 1, none⟩ z3.2 (.inl rfl))
              simp only [z3] at HPut HUp
              have hlast := own_cells slc_len hom2 (app_at2 y.sl (sm2 j))
              have t0 := hlast.1 0 (by decide); have t1 := hlast.1 1 (by decide); have t2 := hlast.1 2 (by decide)
              rw [hnn] at t0 t1 t2 v0 x1
              simp [slc, sm2] at t0 t1 t2
              have hn64 : n ≤ 64 := by rw [← hnn]; exact hrep.2
              have hnlt : (n : Int) < (n : Int) + 1 := by omega
              clear hput hso hom hso2 hom2 hrm2 hMc hc hQj hQl hZat hZ2 hzl hrep hnn hlast hne hm2
              go_wp2_with fail
              go_loopw [15] (fun x15 wr => ∃ (k : Nat), k ≤ n ∧ x15 = .int .i64 (k : Int) ∧ wz = wr) (fun x15 _ => n - (intOf x15).toNat)
              case atStart => exact ⟨0, Nat.zero_le _, rfl, rfl⟩
              case round =>
                obtain ⟨k, hk, rfl, rfl⟩ := hrel
                by_cases hkl : k < n
                · have hkl' : (k : Int) < n := by omega
                  have hkl2 : (k : Int) < (n : Int) + 1 := by omega
                  have hk2 : k < y.sl.length := by rw [HNn.out]; exact hkl
                  have hs2 : y.sl[k]? = some sm1 := by rw [HRp.out.1, HNn.out]; exact repl_at hkl
                  obtain ⟨gS, hgS⟩ := row_addr HSo.out (by omega)
                  subst hgS
                  have hcs := own_cells slc_len HSo.out hs2
                  have m0 := hcs.1 0 (by decide); have m1 := hcs.1 1 (by decide); have m2 := hcs.1 2 (by decide)
                  have hcm := own_cells slc_len HOm.out (app_at1 (x := sm2 j) hs2)
                  have n0 := hcm.1 0 (by decide); have n1 := hcm.1 1 (by decide); have n2 := hcm.1 2 (by decide)
                  simp [slc, sm1] at m0 m1 m2 n0 n1 n2
                  clear hcs hcm hs2 hk2
                  go_wp2_with fail
                  go_roundw
                  case rel => exact ⟨k + 1, by omega, by go_num, by trivial⟩
                  case measure => simp [intOf]; omega
                · obtain rfl : k = n := by omega
                  go_wp2_with fail
                  go_roundw
                  case rel => exact ⟨j + 1, by omega, by go_num, HPut, HUp⟩
                  case measure => simp [intOf]; omega
            · obtain rfl : j = p := by omega
              have hzl : (zL Q j).length = j := by rw [zL_len Q (by rw [HQn.out]; exact Nat.le_refl _)]; exact HQn.out
              have hva2 : ∀ k, (Value.slice ava j cva).ownBlock = some k → w1.heap.size ≤ k ∧ k < w2.heap.size := fun k hk => ⟨(HG.out.a.own.lies hk).1, HG.out.a.r k hk⟩
              have Lotvb := hide_ (Lotvb.out.upd HUz.out (fun k h1 h2 h3 => by have := hva2 k h3; omega))
              have Lotvw := hide_ (Lotvw.out.upd HUz.out (fun k h1 h2 h3 => by have := hva2 k h3; omega))
              have hzz : w8.heap.size ≤ wz.heap.size := HUz.out.size
              have HB9 := hide_ (HB8.out.trans (HUz.out.below w0.heap.size HB8.out.size (fun k hk => by have := hva2 k hk; omega)))
              have hZ2 : wz.ownsRow w1.heap.size 49 2 (.slice ava j cva) (zL Q j).length (cellsG lyc (zL Q j)) := by rw [hzl]; exact HZ.out
              obtain ⟨gm, cm, wm, hrun, hom, hum, hlm⟩ := run_pushS (P := Try.prog) (t := 38) (e := 49) (c := 2) Try.underlying38 infoL rfl (by decide) wz 38 hZ2 (lyc z4) rfl (fun u hu => by simp [lyc, z4] at hu; rcases hu with rfl | rfl <;> rfl) (by rw [hzl]; unfold maxLen; omega) (by rw [hzl]; omega) (by omega)
              have Lotvb := hide_ (Lotvb.out.upd hum (fun k h1 h2 h3 => by have := hva2 k h3; omega))
              have Lotvw := hide_ (Lotvw.out.upd hum (fun k h1 h2 h3 => by have := hva2 k h3; omega))
              have hzm : wz.heap.size ≤ wm.heap.size := hum.size
              have HBm := hide_ (HB9.out.trans (hum.below w0.heap.size HB9.out.size (fun k hk => by have := hva2 k hk; omega)))
              have hcm : wm.cell? ⟨gm, j * 2, none⟩ = some (.int .i64 (-4)) := by
                have e1 : (cellsG lyc (zL Q j ++ [z4])) = cellsG lyc (zL Q j) ++ lyc z4 := by rw [cellsG_app, cellsG_one]
                rw [← e1] at hom
                have hom2 : wm.ownsRow w1.heap.size 49 2 (.slice (some ⟨gm, 0, none⟩) ((zL Q j).length + 1) cm) (zL Q j ++ [z4]).length (cellsG lyc (zL Q j ++ [z4])) := by rw [List.length_append, List.length_singleton]; exact hom
                have h := (own_cells lyc_len hom2 (i := j) (x := z4) (by rw [List.getElem?_append_right (by omega), hzl]; simp)).1 0 (by decide)
                simpa [lyc, z4] using h
              rw [hzl] at hrun
              simp only [lyc, z4] at hrun
              have HRun := hide_ hrun
              have HCm : Hid (∀ w', Below wm.heap.size wm w' → w'.cell? ⟨gm, j * 2, none⟩ = some (.int .i64 (-4))) := hide_ (fun w' hb => (hb.cell (World.block_lt_of_cell? wm _ hcm)).trans hcm)
              have hjl : (j : Int) < (j : Int) + 1 := by omega
              clear hrun hom hum hlm hcm hZ2 hzl HZ HUz HB9 HB8 HG hva2
              obtain ⟨i0, i1⟩ := HBox.out wm HBm.out
              go_upto_region 33 with (first | (at_builtin; refine wpList_append_run rfl (.tmp 150) (.tmp 152) 38 38 rfl rfl rfl HRun.out ?_) | fail)
              clear HRun
              go_wp2_with fail
              refine (HCl.out wm HBm.out).mono ?_
              rintro e wn ⟨vc, Pc, rfl, HMvc, HOvc, HBBn⟩
              have Lotvb := hide_ (Lotvb.out.later HBBn.out)
              have Lotvw := hide_ (Lotvw.out.later HBBn.out)
              have HBn := hide_ (below_to HBm.out HBBn.out)
              obtain ⟨avc, cvc, evc, -, -⟩ := HOvc.out.slice
              rw [map_n HMvc.out, HN.out] at evc
              subst evc
              have heq : (er == er) = true := by simp
              clear i0 i1
              go_wp2_with fail
              refine (HAl.out wn _ _ Pb Pw _ _ _ _ _ _ rfl rfl HMvb.out HMvw.out Lotvb.out.own Lotvw.out.own).mono ?_
              rintro e wo ⟨rfl, hBo⟩
              have Lotvw := hide_ (Lotvw.out.later hBo)
              have HOvc := hide_ (HOvc.out.later hBo)
              have HBo := hide_ (below_to HBBn.out hBo)
              clear hBo
              go_wp2_with fail
              refine (HAl.out wo _ _ Pc Pw _ _ _ _ _ _ rfl rfl HMvc.out HMvw.out HOvc.out Lotvw.out.own).mono ?_
              rintro e wp ⟨rfl, hBp⟩
              have hlast := HCm.out wp (below_to HBo.out hBp)
              have HBf := hide_ (below_to HB0.out (below_to HBm.out (below_to HBo.out hBp)))
              clear hBp HCm
              go_wp2
              go_ret
              exact ⟨rfl, HBf.out⟩
end Go.Proofs.Ytnpkpmbpapekbaa
