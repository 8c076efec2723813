/- layout: what Offsets and Lengths answer, plain; anyBelowZero, firstWrong, Offsets, Lengths; the law's same. -/
import Derived.Test.YtnpkpmbpapekbaaIo
namespace Go.Proofs.Ytnpkpmbpapekbaa
open Go.RowKit
set_option linter.unusedVariables false

/-! ### Plain -/
/-- Where part number j begins; a part counts at most 2^32. -/
def atP (f : Int) (l : List Int) : Nat → Int
  | 0 => f
  | j + 1 => atP f l j + min (l.getD j 0) 4294967296
def negL (l : List Int) : Bool := l.any (fun x => decide (x < 0))
def offL (f : Int) (l : List Int) (n : Nat) : List Int := (List.range n).map (atP f l)
def bigL (f : Int) (l : List Int) (n : Nat) : Bool := (List.range n).any (fun j => decide (4294967295 < atP f l j))
/-- What Offsets answers. -/
def offA (f : Int) (l : List Int) : List Int × Int :=
  if f < 0 ∨ negL l = true then ([], 3) else if bigL f l l.length = true then ([], 91) else (offL f l l.length, 0)
theorem offL_succ (f : Int) (l : List Int) (n : Nat) : offL f l (n + 1) = offL f l n ++ [atP f l n] := by simp [offL, List.range_succ]
theorem offL_len (f : Int) (l : List Int) (n : Nat) : (offL f l n).length = n := by simp [offL]
theorem bigL_succ (f : Int) (l : List Int) (n : Nat) : bigL f l (n + 1) = (bigL f l n || decide (4294967295 < atP f l n)) := by simp [bigL, List.range_succ]
theorem bigL_mono {f : Int} {l : List Int} {j n : Nat} (h : bigL f l j = true) (hj : j ≤ n) : bigL f l n = true := by
  simp only [bigL, List.any_eq_true, List.mem_range] at h ⊢
  obtain ⟨i, hi, h⟩ := h
  exact ⟨i, by omega, h⟩
theorem negL_at {l : List Int} (h : negL l = false) (j : Nat) : 0 ≤ l.getD j 0 := by
  rcases Nat.lt_or_ge j l.length with hj | hj
  · have h1 : ∀ x ∈ l, ¬ x < 0 := by simpa [negL] using h
    have := h1 (l.getD j 0) (by simp [List.getD, hj])
    omega
  · simp [List.getD, List.getElem?_eq_none hj]
theorem negL_of {l : List Int} (h : ∀ j, j < l.length → 0 ≤ l.getD j 0) : negL l = false := by
  simp only [negL, List.any_eq_false]
  intro x hx
  obtain ⟨j, hj, rfl⟩ := List.mem_iff_getElem.1 hx
  have := h j hj
  simp [List.getD, hj] at this
  simpa using this
theorem atP_nn {f : Int} {l : List Int} (hf : 0 ≤ f) (h : negL l = false) : ∀ j, 0 ≤ atP f l j
  | 0 => hf
  | j + 1 => by
    have h1 := atP_nn hf h j
    have h2 := negL_at h j
    simp only [atP]
    omega
/-- Whether offset number i can't be one. -/
def wrongP (f : Int) (l : List Int) (E : Int) (i : Nat) : Bool := (if i = 0 then decide (l.getD 0 0 ≠ f) else decide (l.getD i 0 < l.getD (i - 1) 0)) || decide (E < l.getD i 0)
def fwP (f : Int) (l : List Int) (E : Int) : Option Nat := (List.range l.length).find? (wrongP f l E)
def lenOf (l : List Int) (E : Int) (i : Nat) : Int := (if i + 1 < l.length then l.getD (i + 1) 0 else E) - l.getD i 0
def lenL (l : List Int) (E : Int) (n : Nat) : List Int := (List.range n).map (lenOf l E)
theorem lenL_succ (l : List Int) (E : Int) (n : Nat) : lenL l E (n + 1) = lenL l E n ++ [lenOf l E n] := by simp [lenL, List.range_succ]
theorem lenL_len (l : List Int) (E : Int) (n : Nat) : (lenL l E n).length = n := by simp [lenL]
/-- What Lengths answers. -/
def lenA (f : Int) (l : List Int) (E : Int) : List Int × Int × Int :=
  if f < 0 then ([], 0, 3) else match fwP f l E with
    | some i => ([], (i : Int), 122)
    | none => (lenL l E l.length, 0, 0)
theorem fwP_none {f : Int} {l : List Int} {E : Int} (h : fwP f l E = none) (i : Nat) (hi : i < l.length) : wrongP f l E i = false := by
  unfold fwP at h
  rw [List.find?_eq_none] at h
  have := h i (List.mem_range.2 hi)
  simpa using this
theorem fwP_none_of {f : Int} {l : List Int} {E : Int} (h : ∀ i, i < l.length → wrongP f l E i = false) : fwP f l E = none := by
  unfold fwP
  rw [List.find?_eq_none]
  intro i hi
  rw [h i (List.mem_range.1 hi)]
  simp
theorem fwP_some_of {f : Int} {l : List Int} {E : Int} {i : Nat} (hi : i < l.length) (h : wrongP f l E i = true) (hb : ∀ j, j < i → wrongP f l E j = false) : fwP f l E = some i := by
  unfold fwP
  rw [List.find?_range_eq_some]
  exact ⟨h, List.mem_range.2 hi, fun j hj => by rw [hb j hj]; rfl⟩
/-- Offsets that are right lie between fixed and the end. -/
theorem right_nn {f : Int} {l : List Int} {E : Int} (hf : 0 ≤ f) : ∀ (i : Nat), i < l.length → (∀ j, j ≤ i → wrongP f l E j = false) → f ≤ l.getD i 0 ∧ l.getD i 0 ≤ E
  | 0, hi, h => by
    have := h 0 (Nat.le_refl _)
    simp [wrongP] at this
    simp only [List.getD_eq_getElem?_getD]
    omega
  | i + 1, hi, h => by
    have h1 := right_nn hf i (by omega) (fun j hj => h j (by omega))
    have h2 := h (i + 1) (Nat.le_refl _)
    simp [wrongP] at h2
    simp only [List.getD_eq_getElem?_getD] at h1 ⊢
    omega

/-! ### The calls -/
set_option maxRecDepth 100000 in
set_option maxHeartbeats 4000000 in
theorem neg_any (a : Option Addr) (c : Nat) (l : List Int) (w : World) (hn : l.length ≤ 17592186044415) (hr : Hid (Row .i64 w a l)) :
    Calls Try.prog 18 #[.slice a l.length c] w fun e w' => e = .returned (.bool (negL l)) ∧ w = w' := by
  go_enter Try.func18, Try.ntmps18
  go_wp2_with fail
  go_loopw [7] (fun x7 wr => ∃ i : Nat, i ≤ l.length ∧ x7 = .int .i64 (i : Int) ∧ Hid (∀ j, j < i → 0 ≤ l.getD j 0) ∧ w = wr) (fun x7 _ => l.length - (intOf x7).toNat)
  case atStart => exact ⟨0, Nat.zero_le _, rfl, hide_ (fun j hj => by omega), rfl⟩
  case round =>
    obtain ⟨i, hi, rfl, HN, rfl⟩ := hrel
    by_cases hlt : i < l.length
    · have hlt' : (i : Int) < l.length := by omega
      obtain ⟨ba, oa, rfl, -, ca⟩ := hr.out.open (by omega)
      have x0 := ca i hlt
      have HV := hide_ (rfl : l.getD i 0 = l.getD i 0)
      obtain ⟨q, hq⟩ : ∃ q, l.getD i 0 = q := ⟨_, rfl⟩
      rw [hq] at x0
      have HQ := hide_ hq
      clear ca hq HV
      by_cases hneg : q < 0
      · have HT : Hid (negL l = true) := hide_ (by
          simp only [negL, List.any_eq_true]
          refine ⟨l.getD i 0, by simp [List.getD, hlt], ?_⟩
          rw [HQ.out]
          exact decide_eq_true hneg)
        go_wp2
        go_ret
        exact ⟨by rw [HT.out]; rfl, rfl⟩
      · have HN2 : Hid (∀ j, j < i + 1 → 0 ≤ l.getD j 0) := hide_ (fun j hj => by
          by_cases h : j = i
          · subst h; rw [HQ.out]; omega
          · exact HN.out j (by omega))
        go_wp2_with fail
        go_roundw
        case rel => exact ⟨i + 1, by omega, by go_num, HN2, by trivial⟩
        case measure => simp [intOf]; omega
    · obtain rfl : i = l.length := by omega
      have HT : Hid (negL l = false) := hide_ (negL_of HN.out)
      go_wp2
      go_ret
      exact ⟨by rw [HT.out]; rfl, rfl⟩
end Go.Proofs.Ytnpkpmbpapekbaa
