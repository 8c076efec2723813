/- Code: Equal. -/
import Derived.Test.YteadmiikenpjeaaDoorCdm
import Derived.BigQuiet
namespace Go.Proofs.YteadmiikenpjeaaDoor
open Go.RowKit
set_option linter.unusedVariables false

def eqL {α : Type} (f : α → α → Bool) : List α → List α → Bool
  | [], [] => true
  | x :: l, y :: r => f x y && eqL f l r
  | _, _ => false
theorem eqL_len {α : Type} {f : α → α → Bool} : ∀ {l r : List α}, eqL f l r = true → l.length = r.length
  | [], [], _ => rfl
  | x :: l, y :: r, h => by
    rw [eqL, Bool.and_eq_true] at h
    simp [eqL_len h.2]
  | [], y :: r, h => by cases h
  | x :: l, [], h => by cases h
theorem eqL_at {α : Type} {f : α → α → Bool} : ∀ {l r : List α}, l.length = r.length → (eqL f l r = true ↔ ∀ (i : Nat) (x y : α), l[i]? = some x → r[i]? = some y → f x y = true)
  | [], [], _ => ⟨fun _ i x y hx => by simp at hx, fun _ => rfl⟩
  | x :: l, y :: r, h => by
    rw [eqL, Bool.and_eq_true, eqL_at (by simpa using h)]
    constructor
    · rintro ⟨h1, h2⟩ i a b ha hb
      cases i with
      | zero => simp at ha hb; subst ha hb; exact h1
      | succ i => exact h2 i a b (by simpa using ha) (by simpa using hb)
    · intro h2
      exact ⟨h2 0 x y rfl rfl, fun i a b ha hb => h2 (i + 1) a b (by simpa using ha) (by simpa using hb)⟩
  | [], y :: r, h => by simp at h
  | x :: l, [], h => by simp at h
theorem eqL_no {α : Type} {f : α → α → Bool} {l r : List α} {i : Nat} {x y : α} (hx : l[i]? = some x) (hy : r[i]? = some y) (h : f x y = false) : eqL f l r = false := by
  cases e : eqL f l r with
  | false => rfl
  | true =>
    have := (eqL_at (eqL_len e)).1 e i x y hx hy
    rw [h] at this
    cases this
theorem eqL_ne {α : Type} {f : α → α → Bool} {l r : List α} (h : ¬ l.length = r.length) : eqL f l r = false := by
  cases e : eqL f l r with
  | false => rfl
  | true => exact absurd (eqL_len e) h
theorem eqL_refl {α : Type} {f : α → α → Bool} (hf : ∀ x, f x x = true) : ∀ l : List α, eqL f l l = true
  | [] => rfl
  | x :: l => by rw [eqL, hf, eqL_refl hf l]; rfl
theorem eqL_iff {α : Type} {f : α → α → Bool} (hf : ∀ x y, f x y = true ↔ x = y) : ∀ {l r : List α}, eqL f l r = true ↔ l = r
  | [], [] => ⟨fun _ => rfl, fun _ => rfl⟩
  | x :: l, y :: r => by rw [eqL, Bool.and_eq_true, hf, eqL_iff hf]; simp
  | [], y :: r => ⟨fun h => (by cases h), fun h => (by cases h)⟩
  | x :: l, [] => ⟨fun h => (by cases h), fun h => (by cases h)⟩
def sameI (a b : Int) : Bool := a == b
set_option maxRecDepth 100000 in
set_option maxHeartbeats 4000000 in
theorem equalI_any (a a' : Option Addr) (c c' : Nat) (l r : List Int) (w : World) (hl : l.length ≤ 9223372036854775806) (hr' : r.length ≤ 9223372036854775806) (h1 : Hid (Row .i64 w a l)) (h2 : Hid (Row .i64 w a' r)) :
    Calls Tryd.prog 39 #[.slice a l.length c, .slice a' r.length c'] w fun e w' => e = .returned (.bool (eqL sameI l r)) ∧ Below w.heap.size w w' := by
  by_cases hn : l.length = r.length
  case neg =>
    have e := eqL_ne (f := sameI) hn
    rw [e]
    have hb : ((l.length : Int) != (r.length : Int)) = true := by simp; omega
    have hb2 : (l.length != r.length) = true := by simpa using hn
    go_enter Tryd.func39, Tryd.ntmps39
    go_wp2
    go_ret
    exact ⟨rfl, Below.refl _ _⟩
  have hb : ((l.length : Int) != (r.length : Int)) = false := by simp; omega
  have HN := hide_ hn
  go_enter Tryd.func39, Tryd.ntmps39
  clear hn
  go_wp2_with fail
  go_loopw [13] (fun x13 wr => ∃ j : Nat, j ≤ l.length ∧ x13 = .int .i64 (j : Int) ∧ Hid (∀ (i : Nat) (x y : Int), i < j → l[i]? = some x → r[i]? = some y → sameI x y = true) ∧ Hid (Below w.heap.size w wr)) (fun x13 _ => l.length - (intOf x13).toNat)
  case atStart => exact ⟨0, Nat.zero_le _, rfl, hide_ (fun i x y hi => by omega), hide_ (Below.refl _ _)⟩
  case round =>
    obtain ⟨j, hj, rfl, HA, HB⟩ := hrel
    generalize wr = wq at *
    by_cases hlt : j < l.length
    · have hlt' : (j : Int) < l.length := by omega
      have hltr : j < r.length := by have := HN.out; omega
      have hltr' : (j : Int) < r.length := by omega
      obtain ⟨b, off, rfl, -, hcs⟩ := (h1.out.later HB.out).open (by omega)
      obtain ⟨b', off', rfl, -, hcs'⟩ := (h2.out.later HB.out).open (by omega)
      have c0 := hcs j hlt
      have c1 := hcs' j hltr
      have hx : l[j]? = some (l.getD j 0) := by simp [List.getD, hlt]
      have hy : r[j]? = some (r.getD j 0) := by simp [List.getD, hltr]
      have HX := hide_ hx
      have HY := hide_ hy
      clear hx hy hcs hcs'
      generalize l.getD j 0 = x at *
      generalize r.getD j 0 = y at *
      by_cases hxy : x = y
      · have hxb : (x != y) = false := by simp [hxy]
        have HA2 : Hid (∀ (i : Nat) (x y : Int), i < j + 1 → l[i]? = some x → r[i]? = some y → sameI x y = true) := hide_ (fun i a b hi ha hb => by
          rcases Nat.lt_or_ge i j with h | h
          · exact HA.out i a b h ha hb
          · obtain rfl : i = j := by omega
            rw [HX.out] at ha
            rw [HY.out] at hb
            injection ha with ha
            injection hb with hb
            rw [← ha, ← hb, hxy]
            simp [sameI])
        clear hxy
        go_upto_region 6 with fail
        go_region
        all_goals
          go_wp2_with fail
          go_roundw
          case rel => exact ⟨j + 1, by omega, by go_num, HA2, hide_ HB.out.drew⟩
          case measure => simp [intOf]; omega
      · have hxb : (x != y) = true := by simpa using hxy
        have HR : Hid (eqL sameI l r = false) := hide_ (eqL_no HX.out HY.out (by simpa [sameI] using hxy))
        clear hxy
        go_upto_region 6 with fail
        go_region
        all_goals
          go_wp2_with fail
          go_ret
          exact ⟨by rw [HR.out]; rfl, HB.out.drew⟩
    · obtain rfl : j = l.length := by omega
      have HR : Hid (eqL sameI l r = true) := hide_ ((eqL_at HN.out).2 (fun i x y hx hy => HA.out i x y (List.getElem?_eq_some_iff.1 hx).1 hx hy))
      go_wp2
      go_ret
      exact ⟨by rw [HR.out]; rfl, HB.out⟩
set_option maxRecDepth 100000 in
set_option maxHeartbeats 4000000 in
theorem sameC_any (a a' : Option Addr) (c c' : Nat) (l r : List In) (w : World) (hl : l.length ≤ 9223372036854775806) (hr' : r.length ≤ 9223372036854775806) (h1 : Hid (IRow w a l)) (h2 : Hid (IRow w a' r)) :
    Calls Tryd.prog 40 #[.slice a l.length c, .slice a' r.length c'] w fun e w' => e = .returned (.bool (eqL inEq l r)) ∧ Below w.heap.size w w' := by
  by_cases hn : l.length = r.length
  case neg =>
    have e := eqL_ne (f := inEq) hn
    rw [e]
    have hb : ((l.length : Int) != (r.length : Int)) = true := by simp; omega
    have hb2 : (l.length != r.length) = true := by simpa using hn
    go_enter Tryd.func40, Tryd.ntmps40
    go_wp2
    go_ret
    exact ⟨rfl, Below.refl _ _⟩
  have hb : ((l.length : Int) != (r.length : Int)) = false := by simp; omega
  have HN := hide_ hn
  go_enter Tryd.func40, Tryd.ntmps40
  clear hn
  go_wp2_with fail
  go_loopw [13] (fun x13 wr => ∃ j : Nat, j ≤ l.length ∧ x13 = .int .i64 (j : Int) ∧ Hid (∀ (i : Nat) (x y : In), i < j → l[i]? = some x → r[i]? = some y → inEq x y = true) ∧ Hid (Below w.heap.size w wr)) (fun x13 _ => l.length - (intOf x13).toNat)
  case atStart => exact ⟨0, Nat.zero_le _, rfl, hide_ (fun i x y hi => by omega), hide_ (Below.refl _ _)⟩
  case round =>
    obtain ⟨j, hj, rfl, HA, HB⟩ := hrel
    generalize wr = wq at *
    by_cases hlt : j < l.length
    · have hlt' : (j : Int) < l.length := by omega
      have hltr : j < r.length := by have := HN.out; omega
      have hltr' : (j : Int) < r.length := by omega
      obtain ⟨b, off, rfl, -, hcs⟩ := (h1.out.later HB.out).open (by omega)
      obtain ⟨b', off', rfl, -, hcs'⟩ := (h2.out.later HB.out).open (by omega)
      have hx : l[j]? = some (l[j]'hlt) := List.getElem?_eq_getElem hlt
      have hy : r[j]? = some (r[j]'hltr) := List.getElem?_eq_getElem hltr
      have cx := hcs j _ hx
      have cy := hcs' j _ hy
      have HX := hide_ hx
      have HY := hide_ hy
      generalize l[j]'hlt = x at *
      generalize r[j]'hltr = y at *
      have x0 := cx 0 (by decide); have x1 := cx 1 (by decide); have x2 := cx 2 (by decide); have x3 := cx 3 (by decide)
      have y0 := cy 0 (by decide); have y1 := cy 1 (by decide); have y2 := cy 2 (by decide); have y3 := cy 3 (by decide)
      simp [inc] at x0 x1 x2 x3 y0 y1 y2 y3
      clear hx hy hcs hcs' cx cy
      go_upto_region 6 with fail
      by_cases e0 : x.op = y.op
      case neg =>
        have HR : Hid (eqL inEq l r = false) := hide_ (eqL_no HX.out HY.out (by
          cases e : inEq x y with
          | false => rfl
          | true => exact absurd (congrArg In.op ((inEq_iff x y).1 e)) e0))
        go_region
        all_goals
          go_wp2_with fail
          go_ret
          exact ⟨by rw [HR.out]; rfl, HB.out.drew⟩
      by_cases e1 : x.a = y.a
      case neg =>
        have HR : Hid (eqL inEq l r = false) := hide_ (eqL_no HX.out HY.out (by
          cases e : inEq x y with
          | false => rfl
          | true => exact absurd (congrArg In.a ((inEq_iff x y).1 e)) e1))
        go_region
        all_goals
          go_wp2_with fail
          go_ret
          exact ⟨by rw [HR.out]; rfl, HB.out.drew⟩
      by_cases e2 : x.b = y.b
      case neg =>
        have HR : Hid (eqL inEq l r = false) := hide_ (eqL_no HX.out HY.out (by
          cases e : inEq x y with
          | false => rfl
          | true => exact absurd (congrArg In.b ((inEq_iff x y).1 e)) e2))
        go_region
        all_goals
          go_wp2_with fail
          go_ret
          exact ⟨by rw [HR.out]; rfl, HB.out.drew⟩
      by_cases e3 : x.c = y.c
      case neg =>
        have HR : Hid (eqL inEq l r = false) := hide_ (eqL_no HX.out HY.out (by
          cases e : inEq x y with
          | false => rfl
          | true => exact absurd (congrArg In.c ((inEq_iff x y).1 e)) e3))
        go_region
        all_goals
          go_wp2_with fail
          go_ret
          exact ⟨by rw [HR.out]; rfl, HB.out.drew⟩
      have HA2 : Hid (∀ (i : Nat) (x y : In), i < j + 1 → l[i]? = some x → r[i]? = some y → inEq x y = true) := hide_ (fun i a b hi ha hb => by
        rcases Nat.lt_or_ge i j with h | h
        · exact HA.out i a b h ha hb
        · obtain rfl : i = j := by omega
          rw [HX.out] at ha
          rw [HY.out] at hb
          injection ha with ha
          injection hb with hb
          rw [← ha, ← hb]
          exact (inEq_iff x y).2 (In.ext' e0 e1 e2 e3))
      go_region
      all_goals
        go_wp2_with fail
        go_roundw
        case rel => exact ⟨j + 1, by omega, by go_num, HA2, hide_ HB.out.drew⟩
        case measure => simp [intOf]; omega
    · obtain rfl : j = l.length := by omega
      have HR : Hid (eqL inEq l r = true) := hide_ ((eqL_at HN.out).2 (fun i x y hx hy => HA.out i x y (List.getElem?_eq_some_iff.1 hx).1 hx hy))
      go_wp2
      go_ret
      exact ⟨by rw [HR.out]; rfl, HB.out⟩
/-- What Equal answers. -/
def eqP (a b : Bool) (C C' : List In) (E E' : List Int) : Bool := a == b && (eqL sameI E E' && eqL inEq C C')
theorem eqP_iff {a b : Bool} {C C' : List In} {E E' : List Int} : eqP a b C C' E E' = true ↔ a = b ∧ E = E' ∧ C = C' := by
  unfold eqP
  rw [Bool.and_eq_true, Bool.and_eq_true, eqL_iff (f := sameI) (fun x y => by simp [sameI]), eqL_iff inEq_iff]
  simp
set_option maxRecDepth 100000 in
set_option maxHeartbeats 4000000 in
theorem equal_any (a b : Bool) (ac ac' ae ae' : Option Addr) (cc cc' ce ce' : Nat) (C C' : List In) (E E' : List Int) (w : World) (h1 : C.length ≤ 1000000000000) (h2 : C'.length ≤ 1000000000000) (h3 : E.length ≤ 1000000000000) (h4 : E'.length ≤ 1000000000000) (hr1 : Hid (IRow w ac C)) (hr2 : Hid (IRow w ac' C')) (he1 : Hid (Row .i64 w ae E)) (he2 : Hid (Row .i64 w ae' E')) :
    Calls Tryd.prog 13 #[.agg #[.bool a, .slice ac C.length cc, .slice ae E.length ce], .agg #[.bool b, .slice ac' C'.length cc', .slice ae' E'.length ce']] w fun e w' => e = .returned (.bool (eqP a b C C' E E')) ∧ Below w.heap.size w w' := by
  obtain ⟨w1, hw1⟩ : ∃ wx, wx = (w.alloc (.cells #[.bool a, .slice ac C.length cc, .slice ae E.length ce] 25)).alloc (.cells #[.bool b, .slice ac' C'.length cc', .slice ae' E'.length ce'] 25) := ⟨_, rfl⟩
  have hB1 : Below w.heap.size w w1 := by rw [hw1]; exact below2 _ _ _
  obtain ⟨kp, kq⟩ := blk2 w #[.bool a, .slice ac C.length cc, .slice ae E.length ce] #[.bool b, .slice ac' C'.length cc', .slice ae' E'.length ce'] 25 25
  rw [← hw1] at kp kq
  have HB1 := hide_ hB1
  have KP := hide_ kp
  have KQ := hide_ kq
  have HCe := hide_ (equalI_any ae ae' ce ce' E E' w1 (by omega) (by omega) (hide_ (he1.out.later hB1)) (hide_ (he2.out.later hB1)))
  have HCc : Hid (∀ w', Below w1.heap.size w1 w' → Calls Tryd.prog 40 #[.slice ac C.length cc, .slice ac' C'.length cc'] w' fun e w'' => e = .returned (.bool (eqL inEq C C')) ∧ Below w'.heap.size w' w'') := hide_ (fun w' hb => sameC_any ac ac' cc cc' C C' w' (by omega) (by omega) (hide_ ((hr1.out.later hB1).later hb)) (hide_ ((hr2.out.later hB1).later hb)))
  have HR : Hid (eqP a b C C' E E' = (a == b && (eqL sameI E E' && eqL inEq C C'))) := hide_ rfl
  generalize eqP a b C C' E E' = R at *
  have p0 := kp.cell 0; have p1 := kp.cell 1; have p2 := kp.cell 2
  have q0 := kq.cell 0; have q1 := kq.cell 1; have q2 := kq.cell 2
  simp at p0 p1 p2 q0 q1 q2
  clear hB1 kp kq
  generalize eqL sameI E E' = x at *
  generalize eqL inEq C C' = y at *
  by_cases hab : a = b
  case neg =>
    have hR : R = false := by rw [HR.out]; simp [hab]
    subst hR
    have hb : (a == b) = false := by simpa using hab
    clear HR
    go_enter Tryd.func13, Tryd.ntmps13
    go_upto_region 1 with fail
    rw [← hw1]
    clear hw1 hab
    go_wp2
    go_ret
    exact ⟨rfl, HB1.out⟩
  subst hab
  cases x with
  | false =>
    have hR : R = false := by rw [HR.out]; simp
    subst hR
    clear HR
    go_enter Tryd.func13, Tryd.ntmps13
    go_upto_region 1 with fail
    rw [← hw1]
    clear hw1
    go_wp2_with (go_at_call 39; refine HCe.out.mono ?_; rintro e w2 ⟨rfl, hB2⟩)
    go_ret
    exact ⟨rfl, below_to HB1.out hB2⟩
  | true =>
    have hR : R = y := by rw [HR.out]; simp
    subst hR
    clear HR
    go_enter Tryd.func13, Tryd.ntmps13
    go_upto_region 1 with fail
    rw [← hw1]
    clear hw1
    go_wp2_with (first
      | (go_at_call 39; refine HCe.out.mono ?_; rintro e w2 ⟨rfl, hB2⟩; (have s1 := (KP.out.later hB2).cell 1); (have s2 := (KQ.out.later hB2).cell 1); simp at s1 s2)
      | (go_at_call 40; refine (HCc.out _ hB2).mono ?_; rintro e w3 ⟨rfl, hB3⟩))
    go_ret
    exact ⟨rfl, below_to HB1.out (below_to hB2 hB3)⟩
end Go.Proofs.YteadmiikenpjeaaDoor
