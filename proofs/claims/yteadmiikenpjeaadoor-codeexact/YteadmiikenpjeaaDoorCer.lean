/- Code: the document's arms. -/
import Derived.Test.YteadmiikenpjeaaDoorCeq
import Derived.BigQuiet
namespace Go.Proofs.YteadmiikenpjeaaDoor
open Go.RowKit
set_option linter.unusedVariables false

theorem arms_no {l : List In} {m j : Nat} (h : m ≤ l.length) (hj : j < m) (ho : armOk l j = false) : arms l m = false := by
  cases h' : arms l m with
  | false => rfl
  | true =>
    have := (arms_iff h).1 h' j hj
    rw [ho] at this
    cases this
theorem any_take {l : List In} {j : Nat} {q : In} (h : ∀ (i : Nat) (y : In), i < j → l[i]? = some y → ¬ y.a = q.a) : (l.take j).any (fun y => y.a == q.a) = false := by
  rw [List.any_eq_false]
  intro y hy
  obtain ⟨i, hi, rfl⟩ := List.mem_iff_getElem.1 hy
  rw [List.length_take] at hi
  have := h i (l[i]'(by omega)) (by omega) (List.getElem?_eq_getElem (by omega))
  rw [List.getElem_take]
  simpa using this
theorem any_took {l : List In} {j i : Nat} {y q : In} (hi : i < j) (hy : l[i]? = some y) (h : y.a = q.a) : (l.take j).any (fun y => y.a == q.a) = true := by
  rw [List.any_eq_true]
  refine ⟨y, List.mem_iff_getElem?.2 ⟨i, ?_⟩, by simp [h]⟩
  rw [List.getElem?_take, if_pos hi, hy]
set_option maxRecDepth 100000 in
set_option maxHeartbeats 8000000 in
theorem rarms_any (enc : Bool) (ac ae : Option Addr) (cc ne ce at_ : Nat) (C : List In) (x : In) (w : World) (hx : C[at_]? = some x) (ha : 0 ≤ x.a ∧ x.a ≤ 64) (hl : C.length ≤ 140737488355328) (hr : Hid (IRow w ac C)) :
    Calls Tryd.prog 22 #[.agg #[.bool enc, .slice ac C.length cc, .slice ae ne ce], .int .i64 (at_ : Int)] w fun e w' => e = .returned (.bool (arms (C.drop (at_ + 1)) x.a)) ∧ Below w.heap.size w w' := by
  obtain ⟨m, hm⟩ := Int.eq_ofNat_of_zero_le ha.1
  have hat : at_ < C.length := (List.getElem?_eq_some_iff.1 hx).1
  have hat' : (at_ : Int) < C.length := by omega
  have hm64 : m ≤ 64 := by omega
  obtain ⟨b, off, rfl, hb, hc⟩ := hr.out.open (by omega)
  clear hb hc
  obtain ⟨w1, hw1⟩ : ∃ wx, wx = w.alloc (.cells #[.bool enc, .slice (some ⟨b, off, none⟩) C.length cc, .slice ae ne ce] 25) := ⟨_, rfl⟩
  have hB1 : Below w.heap.size w w1 := by rw [hw1]; exact below1 _ _
  have HB1 := hide_ hB1
  have K1 : Hid (Blk w1 w.heap.size 25 [.bool enc, .slice (some ⟨b, off, none⟩) C.length cc, .slice ae ne ce]) := hide_ (by rw [hw1]; exact Blk.newA w _ _)
  have HR : Hid (IRow w1 (some ⟨b, off, none⟩) C) := hide_ (hr.out.later hB1)
  clear hB1
  have k1 := K1.out.cell 1
  simp at k1
  have ix := (HR.out.at hx).2.1
  rw [hm] at ix ⊢
  obtain ⟨R, hRd⟩ : ∃ R, C.drop (at_ + 1) = R := ⟨_, rfl⟩
  have HRl : Hid (R.length = C.length - (at_ + 1)) := hide_ (by rw [← hRd, List.length_drop])
  have HRa : Hid (∀ i : Nat, R[i]? = C[at_ + 1 + i]?) := hide_ (fun i => by rw [← hRd, List.getElem?_drop])
  rw [hRd]
  clear hRd hx ha
  go_enter Tryd.func22, Tryd.ntmps22
  go_upto_region 1 with fail
  rw [← hw1]
  clear hw1
  by_cases hlm : C.length < at_ + 1 + m
  · have e : arms R m = false := by unfold arms; rw [decide_eq_false (by have := HRl.out; omega)]; rfl
    have hgt : (C.length : Int) - 1 - at_ < m := by omega
    have He := hide_ e
    clear e
    go_wp2
    go_ret
    exact ⟨by rw [He.out]; rfl, HB1.out⟩
  have hgt : ¬ (C.length : Int) - 1 - at_ < m := by omega
  have HRm : Hid (m ≤ R.length) := hide_ (by have := HRl.out; omega)
  go_wp2_with fail
  clear ix k1
  go_loopw [6] (fun x6 wr => ∃ i : Nat, 1 ≤ i ∧ i ≤ m + 1 ∧ x6 = .int .i64 (i : Int) ∧ Hid (∀ j, j + 1 < i → armOk R j = true) ∧ Hid (Below w1.heap.size w1 wr)) (fun x6 _ => m + 1 - (intOf x6).toNat)
  case atStart => exact ⟨1, by omega, by omega, rfl, hide_ (fun i hi => by omega), hide_ (Below.refl _ _)⟩
  case round =>
    obtain ⟨i, hi1, hi2, rfl, HA, HB⟩ := hrel
    generalize wr = wq at *
    by_cases hlt : i ≤ m
    · have hlt' : (i : Int) ≤ m := by omega
      obtain ⟨p, hp⟩ : ∃ p : Nat, p = at_ + i := ⟨_, rfl⟩
      have hpi : (at_ : Int) + (i : Int) = (p : Int) := by omega
      have hpl : p < C.length := by omega
      have hpl' : (p : Int) < C.length := by omega
      have hq : C[p]? = some (C[p]'hpl) := List.getElem?_eq_getElem hpl
      have HE : Hid (R[i - 1]? = some (C[p]'hpl)) := hide_ (by rw [HRa.out, ← hq, hp]; congr 1; omega)
      have K := (K1.out.later HB.out).cell 1
      simp at K
      have hqc := IRow.at (HR.out.later HB.out) hq
      generalize C[p]'hpl = q at *
      clear hq
      obtain ⟨q0, q1, -, -⟩ := hqc
      have HP := hide_ hp
      clear hp
      by_cases h9 : q.op = 9
      · have h9b : (q.op != 9) = false := by simp [h9]
        go_wp2_with fail
        clear K q0 q1
        go_loopw [7] (fun x7 wr => ∃ k : Nat, 1 ≤ k ∧ k ≤ i ∧ x7 = .int .i64 (k : Int) ∧ Hid (∀ (j : Nat) (y : In), j + 1 < k → R[j]? = some y → ¬ y.a = q.a) ∧ Hid (Below w1.heap.size w1 wr)) (fun x7 _ => i - (intOf x7).toNat)
        case atStart => exact ⟨1, by omega, by omega, rfl, hide_ (fun j y hj => by omega), HB⟩
        case round =>
          obtain ⟨k, hk1, hk2, rfl, HK, HBz⟩ := hrel
          generalize wr = wy at *
          by_cases hki : k < i
          · have hki' : (k : Int) < i := by omega
            obtain ⟨s, hs⟩ : ∃ s : Nat, s = at_ + k := ⟨_, rfl⟩
            have hsi : (at_ : Int) + (k : Int) = (s : Int) := by omega
            have hsl : s < C.length := by omega
            have hsl' : (s : Int) < C.length := by omega
            have hy : C[s]? = some (C[s]'hsl) := List.getElem?_eq_getElem hsl
            have HY : Hid (R[k - 1]? = some (C[s]'hsl)) := hide_ (by rw [HRa.out, ← hy, hs]; congr 1; omega)
            have hyc := IRow.at (HR.out.later HBz.out) hy
            have hqc := IRow.at (HR.out.later HBz.out) (show C[p]? = some q from by rw [← HE.out, HRa.out, HP.out]; congr 1; omega)
            have K := (K1.out.later HBz.out).cell 1
            simp at K
            generalize C[s]'hsl = y at *
            clear hy hs
            obtain ⟨-, y1, -, -⟩ := hyc
            obtain ⟨-, q1, -, -⟩ := hqc
            by_cases hya : y.a = q.a
            · have hyb : (y.a == q.a) = true := by simp [hya]
              have HN : Hid (arms R m = false) := hide_ (arms_no HRm.out (j := i - 1) (by omega) (by rw [armOk_at HE.out, any_took (i := k - 1) (by omega) HY.out hya]; simp))
              go_wp2_with fail
              go_quiet (fail)
              go_wp2_with fail
              go_ret
              exact ⟨by rw [HN.out]; rfl, below_to HB1.out (below_drewN HBz.out _)⟩
            · have hyb : (y.a == q.a) = false := by simpa using hya
              have HK2 : Hid (∀ (j : Nat) (z : In), j + 1 < k + 1 → R[j]? = some z → ¬ z.a = q.a) := hide_ (fun j z hj hz => by
                rcases Nat.lt_or_ge (j + 1) k with h | h
                · exact HK.out j z h hz
                · obtain rfl : j = k - 1 := by omega
                  rw [HY.out] at hz
                  injection hz with hz
                  rw [← hz]; exact hya)
              go_wp2_with fail
              go_quiet (fail)
              go_wp2_with fail
              go_roundw
              case rel => exact ⟨k + 1, by omega, by omega, by go_num, HK2, hide_ (below_drewN HBz.out _)⟩
              case measure => simp [intOf]; omega
          · obtain rfl : k = i := by omega
            have HA2 : Hid (∀ j, j + 1 < k + 1 → armOk R j = true) := hide_ (fun j hj => by
              rcases Nat.lt_or_ge (j + 1) k with h | h
              · exact HA.out j h
              · obtain rfl : j = k - 1 := by omega
                rw [armOk_at HE.out, any_take (fun j y hj hy => HK.out j y (by omega) hy)]
                simp [h9])
            go_wp2_with fail
            go_roundw
            case rel => exact ⟨k + 1, by omega, by omega, by go_num, HA2, HBz⟩
            case measure => simp [intOf]; omega
      · have h9b : (q.op != 9) = true := by simpa using h9
        have HN : Hid (arms R m = false) := hide_ (arms_no HRm.out (j := i - 1) (by omega) (by rw [armOk_at HE.out]; simp [h9]))
        go_wp2_with fail
        go_ret
        exact ⟨by rw [HN.out]; rfl, below_to HB1.out HB.out⟩
    · obtain rfl : i = m + 1 := by omega
      have HN : Hid (arms R m = true) := hide_ ((arms_iff HRm.out).2 (fun j hj => HA.out j (by omega)))
      go_wp2
      go_ret
      exact ⟨by rw [HN.out]; rfl, below_to HB1.out HB.out⟩
end Go.Proofs.YteadmiikenpjeaaDoor
