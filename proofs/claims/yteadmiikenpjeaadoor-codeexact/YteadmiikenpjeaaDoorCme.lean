/- Code: the document's Equal. -/
import Derived.Test.YteadmiikenpjeaaDoorCdr
import Derived.BigQuiet
namespace Go.Proofs.YteadmiikenpjeaaDoor
open Go.RowKit
set_option linter.unusedVariables false

theorem eqP_no {a b : Bool} {C C' : List In} {E E' : List Int} (h : ¬ (a = b ∧ E = E' ∧ C = C')) : eqP a b C C' E E' = false := by
  cases e : eqP a b C C' E E' with
  | false => rfl
  | true => exact absurd (eqP_iff.1 e) h
theorem ne_at {α : Type} {l r : List α} {i : Nat} {x y : α} (hx : l[i]? = some x) (hy : r[i]? = some y) (h : ¬ x = y) : ¬ l = r := fun e => by
  subst e
  rw [hx] at hy
  injection hy with hy
  exact h hy
set_option maxRecDepth 100000 in
set_option maxHeartbeats 4000000 in
theorem requal_any (a b : Bool) (ac ac' ae ae' : Option Addr) (cc cc' ce ce' : Nat) (C C' : List In) (E E' : List Int) (w : World) (h1 : C.length ≤ 9223372036854775806) (h2 : C'.length ≤ 9223372036854775806) (h3 : E.length ≤ 9223372036854775806) (h4 : E'.length ≤ 9223372036854775806) (hr1 : Hid (IRow w ac C)) (hr2 : Hid (IRow w ac' C')) (he1 : Hid (Row .i64 w ae E)) (he2 : Hid (Row .i64 w ae' E')) :
    Calls Tryd.prog 47 #[.agg #[.bool a, .slice ac C.length cc, .slice ae E.length ce], .agg #[.bool b, .slice ac' C'.length cc', .slice ae' E'.length ce']] w fun e w' => e = .returned (.bool (eqP a b C C' E E')) ∧ Below w.heap.size w w' := by
  obtain ⟨w1, hw1⟩ : ∃ wx, wx = (w.alloc (.cells #[.bool a, .slice ac C.length cc, .slice ae E.length ce] 25)).alloc (.cells #[.bool b, .slice ac' C'.length cc', .slice ae' E'.length ce'] 25) := ⟨_, rfl⟩
  have hB1 : Below w.heap.size w w1 := by rw [hw1]; exact below2 _ _ _
  obtain ⟨kp, kq⟩ := blk2 w #[.bool a, .slice ac C.length cc, .slice ae E.length ce] #[.bool b, .slice ac' C'.length cc', .slice ae' E'.length ce'] 25 25
  rw [← hw1] at kp kq
  have HB1 := hide_ hB1
  have KP := hide_ kp
  have KQ := hide_ kq
  have HR1 := hide_ (hr1.out.later hB1)
  have HR2 := hide_ (hr2.out.later hB1)
  have HE1 := hide_ (he1.out.later hB1)
  have HE2 := hide_ (he2.out.later hB1)
  have p0 := kp.cell 0; have p1 := kp.cell 1; have p2 := kp.cell 2
  have q0 := kq.cell 0; have q1 := kq.cell 1; have q2 := kq.cell 2
  simp at p0 p1 p2 q0 q1 q2
  clear hB1 kp kq
  have HNo := hide_ (fun h => eqP_no (a := a) (b := b) (C := C) (C' := C') (E := E) (E' := E') h)
  have HYes := hide_ (fun h => (eqP_iff (a := a) (b := b) (C := C) (C' := C') (E := E) (E' := E')).2 h)
  generalize eqP a b C C' E E' = R at *
  by_cases hab : a = b
  case neg =>
    have hR : R = false := HNo.out (fun h => hab h.1)
    subst hR
    have hb : (a != b) = true := by simpa using hab
    have hb2 : (a == b) = false := by simpa using hab
    clear HNo HYes
    go_enter Tryd.func47, Tryd.ntmps47
    go_upto_region 1 with fail
    rw [← hw1]
    clear hw1 hab
    go_wp2
    go_ret
    exact ⟨rfl, HB1.out⟩
  subst hab
  by_cases hn : C.length = C'.length
  case neg =>
    have hR : R = false := HNo.out (fun h => hn (by rw [h.2.2]))
    subst hR
    have hb : ((C.length : Int) != (C'.length : Int)) = true := by simp; omega
    have hb2 : (C.length != C'.length) = true := by simpa using hn
    clear HNo HYes hn
    go_enter Tryd.func47, Tryd.ntmps47
    go_upto_region 1 with fail
    rw [← hw1]
    clear hw1
    go_wp2
    go_ret
    exact ⟨rfl, HB1.out⟩
  by_cases hm : E.length = E'.length
  case neg =>
    have hR : R = false := HNo.out (fun h => hm (by rw [h.2.1]))
    subst hR
    have hb : ((C.length : Int) != (C'.length : Int)) = false := by simp; omega
    have hb2 : (C.length != C'.length) = false := by simpa using hn
    have hc : ((E.length : Int) != (E'.length : Int)) = true := by simp; omega
    have hc2 : (E.length != E'.length) = true := by simpa using hm
    clear HNo HYes hn hm
    go_enter Tryd.func47, Tryd.ntmps47
    go_upto_region 1 with fail
    rw [← hw1]
    clear hw1
    go_wp2
    go_ret
    exact ⟨rfl, HB1.out⟩
  have hb : ((C.length : Int) != (C'.length : Int)) = false := by simp; omega
  have hb2 : (C.length != C'.length) = false := by simpa using hn
  have hc : ((E.length : Int) != (E'.length : Int)) = false := by simp; omega
  have hc2 : (E.length != E'.length) = false := by simpa using hm
  have HN := hide_ hn
  have HM := hide_ hm
  clear hn hm
  go_enter Tryd.func47, Tryd.ntmps47
  go_upto_region 1 with fail
  rw [← hw1]
  clear hw1
  go_wp2_with fail
  clear p0 p1 p2 q0 q1 q2 hb hb2 hc hc2
  go_loopw [5] (fun x5 wr => ∃ j : Nat, j ≤ C.length ∧ x5 = .int .i64 (j : Int) ∧ Hid (∀ (i : Nat) (x y : In), i < j → C[i]? = some x → C'[i]? = some y → x = y) ∧ Hid (Below w1.heap.size w1 wr)) (fun x5 _ => C.length - (intOf x5).toNat)
  case atStart => exact ⟨0, Nat.zero_le _, rfl, hide_ (fun i x y hi => by omega), hide_ (Below.refl _ _)⟩
  case round =>
    obtain ⟨j, hj, rfl, HA, HB⟩ := hrel
    generalize wr = wq at *
    have KPq := hide_ (KP.out.later HB.out)
    have KQq := hide_ (KQ.out.later HB.out)
    have HBq := hide_ (below_to HB1.out HB.out)
    have p1 := KPq.out.cell 1; have q1 := KQq.out.cell 1; have p2 := KPq.out.cell 2; have q2 := KQq.out.cell 2
    simp at p1 q1 p2 q2
    by_cases hlt : j < C.length
    · have hlt' : (j : Int) < C.length := by omega
      have hltr : j < C'.length := by have := HN.out; omega
      have hltr' : (j : Int) < C'.length := by omega
      obtain ⟨b, off, rfl, -, hcs⟩ := (HR1.out.later HB.out).open (by omega)
      obtain ⟨b', off', rfl, -, hcs'⟩ := (HR2.out.later HB.out).open (by omega)
      have hx : C[j]? = some (C[j]'hlt) := List.getElem?_eq_getElem hlt
      have hy : C'[j]? = some (C'[j]'hltr) := List.getElem?_eq_getElem hltr
      have cx := hcs j _ hx
      have cy := hcs' j _ hy
      have HX := hide_ hx
      have HY := hide_ hy
      generalize C[j]'hlt = x at *
      generalize C'[j]'hltr = y at *
      have x0 := cx 0 (by decide); have x1 := cx 1 (by decide); have x2 := cx 2 (by decide); have x3 := cx 3 (by decide)
      have y0 := cy 0 (by decide); have y1 := cy 1 (by decide); have y2 := cy 2 (by decide); have y3 := cy 3 (by decide)
      simp [inc] at x0 x1 x2 x3 y0 y1 y2 y3
      clear hx hy hcs hcs' cx cy
      go_upto_region 6 with fail
      by_cases e0 : x.op = y.op
      case neg =>
        have hR : R = false := HNo.out (fun h => ne_at HX.out HY.out (fun q => e0 (by rw [q])) h.2.2)
        subst hR
        clear HNo HYes
        go_quiet (fail)
        go_wp2_with fail
        go_ret
        exact ⟨rfl, below_drewN HBq.out _⟩
      by_cases e1 : x.a = y.a
      case neg =>
        have hR : R = false := HNo.out (fun h => ne_at HX.out HY.out (fun q => e1 (by rw [q])) h.2.2)
        subst hR
        clear HNo HYes
        go_quiet (fail)
        go_wp2_with fail
        go_ret
        exact ⟨rfl, below_drewN HBq.out _⟩
      by_cases e2 : x.b = y.b
      case neg =>
        have hR : R = false := HNo.out (fun h => ne_at HX.out HY.out (fun q => e2 (by rw [q])) h.2.2)
        subst hR
        clear HNo HYes
        go_quiet (fail)
        go_wp2_with fail
        go_ret
        exact ⟨rfl, below_drewN HBq.out _⟩
      by_cases e3 : x.c = y.c
      case neg =>
        have hR : R = false := HNo.out (fun h => ne_at HX.out HY.out (fun q => e3 (by rw [q])) h.2.2)
        subst hR
        clear HNo HYes
        go_quiet (fail)
        go_wp2_with fail
        go_ret
        exact ⟨rfl, below_drewN HBq.out _⟩
      have HA2 : Hid (∀ (i : Nat) (x y : In), i < j + 1 → C[i]? = some x → C'[i]? = some y → x = y) := hide_ (fun i a b hi ha hb => by
        rcases Nat.lt_or_ge i j with h | h
        · exact HA.out i a b h ha hb
        · obtain rfl : i = j := by omega
          rw [HX.out] at ha
          rw [HY.out] at hb
          injection ha with ha
          injection hb with hb
          rw [← ha, ← hb]
          exact In.ext' e0 e1 e2 e3)
      go_quiet (fail)
      go_wp2_with fail
      go_roundw
      case rel => exact ⟨j + 1, by omega, by go_num, HA2, hide_ (below_drewN HB.out _)⟩
      case measure => simp [intOf]; omega
    · obtain rfl : j = C.length := by omega
      have HCC : Hid (C = C') := hide_ (List.ext_getElem? (fun i => by
        rcases Nat.lt_or_ge i C.length with h | h
        · have h' : i < C'.length := by have := HN.out; omega
          rw [List.getElem?_eq_getElem h, List.getElem?_eq_getElem h']
          exact congrArg some (HA.out i _ _ h (List.getElem?_eq_getElem h) (List.getElem?_eq_getElem h'))
        · rw [List.getElem?_eq_none h, List.getElem?_eq_none (by have := HN.out; omega)]))
      have HE1q := hide_ (HE1.out.later HB.out)
      have HE2q := hide_ (HE2.out.later HB.out)
      generalize hwz : wq = wz at *
      clear hwz
      go_wp2_with fail
      clear p1 p2 q1 q2
      go_loopw [6] (fun x6 wr => ∃ j : Nat, j ≤ E.length ∧ x6 = .int .i64 (j : Int) ∧ Hid (∀ (i : Nat), i < j → E.getD i 0 = E'.getD i 0) ∧ Hid (Below wz.heap.size wz wr)) (fun x6 _ => E.length - (intOf x6).toNat)
      case atStart => exact ⟨0, Nat.zero_le _, rfl, hide_ (fun i hi => by omega), hide_ (Below.refl _ _)⟩
      case round =>
        obtain ⟨j, hj, rfl, HA3, HB3⟩ := hrel
        generalize wr = wy at *
        have KPy := hide_ (KPq.out.later HB3.out)
        have KQy := hide_ (KQq.out.later HB3.out)
        have HBy := hide_ (below_to HBq.out HB3.out)
        have p2 := KPy.out.cell 2; have q2 := KQy.out.cell 2
        simp at p2 q2
        by_cases hlt : j < E.length
        · have hlt' : (j : Int) < E.length := by omega
          have hltr : j < E'.length := by have := HM.out; omega
          have hltr' : (j : Int) < E'.length := by omega
          obtain ⟨b, off, rfl, -, hcs⟩ := (HE1q.out.later HB3.out).open (by omega)
          obtain ⟨b', off', rfl, -, hcs'⟩ := (HE2q.out.later HB3.out).open (by omega)
          have x0 := hcs j hlt
          have y0 := hcs' j hltr
          obtain ⟨x, hx⟩ : ∃ x, E.getD j 0 = x := ⟨_, rfl⟩
          obtain ⟨y, hy⟩ : ∃ y, E'.getD j 0 = y := ⟨_, rfl⟩
          rw [hx] at x0
          rw [hy] at y0
          have HX := hide_ hx
          have HY := hide_ hy
          clear hcs hcs' hx hy
          by_cases hxy : x = y
          · have hne : (x != y) = false := by simpa using hxy
            have HA4 : Hid (∀ (i : Nat), i < j + 1 → E.getD i 0 = E'.getD i 0) := hide_ (fun i hi => by
              rcases Nat.lt_or_ge i j with h | h
              · exact HA3.out i h
              · obtain rfl : i = j := by omega
                rw [HX.out, HY.out, hxy])
            clear hxy
            go_wp2_with fail
            go_quiet (fail)
            go_wp2_with fail
            go_roundw
            case rel => exact ⟨j + 1, by omega, by go_num, HA4, hide_ (below_drewN HB3.out _)⟩
            case measure => simp [intOf]; omega
          · have hne : (x != y) = true := by simpa using hxy
            have hR : R = false := HNo.out (fun h => hxy (by rw [← HX.out, ← HY.out, h.2.1]))
            subst hR
            clear hxy HNo HYes
            go_wp2_with fail
            go_quiet (fail)
            go_wp2_with fail
            go_ret
            exact ⟨rfl, below_drewN HBy.out _⟩
        · obtain rfl : j = E.length := by omega
          have hR : R = true := HYes.out ⟨by first | trivial | rfl, List.ext_getElem? (fun i => by
            rcases Nat.lt_or_ge i E.length with h | h
            · have h' : i < E'.length := by have := HM.out; omega
              have := HA3.out i h
              rw [List.getD, List.getD, List.getElem?_eq_getElem h, List.getElem?_eq_getElem h'] at this
              rw [List.getElem?_eq_getElem h, List.getElem?_eq_getElem h']
              exact congrArg some this
            · rw [List.getElem?_eq_none h, List.getElem?_eq_none (by have := HM.out; omega)]), HCC.out⟩
          subst hR
          clear HNo HYes
          go_wp2
          go_ret
          exact ⟨rfl, HBy.out⟩
end Go.Proofs.YteadmiikenpjeaaDoor
