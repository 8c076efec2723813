/- The law's small functions: num, rest, sameInts, Equal; a list written over. -/
import Derived.Test.YtlfjcihhcphjkaaDoorOl
import Derived.BigQuiet
namespace Go.Proofs.YtlfjcihhcphjkaaDoor
open Go.RowKit
set_option linter.unusedVariables false

theorem num_any (n : Int) (w : World) : Calls Tryd.prog 22 #[.int .i64 n] w fun e w' => e = .returned (.int .i64 n) ∧ w = w' := by
  go_enter Tryd.func22, Tryd.ntmps22
  go_wp2
  go_ret
  exact ⟨rfl, rfl⟩
theorem tmod_in (n m : Int) (hm : 0 < m) : -m < n.tmod m ∧ n.tmod m < m := by
  rcases Int.le_total 0 n with h | h
  · rw [Int.tmod_eq_emod_of_nonneg h]
    have h1 := Int.emod_nonneg n (show m ≠ 0 by omega)
    have h2 := Int.emod_lt_of_pos n hm
    omega
  · have e : n = -(-n) := by omega
    rw [e, Int.neg_tmod, Int.tmod_eq_emod_of_nonneg (by omega)]
    have h1 := Int.emod_nonneg (-n) (show m ≠ 0 by omega)
    have h2 := Int.emod_lt_of_pos (-n) hm
    omega
set_option maxRecDepth 100000 in
set_option maxHeartbeats 4000000 in
theorem rest_any (n m : Int) (w : World) (hm : 0 < m) (hm2 : m ≤ 1000000000000) : Calls Tryd.prog 23 #[.int .i64 n, .int .i64 m] w fun e w' => ∃ r : Int, e = .returned (.int .i64 r) ∧ 0 ≤ r ∧ r < m ∧ w = w' := by
  have hz : (m == 0) = false := by simp; omega
  obtain ⟨h1, h2⟩ := tmod_in n m hm
  generalize hq : n.tmod m = q at *
  have hr0 : 0 ≤ (q + m).tmod m := by rw [Int.tmod_eq_emod_of_nonneg (by omega)]; exact Int.emod_nonneg _ (by omega)
  have hr1 : (q + m).tmod m < m := (tmod_in _ m hm).2
  have HQ := hide_ hq
  generalize hs : (q + m).tmod m = r at *
  go_enter Tryd.func23, Tryd.ntmps23
  go_wp2
  go_ret
  exact ⟨r, by rfl, hr0, hr1, rfl⟩
set_option maxRecDepth 100000 in
set_option maxHeartbeats 4000000 in
theorem sameInts_yes (a b : Option Addr) (c d n : Nat) (l : List Int) (w : World) (hl : Hid (l.length = n)) (hn : n ≤ 9223372036854775806) (hr : Hid (Row .i64 w a l)) (hs : Hid (Row .i64 w b l)) :
    Calls Tryd.prog 19 #[.slice a n c, .slice b n d] w fun e w' => e = .returned (.bool true) ∧ Below w.heap.size w w' := by
  go_enter Tryd.func19, Tryd.ntmps19
  go_wp2_with fail
  go_loopw [5] (fun x5 wr => ∃ i : Nat, i ≤ n ∧ x5 = .int .i64 (i : Int) ∧ Hid (Below w.heap.size w wr)) (fun x5 _ => n - (intOf x5).toNat)
  case atStart => exact ⟨0, Nat.zero_le _, rfl, hide_ (Below.refl _ _)⟩
  case round =>
    obtain ⟨i, hi, rfl, HB⟩ := hrel
    generalize wr = wq at *
    by_cases hlt : i < n
    · have hlt' : (i : Int) < n := by omega
      have hil : i < l.length := by rw [hl.out]; exact hlt
      obtain ⟨ba, oa, rfl, -, ca⟩ := (hr.out.later HB.out).open (by omega)
      obtain ⟨bb, ob, rfl, -, cb⟩ := (hs.out.later HB.out).open (by omega)
      have x0 := ca i hil
      have y0 := cb i hil
      generalize l.getD i 0 = q at *
      clear ca cb hil
      go_wp2_with fail
      go_quiet (fail)
      have HBq := hide_ (below_drewN HB.out nq)
      go_wp2_with fail
      go_roundw
      case rel => exact ⟨i + 1, by omega, by go_num, HBq⟩
      case measure => simp [intOf]; omega
    · obtain rfl : i = n := by omega
      go_wp2
      go_ret
      exact ⟨rfl, HB.out⟩
set_option maxRecDepth 100000 in
set_option maxHeartbeats 4000000 in
theorem equal_yes (a b : Option Addr) (c d n : Nat) (l : List Nv) (w : World) (hl : Hid (l.length = n)) (hn : n ≤ 9223372036854775806) (hr : Hid (VRow w a l)) (hs : Hid (VRow w b l)) :
    Calls Tryd.prog 13 #[.slice a n c, .slice b n d] w fun e w' => e = .returned (.bool true) ∧ Below w.heap.size w w' := by
  go_enter Tryd.func13, Tryd.ntmps13
  go_wp2_with fail
  go_loopw [5] (fun x5 wr => ∃ i : Nat, i ≤ n ∧ x5 = .int .i64 (i : Int) ∧ Hid (Below w.heap.size w wr)) (fun x5 _ => n - (intOf x5).toNat)
  case atStart => exact ⟨0, Nat.zero_le _, rfl, hide_ (Below.refl _ _)⟩
  case round =>
    obtain ⟨i, hi, rfl, HB⟩ := hrel
    generalize wr = wq at *
    by_cases hlt : i < n
    · have hlt' : (i : Int) < n := by omega
      have hil : i < l.length := by have := hl.out; omega
      obtain ⟨b1, o1, rfl, -, h1⟩ := (hr.out.later HB.out).open (by omega)
      obtain ⟨b2, o2, rfl, -, h2⟩ := (hs.out.later HB.out).open (by omega)
      have hx : l[i]? = some (l[i]'hil) := List.getElem?_eq_getElem hil
      have u0 := h1 i _ hx 0 (by decide); have u1 := h1 i _ hx 1 (by decide); have u2 := h1 i _ hx 2 (by decide)
      have t0 := h2 i _ hx 0 (by decide); have t1 := h2 i _ hx 1 (by decide); have t2 := h2 i _ hx 2 (by decide)
      simp [nvc] at u0 u1 u2 t0 t1 t2
      generalize l[i]'hil = x at *
      clear h1 h2 hx hil
      go_wp2_with fail
      go_quiet (fail)
      have HBq : ∀ q, Hid (Below w.heap.size w (wq.drewN q)) := fun q => hide_ (below_drewN HB.out q)
      go_wp2
      go_roundw
      case rel => exact ⟨i + 1, by omega, by go_num, HBq _⟩
      case measure => simp [intOf]; omega
    · obtain rfl : i = n := by omega
      go_wp2
      go_ret
      exact ⟨rfl, HB.out⟩
set_option maxRecDepth 100000 in
set_option maxHeartbeats 4000000 in
theorem tame_any (aT : Option Addr) (cT : Nat) (T : List Ty) (R : Value) (v : Value) (p : List Int) (B : Nat) (w : World) (hn : T.length ≤ 1000000000) (hp : p.length ≤ 1000000000) (hB : B ≤ w.heap.size) (hT : Hid (TRow w aT T)) (ho : Hid (IOwn w B v p)) :
    Calls Tryd.prog 9 #[.agg #[.slice aT T.length cT, R], v] w fun e w' => ∃ p', e = .returned v ∧ Hid (IOwn w' B v p') ∧ Hid (p'.length = p.length) ∧ Hid (Upd (fun k => v.ownBlock = some k) w w') := by
  obtain ⟨w1, hw1⟩ : ∃ wx, wx = w.alloc (.cells #[.slice aT T.length cT, R] 25) := ⟨_, rfl⟩
  have b1 : Below w.heap.size w w1 := by rw [hw1]; exact below1 _ _
  have k1 : Blk w1 w.heap.size 25 [.slice aT T.length cT, R] := by rw [hw1]; exact Blk.newA w _ _
  have K1 := hide_ k1
  have HB1 := hide_ b1
  have HO1 := hide_ (ho.out.later b1)
  have HT1 := hide_ (hT.out.later b1)
  have i0 := k1.cell 0
  simp at i0
  obtain ⟨av, cv, hav⟩ := ho.out.slice
  subst hav
  clear b1 k1
  go_enter Tryd.func9, Tryd.ntmps9
  go_upto_region 2 with fail
  rw [← hw1]
  clear hw1
  go_wp2_with fail
  go_loop [5, 6] (fun x5 x6 => ∃ (i : Nat) (m : Int), i ≤ T.length ∧ x6 = .int .i64 (i : Int) ∧ x5 = .int .i64 m) (fun _ x6 => T.length - (intOf x6).toNat)
  case atStart => exact ⟨0, 0, Nat.zero_le _, rfl, rfl⟩
  case round =>
    obtain ⟨i, m, hi, rfl, rfl⟩ := hrel
    by_cases hlt : i < T.length
    · have hlt' : (i : Int) < T.length := by omega
      have hx : T[i]? = some (T[i]'hlt) := List.getElem?_eq_getElem hlt
      obtain ⟨bT, oT, rfl, hbT, hcT⟩ := HT1.out.open (by omega)
      obtain ⟨va, vc, hty, -, -, -⟩ := hcT i _ hx
      generalize T[i]'hlt = t at *
      have y0 := hty 0 (by decide); have y1 := hty 1 (by decide)
      simp [tyc] at y0 y1
      clear hcT hty hx
      by_cases h5 : t.k = 5
      · have h5' : (t.k == 5) = true := by simp [h5]
        go_wp2
        go_round
        case rel => exact ⟨i + 1, _, by omega, by go_num, rfl⟩
        case measure => simp [intOf]; omega
      · have h5' : (t.k == 5) = false := by simp [h5]
        go_wp2
        go_round
        case rel => exact ⟨i + 1, m, by omega, by go_num, rfl⟩
        case measure => simp [intOf]; omega
    · obtain rfl : i = T.length := by omega
      by_cases h40 : m ≤ 40
      · go_wp2
        go_ret
        exact ⟨rfl, p, HO1, rfl, hide_ (Upd.of_below HB1.out)⟩
      · go_wp2_with fail
        go_loopw [7] (fun x7 wr => ∃ (j : Nat) (q : List Int), j ≤ p.length ∧ x7 = .int .i64 (j : Int) ∧ Hid (q.length = p.length) ∧ Hid (IOwn wr B (.slice av p.length cv) q) ∧ Hid (Upd (fun k => (Value.slice av p.length cv).ownBlock = some k) w wr)) (fun x7 _ => p.length - (intOf x7).toNat)
        case atStart => exact ⟨0, p, Nat.zero_le _, rfl, rfl, HO1, hide_ (Upd.of_below HB1.out)⟩
        case round =>
          obtain ⟨j, q, hj, rfl, HL, HO, HU⟩ := hrel
          generalize wr = wq at *
          by_cases hlt : j < p.length
          · have hlt' : (j : Int) < p.length := by omega
            have hjq : j < q.length := by have := HL.out; omega
            obtain ⟨g, cap, ys, hv, hbg, -, -, -, -, -⟩ := ownS_blk HO.out (by omega)
            injection hv with hv1 _ hv3
            subst hv1 hv3
            have c0 := HO.out.at hjq
            have f0 : wq.frozen? ⟨g, j, none⟩ = false := by
              obtain ⟨zs, hz⟩ := ownS_type HO.out (k := g) rfl
              exact hz.frozen j
            obtain ⟨h1, h2⟩ := tmod_in (q.getD j 0) 40 (by decide)
            generalize hx : (q.getD j 0).tmod 40 = x at *
            have hr0 : 0 ≤ x % 40 := Int.emod_nonneg _ (by decide)
            have hr1 : x % 40 < 40 := Int.emod_lt_of_pos _ (by decide)
            have HO2 := hide_ (HO.out.set hjq (x % 40))
            have HU2 := hide_ (HU.out.set ⟨g, j, none⟩ (.int .i64 (x % 40)) (.inl rfl))
            have HL2 : Hid ((q.set j (x % 40)).length = p.length) := hide_ (by rw [List.length_set]; exact HL.out)
            generalize q.getD j 0 = z at *
            go_wp2
            go_roundw
            case rel => exact ⟨j + 1, _, by omega, by go_num, HL2, HO2, HU2⟩
            case measure => simp [intOf]; omega
          · obtain rfl : j = p.length := by omega
            go_wp2
            go_ret
            exact ⟨q, rfl, HO, HL, HU⟩
end Go.Proofs.YtlfjcihhcphjkaaDoor
