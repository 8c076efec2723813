/- TokensPlaces. -/
import Derived.Test.YtoodafhljgdghaaR
namespace Go.Proofs.Ytoodafhljgdghaa
open Go.RowKit
set_option linter.unusedVariables false

theorem i64w (n : Int) (h : -9223372036854775808 ≤ n ∧ n ≤ 9223372036854775807) : IntKind.i64.wrap n = n := by rw [IntKind.wrap_i64]; omega
theorem Tw.form {w : List UInt8} (h : Tw w) : ∃ (K : Int) (X : ByteArray) (N : Int), ∀ p, tkW w p = ⟨K, X, N, p, p + w.length⟩ := by
  obtain ⟨c, r, rfl, _⟩ := h
  unfold tkW
  simp only
  cases letter c <;> cases digit c
  · exact ⟨3, _, 0, fun p => rfl⟩
  · exact ⟨2, _, _, fun p => rfl⟩
  · exact ⟨1, _, 0, fun p => rfl⟩
  · exact ⟨1, _, 0, fun p => rfl⟩
/-- One token of a text's places. -/
theorem pl_step {s : ByteArray} {q : Nat} {t : Tk} {ts : List Tk} (hs : s.size ≤ 65536) (hq : q ≤ s.size) (h : PlOk (t :: ts) (s.data.toList.drop q) q) : ∃ (K : Int) (X : ByteArray) (N : Int) (g n : Nat),
    t = ⟨K, X, N, q + g, q + g + n⟩ ∧ 0 < n ∧ q + g + n ≤ s.size ∧ gp false (s.extract q (q + g)).data.toList false = true ∧ cutT (s.extract (q + g) (q + g + n)) = ([⟨K, X, N, 0, n⟩], 0, 0) ∧ Tw (s.extract (q + g) (q + g + n)).data.toList ∧ (s.extract (q + g) (q + g + n)).size = n ∧ tkW (s.extract (q + g) (q + g + n)).data.toList (q + g) = t ∧ PlOk ts (s.data.toList.drop (q + g + n)) (q + g + n) := by
  obtain ⟨G, w, r, h1, h2, h3, h4, h5⟩ := h
  obtain ⟨K, X, N, hf⟩ := h3.form
  have hlen := congrArg List.length h1
  rw [List.length_drop, ← Lib.size_eq, List.length_append, List.length_append] at hlen
  have hpos := h3.pos
  have eG : (s.extract q (q + G.length)).data.toList = G := by
    rw [Lib.extract_data, h1, show q + G.length - q = G.length by omega, List.take_left']
    rfl
  have eD : s.data.toList.drop (q + G.length) = w ++ r := by
    rw [← List.drop_drop, h1, List.drop_left']
    rfl
  have eW : (s.extract (q + G.length) (q + G.length + w.length)).data.toList = w := by
    rw [Lib.extract_data, eD, show q + G.length + w.length - (q + G.length) = w.length by omega, List.take_left']
    rfl
  have eR : s.data.toList.drop (q + G.length + w.length) = r := by
    rw [← List.drop_drop, eD, List.drop_left']
    rfl
  have eS : (s.extract (q + G.length) (q + G.length + w.length)).size = w.length := by rw [Lib.size_eq, eW]
  refine ⟨K, X, N, G.length, w.length, by rw [h4, hf], hpos, by omega, by rw [eG]; exact h2, ?_, by rw [eW]; exact h3, eS, by rw [eW, h4], by rw [eR]; exact h5⟩
  rw [cutT, if_neg (by rw [eS]; omega), eW, cut_alone h3, hf]
  simp
theorem getD_drop {ts : List Tk} {k : Nat} (h : k < ts.length) : ts.drop k = ts.getD k tk0 :: ts.drop (k + 1) := by
  rw [List.drop_eq_getElem_cons h]
  simp [List.getD, h]
set_option maxRecDepth 100000 in
set_option maxHeartbeats 8000000 in
theorem places_any (s : ByteArray) (w : World) : Calls Try.prog 5 #[.string s] w fun e w' => e = .returned (.bool true) ∧ Below w.heap.size w w' := by
  have hfew := cut_few s
  obtain ⟨⟨ts, E, A⟩, hR⟩ : ∃ R, cutT s = R := ⟨_, rfl⟩
  rw [hR] at hfew
  have hfew : ts.length ≤ 65536 := hfew
  have HR := hide_ hR
  have hcl : (E ≠ 0 → ts = [] ∧ A ≤ s.size) ∧ (E = 0 → A = 0 ∧ s.size ≤ 65536 ∧ PlOk ts s.data.toList 0) := by
    unfold cutT at hR
    by_cases hs : 65536 < s.size
    · rw [if_pos hs] at hR
      obtain ⟨rfl, rfl, rfl⟩ : [] = ts ∧ 4 = E ∧ 0 = A := by simpa using hR
      exact ⟨fun _ => ⟨rfl, Nat.zero_le _⟩, fun h => by cases h⟩
    · rw [if_neg hs] at hR
      have hf := cut_form s.data.toList 0
      have hp := places s.data.toList 0
      rw [hR] at hf hp
      rw [← Lib.size_eq] at hf
      exact ⟨fun h => ⟨(hf.1 h).1, by have := (hf.1 h).2.2.1; simp only at this; omega⟩, fun h => ⟨hf.2 h, by omega, hp h⟩⟩
  clear hR
  obtain ⟨hc1, hc2⟩ := hcl
  go_enter Try.func5, Try.ntmps5
  go_wp2_with fail
  refine (first_any w).mono ?_; rintro e w1 ⟨rfl, hB1⟩
  have HB1 := hide_ hB1
  clear hB1
  go_wp2_with fail
  refine (cut_is HR.out w1).mono ?_; rintro e w2 ⟨a, cap, rfl, hcap, HT2, -, HB2⟩
  have HB2 := hide_ (HB1.out.trans (HB2.out.mono HB1.out.size))
  have HK2 := hide_ (Blk.newA w2 #[.int .i64 E, .int .i64 A] 26)
  have HB3 := hide_ (HB2.out.alloc HB2.out.size (.cells #[.int .i64 E, .int .i64 A] 26))
  have HT3 := hide_ (HT2.out.later ((Below.refl _ w2).alloc (Nat.le_refl _) (.cells #[.int .i64 E, .int .i64 A] 26)))
  clear HB1 HB2 HT2 HR
  by_cases hE : E = 0
  · obtain ⟨rfl, hs, hP⟩ := hc2 hE
    subst hE
    have HP := hide_ hP
    have hs' : (s.size : Int) ≤ 65536 := by omega
    clear hc1 hc2 hP
    go_wp2_with fail
    go_loopw [5, 6] (fun x5 x6 wr => ∃ (q k : Nat), x5 = .int .i64 q ∧ x6 = .int .i64 k ∧ q ≤ s.size ∧ k ≤ ts.length ∧ Hid (PlOk (ts.drop k) (s.data.toList.drop q) q) ∧ Hid (TRow wr a ts) ∧ Hid (Blk wr w2.heap.size 26 [.int .i64 0, .int .i64 0]) ∧ Hid (Below w.heap.size w wr)) (fun _ k _ => ts.length - (intOf k).toNat)
    case atStart => exact ⟨0, 0, rfl, rfl, Nat.zero_le _, Nat.zero_le _, by rw [List.drop_zero, List.drop_zero]; exact HP, HT3, HK2, HB3⟩
    case round =>
      clear HP HT3 HK2 HB3
      obtain ⟨q, k, rfl, rfl, hq, hk, HP, HT, HK, HB⟩ := hrel
      generalize wr = wq at *
      by_cases hlt : k < ts.length
      · have hlt' : (k : Int) < ts.length := by omega
        have hP := HP.out
        rw [getD_drop hlt] at hP
        obtain ⟨K, X, N, g, n, e1, hn, hle, e2, e3, -, e5, -, e7⟩ := pl_step hs hq hP
        obtain ⟨b, o, rfl, hb, hc⟩ := HT.out.open (by omega)
        obtain ⟨x0, x1, x2, x3, x4⟩ := hc k hlt
        rw [e1] at x0 x1 x2 x3 x4
        simp only at x0 x1 x2 x3 x4
        have HP2 := hide_ e7
        have HG := hide_ e2
        have HC := hide_ e3
        clear hP e1 e2 e3 e7 hc HP
        have i1 : (q : Int) ≤ (q + g : Nat) := by omega
        have i2 : ((q + g : Nat) : Int) < (q + g + n : Nat) := by omega
        have i3 : ((q + g + n : Nat) : Int) ≤ s.size := by omega
        obtain ⟨P, hPe⟩ : ∃ P : Nat, q + g = P := ⟨_, rfl⟩
        rw [hPe] at x3 x4 i1 i2 i3 HG HC HP2 hle e5
        obtain ⟨Q, hQe⟩ : ∃ Q : Nat, P + n = Q := ⟨_, rfl⟩
        rw [hQe] at x4 i2 i3 HC HP2 hle e5
        have i4 : (Q : Int) - P = n := by omega
        have i5 : IntKind.i64.wrap (n : Int) = n := i64w _ (by omega)
        clear hPe
        obtain ⟨wA, hwA⟩ : ∃ wA, wA = wq.alloc (.cells #[.int .i64 K, .string X, .int .i64 N, .int .i64 P, .int .i64 Q] 34) := ⟨_, rfl⟩
        have KA : Blk wA wq.heap.size 34 [.int .i64 K, .string X, .int .i64 N, .int .i64 P, .int .i64 Q] := by rw [hwA]; exact Blk.newA wq _ 34
        have HBA0 : Below wq.heap.size wq wA := by rw [hwA]; exact (Below.refl _ _).alloc (Nat.le_refl _) _
        have HKA := hide_ KA
        have HTA := hide_ (HT.out.later HBA0)
        have HFA := hide_ (HK.out.later HBA0)
        have HBA := hide_ (HB.out.trans (HBA0.mono HB.out.size))
        have y3 : wA.cell? ⟨wq.heap.size, 3, none⟩ = some (.int .i64 P) := KA.cell 3
        have y4 : wA.cell? ⟨wq.heap.size, 4, none⟩ = some (.int .i64 Q) := KA.cell 4
        clear HT HK HB HBA0 KA
        go_upto_region 11 with fail
        rw [← hwA]
        clear hwA x0 x1 x2 x3 x4
        have HGc : Hid (Calls Try.prog 12 #[.string (s.extract q P), .bool false] wA fun e w' => e = .returned (.bool true) ∧ wA = w') := by
          have := gap_any (s.extract q P) false wA (by rw [ByteArray.size_extract]; omega)
          rw [HG.out] at this
          exact this
        go_wp2_with (go_at_call 12; refine HGc.out.mono ?_; rintro e w' ⟨rfl, rfl⟩)
        refine (cut_is HC.out wA).mono ?_; rintro e w5 ⟨a5, c5, rfl, hc5, -, HO5, HB5⟩
        obtain ⟨go, co, ys, hv, -, hnc, -, -, hty, hKo⟩ := ownS_blk HO5.out (by simp)
        injection hv with hv1 hv2 hv3
        subst hv1
        have G5 : Below wA.heap.size wA (w5.alloc (.cells #[.int .i64 0, .int .i64 0] 26)) := HB5.out.alloc HB5.out.size _
        have hKoA := hKo.alloc (.cells #[.int .i64 0, .int .i64 0] 26)
        have hFo := Blk.newA w5 #[.int .i64 0, .int .i64 0] 26
        have hat : ∀ j, j < 5 → ys[j]? = (tkc ⟨K, X, N, 0, n⟩)[j]? := fun j hj => by
          have := congrArg (fun l => l[j]?) hty
          rw [List.getElem?_take, if_pos (by simp; omega)] at this
          rw [this]; rfl
        obtain ⟨w6, hw6⟩ : ∃ w6, w6 = w5.alloc (.cells #[.int .i64 0, .int .i64 0] 26) := ⟨_, rfl⟩
        rw [← hw6] at G5 hKoA hFo
        have HSS : Hid (∀ w', Below w6.heap.size w6 w' → Below w6.heap.size w6 w' ∧ (w'.cell? ⟨w5.heap.size, 0, none⟩ = some (.int .i64 0) ∧ w'.cell? ⟨w5.heap.size, 1, none⟩ = some (.int .i64 0)) ∧
            (w'.cell? ⟨go, 0, none⟩ = some (.int .i64 K) ∧ w'.cell? ⟨go, 1, none⟩ = some (.string X) ∧ w'.cell? ⟨go, 2, none⟩ = some (.int .i64 N) ∧ w'.cell? ⟨go, 3, none⟩ = some (.int .i64 0) ∧ w'.cell? ⟨go, 4, none⟩ = some (.int .i64 n)) ∧
            (w'.cell? ⟨wq.heap.size, 0, none⟩ = some (.int .i64 K) ∧ w'.cell? ⟨wq.heap.size, 1, none⟩ = some (.string X) ∧ w'.cell? ⟨wq.heap.size, 2, none⟩ = some (.int .i64 N) ∧ w'.cell? ⟨wq.heap.size, 3, none⟩ = some (.int .i64 P) ∧ w'.cell? ⟨wq.heap.size, 4, none⟩ = some (.int .i64 Q))) := fun w' hB => by
          have k1 := hFo.later hB
          have k2 := hKoA.later hB
          have k3 := HKA.out.later (G5.trans (hB.mono G5.size))
          exact ⟨hB, ⟨k1.cell 0, k1.cell 1⟩, ⟨(k2.cell 0).trans (hat 0 (by decide)), (k2.cell 1).trans (hat 1 (by decide)), (k2.cell 2).trans (hat 2 (by decide)), (k2.cell 3).trans (hat 3 (by decide)), (k2.cell 4).trans (hat 4 (by decide))⟩, ⟨k3.cell 0, k3.cell 1, k3.cell 2, k3.cell 3, k3.cell 4⟩⟩
        have HB6 := hide_ G5
        clear G5 hKoA hFo hat hKo hty HO5 HB5 hnc hc5 hv2 hv3
        go_upto_region 14 with fail
        rw [← hw6]
        clear hw6
        go_wp2_with fail
        go_region_held_law (fun w' => Below w6.heap.size w6 w' ∧ (w'.cell? ⟨w5.heap.size, 0, none⟩ = some (.int .i64 0) ∧ w'.cell? ⟨w5.heap.size, 1, none⟩ = some (.int .i64 0)) ∧
            (w'.cell? ⟨go, 0, none⟩ = some (.int .i64 K) ∧ w'.cell? ⟨go, 1, none⟩ = some (.string X) ∧ w'.cell? ⟨go, 2, none⟩ = some (.int .i64 N) ∧ w'.cell? ⟨go, 3, none⟩ = some (.int .i64 0) ∧ w'.cell? ⟨go, 4, none⟩ = some (.int .i64 n)) ∧
            (w'.cell? ⟨wq.heap.size, 0, none⟩ = some (.int .i64 K) ∧ w'.cell? ⟨wq.heap.size, 1, none⟩ = some (.string X) ∧ w'.cell? ⟨wq.heap.size, 2, none⟩ = some (.int .i64 N) ∧ w'.cell? ⟨wq.heap.size, 3, none⟩ = some (.int .i64 P) ∧ w'.cell? ⟨wq.heap.size, 4, none⟩ = some (.int .i64 Q))) (first | assumption | exact HSS.out _ ((Below.refl _ _).drew))
          (first
            | (go_at_call 13; refine (bare_any _ _ _ _ _ _).mono ?_; rintro e w9 ⟨rfl, hB9⟩; have G9 := HSS.out w9 (below_to (by first | assumption | exact And.left (by assumption)) hB9); clear hB9))
        obtain ⟨B9, -, -, -, -, -, -, y4⟩ := G9
        have HT9 := hide_ (HTA.out.later (HB6.out.trans (B9.mono HB6.out.size)))
        have HK9 := hide_ (HFA.out.later (HB6.out.trans (B9.mono HB6.out.size)))
        have HB9 := hide_ (HBA.out.trans ((HB6.out.trans (B9.mono HB6.out.size)).mono HBA.out.size))
        clear B9 HSS HB6 HTA HFA HBA HKA
        go_wp2
        go_roundw
        case rel => exact ⟨Q, k + 1, rfl, by go_num, by omega, by omega, HP2, HT9, HK9, HB9⟩
        case measure => simp [intOf]; omega
      · obtain rfl : k = ts.length := by omega
        have HG : Hid (gp false (s.extract q s.size).data.toList true = true) := by
          have := HP.out
          rw [List.drop_of_length_le (Nat.le_refl _)] at this
          show _ = _
          rw [Lib.extract_to_end]
          exact this
        have d0 := HK.out.cell 1
        simp at d0
        have hq' : (q : Int) ≤ s.size := by omega
        have HGc : Hid (Calls Try.prog 12 #[.string (s.extract q s.size), .bool true] wq fun e w' => e = .returned (.bool true) ∧ wq = w') := by
          have := gap_any (s.extract q s.size) true wq (by rw [ByteArray.size_extract]; omega)
          rw [HG.out] at this
          exact this
        go_wp2_with (go_at_call 12; refine HGc.out.mono ?_; rintro e w' ⟨rfl, rfl⟩)
        go_ret
        exact ⟨rfl, HB.out⟩
  · obtain ⟨rfl, hA⟩ := hc1 hE
    have hE' : ((E : Int) == 0) = false := by simp; exact hE
    have hA' : (A : Int) ≤ s.size := by omega
    clear hc1 hc2
    go_wp2
    go_ret
    exact ⟨by first | rfl | simp, HB3.out⟩
end Go.Proofs.Ytoodafhljgdghaa
