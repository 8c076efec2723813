/- number. -/
import Derived.Test.YtlbgdgobhiokpaaDoorL
namespace Go.Proofs.YtlbgdgobhiokpaaDoor
open Go.RowKit
set_option linter.unusedVariables false

/-- Digits, as long as they are a number's that is at most this: the number, how many. -/
def numL (most : Int) : List Int → Bool → Int → Int × Nat
  | [], _, n => (n, 0)
  | c :: l, f, n => if 48 ≤ c ∧ c ≤ 57 then (if (f = false ∧ n = 0) ∨ (most - (c - 48)) / 10 < n then (n, 0) else ((numL most l false (n * 10 + (c - 48))).1, (numL most l false (n * 10 + (c - 48))).2 + 1)) else (n, 0)
theorem numL_le (most : Int) : ∀ (l : List Int) (f : Bool) (n : Int), (numL most l f n).2 ≤ l.length
  | [], _, _ => Nat.le_refl _
  | c :: l, f, n => by
    have := numL_le most l false (n * 10 + (c - 48))
    unfold numL
    split
    · split
      · simp
      · simp; exact this
    · simp
theorem tx_byte (s : ByteArray) (x : Int) (p : Nat) (h : (tx s)[p]? = some x) : 0 ≤ x ∧ x ≤ 255 := by
  obtain ⟨h1, h2⟩ := List.getElem?_eq_some_iff.1 h
  rw [← h2]
  simp only [tx, List.getElem_map]
  have := (s.data.toList[p]'(by simpa [tx] using h1)).toNat_lt
  omega
set_option maxRecDepth 100000 in
set_option maxHeartbeats 8000000 in
theorem number_any (B b p : Nat) (most : Int) (s : ByteArray) (vn vo : Value) (N : List Nd) (O : List Nat) (en : Bool) (w : World) (hR : Hid (Rdr B w b s p vn vo N O en)) (hp : p ≤ s.size) (hs : s.size ≤ 1048576) (hm0 : 255 ≤ most) (hm1 : most ≤ 18446744073709551615) :
    Calls Tryd.prog 74 #[.pointer (some ⟨b, 0, none⟩), .int .u64 most] w fun e w' => e = .returned (.tuple #[.int .u64 (numL most ((tx s).drop p) true 0).1, .bool (decide (0 < (numL most ((tx s).drop p) true 0).2))]) ∧ Hid (Rdr B w' b s (p + (numL most ((tx s).drop p) true 0).2) vn vo N O en) ∧ Hid (KeptR B w w') := by
  have c1 := hR.out.c1
  go_enter Tryd.func74, Tryd.ntmps74
  go_wp2_with fail
  go_loopw [7] (fun v wr => ∃ (q : Nat) (n : Int), q ≤ s.size ∧ p ≤ q ∧ v = .int .u64 n ∧ 0 ≤ n ∧ n ≤ most ∧ Hid (q + (numL most ((tx s).drop q) (decide (q = p)) n).2 = p + (numL most ((tx s).drop p) true 0).2) ∧ Hid ((numL most ((tx s).drop q) (decide (q = p)) n).1 = (numL most ((tx s).drop p) true 0).1) ∧
      Hid (Rdr B wr b s q vn vo N O en) ∧ Hid (KeptR B w wr)) (fun _ wr => match wr.cell? ⟨b, 1, none⟩ with | some (.int _ i) => s.size - i.toNat | _ => 0)
  case atStart => exact ⟨p, 0, hp, Nat.le_refl _, rfl, by omega, by omega, by simp [Hid], by simp [Hid], hR, KeptR.refl _ _⟩
  case round =>
    clear hR c1
    obtain ⟨q, n, hq, hpq, rfl, hn0, hn1, HQ, HN, HR, HK⟩ := hrel
    have c0 := HR.out.c0; have c1 := HR.out.c1
    have z1 := HR.out.blk.frozen 1
    have fin : ∀ (w2 : World), Rdr B w2 b s q vn vo N O en → KeptR B w w2 → (numL most ((tx s).drop q) (decide (q = p)) n) = (n, 0) → Hid ((n, decide (p < q)) = ((numL most ((tx s).drop p) true 0).1, decide (0 < (numL most ((tx s).drop p) true 0).2))) ∧ Hid (Rdr B w2 b s (p + (numL most ((tx s).drop p) true 0).2) vn vo N O en) ∧ Hid (KeptR B w w2) := by
      intro w2 hr hk h
      have h1 := HQ.out
      have h2 := HN.out
      rw [h] at h1 h2
      simp only at h1 h2
      refine ⟨?_, ?_, hk⟩
      · show _ = _
        rw [h2]
        congr 1
        simp only [decide_eq_decide]
        omega
      · rw [← h1]; exact hr
    have HFin : Hid _ := fin
    clear fin
    by_cases hend : q = s.size
    · have h1 := HFin.out
      rw [List.drop_eq_nil_of_le (by rw [tx_len]; omega)] at h1
      have H1 : Hid _ := h1
      clear h1 HFin HQ HN
      subst hend
      have hbq : ¬ ((s.size : Int) < (s.size : Int)) := by omega
      go_wp2_with fail
      go_quiet (fail)
      go_wp2_with fail
      go_quiet (fail)
      go_wp2
      go_ret2
      obtain ⟨h2, h3, h4⟩ := H1.out _ ((HR.out.drewN _).drewN _) ((HK.out.drewN _).drewN _) (by first | rfl | trivial)
      exact ⟨by have := h2.out; injection this with e1 e2; rw [← e1, ← e2]; first | rfl | (rw [decide_eq_true (by omega)]; rfl) | (rw [decide_eq_false (by omega)]; rfl), h3, h4⟩
    · have hqs : q < s.size := by omega
      have hqs' : (q : Int) < s.size := by omega
      obtain ⟨x, hx⟩ : ∃ x : Int, (((s[q]'hqs).toNat : Nat) : Int) = x := ⟨_, rfl⟩
      have htx : (tx s)[q]? = some x := by rw [tx_at s q hqs, hx]
      obtain ⟨hx0, hx1⟩ := tx_byte s x q htx
      have hdrop : (tx s).drop q = x :: (tx s).drop (q + 1) := by
        have h1 : q < (tx s).length := by rw [tx_len]; exact hqs
        rw [List.drop_eq_getElem_cons h1]
        rw [List.getElem?_eq_getElem h1] at htx
        rw [Option.some.inj htx]
      have h1 := HFin.out
      have h2 := HQ.out
      have h3 := HN.out
      rw [hdrop, numL] at h1 h2 h3
      clear HFin HQ HN hdrop htx
      by_cases h48 : 48 ≤ x
      · by_cases h57 : x ≤ 57
        · rw [if_pos ⟨h48, h57⟩] at h1 h2 h3
          obtain ⟨d, hd⟩ : ∃ d : Int, x - 48 = d := ⟨_, rfl⟩
          rw [hd] at h1 h2 h3
          have hd0 : 0 ≤ d ∧ d ≤ 9 := by omega
          have hwd : IntKind.u8.wrap (x - 48) = d := by rw [hd]; simp only [IntKind.wrap, IntKind.signed, IntKind.bits]; simp; clear h1 h2 h3; omega
          have H1 : Hid _ := h1
          have H2 : Hid _ := h2
          have H3 : Hid _ := h3
          clear h1 h2 h3
          go_wp2_with fail
          go_quiet (fail)
          go_wp2_with fail
          go_quiet (fail)
          by_cases hA : decide (q = p) = false ∧ n = 0
          · obtain ⟨hA1, rfl⟩ := hA
            have hA2 : q ≠ p := by simpa using hA1
            have hpq' : (p : Int) < q := by omega
            have h1 := H1.out
            rw [if_pos (.inl ⟨hA1, rfl⟩)] at h1
            have H4 : Hid _ := h1
            clear h1 H1 H2 H3
            go_wp2_with fail
            go_quiet (fail)
            go_wp2
            go_ret2
            obtain ⟨h2, h3, h4⟩ := H4.out _ ((HR.out.drewN _).drewN _) ((HK.out.drewN _).drewN _) (by first | rfl | trivial)
            exact ⟨by have := h2.out; injection this with e1 e2; rw [← e1, ← e2]; first | rfl | (rw [decide_eq_true (by omega)]; rfl) | (rw [decide_eq_false (by omega)]; rfl), h3, h4⟩
          · have hA' : (¬ (p : Int) < q) ∨ ((p : Int) < q ∧ (n == 0) = false) := by
              by_cases hqp : q = p
              · exact .inl (by omega)
              · refine .inr ⟨by omega, ?_⟩
                have : ¬ n = 0 := fun h => hA ⟨by simpa using hqp, h⟩
                simpa using this
            have hmd : 0 ≤ most - d := by omega
            by_cases hC : (most - d) / 10 < n
            · have h1 := H1.out
              rw [if_pos (.inr hC)] at h1
              have H4 : Hid _ := h1
              clear h1 H1 H2 H3 hA
              rcases hA' with hlt | ⟨hlt, hbn⟩
              · go_wp2_with fail
                go_quiet (fail)
                go_wp2
                go_ret2
                obtain ⟨h2, h3, h4⟩ := H4.out _ ((HR.out.drewN _).drewN _) ((HK.out.drewN _).drewN _) (by first | rfl | trivial)
                exact ⟨by have := h2.out; injection this with e1 e2; rw [← e1, ← e2]; first | rfl | (rw [decide_eq_true (by omega)]; rfl) | (rw [decide_eq_false (by omega)]; rfl), h3, h4⟩
              · go_wp2_with fail
                go_quiet (fail)
                go_wp2
                go_ret2
                obtain ⟨h2, h3, h4⟩ := H4.out _ ((HR.out.drewN _).drewN _) ((HK.out.drewN _).drewN _) (by first | rfl | trivial)
                exact ⟨by have := h2.out; injection this with e1 e2; rw [← e1, ← e2]; first | rfl | (rw [decide_eq_true (by omega)]; rfl) | (rw [decide_eq_false (by omega)]; rfl), h3, h4⟩
            · have h2 := H2.out
              have h3 := H3.out
              rw [if_neg (by simp only [not_or]; exact ⟨hA, hC⟩)] at h2 h3
              have H5 : Hid (q + 1 + (numL most ((tx s).drop (q + 1)) (decide (q + 1 = p)) (n * 10 + d)).2 = p + (numL most ((tx s).drop p) true 0).2) := by
                show _ = _
                rw [show decide (q + 1 = p) = false by simp; omega]
                simp only at h2
                omega
              have H6 : Hid ((numL most ((tx s).drop (q + 1)) (decide (q + 1 = p)) (n * 10 + d)).1 = (numL most ((tx s).drop p) true 0).1) := by
                show _ = _
                rw [show decide (q + 1 = p) = false by simp; omega]
                exact h3
              clear h2 h3 H1 H2 H3 hA
              have hn2 : n * 10 + d ≤ most := by omega
              have HM : Hid (∀ j, (((wr.drewN j).setCell ⟨b, 1, none⟩ (.int .i64 ((q : Int) + 1)))).cell? ⟨b, 1, none⟩ = some (.int .i64 ((q : Int) + 1))) := fun j => ((HR.out.drewN j).blk.set 1 _).cell 1
              rcases hA' with hlt | ⟨hlt, hbn⟩
              · go_wp2
                go_roundw
                case rel => exact ⟨q + 1, n * 10 + d, by omega, by omega, rfl, by omega, by omega, H5, H6, (HR.out.drewN _).setp (q + 1), (HK.out.drewN _).trans ((HR.out.drewN _).keptb 1 _)⟩
                case measure => rw [HM.out, c1]; simp; omega
              · go_wp2
                go_roundw
                case rel => exact ⟨q + 1, n * 10 + d, by omega, by omega, rfl, by omega, by omega, H5, H6, (HR.out.drewN _).setp (q + 1), (HK.out.drewN _).trans ((HR.out.drewN _).keptb 1 _)⟩
                case measure => rw [HM.out, c1]; simp; omega
        · rw [if_neg (by omega)] at h1
          have H1 : Hid _ := h1
          clear h1 h2 h3
          go_wp2_with fail
          go_quiet (fail)
          go_wp2_with fail
          go_quiet (fail)
          go_wp2
          go_ret2
          obtain ⟨h2, h3, h4⟩ := H1.out _ ((HR.out.drewN _).drewN _) ((HK.out.drewN _).drewN _) (by first | rfl | trivial)
          exact ⟨by have := h2.out; injection this with e1 e2; rw [← e1, ← e2]; first | rfl | (rw [decide_eq_true (by omega)]; rfl) | (rw [decide_eq_false (by omega)]; rfl), h3, h4⟩
      · rw [if_neg (by omega)] at h1
        have H1 : Hid _ := h1
        have hb48 : decide (48 ≤ x) = false := by simpa using h48
        clear h1 h2 h3
        go_wp2_with fail
        go_quiet (fail)
        go_wp2_with fail
        go_quiet (fail)
        go_wp2
        go_ret2
        obtain ⟨h2, h3, h4⟩ := H1.out _ ((HR.out.drewN _).drewN _) ((HK.out.drewN _).drewN _) (by first | rfl | trivial)
        exact ⟨by have := h2.out; injection this with e1 e2; rw [← e1, ← e2]; first | rfl | (rw [decide_eq_true (by omega)]; rfl) | (rw [decide_eq_false (by omega)]; rfl), h3, h4⟩
end Go.Proofs.YtlbgdgobhiokpaaDoor
