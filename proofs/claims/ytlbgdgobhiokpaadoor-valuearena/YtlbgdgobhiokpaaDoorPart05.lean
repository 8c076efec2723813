import Derived.Test.YtlbgdgobhiokpaaDoorPart04
import Derived.BigRegion
import Derived.Deep.RegionLaw

/- number. -/
namespace Go.Proofs.YtlbgdgobhiokpaaDoor
open Go.RowKit
set_option linter.unusedVariables false

/-- Digits, as long as they are a number's that is at most this: the number, how many. -/
def numL (most : Int) : List Int → Bool → Int → Int × Nat
  | [], _, n => (n, 0)
  | c :: l, f, n => if 48 ≤ c ∧ c ≤ 57 then (if (f = false ∧ n = 0) ∨ (most - (c - 48)) / 10 < n then (n, 0) else ((numL most l false (n * 10 + (c - 48))).1, (numL most l false (n * 10 + (c - 48))).2 + 1)) else (n, 0)
theorem numL_le (most : Int) : ∀ (l : List Int) (f : Bool) (n : Int), (numL most l f n).2 ≤ l.length
  | [], _, _ => Nat.le_refl _
  | c :: l, f, n => by
    have := numL_le most l false (n * 10 + (c - 48))
    unfold numL
    split
    · split
      · simp
      · simp; exact this
    · simp
theorem tx_byte (s : ByteArray) (x : Int) (p : Nat) (h : (tx s)[p]? = some x) : 0 ≤ x ∧ x ≤ 255 := by
  obtain ⟨h1, h2⟩ := List.getElem?_eq_some_iff.1 h
  rw [← h2]
  simp only [tx, List.getElem_map]
  have := (s.data.toList[p]'(by simpa [tx] using h1)).toNat_lt
  omega
set_option maxRecDepth 100000 in
set_option maxHeartbeats 8000000 in
theorem number_any (B b p : Nat) (most : Int) (s : ByteArray) (vn vo : Value) (N : List Nd) (O : List Nat) (en : Bool) (w : World) (hR : Hid (Rdr B w b s p vn vo N O en)) (hp : p ≤ s.size) (hs : s.size ≤ 1048576) (hm0 : 255 ≤ most) (hm1 : most ≤ 18446744073709551615) :
    Calls Tryd.prog 74 #[.pointer (some ⟨b, 0, none⟩), .int .u64 most] w fun e w' => e = .returned (.tuple #[.int .u64 (numL most ((tx s).drop p) true 0).1, .bool (decide (0 < (numL most ((tx s).drop p) true 0).2))]) ∧ Hid (Rdr B w' b s (p + (numL most ((tx s).drop p) true 0).2) vn vo N O en) ∧ Hid (KeptR B w w') := by
  have c1 := hR.out.c1
  go_enter Tryd.func74, Tryd.ntmps74
  go_wp2_with fail
  go_loopw [7] (fun v wr => ∃ (q : Nat) (n : Int), q ≤ s.size ∧ p ≤ q ∧ v = .int .u64 n ∧ 0 ≤ n ∧ n ≤ most ∧ Hid (q + (numL most ((tx s).drop q) (decide (q = p)) n).2 = p + (numL most ((tx s).drop p) true 0).2) ∧ Hid ((numL most ((tx s).drop q) (decide (q = p)) n).1 = (numL most ((tx s).drop p) true 0).1) ∧
      Hid (Rdr B wr b s q vn vo N O en) ∧ Hid (KeptR B w wr)) (fun _ wr => match wr.cell? ⟨b, 1, none⟩ with | some (.int _ i) => s.size - i.toNat | _ => 0)
  case atStart => exact ⟨p, 0, hp, Nat.le_refl _, rfl, by omega, by omega, by simp [Hid], by simp [Hid], hR, KeptR.refl _ _⟩
  case round =>
    clear hR c1
    obtain ⟨q, n, hq, hpq, rfl, hn0, hn1, HQ, HN, HR, HK⟩ := hrel
    have c0 := HR.out.c0; have c1 := HR.out.c1
    have z1 := HR.out.blk.frozen 1
    have fin : ∀ (w2 : World), Rdr B w2 b s q vn vo N O en → KeptR B w w2 → (numL most ((tx s).drop q) (decide (q = p)) n) = (n, 0) → Hid ((n, decide (p < q)) = ((numL most ((tx s).drop p) true 0).1, decide (0 < (numL most ((tx s).drop p) true 0).2))) ∧ Hid (Rdr B w2 b s (p + (numL most ((tx s).drop p) true 0).2) vn vo N O en) ∧ Hid (KeptR B w w2) := by
      intro w2 hr hk h
      have h1 := HQ.out
      have h2 := HN.out
      rw [h] at h1 h2
      simp only at h1 h2
      refine ⟨?_, ?_, hk⟩
      · show _ = _
        rw [h2]
        congr 1
        simp only [decide_eq_decide]
        omega
      · rw [← h1]; exact hr
    have HFin : Hid _ := fin
    clear fin
    by_cases hend : q = s.size
    · have h1 := HFin.out
      rw [List.drop_eq_nil_of_le (by rw [tx_len]; omega)] at h1
      have H1 : Hid _ := h1
      clear h1 HFin HQ HN
      subst hend
      have hbq : ¬ ((s.size : Int) < (s.size : Int)) := by omega
      go_wp2_with fail
      go_quiet (fail)
      go_wp2_with fail
      go_quiet (fail)
      go_wp2
      go_ret2
      obtain ⟨h2, h3, h4⟩ := H1.out _ ((HR.out.drewN _).drewN _) ((HK.out.drewN _).drewN _) (by first | rfl | trivial)
      exact ⟨by have := h2.out; injection this with e1 e2; rw [← e1, ← e2]; first | rfl | (rw [decide_eq_true (by omega)]; rfl) | (rw [decide_eq_false (by omega)]; rfl), h3, h4⟩
    · have hqs : q < s.size := by omega
      have hqs' : (q : Int) < s.size := by omega
      obtain ⟨x, hx⟩ : ∃ x : Int, (((s[q]'hqs).toNat : Nat) : Int) = x := ⟨_, rfl⟩
      have htx : (tx s)[q]? = some x := by rw [tx_at s q hqs, hx]
      obtain ⟨hx0, hx1⟩ := tx_byte s x q htx
      have hdrop : (tx s).drop q = x :: (tx s).drop (q + 1) := by
        have h1 : q < (tx s).length := by rw [tx_len]; exact hqs
        rw [List.drop_eq_getElem_cons h1]
        rw [List.getElem?_eq_getElem h1] at htx
        rw [Option.some.inj htx]
      have h1 := HFin.out
      have h2 := HQ.out
      have h3 := HN.out
      rw [hdrop, numL] at h1 h2 h3
      clear HFin HQ HN hdrop htx
      by_cases h48 : 48 ≤ x
      · by_cases h57 : x ≤ 57
        · rw [if_pos ⟨h48, h57⟩] at h1 h2 h3
          obtain ⟨d, hd⟩ : ∃ d : Int, x - 48 = d := ⟨_, rfl⟩
          rw [hd] at h1 h2 h3
          have hd0 : 0 ≤ d ∧ d ≤ 9 := by omega
          have hwd : IntKind.u8.wrap (x - 48) = d := by rw [hd]; simp only [IntKind.wrap, IntKind.signed, IntKind.bits]; simp; clear h1 h2 h3; omega
          have H1 : Hid _ := h1
          have H2 : Hid _ := h2
          have H3 : Hid _ := h3
          clear h1 h2 h3
          go_wp2_with fail
          go_quiet (fail)
          go_wp2_with fail
          go_quiet (fail)
          by_cases hA : decide (q = p) = false ∧ n = 0
          · obtain ⟨hA1, rfl⟩ := hA
            have hA2 : q ≠ p := by simpa using hA1
            have hpq' : (p : Int) < q := by omega
            have h1 := H1.out
            rw [if_pos (.inl ⟨hA1, rfl⟩)] at h1
            have H4 : Hid _ := h1
            clear h1 H1 H2 H3
            go_wp2_with fail
            go_quiet (fail)
            go_wp2
            go_ret2
            obtain ⟨h2, h3, h4⟩ := H4.out _ ((HR.out.drewN _).drewN _) ((HK.out.drewN _).drewN _) (by first | rfl | trivial)
            exact ⟨by have := h2.out; injection this with e1 e2; rw [← e1, ← e2]; first | rfl | (rw [decide_eq_true (by omega)]; rfl) | (rw [decide_eq_false (by omega)]; rfl), h3, h4⟩
          · have hA' : (¬ (p : Int) < q) ∨ ((p : Int) < q ∧ (n == 0) = false) := by
              by_cases hqp : q = p
              · exact .inl (by omega)
              · refine .inr ⟨by omega, ?_⟩
                have : ¬ n = 0 := fun h => hA ⟨by simpa using hqp, h⟩
                simpa using this
            have hmd : 0 ≤ most - d := by omega
            by_cases hC : (most - d) / 10 < n
            · have h1 := H1.out
              rw [if_pos (.inr hC)] at h1
              have H4 : Hid _ := h1
              clear h1 H1 H2 H3 hA
              rcases hA' with hlt | ⟨hlt, hbn⟩
              · go_wp2_with fail
                go_quiet (fail)
                go_wp2
                go_ret2
                obtain ⟨h2, h3, h4⟩ := H4.out _ ((HR.out.drewN _).drewN _) ((HK.out.drewN _).drewN _) (by first | rfl | trivial)
                exact ⟨by have := h2.out; injection this with e1 e2; rw [← e1, ← e2]; first | rfl | (rw [decide_eq_true (by omega)]; rfl) | (rw [decide_eq_false (by omega)]; rfl), h3, h4⟩
              · go_wp2_with fail
                go_quiet (fail)
                go_wp2
                go_ret2
                obtain ⟨h2, h3, h4⟩ := H4.out _ ((HR.out.drewN _).drewN _) ((HK.out.drewN _).drewN _) (by first | rfl | trivial)
                exact ⟨by have := h2.out; injection this with e1 e2; rw [← e1, ← e2]; first | rfl | (rw [decide_eq_true (by omega)]; rfl) | (rw [decide_eq_false (by omega)]; rfl), h3, h4⟩
            · have h2 := H2.out
              have h3 := H3.out
              rw [if_neg (by simp only [not_or]; exact ⟨hA, hC⟩)] at h2 h3
              have H5 : Hid (q + 1 + (numL most ((tx s).drop (q + 1)) (decide (q + 1 = p)) (n * 10 + d)).2 = p + (numL most ((tx s).drop p) true 0).2) := by
                show _ = _
                rw [show decide (q + 1 = p) = false by simp; omega]
                simp only at h2
                omega
              have H6 : Hid ((numL most ((tx s).drop (q + 1)) (decide (q + 1 = p)) (n * 10 + d)).1 = (numL most ((tx s).drop p) true 0).1) := by
                show _ = _
                rw [show decide (q + 1 = p) = false by simp; omega]
                exact h3
              clear h2 h3 H1 H2 H3 hA
              have hn2 : n * 10 + d ≤ most := by omega
              have HM : Hid (∀ j, (((wr.drewN j).setCell ⟨b, 1, none⟩ (.int .i64 ((q : Int) + 1)))).cell? ⟨b, 1, none⟩ = some (.int .i64 ((q : Int) + 1))) := fun j => ((HR.out.drewN j).blk.set 1 _).cell 1
              rcases hA' with hlt | ⟨hlt, hbn⟩
              · go_wp2
                go_roundw
                case rel => exact ⟨q + 1, n * 10 + d, by omega, by omega, rfl, by omega, by omega, H5, H6, (HR.out.drewN _).setp (q + 1), (HK.out.drewN _).trans ((HR.out.drewN _).keptb 1 _)⟩
                case measure => rw [HM.out, c1]; simp; omega
              · go_wp2
                go_roundw
                case rel => exact ⟨q + 1, n * 10 + d, by omega, by omega, rfl, by omega, by omega, H5, H6, (HR.out.drewN _).setp (q + 1), (HK.out.drewN _).trans ((HR.out.drewN _).keptb 1 _)⟩
                case measure => rw [HM.out, c1]; simp; omega
        · rw [if_neg (by omega)] at h1
          have H1 : Hid _ := h1
          clear h1 h2 h3
          go_wp2_with fail
          go_quiet (fail)
          go_wp2_with fail
          go_quiet (fail)
          go_wp2
          go_ret2
          obtain ⟨h2, h3, h4⟩ := H1.out _ ((HR.out.drewN _).drewN _) ((HK.out.drewN _).drewN _) (by first | rfl | trivial)
          exact ⟨by have := h2.out; injection this with e1 e2; rw [← e1, ← e2]; first | rfl | (rw [decide_eq_true (by omega)]; rfl) | (rw [decide_eq_false (by omega)]; rfl), h3, h4⟩
      · rw [if_neg (by omega)] at h1
        have H1 : Hid _ := h1
        have hb48 : decide (48 ≤ x) = false := by simpa using h48
        clear h1 h2 h3
        go_wp2_with fail
        go_quiet (fail)
        go_wp2_with fail
        go_quiet (fail)
        go_wp2
        go_ret2
        obtain ⟨h2, h3, h4⟩ := H1.out _ ((HR.out.drewN _).drewN _) ((HK.out.drewN _).drewN _) (by first | rfl | trivial)
        exact ⟨by have := h2.out; injection this with e1 e2; rw [← e1, ← e2]; first | rfl | (rw [decide_eq_true (by omega)]; rfl) | (rw [decide_eq_false (by omega)]; rfl), h3, h4⟩
end Go.Proofs.YtlbgdgobhiokpaaDoor

/- mayGoOn, mayClose. -/
namespace Go.Proofs.YtlbgdgobhiokpaaDoor
open Go.RowKit
set_option linter.unusedVariables false

theorem i64w (n : Int) (h : -9223372036854775808 ≤ n ∧ n ≤ 9223372036854775807) : IntKind.i64.wrap n = n := by rw [IntKind.wrap_i64]; omega
theorem cell_alloc (w : World) (ob : Obj) (g i : Nat) (h : g < w.heap.size) : (w.alloc ob).cell? ⟨g, i, none⟩ = w.cell? ⟨g, i, none⟩ := ((Below.refl w.heap.size w).alloc (Nat.le_refl _) ob).cell h
section
variable {B b : Nat} {w w' w1 : World} {s : ByteArray} {p o : Nat} {vn vo v : Value} {N : List Nd} {O : List Nat} {en : Bool}
theorem Rdr.top (h : Rdr B w b s p vn vo N (o :: O) en) :
    ∃ go co, vo = .slice (some ⟨go, 0, none⟩) (O.length + 1) co ∧ B ≤ go ∧ O.length + 1 ≤ co ∧ co ≤ maxLen ∧ w.cell? ⟨go, O.length, none⟩ = some (.int .i64 (o : Int)) ∧ go < w.heap.size ∧ w.ownsRow B 3 1 (.slice (some ⟨go, 0, none⟩) O.length co) O.length (cellsL .i64 (oL O)) := by
  obtain ⟨g, cap, ys, e, hb, hn, hm, hl, ht, hK⟩ := ownS_blk h.opn (by simp)
  have hat : ys[O.length]? = (cellsL .i64 (oL (o :: O)))[O.length]? := by rw [← ht, List.getElem?_take, if_pos (by simp)]
  refine ⟨g, cap, by simpa using e, hb, by simpa using hn, hm, ?_, hK.lt, ?_⟩
  · rw [hK.cell, hat, cellsL_at _ _ _ (by rw [oL_len]; simp), oL_cons, List.getD, List.getElem?_append_right (by rw [oL_len]; omega), oL_len]
    simp
  · have h2 := ownS_of_blk (n := O.length) (c := 1) hK hb hl (by simp at hn; omega) hm
    have e2 : ys.take (O.length * 1) = cellsL .i64 (oL O) := by
      have h3 := congrArg (List.take O.length) ht
      rw [List.take_take, Nat.min_eq_left (by simp), oL_cons, cellsL_append, List.take_left' (by rw [cellsL_length, oL_len])] at h3
      rw [Nat.mul_one]
      exact h3
    rw [e2] at h2
    exact h2
theorem Rdr.node (h : Rdr B w b s p vn vo N O en) (ho : o < N.length) :
    ∃ gn cn, vn = .slice (some ⟨gn, 0, none⟩) N.length cn ∧ B ≤ gn ∧ N.length ≤ cn ∧ cn ≤ maxLen ∧ gn < w.heap.size ∧ w.cell? ⟨gn, o * 3, none⟩ = some (.int .i64 (N.getD o nil0).1) ∧ w.cell? ⟨gn, o * 3 + 1, none⟩ = some (.int .u64 (N.getD o nil0).2.1) ∧ w.cell? ⟨gn, o * 3 + 2, none⟩ = some (.int .i64 (N.getD o nil0).2.2) ∧
      w.frozen? ⟨gn, o * 3 + 2, none⟩ = false ∧ ∃ ys, Blk w gn 37 ys := by
  obtain ⟨g, cap, ys, e, hb, hn, hm, hl, ht, hK⟩ := ownS_blk h.nod (by omega)
  have hat : ∀ i, i < N.length * 3 → ys[i]? = (cellsN N)[i]? := fun i hi => by rw [← ht, List.getElem?_take, if_pos hi]
  obtain ⟨c0, c1, c2⟩ := cellsN_at N o ho
  exact ⟨g, cap, e, hb, hn, hm, hK.lt, by rw [hK.cell, hat _ (by omega), c0], by rw [hK.cell, hat _ (by omega), c1], by rw [hK.cell, hat _ (by omega), c2], hK.frozen _, ys, hK⟩
end
def mayGo (N : List Nd) : List Nat → Bool → Bool
  | [], _ => false
  | o :: _, en => en && decide ((N.getD o nil0).2.2 < mostK (N.getD o nil0).1)
set_option maxRecDepth 100000 in
set_option maxHeartbeats 8000000 in
theorem goOn_any (B b p : Nat) (s : ByteArray) (vn vo : Value) (N : List Nd) (O : List Nat) (en : Bool) (w : World) (hR : Hid (Rdr B w b s p vn vo N O en)) (hO : ∀ o ∈ O, o < N.length) (hN : N.length ≤ 2000000) (hOl : O.length ≤ 2000000) :
    Calls Tryd.prog 62 #[.pointer (some ⟨b, 0, none⟩)] w fun e w' => e = .returned (.bool (mayGo N O en)) ∧ Below w.heap.size w w' := by
  have c2 := hR.out.c2; have c3 := hR.out.c3; have c4 := hR.out.c4
  cases O with
  | nil =>
    have hv : ∃ a c, vo = .slice a 0 c := by
      rcases hR.out.opn.2 with ⟨e, _⟩ | ⟨g, cap, cur, e, _⟩
      · exact ⟨_, _, e⟩
      · exact ⟨_, _, e⟩
    obtain ⟨a, c, rfl⟩ := hv
    go_enter Tryd.func62, Tryd.ntmps62
    go_wp2
    go_ret
    exact ⟨rfl, Below.refl _ _⟩
  | cons o O =>
    obtain ⟨go, co, rfl, bo, ho1, ho2, k0, hgo, -⟩ := hR.out.top
    have hoN : o < N.length := hO o (by simp)
    obtain ⟨gn, cn, rfl, bn, hn1, hn2, hgn, n0, n1, n2, zn, -⟩ := hR.out.node hoN
    unfold maxLen at ho2 hn2
    have HG : Hid (mayGo N (o :: O) en = (en && decide ((N.getD o nil0).2.2 < mostK (N.getD o nil0).1))) := rfl
    generalize N.getD o nil0 = x at *
    obtain ⟨xk, xn, xc⟩ := x
    simp only at n0 n1 n2 HG
    clear hO
    go_enter Tryd.func62, Tryd.ntmps62
    cases en with
    | false =>
      go_wp2
      go_ret
      exact ⟨by rw [HG.out]; rfl, Below.refl _ _⟩
    | true =>
      go_wp2_with fail
      have hoN' : (o : Int) < N.length := by omega
      have hw1 : IntKind.i64.wrap (O.length : Int) = O.length := i64w _ (by omega)
      have hw2 : IntKind.i64.wrap ((O.length : Int) + 1 - 1) = O.length := by rw [i64w _ (by omega)]; omega
      have hw3 : (O.length : Int) < O.length + 1 := by omega
      have hbl := hR.out.blk.lt
      have HS : Hid (∀ ob, (w.alloc ob).cell? ⟨b, 2, none⟩ = some (.slice (some ⟨gn, 0, none⟩) N.length cn) ∧ (w.alloc ob).cell? ⟨b, 3, none⟩ = some (.slice (some ⟨go, 0, none⟩) (O.length + 1) co) ∧ (w.alloc ob).cell? ⟨go, O.length, none⟩ = some (.int .i64 (o : Int)) ∧ (w.alloc ob).cell? ⟨gn, o * 3, none⟩ = some (.int .i64 xk) ∧ (w.alloc ob).cell? ⟨gn, o * 3 + 1, none⟩ = some (.int .u64 xn) ∧ (w.alloc ob).cell? ⟨gn, o * 3 + 2, none⟩ = some (.int .i64 xc)) := fun ob => ⟨(cell_alloc w ob _ _ hbl).trans c2, (cell_alloc w ob _ _ hbl).trans c3, (cell_alloc w ob _ _ hgo).trans k0, (cell_alloc w ob _ _ hgn).trans n0, (cell_alloc w ob _ _ hgn).trans n1, (cell_alloc w ob _ _ hgn).trans n2⟩
      go_region_held_law (fun w' => w'.cell? ⟨b, 2, none⟩ = some (.slice (some ⟨gn, 0, none⟩) N.length cn) ∧ w'.cell? ⟨b, 3, none⟩ = some (.slice (some ⟨go, 0, none⟩) (O.length + 1) co) ∧ w'.cell? ⟨go, O.length, none⟩ = some (.int .i64 (o : Int)) ∧ w'.cell? ⟨gn, o * 3, none⟩ = some (.int .i64 xk) ∧ w'.cell? ⟨gn, o * 3 + 1, none⟩ = some (.int .u64 xn) ∧ w'.cell? ⟨gn, o * 3 + 2, none⟩ = some (.int .i64 xc)) (first | assumption | exact ⟨c2, c3, k0, n0, n1, n2⟩ | exact HS.out _) (fail)
      go_wp2_with fail
      refine (bounds_any xk _).mono ?_; rintro e w1 ⟨rfl, hB1⟩
      have K1 := (Blk.newA w #[.int .i64 xk, .int .u64 xn, .int .i64 xc] 37).drew.later hB1
      have e2 : ∀ ob, (w1.alloc ob).cell? ⟨w.heap.size, 2, none⟩ = some (.int .i64 xc) := fun ob => (K1.alloc ob).cell 2
      have hB : Below w.heap.size w w1 := (((Below.refl w.heap.size w).alloc (Nat.le_refl _) _).drew).trans (hB1.mono (by simp))
      clear HS c2 c3 c4 k0 n0 n1 n2 zn K1 hB1
      unfold bnd
      go_wp2
      go_ret
      exact ⟨by rw [HG.out]; rfl, hB.alloc hB.size _⟩
/-- Does this byte close the innermost open node here? -/
def mayC (N : List Nd) : List Nat → Bool → Int → Bool
  | [], _, _ => false
  | o :: _, en, c => (en || (decide ((N.getD o nil0).2.2 = 0) && decide (leastK (N.getD o nil0).1 = 0))) && decide (endT (N.getD o nil0).1 = [c])
theorem endS_is (k c : Int) (hc : c = 93 ∨ c = 125 ∨ c = 62) : ((endS k).toList == (Utf8.encode c).toList) = decide (endT k = [c]) := by
  rw [ByteArray.toList_eq, ByteArray.toList_eq]
  unfold endS endT
  rcases hc with rfl | rfl | rfl <;> (split; rfl; split; rfl; split; rfl; rfl)
set_option maxRecDepth 100000 in
set_option maxHeartbeats 8000000 in
theorem close1_any (B b p : Nat) (c : Int) (s : ByteArray) (vn vo : Value) (N : List Nd) (O : List Nat) (en : Bool) (w : World) (hR : Hid (Rdr B w b s p vn vo N O en)) (hO : ∀ o ∈ O, o < N.length) (hN : N.length ≤ 2000000) (hOl : O.length ≤ 2000000) (hc : c = 93 ∨ c = 125 ∨ c = 62) :
    Calls Tryd.prog 60 #[.pointer (some ⟨b, 0, none⟩), .int .u8 c] w fun e w' => e = .returned (.bool (mayC N O en c)) ∧ Below w.heap.size w w' := by
  have c2 := hR.out.c2; have c3 := hR.out.c3; have c4 := hR.out.c4
  cases O with
  | nil =>
    have hv : ∃ a c, vo = .slice a 0 c := by
      rcases hR.out.opn.2 with ⟨e, _⟩ | ⟨g, cap, cur, e, _⟩
      · exact ⟨_, _, e⟩
      · exact ⟨_, _, e⟩
    obtain ⟨a, c, rfl⟩ := hv
    go_enter Tryd.func60, Tryd.ntmps60
    go_wp2
    go_ret
    exact ⟨rfl, Below.refl _ _⟩
  | cons o O =>
    obtain ⟨go, co, rfl, bo, ho1, ho2, k0, hgo, -⟩ := hR.out.top
    have hoN : o < N.length := hO o (by simp)
    obtain ⟨gn, cn, rfl, bn, hn1, hn2, hgn, n0, n1, n2, zn, -⟩ := hR.out.node hoN
    unfold maxLen at ho2 hn2
    have HG : Hid (mayC N (o :: O) en c = ((en || (decide ((N.getD o nil0).2.2 = 0) && decide (leastK (N.getD o nil0).1 = 0))) && decide (endT (N.getD o nil0).1 = [c]))) := rfl
    generalize N.getD o nil0 = x at *
    obtain ⟨xk, xn, xc⟩ := x
    simp only at n0 n1 n2 HG
    clear hO
    go_enter Tryd.func60, Tryd.ntmps60
    go_wp2_with fail
    have hoN' : (o : Int) < N.length := by omega
    have hw1 : IntKind.i64.wrap (O.length : Int) = O.length := i64w _ (by omega)
    have hw2 : IntKind.i64.wrap ((O.length : Int) + 1 - 1) = O.length := by rw [i64w _ (by omega)]; omega
    have hw3 : (O.length : Int) < O.length + 1 := by omega
    have hbl := hR.out.blk.lt
    have HS : Hid (∀ ob, (w.alloc ob).cell? ⟨b, 2, none⟩ = some (.slice (some ⟨gn, 0, none⟩) N.length cn) ∧ (w.alloc ob).cell? ⟨b, 3, none⟩ = some (.slice (some ⟨go, 0, none⟩) (O.length + 1) co) ∧ (w.alloc ob).cell? ⟨go, O.length, none⟩ = some (.int .i64 (o : Int)) ∧ (w.alloc ob).cell? ⟨gn, o * 3, none⟩ = some (.int .i64 xk) ∧ (w.alloc ob).cell? ⟨gn, o * 3 + 1, none⟩ = some (.int .u64 xn) ∧ (w.alloc ob).cell? ⟨gn, o * 3 + 2, none⟩ = some (.int .i64 xc)) := fun ob => ⟨(cell_alloc w ob _ _ hbl).trans c2, (cell_alloc w ob _ _ hbl).trans c3, (cell_alloc w ob _ _ hgo).trans k0, (cell_alloc w ob _ _ hgn).trans n0, (cell_alloc w ob _ _ hgn).trans n1, (cell_alloc w ob _ _ hgn).trans n2⟩
    go_region_held_law (fun w' => w'.cell? ⟨b, 2, none⟩ = some (.slice (some ⟨gn, 0, none⟩) N.length cn) ∧ w'.cell? ⟨b, 3, none⟩ = some (.slice (some ⟨go, 0, none⟩) (O.length + 1) co) ∧ w'.cell? ⟨go, O.length, none⟩ = some (.int .i64 (o : Int)) ∧ w'.cell? ⟨gn, o * 3, none⟩ = some (.int .i64 xk) ∧ w'.cell? ⟨gn, o * 3 + 1, none⟩ = some (.int .u64 xn) ∧ w'.cell? ⟨gn, o * 3 + 2, none⟩ = some (.int .i64 xc)) (first | assumption | exact ⟨c2, c3, k0, n0, n1, n2⟩ | exact HS.out _) (fail)
    go_wp2_with fail
    refine (bounds_any xk _).mono ?_; rintro e w1 ⟨rfl, hB1⟩
    have hBw : Below w.heap.size w (w.alloc (.cells #[.int .i64 xk, .int .u64 xn, .int .i64 xc] 37)).drew := ((Below.refl w.heap.size w).alloc (Nat.le_refl _) _).drew
    have K1 := (Blk.newA w #[.int .i64 xk, .int .u64 xn, .int .i64 xc] 37).drew.later hB1
    have hB : Below w.heap.size w w1 := hBw.trans (hB1.mono (by simp))
    have e0 : ∀ ob, (w1.alloc ob).cell? ⟨w.heap.size, 0, none⟩ = some (.int .i64 xk) := fun ob => (K1.alloc ob).cell 0
    have e2 : ∀ ob, (w1.alloc ob).cell? ⟨w.heap.size, 2, none⟩ = some (.int .i64 xc) := fun ob => (K1.alloc ob).cell 2
    have e4 : ∀ ob, (w1.alloc ob).cell? ⟨b, 4, none⟩ = some (.bool en) := fun ob => ((hR.out.blk.later hB).alloc ob).cell 4
    clear HS c2 c3 c4 k0 n0 n1 n2 zn K1 hB1
    unfold bnd
    have hfin : ∀ (d : Bool), (en || (decide (xc = 0) && decide (leastK xk = 0))) = d → mayC N (o :: O) en c = (d && decide (endT xk = [c])) := fun d hd => by rw [HG.out, hd]
    have HF : Hid _ := hfin
    clear hfin
    have hB2 : ∀ ob, Below w.heap.size w (w1.alloc ob) := fun ob => hB.alloc hB.size _
    have H2 : Hid _ := hB2
    clear hB2 hBw
    have HES := endS_is xk c hc
    obtain ⟨es, hes⟩ : ∃ es, decide (endT xk = [c]) = es := ⟨_, rfl⟩
    rw [hes] at HES HF
    have hcb : 0 ≤ c ∧ c ≤ 255 := by omega
    clear hes hc
    cases en with
    | true =>
      have H5 : Hid (mayC N (o :: O) true c = es) := by have := HF.out true rfl; show _ = _; simpa using this
      clear HF
      go_wp2_with (go_at_call 35; refine (ending_any xk _).mono ?_; rintro e w' ⟨rfl, rfl⟩)
      go_ret
      exact ⟨by rw [H5.out, ← HES]; rfl, H2.out _⟩
    | false =>
      by_cases h1 : xc = 0
      · subst h1
        by_cases h2 : leastK xk = 0
        · have H5 : Hid (mayC N (o :: O) false c = es) := by have := HF.out true (by simp [h2]); show _ = _; simpa using this
          clear HF
          rw [h2]
          go_wp2_with (go_at_call 35; refine (ending_any xk _).mono ?_; rintro e w' ⟨rfl, rfl⟩)
          go_ret
          exact ⟨by rw [H5.out, ← HES]; rfl, by rw [h2] at *; exact H2.out _⟩
        · have H5 : Hid (mayC N (o :: O) false c = false) := by have := HF.out false (by simp [h2]); show _ = _; simpa using this
          have hb2 : (leastK xk == 0) = false := by simpa using h2
          clear HF
          go_wp2
          go_ret
          exact ⟨by rw [H5.out]; rfl, H2.out _⟩
      · have H5 : Hid (mayC N (o :: O) false c = false) := by have := HF.out false (by simp [h1]); show _ = _; simpa using this
        have hb2 : (xc == 0) = false := by simpa using h1
        clear HF
        go_wp2
        go_ret
        exact ⟨by rw [H5.out]; rfl, H2.out _⟩
end Go.Proofs.YtlbgdgobhiokpaaDoor

/- add, end, enter. -/
namespace Go.Proofs.YtlbgdgobhiokpaaDoor
open Go.RowKit
set_option linter.unusedVariables false

def incK (N : List Nd) (o : Nat) : List Nd := N.set o ((N.getD o nil0).1, (N.getD o nil0).2.1, (N.getD o nil0).2.2 + 1)
def addN (N : List Nd) (O : List Nat) (k n : Int) : List Nd := (match O with | [] => N | o :: _ => incK N o) ++ [(k, n, 0)]
/-- Without the innermost options. -/
def popO (N : List Nd) : List Nat → List Nat
  | [] => []
  | o :: O => if (N.getD o nil0).1 = 5 then popO N O else o :: O
section
variable {B b : Nat} {w w' w1 : World} {s : ByteArray} {p o : Nat} {vn vo v : Value} {N : List Nd} {O : List Nat} {en : Bool}
theorem Rdr.inc (h : Rdr B w b s p vn vo N O en) (ho : o < N.length) {gn cn : Nat} (hv : vn = .slice (some ⟨gn, 0, none⟩) N.length cn) :
    Rdr B (w.setCell ⟨gn, o * 3 + 2, none⟩ (.int .i64 ((N.getD o nil0).2.2 + 1))) b s p vn vo (incK N o) O en ∧ KeptR B w (w.setCell ⟨gn, o * 3 + 2, none⟩ (.int .i64 ((N.getD o nil0).2.2 + 1))) := by
  obtain ⟨g, cap, ys, e, hb, hn, hm, hl, ht, hK⟩ := ownS_blk h.nod (by omega)
  rw [hv] at e
  have e1 : gn = g ∧ cn = cap := by simpa using e
  obtain ⟨rfl, rfl⟩ := e1
  subst hv
  refine ⟨⟨h.blk.other _ _ fun e => ?_, h.hb, ?_, own_far h.opn hK (by decide)⟩, kept_cell hK hb (.inr (.inl rfl))⟩
  · have e2 : b = gn := e
    subst e2
    exact absurd (blk_type h.blk hK) (by decide)
  · have h2 := ownS_of_blk (n := N.length) (c := 3) (hK.set (o * 3 + 2) (.int .i64 ((N.getD o nil0).2.2 + 1))) hb (by simpa using hl) hn hm
    rw [List.take_set, ht, cellsN_set N o _ ho] at h2
    have e3 : (incK N o).length = N.length := by simp [incK]
    rw [e3]
    exact h2
theorem Rdr.push (h : Rdr B w b s p vn vo N O en) (k n : Int) (hN : N.length ≤ 2000000) :
    ∃ g cap w', (Builtin.append_ #[22, 22] 22 #[vn, .slice (some ⟨w.heap.size, 0, none⟩) 1 1]).run Tryd.prog (w.alloc (.cells #[.int .i64 k, .int .u64 n, .int .i64 0] 37)) = .ok (.slice (some ⟨g, 0, none⟩) (N.length + 1) cap) w' ∧ w'.cell? ⟨b, 2, none⟩ = some vn ∧ w'.frozen? ⟨b, 2, none⟩ = false ∧ Rdr B (w'.setCell ⟨b, 2, none⟩ (.slice (some ⟨g, 0, none⟩) (N.length + 1) cap)) b s p (.slice (some ⟨g, 0, none⟩) (N.length + 1) cap) vo (N ++ [(k, n, 0)]) O en ∧ KeptR B w (w'.setCell ⟨b, 2, none⟩ (.slice (some ⟨g, 0, none⟩) (N.length + 1) cap)) := by
  have hB := h.base
  obtain ⟨g, cap, w', r1, o1, u1, l1⟩ := run_pushS (P := Tryd.prog) (t := 22) (e := 37) (z := .agg #[.int .i64 0, .int .u64 0, .int .i64 0]) (bytes := 24) Tryd.underlying22 (by kernel_rfl) rfl (by decide) w 22 h.nod (ndc (k, n, 0)) rfl (by intro u hu; simp [ndc] at hu; rcases hu with rfl | rfl | rfl <;> rfl) (by unfold maxLen; omega) (by omega) hB
  have hb1 : Blk w' b 92 [.string s, .int .i64 p, vn, vo, .bool en] := h.blk.upd u1 fun hk => by
    obtain ⟨ys, hy⟩ := ownS_type h.nod hk
    exact absurd (blk_type h.blk hy) (by decide)
  have ho1 : w'.ownsRow B 3 1 vo O.length (cellsL .i64 (oL O)) := ownS_upd h.opn u1 fun q hq hk => by
    obtain ⟨ys, hy⟩ := ownS_type h.nod hk
    obtain ⟨zs, hz⟩ := ownS_type h.opn hq
    exact absurd (blk_type hy hz) (by decide)
  have k1 : KeptR B w w' := ⟨u1.below B hB (fun k hk => (h.nod.lt k hk).1), fun q t xs h1 h2 h3 hb => hb.upd u1 fun hk => by
    obtain ⟨ys, hy⟩ := ownS_type h.nod hk
    exact h2 (blk_type hb hy)⟩
  refine ⟨g, cap, w', r1, hb1.cell 2, hb1.frozen 2, ⟨hb1.set 2 _, h.hb, ?_, own_far ho1 hb1 (by decide)⟩, k1.trans (kept_cell hb1 h.hb (.inl rfl))⟩
  have h2 := own_far (i := 2) (u := .slice (some ⟨g, 0, none⟩) (N.length + 1) cap) o1 hb1 (by decide)
  rw [List.length_append, cellsN_append]
  exact h2
theorem Rdr.pusho (h : Rdr B w b s p vn vo N O en) (o : Nat) (hO : O.length ≤ 2000000) :
    ∃ g cap w', (Builtin.append_ #[43, 43] 43 #[vo, .slice (some ⟨w.heap.size, 0, none⟩) 1 1]).run Tryd.prog (w.alloc (.cells #[.int .i64 (o : Int)] 3)) = .ok (.slice (some ⟨g, 0, none⟩) (O.length + 1) cap) w' ∧ w'.cell? ⟨b, 3, none⟩ = some vo ∧ w'.cell? ⟨b, 2, none⟩ = some vn ∧ w'.frozen? ⟨b, 3, none⟩ = false ∧ Rdr B (w'.setCell ⟨b, 3, none⟩ (.slice (some ⟨g, 0, none⟩) (O.length + 1) cap)) b s p vn (.slice (some ⟨g, 0, none⟩) (O.length + 1) cap) N (o :: O) en ∧ KeptR B w (w'.setCell ⟨b, 3, none⟩ (.slice (some ⟨g, 0, none⟩) (O.length + 1) cap)) := by
  have hB := h.base
  obtain ⟨g, cap, w', r1, o1, u1, l1⟩ := run_push E43 w 43 B vo O.length (oL O) h.opn (o : Int) (by unfold maxLen; omega) (by omega) hB
  have hb1 : Blk w' b 92 [.string s, .int .i64 p, vn, vo, .bool en] := h.blk.upd u1 fun hk => by
    obtain ⟨ys, hy⟩ := ownS_type h.opn hk
    exact absurd (blk_type h.blk hy) (by decide)
  have ho1 : w'.ownsRow B 37 3 vn N.length (cellsN N) := ownS_upd h.nod u1 fun q hq hk => by
    obtain ⟨ys, hy⟩ := ownS_type h.opn hk
    obtain ⟨zs, hz⟩ := ownS_type h.nod hq
    exact absurd (blk_type hy hz) (by decide)
  have k1 : KeptR B w w' := ⟨u1.below B hB (fun k hk => (h.opn.lt k hk).1), fun q t xs h1 h2 h3 hb => hb.upd u1 fun hk => by
    obtain ⟨ys, hy⟩ := ownS_type h.opn hk
    exact h3 (blk_type hb hy)⟩
  refine ⟨g, cap, w', r1, hb1.cell 3, hb1.cell 2, hb1.frozen 3, ⟨hb1.set 3 _, h.hb, own_far ho1 hb1 (by decide), ?_⟩, k1.trans (kept_cell hb1 h.hb (.inl rfl))⟩
  have h2 := own_far (i := 3) (u := .slice (some ⟨g, 0, none⟩) (O.length + 1) cap) o1 hb1 (by decide)
  rw [oL_cons]
  exact h2
theorem Rdr.popo (h : Rdr B w b s p vn vo N (o :: O) en) : ∃ go co, vo = .slice (some ⟨go, 0, none⟩) (O.length + 1) co ∧ O.length + 1 ≤ co ∧ co ≤ maxLen ∧ Rdr B (w.setCell ⟨b, 3, none⟩ (.slice (some ⟨go, 0, none⟩) O.length co)) b s p vn (.slice (some ⟨go, 0, none⟩) O.length co) N O en := by
  obtain ⟨go, co, rfl, bo, h1, h2, -, -, h3⟩ := h.top
  exact ⟨go, co, rfl, h1, h2, h.blk.set 3 _, h.hb, own_far h.nod h.blk (by decide), own_far h3 h.blk (by decide)⟩
theorem Rdr.vo_nil (h : Rdr B w b s p vn vo N [] en) : ∃ a c, vo = .slice a 0 c := by
  rcases h.opn.2 with ⟨e, _⟩ | ⟨g, cap, cur, e, _⟩
  · exact ⟨_, _, e⟩
  · exact ⟨_, _, e⟩
end
end Go.Proofs.YtlbgdgobhiokpaaDoor

/- add, end, enter. -/
namespace Go.Proofs.YtlbgdgobhiokpaaDoor
open Go.RowKit
set_option linter.unusedVariables false

set_option maxRecDepth 100000 in
set_option maxHeartbeats 8000000 in
theorem add_any (B b p : Nat) (k n : Int) (s : ByteArray) (vn vo : Value) (N : List Nd) (O : List Nat) (en : Bool) (w : World) (hR : Hid (Rdr B w b s p vn vo N O en)) (hO : ∀ o ∈ O, o < N.length) (hN : N.length ≤ 2000000) (hOl : O.length ≤ 2000000) (hc : ∀ o, 0 ≤ (N.getD o nil0).2.2 ∧ (N.getD o nil0).2.2 ≤ 2000000) :
    Calls Tryd.prog 82 #[.pointer (some ⟨b, 0, none⟩), .int .i64 k, .int .u64 n] w fun e w' => e = .returned (.tuple #[]) ∧ ∃ vn', Hid (Rdr B w' b s p vn' vo (addN N O k n) O en) ∧ Hid (KeptR B w w') := by
  have c2 := hR.out.c2; have c3 := hR.out.c3
  cases O with
  | nil =>
    obtain ⟨a, c, rfl⟩ := hR.out.vo_nil
    obtain ⟨g', cap', w', r1, k2, z2, hR', hK'⟩ := hR.out.push k n hN
    have R1 : Hid _ := r1
    have HR : Hid _ := hR'
    have HK : Hid _ := hK'
    clear r1 hR' hK'
    go_enter Tryd.func82, Tryd.ntmps82
    go_wp2_with (at_builtin; have _t := R1; refine wpList_append_run rfl (.tmp 38) (.tmp 42) 22 22 rfl rfl rfl R1.out ?_; clear R1)
    go_end0
    exact ⟨rfl, _, HR, HK⟩
  | cons o O =>
    obtain ⟨go, co, rfl, bo, ho1, ho2, k0, hgo, -⟩ := hR.out.top
    have hoN : o < N.length := hO o (by simp)
    obtain ⟨gn, cn, hvn, bn, hn1, hn2, hgn, n0, n1, n2, zn, -⟩ := hR.out.node hoN
    obtain ⟨hI, hKI⟩ := hR.out.inc hoN hvn
    have hlen : (incK N o).length = N.length := by simp [incK]
    obtain ⟨g', cap', w', r1, k2, z2, hR', hK'⟩ := Rdr.push (w := (w.setCell ⟨gn, o * 3 + 2, none⟩ (.int .i64 ((N.getD o nil0).2.2 + 1))).drew) hI.drew k n (by omega)
    have hcI3 := hI.c3
    have hcIo : (w.setCell ⟨gn, o * 3 + 2, none⟩ (.int .i64 ((N.getD o nil0).2.2 + 1))).cell? ⟨go, O.length, none⟩ = some (.int .i64 (o : Int)) := by
      obtain ⟨go', co', e1, -, -, -, k1, -⟩ := hI.top
      have e2 : go = go' ∧ co = co' := by simpa using e1
      obtain ⟨rfl, rfl⟩ := e2
      exact k1
    have cI : (w.setCell ⟨gn, o * 3 + 2, none⟩ (.int .i64 ((N.getD o nil0).2.2 + 1))).cell? ⟨b, 2, none⟩ = some vn := hI.c2
    subst hvn
    unfold maxLen at ho2 hn2
    have hsz : (w.setCell ⟨gn, o * 3 + 2, none⟩ (.int .i64 ((N.getD o nil0).2.2 + 1))).drew.heap.size = w.heap.size := World.size_setCell _ _ _
    rw [hsz, hlen] at r1
    have R1 : Hid ((Builtin.append_ #[22, 22] 22 #[.slice (some ⟨gn, 0, none⟩) N.length cn, .slice (some ⟨w.heap.size, 0, none⟩) 1 1]).run Tryd.prog ((w.setCell ⟨gn, o * 3 + 2, none⟩ (.int .i64 ((N.getD o nil0).2.2 + 1))).alloc (.cells #[.int .i64 k, .int .u64 n, .int .i64 0] 37)).drew = .ok (.slice (some ⟨g', 0, none⟩) (N.length + 1) cap') w') := r1
    rw [hlen] at hR' hK'
    have HR : Hid (Rdr B _ b s p _ _ (addN N (o :: O) k n) (o :: O) en) := hR'
    have HK : Hid (KeptR B w _) := hKI.drew.trans hK'
    have hcc := hc o
    generalize (N.getD o nil0).1 = xk at *
    generalize (N.getD o nil0).2.1 = xn at *
    generalize (N.getD o nil0).2.2 = xc at *
    clear r1 hR' hK' hI hKI hO hc hlen hsz
    have hoN' : (o : Int) < N.length := by omega
    have hOl2 : O.length ≤ 2000000 := by simp at hOl; omega
    have hw1 : IntKind.i64.wrap (O.length : Int) = O.length := i64w _ (by omega)
    have hw2 : IntKind.i64.wrap ((O.length : Int) + 1 - 1) = O.length := by rw [i64w _ (by omega)]; omega
    have hw3 : (O.length : Int) < O.length + 1 := by omega
    have hw4 : IntKind.i64.wrap (xc + 1) = xc + 1 := i64w _ (by omega)
    go_enter Tryd.func82, Tryd.ntmps82
    go_wp2_with fail
    go_region
    clear n0 n1 n2 zn k0 c2 c3 hw1 hw2 hw3 hw4 hcI3 hcIo
    go_wp2_with (at_builtin; have _t := R1; refine wpList_append_run rfl (.tmp 38) (.tmp 42) 22 22 rfl rfl rfl R1.out ?_; clear R1)
    go_end0
    exact ⟨rfl, _, HR, HK⟩
end Go.Proofs.YtlbgdgobhiokpaaDoor

/- enter, end. -/
namespace Go.Proofs.YtlbgdgobhiokpaaDoor
open Go.RowKit
set_option linter.unusedVariables false

set_option maxRecDepth 100000 in
set_option maxHeartbeats 8000000 in
theorem enter_any (B b p : Nat) (k n : Int) (s : ByteArray) (vn vo : Value) (N : List Nd) (O : List Nat) (en : Bool) (w : World) (hR : Hid (Rdr B w b s p vn vo N O en)) (hO : ∀ o ∈ O, o < N.length) (hN : N.length ≤ 1500000) (hOl : O.length ≤ 1500000) (hc : ∀ o, 0 ≤ (N.getD o nil0).2.2 ∧ (N.getD o nil0).2.2 ≤ 2000000) :
    Calls Tryd.prog 73 #[.pointer (some ⟨b, 0, none⟩), .int .i64 k, .int .u64 n] w fun e w' => e = .returned (.tuple #[]) ∧ ∃ vn' vo', Hid (Rdr B w' b s p vn' vo' (addN N O k n) (N.length :: O) en) ∧ Hid (KeptR B w w') := by
  go_enter Tryd.func73, Tryd.ntmps73
  go_wp2_with fail
  refine (add_any B b p k n s vn vo N O en w hR hO (by omega) (by omega) hc).mono ?_; rintro e w1 ⟨rfl, vn1, HR1, HK1⟩
  have hlen : (addN N O k n).length = N.length + 1 := by cases O <;> simp [addN, incK]
  have hbl := HR1.out.blk.lt
  obtain ⟨g', cap', w', r1, k3, k2, z3, hR', hK'⟩ := Rdr.pusho (w := w1.drew) HR1.out.drew N.length (by omega)
  obtain ⟨gn, cn, hvn, -, hn1, hn2, -⟩ := Rdr.node (o := 0) HR1.out (by omega)
  rw [hlen] at hvn hn1
  subst hvn
  unfold maxLen at hn2
  have c2 := HR1.out.c2; have c3 := HR1.out.c3; have z1 := HR1.out.blk.frozen 3
  have R1 : Hid ((Builtin.append_ #[43, 43] 43 #[vo, .slice (some ⟨w1.heap.size, 0, none⟩) 1 1]).run Tryd.prog (w1.alloc (.cells #[.int .i64 (N.length : Int)] 3)).drew = .ok (.slice (some ⟨g', 0, none⟩) (O.length + 1) cap') w') := r1
  have HR2 : Hid _ := hR'
  have HK2 : Hid (KeptR B w _) := HK1.out.drew.trans hK'
  have hw1 : IntKind.i64.wrap (N.length : Int) = N.length := i64w _ (by omega)
  have hw2 : IntKind.i64.wrap ((N.length : Int) + 1 - 1) = N.length := by rw [i64w _ (by omega)]; omega
  have HSa : Hid (∀ ob, (w1.alloc ob).cell? ⟨b, 2, none⟩ = some (.slice (some ⟨gn, 0, none⟩) (N.length + 1) cn)) := fun ob => (cell_alloc w1 ob _ _ hbl).trans c2
  have k4 := HR2.out.c2
  clear r1 hR' hK' HR1 HK1 hR hO hc
  go_wp2_with fail
  have c3a : ∀ ob, (w1.alloc ob).cell? ⟨b, 3, none⟩ = some vo := fun ob => (cell_alloc w1 ob _ _ hbl).trans c3
  have c2a := HSa.out
  go_region_law (refine step_append_run rfl (.tmp 14) (.tmp 21) 43 43 rfl rfl rfl R1.out ?_)
  all_goals go_wp2
  all_goals go_end0
  all_goals exact ⟨rfl, _, _, HR2, HK2⟩
set_option maxRecDepth 100000 in
set_option maxHeartbeats 8000000 in
theorem end_any (B b p : Nat) (s : ByteArray) (vn vo : Value) (N : List Nd) (O : List Nat) (en : Bool) (w : World) (hR : Hid (Rdr B w b s p vn vo N O en)) (hO : ∀ o ∈ O, o < N.length) (hN : N.length ≤ 2000000) (hOl : O.length ≤ 2000000) :
    Calls Tryd.prog 61 #[.pointer (some ⟨b, 0, none⟩)] w fun e w' => e = .returned (.tuple #[]) ∧ ∃ vo', Hid (Rdr B w' b s p vn vo' N (popO N O) true) ∧ Hid (KeptR B w w') := by
  have c4 := hR.out.c4
  have z4 := hR.out.blk.frozen 4
  have HR0 : Hid (Rdr B (w.setCell ⟨b, 4, none⟩ (.bool true)) b s p vn vo N O true) := hR.out.seten true
  have HK0 : Hid (KeptR B w (w.setCell ⟨b, 4, none⟩ (.bool true))) := hR.out.keptb 4 _
  go_enter Tryd.func61, Tryd.ntmps61
  go_wp2_with fail
  go_loopw [] (fun wr => ∃ (vo' : Value) (O' : List Nat), (∀ o ∈ O', o < N.length) ∧ O'.length ≤ 2000000 ∧ Hid (popO N O' = popO N O) ∧ Hid (Rdr B wr b s p vn vo' N O' true) ∧ Hid (KeptR B w wr)) (fun wr => match wr.cell? ⟨b, 3, none⟩ with | some (.slice _ n _) => n | _ => 0)
  case atStart => exact ⟨vo, O, hO, hOl, rfl, HR0, HK0⟩
  case round =>
    clear HR0 HK0 c4 z4 hR hO hOl
    obtain ⟨vo, O', hO, hOl, HP, HR, HK⟩ := hrel
    have c2 := HR.out.c2; have c3 := HR.out.c3
    have z3 := HR.out.blk.frozen 3
    cases O' with
    | nil =>
      obtain ⟨a, c, rfl⟩ := HR.out.vo_nil
      go_wp2_with fail
      go_quiet (fail)
      go_wp2
      go_end0
      exact ⟨rfl, _, by rw [← HP.out]; exact HR.out.drewN _, HK.out.drewN _⟩
    | cons o O2 =>
      obtain ⟨go, co, hvo, -, ho1, ho2, k0, hgo, -⟩ := HR.out.top
      obtain ⟨go', co', hvo', -, -, HR2⟩ := HR.out.popo
      rw [hvo] at hvo'
      have e2 : go = go' ∧ co = co' := by simpa using hvo'
      obtain ⟨rfl, rfl⟩ := e2
      have hoN : o < N.length := hO o (by simp)
      obtain ⟨gn, cn, hvn, -, hn1, hn2, -, n0, -⟩ := HR.out.node hoN
      have HP1 : Hid ((if (N.getD o nil0).1 = 5 then popO N O2 else o :: O2) = popO N O) := HP.out
      have HR3 : Hid (∀ q, Rdr B ((wr.drewN q).setCell ⟨b, 3, none⟩ (.slice (some ⟨go, 0, none⟩) O2.length co)) b s p vn (.slice (some ⟨go, 0, none⟩) O2.length co) N O2 true) := fun q => by
        obtain ⟨go', co', hvo2, -, -, HR4⟩ := (HR.out.drewN q).popo
        rw [hvo] at hvo2
        have e2 : go = go' ∧ co = co' := by simpa using hvo2
        obtain ⟨rfl, rfl⟩ := e2
        exact HR4
      have hO2 : ∀ o ∈ O2, o < N.length := fun o ho => hO o (by simp [ho])
      subst hvo hvn
      generalize (N.getD o nil0).1 = xk at *
      unfold maxLen at ho2 hn2
      have hoN' : (o : Int) < N.length := by omega
      have hOl2 : O2.length ≤ 2000000 := by simp at hOl; omega
      have hw1 : IntKind.i64.wrap (O2.length : Int) = O2.length := i64w _ (by omega)
      have hw2 : IntKind.i64.wrap ((O2.length : Int) + 1 - 1) = O2.length := by rw [i64w _ (by omega)]; omega
      have hw3 : (O2.length : Int) < O2.length + 1 := by omega
      clear HR2 hvo' HP hO
      by_cases hx : xk = 5
      · subst hx
        rw [if_pos rfl] at HP1
        go_wp2_with fail
        go_quiet (fail)
        go_wp2_with fail
        go_region
        go_wp2
        go_roundw
        case rel => exact ⟨_, O2, hO2, hOl2, HP1, HR3.out _, (HK.out.drewN _).trans ((HR.out.drewN _).keptb 3 _)⟩
        case measure => rw [(HR3.out _).c3, c3]; simp
      · have hb5 : (xk == 5) = false := by simpa using hx
        rw [if_neg hx] at HP1
        go_wp2_with fail
        go_quiet (fail)
        go_wp2
        go_end0
        exact ⟨rfl, _, HP1.out ▸ HR.out.drewN _, HK.out.drewN _⟩
end Go.Proofs.YtlbgdgobhiokpaaDoor
