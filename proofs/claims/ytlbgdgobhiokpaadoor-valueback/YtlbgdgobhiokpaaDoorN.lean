/- mayGoOn, mayClose. -/
import Derived.Test.YtlbgdgobhiokpaaDoorM
namespace Go.Proofs.YtlbgdgobhiokpaaDoor
open Go.RowKit
set_option linter.unusedVariables false

theorem i64w (n : Int) (h : -9223372036854775808 ≤ n ∧ n ≤ 9223372036854775807) : IntKind.i64.wrap n = n := by rw [IntKind.wrap_i64]; omega
theorem cell_alloc (w : World) (ob : Obj) (g i : Nat) (h : g < w.heap.size) : (w.alloc ob).cell? ⟨g, i, none⟩ = w.cell? ⟨g, i, none⟩ := ((Below.refl w.heap.size w).alloc (Nat.le_refl _) ob).cell h
section
variable {B b : Nat} {w w' w1 : World} {s : ByteArray} {p o : Nat} {vn vo v : Value} {N : List Nd} {O : List Nat} {en : Bool}
theorem Rdr.top (h : Rdr B w b s p vn vo N (o :: O) en) :
    ∃ go co, vo = .slice (some ⟨go, 0, none⟩) (O.length + 1) co ∧ B ≤ go ∧ O.length + 1 ≤ co ∧ co ≤ maxLen ∧ w.cell? ⟨go, O.length, none⟩ = some (.int .i64 (o : Int)) ∧ go < w.heap.size ∧ w.ownsRow B 3 1 (.slice (some ⟨go, 0, none⟩) O.length co) O.length (cellsL .i64 (oL O)) := by
  obtain ⟨g, cap, ys, e, hb, hn, hm, hl, ht, hK⟩ := ownS_blk h.opn (by simp)
  have hat : ys[O.length]? = (cellsL .i64 (oL (o :: O)))[O.length]? := by rw [← ht, List.getElem?_take, if_pos (by simp)]
  refine ⟨g, cap, by simpa using e, hb, by simpa using hn, hm, ?_, hK.lt, ?_⟩
  · rw [hK.cell, hat, cellsL_at _ _ _ (by rw [oL_len]; simp), oL_cons, List.getD, List.getElem?_append_right (by rw [oL_len]; omega), oL_len]
    simp
  · have h2 := ownS_of_blk (n := O.length) (c := 1) hK hb hl (by simp at hn; omega) hm
    have e2 : ys.take (O.length * 1) = cellsL .i64 (oL O) := by
      have h3 := congrArg (List.take O.length) ht
      rw [List.take_take, Nat.min_eq_left (by simp), oL_cons, cellsL_append, List.take_left' (by rw [cellsL_length, oL_len])] at h3
      rw [Nat.mul_one]
      exact h3
    rw [e2] at h2
    exact h2
theorem Rdr.node (h : Rdr B w b s p vn vo N O en) (ho : o < N.length) :
    ∃ gn cn, vn = .slice (some ⟨gn, 0, none⟩) N.length cn ∧ B ≤ gn ∧ N.length ≤ cn ∧ cn ≤ maxLen ∧ gn < w.heap.size ∧ w.cell? ⟨gn, o * 3, none⟩ = some (.int .i64 (N.getD o nil0).1) ∧ w.cell? ⟨gn, o * 3 + 1, none⟩ = some (.int .u64 (N.getD o nil0).2.1) ∧ w.cell? ⟨gn, o * 3 + 2, none⟩ = some (.int .i64 (N.getD o nil0).2.2) ∧
      w.frozen? ⟨gn, o * 3 + 2, none⟩ = false ∧ ∃ ys, Blk w gn 37 ys := by
  obtain ⟨g, cap, ys, e, hb, hn, hm, hl, ht, hK⟩ := ownS_blk h.nod (by omega)
  have hat : ∀ i, i < N.length * 3 → ys[i]? = (cellsN N)[i]? := fun i hi => by rw [← ht, List.getElem?_take, if_pos hi]
  obtain ⟨c0, c1, c2⟩ := cellsN_at N o ho
  exact ⟨g, cap, e, hb, hn, hm, hK.lt, by rw [hK.cell, hat _ (by omega), c0], by rw [hK.cell, hat _ (by omega), c1], by rw [hK.cell, hat _ (by omega), c2], hK.frozen _, ys, hK⟩
end
def mayGo (N : List Nd) : List Nat → Bool → Bool
  | [], _ => false
  | o :: _, en => en && decide ((N.getD o nil0).2.2 < mostK (N.getD o nil0).1)
set_option maxRecDepth 100000 in
set_option maxHeartbeats 8000000 in
theorem goOn_any (B b p : Nat) (s : ByteArray) (vn vo : Value) (N : List Nd) (O : List Nat) (en : Bool) (w : World) (hR : Hid (Rdr B w b s p vn vo N O en)) (hO : ∀ o ∈ O, o < N.length) (hN : N.length ≤ 2000000) (hOl : O.length ≤ 2000000) :
    Calls Tryd.prog 62 #[.pointer (some ⟨b, 0, none⟩)] w fun e w' => e = .returned (.bool (mayGo N O en)) ∧ Below w.heap.size w w' := by
  have c2 := hR.out.c2; have c3 := hR.out.c3; have c4 := hR.out.c4
  cases O with
  | nil =>
    have hv : ∃ a c, vo = .slice a 0 c := by
      rcases hR.out.opn.2 with ⟨e, _⟩ | ⟨g, cap, cur, e, _⟩
      · exact ⟨_, _, e⟩
      · exact ⟨_, _, e⟩
    obtain ⟨a, c, rfl⟩ := hv
    go_enter Tryd.func62, Tryd.ntmps62
    go_wp2
    go_ret
    exact ⟨rfl, Below.refl _ _⟩
  | cons o O =>
    obtain ⟨go, co, rfl, bo, ho1, ho2, k0, hgo, -⟩ := hR.out.top
    have hoN : o < N.length := hO o (by simp)
    obtain ⟨gn, cn, rfl, bn, hn1, hn2, hgn, n0, n1, n2, zn, -⟩ := hR.out.node hoN
    unfold maxLen at ho2 hn2
    have HG : Hid (mayGo N (o :: O) en = (en && decide ((N.getD o nil0).2.2 < mostK (N.getD o nil0).1))) := rfl
    generalize N.getD o nil0 = x at *
    obtain ⟨xk, xn, xc⟩ := x
    simp only at n0 n1 n2 HG
    clear hO
    go_enter Tryd.func62, Tryd.ntmps62
    cases en with
    | false =>
      go_wp2
      go_ret
      exact ⟨by rw [HG.out]; rfl, Below.refl _ _⟩
    | true =>
      go_wp2_with fail
      have hoN' : (o : Int) < N.length := by omega
      have hw1 : IntKind.i64.wrap (O.length : Int) = O.length := i64w _ (by omega)
      have hw2 : IntKind.i64.wrap ((O.length : Int) + 1 - 1) = O.length := by rw [i64w _ (by omega)]; omega
      have hw3 : (O.length : Int) < O.length + 1 := by omega
      have hbl := hR.out.blk.lt
      have HS : Hid (∀ ob, (w.alloc ob).cell? ⟨b, 2, none⟩ = some (.slice (some ⟨gn, 0, none⟩) N.length cn) ∧ (w.alloc ob).cell? ⟨b, 3, none⟩ = some (.slice (some ⟨go, 0, none⟩) (O.length + 1) co) ∧ (w.alloc ob).cell? ⟨go, O.length, none⟩ = some (.int .i64 (o : Int)) ∧ (w.alloc ob).cell? ⟨gn, o * 3, none⟩ = some (.int .i64 xk) ∧ (w.alloc ob).cell? ⟨gn, o * 3 + 1, none⟩ = some (.int .u64 xn) ∧ (w.alloc ob).cell? ⟨gn, o * 3 + 2, none⟩ = some (.int .i64 xc)) := fun ob => ⟨(cell_alloc w ob _ _ hbl).trans c2, (cell_alloc w ob _ _ hbl).trans c3, (cell_alloc w ob _ _ hgo).trans k0, (cell_alloc w ob _ _ hgn).trans n0, (cell_alloc w ob _ _ hgn).trans n1, (cell_alloc w ob _ _ hgn).trans n2⟩
      go_region_held_law (fun w' => w'.cell? ⟨b, 2, none⟩ = some (.slice (some ⟨gn, 0, none⟩) N.length cn) ∧ w'.cell? ⟨b, 3, none⟩ = some (.slice (some ⟨go, 0, none⟩) (O.length + 1) co) ∧ w'.cell? ⟨go, O.length, none⟩ = some (.int .i64 (o : Int)) ∧ w'.cell? ⟨gn, o * 3, none⟩ = some (.int .i64 xk) ∧ w'.cell? ⟨gn, o * 3 + 1, none⟩ = some (.int .u64 xn) ∧ w'.cell? ⟨gn, o * 3 + 2, none⟩ = some (.int .i64 xc)) (first | assumption | exact ⟨c2, c3, k0, n0, n1, n2⟩ | exact HS.out _) (fail)
      go_wp2_with fail
      refine (bounds_any xk _).mono ?_; rintro e w1 ⟨rfl, hB1⟩
      have K1 := (Blk.newA w #[.int .i64 xk, .int .u64 xn, .int .i64 xc] 37).drew.later hB1
      have e2 : ∀ ob, (w1.alloc ob).cell? ⟨w.heap.size, 2, none⟩ = some (.int .i64 xc) := fun ob => (K1.alloc ob).cell 2
      have hB : Below w.heap.size w w1 := (((Below.refl w.heap.size w).alloc (Nat.le_refl _) _).drew).trans (hB1.mono (by simp))
      clear HS c2 c3 c4 k0 n0 n1 n2 zn K1 hB1
      unfold bnd
      go_wp2
      go_ret
      exact ⟨by rw [HG.out]; rfl, hB.alloc hB.size _⟩
/-- Does this byte close the innermost open node here? -/
def mayC (N : List Nd) : List Nat → Bool → Int → Bool
  | [], _, _ => false
  | o :: _, en, c => (en || (decide ((N.getD o nil0).2.2 = 0) && decide (leastK (N.getD o nil0).1 = 0))) && decide (endT (N.getD o nil0).1 = [c])
theorem endS_is (k c : Int) (hc : c = 93 ∨ c = 125 ∨ c = 62) : ((endS k).toList == (Utf8.encode c).toList) = decide (endT k = [c]) := by
  rw [ByteArray.toList_eq, ByteArray.toList_eq]
  unfold endS endT
  rcases hc with rfl | rfl | rfl <;> (split; rfl; split; rfl; split; rfl; rfl)
set_option maxRecDepth 100000 in
set_option maxHeartbeats 8000000 in
theorem close1_any (B b p : Nat) (c : Int) (s : ByteArray) (vn vo : Value) (N : List Nd) (O : List Nat) (en : Bool) (w : World) (hR : Hid (Rdr B w b s p vn vo N O en)) (hO : ∀ o ∈ O, o < N.length) (hN : N.length ≤ 2000000) (hOl : O.length ≤ 2000000) (hc : c = 93 ∨ c = 125 ∨ c = 62) :
    Calls Tryd.prog 60 #[.pointer (some ⟨b, 0, none⟩), .int .u8 c] w fun e w' => e = .returned (.bool (mayC N O en c)) ∧ Below w.heap.size w w' := by
  have c2 := hR.out.c2; have c3 := hR.out.c3; have c4 := hR.out.c4
  cases O with
  | nil =>
    have hv : ∃ a c, vo = .slice a 0 c := by
      rcases hR.out.opn.2 with ⟨e, _⟩ | ⟨g, cap, cur, e, _⟩
      · exact ⟨_, _, e⟩
      · exact ⟨_, _, e⟩
    obtain ⟨a, c, rfl⟩ := hv
    go_enter Tryd.func60, Tryd.ntmps60
    go_wp2
    go_ret
    exact ⟨rfl, Below.refl _ _⟩
  | cons o O =>
    obtain ⟨go, co, rfl, bo, ho1, ho2, k0, hgo, -⟩ := hR.out.top
    have hoN : o < N.length := hO o (by simp)
    obtain ⟨gn, cn, rfl, bn, hn1, hn2, hgn, n0, n1, n2, zn, -⟩ := hR.out.node hoN
    unfold maxLen at ho2 hn2
    have HG : Hid (mayC N (o :: O) en c = ((en || (decide ((N.getD o nil0).2.2 = 0) && decide (leastK (N.getD o nil0).1 = 0))) && decide (endT (N.getD o nil0).1 = [c]))) := rfl
    generalize N.getD o nil0 = x at *
    obtain ⟨xk, xn, xc⟩ := x
    simp only at n0 n1 n2 HG
    clear hO
    go_enter Tryd.func60, Tryd.ntmps60
    go_wp2_with fail
    have hoN' : (o : Int) < N.length := by omega
    have hw1 : IntKind.i64.wrap (O.length : Int) = O.length := i64w _ (by omega)
    have hw2 : IntKind.i64.wrap ((O.length : Int) + 1 - 1) = O.length := by rw [i64w _ (by omega)]; omega
    have hw3 : (O.length : Int) < O.length + 1 := by omega
    have hbl := hR.out.blk.lt
    have HS : Hid (∀ ob, (w.alloc ob).cell? ⟨b, 2, none⟩ = some (.slice (some ⟨gn, 0, none⟩) N.length cn) ∧ (w.alloc ob).cell? ⟨b, 3, none⟩ = some (.slice (some ⟨go, 0, none⟩) (O.length + 1) co) ∧ (w.alloc ob).cell? ⟨go, O.length, none⟩ = some (.int .i64 (o : Int)) ∧ (w.alloc ob).cell? ⟨gn, o * 3, none⟩ = some (.int .i64 xk) ∧ (w.alloc ob).cell? ⟨gn, o * 3 + 1, none⟩ = some (.int .u64 xn) ∧ (w.alloc ob).cell? ⟨gn, o * 3 + 2, none⟩ = some (.int .i64 xc)) := fun ob => ⟨(cell_alloc w ob _ _ hbl).trans c2, (cell_alloc w ob _ _ hbl).trans c3, (cell_alloc w ob _ _ hgo).trans k0, (cell_alloc w ob _ _ hgn).trans n0, (cell_alloc w ob _ _ hgn).trans n1, (cell_alloc w ob _ _ hgn).trans n2⟩
    go_region_held_law (fun w' => w'.cell? ⟨b, 2, none⟩ = some (.slice (some ⟨gn, 0, none⟩) N.length cn) ∧ w'.cell? ⟨b, 3, none⟩ = some (.slice (some ⟨go, 0, none⟩) (O.length + 1) co) ∧ w'.cell? ⟨go, O.length, none⟩ = some (.int .i64 (o : Int)) ∧ w'.cell? ⟨gn, o * 3, none⟩ = some (.int .i64 xk) ∧ w'.cell? ⟨gn, o * 3 + 1, none⟩ = some (.int .u64 xn) ∧ w'.cell? ⟨gn, o * 3 + 2, none⟩ = some (.int .i64 xc)) (first | assumption | exact ⟨c2, c3, k0, n0, n1, n2⟩ | exact HS.out _) (fail)
    go_wp2_with fail
    refine (bounds_any xk _).mono ?_; rintro e w1 ⟨rfl, hB1⟩
    have hBw : Below w.heap.size w (w.alloc (.cells #[.int .i64 xk, .int .u64 xn, .int .i64 xc] 37)).drew := ((Below.refl w.heap.size w).alloc (Nat.le_refl _) _).drew
    have K1 := (Blk.newA w #[.int .i64 xk, .int .u64 xn, .int .i64 xc] 37).drew.later hB1
    have hB : Below w.heap.size w w1 := hBw.trans (hB1.mono (by simp))
    have e0 : ∀ ob, (w1.alloc ob).cell? ⟨w.heap.size, 0, none⟩ = some (.int .i64 xk) := fun ob => (K1.alloc ob).cell 0
    have e2 : ∀ ob, (w1.alloc ob).cell? ⟨w.heap.size, 2, none⟩ = some (.int .i64 xc) := fun ob => (K1.alloc ob).cell 2
    have e4 : ∀ ob, (w1.alloc ob).cell? ⟨b, 4, none⟩ = some (.bool en) := fun ob => ((hR.out.blk.later hB).alloc ob).cell 4
    clear HS c2 c3 c4 k0 n0 n1 n2 zn K1 hB1
    unfold bnd
    have hfin : ∀ (d : Bool), (en || (decide (xc = 0) && decide (leastK xk = 0))) = d → mayC N (o :: O) en c = (d && decide (endT xk = [c])) := fun d hd => by rw [HG.out, hd]
    have HF : Hid _ := hfin
    clear hfin
    have hB2 : ∀ ob, Below w.heap.size w (w1.alloc ob) := fun ob => hB.alloc hB.size _
    have H2 : Hid _ := hB2
    clear hB2 hBw
    have HES := endS_is xk c hc
    obtain ⟨es, hes⟩ : ∃ es, decide (endT xk = [c]) = es := ⟨_, rfl⟩
    rw [hes] at HES HF
    have hcb : 0 ≤ c ∧ c ≤ 255 := by omega
    clear hes hc
    cases en with
    | true =>
      have H5 : Hid (mayC N (o :: O) true c = es) := by have := HF.out true rfl; show _ = _; simpa using this
      clear HF
      go_wp2_with (go_at_call 35; refine (ending_any xk _).mono ?_; rintro e w' ⟨rfl, rfl⟩)
      go_ret
      exact ⟨by rw [H5.out, ← HES]; rfl, H2.out _⟩
    | false =>
      by_cases h1 : xc = 0
      · subst h1
        by_cases h2 : leastK xk = 0
        · have H5 : Hid (mayC N (o :: O) false c = es) := by have := HF.out true (by simp [h2]); show _ = _; simpa using this
          clear HF
          rw [h2]
          go_wp2_with (go_at_call 35; refine (ending_any xk _).mono ?_; rintro e w' ⟨rfl, rfl⟩)
          go_ret
          exact ⟨by rw [H5.out, ← HES]; rfl, by rw [h2] at *; exact H2.out _⟩
        · have H5 : Hid (mayC N (o :: O) false c = false) := by have := HF.out false (by simp [h2]); show _ = _; simpa using this
          have hb2 : (leastK xk == 0) = false := by simpa using h2
          clear HF
          go_wp2
          go_ret
          exact ⟨by rw [H5.out]; rfl, H2.out _⟩
      · have H5 : Hid (mayC N (o :: O) false c = false) := by have := HF.out false (by simp [h1]); show _ = _; simpa using this
        have hb2 : (xc == 0) = false := by simpa using h1
        clear HF
        go_wp2
        go_ret
        exact ⟨by rw [H5.out]; rfl, H2.out _⟩
end Go.Proofs.YtlbgdgobhiokpaaDoor
