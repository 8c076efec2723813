/- A reader in memory; take, number. -/
import Derived.Test.YtlbgdgobhiokpaaDoorK
namespace Go.Proofs.YtlbgdgobhiokpaaDoor
open Go.RowKit
set_option linter.unusedVariables false

/-- A string's bytes. -/
def tx (s : ByteArray) : List Int := s.data.toList.map fun b => (b.toNat : Int)
theorem tx_len (s : ByteArray) : (tx s).length = s.size := by simp [tx]
theorem tx_at (s : ByteArray) (p : Nat) (h : p < s.size) : (tx s)[p]? = some ((s[p]'h).toNat : Int) := by
  have h2 : p < s.data.size := h
  simp [tx]
  exact ⟨s.data[p], by simp, rfl⟩
def cellsN (N : List Nd) : List Value := N.flatMap ndc
theorem cellsN_len (N : List Nd) : (cellsN N).length = N.length * 3 := by
  induction N with
  | nil => rfl
  | cons x N ih => rw [cellsN, List.flatMap_cons, List.length_append]; rw [cellsN] at ih; rw [ih]; simp [ndc]; omega
theorem cellsN_append (N M : List Nd) : cellsN (N ++ M) = cellsN N ++ cellsN M := by simp [cellsN]
theorem cellsN_at : ∀ (N : List Nd) (i : Nat), i < N.length → (cellsN N)[i * 3]? = some (.int .i64 (N.getD i nil0).1) ∧ (cellsN N)[i * 3 + 1]? = some (.int .u64 (N.getD i nil0).2.1) ∧ (cellsN N)[i * 3 + 2]? = some (.int .i64 (N.getD i nil0).2.2)
  | [], i, h => by simp at h
  | x :: N, 0, _ => ⟨rfl, rfl, rfl⟩
  | x :: N, i + 1, h => by
    have ih := cellsN_at N i (by simpa using h)
    have e : ∀ j, (cellsN (x :: N))[j + 3]? = (cellsN N)[j]? := fun j => by simp [cellsN, ndc]
    rw [show (i + 1) * 3 = i * 3 + 3 by omega, show i * 3 + 3 + 1 = (i * 3 + 1) + 3 by omega, show i * 3 + 3 + 2 = (i * 3 + 2) + 3 by omega, e, e, e]
    simpa using ih
theorem cellsN_set : ∀ (N : List Nd) (i : Nat) (c : Int), i < N.length → (cellsN N).set (i * 3 + 2) (.int .i64 c) = cellsN (N.set i ((N.getD i nil0).1, (N.getD i nil0).2.1, c))
  | [], i, c, h => by simp at h
  | x :: N, 0, c, _ => by simp [cellsN, ndc]
  | x :: N, i + 1, c, h => by
    have ih := cellsN_set N i c (by simpa using h)
    have e : cellsN (x :: N) = ndc x ++ cellsN N := by simp [cellsN]
    have e2 : ∀ y M, cellsN (y :: M) = ndc y ++ cellsN M := fun y M => by simp [cellsN]
    rw [List.set_cons_succ, e, e2, List.set_append_right _ _ (by simp [ndc]; omega)]
    congr 1
    rw [show (i + 1) * 3 + 2 - (ndc x).length = i * 3 + 2 by simp [ndc]; omega]
    simpa using ih
def oL (O : List Nat) : List Int := (O.map Int.ofNat).reverse
theorem oL_len (O : List Nat) : (oL O).length = O.length := by simp [oL]
theorem oL_cons (o : Nat) (O : List Nat) : oL (o :: O) = oL O ++ [(o : Int)] := by simp [oL]

structure Rdr (B : Nat) (w : World) (b : Nat) (s : ByteArray) (p : Nat) (vn vo : Value) (N : List Nd) (O : List Nat) (en : Bool) : Prop where
  blk : Blk w b 92 [.string s, .int .i64 p, vn, vo, .bool en]
  hb : B ≤ b
  nod : w.ownsRow B 37 3 vn N.length (cellsN N)
  opn : w.ownsRow B 3 1 vo O.length (cellsL .i64 (oL O))
/-- Below B nothing has turned, above it nothing but readers, nodes and numbers. -/
structure KeptR (B : Nat) (w w' : World) : Prop where
  bel : Below B w w'
  oth : ∀ g t xs, t ≠ 92 → t ≠ 37 → t ≠ 3 → Blk w g t xs → Blk w' g t xs
section
variable {B b : Nat} {w w' w1 : World} {s : ByteArray} {p : Nat} {vn vo v : Value} {N : List Nd} {O : List Nat} {en : Bool}
theorem KeptR.refl (B : Nat) (w : World) : KeptR B w w := ⟨Below.refl _ _, fun _ _ _ _ _ _ h => h⟩
theorem KeptR.trans (h : KeptR B w w1) (k : KeptR B w1 w') : KeptR B w w' := ⟨h.bel.trans k.bel, fun g t xs h1 h2 h3 hb => k.oth g t xs h1 h2 h3 (h.oth g t xs h1 h2 h3 hb)⟩
theorem KeptR.of_below (hB : B ≤ w.heap.size) (h : Below w.heap.size w w') : KeptR B w w' := ⟨h.mono hB, fun g t xs _ _ _ hb => hb.later h⟩
theorem KeptR.drew (h : KeptR B w w1) : KeptR B w w1.drew := ⟨h.bel.drew, h.oth⟩
theorem KeptR.drewN (h : KeptR B w w1) (n : Nat) : KeptR B w (w1.drewN n) := ⟨⟨h.bel.os, h.bel.tape, h.bel.output, h.bel.size, h.bel.block⟩, h.oth⟩
theorem Rdr.later (h : Rdr B w b s p vn vo N O en) (hB : Below w.heap.size w w') : Rdr B w' b s p vn vo N O en :=
  ⟨h.blk.later hB, h.hb, ownS_upd h.nod (Upd.of_below (S := fun _ => False) hB) (fun _ _ h => h), ownS_upd h.opn (Upd.of_below (S := fun _ => False) hB) (fun _ _ h => h)⟩
theorem Rdr.drewN (h : Rdr B w b s p vn vo N O en) (n : Nat) : Rdr B (w.drewN n) b s p vn vo N O en := ⟨h.blk, h.hb, h.nod, h.opn⟩
theorem Rdr.drew (h : Rdr B w b s p vn vo N O en) : Rdr B w.drew b s p vn vo N O en := ⟨h.blk, h.hb, h.nod, h.opn⟩
theorem Rdr.base (h : Rdr B w b s p vn vo N O en) : B ≤ w.heap.size := Nat.le_of_lt (Nat.lt_of_le_of_lt h.hb h.blk.lt)
theorem own_far {e t : TypeId} {c n g i : Nat} {xs ys : List Value} {u : Value} (h : w.ownsRow B e c v n xs) (hg : Blk w g t ys) (ht : t ≠ e) : (w.setCell ⟨g, i, none⟩ u).ownsRow B e c v n xs := by
  refine ownS_upd h ((Upd.refl (fun k => k = g) w).set _ _ (.inl rfl)) fun k hk e1 => ?_
  subst e1
  obtain ⟨zs, hz⟩ := ownS_type h hk
  exact ht (blk_type hg hz)
theorem kept_cell {t : TypeId} {g i : Nat} {ys : List Value} {u : Value} (hg : Blk w g t ys) (hB : B ≤ g) (ht : t = 92 ∨ t = 37 ∨ t = 3) : KeptR B w (w.setCell ⟨g, i, none⟩ u) := by
  refine ⟨(Below.refl _ _).setCell hB _, fun q t' xs h1 h2 h3 hb => hb.other _ _ fun e => ?_⟩
  have e2 : q = g := e
  subst e2
  have := blk_type hb hg
  rcases ht with rfl | rfl | rfl <;> simp_all
theorem Rdr.setp (h : Rdr B w b s p vn vo N O en) (p' : Nat) : Rdr B (w.setCell ⟨b, 1, none⟩ (.int .i64 p')) b s p' vn vo N O en :=
  ⟨h.blk.set 1 _, h.hb, own_far h.nod h.blk (by decide), own_far h.opn h.blk (by decide)⟩
theorem Rdr.seten (h : Rdr B w b s p vn vo N O en) (e' : Bool) : Rdr B (w.setCell ⟨b, 4, none⟩ (.bool e')) b s p vn vo N O e' :=
  ⟨h.blk.set 4 _, h.hb, own_far h.nod h.blk (by decide), own_far h.opn h.blk (by decide)⟩
theorem Rdr.keptb (h : Rdr B w b s p vn vo N O en) (i : Nat) (u : Value) : KeptR B w (w.setCell ⟨b, i, none⟩ u) := kept_cell h.blk h.hb (.inl rfl)
theorem Rdr.c0 (h : Rdr B w b s p vn vo N O en) : w.cell? ⟨b, 0, none⟩ = some (.string s) := h.blk.cell 0
theorem Rdr.c1 (h : Rdr B w b s p vn vo N O en) : w.cell? ⟨b, 1, none⟩ = some (.int .i64 p) := h.blk.cell 1
theorem Rdr.c2 (h : Rdr B w b s p vn vo N O en) : w.cell? ⟨b, 2, none⟩ = some vn := h.blk.cell 2
theorem Rdr.c3 (h : Rdr B w b s p vn vo N O en) : w.cell? ⟨b, 3, none⟩ = some vo := h.blk.cell 3
theorem Rdr.c4 (h : Rdr B w b s p vn vo N O en) : w.cell? ⟨b, 4, none⟩ = some (.bool en) := h.blk.cell 4
end

/-! ### Words -/
def takeW (t : List Int) : Nat → List Int → Nat × Bool
  | p, [] => (p, true)
  | p, c :: r => if t[p]? = some c then takeW t (p + 1) r else (p, false)
theorem takeW_le (t : List Int) : ∀ (r : List Int) (p : Nat), p ≤ t.length → p ≤ (takeW t p r).1 ∧ (takeW t p r).1 ≤ t.length
  | [], p, h => ⟨Nat.le_refl _, h⟩
  | c :: r, p, h => by
    unfold takeW
    split
    · rename_i hc
      have hp : p < t.length := by
        rcases Nat.lt_or_ge p t.length with h1 | h1
        · exact h1
        · rw [List.getElem?_eq_none h1] at hc; cases hc
      have := takeW_le t r (p + 1) hp
      omega
    · exact ⟨Nat.le_refl _, h⟩
set_option maxRecDepth 100000 in
set_option maxHeartbeats 8000000 in
theorem take_any (B b p : Nat) (s word : ByteArray) (vn vo : Value) (N : List Nd) (O : List Nat) (en : Bool) (w : World) (hR : Hid (Rdr B w b s p vn vo N O en)) (hp : p ≤ s.size) (hs : s.size ≤ 1048576) (hw : word.size ≤ 100) :
    Calls Tryd.prog 63 #[.pointer (some ⟨b, 0, none⟩), .string word] w fun e w' => e = .returned (.bool (takeW (tx s) p (tx word)).2) ∧ Hid (Rdr B w' b s (takeW (tx s) p (tx word)).1 vn vo N O en) ∧ Hid (KeptR B w w') := by
  go_enter Tryd.func63, Tryd.ntmps63
  go_wp2_with fail
  go_loopw [8] (fun i wr => ∃ (k q : Nat), k ≤ word.size ∧ i = .int .i64 k ∧ q ≤ s.size ∧ Hid (takeW (tx s) q ((tx word).drop k) = takeW (tx s) p (tx word)) ∧ Hid (Rdr B wr b s q vn vo N O en) ∧ Hid (KeptR B w wr)) (fun i _ => word.size - (intOf i).toNat)
  case atStart => exact ⟨0, p, Nat.zero_le _, rfl, hp, rfl, hR, KeptR.refl _ _⟩
  case round =>
    clear hR
    obtain ⟨k, q, hk, rfl, hq, HW, HR, HK⟩ := hrel
    have c0 := HR.out.c0; have c1 := HR.out.c1
    have z1 := HR.out.blk.frozen 1
    by_cases hlt : k < word.size
    · have hlt' : (k : Int) < word.size := by omega
      obtain ⟨y, hy⟩ : ∃ y : Int, (((word[k]'hlt).toNat : Nat) : Int) = y := ⟨_, rfl⟩
      have HW1 : Hid (takeW (tx s) q (y :: (tx word).drop (k + 1)) = takeW (tx s) p (tx word)) := by
        have h1 : (tx word).drop k = y :: (tx word).drop (k + 1) := by
          rw [List.drop_eq_getElem_cons (by rw [tx_len]; exact hlt)]
          congr 1
          have := tx_at word k hlt
          rw [List.getElem?_eq_getElem (by rw [tx_len]; exact hlt)] at this
          exact (Option.some.inj this).trans hy
        have := HW.out
        rw [h1] at this
        exact this
      clear HW
      by_cases hend : q = s.size
      · subst hend
        have HW2 : Hid ((s.size, false) = takeW (tx s) p (tx word)) := by
          have := HW1.out
          rw [takeW, if_neg (by rw [List.getElem?_eq_none (by rw [tx_len]; omega)]; simp)] at this
          exact this
        clear HW1
        go_wp2_with fail
        go_quiet (fail)
        go_wp2
        go_ret
        rw [← HW2.out]
        exact ⟨rfl, HR.out.drewN _, HK.out.drewN _⟩
      · have hqs : q < s.size := by omega
        have hqs' : (q : Int) < s.size := by omega
        obtain ⟨x, hx⟩ : ∃ x : Int, (((s[q]'hqs).toNat : Nat) : Int) = x := ⟨_, rfl⟩
        have htx : Hid ((tx s)[q]? = some x) := by show _ = _; rw [tx_at s q hqs, hx]
        have hbq : ((q : Int) == (s.size : Int)) = false := by simp; omega
        by_cases hxy : x = y
        · subst hxy
          have HW2 : Hid (takeW (tx s) (q + 1) ((tx word).drop (k + 1)) = takeW (tx s) p (tx word)) := by
            have := HW1.out
            rw [takeW, if_pos htx.out] at this
            exact this
          clear HW1
          go_wp2_with fail
          go_quiet (fail)
          go_wp2
          go_roundw
          case rel => exact ⟨k + 1, q + 1, by omega, by go_num, by omega, HW2, (HR.out.setp (q + 1)).drewN _, (HK.out.trans (HR.out.keptb 1 _)).drewN _⟩
          case measure => simp [intOf]; omega
        · have hbx : (x == y) = false := by simpa using hxy
          have HW2 : Hid ((q, false) = takeW (tx s) p (tx word)) := by
            have := HW1.out
            rw [takeW, if_neg (by rw [htx.out]; simpa using hxy)] at this
            exact this
          clear HW1
          go_wp2_with fail
          go_quiet (fail)
          go_wp2
          go_ret
          rw [← HW2.out]
          exact ⟨rfl, HR.out.drewN _, HK.out.drewN _⟩
    · obtain rfl : k = word.size := by omega
      have HW2 : Hid ((q, true) = takeW (tx s) p (tx word)) := by
        have := HW.out
        rw [List.drop_eq_nil_of_le (by rw [tx_len]; omega), takeW] at this
        exact this
      clear HW
      go_wp2
      go_ret
      rw [← HW2.out]
      exact ⟨rfl, HR.out, HK.out⟩
end Go.Proofs.YtlbgdgobhiokpaaDoor
