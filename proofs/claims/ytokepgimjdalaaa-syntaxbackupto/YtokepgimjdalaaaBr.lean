import Derived.Test.YtokepgimjdalaaaBq
import Derived.Test.YtokepgimjdalaaaBp

/- Writer.expr: what lies in memory. -/
namespace Go.Proofs.Ytokepgimjdalaaa
open Go.RowKit
set_option linter.unusedVariables false

/-- The style in which the text is written. -/
def stB : Sty := ⟨[], [32], [32], [32], [32], [32], [32], [10]⟩
theorem stB_ok : StyOk stB := by
  have h : ∀ c : UInt8, (c = 32 ∨ c = 10) → FillOk [c] := fun c hc => by
    rcases hc with rfl | rfl
    · exact ⟨by decide, fun x y e => by injection e with e _; subst e; decide⟩
    · exact ⟨by decide, fun x y e => by injection e with e _; subst e; decide⟩
  exact ⟨FillOk.nil, h _ (.inl rfl), h _ (.inl rfl), h _ (.inl rfl), h _ (.inl rfl), h _ (.inl rfl), h _ (.inl rfl), h _ (.inr rfl)⟩
/-- A list of nodes in a block of its own. -/
def NdB (w : World) (B gn cn : Nat) (N : List Nd) : Prop := B ≤ gn ∧ N.length ≤ cn ∧ cn ≤ maxLen ∧ ∃ ys, Blk w gn 40 ys ∧ ys.length = cn * 7 ∧ ys.take (N.length * 7) = cellsN N
def UpdE (B g gn : Nat) (w w' : World) : Prop := Upd (fun k => k = g ∨ k = gn ∨ (B ≤ k ∧ ∃ ys, Blk w k 5 ys)) w w'
theorem UpdE.trans {B g gn : Nat} {w w' w'' : World} (h : UpdE B g gn w w') (k : UpdE B g gn w' w'') : UpdE B g gn w w'' := by
  refine Upd.trans h k (fun j hj hS => ?_)
  rcases hS with hS | hS | ⟨hb, ys, hS⟩
  · exact .inl hS
  · exact .inr (.inl hS)
  · by_cases hc : j = g ∨ j = gn ∨ (B ≤ j ∧ ∃ ys, Blk w j 5 ys)
    · exact hc
    · exact .inr (.inr ⟨hb, ys, by unfold Blk at hS ⊢; rw [← h.block j hj hc]; exact hS⟩)
theorem UpdB.e {B g gn : Nat} {w w' : World} (h : UpdB B g w w') : UpdE B g gn w w' := Upd.mono h (fun k _ hk => hk.elim .inl (fun h => .inr (.inr h)))
theorem UpdE.of_below {B g gn : Nat} {w w' : World} (h : Below w.heap.size w w') : UpdE B g gn w w' := Upd.of_below h
section
variable {w w' : World} {B g gn cn : Nat} {b : List UInt8} {N : List Nd}
theorem NdB.at (h : NdB w B gn cn N) {m : Nat} {x : Nd} (hx : N[m]? = some x) (j : Nat) (hj : j < 7) : w.cell? ⟨gn, m * 7 + j, none⟩ = (ndc x)[j]? := by
  obtain ⟨_, _, _, ys, hK, hl, ht⟩ := h
  have hm := (List.getElem?_eq_some_iff.1 hx).1
  rw [hK.cell, ← cellsN_at N m j x hx hj, ← ht, List.getElem?_take, if_pos (by omega)]
theorem NdB.frozen (h : NdB w B gn cn N) (j : Nat) : w.frozen? ⟨gn, j, none⟩ = false := by
  obtain ⟨_, _, _, ys, hK, _⟩ := h
  exact hK.frozen j
theorem NdB.setA (h : NdB w B gn cn N) {m : Nat} {x : Nd} (hx : N[m]? = some x) (p : Int) : NdB (w.setCell ⟨gn, m * 7 + 6, none⟩ (.int .i64 p)) B gn cn (N.set m { x with a := p }) := by
  obtain ⟨h1, h2, h3, ys, hK, hl, ht⟩ := h
  refine ⟨h1, by rw [List.length_set]; exact h2, h3, _, hK.set (m * 7 + 6) (.int .i64 p), by rw [List.length_set]; exact hl, ?_⟩
  rw [List.length_set, List.take_set, ht, cellsN_a N m x p hx]
theorem NdB.later (h : NdB w B gn cn N) (hB : Below w.heap.size w w') : NdB w' B gn cn N := by
  obtain ⟨h1, h2, h3, ys, hK, hr⟩ := h
  exact ⟨h1, h2, h3, ys, hK.later hB, hr⟩
theorem NdB.updB {vb : Value} (h : NdB w B gn cn N) (hg : Blk w g 59 [vb]) (hU : UpdB B g w w') : NdB w' B gn cn N := by
  obtain ⟨h1, h2, h3, ys, hK, hr⟩ := h
  refine ⟨h1, h2, h3, ys, hK.upd hU (fun e => ?_), hr⟩
  rcases e with e | ⟨-, zs, e⟩
  · subst e; exact absurd (blk_type hK hg) (by decide)
  · exact absurd (blk_type hK e) (by decide)
theorem Wrt.later (h : Wrt w B g b) (hB : Below w.heap.size w w') : Wrt w' B g b := by
  obtain ⟨h1, vb, hK, hR⟩ := h
  exact ⟨h1, vb, hK.later hB, ownS_upd hR (Upd.of_below (S := fun _ => False) hB) (fun _ _ h => h)⟩
theorem Wrt.setE (h : Wrt w B g b) {ys : List Value} (hn : Blk w gn 40 ys) (i : Nat) (u : Value) : Wrt (w.setCell ⟨gn, i, none⟩ u) B g b := by
  obtain ⟨h1, vb, hK, hR⟩ := h
  refine ⟨h1, vb, hK.other _ _ (fun e => ?_), ownS_upd hR ((Upd.refl (fun k => k = gn) w).set ⟨gn, i, none⟩ u (.inl rfl)) (fun k hk e => ?_)⟩
  · have e' : g = gn := e
    subst e'; exact absurd (blk_type hK hn) (by decide)
  · subst e
    obtain ⟨zs, hz⟩ := ownS_type hR hk
    exact absurd (blk_type hn hz) (by decide)
end
def WrS (w : World) (B g gn cn : Nat) (b : List UInt8) (N : List Nd) : Prop := Wrt w B g b ∧ NdB w B gn cn N
theorem WrS.later {w w' : World} {B g gn cn : Nat} {b : List UInt8} {N : List Nd} (h : WrS w B g gn cn b N) (hB : Below w.heap.size w w') : WrS w' B g gn cn b N := ⟨h.1.later hB, h.2.later hB⟩
theorem WrS.setA {w : World} {B g gn cn : Nat} {b : List UInt8} {N : List Nd} (h : WrS w B g gn cn b N) {m : Nat} {x : Nd} (hx : N[m]? = some x) (p : Int) : WrS (w.setCell ⟨gn, m * 7 + 6, none⟩ (.int .i64 p)) B g gn cn b (N.set m { x with a := p }) := by
  obtain ⟨ys, hK, _⟩ := h.2.2.2.2
  exact ⟨h.1.setE hK _ _, h.2.setA hx p⟩
theorem set_upd (B g gn : Nat) (w : World) (i : Nat) (u : Value) : UpdE B g gn w (w.setCell ⟨gn, i, none⟩ u) := (Upd.refl _ w).set _ _ (.inl (.inr (.inl rfl)))
/-- put, with a list of nodes beside it. -/
def PutS (w : World) (B g gn cn : Nat) (b : List UInt8) (N : List Nd) (w' : World) : Prop := Hid (WrS w' B g gn cn b N) ∧ Hid (UpdE B g gn w w')
theorem putS_any (g B gn cn : Nat) (b : List UInt8) (N : List Nd) (s : ByteArray) (w : World) (hW : Hid (WrS w B g gn cn b N)) (hl : b.length ≤ 900000000) (hs : s.size ≤ 900000000) :
    Calls Try.prog 17 #[.pointer (some ⟨g, 0, none⟩), .string s] w fun e w' => e = .returned (.tuple #[]) ∧ PutS w B g gn cn (b ++ s.data.toList) N w' :=
  (put_any g B b s w (hide_ hW.out.1) hl hs).mono fun e w' ⟨h1, h2, h3⟩ => ⟨h1, by
    obtain ⟨_, vb, hK, _⟩ := hW.out.1
    exact ⟨hide_ ⟨h2.out, hW.out.2.updB hK h3.out⟩, hide_ h3.out.e⟩⟩
/-! ### The contract -/
def ExTo (w : World) (B g gn cn : Nat) (b : List UInt8) (N : List Nd) (r : Nat) (e : Ending) (w' : World) : Prop := e = .returned (.int .i64 (r : Int)) ∧ Hid (WrS w' B g gn cn b N) ∧ Hid (UpdE B g gn w w')
def atO (x : Nd) (ins : Bool) (p : Nat) : Nd := { x with a := bif ins then x.a else (p : Int) }
def ExB (fu : Nat) : Prop := ∀ (w : World) (B g gn cn : Nat) (b : List UInt8) (d : Nat) (k : Int) (x : Nd) (A pre post : List Nd) (P : List (Q × List UInt8)) (A' : List Nd) (ins : Bool) (T : Nat), ndE x k d = 0 →
  WQ stB fu (d + 1) x.k x.kids.toNat A (b.length + (txtP (opnS stB x)).length) P A' → Hid (WrS w B g gn cn b (pre ++ (x :: (A ++ post)))) → b.length + (txtP (opnS stB x ++ (P ++ clsS stB x))).length ≤ 800000000 → (pre ++ (x :: (A ++ post))).length = T → T ≤ 100000000 →
  Calls Try.prog 18 #[.pointer (some ⟨g, 0, none⟩), .slice (some ⟨gn, 0, none⟩) T cn, .int .i64 (pre.length : Int), .bool ins] w fun e w' => ExTo w B g gn cn (b ++ txtP (opnS stB x ++ (P ++ clsS stB x))) (pre ++ (atO x ins b.length :: (A' ++ post))) (pre.length + 1 + A.length) e w'
theorem mid_at (pre : List Nd) (x : Nd) (R : List Nd) : (pre ++ (x :: R))[pre.length]? = some x := by simp
theorem mid_set (pre : List Nd) (x y : Nd) (R : List Nd) : (pre ++ (x :: R)).set pre.length y = pre ++ (y :: R) := by simp
theorem wb_w (s : ByteArray) : wb (qw s) = s.data.toList := by unfold wb qw; rw [if_neg (by simp)]
theorem wb_m (c : UInt8) : wb (qm c) = [c] := by unfold wb qm; rw [if_neg (by simp)]
theorem wb_n (n : Int) : wb (qn n) = dec n.toNat := by unfold wb qn; rw [if_pos rfl]
end Go.Proofs.Ytokepgimjdalaaa
