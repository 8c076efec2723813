/- Check: the parents' stack. -/
import Derived.Test.YtjeafblkmipdmaaWa
namespace Go.Proofs.Ytjeafblkmipdmaa
open Go.RowKit
set_option linter.unusedVariables false

/-- The parents: kind and kids to come, the innermost last. -/
def prc (p : Int × Int) : List Value := [.int .i64 p.1, .int .i64 p.2]
def cellsP (L : List (Int × Int)) : List Value := L.flatMap prc
theorem cellsP_len (L : List (Int × Int)) : (cellsP L).length = L.length * 2 := by
  induction L with
  | nil => rfl
  | cons a L ih => simp [cellsP, prc] at ih ⊢; omega
theorem cellsP_app (L M : List (Int × Int)) : cellsP (L ++ M) = cellsP L ++ cellsP M := by simp [cellsP]
/-- Without those at the end that have none to come. -/
def woR : List (Int × Int) → List (Int × Int)
  | [] => []
  | p :: L => if p.2 = 0 then woR L else p :: L
def wo (L : List (Int × Int)) : List (Int × Int) := (woR L.reverse).reverse
theorem wo_nil : wo [] = [] := rfl
theorem wo_zero (L : List (Int × Int)) (p : Int × Int) (h : p.2 = 0) : wo (L ++ [p]) = wo L := by
  unfold wo
  rw [List.reverse_append]
  simp [woR, h]
theorem wo_more (L : List (Int × Int)) (p : Int × Int) (h : p.2 ≠ 0) : wo (L ++ [p]) = L ++ [p] := by
  unfold wo
  rw [List.reverse_append]
  simp [woR, h]
theorem snoc_of (L : List (Int × Int)) (n : Nat) (h : L.length = n + 1) : ∃ M p, L = M ++ [p] ∧ M.length = n := by
  rcases List.eq_nil_or_concat L with rfl | ⟨M, p, rfl⟩
  · simp at h
  · exact ⟨M, p, by simp, by simp at h; omega⟩
/-- The stack in a block of its own: what lies above it is whatever it was. -/
def Stk (w : World) (g cap : Nat) (L : List (Int × Int)) (ys : List Value) : Prop := Blk w g 76 ys ∧ ys.length = cap * 2 ∧ L.length ≤ cap ∧ cap ≤ maxLen ∧ ys.take (L.length * 2) = cellsP L
theorem Stk.own {w : World} {B g cap : Nat} {L : List (Int × Int)} {ys : List Value} (h : Stk w g cap L ys) (hb : B ≤ g) : w.ownsRow B 76 2 (.slice (some ⟨g, 0, none⟩) L.length cap) L.length (cellsP L) := by
  have k := ownS_of_blk (n := L.length) (B := B) h.1 hb h.2.1 h.2.2.1 h.2.2.2.1
  rw [h.2.2.2.2] at k
  exact k
theorem Stk.of_own {w : World} {B g cap : Nat} {L : List (Int × Int)} (h : w.ownsRow B 76 2 (.slice (some ⟨g, 0, none⟩) L.length cap) L.length (cellsP L)) (h0 : 0 < L.length) : B ≤ g ∧ ∃ ys, Stk w g cap L ys := by
  obtain ⟨g', cap', ys, hv, hb, hn, hm, hl, ht, hK⟩ := ownS_blk h h0
  injection hv with e1 e2 e3
  injection e1 with e1
  injection e1 with e1
  subst e1 e3
  exact ⟨hb, ys, hK, hl, hn, hm, ht⟩
theorem Stk.cut {w : World} {g cap : Nat} {L : List (Int × Int)} {p : Int × Int} {ys : List Value} (h : Stk w g cap (L ++ [p]) ys) : Stk w g cap L ys := by
  obtain ⟨h1, h2, h3, h4, h5⟩ := h
  refine ⟨h1, h2, by simp at h3; omega, h4, ?_⟩
  have := congrArg (List.take (L.length * 2)) h5
  rw [List.take_take, cellsP_app, List.take_append_of_le_length (by rw [cellsP_len]; exact Nat.le_refl _), List.take_of_length_le (l := cellsP L) (by rw [cellsP_len]; exact Nat.le_refl _)] at this
  rw [← this]
  congr 1
  simp
theorem Stk.top {w : World} {g cap : Nat} {L : List (Int × Int)} {p : Int × Int} {ys : List Value} (h : Stk w g cap (L ++ [p]) ys) : w.cell? ⟨g, L.length * 2, none⟩ = some (.int .i64 p.1) ∧ w.cell? ⟨g, L.length * 2 + 1, none⟩ = some (.int .i64 p.2) := by
  obtain ⟨h1, h2, h3, h4, h5⟩ := h
  have e : ∀ j, j < 2 → ys[L.length * 2 + j]? = (prc p)[j]? := fun j hj => by
    have : ys[L.length * 2 + j]? = (ys.take ((L ++ [p]).length * 2))[L.length * 2 + j]? := by rw [List.getElem?_take, if_pos (by simp; omega)]
    rw [this, h5, cellsP_app, List.getElem?_append_right (by rw [cellsP_len]; omega), cellsP_len]
    have e : L.length * 2 + j - L.length * 2 = j := by omega
    rw [e]
    simp [cellsP]
  have h0 := e 0 (by decide)
  have h1' := e 1 (by decide)
  simp [prc] at h0 h1'
  exact ⟨by rw [h1.cell]; exact h0, by rw [h1.cell]; exact h1'⟩
theorem Stk.later {w w' : World} {g cap : Nat} {L : List (Int × Int)} {ys : List Value} (h : Stk w g cap L ys) (hB : Below w.heap.size w w') : Stk w' g cap L ys := ⟨h.1.later hB, h.2⟩
set_option maxRecDepth 100000 in
set_option maxHeartbeats 4000000 in
theorem without_any (g cap : Nat) (L : List (Int × Int)) (ys : List Value) (w : World) (hS : Hid (Stk w g cap L ys)) :
    Calls Try.prog 35 #[.slice (some ⟨g, 0, none⟩) L.length cap] w fun e w' => e = .returned (.slice (some ⟨g, 0, none⟩) (wo L).length cap) ∧ Hid (Stk w g cap (wo L) ys) ∧ w = w' := by
  have hcap : cap ≤ 9223372036854775807 := by have := hS.out.2.2.2.1; unfold maxLen at this; omega
  go_enter Try.func35, Try.ntmps35
  go_wp2_with fail
  go_loopw [0] (fun x wr => ∃ M : List (Int × Int), x = .slice (some ⟨g, 0, none⟩) M.length cap ∧ Hid (Stk w g cap M ys) ∧ Hid (wo M = wo L) ∧ w = wr) (fun x _ => match x with | .slice _ n _ => n | _ => 0)
  case atStart => exact ⟨L, rfl, hS, rfl, rfl⟩
  case round =>
    obtain ⟨M, rfl, HS, HW, rfl⟩ := hrel
    have hMc : M.length ≤ cap := HS.out.2.2.1
    rcases List.eq_nil_or_concat M with rfl | ⟨N, p, hM⟩
    · have HW' : Hid (wo L = []) := hide_ (by rw [← HW.out]; rfl)
      have HS' : Hid (Stk w g cap (wo L) ys) := by rw [HW'.out]; exact HS
      have HL : Hid ((wo L).length = 0) := hide_ (by rw [HW'.out]; rfl)
      simp only [List.length_nil]
      go_wp2
      go_ret
      exact ⟨by rw [HL.out]; rfl, HS', rfl⟩
    · rw [List.concat_eq_append] at hM
      subst hM
      obtain ⟨t1, t2⟩ := HS.out.top
      have hlen : (N ++ [p]).length = N.length + 1 := by simp
      rw [hlen] at hMc ⊢
      clear hlen
      have ha : (0 : Int) < (N.length : Int) + 1 := by omega
      by_cases hp : p.2 = 0
      · have HS2 := hide_ (HS.out.cut)
        have HW2 : Hid (wo N = wo L) := hide_ (by rw [← HW.out, wo_zero _ _ hp])
        rw [hp] at t2
        go_wp2
        go_roundw
        case rel => exact ⟨N, rfl, HS2, HW2, trivial⟩
        case measure => simp
      · have hp' : (p.2 == 0) = false := by simpa using hp
        have HW' : Hid (wo L = N ++ [p]) := hide_ (by rw [← HW.out, wo_more _ _ hp])
        have HS' : Hid (Stk w g cap (wo L) ys) := by rw [HW'.out]; exact HS
        have HL : Hid ((wo L).length = N.length + 1) := hide_ (by rw [HW'.out]; simp)
        go_wp2
        go_ret
        exact ⟨by rw [HL.out]; rfl, HS', rfl⟩
end Go.Proofs.Ytjeafblkmipdmaa
