import Derived.Test.YtjamfbpdepahnaaGreatPart04
import Derived.ArgAppend

/-
  Rows of values of one cell each (slices, pointers ..) of the call's own, number j being F j; blocks of two types are two; functions that grow by one. Over any program. For a new seat: copy as <Name>Rows2.lean (Rows is taken); put the Name for 'Seat', also in the import.
-/
namespace Go.Proofs.YtjamfbpdepahnaaGreat
open Go.RowKit
set_option linter.unusedVariables false
set_option linter.unusedSimpArgs false
def RowE (e : TypeId) (B : Nat) (w : World) (v : Value) (N : Nat) (F : Nat → Value) : Prop := w.ownsRow B e 1 v N ((List.range N).map F)
section
variable {e : TypeId} {B N : Nat} {w w' : World} {v : Value} {F : Nat → Value}
theorem RowE.open (h : RowE e B w v N F) (hN : 0 < N) : ∃ q cap, v = .slice (some ⟨q, 0, none⟩) N cap ∧ B ≤ q ∧ N ≤ cap ∧ cap ≤ maxLen ∧ ∀ j, j < N → w.cell? ⟨q, j, none⟩ = some (F j) := by
  obtain ⟨q, cap, ys, rfl, h1, h2, h3, h4, h5, h6⟩ := own_blk h hN
  refine ⟨q, cap, rfl, h1, h2, h3, fun j hj => ?_⟩
  rw [h6.cell j]
  have e : (ys.take N)[j]? = ys[j]? := by rw [List.getElem?_take, if_pos hj]
  rw [← e, h5]
  simp [hj]
theorem RowE.at {q cap : Nat} (h : RowE e B w (.slice (some ⟨q, 0, none⟩) N cap) N F) (j : Nat) (hj : j < N) : w.cell? ⟨q, j, none⟩ = some (F j) := by
  obtain ⟨q', cap', e, _, _, _, hc⟩ := h.open (by omega)
  injection e with e1 _ _
  injection e1 with e1
  injection e1 with e1 _ _
  subst e1
  exact hc j hj
theorem RowE.nil (e : TypeId) (B : Nat) (w : World) (F : Nat → Value) : RowE e B w (.slice none 0 0) 0 F := World.ownsRow_nil _ _ _ _
theorem RowE.congr {G : Nat → Value} (h : RowE e B w v N F) (eq : ∀ j, j < N → F j = G j) : RowE e B w v N G := by
  unfold RowE at h ⊢
  rw [← List.map_congr_left (fun j hj => eq j (List.mem_range.1 hj))]
  exact h
theorem RowE.upd {S : Nat → Prop} (h : RowE e B w v N F) (hu : Upd S w w') (hs : ∀ k, v.ownBlock = some k → ¬ S k) : RowE e B w' v N F := owns_upd h hu hs
theorem RowE.later (h : RowE e B w v N F) (hB : Below w.heap.size w w') : RowE e B w' v N F := h.upd (Upd.of_below (S := fun _ => False) hB) (fun _ _ h => h)
theorem RowE.lt (h : RowE e B w v N F) (k : Nat) (hk : v.ownBlock = some k) : B ≤ k ∧ k < w.heap.size := World.ownsRow.lt h k hk
theorem RowE.push {P : Program} {t : TypeId} {z : Value} {bytes : Nat} (ht : P.underlying t = some (.slice e)) (hinfo : (P.info? e).map (fun i => (i.zero, i.size, i.bytes)) = some (some z, 1, bytes)) (hzs : z.cells.size = 1)
    (h : RowE e B w v N F) (hx : (F N).oneCell' = true) (h63 : N + 1 ≤ maxLen) (hb : (N + 1) * bytes ≤ 140737488355328) (hB : B ≤ w.heap.size) (ty : Nat) :
    ∃ g cap w', (Builtin.append_ #[t, t] ty #[v, .slice (some ⟨w.heap.size, 0, none⟩) 1 1]).run P (w.alloc (.cells #[F N] e)) = .ok (.slice (some ⟨g, 0, none⟩) (N + 1) cap) w' ∧
      RowE e B w' (.slice (some ⟨g, 0, none⟩) (N + 1) cap) (N + 1) F ∧ Upd (fun k => v.ownBlock = some k) w w' ∧ (v.ownBlock = some g ∨ w.heap.size ≤ g) := by
  obtain ⟨g, cap, w', h1, h2, h3, h4⟩ := run_pushV ht hinfo hzs w ty B v N _ h (F N) hx h63 hb hB
  refine ⟨g, cap, w', h1, ?_, h3, h4⟩
  unfold RowE
  rw [List.range_succ, List.map_append]
  exact h2
end
def ext {α : Type} (g : Nat → α) (N : Nat) (x : α) (j : Nat) : α := if j = N then x else g j
end Go.Proofs.YtjamfbpdepahnaaGreat
