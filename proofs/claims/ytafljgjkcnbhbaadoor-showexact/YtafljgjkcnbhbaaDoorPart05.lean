import Derived.Test.YtafljgjkcnbhbaaDoorPart04
import Derived.ArgAppend

/-
  Rows of values of one cell each (slices, pointers ..) of the call's own, number j being F j; blocks of two types are two; functions that grow by one. Over any program. For a new seat: copy as <Name>Rows2.lean (Rows is taken); put the Name for 'Seat', also in the import.
-/
namespace Go.Proofs.YtafljgjkcnbhbaaDoor
open Go.RowKit
set_option linter.unusedVariables false

/-! ### Blocks of two types are two -/
theorem blk_ne {w : World} {g g' : Nat} {t t' : TypeId} {xs ys : List Value} (h : Blk w g t xs) (h' : Blk w g' t' ys) (ht : t ≠ t') : g ≠ g' := by
  intro e
  subst e
  unfold Blk at h h'
  rw [h] at h'
  injection h' with h'
  injection h' with _ h3 _
  exact ht h3
theorem own_ne_t {B br n : Nat} {w : World} {v : Value} {xs ys : List Value} {t t' : TypeId} (h : w.ownsRow B t 1 v n xs) (hb : Blk w br t' ys) (ht : t ≠ t') : v.ownBlock ≠ some br := by
  intro e
  rcases h.2 with ⟨rfl, _⟩ | ⟨g, cap, cur, rfl, _, hg, _⟩
  · cases e
  · injection e with e
    have e' : g = br := e
    subst e'
    unfold Blk at hb
    rw [hb] at hg
    injection hg with hg
    injection hg with _ h3 _
    exact ht h3.symm
/-! ### Rows -/
def RowE (e : TypeId) (B : Nat) (w : World) (v : Value) (N : Nat) (F : Nat → Value) : Prop := w.ownsRow B e 1 v N ((List.range N).map F)
section
variable {e : TypeId} {B N : Nat} {w w' : World} {v : Value} {F : Nat → Value}
theorem RowE.open (h : RowE e B w v N F) (hN : 0 < N) : ∃ q cap, v = .slice (some ⟨q, 0, none⟩) N cap ∧ B ≤ q ∧ N ≤ cap ∧ cap ≤ maxLen ∧ ∀ j, j < N → w.cell? ⟨q, j, none⟩ = some (F j) := by
  obtain ⟨q, cap, ys, rfl, h1, h2, h3, h4, h5, h6⟩ := own_blk h hN
  refine ⟨q, cap, rfl, h1, h2, h3, fun j hj => ?_⟩
  rw [h6.cell j]
  have e : (ys.take N)[j]? = ys[j]? := by rw [List.getElem?_take, if_pos hj]
  rw [← e, h5]
  simp [hj]
theorem RowE.at {q cap : Nat} (h : RowE e B w (.slice (some ⟨q, 0, none⟩) N cap) N F) (j : Nat) (hj : j < N) : w.cell? ⟨q, j, none⟩ = some (F j) := by
  obtain ⟨q', cap', e, _, _, _, hc⟩ := h.open (by omega)
  injection e with e1 _ _
  injection e1 with e1
  injection e1 with e1 _ _
  subst e1
  exact hc j hj
theorem RowE.nil (e : TypeId) (B : Nat) (w : World) (F : Nat → Value) : RowE e B w (.slice none 0 0) 0 F := World.ownsRow_nil _ _ _ _
theorem RowE.congr {G : Nat → Value} (h : RowE e B w v N F) (eq : ∀ j, j < N → F j = G j) : RowE e B w v N G := by
  unfold RowE at h ⊢
  rw [← List.map_congr_left (fun j hj => eq j (List.mem_range.1 hj))]
  exact h
theorem RowE.upd {S : Nat → Prop} (h : RowE e B w v N F) (hu : Upd S w w') (hs : ∀ k, v.ownBlock = some k → ¬ S k) : RowE e B w' v N F := owns_upd h hu hs
theorem RowE.later (h : RowE e B w v N F) (hB : Below w.heap.size w w') : RowE e B w' v N F := h.upd (Upd.of_below (S := fun _ => False) hB) (fun _ _ h => h)
theorem RowE.lt (h : RowE e B w v N F) (k : Nat) (hk : v.ownBlock = some k) : B ≤ k ∧ k < w.heap.size := World.ownsRow.lt h k hk
/-- append(v, x), x written out. -/
theorem RowE.push {P : Program} {t : TypeId} {z : Value} {bytes : Nat} (ht : P.underlying t = some (.slice e)) (hinfo : (P.info? e).map (fun i => (i.zero, i.size, i.bytes)) = some (some z, 1, bytes)) (hzs : z.cells.size = 1)
    (h : RowE e B w v N F) (hx : (F N).oneCell' = true) (h63 : N + 1 ≤ maxLen) (hb : (N + 1) * bytes ≤ 140737488355328) (hB : B ≤ w.heap.size) (ty : Nat) :
    ∃ g cap w', (Builtin.append_ #[t, t] ty #[v, .slice (some ⟨w.heap.size, 0, none⟩) 1 1]).run P (w.alloc (.cells #[F N] e)) = .ok (.slice (some ⟨g, 0, none⟩) (N + 1) cap) w' ∧
      RowE e B w' (.slice (some ⟨g, 0, none⟩) (N + 1) cap) (N + 1) F ∧ Upd (fun k => v.ownBlock = some k) w w' ∧ (v.ownBlock = some g ∨ w.heap.size ≤ g) := by
  obtain ⟨g, cap, w', h1, h2, h3, h4⟩ := run_pushV ht hinfo hzs w ty B v N _ h (F N) hx h63 hb hB
  refine ⟨g, cap, w', h1, ?_, h3, h4⟩
  unfold RowE
  rw [List.range_succ, List.map_append]
  exact h2
end
def ext {α : Type} (g : Nat → α) (N : Nat) (x : α) (j : Nat) : α := if j = N then x else g j
theorem ext_at {α : Type} (g : Nat → α) (N : Nat) (x : α) : ext g N x N = x := by unfold ext; rw [if_pos rfl]
theorem ext_ne {α : Type} (g : Nat → α) (N : Nat) (x : α) (j : Nat) (h : j ≠ N) : ext g N x j = g j := by unfold ext; rw [if_neg h]
/-! ### append(v, x) onto a full row of integers: what was there stays -/
theorem run_push_full {P : Program} {t e : TypeId} {k : IntKind} {bytes : Nat} (E : Elem P t e k bytes) (w : World) (ty g n : Nat) (l : List Int) (x : Int) (hl : l.length = n) (hb : Blk w g e (cellsL k l)) (h63 : n + 1 ≤ maxLen) (hby : (n + 1) * bytes ≤ 140737488355328) :
    ∃ g' cap w', (Builtin.append_ #[t, t] ty #[.slice (some ⟨g, 0, none⟩) n n, .slice (some ⟨w.heap.size, 0, none⟩) 1 1]).run P (w.alloc (.cells #[.int k x] e)) = .ok (.slice (some ⟨g', 0, none⟩) (n + 1) cap) w' ∧
      w'.ownsRow w.heap.size e 1 (.slice (some ⟨g', 0, none⟩) (n + 1) cap) (n + 1) (cellsL k (l ++ [x])) ∧ Below w.heap.size w w' := by
  obtain ⟨i0, hi, hz0, hz1, hz2⟩ := info_parts E.info
  have hbl := Blk.newA w #[.int k x] e
  have hBa : Below w.heap.size w (w.alloc (.cells #[.int k x] e)) := (Below.refl _ _).alloc (Nat.le_refl _) _
  have hb1 := hb.later hBa
  obtain ⟨v1, w1, r1, o1, gr1⟩ := run_append_arg_grows (P := P) (w.alloc (.cells #[.int k x] e)) t ty e i0 (.int k 0) 1 bytes E.sl hi hz0 hz1 hz2 rfl (by decide)
    ⟨g, 0, none⟩ n n (cellsL k l) (by rw [cellsL_length, Nat.mul_one]; exact hl)
    (fun j u hj => by rw [add_none, Nat.zero_add, hb1.cell j]; exact hj) ⟨w.heap.size, 0, none⟩ 1 1 [.int k x] rfl
    (fun j u hj => by rw [add_none, Nat.zero_add, hbl.cell j]; exact hj) (by omega) h63 hby
  have hBg : Below w.heap.size w w1 := below_to hBa ((Below.refl _ _).grown gr1 (Nat.le_refl _) (fun k hk => by cases hk))
  obtain ⟨x', dx, ys, rfl, hx, h4, h5, h6, h7, h8⟩ := own_blk o1 (by omega)
  refine ⟨x', dx, w1, r1, ?_, hBg⟩
  have := h8.owns w.heap.size (n + 1) dx (Nat.le_trans hBa.size hx) h6 h4 h5
  rw [h7] at this
  rw [cellsL_append]
  exact this
end Go.Proofs.YtafljgjkcnbhbaaDoor
