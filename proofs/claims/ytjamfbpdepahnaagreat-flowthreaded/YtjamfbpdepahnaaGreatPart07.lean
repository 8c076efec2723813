import Derived.Test.YtjamfbpdepahnaaGreatPart06
import Derived.Laws.CopyOwn
import Derived.Laws.OwnMore
namespace Go.Proofs.YtjamfbpdepahnaaGreat
open Go.RowKit
set_option linter.unusedVariables false
set_option linter.unusedSimpArgs false
theorem Blk.setCells {t : TypeId} {g : Nat} : ∀ (vs xs ys zs : List Value) (w : World), vs.length = ys.length → Blk w g t (xs ++ (ys ++ zs)) → Blk (w.setCells g xs.length vs) g t (xs ++ (vs ++ zs))
  | [], xs, [], zs, w, _, h => h
  | v :: vs, xs, y :: ys, zs, w, hl, h => by
    have h1 := h.set xs.length v
    rw [List.set_append_right _ _ (Nat.le_refl _), Nat.sub_self] at h1
    have h2 : Blk (w.setCell ⟨g, xs.length, none⟩ v) g t ((xs ++ [v]) ++ (ys ++ zs)) := by simpa using h1
    have h3 := Blk.setCells vs (xs ++ [v]) ys zs _ (by simpa using hl) h2
    rw [World.setCells]
    simpa using h3
theorem Upd.setCells {S : Nat → Prop} {a : World} {g : Nat} (hg : S g) : ∀ (vs : List Value) (o : Nat) (w : World), Upd S a w → Upd S a (w.setCells g o vs)
  | [], _, _, h => h
  | v :: vs, o, w, h => by
    rw [World.setCells]
    exact Upd.setCells hg vs (o + 1) _ (h.set ⟨g, o, none⟩ v (.inl hg))
def Tail (B : Nat) (w : World) (e : TypeId) (k : IntKind) (v : Value) (l : List Int) : Prop :=
  (v = .slice none 0 0 ∧ l = []) ∨ ∃ g cap pre post, v = .slice (some ⟨g, pre.length, none⟩) l.length cap ∧ B ≤ g ∧ Blk w g e (pre ++ (cellsL k l ++ post)) ∧ l.length + post.length = cap ∧ cap ≤ maxLen
section
variable {B : Nat} {w w' : World} {e : TypeId} {k : IntKind} {v : Value} {l : List Int}
theorem Tail.upd {S : Nat → Prop} (h : Tail B w e k v l) (hu : Upd S w w') (hs : ∀ q, v.ownBlock = some q → ¬ S q) : Tail B w' e k v l := by
  rcases h with h | ⟨g, cap, pre, post, rfl, h1, h2, h3, h4⟩
  · exact .inl h
  · exact .inr ⟨g, cap, pre, post, rfl, h1, h2.upd hu (hs g rfl), h3, h4⟩
theorem Tail.later (h : Tail B w e k v l) (hB : Below w.heap.size w w') : Tail B w' e k v l := h.upd (Upd.of_below (S := fun _ => False) hB) (fun _ _ h => h)
theorem Tail.lt (h : Tail B w e k v l) (q : Nat) (hq : v.ownBlock = some q) : B ≤ q ∧ q < w.heap.size := by
  rcases h with ⟨rfl, _⟩ | ⟨g, cap, pre, post, rfl, h1, h2, h3⟩
  · cases hq
  · injection hq with hq
    have e' : g = q := hq
    subst e'
    exact ⟨h1, h2.lt⟩
theorem Tail.mono {B' : Nat} (h : Tail B w e k v l) (hb : B' ≤ B) : Tail B' w e k v l := by
  rcases h with h | ⟨g, cap, pre, post, rfl, h1, h2⟩
  · exact .inl h
  · exact .inr ⟨g, cap, pre, post, rfl, by omega, h2⟩
theorem Tail.nil (B : Nat) (w : World) (e : TypeId) (k : IntKind) : Tail B w e k (.slice none 0 0) [] := .inl ⟨rfl, rfl⟩
theorem cell_mid {g : Nat} {pre post : List Value} (h : Blk w g e (pre ++ (cellsL k l ++ post))) (i : Nat) (hi : i < l.length) : w.cell? ⟨g, pre.length + i, none⟩ = some (.int k (l.getD i 0)) := by
  rw [h.cell, List.getElem?_append_right (by omega), Nat.add_sub_cancel_left, List.getElem?_append_left (by rw [cellsL_length]; exact hi), cellsL_at _ _ _ hi]
theorem Tail.open (h : Tail B w e k v l) : ∃ a cap, v = .slice a l.length cap ∧ Row k w a l ∧ (a = none → cap = 0) ∧ l.length ≤ cap ∧ cap ≤ maxLen := by
  rcases h with ⟨rfl, rfl⟩ | ⟨g, cap, pre, post, rfl, h1, h2, h3, h4⟩
  · exact ⟨none, 0, rfl, .inl ⟨rfl, rfl⟩, fun _ => rfl, Nat.le_refl _, Nat.zero_le _⟩
  · exact ⟨_, cap, rfl, Row.mk fun i hi => cell_mid h2 i hi, fun h => (by cases h), by omega, h4⟩
theorem Tail.drop {g off cap n : Nat} (h : Tail B w e k (.slice (some ⟨g, off, none⟩) n cap) l) (m : Nat) (hm : m ≤ l.length) : Tail B w e k (.slice (some ⟨g, off + m, none⟩) (n - m) (cap - m)) (l.drop m) := by
  rcases h with ⟨e1, _⟩ | ⟨g', cap', pre, post, e1, h1, h2, h3, h4⟩
  · cases e1
  · injection e1 with e1 e2 e3
    injection e1 with e1
    injection e1 with e1 e4 _
    subst e1 e2 e3 e4
    refine .inr ⟨g, cap - m, pre ++ cellsL k (l.take m), post, ?_, h1, ?_, by rw [List.length_drop]; omega, by omega⟩
    · rw [List.length_append, cellsL_length, List.length_take, List.length_drop, Nat.min_eq_left hm]
    · have e5 : cellsL k l = cellsL k (l.take m) ++ cellsL k (l.drop m) := by rw [← cellsL_append, List.take_append_drop]
      rw [e5] at h2
      simpa using h2
theorem Tail.set {g off cap n : Nat} (h : Tail B w e k (.slice (some ⟨g, off, none⟩) n cap) l) (i : Nat) (x : Int) (hi : i < l.length) :
    w.cell? ⟨g, off + i, none⟩ = some (.int k (l.getD i 0)) ∧ w.frozen? ⟨g, off + i, none⟩ = false ∧ Tail B (w.setCell ⟨g, off + i, none⟩ (.int k x)) e k (.slice (some ⟨g, off, none⟩) n cap) (l.set i x) := by
  rcases h with ⟨e1, _⟩ | ⟨g', cap', pre, post, e1, h1, h2, h3, h4⟩
  · cases e1
  · injection e1 with e1 e2 e3
    injection e1 with e1
    injection e1 with e1 e4 _
    subst e1 e2 e3 e4
    refine ⟨cell_mid h2 i hi, h2.frozen _, .inr ⟨g, cap, pre, post, by rw [List.length_set], h1, ?_, by rw [List.length_set]; exact h3, h4⟩⟩
    have h5 := h2.set (pre.length + i) (.int k x)
    rw [List.set_append_right _ _ (by omega), Nat.add_sub_cancel_left, List.set_append_left _ _ (by rw [cellsL_length]; exact hi), cellsL_set] at h5
    exact h5
end
end Go.Proofs.YtjamfbpdepahnaaGreat
