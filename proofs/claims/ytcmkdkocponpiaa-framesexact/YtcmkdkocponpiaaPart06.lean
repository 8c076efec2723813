import Derived.Test.YtcmkdkocponpiaaPart05
import Derived.Laws.CopyOwn
import Derived.Laws.OwnMore

/- Slices of integers of the call's own, cut at the front: what append, cuts and stores make of them. Over any program. -/
namespace Go.Proofs.Ytcmkdkocponpiaa
open Go.RowKit
set_option linter.unusedVariables false

theorem Blk.setCells {t : TypeId} {g : Nat} : ∀ (vs xs ys zs : List Value) (w : World), vs.length = ys.length → Blk w g t (xs ++ (ys ++ zs)) → Blk (w.setCells g xs.length vs) g t (xs ++ (vs ++ zs))
  | [], xs, [], zs, w, _, h => h
  | v :: vs, xs, y :: ys, zs, w, hl, h => by
    have h1 := h.set xs.length v
    rw [List.set_append_right _ _ (Nat.le_refl _), Nat.sub_self] at h1
    have h2 : Blk (w.setCell ⟨g, xs.length, none⟩ v) g t ((xs ++ [v]) ++ (ys ++ zs)) := by simpa using h1
    have h3 := Blk.setCells vs (xs ++ [v]) ys zs _ (by simpa using hl) h2
    rw [World.setCells]
    simpa using h3
theorem Upd.setCells {S : Nat → Prop} {a : World} {g : Nat} (hg : S g) : ∀ (vs : List Value) (o : Nat) (w : World), Upd S a w → Upd S a (w.setCells g o vs)
  | [], _, _, h => h
  | v :: vs, o, w, h => by
    rw [World.setCells]
    exact Upd.setCells hg vs (o + 1) _ (h.set ⟨g, o, none⟩ v (.inl hg))

/-- It is nil, or it lies in a block of its own, from some place on. -/
def Tail (B : Nat) (w : World) (e : TypeId) (k : IntKind) (v : Value) (l : List Int) : Prop :=
  (v = .slice none 0 0 ∧ l = []) ∨ ∃ g cap pre post, v = .slice (some ⟨g, pre.length, none⟩) l.length cap ∧ B ≤ g ∧ Blk w g e (pre ++ (cellsL k l ++ post)) ∧ l.length + post.length = cap ∧ cap ≤ maxLen
section
variable {B : Nat} {w w' : World} {e : TypeId} {k : IntKind} {v : Value} {l : List Int}
theorem Tail.upd {S : Nat → Prop} (h : Tail B w e k v l) (hu : Upd S w w') (hs : ∀ q, v.ownBlock = some q → ¬ S q) : Tail B w' e k v l := by
  rcases h with h | ⟨g, cap, pre, post, rfl, h1, h2, h3, h4⟩
  · exact .inl h
  · exact .inr ⟨g, cap, pre, post, rfl, h1, h2.upd hu (hs g rfl), h3, h4⟩
theorem Tail.later (h : Tail B w e k v l) (hB : Below w.heap.size w w') : Tail B w' e k v l := h.upd (Upd.of_below (S := fun _ => False) hB) (fun _ _ h => h)
theorem Tail.lt (h : Tail B w e k v l) (q : Nat) (hq : v.ownBlock = some q) : B ≤ q ∧ q < w.heap.size := by
  rcases h with ⟨rfl, _⟩ | ⟨g, cap, pre, post, rfl, h1, h2, h3⟩
  · cases hq
  · injection hq with hq
    have e' : g = q := hq
    subst e'
    exact ⟨h1, h2.lt⟩
theorem Tail.mono {B' : Nat} (h : Tail B w e k v l) (hb : B' ≤ B) : Tail B' w e k v l := by
  rcases h with h | ⟨g, cap, pre, post, rfl, h1, h2⟩
  · exact .inl h
  · exact .inr ⟨g, cap, pre, post, rfl, by omega, h2⟩
theorem Tail.nil (B : Nat) (w : World) (e : TypeId) (k : IntKind) : Tail B w e k (.slice none 0 0) [] := .inl ⟨rfl, rfl⟩
theorem cell_mid {g : Nat} {pre post : List Value} (h : Blk w g e (pre ++ (cellsL k l ++ post))) (i : Nat) (hi : i < l.length) : w.cell? ⟨g, pre.length + i, none⟩ = some (.int k (l.getD i 0)) := by
  rw [h.cell, List.getElem?_append_right (by omega), Nat.add_sub_cancel_left, List.getElem?_append_left (by rw [cellsL_length]; exact hi), cellsL_at _ _ _ hi]
/-- Its shape. -/
theorem Tail.open (h : Tail B w e k v l) : ∃ a cap, v = .slice a l.length cap ∧ Row k w a l ∧ (a = none → cap = 0) ∧ l.length ≤ cap ∧ cap ≤ maxLen := by
  rcases h with ⟨rfl, rfl⟩ | ⟨g, cap, pre, post, rfl, h1, h2, h3, h4⟩
  · exact ⟨none, 0, rfl, .inl ⟨rfl, rfl⟩, fun _ => rfl, Nat.le_refl _, Nat.zero_le _⟩
  · exact ⟨_, cap, rfl, Row.mk fun i hi => cell_mid h2 i hi, fun h => (by cases h), by omega, h4⟩
theorem Tail.addr (h : Tail B w e k v l) (hl : 0 < l.length) : ∃ g off cap, v = .slice (some ⟨g, off, none⟩) l.length cap ∧ l.length ≤ cap ∧ cap ≤ maxLen ∧ g < w.heap.size ∧ ∀ i, i < l.length → w.cell? ⟨g, off + i, none⟩ = some (.int k (l.getD i 0)) := by
  rcases h with ⟨rfl, rfl⟩ | ⟨g, cap, pre, post, rfl, h1, h2, h3, h4⟩
  · simp at hl
  · exact ⟨g, _, cap, rfl, by omega, h4, h2.lt, fun i hi => cell_mid h2 i hi⟩
theorem tail_of_owns {n : Nat} (h : w.ownsRow B e 1 v n (cellsL k l)) (hl : l.length = n) : Tail B w e k v l := by
  subst hl
  rcases h.2 with ⟨rfl, h0⟩ | ⟨g, cap, cur, rfl, hb, hg, hnc, hcm, hs, ht⟩
  · exact .inl ⟨rfl, List.length_eq_zero_iff.1 h0⟩
  · have hs' : cur.toList.length = cap := by simpa using hs
    have ht' : cur.toList.take l.length = cellsL k l := by simpa using ht
    refine .inr ⟨g, cap, [], cur.toList.drop l.length, rfl, hb, ?_, by rw [List.length_drop]; omega, hcm⟩
    rw [List.nil_append, ← ht', List.take_append_drop]
    unfold Blk
    rw [Array.toArray_toList]
    exact hg
/-- Cut at the front, some left. -/
theorem Tail.drop {g off cap n : Nat} (h : Tail B w e k (.slice (some ⟨g, off, none⟩) n cap) l) (m : Nat) (hm : m ≤ l.length) : Tail B w e k (.slice (some ⟨g, off + m, none⟩) (n - m) (cap - m)) (l.drop m) := by
  rcases h with ⟨e1, _⟩ | ⟨g', cap', pre, post, e1, h1, h2, h3, h4⟩
  · cases e1
  · injection e1 with e1 e2 e3
    injection e1 with e1
    injection e1 with e1 e4 _
    subst e1 e2 e3 e4
    refine .inr ⟨g, cap - m, pre ++ cellsL k (l.take m), post, ?_, h1, ?_, by rw [List.length_drop]; omega, by omega⟩
    · rw [List.length_append, cellsL_length, List.length_take, List.length_drop, Nat.min_eq_left hm]
    · have e5 : cellsL k l = cellsL k (l.take m) ++ cellsL k (l.drop m) := by rw [← cellsL_append, List.take_append_drop]
      rw [e5] at h2
      simpa using h2
/-- One of them is written. -/
theorem Tail.set {g off cap n : Nat} (h : Tail B w e k (.slice (some ⟨g, off, none⟩) n cap) l) (i : Nat) (x : Int) (hi : i < l.length) :
    w.cell? ⟨g, off + i, none⟩ = some (.int k (l.getD i 0)) ∧ w.frozen? ⟨g, off + i, none⟩ = false ∧ Tail B (w.setCell ⟨g, off + i, none⟩ (.int k x)) e k (.slice (some ⟨g, off, none⟩) n cap) (l.set i x) := by
  rcases h with ⟨e1, _⟩ | ⟨g', cap', pre, post, e1, h1, h2, h3, h4⟩
  · cases e1
  · injection e1 with e1 e2 e3
    injection e1 with e1
    injection e1 with e1 e4 _
    subst e1 e2 e3 e4
    refine ⟨cell_mid h2 i hi, h2.frozen _, .inr ⟨g, cap, pre, post, by rw [List.length_set], h1, ?_, by rw [List.length_set]; exact h3, h4⟩⟩
    have h5 := h2.set (pre.length + i) (.int k x)
    rw [List.set_append_right _ _ (by omega), Nat.add_sub_cancel_left, List.set_append_left _ _ (by rw [cellsL_length]; exact hi), cellsL_set] at h5
    exact h5
end
/-- append(v, x...), v such a slice, x any row (nil too; it may lie anywhere). -/
theorem run_app_tail {P : Program} {t e : TypeId} {k : IntKind} {bytes : Nat} (E : Elem P t e k bytes) (w : World) (ty B : Nat) (v : Value) (l : List Int) (hv : Tail B w e k v l)
    (a : Option Addr) (m cap : Nat) (r : List Int) (hr : r.length = m) (hrow : Row k w a r) (hnil : a = none → cap = 0) (h63 : l.length + m ≤ maxLen) (hb : (l.length + m) * bytes ≤ 140737488355328) (hbase : B ≤ w.heap.size) :
    ∃ v' w', (Builtin.append_ #[t, t] ty #[v, .slice a m cap]).run P w = .ok v' w' ∧ Tail B w' e k v' (l ++ r) ∧ Upd (fun q => v.ownBlock = some q) w w' ∧ ∀ q, v'.ownBlock = some q → v.ownBlock = some q ∨ w.heap.size ≤ q := by
  obtain ⟨i0, hi, hz0, hz1, hz2⟩ := info_parts E.info
  subst hr
  rcases hrow with ⟨rfl, rfl⟩ | ⟨x, rfl, hc⟩
  · obtain rfl := hnil rfl
    refine ⟨v, w, ?_, by simpa using hv, Upd.refl _ _, fun q hq => .inl hq⟩
    rcases hv with ⟨rfl, rfl⟩ | ⟨g, c, pre, post, rfl, h1, h2, h3, h4⟩
    · simp [Builtin.append_, run_underlying E.sl, sizeOf, typeInfo, hi, Builtin.lenOf, Builtin.firstCells]
    · have hnc : l.length ≤ c := by omega
      simp [Builtin.append_, run_underlying E.sl, sizeOf, typeInfo, hi, Builtin.lenOf, Builtin.firstCells, hnc, storeCells]
  · rcases hv with ⟨rfl, rfl⟩ | ⟨g, c, pre, post, rfl, h1, h2, h3, h4⟩
    · obtain ⟨v', w', r1, r2, r3⟩ := run_copy E w ty w.heap.size (some x) r.length cap r rfl (.inr ⟨x, rfl, hc⟩) hnil (by simpa using h63) (by simpa using hb) (Nat.le_refl _)
      refine ⟨v', w', r1, ?_, (Upd.refl _ w).grown r3 (fun k hk => by cases hk), fun q hq => .inr (r2.lt q hq).1⟩
      rw [List.nil_append]
      exact (tail_of_owns r2 rfl).mono hbase
    · by_cases hroom : l.length + r.length ≤ c
      · have hp : r.length ≤ post.length := by omega
        have hblk2 : Blk w g e ((pre ++ cellsL k l) ++ (post.take r.length ++ post.drop r.length)) := by rw [List.take_append_drop, List.append_assoc]; exact h2
        have hrun := run_append_room_cells (P := P) w t ty e i0 E.sl hi g pre.length l.length c x r.length cap (cellsL k r) (by rw [cellsL_length, hz1, Nat.mul_one])
          (fun j u hj => by obtain ⟨h, rfl⟩ := cellsL_get k r j u hj; exact hc j h) (cellsL_one k r) hroom
          (fun j hj => by
            rw [cellsL_length] at hj
            rw [h2.cell, hz1, Nat.mul_one, List.getElem?_eq_getElem (by simp [cellsL_length]; omega)]
            rfl) (fun j hj => h2.frozen _)
        rw [hz1, Nat.mul_one] at hrun
        have hS := Blk.setCells (cellsL k r) (pre ++ cellsL k l) (post.take r.length) (post.drop r.length) w (by rw [cellsL_length, List.length_take, Nat.min_eq_left hp]) hblk2
        rw [List.length_append, cellsL_length] at hS
        refine ⟨_, _, hrun, .inr ⟨g, c, pre, post.drop r.length, ?_, h1, ?_, by simp; omega, h4⟩, Upd.setCells (S := fun q => Value.ownBlock (.slice (some ⟨g, pre.length, none⟩) l.length c) = some q) rfl _ _ _ (Upd.refl _ _), fun q hq => .inl hq⟩
        · rw [List.length_append]
        · rw [cellsL_append]
          simpa using hS
      · obtain ⟨v', w', r1, r2, r3⟩ := run_append_arg_grows (P := P) w t ty e i0 (.int k 0) 1 bytes E.sl hi hz0 hz1 hz2 rfl (by decide) ⟨g, pre.length, none⟩ l.length c (cellsL k l) (by rw [cellsL_length, Nat.mul_one])
          (fun j u hj => by obtain ⟨h, rfl⟩ := cellsL_get k l j u hj; rw [add_none]; exact cell_mid h2 j h) x r.length cap (cellsL k r) (by rw [cellsL_length, Nat.mul_one])
          (fun j u hj => by obtain ⟨h, rfl⟩ := cellsL_get k r j u hj; exact hc j h) (by omega) h63 hb
        rw [← cellsL_append] at r2
        exact ⟨v', w', r1, (tail_of_owns r2 (by rw [List.length_append])).mono hbase, (Upd.refl _ w).grown r3 (fun k hk => by cases hk), fun q hq => .inr (r2.lt q hq).1⟩
end Go.Proofs.Ytcmkdkocponpiaa
