/- Rows of tokens; same. -/
import Derived.Test.YtokepgimjdalaaaJ
namespace Go.Proofs.Ytokepgimjdalaaa
open Go.RowKit
set_option linter.unusedVariables false

def TRow (w : World) (a : Option Addr) (l : List Tk) : Prop :=
  (a = none ∧ l = []) ∨ ∃ b off, a = some ⟨b, off, none⟩ ∧ b < w.heap.size ∧ ∀ i, i < l.length →
    w.cell? ⟨b, off + i * 5, none⟩ = some (.int .i64 (l.getD i tk0).k) ∧ w.cell? ⟨b, off + i * 5 + 1, none⟩ = some (.string (l.getD i tk0).t) ∧ w.cell? ⟨b, off + i * 5 + 2, none⟩ = some (.int .i64 (l.getD i tk0).n) ∧
    w.cell? ⟨b, off + i * 5 + 3, none⟩ = some (.int .i64 (l.getD i tk0).a) ∧ w.cell? ⟨b, off + i * 5 + 4, none⟩ = some (.int .i64 (l.getD i tk0).e)
section
variable {w w' : World} {a : Option Addr} {l : List Tk}
theorem TRow.open (h : TRow w a l) (hl : 0 < l.length) : ∃ b off, a = some ⟨b, off, none⟩ ∧ b < w.heap.size ∧ ∀ i, i < l.length →
    w.cell? ⟨b, off + i * 5, none⟩ = some (.int .i64 (l.getD i tk0).k) ∧ w.cell? ⟨b, off + i * 5 + 1, none⟩ = some (.string (l.getD i tk0).t) ∧ w.cell? ⟨b, off + i * 5 + 2, none⟩ = some (.int .i64 (l.getD i tk0).n) ∧
    w.cell? ⟨b, off + i * 5 + 3, none⟩ = some (.int .i64 (l.getD i tk0).a) ∧ w.cell? ⟨b, off + i * 5 + 4, none⟩ = some (.int .i64 (l.getD i tk0).e) := by
  rcases h with ⟨_, rfl⟩ | h
  · simp at hl
  · exact h
theorem TRow.upd {S : Nat → Prop} (h : TRow w a l) (hu : Upd S w w') (hg : ∀ x, a = some x → ¬ S x.block) : TRow w' a l := by
  rcases h with h | ⟨b, off, rfl, hlt, hc⟩
  · exact .inl h
  · refine .inr ⟨b, off, rfl, Nat.lt_of_lt_of_le hlt hu.size, fun i hi => ?_⟩
    have he : ∀ o, w'.cell? ⟨b, o, none⟩ = w.cell? ⟨b, o, none⟩ := fun o => World.cell?_of_block (w := w) (hu.block b hlt (hg _ rfl))
    rw [he, he, he, he, he]
    exact hc i hi
theorem TRow.later (h : TRow w a l) (hB : Below w.heap.size w w') : TRow w' a l := h.upd (Upd.of_below (S := fun _ => False) hB) (fun _ _ h => h)
theorem TRow.drewN (h : TRow w a l) (n : Nat) : TRow (w.drewN n) a l := h
theorem TRow.take (h : TRow w a l) (m : Nat) : TRow w a (l.take m) := by
  rcases h with ⟨rfl, rfl⟩ | ⟨b, off, rfl, hlt, hc⟩
  · exact .inl ⟨rfl, by simp⟩
  · refine .inr ⟨b, off, rfl, hlt, fun i hi => ?_⟩
    have h1 : i < l.length ∧ i < m := by simp at hi; omega
    have h2 : (l.take m).getD i tk0 = l.getD i tk0 := by simp [List.getD, h1.2]
    rw [h2]
    exact hc i h1.1
end
theorem cellsT_at : ∀ (N : List Tk) (i j : Nat), i < N.length → j < 5 → (cellsT N)[i * 5 + j]? = (tkc (N.getD i tk0))[j]?
  | [], i, j, h, _ => by simp at h
  | x :: N, 0, j, _, hj => by
    have e : cellsT (x :: N) = tkc x ++ cellsT N := by simp [cellsT]
    rw [e, List.getElem?_append_left (by simp [tkc]; omega)]
    simp
  | x :: N, i + 1, j, h, hj => by
    have ih := cellsT_at N i j (by simpa using h) hj
    have e : cellsT (x :: N) = tkc x ++ cellsT N := by simp [cellsT]
    rw [e, List.getElem?_append_right (by simp [tkc]; omega)]
    rw [show (i + 1) * 5 + j - (tkc x).length = i * 5 + j by simp [tkc]; omega, ih]
    simp
theorem own_row {w : World} {B : Nat} {v : Value} {ts : List Tk} (h : w.ownsRow B 42 5 v ts.length (cellsT ts)) : ∃ a cap, v = .slice a ts.length cap ∧ ts.length ≤ cap ∧ TRow w a ts ∧ (∀ x, a = some x → B ≤ x.block ∧ v.ownBlock = some x.block) := by
  rcases Nat.eq_zero_or_pos ts.length with h0 | h0
  · have hts : ts = [] := List.eq_nil_of_length_eq_zero h0
    subst hts
    rcases h.2 with ⟨rfl, _⟩ | ⟨g, cap, cur, rfl, hb, hg, hnc, _⟩
    · exact ⟨none, 0, rfl, Nat.le_refl _, .inl ⟨rfl, rfl⟩, fun x hx => by cases hx⟩
    · exact ⟨_, cap, rfl, by simp, .inr ⟨g, 0, rfl, (Array.getElem?_eq_some_iff.1 hg).1, fun i hi => by simp at hi⟩, fun x hx => by cases hx; exact ⟨hb, rfl⟩⟩
  · obtain ⟨g, cap, ys, rfl, hb, hn, hm, hl, ht, hK⟩ := ownS_blk h h0
    refine ⟨_, cap, rfl, hn, .inr ⟨g, 0, rfl, hK.lt, fun i hi => ?_⟩, fun x hx => by cases hx; exact ⟨hb, rfl⟩⟩
    have hc : ∀ j, j < 5 → w.cell? ⟨g, 0 + i * 5 + j, none⟩ = (tkc (ts.getD i tk0))[j]? := fun j hj => by
      rw [hK.cell, ← cellsT_at ts i j hi hj, ← ht, List.getElem?_take, if_pos (by omega), Nat.zero_add]
    exact ⟨hc 0 (by decide), hc 1 (by decide), hc 2 (by decide), hc 3 (by decide), hc 4 (by decide)⟩
end Go.Proofs.Ytokepgimjdalaaa
