/- Nodes in memory: one more, one written over; node's frame. -/
import Derived.Test.YtokepgimjdalaaaSg
import Derived.Deep.RegionLaw
namespace Go.Proofs.Ytokepgimjdalaaa
open Go.RowKit
set_option linter.unusedVariables false

theorem ndc_len (x : Nd) : (ndc x).length = 7 := rfl
theorem own_lt {w : World} {B n c k : Nat} {e : TypeId} {v : Value} {xs : List Value} (h : w.ownsRow B e c v n xs) (hk : v.ownBlock = some k) : k < w.heap.size := (h.lt k hk).2
/-- One node more: append, then the store into the parser. -/
theorem Par.push {w : World} {B g : Nat} {tv v : Value} {ts : List Tk} {L p : Nat} {N : List Nd} (h : Par w B g tv ts L p v N) (hl : N.length ≤ 65536) (y : Nd) :
    ∃ gn cap w', (Builtin.append_ #[36, 36] 36 #[v, .slice (some ⟨w.heap.size, 0, none⟩) 1 1]).run Try.prog (w.alloc (.cells #[.int .i64 y.k, .int .i64 y.n, .string y.name, .string y.label, .int .i64 y.tag, .int .i64 y.kids, .int .i64 y.a] 40)) = .ok (.slice (some ⟨gn, 0, none⟩) (N.length + 1) cap) w' ∧
      Upd (fun k => v.ownBlock = some k) w w' ∧ (v.ownBlock = some gn ∨ w.heap.size ≤ gn) ∧ Par (w'.setCell ⟨g, 3, none⟩ (.slice (some ⟨gn, 0, none⟩) (N.length + 1) cap)) B g tv ts L p (.slice (some ⟨gn, 0, none⟩) (N.length + 1) cap) (N ++ [y]) := by
  obtain ⟨gn, cap, w', r1, o1, u1, c1⟩ := run_pushS (P := Try.prog) (t := 36) (e := 40) (z := .agg #[.int .i64 0, .int .i64 0, .string ⟨#[]⟩, .string ⟨#[]⟩, .int .i64 0, .int .i64 0, .int .i64 0]) (bytes := 72) Try.underlying36 (by kernel_rfl) rfl (by decide) w 36 h.2.2.1 (ndc y) rfl (by intro u hu; simp [ndc] at hu; rcases hu with rfl | rfl | rfl | rfl | rfl | rfl | rfl <;> rfl) (by unfold maxLen; omega) (by omega) (Nat.le_trans h.2.2.2.1 (Nat.le_of_lt h.1.lt))
  refine ⟨gn, cap, w', r1, u1, c1, ?_⟩
  have hg : g ≠ gn := fun e => by
    rcases c1 with c1 | c1
    · exact h.ne2 c1 e.symm
    · have := h.1.lt; omega
  have h1 : Blk w' g 64 [tv, .int .i64 p, .int .i64 L, v] := h.1.upd u1 (fun e => h.ne2 e rfl)
  have h2 := ownS_upd h.2.1 u1 (fun k hk => h.ne3 hk)
  have hu : Upd (fun k => k = g) w' (w'.setCell ⟨g, 3, none⟩ (.slice (some ⟨gn, 0, none⟩) (N.length + 1) cap)) := (Upd.refl _ w').set _ _ (.inl rfl)
  refine ⟨by have := h1.set 3 (.slice (some ⟨gn, 0, none⟩) (N.length + 1) cap); simpa using this, ownS_upd h2 hu (fun k hk => h.ne1 hk), ?_, h.2.2.2⟩
  rw [cellsN_app, cellsN_one, List.length_append]
  exact ownS_upd o1 hu (fun k hk e => hg (by rw [← e]; exact (own_is hk).symm))
theorem set7 {w : World} {g o : Nat} {t : TypeId} {A R : List Value} {x0 x1 x2 x3 x4 x5 x6 : Value} (h : Blk w g t (A ++ [x0, x1, x2, x3, x4, x5, x6] ++ R)) (ho : A.length = o) (y0 y1 y2 y3 y4 y5 y6 : Value) :
    Blk (((((((w.setCell ⟨g, o, none⟩ y0).setCell ⟨g, o + 1, none⟩ y1).setCell ⟨g, o + 2, none⟩ y2).setCell ⟨g, o + 3, none⟩ y3).setCell ⟨g, o + 4, none⟩ y4).setCell ⟨g, o + 5, none⟩ y5).setCell ⟨g, o + 6, none⟩ y6) g t (A ++ [y0, y1, y2, y3, y4, y5, y6] ++ R) := by
  have := ((((((h.set o y0).set (o + 1) y1).set (o + 2) y2).set (o + 3) y3).set (o + 4) y4).set (o + 5) y5).set (o + 6) y6
  subst ho
  simpa [List.set_append] using this
/-- A node is written over. -/
theorem Par.over {w : World} {B g : Nat} {tv v : Value} {ts : List Tk} {L p : Nat} {N M : List Nd} {y : Nd} (h : Par w B g tv ts L p v (N ++ y :: M)) :
    ∃ gn cap, v = .slice (some ⟨gn, 0, none⟩) (N.length + 1 + M.length) cap ∧ gn ≠ g ∧ (∀ i, i < 7 → ∃ u, w.cell? ⟨gn, N.length * 7 + i, none⟩ = some u) ∧ (∀ i, w.frozen? ⟨gn, i, none⟩ = false) ∧
      ∀ z : Nd, Par (((((((w.setCell ⟨gn, N.length * 7, none⟩ (.int .i64 z.k)).setCell ⟨gn, N.length * 7 + 1, none⟩ (.int .i64 z.n)).setCell ⟨gn, N.length * 7 + 2, none⟩ (.string z.name)).setCell ⟨gn, N.length * 7 + 3, none⟩ (.string z.label)).setCell ⟨gn, N.length * 7 + 4, none⟩ (.int .i64 z.tag)).setCell ⟨gn, N.length * 7 + 5, none⟩ (.int .i64 z.kids)).setCell ⟨gn, N.length * 7 + 6, none⟩ (.int .i64 z.a)) B g tv ts L p v (N ++ z :: M) ∧
        Upd (fun k => v.ownBlock = some k) w (((((((w.setCell ⟨gn, N.length * 7, none⟩ (.int .i64 z.k)).setCell ⟨gn, N.length * 7 + 1, none⟩ (.int .i64 z.n)).setCell ⟨gn, N.length * 7 + 2, none⟩ (.string z.name)).setCell ⟨gn, N.length * 7 + 3, none⟩ (.string z.label)).setCell ⟨gn, N.length * 7 + 4, none⟩ (.int .i64 z.tag)).setCell ⟨gn, N.length * 7 + 5, none⟩ (.int .i64 z.kids)).setCell ⟨gn, N.length * 7 + 6, none⟩ (.int .i64 z.a)) := by
  have hlen : (N ++ y :: M).length = N.length + 1 + M.length := by simp; omega
  obtain ⟨gn, cap, ys, hv, hb, hn, hm, hyl, ht, hK⟩ := ownS_blk h.2.2.1 (by rw [hlen]; omega)
  have hvo : v.ownBlock = some gn := by rw [hv]; rfl
  have hgn : gn ≠ g := h.ne2 hvo
  obtain ⟨R, hR⟩ : ∃ R, ys = cellsN N ++ ndc y ++ R := by
    refine ⟨cellsN M ++ ys.drop ((N ++ y :: M).length * 7), ?_⟩
    have h1 : ys = ys.take ((N ++ y :: M).length * 7) ++ ys.drop ((N ++ y :: M).length * 7) := (List.take_append_drop _ _).symm
    rw [ht] at h1
    refine h1.trans ?_
    have e3 : cellsN (N ++ y :: M) = (cellsN N ++ ndc y) ++ cellsN M := by simp [cellsN]
    rw [e3, List.append_assoc]
  refine ⟨gn, cap, by rw [hv, hlen], hgn, fun i hi => ?_, fun i => hK.frozen i, fun z => ?_⟩
  · rw [hK.cell, hR]
    have : N.length * 7 + i < (cellsN N ++ ndc y ++ R).length := by simp [cellsN_len, ndc_len]; omega
    exact ⟨_, List.getElem?_eq_getElem this⟩
  rw [hR] at hK
  have hK2 := set7 (o := N.length * 7) (w := w) (g := gn) (t := 40) (A := cellsN N) (R := R) (x0 := .int .i64 y.k) (x1 := .int .i64 y.n) (x2 := .string y.name) (x3 := .string y.label) (x4 := .int .i64 y.tag) (x5 := .int .i64 y.kids) (x6 := .int .i64 y.a) hK (cellsN_len N) (.int .i64 z.k) (.int .i64 z.n) (.string z.name) (.string z.label) (.int .i64 z.tag) (.int .i64 z.kids) (.int .i64 z.a)
  have hU : Upd (fun k => v.ownBlock = some k) w (((((((w.setCell ⟨gn, N.length * 7, none⟩ (.int .i64 z.k)).setCell ⟨gn, N.length * 7 + 1, none⟩ (.int .i64 z.n)).setCell ⟨gn, N.length * 7 + 2, none⟩ (.string z.name)).setCell ⟨gn, N.length * 7 + 3, none⟩ (.string z.label)).setCell ⟨gn, N.length * 7 + 4, none⟩ (.int .i64 z.tag)).setCell ⟨gn, N.length * 7 + 5, none⟩ (.int .i64 z.kids)).setCell ⟨gn, N.length * 7 + 6, none⟩ (.int .i64 z.a)) :=
    (((((((Upd.refl (fun k => v.ownBlock = some k) w).set ⟨gn, N.length * 7, none⟩ _ (.inl hvo)).set ⟨gn, N.length * 7 + 1, none⟩ _ (.inl hvo)).set ⟨gn, N.length * 7 + 2, none⟩ _ (.inl hvo)).set ⟨gn, N.length * 7 + 3, none⟩ _ (.inl hvo)).set ⟨gn, N.length * 7 + 4, none⟩ _ (.inl hvo)).set ⟨gn, N.length * 7 + 5, none⟩ _ (.inl hvo)).set ⟨gn, N.length * 7 + 6, none⟩ _ (.inl hvo)
  refine ⟨⟨h.1.upd hU (fun e => h.ne2 e rfl), ownS_upd h.2.1 hU (fun k hk => h.ne3 hk), ?_, h.2.2.2⟩, hU⟩
  have hyl2 : (cellsN N ++ ndc z ++ R).length = cap * 7 := by
    rw [hR] at hyl
    simp [ndc_len] at hyl ⊢
    exact hyl
  have hres := ownS_of_blk (B := B) (n := (N ++ z :: M).length) (c := 7) (cap := cap) hK2 hb hyl2 (by rw [hlen] at hn; simp; omega) hm
  have htk : (cellsN N ++ ndc z ++ R).take ((N ++ z :: M).length * 7) = cellsN (N ++ z :: M) := by
    rw [hR] at ht
    have e1 : (N ++ y :: M).length * 7 = (cellsN N ++ ndc y).length + M.length * 7 := by simp [cellsN_len, ndc_len]; omega
    have e2 : (N ++ z :: M).length * 7 = (cellsN N ++ ndc z).length + M.length * 7 := by simp [cellsN_len, ndc_len]; omega
    rw [e1, List.take_length_add_append] at ht
    rw [e2, List.take_length_add_append]
    have e3 : cellsN (N ++ y :: M) = (cellsN N ++ ndc y) ++ cellsN M := by simp [cellsN]
    have e4 : cellsN (N ++ z :: M) = (cellsN N ++ ndc z) ++ cellsN M := by simp [cellsN]
    rw [e3] at ht
    rw [e4, List.append_cancel_left ht]
  have hv2 : v = .slice (some ⟨gn, 0, none⟩) (N ++ z :: M).length cap := by rw [hv]; simp
  rw [hv2]
  rw [← htk]
  exact hres
end Go.Proofs.Ytokepgimjdalaaa
