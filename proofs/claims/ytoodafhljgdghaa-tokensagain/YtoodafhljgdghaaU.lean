/- What TokensAgain holds in memory. -/
import Derived.Test.YtoodafhljgdghaaT
namespace Go.Proofs.Ytoodafhljgdghaa
open Go.RowKit
set_option linter.unusedVariables false

/-- The bytes and the tokens that are made, and the tokens that were cut. -/
structure Ag (B : Nat) (w : World) (vb vw : Value) (b : List UInt8) (ws : List Tk) (a : Option Addr) (ts : List Tk) : Prop where
  bb : BR B w vb b
  ww : w.ownsRow B 34 5 vw ws.length (cellsT ws)
  tr : TRow w a ts
  lo : ∀ x, a = some x → x.block < B
  hB : B ≤ w.heap.size
section
variable {B : Nat} {w w' : World} {vb vw : Value} {b : List UInt8} {ws ts : List Tk} {a : Option Addr}
theorem Ag.later (h : Ag B w vb vw b ws a ts) (hB : Below w.heap.size w w') : Ag B w' vb vw b ws a ts :=
  ⟨ownS_upd h.bb (Upd.of_below (S := fun _ => False) hB) (fun _ _ h => h), ownS_upd h.ww (Upd.of_below (S := fun _ => False) hB) (fun _ _ h => h), h.tr.later hB, h.lo, Nat.le_trans h.hB hB.size⟩
theorem Ag.alloc (h : Ag B w vb vw b ws a ts) (o : Obj) : Ag B (w.alloc o) vb vw b ws a ts := h.later ((Below.refl _ _).alloc (Nat.le_refl _) o)
theorem Ag.drew (h : Ag B w vb vw b ws a ts) : Ag B w.drew vb vw b ws a ts := ⟨h.bb, h.ww, h.tr, h.lo, h.hB⟩
theorem Ag.app (h : Ag B w vb vw b ws a ts) (s : ByteArray) (hl : b.length ≤ 1000000000) (hs : s.size ≤ 1000000000) :
    ∃ a' c' w', (Builtin.append_ #[40, 9] 40 #[vb, .string s]).run Try.prog w = .ok (.slice a' (b ++ s.data.toList).length c') w' ∧ Ag B w' (.slice a' (b ++ s.data.toList).length c') vw (b ++ s.data.toList) ws a ts ∧ Below B w w' ∧ w.heap.size ≤ w'.heap.size ∧ ∀ g t xs, t ≠ 5 → Blk w g t xs → Blk w' g t xs := by
  obtain ⟨v', w', r, hb, hu⟩ := h.bb.app s hl hs h.hB
  have hbel : Below B w w' := hu.below B h.hB (fun k hk => (h.bb.lt k hk).1)
  have hk : ∀ g t xs, t ≠ 5 → Blk w g t xs → Blk w' g t xs := fun g t xs ht hg => hg.upd hu fun e => by
    obtain ⟨zs, hz⟩ := ownS_type h.bb e
    exact ht (blk_type hg hz)
  obtain ⟨a', c', rfl⟩ := hb.form
  refine ⟨a', c', w', r, ⟨hb, ?_, ?_, h.lo, Nat.le_trans h.hB hu.size⟩, hbel, hu.size, hk⟩
  · refine ownS_upd h.ww hu fun k hk2 e => ?_
    obtain ⟨zs, hz⟩ := ownS_type h.bb e
    obtain ⟨ys, hy⟩ := ownS_type h.ww hk2
    exact absurd (blk_type hy hz) (by decide)
  · exact h.tr.upd hu fun x hx e => by
      have h1 := h.lo x hx
      have h2 := (h.bb.lt _ e).1
      omega
theorem Ag.setb (h : Ag B w vb vw b ws a ts) {g : Nat} {xs : List Value} (hg : Blk w g 34 xs) (hB : B ≤ g) (hv : ∀ k, vw.ownBlock = some k → k < g) (i : Nat) (u : Value) : Ag B (w.setCell ⟨g, i, none⟩ u) vb vw b ws a ts := by
  have hu : Upd (fun k => k = g) w (w.setCell ⟨g, i, none⟩ u) := (Upd.refl _ w).set _ _ (.inl rfl)
  refine ⟨ownS_upd h.bb hu fun k hk e => ?_, ownS_upd h.ww hu fun k hk e => ?_, h.tr.upd hu fun x hx e => ?_, h.lo, Nat.le_trans h.hB hu.size⟩
  · subst e
    obtain ⟨zs, hz⟩ := ownS_type h.bb hk
    exact absurd (blk_type hg hz) (by decide)
  · have := hv k hk; omega
  · have h1 := h.lo x hx; omega
theorem Ag.push (h : Ag B w vb vw b ws a ts) (t : Tk) (hl : ws.length ≤ 1000000) :
    ∃ v' w', (Builtin.append_ #[23, 23] 23 #[vw, .slice (some ⟨w.heap.size, 0, none⟩) 1 1]).run Try.prog (w.alloc (.cells #[.int .i64 t.k, .string t.t, .int .i64 t.n, .int .i64 t.a, .int .i64 t.e] 34)) = .ok v' w' ∧ Ag B w' vb v' b (ws ++ [t]) a ts ∧ Below B w w' := by
  obtain ⟨v', w', r, ho, hu⟩ := push_tok h.ww t (by omega) h.hB
  refine ⟨v', w', r, ⟨ownS_upd h.bb hu fun k hk e => ?_, ho, h.tr.upd hu fun x hx e => ?_, h.lo, Nat.le_trans h.hB hu.size⟩, hu.below B h.hB (fun k hk => (h.ww.lt k hk).1)⟩
  · obtain ⟨zs, hz⟩ := ownS_type h.ww e
    obtain ⟨ys, hy⟩ := ownS_type h.bb hk
    exact absurd (blk_type hy hz) (by decide)
  · have h1 := h.lo x hx
    have h2 := (h.ww.lt _ e).1
    omega
theorem Ag.vlt (h : Ag B w vb vw b ws a ts) : ∀ k, vw.ownBlock = some k → k < w.heap.size := fun k hk => (h.ww.lt k hk).2
end
end Go.Proofs.Ytoodafhljgdghaa
