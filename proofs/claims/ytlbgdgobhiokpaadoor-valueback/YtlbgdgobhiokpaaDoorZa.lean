/- adopt, Add, NewArena, Count: an arena without gaps. -/
import Derived.Test.YtlbgdgobhiokpaaDoorZ
namespace Go.Proofs.YtlbgdgobhiokpaaDoor
open Go.RowKit
set_option linter.unusedVariables false

section
variable {B b : Nat} {w w' w1 : World} {vn vs v : Value} {N : List Nd} {S : Stk} {o : Nat}
theorem keptA_cell {t : TypeId} {g i : Nat} {ys : List Value} {u : Value} (hg : Blk w g t ys) (hB : B ≤ g) (ht : t = 101 ∨ t = 37 ∨ t = 103) : KeptA B w (w.setCell ⟨g, i, none⟩ u) := by
  refine ⟨(Below.refl _ _).setCell hB _, fun q t' xs h1 h2 h3 hb => hb.other _ _ fun e => ?_⟩
  have e2 : q = g := e
  subst e2
  have := blk_type hb hg
  rcases ht with rfl | rfl | rfl <;> simp_all
theorem Ar.inc (h : Ar B w b vn vs N S) (ho : o < N.length) {gn cn : Nat} (hv : vn = .slice (some ⟨gn, 0, none⟩) N.length cn) :
    Ar B (w.setCell ⟨gn, o * 3 + 2, none⟩ (.int .i64 ((N.getD o nil0).2.2 + 1))) b vn vs (incK N o) S ∧ KeptA B w (w.setCell ⟨gn, o * 3 + 2, none⟩ (.int .i64 ((N.getD o nil0).2.2 + 1))) := by
  obtain ⟨g, cap, ys, e, hb, hn, hm, hl, ht, hK⟩ := ownS_blk h.nod (by omega)
  rw [hv] at e
  have e1 : gn = g ∧ cn = cap := by simpa using e
  obtain ⟨rfl, rfl⟩ := e1
  subst hv
  refine ⟨⟨h.blk.other _ _ fun e => ?_, h.hb, ?_, own_far h.spo hK (by decide)⟩, keptA_cell hK hb (.inr (.inl rfl))⟩
  · have e2 : b = gn := e
    subst e2
    exact absurd (blk_type h.blk hK) (by decide)
  · have h2 := ownS_of_blk (n := N.length) (c := 3) (hK.set (o * 3 + 2) (.int .i64 ((N.getD o nil0).2.2 + 1))) hb (by simpa using hl) hn hm
    rw [List.take_set, ht, cellsN_set N o _ ho] at h2
    have e3 : (incK N o).length = N.length := by simp [incK]
    rw [e3]
    exact h2
theorem Ar.push (h : Ar B w b vn vs N S) (k n : Int) (hN : N.length ≤ 2000000) :
    ∃ g cap w', (Builtin.append_ #[22, 22] 22 #[vn, .slice (some ⟨w.heap.size, 0, none⟩) 1 1]).run Tryd.prog (w.alloc (.cells #[.int .i64 k, .int .u64 n, .int .i64 0] 37)) = .ok (.slice (some ⟨g, 0, none⟩) (N.length + 1) cap) w' ∧ w'.cell? ⟨b, 0, none⟩ = some vn ∧ w'.frozen? ⟨b, 0, none⟩ = false ∧ Ar B (w'.setCell ⟨b, 0, none⟩ (.slice (some ⟨g, 0, none⟩) (N.length + 1) cap)) b (.slice (some ⟨g, 0, none⟩) (N.length + 1) cap) vs (N ++ [(k, n, 0)]) S ∧ KeptA B w (w'.setCell ⟨b, 0, none⟩ (.slice (some ⟨g, 0, none⟩) (N.length + 1) cap)) ∧
      ∀ q xs, Blk w q 103 xs → Blk (w'.setCell ⟨b, 0, none⟩ (.slice (some ⟨g, 0, none⟩) (N.length + 1) cap)) q 103 xs := by
  have hB := h.base
  obtain ⟨g, cap, w', r1, o1, u1, l1⟩ := run_pushS (P := Tryd.prog) (t := 22) (e := 37) (z := .agg #[.int .i64 0, .int .u64 0, .int .i64 0]) (bytes := 24) Tryd.underlying22 (by kernel_rfl) rfl (by decide) w 22 h.nod (ndc (k, n, 0)) rfl (by intro u hu; simp [ndc] at hu; rcases hu with rfl | rfl | rfl <;> rfl) (by unfold maxLen; omega) (by omega) hB
  have hb1 : Blk w' b 101 [vn, vs, .map none] := h.blk.upd u1 fun hk => by
    obtain ⟨ys, hy⟩ := ownS_type h.nod hk
    exact absurd (blk_type h.blk hy) (by decide)
  have ho1 : w'.ownsRow B 103 2 vs S.length (cellsS S) := ownS_upd h.spo u1 fun q hq hk => by
    obtain ⟨ys, hy⟩ := ownS_type h.nod hk
    obtain ⟨zs, hz⟩ := ownS_type h.spo hq
    exact absurd (blk_type hy hz) (by decide)
  have k1 : KeptA B w w' := ⟨u1.below B hB (fun k hk => (h.nod.lt k hk).1), fun q t xs h1 h2 h3 hb => hb.upd u1 fun hk => by
    obtain ⟨ys, hy⟩ := ownS_type h.nod hk
    exact h2 (blk_type hb hy)⟩
  refine ⟨g, cap, w', r1, hb1.cell 0, hb1.frozen 0, ⟨hb1.set 0 _, h.hb, ?_, own_far ho1 hb1 (by decide)⟩, k1.trans (keptA_cell hb1 h.hb (.inl rfl)), fun q xs hq => ?_⟩
  · have h2 := own_far (i := 0) (u := .slice (some ⟨g, 0, none⟩) (N.length + 1) cap) o1 hb1 (by decide)
    rw [List.length_append, cellsN_append]
    exact h2
  · have hq1 : Blk w' q 103 xs := hq.upd u1 fun hk => by
      obtain ⟨ys, hy⟩ := ownS_type h.nod hk
      exact absurd (blk_type hq hy) (by decide)
    exact hq1.other _ _ fun e => by
      have e2 : q = b := e
      subst e2
      exact absurd (blk_type hq1 hb1) (by decide)
theorem Ar.pushs (h : Ar B w b vn vs N S) (p k : Int) (hS : S.length ≤ 2000000) :
    ∃ g cap w', (Builtin.append_ #[98, 98] 98 #[vs, .slice (some ⟨w.heap.size, 0, none⟩) 1 1]).run Tryd.prog (w.alloc (.cells #[.int .i64 p, .int .i64 k] 103)) = .ok (.slice (some ⟨g, 0, none⟩) (S.length + 1) cap) w' ∧ w'.cell? ⟨b, 1, none⟩ = some vs ∧ w'.frozen? ⟨b, 1, none⟩ = false ∧ Ar B (w'.setCell ⟨b, 1, none⟩ (.slice (some ⟨g, 0, none⟩) (S.length + 1) cap)) b vn (.slice (some ⟨g, 0, none⟩) (S.length + 1) cap) N (S ++ [(p, k)]) ∧ KeptA B w (w'.setCell ⟨b, 1, none⟩ (.slice (some ⟨g, 0, none⟩) (S.length + 1) cap)) ∧
      ∀ q xs, vs.ownBlock ≠ some q → Blk w q 103 xs → Blk w' q 103 xs ∧ Blk (w'.setCell ⟨b, 1, none⟩ (.slice (some ⟨g, 0, none⟩) (S.length + 1) cap)) q 103 xs := by
  have hB := h.base
  obtain ⟨g, cap, w', r1, o1, u1, l1⟩ := run_pushS (P := Tryd.prog) (t := 98) (e := 103) (z := .agg #[.int .i64 0, .int .i64 0]) (bytes := 16) Tryd.underlying98 (by kernel_rfl) rfl (by decide) w 98 h.spo [.int .i64 p, .int .i64 k] rfl (by intro u hu; simp at hu; rcases hu with rfl | rfl <;> rfl) (by unfold maxLen; omega) (by omega) hB
  have hb1 : Blk w' b 101 [vn, vs, .map none] := h.blk.upd u1 fun hk => by
    obtain ⟨ys, hy⟩ := ownS_type h.spo hk
    exact absurd (blk_type h.blk hy) (by decide)
  have ho1 : w'.ownsRow B 37 3 vn N.length (cellsN N) := ownS_upd h.nod u1 fun q hq hk => by
    obtain ⟨ys, hy⟩ := ownS_type h.spo hk
    obtain ⟨zs, hz⟩ := ownS_type h.nod hq
    exact absurd (blk_type hy hz) (by decide)
  have k1 : KeptA B w w' := ⟨u1.below B hB (fun k hk => (h.spo.lt k hk).1), fun q t xs h1 h2 h3 hb => hb.upd u1 fun hk => by
    obtain ⟨ys, hy⟩ := ownS_type h.spo hk
    exact h3 (blk_type hb hy)⟩
  refine ⟨g, cap, w', r1, hb1.cell 1, hb1.frozen 1, ⟨hb1.set 1 _, h.hb, own_far ho1 hb1 (by decide), ?_⟩, k1.trans (keptA_cell hb1 h.hb (.inl rfl)), fun q xs hn hq => ?_⟩
  · have h2 := own_far (i := 1) (u := .slice (some ⟨g, 0, none⟩) (S.length + 1) cap) o1 hb1 (by decide)
    rw [List.length_append, cellsS_append]
    exact h2
  · have hq1 : Blk w' q 103 xs := hq.upd u1 hn
    exact ⟨hq1, hq1.other _ _ fun e => by
      have e2 : q = b := e
      subst e2
      exact absurd (blk_type hq1 hb1) (by decide)⟩
end
theorem new_any (w : World) : Calls Tryd.prog 23 #[] w fun e w' => e = .returned (.pointer (some ⟨w.heap.size, 0, none⟩)) ∧ Hid (Ar w.heap.size w' w.heap.size (.slice none 0 0) (.slice none 0 0) [] []) ∧ Below w.heap.size w w' := by
  go_enter Tryd.func23, Tryd.ntmps23
  go_wp2
  go_ret
  exact ⟨rfl, ⟨Blk.newA w _ 101, Nat.le_refl _, World.ownsRow_nil _ _ _ _, World.ownsRow_nil _ _ _ _⟩, (Below.refl _ _).alloc (Nat.le_refl _) _⟩
theorem count_any (B b : Nat) (vn vs : Value) (N : List Nd) (S : Stk) (w : World) (hA : Hid (Ar B w b vn vs N S)) : Calls Tryd.prog 26 #[.pointer (some ⟨b, 0, none⟩)] w fun e w' => e = .returned (.int .i64 (N.length : Int)) ∧ w = w' := by
  obtain ⟨an, cn, rfl, h1⟩ := hA.out.vn_is
  have c0 := hA.out.c0
  go_enter Tryd.func26, Tryd.ntmps26
  go_wp2
  go_ret
  exact ⟨rfl, rfl⟩
end Go.Proofs.YtlbgdgobhiokpaaDoor
