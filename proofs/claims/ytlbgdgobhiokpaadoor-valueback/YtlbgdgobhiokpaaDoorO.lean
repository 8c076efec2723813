/- add, end, enter. -/
import Derived.Test.YtlbgdgobhiokpaaDoorN
namespace Go.Proofs.YtlbgdgobhiokpaaDoor
open Go.RowKit
set_option linter.unusedVariables false

def incK (N : List Nd) (o : Nat) : List Nd := N.set o ((N.getD o nil0).1, (N.getD o nil0).2.1, (N.getD o nil0).2.2 + 1)
def addN (N : List Nd) (O : List Nat) (k n : Int) : List Nd := (match O with | [] => N | o :: _ => incK N o) ++ [(k, n, 0)]
/-- Without the innermost options. -/
def popO (N : List Nd) : List Nat → List Nat
  | [] => []
  | o :: O => if (N.getD o nil0).1 = 5 then popO N O else o :: O
section
variable {B b : Nat} {w w' w1 : World} {s : ByteArray} {p o : Nat} {vn vo v : Value} {N : List Nd} {O : List Nat} {en : Bool}
theorem Rdr.inc (h : Rdr B w b s p vn vo N O en) (ho : o < N.length) {gn cn : Nat} (hv : vn = .slice (some ⟨gn, 0, none⟩) N.length cn) :
    Rdr B (w.setCell ⟨gn, o * 3 + 2, none⟩ (.int .i64 ((N.getD o nil0).2.2 + 1))) b s p vn vo (incK N o) O en ∧ KeptR B w (w.setCell ⟨gn, o * 3 + 2, none⟩ (.int .i64 ((N.getD o nil0).2.2 + 1))) := by
  obtain ⟨g, cap, ys, e, hb, hn, hm, hl, ht, hK⟩ := ownS_blk h.nod (by omega)
  rw [hv] at e
  have e1 : gn = g ∧ cn = cap := by simpa using e
  obtain ⟨rfl, rfl⟩ := e1
  subst hv
  refine ⟨⟨h.blk.other _ _ fun e => ?_, h.hb, ?_, own_far h.opn hK (by decide)⟩, kept_cell hK hb (.inr (.inl rfl))⟩
  · have e2 : b = gn := e
    subst e2
    exact absurd (blk_type h.blk hK) (by decide)
  · have h2 := ownS_of_blk (n := N.length) (c := 3) (hK.set (o * 3 + 2) (.int .i64 ((N.getD o nil0).2.2 + 1))) hb (by simpa using hl) hn hm
    rw [List.take_set, ht, cellsN_set N o _ ho] at h2
    have e3 : (incK N o).length = N.length := by simp [incK]
    rw [e3]
    exact h2
theorem Rdr.push (h : Rdr B w b s p vn vo N O en) (k n : Int) (hN : N.length ≤ 2000000) :
    ∃ g cap w', (Builtin.append_ #[22, 22] 22 #[vn, .slice (some ⟨w.heap.size, 0, none⟩) 1 1]).run Tryd.prog (w.alloc (.cells #[.int .i64 k, .int .u64 n, .int .i64 0] 37)) = .ok (.slice (some ⟨g, 0, none⟩) (N.length + 1) cap) w' ∧ w'.cell? ⟨b, 2, none⟩ = some vn ∧ w'.frozen? ⟨b, 2, none⟩ = false ∧ Rdr B (w'.setCell ⟨b, 2, none⟩ (.slice (some ⟨g, 0, none⟩) (N.length + 1) cap)) b s p (.slice (some ⟨g, 0, none⟩) (N.length + 1) cap) vo (N ++ [(k, n, 0)]) O en ∧ KeptR B w (w'.setCell ⟨b, 2, none⟩ (.slice (some ⟨g, 0, none⟩) (N.length + 1) cap)) := by
  have hB := h.base
  obtain ⟨g, cap, w', r1, o1, u1, l1⟩ := run_pushS (P := Tryd.prog) (t := 22) (e := 37) (z := .agg #[.int .i64 0, .int .u64 0, .int .i64 0]) (bytes := 24) Tryd.underlying22 (by kernel_rfl) rfl (by decide) w 22 h.nod (ndc (k, n, 0)) rfl (by intro u hu; simp [ndc] at hu; rcases hu with rfl | rfl | rfl <;> rfl) (by unfold maxLen; omega) (by omega) hB
  have hb1 : Blk w' b 92 [.string s, .int .i64 p, vn, vo, .bool en] := h.blk.upd u1 fun hk => by
    obtain ⟨ys, hy⟩ := ownS_type h.nod hk
    exact absurd (blk_type h.blk hy) (by decide)
  have ho1 : w'.ownsRow B 3 1 vo O.length (cellsL .i64 (oL O)) := ownS_upd h.opn u1 fun q hq hk => by
    obtain ⟨ys, hy⟩ := ownS_type h.nod hk
    obtain ⟨zs, hz⟩ := ownS_type h.opn hq
    exact absurd (blk_type hy hz) (by decide)
  have k1 : KeptR B w w' := ⟨u1.below B hB (fun k hk => (h.nod.lt k hk).1), fun q t xs h1 h2 h3 hb => hb.upd u1 fun hk => by
    obtain ⟨ys, hy⟩ := ownS_type h.nod hk
    exact h2 (blk_type hb hy)⟩
  refine ⟨g, cap, w', r1, hb1.cell 2, hb1.frozen 2, ⟨hb1.set 2 _, h.hb, ?_, own_far ho1 hb1 (by decide)⟩, k1.trans (kept_cell hb1 h.hb (.inl rfl))⟩
  have h2 := own_far (i := 2) (u := .slice (some ⟨g, 0, none⟩) (N.length + 1) cap) o1 hb1 (by decide)
  rw [List.length_append, cellsN_append]
  exact h2
theorem Rdr.pusho (h : Rdr B w b s p vn vo N O en) (o : Nat) (hO : O.length ≤ 2000000) :
    ∃ g cap w', (Builtin.append_ #[43, 43] 43 #[vo, .slice (some ⟨w.heap.size, 0, none⟩) 1 1]).run Tryd.prog (w.alloc (.cells #[.int .i64 (o : Int)] 3)) = .ok (.slice (some ⟨g, 0, none⟩) (O.length + 1) cap) w' ∧ w'.cell? ⟨b, 3, none⟩ = some vo ∧ w'.cell? ⟨b, 2, none⟩ = some vn ∧ w'.frozen? ⟨b, 3, none⟩ = false ∧ Rdr B (w'.setCell ⟨b, 3, none⟩ (.slice (some ⟨g, 0, none⟩) (O.length + 1) cap)) b s p vn (.slice (some ⟨g, 0, none⟩) (O.length + 1) cap) N (o :: O) en ∧ KeptR B w (w'.setCell ⟨b, 3, none⟩ (.slice (some ⟨g, 0, none⟩) (O.length + 1) cap)) := by
  have hB := h.base
  obtain ⟨g, cap, w', r1, o1, u1, l1⟩ := run_push E43 w 43 B vo O.length (oL O) h.opn (o : Int) (by unfold maxLen; omega) (by omega) hB
  have hb1 : Blk w' b 92 [.string s, .int .i64 p, vn, vo, .bool en] := h.blk.upd u1 fun hk => by
    obtain ⟨ys, hy⟩ := ownS_type h.opn hk
    exact absurd (blk_type h.blk hy) (by decide)
  have ho1 : w'.ownsRow B 37 3 vn N.length (cellsN N) := ownS_upd h.nod u1 fun q hq hk => by
    obtain ⟨ys, hy⟩ := ownS_type h.opn hk
    obtain ⟨zs, hz⟩ := ownS_type h.nod hq
    exact absurd (blk_type hy hz) (by decide)
  have k1 : KeptR B w w' := ⟨u1.below B hB (fun k hk => (h.opn.lt k hk).1), fun q t xs h1 h2 h3 hb => hb.upd u1 fun hk => by
    obtain ⟨ys, hy⟩ := ownS_type h.opn hk
    exact h3 (blk_type hb hy)⟩
  refine ⟨g, cap, w', r1, hb1.cell 3, hb1.cell 2, hb1.frozen 3, ⟨hb1.set 3 _, h.hb, own_far ho1 hb1 (by decide), ?_⟩, k1.trans (kept_cell hb1 h.hb (.inl rfl))⟩
  have h2 := own_far (i := 3) (u := .slice (some ⟨g, 0, none⟩) (O.length + 1) cap) o1 hb1 (by decide)
  rw [oL_cons]
  exact h2
theorem Rdr.popo (h : Rdr B w b s p vn vo N (o :: O) en) : ∃ go co, vo = .slice (some ⟨go, 0, none⟩) (O.length + 1) co ∧ O.length + 1 ≤ co ∧ co ≤ maxLen ∧ Rdr B (w.setCell ⟨b, 3, none⟩ (.slice (some ⟨go, 0, none⟩) O.length co)) b s p vn (.slice (some ⟨go, 0, none⟩) O.length co) N O en := by
  obtain ⟨go, co, rfl, bo, h1, h2, -, -, h3⟩ := h.top
  exact ⟨go, co, rfl, h1, h2, h.blk.set 3 _, h.hb, own_far h.nod h.blk (by decide), own_far h3 h.blk (by decide)⟩
theorem Rdr.vo_nil (h : Rdr B w b s p vn vo N [] en) : ∃ a c, vo = .slice a 0 c := by
  rcases h.opn.2 with ⟨e, _⟩ | ⟨g, cap, cur, e, _⟩
  · exact ⟨_, _, e⟩
  · exact ⟨_, _, e⟩
end
end Go.Proofs.YtlbgdgobhiokpaaDoor
