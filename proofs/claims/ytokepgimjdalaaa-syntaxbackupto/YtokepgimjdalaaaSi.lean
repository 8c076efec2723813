/- node. -/
import Derived.Test.YtokepgimjdalaaaSh
namespace Go.Proofs.Ytokepgimjdalaaa
open Go.RowKit
set_option linter.unusedVariables false

/-- node's frame: the parser, what its closures catch, the node under way, its first token. -/
def Fr (W : World) (B g bp bx bd bf : Nat) (tv : Value) (ts : List Tk) (L p : Nat) (v : Value) (N : List Nd) (y : Nd) (T : Tk) (d : Nat) : Prop :=
  Par W B g tv ts L p v N ∧ Boxes W bp bd g d ∧ Blk W bx 40 (ndc y) ∧ Blk W bf 42 (tkc T) ∧ (∀ k, v.ownBlock = some k → k ≠ bx)
section
variable {W W' : World} {B g bp bx bd bf : Nat} {tv v v' : Value} {ts : List Tk} {L p p' : Nat} {N N' : List Nd} {y : Nd} {T : Tk} {d : Nat}
theorem Fr.ne (h : Fr W B g bp bx bd bf tv ts L p v N y T d) : g ≠ bx := fun e => by
  subst e
  exact absurd (blk_type h.1.1 h.2.2.1) (by decide)
theorem Fr.mv (h : Fr W B g bp bx bd bf tv ts L p v N y T d) (m : Mv g v v' W W') (hP : Par W' B g tv ts L p' v' N') : Fr W' B g bp bx bd bf tv ts L p' v' N' y T d := by
  refine ⟨hP, h.2.1.upd h.1 m.1, h.2.2.1.upd m.1 ?_, h.2.2.2.1.upd m.1 ?_, fun k hk => ?_⟩
  · rintro (e | e)
    · exact h.ne e.symm
    · exact h.2.2.2.2 _ e rfl
  · rintro (e | e)
    · subst e; exact absurd (blk_type h.1.1 h.2.2.2.1) (by decide)
    · obtain ⟨ys, hy⟩ := ownS_type h.1.2.2.1 e
      exact absurd (blk_type hy h.2.2.2.1) (by decide)
  · rcases m.2 k hk with h1 | h1
    · exact h.2.2.2.2 k h1
    · have := h.2.2.1.lt; omega
theorem Fr.set (h : Fr W B g bp bx bd bf tv ts L p v N y T d) (i : Nat) (u : Value) (y' : Nd) (hy : (ndc y).set i u = ndc y') : Fr (W.setCell ⟨bx, i, none⟩ u) B g bp bx bd bf tv ts L p v N y' T d := by
  have hU : Upd (fun k => k = bx) W (W.setCell ⟨bx, i, none⟩ u) := (Upd.refl _ W).set _ _ (.inl rfl)
  refine ⟨h.1.upd hU h.ne (fun k hk e => ?_) h.2.2.2.2, ⟨h.2.1.1.upd hU (fun e => ?_), h.2.1.2.upd hU (fun e => ?_)⟩, ?_, h.2.2.2.1.upd hU (fun e => ?_), h.2.2.2.2⟩
  · subst e
    obtain ⟨ys, hz⟩ := ownS_type h.1.2.1 hk
    exact absurd (blk_type hz h.2.2.1) (by decide)
  · subst e; exact absurd (blk_type h.2.1.1 h.2.2.1) (by decide)
  · subst e; exact absurd (blk_type h.2.1.2 h.2.2.1) (by decide)
  · rw [← hy]; exact h.2.2.1.set i u
  · subst e; exact absurd (blk_type h.2.2.2.1 h.2.2.1) (by decide)
end
theorem Mv.setx {g : Nat} {v v' : Value} {w W : World} (h : Mv g v v' w W) (a : Addr) (u : Value) (hb : w.heap.size ≤ a.block) : Mv g v v' w (W.setCell a u) := ⟨h.1.set a u (.inr hb), h.2⟩
/-- The frame as it is laid: boxes, the first token, then its kind and number. -/
theorem fr_begin {w w2 : World} {B g : Nat} {tv v : Value} {ts : List Tk} {L p : Nat} {N : List Nd} {x : Nd} {d : Nat} (HP : Par w B g tv ts L p v N)
    (hB : Below (((w.alloc (.cells #[.pointer (some ⟨g, 0, none⟩)] 71)).alloc (.cells #[.int .i64 x.k, .int .i64 x.n, .string x.name, .string x.label, .int .i64 x.tag, .int .i64 x.kids, .int .i64 x.a] 40)).alloc (.cells #[.int .i64 (d : Int)] 3)).heap.size (((w.alloc (.cells #[.pointer (some ⟨g, 0, none⟩)] 71)).alloc (.cells #[.int .i64 x.k, .int .i64 x.n, .string x.name, .string x.label, .int .i64 x.tag, .int .i64 x.kids, .int .i64 x.a] 40)).alloc (.cells #[.int .i64 (d : Int)] 3)) w2) (T : Tk) :
    Fr (w2.alloc (.cells #[.int .i64 T.k, .string T.t, .int .i64 T.n, .int .i64 T.a, .int .i64 T.e] 42)) B g w.heap.size (w.heap.size + 1) (w.heap.size + 1 + 1) w2.heap.size tv ts L p v N x T d ∧
    Mv g v v w (w2.alloc (.cells #[.int .i64 T.k, .string T.t, .int .i64 T.n, .int .i64 T.a, .int .i64 T.e] 42)) := by
  have k1 := Blk.newA w #[.pointer (some ⟨g, 0, none⟩)] 71
  have b1 := (Below.refl w.heap.size w).alloc (Nat.le_refl _) (.cells #[.pointer (some ⟨g, 0, none⟩)] 71)
  obtain ⟨w1, hw1⟩ : ∃ w1, w1 = w.alloc (.cells #[.pointer (some ⟨g, 0, none⟩)] 71) := ⟨_, rfl⟩
  have s1 : w1.heap.size = w.heap.size + 1 := by rw [hw1]; simp
  rw [← hw1] at k1 b1 hB
  have k2 := Blk.newA w1 #[.int .i64 x.k, .int .i64 x.n, .string x.name, .string x.label, .int .i64 x.tag, .int .i64 x.kids, .int .i64 x.a] 40
  have b2 := b1.alloc (by omega) (.cells #[.int .i64 x.k, .int .i64 x.n, .string x.name, .string x.label, .int .i64 x.tag, .int .i64 x.kids, .int .i64 x.a] 40)
  have k1b := k1.alloc (.cells #[.int .i64 x.k, .int .i64 x.n, .string x.name, .string x.label, .int .i64 x.tag, .int .i64 x.kids, .int .i64 x.a] 40)
  obtain ⟨wb, hwb⟩ : ∃ wb, wb = w1.alloc (.cells #[.int .i64 x.k, .int .i64 x.n, .string x.name, .string x.label, .int .i64 x.tag, .int .i64 x.kids, .int .i64 x.a] 40) := ⟨_, rfl⟩
  have s2 : wb.heap.size = w.heap.size + 2 := by rw [hwb]; simp [s1]
  rw [← hwb] at k2 b2 k1b hB
  have k3 := Blk.newA wb #[.int .i64 (d : Int)] 3
  have b3 := b2.alloc (by omega) (.cells #[.int .i64 (d : Int)] 3)
  have k1c := k1b.alloc (.cells #[.int .i64 (d : Int)] 3)
  have k2c := k2.alloc (.cells #[.int .i64 (d : Int)] 3)
  obtain ⟨wc, hwc⟩ : ∃ wc, wc = wb.alloc (.cells #[.int .i64 (d : Int)] 3) := ⟨_, rfl⟩
  have s3 : wc.heap.size = w.heap.size + 3 := by rw [hwc]; simp [s2]
  rw [← hwc] at k3 b3 k1c k2c hB
  have b4 := b3.trans (hB.mono (by omega))
  have b5 := b4.alloc b4.size (.cells #[.int .i64 T.k, .string T.t, .int .i64 T.n, .int .i64 T.a, .int .i64 T.e] 42)
  have kf := Blk.newA w2 #[.int .i64 T.k, .string T.t, .int .i64 T.n, .int .i64 T.a, .int .i64 T.e] 42
  rw [s1] at k2c
  rw [show wb.heap.size = w.heap.size + 1 + 1 from s2] at k3
  refine ⟨⟨HP.later b5, ⟨(k1c.later hB).alloc _, (k3.later hB).alloc _⟩, (k2c.later hB).alloc _, kf, fun k hk => ?_⟩, Mv.of_below b5 g v⟩
  have := own_lt HP.2.2.1 hk
  omega
end Go.Proofs.Ytokepgimjdalaaa
