/- The book: lists that were handed out, with a mark of their own each. -/
import Derived.Test.YtmeplmhngmlnaaaR
namespace Go.Proofs.Ytmeplmhngmlnaaa
open Go.RowKit
set_option linter.unusedVariables false

def mrk (k : Nat) : Int := (7 * (k : Int) + 1) % 256
theorem mark_any (k : Nat) (w : World) (hk : k ≤ 10000) : Calls Try.prog 45 #[.int .i64 k] w fun e w' => e = .returned (.int .u8 (mrk k)) ∧ w = w' := by
  go_enter Try.func45, Try.ntmps45
  go_wp2
  go_ret
  exact ⟨rfl, rfl⟩
/-- A list as it came: nil, or a whole block. -/
def Came1 (w : World) (v : Value) (s : Nat) (x : Int) : Prop :=
  (v = .slice none 0 0 ∧ s = 0) ∨ ∃ g, v = .slice (some ⟨g, 0, none⟩) s s ∧ Blk w g 5 (cellsL .u8 (List.replicate s x))
/-- The same, longer by one. -/
def Long1 (w : World) (v : Value) (s : Nat) (x : Int) : Prop :=
  ∃ g c ys, v = .slice (some ⟨g, 0, none⟩) (s + 1) c ∧ s + 1 ≤ c ∧ Blk w g 5 ys ∧ ys.take (s + 1) = cellsL .u8 (List.replicate (s + 1) x)
structure BookSt (B : Nat) (w : World) (vL vM : Value) (N : Nat) (F G : Nat → Value) (s : Nat → Nat) : Prop where
  rL : RowE 30 B w vL N F
  rM : RowE 30 B w vM N G
  l : ∀ j, j < N → Came1 w (F j) (s j) (mrk j)
  m : ∀ j, j < N → Long1 w (G j) (s j) (mrk j)
  ne : ∀ q, vL.ownBlock = some q → vM.ownBlock ≠ some q
  lo : ∀ j q, j < N → ((F j).ownBlock = some q ∨ (G j).ownBlock = some q) → B ≤ q
  small : ∀ j, j < N → s j ≤ 1000000
/-- Its blocks. -/
def FK (vL vM : Value) (N : Nat) (F G : Nat → Value) (q : Nat) : Prop := vL.ownBlock = some q ∨ vM.ownBlock = some q ∨ ∃ j, j < N ∧ ((F j).ownBlock = some q ∨ (G j).ownBlock = some q)
section
variable {B : Nat} {w w' : World} {vL vM : Value} {N : Nat} {F G : Nat → Value} {s : Nat → Nat}
theorem Came1.upd {v : Value} {k : Nat} {x : Int} {S : Nat → Prop} (h : Came1 w v k x) (hu : Upd S w w') (hs : ∀ q, v.ownBlock = some q → ¬ S q) : Came1 w' v k x := by
  rcases h with h | ⟨g, rfl, h⟩
  · exact .inl h
  · exact .inr ⟨g, rfl, h.upd hu (hs g rfl)⟩
theorem Long1.upd {v : Value} {k : Nat} {x : Int} {S : Nat → Prop} (h : Long1 w v k x) (hu : Upd S w w') (hs : ∀ q, v.ownBlock = some q → ¬ S q) : Long1 w' v k x := by
  obtain ⟨g, c, ys, rfl, h1, h2, h3⟩ := h
  exact ⟨g, c, ys, rfl, h1, h2.upd hu (hs g rfl), h3⟩
theorem Came1.blk {v : Value} {k q : Nat} {x : Int} (h : Came1 w v k x) (hq : v.ownBlock = some q) : ∃ xs, Blk w q 5 xs := by
  rcases h with ⟨rfl, _⟩ | ⟨g, rfl, h⟩
  · cases hq
  · injection hq with hq
    have e : g = q := hq
    subst e
    exact ⟨_, h⟩
theorem Long1.blk {v : Value} {k q : Nat} {x : Int} (h : Long1 w v k x) (hq : v.ownBlock = some q) : ∃ xs, Blk w q 5 xs := by
  obtain ⟨g, c, ys, rfl, h1, h2, h3⟩ := h
  injection hq with hq
  have e : g = q := hq
  subst e
  exact ⟨_, h2⟩
theorem BookSt.upd {S : Nat → Prop} (b : BookSt B w vL vM N F G s) (hu : Upd S w w') (hs : ∀ q, FK vL vM N F G q → ¬ S q) : BookSt B w' vL vM N F G s :=
  ⟨b.rL.upd hu (fun q hq => hs q (.inl hq)), b.rM.upd hu (fun q hq => hs q (.inr (.inl hq))), fun j hj => (b.l j hj).upd hu (fun q hq => hs q (.inr (.inr ⟨j, hj, .inl hq⟩))), fun j hj => (b.m j hj).upd hu (fun q hq => hs q (.inr (.inr ⟨j, hj, .inr hq⟩))), b.ne, b.lo, b.small⟩
theorem BookSt.later (b : BookSt B w vL vM N F G s) (hB : Below w.heap.size w w') : BookSt B w' vL vM N F G s := b.upd (Upd.of_below (S := fun _ => False) hB) (fun _ _ h => h)
theorem BookSt.lt (b : BookSt B w vL vM N F G s) (q : Nat) (hq : FK vL vM N F G q) : B ≤ q ∧ q < w.heap.size := by
  rcases hq with hq | hq | ⟨j, hj, hq⟩
  · exact b.rL.lt q hq
  · exact b.rM.lt q hq
  · refine ⟨b.lo j q hj hq, ?_⟩
    rcases hq with hq | hq
    · obtain ⟨xs, h⟩ := (b.l j hj).blk hq
      exact h.lt
    · obtain ⟨xs, h⟩ := (b.m j hj).blk hq
      exact h.lt
theorem BookSt.none (B : Nat) (w : World) : BookSt B w (.slice none 0 0) (.slice none 0 0) 0 (fun _ => .slice none 0 0) (fun _ => .slice none 0 0) (fun _ => 0) :=
  ⟨RowE.nil _ _ _ _, RowE.nil _ _ _ _, fun j hj => by omega, fun j hj => by omega, (fun q hq => by cases hq), fun j q hj => by omega, fun j hj => by omega⟩
end
/-- One list more: the two appends of rows, the one of the list. -/
theorem book_push {B : Nat} {w : World} {vL vM : Value} {N : Nat} {F G : Nat → Value} {s : Nat → Nat} (b : BookSt B w vL vM N F G s) (hB : B ≤ w.heap.size) (hN : N ≤ 10000) (v : Value) (k : Nat) (hk : k ≤ 1000000) (hv : Came1 w v k (mrk N)) (hlo : ∀ q, v.ownBlock = some q → B ≤ q) :
    ∃ g1 c1 w1, (Builtin.append_ #[22, 22] 22 #[vL, .slice (some ⟨w.heap.size, 0, none⟩) 1 1]).run Try.prog (w.alloc (.cells #[v] 30)) = .ok (.slice (some ⟨g1, 0, none⟩) (N + 1) c1) w1 ∧
      Upd (fun q => vL.ownBlock = some q) w w1 ∧ (vL.ownBlock = some g1 ∨ w.heap.size ≤ g1) ∧
      ∀ w2, Upd (fun q => q ≠ g1 ∧ ¬ FK vL vM N F G q ∧ v.ownBlock ≠ some q) w1 w2 → w1.heap.size = w2.heap.size →
        ∃ g3 c3 w3 g4 c4 w4, (Builtin.append_ #[30, 30] 30 #[v, .slice (some ⟨w2.heap.size, 0, none⟩) 1 1]).run Try.prog (w2.alloc (.cells #[.int .u8 (mrk N)] 5)) = .ok (.slice (some ⟨g3, 0, none⟩) (k + 1) c3) w3 ∧ Below w2.heap.size w2 w3 ∧
          (Builtin.append_ #[22, 22] 22 #[vM, .slice (some ⟨w3.heap.size, 0, none⟩) 1 1]).run Try.prog (w3.alloc (.cells #[.slice (some ⟨g3, 0, none⟩) (k + 1) c3] 30)) = .ok (.slice (some ⟨g4, 0, none⟩) (N + 1) c4) w4 ∧
          Upd (fun q => vM.ownBlock = some q) w2 w4 ∧ (vM.ownBlock = some g4 ∨ w2.heap.size ≤ g4) ∧
          BookSt B w4 (.slice (some ⟨g1, 0, none⟩) (N + 1) c1) (.slice (some ⟨g4, 0, none⟩) (N + 1) c4) (N + 1) (ext F N v) (ext G N (.slice (some ⟨g3, 0, none⟩) (k + 1) c3)) (ext s N k) ∧ w2.heap.size ≤ g3 := by
  have f1 : RowE 30 B w vL N (ext F N v) := b.rL.congr (fun j hj => (ext_ne _ _ _ _ (by omega)).symm)
  have hone : (ext F N v N).oneCell' = true := by
    rw [ext_at]
    rcases hv with ⟨rfl, _⟩ | ⟨g, rfl, _⟩ <;> rfl
  obtain ⟨g1, c1, w1, r1, p1, u1, l1⟩ := f1.push Try.underlying22 (z := .slice none 0 0) (bytes := 24) (by kernel_rfl) rfl hone (by unfold maxLen; omega) (by omega) hB 22
  rw [ext_at] at r1
  refine ⟨g1, c1, w1, r1, u1, l1, fun w2 u2 hsz => ?_⟩
  -- what is there in w2
  have hL1 : ∀ {q xs}, Blk w q 5 xs → ¬ vL.ownBlock = some q := fun hq e => own_ne_t f1 hq (by decide) e
  have keep12 : ∀ q, (FK vL vM N F G q ∨ v.ownBlock = some q) → (∃ xs, Blk w q 5 xs) ∨ vM.ownBlock = some q → ¬ vL.ownBlock = some q := by
    intro q _ h2 e
    rcases h2 with ⟨xs, h2⟩ | h2
    · exact hL1 h2 e
    · exact b.ne q e h2
  have hl2 : ∀ j, j < N → Came1 w2 (F j) (s j) (mrk j) := fun j hj => ((b.l j hj).upd u1 (fun q hq e => by obtain ⟨xs, h⟩ := (b.l j hj).blk hq; exact hL1 h e)).upd u2 (fun q hq h => h.2.1 (.inr (.inr ⟨j, hj, .inl hq⟩)))
  have hm2 : ∀ j, j < N → Long1 w2 (G j) (s j) (mrk j) := fun j hj => ((b.m j hj).upd u1 (fun q hq e => by obtain ⟨xs, h⟩ := (b.m j hj).blk hq; exact hL1 h e)).upd u2 (fun q hq h => h.2.1 (.inr (.inr ⟨j, hj, .inr hq⟩)))
  have hv2 : Came1 w2 v k (mrk N) := (hv.upd u1 (fun q hq e => by obtain ⟨xs, h⟩ := hv.blk hq; exact hL1 h e)).upd u2 (fun q hq h => h.2.2 hq)
  have rM2 : RowE 30 B w2 vM N G := (b.rM.upd u1 (fun q hq e => b.ne q e hq)).upd u2 (fun q hq h => h.2.1 (.inr (.inl hq)))
  have rL2 : RowE 30 B w2 (.slice (some ⟨g1, 0, none⟩) (N + 1) c1) (N + 1) (ext F N v) := p1.upd u2 (fun q hq h => h.1 (by injection hq with hq; exact hq.symm))
  have hB2 : B ≤ w2.heap.size := by have := u1.size; omega
  -- the list, longer
  obtain ⟨g3, c3, w3, r3, o3, hB3⟩ : ∃ g3 c3 w3, (Builtin.append_ #[30, 30] 30 #[v, .slice (some ⟨w2.heap.size, 0, none⟩) 1 1]).run Try.prog (w2.alloc (.cells #[.int .u8 (mrk N)] 5)) = .ok (.slice (some ⟨g3, 0, none⟩) (k + 1) c3) w3 ∧
      w3.ownsRow w2.heap.size 5 1 (.slice (some ⟨g3, 0, none⟩) (k + 1) c3) (k + 1) (cellsL .u8 (List.replicate (k + 1) (mrk N))) ∧ Below w2.heap.size w2 w3 := by
    rw [List.replicate_succ']
    rcases hv2 with ⟨rfl, rfl⟩ | ⟨g, rfl, hg⟩
    · obtain ⟨g3, c3, w3, r3, o3, u3, l3⟩ := run_push E30 w2 30 w2.heap.size (.slice none 0 0) 0 [] (World.ownsRow_nil _ _ _ _) (mrk N) (by unfold maxLen; omega) (by omega) (Nat.le_refl _)
      exact ⟨g3, c3, w3, r3, o3, u3.below _ (Nat.le_refl _) (fun q hq => by cases hq)⟩
    · obtain ⟨g3, c3, w3, r3, o3, b3⟩ := run_push_full E30 w2 30 g k (List.replicate k (mrk N)) (mrk N) (by simp) hg (by unfold maxLen; omega) (by omega)
      exact ⟨g3, c3, w3, r3, o3, b3⟩
  obtain ⟨g3', c3', ys, e3, hg3, hc3, _, _, hys, hb3⟩ := own_blk o3 (by omega)
  injection e3 with e3 _ e4
  injection e3 with e3
  injection e3 with e3 _ _
  subst e3 e4
  have f3 : RowE 30 B w3 vM N (ext G N (.slice (some ⟨g3, 0, none⟩) (k + 1) c3)) := (rM2.later hB3).congr (fun j hj => (ext_ne _ _ _ _ (by omega)).symm)
  obtain ⟨g4, c4, w4, r4, p4, u4, l4⟩ := f3.push Try.underlying22 (z := .slice none 0 0) (bytes := 24) (by kernel_rfl) rfl (by rw [ext_at]; rfl) (by unfold maxLen; omega) (by omega) (Nat.le_trans hB2 hB3.size) 22
  rw [ext_at] at r4
  have hU24 : Upd (fun q => vM.ownBlock = some q) w2 w4 := (Upd.of_below hB3).to u4
  have hM3 : ∀ {q xs}, Blk w3 q 5 xs → ¬ vM.ownBlock = some q := fun hq e => own_ne_t f3 hq (by decide) e
  have later3 : ∀ {q xs}, Blk w2 q 5 xs → Blk w3 q 5 xs := fun h => h.later hB3
  refine ⟨g3, c3, w3, g4, c4, w4, r3, hB3, r4, hU24, ?_, ⟨?_, p4, fun j hj => ?_, fun j hj => ?_, fun q hq hq2 => ?_, fun j q hj hq => ?_, fun j hj => ?_⟩, hg3⟩
  · rcases l4 with e | e
    · exact .inl e
    · exact .inr (Nat.le_trans hB3.size e)
  · refine (rL2.later hB3).upd u4 (fun q hq e => ?_)
    injection hq with hq
    have e1 : g1 = q := hq
    subst e1
    rcases l1 with h | h
    · exact b.ne g1 h e
    · have := (b.rM.lt g1 e).2; omega
  · by_cases e : j = N
    · subst e
      rw [ext_at, ext_at]
      exact (hv2.upd (Upd.of_below (S := fun _ => False) hB3) (fun _ _ h => h)).upd u4 (fun q hq e => by obtain ⟨xs, h⟩ := hv2.blk hq; exact hM3 (later3 h) e)
    · rw [ext_ne _ _ _ _ e, ext_ne _ _ _ _ e]
      exact ((hl2 j (by omega)).upd (Upd.of_below (S := fun _ => False) hB3) (fun _ _ h => h)).upd u4 (fun q hq e => by obtain ⟨xs, h⟩ := (hl2 j (by omega)).blk hq; exact hM3 (later3 h) e)
  · by_cases e : j = N
    · subst e
      rw [ext_at, ext_at]
      exact ⟨g3, c3, ys, rfl, hc3, hb3.upd u4 (hM3 hb3), hys⟩
    · rw [ext_ne _ _ _ _ e, ext_ne _ _ _ _ e]
      exact ((hm2 j (by omega)).upd (Upd.of_below (S := fun _ => False) hB3) (fun _ _ h => h)).upd u4 (fun q hq e => by obtain ⟨xs, h⟩ := (hm2 j (by omega)).blk hq; exact hM3 (later3 h) e)
  · injection hq with hq
    have e1 : g1 = q := hq
    subst e1
    injection hq2 with hq2
    have e2 : g4 = g1 := hq2
    subst e2
    rcases l4 with h | h
    · rcases l1 with h1 | h1
      · exact b.ne g4 h1 h
      · have := (b.rM.lt g4 h).2; omega
    · have := (p1.lt g4 rfl).2
      have := hB3.size
      omega
  · by_cases e : j = N
    · subst e
      rw [ext_at, ext_at] at hq
      rcases hq with hq | hq
      · exact hlo q hq
      · injection hq with hq
        have e1 : g3 = q := hq
        subst e1
        omega
    · rw [ext_ne _ _ _ _ e, ext_ne _ _ _ _ e] at hq
      exact b.lo j q (by omega) hq
  · by_cases e : j = N
    · subst e; rw [ext_at]; exact hk
    · rw [ext_ne _ _ _ _ e]; exact b.small j (by omega)
end Go.Proofs.Ytmeplmhngmlnaaa
