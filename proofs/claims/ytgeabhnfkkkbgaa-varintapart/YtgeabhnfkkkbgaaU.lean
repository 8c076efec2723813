/- VarintApart: what lies in memory, step by step. -/
import Derived.Test.YtgeabhnfkkkbgaaQ
import Derived.ArgAppend
namespace Go.Proofs.Ytgeabhnfkkkbgaa
open Go.RowKit
set_option linter.unusedVariables false

theorem info23 : (Try.prog.info? 23).map (fun i => (i.zero, i.size, i.bytes)) = some (some (.slice none 0 0), 1, 24) := by kernel_rfl
/-- What number j of the lists is. -/
def cont (n m j : Nat) : List Int := if j % 4 = 1 then form m else form n
def czs (n m j : Nat) : Nat := (cont n m j).length
theorem czs_one (n m j : Nat) : 1 ≤ czs n m j := by unfold czs cont; split <;> exact form_pos _
theorem czs_ten (n m j : Nat) (hn : n < 18446744073709551616) (hm : m < 18446744073709551616) : czs n m j ≤ 10 := by
  unfold czs cont; split
  · exact form_ten _ hm
  · exact form_ten _ hn
/-- A row of slices: number j is F j. -/
def RowV (B : Nat) (w : World) (v : Value) (N : Nat) (F : Nat → Value) : Prop := w.ownsRow B 23 1 v N ((List.range N).map F)
theorem RowV.open {B N : Nat} {w : World} {v : Value} {F : Nat → Value} (h : RowV B w v N F) (hN : 0 < N) : ∃ q cap, v = .slice (some ⟨q, 0, none⟩) N cap ∧ B ≤ q ∧ N ≤ cap ∧ cap ≤ maxLen ∧ ∀ j, j < N → w.cell? ⟨q, j, none⟩ = some (F j) := by
  obtain ⟨q, cap, ys, rfl, h1, h2, h3, h4, h5, h6⟩ := own_blk h hN
  refine ⟨q, cap, rfl, h1, h2, h3, fun j hj => ?_⟩
  rw [h6.cell j]
  have e : (ys.take N)[j]? = ys[j]? := by rw [List.getElem?_take, if_pos hj]
  rw [← e, h5]
  simp [hj]
theorem RowV.nil (B : Nat) (w : World) (F : Nat → Value) : RowV B w (.slice none 0 0) 0 F := World.ownsRow_nil _ _ _ _
theorem RowV.congr {B N : Nat} {w : World} {v : Value} {F G : Nat → Value} (h : RowV B w v N F) (e : ∀ j, j < N → F j = G j) : RowV B w v N G := by
  unfold RowV at h ⊢
  rw [← List.map_congr_left (fun j hj => e j (List.mem_range.1 hj))]
  exact h
theorem RowV.upd {B N : Nat} {w w' : World} {v : Value} {F : Nat → Value} {S : Nat → Prop} (h : RowV B w v N F) (hu : Upd S w w') (hs : ∀ k, v.ownBlock = some k → ¬ S k) : RowV B w' v N F := owns_upd h hu hs
theorem RowV.lt {B N : Nat} {w : World} {v : Value} {F : Nat → Value} (h : RowV B w v N F) (k : Nat) (hk : v.ownBlock = some k) : B ≤ k ∧ k < w.heap.size := World.ownsRow.lt h k hk
/-- append(v, x). -/
theorem RowV.push {B N : Nat} {w : World} {v : Value} {F : Nat → Value} (h : RowV B w v N F) (hx : (F N).oneCell' = true) (hN : N ≤ 1000) (hB : B ≤ w.heap.size) :
    ∃ g cap w', (Builtin.append_ #[44, 44] 44 #[v, .slice (some ⟨w.heap.size, 0, none⟩) 1 1]).run Try.prog (w.alloc (.cells #[F N] 23)) = .ok (.slice (some ⟨g, 0, none⟩) (N + 1) cap) w' ∧
      RowV B w' (.slice (some ⟨g, 0, none⟩) (N + 1) cap) (N + 1) F ∧ Upd (fun k => v.ownBlock = some k) w w' ∧ (v.ownBlock = some g ∨ w.heap.size ≤ g) := by
  obtain ⟨g, cap, w', h1, h2, h3, h4⟩ := run_pushV Try.underlying44 info23 rfl w 44 B v N _ h (F N) hx (by unfold maxLen; omega) (by omega) hB
  refine ⟨g, cap, w', h1, ?_, h3, h4⟩
  unfold RowV
  rw [List.range_succ, List.map_append]
  exact h2
def slG (n m : Nat) (g : Nat → Nat) (j : Nat) : Value := .slice (some ⟨g j, 0, none⟩) (czs n m j) (czs n m j)
def slW (n m : Nat) (h c : Nat → Nat) (j : Nat) : Value := .slice (some ⟨h j, 0, none⟩) (czs n m j) (c j)
def ext (g : Nat → Nat) (N x : Nat) (j : Nat) : Nat := if j = N then x else g j
theorem ext_at (g : Nat → Nat) (N x : Nat) : ext g N x N = x := by unfold ext; rw [if_pos rfl]
theorem ext_ne (g : Nat → Nat) (N x j : Nat) (h : j ≠ N) : ext g N x j = g j := by unfold ext; rw [if_neg h]

/-- N lists are there, pG of them in got; pW copies are in want; the reader has taken n's form. -/
structure Ap (n m B : Nat) (w : World) (vG vW : Value) (b N pG pW : Nat) (g h c : Nat → Nat) (f : Nat → List Int) : Prop where
  rG : RowV B w vG pG (slG n m g)
  rW : RowV B w vW pW (slW n m h c)
  bG : ∀ j, j < N → Blk w (g j) 5 (cellsL .u8 (f j))
  bW : ∀ j, j < pW → ∃ ys, Blk w (h j) 5 ys ∧ ys.take (czs n m j) = cellsL .u8 (cont n m j)
  fl : ∀ j, j < N → (f j).length = czs n m j
  lo : ∀ j, j < N → B ≤ g j
  inj : ∀ i j, i < N → j < N → g i = g j → i = j
  dis : ∀ i j, i < N → j < pW → g i ≠ h j
  rows : ∀ k, vG.ownBlock = some k → vW.ownBlock ≠ some k
  rd : Rdr w b (form n) true
  lb : B ≤ b
theorem Ap.upd {n m B b N pG pW : Nat} {w w' : World} {vG vW : Value} {g h c : Nat → Nat} {f : Nat → List Int} {S : Nat → Prop} (a : Ap n m B w vG vW b N pG pW g h c f) (hu : Upd S w w')
    (h1 : ∀ k, vG.ownBlock = some k → ¬ S k) (h2 : ∀ k, vW.ownBlock = some k → ¬ S k) (h3 : ∀ j, j < N → ¬ S (g j)) (h4 : ∀ j, j < pW → ¬ S (h j)) (h5 : ¬ S b) : Ap n m B w' vG vW b N pG pW g h c f :=
  ⟨a.rG.upd hu h1, a.rW.upd hu h2, fun j hj => (a.bG j hj).upd hu (h3 j hj), fun j hj => by obtain ⟨ys, e1, e2⟩ := a.bW j hj; exact ⟨ys, e1.upd hu (h4 j hj), e2⟩, a.fl, a.lo, a.inj, a.dis, a.rows, Blk.upd a.rd hu h5, a.lb⟩
theorem Ap.later {n m B b N pG pW : Nat} {w w' : World} {vG vW : Value} {g h c : Nat → Nat} {f : Nat → List Int} (a : Ap n m B w vG vW b N pG pW g h c f) (hB : Below w.heap.size w w') : Ap n m B w' vG vW b N pG pW g h c f :=
  a.upd (Upd.of_below (S := fun _ => False) hB) (fun _ _ h => h) (fun _ _ h => h) (fun _ _ h => h) (fun _ _ h => h) (fun h => h)
theorem Ap.drew {n m B b N pG pW : Nat} {w : World} {vG vW : Value} {g h c : Nat → Nat} {f : Nat → List Int} (a : Ap n m B w vG vW b N pG pW g h c f) : Ap n m B w.drew vG vW b N pG pW g h c f := a.later (Below.refl _ _).drew
theorem Ap.hB {n m B b N pG pW : Nat} {w : World} {vG vW : Value} {g h c : Nat → Nat} {f : Nat → List Int} (a : Ap n m B w vG vW b N pG pW g h c f) : B ≤ w.heap.size := Nat.le_trans a.lb (Nat.le_of_lt (Blk.lt a.rd))
/-- One more list. -/
theorem Ap.more {n m B b N pG pW : Nat} {w w' : World} {vG vW : Value} {g h c : Nat → Nat} {f : Nat → List Int} (a : Ap n m B w vG vW b N pG pW g h c f) (hB : Below w.heap.size w w') (x : Nat) (hx : w.heap.size ≤ x) (hG : pG ≤ N) (hf : (f N).length = czs n m N) (hb : Blk w' x 5 (cellsL .u8 (f N))) :
    Ap n m B w' vG vW b (N + 1) pG pW (ext g N x) h c f := by
  have a' := a.later hB
  have hgl : ∀ j, j < N → g j < w.heap.size := fun j hj => (a.bG j hj).lt
  have hhl : ∀ j, j < pW → h j < w.heap.size := fun j hj => by obtain ⟨ys, e1, _⟩ := a.bW j hj; exact e1.lt
  refine ⟨a'.rG.congr (fun j hj => by unfold slG; rw [ext_ne _ _ _ _ (by omega)]), a'.rW, fun j hj => ?_, a'.bW, fun j hj => ?_, fun j hj => ?_, fun i j hi hj e => ?_, fun i j hi hj e => ?_, a.rows, a'.rd, a.lb⟩
  · by_cases hN : j = N
    · subst hN; rw [ext_at]; exact hb
    · rw [ext_ne _ _ _ _ hN]; exact a'.bG j (by omega)
  · by_cases hN : j = N
    · subst hN; exact hf
    · exact a.fl j (by omega)
  · by_cases hN : j = N
    · subst hN; rw [ext_at]; exact Nat.le_trans a.hB hx
    · rw [ext_ne _ _ _ _ hN]; exact a.lo j (by omega)
  · by_cases hi2 : i = N
    · by_cases hj2 : j = N
      · omega
      · rw [hi2, ext_at, ext_ne _ _ _ _ hj2] at e
        have := hgl j (by omega); omega
    · by_cases hj2 : j = N
      · rw [hj2, ext_at, ext_ne _ _ _ _ hi2] at e
        have := hgl i (by omega); omega
      · rw [ext_ne _ _ _ _ hi2, ext_ne _ _ _ _ hj2] at e
        exact a.inj i j (by omega) (by omega) e
  · by_cases hi2 : i = N
    · rw [hi2, ext_at] at e
      have := hhl j hj; omega
    · rw [ext_ne _ _ _ _ hi2] at e
      exact a.dis i j (by omega) hj e
/-- got grows. -/
theorem Ap.pushG {n m B b N pG pW : Nat} {w w' : World} {vG vW vG' : Value} {g h c : Nat → Nat} {f : Nat → List Int} (a : Ap n m B w vG vW b N pG pW g h c f) (hr : RowV B w' vG' (pG + 1) (slG n m g)) (hu : Upd (fun k => vG.ownBlock = some k) w w')
    (hn : ∀ k, vG'.ownBlock = some k → vG.ownBlock = some k ∨ w.heap.size ≤ k) : Ap n m B w' vG' vW b N (pG + 1) pW g h c f := by
  have t : Ap n m B w' (.slice none 0 0) vW b N 0 pW g h c f := by
    have a0 : Ap n m B w (.slice none 0 0) vW b N 0 pW g h c f := ⟨RowV.nil _ _ _, a.rW, a.bG, a.bW, a.fl, a.lo, a.inj, a.dis, (fun k hk => by cases hk), a.rd, a.lb⟩
    refine a0.upd hu (fun k hk => by cases hk) (fun k hk e => a.rows k e hk) (fun j hj e => own_ne_t a.rG (a.bG j hj) (by decide) e) (fun j hj e => ?_) (fun e => own_ne_t a.rG a.rd (by decide) e)
    obtain ⟨ys, e1, _⟩ := a.bW j hj
    exact own_ne_t a.rG e1 (by decide) e
  refine ⟨hr, t.rW, t.bG, t.bW, t.fl, t.lo, t.inj, t.dis, fun k hk hk2 => ?_, t.rd, t.lb⟩
  rcases hn k hk with e | e
  · exact a.rows k e hk2
  · have := (a.rW.lt k hk2).2; omega
/-- want grows by a copy. -/
theorem Ap.pushW {n m B b N pG pW : Nat} {w w1 w' : World} {vG vW vW' : Value} {g h c : Nat → Nat} {f : Nat → List Int} (a : Ap n m B w vG vW b N pG pW g h c f) (hB : Below w.heap.size w w1) (x cx : Nat) (hx : w.heap.size ≤ x) (ys : List Value) (hb : Blk w1 x 5 ys) (hys : ys.take (czs n m pW) = cellsL .u8 (cont n m pW))
    (hr : RowV B w' vW' (pW + 1) (slW n m (ext h pW x) (ext c pW cx))) (hu : Upd (fun k => vW.ownBlock = some k) w1 w') (hn : ∀ k, vW'.ownBlock = some k → vW.ownBlock = some k ∨ w1.heap.size ≤ k) : Ap n m B w' vG vW' b N pG (pW + 1) g (ext h pW x) (ext c pW cx) f := by
  have a1 := a.later hB
  have hgl : ∀ j, j < N → g j < w.heap.size := fun j hj => (a.bG j hj).lt
  have hne : ∀ {t : TypeId} {q : Nat} {zs : List Value}, Blk w1 q t zs → 23 ≠ t → ¬ vW.ownBlock = some q := fun hq ht e => own_ne_t a1.rW hq ht e
  refine ⟨a1.rG.upd hu (fun k hk e => a.rows k hk e), hr, fun j hj => (a1.bG j hj).upd hu (hne (a1.bG j hj) (by decide)), fun j hj => ?_, a.fl, a.lo, a.inj, fun i j hi hj e => ?_, fun k hk hk2 => ?_, Blk.upd a1.rd hu (hne a1.rd (by decide)), a.lb⟩
  · by_cases hj2 : j = pW
    · subst hj2; rw [ext_at]; exact ⟨ys, hb.upd hu (hne hb (by decide)), hys⟩
    · rw [ext_ne _ _ _ _ hj2]
      obtain ⟨zs, e1, e2⟩ := a1.bW j (by omega)
      exact ⟨zs, e1.upd hu (hne e1 (by decide)), e2⟩
  · by_cases hj2 : j = pW
    · rw [hj2, ext_at] at e
      have := hgl i hi; omega
    · rw [ext_ne _ _ _ _ hj2] at e
      exact a.dis i j hi (by omega) e
  · rcases hn k hk2 with e | e
    · exact a.rows k hk e
    · have := (a1.rG.lt k hk).2; omega
end Go.Proofs.Ytgeabhnfkkkbgaa
