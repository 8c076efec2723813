/- Sources in memory; source. -/
import Derived.Test.YtokepgimjdalaaaSl
namespace Go.Proofs.Ytokepgimjdalaaa
open Go.RowKit
set_option linter.unusedVariables false

def cellsD : List Df → List Value → List Value
  | d :: D, v :: vs => dfc d v ++ cellsD D vs
  | _, _ => []
theorem cellsD_snoc : ∀ (D : List Df) (vs : List Value) (d : Df) (v : Value), vs.length = D.length → cellsD (D ++ [d]) (vs ++ [v]) = cellsD D vs ++ dfc d v
  | [], [], d, v, _ => by simp [cellsD]
  | [], _ :: _, _, _, h => by simp at h
  | _ :: _, [], _, _, h => by simp at h
  | a :: D, b :: vs, d, v, h => by
    have ih := cellsD_snoc D vs d v (by simpa using h)
    simp [cellsD, ih]
/-- A source's definitions lie here: the lists of their nodes are apart from one another. -/
def Src (w : World) (B : Nat) (vd : Value) (D : List Df) (vs : List Value) : Prop :=
  vs.length = D.length ∧ w.ownsRow B 38 3 vd D.length (cellsD D vs) ∧ (∀ (i : Nat) (d : Df) (v : Value), D[i]? = some d → vs[i]? = some v → w.ownsRow B 40 7 v d.ty.length (cellsN d.ty)) ∧
    (∀ (i j : Nat) (v u : Value) (k : Nat), vs[i]? = some v → vs[j]? = some u → v.ownBlock = some k → u.ownBlock = some k → i = j)
theorem Src.nil (w : World) (B : Nat) : Src w B (.slice none 0 0) [] [] := ⟨rfl, World.ownsRow_nil _ _ _ _, fun i d v h => by simp at h, fun i j v u k h => by simp at h⟩
theorem Src.upd {S : Nat → Prop} {w w' : World} {B : Nat} {vd : Value} {D : List Df} {vs : List Value} (h : Src w B vd D vs) (hu : Upd S w w') (h1 : ∀ k, vd.ownBlock = some k → ¬ S k) (h2 : ∀ (i : Nat) (v : Value) (k : Nat), vs[i]? = some v → v.ownBlock = some k → ¬ S k) : Src w' B vd D vs :=
  ⟨h.1, ownS_upd h.2.1 hu h1, fun i d v hd hv => ownS_upd (h.2.2.1 i d v hd hv) hu (fun k hk => h2 i v k hv hk), h.2.2.2⟩
theorem Src.later {w w' : World} {B : Nat} {vd : Value} {D : List Df} {vs : List Value} (h : Src w B vd D vs) (hB : Below w.heap.size w w') : Src w' B vd D vs := h.upd (Upd.of_below (S := fun _ => False) hB) (fun _ _ h => h) (fun _ _ _ _ _ h => h)
theorem Src.d {w : World} {B : Nat} {vd : Value} {D : List Df} {vs : List Value} (h : Src w B vd D vs) {i : Nat} {v : Value} (hv : vs[i]? = some v) : ∃ d, D[i]? = some d := by
  have hi := (List.getElem?_eq_some_iff.1 hv).1
  rw [h.1] at hi
  exact ⟨_, List.getElem?_eq_getElem hi⟩
/-- A block of another type is changed. -/
theorem Src.other {w w' : World} {B g : Nat} {vd : Value} {D : List Df} {vs : List Value} {t : TypeId} {ys : List Value} (h : Src w B vd D vs) (hu : Upd (fun k => k = g) w w') (hg : Blk w g t ys) (h1 : t ≠ 38) (h2 : t ≠ 40) : Src w' B vd D vs := by
  refine h.upd hu (fun k hk e => ?_) (fun i v k hv hk e => ?_)
  · subst e
    obtain ⟨zs, hz⟩ := ownS_type h.2.1 hk
    exact h1 (blk_type hg hz)
  · subst e
    obtain ⟨d, hd⟩ := h.d hv
    obtain ⟨zs, hz⟩ := ownS_type (h.2.2.1 i d v hd hv) hk
    exact h2 (blk_type hg hz)
/-- One definition more. -/
theorem Src.push {w : World} {B : Nat} {vd : Value} {D : List Df} {vs : List Value} (h : Src w B vd D vs) (d : Df) (v : Value) (hv : w.ownsRow B 40 7 v d.ty.length (cellsN d.ty)) (hn : ∀ (i : Nat) (u : Value) (k : Nat), vs[i]? = some u → u.ownBlock = some k → v.ownBlock ≠ some k) (hl : D.length ≤ 2932031007401) (hB : B ≤ w.heap.size) (hone : v.oneCell' = true) :
    ∃ gn cap w', (Builtin.append_ #[23, 23] 23 #[vd, .slice (some ⟨w.heap.size, 0, none⟩) 1 1]).run Try.prog (w.alloc (.cells #[.string d.name, .int .i64 d.a, v] 38)) = .ok (.slice (some ⟨gn, 0, none⟩) (D.length + 1) cap) w' ∧
      Src w' B (.slice (some ⟨gn, 0, none⟩) (D.length + 1) cap) (D ++ [d]) (vs ++ [v]) ∧ Upd (fun k => vd.ownBlock = some k) w w' ∧ (vd.ownBlock = some gn ∨ w.heap.size ≤ gn) := by
  obtain ⟨gn, cap, w', r1, o1, u1, c1⟩ := run_pushS (P := Try.prog) (t := 23) (e := 38) (z := .agg #[.string ⟨#[]⟩, .int .i64 0, .slice none 0 0]) (bytes := 48) Try.underlying23 (by kernel_rfl) rfl (by decide) w 23 h.2.1 (dfc d v) rfl (by intro u hu; simp [dfc] at hu; rcases hu with rfl | rfl | rfl; rfl; rfl; exact hone) (by unfold maxLen; omega) (by omega) hB
  have hne : ∀ (x : Value) (n : Nat) (xs : List Value), w.ownsRow B 40 7 x n xs → ∀ k, x.ownBlock = some k → ¬ vd.ownBlock = some k := fun x n xs hx k hk e => by
    obtain ⟨ys, hy⟩ := ownS_type hx hk
    obtain ⟨zs, hz⟩ := ownS_type h.2.1 e
    exact absurd (blk_type hy hz) (by decide)
  refine ⟨gn, cap, w', r1, ⟨by simp [h.1], ?_, ?_, ?_⟩, u1, c1⟩
  · rw [cellsD_snoc D vs d v h.1, List.length_append]
    exact o1
  · intro i e x he hx
    rcases Nat.lt_or_ge i D.length with hi | hi
    · rw [List.getElem?_append_left hi] at he
      rw [List.getElem?_append_left (by rw [h.1]; exact hi)] at hx
      exact ownS_upd (h.2.2.1 i e x he hx) u1 (hne _ _ _ (h.2.2.1 i e x he hx))
    · rw [List.getElem?_append_right hi] at he
      rw [List.getElem?_append_right (by rw [h.1]; exact hi)] at hx
      have h0 : i - D.length = 0 := by
        have := (List.getElem?_eq_some_iff.1 he).1
        simpa using this
      rw [h0] at he
      rw [h.1, h0] at hx
      simp at he hx
      subst he hx
      exact ownS_upd hv u1 (hne _ _ _ hv)
  · intro i j x y k hx hy hk1 hk2
    rcases Nat.lt_or_ge i vs.length with hi | hi <;> rcases Nat.lt_or_ge j vs.length with hj | hj
    · rw [List.getElem?_append_left hi] at hx
      rw [List.getElem?_append_left hj] at hy
      exact h.2.2.2 i j x y k hx hy hk1 hk2
    · rw [List.getElem?_append_left hi] at hx
      rw [List.getElem?_append_right hj] at hy
      have h0 : j - vs.length = 0 := by
        have := (List.getElem?_eq_some_iff.1 hy).1
        simpa using this
      rw [h0] at hy
      simp at hy
      subst hy
      exact absurd hk2 (hn i x k hx hk1)
    · rw [List.getElem?_append_right hi] at hx
      rw [List.getElem?_append_left hj] at hy
      have h0 : i - vs.length = 0 := by
        have := (List.getElem?_eq_some_iff.1 hx).1
        simpa using this
      rw [h0] at hx
      simp at hx
      subst hx
      exact absurd hk1 (hn j y k hy hk2)
    · have e1 := (List.getElem?_eq_some_iff.1 hx).1
      have e2 := (List.getElem?_eq_some_iff.1 hy).1
      simp at e1 e2
      omega
end Go.Proofs.Ytokepgimjdalaaa
