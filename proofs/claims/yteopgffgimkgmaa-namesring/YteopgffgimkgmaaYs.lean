/- What NamesOwn holds in memory: lists that were handed out, and copies of them. -/
import Derived.Test.YteopgffgimkgmaaYq
import Derived.Laws.OwnMore
import Derived.ArgAppend
namespace Go.Proofs.Yteopgffgimkgmaa
open Go.RowKit
set_option linter.unusedVariables false

theorem infoI : (Try.prog.info? 26).map (fun i => (i.zero, i.size, i.bytes)) = some (some (.slice none 0 0), 1, 24) := by kernel_rfl
theorem own_mono {w : World} {B B' n c : Nat} {e : TypeId} {v : Value} {xs : List Value} (h : w.ownsRow B e c v n xs) (hB : B' ≤ B) : w.ownsRow B' e c v n xs := by
  refine ⟨h.1, ?_⟩
  rcases h.2 with h0 | ⟨g, cap, cur, h1, h2, r⟩
  · exact .inl h0
  · exact .inr ⟨g, cap, cur, h1, Nat.le_trans hB h2, r⟩
set_option maxRecDepth 100000 in
/-- append(v, x, y). -/
theorem RowE.push2 {B N : Nat} {w : World} {v : Value} {F : Nat → Value} (h : RowE 26 B w v N F) (hx : (F N).oneCell' = true) (hy : (F (N + 1)).oneCell' = true) (hN : N ≤ 1000) (hB : B ≤ w.heap.size) :
    ∃ g cap w', (Builtin.append_ #[43, 43] 43 #[v, .slice (some ⟨w.heap.size, 0, none⟩) 2 2]).run Try.prog (w.alloc (.cells #[F N, F (N + 1)] 26)) = .ok (.slice (some ⟨g, 0, none⟩) (N + 2) cap) w' ∧
      RowE 26 B w' (.slice (some ⟨g, 0, none⟩) (N + 2) cap) (N + 2) F ∧ Upd (fun k => v.ownBlock = some k) w w' ∧ (v.ownBlock = some g ∨ w.heap.size ≤ g) := by
  obtain ⟨i0, hi, hz0, hz1, hz2⟩ := info_parts infoI
  have hsz : (w.alloc (.cells #[F N, F (N + 1)] 26)).heap.size = w.heap.size + 1 := by simp
  obtain ⟨g, cap, w', h1, h2, h3, h4, h5⟩ := run_append_lies (P := Try.prog) (w.alloc (.cells #[F N, F (N + 1)] 26)) 43 43 B 26 i0 (.slice none 0 0) 1 24 Try.underlying43 hi hz0 hz1 hz2 rfl (by decide) v N _ (World.ownsRow.alloc h _) ⟨w.heap.size, 0, none⟩ 2 2 [F N, F (N + 1)] rfl
    (fun j u hj => by
      rw [add_none, Nat.zero_add, (Blk.newA w #[F N, F (N + 1)] 26).cell]
      exact hj)
    (fun u hu => by simp at hu; rcases hu with rfl | rfl <;> assumption) (by decide) (by unfold maxLen; omega) (by omega) (by omega) _ rfl
  refine ⟨g, cap, w', h1, ?_, ((Upd.refl _ w).alloc _).grown h3 (fun k hk => .inl hk), ?_⟩
  · unfold RowE
    rw [List.range_succ, List.range_succ, List.map_append, List.map_append, List.append_assoc]
    exact h2
  · rcases h4 with h4 | h4
    · exact .inl h4
    · exact .inr (by omega)
theorem own_form {B n c : Nat} {w : World} {v : Value} {e : TypeId} {xs : List Value} (h : w.ownsRow B e c v n xs) : ∃ a cap, v = .slice a n cap := by
  rcases h.2 with ⟨rfl, h0⟩ | ⟨g, cap, cur, rfl, _⟩
  · exact ⟨none, 0, by rw [h0]⟩
  · exact ⟨_, cap, rfl⟩
theorem RowE.form {B N : Nat} {w : World} {v : Value} {F : Nat → Value} {e : TypeId} (h : RowE e B w v N F) : ∃ a cap, v = .slice a N cap := own_form h
/-- append(nil, x...). -/
theorem run_copyI (w : World) (B : Nat) (v : Value) (ts : List Int) (h : w.ownsRow B 3 1 v ts.length (cellsL .i64 ts)) (hm : ts.length ≤ 2000000) :
    ∃ a' c' w', (Builtin.append_ #[26, 26] 26 #[.slice none 0 0, v]).run Try.prog w = .ok (.slice a' ts.length c') w' ∧ w'.ownsRow w.heap.size 3 1 (.slice a' ts.length c') ts.length (cellsL .i64 ts) ∧ Below w.heap.size w w' := by
  obtain ⟨a, c, rfl, hrow, hnil, -⟩ := own_open h rfl
  obtain ⟨v', w', h1, h2, h3⟩ := run_copy EInt w 26 w.heap.size a ts.length c ts rfl hrow hnil (by unfold maxLen; omega) (by omega) (Nat.le_refl _)
  obtain ⟨a', c', rfl⟩ := own_form h2
  exact ⟨a', c', w', h1, h2, ((Upd.refl (fun _ => False) w).grown h3 (fun k hk => by cases hk)).below _ (Nat.le_refl _) (fun _ h => h.elim)⟩
theorem own_one {w : World} {B n c : Nat} {e : TypeId} {v : Value} {xs : List Value} (h : w.ownsRow B e c v n xs) : v.oneCell' = true := by
  rcases h.2 with ⟨rfl, _⟩ | ⟨g, cap, cur, rfl, _⟩ <;> rfl

/-- NG lists, nG of them in got; NW copies, nW of them in was. -/
structure Gs (B : Nat) (w : World) (vG vW : Value) (nG NG nW NW : Nat) (F H : Nat → Value) (L : Nat → List Int) : Prop where
  rG : RowE 26 B w vG nG F
  rW : RowE 26 B w vW nW H
  oG : ∀ j, j < NG → w.ownsRow B 3 1 (F j) (L j).length (cellsL .i64 (L j))
  oW : ∀ j, j < NW → w.ownsRow B 3 1 (H j) (L j).length (cellsL .i64 (L j))
  dG : ∀ i j k, i < NG → j < NG → i ≠ j → (F i).ownBlock = some k → (F j).ownBlock ≠ some k
  ne : ∀ k, vG.ownBlock = some k → vW.ownBlock ≠ some k
  few : ∀ j, j < NG → (L j).length ≤ 65536
  hB : B ≤ w.heap.size
section
variable {B : Nat} {w w' : World} {vG vW : Value} {nG NG nW NW : Nat} {F H : Nat → Value} {L : Nat → List Int}
theorem Gs.nil (w : World) (hB : B ≤ w.heap.size) : Gs B w (.slice none 0 0) (.slice none 0 0) 0 0 0 0 F H L :=
  ⟨RowE.nil _ _ _ _, RowE.nil _ _ _ _, fun j hj => by omega, fun j hj => by omega, fun i j k hi => by omega, fun k hk => by simp [Value.ownBlock] at hk, fun j hj => by omega, hB⟩
theorem Gs.later (h : Gs B w vG vW nG NG nW NW F H L) (hB : Below w.heap.size w w') : Gs B w' vG vW nG NG nW NW F H L :=
  ⟨h.rG.later hB, h.rW.later hB, fun j hj => ownS_upd (h.oG j hj) (Upd.of_below (S := fun _ => False) hB) (fun _ _ h => h), fun j hj => ownS_upd (h.oW j hj) (Upd.of_below (S := fun _ => False) hB) (fun _ _ h => h), h.dG, h.ne, h.few, Nat.le_trans h.hB hB.size⟩
theorem Gs.moreG (h : Gs B w vG vW nG NG nW NW F H L) (hB : Below w.heap.size w w') (hn : nG ≤ NG) (hW : NW ≤ NG) {x : Value} {ts : List Int} (ho : w'.ownsRow w.heap.size 3 1 x ts.length (cellsL .i64 ts)) (hf : ts.length ≤ 65536) : Gs B w' vG vW nG (NG + 1) nW NW (ext F NG x) H (ext L NG ts) := by
  have h' := h.later hB
  refine ⟨h'.rG.congr (fun j hj => by rw [ext_ne _ _ _ _ (by omega)]), h'.rW, fun j hj => ?_, fun j hj => by rw [ext_ne _ _ _ _ (by omega)]; exact h'.oW j hj, fun i j k hi hj hij hk hk2 => ?_, h.ne, fun j hj => ?_, h'.hB⟩
  · by_cases hN : j = NG
    · subst hN; rw [ext_at, ext_at]; exact own_mono ho h.hB
    · rw [ext_ne _ _ _ _ hN, ext_ne _ _ _ _ hN]; exact h'.oG j (by omega)
  · by_cases hi2 : i = NG
    · rw [hi2, ext_at] at hk
      rw [ext_ne _ _ _ _ (by omega)] at hk2
      have h1 := (ho.lt k hk).1
      have h2 := ((h.oG j (by omega)).lt k hk2).2
      omega
    · rw [ext_ne _ _ _ _ hi2] at hk
      by_cases hj2 : j = NG
      · rw [hj2, ext_at] at hk2
        have h1 := (ho.lt k hk2).1
        have h2 := ((h.oG i (by omega)).lt k hk).2
        omega
      · rw [ext_ne _ _ _ _ hj2] at hk2
        exact h.dG i j k (by omega) (by omega) hij hk hk2
  · by_cases hN : j = NG
    · subst hN; rw [ext_at]; exact hf
    · rw [ext_ne _ _ _ _ hN]; exact h.few j (by omega)
theorem Gs.moreW (h : Gs B w vG vW nG NG nW NW F H L) (hB : Below w.heap.size w w') (hn : nW ≤ NW) {x : Value} (ho : w'.ownsRow w.heap.size 3 1 x (L NW).length (cellsL .i64 (L NW))) : Gs B w' vG vW nG NG nW (NW + 1) F (ext H NW x) L := by
  have h' := h.later hB
  refine ⟨h'.rG, h'.rW.congr (fun j hj => by rw [ext_ne _ _ _ _ (by omega)]), h'.oG, fun j hj => ?_, h.dG, h.ne, h.few, h'.hB⟩
  by_cases hN : j = NW
  · subst hN; rw [ext_at]; exact own_mono ho h.hB
  · rw [ext_ne _ _ _ _ hN]; exact h'.oW j (by omega)
theorem Gs.pushG (h : Gs B w vG vW nG NG nW NW F H L) (hn : nG + 2 ≤ NG) (hN : nG ≤ 1000) :
    ∃ g cap w', (Builtin.append_ #[43, 43] 43 #[vG, .slice (some ⟨w.heap.size, 0, none⟩) 2 2]).run Try.prog (w.alloc (.cells #[F nG, F (nG + 1)] 26)) = .ok (.slice (some ⟨g, 0, none⟩) (nG + 2) cap) w' ∧ Gs B w' (.slice (some ⟨g, 0, none⟩) (nG + 2) cap) vW (nG + 2) NG nW NW F H L ∧ Below B w w' ∧ (∀ q t xs, t ≠ 26 → Blk w q t xs → Blk w' q t xs) := by
  obtain ⟨g, cap, w', r, hr, hu, hl⟩ := h.rG.push2 (own_one (h.oG _ (by omega))) (own_one (h.oG _ (by omega))) hN h.hB
  have hk : ∀ q t xs, t ≠ 26 → Blk w q t xs → Blk w' q t xs := fun q t xs ht hq => hq.upd hu fun e => by
    obtain ⟨zs, hz⟩ := ownS_type h.rG e
    exact ht (blk_type hq hz)
  have hne : ∀ {v : Value} {n : Nat} {xs : List Value}, w.ownsRow B 3 1 v n xs → w'.ownsRow B 3 1 v n xs := fun ho => ownS_upd ho hu fun k hk e => by
    obtain ⟨zs, hz⟩ := ownS_type h.rG e
    obtain ⟨ys, hy⟩ := ownS_type ho hk
    exact absurd (blk_type hy hz) (by decide)
  refine ⟨g, cap, w', r, ⟨hr, h.rW.upd hu (fun k hk e => h.ne k e hk), fun j hj => hne (h.oG j hj), fun j hj => hne (h.oW j hj), h.dG, fun k hk hk2 => ?_, h.few, Nat.le_trans h.hB hu.size⟩, hu.below B h.hB (fun k hk => (h.rG.lt k hk).1), hk⟩
  have e : g = k := own_is hk
  rcases hl with e1 | e1
  · exact h.ne k (by rw [e1, e]) hk2
  · have := (h.rW.lt k hk2).2; omega
theorem Gs.pushW (h : Gs B w vG vW nG NG nW NW F H L) (hn : nW + 2 ≤ NW) (hN : nW ≤ 1000) :
    ∃ g cap w', (Builtin.append_ #[43, 43] 43 #[vW, .slice (some ⟨w.heap.size, 0, none⟩) 2 2]).run Try.prog (w.alloc (.cells #[H nW, H (nW + 1)] 26)) = .ok (.slice (some ⟨g, 0, none⟩) (nW + 2) cap) w' ∧ Gs B w' vG (.slice (some ⟨g, 0, none⟩) (nW + 2) cap) nG NG (nW + 2) NW F H L ∧ Below B w w' ∧ (∀ q t xs, t ≠ 26 → Blk w q t xs → Blk w' q t xs) := by
  obtain ⟨g, cap, w', r, hr, hu, hl⟩ := h.rW.push2 (own_one (h.oW _ (by omega))) (own_one (h.oW _ (by omega))) hN h.hB
  have hk : ∀ q t xs, t ≠ 26 → Blk w q t xs → Blk w' q t xs := fun q t xs ht hq => hq.upd hu fun e => by
    obtain ⟨zs, hz⟩ := ownS_type h.rW e
    exact ht (blk_type hq hz)
  have hne : ∀ {v : Value} {n : Nat} {xs : List Value}, w.ownsRow B 3 1 v n xs → w'.ownsRow B 3 1 v n xs := fun ho => ownS_upd ho hu fun k hk e => by
    obtain ⟨zs, hz⟩ := ownS_type h.rW e
    obtain ⟨ys, hy⟩ := ownS_type ho hk
    exact absurd (blk_type hy hz) (by decide)
  refine ⟨g, cap, w', r, ⟨h.rG.upd hu (fun k hk e => h.ne k hk e), hr, fun j hj => hne (h.oG j hj), fun j hj => hne (h.oW j hj), h.dG, fun k hk hk2 => ?_, h.few, Nat.le_trans h.hB hu.size⟩, hu.below B h.hB (fun k hk => (h.rW.lt k hk).1), hk⟩
  have e : g = k := own_is hk2
  rcases hl with e1 | e1
  · exact h.ne k hk (by rw [e1, e])
  · have := (h.rG.lt k hk).2; omega
end
theorem look_few {D : List Df} {E A : Int} {o : List Nat} {ds : List Int} (h : LookTo D E A o ds) (hW : Wt D) : o.length ≤ 256 ∧ ds.length ≤ 256 := by
  by_cases hE : E = 0
  · subst hE
    obtain ⟨hG, -⟩ := h.zero
    obtain ⟨hD, -⟩ := df_ok hG.ck hW
    have h1 := hG.len
    have h2 := hG.dep.1
    omega
  · obtain ⟨rfl, rfl⟩ := h.err hE
    simp
end Go.Proofs.Yteopgffgimkgmaa
