/- What TokensApart holds in memory: lists that were handed out, and copies of them. -/
import Derived.Test.YtoodafhljgdghaaRa
import Derived.Laws.OwnMore
import Derived.ArgAppend
namespace Go.Proofs.Ytoodafhljgdghaa
open Go.RowKit
set_option linter.unusedVariables false

theorem info23 : (Try.prog.info? 23).map (fun i => (i.zero, i.size, i.bytes)) = some (some (.slice none 0 0), 1, 24) := by kernel_rfl
theorem own_mono {w : World} {B B' n c : Nat} {e : TypeId} {v : Value} {xs : List Value} (h : w.ownsRow B e c v n xs) (hB : B' ≤ B) : w.ownsRow B' e c v n xs := by
  refine ⟨h.1, ?_⟩
  rcases h.2 with h0 | ⟨g, cap, cur, h1, h2, r⟩
  · exact .inl h0
  · exact .inr ⟨g, cap, cur, h1, Nat.le_trans hB h2, r⟩
/-- append(v, x, y). -/
theorem RowE.push2 {B N : Nat} {w : World} {v : Value} {F : Nat → Value} (h : RowE 23 B w v N F) (hx : (F N).oneCell' = true) (hy : (F (N + 1)).oneCell' = true) (hN : N ≤ 1000) (hB : B ≤ w.heap.size) :
    ∃ g cap w', (Builtin.append_ #[32, 32] 32 #[v, .slice (some ⟨w.heap.size, 0, none⟩) 2 2]).run Try.prog (w.alloc (.cells #[F N, F (N + 1)] 23)) = .ok (.slice (some ⟨g, 0, none⟩) (N + 2) cap) w' ∧
      RowE 23 B w' (.slice (some ⟨g, 0, none⟩) (N + 2) cap) (N + 2) F ∧ Upd (fun k => v.ownBlock = some k) w w' ∧ (v.ownBlock = some g ∨ w.heap.size ≤ g) := by
  obtain ⟨i0, hi, hz0, hz1, hz2⟩ := info_parts info23
  have hsz : (w.alloc (.cells #[F N, F (N + 1)] 23)).heap.size = w.heap.size + 1 := by simp
  obtain ⟨g, cap, w', h1, h2, h3, h4, h5⟩ := run_append_lies (P := Try.prog) (w.alloc (.cells #[F N, F (N + 1)] 23)) 32 32 B 23 i0 (.slice none 0 0) 1 24 Try.underlying32 hi hz0 hz1 hz2 rfl (by decide) v N _ (World.ownsRow.alloc h _) ⟨w.heap.size, 0, none⟩ 2 2 [F N, F (N + 1)] rfl
    (fun j u hj => by
      rw [add_none, Nat.zero_add, (Blk.newA w #[F N, F (N + 1)] 23).cell]
      exact hj)
    (fun u hu => by simp at hu; rcases hu with rfl | rfl <;> assumption) (by decide) (by unfold maxLen; omega) (by omega) (by omega) _ rfl
  refine ⟨g, cap, w', h1, ?_, ((Upd.refl _ w).alloc _).grown h3 (fun k hk => .inl hk), ?_⟩
  · unfold RowE
    rw [List.range_succ, List.range_succ, List.map_append, List.map_append, List.append_assoc]
    exact h2
  · rcases h4 with h4 | h4
    · exact .inl h4
    · exact .inr (by omega)
theorem cellsT_one' (ts : List Tk) : ∀ u ∈ cellsT ts, u.oneCell' = true := by
  intro u hu
  unfold cellsT at hu
  obtain ⟨t, _, ht⟩ := List.mem_flatMap.1 hu
  simp [tkc] at ht
  rcases ht with rfl | rfl | rfl | rfl | rfl <;> rfl
/-- append(nil, x...). -/
theorem run_copyT (w : World) (B : Nat) (v : Value) (ts : List Tk) (h : w.ownsRow B 34 5 v ts.length (cellsT ts)) (hm : ts.length ≤ 2000000) :
    ∃ v' w', (Builtin.append_ #[23, 23] 23 #[.slice none 0 0, v]).run Try.prog w = .ok v' w' ∧ w'.ownsRow w.heap.size 34 5 v' ts.length (cellsT ts) ∧ Below w.heap.size w w' := by
  obtain ⟨i0, hi, hz0, hz1, hz2⟩ := info_parts (P := Try.prog) (e := 34) (z := .agg #[.int .i64 0, .string ⟨#[]⟩, .int .i64 0, .int .i64 0, .int .i64 0]) (size := 5) (bytes := 48) (by kernel_rfl)
  rcases h.2 with ⟨rfl, h0⟩ | ⟨g, cap, cur, rfl, hb, hg, hnc, hcm, hcs, htake⟩
  · refine ⟨.slice none 0 0, w, ?_, ?_, Below.refl _ _⟩
    · simp [Builtin.append_, run_underlying Try.underlying23, sizeOf, typeInfo, hi, Builtin.lenOf, Builtin.firstCells]
    · rw [h0]
      have : ts = [] := List.eq_nil_of_length_eq_zero h0
      subst this
      exact World.ownsRow_nil _ _ _ _
  · have hbk : Blk w g 34 cur.toList := by unfold Blk; rw [Array.toArray_toList]; exact hg
    obtain ⟨v', w', h1, h2, h3, _⟩ := run_append_own (P := Try.prog) w w.heap.size 23 23 34 i0 (.agg #[.int .i64 0, .string ⟨#[]⟩, .int .i64 0, .int .i64 0, .int .i64 0]) 5 48 Try.underlying23 hi hz0 hz1 hz2 rfl (by decide) (.slice none 0 0) 0 [] (World.ownsRow_nil _ _ _ _) ⟨g, 0, none⟩ ts.length cap (cellsT ts)
      (by rw [cellsT_len]) (fun j u hj => by
        rw [add_none, Nat.zero_add, hbk.cell]
        rw [← htake, List.getElem?_take] at hj
        split at hj
        · exact hj
        · cases hj) (cellsT_one' ts) (by unfold maxLen; omega) (by omega) (Nat.le_refl _)
    rw [Nat.zero_add, List.nil_append] at h2
    exact ⟨v', w', h1, h2, ((Upd.refl (fun _ => False) w).grown h3 (fun k hk => by cases hk)).below _ (Nat.le_refl _) (fun _ h => h.elim)⟩
theorem own_one {w : World} {B n c : Nat} {e : TypeId} {v : Value} {xs : List Value} (h : w.ownsRow B e c v n xs) : v.oneCell' = true := by
  rcases h.2 with ⟨rfl, _⟩ | ⟨g, cap, cur, rfl, _⟩ <;> rfl

/-- NG lists, nG of them in got; NW copies, nW of them in was. -/
structure Gs (B : Nat) (w : World) (vG vW : Value) (nG NG nW NW : Nat) (F H : Nat → Value) (L : Nat → List Tk) : Prop where
  rG : RowE 23 B w vG nG F
  rW : RowE 23 B w vW nW H
  oG : ∀ j, j < NG → w.ownsRow B 34 5 (F j) (L j).length (cellsT (L j))
  oW : ∀ j, j < NW → w.ownsRow B 34 5 (H j) (L j).length (cellsT (L j))
  dG : ∀ i j k, i < NG → j < NG → i ≠ j → (F i).ownBlock = some k → (F j).ownBlock ≠ some k
  ne : ∀ k, vG.ownBlock = some k → vW.ownBlock ≠ some k
  few : ∀ j, j < NG → (L j).length ≤ 65536
  hB : B ≤ w.heap.size
section
variable {B : Nat} {w w' : World} {vG vW : Value} {nG NG nW NW : Nat} {F H : Nat → Value} {L : Nat → List Tk}
theorem Gs.nil (w : World) (hB : B ≤ w.heap.size) : Gs B w (.slice none 0 0) (.slice none 0 0) 0 0 0 0 F H L :=
  ⟨RowE.nil _ _ _ _, RowE.nil _ _ _ _, fun j hj => by omega, fun j hj => by omega, fun i j k hi => by omega, fun k hk => by simp [Value.ownBlock] at hk, fun j hj => by omega, hB⟩
theorem Gs.later (h : Gs B w vG vW nG NG nW NW F H L) (hB : Below w.heap.size w w') : Gs B w' vG vW nG NG nW NW F H L :=
  ⟨h.rG.later hB, h.rW.later hB, fun j hj => ownS_upd (h.oG j hj) (Upd.of_below (S := fun _ => False) hB) (fun _ _ h => h), fun j hj => ownS_upd (h.oW j hj) (Upd.of_below (S := fun _ => False) hB) (fun _ _ h => h), h.dG, h.ne, h.few, Nat.le_trans h.hB hB.size⟩
theorem Gs.moreG (h : Gs B w vG vW nG NG nW NW F H L) (hB : Below w.heap.size w w') (hn : nG ≤ NG) (hW : NW ≤ NG) {x : Value} {ts : List Tk} (ho : w'.ownsRow w.heap.size 34 5 x ts.length (cellsT ts)) (hf : ts.length ≤ 65536) : Gs B w' vG vW nG (NG + 1) nW NW (ext F NG x) H (ext L NG ts) := by
  have h' := h.later hB
  refine ⟨h'.rG.congr (fun j hj => by rw [ext_ne _ _ _ _ (by omega)]), h'.rW, fun j hj => ?_, fun j hj => by rw [ext_ne _ _ _ _ (by omega)]; exact h'.oW j hj, fun i j k hi hj hij hk hk2 => ?_, h.ne, fun j hj => ?_, h'.hB⟩
  · by_cases hN : j = NG
    · subst hN; rw [ext_at, ext_at]; exact own_mono ho h.hB
    · rw [ext_ne _ _ _ _ hN, ext_ne _ _ _ _ hN]; exact h'.oG j (by omega)
  · by_cases hi2 : i = NG
    · rw [hi2, ext_at] at hk
      rw [ext_ne _ _ _ _ (by omega)] at hk2
      have h1 := (ho.lt k hk).1
      have h2 := ((h.oG j (by omega)).lt k hk2).2
      omega
    · rw [ext_ne _ _ _ _ hi2] at hk
      by_cases hj2 : j = NG
      · rw [hj2, ext_at] at hk2
        have h1 := (ho.lt k hk2).1
        have h2 := ((h.oG i (by omega)).lt k hk).2
        omega
      · rw [ext_ne _ _ _ _ hj2] at hk2
        exact h.dG i j k (by omega) (by omega) hij hk hk2
  · by_cases hN : j = NG
    · subst hN; rw [ext_at]; exact hf
    · rw [ext_ne _ _ _ _ hN]; exact h.few j (by omega)
theorem Gs.moreW (h : Gs B w vG vW nG NG nW NW F H L) (hB : Below w.heap.size w w') (hn : nW ≤ NW) {x : Value} (ho : w'.ownsRow w.heap.size 34 5 x (L NW).length (cellsT (L NW))) : Gs B w' vG vW nG NG nW (NW + 1) F (ext H NW x) L := by
  have h' := h.later hB
  refine ⟨h'.rG, h'.rW.congr (fun j hj => by rw [ext_ne _ _ _ _ (by omega)]), h'.oG, fun j hj => ?_, h.dG, h.ne, h.few, h'.hB⟩
  by_cases hN : j = NW
  · subst hN; rw [ext_at]; exact own_mono ho h.hB
  · rw [ext_ne _ _ _ _ hN]; exact h'.oW j (by omega)
theorem Gs.pushG (h : Gs B w vG vW nG NG nW NW F H L) (hn : nG + 2 ≤ NG) (hN : nG ≤ 1000) :
    ∃ g cap w', (Builtin.append_ #[32, 32] 32 #[vG, .slice (some ⟨w.heap.size, 0, none⟩) 2 2]).run Try.prog (w.alloc (.cells #[F nG, F (nG + 1)] 23)) = .ok (.slice (some ⟨g, 0, none⟩) (nG + 2) cap) w' ∧ Gs B w' (.slice (some ⟨g, 0, none⟩) (nG + 2) cap) vW (nG + 2) NG nW NW F H L ∧ Below B w w' ∧ (∀ q t xs, t ≠ 23 → Blk w q t xs → Blk w' q t xs) := by
  obtain ⟨g, cap, w', r, hr, hu, hl⟩ := h.rG.push2 (own_one (h.oG _ (by omega))) (own_one (h.oG _ (by omega))) hN h.hB
  have hk : ∀ q t xs, t ≠ 23 → Blk w q t xs → Blk w' q t xs := fun q t xs ht hq => hq.upd hu fun e => by
    obtain ⟨zs, hz⟩ := ownS_type h.rG e
    exact ht (blk_type hq hz)
  have hne : ∀ {v : Value} {n : Nat} {xs : List Value}, w.ownsRow B 34 5 v n xs → w'.ownsRow B 34 5 v n xs := fun ho => ownS_upd ho hu fun k hk e => by
    obtain ⟨zs, hz⟩ := ownS_type h.rG e
    obtain ⟨ys, hy⟩ := ownS_type ho hk
    exact absurd (blk_type hy hz) (by decide)
  refine ⟨g, cap, w', r, ⟨hr, h.rW.upd hu (fun k hk e => h.ne k e hk), fun j hj => hne (h.oG j hj), fun j hj => hne (h.oW j hj), h.dG, fun k hk hk2 => ?_, h.few, Nat.le_trans h.hB hu.size⟩, hu.below B h.hB (fun k hk => (h.rG.lt k hk).1), hk⟩
  have e : g = k := own_is hk
  rcases hl with e1 | e1
  · exact h.ne k (by rw [e1, e]) hk2
  · have := (h.rW.lt k hk2).2; omega
theorem Gs.pushW (h : Gs B w vG vW nG NG nW NW F H L) (hn : nW + 2 ≤ NW) (hN : nW ≤ 1000) :
    ∃ g cap w', (Builtin.append_ #[32, 32] 32 #[vW, .slice (some ⟨w.heap.size, 0, none⟩) 2 2]).run Try.prog (w.alloc (.cells #[H nW, H (nW + 1)] 23)) = .ok (.slice (some ⟨g, 0, none⟩) (nW + 2) cap) w' ∧ Gs B w' vG (.slice (some ⟨g, 0, none⟩) (nW + 2) cap) nG NG (nW + 2) NW F H L ∧ Below B w w' ∧ (∀ q t xs, t ≠ 23 → Blk w q t xs → Blk w' q t xs) := by
  obtain ⟨g, cap, w', r, hr, hu, hl⟩ := h.rW.push2 (own_one (h.oW _ (by omega))) (own_one (h.oW _ (by omega))) hN h.hB
  have hk : ∀ q t xs, t ≠ 23 → Blk w q t xs → Blk w' q t xs := fun q t xs ht hq => hq.upd hu fun e => by
    obtain ⟨zs, hz⟩ := ownS_type h.rW e
    exact ht (blk_type hq hz)
  have hne : ∀ {v : Value} {n : Nat} {xs : List Value}, w.ownsRow B 34 5 v n xs → w'.ownsRow B 34 5 v n xs := fun ho => ownS_upd ho hu fun k hk e => by
    obtain ⟨zs, hz⟩ := ownS_type h.rW e
    obtain ⟨ys, hy⟩ := ownS_type ho hk
    exact absurd (blk_type hy hz) (by decide)
  refine ⟨g, cap, w', r, ⟨h.rG.upd hu (fun k hk e => h.ne k hk e), hr, fun j hj => hne (h.oG j hj), fun j hj => hne (h.oW j hj), h.dG, fun k hk hk2 => ?_, h.few, Nat.le_trans h.hB hu.size⟩, hu.below B h.hB (fun k hk => (h.rW.lt k hk).1), hk⟩
  have e : g = k := own_is hk2
  rcases hl with e1 | e1
  · exact h.ne k hk (by rw [e1, e])
  · have := (h.rG.lt k hk).2; omega
end
end Go.Proofs.Ytoodafhljgdghaa
