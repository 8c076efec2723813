import Derived.Test.YtlbgdgobhiokpaaDoorPart09
import Derived.Test.YtlbgdgobhiokpaaDoorPart04
import Derived.Test.YtlbgdgobhiokpaaDoorPart11
import Derived.Test.YtlbgdgobhiokpaaDoorPart05
import Derived.Test.YtlbgdgobhiokpaaDoorPart07
import Derived.BigRegion

/- The document's reader: its nodes; value where no text goes on. -/
namespace Go.Proofs.YtlbgdgobhiokpaaDoor
open Go.RowKit
set_option linter.unusedVariables false

section
variable {B b o : Nat} {w w' w1 : World} {s : ByteArray} {p : Nat} {vn v : Value} {N : List Nd} {bad : Bool}
theorem RdD.node (h : RdD B w b s p vn N bad) (ho : o < N.length) :
    ∃ gn cn, vn = .slice (some ⟨gn, 0, none⟩) N.length cn ∧ B ≤ gn ∧ N.length ≤ cn ∧ cn ≤ maxLen ∧ gn < w.heap.size ∧ w.cell? ⟨gn, o * 3, none⟩ = some (.int .i64 (N.getD o nil0).1) ∧ w.cell? ⟨gn, o * 3 + 1, none⟩ = some (.int .u64 (N.getD o nil0).2.1) ∧ w.cell? ⟨gn, o * 3 + 2, none⟩ = some (.int .i64 (N.getD o nil0).2.2) ∧
      w.frozen? ⟨gn, o * 3 + 1, none⟩ = false ∧ w.frozen? ⟨gn, o * 3 + 2, none⟩ = false ∧ ∃ ys, Blk w gn 37 ys := by
  obtain ⟨g, cap, ys, e, hb, hn, hm, hl, ht, hK⟩ := ownS_blk h.nod (by omega)
  have hat : ∀ i, i < N.length * 3 → ys[i]? = (cellsN N)[i]? := fun i hi => by rw [← ht, List.getElem?_take, if_pos hi]
  obtain ⟨c0, c1, c2⟩ := cellsN_at N o ho
  exact ⟨g, cap, e, hb, hn, hm, hK.lt, by rw [hK.cell, hat _ (by omega), c0], by rw [hK.cell, hat _ (by omega), c1], by rw [hK.cell, hat _ (by omega), c2], hK.frozen _, hK.frozen _, ys, hK⟩
theorem RdD.setk (h : RdD B w b s p vn N bad) (ho : o < N.length) {gn cn : Nat} (hv : vn = .slice (some ⟨gn, 0, none⟩) N.length cn) (c : Int) :
    RdD B (w.setCell ⟨gn, o * 3 + 2, none⟩ (.int .i64 c)) b s p vn (N.set o ((N.getD o nil0).1, (N.getD o nil0).2.1, c)) bad ∧ KeptD B w (w.setCell ⟨gn, o * 3 + 2, none⟩ (.int .i64 c)) := by
  obtain ⟨g, cap, ys, e, hb, hn, hm, hl, ht, hK⟩ := ownS_blk h.nod (by omega)
  rw [hv] at e
  have e1 : gn = g ∧ cn = cap := by simpa using e
  obtain ⟨rfl, rfl⟩ := e1
  subst hv
  refine ⟨⟨h.blk.other _ _ fun e => ?_, h.hb, ?_⟩, keptD_cell hK hb (.inr rfl)⟩
  · have e2 : b = gn := e
    subst e2
    exact absurd (blk_type h.blk hK) (by decide)
  · have h2 := ownS_of_blk (n := N.length) (c := 3) (hK.set (o * 3 + 2) (.int .i64 c)) hb (by simpa using hl) hn hm
    rw [List.take_set, ht, cellsN_set N o _ ho] at h2
    rw [List.length_set]
    exact h2
theorem cellsN_setn : ∀ (N : List Nd) (i : Nat) (c : Int), i < N.length → (cellsN N).set (i * 3 + 1) (.int .u64 c) = cellsN (N.set i ((N.getD i nil0).1, c, (N.getD i nil0).2.2))
  | [], i, c, h => by simp at h
  | x :: N, 0, c, _ => by simp [cellsN, ndc]
  | x :: N, i + 1, c, h => by
    have ih := cellsN_setn N i c (by simpa using h)
    have e2 : ∀ y M, cellsN (y :: M) = ndc y ++ cellsN M := fun y M => by simp [cellsN]
    rw [List.set_cons_succ, e2, e2, List.set_append_right _ _ (by simp [ndc]; omega)]
    congr 1
    rw [show (i + 1) * 3 + 1 - (ndc x).length = i * 3 + 1 by simp [ndc]; omega]
    simpa using ih
theorem RdD.setn (h : RdD B w b s p vn N bad) (ho : o < N.length) {gn cn : Nat} (hv : vn = .slice (some ⟨gn, 0, none⟩) N.length cn) (c : Int) :
    RdD B (w.setCell ⟨gn, o * 3 + 1, none⟩ (.int .u64 c)) b s p vn (N.set o ((N.getD o nil0).1, c, (N.getD o nil0).2.2)) bad ∧ KeptD B w (w.setCell ⟨gn, o * 3 + 1, none⟩ (.int .u64 c)) := by
  obtain ⟨g, cap, ys, e, hb, hn, hm, hl, ht, hK⟩ := ownS_blk h.nod (by omega)
  rw [hv] at e
  have e1 : gn = g ∧ cn = cap := by simpa using e
  obtain ⟨rfl, rfl⟩ := e1
  subst hv
  refine ⟨⟨h.blk.other _ _ fun e => ?_, h.hb, ?_⟩, keptD_cell hK hb (.inr rfl)⟩
  · have e2 : b = gn := e
    subst e2
    exact absurd (blk_type h.blk hK) (by decide)
  · have h2 := ownS_of_blk (n := N.length) (c := 3) (hK.set (o * 3 + 1) (.int .u64 c)) hb (by simpa using hl) hn hm
    rw [List.take_set, ht, cellsN_setn N o _ ho] at h2
    rw [List.length_set]
    exact h2
theorem RdD.push (h : RdD B w b s p vn N bad) (k n kk : Int) (hN : N.length ≤ 2000000) :
    ∃ g cap w', (Builtin.append_ #[22, 22] 22 #[vn, .slice (some ⟨w.heap.size, 0, none⟩) 1 1]).run Tryd.prog (w.alloc (.cells #[.int .i64 k, .int .u64 n, .int .i64 kk] 37)) = .ok (.slice (some ⟨g, 0, none⟩) (N.length + 1) cap) w' ∧ w'.cell? ⟨b, 2, none⟩ = some vn ∧ w'.frozen? ⟨b, 2, none⟩ = false ∧ RdD B (w'.setCell ⟨b, 2, none⟩ (.slice (some ⟨g, 0, none⟩) (N.length + 1) cap)) b s p (.slice (some ⟨g, 0, none⟩) (N.length + 1) cap) (N ++ [(k, n, kk)]) bad ∧ KeptD B w (w'.setCell ⟨b, 2, none⟩ (.slice (some ⟨g, 0, none⟩) (N.length + 1) cap)) := by
  have hB := h.base
  obtain ⟨g, cap, w', r1, o1, u1, l1⟩ := run_pushS (P := Tryd.prog) (t := 22) (e := 37) (z := .agg #[.int .i64 0, .int .u64 0, .int .i64 0]) (bytes := 24) Tryd.underlying22 (by kernel_rfl) rfl (by decide) w 22 h.nod (ndc (k, n, kk)) rfl (by intro u hu; simp [ndc] at hu; rcases hu with rfl | rfl | rfl <;> rfl) (by unfold maxLen; omega) (by omega) hB
  have hb1 : Blk w' b 141 [.string s, .int .i64 p, vn, .bool bad] := h.blk.upd u1 fun hk => by
    obtain ⟨ys, hy⟩ := ownS_type h.nod hk
    exact absurd (blk_type h.blk hy) (by decide)
  have k1 : KeptD B w w' := ⟨u1.below B hB (fun k hk => (h.nod.lt k hk).1), fun q t xs h1 h2 hb => hb.upd u1 fun hk => by
    obtain ⟨ys, hy⟩ := ownS_type h.nod hk
    exact h2 (blk_type hb hy)⟩
  refine ⟨g, cap, w', r1, hb1.cell 2, hb1.frozen 2, ⟨hb1.set 2 _, h.hb, ?_⟩, k1.trans (keptD_cell hb1 h.hb (.inl rfl))⟩
  have h2 := own_far (i := 2) (u := .slice (some ⟨g, 0, none⟩) (N.length + 1) cap) o1 hb1 (by decide)
  rw [List.length_append, cellsN_append]
  exact h2
end
/-- What a value's reading leaves. -/
def ValD (B : Nat) (w w' : World) (b : Nat) (s : ByteArray) (p : Nat) (N : List Nd) (V : Nat × Option (List Nd)) : Prop :=
  match V with
  | (q, none) => ∃ vn' N', N.length ≤ N'.length ∧ N'.length ≤ q ∧ q ≤ s.size ∧ RdD B w' b s q vn' N' true ∧ KeptD B w w'
  | (q, some L) => ∃ vn', p < q ∧ N.length + L.length ≤ q ∧ q ≤ s.size ∧ RdD B w' b s q vn' (N ++ L) false ∧ KeptD B w w'
set_option maxRecDepth 100000 in
set_option maxHeartbeats 8000000 in
theorem valueD_bad (B b p : Nat) (s : ByteArray) (vn : Value) (N : List Nd) (w : World) (hR : Hid (RdD B w b s p vn N true)) :
    Calls Tryd.prog 76 #[.pointer (some ⟨b, 0, none⟩)] w fun e w' => e = .returned (.tuple #[]) ∧ Hid (RdD B w' b s p vn N true) ∧ Hid (KeptD B w w') := by
  have c3 := hR.out.c3
  have z3 := hR.out.blk.frozen 3
  go_enter Tryd.func76, Tryd.ntmps76
  go_wp2_with fail
  go_quiet (fail)
  go_wp2
  exact bodyPost_ret (results_none rfl _ _ _) rfl ⟨rfl, (hR.out.drewN _).setb true, ((KeptD.refl _ _).drewN _).trans ((hR.out.drewN _).keptb 3 _)⟩
end Go.Proofs.YtlbgdgobhiokpaaDoor

/- ValueExact's lent. -/
namespace Go.Proofs.YtlbgdgobhiokpaaDoor
open Go.RowKit
set_option linter.unusedVariables false

theorem cellsN_one (l : List Nd) : ∀ u ∈ cellsN l, u.oneCell' = true := by
  intro u hu
  simp only [cellsN, List.mem_flatMap] at hu
  obtain ⟨x, -, hx⟩ := hu
  simp [ndc] at hx
  rcases hx with rfl | rfl | rfl <;> rfl
theorem NRow.cells {w : World} {b off : Nat} {l : List Nd} (h : NRow w (some ⟨b, off, none⟩) l) (j : Nat) (u : Value) (hj : (cellsN l)[j]? = some u) : w.cell? ⟨b, off + j, none⟩ = some u := by
  have hlt : j < l.length * 3 := by
    have := (List.getElem?_eq_some_iff.1 hj).1
    rwa [cellsN_len] at this
  obtain ⟨b', off', e, -, hc⟩ := h.open (by omega)
  have e2 : b = b' ∧ off = off' := by simpa using e
  obtain ⟨rfl, rfl⟩ := e2
  have hi : j / 3 < l.length := by omega
  obtain ⟨c0, c1, c2⟩ := hc (j / 3) hi
  obtain ⟨a0, a1, a2⟩ := cellsN_at l (j / 3) hi
  have hr : j = j / 3 * 3 ∨ j = j / 3 * 3 + 1 ∨ j = j / 3 * 3 + 2 := by omega
  rcases hr with hr | hr | hr
  · rw [hr] at hj ⊢
    rw [a0] at hj
    rw [← hj]
    exact c0
  · rw [hr] at hj ⊢
    rw [a1] at hj
    rw [← hj]
    exact c1
  · rw [hr] at hj ⊢
    rw [a2] at hj
    rw [← hj]
    exact c2
theorem run_copyN (w : World) (B : Nat) (a : Option Addr) (m cap : Nat) (l : List Nd) (hl : l.length = m) (hrow : NRow w a l) (hnil : a = none → cap = 0) (hm : m ≤ 2000000) (hB : B ≤ w.heap.size) :
    ∃ v' w', (Builtin.append_ #[22, 22] 22 #[.slice none 0 0, .slice a m cap]).run Tryd.prog w = .ok v' w' ∧ w'.ownsRow B 37 3 v' m (cellsN l) ∧ w.grownBy w' none := by
  obtain ⟨i0, hi, hz0, hz1, hz2⟩ := info_parts (P := Tryd.prog) (e := 37) (z := .agg #[.int .i64 0, .int .u64 0, .int .i64 0]) (size := 3) (bytes := 24) (by kernel_rfl)
  subst hl
  rcases hrow with rfl | ⟨b, off, rfl, hb, hc⟩
  · cases a with
    | none =>
      obtain rfl := hnil rfl
      refine ⟨.slice none 0 0, w, ?_, World.ownsRow_nil _ _ _ _, ⟨rfl, rfl, rfl, Nat.le_refl _, fun _ _ _ => rfl⟩⟩
      simp [Builtin.append_, run_underlying Tryd.underlying22, sizeOf, typeInfo, hi, Builtin.lenOf, Builtin.firstCells]
    | some x =>
      obtain ⟨v', w', h1, h2, h3, _⟩ := run_append_own (P := Tryd.prog) w B 22 22 37 i0 (.agg #[.int .i64 0, .int .u64 0, .int .i64 0]) 3 24 Tryd.underlying22 hi hz0 hz1 hz2 rfl (by decide) (.slice none 0 0) 0 [] (World.ownsRow_nil _ _ _ _) x 0 cap []
        rfl (fun j u hj => by simp at hj) (fun u hu => by cases hu) (by unfold maxLen; omega) (by omega) hB
      exact ⟨v', w', h1, h2, h3⟩
  · obtain ⟨v', w', h1, h2, h3, _⟩ := run_append_own (P := Tryd.prog) w B 22 22 37 i0 (.agg #[.int .i64 0, .int .u64 0, .int .i64 0]) 3 24 Tryd.underlying22 hi hz0 hz1 hz2 rfl (by decide) (.slice none 0 0) 0 [] (World.ownsRow_nil _ _ _ _) ⟨b, off, none⟩ l.length cap (cellsN l)
      (by rw [cellsN_len]) (fun j u hj => by rw [add_none]; exact NRow.cells (.inr ⟨b, off, rfl, hb, hc⟩) j u hj) (cellsN_one l) (by unfold maxLen; omega) (by omega) hB
    rw [Nat.zero_add, List.nil_append] at h2
    exact ⟨v', w', h1, h2, h3⟩
/-- Nodes in memory of the statement's own, with a mark behind them. -/
def markN : Nd := (23130, 0, 0)
def LentTo (w w' : World) (e : Ending) (l : List Nd) : Prop := ∃ g cap, e = .returned (.slice (some ⟨g, 0, none⟩) l.length cap) ∧ w.heap.size ≤ g ∧ l.length + 1 ≤ cap ∧ w'.ownsRow w.heap.size 37 3 (.slice (some ⟨g, 0, none⟩) (l.length + 1) cap) (l.length + 1) (cellsN (l ++ [markN])) ∧ Below w.heap.size w w'
set_option maxRecDepth 100000 in
set_option maxHeartbeats 4000000 in
theorem lent_any (a : Option Addr) (n k : Nat) (l : List Nd) (w : World) (hl : l.length = n) (hn : n ≤ 1000000) (hnil : a = none → k = 0) (hr : Hid (NRow w a l)) :
    Calls Tryd.prog 55 #[.slice a n k] w fun e w' => Hid (LentTo w w' e l) := by
  obtain ⟨v1, w1, r1, o1, g1⟩ := run_copyN w w.heap.size a n k l hl hr.out hnil (by omega) (Nat.le_refl _)
  have u1 : Upd (fun _ => False) w w1 := (Upd.refl _ w).grown g1 (fun k hk => by cases hk)
  obtain ⟨g, cap, w2, r2, o2, u2, l2⟩ := run_pushS (P := Tryd.prog) (t := 22) (e := 37) (z := .agg #[.int .i64 0, .int .u64 0, .int .i64 0]) (bytes := 24) Tryd.underlying22 (by kernel_rfl) rfl (by decide) w1 22 o1 (ndc markN) rfl (by intro u hu; simp [ndc] at hu; rcases hu with rfl | rfl | rfl <;> rfl) (by unfold maxLen; omega) (by omega) u1.size
  obtain ⟨g', cap', ys, e, hb, hn', hm, -⟩ := ownS_blk o2 (by omega)
  have e2 : g = g' ∧ cap = cap' := by simpa using e
  obtain ⟨rfl, rfl⟩ := e2
  have hc := cut22 g 0 (n + 1) cap n (n : Int) rfl (by omega)
  have HE : Hid (LentTo w w2 (.returned (.slice (some ⟨g, 0, none⟩) n cap)) l) := by
    subst hl
    refine ⟨g, cap, rfl, hb, hn', ?_, ?_⟩
    · rw [cellsN_append]
      exact o2
    · refine (u1.below _ (Nat.le_refl _) (fun k h => h.elim)).trans (u2.below _ u1.size fun k hk => ?_)
      exact (o1.lt k hk).1
  have R1 := hide_ r1
  have R2 : Hid ((Builtin.append_ #[22, 22] 22 #[v1, .slice (some ⟨w1.heap.size, 0, none⟩) 1 1]).run Tryd.prog (w1.alloc (.cells #[.int .i64 23130, .int .u64 0, .int .i64 0] 37)) = .ok (.slice (some ⟨g, 0, none⟩) (n + 1) cap) w2) := r2
  clear r1 r2 o1 o2 u1 u2 l2 g1 hr e
  go_enter Tryd.func55, Tryd.ntmps55
  go_wp2_with (at_builtin; first
    | (refine wpList_append_run rfl (.const (.slice none 0 0)) (.tmp 3) 22 22 rfl rfl rfl R1.out ?_)
    | (refine wpList_append_run rfl (.tmp 4) (.tmp 6) 22 22 rfl rfl rfl R2.out ?_))
  go_ret
  exact HE.out
end Go.Proofs.YtlbgdgobhiokpaaDoor

/- ValueExact's kept. -/
namespace Go.Proofs.YtlbgdgobhiokpaaDoor
open Go.RowKit
set_option linter.unusedVariables false

set_option maxRecDepth 100000 in
set_option maxHeartbeats 4000000 in
theorem kept_any (g cap n k2 : Nat) (a2 : Option Addr) (l : List Nd) (w : World) (hl : l.length = n) (hn : n ≤ 1000000) (hc : n + 1 ≤ cap) (h1 : Hid (NRow w (some ⟨g, 0, none⟩) (l ++ [markN]))) (h2 : Hid (NRow w a2 l)) :
    Calls Tryd.prog 57 #[.slice (some ⟨g, 0, none⟩) n cap, .slice a2 n k2] w fun e w' => e = .returned (.bool true) ∧ Hid (Below w.heap.size w w') := by
  have h3 : NRow w (some ⟨g, 0, none⟩) l := by
    have h := h1.out.take n
    have e : (l ++ [markN]).take n = l := by rw [← hl]; simp
    rw [e] at h
    exact h
  have HC := hide_ (refEqual_any (some ⟨g, 0, none⟩) a2 n n cap k2 l l w hl hl (by omega) (by omega) h3 h2)
  have hmk : ∀ w', Below w.heap.size w w' → w'.cell? ⟨g, n * 3, none⟩ = some (.int .i64 23130) := by
    intro w' hB
    have h := h1.out.later hB
    have := h.cells (n * 3) (.int .i64 23130) (by
      have := (cellsN_at (l ++ [markN]) n (by simp; omega)).1
      rw [this]
      have e : (l ++ [markN]).getD n nil0 = markN := by rw [← hl]; simp [List.getD]
      rw [e]
      rfl)
    rw [Nat.zero_add] at this
    exact this
  have HM := hide_ hmk
  have hcut := cut22 g 0 n cap (n + 1) ((n : Int) + 1) (by omega) hc
  have hd : decide (l = l) = true := by simp
  rw [hd] at HC
  have hw : IntKind.i64.wrap ((n : Int) + 1) = (n : Int) + 1 := i64w _ (by omega)
  have hnn : (n : Int) < (n : Int) + 1 := by omega
  clear h3 hmk hd h1 h2
  go_enter Tryd.func57, Tryd.ntmps57
  go_wp2_with fail
  refine HC.out.mono ?_
  rintro _ w1 ⟨rfl, hB⟩
  have HB := hide_ hB
  have hm := HM.out w1 hB
  clear hB
  go_wp2
  go_ret
  exact ⟨rfl, HB⟩
end Go.Proofs.YtlbgdgobhiokpaaDoor

/- An arena, plain: what holds of its nodes, spots and gaps, from the first Add on. -/
namespace Go.Proofs.YtlbgdgobhiokpaaDoor
open Go.RowKit
set_option linter.unusedVariables false

structure Inv (N : List Nd) (S G : Stk) : Prop where
  len : S.length = N.length
  spt : ∀ i, 1 ≤ i → i < N.length → ∃ p k : Nat, S.getD i (0, 0) = ((p : Int), (k : Int)) ∧ p < i
  inj : ∀ i j, 1 ≤ i → i < N.length → 1 ≤ j → j < N.length → S.getD i (0, 0) = S.getD j (0, 0) → i = j
  pos : ∀ p, p < N.length → 0 ≤ (N.getD p nil0).2.2
  full : ∀ p, p < N.length → ∀ k : Nat, (k : Int) < (N.getD p nil0).2.2 → ∃ i, 1 ≤ i ∧ i < N.length ∧ S.getD i (0, 0) = ((p : Int), (k : Int))
  miss : ∀ p, p < N.length → ∀ i, 1 ≤ i → i < N.length → S.getD i (0, 0) ≠ ((p : Int), (N.getD p nil0).2.2)
  gap : ∀ e, e ∈ G ↔ ∃ i, 1 ≤ i ∧ i < N.length ∧ S.getD i (0, 0) = e ∧ ∃ p : Nat, e.1 = p ∧ (N.getD p nil0).2.2 < e.2
  nod : G.Nodup
  gl : G.length ≤ N.length
  sum : N.length ≠ 0 → offN N N.length + G.length + 1 = N.length
theorem Inv.empty : Inv [] [] [] := by
  refine ⟨rfl, ?_, ?_, ?_, ?_, ?_, ?_, List.nodup_nil, Nat.le_refl _, ?_⟩
  · intro i _ h; simp at h
  · intro i _ _ h; simp at h
  · intro p h; simp at h
  · intro p h; simp at h
  · intro p h; simp at h
  · intro e; simp
  · intro h; simp at h
/-- A spot is taken just if the arena refuses it. -/
theorem Inv.taken {N : List Nd} {S G : Stk} (h : Inv N S G) {p k : Nat} (hp : p < N.length) : (((p : Int), (k : Int)) ∈ G ∨ (k : Int) < (N.getD p nil0).2.2) ↔ ∃ i, 1 ≤ i ∧ i < N.length ∧ S.getD i (0, 0) = ((p : Int), (k : Int)) := by
  constructor
  · rintro (h1 | h1)
    · obtain ⟨i, h2, h3, h4, _⟩ := (h.gap _).1 h1
      exact ⟨i, h2, h3, h4⟩
    · exact h.full p hp k h1
  · rintro ⟨i, h1, h2, h3⟩
    have h4 := h.miss p hp i h1 h2
    rw [h3] at h4
    have h5 : (k : Int) ≠ (N.getD p nil0).2.2 := fun e => h4 (by rw [← e])
    by_cases h6 : (k : Int) < (N.getD p nil0).2.2
    · exact .inr h6
    · exact .inl ((h.gap _).2 ⟨i, h1, h2, h3, p, rfl, by show _ < (k : Int); omega⟩)
/-- A parent's gap, as it is closed up to c. -/
structure Fil (N : List Nd) (S : Stk) (o : Nat) (c : Int) (G : Stk) : Prop where
  full : ∀ k : Nat, (k : Int) < c → ∃ i, 1 ≤ i ∧ i < N.length ∧ S.getD i (0, 0) = ((o : Int), (k : Int))
  gap : ∀ e, e ∈ G ↔ ∃ i, 1 ≤ i ∧ i < N.length ∧ S.getD i (0, 0) = e ∧ ∃ p : Nat, e.1 = p ∧ (if p = o then c else (N.getD p nil0).2.2 + 1) ≤ e.2
  nod : G.Nodup
  pos : 0 ≤ c
theorem Fil.step {N : List Nd} {S G : Stk} {o : Nat} {c : Int} (h : Fil N S o c G) (hc : G.contains ((o : Int), c) = true) : Fil N S o (c + 1) (G.erase ((o : Int), c)) := by
  have hm : ((o : Int), c) ∈ G := by simpa using hc
  obtain ⟨i, h1, h2, h3, _⟩ := (h.gap _).1 hm
  have hp := h.pos
  refine ⟨fun k hk => ?_, fun e => ?_, h.nod.erase _, by omega⟩
  · by_cases e : (k : Int) < c
    · exact h.full k e
    · obtain rfl : c = (k : Int) := by omega
      exact ⟨i, h1, h2, h3⟩
  · rw [h.nod.mem_erase_iff, h.gap]
    constructor
    · rintro ⟨hne, i, k1, k2, k3, p, k4, k5⟩
      refine ⟨i, k1, k2, k3, p, k4, ?_⟩
      by_cases hpo : p = o
      · subst hpo
        rw [if_pos rfl] at k5 ⊢
        have : e.2 ≠ c := fun e2 => hne (by rw [← k4, ← e2])
        omega
      · rw [if_neg hpo] at k5 ⊢
        exact k5
    · rintro ⟨i, k1, k2, k3, p, k4, k5⟩
      refine ⟨?_, i, k1, k2, k3, p, k4, ?_⟩
      · rintro rfl
        have : p = o := by have k6 : (o : Int) = p := k4; omega
        rw [if_pos this] at k5
        have k7 : c + 1 ≤ c := k5
        omega
      · by_cases hpo : p = o
        · rw [if_pos hpo] at k5 ⊢
          omega
        · rw [if_neg hpo] at k5 ⊢
          exact k5
theorem Fil.end : ∀ {f : Nat} {N : List Nd} {S G : Stk} {o : Nat} {c : Int}, G.length = f → Fil N S o c G → Fil N S o (fillG f o c G).1 (fillG f o c G).2 ∧ (fillG f o c G).2.contains ((o : Int), (fillG f o c G).1) = false ∧ (fillG f o c G).1 + (fillG f o c G).2.length = c + G.length ∧ c ≤ (fillG f o c G).1
  | 0, N, S, G, o, c, hl, h => by
    obtain rfl := List.length_eq_zero_iff.1 hl
    exact ⟨h, rfl, rfl, Int.le_refl _⟩
  | f + 1, N, S, G, o, c, hl, h => by
    rw [fillG]
    by_cases hc : G.contains ((o : Int), c) = true
    · rw [if_pos hc]
      have he := erase_len hc
      obtain ⟨h1, h2, h3, h4⟩ := Fil.end (f := f) (by omega) (h.step hc)
      exact ⟨h1, h2, by omega, by omega⟩
    · rw [if_neg hc]
      exact ⟨h, by simpa using hc, rfl, Int.le_refl _⟩
theorem sum_set : ∀ (N : List Nd) (o : Nat) (x : Nd), o < N.length → ((N.set o x).map kN).sum + kN (N.getD o nil0) = (N.map kN).sum + kN x
  | [], o, x, h => by simp at h
  | y :: N, 0, x, h => by simp; omega
  | y :: N, o + 1, x, h => by
    have := sum_set N o x (by simpa using h)
    simp only [List.set_cons_succ, List.map_cons, List.sum_cons, List.getD_cons_succ]
    omega
theorem offN_all (N : List Nd) : offN N N.length = (N.map kN).sum := by rw [offN, List.take_length]
theorem setK_other (N : List Nd) (o p : Nat) (c : Int) (h : p ≠ o) : (setK N o c).getD p nil0 = N.getD p nil0 := by
  unfold setK
  rw [List.getD_eq_getElem?_getD, List.getElem?_set_ne (by omega), ← List.getD_eq_getElem?_getD]
theorem getD_snocS (S : Stk) (e : Int × Int) (i : Nat) : (S ++ [e]).getD i (0, 0) = if i = S.length then e else S.getD i (0, 0) := by
  simp only [List.getD_eq_getElem?_getD]
  by_cases h : i = S.length
  · subst h; simp
  · rw [if_neg h]
    by_cases h2 : i < S.length
    · rw [List.getElem?_append_left h2]
    · rw [List.getElem?_append_right (by omega), List.getElem?_eq_none (by simp; omega), List.getElem?_eq_none (by omega)]
theorem Inv.add {N : List Nd} {S G : Stk} (h : Inv N S G) {p k : Int} (kind n : Int) (hr : refuseG N G p k = 0) : Inv (addN1 N G p k kind n) (S ++ [(p, k)]) (addG1 N G p k) := by
  by_cases h0 : N.length = 0
  · obtain rfl := List.length_eq_zero_iff.1 h0
    obtain rfl : S = [] := List.length_eq_zero_iff.1 (by rw [h.len]; rfl)
    obtain rfl : G = [] := List.length_eq_zero_iff.1 (by have := h.gl; simp at this; simpa using this)
    have e1 : addN1 [] [] p k kind n = [(kind, n, 0)] := rfl
    have e2 : addG1 [] [] p k = [] := rfl
    rw [e1, e2]
    refine ⟨rfl, ?_, ?_, ?_, ?_, ?_, ?_, List.nodup_nil, by simp, fun _ => by simp [offN, kN]⟩
    · intro i h1 h2; simp at h2; omega
    · intro i j h1 h2; simp at h2; omega
    · intro q hq
      obtain rfl : q = 0 := by simpa using hq
      exact Int.le_refl _
    · intro q hq
      obtain rfl : q = 0 := by simpa using hq
      intro k hk
      have : (k : Int) < 0 := hk
      omega
    · intro q hq i h1 h2; simp at h2; omega
    · intro e
      constructor
      · intro h; simp at h
      · rintro ⟨i, h1, h2, _⟩
        simp at h2; omega
  · obtain ⟨r1, r2, r3, r4, r5, r6⟩ := refuseG_zero hr h0
    obtain ⟨o, rfl⟩ := Int.eq_ofNat_of_zero_le r1
    obtain ⟨q, rfl⟩ := Int.eq_ofNat_of_zero_le r3
    rw [Int.toNat_natCast] at r4 r6
    have ho : o < N.length := by omega
    have hnew : ¬ ∃ i, 1 ≤ i ∧ i < N.length ∧ S.getD i (0, 0) = ((o : Int), (q : Int)) := fun hx => by
      rcases (h.taken ho).2 hx with h1 | h1
      · have : G.contains ((o : Int), (q : Int)) = true := by simpa using h1
        rw [this] at r5; cases r5
      · omega
    have hS : ∀ i, (S ++ [((o : Int), (q : Int))]).getD i (0, 0) = if i = N.length then ((o : Int), (q : Int)) else S.getD i (0, 0) := fun i => by rw [getD_snocS, h.len]
    have hSo : ∀ i, i < N.length → (S ++ [((o : Int), (q : Int))]).getD i (0, 0) = S.getD i (0, 0) := fun i hi => by rw [hS, if_neg (by omega)]
    have hSn : (S ++ [((o : Int), (q : Int))]).getD N.length (0, 0) = ((o : Int), (q : Int)) := by rw [hS, if_pos rfl]
    have hN1 : ∀ i, i < N.length → (N ++ [(kind, n, 0)]).getD i nil0 = N.getD i nil0 := fun i hi => by rw [getD_snoc, if_neg (by omega)]
    have hNn : (N ++ [(kind, n, 0)]).getD N.length nil0 = (kind, n, 0) := by rw [getD_snoc, if_pos rfl]
    have hspt : ∀ i, 1 ≤ i → i < N.length + 1 → ∃ p k : Nat, (S ++ [((o : Int), (q : Int))]).getD i (0, 0) = ((p : Int), (k : Int)) ∧ p < i := fun i h1 h2 => by
      by_cases e : i = N.length
      · subst e
        exact ⟨o, q, hSn, ho⟩
      · rw [hSo i (by omega)]
        exact h.spt i h1 (by omega)
    have hinj : ∀ i j, 1 ≤ i → i < N.length + 1 → 1 ≤ j → j < N.length + 1 → (S ++ [((o : Int), (q : Int))]).getD i (0, 0) = (S ++ [((o : Int), (q : Int))]).getD j (0, 0) → i = j := fun i j h1 h2 h3 h4 he => by
      by_cases e : i = N.length
      · by_cases e2 : j = N.length
        · omega
        · rw [e, hSn, hSo j (by omega)] at he
          exact absurd ⟨j, h3, by omega, he.symm⟩ hnew
      · by_cases e2 : j = N.length
        · rw [e2, hSn, hSo i (by omega)] at he
          exact absurd ⟨i, h1, by omega, he⟩ hnew
        · rw [hSo i (by omega), hSo j (by omega)] at he
          exact h.inj i j h1 (by omega) h3 (by omega) he
    have hfull : ∀ p, p < N.length → ∀ k : Nat, (k : Int) < (N.getD p nil0).2.2 → ∃ i, 1 ≤ i ∧ i < N.length + 1 ∧ (S ++ [((o : Int), (q : Int))]).getD i (0, 0) = ((p : Int), (k : Int)) := fun p hp k hk => by
      obtain ⟨i, h1, h2, h3⟩ := h.full p hp k hk
      exact ⟨i, h1, by omega, by rw [hSo i h2, h3]⟩
    have hpar : ∀ (i : Nat) (pp : Nat) (c : Int), 1 ≤ i → i < N.length → S.getD i (0, 0) = ((pp : Int), c) → pp < i := fun i pp c h1 h2 h3 => by
      obtain ⟨p', k', h4, h5⟩ := h.spt i h1 h2
      rw [h3] at h4
      have := (Prod.mk.inj h4).1
      omega
    have hsum : offN (N ++ [(kind, n, 0)]) (N ++ [(kind, n, 0)]).length = offN N N.length := by rw [offN_all, offN_all]; simp [kN]
    have hs0 := h.sum h0
    by_cases hg : (N.getD o nil0).2.2 < (q : Int)
    · have e1 : addN1 N G (o : Int) (q : Int) kind n = N ++ [(kind, n, 0)] := by rw [addN1, if_neg h0, Int.toNat_natCast, if_pos hg]
      have e2 : addG1 N G (o : Int) (q : Int) = G ++ [((o : Int), (q : Int))] := by rw [addG1, if_neg h0, Int.toNat_natCast, if_pos hg]
      rw [e1, e2]
      have hl : (N ++ [(kind, n, 0)]).length = N.length + 1 := by simp
      rw [← hl] at hspt hinj
      refine ⟨by simp [h.len], hspt, hinj, fun p hp => ?_, fun p hp k hk => ?_, fun p hp i h1 h2 => ?_, fun e => ?_, ?_, ?_, fun _ => ?_⟩
      · rw [getD_snoc]
        split
        · exact Int.le_refl _
        · exact h.pos p (by omega)
      · rw [getD_snoc] at hk
        split at hk
        · have : (k : Int) < 0 := hk
          omega
        · rw [hl]
          exact hfull p (by omega) k hk
      · rw [getD_snoc]
        rw [hl] at h2 hp
        split
        · rename_i ep
          subst ep
          intro he
          by_cases e : i = N.length
          · rw [e, hSn] at he
            have := (Prod.mk.inj he).1
            omega
          · rw [hSo i (by omega)] at he
            have := hpar i N.length _ h1 (by omega) he
            omega
        · by_cases e : i = N.length
          · rw [e, hSn]
            intro he
            have h3 := (Prod.mk.inj he).1
            obtain rfl : o = p := by omega
            have := (Prod.mk.inj he).2
            omega
          · rw [hSo i (by omega)]
            exact h.miss p (by omega) i h1 (by omega)
      · rw [List.mem_append, List.mem_singleton, h.gap, hl]
        constructor
        · rintro (⟨i, h1, h2, h3, p, h4, h5⟩ | rfl)
          · refine ⟨i, h1, by omega, by rw [hSo i h2, h3], p, h4, ?_⟩
            have hp' : p < i := hpar i p e.2 h1 h2 (by rw [h3, ← h4])
            rw [hN1 p (by omega)]
            exact h5
          · exact ⟨N.length, by omega, by omega, hSn, o, rfl, by rw [hN1 o ho]; exact hg⟩
        · rintro ⟨i, h1, h2, h3, p, h4, h5⟩
          by_cases e' : i = N.length
          · rw [e', hSn] at h3
            exact .inr h3.symm
          · rw [hSo i (by omega)] at h3
            have hp' : p < i := hpar i p e.2 h1 (by omega) (by rw [h3, ← h4])
            rw [hN1 p (by omega)] at h5
            exact .inl ⟨i, h1, by omega, h3, p, h4, h5⟩
      · rw [List.nodup_append]
        refine ⟨h.nod, by simp, fun a ha b hb => ?_⟩
        simp at hb
        subst hb
        rintro rfl
        have : G.contains ((o : Int), (q : Int)) = true := by simpa using ha
        rw [this] at r5; cases r5
      · have := h.gl
        simp
        omega
      · rw [hsum]
        simp only [List.length_append, List.length_cons, List.length_nil]
        omega
    · have hqe : (N.getD o nil0).2.2 = (q : Int) := by omega
      have e1 : addN1 N G (o : Int) (q : Int) kind n = setK (N ++ [(kind, n, 0)]) o (fillG G.length o ((q : Int) + 1) G).1 := by rw [addN1, if_neg h0, Int.toNat_natCast, if_neg hg]
      have e2 : addG1 N G (o : Int) (q : Int) = (fillG G.length o ((q : Int) + 1) G).2 := by rw [addG1, if_neg h0, Int.toNat_natCast, if_neg hg]
      rw [e1, e2]
      have hl : (N ++ [(kind, n, 0)]).length = N.length + 1 := by simp
      have hF : Fil (N ++ [(kind, n, 0)]) (S ++ [((o : Int), (q : Int))]) o ((q : Int) + 1) G := by
        refine ⟨fun k hk => ?_, fun e => ?_, h.nod, by omega⟩
        · rw [hl]
          by_cases e : (k : Int) < (q : Int)
          · exact hfull o ho k (by rw [hqe]; exact e)
          · obtain rfl : k = q := by omega
            exact ⟨N.length, by omega, by omega, hSn⟩
        · rw [h.gap, hl]
          constructor
          · rintro ⟨i, h1, h2, h3, p, h4, h5⟩
            have hp' : p < i := hpar i p e.2 h1 h2 (by rw [h3, ← h4])
            refine ⟨i, h1, by omega, by rw [hSo i h2, h3], p, h4, ?_⟩
            split
            · rename_i ep
              subst ep
              rw [hqe] at h5
              omega
            · rw [hN1 p (by omega)]
              omega
          · rintro ⟨i, h1, h2, h3, p, h4, h5⟩
            by_cases e' : i = N.length
            · rw [e', hSn] at h3
              rw [← h3] at h4 h5
              have h4' : (o : Int) = p := h4
              rw [if_pos (by omega)] at h5
              have h5' : (q : Int) + 1 ≤ q := h5
              omega
            · rw [hSo i (by omega)] at h3
              have hp' : p < i := hpar i p e.2 h1 (by omega) (by rw [h3, ← h4])
              refine ⟨i, h1, by omega, h3, p, h4, ?_⟩
              split at h5
              · rename_i ep
                subst ep
                rw [hqe]
                omega
              · rw [hN1 p (by omega)] at h5
                omega
      obtain ⟨hE, hno, hlen, hge⟩ := Fil.end rfl hF
      generalize (fillG G.length o ((q : Int) + 1) G).1 = c at *
      generalize (fillG G.length o ((q : Int) + 1) G).2 = G' at *
      have ho1 : o < (N ++ [(kind, n, 0)]).length := by rw [hl]; omega
      have hat : (setK (N ++ [(kind, n, 0)]) o c).getD o nil0 = ((N.getD o nil0).1, (N.getD o nil0).2.1, c) := by rw [setK_at _ _ _ ho1, hN1 o ho]
      have hnm : ((o : Int), c) ∉ G' := by simpa using hno
      have hmo : ∀ i, 1 ≤ i → i < N.length + 1 → (S ++ [((o : Int), (q : Int))]).getD i (0, 0) ≠ ((o : Int), c) := fun i h1 h2 he => hnm ((hE.gap _).2 ⟨i, h1, by rw [hl]; exact h2, he, o, rfl, by rw [if_pos rfl]; exact Int.le_refl _⟩)
      have hsl : (setK (N ++ [(kind, n, 0)]) o c).length = N.length + 1 := by rw [setK_len, hl]
      rw [← hsl] at hspt hinj
      refine ⟨by rw [hsl]; simp [h.len], hspt, hinj, fun p hp => ?_, fun p hp k hk => ?_, fun p hp i h1 h2 => ?_, fun e => ?_, hE.nod, ?_, fun _ => ?_⟩
      · by_cases ep : p = o
        · subst ep
          rw [hat]
          show 0 ≤ c
          omega
        · rw [setK_other _ _ _ _ ep, getD_snoc]
          split
          · exact Int.le_refl _
          · rw [hsl] at hp
            exact h.pos p (by omega)
      · by_cases ep : p = o
        · subst ep
          rw [hat] at hk
          rw [hsl, ← hl]
          exact hE.full k hk
        · rw [setK_other _ _ _ _ ep, getD_snoc] at hk
          rw [hsl] at hp ⊢
          split at hk
          · have : (k : Int) < 0 := hk
            omega
          · exact hfull p (by omega) k hk
      · rw [hsl] at h2 hp
        by_cases ep : p = o
        · subst ep
          rw [hat]
          exact hmo i h1 h2
        · rw [setK_other _ _ _ _ ep, getD_snoc]
          split
          · rename_i ep2
            subst ep2
            intro he
            by_cases e : i = N.length
            · rw [e, hSn] at he
              have := (Prod.mk.inj he).1
              omega
            · rw [hSo i (by omega)] at he
              have := hpar i N.length _ h1 (by omega) he
              omega
          · by_cases e : i = N.length
            · rw [e, hSn]
              intro he
              have h3 := (Prod.mk.inj he).1
              omega
            · rw [hSo i (by omega)]
              exact h.miss p (by omega) i h1 (by omega)
      · rw [hE.gap, hsl, hl]
        constructor
        · rintro ⟨i, h1, h2, h3, p, h4, h5⟩
          refine ⟨i, h1, h2, h3, p, h4, ?_⟩
          by_cases ep : p = o
          · subst ep
            rw [if_pos rfl] at h5
            rw [hat]
            have h6 := hmo i h1 h2
            rw [h3] at h6
            have : e.2 ≠ c := fun e2 => h6 (by rw [← h4, ← e2])
            show c < e.2
            omega
          · rw [if_neg ep] at h5
            rw [setK_other _ _ _ _ ep]
            omega
        · rintro ⟨i, h1, h2, h3, p, h4, h5⟩
          refine ⟨i, h1, h2, h3, p, h4, ?_⟩
          by_cases ep : p = o
          · subst ep
            rw [hat] at h5
            rw [if_pos rfl]
            have : c < e.2 := h5
            omega
          · rw [setK_other _ _ _ _ ep] at h5
            rw [if_neg ep]
            omega
      · rw [hsl]
        have := h.gl
        omega
      · rw [offN_all, hsl, setK]
        have h7 := sum_set (N ++ [(kind, n, 0)]) o (((N ++ [(kind, n, 0)]).getD o nil0).1, ((N ++ [(kind, n, 0)]).getD o nil0).2.1, c) ho1
        rw [← offN_all (N ++ [(kind, n, 0)]), hsum, hN1 o ho] at h7
        have h8 : kN (N.getD o nil0) = q := by rw [kN, hqe, Int.toNat_natCast]
        have h9 : kN ((N.getD o nil0).1, (N.getD o nil0).2.1, c) = c.toNat := rfl
        rw [h8, h9] at h7
        rw [hN1 o ho]
        omega
end Go.Proofs.YtlbgdgobhiokpaaDoor

/- A loop, round by round. -/
namespace Go.Proofs.YtlbgdgobhiokpaaDoor
open Go.RowKit
set_option linter.unusedVariables false

def unr (P : Program) (c : Code) (Q : Exit → Go.Act → World → Prop) : Nat → Go.Act → World → Prop
  | 0 => fun _ _ => False
  | n + 1 => fun a w => c.wp P (Exit.then (unr P c Q n) Q) a w
theorem wp_unroll {P : Program} {c : Code} {Q : Exit → Go.Act → World → Prop} {a : Go.Act} {w : World} (n : Nat) (h : unr P c Q n a w) : (Code.loop c).wp P Q a w := by
  classical
  have least : ∀ (a : Go.Act) (w : World), (∃ n, unr P c Q n a w) → ∃ n, unr P c Q n a w ∧ ∀ m, unr P c Q m a w → n ≤ m := by
    intro a w hn
    obtain ⟨n, hn⟩ := hn
    induction n using Nat.strongRecOn with
    | ind n ih =>
      by_cases h1 : ∃ m, m < n ∧ unr P c Q m a w
      · obtain ⟨m, hm, hu⟩ := h1
        exact ih m hm hu
      · exact ⟨n, hn, fun m hm => by
          rcases Nat.lt_or_ge m n with h2 | h2
          · exact absurd ⟨m, h2, hm⟩ h1
          · exact h2⟩
  let ms : Go.Act → World → Nat := fun a w => if h : ∃ n, unr P c Q n a w then Classical.choose (least a w h) else 0
  refine wp_loop (fun a w => ∃ n, unr P c Q n a w) ms ⟨n, h⟩ fun a' w' ha => ?_
  have hms : ms a' w' = Classical.choose (least a' w' ha) := dif_pos ha
  obtain ⟨hu, hl⟩ := Classical.choose_spec (least a' w' ha)
  rw [hms]
  generalize Classical.choose (least a' w' ha) = k at *
  cases k with
  | zero => exact hu.elim
  | succ k =>
    refine Code.wp_mono (fun e a2 w2 q => ?_) hu
    cases e <;> first | exact q | skip
    all_goals
      have hx : ∃ n, unr P c Q n a2 w2 := ⟨k, q⟩
      refine ⟨hx, ?_⟩
      show ms a2 w2 < k + 1
      have hm2 : ms a2 w2 = Classical.choose (least a2 w2 hx) := dif_pos hx
      rw [hm2]
      exact Nat.lt_succ_of_le ((Classical.choose_spec (least a2 w2 hx)).2 k q)
end Go.Proofs.YtlbgdgobhiokpaaDoor

/- The value of one small arena. -/
namespace Go.Proofs.YtlbgdgobhiokpaaDoor
open Go.RowKit
set_option linter.unusedVariables false

theorem mk43 (w : World) : (Instr.makeSlice 43 (.int .i64 1) (.int .i64 1)).run Tryd.prog w = .ok (.slice (some ⟨w.heap.size, 0, none⟩) 1 1) (w.alloc (.cells #[.int .i64 0] 3)) := by kernel_rfl
theorem mk68 (w : World) : (Instr.makeSlice 68 (.int .i64 2) (.int .i64 2)).run Tryd.prog w = .ok (.slice (some ⟨w.heap.size, 0, none⟩) 2 2) (w.alloc (.cells #[.slice none 0 0, .slice none 0 0] 43)) := by kernel_rfl
theorem mk22 (w : World) : (Instr.makeSlice 22 (.int .i64 0) (.int .i64 2)).run Tryd.prog w = .ok (.slice (some ⟨w.heap.size, 0, none⟩) 0 2) (w.alloc (.cells #[.int .i64 0, .int .u64 0, .int .i64 0, .int .i64 0, .int .u64 0, .int .i64 0] 37)) := by kernel_rfl
def N2 : List Nd := [(3, 0, 1), (1, 9, 0)]
def S2 : Stk := [(-1, 0), (0, 0)]
/-- What lies in memory, cell by cell. -/
structure A2 (w : World) (b gn cn gs cs : Nat) : Prop where
  c0 : w.cell? ⟨b, 0, none⟩ = some (.slice (some ⟨gn, 0, none⟩) 2 cn)
  c1 : w.cell? ⟨b, 1, none⟩ = some (.slice (some ⟨gs, 0, none⟩) 2 cs)
  c2 : w.cell? ⟨b, 2, none⟩ = some (.map none)
  n0 : w.cell? ⟨gn, 0, none⟩ = some (.int .i64 3)
  n1 : w.cell? ⟨gn, 1, none⟩ = some (.int .u64 0)
  n2 : w.cell? ⟨gn, 2, none⟩ = some (.int .i64 1)
  n3 : w.cell? ⟨gn, 3, none⟩ = some (.int .i64 1)
  n4 : w.cell? ⟨gn, 4, none⟩ = some (.int .u64 9)
  n5 : w.cell? ⟨gn, 5, none⟩ = some (.int .i64 0)
  s2 : w.cell? ⟨gs, 2, none⟩ = some (.int .i64 0)
  s3 : w.cell? ⟨gs, 3, none⟩ = some (.int .i64 0)
  s0 : w.cell? ⟨gs, 0, none⟩ = some (.int .i64 (-1))
  s1 : w.cell? ⟨gs, 1, none⟩ = some (.int .i64 0)
  hb : b < w.heap.size
  hn : gn < w.heap.size
  hs : gs < w.heap.size
  hcn : cn ≤ 9223372036854775807
  hcs : cs ≤ 9223372036854775807
theorem A2.later {w w' : World} {b gn cn gs cs : Nat} (h : A2 w b gn cn gs cs) (hB : Below w.heap.size w w') : A2 w' b gn cn gs cs := by
  have e : ∀ g i, g < w.heap.size → w'.cell? ⟨g, i, none⟩ = w.cell? ⟨g, i, none⟩ := fun g i hg => hB.cell (p := ⟨g, i, none⟩) hg
  exact ⟨(e _ _ h.hb).trans h.c0, (e _ _ h.hb).trans h.c1, (e _ _ h.hb).trans h.c2, (e _ _ h.hn).trans h.n0, (e _ _ h.hn).trans h.n1, (e _ _ h.hn).trans h.n2, (e _ _ h.hn).trans h.n3, (e _ _ h.hn).trans h.n4, (e _ _ h.hn).trans h.n5,
    (e _ _ h.hs).trans h.s2, (e _ _ h.hs).trans h.s3, (e _ _ h.hs).trans h.s0, (e _ _ h.hs).trans h.s1, Nat.lt_of_lt_of_le h.hb hB.size, Nat.lt_of_lt_of_le h.hn hB.size, Nat.lt_of_lt_of_le h.hs hB.size, h.hcn, h.hcs⟩
theorem A2.of {B b : Nat} {w : World} {vn vs : Value} (h : Ar B w b vn vs N2 S2) : ∃ gn cn gs cs, vn = .slice (some ⟨gn, 0, none⟩) 2 cn ∧ vs = .slice (some ⟨gs, 0, none⟩) 2 cs ∧ A2 w b gn cn gs cs := by
  obtain ⟨gn, cn, ys, rfl, -, -, hm, -, ht, hK⟩ := ownS_blk h.nod (by decide)
  obtain ⟨gs, cs, zs, rfl, -, -, hm2, -, ht2, hK2⟩ := ownS_blk h.spo (by decide)
  have hat : ∀ i, i < 6 → ys[i]? = (cellsN N2)[i]? := fun i hi => by rw [← ht, List.getElem?_take, if_pos (show i < N2.length * 3 from hi)]
  have hat2 : ∀ i, i < 4 → zs[i]? = (cellsS S2)[i]? := fun i hi => by rw [← ht2, List.getElem?_take, if_pos (show i < S2.length * 2 from hi)]
  unfold maxLen at hm hm2
  refine ⟨gn, cn, gs, cs, rfl, rfl, h.c0, h.c1, h.c2, ?_, ?_, ?_, ?_, ?_, ?_, ?_, ?_, ?_, ?_, h.blk.lt, hK.lt, hK2.lt, hm, hm2⟩
  · rw [hK.cell, hat _ (by decide)]; rfl
  · rw [hK.cell, hat _ (by decide)]; rfl
  · rw [hK.cell, hat _ (by decide)]; rfl
  · rw [hK.cell, hat _ (by decide)]; rfl
  · rw [hK.cell, hat _ (by decide)]; rfl
  · rw [hK.cell, hat _ (by decide)]; rfl
  · rw [hK2.cell, hat2 _ (by decide)]; rfl
  · rw [hK2.cell, hat2 _ (by decide)]; rfl
  · rw [hK2.cell, hat2 _ (by decide)]; rfl
  · rw [hK2.cell, hat2 _ (by decide)]; rfl
set_option maxRecDepth 100000 in
set_option maxHeartbeats 8000000 in
theorem whole2 (b gn cn gs cs : Nat) (w : World) (hA : Hid (A2 w b gn cn gs cs)) : Calls Tryd.prog 47 #[.pointer (some ⟨b, 0, none⟩)] w fun e w' => e = .returned (.bool true) ∧ Below w.heap.size w w' := by
  have c0 := hA.out.c0; have c2 := hA.out.c2; have n0 := hA.out.n0; have n1 := hA.out.n1; have n2 := hA.out.n2
  have hcn := hA.out.hcn
  go_enter Tryd.func47, Tryd.ntmps47
  go_wp2_with fail
  refine wp_unroll 3 ?_
  unfold unr
  go_wp2_with fail
  refine (right_any (3, 0, 1) _).mono ?_; rintro e w1 ⟨rfl, hB1⟩
  have hBw : Below w.heap.size w w1 := ((Below.refl w.heap.size w).alloc (Nat.le_refl _) _).trans (hB1.mono (by simp))
  have hA1 : Hid (A2 w1 b gn cn gs cs) := hA.out.later hBw
  clear c0 c2 n0 n1 n2 hB1
  have c0 := hA1.out.c0; have c2 := hA1.out.c2; have n3 := hA1.out.n3; have n4 := hA1.out.n4; have n5 := hA1.out.n5
  have hr1 : right (3, 0, 1) = true := by decide
  rw [hr1]
  go_wp2_with fail
  unfold unr
  go_wp2_with fail
  refine (right_any (1, 9, 0) _).mono ?_; rintro e w2 ⟨rfl, hB2⟩
  have hBw2 : Below w.heap.size w w2 := (hBw.alloc hBw.size _).trans (hB2.mono (by have := hBw.size; simp; omega))
  have hA2 : Hid (A2 w2 b gn cn gs cs) := hA.out.later hBw2
  clear c0 c2 n3 n4 n5 hB2
  have c0 := hA2.out.c0; have c2 := hA2.out.c2
  have hr2 : right (1, 9, 0) = true := by decide
  rw [hr2]
  go_wp2_with fail
  unfold unr
  go_wp2
  go_ret
  exact ⟨rfl, hBw2⟩
end Go.Proofs.YtlbgdgobhiokpaaDoor

/- The kids' table of one small arena. -/
namespace Go.Proofs.YtlbgdgobhiokpaaDoor
open Go.RowKit
set_option linter.unusedVariables false

set_option maxRecDepth 100000 in
set_option maxHeartbeats 8000000 in
theorem kids2 (b gn cn gs cs : Nat) (w : World) (hA : Hid (A2 w b gn cn gs cs)) : Calls Tryd.prog 48 #[.pointer (some ⟨b, 0, none⟩)] w fun e w' => e = .returned (.slice (some ⟨w.heap.size + 1, 0, none⟩) 2 2) ∧
    (∃ v, Hid (Blk w' (w.heap.size + 1) 43 [.slice (some ⟨w.heap.size, 0, none⟩) 1 1, v])) ∧ Hid (Blk w' w.heap.size 3 [.int .i64 1]) ∧ Below w.heap.size w w' := by
  have c0 := hA.out.c0; have c1 := hA.out.c1; have n0 := hA.out.n0; have n1 := hA.out.n1; have n2 := hA.out.n2
  have hcn := hA.out.hcn; have hcs := hA.out.hcs
  have hmk1 := mk43; have hmk2 := mk68
  have c0a : ∀ o1, (w.alloc o1).cell? ⟨b, 0, none⟩ = some (.slice (some ⟨gn, 0, none⟩) 2 cn) := fun o1 => (cell_alloc w o1 _ _ hA.out.hb).trans c0
  have c0b : ∀ o1 o2, ((w.alloc o1).alloc o2).cell? ⟨b, 0, none⟩ = some (.slice (some ⟨gn, 0, none⟩) 2 cn) := fun o1 o2 => (cell_alloc _ o2 _ _ (by have := hA.out.hb; simp; omega)).trans (c0a o1)
  obtain ⟨wk, hwk⟩ : ∃ wk, wk = (w.alloc (.cells #[.int .i64 0] 3)).alloc (.cells #[.slice none 0 0, .slice none 0 0] 43) := ⟨_, rfl⟩
  have KR : Hid (Blk wk w.heap.size 3 [.int .i64 0]) := by rw [hwk]; exact (Blk.newA w _ 3).alloc _
  have KT : Hid (Blk wk (w.heap.size + 1) 43 [.slice none 0 0, .slice none 0 0]) := by
    rw [hwk]
    have := Blk.newA (w.alloc (.cells #[.int .i64 0] 3)) #[.slice none 0 0, .slice none 0 0] 43
    show Blk _ _ _ _
    simpa using this
  have HBk : Hid (Below w.heap.size w wk) := by rw [hwk]; exact ((Below.refl _ _).alloc (Nat.le_refl _) _).alloc (by simp) _
  have hAk : Hid (A2 wk b gn cn gs cs) := hA.out.later HBk.out
  go_enter Tryd.func48, Tryd.ntmps48
  go_upto_region 3 with fail
  rw [← hwk]
  have hA0 : Hid (A2 w b gn cn gs cs) := hA
  clear hwk c0 c1 n0 n1 n2 c0a c0b hmk1 hmk2 hA
  have c0 := hAk.out.c0; have n0 := hAk.out.n0; have n1 := hAk.out.n1; have n2 := hAk.out.n2
  go_wp2_with fail
  refine wp_unroll 3 ?_
  unfold unr
  obtain ⟨w1, hw1⟩ : ∃ w1, w1 = wk.alloc (.cells #[.int .i64 3, .int .u64 0, .int .i64 1] 37) := ⟨_, rfl⟩
  have hB1 : Below wk.heap.size wk w1 := by rw [hw1]; exact (Below.refl _ _).alloc (Nat.le_refl _) _
  have KR1 : Hid (Blk w1 w.heap.size 3 [.int .i64 0]) := KR.out.later hB1
  have KT1 : Hid (Blk w1 (w.heap.size + 1) 43 [.slice none 0 0, .slice none 0 0]) := KT.out.later hB1
  have HBw1 : Hid (Below w.heap.size w w1) := HBk.out.trans (hB1.mono HBk.out.size)
  have hA1 : Hid (A2 w1 b gn cn gs cs) := hAk.out.later hB1
  have x2 : w1.cell? ⟨wk.heap.size, 2, none⟩ = some (.int .i64 1) := by rw [hw1]; exact (Blk.newA wk _ 37).cell 2
  have t0 : w1.cell? ⟨w.heap.size + 1, 0, none⟩ = some (.slice none 0 0) := KT1.out.cell 0
  have z0 := KT1.out.frozen 0
  go_upto_region 6 with fail
  rw [← hw1]
  clear hw1 hB1 KR KT HBk hAk c0 n0 n1 n2
  go_region
  obtain ⟨w2, hw2⟩ : ∃ w2, w2 = (w1.setCell ⟨w.heap.size + 1, 0, none⟩ (.slice (some ⟨w.heap.size, 0, none⟩) 1 1)).drew := ⟨_, rfl⟩
  have KR2 : Hid (Blk w2 w.heap.size 3 [.int .i64 0]) := by rw [hw2]; exact (KR1.out.other _ _ (by simp)).drew
  have KT2 : Hid (Blk w2 (w.heap.size + 1) 43 [.slice (some ⟨w.heap.size, 0, none⟩) 1 1, .slice none 0 0]) := by rw [hw2]; exact (KT1.out.set 0 _).drew
  have HBw2 : Hid (Below w.heap.size w w2) := by rw [hw2]; exact (HBw1.out.setCell (by simp) _).drew
  have hA2 : Hid (A2 w2 b gn cn gs cs) := hA0.out.later HBw2.out
  rw [← hw2]
  clear hw2 KR1 KT1 HBw1 hA1 x2 t0 z0
  have n3 := hA2.out.n3; have n4 := hA2.out.n4; have n5 := hA2.out.n5
  go_wp2_with fail
  unfold unr
  obtain ⟨w3, hw3⟩ : ∃ w3, w3 = w2.alloc (.cells #[.int .i64 1, .int .u64 9, .int .i64 0] 37) := ⟨_, rfl⟩
  have hB3 : Below w2.heap.size w2 w3 := by rw [hw3]; exact (Below.refl _ _).alloc (Nat.le_refl _) _
  have KR3 : Hid (Blk w3 w.heap.size 3 [.int .i64 0]) := KR2.out.later hB3
  have KT3 : Hid (Blk w3 (w.heap.size + 1) 43 [.slice (some ⟨w.heap.size, 0, none⟩) 1 1, .slice none 0 0]) := KT2.out.later hB3
  have HBw3 : Hid (Below w.heap.size w w3) := HBw2.out.trans (hB3.mono HBw2.out.size)
  have x2 : w3.cell? ⟨w2.heap.size, 2, none⟩ = some (.int .i64 0) := by rw [hw3]; exact (Blk.newA w2 _ 37).cell 2
  have t1 : w3.cell? ⟨w.heap.size + 1, 1, none⟩ = some (.slice none 0 0) := KT3.out.cell 1
  have z1 := KT3.out.frozen 1
  go_upto_region 6 with fail
  rw [← hw3]
  clear hw3 hB3 KR2 KT2 HBw2 hA2 n3 n4 n5
  go_region
  obtain ⟨w4, hw4⟩ : ∃ w4, w4 = (w3.setCell ⟨w.heap.size + 1, 1, none⟩ (.slice (some ⟨w.heap.size, 0, none⟩) 0 0)).drew := ⟨_, rfl⟩
  have KR4 : Hid (Blk w4 w.heap.size 3 [.int .i64 0]) := by rw [hw4]; exact (KR3.out.other _ _ (by simp)).drew
  have KT4 : Hid (Blk w4 (w.heap.size + 1) 43 [.slice (some ⟨w.heap.size, 0, none⟩) 1 1, .slice (some ⟨w.heap.size, 0, none⟩) 0 0]) := by rw [hw4]; exact (KT3.out.set 1 _).drew
  have HBw4 : Hid (Below w.heap.size w w4) := by rw [hw4]; exact (HBw3.out.setCell (by simp) _).drew
  have hA4 : Hid (A2 w4 b gn cn gs cs) := hA0.out.later HBw4.out
  rw [← hw4]
  clear hw4 KR3 KT3 HBw3 x2 t1 z1
  have c1 := hA4.out.c1; have s0 := hA4.out.s0; have s1 := hA4.out.s1
  go_wp2_with fail
  unfold unr
  go_wp2_with fail
  refine wp_unroll 3 ?_
  unfold unr
  go_wp2_with fail
  unfold unr
  obtain ⟨w5, hw5⟩ : ∃ w5, w5 = w4.alloc (.cells #[.int .i64 (-1), .int .i64 0] 103) := ⟨_, rfl⟩
  have hB5 : Below w4.heap.size w4 w5 := by rw [hw5]; exact (Below.refl _ _).alloc (Nat.le_refl _) _
  have KR5 : Hid (Blk w5 w.heap.size 3 [.int .i64 0]) := KR4.out.later hB5
  have KT5 : Hid (Blk w5 (w.heap.size + 1) 43 [.slice (some ⟨w.heap.size, 0, none⟩) 1 1, .slice (some ⟨w.heap.size, 0, none⟩) 0 0]) := KT4.out.later hB5
  have HBw5 : Hid (Below w.heap.size w w5) := HBw4.out.trans (hB5.mono HBw4.out.size)
  have hA5 : Hid (A2 w5 b gn cn gs cs) := hA0.out.later HBw5.out
  rw [← hw5]
  clear hw5 hB5 KR4 KT4 HBw4 hA4 c1 s0 s1
  have s2 := hA5.out.s2; have s3 := hA5.out.s3
  obtain ⟨w6, hw6⟩ : ∃ w6, w6 = w5.alloc (.cells #[.int .i64 0, .int .i64 0] 103) := ⟨_, rfl⟩
  have hB6 : Below w5.heap.size w5 w6 := by rw [hw6]; exact (Below.refl _ _).alloc (Nat.le_refl _) _
  have KR6 : Hid (Blk w6 w.heap.size 3 [.int .i64 0]) := KR5.out.later hB6
  have KT6 : Hid (Blk w6 (w.heap.size + 1) 43 [.slice (some ⟨w.heap.size, 0, none⟩) 1 1, .slice (some ⟨w.heap.size, 0, none⟩) 0 0]) := KT5.out.later hB6
  have HBw6 : Hid (Below w.heap.size w w6) := HBw5.out.trans (hB6.mono HBw5.out.size)
  have y0 : w6.cell? ⟨w5.heap.size, 0, none⟩ = some (.int .i64 0) := by rw [hw6]; exact (Blk.newA w5 _ 103).cell 0
  have y1 : w6.cell? ⟨w5.heap.size, 1, none⟩ = some (.int .i64 0) := by rw [hw6]; exact (Blk.newA w5 _ 103).cell 1
  have t0 : w6.cell? ⟨w.heap.size + 1, 0, none⟩ = some (.slice (some ⟨w.heap.size, 0, none⟩) 1 1) := KT6.out.cell 0
  have r0 : w6.cell? ⟨w.heap.size, 0, none⟩ = some (.int .i64 0) := KR6.out.cell 0
  have z0 := KR6.out.frozen 0
  go_upto_region 12 with fail
  rw [← hw6]
  clear hw6 hB6 KR5 KT5 HBw5 hA5 s2 s3
  go_region
  obtain ⟨w7, hw7⟩ : ∃ w7, w7 = (w6.setCell ⟨w.heap.size, 0, none⟩ (.int .i64 1)).drew := ⟨_, rfl⟩
  have KR7 : Hid (Blk w7 w.heap.size 3 [.int .i64 1]) := by rw [hw7]; exact (KR6.out.set 0 _).drew
  have KT7 : Hid (Blk w7 (w.heap.size + 1) 43 [.slice (some ⟨w.heap.size, 0, none⟩) 1 1, .slice (some ⟨w.heap.size, 0, none⟩) 0 0]) := by rw [hw7]; exact (KT6.out.other _ _ (by simp)).drew
  have HBw7 : Hid (Below w.heap.size w w7) := by rw [hw7]; exact (HBw6.out.setCell (by simp) _).drew
  rw [← hw7]
  clear hw7 KR6 KT6 HBw6 y0 y1 t0 r0 z0
  go_wp2_with fail
  unfold unr
  go_wp2
  go_ret
  exact ⟨rfl, ⟨_, KT7⟩, KR7, HBw7.out⟩
end Go.Proofs.YtlbgdgobhiokpaaDoor

/- The value of one small arena. -/
namespace Go.Proofs.YtlbgdgobhiokpaaDoor
open Go.RowKit
set_option linter.unusedVariables false

/-- A list of nodes and a list of numbers of the call's own grow. -/
theorem push_nd {B : Nat} {w : World} {v : Value} {N : List Nd} (h : w.ownsRow B 37 3 v N.length (cellsN N)) (x : Nd) (hN : N.length ≤ 2000000) (hB : B ≤ w.heap.size) :
    ∃ g cap w', (Builtin.append_ #[22, 22] 22 #[v, .slice (some ⟨w.heap.size, 0, none⟩) 1 1]).run Tryd.prog (w.alloc (.cells #[.int .i64 x.1, .int .u64 x.2.1, .int .i64 x.2.2] 37)) = .ok (.slice (some ⟨g, 0, none⟩) (N.length + 1) cap) w' ∧ w'.ownsRow B 37 3 (.slice (some ⟨g, 0, none⟩) (N.length + 1) cap) (N ++ [x]).length (cellsN (N ++ [x])) ∧ Below B w w' ∧ (∀ q t xs, t ≠ 37 → Blk w q t xs → Blk w' q t xs) ∧ ∀ e c u n xs, e ≠ 37 → w.ownsRow B e c u n xs → w'.ownsRow B e c u n xs := by
  obtain ⟨g, cap, w', r1, o1, u1, l1⟩ := run_pushS (P := Tryd.prog) (t := 22) (e := 37) (z := .agg #[.int .i64 0, .int .u64 0, .int .i64 0]) (bytes := 24) Tryd.underlying22 (by kernel_rfl) rfl (by decide) w 22 h (ndc x) rfl (by intro u hu; simp [ndc] at hu; rcases hu with rfl | rfl | rfl <;> rfl) (by unfold maxLen; omega) (by omega) hB
  refine ⟨g, cap, w', r1, by rw [List.length_append, cellsN_append, show cellsN [x] = ndc x by simp [cellsN]]; exact o1, u1.below B hB (fun k hk => (h.lt k hk).1), fun q t xs ht hb => hb.upd u1 fun hk => ?_, fun e c u n xs he ho => ownS_upd ho u1 fun q hq hk => ?_⟩
  · obtain ⟨ys, hy⟩ := ownS_type h hk
    exact ht (blk_type hb hy)
  · obtain ⟨ys, hy⟩ := ownS_type h hk
    obtain ⟨zs, hz⟩ := ownS_type ho hq
    exact he (blk_type hz hy)
theorem push_int {B : Nat} {w : World} {v : Value} {l : List Int} (h : w.ownsRow B 3 1 v l.length (cellsL .i64 l)) (x : Int) (hN : l.length ≤ 2000000) (hB : B ≤ w.heap.size) :
    ∃ g cap w', (Builtin.append_ #[43, 43] 43 #[v, .slice (some ⟨w.heap.size, 0, none⟩) 1 1]).run Tryd.prog (w.alloc (.cells #[.int .i64 x] 3)) = .ok (.slice (some ⟨g, 0, none⟩) (l.length + 1) cap) w' ∧ w'.ownsRow B 3 1 (.slice (some ⟨g, 0, none⟩) (l.length + 1) cap) (l ++ [x]).length (cellsL .i64 (l ++ [x])) ∧ Below B w w' ∧ ∀ e c u n xs, e ≠ 3 → w.ownsRow B e c u n xs → w'.ownsRow B e c u n xs := by
  obtain ⟨g, cap, w', r1, o1, u1, l1⟩ := run_push E43 w 43 B v l.length l h x (by unfold maxLen; omega) (by omega) hB
  refine ⟨g, cap, w', r1, by rw [List.length_append]; exact o1, u1.below B hB (fun k hk => (h.lt k hk).1), fun e c u n xs he ho => ownS_upd ho u1 fun q hq hk => ?_⟩
  obtain ⟨ys, hy⟩ := ownS_type h hk
  obtain ⟨zs, hz⟩ := ownS_type ho hq
  exact he (blk_type hz hy)
set_option maxRecDepth 100000 in
set_option maxHeartbeats 8000000 in
theorem value2 (b gn cn gs cs : Nat) (w : World) (hA : Hid (A2 w b gn cn gs cs)) : Calls Tryd.prog 25 #[.pointer (some ⟨b, 0, none⟩)] w fun e w' => ∃ v, e = .returned (.tuple #[v, .int .i64 0]) ∧ Hid (w'.ownsRow w.heap.size 37 3 v 2 (cellsN N2)) ∧ Below w.heap.size w w' := by
  have hcn := hA.out.hcn
  go_enter Tryd.func25, Tryd.ntmps25
  go_wp2_with fail
  refine (whole2 b gn cn gs cs w hA).mono ?_; rintro e w1 ⟨rfl, hB1⟩
  have hA1 : Hid (A2 w1 b gn cn gs cs) := hA.out.later hB1
  go_wp2_with fail
  refine (kids2 b gn cn gs cs w1 hA1).mono ?_; rintro e w2 ⟨rfl, ⟨v1, KT⟩, KR, hB2⟩
  have HBw2 : Hid (Below w.heap.size w w2) := hB1.trans (hB2.mono hB1.size)
  have hA2 : Hid (A2 w2 b gn cn gs cs) := hA.out.later HBw2.out
  obtain ⟨w3, hw3⟩ : ∃ w3, w3 = (w2.alloc (.cells #[.int .i64 0, .int .u64 0, .int .i64 0, .int .i64 0, .int .u64 0, .int .i64 0] 37)).alloc (.cells #[.int .i64 0] 3) := ⟨_, rfl⟩
  have HB3 : Hid (Below w2.heap.size w2 w3) := by rw [hw3]; exact ((Below.refl _ _).alloc (Nat.le_refl _) _).alloc (by simp) _
  have OV3 : Hid (w3.ownsRow w2.heap.size 37 3 (.slice (some ⟨w2.heap.size, 0, none⟩) 0 2) 0 (cellsN [])) := by
    rw [hw3]
    have hk := (Blk.newA w2 #[.int .i64 0, .int .u64 0, .int .i64 0, .int .i64 0, .int .u64 0, .int .i64 0] 37).alloc (.cells #[.int .i64 0] 3)
    exact ownS_of_blk (n := 0) (c := 3) (cap := 2) hk (Nat.le_refl _) rfl (by decide) (by decide)
  have KO3 : Blk w3 (w2.heap.size + 1) 3 [.int .i64 0] := by
    rw [hw3]
    have hk := Blk.newA (w2.alloc (.cells #[.int .i64 0, .int .u64 0, .int .i64 0, .int .i64 0, .int .u64 0, .int .i64 0] 37)) #[.int .i64 0] 3
    simpa using hk
  have OO3 : Hid (w3.ownsRow w2.heap.size 3 1 (.slice (some ⟨w2.heap.size + 1, 0, none⟩) 0 1) 0 (cellsL .i64 [])) := ownS_of_blk (n := 0) (c := 1) (cap := 1) KO3 (by omega) rfl (by decide) (by decide)
  have o0 : w3.cell? ⟨w2.heap.size + 1, 0, none⟩ = some (.int .i64 0) := KO3.cell 0
  have hA3 : Hid (A2 w3 b gn cn gs cs) := hA2.out.later HB3.out
  have hmk := mk22
  have c0 := hA2.out.c0
  go_wp2_with fail
  rw [← hw3]
  clear hw3 hmk c0 hA2 hB2
  refine wp_unroll 3 ?_
  unfold unr
  -- the first node
  obtain ⟨gv, cv, w4, r4, o4, b4, k4, e4⟩ := push_nd (N := []) OV3.out (3, 0, 1) (by decide) HB3.out.size
  have R4 : Hid ((Builtin.append_ #[22, 22] 22 #[.slice (some ⟨w2.heap.size, 0, none⟩) 0 2, .slice (some ⟨w3.heap.size, 0, none⟩) 1 1]).run Tryd.prog (w3.alloc (.cells #[.int .i64 3, .int .u64 0, .int .i64 1] 37)) = .ok (.slice (some ⟨gv, 0, none⟩) 1 cv) w4) := r4
  have OV4 : Hid (w4.ownsRow w2.heap.size 37 3 (.slice (some ⟨gv, 0, none⟩) 1 cv) 1 (cellsN [(3, 0, 1)])) := o4
  have OO4 : Hid (w4.ownsRow w2.heap.size 3 1 (.slice (some ⟨w2.heap.size + 1, 0, none⟩) 0 1) 0 (cellsL .i64 [])) := e4 _ _ _ _ _ (by decide) OO3.out
  have HB4 : Hid (Below w2.heap.size w2 w4) := HB3.out.trans b4
  have hA4 : Hid (A2 w4 b gn cn gs cs) := hA.out.later (HBw2.out.trans (HB4.out.mono HBw2.out.size))
  clear r4 o4 b4 k4 e4
  have c0 := hA3.out.c0; have n0 := hA3.out.n0; have n1 := hA3.out.n1; have n2 := hA3.out.n2
  have d0 := hA4.out.c0; have m2 := hA4.out.n2
  have t0 : w4.cell? ⟨w1.heap.size + 1, 0, none⟩ = some (.slice (some ⟨w1.heap.size, 0, none⟩) 1 1) := (KT.out.below HB4.out KT.out.lt).cell 0
  have r0 : w4.cell? ⟨w1.heap.size, 0, none⟩ = some (.int .i64 1) := (KR.out.below HB4.out KR.out.lt).cell 0
  go_wp2_with (at_builtin; have _t := R4; refine wpList_append_run rfl (.tmp 35) (.tmp 43) 22 22 rfl rfl rfl R4.out ?_; clear R4)
  refine wp_unroll 2 ?_
  unfold unr
  -- its kid
  obtain ⟨go, co, w5, r5, o5, b5, e5⟩ := push_int (l := []) OO4.out 1 (by decide) HB4.out.size
  have R5 : Hid ((Builtin.append_ #[43, 43] 43 #[.slice (some ⟨w2.heap.size + 1, 0, none⟩) 0 1, .slice (some ⟨w4.heap.size, 0, none⟩) 1 1]).run Tryd.prog (w4.alloc (.cells #[.int .i64 1] 3)) = .ok (.slice (some ⟨go, 0, none⟩) 1 co) w5) := r5
  have OO5 : Hid (w5.ownsRow w2.heap.size 3 1 (.slice (some ⟨go, 0, none⟩) 1 co) 1 (cellsL .i64 [1])) := o5
  have OV5 : Hid (w5.ownsRow w2.heap.size 37 3 (.slice (some ⟨gv, 0, none⟩) 1 cv) 1 (cellsN [(3, 0, 1)])) := e5 _ _ _ _ _ (by decide) OV4.out
  have HB5 : Hid (Below w2.heap.size w2 w5) := HB4.out.trans b5
  have hA5 : Hid (A2 w5 b gn cn gs cs) := hA.out.later (HBw2.out.trans (HB5.out.mono HBw2.out.size))
  clear r5 o5 b5 e5
  go_wp2_with (at_builtin; have _t := R5; refine wpList_append_run rfl (.tmp 58) (.tmp 66) 43 43 rfl rfl rfl R5.out ?_; clear R5)
  clear c0 n0 n1 n2 d0 m2 t0 r0 o0 OV3 OO3 OV4 OO4 KO3 hA3 hA4 HB3 HB4
  unfold unr
  go_wp2_with fail
  unfold unr
  -- the second node
  obtain ⟨gv6, cv6, w6, r6, o6, b6, k6, e6⟩ := push_nd (N := [(3, 0, 1)]) OV5.out (1, 9, 0) (by decide) HB5.out.size
  have R6 : Hid ((Builtin.append_ #[22, 22] 22 #[.slice (some ⟨gv, 0, none⟩) 1 cv, .slice (some ⟨w5.heap.size, 0, none⟩) 1 1]).run Tryd.prog (w5.alloc (.cells #[.int .i64 1, .int .u64 9, .int .i64 0] 37)) = .ok (.slice (some ⟨gv6, 0, none⟩) 2 cv6) w6) := r6
  have OV6 : Hid (w6.ownsRow w2.heap.size 37 3 (.slice (some ⟨gv6, 0, none⟩) 2 cv6) 2 (cellsN [(3, 0, 1), (1, 9, 0)])) := o6
  have HB6 : Hid (Below w2.heap.size w2 w6) := HB5.out.trans b6
  have hA6 : Hid (A2 w6 b gn cn gs cs) := hA.out.later (HBw2.out.trans (HB6.out.mono HBw2.out.size))
  clear r6 o6 b6 k6 e6
  have o1 : w5.cell? ⟨go, 0, none⟩ = some (.int .i64 1) := by
    obtain ⟨g, cap, ys, e, -, -, -, -, ht, hK⟩ := own_blk OO5.out (by decide)
    have e1 : go = g ∧ co = cap := by simpa using e
    obtain ⟨rfl, rfl⟩ := e1
    rw [hK.cell]
    have : (ys.take 1)[0]? = some (.int .i64 1) := by rw [ht]; rfl
    rwa [List.getElem?_take, if_pos (by decide)] at this
  have hco : 1 ≤ co ∧ co ≤ 9223372036854775807 := by
    obtain ⟨g, cap, ys, e, -, h1, h2, -⟩ := own_blk OO5.out (by decide)
    have e1 : go = g ∧ co = cap := by simpa using e
    obtain ⟨rfl, rfl⟩ := e1
    unfold maxLen at h2
    exact ⟨h1, h2⟩
  obtain ⟨hco1, hco2⟩ := hco
  have c0 := hA5.out.c0; have n3 := hA5.out.n3; have n4 := hA5.out.n4; have n5 := hA5.out.n5
  have d0 := hA6.out.c0; have m5 := hA6.out.n5
  go_wp2_with (at_builtin; have _t := R6; refine wpList_append_run rfl (.tmp 35) (.tmp 43) 22 22 rfl rfl rfl R6.out ?_; clear R6)
  refine wp_unroll 1 ?_
  unfold unr
  go_wp2_with fail
  unfold unr
  go_wp2
  go_ret2
  exact ⟨_, rfl, own_base OV6.out HBw2.out.size, HBw2.out.trans (HB6.out.mono HBw2.out.size)⟩
end Go.Proofs.YtlbgdgobhiokpaaDoor

/- awake: plain. -/
namespace Go.Proofs.YtlbgdgobhiokpaaDoor
open Go.RowKit
set_option linter.unusedVariables false

def V8 : List Nd := [(3, 0, 3), (4, 0, 2), (1, 1, 0), (5, 0, 0), (6, 5, 1), (2, 1, 0), (5, 0, 1), (1, 3, 0)]
def T8 : ByteArray := ⟨#[91, 123, 49, 44, 32, 110, 111, 110, 101, 125, 44, 32, 60, 53, 58, 116, 114, 117, 101, 62, 44, 32, 115, 111, 109, 101, 32, 51, 93]⟩
def T5 : ByteArray := ⟨#[91, 49, 44, 32, 93]⟩
theorem p8N : parseN (tx T8) = V8 := by kernel_rfl
theorem p8F : parseF (tx T8) = (0, 0) := by kernel_rfl
theorem p5F : parseF (tx T5) = (41, 4) := by kernel_rfl
theorem p5N : parseN (tx T5) = [] := by kernel_rfl
theorem v8c : chk 1 0 V8 = (0, 0) := by kernel_rfl
theorem v8p : printS V8 = T8 := by kernel_rfl
theorem v8n : nextR V8 1 = (4, 0) := by kernel_rfl
theorem v8k : kidR V8 0 2 = (6, 0) := by kernel_rfl
theorem v8w : pathR V8 3 = [0, 1] := by kernel_rfl
theorem v8q : place V8 3 = 0 := by kernel_rfl
theorem own_nrow {B : Nat} {w : World} {v : Value} {N : List Nd} (h : w.ownsRow B 37 3 v N.length (cellsN N)) : ∃ a c, v = .slice a N.length c ∧ NRow w a N ∧ N.length ≤ c ∧ c ≤ 9223372036854775807 ∧ (a = none → c = 0) := by
  rcases h.2 with ⟨rfl, h0⟩ | ⟨g, cap, cur, rfl, hb, hg, hn, hm, hs, ht⟩
  · exact ⟨none, 0, by rw [h0], .inl (List.length_eq_zero_iff.1 h0), by omega, by omega, fun _ => rfl⟩
  · have hK : Blk w g 37 cur.toList := by unfold Blk; rw [Array.toArray_toList]; exact hg
    have hat : ∀ i, i < N.length * 3 → cur.toList[i]? = (cellsN N)[i]? := fun i hi => by rw [← ht, List.getElem?_take, if_pos hi]
    unfold maxLen at hm
    refine ⟨_, _, rfl, .inr ⟨g, 0, rfl, hK.lt, fun i hi => ?_⟩, hn, hm, fun h => by cases h⟩
    obtain ⟨c0, c1, c2⟩ := cellsN_at N i hi
    rw [Nat.zero_add]
    exact ⟨by rw [hK.cell, hat _ (by omega), c0], by rw [hK.cell, hat _ (by omega), c1], by rw [hK.cell, hat _ (by omega), c2]⟩
end Go.Proofs.YtlbgdgobhiokpaaDoor
