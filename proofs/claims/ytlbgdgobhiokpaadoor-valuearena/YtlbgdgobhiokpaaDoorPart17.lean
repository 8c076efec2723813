import Derived.Test.YtlbgdgobhiokpaaDoorPart16
import Derived.Deep.RegionLaw
import Derived.Test.YtlbgdgobhiokpaaDoorPart11

/- The book's nodes. -/
namespace Go.Proofs.YtlbgdgobhiokpaaDoor
open Go.RowKit
set_option linter.unusedVariables false

def mark (j : Nat) : Nd := (1000 + (j : Int), 0, 0)
def mkN (k j : Nat) : List Value := cellsN (List.replicate k (mark j))
theorem cellsN_set3 : ∀ (N : List Nd) (i : Nat) (x : Nd), i < N.length → (((cellsN N).set (i * 3) (.int .i64 x.1)).set (i * 3 + 1) (.int .u64 x.2.1)).set (i * 3 + 2) (.int .i64 x.2.2) = cellsN (N.set i x)
  | [], i, x, h => by simp at h
  | y :: N, 0, x, h => by simp [cellsN, ndc]
  | y :: N, i + 1, x, h => by
    have e : ∀ M : List Nd, cellsN (y :: M) = ndc y ++ cellsN M := fun M => by simp [cellsN]
    have hl : (ndc y).length = 3 := rfl
    rw [List.set_cons_succ, e, e, ← cellsN_set3 N i x (by simpa using h)]
    rw [List.set_append_right _ _ (by rw [hl]; omega), List.set_append_right _ _ (by rw [hl]; omega), List.set_append_right _ _ (by rw [hl]; omega), hl]
    rw [show (i + 1) * 3 - 3 = i * 3 by omega, show (i + 1) * 3 + 1 - 3 = i * 3 + 1 by omega, show (i + 1) * 3 + 2 - 3 = i * 3 + 2 by omega]
structure BkSt (B : Nat) (w : World) (bt : Nat) (vL vM pL pM : Value) (N : Nat) (F G : Nat → Value) (s : Nat → Nat) : Prop where
  h : Half 22 37 3 mkN B w vL vM N F G s
  t : Blk w bt 70 [vL, vM, pL, pM]
  hb : B ≤ bt
section
variable {B : Nat} {w w' w0 : World} {bt : Nat} {vL vM pL pM v : Value} {N : Nat} {F G : Nat → Value} {s : Nat → Nat} {bm g cap k i : Nat}
theorem BkSt.upd {S : Nat → Prop} (b : BkSt B w bt vL vM pL pM N F G s) (hu : Upd S w w') (hs : ∀ q, q = bt ∨ FK vL vM N F G q → ¬ S q) : BkSt B w' bt vL vM pL pM N F G s :=
  ⟨b.h.upd hu (fun q hq => hs q (.inr hq)), b.t.upd hu (hs bt (.inl rfl)), b.hb⟩
theorem BkSt.later (b : BkSt B w bt vL vM pL pM N F G s) (hB : Below w.heap.size w w') : BkSt B w' bt vL vM pL pM N F G s := b.upd (Upd.of_below (S := fun _ => False) hB) (fun _ _ h => h)
theorem BkSt.base (b : BkSt B w bt vL vM pL pM N F G s) : B ≤ w.heap.size := Nat.le_trans b.hb (Nat.le_of_lt b.t.lt)
structure FillN (B : Nat) (w0 w : World) (bt : Nat) (vL vM pL pM : Value) (N : Nat) (F G : Nat → Value) (s : Nat → Nat) (bm g cap k i : Nat) : Prop where
  bk : BkSt B w bt vL vM pL pM N F G s
  row : ∃ l : List Nd, w.ownsRow B 37 3 (.slice (some ⟨g, 0, none⟩) k cap) k (cellsN l) ∧ l.length = k ∧ ∀ j, j < i → l.getD j nil0 = mark N
  mb : Blk w bm 37 [.int .i64 (1000 + (N : Int)), .int .u64 0, .int .i64 0]
  ne : bm ≠ g
  off : ¬ FK vL vM N F G g
  upd : Upd (fun q => q = g) w0 w
theorem FillN.step (f : FillN B w0 w bt vL vM pL pM N F G s bm g cap k i) (hi : i < k) : (∃ u, w.cell? ⟨g, i * 3, none⟩ = some u) ∧ (∃ u, w.cell? ⟨g, i * 3 + 1, none⟩ = some u) ∧ (∃ u, w.cell? ⟨g, i * 3 + 2, none⟩ = some u) ∧ (∀ j, w.frozen? ⟨g, j, none⟩ = false) ∧
    FillN B w0 (((w.setCell ⟨g, i * 3, none⟩ (.int .i64 (1000 + (N : Int)))).setCell ⟨g, i * 3 + 1, none⟩ (.int .u64 0)).setCell ⟨g, i * 3 + 2, none⟩ (.int .i64 0)) bt vL vM pL pM N F G s bm g cap k (i + 1) := by
  obtain ⟨l, h1, h2, h3⟩ := f.row
  obtain ⟨g', cap', ys, e, hb, hn, hm, hl, ht, hK⟩ := ownS_blk h1 (by omega)
  have e1 : g = g' ∧ cap = cap' := by simpa using e
  obtain ⟨rfl, rfl⟩ := e1
  have hat : ∀ j, j < k * 3 → ys[j]? = (cellsN l)[j]? := fun j hj => by rw [← ht, List.getElem?_take, if_pos hj]
  obtain ⟨c0, c1, c2⟩ := cellsN_at l i (by omega)
  have hu : Upd (fun q => q = g) w (((w.setCell ⟨g, i * 3, none⟩ (.int .i64 (1000 + (N : Int)))).setCell ⟨g, i * 3 + 1, none⟩ (.int .u64 0)).setCell ⟨g, i * 3 + 2, none⟩ (.int .i64 0)) :=
    (((Upd.refl (fun q => q = g) w).set ⟨g, i * 3, none⟩ (.int .i64 (1000 + (N : Int))) (.inl rfl)).set ⟨g, i * 3 + 1, none⟩ (.int .u64 0) (.inl rfl)).set ⟨g, i * 3 + 2, none⟩ (.int .i64 0) (.inl rfl)
  refine ⟨⟨_, by rw [hK.cell, hat _ (by omega), c0]⟩, ⟨_, by rw [hK.cell, hat _ (by omega), c1]⟩, ⟨_, by rw [hK.cell, hat _ (by omega), c2]⟩, fun j => hK.frozen j, ⟨f.bk.upd hu ?_, ⟨l.set i (mark N), ?_, by rw [List.length_set]; exact h2, fun j hj => ?_⟩, f.mb.upd hu f.ne, f.ne, f.off, f.upd.to hu⟩⟩
  · rintro q (rfl | hq) e2
    · subst e2; exact absurd (blk_type f.bk.t hK) (by decide)
    · subst e2; exact f.off hq
  · have h9 := ownS_of_blk (n := k) (c := 3) (((hK.set (i * 3) (.int .i64 (1000 + (N : Int)))).set (i * 3 + 1) (.int .u64 0)).set (i * 3 + 2) (.int .i64 0)) hb (by simpa using hl) hn hm
    rw [List.take_set, List.take_set, List.take_set, ht] at h9
    have h10 := cellsN_set3 l i (mark N) (by omega)
    unfold mark at h10
    simp only at h10
    rw [h10] at h9
    exact h9
  · rw [List.getD_eq_getElem?_getD]
    by_cases e2 : j = i
    · subst e2; rw [List.getElem?_set_self (by omega)]; rfl
    · rw [List.getElem?_set_ne (by omega), ← List.getD_eq_getElem?_getD]
      exact h3 j (by omega)
theorem FillN.full (f : FillN B w0 w bt vL vM pL pM N F G s bm g cap k k) : w.ownsRow B 37 3 (.slice (some ⟨g, 0, none⟩) k cap) k (mkN k N) := by
  obtain ⟨l, h1, h2, h3⟩ := f.row
  have e : l = List.replicate k (mark N) := by
    apply List.ext_getElem?
    intro j
    by_cases hj : j < k
    · have e := h3 j hj
      rw [List.getElem?_replicate, if_pos hj, List.getElem?_eq_getElem (by omega), ← e]
      simp [List.getD, show j < l.length by omega]
    · rw [List.getElem?_eq_none (by omega), List.getElem?_replicate, if_neg hj]
  rw [e] at h1
  exact h1
/-- What a list more leaves. -/
def KeepN (B : Nat) (w w' : World) (bt : Nat) (vL vM pL pM : Value) (N : Nat) (F G : Nat → Value) (v : Value) : Prop :=
  ∃ vL' vM' F' G' s', BkSt B w' bt vL' vM' pL pM (N + 1) F' G' s' ∧ Upd (fun q => q = bt ∨ v.ownBlock = some q ∨ FK vL vM N F G q) w w' ∧ ∀ q, FK vL' vM' (N + 1) F' G' q → FK vL vM N F G q ∨ v.ownBlock = some q ∨ w.heap.size ≤ q
theorem nodes_end (b : BkSt B w bt vL vM pL pM N F G s) (hN : N ≤ 1000) (hk : k ≤ 100000) (hv : w.ownsRow B 37 3 v k (mkN k N)) (hone : v.oneCell' = true) (hap : ∀ q, v.ownBlock = some q → ¬ FK vL vM N F G q) (hmb : Blk w bm 37 [.int .i64 (1000 + (N : Int)), .int .u64 0, .int .i64 0]) (h0 : Upd (fun q => v.ownBlock = some q) w0 w) (h0f : ∀ q, v.ownBlock = some q → q < w0.heap.size) :
    ∃ g1 c1 w1 g3 c3 w3 g4 c4 w4, (Builtin.append_ #[67, 67] 67 #[vL, .slice (some ⟨w.heap.size, 0, none⟩) 1 1]).run Tryd.prog (w.alloc (.cells #[v] 22)) = .ok (.slice (some ⟨g1, 0, none⟩) (N + 1) c1) w1 ∧
      (∃ u, w1.cell? ⟨bt, 0, none⟩ = some u) ∧ w1.frozen? ⟨bt, 0, none⟩ = false ∧ ∃ w2, w2 = w1.setCell ⟨bt, 0, none⟩ (.slice (some ⟨g1, 0, none⟩) (N + 1) c1) ∧
      (w2.cell? ⟨bm, 0, none⟩ = some (.int .i64 (1000 + (N : Int))) ∧ w2.cell? ⟨bm, 1, none⟩ = some (.int .u64 0) ∧ w2.cell? ⟨bm, 2, none⟩ = some (.int .i64 0)) ∧ (w2.cell? ⟨bt, 1, none⟩ = some vM ∧ (∀ ob, (w2.alloc ob).cell? ⟨bt, 1, none⟩ = some vM) ∧ w3.cell? ⟨bt, 1, none⟩ = some vM ∧ (∀ ob, (w3.alloc ob).cell? ⟨bt, 1, none⟩ = some vM)) ∧
      (Builtin.append_ #[22, 22] 22 #[v, .slice (some ⟨w2.heap.size, 0, none⟩) 1 1]).run Tryd.prog (w2.drew.alloc (.cells #[.int .i64 (1000 + (N : Int)), .int .u64 0, .int .i64 0] 37)) = .ok (.slice (some ⟨g3, 0, none⟩) (k + 1) c3) w3 ∧
      (Builtin.append_ #[67, 67] 67 #[vM, .slice (some ⟨w3.heap.size, 0, none⟩) 1 1]).run Tryd.prog (w3.alloc (.cells #[.slice (some ⟨g3, 0, none⟩) (k + 1) c3] 22)) = .ok (.slice (some ⟨g4, 0, none⟩) (N + 1) c4) w4 ∧
      (∃ u, w4.cell? ⟨bt, 1, none⟩ = some u) ∧ w4.frozen? ⟨bt, 1, none⟩ = false ∧ KeepN B w0 (w4.setCell ⟨bt, 1, none⟩ (.slice (some ⟨g4, 0, none⟩) (N + 1) c4)) bt vL vM pL pM N F G v := by
  obtain ⟨g1, c1, w1, r1, u1, l1, p1, rM1, hl1, hm1, hv1, hvn⟩ := half_one (t2 := 67) b.h (by decide) Tryd.underlying67 (by kernel_rfl) b.base (by omega) v k hv hone
  have offL : ∀ {q t : Nat} {xs : List Value}, Blk w q t xs → t ≠ 22 → ¬ vL.ownBlock = some q := fun hq ht e1 => by
    obtain ⟨ys, h2⟩ := ownS_type b.h.rL e1
    exact ht (blk_type hq h2)
  have t1 : Blk w1 bt 70 [vL, vM, pL, pM] := b.t.upd u1 (offL b.t (by decide))
  have m1 := hmb.upd u1 (offL hmb (by decide))
  obtain ⟨w2, hw2⟩ : ∃ w2, w2 = w1.setCell ⟨bt, 0, none⟩ (.slice (some ⟨g1, 0, none⟩) (N + 1) c1) := ⟨_, rfl⟩
  have u2 : Upd (fun q => q = bt) w1 w2 := by rw [hw2]; exact (Upd.refl _ w1).set _ _ (.inl rfl)
  have t2 : Blk w2 bt 70 [.slice (some ⟨g1, 0, none⟩) (N + 1) c1, vM, pL, pM] := by rw [hw2]; exact t1.set 0 _
  have off2 : ∀ {y : Value} {n e c : Nat} {xs : List Value}, w1.ownsRow B e c y n xs → e ≠ 70 → ∀ q, y.ownBlock = some q → ¬ q = bt := fun h he q hq e1 => by
    subst e1
    obtain ⟨ys, h2⟩ := ownS_type h hq
    exact he (blk_type h2 t1)
  have hd : Upd (fun q => q = bt) w1 w2.drew := u2.drew
  have m2 := m1.upd u2 (fun e1 => by subst e1; exact absurd (blk_type m1 t1) (by decide))
  have hsz : w.heap.size ≤ w2.heap.size := Nat.le_trans u1.size u2.size
  obtain ⟨g3, c3, w3, g4, c4, w4, r3, u3, r4, H4, u4, l4, l3⟩ := half_two (te := 22) (e := 37) (c := 3) (t2 := 67) (bytes := 24) (z := .agg #[.int .i64 0, .int .u64 0, .int .i64 0]) (w := w2.drew) (mk := mkN) (s := s) (by decide) Tryd.underlying67 (by kernel_rfl) Tryd.underlying22 (by kernel_rfl) rfl (by decide) (by decide) (Nat.le_trans b.base hsz) (by omega) v k (by omega)
    (p1.upd hd (off2 p1 (by decide))) (rM1.upd hd (off2 rM1 (by decide))) (fun j hj => ownS_upd (hl1 j hj) hd (off2 (hl1 j hj) (by decide))) (fun j hj => ownS_upd (hm1 j hj) hd (off2 (hm1 j hj) (by decide))) (ownS_upd hv1 hd (off2 hv1 (by decide))) hvn b.h.small
    (fun j hj q hq => ⟨fun e1 => hap q hq (.inr (.inr ⟨j, hj, .inl e1⟩)), fun e1 => hap q hq (.inr (.inr ⟨j, hj, .inr e1⟩))⟩) [.int .i64 (1000 + (N : Int)), .int .u64 0, .int .i64 0] rfl (by intro u hu; simp at hu; rcases hu with rfl | rfl | rfl <;> rfl) (by unfold mkN; rw [List.replicate_succ', cellsN_append]; rfl)
  have offv : ¬ v.ownBlock = some bt := fun e1 => by
    obtain ⟨ys, h2⟩ := ownS_type hv1 e1
    exact absurd (blk_type h2 t1) (by decide)
  have offM : ¬ vM.ownBlock = some bt := fun e1 => by
    obtain ⟨ys, h2⟩ := ownS_type rM1 e1
    exact absurd (blk_type h2 t1) (by decide)
  have t3 : Blk w3 bt 70 [.slice (some ⟨g1, 0, none⟩) (N + 1) c1, vM, pL, pM] := t2.drew.upd u3 offv
  have t4 : Blk w4 bt 70 [.slice (some ⟨g1, 0, none⟩) (N + 1) c1, vM, pL, pM] := t2.drew.upd u4 (fun h => h.elim offv offM)
  refine ⟨g1, c1, w1, g3, c3, w3, g4, c4, w4, r1, ⟨_, t1.cell 0⟩, t1.frozen 0, w2, hw2, ⟨m2.cell 0, m2.cell 1, m2.cell 2⟩, ⟨t2.cell 1, fun ob => (t2.alloc ob).cell 1, t3.cell 1, fun ob => (t3.alloc ob).cell 1⟩, r3, r4, ⟨_, t4.cell 1⟩, t4.frozen 1, ?_⟩
  have u5 : Upd (fun q => q = bt) w4 (w4.setCell ⟨bt, 1, none⟩ (.slice (some ⟨g4, 0, none⟩) (N + 1) c4)) := (Upd.refl _ w4).set _ _ (.inl rfl)
  have hbt4 := H4.off t4 (by decide) (by decide)
  refine ⟨_, _, _, _, _, ⟨H4.upd u5 (fun q hq e1 => by subst e1; exact hbt4 hq), t4.set 1 _, b.hb⟩, ?_, ?_⟩
  · have a1 : Upd (fun q => q = bt ∨ v.ownBlock = some q ∨ FK vL vM N F G q) w0 w1 := (h0.mono fun q _ h => .inr (.inl h)).trans u1 fun q _ h => .inr (.inr (.inl h))
    have a2 := a1.trans hd fun q _ h => .inl h
    have a3 := a2.trans u4 fun q _ h => h.elim (fun h => .inr (.inl h)) fun h => .inr (.inr (.inr (.inl h)))
    exact a3.trans u5 fun q _ h => .inl h
  · have hw0 : w0.heap.size ≤ w.heap.size := h0.size
    rintro q (e1 | e1 | ⟨j, hj, e1⟩)
    · injection e1 with e1
      have e2 : g1 = q := e1
      subst e2
      rcases l1 with h | h
      · exact .inl (.inl h)
      · exact .inr (.inr (by omega))
    · injection e1 with e1
      have e2 : g4 = q := e1
      subst e2
      rcases l4 with h | h
      · exact .inl (.inr (.inl h))
      · have h' : w2.heap.size ≤ g4 := h
        exact .inr (.inr (by omega))
    · by_cases ej : j = N
      · subst ej
        rw [ext_at, ext_at] at e1
        rcases e1 with e1 | e1
        · exact .inr (.inl e1)
        · injection e1 with e1
          have e2 : g3 = q := e1
          subst e2
          rcases l3 with h | h
          · exact .inr (.inl h)
          · have h' : w2.heap.size ≤ g3 := h
            exact .inr (.inr (by omega))
      · rw [ext_ne _ _ _ _ ej, ext_ne _ _ _ _ ej] at e1
        exact .inl (.inr (.inr ⟨j, by omega, e1⟩))
end
end Go.Proofs.YtlbgdgobhiokpaaDoor

/- The book's nodes: the walk. -/
namespace Go.Proofs.YtlbgdgobhiokpaaDoor
open Go.RowKit
set_option linter.unusedVariables false

set_option maxRecDepth 100000 in
set_option maxHeartbeats 4000000 in
theorem nodes_any (B bt : Nat) (vL vM pL pM : Value) (N : Nat) (F G : Nat → Value) (s : Nat → Nat) (v : Value) (D : List Nd) (w : World) (hb : Hid (BkSt B w bt vL vM pL pM N F G s)) (hv : Hid (w.ownsRow B 37 3 v D.length (cellsN D))) (hap : Hid (∀ q, v.ownBlock = some q → ¬ FK vL vM N F G q)) (hN : N ≤ 1000) (hk : D.length ≤ 100000) :
    Calls Tryd.prog 30 #[.pointer (some ⟨bt, 0, none⟩), v] w fun e w' => e = .returned (.tuple #[]) ∧ Hid (KeepN B w w' bt vL vM pL pM N F G v) := by
  obtain ⟨⟨aL, cL, rfl⟩, ⟨aM, cM, rfl⟩⟩ := hb.out.h.is
  have c0 := hb.out.t.cell 0
  simp only [List.getElem?_cons_zero] at c0
  obtain ⟨wA, hwA⟩ : ∃ wA, wA = w.alloc (.cells #[.int .i64 (1000 + (N : Int)), .int .u64 0, .int .i64 0] 37) := ⟨_, rfl⟩
  have K := Blk.newA w #[.int .i64 (1000 + (N : Int)), .int .u64 0, .int .i64 0] 37
  rw [← hwA] at K
  have hBA : Below w.heap.size w wA := by rw [hwA]; exact (Below.refl _ _).alloc (Nat.le_refl _) _
  have HbA := hide_ (hb.out.later hBA)
  have HvA := hide_ (ownS_upd hv.out (Upd.of_below (S := fun _ => False) hBA) (fun _ _ h => h))
  have hlt : ∀ q, v.ownBlock = some q → q < w.heap.size := fun q hq => (hv.out.lt q hq).2
  have HU : Hid (Upd (fun q => v.ownBlock = some q) w wA) := Upd.of_below hBA
  have HK := hide_ K
  rcases hv.out.2 with ⟨rfl, h0⟩ | ⟨g, cap, cur, rfl, _⟩
  · have hD : D = [] := List.length_eq_zero_iff.1 h0
    subst hD
    obtain ⟨g1, c1, w1, g3, c3, w3, g4, c4, w4, r1, ⟨u0, d0⟩, z0, w2, hw2, ⟨m0, m1, m2⟩, ⟨k0, k1, k2, k3⟩, r3, r4, ⟨u1, d1⟩, z1, KT⟩ := nodes_end (k := 0) HbA.out hN (Nat.zero_le _) HvA.out rfl hap.out HK.out HU.out (fun q hq => hlt q hq)
    have R1 := hide_ r1
    have R3 := hide_ r3
    have R4 := hide_ r4
    have HKT := hide_ KT
    have e0 := HbA.out.t.cell 0
    simp only [List.getElem?_cons_zero] at e0
    clear r1 r3 r4 KT hv hb hap HbA HvA HU HK K hBA hlt
    go_enter Tryd.func30, Tryd.ntmps30
    go_upto_region 1 with fail
    rw [← hwA]
    clear hwA c0
    go_wp2_with fail
    go_loop [5] (fun i => i = .int .i64 0) (fun _ => 0)
    case atStart => rfl
    case round =>
      subst hrel
      go_upto_region 6 with (first | (at_builtin; have _t := R1; refine wpList_append_run rfl (.tmp 27) (.tmp 29) 67 67 rfl rfl rfl R1.out ?_; clear R1))
      rw [← hw2]
      clear hw2 e0 d0 z0
      go_region_law (first
        | (refine step_append_run rfl (.tmp 38) (.tmp 40) 22 22 rfl rfl rfl R3.out ?_)
        | (refine step_append_run rfl (.tmp 37) (.tmp 42) 67 67 rfl rfl rfl R4.out ?_))
      all_goals
        go_wp2
        go_end0
        exact ⟨rfl, HKT⟩
  · have hgf := hap.out g rfl
    have hgw := hlt g rfl
    have HF0 : Hid (FillN B wA wA bt (.slice aL N cL) (.slice aM N cM) pL pM N F G s w.heap.size g cap D.length 0) := ⟨HbA.out, ⟨D, HvA.out, rfl, fun j hj => by omega⟩, HK.out, by omega, hgf, Upd.refl _ _⟩
    obtain ⟨k, hkD⟩ : ∃ k, D.length = k := ⟨_, rfl⟩
    rw [hkD] at HF0 hk ⊢
    have hone : (Value.slice (some ⟨g, 0, none⟩) k cap).oneCell' = true := rfl
    have HB0 := hide_ hBA
    clear hv hb HbA HvA HU HK K hBA hlt
    go_enter Tryd.func30, Tryd.ntmps30
    go_upto_region 1 with fail
    rw [← hwA]
    clear hwA c0
    go_wp2_with fail
    go_loopw [5] (fun xi wr => ∃ i : Nat, i ≤ k ∧ xi = .int .i64 i ∧ Hid (FillN B wA wr bt (.slice aL N cL) (.slice aM N cM) pL pM N F G s w.heap.size g cap k i)) (fun xi _ => k - (intOf xi).toNat)
    case atStart => exact ⟨0, Nat.zero_le _, rfl, HF0⟩
    case round =>
      clear HF0
      obtain ⟨i, hi, rfl, HF⟩ := hrel
      by_cases hik : i < k
      · have hik' : (i : Int) < k := by omega
        obtain ⟨⟨x0, b0⟩, ⟨x1, b1⟩, ⟨x2, b2⟩, hz, f2⟩ := HF.out.step hik
        have a0 := HF.out.mb.cell 0
        have a1 := HF.out.mb.cell 1
        have a2 := HF.out.mb.cell 2
        simp only [List.getElem?_cons_zero, List.getElem?_cons_succ] at a0 a1 a2
        have HF2 := hide_ f2
        clear f2 HF
        go_wp2
        go_roundw
        case rel => exact ⟨i + 1, by omega, by go_num, HF2⟩
        case measure => simp [intOf]; omega
      · obtain rfl : i = k := by omega
        have hnl : ¬ ((i : Int) < (i : Int)) := by omega
        obtain ⟨g1, c1, w1, g3, c3, w3, g4, c4, w4, r1, ⟨u0, d0⟩, z0, w2, hw2, ⟨m0, m1, m2⟩, ⟨k0, k1, k2, k3⟩, r3, r4, ⟨u1, d1⟩, z1, KT⟩ := nodes_end (w0 := w) (v := .slice (some ⟨g, 0, none⟩) i cap) HF.out.bk hN hk HF.out.full rfl (fun q hq => by injection hq with hq; have e : g = q := hq; subst e; exact hgf) HF.out.mb (((Upd.of_below HB0.out : Upd (fun q => (Value.slice (some ⟨g, 0, none⟩) i cap).ownBlock = some q) w wA)).trans HF.out.upd fun q _ h => by subst h; rfl) (fun q hq => by injection hq with hq; have e : g = q := hq; subst e; exact hgw)
        have R1 := hide_ r1
        have R3 := hide_ r3
        have R4 := hide_ r4
        have HKT := hide_ KT
        have e0 := HF.out.bk.t.cell 0
        simp only [List.getElem?_cons_zero] at e0
        clear r1 r3 r4 KT HF hap
        go_upto_region 6 with (first | (at_builtin; have _t := R1; refine wpList_append_run rfl (.tmp 27) (.tmp 29) 67 67 rfl rfl rfl R1.out ?_; clear R1))
        rw [← hw2]
        clear hw2 e0 d0 z0
        go_region_law (first
          | (refine step_append_run rfl (.tmp 38) (.tmp 40) 22 22 rfl rfl rfl R3.out ?_)
          | (refine step_append_run rfl (.tmp 37) (.tmp 42) 67 67 rfl rfl rfl R4.out ?_))
        all_goals
          go_wp2
          go_end0
          exact ⟨rfl, HKT⟩
end Go.Proofs.YtlbgdgobhiokpaaDoor

/- The book's holds. -/
namespace Go.Proofs.YtlbgdgobhiokpaaDoor
open Go.RowKit
set_option linter.unusedVariables false

def mkP (k j : Nat) : List Value := cellsL .i64 (List.replicate k (-1 - (j : Int)))
/-- Row number k of a half, and the longer one. -/
theorem half_at {te e c B : Nat} {mk : Nat → Nat → List Value} {w : World} {vL vM : Value} {N : Nat} {F G : Nat → Value} {s : Nat → Nat} (b : Half te e c mk B w vL vM N F G s) (k : Nat) (hk : k < N) :
    ∃ qL cL qM cM aF cF gM cG, vL = .slice (some ⟨qL, 0, none⟩) N cL ∧ vM = .slice (some ⟨qM, 0, none⟩) N cM ∧ w.cell? ⟨qL, k, none⟩ = some (.slice aF (s k) cF) ∧ w.cell? ⟨qM, k, none⟩ = some (.slice (some ⟨gM, 0, none⟩) (s k + 1) cG) ∧
      (∀ j, j < (s k + 1) * c → w.cell? ⟨gM, j, none⟩ = (mk (s k + 1) k)[j]?) ∧ (0 < s k → ∃ gL, aF = some ⟨gL, 0, none⟩ ∧ ∀ j, j < s k * c → w.cell? ⟨gL, j, none⟩ = (mk (s k) k)[j]?) ∧ N ≤ cL ∧ N ≤ cM ∧ s k ≤ cF ∧ s k + 1 ≤ cG := by
  obtain ⟨qL, cL, rfl, _, h1, _, hL⟩ := b.rL.open (by omega)
  obtain ⟨qM, cM, rfl, _, h2, _, hM⟩ := b.rM.open (by omega)
  have d1 := hL k hk
  have d2 := hM k hk
  obtain ⟨gM, cG, ys, e1, q1, q2, q3, q4, q5, q6⟩ := ownS_blk (b.m k hk) (by omega)
  rw [e1] at d2
  have hat : ∀ j, j < (s k + 1) * c → w.cell? ⟨gM, j, none⟩ = (mk (s k + 1) k)[j]? := fun j hj => by
    rw [q6.cell, ← q5, List.getElem?_take, if_pos hj]
  rcases (b.l k hk).2 with ⟨e2, h0⟩ | ⟨g, cap, cur, e2, p1, p2, p3, p4, p5, p6⟩
  · rw [e2] at d1
    rw [h0] at d2 hat q2 ⊢
    exact ⟨qL, cL, qM, cM, none, 0, gM, cG, rfl, rfl, d1, d2, hat, fun h => by omega, h1, h2, Nat.le_refl _, q2⟩
  · rw [e2] at d1
    have hK : Blk w g e cur.toList := by unfold Blk; rw [Array.toArray_toList]; exact p2
    exact ⟨qL, cL, qM, cM, _, _, gM, cG, rfl, rfl, d1, d2, hat, fun _ => ⟨g, rfl, fun j hj => by rw [hK.cell, ← p6, List.getElem?_take, if_pos hj]⟩, h1, h2, p3, q2⟩
theorem mkN_at (k j i : Nat) (hi : i < k) : (mkN k j)[i * 3]? = some (.int .i64 (1000 + (j : Int))) := by
  unfold mkN
  rw [(cellsN_at _ i (by simpa using hi)).1]
  simp [List.getD, hi, mark]
theorem mkP_at (k j i : Nat) (hi : i < k) : (mkP k j)[i]? = some (.int .i64 (-1 - (j : Int))) := by
  unfold mkP
  rw [cellsL_at _ _ i (by simpa using hi)]
  simp [List.getD, hi]
set_option maxHeartbeats 4000000 in
set_option maxRecDepth 100000 in
theorem holds_any (B bt : Nat) (vL vM pL pM : Value) (N Np : Nat) (F G Fp Gp : Nat → Value) (s sp : Nat → Nat) (w : World) (hb : Hid (BkSt B w bt vL vM pL pM N F G s)) (hp : Hid (Half 43 3 1 mkP B w pL pM Np Fp Gp sp)) (hN : N ≤ 1000) (hNp : Np ≤ 1000) :
    Calls Tryd.prog 31 #[.pointer (some ⟨bt, 0, none⟩)] w fun e w' => e = .returned (.bool true) ∧ w = w' := by
  obtain ⟨⟨aL, cL, rfl⟩, ⟨aM, cM, rfl⟩⟩ := hb.out.h.is
  obtain ⟨⟨aP, cP, rfl⟩, ⟨aQ, cQ, rfl⟩⟩ := hp.out.is
  have c0 := hb.out.t.cell 0
  have c1 := hb.out.t.cell 1
  have c2 := hb.out.t.cell 2
  have c3 := hb.out.t.cell 3
  simp only [List.getElem?_cons_zero, List.getElem?_cons_succ] at c0 c1 c2 c3
  go_enter Tryd.func31, Tryd.ntmps31
  go_wp2_with fail
  go_loopw [3] (fun xk wr => ∃ k : Nat, k ≤ N ∧ xk = .int .i64 k ∧ w = wr) (fun xk _ => N - (intOf xk).toNat)
  case atStart => exact ⟨0, Nat.zero_le _, rfl, rfl⟩
  case round =>
    obtain ⟨k, hk, rfl, rfl⟩ := hrel
    by_cases hkN : k < N
    · have hkN' : (k : Int) < N := by omega
      obtain ⟨qL, cL', qM, cM', aF, cF, gM, cG, e1, e2, dL, dM, dm, dl, n1, n2, n3, n4⟩ := half_at hb.out.h k hkN
      have e1' : aL = some ⟨qL, 0, none⟩ ∧ cL = cL' := by simpa using e1
      have e2' : aM = some ⟨qM, 0, none⟩ ∧ cM = cM' := by simpa using e2
      obtain ⟨rfl, rfl⟩ := e1'
      obtain ⟨rfl, rfl⟩ := e2'
      have hsm := hb.out.h.small k hkN
      obtain ⟨sk, hsk⟩ : ∃ sk, s k = sk := ⟨_, rfl⟩
      rw [hsk] at dL dM dm dl n3 n4 hsm
      clear e1 e2 hsk
      have Dm := hide_ dm
      have Dl := hide_ dl
      clear dm dl
      go_wp2_with fail
      go_loopw [4] (fun xi wx => ∃ i : Nat, i ≤ sk + 1 ∧ xi = .int .i64 i ∧ w = wx) (fun xi _ => sk + 1 - (intOf xi).toNat)
      case atStart => exact ⟨0, Nat.zero_le _, rfl, rfl⟩
      case round =>
        obtain ⟨i, hi, rfl, rfl⟩ := hrel
        by_cases his : i < sk
        · have his' : (i : Int) < sk := by omega
          have his2 : (i : Int) < (sk : Int) + 1 := by omega
          obtain ⟨gL, rfl, dl2⟩ := Dl.out (by omega)
          have x1 := Dm.out (i * 3) (by omega)
          rw [mkN_at _ _ _ (by omega)] at x1
          have x2 := dl2 (i * 3) (by omega)
          rw [mkN_at _ _ _ his] at x2
          clear dl2
          go_wp2
          go_roundw
          case rel => exact ⟨i + 1, by omega, by go_num, trivial⟩
          case measure => simp [intOf]; omega
        · by_cases hie : i = sk
          · subst hie
            have hdf : ¬ ((i : Int) < (i : Int)) := by omega
            have his2 : (i : Int) < (i : Int) + 1 := by omega
            have x1 := Dm.out (i * 3) (by omega)
            rw [mkN_at _ _ _ (by omega)] at x1
            go_wp2
            go_roundw
            case rel => exact ⟨i + 1, by omega, by go_num, trivial⟩
            case measure => simp [intOf]
          · obtain rfl : i = sk + 1 := by omega
            have his2 : ¬ ((sk + 1 : Nat) : Int) < (sk : Int) + 1 := by omega
            clear hie his
            go_wp2
            go_roundw
            case rel => exact ⟨k + 1, by omega, by go_num, trivial⟩
            case measure => simp [intOf]; omega
    · obtain rfl : k = N := by omega
      have hnl : ¬ ((k : Int) < (k : Int)) := by omega
      go_wp2_with fail
      go_loopw [5] (fun xk wr => ∃ k : Nat, k ≤ Np ∧ xk = .int .i64 k ∧ w = wr) (fun xk _ => Np - (intOf xk).toNat)
      case atStart => exact ⟨0, Nat.zero_le _, rfl, rfl⟩
      case round =>
        clear hnl hkN
        obtain ⟨j, hj, rfl, rfl⟩ := hrel
        by_cases hjN : j < Np
        · have hjN' : (j : Int) < Np := by omega
          obtain ⟨qL, cL', qM, cM', aF, cF, gM, cG, e1, e2, dL, dM, dm, dl, n1, n2, n3, n4⟩ := half_at hp.out j hjN
          have e1' : aP = some ⟨qL, 0, none⟩ ∧ cP = cL' := by simpa using e1
          have e2' : aQ = some ⟨qM, 0, none⟩ ∧ cQ = cM' := by simpa using e2
          obtain ⟨rfl, rfl⟩ := e1'
          obtain ⟨rfl, rfl⟩ := e2'
          have hsm := hp.out.small j hjN
          obtain ⟨sk, hsk⟩ : ∃ sk, sp j = sk := ⟨_, rfl⟩
          rw [hsk] at dL dM dm dl n3 n4 hsm
          clear e1 e2 hsk
          have Dm := hide_ dm
          have Dl := hide_ dl
          clear dm dl
          go_wp2_with fail
          go_loopw [6] (fun xi wx => ∃ i : Nat, i ≤ sk + 1 ∧ xi = .int .i64 i ∧ w = wx) (fun xi _ => sk + 1 - (intOf xi).toNat)
          case atStart => exact ⟨0, Nat.zero_le _, rfl, rfl⟩
          case round =>
            obtain ⟨i, hi, rfl, rfl⟩ := hrel
            by_cases his : i < sk
            · have his' : (i : Int) < sk := by omega
              have his2 : (i : Int) < (sk : Int) + 1 := by omega
              obtain ⟨gL, rfl, dl2⟩ := Dl.out (by omega)
              have x1 := Dm.out i (by omega)
              rw [mkP_at _ _ _ (by omega)] at x1
              have x2 := dl2 i (by omega)
              rw [mkP_at _ _ _ his] at x2
              clear dl2
              go_wp2
              go_roundw
              case rel => exact ⟨i + 1, by omega, by go_num, trivial⟩
              case measure => simp [intOf]; omega
            · by_cases hie : i = sk
              · subst hie
                have hdf : ¬ ((i : Int) < (i : Int)) := by omega
                have his2 : (i : Int) < (i : Int) + 1 := by omega
                have x1 := Dm.out i (by omega)
                rw [mkP_at _ _ _ (by omega)] at x1
                go_wp2
                go_roundw
                case rel => exact ⟨i + 1, by omega, by go_num, trivial⟩
                case measure => simp [intOf]
              · obtain rfl : i = sk + 1 := by omega
                have his2 : ¬ ((sk + 1 : Nat) : Int) < (sk : Int) + 1 := by omega
                clear hie his
                go_wp2
                go_roundw
                case rel => exact ⟨j + 1, by omega, by go_num, trivial⟩
                case measure => simp [intOf]; omega
        · obtain rfl : j = Np := by omega
          have hnl : ¬ ((j : Int) < (j : Int)) := by omega
          go_wp2
          go_ret
          exact ⟨rfl, rfl⟩
end Go.Proofs.YtlbgdgobhiokpaaDoor

/- Value: an arena's value. -/
namespace Go.Proofs.YtlbgdgobhiokpaaDoor
open Go.RowKit
set_option linter.unusedVariables false

theorem own_top {B p : Nat} {st : List Nat} {w : World} {v : Value} (h : w.ownsRow B 3 1 v (p :: st).length (cellsL .i64 (stL (p :: st)))) :
    ∃ g cap, v = .slice (some ⟨g, 0, none⟩) (st.length + 1) cap ∧ st.length + 1 ≤ cap ∧ cap ≤ maxLen ∧ w.cell? ⟨g, st.length, none⟩ = some (.int .i64 (p : Int)) ∧ w.ownsRow B 3 1 (.slice (some ⟨g, 0, none⟩) st.length cap) st.length (cellsL .i64 (stL st)) := by
  obtain ⟨g, cap, ys, e, hb, h1, h2, h3, h4, hK⟩ := own_blk h (by simp)
  rw [List.length_cons] at e h1 h4
  refine ⟨g, cap, e, h1, h2, ?_, ?_⟩
  · have h5 : ys[st.length]? = (ys.take (st.length + 1))[st.length]? := by rw [List.getElem?_take, if_pos (by omega)]
    rw [hK.cell, h5, h4, cellsL_at _ _ _ (by rw [stL_len]; simp), stL_top]
  · rw [e, List.length_cons, stL_cons] at h
    have h6 := own_front h (by omega) (by rw [stL_len]; simp)
    rw [stL_len] at h6
    exact h6
set_option maxRecDepth 100000 in
set_option maxHeartbeats 8000000 in
theorem valueA_err (B b : Nat) (vn vs vm : Value) (N : List Nd) (S G : Stk) (w : World) (hA : Hid (An B w b vn vs vm N S G)) (hN : N.length ≤ 1000000) (hw : wholeB N G = false) :
    Calls Tryd.prog 25 #[.pointer (some ⟨b, 0, none⟩)] w fun e w' => e = .returned (.tuple #[.slice none 0 0, .int .i64 40]) ∧ Below w.heap.size w w' := by
  go_enter Tryd.func25, Tryd.ntmps25
  go_wp2_with fail
  refine (whole_any B b vn vs vm N S G w hA hN).mono ?_; rintro e w1 ⟨rfl, hB1⟩
  rw [hw]
  go_wp2
  go_ret2
  exact ⟨rfl, hB1⟩
set_option maxRecDepth 100000 in
set_option maxHeartbeats 8000000 in
theorem valueA_ok (B b T : Nat) (vn vs vm : Value) (N L : List Nd) (S G : Stk) (ch : Nat → Nat → Nat) (w : World) (hA : Hid (An B w b vn vs vm N S G)) (hN : N.length ≤ 1000000) (hT : N.length = T + 1) (hw : Hid (wholeB N G = true)) (hoff : Hid (offN N N.length = T)) (hks : Hid (∀ j, j < N.length → 0 ≤ (N.getD j nil0).2.2)) (hS : Hid (S.length = N.length)) (hsp : Hid (SpotsIn N S)) (hK : Hid (Kids N S ch)) (hL : Hid (vOf N ch 0 = L)) (hLl : L.length ≤ 1000000) :
    Calls Tryd.prog 25 #[.pointer (some ⟨b, 0, none⟩)] w fun e w' => ∃ v, e = .returned (.tuple #[v, .int .i64 0]) ∧ Hid (w'.ownsRow w.heap.size 37 3 v L.length (cellsN L)) ∧ Hid (Below w.heap.size w w') := by
  obtain ⟨ys, hys, hmk⟩ := make22 N.length hN w
  have HT : Hid (N.length = T + 1) := hT
  clear hT
  go_enter Tryd.func25, Tryd.ntmps25
  go_wp2_with fail
  refine (whole_any B b vn vs vm N S G w hA hN).mono ?_; rintro e w1 ⟨rfl, hB1⟩
  rw [hw.out]
  have HA1 : Hid (An B w1 b vn vs vm N S G) := hA.out.later hB1
  go_wp2_with fail
  refine (kids_any B b T vn vs vm N S G w1 HA1 hN HT.out hoff hks hS hsp).mono ?_; rintro e wk ⟨gk, gr, R, rfl, hgk, hgr, HKd, HRl, HRo, HBk⟩
  have HAk : Hid (An B wk b vn vs vm N S G) := HA1.out.later HBk.out
  have HBw : Hid (Below w.heap.size w wk) := hB1.trans (HBk.out.mono hB1.size)
  obtain ⟨an, cn, rfl, hcn⟩ := HAk.out.vn_is
  have c0 := HAk.out.c0
  obtain ⟨wm, hwm⟩ : ∃ wm, wm = wk.alloc (.cells ys 37) := ⟨_, rfl⟩
  have HBm : Hid (Below wk.heap.size wk wm) := by rw [hwm]; exact (Below.refl _ _).alloc (Nat.le_refl _) _
  have hcap : Hid (N.length ≤ maxLen) := by show _ ≤ _; unfold maxLen; omega
  have HVm : Hid (wm.ownsRow wk.heap.size 37 3 (.slice (some ⟨wk.heap.size, 0, none⟩) 0 N.length) 0 (cellsN [])) := by
    have h := ownS_of_blk (n := 0) (c := 3) (cap := N.length) (Blk.newA wk ys 37) (Nat.le_refl _) (by simpa using hys) (Nat.zero_le _) hcap.out
    rw [← hwm] at h
    rw [Nat.zero_mul, List.take_zero] at h
    exact h
  obtain ⟨wo, hwo⟩ : ∃ wo, wo = wm.alloc (.cells #[.int .i64 0] 3) := ⟨_, rfl⟩
  have HBo : Hid (Below wk.heap.size wk wo) := by rw [hwo]; exact HBm.out.alloc HBm.out.size _
  have HVo : Hid (wo.ownsRow wk.heap.size 37 3 (.slice (some ⟨wk.heap.size, 0, none⟩) 0 N.length) 0 (cellsN [])) := by rw [hwo]; exact HVm.out.alloc _
  have HOo : Hid (wo.ownsRow wk.heap.size 3 1 (.slice (some ⟨wm.heap.size, 0, none⟩) 1 1) 1 (cellsL .i64 (stL [0]))) := by
    have h := (Blk.newA wm #[.int .i64 0] 3).owns wk.heap.size 1 1 HBm.out.size rfl (Nat.le_refl _) (by unfold maxLen; omega)
    rw [← hwo] at h
    exact h
  clear hB1 HA1 HBk hgk
  go_upto_region 5 with fail
  rw [← hwm]
  clear hwm hmk c0 HBm
  go_upto_region 6 with fail
  rw [← hwo]
  clear hwo
  have HD0 : Hid (Dfs N ch L [] [0]) := ⟨by simp [hL.out], fun p hp => by have := HT.out; simp at hp; omega⟩
  go_loopw [5, 6] (fun x5 x6 wr => ∃ (vv vo : Value) (D : List Nd) (st : List Nat), vv = x5 ∧ vo = x6 ∧ Hid (Dfs N ch L D st) ∧ Hid (wr.ownsRow wk.heap.size 37 3 vv D.length (cellsN D)) ∧ Hid (wr.ownsRow wk.heap.size 3 1 vo st.length (cellsL .i64 (stL st))) ∧ Hid (Below wk.heap.size wk wr)) (fun x5 _ _ => match x5 with | .slice _ n _ => L.length - n | _ => 0)
  case atStart => exact ⟨_, _, [], [0], rfl, rfl, HD0, HVo, HOo, HBo⟩
  case round =>
    clear HVm HVo HOo HBo HD0
    obtain ⟨vv, vo, D, st, rfl, rfl, HD, HV, HO, HB⟩ := hrel
    have hlen := HD.out.len hK.out
    obtain ⟨va, vc, rfl⟩ : ∃ a c, vv = .slice a D.length c := by
      rcases HV.out.2 with ⟨e, h0⟩ | ⟨g, cap, cur, e, _⟩
      · exact ⟨none, 0, by rw [e, h0]⟩
      · exact ⟨_, _, e⟩
    cases st with
    | nil =>
      have hDL : D = L := by have := HD.out.tot; simpa using this
      subst hDL
      have hvo0 : ∃ a c, vo = .slice a 0 c := by
        rcases HO.out.2 with ⟨e, _⟩ | ⟨g, cap, cur, e, _⟩ <;> exact ⟨_, _, e⟩
      obtain ⟨ao, co, rfl⟩ := hvo0
      go_wp2
      go_ret2
      exact ⟨_, rfl, own_mono HV.out HBw.out.size, HBw.out.trans (HB.out.mono HBw.out.size)⟩
    | cons p st =>
      have hp := HD.out.ins p (by simp)
      have hp' : (p : Int) < N.length := by omega
      obtain ⟨go, co, rfl, ho1, ho2, o1, o2⟩ := own_top HO.out
      have HO2 : Hid _ := o2
      have HAr : Hid (An B wr b (.slice an N.length cn) vs vm N S G) := HAk.out.later HB.out
      obtain ⟨gn, cn', hvn, -, hn1, hn2, hgn, n0, n1, n2, -, -⟩ := HAr.out.node hp
      have e1 : an = some ⟨gn, 0, none⟩ ∧ cn = cn' := by simpa using hvn
      obtain ⟨rfl, rfl⟩ := e1
      clear hvn
      obtain ⟨⟨xk, xn, xc⟩, hx⟩ : ∃ x, N.getD p nil0 = x := ⟨_, rfl⟩
      have h0c : 0 ≤ xc := by have := hks.out p hp; rw [hx] at this; exact this
      obtain ⟨c, rfl⟩ := Int.eq_ofNat_of_zero_le h0c
      have hkN : Hid (kN (N.getD p nil0) = c) := by show _ = _; rw [hx]; simp [kN]
      have HD2 : Hid (Dfs N ch L (D ++ [(xk, xn, (c : Int))]) ((List.range c).map (ch p) ++ st)) := by
        have h := HD.out.step hK.out
        rw [hkN.out, hx] at h
        exact h
      have hlen2 := HD2.out.len hK.out
      simp only [List.length_append, List.length_cons, List.length_nil, List.length_map, List.length_range] at hlen2 hlen
      rw [hx] at n0 n1 n2
      simp only at n0 n1 n2
      have c0 := HAr.out.c0
      have hgr' : gr < wk.heap.size := HKd.out.rb.lt
      obtain ⟨g9, cap9, w9, r9, ow9, u9, -⟩ := run_pushS (P := Tryd.prog) (t := 22) (e := 37) (z := .agg #[.int .i64 0, .int .u64 0, .int .i64 0]) (bytes := 24) Tryd.underlying22 (by kernel_rfl) rfl (by decide) wr 22 HV.out [.int .i64 xk, .int .u64 xn, .int .i64 (c : Int)] rfl (by intro u hu; simp at hu; rcases hu with rfl | rfl | rfl <;> rfl) (by unfold maxLen; omega) (by omega) HB.out.size
      have R9 : Hid _ := r9
      have HV9 : Hid (w9.ownsRow wk.heap.size 37 3 (.slice (some ⟨g9, 0, none⟩) (D.length + 1) cap9) (D ++ [(xk, xn, (c : Int))]).length (cellsN (D ++ [(xk, xn, (c : Int))]))) := by
        rw [List.length_append, cellsN_append]
        exact ow9
      have HB9 : Hid (Below wk.heap.size wk w9) := HB.out.trans (u9.below _ HB.out.size fun k hk => (HV.out.lt k hk).1)
      have HO9 : Hid (w9.ownsRow wk.heap.size 3 1 (.slice (some ⟨go, 0, none⟩) st.length co) st.length (cellsL .i64 (stL st))) := ownS_upd HO2.out u9 fun k hk hk2 => by
        obtain ⟨ys1, hy⟩ := ownS_type HV.out hk2
        obtain ⟨zs1, hz⟩ := ownS_type HO2.out hk
        exact absurd (blk_type hy hz) (by decide)
      have HA9 : Hid (An B w9 b (.slice (some ⟨gn, 0, none⟩) N.length cn) vs vm N S G) := HAk.out.later HB9.out
      clear r9 ow9 u9 o2
      unfold maxLen at ho2 hn2
      have d0 := HA9.out.c0
      obtain ⟨gn', cn', hvn, -, -, -, -, -, -, d2, -, -⟩ := HA9.out.node hp
      have e1 : gn = gn' ∧ cn = cn' := by simpa using hvn
      obtain ⟨rfl, rfl⟩ := e1
      rw [hx] at d2
      simp only at d2
      clear hvn hx
      go_wp2_with (at_builtin; have _t := R9; refine wpList_append_run rfl (.tmp 35) (.tmp 43) 22 22 rfl rfl rfl R9.out ?_; clear R9)
      go_loopw [6, 8] (fun x6 x8 wr => ∃ (vo : Value) (j : Nat) (y : Int), vo = x6 ∧ x8 = .int .i64 y ∧ y + 1 = j ∧ j ≤ c ∧ Hid (wr.ownsRow wk.heap.size 3 1 vo (heap' ch p c j st).length (cellsL .i64 (stL (heap' ch p c j st)))) ∧ Hid (wr.ownsRow wk.heap.size 37 3 (.slice (some ⟨g9, 0, none⟩) (D.length + 1) cap9) (D ++ [(xk, xn, (c : Int))]).length (cellsN (D ++ [(xk, xn, (c : Int))]))) ∧ Hid (Below wk.heap.size wk wr)) (fun _ x8 _ => (intOf x8 + 1).toNat)
      case atStart => exact ⟨_, c, (c : Int) - 1, rfl, by go_num, by omega, Nat.le_refl _, by rw [heap'_end]; exact HO9.out, HV9, HB9⟩
      case round =>
        clear n0 n1 n2 c0 d0 d2 o1 HV HO HB HO2 HV9 HB9 HO9 HA9 HAr hgn
        obtain ⟨vo, j, y, rfl, rfl, hy, hj, HO, HV, HB⟩ := hrel
        cases j with
        | zero =>
          obtain rfl : y = -1 := by omega
          have hneg : ¬ ((0 : Int) ≤ -1) := by omega
          go_wp2
          go_roundw
          case rel =>
            refine ⟨_, _, D ++ [(xk, xn, (c : Int))], heap' ch p c 0 st, rfl, rfl, ?_, HV, HO, HB⟩
            rw [heap'_zero]
            exact HD2
          case measure => simp; omega
        | succ j =>
          obtain rfl : y = (j : Int) := by omega
          have hjc : j < kN (N.getD p nil0) := by rw [hkN.out]; omega
          have HKr : Hid (Kd wr gk gr N N.length R) := HKd.out.later HB.out
          obtain ⟨x, cc, a5, hxo, hc1, hc2⟩ := HKr.out.at hp
          obtain rfl := hxo (by omega)
          rw [hkN.out] at a5 hc1
          have hin := offN_in N hoff.out hp hjc
          obtain ⟨a6, -⟩ := HKr.out.room (j := offN N p + j) (by rw [HRl.out]; exact hin)
          obtain ⟨hch1, hch2, hch3⟩ := hK.out p hp j hjc
          rw [HRo.out (ch p j) (by omega) hch2 p j hch3] at a6
          have hhl := heap'_len ch p c (j + 1) st
          obtain ⟨g7, cap7, w7, r7, ow7, u7, -⟩ := run_push E43 wr 43 wk.heap.size vo _ _ HO.out (ch p j : Int) (by rw [hhl]; unfold maxLen; omega) (by rw [hhl]; omega) HB.out.size
          have R7 : Hid _ := r7
          have HO7 : Hid (w7.ownsRow wk.heap.size 3 1 (.slice (some ⟨g7, 0, none⟩) ((heap' ch p c (j + 1) st).length + 1) cap7) (heap' ch p c j st).length (cellsL .i64 (stL (heap' ch p c j st)))) := by
            rw [heap'_step ch p c j st (by omega), stL_cons, List.length_cons]
            exact ow7
          have HB7 : Hid (Below wk.heap.size wk w7) := HB.out.trans (u7.below _ HB.out.size fun k hk => (HO.out.lt k hk).1)
          have HV7 : Hid _ := ownS_upd HV.out u7 fun k hk hk2 => by
            obtain ⟨ys1, hy⟩ := ownS_type HO.out hk2
            obtain ⟨zs1, hz⟩ := ownS_type HV.out hk
            exact absurd (blk_type hy hz) (by decide)
          have hj0 : (0 : Int) ≤ (j : Int) := by omega
          have hjc' : (j : Int) < (c : Int) := by omega
          clear r7 ow7 u7 hch1 hch2 hch3 hin HKr hjc hhl HO HV HB hy
          generalize offN N p = of at *
          generalize (heap' ch p c (j + 1) st).length = hl at *
          generalize ch p j = cpj at *
          go_wp2_with (at_builtin; have _t := R7; refine wpList_append_run rfl (.tmp 58) (.tmp 66) 43 43 rfl rfl rfl R7.out ?_; clear R7)
          go_roundw
          case rel => exact ⟨_, j, (j : Int) - 1, rfl, by go_num, by omega, by omega, HO7, HV7, HB7⟩
          case measure => simp [intOf]
end Go.Proofs.YtlbgdgobhiokpaaDoor
