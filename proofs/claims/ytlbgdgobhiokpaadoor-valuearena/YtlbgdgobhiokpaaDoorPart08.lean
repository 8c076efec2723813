import Derived.Test.YtlbgdgobhiokpaaDoorPart07
import Derived.BigRegion
import Derived.Test.YtlbgdgobhiokpaaDoorPart02
import Derived.Maps.OwnSet
import Derived.DeepKeys4

/- An arena without gaps, in memory; refuse. -/
namespace Go.Proofs.YtlbgdgobhiokpaaDoor
open Go.RowKit
set_option linter.unusedVariables false

def cellsS (S : Stk) : List Value := S.flatMap fun e => [.int .i64 e.1, .int .i64 e.2]
theorem cellsS_len (S : Stk) : (cellsS S).length = S.length * 2 := by
  induction S with
  | nil => rfl
  | cons x N ih => rw [cellsS, List.flatMap_cons, List.length_append]; rw [cellsS] at ih; rw [ih]; simp; omega
theorem cellsS_append (N M : Stk) : cellsS (N ++ M) = cellsS N ++ cellsS M := by simp [cellsS]
theorem cellsS_at : ∀ (S : Stk) (i : Nat), i < S.length → (cellsS S)[i * 2]? = some (.int .i64 (S.getD i (0, 0)).1) ∧ (cellsS S)[i * 2 + 1]? = some (.int .i64 (S.getD i (0, 0)).2)
  | [], i, h => by simp at h
  | x :: N, 0, _ => ⟨rfl, rfl⟩
  | x :: N, i + 1, h => by
    have ih := cellsS_at N i (by simpa using h)
    have e : ∀ j, (cellsS (x :: N))[j + 2]? = (cellsS N)[j]? := fun j => by simp [cellsS]
    rw [show (i + 1) * 2 = i * 2 + 2 by omega, show i * 2 + 2 + 1 = (i * 2 + 1) + 2 by omega, e, e]
    simpa using ih
structure Ar (B : Nat) (w : World) (b : Nat) (vn vs : Value) (N : List Nd) (S : Stk) : Prop where
  blk : Blk w b 101 [vn, vs, .map none]
  hb : B ≤ b
  nod : w.ownsRow B 37 3 vn N.length (cellsN N)
  spo : w.ownsRow B 103 2 vs S.length (cellsS S)
/-- Below B nothing has turned, above it nothing but arenas, nodes and spots. -/
structure KeptA (B : Nat) (w w' : World) : Prop where
  bel : Below B w w'
  oth : ∀ g t xs, t ≠ 101 → t ≠ 37 → t ≠ 103 → Blk w g t xs → Blk w' g t xs
section
variable {B b : Nat} {w w' w1 : World} {vn vs v : Value} {N : List Nd} {S : Stk}
theorem KeptA.refl (B : Nat) (w : World) : KeptA B w w := ⟨Below.refl _ _, fun _ _ _ _ _ _ h => h⟩
theorem KeptA.trans (h : KeptA B w w1) (k : KeptA B w1 w') : KeptA B w w' := ⟨h.bel.trans k.bel, fun g t xs h1 h2 h3 hb => k.oth g t xs h1 h2 h3 (h.oth g t xs h1 h2 h3 hb)⟩
theorem KeptA.of_below (hB : B ≤ w.heap.size) (h : Below w.heap.size w w') : KeptA B w w' := ⟨h.mono hB, fun g t xs _ _ _ hb => hb.later h⟩
theorem KeptA.drew (h : KeptA B w w1) : KeptA B w w1.drew := ⟨h.bel.drew, h.oth⟩
theorem Ar.later (h : Ar B w b vn vs N S) (hB : Below w.heap.size w w') : Ar B w' b vn vs N S :=
  ⟨h.blk.later hB, h.hb, ownS_upd h.nod (Upd.of_below (S := fun _ => False) hB) (fun _ _ h => h), ownS_upd h.spo (Upd.of_below (S := fun _ => False) hB) (fun _ _ h => h)⟩
theorem Ar.base (h : Ar B w b vn vs N S) : B ≤ w.heap.size := Nat.le_of_lt (Nat.lt_of_le_of_lt h.hb h.blk.lt)
theorem Ar.c0 (h : Ar B w b vn vs N S) : w.cell? ⟨b, 0, none⟩ = some vn := h.blk.cell 0
theorem Ar.c1 (h : Ar B w b vn vs N S) : w.cell? ⟨b, 1, none⟩ = some vs := h.blk.cell 1
theorem Ar.c2 (h : Ar B w b vn vs N S) : w.cell? ⟨b, 2, none⟩ = some (.map none) := h.blk.cell 2
theorem Ar.vn_is (h : Ar B w b vn vs N S) : ∃ a c, vn = .slice a N.length c ∧ c ≤ 9223372036854775807 := by
  rcases h.nod.2 with ⟨e, h0⟩ | ⟨g, cap, cur, e, _, _, _, hm, _⟩
  · exact ⟨none, 0, by rw [e, h0], by omega⟩
  · unfold maxLen at hm; exact ⟨_, _, e, hm⟩
theorem Ar.node (h : Ar B w b vn vs N S) {o : Nat} (ho : o < N.length) :
    ∃ gn cn, vn = .slice (some ⟨gn, 0, none⟩) N.length cn ∧ B ≤ gn ∧ N.length ≤ cn ∧ cn ≤ maxLen ∧ gn < w.heap.size ∧ w.cell? ⟨gn, o * 3, none⟩ = some (.int .i64 (N.getD o nil0).1) ∧ w.cell? ⟨gn, o * 3 + 1, none⟩ = some (.int .u64 (N.getD o nil0).2.1) ∧ w.cell? ⟨gn, o * 3 + 2, none⟩ = some (.int .i64 (N.getD o nil0).2.2) ∧
      w.frozen? ⟨gn, o * 3 + 2, none⟩ = false ∧ ∃ ys, Blk w gn 37 ys := by
  obtain ⟨g, cap, ys, e, hb, hn, hm, hl, ht, hK⟩ := ownS_blk h.nod (by omega)
  have hat : ∀ i, i < N.length * 3 → ys[i]? = (cellsN N)[i]? := fun i hi => by rw [← ht, List.getElem?_take, if_pos hi]
  obtain ⟨c0, c1, c2⟩ := cellsN_at N o ho
  exact ⟨g, cap, e, hb, hn, hm, hK.lt, by rw [hK.cell, hat _ (by omega), c0], by rw [hK.cell, hat _ (by omega), c1], by rw [hK.cell, hat _ (by omega), c2], hK.frozen _, ys, hK⟩
end
theorem look103 (a c : Int) (w : World) : (Instr.lookup 99 (.map none) (.agg #[.int .i64 a, .int .i64 c]) true).run Tryd.prog w = .ok (.tuple #[.agg #[], .bool false]) w := by kernel_rfl
def refuseR (N : List Nd) (p k : Int) : Int :=
  if N.length = 0 then (if p = -1 then 0 else 3)
  else if p < 0 ∨ (N.length : Int) ≤ p ∨ k < 0 then 3
  else if mostK (N.getD p.toNat nil0).1 ≤ k then 40 else if k < (N.getD p.toNat nil0).2.2 then 40 else 0
def spotv (p k : Int) : Value := .agg #[.int .i64 p, .int .i64 k]
set_option maxRecDepth 100000 in
set_option maxHeartbeats 8000000 in
theorem refuse_any (B b : Nat) (p k : Int) (vn vs : Value) (N : List Nd) (S : Stk) (w : World) (hA : Hid (Ar B w b vn vs N S)) (hN : N.length ≤ 1000000) :
    Calls Tryd.prog 45 #[.pointer (some ⟨b, 0, none⟩), spotv p k] w fun e w' => e = .returned (.int .i64 (refuseR N p k)) ∧ Below w.heap.size w w' := by
  unfold spotv
  obtain ⟨wB, hwB⟩ : ∃ wB, wB = w.alloc (.cells #[.int .i64 p, .int .i64 k] 103) := ⟨_, rfl⟩
  have HBB : Hid (Below w.heap.size w wB) := by rw [hwB]; exact (Below.refl _ _).alloc (Nat.le_refl _) _
  have KB : Hid (Blk wB w.heap.size 103 [.int .i64 p, .int .i64 k]) := by rw [hwB]; exact Blk.newA w _ 103
  have HA : Hid (Ar B wB b vn vs N S) := hA.out.later HBB.out
  have c0 := HA.out.c0; have c2 := HA.out.c2
  have s0 : wB.cell? ⟨w.heap.size, 0, none⟩ = some (.int .i64 p) := KB.out.cell 0
  have s1 : wB.cell? ⟨w.heap.size, 1, none⟩ = some (.int .i64 k) := KB.out.cell 1
  obtain ⟨an, cn0, rfl, hcn0⟩ := HA.out.vn_is
  have hbl := HA.out.blk.lt
  have hsl := KB.out.lt
  go_enter Tryd.func45, Tryd.ntmps45
  go_upto_region 1 with fail
  rw [← hwB]
  clear hwB hA
  by_cases h0 : N.length = 0
  · have HR : Hid (refuseR N p k = if p = -1 then 0 else 3) := by show _ = _; rw [refuseR, if_pos h0]
    rw [h0] at c0
    by_cases h1 : p = -1
    · subst h1
      rw [if_pos rfl] at HR
      go_wp2
      go_ret
      exact ⟨ret_int HR.out.symm, HBB.out⟩
    · have hb1 : (p == -1) = false := by simpa using h1
      rw [if_neg h1] at HR
      go_wp2
      go_ret
      exact ⟨ret_int HR.out.symm, HBB.out⟩
  · have hb0 : ((N.length : Int) == 0) = false := beq_eq_false_iff_ne.2 (by omega)
    have HR0 : Hid (refuseR N p k = if p < 0 ∨ (N.length : Int) ≤ p ∨ k < 0 then 3 else if mostK (N.getD p.toNat nil0).1 ≤ k then 40 else if k < (N.getD p.toNat nil0).2.2 then 40 else 0) := by show _ = _; rw [refuseR, if_neg h0]
    by_cases h1 : p < 0 ∨ (N.length : Int) ≤ p ∨ k < 0
    · rw [if_pos h1] at HR0
      have hc3 : (p < 0) ∨ (¬ p < 0 ∧ (N.length : Int) ≤ p) ∨ (¬ p < 0 ∧ ¬ (N.length : Int) ≤ p ∧ k < 0) := by omega
      clear h1
      rcases hc3 with h1 | ⟨h1, h2⟩ | ⟨h1, h2, h3⟩
      all_goals
        go_wp2_with fail
        go_quiet (fail)
        go_wp2
        go_ret
        exact ⟨ret_int HR0.out.symm, ⟨HBB.out.os, HBB.out.tape, HBB.out.output, HBB.out.size, HBB.out.block⟩⟩
    · rw [if_neg h1] at HR0
      obtain ⟨o, rfl⟩ := Int.eq_ofNat_of_zero_le (show 0 ≤ p by omega)
      have ho : o < N.length := by omega
      have ho' : (o : Int) < N.length := by omega
      obtain ⟨gn, cn, hvn, bn, hn1, hn2, hgn, n0, n1, n2, zn, -⟩ := HA.out.node ho
      have e1 : an = some ⟨gn, 0, none⟩ ∧ cn0 = cn := by simpa using hvn
      obtain ⟨rfl, rfl⟩ := e1
      have HR1 : Hid (refuseR N (o : Int) k = if mostK (N.getD o nil0).1 ≤ k then 40 else if k < (N.getD o nil0).2.2 then 40 else 0) := HR0.out
      clear HR0
      obtain ⟨x, hx⟩ : ∃ x, N.getD o nil0 = x := ⟨_, rfl⟩
      rw [hx] at n0 n1 n2 HR1
      clear hx
      obtain ⟨xk, xn, xc⟩ := x
      simp only at n0 n1 n2 HR1
      have hp0 : ¬ (o : Int) < 0 := by omega
      have hp1 : ¬ (N.length : Int) ≤ o := by omega
      have hk0 : ¬ k < 0 := by omega
      clear h1 hvn
      go_wp2_with fail
      go_quiet (fail)
      have HAq : Hid (Ar B (wB.drewN nq) b (.slice (some ⟨gn, 0, none⟩) N.length cn0) vs N S) := ⟨HA.out.blk, HA.out.hb, HA.out.nod, HA.out.spo⟩
      have KBq : Hid (Blk (wB.drewN nq) w.heap.size 103 [.int .i64 (o : Int), .int .i64 k]) := KB.out
      have HBq : Hid (Below w.heap.size w (wB.drewN nq)) := ⟨HBB.out.os, HBB.out.tape, HBB.out.output, HBB.out.size, HBB.out.block⟩
      have HNq : Hid ((wB.drewN nq).cell? ⟨gn, o * 3, none⟩ = some (.int .i64 xk) ∧ (wB.drewN nq).cell? ⟨gn, o * 3 + 1, none⟩ = some (.int .u64 xn) ∧ (wB.drewN nq).cell? ⟨gn, o * 3 + 2, none⟩ = some (.int .i64 xc) ∧ gn < (wB.drewN nq).heap.size) := ⟨n0, n1, n2, hgn⟩
      generalize wB.drewN nq = wq at *
      clear HA KB HBB n0 n1 n2 zn c0 c2 s0 s1 hbl hsl hgn bn
      obtain ⟨n0, n1, n2, hgn⟩ := HNq.out
      have hbl := HAq.out.blk.lt
      have hsl := KBq.out.lt
      have c0 := HAq.out.c0
      have s0 : wq.cell? ⟨w.heap.size, 0, none⟩ = some (.int .i64 (o : Int)) := KBq.out.cell 0
      have HS : Hid (∀ ob, (wq.alloc ob).cell? ⟨b, 0, none⟩ = some (.slice (some ⟨gn, 0, none⟩) N.length cn0) ∧ (wq.alloc ob).cell? ⟨w.heap.size, 0, none⟩ = some (.int .i64 (o : Int)) ∧ (wq.alloc ob).cell? ⟨gn, o * 3, none⟩ = some (.int .i64 xk) ∧ (wq.alloc ob).cell? ⟨gn, o * 3 + 1, none⟩ = some (.int .u64 xn) ∧ (wq.alloc ob).cell? ⟨gn, o * 3 + 2, none⟩ = some (.int .i64 xc)) := fun ob => ⟨(cell_alloc wq ob _ _ hbl).trans c0, (cell_alloc wq ob _ _ hsl).trans s0, (cell_alloc wq ob _ _ hgn).trans n0, (cell_alloc wq ob _ _ hgn).trans n1, (cell_alloc wq ob _ _ hgn).trans n2⟩
      go_wp2_with fail
      go_region_held_law (fun w' => w'.cell? ⟨b, 0, none⟩ = some (.slice (some ⟨gn, 0, none⟩) N.length cn0) ∧ w'.cell? ⟨w.heap.size, 0, none⟩ = some (.int .i64 (o : Int)) ∧ w'.cell? ⟨gn, o * 3, none⟩ = some (.int .i64 xk) ∧ w'.cell? ⟨gn, o * 3 + 1, none⟩ = some (.int .u64 xn) ∧ w'.cell? ⟨gn, o * 3 + 2, none⟩ = some (.int .i64 xc)) (first | assumption | exact ⟨c0, s0, n0, n1, n2⟩ | exact HS.out _) (fail)
      clear HS n0 n1 n2 c0 s0
      go_wp2_with fail
      refine (bounds_any xk _).mono ?_; rintro e w2 ⟨rfl, hB2⟩
      have hBx : Below wq.heap.size wq w2 := (((Below.refl wq.heap.size wq).alloc (Nat.le_refl _) _).drew).trans (hB2.mono (by simp))
      have K2 := (Blk.newA wq #[.int .i64 xk, .int .u64 xn, .int .i64 xc] 37).drew.later hB2
      have HA2 := HAq.out.later hBx
      have KB2 := KBq.out.later hBx
      have HB2 : Hid (Below w.heap.size w w2) := HBq.out.trans (hBx.mono HBq.out.size)
      obtain ⟨wz, hwz⟩ : ∃ wz, wz = w2.alloc (.cells #[.int .u64 (mostN xk), .int .i64 (leastK xk), .int .i64 (mostK xk)] 105) := ⟨_, rfl⟩
      have hBz : Below w2.heap.size w2 wz := by rw [hwz]; exact (Below.refl _ _).alloc (Nat.le_refl _) _
      have HAz : Hid (Ar B wz b (.slice (some ⟨gn, 0, none⟩) N.length cn0) vs N S) := HA2.later hBz
      have z0 : wz.cell? ⟨w.heap.size, 0, none⟩ = some (.int .i64 (o : Int)) := (KB2.later hBz).cell 0
      have z1 : wz.cell? ⟨w.heap.size, 1, none⟩ = some (.int .i64 k) := (KB2.later hBz).cell 1
      have z2 : wz.cell? ⟨wq.heap.size, 2, none⟩ = some (.int .i64 xc) := (K2.later hBz).cell 2
      have z3 : wz.cell? ⟨w2.heap.size, 2, none⟩ = some (.int .i64 (mostK xk)) := by rw [hwz]; exact (Blk.newA w2 _ 105).cell 2
      have z4 := HAz.out.c2
      have HBz : Hid (Below w.heap.size w wz) := HB2.out.trans (hBz.mono HB2.out.size)
      have za1 : ∀ ob, (wz.alloc ob).cell? ⟨w.heap.size, 1, none⟩ = some (.int .i64 k) := fun ob => ((KB2.later hBz).alloc ob).cell 1
      have za2 : ∀ ob, (wz.alloc ob).cell? ⟨wq.heap.size, 2, none⟩ = some (.int .i64 xc) := fun ob => ((K2.later hBz).alloc ob).cell 2
      unfold bnd
      go_upto_region 9 with fail
      rw [← hwz]
      clear hwz hBz K2 HA2 KB2 HB2 hB2 hBx HAq KBq HBq HNq
      by_cases h4 : mostK xk ≤ k
      · rw [if_pos h4] at HR1
        go_wp2
        go_ret
        exact ⟨ret_int HR1.out.symm, HBz.out⟩
      · rw [if_neg h4] at HR1
        have hlook := look103 (o : Int) k
        have HS2 : Hid (∀ ob, (wz.alloc ob).cell? ⟨b, 2, none⟩ = some (.map none) ∧ (wz.alloc ob).cell? ⟨w.heap.size, 0, none⟩ = some (.int .i64 (o : Int)) ∧ (wz.alloc ob).cell? ⟨w.heap.size, 1, none⟩ = some (.int .i64 k)) := fun ob => ⟨(HAz.out.blk.alloc ob).cell 2, (cell_alloc wz ob _ _ (World.block_lt_of_cell? wz _ z0)).trans z0, za1 ob⟩
        go_wp2_with fail
        go_region_held_law (fun w' => w'.cell? ⟨b, 2, none⟩ = some (.map none) ∧ w'.cell? ⟨w.heap.size, 0, none⟩ = some (.int .i64 (o : Int)) ∧ w'.cell? ⟨w.heap.size, 1, none⟩ = some (.int .i64 k)) (first | assumption | exact ⟨z4, z0, z1⟩ | exact HS2.out _) (fail)
        all_goals
          clear HS2 hlook z0 z3 z4
          by_cases h5 : k < xc
          · rw [if_pos h5] at HR1
            go_wp2
            go_ret
            exact ⟨ret_int HR1.out.symm, (HBz.out.alloc HBz.out.size _).drew⟩
          · rw [if_neg h5] at HR1
            go_wp2
            go_ret
            exact ⟨ret_int HR1.out.symm, (HBz.out.alloc HBz.out.size _).drew⟩
end Go.Proofs.YtlbgdgobhiokpaaDoor

/- adopt, Add, NewArena, Count: an arena without gaps. -/
namespace Go.Proofs.YtlbgdgobhiokpaaDoor
open Go.RowKit
set_option linter.unusedVariables false

section
variable {B b : Nat} {w w' w1 : World} {vn vs v : Value} {N : List Nd} {S : Stk} {o : Nat}
theorem keptA_cell {t : TypeId} {g i : Nat} {ys : List Value} {u : Value} (hg : Blk w g t ys) (hB : B ≤ g) (ht : t = 101 ∨ t = 37 ∨ t = 103) : KeptA B w (w.setCell ⟨g, i, none⟩ u) := by
  refine ⟨(Below.refl _ _).setCell hB _, fun q t' xs h1 h2 h3 hb => hb.other _ _ fun e => ?_⟩
  have e2 : q = g := e
  subst e2
  have := blk_type hb hg
  rcases ht with rfl | rfl | rfl <;> simp_all
theorem Ar.inc (h : Ar B w b vn vs N S) (ho : o < N.length) {gn cn : Nat} (hv : vn = .slice (some ⟨gn, 0, none⟩) N.length cn) :
    Ar B (w.setCell ⟨gn, o * 3 + 2, none⟩ (.int .i64 ((N.getD o nil0).2.2 + 1))) b vn vs (incK N o) S ∧ KeptA B w (w.setCell ⟨gn, o * 3 + 2, none⟩ (.int .i64 ((N.getD o nil0).2.2 + 1))) := by
  obtain ⟨g, cap, ys, e, hb, hn, hm, hl, ht, hK⟩ := ownS_blk h.nod (by omega)
  rw [hv] at e
  have e1 : gn = g ∧ cn = cap := by simpa using e
  obtain ⟨rfl, rfl⟩ := e1
  subst hv
  refine ⟨⟨h.blk.other _ _ fun e => ?_, h.hb, ?_, own_far h.spo hK (by decide)⟩, keptA_cell hK hb (.inr (.inl rfl))⟩
  · have e2 : b = gn := e
    subst e2
    exact absurd (blk_type h.blk hK) (by decide)
  · have h2 := ownS_of_blk (n := N.length) (c := 3) (hK.set (o * 3 + 2) (.int .i64 ((N.getD o nil0).2.2 + 1))) hb (by simpa using hl) hn hm
    rw [List.take_set, ht, cellsN_set N o _ ho] at h2
    have e3 : (incK N o).length = N.length := by simp [incK]
    rw [e3]
    exact h2
theorem Ar.push (h : Ar B w b vn vs N S) (k n : Int) (hN : N.length ≤ 2000000) :
    ∃ g cap w', (Builtin.append_ #[22, 22] 22 #[vn, .slice (some ⟨w.heap.size, 0, none⟩) 1 1]).run Tryd.prog (w.alloc (.cells #[.int .i64 k, .int .u64 n, .int .i64 0] 37)) = .ok (.slice (some ⟨g, 0, none⟩) (N.length + 1) cap) w' ∧ w'.cell? ⟨b, 0, none⟩ = some vn ∧ w'.frozen? ⟨b, 0, none⟩ = false ∧ Ar B (w'.setCell ⟨b, 0, none⟩ (.slice (some ⟨g, 0, none⟩) (N.length + 1) cap)) b (.slice (some ⟨g, 0, none⟩) (N.length + 1) cap) vs (N ++ [(k, n, 0)]) S ∧ KeptA B w (w'.setCell ⟨b, 0, none⟩ (.slice (some ⟨g, 0, none⟩) (N.length + 1) cap)) ∧
      ∀ q xs, Blk w q 103 xs → Blk (w'.setCell ⟨b, 0, none⟩ (.slice (some ⟨g, 0, none⟩) (N.length + 1) cap)) q 103 xs := by
  have hB := h.base
  obtain ⟨g, cap, w', r1, o1, u1, l1⟩ := run_pushS (P := Tryd.prog) (t := 22) (e := 37) (z := .agg #[.int .i64 0, .int .u64 0, .int .i64 0]) (bytes := 24) Tryd.underlying22 (by kernel_rfl) rfl (by decide) w 22 h.nod (ndc (k, n, 0)) rfl (by intro u hu; simp [ndc] at hu; rcases hu with rfl | rfl | rfl <;> rfl) (by unfold maxLen; omega) (by omega) hB
  have hb1 : Blk w' b 101 [vn, vs, .map none] := h.blk.upd u1 fun hk => by
    obtain ⟨ys, hy⟩ := ownS_type h.nod hk
    exact absurd (blk_type h.blk hy) (by decide)
  have ho1 : w'.ownsRow B 103 2 vs S.length (cellsS S) := ownS_upd h.spo u1 fun q hq hk => by
    obtain ⟨ys, hy⟩ := ownS_type h.nod hk
    obtain ⟨zs, hz⟩ := ownS_type h.spo hq
    exact absurd (blk_type hy hz) (by decide)
  have k1 : KeptA B w w' := ⟨u1.below B hB (fun k hk => (h.nod.lt k hk).1), fun q t xs h1 h2 h3 hb => hb.upd u1 fun hk => by
    obtain ⟨ys, hy⟩ := ownS_type h.nod hk
    exact h2 (blk_type hb hy)⟩
  refine ⟨g, cap, w', r1, hb1.cell 0, hb1.frozen 0, ⟨hb1.set 0 _, h.hb, ?_, own_far ho1 hb1 (by decide)⟩, k1.trans (keptA_cell hb1 h.hb (.inl rfl)), fun q xs hq => ?_⟩
  · have h2 := own_far (i := 0) (u := .slice (some ⟨g, 0, none⟩) (N.length + 1) cap) o1 hb1 (by decide)
    rw [List.length_append, cellsN_append]
    exact h2
  · have hq1 : Blk w' q 103 xs := hq.upd u1 fun hk => by
      obtain ⟨ys, hy⟩ := ownS_type h.nod hk
      exact absurd (blk_type hq hy) (by decide)
    exact hq1.other _ _ fun e => by
      have e2 : q = b := e
      subst e2
      exact absurd (blk_type hq1 hb1) (by decide)
theorem Ar.pushs (h : Ar B w b vn vs N S) (p k : Int) (hS : S.length ≤ 2000000) :
    ∃ g cap w', (Builtin.append_ #[98, 98] 98 #[vs, .slice (some ⟨w.heap.size, 0, none⟩) 1 1]).run Tryd.prog (w.alloc (.cells #[.int .i64 p, .int .i64 k] 103)) = .ok (.slice (some ⟨g, 0, none⟩) (S.length + 1) cap) w' ∧ w'.cell? ⟨b, 1, none⟩ = some vs ∧ w'.frozen? ⟨b, 1, none⟩ = false ∧ Ar B (w'.setCell ⟨b, 1, none⟩ (.slice (some ⟨g, 0, none⟩) (S.length + 1) cap)) b vn (.slice (some ⟨g, 0, none⟩) (S.length + 1) cap) N (S ++ [(p, k)]) ∧ KeptA B w (w'.setCell ⟨b, 1, none⟩ (.slice (some ⟨g, 0, none⟩) (S.length + 1) cap)) ∧
      ∀ q xs, vs.ownBlock ≠ some q → Blk w q 103 xs → Blk w' q 103 xs ∧ Blk (w'.setCell ⟨b, 1, none⟩ (.slice (some ⟨g, 0, none⟩) (S.length + 1) cap)) q 103 xs := by
  have hB := h.base
  obtain ⟨g, cap, w', r1, o1, u1, l1⟩ := run_pushS (P := Tryd.prog) (t := 98) (e := 103) (z := .agg #[.int .i64 0, .int .i64 0]) (bytes := 16) Tryd.underlying98 (by kernel_rfl) rfl (by decide) w 98 h.spo [.int .i64 p, .int .i64 k] rfl (by intro u hu; simp at hu; rcases hu with rfl | rfl <;> rfl) (by unfold maxLen; omega) (by omega) hB
  have hb1 : Blk w' b 101 [vn, vs, .map none] := h.blk.upd u1 fun hk => by
    obtain ⟨ys, hy⟩ := ownS_type h.spo hk
    exact absurd (blk_type h.blk hy) (by decide)
  have ho1 : w'.ownsRow B 37 3 vn N.length (cellsN N) := ownS_upd h.nod u1 fun q hq hk => by
    obtain ⟨ys, hy⟩ := ownS_type h.spo hk
    obtain ⟨zs, hz⟩ := ownS_type h.nod hq
    exact absurd (blk_type hy hz) (by decide)
  have k1 : KeptA B w w' := ⟨u1.below B hB (fun k hk => (h.spo.lt k hk).1), fun q t xs h1 h2 h3 hb => hb.upd u1 fun hk => by
    obtain ⟨ys, hy⟩ := ownS_type h.spo hk
    exact h3 (blk_type hb hy)⟩
  refine ⟨g, cap, w', r1, hb1.cell 1, hb1.frozen 1, ⟨hb1.set 1 _, h.hb, own_far ho1 hb1 (by decide), ?_⟩, k1.trans (keptA_cell hb1 h.hb (.inl rfl)), fun q xs hn hq => ?_⟩
  · have h2 := own_far (i := 1) (u := .slice (some ⟨g, 0, none⟩) (S.length + 1) cap) o1 hb1 (by decide)
    rw [List.length_append, cellsS_append]
    exact h2
  · have hq1 : Blk w' q 103 xs := hq.upd u1 hn
    exact ⟨hq1, hq1.other _ _ fun e => by
      have e2 : q = b := e
      subst e2
      exact absurd (blk_type hq1 hb1) (by decide)⟩
end
theorem new_any (w : World) : Calls Tryd.prog 23 #[] w fun e w' => e = .returned (.pointer (some ⟨w.heap.size, 0, none⟩)) ∧ Hid (Ar w.heap.size w' w.heap.size (.slice none 0 0) (.slice none 0 0) [] []) ∧ Below w.heap.size w w' := by
  go_enter Tryd.func23, Tryd.ntmps23
  go_wp2
  go_ret
  exact ⟨rfl, ⟨Blk.newA w _ 101, Nat.le_refl _, World.ownsRow_nil _ _ _ _, World.ownsRow_nil _ _ _ _⟩, (Below.refl _ _).alloc (Nat.le_refl _) _⟩
theorem count_any (B b : Nat) (vn vs : Value) (N : List Nd) (S : Stk) (w : World) (hA : Hid (Ar B w b vn vs N S)) : Calls Tryd.prog 26 #[.pointer (some ⟨b, 0, none⟩)] w fun e w' => e = .returned (.int .i64 (N.length : Int)) ∧ w = w' := by
  obtain ⟨an, cn, rfl, h1⟩ := hA.out.vn_is
  have c0 := hA.out.c0
  go_enter Tryd.func26, Tryd.ntmps26
  go_wp2
  go_ret
  exact ⟨rfl, rfl⟩
end Go.Proofs.YtlbgdgobhiokpaaDoor

/- The gaps of an arena: a set of spots, in memory. -/
namespace Go.Proofs.YtlbgdgobhiokpaaDoor
open Go.RowKit Go.Maps
set_option linter.unusedVariables false

def InR (x : Int) : Prop := -9223372036854775808 ≤ x ∧ x ≤ 9223372036854775807
theorem InR.wf {x : Int} (h : InR x) : (Lit.int .i64 x).wf = true := WalkArith.wf_i64 (by unfold InR at h; omega)
theorem gLaid : laidOutB Tryd.prog = true := by kernel_rfl
theorem gLaw : Keyed Tryd.prog 103 := Keyed.of_law (deep_law_laid gLaid (m := 2) (by omega) (of_decide_eq_true (by kernel_rfl)) (by kernel_rfl) (by rw [Tryd.underlying103]))
theorem gZero (w : World) : (zeroValue 125).run Tryd.prog w = .ok (.agg #[]) w := by kernel_rfl
theorem gKt : Tryd.prog.keyType 103 = true := by kernel_rfl
theorem gCells : Tryd.prog.cellsOf 103 = 2 := by kernel_rfl
theorem gCells3 : Tryd.prog.cellsOf 3 = 1 := by kernel_rfl
def kl (p k : Int) : Lit := .string (keyBytes [.int .i64 p, .int .i64 k])
theorem gLits (n : Nat) {p k : Int} (hp : InR p) (hk : InR k) : Tryd.prog.keyLits (n + 2) 103 [.int .i64 p, .int .i64 k] = some [.int .i64 p, .int .i64 k] := by
  have h1 := hp.wf
  have h2 := hk.wf
  simp [Program.keyLits, Tryd.underlying103, Tryd.underlying3, gCells, gCells3, h1, h2]
theorem key_spot {p k : Int} (hp : InR p) (hk : InR k) : keyOf Tryd.prog 103 (.agg #[.int .i64 p, .int .i64 k]) = some (kl p k) := by
  have hs : Tryd.prog.types.size + 1 = (Tryd.prog.types.size - 1) + 2 := by
    have : 1 ≤ Tryd.prog.types.size := of_decide_eq_true (by kernel_rfl)
    omega
  have hf : (Value.agg #[.int .i64 p, .int .i64 k]).formed Tryd.prog 103 = true := by simp [Value.formed, Tryd.underlying103, gCells]
  unfold keyOf
  rw [Tryd.underlying103]
  simp only [gKt, hf, Bool.and_self, if_true]
  rw [hs, show (Value.agg #[.int .i64 p, .int .i64 k]).cells.toList = [.int .i64 p, .int .i64 k] from rfl, gLits _ hp hk]
  rfl
theorem kl_inj {p k p' k' : Int} (hp : InR p) (hk : InR k) (hp' : InR p') (hk' : InR k') (h : kl p k = kl p' k') : p = p' ∧ k = k' := by
  have := gLaw.inj (key_spot hp hk) (by rw [h]; exact key_spot hp' hk')
  simpa using this
theorem kl_key (p k : Int) : WideAt.IsKeyLit (kl p k) := trivial
abbrev Sp := List (Int × Int)
/-- Block m is a map that holds just these spots. -/
structure Gs (w : World) (m : Nat) (G : Sp) : Prop where
  rng : ∀ e ∈ G, InR e.1 ∧ InR e.2
  nod : G.Nodup
  is : ∃ D, w.ownsMap Tryd.prog 103 (unitElem (H := Unit)) m G.length D ∧ Maps.size D = G.length ∧ ∀ p k, InR p → InR k → Maps.has D (kl p k) = G.contains (p, k)
section
variable {w w' : World} {m : Nat} {G : Sp} {p k : Int}
theorem tight {n : Nat} {D : DataW Unit} (h : w.ownsMap Tryd.prog 103 (unitElem (H := Unit)) m n D) : w.ownsMap Tryd.prog 103 (unitElem (H := Unit)) m (Maps.size D) D := by
  obtain ⟨es, clock, hb, F, _, rfl⟩ := h
  exact ⟨es, clock, hb, F, by simp [Maps.size, length_sorted], rfl⟩
theorem Gs.blk (h : Gs w m G) : ∃ es c, w.heap[m]? = some (.map es c) := by
  obtain ⟨D, ⟨es, c, hb, _⟩, _⟩ := h.is
  exact ⟨es, c, hb⟩
theorem Gs.lt (h : Gs w m G) : m < w.heap.size := by
  obtain ⟨es, c, hb⟩ := h.blk
  exact (Array.getElem?_eq_some_iff.1 hb).1
theorem Gs.of_eq (h : Gs w m G) (e : w'.heap[m]? = w.heap[m]?) : Gs w' m G := by
  obtain ⟨D, ⟨es, c, hb, h1⟩, h2⟩ := h.is
  exact ⟨h.rng, h.nod, D, ⟨es, c, e.trans hb, h1⟩, h2⟩
theorem Gs.later (h : Gs w m G) (hB : Below w.heap.size w w') : Gs w' m G := h.of_eq (hB.block m h.lt)
theorem Gs.upd {S : Nat → Prop} (h : Gs w m G) (hu : Upd S w w') (hm : ¬ S m) : Gs w' m G := h.of_eq (hu.block m h.lt hm)
theorem Gs.ne_blk {g : Nat} {t : TypeId} {xs : List Value} (h : Gs w m G) (hb : Blk w g t xs) : m ≠ g := by
  rintro rfl
  obtain ⟨es, c, h1⟩ := h.blk
  rw [Blk, h1] at hb
  cases hb
theorem Gs.look (h : Gs w m G) (hp : InR p) (hk : InR k) : (Instr.lookup 99 (.map (some m)) (.agg #[.int .i64 p, .int .i64 k]) true).run Tryd.prog w = .ok (.tuple #[.agg #[], .bool (G.contains (p, k))]) w := by
  obtain ⟨D, h1, h2, h3⟩ := h.is
  obtain ⟨v, ps, hr, hv⟩ := h1.look_ok gLaw Tryd.underlying99 (gZero w) unitElem_mk (key_spot hp hk)
  rw [hr, (unitElem_inv hv).1, h3 p k hp hk]
theorem Gs.len (h : Gs w m G) (ty : TypeId) : (Builtin.len_ #[99] ty #[.map (some m)]).run Tryd.prog w = .ok (.int .i64 G.length) w := by
  obtain ⟨D, h1, h2, h3⟩ := h.is
  rw [h1.len Tryd.underlying99 ty, h2]
theorem gs_made (w : World) : Gs (w.alloc (.map #[] 0)) w.heap.size [] :=
  ⟨by simp, List.nodup_nil, _, World.ownsMap_made w Tryd.prog 103 _, rfl, fun p k _ _ => by rfl⟩
theorem Gs.store (h : Gs w m G) (hp : InR p) (hk : InR k) (hn : G.contains (p, k) = false) (hl : G.length < maxLen) :
    ∃ w', (Instr.mapUpdate 99 (.map (some m)) (.agg #[.int .i64 p, .int .i64 k]) (.agg #[])).run Tryd.prog w = .ok () w' ∧ Gs w' m (G ++ [(p, k)]) ∧ Upd (fun q => q = m) w w' := by
  obtain ⟨D, h1, h2, h3⟩ := h.is
  obtain ⟨w', hr, h4, h5⟩ := h1.store gLaw Tryd.underlying99 hl (key_spot hp hk) unitElem_mk
  have ht := h1.tidy gLaw
  have hh : Maps.has D (kl p k) = false := by rw [h3 p k hp hk, hn]
  have hsz : Maps.size (D.put (kl p k) (.agg [])) = (G ++ [(p, k)]).length := by rw [Maps.size_put ht, hh]; simp [h2]
  have hnm : (p, k) ∉ G := by simpa using hn
  refine ⟨w', hr, ⟨?_, ?_, _, by have := tight h4; rw [hsz] at this; exact this, hsz, fun p' k' hp' hk' => ?_⟩, ?_⟩
  · intro e he
    rcases List.mem_append.1 he with h' | h'
    · exact h.rng e h'
    · obtain rfl := List.mem_singleton.1 h'; exact ⟨hp, hk⟩
  · rw [List.nodup_append]
    exact ⟨h.nod, by simp, fun a ha b hb => by simp at hb; subst hb; intro e; exact hnm (e ▸ ha)⟩
  · by_cases e : (p', k') = (p, k)
    · obtain ⟨rfl, rfl⟩ := Prod.mk.inj e
      rw [Maps.has_put_same ht.isMap (kl_key _ _)]
      simp
    · rw [Maps.has_put_other (fun h' => e (by obtain ⟨a, b⟩ := kl_inj hp' hk' hp hk h'; rw [a, b])), h3 p' k' hp' hk']
      have e' : ((p', k') == (p, k)) = false := beq_eq_false_iff_ne.2 e
      simp only [List.contains_eq_mem, List.mem_append, List.mem_singleton, e, or_false]
  · exact (Upd.refl _ _).grown h5.grown (fun q hq => by cases hq; exact .inl rfl)
theorem Gs.drop (h : Gs w m G) (hp : InR p) (hk : InR k) (hn : G.contains (p, k) = true) (ty : TypeId) :
    ∃ w', (Builtin.delete_ #[99, 103] ty #[.map (some m), .agg #[.int .i64 p, .int .i64 k]]).run Tryd.prog w = .ok (.tuple #[]) w' ∧ Gs w' m (G.erase (p, k)) ∧ Upd (fun q => q = m) w w' := by
  obtain ⟨D, h1, h2, h3⟩ := h.is
  obtain ⟨w', hr, h4, h5⟩ := h1.drop gLaw Tryd.underlying99 (key_spot hp hk) ty
  have ht := h1.tidy gLaw
  have hh : Maps.has D (kl p k) = true := by rw [h3 p k hp hk, hn]
  have hm : (p, k) ∈ G := by simpa using hn
  have hsz : Maps.size (D.del (kl p k)) = (G.erase (p, k)).length := by
    have := Maps.size_del (k := kl p k) ht
    rw [hh] at this
    rw [List.length_erase_of_mem hm]
    simp at this
    omega
  refine ⟨w', hr, ⟨?_, h.nod.erase _, _, by have := tight h4; rw [hsz] at this; exact this, hsz, fun p' k' hp' hk' => ?_⟩, ?_⟩
  · intro e he
    exact h.rng e (List.mem_of_mem_erase he)
  · by_cases e : (p', k') = (p, k)
    · obtain ⟨rfl, rfl⟩ := Prod.mk.inj e
      rw [Maps.has_del_same]
      simp [h.nod.mem_erase_iff]
    · rw [Maps.has_del_other (fun h' => e (by obtain ⟨a, b⟩ := kl_inj hp' hk' hp hk h'; rw [a, b])), h3 p' k' hp' hk']
      simp only [List.contains_eq_mem, h.nod.mem_erase_iff, e, ne_eq, not_false_eq_true, true_and]
  · exact (Upd.refl _ _).grown h5.grown (fun q hq => by cases hq; exact .inl rfl)
end
end Go.Proofs.YtlbgdgobhiokpaaDoor
