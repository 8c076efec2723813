/- An arena without gaps, in memory; refuse. -/
import Derived.Test.YtlbgdgobhiokpaaDoorY
import Derived.BigRegion
namespace Go.Proofs.YtlbgdgobhiokpaaDoor
open Go.RowKit
set_option linter.unusedVariables false

def cellsS (S : Stk) : List Value := S.flatMap fun e => [.int .i64 e.1, .int .i64 e.2]
theorem cellsS_len (S : Stk) : (cellsS S).length = S.length * 2 := by
  induction S with
  | nil => rfl
  | cons x N ih => rw [cellsS, List.flatMap_cons, List.length_append]; rw [cellsS] at ih; rw [ih]; simp; omega
theorem cellsS_append (N M : Stk) : cellsS (N ++ M) = cellsS N ++ cellsS M := by simp [cellsS]
theorem cellsS_at : ∀ (S : Stk) (i : Nat), i < S.length → (cellsS S)[i * 2]? = some (.int .i64 (S.getD i (0, 0)).1) ∧ (cellsS S)[i * 2 + 1]? = some (.int .i64 (S.getD i (0, 0)).2)
  | [], i, h => by simp at h
  | x :: N, 0, _ => ⟨rfl, rfl⟩
  | x :: N, i + 1, h => by
    have ih := cellsS_at N i (by simpa using h)
    have e : ∀ j, (cellsS (x :: N))[j + 2]? = (cellsS N)[j]? := fun j => by simp [cellsS]
    rw [show (i + 1) * 2 = i * 2 + 2 by omega, show i * 2 + 2 + 1 = (i * 2 + 1) + 2 by omega, e, e]
    simpa using ih
structure Ar (B : Nat) (w : World) (b : Nat) (vn vs : Value) (N : List Nd) (S : Stk) : Prop where
  blk : Blk w b 101 [vn, vs, .map none]
  hb : B ≤ b
  nod : w.ownsRow B 37 3 vn N.length (cellsN N)
  spo : w.ownsRow B 103 2 vs S.length (cellsS S)
/-- Below B nothing has turned, above it nothing but arenas, nodes and spots. -/
structure KeptA (B : Nat) (w w' : World) : Prop where
  bel : Below B w w'
  oth : ∀ g t xs, t ≠ 101 → t ≠ 37 → t ≠ 103 → Blk w g t xs → Blk w' g t xs
section
variable {B b : Nat} {w w' w1 : World} {vn vs v : Value} {N : List Nd} {S : Stk}
theorem KeptA.refl (B : Nat) (w : World) : KeptA B w w := ⟨Below.refl _ _, fun _ _ _ _ _ _ h => h⟩
theorem KeptA.trans (h : KeptA B w w1) (k : KeptA B w1 w') : KeptA B w w' := ⟨h.bel.trans k.bel, fun g t xs h1 h2 h3 hb => k.oth g t xs h1 h2 h3 (h.oth g t xs h1 h2 h3 hb)⟩
theorem KeptA.of_below (hB : B ≤ w.heap.size) (h : Below w.heap.size w w') : KeptA B w w' := ⟨h.mono hB, fun g t xs _ _ _ hb => hb.later h⟩
theorem KeptA.drew (h : KeptA B w w1) : KeptA B w w1.drew := ⟨h.bel.drew, h.oth⟩
theorem Ar.later (h : Ar B w b vn vs N S) (hB : Below w.heap.size w w') : Ar B w' b vn vs N S :=
  ⟨h.blk.later hB, h.hb, ownS_upd h.nod (Upd.of_below (S := fun _ => False) hB) (fun _ _ h => h), ownS_upd h.spo (Upd.of_below (S := fun _ => False) hB) (fun _ _ h => h)⟩
theorem Ar.base (h : Ar B w b vn vs N S) : B ≤ w.heap.size := Nat.le_of_lt (Nat.lt_of_le_of_lt h.hb h.blk.lt)
theorem Ar.c0 (h : Ar B w b vn vs N S) : w.cell? ⟨b, 0, none⟩ = some vn := h.blk.cell 0
theorem Ar.c1 (h : Ar B w b vn vs N S) : w.cell? ⟨b, 1, none⟩ = some vs := h.blk.cell 1
theorem Ar.c2 (h : Ar B w b vn vs N S) : w.cell? ⟨b, 2, none⟩ = some (.map none) := h.blk.cell 2
theorem Ar.vn_is (h : Ar B w b vn vs N S) : ∃ a c, vn = .slice a N.length c ∧ c ≤ 9223372036854775807 := by
  rcases h.nod.2 with ⟨e, h0⟩ | ⟨g, cap, cur, e, _, _, _, hm, _⟩
  · exact ⟨none, 0, by rw [e, h0], by omega⟩
  · unfold maxLen at hm; exact ⟨_, _, e, hm⟩
theorem Ar.node (h : Ar B w b vn vs N S) {o : Nat} (ho : o < N.length) :
    ∃ gn cn, vn = .slice (some ⟨gn, 0, none⟩) N.length cn ∧ B ≤ gn ∧ N.length ≤ cn ∧ cn ≤ maxLen ∧ gn < w.heap.size ∧ w.cell? ⟨gn, o * 3, none⟩ = some (.int .i64 (N.getD o nil0).1) ∧ w.cell? ⟨gn, o * 3 + 1, none⟩ = some (.int .u64 (N.getD o nil0).2.1) ∧ w.cell? ⟨gn, o * 3 + 2, none⟩ = some (.int .i64 (N.getD o nil0).2.2) ∧
      w.frozen? ⟨gn, o * 3 + 2, none⟩ = false ∧ ∃ ys, Blk w gn 37 ys := by
  obtain ⟨g, cap, ys, e, hb, hn, hm, hl, ht, hK⟩ := ownS_blk h.nod (by omega)
  have hat : ∀ i, i < N.length * 3 → ys[i]? = (cellsN N)[i]? := fun i hi => by rw [← ht, List.getElem?_take, if_pos hi]
  obtain ⟨c0, c1, c2⟩ := cellsN_at N o ho
  exact ⟨g, cap, e, hb, hn, hm, hK.lt, by rw [hK.cell, hat _ (by omega), c0], by rw [hK.cell, hat _ (by omega), c1], by rw [hK.cell, hat _ (by omega), c2], hK.frozen _, ys, hK⟩
end
theorem look103 (a c : Int) (w : World) : (Instr.lookup 99 (.map none) (.agg #[.int .i64 a, .int .i64 c]) true).run Tryd.prog w = .ok (.tuple #[.agg #[], .bool false]) w := by kernel_rfl
def refuseR (N : List Nd) (p k : Int) : Int :=
  if N.length = 0 then (if p = -1 then 0 else 3)
  else if p < 0 ∨ (N.length : Int) ≤ p ∨ k < 0 then 3
  else if mostK (N.getD p.toNat nil0).1 ≤ k then 40 else if k < (N.getD p.toNat nil0).2.2 then 40 else 0
def spotv (p k : Int) : Value := .agg #[.int .i64 p, .int .i64 k]
set_option maxRecDepth 100000 in
set_option maxHeartbeats 8000000 in
theorem refuse_any (B b : Nat) (p k : Int) (vn vs : Value) (N : List Nd) (S : Stk) (w : World) (hA : Hid (Ar B w b vn vs N S)) (hN : N.length ≤ 1000000) :
    Calls Tryd.prog 45 #[.pointer (some ⟨b, 0, none⟩), spotv p k] w fun e w' => e = .returned (.int .i64 (refuseR N p k)) ∧ Below w.heap.size w w' := by
  unfold spotv
  obtain ⟨wB, hwB⟩ : ∃ wB, wB = w.alloc (.cells #[.int .i64 p, .int .i64 k] 103) := ⟨_, rfl⟩
  have HBB : Hid (Below w.heap.size w wB) := by rw [hwB]; exact (Below.refl _ _).alloc (Nat.le_refl _) _
  have KB : Hid (Blk wB w.heap.size 103 [.int .i64 p, .int .i64 k]) := by rw [hwB]; exact Blk.newA w _ 103
  have HA : Hid (Ar B wB b vn vs N S) := hA.out.later HBB.out
  have c0 := HA.out.c0; have c2 := HA.out.c2
  have s0 : wB.cell? ⟨w.heap.size, 0, none⟩ = some (.int .i64 p) := KB.out.cell 0
  have s1 : wB.cell? ⟨w.heap.size, 1, none⟩ = some (.int .i64 k) := KB.out.cell 1
  obtain ⟨an, cn0, rfl, hcn0⟩ := HA.out.vn_is
  have hbl := HA.out.blk.lt
  have hsl := KB.out.lt
  go_enter Tryd.func45, Tryd.ntmps45
  go_upto_region 1 with fail
  rw [← hwB]
  clear hwB hA
  by_cases h0 : N.length = 0
  · have HR : Hid (refuseR N p k = if p = -1 then 0 else 3) := by show _ = _; rw [refuseR, if_pos h0]
    rw [h0] at c0
    by_cases h1 : p = -1
    · subst h1
      rw [if_pos rfl] at HR
      go_wp2
      go_ret
      exact ⟨ret_int HR.out.symm, HBB.out⟩
    · have hb1 : (p == -1) = false := by simpa using h1
      rw [if_neg h1] at HR
      go_wp2
      go_ret
      exact ⟨ret_int HR.out.symm, HBB.out⟩
  · have hb0 : ((N.length : Int) == 0) = false := beq_eq_false_iff_ne.2 (by omega)
    have HR0 : Hid (refuseR N p k = if p < 0 ∨ (N.length : Int) ≤ p ∨ k < 0 then 3 else if mostK (N.getD p.toNat nil0).1 ≤ k then 40 else if k < (N.getD p.toNat nil0).2.2 then 40 else 0) := by show _ = _; rw [refuseR, if_neg h0]
    by_cases h1 : p < 0 ∨ (N.length : Int) ≤ p ∨ k < 0
    · rw [if_pos h1] at HR0
      have hc3 : (p < 0) ∨ (¬ p < 0 ∧ (N.length : Int) ≤ p) ∨ (¬ p < 0 ∧ ¬ (N.length : Int) ≤ p ∧ k < 0) := by omega
      clear h1
      rcases hc3 with h1 | ⟨h1, h2⟩ | ⟨h1, h2, h3⟩
      all_goals
        go_wp2_with fail
        go_quiet (fail)
        go_wp2
        go_ret
        exact ⟨ret_int HR0.out.symm, ⟨HBB.out.os, HBB.out.tape, HBB.out.output, HBB.out.size, HBB.out.block⟩⟩
    · rw [if_neg h1] at HR0
      obtain ⟨o, rfl⟩ := Int.eq_ofNat_of_zero_le (show 0 ≤ p by omega)
      have ho : o < N.length := by omega
      have ho' : (o : Int) < N.length := by omega
      obtain ⟨gn, cn, hvn, bn, hn1, hn2, hgn, n0, n1, n2, zn, -⟩ := HA.out.node ho
      have e1 : an = some ⟨gn, 0, none⟩ ∧ cn0 = cn := by simpa using hvn
      obtain ⟨rfl, rfl⟩ := e1
      have HR1 : Hid (refuseR N (o : Int) k = if mostK (N.getD o nil0).1 ≤ k then 40 else if k < (N.getD o nil0).2.2 then 40 else 0) := HR0.out
      clear HR0
      obtain ⟨x, hx⟩ : ∃ x, N.getD o nil0 = x := ⟨_, rfl⟩
      rw [hx] at n0 n1 n2 HR1
      clear hx
      obtain ⟨xk, xn, xc⟩ := x
      simp only at n0 n1 n2 HR1
      have hp0 : ¬ (o : Int) < 0 := by omega
      have hp1 : ¬ (N.length : Int) ≤ o := by omega
      have hk0 : ¬ k < 0 := by omega
      clear h1 hvn
      go_wp2_with fail
      go_quiet (fail)
      have HAq : Hid (Ar B (wB.drewN nq) b (.slice (some ⟨gn, 0, none⟩) N.length cn0) vs N S) := ⟨HA.out.blk, HA.out.hb, HA.out.nod, HA.out.spo⟩
      have KBq : Hid (Blk (wB.drewN nq) w.heap.size 103 [.int .i64 (o : Int), .int .i64 k]) := KB.out
      have HBq : Hid (Below w.heap.size w (wB.drewN nq)) := ⟨HBB.out.os, HBB.out.tape, HBB.out.output, HBB.out.size, HBB.out.block⟩
      have HNq : Hid ((wB.drewN nq).cell? ⟨gn, o * 3, none⟩ = some (.int .i64 xk) ∧ (wB.drewN nq).cell? ⟨gn, o * 3 + 1, none⟩ = some (.int .u64 xn) ∧ (wB.drewN nq).cell? ⟨gn, o * 3 + 2, none⟩ = some (.int .i64 xc) ∧ gn < (wB.drewN nq).heap.size) := ⟨n0, n1, n2, hgn⟩
      generalize wB.drewN nq = wq at *
      clear HA KB HBB n0 n1 n2 zn c0 c2 s0 s1 hbl hsl hgn bn
      obtain ⟨n0, n1, n2, hgn⟩ := HNq.out
      have hbl := HAq.out.blk.lt
      have hsl := KBq.out.lt
      have c0 := HAq.out.c0
      have s0 : wq.cell? ⟨w.heap.size, 0, none⟩ = some (.int .i64 (o : Int)) := KBq.out.cell 0
      have HS : Hid (∀ ob, (wq.alloc ob).cell? ⟨b, 0, none⟩ = some (.slice (some ⟨gn, 0, none⟩) N.length cn0) ∧ (wq.alloc ob).cell? ⟨w.heap.size, 0, none⟩ = some (.int .i64 (o : Int)) ∧ (wq.alloc ob).cell? ⟨gn, o * 3, none⟩ = some (.int .i64 xk) ∧ (wq.alloc ob).cell? ⟨gn, o * 3 + 1, none⟩ = some (.int .u64 xn) ∧ (wq.alloc ob).cell? ⟨gn, o * 3 + 2, none⟩ = some (.int .i64 xc)) := fun ob => ⟨(cell_alloc wq ob _ _ hbl).trans c0, (cell_alloc wq ob _ _ hsl).trans s0, (cell_alloc wq ob _ _ hgn).trans n0, (cell_alloc wq ob _ _ hgn).trans n1, (cell_alloc wq ob _ _ hgn).trans n2⟩
      go_wp2_with fail
      go_region_held_law (fun w' => w'.cell? ⟨b, 0, none⟩ = some (.slice (some ⟨gn, 0, none⟩) N.length cn0) ∧ w'.cell? ⟨w.heap.size, 0, none⟩ = some (.int .i64 (o : Int)) ∧ w'.cell? ⟨gn, o * 3, none⟩ = some (.int .i64 xk) ∧ w'.cell? ⟨gn, o * 3 + 1, none⟩ = some (.int .u64 xn) ∧ w'.cell? ⟨gn, o * 3 + 2, none⟩ = some (.int .i64 xc)) (first | assumption | exact ⟨c0, s0, n0, n1, n2⟩ | exact HS.out _) (fail)
      clear HS n0 n1 n2 c0 s0
      go_wp2_with fail
      refine (bounds_any xk _).mono ?_; rintro e w2 ⟨rfl, hB2⟩
      have hBx : Below wq.heap.size wq w2 := (((Below.refl wq.heap.size wq).alloc (Nat.le_refl _) _).drew).trans (hB2.mono (by simp))
      have K2 := (Blk.newA wq #[.int .i64 xk, .int .u64 xn, .int .i64 xc] 37).drew.later hB2
      have HA2 := HAq.out.later hBx
      have KB2 := KBq.out.later hBx
      have HB2 : Hid (Below w.heap.size w w2) := HBq.out.trans (hBx.mono HBq.out.size)
      obtain ⟨wz, hwz⟩ : ∃ wz, wz = w2.alloc (.cells #[.int .u64 (mostN xk), .int .i64 (leastK xk), .int .i64 (mostK xk)] 105) := ⟨_, rfl⟩
      have hBz : Below w2.heap.size w2 wz := by rw [hwz]; exact (Below.refl _ _).alloc (Nat.le_refl _) _
      have HAz : Hid (Ar B wz b (.slice (some ⟨gn, 0, none⟩) N.length cn0) vs N S) := HA2.later hBz
      have z0 : wz.cell? ⟨w.heap.size, 0, none⟩ = some (.int .i64 (o : Int)) := (KB2.later hBz).cell 0
      have z1 : wz.cell? ⟨w.heap.size, 1, none⟩ = some (.int .i64 k) := (KB2.later hBz).cell 1
      have z2 : wz.cell? ⟨wq.heap.size, 2, none⟩ = some (.int .i64 xc) := (K2.later hBz).cell 2
      have z3 : wz.cell? ⟨w2.heap.size, 2, none⟩ = some (.int .i64 (mostK xk)) := by rw [hwz]; exact (Blk.newA w2 _ 105).cell 2
      have z4 := HAz.out.c2
      have HBz : Hid (Below w.heap.size w wz) := HB2.out.trans (hBz.mono HB2.out.size)
      have za1 : ∀ ob, (wz.alloc ob).cell? ⟨w.heap.size, 1, none⟩ = some (.int .i64 k) := fun ob => ((KB2.later hBz).alloc ob).cell 1
      have za2 : ∀ ob, (wz.alloc ob).cell? ⟨wq.heap.size, 2, none⟩ = some (.int .i64 xc) := fun ob => ((K2.later hBz).alloc ob).cell 2
      unfold bnd
      go_upto_region 9 with fail
      rw [← hwz]
      clear hwz hBz K2 HA2 KB2 HB2 hB2 hBx HAq KBq HBq HNq
      by_cases h4 : mostK xk ≤ k
      · rw [if_pos h4] at HR1
        go_wp2
        go_ret
        exact ⟨ret_int HR1.out.symm, HBz.out⟩
      · rw [if_neg h4] at HR1
        have hlook := look103 (o : Int) k
        have HS2 : Hid (∀ ob, (wz.alloc ob).cell? ⟨b, 2, none⟩ = some (.map none) ∧ (wz.alloc ob).cell? ⟨w.heap.size, 0, none⟩ = some (.int .i64 (o : Int)) ∧ (wz.alloc ob).cell? ⟨w.heap.size, 1, none⟩ = some (.int .i64 k)) := fun ob => ⟨(HAz.out.blk.alloc ob).cell 2, (cell_alloc wz ob _ _ (World.block_lt_of_cell? wz _ z0)).trans z0, za1 ob⟩
        go_wp2_with fail
        go_region_held_law (fun w' => w'.cell? ⟨b, 2, none⟩ = some (.map none) ∧ w'.cell? ⟨w.heap.size, 0, none⟩ = some (.int .i64 (o : Int)) ∧ w'.cell? ⟨w.heap.size, 1, none⟩ = some (.int .i64 k)) (first | assumption | exact ⟨z4, z0, z1⟩ | exact HS2.out _) (fail)
        all_goals
          clear HS2 hlook z0 z3 z4
          by_cases h5 : k < xc
          · rw [if_pos h5] at HR1
            go_wp2
            go_ret
            exact ⟨ret_int HR1.out.symm, (HBz.out.alloc HBz.out.size _).drew⟩
          · rw [if_neg h5] at HR1
            go_wp2
            go_ret
            exact ⟨ret_int HR1.out.symm, (HBz.out.alloc HBz.out.size _).drew⟩
end Go.Proofs.YtlbgdgobhiokpaaDoor
