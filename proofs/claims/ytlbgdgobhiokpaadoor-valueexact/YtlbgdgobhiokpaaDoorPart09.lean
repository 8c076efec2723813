import Derived.Test.YtlbgdgobhiokpaaDoorPart08
import Derived.Test.YtlbgdgobhiokpaaDoorPart07
import Derived.Test.YtlbgdgobhiokpaaDoorPart03
import Derived.Test.YtlbgdgobhiokpaaDoorPart05

/- The whole book: nodes and ints. -/
namespace Go.Proofs.YtlbgdgobhiokpaaDoor
open Go.RowKit
set_option linter.unusedVariables false

/-- The book at bt; its blocks are among Z. -/
def Bk (B : Nat) (w : World) (bt N : Nat) (Z : Nat → Prop) : Prop :=
  ∃ vL vM pL pM N1 N2 F G s Fp Gp sp, BkSt B w bt vL vM pL pM N1 F G s ∧ Half 43 3 1 mkP B w pL pM N2 Fp Gp sp ∧ N1 ≤ N ∧ N2 ≤ N ∧ (∀ q, FK vL vM N1 F G q ∨ FK pL pM N2 Fp Gp q → Z q) ∧ ∀ q, Z q → B ≤ q ∧ q < w.heap.size
/-- The book went on. -/
def BkTo (B : Nat) (w w' : World) (bt N : Nat) (Z : Nat → Prop) : Prop := ∃ Z', Bk B w' bt N Z' ∧ Upd (fun q => q = bt ∨ Z q) w w' ∧ ∀ q, Z' q → Z q ∨ w.heap.size ≤ q
section
variable {B : Nat} {w w' w1 : World} {bt N M : Nat} {Z : Nat → Prop}
theorem Bk.tab (h : Bk B w bt N Z) : B ≤ bt ∧ ∃ xs, Blk w bt 70 xs := by
  obtain ⟨vL, vM, pL, pM, N1, N2, F, G, s, Fp, Gp, sp, h1, h2, _⟩ := h
  exact ⟨h1.hb, _, h1.t⟩
theorem Bk.base (h : Bk B w bt N Z) : B ≤ w.heap.size := by
  obtain ⟨h1, xs, h2⟩ := h.tab
  exact Nat.le_trans h1 (Nat.le_of_lt h2.lt)
theorem Bk.z (h : Bk B w bt N Z) : ∀ q, Z q → B ≤ q ∧ q < w.heap.size := by
  obtain ⟨vL, vM, pL, pM, N1, N2, F, G, s, Fp, Gp, sp, h1, h2, h3, h4, h5, h6⟩ := h
  exact h6
theorem Bk.upd {S : Nat → Prop} (h : Bk B w bt N Z) (hu : Upd S w w') (hs : ∀ q, q = bt ∨ Z q → ¬ S q) : Bk B w' bt N Z := by
  obtain ⟨vL, vM, pL, pM, N1, N2, F, G, s, Fp, Gp, sp, h1, h2, h3, h4, h5, h6⟩ := h
  exact ⟨vL, vM, pL, pM, N1, N2, F, G, s, Fp, Gp, sp, h1.upd hu (fun q hq => hs q (hq.imp id (fun h => h5 q (.inl h)))), h2.upd hu (fun q hq => hs q (.inr (h5 q (.inr hq)))), h3, h4, h5, fun q hq => ⟨(h6 q hq).1, Nat.lt_of_lt_of_le (h6 q hq).2 hu.size⟩⟩
theorem Bk.later (h : Bk B w bt N Z) (hB : Below w.heap.size w w') : Bk B w' bt N Z := h.upd (Upd.of_below (S := fun _ => False) hB) (fun _ _ h => h)
theorem Bk.mono (h : Bk B w bt N Z) (hN : N ≤ M) : Bk B w bt M Z := by
  obtain ⟨vL, vM, pL, pM, N1, N2, F, G, s, Fp, Gp, sp, h1, h2, h3, h4, h5, h6⟩ := h
  exact ⟨vL, vM, pL, pM, N1, N2, F, G, s, Fp, Gp, sp, h1, h2, Nat.le_trans h3 hN, Nat.le_trans h4 hN, h5, h6⟩
theorem BkTo.later (h : Bk B w bt N Z) (hB : Below w.heap.size w w') (hN : N ≤ M) : BkTo B w w' bt M Z := ⟨Z, (h.later hB).mono hN, Upd.of_below hB, fun q hq => .inl hq⟩
theorem BkTo.below (h : Bk B w bt N Z) (k : BkTo B w w' bt M Z) : Below B w w' := by
  obtain ⟨Z', k1, k2, k3⟩ := k
  refine k2.below B h.base fun q hq => ?_
  rcases hq with rfl | hq
  · exact h.tab.1
  · exact (h.z q hq).1
/-- First a call that only makes new things, then the book. -/
theorem BkTo.after (hB : Below w.heap.size w w1) (k : BkTo B w1 w' bt N Z) : BkTo B w w' bt N Z := by
  obtain ⟨Z', k1, k2, k3⟩ := k
  refine ⟨Z', k1, (Upd.of_below (S := fun q => q = bt ∨ Z q) hB).trans k2 (fun q _ h => h), fun q hq => ?_⟩
  rcases k3 q hq with h | h
  · exact .inl h
  · exact .inr (Nat.le_trans hB.size h)
theorem BkTo.then (k : BkTo B w w1 bt N Z) (hB : Below w1.heap.size w1 w') : BkTo B w w' bt N Z := by
  obtain ⟨Z', k1, k2, k3⟩ := k
  exact ⟨Z', k1.later hB, k2.then hB, k3⟩
theorem BkTo.size (k : BkTo B w w' bt N Z) : w.heap.size ≤ w'.heap.size := by
  obtain ⟨Z', k1, k2, k3⟩ := k
  exact k2.size
/-- What is not the book's stays. -/
theorem BkTo.row {a : Option Addr} {l : List Nd} (k : BkTo B w w' bt N Z) (h : NRow w a l) (ha : ∀ x, a = some x → x.block ≠ bt ∧ ¬ Z x.block) : NRow w' a l := by
  obtain ⟨Z', k1, k2, k3⟩ := k
  exact h.upd k2 fun x hx e => (e.elim (ha x hx).1 (ha x hx).2)
/-- One more list of nodes, of ints; new since w0. -/
theorem bk_nodes {v : Value} {D : List Nd} (h : Bk B w bt N Z) (hv : w.ownsRow B 37 3 v D.length (cellsN D)) (hn : ∀ q, v.ownBlock = some q → ¬ Z q) (hN : N ≤ 900) (hD : D.length ≤ 100000) :
    Calls Tryd.prog 30 #[.pointer (some ⟨bt, 0, none⟩), v] w fun e w' => e = .returned (.tuple #[]) ∧ Hid (∃ Z', Bk B w' bt (N + 1) Z' ∧ Upd (fun q => q = bt ∨ v.ownBlock = some q ∨ Z q) w w' ∧ ∀ q, Z' q → Z q ∨ v.ownBlock = some q ∨ w.heap.size ≤ q) := by
  obtain ⟨vL, vM, pL, pM, N1, N2, F, G, s, Fp, Gp, sp, h1, h2, h3, h4, h5, h6⟩ := h
  refine (nodes_any B bt vL vM pL pM N1 F G s v D w h1 hv (fun q hq e => hn q hq (h5 q (.inl e))) (by omega) hD).mono ?_
  rintro e w' ⟨rfl, HK⟩
  refine ⟨rfl, ?_⟩
  obtain ⟨vL', vM', F', G', s', k1, k2, k3⟩ := HK.out
  have h2' : Half 43 3 1 mkP B w' pL pM N2 Fp Gp sp := h2.upd k2 fun q hq e => by
    obtain ⟨ys, hy⟩ := h2.type hq
    rcases e with rfl | e | e
    · rcases hy with hy | hy
      · exact absurd (blk_type h1.t hy) (by decide)
      · exact absurd (blk_type h1.t hy) (by decide)
    · obtain ⟨zs, hz⟩ := ownS_type hv e
      rcases hy with hy | hy
      · exact absurd (blk_type hz hy) (by decide)
      · exact absurd (blk_type hz hy) (by decide)
    · obtain ⟨zs, hz⟩ := h1.h.type e
      rcases hy with hy | hy <;> rcases hz with hz | hz
      all_goals exact absurd (blk_type hz hy) (by decide)
  refine ⟨fun q => FK vL' vM' (N1 + 1) F' G' q ∨ FK pL pM N2 Fp Gp q, ⟨vL', vM', pL, pM, N1 + 1, N2, F', G', s', Fp, Gp, sp, k1, h2', by omega, by omega, fun q hq => hq, fun q hq => ?_⟩, k2.mono (fun q _ hq => ?_), fun q hq => ?_⟩
  · rcases hq with hq | hq
    · exact k1.h.lt q hq
    · exact h2'.lt q hq
  · rcases hq with hq | hq | hq
    · exact .inl hq
    · exact .inr (.inl hq)
    · exact .inr (.inr (h5 q (.inl hq)))
  · rcases hq with hq | hq
    · rcases k3 q hq with h | h | h
      · exact .inl (h5 q (.inl h))
      · exact .inr (.inl h)
      · exact .inr (.inr h)
    · exact .inl (h5 q (.inr hq))
theorem bk_ints {v : Value} {D : List Int} (h : Bk B w bt N Z) (hv : w.ownsRow B 3 1 v D.length (cellsL .i64 D)) (hn : ∀ q, v.ownBlock = some q → ¬ Z q) (hN : N ≤ 900) (hD : D.length ≤ 100000) :
    Calls Tryd.prog 69 #[.pointer (some ⟨bt, 0, none⟩), v] w fun e w' => e = .returned (.tuple #[]) ∧ Hid (∃ Z', Bk B w' bt (N + 1) Z' ∧ Upd (fun q => q = bt ∨ v.ownBlock = some q ∨ Z q) w w' ∧ ∀ q, Z' q → Z q ∨ v.ownBlock = some q ∨ w.heap.size ≤ q) := by
  obtain ⟨vL, vM, pL, pM, N1, N2, F, G, s, Fp, Gp, sp, h1, h2, h3, h4, h5, h6⟩ := h
  refine (ints_any B bt vL vM pL pM N2 Fp Gp sp v D w ⟨h2, h1.t, h1.hb⟩ hv (fun q hq e => hn q hq (h5 q (.inr e))) (by omega) hD).mono ?_
  rintro e w' ⟨rfl, HK⟩
  refine ⟨rfl, ?_⟩
  obtain ⟨pL', pM', F', G', s', k1, k2, k3⟩ := HK.out
  have h1' : Half 22 37 3 mkN B w' vL vM N1 F G s := h1.h.upd k2 fun q hq e => by
    obtain ⟨ys, hy⟩ := h1.h.type hq
    rcases e with rfl | e | e
    · rcases hy with hy | hy
      · exact absurd (blk_type h1.t hy) (by decide)
      · exact absurd (blk_type h1.t hy) (by decide)
    · obtain ⟨zs, hz⟩ := ownS_type hv e
      rcases hy with hy | hy
      · exact absurd (blk_type hz hy) (by decide)
      · exact absurd (blk_type hz hy) (by decide)
    · obtain ⟨zs, hz⟩ := h2.type e
      rcases hy with hy | hy <;> rcases hz with hz | hz
      all_goals exact absurd (blk_type hz hy) (by decide)
  refine ⟨fun q => FK vL vM N1 F G q ∨ FK pL' pM' (N2 + 1) F' G' q, ⟨vL, vM, pL', pM', N1, N2 + 1, F, G, s, F', G', s', ⟨h1', k1.t, k1.hb⟩, k1.h, by omega, by omega, fun q hq => hq, fun q hq => ?_⟩, k2.mono (fun q _ hq => ?_), fun q hq => ?_⟩
  · rcases hq with hq | hq
    · exact h1'.lt q hq
    · exact k1.h.lt q hq
  · rcases hq with hq | hq | hq
    · exact .inl hq
    · exact .inr (.inl hq)
    · exact .inr (.inr (h5 q (.inr hq)))
  · rcases hq with hq | hq
    · exact .inl (h5 q (.inl hq))
    · rcases k3 q hq with h | h | h
      · exact .inl (h5 q (.inr h))
      · exact .inr (.inl h)
      · exact .inr (.inr h)
/-- Two lists, new since w, are laid into the book. -/
theorem bk_two {w2 w3 : World} {v u : Value} {Z2 Z3 : Nat → Prop} (hB : Below w.heap.size w w1) (hv : ∀ q, v.ownBlock = some q → w.heap.size ≤ q) (hu : ∀ q, u.ownBlock = some q → w.heap.size ≤ q)
    (a2 : Upd (fun q => q = bt ∨ v.ownBlock = some q ∨ Z q) w1 w2) (b2 : ∀ q, Z2 q → Z q ∨ v.ownBlock = some q ∨ w1.heap.size ≤ q) (a3 : Upd (fun q => q = bt ∨ u.ownBlock = some q ∨ Z2 q) w2 w3) (b3 : ∀ q, Z3 q → Z2 q ∨ u.ownBlock = some q ∨ w2.heap.size ≤ q) (k3 : Bk B w3 bt N Z3) : BkTo B w w3 bt N Z := by
  have z2 : ∀ q, Z2 q → Z q ∨ w.heap.size ≤ q := fun q hq => by
    rcases b2 q hq with h | h | h
    · exact .inl h
    · exact .inr (hv q h)
    · exact .inr (Nat.le_trans hB.size h)
  refine ⟨Z3, k3, ?_, fun q hq => ?_⟩
  · have u1 : Upd (fun q => q = bt ∨ Z q) w w2 := (Upd.of_below (S := fun q => q = bt ∨ Z q) hB).trans a2 fun q hlt h => by
      rcases h with h | h | h
      · exact .inl h
      · have := hv q h; omega
      · exact .inr h
    refine u1.trans a3 fun q hlt h => ?_
    rcases h with h | h | h
    · exact .inl h
    · have := hu q h; omega
    · rcases z2 q h with h | h
      · exact .inr h
      · omega
  · rcases b3 q hq with h | h | h
    · exact z2 q h
    · exact .inr (hu q h)
    · exact .inr (Nat.le_trans (Nat.le_trans hB.size a2.size) h)
end
end Go.Proofs.YtlbgdgobhiokpaaDoor

/- ValueExact's cut. -/
namespace Go.Proofs.YtlbgdgobhiokpaaDoor
open Go.RowKit
set_option linter.unusedVariables false

theorem elem22' : Tryd.prog.underlying 22 = some (.slice (Tryd.prog.elem 22)) := by kernel_rfl
theorem size22' : (Tryd.prog.info? (Tryd.prog.elem 22)).map (·.size) = some 3 := by kernel_rfl
theorem sizeOf22' (w : World) : (sizeOf (Tryd.prog.elem 22)).run Tryd.prog w = .ok 3 w := by
  obtain ⟨i, hi, hsz⟩ : ∃ i, Tryd.prog.info? (Tryd.prog.elem 22) = some i ∧ i.size = 3 := by
    have := size22'
    cases hh : Tryd.prog.info? (Tryd.prog.elem 22) with
    | none => rw [hh] at this; cases this
    | some i => rw [hh] at this; exact ⟨i, rfl, by simpa using this⟩
  simp [sizeOf, typeInfo, hi, hsz, Result.andThen]
theorem cut22 (b off L c k : Nat) (t : Int) (ht : t = k) (hk : k ≤ c) (w' : World) : (Instr.slice 22 (.slice (some ⟨b, off, none⟩) L c) none (some (.int .i64 t)) none).run Tryd.prog w' = .ok (.slice (some ⟨b, off, none⟩) k c) w' := by
  subst ht
  rw [run_slice_h (P := Tryd.prog) w' 22 _ L c elem22' .i64 k (by omega) (by omega), sizeOf22']
  simp [sliced, Result.andThen, Addr.add]
set_option maxRecDepth 100000 in
set_option maxHeartbeats 4000000 in
theorem cut_any (a : Option Addr) (n k : Nat) (l : List Nd) (w : World) (hl : l.length = n) (hn : n ≤ 9223372036854775807) (hk : n ≤ k) (hr : Hid (NRow w a l)) :
    Calls Tryd.prog 54 #[.slice a n k] w fun e w' => e = .returned (.slice a (min n 400) k) ∧ w = w' := by
  by_cases h : n ≤ 400
  · rw [Nat.min_eq_left h]
    have h' : ¬ (400 : Int) < n := by omega
    go_enter Tryd.func54, Tryd.ntmps54
    go_wp2
    go_ret
    exact ⟨rfl, rfl⟩
  · rw [Nat.min_eq_right (by omega)]
    have h' : (400 : Int) < n := by omega
    obtain ⟨b, off, rfl, -, -⟩ := hr.out.open (by omega)
    have hc := cut22 b off n k 400 400 rfl (by omega)
    go_enter Tryd.func54, Tryd.ntmps54
    go_wp2
    go_ret
    exact ⟨rfl, rfl⟩
end Go.Proofs.YtlbgdgobhiokpaaDoor

/- The document's reader in memory; word, is. -/
namespace Go.Proofs.YtlbgdgobhiokpaaDoor
open Go.RowKit
set_option linter.unusedVariables false

structure RdD (B : Nat) (w : World) (b : Nat) (s : ByteArray) (p : Nat) (vn : Value) (N : List Nd) (bad : Bool) : Prop where
  blk : Blk w b 141 [.string s, .int .i64 p, vn, .bool bad]
  hb : B ≤ b
  nod : w.ownsRow B 37 3 vn N.length (cellsN N)
/-- Below B nothing has turned, above it nothing but readers and nodes. -/
structure KeptD (B : Nat) (w w' : World) : Prop where
  bel : Below B w w'
  oth : ∀ g t xs, t ≠ 141 → t ≠ 37 → Blk w g t xs → Blk w' g t xs
section
variable {B b : Nat} {w w' w1 : World} {s : ByteArray} {p : Nat} {vn v : Value} {N : List Nd} {bad : Bool}
theorem KeptD.refl (B : Nat) (w : World) : KeptD B w w := ⟨Below.refl _ _, fun _ _ _ _ _ h => h⟩
theorem KeptD.trans (h : KeptD B w w1) (k : KeptD B w1 w') : KeptD B w w' := ⟨h.bel.trans k.bel, fun g t xs h1 h2 hb => k.oth g t xs h1 h2 (h.oth g t xs h1 h2 hb)⟩
theorem KeptD.of_below (hB : B ≤ w.heap.size) (h : Below w.heap.size w w') : KeptD B w w' := ⟨h.mono hB, fun g t xs _ _ hb => hb.later h⟩
theorem KeptD.drew (h : KeptD B w w1) : KeptD B w w1.drew := ⟨h.bel.drew, h.oth⟩
theorem KeptD.drewN (h : KeptD B w w1) (n : Nat) : KeptD B w (w1.drewN n) := ⟨⟨h.bel.os, h.bel.tape, h.bel.output, h.bel.size, h.bel.block⟩, h.oth⟩
theorem RdD.later (h : RdD B w b s p vn N bad) (hB : Below w.heap.size w w') : RdD B w' b s p vn N bad :=
  ⟨h.blk.later hB, h.hb, ownS_upd h.nod (Upd.of_below (S := fun _ => False) hB) (fun _ _ h => h)⟩
theorem RdD.drewN (h : RdD B w b s p vn N bad) (n : Nat) : RdD B (w.drewN n) b s p vn N bad := ⟨h.blk, h.hb, h.nod⟩
theorem RdD.drew (h : RdD B w b s p vn N bad) : RdD B w.drew b s p vn N bad := ⟨h.blk, h.hb, h.nod⟩
theorem RdD.base (h : RdD B w b s p vn N bad) : B ≤ w.heap.size := Nat.le_of_lt (Nat.lt_of_le_of_lt h.hb h.blk.lt)
theorem keptD_cell {t : TypeId} {g i : Nat} {ys : List Value} {u : Value} (hg : Blk w g t ys) (hB : B ≤ g) (ht : t = 141 ∨ t = 37) : KeptD B w (w.setCell ⟨g, i, none⟩ u) := by
  refine ⟨(Below.refl _ _).setCell hB _, fun q t' xs h1 h2 hb => hb.other _ _ fun e => ?_⟩
  have e2 : q = g := e
  subst e2
  have := blk_type hb hg
  rcases ht with rfl | rfl <;> simp_all
theorem RdD.setp (h : RdD B w b s p vn N bad) (p' : Nat) : RdD B (w.setCell ⟨b, 1, none⟩ (.int .i64 p')) b s p' vn N bad :=
  ⟨h.blk.set 1 _, h.hb, own_far h.nod h.blk (by decide)⟩
theorem RdD.setb (h : RdD B w b s p vn N bad) (e' : Bool) : RdD B (w.setCell ⟨b, 3, none⟩ (.bool e')) b s p vn N e' :=
  ⟨h.blk.set 3 _, h.hb, own_far h.nod h.blk (by decide)⟩
theorem RdD.keptb (h : RdD B w b s p vn N bad) (i : Nat) (u : Value) : KeptD B w (w.setCell ⟨b, i, none⟩ u) := keptD_cell h.blk h.hb (.inl rfl)
theorem RdD.c0 (h : RdD B w b s p vn N bad) : w.cell? ⟨b, 0, none⟩ = some (.string s) := h.blk.cell 0
theorem RdD.c1 (h : RdD B w b s p vn N bad) : w.cell? ⟨b, 1, none⟩ = some (.int .i64 p) := h.blk.cell 1
theorem RdD.c2 (h : RdD B w b s p vn N bad) : w.cell? ⟨b, 2, none⟩ = some vn := h.blk.cell 2
theorem RdD.c3 (h : RdD B w b s p vn N bad) : w.cell? ⟨b, 3, none⟩ = some (.bool bad) := h.blk.cell 3
end

set_option maxRecDepth 100000 in
set_option maxHeartbeats 8000000 in
theorem wordD_bad (B b p : Nat) (s word : ByteArray) (vn : Value) (N : List Nd) (w : World) (hR : Hid (RdD B w b s p vn N true)) (hw0 : 0 < word.size) (hw : word.size ≤ 100) :
    Calls Tryd.prog 84 #[.pointer (some ⟨b, 0, none⟩), .string word] w fun e w' => e = .returned (.tuple #[]) ∧ w = w' := by
  have c3 := hR.out.c3
  have hlt' : (0 : Int) < word.size := by omega
  go_enter Tryd.func84, Tryd.ntmps84
  go_wp2_with fail
  go_loopw [4] (fun i wr => i = .int .i64 0 ∧ w = wr) (fun i _ => 0)
  case atStart => exact ⟨rfl, rfl⟩
  case round =>
    obtain ⟨rfl, rfl⟩ := hrel
    go_wp2
    go_end0
    exact ⟨rfl, rfl⟩
set_option maxRecDepth 100000 in
set_option maxHeartbeats 8000000 in
theorem wordD_any (B b p : Nat) (s word : ByteArray) (vn : Value) (N : List Nd) (w : World) (hR : Hid (RdD B w b s p vn N false)) (hp : p ≤ s.size) (hs : s.size ≤ 1048576) (hw : word.size ≤ 100) :
    Calls Tryd.prog 84 #[.pointer (some ⟨b, 0, none⟩), .string word] w fun e w' => e = .returned (.tuple #[]) ∧ Hid (RdD B w' b s (takeW (tx s) p (tx word)).1 vn N (!(takeW (tx s) p (tx word)).2)) ∧ Hid (KeptD B w w') := by
  go_enter Tryd.func84, Tryd.ntmps84
  go_wp2_with fail
  go_loopw [4] (fun i wr => ∃ (k q : Nat), k ≤ word.size ∧ i = .int .i64 k ∧ q ≤ s.size ∧ Hid (takeW (tx s) q ((tx word).drop k) = takeW (tx s) p (tx word)) ∧ Hid (RdD B wr b s q vn N false) ∧ Hid (KeptD B w wr)) (fun i _ => word.size - (intOf i).toNat)
  case atStart => exact ⟨0, p, Nat.zero_le _, rfl, hp, rfl, hR, KeptD.refl _ _⟩
  case round =>
    clear hR
    obtain ⟨k, q, hk, rfl, hq, HW, HR, HK⟩ := hrel
    have c0 := HR.out.c0; have c1 := HR.out.c1; have c3 := HR.out.c3
    have z1 := HR.out.blk.frozen 1
    have z3 := HR.out.blk.frozen 3
    by_cases hlt : k < word.size
    · have hlt' : (k : Int) < word.size := by omega
      obtain ⟨y, hy⟩ : ∃ y : Int, (((word[k]'hlt).toNat : Nat) : Int) = y := ⟨_, rfl⟩
      have HW1 : Hid (takeW (tx s) q (y :: (tx word).drop (k + 1)) = takeW (tx s) p (tx word)) := by
        have h1 : (tx word).drop k = y :: (tx word).drop (k + 1) := by
          rw [List.drop_eq_getElem_cons (by rw [tx_len]; exact hlt)]
          congr 1
          have := tx_at word k hlt
          rw [List.getElem?_eq_getElem (by rw [tx_len]; exact hlt)] at this
          exact (Option.some.inj this).trans hy
        have := HW.out
        rw [h1] at this
        exact this
      clear HW
      by_cases hend : q = s.size
      · subst hend
        have HW2 : Hid ((s.size, false) = takeW (tx s) p (tx word)) := by
          have := HW1.out
          rw [takeW, if_neg (by rw [List.getElem?_eq_none (by rw [tx_len]; omega)]; simp)] at this
          exact this
        clear HW1
        go_wp2_with fail
        go_quiet (fail)
        go_wp2
        rw [← HW2.out]
        exact bodyPost_ret (results_none rfl _ _ _) rfl ⟨rfl, (HR.out.drewN _).setb true, (HK.out.drewN _).trans ((HR.out.drewN _).keptb 3 _)⟩
      · have hqs : q < s.size := by omega
        have hqs' : (q : Int) < s.size := by omega
        obtain ⟨x, hx⟩ : ∃ x : Int, (((s[q]'hqs).toNat : Nat) : Int) = x := ⟨_, rfl⟩
        have htx : Hid ((tx s)[q]? = some x) := by show _ = _; rw [tx_at s q hqs, hx]
        have hbq : decide ((s.size : Int) ≤ (q : Int)) = false := by simp; omega
        by_cases hxy : x = y
        · subst hxy
          have HW2 : Hid (takeW (tx s) (q + 1) ((tx word).drop (k + 1)) = takeW (tx s) p (tx word)) := by
            have := HW1.out
            rw [takeW, if_pos htx.out] at this
            exact this
          clear HW1
          go_wp2_with fail
          go_quiet (fail)
          go_wp2
          go_roundw
          case rel => exact ⟨k + 1, q + 1, by omega, by go_num, by omega, HW2, (HR.out.setp (q + 1)).drewN _, (HK.out.trans (HR.out.keptb 1 _)).drewN _⟩
          case measure => simp [intOf]; omega
        · have hbx : (x == y) = false := by simpa using hxy
          have hbn : (x != y) = true := by simpa using hxy
          have HW2 : Hid ((q, false) = takeW (tx s) p (tx word)) := by
            have := HW1.out
            rw [takeW, if_neg (by rw [htx.out]; simpa using hxy)] at this
            exact this
          clear HW1
          go_wp2_with fail
          go_quiet (fail)
          go_wp2
          rw [← HW2.out]
          exact bodyPost_ret (results_none rfl _ _ _) rfl ⟨rfl, (HR.out.drewN _).setb true, (HK.out.drewN _).trans ((HR.out.drewN _).keptb 3 _)⟩
    · obtain rfl : k = word.size := by omega
      have HW2 : Hid ((q, true) = takeW (tx s) p (tx word)) := by
        have := HW.out
        rw [List.drop_eq_nil_of_le (by rw [tx_len]; omega), takeW] at this
        exact this
      clear HW
      go_wp2
      go_end0
      rw [← HW2.out]
      exact ⟨rfl, HR.out, HK.out⟩
set_option maxRecDepth 100000 in
set_option maxHeartbeats 8000000 in
theorem isD_bad (B b p : Nat) (c : Int) (s : ByteArray) (vn : Value) (N : List Nd) (w : World) (hR : Hid (RdD B w b s p vn N true)) :
    Calls Tryd.prog 85 #[.pointer (some ⟨b, 0, none⟩), .int .u8 c] w fun e w' => e = .returned (.bool false) ∧ ∃ n, w.drewN n = w' := by
  have c3 := hR.out.c3
  go_enter Tryd.func85, Tryd.ntmps85
  go_wp2_with fail
  go_quiet (fail)
  go_wp2
  go_ret
  exact ⟨rfl, _, rfl⟩
set_option maxRecDepth 100000 in
set_option maxHeartbeats 8000000 in
theorem isD_any (B b p : Nat) (c : Int) (s : ByteArray) (vn : Value) (N : List Nd) (w : World) (hR : Hid (RdD B w b s p vn N false)) (hp : p ≤ s.size) (hs : s.size ≤ 1048576) :
    Calls Tryd.prog 85 #[.pointer (some ⟨b, 0, none⟩), .int .u8 c] w fun e w' => e = .returned (.bool (decide ((tx s)[p]? = some c))) ∧ ∃ n, w.drewN n = w' := by
  have c0 := hR.out.c0; have c1 := hR.out.c1; have c3 := hR.out.c3
  go_enter Tryd.func85, Tryd.ntmps85
  by_cases hend : p = s.size
  · subst hend
    have hd : decide ((tx s)[s.size]? = some c) = false := by rw [List.getElem?_eq_none (by rw [tx_len]; omega)]; simp
    rw [hd]
    clear hd
    have hbq : decide ((s.size : Int) < (s.size : Int)) = false := by simp
    go_wp2_with fail
    go_quiet (fail)
    go_wp2
    go_ret
    exact ⟨rfl, _, rfl⟩
  · have hqs : p < s.size := by omega
    have hqs' : (p : Int) < s.size := by omega
    obtain ⟨x, hx⟩ : ∃ x : Int, (((s[p]'hqs).toNat : Nat) : Int) = x := ⟨_, rfl⟩
    have hd : decide ((tx s)[p]? = some c) = (x == c) := by
      rw [tx_at s p hqs, hx]
      simp only [Option.some.injEq]
      rfl
    rw [hd]
    clear hd
    go_wp2_with fail
    go_quiet (fail)
    go_wp2
    go_ret
    exact ⟨rfl, _, rfl⟩
end Go.Proofs.YtlbgdgobhiokpaaDoor

/- The document's number. -/
namespace Go.Proofs.YtlbgdgobhiokpaaDoor
open Go.RowKit
set_option linter.unusedVariables false

set_option maxRecDepth 100000 in
set_option maxHeartbeats 8000000 in
theorem numD_any (B b p : Nat) (most : Int) (s : ByteArray) (vn : Value) (N : List Nd) (w : World) (hR : Hid (RdD B w b s p vn N false)) (hp : p ≤ s.size) (hs : s.size ≤ 1048576) (hm0 : 255 ≤ most) (hm1 : most ≤ 18446744073709551615) :
    Calls Tryd.prog 83 #[.pointer (some ⟨b, 0, none⟩), .int .u64 most] w fun e w' => e = .returned (.int .u64 (numL most ((tx s).drop p) true 0).1) ∧ Hid (RdD B w' b s (p + (numL most ((tx s).drop p) true 0).2) vn N (decide ((numL most ((tx s).drop p) true 0).2 = 0))) ∧ Hid (KeptD B w w') := by
  have c1 := hR.out.c1
  go_enter Tryd.func83, Tryd.ntmps83
  go_wp2_with fail
  go_loopw [5] (fun v wr => ∃ (q : Nat) (n : Int), q ≤ s.size ∧ p ≤ q ∧ v = .int .u64 n ∧ 0 ≤ n ∧ n ≤ most ∧ Hid (q + (numL most ((tx s).drop q) (decide (q = p)) n).2 = p + (numL most ((tx s).drop p) true 0).2) ∧ Hid ((numL most ((tx s).drop q) (decide (q = p)) n).1 = (numL most ((tx s).drop p) true 0).1) ∧
      Hid (RdD B wr b s q vn N false) ∧ Hid (KeptD B w wr)) (fun _ wr => match wr.cell? ⟨b, 1, none⟩ with | some (.int _ i) => s.size - i.toNat | _ => 0)
  case atStart => exact ⟨p, 0, hp, Nat.le_refl _, rfl, by omega, by omega, by simp [Hid], by simp [Hid], hR, KeptD.refl _ _⟩
  case round =>
    clear hR c1
    obtain ⟨q, n, hq, hpq, rfl, hn0, hn1, HQ, HN, HR, HK⟩ := hrel
    have c0 := HR.out.c0; have c1 := HR.out.c1; have c3 := HR.out.c3
    have z1 := HR.out.blk.frozen 1
    have z3 := HR.out.blk.frozen 3
    have fin : ∀ (w2 : World), RdD B w2 b s q vn N false → KeptD B w w2 → (numL most ((tx s).drop q) (decide (q = p)) n) = (n, 0) → Hid (n = (numL most ((tx s).drop p) true 0).1) ∧ Hid (RdD B (w2.setCell ⟨b, 3, none⟩ (.bool ((q : Int) == (p : Int)))) b s (p + (numL most ((tx s).drop p) true 0).2) vn N (decide ((numL most ((tx s).drop p) true 0).2 = 0))) ∧ Hid (KeptD B w (w2.setCell ⟨b, 3, none⟩ (.bool ((q : Int) == (p : Int))))) := by
      intro w2 hr hk h
      have h1 := HQ.out
      have h2 := HN.out
      rw [h] at h1 h2
      simp only at h1 h2
      refine ⟨h2, ?_, hk.trans (hr.keptb 3 _)⟩
      have e : decide ((numL most ((tx s).drop p) true 0).2 = 0) = ((q : Int) == (p : Int)) := by
        rw [Bool.eq_iff_iff]
        simp
        omega
      rw [← h1, e]
      exact hr.setb _
    have HFin : Hid _ := fin
    clear fin
    by_cases hend : q = s.size
    · have h1 := HFin.out
      rw [List.drop_eq_nil_of_le (by rw [tx_len]; omega)] at h1
      have H1 : Hid _ := h1
      clear h1 HFin HQ HN
      subst hend
      have hbq : ¬ ((s.size : Int) < (s.size : Int)) := by omega
      go_wp2_with fail
      go_quiet (fail)
      go_wp2
      go_ret
      obtain ⟨h2, h3, h4⟩ := H1.out _ ((HR.out.drewN _)) ((HK.out.drewN _)) (by first | rfl | trivial)
      exact ⟨by rw [← h2.out]; rfl, h3, h4⟩
    · have hqs : q < s.size := by omega
      have hqs' : (q : Int) < s.size := by omega
      obtain ⟨x, hx⟩ : ∃ x : Int, (((s[q]'hqs).toNat : Nat) : Int) = x := ⟨_, rfl⟩
      have htx : (tx s)[q]? = some x := by rw [tx_at s q hqs, hx]
      obtain ⟨hx0, hx1⟩ := tx_byte s x q htx
      have hdrop : (tx s).drop q = x :: (tx s).drop (q + 1) := by
        have h1 : q < (tx s).length := by rw [tx_len]; exact hqs
        rw [List.drop_eq_getElem_cons h1]
        rw [List.getElem?_eq_getElem h1] at htx
        rw [Option.some.inj htx]
      have h1 := HFin.out
      have h2 := HQ.out
      have h3 := HN.out
      rw [hdrop, numL] at h1 h2 h3
      clear HFin HQ HN hdrop htx
      by_cases h48 : 48 ≤ x
      · by_cases h57 : x ≤ 57
        · rw [if_pos ⟨h48, h57⟩] at h1 h2 h3
          obtain ⟨d, hd⟩ : ∃ d : Int, x - 48 = d := ⟨_, rfl⟩
          rw [hd] at h1 h2 h3
          have hd0 : 0 ≤ d ∧ d ≤ 9 := by omega
          have hdm : ¬ most < d := by omega
          have hdm2 : decide (most < d) = false := by simpa using hdm
          have hwd : IntKind.u8.wrap (x - 48) = d := by rw [hd]; simp only [IntKind.wrap, IntKind.signed, IntKind.bits]; simp; clear h1 h2 h3; omega
          have H1 : Hid _ := h1
          have H2 : Hid _ := h2
          have H3 : Hid _ := h3
          clear h1 h2 h3
          go_wp2_with fail
          go_quiet (fail)
          go_wp2_with fail
          go_quiet (fail)
          by_cases hA : decide (q = p) = false ∧ n = 0
          · obtain ⟨hA1, rfl⟩ := hA
            have hA2 : q ≠ p := by simpa using hA1
            have hpq' : (p : Int) < q := by omega
            have h1 := H1.out
            rw [if_pos (.inl ⟨hA1, rfl⟩)] at h1
            have H4 : Hid _ := h1
            clear h1 H1 H2 H3
            go_wp2
            go_ret
            obtain ⟨h2, h3, h4⟩ := H4.out _ ((HR.out.drewN _)) ((HK.out.drewN _)) (by first | rfl | trivial)
            exact ⟨by rw [← h2.out]; rfl, h3, h4⟩
          · have hA' : (¬ (p : Int) < q) ∨ ((p : Int) < q ∧ (n == 0) = false) := by
              by_cases hqp : q = p
              · exact .inl (by omega)
              · refine .inr ⟨by omega, ?_⟩
                have : ¬ n = 0 := fun h => hA ⟨by simpa using hqp, h⟩
                simpa using this
            have hmd : 0 ≤ most - d := by omega
            by_cases hC : (most - d) / 10 < n
            · have h1 := H1.out
              rw [if_pos (.inr hC)] at h1
              have H4 : Hid _ := h1
              clear h1 H1 H2 H3 hA
              rcases hA' with hlt | ⟨hlt, hbn⟩
              · go_wp2
                go_ret
                obtain ⟨h2, h3, h4⟩ := H4.out _ ((HR.out.drewN _)) ((HK.out.drewN _)) (by first | rfl | trivial)
                exact ⟨by rw [← h2.out]; rfl, h3, h4⟩
              · go_wp2
                go_ret
                obtain ⟨h2, h3, h4⟩ := H4.out _ ((HR.out.drewN _)) ((HK.out.drewN _)) (by first | rfl | trivial)
                exact ⟨by rw [← h2.out]; rfl, h3, h4⟩
            · have h2 := H2.out
              have h3 := H3.out
              rw [if_neg (by simp only [not_or]; exact ⟨hA, hC⟩)] at h2 h3
              have H5 : Hid (q + 1 + (numL most ((tx s).drop (q + 1)) (decide (q + 1 = p)) (n * 10 + d)).2 = p + (numL most ((tx s).drop p) true 0).2) := by
                show _ = _
                rw [show decide (q + 1 = p) = false by simp; omega]
                simp only at h2
                omega
              have H6 : Hid ((numL most ((tx s).drop (q + 1)) (decide (q + 1 = p)) (n * 10 + d)).1 = (numL most ((tx s).drop p) true 0).1) := by
                show _ = _
                rw [show decide (q + 1 = p) = false by simp; omega]
                exact h3
              clear h2 h3 H1 H2 H3 hA
              have hn2 : n * 10 + d ≤ most := by omega
              have HM : Hid (∀ j, (((wr.drewN j).setCell ⟨b, 1, none⟩ (.int .i64 ((q : Int) + 1)))).cell? ⟨b, 1, none⟩ = some (.int .i64 ((q : Int) + 1))) := fun j => ((HR.out.drewN j).blk.set 1 _).cell 1
              rcases hA' with hlt | ⟨hlt, hbn⟩
              · go_wp2
                go_roundw
                case rel => exact ⟨q + 1, n * 10 + d, by omega, by omega, by first | rfl | (rw [Int.mul_comm 10 n]), by omega, by omega, H5, H6, (HR.out.drewN _).setp (q + 1), (HK.out.drewN _).trans ((HR.out.drewN _).keptb 1 _)⟩
                case measure => rw [HM.out, c1]; simp; omega
              · go_wp2
                go_roundw
                case rel => exact ⟨q + 1, n * 10 + d, by omega, by omega, by first | rfl | (rw [Int.mul_comm 10 n]), by omega, by omega, H5, H6, (HR.out.drewN _).setp (q + 1), (HK.out.drewN _).trans ((HR.out.drewN _).keptb 1 _)⟩
                case measure => rw [HM.out, c1]; simp; omega
        · rw [if_neg (by omega)] at h1
          have H1 : Hid _ := h1
          clear h1 h2 h3
          go_wp2_with fail
          go_quiet (fail)
          go_wp2
          go_ret
          obtain ⟨h2, h3, h4⟩ := H1.out _ ((HR.out.drewN _)) ((HK.out.drewN _)) (by first | rfl | trivial)
          exact ⟨by rw [← h2.out]; rfl, h3, h4⟩
      · rw [if_neg (by omega)] at h1
        have H1 : Hid _ := h1
        have hb48 : decide (48 ≤ x) = false := by simpa using h48
        clear h1 h2 h3
        go_wp2_with fail
        go_quiet (fail)
        go_wp2
        go_ret
        obtain ⟨h2, h3, h4⟩ := H1.out _ ((HR.out.drewN _)) ((HK.out.drewN _)) (by first | rfl | trivial)
        exact ⟨by rw [← h2.out]; rfl, h3, h4⟩
end Go.Proofs.YtlbgdgobhiokpaaDoor

/- A value's text and its reading, plain: numbers, words; the text that is left at a reader's state. -/
namespace Go.Proofs.YtlbgdgobhiokpaaDoor
open Go.RowKit
set_option linter.unusedVariables false
set_option linter.unusedSimpArgs false

/-! ### Numbers -/
theorem digF_fuel (f g u : Nat) (hf : u < 10 ^ (f + 1)) (hg : u < 10 ^ (g + 1)) : digF f u = digF g u := by
  rw [digF_eq f u hf, digF_eq g u hg]
theorem digs_small (n : Int) (h : 0 ≤ n ∧ n ≤ 9) : digs n = [48 + n] := by
  rw [digs, digF, if_pos (by omega)]
  congr 2
  omega
theorem digs_snoc (n d : Int) (hn : 0 < n) (hm : n ≤ 18446744073709551615) (hd : 0 ≤ d ∧ d ≤ 9) : digs (n * 10 + d) = digs n ++ [48 + d] := by
  rw [digs, digF, if_neg (by omega), show (n * 10 + d).toNat / 10 = n.toNat by omega, digF_fuel 19 20 n.toNat (by omega) (by omega), digs]
  congr 2
  omega
theorem numL_one {most c : Int} (l : List Int) {f : Bool} {n : Int} (hd : 48 ≤ c ∧ c ≤ 57) (hn : ¬ (f = false ∧ n = 0)) (h0 : 0 ≤ n) (hm : n * 10 + (c - 48) ≤ most) :
    numL most (c :: l) f n = ((numL most l false (n * 10 + (c - 48))).1, (numL most l false (n * 10 + (c - 48))).2 + 1) := by
  rw [numL, if_pos hd, if_neg]
  rintro (h | h)
  · exact hn h
  · omega
theorem numL_digF (most : Int) : ∀ (f u : Nat) (r : List Int), u < 10 ^ (f + 1) → (u : Int) ≤ most →
    numL most (digF f u ++ r) true 0 = ((numL most r false u).1, (numL most r false u).2 + (digF f u).length)
  | f, u, r, hf, hm => by
    by_cases hu : u < 10
    · have e : digF f u = [48 + (u : Int)] := by cases f <;> simp [digF, hu]
      rw [e, List.cons_append, List.nil_append, numL_one r (by omega) (by simp) (by omega) (by omega)]
      rw [show (0 : Int) * 10 + (48 + (u : Int) - 48) = u by omega]
      rfl
    · cases f with
      | zero => simp at hf; omega
      | succ f =>
        have e : digF (f + 1) u = digF f (u / 10) ++ [48 + ((u % 10 : Nat) : Int)] := by rw [digF, if_neg hu]
        have hlt : u / 10 < 10 ^ (f + 1) := by rw [Nat.div_lt_iff_lt_mul (by decide)]; rw [Nat.pow_succ] at hf; exact hf
        rw [e, List.append_assoc, numL_digF most f (u / 10) _ hlt (by omega), List.cons_append, List.nil_append, numL_one r (by omega) (by omega) (by omega) (by omega)]
        rw [show (((u / 10 : Nat) : Int)) * 10 + (48 + ((u % 10 : Nat) : Int) - 48) = u by omega]
        simp only [List.length_append, List.length_cons, List.length_nil, Prod.mk.injEq, true_and]
        omega
theorem numL_stop {most : Int} {r : List Int} {f : Bool} {n : Int} (h : ∀ c, r.head? = some c → ¬ (48 ≤ c ∧ c ≤ 57)) : numL most r f n = (n, 0) := by
  cases r with
  | nil => rfl
  | cons c r => rw [numL, if_neg (h c rfl)]
theorem numL_digs {most n : Int} {r : List Int} (h0 : 0 ≤ n) (hn : n ≤ most) (hm : most ≤ 18446744073709551615) (hr : ∀ c, r.head? = some c → ¬ (48 ≤ c ∧ c ≤ 57)) : numL most (digs n ++ r) true 0 = (n, (digs n).length) := by
  rw [digs, numL_digF most 20 n.toNat r (by omega) (by omega), numL_stop hr]
  simp
  omega
theorem numL_back {most : Int} (hm : most ≤ 18446744073709551615) : ∀ (l : List Int) (n : Int), 0 < n → n ≤ most → digs (numL most l false n).1 = digs n ++ l.take (numL most l false n).2 ∧ (numL most l false n).1 ≤ most ∧ 0 < (numL most l false n).1
  | [], n, h0, h1 => by simp [numL, h0, h1]
  | c :: l, n, h0, h1 => by
    by_cases hd : 48 ≤ c ∧ c ≤ 57
    · by_cases hs : (most - (c - 48)) / 10 < n
      · rw [numL, if_pos hd, if_pos (.inr hs)]; simp [h0, h1]
      · have e := numL_one (most := most) l (f := false) (n := n) hd (by omega) (by omega) (by omega)
        obtain ⟨i1, i2, i3⟩ := numL_back hm l (n * 10 + (c - 48)) (by omega) (by omega)
        rw [e]
        simp only
        refine ⟨?_, i2, i3⟩
        rw [i1, digs_snoc n (c - 48) h0 (by omega) (by omega), List.take_succ_cons, List.append_assoc]
        simp
        omega
    · rw [numL, if_neg hd]; simp [h0, h1]
theorem numL_back0 {most : Int} (hm : most ≤ 18446744073709551615) (hm0 : 9 ≤ most) (l : List Int) (h : 0 < (numL most l true 0).2) : l.take (numL most l true 0).2 = digs (numL most l true 0).1 ∧ 0 ≤ (numL most l true 0).1 ∧ (numL most l true 0).1 ≤ most := by
  cases l with
  | nil => simp [numL] at h
  | cons c l =>
    by_cases hd : 48 ≤ c ∧ c ≤ 57
    · have e := numL_one (most := most) l (f := true) (n := 0) hd (by simp) (by omega) (by omega)
      rw [e]
      simp only
      rw [List.take_succ_cons]
      by_cases h0 : c = 48
      · subst h0
        have e2 : numL most l false (0 * 10 + (48 - 48)) = (0, 0) := by
          cases l with
          | nil => rfl
          | cons c l => rw [numL]; split; (rw [if_pos]; rfl; exact .inl ⟨rfl, by omega⟩); rfl
        rw [e2]
        exact ⟨by rw [digs_small 0 (by omega)]; rfl, by simp; omega⟩
      · obtain ⟨i1, i2, i3⟩ := numL_back hm l (0 * 10 + (c - 48)) (by omega) (by omega)
        refine ⟨?_, by omega, i2⟩
        rw [i1, digs_small _ (by omega)]
        simp
        omega
    · rw [numL, if_neg hd] at h; simp at h
theorem digF_head : ∀ (f u : Nat), u < 10 ^ (f + 1) → ∃ c r, digF f u = c :: r ∧ 48 ≤ c ∧ c ≤ 57
  | 0, u, h => ⟨48 + (u : Int), [], rfl, by simp at h; omega⟩
  | f + 1, u, h => by
    by_cases hu : u < 10
    · exact ⟨48 + (u : Int), [], by rw [digF, if_pos hu], by omega⟩
    · obtain ⟨c, r, e, h1⟩ := digF_head f (u / 10) (by rw [Nat.div_lt_iff_lt_mul (by decide)]; rw [Nat.pow_succ] at h; exact h)
      exact ⟨c, _, by rw [digF, if_neg hu, e, List.cons_append], h1⟩
theorem digs_head (n : Int) (h : n ≤ 18446744073709551615) : ∃ c r, digs n = c :: r ∧ 48 ≤ c ∧ c ≤ 57 := digF_head 20 n.toNat (by omega)
theorem digF_bytes : ∀ (f u : Nat), u < 10 ^ (f + 1) → ∀ c ∈ digF f u, 48 ≤ c ∧ c ≤ 57
  | 0, u, h, c, hc => by simp [digF] at hc; simp at h; omega
  | f + 1, u, h, c, hc => by
    rw [digF] at hc
    split at hc
    · simp at hc; omega
    · rcases List.mem_append.1 hc with hc | hc
      · exact digF_bytes f (u / 10) (by rw [Nat.div_lt_iff_lt_mul (by decide)]; rw [Nat.pow_succ] at h; exact h) c hc
      · simp at hc; omega

/-! ### Words -/
theorem drop_of {t : List Int} {p : Nat} {c : Int} (h : t[p]? = some c) : t.drop p = c :: t.drop (p + 1) := by
  have hp := at_lt h
  rw [List.drop_eq_getElem_cons hp]
  rw [List.getElem?_eq_getElem hp] at h
  simp at h
  rw [h]
theorem of_drop {t r : List Int} {p : Nat} {c : Int} (h : t.drop p = c :: r) : t[p]? = some c ∧ t.drop (p + 1) = r := by
  have h1 : (t.drop p)[0]? = some c := by rw [h]; rfl
  refine ⟨by simpa using h1, ?_⟩
  rw [← List.drop_drop, h]; rfl
theorem takeW_ok (t : List Int) : ∀ (r : List Int) (p : Nat), (takeW t p r).2 = true → t.drop p = r ++ t.drop (p + r.length) ∧ (takeW t p r).1 = p + r.length
  | [], p, _ => by simp [takeW]
  | c :: r, p, h => by
    unfold takeW at h ⊢
    split at h
    · rename_i hc
      obtain ⟨h1, h2⟩ := takeW_ok t r (p + 1) h
      rw [if_pos hc, drop_of hc, h1, h2, List.length_cons, show p + 1 + r.length = p + (r.length + 1) by omega]
      exact ⟨rfl, rfl⟩
    · cases h
theorem takeW_of (t : List Int) : ∀ (r s : List Int) (p : Nat), t.drop p = r ++ s → takeW t p r = (p + r.length, true)
  | [], s, p, _ => by simp [takeW]
  | c :: r, s, p, h => by
    obtain ⟨h1, h2⟩ := of_drop h
    rw [takeW, if_pos h1, takeW_of t r s (p + 1) h2, List.length_cons, show p + 1 + r.length = p + (r.length + 1) by omega]
theorem drop_append {t r s : List Int} {p : Nat} (h : t.drop p = r ++ s) : t.drop (p + r.length) = s := by
  rw [← List.drop_drop, h]; simp

/-! ### The text that is left -/
def kd (N : List Nd) (o : Nat) : Int := (N.getD o nil0).2.2
def kk (N : List Nd) (o : Nat) : Int := (N.getD o nil0).1
def nn (N : List Nd) (o : Nat) : Int := (N.getD o nil0).2.1
def kst (M N : List Nd) (O : List Nat) : Stk := O.map fun o => (kd M o - kd N o + 1, kk M o)
def cl (f k : Int) (K : Stk) (r : List Nd) : List Int := (closeM f k K).1 ++ printM r (closeM f k K).2
/-- The text that is left when N is read, O is open, M is what comes of it. -/
def Fm (M N : List Nd) (O : List Nat) (en : Bool) : List Int := match O with
  | [] => printM (M.drop N.length) []
  | o :: O => (if en = true ∧ 0 < kd M o - kd N o then [44, 32] else []) ++ cl (kd M o - kd N o) (kk M o) (kst M N O) (M.drop N.length)
theorem cl_pos {f k : Int} {K : Stk} {r : List Nd} (h : f ≠ 0) : cl f k K r = printM r ((f, k) :: K) := by
  cases K with
  | nil => simp [cl, closeM, h]
  | cons e T => obtain ⟨g, k2⟩ := e; simp [cl, closeM, h]
theorem cl_end (M N : List Nd) (O : List Nat) (k : Int) : cl 0 k (kst M N O) (M.drop N.length) = endT k ++ Fm M N O true := by
  cases O with
  | nil => simp [cl, kst, closeM, Fm]
  | cons o O => simp [kst, Fm, cl, closeM, Int.add_sub_cancel]
theorem Fm_close {M N : List Nd} {o : Nat} {O : List Nat} {en : Bool} (h : kd N o = kd M o) : Fm M N (o :: O) en = endT (kk M o) ++ Fm M N O true := by
  rw [Fm, h, Int.sub_self, if_neg (by simp), cl_end]; rfl
theorem Fm_comma {M N : List Nd} {o : Nat} {O : List Nat} (h : kd N o < kd M o) : Fm M N (o :: O) true = [44, 32] ++ Fm M N (o :: O) false := by
  rw [Fm, Fm, if_pos ⟨rfl, by omega⟩, if_neg (by simp)]; rfl
theorem kd_add {N : List Nd} {O : List Nat} (k n : Int) {j : Nat} (hO : ∀ x ∈ O, x < N.length) (hj : j < N.length) : kd (addN N O k n) j = kd N j + (if O.head? = some j then 1 else 0) ∧ kk (addN N O k n) j = kk N j ∧ nn (addN N O k n) j = nn N j := by
  unfold kd kk nn
  rw [addN_getD N O k n j hO, if_neg (by omega)]
  split <;> simp
theorem nd_add {N : List Nd} {O : List Nat} (k n : Int) (hO : ∀ x ∈ O, x < N.length) : kd (addN N O k n) N.length = 0 ∧ kk (addN N O k n) N.length = k ∧ nn (addN N O k n) N.length = n := by
  unfold kd kk nn
  rw [addN_getD N O k n _ hO, if_pos rfl]
  simp
theorem kst_add {M N : List Nd} {o : Nat} {O : List Nat} (k n : Int) (hO : ∀ x ∈ o :: O, x < N.length) (hn : o ∉ O) : kst M (addN N (o :: O) k n) O = kst M N O := by
  unfold kst
  refine List.map_congr_left fun j hj => ?_
  have hne : ¬ (some o = some j) := fun h => hn (by injection h with h; rw [h]; exact hj)
  rw [(kd_add k n hO (hO j (by simp [hj]))).1, List.head?_cons, if_neg hne, Int.add_zero]
theorem drop_nd {M : List Nd} {i : Nat} (h : i < M.length) : M.drop i = M.getD i nil0 :: M.drop (i + 1) := by
  rw [List.drop_eq_getElem_cons h, List.getD, List.getElem?_eq_getElem h]; rfl
theorem printM_cons (x : Nd) (l : List Nd) (K : Stk) : printM (x :: l) K = beginT x ++ cl x.2.2 x.1 K l := by simp [printM, cl]
theorem Fm_begin {M N : List Nd} {O : List Nat} (k n : Int) (hl : N.length < M.length) (hO : ∀ x ∈ O, x < N.length) (hn : O.Nodup) (hf : ∀ o, O.head? = some o → kd N o < kd M o) :
    Fm M N O false = beginT (M.getD N.length nil0) ++ Fm M (addN N O k n) (N.length :: O) false := by
  have hx := (nd_add k n hO).1
  cases O with
  | nil =>
    rw [Fm, Fm, drop_nd hl, printM_cons, addN_len, hx]
    simp [kst, kd, kk]
  | cons o O =>
    have h1 := hf o rfl
    have h2 : o ∉ O := (List.nodup_cons.1 hn).1
    have h3 : kst M (addN N (o :: O) k n) (o :: O) = (kd M o - kd N o, kk M o) :: kst M N O := by
      rw [← kst_add k n hO h2]
      simp only [kst, List.map_cons]
      rw [(kd_add k n hO (hO o (by simp))).1, if_pos (by simp)]
      congr 2
      omega
    rw [Fm, Fm, cl_pos (by omega), drop_nd hl, printM_cons, addN_len, hx, h3]
    simp [kd, kk]
theorem popO_suffix (N : List Nd) : ∀ (O : List Nat), popO N O <:+ O
  | [] => List.suffix_rfl
  | o :: O => by
    unfold popO
    split
    · exact (popO_suffix N O).trans (List.suffix_cons o O)
    · exact List.suffix_rfl
theorem popO_head (N : List Nd) : ∀ (O : List Nat) (o : Nat), (popO N O).head? = some o → kk N o ≠ 5
  | [], o, h => by simp [popO] at h
  | q :: O, o, h => by
    unfold popO at h
    split at h
    · exact popO_head N O o h
    · rename_i hq
      simp at h
      subst h
      exact hq
theorem popO_mem (N : List Nd) : ∀ (O : List Nat) (o : Nat), o ∈ O → o ∈ popO N O ∨ kk N o = 5
  | q :: O, o, h => by
    unfold popO
    split
    · rename_i hq
      rcases List.mem_cons.1 h with rfl | h
      · exact .inr hq
      · exact popO_mem N O o h
    · exact .inl h
theorem Fm_pop {M N : List Nd} : ∀ {O : List Nat}, O.Nodup → (∀ o ∈ O, kk N o = kk M o) → (∀ o ∈ O, o ∉ popO N O → kd N o = kd M o) → Fm M N O true = Fm M N (popO N O) true
  | [], _, _, _ => rfl
  | o :: O, hn, hk, hd => by
    obtain ⟨h1, h2⟩ := List.nodup_cons.1 hn
    by_cases h5 : kk N o = 5
    · have e : popO N (o :: O) = popO N O := by rw [popO]; exact if_pos h5
      rw [e] at hd ⊢
      have h3 : o ∉ popO N O := fun h => h1 ((popO_suffix N O).mem h)
      rw [Fm_close (hd o (by simp) h3), ← hk o (by simp), h5, ← Fm_pop h2 (fun q hq => hk q (by simp [hq])) (fun q hq h => hd q (by simp [hq]) h)]
      simp [endT]
    · have e : popO N (o :: O) = o :: O := by rw [popO]; exact if_neg h5
      rw [e]
def sm (M N : List Nd) : List Nat → Int
  | [] => 0
  | o :: O => kd M o - kd N o + sm M N O
theorem sm_pop {M N : List Nd} : ∀ {O : List Nat}, O.Nodup → (∀ o ∈ O, o ∉ popO N O → kd N o = kd M o) → sm M N (popO N O) = sm M N O
  | [], _, _ => rfl
  | o :: O, hn, hd => by
    obtain ⟨h1, h2⟩ := List.nodup_cons.1 hn
    by_cases h5 : kk N o = 5
    · have e : popO N (o :: O) = popO N O := by rw [popO]; exact if_pos h5
      rw [e] at hd ⊢
      have h3 : o ∉ popO N O := fun h => h1 ((popO_suffix N O).mem h)
      rw [sm, hd o (by simp) h3, sm_pop h2 (fun q hq h => hd q (by simp [hq]) h)]
      omega
    · have e : popO N (o :: O) = o :: O := by rw [popO]; exact if_neg h5
      rw [e]
theorem sm_congr {M N N' : List Nd} : ∀ {O : List Nat}, (∀ o ∈ O, kd N' o = kd N o) → sm M N' O = sm M N O
  | [], _ => rfl
  | o :: O, h => by rw [sm, sm, h o (by simp), sm_congr fun q hq => h q (by simp [hq])]
theorem sm_add {M N : List Nd} {O : List Nat} (k n : Int) (hO : ∀ x ∈ O, x < N.length) (hn : O.Nodup) : sm M (addN N O k n) O = sm M N O - (if O = [] then 0 else 1) := by
  cases O with
  | nil => rfl
  | cons o O =>
    have h2 : o ∉ O := (List.nodup_cons.1 hn).1
    rw [sm, sm, (kd_add k n hO (hO o (by simp))).1, if_pos (by simp), if_neg (by simp), sm_congr (N := N)]
    · omega
    · intro j hj
      have hne : ¬ (some o = some j) := fun h => h2 (by injection h with h; rw [h]; exact hj)
      rw [(kd_add k n hO (hO j (by simp [hj]))).1, List.head?_cons, if_neg hne, Int.add_zero]
theorem sm_nonneg {M N : List Nd} : ∀ {O : List Nat}, (∀ o ∈ O, kd N o ≤ kd M o) → 0 ≤ sm M N O
  | [], _ => Int.le_refl _
  | o :: O, h => by
    have h1 := h o (by simp)
    have h2 := sm_nonneg (M := M) (N := N) (O := O) fun q hq => h q (by simp [hq])
    rw [sm]; omega
/-- How many values are missing. -/
def Cn (M N : List Nd) (O : List Nat) (en : Bool) : Int := sm M N O + (if O = [] ∧ en = false then 1 else 0)
theorem chk_shift : ∀ (l : List Nd) (m a b : Int), (chk m a l).1 = (chk m b l).1
  | [], m, a, b => by unfold chk; split <;> rfl
  | x :: l, m, a, b => by
    unfold chk; split
    · rfl
    · exact chk_shift l _ _ _
theorem chk_zero : ∀ (l : List Nd) (m a : Int), (chk m a l).1 = 0 → chk m a l = (0, 0)
  | [], m, a, h => by unfold chk at h ⊢; split <;> simp_all
  | x :: l, m, a, h => by
    unfold chk at h ⊢; split
    · simp_all
    · rename_i h2
      rw [if_neg h2] at h
      exact chk_zero l _ _ h
def Ck (m : Int) (l : List Nd) : Prop := (chk m 0 l).1 = 0
theorem Ck_cons {m : Int} {x : Nd} {l : List Nd} : Ck m (x :: l) ↔ m ≠ 0 ∧ right x = true ∧ Ck (m + (x.2.2 - 1)) l := by
  unfold Ck
  rw [chk]
  by_cases h : m = 0 ∨ right x = false
  · rw [if_pos h]
    simp
    intro h1 h2
    rcases h with h | h
    · exact absurd h h1
    · rw [h] at h2; cases h2
  · rw [if_neg h, chk_shift l _ _ 0]
    simp at h
    exact ⟨fun h1 => ⟨h.1, h.2, h1⟩, fun h1 => h1.2.2⟩
theorem Ck_nil {m : Int} : Ck m [] ↔ m ≤ 0 := by
  unfold Ck; rw [chk]; split <;> simp <;> omega
end Go.Proofs.YtlbgdgobhiokpaaDoor
