/- Code: what lies in memory while a program is read. -/
import Derived.Test.YteadmiikenpjeaaDoorCdl
namespace Go.Proofs.YteadmiikenpjeaaDoor
open Go.RowKit
set_option linter.unusedVariables false

/-- Instructions of the call's own. -/
def COwn (w : World) (B : Nat) (v : Value) (l : List In) : Prop := w.ownsRow B 41 4 v l.length (cellsG inc l)
theorem COwn.later {w w' : World} {B : Nat} {v : Value} {l : List In} (h : COwn w B v l) (hB : Below w.heap.size w w') : COwn w' B v l := ownS_upd h (Upd.of_below (S := fun _ => False) hB) (fun _ _ h => h)
theorem COwn.nil (w : World) (B : Nat) : COwn w B (.slice none 0 0) [] := World.ownsRow_nil _ _ _ _
theorem COwn.row {w : World} {B : Nat} {v : Value} {l : List In} (h : COwn w B v l) : ∃ a c, v = .slice a l.length c ∧ l.length ≤ c ∧ (a = none → c = 0) ∧ IRow w a l := own_grow inc_len h
theorem inc_one (x : In) : ∀ u ∈ inc x, u.oneCell' = true := fun u hu => by
  simp [inc] at hu
  rcases hu with rfl | rfl | rfl | rfl <;> rfl
theorem infoIn : (Tryd.prog.info? 41).map (fun i => (i.zero, i.size, i.bytes)) = some (some (.agg #[.int .i64 0, .int .i64 0, .int .i64 0, .int .i64 0]), 4, 32) := by kernel_rfl
theorem COwn.push {w : World} {B : Nat} {v : Value} {l : List In} (h : COwn w B v l) (x : In) (hl : l.length ≤ 1000000000) (hB : B ≤ w.heap.size) :
    ∃ g cap w', (Builtin.append_ #[22, 22] 22 #[v, .slice (some ⟨w.heap.size, 0, none⟩) 1 1]).run Tryd.prog (w.alloc (.cells #[.int .i64 x.op, .int .i64 x.a, .int .i64 x.b, .int .i64 x.c] 41)) = .ok (.slice (some ⟨g, 0, none⟩) (l.length + 1) cap) w' ∧
      COwn w' B (.slice (some ⟨g, 0, none⟩) (l.length + 1) cap) (l ++ [x]) ∧ Upd (fun k => v.ownBlock = some k) w w' ∧ (v.ownBlock = some g ∨ w.heap.size ≤ g) := by
  obtain ⟨g, cap, w', h1, h2, h3, h4⟩ := run_pushS (P := Tryd.prog) (t := 22) (e := 41) (c := 4) Tryd.underlying22 infoIn rfl (by decide) w 22 h (inc x) rfl (inc_one x) (by unfold maxLen; omega) (by omega) hB
  refine ⟨g, cap, w', h1, ?_, h3, h4⟩
  unfold COwn
  rw [cellsG_app, cellsG_one, List.length_append, List.length_singleton]
  exact h2
/-- The reader, the program under way, and the lists of both. -/
structure PgM (w0 w : World) (gr gp : Nat) (v : Value) (s : Rs) (enc : Bool) (vE vC vX vN : Value) (ea ca : List Int) (X : List In) (N : List Int) : Prop where
  rd : Blk w gr 63 (rdc v s vE vC)
  pr : Blk w gp 25 [.bool enc, vX, vN]
  oE : IOwn w w0.heap.size vE ea
  oC : IOwn w w0.heap.size vC ca
  oX : COwn w w0.heap.size vX X
  oN : IOwn w w0.heap.size vN N
  aEN : ∀ k, vE.ownBlock = some k → ¬ vN.ownBlock = some k
  aEC : ∀ k, vE.ownBlock = some k → ¬ vC.ownBlock = some k
  aNC : ∀ k, vN.ownBlock = some k → ¬ vC.ownBlock = some k
  up : Upd (fun k => k = gr) w0 w
  lr : gr < w0.heap.size
  lp : w0.heap.size ≤ gp
section
variable {w0 w w' : World} {gr gp : Nat} {v : Value} {s s' : Rs} {enc : Bool} {vE vC vX vN : Value} {ea ca : List Int} {X : List In} {N : List Int}
theorem PgM.size (h : PgM w0 w gr gp v s enc vE vC vX vN ea ca X N) : w0.heap.size ≤ w.heap.size := h.up.size
theorem notI {w : World} {B g : Nat} {u : Value} {l : List Int} {t : TypeId} {ys : List Value} (h : IOwn w B u l) (hb : Blk w g t ys) (ht : t ≠ 3) : ¬ u.ownBlock = some g := fun e => by
  obtain ⟨zs, hz⟩ := ownS_type h e
  exact ht (blk_type hb hz)
theorem notC {w : World} {B g : Nat} {u : Value} {l : List In} {t : TypeId} {ys : List Value} (h : COwn w B u l) (hb : Blk w g t ys) (ht : t ≠ 41) : ¬ u.ownBlock = some g := fun e => by
  obtain ⟨zs, hz⟩ := ownS_type h e
  exact ht (blk_type hb hz)
theorem notIC {w : World} {B B' : Nat} {u u' : Value} {l : List Int} {l' : List In} (h : IOwn w B u l) (h' : COwn w B' u' l') (k : Nat) (e : u.ownBlock = some k) : ¬ u'.ownBlock = some k := fun e' => by
  obtain ⟨zs, hz⟩ := ownS_type h e
  exact notC h' hz (by decide) e'
theorem PgM.later (h : PgM w0 w gr gp v s enc vE vC vX vN ea ca X N) (hB : Below w.heap.size w w') : PgM w0 w' gr gp v s enc vE vC vX vN ea ca X N :=
  ⟨h.rd.later hB, h.pr.later hB, h.oE.later hB, h.oC.later hB, h.oX.later hB, h.oN.later hB, h.aEN, h.aEC, h.aNC, h.up.then hB, h.lr, h.lp⟩
/-- The reader went on. -/
theorem PgM.read (h : PgM w0 w gr gp v s enc vE vC vX vN ea ca X N) (hk : Blk w' gr 63 (rdc v s' vE vC)) (hu : Upd (fun k => k = gr) w w') : PgM w0 w' gr gp v s' enc vE vC vX vN ea ca X N := by
  have hlr := h.lr
  refine ⟨hk, h.pr.upd hu (fun e => ?_), h.oE.upd hu (fun k e hk => ?_), h.oC.upd hu (fun k e hk => ?_), ownS_upd h.oX hu (fun k e hk => ?_), h.oN.upd hu (fun k e hk => ?_), h.aEN, h.aEC, h.aNC, h.up.to hu, h.lr, h.lp⟩
  · have := h.lp; omega
  · have := (h.oE.lies e).1; omega
  · have := (h.oC.lies e).1; omega
  · have := (World.ownsRow.lt h.oX k e).1; omega
  · have := (h.oN.lies e).1; omega
/-- A place is kept: behind the Entries'. -/
theorem PgM.pushE (h : PgM w0 w gr gp v s enc vE vC vX vN ea ca X N) (x : Int) (hl : ea.length ≤ 17592186044415) :
    ∃ g cap w1, (Builtin.append_ #[23, 23] 23 #[vE, .slice (some ⟨w.heap.size, 0, none⟩) 1 1]).run Tryd.prog (w.alloc (.cells #[.int .i64 x] 3)) = .ok (.slice (some ⟨g, 0, none⟩) (ea.length + 1) cap) w1 ∧ Blk w1 gr 63 (rdc v s vE vC) ∧
      PgM w0 (w1.setCell ⟨gr, 4, none⟩ (.slice (some ⟨g, 0, none⟩) (ea.length + 1) cap)) gr gp v s enc (.slice (some ⟨g, 0, none⟩) (ea.length + 1) cap) vC vX vN (ea ++ [x]) ca X N := by
  obtain ⟨g, cap, w1, h1, h2, h3, h4⟩ := h.oE.push x hl h.size
  have hlr := h.lr
  have hgs : ∀ {u : Value} {k : Nat}, u.ownBlock = some k → (vE.ownBlock = some k → False) → k < w.heap.size → ¬ k = g := fun {u k} hu hn hk e => by
    subst e
    rcases h4 with h4 | h4
    · exact hn h4
    · omega
  have hrd := h.rd.upd h3 (notI h.oE h.rd (by decide))
  have hU2 : Upd (fun k => k = gr) w1 (w1.setCell ⟨gr, 4, none⟩ (.slice (some ⟨g, 0, none⟩) (ea.length + 1) cap)) := (Upd.refl _ w1).set _ _ (.inl rfl)
  have hgr : w0.heap.size ≤ g := (h2.lies (k := g) rfl).1
  refine ⟨g, cap, w1, h1, hrd, ?_, (h.pr.upd h3 (notI h.oE h.pr (by decide))).upd hU2 (fun e => by have := h.lp; omega), h2.upd hU2 (fun k e hk => by have := (h2.lies e).1; omega), (h.oC.upd h3 (fun k e hk => h.aEC k hk e)).upd hU2 (fun k e hk => by have := (h.oC.lies e).1; omega), ownS_upd (ownS_upd h.oX h3 (fun k e hk => notIC h.oE h.oX k hk e)) hU2 (fun k e hk => by have := (World.ownsRow.lt h.oX k e).1; omega), (h.oN.upd h3 (fun k e hk => h.aEN k hk e)).upd hU2 (fun k e hk => by have := (h.oN.lies e).1; omega), fun k e e2 => ?_, fun k e e2 => ?_, h.aNC, ?_, h.lr, h.lp⟩
  · have := hrd.set 4 (.slice (some ⟨g, 0, none⟩) (ea.length + 1) cap)
    simpa [rdc] using this
  · have := own_is e
    exact hgs e2 (fun e3 => h.aEN k e3 e2) (h.oN.lies e2).2 this.symm
  · have := own_is e
    exact hgs e2 (fun e3 => h.aEC k e3 e2) (h.oC.lies e2).2 this.symm
  · exact (h.up.trans h3 (fun k hk e => by have := (h.oE.lies e).1; omega)).to hU2
/-- A place is kept: behind the instructions'. -/
theorem PgM.pushC (h : PgM w0 w gr gp v s enc vE vC vX vN ea ca X N) (x : Int) (hl : ca.length ≤ 17592186044415) :
    ∃ g cap w1, (Builtin.append_ #[23, 23] 23 #[vC, .slice (some ⟨w.heap.size, 0, none⟩) 1 1]).run Tryd.prog (w.alloc (.cells #[.int .i64 x] 3)) = .ok (.slice (some ⟨g, 0, none⟩) (ca.length + 1) cap) w1 ∧ Blk w1 gr 63 (rdc v s vE vC) ∧
      PgM w0 (w1.setCell ⟨gr, 5, none⟩ (.slice (some ⟨g, 0, none⟩) (ca.length + 1) cap)) gr gp v s enc vE (.slice (some ⟨g, 0, none⟩) (ca.length + 1) cap) vX vN ea (ca ++ [x]) X N := by
  obtain ⟨g, cap, w1, h1, h2, h3, h4⟩ := h.oC.push x hl h.size
  have hlr := h.lr
  have hgs : ∀ {u : Value} {k : Nat}, u.ownBlock = some k → (vC.ownBlock = some k → False) → k < w.heap.size → ¬ k = g := fun {u k} hu hn hk e => by
    subst e
    rcases h4 with h4 | h4
    · exact hn h4
    · omega
  have hrd := h.rd.upd h3 (notI h.oC h.rd (by decide))
  have hU2 : Upd (fun k => k = gr) w1 (w1.setCell ⟨gr, 5, none⟩ (.slice (some ⟨g, 0, none⟩) (ca.length + 1) cap)) := (Upd.refl _ w1).set _ _ (.inl rfl)
  have hgr : w0.heap.size ≤ g := (h2.lies (k := g) rfl).1
  refine ⟨g, cap, w1, h1, hrd, ?_, (h.pr.upd h3 (notI h.oC h.pr (by decide))).upd hU2 (fun e => by have := h.lp; omega), (h.oE.upd h3 (fun k e hk => h.aEC k e hk)).upd hU2 (fun k e hk => by have := (h.oE.lies e).1; omega), h2.upd hU2 (fun k e hk => by have := (h2.lies e).1; omega), ownS_upd (ownS_upd h.oX h3 (fun k e hk => notIC h.oC h.oX k hk e)) hU2 (fun k e hk => by have := (World.ownsRow.lt h.oX k e).1; omega), (h.oN.upd h3 (fun k e hk => h.aNC k e hk)).upd hU2 (fun k e hk => by have := (h.oN.lies e).1; omega), h.aEN, fun k e e2 => ?_, fun k e e2 => ?_, ?_, h.lr, h.lp⟩
  · have := hrd.set 5 (.slice (some ⟨g, 0, none⟩) (ca.length + 1) cap)
    simpa [rdc] using this
  · have := own_is e2
    exact hgs e (fun e3 => h.aEC k e e3) (h.oE.lies e).2 this.symm
  · have := own_is e2
    exact hgs e (fun e3 => h.aNC k e e3) (h.oN.lies e).2 this.symm
  · exact (h.up.trans h3 (fun k hk e => by have := (h.oC.lies e).1; omega)).to hU2
/-- An Entry more. -/
theorem PgM.pushN (h : PgM w0 w gr gp v s enc vE vC vX vN ea ca X N) (x : Int) (hl : N.length ≤ 17592186044415) :
    ∃ g cap w1, (Builtin.append_ #[23, 23] 23 #[vN, .slice (some ⟨w.heap.size, 0, none⟩) 1 1]).run Tryd.prog (w.alloc (.cells #[.int .i64 x] 3)) = .ok (.slice (some ⟨g, 0, none⟩) (N.length + 1) cap) w1 ∧ Blk w1 gp 25 [.bool enc, vX, vN] ∧
      PgM w0 (w1.setCell ⟨gp, 2, none⟩ (.slice (some ⟨g, 0, none⟩) (N.length + 1) cap)) gr gp v s enc vE vC vX (.slice (some ⟨g, 0, none⟩) (N.length + 1) cap) ea ca X (N ++ [x]) := by
  obtain ⟨g, cap, w1, h1, h2, h3, h4⟩ := h.oN.push x hl h.size
  have hlr := h.lr
  have hlp := h.lp
  have hgs : ∀ {u : Value} {k : Nat}, u.ownBlock = some k → (vN.ownBlock = some k → False) → k < w.heap.size → ¬ k = g := fun {u k} hu hn hk e => by
    subst e
    rcases h4 with h4 | h4
    · exact hn h4
    · omega
  have hpr := h.pr.upd h3 (notI h.oN h.pr (by decide))
  have hU2 : Upd (fun k => k = gp) w1 (w1.setCell ⟨gp, 2, none⟩ (.slice (some ⟨g, 0, none⟩) (N.length + 1) cap)) := (Upd.refl _ w1).set _ _ (.inl rfl)
  have i1 := h.oE.upd h3 (fun k e hk => h.aEN k e hk)
  have i2 := h.oC.upd h3 (fun k e hk => h.aNC k hk e)
  have i3 : COwn w1 w0.heap.size vX X := ownS_upd h.oX h3 (fun k e hk => notIC h.oN h.oX k hk e)
  refine ⟨g, cap, w1, h1, hpr, (h.rd.upd h3 (notI h.oN h.rd (by decide))).upd hU2 (fun e => by omega), ?_, i1.upd hU2 (fun k e hk => by subst hk; exact notI i1 hpr (by decide) e), i2.upd hU2 (fun k e hk => by subst hk; exact notI i2 hpr (by decide) e), ownS_upd i3 hU2 (fun k e hk => by subst hk; exact notC i3 hpr (by decide) e), h2.upd hU2 (fun k e hk => by subst hk; exact notI h2 hpr (by decide) e), fun k e e2 => ?_, h.aEC, fun k e e2 => ?_, ?_, h.lr, h.lp⟩
  · have := hpr.set 2 (.slice (some ⟨g, 0, none⟩) (N.length + 1) cap)
    simpa using this
  · have := own_is e2
    exact hgs e (fun e3 => h.aEN k e e3) (h.oE.lies e).2 this.symm
  · have := own_is e
    exact hgs e2 (fun e3 => h.aNC k e3 e2) (h.oC.lies e2).2 this.symm
  · exact (h.up.trans h3 (fun k hk e => by have := (h.oN.lies e).1; omega)).trans hU2 (fun k hk e => by omega)
/-- An instruction more. -/
theorem PgM.pushX (h : PgM w0 w gr gp v s enc vE vC vX vN ea ca X N) (x : In) (hl : X.length ≤ 1000000000) :
    ∃ g cap w1, (Builtin.append_ #[22, 22] 22 #[vX, .slice (some ⟨w.heap.size, 0, none⟩) 1 1]).run Tryd.prog (w.alloc (.cells #[.int .i64 x.op, .int .i64 x.a, .int .i64 x.b, .int .i64 x.c] 41)) = .ok (.slice (some ⟨g, 0, none⟩) (X.length + 1) cap) w1 ∧ Blk w1 gp 25 [.bool enc, vX, vN] ∧
      PgM w0 (w1.setCell ⟨gp, 1, none⟩ (.slice (some ⟨g, 0, none⟩) (X.length + 1) cap)) gr gp v s enc vE vC (.slice (some ⟨g, 0, none⟩) (X.length + 1) cap) vN ea ca (X ++ [x]) N := by
  obtain ⟨g, cap, w1, h1, h2, h3, h4⟩ := h.oX.push x hl h.size
  have hlr := h.lr
  have hlp := h.lp
  have hpr := h.pr.upd h3 (notC h.oX h.pr (by decide))
  have hU2 : Upd (fun k => k = gp) w1 (w1.setCell ⟨gp, 1, none⟩ (.slice (some ⟨g, 0, none⟩) (X.length + 1) cap)) := (Upd.refl _ w1).set _ _ (.inl rfl)
  have i1 := h.oE.upd h3 (fun k e hk => notIC h.oE h.oX k e hk)
  have i2 := h.oC.upd h3 (fun k e hk => notIC h.oC h.oX k e hk)
  have i3 := h.oN.upd h3 (fun k e hk => notIC h.oN h.oX k e hk)
  refine ⟨g, cap, w1, h1, hpr, (h.rd.upd h3 (notC h.oX h.rd (by decide))).upd hU2 (fun e => by omega), ?_, i1.upd hU2 (fun k e hk => by subst hk; exact notI i1 hpr (by decide) e), i2.upd hU2 (fun k e hk => by subst hk; exact notI i2 hpr (by decide) e), ownS_upd h2 hU2 (fun k e hk => by subst hk; exact notC h2 hpr (by decide) e), i3.upd hU2 (fun k e hk => by subst hk; exact notI i3 hpr (by decide) e), h.aEN, h.aEC, h.aNC, ?_, h.lr, h.lp⟩
  · have := hpr.set 1 (.slice (some ⟨g, 0, none⟩) (X.length + 1) cap)
    simpa using this
  · exact (h.up.trans h3 (fun k hk e => by have := (World.ownsRow.lt h.oX k e).1; omega)).trans hU2 (fun k hk e => by omega)
end
end Go.Proofs.YteadmiikenpjeaaDoor
