/- lent: a schema copied into lists with marks behind them. -/
import Derived.Test.YtomfidjmbjpceaaDoorZlm
import Derived.Test.YtomfidjmbjpceaaDoorOp
import Derived.Test.YtomfidjmbjpceaaDoorOn
import Derived.Test.YtomfidjmbjpceaaDoorRgf
namespace Go.Proofs.YtomfidjmbjpceaaDoor
open Go.RowKit
set_option linter.unusedVariables false

def mqP : Pt := ⟨⟨#[]⟩, 23130, 0⟩
def mqT : Ty := ⟨23130, 0, 0, []⟩
def mqR : Rt := ⟨⟨#[]⟩, 23130⟩
def mqN : Nv := ⟨23130, 0, 0⟩
theorem nvc_one (x : Nv) : ∀ u ∈ nvc x, u.oneCell' = true := fun u hu => by
  simp [nvc] at hu
  rcases hu with rfl | rfl | rfl <;> rfl
structure CuL (w0 w wr : World) (a b v : Value) (Q : List (Ty × Value)) : Prop where
  arg : Blk wr w.heap.size 25 [a, b]
  res : Blk wr (w.heap.size + 1) 33 [.slice none 0 0, .slice none 0 0, .slice none 0 0, .slice none 0 0]
  out : Blk wr (w.heap.size + 2) 25 [v, .slice none 0 0]
  own : TOwn wr w0.heap.size v Q
  low : ∀ k, v.ownBlock = some k → w.heap.size ≤ k
  bel : Below w.heap.size w wr
theorem retLn {fn : Func} {p : Tmp} (h : fn.results = #[.cell p 33]) {R : Ending → World → Prop} {tmps : Array Value} {g : Nat} {w : World} {x0 x1 x2 x3 : Value} (hp : tmps.getD p undef = .pointer (some ⟨g, 0, none⟩)) (hK : Blk w g 33 [x0, x1, x2, x3]) (hR : R (.returned (.agg #[x0, x1, x2, x3])) w) :
    bodyPost Tryd.prog fn R Exit.ret ⟨tmps, []⟩ w :=
  bodyPost_ret (results_cell_row h _ _ _ _ #[x0, x1, x2, x3] _ _ hp (show w.heap[g]? = some (.cells #[x0, x1, x2, x3] 33 (0, 0)) from hK) Tryd.underlying33 rfl (by show _ = some 4; kernel_rfl)) rfl hR
theorem wr4 {w : World} {g : Nat} {t : TypeId} {x0 x1 x2 x3 : Value} (h : Blk w g t [x0, x1, x2, x3]) (y0 y1 y2 y3 : Value) :
    Blk ((((w.setCell ⟨g, 0, none⟩ y0).setCell ⟨g, 1, none⟩ y1).setCell ⟨g, 2, none⟩ y2).setCell ⟨g, 3, none⟩ y3) g t [y0, y1, y2, y3] := by
  have := (((h.set 0 y0).set 1 y1).set 2 y2).set 3 y3
  simpa using this
theorem LtS.updN {w w' : World} {B gT cT gR cR : Nat} {Q : List (Ty × Value)} {R : List Rt} {q : Pt} {tq : Ty} {rq : Rt} (h : LtS w B gT cT Q gR cR R q tq rq) {g : Nat} {t : TypeId} {ys : List Value} (hu : Upd (fun k => k = g) w w') (hb : Blk w g t ys) (hg : B ≤ g) (h1 : t ≠ 64) (h2 : t ≠ 67) (h3 : t ≠ 69) : LtS w' B gT cT Q gR cR R q tq rq :=
  ⟨h.ty.updN hu hb hg h1 h2, fun p hp => (h.mks p hp).upd hu (fun k zs e hz => by subst e; exact h2 (blk_type hb hz)), h.rt.updN hu hb h3⟩
/-- What lent answers. -/
def LentTo (w : World) (T : List Ty) (R : List Rt) (V : List Nv) (P : List Int) (e : Ending) (w' : World) : Prop := ∃ gT cT Q gR cR gV cV gP cP, e = .returned (.agg #[.slice (some ⟨gT, 0, none⟩) T.length cT, .slice (some ⟨gR, 0, none⟩) R.length cR, .slice (some ⟨gV, 0, none⟩) V.length cV, .slice (some ⟨gP, 0, none⟩) P.length cP]) ∧ Hid (LtS w' w.heap.size gT cT Q gR cR R mqP mqT mqR) ∧ Hid (Q.map (·.1) = T) ∧ Hid (NOwn w' w.heap.size (.slice (some ⟨gV, 0, none⟩) (V.length + 1) cV) (V ++ [mqN])) ∧ Hid (IOwn w' w.heap.size (.slice (some ⟨gP, 0, none⟩) (P.length + 1) cP) (P ++ [23130])) ∧ Hid (Below w.heap.size w w')
theorem ptO (w : World) (va : Option Addr) (vc : Nat) (ps : List Pt) (hP : PRow w va ps) (hvn : va = none → vc = 0) (hpl : ps.length ≤ 1000000) :
    ∃ v1 w1 g2 c2 w2, (Builtin.append_ #[62, 62] 62 #[.slice none 0 0, .slice va ps.length vc]).run Tryd.prog w = .ok v1 w1 ∧
      (Builtin.append_ #[62, 62] 62 #[v1, .slice (some ⟨w1.heap.size, 0, none⟩) 1 1]).run Tryd.prog (w1.alloc (.cells #[.string ⟨#[]⟩, .int .i64 23130, .int .i64 0] 67)) = .ok (.slice (some ⟨g2, 0, none⟩) (ps.length + 1) c2) w2 ∧
      MkIn w2 w.heap.size mqP ps (.slice (some ⟨g2, 0, none⟩) ps.length c2) ∧ Below w.heap.size w w1 ∧ Below w.heap.size w w2 ∧ ps.length + 1 ≤ c2 := by
  obtain ⟨v1, w1, h1, h2, h3⟩ := copyP w va vc ps hP hvn hpl
  have kb : Blk (w1.alloc (.cells #[.string ⟨#[]⟩, .int .i64 23130, .int .i64 0] 67)) w1.heap.size 67 (ptc mqP) := Blk.newA w1 _ _
  have ba := below1 w1 (.cells #[.string ⟨#[]⟩, .int .i64 23130, .int .i64 0] 67)
  obtain ⟨g2, c2, w2, k1, k2, k3, k4, k5, -⟩ := run_app1 (P := Tryd.prog) ptc_len ptc_one Tryd.underlying62 infoP rfl (by decide) _ (h2.later ba) w1.heap.size mqP kb (by unfold maxLen; omega) (by omega) (Nat.le_trans h3.size ba.size)
  have hb2 : Below w.heap.size w w2 := (below_to h3 ba).trans (k3.below _ (Nat.le_trans h3.size ba.size) (fun k hk => (World.ownsRow.lt h2 k hk).1))
  exact ⟨v1, w1, g2, c2, w2, h1, k1, POwn.mkIn (B := w.heap.size) (by rw [List.length_append, List.length_singleton] at k2; unfold POwn; rw [List.length_append, List.length_singleton]; exact k2), h3, hb2, k5⟩
/-- The other order: the mark is laid first. -/
theorem ptO2 (w : World) (va : Option Addr) (vc : Nat) (ps : List Pt) (hP : PRow w va ps) (hvn : va = none → vc = 0) (hpl : ps.length ≤ 1000000) :
    ∃ v1 w1 g2 c2 w2, (Builtin.append_ #[62, 62] 62 #[.slice none 0 0, .slice va ps.length vc]).run Tryd.prog (w.alloc (.cells #[.string ⟨#[]⟩, .int .i64 23130, .int .i64 0] 67)) = .ok v1 w1 ∧
      (Builtin.append_ #[62, 62] 62 #[v1, .slice (some ⟨w.heap.size, 0, none⟩) 1 1]).run Tryd.prog w1 = .ok (.slice (some ⟨g2, 0, none⟩) (ps.length + 1) c2) w2 ∧
      MkIn w2 w.heap.size mqP ps (.slice (some ⟨g2, 0, none⟩) ps.length c2) ∧ Below w.heap.size w w1 ∧ Below w.heap.size w w2 ∧ ps.length + 1 ≤ c2 := by
  have ba := below1 w (.cells #[.string ⟨#[]⟩, .int .i64 23130, .int .i64 0] 67)
  have kb : Blk (w.alloc (.cells #[.string ⟨#[]⟩, .int .i64 23130, .int .i64 0] 67)) w.heap.size 67 (ptc mqP) := Blk.newA w _ _
  obtain ⟨v1, w1, h1, h2, h3⟩ := copyP _ va vc ps (hP.later ba) hvn hpl
  have h2' : POwn w1 w.heap.size v1 ps := own_base h2 ba.size
  obtain ⟨g2, c2, w2, k1, k2, k3, k4, k5, -⟩ := run_app1 (P := Tryd.prog) ptc_len ptc_one Tryd.underlying62 infoP rfl (by decide) w1 h2' w.heap.size mqP (kb.later h3) (by unfold maxLen; omega) (by omega) (Nat.le_trans ba.size h3.size)
  have hb1 := below_to ba h3
  have hb2 : Below w.heap.size w w2 := hb1.trans (k3.below _ hb1.size (fun k hk => (World.ownsRow.lt h2' k hk).1))
  exact ⟨v1, w1, g2, c2, w2, h1, k1, POwn.mkIn (B := w.heap.size) (by rw [List.length_append, List.length_singleton] at k2; unfold POwn; rw [List.length_append, List.length_singleton]; exact k2), hb1, hb2, k5⟩
/-- Roots. -/
theorem rtO (w : World) (a : Option Addr) (c : Nat) (R : List Rt) (hR : RRow w a R) (hn : a = none → c = 0) (hl : R.length ≤ 1000000) :
    ∃ v1 w1 g2 c2 w2, (Builtin.append_ #[23, 23] 23 #[.slice none 0 0, .slice a R.length c]).run Tryd.prog w = .ok v1 w1 ∧
      (Builtin.append_ #[23, 23] 23 #[v1, .slice (some ⟨w1.heap.size, 0, none⟩) 1 1]).run Tryd.prog (w1.alloc (.cells #[.string ⟨#[]⟩, .int .i64 23130] 69)) = .ok (.slice (some ⟨g2, 0, none⟩) (R.length + 1) c2) w2 ∧
      ROwn w2 w.heap.size (.slice (some ⟨g2, 0, none⟩) (R.length + 1) c2) (R ++ [mqR]) ∧ Below w.heap.size w w1 ∧ Below w.heap.size w w2 ∧ R.length + 1 ≤ c2 := by
  obtain ⟨v1, w1, h1, h2, h3⟩ := run_copyG (P := Tryd.prog) rtc_len rtc_one1 Tryd.underlying23 infoR rfl (by decide) w a R.length c R rfl hR hn (by unfold maxLen; omega) (by omega)
  have h2r : ROwn w1 w.heap.size v1 R := h2
  have kb : Blk (w1.alloc (.cells #[.string ⟨#[]⟩, .int .i64 23130] 69)) w1.heap.size 69 (rtc mqR) := Blk.newA w1 _ _
  have ba := below1 w1 (.cells #[.string ⟨#[]⟩, .int .i64 23130] 69)
  obtain ⟨g2, c2, w2, k1, k2, k3, k4, k5, -⟩ := run_app1 (P := Tryd.prog) rtc_len rtc_one1 Tryd.underlying23 infoR rfl (by decide) _ (h2r.later ba) w1.heap.size mqR kb (by unfold maxLen; omega) (by omega) (Nat.le_trans h3.size ba.size)
  have hb2 : Below w.heap.size w w2 := (below_to h3 ba).trans (k3.below _ (Nat.le_trans h3.size ba.size) (fun k hk => (World.ownsRow.lt h2r k hk).1))
  exact ⟨v1, w1, g2, c2, w2, h1, k1, k2, h3, hb2, k5⟩
theorem rtO2 (w : World) (a : Option Addr) (c : Nat) (R : List Rt) (hR : RRow w a R) (hn : a = none → c = 0) (hl : R.length ≤ 1000000) :
    ∃ v1 w1 g2 c2 w2, (Builtin.append_ #[23, 23] 23 #[.slice none 0 0, .slice a R.length c]).run Tryd.prog (w.alloc (.cells #[.string ⟨#[]⟩, .int .i64 23130] 69)) = .ok v1 w1 ∧
      (Builtin.append_ #[23, 23] 23 #[v1, .slice (some ⟨w.heap.size, 0, none⟩) 1 1]).run Tryd.prog w1 = .ok (.slice (some ⟨g2, 0, none⟩) (R.length + 1) c2) w2 ∧
      ROwn w2 w.heap.size (.slice (some ⟨g2, 0, none⟩) (R.length + 1) c2) (R ++ [mqR]) ∧ Below w.heap.size w w1 ∧ Below w.heap.size w w2 ∧ R.length + 1 ≤ c2 := by
  have ba := below1 w (.cells #[.string ⟨#[]⟩, .int .i64 23130] 69)
  have kb : Blk (w.alloc (.cells #[.string ⟨#[]⟩, .int .i64 23130] 69)) w.heap.size 69 (rtc mqR) := Blk.newA w _ _
  obtain ⟨v1, w1, h1, h2, h3⟩ := run_copyG (P := Tryd.prog) rtc_len rtc_one1 Tryd.underlying23 infoR rfl (by decide) _ a R.length c R rfl (hR.later ba) hn (by unfold maxLen; omega) (by omega)
  have h2' : ROwn w1 w.heap.size v1 R := own_base h2 ba.size
  obtain ⟨g2, c2, w2, k1, k2, k3, k4, k5, -⟩ := run_app1 (P := Tryd.prog) rtc_len rtc_one1 Tryd.underlying23 infoR rfl (by decide) w1 h2' w.heap.size mqR (kb.later h3) (by unfold maxLen; omega) (by omega) (Nat.le_trans ba.size h3.size)
  have hb1 := below_to ba h3
  have hb2 : Below w.heap.size w w2 := hb1.trans (k3.below _ hb1.size (fun k hk => (World.ownsRow.lt h2' k hk).1))
  exact ⟨v1, w1, g2, c2, w2, h1, k1, k2, hb1, hb2, k5⟩
end Go.Proofs.YtomfidjmbjpceaaDoor
