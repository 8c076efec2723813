/- layout: slots and layouts, plain; slotOf, plus, times; the document's slot, plus, times. -/
import Derived.Test.YtncndgfaalojpaaZba
import Derived.Test.YtncndgfaalojpaaIo
namespace Go.Proofs.Ytncndgfaalojpaa
open Go.RowKit
set_option linter.unusedVariables false

structure Sl where
  at_ : Int
  v : Bool
  sz : Int
structure Ly where
  sz : Int
  sl : List Sl
def sl0 : Sl := ⟨0, false, 0⟩
def slc (s : Sl) : List Value := [.int .i64 s.at_, .bool s.v, .int .i64 s.sz]
def slv (s : Sl) : Value := .agg #[.int .i64 s.at_, .bool s.v, .int .i64 s.sz]
theorem slc_len (s : Sl) : (slc s).length = 3 := rfl
def slotP (x : Ex) (at_ : Int) : Sl := if x.f then ⟨at_, false, x.l⟩ else ⟨at_, true, 4⟩
/-- One field more. -/
def addF (X : List Ex) (y : Ly) (p : Pt) : Ly := ⟨plus2 y.sz (slotP (exAt X p.ty) y.sz).sz, y.sl ++ [slotP (exAt X p.ty) y.sz]⟩
def rowP (X : List Ex) (ps : List Pt) : Ly := ps.foldl (addF X) ⟨0, []⟩
/-- A type's layout, by the extents. -/
def layP (X : List Ex) (t : Ty) : Ly :=
  if t.k = 8 then rowP X t.ps else
  if t.k = 4 then ⟨times2 t.n (slotP (exAt X t.e) 0).sz, [slotP (exAt X t.e) 0]⟩ else
  if t.k = 5 then ⟨0, [slotP (exAt X t.e) 0]⟩ else ⟨0, []⟩
theorem rowP_succ {X : List Ex} {ps : List Pt} {m : Nat} {p : Pt} (h : ps[m]? = some p) : rowP X (ps.take (m + 1)) = addF X (rowP X (ps.take m)) p := by
  have hm := (List.getElem?_eq_some_iff.1 h).1
  rw [List.take_succ_eq_append_getElem hm, (List.getElem?_eq_some_iff.1 h).2]
  simp [rowP]
theorem rowP_snoc (X : List Ex) (ps : List Pt) (p : Pt) : rowP X (ps ++ [p]) = addF X (rowP X ps) p := by simp [rowP]
theorem rowP_len (X : List Ex) (ps : List Pt) : (rowP X ps).sl.length = ps.length := by
  refine snoc_ind (P := fun ps => (rowP X ps).sl.length = ps.length) rfl (fun l x ih => ?_) ps
  rw [rowP_snoc]
  simp [addF, ih]
theorem rowP_bd (X : List Ex) (ps : List Pt) : 0 ≤ (rowP X ps).sz ∧ (rowP X ps).sz ≤ 4611686018427387904 := by
  refine snoc_ind (P := fun ps => 0 ≤ (rowP X ps).sz ∧ (rowP X ps).sz ≤ 4611686018427387904) ⟨by simp [rowP], by simp [rowP]⟩ (fun l x ih => ?_) ps
  rw [rowP_snoc]
  exact plus2_bd _ _
theorem slotP_bd {x : Ex} (h : XOk x) (a : Int) : 0 ≤ (slotP x a).sz ∧ (slotP x a).sz ≤ 4611686018427387904 := by
  have := h.l0; have := h.lm; have := h.mh
  unfold slotP
  split <;> simp only <;> omega
theorem plus2_in {a b : Int} (h0 : 0 ≤ a) (h1 : a ≤ 4611686018427387904) (k0 : 0 ≤ b) (k1 : b ≤ 4611686018427387904) : plus2 a b = if a + b ≤ 4611686018427387904 then a + b else 4611686018427387904 := by
  rw [plus2_eq, sz_id h0 h1, sz_id k0 k1]
  rfl
theorem times2_in {a b : Int} (h0 : 0 ≤ a) (h1 : a ≤ 4611686018427387904) (k0 : 0 ≤ b) (k1 : b ≤ 4611686018427387904) : times2 a b = if a * b ≤ 4611686018427387904 then a * b else 4611686018427387904 := by
  unfold times2
  rw [sz_id h0 h1, sz_id k0 k1]
  rfl
theorem quo_lt {n b : Int} (hn : 0 < n) (hb : 0 ≤ b) : (4611686018427387904 : Int).tdiv n < b ↔ 4611686018427387904 < n * b := by
  rw [Int.tdiv_eq_ediv_of_nonneg (by decide)]
  rw [Int.mul_comm n b]
  exact Int.ediv_lt_iff_lt_mul hn
theorem retS {fn : Func} {p : Tmp} (h : fn.results = #[.cell p 77]) {R : Ending → World → Prop} {tmps : Array Value} {g : Nat} {w : World} {x : Sl} (hp : tmps.getD p undef = .pointer (some ⟨g, 0, none⟩)) (hK : Blk w g 77 (slc x)) (hR : R (.returned (slv x)) w) :
    bodyPost Try.prog fn R Exit.ret ⟨tmps, []⟩ w :=
  bodyPost_ret (results_cell_row h _ _ _ _ (slc x).toArray _ _ hp hK Try.underlying77 rfl (by show _ = some 3; kernel_rfl)) rfl hR
theorem wr3 {w : World} {g : Nat} {t : TypeId} {x0 x1 x2 : Value} (h : Blk w g t [x0, x1, x2]) (y0 y1 y2 : Value) :
    Blk (((w.setCell ⟨g, 0, none⟩ y0).setCell ⟨g, 1, none⟩ y1).setCell ⟨g, 2, none⟩ y2) g t [y0, y1, y2] := by
  have := ((h.set 0 y0).set 1 y1).set 2 y2
  simpa using this
theorem below_wr3 {B : Nat} {w w' : World} (h : Below B w w') (b : Nat) (hb : B ≤ b) (y0 y1 y2 : Value) : Below B w (((w'.setCell ⟨b, 0, none⟩ y0).setCell ⟨b, 1, none⟩ y1).setCell ⟨b, 2, none⟩ y2) :=
  below_set (below_set (below_set h _ _ _ hb) _ _ _ hb) _ _ _ hb
set_option maxRecDepth 100000 in
set_option maxHeartbeats 4000000 in
theorem slotOf_any (x : Ex) (at_ : Int) (w : World) : Calls Try.prog 50 #[.agg #[.bool x.f, .int .i64 x.l, .int .i64 x.m, .int .i64 x.d], .int .i64 at_] w fun e w' => e = .returned (slv (slotP x at_)) ∧ Below w.heap.size w w' := by
  obtain ⟨xf, xl, xm, xd⟩ := x
  simp only
  have hB := below2 w (.cells #[.bool xf, .int .i64 xl, .int .i64 xm, .int .i64 xd] 63) (.cells #[.int .i64 0, .bool false, .int .i64 0] 77)
  obtain ⟨k1, k2⟩ := blk2 w #[.bool xf, .int .i64 xl, .int .i64 xm, .int .i64 xd] #[.int .i64 0, .bool false, .int .i64 0] 63 77
  obtain ⟨w0, hw0⟩ : ∃ wx, wx = (w.alloc (.cells #[.bool xf, .int .i64 xl, .int .i64 xm, .int .i64 xd] 63)).alloc (.cells #[.int .i64 0, .bool false, .int .i64 0] 77) := ⟨_, rfl⟩
  rw [← hw0] at hB k1 k2
  have HB := hide_ hB
  have K2 := hide_ k2
  have i0 := k1.cell 0; have i1 := k1.cell 1
  have j0 := k2.cell 0; have j1 := k2.cell 1; have j2 := k2.cell 2
  simp at i0 i1 j0 j1 j2
  have f2 := fun i => k2.frozen i
  clear hB k1 k2
  go_enter Try.func50, Try.ntmps50
  go_upto_region 1 with fail
  rw [← hw0]
  clear hw0
  cases xf with
  | true =>
    have HV : Hid (slotP ⟨true, xl, xm, xd⟩ at_ = ⟨at_, false, xl⟩) := hide_ rfl
    have HK := hide_ (wr3 K2.out (.int .i64 at_) (.bool false) (.int .i64 xl))
    have HBf := hide_ (below_wr3 HB.out (w.heap.size + 1) (by omega) (.int .i64 at_) (.bool false) (.int .i64 xl))
    go_wp2
    refine retS (x := ⟨at_, false, xl⟩) rfl rfl HK.out ⟨by rw [HV.out], HBf.out⟩
  | false =>
    have HV : Hid (slotP ⟨false, xl, xm, xd⟩ at_ = ⟨at_, true, 4⟩) := hide_ rfl
    have HK := hide_ (wr3 K2.out (.int .i64 at_) (.bool true) (.int .i64 4))
    have HBf := hide_ (below_wr3 HB.out (w.heap.size + 1) (by omega) (.int .i64 at_) (.bool true) (.int .i64 4))
    go_wp2
    refine retS (x := ⟨at_, true, 4⟩) rfl rfl HK.out ⟨by rw [HV.out], HBf.out⟩
set_option maxRecDepth 100000 in
set_option maxHeartbeats 4000000 in
theorem slotR_any (x : Ex) (at_ : Int) (w : World) : Calls Try.prog 34 #[.agg #[.bool x.f, .int .i64 x.l, .int .i64 x.m, .int .i64 x.d], .int .i64 at_] w fun e w' => e = .returned (slv (slotP x at_)) ∧ Below w.heap.size w w' := by
  obtain ⟨xf, xl, xm, xd⟩ := x
  simp only
  have hB := below2 w (.cells #[.bool xf, .int .i64 xl, .int .i64 xm, .int .i64 xd] 63) (.cells #[.int .i64 0, .bool false, .int .i64 0] 77)
  obtain ⟨k1, k2⟩ := blk2 w #[.bool xf, .int .i64 xl, .int .i64 xm, .int .i64 xd] #[.int .i64 0, .bool false, .int .i64 0] 63 77
  obtain ⟨w0, hw0⟩ : ∃ wx, wx = (w.alloc (.cells #[.bool xf, .int .i64 xl, .int .i64 xm, .int .i64 xd] 63)).alloc (.cells #[.int .i64 0, .bool false, .int .i64 0] 77) := ⟨_, rfl⟩
  rw [← hw0] at hB k1 k2
  have HB := hide_ hB
  have K2 := hide_ k2
  have i0 := k1.cell 0; have i1 := k1.cell 1
  have j0 := k2.cell 0; have j1 := k2.cell 1; have j2 := k2.cell 2
  simp at i0 i1 j0 j1 j2
  have f2 := fun i => k2.frozen i
  clear hB k1 k2
  go_enter Try.func34, Try.ntmps34
  go_upto_region 1 with fail
  rw [← hw0]
  clear hw0
  cases xf with
  | true =>
    have HV : Hid (slotP ⟨true, xl, xm, xd⟩ at_ = ⟨at_, false, xl⟩) := hide_ rfl
    have HK := hide_ (wr3 K2.out (.int .i64 at_) (.bool false) (.int .i64 xl))
    have HBf := hide_ (below_wr3 HB.out (w.heap.size + 1) (by omega) (.int .i64 at_) (.bool false) (.int .i64 xl))
    go_wp2
    refine retS (x := ⟨at_, false, xl⟩) rfl rfl HK.out ⟨by rw [HV.out], HBf.out⟩
  | false =>
    have HV : Hid (slotP ⟨false, xl, xm, xd⟩ at_ = ⟨at_, true, 4⟩) := hide_ rfl
    have HK := hide_ (wr3 K2.out (.int .i64 at_) (.bool true) (.int .i64 4))
    have HBf := hide_ (below_wr3 HB.out (w.heap.size + 1) (by omega) (.int .i64 at_) (.bool true) (.int .i64 4))
    go_wp2
    refine retS (x := ⟨at_, true, 4⟩) rfl rfl HK.out ⟨by rw [HV.out], HBf.out⟩
set_option maxHeartbeats 4000000 in
theorem lplus_any (a b : Int) (w : World) (h0 : 0 ≤ a) (h1 : a ≤ 4611686018427387904) (k0 : 0 ≤ b) (k1 : b ≤ 4611686018427387904) : Calls Try.prog 51 #[.int .i64 a, .int .i64 b] w fun e w' => e = .returned (.int .i64 (plus2 a b)) ∧ w = w' := by
  rw [plus2_in h0 h1 k0 k1]
  have hw := w64 (4611686018427387904 - a) (by omega)
  by_cases h : a + b ≤ 4611686018427387904
  · rw [if_pos h]
    have hd : decide (4611686018427387904 - a < b) = false := by simp; omega
    have hw2 := w64 (a + b) (by omega)
    go_enter Try.func51, Try.ntmps51
    go_wp2
    go_ret
    exact ⟨rfl, rfl⟩
  · rw [if_neg h]
    have hd : decide (4611686018427387904 - a < b) = true := by simp; omega
    go_enter Try.func51, Try.ntmps51
    go_wp2
    go_ret
    exact ⟨rfl, rfl⟩
set_option maxHeartbeats 4000000 in
theorem plusD_any (a b : Int) (w : World) (h0 : 0 ≤ a) (h1 : a ≤ 4611686018427387904) (k0 : 0 ≤ b) (k1 : b ≤ 4611686018427387904) : Calls Try.prog 35 #[.int .i64 a, .int .i64 b] w fun e w' => e = .returned (.int .i64 (plus2 a b)) ∧ w = w' := by
  rw [plus2_in h0 h1 k0 k1]
  have hw := w64 (4611686018427387904 - b) (by omega)
  by_cases h : a + b ≤ 4611686018427387904
  · rw [if_pos h]
    have hd : decide (4611686018427387904 - b < a) = false := by simp; omega
    have hw2 := w64 (a + b) (by omega)
    go_enter Try.func35, Try.ntmps35
    go_wp2
    go_ret
    exact ⟨rfl, rfl⟩
  · rw [if_neg h]
    have hd : decide (4611686018427387904 - b < a) = true := by simp; omega
    go_enter Try.func35, Try.ntmps35
    go_wp2
    go_ret
    exact ⟨rfl, rfl⟩
set_option maxHeartbeats 4000000 in
theorem ltimes_any (a b : Int) (w : World) (h0 : 0 < a) (h1 : a ≤ 1048576) (k0 : 0 ≤ b) (k1 : b ≤ 4611686018427387904) : Calls Try.prog 52 #[.int .i64 a, .int .i64 b] w fun e w' => e = .returned (.int .i64 (times2 a b)) ∧ w = w' := by
  rw [times2_in (by omega) (by omega) k0 k1]
  have hz : (a == 0) = false := by simp; omega
  have hq := quo_lt (n := a) (b := b) h0 k0
  have hq0 : 0 ≤ (4611686018427387904 : Int).tdiv a := Int.tdiv_nonneg (by decide) (by omega)
  have hq1 : (4611686018427387904 : Int).tdiv a ≤ 4611686018427387904 := by
    rw [Int.tdiv_eq_ediv_of_nonneg (by decide)]
    exact Int.ediv_le_self _ (by decide)
  have hp : 0 ≤ a * b := Int.mul_nonneg (by omega) k0
  generalize hqq : (4611686018427387904 : Int).tdiv a = q at *
  have HQQ := hide_ hqq
  obtain ⟨r, hr⟩ : ∃ r, a * b = r := ⟨_, rfl⟩
  rw [hr] at hq hp ⊢
  have hw := w64 q (by omega)
  by_cases h : r ≤ 4611686018427387904
  · rw [if_pos h]
    have hd : decide (q < b) = false := by simp; omega
    have hw2 := w64 r (by omega)
    clear hq
    go_enter Try.func52, Try.ntmps52
    go_wp2
    go_ret
    exact ⟨rfl, rfl⟩
  · rw [if_neg h]
    have hd : decide (q < b) = true := by simp; omega
    clear hq
    go_enter Try.func52, Try.ntmps52
    go_wp2
    go_ret
    exact ⟨rfl, rfl⟩
set_option maxHeartbeats 4000000 in
theorem timesD_any (a b : Int) (w : World) (h0 : 0 < a) (h1 : a ≤ 1048576) (k0 : 0 ≤ b) (k1 : b ≤ 4611686018427387904) : Calls Try.prog 36 #[.int .i64 a, .int .i64 b] w fun e w' => e = .returned (.int .i64 (times2 a b)) ∧ w = w' := by
  rw [times2_in (by omega) (by omega) k0 k1]
  have hz : (a == 0) = false := by simp; omega
  have hq := quo_lt (n := a) (b := b) h0 k0
  have hq0 : 0 ≤ (4611686018427387904 : Int).tdiv a := Int.tdiv_nonneg (by decide) (by omega)
  have hq1 : (4611686018427387904 : Int).tdiv a ≤ 4611686018427387904 := by
    rw [Int.tdiv_eq_ediv_of_nonneg (by decide)]
    exact Int.ediv_le_self _ (by decide)
  have hp : 0 ≤ a * b := Int.mul_nonneg (by omega) k0
  generalize hqq : (4611686018427387904 : Int).tdiv a = q at *
  have HQQ := hide_ hqq
  obtain ⟨r, hr⟩ : ∃ r, a * b = r := ⟨_, rfl⟩
  rw [hr] at hq hp ⊢
  have hw := w64 q (by omega)
  by_cases h : r ≤ 4611686018427387904
  · rw [if_pos h]
    have hd : decide (q < b) = false := by simp; omega
    have hw2 := w64 r (by omega)
    clear hq
    go_enter Try.func36, Try.ntmps36
    go_wp2
    go_ret
    exact ⟨rfl, rfl⟩
  · rw [if_neg h]
    have hd : decide (q < b) = true := by simp; omega
    clear hq
    go_enter Try.func36, Try.ntmps36
    go_wp2
    go_ret
    exact ⟨rfl, rfl⟩
end Go.Proofs.Ytncndgfaalojpaa
