/- The parser in memory; its smallest functions. -/
import Derived.Test.YtokepgimjdalaaaSa
import Derived.Defers
import Derived.Recover
namespace Go.Proofs.Ytokepgimjdalaaa
open Go.RowKit
set_option linter.unusedVariables false

theorem results_cell_row {P : Program} {fn : Func} {p : Tmp} {ty : TypeId} (h : fn.results = #[.cell p ty]) (tmps : Array Value) (w : World) (g : Nat) (t : TypeId) (cs : Array Value) (fr : Nat × Nat) (d : TypeDesc)
    (hp : tmps.getD p undef = .pointer (some ⟨g, 0, none⟩)) (hg : w.heap[g]? = some (.cells cs t fr))
    (hu : P.underlying ty = some d) (hd : (match d with | .struct _ | .array _ _ => true | _ => false) = true) (hi : (P.info? ty).map (·.size) = some cs.size) :
    (results fn tmps).run P w = .ok (.agg cs) w := by
  have hp' : tmps[p]?.getD undef = .pointer (some ⟨g, 0, none⟩) := by simpa using hp
  simp only [results, h]
  simp [hp', asAddr, run_loadVar_row w g t ty cs fr d hg hu hd hi]
/-- A function that answers a token in a cell. -/
theorem retT {fn : Func} {p : Tmp} (h : fn.results = #[.cell p 42]) {R : Ending → World → Prop} {tmps : Array Value} {g : Nat} {w : World} {T : Tk} (hp : tmps.getD p undef = .pointer (some ⟨g, 0, none⟩)) (hK : Blk w g 42 (tkc T)) (hR : R (.returned (tkv T)) w) :
    bodyPost Try.prog fn R Exit.ret ⟨tmps, []⟩ w :=
  bodyPost_ret (results_cell_row h _ _ _ _ (tkc T).toArray _ _ hp hK Try.underlying42 rfl (by show _ = some 5; kernel_rfl)) rfl hR

def ndc (x : Nd) : List Value := [.int .i64 x.k, .int .i64 x.n, .string x.name, .string x.label, .int .i64 x.tag, .int .i64 x.kids, .int .i64 x.a]
def ndv (x : Nd) : Value := .agg #[.int .i64 x.k, .int .i64 x.n, .string x.name, .string x.label, .int .i64 x.tag, .int .i64 x.kids, .int .i64 x.a]
def cellsN (N : List Nd) : List Value := N.flatMap ndc
theorem cellsN_app (a b : List Nd) : cellsN (a ++ b) = cellsN a ++ cellsN b := by simp [cellsN]
theorem cellsN_one (t : Nd) : cellsN [t] = ndc t := by simp [cellsN]
theorem cellsN_len (ts : List Nd) : (cellsN ts).length = ts.length * 7 := by
  induction ts with
  | nil => rfl
  | cons x N ih => rw [cellsN, List.flatMap_cons, List.length_append]; rw [cellsN] at ih; rw [ih]; simp [ndc]; omega
/-- The parser lies in block g: its tokens, the next one's number, the text's length, the nodes. -/
def Par (w : World) (B g : Nat) (tv : Value) (ts : List Tk) (L p : Nat) (v : Value) (N : List Nd) : Prop :=
  Blk w g 64 [tv, .int .i64 p, .int .i64 L, v] ∧ w.ownsRow B 42 5 tv ts.length (cellsT ts) ∧ w.ownsRow B 40 7 v N.length (cellsN N) ∧ B ≤ g ∧ p ≤ ts.length ∧ ts.length ≤ 65536
section
variable {w w' : World} {B g : Nat} {tv v : Value} {ts : List Tk} {L p : Nat} {N : List Nd}
theorem Par.ne1 (h : Par w B g tv ts L p v N) {k : Nat} (hk : tv.ownBlock = some k) : k ≠ g := fun e => by
  obtain ⟨ys, hy⟩ := ownS_type h.2.1 hk
  subst e
  exact absurd (blk_type h.1 hy) (by decide)
theorem Par.ne2 (h : Par w B g tv ts L p v N) {k : Nat} (hk : v.ownBlock = some k) : k ≠ g := fun e => by
  obtain ⟨ys, hy⟩ := ownS_type h.2.2.1 hk
  subst e
  exact absurd (blk_type h.1 hy) (by decide)
theorem Par.ne3 (h : Par w B g tv ts L p v N) {k : Nat} (hk : tv.ownBlock = some k) : v.ownBlock ≠ some k := fun e => by
  obtain ⟨ys, hy⟩ := ownS_type h.2.1 hk
  obtain ⟨zs, hz⟩ := ownS_type h.2.2.1 e
  exact absurd (blk_type hy hz) (by decide)
/-- Memory is changed elsewhere. -/
theorem Par.upd {S : Nat → Prop} (h : Par w B g tv ts L p v N) (hu : Upd S w w') (h1 : ¬ S g) (h2 : ∀ k, tv.ownBlock = some k → ¬ S k) (h3 : ∀ k, v.ownBlock = some k → ¬ S k) : Par w' B g tv ts L p v N :=
  ⟨h.1.upd hu h1, ownS_upd h.2.1 hu h2, ownS_upd h.2.2.1 hu h3, h.2.2.2⟩
theorem Par.later (h : Par w B g tv ts L p v N) (hB : Below w.heap.size w w') : Par w' B g tv ts L p v N := h.upd (Upd.of_below (S := fun _ => False) hB) (fun h => h) (fun _ _ h => h) (fun _ _ h => h)
theorem Par.step (h : Par w B g tv ts L p v N) {q : Nat} (hq : q ≤ ts.length) : Par (w.setCell ⟨g, 1, none⟩ (.int .i64 q)) B g tv ts L q v N := by
  have hu : Upd (fun k => k = g) w (w.setCell ⟨g, 1, none⟩ (.int .i64 q)) := (Upd.refl _ w).set _ _ (.inl rfl)
  exact ⟨by have := h.1.set 1 (.int .i64 q); simpa using this, ownS_upd h.2.1 hu (fun k hk => h.ne1 hk), ownS_upd h.2.2.1 hu (fun k hk => h.ne2 hk), h.2.2.2.1, hq, h.2.2.2.2.2⟩
end
/-- It gives up. -/
def Flt (c a : Nat) : Ending := .panicked [{ v := .iface 28 (.agg #[.int .i64 c, .int .i64 a]), recovered := false }]
theorem below_drewN {B : Nat} {w w' : World} (h : Below B w w') (q : Nat) : Below B w (w'.drewN q) := ⟨h.os, h.tape, h.output, h.size, h.block⟩
theorem Blk.drewN {w : World} {g : Nat} {t : TypeId} {xs : List Value} (h : Blk w g t xs) (q : Nat) : Blk (w.drewN q) g t xs := h
theorem upd_drewN {S : Nat → Prop} {a w : World} (h : Upd S a w) (q : Nat) : Upd S a (w.drewN q) := ⟨h.os, h.tape, h.output, h.size, h.block⟩
/-- A token written into a cell. -/
theorem wr5 {w : World} {g : Nat} {t : TypeId} {x0 x1 x2 x3 x4 : Value} (h : Blk w g t [x0, x1, x2, x3, x4]) (y0 y1 y2 y3 y4 : Value) :
    Blk (((((w.setCell ⟨g, 0, none⟩ y0).setCell ⟨g, 1, none⟩ y1).setCell ⟨g, 2, none⟩ y2).setCell ⟨g, 3, none⟩ y3).setCell ⟨g, 4, none⟩ y4) g t [y0, y1, y2, y3, y4] := by
  have := ((((h.set 0 y0).set 1 y1).set 2 y2).set 3 y3).set 4 y4
  simpa using this
theorem bl5 {w w' : World} {B g : Nat} (h : Below B w w') (hg : B ≤ g) (y0 y1 y2 y3 y4 : Value) :
    Below B w (((((w'.setCell ⟨g, 0, none⟩ y0).setCell ⟨g, 1, none⟩ y1).setCell ⟨g, 2, none⟩ y2).setCell ⟨g, 3, none⟩ y3).setCell ⟨g, 4, none⟩ y4) :=
  ((((h.setCell hg _).setCell hg _).setCell hg _).setCell hg _).setCell hg _
theorem tk_end (ts : List Tk) (L : Nat) : tkAt ts L ts.length = ⟨0, ⟨#[]⟩, 0, L, 0⟩ := by unfold tkAt; rw [if_neg (Nat.lt_irrefl _)]
set_option maxRecDepth 100000 in
set_option maxHeartbeats 4000000 in
theorem token_any {w : World} {B g : Nat} {tv v : Value} {ts : List Tk} {L p : Nat} {N : List Nd} (HP : Hid (Par w B g tv ts L p v N)) :
    Calls Try.prog 39 #[.pointer (some ⟨g, 0, none⟩)] w fun e w' => e = .returned (tkv (tkAt ts L p)) ∧ Below w.heap.size w w' := by
  obtain ⟨h1, h2, h3, h4, h5, h6⟩ := HP.out
  obtain ⟨a, cap, rfl, hc, HT, -⟩ := own_row h2
  have HTr := hide_ HT
  have HK := hide_ h1
  clear HP h2 h3 HT h1
  have K := HK.out.alloc (.cells #[.int .i64 0, .string ⟨#[]⟩, .int .i64 0, .int .i64 0, .int .i64 0] 42)
  have d0 := K.cell 0; have d1 := K.cell 1; have d2 := K.cell 2
  have KA := Blk.newA w #[.int .i64 0, .string ⟨#[]⟩, .int .i64 0, .int .i64 0, .int .i64 0] 42
  have e0 := KA.cell 0; have e1 := KA.cell 1; have e2 := KA.cell 2; have e3 := KA.cell 3; have e4 := KA.cell 4
  have f0 := KA.frozen 0; have f1 := KA.frozen 1; have f2 := KA.frozen 2; have f3 := KA.frozen 3; have f4 := KA.frozen 4
  simp at d0 d1 d2 e0 e1 e2 e3 e4
  clear K KA
  by_cases hlt : p < ts.length
  · have hb : ((p : Int) == ts.length) = false := by simp; omega
    obtain ⟨b, o, rfl, hb2, hcs⟩ := HTr.out.open (by omega)
    obtain ⟨x0, x1, x2, x3, x4⟩ := hcs p hlt
    have HX : Hid (tkAt ts L p = ts.getD p tk0) := by show _ = _; unfold tkAt; rw [if_pos hlt]
    rw [HX.out]
    generalize ts.getD p tk0 = x at *
    have hl : (p : Int) < ts.length := by omega
    have hB := (Below.refl w.heap.size w).alloc (Nat.le_refl _) (.cells #[.int .i64 0, .string ⟨#[]⟩, .int .i64 0, .int .i64 0, .int .i64 0] 42)
    have y0 := (hB.cell (p := ⟨b, o + p * 5, none⟩) hb2).trans x0
    have y1 := (hB.cell (p := ⟨b, o + p * 5 + 1, none⟩) hb2).trans x1
    have y2 := (hB.cell (p := ⟨b, o + p * 5 + 2, none⟩) hb2).trans x2
    have y3 := (hB.cell (p := ⟨b, o + p * 5 + 3, none⟩) hb2).trans x3
    have y4 := (hB.cell (p := ⟨b, o + p * 5 + 4, none⟩) hb2).trans x4
    clear hcs hB x0 x1 x2 x3 x4
    go_enter Try.func39, Try.ntmps39
    go_wp2_with fail
    go_quiet (fail)
    go_wp2
    go_region
    go_wp2
    refine retT (T := x) rfl rfl (wr5 ((Blk.newA w _ 42).drewN _) _ _ _ _ _) ⟨rfl, bl5 (below_drewN ((Below.refl _ _).alloc (Nat.le_refl _) _) _) (Nat.le_refl _) _ _ _ _ _⟩
  · obtain rfl : p = ts.length := by omega
    have hb : ((ts.length : Int) == ts.length) = true := by simp
    go_enter Try.func39, Try.ntmps39
    go_wp2_with fail
    go_quiet (fail)
    go_wp2
    refine retT (T := ⟨0, ⟨#[]⟩, 0, L, 0⟩) rfl rfl (wr5 ((Blk.newA w _ 42).drewN _) _ _ _ _ _) ⟨by rw [tk_end], bl5 (below_drewN ((Below.refl _ _).alloc (Nat.le_refl _) _) _) (Nat.le_refl _) _ _ _ _ _⟩
set_option maxRecDepth 100000 in
set_option maxHeartbeats 4000000 in
theorem giveUp_any (c a : Nat) (w : World) : Calls Try.prog 27 #[.int .i64 c, .int .i64 a] w fun e w' => e = Flt c a ∧ w = w' := by
  go_enter Try.func27, Try.ntmps27
  go_wp2
  exact ⟨rfl, rfl, rfl⟩
theorem take_end {w w3 : World} {B g : Nat} {tv v : Value} {ts : List Tk} {L p : Nat} {N : List Nd} {x0 x1 x2 x3 x4 : Value} {t : TypeId} (HP : Par w B g tv ts L p v N) (HP2 : Par w3 B g tv ts L p v N) (K4 : Blk w3 w.heap.size t [x0, x1, x2, x3, x4]) (HU : Upd (fun k => k = g) w w3) (hlt : p < ts.length) (y0 y1 y2 y3 y4 : Value) :
    Blk ((((((w3.setCell ⟨g, 1, none⟩ (.int .i64 ((p : Int) + 1))).setCell ⟨w.heap.size, 0, none⟩ y0).setCell ⟨w.heap.size, 1, none⟩ y1).setCell ⟨w.heap.size, 2, none⟩ y2).setCell ⟨w.heap.size, 3, none⟩ y3).setCell ⟨w.heap.size, 4, none⟩ y4) w.heap.size t [y0, y1, y2, y3, y4] ∧
    Hid (Par ((((((w3.setCell ⟨g, 1, none⟩ (.int .i64 ((p : Int) + 1))).setCell ⟨w.heap.size, 0, none⟩ y0).setCell ⟨w.heap.size, 1, none⟩ y1).setCell ⟨w.heap.size, 2, none⟩ y2).setCell ⟨w.heap.size, 3, none⟩ y3).setCell ⟨w.heap.size, 4, none⟩ y4) B g tv ts L (p + 1) v N) ∧
    Hid (Upd (fun k => k = g) w ((((((w3.setCell ⟨g, 1, none⟩ (.int .i64 ((p : Int) + 1))).setCell ⟨w.heap.size, 0, none⟩ y0).setCell ⟨w.heap.size, 1, none⟩ y1).setCell ⟨w.heap.size, 2, none⟩ y2).setCell ⟨w.heap.size, 3, none⟩ y3).setCell ⟨w.heap.size, 4, none⟩ y4)) := by
  have hpp : ((p + 1 : Nat) : Int) = (p : Int) + 1 := by omega
  have HPs := HP2.step (q := p + 1) (by omega)
  rw [hpp] at HPs
  have hg := HP.1.lt
  have hl1 : ∀ k, tv.ownBlock = some k → ¬ k = w.heap.size := fun k hk => Nat.ne_of_lt (HP.2.1.lt k hk).2
  have hl2 : ∀ k, v.ownBlock = some k → ¬ k = w.heap.size := fun k hk => Nat.ne_of_lt (HP.2.2.1.lt k hk).2
  have hU1 : Upd (fun k => k = g) w (w3.setCell ⟨g, 1, none⟩ (.int .i64 ((p : Int) + 1))) := HU.set _ _ (.inl rfl)
  have K := K4.other ⟨g, 1, none⟩ (.int .i64 ((p : Int) + 1)) (by show w.heap.size ≠ g; omega)
  generalize w3.setCell ⟨g, 1, none⟩ (.int .i64 ((p : Int) + 1)) = W at *
  have hU5 : Upd (fun k => k = w.heap.size) W (((((W.setCell ⟨w.heap.size, 0, none⟩ y0).setCell ⟨w.heap.size, 1, none⟩ y1).setCell ⟨w.heap.size, 2, none⟩ y2).setCell ⟨w.heap.size, 3, none⟩ y3).setCell ⟨w.heap.size, 4, none⟩ y4) := (((((Upd.refl (fun k => k = w.heap.size) W).set ⟨w.heap.size, 0, none⟩ _ (.inl rfl)).set ⟨w.heap.size, 1, none⟩ _ (.inl rfl)).set ⟨w.heap.size, 2, none⟩ _ (.inl rfl)).set ⟨w.heap.size, 3, none⟩ _ (.inl rfl)).set ⟨w.heap.size, 4, none⟩ _ (.inl rfl)
  exact ⟨wr5 K _ _ _ _ _, HPs.upd hU5 (by omega) hl1 hl2, hU1.trans hU5 (fun k h1 h2 => by omega)⟩
/-- Behind a token that was asked for. -/
def TokTo (w : World) (B g : Nat) (tv : Value) (ts : List Tk) (L p : Nat) (v : Value) (N : List Nd) (r : PR Nat) (e : Ending) (w' : World) : Prop :=
  (∃ j, r = .ok j ∧ e = .returned (tkv (tkAt ts L p)) ∧ Hid (Par w' B g tv ts L j v N) ∧ Hid (Upd (fun k => k = g) w w')) ∨
  (∃ x, r = .error x ∧ e = Flt x.1 (plc ts L x.2) ∧ Hid (Upd (fun k => k = g) w w'))
set_option maxRecDepth 100000 in
set_option maxHeartbeats 4000000 in
theorem take_any {w : World} {B g : Nat} {tv v : Value} {ts : List Tk} {L p : Nat} {N : List Nd} (HP : Hid (Par w B g tv ts L p v N)) (m : Bool) (hm : m = true → p < ts.length) :
    Calls Try.prog 38 #[.pointer (some ⟨g, 0, none⟩), .bool m] w fun e w' => TokTo w B g tv ts L p v N (if m then .ok (p + 1) else .error (60, p)) e w' := by
  have HPa := hide_ (HP.out.later ((Below.refl _ w).alloc (Nat.le_refl _) (.cells #[.int .i64 0, .string ⟨#[]⟩, .int .i64 0, .int .i64 0, .int .i64 0] 42)))
  have HC := hide_ (token_any HPa)
  obtain ⟨x, hx⟩ : ∃ x, tkAt ts L p = x := ⟨_, rfl⟩
  rw [hx] at HC
  cases m with
  | false =>
    clear hm
    have HG : Hid (∀ w, Calls Try.prog 27 #[.int .i64 60, .int .i64 x.a] w fun e w' => e = Flt 60 x.a ∧ w = w') := fun w => giveUp_any 60 x.a w
    go_enter Try.func38, Try.ntmps38
    go_wp2_with fail
    refine HC.out.mono ?_; rintro e w2 ⟨rfl, hB2⟩
    unfold tkv
    go_wp2_with fail
    refine (HG.out _).mono ?_; rintro e w3 ⟨rfl, rfl⟩
    unfold Flt
    go_wp2
    exact ⟨rfl, .inr ⟨(60, p), rfl, by rw [plc, hx]; rfl, hide_ (((Upd.of_below (S := fun k => k = g) ((Below.refl _ w).alloc (Nat.le_refl _) (.cells #[.int .i64 0, .string ⟨#[]⟩, .int .i64 0, .int .i64 0, .int .i64 0] 42))).then hB2).alloc _)⟩⟩
  | true =>
    have hlt := hm rfl
    clear hm
    go_enter Try.func38, Try.ntmps38
    go_wp2_with fail
    refine HC.out.mono ?_; rintro e w2 ⟨rfl, hB2⟩
    unfold tkv
    have HP2 := hide_ ((HPa.out.later hB2).later ((Below.refl _ w2).alloc (Nat.le_refl _) (.cells #[.int .i64 x.k, .string x.t, .int .i64 x.n, .int .i64 x.a, .int .i64 x.e] 42)))
    have HU := hide_ (((Upd.of_below (S := fun k => k = g) ((Below.refl _ w).alloc (Nat.le_refl _) (.cells #[.int .i64 0, .string ⟨#[]⟩, .int .i64 0, .int .i64 0, .int .i64 0] 42))).then hB2).alloc (.cells #[.int .i64 x.k, .string x.t, .int .i64 x.n, .int .i64 x.a, .int .i64 x.e] 42))
    have K4 := hide_ (((Blk.newA w #[.int .i64 0, .string ⟨#[]⟩, .int .i64 0, .int .i64 0, .int .i64 0] 42).later hB2).alloc (.cells #[.int .i64 x.k, .string x.t, .int .i64 x.n, .int .i64 x.a, .int .i64 x.e] 42))
    have K5 := hide_ (Blk.newA w2 #[.int .i64 x.k, .string x.t, .int .i64 x.n, .int .i64 x.a, .int .i64 x.e] 42)
    have hsz := hB2.size
    simp at hsz
    have hg := HPa.out.1.lt
    have hgw := HP.out.1.lt
    have h65 := HP.out.2.2.2.2.2
    clear hB2 HC HPa
    obtain ⟨w3, hw3⟩ : ∃ w3, w3 = w2.alloc (.cells #[.int .i64 x.k, .string x.t, .int .i64 x.n, .int .i64 x.a, .int .i64 x.e] 42) := ⟨_, rfl⟩
    rw [← hw3] at HP2 HU K4 K5
    have d1 := HP2.out.1.cell 1
    have f1 := HP2.out.1.frozen 1
    have e0 := K4.out.cell 0; have e1 := K4.out.cell 1; have e2 := K4.out.cell 2; have e3 := K4.out.cell 3; have e4 := K4.out.cell 4
    have g0 := K4.out.frozen 0; have g1 := K4.out.frozen 1; have g2 := K4.out.frozen 2; have g3 := K4.out.frozen 3; have g4 := K4.out.frozen 4
    have h0 := K5.out.cell 0; have h1 := K5.out.cell 1; have h2 := K5.out.cell 2; have h3 := K5.out.cell 3; have h4 := K5.out.cell 4
    simp at d1 e0 e1 e2 e3 e4 h0 h1 h2 h3 h4
    have n1 : ¬ g = w.heap.size := by omega
    have n2 : ¬ g = w2.heap.size := by omega
    have n3 : ¬ w2.heap.size = w.heap.size := by omega
    go_upto_region 2 with fail
    rw [← hw3]
    clear hw3
    go_wp2
    obtain ⟨t1, t2, t3⟩ := take_end HP.out HP2.out K4.out HU.out hlt (.int .i64 x.k) (.string x.t) (.int .i64 x.n) (.int .i64 x.a) (.int .i64 x.e)
    exact retT (T := x) rfl rfl t1 (.inl ⟨p + 1, rfl, by rw [hx], t2, t3⟩)
end Go.Proofs.Ytokepgimjdalaaa
