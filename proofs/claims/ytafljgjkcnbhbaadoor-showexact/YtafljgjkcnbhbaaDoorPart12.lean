import Derived.Test.YtafljgjkcnbhbaaDoorPart11
import Derived.Defers
import Derived.Recover

/- The parser in memory; its smallest functions. -/
namespace Go.Proofs.YtafljgjkcnbhbaaDoor
open Go.RowKit
set_option linter.unusedVariables false

theorem results_cell_row {P : Program} {fn : Func} {p : Tmp} {ty : TypeId} (h : fn.results = #[.cell p ty]) (tmps : Array Value) (w : World) (g : Nat) (t : TypeId) (cs : Array Value) (fr : Nat × Nat) (d : TypeDesc)
    (hp : tmps.getD p undef = .pointer (some ⟨g, 0, none⟩)) (hg : w.heap[g]? = some (.cells cs t fr))
    (hu : P.underlying ty = some d) (hd : (match d with | .struct _ | .array _ _ => true | _ => false) = true) (hi : (P.info? ty).map (·.size) = some cs.size) :
    (results fn tmps).run P w = .ok (.agg cs) w := by
  have hp' : tmps[p]?.getD undef = .pointer (some ⟨g, 0, none⟩) := by simpa using hp
  simp only [results, h]
  simp [hp', asAddr, run_loadVar_row w g t ty cs fr d hg hu hd hi]
/-- A function that answers a token in a cell. -/
theorem retT {fn : Func} {p : Tmp} (h : fn.results = #[.cell p 72]) {R : Ending → World → Prop} {tmps : Array Value} {g : Nat} {w : World} {T : Tk} (hp : tmps.getD p undef = .pointer (some ⟨g, 0, none⟩)) (hK : Blk w g 72 (tkc T)) (hR : R (.returned (tkv T)) w) :
    bodyPost Tryd.prog fn R Exit.ret ⟨tmps, []⟩ w :=
  bodyPost_ret (results_cell_row h _ _ _ _ (tkc T).toArray _ _ hp hK Tryd.underlying72 rfl (by show _ = some 5; kernel_rfl)) rfl hR

def ndc (x : Nd) : List Value := [.int .i64 x.k, .int .i64 x.n, .string x.name, .string x.label, .int .i64 x.tag, .int .i64 x.kids, .int .i64 x.a]
def ndv (x : Nd) : Value := .agg #[.int .i64 x.k, .int .i64 x.n, .string x.name, .string x.label, .int .i64 x.tag, .int .i64 x.kids, .int .i64 x.a]
def cellsN (N : List Nd) : List Value := N.flatMap ndc
theorem cellsN_app (a b : List Nd) : cellsN (a ++ b) = cellsN a ++ cellsN b := by simp [cellsN]
theorem cellsN_one (t : Nd) : cellsN [t] = ndc t := by simp [cellsN]
theorem cellsN_len (ts : List Nd) : (cellsN ts).length = ts.length * 7 := by
  induction ts with
  | nil => rfl
  | cons x N ih => rw [cellsN, List.flatMap_cons, List.length_append]; rw [cellsN] at ih; rw [ih]; simp [ndc]; omega
/-- The parser lies in block g: its tokens, the next one's number, the text's length, the nodes. -/
def Par (w : World) (B g : Nat) (tv : Value) (ts : List Tk) (L p : Nat) (v : Value) (N : List Nd) : Prop :=
  Blk w g 57 [tv, .int .i64 p, .int .i64 L, v] ∧ w.ownsRow B 72 5 tv ts.length (cellsT ts) ∧ w.ownsRow B 38 7 v N.length (cellsN N) ∧ B ≤ g ∧ p ≤ ts.length ∧ ts.length ≤ 65536
section
variable {w w' : World} {B g : Nat} {tv v : Value} {ts : List Tk} {L p : Nat} {N : List Nd}
theorem Par.ne1 (h : Par w B g tv ts L p v N) {k : Nat} (hk : tv.ownBlock = some k) : k ≠ g := fun e => by
  obtain ⟨ys, hy⟩ := ownS_type h.2.1 hk
  subst e
  exact absurd (blk_type h.1 hy) (by decide)
theorem Par.ne2 (h : Par w B g tv ts L p v N) {k : Nat} (hk : v.ownBlock = some k) : k ≠ g := fun e => by
  obtain ⟨ys, hy⟩ := ownS_type h.2.2.1 hk
  subst e
  exact absurd (blk_type h.1 hy) (by decide)
theorem Par.ne3 (h : Par w B g tv ts L p v N) {k : Nat} (hk : tv.ownBlock = some k) : v.ownBlock ≠ some k := fun e => by
  obtain ⟨ys, hy⟩ := ownS_type h.2.1 hk
  obtain ⟨zs, hz⟩ := ownS_type h.2.2.1 e
  exact absurd (blk_type hy hz) (by decide)
/-- Memory is changed elsewhere. -/
theorem Par.upd {S : Nat → Prop} (h : Par w B g tv ts L p v N) (hu : Upd S w w') (h1 : ¬ S g) (h2 : ∀ k, tv.ownBlock = some k → ¬ S k) (h3 : ∀ k, v.ownBlock = some k → ¬ S k) : Par w' B g tv ts L p v N :=
  ⟨h.1.upd hu h1, ownS_upd h.2.1 hu h2, ownS_upd h.2.2.1 hu h3, h.2.2.2⟩
theorem Par.later (h : Par w B g tv ts L p v N) (hB : Below w.heap.size w w') : Par w' B g tv ts L p v N := h.upd (Upd.of_below (S := fun _ => False) hB) (fun h => h) (fun _ _ h => h) (fun _ _ h => h)
theorem Par.step (h : Par w B g tv ts L p v N) {q : Nat} (hq : q ≤ ts.length) : Par (w.setCell ⟨g, 1, none⟩ (.int .i64 q)) B g tv ts L q v N := by
  have hu : Upd (fun k => k = g) w (w.setCell ⟨g, 1, none⟩ (.int .i64 q)) := (Upd.refl _ w).set _ _ (.inl rfl)
  exact ⟨by have := h.1.set 1 (.int .i64 q); simpa using this, ownS_upd h.2.1 hu (fun k hk => h.ne1 hk), ownS_upd h.2.2.1 hu (fun k hk => h.ne2 hk), h.2.2.2.1, hq, h.2.2.2.2.2⟩
end
/-- It gives up. -/
def Flt (c a : Nat) : Ending := .panicked [{ v := .iface 33 (.agg #[.int .i64 c, .int .i64 a]), recovered := false }]
theorem below_drewN {B : Nat} {w w' : World} (h : Below B w w') (q : Nat) : Below B w (w'.drewN q) := ⟨h.os, h.tape, h.output, h.size, h.block⟩
theorem Blk.drewN {w : World} {g : Nat} {t : TypeId} {xs : List Value} (h : Blk w g t xs) (q : Nat) : Blk (w.drewN q) g t xs := h
theorem upd_drewN {S : Nat → Prop} {a w : World} (h : Upd S a w) (q : Nat) : Upd S a (w.drewN q) := ⟨h.os, h.tape, h.output, h.size, h.block⟩
/-- A token written into a cell. -/
theorem wr5 {w : World} {g : Nat} {t : TypeId} {x0 x1 x2 x3 x4 : Value} (h : Blk w g t [x0, x1, x2, x3, x4]) (y0 y1 y2 y3 y4 : Value) :
    Blk (((((w.setCell ⟨g, 0, none⟩ y0).setCell ⟨g, 1, none⟩ y1).setCell ⟨g, 2, none⟩ y2).setCell ⟨g, 3, none⟩ y3).setCell ⟨g, 4, none⟩ y4) g t [y0, y1, y2, y3, y4] := by
  have := ((((h.set 0 y0).set 1 y1).set 2 y2).set 3 y3).set 4 y4
  simpa using this
theorem bl5 {w w' : World} {B g : Nat} (h : Below B w w') (hg : B ≤ g) (y0 y1 y2 y3 y4 : Value) :
    Below B w (((((w'.setCell ⟨g, 0, none⟩ y0).setCell ⟨g, 1, none⟩ y1).setCell ⟨g, 2, none⟩ y2).setCell ⟨g, 3, none⟩ y3).setCell ⟨g, 4, none⟩ y4) :=
  ((((h.setCell hg _).setCell hg _).setCell hg _).setCell hg _).setCell hg _
theorem tk_end (ts : List Tk) (L : Nat) : tkAt ts L ts.length = ⟨0, ⟨#[]⟩, 0, L, 0⟩ := by unfold tkAt; rw [if_neg (Nat.lt_irrefl _)]
set_option maxRecDepth 100000 in
set_option maxHeartbeats 4000000 in
theorem token_any {w : World} {B g : Nat} {tv v : Value} {ts : List Tk} {L p : Nat} {N : List Nd} (HP : Hid (Par w B g tv ts L p v N)) :
    Calls Tryd.prog 55 #[.pointer (some ⟨g, 0, none⟩)] w fun e w' => e = .returned (tkv (tkAt ts L p)) ∧ Below w.heap.size w w' := by
  obtain ⟨h1, h2, h3, h4, h5, h6⟩ := HP.out
  obtain ⟨a, cap, rfl, hc, HT, -⟩ := own_row h2
  have HTr := hide_ HT
  have HK := hide_ h1
  clear HP h2 h3 HT h1
  have K := HK.out.alloc (.cells #[.int .i64 0, .string ⟨#[]⟩, .int .i64 0, .int .i64 0, .int .i64 0] 72)
  have d0 := K.cell 0; have d1 := K.cell 1; have d2 := K.cell 2
  have KA := Blk.newA w #[.int .i64 0, .string ⟨#[]⟩, .int .i64 0, .int .i64 0, .int .i64 0] 72
  have e0 := KA.cell 0; have e1 := KA.cell 1; have e2 := KA.cell 2; have e3 := KA.cell 3; have e4 := KA.cell 4
  have f0 := KA.frozen 0; have f1 := KA.frozen 1; have f2 := KA.frozen 2; have f3 := KA.frozen 3; have f4 := KA.frozen 4
  simp at d0 d1 d2 e0 e1 e2 e3 e4
  clear K KA
  by_cases hlt : p < ts.length
  · have hb : ((p : Int) == ts.length) = false := by simp; omega
    obtain ⟨b, o, rfl, hb2, hcs⟩ := HTr.out.open (by omega)
    obtain ⟨x0, x1, x2, x3, x4⟩ := hcs p hlt
    have HX : Hid (tkAt ts L p = ts.getD p tk0) := by show _ = _; unfold tkAt; rw [if_pos hlt]
    rw [HX.out]
    generalize ts.getD p tk0 = x at *
    have hl : (p : Int) < ts.length := by omega
    have hB := (Below.refl w.heap.size w).alloc (Nat.le_refl _) (.cells #[.int .i64 0, .string ⟨#[]⟩, .int .i64 0, .int .i64 0, .int .i64 0] 72)
    have y0 := (hB.cell (p := ⟨b, o + p * 5, none⟩) hb2).trans x0
    have y1 := (hB.cell (p := ⟨b, o + p * 5 + 1, none⟩) hb2).trans x1
    have y2 := (hB.cell (p := ⟨b, o + p * 5 + 2, none⟩) hb2).trans x2
    have y3 := (hB.cell (p := ⟨b, o + p * 5 + 3, none⟩) hb2).trans x3
    have y4 := (hB.cell (p := ⟨b, o + p * 5 + 4, none⟩) hb2).trans x4
    clear hcs hB x0 x1 x2 x3 x4
    go_enter Tryd.func55, Tryd.ntmps55
    go_wp2_with fail
    go_quiet (fail)
    go_wp2
    go_region
    go_wp2
    refine retT (T := x) rfl rfl (wr5 ((Blk.newA w _ 72).drewN _) _ _ _ _ _) ⟨rfl, bl5 (below_drewN ((Below.refl _ _).alloc (Nat.le_refl _) _) _) (Nat.le_refl _) _ _ _ _ _⟩
  · obtain rfl : p = ts.length := by omega
    have hb : ((ts.length : Int) == ts.length) = true := by simp
    go_enter Tryd.func55, Tryd.ntmps55
    go_wp2_with fail
    go_quiet (fail)
    go_wp2
    refine retT (T := ⟨0, ⟨#[]⟩, 0, L, 0⟩) rfl rfl (wr5 ((Blk.newA w _ 72).drewN _) _ _ _ _ _) ⟨by rw [tk_end], bl5 (below_drewN ((Below.refl _ _).alloc (Nat.le_refl _) _) _) (Nat.le_refl _) _ _ _ _ _⟩
set_option maxRecDepth 100000 in
set_option maxHeartbeats 4000000 in
theorem giveUp_any (c a : Nat) (w : World) : Calls Tryd.prog 36 #[.int .i64 c, .int .i64 a] w fun e w' => e = Flt c a ∧ w = w' := by
  go_enter Tryd.func36, Tryd.ntmps36
  go_wp2
  exact ⟨rfl, rfl, rfl⟩
theorem take_end {w w3 : World} {B g : Nat} {tv v : Value} {ts : List Tk} {L p : Nat} {N : List Nd} {x0 x1 x2 x3 x4 : Value} {t : TypeId} (HP : Par w B g tv ts L p v N) (HP2 : Par w3 B g tv ts L p v N) (K4 : Blk w3 w.heap.size t [x0, x1, x2, x3, x4]) (HU : Upd (fun k => k = g) w w3) (hlt : p < ts.length) (y0 y1 y2 y3 y4 : Value) :
    Blk ((((((w3.setCell ⟨g, 1, none⟩ (.int .i64 ((p : Int) + 1))).setCell ⟨w.heap.size, 0, none⟩ y0).setCell ⟨w.heap.size, 1, none⟩ y1).setCell ⟨w.heap.size, 2, none⟩ y2).setCell ⟨w.heap.size, 3, none⟩ y3).setCell ⟨w.heap.size, 4, none⟩ y4) w.heap.size t [y0, y1, y2, y3, y4] ∧
    Hid (Par ((((((w3.setCell ⟨g, 1, none⟩ (.int .i64 ((p : Int) + 1))).setCell ⟨w.heap.size, 0, none⟩ y0).setCell ⟨w.heap.size, 1, none⟩ y1).setCell ⟨w.heap.size, 2, none⟩ y2).setCell ⟨w.heap.size, 3, none⟩ y3).setCell ⟨w.heap.size, 4, none⟩ y4) B g tv ts L (p + 1) v N) ∧
    Hid (Upd (fun k => k = g) w ((((((w3.setCell ⟨g, 1, none⟩ (.int .i64 ((p : Int) + 1))).setCell ⟨w.heap.size, 0, none⟩ y0).setCell ⟨w.heap.size, 1, none⟩ y1).setCell ⟨w.heap.size, 2, none⟩ y2).setCell ⟨w.heap.size, 3, none⟩ y3).setCell ⟨w.heap.size, 4, none⟩ y4)) := by
  have hpp : ((p + 1 : Nat) : Int) = (p : Int) + 1 := by omega
  have HPs := HP2.step (q := p + 1) (by omega)
  rw [hpp] at HPs
  have hg := HP.1.lt
  have hl1 : ∀ k, tv.ownBlock = some k → ¬ k = w.heap.size := fun k hk => Nat.ne_of_lt (HP.2.1.lt k hk).2
  have hl2 : ∀ k, v.ownBlock = some k → ¬ k = w.heap.size := fun k hk => Nat.ne_of_lt (HP.2.2.1.lt k hk).2
  have hU1 : Upd (fun k => k = g) w (w3.setCell ⟨g, 1, none⟩ (.int .i64 ((p : Int) + 1))) := HU.set _ _ (.inl rfl)
  have K := K4.other ⟨g, 1, none⟩ (.int .i64 ((p : Int) + 1)) (by show w.heap.size ≠ g; omega)
  generalize w3.setCell ⟨g, 1, none⟩ (.int .i64 ((p : Int) + 1)) = W at *
  have hU5 : Upd (fun k => k = w.heap.size) W (((((W.setCell ⟨w.heap.size, 0, none⟩ y0).setCell ⟨w.heap.size, 1, none⟩ y1).setCell ⟨w.heap.size, 2, none⟩ y2).setCell ⟨w.heap.size, 3, none⟩ y3).setCell ⟨w.heap.size, 4, none⟩ y4) := (((((Upd.refl (fun k => k = w.heap.size) W).set ⟨w.heap.size, 0, none⟩ _ (.inl rfl)).set ⟨w.heap.size, 1, none⟩ _ (.inl rfl)).set ⟨w.heap.size, 2, none⟩ _ (.inl rfl)).set ⟨w.heap.size, 3, none⟩ _ (.inl rfl)).set ⟨w.heap.size, 4, none⟩ _ (.inl rfl)
  exact ⟨wr5 K _ _ _ _ _, HPs.upd hU5 (by omega) hl1 hl2, hU1.trans hU5 (fun k h1 h2 => by omega)⟩
/-- Behind a token that was asked for. -/
def TokTo (w : World) (B g : Nat) (tv : Value) (ts : List Tk) (L p : Nat) (v : Value) (N : List Nd) (r : PR Nat) (e : Ending) (w' : World) : Prop :=
  (∃ j, r = .ok j ∧ e = .returned (tkv (tkAt ts L p)) ∧ Hid (Par w' B g tv ts L j v N) ∧ Hid (Upd (fun k => k = g) w w')) ∨
  (∃ x, r = .error x ∧ e = Flt x.1 (plc ts L x.2) ∧ Hid (Upd (fun k => k = g) w w'))
set_option maxRecDepth 100000 in
set_option maxHeartbeats 4000000 in
theorem take_any {w : World} {B g : Nat} {tv v : Value} {ts : List Tk} {L p : Nat} {N : List Nd} (HP : Hid (Par w B g tv ts L p v N)) (m : Bool) (hm : m = true → p < ts.length) :
    Calls Tryd.prog 54 #[.pointer (some ⟨g, 0, none⟩), .bool m] w fun e w' => TokTo w B g tv ts L p v N (if m then .ok (p + 1) else .error (60, p)) e w' := by
  have HPa := hide_ (HP.out.later ((Below.refl _ w).alloc (Nat.le_refl _) (.cells #[.int .i64 0, .string ⟨#[]⟩, .int .i64 0, .int .i64 0, .int .i64 0] 72)))
  have HC := hide_ (token_any HPa)
  obtain ⟨x, hx⟩ : ∃ x, tkAt ts L p = x := ⟨_, rfl⟩
  rw [hx] at HC
  cases m with
  | false =>
    clear hm
    have HG : Hid (∀ w, Calls Tryd.prog 36 #[.int .i64 60, .int .i64 x.a] w fun e w' => e = Flt 60 x.a ∧ w = w') := fun w => giveUp_any 60 x.a w
    go_enter Tryd.func54, Tryd.ntmps54
    go_wp2_with fail
    refine HC.out.mono ?_; rintro e w2 ⟨rfl, hB2⟩
    unfold tkv
    go_wp2_with fail
    refine (HG.out _).mono ?_; rintro e w3 ⟨rfl, rfl⟩
    unfold Flt
    go_wp2
    exact ⟨rfl, .inr ⟨(60, p), rfl, by rw [plc, hx]; rfl, hide_ (((Upd.of_below (S := fun k => k = g) ((Below.refl _ w).alloc (Nat.le_refl _) (.cells #[.int .i64 0, .string ⟨#[]⟩, .int .i64 0, .int .i64 0, .int .i64 0] 72))).then hB2).alloc _)⟩⟩
  | true =>
    have hlt := hm rfl
    clear hm
    go_enter Tryd.func54, Tryd.ntmps54
    go_wp2_with fail
    refine HC.out.mono ?_; rintro e w2 ⟨rfl, hB2⟩
    unfold tkv
    have HP2 := hide_ ((HPa.out.later hB2).later ((Below.refl _ w2).alloc (Nat.le_refl _) (.cells #[.int .i64 x.k, .string x.t, .int .i64 x.n, .int .i64 x.a, .int .i64 x.e] 72)))
    have HU := hide_ (((Upd.of_below (S := fun k => k = g) ((Below.refl _ w).alloc (Nat.le_refl _) (.cells #[.int .i64 0, .string ⟨#[]⟩, .int .i64 0, .int .i64 0, .int .i64 0] 72))).then hB2).alloc (.cells #[.int .i64 x.k, .string x.t, .int .i64 x.n, .int .i64 x.a, .int .i64 x.e] 72))
    have K4 := hide_ (((Blk.newA w #[.int .i64 0, .string ⟨#[]⟩, .int .i64 0, .int .i64 0, .int .i64 0] 72).later hB2).alloc (.cells #[.int .i64 x.k, .string x.t, .int .i64 x.n, .int .i64 x.a, .int .i64 x.e] 72))
    have K5 := hide_ (Blk.newA w2 #[.int .i64 x.k, .string x.t, .int .i64 x.n, .int .i64 x.a, .int .i64 x.e] 72)
    have hsz := hB2.size
    simp at hsz
    have hg := HPa.out.1.lt
    have hgw := HP.out.1.lt
    have h65 := HP.out.2.2.2.2.2
    clear hB2 HC HPa
    obtain ⟨w3, hw3⟩ : ∃ w3, w3 = w2.alloc (.cells #[.int .i64 x.k, .string x.t, .int .i64 x.n, .int .i64 x.a, .int .i64 x.e] 72) := ⟨_, rfl⟩
    rw [← hw3] at HP2 HU K4 K5
    have d1 := HP2.out.1.cell 1
    have f1 := HP2.out.1.frozen 1
    have e0 := K4.out.cell 0; have e1 := K4.out.cell 1; have e2 := K4.out.cell 2; have e3 := K4.out.cell 3; have e4 := K4.out.cell 4
    have g0 := K4.out.frozen 0; have g1 := K4.out.frozen 1; have g2 := K4.out.frozen 2; have g3 := K4.out.frozen 3; have g4 := K4.out.frozen 4
    have h0 := K5.out.cell 0; have h1 := K5.out.cell 1; have h2 := K5.out.cell 2; have h3 := K5.out.cell 3; have h4 := K5.out.cell 4
    simp at d1 e0 e1 e2 e3 e4 h0 h1 h2 h3 h4
    have n1 : ¬ g = w.heap.size := by omega
    have n2 : ¬ g = w2.heap.size := by omega
    have n3 : ¬ w2.heap.size = w.heap.size := by omega
    go_upto_region 2 with fail
    rw [← hw3]
    clear hw3
    go_wp2
    obtain ⟨t1, t2, t3⟩ := take_end HP.out HP2.out K4.out HU.out hlt (.int .i64 x.k) (.string x.t) (.int .i64 x.n) (.int .i64 x.a) (.int .i64 x.e)
    exact retT (T := x) rfl rfl t1 (.inl ⟨p + 1, rfl, by rw [hx], t2, t3⟩)
end Go.Proofs.YtafljgjkcnbhbaaDoor

/- text, name, number, begins. -/
namespace Go.Proofs.YtafljgjkcnbhbaaDoor
open Go.RowKit
set_option linter.unusedVariables false

/-- Behind the cell of an answer, w6; the token that was asked for is written there. -/
theorem tok_end {w w6 w7 : World} {B g : Nat} {tv v : Value} {ts : List Tk} {L j : Nat} {N : List Nd} (hg : g < w.heap.size) (HB : Below w.heap.size w w6) (K : Blk w6 w.heap.size 72 [.int .i64 0, .string ⟨#[]⟩, .int .i64 0, .int .i64 0, .int .i64 0])
    (hl1 : ∀ k, tv.ownBlock = some k → k < w.heap.size) (hl2 : ∀ k, v.ownBlock = some k → k < w.heap.size)
    (HP : Par w7 B g tv ts L j v N) (HU : Upd (fun k => k = g) w6 w7) (y0 y1 y2 y3 y4 : Value) :
    Blk (((((w7.setCell ⟨w.heap.size, 0, none⟩ y0).setCell ⟨w.heap.size, 1, none⟩ y1).setCell ⟨w.heap.size, 2, none⟩ y2).setCell ⟨w.heap.size, 3, none⟩ y3).setCell ⟨w.heap.size, 4, none⟩ y4) w.heap.size 72 [y0, y1, y2, y3, y4] ∧
    Hid (Par (((((w7.setCell ⟨w.heap.size, 0, none⟩ y0).setCell ⟨w.heap.size, 1, none⟩ y1).setCell ⟨w.heap.size, 2, none⟩ y2).setCell ⟨w.heap.size, 3, none⟩ y3).setCell ⟨w.heap.size, 4, none⟩ y4) B g tv ts L j v N) ∧
    Hid (Upd (fun k => k = g) w (((((w7.setCell ⟨w.heap.size, 0, none⟩ y0).setCell ⟨w.heap.size, 1, none⟩ y1).setCell ⟨w.heap.size, 2, none⟩ y2).setCell ⟨w.heap.size, 3, none⟩ y3).setCell ⟨w.heap.size, 4, none⟩ y4)) := by
  have K7 := K.upd HU (by show ¬ w.heap.size = g; omega)
  have hU5 : Upd (fun k => k = w.heap.size) w7 (((((w7.setCell ⟨w.heap.size, 0, none⟩ y0).setCell ⟨w.heap.size, 1, none⟩ y1).setCell ⟨w.heap.size, 2, none⟩ y2).setCell ⟨w.heap.size, 3, none⟩ y3).setCell ⟨w.heap.size, 4, none⟩ y4) := (((((Upd.refl (fun k => k = w.heap.size) w7).set ⟨w.heap.size, 0, none⟩ _ (.inl rfl)).set ⟨w.heap.size, 1, none⟩ _ (.inl rfl)).set ⟨w.heap.size, 2, none⟩ _ (.inl rfl)).set ⟨w.heap.size, 3, none⟩ _ (.inl rfl)).set ⟨w.heap.size, 4, none⟩ _ (.inl rfl)
  exact ⟨wr5 K7 _ _ _ _ _, HP.upd hU5 (by omega) (fun k hk => Nat.ne_of_lt (hl1 k hk)) (fun k hk => Nat.ne_of_lt (hl2 k hk)), ((Upd.of_below HB).trans HU (fun k _ h => h)).trans hU5 (fun k h1 h2 => by omega)⟩
theorem fld1 (a b c d e : Value) (w : World) : (Instr.field 72 (.agg #[a, b, c, d, e]) 1).run Tryd.prog w = .ok b w := by kernel_rfl
theorem fld0 (a b c d e : Value) (w : World) : (Instr.field 72 (.agg #[a, b, c, d, e]) 0).run Tryd.prog w = .ok a w := by kernel_rfl
theorem fld2 (a b c d e : Value) (w : World) : (Instr.field 72 (.agg #[a, b, c, d, e]) 2).run Tryd.prog w = .ok c w := by kernel_rfl
theorem fld3 (a b c d e : Value) (w : World) : (Instr.field 72 (.agg #[a, b, c, d, e]) 3).run Tryd.prog w = .ok d w := by kernel_rfl
theorem tk_lt {ts : List Tk} {L p : Nat} (hp : p ≤ ts.length) (h : (tkAt ts L p).t ≠ ⟨#[]⟩ ∨ (tkAt ts L p).k ≠ 0) : p < ts.length := by
  rcases Nat.lt_or_ge p ts.length with h1 | h1
  · exact h1
  · obtain rfl : p = ts.length := by omega
    rw [tk_end] at h
    simp at h
theorem str_eq (a b : ByteArray) : (a.toList == b.toList) = decide (a = b) := by
  by_cases h : a = b
  · subst h; simp
  · rw [decide_eq_false h]
    have hb : (⟨b.toList.toArray⟩ : ByteArray) = b := by rw [Lib.toList_data]
    exact str_ne a b.toList (by rw [hb]; exact h)
set_option maxRecDepth 100000 in
set_option maxHeartbeats 4000000 in
theorem text_any {w : World} {B g : Nat} {tv v : Value} {ts : List Tk} {L p : Nat} {N : List Nd} (HP : Hid (Par w B g tv ts L p v N)) (s : ByteArray) (hs : s ≠ ⟨#[]⟩) :
    Calls Tryd.prog 35 #[.pointer (some ⟨g, 0, none⟩), .string s] w fun e w' => TokTo w B g tv ts L p v N (txt (ts.map core) s p) e w' := by
  have HPa := hide_ (HP.out.later ((Below.refl _ w).alloc (Nat.le_refl _) (.cells #[.int .i64 0, .string ⟨#[]⟩, .int .i64 0, .int .i64 0, .int .i64 0] 72)))
  have HBa := hide_ ((Below.refl w.heap.size w).alloc (Nat.le_refl _) (.cells #[.int .i64 0, .string ⟨#[]⟩, .int .i64 0, .int .i64 0, .int .i64 0] 72))
  have K4 := hide_ (Blk.newA w #[.int .i64 0, .string ⟨#[]⟩, .int .i64 0, .int .i64 0, .int .i64 0] 72)
  have HC := hide_ (token_any HPa)
  have hgw := HP.out.1.lt
  have hp := HP.out.2.2.2.2.1
  have HX : Hid (txt (ts.map core) s p = if decide ((tkAt ts L p).t = s) then .ok (p + 1) else .error (60, p)) := by
    show _ = _
    unfold txt tak isT
    rw [core_at ts L p]
    rfl
  have HL : Hid (decide ((tkAt ts L p).t = s) = true → p < ts.length) := fun h => tk_lt hp (by
    have := of_decide_eq_true h
    exact .inl (by rw [this]; exact hs))
  have hx0 : tkAt ts L p = tkAt ts L p := rfl
  obtain ⟨x, hx⟩ : ∃ x, tkAt ts L p = x := ⟨_, rfl⟩
  have HXX := hide_ hx
  rw [HX.out]
  rw [hx] at HC HL ⊢
  obtain ⟨m, hm⟩ : ∃ m, decide (x.t = s) = m := ⟨_, rfl⟩
  rw [hm] at HL ⊢
  have HM := hide_ hm
  obtain ⟨r, hr⟩ : ∃ r : PR Nat, (if m = true then .ok (p + 1) else .error (60, p)) = r := ⟨_, rfl⟩
  rw [hr]
  have HR := hide_ hr
  clear HX hm hx hx0 hr
  have hf1 := fld1
  have hf0 := fld0
  go_enter Tryd.func35, Tryd.ntmps35
  go_wp2_with fail
  refine HC.out.mono ?_; rintro e w2 ⟨rfl, hB2⟩
  have HP2 := hide_ (HPa.out.later hB2)
  have HB2 := hide_ (HBa.out.trans (hB2.mono HBa.out.size))
  have K2 := hide_ (K4.out.later hB2)
  clear hB2 HC HPa HBa K4
  unfold tkv
  go_wp2_with fail
  rw [str_eq]
  rw [HM.out]
  have HTk := take_any HP2 m HL.out
  rw [HR.out] at HTk
  refine HTk.mono ?_; clear HTk; rintro e w3 (⟨j, hj, rfl, HP3, HU3⟩ | ⟨y, hy, rfl, HU3⟩)
  · have HJ := hide_ hj
    clear hj
    rw [HXX.out]
    have k0 := (K2.out.upd HU3.out (by show ¬ w.heap.size = g; omega)).cell 0
    have k1 := (K2.out.upd HU3.out (by show ¬ w.heap.size = g; omega)).cell 1
    have k2 := (K2.out.upd HU3.out (by show ¬ w.heap.size = g; omega)).cell 2
    have k3 := (K2.out.upd HU3.out (by show ¬ w.heap.size = g; omega)).cell 3
    have k4 := (K2.out.upd HU3.out (by show ¬ w.heap.size = g; omega)).cell 4
    have z0 := (K2.out.upd HU3.out (by show ¬ w.heap.size = g; omega)).frozen 0
    have z1 := (K2.out.upd HU3.out (by show ¬ w.heap.size = g; omega)).frozen 1
    have z2 := (K2.out.upd HU3.out (by show ¬ w.heap.size = g; omega)).frozen 2
    have z3 := (K2.out.upd HU3.out (by show ¬ w.heap.size = g; omega)).frozen 3
    have z4 := (K2.out.upd HU3.out (by show ¬ w.heap.size = g; omega)).frozen 4
    simp at k0 k1 k2 k3 k4
    unfold tkv
    go_wp2
    obtain ⟨t1, t2, t3⟩ := tok_end hgw HB2.out K2.out (fun k hk => (HP.out.2.1.lt k hk).2) (fun k hk => (HP.out.2.2.1.lt k hk).2) HP3.out HU3.out (.int .i64 x.k) (.string x.t) (.int .i64 x.n) (.int .i64 x.a) (.int .i64 x.e)
    exact retT (T := x) rfl rfl t1 (.inl ⟨j, HJ.out, by rw [HXX.out], t2, t3⟩)
  · have HJ := hide_ hy
    clear hy
    unfold Flt
    go_wp2
    exact ⟨rfl, .inr ⟨y, HJ.out, rfl, hide_ ((Upd.of_below HB2.out).trans HU3.out (fun k _ h => h))⟩⟩
set_option maxRecDepth 100000 in
set_option maxHeartbeats 4000000 in
theorem name_tok {w : World} {B g : Nat} {tv v : Value} {ts : List Tk} {L p : Nat} {N : List Nd} (HP : Hid (Par w B g tv ts L p v N)) :
    Calls Tryd.prog 56 #[.pointer (some ⟨g, 0, none⟩)] w fun e w' => TokTo w B g tv ts L p v N (tak (ts.map core) isNm p) e w' := by
  have HPa := hide_ (HP.out.later ((Below.refl _ w).alloc (Nat.le_refl _) (.cells #[.int .i64 0, .string ⟨#[]⟩, .int .i64 0, .int .i64 0, .int .i64 0] 72)))
  have HBa := hide_ ((Below.refl w.heap.size w).alloc (Nat.le_refl _) (.cells #[.int .i64 0, .string ⟨#[]⟩, .int .i64 0, .int .i64 0, .int .i64 0] 72))
  have K4 := hide_ (Blk.newA w #[.int .i64 0, .string ⟨#[]⟩, .int .i64 0, .int .i64 0, .int .i64 0] 72)
  have HC := hide_ (token_any HPa)
  have hgw := HP.out.1.lt
  have hp := HP.out.2.2.2.2.1
  have HX : Hid (tak (ts.map core) isNm p = if isName (tkAt ts L p).t then .ok (p + 1) else .error (60, p)) := by
    show _ = _
    unfold tak isNm
    rw [core_at ts L p]
    rfl
  have HL : Hid (isName (tkAt ts L p).t = true → p < ts.length) := fun h => tk_lt hp (by
    refine .inl (fun e => ?_)
    rw [e] at h
    exact absurd h (by decide))
  have hx0 : tkAt ts L p = tkAt ts L p := rfl
  obtain ⟨x, hx⟩ : ∃ x, tkAt ts L p = x := ⟨_, rfl⟩
  have HXX := hide_ hx
  rw [HX.out]
  rw [hx] at HC HL ⊢
  obtain ⟨m, hm⟩ : ∃ m, isName x.t = m := ⟨_, rfl⟩
  rw [hm] at HL ⊢
  have HM := hide_ hm
  obtain ⟨r, hr⟩ : ∃ r : PR Nat, (if m = true then .ok (p + 1) else .error (60, p)) = r := ⟨_, rfl⟩
  rw [hr]
  have HR := hide_ hr
  clear HX hm hx hx0 hr
  have hf1 := fld1
  have hf0 := fld0
  go_enter Tryd.func56, Tryd.ntmps56
  go_wp2_with fail
  refine HC.out.mono ?_; rintro e w2 ⟨rfl, hB2⟩
  have HP2 := hide_ (HPa.out.later hB2)
  have HB2 := hide_ (HBa.out.trans (hB2.mono HBa.out.size))
  have K2 := hide_ (K4.out.later hB2)
  clear hB2 HC HPa HBa K4
  unfold tkv
  go_wp2_with fail
  refine (name_any _ _).mono ?_; rintro e w4 ⟨rfl, rfl⟩
  go_wp2_with fail
  rw [HM.out]
  have HTk := take_any HP2 m HL.out
  rw [HR.out] at HTk
  refine HTk.mono ?_; clear HTk; rintro e w3 (⟨j, hj, rfl, HP3, HU3⟩ | ⟨y, hy, rfl, HU3⟩)
  · have HJ := hide_ hj
    clear hj
    rw [HXX.out]
    have k0 := (K2.out.upd HU3.out (by show ¬ w.heap.size = g; omega)).cell 0
    have k1 := (K2.out.upd HU3.out (by show ¬ w.heap.size = g; omega)).cell 1
    have k2 := (K2.out.upd HU3.out (by show ¬ w.heap.size = g; omega)).cell 2
    have k3 := (K2.out.upd HU3.out (by show ¬ w.heap.size = g; omega)).cell 3
    have k4 := (K2.out.upd HU3.out (by show ¬ w.heap.size = g; omega)).cell 4
    have z0 := (K2.out.upd HU3.out (by show ¬ w.heap.size = g; omega)).frozen 0
    have z1 := (K2.out.upd HU3.out (by show ¬ w.heap.size = g; omega)).frozen 1
    have z2 := (K2.out.upd HU3.out (by show ¬ w.heap.size = g; omega)).frozen 2
    have z3 := (K2.out.upd HU3.out (by show ¬ w.heap.size = g; omega)).frozen 3
    have z4 := (K2.out.upd HU3.out (by show ¬ w.heap.size = g; omega)).frozen 4
    simp at k0 k1 k2 k3 k4
    unfold tkv
    go_wp2
    obtain ⟨t1, t2, t3⟩ := tok_end hgw HB2.out K2.out (fun k hk => (HP.out.2.1.lt k hk).2) (fun k hk => (HP.out.2.2.1.lt k hk).2) HP3.out HU3.out (.int .i64 x.k) (.string x.t) (.int .i64 x.n) (.int .i64 x.a) (.int .i64 x.e)
    exact retT (T := x) rfl rfl t1 (.inl ⟨j, HJ.out, by rw [HXX.out], t2, t3⟩)
  · have HJ := hide_ hy
    clear hy
    unfold Flt
    go_wp2
    exact ⟨rfl, .inr ⟨y, HJ.out, rfl, hide_ ((Upd.of_below HB2.out).trans HU3.out (fun k _ h => h))⟩⟩
set_option maxRecDepth 100000 in
set_option maxHeartbeats 4000000 in
theorem number_tok {w : World} {B g : Nat} {tv v : Value} {ts : List Tk} {L p : Nat} {N : List Nd} (HP : Hid (Par w B g tv ts L p v N)) :
    Calls Tryd.prog 78 #[.pointer (some ⟨g, 0, none⟩)] w fun e w' => TokTo w B g tv ts L p v N (tak (ts.map core) isNum p) e w' := by
  have HPa := hide_ (HP.out.later ((Below.refl _ w).alloc (Nat.le_refl _) (.cells #[.int .i64 0, .string ⟨#[]⟩, .int .i64 0, .int .i64 0, .int .i64 0] 72)))
  have HBa := hide_ ((Below.refl w.heap.size w).alloc (Nat.le_refl _) (.cells #[.int .i64 0, .string ⟨#[]⟩, .int .i64 0, .int .i64 0, .int .i64 0] 72))
  have K4 := hide_ (Blk.newA w #[.int .i64 0, .string ⟨#[]⟩, .int .i64 0, .int .i64 0, .int .i64 0] 72)
  have HC := hide_ (token_any HPa)
  have hgw := HP.out.1.lt
  have hp := HP.out.2.2.2.2.1
  have HX : Hid (tak (ts.map core) isNum p = if decide ((tkAt ts L p).k = 2) then .ok (p + 1) else .error (60, p)) := by
    show _ = _
    unfold tak isNum
    rw [core_at ts L p]
    rfl
  have HL : Hid (decide ((tkAt ts L p).k = 2) = true → p < ts.length) := fun h => tk_lt hp (by
    have := of_decide_eq_true h
    exact .inr (by rw [this]; decide))
  have hx0 : tkAt ts L p = tkAt ts L p := rfl
  obtain ⟨x, hx⟩ : ∃ x, tkAt ts L p = x := ⟨_, rfl⟩
  have HXX := hide_ hx
  rw [HX.out]
  rw [hx] at HC HL ⊢
  obtain ⟨m, hm⟩ : ∃ m, decide (x.k = 2) = m := ⟨_, rfl⟩
  rw [hm] at HL ⊢
  have HM := hide_ hm
  obtain ⟨r, hr⟩ : ∃ r : PR Nat, (if m = true then .ok (p + 1) else .error (60, p)) = r := ⟨_, rfl⟩
  rw [hr]
  have HR := hide_ hr
  clear HX hm hx hx0 hr
  have hf1 := fld1
  have hf0 := fld0
  go_enter Tryd.func78, Tryd.ntmps78
  go_wp2_with fail
  refine HC.out.mono ?_; rintro e w2 ⟨rfl, hB2⟩
  have HP2 := hide_ (HPa.out.later hB2)
  have HB2 := hide_ (HBa.out.trans (hB2.mono HBa.out.size))
  have K2 := hide_ (K4.out.later hB2)
  clear hB2 HC HPa HBa K4
  unfold tkv
  go_wp2_with fail
  rw [show (x.k == 2) = decide (x.k = 2) from by by_cases h : x.k = 2 <;> simp [h]]
  rw [HM.out]
  have HTk := take_any HP2 m HL.out
  rw [HR.out] at HTk
  refine HTk.mono ?_; clear HTk; rintro e w3 (⟨j, hj, rfl, HP3, HU3⟩ | ⟨y, hy, rfl, HU3⟩)
  · have HJ := hide_ hj
    clear hj
    rw [HXX.out]
    have k0 := (K2.out.upd HU3.out (by show ¬ w.heap.size = g; omega)).cell 0
    have k1 := (K2.out.upd HU3.out (by show ¬ w.heap.size = g; omega)).cell 1
    have k2 := (K2.out.upd HU3.out (by show ¬ w.heap.size = g; omega)).cell 2
    have k3 := (K2.out.upd HU3.out (by show ¬ w.heap.size = g; omega)).cell 3
    have k4 := (K2.out.upd HU3.out (by show ¬ w.heap.size = g; omega)).cell 4
    have z0 := (K2.out.upd HU3.out (by show ¬ w.heap.size = g; omega)).frozen 0
    have z1 := (K2.out.upd HU3.out (by show ¬ w.heap.size = g; omega)).frozen 1
    have z2 := (K2.out.upd HU3.out (by show ¬ w.heap.size = g; omega)).frozen 2
    have z3 := (K2.out.upd HU3.out (by show ¬ w.heap.size = g; omega)).frozen 3
    have z4 := (K2.out.upd HU3.out (by show ¬ w.heap.size = g; omega)).frozen 4
    simp at k0 k1 k2 k3 k4
    unfold tkv
    go_wp2
    obtain ⟨t1, t2, t3⟩ := tok_end hgw HB2.out K2.out (fun k hk => (HP.out.2.1.lt k hk).2) (fun k hk => (HP.out.2.2.1.lt k hk).2) HP3.out HU3.out (.int .i64 x.k) (.string x.t) (.int .i64 x.n) (.int .i64 x.a) (.int .i64 x.e)
    exact retT (T := x) rfl rfl t1 (.inl ⟨j, HJ.out, by rw [HXX.out], t2, t3⟩)
  · have HJ := hide_ hy
    clear hy
    unfold Flt
    go_wp2
    exact ⟨rfl, .inr ⟨y, HJ.out, rfl, hide_ ((Upd.of_below HB2.out).trans HU3.out (fun k _ h => h))⟩⟩
end Go.Proofs.YtafljgjkcnbhbaaDoor

/- begins; what moves when nodes are laid. -/
namespace Go.Proofs.YtafljgjkcnbhbaaDoor
open Go.RowKit
set_option linter.unusedVariables false

set_option maxRecDepth 100000 in
set_option maxHeartbeats 4000000 in
theorem begins_any (s : ByteArray) (w : World) : Calls Tryd.prog 73 #[.string s] w fun e w' => e = .returned (.tuple #[.int .i64 (beg s).1, .int .i64 (beg s).2]) ∧ w = w' := by
  have HN := hide_ (name_any s w)
  have HB : Hid (beg s = beg s) := rfl
  by_cases h0 : s = ⟨#[117, 56]⟩
  · have HE : Hid (beg s = (1, 1)) := by show _ = _; subst h0; decide
    rw [HE.out]
    clear HE HB HN
    subst h0
    go_enter Tryd.func73, Tryd.ntmps73
    go_wp2
    go_ret2
    exact ⟨rfl, rfl⟩
  have k0 := str_ne s _ h0
  by_cases h1 : s = ⟨#[117, 49, 54]⟩
  · have HE : Hid (beg s = (1, 2)) := by show _ = _; subst h1; decide
    rw [HE.out]
    clear HE HB HN
    subst h1
    go_enter Tryd.func73, Tryd.ntmps73
    go_wp2
    go_ret2
    exact ⟨rfl, rfl⟩
  have k1 := str_ne s _ h1
  by_cases h2 : s = ⟨#[117, 51, 50]⟩
  · have HE : Hid (beg s = (1, 4)) := by show _ = _; subst h2; decide
    rw [HE.out]
    clear HE HB HN
    subst h2
    go_enter Tryd.func73, Tryd.ntmps73
    go_wp2
    go_ret2
    exact ⟨rfl, rfl⟩
  have k2 := str_ne s _ h2
  by_cases h3 : s = ⟨#[117, 54, 52]⟩
  · have HE : Hid (beg s = (1, 8)) := by show _ = _; subst h3; decide
    rw [HE.out]
    clear HE HB HN
    subst h3
    go_enter Tryd.func73, Tryd.ntmps73
    go_wp2
    go_ret2
    exact ⟨rfl, rfl⟩
  have k3 := str_ne s _ h3
  by_cases h4 : s = ⟨#[98, 111, 111, 108]⟩
  · have HE : Hid (beg s = (2, 0)) := by show _ = _; subst h4; decide
    rw [HE.out]
    clear HE HB HN
    subst h4
    go_enter Tryd.func73, Tryd.ntmps73
    go_wp2
    go_ret2
    exact ⟨rfl, rfl⟩
  have k4 := str_ne s _ h4
  by_cases h5 : s = ⟨#[118, 97, 114, 105, 110, 116]⟩
  · have HE : Hid (beg s = (3, 0)) := by show _ = _; subst h5; decide
    rw [HE.out]
    clear HE HB HN
    subst h5
    go_enter Tryd.func73, Tryd.ntmps73
    go_wp2
    go_ret2
    exact ⟨rfl, rfl⟩
  have k5 := str_ne s _ h5
  by_cases h6 : s = ⟨#[118, 101, 99, 116, 111, 114]⟩
  · have HE : Hid (beg s = (4, 0)) := by show _ = _; subst h6; decide
    rw [HE.out]
    clear HE HB HN
    subst h6
    go_enter Tryd.func73, Tryd.ntmps73
    go_wp2
    go_ret2
    exact ⟨rfl, rfl⟩
  have k6 := str_ne s _ h6
  by_cases h7 : s = ⟨#[108, 105, 115, 116]⟩
  · have HE : Hid (beg s = (5, 0)) := by show _ = _; subst h7; decide
    rw [HE.out]
    clear HE HB HN
    subst h7
    go_enter Tryd.func73, Tryd.ntmps73
    go_wp2
    go_ret2
    exact ⟨rfl, rfl⟩
  have k7 := str_ne s _ h7
  by_cases h8 : s = ⟨#[111, 112, 116, 105, 111, 110]⟩
  · have HE : Hid (beg s = (6, 0)) := by show _ = _; subst h8; decide
    rw [HE.out]
    clear HE HB HN
    subst h8
    go_enter Tryd.func73, Tryd.ntmps73
    go_wp2
    go_ret2
    exact ⟨rfl, rfl⟩
  have k8 := str_ne s _ h8
  by_cases h9 : s = ⟨#[117, 110, 105, 111, 110]⟩
  · have HE : Hid (beg s = (7, 0)) := by show _ = _; subst h9; decide
    rw [HE.out]
    clear HE HB HN
    subst h9
    go_enter Tryd.func73, Tryd.ntmps73
    go_wp2
    go_ret2
    exact ⟨rfl, rfl⟩
  have k9 := str_ne s _ h9
  by_cases h10 : s = ⟨#[115, 116, 114, 117, 99, 116]⟩
  · have HE : Hid (beg s = (8, 0)) := by show _ = _; subst h10; decide
    rw [HE.out]
    clear HE HB HN
    subst h10
    go_enter Tryd.func73, Tryd.ntmps73
    go_wp2
    go_ret2
    exact ⟨rfl, rfl⟩
  have k10 := str_ne s _ h10
  have HE : Hid (beg s = if isName s then (9, 0) else (0, 0)) := by
    show _ = _
    unfold beg
    rw [if_neg h0, if_neg h1, if_neg h2, if_neg h3, if_neg h4, if_neg h5, if_neg h6, if_neg h7, if_neg h8, if_neg h9, if_neg h10]
  rw [HE.out]
  clear h0
  clear h1
  clear h2
  clear h3
  clear h4
  clear h5
  clear h6
  clear h7
  clear h8
  clear h9
  clear h10
  clear HE HB
  cases hn : isName s with
  | true =>
    rw [hn] at HN
    rw [if_pos rfl]
    go_enter Tryd.func73, Tryd.ntmps73
    go_wp2_with fail
    refine HN.out.mono ?_; rintro e w2 ⟨rfl, rfl⟩
    go_wp2
    go_ret2
    exact ⟨rfl, rfl⟩
  | false =>
    rw [hn] at HN
    rw [if_neg (by decide)]
    go_enter Tryd.func73, Tryd.ntmps73
    go_wp2_with fail
    refine HN.out.mono ?_; rintro e w2 ⟨rfl, rfl⟩
    go_wp2
    go_ret2
    exact ⟨rfl, rfl⟩
/-- Nodes were laid: the parser's block, the nodes' one and new ones may have changed. -/
def Mv (g : Nat) (v v' : Value) (w w' : World) : Prop := Upd (fun k => k = g ∨ v.ownBlock = some k) w w' ∧ ∀ k, v'.ownBlock = some k → v.ownBlock = some k ∨ w.heap.size ≤ k
section
variable {g : Nat} {v v' v'' : Value} {w w' w'' : World}
theorem Mv.refl (g : Nat) (v : Value) (w : World) : Mv g v v w w := ⟨Upd.refl _ _, fun _ h => .inl h⟩
theorem Mv.of (h : Upd (fun k => k = g) w w') (v : Value) : Mv g v v w w' := ⟨h.mono (fun _ _ h => .inl h), fun _ h => .inl h⟩
theorem Mv.of_below (h : Below w.heap.size w w') (g : Nat) (v : Value) : Mv g v v w w' := ⟨Upd.of_below h, fun _ h => .inl h⟩
theorem Mv.upd (h : Mv g v v' w w') (k : Upd (fun k => k = g ∨ v'.ownBlock = some k) w' w'') : Upd (fun k => k = g ∨ v.ownBlock = some k) w w'' :=
  h.1.trans k (fun j hj hk => by
    rcases hk with hk | hk
    · exact .inl hk
    · rcases h.2 j hk with h2 | h2
      · exact .inr h2
      · omega)
theorem Mv.trans (h : Mv g v v' w w') (k : Mv g v' v'' w' w'') : Mv g v v'' w w'' :=
  ⟨h.upd k.1, fun j hj => by
    rcases k.2 j hj with h2 | h2
    · exact h.2 j h2
    · exact .inr (Nat.le_trans h.1.size h2)⟩
theorem Mv.then (h : Mv g v v' w w') (k : Upd (fun k => k = g) w' w'') : Mv g v v' w w'' := h.trans (Mv.of k v')
theorem Mv.size (h : Mv g v v' w w') : w.heap.size ≤ w'.heap.size := h.1.size
end
/-- Behind a type's nodes. N: the nodes ahead, as they lie in memory. -/
def NodeTo (w : World) (B g : Nat) (tv : Value) (ts : List Tk) (L : Nat) (v : Value) (N : List Nd) (r : PR (List Nd × Nat)) (e : Ending) (w' : World) : Prop :=
  (∃ M j v', r = .ok (M, j) ∧ e = .returned (.tuple #[]) ∧ Hid (Par w' B g tv ts L j v' (N ++ M.map (ndP ts L)) ∧ (N ++ M.map (ndP ts L)).length ≤ j) ∧ Hid (Mv g v v' w w')) ∨
  (∃ y, r = .error y ∧ e = Flt y.1 (plc ts L y.2) ∧ Hid (Upd (fun k => k = g ∨ v.ownBlock = some k) w w'))
/-- node's contract, for types that may hold others f deep. -/
def NodeOk (f : Nat) : Prop := ∀ (w : World) (B g : Nat) (tv v : Value) (ts : List Tk) (L p : Nat) (N : List Nd) (x : Nd) (d : Nat), Hid (Par w B g tv ts L p v N) → N.length ≤ p → d + f = 17 →
  Calls Tryd.prog 66 #[.pointer (some ⟨g, 0, none⟩), ndv (ndP ts L x), .int .i64 (d : Int)] w fun e w' => NodeTo w B g tv ts L v N (nodeP (ts.map core) f x p) e w'
end Go.Proofs.YtafljgjkcnbhbaaDoor

/- expression, items, option, part: over node's contract one level below. -/
namespace Go.Proofs.YtafljgjkcnbhbaaDoor
open Go.RowKit
set_option linter.unusedVariables false

theorem bld6 (a : Int) (w : World) : (Instr.build 38 #[(6, .int .i64 a)]).run Tryd.prog w = .ok (.agg #[.int .i64 0, .int .i64 0, .string ⟨#[]⟩, .string ⟨#[]⟩, .int .i64 0, .int .i64 0, .int .i64 a]) w := by kernel_rfl
set_option maxRecDepth 100000 in
set_option maxHeartbeats 4000000 in
theorem expr_any {f : Nat} (hN : Hid (NodeOk f)) {w : World} {B g : Nat} {tv v : Value} {ts : List Tk} {L p : Nat} {N : List Nd} (HP : Hid (Par w B g tv ts L p v N)) (hl : N.length ≤ p) (d : Nat) (hd : d + f = 17) :
    Calls Tryd.prog 57 #[.pointer (some ⟨g, 0, none⟩), .int .i64 (d : Int)] w fun e w' => NodeTo w B g tv ts L v N (nodeP (ts.map core) f { nd0 with a := p } p) e w' := by
  have HC := hide_ (token_any HP)
  have hf3 := fld3
  obtain ⟨r, hr⟩ : ∃ r, nodeP (ts.map core) f { nd0 with a := p } p = r := ⟨_, rfl⟩
  have HR := hide_ hr
  rw [hr]
  clear hr
  obtain ⟨x, hx⟩ : ∃ x, tkAt ts L p = x := ⟨_, rfl⟩
  have HX : Hid ((x.a : Int) = plc ts L p) := by show _ = _; rw [← hx]; rfl
  rw [hx] at HC
  clear hx
  go_enter Tryd.func57, Tryd.ntmps57
  go_wp2_with fail
  refine HC.out.mono ?_; rintro e w2 ⟨rfl, hB2⟩
  have HP2 := hide_ (HP.out.later hB2)
  have HM := hide_ (Mv.of_below hB2 g v)
  clear hB2 HC HP
  unfold tkv
  go_wp2_with fail
  have HNd := hN.out w2 B g tv v ts L p N { nd0 with a := p } d HP2 hl hd
  rw [HR.out] at HNd
  rw [HX.out]
  refine HNd.mono ?_
  clear HNd
  rintro e w3 (⟨M, j, v', hj, rfl, HP3, HM3⟩ | ⟨y, hy, rfl, HU3⟩)
  · have HJ := hide_ hj
    clear hj
    go_wp2
    go_end0
    exact .inl ⟨M, j, v', HJ.out, rfl, HP3, hide_ (HM.out.trans HM3.out)⟩
  · have HJ := hide_ hy
    clear hy
    unfold Flt
    go_wp2
    exact ⟨rfl, .inr ⟨y, HJ.out, rfl, hide_ (HM.out.upd HU3.out)⟩⟩
set_option maxRecDepth 100000 in
set_option maxHeartbeats 4000000 in
theorem option_any {f : Nat} (hN : Hid (NodeOk f)) {w : World} {B g : Nat} {tv v : Value} {ts : List Tk} {L p : Nat} {N : List Nd} (HP : Hid (Par w B g tv ts L p v N)) (hl : N.length ≤ p) (d : Nat) (hd : d + f = 17) :
    Calls Tryd.prog 75 #[.pointer (some ⟨g, 0, none⟩), .int .i64 (d : Int)] w fun e w' => NodeTo w B g tv ts L v N (optionP (ts.map core) (nodeP (ts.map core) f) p) e w' := by
  obtain ⟨r, hr⟩ : ∃ r, optionP (ts.map core) (nodeP (ts.map core) f) p = r := ⟨_, rfl⟩
  have HR := hide_ hr
  rw [hr]
  clear hr
  go_enter Tryd.func75, Tryd.ntmps75
  go_wp2_with fail
  refine (text_any HP ⟨#[60]⟩ (by decide)).mono ?_; rintro e w1 (⟨i1, hj, rfl, HP1, HU⟩ | ⟨y, hy, rfl, HU⟩)
  case inr =>
    have HJ := hide_ hy
    clear hy
    unfold Flt
    go_wp2
    exact ⟨rfl, .inr ⟨y, by rw [← HR.out]; unfold optionP; rw [HJ.out, bnd_err], rfl, hide_ ((Mv.of HU.out v).1)⟩⟩
  have H1 := hide_ hj
  have hi1 := (tak_ok (by simpa only [txt] using hj)).1
  have HMv1 := hide_ (Mv.of HU.out v)
  clear hj HU
  go_wp2_with fail
  refine (expr_any hN HP1 (by omega) d hd).mono ?_; rintro e w2 (⟨M, i2, v', hj, rfl, HPx, HMx⟩ | ⟨y, hy, rfl, HU⟩)
  case inr =>
    have HJ := hide_ hy
    clear hy
    unfold Flt
    go_wp2
    exact ⟨rfl, .inr ⟨y, by rw [← HR.out]; unfold optionP; rw [H1.out, bnd_ok, HJ.out, bnd_err], rfl, hide_ (HMv1.out.upd HU.out)⟩⟩
  have H2 := hide_ hj
  have HP2 := hide_ HPx.out.1
  have hlx := HPx.out.2
  have HMv2 := hide_ (HMv1.out.trans HMx.out)
  clear hj HPx HMx
  go_wp2_with fail
  refine (text_any HP2 ⟨#[62]⟩ (by decide)).mono ?_; rintro e w3 (⟨i3, hj, rfl, HP3, HU⟩ | ⟨y, hy, rfl, HU⟩)
  case inr =>
    have HJ := hide_ hy
    clear hy
    unfold Flt
    go_wp2
    exact ⟨rfl, .inr ⟨y, by rw [← HR.out]; unfold optionP; rw [H1.out, bnd_ok, H2.out, bnd_ok, HJ.out, bnd_err], rfl, hide_ (HMv2.out.upd (Mv.of HU.out v').1)⟩⟩
  have H3 := hide_ hj
  have hi3 := (tak_ok (by simpa only [txt] using hj)).1
  have HMv3 := hide_ (HMv2.out.then HU.out)
  clear hj HU
  go_wp2
  go_end0
  exact .inl ⟨M, i3, v', by rw [← HR.out]; unfold optionP; rw [H1.out, bnd_ok, H2.out, bnd_ok, H3.out]; rfl, rfl, hide_ ⟨HP3.out, by omega⟩, HMv3⟩
/-- Behind a vector's or a list's item and number. -/
def ItemsTo (w : World) (B g : Nat) (tv : Value) (ts : List Tk) (L : Nat) (v : Value) (N : List Nd) (r : PR (List Nd × Int × Nat)) (e : Ending) (w' : World) : Prop :=
  (∃ M n j v', r = .ok (M, n, j) ∧ e = .returned (.int .i64 n) ∧ Hid (Par w' B g tv ts L j v' (N ++ M.map (ndP ts L)) ∧ (N ++ M.map (ndP ts L)).length ≤ j) ∧ Hid (Mv g v v' w w')) ∨
  (∃ y, r = .error y ∧ e = Flt y.1 (plc ts L y.2) ∧ Hid (Upd (fun k => k = g ∨ v.ownBlock = some k) w w'))
set_option maxRecDepth 100000 in
set_option maxHeartbeats 4000000 in
theorem items_any {f : Nat} (hN : Hid (NodeOk f)) {w : World} {B g : Nat} {tv v : Value} {ts : List Tk} {L p : Nat} {N : List Nd} (HP : Hid (Par w B g tv ts L p v N)) (hl : N.length ≤ p) (d : Nat) (hd : d + f = 17) :
    Calls Tryd.prog 74 #[.pointer (some ⟨g, 0, none⟩), .int .i64 (d : Int)] w fun e w' => ItemsTo w B g tv ts L v N (itemsP (ts.map core) (nodeP (ts.map core) f) p) e w' := by
  obtain ⟨r, hr⟩ : ∃ r, itemsP (ts.map core) (nodeP (ts.map core) f) p = r := ⟨_, rfl⟩
  have HR := hide_ hr
  rw [hr]
  clear hr
  have hf2 := fld2
  go_enter Tryd.func74, Tryd.ntmps74
  go_wp2_with fail
  refine (text_any HP ⟨#[60]⟩ (by decide)).mono ?_; rintro e w1 (⟨i1, hj, rfl, HP1, HU⟩ | ⟨y, hy, rfl, HU⟩)
  case inr =>
    have HJ := hide_ hy
    clear hy
    unfold Flt
    go_wp2
    exact ⟨rfl, .inr ⟨y, by rw [← HR.out]; unfold itemsP; rw [HJ.out, bnd_err], rfl, hide_ ((Mv.of HU.out v).1)⟩⟩
  have H1 := hide_ hj
  have hi1 := (tak_ok (by simpa only [txt] using hj)).1
  have HMv1 := hide_ (Mv.of HU.out v)
  clear hj HU
  go_wp2_with fail
  refine (expr_any hN HP1 (by omega) d hd).mono ?_; rintro e w2 (⟨M, i2, v', hj, rfl, HPx, HMx⟩ | ⟨y, hy, rfl, HU⟩)
  case inr =>
    have HJ := hide_ hy
    clear hy
    unfold Flt
    go_wp2
    exact ⟨rfl, .inr ⟨y, by rw [← HR.out]; unfold itemsP; rw [H1.out, bnd_ok, HJ.out, bnd_err], rfl, hide_ (HMv1.out.upd HU.out)⟩⟩
  have H2 := hide_ hj
  have HP2 := hide_ HPx.out.1
  have hlx := HPx.out.2
  have HMv2 := hide_ (HMv1.out.trans HMx.out)
  clear hj HPx HMx
  go_wp2_with fail
  refine (text_any HP2 ⟨#[44]⟩ (by decide)).mono ?_; rintro e w3 (⟨i3, hj, rfl, HP3, HU⟩ | ⟨y, hy, rfl, HU⟩)
  case inr =>
    have HJ := hide_ hy
    clear hy
    unfold Flt
    go_wp2
    exact ⟨rfl, .inr ⟨y, by rw [← HR.out]; unfold itemsP; rw [H1.out, bnd_ok, H2.out, bnd_ok, HJ.out, bnd_err], rfl, hide_ (HMv2.out.upd (Mv.of HU.out v').1)⟩⟩
  have H3 := hide_ hj
  have hi3 := (tak_ok (by simpa only [txt] using hj)).1
  have HMv3 := hide_ (HMv2.out.then HU.out)
  clear hj HU
  go_wp2_with fail
  refine (number_tok HP3).mono ?_; rintro e w4 (⟨i4, hj, rfl, HP4, HU⟩ | ⟨y, hy, rfl, HU⟩)
  case inr =>
    have HJ := hide_ hy
    clear hy
    unfold Flt
    go_wp2
    exact ⟨rfl, .inr ⟨y, by rw [← HR.out]; unfold itemsP; rw [H1.out, bnd_ok, H2.out, bnd_ok, H3.out, bnd_ok, HJ.out, bnd_err], rfl, hide_ (HMv3.out.upd (Mv.of HU.out v').1)⟩⟩
  have H4 := hide_ hj
  have hi4 := (tak_ok (by simpa only [txt] using hj)).1
  have HMv4 := hide_ (HMv3.out.then HU.out)
  clear hj HU
  have HQ : Hid ((tkAt ts L i3).n = (qAt (ts.map core) i3).n) := by show _ = _; rw [core_at ts L i3]; rfl
  obtain ⟨x, hx⟩ : ∃ x, tkAt ts L i3 = x := ⟨_, rfl⟩
  rw [hx] at HQ ⊢
  clear hx
  unfold tkv
  go_wp2_with fail
  refine (text_any HP4 ⟨#[62]⟩ (by decide)).mono ?_; rintro e w5 (⟨i5, hj, rfl, HP5, HU⟩ | ⟨y, hy, rfl, HU⟩)
  case inr =>
    have HJ := hide_ hy
    clear hy
    unfold Flt
    go_wp2
    exact ⟨rfl, .inr ⟨y, by rw [← HR.out]; unfold itemsP; rw [H1.out, bnd_ok, H2.out, bnd_ok, H3.out, bnd_ok, H4.out, bnd_ok, HJ.out, bnd_err], rfl, hide_ (HMv4.out.upd (Mv.of HU.out v').1)⟩⟩
  have H5 := hide_ hj
  have hi5 := (tak_ok (by simpa only [txt] using hj)).1
  have HMv5 := hide_ (HMv4.out.then HU.out)
  clear hj HU
  go_wp2
  go_ret
  exact .inl ⟨M, _, i5, v', by rw [← HR.out]; unfold itemsP; rw [H1.out, bnd_ok, H2.out, bnd_ok, H3.out, bnd_ok, H4.out, bnd_ok, H5.out, bnd_ok], by rw [← HQ.out]; rfl, hide_ ⟨HP5.out, by omega⟩, HMv5⟩
set_option maxRecDepth 100000 in
set_option maxHeartbeats 4000000 in
theorem part_any {f : Nat} (hN : Hid (NodeOk f)) {w : World} {B g : Nat} {tv v : Value} {ts : List Tk} {L p : Nat} {N : List Nd} (HP : Hid (Par w B g tv ts L p v N)) (hl : N.length ≤ p) (d : Nat) (hd : d + f = 17) (x : Nd) (room : Bool) (hx : x.a = x.a.toNat) :
    Calls Tryd.prog 79 #[.pointer (some ⟨g, 0, none⟩), ndv (ndP ts L x), .bool room, .int .i64 (d : Int)] w fun e w' => NodeTo w B g tv ts L v N (partP (ts.map core) (nodeP (ts.map core) f) x room p) e w' := by
  obtain ⟨r, hr⟩ : ∃ r, partP (ts.map core) (nodeP (ts.map core) f) x room p = r := ⟨_, rfl⟩
  have HR := hide_ hr
  rw [hr]
  clear hr
  have HBa := hide_ ((Below.refl w.heap.size w).alloc (Nat.le_refl _) (.cells #[.int .i64 x.k, .int .i64 x.n, .string x.name, .string x.label, .int .i64 x.tag, .int .i64 x.kids, .int .i64 (plc ts L x.a.toNat : Int)] 38))
  have KA := hide_ (Blk.newA w #[.int .i64 x.k, .int .i64 x.n, .string x.name, .string x.label, .int .i64 x.tag, .int .i64 x.kids, .int .i64 (plc ts L x.a.toNat : Int)] 38)
  have HPa := hide_ (HP.out.later HBa.out)
  unfold ndv
  have e0 : (ndP ts L x).k = x.k := rfl
  have e1 : (ndP ts L x).n = x.n := rfl
  have e2 : (ndP ts L x).name = x.name := rfl
  have e3 : (ndP ts L x).label = x.label := rfl
  have e4 : (ndP ts L x).tag = x.tag := rfl
  have e5 : (ndP ts L x).kids = x.kids := rfl
  have e6 : (ndP ts L x).a = (plc ts L x.a.toNat : Int) := rfl
  rw [e0, e1, e2, e3, e4, e5, e6]
  clear e0 e1 e2 e3 e4 e5 e6
  have hgw := HP.out.1.lt
  cases room with
  | false =>
    have HG := hide_ (fun w => giveUp_any 5 (plc ts L x.a.toNat) w)
    have HE : Hid (r = .error (5, x.a.toNat)) := by show _ = _; rw [← HR.out]; unfold partP; rw [if_neg (by decide)]
    generalize hq : plc ts L x.a.toNat = q at *
    have HQ := hide_ hq
    clear hq
    go_enter Tryd.func79, Tryd.ntmps79
    go_wp2_with fail
    refine (HG.out _).mono ?_; rintro e w3 ⟨rfl, rfl⟩
    unfold Flt
    go_wp2
    exact ⟨rfl, .inr ⟨(5, x.a.toNat), HE.out, by rw [HQ.out]; rfl, hide_ (Upd.of_below HBa.out)⟩⟩
  | true =>
    generalize hq : plc ts L x.a.toNat = q at *
    have HQ := hide_ hq
    clear hq
    obtain ⟨wA, hwA⟩ : ∃ wA, wA = w.alloc (.cells #[.int .i64 x.k, .int .i64 x.n, .string x.name, .string x.label, .int .i64 x.tag, .int .i64 x.kids, .int .i64 (q : Int)] 38) := ⟨_, rfl⟩
    rw [← hwA] at HBa KA HPa
    go_enter Tryd.func79, Tryd.ntmps79
    go_wp2_with fail
    rw [← hwA]
    clear hwA
    refine (text_any HPa ⟨#[58]⟩ (by decide)).mono ?_; rintro e w1 (⟨i1, hj, rfl, HP1, HU⟩ | ⟨y, hy, rfl, HU⟩)
    case inr =>
      have HJ := hide_ hy
      clear hy
      unfold Flt
      go_wp2
      exact ⟨rfl, .inr ⟨y, by rw [← HR.out]; unfold partP; rw [if_pos rfl, HJ.out]; rfl, rfl, hide_ ((Mv.of_below HBa.out g v).upd (Mv.of HU.out v).1)⟩⟩
    have H1 := hide_ hj
    have hi1 := (tak_ok (by simpa only [txt] using hj)).1
    have HMv1 := hide_ ((Mv.of_below HBa.out g v).then HU.out)
    have K1 := hide_ (KA.out.upd HU.out (by show ¬ w.heap.size = g; omega))
    clear hj HU KA
    have c0 := K1.out.cell 0; have c1 := K1.out.cell 1; have c2 := K1.out.cell 2; have c3 := K1.out.cell 3; have c4 := K1.out.cell 4; have c5 := K1.out.cell 5; have c6 := K1.out.cell 6
    simp at c0 c1 c2 c3 c4 c5 c6
    have HV : Hid (Value.agg #[.int .i64 x.k, .int .i64 x.n, .string x.name, .string x.label, .int .i64 x.tag, .int .i64 x.kids, .int .i64 (q : Int)] = ndv (ndP ts L x)) := by show _ = _; rw [← HQ.out]; rfl
    go_wp2_with fail
    rw [HV.out]
    refine (hN.out w1 B g tv v ts L i1 N x d HP1 (by omega) hd).mono ?_; rintro e w2 (⟨M, j, v', hj, rfl, HP3, HM3⟩ | ⟨y, hy, rfl, HU3⟩)
    · have HJ := hide_ hj
      clear hj
      go_wp2
      go_end0
      exact .inl ⟨M, j, v', by rw [← HR.out]; unfold partP; rw [if_pos rfl, H1.out, bnd_ok, HJ.out], rfl, HP3, hide_ (HMv1.out.trans HM3.out)⟩
    · have HJ := hide_ hy
      clear hy
      unfold Flt
      go_wp2
      exact ⟨rfl, .inr ⟨y, by rw [← HR.out]; unfold partP; rw [if_pos rfl, H1.out, bnd_ok, HJ.out], rfl, hide_ (HMv1.out.upd HU3.out)⟩⟩
end Go.Proofs.YtafljgjkcnbhbaaDoor

/- The closures that read an arm or a field; parts. -/
namespace Go.Proofs.YtafljgjkcnbhbaaDoor
open Go.RowKit
set_option linter.unusedVariables false

theorem bld46 (a b : Int) (w : World) : (Instr.build 38 #[(4, .int .i64 a), (6, .int .i64 b)]).run Tryd.prog w = .ok (.agg #[.int .i64 0, .int .i64 0, .string ⟨#[]⟩, .string ⟨#[]⟩, .int .i64 a, .int .i64 0, .int .i64 b]) w := by kernel_rfl
theorem bld36 (a : ByteArray) (b : Int) (w : World) : (Instr.build 38 #[(3, .string a), (6, .int .i64 b)]).run Tryd.prog w = .ok (.agg #[.int .i64 0, .int .i64 0, .string ⟨#[]⟩, .string a, .int .i64 0, .int .i64 0, .int .i64 b]) w := by kernel_rfl
/-- What a closure has caught: the parser's pointer, the depth. -/
def Boxes (w : World) (bp bd g : Nat) (d : Int) : Prop := Blk w bp 75 [.pointer (some ⟨g, 0, none⟩)] ∧ Blk w bd 3 [.int .i64 d]
theorem Boxes.upd {w w' : World} {B g : Nat} {tv v : Value} {ts : List Tk} {L p : Nat} {N : List Nd} {bp bd : Nat} {d : Int} (h : Boxes w bp bd g d) (HP : Par w B g tv ts L p v N) (hu : Upd (fun k => k = g ∨ v.ownBlock = some k) w w') : Boxes w' bp bd g d := by
  refine ⟨h.1.upd hu ?_, h.2.upd hu ?_⟩
  · rintro (e | e)
    · subst e; exact absurd (blk_type HP.1 h.1) (by decide)
    · obtain ⟨ys, hy⟩ := ownS_type HP.2.2.1 e
      exact absurd (blk_type hy h.1) (by decide)
  · rintro (e | e)
    · subst e; exact absurd (blk_type HP.1 h.2) (by decide)
    · obtain ⟨ys, hy⟩ := ownS_type HP.2.2.1 e
      exact absurd (blk_type hy h.2) (by decide)
theorem Boxes.later {w w' : World} {g bp bd : Nat} {d : Int} (h : Boxes w bp bd g d) (hB : Below w.heap.size w w') : Boxes w' bp bd g d := ⟨h.1.later hB, h.2.later hB⟩
theorem arm_lt {qs : List Q} {sub : Nd → Nat → PR (List Nd × Nat)} {c i : Nat} {y : List Nd × Nat} (h : armP qs sub c i = .ok y) : c < 64 := by
  unfold armP at h
  obtain ⟨a, _, h2⟩ := bnd_is h
  unfold partP at h2
  by_cases hc : c < 64
  · exact hc
  · rw [decide_eq_false hc, if_neg (by decide)] at h2
    cases h2
theorem field_lt {qs : List Q} {sub : Nd → Nat → PR (List Nd × Nat)} {c i : Nat} {y : List Nd × Nat} (h : fieldP qs sub c i = .ok y) : c < 64 := by
  unfold fieldP at h
  obtain ⟨a, _, h2⟩ := bnd_is h
  unfold partP at h2
  by_cases hc : c < 64
  · exact hc
  · rw [decide_eq_false hc, if_neg (by decide)] at h2
    cases h2
set_option maxRecDepth 100000 in
set_option maxHeartbeats 4000000 in
theorem arm_any {f : Nat} (hN : Hid (NodeOk f)) {w : World} {B g : Nat} {tv v : Value} {ts : List Tk} {L p : Nat} {N : List Nd} (HP : Hid (Par w B g tv ts L p v N)) (hl : N.length ≤ p) {bp bd : Nat} {d : Nat} (hd : d + 1 + f = 17) (HX : Hid (Boxes w bp bd g d)) (c : Nat) (hc : c ≤ 64) :
    Calls Tryd.prog 77 #[.int .i64 c, .pointer (some ⟨bp, 0, none⟩), .pointer (some ⟨bd, 0, none⟩)] w fun e w' => NodeTo w B g tv ts L v N (armP (ts.map core) (nodeP (ts.map core) f) c p) e w' := by
  obtain ⟨r, hr⟩ : ∃ r, armP (ts.map core) (nodeP (ts.map core) f) c p = r := ⟨_, rfl⟩
  have HR := hide_ hr
  rw [hr]
  clear hr
  have HBc : Hid (decide ((c : Int) < 64) = decide (c < 64)) := by show _ = _; exact decide_eq_decide.2 (by omega)
  have hd17 : (d : Int) ≤ 16 := by omega
  have hbl := bld46
  have x0 := HX.out.1.cell 0
  have x1 := HX.out.2.cell 0
  simp at x0 x1
  go_enter Tryd.func77, Tryd.ntmps77
  go_wp2_with fail
  clear x0 x1
  refine (number_tok HP).mono ?_; rintro e w1 (⟨i1, hj, rfl, HP1, HU⟩ | ⟨y, hy, rfl, HU⟩)
  case inr =>
    have HJ := hide_ hy
    clear hy
    unfold Flt
    go_wp2
    exact ⟨rfl, .inr ⟨y, by rw [← HR.out]; unfold armP; rw [HJ.out, bnd_err], rfl, hide_ (Mv.of HU.out v).1⟩⟩
  have H1 := hide_ hj
  have hi1 := (tak_ok hj).1
  have HMv1 := hide_ (Mv.of HU.out v)
  have HX1 := hide_ (HX.out.upd HP.out HMv1.out.1)
  clear hj HU HX
  have HQ : Hid (tkAt ts L p = tkAt ts L p ∧ core (tkAt ts L p) = qAt (ts.map core) p) := ⟨rfl, (core_at ts L p).symm⟩
  obtain ⟨x, hx⟩ : ∃ x, tkAt ts L p = x := ⟨_, rfl⟩
  have HP0 : Hid ((x.a : Int) = plc ts L p) := by show _ = _; rw [← hx]; rfl
  rw [hx] at HQ ⊢
  clear hx
  have HBa := hide_ ((Below.refl w1.heap.size w1).alloc (Nat.le_refl _) (.cells #[.int .i64 x.k, .string x.t, .int .i64 x.n, .int .i64 x.a, .int .i64 x.e] 72))
  have KA := hide_ (Blk.newA w1 #[.int .i64 x.k, .string x.t, .int .i64 x.n, .int .i64 x.a, .int .i64 x.e] 72)
  have HPa := hide_ (HP1.out.later HBa.out)
  have HXa := hide_ (HX1.out.later HBa.out)
  have HMva := hide_ (HMv1.out.trans (Mv.of_below HBa.out g v))
  obtain ⟨wA, hwA⟩ : ∃ wA, wA = w1.alloc (.cells #[.int .i64 x.k, .string x.t, .int .i64 x.n, .int .i64 x.a, .int .i64 x.e] 72) := ⟨_, rfl⟩
  rw [← hwA] at KA HPa HXa HMva
  clear HBa HP1 HX1 HMv1
  have x0 := HXa.out.1.cell 0
  have x1 := HXa.out.2.cell 0
  have c1 := KA.out.cell 1; have c2 := KA.out.cell 2; have c3 := KA.out.cell 3
  simp at x0 x1 c1 c2 c3
  have HV : Hid (Value.agg #[.int .i64 0, .int .i64 0, .string ⟨#[]⟩, .string ⟨#[]⟩, .int .i64 x.n, .int .i64 0, .int .i64 x.a] = ndv (ndP ts L { nd0 with tag := (qAt (ts.map core) p).n, a := p })) := by
    show _ = _
    rw [HP0.out, ← HQ.out.2]
    rfl
  have HD : Hid ((d : Int) + 1 = ((d + 1 : Nat) : Int)) := by show _ = _; omega
  unfold tkv
  go_upto_region 1 with fail
  rw [← hwA]
  clear hwA
  go_wp2_with fail
  rw [HV.out, HBc.out, HD.out]
  have HPt := part_any hN HPa (by omega) (d + 1) hd { nd0 with tag := (qAt (ts.map core) p).n, a := p } (decide (c < 64)) (by rfl)
  refine HPt.mono ?_; clear HPt; rintro e w2 (⟨M, j, v', hj, rfl, HP3, HM3⟩ | ⟨y, hy, rfl, HU3⟩)
  · have HJ := hide_ hj
    clear hj
    go_wp2
    go_end0
    exact .inl ⟨M, j, v', by rw [← HR.out]; unfold armP; rw [H1.out, bnd_ok, HJ.out], rfl, HP3, hide_ (HMva.out.trans HM3.out)⟩
  · have HJ := hide_ hy
    clear hy
    unfold Flt
    go_wp2
    exact ⟨rfl, .inr ⟨y, by rw [← HR.out]; unfold armP; rw [H1.out, bnd_ok, HJ.out], rfl, hide_ (HMva.out.upd HU3.out)⟩⟩
set_option maxRecDepth 100000 in
set_option maxHeartbeats 4000000 in
theorem field_any {f : Nat} (hN : Hid (NodeOk f)) {w : World} {B g : Nat} {tv v : Value} {ts : List Tk} {L p : Nat} {N : List Nd} (HP : Hid (Par w B g tv ts L p v N)) (hl : N.length ≤ p) {bp bd : Nat} {d : Nat} (hd : d + 1 + f = 17) (HX : Hid (Boxes w bp bd g d)) (c : Nat) (hc : c ≤ 64) :
    Calls Tryd.prog 80 #[.int .i64 c, .pointer (some ⟨bp, 0, none⟩), .pointer (some ⟨bd, 0, none⟩)] w fun e w' => NodeTo w B g tv ts L v N (fieldP (ts.map core) (nodeP (ts.map core) f) c p) e w' := by
  obtain ⟨r, hr⟩ : ∃ r, fieldP (ts.map core) (nodeP (ts.map core) f) c p = r := ⟨_, rfl⟩
  have HR := hide_ hr
  rw [hr]
  clear hr
  have HBc : Hid (decide ((c : Int) < 64) = decide (c < 64)) := by show _ = _; exact decide_eq_decide.2 (by omega)
  have hd17 : (d : Int) ≤ 16 := by omega
  have hbl := bld36
  have x0 := HX.out.1.cell 0
  have x1 := HX.out.2.cell 0
  simp at x0 x1
  go_enter Tryd.func80, Tryd.ntmps80
  go_wp2_with fail
  clear x0 x1
  refine (name_tok HP).mono ?_; rintro e w1 (⟨i1, hj, rfl, HP1, HU⟩ | ⟨y, hy, rfl, HU⟩)
  case inr =>
    have HJ := hide_ hy
    clear hy
    unfold Flt
    go_wp2
    exact ⟨rfl, .inr ⟨y, by rw [← HR.out]; unfold fieldP; rw [HJ.out, bnd_err], rfl, hide_ (Mv.of HU.out v).1⟩⟩
  have H1 := hide_ hj
  have hi1 := (tak_ok hj).1
  have HMv1 := hide_ (Mv.of HU.out v)
  have HX1 := hide_ (HX.out.upd HP.out HMv1.out.1)
  clear hj HU HX
  have HQ : Hid (tkAt ts L p = tkAt ts L p ∧ core (tkAt ts L p) = qAt (ts.map core) p) := ⟨rfl, (core_at ts L p).symm⟩
  obtain ⟨x, hx⟩ : ∃ x, tkAt ts L p = x := ⟨_, rfl⟩
  have HP0 : Hid ((x.a : Int) = plc ts L p) := by show _ = _; rw [← hx]; rfl
  rw [hx] at HQ ⊢
  clear hx
  have HBa := hide_ ((Below.refl w1.heap.size w1).alloc (Nat.le_refl _) (.cells #[.int .i64 x.k, .string x.t, .int .i64 x.n, .int .i64 x.a, .int .i64 x.e] 72))
  have KA := hide_ (Blk.newA w1 #[.int .i64 x.k, .string x.t, .int .i64 x.n, .int .i64 x.a, .int .i64 x.e] 72)
  have HPa := hide_ (HP1.out.later HBa.out)
  have HXa := hide_ (HX1.out.later HBa.out)
  have HMva := hide_ (HMv1.out.trans (Mv.of_below HBa.out g v))
  obtain ⟨wA, hwA⟩ : ∃ wA, wA = w1.alloc (.cells #[.int .i64 x.k, .string x.t, .int .i64 x.n, .int .i64 x.a, .int .i64 x.e] 72) := ⟨_, rfl⟩
  rw [← hwA] at KA HPa HXa HMva
  clear HBa HP1 HX1 HMv1
  have x0 := HXa.out.1.cell 0
  have x1 := HXa.out.2.cell 0
  have c1 := KA.out.cell 1; have c2 := KA.out.cell 2; have c3 := KA.out.cell 3
  simp at x0 x1 c1 c2 c3
  have HV : Hid (Value.agg #[.int .i64 0, .int .i64 0, .string ⟨#[]⟩, .string x.t, .int .i64 0, .int .i64 0, .int .i64 x.a] = ndv (ndP ts L { nd0 with label := (qAt (ts.map core) p).t, a := p })) := by
    show _ = _
    rw [HP0.out, ← HQ.out.2]
    rfl
  have HD : Hid ((d : Int) + 1 = ((d + 1 : Nat) : Int)) := by show _ = _; omega
  unfold tkv
  go_upto_region 1 with fail
  rw [← hwA]
  clear hwA
  go_wp2_with fail
  rw [HV.out, HBc.out, HD.out]
  have HPt := part_any hN HPa (by omega) (d + 1) hd { nd0 with label := (qAt (ts.map core) p).t, a := p } (decide (c < 64)) (by rfl)
  refine HPt.mono ?_; clear HPt; rintro e w2 (⟨M, j, v', hj, rfl, HP3, HM3⟩ | ⟨y, hy, rfl, HU3⟩)
  · have HJ := hide_ hj
    clear hj
    go_wp2
    go_end0
    exact .inl ⟨M, j, v', by rw [← HR.out]; unfold fieldP; rw [H1.out, bnd_ok, HJ.out], rfl, HP3, hide_ (HMva.out.trans HM3.out)⟩
  · have HJ := hide_ hy
    clear hy
    unfold Flt
    go_wp2
    exact ⟨rfl, .inr ⟨y, by rw [← HR.out]; unfold fieldP; rw [H1.out, bnd_ok, HJ.out], rfl, hide_ (HMva.out.upd HU3.out)⟩⟩
end Go.Proofs.YtafljgjkcnbhbaaDoor

/- parts. -/
namespace Go.Proofs.YtafljgjkcnbhbaaDoor
open Go.RowKit
set_option linter.unusedVariables false

/-- Behind fields or arms. -/
def PartsTo (w : World) (B g : Nat) (tv : Value) (ts : List Tk) (L : Nat) (v : Value) (N : List Nd) (r : PR (List Nd × Nat × Nat)) (e : Ending) (w' : World) : Prop :=
  (∃ M c j v', r = .ok (M, c, j) ∧ e = .returned (.int .i64 (c : Int)) ∧ Hid (Par w' B g tv ts L j v' (N ++ M.map (ndP ts L)) ∧ (N ++ M.map (ndP ts L)).length ≤ j) ∧ Hid (Mv g v v' w w')) ∨
  (∃ y, r = .error y ∧ e = Flt y.1 (plc ts L y.2) ∧ Hid (Upd (fun k => k = g ∨ v.ownBlock = some k) w w'))
set_option maxRecDepth 100000 in
set_option maxHeartbeats 4000000 in
theorem parts_arm {f : Nat} (hN : Hid (NodeOk f)) {w : World} {B g : Nat} {tv v : Value} {ts : List Tk} {L p : Nat} {N : List Nd} (HP : Hid (Par w B g tv ts L p v N)) (hl : N.length ≤ p) {bp bd : Nat} {d : Nat} (hd : d + 1 + f = 17) (HX : Hid (Boxes w bp bd g d)) :
    Calls Tryd.prog 76 #[.pointer (some ⟨g, 0, none⟩), .func (.func 77) #[] #[.pointer (some ⟨bp, 0, none⟩), .pointer (some ⟨bd, 0, none⟩)]] w fun e w' => PartsTo w B g tv ts L v N (partsP (ts.map core) (armP (ts.map core) (nodeP (ts.map core) f)) p) e w' := by
  obtain ⟨r, hr⟩ : ∃ r, partsP (ts.map core) (armP (ts.map core) (nodeP (ts.map core) f)) p = r := ⟨_, rfl⟩
  have HR := hide_ hr
  rw [hr]
  clear hr
  have hf1 := fld1
  go_enter Tryd.func76, Tryd.ntmps76
  go_wp2_with fail
  refine (text_any HP ⟨#[123]⟩ (by decide)).mono ?_; rintro e w1 (⟨i1, hj, rfl, HP1, HU⟩ | ⟨y, hy, rfl, HU⟩)
  case inr =>
    have HJ := hide_ hy
    clear hy
    unfold Flt
    go_wp2
    exact ⟨rfl, .inr ⟨y, by rw [← HR.out]; unfold partsP; rw [HJ.out, bnd_err], rfl, hide_ (Mv.of HU.out v).1⟩⟩
  have H1 := hide_ hj
  have hi1 := (tak_ok (by simpa only [txt] using hj)).1
  have HMv1 := hide_ (Mv.of HU.out v)
  have HX1 := hide_ (HX.out.upd HP.out HMv1.out.1)
  clear hj HU HX HP
  unfold tkv
  go_wp2_with fail
  have HOne := arm_any hN HP1 (by omega) hd HX1 0 (by omega)
  refine HOne.mono ?_; clear HOne; rintro e w2 (⟨M, i2, v2, hj, rfl, HPx, HMx⟩ | ⟨y, hy, rfl, HU⟩)
  case inr =>
    have HJ := hide_ hy
    clear hy
    unfold Flt
    go_wp2
    exact ⟨rfl, .inr ⟨y, by rw [← HR.out]; unfold partsP; rw [H1.out, bnd_ok, HJ.out, bnd_err], rfl, hide_ (HMv1.out.upd HU.out)⟩⟩
  have HRel : Hid (moreP (ts.map core) (armP (ts.map core) (nodeP (ts.map core) f)) 64 1 M i2 = r) := by
    show _ = _
    rw [← HR.out]; unfold partsP; rw [H1.out, bnd_ok, hj, bnd_ok]
  have HX2 := hide_ (HX1.out.upd HP1.out HMx.out.1)
  have HMv2 := hide_ (HMv1.out.trans HMx.out)
  clear hj HR H1 HMv1 HMx HP1 HX1 hi1 i1
  go_wp2_with fail
  go_loopw [5] (fun x5 wr => ∃ (c : Nat) (M : List Nd) (q : Nat) (v' : Value), x5 = .int .i64 (c : Int) ∧ 1 ≤ c ∧ c ≤ 64 ∧ Hid (moreP (ts.map core) (armP (ts.map core) (nodeP (ts.map core) f)) (65 - c) c M q = r) ∧ Hid (Par wr B g tv ts L q v' (N ++ M.map (ndP ts L)) ∧ (N ++ M.map (ndP ts L)).length ≤ q) ∧ Hid (Boxes wr bp bd g d) ∧ Hid (Mv g v v' w wr)) (fun x5 _ => 65 - (intOf x5).toNat)
  case atStart => exact ⟨1, M, i2, v2, rfl, Nat.le_refl _, by omega, HRel, HPx, HX2, HMv2⟩
  case round =>
    clear HRel HPx HX2 HMv2
    obtain ⟨c, M', q, v', rfl, hc1, hc64, HRl, HPq, HXq, HMq⟩ := hrel
    generalize wr = wq at *
    obtain ⟨fu, hfu⟩ : ∃ fu, 65 - c = fu + 1 := ⟨64 - c, by omega⟩
    rw [hfu] at HRl
    have HPp := hide_ HPq.out.1
    have hlq := HPq.out.2
    clear HPq
    have HTk := hide_ (token_any HPp)
    have HQ : Hid (decide ((tkAt ts L q).t = ⟨#[44]⟩) = isT ⟨#[44]⟩ (qAt (ts.map core) q)) := by show _ = _; rw [core_at ts L q]; rfl
    obtain ⟨x, hx⟩ : ∃ x, tkAt ts L q = x := ⟨_, rfl⟩
    rw [hx] at HTk HQ
    clear hx
    by_cases hx : x.t = ⟨#[44]⟩
    · have HT : Hid (isT ⟨#[44]⟩ (qAt (ts.map core) q) = true) := by show _ = _; rw [← HQ.out]; exact decide_eq_true hx
      have hxl : (x.t.toList == [44]) = true := by rw [hx, Lib.toList_data]; decide
      have HS : Hid (bnd (armP (ts.map core) (nodeP (ts.map core) f) c (q + 1)) (fun r => moreP (ts.map core) (armP (ts.map core) (nodeP (ts.map core) f)) fu (c + 1) (M' ++ r.1) r.2) = r) := by
        show _ = _
        have := HRl.out
        unfold moreP at this
        rw [if_pos HT.out] at this
        exact this
      clear HRl HQ
      go_wp2_with fail
      refine HTk.out.mono ?_; rintro e w3 ⟨rfl, hB3⟩
      have HP3 := hide_ (HPp.out.later hB3)
      have HX3 := hide_ (HXq.out.later hB3)
      have HM3 := hide_ (HMq.out.trans (Mv.of_below hB3 g v'))
      clear hB3 HTk HPp HXq HMq
      unfold tkv
      go_wp2_with fail
      refine (text_any HP3 ⟨#[44]⟩ (by decide)).mono ?_; rintro e w4 (⟨i4, hj, rfl, HP4, HU⟩ | ⟨y, hy, rfl, HU⟩)
      case inr =>
        exfalso
        unfold txt tak at hy
        rw [if_pos HT.out] at hy
        cases hy
      have hi4 : i4 = q + 1 := (tak_ok (by simpa only [txt] using hj)).1
      subst hi4
      have HX4 := hide_ (HX3.out.upd HP3.out (Mv.of HU.out v').1)
      have HM4 := hide_ (HM3.out.then HU.out)
      clear hj HU HX3 HP3 HM3 hxl hx HT
      go_wp2_with fail
      have HOne := arm_any hN HP4 (by omega) hd HX4 c hc64
      refine HOne.mono ?_; clear HOne; rintro e w5 (⟨M5, i5, v5, hj, rfl, HP5, HM5⟩ | ⟨y, hy, rfl, HU⟩)
      case inr =>
        have HJ := hide_ hy
        clear hy
        unfold Flt
        go_wp2
        exact ⟨rfl, .inr ⟨y, by rw [← HS.out, HJ.out, bnd_err], rfl, hide_ (HM4.out.upd HU.out)⟩⟩
      have hclt := arm_lt hj
      have hf64 : fu = 65 - (c + 1) := by omega
      have HR5 : Hid (moreP (ts.map core) (armP (ts.map core) (nodeP (ts.map core) f)) (65 - (c + 1)) (c + 1) (M' ++ M5) i5 = r) := by
        show _ = _
        rw [← HS.out, hj, bnd_ok, hf64]
      have HX5 := hide_ (HX4.out.upd HP4.out HM5.out.1)
      have HM6 := hide_ (HM4.out.trans HM5.out)
      have HP6 : Hid (Par w5 B g tv ts L i5 v5 (N ++ (M' ++ M5).map (ndP ts L)) ∧ (N ++ (M' ++ M5).map (ndP ts L)).length ≤ i5) := by
        have := HP5.out
        rw [List.map_append, ← List.append_assoc]
        exact this
      clear hj HS HX4 HM4 HP4 HM5 HP5 hf64 hfu
      go_wp2
      go_roundw
      case rel => exact ⟨c + 1, M' ++ M5, i5, v5, by go_num, by omega, by omega, HR5, HP6, HX5, HM6⟩
      case measure => simp [intOf]; omega
    · have HT : Hid (isT ⟨#[44]⟩ (qAt (ts.map core) q) = false) := by show _ = _; rw [← HQ.out]; exact decide_eq_false hx
      have hxl : (x.t.toList == [44]) = false := str_ne x.t [44] hx
      have HS : Hid (bnd (txt (ts.map core) ⟨#[125]⟩ q) (fun j => .ok (M', c, j)) = r) := by
        show _ = _
        have := HRl.out
        unfold moreP at this
        rw [if_neg (by rw [HT.out]; decide)] at this
        exact this
      clear HRl HQ
      go_wp2_with fail
      refine HTk.out.mono ?_; rintro e w3 ⟨rfl, hB3⟩
      have HP3 := hide_ (HPp.out.later hB3)
      have HM3 := hide_ (HMq.out.trans (Mv.of_below hB3 g v'))
      clear hB3 HTk HPp HXq HMq
      unfold tkv
      go_wp2_with fail
      refine (text_any HP3 ⟨#[125]⟩ (by decide)).mono ?_; rintro e w4 (⟨i4, hj, rfl, HP4, HU⟩ | ⟨y, hy, rfl, HU⟩)
      case inr =>
        have HJ := hide_ hy
        clear hy
        unfold Flt
        go_wp2
        exact ⟨rfl, .inr ⟨y, by rw [← HS.out, HJ.out, bnd_err], rfl, hide_ (HM3.out.upd (Mv.of HU.out v').1)⟩⟩
      have hi4 : i4 = q + 1 := (tak_ok (by simpa only [txt] using hj)).1
      have HJ := hide_ hj
      clear hj
      go_wp2
      go_ret
      exact .inl ⟨M', c, i4, v', by rw [← HS.out, HJ.out, bnd_ok], rfl, hide_ ⟨HP4.out, by omega⟩, hide_ (HM3.out.then HU.out)⟩
set_option maxRecDepth 100000 in
set_option maxHeartbeats 4000000 in
theorem parts_field {f : Nat} (hN : Hid (NodeOk f)) {w : World} {B g : Nat} {tv v : Value} {ts : List Tk} {L p : Nat} {N : List Nd} (HP : Hid (Par w B g tv ts L p v N)) (hl : N.length ≤ p) {bp bd : Nat} {d : Nat} (hd : d + 1 + f = 17) (HX : Hid (Boxes w bp bd g d)) :
    Calls Tryd.prog 76 #[.pointer (some ⟨g, 0, none⟩), .func (.func 80) #[] #[.pointer (some ⟨bp, 0, none⟩), .pointer (some ⟨bd, 0, none⟩)]] w fun e w' => PartsTo w B g tv ts L v N (partsP (ts.map core) (fieldP (ts.map core) (nodeP (ts.map core) f)) p) e w' := by
  obtain ⟨r, hr⟩ : ∃ r, partsP (ts.map core) (fieldP (ts.map core) (nodeP (ts.map core) f)) p = r := ⟨_, rfl⟩
  have HR := hide_ hr
  rw [hr]
  clear hr
  have hf1 := fld1
  go_enter Tryd.func76, Tryd.ntmps76
  go_wp2_with fail
  refine (text_any HP ⟨#[123]⟩ (by decide)).mono ?_; rintro e w1 (⟨i1, hj, rfl, HP1, HU⟩ | ⟨y, hy, rfl, HU⟩)
  case inr =>
    have HJ := hide_ hy
    clear hy
    unfold Flt
    go_wp2
    exact ⟨rfl, .inr ⟨y, by rw [← HR.out]; unfold partsP; rw [HJ.out, bnd_err], rfl, hide_ (Mv.of HU.out v).1⟩⟩
  have H1 := hide_ hj
  have hi1 := (tak_ok (by simpa only [txt] using hj)).1
  have HMv1 := hide_ (Mv.of HU.out v)
  have HX1 := hide_ (HX.out.upd HP.out HMv1.out.1)
  clear hj HU HX HP
  unfold tkv
  go_wp2_with fail
  have HOne := field_any hN HP1 (by omega) hd HX1 0 (by omega)
  refine HOne.mono ?_; clear HOne; rintro e w2 (⟨M, i2, v2, hj, rfl, HPx, HMx⟩ | ⟨y, hy, rfl, HU⟩)
  case inr =>
    have HJ := hide_ hy
    clear hy
    unfold Flt
    go_wp2
    exact ⟨rfl, .inr ⟨y, by rw [← HR.out]; unfold partsP; rw [H1.out, bnd_ok, HJ.out, bnd_err], rfl, hide_ (HMv1.out.upd HU.out)⟩⟩
  have HRel : Hid (moreP (ts.map core) (fieldP (ts.map core) (nodeP (ts.map core) f)) 64 1 M i2 = r) := by
    show _ = _
    rw [← HR.out]; unfold partsP; rw [H1.out, bnd_ok, hj, bnd_ok]
  have HX2 := hide_ (HX1.out.upd HP1.out HMx.out.1)
  have HMv2 := hide_ (HMv1.out.trans HMx.out)
  clear hj HR H1 HMv1 HMx HP1 HX1 hi1 i1
  go_wp2_with fail
  go_loopw [5] (fun x5 wr => ∃ (c : Nat) (M : List Nd) (q : Nat) (v' : Value), x5 = .int .i64 (c : Int) ∧ 1 ≤ c ∧ c ≤ 64 ∧ Hid (moreP (ts.map core) (fieldP (ts.map core) (nodeP (ts.map core) f)) (65 - c) c M q = r) ∧ Hid (Par wr B g tv ts L q v' (N ++ M.map (ndP ts L)) ∧ (N ++ M.map (ndP ts L)).length ≤ q) ∧ Hid (Boxes wr bp bd g d) ∧ Hid (Mv g v v' w wr)) (fun x5 _ => 65 - (intOf x5).toNat)
  case atStart => exact ⟨1, M, i2, v2, rfl, Nat.le_refl _, by omega, HRel, HPx, HX2, HMv2⟩
  case round =>
    clear HRel HPx HX2 HMv2
    obtain ⟨c, M', q, v', rfl, hc1, hc64, HRl, HPq, HXq, HMq⟩ := hrel
    generalize wr = wq at *
    obtain ⟨fu, hfu⟩ : ∃ fu, 65 - c = fu + 1 := ⟨64 - c, by omega⟩
    rw [hfu] at HRl
    have HPp := hide_ HPq.out.1
    have hlq := HPq.out.2
    clear HPq
    have HTk := hide_ (token_any HPp)
    have HQ : Hid (decide ((tkAt ts L q).t = ⟨#[44]⟩) = isT ⟨#[44]⟩ (qAt (ts.map core) q)) := by show _ = _; rw [core_at ts L q]; rfl
    obtain ⟨x, hx⟩ : ∃ x, tkAt ts L q = x := ⟨_, rfl⟩
    rw [hx] at HTk HQ
    clear hx
    by_cases hx : x.t = ⟨#[44]⟩
    · have HT : Hid (isT ⟨#[44]⟩ (qAt (ts.map core) q) = true) := by show _ = _; rw [← HQ.out]; exact decide_eq_true hx
      have hxl : (x.t.toList == [44]) = true := by rw [hx, Lib.toList_data]; decide
      have HS : Hid (bnd (fieldP (ts.map core) (nodeP (ts.map core) f) c (q + 1)) (fun r => moreP (ts.map core) (fieldP (ts.map core) (nodeP (ts.map core) f)) fu (c + 1) (M' ++ r.1) r.2) = r) := by
        show _ = _
        have := HRl.out
        unfold moreP at this
        rw [if_pos HT.out] at this
        exact this
      clear HRl HQ
      go_wp2_with fail
      refine HTk.out.mono ?_; rintro e w3 ⟨rfl, hB3⟩
      have HP3 := hide_ (HPp.out.later hB3)
      have HX3 := hide_ (HXq.out.later hB3)
      have HM3 := hide_ (HMq.out.trans (Mv.of_below hB3 g v'))
      clear hB3 HTk HPp HXq HMq
      unfold tkv
      go_wp2_with fail
      refine (text_any HP3 ⟨#[44]⟩ (by decide)).mono ?_; rintro e w4 (⟨i4, hj, rfl, HP4, HU⟩ | ⟨y, hy, rfl, HU⟩)
      case inr =>
        exfalso
        unfold txt tak at hy
        rw [if_pos HT.out] at hy
        cases hy
      have hi4 : i4 = q + 1 := (tak_ok (by simpa only [txt] using hj)).1
      subst hi4
      have HX4 := hide_ (HX3.out.upd HP3.out (Mv.of HU.out v').1)
      have HM4 := hide_ (HM3.out.then HU.out)
      clear hj HU HX3 HP3 HM3 hxl hx HT
      go_wp2_with fail
      have HOne := field_any hN HP4 (by omega) hd HX4 c hc64
      refine HOne.mono ?_; clear HOne; rintro e w5 (⟨M5, i5, v5, hj, rfl, HP5, HM5⟩ | ⟨y, hy, rfl, HU⟩)
      case inr =>
        have HJ := hide_ hy
        clear hy
        unfold Flt
        go_wp2
        exact ⟨rfl, .inr ⟨y, by rw [← HS.out, HJ.out, bnd_err], rfl, hide_ (HM4.out.upd HU.out)⟩⟩
      have hclt := field_lt hj
      have hf64 : fu = 65 - (c + 1) := by omega
      have HR5 : Hid (moreP (ts.map core) (fieldP (ts.map core) (nodeP (ts.map core) f)) (65 - (c + 1)) (c + 1) (M' ++ M5) i5 = r) := by
        show _ = _
        rw [← HS.out, hj, bnd_ok, hf64]
      have HX5 := hide_ (HX4.out.upd HP4.out HM5.out.1)
      have HM6 := hide_ (HM4.out.trans HM5.out)
      have HP6 : Hid (Par w5 B g tv ts L i5 v5 (N ++ (M' ++ M5).map (ndP ts L)) ∧ (N ++ (M' ++ M5).map (ndP ts L)).length ≤ i5) := by
        have := HP5.out
        rw [List.map_append, ← List.append_assoc]
        exact this
      clear hj HS HX4 HM4 HP4 HM5 HP5 hf64 hfu
      go_wp2
      go_roundw
      case rel => exact ⟨c + 1, M' ++ M5, i5, v5, by go_num, by omega, by omega, HR5, HP6, HX5, HM6⟩
      case measure => simp [intOf]; omega
    · have HT : Hid (isT ⟨#[44]⟩ (qAt (ts.map core) q) = false) := by show _ = _; rw [← HQ.out]; exact decide_eq_false hx
      have hxl : (x.t.toList == [44]) = false := str_ne x.t [44] hx
      have HS : Hid (bnd (txt (ts.map core) ⟨#[125]⟩ q) (fun j => .ok (M', c, j)) = r) := by
        show _ = _
        have := HRl.out
        unfold moreP at this
        rw [if_neg (by rw [HT.out]; decide)] at this
        exact this
      clear HRl HQ
      go_wp2_with fail
      refine HTk.out.mono ?_; rintro e w3 ⟨rfl, hB3⟩
      have HP3 := hide_ (HPp.out.later hB3)
      have HM3 := hide_ (HMq.out.trans (Mv.of_below hB3 g v'))
      clear hB3 HTk HPp HXq HMq
      unfold tkv
      go_wp2_with fail
      refine (text_any HP3 ⟨#[125]⟩ (by decide)).mono ?_; rintro e w4 (⟨i4, hj, rfl, HP4, HU⟩ | ⟨y, hy, rfl, HU⟩)
      case inr =>
        have HJ := hide_ hy
        clear hy
        unfold Flt
        go_wp2
        exact ⟨rfl, .inr ⟨y, by rw [← HS.out, HJ.out, bnd_err], rfl, hide_ (HM3.out.upd (Mv.of HU.out v').1)⟩⟩
      have hi4 : i4 = q + 1 := (tak_ok (by simpa only [txt] using hj)).1
      have HJ := hide_ hj
      clear hj
      go_wp2
      go_ret
      exact .inl ⟨M', c, i4, v', by rw [← HS.out, HJ.out, bnd_ok], rfl, hide_ ⟨HP4.out, by omega⟩, hide_ (HM3.out.then HU.out)⟩
end Go.Proofs.YtafljgjkcnbhbaaDoor
