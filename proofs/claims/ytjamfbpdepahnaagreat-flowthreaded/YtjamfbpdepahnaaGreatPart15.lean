import Derived.Test.YtjamfbpdepahnaaGreatPart14
import Derived.Test.YtjamfbpdepahnaaGreatPart05
import Derived.Test.YtjamfbpdepahnaaGreatPart12
import Derived.Test.YtjamfbpdepahnaaGreatPart01
import Derived.Test.YtjamfbpdepahnaaGreatPart13
namespace Go.Proofs.YtjamfbpdepahnaaGreat
open Go.RowKit
set_option linter.unusedVariables false
set_option linter.unusedSimpArgs false
theorem elN : Elem Tryz.prog 70 3 .i64 8 := ⟨Tryz.underlying70, Tryz.underlying3, by kernel_rfl⟩
def PuTo (w : World) (b o B : Nat) (v : Value) (l : List Int) (x : Int) (e : Ending) (w' : World) : Prop := ∃ g c, e = .returned (.tuple #[]) ∧ l.length + 1 ≤ c ∧ (v.ownBlock = some g ∨ w.heap.size ≤ g) ∧ NmS w' b o B (.slice (some ⟨g, 0, none⟩) (l.length + 1) c) (l ++ [x]) ∧ Upd (fun k => v.ownBlock = some k ∨ k = b) w w' ∧ Kps w w' b o (.slice (some ⟨g, 0, none⟩) (l.length + 1) c)
theorem NmS.push {w : World} {b o B : Nat} {v : Value} {l : List Int} (h : NmS w b o B v l) (x : Int) (hl : l.length < 4000000) (hB : B ≤ w.heap.size) :
    ∃ g c w', (Builtin.append_ #[70, 70] 70 #[v, .slice (some ⟨w.heap.size, 0, none⟩) 1 1]).run Tryz.prog (w.alloc (.cells #[.int .i64 x] 3)) = .ok (.slice (some ⟨g, 0, none⟩) (l.length + 1) c) w' ∧
      w'.cell? ⟨b, o, none⟩ = some v ∧ w'.frozen? ⟨b, o, none⟩ = false ∧ PuTo w b o B v l x (.returned (.tuple #[])) (w'.setCell ⟨b, o, none⟩ (.slice (some ⟨g, 0, none⟩) (l.length + 1) c)) := by
  obtain ⟨g, c, w', h1, h2, h3, h4⟩ := run_push elN w 70 B v l.length l h.own x (by unfold maxLen; omega) (by omega) hB
  have hb : ¬ v.ownBlock = some b := fun e => h.ne b e rfl
  have hg : g ≠ b := by
    rcases h4 with h4 | h4
    · exact h.ne g h4
    · have := h.lt; omega
  have c1 : w'.cell? ⟨b, o, none⟩ = some v := by
    rw [World.cell?_of_block (w := w) (h3.block b h.lt hb)]
    exact h.cell
  have f1 : w'.frozen? ⟨b, o, none⟩ = false := by
    rw [World.frozen?_of_block (w := w) (h3.block b h.lt hb)]
    exact h.fz
  have ho : IOwn w' B (.slice (some ⟨g, 0, none⟩) (l.length + 1) c) (l ++ [x]) := by
    unfold IOwn
    rw [List.length_append, List.length_singleton]
    exact h2
  have hU : Upd (fun k => k = b) w' (w'.setCell ⟨b, o, none⟩ (.slice (some ⟨g, 0, none⟩) (l.length + 1) c)) := (Upd.refl (fun k => k = b) w').set _ _ (.inl rfl)
  refine ⟨g, c, w', h1, c1, f1, g, c, rfl, ?_, h4, ⟨?_, ?_, ho.upd hU (fun k e => ?_), fun k e => ?_, Nat.lt_of_lt_of_le (Nat.lt_of_lt_of_le h.lt h3.size) hU.size⟩, (h3.mono (fun k _ e => .inl e)).trans hU (fun k _ e => .inr e), fun t xs hk => (hk.upd h3 hb).set o _⟩
  · obtain ⟨a', c', e, -, -, h6⟩ := ho.row
    injection e with _ _ e
    subst e
    simpa using h6
  · exact World.cell?_setCell_same _ _ _ c1
  · rw [World.frozen?_setCell]; exact f1
  · injection e with e
    subst e
    exact hg
  · injection e with e
    subst e
    exact hg
set_option maxRecDepth 100000 in
set_option maxHeartbeats 8000000 in
theorem nPush_any (b o B : Nat) (v : Value) (l : List Int) (x : Int) (w : World) (hl : l.length < 4000000) (hB : B ≤ w.heap.size) (h : Hid (NmS w b o B v l)) :
    Calls Tryz.prog 140 #[.pointer (some ⟨b, o, none⟩), .iface 3 (.int .i64 x)] w fun e w' => PuTo w b o B v l x e w' := by
  have c0 : w.drew.cell? ⟨b, o, none⟩ = some v := h.out.cell
  obtain ⟨g, c, w1, h1, c1, f1, h2⟩ := h.out.drew.push x hl hB
  have HRun := hide_ h1
  have HX : Hid (PuTo w b o B v l x (.returned (.tuple #[])) (w1.setCell ⟨b, o, none⟩ (.slice (some ⟨g, 0, none⟩) (l.length + 1) c))) := hide_ (by
    obtain ⟨g', c', e1, e2, e5, e3, e4, e6⟩ := h2
    exact ⟨g', c', e1, e2, e5, e3, Upd.trans ((Upd.refl _ w).then ((Below.refl _ _).drew)) e4 (fun _ _ e => e), fun t xs hk => e6 t xs hk.drew⟩)
  have HS6 : Hid ((w.drew.alloc (.cells #[.int .i64 x] 3)).cell? ⟨b, o, none⟩ = some v) := hide_ (by
    rw [World.cell?_alloc_old _ _ _ (by exact Nat.ne_of_lt h.out.lt)]
    exact c0)
  have tA : ∀ (t : TypeId) (w' : World), Sem.run Tryz.prog (Instr.typeAssert (.iface 3 (.int .i64 x)) t 3 false) w' = .ok (.int .i64 x) w' := fun t w' => by rfl
  clear h1 h2
  go_enter Tryz.func140, Tryz.ntmps140
  go_wp2_with fail
  refine wp_region_last 9 (fun w' => w'.cell? ⟨b, o, none⟩ = some v) (by kernel_rfl) (c0) (fun hHeld => ?_)
  refine wpAnyF_take [9] (by kernel_rfl) (i := 0) (v := ?vp1) rfl (by kernel_rfl) (by kernel_rfl) (by kernel_rfl) (fun _ _ _ h => h) (Or.inl ⟨by kernel_rfl, ?hyp1⟩) hHeld ?restp1
  case hyp1 => intro w' hSw; (try dsimp only at hSw); go_simp; try with_reducible rfl
  simp only [Act.put]
  try dsimp only
  refine wpAnyF_take [9] (by kernel_rfl) (i := 1) (v := ?vp2) rfl (by kernel_rfl) (by kernel_rfl) (by kernel_rfl) (fun _ _ _ h => h) (Or.inl ⟨by kernel_rfl, ?hyp2⟩) hHeld ?restp2
  case hyp2 => intro w' hSw; (try dsimp only at hSw); go_simp; try with_reducible rfl
  simp only [Act.put]
  try dsimp only
  refine wpAnyF_take [9] (by kernel_rfl) (i := 2) (v := ?vp3) rfl (by kernel_rfl) (by kernel_rfl) (by kernel_rfl) (fun _ _ _ h => h) (Or.inl ⟨by kernel_rfl, ?hyp3⟩) hHeld ?restp3
  case hyp3 => intro w' hSw; (try dsimp only at hSw); go_simp; try with_reducible rfl
  simp only [Act.put]
  try dsimp only
  refine wpAnyF_take [9] (by kernel_rfl) (i := 3) (v := ?vp4) rfl (by kernel_rfl) (by kernel_rfl) (by kernel_rfl) (fun _ _ _ h => h) (Or.inl ⟨by kernel_rfl, ?hyp4⟩) hHeld ?restp4
  case hyp4 => intro w' hSw; (try dsimp only at hSw); go_simp; try with_reducible rfl
  simp only [Act.put]
  try dsimp only
  refine wpAnyF_take [9] (by kernel_rfl) (i := 4) (v := ?vp5) rfl (by kernel_rfl) (by kernel_rfl) (by kernel_rfl) (fun _ _ _ h => h) (Or.inl ⟨by kernel_rfl, ?hyp5⟩) hHeld ?restp5
  case hyp5 => intro w' hSw; (try dsimp only at hSw); go_simp; try with_reducible rfl
  simp only [Act.put]
  try dsimp only
  refine wpAnyF_take [9] (by kernel_rfl) (i := 5) (v := ?vp6) rfl (by kernel_rfl) (by kernel_rfl) (by kernel_rfl) (fun _ _ _ h => h) (Or.inl ⟨by kernel_rfl, ?hyp6⟩) hHeld ?restp6
  case hyp6 => intro w' hSw; (try dsimp only at hSw); go_simp; try with_reducible rfl
  simp only [Act.put]
  try dsimp only
  refine wpAnyF_ready (rs := [6]) (by kernel_rfl) (by simp) ?_
  refine AllReadyF.cons rfl (fun K hK => ?_) AllReadyF.nil
  go_simp
  refine hK.out _ _ (HS6.out) (fun hHeld => ?_)
  clear hK K
  refine wpAnyF_ready (rs := [7]) (by kernel_rfl) (by simp) ?_
  refine AllReadyF.cons rfl (fun K hK => ?_) AllReadyF.nil
  refine step_append_run rfl (.tmp 7) (.tmp 10) 70 70 rfl (v := v) (u := .slice (some ⟨w.drew.heap.size, 0, none⟩) 1 1) (by kernel_rfl) (by kernel_rfl) HRun.out ?_
  simp only [Act.put]
  refine hK.out _ _ (c1) (fun hHeld => ?_)
  clear hK K
  refine wpAnyF_take [9] (by kernel_rfl) (i := 8) (v := ?vp7) rfl (by kernel_rfl) (by kernel_rfl) (by kernel_rfl) (fun _ _ _ h => h) (Or.inl ⟨by kernel_rfl, ?hyp7⟩) hHeld ?restp7
  case hyp7 => intro w' hSw; (try dsimp only at hSw); go_simp; try with_reducible rfl
  simp only [Act.put]
  try dsimp only
  refine wpAnyF_ready (rs := [9]) (by kernel_rfl) (by simp) ?_
  refine AllReadyF.last rfl (fun K hK => ?_)
  go_simp
  refine hK.out _ _ ?_
  clear hK K
  refine wpAnyF_done (by kernel_rfl) ?_ _
  go_wp2_with fail
  go_end0
  exact HX.out
def HuTo (w : World) (b o B : Nat) (v : Value) (l : List Int) (x : Int) (e : Ending) (w' : World) : Prop := ∃ g c, e = .returned (.tuple #[]) ∧ l.length + 1 ≤ c ∧ (v.ownBlock = some g ∨ w.heap.size ≤ g) ∧ NmS w' b o B (.slice (some ⟨g, 0, none⟩) (l.length + 1) c) (pushH l x) ∧ Upd (fun k => v.ownBlock = some k ∨ k = b) w w' ∧ Kps w w' b o (.slice (some ⟨g, 0, none⟩) (l.length + 1) c)
set_option maxRecDepth 100000 in
set_option maxHeartbeats 8000000 in
theorem hPush_any (b o B : Nat) (v : Value) (l : List Int) (x : Int) (w : World) (hl : l.length < 4000000) (hB : B ≤ w.heap.size) (h : Hid (NmS w b o B v l)) :
    Calls Tryz.prog 77 #[.iface 104 (.pointer (some ⟨b, o, none⟩)), .iface 3 (.int .i64 x)] w fun e w' => HuTo w b o B v l x e w' := by
  have mP : Sem.run Tryz.prog (method 282 104 (.pointer (some ⟨b, o, none⟩)) "Push") w = .ok (140, .pointer (some ⟨b, o, none⟩)) w := mPtr hm3 hf3 281 b o w
  have eP := enPush
  have eN := enLen
  have HP := hide_ (nPush_any b o B v l x w hl hB h)
  go_enter Tryz.func77, Tryz.ntmps77
  go_wp2_with fail
  refine HP.out.mono ?_
  rintro e w1 ⟨g, c, rfl, hc, hg, hS1, hU1, hK1⟩
  have HK1 := hide_ hK1
  have Hne := hide_ (hS1.ne g rfl)
  have HS1 := hide_ hS1
  have HU1 := hide_ hU1
  have HG := hide_ hg
  clear mP HP eP h hS1 hU1 hg hK1
  have c1 := HS1.out.cell
  have mN : Sem.run Tryz.prog (method 282 104 (.pointer (some ⟨b, o, none⟩)) "Len") w1 = .ok (117, .slice (some ⟨g, 0, none⟩) (l.length + 1) c) w1 := mVal hm0 hf0 281 b o (some ⟨g, 0, none⟩) (l.length + 1) c w1 c1
  have HN := hide_ (nLen_any (some ⟨g, 0, none⟩) (l.length + 1) c w1)
  have hw1 : IntKind.i64.wrap ((l.length : Int) + 1 - 1) = (l.length : Int) := by rw [i64w _ (by omega)]; omega
  have e0 : (l ++ [x]).length = l.length + 1 := by rw [List.length_append, List.length_singleton]
  have HUp := hide_ (up_any b o B g c (l ++ [x]) l.length w1 (by rw [e0]; omega) (by rw [e0]; omega) (by rw [e0]; exact hc) (by rw [e0]; exact HS1))
  rw [e0] at HUp
  clear e0
  go_wp2_with fail
  refine HN.out.mono ?_
  rintro e w0 ⟨rfl, rfl⟩
  clear mN HN eN c1
  go_wp2_with fail
  refine HUp.out.mono ?_
  rintro e w3 ⟨rfl, hS3, hU3⟩
  have HX : Hid (HuTo w b o B v l x (.returned (.tuple #[])) w3) := hide_ (by
    refine ⟨g, c, rfl, hc, HG.out, hS3, HU1.out.trans hU3 (fun k hk e => ?_), fun t xs hk => (HK1.out t xs hk).upd hU3 (fun e => ?_)⟩
    · injection e with e
      subst e
      rcases HG.out with h | h
      · exact .inl h
      · exact absurd hk (Nat.not_lt.mpr h)
    · injection e with e
      exact Hne.out e)
  clear hS3 hU3 HUp
  go_wp2_with fail
  go_end0
  exact HX.out
theorem retSt {fn : Func} {p : Tmp} (h : fn.results = #[.cell p 101]) {R : Ending → World → Prop} {tmps : Array Value} {g : Nat} {w : World} (s : St) (hp : tmps.getD p undef = .pointer (some ⟨g, 0, none⟩)) (hK : Blk w g 101 (stc s)) (hR : R (.returned (stv s)) w) :
    bodyPost Tryz.prog fn R Exit.ret ⟨tmps, []⟩ w :=
  bodyPost_ret (results_cell_row h _ _ _ _ #[.int .i64 s.pl, .int .u64 (s.ki : Int), .int .i64 s.tb, .int .i64 s.pa, .int .i64 s.fr, .int .i64 s.le, .bool s.su] _ _ hp (show w.heap[g]? = some (.cells _ 101 (0, 0)) from hK) Tryz.underlying101 rfl (by show _ = some 7; kernel_rfl)) rfl hR
theorem retSb {fn : Func} {p u : Tmp} (h : fn.results = #[.cell p 101, .tmp u]) {R : Ending → World → Prop} {tmps : Array Value} {g : Nat} {w : World} {v : Value} (s : St) (hu : tmps.getD u undef = v) (hp : tmps.getD p undef = .pointer (some ⟨g, 0, none⟩)) (hK : Blk w g 101 (stc s)) (hR : R (.returned (.tuple #[stv s, v])) w) :
    bodyPost Tryz.prog fn R Exit.ret ⟨tmps, []⟩ w :=
  bodyPost_ret (results_cell_tmp_row h _ _ _ _ #[.int .i64 s.pl, .int .u64 (s.ki : Int), .int .i64 s.tb, .int .i64 s.pa, .int .i64 s.fr, .int .i64 s.le, .bool s.su] _ _ hp (show w.heap[g]? = some (.cells _ 101 (0, 0)) from hK) Tryz.underlying101 rfl (by show _ = some 7; kernel_rfl)) rfl (by rw [hu]; exact hR)
def putS (w : World) (g : Nat) (s : St) : World := ((((((w.setCell ⟨g, 0, none⟩ (.int .i64 s.pl)).setCell ⟨g, 1, none⟩ (.int .u64 (s.ki : Int))).setCell ⟨g, 2, none⟩ (.int .i64 s.tb)).setCell ⟨g, 3, none⟩ (.int .i64 s.pa)).setCell ⟨g, 4, none⟩ (.int .i64 s.fr)).setCell ⟨g, 5, none⟩ (.int .i64 s.le)).setCell ⟨g, 6, none⟩ (.bool s.su)
theorem Blk.putS {w : World} {g : Nat} {t : St} (h : Blk w g 101 (stc t)) (s : St) : Blk (putS w g s) g 101 (stc s) := by
  have := ((((((h.set 0 (.int .i64 s.pl)).set 1 (.int .u64 (s.ki : Int))).set 2 (.int .i64 s.tb)).set 3 (.int .i64 s.pa)).set 4 (.int .i64 s.fr)).set 5 (.int .i64 s.le)).set 6 (.bool s.su)
  simpa [stc, Go.Proofs.YtjamfbpdepahnaaGreat.putS] using this
theorem below_putS {B : Nat} {w w' : World} (h : Below B w w') (g : Nat) (s : St) (hb : B ≤ g) : Below B w (putS w' g s) := by
  unfold putS
  exact below_set (below_set (below_set (below_set (below_set (below_set (below_set h _ _ _ hb) _ _ _ hb) _ _ _ hb) _ _ _ hb) _ _ _ hb) _ _ _ hb) _ _ _ hb
set_option maxRecDepth 100000 in
set_option maxHeartbeats 4000000 in
theorem left_any (n : Int) (w : World) : Calls Tryz.prog 126 #[.int .i64 n] w fun e w' => e = .returned (stv (leftP n)) ∧ Below w.heap.size w w' := by
  go_enter Tryz.func126, Tryz.ntmps126
  go_wp2
  trace_state
  refine retSt rfl (leftP n) rfl (Blk.newA w _ _) ?_
  exact ⟨rfl, below1 _ _⟩
set_option maxRecDepth 100000 in
set_option maxHeartbeats 4000000 in
theorem seq_any (b : Bool) (w : World) : Calls Tryz.prog 125 #[.bool b] w fun e w' => e = .returned (stv (seqP b)) ∧ Below w.heap.size w w' := by
  go_enter Tryz.func125, Tryz.ntmps125
  go_wp2
  refine retSt rfl (seqP b) rfl (Blk.newA w _ _) ?_
  exact ⟨rfl, below1 _ _⟩
theorem Blk.cs {w : World} {g : Nat} {s : St} (h : Blk w g 101 (stc s)) :
    w.cell? ⟨g, 0, none⟩ = some (.int .i64 s.pl) ∧ w.cell? ⟨g, 1, none⟩ = some (.int .u64 (s.ki : Int)) ∧ w.cell? ⟨g, 2, none⟩ = some (.int .i64 s.tb) ∧ w.cell? ⟨g, 3, none⟩ = some (.int .i64 s.pa) ∧ w.cell? ⟨g, 4, none⟩ = some (.int .i64 s.fr) ∧ w.cell? ⟨g, 5, none⟩ = some (.int .i64 s.le) ∧ w.cell? ⟨g, 6, none⟩ = some (.bool s.su) := by
  have c0 := h.cell 0; have c1 := h.cell 1; have c2 := h.cell 2; have c3 := h.cell 3; have c4 := h.cell 4; have c5 := h.cell 5; have c6 := h.cell 6
  simp [stc] at c0 c1 c2 c3 c4 c5 c6
  exact ⟨c0, c1, c2, c3, c4, c5, c6⟩
def box2 (w : World) (s : St) : World := (w.alloc (.cells #[.int .i64 s.pl, .int .u64 (s.ki : Int), .int .i64 s.tb, .int .i64 s.pa, .int .i64 s.fr, .int .i64 s.le, .bool s.su] 101)).alloc (.cells #[.int .i64 0, .int .u64 0, .int .i64 0, .int .i64 0, .int .i64 0, .int .i64 0, .bool false] 101)
theorem box2_ok (w : World) (s : St) : Below w.heap.size w (box2 w s) ∧ Blk (box2 w s) w.heap.size 101 (stc s) ∧ Blk (box2 w s) (w.heap.size + 1) 101 (stc st0) ∧ w.heap.size + 2 ≤ (box2 w s).heap.size :=
  ⟨below2 _ _ _, (blk2 w _ _ _ _).1, (blk2 w _ _ _ _).2, by simp [box2]⟩
set_option maxRecDepth 100000 in
set_option maxHeartbeats 4000000 in
theorem take_a (s : St) (many : Int) (w : World) (hm : 0 ≤ many ∧ many ≤ 100000000) (h6 : s.pl = 6 ∧ many = 1) (hs : -100000000 ≤ s.le ∧ s.le ≤ 100000000) : Calls Tryz.prog 127 #[stv s, .int .i64 many] w fun e w' => e = .returned (.tuple #[stv (takeP s many).1, .bool (takeP s many).2]) ∧ Below w.heap.size w w' := by
  obtain ⟨B2, K1, K2, hz⟩ := box2_ok w s
  obtain ⟨w2, hw2⟩ : ∃ wx, box2 w s = wx := ⟨_, rfl⟩
  rw [hw2] at B2 K1 K2 hz
  have HB2 := hide_ B2
  have HK1 := hide_ K1
  have HK2 := hide_ K2
  obtain ⟨c0, c1, c2, c3, c4, c5, c6⟩ := K1.cs
  have fr1 := fun i => K1.frozen i
  unfold box2 at hw2
  have HC := hide_ (left_any 0 w2)
  have hr : takeP s many = (leftP 0, true) := by unfold takeP; rw [if_pos h6]
  rw [hr]
  obtain ⟨h6, rfl⟩ := h6
  rw [h6] at c0
  clear B2 K1 K2 hr h6
  unfold stv
  go_enter Tryz.func127, Tryz.ntmps127
  go_upto_region 1 with fail
  clear hw2
  go_wp2_with fail
  refine HC.out.mono ?_; rintro e w3 ⟨rfl, hB3⟩
  have K3 := HK2.out.later hB3
  have fr := fun i => K3.frozen i
  obtain ⟨d0, d1, d2, d3, d4, d5, d6⟩ := K3.cs
  unfold stv leftP
  go_wp2
  refine retSb rfl (leftP 0) rfl rfl (K3.putS (leftP 0)) ?_
  exact ⟨rfl, below_putS (below_to HB2.out hB3) _ (leftP 0) (by omega)⟩
set_option maxRecDepth 100000 in
set_option maxHeartbeats 4000000 in
theorem take_b (s : St) (many : Int) (w : World) (hm : 0 ≤ many ∧ many ≤ 100000000) (h6 : ¬ (s.pl = 6 ∧ many = 1)) (h7 : s.pl = 7) (hs : -100000000 ≤ s.le ∧ s.le ≤ 100000000) : Calls Tryz.prog 127 #[stv s, .int .i64 many] w fun e w' => e = .returned (.tuple #[stv (takeP s many).1, .bool (takeP s many).2]) ∧ Below w.heap.size w w' := by
  obtain ⟨B2, K1, K2, hz⟩ := box2_ok w s
  obtain ⟨w2, hw2⟩ : ∃ wx, box2 w s = wx := ⟨_, rfl⟩
  rw [hw2] at B2 K1 K2 hz
  have HB2 := hide_ B2
  have HK1 := hide_ K1
  have HK2 := hide_ K2
  obtain ⟨c0, c1, c2, c3, c4, c5, c6⟩ := K1.cs
  have fr1 := fun i => K1.frozen i
  unfold box2 at hw2
  obtain ⟨le, hle⟩ : ∃ r, s.le - many = r := ⟨_, rfl⟩
  have hle2 : IntKind.i64.wrap (s.le - many) = le := by rw [hle]; exact i64w _ (by omega)
  have hr : takeP s many = (⟨7, s.ki, s.tb, s.pa, s.fr, le, s.su⟩, decide (0 ≤ le)) := by unfold takeP; rw [if_neg h6, if_pos h7, hle]
  rw [hr]
  rw [h7] at c0
  obtain ⟨d0, d1, d2, d3, d4, d5, d6⟩ := K2.cs
  have fr2 := fun i => K2.frozen i
  clear B2 K1 K2 hr h6
  unfold stv
  go_enter Tryz.func127, Tryz.ntmps127
  go_upto_region 1 with fail
  clear hw2
  go_wp2_with fail
  go_region
  all_goals
    go_wp2
    refine retSb rfl ⟨7, s.ki, s.tb, s.pa, s.fr, le, s.su⟩ rfl rfl (Blk.drew (blk2 w _ _ _ _).2) ?_
    exact ⟨rfl, (below2 _ _ _).drew⟩
set_option maxRecDepth 100000 in
set_option maxHeartbeats 4000000 in
theorem take_c (s : St) (many : Int) (w : World) (hm : 0 ≤ many ∧ many ≤ 100000000) (h6 : ¬ (s.pl = 6 ∧ many = 1)) (h7 : s.pl ≠ 7) (hs : -100000000 ≤ s.le ∧ s.le ≤ 100000000) : Calls Tryz.prog 127 #[stv s, .int .i64 many] w fun e w' => e = .returned (.tuple #[stv (takeP s many).1, .bool (takeP s many).2]) ∧ Below w.heap.size w w' := by
  obtain ⟨B2, K1, K2, hz⟩ := box2_ok w s
  obtain ⟨w2, hw2⟩ : ∃ wx, box2 w s = wx := ⟨_, rfl⟩
  rw [hw2] at B2 K1 K2 hz
  have HB2 := hide_ B2
  have HK1 := hide_ K1
  have HK2 := hide_ K2
  obtain ⟨c0, c1, c2, c3, c4, c5, c6⟩ := K1.cs
  have fr1 := fun i => K1.frozen i
  unfold box2 at hw2
  have hr : takeP s many = (s, false) := by unfold takeP; rw [if_neg h6, if_neg h7]
  rw [hr]
  obtain ⟨d0, d1, d2, d3, d4, d5, d6⟩ := K2.cs
  have fr2 := fun i => K2.frozen i
  have f7 : (s.pl == 7) = false := by simpa using h7
  have f6 : (s.pl == 6) = true → (many == 1) = false := by
    intro h; have h := eq_of_beq h
    simp only [beq_eq_false_iff_ne, ne_eq]; exact fun e => h6 ⟨h, e⟩
  clear B2 K1 K2 hr h6
  unfold stv
  go_enter Tryz.func127, Tryz.ntmps127
  go_upto_region 1 with fail
  clear hw2
  by_cases g6 : (s.pl == 6) = true
  · have g1 := f6 g6
    clear f6
    go_wp2
    refine retSb rfl s rfl rfl (HK2.out.putS _) ?_
    exact ⟨rfl, below_putS HB2.out _ _ (by omega)⟩
  · have g6 : (s.pl == 6) = false := by simpa using g6
    clear f6
    go_wp2
    refine retSb rfl s rfl rfl (HK2.out.putS _) ?_
    exact ⟨rfl, below_putS HB2.out _ _ (by omega)⟩
set_option maxRecDepth 100000 in
set_option maxHeartbeats 4000000 in
theorem take_any (s : St) (many : Int) (w : World) (hm : 0 ≤ many ∧ many ≤ 100000000) (hs : -100000000 ≤ s.le ∧ s.le ≤ 100000000) : Calls Tryz.prog 127 #[stv s, .int .i64 many] w fun e w' => e = .returned (.tuple #[stv (takeP s many).1, .bool (takeP s many).2]) ∧ Below w.heap.size w w' := by
  by_cases h6 : s.pl = 6 ∧ many = 1
  · exact take_a s many w hm h6 hs
  by_cases h7 : s.pl = 7
  · exact take_b s many w hm h6 h7 hs
  · exact take_c s many w hm h6 h7 hs
theorem eq7 (s : St) (a : Int) (c : Nat) (e : Bool) (f : Int) : (s.pl == a) = false ∧ stEq s ⟨a, 0, 0, 0, 0, f, e⟩ = false ∨
    (s.pl == a) = true ∧ ((s.ki : Int) == 0) = false ∧ stEq s ⟨a, 0, 0, 0, 0, f, e⟩ = false ∨
    (s.pl == a) = true ∧ ((s.ki : Int) == 0) = true ∧ (s.tb == 0) = false ∧ stEq s ⟨a, 0, 0, 0, 0, f, e⟩ = false ∨
    (s.pl == a) = true ∧ ((s.ki : Int) == 0) = true ∧ (s.tb == 0) = true ∧ (s.pa == 0) = false ∧ stEq s ⟨a, 0, 0, 0, 0, f, e⟩ = false ∨
    (s.pl == a) = true ∧ ((s.ki : Int) == 0) = true ∧ (s.tb == 0) = true ∧ (s.pa == 0) = true ∧ (s.fr == 0) = false ∧ stEq s ⟨a, 0, 0, 0, 0, f, e⟩ = false ∨
    (s.pl == a) = true ∧ ((s.ki : Int) == 0) = true ∧ (s.tb == 0) = true ∧ (s.pa == 0) = true ∧ (s.fr == 0) = true ∧ (s.le == f) = false ∧ stEq s ⟨a, 0, 0, 0, 0, f, e⟩ = false ∨
    (s.pl == a) = true ∧ ((s.ki : Int) == 0) = true ∧ (s.tb == 0) = true ∧ (s.pa == 0) = true ∧ (s.fr == 0) = true ∧ (s.le == f) = true ∧ s.su = e ∧ stEq s ⟨a, 0, 0, 0, 0, f, e⟩ = true ∨
    (s.pl == a) = true ∧ ((s.ki : Int) == 0) = true ∧ (s.tb == 0) = true ∧ (s.pa == 0) = true ∧ (s.fr == 0) = true ∧ (s.le == f) = true ∧ s.su = !e ∧ stEq s ⟨a, 0, 0, 0, 0, f, e⟩ = false := by
  obtain ⟨pl, ki, tb, pa, fr, le, su⟩ := s
  unfold stEq
  simp only
  cases h0 : (pl == a)
  · simp
  cases h1 : ((ki : Int) == 0)
  · simp_all
  cases h2 : (tb == 0)
  · simp_all
  cases h3 : (pa == 0)
  · simp_all
  cases h4 : (fr == 0)
  · simp_all
  cases h5 : (le == f)
  · simp_all
  · cases su <;> cases e <;> simp_all
set_option maxRecDepth 100000 in
set_option maxHeartbeats 4000000 in
theorem turn_any (s : St) (w : World) : Calls Tryz.prog 128 #[stv s] w fun e w' => e = .returned (.tuple #[stv (turnP s).1, .bool (turnP s).2]) ∧ Below w.heap.size w w' := by
  obtain ⟨B2, K1, K2, hz⟩ := box2_ok w s
  obtain ⟨w2, hw2⟩ : ∃ wx, box2 w s = wx := ⟨_, rfl⟩
  rw [hw2] at B2 K1 K2 hz
  have HB2 := hide_ B2
  have HK1 := hide_ K1
  have HK2 := hide_ K2
  obtain ⟨c0, c1, c2, c3, c4, c5, c6⟩ := K1.cs
  have fr1 := fun i => K1.frozen i
  unfold box2 at hw2
  obtain ⟨su, hsu⟩ : ∃ x, s.su = x := ⟨_, rfl⟩
  rw [hsu] at c6 hw2
  clear B2 K1 K2
  have HC : Hid (∀ w, Calls Tryz.prog 125 #[.bool true] w fun e w' => e = .returned (stv (seqP true)) ∧ Below w.heap.size w w') := hide_ (fun w => seq_any true w)
  have hr : turnP s = (⟨s.pl, s.ki, s.tb, s.pa, s.fr, s.le, false⟩, stEq s (seqP true)) := rfl
  obtain ⟨b, hb⟩ : ∃ b, stEq s (seqP true) = b := ⟨_, rfl⟩
  rw [hr, hb]
  have Hb := hide_ hb
  clear hr hb
  unfold stv
  rw [hsu]
  go_enter Tryz.func128, Tryz.ntmps128
  go_upto_region 1 with fail
  try rw [hw2]
  clear hw2
  go_cut [4] from 5 to 7 (fun x4 wc => ∃ (wf : World), wf = wc ∧ x4 = .bool b ∧ Hid (Below w2.heap.size w2 wf))
  case first =>
    rcases eq7 s 1 0 true 0 with h | h | h | h | h | h | h | h
    all_goals
      try obtain ⟨h0, h⟩ := h
      try obtain ⟨h1, h⟩ := h
      try obtain ⟨h2, h⟩ := h
      try obtain ⟨h3, h⟩ := h
      try obtain ⟨h4, h⟩ := h
      try obtain ⟨h5, h⟩ := h
      try obtain ⟨h6, h⟩ := h
      try (simp only [Bool.not_true] at h6)
      have hb := Hb.out
      unfold seqP at hb
      rw [hb] at h
      clear hb
      have Hh := hide_ h
      clear h
      try (rw [hsu] at h6; subst h6)
      go_region_with (go_at_call 125; refine (HC.out _).mono ?_; rintro e w3 ⟨rfl, hB3⟩; (obtain ⟨e0, e1, e2, e3, e4, e5, e6⟩ := (HK1.out.drew.later hB3).cs); (have HB3 := hide_ (below_to ((Below.refl _ _).drew) hB3)); (clear hB3); (unfold stv seqP))
      all_goals
        first
          | (go_meet; (case rel => exact ⟨_, rfl, by rw [Hh.out], HB3⟩))
          | (dsimp [Act.put]; go_meet; (case rel => exact ⟨_, rfl, by rw [Hh.out], HB3⟩))
          | (go_wp2; go_meet; (case rel => exact ⟨_, rfl, by rw [Hh.out], HB3⟩))
          | trace_state
  case rest =>
  obtain ⟨w3, rfl, rfl, HB3⟩ := hcut
  have L1 := HK1.out.later HB3.out
  have L2 := HK2.out.later HB3.out
  obtain ⟨e0, e1, e2, e3, e4, e5, e6⟩ := L1.cs
  obtain ⟨d0, d1, d2, d3, d4, d5, d6⟩ := L2.cs
  have z1 := fun i => L1.frozen i
  have z2 := fun i => L2.frozen i
  have HL2 := hide_ L2
  clear L1 L2 c0 c1 c2 c3 c4 c5 c6 fr1
  go_wp2
  refine retSb rfl ⟨s.pl, s.ki, s.tb, s.pa, s.fr, s.le, false⟩ rfl rfl (Blk.putS (HL2.out.other _ _ (by simp)) ⟨s.pl, s.ki, s.tb, s.pa, s.fr, s.le, false⟩) ?_
  exact ⟨rfl, below_putS (below_set (below_to HB2.out HB3.out) _ _ _ (Nat.le_refl _)) _ ⟨s.pl, s.ki, s.tb, s.pa, s.fr, s.le, false⟩ (by omega)⟩
def inv (x : In) : Value := .agg #[.int .i64 x.op, .int .i64 x.a, .int .i64 x.b, .int .i64 x.c]
theorem Blk.ci {w : World} {g : Nat} {x : In} (h : Blk w g 37 (inc x)) :
    w.cell? ⟨g, 0, none⟩ = some (.int .i64 x.op) ∧ w.cell? ⟨g, 1, none⟩ = some (.int .i64 x.a) ∧ w.cell? ⟨g, 2, none⟩ = some (.int .i64 x.b) ∧ w.cell? ⟨g, 3, none⟩ = some (.int .i64 x.c) := by
  have c0 := h.cell 0; have c1 := h.cell 1; have c2 := h.cell 2; have c3 := h.cell 3
  simp [inc] at c0 c1 c2 c3
  exact ⟨c0, c1, c2, c3⟩
def box3 (w : World) (s : St) (x : In) : World := ((w.alloc (.cells #[.int .i64 s.pl, .int .u64 (s.ki : Int), .int .i64 s.tb, .int .i64 s.pa, .int .i64 s.fr, .int .i64 s.le, .bool s.su] 101)).alloc (.cells #[.int .i64 x.op, .int .i64 x.a, .int .i64 x.b, .int .i64 x.c] 37)).alloc (.cells #[.int .i64 0, .int .u64 0, .int .i64 0, .int .i64 0, .int .i64 0, .int .i64 0, .bool false] 101)
theorem box3_ok (w : World) (s : St) (x : In) : Below w.heap.size w (box3 w s x) ∧ Blk (box3 w s x) w.heap.size 101 (stc s) ∧ Blk (box3 w s x) (w.heap.size + 1) 37 (inc x) ∧ Blk (box3 w s x) (w.heap.size + 1 + 1) 101 (stc st0) ∧ w.heap.size + 3 ≤ (box3 w s x).heap.size := by
  refine ⟨(below2 w _ _).alloc (by simp; omega) _, (blk2 w _ _ _ _).1.alloc _, (blk2 w _ _ _ _).2.alloc _, ?_, by simp [box3]⟩
  have := Blk.newA ((w.alloc (.cells #[.int .i64 s.pl, .int .u64 (s.ki : Int), .int .i64 s.tb, .int .i64 s.pa, .int .i64 s.fr, .int .i64 s.le, .bool s.su] 101)).alloc (.cells #[.int .i64 x.op, .int .i64 x.a, .int .i64 x.b, .int .i64 x.c] 37)) #[.int .i64 0, .int .u64 0, .int .i64 0, .int .i64 0, .int .i64 0, .int .i64 0, .bool false] 101
  simpa [stc, st0, box3] using this
set_option maxRecDepth 100000 in
set_option maxHeartbeats 8000000 in
theorem taken_any (s : St) (x : In) (w : World) (hm : x.op = 34 → 0 ≤ x.b ∧ x.b ≤ 100000000) (hs : -100000000 ≤ s.le ∧ s.le ≤ 100000000) : Calls Tryz.prog 124 #[stv s, inv x] w fun e w' => e = .returned (.tuple #[stv (takenP s x).1, .bool (takenP s x).2]) ∧ Below w.heap.size w w' := by
  obtain ⟨B2, K1, KX, K2, hz⟩ := box3_ok w s x
  obtain ⟨w2, hw2⟩ : ∃ wx, box3 w s x = wx := ⟨_, rfl⟩
  rw [hw2] at B2 K1 KX K2 hz
  have HB2 := hide_ B2
  have HK1 := hide_ K1
  have HK2 := hide_ K2
  obtain ⟨c0, c1, c2, c3, c4, c5, c6⟩ := K1.cs
  obtain ⟨i0, i1, i2, i3⟩ := KX.ci
  have fr1 := fun i => K1.frozen i
  unfold box3 at hw2
  clear B2 K1 KX K2
  have HU : Hid (∀ w, Calls Tryz.prog 128 #[stv s] w fun e w' => e = .returned (.tuple #[stv (turnP s).1, .bool (turnP s).2]) ∧ Below w.heap.size w w') := hide_ (fun w => turn_any s w)
  have HT : Hid (∀ m w, 0 ≤ m ∧ m ≤ 100000000 → Calls Tryz.prog 127 #[stv s, .int .i64 m] w fun e w' => e = .returned (.tuple #[stv (takeP s m).1, .bool (takeP s m).2]) ∧ Below w.heap.size w w') := hide_ (fun m w h => take_any s m w h hs)
  have Hm := hide_ hm
  obtain ⟨r, hr⟩ : ∃ r, takenP s x = r := ⟨_, rfl⟩
  rw [hr]
  have Hr := hide_ hr
  clear hr hm hs
  obtain ⟨rs, hrs⟩ : ∃ y, stv r.1 = y := ⟨_, rfl⟩
  rw [hrs]
  have Hrs := hide_ hrs
  clear hrs
  unfold stv inv
  go_enter Tryz.func124, Tryz.ntmps124
  go_upto_region 1 with fail
  try rw [hw2]
  clear hw2
  go_wp2_with fail
  · refine (HT.out x.b _ (Hm.out (by simp only [beq_iff_eq] at *; omega))).mono ?_
    rintro e w3 ⟨rfl, hB3⟩
    have hr2 : takeP s x.b = r := by
      rw [← Hr.out]
      unfold takenP
      simp only [beq_iff_eq, beq_eq_false_iff_ne, bne_iff_ne, bne_eq_false_iff_eq, ne_eq, Bool.not_eq_true] at *
      repeat (first | rw [if_pos (by omega)] | rw [if_neg (by omega)])
    rw [hr2]
    have K3 := HK2.out.later hB3
    have fr := fun i => K3.frozen i
    obtain ⟨d0, d1, d2, d3, d4, d5, d6⟩ := K3.cs
    have HB3 := hide_ hB3
    have HK3 := hide_ K3
    clear hB3 K3 hr2
    unfold stv
    go_wp2
    refine retSb rfl r.1 rfl rfl (HK3.out.putS r.1) ?_
    exact ⟨by rw [← Hrs.out]; rfl, below_putS (below_to HB2.out HB3.out) _ r.1 (by omega)⟩
  · refine (HT.out 1 _ (by omega)).mono ?_
    rintro e w3 ⟨rfl, hB3⟩
    have hr2 : takeP s 1 = r := by
      rw [← Hr.out]
      unfold takenP
      simp only [beq_iff_eq, beq_eq_false_iff_ne, bne_iff_ne, bne_eq_false_iff_eq, ne_eq, Bool.not_eq_true] at *
      repeat (first | rw [if_pos (by omega)] | rw [if_neg (by omega)])
    rw [hr2]
    have K3 := HK2.out.later hB3
    have fr := fun i => K3.frozen i
    obtain ⟨d0, d1, d2, d3, d4, d5, d6⟩ := K3.cs
    have HB3 := hide_ hB3
    have HK3 := hide_ K3
    clear hB3 K3 hr2
    unfold stv
    go_wp2
    refine retSb rfl r.1 rfl rfl (HK3.out.putS r.1) ?_
    exact ⟨by rw [← Hrs.out]; rfl, below_putS (below_to HB2.out HB3.out) _ r.1 (by omega)⟩
  · refine (HU.out _).mono ?_
    rintro e w3 ⟨rfl, hB3⟩
    have hr2 : turnP s = r := by
      rw [← Hr.out]
      unfold takenP
      simp only [beq_iff_eq, beq_eq_false_iff_ne, bne_iff_ne, bne_eq_false_iff_eq, ne_eq, Bool.not_eq_true] at *
      repeat (first | rw [if_pos (by omega)] | rw [if_neg (by omega)])
    rw [hr2]
    have K3 := HK2.out.later hB3
    have fr := fun i => K3.frozen i
    obtain ⟨d0, d1, d2, d3, d4, d5, d6⟩ := K3.cs
    have HB3 := hide_ hB3
    have HK3 := hide_ K3
    clear hB3 K3 hr2
    unfold stv
    go_wp2
    refine retSb rfl r.1 rfl rfl (HK3.out.putS r.1) ?_
    exact ⟨by rw [← Hrs.out]; rfl, below_putS (below_to HB2.out HB3.out) _ r.1 (by omega)⟩
  · refine (HT.out 1 _ (by omega)).mono ?_
    rintro e w3 ⟨rfl, hB3⟩
    have hr2 : takeP s 1 = r := by
      rw [← Hr.out]
      unfold takenP
      simp only [beq_iff_eq, beq_eq_false_iff_ne, bne_iff_ne, bne_eq_false_iff_eq, ne_eq, Bool.not_eq_true] at *
      repeat (first | rw [if_pos (by omega)] | rw [if_neg (by omega)])
    rw [hr2]
    have K3 := HK2.out.later hB3
    have fr := fun i => K3.frozen i
    obtain ⟨d0, d1, d2, d3, d4, d5, d6⟩ := K3.cs
    have HB3 := hide_ hB3
    have HK3 := hide_ K3
    clear hB3 K3 hr2
    unfold stv
    go_wp2
    refine retSb rfl r.1 rfl rfl (HK3.out.putS r.1) ?_
    exact ⟨by rw [← Hrs.out]; rfl, below_putS (below_to HB2.out HB3.out) _ r.1 (by omega)⟩
  · refine (HU.out _).mono ?_
    rintro e w3 ⟨rfl, hB3⟩
    have hr2 : turnP s = r := by
      rw [← Hr.out]
      unfold takenP
      simp only [beq_iff_eq, beq_eq_false_iff_ne, bne_iff_ne, bne_eq_false_iff_eq, ne_eq, Bool.not_eq_true] at *
      repeat (first | rw [if_pos (by omega)] | rw [if_neg (by omega)])
    rw [hr2]
    have K3 := HK2.out.later hB3
    have fr := fun i => K3.frozen i
    obtain ⟨d0, d1, d2, d3, d4, d5, d6⟩ := K3.cs
    have HB3 := hide_ hB3
    have HK3 := hide_ K3
    clear hB3 K3 hr2
    unfold stv
    go_wp2
    refine retSb rfl r.1 rfl rfl (HK3.out.putS r.1) ?_
    exact ⟨by rw [← Hrs.out]; rfl, below_putS (below_to HB2.out HB3.out) _ r.1 (by omega)⟩
  · refine (HU.out _).mono ?_
    rintro e w3 ⟨rfl, hB3⟩
    have hr2 : turnP s = r := by
      rw [← Hr.out]
      unfold takenP
      simp only [beq_iff_eq, beq_eq_false_iff_ne, bne_iff_ne, bne_eq_false_iff_eq, ne_eq, Bool.not_eq_true] at *
      repeat (first | rw [if_pos (by omega)] | rw [if_neg (by omega)])
    rw [hr2]
    have K3 := HK2.out.later hB3
    have fr := fun i => K3.frozen i
    obtain ⟨d0, d1, d2, d3, d4, d5, d6⟩ := K3.cs
    have HB3 := hide_ hB3
    have HK3 := hide_ K3
    clear hB3 K3 hr2
    unfold stv
    go_wp2
    refine retSb rfl r.1 rfl rfl (HK3.out.putS r.1) ?_
    exact ⟨by rw [← Hrs.out]; rfl, below_putS (below_to HB2.out HB3.out) _ r.1 (by omega)⟩
  · refine (HU.out _).mono ?_
    rintro e w3 ⟨rfl, hB3⟩
    have hr2 : turnP s = r := by
      rw [← Hr.out]
      unfold takenP
      simp only [beq_iff_eq, beq_eq_false_iff_ne, bne_iff_ne, bne_eq_false_iff_eq, ne_eq, Bool.not_eq_true] at *
      repeat (first | rw [if_pos (by omega)] | rw [if_neg (by omega)])
    rw [hr2]
    have K3 := HK2.out.later hB3
    have fr := fun i => K3.frozen i
    obtain ⟨d0, d1, d2, d3, d4, d5, d6⟩ := K3.cs
    have HB3 := hide_ hB3
    have HK3 := hide_ K3
    clear hB3 K3 hr2
    unfold stv
    go_wp2
    refine retSb rfl r.1 rfl rfl (HK3.out.putS r.1) ?_
    exact ⟨by rw [← Hrs.out]; rfl, below_putS (below_to HB2.out HB3.out) _ r.1 (by omega)⟩
  · refine (HT.out 1 _ (by omega)).mono ?_
    rintro e w3 ⟨rfl, hB3⟩
    have hr2 : takeP s 1 = r := by
      rw [← Hr.out]
      unfold takenP
      simp only [beq_iff_eq, beq_eq_false_iff_ne, bne_iff_ne, bne_eq_false_iff_eq, ne_eq, Bool.not_eq_true] at *
      repeat (first | rw [if_pos (by omega)] | rw [if_neg (by omega)])
    rw [hr2]
    have K3 := HK2.out.later hB3
    have fr := fun i => K3.frozen i
    obtain ⟨d0, d1, d2, d3, d4, d5, d6⟩ := K3.cs
    have HB3 := hide_ hB3
    have HK3 := hide_ K3
    clear hB3 K3 hr2
    unfold stv
    go_wp2
    refine retSb rfl r.1 rfl rfl (HK3.out.putS r.1) ?_
    exact ⟨by rw [← Hrs.out]; rfl, below_putS (below_to HB2.out HB3.out) _ r.1 (by omega)⟩
  · refine (HT.out 1 _ (by omega)).mono ?_
    rintro e w3 ⟨rfl, hB3⟩
    have hr2 : takeP s 1 = r := by
      rw [← Hr.out]
      unfold takenP
      simp only [beq_iff_eq, beq_eq_false_iff_ne, bne_iff_ne, bne_eq_false_iff_eq, ne_eq, Bool.not_eq_true] at *
      repeat (first | rw [if_pos (by omega)] | rw [if_neg (by omega)])
    rw [hr2]
    have K3 := HK2.out.later hB3
    have fr := fun i => K3.frozen i
    obtain ⟨d0, d1, d2, d3, d4, d5, d6⟩ := K3.cs
    have HB3 := hide_ hB3
    have HK3 := hide_ K3
    clear hB3 K3 hr2
    unfold stv
    go_wp2
    refine retSb rfl r.1 rfl rfl (HK3.out.putS r.1) ?_
    exact ⟨by rw [← Hrs.out]; rfl, below_putS (below_to HB2.out HB3.out) _ r.1 (by omega)⟩
end Go.Proofs.YtjamfbpdepahnaaGreat
