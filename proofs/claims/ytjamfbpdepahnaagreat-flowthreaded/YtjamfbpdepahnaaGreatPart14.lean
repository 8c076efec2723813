import Derived.Test.YtjamfbpdepahnaaGreatPart05
import Derived.Test.YtjamfbpdepahnaaGreatPart10
import Derived.Test.YtjamfbpdepahnaaGreatPart12
import Derived.Test.YtjamfbpdepahnaaGreatPart01
namespace Go.Proofs.YtjamfbpdepahnaaGreat
open Go.RowKit
set_option linter.unusedVariables false
set_option linter.unusedSimpArgs false
theorem IOwn.cellH {w : World} {B g n c : Nat} {l : List Int} (h : IOwn w B (.slice (some ⟨g, 0, none⟩) n c) l) {i : Nat} (hi : i < l.length) : w.cell? ⟨g, i, none⟩ = some (.int .i64 (hAt l i)) ∧ w.frozen? ⟨g, i, none⟩ = false := by
  obtain ⟨a, c', e, -, -, -, -, hx⟩ := own_open h rfl
  obtain ⟨g', e2, -, -, hc, hz⟩ := hx (by omega)
  injection e with e1
  rw [e2] at e1
  injection e1 with e1
  injection e1 with e1
  subst e1
  exact ⟨hc i hi, hz i⟩
theorem IOwn.open {w : World} {B : Nat} {v : Value} {l : List Int} (h : IOwn w B v l) (h0 : 0 < l.length) : ∃ g c, v = .slice (some ⟨g, 0, none⟩) l.length c ∧ l.length ≤ c ∧ B ≤ g ∧ g < w.heap.size := by
  obtain ⟨a, c', e, -, -, hc, -, hx⟩ := own_open h rfl
  obtain ⟨g', rfl, h1, h2, -⟩ := hx h0
  exact ⟨g', c', e, hc, h1, h2⟩
set_option maxRecDepth 100000 in
set_option maxHeartbeats 4000000 in
theorem nLen_any (a : Option Addr) (n c : Nat) (w : World) : Calls Tryz.prog 117 #[.slice a n c] w fun e w' => e = .returned (.int .i64 (n : Int)) ∧ w = w' := by
  go_enter Tryz.func117, Tryz.ntmps117
  go_wp2
  go_ret
  exact ⟨rfl, rfl⟩
set_option maxRecDepth 100000 in
set_option maxHeartbeats 4000000 in
theorem nLess_any {B g c : Nat} {l : List Int} (i j : Nat) (w : World) (hl : l.length ≤ 4000000) (hi : i < l.length) (hj : j < l.length) (hc : l.length ≤ c) (h : Hid (IOwn w B (.slice (some ⟨g, 0, none⟩) l.length c) l)) :
    Calls Tryz.prog 118 #[.slice (some ⟨g, 0, none⟩) l.length c, .int .i64 (i : Int), .int .i64 (j : Int)] w fun e w' => e = .returned (.bool (decide (hAt l i < hAt l j))) ∧ w.drew = w' := by
  have c1 := (h.out.cellH hi).1
  have c2 := (h.out.cellH hj).1
  have hi' : (i : Int) < (l.length : Int) := by omega
  have hj' : (j : Int) < (l.length : Int) := by omega
  go_enter Tryz.func118, Tryz.ntmps118
  go_wp2_with fail
  go_region
  go_wp2
  go_ret
  exact ⟨rfl, rfl⟩
set_option maxRecDepth 100000 in
set_option maxHeartbeats 4000000 in
theorem nSwap_any {B g c : Nat} {l : List Int} (i j : Nat) (w : World) (hl : l.length ≤ 4000000) (hi : i < l.length) (hj : j < l.length) (hc : l.length ≤ c) (h : Hid (IOwn w B (.slice (some ⟨g, 0, none⟩) l.length c) l)) :
    Calls Tryz.prog 119 #[.slice (some ⟨g, 0, none⟩) l.length c, .int .i64 (i : Int), .int .i64 (j : Int)] w fun e w' => e = .returned (.tuple #[]) ∧ ((w.setCell ⟨g, i, none⟩ (.int .i64 (hAt l j))).setCell ⟨g, j, none⟩ (.int .i64 (hAt l i))).drew = w' := by
  have hd := h.out
  have c1 := (hd.cellH hi).1
  have c2 := (hd.cellH hj).1
  have z1 := (hd.cellH hi).2
  have hi' : (i : Int) < (l.length : Int) := by omega
  have hj' : (j : Int) < (l.length : Int) := by omega
  have h1 := hd.set hi (hAt l j)
  have hl1 : (l.set i (hAt l j)).length = l.length := by simp
  have c3 := (IOwn.cellH (i := j) h1 (by rw [hl1]; exact hj)).1
  have z3 := (IOwn.cellH (i := j) h1 (by rw [hl1]; exact hj)).2
  clear h1 hl1 hd
  go_enter Tryz.func119, Tryz.ntmps119
  go_wp2_with fail
  refine wp_region_last 15 (fun _ => True) (by kernel_rfl) (trivial) (fun hHeld => ?_)
  refine wpAnyF_take [15] (by kernel_rfl) (i := 0) (v := ?vs1) rfl (by kernel_rfl) (by kernel_rfl) (by kernel_rfl) (fun _ _ _ h => h) (Or.inl ⟨by kernel_rfl, ?hys1⟩) hHeld ?rests1
  case hys1 => intro w' hSw; (try dsimp only at hSw); go_simp; try with_reducible rfl
  simp only [Act.put]
  refine wpAnyF_take [15] (by kernel_rfl) (i := 1) (v := ?vs2) rfl (by kernel_rfl) (by kernel_rfl) (by kernel_rfl) (fun _ _ _ h => h) (Or.inl ⟨by kernel_rfl, ?hys2⟩) hHeld ?rests2
  case hys2 => intro w' hSw; (try dsimp only at hSw); go_simp; try with_reducible rfl
  simp only [Act.put]
  refine wpAnyF_take [15] (by kernel_rfl) (i := 2) (v := ?vs3) rfl (by kernel_rfl) (by kernel_rfl) (by kernel_rfl) (fun _ _ _ h => h) (Or.inl ⟨by kernel_rfl, ?hys3⟩) hHeld ?rests3
  case hys3 => intro w' hSw; (try dsimp only at hSw); go_simp; try with_reducible rfl
  simp only [Act.put]
  refine wpAnyF_take [15] (by kernel_rfl) (i := 3) (v := ?vs4) rfl (by kernel_rfl) (by kernel_rfl) (by kernel_rfl) (fun _ _ _ h => h) (Or.inl ⟨by kernel_rfl, ?hys4⟩) hHeld ?rests4
  case hys4 => intro w' hSw; (try dsimp only at hSw); go_simp; try with_reducible rfl
  simp only [Act.put]
  refine wpAnyF_take [15] (by kernel_rfl) (i := 4) (v := ?vs5) rfl (by kernel_rfl) (by kernel_rfl) (by kernel_rfl) (fun _ _ _ h => h) (Or.inl ⟨by kernel_rfl, ?hys5⟩) hHeld ?rests5
  case hys5 => intro w' hSw; (try dsimp only at hSw); go_simp; try with_reducible rfl
  simp only [Act.put]
  refine wpAnyF_take [15] (by kernel_rfl) (i := 5) (v := ?vs6) rfl (by kernel_rfl) (by kernel_rfl) (by kernel_rfl) (fun _ _ _ h => h) (Or.inl ⟨by kernel_rfl, ?hys6⟩) hHeld ?rests6
  case hys6 => intro w' hSw; (try dsimp only at hSw); go_simp; try with_reducible rfl
  simp only [Act.put]
  refine wpAnyF_take [15] (by kernel_rfl) (i := 6) (v := ?vs7) rfl (by kernel_rfl) (by kernel_rfl) (by kernel_rfl) (fun _ _ _ h => h) (Or.inl ⟨by kernel_rfl, ?hys7⟩) hHeld ?rests7
  case hys7 => intro w' hSw; (try dsimp only at hSw); go_simp; try with_reducible rfl
  simp only [Act.put]
  refine wpAnyF_take [15] (by kernel_rfl) (i := 8) (v := ?vs8) rfl (by kernel_rfl) (by kernel_rfl) (by kernel_rfl) (fun _ _ _ h => h) (Or.inl ⟨by kernel_rfl, ?hys8⟩) hHeld ?rests8
  case hys8 => intro w' hSw; (try dsimp only at hSw); go_simp; try with_reducible rfl
  simp only [Act.put]
  refine wpAnyF_take [15] (by kernel_rfl) (i := 9) (v := ?vs9) rfl (by kernel_rfl) (by kernel_rfl) (by kernel_rfl) (fun _ _ _ h => h) (Or.inl ⟨by kernel_rfl, ?hys9⟩) hHeld ?rests9
  case hys9 => intro w' hSw; (try dsimp only at hSw); go_simp; try with_reducible rfl
  simp only [Act.put]
  refine wpAnyF_take [15] (by kernel_rfl) (i := 10) (v := ?vs10) rfl (by kernel_rfl) (by kernel_rfl) (by kernel_rfl) (fun _ _ _ h => h) (Or.inl ⟨by kernel_rfl, ?hys10⟩) hHeld ?rests10
  case hys10 => intro w' hSw; (try dsimp only at hSw); go_simp; try with_reducible rfl
  simp only [Act.put]
  refine wpAnyF_ready (rs := [7, 11]) (by kernel_rfl) (by simp) ?_
  refine AllReadyF.cons rfl (fun K hK => ?_) ?_
  · go_simp
    refine hK.out _ _ (trivial) (fun hHeld => ?_)
    clear hK K
    refine wpAnyF_ready (rs := [11]) (by kernel_rfl) (by simp) ?_
    refine AllReadyF.cons rfl (fun K hK => ?_) AllReadyF.nil
    go_simp
    refine hK.out _ _ (trivial) (fun hHeld => ?_)
    clear hK K
    refine wpAnyF_take [15] (by kernel_rfl) (i := 12) (v := ?vs11) rfl (by kernel_rfl) (by kernel_rfl) (by kernel_rfl) (fun _ _ _ h => h) (Or.inl ⟨by kernel_rfl, ?hys11⟩) hHeld ?rests11
    case hys11 => intro w' hSw; (try dsimp only at hSw); go_simp; try with_reducible rfl
    simp only [Act.put]
    refine wpAnyF_ready (rs := [13]) (by kernel_rfl) (by simp) ?_
    refine AllReadyF.cons rfl (fun K hK => ?_) AllReadyF.nil
    go_simp
    refine hK.out _ _ (trivial) (fun hHeld => ?_)
    clear hK K
    refine wpAnyF_take [15] (by kernel_rfl) (i := 14) (v := ?vs12) rfl (by kernel_rfl) (by kernel_rfl) (by kernel_rfl) (fun _ _ _ h => h) (Or.inl ⟨by kernel_rfl, ?hys12⟩) hHeld ?rests12
    case hys12 => intro w' hSw; (try dsimp only at hSw); go_simp; try with_reducible rfl
    simp only [Act.put]
    refine wpAnyF_ready (rs := [15]) (by kernel_rfl) (by simp) ?_
    refine AllReadyF.last rfl (fun K hK => ?_)
    go_simp
    refine hK.out _ _ ?_
    clear hK K
    refine wpAnyF_done (by kernel_rfl) ?_ _
    go_wp2_with fail
    go_end0
    exact ⟨rfl, rfl⟩
  refine AllReadyF.cons rfl (fun K hK => ?_) AllReadyF.nil
  go_simp
  refine hK.out _ _ (trivial) (fun hHeld => ?_)
  clear hK K
  refine wpAnyF_ready (rs := [7]) (by kernel_rfl) (by simp) ?_
  refine AllReadyF.cons rfl (fun K hK => ?_) AllReadyF.nil
  go_simp
  refine hK.out _ _ (trivial) (fun hHeld => ?_)
  clear hK K
  refine wpAnyF_take [15] (by kernel_rfl) (i := 12) (v := ?vs13) rfl (by kernel_rfl) (by kernel_rfl) (by kernel_rfl) (fun _ _ _ h => h) (Or.inl ⟨by kernel_rfl, ?hys13⟩) hHeld ?rests13
  case hys13 => intro w' hSw; (try dsimp only at hSw); go_simp; try with_reducible rfl
  simp only [Act.put]
  refine wpAnyF_ready (rs := [13]) (by kernel_rfl) (by simp) ?_
  refine AllReadyF.cons rfl (fun K hK => ?_) AllReadyF.nil
  go_simp
  refine hK.out _ _ (trivial) (fun hHeld => ?_)
  clear hK K
  refine wpAnyF_take [15] (by kernel_rfl) (i := 14) (v := ?vs14) rfl (by kernel_rfl) (by kernel_rfl) (by kernel_rfl) (fun _ _ _ h => h) (Or.inl ⟨by kernel_rfl, ?hys14⟩) hHeld ?rests14
  case hys14 => intro w' hSw; (try dsimp only at hSw); go_simp; try with_reducible rfl
  simp only [Act.put]
  refine wpAnyF_ready (rs := [15]) (by kernel_rfl) (by simp) ?_
  refine AllReadyF.last rfl (fun K hK => ?_)
  go_simp
  refine hK.out _ _ ?_
  clear hK K
  refine wpAnyF_done (by kernel_rfl) ?_ _
  go_wp2_with fail
  go_end0
  exact ⟨rfl, rfl⟩
theorem swap_own {B g c : Nat} {l : List Int} {i j : Nat} {w : World} (hi : i < l.length) (hj : j < l.length) (h : IOwn w B (.slice (some ⟨g, 0, none⟩) l.length c) l) : IOwn (((w.setCell ⟨g, i, none⟩ (.int .i64 (hAt l j))).setCell ⟨g, j, none⟩ (.int .i64 (hAt l i))).drew) B (.slice (some ⟨g, 0, none⟩) l.length c) (swp l i j) := by
  have h1 := h.set hi (hAt l j)
  have hl1 : (l.set i (hAt l j)).length = l.length := by simp
  have h2 := IOwn.set (i := j) h1 (by rw [hl1]; exact hj) (hAt l i)
  have h3 := h2.later ((Below.refl _ _).drew)
  simpa [swp] using h3
theorem wrapOk (x : Addr) (s t : ByteArray) (w : World) : (Builtin.ssaWrapNilChk_ #[104] 104 #[.pointer (some x), .string s, .string t]).run Tryz.prog w = .ok (.pointer (some x)) w := by rfl
theorem hm0 : Array.find? (fun x => x.name == "Len") Tryz.t104.methods = Tryz.t104.methods[0]? := by kernel_rfl
theorem hm1 : Array.find? (fun x => x.name == "Less") Tryz.t104.methods = Tryz.t104.methods[1]? := by kernel_rfl
theorem hm2 : Array.find? (fun x => x.name == "Pop") Tryz.t104.methods = Tryz.t104.methods[2]? := by kernel_rfl
theorem hm3 : Array.find? (fun x => x.name == "Push") Tryz.t104.methods = Tryz.t104.methods[3]? := by kernel_rfl
theorem hm4 : Array.find? (fun x => x.name == "Swap") Tryz.t104.methods = Tryz.t104.methods[4]? := by kernel_rfl
theorem hf0 : (Tryz.t104.methods[0]?).map (fun m => (m.func, m.path)) = some (some (117, false), #[]) := by kernel_rfl
theorem hf1 : (Tryz.t104.methods[1]?).map (fun m => (m.func, m.path)) = some (some (118, false), #[]) := by kernel_rfl
theorem hf2 : (Tryz.t104.methods[2]?).map (fun m => (m.func, m.path)) = some (some (139, true), #[]) := by kernel_rfl
theorem hf3 : (Tryz.t104.methods[3]?).map (fun m => (m.func, m.path)) = some (some (140, true), #[]) := by kernel_rfl
theorem hf4 : (Tryz.t104.methods[4]?).map (fun m => (m.func, m.path)) = some (some (119, false), #[]) := by kernel_rfl
theorem mVal {nm : String} {q f : Nat} (hm : Array.find? (fun x => x.name == nm) Tryz.t104.methods = Tryz.t104.methods[q]?) (hf : (Tryz.t104.methods[q]?).map (fun m => (m.func, m.path)) = some (some (f, false), #[])) (k b o : Nat) (a : Option Addr) (n c : Nat) (w : World) (h : w.cell? ⟨b, o, none⟩ = some (.slice a n c)) :
    (method (k + 1) 104 (.pointer (some ⟨b, o, none⟩)) nm).run Tryz.prog w = .ok (f, .slice a n c) w := by
  obtain ⟨m, h1, h2⟩ := Option.map_eq_some_iff.1 hf
  have h3 : Array.find? (fun x => x.name == nm) Tryz.t104.methods = some m := hm.trans h1
  have h4 : m.func = some (f, false) := congrArg Prod.fst h2
  have h5 : m.path = #[] := congrArg Prod.snd h2
  unfold method
  simp [h3, h4, h5, follow, receiverAt, Place.get, strVal, wrapOk, asAddr, loadVar, h, Result.andThen, go_sem]
theorem mPtr {nm : String} {q f : Nat} (hm : Array.find? (fun x => x.name == nm) Tryz.t104.methods = Tryz.t104.methods[q]?) (hf : (Tryz.t104.methods[q]?).map (fun m => (m.func, m.path)) = some (some (f, true), #[])) (k b o : Nat) (w : World) :
    (method (k + 1) 104 (.pointer (some ⟨b, o, none⟩)) nm).run Tryz.prog w = .ok (f, .pointer (some ⟨b, o, none⟩)) w := by
  obtain ⟨m, h1, h2⟩ := Option.map_eq_some_iff.1 hf
  have h3 : Array.find? (fun x => x.name == nm) Tryz.t104.methods = some m := hm.trans h1
  have h4 : m.func = some (f, true) := congrArg Prod.fst h2
  have h5 : m.path = #[] := congrArg Prod.snd h2
  unfold method
  simp [h3, h4, h5, follow, receiverAt, Place.get, strVal, asAddr, loadVar, Result.andThen, go_sem]
structure NmS (w : World) (b o B : Nat) (v : Value) (l : List Int) : Prop where
  cell : w.cell? ⟨b, o, none⟩ = some v
  fz : w.frozen? ⟨b, o, none⟩ = false
  own : IOwn w B v l
  ne : ∀ k, v.ownBlock = some k → k ≠ b
  lt : b < w.heap.size
theorem NmS.swap {w : World} {b o B g n c : Nat} {l : List Int} {i j : Nat} (h : NmS w b o B (.slice (some ⟨g, 0, none⟩) l.length c) l) (hi : i < l.length) (hj : j < l.length) : NmS (((w.setCell ⟨g, i, none⟩ (.int .i64 (hAt l j))).setCell ⟨g, j, none⟩ (.int .i64 (hAt l i))).drew) b o B (.slice (some ⟨g, 0, none⟩) l.length c) (swp l i j) ∧ Upd (fun k => k = g) w (((w.setCell ⟨g, i, none⟩ (.int .i64 (hAt l j))).setCell ⟨g, j, none⟩ (.int .i64 (hAt l i))).drew) := by
  have hg : g ≠ b := h.ne g rfl
  have hU : Upd (fun k => k = g) w ((w.setCell ⟨g, i, none⟩ (.int .i64 (hAt l j))).setCell ⟨g, j, none⟩ (.int .i64 (hAt l i))) := ((Upd.refl (fun k => k = g) w).set _ _ (.inl rfl)).set _ _ (.inl rfl)
  have hU2 : Upd (fun k => k = g) w (((w.setCell ⟨g, i, none⟩ (.int .i64 (hAt l j))).setCell ⟨g, j, none⟩ (.int .i64 (hAt l i))).drew) := hU.then ((Below.refl _ _).drew)
  refine ⟨⟨?_, ?_, swap_own hi hj h.own, h.ne, Nat.lt_of_lt_of_le h.lt hU2.size⟩, hU2⟩
  · rw [World.cell?_of_block (w := w) (hU2.block b h.lt (fun e => hg e.symm))]
    exact h.cell
  · rw [World.frozen?_of_block (w := w) (hU2.block b h.lt (fun e => hg e.symm))]
    exact h.fz
theorem upF_fuel : ∀ (f : Nat) (l : List Int) (j : Nat), j < f → upF f l j = upF (j + 1) l j
  | 0, l, j, h => by omega
  | f + 1, l, j, h => by
    rw [upF, upF]
    by_cases h0 : j = 0
    · rw [if_pos h0, if_pos h0]
    rw [if_neg h0, if_neg h0]
    split
    · rw [upF_fuel f _ _ (by omega), upF_fuel j _ _ (by omega)]
    · rfl
theorem enLess (args : Array Value) (w : World) : (callFunc 118 args).run Tryz.prog w = .ok (.enter 118 args) w := by kernel_rfl
theorem enSwap (args : Array Value) (w : World) : (callFunc 119 args).run Tryz.prog w = .ok (.enter 119 args) w := by kernel_rfl
theorem enLen (args : Array Value) (w : World) : (callFunc 117 args).run Tryz.prog w = .ok (.enter 117 args) w := by kernel_rfl
theorem enPush (args : Array Value) (w : World) : (callFunc 140 args).run Tryz.prog w = .ok (.enter 140 args) w := by kernel_rfl
theorem enPop (args : Array Value) (w : World) : (callFunc 139 args).run Tryz.prog w = .ok (.enter 139 args) w := by kernel_rfl
def HpTo (w : World) (b o B : Nat) (v : Value) (l' : List Int) (e : Ending) (x : Value) (w' : World) : Prop := e = .returned x ∧ NmS w' b o B v l' ∧ Upd (fun k => v.ownBlock = some k) w w'
theorem NmS.drew {w : World} {b o B : Nat} {v : Value} {l : List Int} (h : NmS w b o B v l) : NmS w.drew b o B v l := ⟨h.cell, h.fz, h.own.later ((Below.refl _ _).drew), h.ne, h.lt⟩
theorem nLess_in {b o B g c n : Nat} {m : List Int} (i q : Nat) (w : World) (hm : m.length = n) (hl : n ≤ 4000000) (hi : i < n) (hq : q < n) (hc : n ≤ c) (h : NmS w b o B (.slice (some ⟨g, 0, none⟩) n c) m) :
    Calls Tryz.prog 118 #[.slice (some ⟨g, 0, none⟩) n c, .int .i64 (i : Int), .int .i64 (q : Int)] w fun e w' => e = .returned (.bool (decide (hAt m i < hAt m q))) ∧ Hid (NmS w' b o B (.slice (some ⟨g, 0, none⟩) n c) m) ∧ Hid (Upd (fun k => k = g) w w') := by
  subst hm
  refine (nLess_any (B := B) i q w hl hi hq hc (hide_ h.own)).mono ?_
  rintro e w' ⟨rfl, rfl⟩
  exact ⟨rfl, hide_ h.drew, hide_ ((Upd.refl _ w).then ((Below.refl _ _).drew))⟩
theorem nSwap_in {b o B g c n : Nat} {m : List Int} (i q : Nat) (w : World) (hm : m.length = n) (hl : n ≤ 4000000) (hi : i < n) (hq : q < n) (hc : n ≤ c) (h : NmS w b o B (.slice (some ⟨g, 0, none⟩) n c) m) :
    Calls Tryz.prog 119 #[.slice (some ⟨g, 0, none⟩) n c, .int .i64 (i : Int), .int .i64 (q : Int)] w fun e w' => e = .returned (.tuple #[]) ∧ Hid (NmS w' b o B (.slice (some ⟨g, 0, none⟩) n c) (swp m i q)) ∧ Hid (Upd (fun k => k = g) w w') := by
  subst hm
  refine (nSwap_any (B := B) i q w hl hi hq hc (hide_ h.own)).mono ?_
  rintro e w' ⟨rfl, rfl⟩
  obtain ⟨h1, h2⟩ := NmS.swap (n := 0) h hi hq
  exact ⟨rfl, hide_ h1, hide_ h2⟩
set_option maxRecDepth 100000 in
set_option maxHeartbeats 8000000 in
theorem up_any (b o B g c : Nat) (l : List Int) (j : Nat) (w : World) (hl : l.length ≤ 4000000) (hj : j < l.length) (hc : l.length ≤ c) (h : Hid (NmS w b o B (.slice (some ⟨g, 0, none⟩) l.length c) l)) :
    Calls Tryz.prog 94 #[.iface 104 (.pointer (some ⟨b, o, none⟩)), .int .i64 (j : Int)] w fun e w' => HpTo w b o B (.slice (some ⟨g, 0, none⟩) l.length c) (upF (j + 1) l j) e (.tuple #[]) w' := by
  obtain ⟨R, hR⟩ : ∃ R, upF (j + 1) l j = R := ⟨_, rfl⟩
  rw [hR]
  have HR := hide_ hR
  obtain ⟨n, hn⟩ : ∃ n, l.length = n := ⟨_, rfl⟩
  have Hn := hide_ hn
  rw [hn] at hl hj hc h ⊢
  clear hR hn
  go_enter Tryz.func94, Tryz.ntmps94
  go_wp2_with fail
  go_loopw [1] (fun x1 wr => ∃ (i : Nat) (m : List Int), i < n ∧ x1 = .int .i64 (i : Int) ∧ Hid (m.length = n) ∧ Hid (upF (i + 1) m i = R) ∧ Hid (NmS wr b o B (.slice (some ⟨g, 0, none⟩) n c) m) ∧ Hid (Upd (fun k => k = g) w wr)) (fun x1 _ => (intOf x1).toNat)
  case atStart => exact ⟨j, l, hj, rfl, Hn, HR, h, hide_ (Upd.refl _ _)⟩
  case round =>
    clear HR h Hn hj
    obtain ⟨i, m, hi, rfl, Hm, HR, HS, HU⟩ := hrel
    generalize wr = wq at *
    have c0 := HS.out.cell
    have mL : Sem.run Tryz.prog (method 282 104 (.pointer (some ⟨b, o, none⟩)) "Less") wq = .ok (118, .slice (some ⟨g, 0, none⟩) n c) wq := mVal hm1 hf1 281 b o (some ⟨g, 0, none⟩) n c wq c0
    have eL := enLess
    have hw1 : IntKind.i64.wrap ((i : Int) - 1) = (i : Int) - 1 := i64w _ (by omega)
    by_cases h0 : i = 0
    · have hq : Int.tdiv ((i : Int) - 1) 2 = (i : Int) := by rw [h0]; decide
      have HA : Hid (HpTo w b o B (.slice (some ⟨g, 0, none⟩) n c) R (.returned (.tuple #[])) (.tuple #[]) wq) := hide_ (by
        refine ⟨rfl, ?_, HU.out.mono (fun k _ e => by rw [e]; rfl)⟩
        have h1 := HR.out
        rw [upF, if_pos h0] at h1
        rw [← h1]
        exact HS.out)
      clear h0
      go_wp2_with fail
      go_end0
      exact HA.out
    · obtain ⟨q, hq⟩ : ∃ q : Nat, (i - 1) / 2 = q := ⟨_, rfl⟩
      have hqi : q < i := by omega
      have hqd : Int.tdiv ((i : Int) - 1) 2 = (q : Int) := by
        rw [Int.tdiv_eq_ediv_of_nonneg (by omega)]
        omega
      have hwq : IntKind.i64.wrap (q : Int) = (q : Int) := i64w _ (by omega)
      have hne : ¬ (q : Int) = (i : Int) := by omega
      have hned : decide ((q : Int) = (i : Int)) = false := decide_eq_false hne
      have HLs := hide_ (nLess_in (b := b) (o := o) (B := B) (g := g) (c := c) (m := m) i q wq Hm.out hl hi (by omega) hc HS.out)
      have Hq := hide_ hq
      have H0 := hide_ h0
      clear hq h0
      go_wp2_with fail
      refine HLs.out.mono ?_
      rintro e w2 ⟨rfl, HS2, HU2⟩
      have HU3 : Hid (Upd (fun k => k = g) w w2) := hide_ (HU.out.trans HU2.out (fun _ _ e => e))
      clear mL eL c0 HS HU HU2 HLs
      have hR := HR.out
      rw [upF, if_neg H0.out, Hq.out] at hR
      by_cases hlt : hAt m i < hAt m q
      · have hd : decide (hAt m i < hAt m q) = true := decide_eq_true hlt
        rw [hd]
        rw [if_pos hlt] at hR
        have HR2 : Hid (upF (q + 1) (swp m q i) q = R) := hide_ (by rw [← hR, upF_fuel i _ _ hqi])
        have HM2 : Hid ((swp m q i).length = n) := hide_ (by rw [swp_len]; exact Hm.out)
        have c2 := HS2.out.cell
        have mS : Sem.run Tryz.prog (method 282 104 (.pointer (some ⟨b, o, none⟩)) "Swap") w2 = .ok (119, .slice (some ⟨g, 0, none⟩) n c) w2 := mVal hm4 hf4 281 b o (some ⟨g, 0, none⟩) n c w2 c2
        have eS := enSwap
        have HSw := hide_ (nSwap_in (b := b) (o := o) (B := B) (g := g) (c := c) (m := m) q i w2 Hm.out hl (by omega) hi hc HS2.out)
        clear hlt hd hR HR Hm HS2
        go_wp2_with fail
        refine HSw.out.mono ?_
        rintro e w3 ⟨rfl, HS4, HU4⟩
        have HU5 : Hid (Upd (fun k => k = g) w w3) := hide_ (HU3.out.trans HU4.out (fun _ _ e => e))
        clear mS eS c2 HU3 HU4 HSw
        go_wp2_with fail
        go_roundw
        case rel => exact ⟨q, _, by omega, by go_num, HM2, HR2, HS4, HU5⟩
        case measure => simp [intOf]; omega
      · have hd : decide (hAt m i < hAt m q) = false := decide_eq_false hlt
        rw [hd]
        rw [if_neg hlt] at hR
        have HA : Hid (HpTo w b o B (.slice (some ⟨g, 0, none⟩) n c) R (.returned (.tuple #[])) (.tuple #[]) w2) := hide_ ⟨rfl, by rw [← hR]; exact HS2.out, HU3.out.mono (fun k _ e => by rw [e]; rfl)⟩
        clear hlt hd hR HR Hm HS2 HU3
        go_wp2_with fail
        go_end0
        exact HA.out
theorem downF_fuel : ∀ (f e : Nat) (l : List Int) (i n : Nat), n < f + i → n < e + i → downF f l i n = downF e l i n
  | 0, 0, l, i, n, h, h' => rfl
  | 0, e + 1, l, i, n, h, h' => by rw [downF, downF, if_pos (by omega)]
  | f + 1, 0, l, i, n, h, h' => by rw [downF, downF, if_pos (by omega)]
  | f + 1, e + 1, l, i, n, h, h' => by
    rw [downF, downF]
    by_cases h0 : n ≤ 2 * i + 1
    · rw [if_pos h0, if_pos h0]
    rw [if_neg h0, if_neg h0]
    have hk := (lowK_in (l := l) (i := i) (n := n) (by omega)).2.1
    split
    · exact downF_fuel f e _ _ _ (by omega) (by omega)
    · rfl
def DnTo (w : World) (b o B : Nat) (v : Value) (l' : List Int) (e : Ending) (w' : World) : Prop := ∃ x : Bool, HpTo w b o B v l' e (.bool x) w'
theorem dn_ret {w w' : World} {b o B g n c : Nat} {R : List Int} {y : Bool} (h : NmS w' b o B (.slice (some ⟨g, 0, none⟩) n c) R ∧ Upd (fun k => k = g) w w') : DnTo w b o B (.slice (some ⟨g, 0, none⟩) n c) R (.returned (.bool y)) w' := ⟨y, rfl, h.1, h.2.mono (fun k _ e => by rw [e]; rfl)⟩
set_option maxRecDepth 100000 in
set_option maxHeartbeats 8000000 in
theorem down_any (b o B g c : Nat) (l : List Int) (j k : Nat) (w : World) (hl : l.length ≤ 4000000) (hj : k ≤ l.length) (hjk : j ≤ l.length) (hc : l.length ≤ c) (h : Hid (NmS w b o B (.slice (some ⟨g, 0, none⟩) l.length c) l)) :
    Calls Tryz.prog 79 #[.iface 104 (.pointer (some ⟨b, o, none⟩)), .int .i64 (j : Int), .int .i64 (k : Int)] w fun e w' => DnTo w b o B (.slice (some ⟨g, 0, none⟩) l.length c) (downF (k + 1) l j k) e w' := by
  obtain ⟨R, hR⟩ : ∃ R, downF (k + 1) l j k = R := ⟨_, rfl⟩
  rw [hR]
  have HR := hide_ hR
  obtain ⟨n, hn⟩ : ∃ n, l.length = n := ⟨_, rfl⟩
  have Hn := hide_ hn
  rw [hn] at hl hj hjk hc h ⊢
  clear hR hn
  go_enter Tryz.func79, Tryz.ntmps79
  go_wp2_with fail
  go_loopw [7] (fun x7 wr => ∃ (i : Nat) (m : List Int), i ≤ n ∧ x7 = .int .i64 (i : Int) ∧ Hid (m.length = n) ∧ Hid (downF (k + 1) m i k = R) ∧ Hid (NmS wr b o B (.slice (some ⟨g, 0, none⟩) n c) m) ∧ Hid (Upd (fun k => k = g) w wr)) (fun x7 _ => n - (intOf x7).toNat)
  case atStart => exact ⟨j, l, hjk, rfl, Hn, HR, h, hide_ (Upd.refl _ _)⟩
  case round =>
    clear HR h Hn
    obtain ⟨i, m, hi, rfl, Hm, HR, HS, HU⟩ := hrel
    generalize wr = wq at *
    obtain ⟨p, hp⟩ : ∃ p : Nat, 2 * i + 1 = p := ⟨_, rfl⟩
    obtain ⟨r, hr⟩ : ∃ r : Nat, 2 * i + 2 = r := ⟨_, rfl⟩
    have hw1 : IntKind.i64.wrap (2 * (i : Int)) = 2 * (i : Int) := i64w _ (by omega)
    have hw2 : IntKind.i64.wrap (2 * (i : Int) + 1) = (p : Int) := by rw [i64w _ (by omega)]; omega
    have hw3 : IntKind.i64.wrap ((p : Int) + 1) = (r : Int) := by rw [i64w _ (by omega)]; omega
    have hp0 : ¬ (p : Int) < 0 := by omega
    by_cases h0 : k ≤ p
    · have h0' : (k : Int) ≤ (p : Int) := by omega
      have HA : Hid (NmS wq b o B (.slice (some ⟨g, 0, none⟩) n c) R ∧ Upd (fun k => k = g) w wq) := hide_ (by
        have h1 := HR.out
        rw [downF, if_pos (by omega)] at h1
        rw [← h1]
        exact ⟨HS.out, HU.out⟩)
      clear HR HS HU Hm h0
      go_wp2_with fail
      go_ret
      exact dn_ret HA.out
    have h0' : ¬ (k : Int) ≤ (p : Int) := by omega
    have H0 : Hid (¬ k ≤ 2 * i + 1) := hide_ (by omega)
    by_cases h1 : r < k
    · have h1' : (r : Int) < (k : Int) := by omega
      have c0 := HS.out.cell
      have mL : Sem.run Tryz.prog (method 282 104 (.pointer (some ⟨b, o, none⟩)) "Less") wq = .ok (118, .slice (some ⟨g, 0, none⟩) n c) wq := mVal hm1 hf1 281 b o (some ⟨g, 0, none⟩) n c wq c0
      have eL0 := enLess
      have HLs := hide_ (nLess_in (b := b) (o := o) (B := B) (g := g) (c := c) (m := m) r p wq Hm.out hl (by omega) (by omega) hc HS.out)
      go_wp2_with fail
      refine HLs.out.mono ?_
      rintro e w2 ⟨rfl, HS2, HV2⟩
      have HU2 : Hid (Upd (fun k => k = g) w w2) := hide_ (HU.out.trans HV2.out (fun _ _ e => e))
      clear mL eL0 c0 HS HU HV2 HLs
      by_cases hlo : hAt m r < hAt m p
      · have hd : decide (hAt m r < hAt m p) = true := decide_eq_true hlo
        rw [hd]
        have Hq : Hid (lowK m i k = r) := hide_ (by rw [lowK, hp, hr, if_pos ⟨h1, hlo⟩])
        clear hlo hd
        have c2 := HS2.out.cell
        have mL2 : Sem.run Tryz.prog (method 282 104 (.pointer (some ⟨b, o, none⟩)) "Less") w2 = .ok (118, .slice (some ⟨g, 0, none⟩) n c) w2 := mVal hm1 hf1 281 b o (some ⟨g, 0, none⟩) n c w2 c2
        have eL := enLess
        have HL2 := hide_ (nLess_in (b := b) (o := o) (B := B) (g := g) (c := c) (m := m) r i w2 Hm.out hl (by omega) (by omega) hc HS2.out)
        go_wp2_with fail
        refine HL2.out.mono ?_
        rintro e w4 ⟨rfl, HS4, HV4⟩
        have HU4 : Hid (Upd (fun k => k = g) w w4) := hide_ (HU2.out.trans HV4.out (fun _ _ e => e))
        clear mL2 eL c2 HS2 HU2 HV4 HL2
        have hR := HR.out
        rw [downF, if_neg H0.out, Hq.out] at hR
        by_cases hlt : hAt m r < hAt m i
        · have hd : decide (hAt m r < hAt m i) = true := decide_eq_true hlt
          rw [hd]
          rw [if_pos hlt] at hR
          have HR2 : Hid (downF (k + 1) (swp m i r) r k = R) := hide_ (by rw [← hR]; exact downF_fuel _ _ _ _ _ (by omega) (by omega))
          have HM2 : Hid ((swp m i r).length = n) := hide_ (by rw [swp_len]; exact Hm.out)
          have c3 := HS4.out.cell
          have mS : Sem.run Tryz.prog (method 282 104 (.pointer (some ⟨b, o, none⟩)) "Swap") w4 = .ok (119, .slice (some ⟨g, 0, none⟩) n c) w4 := mVal hm4 hf4 281 b o (some ⟨g, 0, none⟩) n c w4 c3
          have eS := enSwap
          have HSw := hide_ (nSwap_in (b := b) (o := o) (B := B) (g := g) (c := c) (m := m) i r w4 Hm.out hl (by omega) (by omega) hc HS4.out)
          clear hlt hd hR HR Hm HS4
          go_wp2_with fail
          refine HSw.out.mono ?_
          rintro e w5 ⟨rfl, HS5, HV5⟩
          have HU5 : Hid (Upd (fun k => k = g) w w5) := hide_ (HU4.out.trans HV5.out (fun _ _ e => e))
          clear mS eS c3 HU4 HV5 HSw
          go_wp2_with fail
          go_roundw
          case rel => exact ⟨r, _, by omega, by go_num, HM2, HR2, HS5, HU5⟩
          case measure => simp [intOf]; omega
        · have hd : decide (hAt m r < hAt m i) = false := decide_eq_false hlt
          rw [hd]
          rw [if_neg hlt] at hR
          have HA : Hid (NmS w4 b o B (.slice (some ⟨g, 0, none⟩) n c) R ∧ Upd (fun k => k = g) w w4) := hide_ ⟨by rw [← hR]; exact HS4.out, HU4.out⟩
          clear hlt hd hR HR Hm HS4 HU4
          go_wp2_with fail
          go_ret
          exact dn_ret HA.out
      · have hd : decide (hAt m r < hAt m p) = false := decide_eq_false hlo
        rw [hd]
        have Hq : Hid (lowK m i k = p) := hide_ (by rw [lowK, hp, hr, if_neg (fun e => hlo e.2)])
        clear hlo hd
        have c2 := HS2.out.cell
        have mL2 : Sem.run Tryz.prog (method 282 104 (.pointer (some ⟨b, o, none⟩)) "Less") w2 = .ok (118, .slice (some ⟨g, 0, none⟩) n c) w2 := mVal hm1 hf1 281 b o (some ⟨g, 0, none⟩) n c w2 c2
        have eL := enLess
        have HL2 := hide_ (nLess_in (b := b) (o := o) (B := B) (g := g) (c := c) (m := m) p i w2 Hm.out hl (by omega) (by omega) hc HS2.out)
        go_wp2_with fail
        refine HL2.out.mono ?_
        rintro e w4 ⟨rfl, HS4, HV4⟩
        have HU4 : Hid (Upd (fun k => k = g) w w4) := hide_ (HU2.out.trans HV4.out (fun _ _ e => e))
        clear mL2 eL c2 HS2 HU2 HV4 HL2
        have hR := HR.out
        rw [downF, if_neg H0.out, Hq.out] at hR
        by_cases hlt : hAt m p < hAt m i
        · have hd : decide (hAt m p < hAt m i) = true := decide_eq_true hlt
          rw [hd]
          rw [if_pos hlt] at hR
          have HR2 : Hid (downF (k + 1) (swp m i p) p k = R) := hide_ (by rw [← hR]; exact downF_fuel _ _ _ _ _ (by omega) (by omega))
          have HM2 : Hid ((swp m i p).length = n) := hide_ (by rw [swp_len]; exact Hm.out)
          have c3 := HS4.out.cell
          have mS : Sem.run Tryz.prog (method 282 104 (.pointer (some ⟨b, o, none⟩)) "Swap") w4 = .ok (119, .slice (some ⟨g, 0, none⟩) n c) w4 := mVal hm4 hf4 281 b o (some ⟨g, 0, none⟩) n c w4 c3
          have eS := enSwap
          have HSw := hide_ (nSwap_in (b := b) (o := o) (B := B) (g := g) (c := c) (m := m) i p w4 Hm.out hl (by omega) (by omega) hc HS4.out)
          clear hlt hd hR HR Hm HS4
          go_wp2_with fail
          refine HSw.out.mono ?_
          rintro e w5 ⟨rfl, HS5, HV5⟩
          have HU5 : Hid (Upd (fun k => k = g) w w5) := hide_ (HU4.out.trans HV5.out (fun _ _ e => e))
          clear mS eS c3 HU4 HV5 HSw
          go_wp2_with fail
          go_roundw
          case rel => exact ⟨p, _, by omega, by go_num, HM2, HR2, HS5, HU5⟩
          case measure => simp [intOf]; omega
        · have hd : decide (hAt m p < hAt m i) = false := decide_eq_false hlt
          rw [hd]
          rw [if_neg hlt] at hR
          have HA : Hid (NmS w4 b o B (.slice (some ⟨g, 0, none⟩) n c) R ∧ Upd (fun k => k = g) w w4) := hide_ ⟨by rw [← hR]; exact HS4.out, HU4.out⟩
          clear hlt hd hR HR Hm HS4 HU4
          go_wp2_with fail
          go_ret
          exact dn_ret HA.out
    · have h1' : ¬ (r : Int) < (k : Int) := by omega
      have Hq : Hid (lowK m i k = p) := hide_ (by rw [lowK, hp, hr, if_neg (fun e => h1 e.1)])
      have c2 := HS.out.cell
      have mL2 : Sem.run Tryz.prog (method 282 104 (.pointer (some ⟨b, o, none⟩)) "Less") wq = .ok (118, .slice (some ⟨g, 0, none⟩) n c) wq := mVal hm1 hf1 281 b o (some ⟨g, 0, none⟩) n c wq c2
      have eL := enLess
      have HL2 := hide_ (nLess_in (b := b) (o := o) (B := B) (g := g) (c := c) (m := m) p i wq Hm.out hl (by omega) (by omega) hc HS.out)
      go_wp2_with fail
      refine HL2.out.mono ?_
      rintro e w4 ⟨rfl, HS4, HV4⟩
      have HU4 : Hid (Upd (fun k => k = g) w w4) := hide_ (HU.out.trans HV4.out (fun _ _ e => e))
      clear mL2 eL c2 HS HU HV4 HL2
      have hR := HR.out
      rw [downF, if_neg H0.out, Hq.out] at hR
      by_cases hlt : hAt m p < hAt m i
      · have hd : decide (hAt m p < hAt m i) = true := decide_eq_true hlt
        rw [hd]
        rw [if_pos hlt] at hR
        have HR2 : Hid (downF (k + 1) (swp m i p) p k = R) := hide_ (by rw [← hR]; exact downF_fuel _ _ _ _ _ (by omega) (by omega))
        have HM2 : Hid ((swp m i p).length = n) := hide_ (by rw [swp_len]; exact Hm.out)
        have c3 := HS4.out.cell
        have mS : Sem.run Tryz.prog (method 282 104 (.pointer (some ⟨b, o, none⟩)) "Swap") w4 = .ok (119, .slice (some ⟨g, 0, none⟩) n c) w4 := mVal hm4 hf4 281 b o (some ⟨g, 0, none⟩) n c w4 c3
        have eS := enSwap
        have HSw := hide_ (nSwap_in (b := b) (o := o) (B := B) (g := g) (c := c) (m := m) i p w4 Hm.out hl (by omega) (by omega) hc HS4.out)
        clear hlt hd hR HR Hm HS4
        go_wp2_with fail
        refine HSw.out.mono ?_
        rintro e w5 ⟨rfl, HS5, HV5⟩
        have HU5 : Hid (Upd (fun k => k = g) w w5) := hide_ (HU4.out.trans HV5.out (fun _ _ e => e))
        clear mS eS c3 HU4 HV5 HSw
        go_wp2_with fail
        go_roundw
        case rel => exact ⟨p, _, by omega, by go_num, HM2, HR2, HS5, HU5⟩
        case measure => simp [intOf]; omega
      · have hd : decide (hAt m p < hAt m i) = false := decide_eq_false hlt
        rw [hd]
        rw [if_neg hlt] at hR
        have HA : Hid (NmS w4 b o B (.slice (some ⟨g, 0, none⟩) n c) R ∧ Upd (fun k => k = g) w w4) := hide_ ⟨by rw [← hR]; exact HS4.out, HU4.out⟩
        clear hlt hd hR HR Hm HS4 HU4
        go_wp2_with fail
        go_ret
        exact dn_ret HA.out
def Kps (w w' : World) (b o : Nat) (v : Value) : Prop := ∀ (t : TypeId) (xs : List Value), Blk w b t xs → Blk w' b t (xs.set o v)
theorem downF_len : ∀ (f : Nat) (l : List Int) (i n : Nat), (downF f l i n).length = l.length
  | 0, l, i, n => rfl
  | f + 1, l, i, n => by
    rw [downF]
    split
    · rfl
    split
    · rw [downF_len, swp_len]
    · rfl
set_option maxRecDepth 100000 in
set_option maxHeartbeats 8000000 in
theorem nPop_any (b o B g c n : Nat) (l : List Int) (w : World) (hn : Hid (l.length = n + 1)) (hl : n < 4000000) (hc : n + 1 ≤ c) (h : Hid (NmS w b o B (.slice (some ⟨g, 0, none⟩) (n + 1) c) l)) :
    Calls Tryz.prog 139 #[.pointer (some ⟨b, o, none⟩)] w fun e w' => e = .returned (.iface 3 (.int .i64 (hAt l n))) ∧ (w.setCell ⟨b, o, none⟩ (.slice (some ⟨g, 0, none⟩) n c)) = w' := by
  have c0 := h.out.cell
  have f0 := h.out.fz
  have cl1 := (h.out.own.cellH (i := n) (by rw [hn.out]; omega)).1
  have hw1 : IntKind.i64.wrap ((n : Int) + 1 - 1) = (n : Int) := by rw [i64w _ (by omega)]; omega
  go_enter Tryz.func139, Tryz.ntmps139
  go_wp2_with fail
  go_ret
  exact ⟨rfl, rfl⟩
theorem own_cutI {w : World} {B e c g n m cap : Nat} {xs : List Value} (h : w.ownsRow B e c (.slice (some ⟨g, 0, none⟩) n cap) n xs) (hm : m ≤ n) : w.ownsRow B e c (.slice (some ⟨g, 0, none⟩) m cap) m (xs.take (m * c)) := by
  refine ⟨by rw [List.length_take, h.1]; exact Nat.min_eq_left (Nat.mul_le_mul_right c hm), ?_⟩
  rcases h.2 with ⟨h0, _⟩ | ⟨g', cap', cur, hv, hb, hg, hnc, hcm, hs, ht⟩
  · cases h0
  · injection hv with h1 h2 h3
    injection h1 with h1
    injection h1 with h1
    subst h1 h3
    refine .inr ⟨g, cap, cur, rfl, hb, hg, Nat.le_trans hm hnc, hcm, hs, ?_⟩
    rw [← ht, List.take_take]
    congr 1
    exact (Nat.min_eq_left (Nat.mul_le_mul_right c hm)).symm
theorem NmS.pop {w : World} {b o B g n c : Nat} {l : List Int} (hn : l.length = n + 1) (h : NmS w b o B (.slice (some ⟨g, 0, none⟩) (n + 1) c) l) : NmS (w.setCell ⟨b, o, none⟩ (.slice (some ⟨g, 0, none⟩) n c)) b o B (.slice (some ⟨g, 0, none⟩) n c) (l.take n) ∧ Upd (fun k => k = b) w (w.setCell ⟨b, o, none⟩ (.slice (some ⟨g, 0, none⟩) n c)) := by
  have hg : g ≠ b := h.ne g rfl
  have hU : Upd (fun k => k = b) w (w.setCell ⟨b, o, none⟩ (.slice (some ⟨g, 0, none⟩) n c)) := (Upd.refl (fun k => k = b) w).set _ _ (.inl rfl)
  have ho : IOwn w B (.slice (some ⟨g, 0, none⟩) n c) (l.take n) := by
    have h1 := h.own
    unfold IOwn at h1 ⊢
    rw [hn] at h1
    have h2 := own_cutI (m := n) h1 (by omega)
    have e : (l.take n).length = n := by rw [List.length_take]; omega
    rw [e]
    have e2 : cellsL .i64 (l.take n) = (cellsL .i64 l).take (n * 1) := by
      rw [Nat.mul_one]
      unfold cellsL
      rw [List.map_take]
    rw [e2]
    exact h2
  refine ⟨⟨?_, ?_, ho.upd hU (fun k e => ?_), fun k e => h.ne k e, Nat.lt_of_lt_of_le h.lt hU.size⟩, hU⟩
  · exact World.cell?_setCell_same _ _ _ h.cell
  · rw [World.frozen?_setCell]; exact h.fz
  · injection e with e
    subst e
    exact hg
set_option maxRecDepth 100000 in
set_option maxHeartbeats 8000000 in
theorem hPop_any (b o B g c n : Nat) (l : List Int) (w : World) (hn : Hid (l.length = n + 1)) (hl : n < 4000000) (hc : n + 1 ≤ c) (h : Hid (NmS w b o B (.slice (some ⟨g, 0, none⟩) (n + 1) c) l)) :
    Calls Tryz.prog 53 #[.iface 104 (.pointer (some ⟨b, o, none⟩))] w fun e w' => e = .returned (.iface 3 (.int .i64 (popH l).1)) ∧ Hid (NmS w' b o B (.slice (some ⟨g, 0, none⟩) n c) (popH l).2) ∧ Hid (Upd (fun k => k = g ∨ k = b) w w') ∧ Hid (Kps w w' b o (.slice (some ⟨g, 0, none⟩) n c)) := by
  have Hne := hide_ (h.out.ne g rfl)
  obtain ⟨R, hR⟩ : ∃ R, downF (n + 1) (swp l 0 n) 0 n = R := ⟨_, rfl⟩
  have hRl : R.length = n + 1 := by
    rw [← hR, downF_len, swp_len]; exact hn.out
  have hP : popH l = (hAt R n, R.take n) := by
    unfold popH downH
    rw [hn.out, Nat.add_sub_cancel, hR]
  rw [hP]
  have HR := hide_ hR
  have HRl := hide_ hRl
  clear hP hR hRl
  have c0 := h.out.cell
  have mN : Sem.run Tryz.prog (method 282 104 (.pointer (some ⟨b, o, none⟩)) "Len") w = .ok (117, .slice (some ⟨g, 0, none⟩) (n + 1) c) w := mVal hm0 hf0 281 b o (some ⟨g, 0, none⟩) (n + 1) c w c0
  have mS : Sem.run Tryz.prog (method 282 104 (.pointer (some ⟨b, o, none⟩)) "Swap") w = .ok (119, .slice (some ⟨g, 0, none⟩) (n + 1) c) w := mVal hm4 hf4 281 b o (some ⟨g, 0, none⟩) (n + 1) c w c0
  have eN := enLen
  have eS := enSwap
  have eP := enPop
  have HN := hide_ (nLen_any (some ⟨g, 0, none⟩) (n + 1) c w)
  have HSw := hide_ (nSwap_in (b := b) (o := o) (B := B) (g := g) (c := c) (m := l) 0 n w hn.out (by omega) (by omega) (by omega) hc h.out)
  have hw1 : IntKind.i64.wrap ((n : Int) + 1 - 1) = (n : Int) := by rw [i64w _ (by omega)]; omega
  go_enter Tryz.func53, Tryz.ntmps53
  go_wp2_with fail
  refine HN.out.mono ?_
  rintro e w0 ⟨rfl, rfl⟩
  clear mN HN eN
  go_wp2_with fail
  refine HSw.out.mono ?_
  rintro e w2 ⟨rfl, HS2, HU2⟩
  clear mS c0 HSw eS
  have HD := hide_ (down_any b o B g c (swp l 0 n) 0 n w2 (by rw [swp_len, hn.out]; omega) (by rw [swp_len, hn.out]; omega) (by omega) (by rw [swp_len, hn.out]; exact hc) (by rw [swp_len, hn.out]; exact HS2))
  go_wp2_with fail
  refine HD.out.mono ?_
  rintro e w3 ⟨x, rfl, hS3, hU3⟩
  rw [swp_len, hn.out, HR.out] at hS3
  have HS3 := hide_ hS3
  have HU3 : Hid (Upd (fun k => k = g) w w3) := hide_ (HU2.out.trans hU3 (fun k _ e => by injection e with e; exact e.symm))
  clear hS3 hU3 HU2 HS2 HD
  have mP : Sem.run Tryz.prog (method 282 104 (.pointer (some ⟨b, o, none⟩)) "Pop") w3 = .ok (139, .pointer (some ⟨b, o, none⟩)) w3 := mPtr hm2 hf2 281 b o w3
  have HPp := hide_ (nPop_any b o B g c n R w3 HRl hl hc HS3)
  go_wp2_with fail
  refine HPp.out.mono ?_
  rintro e w4 ⟨rfl, rfl⟩
  have HX : Hid (NmS (w3.setCell ⟨b, o, none⟩ (.slice (some ⟨g, 0, none⟩) n c)) b o B (.slice (some ⟨g, 0, none⟩) n c) (R.take n) ∧ Upd (fun k => k = g ∨ k = b) w (w3.setCell ⟨b, o, none⟩ (.slice (some ⟨g, 0, none⟩) n c)) ∧ Kps w (w3.setCell ⟨b, o, none⟩ (.slice (some ⟨g, 0, none⟩) n c)) b o (.slice (some ⟨g, 0, none⟩) n c)) := hide_ (by
    obtain ⟨h1, h2⟩ := NmS.pop HRl.out HS3.out
    exact ⟨h1, (HU3.out.mono (fun k _ e => .inl e)).trans h2 (fun k _ e => .inr e), fun t xs hk => (hk.upd HU3.out (fun e => Hne.out e.symm)).set o _⟩)
  generalize w3.setCell ⟨b, o, none⟩ (.slice (some ⟨g, 0, none⟩) n c) = w5 at *
  clear mP HPp
  go_wp2_with fail
  go_ret
  exact ⟨rfl, hide_ HX.out.1, hide_ HX.out.2.1, hide_ HX.out.2.2⟩
end Go.Proofs.YtjamfbpdepahnaaGreat
