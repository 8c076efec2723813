import Derived.Test.YtiojpohmgjdgfaaGreatPart05
import Derived.Test.YtiojpohmgjdgfaaGreatPart10
import Derived.Test.YtiojpohmgjdgfaaGreatPart12
import Derived.Test.YtiojpohmgjdgfaaGreatPart01
import Derived.Test.YtiojpohmgjdgfaaGreatPart13

/- sound: the heap of numbers: its methods. -/
namespace Go.Proofs.YtiojpohmgjdgfaaGreat
open Go.RowKit
set_option linter.unusedVariables false

/-- A list of numbers of the call's own, its cells by hAt. -/
theorem IOwn.cellH {w : World} {B g n c : Nat} {l : List Int} (h : IOwn w B (.slice (some ⟨g, 0, none⟩) n c) l) {i : Nat} (hi : i < l.length) : w.cell? ⟨g, i, none⟩ = some (.int .i64 (hAt l i)) ∧ w.frozen? ⟨g, i, none⟩ = false := by
  obtain ⟨a, c', e, -, -, -, -, hx⟩ := own_open h rfl
  obtain ⟨g', e2, -, -, hc, hz⟩ := hx (by omega)
  injection e with e1
  rw [e2] at e1
  injection e1 with e1
  injection e1 with e1
  subst e1
  exact ⟨hc i hi, hz i⟩
theorem IOwn.open {w : World} {B : Nat} {v : Value} {l : List Int} (h : IOwn w B v l) (h0 : 0 < l.length) : ∃ g c, v = .slice (some ⟨g, 0, none⟩) l.length c ∧ l.length ≤ c ∧ B ≤ g ∧ g < w.heap.size := by
  obtain ⟨a, c', e, -, -, hc, -, hx⟩ := own_open h rfl
  obtain ⟨g', rfl, h1, h2, -⟩ := hx h0
  exact ⟨g', c', e, hc, h1, h2⟩
set_option maxRecDepth 100000 in
set_option maxHeartbeats 4000000 in
theorem nLen_any (a : Option Addr) (n c : Nat) (w : World) : Calls Tryz.prog 201 #[.slice a n c] w fun e w' => e = .returned (.int .i64 (n : Int)) ∧ w = w' := by
  go_enter Tryz.func201, Tryz.ntmps201
  go_wp2
  go_ret
  exact ⟨rfl, rfl⟩
set_option maxRecDepth 100000 in
set_option maxHeartbeats 4000000 in
theorem nLess_any {B g c : Nat} {l : List Int} (i j : Nat) (w : World) (hl : l.length ≤ 4000000) (hi : i < l.length) (hj : j < l.length) (hc : l.length ≤ c) (h : Hid (IOwn w B (.slice (some ⟨g, 0, none⟩) l.length c) l)) :
    Calls Tryz.prog 202 #[.slice (some ⟨g, 0, none⟩) l.length c, .int .i64 (i : Int), .int .i64 (j : Int)] w fun e w' => e = .returned (.bool (decide (hAt l i < hAt l j))) ∧ w.drew = w' := by
  have c1 := (h.out.cellH hi).1
  have c2 := (h.out.cellH hj).1
  have hi' : (i : Int) < (l.length : Int) := by omega
  have hj' : (j : Int) < (l.length : Int) := by omega
  go_enter Tryz.func202, Tryz.ntmps202
  go_wp2_with fail
  go_region
  go_wp2
  go_ret
  exact ⟨rfl, rfl⟩
set_option maxRecDepth 100000 in
set_option maxHeartbeats 4000000 in
theorem nSwap_any {B g c : Nat} {l : List Int} (i j : Nat) (w : World) (hl : l.length ≤ 4000000) (hi : i < l.length) (hj : j < l.length) (hc : l.length ≤ c) (h : Hid (IOwn w B (.slice (some ⟨g, 0, none⟩) l.length c) l)) :
    Calls Tryz.prog 203 #[.slice (some ⟨g, 0, none⟩) l.length c, .int .i64 (i : Int), .int .i64 (j : Int)] w fun e w' => e = .returned (.tuple #[]) ∧ ((w.setCell ⟨g, i, none⟩ (.int .i64 (hAt l j))).setCell ⟨g, j, none⟩ (.int .i64 (hAt l i))).drew = w' := by
  have hd := h.out
  have c1 := (hd.cellH hi).1
  have c2 := (hd.cellH hj).1
  have z1 := (hd.cellH hi).2
  have hi' : (i : Int) < (l.length : Int) := by omega
  have hj' : (j : Int) < (l.length : Int) := by omega
  have h1 := hd.set hi (hAt l j)
  have hl1 : (l.set i (hAt l j)).length = l.length := by simp
  have c3 := (IOwn.cellH (i := j) h1 (by rw [hl1]; exact hj)).1
  have z3 := (IOwn.cellH (i := j) h1 (by rw [hl1]; exact hj)).2
  clear h1 hl1 hd
  go_enter Tryz.func203, Tryz.ntmps203
  go_wp2_with fail
  refine wp_region_last 15 (fun _ => True) (by kernel_rfl) (trivial) (fun hHeld => ?_)
  refine wpAnyF_take [15] (by kernel_rfl) (i := 0) (v := ?vs1) rfl (by kernel_rfl) (by kernel_rfl) (by kernel_rfl) (fun _ _ _ h => h) (Or.inl ⟨by kernel_rfl, ?hys1⟩) hHeld ?rests1
  case hys1 => intro w' hSw; (try dsimp only at hSw); go_simp; try with_reducible rfl
  simp only [Act.put]
  refine wpAnyF_take [15] (by kernel_rfl) (i := 1) (v := ?vs2) rfl (by kernel_rfl) (by kernel_rfl) (by kernel_rfl) (fun _ _ _ h => h) (Or.inl ⟨by kernel_rfl, ?hys2⟩) hHeld ?rests2
  case hys2 => intro w' hSw; (try dsimp only at hSw); go_simp; try with_reducible rfl
  simp only [Act.put]
  refine wpAnyF_take [15] (by kernel_rfl) (i := 2) (v := ?vs3) rfl (by kernel_rfl) (by kernel_rfl) (by kernel_rfl) (fun _ _ _ h => h) (Or.inl ⟨by kernel_rfl, ?hys3⟩) hHeld ?rests3
  case hys3 => intro w' hSw; (try dsimp only at hSw); go_simp; try with_reducible rfl
  simp only [Act.put]
  refine wpAnyF_take [15] (by kernel_rfl) (i := 3) (v := ?vs4) rfl (by kernel_rfl) (by kernel_rfl) (by kernel_rfl) (fun _ _ _ h => h) (Or.inl ⟨by kernel_rfl, ?hys4⟩) hHeld ?rests4
  case hys4 => intro w' hSw; (try dsimp only at hSw); go_simp; try with_reducible rfl
  simp only [Act.put]
  refine wpAnyF_take [15] (by kernel_rfl) (i := 4) (v := ?vs5) rfl (by kernel_rfl) (by kernel_rfl) (by kernel_rfl) (fun _ _ _ h => h) (Or.inl ⟨by kernel_rfl, ?hys5⟩) hHeld ?rests5
  case hys5 => intro w' hSw; (try dsimp only at hSw); go_simp; try with_reducible rfl
  simp only [Act.put]
  refine wpAnyF_take [15] (by kernel_rfl) (i := 5) (v := ?vs6) rfl (by kernel_rfl) (by kernel_rfl) (by kernel_rfl) (fun _ _ _ h => h) (Or.inl ⟨by kernel_rfl, ?hys6⟩) hHeld ?rests6
  case hys6 => intro w' hSw; (try dsimp only at hSw); go_simp; try with_reducible rfl
  simp only [Act.put]
  refine wpAnyF_take [15] (by kernel_rfl) (i := 6) (v := ?vs7) rfl (by kernel_rfl) (by kernel_rfl) (by kernel_rfl) (fun _ _ _ h => h) (Or.inl ⟨by kernel_rfl, ?hys7⟩) hHeld ?rests7
  case hys7 => intro w' hSw; (try dsimp only at hSw); go_simp; try with_reducible rfl
  simp only [Act.put]
  refine wpAnyF_take [15] (by kernel_rfl) (i := 8) (v := ?vs8) rfl (by kernel_rfl) (by kernel_rfl) (by kernel_rfl) (fun _ _ _ h => h) (Or.inl ⟨by kernel_rfl, ?hys8⟩) hHeld ?rests8
  case hys8 => intro w' hSw; (try dsimp only at hSw); go_simp; try with_reducible rfl
  simp only [Act.put]
  refine wpAnyF_take [15] (by kernel_rfl) (i := 9) (v := ?vs9) rfl (by kernel_rfl) (by kernel_rfl) (by kernel_rfl) (fun _ _ _ h => h) (Or.inl ⟨by kernel_rfl, ?hys9⟩) hHeld ?rests9
  case hys9 => intro w' hSw; (try dsimp only at hSw); go_simp; try with_reducible rfl
  simp only [Act.put]
  refine wpAnyF_take [15] (by kernel_rfl) (i := 10) (v := ?vs10) rfl (by kernel_rfl) (by kernel_rfl) (by kernel_rfl) (fun _ _ _ h => h) (Or.inl ⟨by kernel_rfl, ?hys10⟩) hHeld ?rests10
  case hys10 => intro w' hSw; (try dsimp only at hSw); go_simp; try with_reducible rfl
  simp only [Act.put]
  refine wpAnyF_ready (rs := [7, 11]) (by kernel_rfl) (by simp) ?_
  refine AllReadyF.cons rfl (fun K hK => ?_) ?_
  · go_simp
    refine hK.out _ _ (trivial) (fun hHeld => ?_)
    clear hK K
    refine wpAnyF_ready (rs := [11]) (by kernel_rfl) (by simp) ?_
    refine AllReadyF.cons rfl (fun K hK => ?_) AllReadyF.nil
    go_simp
    refine hK.out _ _ (trivial) (fun hHeld => ?_)
    clear hK K
    refine wpAnyF_take [15] (by kernel_rfl) (i := 12) (v := ?vs11) rfl (by kernel_rfl) (by kernel_rfl) (by kernel_rfl) (fun _ _ _ h => h) (Or.inl ⟨by kernel_rfl, ?hys11⟩) hHeld ?rests11
    case hys11 => intro w' hSw; (try dsimp only at hSw); go_simp; try with_reducible rfl
    simp only [Act.put]
    refine wpAnyF_ready (rs := [13]) (by kernel_rfl) (by simp) ?_
    refine AllReadyF.cons rfl (fun K hK => ?_) AllReadyF.nil
    go_simp
    refine hK.out _ _ (trivial) (fun hHeld => ?_)
    clear hK K
    refine wpAnyF_take [15] (by kernel_rfl) (i := 14) (v := ?vs12) rfl (by kernel_rfl) (by kernel_rfl) (by kernel_rfl) (fun _ _ _ h => h) (Or.inl ⟨by kernel_rfl, ?hys12⟩) hHeld ?rests12
    case hys12 => intro w' hSw; (try dsimp only at hSw); go_simp; try with_reducible rfl
    simp only [Act.put]
    refine wpAnyF_ready (rs := [15]) (by kernel_rfl) (by simp) ?_
    refine AllReadyF.last rfl (fun K hK => ?_)
    go_simp
    refine hK.out _ _ ?_
    clear hK K
    refine wpAnyF_done (by kernel_rfl) ?_ _
    go_wp2_with fail
    go_end0
    exact ⟨rfl, rfl⟩
  refine AllReadyF.cons rfl (fun K hK => ?_) AllReadyF.nil
  go_simp
  refine hK.out _ _ (trivial) (fun hHeld => ?_)
  clear hK K
  refine wpAnyF_ready (rs := [7]) (by kernel_rfl) (by simp) ?_
  refine AllReadyF.cons rfl (fun K hK => ?_) AllReadyF.nil
  go_simp
  refine hK.out _ _ (trivial) (fun hHeld => ?_)
  clear hK K
  refine wpAnyF_take [15] (by kernel_rfl) (i := 12) (v := ?vs13) rfl (by kernel_rfl) (by kernel_rfl) (by kernel_rfl) (fun _ _ _ h => h) (Or.inl ⟨by kernel_rfl, ?hys13⟩) hHeld ?rests13
  case hys13 => intro w' hSw; (try dsimp only at hSw); go_simp; try with_reducible rfl
  simp only [Act.put]
  refine wpAnyF_ready (rs := [13]) (by kernel_rfl) (by simp) ?_
  refine AllReadyF.cons rfl (fun K hK => ?_) AllReadyF.nil
  go_simp
  refine hK.out _ _ (trivial) (fun hHeld => ?_)
  clear hK K
  refine wpAnyF_take [15] (by kernel_rfl) (i := 14) (v := ?vs14) rfl (by kernel_rfl) (by kernel_rfl) (by kernel_rfl) (fun _ _ _ h => h) (Or.inl ⟨by kernel_rfl, ?hys14⟩) hHeld ?rests14
  case hys14 => intro w' hSw; (try dsimp only at hSw); go_simp; try with_reducible rfl
  simp only [Act.put]
  refine wpAnyF_ready (rs := [15]) (by kernel_rfl) (by simp) ?_
  refine AllReadyF.last rfl (fun K hK => ?_)
  go_simp
  refine hK.out _ _ ?_
  clear hK K
  refine wpAnyF_done (by kernel_rfl) ?_ _
  go_wp2_with fail
  go_end0
  exact ⟨rfl, rfl⟩
theorem swap_own {B g c : Nat} {l : List Int} {i j : Nat} {w : World} (hi : i < l.length) (hj : j < l.length) (h : IOwn w B (.slice (some ⟨g, 0, none⟩) l.length c) l) : IOwn (((w.setCell ⟨g, i, none⟩ (.int .i64 (hAt l j))).setCell ⟨g, j, none⟩ (.int .i64 (hAt l i))).drew) B (.slice (some ⟨g, 0, none⟩) l.length c) (swp l i j) := by
  have h1 := h.set hi (hAt l j)
  have hl1 : (l.set i (hAt l j)).length = l.length := by simp
  have h2 := IOwn.set (i := j) h1 (by rw [hl1]; exact hj) (hAt l i)
  have h3 := h2.later ((Below.refl _ _).drew)
  simpa [swp] using h3
end Go.Proofs.YtiojpohmgjdgfaaGreat

/- sound: container/heap over numbers: methods through the interface, up. -/
namespace Go.Proofs.YtiojpohmgjdgfaaGreat
open Go.RowKit
set_option linter.unusedVariables false

theorem wrapOk (x : Addr) (s t : ByteArray) (w : World) : (Builtin.ssaWrapNilChk_ #[153] 153 #[.pointer (some x), .string s, .string t]).run Tryz.prog w = .ok (.pointer (some x)) w := by rfl
theorem hm0 : Array.find? (fun x => x.name == "Len") Tryz.t153.methods = Tryz.t153.methods[0]? := by kernel_rfl
theorem hm1 : Array.find? (fun x => x.name == "Less") Tryz.t153.methods = Tryz.t153.methods[1]? := by kernel_rfl
theorem hm2 : Array.find? (fun x => x.name == "Pop") Tryz.t153.methods = Tryz.t153.methods[2]? := by kernel_rfl
theorem hm3 : Array.find? (fun x => x.name == "Push") Tryz.t153.methods = Tryz.t153.methods[3]? := by kernel_rfl
theorem hm4 : Array.find? (fun x => x.name == "Swap") Tryz.t153.methods = Tryz.t153.methods[4]? := by kernel_rfl
theorem hf0 : (Tryz.t153.methods[0]?).map (fun m => (m.func, m.path)) = some (some (201, false), #[]) := by kernel_rfl
theorem hf1 : (Tryz.t153.methods[1]?).map (fun m => (m.func, m.path)) = some (some (202, false), #[]) := by kernel_rfl
theorem hf2 : (Tryz.t153.methods[2]?).map (fun m => (m.func, m.path)) = some (some (224, true), #[]) := by kernel_rfl
theorem hf3 : (Tryz.t153.methods[3]?).map (fun m => (m.func, m.path)) = some (some (225, true), #[]) := by kernel_rfl
theorem hf4 : (Tryz.t153.methods[4]?).map (fun m => (m.func, m.path)) = some (some (203, false), #[]) := by kernel_rfl
/-- A method whose receiver is the list itself. -/
theorem mVal {nm : String} {q f : Nat} (hm : Array.find? (fun x => x.name == nm) Tryz.t153.methods = Tryz.t153.methods[q]?) (hf : (Tryz.t153.methods[q]?).map (fun m => (m.func, m.path)) = some (some (f, false), #[])) (k b o : Nat) (a : Option Addr) (n c : Nat) (w : World) (h : w.cell? ⟨b, o, none⟩ = some (.slice a n c)) :
    (method (k + 1) 153 (.pointer (some ⟨b, o, none⟩)) nm).run Tryz.prog w = .ok (f, .slice a n c) w := by
  obtain ⟨m, h1, h2⟩ := Option.map_eq_some_iff.1 hf
  have h3 : Array.find? (fun x => x.name == nm) Tryz.t153.methods = some m := hm.trans h1
  have h4 : m.func = some (f, false) := congrArg Prod.fst h2
  have h5 : m.path = #[] := congrArg Prod.snd h2
  unfold method
  simp [h3, h4, h5, follow, receiverAt, Place.get, strVal, wrapOk, asAddr, loadVar, h, Result.andThen, go_sem]
/-- A method whose receiver is the pointer. -/
theorem mPtr {nm : String} {q f : Nat} (hm : Array.find? (fun x => x.name == nm) Tryz.t153.methods = Tryz.t153.methods[q]?) (hf : (Tryz.t153.methods[q]?).map (fun m => (m.func, m.path)) = some (some (f, true), #[])) (k b o : Nat) (w : World) :
    (method (k + 1) 153 (.pointer (some ⟨b, o, none⟩)) nm).run Tryz.prog w = .ok (f, .pointer (some ⟨b, o, none⟩)) w := by
  obtain ⟨m, h1, h2⟩ := Option.map_eq_some_iff.1 hf
  have h3 : Array.find? (fun x => x.name == nm) Tryz.t153.methods = some m := hm.trans h1
  have h4 : m.func = some (f, true) := congrArg Prod.fst h2
  have h5 : m.path = #[] := congrArg Prod.snd h2
  unfold method
  simp [h3, h4, h5, follow, receiverAt, Place.get, strVal, asAddr, loadVar, Result.andThen, go_sem]
/-- The heap lies here. -/
structure NmS (w : World) (b o B : Nat) (v : Value) (l : List Int) : Prop where
  cell : w.cell? ⟨b, o, none⟩ = some v
  fz : w.frozen? ⟨b, o, none⟩ = false
  own : IOwn w B v l
  ne : ∀ k, v.ownBlock = some k → k ≠ b
  lt : b < w.heap.size
theorem NmS.swap {w : World} {b o B g n c : Nat} {l : List Int} {i j : Nat} (h : NmS w b o B (.slice (some ⟨g, 0, none⟩) l.length c) l) (hi : i < l.length) (hj : j < l.length) : NmS (((w.setCell ⟨g, i, none⟩ (.int .i64 (hAt l j))).setCell ⟨g, j, none⟩ (.int .i64 (hAt l i))).drew) b o B (.slice (some ⟨g, 0, none⟩) l.length c) (swp l i j) ∧ Upd (fun k => k = g) w (((w.setCell ⟨g, i, none⟩ (.int .i64 (hAt l j))).setCell ⟨g, j, none⟩ (.int .i64 (hAt l i))).drew) := by
  have hg : g ≠ b := h.ne g rfl
  have hU : Upd (fun k => k = g) w ((w.setCell ⟨g, i, none⟩ (.int .i64 (hAt l j))).setCell ⟨g, j, none⟩ (.int .i64 (hAt l i))) := ((Upd.refl (fun k => k = g) w).set _ _ (.inl rfl)).set _ _ (.inl rfl)
  have hU2 : Upd (fun k => k = g) w (((w.setCell ⟨g, i, none⟩ (.int .i64 (hAt l j))).setCell ⟨g, j, none⟩ (.int .i64 (hAt l i))).drew) := hU.then ((Below.refl _ _).drew)
  refine ⟨⟨?_, ?_, swap_own hi hj h.own, h.ne, Nat.lt_of_lt_of_le h.lt hU2.size⟩, hU2⟩
  · rw [World.cell?_of_block (w := w) (hU2.block b h.lt (fun e => hg e.symm))]
    exact h.cell
  · rw [World.frozen?_of_block (w := w) (hU2.block b h.lt (fun e => hg e.symm))]
    exact h.fz
theorem upF_fuel : ∀ (f : Nat) (l : List Int) (j : Nat), j < f → upF f l j = upF (j + 1) l j
  | 0, l, j, h => by omega
  | f + 1, l, j, h => by
    rw [upF, upF]
    by_cases h0 : j = 0
    · rw [if_pos h0, if_pos h0]
    rw [if_neg h0, if_neg h0]
    split
    · rw [upF_fuel f _ _ (by omega), upF_fuel j _ _ (by omega)]
    · rfl
theorem enLess (args : Array Value) (w : World) : (callFunc 202 args).run Tryz.prog w = .ok (.enter 202 args) w := by kernel_rfl
theorem enSwap (args : Array Value) (w : World) : (callFunc 203 args).run Tryz.prog w = .ok (.enter 203 args) w := by kernel_rfl
theorem enLen (args : Array Value) (w : World) : (callFunc 201 args).run Tryz.prog w = .ok (.enter 201 args) w := by kernel_rfl
theorem enPush (args : Array Value) (w : World) : (callFunc 225 args).run Tryz.prog w = .ok (.enter 225 args) w := by kernel_rfl
theorem enPop (args : Array Value) (w : World) : (callFunc 224 args).run Tryz.prog w = .ok (.enter 224 args) w := by kernel_rfl
/-- What up and down leave. -/
def HpTo (w : World) (b o B : Nat) (v : Value) (l' : List Int) (e : Ending) (x : Value) (w' : World) : Prop := e = .returned x ∧ NmS w' b o B v l' ∧ Upd (fun k => v.ownBlock = some k) w w'
theorem NmS.drew {w : World} {b o B : Nat} {v : Value} {l : List Int} (h : NmS w b o B v l) : NmS w.drew b o B v l := ⟨h.cell, h.fz, h.own.later ((Below.refl _ _).drew), h.ne, h.lt⟩
theorem nLess_in {b o B g c n : Nat} {m : List Int} (i q : Nat) (w : World) (hm : m.length = n) (hl : n ≤ 4000000) (hi : i < n) (hq : q < n) (hc : n ≤ c) (h : NmS w b o B (.slice (some ⟨g, 0, none⟩) n c) m) :
    Calls Tryz.prog 202 #[.slice (some ⟨g, 0, none⟩) n c, .int .i64 (i : Int), .int .i64 (q : Int)] w fun e w' => e = .returned (.bool (decide (hAt m i < hAt m q))) ∧ Hid (NmS w' b o B (.slice (some ⟨g, 0, none⟩) n c) m) ∧ Hid (Upd (fun k => k = g) w w') := by
  subst hm
  refine (nLess_any (B := B) i q w hl hi hq hc (hide_ h.own)).mono ?_
  rintro e w' ⟨rfl, rfl⟩
  exact ⟨rfl, hide_ h.drew, hide_ ((Upd.refl _ w).then ((Below.refl _ _).drew))⟩
theorem nSwap_in {b o B g c n : Nat} {m : List Int} (i q : Nat) (w : World) (hm : m.length = n) (hl : n ≤ 4000000) (hi : i < n) (hq : q < n) (hc : n ≤ c) (h : NmS w b o B (.slice (some ⟨g, 0, none⟩) n c) m) :
    Calls Tryz.prog 203 #[.slice (some ⟨g, 0, none⟩) n c, .int .i64 (i : Int), .int .i64 (q : Int)] w fun e w' => e = .returned (.tuple #[]) ∧ Hid (NmS w' b o B (.slice (some ⟨g, 0, none⟩) n c) (swp m i q)) ∧ Hid (Upd (fun k => k = g) w w') := by
  subst hm
  refine (nSwap_any (B := B) i q w hl hi hq hc (hide_ h.own)).mono ?_
  rintro e w' ⟨rfl, rfl⟩
  obtain ⟨h1, h2⟩ := NmS.swap (n := 0) h hi hq
  exact ⟨rfl, hide_ h1, hide_ h2⟩
set_option maxRecDepth 100000 in
set_option maxHeartbeats 8000000 in
theorem up_any (b o B g c : Nat) (l : List Int) (j : Nat) (w : World) (hl : l.length ≤ 4000000) (hj : j < l.length) (hc : l.length ≤ c) (h : Hid (NmS w b o B (.slice (some ⟨g, 0, none⟩) l.length c) l)) :
    Calls Tryz.prog 169 #[.iface 153 (.pointer (some ⟨b, o, none⟩)), .int .i64 (j : Int)] w fun e w' => HpTo w b o B (.slice (some ⟨g, 0, none⟩) l.length c) (upF (j + 1) l j) e (.tuple #[]) w' := by
  obtain ⟨R, hR⟩ : ∃ R, upF (j + 1) l j = R := ⟨_, rfl⟩
  rw [hR]
  have HR := hide_ hR
  obtain ⟨n, hn⟩ : ∃ n, l.length = n := ⟨_, rfl⟩
  have Hn := hide_ hn
  rw [hn] at hl hj hc h ⊢
  clear hR hn
  go_enter Tryz.func169, Tryz.ntmps169
  go_wp2_with fail
  go_loopw [1] (fun x1 wr => ∃ (i : Nat) (m : List Int), i < n ∧ x1 = .int .i64 (i : Int) ∧ Hid (m.length = n) ∧ Hid (upF (i + 1) m i = R) ∧ Hid (NmS wr b o B (.slice (some ⟨g, 0, none⟩) n c) m) ∧ Hid (Upd (fun k => k = g) w wr)) (fun x1 _ => (intOf x1).toNat)
  case atStart => exact ⟨j, l, hj, rfl, Hn, HR, h, hide_ (Upd.refl _ _)⟩
  case round =>
    clear HR h Hn hj
    obtain ⟨i, m, hi, rfl, Hm, HR, HS, HU⟩ := hrel
    generalize wr = wq at *
    have c0 := HS.out.cell
    have mL : Sem.run Tryz.prog (method 344 153 (.pointer (some ⟨b, o, none⟩)) "Less") wq = .ok (202, .slice (some ⟨g, 0, none⟩) n c) wq := mVal hm1 hf1 343 b o (some ⟨g, 0, none⟩) n c wq c0
    have eL := enLess
    have hw1 : IntKind.i64.wrap ((i : Int) - 1) = (i : Int) - 1 := i64w _ (by omega)
    by_cases h0 : i = 0
    · have hq : Int.tdiv ((i : Int) - 1) 2 = (i : Int) := by rw [h0]; decide
      have HA : Hid (HpTo w b o B (.slice (some ⟨g, 0, none⟩) n c) R (.returned (.tuple #[])) (.tuple #[]) wq) := hide_ (by
        refine ⟨rfl, ?_, HU.out.mono (fun k _ e => by rw [e]; rfl)⟩
        have h1 := HR.out
        rw [upF, if_pos h0] at h1
        rw [← h1]
        exact HS.out)
      clear h0
      go_wp2_with fail
      go_end0
      exact HA.out
    · obtain ⟨q, hq⟩ : ∃ q : Nat, (i - 1) / 2 = q := ⟨_, rfl⟩
      have hqi : q < i := by omega
      have hqd : Int.tdiv ((i : Int) - 1) 2 = (q : Int) := by
        rw [Int.tdiv_eq_ediv_of_nonneg (by omega)]
        omega
      have hwq : IntKind.i64.wrap (q : Int) = (q : Int) := i64w _ (by omega)
      have hne : ¬ (q : Int) = (i : Int) := by omega
      have hned : decide ((q : Int) = (i : Int)) = false := decide_eq_false hne
      have HLs := hide_ (nLess_in (b := b) (o := o) (B := B) (g := g) (c := c) (m := m) i q wq Hm.out hl hi (by omega) hc HS.out)
      have Hq := hide_ hq
      have H0 := hide_ h0
      clear hq h0
      go_wp2_with fail
      refine HLs.out.mono ?_
      rintro e w2 ⟨rfl, HS2, HU2⟩
      have HU3 : Hid (Upd (fun k => k = g) w w2) := hide_ (HU.out.trans HU2.out (fun _ _ e => e))
      clear mL eL c0 HS HU HU2 HLs
      have hR := HR.out
      rw [upF, if_neg H0.out, Hq.out] at hR
      by_cases hlt : hAt m i < hAt m q
      · have hd : decide (hAt m i < hAt m q) = true := decide_eq_true hlt
        rw [hd]
        rw [if_pos hlt] at hR
        have HR2 : Hid (upF (q + 1) (swp m q i) q = R) := hide_ (by rw [← hR, upF_fuel i _ _ hqi])
        have HM2 : Hid ((swp m q i).length = n) := hide_ (by rw [swp_len]; exact Hm.out)
        have c2 := HS2.out.cell
        have mS : Sem.run Tryz.prog (method 344 153 (.pointer (some ⟨b, o, none⟩)) "Swap") w2 = .ok (203, .slice (some ⟨g, 0, none⟩) n c) w2 := mVal hm4 hf4 343 b o (some ⟨g, 0, none⟩) n c w2 c2
        have eS := enSwap
        have HSw := hide_ (nSwap_in (b := b) (o := o) (B := B) (g := g) (c := c) (m := m) q i w2 Hm.out hl (by omega) hi hc HS2.out)
        clear hlt hd hR HR Hm HS2
        go_wp2_with fail
        refine HSw.out.mono ?_
        rintro e w3 ⟨rfl, HS4, HU4⟩
        have HU5 : Hid (Upd (fun k => k = g) w w3) := hide_ (HU3.out.trans HU4.out (fun _ _ e => e))
        clear mS eS c2 HU3 HU4 HSw
        go_wp2_with fail
        go_roundw
        case rel => exact ⟨q, _, by omega, by go_num, HM2, HR2, HS4, HU5⟩
        case measure => simp [intOf]; omega
      · have hd : decide (hAt m i < hAt m q) = false := decide_eq_false hlt
        rw [hd]
        rw [if_neg hlt] at hR
        have HA : Hid (HpTo w b o B (.slice (some ⟨g, 0, none⟩) n c) R (.returned (.tuple #[])) (.tuple #[]) w2) := hide_ ⟨rfl, by rw [← hR]; exact HS2.out, HU3.out.mono (fun k _ e => by rw [e]; rfl)⟩
        clear hlt hd hR HR Hm HS2 HU3
        go_wp2_with fail
        go_end0
        exact HA.out
end Go.Proofs.YtiojpohmgjdgfaaGreat

/- sound: container/heap over numbers: down. -/
namespace Go.Proofs.YtiojpohmgjdgfaaGreat
open Go.RowKit
set_option linter.unusedVariables false

theorem downF_fuel : ∀ (f e : Nat) (l : List Int) (i n : Nat), n < f + i → n < e + i → downF f l i n = downF e l i n
  | 0, 0, l, i, n, h, h' => rfl
  | 0, e + 1, l, i, n, h, h' => by rw [downF, downF, if_pos (by omega)]
  | f + 1, 0, l, i, n, h, h' => by rw [downF, downF, if_pos (by omega)]
  | f + 1, e + 1, l, i, n, h, h' => by
    rw [downF, downF]
    by_cases h0 : n ≤ 2 * i + 1
    · rw [if_pos h0, if_pos h0]
    rw [if_neg h0, if_neg h0]
    have hk := (lowK_in (l := l) (i := i) (n := n) (by omega)).2.1
    split
    · exact downF_fuel f e _ _ _ (by omega) (by omega)
    · rfl
/-- What down leaves (a word of its own: simp splits a Boolean's 'there is'). -/
def DnTo (w : World) (b o B : Nat) (v : Value) (l' : List Int) (e : Ending) (w' : World) : Prop := ∃ x : Bool, HpTo w b o B v l' e (.bool x) w'
theorem dn_ret {w w' : World} {b o B g n c : Nat} {R : List Int} {y : Bool} (h : NmS w' b o B (.slice (some ⟨g, 0, none⟩) n c) R ∧ Upd (fun k => k = g) w w') : DnTo w b o B (.slice (some ⟨g, 0, none⟩) n c) R (.returned (.bool y)) w' := ⟨y, rfl, h.1, h.2.mono (fun k _ e => by rw [e]; rfl)⟩
set_option maxRecDepth 100000 in
set_option maxHeartbeats 8000000 in
theorem down_any (b o B g c : Nat) (l : List Int) (j k : Nat) (w : World) (hl : l.length ≤ 4000000) (hj : k ≤ l.length) (hjk : j ≤ l.length) (hc : l.length ≤ c) (h : Hid (NmS w b o B (.slice (some ⟨g, 0, none⟩) l.length c) l)) :
    Calls Tryz.prog 152 #[.iface 153 (.pointer (some ⟨b, o, none⟩)), .int .i64 (j : Int), .int .i64 (k : Int)] w fun e w' => DnTo w b o B (.slice (some ⟨g, 0, none⟩) l.length c) (downF (k + 1) l j k) e w' := by
  obtain ⟨R, hR⟩ : ∃ R, downF (k + 1) l j k = R := ⟨_, rfl⟩
  rw [hR]
  have HR := hide_ hR
  obtain ⟨n, hn⟩ : ∃ n, l.length = n := ⟨_, rfl⟩
  have Hn := hide_ hn
  rw [hn] at hl hj hjk hc h ⊢
  clear hR hn
  go_enter Tryz.func152, Tryz.ntmps152
  go_wp2_with fail
  go_loopw [7] (fun x7 wr => ∃ (i : Nat) (m : List Int), i ≤ n ∧ x7 = .int .i64 (i : Int) ∧ Hid (m.length = n) ∧ Hid (downF (k + 1) m i k = R) ∧ Hid (NmS wr b o B (.slice (some ⟨g, 0, none⟩) n c) m) ∧ Hid (Upd (fun k => k = g) w wr)) (fun x7 _ => n - (intOf x7).toNat)
  case atStart => exact ⟨j, l, hjk, rfl, Hn, HR, h, hide_ (Upd.refl _ _)⟩
  case round =>
    clear HR h Hn
    obtain ⟨i, m, hi, rfl, Hm, HR, HS, HU⟩ := hrel
    generalize wr = wq at *
    obtain ⟨p, hp⟩ : ∃ p : Nat, 2 * i + 1 = p := ⟨_, rfl⟩
    obtain ⟨r, hr⟩ : ∃ r : Nat, 2 * i + 2 = r := ⟨_, rfl⟩
    have hw1 : IntKind.i64.wrap (2 * (i : Int)) = 2 * (i : Int) := i64w _ (by omega)
    have hw2 : IntKind.i64.wrap (2 * (i : Int) + 1) = (p : Int) := by rw [i64w _ (by omega)]; omega
    have hw3 : IntKind.i64.wrap ((p : Int) + 1) = (r : Int) := by rw [i64w _ (by omega)]; omega
    have hp0 : ¬ (p : Int) < 0 := by omega
    by_cases h0 : k ≤ p
    · have h0' : (k : Int) ≤ (p : Int) := by omega
      have HA : Hid (NmS wq b o B (.slice (some ⟨g, 0, none⟩) n c) R ∧ Upd (fun k => k = g) w wq) := hide_ (by
        have h1 := HR.out
        rw [downF, if_pos (by omega)] at h1
        rw [← h1]
        exact ⟨HS.out, HU.out⟩)
      clear HR HS HU Hm h0
      go_wp2_with fail
      go_ret
      exact dn_ret HA.out
    have h0' : ¬ (k : Int) ≤ (p : Int) := by omega
    have H0 : Hid (¬ k ≤ 2 * i + 1) := hide_ (by omega)
    by_cases h1 : r < k
    · have h1' : (r : Int) < (k : Int) := by omega
      have c0 := HS.out.cell
      have mL : Sem.run Tryz.prog (method 344 153 (.pointer (some ⟨b, o, none⟩)) "Less") wq = .ok (202, .slice (some ⟨g, 0, none⟩) n c) wq := mVal hm1 hf1 343 b o (some ⟨g, 0, none⟩) n c wq c0
      have eL0 := enLess
      have HLs := hide_ (nLess_in (b := b) (o := o) (B := B) (g := g) (c := c) (m := m) r p wq Hm.out hl (by omega) (by omega) hc HS.out)
      go_wp2_with fail
      refine HLs.out.mono ?_
      rintro e w2 ⟨rfl, HS2, HV2⟩
      have HU2 : Hid (Upd (fun k => k = g) w w2) := hide_ (HU.out.trans HV2.out (fun _ _ e => e))
      clear mL eL0 c0 HS HU HV2 HLs
      by_cases hlo : hAt m r < hAt m p
      · have hd : decide (hAt m r < hAt m p) = true := decide_eq_true hlo
        rw [hd]
        have Hq : Hid (lowK m i k = r) := hide_ (by rw [lowK, hp, hr, if_pos ⟨h1, hlo⟩])
        clear hlo hd
        have c2 := HS2.out.cell
        have mL2 : Sem.run Tryz.prog (method 344 153 (.pointer (some ⟨b, o, none⟩)) "Less") w2 = .ok (202, .slice (some ⟨g, 0, none⟩) n c) w2 := mVal hm1 hf1 343 b o (some ⟨g, 0, none⟩) n c w2 c2
        have eL := enLess
        have HL2 := hide_ (nLess_in (b := b) (o := o) (B := B) (g := g) (c := c) (m := m) r i w2 Hm.out hl (by omega) (by omega) hc HS2.out)
        go_wp2_with fail
        refine HL2.out.mono ?_
        rintro e w4 ⟨rfl, HS4, HV4⟩
        have HU4 : Hid (Upd (fun k => k = g) w w4) := hide_ (HU2.out.trans HV4.out (fun _ _ e => e))
        clear mL2 eL c2 HS2 HU2 HV4 HL2
        have hR := HR.out
        rw [downF, if_neg H0.out, Hq.out] at hR
        by_cases hlt : hAt m r < hAt m i
        · have hd : decide (hAt m r < hAt m i) = true := decide_eq_true hlt
          rw [hd]
          rw [if_pos hlt] at hR
          have HR2 : Hid (downF (k + 1) (swp m i r) r k = R) := hide_ (by rw [← hR]; exact downF_fuel _ _ _ _ _ (by omega) (by omega))
          have HM2 : Hid ((swp m i r).length = n) := hide_ (by rw [swp_len]; exact Hm.out)
          have c3 := HS4.out.cell
          have mS : Sem.run Tryz.prog (method 344 153 (.pointer (some ⟨b, o, none⟩)) "Swap") w4 = .ok (203, .slice (some ⟨g, 0, none⟩) n c) w4 := mVal hm4 hf4 343 b o (some ⟨g, 0, none⟩) n c w4 c3
          have eS := enSwap
          have HSw := hide_ (nSwap_in (b := b) (o := o) (B := B) (g := g) (c := c) (m := m) i r w4 Hm.out hl (by omega) (by omega) hc HS4.out)
          clear hlt hd hR HR Hm HS4
          go_wp2_with fail
          refine HSw.out.mono ?_
          rintro e w5 ⟨rfl, HS5, HV5⟩
          have HU5 : Hid (Upd (fun k => k = g) w w5) := hide_ (HU4.out.trans HV5.out (fun _ _ e => e))
          clear mS eS c3 HU4 HV5 HSw
          go_wp2_with fail
          go_roundw
          case rel => exact ⟨r, _, by omega, by go_num, HM2, HR2, HS5, HU5⟩
          case measure => simp [intOf]; omega
        · have hd : decide (hAt m r < hAt m i) = false := decide_eq_false hlt
          rw [hd]
          rw [if_neg hlt] at hR
          have HA : Hid (NmS w4 b o B (.slice (some ⟨g, 0, none⟩) n c) R ∧ Upd (fun k => k = g) w w4) := hide_ ⟨by rw [← hR]; exact HS4.out, HU4.out⟩
          clear hlt hd hR HR Hm HS4 HU4
          go_wp2_with fail
          go_ret
          exact dn_ret HA.out
      · have hd : decide (hAt m r < hAt m p) = false := decide_eq_false hlo
        rw [hd]
        have Hq : Hid (lowK m i k = p) := hide_ (by rw [lowK, hp, hr, if_neg (fun e => hlo e.2)])
        clear hlo hd
        have c2 := HS2.out.cell
        have mL2 : Sem.run Tryz.prog (method 344 153 (.pointer (some ⟨b, o, none⟩)) "Less") w2 = .ok (202, .slice (some ⟨g, 0, none⟩) n c) w2 := mVal hm1 hf1 343 b o (some ⟨g, 0, none⟩) n c w2 c2
        have eL := enLess
        have HL2 := hide_ (nLess_in (b := b) (o := o) (B := B) (g := g) (c := c) (m := m) p i w2 Hm.out hl (by omega) (by omega) hc HS2.out)
        go_wp2_with fail
        refine HL2.out.mono ?_
        rintro e w4 ⟨rfl, HS4, HV4⟩
        have HU4 : Hid (Upd (fun k => k = g) w w4) := hide_ (HU2.out.trans HV4.out (fun _ _ e => e))
        clear mL2 eL c2 HS2 HU2 HV4 HL2
        have hR := HR.out
        rw [downF, if_neg H0.out, Hq.out] at hR
        by_cases hlt : hAt m p < hAt m i
        · have hd : decide (hAt m p < hAt m i) = true := decide_eq_true hlt
          rw [hd]
          rw [if_pos hlt] at hR
          have HR2 : Hid (downF (k + 1) (swp m i p) p k = R) := hide_ (by rw [← hR]; exact downF_fuel _ _ _ _ _ (by omega) (by omega))
          have HM2 : Hid ((swp m i p).length = n) := hide_ (by rw [swp_len]; exact Hm.out)
          have c3 := HS4.out.cell
          have mS : Sem.run Tryz.prog (method 344 153 (.pointer (some ⟨b, o, none⟩)) "Swap") w4 = .ok (203, .slice (some ⟨g, 0, none⟩) n c) w4 := mVal hm4 hf4 343 b o (some ⟨g, 0, none⟩) n c w4 c3
          have eS := enSwap
          have HSw := hide_ (nSwap_in (b := b) (o := o) (B := B) (g := g) (c := c) (m := m) i p w4 Hm.out hl (by omega) (by omega) hc HS4.out)
          clear hlt hd hR HR Hm HS4
          go_wp2_with fail
          refine HSw.out.mono ?_
          rintro e w5 ⟨rfl, HS5, HV5⟩
          have HU5 : Hid (Upd (fun k => k = g) w w5) := hide_ (HU4.out.trans HV5.out (fun _ _ e => e))
          clear mS eS c3 HU4 HV5 HSw
          go_wp2_with fail
          go_roundw
          case rel => exact ⟨p, _, by omega, by go_num, HM2, HR2, HS5, HU5⟩
          case measure => simp [intOf]; omega
        · have hd : decide (hAt m p < hAt m i) = false := decide_eq_false hlt
          rw [hd]
          rw [if_neg hlt] at hR
          have HA : Hid (NmS w4 b o B (.slice (some ⟨g, 0, none⟩) n c) R ∧ Upd (fun k => k = g) w w4) := hide_ ⟨by rw [← hR]; exact HS4.out, HU4.out⟩
          clear hlt hd hR HR Hm HS4 HU4
          go_wp2_with fail
          go_ret
          exact dn_ret HA.out
    · have h1' : ¬ (r : Int) < (k : Int) := by omega
      have Hq : Hid (lowK m i k = p) := hide_ (by rw [lowK, hp, hr, if_neg (fun e => h1 e.1)])
      have c2 := HS.out.cell
      have mL2 : Sem.run Tryz.prog (method 344 153 (.pointer (some ⟨b, o, none⟩)) "Less") wq = .ok (202, .slice (some ⟨g, 0, none⟩) n c) wq := mVal hm1 hf1 343 b o (some ⟨g, 0, none⟩) n c wq c2
      have eL := enLess
      have HL2 := hide_ (nLess_in (b := b) (o := o) (B := B) (g := g) (c := c) (m := m) p i wq Hm.out hl (by omega) (by omega) hc HS.out)
      go_wp2_with fail
      refine HL2.out.mono ?_
      rintro e w4 ⟨rfl, HS4, HV4⟩
      have HU4 : Hid (Upd (fun k => k = g) w w4) := hide_ (HU.out.trans HV4.out (fun _ _ e => e))
      clear mL2 eL c2 HS HU HV4 HL2
      have hR := HR.out
      rw [downF, if_neg H0.out, Hq.out] at hR
      by_cases hlt : hAt m p < hAt m i
      · have hd : decide (hAt m p < hAt m i) = true := decide_eq_true hlt
        rw [hd]
        rw [if_pos hlt] at hR
        have HR2 : Hid (downF (k + 1) (swp m i p) p k = R) := hide_ (by rw [← hR]; exact downF_fuel _ _ _ _ _ (by omega) (by omega))
        have HM2 : Hid ((swp m i p).length = n) := hide_ (by rw [swp_len]; exact Hm.out)
        have c3 := HS4.out.cell
        have mS : Sem.run Tryz.prog (method 344 153 (.pointer (some ⟨b, o, none⟩)) "Swap") w4 = .ok (203, .slice (some ⟨g, 0, none⟩) n c) w4 := mVal hm4 hf4 343 b o (some ⟨g, 0, none⟩) n c w4 c3
        have eS := enSwap
        have HSw := hide_ (nSwap_in (b := b) (o := o) (B := B) (g := g) (c := c) (m := m) i p w4 Hm.out hl (by omega) (by omega) hc HS4.out)
        clear hlt hd hR HR Hm HS4
        go_wp2_with fail
        refine HSw.out.mono ?_
        rintro e w5 ⟨rfl, HS5, HV5⟩
        have HU5 : Hid (Upd (fun k => k = g) w w5) := hide_ (HU4.out.trans HV5.out (fun _ _ e => e))
        clear mS eS c3 HU4 HV5 HSw
        go_wp2_with fail
        go_roundw
        case rel => exact ⟨p, _, by omega, by go_num, HM2, HR2, HS5, HU5⟩
        case measure => simp [intOf]; omega
      · have hd : decide (hAt m p < hAt m i) = false := decide_eq_false hlt
        rw [hd]
        rw [if_neg hlt] at hR
        have HA : Hid (NmS w4 b o B (.slice (some ⟨g, 0, none⟩) n c) R ∧ Upd (fun k => k = g) w w4) := hide_ ⟨by rw [← hR]; exact HS4.out, HU4.out⟩
        clear hlt hd hR HR Hm HS4 HU4
        go_wp2_with fail
        go_ret
        exact dn_ret HA.out
end Go.Proofs.YtiojpohmgjdgfaaGreat

/- sound: container/heap over numbers: Pop. -/
namespace Go.Proofs.YtiojpohmgjdgfaaGreat
open Go.RowKit
set_option linter.unusedVariables false

/-- Of block b the cell o alone is another. -/
def Kps (w w' : World) (b o : Nat) (v : Value) : Prop := ∀ (t : TypeId) (xs : List Value), Blk w b t xs → Blk w' b t (xs.set o v)
theorem downF_len : ∀ (f : Nat) (l : List Int) (i n : Nat), (downF f l i n).length = l.length
  | 0, l, i, n => rfl
  | f + 1, l, i, n => by
    rw [downF]
    split
    · rfl
    split
    · rw [downF_len, swp_len]
    · rfl
set_option maxRecDepth 100000 in
set_option maxHeartbeats 8000000 in
theorem nPop_any (b o B g c n : Nat) (l : List Int) (w : World) (hn : Hid (l.length = n + 1)) (hl : n < 4000000) (hc : n + 1 ≤ c) (h : Hid (NmS w b o B (.slice (some ⟨g, 0, none⟩) (n + 1) c) l)) :
    Calls Tryz.prog 224 #[.pointer (some ⟨b, o, none⟩)] w fun e w' => e = .returned (.iface 3 (.int .i64 (hAt l n))) ∧ (w.setCell ⟨b, o, none⟩ (.slice (some ⟨g, 0, none⟩) n c)) = w' := by
  have c0 := h.out.cell
  have f0 := h.out.fz
  have cl1 := (h.out.own.cellH (i := n) (by rw [hn.out]; omega)).1
  have hw1 : IntKind.i64.wrap ((n : Int) + 1 - 1) = (n : Int) := by rw [i64w _ (by omega)]; omega
  go_enter Tryz.func224, Tryz.ntmps224
  go_wp2_with fail
  go_ret
  exact ⟨rfl, rfl⟩
theorem own_cutI {w : World} {B e c g n m cap : Nat} {xs : List Value} (h : w.ownsRow B e c (.slice (some ⟨g, 0, none⟩) n cap) n xs) (hm : m ≤ n) : w.ownsRow B e c (.slice (some ⟨g, 0, none⟩) m cap) m (xs.take (m * c)) := by
  refine ⟨by rw [List.length_take, h.1]; exact Nat.min_eq_left (Nat.mul_le_mul_right c hm), ?_⟩
  rcases h.2 with ⟨h0, _⟩ | ⟨g', cap', cur, hv, hb, hg, hnc, hcm, hs, ht⟩
  · cases h0
  · injection hv with h1 h2 h3
    injection h1 with h1
    injection h1 with h1
    subst h1 h3
    refine .inr ⟨g, cap, cur, rfl, hb, hg, Nat.le_trans hm hnc, hcm, hs, ?_⟩
    rw [← ht, List.take_take]
    congr 1
    exact (Nat.min_eq_left (Nat.mul_le_mul_right c hm)).symm
theorem NmS.pop {w : World} {b o B g n c : Nat} {l : List Int} (hn : l.length = n + 1) (h : NmS w b o B (.slice (some ⟨g, 0, none⟩) (n + 1) c) l) : NmS (w.setCell ⟨b, o, none⟩ (.slice (some ⟨g, 0, none⟩) n c)) b o B (.slice (some ⟨g, 0, none⟩) n c) (l.take n) ∧ Upd (fun k => k = b) w (w.setCell ⟨b, o, none⟩ (.slice (some ⟨g, 0, none⟩) n c)) := by
  have hg : g ≠ b := h.ne g rfl
  have hU : Upd (fun k => k = b) w (w.setCell ⟨b, o, none⟩ (.slice (some ⟨g, 0, none⟩) n c)) := (Upd.refl (fun k => k = b) w).set _ _ (.inl rfl)
  have ho : IOwn w B (.slice (some ⟨g, 0, none⟩) n c) (l.take n) := by
    have h1 := h.own
    unfold IOwn at h1 ⊢
    rw [hn] at h1
    have h2 := own_cutI (m := n) h1 (by omega)
    have e : (l.take n).length = n := by rw [List.length_take]; omega
    rw [e]
    have e2 : cellsL .i64 (l.take n) = (cellsL .i64 l).take (n * 1) := by
      rw [Nat.mul_one]
      unfold cellsL
      rw [List.map_take]
    rw [e2]
    exact h2
  refine ⟨⟨?_, ?_, ho.upd hU (fun k e => ?_), fun k e => h.ne k e, Nat.lt_of_lt_of_le h.lt hU.size⟩, hU⟩
  · exact World.cell?_setCell_same _ _ _ h.cell
  · rw [World.frozen?_setCell]; exact h.fz
  · injection e with e
    subst e
    exact hg
set_option maxRecDepth 100000 in
set_option maxHeartbeats 8000000 in
theorem hPop_any (b o B g c n : Nat) (l : List Int) (w : World) (hn : Hid (l.length = n + 1)) (hl : n < 4000000) (hc : n + 1 ≤ c) (h : Hid (NmS w b o B (.slice (some ⟨g, 0, none⟩) (n + 1) c) l)) :
    Calls Tryz.prog 116 #[.iface 153 (.pointer (some ⟨b, o, none⟩))] w fun e w' => e = .returned (.iface 3 (.int .i64 (popH l).1)) ∧ Hid (NmS w' b o B (.slice (some ⟨g, 0, none⟩) n c) (popH l).2) ∧ Hid (Upd (fun k => k = g ∨ k = b) w w') ∧ Hid (Kps w w' b o (.slice (some ⟨g, 0, none⟩) n c)) := by
  have Hne := hide_ (h.out.ne g rfl)
  obtain ⟨R, hR⟩ : ∃ R, downF (n + 1) (swp l 0 n) 0 n = R := ⟨_, rfl⟩
  have hRl : R.length = n + 1 := by
    rw [← hR, downF_len, swp_len]; exact hn.out
  have hP : popH l = (hAt R n, R.take n) := by
    unfold popH downH
    rw [hn.out, Nat.add_sub_cancel, hR]
  rw [hP]
  have HR := hide_ hR
  have HRl := hide_ hRl
  clear hP hR hRl
  have c0 := h.out.cell
  have mN : Sem.run Tryz.prog (method 344 153 (.pointer (some ⟨b, o, none⟩)) "Len") w = .ok (201, .slice (some ⟨g, 0, none⟩) (n + 1) c) w := mVal hm0 hf0 343 b o (some ⟨g, 0, none⟩) (n + 1) c w c0
  have mS : Sem.run Tryz.prog (method 344 153 (.pointer (some ⟨b, o, none⟩)) "Swap") w = .ok (203, .slice (some ⟨g, 0, none⟩) (n + 1) c) w := mVal hm4 hf4 343 b o (some ⟨g, 0, none⟩) (n + 1) c w c0
  have eN := enLen
  have eS := enSwap
  have eP := enPop
  have HN := hide_ (nLen_any (some ⟨g, 0, none⟩) (n + 1) c w)
  have HSw := hide_ (nSwap_in (b := b) (o := o) (B := B) (g := g) (c := c) (m := l) 0 n w hn.out (by omega) (by omega) (by omega) hc h.out)
  have hw1 : IntKind.i64.wrap ((n : Int) + 1 - 1) = (n : Int) := by rw [i64w _ (by omega)]; omega
  go_enter Tryz.func116, Tryz.ntmps116
  go_wp2_with fail
  refine HN.out.mono ?_
  rintro e w0 ⟨rfl, rfl⟩
  clear mN HN eN
  go_wp2_with fail
  refine HSw.out.mono ?_
  rintro e w2 ⟨rfl, HS2, HU2⟩
  clear mS c0 HSw eS
  have HD := hide_ (down_any b o B g c (swp l 0 n) 0 n w2 (by rw [swp_len, hn.out]; omega) (by rw [swp_len, hn.out]; omega) (by omega) (by rw [swp_len, hn.out]; exact hc) (by rw [swp_len, hn.out]; exact HS2))
  go_wp2_with fail
  refine HD.out.mono ?_
  rintro e w3 ⟨x, rfl, hS3, hU3⟩
  rw [swp_len, hn.out, HR.out] at hS3
  have HS3 := hide_ hS3
  have HU3 : Hid (Upd (fun k => k = g) w w3) := hide_ (HU2.out.trans hU3 (fun k _ e => by injection e with e; exact e.symm))
  clear hS3 hU3 HU2 HS2 HD
  have mP : Sem.run Tryz.prog (method 344 153 (.pointer (some ⟨b, o, none⟩)) "Pop") w3 = .ok (224, .pointer (some ⟨b, o, none⟩)) w3 := mPtr hm2 hf2 343 b o w3
  have HPp := hide_ (nPop_any b o B g c n R w3 HRl hl hc HS3)
  go_wp2_with fail
  refine HPp.out.mono ?_
  rintro e w4 ⟨rfl, rfl⟩
  have HX : Hid (NmS (w3.setCell ⟨b, o, none⟩ (.slice (some ⟨g, 0, none⟩) n c)) b o B (.slice (some ⟨g, 0, none⟩) n c) (R.take n) ∧ Upd (fun k => k = g ∨ k = b) w (w3.setCell ⟨b, o, none⟩ (.slice (some ⟨g, 0, none⟩) n c)) ∧ Kps w (w3.setCell ⟨b, o, none⟩ (.slice (some ⟨g, 0, none⟩) n c)) b o (.slice (some ⟨g, 0, none⟩) n c)) := hide_ (by
    obtain ⟨h1, h2⟩ := NmS.pop HRl.out HS3.out
    exact ⟨h1, (HU3.out.mono (fun k _ e => .inl e)).trans h2 (fun k _ e => .inr e), fun t xs hk => (hk.upd HU3.out (fun e => Hne.out e.symm)).set o _⟩)
  generalize w3.setCell ⟨b, o, none⟩ (.slice (some ⟨g, 0, none⟩) n c) = w5 at *
  clear mP HPp
  go_wp2_with fail
  go_ret
  exact ⟨rfl, hide_ HX.out.1, hide_ HX.out.2.1, hide_ HX.out.2.2⟩
end Go.Proofs.YtiojpohmgjdgfaaGreat

/- sound: container/heap over numbers: Push. -/
namespace Go.Proofs.YtiojpohmgjdgfaaGreat
open Go.RowKit
set_option linter.unusedVariables false

theorem elN : Elem Tryz.prog 106 3 .i64 8 := ⟨Tryz.underlying106, Tryz.underlying3, by kernel_rfl⟩
/-- What Push leaves. -/
def PuTo (w : World) (b o B : Nat) (v : Value) (l : List Int) (x : Int) (e : Ending) (w' : World) : Prop := ∃ g c, e = .returned (.tuple #[]) ∧ l.length + 1 ≤ c ∧ (v.ownBlock = some g ∨ w.heap.size ≤ g) ∧ NmS w' b o B (.slice (some ⟨g, 0, none⟩) (l.length + 1) c) (l ++ [x]) ∧ Upd (fun k => v.ownBlock = some k ∨ k = b) w w' ∧ Kps w w' b o (.slice (some ⟨g, 0, none⟩) (l.length + 1) c)
theorem NmS.push {w : World} {b o B : Nat} {v : Value} {l : List Int} (h : NmS w b o B v l) (x : Int) (hl : l.length < 4000000) (hB : B ≤ w.heap.size) :
    ∃ g c w', (Builtin.append_ #[106, 106] 106 #[v, .slice (some ⟨w.heap.size, 0, none⟩) 1 1]).run Tryz.prog (w.alloc (.cells #[.int .i64 x] 3)) = .ok (.slice (some ⟨g, 0, none⟩) (l.length + 1) c) w' ∧
      w'.cell? ⟨b, o, none⟩ = some v ∧ w'.frozen? ⟨b, o, none⟩ = false ∧ PuTo w b o B v l x (.returned (.tuple #[])) (w'.setCell ⟨b, o, none⟩ (.slice (some ⟨g, 0, none⟩) (l.length + 1) c)) := by
  obtain ⟨g, c, w', h1, h2, h3, h4⟩ := run_push elN w 106 B v l.length l h.own x (by unfold maxLen; omega) (by omega) hB
  have hb : ¬ v.ownBlock = some b := fun e => h.ne b e rfl
  have hg : g ≠ b := by
    rcases h4 with h4 | h4
    · exact h.ne g h4
    · have := h.lt; omega
  have c1 : w'.cell? ⟨b, o, none⟩ = some v := by
    rw [World.cell?_of_block (w := w) (h3.block b h.lt hb)]
    exact h.cell
  have f1 : w'.frozen? ⟨b, o, none⟩ = false := by
    rw [World.frozen?_of_block (w := w) (h3.block b h.lt hb)]
    exact h.fz
  have ho : IOwn w' B (.slice (some ⟨g, 0, none⟩) (l.length + 1) c) (l ++ [x]) := by
    unfold IOwn
    rw [List.length_append, List.length_singleton]
    exact h2
  have hU : Upd (fun k => k = b) w' (w'.setCell ⟨b, o, none⟩ (.slice (some ⟨g, 0, none⟩) (l.length + 1) c)) := (Upd.refl (fun k => k = b) w').set _ _ (.inl rfl)
  refine ⟨g, c, w', h1, c1, f1, g, c, rfl, ?_, h4, ⟨?_, ?_, ho.upd hU (fun k e => ?_), fun k e => ?_, Nat.lt_of_lt_of_le (Nat.lt_of_lt_of_le h.lt h3.size) hU.size⟩, (h3.mono (fun k _ e => .inl e)).trans hU (fun k _ e => .inr e), fun t xs hk => (hk.upd h3 hb).set o _⟩
  · obtain ⟨a', c', e, -, -, h6⟩ := ho.row
    injection e with _ _ e
    subst e
    simpa using h6
  · exact World.cell?_setCell_same _ _ _ c1
  · rw [World.frozen?_setCell]; exact f1
  · injection e with e
    subst e
    exact hg
  · injection e with e
    subst e
    exact hg
set_option maxRecDepth 100000 in
set_option maxHeartbeats 8000000 in
theorem nPush_any (b o B : Nat) (v : Value) (l : List Int) (x : Int) (w : World) (hl : l.length < 4000000) (hB : B ≤ w.heap.size) (h : Hid (NmS w b o B v l)) :
    Calls Tryz.prog 225 #[.pointer (some ⟨b, o, none⟩), .iface 3 (.int .i64 x)] w fun e w' => PuTo w b o B v l x e w' := by
  have c0 : w.drew.cell? ⟨b, o, none⟩ = some v := h.out.cell
  obtain ⟨g, c, w1, h1, c1, f1, h2⟩ := h.out.drew.push x hl hB
  have HRun := hide_ h1
  have HX : Hid (PuTo w b o B v l x (.returned (.tuple #[])) (w1.setCell ⟨b, o, none⟩ (.slice (some ⟨g, 0, none⟩) (l.length + 1) c))) := hide_ (by
    obtain ⟨g', c', e1, e2, e5, e3, e4, e6⟩ := h2
    exact ⟨g', c', e1, e2, e5, e3, Upd.trans ((Upd.refl _ w).then ((Below.refl _ _).drew)) e4 (fun _ _ e => e), fun t xs hk => e6 t xs hk.drew⟩)
  have HS6 : Hid ((w.drew.alloc (.cells #[.int .i64 x] 3)).cell? ⟨b, o, none⟩ = some v) := hide_ (by
    rw [World.cell?_alloc_old _ _ _ (by exact Nat.ne_of_lt h.out.lt)]
    exact c0)
  have tA : ∀ (t : TypeId) (w' : World), Sem.run Tryz.prog (Instr.typeAssert (.iface 3 (.int .i64 x)) t 3 false) w' = .ok (.int .i64 x) w' := fun t w' => by rfl
  clear h1 h2
  go_enter Tryz.func225, Tryz.ntmps225
  go_wp2_with fail
  refine wp_region_last 9 (fun w' => w'.cell? ⟨b, o, none⟩ = some v) (by kernel_rfl) (c0) (fun hHeld => ?_)
  refine wpAnyF_take [9] (by kernel_rfl) (i := 0) (v := ?vp1) rfl (by kernel_rfl) (by kernel_rfl) (by kernel_rfl) (fun _ _ _ h => h) (Or.inl ⟨by kernel_rfl, ?hyp1⟩) hHeld ?restp1
  case hyp1 => intro w' hSw; (try dsimp only at hSw); go_simp; try with_reducible rfl
  simp only [Act.put]
  try dsimp only
  refine wpAnyF_take [9] (by kernel_rfl) (i := 1) (v := ?vp2) rfl (by kernel_rfl) (by kernel_rfl) (by kernel_rfl) (fun _ _ _ h => h) (Or.inl ⟨by kernel_rfl, ?hyp2⟩) hHeld ?restp2
  case hyp2 => intro w' hSw; (try dsimp only at hSw); go_simp; try with_reducible rfl
  simp only [Act.put]
  try dsimp only
  refine wpAnyF_take [9] (by kernel_rfl) (i := 2) (v := ?vp3) rfl (by kernel_rfl) (by kernel_rfl) (by kernel_rfl) (fun _ _ _ h => h) (Or.inl ⟨by kernel_rfl, ?hyp3⟩) hHeld ?restp3
  case hyp3 => intro w' hSw; (try dsimp only at hSw); go_simp; try with_reducible rfl
  simp only [Act.put]
  try dsimp only
  refine wpAnyF_take [9] (by kernel_rfl) (i := 3) (v := ?vp4) rfl (by kernel_rfl) (by kernel_rfl) (by kernel_rfl) (fun _ _ _ h => h) (Or.inl ⟨by kernel_rfl, ?hyp4⟩) hHeld ?restp4
  case hyp4 => intro w' hSw; (try dsimp only at hSw); go_simp; try with_reducible rfl
  simp only [Act.put]
  try dsimp only
  refine wpAnyF_take [9] (by kernel_rfl) (i := 4) (v := ?vp5) rfl (by kernel_rfl) (by kernel_rfl) (by kernel_rfl) (fun _ _ _ h => h) (Or.inl ⟨by kernel_rfl, ?hyp5⟩) hHeld ?restp5
  case hyp5 => intro w' hSw; (try dsimp only at hSw); go_simp; try with_reducible rfl
  simp only [Act.put]
  try dsimp only
  refine wpAnyF_take [9] (by kernel_rfl) (i := 5) (v := ?vp6) rfl (by kernel_rfl) (by kernel_rfl) (by kernel_rfl) (fun _ _ _ h => h) (Or.inl ⟨by kernel_rfl, ?hyp6⟩) hHeld ?restp6
  case hyp6 => intro w' hSw; (try dsimp only at hSw); go_simp; try with_reducible rfl
  simp only [Act.put]
  try dsimp only
  refine wpAnyF_ready (rs := [6]) (by kernel_rfl) (by simp) ?_
  refine AllReadyF.cons rfl (fun K hK => ?_) AllReadyF.nil
  go_simp
  refine hK.out _ _ (HS6.out) (fun hHeld => ?_)
  clear hK K
  refine wpAnyF_ready (rs := [7]) (by kernel_rfl) (by simp) ?_
  refine AllReadyF.cons rfl (fun K hK => ?_) AllReadyF.nil
  refine step_append_run rfl (.tmp 7) (.tmp 10) 106 106 rfl (v := v) (u := .slice (some ⟨w.drew.heap.size, 0, none⟩) 1 1) (by kernel_rfl) (by kernel_rfl) HRun.out ?_
  simp only [Act.put]
  refine hK.out _ _ (c1) (fun hHeld => ?_)
  clear hK K
  refine wpAnyF_take [9] (by kernel_rfl) (i := 8) (v := ?vp7) rfl (by kernel_rfl) (by kernel_rfl) (by kernel_rfl) (fun _ _ _ h => h) (Or.inl ⟨by kernel_rfl, ?hyp7⟩) hHeld ?restp7
  case hyp7 => intro w' hSw; (try dsimp only at hSw); go_simp; try with_reducible rfl
  simp only [Act.put]
  try dsimp only
  refine wpAnyF_ready (rs := [9]) (by kernel_rfl) (by simp) ?_
  refine AllReadyF.last rfl (fun K hK => ?_)
  go_simp
  refine hK.out _ _ ?_
  clear hK K
  refine wpAnyF_done (by kernel_rfl) ?_ _
  go_wp2_with fail
  go_end0
  exact HX.out
end Go.Proofs.YtiojpohmgjdgfaaGreat

/- sound: container/heap over numbers: heap.Push. -/
namespace Go.Proofs.YtiojpohmgjdgfaaGreat
open Go.RowKit
set_option linter.unusedVariables false

/-- What heap.Push leaves. -/
def HuTo (w : World) (b o B : Nat) (v : Value) (l : List Int) (x : Int) (e : Ending) (w' : World) : Prop := ∃ g c, e = .returned (.tuple #[]) ∧ l.length + 1 ≤ c ∧ (v.ownBlock = some g ∨ w.heap.size ≤ g) ∧ NmS w' b o B (.slice (some ⟨g, 0, none⟩) (l.length + 1) c) (pushH l x) ∧ Upd (fun k => v.ownBlock = some k ∨ k = b) w w' ∧ Kps w w' b o (.slice (some ⟨g, 0, none⟩) (l.length + 1) c)
set_option maxRecDepth 100000 in
set_option maxHeartbeats 8000000 in
theorem hPush_any (b o B : Nat) (v : Value) (l : List Int) (x : Int) (w : World) (hl : l.length < 4000000) (hB : B ≤ w.heap.size) (h : Hid (NmS w b o B v l)) :
    Calls Tryz.prog 150 #[.iface 153 (.pointer (some ⟨b, o, none⟩)), .iface 3 (.int .i64 x)] w fun e w' => HuTo w b o B v l x e w' := by
  have mP : Sem.run Tryz.prog (method 344 153 (.pointer (some ⟨b, o, none⟩)) "Push") w = .ok (225, .pointer (some ⟨b, o, none⟩)) w := mPtr hm3 hf3 343 b o w
  have eP := enPush
  have eN := enLen
  have HP := hide_ (nPush_any b o B v l x w hl hB h)
  go_enter Tryz.func150, Tryz.ntmps150
  go_wp2_with fail
  refine HP.out.mono ?_
  rintro e w1 ⟨g, c, rfl, hc, hg, hS1, hU1, hK1⟩
  have HK1 := hide_ hK1
  have Hne := hide_ (hS1.ne g rfl)
  have HS1 := hide_ hS1
  have HU1 := hide_ hU1
  have HG := hide_ hg
  clear mP HP eP h hS1 hU1 hg hK1
  have c1 := HS1.out.cell
  have mN : Sem.run Tryz.prog (method 344 153 (.pointer (some ⟨b, o, none⟩)) "Len") w1 = .ok (201, .slice (some ⟨g, 0, none⟩) (l.length + 1) c) w1 := mVal hm0 hf0 343 b o (some ⟨g, 0, none⟩) (l.length + 1) c w1 c1
  have HN := hide_ (nLen_any (some ⟨g, 0, none⟩) (l.length + 1) c w1)
  have hw1 : IntKind.i64.wrap ((l.length : Int) + 1 - 1) = (l.length : Int) := by rw [i64w _ (by omega)]; omega
  have e0 : (l ++ [x]).length = l.length + 1 := by rw [List.length_append, List.length_singleton]
  have HUp := hide_ (up_any b o B g c (l ++ [x]) l.length w1 (by rw [e0]; omega) (by rw [e0]; omega) (by rw [e0]; exact hc) (by rw [e0]; exact HS1))
  rw [e0] at HUp
  clear e0
  go_wp2_with fail
  refine HN.out.mono ?_
  rintro e w0 ⟨rfl, rfl⟩
  clear mN HN eN c1
  go_wp2_with fail
  refine HUp.out.mono ?_
  rintro e w3 ⟨rfl, hS3, hU3⟩
  have HX : Hid (HuTo w b o B v l x (.returned (.tuple #[])) w3) := hide_ (by
    refine ⟨g, c, rfl, hc, HG.out, hS3, HU1.out.trans hU3 (fun k hk e => ?_), fun t xs hk => (HK1.out t xs hk).upd hU3 (fun e => ?_)⟩
    · injection e with e
      subst e
      rcases HG.out with h | h
      · exact .inl h
      · exact absurd hk (Nat.not_lt.mpr h)
    · injection e with e
      exact Hne.out e)
  clear hS3 hU3 HUp
  go_wp2_with fail
  go_end0
  exact HX.out
end Go.Proofs.YtiojpohmgjdgfaaGreat

/- sound: states handed in and out: kidsLeft, seq. -/
namespace Go.Proofs.YtiojpohmgjdgfaaGreat
open Go.RowKit
set_option linter.unusedVariables false

theorem retSt {fn : Func} {p : Tmp} (h : fn.results = #[.cell p 126]) {R : Ending → World → Prop} {tmps : Array Value} {g : Nat} {w : World} (s : St) (hp : tmps.getD p undef = .pointer (some ⟨g, 0, none⟩)) (hK : Blk w g 126 (stc s)) (hR : R (.returned (stv s)) w) :
    bodyPost Tryz.prog fn R Exit.ret ⟨tmps, []⟩ w :=
  bodyPost_ret (results_cell_row h _ _ _ _ #[.int .i64 s.pl, .int .u64 (s.ki : Int), .int .i64 s.tb, .int .i64 s.pa, .int .i64 s.fr, .int .i64 s.le, .bool s.su] _ _ hp (show w.heap[g]? = some (.cells _ 126 (0, 0)) from hK) Tryz.underlying126 rfl (by show _ = some 7; kernel_rfl)) rfl hR
theorem retSb {fn : Func} {p u : Tmp} (h : fn.results = #[.cell p 126, .tmp u]) {R : Ending → World → Prop} {tmps : Array Value} {g : Nat} {w : World} {v : Value} (s : St) (hu : tmps.getD u undef = v) (hp : tmps.getD p undef = .pointer (some ⟨g, 0, none⟩)) (hK : Blk w g 126 (stc s)) (hR : R (.returned (.tuple #[stv s, v])) w) :
    bodyPost Tryz.prog fn R Exit.ret ⟨tmps, []⟩ w :=
  bodyPost_ret (results_cell_tmp_row h _ _ _ _ #[.int .i64 s.pl, .int .u64 (s.ki : Int), .int .i64 s.tb, .int .i64 s.pa, .int .i64 s.fr, .int .i64 s.le, .bool s.su] _ _ hp (show w.heap[g]? = some (.cells _ 126 (0, 0)) from hK) Tryz.underlying126 rfl (by show _ = some 7; kernel_rfl)) rfl (by rw [hu]; exact hR)
/-- A whole state is written. -/
def putS (w : World) (g : Nat) (s : St) : World := ((((((w.setCell ⟨g, 0, none⟩ (.int .i64 s.pl)).setCell ⟨g, 1, none⟩ (.int .u64 (s.ki : Int))).setCell ⟨g, 2, none⟩ (.int .i64 s.tb)).setCell ⟨g, 3, none⟩ (.int .i64 s.pa)).setCell ⟨g, 4, none⟩ (.int .i64 s.fr)).setCell ⟨g, 5, none⟩ (.int .i64 s.le)).setCell ⟨g, 6, none⟩ (.bool s.su)
theorem Blk.putS {w : World} {g : Nat} {t : St} (h : Blk w g 126 (stc t)) (s : St) : Blk (putS w g s) g 126 (stc s) := by
  have := ((((((h.set 0 (.int .i64 s.pl)).set 1 (.int .u64 (s.ki : Int))).set 2 (.int .i64 s.tb)).set 3 (.int .i64 s.pa)).set 4 (.int .i64 s.fr)).set 5 (.int .i64 s.le)).set 6 (.bool s.su)
  simpa [stc, Go.Proofs.YtiojpohmgjdgfaaGreat.putS] using this
theorem below_putS {B : Nat} {w w' : World} (h : Below B w w') (g : Nat) (s : St) (hb : B ≤ g) : Below B w (putS w' g s) := by
  unfold putS
  exact below_set (below_set (below_set (below_set (below_set (below_set (below_set h _ _ _ hb) _ _ _ hb) _ _ _ hb) _ _ _ hb) _ _ _ hb) _ _ _ hb) _ _ _ hb
set_option maxRecDepth 100000 in
set_option maxHeartbeats 4000000 in
theorem left_any (n : Int) (w : World) : Calls Tryz.prog 210 #[.int .i64 n] w fun e w' => e = .returned (stv (leftP n)) ∧ Below w.heap.size w w' := by
  go_enter Tryz.func210, Tryz.ntmps210
  go_wp2
  trace_state
  refine retSt rfl (leftP n) rfl (Blk.newA w _ _) ?_
  exact ⟨rfl, below1 _ _⟩
set_option maxRecDepth 100000 in
set_option maxHeartbeats 4000000 in
theorem seq_any (b : Bool) (w : World) : Calls Tryz.prog 209 #[.bool b] w fun e w' => e = .returned (stv (seqP b)) ∧ Below w.heap.size w w' := by
  go_enter Tryz.func209, Tryz.ntmps209
  go_wp2
  refine retSt rfl (seqP b) rfl (Blk.newA w _ _) ?_
  exact ⟨rfl, below1 _ _⟩
end Go.Proofs.YtiojpohmgjdgfaaGreat

/- sound: take, takeByTurns. -/
namespace Go.Proofs.YtiojpohmgjdgfaaGreat
open Go.RowKit
set_option linter.unusedVariables false

theorem Blk.cs {w : World} {g : Nat} {s : St} (h : Blk w g 126 (stc s)) :
    w.cell? ⟨g, 0, none⟩ = some (.int .i64 s.pl) ∧ w.cell? ⟨g, 1, none⟩ = some (.int .u64 (s.ki : Int)) ∧ w.cell? ⟨g, 2, none⟩ = some (.int .i64 s.tb) ∧ w.cell? ⟨g, 3, none⟩ = some (.int .i64 s.pa) ∧ w.cell? ⟨g, 4, none⟩ = some (.int .i64 s.fr) ∧ w.cell? ⟨g, 5, none⟩ = some (.int .i64 s.le) ∧ w.cell? ⟨g, 6, none⟩ = some (.bool s.su) := by
  have c0 := h.cell 0; have c1 := h.cell 1; have c2 := h.cell 2; have c3 := h.cell 3; have c4 := h.cell 4; have c5 := h.cell 5; have c6 := h.cell 6
  simp [stc] at c0 c1 c2 c3 c4 c5 c6
  exact ⟨c0, c1, c2, c3, c4, c5, c6⟩
/-- A state in a box, and a new one. -/
def box2 (w : World) (s : St) : World := (w.alloc (.cells #[.int .i64 s.pl, .int .u64 (s.ki : Int), .int .i64 s.tb, .int .i64 s.pa, .int .i64 s.fr, .int .i64 s.le, .bool s.su] 126)).alloc (.cells #[.int .i64 0, .int .u64 0, .int .i64 0, .int .i64 0, .int .i64 0, .int .i64 0, .bool false] 126)
theorem box2_ok (w : World) (s : St) : Below w.heap.size w (box2 w s) ∧ Blk (box2 w s) w.heap.size 126 (stc s) ∧ Blk (box2 w s) (w.heap.size + 1) 126 (stc st0) ∧ w.heap.size + 2 ≤ (box2 w s).heap.size :=
  ⟨below2 _ _ _, (blk2 w _ _ _ _).1, (blk2 w _ _ _ _).2, by simp [box2]⟩
set_option maxRecDepth 100000 in
set_option maxHeartbeats 4000000 in
theorem take_a (s : St) (many : Int) (w : World) (hm : 0 ≤ many ∧ many ≤ 100000000) (h6 : s.pl = 6 ∧ many = 1) (hs : -100000000 ≤ s.le ∧ s.le ≤ 100000000) : Calls Tryz.prog 211 #[stv s, .int .i64 many] w fun e w' => e = .returned (.tuple #[stv (takeP s many).1, .bool (takeP s many).2]) ∧ Below w.heap.size w w' := by
  obtain ⟨B2, K1, K2, hz⟩ := box2_ok w s
  obtain ⟨w2, hw2⟩ : ∃ wx, box2 w s = wx := ⟨_, rfl⟩
  rw [hw2] at B2 K1 K2 hz
  have HB2 := hide_ B2
  have HK1 := hide_ K1
  have HK2 := hide_ K2
  obtain ⟨c0, c1, c2, c3, c4, c5, c6⟩ := K1.cs
  have fr1 := fun i => K1.frozen i
  unfold box2 at hw2
  have HC := hide_ (left_any 0 w2)
  have hr : takeP s many = (leftP 0, true) := by unfold takeP; rw [if_pos h6]
  rw [hr]
  obtain ⟨h6, rfl⟩ := h6
  rw [h6] at c0
  clear B2 K1 K2 hr h6
  unfold stv
  go_enter Tryz.func211, Tryz.ntmps211
  go_upto_region 1 with fail
  clear hw2
  go_wp2_with fail
  refine HC.out.mono ?_; rintro e w3 ⟨rfl, hB3⟩
  have K3 := HK2.out.later hB3
  have fr := fun i => K3.frozen i
  obtain ⟨d0, d1, d2, d3, d4, d5, d6⟩ := K3.cs
  unfold stv leftP
  go_wp2
  refine retSb rfl (leftP 0) rfl rfl (K3.putS (leftP 0)) ?_
  exact ⟨rfl, below_putS (below_to HB2.out hB3) _ (leftP 0) (by omega)⟩
set_option maxRecDepth 100000 in
set_option maxHeartbeats 4000000 in
theorem take_b (s : St) (many : Int) (w : World) (hm : 0 ≤ many ∧ many ≤ 100000000) (h6 : ¬ (s.pl = 6 ∧ many = 1)) (h7 : s.pl = 7) (hs : -100000000 ≤ s.le ∧ s.le ≤ 100000000) : Calls Tryz.prog 211 #[stv s, .int .i64 many] w fun e w' => e = .returned (.tuple #[stv (takeP s many).1, .bool (takeP s many).2]) ∧ Below w.heap.size w w' := by
  obtain ⟨B2, K1, K2, hz⟩ := box2_ok w s
  obtain ⟨w2, hw2⟩ : ∃ wx, box2 w s = wx := ⟨_, rfl⟩
  rw [hw2] at B2 K1 K2 hz
  have HB2 := hide_ B2
  have HK1 := hide_ K1
  have HK2 := hide_ K2
  obtain ⟨c0, c1, c2, c3, c4, c5, c6⟩ := K1.cs
  have fr1 := fun i => K1.frozen i
  unfold box2 at hw2
  obtain ⟨le, hle⟩ : ∃ r, s.le - many = r := ⟨_, rfl⟩
  have hle2 : IntKind.i64.wrap (s.le - many) = le := by rw [hle]; exact i64w _ (by omega)
  have hr : takeP s many = (⟨7, s.ki, s.tb, s.pa, s.fr, le, s.su⟩, decide (0 ≤ le)) := by unfold takeP; rw [if_neg h6, if_pos h7, hle]
  rw [hr]
  rw [h7] at c0
  obtain ⟨d0, d1, d2, d3, d4, d5, d6⟩ := K2.cs
  have fr2 := fun i => K2.frozen i
  clear B2 K1 K2 hr h6
  unfold stv
  go_enter Tryz.func211, Tryz.ntmps211
  go_upto_region 1 with fail
  clear hw2
  go_wp2_with fail
  go_region
  all_goals
    go_wp2
    refine retSb rfl ⟨7, s.ki, s.tb, s.pa, s.fr, le, s.su⟩ rfl rfl (Blk.drew (blk2 w _ _ _ _).2) ?_
    exact ⟨rfl, (below2 _ _ _).drew⟩
set_option maxRecDepth 100000 in
set_option maxHeartbeats 4000000 in
theorem take_c (s : St) (many : Int) (w : World) (hm : 0 ≤ many ∧ many ≤ 100000000) (h6 : ¬ (s.pl = 6 ∧ many = 1)) (h7 : s.pl ≠ 7) (hs : -100000000 ≤ s.le ∧ s.le ≤ 100000000) : Calls Tryz.prog 211 #[stv s, .int .i64 many] w fun e w' => e = .returned (.tuple #[stv (takeP s many).1, .bool (takeP s many).2]) ∧ Below w.heap.size w w' := by
  obtain ⟨B2, K1, K2, hz⟩ := box2_ok w s
  obtain ⟨w2, hw2⟩ : ∃ wx, box2 w s = wx := ⟨_, rfl⟩
  rw [hw2] at B2 K1 K2 hz
  have HB2 := hide_ B2
  have HK1 := hide_ K1
  have HK2 := hide_ K2
  obtain ⟨c0, c1, c2, c3, c4, c5, c6⟩ := K1.cs
  have fr1 := fun i => K1.frozen i
  unfold box2 at hw2
  have hr : takeP s many = (s, false) := by unfold takeP; rw [if_neg h6, if_neg h7]
  rw [hr]
  obtain ⟨d0, d1, d2, d3, d4, d5, d6⟩ := K2.cs
  have fr2 := fun i => K2.frozen i
  have f7 : (s.pl == 7) = false := by simpa using h7
  have f6 : (s.pl == 6) = true → (many == 1) = false := by
    intro h; have h := eq_of_beq h
    simp only [beq_eq_false_iff_ne, ne_eq]; exact fun e => h6 ⟨h, e⟩
  clear B2 K1 K2 hr h6
  unfold stv
  go_enter Tryz.func211, Tryz.ntmps211
  go_upto_region 1 with fail
  clear hw2
  by_cases g6 : (s.pl == 6) = true
  · have g1 := f6 g6
    clear f6
    go_wp2
    refine retSb rfl s rfl rfl (HK2.out.putS _) ?_
    exact ⟨rfl, below_putS HB2.out _ _ (by omega)⟩
  · have g6 : (s.pl == 6) = false := by simpa using g6
    clear f6
    go_wp2
    refine retSb rfl s rfl rfl (HK2.out.putS _) ?_
    exact ⟨rfl, below_putS HB2.out _ _ (by omega)⟩
set_option maxRecDepth 100000 in
set_option maxHeartbeats 4000000 in
theorem take_any (s : St) (many : Int) (w : World) (hm : 0 ≤ many ∧ many ≤ 100000000) (hs : -100000000 ≤ s.le ∧ s.le ≤ 100000000) : Calls Tryz.prog 211 #[stv s, .int .i64 many] w fun e w' => e = .returned (.tuple #[stv (takeP s many).1, .bool (takeP s many).2]) ∧ Below w.heap.size w w' := by
  by_cases h6 : s.pl = 6 ∧ many = 1
  · exact take_a s many w hm h6 hs
  by_cases h7 : s.pl = 7
  · exact take_b s many w hm h6 h7 hs
  · exact take_c s many w hm h6 h7 hs
end Go.Proofs.YtiojpohmgjdgfaaGreat

/- sound: takeByTurns. -/
namespace Go.Proofs.YtiojpohmgjdgfaaGreat
open Go.RowKit
set_option linter.unusedVariables false

/-- Where two states differ first. -/
theorem eq7 (s : St) (a : Int) (c : Nat) (e : Bool) (f : Int) : (s.pl == a) = false ∧ stEq s ⟨a, 0, 0, 0, 0, f, e⟩ = false ∨
    (s.pl == a) = true ∧ ((s.ki : Int) == 0) = false ∧ stEq s ⟨a, 0, 0, 0, 0, f, e⟩ = false ∨
    (s.pl == a) = true ∧ ((s.ki : Int) == 0) = true ∧ (s.tb == 0) = false ∧ stEq s ⟨a, 0, 0, 0, 0, f, e⟩ = false ∨
    (s.pl == a) = true ∧ ((s.ki : Int) == 0) = true ∧ (s.tb == 0) = true ∧ (s.pa == 0) = false ∧ stEq s ⟨a, 0, 0, 0, 0, f, e⟩ = false ∨
    (s.pl == a) = true ∧ ((s.ki : Int) == 0) = true ∧ (s.tb == 0) = true ∧ (s.pa == 0) = true ∧ (s.fr == 0) = false ∧ stEq s ⟨a, 0, 0, 0, 0, f, e⟩ = false ∨
    (s.pl == a) = true ∧ ((s.ki : Int) == 0) = true ∧ (s.tb == 0) = true ∧ (s.pa == 0) = true ∧ (s.fr == 0) = true ∧ (s.le == f) = false ∧ stEq s ⟨a, 0, 0, 0, 0, f, e⟩ = false ∨
    (s.pl == a) = true ∧ ((s.ki : Int) == 0) = true ∧ (s.tb == 0) = true ∧ (s.pa == 0) = true ∧ (s.fr == 0) = true ∧ (s.le == f) = true ∧ s.su = e ∧ stEq s ⟨a, 0, 0, 0, 0, f, e⟩ = true ∨
    (s.pl == a) = true ∧ ((s.ki : Int) == 0) = true ∧ (s.tb == 0) = true ∧ (s.pa == 0) = true ∧ (s.fr == 0) = true ∧ (s.le == f) = true ∧ s.su = !e ∧ stEq s ⟨a, 0, 0, 0, 0, f, e⟩ = false := by
  obtain ⟨pl, ki, tb, pa, fr, le, su⟩ := s
  unfold stEq
  simp only
  cases h0 : (pl == a)
  · simp
  cases h1 : ((ki : Int) == 0)
  · simp_all
  cases h2 : (tb == 0)
  · simp_all
  cases h3 : (pa == 0)
  · simp_all
  cases h4 : (fr == 0)
  · simp_all
  cases h5 : (le == f)
  · simp_all
  · cases su <;> cases e <;> simp_all
set_option maxRecDepth 100000 in
set_option maxHeartbeats 4000000 in
theorem turn_any (s : St) (w : World) : Calls Tryz.prog 212 #[stv s] w fun e w' => e = .returned (.tuple #[stv (turnP s).1, .bool (turnP s).2]) ∧ Below w.heap.size w w' := by
  obtain ⟨B2, K1, K2, hz⟩ := box2_ok w s
  obtain ⟨w2, hw2⟩ : ∃ wx, box2 w s = wx := ⟨_, rfl⟩
  rw [hw2] at B2 K1 K2 hz
  have HB2 := hide_ B2
  have HK1 := hide_ K1
  have HK2 := hide_ K2
  obtain ⟨c0, c1, c2, c3, c4, c5, c6⟩ := K1.cs
  have fr1 := fun i => K1.frozen i
  unfold box2 at hw2
  obtain ⟨su, hsu⟩ : ∃ x, s.su = x := ⟨_, rfl⟩
  rw [hsu] at c6 hw2
  clear B2 K1 K2
  have HC : Hid (∀ w, Calls Tryz.prog 209 #[.bool true] w fun e w' => e = .returned (stv (seqP true)) ∧ Below w.heap.size w w') := hide_ (fun w => seq_any true w)
  have hr : turnP s = (⟨s.pl, s.ki, s.tb, s.pa, s.fr, s.le, false⟩, stEq s (seqP true)) := rfl
  obtain ⟨b, hb⟩ : ∃ b, stEq s (seqP true) = b := ⟨_, rfl⟩
  rw [hr, hb]
  have Hb := hide_ hb
  clear hr hb
  unfold stv
  rw [hsu]
  go_enter Tryz.func212, Tryz.ntmps212
  go_upto_region 1 with fail
  try rw [hw2]
  clear hw2
  go_cut [4] from 5 to 7 (fun x4 wc => ∃ (wf : World), wf = wc ∧ x4 = .bool b ∧ Hid (Below w2.heap.size w2 wf))
  case first =>
    rcases eq7 s 1 0 true 0 with h | h | h | h | h | h | h | h
    all_goals
      try obtain ⟨h0, h⟩ := h
      try obtain ⟨h1, h⟩ := h
      try obtain ⟨h2, h⟩ := h
      try obtain ⟨h3, h⟩ := h
      try obtain ⟨h4, h⟩ := h
      try obtain ⟨h5, h⟩ := h
      try obtain ⟨h6, h⟩ := h
      try (simp only [Bool.not_true] at h6)
      have hb := Hb.out
      unfold seqP at hb
      rw [hb] at h
      clear hb
      have Hh := hide_ h
      clear h
      try (rw [hsu] at h6; subst h6)
      go_region_with (go_at_call 209; refine (HC.out _).mono ?_; rintro e w3 ⟨rfl, hB3⟩; (obtain ⟨e0, e1, e2, e3, e4, e5, e6⟩ := (HK1.out.drew.later hB3).cs); (have HB3 := hide_ (below_to ((Below.refl _ _).drew) hB3)); (clear hB3); (unfold stv seqP))
      all_goals
        first
          | (go_meet; (case rel => exact ⟨_, rfl, by rw [Hh.out], HB3⟩))
          | (dsimp [Act.put]; go_meet; (case rel => exact ⟨_, rfl, by rw [Hh.out], HB3⟩))
          | (go_wp2; go_meet; (case rel => exact ⟨_, rfl, by rw [Hh.out], HB3⟩))
          | trace_state
  case rest =>
  obtain ⟨w3, rfl, rfl, HB3⟩ := hcut
  have L1 := HK1.out.later HB3.out
  have L2 := HK2.out.later HB3.out
  obtain ⟨e0, e1, e2, e3, e4, e5, e6⟩ := L1.cs
  obtain ⟨d0, d1, d2, d3, d4, d5, d6⟩ := L2.cs
  have z1 := fun i => L1.frozen i
  have z2 := fun i => L2.frozen i
  have HL2 := hide_ L2
  clear L1 L2 c0 c1 c2 c3 c4 c5 c6 fr1
  go_wp2
  refine retSb rfl ⟨s.pl, s.ki, s.tb, s.pa, s.fr, s.le, false⟩ rfl rfl (Blk.putS (HL2.out.other _ _ (by simp)) ⟨s.pl, s.ki, s.tb, s.pa, s.fr, s.le, false⟩) ?_
  exact ⟨rfl, below_putS (below_set (below_to HB2.out HB3.out) _ _ _ (Nat.le_refl _)) _ ⟨s.pl, s.ki, s.tb, s.pa, s.fr, s.le, false⟩ (by omega)⟩
end Go.Proofs.YtiojpohmgjdgfaaGreat

/- sound: taken. -/
namespace Go.Proofs.YtiojpohmgjdgfaaGreat
open Go.RowKit
set_option linter.unusedVariables false
set_option linter.unusedSimpArgs false

def inv (x : In) : Value := .agg #[.int .i64 x.op, .int .i64 x.a, .int .i64 x.b, .int .i64 x.c]
theorem Blk.ci {w : World} {g : Nat} {x : In} (h : Blk w g 43 (inc x)) :
    w.cell? ⟨g, 0, none⟩ = some (.int .i64 x.op) ∧ w.cell? ⟨g, 1, none⟩ = some (.int .i64 x.a) ∧ w.cell? ⟨g, 2, none⟩ = some (.int .i64 x.b) ∧ w.cell? ⟨g, 3, none⟩ = some (.int .i64 x.c) := by
  have c0 := h.cell 0; have c1 := h.cell 1; have c2 := h.cell 2; have c3 := h.cell 3
  simp [inc] at c0 c1 c2 c3
  exact ⟨c0, c1, c2, c3⟩
/-- A state and an instruction in boxes, and a new state. -/
def box3 (w : World) (s : St) (x : In) : World := ((w.alloc (.cells #[.int .i64 s.pl, .int .u64 (s.ki : Int), .int .i64 s.tb, .int .i64 s.pa, .int .i64 s.fr, .int .i64 s.le, .bool s.su] 126)).alloc (.cells #[.int .i64 x.op, .int .i64 x.a, .int .i64 x.b, .int .i64 x.c] 43)).alloc (.cells #[.int .i64 0, .int .u64 0, .int .i64 0, .int .i64 0, .int .i64 0, .int .i64 0, .bool false] 126)
theorem box3_ok (w : World) (s : St) (x : In) : Below w.heap.size w (box3 w s x) ∧ Blk (box3 w s x) w.heap.size 126 (stc s) ∧ Blk (box3 w s x) (w.heap.size + 1) 43 (inc x) ∧ Blk (box3 w s x) (w.heap.size + 1 + 1) 126 (stc st0) ∧ w.heap.size + 3 ≤ (box3 w s x).heap.size := by
  refine ⟨(below2 w _ _).alloc (by simp; omega) _, (blk2 w _ _ _ _).1.alloc _, (blk2 w _ _ _ _).2.alloc _, ?_, by simp [box3]⟩
  have := Blk.newA ((w.alloc (.cells #[.int .i64 s.pl, .int .u64 (s.ki : Int), .int .i64 s.tb, .int .i64 s.pa, .int .i64 s.fr, .int .i64 s.le, .bool s.su] 126)).alloc (.cells #[.int .i64 x.op, .int .i64 x.a, .int .i64 x.b, .int .i64 x.c] 43)) #[.int .i64 0, .int .u64 0, .int .i64 0, .int .i64 0, .int .i64 0, .int .i64 0, .bool false] 126
  simpa [stc, st0, box3] using this
set_option maxRecDepth 100000 in
set_option maxHeartbeats 8000000 in
theorem taken_any (s : St) (x : In) (w : World) (hm : x.op = 34 → 0 ≤ x.b ∧ x.b ≤ 100000000) (hs : -100000000 ≤ s.le ∧ s.le ≤ 100000000) : Calls Tryz.prog 208 #[stv s, inv x] w fun e w' => e = .returned (.tuple #[stv (takenP s x).1, .bool (takenP s x).2]) ∧ Below w.heap.size w w' := by
  obtain ⟨B2, K1, KX, K2, hz⟩ := box3_ok w s x
  obtain ⟨w2, hw2⟩ : ∃ wx, box3 w s x = wx := ⟨_, rfl⟩
  rw [hw2] at B2 K1 KX K2 hz
  have HB2 := hide_ B2
  have HK1 := hide_ K1
  have HK2 := hide_ K2
  obtain ⟨c0, c1, c2, c3, c4, c5, c6⟩ := K1.cs
  obtain ⟨i0, i1, i2, i3⟩ := KX.ci
  have fr1 := fun i => K1.frozen i
  unfold box3 at hw2
  clear B2 K1 KX K2
  have HU : Hid (∀ w, Calls Tryz.prog 212 #[stv s] w fun e w' => e = .returned (.tuple #[stv (turnP s).1, .bool (turnP s).2]) ∧ Below w.heap.size w w') := hide_ (fun w => turn_any s w)
  have HT : Hid (∀ m w, 0 ≤ m ∧ m ≤ 100000000 → Calls Tryz.prog 211 #[stv s, .int .i64 m] w fun e w' => e = .returned (.tuple #[stv (takeP s m).1, .bool (takeP s m).2]) ∧ Below w.heap.size w w') := hide_ (fun m w h => take_any s m w h hs)
  have Hm := hide_ hm
  obtain ⟨r, hr⟩ : ∃ r, takenP s x = r := ⟨_, rfl⟩
  rw [hr]
  have Hr := hide_ hr
  clear hr hm hs
  obtain ⟨rs, hrs⟩ : ∃ y, stv r.1 = y := ⟨_, rfl⟩
  rw [hrs]
  have Hrs := hide_ hrs
  clear hrs
  unfold stv inv
  go_enter Tryz.func208, Tryz.ntmps208
  go_upto_region 1 with fail
  try rw [hw2]
  clear hw2
  go_wp2_with fail
  · refine (HT.out x.b _ (Hm.out (by simp only [beq_iff_eq] at *; omega))).mono ?_
    rintro e w3 ⟨rfl, hB3⟩
    have hr2 : takeP s x.b = r := by
      rw [← Hr.out]
      unfold takenP
      simp only [beq_iff_eq, beq_eq_false_iff_ne, bne_iff_ne, bne_eq_false_iff_eq, ne_eq, Bool.not_eq_true] at *
      repeat (first | rw [if_pos (by omega)] | rw [if_neg (by omega)])
    rw [hr2]
    have K3 := HK2.out.later hB3
    have fr := fun i => K3.frozen i
    obtain ⟨d0, d1, d2, d3, d4, d5, d6⟩ := K3.cs
    have HB3 := hide_ hB3
    have HK3 := hide_ K3
    clear hB3 K3 hr2
    unfold stv
    go_wp2
    refine retSb rfl r.1 rfl rfl (HK3.out.putS r.1) ?_
    exact ⟨by rw [← Hrs.out]; rfl, below_putS (below_to HB2.out HB3.out) _ r.1 (by omega)⟩
  · refine (HT.out 1 _ (by omega)).mono ?_
    rintro e w3 ⟨rfl, hB3⟩
    have hr2 : takeP s 1 = r := by
      rw [← Hr.out]
      unfold takenP
      simp only [beq_iff_eq, beq_eq_false_iff_ne, bne_iff_ne, bne_eq_false_iff_eq, ne_eq, Bool.not_eq_true] at *
      repeat (first | rw [if_pos (by omega)] | rw [if_neg (by omega)])
    rw [hr2]
    have K3 := HK2.out.later hB3
    have fr := fun i => K3.frozen i
    obtain ⟨d0, d1, d2, d3, d4, d5, d6⟩ := K3.cs
    have HB3 := hide_ hB3
    have HK3 := hide_ K3
    clear hB3 K3 hr2
    unfold stv
    go_wp2
    refine retSb rfl r.1 rfl rfl (HK3.out.putS r.1) ?_
    exact ⟨by rw [← Hrs.out]; rfl, below_putS (below_to HB2.out HB3.out) _ r.1 (by omega)⟩
  · refine (HU.out _).mono ?_
    rintro e w3 ⟨rfl, hB3⟩
    have hr2 : turnP s = r := by
      rw [← Hr.out]
      unfold takenP
      simp only [beq_iff_eq, beq_eq_false_iff_ne, bne_iff_ne, bne_eq_false_iff_eq, ne_eq, Bool.not_eq_true] at *
      repeat (first | rw [if_pos (by omega)] | rw [if_neg (by omega)])
    rw [hr2]
    have K3 := HK2.out.later hB3
    have fr := fun i => K3.frozen i
    obtain ⟨d0, d1, d2, d3, d4, d5, d6⟩ := K3.cs
    have HB3 := hide_ hB3
    have HK3 := hide_ K3
    clear hB3 K3 hr2
    unfold stv
    go_wp2
    refine retSb rfl r.1 rfl rfl (HK3.out.putS r.1) ?_
    exact ⟨by rw [← Hrs.out]; rfl, below_putS (below_to HB2.out HB3.out) _ r.1 (by omega)⟩
  · refine (HT.out 1 _ (by omega)).mono ?_
    rintro e w3 ⟨rfl, hB3⟩
    have hr2 : takeP s 1 = r := by
      rw [← Hr.out]
      unfold takenP
      simp only [beq_iff_eq, beq_eq_false_iff_ne, bne_iff_ne, bne_eq_false_iff_eq, ne_eq, Bool.not_eq_true] at *
      repeat (first | rw [if_pos (by omega)] | rw [if_neg (by omega)])
    rw [hr2]
    have K3 := HK2.out.later hB3
    have fr := fun i => K3.frozen i
    obtain ⟨d0, d1, d2, d3, d4, d5, d6⟩ := K3.cs
    have HB3 := hide_ hB3
    have HK3 := hide_ K3
    clear hB3 K3 hr2
    unfold stv
    go_wp2
    refine retSb rfl r.1 rfl rfl (HK3.out.putS r.1) ?_
    exact ⟨by rw [← Hrs.out]; rfl, below_putS (below_to HB2.out HB3.out) _ r.1 (by omega)⟩
  · refine (HU.out _).mono ?_
    rintro e w3 ⟨rfl, hB3⟩
    have hr2 : turnP s = r := by
      rw [← Hr.out]
      unfold takenP
      simp only [beq_iff_eq, beq_eq_false_iff_ne, bne_iff_ne, bne_eq_false_iff_eq, ne_eq, Bool.not_eq_true] at *
      repeat (first | rw [if_pos (by omega)] | rw [if_neg (by omega)])
    rw [hr2]
    have K3 := HK2.out.later hB3
    have fr := fun i => K3.frozen i
    obtain ⟨d0, d1, d2, d3, d4, d5, d6⟩ := K3.cs
    have HB3 := hide_ hB3
    have HK3 := hide_ K3
    clear hB3 K3 hr2
    unfold stv
    go_wp2
    refine retSb rfl r.1 rfl rfl (HK3.out.putS r.1) ?_
    exact ⟨by rw [← Hrs.out]; rfl, below_putS (below_to HB2.out HB3.out) _ r.1 (by omega)⟩
  · refine (HU.out _).mono ?_
    rintro e w3 ⟨rfl, hB3⟩
    have hr2 : turnP s = r := by
      rw [← Hr.out]
      unfold takenP
      simp only [beq_iff_eq, beq_eq_false_iff_ne, bne_iff_ne, bne_eq_false_iff_eq, ne_eq, Bool.not_eq_true] at *
      repeat (first | rw [if_pos (by omega)] | rw [if_neg (by omega)])
    rw [hr2]
    have K3 := HK2.out.later hB3
    have fr := fun i => K3.frozen i
    obtain ⟨d0, d1, d2, d3, d4, d5, d6⟩ := K3.cs
    have HB3 := hide_ hB3
    have HK3 := hide_ K3
    clear hB3 K3 hr2
    unfold stv
    go_wp2
    refine retSb rfl r.1 rfl rfl (HK3.out.putS r.1) ?_
    exact ⟨by rw [← Hrs.out]; rfl, below_putS (below_to HB2.out HB3.out) _ r.1 (by omega)⟩
  · refine (HU.out _).mono ?_
    rintro e w3 ⟨rfl, hB3⟩
    have hr2 : turnP s = r := by
      rw [← Hr.out]
      unfold takenP
      simp only [beq_iff_eq, beq_eq_false_iff_ne, bne_iff_ne, bne_eq_false_iff_eq, ne_eq, Bool.not_eq_true] at *
      repeat (first | rw [if_pos (by omega)] | rw [if_neg (by omega)])
    rw [hr2]
    have K3 := HK2.out.later hB3
    have fr := fun i => K3.frozen i
    obtain ⟨d0, d1, d2, d3, d4, d5, d6⟩ := K3.cs
    have HB3 := hide_ hB3
    have HK3 := hide_ K3
    clear hB3 K3 hr2
    unfold stv
    go_wp2
    refine retSb rfl r.1 rfl rfl (HK3.out.putS r.1) ?_
    exact ⟨by rw [← Hrs.out]; rfl, below_putS (below_to HB2.out HB3.out) _ r.1 (by omega)⟩
  · refine (HT.out 1 _ (by omega)).mono ?_
    rintro e w3 ⟨rfl, hB3⟩
    have hr2 : takeP s 1 = r := by
      rw [← Hr.out]
      unfold takenP
      simp only [beq_iff_eq, beq_eq_false_iff_ne, bne_iff_ne, bne_eq_false_iff_eq, ne_eq, Bool.not_eq_true] at *
      repeat (first | rw [if_pos (by omega)] | rw [if_neg (by omega)])
    rw [hr2]
    have K3 := HK2.out.later hB3
    have fr := fun i => K3.frozen i
    obtain ⟨d0, d1, d2, d3, d4, d5, d6⟩ := K3.cs
    have HB3 := hide_ hB3
    have HK3 := hide_ K3
    clear hB3 K3 hr2
    unfold stv
    go_wp2
    refine retSb rfl r.1 rfl rfl (HK3.out.putS r.1) ?_
    exact ⟨by rw [← Hrs.out]; rfl, below_putS (below_to HB2.out HB3.out) _ r.1 (by omega)⟩
  · refine (HT.out 1 _ (by omega)).mono ?_
    rintro e w3 ⟨rfl, hB3⟩
    have hr2 : takeP s 1 = r := by
      rw [← Hr.out]
      unfold takenP
      simp only [beq_iff_eq, beq_eq_false_iff_ne, bne_iff_ne, bne_eq_false_iff_eq, ne_eq, Bool.not_eq_true] at *
      repeat (first | rw [if_pos (by omega)] | rw [if_neg (by omega)])
    rw [hr2]
    have K3 := HK2.out.later hB3
    have fr := fun i => K3.frozen i
    obtain ⟨d0, d1, d2, d3, d4, d5, d6⟩ := K3.cs
    have HB3 := hide_ hB3
    have HK3 := hide_ K3
    clear hB3 K3 hr2
    unfold stv
    go_wp2
    refine retSb rfl r.1 rfl rfl (HK3.out.putS r.1) ?_
    exact ⟨by rw [← Hrs.out]; rfl, below_putS (below_to HB2.out HB3.out) _ r.1 (by omega)⟩
end Go.Proofs.YtiojpohmgjdgfaaGreat

/- sound: the encoder's hands. -/
namespace Go.Proofs.YtiojpohmgjdgfaaGreat
open Go.RowKit
set_option linter.unusedVariables false
set_option linter.unusedSimpArgs false

/-- A machine, a state and an instruction in boxes, and a new state. -/
def box4 (m : TypeId) (w : World) (s : St) (x : In) : World := box3 (w.alloc (.cells #[] m)) s x
theorem box4_ok (m : TypeId) (w : World) (s : St) (x : In) : Below w.heap.size w (box4 m w s x) ∧ Blk (box4 m w s x) (w.heap.size + 1) 126 (stc s) ∧ Blk (box4 m w s x) (w.heap.size + 1 + 1) 43 (inc x) ∧ Blk (box4 m w s x) (w.heap.size + 1 + 1 + 1) 126 (stc st0) ∧ w.heap.size + 4 ≤ (box4 m w s x).heap.size := by
  obtain ⟨h1, h2, h3, h4, h5⟩ := box3_ok (w.alloc (.cells #[] m)) s x
  have e : (w.alloc (.cells #[] m)).heap.size = w.heap.size + 1 := by simp
  rw [e] at h1 h2 h3 h4 h5
  refine ⟨?_, h2, h3, h4, by unfold box4; omega⟩
  have hb := below_to (below1 w (.cells #[] m)) (by rw [e]; exact h1)
  exact hb
set_option maxRecDepth 100000 in
set_option maxHeartbeats 8000000 in
theorem ehands_any (s : St) (x : In) (way : Int) (w : World) (hm : x.op = 34 → 0 ≤ x.b ∧ x.b ≤ 100000000) (hs : -100000000 ≤ s.le ∧ s.le ≤ 100000000) : Calls Tryz.prog 205 #[.agg #[], stv s, inv x, .int .i64 way] w fun e w' => e = .returned (stv (eHd s x way)) ∧ Below w.heap.size w w' := by
  obtain ⟨B2, K1, KX, K2, hz⟩ := box4_ok 147 w s x
  obtain ⟨w2, hw2⟩ : ∃ wx, box4 147 w s x = wx := ⟨_, rfl⟩
  rw [hw2] at B2 K1 KX K2 hz
  have HB2 := hide_ B2
  have HK1 := hide_ K1
  have HK2 := hide_ K2
  obtain ⟨c0, c1, c2, c3, c4, c5, c6⟩ := K1.cs
  obtain ⟨i0, i1, i2, i3⟩ := KX.ci
  obtain ⟨d0, d1, d2, d3, d4, d5, d6⟩ := K2.cs
  have fr1 := fun i => K1.frozen i
  have fr2 := fun i => K2.frozen i
  unfold box4 box3 at hw2
  clear B2 K1 KX K2
  have HT : Hid (∀ w, Calls Tryz.prog 208 #[stv s, inv x] w fun e w' => e = .returned (.tuple #[stv (takenP s x).1, .bool (takenP s x).2]) ∧ Below w.heap.size w w') := hide_ (fun w => taken_any s x w hm hs)
  have HL : Hid (∀ n w, Calls Tryz.prog 210 #[.int .i64 n] w fun e w' => e = .returned (stv (leftP n)) ∧ Below w.heap.size w w') := hide_ left_any
  have HS : Hid (∀ b w, Calls Tryz.prog 209 #[.bool b] w fun e w' => e = .returned (stv (seqP b)) ∧ Below w.heap.size w w') := hide_ seq_any
  obtain ⟨r, hr⟩ : ∃ r, eHd s x way = r := ⟨_, rfl⟩
  rw [hr]
  have Hr := hide_ hr
  clear hr hm hs
  obtain ⟨rs, hrs⟩ : ∃ y, stv r = y := ⟨_, rfl⟩
  rw [hrs]
  have Hrs := hide_ hrs
  clear hrs
  unfold stv inv
  go_enter Tryz.func205, Tryz.ntmps205
  go_upto_region 1 with fail
  try rw [hw2]
  clear hw2
  go_wp2_with fail
  · refine (HT.out _).mono ?_
    rintro e w3 ⟨rfl, hB3⟩
    have hr2 : (takenP s x).1 = r := by
      rw [← Hr.out]
      unfold eHd
      simp only [beq_iff_eq, beq_eq_false_iff_ne, bne_iff_ne, bne_eq_false_iff_eq, ne_eq, Bool.not_eq_true] at *
      repeat (first | rw [if_pos (by omega)] | rw [if_neg (by omega)])
      try (congr 1; simp; omega)
    rw [hr2]
    have K3 := HK2.out.later hB3
    have fr := fun i => K3.frozen i
    obtain ⟨e0, e1, e2, e3, e4, e5, e6⟩ := K3.cs
    obtain ⟨f0, f1, f2, f3, f4, f5, f6⟩ := (K3.alloc (.cells #[.int .i64 r.pl, .int .u64 (r.ki : Int), .int .i64 r.tb, .int .i64 r.pa, .int .i64 r.fr, .int .i64 r.le, .bool r.su] 126)).cs
    have fs := fun i => (K3.alloc (.cells #[.int .i64 r.pl, .int .u64 (r.ki : Int), .int .i64 r.tb, .int .i64 r.pa, .int .i64 r.fr, .int .i64 r.le, .bool r.su] 126)).frozen i
    have HB3 := hide_ hB3
    have HK3 := hide_ K3
    have hsz := hB3.size
    clear hB3 K3 hr2
    unfold stv
    go_wp2
    refine retSt rfl r rfl (Blk.putS (HK3.out.alloc _) r) ?_
    exact ⟨by (rw [← Hrs.out]; try rfl), below_putS ((below_to HB2.out HB3.out).alloc (by have := HB3.out.size; omega) _) _ r (by omega)⟩
  · refine (HT.out _).mono ?_
    rintro e w3 ⟨rfl, hB3⟩
    have hr2 : (takenP s x).1 = r := by
      rw [← Hr.out]
      unfold eHd
      simp only [beq_iff_eq, beq_eq_false_iff_ne, bne_iff_ne, bne_eq_false_iff_eq, ne_eq, Bool.not_eq_true] at *
      repeat (first | rw [if_pos (by omega)] | rw [if_neg (by omega)])
      try (congr 1; simp; omega)
    rw [hr2]
    have K3 := HK2.out.later hB3
    have fr := fun i => K3.frozen i
    obtain ⟨e0, e1, e2, e3, e4, e5, e6⟩ := K3.cs
    obtain ⟨f0, f1, f2, f3, f4, f5, f6⟩ := (K3.alloc (.cells #[.int .i64 r.pl, .int .u64 (r.ki : Int), .int .i64 r.tb, .int .i64 r.pa, .int .i64 r.fr, .int .i64 r.le, .bool r.su] 126)).cs
    have fs := fun i => (K3.alloc (.cells #[.int .i64 r.pl, .int .u64 (r.ki : Int), .int .i64 r.tb, .int .i64 r.pa, .int .i64 r.fr, .int .i64 r.le, .bool r.su] 126)).frozen i
    have HB3 := hide_ hB3
    have HK3 := hide_ K3
    have hsz := hB3.size
    clear hB3 K3 hr2
    unfold stv
    go_wp2
    refine retSt rfl r rfl (Blk.putS (HK3.out.alloc _) r) ?_
    exact ⟨by (rw [← Hrs.out]; try rfl), below_putS ((below_to HB2.out HB3.out).alloc (by have := HB3.out.size; omega) _) _ r (by omega)⟩
  · refine (HT.out _).mono ?_
    rintro e w3 ⟨rfl, hB3⟩
    have hr2 : (takenP s x).1 = r := by
      rw [← Hr.out]
      unfold eHd
      simp only [beq_iff_eq, beq_eq_false_iff_ne, bne_iff_ne, bne_eq_false_iff_eq, ne_eq, Bool.not_eq_true] at *
      repeat (first | rw [if_pos (by omega)] | rw [if_neg (by omega)])
      try (congr 1; simp; omega)
    rw [hr2]
    have K3 := HK2.out.later hB3
    have fr := fun i => K3.frozen i
    obtain ⟨e0, e1, e2, e3, e4, e5, e6⟩ := K3.cs
    obtain ⟨f0, f1, f2, f3, f4, f5, f6⟩ := (K3.alloc (.cells #[.int .i64 r.pl, .int .u64 (r.ki : Int), .int .i64 r.tb, .int .i64 r.pa, .int .i64 r.fr, .int .i64 r.le, .bool r.su] 126)).cs
    have fs := fun i => (K3.alloc (.cells #[.int .i64 r.pl, .int .u64 (r.ki : Int), .int .i64 r.tb, .int .i64 r.pa, .int .i64 r.fr, .int .i64 r.le, .bool r.su] 126)).frozen i
    have HB3 := hide_ hB3
    have HK3 := hide_ K3
    have hsz := hB3.size
    clear hB3 K3 hr2
    unfold stv
    go_wp2
    refine retSt rfl r rfl (Blk.putS (HK3.out.alloc _) r) ?_
    exact ⟨by (rw [← Hrs.out]; try rfl), below_putS ((below_to HB2.out HB3.out).alloc (by have := HB3.out.size; omega) _) _ r (by omega)⟩
  · refine (HT.out _).mono ?_
    rintro e w3 ⟨rfl, hB3⟩
    have hr2 : (takenP s x).1 = r := by
      rw [← Hr.out]
      unfold eHd
      simp only [beq_iff_eq, beq_eq_false_iff_ne, bne_iff_ne, bne_eq_false_iff_eq, ne_eq, Bool.not_eq_true] at *
      repeat (first | rw [if_pos (by omega)] | rw [if_neg (by omega)])
      try (congr 1; simp; omega)
    rw [hr2]
    have K3 := HK2.out.later hB3
    have fr := fun i => K3.frozen i
    obtain ⟨e0, e1, e2, e3, e4, e5, e6⟩ := K3.cs
    obtain ⟨f0, f1, f2, f3, f4, f5, f6⟩ := (K3.alloc (.cells #[.int .i64 r.pl, .int .u64 (r.ki : Int), .int .i64 r.tb, .int .i64 r.pa, .int .i64 r.fr, .int .i64 r.le, .bool r.su] 126)).cs
    have fs := fun i => (K3.alloc (.cells #[.int .i64 r.pl, .int .u64 (r.ki : Int), .int .i64 r.tb, .int .i64 r.pa, .int .i64 r.fr, .int .i64 r.le, .bool r.su] 126)).frozen i
    have HB3 := hide_ hB3
    have HK3 := hide_ K3
    have hsz := hB3.size
    clear hB3 K3 hr2
    unfold stv
    go_wp2
    refine retSt rfl r rfl (Blk.putS (HK3.out.alloc _) r) ?_
    exact ⟨by (rw [← Hrs.out]; try rfl), below_putS ((below_to HB2.out HB3.out).alloc (by have := HB3.out.size; omega) _) _ r (by omega)⟩
  · refine (HT.out _).mono ?_
    rintro e w3 ⟨rfl, hB3⟩
    have hr2 : (takenP s x).1 = r := by
      rw [← Hr.out]
      unfold eHd
      simp only [beq_iff_eq, beq_eq_false_iff_ne, bne_iff_ne, bne_eq_false_iff_eq, ne_eq, Bool.not_eq_true] at *
      repeat (first | rw [if_pos (by omega)] | rw [if_neg (by omega)])
      try (congr 1; simp; omega)
    rw [hr2]
    have K3 := HK2.out.later hB3
    have fr := fun i => K3.frozen i
    obtain ⟨e0, e1, e2, e3, e4, e5, e6⟩ := K3.cs
    obtain ⟨f0, f1, f2, f3, f4, f5, f6⟩ := (K3.alloc (.cells #[.int .i64 r.pl, .int .u64 (r.ki : Int), .int .i64 r.tb, .int .i64 r.pa, .int .i64 r.fr, .int .i64 r.le, .bool r.su] 126)).cs
    have fs := fun i => (K3.alloc (.cells #[.int .i64 r.pl, .int .u64 (r.ki : Int), .int .i64 r.tb, .int .i64 r.pa, .int .i64 r.fr, .int .i64 r.le, .bool r.su] 126)).frozen i
    have HB3 := hide_ hB3
    have HK3 := hide_ K3
    have hsz := hB3.size
    clear hB3 K3 hr2
    unfold stv
    go_wp2
    refine retSt rfl r rfl (Blk.putS (HK3.out.alloc _) r) ?_
    exact ⟨by (rw [← Hrs.out]; try rfl), below_putS ((below_to HB2.out HB3.out).alloc (by have := HB3.out.size; omega) _) _ r (by omega)⟩
  · refine (HT.out _).mono ?_
    rintro e w3 ⟨rfl, hB3⟩
    have hr2 : (takenP s x).1 = r := by
      rw [← Hr.out]
      unfold eHd
      simp only [beq_iff_eq, beq_eq_false_iff_ne, bne_iff_ne, bne_eq_false_iff_eq, ne_eq, Bool.not_eq_true] at *
      repeat (first | rw [if_pos (by omega)] | rw [if_neg (by omega)])
      try (congr 1; simp; omega)
    rw [hr2]
    have K3 := HK2.out.later hB3
    have fr := fun i => K3.frozen i
    obtain ⟨e0, e1, e2, e3, e4, e5, e6⟩ := K3.cs
    obtain ⟨f0, f1, f2, f3, f4, f5, f6⟩ := (K3.alloc (.cells #[.int .i64 r.pl, .int .u64 (r.ki : Int), .int .i64 r.tb, .int .i64 r.pa, .int .i64 r.fr, .int .i64 r.le, .bool r.su] 126)).cs
    have fs := fun i => (K3.alloc (.cells #[.int .i64 r.pl, .int .u64 (r.ki : Int), .int .i64 r.tb, .int .i64 r.pa, .int .i64 r.fr, .int .i64 r.le, .bool r.su] 126)).frozen i
    have HB3 := hide_ hB3
    have HK3 := hide_ K3
    have hsz := hB3.size
    clear hB3 K3 hr2
    unfold stv
    go_wp2
    refine retSt rfl r rfl (Blk.putS (HK3.out.alloc _) r) ?_
    exact ⟨by (rw [← Hrs.out]; try rfl), below_putS ((below_to HB2.out HB3.out).alloc (by have := HB3.out.size; omega) _) _ r (by omega)⟩
  · refine (HT.out _).mono ?_
    rintro e w3 ⟨rfl, hB3⟩
    have hr2 : (takenP s x).1 = r := by
      rw [← Hr.out]
      unfold eHd
      simp only [beq_iff_eq, beq_eq_false_iff_ne, bne_iff_ne, bne_eq_false_iff_eq, ne_eq, Bool.not_eq_true] at *
      repeat (first | rw [if_pos (by omega)] | rw [if_neg (by omega)])
      try (congr 1; simp; omega)
    rw [hr2]
    have K3 := HK2.out.later hB3
    have fr := fun i => K3.frozen i
    obtain ⟨e0, e1, e2, e3, e4, e5, e6⟩ := K3.cs
    obtain ⟨f0, f1, f2, f3, f4, f5, f6⟩ := (K3.alloc (.cells #[.int .i64 r.pl, .int .u64 (r.ki : Int), .int .i64 r.tb, .int .i64 r.pa, .int .i64 r.fr, .int .i64 r.le, .bool r.su] 126)).cs
    have fs := fun i => (K3.alloc (.cells #[.int .i64 r.pl, .int .u64 (r.ki : Int), .int .i64 r.tb, .int .i64 r.pa, .int .i64 r.fr, .int .i64 r.le, .bool r.su] 126)).frozen i
    have HB3 := hide_ hB3
    have HK3 := hide_ K3
    have hsz := hB3.size
    clear hB3 K3 hr2
    unfold stv
    go_wp2
    refine retSt rfl r rfl (Blk.putS (HK3.out.alloc _) r) ?_
    exact ⟨by (rw [← Hrs.out]; try rfl), below_putS ((below_to HB2.out HB3.out).alloc (by have := HB3.out.size; omega) _) _ r (by omega)⟩
  · refine (HS.out true _).mono ?_
    rintro e w3 ⟨rfl, hB3⟩
    have hr2 : seqP true = r := by
      rw [← Hr.out]
      unfold eHd
      simp only [beq_iff_eq, beq_eq_false_iff_ne, bne_iff_ne, bne_eq_false_iff_eq, ne_eq, Bool.not_eq_true] at *
      repeat (first | rw [if_pos (by omega)] | rw [if_neg (by omega)])
      try (congr 1; simp; omega)
    rw [hr2]
    have K3 := HK2.out.later hB3
    have fr := fun i => K3.frozen i
    obtain ⟨e0, e1, e2, e3, e4, e5, e6⟩ := K3.cs
    have HB3 := hide_ hB3
    have HK3 := hide_ K3
    have hsz := hB3.size
    clear hB3 K3 hr2
    unfold stv
    go_wp2
    refine retSt rfl r rfl (Blk.putS HK3.out r) ?_
    exact ⟨by (rw [← Hrs.out]; try rfl), below_putS (below_to HB2.out HB3.out) _ r (by omega)⟩
  · refine (HS.out false _).mono ?_
    rintro e w3 ⟨rfl, hB3⟩
    have hr2 : seqP false = r := by
      rw [← Hr.out]
      unfold eHd
      simp only [beq_iff_eq, beq_eq_false_iff_ne, bne_iff_ne, bne_eq_false_iff_eq, ne_eq, Bool.not_eq_true] at *
      repeat (first | rw [if_pos (by omega)] | rw [if_neg (by omega)])
      try (congr 1; simp; omega)
    rw [hr2]
    have K3 := HK2.out.later hB3
    have fr := fun i => K3.frozen i
    obtain ⟨e0, e1, e2, e3, e4, e5, e6⟩ := K3.cs
    have HB3 := hide_ hB3
    have HK3 := hide_ K3
    have hsz := hB3.size
    clear hB3 K3 hr2
    unfold stv
    go_wp2
    refine retSt rfl r rfl (Blk.putS HK3.out r) ?_
    exact ⟨by (rw [← Hrs.out]; try rfl), below_putS (below_to HB2.out HB3.out) _ r (by omega)⟩
  · refine (HL.out x.a _).mono ?_
    rintro e w3 ⟨rfl, hB3⟩
    have hr2 : leftP x.a = r := by
      rw [← Hr.out]
      unfold eHd
      simp only [beq_iff_eq, beq_eq_false_iff_ne, bne_iff_ne, bne_eq_false_iff_eq, ne_eq, Bool.not_eq_true] at *
      repeat (first | rw [if_pos (by omega)] | rw [if_neg (by omega)])
      try (congr 1; simp; omega)
    rw [hr2]
    have K3 := HK2.out.later hB3
    have fr := fun i => K3.frozen i
    obtain ⟨e0, e1, e2, e3, e4, e5, e6⟩ := K3.cs
    have HB3 := hide_ hB3
    have HK3 := hide_ K3
    have hsz := hB3.size
    clear hB3 K3 hr2
    unfold stv
    go_wp2
    refine retSt rfl r rfl (Blk.putS HK3.out r) ?_
    exact ⟨by (rw [← Hrs.out]; try rfl), below_putS (below_to HB2.out HB3.out) _ r (by omega)⟩
  · refine (HL.out 0 _).mono ?_
    rintro e w3 ⟨rfl, hB3⟩
    have hr2 : leftP 0 = r := by
      rw [← Hr.out]
      unfold eHd
      simp only [beq_iff_eq, beq_eq_false_iff_ne, bne_iff_ne, bne_eq_false_iff_eq, ne_eq, Bool.not_eq_true] at *
      repeat (first | rw [if_pos (by omega)] | rw [if_neg (by omega)])
      try (congr 1; simp; omega)
    rw [hr2]
    have K3 := HK2.out.later hB3
    have fr := fun i => K3.frozen i
    obtain ⟨e0, e1, e2, e3, e4, e5, e6⟩ := K3.cs
    have HB3 := hide_ hB3
    have HK3 := hide_ K3
    have hsz := hB3.size
    clear hB3 K3 hr2
    unfold stv
    go_wp2
    refine retSt rfl r rfl (Blk.putS HK3.out r) ?_
    exact ⟨by (rw [← Hrs.out]; try rfl), below_putS (below_to HB2.out HB3.out) _ r (by omega)⟩
  · refine (HL.out 1 _).mono ?_
    rintro e w3 ⟨rfl, hB3⟩
    have hr2 : leftP 1 = r := by
      rw [← Hr.out]
      unfold eHd
      simp only [beq_iff_eq, beq_eq_false_iff_ne, bne_iff_ne, bne_eq_false_iff_eq, ne_eq, Bool.not_eq_true] at *
      repeat (first | rw [if_pos (by omega)] | rw [if_neg (by omega)])
      try (congr 1; simp; omega)
    rw [hr2]
    have K3 := HK2.out.later hB3
    have fr := fun i => K3.frozen i
    obtain ⟨e0, e1, e2, e3, e4, e5, e6⟩ := K3.cs
    have HB3 := hide_ hB3
    have HK3 := hide_ K3
    have hsz := hB3.size
    clear hB3 K3 hr2
    unfold stv
    go_wp2
    refine retSt rfl r rfl (Blk.putS HK3.out r) ?_
    exact ⟨by (rw [← Hrs.out]; try rfl), below_putS (below_to HB2.out HB3.out) _ r (by omega)⟩
  · refine (HL.out 1 _).mono ?_
    rintro e w3 ⟨rfl, hB3⟩
    have hr2 : leftP 1 = r := by
      rw [← Hr.out]
      unfold eHd
      simp only [beq_iff_eq, beq_eq_false_iff_ne, bne_iff_ne, bne_eq_false_iff_eq, ne_eq, Bool.not_eq_true] at *
      repeat (first | rw [if_pos (by omega)] | rw [if_neg (by omega)])
      try (congr 1; simp; omega)
    rw [hr2]
    have K3 := HK2.out.later hB3
    have fr := fun i => K3.frozen i
    obtain ⟨e0, e1, e2, e3, e4, e5, e6⟩ := K3.cs
    have HB3 := hide_ hB3
    have HK3 := hide_ K3
    have hsz := hB3.size
    clear hB3 K3 hr2
    unfold stv
    go_wp2
    refine retSt rfl r rfl (Blk.putS HK3.out r) ?_
    exact ⟨by (rw [← Hrs.out]; try rfl), below_putS (below_to HB2.out HB3.out) _ r (by omega)⟩
  · refine (HS.out true _).mono ?_
    rintro e w3 ⟨rfl, hB3⟩
    have hr2 : seqP true = r := by
      rw [← Hr.out]
      unfold eHd
      simp only [beq_iff_eq, beq_eq_false_iff_ne, bne_iff_ne, bne_eq_false_iff_eq, ne_eq, Bool.not_eq_true] at *
      repeat (first | rw [if_pos (by omega)] | rw [if_neg (by omega)])
      try (congr 1; simp; omega)
    rw [hr2]
    have K3 := HK2.out.later hB3
    have fr := fun i => K3.frozen i
    obtain ⟨e0, e1, e2, e3, e4, e5, e6⟩ := K3.cs
    have HB3 := hide_ hB3
    have HK3 := hide_ K3
    have hsz := hB3.size
    clear hB3 K3 hr2
    unfold stv
    go_wp2
    refine retSt rfl r rfl (Blk.putS HK3.out r) ?_
    exact ⟨by (rw [← Hrs.out]; try rfl), below_putS (below_to HB2.out HB3.out) _ r (by omega)⟩
  · refine (HL.out 0 _).mono ?_
    rintro e w3 ⟨rfl, hB3⟩
    have hr2 : leftP 0 = r := by
      rw [← Hr.out]
      unfold eHd
      simp only [beq_iff_eq, beq_eq_false_iff_ne, bne_iff_ne, bne_eq_false_iff_eq, ne_eq, Bool.not_eq_true] at *
      repeat (first | rw [if_pos (by omega)] | rw [if_neg (by omega)])
      try (congr 1; simp; omega)
    rw [hr2]
    have K3 := HK2.out.later hB3
    have fr := fun i => K3.frozen i
    obtain ⟨e0, e1, e2, e3, e4, e5, e6⟩ := K3.cs
    have HB3 := hide_ hB3
    have HK3 := hide_ K3
    have hsz := hB3.size
    clear hB3 K3 hr2
    unfold stv
    go_wp2
    refine retSt rfl r rfl (Blk.putS HK3.out r) ?_
    exact ⟨by (rw [← Hrs.out]; try rfl), below_putS (below_to HB2.out HB3.out) _ r (by omega)⟩
  · have hr2 : s = r := by
      rw [← Hr.out]
      unfold eHd
      simp only [beq_iff_eq, beq_eq_false_iff_ne, bne_iff_ne, bne_eq_false_iff_eq, ne_eq, Bool.not_eq_true] at *
      repeat (first | rw [if_pos (by omega)] | rw [if_neg (by omega)])
    subst hr2
    refine retSt rfl s rfl (Blk.putS HK2.out s) ?_
    exact ⟨by (rw [← Hrs.out]; try rfl), below_putS HB2.out _ s (by omega)⟩
end Go.Proofs.YtiojpohmgjdgfaaGreat

/- sound: states compared; a machine, a state and an instruction in boxes. -/
namespace Go.Proofs.YtiojpohmgjdgfaaGreat
open Go.RowKit
set_option linter.unusedVariables false
/-- Where two states differ first. -/
theorem eq7g (s t : St) : (s.pl == t.pl) = false ∧ stEq s t = false ∨
    (s.pl == t.pl) = true ∧ ((s.ki : Int) == (t.ki : Int)) = false ∧ stEq s t = false ∨
    (s.pl == t.pl) = true ∧ ((s.ki : Int) == (t.ki : Int)) = true ∧ (s.tb == t.tb) = false ∧ stEq s t = false ∨
    (s.pl == t.pl) = true ∧ ((s.ki : Int) == (t.ki : Int)) = true ∧ (s.tb == t.tb) = true ∧ (s.pa == t.pa) = false ∧ stEq s t = false ∨
    (s.pl == t.pl) = true ∧ ((s.ki : Int) == (t.ki : Int)) = true ∧ (s.tb == t.tb) = true ∧ (s.pa == t.pa) = true ∧ (s.fr == t.fr) = false ∧ stEq s t = false ∨
    (s.pl == t.pl) = true ∧ ((s.ki : Int) == (t.ki : Int)) = true ∧ (s.tb == t.tb) = true ∧ (s.pa == t.pa) = true ∧ (s.fr == t.fr) = true ∧ (s.le == t.le) = false ∧ stEq s t = false ∨
    (s.pl == t.pl) = true ∧ ((s.ki : Int) == (t.ki : Int)) = true ∧ (s.tb == t.tb) = true ∧ (s.pa == t.pa) = true ∧ (s.fr == t.fr) = true ∧ (s.le == t.le) = true ∧ (s.su == t.su) = true ∧ stEq s t = true ∨
    (s.pl == t.pl) = true ∧ ((s.ki : Int) == (t.ki : Int)) = true ∧ (s.tb == t.tb) = true ∧ (s.pa == t.pa) = true ∧ (s.fr == t.fr) = true ∧ (s.le == t.le) = true ∧ (s.su == t.su) = false ∧ stEq s t = false := by
  unfold stEq
  cases h0 : (s.pl == t.pl)
  · simp
  cases h1 : ((s.ki : Int) == (t.ki : Int))
  · simp
  cases h2 : (s.tb == t.tb)
  · simp
  cases h3 : (s.pa == t.pa)
  · simp
  cases h4 : (s.fr == t.fr)
  · simp
  cases h5 : (s.le == t.le)
  · simp
  cases h6 : (s.su == t.su) <;> simp
set_option maxHeartbeats 4000000 in
theorem eql_run (s t : St) (w : World) : Sem.run Tryz.prog (binOp .eql 126 (stv s) (stv t)) w = .ok (.bool (stEq s t)) w := by
  unfold stv
  rcases eq7g s t with h | h | h | h | h | h | h | h
  all_goals
    try obtain ⟨h0, h⟩ := h
    try obtain ⟨h1, h⟩ := h
    try obtain ⟨h2, h⟩ := h
    try obtain ⟨h3, h⟩ := h
    try obtain ⟨h4, h⟩ := h
    try obtain ⟨h5, h⟩ := h
    try obtain ⟨h6, h⟩ := h
    rw [h]
    go_simp
    try with_reducible rfl
set_option maxHeartbeats 4000000 in
theorem eql_ex (s t : St) (o : Oper) (ρ : Operand → Value) (x y : Operand) (w : World) (ho : o.op = .binOp .eql 126 x y 126) (hx : ρ x = stv s) (hy : ρ y = stv t) : (execOp ρ o).run Tryz.prog w = .ok (.value (.bool (stEq s t))) w := by
  unfold execOp
  rw [ho]
  simp only [hx, hy]
  have h1 := eql_run s t w
  have hg : Sem.run Tryz.prog (eqGuard BinOp.eql 126 x y (stv s) (stv t)) w = .ok () w := by
    unfold stv
    go_simp
  simp only [Sem.run_bind, hg, h1, Result.andThen, Sem.run_pure]
theorem neq_run (s t : St) (w : World) : Sem.run Tryz.prog (binOp .neq 126 (stv s) (stv t)) w = .ok (.bool (!stEq s t)) w := by
  have h := eql_run s t w
  have e1 : binOp .eql 126 (stv s) (stv t) = (do pure (.bool (← Op.equal 126 (stv s) (stv t)))) := rfl
  have e2 : binOp .neq 126 (stv s) (stv t) = (do pure (.bool (!(← Op.equal 126 (stv s) (stv t))))) := rfl
  rw [e1] at h
  rw [e2]
  simp only [Sem.run_bind, Sem.run_pure] at h ⊢
  cases hq : Sem.run Tryz.prog (Op.equal 126 (stv s) (stv t)) w with
  | ok b w' =>
    rw [hq] at h
    simp only [Result.andThen, Result.ok.injEq, Value.bool.injEq] at h ⊢
    rw [h.1, h.2]
    exact ⟨rfl, rfl⟩
  | _ => rw [hq] at h; simp [Result.andThen] at h
set_option maxHeartbeats 4000000 in
theorem neq_ex (s t : St) (o : Oper) (ρ : Operand → Value) (x y : Operand) (w : World) (ho : o.op = .binOp .neq 126 x y 126) (hx : ρ x = stv s) (hy : ρ y = stv t) : (execOp ρ o).run Tryz.prog w = .ok (.value (.bool (!stEq s t))) w := by
  unfold execOp
  rw [ho]
  simp only [hx, hy]
  have h1 := neq_run s t w
  have hg : Sem.run Tryz.prog (eqGuard BinOp.neq 126 x y (stv s) (stv t)) w = .ok () w := by
    unfold stv
    go_simp
  simp only [Sem.run_bind, hg, h1, Result.andThen, Sem.run_pure]
/-- A machine, a state and an instruction in boxes. -/
def box5 (m : TypeId) (w : World) (s : St) (x : In) : World := ((w.alloc (.cells #[] m)).alloc (.cells #[.int .i64 s.pl, .int .u64 (s.ki : Int), .int .i64 s.tb, .int .i64 s.pa, .int .i64 s.fr, .int .i64 s.le, .bool s.su] 126)).alloc (.cells #[.int .i64 x.op, .int .i64 x.a, .int .i64 x.b, .int .i64 x.c] 43)
theorem box5_ok (m : TypeId) (w : World) (s : St) (x : In) : Below w.heap.size w (box5 m w s x) ∧ Blk (box5 m w s x) (w.heap.size + 1) 126 (stc s) ∧ Blk (box5 m w s x) (w.heap.size + 1 + 1) 43 (inc x) ∧ w.heap.size + 3 ≤ (box5 m w s x).heap.size := by
  have e : (w.alloc (.cells #[] m)).heap.size = w.heap.size + 1 := by simp
  have h := blk2 (w.alloc (.cells #[] m)) #[.int .i64 s.pl, .int .u64 (s.ki : Int), .int .i64 s.tb, .int .i64 s.pa, .int .i64 s.fr, .int .i64 s.le, .bool s.su] #[.int .i64 x.op, .int .i64 x.a, .int .i64 x.b, .int .i64 x.c] 126 43
  rw [e] at h
  refine ⟨?_, h.1, h.2, by simp [box5]⟩
  have := below_to (below1 w (.cells #[] m)) (below2 (w.alloc (.cells #[] m)) (.cells #[.int .i64 s.pl, .int .u64 (s.ki : Int), .int .i64 s.tb, .int .i64 s.pa, .int .i64 s.fr, .int .i64 s.le, .bool s.su] 126) (.cells #[.int .i64 x.op, .int .i64 x.a, .int .i64 x.b, .int .i64 x.c] 43))
  exact this
set_option maxRecDepth 100000 in
set_option maxHeartbeats 4000000 in
theorem ebegin_any (w : World) : Calls Tryz.prog 204 #[.agg #[]] w fun e w' => e = .returned (stv (mBg true)) ∧ Below w.heap.size w w' := by
  go_enter Tryz.func204, Tryz.ntmps204
  go_wp2
  refine retSt rfl (mBg true) rfl (blk2 w _ _ _ _).2 ?_
  exact ⟨rfl, below2 _ _ _⟩
set_option maxRecDepth 100000 in
set_option maxHeartbeats 4000000 in
theorem dbegin_any (w : World) : Calls Tryz.prog 213 #[.agg #[]] w fun e w' => e = .returned (stv (mBg false)) ∧ Below w.heap.size w w' := by
  go_enter Tryz.func213, Tryz.ntmps213
  go_wp2
  refine retSt rfl (mBg false) rfl (blk2 w _ _ _ _).2 ?_
  exact ⟨rfl, below2 _ _ _⟩
def mTy (enc : Bool) : TypeId := if enc then 147 else 148
def mcV (enc : Bool) : Value := .iface (mTy enc) (.agg #[])
set_option maxRecDepth 100000 in
set_option maxHeartbeats 4000000 in
theorem machineOf_any (enc : Bool) (w : World) : Calls Tryz.prog 79 #[.bool enc] w fun e w' => e = .returned (mcV enc) ∧ w = w' := by
  cases enc
  · go_enter Tryz.func79, Tryz.ntmps79
    go_wp2
    go_ret
    exact ⟨rfl, rfl⟩
  · go_enter Tryz.func79, Tryz.ntmps79
    go_wp2
    go_ret
    exact ⟨rfl, rfl⟩
end Go.Proofs.YtiojpohmgjdgfaaGreat

/- sound: the encoder's stands. -/
namespace Go.Proofs.YtiojpohmgjdgfaaGreat
open Go.RowKit
set_option linter.unusedVariables false
set_option linter.unusedSimpArgs false

set_option maxRecDepth 100000 in
set_option maxHeartbeats 8000000 in
theorem estands_43 (s : St) (x : In) (r : Int) (w : World) (h43 : x.op = 43) (ha : x.a = -1) : Calls Tryz.prog 207 #[.agg #[], stv s, inv x, .int .i64 r] w fun e w' => e = .returned (.bool (stEq s (seqP true))) ∧ Below w.heap.size w w' := by
  obtain ⟨B2, K1, KX, hz⟩ := box5_ok 147 w s x
  obtain ⟨w2, hw2⟩ : ∃ wx, box5 147 w s x = wx := ⟨_, rfl⟩
  rw [hw2] at B2 K1 KX hz
  have HB2 := hide_ B2
  have HK1 := hide_ K1
  obtain ⟨c0, c1, c2, c3, c4, c5, c6⟩ := K1.cs
  obtain ⟨i0, i1, i2, i3⟩ := KX.ci
  have fr1 := fun i => K1.frozen i
  unfold box5 at hw2
  have HC : Hid (∀ w, Calls Tryz.prog 209 #[.bool true] w fun e w' => e = .returned (stv (seqP true)) ∧ Below w.heap.size w w') := hide_ (fun w => seq_any true w)
  have K1d := K1.drew.cs
  have H43 := hide_ h43
  have Ha := hide_ ha
  clear B2 K1 KX h43 ha
  unfold stv inv
  go_enter Tryz.func207, Tryz.ntmps207
  go_upto_region 1 with fail
  try rw [hw2]
  clear hw2
  rw [H43.out] at i0
  rw [Ha.out] at i1
  go_wp2_with fail
  refine wp_region_last 3 (fun w' => w'.cell? ⟨w.heap.size + 1, 0, none⟩ = some (.int .i64 s.pl) ∧ w'.cell? ⟨w.heap.size + 1, 1, none⟩ = some (.int .u64 (s.ki : Int)) ∧ w'.cell? ⟨w.heap.size + 1, 2, none⟩ = some (.int .i64 s.tb) ∧ w'.cell? ⟨w.heap.size + 1, 3, none⟩ = some (.int .i64 s.pa) ∧ w'.cell? ⟨w.heap.size + 1, 4, none⟩ = some (.int .i64 s.fr) ∧ w'.cell? ⟨w.heap.size + 1, 5, none⟩ = some (.int .i64 s.le) ∧ w'.cell? ⟨w.heap.size + 1, 6, none⟩ = some (.bool s.su)) (by kernel_rfl) (K1d) (fun hHeld => ?_)
  refine wpAnyF_take [3] (by kernel_rfl) (i := 0) (v := ?vp1) rfl (by kernel_rfl) (by kernel_rfl) (by kernel_rfl) (fun _ _ _ h => h) (Or.inl ⟨by kernel_rfl, ?hyp1⟩) hHeld ?restp1
  case hyp1 => intro w' hSw; (try dsimp only at hSw); go_simp; try with_reducible rfl
  simp only [Act.put]
  try dsimp only
  refine wpAnyF_ready (rs := [1]) (by kernel_rfl) (by simp) ?_
  refine AllReadyF.cons rfl (fun K hK => ?_) AllReadyF.nil
  go_simp
  go_at_call 209
  refine (HC.out _).mono ?_
  rintro e w3 ⟨rfl, hB3⟩
  have HB3 := hide_ (below_to HB2.out.drew hB3)
  have K3 := (HK1.out.drew.later hB3).cs
  go_simp
  refine hK.out _ _ (K3) (fun hHeld => ?_)
  clear hK K
  refine wpAnyF_take [3] (by kernel_rfl) (i := 2) (v := ?vp2) rfl (by kernel_rfl) (by kernel_rfl) (by kernel_rfl) (fun _ _ _ h => h) (Or.inl ⟨by kernel_rfl, ?hyp2⟩) hHeld ?restp2
  case hyp2 => intro w' hSw; (refine eql_ex s (seqP true) _ _ (.tmp 69) (.tmp 70) w' ?_ ?_ ?_ <;> first | rfl | kernel_rfl)
  simp only [Act.put]
  try dsimp only
  refine wpAnyF_ready (rs := [3]) (by kernel_rfl) (by simp) ?_
  refine AllReadyF.last rfl (fun K hK => ?_)
  go_simp
  refine hK.out _ _ ?_
  clear hK K
  refine wpAnyF_done (by kernel_rfl) ?_ _
  go_wp2
  go_ret
  exact ⟨rfl, HB3.out⟩

set_option maxRecDepth 100000 in
set_option maxHeartbeats 8000000 in
theorem estands_20 (s : St) (x : In) (r : Int) (w : World) (h20 : x.op = 20) : Calls Tryz.prog 207 #[.agg #[], stv s, inv x, .int .i64 r] w fun e w' => e = .returned (.bool (stEq s (leftP 0))) ∧ Below w.heap.size w w' := by
  obtain ⟨B2, K1, KX, hz⟩ := box5_ok 147 w s x
  obtain ⟨w2, hw2⟩ : ∃ wx, box5 147 w s x = wx := ⟨_, rfl⟩
  rw [hw2] at B2 K1 KX hz
  have HB2 := hide_ B2
  have HK1 := hide_ K1
  obtain ⟨c0, c1, c2, c3, c4, c5, c6⟩ := K1.cs
  obtain ⟨i0, i1, i2, i3⟩ := KX.ci
  have fr1 := fun i => K1.frozen i
  unfold box5 at hw2
  have HC : Hid (∀ w, Calls Tryz.prog 210 #[.int .i64 0] w fun e w' => e = .returned (stv (leftP 0)) ∧ Below w.heap.size w w') := hide_ (fun w => left_any 0 w)
  have K1d := K1.drew.cs
  have H20 := hide_ h20
  clear B2 K1 KX h20
  unfold stv inv
  go_enter Tryz.func207, Tryz.ntmps207
  go_upto_region 1 with fail
  try rw [hw2]
  clear hw2
  rw [H20.out] at i0
  go_wp2_with fail
  refine wp_region_last 3 (fun w' => w'.cell? ⟨w.heap.size + 1, 0, none⟩ = some (.int .i64 s.pl) ∧ w'.cell? ⟨w.heap.size + 1, 1, none⟩ = some (.int .u64 (s.ki : Int)) ∧ w'.cell? ⟨w.heap.size + 1, 2, none⟩ = some (.int .i64 s.tb) ∧ w'.cell? ⟨w.heap.size + 1, 3, none⟩ = some (.int .i64 s.pa) ∧ w'.cell? ⟨w.heap.size + 1, 4, none⟩ = some (.int .i64 s.fr) ∧ w'.cell? ⟨w.heap.size + 1, 5, none⟩ = some (.int .i64 s.le) ∧ w'.cell? ⟨w.heap.size + 1, 6, none⟩ = some (.bool s.su)) (by kernel_rfl) (K1d) (fun hHeld => ?_)
  refine wpAnyF_take [3] (by kernel_rfl) (i := 0) (v := ?vp1) rfl (by kernel_rfl) (by kernel_rfl) (by kernel_rfl) (fun _ _ _ h => h) (Or.inl ⟨by kernel_rfl, ?hyp1⟩) hHeld ?restp1
  case hyp1 => intro w' hSw; (try dsimp only at hSw); go_simp; try with_reducible rfl
  simp only [Act.put]
  try dsimp only
  refine wpAnyF_ready (rs := [1]) (by kernel_rfl) (by simp) ?_
  refine AllReadyF.cons rfl (fun K hK => ?_) AllReadyF.nil
  go_simp
  go_at_call 210
  refine (HC.out _).mono ?_
  rintro e w3 ⟨rfl, hB3⟩
  have HB3 := hide_ (below_to HB2.out.drew hB3)
  have K3 := (HK1.out.drew.later hB3).cs
  go_simp
  refine hK.out _ _ (K3) (fun hHeld => ?_)
  clear hK K
  refine wpAnyF_take [3] (by kernel_rfl) (i := 2) (v := ?vp2) rfl (by kernel_rfl) (by kernel_rfl) (by kernel_rfl) (fun _ _ _ h => h) (Or.inl ⟨by kernel_rfl, ?hyp2⟩) hHeld ?restp2
  case hyp2 => intro w' hSw; (refine eql_ex s (leftP 0) _ _ (.tmp 75) (.tmp 76) w' ?_ ?_ ?_ <;> first | rfl | kernel_rfl)
  simp only [Act.put]
  try dsimp only
  refine wpAnyF_ready (rs := [3]) (by kernel_rfl) (by simp) ?_
  refine AllReadyF.last rfl (fun K hK => ?_)
  go_simp
  refine hK.out _ _ ?_
  clear hK K
  refine wpAnyF_done (by kernel_rfl) ?_ _
  go_wp2
  go_ret
  exact ⟨rfl, HB3.out⟩

set_option maxRecDepth 100000 in
set_option maxHeartbeats 8000000 in
theorem estands_c (s : St) (x : In) (r : Int) (w : World) (h43 : x.op = 43 → x.a ≠ -1) (h20 : x.op ≠ 20) (hm : x.op = 34 → 0 ≤ x.b ∧ x.b ≤ 100000000) (hs : -100000000 ≤ s.le ∧ s.le ≤ 100000000) : Calls Tryz.prog 207 #[.agg #[], stv s, inv x, .int .i64 r] w fun e w' => e = .returned (.bool (eSt s x r)) ∧ Below w.heap.size w w' := by
  obtain ⟨B2, K1, KX, hz⟩ := box5_ok 147 w s x
  obtain ⟨w2, hw2⟩ : ∃ wx, box5 147 w s x = wx := ⟨_, rfl⟩
  rw [hw2] at B2 K1 KX hz
  have HB2 := hide_ B2
  have HK1 := hide_ K1
  obtain ⟨c0, c1, c2, c3, c4, c5, c6⟩ := K1.cs
  obtain ⟨i0, i1, i2, i3⟩ := KX.ci
  have fr1 := fun i => K1.frozen i
  unfold box5 at hw2
  have HT : Hid (∀ w, Calls Tryz.prog 208 #[stv s, inv x] w fun e w' => e = .returned (.tuple #[stv (takenP s x).1, .bool (takenP s x).2]) ∧ Below w.heap.size w w') := hide_ (fun w => taken_any s x w hm hs)
  have H43 := hide_ h43
  have g20 : (x.op == 20) = false := by simpa using h20
  obtain ⟨b, hb⟩ : ∃ b, eSt s x r = b := ⟨_, rfl⟩
  rw [hb]
  have Hb := hide_ hb
  clear B2 K1 KX h43 h20 hm hs hb
  obtain ⟨ts, hts⟩ : ∃ y, stv (takenP s x).1 = y := ⟨_, rfl⟩
  unfold stv inv
  go_enter Tryz.func207, Tryz.ntmps207
  go_upto_region 1 with fail
  try rw [hw2]
  clear hw2
  go_wp2_with fail
  all_goals
    first
      | (refine (HT.out _).mono ?_
         rintro e w3 ⟨rfl, hB3⟩
         have hr2 : (takenP s x).2 = b := by
           rw [← Hb.out]
           unfold eSt
           simp only [beq_iff_eq, beq_eq_false_iff_ne, bne_iff_ne, bne_eq_false_iff_eq, ne_eq, Bool.not_eq_true] at *
           repeat (first | rw [if_pos (by omega)] | rw [if_neg (by omega)])
         have HB3 := hide_ (below_to HB2.out hB3)
         have hsz := hB3.size
         rw [hr2]
         clear hB3 hr2
         unfold stv
         go_wp2
         go_ret
         exact ⟨rfl, HB3.out.alloc (by have := HB3.out.size; omega) _⟩)
      | (go_ret
         refine ⟨?_, HB2.out⟩
         rw [← Hb.out]
         unfold eSt
         simp only [beq_iff_eq, beq_eq_false_iff_ne, bne_iff_ne, bne_eq_false_iff_eq, ne_eq, Bool.not_eq_true] at *
         repeat (first | rw [if_pos (by omega)] | rw [if_neg (by omega)])
         first | rfl | (congr 2; simp_all; done) | (congr 2; simp; omega) | (by_cases hxa : x.a = -1 <;> simp_all <;> done))
      | (exfalso
         have := H43.out (by simp only [beq_iff_eq] at *; omega)
         simp only [beq_iff_eq, beq_eq_false_iff_ne, bne_iff_ne, bne_eq_false_iff_eq, ne_eq, Bool.not_eq_true] at *
         omega)
theorem estands_any (s : St) (x : In) (r : Int) (w : World) (hm : x.op = 34 → 0 ≤ x.b ∧ x.b ≤ 100000000) (hs : -100000000 ≤ s.le ∧ s.le ≤ 100000000) : Calls Tryz.prog 207 #[.agg #[], stv s, inv x, .int .i64 r] w fun e w' => e = .returned (.bool (eSt s x r)) ∧ Below w.heap.size w w' := by
  by_cases h20 : x.op = 20
  · have e : eSt s x r = stEq s (leftP 0) := by unfold eSt; simp [h20]
    rw [e]; exact estands_20 s x r w h20
  by_cases h43 : x.op = 43 ∧ x.a = -1
  · have e : eSt s x r = stEq s (seqP true) := by unfold eSt; simp [h43]
    rw [e]; exact estands_43 s x r w h43.1 h43.2
  · exact estands_c s x r w (fun h e => h43 ⟨h, e⟩) h20 hm hs
end Go.Proofs.YtiojpohmgjdgfaaGreat

/- sound: armTargets, ways; slices.Index, slices.Contains. -/
namespace Go.Proofs.YtiojpohmgjdgfaaGreat
open Go.RowKit
set_option linter.unusedVariables false
set_option linter.unusedSimpArgs false

theorem makeZ (n : Nat) (hn : n ≤ 1000000000) (w : World) : (Instr.makeSlice 23 (.int .i64 (n : Int)) (.int .i64 (n : Int))).run Tryz.prog w = .ok (.slice (some ⟨w.heap.size, 0, none⟩) n n) (w.alloc (.cells (madeCells #[.int .i64 0] n) 3)) := by
  obtain ⟨i0, hi, hz0, hz1, hz2⟩ := info_parts elI.info
  have hb : (i0.bytes : Int) * (n : Int) ≤ 281474976710656 := by rw [hz2]; omega
  have hr := run_make (P := Tryz.prog) w 23 3 i0 (.int .i64 0) Tryz.underlying23 hi hz0 .i64 .i64 n n (by omega) (Int.le_refl _) hb (by omega)
  rw [Int.toNat_natCast, hz1, Nat.mul_one] at hr
  exact hr
theorem madeZ0 (n : Nat) : (madeCells #[.int .i64 0] n).toList = cellsL .i64 (List.replicate n 0) := by
  apply List.ext_getElem?
  intro i
  by_cases h : i < n <;> simp [madeCells, cellsL, Nat.mod_one, h]
theorem ownZ (w : World) (n : Nat) (hn : n ≤ 1000000000) : IOwn (w.alloc (.cells (madeCells #[.int .i64 0] n) 3)) w.heap.size (.slice (some ⟨w.heap.size, 0, none⟩) n n) (List.replicate n 0) := by
  have h := ownS_of_blk (c := 1) (n := n) (cap := n) (Blk.newA w (madeCells #[.int .i64 0] n) 3) (Nat.le_refl _) (by simp [size_madeCells]) (Nat.le_refl _) (by unfold maxLen; omega)
  unfold IOwn
  rw [List.length_replicate]
  rw [madeZ0] at h
  rw [show (cellsL .i64 (List.replicate n 0)).take (n * 1) = cellsL .i64 (List.replicate n 0) by rw [List.take_of_length_le]; simp [cellsL]] at h
  exact h
/-- The targets of the first arms, and zeros. -/
def armM (A : List In) (j : Nat) : List Int := (A.take j).map (·.b) ++ List.replicate (A.length - j) 0
theorem armM_len (A : List In) (j : Nat) (h : j ≤ A.length) : (armM A j).length = A.length := by simp [armM]; omega
theorem armM_0 (A : List In) : armM A 0 = List.replicate A.length 0 := by simp [armM]
theorem armM_all (A : List In) : armM A A.length = A.map (·.b) := by simp [armM]
theorem armM_set (A : List In) (j : Nat) (x : In) (hx : A[j]? = some x) : (armM A j).set j x.b = armM A (j + 1) := by
  obtain ⟨hj, e⟩ := List.getElem?_eq_some_iff.1 hx
  unfold armM
  have e1 : A.length - j = (A.length - (j + 1)) + 1 := by omega
  rw [e1, List.replicate_succ, List.set_append_right _ _ (by simp; omega)]
  simp only [List.length_map, List.length_take]
  rw [show j - min j A.length = 0 by omega, List.set_cons_zero, List.take_succ_eq_append_getElem hj]
  simp [e]
set_option maxRecDepth 100000 in
set_option maxHeartbeats 4000000 in
theorem armT_any (a : Option Addr) (n c : Nat) (A : List In) (w : World) (hn : A.length = n) (hl : n ≤ 1000) (hr : Hid (IRow w a A)) : Calls Tryz.prog 157 #[.slice a n c] w fun e w' => ∃ v, e = .returned v ∧ Hid (IOwn w' w.heap.size v (A.map (·.b))) ∧ Hid (Below w.heap.size w w') := by
  obtain ⟨w1, hmk, ho1, hB1⟩ : ∃ w1, (Instr.makeSlice 23 (.int .i64 (n : Int)) (.int .i64 (n : Int))).run Tryz.prog w = .ok (.slice (some ⟨w.heap.size, 0, none⟩) n n) w1 ∧ IOwn w1 w.heap.size (.slice (some ⟨w.heap.size, 0, none⟩) n n) (List.replicate n 0) ∧ Below w.heap.size w w1 := ⟨_, makeZ n (by omega) w, ownZ w n (by omega), below1 _ _⟩
  have HO1 := hide_ ho1
  have HB1 := hide_ hB1
  have Hn := hide_ hn
  clear ho1 hB1 hn
  go_enter Tryz.func157, Tryz.ntmps157
  go_wp2_with fail
  clear hmk
  go_loopw [11] (fun x11 wr => ∃ (j : Nat), j ≤ n ∧ x11 = .int .i64 (j : Int) ∧ Hid (IOwn wr w.heap.size (.slice (some ⟨w.heap.size, 0, none⟩) n n) (armM A j)) ∧ Hid (Below w.heap.size w wr)) (fun x11 _ => n - (intOf x11).toNat)
  case atStart => exact ⟨0, by omega, rfl, hide_ (by rw [armM_0, Hn.out]; exact HO1.out), HB1⟩
  case round =>
    clear HO1 HB1
    obtain ⟨j, hj, rfl, HO, HB⟩ := hrel
    generalize wr = wq at *
    by_cases hlt : j < n
    · have hlt' : (j : Int) < (n : Int) := by omega
      have hjA : j < A.length := by rw [Hn.out]; exact hlt
      obtain ⟨x, hx⟩ : ∃ x, A[j]? = some x := ⟨_, List.getElem?_eq_getElem hjA⟩
      obtain ⟨b, off, rfl, hb, hc⟩ := (hr.out.later HB.out).open (by omega)
      have hcx := hc j x hx
      have i0 := hcx 0 (by decide); have i1 := hcx 1 (by decide); have i2 := hcx 2 (by decide); have i3 := hcx 3 (by decide)
      simp [inc] at i0 i1 i2 i3
      obtain ⟨w2, hw2⟩ : ∃ wx, wq.alloc (.cells #[.int .i64 x.op, .int .i64 x.a, .int .i64 x.b, .int .i64 x.c] 43) = wx := ⟨_, rfl⟩
      have hB2 : Below wq.heap.size wq w2 := by rw [← hw2]; exact below1 _ _
      have K2 : Blk w2 wq.heap.size 43 (inc x) := by rw [← hw2]; exact Blk.newA wq _ _
      have hO2 := HO.out.later hB2
      have hlm := armM_len A j (by omega)
      have cc := hO2.cellH (i := j) (by rw [hlm]; omega)
      obtain ⟨cw, fw⟩ := cc
      have k2 := K2.cell 2
      simp [inc] at k2
      have HO3 : Hid (IOwn (w2.setCell ⟨w.heap.size, j, none⟩ (.int .i64 x.b)) w.heap.size (.slice (some ⟨w.heap.size, 0, none⟩) n n) (armM A (j + 1))) := hide_ (by
        have := hO2.set (i := j) (by rw [hlm]; omega) x.b
        rw [armM_set A j x hx] at this
        exact this)
      have HB3 : Hid (Below w.heap.size w (w2.setCell ⟨w.heap.size, j, none⟩ (.int .i64 x.b))) := hide_ (below_set (below_to HB.out hB2) _ _ _ (Nat.le_refl _))
      clear hc hcx hB2 K2 hO2 hlm hx HO HB
      go_wp2_with fail
      go_roundw
      case rel => exact ⟨j + 1, by omega, by go_num, HO3, HB3⟩
      case measure => simp [intOf]; omega
    · have hlt' : ¬ ((j : Int) < (n : Int)) := by omega
      have e0 : j = A.length := by rw [Hn.out]; omega
      have HO2 : Hid (IOwn wq w.heap.size (.slice (some ⟨w.heap.size, 0, none⟩) n n) (A.map (·.b))) := hide_ (by rw [← armM_all, ← e0]; exact HO.out)
      clear e0 HO
      go_wp2_with fail
      go_ret
      exact ⟨_, rfl, HO2, HB⟩
def CoIs (r x : Int) (l : List Int) : Prop := decide (0 ≤ r) = decide (x ∈ l)
set_option maxRecDepth 100000 in
set_option maxHeartbeats 4000000 in
theorem indexI_any (a : Option Addr) (n c : Nat) (l : List Int) (x : Int) (w : World) (hln : l.length = n) (hl : l.length ≤ 9223372036854775806) (hr : Hid (Row .i64 w a l)) :
    Calls Tryz.prog 156 #[.slice a n c, .int .i64 x] w fun e w' => (∃ r : Int, e = .returned (.int .i64 r) ∧ Hid (CoIs r x l)) ∧ w = w' := by
  subst hln
  go_enter Tryz.func156, Tryz.ntmps156
  go_wp2_with fail
  go_loop [8] (fun x8 => ∃ j : Nat, j ≤ l.length ∧ x8 = .int .i64 (j : Int) ∧ Hid (∀ (i : Nat) (q : Int), i < j → l[i]? = some q → q ≠ x)) (fun x8 => l.length - (intOf x8).toNat)
  case atStart => exact ⟨0, Nat.zero_le _, rfl, hide_ (fun i q hi => by omega)⟩
  case round =>
    obtain ⟨j, hj, rfl, HA⟩ := hrel
    by_cases hlt : j < l.length
    · have hlt' : (j : Int) < l.length := by omega
      obtain ⟨b, off, rfl, hb, hc⟩ := hr.out.open (by omega)
      have hcx := hc j hlt
      obtain ⟨q, hx⟩ : ∃ q, l.getD j 0 = q := ⟨_, rfl⟩
      rw [hx] at hcx
      have HX : Hid (l[j]? = some q) := hide_ (by rw [List.getElem?_eq_getElem hlt, ← hx]; simp [List.getD, hlt])
      clear hc hx
      by_cases hm : x = q
      · have HL : Hid (CoIs (j : Int) x l) := hide_ (by
          unfold CoIs
          rw [decide_eq_true (by omega)]
          exact (decide_eq_true (hm ▸ List.mem_of_getElem? HX.out)).symm)
        have f : (x == q) = true := by simpa using hm
        clear hm
        go_wp2
        go_ret
        exact ⟨⟨j, rfl, HL⟩, rfl⟩
      · have HA2 : Hid (∀ (i : Nat) (q : Int), i < j + 1 → l[i]? = some q → q ≠ x) := hide_ (fun i p hi hp => by
          rcases Nat.lt_or_ge i j with h | h
          · exact HA.out i p h hp
          · obtain rfl : i = j := by omega
            rw [HX.out] at hp
            injection hp with hp
            subst hp
            exact fun e => hm e.symm)
        have f : (x == q) = false := by simpa using hm
        clear hm
        go_wp2
        go_round
        case rel => exact ⟨j + 1, by omega, by go_num, HA2⟩
        case measure => simp [intOf]; omega
    · obtain rfl : j = l.length := by omega
      have HL : Hid (CoIs (-1) x l) := hide_ (by
        unfold CoIs
        rw [decide_eq_false (by omega)]
        symm
        refine decide_eq_false (fun hq => ?_)
        obtain ⟨i, hi, e⟩ := List.mem_iff_getElem.1 hq
        exact HA.out i x hi (by rw [List.getElem?_eq_getElem hi, e]) rfl)
      go_wp2
      go_ret
      exact ⟨⟨-1, rfl, HL⟩, rfl⟩
set_option maxRecDepth 100000 in
set_option maxHeartbeats 4000000 in
theorem containsI_any (a : Option Addr) (n c : Nat) (l : List Int) (x : Int) (w : World) (hln : l.length = n) (hl : l.length ≤ 9223372036854775806) (hr : Hid (Row .i64 w a l)) :
    Calls Tryz.prog 123 #[.slice a n c, .int .i64 x] w fun e w' => e = .returned (.bool (decide (x ∈ l))) ∧ w = w' := by
  have HC := hide_ (indexI_any a n c l x w hln hl hr)
  go_enter Tryz.func123, Tryz.ntmps123
  go_wp2_with fail
  refine HC.out.mono ?_
  rintro e w' ⟨⟨r, rfl, HR⟩, rfl⟩
  go_wp2_with fail
  go_ret
  exact ⟨by rw [← HR.out]; rfl, rfl⟩
theorem elem22 : Tryz.prog.underlying 22 = some (.slice (Tryz.prog.elem 22)) := by kernel_rfl
theorem size22 : (Tryz.prog.info? (Tryz.prog.elem 22)).map (·.size) = some 4 := by kernel_rfl
theorem cutC (b off L c T m : Nat) (hE : T + m ≤ c) (hT : T < c) (hc : c ≤ 9223372036854775807) (w' : World) :
    (Instr.slice 22 (.slice (some ⟨b, off, none⟩) L c) (some (.int .i64 (T : Int))) (some (.int .i64 ((T : Int) + (m : Int)))) none).run Tryz.prog w' = .ok (.slice (some ⟨b, off + T * 4, none⟩) m (c - T)) w' := by
  rw [run_slice_lh (P := Tryz.prog) w' 22 (some ⟨b, off, none⟩) L c elem22 .i64 .i64 T (T + m) (by omega) (by omega) (by omega)]
  obtain ⟨i, hi, hsz⟩ : ∃ i, Tryz.prog.info? (Tryz.prog.elem 22) = some i ∧ i.size = 4 := by
    have := size22
    cases hh : Tryz.prog.info? (Tryz.prog.elem 22) with
    | none => rw [hh] at this; cases this
    | some i => rw [hh] at this; exact ⟨i, rfl, by simpa using this⟩
  have h1 : ((T : Int) + (m : Int)).toNat = T + m := by omega
  have hne : ¬ c = T := by omega
  simp [sizeOf, typeInfo, hi, hsz, sliced, Result.andThen, h1, hne, Addr.add]
end Go.Proofs.YtiojpohmgjdgfaaGreat
