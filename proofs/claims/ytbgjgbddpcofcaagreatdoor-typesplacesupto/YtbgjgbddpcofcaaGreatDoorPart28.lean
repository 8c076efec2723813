import Derived.Test.YtbgjgbddpcofcaaGreatDoorPart20
import Derived.Maps.OwnSet
import Derived.DeepKeys4
import Derived.StringKeys
import Derived.Carry

/- Maps: names to numbers; parts. numbered. -/
namespace Go.Proofs.YtbgjgbddpcofcaaGreatDoor
open Go.RowKit
open Go.Maps (Keyed)
set_option linter.unusedVariables false

theorem kStr : Keyed Tryz.prog 9 := Go.Maps.string_keyed Tryz.underlying9
theorem zInt (w : World) : (zeroValue 3).run Tryz.prog w = .ok (.int .i64 0) w := by kernel_rfl
theorem wfN {i : Int} (h : -9223372036854775808 ≤ i ∧ i ≤ 9223372036854775807) : (Lit.int .i64 i).wf = true := WalkArith.wf_i64 h
/-- A map of names to numbers lies here. -/
def MpS (w : World) (b n : Nat) (f : ByteArray → Option Nat) : Prop :=
  ∃ D : DataW Unit, w.ownsMap Tryz.prog 9 (plainElem Tryz.prog 3) b n D ∧ ∀ s : ByteArray, s.size ≤ maxLen → Go.Maps.has D (.string s.data.toList) = (f s).isSome ∧ ∀ i, f s = some i → D.atKey (.string s.data.toList) (.lit (.int .i64 0)) = .lit (.int .i64 (i : Int))
section
variable {w w' : World} {b n : Nat} {f : ByteArray → Option Nat}
theorem MpS.lt (h : MpS w b n f) : b < w.heap.size := h.elim fun D h => h.1.lt
theorem ownsMap_upd {H : Type} {k : TypeId} {R : Value → Option (DataW H × List MemPlace)} {D : DataW H} {S : Nat → Prop} (h : w.ownsMap Tryz.prog k R b n D) (hu : Upd S w w') (hs : ¬ S b) : w'.ownsMap Tryz.prog k R b n D := by
  have hl := h.lt
  obtain ⟨es, cl, hb, r⟩ := h
  exact ⟨es, cl, (hu.block b hl hs).trans hb, r⟩
theorem MpS.upd {S : Nat → Prop} (h : MpS w b n f) (hu : Upd S w w') (hs : ¬ S b) : MpS w' b n f := by
  obtain ⟨D, h1, h2⟩ := h
  exact ⟨D, ownsMap_upd h1 hu hs, h2⟩
theorem MpS.later (h : MpS w b n f) (hB : Below w.heap.size w w') : MpS w' b n f := h.upd (Upd.of_below (S := fun _ => False) hB) (fun h => h)
theorem MpS.ne {g : Nat} {t : TypeId} {xs : List Value} (h : MpS w b n f) (k : Blk w g t xs) : b ≠ g := by
  rintro rfl
  obtain ⟨D, ⟨es, cl, hb, _⟩, _⟩ := h
  unfold Blk at k
  rw [hb] at k
  cases k
theorem MpS.mk (w : World) : MpS (w.alloc (.map #[] 0)) w.heap.size 0 (fun _ => none) :=
  ⟨.map [], World.ownsMap_made _ _ _ _, fun s hs => ⟨rfl, fun i h => by cases h⟩⟩
theorem MpS.look (h : MpS w b n f) (s : ByteArray) (hs : s.size ≤ maxLen) : (Instr.lookup 61 (.map (some b)) (.string s) false).run Tryz.prog w = .ok (.int .i64 (((f s).getD 0 : Nat) : Int)) w := by
  obtain ⟨D, h1, h2⟩ := h
  obtain ⟨c, r, e, _⟩ := h1.lookup_int (t := 61) kStr Tryz.underlying61 Tryz.underlying3 (zInt w) (Go.WideMaps.keyOf_string_mk Tryz.underlying9 hs)
  rw [r]
  obtain ⟨h3, h4⟩ := h2 s hs
  cases hf : f s with
  | none =>
    rw [hf] at h3
    rw [Go.Maps.atKey_of_not_has h3] at e
    simp only [DataW.lit.injEq, Lit.int.injEq, true_and] at e
    rw [← e]; rfl
  | some i =>
    rw [h4 i hf] at e
    simp only [DataW.lit.injEq, Lit.int.injEq, true_and] at e
    rw [← e]; rfl
theorem MpS.look_ok (h : MpS w b n f) (s : ByteArray) (hs : s.size ≤ maxLen) : (Instr.lookup 61 (.map (some b)) (.string s) true).run Tryz.prog w = .ok (.tuple #[.int .i64 (((f s).getD 0 : Nat) : Int), .bool (f s).isSome]) w := by
  obtain ⟨D, h1, h2⟩ := h
  obtain ⟨v, ps, r, e⟩ := h1.look_ok (t := 61) kStr Tryz.underlying61 (zInt w) (plainElem_int Tryz.underlying3 (by decide)) (Go.WideMaps.keyOf_string_mk Tryz.underlying9 hs)
  obtain ⟨c, rfl, e, _⟩ := plainElem_int_inv Tryz.underlying3 e
  rw [r]
  obtain ⟨h3, h4⟩ := h2 s hs
  rw [h3]
  simp only [Prod.mk.injEq] at e
  have e := e.1
  cases hf : f s with
  | none =>
    rw [hf] at h3
    rw [Go.Maps.atKey_of_not_has h3] at e
    simp only [DataW.lit.injEq, Lit.int.injEq, true_and] at e
    rw [← e]; rfl
  | some i =>
    rw [h4 i hf] at e
    simp only [DataW.lit.injEq, Lit.int.injEq, true_and] at e
    rw [← e]; rfl
theorem str_lit_ne {s t : ByteArray} (h : t ≠ s) : (Lit.string t.data.toList) ≠ .string s.data.toList := by
  intro e
  injection e with e
  exact h (by cases t; cases s; simp at e; rw [e])
theorem MpS.store (h : MpS w b n f) (s : ByteArray) (hs : s.size ≤ maxLen) (i : Nat) (hi : i ≤ 1000000000) (hn : n ≤ 1000000000) :
    ∃ w', (Instr.mapUpdate 61 (.map (some b)) (.string s) (.int .i64 (i : Int))).run Tryz.prog w = .ok () w' ∧ MpS w' b (n + 1) (fun t => if t = s then some i else f t) ∧ Upd (fun k => k = b) w w' := by
  obtain ⟨D, h1, h2⟩ := h
  obtain ⟨w', r, o, g⟩ := h1.update (t := 61) kStr Tryz.underlying61 (by unfold maxLen; omega) (Go.WideMaps.keyOf_string_mk Tryz.underlying9 hs) (plainElem_int Tryz.underlying3 (wfN (i := (i : Int)) (by omega)))
  refine ⟨w', r, ⟨_, o, fun t ht => ?_⟩, (Upd.refl _ w).grown g (fun k hk => by injection hk with hk; exact .inl hk.symm)⟩
  have hM := h1.isMap
  dsimp only
  by_cases e : t = s
  · subst e
    rw [if_pos rfl]
    refine ⟨Go.Maps.has_put_same hM (by trivial) _, fun j hj => ?_⟩
    simp only [Option.some.injEq] at hj
    subst hj
    exact Go.Maps.atKey_put_same hM (by trivial) _ _
  · rw [if_neg e, Go.Maps.has_put_other (str_lit_ne e)]
    refine ⟨(h2 t ht).1, fun j hj => ?_⟩
    rw [Go.Maps.atKey_put_other (str_lit_ne e)]
    exact (h2 t ht).2 j hj
end
theorem numN_step (D : List Df) (d : Df) (h : numN D d.name = none) : (fun t => if t = d.name then some D.length else numN D t) = numN (D ++ [d]) := by
  funext t
  rw [numN_snoc]
  by_cases e : t = d.name
  · subst e; rw [if_pos rfl, h]; simp
  · rw [if_neg e]
    cases h2 : numN D t with
    | none => simp [show ¬ d.name = t from fun e' => e e'.symm]
    | some i => simp
theorem numN_stay (D : List Df) (d : Df) (h : (numN D d.name).isSome = true) : numN D = numN (D ++ [d]) := by
  funext t
  rw [numN_snoc]
  cases h2 : numN D t with
  | none =>
    have : ¬ d.name = t := fun e => by rw [e, h2] at h; cases h
    simp [this]
  | some i => simp
set_option maxRecDepth 100000 in
set_option maxHeartbeats 8000000 in
theorem numbered_any (a : Option Addr) (c : Nat) (D : List Df) (w : World) (hD : D.length ≤ 256) (hnm : Hid (∀ d ∈ D, d.name.size ≤ 32)) (r : Hid (DRow w a D)) :
    Calls Tryz.prog 49 #[.agg #[.slice a D.length c]] w fun e w' => ∃ b, e = .returned (.map (some b)) ∧ w.heap.size ≤ b ∧ Hid (MpS w' b 256 (numN D)) ∧ Hid (Below w.heap.size w w') := by
  have hmm := @run_makeMap Tryz.prog
  obtain ⟨w1, hw1⟩ : ∃ w1, w1 = w.alloc (.cells #[.slice a D.length c] 24) := ⟨_, rfl⟩
  obtain ⟨w2, hw2⟩ : ∃ w2, w2 = w1.alloc (.map #[] 0) := ⟨_, rfl⟩
  have HB1 : Hid (Below w.heap.size w w1) := by rw [hw1]; exact (Below.refl _ _).alloc (Nat.le_refl _) _
  have k1 := Blk.newA w #[.slice a D.length c] 24
  rw [← hw1] at k1
  have hs1 : w.heap.size ≤ w1.heap.size := HB1.out.size
  have HB2 : Hid (Below w.heap.size w w2) := by rw [hw2]; exact HB1.out.alloc hs1 _
  have HM2 : Hid (MpS w2 w1.heap.size 0 (numN (D.take 0))) := by rw [hw2]; exact MpS.mk w1
  have k2 : Blk w2 w.heap.size 24 [.slice a D.length c] := by rw [hw2]; exact k1.alloc _
  have c0 := k2.cell 0
  simp at c0
  clear k1 k2
  go_enter Tryz.func49, Tryz.ntmps49
  go_upto_region 1 with fail
  rw [← hw1]
  clear hw1
  go_upto_region 2 with fail
  rw [← hw2]
  clear hw2 hmm
  go_wp2_with fail
  clear c0
  go_loopw [12] (fun x12 wr => ∃ i : Nat, i ≤ D.length ∧ x12 = .int .i64 (i : Int) ∧ Hid (MpS wr w1.heap.size i (numN (D.take i))) ∧ Hid (Below w.heap.size w wr)) (fun x12 _ => D.length - (intOf x12).toNat)
  case atStart => exact ⟨0, Nat.zero_le _, rfl, HM2, HB2⟩
  case round =>
    obtain ⟨i, hi, rfl, HM, HB⟩ := hrel
    generalize wr = wq at *
    clear HM2 HB2 HB1
    by_cases hlt : i < D.length
    · have hlt' : (i : Int) < D.length := by omega
      obtain ⟨b, o, rfl, hb, hc⟩ := (r.out.later HB.out).open (by omega)
      have hx : D[i]? = some (D[i]'hlt) := List.getElem?_eq_getElem hlt
      obtain ⟨va, vc, hcx, hvc, -, hN⟩ := hc i _ hx
      have hsz : (D[i]'hlt).name.size ≤ maxLen := by have := hnm.out _ (List.getElem_mem hlt); unfold maxLen; omega
      have HT : Hid (D.take (i + 1) = D.take i ++ [D[i]'hlt]) := List.take_succ_eq_append_getElem hlt
      have HTl : Hid ((D.take i).length = i) := hide_ (by rw [List.length_take]; omega)
      generalize D[i]'hlt = d at *
      have i0 := hcx 0 (by decide); have i1 := hcx 1 (by decide); have i2 := hcx 2 (by decide)
      simp [dfc] at i0 i1 i2
      clear hc hx hcx hN
      have kx := Blk.newA wq #[.string d.name, .int .i64 d.a, .slice va d.ty.length vc] 38
      have hBx : Below wq.heap.size wq (wq.alloc (.cells #[.string d.name, .int .i64 d.a, .slice va d.ty.length vc] 38)) := (Below.refl _ _).alloc (Nat.le_refl _) _
      obtain ⟨wx, hwx⟩ : ∃ wx, wx = wq.alloc (.cells #[.string d.name, .int .i64 d.a, .slice va d.ty.length vc] 38) := ⟨_, rfl⟩
      rw [← hwx] at kx hBx
      have HMx := hide_ (HM.out.later hBx)
      have HBx := hide_ (below_to HB.out hBx)
      have j0 := kx.cell 0
      simp at j0
      clear kx hBx HM
      go_upto_region 5 with fail
      rw [← hwx]
      clear hwx i0 i1 i2
      have hlk := HMx.out.look_ok d.name hsz
      cases hf : numN (D.take i) d.name with
      | none =>
        rw [hf] at hlk
        simp only [Option.getD_none, Option.isSome_none] at hlk
        obtain ⟨wy, ry, my, uy⟩ := HMx.out.store d.name hsz i (by omega) (by omega)
        have HMy : Hid (MpS wy w1.heap.size (i + 1) (numN (D.take (i + 1)))) := hide_ (by
          have h := numN_step (D.take i) d hf
          rw [HTl.out] at h
          rw [HT.out, ← h]
          exact my)
        have HBy := hide_ (HBx.out.trans (uy.below w.heap.size HBx.out.size (fun k hk => by omega)))
        clear my uy hf HMx
        go_wp2_with fail
        go_roundw
        case rel => exact ⟨i + 1, by omega, by go_num, HMy, HBy⟩
        case measure => simp [intOf]; omega
      | some j =>
        rw [hf] at hlk
        simp only [Option.getD_some, Option.isSome_some] at hlk
        have HMy : Hid (MpS wx w1.heap.size (i + 1) (numN (D.take (i + 1)))) := hide_ (by
          have h := numN_stay (D.take i) d (by rw [hf]; rfl)
          rw [HT.out, ← h]
          obtain ⟨DD, o1, o2⟩ := HMx.out
          exact ⟨DD, o1.mono (by omega), o2⟩)
        clear hf HMx
        go_wp2_with fail
        go_roundw
        case rel => exact ⟨i + 1, by omega, by go_num, HMy, HBx⟩
        case measure => simp [intOf]; omega
    · obtain rfl : i = D.length := by omega
      go_wp2
      go_ret
      refine ⟨w1.heap.size, rfl, hs1, hide_ ?_, HB⟩
      have h := HM.out
      rw [List.take_length] at h
      obtain ⟨DD, o1, o2⟩ := h
      exact ⟨DD, o1.mono hD, o2⟩
end Go.Proofs.YtbgjgbddpcofcaaGreatDoor

/- lookAtNodes. -/
namespace Go.Proofs.YtbgjgbddpcofcaaGreatDoor
open Go.RowKit
open Go.Maps (Keyed)
set_option linter.unusedVariables false

theorem rowPt : (143 : TypeId) < Tryz.prog.types.size := of_decide_eq_true (by kernel_rfl)
theorem widePt : (match Tryz.prog.underlying 143 with | some (.array _ _) | some (.struct _) => true | _ => false) = true := by kernel_rfl
theorem laidPt : laidOutB Tryz.prog = true := by kernel_rfl
theorem deepPt : Tryz.prog.keyTypeAt 3 143 = true := by kernel_rfl
set_option maxRecDepth 100000 in
theorem kPt : Keyed Tryz.prog 143 := Keyed.of_law (deep_law_laid laidPt (m := 3) (by omega) rowPt deepPt widePt)
def ptv (q : Pt) : Value := .agg #[.int .i64 q.1, .string q.2.1, .int .i64 q.2.2]
def PtOkY (q : Pt) : Prop := (Lit.int .i64 q.1).wf = true ∧ q.2.1.size ≤ maxLen ∧ (Lit.int .i64 q.2.2).wf = true
theorem ptKeyType : Tryz.prog.keyType 143 = true := by kernel_rfl
theorem ptCells : Tryz.prog.cellsOf 143 = 3 := by kernel_rfl
theorem ptCellsI : Tryz.prog.cellsOf 3 = 1 := by kernel_rfl
theorem ptCellsS : Tryz.prog.cellsOf 9 = 1 := by kernel_rfl
theorem pt_key (q : Pt) (h : PtOkY q) : ∃ l, keyOf Tryz.prog 143 (ptv q) = some l := by
  obtain ⟨d, hd⟩ : ∃ d, Tryz.prog.types.size + 1 = d + 2 := ⟨Tryz.prog.types.size - 1, by have h : 143 < Tryz.prog.types.size := rowPt; omega⟩
  have hf : (ptv q).formed Tryz.prog 143 = true := by simp [Value.formed, Tryz.underlying143, ptCells, ptv]
  unfold keyOf
  rw [Tryz.underlying143]
  simp only [ptKeyType, hf, Bool.and_self, if_true, hd]
  simp [Program.keyLits, Tryz.underlying143, Tryz.underlying3, Tryz.underlying9, ptCells, ptCellsI, ptCellsS, ptv, Value.cells, h.1, h.2.1, h.2.2]
theorem ptv_inj {q r : Pt} (h : ptv q = ptv r) : q = r := by
  obtain ⟨a, b, c⟩ := q
  obtain ⟨x, y, z⟩ := r
  simp [ptv] at h
  obtain ⟨rfl, rfl, rfl⟩ := h
  rfl
/-- A map whose keys are these parts lies here. -/
def MpP (w : World) (b n : Nat) (met : List Pt) : Prop :=
  ∃ D : DataW Unit, w.ownsMap Tryz.prog 143 (plainElem Tryz.prog 3) b n D ∧ ∀ q l, PtOkY q → keyOf Tryz.prog 143 (ptv q) = some l → Go.Maps.has D l = hasP met q
section
variable {w w' : World} {b n : Nat} {met : List Pt}
theorem MpP.lt (h : MpP w b n met) : b < w.heap.size := h.elim fun D h => h.1.lt
theorem MpP.upd {S : Nat → Prop} (h : MpP w b n met) (hu : Upd S w w') (hs : ¬ S b) : MpP w' b n met := by
  obtain ⟨D, h1, h2⟩ := h
  exact ⟨D, ownsMap_upd h1 hu hs, h2⟩
theorem MpP.later (h : MpP w b n met) (hB : Below w.heap.size w w') : MpP w' b n met := h.upd (Upd.of_below (S := fun _ => False) hB) (fun h => h)
theorem MpP.ne {g : Nat} {t : TypeId} {xs : List Value} (h : MpP w b n met) (k : Blk w g t xs) : ¬ g = b := by
  rintro rfl
  obtain ⟨D, ⟨es, cl, hb, _⟩, _⟩ := h
  unfold Blk at k
  rw [hb] at k
  cases k
theorem MpP.mk (w : World) : MpP (w.alloc (.map #[] 0)) w.heap.size 0 [] := ⟨.map [], World.ownsMap_made _ _ _ _, fun q l _ _ => rfl⟩
theorem MpP.look_ok (h : MpP w b n met) (q : Pt) (hq : PtOkY q) : ∃ c : Int, (Instr.lookup 141 (.map (some b)) (ptv q) true).run Tryz.prog w = .ok (.tuple #[.int .i64 c, .bool (hasP met q)]) w := by
  obtain ⟨D, h1, h2⟩ := h
  obtain ⟨l, hl⟩ := pt_key q hq
  obtain ⟨v, ps, r, e⟩ := h1.look_ok (t := 141) kPt Tryz.underlying141 (zInt w) (plainElem_int Tryz.underlying3 (by decide)) hl
  obtain ⟨c, rfl, e, _⟩ := plainElem_int_inv Tryz.underlying3 e
  rw [h2 q l hq hl] at r
  exact ⟨c, r⟩
theorem MpP.store (h : MpP w b n met) (q : Pt) (hq : PtOkY q) (i : Nat) (hi : i ≤ 10000000000000) (hn : n ≤ 10000000000000) :
    ∃ w', (Instr.mapUpdate 141 (.map (some b)) (ptv q) (.int .i64 (i : Int))).run Tryz.prog w = .ok () w' ∧ MpP w' b (n + 1) (met ++ [q]) ∧ Upd (fun k => k = b) w w' := by
  obtain ⟨D, h1, h2⟩ := h
  obtain ⟨l, hl⟩ := pt_key q hq
  obtain ⟨w', r, o, g⟩ := h1.update (t := 141) kPt Tryz.underlying141 (by unfold maxLen; omega) hl (plainElem_int Tryz.underlying3 (wfN (i := (i : Int)) (by omega)))
  refine ⟨w', r, ⟨_, o, fun t m ht hm => ?_⟩, (Upd.refl _ w).grown g (fun k hk => by simp only [Option.some.injEq] at hk; exact .inl hk.symm)⟩
  have hM := h1.isMap
  rw [hasP_snoc]
  by_cases e : m = l
  · subst e
    have := ptv_inj (kPt.inj hl hm)
    subst this
    rw [Go.Maps.has_put_same hM (kPt.key hl)]
    simp
  · rw [Go.Maps.has_put_other e, h2 t m ht hm]
    have : ¬ q = t := fun e' => by subst e'; rw [hl] at hm; simp only [Option.some.injEq] at hm; exact e hm.symm
    simp [this]
end
/-- What a node that Check takes is like. -/
def NodeOk1 (x : Nd) : Prop := x.label.size ≤ 32 ∧ x.name.size ≤ 32 ∧ 0 ≤ x.tag ∧ x.tag ≤ 2147483647
theorem nameOk_le {s : ByteArray} {b : Bool} (h : nameOk s b = true) : s.size ≤ 32 := by
  unfold nameOk at h
  cases b with
  | true => simp only [cond_true] at h; unfold isName at h; exact (of_decide_eq_true h).2.1
  | false => simp only [cond_false] at h; have := of_decide_eq_true h; omega
theorem ndE_ok {x : Nd} {of : Int} {dp : Nat} (h : ndE x of dp = 0) : NodeOk1 x := by
  unfold ndE nodeE at h
  by_cases h1 : 16 < dp
  · rw [if_pos h1] at h; omega
  rw [if_neg h1] at h
  by_cases h2 : (x.k = 8 ∨ x.k = 7) ∧ 64 < x.kids
  · rw [if_pos h2] at h; omega
  rw [if_neg h2] at h
  by_cases h3 : kindOk x.k x.n x.kids = false ∨ nameOk x.name (decide (x.k = 9)) = false ∨ nameOk x.label (decide (of = 8)) = false
  · rw [if_pos h3] at h; omega
  rw [if_neg h3] at h
  have h4 : nameOk x.name (decide (x.k = 9)) = true := by cases e : nameOk x.name (decide (x.k = 9)) with | true => rfl | false => exact absurd (.inr (.inl e)) h3
  have h5 : nameOk x.label (decide (of = 8)) = true := by cases e : nameOk x.label (decide (of = 8)) with | true => rfl | false => exact absurd (.inr (.inr e)) h3
  refine ⟨nameOk_le h5, nameOk_le h4, ?_⟩
  by_cases h6 : x.tag ≠ 0 ∧ (of ≠ 7 ∨ numB x.tag = false)
  · rw [if_pos h6] at h; omega
  · by_cases h7 : x.tag = 0
    · omega
    · have h8 : numB x.tag = true := by cases e : numB x.tag with | true => rfl | false => exact absurd ⟨h7, .inr e⟩ h6
      unfold numB at h8
      exact of_decide_eq_true h8
theorem retF {fn : Func} {p : Tmp} (h : fn.results = #[.cell p 32]) {R : Ending → World → Prop} {tmps : Array Value} {g : Nat} {w : World} {a b : Int} (hp : tmps.getD p undef = .pointer (some ⟨g, 0, none⟩)) (hK : Blk w g 32 [.int .i64 a, .int .i64 b]) (hR : R (.returned (.agg #[.int .i64 a, .int .i64 b])) w) :
    bodyPost Tryz.prog fn R Exit.ret ⟨tmps, []⟩ w :=
  bodyPost_ret (results_cell_row h _ _ _ _ #[.int .i64 a, .int .i64 b] _ _ hp hK Tryz.underlying32 rfl (by show _ = some 2; kernel_rfl)) rfl hR
theorem wr2 {w : World} {g : Nat} {t : TypeId} {x0 x1 : Value} (h : Blk w g t [x0, x1]) (y0 y1 : Value) :
    Blk ((w.setCell ⟨g, 0, none⟩ y0).setCell ⟨g, 1, none⟩ y1) g t [y0, y1] := by
  have := (h.set 0 y0).set 1 y1
  simpa using this
theorem bldF (a b : Int) (w : World) : (Instr.build 32 #[(0, .int .i64 a), (1, .int .i64 b)]).run Tryz.prog w = .ok (.agg #[.int .i64 a, .int .i64 b]) w := by kernel_rfl
theorem bldF0 (w : World) : (Instr.build 32 #[]).run Tryz.prog w = .ok (.agg #[.int .i64 0, .int .i64 0]) w := by kernel_rfl
theorem bldPt (a : Int) (s : ByteArray) (b : Int) (w : World) : (Instr.build 143 #[(0, .int .i64 a), (1, .string s), (2, .int .i64 b)]).run Tryz.prog w = .ok (.agg #[.int .i64 a, .string s, .int .i64 b]) w := by kernel_rfl
theorem below_set2 {B : Nat} {w w' : World} (h : Below B w w') (b : Nat) (u v : Value) (hb : B ≤ b) : Below B w ((w'.setCell ⟨b, 0, none⟩ u).setCell ⟨b, 1, none⟩ v) := (h.setCell hb _).setCell hb _
set_option maxRecDepth 100000 in
set_option maxHeartbeats 8000000 in
theorem nodes1_any (va : Option Addr) (vc : Nat) (N : List Nd) (D : List Df) (bn : Nat) (w : World) (hN : N.length ≤ 1954687338267) (hr : Hid (NRow w va N)) (hc : Hid (ctN N 1)) (hx : Hid (∀ x ∈ N, NodeOk1 x)) (hM : Hid (MpS w bn 256 (numN D))) :
    Calls Tryz.prog 73 #[.slice va N.length vc, .map (some bn)] w fun e w' => e = .returned (.agg #[.int .i64 (lkT D N).1, .int .i64 (lkT D N).2]) ∧ Hid (Below w.heap.size w w') := by
  obtain ⟨P, hP⟩ : ∃ P, parP N = P := ⟨_, rfl⟩
  obtain ⟨R, hR⟩ : ∃ R, lkT D N = R := ⟨_, rfl⟩
  have HR : Hid (lkN D (N.drop 0) (P.drop 0) [] = R) := hide_ (by rw [← hR, ← hP]; rfl)
  have HPo : Hid (ParOk N P) := hide_ (by rw [← hP]; exact parP_ok hc.out)
  have HCp := parents_any va vc N
  rw [hP] at HCp
  have HCp := hide_ HCp
  rw [hR]
  clear hR hP
  have hmm := @run_makeMap Tryz.prog
  obtain ⟨w1, hw1⟩ : ∃ w1, w1 = w.alloc (.cells #[.int .i64 0, .int .i64 0] 32) := ⟨_, rfl⟩
  have HB1 : Hid (Below w.heap.size w w1) := by rw [hw1]; exact (Below.refl _ _).alloc (Nat.le_refl _) _
  have HF1 : Hid (Blk w1 w.heap.size 32 [.int .i64 0, .int .i64 0]) := by rw [hw1]; exact Blk.newA w #[.int .i64 0, .int .i64 0] 32
  have HN1 := hide_ (hr.out.later HB1.out)
  go_enter Tryz.func73, Tryz.ntmps73
  go_upto_region 1 with fail
  rw [← hw1]
  clear hw1
  go_upto_region 2 with (go_at_call 85; refine (HCp.out w1 hN HN1 hc).mono ?_; rintro e w2 ⟨gp, rfl, hgp, HKp, HB2⟩)
  have HB2' := hide_ (below_to HB1.out HB2.out)
  have HF2 := hide_ (HF1.out.later HB2.out)
  obtain ⟨w3, hw3⟩ : ∃ w3, w3 = w2.alloc (.map #[] 0) := ⟨_, rfl⟩
  have hB3 : Below w2.heap.size w2 w3 := by rw [hw3]; exact (Below.refl _ _).alloc (Nat.le_refl _) _
  have HB3 := hide_ (below_to HB2'.out hB3)
  have HF3 := hide_ (HF2.out.later hB3)
  have HK3 := hide_ (HKp.out.later hB3)
  have HM3 : Hid (MpP w3 w2.heap.size 0 []) := by rw [hw3]; exact MpP.mk w2
  have hw22 : w.heap.size ≤ w2.heap.size := HB2'.out.size
  go_upto_region 3 with fail
  rw [← hw3]
  clear hw3 hmm hB3 HB2 HB2' HF2 HKp HF1 HB1 HN1 HCp
  go_wp2_with fail
  go_loopw [19] (fun x19 wr => ∃ (i : Nat) (met : List Pt), i ≤ N.length ∧ x19 = .int .i64 (i : Int) ∧ Hid (lkN D (N.drop i) (P.drop i) met = R) ∧ Hid (MpP wr w2.heap.size i met) ∧ Hid (Blk wr w.heap.size 32 [.int .i64 0, .int .i64 0]) ∧ Hid (Blk wr gp 3 (cellsL .i64 P)) ∧ Hid (Below w.heap.size w wr)) (fun x19 _ => N.length - (intOf x19).toNat)
  case atStart => exact ⟨0, [], Nat.zero_le _, rfl, HR, HM3, HF3, HK3, HB3⟩
  case round =>
    obtain ⟨i, met, hi, rfl, HL, HM, HF, HK, HB⟩ := hrel
    generalize wr = wq at *
    clear HM3 HF3 HK3 HB3 HR
    by_cases hlt : i < N.length
    · have hlt' : (i : Int) < N.length := by omega
      obtain ⟨b, o, rfl, hb, hcl⟩ := (hr.out.later HB.out).open (by omega)
      have hxi : N[i]? = some (N[i]'hlt) := List.getElem?_eq_getElem hlt
      have hcx := hcl i _ hxi
      have hdr : N.drop i = N[i]'hlt :: N.drop (i + 1) := List.drop_eq_getElem_cons hlt
      have hpl : i < P.length := by rw [HPo.out.len]; exact hlt
      have hdp : P.drop i = P[i]'hpl :: P.drop (i + 1) := List.drop_eq_getElem_cons hpl
      have hok := hx.out _ (List.getElem_mem hlt)
      have hpi : P.getD i 0 = P[i]'hpl := by simp [List.getD, hpl]
      have hpb : -1 ≤ P[i]'hpl ∧ P[i]'hpl ≤ 1954687338267 := by
        rw [← hpi]
        rcases Nat.eq_zero_or_pos i with rfl | h0
        · rw [HPo.out.first (by omega)]; omega
        · have := HPo.out.later i h0 hlt
          omega
      have cP := HK.out.cell i
      rw [cellsL_at _ _ i hpl, hpi] at cP
      clear hpi
      generalize N[i]'hlt = x at *
      generalize P[i]'hpl = p at *
      rw [hdr, hdp, lkN] at HL
      have i0 := hcx 0 (by decide); have i1 := hcx 1 (by decide); have i2 := hcx 2 (by decide); have i3 := hcx 3 (by decide); have i4 := hcx 4 (by decide); have i5 := hcx 5 (by decide); have i6 := hcx 6 (by decide)
      simp [ndc] at i0 i1 i2 i3 i4 i5 i6
      clear hcl hxi hcx hdr hdp
      have kx := Blk.newA wq #[.int .i64 x.k, .int .i64 x.n, .string x.name, .string x.label, .int .i64 x.tag, .int .i64 x.kids, .int .i64 x.a] 40
      have hBx : Below wq.heap.size wq (wq.alloc (.cells #[.int .i64 x.k, .int .i64 x.n, .string x.name, .string x.label, .int .i64 x.tag, .int .i64 x.kids, .int .i64 x.a] 40)) := (Below.refl _ _).alloc (Nat.le_refl _) _
      obtain ⟨wx, hwx⟩ : ∃ wx, wx = wq.alloc (.cells #[.int .i64 x.k, .int .i64 x.n, .string x.name, .string x.label, .int .i64 x.tag, .int .i64 x.kids, .int .i64 x.a] 40) := ⟨_, rfl⟩
      rw [← hwx] at kx hBx
      have HMx := hide_ (HM.out.later hBx)
      have HFx := hide_ (HF.out.later hBx)
      have HKx := hide_ (HK.out.later hBx)
      have HBx := hide_ (below_to HB.out hBx)
      have KX := hide_ kx
      have hgpq : gp < wq.heap.size := HK.out.lt
      have hbmq : w2.heap.size < wq.heap.size := HM.out.lt
      have cPx : wx.cell? ⟨gp, i, none⟩ = some (.int .i64 p) := (hBx.cell (p := ⟨gp, i, none⟩) hgpq).trans cP
      have j3 := kx.cell 3; have j4 := kx.cell 4
      simp at j3 j4
      have hxs : wx.heap.size = wq.heap.size + 1 := by rw [hwx]; simp
      have hq1 : wq.heap.size < wx.heap.size := by omega
      have hq2 : gp < wx.heap.size := by omega
      have HXS := hide_ hxs
      clear kx hBx HM HF HK cP hxs
      go_upto_region 6 with fail
      rw [← hwx]
      clear hwx i0 i1 i2 i3 i4 i5 i6
      have hb3 := bldPt p x.label x.tag
      go_wp2_with fail
      go_region
      obtain ⟨wy, hwy⟩ : ∃ wy, wy = (wx.alloc (.cells #[.int .i64 p, .string x.label, .int .i64 x.tag] 143)).drew := ⟨_, rfl⟩
      have hBy : Below wx.heap.size wx wy := by rw [hwy]; exact ((Below.refl _ _).alloc (Nat.le_refl _) _).drew
      have KY : Hid (Blk wy wx.heap.size 143 [.int .i64 p, .string x.label, .int .i64 x.tag]) := hide_ (by rw [hwy]; exact Blk.newA wx #[.int .i64 p, .string x.label, .int .i64 x.tag] 143)
      rw [← hwy]
      clear hwy
      have HMy := hide_ (HMx.out.later hBy)
      have HFy := hide_ (HFx.out.later hBy)
      have HKy := hide_ (HKx.out.later hBy)
      have HBy := hide_ (below_to HBx.out hBy)
      have KXy := hide_ (KX.out.later hBy)
      have HSy := hide_ (hM.out.later HBy.out)
      clear HMx HFx HKx HBx KX hBy cPx j3 j4
      have hq : PtOkY (p, x.label, x.tag) := ⟨wfN (by omega), by have := hok.1; unfold maxLen; exact Nat.le_trans this (by decide), wfN (i := x.tag) (by have := hok.2.2; omega)⟩
      obtain ⟨c, hlk⟩ := HMy.out.look_ok (p, x.label, x.tag) hq
      simp only [ptv] at hlk
      have d0 := KY.out.cell 0; have d1 := KY.out.cell 1; have d2 := KY.out.cell 2
      simp at d0 d1 d2
      have e0 := KXy.out.cell 0; have e2 := KXy.out.cell 2; have e6 := KXy.out.cell 6
      simp at e0 e2 e6
      cases hh : hasP met (p, x.label, x.tag) with
      | true =>
        rw [hh] at hlk
        have HV : Hid (R = (80, x.a)) := hide_ (by have h := HL.out; rw [if_pos hh] at h; exact h.symm)
        have hb8 := bldF 80 x.a
        have c0 := HFy.out.cell 0; have c1 := HFy.out.cell 1
        have f0 := HFy.out.frozen 0; have f1 := HFy.out.frozen 1
        simp at c0 c1
        go_wp2
        exact retF (a := 80) (b := x.a) rfl rfl (wr2 HFy.out _ _) ⟨by rw [HV.out], hide_ (below_set2 HBy.out _ _ _ (Nat.le_refl _))⟩
      | false =>
        rw [hh] at hlk
        have HL1 : Hid ((if x.k = 9 ∧ numN D x.name = none then (81, x.a) else lkN D (N.drop (i + 1)) (P.drop (i + 1)) (met ++ [(p, x.label, x.tag)])) = R) := hide_ (by have h := HL.out; rw [if_neg (by rw [hh]; decide)] at h; exact h)
        obtain ⟨wz, rz, mz, uz⟩ := HMy.out.store (p, x.label, x.tag) hq i (by omega) (by omega)
        simp only [ptv] at rz
        have HMz := hide_ mz
        have HFz := hide_ (HFy.out.upd uz (HMy.out.ne HFy.out))
        have HKz := hide_ (HKy.out.upd uz (HMy.out.ne HKy.out))
        have KXz := hide_ (KXy.out.upd uz (HMy.out.ne KXy.out))
        have HBz := hide_ (HBy.out.trans (uz.below w.heap.size HBy.out.size (fun k hk => by omega)))
        have HSz := hide_ (hM.out.later HBz.out)
        clear mz uz HMy HFy HKy KXy HSy HBy hh HL
        have g0 := KXz.out.cell 0; have g2 := KXz.out.cell 2; have g6 := KXz.out.cell 6
        simp at g0 g2 g6
        by_cases h9 : x.k = 9
        · have hne : (x.k != 9) = false := by simp [h9]
          have hl2 := HSz.out.look_ok x.name (by have := hok.2.1; unfold maxLen; exact Nat.le_trans this (by decide))
          cases hf : numN D x.name with
          | none =>
            rw [hf] at hl2
            simp only [Option.getD_none, Option.isSome_none] at hl2
            have HV : Hid (R = (81, x.a)) := hide_ (by have h := HL1.out; rw [if_pos ⟨h9, hf⟩] at h; exact h.symm)
            have hb8 := bldF 81 x.a
            have c0 := HFz.out.cell 0; have c1 := HFz.out.cell 1
            have f0 := HFz.out.frozen 0; have f1 := HFz.out.frozen 1
            simp at c0 c1
            clear hf
            go_wp2
            exact retF (a := 81) (b := x.a) rfl rfl (wr2 HFz.out _ _) ⟨by rw [HV.out], hide_ (below_set2 HBz.out _ _ _ (Nat.le_refl _))⟩
          | some j =>
            rw [hf] at hl2
            simp only [Option.getD_some, Option.isSome_some] at hl2
            have HL2 : Hid (lkN D (N.drop (i + 1)) (P.drop (i + 1)) (met ++ [(p, x.label, x.tag)]) = R) := hide_ (by have h := HL1.out; rw [if_neg (by rw [hf]; simp)] at h; exact h)
            clear hf
            go_wp2_with fail
            go_roundw
            case rel => exact ⟨i + 1, _, by omega, by go_num, HL2, HMz, HFz, HKz, HBz⟩
            case measure => simp [intOf]; omega
        · have hne : (x.k != 9) = true := by simpa using h9
          have HL2 : Hid (lkN D (N.drop (i + 1)) (P.drop (i + 1)) (met ++ [(p, x.label, x.tag)]) = R) := hide_ (by have h := HL1.out; rw [if_neg (fun h => h9 h.1)] at h; exact h)
          go_wp2_with fail
          go_roundw
          case rel => exact ⟨i + 1, _, by omega, by go_num, HL2, HMz, HFz, HKz, HBz⟩
          case measure => simp [intOf]; omega
    · obtain rfl : i = N.length := by omega
      have HV : Hid (R = (0, 0)) := hide_ (by have h := HL.out; rw [List.drop_length] at h; rw [← h]; rfl)
      have hb0 := bldF0
      have c0 := HF.out.cell 0; have c1 := HF.out.cell 1
      have f0 := HF.out.frozen 0; have f1 := HF.out.frozen 1
      simp at c0 c1
      go_wp2
      exact retF (a := 0) (b := 0) rfl rfl (wr2 HF.out _ _) ⟨by rw [HV.out], hide_ (below_set2 HB.out _ _ _ (Nat.le_refl _))⟩
end Go.Proofs.YtbgjgbddpcofcaaGreatDoor
