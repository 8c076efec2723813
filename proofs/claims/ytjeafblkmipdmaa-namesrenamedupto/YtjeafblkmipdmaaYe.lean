/- Maps: names to numbers; parts. numbered. -/
import Derived.Test.YtjeafblkmipdmaaYd
import Derived.Maps.OwnSet
import Derived.DeepKeys4
import Derived.StringKeys
import Derived.Carry
namespace Go.Proofs.Ytjeafblkmipdmaa
open Go.RowKit
open Go.Maps (Keyed)
set_option linter.unusedVariables false

theorem kStr : Keyed Try.prog 9 := Go.Maps.string_keyed Try.underlying9
theorem zInt (w : World) : (zeroValue 3).run Try.prog w = .ok (.int .i64 0) w := by kernel_rfl
theorem wfN {i : Int} (h : -9223372036854775808 ≤ i ∧ i ≤ 9223372036854775807) : (Lit.int .i64 i).wf = true := WalkArith.wf_i64 h
/-- A map of names to numbers lies here. -/
def MpS (w : World) (b n : Nat) (f : ByteArray → Option Nat) : Prop :=
  ∃ D : DataW Unit, w.ownsMap Try.prog 9 (plainElem Try.prog 3) b n D ∧ ∀ s : ByteArray, s.size ≤ maxLen → Go.Maps.has D (.string s.data.toList) = (f s).isSome ∧ ∀ i, f s = some i → D.atKey (.string s.data.toList) (.lit (.int .i64 0)) = .lit (.int .i64 (i : Int))
section
variable {w w' : World} {b n : Nat} {f : ByteArray → Option Nat}
theorem MpS.lt (h : MpS w b n f) : b < w.heap.size := h.elim fun D h => h.1.lt
theorem ownsMap_upd {H : Type} {k : TypeId} {R : Value → Option (DataW H × List MemPlace)} {D : DataW H} {S : Nat → Prop} (h : w.ownsMap Try.prog k R b n D) (hu : Upd S w w') (hs : ¬ S b) : w'.ownsMap Try.prog k R b n D := by
  have hl := h.lt
  obtain ⟨es, cl, hb, r⟩ := h
  exact ⟨es, cl, (hu.block b hl hs).trans hb, r⟩
theorem MpS.upd {S : Nat → Prop} (h : MpS w b n f) (hu : Upd S w w') (hs : ¬ S b) : MpS w' b n f := by
  obtain ⟨D, h1, h2⟩ := h
  exact ⟨D, ownsMap_upd h1 hu hs, h2⟩
theorem MpS.later (h : MpS w b n f) (hB : Below w.heap.size w w') : MpS w' b n f := h.upd (Upd.of_below (S := fun _ => False) hB) (fun h => h)
theorem MpS.ne {g : Nat} {t : TypeId} {xs : List Value} (h : MpS w b n f) (k : Blk w g t xs) : b ≠ g := by
  rintro rfl
  obtain ⟨D, ⟨es, cl, hb, _⟩, _⟩ := h
  unfold Blk at k
  rw [hb] at k
  cases k
theorem MpS.mk (w : World) : MpS (w.alloc (.map #[] 0)) w.heap.size 0 (fun _ => none) :=
  ⟨.map [], World.ownsMap_made _ _ _ _, fun s hs => ⟨rfl, fun i h => by cases h⟩⟩
theorem MpS.look (h : MpS w b n f) (s : ByteArray) (hs : s.size ≤ maxLen) : (Instr.lookup 58 (.map (some b)) (.string s) false).run Try.prog w = .ok (.int .i64 (((f s).getD 0 : Nat) : Int)) w := by
  obtain ⟨D, h1, h2⟩ := h
  obtain ⟨c, r, e, _⟩ := h1.lookup_int (t := 58) kStr Try.underlying58 Try.underlying3 (zInt w) (Go.WideMaps.keyOf_string_mk Try.underlying9 hs)
  rw [r]
  obtain ⟨h3, h4⟩ := h2 s hs
  cases hf : f s with
  | none =>
    rw [hf] at h3
    rw [Go.Maps.atKey_of_not_has h3] at e
    simp only [DataW.lit.injEq, Lit.int.injEq, true_and] at e
    rw [← e]; rfl
  | some i =>
    rw [h4 i hf] at e
    simp only [DataW.lit.injEq, Lit.int.injEq, true_and] at e
    rw [← e]; rfl
theorem MpS.look_ok (h : MpS w b n f) (s : ByteArray) (hs : s.size ≤ maxLen) : (Instr.lookup 58 (.map (some b)) (.string s) true).run Try.prog w = .ok (.tuple #[.int .i64 (((f s).getD 0 : Nat) : Int), .bool (f s).isSome]) w := by
  obtain ⟨D, h1, h2⟩ := h
  obtain ⟨v, ps, r, e⟩ := h1.look_ok (t := 58) kStr Try.underlying58 (zInt w) (plainElem_int Try.underlying3 (by decide)) (Go.WideMaps.keyOf_string_mk Try.underlying9 hs)
  obtain ⟨c, rfl, e, _⟩ := plainElem_int_inv Try.underlying3 e
  rw [r]
  obtain ⟨h3, h4⟩ := h2 s hs
  rw [h3]
  simp only [Prod.mk.injEq] at e
  have e := e.1
  cases hf : f s with
  | none =>
    rw [hf] at h3
    rw [Go.Maps.atKey_of_not_has h3] at e
    simp only [DataW.lit.injEq, Lit.int.injEq, true_and] at e
    rw [← e]; rfl
  | some i =>
    rw [h4 i hf] at e
    simp only [DataW.lit.injEq, Lit.int.injEq, true_and] at e
    rw [← e]; rfl
theorem str_lit_ne {s t : ByteArray} (h : t ≠ s) : (Lit.string t.data.toList) ≠ .string s.data.toList := by
  intro e
  injection e with e
  exact h (by cases t; cases s; simp at e; rw [e])
theorem MpS.store (h : MpS w b n f) (s : ByteArray) (hs : s.size ≤ maxLen) (i : Nat) (hi : i ≤ 1000000000) (hn : n ≤ 1000000000) :
    ∃ w', (Instr.mapUpdate 58 (.map (some b)) (.string s) (.int .i64 (i : Int))).run Try.prog w = .ok () w' ∧ MpS w' b (n + 1) (fun t => if t = s then some i else f t) ∧ Upd (fun k => k = b) w w' := by
  obtain ⟨D, h1, h2⟩ := h
  obtain ⟨w', r, o, g⟩ := h1.update (t := 58) kStr Try.underlying58 (by unfold maxLen; omega) (Go.WideMaps.keyOf_string_mk Try.underlying9 hs) (plainElem_int Try.underlying3 (wfN (i := (i : Int)) (by omega)))
  refine ⟨w', r, ⟨_, o, fun t ht => ?_⟩, (Upd.refl _ w).grown g (fun k hk => by injection hk with hk; exact .inl hk.symm)⟩
  have hM := h1.isMap
  dsimp only
  by_cases e : t = s
  · subst e
    rw [if_pos rfl]
    refine ⟨Go.Maps.has_put_same hM (by trivial) _, fun j hj => ?_⟩
    simp only [Option.some.injEq] at hj
    subst hj
    exact Go.Maps.atKey_put_same hM (by trivial) _ _
  · rw [if_neg e, Go.Maps.has_put_other (str_lit_ne e)]
    refine ⟨(h2 t ht).1, fun j hj => ?_⟩
    rw [Go.Maps.atKey_put_other (str_lit_ne e)]
    exact (h2 t ht).2 j hj
end
theorem numN_step (D : List Df) (d : Df) (h : numN D d.name = none) : (fun t => if t = d.name then some D.length else numN D t) = numN (D ++ [d]) := by
  funext t
  rw [numN_snoc]
  by_cases e : t = d.name
  · subst e; rw [if_pos rfl, h]; simp
  · rw [if_neg e]
    cases h2 : numN D t with
    | none => simp [show ¬ d.name = t from fun e' => e e'.symm]
    | some i => simp
theorem numN_stay (D : List Df) (d : Df) (h : (numN D d.name).isSome = true) : numN D = numN (D ++ [d]) := by
  funext t
  rw [numN_snoc]
  cases h2 : numN D t with
  | none =>
    have : ¬ d.name = t := fun e => by rw [e, h2] at h; cases h
    simp [this]
  | some i => simp
set_option maxRecDepth 100000 in
set_option maxHeartbeats 8000000 in
theorem numbered_any (a : Option Addr) (c : Nat) (D : List Df) (w : World) (hD : D.length ≤ 256) (hnm : Hid (∀ d ∈ D, d.name.size ≤ 32)) (r : Hid (DRow w a D)) :
    Calls Try.prog 17 #[.agg #[.slice a D.length c]] w fun e w' => ∃ b, e = .returned (.map (some b)) ∧ w.heap.size ≤ b ∧ Hid (MpS w' b 256 (numN D)) ∧ Hid (Below w.heap.size w w') := by
  have hmm := @run_makeMap Try.prog
  obtain ⟨w1, hw1⟩ : ∃ w1, w1 = w.alloc (.cells #[.slice a D.length c] 24) := ⟨_, rfl⟩
  obtain ⟨w2, hw2⟩ : ∃ w2, w2 = w1.alloc (.map #[] 0) := ⟨_, rfl⟩
  have HB1 : Hid (Below w.heap.size w w1) := by rw [hw1]; exact (Below.refl _ _).alloc (Nat.le_refl _) _
  have k1 := Blk.newA w #[.slice a D.length c] 24
  rw [← hw1] at k1
  have hs1 : w.heap.size ≤ w1.heap.size := HB1.out.size
  have HB2 : Hid (Below w.heap.size w w2) := by rw [hw2]; exact HB1.out.alloc hs1 _
  have HM2 : Hid (MpS w2 w1.heap.size 0 (numN (D.take 0))) := by rw [hw2]; exact MpS.mk w1
  have k2 : Blk w2 w.heap.size 24 [.slice a D.length c] := by rw [hw2]; exact k1.alloc _
  have c0 := k2.cell 0
  simp at c0
  clear k1 k2
  go_enter Try.func17, Try.ntmps17
  go_upto_region 1 with fail
  rw [← hw1]
  clear hw1
  go_upto_region 2 with fail
  rw [← hw2]
  clear hw2 hmm
  go_wp2_with fail
  clear c0
  go_loopw [12] (fun x12 wr => ∃ i : Nat, i ≤ D.length ∧ x12 = .int .i64 (i : Int) ∧ Hid (MpS wr w1.heap.size i (numN (D.take i))) ∧ Hid (Below w.heap.size w wr)) (fun x12 _ => D.length - (intOf x12).toNat)
  case atStart => exact ⟨0, Nat.zero_le _, rfl, HM2, HB2⟩
  case round =>
    obtain ⟨i, hi, rfl, HM, HB⟩ := hrel
    generalize wr = wq at *
    clear HM2 HB2 HB1
    by_cases hlt : i < D.length
    · have hlt' : (i : Int) < D.length := by omega
      obtain ⟨b, o, rfl, hb, hc⟩ := (r.out.later HB.out).open (by omega)
      have hx : D[i]? = some (D[i]'hlt) := List.getElem?_eq_getElem hlt
      obtain ⟨va, vc, hcx, hvc, -, hN⟩ := hc i _ hx
      have hsz : (D[i]'hlt).name.size ≤ maxLen := by have := hnm.out _ (List.getElem_mem hlt); unfold maxLen; omega
      have HT : Hid (D.take (i + 1) = D.take i ++ [D[i]'hlt]) := List.take_succ_eq_append_getElem hlt
      have HTl : Hid ((D.take i).length = i) := hide_ (by rw [List.length_take]; omega)
      generalize D[i]'hlt = d at *
      have i0 := hcx 0 (by decide); have i1 := hcx 1 (by decide); have i2 := hcx 2 (by decide)
      simp [dfc] at i0 i1 i2
      clear hc hx hcx hN
      have kx := Blk.newA wq #[.string d.name, .int .i64 d.a, .slice va d.ty.length vc] 41
      have hBx : Below wq.heap.size wq (wq.alloc (.cells #[.string d.name, .int .i64 d.a, .slice va d.ty.length vc] 41)) := (Below.refl _ _).alloc (Nat.le_refl _) _
      obtain ⟨wx, hwx⟩ : ∃ wx, wx = wq.alloc (.cells #[.string d.name, .int .i64 d.a, .slice va d.ty.length vc] 41) := ⟨_, rfl⟩
      rw [← hwx] at kx hBx
      have HMx := hide_ (HM.out.later hBx)
      have HBx := hide_ (below_to HB.out hBx)
      have j0 := kx.cell 0
      simp at j0
      clear kx hBx HM
      go_upto_region 5 with fail
      rw [← hwx]
      clear hwx i0 i1 i2
      have hlk := HMx.out.look_ok d.name hsz
      cases hf : numN (D.take i) d.name with
      | none =>
        rw [hf] at hlk
        simp only [Option.getD_none, Option.isSome_none] at hlk
        obtain ⟨wy, ry, my, uy⟩ := HMx.out.store d.name hsz i (by omega) (by omega)
        have HMy : Hid (MpS wy w1.heap.size (i + 1) (numN (D.take (i + 1)))) := hide_ (by
          have h := numN_step (D.take i) d hf
          rw [HTl.out] at h
          rw [HT.out, ← h]
          exact my)
        have HBy := hide_ (HBx.out.trans (uy.below w.heap.size HBx.out.size (fun k hk => by omega)))
        clear my uy hf HMx
        go_wp2_with fail
        go_roundw
        case rel => exact ⟨i + 1, by omega, by go_num, HMy, HBy⟩
        case measure => simp [intOf]; omega
      | some j =>
        rw [hf] at hlk
        simp only [Option.getD_some, Option.isSome_some] at hlk
        have HMy : Hid (MpS wx w1.heap.size (i + 1) (numN (D.take (i + 1)))) := hide_ (by
          have h := numN_stay (D.take i) d (by rw [hf]; rfl)
          rw [HT.out, ← h]
          obtain ⟨DD, o1, o2⟩ := HMx.out
          exact ⟨DD, o1.mono (by omega), o2⟩)
        clear hf HMx
        go_wp2_with fail
        go_roundw
        case rel => exact ⟨i + 1, by omega, by go_num, HMy, HBx⟩
        case measure => simp [intOf]; omega
    · obtain rfl : i = D.length := by omega
      go_wp2
      go_ret
      refine ⟨w1.heap.size, rfl, hs1, hide_ ?_, HB⟩
      have h := HM.out
      rw [List.take_length] at h
      obtain ⟨DD, o1, o2⟩ := h
      exact ⟨DD, o1.mono hD, o2⟩
end Go.Proofs.Ytjeafblkmipdmaa
