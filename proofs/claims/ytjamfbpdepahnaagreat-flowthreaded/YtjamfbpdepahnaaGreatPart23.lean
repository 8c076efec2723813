import Derived.Test.YtjamfbpdepahnaaGreatPart15
import Derived.Test.YtjamfbpdepahnaaGreatPart16
import Derived.Test.YtjamfbpdepahnaaGreatPart21
import Derived.Test.YtjamfbpdepahnaaGreatPart22
import Derived.Test.YtjamfbpdepahnaaGreatPart17
import Derived.Test.YtjamfbpdepahnaaGreatPart05
import Derived.Test.YtjamfbpdepahnaaGreatPart18
namespace Go.Proofs.YtjamfbpdepahnaaGreat
open Go.RowKit
set_option linter.unusedVariables false
set_option linter.unusedSimpArgs false
theorem me0 : Array.find? (fun x => x.name == "mortise/sound.begin") Tryz.t93.methods = Tryz.t93.methods[0]? := by kernel_rfl
theorem me1 : Array.find? (fun x => x.name == "mortise/sound.hands") Tryz.t93.methods = Tryz.t93.methods[1]? := by kernel_rfl
theorem me3 : Array.find? (fun x => x.name == "mortise/sound.stands") Tryz.t93.methods = Tryz.t93.methods[3]? := by kernel_rfl
theorem fe0 : (Tryz.t93.methods[0]?).map (fun m => (m.func, m.path)) = some (some (120, false), #[]) := by kernel_rfl
theorem fe1 : (Tryz.t93.methods[1]?).map (fun m => (m.func, m.path)) = some (some (121, false), #[]) := by kernel_rfl
theorem fe3 : (Tryz.t93.methods[3]?).map (fun m => (m.func, m.path)) = some (some (123, false), #[]) := by kernel_rfl
theorem md0 : Array.find? (fun x => x.name == "mortise/sound.begin") Tryz.t94.methods = Tryz.t94.methods[0]? := by kernel_rfl
theorem md1 : Array.find? (fun x => x.name == "mortise/sound.hands") Tryz.t94.methods = Tryz.t94.methods[1]? := by kernel_rfl
theorem md3 : Array.find? (fun x => x.name == "mortise/sound.stands") Tryz.t94.methods = Tryz.t94.methods[3]? := by kernel_rfl
theorem fd0 : (Tryz.t94.methods[0]?).map (fun m => (m.func, m.path)) = some (some (129, false), #[]) := by kernel_rfl
theorem fd1 : (Tryz.t94.methods[1]?).map (fun m => (m.func, m.path)) = some (some (130, false), #[]) := by kernel_rfl
theorem fd3 : (Tryz.t94.methods[3]?).map (fun m => (m.func, m.path)) = some (some (132, false), #[]) := by kernel_rfl
theorem mAgE {nm : String} {q f : Nat} (hm : Array.find? (fun x => x.name == nm) Tryz.t93.methods = Tryz.t93.methods[q]?) (hf : (Tryz.t93.methods[q]?).map (fun m => (m.func, m.path)) = some (some (f, false), #[])) (k : Nat) (w : World) :
    (method (k + 1) 93 (.agg #[]) nm).run Tryz.prog w = .ok (f, .agg #[]) w := by
  obtain ⟨m, h1, h2⟩ := Option.map_eq_some_iff.1 hf
  have h3 : Array.find? (fun x => x.name == nm) Tryz.t93.methods = some m := hm.trans h1
  have h4 : m.func = some (f, false) := congrArg Prod.fst h2
  have h5 : m.path = #[] := congrArg Prod.snd h2
  unfold method
  simp [h3, h4, h5, follow, receiverAt, Place.get, strVal, asAddr, loadVar, Result.andThen, go_sem]
theorem mAgD {nm : String} {q f : Nat} (hm : Array.find? (fun x => x.name == nm) Tryz.t94.methods = Tryz.t94.methods[q]?) (hf : (Tryz.t94.methods[q]?).map (fun m => (m.func, m.path)) = some (some (f, false), #[])) (k : Nat) (w : World) :
    (method (k + 1) 94 (.agg #[]) nm).run Tryz.prog w = .ok (f, .agg #[]) w := by
  obtain ⟨m, h1, h2⟩ := Option.map_eq_some_iff.1 hf
  have h3 : Array.find? (fun x => x.name == nm) Tryz.t94.methods = some m := hm.trans h1
  have h4 : m.func = some (f, false) := congrArg Prod.fst h2
  have h5 : m.path = #[] := congrArg Prod.snd h2
  unfold method
  simp [h3, h4, h5, follow, receiverAt, Place.get, strVal, asAddr, loadVar, Result.andThen, go_sem]
def fBg (enc : Bool) : Nat := if enc then 120 else 129
def fHd (enc : Bool) : Nat := if enc then 121 else 130
def fSt (enc : Bool) : Nat := if enc then 123 else 132
theorem mtBg (enc : Bool) (k : Nat) (w : World) : (method (k + 1) (mTy enc) (.agg #[]) "mortise/sound.begin").run Tryz.prog w = .ok (fBg enc, .agg #[]) w := by cases enc; exact mAgD md0 fd0 k w; exact mAgE me0 fe0 k w
theorem mtHd (enc : Bool) (k : Nat) (w : World) : (method (k + 1) (mTy enc) (.agg #[]) "mortise/sound.hands").run Tryz.prog w = .ok (fHd enc, .agg #[]) w := by cases enc; exact mAgD md1 fd1 k w; exact mAgE me1 fe1 k w
theorem mtSt (enc : Bool) (k : Nat) (w : World) : (method (k + 1) (mTy enc) (.agg #[]) "mortise/sound.stands").run Tryz.prog w = .ok (fSt enc, .agg #[]) w := by cases enc; exact mAgD md3 fd3 k w; exact mAgE me3 fe3 k w
theorem enBg (enc : Bool) (args : Array Value) (w : World) : (callFunc (fBg enc) args).run Tryz.prog w = .ok (.enter (fBg enc) args) w := by cases enc <;> kernel_rfl
theorem enHd (enc : Bool) (args : Array Value) (w : World) : (callFunc (fHd enc) args).run Tryz.prog w = .ok (.enter (fHd enc) args) w := by cases enc <;> kernel_rfl
theorem enSt (enc : Bool) (args : Array Value) (w : World) : (callFunc (fSt enc) args).run Tryz.prog w = .ok (.enter (fSt enc) args) w := by cases enc <;> kernel_rfl
structure SOk (s : St) : Prop where
  ki : s.ki < 18446744073709551616
  tb : -1 ≤ s.tb ∧ s.tb ≤ 64
  pa : 0 ≤ s.pa ∧ s.pa ≤ 64
  le : 0 ≤ s.le ∧ s.le ≤ 64
structure XOk (enc : Bool) (x : In) : Prop where
  d : enc = false → DOk x
  e : x.op = 34 → 0 ≤ x.b ∧ x.b ≤ 64
  f : x.op = 39 → 0 ≤ x.a ∧ x.a ≤ 64
theorem mbegin_any (enc : Bool) (w : World) : Calls Tryz.prog (fBg enc) #[.agg #[]] w fun e w' => e = .returned (stv (mBg enc)) ∧ Below w.heap.size w w' := by
  cases enc
  · exact dbegin_any w
  · exact ebegin_any w
theorem mstands_any (enc : Bool) (s : St) (x : In) (r : Int) (w : World) (hx : XOk enc x) (hs : SOk s) : Calls Tryz.prog (fSt enc) #[.agg #[], stv s, inv x, .int .i64 r] w fun e w' => e = .returned (.bool (mSt enc s x r)) ∧ Below w.heap.size w w' := by
  have := hs.le
  cases enc
  · exact dstands_any s x r w (hx.d rfl) hs.ki
  · exact estands_any s x r w (fun h => by have := hx.e h; omega) (by omega)
theorem mhands_any (enc : Bool) (s : St) (x : In) (way : Int) (w : World) (hx : XOk enc x) (hs : SOk s) : Calls Tryz.prog (fHd enc) #[.agg #[], stv s, inv x, .int .i64 way] w fun e w' => e = .returned (stv (mHd enc s x way)) ∧ Below w.heap.size w w' := by
  have := hs.le
  have := hs.tb
  have := hs.pa
  cases enc
  · exact dhands_any s x way w (hx.d rfl) hs.ki (by omega) (by omega)
  · exact ehands_any s x way w (fun h => by have := hx.e h; omega) (by omega)
theorem wpAnyF_lastY {P : Program} {ops : Array Oper} {Q : Exit → Act → World → Prop} {md : Region.Mode} {S : World → Prop} {f fuel : Nat} {listed : Array Bool} {a : Act} {w : World} {o : Oper} {v : Value} (hr : Region.ready md ops listed = [f]) (ho : ops[f]? = some o) (hy : YieldsIf P ops S o v a) (hS : S w) (h : wpAnyF P md ops Q S f fuel (listed.setIfInBounds f true) (a.put o.dst v) w) : wpAnyF P md ops Q S f (fuel + 1) listed a w :=
  ⟨fun h0 => (by rw [h0] at hr; cases hr), fun i hi => by
    rw [hr, List.mem_singleton] at hi
    subst hi
    exact hy.wpOp ho hS ⟨fun h => absurd rfl h, h⟩⟩
structure CdOk (enc : Bool) (C : List In) : Prop where
  nc : C.length ≤ 1048576
  ok : ∀ k, k < C.length → XOk enc (inA C k)
  arm : ∀ k, k < C.length → (inA C k).op = 8 ∨ (inA C k).op = 41 → 1 ≤ (inA C k).a ∧ (inA C k).a ≤ 64 ∧ (k : Int) + 1 + (inA C k).a ≤ C.length
structure LkR (w : World) (b bc oc cc : Nat) (enc : Bool) (C : List In) : Prop where
  c0 : w.cell? ⟨b, 0, none⟩ = some (mcV enc)
  c1 : w.cell? ⟨b, 1, none⟩ = some (.slice (some ⟨bc, oc, none⟩) C.length cc)
  lt : b < w.heap.size
  code : IRow w (some ⟨bc, oc, none⟩) C
theorem LkR.later {w w' : World} {b bc oc cc : Nat} {enc : Bool} {C : List In} (h : LkR w b bc oc cc enc C) (hB : Below w.heap.size w w') : LkR w' b bc oc cc enc C :=
  ⟨(hB.cell (p := ⟨b, 0, none⟩) h.lt).trans h.c0, (hB.cell (p := ⟨b, 1, none⟩) h.lt).trans h.c1, Nat.lt_of_lt_of_le h.lt hB.size, h.code.later hB⟩
theorem sameH_true {enc : Bool} {C : List In} {k n : Nat} {s t : St} (hn : (waysP C k).length = n) (h : ∀ i, i < n → stEq (mHd enc s (inA C k) (i : Int)) (mHd enc t (inA C k) (i : Int)) = true) : sameH enc C k s t = true := by
  unfold sameH
  rw [hn, List.all_eq_true]
  intro i hi
  exact h i (by simpa using hi)
theorem sameH_false {enc : Bool} {C : List In} {k n j : Nat} {s t : St} (hn : (waysP C k).length = n) (hj : j < n) (h : stEq (mHd enc s (inA C k) (j : Int)) (mHd enc t (inA C k) (j : Int)) = false) : sameH enc C k s t = false := by
  unfold sameH
  rw [hn, List.all_eq_false]
  exact ⟨j, by simpa using hj, by simp [h]⟩
set_option maxRecDepth 100000 in
set_option maxHeartbeats 8000000 in
theorem sameH_any (b bc oc cc : Nat) (enc : Bool) (C : List In) (k : Nat) (s t : St) (w : World) (hk : k < C.length) (hcc : C.length ≤ cc) (hcl : cc ≤ 9223372036854775807) (hC : Hid (CdOk enc C)) (hs : Hid (SOk s)) (ht : Hid (SOk t)) (h : Hid (LkR w b bc oc cc enc C)) :
    Calls Tryz.prog 78 #[.pointer (some ⟨b, 0, none⟩), .int .i64 (k : Int), stv s, stv t] w fun e w' => e = .returned (.bool (sameH enc C k s t)) ∧ Below w.heap.size w w' := by
  obtain ⟨x, hx⟩ : ∃ x, C[k]? = some x := ⟨_, List.getElem?_eq_getElem hk⟩
  have hxA : inA C k = x := inA_at hx
  have HxA := hide_ hxA
  have Hx : Hid (XOk enc x) := hide_ (by have := hC.out.ok k hk; rw [hxA] at this; exact this)
  have HA : Hid (∀ (j : Nat) (w : World), Calls Tryz.prog (fHd enc) #[.agg #[], stv s, inv x, .int .i64 (j : Int)] w fun e w' => e = .returned (stv (mHd enc s x (j : Int))) ∧ Below w.heap.size w w') := hide_ (fun j w => mhands_any enc s x (j : Int) w Hx.out hs.out)
  have HO : Hid (∀ (j : Nat) (w : World), Calls Tryz.prog (fHd enc) #[.agg #[], stv t, inv x, .int .i64 (j : Int)] w fun e w' => e = .returned (stv (mHd enc t x (j : Int))) ∧ Below w.heap.size w w') := hide_ (fun j w => mhands_any enc t x (j : Int) w Hx.out ht.out)
  obtain ⟨w1, hw1⟩ : ∃ wx, (w.alloc (.cells #[.int .i64 s.pl, .int .u64 (s.ki : Int), .int .i64 s.tb, .int .i64 s.pa, .int .i64 s.fr, .int .i64 s.le, .bool s.su] 101)).alloc (.cells #[.int .i64 t.pl, .int .u64 (t.ki : Int), .int .i64 t.tb, .int .i64 t.pa, .int .i64 t.fr, .int .i64 t.le, .bool t.su] 101) = wx := ⟨_, rfl⟩
  have hB1 : Below w.heap.size w w1 := by rw [← hw1]; exact below2 _ _ _
  have hk12 := blk2 w #[.int .i64 s.pl, .int .u64 (s.ki : Int), .int .i64 s.tb, .int .i64 s.pa, .int .i64 s.fr, .int .i64 s.le, .bool s.su] #[.int .i64 t.pl, .int .u64 (t.ki : Int), .int .i64 t.tb, .int .i64 t.pa, .int .i64 t.fr, .int .i64 t.le, .bool t.su] 101 101
  have hz1 : w1.heap.size = w.heap.size + 1 + 1 := by rw [← hw1]; simp
  rw [hw1] at hk12
  obtain ⟨w2, hw2⟩ : ∃ wx, w1.alloc (.cells #[.int .i64 x.op, .int .i64 x.a, .int .i64 x.b, .int .i64 x.c] 37) = wx := ⟨_, rfl⟩
  have hB2 : Below w1.heap.size w1 w2 := by rw [← hw2]; exact below1 _ _
  have KX : Blk w2 w1.heap.size 37 (inc x) := by rw [← hw2]; exact Blk.newA w1 _ _
  have K1 : Blk w2 w.heap.size 101 (stc s) := Blk.later (t := 101) hk12.1 hB2
  have K2 : Blk w2 (w.heap.size + 1) 101 (stc t) := Blk.later (t := 101) hk12.2 hB2
  have R1 := h.out.later hB1
  have R2 := R1.later hB2
  obtain ⟨i0, i1, i2, i3⟩ := R1.code.at hx
  have l0 := R1.c0
  have l1 := R1.c1
  have m0 := R2.c0
  have m1 := R2.c1
  have HR2 := hide_ R2
  have HB2 := hide_ (below_to hB1 hB2)
  have HW := hide_ (ways_any bc oc cc C k w2 hk hcc hcl hC.out.nc (hide_ R2.code) (hC.out.arm k hk))
  have HS : Hid (∀ w3, Below w2.heap.size w2 w3 → (fun w' => w'.cell? ⟨b, 0, none⟩ = some (.iface (mTy enc) (.agg #[])) ∧ w'.cell? ⟨w.heap.size, 0, none⟩ = some (.int .i64 s.pl) ∧ w'.cell? ⟨w.heap.size, 1, none⟩ = some (.int .u64 (s.ki : Int)) ∧ w'.cell? ⟨w.heap.size, 2, none⟩ = some (.int .i64 s.tb) ∧ w'.cell? ⟨w.heap.size, 3, none⟩ = some (.int .i64 s.pa) ∧ w'.cell? ⟨w.heap.size, 4, none⟩ = some (.int .i64 s.fr) ∧ w'.cell? ⟨w.heap.size, 5, none⟩ = some (.int .i64 s.le) ∧ w'.cell? ⟨w.heap.size, 6, none⟩ = some (.bool s.su) ∧ w'.cell? ⟨w.heap.size + 1, 0, none⟩ = some (.int .i64 t.pl) ∧ w'.cell? ⟨w.heap.size + 1, 1, none⟩ = some (.int .u64 (t.ki : Int)) ∧ w'.cell? ⟨w.heap.size + 1, 2, none⟩ = some (.int .i64 t.tb) ∧ w'.cell? ⟨w.heap.size + 1, 3, none⟩ = some (.int .i64 t.pa) ∧ w'.cell? ⟨w.heap.size + 1, 4, none⟩ = some (.int .i64 t.fr) ∧ w'.cell? ⟨w.heap.size + 1, 5, none⟩ = some (.int .i64 t.le) ∧ w'.cell? ⟨w.heap.size + 1, 6, none⟩ = some (.bool t.su) ∧ w'.cell? ⟨w1.heap.size, 0, none⟩ = some (.int .i64 x.op) ∧ w'.cell? ⟨w1.heap.size, 1, none⟩ = some (.int .i64 x.a) ∧ w'.cell? ⟨w1.heap.size, 2, none⟩ = some (.int .i64 x.b) ∧ w'.cell? ⟨w1.heap.size, 3, none⟩ = some (.int .i64 x.c)) w3) := hide_ (fun w3 hB => by
    have a1 := (K1.later hB).cs
    have a2 := (K2.later hB).cs
    have a3 := (KX.later hB).ci
    have a4 := (R2.later hB).c0
    exact ⟨a4, a1.1, a1.2.1, a1.2.2.1, a1.2.2.2.1, a1.2.2.2.2.1, a1.2.2.2.2.2.1, a1.2.2.2.2.2.2, a2.1, a2.2.1, a2.2.2.1, a2.2.2.2.1, a2.2.2.2.2.1, a2.2.2.2.2.2.1, a2.2.2.2.2.2.2, a3.1, a3.2.1, a3.2.2.1, a3.2.2.2⟩)
  obtain ⟨n, hn⟩ : ∃ n, (waysP C k).length = n := ⟨_, rfl⟩
  have Hn := hide_ hn
  have hkc : (k : Int) < (C.length : Int) := by omega
  unfold mcV at l0 m0
  clear hB1 hk12 hz1 hB2 KX K1 K2 R1 R2 hx hxA h hn
  unfold stv
  go_enter Tryz.func78, Tryz.ntmps78
  go_upto_region 1 with fail
  try rw [hw1]
  clear hw1
  go_upto_region 2 with fail
  try rw [hw2]
  clear hw2 l0 l1 i0 i1 i2 i3
  go_wp2_with fail
  refine HW.out.mono ?_
  rintro e w3 ⟨v, rfl, HOw, HB3⟩
  obtain ⟨av, cv, hv, -, -, hvc⟩ := HOw.out.row
  rw [Hn.out] at hv
  have Hvc := hide_ hvc
  subst hv
  clear hvc
  go_wp2_with fail
  go_loopw [25] (fun x25 wr => ∃ (j : Nat), j ≤ n ∧ x25 = .int .i64 (j : Int) ∧ Hid (∀ i, i < j → stEq (mHd enc s x (i : Int)) (mHd enc t x (i : Int)) = true) ∧ Hid (Below w2.heap.size w2 wr)) (fun x25 _ => n - (intOf x25).toNat)
  case atStart => exact ⟨0, by omega, rfl, hide_ (fun i hi => by omega), HB3⟩
  case round =>
    clear HW HOw HB3 Hvc m0 m1
    obtain ⟨j, hj, rfl, HE, HBq⟩ := hrel
    generalize wr = wq at *
    by_cases hlt : j < n
    · have hlt' : (j : Int) < (n : Int) := by omega
      obtain ⟨d, hd⟩ : ∃ d, stEq (mHd enc s x (j : Int)) (mHd enc t x (j : Int)) = d := ⟨_, rfl⟩
      have Hd := hide_ hd
      have HA := hide_ (HA.out j)
      have HO := hide_ (HO.out j)
      have hj9 : (j : Int) ≤ 9223372036854775806 := by
        have := Hn.out
        have h2 : (waysP C k).length ≤ 1048576 := by
          unfold waysP
          have := hC.out.arm k hk
          repeat' split
          all_goals simp
          all_goals omega
        omega
      clear hd
      go_upto_region 5 with fail
      go_cut [44] from 28 to 44 (fun x44 wc => ∃ (w6 : World), w6 = wc ∧ x44 = .bool (!d) ∧ Hid (Below w2.heap.size w2 w6))
      case first =>
        refine wp_region_last 16 (fun w' => w'.cell? ⟨b, 0, none⟩ = some (.iface (mTy enc) (.agg #[])) ∧ w'.cell? ⟨w.heap.size, 0, none⟩ = some (.int .i64 s.pl) ∧ w'.cell? ⟨w.heap.size, 1, none⟩ = some (.int .u64 (s.ki : Int)) ∧ w'.cell? ⟨w.heap.size, 2, none⟩ = some (.int .i64 s.tb) ∧ w'.cell? ⟨w.heap.size, 3, none⟩ = some (.int .i64 s.pa) ∧ w'.cell? ⟨w.heap.size, 4, none⟩ = some (.int .i64 s.fr) ∧ w'.cell? ⟨w.heap.size, 5, none⟩ = some (.int .i64 s.le) ∧ w'.cell? ⟨w.heap.size, 6, none⟩ = some (.bool s.su) ∧ w'.cell? ⟨w.heap.size + 1, 0, none⟩ = some (.int .i64 t.pl) ∧ w'.cell? ⟨w.heap.size + 1, 1, none⟩ = some (.int .u64 (t.ki : Int)) ∧ w'.cell? ⟨w.heap.size + 1, 2, none⟩ = some (.int .i64 t.tb) ∧ w'.cell? ⟨w.heap.size + 1, 3, none⟩ = some (.int .i64 t.pa) ∧ w'.cell? ⟨w.heap.size + 1, 4, none⟩ = some (.int .i64 t.fr) ∧ w'.cell? ⟨w.heap.size + 1, 5, none⟩ = some (.int .i64 t.le) ∧ w'.cell? ⟨w.heap.size + 1, 6, none⟩ = some (.bool t.su) ∧ w'.cell? ⟨w1.heap.size, 0, none⟩ = some (.int .i64 x.op) ∧ w'.cell? ⟨w1.heap.size, 1, none⟩ = some (.int .i64 x.a) ∧ w'.cell? ⟨w1.heap.size, 2, none⟩ = some (.int .i64 x.b) ∧ w'.cell? ⟨w1.heap.size, 3, none⟩ = some (.int .i64 x.c)) (by kernel_rfl) (HS.out _ HBq.out.drew) (fun hHeld => ?_)
        refine wpAnyF_take [16, 7, 3, 2, 1] (by kernel_rfl) (i := 0) (v := ?vp1) rfl (by kernel_rfl) (by kernel_rfl) (by kernel_rfl) (fun _ _ _ h => h) (Or.inl ⟨by kernel_rfl, ?hyp1⟩) hHeld ?restp1
        case hyp1 => intro w' hSw; (try dsimp only at hSw); go_simp; try with_reducible rfl
        simp only [Act.put]
        try dsimp only
        refine wpAnyF_take [16, 7, 3, 2] (by kernel_rfl) (i := 1) (v := ?vp2) rfl (by kernel_rfl) (by kernel_rfl) (by kernel_rfl) (fun _ _ _ h => h) (Or.inl ⟨by kernel_rfl, ?hyp2⟩) hHeld ?restp2
        case hyp2 => intro w' hSw; (try dsimp only at hSw); go_simp; try with_reducible rfl
        simp only [Act.put]
        try dsimp only
        refine wpAnyF_take [16, 7, 3] (by kernel_rfl) (i := 2) (v := ?vp3) rfl (by kernel_rfl) (by kernel_rfl) (by kernel_rfl) (fun _ _ _ h => h) (Or.inl ⟨by kernel_rfl, ?hyp3⟩) hHeld ?restp3
        case hyp3 => intro w' hSw; (try dsimp only at hSw); go_simp; try with_reducible rfl
        simp only [Act.put]
        try dsimp only
        refine wpAnyF_take [16, 7] (by kernel_rfl) (i := 3) (v := ?vp4) rfl (by kernel_rfl) (by kernel_rfl) (by kernel_rfl) (fun _ _ _ h => h) (Or.inl ⟨by kernel_rfl, ?hyp4⟩) hHeld ?restp4
        case hyp4 => intro w' hSw; (try dsimp only at hSw); go_simp; try with_reducible rfl
        simp only [Act.put]
        try dsimp only
        refine wpAnyF_take [16, 7] (by kernel_rfl) (i := 4) (v := ?vp5) rfl (by kernel_rfl) (by kernel_rfl) (by kernel_rfl) (fun _ _ _ h => h) (Or.inl ⟨by kernel_rfl, ?hyp5⟩) hHeld ?restp5
        case hyp5 => intro w' hSw; (try dsimp only at hSw); go_simp; try with_reducible rfl
        simp only [Act.put]
        try dsimp only
        refine wpAnyF_take [16, 7] (by kernel_rfl) (i := 5) (v := ?vp6) rfl (by kernel_rfl) (by kernel_rfl) (by kernel_rfl) (fun _ _ _ h => h) (Or.inl ⟨by kernel_rfl, ?hyp6⟩) hHeld ?restp6
        case hyp6 => intro w' hSw; (try dsimp only at hSw); go_simp; try with_reducible rfl
        simp only [Act.put]
        try dsimp only
        refine wpAnyF_take [16, 7] (by kernel_rfl) (i := 6) (v := ?vp7) rfl (by kernel_rfl) (by kernel_rfl) (by kernel_rfl) (fun _ _ _ h => h) (Or.inl ⟨by kernel_rfl, ?hyp7⟩) hHeld ?restp7
        case hyp7 => intro w' hSw; (try dsimp only at hSw); go_simp; try with_reducible rfl
        simp only [Act.put]
        try dsimp only
        refine wpAnyF_take [16, 15, 11, 10, 9] (by kernel_rfl) (i := 8) (v := ?vp8) rfl (by kernel_rfl) (by kernel_rfl) (by kernel_rfl) (fun _ _ _ h => h) (Or.inl ⟨by kernel_rfl, ?hyp8⟩) hHeld ?restp8
        case hyp8 => intro w' hSw; (try dsimp only at hSw); go_simp; try with_reducible rfl
        simp only [Act.put]
        try dsimp only
        refine wpAnyF_take [16, 15, 11, 10] (by kernel_rfl) (i := 9) (v := ?vp9) rfl (by kernel_rfl) (by kernel_rfl) (by kernel_rfl) (fun _ _ _ h => h) (Or.inl ⟨by kernel_rfl, ?hyp9⟩) hHeld ?restp9
        case hyp9 => intro w' hSw; (try dsimp only at hSw); go_simp; try with_reducible rfl
        simp only [Act.put]
        try dsimp only
        refine wpAnyF_take [16, 15, 11] (by kernel_rfl) (i := 10) (v := ?vp10) rfl (by kernel_rfl) (by kernel_rfl) (by kernel_rfl) (fun _ _ _ h => h) (Or.inl ⟨by kernel_rfl, ?hyp10⟩) hHeld ?restp10
        case hyp10 => intro w' hSw; (try dsimp only at hSw); go_simp; try with_reducible rfl
        simp only [Act.put]
        try dsimp only
        refine wpAnyF_take [16, 15] (by kernel_rfl) (i := 11) (v := ?vp11) rfl (by kernel_rfl) (by kernel_rfl) (by kernel_rfl) (fun _ _ _ h => h) (Or.inl ⟨by kernel_rfl, ?hyp11⟩) hHeld ?restp11
        case hyp11 => intro w' hSw; (try dsimp only at hSw); go_simp; try with_reducible rfl
        simp only [Act.put]
        try dsimp only
        refine wpAnyF_take [16, 15] (by kernel_rfl) (i := 12) (v := ?vp12) rfl (by kernel_rfl) (by kernel_rfl) (by kernel_rfl) (fun _ _ _ h => h) (Or.inl ⟨by kernel_rfl, ?hyp12⟩) hHeld ?restp12
        case hyp12 => intro w' hSw; (try dsimp only at hSw); go_simp; try with_reducible rfl
        simp only [Act.put]
        try dsimp only
        refine wpAnyF_take [16, 15] (by kernel_rfl) (i := 13) (v := ?vp13) rfl (by kernel_rfl) (by kernel_rfl) (by kernel_rfl) (fun _ _ _ h => h) (Or.inl ⟨by kernel_rfl, ?hyp13⟩) hHeld ?restp13
        case hyp13 => intro w' hSw; (try dsimp only at hSw); go_simp; try with_reducible rfl
        simp only [Act.put]
        try dsimp only
        refine wpAnyF_take [16, 15] (by kernel_rfl) (i := 14) (v := ?vp14) rfl (by kernel_rfl) (by kernel_rfl) (by kernel_rfl) (fun _ _ _ h => h) (Or.inl ⟨by kernel_rfl, ?hyp14⟩) hHeld ?restp14
        case hyp14 => intro w' hSw; (try dsimp only at hSw); go_simp; try with_reducible rfl
        simp only [Act.put]
        try dsimp only
        refine wpAnyF_ready (rs := [7]) (by kernel_rfl) (by simp) ?_
        refine AllReadyF.cons rfl (fun K hK => ?_) AllReadyF.nil
        have mH := mtHd enc 281 wq.drew
        have eH := enHd enc
        go_simp
        refine (HA.out wq.drew).mono ?_
        rintro e w5 ⟨rfl, hB5⟩
        have HB5 := hide_ (below_to HBq.out.drew hB5)
        have hS5 := HS.out w5 HB5.out
        clear hB5 mH eH
        go_simp
        refine hK.out _ _ (hS5) (fun hHeld => ?_)
        clear hK K
        refine wpAnyF_ready (rs := [15]) (by kernel_rfl) (by simp) ?_
        refine AllReadyF.cons rfl (fun K hK => ?_) AllReadyF.nil
        have mH := mtHd enc 281 w5
        have eH := enHd enc
        go_simp
        refine (HO.out w5).mono ?_
        rintro e w6 ⟨rfl, hB6⟩
        have HB6 := hide_ (below_to HB5.out hB6)
        have hS6 := HS.out w6 HB6.out
        clear hB6 mH eH
        go_simp
        refine hK.out _ _ (hS6) (fun hHeld => ?_)
        clear hK K
        refine wpAnyF_lastY (v := ?vp15) (by kernel_rfl) rfl (Or.inl ⟨by kernel_rfl, ?hyp15⟩) hHeld ?restp15
        case hyp15 => intro w' hSw; (refine neq_ex (mHd enc s x (j : Int)) (mHd enc t x (j : Int)) _ _ (.tmp 35) (.tmp 43) w' ?_ ?_ ?_ <;> first | rfl | kernel_rfl)
        dsimp [Act.put]
        try simp only [List.setIfInBounds_toArray, List.set_cons_succ, List.set_cons_zero]
        refine wpAnyF_done (by kernel_rfl) ?_ _
        go_wp2_with fail
        go_meet
        case rel => exact ⟨_, rfl, by rw [Hd.out], HB6⟩
      case rest =>
        obtain ⟨w6, rfl, rfl, HB6⟩ := hcut
        cases d
        · have HT : Hid (sameH enc C k s t = false) := hide_ (sameH_false Hn.out hlt (by rw [HxA.out]; exact Hd.out))
          go_wp2_with fail
          go_ret
          exact ⟨by rw [HT.out]; rfl, below_to HB2.out HB6.out⟩
        · have HE2 : Hid (∀ i, i < j + 1 → stEq (mHd enc s x (i : Int)) (mHd enc t x (i : Int)) = true) := hide_ (fun i hi => by
            rcases Nat.lt_or_ge i j with h | h
            · exact HE.out i h
            · rw [show i = j by omega]; exact Hd.out)
          go_wp2_with fail
          go_roundw
          case rel => exact ⟨j + 1, by omega, by go_num, HE2, HB6⟩
          case measure => simp [intOf]; omega
    · have hlt' : ¬ ((j : Int) < (n : Int)) := by omega
      have HT : Hid (sameH enc C k s t = true) := hide_ (sameH_true Hn.out (fun i hi => by rw [HxA.out]; exact HE.out i (by omega)))
      go_wp2_with fail
      go_ret
      exact ⟨by rw [HT.out]; rfl, below_to HB2.out HBq.out⟩
theorem below_to2 {a b c : World} {S : Nat → Prop} (h : Below a.heap.size a b) (hu : Upd S b c) (hs : ∀ q, S q → a.heap.size ≤ q) : Below a.heap.size a c := h.trans (hu.below a.heap.size h.size hs)
def putAt (w : World) (g o : Nat) (s : St) : World := ((((((w.setCell ⟨g, o, none⟩ (.int .i64 s.pl)).setCell ⟨g, o + 1, none⟩ (.int .u64 (s.ki : Int))).setCell ⟨g, o + 2, none⟩ (.int .i64 s.tb)).setCell ⟨g, o + 3, none⟩ (.int .i64 s.pa)).setCell ⟨g, o + 4, none⟩ (.int .i64 s.fr)).setCell ⟨g, o + 5, none⟩ (.int .i64 s.le)).setCell ⟨g, o + 6, none⟩ (.bool s.su)
theorem set7 (L : List Value) (o : Nat) (s : St) (m : Nat) (h : o + 7 ≤ L.length) : (((((((L.set o (.int .i64 s.pl)).set (o + 1) (.int .u64 (s.ki : Int))).set (o + 2) (.int .i64 s.tb)).set (o + 3) (.int .i64 s.pa)).set (o + 4) (.int .i64 s.fr)).set (o + 5) (.int .i64 s.le)).set (o + 6) (.bool s.su))[m]? = if o ≤ m ∧ m < o + 7 then (stc s)[m - o]? else L[m]? := by
  by_cases h1 : o ≤ m ∧ m < o + 7
  · rw [if_pos h1]
    obtain ⟨j, rfl⟩ : ∃ j, m = o + j := ⟨m - o, by omega⟩
    have hj : j < 7 := by omega
    rw [Nat.add_sub_cancel_left]
    have hj7 : j = 0 ∨ j = 1 ∨ j = 2 ∨ j = 3 ∨ j = 4 ∨ j = 5 ∨ j = 6 := by omega
    rcases hj7 with rfl | rfl | rfl | rfl | rfl | rfl | rfl
    all_goals
      simp only [List.getElem?_set, List.length_set, stc]
      repeat (first | rw [if_pos trivial] | rw [if_pos (by omega)] | rw [if_neg (by omega)])
      try rfl
  · rw [if_neg h1]
    simp only [List.getElem?_set, List.length_set]
    repeat rw [if_neg (by omega)]
theorem Blk.putAt {w : World} {g k : Nat} {S : List St} (h : Blk w g 101 (cellsG stc S)) (hk : k < S.length) (s : St) : Blk (Go.Proofs.YtjamfbpdepahnaaGreat.putAt w g (k * 7) s) g 101 (cellsG stc (S.set k s)) := by
  have h1 := ((((((h.set (k * 7) (.int .i64 s.pl)).set (k * 7 + 1) (.int .u64 (s.ki : Int))).set (k * 7 + 2) (.int .i64 s.tb)).set (k * 7 + 3) (.int .i64 s.pa)).set (k * 7 + 4) (.int .i64 s.fr)).set (k * 7 + 5) (.int .i64 s.le)).set (k * 7 + 6) (.bool s.su)
  have hl := cellsG_len (f := stc) stc_len S
  have e : ((((((((cellsG stc S).set (k * 7) (.int .i64 s.pl)).set (k * 7 + 1) (.int .u64 (s.ki : Int))).set (k * 7 + 2) (.int .i64 s.tb)).set (k * 7 + 3) (.int .i64 s.pa)).set (k * 7 + 4) (.int .i64 s.fr)).set (k * 7 + 5) (.int .i64 s.le)).set (k * 7 + 6) (.bool s.su)) = cellsG stc (S.set k s) := by
    apply List.ext_getElem?
    intro m
    rw [set7 _ _ _ _ (by rw [hl]; omega), cellsG_set stc_len S k s hk m]
  rw [e] at h1
  exact h1
theorem putAt_upd {S : Nat → Prop} {a w : World} (h : Upd S a w) (g o : Nat) (s : St) (hg : S g ∨ a.heap.size ≤ g) : Upd S a (putAt w g o s) := by
  unfold putAt
  exact ((((((h.set _ _ hg).set _ _ hg).set _ _ hg).set _ _ hg).set _ _ hg).set _ _ hg).set _ _ hg
structure LkS (w0 w : World) (b gs bc oc cc : Nat) (enc : Bool) (C : List In) (r : Int) (S : List St) (P : List Int) (vp : Value) : Prop where
  old : Below w0.heap.size w0 w
  hb : w0.heap.size ≤ b
  hgs : w0.heap.size ≤ gs
  code : IRow w0 (some ⟨bc, oc, none⟩) C
  blk : Blk w b 72 [mcV enc, .slice (some ⟨bc, oc, none⟩) C.length cc, .int .i64 r, .slice (some ⟨gs, 0, none⟩) C.length C.length, vp]
  st : Blk w gs 101 (cellsG stc S)
  len : S.length = C.length
  pend : IOwn w w0.heap.size vp P
section
variable {w0 w w' : World} {b gs bc oc cc : Nat} {enc : Bool} {C : List In} {r : Int} {S : List St} {P : List Int} {vp : Value}
theorem LkS.rd (h : LkS w0 w b gs bc oc cc enc C r S P vp) : LkR w b bc oc cc enc C :=
  ⟨by rw [h.blk.cell 0]; rfl, by rw [h.blk.cell 1]; rfl, h.blk.lt, h.code.later h.old⟩
theorem LkS.later (h : LkS w0 w b gs bc oc cc enc C r S P vp) (hB : Below w.heap.size w w') : LkS w0 w' b gs bc oc cc enc C r S P vp :=
  ⟨below_to h.old hB, h.hb, h.hgs, h.code, h.blk.later hB, h.st.later hB, h.len, h.pend.later hB⟩
theorem IOwn.neB {w : World} {B : Nat} {v : Value} {l : List Int} (h : IOwn w B v l) {k : Nat} {t : TypeId} {ys : List Value} (hb : Blk w k t ys) (ht : t ≠ 3) : ¬ v.ownBlock = some k := fun e => by
  obtain ⟨zs, hz⟩ := ownS_type h e
  exact ht (blk_type hb hz)
theorem LkS.bg (h : LkS w0 w b gs bc oc cc enc C r S P vp) : b ≠ gs := fun e => by
  have h1 := h.blk
  rw [e] at h1
  exact absurd (blk_type h1 h.st) (by decide)
theorem LkS.nm (h : LkS w0 w b gs bc oc cc enc C r S P vp) : NmS w b 4 w0.heap.size vp P :=
  ⟨by rw [h.blk.cell 4]; rfl, h.blk.frozen 4, h.pend, fun k e hk => h.pend.neB h.blk (by decide) (hk ▸ e), h.blk.lt⟩
theorem LkS.at (h : LkS w0 w b gs bc oc cc enc C r S P vp) {k : Nat} {s : St} (hs : S[k]? = some s) :
    w.cell? ⟨gs, k * 7, none⟩ = some (.int .i64 s.pl) ∧ w.cell? ⟨gs, k * 7 + 1, none⟩ = some (.int .u64 (s.ki : Int)) ∧ w.cell? ⟨gs, k * 7 + 2, none⟩ = some (.int .i64 s.tb) ∧ w.cell? ⟨gs, k * 7 + 3, none⟩ = some (.int .i64 s.pa) ∧ w.cell? ⟨gs, k * 7 + 4, none⟩ = some (.int .i64 s.fr) ∧ w.cell? ⟨gs, k * 7 + 5, none⟩ = some (.int .i64 s.le) ∧ w.cell? ⟨gs, k * 7 + 6, none⟩ = some (.bool s.su) := by
  have h7 := fun j hj => (h.st.cell (k * 7 + j)).trans (cellsG_at (f := stc) (c := 7) stc_len S k j s hs hj)
  exact ⟨h7 0 (by decide), h7 1 (by decide), h7 2 (by decide), h7 3 (by decide), h7 4 (by decide), h7 5 (by decide), h7 6 (by decide)⟩
theorem LkS.cells (h : LkS w0 w b gs bc oc cc enc C r S P vp) : w.cell? ⟨b, 0, none⟩ = some (.iface (mTy enc) (.agg #[])) ∧ w.cell? ⟨b, 1, none⟩ = some (.slice (some ⟨bc, oc, none⟩) C.length cc) ∧ w.cell? ⟨b, 2, none⟩ = some (.int .i64 r) ∧ w.cell? ⟨b, 3, none⟩ = some (.slice (some ⟨gs, 0, none⟩) C.length C.length) ∧ w.cell? ⟨b, 4, none⟩ = some vp :=
  ⟨by rw [h.blk.cell 0]; rfl, by rw [h.blk.cell 1]; rfl, by rw [h.blk.cell 2]; rfl, by rw [h.blk.cell 3]; rfl, by rw [h.blk.cell 4]; rfl⟩
theorem LkS.put (h : LkS w0 w b gs bc oc cc enc C r S P vp) {k : Nat} (hk : k < C.length) (s : St) : LkS w0 (putAt w gs (k * 7) s) b gs bc oc cc enc C r (S.set k s) P vp ∧ Upd (fun q => q = gs) w (putAt w gs (k * 7) s) := by
  have hu : Upd (fun q => q = gs) w (putAt w gs (k * 7) s) := putAt_upd (Upd.refl _ w) gs _ s (.inl rfl)
  exact ⟨⟨below_to2 h.old hu (fun q e => by rw [e]; exact h.hgs), h.hb, h.hgs, h.code, h.blk.upd hu h.bg, h.st.putAt (by rw [h.len]; exact hk) s, by rw [List.length_set]; exact h.len, h.pend.upd hu (fun q e e2 => h.pend.neB h.st (by decide) (e2 ▸ e))⟩, hu⟩
end
end Go.Proofs.YtjamfbpdepahnaaGreat
