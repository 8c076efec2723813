/- typing.pushKids: structs: a range over slices.Backward. -/
import Derived.Test.YtlfjcihhcphjkaaDoorOf
import Derived.RangeFuncNested
import Derived.RangeFuncBound
import Derived.RangeFuncCalls
import Derived.RangeFuncLeaves
import Derived.Shelf.Abstract
import Derived.Shelf.RegionOpen
import Derived.OwnWalkIn
import Derived.TacticsInMore
import Derived.LoopNIn
import Derived.LoopIn
namespace Go.Proofs.YtlfjcihhcphjkaaDoor
open Go.RowKit Go.Shelf
set_option linter.unusedVariables false

attribute [local go_sem] Oper.semAt_some

/-- The numbers from n - 1 down, k of them. -/
def dn (n : Nat) : (k : Nat) → k ≤ n → List (Fin n)
  | 0, _ => []
  | k + 1, h => dn n k (by omega) ++ [⟨n - 1 - k, by omega⟩]
theorem dn_len (n : Nat) : ∀ (k : Nat) (h : k ≤ n), (dn n k h).length = k
  | 0, _ => rfl
  | k + 1, h => by rw [dn, List.length_append, dn_len n k]; rfl
def encP (N : List Pt) (i : Fin N.length) : Array Value := #[.int .i64 (i.val : Int), ptv (N.getD i.val pt0)]
/-- What a round keeps: what lies below n, and block b. -/
def KpB (n b : Nat) (W W' : World) : Prop := Below n W W' ∧ (b < W.heap.size → W'.heap[b]? = W.heap[b]?)
theorem KpB.t {n b : Nat} {A B C : World} (h : KpB n b A B) (k : KpB n b B C) : KpB n b A C :=
  ⟨h.1.trans k.1, fun hb => (k.2 (Nat.lt_of_lt_of_le hb h.1.size)).trans (h.2 hb)⟩
theorem KpB.b {n b : Nat} {w : World} (hn : n ≤ w.heap.size) (hb : b < w.heap.size) (W : World) (l : Nat) (o o' : Obj) (hl : w.heap.size ≤ l) (h : W.heap[l]? = some o) (h1 : o.isCells = false) (h2 : o.isWalk = false) : KpB n b W (W.putObj l o') :=
  ⟨belowK_b hn W l o o' hl h h1 h2, fun _ => World.putObj_heap_other (by omega)⟩
set_option maxRecDepth 100000 in
set_option maxHeartbeats 4000000 in
theorem back1_in (n : Nat) (hn : 1 ≤ n) (l Bs n0 b off cap : Nat) (N : List Pt) (hN : N.length ≤ 1954687338267) (hb : b < n0) (J Jx : List (Fin N.length) → World → Prop)
    (hY : ∀ pre x W, J pre W → pre.length < N.length → YieldAt Fence.wide (n - 1) Tryd.prog l (encP N x) W fun e W' =>
      (e = .returned (.bool true) ∧ J (pre ++ [x]) W' ∧ KpB n0 Bs W W') ∨ (e = .returned (.bool false) ∧ Jx (pre ++ [x]) W'))
    (W : World) (hBs : Blk W Bs 62 [.slice (some ⟨b, off, none⟩) N.length cap]) (hc : ∀ (i : Nat) (x : Pt), N[i]? = some x → ∀ j, j < 3 → W.cell? ⟨b, off + i * 3 + j, none⟩ = (ptc x)[j]?) (h0 : J [] W) :
    CallsIn Fence.wide n Tryd.prog 62 #[.func (.yield l) #[] #[], .pointer (some ⟨Bs, 0, none⟩)] W fun e W' => (∃ v, e = .returned v) ∧
      ((∃ ys, ys = dn N.length N.length (Nat.le_refl _) ∧ J ys W') ∨ (∃ pre, True ∧ Jx pre W')) := by
  have s0 := hBs.cell 0
  simp at s0
  refine callsIn_of_wp Tryd.func62 rfl trivial ?_ rfl
  simp only [Tryd.ntmps62, List.size_toArray, List.length_cons, List.length_nil, Nat.reduceAdd, Nat.reduceSub, Array.replicate_succ, Array.replicate_zero, List.push_toArray, List.append_toArray, List.nil_append, List.cons_append]
  gi_wp2
  clear s0
  gi_loopw [3] (fun i wr => ∃ (k : Nat) (hk : k ≤ N.length), i = .int .i64 ((N.length : Int) - 1 - (k : Int)) ∧ J (dn N.length k hk) wr ∧ Hid (KpB n0 Bs W wr) ∧ Hid (W.heap.size ≤ wr.heap.size))
    (fun i _ => (intOf i + 1).toNat)
  case atStart => exact ⟨0, Nat.zero_le _, by simp, h0, hide_ ⟨Below.refl _ _, fun _ => rfl⟩, hide_ (Nat.le_refl _)⟩
  case round =>
    obtain ⟨k, hk, rfl, hJs, HK, HZ⟩ := hrel
    have hkb : Blk wr Bs 62 [.slice (some ⟨b, off, none⟩) N.length cap] := hBs.of_eq (HK.out.2 hBs.lt)
    have s0 := hkb.cell 0
    simp at s0
    by_cases hlt : k < N.length
    · have hm : N.length - 1 - k < N.length := by omega
      have hx : N[N.length - 1 - k]? = some (N[N.length - 1 - k]'hm) := List.getElem?_eq_getElem hm
      have hxe : N.getD (N.length - 1 - k) pt0 = N[N.length - 1 - k]'hm := by simp [List.getD, hm]
      obtain ⟨fn, tmps, assign, body, hy, hR⟩ := hY _ ⟨N.length - 1 - k, hm⟩ wr hJs (by rw [dn_len]; exact hlt)
      unfold encP at hy
      dsimp only at hy
      rw [hxe] at hy
      unfold ptv at hy
      have hcx : ∀ j, j < 3 → wr.cell? ⟨b, off + (N.length - 1 - k) * 3 + j, none⟩ = (ptc (N[N.length - 1 - k]'hm))[j]? := fun j hj => (HK.out.1.cell (p := ⟨b, off + (N.length - 1 - k) * 3 + j, none⟩) hb).trans (hc _ _ hx j hj)
      generalize N[N.length - 1 - k]'hm = x at *
      have i0 := hcx 0 (by decide); have i1 := hcx 1 (by decide); have i2 := hcx 2 (by decide)
      simp [ptc] at i0 i1 i2
      obtain ⟨m, hmm⟩ : ∃ m : Nat, N.length - 1 - k = m := ⟨_, rfl⟩
      have hmi : (N.length : Int) - 1 - (k : Int) = (m : Int) := by omega
      have hdn : dn N.length (k + 1) hlt = dn N.length k hk ++ [⟨N.length - 1 - k, hm⟩] := rfl
      have HD := hide_ hdn
      clear hdn hcx hx hxe
      rw [hmi]
      rw [hmm] at hy i0 i1 i2
      have hml : (m : Int) < N.length := by omega
      gi_wp2
      refine hR.mono ?_
      rintro e W3 (⟨rfl, hJ3, hk3⟩ | ⟨rfl, hJx3⟩)
      · gi_wp2
        go_roundw
        case rel => exact ⟨k + 1, hlt, by congr 1 <;> omega, by rw [HD.out]; exact hJ3, hide_ (HK.out.t hk3), hide_ (Nat.le_trans HZ.out hk3.1.size)⟩
        case measure => simp [intOf] <;> omega
      · gi_wp2
        refine bodyPost_ret (results_none rfl _ _ _) rfl ?_
        exact ⟨⟨_, rfl⟩, .inr ⟨_, trivial, hJx3⟩⟩
    · obtain rfl : k = N.length := by omega
      have hmi : (N.length : Int) - 1 - (N.length : Int) = -1 := by omega
      rw [hmi]
      gi_wp2
      go_end0
      exact ⟨⟨_, rfl⟩, .inl ⟨_, rfl, hJs⟩⟩
set_option maxRecDepth 100000 in
set_option maxHeartbeats 4000000 in
theorem back_any (va : Option Addr) (n cap : Nat) (w : World) :
    Calls Tryd.prog 47 #[.slice va n cap] w fun e w' => e = .returned (.func (.func 62) #[] #[.pointer (some ⟨w.heap.size, 0, none⟩)]) ∧ w' = w.alloc (.cells #[.slice va n cap] 62) := by
  have hmf : ∀ (fn : Fn) (first cap : Array Value) (w : World), (Instr.makeFunc fn first cap).run Tryd.prog w = .ok (.func fn first cap) w := fun _ _ _ _ => rfl
  go_enter Tryd.func47, Tryd.ntmps47
  go_wp2
  go_ret
  exact ⟨rfl, rfl⟩
theorem back_stops (n : Nat) (hn : 1 ≤ n) (Bs n0 b off cap : Nat) (N : List Pt) (hN : N.length ≤ 1954687338267) (hb : b < n0) (w : World) (hn0 : n0 ≤ w.heap.size) (hBs : Blk w Bs 62 [.slice (some ⟨b, off, none⟩) N.length cap]) (hc : ∀ (i : Nat) (x : Pt), N[i]? = some x → ∀ j, j < 3 → w.cell? ⟨b, off + i * 3 + j, none⟩ = (ptc x)[j]?) :
    SeqStopsK Fence.wide n Tryd.prog 62 #[.pointer (some ⟨Bs, 0, none⟩)] (encP N) (KpB n0 Bs) (fun ys => ys = dn N.length N.length (Nat.le_refl _)) (fun _ => True) N.length w := fun l J Jx W hW _ _ hY h0 =>
  back1_in n hn l Bs n0 b off cap N hN hb J Jx hY W (hBs.later hW) (fun i x hx j hj => (hW.cell (p := ⟨b, off + i * 3 + j, none⟩) (by show b < w.heap.size; omega)).trans (hc i x hx j hj)) h0
theorem blk_own {β : Type} (g : Nat) (t : TypeId) (f : β → List Value) : Own (fun s W => Blk W g t (f s)) := fun s X Y row hs hg hrow =>
  hs.of_eq (hg.block g hs.lt (fun e => by
    obtain ⟨o, h1, h2⟩ := hrow g e.symm
    unfold Blk at hs
    rw [hs] at h1
    simp only [Option.some.injEq] at h1
    subst h1
    cases h2))
/-- The types of what has come. -/
def tyF (N : List Pt) (pre : List (Fin N.length)) : List Int := pre.map (fun i => (N.getD i.val pt0).ty)
theorem tyF_dn (N : List Pt) : ∀ (k : Nat) (h : k ≤ N.length), tyF N (dn N.length k h) = ((N.map (·.ty)).drop (N.length - k)).reverse
  | 0, _ => by
    rw [Nat.sub_zero, List.drop_eq_nil_of_le (by simp)]
    rfl
  | k + 1, h => by
    have e := tyF_dn N k (by omega)
    have hlt : N.length - (k + 1) < (N.map (·.ty)).length := by simp; omega
    rw [List.drop_eq_getElem_cons hlt, show N.length - (k + 1) + 1 = N.length - k by omega, List.reverse_cons, ← e]
    unfold tyF
    rw [dn, List.map_append]
    simp only [List.map_cons, List.map_nil, List.getElem_map]
    have hi : N.length - 1 - k = N.length - (k + 1) := by omega
    simp only [hi]
    congr 2
    simp [List.getD, show N.length - (k + 1) < N.length by omega]
theorem tyF_all (N : List Pt) : tyF N (dn N.length N.length (Nat.le_refl _)) = (N.map (·.ty)).reverse := by
  rw [tyF_dn, Nat.sub_self, List.drop_zero]
theorem PkS.grown {w0 X Y : World} {q B B0 : Nat} {v : Value} {TC : List Value} {L : List Int} {v' : Value} {row : Option Nat} (h : PkS w0 X q B v TC L v') (hB : w0.heap.size ≤ B0) (hg : X.grownBy Y row) (hr : ∀ r, row = some r → B0 ≤ r ∧ ∃ o : Obj, X.heap[r]? = some o ∧ o.isCells = false) : PkS w0 Y q B v TC L v' := by
  have nb : ∀ k t ys, Blk X k t ys → ¬ row = some k := fun k t ys hb e => by
    obtain ⟨-, o, h1, h2⟩ := hr k e
    unfold Blk at hb
    rw [hb] at h1
    simp only [Option.some.injEq] at h1
    subst h1
    cases h2
  have hu : Upd (fun k => row = some k) X Y := (Upd.refl _ X).grown hg (fun k e => .inl e)
  refine ⟨h.box.upd hu (nb _ _ _ h.box), h.ty.upd hu (nb _ _ _ h.ty), h.own.upd hu (fun k hk e => ?_), h.upd.grown hg (fun k e => .inr (Nat.le_trans hB (hr k e).1)), h.lies⟩
  obtain ⟨zs, hz⟩ := ownS_type h.own hk
  exact nb _ _ _ hz e
theorem pks_own {β : Type} {B0 : Nat} {w0 : World} (q B : Nat) (v : Value) (TC : List Value) (f : β → List Int) (hB : w0.heap.size ≤ B0) : OwnFrom B0 (fun s W => ∃ v', PkS w0 W q B v TC (f s) v') := fun s X Y row hs hg hr => by
  obtain ⟨v', h⟩ := hs
  exact ⟨v', h.grown hB hg hr⟩
theorem wpListIn_append_run {F : Fence} {n : Nat} {P : Program} {w w' : World} {ops : Array Oper} {rest : List Oper} {o : Oper} {a : Act} {Q : Exit → Act → World → Prop}
    (hg : o.guard = none) (s x : Operand) (t t2 : TypeId) (hop : o.op = Op.call { callee := Callee.builtin Builtin.append, args := #[s, x], argTypes := #[t, t2] }) {v u v' : Value} (hs : a.eval s = v) (hx : a.eval x = u)
    (hrun : (Builtin.append_ #[t, t2] o.type #[v, u]).run P w = .ok v' w') (hK : wpListIn F n P ops Q rest (a.put o.dst v') w') : wpListIn F n P ops Q (o :: rest) a w := by
  refine wpListIn_plain hg fun K hK' => ?_
  unfold Oper.wpIn
  refine ⟨?_, ?_⟩
  · simp [Oper.about, hop, resolve, Target.leads, Sem.run_pure]
  · rw [Oper.semAt_plain F _ _ (by rw [hop]; intro c hc'; cases hc')]
    simp [execOp, hop, resolve, invoke, builtin, hs, hx, hrun, Result.andThen]
    exact hK' _ _ hK

theorem pks_round {w0 W W' : World} {q B s B0 : Nat} {v : Value} {TC : List Value} {L : List Int} {v' : Value} {ys : List Value} (h : PkS w0 W q B v TC L v') (hu : Upd (fun k => k = q ∨ v'.ownBlock = some k) W W') (hq : q < B0) (hBq : B ≤ q) (hs : Blk W s 62 ys) : KeepsFrom B0 W W' ∧ KpB B s W W' ∧ Blk W' s 62 ys := by
  have hqs : s ≠ q := fun e => absurd (blk_type hs (e ▸ h.box)) (by decide)
  have hvs : ¬ v'.ownBlock = some s := fun e => by
    obtain ⟨zs, hz⟩ := ownS_type h.own e
    exact absurd (blk_type hs hz) (by decide)
  have hBl : Below B W W' := hu.below B (Nat.le_trans hBq (Nat.le_of_lt h.box.lt)) (fun k hk => by
    rcases hk with rfl | hk
    · exact hBq
    · exact (World.ownsRow.lt h.own k hk).1)
  have hn : ¬ (s = q ∨ v'.ownBlock = some s) := fun e => by
    rcases e with e | e
    · exact hqs e
    · exact hvs e
  refine ⟨⟨hu.size, fun k o hk ho hc => ?_⟩, ⟨hBl, fun hb => hu.block s hb hn⟩, hs.upd hu hn⟩
  refine (hu.block k (Array.getElem?_eq_some_iff.1 ho).1 (fun e => ?_)).trans ho
  rcases e with rfl | e
  · omega
  · obtain ⟨zs, hz⟩ := ownS_type h.own e
    unfold Blk at hz
    rw [hz] at ho
    injection ho with ho
    subst ho
    cases hc
set_option maxRecDepth 100000 in
set_option maxHeartbeats 4000000 in
theorem pushS_any (v : Value) (L : List Int) (B : Nat) (n el : Int) (ps : List Pt) (va : Option Addr) (vc : Nat) (xk xn xd : Int) (w : World) (h0 : 0 < ps.length) (hps : ps.length ≤ 64) (hL : L.length ≤ 10000000) (hB : B ≤ w.heap.size) (ho : Hid (IOwn w B v L)) (hr : Hid (PRow w va ps)) (hlow : ∀ y, va = some y → y.block < B) :
    Calls Tryd.prog 32 #[v, .agg #[.int .i64 8, .int .i64 n, .int .i64 el, .slice va ps.length vc], .agg #[.int .i64 xk, .int .u64 xn, .int .i64 xd]] w fun e w' => ∃ v', e = .returned v' ∧ Hid (PsTo w B v (L ++ (ps.map (·.ty)).reverse) w' v') := by
  obtain ⟨a0, c0, rfl⟩ := ho.out.slice
  obtain ⟨w1, hw1⟩ : ∃ wx, wx = w.alloc (.cells #[.slice a0 L.length c0] 26) := ⟨_, rfl⟩
  obtain ⟨w2, hw2⟩ : ∃ wx, wx = w1.alloc (.cells #[.int .i64 8, .int .i64 n, .int .i64 el, .slice va ps.length vc] 64) := ⟨_, rfl⟩
  obtain ⟨w3, hw3⟩ : ∃ wx, wx = w2.alloc (.cells #[.int .i64 xk, .int .u64 xn, .int .i64 xd] 49) := ⟨_, rfl⟩
  obtain ⟨hP, -, hB3, hz3⟩ := pks_start ho.out 8 n el (.slice va ps.length vc) xk xn xd hw1 hw2 hw3
  obtain ⟨b, off, rfl, hb, hcl⟩ := (hr.out.later hB3).open h0
  have hbB : b < B := hlow _ rfl
  have HP := hide_ hP
  have HC := hide_ hcl
  have HZ := hide_ hz3
  clear hP hB3 hcl hz3
  refine (callsIn_wide (n := 6)).1 ?_
  refine callsIn_of_wp_marks Tryd.func32 rfl trivial ?_ rfl
  simp only [Tryd.ntmps32, List.size_toArray, List.length_cons, List.length_nil, Nat.reduceAdd, Nat.reduceSub, Array.replicate_succ, Array.replicate_zero, List.push_toArray, List.append_toArray, List.nil_append, List.cons_append]
  gi_wp2_with (refine ⟨trivial, ?_⟩; gi_at_call 47; rw [← hw1, ← hw2, ← hw3]; clear hw1 hw2 hw3; refine (callsIn_wide.2 (back_any _ _ _ _)).mono ?_; rintro e w4 ⟨rfl, rfl⟩)
  obtain ⟨W0, hW0⟩ : ∃ W0, w3.alloc (.cells #[.slice (some ⟨b, off, none⟩) ps.length vc] 62) = W0 := ⟨_, rfl⟩
  have hB0 : Below w3.heap.size w3 W0 := by rw [← hW0]; exact below1 _ _
  have hK0 : Blk W0 w3.heap.size 62 [.slice (some ⟨b, off, none⟩) ps.length vc] := by rw [← hW0]; exact Blk.newA w3 _ _
  have hZ0 : W0.heap.size = w.heap.size + 4 := by rw [← hW0]; simp [HZ.out]
  have hP0 := HP.out.later hB0
  have hC0 : ∀ (i : Nat) (x : Pt), ps[i]? = some x → ∀ j, j < 3 → W0.cell? ⟨b, off + i * 3 + j, none⟩ = (ptc x)[j]? := fun i x hx j hj => (hB0.cell (p := ⟨b, off + i * 3 + j, none⟩) hb).trans (HC.out i x hx j hj)
  rw [hW0]
  have hz1 : w.heap.size + 3 ≤ w3.heap.size := by have := HZ.out; omega
  have hz2 : w3.heap.size < W0.heap.size := by have := HZ.out; omega
  have hz3 : w.heap.size + 4 ≤ W0.heap.size := by omega
  clear hW0 HZ hZ0
  generalize w3.heap.size = q3 at *
  refine wpIn_rangeFunc_ownH rfl (by decide) (gf := 62) (lb := #[.pointer (some ⟨q3, 0, none⟩)]) rfl trivial (enters_of Tryd.func62 (by kernel_rfl) rfl)
    (back_stops 5 (by decide) q3 B b off vc ps (by omega) hbB W0 (by omega) hK0 hC0) KpB.t (KpB.b (by omega) (by omega)) (Below.refl _ _) (fun _ => rfl)
    (fun pre W => (∃ v', PkS w W w.heap.size B (.slice a0 L.length c0) [.int .i64 8, .int .i64 n, .int .i64 el, .slice (some ⟨b, off, none⟩) ps.length vc] (L ++ tyF ps pre) v') ∧ Blk W q3 62 [.slice (some ⟨b, off, none⟩) ps.length vc] ∧ W0.heap.size ≤ W.heap.size)
    (fun _ _ _ => False)
    (OwnFrom.and (pks_own _ _ _ _ (fun pre => L ++ tyF ps pre) (by omega)) (OwnFrom.and (Own.from (blk_own _ _ (fun _ => [.slice (some ⟨b, off, none⟩) ps.length vc])) _) (fun _ _ _ _ hs hg _ => Nat.le_trans hs hg.size)))
    (fun _ _ _ _ _ hs _ _ => hs)
    ⟨⟨_, by simpa [tyF] using hP0⟩, hK0, Nat.le_refl _⟩
    (fun x a' W => ∃ Bx, w.heap.size + 3 < Bx ∧ Blk W Bx 67 (ptc (ps.getD x.val pt0)) ∧ a' = { tmps := #[.slice a0 L.length c0, .agg #[.int .i64 8, .int .i64 n, .int .i64 el, .slice (some ⟨b, off, none⟩) ps.length vc], .agg #[.int .i64 xk, .int .u64 xn, .int .i64 xd], .pointer (some ⟨w.heap.size, 0, none⟩), .pointer (some ⟨w.heap.size + 1, 0, none⟩), .pointer (some ⟨w.heap.size + 1 + 1, 0, none⟩), .slice none 0 0, undef, .pointer (some ⟨Bx, 0, none⟩), .pointer (some ⟨w.heap.size + 1, 0, none⟩), .int .i64 8, .bool false, .bool false, undef, undef, undef, undef, undef, undef, undef, undef, undef, undef, undef, undef, .bool true, .bool true, .pointer (some ⟨w.heap.size + 1, 3, none⟩), .slice (some ⟨b, off, none⟩) ps.length vc, .func (.func 62) #[] #[.pointer (some ⟨q3, 0, none⟩)], .int .i64 (x.val : Int), ptv (ps.getD x.val pt0), undef, undef, undef, undef, undef, undef, undef, undef, undef, undef, undef, undef, undef, undef, undef, undef, undef], defers := [] })
    (fun x a' _ X Y row hs hg hr => by obtain ⟨Bx, h1, h2, h3⟩ := hs; exact ⟨Bx, h1, blk_own Bx 67 (fun (_ : Unit) => ptc (ps.getD x.val pt0)) () X Y row h2 hg (fun r e => (hr r e).2), h3⟩)
    ?assign ?body ?done ?stop
  case assign =>
    rintro l pre x W K ⟨⟨v1, hD1⟩, hS1, hZ1⟩ hK
    simp only [encP, ptv] at hK ⊢
    generalize ps.getD x.val pt0 = y at *
    gi_wp2
    have hBa := below1 W (.cells #[.string y.label, .int .i64 y.tag, .int .i64 y.ty] 67)
    exact hK _ _ ((KeepsOthers.alloc _ _).from _) ⟨(Below.refl _ W).alloc (by omega) _, fun hb => Below.heap_alloc W _ _ hb⟩ ⟨⟨v1, hD1.later hBa⟩, hS1.later hBa, by simp; omega⟩ ⟨W.heap.size, by omega, Blk.newA W #[.string y.label, .int .i64 y.tag, .int .i64 y.ty] 67, rfl⟩
  case body =>
    rintro l pre x a' W hl ⟨r, hr2⟩ ⟨⟨v1, hD1⟩, hS1, hZ1⟩ ⟨Bx, hBx, bX, rfl⟩ hlt
    obtain ⟨g, cap, w8, hrun, hbx8, hS8, hu8, -⟩ := hD1.push (ps.getD x.val pt0).ty (by simp [tyF]; omega) hB (Nat.le_refl _)
    have HE : Hid (L ++ tyF ps (pre ++ [x]) = L ++ tyF ps pre ++ [(ps.getD x.val pt0).ty]) := hide_ (by simp [tyF])
    have HRd := hide_ (pks_round hD1 hu8 (B0 := W0.heap.size) (by omega) hB hS1)
    have HU8 := hide_ hu8
    have hz8 := hu8.size
    have HZ8 : Hid (W0.heap.size ≤ (w8.setCell ⟨w.heap.size, 0, none⟩ (.slice (some ⟨g, 0, none⟩) ((L ++ tyF ps pre).length + 1) cap)).heap.size) := hide_ (by omega)
    obtain ⟨av, cv, hav⟩ := hD1.own.slice
    obtain ⟨M, hM⟩ : ∃ M, L ++ tyF ps pre = M := ⟨_, rfl⟩
    have s0 := hD1.box.cell 0
    have e2 := bX.cell 2
    have s8 := hbx8.cell 0
    have z8 := hbx8.frozen 0
    simp only [List.getElem?_cons_zero, ptc, List.getElem?_cons_succ] at s0 e2 s8
    rw [hM] at HE hrun hS8 HRd HZ8 hav
    have HR := hide_ hrun
    have HS8 := hide_ hS8
    subst hav
    clear hrun hS8 hu8 hz8 hbx8 hD1 hM hr2 hK0 hC0 hP0 HC HP hS1 bX hr ho
    simp only [ptv]
    generalize ps.getD x.val pt0 = y at *
    gi_wp2_with (gi_at_builtin; refine wpListIn_append_run rfl (.tmp 32) (.tmp 35) 26 26 rfl rfl rfl HR.out ?_)
    exact ⟨HRd.out.1, HRd.out.2.1, ⟨_, by rw [HE.out]; exact HS8.out⟩, HRd.out.2.2, HZ8.out⟩
  case done =>
    rintro D ys W hD rfl ⟨⟨v1, hD1⟩, hS1, hZ1⟩ hK
    have s0 := hD1.box.cell 0
    simp only [List.getElem?_cons_zero] at s0
    gi_wp2
    refine ⟨by simp, .inl ⟨_, _, rfl, run_takeDeferred hK, ?_⟩⟩
    refine ⟨_, results_tmp rfl _ _ _, _, rfl, hide_ ?_⟩
    have hF := (hD1.grown (B0 := w.heap.size) (Nat.le_refl _) (grownBy_putObj' W D (.deferred none)) (fun r e => by cases e; exact ⟨by omega, _, hK, rfl⟩)).to
    rw [tyF_all] at hF
    exact hF
  case stop =>
    rintro D c pre W hD _ h _
    exact h.elim
end Go.Proofs.YtlfjcihhcphjkaaDoor
