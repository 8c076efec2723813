/- depthOf: a range over slices.Backward. -/
import Derived.Test.YtjeafblkmipdmaaYj
import Derived.Test.YtjeafblkmipdmaaYz
import Derived.RangeFuncNested
import Derived.RangeFuncBound
import Derived.RangeFuncCalls
import Derived.RangeFuncLeaves
import Derived.Shelf.Abstract
import Derived.Shelf.RegionOpen
import Derived.OwnWalkIn
import Derived.TacticsInMore
import Derived.LoopNIn
import Derived.LoopIn
namespace Go.Proofs.Ytjeafblkmipdmaa
open Go.RowKit Go.Shelf
set_option linter.unusedVariables false

attribute [local go_sem] Oper.semAt_some

/-- The numbers from n - 1 down, k of them. -/
theorem maxIfY (a b : Int) : max a b = if a < b then b else a := by
  by_cases h : a < b
  · rw [if_pos h]; omega
  · rw [if_neg h]; omega
def dn (n : Nat) : (k : Nat) → k ≤ n → List (Fin n)
  | 0, _ => []
  | k + 1, h => dn n k (by omega) ++ [⟨n - 1 - k, by omega⟩]
theorem dn_len (n : Nat) : ∀ (k : Nat) (h : k ≤ n), (dn n k h).length = k
  | 0, _ => rfl
  | k + 1, h => by rw [dn, List.length_append, dn_len n k]; rfl
def encN (N : List Nd) (i : Fin N.length) : Array Value := #[.int .i64 (i.val : Int), ndv (N.getD i.val nd0)]
/-- What a round keeps: what lies below n, and block b. -/
def KpB (n b : Nat) (W W' : World) : Prop := Below n W W' ∧ (b < W.heap.size → W'.heap[b]? = W.heap[b]?)
theorem KpB.t {n b : Nat} {A B C : World} (h : KpB n b A B) (k : KpB n b B C) : KpB n b A C :=
  ⟨h.1.trans k.1, fun hb => (k.2 (Nat.lt_of_lt_of_le hb h.1.size)).trans (h.2 hb)⟩
theorem KpB.b {n b : Nat} {w : World} (hn : n ≤ w.heap.size) (hb : b < w.heap.size) (W : World) (l : Nat) (o o' : Obj) (hl : w.heap.size ≤ l) (h : W.heap[l]? = some o) (h1 : o.isCells = false) (h2 : o.isWalk = false) : KpB n b W (W.putObj l o') :=
  ⟨belowK_b hn W l o o' hl h h1 h2, fun _ => World.putObj_heap_other (by omega)⟩
set_option maxRecDepth 100000 in
set_option maxHeartbeats 4000000 in
theorem back1_in (n : Nat) (hn : 1 ≤ n) (l Bs n0 b off cap : Nat) (N : List Nd) (hN : N.length ≤ 1954687338267) (hb : b < n0) (J Jx : List (Fin N.length) → World → Prop)
    (hY : ∀ pre x W, J pre W → pre.length < N.length → YieldAt Fence.wide (n - 1) Try.prog l (encN N x) W fun e W' =>
      (e = .returned (.bool true) ∧ J (pre ++ [x]) W' ∧ KpB n0 Bs W W') ∨ (e = .returned (.bool false) ∧ Jx (pre ++ [x]) W'))
    (W : World) (hBs : Blk W Bs 39 [.slice (some ⟨b, off, none⟩) N.length cap]) (hc : ∀ (i : Nat) (x : Nd), N[i]? = some x → ∀ j, j < 7 → W.cell? ⟨b, off + i * 7 + j, none⟩ = (ndc x)[j]?) (h0 : J [] W) :
    CallsIn Fence.wide n Try.prog 43 #[.func (.yield l) #[] #[], .pointer (some ⟨Bs, 0, none⟩)] W fun e W' => (∃ v, e = .returned v) ∧
      ((∃ ys, ys = dn N.length N.length (Nat.le_refl _) ∧ J ys W') ∨ (∃ pre, True ∧ Jx pre W')) := by
  have s0 := hBs.cell 0
  simp at s0
  refine callsIn_of_wp Try.func43 rfl trivial ?_ rfl
  simp only [Try.ntmps43, List.size_toArray, List.length_cons, List.length_nil, Nat.reduceAdd, Nat.reduceSub, Array.replicate_succ, Array.replicate_zero, List.push_toArray, List.append_toArray, List.nil_append, List.cons_append]
  gi_wp2
  clear s0
  gi_loopw [3] (fun i wr => ∃ (k : Nat) (hk : k ≤ N.length), i = .int .i64 ((N.length : Int) - 1 - (k : Int)) ∧ J (dn N.length k hk) wr ∧ Hid (KpB n0 Bs W wr) ∧ Hid (W.heap.size ≤ wr.heap.size))
    (fun i _ => (intOf i + 1).toNat)
  case atStart => exact ⟨0, Nat.zero_le _, by simp, h0, hide_ ⟨Below.refl _ _, fun _ => rfl⟩, hide_ (Nat.le_refl _)⟩
  case round =>
    obtain ⟨k, hk, rfl, hJs, HK, HZ⟩ := hrel
    have hkb : Blk wr Bs 39 [.slice (some ⟨b, off, none⟩) N.length cap] := hBs.of_eq (HK.out.2 hBs.lt)
    have s0 := hkb.cell 0
    simp at s0
    by_cases hlt : k < N.length
    · have hm : N.length - 1 - k < N.length := by omega
      have hx : N[N.length - 1 - k]? = some (N[N.length - 1 - k]'hm) := List.getElem?_eq_getElem hm
      have hxe : N.getD (N.length - 1 - k) nd0 = N[N.length - 1 - k]'hm := by simp [List.getD, hm]
      obtain ⟨fn, tmps, assign, body, hy, hR⟩ := hY _ ⟨N.length - 1 - k, hm⟩ wr hJs (by rw [dn_len]; exact hlt)
      unfold encN at hy
      dsimp only at hy
      rw [hxe] at hy
      unfold ndv at hy
      have hcx : ∀ j, j < 7 → wr.cell? ⟨b, off + (N.length - 1 - k) * 7 + j, none⟩ = (ndc (N[N.length - 1 - k]'hm))[j]? := fun j hj => (HK.out.1.cell (p := ⟨b, off + (N.length - 1 - k) * 7 + j, none⟩) hb).trans (hc _ _ hx j hj)
      generalize N[N.length - 1 - k]'hm = x at *
      have i0 := hcx 0 (by decide); have i1 := hcx 1 (by decide); have i2 := hcx 2 (by decide); have i3 := hcx 3 (by decide); have i4 := hcx 4 (by decide); have i5 := hcx 5 (by decide); have i6 := hcx 6 (by decide)
      simp [ndc] at i0 i1 i2 i3 i4 i5 i6
      obtain ⟨m, hmm⟩ : ∃ m : Nat, N.length - 1 - k = m := ⟨_, rfl⟩
      have hmi : (N.length : Int) - 1 - (k : Int) = (m : Int) := by omega
      have hdn : dn N.length (k + 1) hlt = dn N.length k hk ++ [⟨N.length - 1 - k, hm⟩] := rfl
      have HD := hide_ hdn
      clear hdn hcx hx hxe
      rw [hmi]
      rw [hmm] at hy i0 i1 i2 i3 i4 i5 i6
      have hml : (m : Int) < N.length := by omega
      gi_wp2
      refine hR.mono ?_
      rintro e W3 (⟨rfl, hJ3, hk3⟩ | ⟨rfl, hJx3⟩)
      · gi_wp2
        go_roundw
        case rel => exact ⟨k + 1, hlt, by congr 1 <;> omega, by rw [HD.out]; exact hJ3, hide_ (HK.out.t hk3), hide_ (Nat.le_trans HZ.out hk3.1.size)⟩
        case measure => simp [intOf] <;> omega
      · gi_wp2
        refine bodyPost_ret (results_none rfl _ _ _) rfl ?_
        exact ⟨⟨_, rfl⟩, .inr ⟨_, trivial, hJx3⟩⟩
    · obtain rfl : k = N.length := by omega
      have hmi : (N.length : Int) - 1 - (N.length : Int) = -1 := by omega
      rw [hmi]
      gi_wp2
      go_end0
      exact ⟨⟨_, rfl⟩, .inl ⟨_, rfl, hJs⟩⟩
set_option maxRecDepth 100000 in
set_option maxHeartbeats 4000000 in
theorem back_any (va : Option Addr) (n cap : Nat) (w : World) :
    Calls Try.prog 38 #[.slice va n cap] w fun e w' => e = .returned (.func (.func 43) #[] #[.pointer (some ⟨w.heap.size, 0, none⟩)]) ∧ w' = w.alloc (.cells #[.slice va n cap] 39) := by
  have hmf : ∀ (fn : Fn) (first cap : Array Value) (w : World), (Instr.makeFunc fn first cap).run Try.prog w = .ok (.func fn first cap) w := fun _ _ _ _ => rfl
  go_enter Try.func38, Try.ntmps38
  go_wp2
  go_ret
  exact ⟨rfl, rfl⟩
theorem back_stops (n : Nat) (hn : 1 ≤ n) (Bs n0 b off cap : Nat) (N : List Nd) (hN : N.length ≤ 1954687338267) (hb : b < n0) (w : World) (hn0 : n0 ≤ w.heap.size) (hBs : Blk w Bs 39 [.slice (some ⟨b, off, none⟩) N.length cap]) (hc : ∀ (i : Nat) (x : Nd), N[i]? = some x → ∀ j, j < 7 → w.cell? ⟨b, off + i * 7 + j, none⟩ = (ndc x)[j]?) :
    SeqStopsK Fence.wide n Try.prog 43 #[.pointer (some ⟨Bs, 0, none⟩)] (encN N) (KpB n0 Bs) (fun ys => ys = dn N.length N.length (Nat.le_refl _)) (fun _ => True) N.length w := fun l J Jx W hW _ _ hY h0 =>
  back1_in n hn l Bs n0 b off cap N hN hb J Jx hY W (hBs.later hW) (fun i x hx j hj => (hW.cell (p := ⟨b, off + i * 7 + j, none⟩) (by show b < w.heap.size; omega)).trans (hc i x hx j hj)) h0
/-- What the closure named has caught: the definitions' depths, the map of names. -/
def NmOk (w : World) (bd bm gd bn n : Nat) (ds : List Int) (D : List Df) : Prop :=
  Blk w bd 32 [.slice (some ⟨gd, 0, none⟩) n n] ∧ Blk w gd 3 (cellsL .i64 ds) ∧ Blk w bm 58 [.map (some bn)] ∧ MpS w bn 256 (numN D) ∧ ds.length = n ∧ D.length = n
theorem NmOk.later {w w' : World} {bd bm gd bn n : Nat} {ds : List Int} {D : List Df} (h : NmOk w bd bm gd bn n ds D) (hB : Below w.heap.size w w') : NmOk w' bd bm gd bn n ds D :=
  ⟨h.1.later hB, h.2.1.later hB, h.2.2.1.later hB, h.2.2.2.1.later hB, h.2.2.2.2⟩
set_option maxRecDepth 100000 in
set_option maxHeartbeats 4000000 in
theorem named_any (bd bm gd bn n : Nat) (ds : List Int) (D : List Df) (s : ByteArray) (w : World) (hs : s.size ≤ 32) (h0 : 0 < n) (hn : n ≤ 256) (h : Hid (NmOk w bd bm gd bn n ds D)) :
    Calls Try.prog 30 #[.string s, .pointer (some ⟨bd, 0, none⟩), .pointer (some ⟨bm, 0, none⟩)] w fun e w' => e = .returned (.int .i64 (depF D ds s)) ∧ w = w' := by
  obtain ⟨h1, h2, h3, h4, h5, h6⟩ := h.out
  have hz : numZ D s < n := by rw [← h6]; exact numZ_lt _ (by omega)
  have hlk := h4.look s (by unfold maxLen; exact Nat.le_trans hs (by decide))
  have hnd : ((numN D s).getD 0 : Nat) = numZ D s := rfl
  rw [hnd] at hlk
  have c0 := h1.cell 0
  have c1 := h3.cell 0
  have c2 := (h2.cell (numZ D s)).trans (cellsL_at .i64 ds (numZ D s) (by omega))
  simp only [List.getElem?_cons_zero] at c0 c1
  have HV : Hid (depF D ds s = ds.getD (numZ D s) 0) := hide_ rfl
  have hz' : (numZ D s : Int) < n := by omega
  clear h1 h2 h3 h4 hnd
  rw [HV.out]
  generalize ds.getD (numZ D s) 0 = v at *
  generalize numZ D s = m at *
  go_enter Try.func30, Try.ntmps30
  go_wp2
  go_ret
  exact ⟨rfl, rfl⟩
theorem blk_own {β : Type} (g : Nat) (t : TypeId) (f : β → List Value) : Own (fun s W => Blk W g t (f s)) := fun s X Y row hs hg hrow =>
  hs.of_eq (hg.block g hs.lt (fun e => by
    obtain ⟨o, h1, h2⟩ := hrow g e.symm
    unfold Blk at hs
    rw [hs] at h1
    simp only [Option.some.injEq] at h1
    subst h1
    cases h2))
def hgF (f : ByteArray → Int) (N : List Nd) (P : List Int) (pre : List (Fin N.length)) : List Int := pre.foldl (fun ds i => hgS f (N.getD i.val nd0) (P.getD i.val 0) i.val ds) (List.replicate N.length 0)
theorem hgF_snoc (f : ByteArray → Int) (N : List Nd) (P : List Int) (pre : List (Fin N.length)) (i : Fin N.length) : hgF f N P (pre ++ [i]) = hgS f (N.getD i.val nd0) (P.getD i.val 0) i.val (hgF f N P pre) := by simp [hgF]
theorem hgF_len (f : ByteArray → Int) (N : List Nd) (P : List Int) (pre : List (Fin N.length)) : (hgF f N P pre).length = N.length := by
  have key : ∀ (pre : List (Fin N.length)) (ds : List Int), (pre.foldl (fun ds i => hgS f (N.getD i.val nd0) (P.getD i.val 0) i.val ds) ds).length = ds.length := by
    intro pre
    induction pre with
    | nil => intro ds; rfl
    | cons x l ih => intro ds; rw [List.foldl_cons, ih, hgS_len]
  unfold hgF
  rw [key]
  simp
theorem hgF_dn (f : ByteArray → Int) (N : List Nd) (P : List Int) : ∀ (k : Nat) (h : k ≤ N.length), hgL f N P N.length (List.replicate N.length 0) = hgL f N P (N.length - k) (hgF f N P (dn N.length k h))
  | 0, _ => rfl
  | k + 1, h => by
    rw [hgF_dn f N P k (by omega), dn, hgF_snoc, show N.length - k = (N.length - (k + 1)) + 1 by omega, hgL]
    have e : N.length - 1 - k = N.length - (k + 1) := by omega
    dsimp only
    rw [e]
theorem hgF_all (f : ByteArray → Int) (N : List Nd) (h0 : 0 < N.length) : (hgF f N (parP N) (dn N.length N.length (Nat.le_refl _))).getD 0 0 = hgt f N := by
  unfold hgt
  rw [hgF_dn f N (parP N) N.length (Nat.le_refl _), Nat.sub_self]
  rfl
/-- All of a list lies between 0 and a bound. -/
def InB (l : List Int) (M : Int) : Prop := ∀ i, 0 ≤ l.getD i 0 ∧ l.getD i 0 ≤ M
theorem InB.mono {l : List Int} {M M' : Int} (h : InB l M) (hm : M ≤ M') : InB l M' := fun i => ⟨(h i).1, Int.le_trans (h i).2 hm⟩
theorem InB.set {l : List Int} {M : Int} (h : InB l M) (i : Nat) (v : Int) (h0 : 0 ≤ v) (hv : v ≤ M) : InB (l.set i v) M := fun j => by
  by_cases e : i = j
  · subst e
    rcases Nat.lt_or_ge i l.length with hi | hi
    · rw [getD_set_eq _ _ _ hi]; exact ⟨h0, hv⟩
    · rw [List.set_eq_of_length_le hi]; exact h i
  · rw [getD_set_ne _ _ _ _ e]; exact h j
theorem hgS_in {f : ByteArray → Int} {x : Nd} {p : Int} {i : Nat} {ds : List Int} {M : Int} (h : InB ds M) (h1 : 1 ≤ M) (hf : x.k = 9 → 0 ≤ f x.name ∧ f x.name ≤ M) : (0 ≤ hgV f x i ds ∧ hgV f x i ds ≤ M) ∧ InB (hgS f x p i ds) (M + 1) := by
  have hv : 0 ≤ hgV f x i ds ∧ hgV f x i ds ≤ M := by
    unfold hgV
    by_cases h9 : x.k = 9
    · rw [if_pos h9]; have := hf h9; omega
    · rw [if_neg h9]; have := h i; omega
  refine ⟨hv, ?_⟩
  have hs : InB (ds.set i (hgV f x i ds)) M := h.set i _ hv.1 hv.2
  unfold hgS
  by_cases h0 : 0 ≤ p
  · rw [if_pos h0]
    refine InB.set (hs.mono (by omega)) _ _ ?_ ?_
    · have := hs p.toNat; unfold hgV at *; omega
    · have := hs p.toNat; unfold hgV at *; omega
  · rw [if_neg h0]
    exact hs.mono (by omega)
theorem hgF_in {f : ByteArray → Int} {N : List Nd} {P : List Int} {F : Int} (h0 : 0 ≤ F) (hf : ∀ s, 0 ≤ f s ∧ f s ≤ F) (pre : List (Fin N.length)) : InB (hgF f N P pre) (F + 1 + pre.length) := by
  have key : ∀ (pre : List (Fin N.length)) (ds : List Int) (M : Int), F + 1 ≤ M → InB ds M → InB (pre.foldl (fun ds i => hgS f (N.getD i.val nd0) (P.getD i.val 0) i.val ds) ds) (M + pre.length) := by
    intro pre
    induction pre with
    | nil => intro ds M _ h; simpa using h
    | cons x l ih =>
      intro ds M hM h
      rw [List.foldl_cons]
      have := ih _ (M + 1) (by omega) (hgS_in (f := f) (x := N.getD x.val nd0) (p := P.getD x.val 0) (i := x.val) h (by omega) (fun _ => by have := hf (N.getD x.val nd0).name; omega)).2
      refine this.mono ?_
      simp
      omega
  exact key pre _ (F + 1) (Int.le_refl _) (fun i => by rw [List.getD_eq_getElem?_getD, List.getElem?_replicate]; split <;> simp <;> omega)
/-- depthOf's own memory. -/
def DpI (W : World) (b3 q gp n : Nat) (fv : Value) (P l : List Int) : Prop :=
  Blk W b3 54 [fv] ∧ Blk W q 32 [.slice (some ⟨gp, 0, none⟩) n n] ∧ Blk W gp 3 (cellsL .i64 P) ∧ Blk W (q + 1) 3 (cellsL .i64 l) ∧ Blk W (q + 1 + 1) 32 [.slice (some ⟨q + 1, 0, none⟩) n n]
theorem dpi_own {β : Type} (b3 q gp n : Nat) (fv : Value) (P : List Int) (l : β → List Int) : Own (fun s W => DpI W b3 q gp n fv P (l s)) := fun s X Y row hs hg hr =>
  ⟨blk_own b3 _ (fun _ : β => [fv]) s X Y row hs.1 hg hr, blk_own q _ (fun _ : β => [.slice (some ⟨gp, 0, none⟩) n n]) s X Y row hs.2.1 hg hr, blk_own gp _ (fun _ : β => cellsL .i64 P) s X Y row hs.2.2.1 hg hr, blk_own (q + 1) _ (fun s : β => cellsL .i64 (l s)) s X Y row hs.2.2.2.1 hg hr, blk_own (q + 1 + 1) _ (fun _ : β => [.slice (some ⟨q + 1, 0, none⟩) n n]) s X Y row hs.2.2.2.2 hg hr⟩
theorem DpI.later {W W' : World} {b3 q gp n : Nat} {fv : Value} {P l : List Int} (h : DpI W b3 q gp n fv P l) (hB : Below W.heap.size W W') : DpI W' b3 q gp n fv P l :=
  ⟨h.1.later hB, h.2.1.later hB, h.2.2.1.later hB, h.2.2.2.1.later hB, h.2.2.2.2.later hB⟩
theorem DpI.set {W : World} {b3 q gp n : Nat} {fv : Value} {P l : List Int} (h : DpI W b3 q gp n fv P l) (i : Nat) (v : Int) (hg : gp ≠ q + 1) : DpI (W.setCell ⟨q + 1, i, none⟩ (.int .i64 v)) b3 q gp n fv P (l.set i v) := by
  obtain ⟨h1, h2, h3, h4, h5⟩ := h
  have hne : b3 ≠ q + 1 := fun e => absurd (blk_type h1 (e ▸ h4)) (by decide)
  exact ⟨h1.other _ _ hne, h2.other _ _ (by show q ≠ q + 1; omega), h3.other _ _ hg, by rw [← cellsL_set]; exact h4.set i _, h5.other _ _ (by show q + 1 + 1 ≠ q + 1; omega)⟩
theorem round_end {B n b0 g : Nat} {W W' : World} (hu : Upd (fun k => k = g) W W') (h1 : n ≤ g) (h2 : g < B) (h3 : b0 ≠ g) (hn : n ≤ W.heap.size) : KeepsFrom B W W' ∧ KpB n b0 W W' ∧ Below n W W' := by
  have hB : Below n W W' := hu.below n hn (fun k hk => by omega)
  exact ⟨⟨hu.size, fun k o hk ho _ => (hu.block k (Array.getElem?_eq_some_iff.1 ho).1 (by omega)).trans ho⟩, ⟨hB, fun hb => hu.block b0 hb h3⟩, hB⟩
theorem max_if (a b : Int) : (if a < b then b else a) = max a b := by omega
set_option maxRecDepth 100000 in
set_option maxHeartbeats 8000000 in
theorem depthOf_any (va : Option Addr) (vc : Nat) (N : List Nd) (bd bm gd bn n : Nat) (ds : List Int) (D : List Df) (F : Int) (w : World) (hN : N.length ≤ 1954687338267) (h0n : 0 < n) (hn : n ≤ 256) (hF : 0 ≤ F ∧ F ≤ 1000000000000000) (hr : Hid (NRow w va N)) (hc : Hid (ctN N 1)) (hx : Hid (∀ x ∈ N, NodeOk1 x)) (hnm : Hid (NmOk w bd bm gd bn n ds D)) (hds : Hid (InB ds F)) :
    Calls Try.prog 29 #[.slice va N.length vc, .func (.func 30) #[] #[.pointer (some ⟨bd, 0, none⟩), .pointer (some ⟨bm, 0, none⟩)]] w fun e w' => e = .returned (.int .i64 (hgt (depF D ds) N)) ∧ Hid (0 ≤ hgt (depF D ds) N ∧ hgt (depF D ds) N ≤ F + 1954687338269) ∧ Hid (Below w.heap.size w w') := by
  have hmk := run_make_row' (P := Try.prog) 32 3 (.int .i64 0) 8 Try.underlying32 (by kernel_rfl) rfl .i64 .i64 N.length (by omega) (by omega)
  obtain ⟨P, hP⟩ : ∃ P, parP N = P := ⟨_, rfl⟩
  have HPo : Hid (ParOk N P) := hide_ (by rw [← hP]; exact parP_ok hc.out)
  have h0N : 0 < N.length := ctN_le N 1 hc.out
  obtain ⟨b, off, rfl, hb, hcl⟩ := hr.out.open h0N
  have HCL := hide_ hcl
  have HCp := parents_any (some ⟨b, off, none⟩) vc N
  rw [hP] at HCp
  have HCp := hide_ HCp
  have HGA := hgF_all (depF D ds) N h0N
  rw [hP] at HGA
  have HGA := hide_ HGA
  obtain ⟨f, hf⟩ : ∃ f, depF D ds = f := ⟨_, rfl⟩
  have HFB : Hid (∀ s, 0 ≤ f s ∧ f s ≤ F) := hide_ (fun s => by rw [← hf]; exact hds.out _)
  have HNm : Hid (∀ (s : ByteArray) (w' : World), s.size ≤ 32 → Below w.heap.size w w' → Calls Try.prog 30 #[.string s, .pointer (some ⟨bd, 0, none⟩), .pointer (some ⟨bm, 0, none⟩)] w' fun e w'' => e = .returned (.int .i64 (f s)) ∧ w' = w'') := hide_ (fun s w' hs hB => by
    rw [← hf]
    exact named_any bd bm gd bn n ds D s w' hs h0n hn (hide_ (hnm.out.later hB)))
  rw [hf] at HGA ⊢
  clear hf hP hcl hds
  obtain ⟨w1, hw1⟩ : ∃ w1, w1 = w.alloc (.cells #[.func (.func 30) #[] #[.pointer (some ⟨bd, 0, none⟩), .pointer (some ⟨bm, 0, none⟩)]] 54) := ⟨_, rfl⟩
  have HB1 : Hid (Below w.heap.size w w1) := by rw [hw1]; exact (Below.refl _ _).alloc (Nat.le_refl _) _
  have HK1 : Hid (Blk w1 w.heap.size 54 [.func (.func 30) #[] #[.pointer (some ⟨bd, 0, none⟩), .pointer (some ⟨bm, 0, none⟩)]]) := by rw [hw1]; exact Blk.newA w #[.func (.func 30) #[] #[.pointer (some ⟨bd, 0, none⟩), .pointer (some ⟨bm, 0, none⟩)]] 54
  have HN1 := hide_ (hr.out.later HB1.out)
  have hs1 : w1.heap.size = w.heap.size + 1 := by rw [hw1]; simp
  have HS1 := hide_ hs1
  clear hs1
  refine (callsIn_wide (n := 6)).1 ?_
  refine callsIn_of_wp_marks Try.func29 rfl trivial ?_ rfl
  simp only [Try.ntmps29, List.size_toArray, List.length_cons, List.length_nil, Nat.reduceAdd, Nat.reduceSub, Array.replicate_succ, Array.replicate_zero, List.push_toArray, List.append_toArray, List.nil_append, List.cons_append]
  gi_wp2_with (first
    | (refine ⟨trivial, ?_⟩; gi_at_call 36; rw [← hw1]; clear hw1; refine (callsIn_wide.2 (HCp.out w1 hN HN1 hc)).mono ?_; rintro e w2 ⟨gp, rfl, hgp, HKp, HB2⟩)
    | (refine ⟨trivial, ?_⟩; gi_at_call 38; refine (callsIn_wide.2 (back_any _ _ _ _)).mono ?_; rintro e w3 ⟨rfl, rfl⟩))
  have HBq : Hid (Below w.heap.size w w2) := hide_ (below_to HB1.out HB2.out)
  have hwq : w.heap.size < w2.heap.size := by have h1 := HB2.out.size; have h2 := HS1.out; omega
  have hgq : gp < w2.heap.size := HKp.out.lt
  obtain ⟨q, hq⟩ : ∃ q, w2.heap.size = q := ⟨_, rfl⟩
  have hgw : w.heap.size ≤ gp := by have h2 := HS1.out; omega
  obtain ⟨W0, hW0⟩ : ∃ W0, ((((w2.alloc (.cells #[.slice (some ⟨gp, 0, none⟩) N.length N.length] 32)).alloc (.cells (madeCells #[.int .i64 0] N.length) 3)).alloc (.cells #[.slice (some ⟨w2.heap.size + 1, 0, none⟩) N.length N.length] 32)).alloc (.cells #[.slice (some ⟨b, off, none⟩) N.length vc] 39)) = W0 := ⟨_, rfl⟩
  have hsz : W0.heap.size = q + 4 := by rw [← hW0, ← hq]; simp
  have hB0 : Below w2.heap.size w2 W0 := by rw [← hW0]; exact ((((Below.refl _ _).alloc (Nat.le_refl _) _).alloc (by simp) _).alloc (by simp; omega) _).alloc (by simp; omega) _
  have HBW : Hid (Below w.heap.size w W0) := hide_ (below_to HBq.out hB0)
  have HD0 : Hid (DpI W0 w.heap.size q gp N.length (.func (.func 30) #[] #[.pointer (some ⟨bd, 0, none⟩), .pointer (some ⟨bm, 0, none⟩)]) P (hgF f N P [])) := hide_ (by
    refine ⟨(HK1.out.later HB2.out).later hB0, ?_, HKp.out.later hB0, ?_, ?_⟩
    · have h := (((Blk.newA w2 #[.slice (some ⟨gp, 0, none⟩) N.length N.length] 32).alloc (.cells (madeCells #[.int .i64 0] N.length) 3)).alloc (.cells #[.slice (some ⟨w2.heap.size + 1, 0, none⟩) N.length N.length] 32)).alloc (.cells #[.slice (some ⟨b, off, none⟩) N.length vc] 39)
      rw [hW0, hq] at h
      exact h
    · have h := ((Blk.newA (w2.alloc (.cells #[.slice (some ⟨gp, 0, none⟩) N.length N.length] 32)) (madeCells #[.int .i64 0] N.length) 3).alloc (.cells #[.slice (some ⟨w2.heap.size + 1, 0, none⟩) N.length N.length] 32)).alloc (.cells #[.slice (some ⟨b, off, none⟩) N.length vc] 39)
      rw [hW0, toList_madeCells_one, World.size_alloc, hq] at h
      have e : hgF f N P [] = List.replicate N.length 0 := rfl
      rw [e, cellsL, List.map_replicate]
      exact h
    · have h := (Blk.newA ((w2.alloc (.cells #[.slice (some ⟨gp, 0, none⟩) N.length N.length] 32)).alloc (.cells (madeCells #[.int .i64 0] N.length) 3)) #[.slice (some ⟨w2.heap.size + 1, 0, none⟩) N.length N.length] 32).alloc (.cells #[.slice (some ⟨b, off, none⟩) N.length vc] 39)
      rw [hW0, World.size_alloc, World.size_alloc, hq] at h
      exact h)
  have hkB : Blk W0 (q + 1 + 1 + 1) 39 [.slice (some ⟨b, off, none⟩) N.length vc] := by
    have h := Blk.newA (((w2.alloc (.cells #[.slice (some ⟨gp, 0, none⟩) N.length N.length] 32)).alloc (.cells (madeCells #[.int .i64 0] N.length) 3)).alloc (.cells #[.slice (some ⟨w2.heap.size + 1, 0, none⟩) N.length N.length] 32)) #[.slice (some ⟨b, off, none⟩) N.length vc] 39
    rw [hW0, World.size_alloc, World.size_alloc, World.size_alloc, hq] at h
    exact h
  rw [hW0, hq]
  rw [hq] at hwq hgq
  clear hW0 hq hB0 HKp HK1 HB2 HB1 HS1 HBq HN1 HCp hmk hgp
  have hgne : gp ≠ q + 1 := by omega
  refine wpIn_rangeFunc_ownH rfl (by decide) (gf := 43) (lb := #[.pointer (some ⟨q + 1 + 1 + 1, 0, none⟩)]) rfl trivial (enters_of Try.func43 (by kernel_rfl) rfl)
    (back_stops 5 (by decide) (q + 1 + 1 + 1) w.heap.size b off vc N hN hb W0 (by omega) hkB (fun i x hx j hj => (HBW.out.cell (p := ⟨b, off + i * 7 + j, none⟩) hb).trans (HCL.out i x hx j hj))) KpB.t (KpB.b (by omega) (by omega)) (Below.refl _ _) (fun _ => rfl)
    (fun pre W => DpI W w.heap.size q gp N.length (.func (.func 30) #[] #[.pointer (some ⟨bd, 0, none⟩), .pointer (some ⟨bm, 0, none⟩)]) P (hgF f N P pre) ∧ Below w.heap.size w W ∧ W0.heap.size ≤ W.heap.size)
    (fun _ _ _ => False)
    (OwnFrom.and (Own.from (dpi_own _ _ _ _ _ _ _) _) (OwnFrom.and (ownFrom_below (Nat.le_refl _) (by omega)) (fun _ _ _ _ hs hg _ => Nat.le_trans hs hg.size)))
    (fun _ _ _ _ _ hs _ _ => hs)
    ⟨HD0.out, HBW.out, Nat.le_refl _⟩
    (fun x a' W => ∃ Bx, q + 1 + 1 + 1 < Bx ∧ Blk W Bx 38 (ndc (N.getD x.val nd0)) ∧ a' = { tmps := #[.slice (some ⟨b, off, none⟩) N.length vc, .func (.func 30) #[] #[.pointer (some ⟨bd, 0, none⟩), .pointer (some ⟨bm, 0, none⟩)], undef, .pointer (some ⟨w.heap.size, 0, none⟩), .int .i64 0, .pointer (some ⟨q, 0, none⟩), .pointer (some ⟨q + 1 + 1, 0, none⟩), .int .i64 (x.val : Int), .pointer (some ⟨Bx, 0, none⟩), undef, .slice (some ⟨b, off, none⟩) N.length vc, .slice (some ⟨gp, 0, none⟩) N.length N.length, .slice (some ⟨b, off, none⟩) N.length vc, .int .i64 (N.length : Int), .slice (some ⟨q + 1, 0, none⟩) N.length N.length, .slice (some ⟨b, off, none⟩) N.length vc, .func (.func 43) #[] #[.pointer (some ⟨q + 1 + 1 + 1, 0, none⟩)], .int .i64 (x.val : Int), ndv (N.getD x.val nd0), undef, undef, undef, undef, undef, undef, undef, undef, undef, undef, undef, undef, undef, undef, undef, undef, undef, undef, undef, undef, undef, undef, undef, undef, undef, undef, undef, undef, undef, undef, undef, undef, undef, undef, undef, undef, undef, undef, undef, undef], defers := [] })
    (fun x a' _ X Y row hs hg hr => by obtain ⟨Bx, h1, h2, h3⟩ := hs; exact ⟨Bx, h1, blk_own Bx 38 (fun (_ : Unit) => ndc (N.getD x.val nd0)) () X Y row h2 hg (fun r e => (hr r e).2), h3⟩)
    ?assign ?body ?done ?stop
  case assign =>
    rintro l pre x W K ⟨hD1, hB1, hZ1⟩ hK
    simp only [encN, ndv] at hK ⊢
    generalize N.getD x.val nd0 = y at *
    gi_wp2
    exact hK _ _ ((KeepsOthers.alloc _ _).from _) ⟨(Below.refl _ W).alloc hB1.size _, fun hb => Below.heap_alloc W _ _ hb⟩ ⟨hD1.later ((Below.refl _ _).alloc (Nat.le_refl _) _), hB1.alloc hB1.size _, by simp; omega⟩ ⟨W.heap.size, by omega, Blk.newA W #[.int .i64 y.k, .int .i64 y.n, .string y.name, .string y.label, .int .i64 y.tag, .int .i64 y.kids, .int .i64 y.a] 38, rfl⟩
  case body =>
    rintro l pre x a' W hl ⟨r, hr2⟩ ⟨hD1, hB1, hZ1⟩ ⟨Bx, hBx, bX, rfl⟩ hlt
    obtain ⟨i, hi⟩ := x
    have hfl := hgF_len f N P pre
    have hin := hgF_in (P := P) hF.1 HFB.out pre
    have hyn : N.getD i nd0 ∈ N := by
      have e : N.getD i nd0 = N[i]'hi := by simp [List.getD, hi]
      rw [e]; exact List.getElem_mem hi
    have hyk := hx.out _ hyn
    have HSn := hide_ (hgF_snoc f N P pre ⟨i, hi⟩)
    have hpar : P.getD i 0 < i ∧ (0 ≤ P.getD i 0 → P.getD i 0 < N.length) ∧ -1 ≤ P.getD i 0 := by
      rcases Nat.eq_zero_or_pos i with rfl | h0
      · rw [HPo.out.first h0N]; omega
      · have := HPo.out.later i h0 hi; omega
    simp only [ndv]
    dsimp only at bX HSn
    have hpl : P.length = N.length := HPo.out.len
    have cP := (hD1.2.2.1.cell i).trans (cellsL_at .i64 P i (by omega))
    generalize N.getD i nd0 = y at *
    generalize P.getD i 0 = p at *
    have hii : (i : Int) < N.length := by omega
    obtain ⟨L, hL⟩ : ∃ L, hgF f N P pre = L := ⟨_, rfl⟩
    rw [hL] at HSn hfl hin hD1
    have hple : (pre.length : Int) ≤ 1954687338267 := by omega
    have hfy := HFB.out y.name
    have e0 := bX.cell 0
    simp [ndc] at e0
    have hBq : Bx ≠ q + 1 := by omega
    have HPL := hide_ hpl
    have HFL := hide_ hfl
    clear hL hpl hfl hx hr2 hyn HFB hc hr hgw HCL HGA HBW hkB HD0 hnm
    have HSS : Hid (∀ w' l, DpI w' w.heap.size q gp N.length (.func (.func 30) #[] #[.pointer (some ⟨bd, 0, none⟩), .pointer (some ⟨bm, 0, none⟩)]) P (l) → Blk w' Bx 38 (ndc y) → (fun w' => w'.cell? ⟨q, 0, none⟩ = some (.slice (some ⟨gp, 0, none⟩) N.length N.length) ∧ w'.cell? ⟨q + 1 + 1, 0, none⟩ = some (.slice (some ⟨q + 1, 0, none⟩) N.length N.length) ∧ w'.cell? ⟨w.heap.size, 0, none⟩ = some (.func (.func 30) #[] #[.pointer (some ⟨bd, 0, none⟩), .pointer (some ⟨bm, 0, none⟩)]) ∧ w'.cell? ⟨Bx, 2, none⟩ = some (.string y.name)) w') := hide_ (fun w' l h1 h2 => ⟨h1.2.1.cell 0, h1.2.2.2.2.cell 0, h1.1.cell 0, by have := h2.cell 2; simpa [ndc] using this⟩)
    by_cases h9 : y.k = 9
    ·
      have he : (y.k == 9) = true := by simp [h9]
      have e2 := bX.cell 2
      simp [ndc] at e2
      obtain ⟨u0, cD⟩ : ∃ u0 : Int, W.cell? ⟨q + 1, i, none⟩ = some (.int .i64 u0) := ⟨_, (hD1.2.2.2.1.cell i).trans (cellsL_at .i64 L i (by have := HFL.out; omega))⟩
      have fD := hD1.2.2.2.1.frozen i
      have hD2 : DpI (W.setCell ⟨q + 1, i, none⟩ (.int .i64 (f y.name))).drew w.heap.size q gp N.length (.func (.func 30) #[] #[.pointer (some ⟨bd, 0, none⟩), .pointer (some ⟨bm, 0, none⟩)]) P (L.set i (f y.name)) := hD1.set i (f y.name) hgne
      have bX2 : Blk (W.setCell ⟨q + 1, i, none⟩ (.int .i64 (f y.name))).drew Bx 38 (ndc y) := bX.other _ _ hBq
      have u2 : Upd (fun k => k = q + 1) W (W.setCell ⟨q + 1, i, none⟩ (.int .i64 (f y.name))).drew := ((Upd.refl (fun k => k = q + 1) W).set ⟨q + 1, i, none⟩ (.int .i64 (f y.name)) (.inl rfl)).drew
      obtain ⟨W2, hW2⟩ : ∃ W2, W2 = (W.setCell ⟨q + 1, i, none⟩ (.int .i64 (f y.name))).drew := ⟨_, rfl⟩
      obtain ⟨L2, hL2⟩ : ∃ L2, L2 = L.set i (f y.name) := ⟨_, rfl⟩
      have hL2i : L2.getD i 0 = f y.name := by rw [hL2, getD_set_eq _ _ _ (by have := HFL.out; omega)]
      have hL2s : ∀ v, L2.set i v = L.set i v := fun v => by rw [hL2, List.set_set]
      have hL2l : L2.length = N.length := by rw [hL2, List.length_set]; exact HFL.out
      rw [← hW2, ← hL2] at hD2
      rw [← hW2] at bX2 u2
      have HV0 : Hid (max (if y.k = 9 then f y.name else L.getD i 0) 1 = max (f y.name) 1) := hide_ (by rw [if_pos h9])
      obtain ⟨v, hv⟩ : ∃ v : Int, max (f y.name) 1 = v := ⟨_, rfl⟩
      have hvb : 1 ≤ v ∧ v ≤ 1003000000000000 := by omega
      have HV : Hid ((if f y.name < 1 then 1 else f y.name) = v) := hide_ (by rw [max_if]; exact hv)
      rw [hv] at HV0
      have cD2 : W2.cell? ⟨q + 1, i, none⟩ = some (.int .i64 (f y.name)) := by
        have h := (hD2.2.2.2.1.cell i).trans (cellsL_at .i64 _ i (by omega))
        rw [hL2i] at h
        exact h
      have fD2 := hD2.2.2.2.1.frozen i
      have hD3 : DpI (W2.setCell ⟨q + 1, i, none⟩ (.int .i64 v)).drew w.heap.size q gp N.length (.func (.func 30) #[] #[.pointer (some ⟨bd, 0, none⟩), .pointer (some ⟨bm, 0, none⟩)]) P (L.set i v) := by rw [← hL2s v]; exact hD2.set i v hgne
      have bX3 : Blk (W2.setCell ⟨q + 1, i, none⟩ (.int .i64 v)).drew Bx 38 (ndc y) := bX2.other _ _ hBq
      have u3 : Upd (fun k => k = q + 1) W (W2.setCell ⟨q + 1, i, none⟩ (.int .i64 v)).drew := (u2.set _ _ (.inl rfl)).drew
      obtain ⟨W3, hW3⟩ : ∃ W3, W3 = (W2.setCell ⟨q + 1, i, none⟩ (.int .i64 v)).drew := ⟨_, rfl⟩
      rw [← hW3] at hD3 bX3 u3
      have cP3 := (hD3.2.2.1.cell i).trans ((hD1.2.2.1.cell i).symm.trans cP)
      have cq3 := hD3.2.1.cell 0
      simp only [List.getElem?_cons_zero] at cq3
      have HHS : Hid (hgS f y p i L = if 0 ≤ p then (L.set i v).set p.toNat (max ((L.set i v).getD p.toNat 0) (v + 1)) else L.set i v) := hide_ (by unfold hgS; rw [HV0.out])
      have hE3 := round_end (B := W0.heap.size) (n := w.heap.size) (b0 := q + 1 + 1 + 1) u3 (by omega) (by omega) (by omega) hB1.size
      clear hL2i hL2s hv HV0
      by_cases hp : 0 ≤ p
      · obtain ⟨pn, rfl⟩ := Int.eq_ofNat_of_zero_le hp
        have hpn : (pn : Int) < N.length := hpar.2.1 hp
        obtain ⟨a0, ha0⟩ : ∃ a0, (L.set i v).getD pn 0 = a0 := ⟨_, rfl⟩
        have cA : W3.cell? ⟨q + 1, pn, none⟩ = some (.int .i64 a0) := by
          have h := (hD3.2.2.2.1.cell pn).trans (cellsL_at .i64 _ pn (by rw [List.length_set]; have := HFL.out; omega))
          rw [ha0] at h
          exact h
        have cV : W3.cell? ⟨q + 1, i, none⟩ = some (.int .i64 v) := by
          have h := (hD3.2.2.2.1.cell i).trans (cellsL_at .i64 _ i (by rw [List.length_set]; have := HFL.out; omega))
          rw [getD_set_eq _ _ _ (by have := HFL.out; omega)] at h
          exact h
        have fA := hD3.2.2.2.1.frozen pn
        obtain ⟨v4, hv4⟩ : ∃ v4 : Int, max a0 (v + 1) = v4 := ⟨_, rfl⟩
        have HV4 : Hid ((if a0 < IntKind.i64.wrap (v + 1) then IntKind.i64.wrap (v + 1) else a0) = v4) := hide_ (by rw [show IntKind.i64.wrap (v + 1) = v + 1 by rw [IntKind.wrap_i64]; omega, max_if]; exact hv4)
        have HL4 : Hid (hgS f y (pn : Int) i L = (L.set i v).set pn v4) := hide_ (by rw [HHS.out, if_pos hp, Int.toNat_natCast, ha0, hv4])
        have hD4 : DpI (W3.setCell ⟨q + 1, pn, none⟩ (.int .i64 v4)).drew w.heap.size q gp N.length (.func (.func 30) #[] #[.pointer (some ⟨bd, 0, none⟩), .pointer (some ⟨bm, 0, none⟩)]) P ((L.set i v).set pn v4) := hD3.set pn v4 hgne
        have bX4 : Blk (W3.setCell ⟨q + 1, pn, none⟩ (.int .i64 v4)).drew Bx 38 (ndc y) := bX3.other _ _ hBq
        have hE4 := round_end (B := W0.heap.size) (n := w.heap.size) (b0 := q + 1 + 1 + 1) ((u3.set ⟨q + 1, pn, none⟩ (.int .i64 v4) (.inl rfl)).drew) (by omega) (by omega) (by omega) hB1.size
        clear ha0 hv4 HHS hE3 u3 u2
        gi_wp2
        refine region_round (S := (fun w' => w'.cell? ⟨q, 0, none⟩ = some (.slice (some ⟨gp, 0, none⟩) N.length N.length) ∧ w'.cell? ⟨q + 1 + 1, 0, none⟩ = some (.slice (some ⟨q + 1, 0, none⟩) N.length N.length) ∧ w'.cell? ⟨w.heap.size, 0, none⟩ = some (.func (.func 30) #[] #[.pointer (some ⟨bd, 0, none⟩), .pointer (some ⟨bm, 0, none⟩)]) ∧ w'.cell? ⟨Bx, 2, none⟩ = some (.string y.name))) (by kernel_rfl) (by kernel_rfl) (by rintro ⟨_, _, h⟩; exact h) (HSS.out _ _ hD1 bX) (fun hHeld => ?_)
        refine wpAnyH_take (i := 0) (v := ?v1) rfl (by kernel_rfl) (by kernel_rfl) (by kernel_rfl) (fun _ _ _ h => h) (Or.inl ⟨by rfl, ?hy1⟩) hHeld ?rest1
        case hy1 => intro w' hSw; (try dsimp only at hSw); go_simp; try with_reducible rfl
        simp only [Act.put]
        refine wpAnyH_take (i := 1) (v := ?v2) rfl (by kernel_rfl) (by kernel_rfl) (by kernel_rfl) (fun _ _ _ h => h) (Or.inl ⟨by rfl, ?hy2⟩) hHeld ?rest2
        case hy2 => intro w' hSw; (try dsimp only at hSw); go_simp; try with_reducible rfl
        simp only [Act.put]
        refine wpAnyH_take (i := 2) (v := ?v3) rfl (by kernel_rfl) (by kernel_rfl) (by kernel_rfl) (fun _ _ _ h => h) (Or.inl ⟨by rfl, ?hy3⟩) hHeld ?rest3
        case hy3 => intro w' hSw; (try dsimp only at hSw); go_simp; try with_reducible rfl
        simp only [Act.put]
        refine wpAnyH_take (i := 3) (v := ?v4) rfl (by kernel_rfl) (by kernel_rfl) (by kernel_rfl) (fun _ _ _ h => h) (Or.inl ⟨by rfl, ?hy4⟩) hHeld ?rest4
        case hy4 => intro w' hSw; (try dsimp only at hSw); go_simp; try with_reducible rfl
        simp only [Act.put]
        refine wpAnyH_take (i := 4) (v := ?v5) rfl (by kernel_rfl) (by kernel_rfl) (by kernel_rfl) (fun _ _ _ h => h) (Or.inl ⟨by rfl, ?hy5⟩) hHeld ?rest5
        case hy5 => intro w' hSw; (try dsimp only at hSw); go_simp; try with_reducible rfl
        simp only [Act.put]
        refine wpAnyH_ready (rs := [5]) (by kernel_rfl) (by simp) ?_
        refine AllReadyH.cons rfl (fun K hK => ?_) AllReadyH.nil
        go_simp
        refine (HNm.out y.name _ hyk.2.1 hB1.drew).mono ?_
        rintro e w5 ⟨rfl, rfl⟩
        dsimp only
        refine hK.out _ _ hHeld (fun hHeld => ?_)
        clear hK K
        refine wpAnyH_take (i := 6) (v := ?v6) rfl (by kernel_rfl) (by kernel_rfl) (by kernel_rfl) (fun _ _ _ h => h) (Or.inl ⟨by rfl, ?hy6⟩) hHeld ?rest6
        case hy6 => intro w' hSw; (try dsimp only at hSw); go_simp; try with_reducible rfl
        simp only [Act.put]
        refine wpAnyH_ready (rs := [7]) (by kernel_rfl) (by simp) ?_
        refine AllReadyH.cons rfl (fun K hK => ?_) AllReadyH.nil
        go_simp
        refine hK.out _ _ (by rw [← hW2]; exact HSS.out _ _ hD2 bX2) (fun hHeld => ?_)
        clear hK K
        refine wpAnyH_done (by kernel_rfl) ?_ _
        rw [← hW2]
        clear hW2 cD fD
        gi_wp2
        refine region_round (S := (fun w' => w'.cell? ⟨q, 0, none⟩ = some (.slice (some ⟨gp, 0, none⟩) N.length N.length) ∧ w'.cell? ⟨q + 1 + 1, 0, none⟩ = some (.slice (some ⟨q + 1, 0, none⟩) N.length N.length) ∧ w'.cell? ⟨w.heap.size, 0, none⟩ = some (.func (.func 30) #[] #[.pointer (some ⟨bd, 0, none⟩), .pointer (some ⟨bm, 0, none⟩)]) ∧ w'.cell? ⟨Bx, 2, none⟩ = some (.string y.name))) (by kernel_rfl) (by kernel_rfl) (by rintro ⟨_, _, h⟩; exact h) (HSS.out _ _ hD2 bX2) (fun hHeld => ?_)
        refine wpAnyH_take (i := 0) (v := ?v7) rfl (by kernel_rfl) (by kernel_rfl) (by kernel_rfl) (fun _ _ _ h => h) (Or.inl ⟨by rfl, ?hy7⟩) hHeld ?rest7
        case hy7 => intro w' hSw; (try dsimp only at hSw); go_simp; try with_reducible rfl
        simp only [Act.put]
        refine wpAnyH_take (i := 1) (v := ?v8) rfl (by kernel_rfl) (by kernel_rfl) (by kernel_rfl) (fun _ _ _ h => h) (Or.inl ⟨by rfl, ?hy8⟩) hHeld ?rest8
        case hy8 => intro w' hSw; (try dsimp only at hSw); go_simp; try with_reducible rfl
        simp only [Act.put]
        refine wpAnyH_take (i := 2) (v := ?v9) rfl (by kernel_rfl) (by kernel_rfl) (by kernel_rfl) (fun _ _ _ h => h) (Or.inl ⟨by rfl, ?hy9⟩) hHeld ?rest9
        case hy9 => intro w' hSw; (try dsimp only at hSw); go_simp; try with_reducible rfl
        simp only [Act.put]
        refine wpAnyH_take (i := 3) (v := ?v10) rfl (by kernel_rfl) (by kernel_rfl) (by kernel_rfl) (fun _ _ _ h => h) (Or.inl ⟨by rfl, ?hy10⟩) hHeld ?rest10
        case hy10 => intro w' hSw; (try dsimp only at hSw); go_simp; try with_reducible rfl
        simp only [Act.put]
        refine wpAnyH_take (i := 4) (v := ?v11) rfl (by kernel_rfl) (by kernel_rfl) (by kernel_rfl) (fun _ _ _ h => h) (Or.inl ⟨by rfl, ?hy11⟩) hHeld ?rest11
        case hy11 => intro w' hSw; (try dsimp only at hSw); go_simp; try with_reducible rfl
        simp only [Act.put]
        refine wpAnyH_ready (rs := [5]) (by kernel_rfl) (by simp) ?_
        refine AllReadyH.cons rfl (fun K hK => ?_) AllReadyH.nil
        go_simp
        refine hK.out _ _ hHeld (fun hHeld => ?_)
        clear hK K
        refine wpAnyH_take (i := 6) (v := ?v12) rfl (by kernel_rfl) (by kernel_rfl) (by kernel_rfl) (fun _ _ _ h => h) (Or.inl ⟨by rfl, ?hy12⟩) hHeld ?rest12
        case hy12 => intro w' hSw; (try dsimp only at hSw); go_simp; try with_reducible rfl
        simp only [Act.put]
        refine wpAnyH_take (i := 7) (v := ?v13) rfl (by kernel_rfl) (by kernel_rfl) (by kernel_rfl) (fun _ _ _ h => h) (Or.inl ⟨by rfl, ?hy13⟩) hHeld ?rest13
        case hy13 => intro w' hSw; (try dsimp only at hSw); go_simp; try with_reducible rfl
        simp only [Act.put]
        refine wpAnyH_ready (rs := [8]) (by kernel_rfl) (by simp) ?_
        refine AllReadyH.cons rfl (fun K hK => ?_) AllReadyH.nil
        go_simp
        (try rw [maxIfY]); rw [HV.out]
        refine hK.out _ _ (HSS.out _ _ (by rw [← hW3]; exact hD3) (by rw [← hW3]; exact bX3)) (fun hHeld => ?_)
        clear hK K
        refine wpAnyH_done (by kernel_rfl) ?_ _
        rw [← hW3]
        clear hW3 cD2 fD2
        gi_wp2
        refine region_round (S := (fun w' => w'.cell? ⟨q, 0, none⟩ = some (.slice (some ⟨gp, 0, none⟩) N.length N.length) ∧ w'.cell? ⟨q + 1 + 1, 0, none⟩ = some (.slice (some ⟨q + 1, 0, none⟩) N.length N.length) ∧ w'.cell? ⟨w.heap.size, 0, none⟩ = some (.func (.func 30) #[] #[.pointer (some ⟨bd, 0, none⟩), .pointer (some ⟨bm, 0, none⟩)]) ∧ w'.cell? ⟨Bx, 2, none⟩ = some (.string y.name))) (by kernel_rfl) (by kernel_rfl) (by rintro ⟨_, _, h⟩; exact h) (HSS.out _ _ hD3 bX3) (fun hHeld => ?_)
        refine wpAnyH_take (i := 0) (v := ?v14) rfl (by kernel_rfl) (by kernel_rfl) (by kernel_rfl) (fun _ _ _ h => h) (Or.inl ⟨by rfl, ?hy14⟩) hHeld ?rest14
        case hy14 => intro w' hSw; (try dsimp only at hSw); go_simp; try with_reducible rfl
        simp only [Act.put]
        refine wpAnyH_take (i := 1) (v := ?v15) rfl (by kernel_rfl) (by kernel_rfl) (by kernel_rfl) (fun _ _ _ h => h) (Or.inl ⟨by rfl, ?hy15⟩) hHeld ?rest15
        case hy15 => intro w' hSw; (try dsimp only at hSw); go_simp; try with_reducible rfl
        simp only [Act.put]
        refine wpAnyH_take (i := 2) (v := ?v16) rfl (by kernel_rfl) (by kernel_rfl) (by kernel_rfl) (fun _ _ _ h => h) (Or.inl ⟨by rfl, ?hy16⟩) hHeld ?rest16
        case hy16 => intro w' hSw; (try dsimp only at hSw); go_simp; try with_reducible rfl
        simp only [Act.put]
        refine wpAnyH_take (i := 3) (v := ?v17) rfl (by kernel_rfl) (by kernel_rfl) (by kernel_rfl) (fun _ _ _ h => h) (Or.inl ⟨by rfl, ?hy17⟩) hHeld ?rest17
        case hy17 => intro w' hSw; (try dsimp only at hSw); go_simp; try with_reducible rfl
        simp only [Act.put]
        refine wpAnyH_take (i := 4) (v := ?v18) rfl (by kernel_rfl) (by kernel_rfl) (by kernel_rfl) (fun _ _ _ h => h) (Or.inl ⟨by rfl, ?hy18⟩) hHeld ?rest18
        case hy18 => intro w' hSw; (try dsimp only at hSw); go_simp; try with_reducible rfl
        simp only [Act.put]
        refine wpAnyH_take (i := 6) (v := ?v19) rfl (by kernel_rfl) (by kernel_rfl) (by kernel_rfl) (fun _ _ _ h => h) (Or.inl ⟨by rfl, ?hy19⟩) hHeld ?rest19
        case hy19 => intro w' hSw; (try dsimp only at hSw); go_simp; try with_reducible rfl
        simp only [Act.put]
        refine wpAnyH_take (i := 7) (v := ?v20) rfl (by kernel_rfl) (by kernel_rfl) (by kernel_rfl) (fun _ _ _ h => h) (Or.inl ⟨by rfl, ?hy20⟩) hHeld ?rest20
        case hy20 => intro w' hSw; (try dsimp only at hSw); go_simp; try with_reducible rfl
        simp only [Act.put]
        refine wpAnyH_take (i := 8) (v := ?v21) rfl (by kernel_rfl) (by kernel_rfl) (by kernel_rfl) (fun _ _ _ h => h) (Or.inl ⟨by rfl, ?hy21⟩) hHeld ?rest21
        case hy21 => intro w' hSw; (try dsimp only at hSw); go_simp; try with_reducible rfl
        simp only [Act.put]
        refine wpAnyH_ready (rs := [5, 9]) (by kernel_rfl) (by simp) ?_
        refine AllReadyH.cons rfl (fun K hK => ?_) ?_
        · go_simp
          refine hK.out _ _ hHeld (fun hHeld => ?_)
          clear hK K
          refine wpAnyH_ready (rs := [9]) (by kernel_rfl) (by simp) ?_
          refine AllReadyH.cons rfl (fun K hK => ?_) AllReadyH.nil
          go_simp
          refine hK.out _ _ hHeld (fun hHeld => ?_)
          clear hK K
          refine wpAnyH_take (i := 10) (v := ?v22) rfl (by kernel_rfl) (by kernel_rfl) (by kernel_rfl) (fun _ _ _ h => h) (Or.inl ⟨by rfl, ?hy22⟩) hHeld ?rest22
          case hy22 => intro w' hSw; (try dsimp only at hSw); go_simp; try with_reducible rfl
          simp only [Act.put]
          refine wpAnyH_take (i := 11) (v := ?v23) rfl (by kernel_rfl) (by kernel_rfl) (by kernel_rfl) (fun _ _ _ h => h) (Or.inl ⟨by rfl, ?hy23⟩) hHeld ?rest23
          case hy23 => intro w' hSw; (try dsimp only at hSw); go_simp; try with_reducible rfl
          simp only [Act.put]
          refine wpAnyH_take (i := 12) (v := ?v24) rfl (by kernel_rfl) (by kernel_rfl) (by kernel_rfl) (fun _ _ _ h => h) (Or.inl ⟨by rfl, ?hy24⟩) hHeld ?rest24
          case hy24 => intro w' hSw; (try dsimp only at hSw); go_simp; try with_reducible rfl
          simp only [Act.put]
          refine wpAnyH_ready (rs := [13]) (by kernel_rfl) (by simp) ?_
          refine AllReadyH.cons rfl (fun K hK => ?_) AllReadyH.nil
          go_simp
          (try rw [maxIfY]); rw [HV4.out]
          refine hK.out _ _ (HSS.out _ _ hD4 bX4) (fun hHeld => ?_)
          clear hK K
          refine wpAnyH_done (by kernel_rfl) ?_ _
          gi_wp2
          exact ⟨hE4.1, hE4.2.1, by rw [HSn.out, HL4.out]; exact hD4, hB1.trans hE4.2.2, Nat.le_trans hZ1 hE4.1.size⟩
        refine AllReadyH.cons rfl (fun K hK => ?_) AllReadyH.nil
        · go_simp
          refine hK.out _ _ hHeld (fun hHeld => ?_)
          clear hK K
          refine wpAnyH_take (i := 10) (v := ?v25) rfl (by kernel_rfl) (by kernel_rfl) (by kernel_rfl) (fun _ _ _ h => h) (Or.inl ⟨by rfl, ?hy25⟩) hHeld ?rest25
          case hy25 => intro w' hSw; (try dsimp only at hSw); go_simp; try with_reducible rfl
          simp only [Act.put]
          refine wpAnyH_ready (rs := [5]) (by kernel_rfl) (by simp) ?_
          refine AllReadyH.cons rfl (fun K hK => ?_) AllReadyH.nil
          go_simp
          refine hK.out _ _ hHeld (fun hHeld => ?_)
          clear hK K
          refine wpAnyH_take (i := 11) (v := ?v26) rfl (by kernel_rfl) (by kernel_rfl) (by kernel_rfl) (fun _ _ _ h => h) (Or.inl ⟨by rfl, ?hy26⟩) hHeld ?rest26
          case hy26 => intro w' hSw; (try dsimp only at hSw); go_simp; try with_reducible rfl
          simp only [Act.put]
          refine wpAnyH_take (i := 12) (v := ?v27) rfl (by kernel_rfl) (by kernel_rfl) (by kernel_rfl) (fun _ _ _ h => h) (Or.inl ⟨by rfl, ?hy27⟩) hHeld ?rest27
          case hy27 => intro w' hSw; (try dsimp only at hSw); go_simp; try with_reducible rfl
          simp only [Act.put]
          refine wpAnyH_ready (rs := [13]) (by kernel_rfl) (by simp) ?_
          refine AllReadyH.cons rfl (fun K hK => ?_) AllReadyH.nil
          go_simp
          (try rw [maxIfY]); rw [HV4.out]
          refine hK.out _ _ (HSS.out _ _ hD4 bX4) (fun hHeld => ?_)
          clear hK K
          refine wpAnyH_done (by kernel_rfl) ?_ _
          gi_wp2
          exact ⟨hE4.1, hE4.2.1, by rw [HSn.out, HL4.out]; exact hD4, hB1.trans hE4.2.2, Nat.le_trans hZ1 hE4.1.size⟩
      · have HL3 : Hid (hgS f y p i L = L.set i v) := hide_ (by rw [HHS.out, if_neg hp])
        clear HHS u3 u2
        gi_wp2
        refine region_round (S := (fun w' => w'.cell? ⟨q, 0, none⟩ = some (.slice (some ⟨gp, 0, none⟩) N.length N.length) ∧ w'.cell? ⟨q + 1 + 1, 0, none⟩ = some (.slice (some ⟨q + 1, 0, none⟩) N.length N.length) ∧ w'.cell? ⟨w.heap.size, 0, none⟩ = some (.func (.func 30) #[] #[.pointer (some ⟨bd, 0, none⟩), .pointer (some ⟨bm, 0, none⟩)]) ∧ w'.cell? ⟨Bx, 2, none⟩ = some (.string y.name))) (by kernel_rfl) (by kernel_rfl) (by rintro ⟨_, _, h⟩; exact h) (HSS.out _ _ hD1 bX) (fun hHeld => ?_)
        refine wpAnyH_take (i := 0) (v := ?v28) rfl (by kernel_rfl) (by kernel_rfl) (by kernel_rfl) (fun _ _ _ h => h) (Or.inl ⟨by rfl, ?hy28⟩) hHeld ?rest28
        case hy28 => intro w' hSw; (try dsimp only at hSw); go_simp; try with_reducible rfl
        simp only [Act.put]
        refine wpAnyH_take (i := 1) (v := ?v29) rfl (by kernel_rfl) (by kernel_rfl) (by kernel_rfl) (fun _ _ _ h => h) (Or.inl ⟨by rfl, ?hy29⟩) hHeld ?rest29
        case hy29 => intro w' hSw; (try dsimp only at hSw); go_simp; try with_reducible rfl
        simp only [Act.put]
        refine wpAnyH_take (i := 2) (v := ?v30) rfl (by kernel_rfl) (by kernel_rfl) (by kernel_rfl) (fun _ _ _ h => h) (Or.inl ⟨by rfl, ?hy30⟩) hHeld ?rest30
        case hy30 => intro w' hSw; (try dsimp only at hSw); go_simp; try with_reducible rfl
        simp only [Act.put]
        refine wpAnyH_take (i := 3) (v := ?v31) rfl (by kernel_rfl) (by kernel_rfl) (by kernel_rfl) (fun _ _ _ h => h) (Or.inl ⟨by rfl, ?hy31⟩) hHeld ?rest31
        case hy31 => intro w' hSw; (try dsimp only at hSw); go_simp; try with_reducible rfl
        simp only [Act.put]
        refine wpAnyH_take (i := 4) (v := ?v32) rfl (by kernel_rfl) (by kernel_rfl) (by kernel_rfl) (fun _ _ _ h => h) (Or.inl ⟨by rfl, ?hy32⟩) hHeld ?rest32
        case hy32 => intro w' hSw; (try dsimp only at hSw); go_simp; try with_reducible rfl
        simp only [Act.put]
        refine wpAnyH_ready (rs := [5]) (by kernel_rfl) (by simp) ?_
        refine AllReadyH.cons rfl (fun K hK => ?_) AllReadyH.nil
        go_simp
        refine (HNm.out y.name _ hyk.2.1 hB1.drew).mono ?_
        rintro e w5 ⟨rfl, rfl⟩
        dsimp only
        refine hK.out _ _ hHeld (fun hHeld => ?_)
        clear hK K
        refine wpAnyH_take (i := 6) (v := ?v33) rfl (by kernel_rfl) (by kernel_rfl) (by kernel_rfl) (fun _ _ _ h => h) (Or.inl ⟨by rfl, ?hy33⟩) hHeld ?rest33
        case hy33 => intro w' hSw; (try dsimp only at hSw); go_simp; try with_reducible rfl
        simp only [Act.put]
        refine wpAnyH_ready (rs := [7]) (by kernel_rfl) (by simp) ?_
        refine AllReadyH.cons rfl (fun K hK => ?_) AllReadyH.nil
        go_simp
        refine hK.out _ _ (by rw [← hW2]; exact HSS.out _ _ hD2 bX2) (fun hHeld => ?_)
        clear hK K
        refine wpAnyH_done (by kernel_rfl) ?_ _
        rw [← hW2]
        clear hW2 cD fD
        gi_wp2
        refine region_round (S := (fun w' => w'.cell? ⟨q, 0, none⟩ = some (.slice (some ⟨gp, 0, none⟩) N.length N.length) ∧ w'.cell? ⟨q + 1 + 1, 0, none⟩ = some (.slice (some ⟨q + 1, 0, none⟩) N.length N.length) ∧ w'.cell? ⟨w.heap.size, 0, none⟩ = some (.func (.func 30) #[] #[.pointer (some ⟨bd, 0, none⟩), .pointer (some ⟨bm, 0, none⟩)]) ∧ w'.cell? ⟨Bx, 2, none⟩ = some (.string y.name))) (by kernel_rfl) (by kernel_rfl) (by rintro ⟨_, _, h⟩; exact h) (HSS.out _ _ hD2 bX2) (fun hHeld => ?_)
        refine wpAnyH_take (i := 0) (v := ?v34) rfl (by kernel_rfl) (by kernel_rfl) (by kernel_rfl) (fun _ _ _ h => h) (Or.inl ⟨by rfl, ?hy34⟩) hHeld ?rest34
        case hy34 => intro w' hSw; (try dsimp only at hSw); go_simp; try with_reducible rfl
        simp only [Act.put]
        refine wpAnyH_take (i := 1) (v := ?v35) rfl (by kernel_rfl) (by kernel_rfl) (by kernel_rfl) (fun _ _ _ h => h) (Or.inl ⟨by rfl, ?hy35⟩) hHeld ?rest35
        case hy35 => intro w' hSw; (try dsimp only at hSw); go_simp; try with_reducible rfl
        simp only [Act.put]
        refine wpAnyH_take (i := 2) (v := ?v36) rfl (by kernel_rfl) (by kernel_rfl) (by kernel_rfl) (fun _ _ _ h => h) (Or.inl ⟨by rfl, ?hy36⟩) hHeld ?rest36
        case hy36 => intro w' hSw; (try dsimp only at hSw); go_simp; try with_reducible rfl
        simp only [Act.put]
        refine wpAnyH_take (i := 3) (v := ?v37) rfl (by kernel_rfl) (by kernel_rfl) (by kernel_rfl) (fun _ _ _ h => h) (Or.inl ⟨by rfl, ?hy37⟩) hHeld ?rest37
        case hy37 => intro w' hSw; (try dsimp only at hSw); go_simp; try with_reducible rfl
        simp only [Act.put]
        refine wpAnyH_take (i := 4) (v := ?v38) rfl (by kernel_rfl) (by kernel_rfl) (by kernel_rfl) (fun _ _ _ h => h) (Or.inl ⟨by rfl, ?hy38⟩) hHeld ?rest38
        case hy38 => intro w' hSw; (try dsimp only at hSw); go_simp; try with_reducible rfl
        simp only [Act.put]
        refine wpAnyH_ready (rs := [5]) (by kernel_rfl) (by simp) ?_
        refine AllReadyH.cons rfl (fun K hK => ?_) AllReadyH.nil
        go_simp
        refine hK.out _ _ hHeld (fun hHeld => ?_)
        clear hK K
        refine wpAnyH_take (i := 6) (v := ?v39) rfl (by kernel_rfl) (by kernel_rfl) (by kernel_rfl) (fun _ _ _ h => h) (Or.inl ⟨by rfl, ?hy39⟩) hHeld ?rest39
        case hy39 => intro w' hSw; (try dsimp only at hSw); go_simp; try with_reducible rfl
        simp only [Act.put]
        refine wpAnyH_take (i := 7) (v := ?v40) rfl (by kernel_rfl) (by kernel_rfl) (by kernel_rfl) (fun _ _ _ h => h) (Or.inl ⟨by rfl, ?hy40⟩) hHeld ?rest40
        case hy40 => intro w' hSw; (try dsimp only at hSw); go_simp; try with_reducible rfl
        simp only [Act.put]
        refine wpAnyH_ready (rs := [8]) (by kernel_rfl) (by simp) ?_
        refine AllReadyH.cons rfl (fun K hK => ?_) AllReadyH.nil
        go_simp
        (try rw [maxIfY]); rw [HV.out]
        refine hK.out _ _ (HSS.out _ _ (by rw [← hW3]; exact hD3) (by rw [← hW3]; exact bX3)) (fun hHeld => ?_)
        clear hK K
        refine wpAnyH_done (by kernel_rfl) ?_ _
        rw [← hW3]
        clear hW3 cD2 fD2
        gi_wp2
        exact ⟨hE3.1, hE3.2.1, by rw [HSn.out, HL3.out]; exact hD3, hB1.trans hE3.2.2, Nat.le_trans hZ1 hE3.1.size⟩

    ·
      have he : (y.k == 9) = false := by simpa using h9
      obtain ⟨u0, hu0⟩ : ∃ u0, L.getD i 0 = u0 := ⟨_, rfl⟩
      have hub := hin i
      rw [hu0] at hub
      have hD2 := hD1
      have bX2 := bX
      have u2 : Upd (fun k => k = q + 1) W W := Upd.refl _ W
      have hL2i := hu0
      have hL2s : ∀ v, L.set i v = L.set i v := fun v => rfl
      have hL2l : L.length = N.length := HFL.out
      have HV0 : Hid (max (if y.k = 9 then f y.name else L.getD i 0) 1 = max (u0) 1) := hide_ (by rw [if_neg h9, hu0])
      obtain ⟨v, hv⟩ : ∃ v : Int, max (u0) 1 = v := ⟨_, rfl⟩
      have hvb : 1 ≤ v ∧ v ≤ 1003000000000000 := by omega
      have HV : Hid ((if u0 < 1 then 1 else u0) = v) := hide_ (by rw [max_if]; exact hv)
      rw [hv] at HV0
      have cD2 : W.cell? ⟨q + 1, i, none⟩ = some (.int .i64 (u0)) := by
        have h := (hD2.2.2.2.1.cell i).trans (cellsL_at .i64 _ i (by omega))
        rw [hL2i] at h
        exact h
      have fD2 := hD2.2.2.2.1.frozen i
      have hD3 : DpI (W.setCell ⟨q + 1, i, none⟩ (.int .i64 v)).drew w.heap.size q gp N.length (.func (.func 30) #[] #[.pointer (some ⟨bd, 0, none⟩), .pointer (some ⟨bm, 0, none⟩)]) P (L.set i v) := by rw [← hL2s v]; exact hD2.set i v hgne
      have bX3 : Blk (W.setCell ⟨q + 1, i, none⟩ (.int .i64 v)).drew Bx 38 (ndc y) := bX2.other _ _ hBq
      have u3 : Upd (fun k => k = q + 1) W (W.setCell ⟨q + 1, i, none⟩ (.int .i64 v)).drew := (u2.set _ _ (.inl rfl)).drew
      obtain ⟨W3, hW3⟩ : ∃ W3, W3 = (W.setCell ⟨q + 1, i, none⟩ (.int .i64 v)).drew := ⟨_, rfl⟩
      rw [← hW3] at hD3 bX3 u3
      have cP3 := (hD3.2.2.1.cell i).trans ((hD1.2.2.1.cell i).symm.trans cP)
      have cq3 := hD3.2.1.cell 0
      simp only [List.getElem?_cons_zero] at cq3
      have HHS : Hid (hgS f y p i L = if 0 ≤ p then (L.set i v).set p.toNat (max ((L.set i v).getD p.toNat 0) (v + 1)) else L.set i v) := hide_ (by unfold hgS; rw [HV0.out])
      have hE3 := round_end (B := W0.heap.size) (n := w.heap.size) (b0 := q + 1 + 1 + 1) u3 (by omega) (by omega) (by omega) hB1.size
      clear hL2i hL2s hv HV0
      by_cases hp : 0 ≤ p
      · obtain ⟨pn, rfl⟩ := Int.eq_ofNat_of_zero_le hp
        have hpn : (pn : Int) < N.length := hpar.2.1 hp
        obtain ⟨a0, ha0⟩ : ∃ a0, (L.set i v).getD pn 0 = a0 := ⟨_, rfl⟩
        have cA : W3.cell? ⟨q + 1, pn, none⟩ = some (.int .i64 a0) := by
          have h := (hD3.2.2.2.1.cell pn).trans (cellsL_at .i64 _ pn (by rw [List.length_set]; have := HFL.out; omega))
          rw [ha0] at h
          exact h
        have cV : W3.cell? ⟨q + 1, i, none⟩ = some (.int .i64 v) := by
          have h := (hD3.2.2.2.1.cell i).trans (cellsL_at .i64 _ i (by rw [List.length_set]; have := HFL.out; omega))
          rw [getD_set_eq _ _ _ (by have := HFL.out; omega)] at h
          exact h
        have fA := hD3.2.2.2.1.frozen pn
        obtain ⟨v4, hv4⟩ : ∃ v4 : Int, max a0 (v + 1) = v4 := ⟨_, rfl⟩
        have HV4 : Hid ((if a0 < IntKind.i64.wrap (v + 1) then IntKind.i64.wrap (v + 1) else a0) = v4) := hide_ (by rw [show IntKind.i64.wrap (v + 1) = v + 1 by rw [IntKind.wrap_i64]; omega, max_if]; exact hv4)
        have HL4 : Hid (hgS f y (pn : Int) i L = (L.set i v).set pn v4) := hide_ (by rw [HHS.out, if_pos hp, Int.toNat_natCast, ha0, hv4])
        have hD4 : DpI (W3.setCell ⟨q + 1, pn, none⟩ (.int .i64 v4)).drew w.heap.size q gp N.length (.func (.func 30) #[] #[.pointer (some ⟨bd, 0, none⟩), .pointer (some ⟨bm, 0, none⟩)]) P ((L.set i v).set pn v4) := hD3.set pn v4 hgne
        have bX4 : Blk (W3.setCell ⟨q + 1, pn, none⟩ (.int .i64 v4)).drew Bx 38 (ndc y) := bX3.other _ _ hBq
        have hE4 := round_end (B := W0.heap.size) (n := w.heap.size) (b0 := q + 1 + 1 + 1) ((u3.set ⟨q + 1, pn, none⟩ (.int .i64 v4) (.inl rfl)).drew) (by omega) (by omega) (by omega) hB1.size
        clear ha0 hv4 HHS hE3 u3 u2
        gi_wp2
        refine region_round (S := (fun w' => w'.cell? ⟨q, 0, none⟩ = some (.slice (some ⟨gp, 0, none⟩) N.length N.length) ∧ w'.cell? ⟨q + 1 + 1, 0, none⟩ = some (.slice (some ⟨q + 1, 0, none⟩) N.length N.length) ∧ w'.cell? ⟨w.heap.size, 0, none⟩ = some (.func (.func 30) #[] #[.pointer (some ⟨bd, 0, none⟩), .pointer (some ⟨bm, 0, none⟩)]) ∧ w'.cell? ⟨Bx, 2, none⟩ = some (.string y.name))) (by kernel_rfl) (by kernel_rfl) (by rintro ⟨_, _, h⟩; exact h) (HSS.out _ _ hD2 bX2) (fun hHeld => ?_)
        refine wpAnyH_take (i := 0) (v := ?v41) rfl (by kernel_rfl) (by kernel_rfl) (by kernel_rfl) (fun _ _ _ h => h) (Or.inl ⟨by rfl, ?hy41⟩) hHeld ?rest41
        case hy41 => intro w' hSw; (try dsimp only at hSw); go_simp; try with_reducible rfl
        simp only [Act.put]
        refine wpAnyH_take (i := 1) (v := ?v42) rfl (by kernel_rfl) (by kernel_rfl) (by kernel_rfl) (fun _ _ _ h => h) (Or.inl ⟨by rfl, ?hy42⟩) hHeld ?rest42
        case hy42 => intro w' hSw; (try dsimp only at hSw); go_simp; try with_reducible rfl
        simp only [Act.put]
        refine wpAnyH_take (i := 2) (v := ?v43) rfl (by kernel_rfl) (by kernel_rfl) (by kernel_rfl) (fun _ _ _ h => h) (Or.inl ⟨by rfl, ?hy43⟩) hHeld ?rest43
        case hy43 => intro w' hSw; (try dsimp only at hSw); go_simp; try with_reducible rfl
        simp only [Act.put]
        refine wpAnyH_take (i := 3) (v := ?v44) rfl (by kernel_rfl) (by kernel_rfl) (by kernel_rfl) (fun _ _ _ h => h) (Or.inl ⟨by rfl, ?hy44⟩) hHeld ?rest44
        case hy44 => intro w' hSw; (try dsimp only at hSw); go_simp; try with_reducible rfl
        simp only [Act.put]
        refine wpAnyH_take (i := 4) (v := ?v45) rfl (by kernel_rfl) (by kernel_rfl) (by kernel_rfl) (fun _ _ _ h => h) (Or.inl ⟨by rfl, ?hy45⟩) hHeld ?rest45
        case hy45 => intro w' hSw; (try dsimp only at hSw); go_simp; try with_reducible rfl
        simp only [Act.put]
        refine wpAnyH_ready (rs := [5]) (by kernel_rfl) (by simp) ?_
        refine AllReadyH.cons rfl (fun K hK => ?_) AllReadyH.nil
        go_simp
        refine hK.out _ _ hHeld (fun hHeld => ?_)
        clear hK K
        refine wpAnyH_take (i := 6) (v := ?v46) rfl (by kernel_rfl) (by kernel_rfl) (by kernel_rfl) (fun _ _ _ h => h) (Or.inl ⟨by rfl, ?hy46⟩) hHeld ?rest46
        case hy46 => intro w' hSw; (try dsimp only at hSw); go_simp; try with_reducible rfl
        simp only [Act.put]
        refine wpAnyH_take (i := 7) (v := ?v47) rfl (by kernel_rfl) (by kernel_rfl) (by kernel_rfl) (fun _ _ _ h => h) (Or.inl ⟨by rfl, ?hy47⟩) hHeld ?rest47
        case hy47 => intro w' hSw; (try dsimp only at hSw); go_simp; try with_reducible rfl
        simp only [Act.put]
        refine wpAnyH_ready (rs := [8]) (by kernel_rfl) (by simp) ?_
        refine AllReadyH.cons rfl (fun K hK => ?_) AllReadyH.nil
        go_simp
        (try rw [maxIfY]); rw [HV.out]
        refine hK.out _ _ (HSS.out _ _ (by rw [← hW3]; exact hD3) (by rw [← hW3]; exact bX3)) (fun hHeld => ?_)
        clear hK K
        refine wpAnyH_done (by kernel_rfl) ?_ _
        rw [← hW3]
        clear hW3 cD2 fD2
        gi_wp2
        refine region_round (S := (fun w' => w'.cell? ⟨q, 0, none⟩ = some (.slice (some ⟨gp, 0, none⟩) N.length N.length) ∧ w'.cell? ⟨q + 1 + 1, 0, none⟩ = some (.slice (some ⟨q + 1, 0, none⟩) N.length N.length) ∧ w'.cell? ⟨w.heap.size, 0, none⟩ = some (.func (.func 30) #[] #[.pointer (some ⟨bd, 0, none⟩), .pointer (some ⟨bm, 0, none⟩)]) ∧ w'.cell? ⟨Bx, 2, none⟩ = some (.string y.name))) (by kernel_rfl) (by kernel_rfl) (by rintro ⟨_, _, h⟩; exact h) (HSS.out _ _ hD3 bX3) (fun hHeld => ?_)
        refine wpAnyH_take (i := 0) (v := ?v48) rfl (by kernel_rfl) (by kernel_rfl) (by kernel_rfl) (fun _ _ _ h => h) (Or.inl ⟨by rfl, ?hy48⟩) hHeld ?rest48
        case hy48 => intro w' hSw; (try dsimp only at hSw); go_simp; try with_reducible rfl
        simp only [Act.put]
        refine wpAnyH_take (i := 1) (v := ?v49) rfl (by kernel_rfl) (by kernel_rfl) (by kernel_rfl) (fun _ _ _ h => h) (Or.inl ⟨by rfl, ?hy49⟩) hHeld ?rest49
        case hy49 => intro w' hSw; (try dsimp only at hSw); go_simp; try with_reducible rfl
        simp only [Act.put]
        refine wpAnyH_take (i := 2) (v := ?v50) rfl (by kernel_rfl) (by kernel_rfl) (by kernel_rfl) (fun _ _ _ h => h) (Or.inl ⟨by rfl, ?hy50⟩) hHeld ?rest50
        case hy50 => intro w' hSw; (try dsimp only at hSw); go_simp; try with_reducible rfl
        simp only [Act.put]
        refine wpAnyH_take (i := 3) (v := ?v51) rfl (by kernel_rfl) (by kernel_rfl) (by kernel_rfl) (fun _ _ _ h => h) (Or.inl ⟨by rfl, ?hy51⟩) hHeld ?rest51
        case hy51 => intro w' hSw; (try dsimp only at hSw); go_simp; try with_reducible rfl
        simp only [Act.put]
        refine wpAnyH_take (i := 4) (v := ?v52) rfl (by kernel_rfl) (by kernel_rfl) (by kernel_rfl) (fun _ _ _ h => h) (Or.inl ⟨by rfl, ?hy52⟩) hHeld ?rest52
        case hy52 => intro w' hSw; (try dsimp only at hSw); go_simp; try with_reducible rfl
        simp only [Act.put]
        refine wpAnyH_take (i := 6) (v := ?v53) rfl (by kernel_rfl) (by kernel_rfl) (by kernel_rfl) (fun _ _ _ h => h) (Or.inl ⟨by rfl, ?hy53⟩) hHeld ?rest53
        case hy53 => intro w' hSw; (try dsimp only at hSw); go_simp; try with_reducible rfl
        simp only [Act.put]
        refine wpAnyH_take (i := 7) (v := ?v54) rfl (by kernel_rfl) (by kernel_rfl) (by kernel_rfl) (fun _ _ _ h => h) (Or.inl ⟨by rfl, ?hy54⟩) hHeld ?rest54
        case hy54 => intro w' hSw; (try dsimp only at hSw); go_simp; try with_reducible rfl
        simp only [Act.put]
        refine wpAnyH_take (i := 8) (v := ?v55) rfl (by kernel_rfl) (by kernel_rfl) (by kernel_rfl) (fun _ _ _ h => h) (Or.inl ⟨by rfl, ?hy55⟩) hHeld ?rest55
        case hy55 => intro w' hSw; (try dsimp only at hSw); go_simp; try with_reducible rfl
        simp only [Act.put]
        refine wpAnyH_ready (rs := [5, 9]) (by kernel_rfl) (by simp) ?_
        refine AllReadyH.cons rfl (fun K hK => ?_) ?_
        · go_simp
          refine hK.out _ _ hHeld (fun hHeld => ?_)
          clear hK K
          refine wpAnyH_ready (rs := [9]) (by kernel_rfl) (by simp) ?_
          refine AllReadyH.cons rfl (fun K hK => ?_) AllReadyH.nil
          go_simp
          refine hK.out _ _ hHeld (fun hHeld => ?_)
          clear hK K
          refine wpAnyH_take (i := 10) (v := ?v56) rfl (by kernel_rfl) (by kernel_rfl) (by kernel_rfl) (fun _ _ _ h => h) (Or.inl ⟨by rfl, ?hy56⟩) hHeld ?rest56
          case hy56 => intro w' hSw; (try dsimp only at hSw); go_simp; try with_reducible rfl
          simp only [Act.put]
          refine wpAnyH_take (i := 11) (v := ?v57) rfl (by kernel_rfl) (by kernel_rfl) (by kernel_rfl) (fun _ _ _ h => h) (Or.inl ⟨by rfl, ?hy57⟩) hHeld ?rest57
          case hy57 => intro w' hSw; (try dsimp only at hSw); go_simp; try with_reducible rfl
          simp only [Act.put]
          refine wpAnyH_take (i := 12) (v := ?v58) rfl (by kernel_rfl) (by kernel_rfl) (by kernel_rfl) (fun _ _ _ h => h) (Or.inl ⟨by rfl, ?hy58⟩) hHeld ?rest58
          case hy58 => intro w' hSw; (try dsimp only at hSw); go_simp; try with_reducible rfl
          simp only [Act.put]
          refine wpAnyH_ready (rs := [13]) (by kernel_rfl) (by simp) ?_
          refine AllReadyH.cons rfl (fun K hK => ?_) AllReadyH.nil
          go_simp
          (try rw [maxIfY]); rw [HV4.out]
          refine hK.out _ _ (HSS.out _ _ hD4 bX4) (fun hHeld => ?_)
          clear hK K
          refine wpAnyH_done (by kernel_rfl) ?_ _
          gi_wp2
          exact ⟨hE4.1, hE4.2.1, by rw [HSn.out, HL4.out]; exact hD4, hB1.trans hE4.2.2, Nat.le_trans hZ1 hE4.1.size⟩
        refine AllReadyH.cons rfl (fun K hK => ?_) AllReadyH.nil
        · go_simp
          refine hK.out _ _ hHeld (fun hHeld => ?_)
          clear hK K
          refine wpAnyH_take (i := 10) (v := ?v59) rfl (by kernel_rfl) (by kernel_rfl) (by kernel_rfl) (fun _ _ _ h => h) (Or.inl ⟨by rfl, ?hy59⟩) hHeld ?rest59
          case hy59 => intro w' hSw; (try dsimp only at hSw); go_simp; try with_reducible rfl
          simp only [Act.put]
          refine wpAnyH_ready (rs := [5]) (by kernel_rfl) (by simp) ?_
          refine AllReadyH.cons rfl (fun K hK => ?_) AllReadyH.nil
          go_simp
          refine hK.out _ _ hHeld (fun hHeld => ?_)
          clear hK K
          refine wpAnyH_take (i := 11) (v := ?v60) rfl (by kernel_rfl) (by kernel_rfl) (by kernel_rfl) (fun _ _ _ h => h) (Or.inl ⟨by rfl, ?hy60⟩) hHeld ?rest60
          case hy60 => intro w' hSw; (try dsimp only at hSw); go_simp; try with_reducible rfl
          simp only [Act.put]
          refine wpAnyH_take (i := 12) (v := ?v61) rfl (by kernel_rfl) (by kernel_rfl) (by kernel_rfl) (fun _ _ _ h => h) (Or.inl ⟨by rfl, ?hy61⟩) hHeld ?rest61
          case hy61 => intro w' hSw; (try dsimp only at hSw); go_simp; try with_reducible rfl
          simp only [Act.put]
          refine wpAnyH_ready (rs := [13]) (by kernel_rfl) (by simp) ?_
          refine AllReadyH.cons rfl (fun K hK => ?_) AllReadyH.nil
          go_simp
          (try rw [maxIfY]); rw [HV4.out]
          refine hK.out _ _ (HSS.out _ _ hD4 bX4) (fun hHeld => ?_)
          clear hK K
          refine wpAnyH_done (by kernel_rfl) ?_ _
          gi_wp2
          exact ⟨hE4.1, hE4.2.1, by rw [HSn.out, HL4.out]; exact hD4, hB1.trans hE4.2.2, Nat.le_trans hZ1 hE4.1.size⟩
      · have HL3 : Hid (hgS f y p i L = L.set i v) := hide_ (by rw [HHS.out, if_neg hp])
        clear HHS u3 u2
        gi_wp2
        refine region_round (S := (fun w' => w'.cell? ⟨q, 0, none⟩ = some (.slice (some ⟨gp, 0, none⟩) N.length N.length) ∧ w'.cell? ⟨q + 1 + 1, 0, none⟩ = some (.slice (some ⟨q + 1, 0, none⟩) N.length N.length) ∧ w'.cell? ⟨w.heap.size, 0, none⟩ = some (.func (.func 30) #[] #[.pointer (some ⟨bd, 0, none⟩), .pointer (some ⟨bm, 0, none⟩)]) ∧ w'.cell? ⟨Bx, 2, none⟩ = some (.string y.name))) (by kernel_rfl) (by kernel_rfl) (by rintro ⟨_, _, h⟩; exact h) (HSS.out _ _ hD2 bX2) (fun hHeld => ?_)
        refine wpAnyH_take (i := 0) (v := ?v62) rfl (by kernel_rfl) (by kernel_rfl) (by kernel_rfl) (fun _ _ _ h => h) (Or.inl ⟨by rfl, ?hy62⟩) hHeld ?rest62
        case hy62 => intro w' hSw; (try dsimp only at hSw); go_simp; try with_reducible rfl
        simp only [Act.put]
        refine wpAnyH_take (i := 1) (v := ?v63) rfl (by kernel_rfl) (by kernel_rfl) (by kernel_rfl) (fun _ _ _ h => h) (Or.inl ⟨by rfl, ?hy63⟩) hHeld ?rest63
        case hy63 => intro w' hSw; (try dsimp only at hSw); go_simp; try with_reducible rfl
        simp only [Act.put]
        refine wpAnyH_take (i := 2) (v := ?v64) rfl (by kernel_rfl) (by kernel_rfl) (by kernel_rfl) (fun _ _ _ h => h) (Or.inl ⟨by rfl, ?hy64⟩) hHeld ?rest64
        case hy64 => intro w' hSw; (try dsimp only at hSw); go_simp; try with_reducible rfl
        simp only [Act.put]
        refine wpAnyH_take (i := 3) (v := ?v65) rfl (by kernel_rfl) (by kernel_rfl) (by kernel_rfl) (fun _ _ _ h => h) (Or.inl ⟨by rfl, ?hy65⟩) hHeld ?rest65
        case hy65 => intro w' hSw; (try dsimp only at hSw); go_simp; try with_reducible rfl
        simp only [Act.put]
        refine wpAnyH_take (i := 4) (v := ?v66) rfl (by kernel_rfl) (by kernel_rfl) (by kernel_rfl) (fun _ _ _ h => h) (Or.inl ⟨by rfl, ?hy66⟩) hHeld ?rest66
        case hy66 => intro w' hSw; (try dsimp only at hSw); go_simp; try with_reducible rfl
        simp only [Act.put]
        refine wpAnyH_ready (rs := [5]) (by kernel_rfl) (by simp) ?_
        refine AllReadyH.cons rfl (fun K hK => ?_) AllReadyH.nil
        go_simp
        refine hK.out _ _ hHeld (fun hHeld => ?_)
        clear hK K
        refine wpAnyH_take (i := 6) (v := ?v67) rfl (by kernel_rfl) (by kernel_rfl) (by kernel_rfl) (fun _ _ _ h => h) (Or.inl ⟨by rfl, ?hy67⟩) hHeld ?rest67
        case hy67 => intro w' hSw; (try dsimp only at hSw); go_simp; try with_reducible rfl
        simp only [Act.put]
        refine wpAnyH_take (i := 7) (v := ?v68) rfl (by kernel_rfl) (by kernel_rfl) (by kernel_rfl) (fun _ _ _ h => h) (Or.inl ⟨by rfl, ?hy68⟩) hHeld ?rest68
        case hy68 => intro w' hSw; (try dsimp only at hSw); go_simp; try with_reducible rfl
        simp only [Act.put]
        refine wpAnyH_ready (rs := [8]) (by kernel_rfl) (by simp) ?_
        refine AllReadyH.cons rfl (fun K hK => ?_) AllReadyH.nil
        go_simp
        (try rw [maxIfY]); rw [HV.out]
        refine hK.out _ _ (HSS.out _ _ (by rw [← hW3]; exact hD3) (by rw [← hW3]; exact bX3)) (fun hHeld => ?_)
        clear hK K
        refine wpAnyH_done (by kernel_rfl) ?_ _
        rw [← hW3]
        clear hW3 cD2 fD2
        gi_wp2
        exact ⟨hE3.1, hE3.2.1, by rw [HSn.out, HL3.out]; exact hD3, hB1.trans hE3.2.2, Nat.le_trans hZ1 hE3.1.size⟩

  case done =>
    rintro D2 zs W hD2 rfl ⟨hD1, hB1, hZ1⟩ hK
    have hin := hgF_in (P := P) hF.1 HFB.out (dn N.length N.length (Nat.le_refl _)) 0
    rw [HGA.out, dn_len] at hin
    have cg := hD1.2.2.2.2.cell 0
    have cD := (hD1.2.2.2.1.cell 0).trans (cellsL_at .i64 _ 0 (by rw [hgF_len]; exact h0N))
    rw [HGA.out] at cD
    simp only [List.getElem?_cons_zero] at cg
    gi_wp2
    refine ⟨by simp, .inl ⟨_, _, rfl, run_takeDeferred hK, ?_⟩⟩
    exact ⟨_, results_tmp rfl _ _ _, rfl, hide_ (by omega), hide_ (hB1.trans (belowK_b (w := w) (Nat.le_refl _) W D2 _ _ (by omega) hK rfl rfl))⟩
  case stop =>
    rintro D2 c pre W _ _ h _
    exact h.elim
end Go.Proofs.Ytjeafblkmipdmaa
