import Derived.Test.YtbgjgbddpcofcaaGreatDoorPart26
import Derived.Test.YtbgjgbddpcofcaaGreatDoorPart25
import Derived.Test.YtbgjgbddpcofcaaGreatDoorPart28
import Derived.Test.YtbgjgbddpcofcaaGreatDoorPart29
import Derived.Test.YtbgjgbddpcofcaaGreatDoorPart15

/- types.Build under way: the builder's memory. -/
namespace Go.Proofs.YtbgjgbddpcofcaaGreatDoor
open Go.RowKit
set_option linter.unusedVariables false

/-- What is left of the nodes. -/
def RsN (w0 : World) (r : Value) (N : List Nd) : Prop := ∃ a c, r = .slice a N.length c ∧ N.length ≤ c ∧ NRow w0 a N
theorem cutEx (a : Option Addr) (n c : Nat) (h1 : 1 ≤ n) (hn : n ≤ c) (w' : World) : (Instr.slice 36 (.slice a n c) (some (.int .i64 1)) none none).run Tryz.prog w' = .ok (.slice (if c = 1 then a else a.map (·.add 7)) (n - 1) (c - 1)) w' := by
  have hu : Tryz.prog.underlying 36 = some (.slice (Tryz.prog.elem 36)) := by kernel_rfl
  have he : Tryz.prog.elem 36 = 40 := by kernel_rfl
  have hz : (sizeOf (Tryz.prog.elem 36)).run Tryz.prog w' = .ok 7 w' := by rw [he]; exact Tryz.sizeOf40 w'
  rw [run_slice_l (P := Tryz.prog) w' 36 _ n c hu .i64 1 (by omega) (by omega), hz]
  simp [sliced, Result.andThen]
/-- The first node of what is left, and what is left behind it. -/
theorem RsN.open {w0 : World} {r : Value} {x : Nd} {N : List Nd} (h : RsN w0 r (x :: N)) : ∃ b o c, r = .slice (some ⟨b, o, none⟩) (N.length + 1) c ∧ N.length + 1 ≤ c ∧ b < w0.heap.size ∧ (∀ w', Below w0.heap.size w0 w' → ∀ j, j < 7 → w'.cell? ⟨b, o + j, none⟩ = (ndc x)[j]?) ∧ RsN w0 (.slice (if c = 1 then some ⟨b, o, none⟩ else (some (⟨b, o, none⟩ : Addr)).map (·.add 7)) (N.length + 1 - 1) (c - 1)) N := by
  obtain ⟨a, c, rfl, hc, hr⟩ := h
  rcases hr with h | ⟨b, o, rfl, hb, hcl⟩
  · cases h
  refine ⟨b, o, c, rfl, by simpa using hc, hb, fun w' hw j hj => ?_, ?_⟩
  · have := hcl 0 x rfl j hj
    rw [hw.cell (p := ⟨b, o + j, none⟩) hb]
    simpa using this
  · simp only [List.length_cons] at hc
    refine ⟨_, _, rfl, by omega, ?_⟩
    by_cases h1 : c = 1
    · exact .inl (List.eq_nil_of_length_eq_zero (by omega))
    · rw [if_neg h1]
      refine .inr ⟨b, o + 7, rfl, hb, fun i y hy j hj => ?_⟩
      have := hcl (i + 1) y (by simpa using hy) j hj
      rw [← this]
      congr 2
      omega
/-- The builder lies here. -/
def BdM (w0 w : World) (g bm nm : Nat) (v : Value) (Q : List (Ty × Value)) (f : ByteArray → Option Nat) (r : Value) : Prop :=
  Blk w g 63 [v, .map (some bm), r] ∧ TOwn w w0.heap.size v Q ∧ MpS w bm nm f ∧ Below w0.heap.size w0 w ∧ w0.heap.size ≤ g ∧ w0.heap.size ≤ bm
section
variable {w0 w w' : World} {g bm nm : Nat} {v v' v2 : Value} {Q Q' : List (Ty × Value)} {f : ByteArray → Option Nat} {r r' : Value}
theorem TOwn.upd {B : Nat} {S : Nat → Prop} (h : TOwn w B v Q) (hu : Upd S w w') (h1 : ∀ k, v.ownBlock = some k → ¬ S k) (hs : ∀ k, S k → B ≤ k) (hn : ∀ k ys, S k → Blk w k 67 ys → False) : TOwn w' B v Q :=
  ⟨ownS_upd h.1 hu h1, fun p hp => (h.2 p hp).upd hu hs hn⟩
theorem BdM.size (h : BdM w0 w g bm nm v Q f r) : w0.heap.size ≤ w.heap.size := h.2.2.2.1.size
theorem BdM.later (h : BdM w0 w g bm nm v Q f r) (hB : Below w.heap.size w w') : BdM w0 w' g bm nm v Q f r :=
  ⟨h.1.later hB, h.2.1.later hB, h.2.2.1.later hB, below_to h.2.2.2.1 hB, h.2.2.2.2⟩
theorem BdM.own (h : BdM w0 w g bm nm v Q f r) {k : Nat} (hk : v.ownBlock = some k) : w0.heap.size ≤ k ∧ k < w.heap.size ∧ ∃ ys, Blk w k 49 ys := ⟨(h.2.1.1.lt k hk).1, (h.2.1.1.lt k hk).2, ownS_type h.2.1.1 hk⟩
theorem BdM.slice (h : BdM w0 w g bm nm v Q f r) : ∃ a c, v = .slice a Q.length c := by
  obtain ⟨a, c, e, -⟩ := own_grow tyq_len h.2.1.1
  exact ⟨a, c, e⟩
/-- A store into a block that is neither the builder's nor the types' nor the map's. -/
theorem BdM.updN (h : BdM w0 w g bm nm v Q f r) {gx : Nat} {t : TypeId} {ys : List Value} (hu : Upd (fun k => k = gx) w w') (hb : Blk w gx t ys) (hg : w0.heap.size ≤ gx) (h1 : v.ownBlock ≠ some gx) (h2 : t ≠ 67) (h3 : gx ≠ g) : BdM w0 w' g bm nm v Q f r :=
  ⟨h.1.upd hu (fun e => h3 e.symm), h.2.1.upd hu (fun k hk e => h1 (e ▸ hk)) (fun k e => by omega) (fun k zs e hz => by subst e; exact h2 (blk_type hb hz)), h.2.2.1.upd hu (fun e => (h.2.2.1.ne hb) e), h.2.2.2.1.trans (hu.below _ h.size (fun k e => by omega)), h.2.2.2.2⟩
theorem BdM.setG (h : BdM w0 w g bm nm v Q f r) (i : Nat) (y : Value) : TOwn (w.setCell ⟨g, i, none⟩ y) w0.heap.size v Q ∧ MpS (w.setCell ⟨g, i, none⟩ y) bm nm f ∧ Below w0.heap.size w0 (w.setCell ⟨g, i, none⟩ y) := by
  have hu : Upd (fun k => k = g) w (w.setCell ⟨g, i, none⟩ y) := (Upd.refl _ w).set _ _ (.inl rfl)
  refine ⟨h.2.1.other h.1 h.2.2.2.2.1 (by decide) (by decide) i y, h.2.2.1.upd hu (fun e => h.2.2.1.ne h.1 e), h.2.2.2.1.trans (hu.below _ h.size (fun k e => by have := h.2.2.2.2.1; omega))⟩
theorem BdM.setR (h : BdM w0 w g bm nm v Q f r) (r' : Value) : BdM w0 (w.setCell ⟨g, 2, none⟩ r') g bm nm v Q f r' := by
  obtain ⟨h1, h2, h3⟩ := h.setG 2 r'
  exact ⟨by have := h.1.set 2 r'; simpa using this, h1, h2, h3, h.2.2.2.2⟩
/-- A type's parts lie in this block. -/
def PBlk (p : Ty × Value) (k : Nat) : Prop := ∃ n c x, p.2 = .slice (some x) n c ∧ 0 < n ∧ x.block = k
theorem BdM.pblk (h : BdM w0 w g bm nm v Q f r) {p : Ty × Value} (hp : p ∈ Q) {k : Nat} (hk : PBlk p k) : k < w.heap.size := by
  obtain ⟨va, vc, e, h1, h2, h3, -⟩ := h.2.1.2 p hp
  obtain ⟨n, c, x, e2, h0, rfl⟩ := hk
  rw [e2] at e
  injection e with e3 e4 e5
  subst e3 e4
  rcases h3 with h3 | ⟨b, o, e6, hb, -⟩
  · rw [h3] at h0; simp at h0
  · injection e6 with e6
    subst e6
    exact hb
/-- What a call of the builder may change: its box and the block of the types; parts of new types lie in new memory. -/
def Bkg (g : Nat) (v v' : Value) (Q Q' : List (Ty × Value)) (w w' : World) : Prop := Upd (fun k => k = g ∨ v.ownBlock = some k) w w' ∧ (∀ k, v'.ownBlock = some k → v.ownBlock = some k ∨ w.heap.size ≤ k) ∧ ∀ p ∈ Q', p ∈ Q ∨ ∀ k, PBlk p k → w.heap.size ≤ k
theorem Bkg.refl (g : Nat) (v : Value) (Q : List (Ty × Value)) (w : World) : Bkg g v v Q Q w w := ⟨Upd.refl _ _, fun k h => .inl h, fun p h => .inl h⟩
theorem Bkg.trans {w2 : World} {Q2 : List (Ty × Value)} (h : Bkg g v v' Q Q' w w') (k : Bkg g v' v2 Q' Q2 w' w2) : Bkg g v v2 Q Q2 w w2 := by
  refine ⟨h.1.trans k.1 (fun b hb hk => ?_), fun b hb => ?_, fun p hp => ?_⟩
  · rcases hk with hk | hk
    · exact .inl hk
    · rcases h.2.1 b hk with h | h
      · exact .inr h
      · omega
  · rcases k.2.1 b hb with h1 | h1
    · exact h.2.1 b h1
    · exact .inr (Nat.le_trans h.1.size h1)
  · rcases k.2.2 p hp with h1 | h1
    · exact h.2.2 p h1
    · exact .inr (fun q hq => Nat.le_trans h.1.size (h1 q hq))
theorem Bkg.then {w2 : World} (h : Bkg g v v' Q Q' w w') (hB : Below w'.heap.size w' w2) : Bkg g v v' Q Q' w w2 := ⟨h.1.then hB, h.2⟩
theorem Bkg.pre {w2 : World} (hB : Below w.heap.size w w') (h : Bkg g v v' Q Q' w' w2) : Bkg g v v' Q Q' w w2 := (Bkg.then (Bkg.refl g v Q w) hB).trans h
theorem Bkg.set (h : Bkg g v v' Q Q' w w') (i : Nat) (y : Value) : Bkg g v v' Q Q' w (w'.setCell ⟨g, i, none⟩ y) := ⟨h.1.set _ _ (.inl (.inl rfl)), h.2⟩
theorem Bkg.new (h : Bkg g v v' Q Q' w w') {gx : Nat} (hx : w.heap.size ≤ gx) (i : Nat) (y : Value) : Bkg g v v' Q Q' w (w'.setCell ⟨gx, i, none⟩ y) := ⟨h.1.set _ _ (.inr hx), h.2⟩
theorem Bkg.newU {w2 : World} {S : Nat → Prop} (h : Bkg g v v' Q Q' w w') (hu : Upd S w' w2) (hS : ∀ k, S k → w.heap.size ≤ k) : Bkg g v v' Q Q' w w2 := ⟨h.1.trans hu (fun k hk e => by have := hS k e; omega), h.2⟩
theorem Bkg.blk (h : Bkg g v v' Q Q' w w') {k : Nat} {t : TypeId} {xs : List Value} (hb : Blk w k t xs) (h1 : k ≠ g) (h2 : v.ownBlock ≠ some k) : Blk w' k t xs := hb.upd h.1 (fun e => e.elim h1 h2)
theorem Bkg.blkT (h : Bkg g v v' Q Q' w w') (hM : BdM w0 w g bm nm v Q f r) {k : Nat} {t : TypeId} {xs : List Value} (hb : Blk w k t xs) (h1 : t ≠ 63) (h2 : t ≠ 49) : Blk w' k t xs :=
  h.blk hb (fun e => by subst e; exact h1 (blk_type hb hM.1)) (fun e => by obtain ⟨-, -, ys, hy⟩ := hM.own e; exact h2 (blk_type hb hy))
theorem Bkg.pown (h : Bkg g v v' Q Q' w w') (hM : BdM w0 w g bm nm v Q f r) {B : Nat} {u : Value} {l : List Ptz} (hp : POwn w B u l) : POwn w' B u l :=
  ownS_upd hp h.1 (fun k hk e => by
    obtain ⟨ys, hy⟩ := ownS_type hp hk
    rcases e with e | e
    · subst e; exact absurd (blk_type hy hM.1) (by decide)
    · obtain ⟨-, -, zs, hz⟩ := hM.own e
      exact absurd (blk_type hy hz) (by decide))
/-- One type more. -/
theorem BdM.push (h : BdM w0 w g bm nm v Q f r) (t : Ty) (u : Value) (hu1 : u.oneCell' = true) (ht : PtIn w w0.heap.size t.ps u) (hl : Q.length ≤ 1000000000) :
    ∃ gT c w', (Builtin.append_ #[26, 26] 26 #[v, .slice (some ⟨w.heap.size, 0, none⟩) 1 1]).run Tryz.prog (w.alloc (.cells #[.int .i64 t.k, .int .i64 t.n, .int .i64 t.e, u] 49)) = .ok (.slice (some ⟨gT, 0, none⟩) (Q.length + 1) c) w' ∧ Blk w' g 63 [v, .map (some bm), r] ∧
      BdM w0 (w'.setCell ⟨g, 0, none⟩ (.slice (some ⟨gT, 0, none⟩) (Q.length + 1) c)) g bm nm (.slice (some ⟨gT, 0, none⟩) (Q.length + 1) c) (Q ++ [(t, u)]) f r ∧ Upd (fun k => v.ownBlock = some k) w w' ∧ (v.ownBlock = some gT ∨ w.heap.size ≤ gT) := by
  obtain ⟨gT, c, w', r1, o1, u1, b1⟩ := h.2.1.push2 t u hu1 ht (by omega) h.size
  have hg : ¬ v.ownBlock = some g := fun e => by
    obtain ⟨-, -, ys, hy⟩ := h.own e
    exact absurd (blk_type hy h.1) (by decide)
  have hb : ¬ v.ownBlock = some bm := fun e => by
    obtain ⟨-, -, ys, hy⟩ := h.own e
    exact h.2.2.1.ne hy rfl
  have k1 := h.1.upd u1 hg
  have hB1 : Below w0.heap.size w0 w' := h.2.2.2.1.trans (u1.below _ h.size (fun k e => (h.own e).1))
  have hw : Upd (fun k => k = g) w' (w'.setCell ⟨g, 0, none⟩ (.slice (some ⟨gT, 0, none⟩) (Q.length + 1) c)) := (Upd.refl _ w').set _ _ (.inl rfl)
  have hs : w0.heap.size ≤ w'.heap.size := hB1.size
  exact ⟨gT, c, w', r1, k1, ⟨by have := k1.set 0 (.slice (some ⟨gT, 0, none⟩) (Q.length + 1) c); simpa using this, o1.other k1 h.2.2.2.2.1 (by decide) (by decide) 0 _, (h.2.2.1.upd u1 hb).upd hw (fun e => h.2.2.1.ne h.1 e), hB1.trans (hw.below _ hs (fun k e => by have := h.2.2.2.2.1; omega)), h.2.2.2.2⟩, u1, b1⟩
theorem Bkg.push {w2 : World} {gT n c : Nat} {t : Ty} {u : Value} (h : Bkg g v v' Q Q' w w') (hu : Upd (fun k => v'.ownBlock = some k) w' w2) (hg : v'.ownBlock = some gT ∨ w'.heap.size ≤ gT) (hub : ∀ k, PBlk (t, u) k → w.heap.size ≤ k) (y : Value) : Bkg g v (.slice (some ⟨gT, 0, none⟩) n c) Q (Q' ++ [(t, u)]) w (w2.setCell ⟨g, 0, none⟩ y) := by
  refine ⟨(h.1.trans hu (fun k hk e => ?_)).set _ _ (.inl (.inl rfl)), fun k hk => ?_, fun p hp => ?_⟩
  · rcases h.2.1 k e with h1 | h1
    · exact .inr h1
    · omega
  · have e := own_is hk
    subst e
    rcases hg with b1 | b1
    · exact h.2.1 _ b1
    · exact .inr (Nat.le_trans h.1.size b1)
  · rcases List.mem_append.1 hp with hp | hp
    · exact h.2.2 p hp
    · simp at hp
      subst hp
      exact .inr hub
/-- One part more. -/
theorem POwn.push2 {B : Nat} {l : List Ptz} (h : POwn w B v l) (p : Ptz) (hl : l.length ≤ 1000000) (hB : B ≤ w.heap.size) :
    ∃ g cap w', (Builtin.append_ #[47, 47] 47 #[v, .slice (some ⟨w.heap.size, 0, none⟩) 1 1]).run Tryz.prog (w.alloc (.cells #[.string p.label, .int .i64 p.tag, .int .i64 p.ty] 67)) = .ok (.slice (some ⟨g, 0, none⟩) (l.length + 1) cap) w' ∧ POwn w' B (.slice (some ⟨g, 0, none⟩) (l.length + 1) cap) (l ++ [p]) ∧ Upd (fun k => v.ownBlock = some k) w w' ∧ (v.ownBlock = some g ∨ w.heap.size ≤ g) := by
  obtain ⟨g, cap, w', h1, h2, h3, h4⟩ := run_pushS (P := Tryz.prog) (t := 47) (e := 67) (c := 3) Tryz.underlying47 infoP rfl (by decide) w 47 h (ptc p) rfl (ptc_one p) (by unfold maxLen; omega) (by omega) hB
  refine ⟨g, cap, w', h1, ?_, h3, h4⟩
  unfold POwn
  rw [cellsG_app, cellsG_one, List.length_append, List.length_singleton]
  exact h2
/-- Blocks that are neither the builder's, nor the types', nor of their parts are changed. -/
theorem BdM.updS (h : BdM w0 w g bm nm v Q f r) {S : Nat → Prop} (hu : Upd S w w') (hg : ¬ S g) (hb : ¬ S bm) (hv : ∀ k, v.ownBlock = some k → ¬ S k) (hB : ∀ k, S k → w0.heap.size ≤ k) (hq : ∀ p ∈ Q, ∀ k, PBlk p k → ¬ S k) : BdM w0 w' g bm nm v Q f r := by
  refine ⟨h.1.upd hu hg, ⟨ownS_upd h.2.1.1 hu hv, fun p hp' => ?_⟩, h.2.2.1.upd hu hb, h.2.2.2.1.trans (hu.below _ h.size hB), h.2.2.2.2⟩
  obtain ⟨va, vc, e, h1, h2, h3, h4⟩ := h.2.1.2 p hp'
  rcases h4 with h4 | h4
  · exact ⟨va, vc, e, h1, h2, .inl h4, .inl h4⟩
  rcases Nat.eq_zero_or_pos p.1.ps.length with h0 | h0
  · have h5 := List.eq_nil_of_length_eq_zero h0
    exact ⟨va, vc, e, h1, h2, .inl h5, .inl h5⟩
  · have key : ∀ x, va = some x → ¬ S x.block := fun x hx => hq p hp' _ ⟨_, vc, x, by rw [e, hx], h0, rfl⟩
    refine ⟨va, vc, e, h1, h2, h3.upd hu key, .inr (fun x hx => ?_)⟩
    rcases h4 x hx with h | ⟨ys, h⟩
    · exact .inl h
    · exact .inr ⟨ys, h.upd hu (key x hx)⟩
/-- Parts grow: the builder stays. -/
theorem BdM.updP (h : BdM w0 w g bm nm v Q f r) {B : Nat} {u : Value} {l : List Ptz} (hp : POwn w B u l) (hB : w0.heap.size ≤ B) (hu : Upd (fun k => u.ownBlock = some k) w w') (hq : ∀ p ∈ Q, ∀ k, u.ownBlock = some k → ¬ PBlk p k) : BdM w0 w' g bm nm v Q f r := by
  refine h.updS hu (fun e => ?_) (fun e => ?_) (fun k hk e => ?_) (fun k e => Nat.le_trans hB (hp.lt k e).1) (fun p hp k hk e => hq p hp k e hk)
  · obtain ⟨ys, hy⟩ := ownS_type hp e
    exact absurd (blk_type hy h.1) (by decide)
  · obtain ⟨ys, hy⟩ := ownS_type hp e
    exact h.2.2.1.ne hy rfl
  · obtain ⟨-, -, ys, hy⟩ := h.own hk
    obtain ⟨zs, hz⟩ := ownS_type hp e
    exact absurd (blk_type hy hz) (by decide)
theorem POwn.pblk {B : Nat} {l : List Ptz} {t : Ty} {k : Nat} (h : POwn w B v l) (hk : PBlk (t, v) k) : v.ownBlock = some k := by
  obtain ⟨n, c, x, e, h0, rfl⟩ := hk
  rcases h.2 with ⟨e2, _⟩ | ⟨gp, cap, cur, e2, _⟩
  · rw [e2] at e; cases e
  · simp only at e
    rw [e2] at e ⊢
    injection e with e3 _ _
    injection e3 with e3
    subst e3
    rfl
theorem retPt {fn : Func} {p : Tmp} (h : fn.results = #[.cell p 67]) {R : Ending → World → Prop} {tmps : Array Value} {gp : Nat} {x y z : Value} (hp : tmps.getD p undef = .pointer (some ⟨gp, 0, none⟩)) (hK : Blk w gp 67 [x, y, z]) (hR : R (.returned (.agg #[x, y, z])) w) :
    bodyPost Tryz.prog fn R Exit.ret ⟨tmps, []⟩ w :=
  bodyPost_ret (results_cell_row h _ _ _ _ #[x, y, z] _ _ hp hK Tryz.underlying67 rfl (by show _ = some 3; kernel_rfl)) rfl hR
end
end Go.Proofs.YtbgjgbddpcofcaaGreatDoor
