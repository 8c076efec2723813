import Derived.Test.YtlbgdgobhiokpaaDoorPart01
import Derived.Maps.OwnSet
import Derived.DeepKeys4
import Derived.Test.YtlbgdgobhiokpaaDoorPart05
import Derived.BigRegion
import Derived.Deep.RegionHeldLaw

/- The gaps of an arena: a set of spots, in memory. -/
namespace Go.Proofs.YtlbgdgobhiokpaaDoor
open Go.RowKit Go.Maps
set_option linter.unusedVariables false

def InR (x : Int) : Prop := -9223372036854775808 ≤ x ∧ x ≤ 9223372036854775807
theorem InR.wf {x : Int} (h : InR x) : (Lit.int .i64 x).wf = true := WalkArith.wf_i64 (by unfold InR at h; omega)
theorem gLaid : laidOutB Tryd.prog = true := by kernel_rfl
theorem gLaw : Keyed Tryd.prog 103 := Keyed.of_law (deep_law_laid gLaid (m := 2) (by omega) (of_decide_eq_true (by kernel_rfl)) (by kernel_rfl) (by rw [Tryd.underlying103]))
theorem gZero (w : World) : (zeroValue 125).run Tryd.prog w = .ok (.agg #[]) w := by kernel_rfl
theorem gKt : Tryd.prog.keyType 103 = true := by kernel_rfl
theorem gCells : Tryd.prog.cellsOf 103 = 2 := by kernel_rfl
theorem gCells3 : Tryd.prog.cellsOf 3 = 1 := by kernel_rfl
def kl (p k : Int) : Lit := .string (keyBytes [.int .i64 p, .int .i64 k])
theorem gLits (n : Nat) {p k : Int} (hp : InR p) (hk : InR k) : Tryd.prog.keyLits (n + 2) 103 [.int .i64 p, .int .i64 k] = some [.int .i64 p, .int .i64 k] := by
  have h1 := hp.wf
  have h2 := hk.wf
  simp [Program.keyLits, Tryd.underlying103, Tryd.underlying3, gCells, gCells3, h1, h2]
theorem key_spot {p k : Int} (hp : InR p) (hk : InR k) : keyOf Tryd.prog 103 (.agg #[.int .i64 p, .int .i64 k]) = some (kl p k) := by
  have hs : Tryd.prog.types.size + 1 = (Tryd.prog.types.size - 1) + 2 := by
    have : 1 ≤ Tryd.prog.types.size := of_decide_eq_true (by kernel_rfl)
    omega
  have hf : (Value.agg #[.int .i64 p, .int .i64 k]).formed Tryd.prog 103 = true := by simp [Value.formed, Tryd.underlying103, gCells]
  unfold keyOf
  rw [Tryd.underlying103]
  simp only [gKt, hf, Bool.and_self, if_true]
  rw [hs, show (Value.agg #[.int .i64 p, .int .i64 k]).cells.toList = [.int .i64 p, .int .i64 k] from rfl, gLits _ hp hk]
  rfl
theorem kl_inj {p k p' k' : Int} (hp : InR p) (hk : InR k) (hp' : InR p') (hk' : InR k') (h : kl p k = kl p' k') : p = p' ∧ k = k' := by
  have := gLaw.inj (key_spot hp hk) (by rw [h]; exact key_spot hp' hk')
  simpa using this
theorem kl_key (p k : Int) : WideAt.IsKeyLit (kl p k) := trivial
abbrev Sp := List (Int × Int)
/-- Block m is a map that holds just these spots. -/
structure Gs (w : World) (m : Nat) (G : Sp) : Prop where
  rng : ∀ e ∈ G, InR e.1 ∧ InR e.2
  nod : G.Nodup
  is : ∃ D, w.ownsMap Tryd.prog 103 (unitElem (H := Unit)) m G.length D ∧ Maps.size D = G.length ∧ ∀ p k, InR p → InR k → Maps.has D (kl p k) = G.contains (p, k)
section
variable {w w' : World} {m : Nat} {G : Sp} {p k : Int}
theorem tight {n : Nat} {D : DataW Unit} (h : w.ownsMap Tryd.prog 103 (unitElem (H := Unit)) m n D) : w.ownsMap Tryd.prog 103 (unitElem (H := Unit)) m (Maps.size D) D := by
  obtain ⟨es, clock, hb, F, _, rfl⟩ := h
  exact ⟨es, clock, hb, F, by simp [Maps.size, length_sorted], rfl⟩
theorem Gs.blk (h : Gs w m G) : ∃ es c, w.heap[m]? = some (.map es c) := by
  obtain ⟨D, ⟨es, c, hb, _⟩, _⟩ := h.is
  exact ⟨es, c, hb⟩
theorem Gs.lt (h : Gs w m G) : m < w.heap.size := by
  obtain ⟨es, c, hb⟩ := h.blk
  exact (Array.getElem?_eq_some_iff.1 hb).1
theorem Gs.of_eq (h : Gs w m G) (e : w'.heap[m]? = w.heap[m]?) : Gs w' m G := by
  obtain ⟨D, ⟨es, c, hb, h1⟩, h2⟩ := h.is
  exact ⟨h.rng, h.nod, D, ⟨es, c, e.trans hb, h1⟩, h2⟩
theorem Gs.later (h : Gs w m G) (hB : Below w.heap.size w w') : Gs w' m G := h.of_eq (hB.block m h.lt)
theorem Gs.upd {S : Nat → Prop} (h : Gs w m G) (hu : Upd S w w') (hm : ¬ S m) : Gs w' m G := h.of_eq (hu.block m h.lt hm)
theorem Gs.ne_blk {g : Nat} {t : TypeId} {xs : List Value} (h : Gs w m G) (hb : Blk w g t xs) : m ≠ g := by
  rintro rfl
  obtain ⟨es, c, h1⟩ := h.blk
  rw [Blk, h1] at hb
  cases hb
theorem Gs.look (h : Gs w m G) (hp : InR p) (hk : InR k) : (Instr.lookup 99 (.map (some m)) (.agg #[.int .i64 p, .int .i64 k]) true).run Tryd.prog w = .ok (.tuple #[.agg #[], .bool (G.contains (p, k))]) w := by
  obtain ⟨D, h1, h2, h3⟩ := h.is
  obtain ⟨v, ps, hr, hv⟩ := h1.look_ok gLaw Tryd.underlying99 (gZero w) unitElem_mk (key_spot hp hk)
  rw [hr, (unitElem_inv hv).1, h3 p k hp hk]
theorem Gs.len (h : Gs w m G) (ty : TypeId) : (Builtin.len_ #[99] ty #[.map (some m)]).run Tryd.prog w = .ok (.int .i64 G.length) w := by
  obtain ⟨D, h1, h2, h3⟩ := h.is
  rw [h1.len Tryd.underlying99 ty, h2]
theorem gs_made (w : World) : Gs (w.alloc (.map #[] 0)) w.heap.size [] :=
  ⟨by simp, List.nodup_nil, _, World.ownsMap_made w Tryd.prog 103 _, rfl, fun p k _ _ => by rfl⟩
theorem Gs.store (h : Gs w m G) (hp : InR p) (hk : InR k) (hn : G.contains (p, k) = false) (hl : G.length < maxLen) :
    ∃ w', (Instr.mapUpdate 99 (.map (some m)) (.agg #[.int .i64 p, .int .i64 k]) (.agg #[])).run Tryd.prog w = .ok () w' ∧ Gs w' m (G ++ [(p, k)]) ∧ Upd (fun q => q = m) w w' := by
  obtain ⟨D, h1, h2, h3⟩ := h.is
  obtain ⟨w', hr, h4, h5⟩ := h1.store gLaw Tryd.underlying99 hl (key_spot hp hk) unitElem_mk
  have ht := h1.tidy gLaw
  have hh : Maps.has D (kl p k) = false := by rw [h3 p k hp hk, hn]
  have hsz : Maps.size (D.put (kl p k) (.agg [])) = (G ++ [(p, k)]).length := by rw [Maps.size_put ht, hh]; simp [h2]
  have hnm : (p, k) ∉ G := by simpa using hn
  refine ⟨w', hr, ⟨?_, ?_, _, by have := tight h4; rw [hsz] at this; exact this, hsz, fun p' k' hp' hk' => ?_⟩, ?_⟩
  · intro e he
    rcases List.mem_append.1 he with h' | h'
    · exact h.rng e h'
    · obtain rfl := List.mem_singleton.1 h'; exact ⟨hp, hk⟩
  · rw [List.nodup_append]
    exact ⟨h.nod, by simp, fun a ha b hb => by simp at hb; subst hb; intro e; exact hnm (e ▸ ha)⟩
  · by_cases e : (p', k') = (p, k)
    · obtain ⟨rfl, rfl⟩ := Prod.mk.inj e
      rw [Maps.has_put_same ht.isMap (kl_key _ _)]
      simp
    · rw [Maps.has_put_other (fun h' => e (by obtain ⟨a, b⟩ := kl_inj hp' hk' hp hk h'; rw [a, b])), h3 p' k' hp' hk']
      have e' : ((p', k') == (p, k)) = false := beq_eq_false_iff_ne.2 e
      simp only [List.contains_eq_mem, List.mem_append, List.mem_singleton, e, or_false]
  · exact (Upd.refl _ _).grown h5.grown (fun q hq => by cases hq; exact .inl rfl)
theorem Gs.drop (h : Gs w m G) (hp : InR p) (hk : InR k) (hn : G.contains (p, k) = true) (ty : TypeId) :
    ∃ w', (Builtin.delete_ #[99, 103] ty #[.map (some m), .agg #[.int .i64 p, .int .i64 k]]).run Tryd.prog w = .ok (.tuple #[]) w' ∧ Gs w' m (G.erase (p, k)) ∧ Upd (fun q => q = m) w w' := by
  obtain ⟨D, h1, h2, h3⟩ := h.is
  obtain ⟨w', hr, h4, h5⟩ := h1.drop gLaw Tryd.underlying99 (key_spot hp hk) ty
  have ht := h1.tidy gLaw
  have hh : Maps.has D (kl p k) = true := by rw [h3 p k hp hk, hn]
  have hm : (p, k) ∈ G := by simpa using hn
  have hsz : Maps.size (D.del (kl p k)) = (G.erase (p, k)).length := by
    have := Maps.size_del (k := kl p k) ht
    rw [hh] at this
    rw [List.length_erase_of_mem hm]
    simp at this
    omega
  refine ⟨w', hr, ⟨?_, h.nod.erase _, _, by have := tight h4; rw [hsz] at this; exact this, hsz, fun p' k' hp' hk' => ?_⟩, ?_⟩
  · intro e he
    exact h.rng e (List.mem_of_mem_erase he)
  · by_cases e : (p', k') = (p, k)
    · obtain ⟨rfl, rfl⟩ := Prod.mk.inj e
      rw [Maps.has_del_same]
      simp [h.nod.mem_erase_iff]
    · rw [Maps.has_del_other (fun h' => e (by obtain ⟨a, b⟩ := kl_inj hp' hk' hp hk h'; rw [a, b])), h3 p' k' hp' hk']
      simp only [List.contains_eq_mem, h.nod.mem_erase_iff, e, ne_eq, not_false_eq_true, true_and]
  · exact (Upd.refl _ _).grown h5.grown (fun q hq => by cases hq; exact .inl rfl)
end
end Go.Proofs.YtlbgdgobhiokpaaDoor

/- An arena in memory, with its gaps; where it lies, and what its steps leave alone. -/
namespace Go.Proofs.YtlbgdgobhiokpaaDoor
open Go.RowKit
set_option linter.unusedVariables false

structure An (B : Nat) (w : World) (b : Nat) (vn vs vm : Value) (N : List Nd) (S G : Stk) : Prop where
  blk : Blk w b 101 [vn, vs, vm]
  hb : B ≤ b
  nod : w.ownsRow B 37 3 vn N.length (cellsN N)
  spo : w.ownsRow B 103 2 vs S.length (cellsS S)
  gap : (vm = .map none ∧ G = []) ∨ ∃ m, vm = .map (some m) ∧ B ≤ m ∧ Gs w m G
/-- The blocks of an arena. -/
def Ft (b : Nat) (vn vs vm : Value) (k : Nat) : Prop := k = b ∨ vn.ownBlock = some k ∨ vs.ownBlock = some k ∨ vm = .map (some k)
structure Mv (b : Nat) (vn vs vm : Value) (w : World) (vn' vs' vm' : Value) (w' : World) : Prop where
  upd : Upd (Ft b vn vs vm) w w'
  feet : ∀ k, Ft b vn' vs' vm' k → Ft b vn vs vm k ∨ w.heap.size ≤ k
def setK (N : List Nd) (o : Nat) (c : Int) : List Nd := N.set o ((N.getD o nil0).1, (N.getD o nil0).2.1, c)
theorem setK_len (N : List Nd) (o : Nat) (c : Int) : (setK N o c).length = N.length := by simp [setK]
section
variable {B b : Nat} {w w' w1 : World} {vn vs vm vn' vs' vm' vn1 vs1 vm1 : Value} {N : List Nd} {S G : Stk} {o : Nat}
theorem Mv.refl (b : Nat) (vn vs vm : Value) (w : World) : Mv b vn vs vm w vn vs vm w := ⟨Upd.refl _ _, fun _ h => .inl h⟩
theorem Mv.trans (h : Mv b vn vs vm w vn1 vs1 vm1 w1) (g : Mv b vn1 vs1 vm1 w1 vn' vs' vm' w') : Mv b vn vs vm w vn' vs' vm' w' := by
  refine ⟨h.upd.trans g.upd fun k hk hT => ?_, fun k hk => ?_⟩
  · rcases h.feet k hT with h' | h'
    · exact h'
    · omega
  · rcases g.feet k hk with h' | h'
    · exact h.feet k h'
    · exact .inr (Nat.le_trans h.upd.size h')
theorem Mv.of_below (hB : Below w.heap.size w w') : Mv b vn vs vm w vn vs vm w' := ⟨Upd.of_below hB, fun _ h => .inl h⟩
theorem Mv.drew (h : Mv b vn vs vm w vn' vs' vm' w') : Mv b vn vs vm w vn' vs' vm' w'.drew := ⟨h.upd.drew, h.feet⟩
theorem Mv.drewN (h : Mv b vn vs vm w vn' vs' vm' w') (n : Nat) : Mv b vn vs vm w vn' vs' vm' (w'.drewN n) := ⟨⟨h.upd.os, h.upd.tape, h.upd.output, h.upd.size, h.upd.block⟩, h.feet⟩
theorem Mv.off (h : Mv b vn vs vm w vn' vs' vm' w') {q : Nat} (hq : q < w.heap.size) (hn : ¬ Ft b vn vs vm q) : ¬ Ft b vn' vs' vm' q := fun h' => by
  rcases h.feet q h' with h1 | h1
  · exact hn h1
  · omega
theorem Mv.blk (h : Mv b vn vs vm w vn' vs' vm' w') {q : Nat} {t : TypeId} {xs : List Value} (hb : Blk w q t xs) (hn : ¬ Ft b vn vs vm q) : Blk w' q t xs := hb.upd h.upd hn
theorem An.feet (h : An B w b vn vs vm N S G) {k : Nat} (hk : Ft b vn vs vm k) : B ≤ k ∧ k < w.heap.size := by
  rcases hk with rfl | hk | hk | hk
  · exact ⟨h.hb, h.blk.lt⟩
  · exact h.nod.lt k hk
  · exact h.spo.lt k hk
  · rcases h.gap with ⟨e, _⟩ | ⟨m, e, h1, h2⟩
    · rw [e] at hk; cases hk
    · rw [e] at hk; cases hk; exact ⟨h1, h2.lt⟩
theorem An.off_t (h : An B w b vn vs vm N S G) {q : Nat} {t : TypeId} {xs : List Value} (hq : Blk w q t xs) (h1 : t ≠ 101) (h2 : t ≠ 37) (h3 : t ≠ 103) : ¬ Ft b vn vs vm q := by
  rintro (rfl | hk | hk | hk)
  · exact h1 (blk_type hq h.blk)
  · obtain ⟨ys, hy⟩ := ownS_type h.nod hk; exact h2 (blk_type hq hy)
  · obtain ⟨ys, hy⟩ := ownS_type h.spo hk; exact h3 (blk_type hq hy)
  · rcases h.gap with ⟨e, _⟩ | ⟨m, e, _, hg⟩
    · rw [e] at hk; cases hk
    · rw [e] at hk; cases hk; exact hg.ne_blk hq rfl
theorem An.upd {T : Nat → Prop} (h : An B w b vn vs vm N S G) (hu : Upd T w w') (hd : ∀ k, Ft b vn vs vm k → ¬ T k) : An B w' b vn vs vm N S G := by
  refine ⟨h.blk.upd hu (hd b (.inl rfl)), h.hb, ownS_upd h.nod hu fun k hk => hd k (.inr (.inl hk)), ownS_upd h.spo hu fun k hk => hd k (.inr (.inr (.inl hk))), ?_⟩
  rcases h.gap with h' | ⟨m, e, h1, h2⟩
  · exact .inl h'
  · exact .inr ⟨m, e, h1, h2.upd hu (hd m (.inr (.inr (.inr e))))⟩
theorem An.later (h : An B w b vn vs vm N S G) (hB : Below w.heap.size w w') : An B w' b vn vs vm N S G := h.upd (Upd.of_below (S := fun _ => False) hB) (fun _ _ h => h)
theorem An.drewN (h : An B w b vn vs vm N S G) (q : Nat) : An B (w.drewN q) b vn vs vm N S G := h.later ⟨rfl, rfl, rfl, Nat.le_refl _, fun _ _ => rfl⟩
theorem An.drew (h : An B w b vn vs vm N S G) : An B w.drew b vn vs vm N S G := h.later (Below.refl _ _).drew
theorem An.base (h : An B w b vn vs vm N S G) : B ≤ w.heap.size := Nat.le_of_lt (Nat.lt_of_le_of_lt h.hb h.blk.lt)
theorem An.c0 (h : An B w b vn vs vm N S G) : w.cell? ⟨b, 0, none⟩ = some vn := h.blk.cell 0
theorem An.c1 (h : An B w b vn vs vm N S G) : w.cell? ⟨b, 1, none⟩ = some vs := h.blk.cell 1
theorem An.c2 (h : An B w b vn vs vm N S G) : w.cell? ⟨b, 2, none⟩ = some vm := h.blk.cell 2
theorem An.vn_is (h : An B w b vn vs vm N S G) : ∃ a c, vn = .slice a N.length c ∧ c ≤ 9223372036854775807 := by
  rcases h.nod.2 with ⟨e, h0⟩ | ⟨g, cap, cur, e, _, _, _, hm, _⟩
  · exact ⟨none, 0, by rw [e, h0], by omega⟩
  · unfold maxLen at hm; exact ⟨_, _, e, hm⟩
theorem An.vm_is (h : An B w b vn vs vm N S G) : ∃ m, vm = .map m := by
  rcases h.gap with ⟨e, _⟩ | ⟨m, e, _⟩ <;> exact ⟨_, e⟩
theorem An.node (h : An B w b vn vs vm N S G) {o : Nat} (ho : o < N.length) :
    ∃ gn cn, vn = .slice (some ⟨gn, 0, none⟩) N.length cn ∧ B ≤ gn ∧ N.length ≤ cn ∧ cn ≤ maxLen ∧ gn < w.heap.size ∧ w.cell? ⟨gn, o * 3, none⟩ = some (.int .i64 (N.getD o nil0).1) ∧ w.cell? ⟨gn, o * 3 + 1, none⟩ = some (.int .u64 (N.getD o nil0).2.1) ∧ w.cell? ⟨gn, o * 3 + 2, none⟩ = some (.int .i64 (N.getD o nil0).2.2) ∧
      w.frozen? ⟨gn, o * 3 + 2, none⟩ = false ∧ ∃ ys, Blk w gn 37 ys := by
  obtain ⟨g, cap, ys, e, hb, hn, hm, hl, ht, hK⟩ := ownS_blk h.nod (by omega)
  have hat : ∀ i, i < N.length * 3 → ys[i]? = (cellsN N)[i]? := fun i hi => by rw [← ht, List.getElem?_take, if_pos hi]
  obtain ⟨c0, c1, c2⟩ := cellsN_at N o ho
  exact ⟨g, cap, e, hb, hn, hm, hK.lt, by rw [hK.cell, hat _ (by omega), c0], by rw [hK.cell, hat _ (by omega), c1], by rw [hK.cell, hat _ (by omega), c2], hK.frozen _, ys, hK⟩
theorem An.look (h : An B w b vn vs vm N S G) {p k : Int} (hp : InR p) (hk : InR k) : (Instr.lookup 99 vm (.agg #[.int .i64 p, .int .i64 k]) true).run Tryd.prog w = .ok (.tuple #[.agg #[], .bool (G.contains (p, k))]) w := by
  rcases h.gap with ⟨rfl, rfl⟩ | ⟨m, rfl, _, hg⟩
  · exact look103 p k w
  · exact hg.look hp hk
theorem An.len (h : An B w b vn vs vm N S G) (ty : TypeId) : (Builtin.len_ #[99] ty #[vm]).run Tryd.prog w = .ok (.int .i64 G.length) w := by
  rcases h.gap with ⟨rfl, rfl⟩ | ⟨m, rfl, _, hg⟩
  · exact Maps.len_nil Tryd.underlying99 ty
  · exact hg.len ty
theorem An.setk (h : An B w b vn vs vm N S G) (ho : o < N.length) {gn cn : Nat} (hv : vn = .slice (some ⟨gn, 0, none⟩) N.length cn) (c : Int) :
    An B (w.setCell ⟨gn, o * 3 + 2, none⟩ (.int .i64 c)) b vn vs vm (setK N o c) S G ∧ Mv b vn vs vm w vn vs vm (w.setCell ⟨gn, o * 3 + 2, none⟩ (.int .i64 c)) := by
  obtain ⟨g, cap, ys, e, hb, hn, hm, hl, ht, hK⟩ := ownS_blk h.nod (by omega)
  rw [hv] at e
  have e1 : gn = g ∧ cn = cap := by simpa using e
  obtain ⟨rfl, rfl⟩ := e1
  have hft : Ft b vn vs vm gn := .inr (.inl (by rw [hv]; rfl))
  have hu : Upd (fun q => q = gn) w (w.setCell ⟨gn, o * 3 + 2, none⟩ (.int .i64 c)) := (Upd.refl _ _).set _ _ (.inl rfl)
  refine ⟨⟨h.blk.upd hu fun e => ?_, h.hb, ?_, own_far h.spo hK (by decide), ?_⟩, ⟨hu.mono fun k _ e => by subst e; exact hft, fun k hk => .inl hk⟩⟩
  · subst e
    exact absurd (blk_type h.blk hK) (by decide)
  · have h2 := ownS_of_blk (n := N.length) (c := 3) (hK.set (o * 3 + 2) (.int .i64 c)) hb (by simpa using hl) hn hm
    rw [List.take_set, ht, cellsN_set N o _ ho] at h2
    rw [setK_len, hv]
    exact h2
  · rcases h.gap with h' | ⟨m, e, h1, h2⟩
    · exact .inl h'
    · exact .inr ⟨m, e, h1, h2.upd hu (h2.ne_blk hK)⟩
theorem An.push (h : An B w b vn vs vm N S G) (k n : Int) (hN : N.length ≤ 2000000) :
    ∃ g cap w', (Builtin.append_ #[22, 22] 22 #[vn, .slice (some ⟨w.heap.size, 0, none⟩) 1 1]).run Tryd.prog (w.alloc (.cells #[.int .i64 k, .int .u64 n, .int .i64 0] 37)) = .ok (.slice (some ⟨g, 0, none⟩) (N.length + 1) cap) w' ∧ w'.cell? ⟨b, 0, none⟩ = some vn ∧ w'.frozen? ⟨b, 0, none⟩ = false ∧ An B (w'.setCell ⟨b, 0, none⟩ (.slice (some ⟨g, 0, none⟩) (N.length + 1) cap)) b (.slice (some ⟨g, 0, none⟩) (N.length + 1) cap) vs vm (N ++ [(k, n, 0)]) S G ∧
      Mv b vn vs vm w (.slice (some ⟨g, 0, none⟩) (N.length + 1) cap) vs vm (w'.setCell ⟨b, 0, none⟩ (.slice (some ⟨g, 0, none⟩) (N.length + 1) cap)) := by
  have hB := h.base
  obtain ⟨g, cap, w', r1, o1, u1, l1⟩ := run_pushS (P := Tryd.prog) (t := 22) (e := 37) (z := .agg #[.int .i64 0, .int .u64 0, .int .i64 0]) (bytes := 24) Tryd.underlying22 (by kernel_rfl) rfl (by decide) w 22 h.nod (ndc (k, n, 0)) rfl (by intro u hu; simp [ndc] at hu; rcases hu with rfl | rfl | rfl <;> rfl) (by unfold maxLen; omega) (by omega) hB
  have hb1 : Blk w' b 101 [vn, vs, vm] := h.blk.upd u1 fun hk => by
    obtain ⟨ys, hy⟩ := ownS_type h.nod hk
    exact absurd (blk_type h.blk hy) (by decide)
  have ho1 : w'.ownsRow B 103 2 vs S.length (cellsS S) := ownS_upd h.spo u1 fun q hq hk => by
    obtain ⟨ys, hy⟩ := ownS_type h.nod hk
    obtain ⟨zs, hz⟩ := ownS_type h.spo hq
    exact absurd (blk_type hy hz) (by decide)
  refine ⟨g, cap, w', r1, hb1.cell 0, hb1.frozen 0, ⟨hb1.set 0 _, h.hb, ?_, own_far ho1 hb1 (by decide), ?_⟩, ⟨?_, ?_⟩⟩
  · have h2 := own_far (i := 0) (u := .slice (some ⟨g, 0, none⟩) (N.length + 1) cap) o1 hb1 (by decide)
    rw [List.length_append, cellsN_append]
    exact h2
  · rcases h.gap with h' | ⟨m, e, h1, h2⟩
    · exact .inl h'
    · have h3 : Gs w' m G := h2.upd u1 fun hk => by
        obtain ⟨ys, hy⟩ := ownS_type h.nod hk
        exact h2.ne_blk hy rfl
      exact .inr ⟨m, e, h1, h3.of_eq (Below.heap_setCell w' _ _ m (h3.ne_blk hb1))⟩
  · exact (u1.mono fun k _ hk => .inr (.inl hk)).set _ _ (.inl (.inl rfl))
  · rintro q (rfl | hq | hq | hq)
    · exact .inl (.inl rfl)
    · have e : g = q := own_is hq
      subst e
      rcases l1 with l1 | l1
      · exact .inl (.inr (.inl l1))
      · exact .inr l1
    · exact .inl (.inr (.inr (.inl hq)))
    · exact .inl (.inr (.inr (.inr hq)))
theorem An.pushs (h : An B w b vn vs vm N S G) (p k : Int) (hS : S.length ≤ 2000000) :
    ∃ g cap w', (Builtin.append_ #[98, 98] 98 #[vs, .slice (some ⟨w.heap.size, 0, none⟩) 1 1]).run Tryd.prog (w.alloc (.cells #[.int .i64 p, .int .i64 k] 103)) = .ok (.slice (some ⟨g, 0, none⟩) (S.length + 1) cap) w' ∧ w'.cell? ⟨b, 1, none⟩ = some vs ∧ w'.frozen? ⟨b, 1, none⟩ = false ∧ An B (w'.setCell ⟨b, 1, none⟩ (.slice (some ⟨g, 0, none⟩) (S.length + 1) cap)) b vn (.slice (some ⟨g, 0, none⟩) (S.length + 1) cap) vm N (S ++ [(p, k)]) G ∧
      Mv b vn vs vm w vn (.slice (some ⟨g, 0, none⟩) (S.length + 1) cap) vm (w'.setCell ⟨b, 1, none⟩ (.slice (some ⟨g, 0, none⟩) (S.length + 1) cap)) := by
  have hB := h.base
  obtain ⟨g, cap, w', r1, o1, u1, l1⟩ := run_pushS (P := Tryd.prog) (t := 98) (e := 103) (z := .agg #[.int .i64 0, .int .i64 0]) (bytes := 16) Tryd.underlying98 (by kernel_rfl) rfl (by decide) w 98 h.spo [.int .i64 p, .int .i64 k] rfl (by intro u hu; simp at hu; rcases hu with rfl | rfl <;> rfl) (by unfold maxLen; omega) (by omega) hB
  have hb1 : Blk w' b 101 [vn, vs, vm] := h.blk.upd u1 fun hk => by
    obtain ⟨ys, hy⟩ := ownS_type h.spo hk
    exact absurd (blk_type h.blk hy) (by decide)
  have ho1 : w'.ownsRow B 37 3 vn N.length (cellsN N) := ownS_upd h.nod u1 fun q hq hk => by
    obtain ⟨ys, hy⟩ := ownS_type h.spo hk
    obtain ⟨zs, hz⟩ := ownS_type h.nod hq
    exact absurd (blk_type hy hz) (by decide)
  refine ⟨g, cap, w', r1, hb1.cell 1, hb1.frozen 1, ⟨hb1.set 1 _, h.hb, own_far ho1 hb1 (by decide), ?_, ?_⟩, ⟨?_, ?_⟩⟩
  · have h2 := own_far (i := 1) (u := .slice (some ⟨g, 0, none⟩) (S.length + 1) cap) o1 hb1 (by decide)
    rw [List.length_append, cellsS_append]
    exact h2
  · rcases h.gap with h' | ⟨m, e, h1, h2⟩
    · exact .inl h'
    · have h3 : Gs w' m G := h2.upd u1 fun hk => by
        obtain ⟨ys, hy⟩ := ownS_type h.spo hk
        exact h2.ne_blk hy rfl
      exact .inr ⟨m, e, h1, h3.of_eq (Below.heap_setCell w' _ _ m (h3.ne_blk hb1))⟩
  · exact (u1.mono fun k _ hk => .inr (.inr (.inl hk))).set _ _ (.inl (.inl rfl))
  · rintro q (rfl | hq | hq | hq)
    · exact .inl (.inl rfl)
    · exact .inl (.inr (.inl hq))
    · have e : g = q := own_is hq
      subst e
      rcases l1 with l1 | l1
      · exact .inl (.inr (.inr (.inl l1)))
      · exact .inr l1
    · exact .inl (.inr (.inr (.inr hq)))
/-- The map is made. -/
theorem An.mkmap (h : An B w b vn vs (.map none) N S G) :
    An B ((w.alloc (.map #[] 0)).setCell ⟨b, 2, none⟩ (.map (some w.heap.size))) b vn vs (.map (some w.heap.size)) N S G ∧ Mv b vn vs (.map none) w vn vs (.map (some w.heap.size)) ((w.alloc (.map #[] 0)).setCell ⟨b, 2, none⟩ (.map (some w.heap.size))) := by
  have hG : G = [] := by
    rcases h.gap with ⟨_, e⟩ | ⟨m, e, _⟩
    · exact e
    · cases e
  subst hG
  have hal : Below w.heap.size w (w.alloc (.map #[] 0)) := (Below.refl _ _).alloc (Nat.le_refl _) _
  have h1 := h.later hal
  have hg := gs_made w
  refine ⟨⟨h1.blk.set 2 _, h.hb, own_far h1.nod h1.blk (by decide), own_far h1.spo h1.blk (by decide), .inr ⟨_, rfl, h.base, hg.of_eq (Below.heap_setCell _ _ _ _ (hg.ne_blk h1.blk))⟩⟩, ⟨((Upd.refl _ w).alloc _).set _ _ (.inl (.inl rfl)), ?_⟩⟩
  rintro q (rfl | hq | hq | hq)
  · exact .inl (.inl rfl)
  · exact .inl (.inr (.inl hq))
  · exact .inl (.inr (.inr (.inl hq)))
  · cases hq; exact .inr (Nat.le_refl _)
theorem An.store {m : Nat} {p k : Int} (h : An B w b vn vs (.map (some m)) N S G) (hp : InR p) (hk : InR k) (hn : G.contains (p, k) = false) (hl : G.length < maxLen) :
    ∃ w', (Instr.mapUpdate 99 (.map (some m)) (.agg #[.int .i64 p, .int .i64 k]) (.agg #[])).run Tryd.prog w = .ok () w' ∧ An B w' b vn vs (.map (some m)) N S (G ++ [(p, k)]) ∧ Mv b vn vs (.map (some m)) w vn vs (.map (some m)) w' := by
  rcases h.gap with ⟨e, _⟩ | ⟨m', e, h1, h2⟩
  · cases e
  cases e
  obtain ⟨w', hr, h3, h4⟩ := h2.store hp hk hn hl
  have hne : ∀ {v : Value} {n c : Nat} {e : TypeId} {xs : List Value}, w.ownsRow B e c v n xs → ∀ q, v.ownBlock = some q → ¬ q = m := fun ho q hq e => by
    subst e
    obtain ⟨ys, hy⟩ := ownS_type ho hq
    exact h2.ne_blk hy rfl
  exact ⟨w', hr, ⟨h.blk.upd h4 fun e => h2.ne_blk h.blk e.symm, h.hb, ownS_upd h.nod h4 (hne h.nod), ownS_upd h.spo h4 (hne h.spo), .inr ⟨m, rfl, h1, h3⟩⟩, ⟨h4.mono fun k _ e => by subst e; exact .inr (.inr (.inr rfl)), fun k hk => .inl hk⟩⟩
theorem An.del {m : Nat} {p k : Int} (h : An B w b vn vs (.map (some m)) N S G) (hp : InR p) (hk : InR k) (hn : G.contains (p, k) = true) (ty : TypeId) :
    ∃ w', (Builtin.delete_ #[99, 103] ty #[.map (some m), .agg #[.int .i64 p, .int .i64 k]]).run Tryd.prog w = .ok (.tuple #[]) w' ∧ An B w' b vn vs (.map (some m)) N S (G.erase (p, k)) ∧ Mv b vn vs (.map (some m)) w vn vs (.map (some m)) w' := by
  rcases h.gap with ⟨e, _⟩ | ⟨m', e, h1, h2⟩
  · cases e
  cases e
  obtain ⟨w', hr, h3, h4⟩ := h2.drop hp hk hn ty
  have hne : ∀ {v : Value} {n c : Nat} {e : TypeId} {xs : List Value}, w.ownsRow B e c v n xs → ∀ q, v.ownBlock = some q → ¬ q = m := fun ho q hq e => by
    subst e
    obtain ⟨ys, hy⟩ := ownS_type ho hq
    exact h2.ne_blk hy rfl
  exact ⟨w', hr, ⟨h.blk.upd h4 fun e => h2.ne_blk h.blk e.symm, h.hb, ownS_upd h.nod h4 (hne h.nod), ownS_upd h.spo h4 (hne h.spo), .inr ⟨m, rfl, h1, h3⟩⟩, ⟨h4.mono fun k _ e => by subst e; exact .inr (.inr (.inr rfl)), fun k hk => .inl hk⟩⟩
theorem An.nonil {p k : Int} (h : An B w b vn vs vm N S G) (hc : G.contains (p, k) = true) : ∃ m, vm = .map (some m) := by
  rcases h.gap with ⟨e, rfl⟩ | ⟨m, e, _⟩
  · simp at hc
  · exact ⟨m, e⟩
end
theorem newA_any (w : World) : Calls Tryd.prog 23 #[] w fun e w' => e = .returned (.pointer (some ⟨w.heap.size, 0, none⟩)) ∧ Hid (An w.heap.size w' w.heap.size (.slice none 0 0) (.slice none 0 0) (.map none) [] [] []) ∧ Below w.heap.size w w' := by
  refine (new_any w).mono ?_
  rintro e w' ⟨rfl, h, hB⟩
  exact ⟨rfl, ⟨h.out.blk, h.out.hb, h.out.nod, h.out.spo, .inl ⟨rfl, rfl⟩⟩, hB⟩
theorem countA_any (B b : Nat) (vn vs vm : Value) (N : List Nd) (S G : Stk) (w : World) (hA : Hid (An B w b vn vs vm N S G)) : Calls Tryd.prog 26 #[.pointer (some ⟨b, 0, none⟩)] w fun e w' => e = .returned (.int .i64 (N.length : Int)) ∧ w = w' := by
  obtain ⟨an, cn, rfl, h1⟩ := hA.out.vn_is
  have c0 := hA.out.c0
  go_enter Tryd.func26, Tryd.ntmps26
  go_wp2
  go_ret
  exact ⟨rfl, rfl⟩
end Go.Proofs.YtlbgdgobhiokpaaDoor

/- refuse: an arena with its gaps. -/
namespace Go.Proofs.YtlbgdgobhiokpaaDoor
open Go.RowKit
set_option linter.unusedVariables false

def refuseG (N : List Nd) (G : Stk) (p k : Int) : Int :=
  if N.length = 0 then (if p = -1 then 0 else 3)
  else if p < 0 ∨ (N.length : Int) ≤ p ∨ k < 0 then 3
  else if mostK (N.getD p.toNat nil0).1 ≤ k then 40 else if G.contains (p, k) = true ∨ k < (N.getD p.toNat nil0).2.2 then 40 else 0
set_option maxRecDepth 100000 in
set_option maxHeartbeats 8000000 in
theorem refuseG_any (B b : Nat) (p k : Int) (vn vs vm : Value) (N : List Nd) (S G : Stk) (w : World) (hA : Hid (An B w b vn vs vm N S G)) (hN : N.length ≤ 1000000) (hkr : InR k) :
    Calls Tryd.prog 45 #[.pointer (some ⟨b, 0, none⟩), spotv p k] w fun e w' => e = .returned (.int .i64 (refuseG N G p k)) ∧ Below w.heap.size w w' := by
  unfold spotv
  obtain ⟨wB, hwB⟩ : ∃ wB, wB = w.alloc (.cells #[.int .i64 p, .int .i64 k] 103) := ⟨_, rfl⟩
  have HBB : Hid (Below w.heap.size w wB) := by rw [hwB]; exact (Below.refl _ _).alloc (Nat.le_refl _) _
  have KB : Hid (Blk wB w.heap.size 103 [.int .i64 p, .int .i64 k]) := by rw [hwB]; exact Blk.newA w _ 103
  have HA : Hid (An B wB b vn vs vm N S G) := hA.out.later HBB.out
  have c0 := HA.out.c0; have c2 := HA.out.c2
  have s0 : wB.cell? ⟨w.heap.size, 0, none⟩ = some (.int .i64 p) := KB.out.cell 0
  have s1 : wB.cell? ⟨w.heap.size, 1, none⟩ = some (.int .i64 k) := KB.out.cell 1
  obtain ⟨an, cn0, rfl, hcn0⟩ := HA.out.vn_is
  have hbl := HA.out.blk.lt
  have hsl := KB.out.lt
  go_enter Tryd.func45, Tryd.ntmps45
  go_upto_region 1 with fail
  rw [← hwB]
  clear hwB hA
  by_cases h0 : N.length = 0
  · have HR : Hid (refuseG N G p k = if p = -1 then 0 else 3) := by show _ = _; rw [refuseG, if_pos h0]
    rw [h0] at c0
    by_cases h1 : p = -1
    · subst h1
      rw [if_pos rfl] at HR
      go_wp2
      go_ret
      exact ⟨ret_int HR.out.symm, HBB.out⟩
    · have hb1 : (p == -1) = false := by simpa using h1
      rw [if_neg h1] at HR
      go_wp2
      go_ret
      exact ⟨ret_int HR.out.symm, HBB.out⟩
  · have hb0 : ((N.length : Int) == 0) = false := beq_eq_false_iff_ne.2 (by omega)
    have HR0 : Hid (refuseG N G p k = if p < 0 ∨ (N.length : Int) ≤ p ∨ k < 0 then 3 else if mostK (N.getD p.toNat nil0).1 ≤ k then 40 else if G.contains (p, k) = true ∨ k < (N.getD p.toNat nil0).2.2 then 40 else 0) := by show _ = _; rw [refuseG, if_neg h0]
    by_cases h1 : p < 0 ∨ (N.length : Int) ≤ p ∨ k < 0
    · rw [if_pos h1] at HR0
      have hc3 : (p < 0) ∨ (¬ p < 0 ∧ (N.length : Int) ≤ p) ∨ (¬ p < 0 ∧ ¬ (N.length : Int) ≤ p ∧ k < 0) := by omega
      clear h1
      rcases hc3 with h1 | ⟨h1, h2⟩ | ⟨h1, h2, h3⟩
      all_goals
        go_wp2_with fail
        go_quiet (fail)
        go_wp2
        go_ret
        exact ⟨ret_int HR0.out.symm, ⟨HBB.out.os, HBB.out.tape, HBB.out.output, HBB.out.size, HBB.out.block⟩⟩
    · rw [if_neg h1] at HR0
      obtain ⟨o, rfl⟩ := Int.eq_ofNat_of_zero_le (show 0 ≤ p by omega)
      have ho : o < N.length := by omega
      have ho' : (o : Int) < N.length := by omega
      obtain ⟨gn, cn, hvn, bn, hn1, hn2, hgn, n0, n1, n2, zn, -⟩ := HA.out.node ho
      have e1 : an = some ⟨gn, 0, none⟩ ∧ cn0 = cn := by simpa using hvn
      obtain ⟨rfl, rfl⟩ := e1
      have HR1 : Hid (refuseG N G (o : Int) k = if mostK (N.getD o nil0).1 ≤ k then 40 else if G.contains ((o : Int), k) = true ∨ k < (N.getD o nil0).2.2 then 40 else 0) := HR0.out
      clear HR0
      obtain ⟨x, hx⟩ : ∃ x, N.getD o nil0 = x := ⟨_, rfl⟩
      rw [hx] at n0 n1 n2 HR1
      clear hx
      obtain ⟨xk, xn, xc⟩ := x
      simp only at n0 n1 n2 HR1
      have hp0 : ¬ (o : Int) < 0 := by omega
      have hp1 : ¬ (N.length : Int) ≤ o := by omega
      have hk0 : ¬ k < 0 := by omega
      clear h1 hvn
      go_wp2_with fail
      go_quiet (fail)
      have HAq : Hid (An B (wB.drewN nq) b (.slice (some ⟨gn, 0, none⟩) N.length cn0) vs vm N S G) := HA.out.drewN nq
      have KBq : Hid (Blk (wB.drewN nq) w.heap.size 103 [.int .i64 (o : Int), .int .i64 k]) := KB.out
      have HBq : Hid (Below w.heap.size w (wB.drewN nq)) := ⟨HBB.out.os, HBB.out.tape, HBB.out.output, HBB.out.size, HBB.out.block⟩
      have HNq : Hid ((wB.drewN nq).cell? ⟨gn, o * 3, none⟩ = some (.int .i64 xk) ∧ (wB.drewN nq).cell? ⟨gn, o * 3 + 1, none⟩ = some (.int .u64 xn) ∧ (wB.drewN nq).cell? ⟨gn, o * 3 + 2, none⟩ = some (.int .i64 xc) ∧ gn < (wB.drewN nq).heap.size) := ⟨n0, n1, n2, hgn⟩
      generalize wB.drewN nq = wq at *
      clear HA KB HBB n0 n1 n2 zn c0 c2 s0 s1 hbl hsl hgn bn
      obtain ⟨n0, n1, n2, hgn⟩ := HNq.out
      have hbl := HAq.out.blk.lt
      have hsl := KBq.out.lt
      have c0 := HAq.out.c0
      have s0 : wq.cell? ⟨w.heap.size, 0, none⟩ = some (.int .i64 (o : Int)) := KBq.out.cell 0
      have HS : Hid (∀ ob, (wq.alloc ob).cell? ⟨b, 0, none⟩ = some (.slice (some ⟨gn, 0, none⟩) N.length cn0) ∧ (wq.alloc ob).cell? ⟨w.heap.size, 0, none⟩ = some (.int .i64 (o : Int)) ∧ (wq.alloc ob).cell? ⟨gn, o * 3, none⟩ = some (.int .i64 xk) ∧ (wq.alloc ob).cell? ⟨gn, o * 3 + 1, none⟩ = some (.int .u64 xn) ∧ (wq.alloc ob).cell? ⟨gn, o * 3 + 2, none⟩ = some (.int .i64 xc)) := fun ob => ⟨(cell_alloc wq ob _ _ hbl).trans c0, (cell_alloc wq ob _ _ hsl).trans s0, (cell_alloc wq ob _ _ hgn).trans n0, (cell_alloc wq ob _ _ hgn).trans n1, (cell_alloc wq ob _ _ hgn).trans n2⟩
      go_wp2_with fail
      go_region_held_law (fun w' => w'.cell? ⟨b, 0, none⟩ = some (.slice (some ⟨gn, 0, none⟩) N.length cn0) ∧ w'.cell? ⟨w.heap.size, 0, none⟩ = some (.int .i64 (o : Int)) ∧ w'.cell? ⟨gn, o * 3, none⟩ = some (.int .i64 xk) ∧ w'.cell? ⟨gn, o * 3 + 1, none⟩ = some (.int .u64 xn) ∧ w'.cell? ⟨gn, o * 3 + 2, none⟩ = some (.int .i64 xc)) (first | assumption | exact ⟨c0, s0, n0, n1, n2⟩ | exact HS.out _) (fail)
      clear HS n0 n1 n2 c0 s0
      go_wp2_with fail
      refine (bounds_any xk _).mono ?_; rintro e w2 ⟨rfl, hB2⟩
      have hBx : Below wq.heap.size wq w2 := (((Below.refl wq.heap.size wq).alloc (Nat.le_refl _) _).drew).trans (hB2.mono (by simp))
      have K2 := (Blk.newA wq #[.int .i64 xk, .int .u64 xn, .int .i64 xc] 37).drew.later hB2
      have HA2 := HAq.out.later hBx
      have KB2 := KBq.out.later hBx
      have HB2 : Hid (Below w.heap.size w w2) := HBq.out.trans (hBx.mono HBq.out.size)
      obtain ⟨wz, hwz⟩ : ∃ wz, wz = w2.alloc (.cells #[.int .u64 (mostN xk), .int .i64 (leastK xk), .int .i64 (mostK xk)] 105) := ⟨_, rfl⟩
      have hBz : Below w2.heap.size w2 wz := by rw [hwz]; exact (Below.refl _ _).alloc (Nat.le_refl _) _
      have HAz : Hid (An B wz b (.slice (some ⟨gn, 0, none⟩) N.length cn0) vs vm N S G) := HA2.later hBz
      have z0 : wz.cell? ⟨w.heap.size, 0, none⟩ = some (.int .i64 (o : Int)) := (KB2.later hBz).cell 0
      have z1 : wz.cell? ⟨w.heap.size, 1, none⟩ = some (.int .i64 k) := (KB2.later hBz).cell 1
      have z2 : wz.cell? ⟨wq.heap.size, 2, none⟩ = some (.int .i64 xc) := (K2.later hBz).cell 2
      have z3 : wz.cell? ⟨w2.heap.size, 2, none⟩ = some (.int .i64 (mostK xk)) := by rw [hwz]; exact (Blk.newA w2 _ 105).cell 2
      have z4 := HAz.out.c2
      have HBz : Hid (Below w.heap.size w wz) := HB2.out.trans (hBz.mono HB2.out.size)
      have za1 : ∀ ob, (wz.alloc ob).cell? ⟨w.heap.size, 1, none⟩ = some (.int .i64 k) := fun ob => ((KB2.later hBz).alloc ob).cell 1
      have za2 : ∀ ob, (wz.alloc ob).cell? ⟨wq.heap.size, 2, none⟩ = some (.int .i64 xc) := fun ob => ((K2.later hBz).alloc ob).cell 2
      unfold bnd
      go_upto_region 9 with fail
      rw [← hwz]
      clear hwz hBz K2 HA2 KB2 HB2 hB2 hBx HAq KBq HBq HNq
      by_cases h4 : mostK xk ≤ k
      · rw [if_pos h4] at HR1
        go_wp2
        go_ret
        exact ⟨ret_int HR1.out.symm, HBz.out⟩
      · rw [if_neg h4] at HR1
        have hl1 := HAz.out.look (p := (o : Int)) ⟨by omega, by omega⟩ hkr
        have hl2 : ∀ ob, (Instr.lookup 99 vm (.agg #[.int .i64 (o : Int), .int .i64 k]) true).run Tryd.prog (wz.alloc ob) = .ok (.tuple #[.agg #[], .bool (G.contains ((o : Int), k))]) (wz.alloc ob) := fun ob => (HAz.out.later ((Below.refl _ _).alloc (Nat.le_refl _) ob)).look ⟨by omega, by omega⟩ hkr
        have hl0 : (Instr.lookup 99 vm (.agg #[.int .i64 (o : Int), .int .i64 k]) true).run Tryd.prog wz.drew = .ok (.tuple #[.agg #[], .bool (G.contains ((o : Int), k))]) wz.drew := HAz.out.drew.look ⟨by omega, by omega⟩ hkr
        have hl3 : ∀ ob, (Instr.lookup 99 vm (.agg #[.int .i64 (o : Int), .int .i64 k]) true).run Tryd.prog (wz.alloc ob).drew = .ok (.tuple #[.agg #[], .bool (G.contains ((o : Int), k))]) (wz.alloc ob).drew := fun ob => (HAz.out.later ((Below.refl _ _).alloc (Nat.le_refl _) ob)).drew.look ⟨by omega, by omega⟩ hkr
        obtain ⟨bg, hbg⟩ : ∃ bg, G.contains ((o : Int), k) = bg := ⟨_, rfl⟩
        rw [hbg] at HR1 hl1 hl0
        simp only [hbg] at hl2 hl3
        clear hbg
        have HS2 : Hid (∀ ob, (wz.alloc ob).cell? ⟨b, 2, none⟩ = some vm ∧ (wz.alloc ob).cell? ⟨w.heap.size, 0, none⟩ = some (.int .i64 (o : Int)) ∧ (wz.alloc ob).cell? ⟨w.heap.size, 1, none⟩ = some (.int .i64 k)) := fun ob => ⟨(HAz.out.blk.alloc ob).cell 2, (cell_alloc wz ob _ _ (World.block_lt_of_cell? wz _ z0)).trans z0, za1 ob⟩
        go_wp2_with fail
        go_region_held_law (fun w' => w'.cell? ⟨b, 2, none⟩ = some vm ∧ w'.cell? ⟨w.heap.size, 0, none⟩ = some (.int .i64 (o : Int)) ∧ w'.cell? ⟨w.heap.size, 1, none⟩ = some (.int .i64 k)) (first | assumption | exact ⟨z4, z0, z1⟩ | exact HS2.out _) (fail)
        all_goals
          clear HS2 hl0 hl1 hl2 hl3 z0 z3 z4
          cases bg
          · by_cases h5 : k < xc
            · rw [if_pos (.inr h5)] at HR1
              go_wp2
              go_ret
              exact ⟨ret_int HR1.out.symm, (HBz.out.alloc HBz.out.size _).drew⟩
            · rw [if_neg (by simp [h5])] at HR1
              go_wp2
              go_ret
              exact ⟨ret_int HR1.out.symm, (HBz.out.alloc HBz.out.size _).drew⟩
          · rw [if_pos (.inl rfl)] at HR1
            go_wp2
            go_ret
            exact ⟨ret_int HR1.out.symm, (HBz.out.alloc HBz.out.size _).drew⟩
end Go.Proofs.YtlbgdgobhiokpaaDoor

/- adopt: a kid behind a gap. -/
namespace Go.Proofs.YtlbgdgobhiokpaaDoor
open Go.RowKit
set_option linter.unusedVariables false

theorem eql_map_nil (w : World) : (binOp BinOp.eql 99 (.map none) (.map none)).run Tryd.prog w = .ok (.bool true) w := by kernel_rfl
theorem eql_map_some (m : Nat) (w : World) : (binOp BinOp.eql 99 (.map (some m)) (.map none)).run Tryd.prog w = .ok (.bool false) w := by kernel_rfl
set_option maxRecDepth 100000 in
set_option maxHeartbeats 8000000 in
theorem adoptG_gap (B b o : Nat) (k : Int) (vn vs vm : Value) (N : List Nd) (S G : Stk) (w : World) (hA : Hid (An B w b vn vs vm N S G)) (hN : N.length ≤ 1000000) (ho : o < N.length) (hkr : InR k) (hk : (N.getD o nil0).2.2 < k) (hG : G.length ≤ 2000000) (hc : G.contains ((o : Int), k) = false) :
    Calls Tryd.prog 46 #[.pointer (some ⟨b, 0, none⟩), spotv (o : Int) k] w fun e w' => e = .returned (.tuple #[]) ∧ ∃ vm', Hid (An B w' b vn vs vm' N S (G ++ [((o : Int), k)])) ∧ Hid (Mv b vn vs vm w vn vs vm' w') := by
  have hor : InR (o : Int) := ⟨by omega, by omega⟩
  have hm63 : G.length < maxLen := by unfold maxLen; omega
  have hmm := @run_makeMap Tryd.prog
  unfold spotv
  obtain ⟨xc, hxc⟩ : ∃ xc, (N.getD o nil0).2.2 = xc := ⟨_, rfl⟩
  rw [hxc] at hk
  obtain ⟨wB, hwB⟩ : ∃ wB, wB = w.alloc (.cells #[.int .i64 (o : Int), .int .i64 k] 103) := ⟨_, rfl⟩
  have HBB : Hid (Below w.heap.size w wB) := by rw [hwB]; exact (Below.refl _ _).alloc (Nat.le_refl _) _
  have KB : Hid (Blk wB w.heap.size 103 [.int .i64 (o : Int), .int .i64 k]) := by rw [hwB]; exact Blk.newA w _ 103
  have HA : Hid (An B wB b vn vs vm N S G) := hA.out.later HBB.out
  have HK : Hid (Mv b vn vs vm w vn vs vm wB) := Mv.of_below HBB.out
  have HF : Hid (¬ Ft b vn vs vm w.heap.size) := fun h => absurd (hA.out.feet h).2 (Nat.lt_irrefl _)
  have c0 := HA.out.c0
  have s0 : wB.cell? ⟨w.heap.size, 0, none⟩ = some (.int .i64 (o : Int)) := KB.out.cell 0
  have s1 : wB.cell? ⟨w.heap.size, 1, none⟩ = some (.int .i64 k) := KB.out.cell 1
  obtain ⟨gn, cn, hvn, bn, hn1, hn2, hgn, n0, n1, n2, zn, -⟩ := HA.out.node ho
  rw [hxc] at n2
  subst hvn
  unfold maxLen at hn2
  have ho' : (o : Int) < N.length := by omega
  clear n0 n1 bn zn
  go_enter Tryd.func46, Tryd.ntmps46
  go_upto_region 1 with fail
  rw [← hwB]
  clear hwB hA HBB
  go_wp2_with fail
  go_quiet (fail)
  go_wp2_with fail
  have HAq : Hid (An B (wB.drewN nq) b (.slice (some ⟨gn, 0, none⟩) N.length cn) vs vm N S G) := HA.out.drewN nq
  have KBq : Hid (Blk (wB.drewN nq) w.heap.size 103 [.int .i64 (o : Int), .int .i64 k]) := KB.out
  have HKq : Hid (Mv b (.slice (some ⟨gn, 0, none⟩) N.length cn) vs vm w (.slice (some ⟨gn, 0, none⟩) N.length cn) vs vm (wB.drewN nq)) := HK.out.drewN nq
  have n2q : (wB.drewN nq).cell? ⟨gn, o * 3 + 2, none⟩ = some (.int .i64 xc) := n2
  clear c0 s0 s1 n2 hgn
  generalize wB.drewN nq = wq at *
  have s1 : wq.cell? ⟨w.heap.size, 1, none⟩ = some (.int .i64 k) := KBq.out.cell 1
  go_quiet (fail)
  have HAz : Hid (An B (wq.drewN nq) b (.slice (some ⟨gn, 0, none⟩) N.length cn) vs vm N S G) := HAq.out.drewN nq
  have KBz : Hid (Blk (wq.drewN nq) w.heap.size 103 [.int .i64 (o : Int), .int .i64 k]) := KBq.out
  have HKz : Hid (Mv b (.slice (some ⟨gn, 0, none⟩) N.length cn) vs vm w (.slice (some ⟨gn, 0, none⟩) N.length cn) vs vm (wq.drewN nq)) := HKq.out.drewN nq
  clear s1 n2q
  generalize wq.drewN nq = wz at *
  clear HA KB HK HAq KBq HKq
  have c2 := HAz.out.c2
  have z2 := HAz.out.blk.frozen 2
  obtain ⟨mm, rfl⟩ := HAz.out.vm_is
  cases mm with
  | none =>
    obtain ⟨hA1, hM1⟩ := HAz.out.mkmap
    obtain ⟨wy, hwy⟩ : ∃ wy, wy = (wz.alloc (.map #[] 0)).setCell ⟨b, 2, none⟩ (.map (some wz.heap.size)) := ⟨_, rfl⟩
    rw [← hwy] at hA1 hM1
    have HA1 : Hid _ := hA1
    have HM1 : Hid _ := HKz.out.trans hM1
    have KB1 : Hid (Blk wy w.heap.size 103 [.int .i64 (o : Int), .int .i64 k]) := hM1.blk KBz.out HF.out
    clear hA1 hM1
    obtain ⟨w', hr, hA2, hM2⟩ := HA1.out.drew.store hor hkr hc hm63
    have HA2 : Hid _ := hA2
    have HM2 : Hid _ := HM1.out.drew.trans hM2
    clear hA2 hM2
    have hcz : (wz.alloc (.map #[] 0)).cell? ⟨b, 2, none⟩ = some (.map none) := (HAz.out.blk.alloc _).cell 2
    have hfz : (wz.alloc (.map #[] 0)).frozen? ⟨b, 2, none⟩ = false := (HAz.out.blk.alloc _).frozen 2
    have heq := eql_map_nil
    go_upto_region 5 with fail
    rw [← hwy]
    clear hwy c2 z2 hcz hfz
    have c2 := HA1.out.c2
    have s0 : wy.cell? ⟨w.heap.size, 0, none⟩ = some (.int .i64 (o : Int)) := KB1.out.cell 0
    have s1 : wy.cell? ⟨w.heap.size, 1, none⟩ = some (.int .i64 k) := KB1.out.cell 1
    go_wp2_with fail
    go_region
    go_wp2
    exact bodyPost_ret (results_none rfl _ _ _) rfl ⟨rfl, _, HA2.out, HM2.out⟩
  | some m =>
    obtain ⟨w', hr, hA2, hM2⟩ := HAz.out.drew.store hor hkr hc hm63
    have HA2 : Hid _ := hA2
    have HM2 : Hid _ := HKz.out.drew.trans hM2
    clear hA2 hM2
    have s0 : wz.cell? ⟨w.heap.size, 0, none⟩ = some (.int .i64 (o : Int)) := KBz.out.cell 0
    have s1 : wz.cell? ⟨w.heap.size, 1, none⟩ = some (.int .i64 k) := KBz.out.cell 1
    have heq := eql_map_some m
    go_wp2_with fail
    go_region
    go_wp2
    exact bodyPost_ret (results_none rfl _ _ _) rfl ⟨rfl, _, HA2.out, HM2.out⟩
end Go.Proofs.YtlbgdgobhiokpaaDoor

/- adopt: a kid that closes a gap. -/
namespace Go.Proofs.YtlbgdgobhiokpaaDoor
open Go.RowKit
set_option linter.unusedVariables false

def fillG : Nat → Int → Int → Stk → Int × Stk
  | 0, _, c, G => (c, G)
  | f + 1, o, c, G => if G.contains (o, c) = true then fillG f o (c + 1) (G.erase (o, c)) else (c, G)
theorem erase_len {G : Stk} {o c : Int} (h : G.contains (o, c) = true) : G.length = (G.erase (o, c)).length + 1 := by
  have hm : (o, c) ∈ G := by simpa using h
  rw [List.length_erase_of_mem hm]
  have := List.length_pos_of_mem hm
  omega
theorem fillG_hit {G : Stk} {o c : Int} (h : G.contains (o, c) = true) : fillG G.length o c G = fillG (G.erase (o, c)).length o (c + 1) (G.erase (o, c)) := by
  rw [erase_len h, fillG, if_pos h]
theorem fillG_stop {G : Stk} {o c : Int} (h : G.contains (o, c) = false) : fillG G.length o c G = (c, G) := by
  cases hl : G.length with
  | zero => rfl
  | succ n => rw [fillG, if_neg (by rw [h]; simp)]
theorem setK_at (N : List Nd) (o : Nat) (c : Int) (ho : o < N.length) : (setK N o c).getD o nil0 = ((N.getD o nil0).1, (N.getD o nil0).2.1, c) := by
  unfold setK
  rw [List.getD_eq_getElem?_getD, List.getElem?_set_self ho]
  rfl
theorem setK_setK (N : List Nd) (o : Nat) (c d : Int) (ho : o < N.length) : setK (setK N o c) o d = setK N o d := by
  rw [setK, setK_at N o c ho]
  simp [setK]
set_option maxRecDepth 100000 in
set_option maxHeartbeats 8000000 in
theorem adoptG_fill (B b o : Nat) (xc : Int) (vn vs vm : Value) (N : List Nd) (S G : Stk) (w : World) (hA : Hid (An B w b vn vs vm N S G)) (hN : N.length ≤ 1000000) (ho : o < N.length) (hxc : (N.getD o nil0).2.2 = xc) (hk : 0 ≤ xc ∧ xc ≤ 2000000) (hG : G.length ≤ 2000000) :
    Calls Tryd.prog 46 #[.pointer (some ⟨b, 0, none⟩), spotv (o : Int) xc] w fun e w' => e = .returned (.tuple #[]) ∧ Hid (An B w' b vn vs vm (setK N o (fillG G.length o (xc + 1) G).1) S (fillG G.length o (xc + 1) G).2) ∧ Hid (Mv b vn vs vm w vn vs vm w') := by
  unfold spotv
  obtain ⟨wB, hwB⟩ : ∃ wB, wB = w.alloc (.cells #[.int .i64 (o : Int), .int .i64 xc] 103) := ⟨_, rfl⟩
  have HBB : Hid (Below w.heap.size w wB) := by rw [hwB]; exact (Below.refl _ _).alloc (Nat.le_refl _) _
  have KB : Hid (Blk wB w.heap.size 103 [.int .i64 (o : Int), .int .i64 xc]) := by rw [hwB]; exact Blk.newA w _ 103
  have HA : Hid (An B wB b vn vs vm N S G) := hA.out.later HBB.out
  have HK : Hid (Mv b vn vs vm w vn vs vm wB) := Mv.of_below HBB.out
  have HF : Hid (¬ Ft b vn vs vm w.heap.size) := fun h => absurd (hA.out.feet h).2 (Nat.lt_irrefl _)
  have c0 := HA.out.c0
  have s0 : wB.cell? ⟨w.heap.size, 0, none⟩ = some (.int .i64 (o : Int)) := KB.out.cell 0
  have s1 : wB.cell? ⟨w.heap.size, 1, none⟩ = some (.int .i64 xc) := KB.out.cell 1
  obtain ⟨gn, cn, hvn, bn, hn1, hn2, hgn, n0, n1, n2, zn, -⟩ := HA.out.node ho
  rw [hxc] at n2
  have HI : Hid (∀ q, An B ((wB.drewN q).setCell ⟨gn, o * 3 + 2, none⟩ (.int .i64 (xc + 1))) b vn vs vm (setK N o (xc + 1)) S G ∧ Mv b vn vs vm (wB.drewN q) vn vs vm ((wB.drewN q).setCell ⟨gn, o * 3 + 2, none⟩ (.int .i64 (xc + 1)))) := fun q => (HA.out.drewN q).setk ho hvn (xc + 1)
  subst hvn
  unfold maxLen at hn2
  have ho' : (o : Int) < N.length := by omega
  have hor : InR (o : Int) := ⟨by omega, by omega⟩
  clear n0 n1 bn
  go_enter Tryd.func46, Tryd.ntmps46
  go_upto_region 1 with fail
  rw [← hwB]
  clear hwB hA HBB
  go_wp2_with fail
  go_quiet (fail)
  go_wp2_with fail
  go_quiet (fail)
  go_wp2_with fail
  go_loopw [] (fun wr => ∃ (c : Int) (G' : Stk), xc + 1 ≤ c ∧ c + G'.length = xc + 1 + G.length ∧ Hid (fillG G'.length o c G' = fillG G.length o (xc + 1) G) ∧ Hid (An B wr b (.slice (some ⟨gn, 0, none⟩) N.length cn) vs vm (setK N o c) S G') ∧ Hid (Mv b (.slice (some ⟨gn, 0, none⟩) N.length cn) vs vm w (.slice (some ⟨gn, 0, none⟩) N.length cn) vs vm wr) ∧ Hid (Blk wr w.heap.size 103 [.int .i64 (o : Int), .int .i64 xc])) (fun wr => match wr.cell? ⟨gn, o * 3 + 2, none⟩ with | some (.int _ c) => (xc + 1 + G.length - c).toNat | _ => 0)
  case atStart => exact ⟨xc + 1, G, Int.le_refl _, rfl, rfl, (HI.out _).1, (HK.out.drewN _).trans (HI.out _).2, (HI.out _).2.blk (show Blk (wB.drewN _) _ _ _ from KB.out) HF.out⟩
  case round =>
    clear c0 s0 s1 n2 zn HA HK KB HI hgn
    obtain ⟨c, G', hc1, hc2, HFl, HA, HK, KB⟩ := hrel
    have hcr : InR c := ⟨by omega, by omega⟩
    have hoS : o < (setK N o c).length := by rw [setK_len]; exact ho
    obtain ⟨gn', cn', hv', -, -, -, hgn, -, -, n2, zn, -⟩ := HA.out.node hoS
    rw [setK_len] at hv'
    have e1 : gn = gn' ∧ cn = cn' := by simpa using hv'
    obtain ⟨rfl, rfl⟩ := e1
    rw [setK_at N o c ho] at n2
    simp only at n2
    clear hv'
    have s0 : wr.cell? ⟨w.heap.size, 0, none⟩ = some (.int .i64 (o : Int)) := KB.out.cell 0
    have hsl := KB.out.lt
    have HS : Hid (∀ ob, (wr.alloc ob).cell? ⟨w.heap.size, 0, none⟩ = some (.int .i64 (o : Int)) ∧ (wr.alloc ob).cell? ⟨gn, o * 3 + 2, none⟩ = some (.int .i64 c)) := fun ob => ⟨(cell_alloc wr ob _ _ hsl).trans s0, (cell_alloc wr ob _ _ hgn).trans n2⟩
    have HN0 : Hid (wr.cell? ⟨gn, o * 3 + 2, none⟩ = some (.int .i64 c)) := n2
    go_wp2_with fail
    go_region_held_law (fun w' => w'.cell? ⟨w.heap.size, 0, none⟩ = some (.int .i64 (o : Int)) ∧ w'.cell? ⟨gn, o * 3 + 2, none⟩ = some (.int .i64 c)) (first | assumption | exact ⟨s0, n2⟩ | exact HS.out _) (fail)
    obtain ⟨wz, hwz⟩ : ∃ wz, wz = (wr.alloc (.cells #[.int .i64 (o : Int), .int .i64 c] 103)).drew := ⟨_, rfl⟩
    have hBz : Below wr.heap.size wr wz := by rw [hwz]; exact ((Below.refl _ _).alloc (Nat.le_refl _) _).drew
    have HAz : Hid (An B wz b (.slice (some ⟨gn, 0, none⟩) N.length cn) vs vm (setK N o c) S G') := HA.out.later hBz
    have HKz : Hid (Mv b (.slice (some ⟨gn, 0, none⟩) N.length cn) vs vm w (.slice (some ⟨gn, 0, none⟩) N.length cn) vs vm wz) := HK.out.trans (Mv.of_below hBz)
    have KBz : Hid (Blk wz w.heap.size 103 [.int .i64 (o : Int), .int .i64 xc]) := KB.out.later hBz
    have KNz : Hid (Blk wz wr.heap.size 103 [.int .i64 (o : Int), .int .i64 c]) := by rw [hwz]; exact Blk.newA wr _ 103
    have HFn : Hid (¬ Ft b (.slice (some ⟨gn, 0, none⟩) N.length cn) vs vm wr.heap.size) := fun h => absurd (HA.out.feet h).2 (Nat.lt_irrefl _)
    have t0 : wz.cell? ⟨wr.heap.size, 0, none⟩ = some (.int .i64 (o : Int)) := KNz.out.cell 0
    have t1 : wz.cell? ⟨wr.heap.size, 1, none⟩ = some (.int .i64 c) := KNz.out.cell 1
    have htl : wr.heap.size < wz.heap.size := World.block_lt_of_cell? wz _ t0
    have z4 := HAz.out.c2
    rw [← hwz]
    clear hwz HS s0 n2 HA HK KB hBz hsl hgn zn
    have HS2 : Hid (∀ ob, (wz.alloc ob).cell? ⟨b, 2, none⟩ = some vm ∧ (wz.alloc ob).cell? ⟨wr.heap.size, 0, none⟩ = some (.int .i64 (o : Int)) ∧ (wz.alloc ob).cell? ⟨wr.heap.size, 1, none⟩ = some (.int .i64 c)) := fun ob => ⟨(HAz.out.blk.alloc ob).cell 2, (cell_alloc wz ob _ _ htl).trans t0, (cell_alloc wz ob _ _ htl).trans t1⟩
    have hl0 : (Instr.lookup 99 vm (.agg #[.int .i64 (o : Int), .int .i64 c]) true).run Tryd.prog wz.drew = .ok (.tuple #[.agg #[], .bool (G'.contains ((o : Int), c))]) wz.drew := HAz.out.drew.look hor hcr
    have hl3 : ∀ ob, (Instr.lookup 99 vm (.agg #[.int .i64 (o : Int), .int .i64 c]) true).run Tryd.prog (wz.alloc ob).drew = .ok (.tuple #[.agg #[], .bool (G'.contains ((o : Int), c))]) (wz.alloc ob).drew := fun ob => (HAz.out.later ((Below.refl _ _).alloc (Nat.le_refl _) ob)).drew.look hor hcr
    obtain ⟨bg, hbg⟩ : ∃ bg, G'.contains ((o : Int), c) = bg := ⟨_, rfl⟩
    rw [hbg] at hl0
    simp only [hbg] at hl3
    have HBG : Hid (G'.contains ((o : Int), c) = bg) := hbg
    clear hbg
    go_wp2_with fail
    go_region_held_law (fun w' => w'.cell? ⟨b, 2, none⟩ = some vm ∧ w'.cell? ⟨wr.heap.size, 0, none⟩ = some (.int .i64 (o : Int)) ∧ w'.cell? ⟨wr.heap.size, 1, none⟩ = some (.int .i64 c)) (first | assumption | exact ⟨z4, t0, t1⟩ | exact HS2.out _) (fail)
    all_goals
      clear HS2 hl0 hl3 z4 t0 t1 htl
      obtain ⟨wy, hwy⟩ : ∃ wy, wy = (wz.alloc (.cells #[] 125)).drew := ⟨_, rfl⟩
      have hB3 : Below wz.heap.size wz wy := by rw [hwy]; exact ((Below.refl _ _).alloc (Nat.le_refl _) _).drew
      have HAy : Hid (An B wy b (.slice (some ⟨gn, 0, none⟩) N.length cn) vs vm (setK N o c) S G') := HAz.out.later hB3
      have HKy : Hid (Mv b (.slice (some ⟨gn, 0, none⟩) N.length cn) vs vm w (.slice (some ⟨gn, 0, none⟩) N.length cn) vs vm wy) := HKz.out.trans (Mv.of_below hB3)
      have KBy : Hid (Blk wy w.heap.size 103 [.int .i64 (o : Int), .int .i64 xc]) := KBz.out.later hB3
      have KNy : Hid (Blk wy wr.heap.size 103 [.int .i64 (o : Int), .int .i64 c]) := KNz.out.later hB3
      rw [← hwy]
      clear hwy hB3 HAz HKz KBz KNz
      cases bg
      · have HE := fillG_stop HBG.out
        rw [HFl.out] at HE
        go_wp2
        exact bodyPost_ret (results_none rfl _ _ _) rfl ⟨rfl, by rw [HE]; exact HAy.out, HKy.out⟩
      · have HE := fillG_hit HBG.out
        have hel := erase_len HBG.out
        rw [HFl.out] at HE
        obtain ⟨m, rfl⟩ := HAy.out.nonil HBG.out
        obtain ⟨wd, hr, hA2, hM2⟩ := HAy.out.drew.del hor hcr HBG.out 0
        have HAd : Hid _ := hA2
        have HKd : Hid _ := HKy.out.drew.trans hM2
        have KBd : Hid (Blk wd w.heap.size 103 [.int .i64 (o : Int), .int .i64 xc]) := hM2.blk KBy.out.drew HF.out
        clear hA2 hM2
        have y2 := HAy.out.c2
        have y3 : wy.cell? ⟨wr.heap.size, 0, none⟩ = some (.int .i64 (o : Int)) := KNy.out.cell 0
        have y4 : wy.cell? ⟨wr.heap.size, 1, none⟩ = some (.int .i64 c) := KNy.out.cell 1
        obtain ⟨gn', cn', hv', -, -, -, hgn, -, -, n2, zn, -⟩ := HAd.out.node hoS
        rw [setK_len] at hv'
        have e1 : gn = gn' ∧ cn = cn' := by simpa using hv'
        obtain ⟨rfl, rfl⟩ := e1
        rw [setK_at N o c ho] at n2
        simp only at n2
        clear hv'
        have HI : Hid (An B (wd.setCell ⟨gn, o * 3 + 2, none⟩ (.int .i64 (c + 1))) b (.slice (some ⟨gn, 0, none⟩) N.length cn) vs (.map (some m)) (setK N o (c + 1)) S (G'.erase ((o : Int), c)) ∧ Mv b (.slice (some ⟨gn, 0, none⟩) N.length cn) vs (.map (some m)) wd (.slice (some ⟨gn, 0, none⟩) N.length cn) vs (.map (some m)) (wd.setCell ⟨gn, o * 3 + 2, none⟩ (.int .i64 (c + 1)))) := by
          have h := HAd.out.setk hoS (gn := gn) (cn := cn) (by rw [setK_len]) (c + 1)
          rw [setK_setK N o c (c + 1) ho] at h
          exact h
        go_wp2_with fail
        go_region
        go_wp2
        go_roundw
        case rel => exact ⟨c + 1, G'.erase ((o : Int), c), by omega, by omega, HE.symm, HI.out.1, HKd.out.trans HI.out.2, HI.out.2.blk KBd.out HF.out⟩
        case measure => rw [World.cell?_setCell_same _ _ _ n2, HN0.out]; simp only; omega
end Go.Proofs.YtlbgdgobhiokpaaDoor

/- adopt: a kid that comes in order. -/
namespace Go.Proofs.YtlbgdgobhiokpaaDoor
open Go.RowKit
set_option linter.unusedVariables false

theorem Ar.drewN {B b : Nat} {w : World} {vn vs : Value} {N : List Nd} {S : Stk} (h : Ar B w b vn vs N S) (q : Nat) : Ar B (w.drewN q) b vn vs N S := ⟨h.blk, h.hb, h.nod, h.spo⟩
theorem KeptA.drewN {B : Nat} {w w1 : World} (h : KeptA B w w1) (n : Nat) : KeptA B w (w1.drewN n) := ⟨⟨h.bel.os, h.bel.tape, h.bel.output, h.bel.size, h.bel.block⟩, h.oth⟩
set_option maxRecDepth 100000 in
set_option maxHeartbeats 8000000 in
theorem adopt_any (B b o : Nat) (vn vs : Value) (N : List Nd) (S : Stk) (w : World) (hA : Hid (Ar B w b vn vs N S)) (hN : N.length ≤ 1000000) (ho : o < N.length) (hk : 0 ≤ (N.getD o nil0).2.2 ∧ (N.getD o nil0).2.2 ≤ 2000000) :
    Calls Tryd.prog 46 #[.pointer (some ⟨b, 0, none⟩), spotv (o : Int) (N.getD o nil0).2.2] w fun e w' => e = .returned (.tuple #[]) ∧ Hid (Ar B w' b vn vs (incK N o) S) ∧ Hid (KeptA B w w') := by
  unfold spotv
  obtain ⟨xc, hxc⟩ : ∃ xc, (N.getD o nil0).2.2 = xc := ⟨_, rfl⟩
  rw [hxc] at hk ⊢
  obtain ⟨wB, hwB⟩ : ∃ wB, wB = w.alloc (.cells #[.int .i64 (o : Int), .int .i64 xc] 103) := ⟨_, rfl⟩
  have HBB : Hid (Below w.heap.size w wB) := by rw [hwB]; exact (Below.refl _ _).alloc (Nat.le_refl _) _
  have KB : Hid (Blk wB w.heap.size 103 [.int .i64 (o : Int), .int .i64 xc]) := by rw [hwB]; exact Blk.newA w _ 103
  have HA : Hid (Ar B wB b vn vs N S) := hA.out.later HBB.out
  have HK : Hid (KeptA B w wB) := KeptA.of_below hA.out.base HBB.out
  have c0 := HA.out.c0; have c2 := HA.out.c2
  have s0 : wB.cell? ⟨w.heap.size, 0, none⟩ = some (.int .i64 (o : Int)) := KB.out.cell 0
  have s1 : wB.cell? ⟨w.heap.size, 1, none⟩ = some (.int .i64 xc) := KB.out.cell 1
  obtain ⟨gn, cn, hvn, bn, hn1, hn2, hgn, n0, n1, n2, zn, hKn⟩ := HA.out.node ho
  rw [hxc] at n2
  have HI : Hid (∀ q, Ar B ((wB.drewN q).setCell ⟨gn, o * 3 + 2, none⟩ (.int .i64 (xc + 1))) b vn vs (incK N o) S ∧ KeptA B (wB.drewN q) ((wB.drewN q).setCell ⟨gn, o * 3 + 2, none⟩ (.int .i64 (xc + 1))) ∧ Blk ((wB.drewN q).setCell ⟨gn, o * 3 + 2, none⟩ (.int .i64 (xc + 1))) w.heap.size 103 [.int .i64 (o : Int), .int .i64 xc] ∧ ((wB.drewN q).setCell ⟨gn, o * 3 + 2, none⟩ (.int .i64 (xc + 1))).cell? ⟨gn, o * 3 + 2, none⟩ = some (.int .i64 (xc + 1))) := fun q => by
    obtain ⟨h1, h2⟩ := (HA.out.drewN q).inc ho hvn
    rw [hxc] at h1 h2
    refine ⟨h1, h2, KB.out.other _ _ fun e => ?_, World.cell?_setCell_same _ _ _ (show (wB.drewN q).cell? _ = _ from n2)⟩
    obtain ⟨ys, hy⟩ := hKn
    have e2 : w.heap.size = gn := e
    rw [← e2] at hy
    exact absurd (blk_type KB.out hy) (by decide)
  subst hvn
  unfold maxLen at hn2
  have ho' : (o : Int) < N.length := by omega
  clear hKn n0 n1 bn
  go_enter Tryd.func46, Tryd.ntmps46
  go_upto_region 1 with fail
  rw [← hwB]
  clear hwB hA HBB
  go_wp2_with fail
  go_quiet (fail)
  go_wp2_with fail
  go_quiet (fail)
  go_wp2_with fail
  go_loopw [] (fun wr => Hid (Ar B wr b (.slice (some ⟨gn, 0, none⟩) N.length cn) vs (incK N o) S) ∧ Hid (KeptA B w wr) ∧ Hid (Blk wr w.heap.size 103 [.int .i64 (o : Int), .int .i64 xc]) ∧ Hid (wr.cell? ⟨gn, o * 3 + 2, none⟩ = some (.int .i64 (xc + 1)))) (fun _ => 0)
  case atStart => exact ⟨(HI.out _).1, (HK.out.drewN _).trans (HI.out _).2.1, (HI.out _).2.2.1, (HI.out _).2.2.2⟩
  case round =>
    clear c0 c2 s0 s1 n2 zn HA HK KB HI hgn
    obtain ⟨HA, HK, KB, HN⟩ := hrel
    have c2 := HA.out.c2
    have s0 : wr.cell? ⟨w.heap.size, 0, none⟩ = some (.int .i64 (o : Int)) := KB.out.cell 0
    have n2 := HN.out
    have hsl := KB.out.lt
    have hgn := World.block_lt_of_cell? wr _ n2
    have hbl := HA.out.blk.lt
    have HS : Hid (∀ ob, (wr.alloc ob).cell? ⟨w.heap.size, 0, none⟩ = some (.int .i64 (o : Int)) ∧ (wr.alloc ob).cell? ⟨gn, o * 3 + 2, none⟩ = some (.int .i64 (xc + 1))) := fun ob => ⟨(cell_alloc wr ob _ _ hsl).trans s0, (cell_alloc wr ob _ _ hgn).trans n2⟩
    go_wp2_with fail
    go_region_held_law (fun w' => w'.cell? ⟨w.heap.size, 0, none⟩ = some (.int .i64 (o : Int)) ∧ w'.cell? ⟨gn, o * 3 + 2, none⟩ = some (.int .i64 (xc + 1))) (first | assumption | exact ⟨s0, n2⟩ | exact HS.out _) (fail)
    obtain ⟨wz, hwz⟩ : ∃ wz, wz = (wr.alloc (.cells #[.int .i64 (o : Int), .int .i64 (xc + 1)] 103)).drew := ⟨_, rfl⟩
    have hBz : Below wr.heap.size wr wz := by rw [hwz]; exact ((Below.refl _ _).alloc (Nat.le_refl _) _).drew
    have HAz : Hid (Ar B wz b (.slice (some ⟨gn, 0, none⟩) N.length cn) vs (incK N o) S) := HA.out.later hBz
    have HKz : Hid (KeptA B w wz) := HK.out.trans (KeptA.of_below HA.out.base hBz)
    have t0 : wz.cell? ⟨wr.heap.size, 0, none⟩ = some (.int .i64 (o : Int)) := by rw [hwz]; exact (Blk.newA wr _ 103).cell 0
    have t1 : wz.cell? ⟨wr.heap.size, 1, none⟩ = some (.int .i64 (xc + 1)) := by rw [hwz]; exact (Blk.newA wr _ 103).cell 1
    have htl : wr.heap.size < wz.heap.size := World.block_lt_of_cell? wz _ t0
    have z4 := HAz.out.c2
    rw [← hwz]
    clear hwz HS s0 n2 c2 HA HK KB HN hBz
    have hlook := look103 (o : Int) (xc + 1)
    have HS2 : Hid (∀ ob, (wz.alloc ob).cell? ⟨b, 2, none⟩ = some (.map none) ∧ (wz.alloc ob).cell? ⟨wr.heap.size, 0, none⟩ = some (.int .i64 (o : Int)) ∧ (wz.alloc ob).cell? ⟨wr.heap.size, 1, none⟩ = some (.int .i64 (xc + 1))) := fun ob => ⟨(HAz.out.blk.alloc ob).cell 2, (cell_alloc wz ob _ _ htl).trans t0, (cell_alloc wz ob _ _ htl).trans t1⟩
    go_wp2_with fail
    go_region_held_law (fun w' => w'.cell? ⟨b, 2, none⟩ = some (.map none) ∧ w'.cell? ⟨wr.heap.size, 0, none⟩ = some (.int .i64 (o : Int)) ∧ w'.cell? ⟨wr.heap.size, 1, none⟩ = some (.int .i64 (xc + 1))) (first | assumption | exact ⟨z4, t0, t1⟩ | exact HS2.out _) (fail)
    all_goals
      go_wp2
      have hB3 : Below wz.heap.size wz (wz.alloc (.cells #[] 125)).drew := ((Below.refl _ _).alloc (Nat.le_refl _) _).drew
      exact bodyPost_ret (results_none rfl _ _ _) rfl ⟨rfl, HAz.out.later hB3, HKz.out.trans (KeptA.of_below HAz.out.base hB3)⟩
end Go.Proofs.YtlbgdgobhiokpaaDoor
