/- The document's Encoder: its maker in memory; lay, at, item. -/
import Derived.Test.YtncndgfaalojpaaRwc
import Derived.Test.YtncndgfaalojpaaZl
namespace Go.Proofs.Ytncndgfaalojpaa
open Go.RowKit
set_option linter.unusedVariables false

def ownm (t : TypeId) : Prop := t = 66 ∨ t = 35 ∨ t = 3
/-- Blocks of the maker's kinds that lie behind B, and what is new. -/
def Km (B : Nat) (w w' : World) : Prop := Upd (fun k => B ≤ k ∧ ∃ t xs, Blk w k t xs ∧ ownm t) w w'
theorem Km.refl (B : Nat) (w : World) : Km B w w := Upd.refl _ w
theorem Km.trans {B : Nat} {a b c : World} (h : Km B a b) (g : Km B b c) : Km B a c := Upd.trans h g (fun k hk ⟨h1, t, xs, h2, h3⟩ => by
  by_cases hS : B ≤ k ∧ ∃ t xs, Blk a k t xs ∧ ownm t
  · exact hS
  · have e := h.block k hk hS
    exact ⟨h1, t, xs, h2.of_eq e.symm, h3⟩)
theorem Km.later {B : Nat} {w w' : World} (h : Below w.heap.size w w') : Km B w w' := Upd.of_below h
theorem Km.then {B : Nat} {a b c : World} (h : Km B a b) (g : Below b.heap.size b c) : Km B a c := h.trans (Km.later g)
theorem Km.drew {B : Nat} (w : World) : Km B w w.drew := Km.later ((Below.refl w.heap.size w).drew)
theorem Km.size {B : Nat} {w w' : World} (h : Km B w w') : w.heap.size ≤ w'.heap.size := Upd.size h
theorem Km.below {B : Nat} {w w' : World} (h : Km B w w') (hB : B ≤ w.heap.size) : Below B w w' := Upd.below h B hB (fun k hk => hk.1)
theorem Km.blk {B g : Nat} {w w' : World} {t : TypeId} {xs : List Value} (h : Km B w w') (hb : Blk w g t xs) (ht : ¬ ownm t) : Blk w' g t xs := hb.upd h (fun ⟨_, t', ys, h2, h3⟩ => ht (by rw [blk_type hb h2]; exact h3))
theorem Km.bT {B : Nat} {w w' : World} {g : Nat} {xs : List Value} (h : Km B w w') (hb : Blk w g 43 xs) : Blk w' g 43 xs := h.blk hb (by unfold ownm; decide)
theorem Km.bS {B : Nat} {w w' : World} {g : Nat} {xs : List Value} (h : Km B w w') (hb : Blk w g 77 xs) : Blk w' g 77 xs := h.blk hb (by unfold ownm; decide)
/-- The maker under way. -/
structure Rm (w : World) (B gm : Nat) (vT vR vX vL : Value) (C : List In) (E : List Int) : Prop where
  lm : B ≤ gm
  bm : ∃ vC vE, Blk w gm 66 [vT, vR, vX, vL, .bool true, vC, vE] ∧ COwn w B vC C ∧ IOwn w B vE E
section
variable {w w' : World} {B gm : Nat} {vT vR vX vL : Value} {C : List In} {E : List Int}
theorem Rm.lt (h : Rm w B gm vT vR vX vL C E) : gm < w.heap.size := by obtain ⟨_, _, hk, _⟩ := h.bm; exact hk.lt
theorem Rm.base (h : Rm w B gm vT vR vX vL C E) : B ≤ w.heap.size := by have := h.lt; have := h.lm; omega
theorem Rm.later (h : Rm w B gm vT vR vX vL C E) (hB : Below w.heap.size w w') : Rm w' B gm vT vR vX vL C E := by
  obtain ⟨vC, vE, hk, hc, he⟩ := h.bm
  exact ⟨h.lm, vC, vE, hk.later hB, hc.later hB, he.later hB⟩
theorem Rm.drew (h : Rm w B gm vT vR vX vL C E) : Rm w.drew B gm vT vR vX vL C E := h.later ((Below.refl w.heap.size w).drew)
/-- What is read off the maker. -/
theorem Rm.cells (h : Rm w B gm vT vR vX vL C E) : w.cell? ⟨gm, 0, none⟩ = some vT ∧ w.cell? ⟨gm, 2, none⟩ = some vX ∧ w.cell? ⟨gm, 3, none⟩ = some vL ∧ ∃ a c, w.cell? ⟨gm, 5, none⟩ = some (.slice a C.length c) := by
  obtain ⟨vC, vE, hk, hc, he⟩ := h.bm
  obtain ⟨a, c, rfl, _⟩ := hc.row
  have c0 := hk.cell 0; have c2 := hk.cell 2; have c3 := hk.cell 3; have c5 := hk.cell 5
  simp at c0 c2 c3 c5
  exact ⟨c0, c2, c3, a, c, c5⟩
theorem Rm.push (h : Rm w B gm vT vR vX vL C E) (x : In) (hl : C.length ≤ 1000000000) : ∃ a c vE g cap w', Blk w gm 66 [vT, vR, vX, vL, .bool true, .slice a C.length c, vE] ∧ (Builtin.append_ #[27, 27] 27 #[.slice a C.length c, .slice (some ⟨w.heap.size, 0, none⟩) 1 1]).run Try.prog (w.alloc (.cells #[.int .i64 x.op, .int .i64 x.a, .int .i64 x.b, .int .i64 x.c] 35)) = .ok (.slice (some ⟨g, 0, none⟩) (C.length + 1) cap) w' ∧ Blk w' gm 66 [vT, vR, vX, vL, .bool true, .slice a C.length c, vE] ∧ Rm (w'.setCell ⟨gm, 5, none⟩ (.slice (some ⟨g, 0, none⟩) (C.length + 1) cap)) B gm vT vR vX vL (C ++ [x]) E ∧ Km B w (w'.setCell ⟨gm, 5, none⟩ (.slice (some ⟨g, 0, none⟩) (C.length + 1) cap)) := by
  obtain ⟨vC, vE, hk, hc, he⟩ := h.bm
  obtain ⟨a, c, rfl, _⟩ := hc.row
  obtain ⟨g, cap, w', h1, h2, h3, h4⟩ := hc.push x hl h.base
  have hkb : Blk w' gm 66 [vT, vR, vX, vL, .bool true, .slice a C.length c, vE] := hk.upd h3 (fun e => notC hc hk (by decide) e)
  have hu : Upd (fun k => k = gm ∨ (Value.slice a C.length c).ownBlock = some k) w (w'.setCell ⟨gm, 5, none⟩ (.slice (some ⟨g, 0, none⟩) (C.length + 1) cap)) := (h3.mono (fun k _ e => .inr e)).set _ _ (.inl (.inl rfl))
  have hS : ∀ k, (k = gm ∨ (Value.slice a C.length c).ownBlock = some k) → ∃ t xs, Blk w k t xs ∧ (t = 66 ∨ t = 35) := fun k hs => by
    rcases hs with rfl | hs
    · exact ⟨_, _, hk, .inl rfl⟩
    · obtain ⟨ys, hy⟩ := ownS_type hc hs
      exact ⟨_, ys, hy, .inr rfl⟩
  refine ⟨a, c, vE, g, cap, w', hk, h1, hkb, ⟨h.lm, .slice (some ⟨g, 0, none⟩) (C.length + 1) cap, vE, ?_, ?_, ?_⟩, ?_⟩
  · have := hkb.set 5 (.slice (some ⟨g, 0, none⟩) (C.length + 1) cap)
    simpa using this
  · exact ownS_upd h2 ((Upd.refl (fun k => k = gm) w').set _ _ (.inl rfl)) (fun k e hk => by subst hk; exact notC h2 hkb (by decide) e)
  · exact he.upd hu (fun k e hs => by
      obtain ⟨t, xs, hb, ht⟩ := hS _ hs
      refine notI he hb ?_ e
      rcases ht with rfl | rfl <;> decide)
  · exact Upd.mono hu (fun k _ hs => by
      obtain ⟨t, xs, hb, ht⟩ := hS k hs
      refine ⟨?_, t, xs, hb, ?_⟩
      · rcases hs with rfl | hs
        · exact h.lm
        · exact (hc.lies hs).1
      · rcases ht with rfl | rfl
        · exact .inl rfl
        · exact .inr (.inl rfl))
theorem Rm.entry (h : Rm w B gm vT vR vX vL C E) (x : Int) (hl : E.length ≤ 1000000000) : ∃ a c vC g cap w', Blk w gm 66 [vT, vR, vX, vL, .bool true, vC, .slice a E.length c] ∧ (∃ a' c', vC = .slice a' C.length c') ∧ (Builtin.append_ #[28, 28] 28 #[.slice a E.length c, .slice (some ⟨w.heap.size, 0, none⟩) 1 1]).run Try.prog (w.alloc (.cells #[.int .i64 x] 3)) = .ok (.slice (some ⟨g, 0, none⟩) (E.length + 1) cap) w' ∧ Blk w' gm 66 [vT, vR, vX, vL, .bool true, vC, .slice a E.length c] ∧ Rm (w'.setCell ⟨gm, 6, none⟩ (.slice (some ⟨g, 0, none⟩) (E.length + 1) cap)) B gm vT vR vX vL C (E ++ [x]) ∧ Km B w (w'.setCell ⟨gm, 6, none⟩ (.slice (some ⟨g, 0, none⟩) (E.length + 1) cap)) := by
  obtain ⟨vC, vE, hk, hc, he⟩ := h.bm
  obtain ⟨a, c, rfl⟩ := he.slice
  obtain ⟨g, cap, w', h1, h2, h3, h4⟩ := he.push x (by omega) h.base
  have hkb : Blk w' gm 66 [vT, vR, vX, vL, .bool true, vC, .slice a E.length c] := hk.upd h3 (fun e => notI he hk (by decide) e)
  have hu : Upd (fun k => k = gm ∨ (Value.slice a E.length c).ownBlock = some k) w (w'.setCell ⟨gm, 6, none⟩ (.slice (some ⟨g, 0, none⟩) (E.length + 1) cap)) := (h3.mono (fun k _ e => .inr e)).set _ _ (.inl (.inl rfl))
  have hS : ∀ k, (k = gm ∨ (Value.slice a E.length c).ownBlock = some k) → ∃ t xs, Blk w k t xs ∧ (t = 66 ∨ t = 3) := fun k hs => by
    rcases hs with rfl | hs
    · exact ⟨_, _, hk, .inl rfl⟩
    · obtain ⟨ys, hy⟩ := ownS_type he hs
      exact ⟨_, ys, hy, .inr rfl⟩
  have hcr := hc.row
  obtain ⟨a', c', hvc, _⟩ := hcr
  refine ⟨a, c, vC, g, cap, w', hk, ⟨a', c', hvc⟩, h1, hkb, ⟨h.lm, vC, .slice (some ⟨g, 0, none⟩) (E.length + 1) cap, ?_, ?_, ?_⟩, ?_⟩
  · have := hkb.set 6 (.slice (some ⟨g, 0, none⟩) (E.length + 1) cap)
    simpa using this
  · exact hc.upd hu (fun k e hs => by
      obtain ⟨t, xs, hb, ht⟩ := hS _ hs
      refine notC hc hb ?_ e
      rcases ht with rfl | rfl <;> decide)
  · exact h2.upd ((Upd.refl (fun k => k = gm) w').set _ _ (.inl rfl)) (fun k e hs => by subst hs; exact notI h2 hkb (by decide) e)
  · exact Upd.mono hu (fun k _ hs => by
      obtain ⟨t, xs, hb, ht⟩ := hS k hs
      refine ⟨?_, t, xs, hb, ?_⟩
      · rcases hs with rfl | hs
        · exact h.lm
        · exact (he.lies hs).1
      · rcases ht with rfl | rfl
        · exact .inl rfl
        · exact .inr (.inr rfl))
end
/-- Extents lie below B. -/
def Xc (B : Nat) (w : World) (aX : Option Addr) (X : List Ex) : Prop := ∀ (n : Nat) (x : Ex), X[n]? = some x → ∃ b o, aX = some ⟨b, o, none⟩ ∧ ∀ w', Below B w w' → ∀ j, j < 4 → w'.cell? ⟨b, o + n * 4 + j, none⟩ = (exc x)[j]?
/-- Types, extents and layouts lie below B. -/
structure Rn (B : Nat) (w : World) (aT : Option Addr) (T : List Ty) (aX : Option Addr) (X : List Ex) (aL : Option Addr) : Prop where
  t : Tc B w aT T
  x : Xc B w aX X
  l : Lc B w aL (T.map (layP X))
theorem Rn.below {B : Nat} {w w' : World} {aT : Option Addr} {T : List Ty} {aX : Option Addr} {X : List Ex} {aL : Option Addr} (h : Rn B w aT T aX X aL) (hb : Below B w w') : Rn B w' aT T aX X aL :=
  ⟨fun n t ht => by
      obtain ⟨b, o, va, vc, h1, h2, h3, h4⟩ := h.t n t ht
      exact ⟨b, o, va, vc, h1, h2, h3, fun w'' hb' => h4 w'' (hb.trans hb')⟩,
   fun n x hx => by
      obtain ⟨b, o, h1, h2⟩ := h.x n x hx
      exact ⟨b, o, h1, fun w'' hb' => h2 w'' (hb.trans hb')⟩,
   fun n y hy => by
      obtain ⟨b, o, sa, sc, h1, h2⟩ := h.l n y hy
      exact ⟨b, o, sa, sc, h1, fun w'' hb' => h2 w'' (hb.trans hb')⟩⟩
theorem Rn.km {B : Nat} {w w' : World} {aT : Option Addr} {T : List Ty} {aX : Option Addr} {X : List Ex} {aL : Option Addr} (h : Rn B w aT T aX X aL) (hB : B ≤ w.heap.size) (hk : Km B w w') : Rn B w' aT T aX X aL := h.below (hk.below hB)
set_option maxRecDepth 100000 in
set_option maxHeartbeats 4000000 in
theorem rlay_any (B gm : Nat) (vT vR vX vL : Value) (C : List In) (E : List Int) (op a_ b_ c_ : Int) (w : World) (hl : C.length ≤ 1000000000) (h : Hid (Rm w B gm vT vR vX vL C E)) :
    Calls Try.prog 37 #[.pointer (some ⟨gm, 0, none⟩), .int .i64 op, .int .i64 a_, .int .i64 b_, .int .i64 c_] w fun e w' => e = .returned (.tuple #[]) ∧ Hid (Rm w' B gm vT vR vX vL (C ++ [⟨op, a_, b_, c_⟩]) E) ∧ Hid (Km B w w') := by
  obtain ⟨a, c, vE, g, cap, w2, k1, r1, k2, hM, hK⟩ := h.out.push ⟨op, a_, b_, c_⟩ hl
  have p5 := k1.cell 5
  have q5 := k2.cell 5; have qz := k2.frozen 5
  simp at p5 q5
  have HR := hide_ r1
  have HM := hide_ hM
  have HK := hide_ hK
  clear k1 r1 k2 hM hK h
  go_enter Try.func37, Try.ntmps37
  go_wp2_with (at_builtin; refine wpList_append_run rfl (.tmp 15) (.tmp 21) 27 27 rfl rfl rfl HR.out ?_)
  go_end0
  exact ⟨rfl, HM, HK⟩
set_option maxRecDepth 100000 in
set_option maxHeartbeats 4000000 in
theorem rat_any (B gm : Nat) (aT aX aL : Option Addr) (cT : Nat) (vR vX vL : Value) (T : List Ty) (X : List Ex) (C : List In) (E : List Int) (n : Nat) (t : Ty) (pl : Int) (w : World) (hl : C.length ≤ 1000000000) (hn : T[n]? = some t) (HN : Hid (Rn B w aT T aX X aL)) (h : Hid (Rm w B gm (.slice aT T.length cT) vR vX vL C E)) :
    Calls Try.prog 39 #[.pointer (some ⟨gm, 0, none⟩), .int .i64 (n : Int), .int .i64 pl] w fun e w' => e = .returned (.tuple #[]) ∧ Hid (Rm w' B gm (.slice aT T.length cT) vR vX vL (C ++ [lfP t pl ⟨44, pl, 0, (n : Int)⟩]) E) ∧ Hid (Km B w w') := by
  have hlt' : (n : Int) < T.length := by have := (List.getElem?_eq_some_iff.1 hn).1; omega
  obtain ⟨b, o, va, vc, rfl, -, -, htc⟩ := HN.out.t n t hn
  obtain ⟨hcc, -⟩ := htc w (Below.refl _ _)
  obtain ⟨k, nn, el, ps⟩ := t
  have i0 := hcc 0 (by decide); have i1 := hcc 1 (by decide)
  simp [tyc] at i0 i1
  obtain ⟨c0, -, -, -⟩ := h.out.cells
  clear htc hcc HN hn
  go_enter Try.func39, Try.ntmps39
  by_cases h1 : k = 1
  · subst h1
    have HLy := hide_ (rlay_any B gm _ vR vX vL C E 33 pl nn 0 w hl h)
    go_wp2_with (go_at_call 37; refine HLy.out.mono ?_; rintro e w4 ⟨rfl, HM4, HK4⟩)
    go_end0
    exact ⟨rfl, HM4, HK4⟩
  by_cases h2 : k = 2
  · subst h2
    have HLy := hide_ (rlay_any B gm _ vR vX vL C E 35 pl 0 0 w hl h)
    go_wp2_with (go_at_call 37; refine HLy.out.mono ?_; rintro e w4 ⟨rfl, HM4, HK4⟩)
    go_end0
    exact ⟨rfl, HM4, HK4⟩
  · have HLy := hide_ (rlay_any B gm _ vR vX vL C E 44 pl 0 (n : Int) w hl h)
    have HE : Hid (lfP ⟨k, nn, el, ps⟩ pl ⟨44, pl, 0, (n : Int)⟩ = ⟨44, pl, 0, (n : Int)⟩) := hide_ (by unfold lfP; rw [if_neg h1, if_neg h2])
    have e1 : (k == 1) = false := by simpa using h1
    have e2 : (k == 2) = false := by simpa using h2
    clear h1 h2
    go_wp2_with (go_at_call 37; refine HLy.out.mono ?_; rintro e w4 ⟨rfl, HM4, HK4⟩)
    go_end0
    exact ⟨rfl, hide_ (by rw [HE.out]; exact HM4.out), HK4⟩
set_option maxRecDepth 100000 in
set_option maxHeartbeats 4000000 in
theorem ritem_any (B gm : Nat) (aT aX aL : Option Addr) (cT nX cX : Nat) (vR vL : Value) (T : List Ty) (X : List Ex) (C : List In) (E : List Int) (n : Nat) (t : Ty) (w : World) (hl : C.length ≤ 1000000000) (hn : T[n]? = some t) (hx : n < X.length) (hnx : X.length = nX) (HN : Hid (Rn B w aT T aX X aL)) (h : Hid (Rm w B gm (.slice aT T.length cT) vR (.slice aX nX cX) vL C E)) :
    Calls Try.prog 64 #[.pointer (some ⟨gm, 0, none⟩), .int .i64 (n : Int)] w fun e w' => e = .returned (.tuple #[]) ∧ Hid (Rm w' B gm (.slice aT T.length cT) vR (.slice aX nX cX) vL (C ++ [lfP t (-1) ⟨45, (exAt X (n : Int)).l, 0, (n : Int)⟩]) E) ∧ Hid (Km B w w') := by
  have hlt' : (n : Int) < T.length := by have := (List.getElem?_eq_some_iff.1 hn).1; omega
  have hlx' : (n : Int) < nX := by omega
  obtain ⟨b, o, va, vc, rfl, -, -, htc⟩ := HN.out.t n t hn
  obtain ⟨hcc, -⟩ := htc w (Below.refl _ _)
  obtain ⟨bx, ox, rfl, hxc⟩ := HN.out.x n _ (exAt_at hx)
  have hcx := hxc w (Below.refl _ _)
  obtain ⟨k, nn, el, ps⟩ := t
  have i0 := hcc 0 (by decide); have i1 := hcc 1 (by decide)
  have x1 := hcx 1 (by decide)
  simp [tyc] at i0 i1
  simp [exc] at x1
  obtain ⟨c0, c2, -, -⟩ := h.out.cells
  clear htc hcc HN hn hxc hcx hx hnx
  generalize (exAt X (n : Int)).l = xl at *
  go_enter Try.func64, Try.ntmps64
  by_cases h1 : k = 1
  · subst h1
    have HLy := hide_ (rlay_any B gm _ vR _ vL C E 33 (-1) nn 0 w hl h)
    go_wp2_with (go_at_call 37; refine HLy.out.mono ?_; rintro e w4 ⟨rfl, HM4, HK4⟩)
    go_end0
    exact ⟨rfl, HM4, HK4⟩
  by_cases h2 : k = 2
  · subst h2
    have HLy := hide_ (rlay_any B gm _ vR _ vL C E 35 (-1) 0 0 w hl h)
    go_wp2_with (go_at_call 37; refine HLy.out.mono ?_; rintro e w4 ⟨rfl, HM4, HK4⟩)
    go_end0
    exact ⟨rfl, HM4, HK4⟩
  · have HLy := hide_ (rlay_any B gm _ vR _ vL C E 45 xl 0 (n : Int) w hl h)
    have HE : Hid (lfP ⟨k, nn, el, ps⟩ (-1) ⟨45, xl, 0, (n : Int)⟩ = ⟨45, xl, 0, (n : Int)⟩) := hide_ (by unfold lfP; rw [if_neg h1, if_neg h2])
    have e1 : (k == 1) = false := by simpa using h1
    have e2 : (k == 2) = false := by simpa using h2
    clear h1 h2
    go_wp2_with (go_at_call 37; refine HLy.out.mono ?_; rintro e w4 ⟨rfl, HM4, HK4⟩)
    go_end0
    exact ⟨rfl, hide_ (by rw [HE.out]; exact HM4.out), HK4⟩
end Go.Proofs.Ytncndgfaalojpaa
