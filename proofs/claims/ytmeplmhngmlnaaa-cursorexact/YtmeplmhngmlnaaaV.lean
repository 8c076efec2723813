/- The table: nine things in memory, apart from one another. -/
import Derived.Test.YtmeplmhngmlnaaaU
import Derived.Test.YtmeplmhngmlnaaaQ
namespace Go.Proofs.Ytmeplmhngmlnaaa
open Go.RowKit
set_option linter.unusedVariables false

/-- Something in memory: its blocks, and what is said of it. -/
structure Asn where
  foot : Nat → Prop
  holds : World → Prop
/-- It lies between B and the end, and hangs on its own blocks alone. -/
structure Good (B : Nat) (a : Asn) : Prop where
  lt : ∀ w k, a.holds w → a.foot k → B ≤ k ∧ k < w.heap.size
  upd : ∀ (S : Nat → Prop) w w', a.holds w → Upd S w w' → (∀ k, a.foot k → ¬ S k) → a.holds w'
structure Sep (B : Nat) (w : World) (f : Nat → Asn) : Prop where
  at_ : ∀ c, c < 9 → (f c).holds w
  good : ∀ c, c < 9 → Good B (f c)
  dis : ∀ c d, c < 9 → d < 9 → c ≠ d → ∀ q, (f c).foot q → ¬ (f d).foot q
section
variable {B : Nat} {w w' : World} {f g : Nat → Asn}
theorem Sep.congr (h : Sep B w f) (e : ∀ c, c < 9 → f c = g c) : Sep B w g :=
  ⟨fun c hc => e c hc ▸ h.at_ c hc, fun c hc => e c hc ▸ h.good c hc, fun c d hc hd hn q => by rw [← e c hc, ← e d hd]; exact h.dis c d hc hd hn q⟩
theorem Sep.upd {S : Nat → Prop} (h : Sep B w f) (hu : Upd S w w') (hs : ∀ c, c < 9 → ∀ q, (f c).foot q → ¬ S q) : Sep B w' f :=
  ⟨fun c hc => (h.good c hc).upd S w w' (h.at_ c hc) hu (hs c hc), h.good, h.dis⟩
theorem Sep.later (h : Sep B w f) (hB : Below w.heap.size w w') : Sep B w' f := h.upd (Upd.of_below (S := fun _ => False) hB) (fun _ _ _ _ h => h)
theorem Sep.lt (h : Sep B w f) (c : Nat) (hc : c < 9) (q : Nat) (hq : (f c).foot q) : B ≤ q ∧ q < w.heap.size := (h.good c hc).lt w q (h.at_ c hc) hq
/-- One of them turns. -/
theorem Sep.set {a : Asn} {S : Nat → Prop} (h : Sep B w f) (c : Nat) (hc : c < 9) (hu : Upd S w w') (hS : ∀ q, q < w.heap.size → S q → (f c).foot q ∨ ∀ d, d < 9 → ¬ (f d).foot q) (ha : a.holds w') (hg : Good B a) (hf : ∀ q, a.foot q → (f c).foot q ∨ w.heap.size ≤ q ∨ ∀ d, d < 9 → ¬ (f d).foot q) : Sep B w' (ext f c a) := by
  have key : ∀ d, d < 9 → d ≠ c → ∀ q, (f d).foot q → ¬ S q := fun d hd hn q hq hs => by
    rcases hS q (h.lt d hd q hq).2 hs with e | e
    · exact h.dis d c hd hc hn q hq e
    · exact e d hd hq
  have new : ∀ d, d < 9 → d ≠ c → ∀ q, a.foot q → ¬ (f d).foot q := fun d hd hn q hq hq2 => by
    rcases hf q hq with e | e | e
    · exact h.dis d c hd hc hn q hq2 e
    · have := (h.lt d hd q hq2).2; omega
    · exact e d hd hq2
  refine ⟨fun d hd => ?_, fun d hd => ?_, fun d d' hd hd' hn q hq hq2 => ?_⟩
  · by_cases e : d = c
    · subst e; rw [ext_at]; exact ha
    · rw [ext_ne _ _ _ _ e]; exact (h.good d hd).upd S w w' (h.at_ d hd) hu (key d hd e)
  · by_cases e : d = c
    · subst e; rw [ext_at]; exact hg
    · rw [ext_ne _ _ _ _ e]; exact h.good d hd
  · by_cases e : d = c
    · subst e
      rw [ext_at] at hq
      rw [ext_ne _ _ _ _ (fun e => hn e.symm)] at hq2
      exact new d' hd' (fun e => hn e.symm) q hq hq2
    · rw [ext_ne _ _ _ _ e] at hq
      by_cases e' : d' = c
      · subst e'
        rw [ext_at] at hq2
        exact new d hd e q hq2 hq
      · rw [ext_ne _ _ _ _ e'] at hq2
        exact h.dis d d' hd hd' hn q hq hq2
end
theorem fk_53 {B : Nat} {w : World} {vL vM : Value} {N : Nat} {F G : Nat → Value} {s : Nat → Nat} {bt : Nat} {xs : List Value} (b : BookSt B w vL vM N F G s) (ht : Blk w bt 53 xs) : ¬ FK vL vM N F G bt := by
  rintro (e | e | ⟨j, hj, e | e⟩)
  · exact own_ne_t b.rL ht (by decide) e
  · exact own_ne_t b.rM ht (by decide) e
  · obtain ⟨ys, h⟩ := (b.l j hj).blk e
    exact blk_ne h ht (by decide) rfl
  · obtain ⟨ys, h⟩ := (b.m j hj).blk e
    exact blk_ne h ht (by decide) rfl
/-! ### The nine -/
structure InD where
  b : Nat
  v : Value
  h : List Int
  p : Int
  en : Bool
structure RinD where
  b : Nat
  v : Value
  l : List Int
  T : Nat
  F : Int
  en : Bool
structure OutD where
  b : Nat
  v : Value
  l : List Int
  m : Int
structure BkD where
  vL : Value
  vM : Value
  N : Nat
  F : Nat → Value
  G : Nat → Value
  s : Nat → Nat
def inA (B : Nat) (d : InD) : Asn := ⟨FI d.b d.v, fun w => InAt B w d.b d.v d.h d.p d.en⟩
def rinA (B : Nat) (d : RinD) : Asn := ⟨FI d.b d.v, fun w => RinAt B w d.b d.v d.l d.T d.F d.en⟩
def outA (t : TypeId) (B : Nat) (d : OutD) : Asn := ⟨FI d.b d.v, fun w => OutAt t B w d.b d.v d.l d.m⟩
def bkA (B : Nat) (d : BkD) : Asn := ⟨FK d.vL d.vM d.N d.F d.G, fun w => BookSt B w d.vL d.vM d.N d.F d.G d.s⟩
theorem inA_good (B : Nat) (d : InD) : Good B (inA B d) := ⟨fun w k h hk => InAt.fi h k hk, fun S w w' h hu hs => InAt.upd h hu hs⟩
theorem rinA_good (B : Nat) (d : RinD) : Good B (rinA B d) := ⟨fun w k h hk => RinAt.fi h k hk, fun S w w' h hu hs => RinAt.upd h hu hs⟩
theorem outA_good (t : TypeId) (B : Nat) (d : OutD) : Good B (outA t B d) := ⟨fun w k h hk => OutAt.fi h k hk, fun S w w' h hu hs => OutAt.upd h hu hs⟩
theorem bkA_good (B : Nat) (d : BkD) : Good B (bkA B d) := ⟨fun w k h hk => BookSt.lt h k hk, fun S w w' h hu hs => BookSt.upd h hu hs⟩
def fam (B : Nat) (i : Nat → InD) (r : Nat → RinD) (o s : Nat → OutD) (k : BkD) (c : Nat) : Asn :=
  if c < 2 then inA B (i c) else if c < 4 then rinA B (r (c - 2)) else if c < 6 then outA 67 B (o (c - 4)) else if c < 8 then outA 84 B (s (c - 6)) else bkA B k
def ptr (b : Nat) : Value := .pointer (some ⟨b, 0, none⟩)
def pres (i : Nat → InD) (r : Nat → RinD) (o s : Nat → OutD) : List Value := [ptr (i 0).b, ptr (i 1).b, ptr (r 0).b, ptr (r 1).b, ptr (o 0).b, ptr (o 1).b, ptr (s 0).b, ptr (s 1).b]
/-- All that lies there. -/
structure Tb (B : Nat) (w0 w : World) (bt : Nat) (i : Nat → InD) (r : Nat → RinD) (o s : Nat → OutD) (k : BkD) : Prop where
  sep : Sep B w (fam B i r o s k)
  tab : TabAt w bt (pres i r o s) k.vL k.vM
  bel : Below B w0 w
  lo : B ≤ bt
  fr : ∀ q ys, Blk w0 q 53 ys → Blk w q 53 ys
section
variable {B bt : Nat} {w0 w w' : World} {i : Nat → InD} {r : Nat → RinD} {o s : Nat → OutD} {k : BkD}
theorem Tb.base (t : Tb B w0 w bt i r o s k) : B ≤ w.heap.size := Nat.le_trans t.lo (Nat.le_of_lt t.tab.2.lt)
theorem Tb.inp (t : Tb B w0 w bt i r o s k) (W : Nat) (hW : W < 2) : InAt B w (i W).b (i W).v (i W).h (i W).p (i W).en := by
  have h := t.sep.at_ W (by omega)
  unfold fam at h
  rw [if_pos hW] at h
  exact h
theorem Tb.rin (t : Tb B w0 w bt i r o s k) (W : Nat) (hW : W < 2) : RinAt B w (r W).b (r W).v (r W).l (r W).T (r W).F (r W).en := by
  have h := t.sep.at_ (2 + W) (by omega)
  unfold fam at h
  rw [if_neg (by omega), if_pos (by omega), Nat.add_sub_cancel_left] at h
  exact h
theorem Tb.out (t : Tb B w0 w bt i r o s k) (W : Nat) (hW : W < 2) : OutAt 67 B w (o W).b (o W).v (o W).l (o W).m := by
  have h := t.sep.at_ (4 + W) (by omega)
  unfold fam at h
  rw [if_neg (by omega), if_neg (by omega), if_pos (by omega), Nat.add_sub_cancel_left] at h
  exact h
theorem Tb.rout (t : Tb B w0 w bt i r o s k) (W : Nat) (hW : W < 2) : OutAt 84 B w (s W).b (s W).v (s W).l (s W).m := by
  have h := t.sep.at_ (6 + W) (by omega)
  unfold fam at h
  rw [if_neg (by omega), if_neg (by omega), if_neg (by omega), if_pos (by omega), Nat.add_sub_cancel_left] at h
  exact h
theorem Tb.bk (t : Tb B w0 w bt i r o s k) : BookSt B w k.vL k.vM k.N k.F k.G k.s := by
  have h := t.sep.at_ 8 (by omega)
  unfold fam at h
  rw [if_neg (by omega), if_neg (by omega), if_neg (by omega), if_neg (by omega)] at h
  exact h
theorem Tb.later (t : Tb B w0 w bt i r o s k) (hB : Below w.heap.size w w') : Tb B w0 w' bt i r o s k :=
  ⟨t.sep.later hB, t.tab.later hB, t.bel.trans (hB.mono t.base), t.lo, fun q ys h => (t.fr q ys h).later hB⟩
/-- The table's own block is none of theirs. -/
theorem Tb.bt_out (t : Tb B w0 w bt i r o s k) (c : Nat) (hc : c < 9) : ¬ (fam B i r o s k c).foot bt := by
  have hb := t.tab.2
  intro h
  by_cases h1 : c < 2
  · have a := t.inp c h1
    unfold fam at h; rw [if_pos h1] at h
    rcases h with e | e
    · subst e; exact blk_ne a.blk hb (by decide) rfl
    · exact tail_ne a.held hb (by decide) e
  · by_cases h2 : c < 4
    · have a := t.rin (c - 2) (by omega)
      unfold fam at h; rw [if_neg h1, if_pos h2] at h
      rcases h with e | e
      · rw [e] at hb; exact blk_ne a.blk hb (by decide) rfl
      · exact tail_ne a.all hb (by decide) e
    · by_cases h3 : c < 6
      · have a := t.out (c - 4) (by omega)
        unfold fam at h; rw [if_neg h1, if_neg h2, if_pos h3] at h
        rcases h with e | e
        · rw [e] at hb; exact blk_ne a.blk hb (by decide) rfl
        · exact tail_ne a.tail hb (by decide) e
      · by_cases h4 : c < 8
        · have a := t.rout (c - 6) (by omega)
          unfold fam at h; rw [if_neg h1, if_neg h2, if_neg h3, if_pos h4] at h
          rcases h with e | e
          · rw [e] at hb; exact blk_ne a.blk hb (by decide) rfl
          · exact tail_ne a.tail hb (by decide) e
        · unfold fam at h; rw [if_neg h1, if_neg h2, if_neg h3, if_neg h4] at h
          exact fk_tab t.bk hb h
/-- A box of a call is none of theirs. -/
theorem Tb.no53 (t : Tb B w0 w bt i r o s k) {x : Nat} {ys : List Value} (hb : Blk w x 53 ys) (c : Nat) (hc : c < 9) : ¬ (fam B i r o s k c).foot x := by
  intro h
  by_cases h1 : c < 2
  · have a := t.inp c h1
    unfold fam at h; rw [if_pos h1] at h
    rcases h with e | e
    · subst e; exact blk_ne a.blk hb (by decide) rfl
    · exact tail_ne a.held hb (by decide) e
  · by_cases h2 : c < 4
    · have a := t.rin (c - 2) (by omega)
      unfold fam at h; rw [if_neg h1, if_pos h2] at h
      rcases h with e | e
      · rw [e] at hb; exact blk_ne a.blk hb (by decide) rfl
      · exact tail_ne a.all hb (by decide) e
    · by_cases h3 : c < 6
      · have a := t.out (c - 4) (by omega)
        unfold fam at h; rw [if_neg h1, if_neg h2, if_pos h3] at h
        rcases h with e | e
        · rw [e] at hb; exact blk_ne a.blk hb (by decide) rfl
        · exact tail_ne a.tail hb (by decide) e
      · by_cases h4 : c < 8
        · have a := t.rout (c - 6) (by omega)
          unfold fam at h; rw [if_neg h1, if_neg h2, if_neg h3, if_pos h4] at h
          rcases h with e | e
          · rw [e] at hb; exact blk_ne a.blk hb (by decide) rfl
          · exact tail_ne a.tail hb (by decide) e
        · unfold fam at h; rw [if_neg h1, if_neg h2, if_neg h3, if_neg h4] at h
          exact fk_53 t.bk hb h
/-- What turns is theirs, or new: the boxes stay. -/
theorem Tb.frU (t : Tb B w0 w bt i r o s k) {S : Nat → Prop} (hu : Upd S w w') (hS : ∀ q, S q → q = bt ∨ w0.heap.size ≤ q ∨ ∃ c, c < 9 ∧ (fam B i r o s k c).foot q) (q : Nat) (ys : List Value) (h : Blk w0 q 53 ys) : Blk w' q 53 ys := by
  have h1 := t.fr q ys h
  refine h1.upd hu (fun hs => ?_)
  rcases hS q hs with e | e | ⟨c, hc, e⟩
  · subst e; exact blk_ne t.tab.2 h1 (by decide) rfl
  · have := h.lt; omega
  · exact t.no53 h1 c hc e
end
end Go.Proofs.Ytmeplmhngmlnaaa
