/- TypingExact: what lies in memory. -/
import Derived.Test.YtomfidjmbjpceaaDoorTl
import Derived.Test.YtomfidjmbjpceaaDoorOw
namespace Go.Proofs.YtomfidjmbjpceaaDoor
open Go.RowKit
set_option linter.unusedVariables false

theorem LtS.upd {w w' : World} {B gT cT gR cR : Nat} {Q : List (Ty × Value)} {R : List Rt} {q : Pt} {tq : Ty} {rq : Rt} {S : Nat → Prop} (h : LtS w B gT cT Q gR cR R q tq rq) (hu : Upd S w w') (hs : ∀ k, S k → k < B) : LtS w' B gT cT Q gR cR R q tq rq := by
  refine ⟨⟨ownS_upd h.ty.1 hu (fun k hk hS => ?_), fun p hp => ?_⟩, fun p hp => ?_, ownS_upd h.rt hu (fun k hk hS => ?_)⟩
  · have := (World.ownsRow.lt h.ty.1 k hk).1; have := hs k hS; omega
  · rcases List.mem_append.1 hp with hp | hp
    · refine MkIn.ptIn (q := q) (B := B) ?_ B
      obtain ⟨g, c, e, h1, h2, h3, ys, h4⟩ := h.mks p hp
      have hg : ¬ S g := fun hS => by have := hs g hS; omega
      exact ⟨g, c, e, h1, h2.upd hu (fun x hx => by cases hx; exact hg), h3, ys, h4.upd hu hg⟩
    · obtain ⟨va, vc, e, h1, h2, h3, h4⟩ := h.ty.2 p (List.mem_append.2 (.inr hp))
      have hp2 := hp
      simp at hp2
      subst hp2
      injection e with e1 e2 e3
      subst e1
      rcases h3 with h3 | ⟨_, _, hh, _⟩
      · exact ⟨none, vc, by rw [← e2, ← e3], h1, h2, .inl h3, .inl h3⟩
      · cases hh
  · obtain ⟨g, c, e, h1, h2, h3, ys, h4⟩ := h.mks p hp
    have hg : ¬ S g := fun hS => by have := hs g hS; omega
    exact ⟨g, c, e, h1, h2.upd hu (fun x hx => by cases hx; exact hg), h3, ys, h4.upd hu hg⟩
  · have := (World.ownsRow.lt h.rt k hk).1; have := hs k hS; omega
/-- What lies in memory at the head of a turn: the schema's box, the lent ones' box, what is lent. -/
structure TxM (w : World) (B0 g9 g11 : Nat) (a9 : Option Addr) (c9 : Nat) (Q9 : List (Ty × Value)) (T : List Ty) (ar9 : Option Addr) (cr9 : Nat) (R : List Rt) (Bv : Nat) (av : Option Addr) (cv : Nat) (V : List Nv) (BL gT cT : Nat) (Q : List (Ty × Value)) (gR cR gV cV gP cP : Nat) : Prop where
  sbox : Blk w g9 25 [.slice a9 T.length c9, .slice ar9 R.length cr9]
  lbox : Blk w g11 33 [.slice (some ⟨gT, 0, none⟩) T.length cT, .slice (some ⟨gR, 0, none⟩) R.length cR, .slice (some ⟨gV, 0, none⟩) V.length cV, .slice (some ⟨gP, 0, none⟩) 0 cP]
  tow : TOwn w B0 (.slice a9 T.length c9) Q9
  ro : ROwn w B0 (.slice ar9 R.length cr9) R
  vo : NOwn w Bv (.slice av V.length cv) V
  lt : LtS w BL gT cT Q gR cR R mqP mqT mqR
  no : NOwn w BL (.slice (some ⟨gV, 0, none⟩) (V.length + 1) cV) (V ++ [mqN])
  io : IOwn w BL (.slice (some ⟨gP, 0, none⟩) 1 cP) [23130]
  tab : Tab w
  lo : ∀ k, (Value.slice av V.length cv).ownBlock = some k → k < BL
theorem TxM.later {w w' : World} {B0 g9 g11 : Nat} {a9 : Option Addr} {c9 : Nat} {Q9 : List (Ty × Value)} {T : List Ty} {ar9 : Option Addr} {cr9 : Nat} {R : List Rt} {Bv : Nat} {av : Option Addr} {cv : Nat} {V : List Nv} {BL gT cT : Nat} {Q : List (Ty × Value)} {gR cR gV cV gP cP : Nat} (h : TxM w B0 g9 g11 a9 c9 Q9 T ar9 cr9 R Bv av cv V BL gT cT Q gR cR gV cV gP cP) (hB : Below w.heap.size w w') : TxM w' B0 g9 g11 a9 c9 Q9 T ar9 cr9 R Bv av cv V BL gT cT Q gR cR gV cV gP cP :=
  ⟨h.sbox.later hB, h.lbox.later hB, h.tow.later hB, h.ro.later hB, h.vo.later hB, h.lt.later hB, h.no.later hB, h.io.later hB, h.tab.later hB, h.lo⟩
theorem upd_ne {w w' : World} {B c n k : Nat} {e t : TypeId} {v : Value} {xs ys : List Value} (h : w.ownsRow B e c v n xs) (hu : Upd (fun q => q = k) w w') (hb : Blk w k t ys) (ht : t ≠ e) : w'.ownsRow B e c v n xs := ownS_upd h hu (fun q hq e2 => by
  subst e2
  obtain ⟨zs, hz⟩ := ownS_type h hq
  exact ht (blk_type hb hz))
theorem blk_ne_upd {w w' : World} {g k : Nat} {e t : TypeId} {xs ys : List Value} (h : Blk w g e xs) (hu : Upd (fun q => q = k) w w') (hb : Blk w k t ys) (ht : t ≠ e) : Blk w' g e xs := h.upd hu (fun e2 => by
  subst e2
  exact ht (blk_type hb h))
/-- One node's number becomes another one, in the list and in what is lent. -/
theorem TxM.put {w : World} {B0 g9 g11 : Nat} {a9 : Option Addr} {c9 : Nat} {Q9 : List (Ty × Value)} {T : List Ty} {ar9 : Option Addr} {cr9 : Nat} {R : List Rt} {Bv : Nat} {gv cv : Nat} {V : List Nv} {BL gT cT : Nat} {Q : List (Ty × Value)} {gR cR gV cV gP cP : Nat} (h : TxM w B0 g9 g11 a9 c9 Q9 T ar9 cr9 R Bv (some ⟨gv, 0, none⟩) cv V BL gT cT Q gR cR gV cV gP cP) (hB0 : 0 < B0) (hBv : B0 ≤ Bv) (hBL : B0 ≤ BL) {k : Nat} {x : Nv} (hk : V[k]? = some x) (n' : Int) :
    TxM ((((w.setCell ⟨gv, k * 3 + 1, none⟩ (.int .u64 n')).setCell ⟨gV, k * 3, none⟩ (.int .i64 x.k)).setCell ⟨gV, k * 3 + 1, none⟩ (.int .u64 n')).setCell ⟨gV, k * 3 + 2, none⟩ (.int .i64 x.kids)) B0 g9 g11 a9 c9 Q9 T ar9 cr9 R Bv (some ⟨gv, 0, none⟩) cv (V.set k ⟨x.k, n', x.kids⟩) BL gT cT Q gR cR gV cV gP cP ∧ Bv ≤ gv ∧ BL ≤ gV := by
  have hkl := (List.getElem?_eq_some_iff.1 hk).1
  have hgv := (h.vo.lt gv rfl).1
  have hgl := h.lo gv rfl
  have hgV := (h.no.lt gV rfl).1
  obtain ⟨ys1, hb1⟩ := ownS_type h.vo (k := gv) rfl
  have hu1 : Upd (fun q => q = gv) w (w.setCell ⟨gv, k * 3 + 1, none⟩ (.int .u64 n')) := (Upd.refl _ w).set _ _ (.inl rfl)
  have hv1 := h.vo.setN hk n'
  have hn1 := h.no.upd hu1 (fun q hq e => by have := own_is hq; omega)
  generalize hw1 : w.setCell ⟨gv, k * 3 + 1, none⟩ (.int .u64 n') = w1 at *
  obtain ⟨ys2, hb2⟩ := ownS_type hn1 (k := gV) rfl
  have hu2 : Upd (fun q => q = gV) w1 (((w1.setCell ⟨gV, k * 3, none⟩ (.int .i64 x.k)).setCell ⟨gV, k * 3 + 1, none⟩ (.int .u64 n')).setCell ⟨gV, k * 3 + 2, none⟩ (.int .i64 x.kids)) := (((Upd.refl (fun q => q = gV) w1).set _ _ (.inl rfl)).set _ _ (.inl rfl)).set _ _ (.inl rfl)
  have hn2 := hn1.set3 (i := k) (by rw [List.length_append]; omega) ⟨x.k, n', x.kids⟩
  rw [List.set_append_left _ _ hkl] at hn2
  generalize hw2 : ((w1.setCell ⟨gV, k * 3, none⟩ (.int .i64 x.k)).setCell ⟨gV, k * 3 + 1, none⟩ (.int .u64 n')).setCell ⟨gV, k * 3 + 2, none⟩ (.int .i64 x.kids) = w2 at *
  refine ⟨⟨?_, ?_, ?_, ?_, ?_, ?_, ?_, ?_, ?_, ?_⟩, hgv, hgV⟩
  · exact blk_ne_upd (blk_ne_upd h.sbox hu1 hb1 (by decide)) hu2 hb2 (by decide)
  · rw [List.length_set]
    exact blk_ne_upd (blk_ne_upd h.lbox hu1 hb1 (by decide)) hu2 hb2 (by decide)
  · exact (h.tow.updN hu1 hb1 (by omega) (by decide) (by decide)).updN hu2 hb2 (by omega) (by decide) (by decide)
  · exact (h.ro.updN hu1 hb1 (by decide)).updN hu2 hb2 (by decide)
  · rw [List.length_set]
    exact hv1.upd hu2 (fun q hq e => by have := own_is hq; omega)
  · exact (h.lt.upd hu1 (fun q hq => by omega)).updN hu2 hb2 hgV (by decide) (by decide) (by decide)
  · rw [List.length_set]
    exact hn2
  · exact upd_ne (upd_ne h.io hu1 hb1 (by decide)) hu2 hb2 (by decide)
  · exact (h.tab.upd hu1 (by omega)).upd hu2 (by omega)
  · rw [List.length_set]
    exact h.lo
end Go.Proofs.YtomfidjmbjpceaaDoor
