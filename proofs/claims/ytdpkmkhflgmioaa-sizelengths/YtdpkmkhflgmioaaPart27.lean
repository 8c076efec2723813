import Derived.Test.YtdpkmkhflgmioaaPart26
import Derived.Test.YtdpkmkhflgmioaaPart17
import Derived.Test.YtdpkmkhflgmioaaPart20
import Derived.Test.YtdpkmkhflgmioaaPart22

/- SizeLengths: nodes that are lent, nodes that are kept; what lies in memory. -/
namespace Go.Proofs.Ytdpkmkhflgmioaa
open Go.RowKit
set_option linter.unusedVariables false

def mqN : Nv := ⟨23130, 0, 0⟩
theorem nvc_one (x : Nv) : ∀ u ∈ nvc x, u.oneCell' = true := fun u hu => by
  simp [nvc] at hu
  rcases hu with rfl | rfl | rfl <;> rfl
theorem nvO (w : World) (a : Option Addr) (c : Nat) (V : List Nv) (hV : VRow w a V) (hn : a = none → c = 0) (hl : V.length ≤ 1000000) :
    ∃ v1 w1 g2 c2 w2, (Builtin.append_ #[38, 38] 38 #[.slice none 0 0, .slice a V.length c]).run Try.prog w = .ok v1 w1 ∧
      (Builtin.append_ #[38, 38] 38 #[v1, .slice (some ⟨w1.heap.size, 0, none⟩) 1 1]).run Try.prog (w1.alloc (.cells #[.int .i64 23130, .int .u64 0, .int .i64 0] 58)) = .ok (.slice (some ⟨g2, 0, none⟩) (V.length + 1) c2) w2 ∧
      NOwn w2 w.heap.size (.slice (some ⟨g2, 0, none⟩) (V.length + 1) c2) (V ++ [mqN]) ∧ Below w.heap.size w w1 ∧ Below w.heap.size w w2 ∧ V.length + 1 ≤ c2 := by
  obtain ⟨v1, w1, h1, h2, h3⟩ := run_copyG (P := Try.prog) nvc_len nvc_one Try.underlying38 infoN rfl (by decide) w a V.length c V rfl hV hn (by unfold maxLen; omega) (by omega)
  have h2r : NOwn w1 w.heap.size v1 V := h2
  have kb : Blk (w1.alloc (.cells #[.int .i64 23130, .int .u64 0, .int .i64 0] 58)) w1.heap.size 58 (nvc mqN) := Blk.newA w1 _ _
  have ba := below1 w1 (.cells #[.int .i64 23130, .int .u64 0, .int .i64 0] 58)
  obtain ⟨g2, c2, w2, k1, k2, k3, k4, k5, -⟩ := run_app1 (P := Try.prog) nvc_len nvc_one Try.underlying38 infoN rfl (by decide) _ (h2r.later ba) w1.heap.size mqN kb (by unfold maxLen; omega) (by omega) (Nat.le_trans h3.size ba.size)
  have hb2 : Below w.heap.size w w2 := (below_to h3 ba).trans (k3.below _ (Nat.le_trans h3.size ba.size) (fun k hk => (World.ownsRow.lt h2r k hk).1))
  exact ⟨v1, w1, g2, c2, w2, h1, k1, k2, h3, hb2, k5⟩
/-- What lentNodes answers. -/
def LvTo (V : List Nv) (w : World) (e : Ending) (w' : World) : Prop := ∃ g c, e = .returned (.slice (some ⟨g, 0, none⟩) V.length c) ∧ Hid (NOwn w' w.heap.size (.slice (some ⟨g, 0, none⟩) (V.length + 1) c) (V ++ [mqN])) ∧ Hid (V.length + 1 ≤ c) ∧ Hid (Below w.heap.size w w')
set_option maxRecDepth 100000 in
set_option maxHeartbeats 4000000 in
theorem lentN_any (a : Option Addr) (c : Nat) (V : List Nv) (w : World) (hV : Hid (VRow w a V)) (hn : a = none → c = 0) (hl : V.length ≤ 1000000) :
    Calls Try.prog 16 #[.slice a V.length c] w fun e w' => LvTo V w e w' := by
  obtain ⟨v1, w1, g2, c2, w2, h1, h2, h3, h4, h5, h6⟩ := nvO w a c V hV.out hn hl
  have H1 := hide_ h1
  have H2 := hide_ h2
  have H3 := hide_ h3
  have H5 := hide_ h5
  have H6 := hide_ h6
  have h6' : (V.length : Int) ≤ c2 := by omega
  clear h1 h2 h3 h4 h5 h6
  go_enter Try.func16, Try.ntmps16
  go_wp2_with (first | (at_builtin; refine wpList_append_run rfl (.const (.slice none 0 0)) (.tmp 3) 38 38 rfl rfl rfl H1.out ?_; clear H1) | (at_builtin; refine wpList_append_run rfl (.tmp 4) (.tmp 6) 38 38 rfl rfl rfl H2.out ?_; clear H2))
  go_ret
  exact ⟨g2, c2, rfl, H3, H6, H5⟩
set_option maxRecDepth 100000 in
set_option maxHeartbeats 4000000 in
theorem keptN_yes (g c B : Nat) (b : Option Addr) (d : Nat) (V : List Nv) (w : World) (hl : V.length ≤ 1000000) (hc : V.length + 1 ≤ c) (hO : Hid (NOwn w B (.slice (some ⟨g, 0, none⟩) (V.length + 1) c) (V ++ [mqN]))) (hV : Hid (VRow w b V)) :
    Calls Try.prog 20 #[.slice (some ⟨g, 0, none⟩) V.length c, .slice b V.length d] w fun e w' => e = .returned (.bool true) ∧ Below w.heap.size w w' := by
  have hr : VRow w (some ⟨g, 0, none⟩) V := by
    obtain ⟨a2, c2, e2, -, -, g2⟩ := own_grow nvc_len hO.out
    injection e2 with e2 _ _
    subst e2
    have g3 := g2.take V.length
    rw [List.take_left] at g3
    exact g3
  have HE := hide_ (equal_yes (some ⟨g, 0, none⟩) b c d V.length V w (hide_ rfl) (by omega) (hide_ hr) hV)
  have hc' : (V.length : Int) + 1 ≤ c := by omega
  have hw1 : wrap64 ((V.length : Int) + 1) = (V.length : Int) + 1 := w64 _ (by omega)
  have HM : Hid (∀ w', Below w.heap.size w w' → w'.cell? ⟨g, V.length * 3, none⟩ = some (.int .i64 23130)) := hide_ (fun w' hb => ((hO.out.later hb).at3 (i := V.length) (x := mqN) (by rw [List.getElem?_append_right (Nat.le_refl _)]; simp)).1)
  have hlt : (V.length : Int) < (V.length : Int) + 1 := by omega
  clear hr
  go_enter Try.func20, Try.ntmps20
  go_wp2_with fail
  refine HE.out.mono ?_
  rintro e w1 ⟨rfl, hb⟩
  have m0 := HM.out w1 hb
  have HB := hide_ hb
  clear hb
  generalize V.length = n at *
  go_wp2
  go_ret
  exact ⟨rfl, HB.out⟩
theorem LtS.updS {w w' : World} {B gT cT gR cR : Nat} {Q : List (Ty × Value)} {R : List Rt} {q : Pt} {tq : Ty} {rq : Rt} {S : Nat → Prop} (h : LtS w B gT cT Q gR cR R q tq rq) (hu : Upd S w w') (hs : ∀ k, S k → k < B) : LtS w' B gT cT Q gR cR R q tq rq := by
  refine ⟨⟨ownS_upd h.ty.1 hu (fun k hk hS => ?_), fun p hp => ?_⟩, fun p hp => ?_, ownS_upd h.rt hu (fun k hk hS => ?_)⟩
  · have := (World.ownsRow.lt h.ty.1 k hk).1; have := hs k hS; omega
  · rcases List.mem_append.1 hp with hp | hp
    · refine MkIn.ptIn (q := q) (B := B) ?_ B
      obtain ⟨g, c, e, h1, h2, h3, ys, h4⟩ := h.mks p hp
      have hg : ¬ S g := fun hS => by have := hs g hS; omega
      exact ⟨g, c, e, h1, h2.upd hu (fun x hx => by cases hx; exact hg), h3, ys, h4.upd hu hg⟩
    · obtain ⟨va, vc, e, h1, h2, h3, h4⟩ := h.ty.2 p (List.mem_append.2 (.inr hp))
      have hp2 := hp
      simp at hp2
      subst hp2
      injection e with e1 e2 e3
      subst e1
      rcases h3 with h3 | ⟨_, _, hh, _⟩
      · exact ⟨none, vc, by rw [← e2, ← e3], h1, h2, .inl h3, .inl h3⟩
      · cases hh
  · obtain ⟨g, c, e, h1, h2, h3, ys, h4⟩ := h.mks p hp
    have hg : ¬ S g := fun hS => by have := hs g hS; omega
    exact ⟨g, c, e, h1, h2.upd hu (fun x hx => by cases hx; exact hg), h3, ys, h4.upd hu hg⟩
  · have := (World.ownsRow.lt h.rt k hk).1; have := hs k hS; omega
theorem LtS.updM {w w' : World} {B gT cT gR cR : Nat} {Q : List (Ty × Value)} {R : List Rt} {q : Pt} {tq : Ty} {rq : Rt} (h : LtS w B gT cT Q gR cR R q tq rq) {g : Nat} {t : TypeId} {ys : List Value} (hu : Upd (fun k => k = g) w w') (hb : Blk w g t ys) (hg : B ≤ g) (h1 : t ≠ 62) (h2 : t ≠ 64) (h3 : t ≠ 70) : LtS w' B gT cT Q gR cR R q tq rq :=
  ⟨h.ty.updN hu hb hg h1 h2, fun p hp => (h.mks p hp).upd hu (fun k ys' e hb' => by subst e; exact h2 (blk_type hb hb')), h.rt.updN hu hb h3⟩
/-- What lies in memory at the head of a turn. -/
structure SzM (w : World) (B0 g7 g9 : Nat) (a7 : Option Addr) (c7 : Nat) (Q7 : List (Ty × Value)) (T : List Ty) (ar7 : Option Addr) (cr7 : Nat) (R : List Rt) (Bv : Nat) (av : Option Addr) (cv : Nat) (V : List Nv) (BL gT cT : Nat) (Q : List (Ty × Value)) (gR cR gV cV : Nat) : Prop where
  sbox : Blk w g7 25 [.slice a7 T.length c7, .slice ar7 R.length cr7]
  lbox : Blk w g9 25 [.slice (some ⟨gT, 0, none⟩) T.length cT, .slice (some ⟨gR, 0, none⟩) R.length cR]
  tow : TOwn w B0 (.slice a7 T.length c7) Q7
  ro : ROwn w B0 (.slice ar7 R.length cr7) R
  vo : NOwn w Bv (.slice av V.length cv) V
  lt : LtS w BL gT cT Q gR cR R mqP mqT mqR
  no : NOwn w BL (.slice (some ⟨gV, 0, none⟩) (V.length + 1) cV) (V ++ [mqN])
  lo : ∀ k, (Value.slice av V.length cv).ownBlock = some k → k < BL
theorem SzM.later {w w' : World} {B0 g7 g9 : Nat} {a7 : Option Addr} {c7 : Nat} {Q7 : List (Ty × Value)} {T : List Ty} {ar7 : Option Addr} {cr7 : Nat} {R : List Rt} {Bv : Nat} {av : Option Addr} {cv : Nat} {V : List Nv} {BL gT cT : Nat} {Q : List (Ty × Value)} {gR cR gV cV : Nat} (h : SzM w B0 g7 g9 a7 c7 Q7 T ar7 cr7 R Bv av cv V BL gT cT Q gR cR gV cV) (hB : Below w.heap.size w w') : SzM w' B0 g7 g9 a7 c7 Q7 T ar7 cr7 R Bv av cv V BL gT cT Q gR cR gV cV :=
  ⟨h.sbox.later hB, h.lbox.later hB, h.tow.later hB, h.ro.later hB, h.vo.later hB, h.lt.later hB, h.no.later hB, h.lo⟩
theorem blk_ne_upd {w w' : World} {g k : Nat} {e t : TypeId} {xs ys : List Value} (h : Blk w g e xs) (hu : Upd (fun q => q = k) w w') (hb : Blk w k t ys) (ht : t ≠ e) : Blk w' g e xs := h.upd hu (fun e2 => by
  subst e2
  exact ht (blk_type hb h))
/-- One node's number becomes another one, in the list and in what is lent. -/
theorem SzM.put {w : World} {B0 g7 g9 : Nat} {a7 : Option Addr} {c7 : Nat} {Q7 : List (Ty × Value)} {T : List Ty} {ar7 : Option Addr} {cr7 : Nat} {R : List Rt} {Bv : Nat} {gv cv : Nat} {V : List Nv} {BL gT cT : Nat} {Q : List (Ty × Value)} {gR cR gV cV : Nat} (h : SzM w B0 g7 g9 a7 c7 Q7 T ar7 cr7 R Bv (some ⟨gv, 0, none⟩) cv V BL gT cT Q gR cR gV cV) (hBv : B0 ≤ Bv) (hBL : B0 ≤ BL) {k : Nat} {x : Nv} (hk : V[k]? = some x) (n' : Int) :
    SzM ((((w.setCell ⟨gv, k * 3 + 1, none⟩ (.int .u64 n')).setCell ⟨gV, k * 3, none⟩ (.int .i64 x.k)).setCell ⟨gV, k * 3 + 1, none⟩ (.int .u64 n')).setCell ⟨gV, k * 3 + 2, none⟩ (.int .i64 x.kids)) B0 g7 g9 a7 c7 Q7 T ar7 cr7 R Bv (some ⟨gv, 0, none⟩) cv (V.set k ⟨x.k, n', x.kids⟩) BL gT cT Q gR cR gV cV ∧ Bv ≤ gv ∧ BL ≤ gV := by
  have hkl := (List.getElem?_eq_some_iff.1 hk).1
  have hgv := (h.vo.lt gv rfl).1
  have hgl := h.lo gv rfl
  have hgV := (h.no.lt gV rfl).1
  obtain ⟨ys1, hb1⟩ := ownS_type h.vo (k := gv) rfl
  have hu1 : Upd (fun q => q = gv) w (w.setCell ⟨gv, k * 3 + 1, none⟩ (.int .u64 n')) := (Upd.refl _ w).set _ _ (.inl rfl)
  have hv1 := h.vo.setN hk n'
  have hn1 := h.no.upd hu1 (fun q hq e => by have := own_is hq; omega)
  generalize hw1 : w.setCell ⟨gv, k * 3 + 1, none⟩ (.int .u64 n') = w1 at *
  obtain ⟨ys2, hb2⟩ := ownS_type hn1 (k := gV) rfl
  have hu2 : Upd (fun q => q = gV) w1 (((w1.setCell ⟨gV, k * 3, none⟩ (.int .i64 x.k)).setCell ⟨gV, k * 3 + 1, none⟩ (.int .u64 n')).setCell ⟨gV, k * 3 + 2, none⟩ (.int .i64 x.kids)) := (((Upd.refl (fun q => q = gV) w1).set _ _ (.inl rfl)).set _ _ (.inl rfl)).set _ _ (.inl rfl)
  have hn2 := hn1.set3 (i := k) (by rw [List.length_append]; omega) ⟨x.k, n', x.kids⟩
  rw [List.set_append_left _ _ hkl] at hn2
  generalize hw2 : ((w1.setCell ⟨gV, k * 3, none⟩ (.int .i64 x.k)).setCell ⟨gV, k * 3 + 1, none⟩ (.int .u64 n')).setCell ⟨gV, k * 3 + 2, none⟩ (.int .i64 x.kids) = w2 at *
  refine ⟨⟨?_, ?_, ?_, ?_, ?_, ?_, ?_, ?_⟩, hgv, hgV⟩
  · exact blk_ne_upd (blk_ne_upd h.sbox hu1 hb1 (by decide)) hu2 hb2 (by decide)
  · exact blk_ne_upd (blk_ne_upd h.lbox hu1 hb1 (by decide)) hu2 hb2 (by decide)
  · exact (h.tow.updN hu1 hb1 (by omega) (by decide) (by decide)).updN hu2 hb2 (by omega) (by decide) (by decide)
  · exact (h.ro.updN hu1 hb1 (by decide)).updN hu2 hb2 (by decide)
  · rw [List.length_set]
    exact hv1.upd hu2 (fun q hq e => by have := own_is hq; omega)
  · exact (h.lt.updS hu1 (fun q hq => by omega)).updM hu2 hb2 hgV (by decide) (by decide) (by decide)
  · rw [List.length_set]
    exact hn2
  · rw [List.length_set]
    exact h.lo
end Go.Proofs.Ytdpkmkhflgmioaa
