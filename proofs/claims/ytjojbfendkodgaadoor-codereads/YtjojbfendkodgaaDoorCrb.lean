/- Code: the document's reader: instr. -/
import Derived.Test.YtjojbfendkodgaaDoorCra
import Derived.Test.YtjojbfendkodgaaDoorCmf
namespace Go.Proofs.YtjojbfendkodgaaDoor
open Go.RowKit
set_option linter.unusedVariables false

theorem mayN_M (n : Int) : mayN n = mayM 2147483648 n := rfl
theorem rdN_M (l : List Int) (s : Rs) : rdN l s = rdV l s 3 (mayM 2147483648) := rfl
theorem rdV_at2 (l : List Int) (s : Rs) (er : Int) (may : Int → Bool) (h : s.at_ ≤ l.length) : (rdV l s er may).2.at_ ≤ l.length := rdV_at l s er may h
theorem rdI_bad {l : List Int} {enc : Bool} {s : Rs} {o : Rs} (h : rdV l s 140 (mayI enc) = (0, o)) : rdI l enc s = (⟨0, 0, 0, 0⟩, o) := by
  unfold rdI
  rw [h]
  rfl
theorem rdI_ok {l : List Int} {enc : Bool} {s : Rs} {n : Int} {o : Rs} (h : rdV l s 140 (mayI enc) = (n, o)) : rdI l enc s = (⟨n, (rd1 l (kin n).1 o).1, (rd1 l (kin n).2.1 (rd1 l (kin n).1 o).2).1, (rd1 l (kin n).2.2 (rd1 l (kin n).2.1 (rd1 l (kin n).1 o).2).2).1⟩, (rd1 l (kin n).2.2 (rd1 l (kin n).2.1 (rd1 l (kin n).1 o).2).2).2) := by
  unfold rdI
  rw [h]
/-- What number and Of together answer. -/
theorem op_cases (l : List Int) (s : Rs) (enc : Bool) (hb : Bys l) (t1 : Rs) (hsim : Sim t1 (rdV l s 140 (mayM 18446744073709551615)).2) :
    ((rdV l s 140 (mayM 18446744073709551615)).2.e ≠ 0 ∧ rdI l enc s = (⟨0, 0, 0, 0⟩, (rdV l s 140 (mayM 18446744073709551615)).2) ∧ wrap64 (rdV l s 140 (mayM 18446744073709551615)).1 = 0) ∨
    ((rdV l s 140 (mayM 18446744073709551615)).2.e = 0 ∧ isOf (wrap64 (rdV l s 140 (mayM 18446744073709551615)).1) enc = false ∧ (rdI l enc s).2.e = 140 ∧ (rdI l enc s).2.p = (s.at_ : Int)) ∨
    ((rdV l s 140 (mayM 18446744073709551615)).2.e = 0 ∧ isOf (wrap64 (rdV l s 140 (mayM 18446744073709551615)).1) enc = true ∧ rdV l s 140 (mayI enc) = (wrap64 (rdV l s 140 (mayM 18446744073709551615)).1, (rdV l s 140 (mayM 18446744073709551615)).2)) := by
  have h0 : wrap64 0 = 0 := w64 0 (by decide)
  by_cases he : s.e = 0
  case neg =>
    left
    have e1 : ∀ m, rdV l s 140 m = (0, s) := fun m => by unfold rdV; rw [if_neg he]
    rw [e1]
    exact ⟨he, rdI_bad (e1 _), h0⟩
  have h64 := get_u64 (getF_R (l.drop s.at_)) (hb.drop s.at_)
  by_cases hg : (getF (l.drop s.at_)).2.2 = 0
  case neg =>
    left
    have e1 : ∀ m, rdV l s 140 m = (0, ⟨s.at_ + (getF (l.drop s.at_)).2.1, (getF (l.drop s.at_)).2.2, (s.at_ + (getF (l.drop s.at_)).2.1 : Nat)⟩) := fun m => by unfold rdV; rw [if_pos he, if_neg hg]
    rw [e1]
    exact ⟨hg, rdI_bad (e1 _), h0⟩
  have e1 : ∀ m, rdV l s 140 m = if m (getF (l.drop s.at_)).1 = true then ((getF (l.drop s.at_)).1, ⟨s.at_ + (getF (l.drop s.at_)).2.1, 0, s.p⟩) else (0, ⟨s.at_ + (getF (l.drop s.at_)).2.1, 140, s.at_⟩) := fun m => by unfold rdV; rw [if_pos he, if_pos hg]
  have eM : rdV l s 140 (mayM 18446744073709551615) = ((getF (l.drop s.at_)).1, ⟨s.at_ + (getF (l.drop s.at_)).2.1, 0, s.p⟩) := by
    rw [e1, if_pos]
    unfold mayM
    rw [decide_eq_true (by omega)]
  rw [eM]
  generalize getF (l.drop s.at_) = G at *
  obtain ⟨n, u, r⟩ := G
  simp only at h64 hg e1 ⊢
  cases hi : isOf (wrap64 n) enc with
  | false =>
    right; left
    have hm : mayI enc n = false := by
      unfold mayI
      by_cases h47 : n ≤ 47
      · rw [w64 n (by omega)] at hi
        rw [hi, Bool.and_false]
      · rw [decide_eq_false h47, Bool.false_and]
    have := rdI_bad (o := ⟨s.at_ + u, 140, s.at_⟩) (l := l) (s := s) (enc := enc) (by rw [e1, if_neg (by rw [hm]; simp)])
    rw [this]
    exact ⟨by first | trivial | rfl, by first | rfl | exact hi, rfl, rfl⟩
  | true =>
    right; right
    have hr := isOf_rng hi
    have hn : wrap64 n = n := by
      by_cases h63 : n ≤ 9223372036854775807
      · exact w64 n (by omega)
      · exfalso
        have : wrap64 n = n - 18446744073709551616 := by unfold wrap64; omega
        omega
    rw [hn] at hi hr ⊢
    have hm : mayI enc n = true := by unfold mayI; rw [decide_eq_true hr.2, hi]; rfl
    exact ⟨by first | trivial | rfl, by first | rfl | exact hi, by rw [e1, if_pos hm]⟩
theorem rdN_val (l : List Int) (s : Rs) (hb : Bys l) : wrap64 (rdV l s 3 (mayM 2147483648)).1 = (rdV l s 3 (mayM 2147483648)).1 ∧ 0 ≤ (rdV l s 3 (mayM 2147483648)).1 ∧ (rdV l s 3 (mayM 2147483648)).1 ≤ 2147483648 := by
  have h64 := get_u64 (getF_R (l.drop s.at_)) (hb.drop s.at_)
  have : 0 ≤ (rdV l s 3 (mayM 2147483648)).1 ∧ (rdV l s 3 (mayM 2147483648)).1 ≤ 2147483648 := by
    unfold rdV
    repeat' split
    all_goals
      first
        | (rename_i h; simp only; unfold mayM at h; have := of_decide_eq_true h; omega)
        | (simp only; omega)
  exact ⟨w64 _ (by omega), this⟩
theorem ltr_iff {op : Int} {enc : Bool} (h : isOf op enc = true) {l0 l1 l2 : UInt8} (hl : ofI op = [l0, l1, l2]) : (l0 = 32 ↔ (kin op).1 = 0) ∧ (l1 = 32 ↔ (kin op).2.1 = 0) ∧ (l2 = 32 ↔ (kin op).2.2 = 0) := by
  have q : ∀ c : UInt8, lts.contains c = true → (c = 32 ↔ ltK (c.toNat : Int) = 0) := by
    intro c hc
    have hm : c ∈ lts := by simpa using hc
    unfold lts at hm
    simp only [List.mem_cons, List.not_mem_nil, or_false] at hm
    rcases hm with rfl | rfl | rfl | rfl | rfl | rfl | rfl | rfl | rfl | rfl | rfl | rfl | rfl | rfl | rfl | rfl | rfl <;> decide
  have k0 := ofI_kat h (j := 0) (by omega)
  have k1 := ofI_kat h (j := 1) (by omega)
  have k2 := ofI_kat h (j := 2) (by omega)
  rw [hl] at k0 k1 k2
  simp only [List.getD_cons_zero, List.getD_cons_succ, kat] at k0 k1 k2
  exact ⟨by rw [q l0 k0.2.1, k0.2.2], by rw [q l1 k1.2.1, k1.2.2], by rw [q l2 k2.2.1, k2.2.2]⟩
/-- What lies in memory. -/
structure RiM (w w' : World) (gr : Nat) (v : Value) (t : Rs) (gf gx : Nat) (sN sL : ByteArray) (x : In) : Prop where
  rd : Blk w' gr 74 (rrc v t)
  rs : Blk w' w.heap.size 28 [.int .i64 0, .int .i64 0, .int .i64 0, .int .i64 0]
  fm : Blk w' gf 68 [.string sN, .string sL]
  ix : Blk w' gx 28 [.int .i64 x.op, .int .i64 x.a, .int .i64 x.b, .int .i64 x.c]
  up : Upd (fun k => k = gr) w w'
  gg : w.heap.size < gx
def RiTo (gr : Nat) (v : Value) (l : List Int) (s : Rs) (enc : Bool) (w : World) (e : Ending) (w' : World) : Prop := ∃ t' x, e = .returned (.agg #[.int .i64 x.op, .int .i64 x.a, .int .i64 x.b, .int .i64 x.c]) ∧ Hid (Sim t' (rdI l enc s).2) ∧ Hid ((rdI l enc s).2.e = 0 → x = (rdI l enc s).1) ∧ Hid (Blk w' gr 74 (rrc v t')) ∧ Hid (Upd (fun k => k = gr) w w')
theorem RiM.read {w w' w'' : World} {gr : Nat} {v : Value} {t t' : Rs} {gf gx : Nat} {sN sL : ByteArray} {x : In} (h : RiM w w' gr v t gf gx sN sL x) (hk : Blk w'' gr 74 (rrc v t')) (hu : Upd (fun k => k = gr) w' w'') : RiM w w'' gr v t' gf gx sN sL x :=
  ⟨hk, h.rs.upd hu (blk_nt h.rs h.rd (by decide)), h.fm.upd hu (blk_nt h.fm h.rd (by decide)), h.ix.upd hu (blk_nt h.ix h.rd (by decide)), h.up.to hu, h.gg⟩
theorem RiM.put {w w' : World} {gr : Nat} {v : Value} {t : Rs} {gf gx : Nat} {sN sL : ByteArray} {x : In} (h : RiM w w' gr v t gf gx sN sL x) (j : Nat) (n : Int) (y : In) (hy : ([.int .i64 x.op, .int .i64 x.a, .int .i64 x.b, .int .i64 x.c] : List Value).set j (.int .i64 n) = [.int .i64 y.op, .int .i64 y.a, .int .i64 y.b, .int .i64 y.c]) : RiM w (w'.setCell ⟨gx, j, none⟩ (.int .i64 n)) gr v t gf gx sN sL y := by
  have hk := h.ix.set j (.int .i64 n)
  rw [hy] at hk
  have hg := h.gg
  exact ⟨h.rd.other _ _ (blk_nt h.rd h.ix (by decide)), h.rs.other _ _ (by show w.heap.size ≠ gx; omega), h.fm.other _ _ (blk_nt h.fm h.ix (by decide)), hk, h.up.set ⟨gx, j, none⟩ _ (.inr (by show w.heap.size ≤ gx; omega)), hg⟩
theorem wrI4 {w : World} {g : Nat} {a b c d : Value} (h : Blk w g 28 [a, b, c, d]) (x y z u : Value) : Blk ((((w.setCell ⟨g, 0, none⟩ x).setCell ⟨g, 1, none⟩ y).setCell ⟨g, 2, none⟩ z).setCell ⟨g, 3, none⟩ u) g 28 [x, y, z, u] := by
  have := (((h.set 0 x).set 1 y).set 2 z).set 3 u
  simpa using this
theorem retI4 {fn : Func} {p : Tmp} (h : fn.results = #[.cell p 28]) {R : Ending → World → Prop} {tmps : Array Value} {g : Nat} {w : World} {x y z u : Value} (hp : tmps.getD p undef = .pointer (some ⟨g, 0, none⟩)) (hK : Blk w g 28 [x, y, z, u]) (hR : R (.returned (.agg #[x, y, z, u])) w) :
    bodyPost Tryd.prog fn R Exit.ret ⟨tmps, []⟩ w :=
  bodyPost_ret (results_cell_row h _ _ _ _ #[x, y, z, u] _ _ hp (show w.heap[g]? = some (.cells #[x, y, z, u] 28 (0, 0)) from hK) Tryd.underlying28 rfl (by show _ = some 4; kernel_rfl)) rfl hR
theorem ri_ret {w w' : World} {gr : Nat} {v : Value} {t : Rs} {gf gx : Nat} {sN sL : ByteArray} {x : In} {l : List Int} {s : Rs} {enc : Bool} {tmps : Array Value} {p : Tmp} (hfn : Tryd.f38.results = #[.cell p 28]) (hp : tmps.getD p undef = .pointer (some ⟨w.heap.size, 0, none⟩)) (h : RiM w w' gr v t gf gx sN sL x) (h1 : Sim t (rdI l enc s).2) (h2 : (rdI l enc s).2.e = 0 → x = (rdI l enc s).1) :
    bodyPost Tryd.prog Tryd.f38 (RiTo gr v l s enc w) Exit.ret ⟨tmps, []⟩ ((((w'.setCell ⟨w.heap.size, 0, none⟩ (.int .i64 x.op)).setCell ⟨w.heap.size, 1, none⟩ (.int .i64 x.a)).setCell ⟨w.heap.size, 2, none⟩ (.int .i64 x.b)).setCell ⟨w.heap.size, 3, none⟩ (.int .i64 x.c)) := by
  refine retI4 hfn hp (wrI4 h.rs _ _ _ _) ?_
  have hr := blk_nt h.rd h.rs (by decide)
  have k1 := (((h.rd.other ⟨w.heap.size, 0, none⟩ (.int .i64 x.op) hr).other ⟨w.heap.size, 1, none⟩ (.int .i64 x.a) hr).other ⟨w.heap.size, 2, none⟩ (.int .i64 x.b) hr).other ⟨w.heap.size, 3, none⟩ (.int .i64 x.c) hr
  have u1 := h.up.set ⟨w.heap.size, 0, none⟩ (.int .i64 x.op) (.inr (Nat.le_refl _))
  have u2 := u1.set ⟨w.heap.size, 1, none⟩ (.int .i64 x.a) (.inr (Nat.le_refl _))
  have u3 := u2.set ⟨w.heap.size, 2, none⟩ (.int .i64 x.b) (.inr (Nat.le_refl _))
  have u4 := u3.set ⟨w.heap.size, 3, none⟩ (.int .i64 x.c) (.inr (Nat.le_refl _))
  exact ⟨t, x, rfl, hide_ h1, hide_ h2, hide_ k1, hide_ u4⟩
set_option maxRecDepth 100000 in
set_option maxHeartbeats 8000000 in
theorem rinstr_any (gr : Nat) (av : Option Addr) (cv : Nat) (l : List Int) (t s : Rs) (enc : Bool) (w : World) (hst : Hid (Sim t s)) (hs : s.at_ ≤ l.length) (hlc : l.length ≤ cv) (hcv : cv ≤ 9223372036854775000) (hnil : av = none → cv = 0) (hby : Hid (Bys l)) (hrow : Hid (Row .u8 w av l)) (hne : Hid (∀ x, av = some x → 0 < l.length → ¬ x.block = gr)) (h : Hid (Blk w gr 74 (rrc (.slice av l.length cv) t))) :
    Calls Tryd.prog 38 #[.pointer (some ⟨gr, 0, none⟩), .bool enc] w (RiTo gr (.slice av l.length cv) l s enc w) := by
  obtain ⟨w1, hw1⟩ : ∃ wx, wx = w.alloc (.cells #[.int .i64 0, .int .i64 0, .int .i64 0, .int .i64 0] 28) := ⟨_, rfl⟩
  have hB1 : Below w.heap.size w w1 := by rw [hw1]; exact below1 _ _
  have k0 : Blk w1 w.heap.size 28 [.int .i64 0, .int .i64 0, .int .i64 0, .int .i64 0] := by rw [hw1]; exact Blk.newA w _ _
  have KR1 := hide_ (h.out.later hB1)
  have K01 := hide_ k0
  have HNm := hide_ (rnumber_any gr av cv l t s 18446744073709551615 140 w1 hst (by decide) hs hlc hcv hnil hby (hide_ (hrow.out.later hB1)) KR1)
  have HU1 : Hid (Upd (fun k => k = gr) w w1) := hide_ (Upd.of_below hB1)
  have c1 := KR1.out.cell 1
  simp [rrc] at c1
  have HTA : Hid (s.e = 0 → t.at_ = s.at_) := hide_ (fun h => by rw [hst.out.ok h])
  have HTN : Hid ((rdV l s 140 (mayM 18446744073709551615)).2.e = 0 → s.e = 0) := hide_ (fun hq => by
    by_cases he : s.e = 0
    · exact he
    · unfold rdV at hq; rw [if_neg he] at hq; exact absurd hq he)
  have hgr : gr < w.heap.size := h.out.lt
  clear hB1 k0
  go_enter Tryd.func38, Tryd.ntmps38
  go_upto_region 1 with fail
  rw [← hw1]
  clear hw1
  go_wp2_with fail
  refine HNm.out.mono ?_
  rintro e w2 ⟨t1, rfl, HS1, KR2, hU2⟩
  have HU2 := hide_ (HU1.out.to hU2.out)
  have K02 := hide_ (K01.out.upd hU2.out (blk_nt K01.out KR1.out (by decide)))
  have hcs := op_cases l s enc hby.out t1 HS1.out
  have hat1 := rdV_at l s 140 (mayM 18446744073709551615) hs
  generalize hO : rdV l s 140 (mayM 18446744073709551615) = O at *
  obtain ⟨n0, s1⟩ := O
  simp only at hcs HS1 HTN hat1
  generalize wrap64 n0 = op at *
  have HOf := hide_ (of_any op enc w2)
  clear c1 hU2 HNm K01 KR1 HU1 hO
  go_wp2_with fail
  refine HOf.out.mono ?_
  rintro e w3 ⟨rfl, hB3⟩
  obtain ⟨w4, hw4⟩ : ∃ wx, wx = w3.alloc (.cells #[.string (ofN op enc), .string (ofL op enc)] 68) := ⟨_, rfl⟩
  have hB4 : Below w3.heap.size w3 w4 := by rw [hw4]; exact below1 _ _
  have KF4 : Hid (Blk w4 w3.heap.size 68 [.string (ofN op enc), .string (ofL op enc)]) := hide_ (by rw [hw4]; exact Blk.newA w3 _ _)
  have KR4 := hide_ (KR2.out.later (below_to hB3 hB4))
  have K04 := hide_ (K02.out.later (below_to hB3 hB4))
  have HU4 := hide_ (HU2.out.then (below_to hB3 hB4))
  obtain ⟨sN, hsN⟩ : ∃ x, ofN op enc = x := ⟨_, rfl⟩
  obtain ⟨sL, hsL⟩ : ∃ x, ofL op enc = x := ⟨_, rfl⟩
  rw [hsN, hsL] at KF4 hw4
  have HsL := hide_ hsL
  clear hB3 hB4 HOf KR2 K02 HU2
  rw [hsN, hsL]
  clear hsN hsL
  go_upto_region 4 with fail
  rw [← hw4]
  clear hw4
  generalize hgf : w3.heap.size = gf at *
  clear hgf
  have c1 := KR4.out.cell 1; have c2 := KR4.out.cell 2; have c3 := KR4.out.cell 3
  have fz := fun i => KR4.out.frozen i
  simp [rrc] at c1 c2 c3
  have HM4 : Hid (∀ gx (wx : World), w4.heap.size ≤ gx → Blk wx gx 28 [.int .i64 op, .int .i64 0, .int .i64 0, .int .i64 0] → Upd (fun k => k = gr) w4 wx → ∀ t', Blk wx gr 74 (rrc (.slice av l.length cv) t') → RiM w wx gr (.slice av l.length cv) t' gf gx sN sL ⟨op, 0, 0, 0⟩) := hide_ (fun gx wx hg hx hu t' ht => ⟨ht, K04.out.upd hu (blk_nt K04.out KR4.out (by decide)), KF4.out.upd hu (blk_nt KF4.out KR4.out (by decide)), hx, HU4.out.to hu, by have := K04.out.lt; omega⟩)
  rcases hcs with ⟨a1, a2, a3⟩ | ⟨a1, a2, a3, a4⟩ | ⟨a1, a2, a3⟩
  · skip
    have hte : t1.e ≠ 0 := by rw [HS1.out.e]; exact a1
    have hb1 : (t1.e == 0) = false := by simpa using hte
    have hb2 : (t1.e != 0) = true := by simpa using hte
    have HS2 : Hid (Sim t1 (rdI l enc s).2) := hide_ (by rw [a2]; exact HS1.out)
    have HN2 : Hid ((rdI l enc s).2.e = 0 → (⟨op, 0, 0, 0⟩ : In) = (rdI l enc s).1) := hide_ (fun hq => by rw [a2] at hq; exact absurd hq a1)
    obtain ⟨w5, hw5⟩ : ∃ wx, wx = w4.alloc (.cells #[.int .i64 op, .int .i64 0, .int .i64 0, .int .i64 0] 28) := ⟨_, rfl⟩
    have hB5 : Below w4.heap.size w4 w5 := by rw [hw5]; exact below1 _ _
    have HR5 := hide_ (HM4.out w4.heap.size w5 (Nat.le_refl _) (by rw [hw5]; exact Blk.newA w4 _ _) (Upd.of_below hB5) t1 (KR4.out.later hB5))
    have d2 := HR5.out.rd.cell 2
    have x0 := HR5.out.ix.cell 0; have x1 := HR5.out.ix.cell 1; have x2 := HR5.out.ix.cell 2; have x3 := HR5.out.ix.cell 3
    have z0 := HR5.out.rs.cell 0; have z1 := HR5.out.rs.cell 1; have z2 := HR5.out.rs.cell 2; have z3 := HR5.out.rs.cell 3
    have zf := fun i => HR5.out.rs.frozen i
    simp [rrc] at d2 x0 x1 x2 x3 z0 z1 z2 z3
    clear hte a1 a2 a3 hB5
    go_upto_region 8 with fail
    rw [← hw5]
    clear hw5 c1 c2 c3 fz
    go_upto_region 9 with fail
    go_wp2_with fail
    exact ri_ret (x := ⟨op, 0, 0, 0⟩) rfl rfl HR5.out HS2.out HN2.out
  · skip
    have hte : t1.e = 0 := by rw [HS1.out.e]; exact a1
    have hb1 : (t1.e == 0) = true := by simpa using hte
    have hat : t.at_ = s.at_ := HTA.out (HTN.out a1)
    have HS2 : Hid (Sim ⟨t1.at_, 140, (t.at_ : Int)⟩ (rdI l enc s).2) := hide_ ⟨a3.symm, fun hq => by rw [a3] at hq; exact absurd hq (by decide), fun _ => by rw [a4, hat]⟩
    have HN2 : Hid ((rdI l enc s).2.e = 0 → (⟨op, 0, 0, 0⟩ : In) = (rdI l enc s).1) := hide_ (fun hq => by rw [a3] at hq; exact absurd hq (by decide))
    obtain ⟨wa, hwa⟩ : ∃ wx, wx = w4.setCell ⟨gr, 2, none⟩ (.int .i64 140) := ⟨_, rfl⟩
    have KRa : Hid (Blk wa gr 74 [.slice av l.length cv, .int .i64 (t1.at_ : Int), .int .i64 140, .int .i64 t1.p]) := hide_ (by rw [hwa]; have := KR4.out.set 2 (.int .i64 140); simpa [rrc] using this)
    have hUa : Upd (fun k => k = gr) w4 wa := by rw [hwa]; exact (Upd.refl (fun k => k = gr) w4).set ⟨gr, 2, none⟩ (.int .i64 140) (.inl rfl)
    obtain ⟨wb, hwb⟩ : ∃ wx, wx = wa.setCell ⟨gr, 3, none⟩ (.int .i64 (t.at_ : Int)) := ⟨_, rfl⟩
    have KRb : Hid (Blk wb gr 74 (rrc (.slice av l.length cv) ⟨t1.at_, 140, (t.at_ : Int)⟩)) := hide_ (by rw [hwb]; have := KRa.out.set 3 (.int .i64 (t.at_ : Int)); simpa [rrc] using this)
    have hUb : Upd (fun k => k = gr) w4 wb := by rw [hwb]; exact hUa.set ⟨gr, 3, none⟩ (.int .i64 (t.at_ : Int)) (.inl rfl)
    obtain ⟨w5, hw5⟩ : ∃ wx, wx = wb.alloc (.cells #[.int .i64 op, .int .i64 0, .int .i64 0, .int .i64 0] 28) := ⟨_, rfl⟩
    have hB5 : Below wb.heap.size wb w5 := by rw [hw5]; exact below1 _ _
    have hsz := hUb.size
    have HR5 := hide_ (HM4.out wb.heap.size w5 hsz (by rw [hw5]; exact Blk.newA wb _ _) (hUb.then hB5) _ (KRb.out.later hB5))
    have e1 := KRa.out.cell 3
    have ef := fun i => KRa.out.frozen i
    have d2 := HR5.out.rd.cell 2
    have x0 := HR5.out.ix.cell 0; have x1 := HR5.out.ix.cell 1; have x2 := HR5.out.ix.cell 2; have x3 := HR5.out.ix.cell 3
    have z0 := HR5.out.rs.cell 0; have z1 := HR5.out.rs.cell 1; have z2 := HR5.out.rs.cell 2; have z3 := HR5.out.rs.cell 3
    have zf := fun i => HR5.out.rs.frozen i
    simp [rrc] at d2 e1 x0 x1 x2 x3 z0 z1 z2 z3
    rw [a2]
    clear hte a1 a2 a3 a4 hB5 hUa hUb hsz hat
    go_upto_region 6 with fail
    rw [← hwa]
    clear hwa c1 c2 c3 fz
    go_upto_region 7 with fail
    rw [← hwb]
    clear hwb e1 ef
    go_upto_region 8 with fail
    rw [← hw5]
    clear hw5
    go_upto_region 9 with fail
    go_wp2_with fail
    exact ri_ret (x := ⟨op, 0, 0, 0⟩) rfl rfl HR5.out HS2.out HN2.out
  · skip
    have hte : t1.e = 0 := by rw [HS1.out.e]; exact a1
    have hb1 : (t1.e == 0) = true := by simpa using hte
    have hb2 : (t1.e != 0) = false := by simpa using hte
    obtain ⟨l0, l1, l2, hl⟩ := three (ofI_kat a2 (j := 0) (by omega)).1
    have hsl : sL = ⟨#[l0, l1, l2]⟩ := by rw [← HsL.out]; unfold ofL; rw [if_pos a2, hl]
    obtain ⟨i0, i1, i2⟩ := ltr_iff a2 hl
    subst hsl
    have HRd := hide_ (rdI_ok a3)
    obtain rfl := HS1.out.ok a1
    have ix0 := ix_s0 l0 l1 l2
    have ix1 := ix_s1 l0 l1 l2
    have ix2 := ix_s2 l0 l1 l2
    obtain ⟨w5, hw5⟩ : ∃ wx, wx = w4.alloc (.cells #[.int .i64 op, .int .i64 0, .int .i64 0, .int .i64 0] 28) := ⟨_, rfl⟩
    have hB5 : Below w4.heap.size w4 w5 := by rw [hw5]; exact below1 _ _
    have HR5 := hide_ (HM4.out w4.heap.size w5 (Nat.le_refl _) (by rw [hw5]; exact Blk.newA w4 _ _) (Upd.of_below hB5) t1 (KR4.out.later hB5))
    have d2 := HR5.out.rd.cell 2
    simp [rrc] at d2
    generalize hgx : w4.heap.size = gx at *
    rw [a2]
    clear hte a1 a2 a3 hB5 hl
    go_upto_region 8 with fail
    rw [← hw5]
    clear hw5 c1 c2 c3 fz hgx
    go_upto_region 10 with fail
    clear d2
    have f1 := HR5.out.fm.cell 1
    simp at f1
    have Hat0 : Hid (t1.at_ ≤ l.length) := hide_ hat1
    go_upto_if 49 with fail
    go_cut [49] from 50 to 53 (fun c wc => ∃ (u0 : Rs) (wf : World), wf = wc ∧ Hid (Sim u0 (rd1 l (kin op).1 t1).2) ∧ Hid (RiM w wf gr (.slice av l.length cv) u0 gf gx sN ⟨#[l0, l1, l2]⟩ (⟨op, (rd1 l (kin op).1 t1).1, 0, 0⟩ : In)))
    case first =>
      by_cases hk : (kin op).1 = 0
      · have hlt : l0 = 32 := i0.2 hk
        have hln : (((l0.toNat : Nat) : Int) != 32) = false := by rw [hlt]; rfl
        have HV : Hid ((rd1 l (kin op).1 t1) = (0, t1)) := hide_ (by unfold rd1; rw [if_pos hk])
        clear hk
        go_wp2_with fail
        go_meet
        case rel => exact ⟨t1, _, rfl, by rw [HV.out]; exact hide_ (Sim.refl t1), by rw [HV.out]; exact HR5⟩
      · have hlt : ¬ l0 = 32 := fun h => hk (i0.1 h)
        have hln : (((l0.toNat : Nat) : Int) != 32) = true := by
          rw [bne_iff_ne]
          intro h
          apply hlt
          have : l0.toNat = 32 := by omega
          exact UInt8.toNat_inj.1 this
        have HV : Hid ((rd1 l (kin op).1 t1) = ((rdV l t1 3 (mayM 2147483648)).1 - 1, (rdV l t1 3 (mayM 2147483648)).2)) := hide_ (by unfold rd1; rw [if_neg hk]; rfl)
        have hval := rdN_val l t1 hby.out
        have HNm := hide_ (rnumber_any gr av cv l t1 t1 2147483648 3 w5 (hide_ (Sim.refl t1)) (by decide) Hat0.out hlc hcv hnil hby (hide_ (Row.updE hrow.out HR5.out.up hne.out)) (hide_ HR5.out.rd))
        clear hk hlt
        go_wp2_with fail
        refine HNm.out.mono ?_
        rintro e wn ⟨tn, rfl, HSn, KRn, hUn⟩
        rw [hval.1]
        have HMn := hide_ (HR5.out.read KRn.out hUn.out)
        have y0 := HMn.out.ix.cell 1
        have yf := fun i => HMn.out.ix.frozen i
        simp at y0
        have HMo := hide_ (HMn.out.put 1 ((rdV l t1 3 (mayM 2147483648)).1 - 1) (⟨op, ((rdV l t1 3 (mayM 2147483648)).1 - 1), 0, 0⟩ : In) rfl)
        generalize (rdV l t1 3 (mayM 2147483648)).1 = vv at *
        clear HNm
        go_wp2_with fail
        go_meet
        case rel => exact ⟨tn, _, rfl, by rw [HV.out]; exact HSn, by rw [HV.out]; exact HMo⟩
    case rest =>
    obtain ⟨u0, wz0, rfl, HSm0, HMz0⟩ := hcut
    clear f1
    go_upto_region 12 with fail
    have f1 := HMz0.out.fm.cell 1
    simp at f1
    have Hat1 : Hid ((rd1 l (kin op).1 t1).2.at_ ≤ l.length) := hide_ (rd1_at l _ _ Hat0.out)
    go_upto_if 57 with fail
    go_cut [57] from 58 to 61 (fun c wc => ∃ (u1 : Rs) (wf : World), wf = wc ∧ Hid (Sim u1 (rd1 l (kin op).2.1 (rd1 l (kin op).1 t1).2).2) ∧ Hid (RiM w wf gr (.slice av l.length cv) u1 gf gx sN ⟨#[l0, l1, l2]⟩ (⟨op, (rd1 l (kin op).1 t1).1, (rd1 l (kin op).2.1 (rd1 l (kin op).1 t1).2).1, 0⟩ : In)))
    case first =>
      by_cases hk : (kin op).2.1 = 0
      · have hlt : l1 = 32 := i1.2 hk
        have hln : (((l1.toNat : Nat) : Int) != 32) = false := by rw [hlt]; rfl
        have HV : Hid ((rd1 l (kin op).2.1 (rd1 l (kin op).1 t1).2) = (0, (rd1 l (kin op).1 t1).2)) := hide_ (by unfold rd1; rw [if_pos hk])
        clear hk
        go_wp2_with fail
        go_meet
        case rel => exact ⟨u0, _, rfl, by rw [HV.out]; exact HSm0, by rw [HV.out]; exact HMz0⟩
      · have hlt : ¬ l1 = 32 := fun h => hk (i1.1 h)
        have hln : (((l1.toNat : Nat) : Int) != 32) = true := by
          rw [bne_iff_ne]
          intro h
          apply hlt
          have : l1.toNat = 32 := by omega
          exact UInt8.toNat_inj.1 this
        have HV : Hid ((rd1 l (kin op).2.1 (rd1 l (kin op).1 t1).2) = ((rdV l (rd1 l (kin op).1 t1).2 3 (mayM 2147483648)).1 - 1, (rdV l (rd1 l (kin op).1 t1).2 3 (mayM 2147483648)).2)) := hide_ (by unfold rd1; rw [if_neg hk]; rfl)
        have hval := rdN_val l (rd1 l (kin op).1 t1).2 hby.out
        have HNm := hide_ (rnumber_any gr av cv l u0 (rd1 l (kin op).1 t1).2 2147483648 3 wz0 (HSm0) (by decide) Hat1.out hlc hcv hnil hby (hide_ (Row.updE hrow.out HMz0.out.up hne.out)) (hide_ HMz0.out.rd))
        clear hk hlt
        go_wp2_with fail
        refine HNm.out.mono ?_
        rintro e wn ⟨tn, rfl, HSn, KRn, hUn⟩
        rw [hval.1]
        have HMn := hide_ (HMz0.out.read KRn.out hUn.out)
        have y0 := HMn.out.ix.cell 2
        have yf := fun i => HMn.out.ix.frozen i
        simp at y0
        have HMo := hide_ (HMn.out.put 2 ((rdV l (rd1 l (kin op).1 t1).2 3 (mayM 2147483648)).1 - 1) (⟨op, (rd1 l (kin op).1 t1).1, ((rdV l (rd1 l (kin op).1 t1).2 3 (mayM 2147483648)).1 - 1), 0⟩ : In) rfl)
        generalize (rdV l (rd1 l (kin op).1 t1).2 3 (mayM 2147483648)).1 = vv at *
        clear HNm
        go_wp2_with fail
        go_meet
        case rel => exact ⟨tn, _, rfl, by rw [HV.out]; exact HSn, by rw [HV.out]; exact HMo⟩
    case rest =>
    obtain ⟨u1, wz1, rfl, HSm1, HMz1⟩ := hcut
    clear f1
    go_upto_region 14 with fail
    have f1 := HMz1.out.fm.cell 1
    simp at f1
    have Hat2 : Hid ((rd1 l (kin op).2.1 (rd1 l (kin op).1 t1).2).2.at_ ≤ l.length) := hide_ (rd1_at l _ _ Hat1.out)
    go_upto_if 65 with fail
    go_cut [65] from 66 to 69 (fun c wc => ∃ (u2 : Rs) (wf : World), wf = wc ∧ Hid (Sim u2 (rd1 l (kin op).2.2 (rd1 l (kin op).2.1 (rd1 l (kin op).1 t1).2).2).2) ∧ Hid (RiM w wf gr (.slice av l.length cv) u2 gf gx sN ⟨#[l0, l1, l2]⟩ (⟨op, (rd1 l (kin op).1 t1).1, (rd1 l (kin op).2.1 (rd1 l (kin op).1 t1).2).1, (rd1 l (kin op).2.2 (rd1 l (kin op).2.1 (rd1 l (kin op).1 t1).2).2).1⟩ : In)))
    case first =>
      by_cases hk : (kin op).2.2 = 0
      · have hlt : l2 = 32 := i2.2 hk
        have hln : (((l2.toNat : Nat) : Int) != 32) = false := by rw [hlt]; rfl
        have HV : Hid ((rd1 l (kin op).2.2 (rd1 l (kin op).2.1 (rd1 l (kin op).1 t1).2).2) = (0, (rd1 l (kin op).2.1 (rd1 l (kin op).1 t1).2).2)) := hide_ (by unfold rd1; rw [if_pos hk])
        clear hk
        go_wp2_with fail
        go_meet
        case rel => exact ⟨u1, _, rfl, by rw [HV.out]; exact HSm1, by rw [HV.out]; exact HMz1⟩
      · have hlt : ¬ l2 = 32 := fun h => hk (i2.1 h)
        have hln : (((l2.toNat : Nat) : Int) != 32) = true := by
          rw [bne_iff_ne]
          intro h
          apply hlt
          have : l2.toNat = 32 := by omega
          exact UInt8.toNat_inj.1 this
        have HV : Hid ((rd1 l (kin op).2.2 (rd1 l (kin op).2.1 (rd1 l (kin op).1 t1).2).2) = ((rdV l (rd1 l (kin op).2.1 (rd1 l (kin op).1 t1).2).2 3 (mayM 2147483648)).1 - 1, (rdV l (rd1 l (kin op).2.1 (rd1 l (kin op).1 t1).2).2 3 (mayM 2147483648)).2)) := hide_ (by unfold rd1; rw [if_neg hk]; rfl)
        have hval := rdN_val l (rd1 l (kin op).2.1 (rd1 l (kin op).1 t1).2).2 hby.out
        have HNm := hide_ (rnumber_any gr av cv l u1 (rd1 l (kin op).2.1 (rd1 l (kin op).1 t1).2).2 2147483648 3 wz1 (HSm1) (by decide) Hat2.out hlc hcv hnil hby (hide_ (Row.updE hrow.out HMz1.out.up hne.out)) (hide_ HMz1.out.rd))
        clear hk hlt
        go_wp2_with fail
        refine HNm.out.mono ?_
        rintro e wn ⟨tn, rfl, HSn, KRn, hUn⟩
        rw [hval.1]
        have HMn := hide_ (HMz1.out.read KRn.out hUn.out)
        have y0 := HMn.out.ix.cell 3
        have yf := fun i => HMn.out.ix.frozen i
        simp at y0
        have HMo := hide_ (HMn.out.put 3 ((rdV l (rd1 l (kin op).2.1 (rd1 l (kin op).1 t1).2).2 3 (mayM 2147483648)).1 - 1) (⟨op, (rd1 l (kin op).1 t1).1, (rd1 l (kin op).2.1 (rd1 l (kin op).1 t1).2).1, ((rdV l (rd1 l (kin op).2.1 (rd1 l (kin op).1 t1).2).2 3 (mayM 2147483648)).1 - 1)⟩ : In) rfl)
        generalize (rdV l (rd1 l (kin op).2.1 (rd1 l (kin op).1 t1).2).2 3 (mayM 2147483648)).1 = vv at *
        clear HNm
        go_wp2_with fail
        go_meet
        case rel => exact ⟨tn, _, rfl, by rw [HV.out]; exact HSn, by rw [HV.out]; exact HMo⟩
    case rest =>
    obtain ⟨u2, wz2, rfl, HSm2, HMz2⟩ := hcut
    clear f1
    go_upto_region 16 with fail
    have x0 := HMz2.out.ix.cell 0; have x1 := HMz2.out.ix.cell 1; have x2 := HMz2.out.ix.cell 2; have x3 := HMz2.out.ix.cell 3
    have z0 := HMz2.out.rs.cell 0; have z1 := HMz2.out.rs.cell 1; have z2 := HMz2.out.rs.cell 2; have z3 := HMz2.out.rs.cell 3
    have zf := fun i => HMz2.out.rs.frozen i
    simp at x0 x1 x2 x3 z0 z1 z2 z3
    have HS2 : Hid (Sim u2 (rdI l enc s).2) := hide_ (by rw [HRd.out]; exact HSm2.out)
    have HN2 : Hid ((rdI l enc s).2.e = 0 → (⟨op, (rd1 l (kin op).1 t1).1, (rd1 l (kin op).2.1 (rd1 l (kin op).1 t1).2).1, (rd1 l (kin op).2.2 (rd1 l (kin op).2.1 (rd1 l (kin op).1 t1).2).2).1⟩ : In) = (rdI l enc s).1) := hide_ (fun _ => by rw [HRd.out])
    go_wp2_with fail
    exact ri_ret (x := ⟨op, (rd1 l (kin op).1 t1).1, (rd1 l (kin op).2.1 (rd1 l (kin op).1 t1).2).1, (rd1 l (kin op).2.2 (rd1 l (kin op).2.1 (rd1 l (kin op).1 t1).2).2).1⟩) rfl rfl HMz2.out HS2.out HN2.out
end Go.Proofs.YtjojbfendkodgaaDoor
